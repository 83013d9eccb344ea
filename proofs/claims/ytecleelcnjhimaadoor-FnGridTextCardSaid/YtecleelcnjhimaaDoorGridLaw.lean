/- Grids and their texts, there and back: a grid's text cut is the grid, a cut text joined is the text, a grid turned twice is the grid. No program, no condition. -/
import Derived.Test.YtecleelcnjhimaaDoorCutG
import Derived.Test.YtecleelcnjhimaaDoorGridF
import Derived.Test.YtecleelcnjhimaaDoorTurn
namespace Go.Proofs.YtecleelcnjhimaaDoor
open Go.RowKit Go.Shelf

theorem inter_two (a b : List UInt8) (l : List (List UInt8)) : [(47 : UInt8)].intercalate (a :: b :: l) = a ++ 47 :: [(47 : UInt8)].intercalate (b :: l) := by
  simp [List.intercalate, List.intersperse]
theorem inter_one (a : List UInt8) : [(47 : UInt8)].intercalate [a] = a := by simp [List.intercalate]
theorem full_inter : ∀ (l : List (List UInt8)), l ≠ [] → (∀ a ∈ l, (47 : UInt8) ∉ a) → fullL ([(47 : UInt8)].intercalate l) = l
  | [], h, _ => absurd rfl h
  | [a], _, h => by rw [inter_one, full_none (h a (by simp))]
  | a :: b :: l, _, h => by
    rw [inter_two, full_step (h a (by simp)), full_inter (b :: l) (by simp) (fun x hx => h x (List.mem_cons_of_mem _ hx))]
theorem inter_full : ∀ (k : Nat) (l : List UInt8), l.count 47 = k → [(47 : UInt8)].intercalate (fullL l) = l
  | 0, l, h => by rw [full_none (List.count_eq_zero.1 h), inter_one]
  | k + 1, l, h => by
    have hm : (47 : UInt8) ∈ l := List.count_pos_iff.1 (by omega)
    obtain ⟨a, b, rfl, ha⟩ := List.eq_append_cons_of_mem hm
    rw [count_step ha] at h
    have ih := inter_full k b (by omega)
    rw [full_step ha]
    cases hf : fullL b with
    | nil => have := full_len b; rw [hf] at this; simp at this
    | cons c cs => rw [inter_two, ← hf, ih]
theorem data_map (l : List (List UInt8)) : (l.map baT).map (·.data.toList) = l := by
  rw [List.map_map]
  exact List.map_id'' (fun x => by simp [baT]) l
theorem map_data (l : List ByteArray) : (l.map (·.data.toList)).map baT = l := by
  rw [List.map_map]
  exact List.map_id'' baT_data l
theorem cell_no47 {l : List UInt8} (h : l.all cellB = true) : (47 : UInt8) ∉ l := fun hm => by
  have := List.all_eq_true.1 h 47 hm
  revert this
  decide
/-- The text of a grid, cut, is the grid. -/
theorem cut_fmt {xs : List ByteArray} (h : gvB xs = true) : cutT (fmtN xs) = xs := by
  obtain ⟨⟨h1, _⟩, _, hr⟩ := gv_parts h
  unfold cutT
  rw [fmtN_yes h, fmtTo_list _ (Nat.le_refl _), List.take_length, full_inter _ (by intro e; have := congrArg List.length e; rw [List.length_map, List.length_nil] at this; omega) (fun a ha => by
    obtain ⟨x, hx, rfl⟩ := List.mem_map.1 ha
    exact cell_no47 (hr x hx).2), map_data]
/-- A text that is a grid's, is the text of the grid that it is cut into. -/
theorem fmt_cut {s : ByteArray} (h : gvB (cutT s) = true) : fmtN (cutT s) = s := by
  rw [fmtN_yes h, ← baT_data (fmtTo _ _), fmtTo_list _ (Nat.le_refl _), List.take_length]
  unfold cutT
  rw [data_map, inter_full _ _ rfl, baT_data]

theorem take_one {l : List UInt8} {j : Nat} (h : j < l.length) : (l.drop j).take 1 = [l[j]?.getD 0] := by
  rw [List.drop_eq_getElem_cons h, List.take_succ_cons, List.take_zero, List.getElem?_eq_getElem h, Option.getD_some]
theorem colN_data {xs : List ByteArray} {j : Nat} (h : ∀ x ∈ xs, j < x.size) : ∀ k, k ≤ xs.length → (colN xs j k).data.toList = (xs.take k).map fun x => x.data.toList[j]?.getD 0
  | 0, _ => rfl
  | k + 1, hk => by
    have ih := colN_data h k (by omega)
    have hx := h xs[k] (List.getElem_mem (by omega))
    rw [colN, ByteArray.data_append, Array.toList_append, ih, List.take_succ_eq_append_getElem (by omega), List.map_append, List.map_cons, List.map_nil, List.getElem?_eq_getElem (by omega : k < xs.length), Option.getD_some, Lib.extract_data, show j + 1 - j = 1 by omega, take_one (by rw [dlen]; exact hx)]
theorem turn_rows {xs : List ByteArray} (h : gvB xs = true) : ∀ x ∈ xs, x.size = wideN xs := fun x hx => ((gv_parts h).2.2 x hx).1
theorem col_all {xs : List ByteArray} (h : gvB xs = true) {j : Nat} (hj : j < wideN xs) : (colN xs j xs.length).data.toList = xs.map fun x => x.data.toList[j]?.getD 0 := by
  have := colN_data (xs := xs) (j := j) (fun x hx => by rw [turn_rows h x hx]; exact hj) xs.length (Nat.le_refl _)
  rwa [List.take_length] at this
theorem col_size {xs : List ByteArray} (h : gvB xs = true) {j : Nat} (hj : j < wideN xs) : (colN xs j xs.length).size = xs.length := by
  rw [← dlen, col_all h hj, List.length_map]
theorem turn_wide {xs : List ByteArray} (h : gvB xs = true) : wideN (turnL xs xs.length) = xs.length := by
  have hw : 0 < wideN xs := (gv_parts h).2.1.1
  show ((turnL xs xs.length)[0]?.getD ByteArray.empty).size = _
  rw [turnL_get _ _ hw, col_size h hw]
/-- A grid turned is a grid. -/
theorem turn_gv {xs : List ByteArray} (h : gvB xs = true) : gvB (turnN xs) = true := by
  obtain ⟨h1, h2, h3⟩ := gv_parts h
  have hw : 0 < wideN xs := h2.1
  have e0 : ((turnL xs xs.length)[0]?.getD ByteArray.empty).size = xs.length := turn_wide h
  rw [turnN_yes h]
  refine gv_of (by rw [turnL_len]; exact h2) (by rw [e0]; exact h1) fun k hk => ?_
  rw [turnL_len] at hk
  rw [e0, turnL_get _ _ hk]
  unfold rowB
  rw [decide_eq_true (col_size h hk), col_all h hk, Bool.true_and]
  refine List.all_eq_true.2 fun b hb => ?_
  obtain ⟨x, hx, rfl⟩ := List.mem_map.1 hb
  have hl : k < x.data.toList.length := by rw [dlen, turn_rows h x hx]; exact hk
  rw [List.getElem?_eq_getElem hl, Option.getD_some]
  exact List.all_eq_true.1 (h3 x hx).2 _ (List.getElem_mem hl)
/-- A grid turned twice is the grid. -/
theorem turn_turn {xs : List ByteArray} (h : gvB xs = true) : turnN (turnN xs) = xs := by
  have hg := turn_gv h
  have hw := turn_wide h
  rw [turnN_yes hg]
  rw [turnN_yes h] at hg ⊢
  have hl := turnL_len xs xs.length
  refine List.ext_getElem (by rw [turnL_len, hw]) fun i h1 h2 => ?_
  have hi : i < wideN (turnL xs xs.length) := by rw [hw]; exact h2
  have e := turnL_get (turnL xs xs.length) (turnL xs xs.length).length hi
  rw [List.getElem?_eq_getElem h1, Option.getD_some] at e
  rw [e, ← baT_data (colN _ _ _), col_all hg hi, ← baT_data xs[i]]
  congr 1
  have hx : (xs[i]).data.toList.length = wideN xs := by rw [dlen, turn_rows h _ (List.getElem_mem h2)]
  refine List.ext_getElem (by rw [List.length_map, hl, hx]) fun j g1 g2 => ?_
  rw [List.length_map, hl] at g1
  rw [List.getElem_map]
  have ej := turnL_get xs xs.length g1
  rw [List.getElem?_eq_getElem (by rw [hl]; exact g1), Option.getD_some] at ej
  rw [ej, col_all h g1, List.getElem?_map, List.getElem?_eq_getElem h2, Option.map_some, Option.getD_some, List.getElem?_eq_getElem g2, Option.getD_some]
end Go.Proofs.YtecleelcnjhimaaDoor
