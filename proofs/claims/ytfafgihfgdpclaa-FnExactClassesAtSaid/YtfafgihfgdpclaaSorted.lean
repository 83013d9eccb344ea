/- The library's sort at the program's classes, and ClassesOf itself. Condition: lengths up to 1048576; L: that the library's sort lies in this program under the numbers of the library's proofs. -/
import Derived.Test.YtfafgihfgdpclaaHelp
import Derived.IntWalk
import Derived.Test.YtfafgihfgdpclaaSpecClasses
import Derived.Test.YtfafgihfgdpclaaCollect
import Derived.Shelf.SlSortCmp.Whole1
import Derived.Sort.OwnSorted
namespace Go.Proofs.Ytfafgihfgdpclaa
open Go.RowKit

set_option maxHeartbeats 800000 in
theorem byFirst_any (g1 n1 c1 g2 n2 c2 : Nat) (x y : Nat) (w : World) (h1 : w.cell? ⟨g1, 0, none⟩ = some (.int .i64 (x : Int))) (h2 : w.cell? ⟨g2, 0, none⟩ = some (.int .i64 (y : Int))) (l1 : 0 < n1) (l2 : 0 < n2) (hx : x ≤ 16) (hy : y ≤ 16) :
    Calls Try.prog 116 #[.slice (some ⟨g1, 0, none⟩) n1 c1, .slice (some ⟨g2, 0, none⟩) n2 c2] w fun e w' => e = .returned (.int .i64 ((x : Int) - (y : Int))) ∧ ∃ q, w' = w.drewN q := by
  have k1 : IntKind.i64.wrap ((x : Int) - (y : Int)) = (x : Int) - (y : Int) := IntWalk.i64_in _ (by omega)
  have k2 : (0 : Int) < (n1 : Int) := by omega
  have k3 : (0 : Int) < (n2 : Int) := by omega
  go_enter Try.func116, Try.ntmps116
  go_wp2
  go_quiet (fail)
  go_wp2
  go_ret
  exact ⟨by simp, _, rfl⟩
end Go.Proofs.Ytfafgihfgdpclaa

namespace Go.Proofs.Ytfafgihfgdpclaa

/-- Two rising lists with the same members are one. -/
theorem rising_ext : ∀ {xs ys : List Nat}, xs.Pairwise (· < ·) → ys.Pairwise (· < ·) → (∀ a, a ∈ xs ↔ a ∈ ys) → xs = ys
  | [], [], _, _, _ => rfl
  | [], y :: ys, _, _, h => by have := (h y).2 (by simp); simp at this
  | x :: xs, [], _, _, h => by have := (h x).1 (by simp); simp at this
  | x :: xs, y :: ys, hx, hy, h => by
    rw [List.pairwise_cons] at hx hy
    have e : x = y := by
      have h1 := (h x).1 (by simp)
      have h2 := (h y).2 (by simp)
      rcases List.mem_cons.1 h1 with h1 | h1
      · exact h1
      · rcases List.mem_cons.1 h2 with h2 | h2
        · exact h2.symm
        · have := hy.1 x h1
          have := hx.1 y h2
          omega
    subst e
    congr 1
    refine rising_ext hx.2 hy.2 fun a => ⟨fun ha => ?_, fun ha => ?_⟩
    · have h1 := (h a).1 (List.mem_cons_of_mem _ ha)
      rcases List.mem_cons.1 h1 with h1 | h1
      · have := hx.1 a ha; omega
      · exact h1
    · have h1 := (h a).2 (List.mem_cons_of_mem _ ha)
      rcases List.mem_cons.1 h1 with h1 | h1
      · have := hy.1 a ha; omega
      · exact h1

/-- The first item of a root's class. -/
def firstOf (up : List Int) (r : Int) : Nat := ((cls up r up.length)[0]?.getD 0).toNat
theorem first_mem {up : List Int} {r : Int} (h : cls up r up.length ≠ []) : firstOf up r < up.length ∧ (rootI up (firstOf up r) : Int) = r ∧ (cls up r up.length)[0]?.getD 0 = (firstOf up r : Int) := by
  have hl : 0 < (cls up r up.length).length := List.length_pos_iff.2 h
  have hm := List.getElem_mem (l := cls up r up.length) (n := 0) hl
  have he : (cls up r up.length)[0]?.getD 0 = (cls up r up.length)[0] := by simp [hl]
  unfold cls at hm
  obtain ⟨i, hi, e⟩ := List.mem_map.1 hm
  have h2 := List.mem_filter.1 hi
  have h3 : (cls up r up.length)[0] = (i : Int) := e.symm
  have hf : firstOf up r = i := by unfold firstOf; rw [he, h3]; simp
  rw [hf, he, h3]
  exact ⟨by simpa using h2.1, by simpa using h2.2, rfl⟩
theorem mem_heads {up : List Int} {i : Nat} : i ∈ heads up up.length ↔ i < up.length ∧ (cls up (rootI up i : Int) up.length)[0]?.getD 0 = (i : Int) := by
  unfold heads
  rw [List.mem_filter]
  simp
theorem heads_rising (up : List Int) (k : Nat) : (heads up k).Pairwise (· < ·) := by
  unfold heads
  exact List.Pairwise.filter _ List.pairwise_lt_range

/-- The classes of all roots, in the order of their first items, are what ClassesOf answers. -/
theorem rows_sorted {up : List Int} {rs : List Int} (hm : ∀ r, r ∈ rs ↔ cls up r up.length ≠ []) (hs : (rs.map (firstOf up)).Pairwise (· < ·)) : rs.map (fun r => cls up r up.length) = rowsTo up up.length := by
  have hf : rs.map (firstOf up) = heads up up.length := rising_ext hs (heads_rising _ _) fun a => by
    rw [mem_heads]
    constructor
    · intro ha
      obtain ⟨r, hr, rfl⟩ := List.mem_map.1 ha
      obtain ⟨h1, h2, h3⟩ := first_mem ((hm r).1 hr)
      exact ⟨h1, by rw [h2]; exact h3⟩
    · rintro ⟨h1, h2⟩
      refine List.mem_map.2 ⟨(rootI up a : Int), (hm _).2 (fun e => ?_), ?_⟩
      · have := cls_self (up := up) h1
        rw [e] at this
        simp at this
      · unfold firstOf
        rw [h2]
        simp
  unfold rowsTo
  rw [← hf, List.map_map]
  refine List.map_congr_left fun r hr => ?_
  show cls up r up.length = cls up (rootI up (firstOf up r) : Int) up.length
  rw [(first_mem ((hm r).1 hr)).2.1]
end Go.Proofs.Ytfafgihfgdpclaa

namespace Go.Proofs.Ytfafgihfgdpclaa
open Go.RowKit Go.Maps Go.Shelf Go.Lib

/-! ### The sort's worlds, at any one-cell elements -/
theorem grown_sort {α : Type} [Inhabited α] (enc : α → Value) (w : World) (blk off m : Nat) (dk : Array α) (os : Array Obj) : w.grownBy (sortWorld enc w blk off m dk os) (some blk) := by
  refine ⟨rfl, rfl, rfl, by simp [sortWorld], fun k hk hne => ?_⟩
  unfold sortWorld
  rw [Sort.heap_grow_old _ _ (by simpa using hk)]
  have : blk ≠ k := fun e => hne (by rw [e])
  simp [Sort.putRow, Sort.mapBlock, Sort.ahead, Array.getElem?_modify, this]
theorem heap_sort {α : Type} [Inhabited α] (enc : α → Value) {w : World} {g m : Nat} {cur : Array Value} {e : TypeId} {d : Array α} {os : Array Obj} (hb : w.heap[g]? = some (.cells cur e (0, 0))) :
    (sortWorld enc w g 0 m d os).heap[g]? = some (.cells (Sort.putCells enc 0 d cur) e (0, 0)) := by
  unfold sortWorld
  rw [Sort.heap_grow_old _ _ (by simpa using (Array.getElem?_eq_some_iff.1 hb).1)]
  simp [Sort.putRow, Sort.mapBlock, Sort.ahead, Sort.onCells, Array.getElem?_modify, hb]
theorem take_cells {α : Type} [Inhabited α] (enc : α → Value) (cur : Array Value) (d : Array α) (h : d.size ≤ cur.size) : (Sort.putCells enc 0 d cur).toList.take d.size = d.toList.map enc := by
  apply List.ext_getElem?
  intro k
  by_cases hk : k < d.size
  · rw [List.getElem?_take_of_lt hk]
    simp [Sort.putCells, hk, show k < cur.size by omega]
  · rw [List.getElem?_eq_none (by simp; omega), List.getElem?_eq_none (by simp; omega)]
theorem row_sort {α : Type} [Inhabited α] (enc : α → Value) {w : World} {base g cap m n : Nat} {e : TypeId} {os : Array Obj} {cur : Array Value} {d : Array α} (hd : d.size = n) (hbase : base ≤ g) (hb : w.heap[g]? = some (.cells cur e (0, 0)))
    (h1 : n ≤ cap) (h2 : cap ≤ maxLen) (h3 : cur.size = cap * 1) : (sortWorld enc w g 0 m d os).ownsRow base e 1 (.slice (some ⟨g, 0, none⟩) n cap) n (d.toList.map enc) :=
  ⟨by simp [hd], .inr ⟨g, cap, _, rfl, hbase, heap_sort enc hb, h1, h2, by simp [Sort.putCells, h3], by rw [Nat.mul_one, ← hd]; exact take_cells enc cur d (by omega)⟩⟩
theorem holds_block {α : Type} [Inhabited α] (enc : α → Value) {w : World} {g : Nat} {cur : Array Value} {e : TypeId} {ss : List α} (hb : w.heap[g]? = some (.cells cur e (0, 0))) (ht : cur.toList.take ss.length = ss.map enc) : Sort.Holds enc w g 0 ss.toArray := by
  intro j hj
  have hj' : j < ss.length := by simpa using hj
  refine ⟨?_, by simp [World.frozen?, hb]⟩
  have h1 : (cur.toList.take ss.length)[j]? = (ss.map enc)[j]? := by rw [ht]
  rw [List.getElem?_take_of_lt hj'] at h1
  simp only [World.cell?, hb, Nat.zero_add]
  simp only [Option.isSome_none, Bool.false_eq_true, if_false]
  rw [← Array.getElem?_toList, h1]
  simp [hj']

/-! ### The classes as the sort's elements: the root, the block, the length, the room -/
def candV (x : Int × Nat × Nat × Nat) : Value := .slice (some ⟨x.2.1, 0, none⟩) x.2.2.1 x.2.2.2
def CandOk (w : World) (base row : Nat) (up : List Int) (x : Int × Nat × Nat × Nat) : Prop :=
  cls up x.1 up.length ≠ [] ∧ Own w base (candV x) (cls up x.1 up.length) ∧ x.2.1 ≠ row
theorem CandOk.kept {w w' : World} {base row : Nat} {up : List Int} {x : Int × Nat × Nat × Nat} (h : CandOk w base row up x) (hg : w.grownBy w' (some row)) : Own w' base (candV x) (cls up x.1 up.length) :=
  h.2.1.kept hg (.inr (by simp [candV, Value.ownBlock, h.2.2]))
theorem CandOk.first {w : World} {base row : Nat} {up : List Int} {x : Int × Nat × Nat × Nat} (h : CandOk w base row up x) {w' : World} (ho : Own w' base (candV x) (cls up x.1 up.length)) : w'.cell? ⟨x.2.1, 0, none⟩ = some (.int .i64 (firstOf up x.1 : Int)) ∧ 0 < x.2.2.1 := by
  have hl := ho.len
  have hp : 0 < (cls up x.1 up.length).length := List.length_pos_iff.2 h.1
  have := ho.slot (k := 0) (by omega)
  rw [(first_mem h.1).2.2] at this
  exact ⟨this, by omega⟩
theorem first_inj {up : List Int} {r s : Int} (hr : cls up r up.length ≠ []) (hs : cls up s up.length ≠ []) (h : firstOf up r = firstOf up s) : r = s := by
  rw [← (first_mem hr).2.1, ← (first_mem hs).2.1, h]
theorem cand_apart {w : World} {base row : Nat} {up : List Int} {x y : Int × Nat × Nat × Nat} (hx : CandOk w base row up x) (hy : CandOk w base row up y) (h : x.1 ≠ y.1) : x.2.1 ≠ y.2.1 := fun e => by
  have h1 := (hx.first hx.2.1).1
  have h2 := (hy.first hy.2.1).1
  rw [e, h2] at h1
  injection h1 with h1
  injection h1 with _ h1
  exact h (first_inj hx.1 hy.1 (by omega))

/-- The order that the program asks. -/
def cmpI {α : Type} (f : α → Nat) (x y : α) : Int := (f x : Int) - (f y : Int)
theorem swo_cmp {α : Type} (f : α → Nat) : Sort.SWO (ltOf (cmpI f)) := by
  have e : ∀ x y, ltOf (cmpI f) x y = decide (f x < f y) := fun x y => by
    unfold ltOf cmpI
    rw [decide_eq_decide]
    omega
  refine ⟨fun x => ?_, fun x y z h1 h2 => ?_, fun x y z h1 h2 => ?_⟩
  · rw [e]; simp
  · rw [e] at *; simp at *; omega
  · rw [e] at *; simp at *; omega

set_option maxHeartbeats 1000000 in
theorem sortRows_any {ρ : Ren} (L : SlLaysF.n6 Try.prog ρ) (base g cap : Nat) (up : List Int) (h16 : up.length ≤ 16) (xs : List (Int × Nat × Nat × Nat)) (w : World) (hb0 : base ≤ g) (hrow : w.ownsRow base 23 1 (.slice (some ⟨g, 0, none⟩) xs.length cap) xs.length (xs.map candV))
    (hok : ∀ x ∈ xs, CandOk w base g up x) (hnd : (xs.map (·.1)).Nodup) (hall : ∀ r, r ∈ xs.map (·.1) ↔ cls up r up.length ≠ []) (hne : xs ≠ []) (hlen : xs.length ≤ 1048576) :
    Calls Try.prog (ρ.f 6) #[.slice (some ⟨g, 0, none⟩) xs.length cap, .func (.func 116) #[] #[]] w fun e w' => e = .returned (.tuple #[]) ∧ (∃ vs, OwnRows w' base (.slice (some ⟨g, 0, none⟩) xs.length cap) vs (rowsTo up up.length)) ∧ w.grownBy w' (some g) := by
  obtain ⟨x0, t0, rfl⟩ := List.exists_cons_of_ne_nil hne
  generalize hxs : x0 :: t0 = xs at *
  letI : Inhabited {x : Int × Nat × Nat × Nat // CandOk w base g up x} := ⟨⟨x0, hok x0 (by rw [← hxs]; simp)⟩⟩
  obtain ⟨ys, hys⟩ : ∃ ys : List {x : Int × Nat × Nat × Nat // CandOk w base g up x}, ys.map Subtype.val = xs := ⟨xs.attach.map fun x => ⟨x.1, hok x.1 x.2⟩, by simp [List.map_map, Function.comp_def, List.attach_map_subtype_val]⟩
  have hyl : ys.length = xs.length := by rw [← hys, List.length_map]
  have hkeys : ys.map (fun y => y.1.1) = xs.map (·.1) := by rw [← hys, List.map_map]; rfl
  have hvals : ys.map (fun y => candV y.1) = xs.map candV := by rw [← hys, List.map_map]; rfl
  obtain ⟨cur, hheap, h1, h2, h3, h4⟩ : ∃ cur, w.heap[g]? = some (.cells cur 23 (0, 0)) ∧ xs.length ≤ cap ∧ cap ≤ maxLen ∧ cur.size = cap * 1 ∧ cur.toList.take (xs.length * 1) = xs.map candV := by
    rcases hrow.2 with ⟨hv, _⟩ | ⟨g', cap', cur, hv, _, h⟩
    · simp at hv
    · simp only [Value.slice.injEq, Option.some.injEq, Addr.mk.injEq, and_true, true_and] at hv
      obtain ⟨rfl, rfl⟩ := hv
      exact ⟨cur, h⟩
  have hH : Sort.Holds (fun y : {x : Int × Nat × Nat × Nat // CandOk w base g up x} => candV y.1) w g 0 ys.toArray := holds_block _ hheap (by rw [hyl, hvals, ← h4, Nat.mul_one])
  have hf : ∀ y : {x : Int × Nat × Nat × Nat // CandOk w base g up x}, firstOf up y.1.1 ≤ 16 := fun y => by have := (first_mem y.2.1).1; omega
  have hsize : ys.toArray.size = xs.length := by simp [hyl]
  have hcon := Any.slices_SortFunc L (fun y : {x : Int × Nat × Nat × Nat // CandOk w base g up x} => candV y.1) (fun _ => rfl) (cmpI fun y => firstOf up y.1.1) (swo_cmp _) 116 #[] g 0 cap ys.toArray w
    (enters_of Try.func116 (by kernel_rfl) rfl)
    (CmpReads.lays fun m os dk _ x y => by
      have gr := grown_sort (fun y : {x : Int × Nat × Nat × Nat // CandOk w base g up x} => candV y.1) w g 0 m dk os
      have fx := x.2.first (x.2.kept gr)
      have fy := y.2.first (y.2.kept gr)
      exact byFirst_any _ _ _ _ _ _ _ _ _ fx.1 fy.1 fx.2 fy.2 (hf x) (hf y)) hH (Array.getElem?_eq_some_iff.1 hheap).1 (by omega)
  rw [hsize] at hcon
  refine hcon.mono ?_
  rintro e w' ⟨rfl, d, n, os, ⟨hd1, _, hd3⟩, hs, rfl⟩
  have gr := grown_sort (fun y : {x : Int × Nat × Nat × Nat // CandOk w base g up x} => candV y.1) w g 0 n d os
  refine ⟨rfl, ⟨d.toList.map fun y => candV y.1, ?_⟩, gr⟩
  have hds : d.size = xs.length := by rw [hd1, hsize]
  have hperm : d.toList.Perm ys := by
    have e1 : d.extract 0 xs.length = d := by rw [← hds]; simp
    have e2 : ys.toArray.extract 0 xs.length = ys.toArray := by rw [← hsize]; simp
    rw [e1, e2] at hd3
    simpa using hd3
  have hkp : (d.toList.map fun y => y.1.1).Perm (xs.map (·.1)) := by rw [← hkeys]; exact hperm.map _
  have hkn : (d.toList.map fun y => y.1.1).Nodup := hkp.nodup_iff.2 hnd
  have hpw : d.toList.Pairwise fun x y => x.1.1 ≠ y.1.1 := List.pairwise_map.1 hkn
  have hsorted : d.toList.Pairwise fun x y => firstOf up x.1.1 ≤ firstOf up y.1.1 := by
    rw [List.pairwise_iff_getElem]
    intro i j hi hj hij
    have hi' : i < d.size := by simpa using hi
    have hj' : j < d.size := by simpa using hj
    have := hs i j (Nat.zero_le _) hij (by omega)
    rw [getElem!_pos d i hi', getElem!_pos d j hj'] at this
    unfold ltOf cmpI at this
    have h6 : ¬ ((firstOf up d[j].1.1 : Int) - (firstOf up d[i].1.1 : Int) < 0) := of_decide_eq_false this
    simp only [Array.getElem_toList]
    omega
  have hrows : (d.toList.map fun y => y.1.1).map (fun r => cls up r up.length) = rowsTo up up.length := by
    refine rows_sorted (fun r => by rw [hkp.mem_iff]; exact hall r) ?_
    rw [List.map_map, List.pairwise_map]
    refine (hsorted.and hpw).imp ?_
    rintro ⟨a, ha⟩ ⟨b, hb⟩ ⟨h1, h2⟩
    have h3 : firstOf up a.1 ≠ firstOf up b.1 := fun e => h2 (first_inj ha.1 hb.1 e)
    show firstOf up a.1 < firstOf up b.1
    have h1' : firstOf up a.1 ≤ firstOf up b.1 := h1
    omega
  have hl2 : (d.toList.map fun y => candV y.1).length = xs.length := by simp [hds]
  refine ⟨?_, ?_, ?_, ?_, ?_⟩
  · rw [hl2]
    exact row_sort _ hds hb0 hheap h1 h2 h3
  · rw [← hrows]; simp
  · intro i c hc
    rw [← hrows, List.map_map, List.getElem?_map]
    rw [List.getElem?_map] at hc
    cases hy : d.toList[i]? with
    | none => rw [hy] at hc; cases hc
    | some y =>
      rw [hy] at hc
      simp only [Option.map_some, Option.some.injEq] at hc
      subst hc
      exact y.2.kept gr
  · intro c hc
    obtain ⟨y, _, rfl⟩ := List.mem_map.1 hc
    exact .inr (by have := y.2.2.2; simpa [candV, Value.ownBlock] using this)
  · rw [List.pairwise_map]
    refine hpw.imp ?_
    intro x y hxy
    exact .inr (by have := cand_apart x.2 y.2 hxy; simpa [candV, Value.ownBlock] using this)
end Go.Proofs.Ytfafgihfgdpclaa
