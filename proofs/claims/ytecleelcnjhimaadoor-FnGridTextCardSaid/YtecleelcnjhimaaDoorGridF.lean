/- FormatGrid, of the program and of the model. Condition: lengths up to 1048576. -/
import Derived.Test.YtecleelcnjhimaaDoorGridV
import Derived.Test.YtecleelcnjhimaaDoorJoinS
namespace Go.Proofs.YtecleelcnjhimaaDoor
open Go.RowKit Go.Shelf

/-- The rows' text, of the first k. -/
def fmtTo (xs : List ByteArray) : Nat → ByteArray
  | 0 => ⟨#[]⟩
  | k + 1 => (if 0 < k then fmtTo xs k ++ ⟨#[47]⟩ else fmtTo xs k) ++ xs[k]?.getD ByteArray.empty
def fmtN (xs : List ByteArray) : ByteArray := if gvB xs = true then fmtTo xs xs.length else ⟨#[]⟩
theorem fmtN_yes {xs : List ByteArray} (h : gvB xs = true) : fmtN xs = fmtTo xs xs.length := by unfold fmtN; rw [if_pos h]
theorem fmtN_no {xs : List ByteArray} (h : gvB xs = false) : fmtN xs = ⟨#[]⟩ := by unfold fmtN; rw [h]; simp
theorem fmtTo_list {xs : List ByteArray} : ∀ k, k ≤ xs.length → (fmtTo xs k).data.toList = [47].intercalate ((xs.take k).map (·.data.toList))
  | 0, _ => rfl
  | k + 1, hk => by
    have ih := fmtTo_list (xs := xs) k (by omega)
    rw [List.take_succ_eq_append_getElem (by omega), List.map_append, List.map_cons, List.map_nil, inter_snoc, fmtTo, ByteArray.data_append, Array.toList_append, List.getElem?_eq_getElem (by omega : k < xs.length), Option.getD_some]
    by_cases h0 : 0 < k
    · rw [if_pos h0, if_neg (fun e => by
        have := congrArg List.length e
        simp only [List.length_map, List.length_take, List.length_nil] at this
        omega), ByteArray.data_append, Array.toList_append, ih]
    · have : k = 0 := by omega
      subst this
      rfl
theorem fmtTo_size {xs : List ByteArray} (h : ∀ k, k < xs.length → (xs[k]?.getD ByteArray.empty).size ≤ 6) : ∀ k, k ≤ xs.length → (fmtTo xs k).size ≤ 7 * k
  | 0, _ => Nat.le_refl _
  | k + 1, hk => by
    have ih := fmtTo_size h k (by omega)
    have h1 := h k (by omega)
    rw [fmtTo, ByteArray.size_append]
    split
    · rw [ByteArray.size_append]
      have : (ByteArray.mk #[47]).size = 1 := rfl
      omega
    · omega

set_option maxRecDepth 100000 in
set_option maxHeartbeats 2000000 in
theorem implFormatGrid_any (A : Option Addr) (n c B : Nat) (xs : List ByteArray) (w : World) (h : RdT w B A n xs) (hB : B ≤ w.heap.size) (hcap : n ≤ c) (hb : n ≤ 1048576) (hx : ∀ x ∈ xs, x.size ≤ 1048576) :
    Calls Tryd.prog 10 #[.slice A n c] w fun e w' => e = .returned (.string (fmtN xs)) ∧ Below w.heap.size w w' := by
  have GV := Lib.hid (implGridValid_any A n c B xs w h hB hb hx)
  cases hg : gvB xs with
  | false =>
    rw [hg] at GV
    have GN := Lib.hid (fmtN_no hg)
    clear hg h hx
    go_enter Tryd.func10, Tryd.ntmps10
    go_wp2_with fail
    refine GV.out.mono ?_
    rintro e w1 ⟨rfl, hb1⟩
    go_wp2_with fail
    go_ret
    exact ⟨by rw [GN.out]; rfl, hb1⟩
  | true =>
    rw [hg] at GV
    obtain ⟨⟨hn1, hn6⟩, hwd, hrow⟩ := gv_parts hg
    have hl := h.1
    have hsz := fmtTo_size (xs := xs) (fun k hk => by
      have := (hrow (xs[k]?.getD ByteArray.empty) (by rw [List.getElem?_eq_getElem hk]; exact List.getElem_mem hk)).1
      omega) xs.length (Nat.le_refl _)
    have he := fmtTo_list (xs := xs) xs.length (Nat.le_refl _)
    rw [List.take_of_length_le (Nat.le_refl _)] at he
    have hj : Lib.join (xs.map (·.data.toList)) [47] = (fmtN xs).data.toList := by rw [fmtN_yes hg]; exact he.symm
    have hfs : (fmtN xs).size ≤ 1048576 := by rw [fmtN_yes hg]; omega
    have J := Lib.hid (fun (W : World) (hbe : Below w.heap.size w W) => joinS_any A n c B xs 47 W (h.below hbe hB) (Nat.le_trans hB hbe.size) hcap hb (by omega) (by rw [hj]; simpa using hfs))
    rw [hj] at J
    have e0 : (ByteArray.mk (fmtN xs).data.toList.toArray) = fmtN xs := by cases fmtN xs; simp
    rw [e0] at J
    generalize fmtN xs = r at J
    clear hg h hx hrow hj he e0 hsz hfs
    go_enter Tryd.func10, Tryd.ntmps10
    go_wp2_with fail
    refine GV.out.mono ?_
    rintro e w1 ⟨rfl, hb1⟩
    have J1 := Lib.hid (J.out w1 hb1)
    have H1 := Lib.hid hb1
    clear hb1 J GV
    go_wp2_with fail
    refine J1.out.mono ?_
    rintro e w2 ⟨rfl, hb2⟩
    have H2 := Lib.hid (Below.on H1.out hb2)
    clear hb2
    go_wp2_with fail
    go_ret
    exact ⟨rfl, H2.out⟩

set_option maxRecDepth 100000 in
set_option maxHeartbeats 2000000 in
theorem specFormatGrid_any (A : Option Addr) (n c B : Nat) (xs : List ByteArray) (w : World) (h : RdT w B A n xs) (hb : n ≤ 1048576) (hx : ∀ x ∈ xs, x.size ≤ 1048576) :
    Calls Tryd.prog 16 #[.slice A n c] w fun e w' => e = .returned (.string (fmtN xs)) ∧ w' = w := by
  have GV := Lib.hid (specGridValid_any A n c B xs w h hb hx)
  cases hg : gvB xs with
  | false =>
    rw [hg] at GV
    have GN := Lib.hid (fmtN_no hg)
    clear hg h hx
    go_enter Tryd.func16, Tryd.ntmps16
    go_wp2_with fail
    refine GV.out.mono ?_
    rintro e w1 ⟨rfl, rfl⟩
    go_wp2_with fail
    go_ret
    exact ⟨by rw [GN.out]; rfl, rfl⟩
  | true =>
    rw [hg] at GV
    obtain ⟨⟨hn1, hn6⟩, hwd, hrow⟩ := gv_parts hg
    have hl := h.1
    obtain ⟨b, off, rfl, hlb, hc⟩ := h.2 (by omega)
    have HSZ := Lib.hid (fmtTo_size (xs := xs) (fun k hk => by
      have := (hrow (xs[k]?.getD ByteArray.empty) (by rw [List.getElem?_eq_getElem hk]; exact List.getElem_mem hk)).1
      omega))
    have HROW := Lib.hid (fun k (hk : k < xs.length) => (show (xs[k]?.getD ByteArray.empty).size ≤ 6 by
      have := (hrow (xs[k]?.getD ByteArray.empty) (by rw [List.getElem?_eq_getElem hk]; exact List.getElem_mem hk)).1
      omega))
    have GN := Lib.hid (fmtN_yes hg)
    have HL := Lib.hid hl
    have HC := Lib.hid hc
    rw [hl] at hn1 hn6
    clear hg h hx hrow hl hwd hc
    go_enter Tryd.func16, Tryd.ntmps16
    go_wp2_with fail
    refine GV.out.mono ?_
    rintro e w1 ⟨rfl, rfl⟩
    clear GV
    go_wp2_with fail
    go_loop [3, 11] (fun v i => ∃ k : Nat, k ≤ n ∧ i = .int .i64 k ∧ v = .string (fmtTo xs k)) (fun _ i => n - (intOf i).toNat)
    case atStart => exact ⟨0, Nat.zero_le _, rfl, rfl⟩
    case round =>
      obtain ⟨k, hk, rfl, rfl⟩ := hrel
      by_cases hlt : k < n
      · have g1 := HC.out k hlt
        have hkx : k < xs.length := by have := HL.out; omega
        have hsz := HROW.out k hkx
        have hfs := HSZ.out k (by omega)
        have hst : fmtTo xs (k + 1) = (if 0 < k then fmtTo xs k ++ ⟨#[47]⟩ else fmtTo xs k) ++ xs[k]?.getD ByteArray.empty := rfl
        revert g1 hsz hst
        generalize xs[k]?.getD ByteArray.empty = s
        intro g1 hsz hst
        revert hfs hst
        generalize fmtTo xs k = f
        intro hfs hst
        have hk6 : k ≤ 6 := by omega
        have h47 : (ByteArray.mk #[47]).size = 1 := rfl
        clear hkx
        by_cases h0 : 0 < k
        · rw [if_pos h0] at hst
          have HST := Lib.hid hst
          have hs2 : (f ++ ByteArray.mk #[47]).size ≤ 100 := by rw [ByteArray.size_append, h47]; omega
          clear hst
          go_wp2_with fail
          go_round
          case rel => exact ⟨k + 1, by omega, by go_num, by rw [HST.out]⟩
          case measure => simp [intOf]; omega
        · rw [if_neg h0] at hst
          have HST := Lib.hid hst
          clear hst
          have hk0 : k = 0 := by omega
          subst hk0
          rw [Nat.add_zero] at g1
          go_wp2_with fail
          go_round
          case rel => exact ⟨0 + 1, by omega, by go_num, by rw [HST.out]⟩
          case measure => simp [intOf]; omega
      · obtain rfl : k = n := by omega
        have GE := Lib.hid (GN.out.trans (by rw [HL.out]))
        go_wp2_with fail
        go_ret
        exact ⟨by rw [GE.out]; rfl, rfl⟩
end Go.Proofs.YtecleelcnjhimaaDoor
