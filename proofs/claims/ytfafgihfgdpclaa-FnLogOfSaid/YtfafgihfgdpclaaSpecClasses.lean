/- The model's ClassesOf. Condition: lengths up to 1048576. -/
import Derived.Test.YtfafgihfgdpclaaSpec2
import Derived.Test.YtfafgihfgdpclaaClass
import Derived.Test.YtfafgihfgdpclaaRdR
namespace Go.Proofs.Ytfafgihfgdpclaa
open Go.RowKit

theorem spec_class_kept : True := trivial

set_option maxRecDepth 100000 in
set_option maxHeartbeats 2000000 in
theorem l1Class_any (A : Option Addr) (n c B0 j : Nat) (zs : List Int) (w : World) (h : Rd w B0 A n zs) (hB0 : B0 ≤ w.heap.size) (hv : fvB zs = true) (hj : j < n) :
    Calls Try.prog 149 #[.slice A n c, .int .i64 (j : Int)] w fun e w' => ∃ v, e = .returned v ∧ Own w' w.heap.size v (cls zs (rootI zs j : Int) n) ∧ Below w.heap.size w w' := by
  have L1 : zs.length ≤ n := by have := h.1; omega
  have L3 : n ≤ zs.length := by have := h.1; omega
  have h16 := (fv_parts hv).2.1
  have hn16 : n ≤ 16 := by omega
  have R := Lib.hid (fun (i : Nat) (hi : i < n) (w1 : World) (hb1 : Below w.heap.size w w1) => l1Root_any A n c B0 i zs w1 (h.below hb1 hB0) hv hi)
  obtain ⟨r, hr⟩ : ∃ r, r = rootI zs j := ⟨_, rfl⟩
  have RJ := Lib.hid (fun (w1 : World) (hb1 : Below w.heap.size w w1) => l1Root_any A n c B0 j zs w1 (h.below hb1 hB0) hv hj)
  rw [← hr]
  rw [← hr] at RJ
  have H0 : Hid (∃ ys, ys = cls zs (r : Int) 0 ∧ Own (w.alloc (.cells #[] 3)) w.heap.size (.slice (some ⟨w.heap.size, 0, none⟩) 0 0) ys) := ⟨[], by simp [cls], Own.lit w _ [] (Nat.le_refl _) (by simp)⟩
  clear hv h16 hr h
  go_enter Try.func149, Try.ntmps149
  go_wp2_with fail
  go_loopw [5, 10] (fun v i wr => ∃ k : Nat, k ≤ n ∧ i = .int .i64 k ∧ Hid (∃ ys, ys = cls zs (r : Int) k ∧ Own wr w.heap.size v ys) ∧ Below w.heap.size w wr) (fun _ i _ => n - (intOf i).toNat)
  case atStart => exact ⟨0, Nat.zero_le _, rfl, H0, (Below.refl _ _).alloc (Nat.le_refl _) _⟩
  case round =>
    obtain ⟨k, hk, rfl, HO, hbe⟩ := hrel
    clear H0
    by_cases hlt : k < n
    · have RK := Lib.hid (R.out k hlt wr hbe)
      have RJ2 := Lib.hid (RJ.out wr hbe)
      by_cases he : rootI zs k = r
      · have hc : cls zs (r : Int) (k + 1) = cls zs (r : Int) k ++ [(k : Int)] := cls_yes (by omega)
        have heb : ((rootI zs k : Int) == (r : Int)) = true := by simp; omega
        have HC := Lib.hid hc
        obtain ⟨ys, hys, ho⟩ := HO.out
        have hyl : ys.length ≤ 1048576 := by rw [hys]; have := cls_len zs (r : Int) k; omega
        have HY := Lib.hid hys
        have hsz := hbe.size
        clear hc hys HO he
        generalize (rootI zs k : Int) = q at RK heb
        go_wp2_with fail
        refine RK.out.mono ?_
        rintro e w2 ⟨rfl, rfl⟩
        go_wp2_with fail
        refine RJ2.out.mono ?_
        rintro e w3 ⟨rfl, rfl⟩
        go_wp2_with (at_builtin; go_must (refine wpList_push rfl (.tmp 20) (.tmp 22) rfl wr w.heap.size _ ys _ rfl rfl ho hyl hsz ?_); intro v' w' ho' hg' _)
        have hbe' : Below w.heap.size w w' := hbe.grown hg' hsz (fun r e => (ho.blockOf r e).1)
        have HO2 : Hid (∃ ys, ys = cls zs (r : Int) (k + 1) ∧ Own w' w.heap.size v' ys) := ⟨_, by rw [HC.out, HY.out], ho'⟩
        clear ho' hg' ho
        go_wp2
        go_roundw
        case rel => exact ⟨k + 1, by omega, by go_num, HO2, hbe'⟩
        case measure => simp [intOf]; omega
      · have hc : cls zs (r : Int) (k + 1) = cls zs (r : Int) k := cls_no (by omega)
        have heb : ((rootI zs k : Int) == (r : Int)) = false := by simp; omega
        rw [← hc] at HO
        clear hc he
        generalize (rootI zs k : Int) = q at RK heb
        go_wp2_with fail
        refine RK.out.mono ?_
        rintro e w2 ⟨rfl, rfl⟩
        go_wp2_with fail
        refine RJ2.out.mono ?_
        rintro e w3 ⟨rfl, rfl⟩
        go_wp2_with fail
        go_roundw
        case rel => exact ⟨k + 1, by omega, by go_num, HO, hbe⟩
        case measure => simp [intOf]; omega
    · obtain rfl : k = n := by omega
      go_wp2
      go_ret
      obtain ⟨ys, hys, ho⟩ := HO.out
      subst hys
      exact ⟨_, rfl, ho, hbe⟩

end Go.Proofs.Ytfafgihfgdpclaa
namespace Go.Proofs.Ytfafgihfgdpclaa
open Go.RowKit
/-- The items below k that are the first of their class. -/
def heads (up : List Int) (k : Nat) : List Nat := (List.range k).filter fun i => (cls up (rootI up i : Int) up.length)[0]?.getD 0 == (i : Int)
theorem heads_yes {up : List Int} {k : Nat} (h : (cls up (rootI up k : Int) up.length)[0]?.getD 0 = (k : Int)) : heads up (k + 1) = heads up k ++ [k] := by
  simp only [heads, List.range_succ, List.filter_append, List.filter_cons, List.filter_nil]
  rw [h]
  simp
theorem heads_no {up : List Int} {k : Nat} (h : (cls up (rootI up k : Int) up.length)[0]?.getD 0 ≠ (k : Int)) : heads up (k + 1) = heads up k := by
  simp only [heads, List.range_succ, List.filter_append, List.filter_cons, List.filter_nil]
  rw [if_neg (by simpa using h)]
  simp
theorem heads_len (up : List Int) (k : Nat) : (heads up k).length ≤ k := by
  unfold heads
  exact Nat.le_trans (List.length_filter_le _ _) (by simp)
/-- The classes told up to k. -/
def rowsTo (up : List Int) (k : Nat) : List (List Int) := (heads up k).map fun i => cls up (rootI up i : Int) up.length
theorem rowsTo_len (up : List Int) (k : Nat) : (rowsTo up k).length ≤ k := by
  unfold rowsTo
  rw [List.length_map]
  exact heads_len up k
theorem rowsTo_yes {up : List Int} {k : Nat} (h : (cls up (rootI up k : Int) up.length)[0]?.getD 0 = (k : Int)) : rowsTo up (k + 1) = rowsTo up k ++ [cls up (rootI up k : Int) up.length] := by
  unfold rowsTo
  rw [heads_yes h, List.map_append]
  rfl
theorem rowsTo_no {up : List Int} {k : Nat} (h : (cls up (rootI up k : Int) up.length)[0]?.getD 0 ≠ (k : Int)) : rowsTo up (k + 1) = rowsTo up k := by
  unfold rowsTo
  rw [heads_no h]
/-- What ClassesOf answers. -/
def rowsN (up : List Int) : List (List Int) := if fvB up = true then rowsTo up up.length else []
theorem rowsN_no {up : List Int} (h : fvB up = false) : rowsN up = [] := by unfold rowsN; rw [h]; simp
theorem rowsN_yes {up : List Int} (h : fvB up = true) : rowsN up = rowsTo up up.length := by unfold rowsN; rw [if_pos h]
theorem cls_self {up : List Int} {i : Nat} (hi : i < up.length) : 1 ≤ (cls up (rootI up i : Int) up.length).length := by
  have : (i : Int) ∈ cls up (rootI up i : Int) up.length := by
    unfold cls
    exact List.mem_map.2 ⟨i, List.mem_filter.2 ⟨by simpa using hi, by simp⟩, rfl⟩
  have := List.length_pos_of_mem this
  omega

theorem Try.info_ints : (Try.prog.info? 23).map (fun i => (i.zero, i.size, i.bytes)) = some (some (.slice none 0 0), 1, 24) := by kernel_rfl

end Go.Proofs.Ytfafgihfgdpclaa