/- The model's RootOf, Together, DeepestOf. Condition: lengths up to 1048576. -/
import Derived.Test.YtmkdiifjecnokaaGreatForest
import Derived.Test.YtmkdiifjecnokaaGreatHelp
import Derived.Deep.LoopGhost
namespace Go.Proofs.YtmkdiifjecnokaaGreat
open Go.RowKit

set_option maxRecDepth 100000 in
set_option maxHeartbeats 1000000 in
theorem l1Way_any (A : Option Addr) (n c B0 i : Nat) (zs : List Int) (w : World) (h : Rd w B0 A n zs) (hB0 : B0 ≤ w.heap.size) (hb : n ≤ 1048576) (hIn : InB zs) (hi : i < n) :
    Calls Tryz.prog 78 #[.slice A n c, .int .i64 (i : Int)] w fun e w' => ∃ v, e = .returned v ∧ Own w' w.heap.size v (ints (way zs n i)) ∧ Below w.heap.size w w' := by
  have l1 := h.1
  have L1 : zs.length ≤ n := by omega
  have L3 : n ≤ zs.length := by omega
  clear l1
  have H0 : Own (w.alloc (.cells #[.int .i64 (i : Int)] 3)) w.heap.size (.slice (some ⟨w.heap.size, 0, none⟩) 1 1) (ints ([] ++ [i])) := Own.lit w _ [(i : Int)] (Nat.le_refl _) (by simp)
  have H0 := Lib.hid H0
  go_enter Tryz.func78, Tryz.ntmps78
  go_wp2_with fail
  go_loopw [1, 5] (fun q v wr => ∃ (pre : List Nat) (x L : Nat) (A' : Option Addr) (c' : Nat), q = .int .i64 (x : Int) ∧ v = .slice A' L c' ∧ L = pre.length + 1 ∧ L ≤ n + 1 ∧ Path zs (some i) pre (some x) ∧ Own wr w.heap.size (.slice A' L c') (ints (pre ++ [x])) ∧ Below w.heap.size w wr)
    (fun _ v _ => n + 1 - lenOf v)
  case atStart => exact ⟨[], i, 1, _, _, rfl, rfl, rfl, by omega, rfl, H0.out, (Below.refl _ _).alloc (Nat.le_refl _) _⟩
  case round =>
    obtain ⟨pre, x, L, A', c', rfl, rfl, hL, hLn, hp, ho, hbe⟩ := hrel
    clear H0
    have hx : x < n := by have := path_lt hIn (fun j hj => by cases hj; omega) hp; omega
    obtain ⟨b, off, rfl, _, hc1⟩ := (h.below hbe hB0).2 (by omega)
    have g1 := hc1 x hx
    clear hc1
    have hsn := path_snoc hp
    cases hst : step zs x with
    | none =>
      rw [step_none hst] at g1
      rw [hst] at hsn
      have hw : way zs n i = pre ++ [x] := way_done hsn (by simp; omega)
      rw [← hw] at ho
      have hne : ((x : Int) != (x : Int)) = false := by simp
      clear hw hsn hp hst hL
      go_wp2
      go_ret
      exact ⟨_, rfl, ho, hbe⟩
    | some y =>
      obtain ⟨hz, hyx, hy⟩ := step_some hIn (by omega) hst
      rw [hz] at g1
      rw [hst] at hsn
      have hne : ((y : Int) != (x : Int)) = true := by simp; omega
      clear hz
      by_cases hlen : L ≤ n
      · have hol : (ints (pre ++ [x])).length = L := by rw [ints_len]; simp; omega
        have hl' : (ints (pre ++ [x])).length ≤ 1048576 := by omega
        have hsz := hbe.size
        have HL := Lib.hid hL
        have HO := Lib.hid hol
        clear hL hol hp hst hyx
        go_wp2_with (at_builtin; go_must (refine wpList_push rfl (.tmp 25) (.tmp 27) rfl wr w.heap.size _ (ints (pre ++ [x])) y rfl rfl ho hl' hsz ?_); intro v' w' ho' hg' _; obtain ⟨A2, c2, rfl, _⟩ := ho'.form)
        have hbe' : Below w.heap.size w w' := hbe.grown hg' hsz (fun r e => (ho.blockOf r e).1)
        have hlL : (ints (pre ++ [x])).length + 1 = L + 1 := by rw [HO.out]
        have ho2 : Own w' w.heap.size (.slice A2 ((ints (pre ++ [x])).length + 1) c2) (ints (pre ++ [x] ++ [y])) := by
          rw [ints_snoc (pre ++ [x])]
          rwa [List.length_append] at ho'
        go_roundw
        case rel => exact ⟨pre ++ [x], y, _, _, _, rfl, rfl, by rw [ints_len], by rw [hlL]; omega, hsn, ho2, hbe'⟩
        case measure => rw [hlL]; simp [lenOf]; omega
      · have hw : way zs n i = pre ++ [x] := way_long hsn (by simp; omega)
        rw [← hw] at ho
        clear hw hsn hp hst hL hyx
        go_wp2
        go_ret
        exact ⟨_, rfl, ho, hbe⟩

theorem min16 (n : Nat) (h : n ≤ 16) : min (n : Int) 16 = (n : Int) := by omega

end Go.Proofs.YtmkdiifjecnokaaGreat
namespace Go.Proofs.YtmkdiifjecnokaaGreat
open Go.RowKit
set_option maxRecDepth 100000 in
set_option maxHeartbeats 1000000 in
theorem l1Root_any (A : Option Addr) (n c B0 i : Nat) (zs : List Int) (w : World) (h : Rd w B0 A n zs) (hv : fvB zs = true) (hi : i < n) :
    Calls Tryz.prog 21 #[.slice A n c, .int .i64 (i : Int)] w fun e w' => e = .returned (.int .i64 (rootI zs i : Int)) ∧ w = w' := by
  have l1 := h.1
  have L1 : zs.length ≤ n := by omega
  have L3 : n ≤ zs.length := by omega
  have hP := fv_path hv (i := i) (by omega)
  have hIn := fv_in hv
  have hroot : rootI zs i = lastOf i (way zs zs.length i) := rfl
  obtain ⟨W, hW⟩ : ∃ W, W = way zs zs.length i := ⟨_, rfl⟩
  rw [← hW] at hP hroot
  have HR := Lib.hid hroot
  clear hroot hW hv l1
  go_enter Tryz.func21, Tryz.ntmps21
  go_wp2
  go_loopg [1] (W.length) (fun m q wr => ∃ (pre : List Nat) (x : Nat), q = .int .i64 (x : Int) ∧ Path zs (some i) pre (some x) ∧ m + pre.length = W.length ∧ wr = w)
  case atStart => exact ⟨[], i, rfl, rfl, by simp, rfl⟩
  case round =>
    obtain ⟨pre, x, rfl, hp, hm, rfl⟩ := hrel
    have hx : x < n := by have := path_lt hIn (fun j hj => by cases hj; omega) hp; omega
    obtain ⟨b, off, rfl, _, hc1⟩ := h.2 (by omega)
    have g1 := hc1 x hx
    clear hc1
    have hsn := path_snoc hp
    cases hst : step zs x with
    | none =>
      rw [step_none hst] at g1
      rw [hst] at hsn
      have hw : lastOf i W = x := by rw [path_uniq hP hsn]; exact lastOf_snoc _ _ _
      have HW := Lib.hid hw
      have hne : ((x : Int) != (x : Int)) = false := by simp
      clear hw hsn hp hst hm
      go_wp2
      go_ret
      exact ⟨ret_int (by rw [HR.out, HW.out]), rfl⟩
    | some y =>
      obtain ⟨hz, hyx, hy⟩ := step_some hIn (by omega) hst
      rw [hz] at g1
      rw [hst] at hsn
      have hne : ((y : Int) != (x : Int)) = true := by simp; omega
      have hle := path_end hP hsn
      rw [List.length_append] at hle
      have hm1 : 1 ≤ gk := by simp at hle; omega
      have HM := Lib.hid hm
      clear hz hp hst hyx hle hm
      go_wp2
      go_roundg (gk - 1)
      case measure => omega
      case rel => exact ⟨pre ++ [x], y, rfl, hsn, by rw [List.length_append]; have := HM.out; simp; omega, rfl⟩

theorem togB_items {up : List Int} {a b : Nat} (ha : itemB up (a : Int) = true) (hb : itemB up (b : Int) = true) : togB up (a : Int) (b : Int) = ((rootI up a : Int) == (rootI up b : Int)) := by
  rw [togB_yes ha, rootN_yes ha, rootN_yes hb]
theorem togB_no2 {up : List Int} {a b : Int} (h : itemB up b = false) : togB up a b = false := by unfold togB; rw [h]; simp

end Go.Proofs.YtmkdiifjecnokaaGreat
namespace Go.Proofs.YtmkdiifjecnokaaGreat
open Go.RowKit
end Go.Proofs.YtmkdiifjecnokaaGreat