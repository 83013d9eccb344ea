/- The model's RootOf, Together, DeepestOf. Condition: lengths up to 1048576. -/
import Derived.Test.YtfdkkcigmjonfaaSpec
import Derived.Deep.LoopGhost
namespace Go.Proofs.Ytfdkkcigmjonfaa
open Go.RowKit

set_option maxRecDepth 100000 in
set_option maxHeartbeats 1000000 in
theorem l1Item_any (A : Option Addr) (n c B0 : Nat) (zs : List Int) (i : Int) (w : World) (h : Rd w B0 A n zs) (hB0 : B0 ≤ w.heap.size) (hb : n ≤ 1048576) :
    Calls Try.prog 104 #[.slice A n c, .int .i64 i] w fun e w' => e = .returned (.bool (itemB zs i)) ∧ Below w.heap.size w w' := by
  have l1 := h.1
  have hit : itemB zs i = (fvB zs && decide (0 ≤ i ∧ i ≤ (n : Int) - 1)) := by
    unfold itemB
    rw [l1]
    congr 1
    simp only [decide_eq_decide]
    omega
  have HI := Lib.hid hit
  have R := specValid_any A n c B0 zs w h hB0 hb
  clear hit l1
  cases hv : fvB zs with
  | false =>
    rw [hv] at R
    have R := Lib.hid R
    have HV := Lib.hid hv
    clear hv
    go_enter Try.func104, Try.ntmps104
    go_wp2_with fail
    refine R.out.mono ?_
    rintro e w1 ⟨rfl, hb1⟩
    go_wp2_with fail
    go_ret
    exact ⟨ret_bool (by rw [HI.out, HV.out]; rfl), hb1⟩
  | true =>
    rw [hv] at R
    have R := Lib.hid R
    have HV := Lib.hid hv
    clear hv
    go_enter Try.func104, Try.ntmps104
    go_wp2_with fail
    refine R.out.mono ?_
    rintro e w1 ⟨rfl, hb1⟩
    go_wp2_with fail
    refine (l1In_any _ _ _ _).mono ?_
    rintro e w2 ⟨rfl, rfl⟩
    go_wp2_with fail
    go_ret
    exact ⟨ret_bool (by rw [HI.out, HV.out]; simp), hb1⟩

set_option maxRecDepth 100000 in
set_option maxHeartbeats 1000000 in
theorem l1Root_any (A : Option Addr) (n c B0 i : Nat) (zs : List Int) (w : World) (h : Rd w B0 A n zs) (hv : fvB zs = true) (hi : i < n) :
    Calls Try.prog 106 #[.slice A n c, .int .i64 (i : Int)] w fun e w' => e = .returned (.int .i64 (rootI zs i : Int)) ∧ w = w' := by
  have l1 := h.1
  have L1 : zs.length ≤ n := by omega
  have L3 : n ≤ zs.length := by omega
  have hP := fv_path hv (i := i) (by omega)
  have hIn := fv_in hv
  have hroot : rootI zs i = lastOf i (way zs zs.length i) := rfl
  obtain ⟨W, hW⟩ : ∃ W, W = way zs zs.length i := ⟨_, rfl⟩
  rw [← hW] at hP hroot
  have HR := Lib.hid hroot
  clear hroot hW hv l1
  go_enter Try.func106, Try.ntmps106
  go_wp2
  go_loopg [1] (W.length) (fun m q wr => ∃ (pre : List Nat) (x : Nat), q = .int .i64 (x : Int) ∧ Path zs (some i) pre (some x) ∧ m + pre.length = W.length ∧ wr = w)
  case atStart => exact ⟨[], i, rfl, rfl, by simp, rfl⟩
  case round =>
    obtain ⟨pre, x, rfl, hp, hm, rfl⟩ := hrel
    have hx : x < n := by have := path_lt hIn (fun j hj => by cases hj; omega) hp; omega
    obtain ⟨b, off, rfl, _, hc1⟩ := h.2 (by omega)
    have g1 := hc1 x hx
    clear hc1
    have hsn := path_snoc hp
    cases hst : step zs x with
    | none =>
      rw [step_none hst] at g1
      rw [hst] at hsn
      have hw : lastOf i W = x := by rw [path_uniq hP hsn]; exact lastOf_snoc _ _ _
      have HW := Lib.hid hw
      have hne : ((x : Int) != (x : Int)) = false := by simp
      clear hw hsn hp hst hm
      go_wp2
      go_ret
      exact ⟨ret_int (by rw [HR.out, HW.out]), rfl⟩
    | some y =>
      obtain ⟨hz, hyx, hy⟩ := step_some hIn (by omega) hst
      rw [hz] at g1
      rw [hst] at hsn
      have hne : ((y : Int) != (x : Int)) = true := by simp; omega
      have hle := path_end hP hsn
      rw [List.length_append] at hle
      have hm1 : 1 ≤ gk := by simp at hle; omega
      have HM := Lib.hid hm
      clear hz hp hst hyx hle hm
      go_wp2
      go_roundg (gk - 1)
      case measure => omega
      case rel => exact ⟨pre ++ [x], y, rfl, hsn, by rw [List.length_append]; have := HM.out; simp; omega, rfl⟩

theorem togB_items {up : List Int} {a b : Nat} (ha : itemB up (a : Int) = true) (hb : itemB up (b : Int) = true) : togB up (a : Int) (b : Int) = ((rootI up a : Int) == (rootI up b : Int)) := by
  rw [togB_yes ha, rootN_yes ha, rootN_yes hb]
theorem togB_no2 {up : List Int} {a b : Int} (h : itemB up b = false) : togB up a b = false := by unfold togB; rw [h]; simp

end Go.Proofs.Ytfdkkcigmjonfaa