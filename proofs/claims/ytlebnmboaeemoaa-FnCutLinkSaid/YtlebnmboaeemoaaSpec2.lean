/- The model's RootOf, Together, DeepestOf. Condition: lengths up to 1048576. -/
import Derived.Test.YtlebnmboaeemoaaSpec
import Derived.Deep.LoopGhost
namespace Go.Proofs.Ytlebnmboaeemoaa
open Go.RowKit

set_option maxRecDepth 100000 in
set_option maxHeartbeats 1000000 in
theorem l1Item_any (A : Option Addr) (n c B0 : Nat) (zs : List Int) (i : Int) (w : World) (h : Rd w B0 A n zs) (hB0 : B0 ≤ w.heap.size) (hb : n ≤ 1048576) :
    Calls Try.prog 63 #[.slice A n c, .int .i64 i] w fun e w' => e = .returned (.bool (itemB zs i)) ∧ Below w.heap.size w w' := by
  have l1 := h.1
  have hit : itemB zs i = (fvB zs && decide (0 ≤ i ∧ i ≤ (n : Int) - 1)) := by
    unfold itemB
    rw [l1]
    congr 1
    simp only [decide_eq_decide]
    omega
  have HI := Lib.hid hit
  have R := specValid_any A n c B0 zs w h hB0 hb
  clear hit l1
  cases hv : fvB zs with
  | false =>
    rw [hv] at R
    have R := Lib.hid R
    have HV := Lib.hid hv
    clear hv
    go_enter Try.func63, Try.ntmps63
    go_wp2_with fail
    refine R.out.mono ?_
    rintro e w1 ⟨rfl, hb1⟩
    go_wp2_with fail
    go_ret
    exact ⟨ret_bool (by rw [HI.out, HV.out]; rfl), hb1⟩
  | true =>
    rw [hv] at R
    have R := Lib.hid R
    have HV := Lib.hid hv
    clear hv
    go_enter Try.func63, Try.ntmps63
    go_wp2_with fail
    refine R.out.mono ?_
    rintro e w1 ⟨rfl, hb1⟩
    go_wp2_with fail
    refine (l1In_any _ _ _ _).mono ?_
    rintro e w2 ⟨rfl, rfl⟩
    go_wp2_with fail
    go_ret
    exact ⟨ret_bool (by rw [HI.out, HV.out]; simp), hb1⟩

set_option maxRecDepth 100000 in
set_option maxHeartbeats 1000000 in
theorem l1Root_any (A : Option Addr) (n c B0 i : Nat) (zs : List Int) (w : World) (h : Rd w B0 A n zs) (hv : fvB zs = true) (hi : i < n) :
    Calls Try.prog 64 #[.slice A n c, .int .i64 (i : Int)] w fun e w' => e = .returned (.int .i64 (rootI zs i : Int)) ∧ w = w' := by
  have l1 := h.1
  have L1 : zs.length ≤ n := by omega
  have L3 : n ≤ zs.length := by omega
  have hP := fv_path hv (i := i) (by omega)
  have hIn := fv_in hv
  have hroot : rootI zs i = lastOf i (way zs zs.length i) := rfl
  obtain ⟨W, hW⟩ : ∃ W, W = way zs zs.length i := ⟨_, rfl⟩
  rw [← hW] at hP hroot
  have HR := Lib.hid hroot
  clear hroot hW hv l1
  go_enter Try.func64, Try.ntmps64
  go_wp2
  go_loopg [1] (W.length) (fun m q wr => ∃ (pre : List Nat) (x : Nat), q = .int .i64 (x : Int) ∧ Path zs (some i) pre (some x) ∧ m + pre.length = W.length ∧ wr = w)
  case atStart => exact ⟨[], i, rfl, rfl, by simp, rfl⟩
  case round =>
    obtain ⟨pre, x, rfl, hp, hm, rfl⟩ := hrel
    have hx : x < n := by have := path_lt hIn (fun j hj => by cases hj; omega) hp; omega
    obtain ⟨b, off, rfl, _, hc1⟩ := h.2 (by omega)
    have g1 := hc1 x hx
    clear hc1
    have hsn := path_snoc hp
    cases hst : step zs x with
    | none =>
      rw [step_none hst] at g1
      rw [hst] at hsn
      have hw : lastOf i W = x := by rw [path_uniq hP hsn]; exact lastOf_snoc _ _ _
      have HW := Lib.hid hw
      have hne : ((x : Int) != (x : Int)) = false := by simp
      clear hw hsn hp hst hm
      go_wp2
      go_ret
      exact ⟨ret_int (by rw [HR.out, HW.out]), rfl⟩
    | some y =>
      obtain ⟨hz, hyx, hy⟩ := step_some hIn (by omega) hst
      rw [hz] at g1
      rw [hst] at hsn
      have hne : ((y : Int) != (x : Int)) = true := by simp; omega
      have hle := path_end hP hsn
      rw [List.length_append] at hle
      have hm1 : 1 ≤ gk := by simp at hle; omega
      have HM := Lib.hid hm
      clear hz hp hst hyx hle hm
      go_wp2
      go_roundg (gk - 1)
      case measure => omega
      case rel => exact ⟨pre ++ [x], y, rfl, hsn, by rw [List.length_append]; have := HM.out; simp; omega, rfl⟩

set_option maxRecDepth 100000 in
set_option maxHeartbeats 1000000 in
theorem specRoot_any (A : Option Addr) (n c B0 : Nat) (zs : List Int) (i : Int) (w : World) (h : Rd w B0 A n zs) (hB0 : B0 ≤ w.heap.size) (hb : n ≤ 1048576) :
    Calls Try.prog 26 #[.slice A n c, .int .i64 i] w fun e w' => e = .returned (.int .i64 (rootN zs i)) ∧ Below w.heap.size w w' := by
  have R := l1Item_any A n c B0 zs i w h hB0 hb
  cases hv : itemB zs i with
  | false =>
    rw [hv] at R
    have R := Lib.hid R
    have HV := Lib.hid (rootN_no hv)
    clear hv
    go_enter Try.func26, Try.ntmps26
    go_wp2_with fail
    refine R.out.mono ?_
    rintro e w1 ⟨rfl, hb1⟩
    go_wp2_with fail
    go_ret
    exact ⟨ret_int HV.out.symm, hb1⟩
  | true =>
    rw [hv] at R
    have hit := item_lt hv
    obtain ⟨j, rfl⟩ := Int.eq_ofNat_of_zero_le hit.1
    have hj : j < n := by have := h.1; omega
    have HV := Lib.hid (rootN_yes hv)
    have R := Lib.hid R
    have R2 := Lib.hid (fun (w1 : World) (hb1 : Below w.heap.size w w1) => l1Root_any A n c B0 j zs w1 (h.below hb1 hB0) (item_fv hv) hj)
    clear hv hit
    go_enter Try.func26, Try.ntmps26
    go_wp2_with fail
    refine R.out.mono ?_
    rintro e w1 ⟨rfl, hb1⟩
    go_wp2_with fail
    refine (R2.out w1 hb1).mono ?_
    rintro e w2 ⟨rfl, rfl⟩
    go_wp2_with fail
    go_ret
    exact ⟨ret_int HV.out.symm, hb1⟩

theorem togB_items {up : List Int} {a b : Nat} (ha : itemB up (a : Int) = true) (hb : itemB up (b : Int) = true) : togB up (a : Int) (b : Int) = ((rootI up a : Int) == (rootI up b : Int)) := by
  rw [togB_yes ha, rootN_yes ha, rootN_yes hb]
theorem togB_no2 {up : List Int} {a b : Int} (h : itemB up b = false) : togB up a b = false := by unfold togB; rw [h]; simp

set_option maxRecDepth 100000 in
set_option maxHeartbeats 1000000 in
theorem specTog_any (A : Option Addr) (n c B0 : Nat) (zs : List Int) (a b : Int) (w : World) (h : Rd w B0 A n zs) (hB0 : B0 ≤ w.heap.size) (hb : n ≤ 1048576) :
    Calls Try.prog 25 #[.slice A n c, .int .i64 a, .int .i64 b] w fun e w' => e = .returned (.bool (togB zs a b)) ∧ Below w.heap.size w w' := by
  have R := l1Item_any A n c B0 zs a w h hB0 hb
  have R2 := fun (w1 : World) (hb1 : Below w.heap.size w w1) => l1Item_any A n c B0 zs b w1 (h.below hb1 hB0) (Nat.le_trans hB0 hb1.size) hb
  cases hva : itemB zs a with
  | false =>
    rw [hva] at R
    have R := Lib.hid R
    have HV := Lib.hid (togB_no (b := b) hva)
    clear hva R2
    go_enter Try.func25, Try.ntmps25
    go_wp2_with fail
    refine R.out.mono ?_
    rintro e w1 ⟨rfl, hb1⟩
    go_wp2_with fail
    go_ret
    exact ⟨ret_bool HV.out.symm, hb1⟩
  | true =>
    rw [hva] at R
    have R := Lib.hid R
    cases hvb : itemB zs b with
    | false =>
      rw [hvb] at R2
      have R2 := Lib.hid R2
      have HV := Lib.hid (togB_no2 (a := a) hvb)
      clear hva hvb
      go_enter Try.func25, Try.ntmps25
      go_wp2_with fail
      refine R.out.mono ?_
      rintro e w1 ⟨rfl, hb1⟩
      go_wp2_with fail
      refine (R2.out w1 hb1).mono ?_
      rintro e w2 ⟨rfl, hb2⟩
      go_wp2_with fail
      go_ret
      exact ⟨ret_bool HV.out.symm, hb1.trans (hb2.mono hb1.size)⟩
    | true =>
      rw [hvb] at R2
      have R2 := Lib.hid R2
      have ia := item_lt hva
      have ib := item_lt hvb
      obtain ⟨x, rfl⟩ := Int.eq_ofNat_of_zero_le ia.1
      obtain ⟨y, rfl⟩ := Int.eq_ofNat_of_zero_le ib.1
      have hx : x < n := by have := h.1; omega
      have hy : y < n := by have := h.1; omega
      have hfv := item_fv hva
      have HV := Lib.hid (togB_items hva hvb)
      have R3 := Lib.hid (fun (i : Nat) (hi : i < n) (w1 : World) (hb1 : Below w.heap.size w w1) => l1Root_any A n c B0 i zs w1 (h.below hb1 hB0) hfv hi)
      clear hva hvb ia ib hfv
      go_enter Try.func25, Try.ntmps25
      go_wp2_with fail
      refine R.out.mono ?_
      rintro e w1 ⟨rfl, hb1⟩
      go_wp2_with fail
      refine (R2.out w1 hb1).mono ?_
      rintro e w2 ⟨rfl, hb2⟩
      have hb2 := hb1.trans (hb2.mono hb1.size)
      clear hb1
      go_wp2_with fail
      refine (R3.out x hx w2 hb2).mono ?_
      rintro e w3 ⟨rfl, rfl⟩
      go_wp2_with fail
      refine (R3.out y hy w2 hb2).mono ?_
      rintro e w3 ⟨rfl, rfl⟩
      go_wp2_with fail
      go_ret
      exact ⟨ret_bool HV.out.symm, hb2⟩

set_option maxRecDepth 100000 in
set_option maxHeartbeats 1000000 in
theorem specDeep_any (A : Option Addr) (n c B0 : Nat) (zs : List Int) (w : World) (h : Rd w B0 A n zs) (hB0 : B0 ≤ w.heap.size) (hb : n ≤ 1048576) :
    Calls Try.prog 33 #[.slice A n c] w fun e w' => e = .returned (.int .i64 (deepN zs)) ∧ Below w.heap.size w w' := by
  have R := specValid_any A n c B0 zs w h hB0 hb
  have l1 := h.1
  have L1 : zs.length ≤ n := by omega
  have L3 : n ≤ zs.length := by omega
  clear l1
  cases hv : fvB zs with
  | false =>
    rw [hv] at R
    have R := Lib.hid R
    have hdn : deepN zs = -1 := by unfold deepN; rw [hv]; simp
    have HV := Lib.hid hdn
    clear hv hdn
    go_enter Try.func33, Try.ntmps33
    go_wp2_with fail
    refine R.out.mono ?_
    rintro e w1 ⟨rfl, hb1⟩
    go_wp2_with fail
    go_ret
    exact ⟨ret_int HV.out.symm, hb1⟩
  | true =>
    rw [hv] at R
    have R := Lib.hid R
    have hdn : deepN zs = (deepTo zs n : Int) := by unfold deepN; rw [if_pos hv, show zs.length = n by omega]
    have hIn := fv_in hv
    have HV := Lib.hid hdn
    clear hdn hv
    go_enter Try.func33, Try.ntmps33
    go_wp2_with fail
    refine R.out.mono ?_
    rintro e w1 ⟨rfl, hb1⟩
    go_wp2_with fail
    go_loopw [3, 10] (fun d i wr => ∃ k q : Nat, k ≤ n ∧ i = .int .i64 k ∧ d = .int .i64 (q : Int) ∧ q ≤ 1048576 ∧ q = deepTo zs k ∧ Below w.heap.size w wr) (fun _ i _ => n - (intOf i).toNat)
    case atStart => exact ⟨0, 0, Nat.zero_le _, rfl, rfl, by omega, rfl, hb1⟩
    case round =>
      obtain ⟨k, q, hk, rfl, rfl, hq1, hq, hbe⟩ := hrel
      clear hb1
      have HQ := Lib.hid hq
      clear hq
      by_cases hlt : k < n
      · have R := l1Way_any A n c B0 k zs wr (h.below hbe hB0) (Nat.le_trans hB0 hbe.size) hb hIn hlt
        obtain ⟨L, hL⟩ : ∃ L, L = (ints (way zs n k)).length := ⟨_, rfl⟩
        have hwl := way_len zs n k
        have hL1 : 1 ≤ L := by rw [hL, ints_len]; omega
        have hL2 : L ≤ 1048577 := by rw [hL, ints_len]; omega
        have hmax : max q (L - 1) = deepTo zs (k + 1) := by
          rw [deepTo_succ, HQ.out, hL, ints_len]
          unfold wayOf
          rw [show zs.length = n by omega]
        have HM := Lib.hid hmax
        have R := Lib.hid R
        have HL := Lib.hid hL
        have hsz := hbe.size
        clear hmax hwl hL
        by_cases hle : (q : Int) < (L : Int) - 1
        all_goals
          go_wp2_with fail
          refine R.out.mono ?_
          rintro e w2 ⟨v, rfl, ho, hb2⟩
          obtain ⟨A2, c2, rfl, _⟩ := ho.form
          rw [← HL.out]
          have hbe2 := hbe.trans (hb2.mono hsz)
          clear ho
          go_wp2
          go_roundw
          case rel => first
            | exact ⟨k + 1, L - 1, by omega, by go_num, by go_num, by omega, by rw [← HM.out]; omega, hbe2⟩
            | exact ⟨k + 1, q, by omega, by go_num, rfl, by omega, by rw [← HM.out]; omega, hbe2⟩
          case measure => simp [intOf]; omega
      · obtain rfl : k = n := by omega
        have hfin : (q : Int) = deepN zs := by rw [HV.out, HQ.out]
        have HE := Lib.hid hfin
        clear hfin
        go_wp2
        go_ret
        exact ⟨ret_int HE.out, hbe⟩
end Go.Proofs.Ytlebnmboaeemoaa
