/- The model's WayUp. Condition: lengths up to 1048576. -/
import Derived.Test.YtlebnmboaeemoaaSpec2
namespace Go.Proofs.Ytlebnmboaeemoaa
open Go.RowKit

set_option maxRecDepth 100000 in
set_option maxHeartbeats 1000000 in
theorem specWay_any (A : Option Addr) (n c B0 : Nat) (zs : List Int) (i : Int) (w : World) (h : Rd w B0 A n zs) (hB0 : B0 ≤ w.heap.size) (hb : n ≤ 1048576) :
    Calls Try.prog 29 #[.slice A n c, .int .i64 i] w fun e w' => ∃ v, e = .returned (.tuple #[v, .bool (itemB zs i)]) ∧ Own w' w.heap.size v (ints (wayN zs i)) ∧ Below w.heap.size w w' := by
  have R := l1Item_any A n c B0 zs i w h hB0 hb
  have l1 := h.1
  cases hv : itemB zs i with
  | false =>
    rw [hv] at R
    have R := Lib.hid R
    have HV := Lib.hid (wayN_no hv)
    clear hv
    go_enter Try.func29, Try.ntmps29
    go_wp2_with fail
    refine R.out.mono ?_
    rintro e w1 ⟨rfl, hb1⟩
    go_wp2_with fail
    go_ret2
    exact ⟨_, rfl, by rw [HV.out]; exact Own.lit w1 _ [] hb1.size (by simp), hb1.alloc hb1.size _⟩
  | true =>
    rw [hv] at R
    have hit := item_lt hv
    obtain ⟨j, rfl⟩ := Int.eq_ofNat_of_zero_le hit.1
    have hj : j < n := by omega
    have hw : wayN zs (j : Int) = way zs n j := by rw [wayN_yes hv, l1]
    have HV := Lib.hid hw
    have R := Lib.hid R
    have R2 := Lib.hid (fun (w1 : World) (hb1 : Below w.heap.size w w1) => l1Way_any A n c B0 j zs w1 (h.below hb1 hB0) (Nat.le_trans hB0 hb1.size) hb (fv_in (item_fv hv)) hj)
    clear hv hit hw l1
    go_enter Try.func29, Try.ntmps29
    go_wp2_with fail
    refine R.out.mono ?_
    rintro e w1 ⟨rfl, hb1⟩
    go_wp2_with fail
    refine (R2.out w1 hb1).mono ?_
    rintro e w2 ⟨v, rfl, ho, hb2⟩
    go_wp2_with fail
    go_ret2
    exact ⟨_, rfl, by rw [HV.out]; exact ho.less hb1.size, hb1.trans (hb2.mono hb1.size)⟩
end Go.Proofs.Ytlebnmboaeemoaa
