/- The walk of the exact law of NewForest: for every int the law returns true and nothing that was there has turned. -/
import Derived.Test.YtlebnmboaeemoaaNew
namespace Go.Proofs.Ytlebnmboaeemoaa
open Go.RowKit

set_option maxRecDepth 100000 in
set_option maxHeartbeats 1600000 in
theorem exactNew (n : Int) (w : World) :
    Calls Try.prog 13 #[.int .i64 n] w fun e w' => e = .returned (.bool true) ∧ Below w.heap.size w w' := by
  obtain ⟨xs, hxs⟩ : ∃ xs, xs = roots (newN n) := ⟨_, rfl⟩
  have hl : xs.length ≤ 16 := by rw [hxs, roots_len]; exact newN_le n
  have S := specNew_any n
  have I := implNew_any n
  rw [← hxs] at S I
  have S := Lib.hid S
  have I := Lib.hid I
  clear hxs
  go_enter Try.func13, Try.ntmps13
  go_wp2_with fail
  refine (S.out _).mono ?_
  rintro e w1 ⟨v0, rfl, ho0, hb0⟩
  obtain ⟨A0, c0, rfl, hr0⟩ := ho0.form
  go_wp2_with fail
  refine (I.out _).mono ?_
  rintro e w2 ⟨v1, rfl, ho1, hb1⟩
  obtain ⟨A1, c1, rfl, hr1⟩ := ho1.form
  have hr0 := hr0.below hb1 (Nat.le_refl _)
  have hd : decide (xs = xs) = true := by simp
  go_wp2_with fail
  refine (eqIntS_any _ _ _ _ _ _ _ _ xs xs _ hr1 hr0 (by omega) (by omega)).mono ?_
  rintro e w' ⟨rfl, n1, rfl⟩
  go_wp2_with fail
  refine (markIntS_any _ 1 xs _ _ (ho1.drewN n1) (by omega) (by omega) (by omega)).mono ?_
  rintro e w3 ⟨rfl, ho3, hg3⟩
  have hsz1 : w1.heap.size ≤ w2.heap.size := hb1.size
  have hb3 : Below w1.heap.size w2 w3 := below_of_drewN (below_row hg3 (by simpa using hsz1) (fun r e => (ho1.blockOf r e).1))
  have hr0 := hr0.below hb3 (Nat.le_refl _)
  clear hg3 hr1 ho1
  go_wp2_with fail
  refine (heldIntS_any _ _ _ _ 1 _ ho3.rd (by omega) (by omega) (by omega)).mono ?_
  rintro e w' ⟨rfl, n2, rfl⟩
  have t1 : ((1 + (xs.length : Int)) != 1 + (xs.length : Int)) = false := by simp
  go_wp2_with fail
  refine (I.out _).mono ?_
  rintro e w4 ⟨v2, rfl, ho4, hb4⟩
  obtain ⟨A2, c2, rfl, hr2⟩ := ho4.form
  have hb4 : Below w3.heap.size w3 w4 := below_of_drewN hb4
  have hsz3 := hb3.size
  have hr0 := hr0.below hb4 (Nat.le_trans hsz1 hsz3)
  have hr3 := ho3.rd.below hb4 (Nat.le_refl _)
  go_wp2_with fail
  refine (eqIntS_any _ _ _ _ _ _ _ _ xs xs _ hr2 hr0 (by omega) (by omega)).mono ?_
  rintro e w' ⟨rfl, n3, rfl⟩
  go_wp2_with fail
  refine (heldIntS_any _ _ _ _ 1 _ (hr3.drewN n3) (by omega) (by omega) (by omega)).mono ?_
  rintro e w' ⟨rfl, n4, rfl⟩
  go_wp2_with fail
  go_ret
  have hb0s := hb0.size
  refine ⟨rfl, ?_⟩
  exact below_drewN (hb0.trans ((hb1.mono hb0s).trans ((hb3.mono hb0s).trans (hb4.mono (by omega))))) _
end Go.Proofs.Ytlebnmboaeemoaa
