/- The walk of the law on forests that have the same classes: for every two rows of bytes the law returns true and nothing that was there has turned. -/
import Derived.Test.YtkflihmhkgpgkaaSame
import Derived.Test.YtkflihmhkgpgkaaKit
import Derived.Test.YtkflihmhkgpgkaaDraw5
namespace Go.Proofs.Ytkflihmhkgpgkaa
open Go.RowKit

theorem same_symm (xs ys : List Int) : sameN ys xs = sameN xs ys := by
  rw [← same_answer, ← same_answer, Bool.and_comm (fvB ys)]
  congr 1
  rw [decide_eq_decide]
  exact ⟨Eq.symm, Eq.symm⟩
theorem same_self (xs : List Int) : sameN xs xs = fvB xs := by
  rw [← same_answer]
  cases fvB xs <;> simp

set_option maxRecDepth 100000 in
set_option maxHeartbeats 4000000 in
theorem fnSame (A0 : Option Addr) (n0 c0 : Nat) (z0 : List Int) (A1 : Option Addr) (n1 c1 : Nat) (z1 : List Int) (w : World) (h0 : Row .u8 w A0 n0 c0 z0) (h1 : Row .u8 w A1 n1 c1 z1) :
    Calls Try.prog 4 #[.slice A0 n0 c0, .slice A1 n1 c1] w fun e w' => e = .returned (.bool true) ∧ Below w.heap.size w w' := by
  by_cases hl0 : 1048576 < n0
  · clear h0 h1
    go_enter Try.func4, Try.ntmps4
    go_wp2
    go_ret
    exact ⟨rfl, Below.refl _ _⟩
  by_cases hl1 : 1048576 < n1
  · clear h0 h1
    go_enter Try.func4, Try.ntmps4
    go_wp2
    go_ret
    exact ⟨rfl, Below.refl _ _⟩
  obtain ⟨b0, hc0⟩ := h0.bt
  obtain ⟨b1, hc1⟩ := h1.bt
  have D0 := Lib.hid (drawSame_any A0 n0 c0 w.heap.size z0 w b0 (Nat.le_refl _) hc0)
  have D1 := Lib.hid (fun (w1 : World) (hb : Below w.heap.size w w1) => drawValid_any A1 n1 c1 w.heap.size z1 w1 (b1.below hb (Nat.le_refl _)) hb.size hc1)
  clear h0 h1 b0 b1 hc0 hc1
  go_enter Try.func4, Try.ntmps4
  go_wp2_with fail
  refine D0.out.mono ?_
  rintro e w1 ⟨v, xs, v', ys, rfl, ho, hl, ho', hl', hb1⟩
  obtain ⟨A, c, rfl, hr⟩ := ho.form
  obtain ⟨A', c', rfl, hr'⟩ := ho'.form
  have hx : xs.length ≤ 1048576 := by omega
  have hy : ys.length ≤ 1048576 := by omega
  have CA := fun (w2 : World) (hb2 : Below w1.heap.size w1 w2) => rows2_of (rowsN_big xs).2 (implClasses_any A xs.length c _ xs w2 (hr.below hb2 (Nat.le_refl _)) hb2.size hx)
  have CB := fun (w2 : World) (hb2 : Below w1.heap.size w1 w2) => rows2_of (rowsN_big ys).2 (implClasses_any A' ys.length c' _ ys w2 (hr'.below hb2 (Nat.le_refl _)) hb2.size hy)
  have SI := fun (w2 : World) (hb2 : Below w1.heap.size w1 w2) => implSame_any A xs.length c _ xs A' ys.length c' _ ys w2 (hr.below hb2 (Nat.le_refl _)) hb2.size hx (hr'.below hb2 (Nat.le_refl _)) hb2.size hy
  have SS := fun (w2 : World) (hb2 : Below w1.heap.size w1 w2) => specSame_any A xs.length c _ xs A' ys.length c' _ ys w2 (hr.below hb2 (Nat.le_refl _)) hb2.size hx (hr'.below hb2 (Nat.le_refl _)) hb2.size hy
  have SR := fun (w2 : World) (hb2 : Below w1.heap.size w1 w2) => implSame_any A' ys.length c' _ ys A xs.length c _ xs w2 (hr'.below hb2 (Nat.le_refl _)) hb2.size hy (hr.below hb2 (Nat.le_refl _)) hb2.size hx
  have SA := fun (w2 : World) (hb2 : Below w1.heap.size w1 w2) => implSame_any A xs.length c _ xs A xs.length c _ xs w2 (hr.below hb2 (Nat.le_refl _)) hb2.size hx (hr.below hb2 (Nat.le_refl _)) hb2.size hx
  have VA := fun (w2 : World) (hb2 : Below w1.heap.size w1 w2) => implValid_any A xs.length c _ xs w2 (hr.below hb2 (Nat.le_refl _)) hb2.size hx
  simp only [same_symm xs ys] at SR
  simp only [same_self xs] at SA
  have hs := same_answer xs ys
  have hl1 := (rowsN_big xs).1
  have hl2 := (rowsN_big ys).1
  have LR := fun (w2 : World) (A A' : Option Addr) (c c' : Nat) (h1 : RdR w2 w2.heap.size A (rowsN xs).length (rowsN xs)) (h2 : RdR w2 w2.heap.size A' (rowsN ys).length (rowsN ys)) => q_of (lrRows_any A A' _ c _ c' _ _ (rowsN xs) (rowsN ys) w2 h1 h2 (by omega) (by omega))
  clear ho ho' hl hl' hx hy hr hr' D0
  revert CA CB SI SS SR SA VA hs LR
  generalize sameN xs ys = r
  generalize decide (rowsN xs = rowsN ys) = d
  generalize fvB xs = p
  generalize fvB ys = q
  generalize rowsN xs = xss at *
  generalize rowsN ys = yss at *
  generalize xs.length = n at *
  generalize ys.length = m at *
  intro CA CB SI SS VA SR SA hs LR
  have CA := Lib.hid CA
  have CB := Lib.hid CB
  have SI := Lib.hid SI
  have SS := Lib.hid SS
  have SR := Lib.hid SR
  have SA := Lib.hid SA
  have VA := Lib.hid VA
  have LR := Lib.hid LR
  clear hl1 hl2
  cases p <;> cases q <;> cases d <;> (have hs' : _ = r := hs; simp only [Bool.and_true, Bool.and_false, Bool.and_self] at hs'; subst hs'; clear hs)
  all_goals
    go_wp2_with fail
    refine (SI.out w1 (Below.refl _ _)).mono ?_
    rintro e w2 ⟨rfl, hb2⟩
    go_wp2_with fail
    refine (D1.out w2 (by repeat (first | assumption | exact Below.refl _ _ | refine Below.on ?_ (by assumption)))).mono ?_
    rintro e w3 ⟨v3, us, rfl, ho3, hl3, hb3⟩
    obtain ⟨A3, c3, rfl, hr3⟩ := ho3.form
    have VX := fun (w4 : World) (hb5 : Below w3.heap.size w3 w4) => implValid_any A3 us.length c3 _ us w4 (hr3.below hb5 (Nat.le_refl _)) hb5.size (by omega)
    have WX := fun (w4 : World) (hb5 : Below w3.heap.size w3 w4) => specValid_any A3 us.length c3 _ us w4 (hr3.below hb5 (Nat.le_refl _)) hb5.size (by omega)
    clear ho3 hr3 hl3
    revert VX WX
    generalize us.length = n3
    generalize fvB us = u
    intro VX WX
    have hu : (u != u) = false := by cases u <;> rfl
    have VX := Lib.hid VX
    have WX := Lib.hid WX
    go_wp2_with fail
    refine (SS.out w3 (by repeat (first | assumption | exact Below.refl _ _ | refine Below.on ?_ (by assumption)))).mono ?_
    rintro e w5 ⟨rfl, hb5⟩
    go_wp2_with fail
    refine (VX.out w5 (by repeat (first | assumption | exact Below.refl _ _ | refine Below.on ?_ (by assumption)))).mono ?_
    rintro e w6 ⟨rfl, hb6⟩
    go_wp2_with fail
    refine (WX.out w6 (by repeat (first | assumption | exact Below.refl _ _ | refine Below.on ?_ (by assumption)))).mono ?_
    rintro e w7 ⟨rfl, hb7⟩
    go_wp2_with fail
    refine (SR.out w7 (by repeat (first | assumption | exact Below.refl _ _ | refine Below.on ?_ (by assumption)))).mono ?_
    rintro e w8 ⟨rfl, hb8⟩
    go_wp2_with fail
    refine (CA.out w8 (by repeat (first | assumption | exact Below.refl _ _ | refine Below.on ?_ (by assumption)))).mono ?_
    rintro e w9 ⟨A9, c9, rfl, hr9, hb9⟩
    go_wp2_with fail
    refine (CB.out w9 (by repeat (first | assumption | exact Below.refl _ _ | refine Below.on ?_ (by assumption)))).mono ?_
    rintro e w10 ⟨A10, c10, rfl, hr10, hb10⟩
    have hr9 := hr9.to hb10
    go_wp2_with (first
      | (go_at_call 31; refine (LR.out w10 A9 A10 c9 c10 hr9 hr10).mono ?_; rintro e w11 ⟨rfl, hb11⟩)
      | (go_at_call 35; refine (SA.out _ (by repeat (first | assumption | exact Below.refl _ _ | refine Below.on ?_ (by assumption)))).mono ?_; rintro e w12 ⟨rfl, hb12⟩)
      | (go_at_call 38; refine (VA.out _ (by repeat (first | assumption | exact Below.refl _ _ | refine Below.on ?_ (by assumption)))).mono ?_; rintro e w13 ⟨rfl, hb13⟩))
    go_ret
    exact ⟨rfl, (by repeat (first | assumption | exact Below.refl _ _ | refine Below.on ?_ (by assumption)))⟩
end Go.Proofs.Ytkflihmhkgpgkaa
