/- The walk of the exact law of HeightsOf: for every slice of ints the law returns true and nothing that was there has turned. -/
import Derived.Test.YtebgnaiibomjkaaSizes
import Derived.Test.YtebgnaiibomjkaaSpecSizes
import Derived.Test.YtebgnaiibomjkaaArgs
namespace Go.Proofs.Ytebgnaiibomjkaa
open Go.RowKit

set_option maxRecDepth 100000 in
set_option maxHeartbeats 4000000 in
theorem exactHeights (A : Option Addr) (n c : Nat) (zs : List Int) (w : World) (h0 : Row .i64 w A n c zs) :
    Calls Try.prog 11 #[.slice A n c] w fun e w' => e = .returned (.bool true) ∧ Below w.heap.size w w' := by
  by_cases hl : 1048576 < n
  · go_enter Try.func11, Try.ntmps11
    go_wp2
    go_ret
    exact ⟨rfl, Below.refl _ _⟩
  · have hr := h0.rd
    obtain ⟨xs, hxs⟩ : ∃ xs, xs = zs.take n := ⟨_, rfl⟩
    rw [← hxs] at hr
    have T := Lib.hid (fun (w1 : World) (hb : Below w.heap.size w w1) => toIntS_any A n c xs w1 ((hr.below hb (Nat.le_refl _)).more hb.size) (by omega))
    have hln := hr.len
    have hl2 : xs.length ≤ 1048576 := by omega
    have SP := Lib.hid (fun (A : Option Addr) (c : Nat) (w : World) (h : Rd w w.heap.size A xs.length xs) => specHeights_any A xs.length c _ xs w h (Nat.le_refl _) hl2)
    have IM := Lib.hid (fun (A : Option Addr) (c : Nat) (w : World) (h : Rd w w.heap.size A xs.length xs) => implHeights_any A xs.length c _ xs w h (Nat.le_refl _) hl2)
    have hy := heightsN_len16 xs
    revert SP IM hy
    generalize heightsN xs = ys
    generalize fvB xs = ok
    intro SP IM hy
    clear hxs h0 hr hln
    have dx : decide (xs = xs) = true := by simp
    have dy : decide (ys = ys) = true := by simp
    have dk : (ok != ok) = false := by cases ok <;> rfl
    go_enter Try.func11, Try.ntmps11
    go_wp2_with fail
    refine (T.out _ (Below.refl _ _)).mono ?_
    rintro e w1 ⟨v1, rfl, ho1, hb1⟩
    obtain ⟨A1, c1, rfl, hr1⟩ := ho1.form
    go_wp2_with fail
    refine (SP.out A1 c1 w1 hr1).mono ?_
    rintro e w2 ⟨v2, rfl, ho2, hb2⟩
    obtain ⟨A2, c2, rfl, hr2⟩ := ho2.form
    have hb2 := hb1.trans (hb2.mono hb1.size)
    clear ho1 hr1 ho2
    go_wp2_with fail
    refine (T.out _ hb2).mono ?_
    rintro e w3 ⟨v3, rfl, ho3, hb3⟩
    obtain ⟨A3, c3, rfl, hr3⟩ := ho3.form
    have hs23 := hb3.size
    have hr2 := hr2.below hb3 (Nat.le_refl _)
    have hb3 := hb2.trans (hb3.mono hb2.size)
    go_wp2_with fail
    refine (IM.out A3 c3 w3 hr3).mono ?_
    rintro e w4 ⟨v4, rfl, ho4, hb4⟩
    obtain ⟨A4, c4, rfl, hr4⟩ := ho4.form
    have hs34 := hb4.size
    have hr2 := hr2.below hb4 hs23
    have hx3 := ho3.blockOf
    have ho3 := ho3.keep hb4 (Nat.le_refl _)
    have hb4 := hb3.trans (hb4.mono hb3.size)
    clear hr3
    go_wp2_with fail
    refine (eqIntS_any _ _ _ _ _ _ _ _ ys ys _ hr4 hr2 (by omega) (by omega)).mono ?_
    rintro e w' ⟨rfl, n1, rfl⟩
    go_wp2_with fail
    refine (T.out _ (below_drewN hb4 n1)).mono ?_
    rintro e w5 ⟨v5, rfl, ho5, hb5⟩
    have hb5 : Below w4.heap.size w4 w5 := below_of_drewN hb5
    obtain ⟨A5, c5, rfl, hr5⟩ := ho5.form
    have hs45 := hb5.size
    have hr2 := hr2.below hb5 (by omega)
    have hr3 := ho3.rd.below hb5 (Nat.le_refl _)
    have ho3 := ho3.keep hb5 (Nat.le_refl _)
    have ho4 := ho4.keep hb5 (Nat.le_refl _)
    have hb5 := hb4.trans (hb5.mono hb4.size)
    clear ho5 hr4
    go_wp2_with fail
    refine (eqIntS_any _ _ _ _ _ _ _ _ xs xs _ hr3 hr5 hl2 hl2).mono ?_
    rintro e w' ⟨rfl, n2, rfl⟩
    clear hr3 hr5
    go_wp2_with fail
    refine (markIntS_any _ 1 xs _ _ (ho3.drewN n2) hl2 (by omega) (by omega)).mono ?_
    rintro e w6 ⟨rfl, ho6, hg6⟩
    have hb6 : Below w2.heap.size w5 w6 := below_of_drewN (below_row hg6 (by simp; omega) (fun r e => (hx3 r e).1))
    have hs56 := hb6.size
    have hr2 := hr2.below hb6 (Nat.le_refl _)
    have ho4 : Own w6 w3.heap.size (.slice A4 ys.length c4) ys := (ho4.drewN n2).kept hg6 (by
      cases hb : (Value.slice A4 ys.length c4).ownBlock with
      | none => exact .inl rfl
      | some r =>
        refine .inr fun e => ?_
        have h1 := (hx3 r e.symm).2
        have h2 := (ho4.blockOf r hb).1
        omega)
    have hb6 := hb5.trans (hb6.mono (by have := hb2.size; omega))
    clear ho3 ho6 hg6
    have k1 : ¬ (1 + (xs.length : Int) < 0) := by omega
    go_wp2_with fail
    refine (eqIntS_any _ _ _ _ _ _ _ _ ys ys _ ho4.rd hr2 (by omega) (by omega)).mono ?_
    rintro e w' ⟨rfl, n3, rfl⟩
    go_wp2_with fail
    refine (markIntS_any _ 1 ys _ _ (ho4.drewN n3) (by omega) (by omega) (by omega)).mono ?_
    rintro e w7 ⟨rfl, ho7, hg7⟩
    have hb7 : Below w3.heap.size w6 w7 := below_of_drewN (below_row hg7 (by simp; omega) (fun r e => (ho4.blockOf r e).1))
    have hs67 := hb7.size
    have hr2 := hr2.below hb7 (by omega)
    have hb7 := hb6.trans (hb7.mono (by have := hb3.size; omega))
    clear ho4 hg7
    go_wp2_with fail
    refine (heldIntS_any _ _ _ _ 1 _ ho7.rd (by omega) (by omega) (by omega)).mono ?_
    rintro e w' ⟨rfl, n4, rfl⟩
    have t1 : ((1 + (ys.length : Int)) != 1 + (ys.length : Int)) = false := by simp
    go_wp2_with fail
    refine (T.out _ (below_drewN hb7 n4)).mono ?_
    rintro e w8 ⟨v8, rfl, ho8, hb8⟩
    have hb8 : Below w7.heap.size w7 w8 := below_of_drewN hb8
    obtain ⟨A8, c8, rfl, hr8⟩ := ho8.form
    have hs78 := hb8.size
    have hr2 := hr2.below hb8 (by omega)
    have hr7 := ho7.rd.below hb8 (Nat.le_refl _)
    have hb8 := hb7.trans (hb8.mono hb7.size)
    clear ho8 ho7
    go_wp2_with fail
    refine (IM.out A8 c8 w8 hr8).mono ?_
    rintro e w9 ⟨v9, rfl, ho9, hb9⟩
    obtain ⟨A9, c9, rfl, hr9⟩ := ho9.form
    have hr2 := hr2.below hb9 (by omega)
    have hr7 := hr7.below hb9 (by omega)
    have hb9 := hb8.trans (hb9.mono hb8.size)
    clear ho9 hr8
    go_wp2_with fail
    refine (eqIntS_any _ _ _ _ _ _ _ _ ys ys _ hr9 hr2 (by omega) (by omega)).mono ?_
    rintro e w' ⟨rfl, n5, rfl⟩
    go_wp2_with fail
    refine (heldIntS_any _ _ _ _ 1 _ (hr7.drewN n5) (by omega) (by omega) (by omega)).mono ?_
    rintro e w' ⟨rfl, n6, rfl⟩
    go_wp2_with fail
    go_ret
    exact ⟨rfl, below_drewN hb9 _⟩
end Go.Proofs.Ytebgnaiibomjkaa
