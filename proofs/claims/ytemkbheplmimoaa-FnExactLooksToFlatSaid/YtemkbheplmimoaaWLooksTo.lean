/- The walk of the exact law of LooksToFlat: for every slice of ints the law returns true and nothing that was there has turned. -/
import Derived.Test.YtemkbheplmimoaaImplLooksTo
import Derived.Test.YtemkbheplmimoaaSpecLooksTo
import Derived.Test.YtemkbheplmimoaaArgs
namespace Go.Proofs.Ytemkbheplmimoaa
open Go.RowKit

set_option maxRecDepth 100000 in
set_option maxHeartbeats 1600000 in
theorem exactLooksToFlat (A : Option Addr) (n c : Nat) (zs : List Int) (l i : Int) (w : World) (h0 : Row .i64 w A n c zs) :
    Calls Try.prog 28 #[.slice A n c, .int .i64 l, .int .i64 i] w fun e w' => e = .returned (.bool true) ∧ Below w.heap.size w w' := by
  by_cases hl : 1048576 < n
  · go_enter Try.func28, Try.ntmps28
    go_wp2
    go_ret
    exact ⟨rfl, Below.refl _ _⟩
  · have hr := h0.rd
    obtain ⟨xs, hxs⟩ : ∃ xs, xs = zs.take n := ⟨_, rfl⟩
    rw [← hxs] at hr
    have T := Lib.hid (fun (w1 : World) (hb : Below w.heap.size w w1) => toIntS_any A n c xs w1 ((hr.below hb (Nat.le_refl _)).more hb.size) (by omega))
    have hln := hr.len
    have hl2 : xs.length ≤ 1048576 := by omega
    clear hxs h0 hr hln
    go_enter Try.func28, Try.ntmps28
    go_wp2_with fail
    refine (T.out _ (Below.refl _ _)).mono ?_
    rintro e w1 ⟨v1, rfl, ho1, hb1⟩
    obtain ⟨A1, c1, rfl, hr1⟩ := ho1.form
    go_wp2_with fail
    refine (specLooksToFlat_any _ _ _ _ xs l i _ hr1 (Nat.le_refl _) hl2).mono ?_
    rintro e w2 ⟨rfl, hb2⟩
    have hb2 := hb1.trans (hb2.mono hb1.size)
    clear ho1 hr1
    go_wp2_with fail
    refine (T.out _ hb2).mono ?_
    rintro e w3 ⟨v3, rfl, ho3, hb3⟩
    obtain ⟨A3, c3, rfl, hr3⟩ := ho3.form
    have hb3 := hb2.trans (hb3.mono hb2.size)
    clear ho3
    go_wp2_with fail
    refine (implLooksToFlat_any _ _ _ _ xs l i _ hr3 (Nat.le_refl _) hl2).mono ?_
    rintro e w4 ⟨rfl, hb4⟩
    have hr4 := hr3.below hb4 (Nat.le_refl _)
    have hs34 := hb4.size
    have hb4 := hb3.trans (hb4.mono hb3.size)
    have hne : (looksN xs l i != looksN xs l i) = false := by simp
    clear hr3
    go_wp2_with fail
    refine (T.out _ hb4).mono ?_
    rintro e w5 ⟨v5, rfl, ho5, hb5⟩
    obtain ⟨A5, c5, rfl, hr5⟩ := ho5.form
    have hr4 := hr4.below hb5 hs34
    have hb5 := hb4.trans (hb5.mono hb4.size)
    have hd : decide (xs = xs) = true := by simp
    clear ho5
    go_wp2_with fail
    refine (eqIntS_any _ _ _ _ _ _ _ _ xs xs _ hr4 hr5 hl2 hl2).mono ?_
    rintro e w' ⟨rfl, n1, rfl⟩
    go_wp2_with fail
    go_ret
    exact ⟨rfl, below_drewN hb5 _⟩
end Go.Proofs.Ytemkbheplmimoaa
