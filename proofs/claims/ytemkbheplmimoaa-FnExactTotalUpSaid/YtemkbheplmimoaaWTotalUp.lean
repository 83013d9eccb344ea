/- The walk of the exact law of TotalUp: for every two slices of ints the law returns true and nothing that was there has turned. -/
import Derived.Test.YtemkbheplmimoaaImplLook
import Derived.Test.YtemkbheplmimoaaSpecLook3
import Derived.Test.YtemkbheplmimoaaArgs
namespace Go.Proofs.Ytemkbheplmimoaa
open Go.RowKit

set_option maxRecDepth 100000 in
set_option maxHeartbeats 4000000 in
theorem exactTotalUp (A : Option Addr) (n c : Nat) (zs : List Int) (l : Int) (A' : Option Addr) (n' c' : Nat) (zs' : List Int) (w : World) (h0 : Row .i64 w A n c zs) (h1 : Row .i64 w A' n' c' zs') :
    Calls Try.prog 26 #[.slice A n c, .int .i64 l, .slice A' n' c'] w fun e w' => e = .returned (.bool true) ∧ Below w.heap.size w w' := by
  by_cases hl : 1048576 < n
  · clear h0 h1
    go_enter Try.func26, Try.ntmps26
    go_wp2
    go_ret
    exact ⟨rfl, Below.refl _ _⟩
  by_cases hl' : 1048576 < n'
  · clear h0 h1
    go_enter Try.func26, Try.ntmps26
    go_wp2
    go_ret
    exact ⟨rfl, Below.refl _ _⟩
  have hr := h0.rd
  have hr' := h1.rd
  obtain ⟨xs, hxs⟩ : ∃ xs, xs = zs.take n := ⟨_, rfl⟩
  obtain ⟨ys, hys⟩ : ∃ ys, ys = zs'.take n' := ⟨_, rfl⟩
  rw [← hxs] at hr
  rw [← hys] at hr'
  have T := Lib.hid (fun (w1 : World) (hb : Below w.heap.size w w1) => toIntS_any A n c xs w1 ((hr.below hb (Nat.le_refl _)).more hb.size) (by omega))
  have T' := Lib.hid (fun (w1 : World) (hb : Below w.heap.size w w1) => toIntS_any A' n' c' ys w1 ((hr'.below hb (Nat.le_refl _)).more hb.size) (by omega))
  have hln := hr.len
  have hln' := hr'.len
  have hx2 : xs.length ≤ 1048576 := by omega
  have hy2 : ys.length ≤ 1048576 := by omega
  have SP := Lib.hid (fun (A A' : Option Addr) (c c' : Nat) (w : World) (h : Rd w w.heap.size A xs.length xs) (h' : Rd w w.heap.size A' ys.length ys) => specTotalUp_any A xs.length c _ xs l A' ys.length c' _ ys w h (Nat.le_refl _) hx2 h' (Nat.le_refl _) hy2)
  have IM := Lib.hid (fun (A A' : Option Addr) (c c' : Nat) (w : World) (h : Rd w w.heap.size A xs.length xs) (h' : Rd w w.heap.size A' ys.length ys) => implTotalUp_any A xs.length c _ xs l A' ys.length c' _ ys w h (Nat.le_refl _) hx2 h' (Nat.le_refl _) hy2)
  revert SP IM
  generalize followedN xs l ys = r
  intro SP IM
  clear hxs hys h0 h1 hr hr' hln hln'
  have dx : decide (xs = xs) = true := by simp
  have dy : decide (ys = ys) = true := by simp
  have dk : (r != r) = false := by simp
  go_enter Try.func26, Try.ntmps26
  go_wp2_with fail
  refine (T.out _ (Below.refl _ _)).mono ?_
  rintro e w1 ⟨v1, rfl, ho1, hb1⟩
  obtain ⟨A1, c1, rfl, hr1⟩ := ho1.form
  clear ho1
  go_wp2_with fail
  refine (T'.out _ hb1).mono ?_
  rintro e w2 ⟨v2, rfl, ho2, hb2⟩
  obtain ⟨A2, c2, rfl, hr2⟩ := ho2.form
  have hr1 := (hr1.below hb2 (Nat.le_refl _)).more hb2.size
  have hb2 := hb1.trans (hb2.mono hb1.size)
  clear ho2
  go_wp2_with fail
  refine (SP.out A1 A2 c1 c2 w2 hr1 hr2).mono ?_
  rintro e w3 ⟨rfl, hb3⟩
  have hb3 := hb2.trans (hb3.mono hb2.size)
  clear hr1 hr2
  go_wp2_with fail
  refine (T.out _ hb3).mono ?_
  rintro e w4 ⟨v4, rfl, ho4, hb4⟩
  obtain ⟨A4, c4, rfl, hr4⟩ := ho4.form
  have hb4 := hb3.trans (hb4.mono hb3.size)
  clear ho4
  go_wp2_with fail
  refine (T'.out _ hb4).mono ?_
  rintro e w5 ⟨v5, rfl, ho5, hb5⟩
  obtain ⟨A5, c5, rfl, hr5⟩ := ho5.form
  have hr4 := (hr4.below hb5 (Nat.le_refl _)).more hb5.size
  have hb5 := hb4.trans (hb5.mono hb4.size)
  clear ho5
  go_wp2_with fail
  refine (IM.out A4 A5 c4 c5 w5 hr4 hr5).mono ?_
  rintro e w6 ⟨rfl, hb6⟩
  have hr4 := hr4.below hb6 (Nat.le_refl _)
  have hr5 := hr5.below hb6 (Nat.le_refl _)
  have hs56 := hb6.size
  have hb6 := hb5.trans (hb6.mono hb5.size)
  go_wp2_with fail
  refine (T.out _ hb6).mono ?_
  rintro e w7 ⟨v7, rfl, ho7, hb7⟩
  obtain ⟨A7, c7, rfl, hr7⟩ := ho7.form
  have hr4 := hr4.below hb7 hs56
  have hr5 := hr5.below hb7 hs56
  have hs67 := hb7.size
  have hb7 := hb6.trans (hb7.mono hb6.size)
  clear ho7
  go_wp2_with fail
  refine (eqIntS_any _ _ _ _ _ _ _ _ xs xs _ hr4 hr7 hx2 hx2).mono ?_
  rintro e w' ⟨rfl, n1, rfl⟩
  clear hr4 hr7
  go_wp2_with fail
  refine (T'.out _ (below_drewN hb7 n1)).mono ?_
  rintro e w8 ⟨v8, rfl, ho8, hb8⟩
  have hb8 : Below w7.heap.size w7 w8 := below_of_drewN hb8
  obtain ⟨A8, c8, rfl, hr8⟩ := ho8.form
  have hr5 := hr5.below hb8 (by omega)
  have hb8 := hb7.trans (hb8.mono hb7.size)
  clear ho8
  go_wp2_with fail
  refine (eqIntS_any _ _ _ _ _ _ _ _ ys ys _ hr5 hr8 hy2 hy2).mono ?_
  rintro e w' ⟨rfl, n2, rfl⟩
  go_wp2_with fail
  go_ret
  exact ⟨rfl, below_drewN hb8 _⟩
end Go.Proofs.Ytemkbheplmimoaa
