/- The walk of the exact law of LookAll: for every two slices of ints the law returns true and nothing that was there has turned. -/
import Derived.Test.YtemkbheplmimoaaImplLook
import Derived.Test.YtemkbheplmimoaaSpecLook3
import Derived.Test.YtemkbheplmimoaaArgs
namespace Go.Proofs.Ytemkbheplmimoaa
open Go.RowKit

set_option maxRecDepth 100000 in
set_option maxHeartbeats 4000000 in
theorem exactLookAll (A : Option Addr) (n c : Nat) (zs : List Int) (l : Int) (A' : Option Addr) (n' c' : Nat) (zs' : List Int) (w : World) (h0 : Row .i64 w A n c zs) (h1 : Row .i64 w A' n' c' zs') :
    Calls Try.prog 24 #[.slice A n c, .int .i64 l, .slice A' n' c'] w fun e w' => e = .returned (.bool true) ∧ Below w.heap.size w w' := by
  by_cases hl : 1048576 < n
  · clear h0 h1
    go_enter Try.func24, Try.ntmps24
    go_wp2
    go_ret
    exact ⟨rfl, Below.refl _ _⟩
  by_cases hl' : 1048576 < n'
  · clear h0 h1
    go_enter Try.func24, Try.ntmps24
    go_wp2
    go_ret
    exact ⟨rfl, Below.refl _ _⟩
  have hr := h0.rd
  have hr' := h1.rd
  obtain ⟨xs, hxs⟩ : ∃ xs, xs = zs.take n := ⟨_, rfl⟩
  obtain ⟨ys, hys⟩ : ∃ ys, ys = zs'.take n' := ⟨_, rfl⟩
  rw [← hxs] at hr
  rw [← hys] at hr'
  have T := Lib.hid (fun (w1 : World) (hb : Below w.heap.size w w1) => toIntS_any A n c xs w1 ((hr.below hb (Nat.le_refl _)).more hb.size) (by omega))
  have T' := Lib.hid (fun (w1 : World) (hb : Below w.heap.size w w1) => toIntS_any A' n' c' ys w1 ((hr'.below hb (Nat.le_refl _)).more hb.size) (by omega))
  have hln := hr.len
  have hln' := hr'.len
  have hx2 : xs.length ≤ 1048576 := by omega
  have hy2 : ys.length ≤ 1048576 := by omega
  have SP := Lib.hid (fun (A A' : Option Addr) (c c' : Nat) (w : World) (h : Rd w w.heap.size A xs.length xs) (h' : Rd w w.heap.size A' ys.length ys) => specLookAll_any A xs.length c _ xs l A' ys.length c' _ ys w h (Nat.le_refl _) hx2 h' (Nat.le_refl _) hy2)
  have IM := Lib.hid (fun (A A' : Option Addr) (c c' : Nat) (w : World) (h : Rd w w.heap.size A xs.length xs) (h' : Rd w w.heap.size A' ys.length ys) => implLookAll_any A xs.length c _ xs l A' ys.length c' _ ys w h (Nat.le_refl _) hx2 h' (Nat.le_refl _) hy2)
  have hz2 := looked_len16 xs l ys
  revert SP IM hz2
  generalize lookedN xs l ys = rs
  generalize lookB xs l ys = ok
  intro SP IM hz2
  clear hxs hys h0 h1 hr hr' hln hln'
  have dx : decide (xs = xs) = true := by simp
  have dy : decide (ys = ys) = true := by simp
  have dr : decide (rs = rs) = true := by simp
  have dk : (ok != ok) = false := by cases ok <;> rfl
  go_enter Try.func24, Try.ntmps24
  go_wp2_with fail
  refine (T.out _ (Below.refl _ _)).mono ?_
  rintro e w1 ⟨v1, rfl, ho1, hb1⟩
  obtain ⟨A1, c1, rfl, hr1⟩ := ho1.form
  clear ho1
  go_wp2_with fail
  refine (T'.out _ hb1).mono ?_
  rintro e w2 ⟨v2, rfl, ho2, hb2⟩
  obtain ⟨A2, c2, rfl, hr2⟩ := ho2.form
  have hr1 := (hr1.below hb2 (Nat.le_refl _)).more hb2.size
  have hb2 := hb1.trans (hb2.mono hb1.size)
  clear ho2
  go_wp2_with fail
  refine (SP.out A1 A2 c1 c2 w2 hr1 hr2).mono ?_
  rintro e w3 ⟨v3, rfl, ho3, hb3⟩
  obtain ⟨A3, c3, rfl, hr3⟩ := ho3.form
  have hs23 := hb3.size
  have hb3 := hb2.trans (hb3.mono hb2.size)
  have hw3 := hb3.size
  clear hr1 hr2 ho3
  go_wp2_with fail
  refine (T.out _ hb3).mono ?_
  rintro e w4 ⟨v4, rfl, ho4, hb4⟩
  obtain ⟨A4, c4, rfl, hr4⟩ := ho4.form
  have hs34 := hb4.size
  have hx4 := ho4.blockOf
  have hr3 := hr3.below hb4 (Nat.le_refl _)
  have hb4 := hb3.trans (hb4.mono hb3.size)
  go_wp2_with fail
  refine (T'.out _ hb4).mono ?_
  rintro e w5 ⟨v5, rfl, ho5, hb5⟩
  obtain ⟨A5, c5, rfl, hr5⟩ := ho5.form
  have hs45 := hb5.size
  have hx5 := ho5.blockOf
  have hr3 := hr3.below hb5 hs34
  have hr4 := (hr4.below hb5 (Nat.le_refl _)).more hb5.size
  have ho4 := ho4.keep hb5 (Nat.le_refl _)
  have hb5 := hb4.trans (hb5.mono hb4.size)
  go_wp2_with fail
  refine (IM.out A4 A5 c4 c5 w5 hr4 hr5).mono ?_
  rintro e w6 ⟨v6, rfl, ho6, hb6⟩
  obtain ⟨A6, c6, rfl, hr6⟩ := ho6.form
  have hs56 := hb6.size
  have hr3 := hr3.below hb6 (by omega)
  have ho4 := ho4.keep hb6 (Nat.le_refl _)
  have ho5 := ho5.keep hb6 (Nat.le_refl _)
  have hb6 := hb5.trans (hb6.mono hb5.size)
  clear hr4 hr5
  go_wp2_with fail
  refine (eqIntS_any _ _ _ _ _ _ _ _ rs rs _ hr6 hr3 (by omega) (by omega)).mono ?_
  rintro e w' ⟨rfl, n1, rfl⟩
  go_wp2_with fail
  refine (T.out _ (below_drewN hb6 n1)).mono ?_
  rintro e w7 ⟨v7, rfl, ho7, hb7⟩
  have hb7 : Below w6.heap.size w6 w7 := below_of_drewN hb7
  obtain ⟨A7, c7, rfl, hr7⟩ := ho7.form
  have hs67 := hb7.size
  have hr3 := hr3.below hb7 (by omega)
  have hr4 := ho4.rd.below hb7 (Nat.le_refl _)
  have ho4 := ho4.keep hb7 (Nat.le_refl _)
  have ho5 := ho5.keep hb7 (Nat.le_refl _)
  have ho6 := ho6.keep hb7 (Nat.le_refl _)
  have hb7 := hb6.trans (hb7.mono hb6.size)
  clear ho7 hr6
  go_wp2_with fail
  refine (eqIntS_any _ _ _ _ _ _ _ _ xs xs _ hr4 hr7 hx2 hx2).mono ?_
  rintro e w' ⟨rfl, n2, rfl⟩
  clear hr4 hr7
  go_wp2_with fail
  refine (T'.out _ (below_drewN hb7 n2)).mono ?_
  rintro e w8 ⟨v8, rfl, ho8, hb8⟩
  have hb8 : Below w7.heap.size w7 w8 := below_of_drewN hb8
  obtain ⟨A8, c8, rfl, hr8⟩ := ho8.form
  have hs78 := hb8.size
  have hr3 := hr3.below hb8 (by omega)
  have hr5 := ho5.rd.below hb8 (Nat.le_refl _)
  have ho4 := ho4.keep hb8 (Nat.le_refl _)
  have ho5 := ho5.keep hb8 (Nat.le_refl _)
  have ho6 := ho6.keep hb8 (Nat.le_refl _)
  have hb8 := hb7.trans (hb8.mono hb7.size)
  clear ho8
  go_wp2_with fail
  refine (eqIntS_any _ _ _ _ _ _ _ _ ys ys _ hr5 hr8 hy2 hy2).mono ?_
  rintro e w' ⟨rfl, n3, rfl⟩
  clear hr5 hr8
  go_wp2_with fail
  refine (markIntS_any _ 1 xs _ _ (ho4.drewN n3) hx2 (by omega) (by omega)).mono ?_
  rintro e w9 ⟨rfl, ho9, hg9⟩
  have hb9 : Below w3.heap.size w8 w9 := below_of_drewN (below_row hg9 (by simp; omega) (fun r e => (hx4 r e).1))
  have hs89 := hb9.size
  have hr3 := hr3.below hb9 (Nat.le_refl _)
  have ho6 : Own w9 w5.heap.size (.slice A6 rs.length c6) rs := (ho6.drewN n3).kept hg9 (by
    cases hb : (Value.slice A6 rs.length c6).ownBlock with
    | none => exact .inl rfl
    | some r =>
      refine .inr fun e => ?_
      have h1 := (hx4 r e.symm).2
      have h2 := (ho6.blockOf r hb).1
      omega)
  have ho5 : Own w9 w4.heap.size (.slice A5 ys.length c5) ys := (ho5.drewN n3).kept hg9 (by
    cases hb : (Value.slice A5 ys.length c5).ownBlock with
    | none => exact .inl rfl
    | some r =>
      refine .inr fun e => ?_
      have h1 := (hx4 r e.symm).2
      have h2 := (ho5.blockOf r hb).1
      omega)
  have hb9 := hb8.trans (hb9.mono (by omega))
  clear ho4 ho9 hg9
  go_wp2_with fail
  refine (markIntS_any _ (1 + (xs.length : Int)) ys _ _ ho5 hy2 (by omega) (by omega)).mono ?_
  rintro e w10 ⟨rfl, ho10, hg10⟩
  have hb10 : Below w4.heap.size w9 w10 := below_row hg10 (by omega) (fun r e => (hx5 r e).1)
  have hs910 := hb10.size
  have hr3 := hr3.below hb10 (by omega)
  have ho6 : Own w10 w5.heap.size (.slice A6 rs.length c6) rs := ho6.kept hg10 (by
    cases hb : (Value.slice A6 rs.length c6).ownBlock with
    | none => exact .inl rfl
    | some r =>
      refine .inr fun e => ?_
      have h1 := (hx5 r e.symm).2
      have h2 := (ho6.blockOf r hb).1
      omega)
  have hb10 := hb9.trans (hb10.mono (by omega))
  clear ho5 ho10 hg10
  have k1 : ¬ (1 + (xs.length : Int) + (ys.length : Int) < 0) := by omega
  go_wp2_with fail
  refine (eqIntS_any _ _ _ _ _ _ _ _ rs rs _ ho6.rd hr3 (by omega) (by omega)).mono ?_
  rintro e w' ⟨rfl, n4, rfl⟩
  go_wp2_with fail
  refine (markIntS_any _ 1 rs _ _ (ho6.drewN n4) (by omega) (by omega) (by omega)).mono ?_
  rintro e w11 ⟨rfl, ho11, hg11⟩
  have hb11 : Below w5.heap.size w10 w11 := below_of_drewN (below_row hg11 (by simp; omega) (fun r e => (ho6.blockOf r e).1))
  have hs1011 := hb11.size
  have hr3 := hr3.below hb11 (by omega)
  have hb11 := hb10.trans (hb11.mono (by omega))
  clear ho6 hg11
  go_wp2_with fail
  refine (heldIntS_any _ _ _ _ 1 _ ho11.rd (by omega) (by omega) (by omega)).mono ?_
  rintro e w' ⟨rfl, n5, rfl⟩
  have t1 : ((1 + (rs.length : Int)) != 1 + (rs.length : Int)) = false := by simp
  go_wp2_with fail
  refine (T.out _ (below_drewN hb11 n5)).mono ?_
  rintro e w12 ⟨v12, rfl, ho12, hb12⟩
  have hb12 : Below w11.heap.size w11 w12 := below_of_drewN hb12
  obtain ⟨A12, c12, rfl, hr12⟩ := ho12.form
  have hs1112 := hb12.size
  have hr3 := hr3.below hb12 (by omega)
  have hr11 := ho11.rd.below hb12 (Nat.le_refl _)
  have hb12 := hb11.trans (hb12.mono hb11.size)
  clear ho12 ho11
  go_wp2_with fail
  refine (T'.out _ hb12).mono ?_
  rintro e w13 ⟨v13, rfl, ho13, hb13⟩
  obtain ⟨A13, c13, rfl, hr13⟩ := ho13.form
  have hs1213 := hb13.size
  have hr3 := hr3.below hb13 (by omega)
  have hr11 := hr11.below hb13 (by omega)
  have hr12 := (hr12.below hb13 (Nat.le_refl _)).more hb13.size
  have hb13 := hb12.trans (hb13.mono hb12.size)
  clear ho13
  go_wp2_with fail
  refine (IM.out A12 A13 c12 c13 w13 hr12 hr13).mono ?_
  rintro e w14 ⟨v14, rfl, ho14, hb14⟩
  obtain ⟨A14, c14, rfl, hr14⟩ := ho14.form
  have hr3 := hr3.below hb14 (by omega)
  have hr11 := hr11.below hb14 (by omega)
  have hb14 := hb13.trans (hb14.mono hb13.size)
  clear ho14 hr12 hr13
  go_wp2_with fail
  refine (eqIntS_any _ _ _ _ _ _ _ _ rs rs _ hr14 hr3 (by omega) (by omega)).mono ?_
  rintro e w' ⟨rfl, n6, rfl⟩
  go_wp2_with fail
  refine (heldIntS_any _ _ _ _ 1 _ (hr11.drewN n6) (by omega) (by omega) (by omega)).mono ?_
  rintro e w' ⟨rfl, n7, rfl⟩
  go_wp2_with fail
  go_ret
  exact ⟨rfl, below_drewN hb14 _⟩
end Go.Proofs.Ytemkbheplmimoaa
