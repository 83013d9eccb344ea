/- The walk of the exact law of JoinAll: for every slice of ints, rule and slice of pairs the law returns true and nothing that was there has turned. -/
import Derived.Test.YtebgnaiibomjkaaJoinAll
import Derived.Test.YtebgnaiibomjkaaSpecAll
import Derived.Test.YtebgnaiibomjkaaExactQ
import Derived.Test.YtebgnaiibomjkaaHelpQ
namespace Go.Proofs.Ytebgnaiibomjkaa
open Go.RowKit

set_option maxRecDepth 100000 in
set_option maxHeartbeats 8000000 in
theorem exactJoinAll (A : Option Addr) (n c : Nat) (zs : List Int) (r : Int) (A' : Option Addr) (m c' : Nat) (qs : List (Int × Int)) (w : World) (h0 : Row .i64 w A n c zs) (h2 : RowQ w A' m c' qs) :
    Calls Try.prog 13 #[.slice A n c, .int .i64 r, .slice A' m c'] w fun e w' => e = .returned (.bool true) ∧ Below w.heap.size w w' := by
  by_cases hl : 1048576 < n
  · go_enter Try.func13, Try.ntmps13
    go_wp2
    go_ret
    exact ⟨rfl, Below.refl _ _⟩
  have SZ := Lib.hid (szPairS_any A' m c' 1048576 w h2.small (by omega) (by omega))
  by_cases hlm : 1048576 < m
  · rw [if_pos (by omega)] at SZ
    clear h0 h2
    go_enter Try.func13, Try.ntmps13
    go_wp2_with fail
    refine SZ.out.mono ?_
    rintro e w1 ⟨rfl, rfl⟩
    go_wp2_with fail
    go_ret
    exact ⟨rfl, Below.refl _ _⟩
  rw [if_neg (by omega)] at SZ
  have hz0 : ¬ (1048576 : Int) - (m : Int) < 0 := by omega
  have hr := h0.rd
  obtain ⟨xs, hxs⟩ : ∃ xs, xs = zs.take n := ⟨_, rfl⟩
  rw [← hxs] at hr
  have hln := hr.len
  have hl2 : xs.length ≤ 1048576 := by omega
  have hlq := h2.rd.len
  have hq2 : qs.length ≤ 1048576 := by omega
  have T := Lib.hid (fun (w1 : World) (hb : Below w.heap.size w w1) => toIntS_any A n c xs w1 ((hr.below hb (Nat.le_refl _)).more hb.size) (by omega))
  have TP := Lib.hid (fun (w1 : World) (hb : Below w.heap.size w w1) => toPairS_any A' m c' qs w1 (h2.rd.to hb) (by omega))
  have SP := Lib.hid (fun (A : Option Addr) (c : Nat) (A' : Option Addr) (c' : Nat) (w : World) (h : Rd w w.heap.size A xs.length xs) (h' : RdQ w w.heap.size A' qs.length qs) => specJoinAll_any A xs.length c _ xs r A' qs.length c' _ qs w h (Nat.le_refl _) hl2 h' (Nat.le_refl _) hq2)
  have IM := Lib.hid (fun (A : Option Addr) (c : Nat) (A' : Option Addr) (c' : Nat) (w : World) (h : Rd w w.heap.size A xs.length xs) (h' : RdQ w w.heap.size A' qs.length qs) => implJoinAll_any A xs.length c _ xs r A' qs.length c' _ qs w h (Nat.le_refl _) hl2 h' (Nat.le_refl _) hq2)
  have hy := jaN_len16 xs r qs
  revert SP IM hy
  generalize jaN xs r qs = ys
  generalize jaB xs r qs = ok
  intro SP IM hy
  clear hxs h0 hr hln h2 hlq
  have dx : decide (xs = xs) = true := by simp
  have dy : decide (ys = ys) = true := by simp
  have dq : decide (qs = qs) = true := by simp
  have dk : (ok != ok) = false := by cases ok <;> rfl
  go_enter Try.func13, Try.ntmps13
  go_wp2_with fail
  refine SZ.out.mono ?_
  rintro e w1 ⟨rfl, rfl⟩
  go_wp2_with fail
  refine (T.out _ (Below.refl _ _)).mono ?_
  rintro e w1 ⟨v1, rfl, ho1, hb1⟩
  obtain ⟨A1, c1, rfl, hr1⟩ := ho1.form
  go_wp2_with fail
  refine (TP.out _ hb1).mono ?_
  rintro e w2 ⟨v2, rfl, ho2, hb2⟩
  obtain ⟨A2, c2, rfl, hr2⟩ := ho2.form
  have hr1 := hr1.to hb2
  have hB := Below.on hb1 hb2
  clear ho1 hb1 ho2 hb2
  go_wp2_with fail
  refine (SP.out A1 c1 A2 c2 w2 hr1 hr2).mono ?_
  rintro e w3 ⟨v3, rfl, ho3, hb3⟩
  obtain ⟨A3, c3, rfl, hr3⟩ := ho3.form
  have HO3 := Lib.hid hr3
  have hB := Below.on hB hb3
  have hs03 := hB.size
  have hB3 := Below.refl w3.heap.size w3
  clear hr1 hr2 ho3 hb3 hr3
  go_wp2_with fail
  refine (T.out _ hB).mono ?_
  rintro e w4 ⟨v4, rfl, ho4, hb4⟩
  obtain ⟨A4, c4, rfl, hr4⟩ := ho4.form
  have hx4 := ho4.blockOf
  have HO4 := Lib.hid ho4
  have hs34 := hb4.size
  have hB := Below.on hB hb4
  have hB3 := Below.on hB3 hb4
  have hB4 := Below.refl w4.heap.size w4
  clear ho4 hb4
  go_wp2_with fail
  refine (TP.out _ hB).mono ?_
  rintro e w5 ⟨v5, rfl, ho5, hb5⟩
  obtain ⟨A5, c5, rfl, hr5⟩ := ho5.form
  have hx5 := ho5.blockOf
  have HO5 := Lib.hid ho5
  have hr4 := hr4.to hb5
  have hB := Below.on hB hb5
  have hB3 := Below.on hB3 hb5
  have hB4 := Below.on hB4 hb5
  have hB5 := Below.refl w5.heap.size w5
  have hs45 := hb5.size
  clear ho5 hb5
  go_wp2_with fail
  refine (IM.out A4 c4 A5 c5 w5 hr4 hr5).mono ?_
  rintro e w6 ⟨v6, rfl, ho6, hb6⟩
  obtain ⟨A6, c6, rfl, hr6⟩ := ho6.form
  have hx6 := ho6.blockOf
  have HO6 := Lib.hid ho6
  have hB := Below.on hB hb6
  have hB3 := Below.on hB3 hb6
  have hB4 := Below.on hB4 hb6
  have hB5 := Below.on hB5 hb6
  have hB6 := Below.refl w6.heap.size w6
  have hs56 := hb6.size
  clear hr4 hr5 hb6 ho6
  go_wp2_with fail
  refine (eqIntS_any _ _ _ _ _ _ _ _ ys ys _ hr6 (HO3.out.below hB3 (Nat.le_refl _)) (by omega) (by omega)).mono ?_
  rintro e w' ⟨rfl, n1, rfl⟩
  clear hr6
  go_wp2_with fail
  refine (T.out _ (below_drewN hB n1)).mono ?_
  rintro e w7 ⟨v7, rfl, ho7, hb7⟩
  have hb7 : Below w6.heap.size w6 w7 := below_of_drewN hb7
  obtain ⟨A7, c7, rfl, hr7⟩ := ho7.form
  have hB := Below.on hB hb7
  have hB3 := Below.on hB3 hb7
  have hB4 := Below.on hB4 hb7
  have hB5 := Below.on hB5 hb7
  have hB6 := Below.on hB6 hb7
  clear ho7 hb7
  go_wp2_with fail
  refine (eqIntS_any _ _ _ _ _ _ _ _ xs xs _ (HO4.out.rd.below hB4 (Nat.le_refl _)) hr7 hl2 hl2).mono ?_
  rintro e w' ⟨rfl, n2, rfl⟩
  clear hr7
  go_wp2_with fail
  refine (TP.out _ (below_drewN hB n2)).mono ?_
  rintro e w8 ⟨v8, rfl, ho8, hb8⟩
  have hb8 : Below w7.heap.size w7 w8 := below_of_drewN hb8
  obtain ⟨A8, c8, rfl, hr8⟩ := ho8.form
  have hB := Below.on hB hb8
  have hB3 := Below.on hB3 hb8
  have hB4 := Below.on hB4 hb8
  have hB5 := Below.on hB5 hb8
  have hB6 := Below.on hB6 hb8
  clear ho8 hb8
  go_wp2_with fail
  refine (eqPairS_any _ _ _ _ _ _ _ _ qs qs _ (HO5.out.rd.below hB5 (Nat.le_refl _)) hr8 hB5.size (Nat.le_refl _) hq2 hq2).mono ?_
  rintro e w9 ⟨rfl, hb9⟩
  have hB := Below.on hB hb9
  have hB3 := Below.on hB3 hb9
  have hB4 := Below.on hB4 hb9
  have hB5 := Below.on hB5 hb9
  have hB6 := Below.on hB6 hb9
  clear hr8 hb9
  go_wp2_with fail
  refine (markIntS_any _ 1 xs _ _ (HO4.out.keep hB4 (Nat.le_refl _)) hl2 (by omega) (by omega)).mono ?_
  rintro e w10 ⟨rfl, _, hg10⟩
  have HO5a := Lib.hid ((HO5.out.keep hB5 (Nat.le_refl _)).chg (Chg.mark hg10) (fun i hi => (hx4 i hi).2))
  have HO6a := Lib.hid ((HO6.out.keep hB6 (Nat.le_refl _)).chg (Chg.mark hg10) (fun i hi => by have := (hx4 i hi).2; omega))
  have hB3a := hB3.grown hg10 hB3.size (fun i hi => (hx4 i hi).1)
  have hBa := hB.grown hg10 hB.size (fun i hi => by have := (hx4 i hi).1; omega)
  clear hB hB3 hB4 hB5 hB6 HO5 HO6 hg10
  go_wp2_with fail
  refine (markPairS_any _ (1 + (xs.length : Int)) qs _ _ HO5a.out hq2 (by omega) (by omega)).mono ?_
  rintro e w11 ⟨rfl, _, hg11⟩
  have HO6b := Lib.hid (HO6a.out.chg (Chg.mark hg11) (fun i hi => by have := (hx5 i hi).2; omega))
  have hB3 := hB3a.grown hg11 hB3a.size (fun i hi => by have := (hx5 i hi).1; omega)
  have hB := hBa.grown hg11 hBa.size (fun i hi => by have := (hx5 i hi).1; omega)
  have k1 : ¬ (1 + (xs.length : Int) + 2 * (qs.length : Int) < 0) := by omega
  clear hBa hB3a hg11 HO6a HO5a
  go_wp2_with fail
  refine (eqIntS_any _ _ _ _ _ _ _ _ ys ys _ HO6b.out.rd (HO3.out.below hB3 (Nat.le_refl _)) (by omega) (by omega)).mono ?_
  rintro e w' ⟨rfl, n3, rfl⟩
  go_wp2_with fail
  refine (markIntS_any _ 1 ys _ _ (HO6b.out.drewN n3) (by omega) (by omega) (by omega)).mono ?_
  rintro e w12 ⟨rfl, ho12, hg12⟩
  have hB3 := (below_drewN hB3 n3).grown hg12 hB3.size (fun i hi => by have := (hx6 i hi).1; omega)
  have hB := (below_drewN hB n3).grown hg12 hB.size (fun i hi => by have := (hx6 i hi).1; omega)
  have HO12 := Lib.hid ho12
  have hB12 := Below.refl w12.heap.size w12
  have hr12 := ho12.rd
  clear hg12 HO6b ho12
  go_wp2_with fail
  refine (heldIntS_any _ _ _ _ 1 _ hr12 (by omega) (by omega) (by omega)).mono ?_
  rintro e w' ⟨rfl, n4, rfl⟩
  clear hr12
  have t1 : ((1 + (ys.length : Int)) != 1 + (ys.length : Int)) = false := by simp
  go_wp2_with fail
  refine (T.out _ (below_drewN hB n4)).mono ?_
  rintro e w13 ⟨v13, rfl, ho13, hb13⟩
  have hb13 : Below w12.heap.size w12 w13 := below_of_drewN hb13
  obtain ⟨A13, c13, rfl, hr13⟩ := ho13.form
  have hB := Below.on hB hb13
  have hB3 := Below.on hB3 hb13
  have hB12 := Below.on hB12 hb13
  clear ho13 hb13
  go_wp2_with fail
  refine (TP.out _ hB).mono ?_
  rintro e w14 ⟨v14, rfl, ho14, hb14⟩
  obtain ⟨A14, c14, rfl, hr14⟩ := ho14.form
  have hr13 := hr13.to hb14
  have hB := Below.on hB hb14
  have hB3 := Below.on hB3 hb14
  have hB12 := Below.on hB12 hb14
  clear ho14 hb14
  go_wp2_with fail
  refine (IM.out A13 c13 A14 c14 w14 hr13 hr14).mono ?_
  rintro e w15 ⟨v15, rfl, ho15, hb15⟩
  obtain ⟨A15, c15, rfl, hr15⟩ := ho15.form
  have hB := Below.on hB hb15
  have hB3 := Below.on hB3 hb15
  have hB12 := Below.on hB12 hb15
  have hr3 := HO3.out.below hB3 (Nat.le_refl _)
  have hr12 := HO12.out.rd.below hB12 (Nat.le_refl _)
  clear hr13 hr14 ho15 hb15
  go_wp2_with fail
  refine (eqIntS_any _ _ _ _ _ _ _ _ ys ys _ hr15 hr3 (by omega) (by omega)).mono ?_
  rintro e w' ⟨rfl, n5, rfl⟩
  go_wp2_with fail
  refine (heldIntS_any _ _ _ _ 1 _ (hr12.drewN n5) (by omega) (by omega) (by omega)).mono ?_
  rintro e w' ⟨rfl, n6, rfl⟩
  go_wp2_with fail
  go_ret
  exact ⟨rfl, below_drewN hB _⟩
end Go.Proofs.Ytebgnaiibomjkaa
