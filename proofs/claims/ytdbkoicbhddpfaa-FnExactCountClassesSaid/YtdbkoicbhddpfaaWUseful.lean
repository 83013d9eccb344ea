/- The walks of the exact laws of UsefulPairs and CountClasses: for every number and slice of pairs the laws return true and nothing that was there has turned. -/
import Derived.Test.YtdbkoicbhddpfaaJoinAll
import Derived.Test.YtdbkoicbhddpfaaSpecAll
import Derived.Test.YtdbkoicbhddpfaaExactQ
import Derived.Test.YtdbkoicbhddpfaaOpen
namespace Go.Proofs.Ytdbkoicbhddpfaa
open Go.RowKit

set_option maxRecDepth 100000 in
set_option maxHeartbeats 8000000 in
theorem exactUseful (n : Int) (A' : Option Addr) (m c' : Nat) (qs : List (Int × Int)) (w : World) (h2 : RowQ w A' m c' qs) :
    Calls Try.prog 10 #[.int .i64 n, .slice A' m c'] w fun e w' => e = .returned (.bool true) ∧ Below w.heap.size w w' := by
  have SZ := Lib.hid (szPairS_any A' m c' 1048576 w h2.small (by omega) (by omega))
  by_cases hlm : 1048576 < m
  · rw [if_pos (by omega)] at SZ
    clear h2
    go_enter Try.func10, Try.ntmps10
    go_wp2_with fail
    refine SZ.out.mono ?_
    rintro e w1 ⟨rfl, rfl⟩
    go_wp2_with fail
    go_ret
    exact ⟨rfl, Below.refl _ _⟩
  rw [if_neg (by omega)] at SZ
  have hz0 : ¬ (1048576 : Int) - (m : Int) < 0 := by omega
  have hlq := h2.rd.len
  have hq2 : qs.length ≤ 1048576 := by omega
  have TP := Lib.hid (fun (w1 : World) (hb : Below w.heap.size w w1) => toPairS_any A' m c' qs w1 (h2.rd.to hb) (by omega))
  have SP := Lib.hid (fun (A' : Option Addr) (c' : Nat) (w : World) (h' : RdQ w w.heap.size A' qs.length qs) => specUseful_any n A' qs.length c' _ qs w h' (Nat.le_refl _) hq2)
  have IM := Lib.hid (fun (A' : Option Addr) (c' : Nat) (w : World) (h' : RdQ w w.heap.size A' qs.length qs) => implUseful_any n A' qs.length c' _ qs w h' (Nat.le_refl _) hq2)
  have hy := usN_len n qs
  revert SP IM hy
  generalize usN n qs = ys
  generalize usB n qs = ok
  intro SP IM hy
  clear h2 hlq
  have dy : decide (ys = ys) = true := by simp
  have dq : decide (qs = qs) = true := by simp
  have dk : (ok != ok) = false := by cases ok <;> rfl
  go_enter Try.func10, Try.ntmps10
  go_wp2_with fail
  refine SZ.out.mono ?_
  rintro e w1 ⟨rfl, rfl⟩
  go_wp2_with fail
  refine (TP.out _ (Below.refl _ _)).mono ?_
  rintro e w2 ⟨v2, rfl, ho2, hb2⟩
  obtain ⟨A2, c2, rfl, hr2⟩ := ho2.form
  have hB := hb2
  clear ho2 hb2
  go_wp2_with fail
  refine (SP.out A2 c2 w2 hr2).mono ?_
  rintro e w3 ⟨v3, rfl, ho3, hb3⟩
  obtain ⟨A3, c3, rfl, hr3⟩ := ho3.form
  have HO3 := Lib.hid hr3
  have hB := Below.on hB hb3
  have hs03 := hB.size
  have hB3 := Below.refl w3.heap.size w3
  clear ho3 hb3 hr3
  go_wp2_with fail
  refine (TP.out _ hB).mono ?_
  rintro e w5 ⟨v5, rfl, ho5, hb5⟩
  obtain ⟨A5, c5, rfl, hr5⟩ := ho5.form
  have hx5 := ho5.blockOf
  have HO5 := Lib.hid ho5
  have hB := Below.on hB hb5
  have hB3 := Below.on hB3 hb5
  have hB5 := Below.refl w5.heap.size w5
  have hs35 := hb5.size
  clear ho5 hb5
  go_wp2_with fail
  refine (IM.out A5 c5 w5 hr5).mono ?_
  rintro e w6 ⟨v6, rfl, ho6, hb6⟩
  obtain ⟨A6, c6, rfl, hr6⟩ := ho6.form
  have hx6 := ho6.blockOf
  have HO6 := Lib.hid ho6
  have hB := Below.on hB hb6
  have hB3 := Below.on hB3 hb6
  have hB5 := Below.on hB5 hb6
  have hB6 := Below.refl w6.heap.size w6
  have hs56 := hb6.size
  clear hr5 hb6 ho6
  go_wp2_with fail
  refine (eqIntS_any _ _ _ _ _ _ _ _ ys ys _ hr6 (HO3.out.below hB3 (Nat.le_refl _)) (by omega) (by omega)).mono ?_
  rintro e w' ⟨rfl, n1, rfl⟩
  clear hr6
  go_wp2_with fail
  refine (TP.out _ (below_drewN hB n1)).mono ?_
  rintro e w8 ⟨v8, rfl, ho8, hb8⟩
  have hb8 : Below w6.heap.size w6 w8 := below_of_drewN hb8
  obtain ⟨A8, c8, rfl, hr8⟩ := ho8.form
  have hB := Below.on hB hb8
  have hB3 := Below.on hB3 hb8
  have hB5 := Below.on hB5 hb8
  have hB6 := Below.on hB6 hb8
  clear ho8 hb8
  go_wp2_with fail
  refine (eqPairS_any _ _ _ _ _ _ _ _ qs qs _ (HO5.out.rd.below hB5 (Nat.le_refl _)) hr8 hB5.size (Nat.le_refl _) hq2 hq2).mono ?_
  rintro e w9 ⟨rfl, hb9⟩
  have hB := Below.on hB hb9
  have hB3 := Below.on hB3 hb9
  have hB5 := Below.on hB5 hb9
  have hB6 := Below.on hB6 hb9
  clear hr8 hb9
  go_wp2_with fail
  refine (markPairS_any _ 1 qs _ _ (HO5.out.keep hB5 (Nat.le_refl _)) hq2 (by omega) (by omega)).mono ?_
  rintro e w11 ⟨rfl, _, hg11⟩
  have HO6b := Lib.hid ((HO6.out.keep hB6 (Nat.le_refl _)).chg (Chg.mark hg11) (fun i hi => by have := (hx5 i hi).2; omega))
  have hB3a := hB3.grown hg11 hB3.size (fun i hi => by have := (hx5 i hi).1; omega)
  have hBa := hB.grown hg11 hB.size (fun i hi => by have := (hx5 i hi).1; omega)
  have k1 : ¬ (1 + 2 * (qs.length : Int) < 0) := by omega
  clear hB hB3 hB5 hB6 hg11 HO6 HO5
  go_wp2_with fail
  refine (eqIntS_any _ _ _ _ _ _ _ _ ys ys _ HO6b.out.rd (HO3.out.below hB3a (Nat.le_refl _)) (by omega) (by omega)).mono ?_
  rintro e w' ⟨rfl, n3, rfl⟩
  go_wp2_with fail
  refine (markIntS_any _ 1 ys _ _ (HO6b.out.drewN n3) (by omega) (by omega) (by omega)).mono ?_
  rintro e w12 ⟨rfl, ho12, hg12⟩
  have hB3 := (below_drewN hB3a n3).grown hg12 hB3a.size (fun i hi => by have := (hx6 i hi).1; omega)
  have hB := (below_drewN hBa n3).grown hg12 hBa.size (fun i hi => by have := (hx6 i hi).1; omega)
  have HO12 := Lib.hid ho12
  have hB12 := Below.refl w12.heap.size w12
  have hr12 := ho12.rd
  clear hg12 HO6b ho12 hB3a hBa
  go_wp2_with fail
  refine (heldIntS_any _ _ _ _ 1 _ hr12 (by omega) (by omega) (by omega)).mono ?_
  rintro e w' ⟨rfl, n4, rfl⟩
  clear hr12
  have t1 : ((1 + (ys.length : Int)) != 1 + (ys.length : Int)) = false := by simp
  go_wp2_with fail
  refine (TP.out _ (below_drewN hB n4)).mono ?_
  rintro e w14 ⟨v14, rfl, ho14, hb14⟩
  have hb14 : Below w12.heap.size w12 w14 := below_of_drewN hb14
  obtain ⟨A14, c14, rfl, hr14⟩ := ho14.form
  have hB := Below.on hB hb14
  have hB3 := Below.on hB3 hb14
  have hB12 := Below.on hB12 hb14
  clear ho14 hb14
  go_wp2_with fail
  refine (IM.out A14 c14 w14 hr14).mono ?_
  rintro e w15 ⟨v15, rfl, ho15, hb15⟩
  obtain ⟨A15, c15, rfl, hr15⟩ := ho15.form
  have hB := Below.on hB hb15
  have hB3 := Below.on hB3 hb15
  have hB12 := Below.on hB12 hb15
  have hr3 := HO3.out.below hB3 (Nat.le_refl _)
  have hr12 := HO12.out.rd.below hB12 (Nat.le_refl _)
  clear hr14 ho15 hb15
  go_wp2_with fail
  refine (eqIntS_any _ _ _ _ _ _ _ _ ys ys _ hr15 hr3 (by omega) (by omega)).mono ?_
  rintro e w' ⟨rfl, n5, rfl⟩
  go_wp2_with fail
  refine (heldIntS_any _ _ _ _ 1 _ (hr12.drewN n5) (by omega) (by omega) (by omega)).mono ?_
  rintro e w' ⟨rfl, n6, rfl⟩
  go_wp2_with fail
  go_ret
  exact ⟨rfl, below_drewN hB _⟩

set_option maxRecDepth 100000 in
set_option maxHeartbeats 8000000 in
theorem exactCount (n : Int) (A' : Option Addr) (m c' : Nat) (qs : List (Int × Int)) (w : World) (h2 : RowQ w A' m c' qs) :
    Calls Try.prog 11 #[.int .i64 n, .slice A' m c'] w fun e w' => e = .returned (.bool true) ∧ Below w.heap.size w w' := by
  have SZ := Lib.hid (szPairS_any A' m c' 1048576 w h2.small (by omega) (by omega))
  by_cases hlm : 1048576 < m
  · rw [if_pos (by omega)] at SZ
    clear h2
    go_enter Try.func11, Try.ntmps11
    go_wp2_with fail
    refine SZ.out.mono ?_
    rintro e w1 ⟨rfl, rfl⟩
    go_wp2_with fail
    go_ret
    exact ⟨rfl, Below.refl _ _⟩
  rw [if_neg (by omega)] at SZ
  have hz0 : ¬ (1048576 : Int) - (m : Int) < 0 := by omega
  have hlq := h2.rd.len
  have hq2 : qs.length ≤ 1048576 := by omega
  have TP := Lib.hid (fun (w1 : World) (hb : Below w.heap.size w w1) => toPairS_any A' m c' qs w1 (h2.rd.to hb) (by omega))
  have SP := Lib.hid (fun (A' : Option Addr) (c' : Nat) (w : World) (h' : RdQ w w.heap.size A' qs.length qs) => specCount_any n A' qs.length c' _ qs w h' (Nat.le_refl _) hq2)
  have IM := Lib.hid (fun (A' : Option Addr) (c' : Nat) (w : World) (h' : RdQ w w.heap.size A' qs.length qs) => implCount_any n A' qs.length c' _ qs w h' (Nat.le_refl _) hq2)
  revert SP IM
  generalize ccN n qs = z
  intro SP IM
  clear h2 hlq
  have dq : decide (qs = qs) = true := by simp
  have dk : (z != z) = false := by simp
  go_enter Try.func11, Try.ntmps11
  go_wp2_with fail
  refine SZ.out.mono ?_
  rintro e w1 ⟨rfl, rfl⟩
  go_wp2_with fail
  refine (TP.out _ (Below.refl _ _)).mono ?_
  rintro e w2 ⟨v2, rfl, ho2, hb2⟩
  obtain ⟨A2, c2, rfl, hr2⟩ := ho2.form
  have hB := hb2
  clear ho2 hb2
  go_wp2_with fail
  refine (SP.out A2 c2 w2 hr2).mono ?_
  rintro e w3 ⟨rfl, hb3⟩
  have hB := Below.on hB hb3
  clear hb3
  go_wp2_with fail
  refine (TP.out _ hB).mono ?_
  rintro e w5 ⟨v5, rfl, ho5, hb5⟩
  obtain ⟨A5, c5, rfl, hr5⟩ := ho5.form
  have HO5 := Lib.hid ho5
  have hB := Below.on hB hb5
  have hB5 := Below.refl w5.heap.size w5
  clear ho5 hb5
  go_wp2_with fail
  refine (IM.out A5 c5 w5 hr5).mono ?_
  rintro e w6 ⟨rfl, hb6⟩
  have hB := Below.on hB hb6
  have hB5 := Below.on hB5 hb6
  clear hr5 hb6
  go_wp2_with fail
  refine (TP.out _ hB).mono ?_
  rintro e w8 ⟨v8, rfl, ho8, hb8⟩
  obtain ⟨A8, c8, rfl, hr8⟩ := ho8.form
  have hB := Below.on hB hb8
  have hB5 := Below.on hB5 hb8
  clear ho8 hb8
  go_wp2_with fail
  refine (eqPairS_any _ _ _ _ _ _ _ _ qs qs _ (HO5.out.rd.below hB5 (Nat.le_refl _)) hr8 hB5.size (Nat.le_refl _) hq2 hq2).mono ?_
  rintro e w9 ⟨rfl, hb9⟩
  have hB := Below.on hB hb9
  clear hr8 hb9
  go_wp2_with fail
  go_ret
  exact ⟨rfl, hB⟩
end Go.Proofs.Ytdbkoicbhddpfaa
