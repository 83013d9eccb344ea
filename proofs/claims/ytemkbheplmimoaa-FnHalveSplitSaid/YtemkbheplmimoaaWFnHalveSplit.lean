/- The walk of the law on halving and splitting: for every row of bytes the law returns true and nothing that was there has turned. -/
import Derived.Test.YtemkbheplmimoaaImplLook
import Derived.Test.YtemkbheplmimoaaSpecLook3
import Derived.Test.YtemkbheplmimoaaLookP
import Derived.Test.YtemkbheplmimoaaDraw8
import Derived.Test.YtemkbheplmimoaaKit
namespace Go.Proofs.Ytemkbheplmimoaa
open Go.RowKit

set_option maxRecDepth 100000 in
set_option maxHeartbeats 4000000 in
theorem fnHalveSplit (A0 : Option Addr) (n0 c0 : Nat) (z0 : List Int) (w : World) (h0 : Row .u8 w A0 n0 c0 z0) :
    Calls Try.prog 18 #[.slice A0 n0 c0] w fun e w' => e = .returned (.bool true) ∧ Below w.heap.size w w' := by
  by_cases hl0 : 1048576 < n0
  · clear h0
    go_enter Try.func18, Try.ntmps18
    go_wp2
    go_ret
    exact ⟨rfl, Below.refl _ _⟩
  obtain ⟨b0, hc0⟩ := h0.bt
  have D0 := Lib.hid (drawStepsUp_any A0 n0 c0 w.heap.size z0 w b0 (Nat.le_refl _) hc0)
  clear h0 b0 hc0
  go_enter Try.func18, Try.ntmps18
  go_wp2_with fail
  refine D0.out.mono ?_
  rintro e w1 ⟨v, zs, l, x, rfl, ho, hl, hlk, hx, hb1⟩
  obtain ⟨A, c, rfl, hr⟩ := ho.form
  obtain ⟨n, hn⟩ : ∃ n, n = zs.length := ⟨_, rfl⟩
  rw [← hn] at hr hl
  rw [← hn]
  clear ho D0
  have RI := fun (w2 : World) (hb2 : Below w1.heap.size w1 w2) => implStepsUp_any A n c w1.heap.size zs 0 x w2 (hr.below hb2 (Nat.le_refl _)) hb2.size (by omega)
  have RS := fun (w2 : World) (hb2 : Below w1.heap.size w1 w2) => specStepsUp_any A n c w1.heap.size zs 0 x w2 (hr.below hb2 (Nat.le_refl _)) hb2.size (by omega)
  cases hv : lookB zs 0 [x] with
  | false =>
    rw [followedN_no hv] at RI RS
    have RI := Lib.hid RI
    have RS := Lib.hid RS
    clear hv hn hr
    go_wp2_with fail
    refine (RI.out _ (by repeat (first | assumption | exact Below.refl _ _ | refine Below.on ?_ (by assumption)))).mono ?_
    rintro e w2 ⟨rfl, hb2⟩
    go_wp2_with fail
    refine (RS.out _ (by repeat (first | assumption | exact Below.refl _ _ | refine Below.on ?_ (by assumption)))).mono ?_
    rintro e w3 ⟨rfl, hb3⟩
    go_wp2_with fail
    refine (RS.out _ (by repeat (first | assumption | exact Below.refl _ _ | refine Below.on ?_ (by assumption)))).mono ?_
    rintro e w4 ⟨rfl, hb4⟩
    go_wp2_with fail
    go_ret
    exact ⟨rfl, (by repeat (first | assumption | exact Below.refl _ _ | refine Below.on ?_ (by assumption)))⟩
  | true =>
    have hit := (look_item hv).1
    obtain ⟨j, rfl⟩ := Int.eq_ofNat_of_zero_le (item_lt hit).1
    have hf := item_fv hit
    have hj : j < zs.length := by have := (item_lt hit).2; omega
    have Y0 := look_yes hit (l := 0) (by omega)
    have Y1 := look_yes hit (l := 1) (by omega)
    have Y2 := look_yes hit (l := 2) (by omega)
    have Y3 := look_yes hit (l := 3) (by omega)
    have S1 := lookT_shr cut_kind hf hj
    have S2 := lookT_shr halve_kind hf hj
    have S3 := lookT_shr split_kind hf hj
    have C1 := cut_count hf hj
    have C2 := halve_count hf hj
    have C3 := split_count hf hj
    have C0 := bare_count hf hj
    have Z1 := look_yes (item_still S1 hit) (l := 1) (by omega)
    have TW := cut_twice hf hj
    have X1 := (look_yes (item_still S1 hit) (l := 0) (by omega)).2.2
    have X2 := (look_yes (item_still S2 hit) (l := 0) (by omega)).2.2
    have X3 := (look_yes (item_still S3 hit) (l := 0) (by omega)).2.2
    have B1 := (bare_count S1.fv (i := j) (by rw [S1.len]; exact hj)).1
    have B2 := (bare_count S2.fv (i := j) (by rw [S2.len]; exact hj)).1
    have B3 := (bare_count S3.fv (i := j) (by rw [S3.len]; exact hj)).1
    rw [lookAt_0] at X1 X2 X3 Y0
    rw [lookAt_1] at Y1 Z1
    rw [lookAt_2] at Y2
    rw [lookAt_3] at Y3
    rw [Y0.2.2, C0.1] at RI RS
    rw [B1, C1.2] at X1
    rw [B2, C2.2] at X2
    rw [B3, C3.2] at X3
    have hdeep := shr_deep S3
    obtain ⟨d, hd⟩ : ∃ d, d = dist zs j := ⟨_, rfl⟩
    rw [← hd] at RI RS X1 X2 X3
    have IL := fun (l : Int) (w2 : World) (hb2 : Below w1.heap.size w1 w2) => rd2_of (implLookUp_any A n c w1.heap.size zs l (j : Int) w2 (hr.below hb2 (Nat.le_refl _)) hb2.size (by omega))
    have I1 := IL 1
    have I2 := IL 2
    have I3 := IL 3
    rw [Y1.1, Y1.2.1] at I1
    rw [Y2.1, Y2.2.1] at I2
    rw [Y3.1, Y3.2.1] at I3
    have l1 : (lookT cutAt zs j).length = n := S1.len.trans hn.symm
    have l2 : (lookT halveAt zs j).length = n := S2.len.trans hn.symm
    have l3 : (lookT splitAt' zs j).length = n := S3.len.trans hn.symm
    have J1 := fun (A' : Option Addr) (c' B' : Nat) (w2 : World) (h : Rd w2 B' A' n (lookT cutAt zs j)) (hB : B' ≤ w2.heap.size) => rd2_of (implLookUp_any A' n c' B' (lookT cutAt zs j) 1 (j : Int) w2 h hB (by omega))
    rw [Z1.1, Z1.2.1, TW] at J1
    have K1 := fun (A' : Option Addr) (c' B' : Nat) (w2 : World) (h : Rd w2 B' A' n (lookT cutAt zs j)) (hB : B' ≤ w2.heap.size) => implStepsUp_any A' n c' B' (lookT cutAt zs j) 0 (j : Int) w2 h hB (by omega)
    have K2 := fun (A' : Option Addr) (c' B' : Nat) (w2 : World) (h : Rd w2 B' A' n (lookT halveAt zs j)) (hB : B' ≤ w2.heap.size) => implStepsUp_any A' n c' B' (lookT halveAt zs j) 0 (j : Int) w2 h hB (by omega)
    have K3 := fun (A' : Option Addr) (c' B' : Nat) (w2 : World) (h : Rd w2 B' A' n (lookT splitAt' zs j)) (hB : B' ≤ w2.heap.size) => implStepsUp_any A' n c' B' (lookT splitAt' zs j) 0 (j : Int) w2 h hB (by omega)
    rw [X1] at K1
    rw [X2] at K2
    rw [X3] at K3
    have E1 := fun (A' : Option Addr) (c' B' : Nat) (w2 : World) (h : Rd w2 B' A' n (lookT splitAt' zs j)) (hB : B' ≤ w2.heap.size) => implDeep_any A' n c' B' (lookT splitAt' zs j) w2 h hB (by omega)
    have E0 := fun (w2 : World) (hb2 : Below w1.heap.size w1 w2) => implDeep_any A n c w1.heap.size zs w2 (hr.below hb2 (Nat.le_refl _)) hb2.size (by omega)
    rw [l1] at I1 J1
    rw [l2] at I2
    rw [l3] at I3
    obtain ⟨e1, he1⟩ : ∃ e1, e1 = deepN (lookT splitAt' zs j) := ⟨_, rfl⟩
    obtain ⟨e0, he0⟩ : ∃ e0, e0 = deepN zs := ⟨_, rfl⟩
    rw [← he1] at E1 hdeep
    rw [← he0] at E0 hdeep
    clear he1 he0
    obtain ⟨u1, hu1⟩ : ∃ u1, u1 = lookT cutAt zs j := ⟨_, rfl⟩
    obtain ⟨u2, hu2⟩ : ∃ u2, u2 = lookT halveAt zs j := ⟨_, rfl⟩
    obtain ⟨u3, hu3⟩ : ∃ u3, u3 = lookT splitAt' zs j := ⟨_, rfl⟩
    rw [← hu1] at I1 J1 K1
    rw [← hu2] at I2 K2
    rw [← hu3] at I3 K3 E1
    obtain ⟨k, hk⟩ : ∃ k, k = (d + 1) / 2 := ⟨_, rfl⟩
    rw [← hk] at K2 K3
    have I1 := Lib.hid I1
    have I2 := Lib.hid I2
    have I3 := Lib.hid I3
    have J1 := Lib.hid J1
    have K1 := Lib.hid K1
    have K2 := Lib.hid K2
    have K3 := Lib.hid K3
    have E1 := Lib.hid E1
    have E0 := Lib.hid E0
    have RI := Lib.hid RI
    have RS := Lib.hid RS
    have hmin : min (d : Int) 1 = ((min d 1 : Nat) : Int) := by omega
    have hd0 : ¬ ((d : Int) < 0) := by omega
    have hdd : ((d : Int) != (d : Int)) = false := by simp
    have hkk : ((k : Int) == (k : Int)) = true := by simp
    clear hu1 hu2 hu3 IL l1 l2 l3 X1 X2 X3 Y0 Y1 Y2 Y3 Z1 TW B1 B2 B3 C0 C1 C2 C3 S1 S2 S3 hv hit hf hj hn hr hk hd
    obtain ⟨q, hq⟩ : ∃ q, q = min d 1 := ⟨_, rfl⟩
    have K1 : Hid (∀ (A' : Option Addr) (c' B' : Nat) (w2 : World), Rd w2 B' A' n u1 → B' ≤ w2.heap.size → Calls Try.prog 58 #[.slice A' n c', .int .i64 0, .int .i64 (j : Int)] w2 fun e w' => e = .returned (.int .i64 (q : Int)) ∧ Below w2.heap.size w2 w') := by
      rw [hq]
      exact K1
    clear hmin
    by_cases hd1 : d ≤ 1
    all_goals
     first
     | (have e : d = q := by omega
        subst e
        have hmin : (d : Int) ≤ 1 := by omega)
     | (have e : 1 = q := by omega
        subst e
        have hmin : ¬ ((d : Int) ≤ 1) := by omega)
     clear hq hd1
     go_wp2_with fail
     refine (RI.out _ (by repeat (first | assumption | exact Below.refl _ _ | refine Below.on ?_ (by assumption)))).mono ?_
     rintro e w2 ⟨rfl, hb2⟩
     go_wp2_with fail
     refine (RS.out _ (by repeat (first | assumption | exact Below.refl _ _ | refine Below.on ?_ (by assumption)))).mono ?_
     rintro e w3 ⟨rfl, hb3⟩
     go_wp2_with fail
     refine (I2.out _ (by repeat (first | assumption | exact Below.refl _ _ | refine Below.on ?_ (by assumption)))).mono ?_
     rintro e w4 ⟨A2, c2, rfl, hr2, hb4⟩
     go_wp2_with fail
     refine (I3.out _ (by repeat (first | assumption | exact Below.refl _ _ | refine Below.on ?_ (by assumption)))).mono ?_
     rintro e w5 ⟨A3, c3, rfl, hr3, hb5⟩
     go_wp2_with fail
     refine (I1.out _ (by repeat (first | assumption | exact Below.refl _ _ | refine Below.on ?_ (by assumption)))).mono ?_
     rintro e w6 ⟨A4, c4, rfl, hr4, hb6⟩
     go_wp2_with fail
     refine (J1.out A4 c4 _ _ hr4 (Nat.le_refl _)).mono ?_
     rintro e w7 ⟨A5, c5, rfl, hr5, hb7⟩
     have hr2 := ((hr2.to hb5).to hb6).to hb7
     have hr3 := (hr3.to hb6).to hb7
     have hr4 := hr4.to hb7
     go_wp2_with fail
     refine (K2.out A2 c2 _ _ hr2 (Nat.le_refl _)).mono ?_
     rintro e w8 ⟨rfl, hb8⟩
     have hr3 := hr3.to hb8
     have hr4 := hr4.to hb8
     have hr5 := hr5.to hb8
     go_wp2_with fail
     refine (K3.out A3 c3 _ _ hr3 (Nat.le_refl _)).mono ?_
     rintro e w9 ⟨rfl, hb9⟩
     have hr3 := hr3.to hb9
     have hr4 := hr4.to hb9
     have hr5 := hr5.to hb9
     go_wp2_with fail
     refine (q_of (lrSame_any A4 A5 n c4 c5 _ _ u1 _ hr4 hr5 (by omega))).mono ?_
     rintro e w10 ⟨rfl, hb10⟩
     have hr3 := hr3.to hb10
     have hr4 := hr4.to hb10
     go_wp2_with fail
     refine (K1.out A4 c4 _ _ hr4 (Nat.le_refl _)).mono ?_
     rintro e w11 ⟨rfl, hb11⟩
     have hr3 := hr3.to hb11
     go_wp2_with fail
     refine (E1.out A3 c3 _ _ hr3 (Nat.le_refl _)).mono ?_
     rintro e w12 ⟨rfl, hb12⟩
     go_wp2_with fail
     refine (E0.out _ (by repeat (first | assumption | exact Below.refl _ _ | refine Below.on ?_ (by assumption)))).mono ?_
     rintro e w13 ⟨rfl, hb13⟩
     go_wp2_with fail
     go_ret
     exact ⟨rfl, (by repeat (first | assumption | exact Below.refl _ _ | refine Below.on ?_ (by assumption)))⟩
end Go.Proofs.Ytemkbheplmimoaa
