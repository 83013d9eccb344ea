/- The walk of the law on joining after looking: for every two rows of bytes the law returns true and nothing that was there has turned. -/
import Derived.Test.YtebgnaiibomjkaaLookFrom
import Derived.Test.YtebgnaiibomjkaaSpecLook
import Derived.Test.YtebgnaiibomjkaaLookP
import Derived.Test.YtebgnaiibomjkaaDraw7
import Derived.Test.YtebgnaiibomjkaaRdR
import Derived.Test.YtebgnaiibomjkaaSame
import Derived.Test.YtebgnaiibomjkaaJoin
namespace Go.Proofs.Ytebgnaiibomjkaa
open Go.RowKit

theorem shr_under {u v : List Int} (S : Shr u v) {p q : Nat} (T : Two u p q) : underB v 1 p q = underB u 1 p q := by
  unfold underB numOf
  simp only [if_true]
  rw [shr_root_size S T.hp T.rp, shr_root_size S T.hq T.rq]
theorem shr_two {u v : List Int} (S : Shr u v) {p q : Nat} (T : Two u p q) : Two v p q :=
  ⟨S.fv, by rw [S.len]; exact T.hp, by rw [S.len]; exact T.hq, (shr_step S T.hp).2 T.rp, (shr_step S T.hq).2 T.rq, T.ne⟩
theorem shr_join {u v : List Int} (S : Shr u v) {p q : Nat} (T : Two u p q) {x : Nat} (hx : x < u.length) : rootI (joinTo v 1 p q) x = rootI (joinTo u 1 p q) x := by
  have T2 := shr_two S T
  unfold joinTo
  rw [shr_under S T]
  cases underB u 1 p q with
  | true =>
    simp only [if_true]
    rw [hang_root T2 (by rw [S.len]; exact hx), hang_root T hx, S.root x hx]
  | false =>
    simp only [Bool.false_eq_true, if_false]
    rw [hang_root T2.symm (by rw [S.len]; exact hx), hang_root T.symm hx, S.root x hx]
theorem shr_join_same {u v : List Int} (S : Shr u v) {p q : Nat} (T : Two u p q) : sameN (joinTo u 1 p q) (joinTo v 1 p q) = true := by
  refine sameN_yes (joinTo_fv T 1) (joinTo_fv (shr_two S T) 1) (by rw [joinTo_len, joinTo_len, S.len]) fun a b ha hb => like_iff.2 ?_
  rw [joinTo_len] at ha
  rw [shr_join S T ha, shr_join S T (show b < u.length by omega)]
set_option maxRecDepth 100000 in
set_option maxHeartbeats 8000000 in
theorem fnLookJoin (A0 : Option Addr) (n0 c0 : Nat) (z0 : List Int) (A1 : Option Addr) (n1 c1 : Nat) (z1 : List Int) (w : World) (h0 : Row .u8 w A0 n0 c0 z0) (_h1 : Row .u8 w A1 n1 c1 z1) :
    Calls Try.prog 9 #[.slice A0 n0 c0, .slice A1 n1 c1] w fun e w' => e = .returned (.bool true) ∧ Below w.heap.size w w' := by
  by_cases hl0 : 1048576 < n0
  · clear h0
    go_enter Try.func9, Try.ntmps9
    go_wp2
    go_ret
    exact ⟨rfl, Below.refl _ _⟩
  by_cases hl1 : 1048576 < n1
  · clear h0
    go_enter Try.func9, Try.ntmps9
    go_wp2
    go_ret
    exact ⟨rfl, Below.refl _ _⟩
  obtain ⟨b0, hc0⟩ := h0.bt
  have D0 := Lib.hid (drawLookUp_any A0 n0 c0 w.heap.size z0 w b0 (Nat.le_refl _) hc0)
  clear h0 b0 hc0
  go_enter Try.func9, Try.ntmps9
  go_wp2_with fail
  refine D0.out.mono ?_
  rintro e w1 ⟨v, zs, l, x, rfl, ho, hl, hlk, hx, hb1⟩
  obtain ⟨A, c, rfl, hr⟩ := ho.form
  obtain ⟨n, hn⟩ : ∃ n, n = zs.length := ⟨_, rfl⟩
  rw [← hn] at hr hl
  rw [← hn]
  clear ho D0
  have RI := fun (w2 : World) (hb2 : Below w1.heap.size w1 w2) => rd2_of (implLookUp_any A n c w1.heap.size zs l x w2 (hr.below hb2 (Nat.le_refl _)) hb2.size (by omega))
  have RS := fun (w2 : World) (hb2 : Below w1.heap.size w1 w2) => rd2_of (specLookUp_any A n c w1.heap.size zs l x w2 (hr.below hb2 (Nat.le_refl _)) hb2.size (by omega))
  cases hv : lookB zs l [x] with
  | false =>
    rw [hv] at RI RS
    have RI := Lib.hid RI
    have RS := Lib.hid RS
    clear hv hn hr
    go_wp2_with fail
    refine (RI.out _ (by repeat (first | assumption | exact Below.refl _ _ | refine Below.on ?_ (by assumption)))).mono ?_
    rintro e w2 ⟨A2, c2, rfl, _, hb2⟩
    go_wp2_with fail
    refine (RS.out _ (by repeat (first | assumption | exact Below.refl _ _ | refine Below.on ?_ (by assumption)))).mono ?_
    rintro e w3 ⟨A3, c3, rfl, _, hb3⟩
    go_wp2_with fail
    go_ret
    exact ⟨rfl, (by repeat (first | assumption | exact Below.refl _ _ | refine Below.on ?_ (by assumption)))⟩
  | true =>
    have hit := (look_item hv).1
    obtain ⟨i, rfl⟩ := Int.eq_ofNat_of_zero_le (item_lt hit).1
    have hf := item_fv hit
    have hi : i < zs.length := by have := (item_lt hit).2; omega
    have hlk2 : 0 ≤ l ∧ l ≤ 3 := by
      have := hv
      rw [lookB_one, hit] at this
      unfold inLook at this
      simpa using this
    have Y := look_yes hit hlk2
    have S := lookT_shr (look_kind l) hf hi
    rw [Y.1, Y.2.1] at RI RS
    obtain ⟨us, hus⟩ : ∃ us, us = lookT (lookAt l) zs i := ⟨_, rfl⟩
    rw [← hus] at RI RS S
    have lu : us.length = n := S.len.trans hn.symm
    rw [lu] at RI RS
    obtain ⟨o, ho⟩ : ∃ o, o = n1 % n := ⟨_, rfl⟩
    have hn1 : 0 < n := by omega
    have hon : o < zs.length := by rw [ho, ← hn]; exact Nat.mod_lt _ hn1
    have htm : (n1 : Int).tmod (n : Int) = (o : Int) := by rw [ho, Int.tmod_eq_emod_of_nonneg (by omega)]; rfl
    have iO : itemB zs (o : Int) = true := item_of hf (by omega) (by omega)
    have iI2 := item_still S hit
    have iO2 := item_still S iO
    have JY := fun (w2 : World) (hb2 : Below w1.heap.size w1 w2) => rd2_of (implJoin_any A n c w1.heap.size zs 1 i o w2 (hr.below hb2 (Nat.le_refl _)) hb2.size (by omega))
    have JZ := fun (A' : Option Addr) (c' B' : Nat) (w2 : World) (h : Rd w2 B' A' n us) (hB : B' ≤ w2.heap.size) => rd2_of (implJoin_any A' n c' B' us 1 i o w2 h hB (by omega))
    obtain ⟨ok, hok⟩ : ∃ ok, ok = joinB zs 1 i o := ⟨_, rfl⟩
    have hok2 : joinB us 1 i o = ok := by
      rw [hok]
      unfold joinB
      rw [iI2, iO2, hit, iO, rootN_yes hit, rootN_yes iO, rootN_yes iI2, rootN_yes iO2, S.root i hi, S.root o hon]
    rw [hok2] at JZ
    rw [← hok] at JY
    have hne0 : ¬ (n : Int) = 0 := by omega
    cases ok with
    | false =>
      have RI := Lib.hid RI
      have RS := Lib.hid RS
      have JY := Lib.hid JY
      have JZ := Lib.hid JZ
      clear hok hok2 iI2 iO2 iO hon lu hus S Y hlk2 hi hf hit hv hn hr ho
      go_wp2_with fail
      refine (RI.out _ (by repeat (first | assumption | exact Below.refl _ _ | refine Below.on ?_ (by assumption)))).mono ?_
      rintro e w2 ⟨A2, c2, rfl, hr2, hb2⟩
      go_wp2_with fail
      refine (RS.out _ (by repeat (first | assumption | exact Below.refl _ _ | refine Below.on ?_ (by assumption)))).mono ?_
      rintro e w3 ⟨A3, c3, rfl, _, hb3⟩
      have hr2 := hr2.to hb3
      go_wp2_with fail
      refine (JY.out _ (by repeat (first | assumption | exact Below.refl _ _ | refine Below.on ?_ (by assumption)))).mono ?_
      rintro e w4 ⟨A4, c4, rfl, _, hb4⟩
      have hr2 := hr2.to hb4
      go_wp2_with fail
      refine (JZ.out A2 c2 _ _ hr2 (Nat.le_refl _)).mono ?_
      rintro e w5 ⟨A5, c5, rfl, _, hb5⟩
      go_wp2_with fail
      go_ret
      exact ⟨rfl, (by repeat (first | assumption | exact Below.refl _ _ | refine Below.on ?_ (by assumption)))⟩
    | true =>
      have hne := (joinB_parts hok.symm).2.2.2
      simp only [Int.toNat_natCast] at hne
      have T := roots_two hf hi hon hne
      have e1 : joinN zs 1 i o = joinTo zs 1 (rootI zs i) (rootI zs o) := by
        rw [joinN_yes hok.symm]
        simp only [Int.toNat_natCast]
        unfold joinL
        rw [if_neg hne]
      have e2 : joinN us 1 i o = joinTo us 1 (rootI zs i) (rootI zs o) := by
        rw [joinN_yes hok2]
        simp only [Int.toNat_natCast]
        unfold joinL
        rw [S.root i hi, S.root o hon, if_neg hne]
      rw [e1] at JY
      rw [e2] at JZ
      have hsm := shr_join_same S T
      have hrt := shr_join S T hi
      have f1 := joinTo_fv T 1
      have f2 := joinTo_fv (shr_two S T) 1
      have l1 : (joinTo zs 1 (rootI zs i) (rootI zs o)).length = n := (joinTo_len _ _ _ _).trans hn.symm
      have l2 : (joinTo us 1 (rootI zs i) (rootI zs o)).length = n := (joinTo_len _ _ _ _).trans lu
      rw [l1] at JY
      rw [l2] at JZ
      obtain ⟨y, hy⟩ : ∃ y, y = joinTo zs 1 (rootI zs i) (rootI zs o) := ⟨_, rfl⟩
      obtain ⟨z, hz⟩ : ∃ z, z = joinTo us 1 (rootI zs i) (rootI zs o) := ⟨_, rfl⟩
      rw [← hy] at JY hsm hrt f1 l1
      rw [← hz] at JZ hsm hrt f2 l2
      have SC := fun (A' A'' : Option Addr) (c' c'' B' B'' : Nat) (w2 : World) (h : Rd w2 B' A' n y) (hB : B' ≤ w2.heap.size) (h' : Rd w2 B'' A'' n z) (hB' : B'' ≤ w2.heap.size) => implSame_any A' n c' B' y A'' n c'' B'' z w2 h hB (by omega) h' hB' (by omega)
      rw [hsm] at SC
      have R1 := fun (A' : Option Addr) (c' B' : Nat) (w2 : World) (h : Rd w2 B' A' n y) (hB : B' ≤ w2.heap.size) => implRoot_any A' n c' B' y i w2 h hB (by omega)
      have R2 := fun (A' : Option Addr) (c' B' : Nat) (w2 : World) (h : Rd w2 B' A' n z) (hB : B' ≤ w2.heap.size) => implRoot_any A' n c' B' z i w2 h hB (by omega)
      rw [rootN_yes (item_of f1 (by omega) (by omega))] at R1
      rw [rootN_yes (item_of f2 (by omega) (by omega)), hrt] at R2
      obtain ⟨t, ht⟩ : ∃ t, t = rootI y i := ⟨_, rfl⟩
      rw [← ht] at R1 R2
      have tt : ((t : Int) == (t : Int)) = true := by simp
      have RI := Lib.hid RI
      have RS := Lib.hid RS
      have JY := Lib.hid JY
      have JZ := Lib.hid JZ
      have SC := Lib.hid SC
      have R1 := Lib.hid R1
      have R2 := Lib.hid R2
      clear ht hy hz l1 l2 f1 f2 hsm hrt e1 e2 T hne hok hok2 iI2 iO2 iO hon lu hus S Y hlk2 hi hf hit hv hn hr ho
      go_wp2_with fail
      refine (RI.out _ (by repeat (first | assumption | exact Below.refl _ _ | refine Below.on ?_ (by assumption)))).mono ?_
      rintro e w2 ⟨A2, c2, rfl, hr2, hb2⟩
      go_wp2_with fail
      refine (RS.out _ (by repeat (first | assumption | exact Below.refl _ _ | refine Below.on ?_ (by assumption)))).mono ?_
      rintro e w3 ⟨A3, c3, rfl, _, hb3⟩
      have hr2 := hr2.to hb3
      go_wp2_with fail
      refine (JY.out _ (by repeat (first | assumption | exact Below.refl _ _ | refine Below.on ?_ (by assumption)))).mono ?_
      rintro e w4 ⟨A4, c4, rfl, hr4, hb4⟩
      have hr2 := hr2.to hb4
      go_wp2_with fail
      refine (JZ.out A2 c2 _ _ hr2 (Nat.le_refl _)).mono ?_
      rintro e w5 ⟨A5, c5, rfl, hr5, hb5⟩
      have hr4 := hr4.to hb5
      go_wp2_with fail
      refine (SC.out A4 A5 c4 c5 _ _ _ hr4 (Nat.le_refl _) hr5 (Nat.le_refl _)).mono ?_
      rintro e w6 ⟨rfl, hb6⟩
      have hr4 := hr4.to hb6
      have hr5 := hr5.to hb6
      go_wp2_with fail
      refine (R1.out A4 c4 _ _ hr4 (Nat.le_refl _)).mono ?_
      rintro e w7 ⟨rfl, hb7⟩
      have hr5 := hr5.to hb7
      go_wp2_with fail
      refine (R2.out A5 c5 _ _ hr5 (Nat.le_refl _)).mono ?_
      rintro e w8 ⟨rfl, hb8⟩
      go_wp2_with fail
      go_ret
      exact ⟨rfl, (by repeat (first | assumption | exact Below.refl _ _ | refine Below.on ?_ (by assumption)))⟩
end Go.Proofs.Ytebgnaiibomjkaa
