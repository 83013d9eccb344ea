/- The walk of the law on the order of two items in Join: for every row of bytes the law returns true and nothing that was there has turned. -/
import Derived.Test.YtebgnaiibomjkaaJoin
import Derived.Test.YtebgnaiibomjkaaSpecJoin
import Derived.Test.YtebgnaiibomjkaaDraw11
import Derived.Test.YtebgnaiibomjkaaRdR
namespace Go.Proofs.Ytebgnaiibomjkaa
open Go.RowKit

theorem joinB_comm (up : List Int) (r a b : Int) : joinB up r a b = joinB up r b a := by
  have : (rootN up a == rootN up b) = (rootN up b == rootN up a) := by
    rw [Bool.eq_iff_iff]
    simp only [beq_iff_eq]
    exact eq_comm
  unfold joinB
  rw [this]
  cases itemB up a <;> cases itemB up b <;> rfl
theorem hang_at {up : List Int} {p q : Nat} (hp : p < up.length) : (hang up p q)[p]?.getD 0 = (q : Int) := by
  unfold hang
  simp [hp]
set_option maxRecDepth 100000 in
set_option maxHeartbeats 8000000 in
theorem fnEither (A0 : Option Addr) (n0 c0 : Nat) (z0 : List Int) (w : World) (h0 : Row .u8 w A0 n0 c0 z0) :
    Calls Try.prog 8 #[.slice A0 n0 c0] w fun e w' => e = .returned (.bool true) ∧ Below w.heap.size w w' := by
  by_cases hl0 : 1048576 < n0
  · clear h0
    go_enter Try.func8, Try.ntmps8
    go_wp2
    go_ret
    exact ⟨rfl, Below.refl _ _⟩
  obtain ⟨b0, hc0⟩ := h0.bt
  have D0 := Lib.hid (drawJoin_any A0 n0 c0 w.heap.size z0 w b0 (Nat.le_refl _) hc0)
  clear h0 b0 hc0
  go_enter Try.func8, Try.ntmps8
  go_wp2_with fail
  refine D0.out.mono ?_
  rintro e w1 ⟨v, zs, r, a, b, rfl, ho, hl, hrr, ha, hb, hb1⟩
  obtain ⟨A, c, rfl, hr⟩ := ho.form
  obtain ⟨n, hn⟩ : ∃ n, n = zs.length := ⟨_, rfl⟩
  rw [← hn] at hr hl
  rw [← hn]
  clear ho D0 hrr ha hb
  have RI := fun (a b : Int) (w2 : World) (hb2 : Below w1.heap.size w1 w2) => implJoin_any A n c w1.heap.size zs r a b w2 (hr.below hb2 (Nat.le_refl _)) hb2.size (by omega)
  have RS := fun (w2 : World) (hb2 : Below w1.heap.size w1 w2) => specJoin_any A n c w1.heap.size zs r a b w2 (hr.below hb2 (Nat.le_refl _)) hb2.size (by omega)
  have RT := fun (x : Int) (w2 : World) (hb2 : Below w1.heap.size w1 w2) => implRoot_any A n c w1.heap.size zs x w2 (hr.below hb2 (Nat.le_refl _)) hb2.size (by omega)
  cases hv : joinB zs r a b with
  | false =>
    rw [hv] at RS
    have RI := RI a b
    rw [hv] at RI
    have RI := Lib.hid RI
    have RS := Lib.hid RS
    clear hv hn hr RT
    go_wp2_with fail
    refine (RI.out _ (by repeat (first | assumption | exact Below.refl _ _ | refine Below.on ?_ (by assumption)))).mono ?_
    rintro e w2 ⟨v2, rfl, _, hb2⟩
    go_wp2_with fail
    refine (RS.out _ (by repeat (first | assumption | exact Below.refl _ _ | refine Below.on ?_ (by assumption)))).mono ?_
    rintro e w3 ⟨v3, rfl, _, hb3⟩
    go_wp2_with fail
    go_ret
    exact ⟨rfl, (by repeat (first | assumption | exact Below.refl _ _ | refine Below.on ?_ (by assumption)))⟩
  | true =>
    have hv2 : joinB zs r b a = true := by rw [joinB_comm]; exact hv
    obtain ⟨ia, ib, hr3, hne⟩ := joinB_parts hv
    obtain ⟨i, rfl⟩ := Int.eq_ofNat_of_zero_le (item_lt ia).1
    obtain ⟨j, rfl⟩ := Int.eq_ofNat_of_zero_le (item_lt ib).1
    have hf := item_fv ia
    have hi : i < zs.length := by have := (item_lt ia).2; omega
    have hj : j < zs.length := by have := (item_lt ib).2; omega
    simp only [Int.toNat_natCast] at hne
    have T := roots_two hf hi hj hne
    have I1 := RI i j
    have I2 := RI j i
    rw [hv, joinN_yes hv] at I1
    rw [hv2, joinN_yes hv2] at I2
    rw [hv] at RS
    have R1 := RT i
    have R2 := RT j
    rw [rootN_yes ia] at R1
    rw [rootN_yes ib] at R2
    simp only [Int.toNat_natCast] at I1 I2
    unfold joinL at I1 I2
    rw [if_neg hne] at I1
    rw [if_neg (fun e => hne e.symm)] at I2
    obtain ⟨p, hp⟩ : ∃ p, p = rootI zs i := ⟨_, rfl⟩
    obtain ⟨q, hq⟩ : ∃ q, q = rootI zs j := ⟨_, rfl⟩
    rw [← hp, ← hq] at I1 I2 T
    rw [← hp] at R1
    rw [← hq] at R2
    have R1 := Lib.hid R1
    have R2 := Lib.hid R2
    have RS := Lib.hid RS
    have hpn : p < n := by have := T.hp; omega
    have hqn : q < n := by have := T.hq; omega
    have pp : (p : Int) < (n : Int) := by omega
    have qq : (q : Int) < (n : Int) := by omega
    have hn1 : 1 ≤ n := by omega
    by_cases h0 : r = 0
    · subst h0
      have e1 : joinTo zs 0 p q = hang zs p q := by unfold joinTo underB; simp
      have e2 : joinTo zs 0 q p = hang zs q p := by unfold joinTo underB; simp
      rw [e1] at I1
      rw [e2] at I2
      have g1 := Lib.hid (hang_at (q := q) T.hp)
      have g2 := Lib.hid (hang_at (q := p) T.hq)
      have l1 : (hang zs p q).length = n := (hang_len _ _ _).trans hn.symm
      have l2 : (hang zs q p).length = n := (hang_len _ _ _).trans hn.symm
      obtain ⟨u1, hu1⟩ : ∃ u1, u1 = hang zs p q := ⟨_, rfl⟩
      obtain ⟨u2, hu2⟩ : ∃ u2, u2 = hang zs q p := ⟨_, rfl⟩
      rw [← hu1] at I1 l1 g1
      rw [← hu2] at I2 l2 g2
      have I1 := Lib.hid I1
      have I2 := Lib.hid I2
      have L1 := Lib.hid l1
      have L2 := Lib.hid l2
      clear hu1 hu2 e1 e2 T hv hv2 ia ib hr3 hne hf hi hj hn hr RI RT l1 l2 hp hq
      go_wp2_with fail
      refine (I1.out _ (by repeat (first | assumption | exact Below.refl _ _ | refine Below.on ?_ (by assumption)))).mono ?_
      rintro e w2 ⟨v2, rfl, ho2, hb2⟩
      obtain ⟨A2, c2, rfl, _⟩ := ho2.form
      rw [L1.out] at ho2 ⊢
      obtain ⟨x1, rfl⟩ := own_head ho2 hn1
      go_wp2_with fail
      refine (RS.out _ (by repeat (first | assumption | exact Below.refl _ _ | refine Below.on ?_ (by assumption)))).mono ?_
      rintro e w3 ⟨v3, rfl, _, hb3⟩
      have ho2 := ho2.keep hb3 (Nat.le_refl _)
      go_wp2_with fail
      refine (I2.out _ (by repeat (first | assumption | exact Below.refl _ _ | refine Below.on ?_ (by assumption)))).mono ?_
      rintro e w4 ⟨v4, rfl, ho4, hb4⟩
      obtain ⟨A4, c4, rfl, _⟩ := ho4.form
      rw [L2.out] at ho4 ⊢
      obtain ⟨x2, rfl⟩ := own_head ho4 hn1
      have ho2 := ho2.keep hb4 (Nat.le_refl _)
      go_wp2_with fail
      refine (R1.out _ (by repeat (first | assumption | exact Below.refl _ _ | refine Below.on ?_ (by assumption)))).mono ?_
      rintro e w5 ⟨rfl, hb5⟩
      have ho2 := ho2.keep hb5 (Nat.le_refl _)
      have ho4 := ho4.keep hb5 (Nat.le_refl _)
      go_wp2_with fail
      refine (R2.out _ (by repeat (first | assumption | exact Below.refl _ _ | refine Below.on ?_ (by assumption)))).mono ?_
      rintro e w6 ⟨rfl, hb6⟩
      have ho2 := ho2.keep hb6 (Nat.le_refl _)
      have ho4 := ho4.keep hb6 (Nat.le_refl _)
      have s1 := ho2.slot hpn
      have s2 := ho4.slot hqn
      rw [g1.out] at s1
      rw [g2.out] at s2
      clear ho2 ho4 g1 g2
      go_wp2
      go_ret
      exact ⟨rfl, (by repeat (first | assumption | exact Below.refl _ _ | refine Below.on ?_ (by assumption)))⟩
    · have hs := joinTo_symm T h0
      rw [← hs] at I2
      have l1 : (joinTo zs r p q).length = n := (joinTo_len _ _ _ _).trans hn.symm
      obtain ⟨u1, hu1⟩ : ∃ u1, u1 = joinTo zs r p q := ⟨_, rfl⟩
      rw [← hu1] at I1 I2 l1
      have I1 := Lib.hid I1
      have I2 := Lib.hid I2
      have L1 := Lib.hid l1
      have hr0 : (r == 0) = false := by simp [h0]
      clear h0 hs hu1 T hv hv2 ia ib hr3 hne hf hi hj hn hr RI RT l1 hp hq
      go_wp2_with fail
      refine (I1.out _ (by repeat (first | assumption | exact Below.refl _ _ | refine Below.on ?_ (by assumption)))).mono ?_
      rintro e w2 ⟨v2, rfl, ho2, hb2⟩
      obtain ⟨A2, c2, rfl, hr2⟩ := ho2.form
      rw [L1.out] at hr2 ⊢
      clear ho2
      go_wp2_with fail
      refine (RS.out _ (by repeat (first | assumption | exact Below.refl _ _ | refine Below.on ?_ (by assumption)))).mono ?_
      rintro e w3 ⟨v3, rfl, _, hb3⟩
      have hr2 := hr2.to hb3
      go_wp2_with fail
      refine (I2.out _ (by repeat (first | assumption | exact Below.refl _ _ | refine Below.on ?_ (by assumption)))).mono ?_
      rintro e w4 ⟨v4, rfl, ho4, hb4⟩
      obtain ⟨A4, c4, rfl, hr4⟩ := ho4.form
      rw [L1.out] at hr4 ⊢
      clear ho4
      have hr2 := hr2.to hb4
      go_wp2_with fail
      refine (R1.out _ (by repeat (first | assumption | exact Below.refl _ _ | refine Below.on ?_ (by assumption)))).mono ?_
      rintro e w5 ⟨rfl, hb5⟩
      have hr2 := hr2.to hb5
      have hr4 := hr4.to hb5
      go_wp2_with fail
      refine (R2.out _ (by repeat (first | assumption | exact Below.refl _ _ | refine Below.on ?_ (by assumption)))).mono ?_
      rintro e w6 ⟨rfl, hb6⟩
      have hr2 := hr2.to hb6
      have hr4 := hr4.to hb6
      go_wp2_with fail
      refine (lrSame_any _ _ _ _ _ _ _ u1 _ hr2 hr4 (by omega)).mono ?_
      rintro e w7 ⟨rfl, k, rfl⟩
      go_wp2_with fail
      go_ret
      exact ⟨rfl, below_drewN (by repeat (first | assumption | exact Below.refl _ _ | refine Below.on ?_ (by assumption))) _⟩
end Go.Proofs.Ytebgnaiibomjkaa
