/- When three items came together. Condition: none. -/
import Derived.Test.YtdbkoicbhddpfaaBackwards
namespace Go.Proofs.Ytdbkoicbhddpfaa
open Go.RowKit Go.Shelf

theorem tgN_iff {xs : List Int} {ss : List (Int × Int)} {a b k : Nat} : tgN xs ss a b k = true ↔ rootI (upAt xs ss k) a = rootI (upAt xs ss k) b := by unfold tgN; exact decide_eq_true_iff
theorem tgN_up {xs : List Int} {ss : List (Int × Int)} (hv : logV xs ss = true) {a b : Nat} (ha : a < xs.length) (hb : b < xs.length) {k l : Nat} (h : tgN xs ss a b k = true) (hkl : k ≤ l) (hl : l ≤ ss.length) : tgN xs ss a b l = true := by
  have := tgN_from hv ha hb h (l - k) (by omega)
  rwa [show k + (l - k) = l by omega] at this
theorem tgN_tr {xs : List Int} {ss : List (Int × Int)} {a b c k : Nat} (h1 : tgN xs ss a b k = true) (h2 : tgN xs ss b c k = true) : tgN xs ss a c k = true := tgN_iff.2 ((tgN_iff.1 h1).trans (tgN_iff.1 h2))
theorem tgN_sym {xs : List Int} {ss : List (Int × Int)} {a b k : Nat} (h1 : tgN xs ss a b k = true) : tgN xs ss b a k = true := tgN_iff.2 (tgN_iff.1 h1).symm
theorem first_of (p : Nat → Bool) (n : Nat) : p n = true → ∃ x, p x = true ∧ ∀ j, j < x → p j = false :=
  Nat.strongRecOn n fun n ih h => by
    by_cases hh : ∃ j, j < n ∧ p j = true
    · obtain ⟨j, hj, hp⟩ := hh
      exact ih j hj hp
    · refine ⟨n, h, fun j hj => ?_⟩
      cases hc : p j with
      | false => rfl
      | true => exact absurd ⟨j, hj, hc⟩ hh
/-- Together for the first time behind x steps, or never. -/
theorem jat_cases {xs : List Int} {ss : List (Int × Int)} (hv : logV xs ss = true) {a b : Nat} (ha : a < xs.length) (hb : b < xs.length) :
    (jatN xs ss (a : Int) (b : Int) = -1 ∧ ∀ k, k ≤ ss.length → tgN xs ss a b k = false) ∨ ∃ x, x ≤ ss.length ∧ jatN xs ss (a : Int) (b : Int) = (x : Int) ∧ tgN xs ss a b x = true ∧ ∀ j, j < x → tgN xs ss a b j = false := by
  by_cases h : tgN xs ss a b ss.length = true
  · obtain ⟨x, h1, h2⟩ : ∃ x, tgN xs ss a b x = true ∧ ∀ j, j < x → tgN xs ss a b j = false := by
      exact first_of (tgN xs ss a b) _ h
    have hx : x ≤ ss.length := by
      by_cases hc : ss.length < x
      · rw [h2 _ hc] at h; cases h
      · omega
    exact .inr ⟨x, hx, jat_at hv ha hb hx h1 h2, h1, h2⟩
  · have h : tgN xs ss a b ss.length = false := by simpa using h
    refine .inl ⟨jat_never hv ha hb h, fun k hk => ?_⟩
    cases hc : tgN xs ss a b k with
    | false => rfl
    | true => rw [tgN_up hv ha hb hc hk (Nat.le_refl _)] at h; cases h
/-- Three items: of the three times the two latest are one. -/
theorem jat_three {xs : List Int} {ss : List (Int × Int)} (hv : logV xs ss = true) {a b c : Nat} (ha : a < xs.length) (hb : b < xs.length) (hc : c < xs.length) (h : 0 ≤ jatN xs ss (a : Int) (b : Int)) :
    (jatN xs ss (a : Int) (c : Int) = -1 ∧ jatN xs ss (c : Int) (b : Int) = -1) ∨ ∃ x y z : Nat, jatN xs ss (a : Int) (b : Int) = (x : Int) ∧ jatN xs ss (a : Int) (c : Int) = (y : Int) ∧ jatN xs ss (c : Int) (b : Int) = (z : Int) ∧ x ≤ ss.length ∧ y ≤ ss.length ∧ z ≤ ss.length ∧ ((y = z ∧ x ≤ y) ∨ (y < z ∧ x = z) ∨ (z < y ∧ x = y)) := by
  obtain ⟨h1, _⟩ | ⟨x, hx, ex, tx, fx⟩ := jat_cases hv ha hb
  · omega
  obtain ⟨h1, fy⟩ | ⟨y, hy, ey, ty, fy⟩ := jat_cases hv ha hc
  · obtain ⟨h2, _⟩ | ⟨z, hz, ez, tz, fz⟩ := jat_cases hv hc hb
    · exact .inl ⟨h1, h2⟩
    · have t1 := tgN_up hv ha hb tx hx (Nat.le_refl _)
      have t2 := tgN_up hv hc hb tz hz (Nat.le_refl _)
      have := tgN_tr t1 (tgN_sym t2)
      rw [fy _ (Nat.le_refl _)] at this
      cases this
  · obtain ⟨h2, fz⟩ | ⟨z, hz, ez, tz, fz⟩ := jat_cases hv hc hb
    · have t1 := tgN_up hv ha hb tx hx (Nat.le_refl _)
      have t2 := tgN_up hv ha hc ty hy (Nat.le_refl _)
      have := tgN_tr (tgN_sym t2) t1
      rw [fz _ (Nat.le_refl _)] at this
      cases this
    · refine .inr ⟨x, y, z, ex, ey, ez, hx, hy, hz, ?_⟩
      have nx : ∀ k, tgN xs ss a b k = true → x ≤ k := fun k hk => by
        by_cases hlt : k < x
        · rw [fx k hlt] at hk; cases hk
        · omega
      have ny : ∀ k, tgN xs ss a c k = true → y ≤ k := fun k hk => by
        by_cases hlt : k < y
        · rw [fy k hlt] at hk; cases hk
        · omega
      have nz : ∀ k, tgN xs ss c b k = true → z ≤ k := fun k hk => by
        by_cases hlt : k < z
        · rw [fz k hlt] at hk; cases hk
        · omega
      have m1 := nx (max y z) (tgN_tr (tgN_up hv ha hc ty (by omega) (by omega)) (tgN_up hv hc hb tz (by omega) (by omega)))
      have m2 := ny (max x z) (tgN_tr (tgN_up hv ha hb tx (by omega) (by omega)) (tgN_sym (tgN_up hv hc hb tz (by omega) (by omega))))
      have m3 := nz (max x y) (tgN_tr (tgN_sym (tgN_up hv ha hc ty (by omega) (by omega))) (tgN_up hv ha hb tx (by omega) (by omega)))
      omega
end Go.Proofs.Ytdbkoicbhddpfaa
