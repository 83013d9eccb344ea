/- Since when two items are together: what the laws say of it. Condition: none. -/
import Derived.Test.YtfafgihfgdpclaaSinceAt
namespace Go.Proofs.Ytfafgihfgdpclaa
open Go.RowKit Go.Shelf

theorem since_valid {us ts : List Int} {a b : Int} (h : 0 ≤ sinceN us ts a b) : tmB us ts = true := by
  cases e : tmB us ts with
  | true => rfl
  | false => rw [since_no e] at h; omega
theorem tgAt_sym {us ts : List Int} (hv : fvB us = true) {a b : Int} {k : Nat} (h : tgAt us ts a b k = true) : tgAt us ts b a k = true := by
  unfold tgAt at h ⊢
  rw [tog_iff (atL_fv hv _)] at h ⊢
  exact ⟨h.2.1, h.1, h.2.2.symm⟩
theorem tgAt_tr {us ts : List Int} (hv : fvB us = true) {a b c : Int} {k : Nat} (h : tgAt us ts a b k = true) (h2 : tgAt us ts b c k = true) : tgAt us ts a c k = true := by
  unfold tgAt at h h2 ⊢
  rw [tog_iff (atL_fv hv _)] at h h2 ⊢
  exact ⟨h.1, h2.2.1, h.2.2.trans h2.2.2⟩
theorem first_at (p : Nat → Bool) (n : Nat) : p n = true → ∃ x, x ≤ n ∧ p x = true ∧ ∀ j, j < x → p j = false :=
  Nat.strongRecOn n fun n ih h => by
    by_cases hh : ∃ j, j < n ∧ p j = true
    · obtain ⟨j, hj, hp⟩ := hh
      obtain ⟨x, h1, h2⟩ := ih j hj hp
      exact ⟨x, by omega, h2⟩
    · refine ⟨n, Nat.le_refl _, h, fun j hj => ?_⟩
      cases hc : p j with
      | false => rfl
      | true => exact absurd ⟨j, hj, hc⟩ hh
/-- Together for the first time behind x pairs, or never. -/
theorem since_cases {us ts : List Int} (h : tmB us ts = true) (a b : Int) :
    (sinceN us ts a b = -1 ∧ ∀ k, k ≤ 24 → tgAt us ts a b k = false) ∨ ∃ x : Nat, x ≤ 24 ∧ sinceN us ts a b = (x : Int) ∧ tgAt us ts a b x = true ∧ ∀ j, j < x → tgAt us ts a b j = false := by
  have hv := (tmB_parts h).1
  cases e : tgAt us ts a b 24 with
  | true =>
    obtain ⟨x, h0, h1, h2⟩ := first_at (tgAt us ts a b) 24 e
    exact .inr ⟨x, h0, since_at h (by omega) h1 h2, h1, h2⟩
  | false =>
    have hno : ∀ k, k ≤ 24 → tgAt us ts a b k = false := fun k hk => by
      cases hc : tgAt us ts a b k with
      | false => rfl
      | true => rw [tgAt_on hv hk hc] at e; cases e
    exact .inl ⟨since_never h fun j hj => hno j (by omega), hno⟩
/-- Three items: of the three times the two latest are one. -/
theorem since_three {us ts : List Int} (h : tmB us ts = true) {a b c : Int} (h0 : 0 ≤ sinceN us ts a b) :
    (sinceN us ts a c = -1 ∧ sinceN us ts c b = -1) ∨ ∃ x y z : Nat, sinceN us ts a b = (x : Int) ∧ sinceN us ts a c = (y : Int) ∧ sinceN us ts c b = (z : Int) ∧ x ≤ 24 ∧ y ≤ 24 ∧ z ≤ 24 ∧ ((y = z ∧ x ≤ y) ∨ (y < z ∧ x = z) ∨ (z < y ∧ x = y)) := by
  have hv := (tmB_parts h).1
  have up := fun {a b : Int} {k l : Nat} (hk : tgAt us ts a b k = true) (hl : k ≤ l) => tgAt_on hv (a := a) (b := b) hl hk
  obtain ⟨h1, _⟩ | ⟨x, hx, ex, tx, fx⟩ := since_cases h a b
  · omega
  obtain ⟨h1, fy⟩ | ⟨y, hy, ey, ty, fy⟩ := since_cases h a c
  · obtain ⟨h2, _⟩ | ⟨z, hz, ez, tz, fz⟩ := since_cases h c b
    · exact .inl ⟨h1, h2⟩
    · have := tgAt_tr hv (up tx hx) (tgAt_sym hv (up tz hz))
      rw [fy _ (Nat.le_refl _)] at this
      cases this
  · obtain ⟨h2, fz⟩ | ⟨z, hz, ez, tz, fz⟩ := since_cases h c b
    · have := tgAt_tr hv (tgAt_sym hv (up ty hy)) (up tx hx)
      rw [fz _ (Nat.le_refl _)] at this
      cases this
    · refine .inr ⟨x, y, z, ex, ey, ez, hx, hy, hz, ?_⟩
      have nx : ∀ k, tgAt us ts a b k = true → x ≤ k := fun k hk => by
        by_cases hlt : k < x
        · rw [fx k hlt] at hk; cases hk
        · omega
      have ny : ∀ k, tgAt us ts a c k = true → y ≤ k := fun k hk => by
        by_cases hlt : k < y
        · rw [fy k hlt] at hk; cases hk
        · omega
      have nz : ∀ k, tgAt us ts c b k = true → z ≤ k := fun k hk => by
        by_cases hlt : k < z
        · rw [fz k hlt] at hk; cases hk
        · omega
      have m1 := nx (max y z) (tgAt_tr hv (up ty (by omega)) (up tz (by omega)))
      have m2 := ny (max x z) (tgAt_tr hv (up tx (by omega)) (tgAt_sym hv (up tz (by omega))))
      have m3 := nz (max x y) (tgAt_tr hv (tgAt_sym hv (up ty (by omega))) (up tx (by omega)))
      omega
theorem tgAt_swap {us ts : List Int} (hv : fvB us = true) (a b : Int) : tgAt us ts b a = tgAt us ts a b := by
  funext k
  cases e : tgAt us ts a b k with
  | true => exact tgAt_sym hv e
  | false =>
    cases e2 : tgAt us ts b a k with
    | false => rfl
    | true => rw [tgAt_sym hv e2] at e; cases e
theorem since_swap {us ts : List Int} (h : tmB us ts = true) (a b : Int) : sinceN us ts b a = sinceN us ts a b := by
  rw [since_yes h, since_yes h, tgAt_swap (tmB_parts h).1]
/-- At a time from 0 to 24: together, or not. -/
theorem tog_at {us ts : List Int} (h : tmB us ts = true) {a b : Int} {k : Nat} (hk : k ≤ 24) : togB (faL us ts (k : Int)) a b = tgAt us ts a b k := by
  rw [faL_yes (by unfold askB; rw [h, decide_eq_true (by omega)]; rfl)]
  rfl
end Go.Proofs.Ytfafgihfgdpclaa
