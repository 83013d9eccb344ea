/- How often one has to look until an item is right under its root: the first number. Plain lists, no program. -/
import Derived.Test.YtemkbheplmimoaaLookD
namespace Go.Proofs.Ytemkbheplmimoaa

theorem firstFlat_skip {T : List Int → List Nat → Nat → List Int} {up : List Int} {i : Nat} : ∀ (k a f : Nat), (∀ j, a ≤ j → j < a + k → ¬ dist (againL T up i j) i ≤ 1) → firstFlat T up i a (k + f) = firstFlat T up i (a + k) f
  | 0, a, f, _ => by simp
  | k + 1, a, f, h => by
    have h0 := h a (Nat.le_refl _) (by omega)
    have e : firstFlat T up i a (k + 1 + f) = firstFlat T up i (a + 1) (k + f) := by
      rw [show k + 1 + f = k + f + 1 by omega]
      show (if dist (againL T up i a) i ≤ 1 then (a : Int) else firstFlat T up i (a + 1) (k + f)) = _
      rw [if_neg h0]
    rw [e, firstFlat_skip k (a + 1) f (fun j h1 h2 => h j (by omega) (by omega)), show a + 1 + k = a + (k + 1) by omega]
theorem firstFlat_at {T : List Int → List Nat → Nat → List Int} {up : List Int} {i k : Nat} (hk : k < 17) (h : ∀ j, j < k → ¬ dist (againL T up i j) i ≤ 1) (hd : dist (againL T up i k) i ≤ 1) : firstFlat T up i 0 17 = (k : Int) := by
  have := firstFlat_skip (T := T) (up := up) (i := i) k 0 (17 - k) (fun j _ h2 => h j (by omega))
  rw [show k + (17 - k) = 17 by omega, Nat.zero_add] at this
  rw [this, show 17 - k = 16 - k + 1 by omega]
  show (if dist (againL T up i k) i ≤ 1 then (k : Int) else _) = _
  rw [if_pos hd]
theorem firstFlat_never {T : List Int → List Nat → Nat → List Int} {up : List Int} {i : Nat} (h : ∀ j, j < 17 → ¬ dist (againL T up i j) i ≤ 1) : firstFlat T up i 0 17 = -1 := by
  have := firstFlat_skip (T := T) (up := up) (i := i) 17 0 0 (fun j _ h2 => h j (by omega))
  rw [Nat.zero_add] at this
  exact this
end Go.Proofs.Ytemkbheplmimoaa
