/- What the functions of looking answer, as plain lists. No program. -/
import Derived.Test.YtemkbheplmimoaaLookO
namespace Go.Proofs.Ytemkbheplmimoaa

def inLook (l : Int) : Bool := decide (0 ≤ l ∧ l ≤ 3)
def allIn (n : Nat) (is : List Int) : Bool := is.all fun i => decide (0 ≤ i ∧ i < (n : Int))
def lookB (up : List Int) (l : Int) (is : List Int) : Bool := fvB up && decide (is.length ≤ 24) && allIn up.length is && inLook l
def nats (is : List Int) : List Nat := is.map Int.toNat
def lookedN (up : List Int) (l : Int) (is : List Int) : List Int := if lookB up l is = true then manyL (lookAt l) up (nats is) else []
def followedN (up : List Int) (l : Int) (is : List Int) : Int := if lookB up l is = true then (manyS (lookAt l) up (nats is) : Int) else -1
theorem lookedN_yes {up : List Int} {l : Int} {is : List Int} (h : lookB up l is = true) : lookedN up l is = manyL (lookAt l) up (nats is) := by unfold lookedN; rw [if_pos h]
theorem lookedN_no {up : List Int} {l : Int} {is : List Int} (h : lookB up l is = false) : lookedN up l is = [] := by unfold lookedN; rw [h]; simp
theorem followedN_yes {up : List Int} {l : Int} {is : List Int} (h : lookB up l is = true) : followedN up l is = (manyS (lookAt l) up (nats is) : Int) := by unfold followedN; rw [if_pos h]
theorem followedN_no {up : List Int} {l : Int} {is : List Int} (h : lookB up l is = false) : followedN up l is = -1 := by unfold followedN; rw [h]; simp
theorem allIn_mem {n : Nat} {is : List Int} (h : allIn n is = true) : ∀ i ∈ is, 0 ≤ i ∧ i < (n : Int) := fun i hi => by
  have := List.all_eq_true.1 h i hi
  exact of_decide_eq_true this
theorem lookB_parts {up : List Int} {l : Int} {is : List Int} (h : lookB up l is = true) : fvB up = true ∧ is.length ≤ 24 ∧ (∀ i ∈ is, 0 ≤ i ∧ i < (up.length : Int)) ∧ 0 ≤ l ∧ l ≤ 3 := by
  unfold lookB inLook at h
  simp only [Bool.and_eq_true, decide_eq_true_eq] at h
  exact ⟨h.1.1.1, h.1.1.2, allIn_mem h.1.2, h.2⟩
theorem lookB_of {up : List Int} {l : Int} {is : List Int} (h1 : fvB up = true) (h2 : is.length ≤ 24) (h3 : ∀ i ∈ is, 0 ≤ i ∧ i < (up.length : Int)) (h4 : 0 ≤ l) (h5 : l ≤ 3) : lookB up l is = true := by
  unfold lookB inLook allIn
  simp only [Bool.and_eq_true, decide_eq_true_eq, List.all_eq_true]
  exact ⟨⟨⟨h1, h2⟩, h3⟩, h4, h5⟩
theorem lookB_not {up : List Int} {l : Int} {is : List Int} (h : ¬ (fvB up = true ∧ is.length ≤ 24 ∧ (∀ i ∈ is, 0 ≤ i ∧ i < (up.length : Int)) ∧ 0 ≤ l ∧ l ≤ 3)) : lookB up l is = false := by
  cases hl : lookB up l is with
  | false => rfl
  | true => exact absurd (lookB_parts hl) h
theorem lookB_one (up : List Int) (l i : Int) : lookB up l [i] = (itemB up i && inLook l) := by
  unfold lookB itemB allIn
  simp
theorem nats_lt {up : List Int} {is : List Int} (h : ∀ i ∈ is, 0 ≤ i ∧ i < (up.length : Int)) : ∀ i ∈ nats is, i < up.length := fun i hi => by
  obtain ⟨k, hk, rfl⟩ := List.mem_map.1 hi
  have := h k hk
  omega
theorem nats_one (i : Int) : nats [i] = [i.toNat] := rfl
theorem manyL_one (T : List Int → List Nat → Nat → List Int) (up : List Int) (i : Nat) : manyL T up [i] = lookT T up i := rfl
theorem manyS_one (T : List Int → List Nat → Nat → List Int) (up : List Int) (i : Nat) : manyS T up [i] = stepsT T up i := by simp [manyS]
theorem looked_len {up : List Int} {l : Int} {is : List Int} (h : lookB up l is = true) : (lookedN up l is).length = up.length := by
  obtain ⟨h1, _, h3, _⟩ := lookB_parts h
  rw [lookedN_yes h]
  exact (many_shr (look_kind l) h1 (nats_lt h3)).len
theorem looked_len16 (up : List Int) (l : Int) (is : List Int) : (lookedN up l is).length ≤ 16 := by
  cases h : lookB up l is with
  | false => rw [lookedN_no h]; simp
  | true =>
    rw [looked_len h]
    exact (fv_parts (lookB_parts h).1).2.1
/-- What FlatForest answers. -/
def flatN (up : List Int) : List Int := if fvB up = true then flat up else []
theorem flatN_yes {up : List Int} (h : fvB up = true) : flatN up = flat up := by unfold flatN; rw [if_pos h]
theorem flatN_no {up : List Int} (h : fvB up = false) : flatN up = [] := by unfold flatN; rw [h]; simp
theorem flatN_len16 (up : List Int) : (flatN up).length ≤ 16 := by
  cases h : fvB up with
  | false => rw [flatN_no h]; simp
  | true => rw [flatN_yes h, flat_len]; exact (fv_parts h).2.1
/-- The forest after k looks from i; the first number of looks after which i is right under its root. -/
def againL (T : List Int → List Nat → Nat → List Int) (up : List Int) (i : Nat) : Nat → List Int
  | 0 => up
  | k + 1 => lookT T (againL T up i k) i
theorem again_shr {T : List Int → List Nat → Nat → List Int} (K : Kind T) {up : List Int} (h : fvB up = true) {i : Nat} (hi : i < up.length) : ∀ k, Shr up (againL T up i k)
  | 0 => Shr.refl h
  | k + 1 => by
    have h1 := again_shr K h hi k
    exact h1.trans (lookT_shr K h1.fv (by rw [h1.len]; exact hi))
/-- From k looks on, for so many more. -/
def firstFlat (T : List Int → List Nat → Nat → List Int) (up : List Int) (i : Nat) : Nat → Nat → Int
  | _, 0 => -1
  | k, f + 1 => if dist (againL T up i k) i ≤ 1 then (k : Int) else firstFlat T up i (k + 1) f
def looksN (up : List Int) (l i : Int) : Int := if (itemB up i && inLook l) = true then firstFlat (lookAt l) up i.toNat 0 17 else -1
theorem looksN_yes {up : List Int} {l i : Int} (h : (itemB up i && inLook l) = true) : looksN up l i = firstFlat (lookAt l) up i.toNat 0 17 := by unfold looksN; rw [if_pos h]
theorem looksN_no {up : List Int} {l i : Int} (h : (itemB up i && inLook l) = false) : looksN up l i = -1 := by unfold looksN; rw [h]; simp
end Go.Proofs.Ytemkbheplmimoaa
