/- Joining by a rule, as plain lists: which root goes under which, and what that leaves. No program. -/
import Derived.Test.YtemkbheplmimoaaSizeL
namespace Go.Proofs.Ytemkbheplmimoaa

def inRule (r : Int) : Bool := decide (0 ≤ r ∧ r ≤ 2)
/-- What a rule asks of a root. -/
def numOf (r : Int) (up : List Int) (x : Nat) : Nat := if r = 1 then szN up x else htN up x
/-- Does the first of two roots go under the second? -/
def underB (up : List Int) (r : Int) (p q : Nat) : Bool := if r = 0 then true else if numOf r up p = numOf r up q then decide (q < p) else decide (numOf r up p < numOf r up q)
def joinTo (up : List Int) (r : Int) (p q : Nat) : List Int := if underB up r p q = true then hang up p q else hang up q p
def joinL (up : List Int) (r : Int) (a b : Nat) : List Int := if rootI up a = rootI up b then up else joinTo up r (rootI up a) (rootI up b)
theorem joinTo_len (up : List Int) (r : Int) (p q : Nat) : (joinTo up r p q).length = up.length := by
  unfold joinTo
  split <;> exact hang_len _ _ _
theorem joinL_len (up : List Int) (r : Int) (a b : Nat) : (joinL up r a b).length = up.length := by
  unfold joinL
  split
  · rfl
  · exact joinTo_len _ _ _ _
theorem roots_two {up : List Int} (h : fvB up = true) {a b : Nat} (ha : a < up.length) (hb : b < up.length) (hne : rootI up a ≠ rootI up b) : Two up (rootI up a) (rootI up b) :=
  ⟨h, (root_is h ha).1, (root_is h hb).1, (root_is h ha).2, (root_is h hb).2, hne⟩
theorem joinTo_fv {up : List Int} {p q : Nat} (T : Two up p q) (r : Int) : fvB (joinTo up r p q) = true := by
  unfold joinTo
  split
  · exact hang_fv T
  · exact hang_fv T.symm
theorem joinL_fv {up : List Int} (h : fvB up = true) {a b : Nat} (ha : a < up.length) (hb : b < up.length) (r : Int) : fvB (joinL up r a b) = true := by
  unfold joinL
  split
  · exact h
  · rename_i hne
    exact joinTo_fv (roots_two h ha hb hne) r
/-- The same whichever is named first, but by the first rule. -/
theorem under_not {up : List Int} {p q : Nat} (hne : p ≠ q) {r : Int} (hr : r ≠ 0) : underB up r p q = !(underB up r q p) := by
  unfold underB
  rw [if_neg hr, if_neg hr]
  generalize numOf r up p = a
  generalize numOf r up q = b
  by_cases e : a = b
  · rw [if_pos e, if_pos e.symm]
    by_cases h : q < p
    · rw [decide_eq_true h, decide_eq_false (show ¬ p < q by omega)]; rfl
    · rw [decide_eq_false h, decide_eq_true (show p < q by omega)]; rfl
  · rw [if_neg e, if_neg (fun e2 => e e2.symm)]
    by_cases h : a < b
    · rw [decide_eq_true h, decide_eq_false (show ¬ b < a by omega)]; rfl
    · rw [decide_eq_false h, decide_eq_true (show b < a by omega)]; rfl
theorem joinTo_symm {up : List Int} {p q : Nat} (T : Two up p q) {r : Int} (hr : r ≠ 0) : joinTo up r p q = joinTo up r q p := by
  unfold joinTo
  rw [under_not T.ne hr]
  cases underB up r q p <;> simp
/-- What Join answers. -/
def joinB (up : List Int) (r a b : Int) : Bool := itemB up a && itemB up b && inRule r && !(rootN up a == rootN up b)
def joinN (up : List Int) (r a b : Int) : List Int := if joinB up r a b = true then joinL up r a.toNat b.toNat else []
theorem joinN_yes {up : List Int} {r a b : Int} (h : joinB up r a b = true) : joinN up r a b = joinL up r a.toNat b.toNat := by unfold joinN; rw [if_pos h]
theorem joinN_no {up : List Int} {r a b : Int} (h : joinB up r a b = false) : joinN up r a b = [] := by unfold joinN; rw [h]; simp
theorem joinB_parts {up : List Int} {r a b : Int} (h : joinB up r a b = true) : itemB up a = true ∧ itemB up b = true ∧ (0 ≤ r ∧ r ≤ 2) ∧ rootI up a.toNat ≠ rootI up b.toNat := by
  unfold joinB inRule at h
  simp only [Bool.and_eq_true, decide_eq_true_eq, Bool.not_eq_true', beq_eq_false_iff_ne, ne_eq] at h
  obtain ⟨⟨⟨h1, h2⟩, h3⟩, h4⟩ := h
  refine ⟨h1, h2, h3, fun e => h4 ?_⟩
  unfold rootN
  rw [if_pos h1, if_pos h2, e]
theorem joinN_len16 (up : List Int) (r a b : Int) : (joinN up r a b).length ≤ 16 := by
  cases h : joinB up r a b with
  | false => rw [joinN_no h]; simp
  | true =>
    rw [joinN_yes h, joinL_len]
    exact (fv_parts (item_fv (joinB_parts h).1)).2.1
end Go.Proofs.Ytemkbheplmimoaa
