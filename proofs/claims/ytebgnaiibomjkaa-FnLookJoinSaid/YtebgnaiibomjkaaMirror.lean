/- The mirrored forest, as plain lists: its ways, roots and classes are those of the forest, mirrored. No program. -/
import Derived.Test.YtebgnaiibomjkaaForest
namespace Go.Proofs.Ytebgnaiibomjkaa

/-- The forest mirrored: the item i becomes n - 1 - i. -/
def mir (up : List Int) : List Int := (List.range up.length).map fun j => (up.length : Int) - 1 - up[up.length - 1 - j]?.getD 0
theorem mir_len (up : List Int) : (mir up).length = up.length := by simp [mir]
theorem mir_get {up : List Int} {j : Nat} (h : j < up.length) : (mir up)[j]?.getD 0 = (up.length : Int) - 1 - up[up.length - 1 - j]?.getD 0 := by simp [mir, h]
theorem mir_at {up : List Int} {i : Nat} (h : i < up.length) : (mir up)[up.length - 1 - i]?.getD 0 = (up.length : Int) - 1 - up[i]?.getD 0 := by
  rw [mir_get (by omega), show up.length - 1 - (up.length - 1 - i) = i by omega]
/-- A number of an item, mirrored. -/
def fl (up : List Int) (x : Nat) : Nat := up.length - 1 - x
theorem mir_in {up : List Int} (hb : InB up) : InB (mir up) := by
  intro j hj
  rw [mir_len] at hj
  rw [mir_get hj, mir_len]
  have := hb (up.length - 1 - j) (by omega)
  omega
theorem mir_step {up : List Int} (hb : InB up) {i : Nat} (hi : i < up.length) : step (mir up) (fl up i) = (step up i).map (fl up) := by
  have h := hb i hi
  have e := mir_at hi
  unfold step nx fl
  rw [e]
  by_cases h1 : up[i]?.getD 0 = (i : Int)
  · rw [if_pos h1, if_pos (by omega)]; rfl
  · rw [if_neg h1, if_neg (by omega)]
    simp only [Option.map_some, Option.some.injEq]
    omega
theorem mir_way {up : List Int} (hb : InB up) : ∀ (k : Nat) {i : Nat}, i < up.length → way (mir up) k (fl up i) = (way up k i).map (fl up)
  | 0, i, _ => rfl
  | k + 1, i, hi => by
    unfold way
    rw [mir_step hb hi]
    cases hs : step up i with
    | none => rfl
    | some y =>
      have := mir_way hb k (path_step_lt hb hi hs)
      simp only [Option.map_some, List.map_cons]
      rw [this]
theorem fl_fl {up : List Int} {j : Nat} (h : j < up.length) : fl up (fl up j) = j := by unfold fl; omega
theorem fl_lt {up : List Int} {j : Nat} (h : j < up.length) : fl up j < up.length := by unfold fl; omega
theorem mir_way_len {up : List Int} (hb : InB up) {j : Nat} (hj : j < up.length) : (way (mir up) up.length j).length = (way up up.length (fl up j)).length := by
  have := mir_way hb up.length (fl_lt hj)
  rw [fl_fl hj] at this
  rw [this, List.length_map]
theorem mir_fv {up : List Int} (h : fvB up = true) : fvB (mir up) = true := by
  obtain ⟨h1, h2, h3, h4⟩ := fv_parts h
  refine fv_of (by rw [mir_len]; exact h1) (by rw [mir_len]; exact h2) (mir_in h3) fun j hj => ?_
  rw [mir_len] at hj ⊢
  rw [mir_way_len h3 hj]
  exact h4 _ (fl_lt hj)
theorem deepTo_le {up : List Int} {M : Nat} : ∀ {k : Nat}, (∀ i, i < k → (wayOf up i).length - 1 ≤ M) → deepTo up k ≤ M
  | 0, _ => by simp [deepTo]
  | k + 1, h => by
    rw [deepTo_succ]
    have h1 := deepTo_le (k := k) fun i hi => h i (by omega)
    have h2 := h k (by omega)
    omega
theorem deepTo_up (up : List Int) : ∀ {k i : Nat}, i < k → (wayOf up i).length - 1 ≤ deepTo up k
  | 0, _, h => by omega
  | k + 1, i, h => by
    rw [deepTo_succ]
    by_cases e : i = k
    · subst e; omega
    · have := deepTo_up up (k := k) (i := i) (by omega); omega
theorem mir_deep {up : List Int} (h : fvB up = true) : deepN (mir up) = deepN up := by
  have hb := fv_in h
  unfold deepN
  rw [if_pos h, if_pos (mir_fv h), mir_len]
  have h1 : deepTo (mir up) up.length ≤ deepTo up up.length := deepTo_le fun j hj => by
    unfold wayOf
    rw [mir_len, mir_way_len hb hj]
    exact deepTo_up up (fl_lt hj)
  have h2 : deepTo up up.length ≤ deepTo (mir up) up.length := deepTo_le fun i hi => by
    have := deepTo_up (mir up) (fl_lt hi)
    unfold wayOf at this ⊢
    rw [mir_len, mir_way_len hb (fl_lt hi), fl_fl hi] at this
    exact this
  omega
theorem mir_item {up : List Int} (h : fvB up = true) (i : Int) : itemB (mir up) ((up.length : Int) - 1 - i) = itemB up i := by
  unfold itemB
  rw [h, mir_fv h, mir_len]
  simp only [Bool.true_and, decide_eq_decide]
  omega
theorem mir_root {up : List Int} (h : fvB up = true) {i : Nat} (hi : i < up.length) : rootN (mir up) ((up.length : Int) - 1 - (i : Int)) = (up.length : Int) - 1 - rootN up (i : Int) := by
  have hb := fv_in h
  have hit : itemB up (i : Int) = true := item_of h (by omega) (by omega)
  have hm := mir_item h (i : Int)
  rw [hit] at hm
  have e : (up.length : Int) - 1 - (i : Int) = ((fl up i : Nat) : Int) := by unfold fl; omega
  rw [e] at hm ⊢
  rw [rootN_yes hm, rootN_yes hit]
  have hr := (root_is h hi).1
  unfold rootI lastOf wayOf at hr ⊢
  rw [mir_len, mir_way hb _ hi, List.getLast?_map]
  have hne : way up up.length i ≠ [] := by
    intro e
    have := (way_len up up.length i).1
    rw [e] at this
    simp at this
  rw [List.getLast?_eq_some_getLast hne] at hr ⊢
  simp only [Option.map_some, Option.getD_some] at hr ⊢
  unfold fl
  omega
theorem mir_tog {up : List Int} (h : fvB up = true) (a b : Int) : togB (mir up) ((up.length : Int) - 1 - a) ((up.length : Int) - 1 - b) = togB up a b := by
  unfold togB
  rw [mir_item h, mir_item h]
  cases ha : itemB up a with
  | false => rfl
  | true =>
    cases hb : itemB up b with
    | false => rfl
    | true =>
      have la := item_lt ha
      have lb := item_lt hb
      obtain ⟨i, rfl⟩ := Int.eq_ofNat_of_zero_le la.1
      obtain ⟨j, rfl⟩ := Int.eq_ofNat_of_zero_le lb.1
      rw [mir_root h (by omega), mir_root h (by omega)]
      generalize rootN up _ = r
      generalize rootN up _ = s
      show ((up.length : Int) - 1 - r == (up.length : Int) - 1 - s) = (r == s)
      rw [Bool.eq_iff_iff, beq_iff_eq, beq_iff_eq]
      omega
/-- The list so far. -/
theorem mir_take {up : List Int} {k : Nat} (hk : k + 1 ≤ up.length) : (mir up).take (up.length - k) = (mir up).take (up.length - (k + 1)) ++ [(up.length : Int) - 1 - up[k]?.getD 0] := by
  have h1 : up.length - (k + 1) < (mir up).length := by rw [mir_len]; omega
  rw [show up.length - k = up.length - (k + 1) + 1 by omega, List.take_succ_eq_append_getElem h1]
  congr 1
  have := mir_at (up := up) (i := k) (by omega)
  rw [show up.length - 1 - k = up.length - (k + 1) by omega] at this
  rw [← this, List.getElem?_eq_getElem h1]
  rfl
end Go.Proofs.Ytebgnaiibomjkaa
