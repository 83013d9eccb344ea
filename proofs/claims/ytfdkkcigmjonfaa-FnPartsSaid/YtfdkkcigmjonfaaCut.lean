/- A forest in which an item has become a root, as plain lists: who lies below it comes along, all others stay. No program. -/
import Derived.Test.YtfdkkcigmjonfaaLr
import Derived.Test.YtfdkkcigmjonfaaClass
namespace Go.Proofs.Ytfdkkcigmjonfaa

/-- The forest in which the item a is a root. -/
def cut (up : List Int) (a : Nat) : List Int := up.set a (a : Int)
theorem cut_len (up : List Int) (a : Nat) : (cut up a).length = up.length := by simp [cut]
theorem cut_step_same {up : List Int} {a : Nat} (h : a < up.length) : step (cut up a) a = none := by
  unfold step cut
  simp [h]
theorem cut_step {up : List Int} {a i : Nat} (h : i ≠ a) : step (cut up a) i = step up i := by
  unfold step nx cut
  rw [List.getElem?_set_ne (by omega)]
theorem cut_in {up : List Int} (hb : InB up) (a : Nat) : InB (cut up a) := fun i hi => by
  rw [cut_len] at hi ⊢
  unfold cut
  by_cases e : i = a
  · subst e; simp [hi]
  · rw [List.getElem?_set_ne (by omega)]; exact hb i hi
theorem cut_path_off {up : List Int} {a : Nat} : ∀ {o q : Option Nat} {xs : List Nat}, Path up o xs q → a ∉ xs → Path (cut up a) o xs q
  | _, _, [], h, _ => h
  | _, _, x :: xs, h, hn => ⟨h.1, by
    rw [cut_step (fun e => hn (by simp [e]))]
    exact cut_path_off h.2 (fun e => hn (by simp [e]))⟩
theorem cut_path_on {up : List Int} {a : Nat} (ha : a < up.length) : ∀ {o q : Option Nat} {xs : List Nat}, Path up o xs q → a ∈ xs → ∃ ys, ys.length ≤ xs.length ∧ Path (cut up a) o (ys ++ [a]) none ∧ ys.length + 1 ≤ xs.length
  | _, _, [], _, hn => by simp at hn
  | o, _, x :: xs, h, hn => by
    by_cases e : x = a
    · subst e
      exact ⟨[], by simp, ⟨h.1, cut_step_same ha⟩, by simp⟩
    · have hm : a ∈ xs := by simpa [Ne.symm e] using hn
      obtain ⟨ys, h1, h2, h3⟩ := cut_path_on ha h.2 hm
      exact ⟨x :: ys, by simp; omega, ⟨h.1, by rw [cut_step e]; exact h2⟩, by simp; omega⟩
theorem way_of_path {up : List Int} {i : Nat} {xs : List Nat} (h : Path up (some i) xs none) (hl : xs.length ≤ up.length + 1) : way up up.length i = xs := way_done h hl

theorem root_mem {up : List Int} (h : fvB up = true) {i : Nat} (hi : i < up.length) : rootI up i ∈ way up up.length i := by
  have hne : way up up.length i ≠ [] := by
    intro e
    have := (way_len up up.length i).1
    rw [e] at this
    simp at this
  obtain ⟨pre, h1, _, _⟩ := last_path (i := i) (fv_path h hi) hne
  have : rootI up i = lastOf i (way up up.length i) := rfl
  rw [this, h1]
  simp [lastOf]
theorem cut_way {up : List Int} {a : Nat} (h : fvB up = true) (ha : a < up.length) {i : Nat} (hi : i < up.length) :
    (way (cut up a) up.length i).length ≤ up.length ∧ rootI (cut up a) i = if a ∈ way up up.length i then a else rootI up i := by
  have hP := fv_path h hi
  have hl := (fv_parts h).2.2.2 i hi
  by_cases hm : a ∈ way up up.length i
  · rw [if_pos hm]
    obtain ⟨ys, _, h2, h3⟩ := cut_path_on ha hP hm
    have hw : way (cut up a) (cut up a).length i = ys ++ [a] := way_of_path h2 (by rw [cut_len]; simp; omega)
    refine ⟨?_, ?_⟩
    · rw [cut_len] at hw; rw [hw]; simp; omega
    · unfold rootI wayOf; rw [hw]; exact lastOf_snoc _ _ _
  · rw [if_neg hm]
    have h2 := cut_path_off hP hm
    have hw : way (cut up a) (cut up a).length i = way up up.length i := way_of_path h2 (by rw [cut_len]; omega)
    refine ⟨?_, ?_⟩
    · rw [cut_len] at hw; rw [hw]; exact hl
    · unfold rootI wayOf; rw [hw]
theorem cut_fv {up : List Int} {a : Nat} (h : fvB up = true) (ha : a < up.length) : fvB (cut up a) = true := by
  obtain ⟨h1, h2, h3, _⟩ := fv_parts h
  refine fv_of (by rw [cut_len]; exact h1) (by rw [cut_len]; exact h2) (cut_in h3 a) fun i hi => ?_
  rw [cut_len] at hi ⊢
  exact (cut_way h ha hi).1
theorem cut_item {up : List Int} {a i : Nat} (h : fvB up = true) (ha : a < up.length) (hi : i < up.length) : itemB (cut up a) (i : Int) = true := item_of (cut_fv h ha) (by omega) (by rw [cut_len]; omega)
theorem cut_tog {up : List Int} {a i j : Nat} (h : fvB up = true) (ha : a < up.length) (hi : i < up.length) (hj : j < up.length) : togB (cut up a) (i : Int) (j : Int) = decide (rootI (cut up a) i = rootI (cut up a) j) := by
  unfold togB
  rw [cut_item h ha hi, cut_item h ha hj, rootN_yes (cut_item h ha hi), rootN_yes (cut_item h ha hj)]
  show ((rootI (cut up a) i : Int) == (rootI (cut up a) j : Int)) = _
  rw [Bool.eq_iff_iff, beq_iff_eq, decide_eq_true_iff]
  omega
theorem way_self (up : List Int) (i : Nat) : i ∈ way up up.length i := by
  cases up.length <;> simp [way]
/-- Who lies below a, is together with it. -/
theorem cut_with {up : List Int} {a i : Nat} (h : fvB up = true) (ha : a < up.length) (hi : i < up.length) : togB (cut up a) (i : Int) (a : Int) = decide ((a : Int) ∈ ints (way up up.length i)) := by
  rw [cut_tog h ha hi ha, (cut_way h ha hi).2, (cut_way h ha ha).2, if_pos (way_self up a), decide_eq_decide]
  have hm : (a : Int) ∈ ints (way up up.length i) ↔ a ∈ way up up.length i := by
    unfold ints
    constructor
    · intro hx
      obtain ⟨x, hx, e⟩ := List.mem_map.1 hx
      have : x = a := by omega
      exact this ▸ hx
    · intro hx
      exact List.mem_map.2 ⟨a, hx, rfl⟩
  rw [hm]
  by_cases hx : a ∈ way up up.length i
  · rw [if_pos hx]; simp [hx]
  · rw [if_neg hx]
    constructor
    · intro e
      exact absurd (e ▸ root_mem h hi) hx
    · intro hx2; exact absurd hx2 hx
theorem root_root {up : List Int} (h : fvB up = true) {i : Nat} (hi : i < up.length) : rootI up (rootI up i) = rootI up i := rootI_root h (root_is h hi).2
theorem root_way {up : List Int} (h : fvB up = true) {i : Nat} (hi : i < up.length) : way up up.length (rootI up i) = [rootI up i] := way_of_path ⟨rfl, (root_is h hi).2⟩ (by simp)
/-- On one way: the same root. -/
theorem way_root {up : List Int} (h : fvB up = true) {i a : Nat} (hi : i < up.length) (ha : a < up.length) (hm : a ∈ way up up.length i) : rootI up i = rootI up a := by
  obtain ⟨k, hk, e⟩ := List.getElem_of_mem hm
  have hp := path_at (fv_path h hi) hk
  rw [e] at hp
  have hw := path_uniq hp (fv_path h ha)
  have hne : (way up up.length i).drop k ≠ [] := by
    intro e
    have := congrArg List.length e
    simp at this
    omega
  have h1 : rootI up a = ((way up up.length i).drop k).getLast?.getD a := by
    rw [hw]; rfl
  have h2 : rootI up i = (way up up.length i).getLast?.getD i := rfl
  rw [h1, h2, List.getLast?_drop, if_neg (by omega)]
  have hne2 : way up up.length i ≠ [] := by
    intro e
    rw [e] at hk
    simp at hk
  rw [List.getLast?_eq_some_getLast hne2]
  rfl
theorem mem_cls {up : List Int} {r : Int} {i k : Nat} (hi : i < k) : (i : Int) ∈ cls up r k ↔ (rootI up i : Int) = r := by
  unfold cls
  constructor
  · intro hx
    obtain ⟨x, hx2, e⟩ := List.mem_map.1 hx
    have h3 := (List.mem_filter.1 hx2).2
    rw [show x = i by omega] at h3
    simpa using h3
  · intro hx
    exact List.mem_map.2 ⟨i, List.mem_filter.2 ⟨by simpa using hi, by simpa using hx⟩, rfl⟩
/-- And who is left with the old root. -/
theorem cut_old {up : List Int} {a i : Nat} (h : fvB up = true) (ha : a < up.length) (hi : i < up.length) :
    togB (cut up a) (i : Int) (rootI up a : Int) = (decide ((i : Int) ∈ cls up (rootI up a : Int) up.length) && (!decide ((a : Int) ∈ ints (way up up.length i)) || ((rootI up a : Int) == (a : Int)))) := by
  have hr := (root_is h ha).1
  rw [← cut_with h ha hi, cut_tog h ha hi ha, cut_tog h ha hi hr, (cut_way h ha hi).2, (cut_way h ha ha).2, (cut_way h ha hr).2, if_pos (way_self up a), root_way h ha, root_root h ha]
  have hR : (if a ∈ [rootI up a] then a else rootI up a) = rootI up a := by
    split
    · rename_i hx; simpa using hx
    · rfl
  rw [hR]
  have hc : decide ((i : Int) ∈ cls up (rootI up a : Int) up.length) = decide (rootI up i = rootI up a) := by
    rw [decide_eq_decide, mem_cls hi]; omega
  have hb : ((rootI up a : Int) == (a : Int)) = decide (rootI up a = a) := by
    rw [Bool.eq_iff_iff, beq_iff_eq, decide_eq_true_iff]; omega
  rw [hc, hb]
  by_cases hx : a ∈ way up up.length i
  · rw [if_pos hx, way_root h hi ha hx]
    by_cases e : rootI up a = a
    · simp [e]
    · simp [e, Ne.symm e]
  · rw [if_neg hx]
    have hne : rootI up i ≠ a := fun e => hx (e ▸ root_mem h hi)
    simp [hne]
end Go.Proofs.Ytfdkkcigmjonfaa
