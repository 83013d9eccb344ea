/- Looking from several items, one behind the other; flat forests; sizes. Plain lists, no program. -/
import Derived.Test.YtemkbheplmimoaaLookN
namespace Go.Proofs.Ytemkbheplmimoaa

def manyL (T : List Int → List Nat → Nat → List Int) (up : List Int) (its : List Nat) : List Int := its.foldl (fun v i => lookT T v i) up
def manyS (T : List Int → List Nat → Nat → List Int) : List Int → List Nat → Nat
  | _, [] => 0
  | up, i :: its => stepsT T up i + manyS T (lookT T up i) its
theorem manyL_cons (T : List Int → List Nat → Nat → List Int) (up : List Int) (i : Nat) (its : List Nat) : manyL T up (i :: its) = manyL T (lookT T up i) its := rfl
theorem manyL_snoc (T : List Int → List Nat → Nat → List Int) (up : List Int) (i : Nat) (its : List Nat) : manyL T up (its ++ [i]) = lookT T (manyL T up its) i := by
  unfold manyL
  rw [List.foldl_append, List.foldl_cons, List.foldl_nil]
theorem manyS_snoc (T : List Int → List Nat → Nat → List Int) (i : Nat) : ∀ (its : List Nat) (up : List Int), manyS T up (its ++ [i]) = manyS T up its + stepsT T (manyL T up its) i
  | [], up => by simp [manyS, manyL]
  | j :: its, up => by
    rw [List.cons_append, manyL_cons]
    unfold manyS
    rw [manyS_snoc T i its]
    omega
theorem many_shr {T : List Int → List Nat → Nat → List Int} (K : Kind T) : ∀ {its : List Nat} {up : List Int}, fvB up = true → (∀ i ∈ its, i < up.length) → Shr up (manyL T up its)
  | [], up, h, _ => Shr.refl h
  | i :: its, up, h, hi => by
    have h1 := lookT_shr K h (hi i (by simp))
    rw [manyL_cons]
    exact h1.trans (many_shr K h1.fv fun j hj => by rw [h1.len]; exact hi j (by simp [hj]))
theorem shr_dist {u v : List Int} (S : Shr u v) {j : Nat} (hj : j < u.length) : dist v j ≤ dist u j := by
  have := S.short j hj
  unfold dist wayOf
  omega
theorem bare_many : ∀ {its : List Nat} {up : List Int}, fvB up = true → (∀ i ∈ its, i < up.length) → manyL bareAt up its = up ∧ ∀ (l : Int) (v : List Int), Shr up v → manyS (lookAt l) v its ≤ manyS bareAt up its
  | [], up, _, _ => ⟨rfl, fun _ _ _ => Nat.le_refl _⟩
  | i :: its, up, h, hi => by
    have h1 := look_bare h (hi i (by simp))
    obtain ⟨k1, k2⟩ := bare_many (its := its) h (fun j hj => hi j (by simp [hj]))
    refine ⟨by rw [manyL_cons, h1.2]; exact k1, fun l v S => ?_⟩
    have hv : i < v.length := by rw [S.len]; exact hi i (by simp)
    have s1 := steps_le l S.fv hv
    have s2 := shr_dist S (hi i (by simp))
    have s3 := k2 l _ (S.trans (lookT_shr (look_kind l) S.fv hv))
    unfold manyS
    rw [(bare_count h (hi i (by simp))).1, h1.2]
    omega

/-- The forest in which each item is right under its root. -/
def flat (up : List Int) : List Int := (List.range up.length).map fun i => (rootI up i : Int)
theorem flat_len (up : List Int) : (flat up).length = up.length := by simp [flat]
theorem flat_get {up : List Int} {i : Nat} (hi : i < up.length) : (flat up)[i]? = some (rootI up i : Int) := by
  unfold flat
  rw [List.getElem?_map, List.getElem?_range hi]
  rfl
theorem flat_step {up : List Int} (_h : fvB up = true) {i : Nat} (hi : i < up.length) : step (flat up) i = if rootI up i = i then none else some (rootI up i) := by
  unfold step nx
  rw [flat_get hi, Option.getD_some]
  by_cases e : rootI up i = i
  · rw [if_pos (by omega), if_pos e]
  · rw [if_neg (by omega), if_neg e]
    simp
theorem flat_in {up : List Int} (h : fvB up = true) : InB (flat up) := fun i hi => by
  rw [flat_len] at hi ⊢
  rw [flat_get hi, Option.getD_some]
  have := (root_is h hi).1
  omega
theorem flat_path {up : List Int} (h : fvB up = true) {i : Nat} (hi : i < up.length) : Path (flat up) (some i) (if rootI up i = i then [i] else [i, rootI up i]) none := by
  have hr := root_is h hi
  have hrr : rootI up (rootI up i) = rootI up i := rootI_root h hr.2
  have hs2 := flat_step h hr.1
  rw [if_pos hrr] at hs2
  have hs := flat_step h hi
  by_cases e : rootI up i = i
  · rw [if_pos e] at hs ⊢
    exact ⟨rfl, hs⟩
  · rw [if_neg e] at hs ⊢
    exact ⟨rfl, hs, hs2⟩
theorem flat_way {up : List Int} (h : fvB up = true) {i : Nat} (hi : i < up.length) : way (flat up) (flat up).length i = if rootI up i = i then [i] else [i, rootI up i] :=
  way_of_path (flat_path h hi) (by
    have := (fv_parts h).1
    rw [flat_len]
    split <;> simp <;> omega)
theorem root_links {up : List Int} (h : fvB up = true) {i : Nat} (hi : i < up.length) : rootI up i = i ↔ step up i = none := by
  constructor
  · intro e
    have := (root_is h hi).2
    rwa [e] at this
  · exact rootI_root h
theorem flat_shr {up : List Int} (h : fvB up = true) : Shr up (flat up) := by
  have hs : ∀ j, j < up.length → (way (flat up) (flat up).length j).length ≤ (way up up.length j).length := fun j hj => by
    rw [flat_way h hj]
    have e : way up up.length j = wayOf up j := rfl
    rw [e]
    by_cases hr : rootI up j = j
    · rw [if_pos hr]
      exact wayOf_pos up j
    · rw [if_neg hr]
      cases hs : step up j with
      | none => exact absurd ((root_links h hj).2 hs) hr
      | some y =>
        rw [wayOf_cons h hj hs]
        have := wayOf_pos up y
        simp
        omega
  obtain ⟨h1, h2, _, h4⟩ := fv_parts h
  refine ⟨h, fv_of (by rw [flat_len]; exact h1) (by rw [flat_len]; exact h2) (flat_in h) fun j hj => ?_, flat_len _, fun j hj => ?_, hs⟩
  · rw [flat_len] at hj
    have := hs j hj
    have := h4 j hj
    rw [flat_len] at *
    omega
  · unfold rootI wayOf
    rw [flat_way h hj]
    by_cases hr : rootI up j = j
    · rw [if_pos hr]
      have e : lastOf j (way up up.length j) = rootI up j := rfl
      rw [e, hr]
      simp [lastOf]
    · rw [if_neg hr]
      simp [lastOf]
      rfl
theorem flat_dist {up : List Int} (h : fvB up = true) {i : Nat} (hi : i < up.length) : dist (flat up) i ≤ 1 := by
  unfold dist wayOf
  rw [flat_way h hi]
  split <;> simp
/-- Flat once, flat for ever. -/
theorem flat_again {up : List Int} (h : fvB up = true) : flat (flat up) = flat up := by
  have S := flat_shr h
  unfold flat
  rw [List.length_map, List.length_range]
  refine List.map_congr_left fun i hi => ?_
  have := S.root i (List.mem_range.1 hi)
  unfold flat at this
  rw [this]
/-- As when one has looked from all. -/
theorem flat_cut {up : List Int} (h : fvB up = true) : ∀ k, k ≤ up.length → ∀ j, j < k → (manyL cutAt up (List.range k))[j]? = some (rootI up j : Int)
  | 0, _, j, hj => absurd hj (by omega)
  | k + 1, hk, j, hj => by
    have S := many_shr cut_kind h (its := List.range k) (fun i hi => by have := List.mem_range.1 hi; omega)
    have hk2 : k < (manyL cutAt up (List.range k)).length := by rw [S.len]; omega
    have ih := flat_cut h k (by omega)
    rw [List.range_succ, manyL_snoc, (look_cut S.fv hk2).2, allTo_get (wayOf (manyL cutAt up (List.range k)) k) _ (way_lt S.fv hk2)]
    rw [S.root k (by omega)]
    by_cases hm : j ∈ wayOf (manyL cutAt up (List.range k)) k
    · rw [if_pos hm]
      have h1 : rootI (manyL cutAt up (List.range k)) k = rootI (manyL cutAt up (List.range k)) j := way_root S.fv hk2 (by rw [S.len]; omega) hm
      rw [S.root k (by omega), S.root j (by omega)] at h1
      rw [h1]
    · rw [if_neg hm]
      by_cases e : j = k
      · rw [e] at hm
        exact absurd (way_self _ _) hm
      · exact ih j (by omega)
theorem flat_all {up : List Int} (h : fvB up = true) : manyL cutAt up (List.range up.length) = flat up := by
  have S := many_shr cut_kind h (its := List.range up.length) (fun i hi => List.mem_range.1 hi)
  apply List.ext_getElem? 
  intro j
  by_cases hj : j < up.length
  · rw [flat_cut h up.length (Nat.le_refl _) j hj, flat_get hj]
  · rw [List.getElem?_eq_none (by rw [S.len]; omega), List.getElem?_eq_none (by rw [flat_len]; omega)]
end Go.Proofs.Ytemkbheplmimoaa
