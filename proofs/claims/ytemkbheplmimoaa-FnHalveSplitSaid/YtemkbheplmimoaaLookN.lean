/- How long one's own way is when one has cut or split it; looking again; flat forests. Plain lists, no program. -/
import Derived.Test.YtemkbheplmimoaaLookM
namespace Go.Proofs.Ytemkbheplmimoaa

theorem hang_get {u : List Int} {p q j : Nat} (hp : p < u.length) : (hang u p q)[j]? = if j = p then some (q : Int) else u[j]? := by
  by_cases e : j = p
  · subst e
    rw [if_pos rfl]
    unfold hang
    rw [List.getElem?_set_self hp]
  · rw [if_neg e, hang_off e]
theorem allTo_len (up : List Int) (r : Nat) : ∀ (W : List Nat), (allTo up W r).length = up.length := fun W => by
  unfold allTo
  induction W generalizing up with
  | nil => rfl
  | cons p W ih => rw [List.foldl_cons, ih, hang_len]
theorem allTo_get {r j : Nat} : ∀ (W : List Nat) (up : List Int), (∀ p ∈ W, p < up.length) → (allTo up W r)[j]? = if j ∈ W then some (r : Int) else up[j]?
  | [], up, _ => by simp [allTo]
  | p :: W, up, h => by
    have h1 := allTo_get (r := r) (j := j) W (hang up p r) (fun q hq => by rw [hang_len]; exact h q (by simp [hq]))
    unfold allTo at h1 ⊢
    rw [List.foldl_cons, h1, hang_get (h p (by simp))]
    by_cases e : j ∈ W
    · rw [if_pos e, if_pos (by simp [e])]
    · rw [if_neg e]
      by_cases e2 : j = p
      · rw [if_pos e2, if_pos (by simp [e2])]
      · rw [if_neg e2, if_neg (by simp [e, e2])]
theorem cut_step_to {up : List Int} (h : fvB up = true) {i : Nat} (hi : i < up.length) : (step up i = none → step (lookT cutAt up i) i = none) ∧ (step up i ≠ none → step (lookT cutAt up i) i = some (rootI up i)) := by
  rw [(look_cut h hi).2]
  have hg := allTo_get (r := rootI up i) (j := i) (wayOf up i) up (way_lt h hi)
  rw [if_pos (show i ∈ wayOf up i from way_self _ _)] at hg
  unfold step nx
  rw [hg]
  simp only [Option.getD_some]
  constructor
  · intro hs
    have e : rootI up i = i := rootI_root h (by unfold step nx; exact hs)
    rw [if_pos (by rw [e])]
  · intro hs
    have hne : rootI up i ≠ i := fun e => hs (by
      have := (root_is h hi).2
      rw [e] at this
      exact this)
    rw [if_neg (by omega)]
    simp
/-- Cutting leaves one link at most. -/
theorem cut_count {up : List Int} (h : fvB up = true) {i : Nat} (hi : i < up.length) : stepsT cutAt up i = dist up i ∧ dist (lookT cutAt up i) i = min (dist up i) 1 := by
  refine ⟨by unfold stepsT dist; rw [(look_cut h hi).1], ?_⟩
  obtain ⟨c1, c2⟩ := cut_step_to h hi
  have hsh := lookT_shr cut_kind h hi
  cases hs : step up i with
  | none => rw [dist_root hs, dist_root (c1 hs)]; rfl
  | some y =>
    have h1 := dist_cons h hi hs
    have h2 := c2 (by rw [hs]; simp)
    have h3 := dist_cons hsh.fv (by rw [hsh.len]; exact hi) h2
    have hr := root_is h hi
    have h4 : step (lookT cutAt up i) (rootI up i) = none := by
      have := root_is hsh.fv (i := rootI up i) (by rw [hsh.len]; exact hr.1)
      rw [hsh.root _ hr.1, rootI_root h hr.2] at this
      exact this.2
    rw [h3, dist_root h4]
    omega

theorem nodup_inj {W : List Nat} (hW : W.Nodup) {a b : Nat} (ha : a < W.length) (hb : b < W.length) (e : W[a]?.getD 0 = W[b]?.getD 0) : a = b := by
  rw [List.getElem?_eq_getElem ha, List.getElem?_eq_getElem hb, Option.getD_some, Option.getD_some] at e
  rw [List.nodup_iff_pairwise_ne, List.pairwise_iff_getElem] at hW
  rcases Nat.lt_trichotomy a b with h | h | h
  · exact absurd e (hW a b ha hb h)
  · exact h
  · exact absurd e.symm (hW b a hb ha h)
theorem twoUp_off {up : List Int} {W : List Nat} {j : Nat} : ∀ t, t + 2 ≤ W.length ∨ t = 0 → (∀ k, k < t → W[k]?.getD 0 ≠ j) → (twoUp up W t)[j]? = up[j]?
  | 0, _, _ => rfl
  | t + 1, h, hn => by
    rw [twoUp_succ, hang_off (fun e => hn t (by omega) e.symm)]
    exact twoUp_off t (by omega) (fun k hk => hn k (by omega))
theorem twoUp_on {up : List Int} {W : List Nat} (hW : W.Nodup) (hl : ∀ p ∈ W, p < up.length) {k : Nat} : ∀ t, t + 2 ≤ W.length → k < t → (twoUp up W t)[W[k]?.getD 0]? = some ((W[k + 2]?.getD 0 : Nat) : Int)
  | 0, _, hk => absurd hk (by omega)
  | t + 1, h, hk => by
    rw [twoUp_succ, hang_get (by
      rw [twoUp_len, List.getElem?_eq_getElem (by omega), Option.getD_some]
      exact hl _ (List.getElem_mem _))]
    by_cases e : k = t
    · subst e
      rw [if_pos rfl]
    · rw [if_neg (fun e2 => e (nodup_inj hW (by omega) (by omega) e2))]
      exact twoUp_on hW hl t (by omega) (by omega)
theorem path_step_at {up : List Int} : ∀ {o q : Option Nat} {W : List Nat} {t : Nat}, Path up o W q → t + 1 < W.length → step up (W[t]?.getD 0) = some (W[t + 1]?.getD 0)
  | _, _, [], _, _, h => by simp at h
  | _, _, [x], _, _, h => by simp at h
  | _, _, x :: y :: W, 0, hp, _ => hp.2.1
  | _, _, x :: y :: W, t + 1, hp, h => path_step_at (W := y :: W) (t := t) hp.2 (by simpa using h)
theorem way_step {up : List Int} {i t : Nat} (h : fvB up = true) (hi : i < up.length) (ht : t + 1 < (wayOf up i).length) : step up ((wayOf up i)[t]?.getD 0) = some ((wayOf up i)[t + 1]?.getD 0) :=
  path_step_at (fv_path h hi) ht
theorem way_dist {up : List Int} {i t : Nat} (h : fvB up = true) (hi : i < up.length) (ht : t < (wayOf up i).length) : (wayOf up i)[t]?.getD 0 < up.length ∧ dist up ((wayOf up i)[t]?.getD 0) = (wayOf up i).length - 1 - t := by
  have hp := path_at (fv_path h hi) (k := t) ht
  have hlt : (wayOf up i)[t]?.getD 0 < up.length := by
    rw [List.getElem?_eq_getElem ht, Option.getD_some]
    exact way_lt h hi _ (List.getElem_mem _)
  refine ⟨hlt, ?_⟩
  have e : (wayOf up i)[t]?.getD 0 = (way up up.length i)[t]'ht := by
    rw [List.getElem?_eq_getElem ht, Option.getD_some]
    rfl
  have := path_uniq hp (fv_path h (by rw [← e]; exact hlt))
  unfold dist
  rw [e]
  unfold wayOf
  rw [← this, List.length_drop]
  omega
theorem split_dist {up : List Int} (h : fvB up = true) {i : Nat} (hi : i < up.length) : ∀ k t, t < (wayOf up i).length → (wayOf up i).length - 1 - t ≤ k → dist (lookT splitAt' up i) ((wayOf up i)[t]?.getD 0) = ((wayOf up i).length - 1 - t + 1) / 2 := by
    intro k
    induction k using Nat.strongRecOn with
    | ind k ih =>
    intro t ht hk
    have hW := way_nodup h hi
    have hl := way_lt h hi
    have hsh := lookT_shr split_kind h hi
    have hlt := (way_dist h hi ht).1
    have eL : lookT splitAt' up i = twoUp up (wayOf up i) ((wayOf up i).length - 2) := (look_split h hi).2
    have inj : ∀ a b, a < (wayOf up i).length → b < (wayOf up i).length → (wayOf up i)[a]?.getD 0 = (wayOf up i)[b]?.getD 0 → a = b := fun a b ha hb e => nodup_inj hW ha hb e
    have stay : (wayOf up i).length - 2 ≤ t → step (lookT splitAt' up i) ((wayOf up i)[t]?.getD 0) = step up ((wayOf up i)[t]?.getD 0) := fun hge => by
      rw [eL]
      unfold step nx
      rw [twoUp_off _ (by omega) (fun a ha e => by
        have := inj a t (by omega) ht e
        omega)]
    by_cases h0 : (wayOf up i).length - 1 - t = 0
    · have hr : step up ((wayOf up i)[t]?.getD 0) = none := dist_zero h hlt (by rw [(way_dist h hi ht).2]; exact h0)
      have := stay (by omega)
      rw [hr] at this
      rw [dist_root this, h0]
    · by_cases h1 : (wayOf up i).length - 1 - t = 1
      · have hs := way_step h hi (t := t) (by omega)
        have h2 := stay (by omega)
        rw [hs] at h2
        have h3 := dist_cons hsh.fv (by rw [hsh.len]; exact hlt) h2
        have hr : step up ((wayOf up i)[t + 1]?.getD 0) = none := dist_zero h (way_dist h hi (t := t + 1) (by omega)).1 (by rw [(way_dist h hi (t := t + 1) (by omega)).2]; omega)
        have h4 : step (lookT splitAt' up i) ((wayOf up i)[t + 1]?.getD 0) = none := by
          have hr2 := (way_dist h hi (t := t + 1) (by omega)).1
          have := root_is hsh.fv (i := (wayOf up i)[t + 1]?.getD 0) (by rw [hsh.len]; exact hr2)
          rw [hsh.root _ hr2, rootI_root h hr] at this
          exact this.2
        rw [h3, dist_root h4, h1]
      · have hk0 : k - 1 < k := by omega
        · have hon := twoUp_on (up := up) (W := wayOf up i) hW hl (k := t) ((wayOf up i).length - 2) (by omega) (by omega)
          have hst : step (lookT splitAt' up i) ((wayOf up i)[t]?.getD 0) = some ((wayOf up i)[t + 2]?.getD 0) := by
            rw [eL]
            unfold step nx
            have hon' : (twoUp up (wayOf up i) ((wayOf up i).length - 2))[(wayOf up i)[t]?.getD 0]? = some (((wayOf up i)[t + 2]?.getD 0 : Nat) : Int) := hon
            rw [hon', Option.getD_some, if_neg (fun e => by
              have := inj (t + 2) t (by omega) ht (by omega)
              omega)]
            simp
          have h3 := dist_cons hsh.fv (by rw [hsh.len]; exact hlt) hst
          rw [h3, ih (k - 1) hk0 (t + 2) (by omega) (by omega)]
          omega
/-- Splitting follows all links and leaves half as many. -/
theorem split_count {up : List Int} (h : fvB up = true) {i : Nat} (hi : i < up.length) : stepsT splitAt' up i = dist up i ∧ dist (lookT splitAt' up i) i = (dist up i + 1) / 2 := by
  refine ⟨by unfold stepsT dist; rw [(look_split h hi).1], ?_⟩
  have h0 : (wayOf up i)[0]?.getD 0 = i := by
    cases hs : step up i with
    | none => rw [wayOf_root hs]; rfl
    | some y => rw [wayOf_cons h hi hs]; rfl
  have := split_dist h hi _ 0 (by have := wayOf_pos up i; omega) (Nat.le_refl _)
  rw [h0] at this
  unfold dist at this ⊢
  rw [this]
  omega
theorem bare_count {up : List Int} (h : fvB up = true) {i : Nat} (hi : i < up.length) : stepsT bareAt up i = dist up i ∧ dist (lookT bareAt up i) i = dist up i := by
  obtain ⟨h1, h2⟩ := look_bare h hi
  exact ⟨by unfold stepsT dist; rw [h1], by rw [h2]⟩
/-- As often as links lie on the way, or half as often. -/
theorem steps_le (l : Int) {up : List Int} (h : fvB up = true) {i : Nat} (hi : i < up.length) : stepsT (lookAt l) up i ≤ dist up i := by
  unfold lookAt
  split
  · rw [(bare_count h hi).1]; exact Nat.le_refl _
  · split
    · rw [(cut_count h hi).1]; exact Nat.le_refl _
    · split
      · rw [(halve_count h hi).1]; omega
      · rw [(split_count h hi).1]; exact Nat.le_refl _
end Go.Proofs.Ytemkbheplmimoaa
