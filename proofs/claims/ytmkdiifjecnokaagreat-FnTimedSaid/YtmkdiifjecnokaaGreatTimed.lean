/- Timed forests: plain lists; the exact laws' helpers for them, and TimedValid of the specification. Condition: lengths up to 1048576. -/
import Derived.Test.YtmkdiifjecnokaaGreatOffs
import Derived.Test.YtmkdiifjecnokaaGreatHang
namespace Go.Proofs.YtmkdiifjecnokaaGreat
open Go.RowKit

/-- Whether an item's time is valid. -/
def okTm (us ts : List Int) (i : Nat) : Bool :=
  if us[i]?.getD 0 = (i : Int) then decide (ts[i]?.getD 0 = 0)
  else decide (1 ≤ ts[i]?.getD 0 ∧ ts[i]?.getD 0 ≤ 24) && (decide (us[(us[i]?.getD 0).toNat]?.getD 0 = us[i]?.getD 0) || decide (ts[i]?.getD 0 < ts[(us[i]?.getD 0).toNat]?.getD 0))
theorem okTm_root {us ts : List Int} {k : Nat} (h : us[k]?.getD 0 = (k : Int)) : okTm us ts k = decide (ts[k]?.getD 0 = 0) := by unfold okTm; rw [if_pos h]
theorem okTm_link {us ts : List Int} {k y : Nat} (h : us[k]?.getD 0 = (y : Int)) (hy : y ≠ k) : okTm us ts k = (decide (1 ≤ ts[k]?.getD 0 ∧ ts[k]?.getD 0 ≤ 24) && (decide (us[y]?.getD 0 = (y : Int)) || decide (ts[k]?.getD 0 < ts[y]?.getD 0))) := by
  unfold okTm
  rw [h, if_neg (by omega), Int.toNat_natCast]
def tmB (us ts : List Int) : Bool := fvB us && decide (ts.length = us.length) && (List.range us.length).all (okTm us ts)
theorem tmB_v {us ts : List Int} (h : fvB us = false) : tmB us ts = false := by unfold tmB; rw [h]; rfl
theorem tmB_l {us ts : List Int} (h : ts.length ≠ us.length) : tmB us ts = false := by unfold tmB; rw [decide_eq_false h]; simp
theorem tmB_bad {us ts : List Int} {k : Nat} (hk : k < us.length) (h : okTm us ts k = false) : tmB us ts = false := by
  cases e : tmB us ts with
  | false => rfl
  | true =>
    unfold tmB at e
    simp only [Bool.and_eq_true, List.all_eq_true, List.mem_range] at e
    rw [e.2 k hk] at h
    cases h
theorem tmB_of {us ts : List Int} (h1 : fvB us = true) (h2 : ts.length = us.length) (h3 : ∀ k, k < us.length → okTm us ts k = true) : tmB us ts = true := by
  unfold tmB
  simp only [Bool.and_eq_true, decide_eq_true_eq, List.all_eq_true, List.mem_range]
  exact ⟨⟨h1, h2⟩, h3⟩
theorem tmB_parts {us ts : List Int} (h : tmB us ts = true) : fvB us = true ∧ ts.length = us.length ∧ ∀ k, k < us.length → okTm us ts k = true := by
  unfold tmB at h
  simp only [Bool.and_eq_true, decide_eq_true_eq, List.all_eq_true, List.mem_range] at h
  exact ⟨h.1.1, h.1.2, h.2⟩

/-- The forest of a time. -/
def atL (us ts : List Int) (m : Int) : List Int := (List.range us.length).map fun i : Nat => if m < ts[i]?.getD 0 then (i : Int) else us[i]?.getD 0
theorem atL_len (us ts : List Int) (m : Int) : (atL us ts m).length = us.length := by simp [atL]
theorem atL_get {us ts : List Int} {m : Int} {i : Nat} (h : i < us.length) : (atL us ts m)[i]?.getD 0 = if m < ts[i]?.getD 0 then (i : Int) else us[i]?.getD 0 := by simp [atL, h]
theorem atL_out {us ts : List Int} {m : Int} {i : Nat} (h : us.length ≤ i) : (atL us ts m)[i]?.getD 0 = us[i]?.getD 0 := by
  rw [List.getElem?_eq_none h, List.getElem?_eq_none (by rw [atL_len]; exact h)]
/-- A forest from which links have been cut. -/
def Sub (v u : List Int) : Prop := v.length = u.length ∧ ∀ i, step v i = none ∨ step v i = step u i
theorem step_atL {us ts : List Int} {m : Int} {i : Nat} (h : i < us.length) : step (atL us ts m) i = if m < ts[i]?.getD 0 then none else step us i := by
  unfold step nx
  rw [atL_get h]
  by_cases e : m < ts[i]?.getD 0
  · rw [if_pos e, if_pos e, if_pos rfl]
  · rw [if_neg e, if_neg e]
theorem step_atL_out {us ts : List Int} {m : Int} {i : Nat} (h : us.length ≤ i) : step (atL us ts m) i = step us i := by
  unfold step nx
  rw [atL_out h]
theorem atL_sub (us ts : List Int) {m m' : Int} (h : m ≤ m') : Sub (atL us ts m) (atL us ts m') := by
  refine ⟨by rw [atL_len, atL_len], fun i => ?_⟩
  rcases Nat.lt_or_ge i us.length with hi | hi
  · rw [step_atL hi, step_atL hi]
    by_cases e : m < ts[i]?.getD 0
    · exact .inl (if_pos e)
    · rw [if_neg e, if_neg (by omega)]
      exact .inr rfl
  · rw [step_atL_out hi, step_atL_out hi]
    exact .inr rfl
theorem atL_sub_all (us ts : List Int) (m : Int) : Sub (atL us ts m) us := by
  refine ⟨atL_len us ts m, fun i => ?_⟩
  rcases Nat.lt_or_ge i us.length with hi | hi
  · rw [step_atL hi]
    by_cases e : m < ts[i]?.getD 0
    · exact .inl (if_pos e)
    · exact .inr (if_neg e)
  · exact .inr (step_atL_out hi)
theorem sub_path {v u : List Int} (S : Sub v u) : ∀ {xs : List Nat} {o : Option Nat}, Path u o xs none → ∃ ys, ys.length ≤ xs.length ∧ Path v o ys none
  | [], _, h => ⟨[], Nat.le_refl _, h⟩
  | x :: xs, _, h => by
    rcases S.2 x with e | e
    · exact ⟨[x], by simp, h.1, e⟩
    · obtain ⟨ys, hl, hp⟩ := sub_path S (xs := xs) (o := step v x) (by rw [e]; exact h.2)
      exact ⟨x :: ys, by simpa using hl, h.1, hp⟩
theorem sub_fv {v u : List Int} (S : Sub v u) (hin : InB v) (h : fvB u = true) : fvB v = true := by
  obtain ⟨h1, h2, h3, h4⟩ := fv_parts h
  have hl := S.1
  refine fv_of (by omega) (by omega) hin fun i hi => ?_
  obtain ⟨ys, hy, hp⟩ := sub_path S (fv_path h (i := i) (by omega))
  have := h4 i (by omega)
  rw [way_done hp (by omega)]
  omega
theorem atL_in {us ts : List Int} {m : Int} (h : InB us) : InB (atL us ts m) := fun i hi => by
  rw [atL_len] at hi ⊢
  rw [atL_get hi]
  by_cases e : m < ts[i]?.getD 0
  · rw [if_pos e]; omega
  · rw [if_neg e]; exact h i hi
theorem atL_fv {us ts : List Int} (h : fvB us = true) (m : Int) : fvB (atL us ts m) = true := sub_fv (atL_sub_all us ts m) (atL_in (fv_in h)) h
theorem path_sub {v u : List Int} (S : Sub v u) : ∀ {xs : List Nat} {o : Option Nat} {r : Nat}, Path v o xs (some r) → Path u o xs (some r)
  | [], _, _, h => h
  | x :: xs, _, r, h => by
    rcases S.2 x with e | e
    · have h2 := h.2
      rw [e] at h2
      have := path_none h2
      subst this
      cases h2
    · exact ⟨h.1, path_sub S (by rw [← e]; exact h.2)⟩
/-- An item's root is that of its root in a forest from which links have been cut. -/
theorem sub_root {v u : List Int} (S : Sub v u) (hv : fvB v = true) (hu : fvB u = true) {i : Nat} (hi : i < u.length) : rootI u i = rootI u (rootI v i) := by
  have hl := S.1
  have hi2 : i < v.length := by omega
  obtain ⟨pre, h1, h2, _⟩ := last_path (i := i) (fv_path hv hi2) (by intro e; have := way_self v i; rw [e] at this; cases this)
  have hr : lastOf i (way v v.length i) = rootI v i := rfl
  rw [hr] at h2
  have hrl := (root_is hv hi2).1
  have hp := path_join (path_sub S h2) (fv_path hu (i := rootI v i) (by omega))
  have hw := path_uniq (fv_path hu hi) hp
  have hne : way u u.length (rootI v i) ≠ [] := by intro e; have := way_self u (rootI v i); rw [e] at this; cases this
  unfold rootI wayOf
  rw [hw]
  show lastOf i (pre ++ way u u.length (rootI v i)) = lastOf (rootI v i) (way u u.length (rootI v i))
  unfold lastOf
  rw [List.getLast?_append]
  cases hg : (way u u.length (rootI v i)).getLast? with
  | none => exact absurd (List.getLast?_eq_none_iff.1 hg) hne
  | some z => rfl
/-- Who is together once stays together. -/
theorem at_tog_on {us ts : List Int} (h : fvB us = true) {m m' : Int} (hm : m ≤ m') {a b : Nat} (ha : a < us.length) (hb : b < us.length) (ht : rootI (atL us ts m) a = rootI (atL us ts m) b) : rootI (atL us ts m') a = rootI (atL us ts m') b := by
  have S := atL_sub us ts hm
  have e1 := sub_root S (atL_fv h m) (atL_fv h m') (i := a) (by rw [atL_len]; exact ha)
  have e2 := sub_root S (atL_fv h m) (atL_fv h m') (i := b) (by rw [atL_len]; exact hb)
  exact e1.trans ((congrArg _ ht).trans e2.symm)
end Go.Proofs.YtmkdiifjecnokaaGreat