/- How many classes pairs leave: each useful pair takes one. No program, no condition. -/
import Derived.Test.YtebgnaiibomjkaaJoins
import Derived.Test.YtebgnaiibomjkaaSame
import Derived.Test.YtebgnaiibomjkaaHang
namespace Go.Proofs.Ytebgnaiibomjkaa

theorem joinL_same {u : List Int} {a b : Nat} (r : Int) (h : rootI u a = rootI u b) : joinL u r a b = u := by unfold joinL; rw [if_pos h]

/-- Whom the pairs lead to. -/
inductive Con (u : List Int) (ps : List (Nat × Nat)) : Nat → Nat → Prop
  | base {i j : Nat} : i < u.length → j < u.length → rootI u i = rootI u j → Con u ps i j
  | pair {p : Nat × Nat} : p ∈ ps → Con u ps p.1 p.2
  | symm {i j : Nat} : Con u ps i j → Con u ps j i
  | trans {i j k : Nat} : Con u ps i j → Con u ps j k → Con u ps i k
theorem Con.lt {u : List Int} {ps : List (Nat × Nat)} (h : inP u.length ps) {i j : Nat} (c : Con u ps i j) : i < u.length ∧ j < u.length := by
  induction c with
  | base h1 h2 _ => exact ⟨h1, h2⟩
  | pair hp => exact h _ hp
  | symm _ ih => exact ⟨ih.2, ih.1⟩
  | trans _ _ ih1 ih2 => exact ⟨ih1.1, ih2.2⟩
theorem Con.weak {u : List Int} {ps qs : List (Nat × Nat)} (h : ∀ p ∈ ps, p ∈ qs ∨ (p.2, p.1) ∈ qs) {i j : Nat} (c : Con u ps i j) : Con u qs i j := by
  induction c with
  | base h1 h2 h3 => exact .base h1 h2 h3
  | pair hp =>
    rcases h _ hp with h | h
    · exact .pair h
    · exact .symm (.pair h)
  | symm _ ih => exact .symm ih
  | trans _ _ ih1 ih2 => exact .trans ih1 ih2
theorem con_step {u : List Int} (hv : fvB u = true) (r : Int) {p : Nat × Nat} {ps : List (Nat × Nat)} (h : inP u.length (p :: ps)) {i j : Nat} : Con (joinL u r p.1 p.2) ps i j ↔ Con u (p :: ps) i j := by
  have hp := h p (List.mem_cons_self ..)
  constructor
  · intro c
    induction c with
    | base h1 h2 h3 =>
      rw [joinL_len] at h1 h2
      rcases joinL_only hv hp.1 hp.2 r h1 h2 h3 with e | ⟨e1, e2⟩ | ⟨e1, e2⟩
      · exact .base h1 h2 e
      · exact .trans (.base h1 hp.1 e1) (.trans (.pair (List.mem_cons_self ..)) (.base hp.2 h2 e2.symm))
      · exact .trans (.base h1 hp.2 e1) (.trans (.symm (.pair (List.mem_cons_self ..))) (.base hp.1 h2 e2.symm))
    | pair hq => exact .pair (List.mem_cons_of_mem _ hq)
    | symm _ ih => exact .symm ih
    | trans _ _ ih1 ih2 => exact .trans ih1 ih2
  · intro c
    induction c with
    | base h1 h2 h3 => exact .base (by rw [joinL_len]; exact h1) (by rw [joinL_len]; exact h2) (joinL_keep hv hp.1 hp.2 r h1 h2 h3)
    | pair hq =>
      rcases List.mem_cons.1 hq with rfl | hq
      · exact .base (by rw [joinL_len]; exact hp.1) (by rw [joinL_len]; exact hp.2) (joinL_tog hv hp.1 hp.2 r)
      · exact .pair hq
    | symm _ ih => exact .symm ih
    | trans _ _ ih1 ih2 => exact .trans ih1 ih2
theorem con_nil {u : List Int} {i j : Nat} (c : Con u [] i j) : rootI u i = rootI u j := by
  induction c with
  | base _ _ h => exact h
  | pair h => simp at h
  | symm _ ih => exact ih.symm
  | trans _ _ ih1 ih2 => exact ih1.trans ih2
/-- In any order, by any rule. -/
theorem all_con {ps : List (Nat × Nat)} : ∀ {u : List Int}, fvB u = true → ∀ (r : Int), inP u.length ps → ∀ {i j : Nat}, i < u.length → j < u.length → (rootI (allL u r ps) i = rootI (allL u r ps) j ↔ Con u ps i j) := by
  induction ps with
  | nil => exact fun {u} _ _ _ {i j} hi hj => ⟨fun h => .base hi hj h, con_nil⟩
  | cons p ps ih =>
    intro u hv r h i j hi hj
    have hp := h p (List.mem_cons_self ..)
    have := ih (joinL_fv hv hp.1 hp.2 r) r (fun q hq => by rw [joinL_len]; exact h q (List.mem_cons_of_mem _ hq)) (i := i) (j := j) (by rw [joinL_len]; exact hi) (by rw [joinL_len]; exact hj)
    exact this.trans (con_step hv r h)
theorem all_same {u : List Int} (hv : fvB u = true) {r r' : Int} {ps qs : List (Nat × Nat)} (h1 : inP u.length ps) (h2 : inP u.length qs) (hpq : ∀ p ∈ ps, p ∈ qs ∨ (p.2, p.1) ∈ qs) (hqp : ∀ p ∈ qs, p ∈ ps ∨ (p.2, p.1) ∈ ps) : sameN (allL u r ps) (allL u r' qs) = true := by
  have l1 := allL_len u r ps
  have l2 := allL_len u r' qs
  refine sameN_yes (allL_fv hv r h1) (allL_fv hv r' h2) (by rw [l1, l2]) fun i k hi hk => ?_
  rw [l1] at hi
  have e1 := all_con hv r h1 (i := i) (j := k) hi (by omega)
  have e2 := all_con hv r' h2 (i := i) (j := k) hi (by omega)
  have e3 : Con u ps i k ↔ Con u qs i k := ⟨Con.weak hpq, Con.weak hqp⟩
  unfold likeB
  by_cases c : Con u ps i k
  · rw [e1.2 c, e2.2 (e3.1 c)]
    simp
  · have a1 : ((rootI (allL u r ps) i : Int) == (rootI (allL u r ps) k : Int)) = false := by
      have : ¬ rootI (allL u r ps) i = rootI (allL u r ps) k := fun h => c (e1.1 h)
      simp only [beq_eq_false_iff_ne, ne_eq]
      omega
    have a2 : ((rootI (allL u r' qs) i : Int) == (rootI (allL u r' qs) k : Int)) = false := by
      have : ¬ rootI (allL u r' qs) i = rootI (allL u r' qs) k := fun h => c (e3.2 (e2.1 h))
      simp only [beq_eq_false_iff_ne, ne_eq]
      omega
    rw [a1, a2]
    rfl
theorem all_tog {u : List Int} (hv : fvB u = true) (r : Int) {ps : List (Nat × Nat)} (h : inP u.length ps) {p : Nat × Nat} (hp : p ∈ ps) : rootI (allL u r ps) p.1 = rootI (allL u r ps) p.2 :=
  (all_con hv r h (h p hp).1 (h p hp).2).2 (.pair hp)
/-- Pairs that are together already change nothing. -/
theorem all_still {ps : List (Nat × Nat)} {u : List Int} (r : Int) (h : ∀ p ∈ ps, rootI u p.1 = rootI u p.2) : allL u r ps = u := by
  induction ps with
  | nil => rfl
  | cons p ps ih =>
    show allL (joinL u r p.1 p.2) r ps = u
    rw [joinL_same r (h p (List.mem_cons_self ..))]
    exact ih fun q hq => h q (List.mem_cons_of_mem _ hq)
theorem all_twice {u : List Int} (hv : fvB u = true) (r : Int) {ps : List (Nat × Nat)} (h : inP u.length ps) : allL (allL u r ps) r ps = allL u r ps :=
  all_still r fun _ hp => all_tog hv r h hp
theorem all_parts (u : List Int) (r : Int) (ps : List (Nat × Nat)) (k : Nat) : allL (allL u r (ps.take k)) r (ps.drop k) = allL u r ps := by rw [← allL_append, List.take_append_drop]

theorem useB_take {u : List Int} {r : Int} {ps : List (Nat × Nat)} {k j : Nat} (h : j < k) : useB u r (ps.take k) j = useB u r ps j := by
  unfold useB
  rw [List.take_take, Nat.min_eq_left (by omega), List.getElem?_take_of_lt h]
theorem useTo_take (u : List Int) (r : Int) (ps : List (Nat × Nat)) (k : Nat) : useTo u r (ps.take k) k = useTo u r ps k := by
  unfold useTo
  congr 1
  exact List.filter_congr fun j hj => useB_take (List.mem_range.1 hj)
theorem useTo_mem (u : List Int) (r : Int) (ps : List (Nat × Nat)) (k i : Nat) : ((i : Int) ∈ useTo u r ps k) ↔ i < k ∧ useB u r ps i = true := by
  unfold useTo ints
  simp only [List.mem_map, List.mem_filter, List.mem_range]
  constructor
  · rintro ⟨x, h, e⟩
    have : x = i := by omega
    subst this
    exact h
  · exact fun h => ⟨i, h, rfl⟩
end Go.Proofs.Ytebgnaiibomjkaa

namespace Go.Proofs.Ytebgnaiibomjkaa

/-- How many roots there are below k. -/
def rootsTo (up : List Int) (k : Nat) : Nat := ((List.range k).filter fun i : Nat => up[i]?.getD 0 == (i : Int)).length
theorem rootsTo_yes {up : List Int} {k : Nat} (h : up[k]?.getD 0 = (k : Int)) : rootsTo up (k + 1) = rootsTo up k + 1 := by
  simp [rootsTo, List.range_succ, List.filter_append, h]
theorem rootsTo_no {up : List Int} {k : Nat} (h : up[k]?.getD 0 ≠ (k : Int)) : rootsTo up (k + 1) = rootsTo up k := by
  simp [rootsTo, List.range_succ, List.filter_append, h]
theorem rootsTo_le (up : List Int) (k : Nat) : rootsTo up k ≤ k := by
  unfold rootsTo
  exact Nat.le_trans (List.length_filter_le _ _) (by simp)
theorem step_iff {up : List Int} {i : Nat} : step up i = none ↔ up[i]?.getD 0 = (i : Int) := by
  unfold step
  split <;> simp_all
theorem head_root {up : List Int} {h : Nat} (hm : h ∈ heads up up.length) : firstOf up (rootI up h : Int) = h := by
  rw [mem_heads] at hm
  have hne : cls up (rootI up h : Int) up.length ≠ [] := fun e => by have := cls_self hm.1; rw [e] at this; simp at this
  have := (first_mem hne).2.2
  rw [hm.2] at this
  omega
theorem first_head {up : List Int} {i : Nat} (hi : i < up.length) : firstOf up (rootI up i : Int) ∈ heads up up.length ∧ rootI up (firstOf up (rootI up i : Int)) = rootI up i := by
  have hne : cls up (rootI up i : Int) up.length ≠ [] := fun e => by have := cls_self hi; rw [e] at this; simp at this
  obtain ⟨h1, h2, h3⟩ := first_mem hne
  refine ⟨?_, by omega⟩
  rw [mem_heads]
  exact ⟨h1, by rw [h2]; exact h3⟩
theorem heads_nodup (up : List Int) (k : Nat) : (heads up k).Nodup := by
  unfold heads
  exact List.nodup_range.filter _
/-- As many classes as roots. -/
theorem rows_roots {up : List Int} (h : fvB up = true) : (rowsTo up up.length).length = rootsTo up up.length := by
  have e1 : (rowsTo up up.length).length = ((heads up up.length).map (rootI up)).length := by unfold rowsTo; simp
  rw [e1]
  unfold rootsTo
  refine List.Perm.length_eq ((List.perm_ext_iff_of_nodup ?_ (List.nodup_range.filter _)).2 fun r => ?_)
  · rw [List.nodup_iff_pairwise_ne, List.pairwise_map]
    refine (List.nodup_iff_pairwise_ne.1 (heads_nodup up up.length)).imp_of_mem fun {a b} ha hb hne e => hne ?_
    rw [← head_root ha, ← head_root hb, e]
  · rw [List.mem_map, List.mem_filter]
    constructor
    · rintro ⟨a, ha, rfl⟩
      rw [mem_heads] at ha
      have := root_is h ha.1
      exact ⟨by simpa using this.1, by simpa using step_iff.1 this.2⟩
    · rintro ⟨h1, h2⟩
      have hr : r < up.length := by simpa using h1
      have hs : step up r = none := step_iff.2 (by simpa using h2)
      have hrr : rootI up r = r := rootI_root h hs
      have := first_head hr
      exact ⟨_, this.1, by rw [this.2, hrr]⟩
theorem filter_one {l : List Nat} {p : Nat → Bool} {a : Nat} (hn : l.Nodup) (ha : a ∈ l) (hp : ∀ x ∈ l, p x = true ↔ x = a) : (l.filter p).length = 1 := by
  have h1 : (l.filter p).Perm [a] := (List.perm_ext_iff_of_nodup (hn.filter _) (by simp)).2 fun x => by
    rw [List.mem_filter]
    constructor
    · rintro ⟨h1, h2⟩
      simp [(hp x h1).1 h2]
    · intro h
      have : x = a := by simpa using h
      subst this
      exact ⟨ha, (hp x ha).2 rfl⟩
  simpa using h1.length_eq
/-- How many of the first j classes have an item. -/
def inTo (up : List Int) (i : Nat) (j : Nat) : Nat := (((rowsTo up up.length).take j).filter fun R => decide ((i : Int) ∈ R)).length
theorem inTo_zero (up : List Int) (i : Nat) : inTo up i 0 = 0 := by simp [inTo]
theorem inTo_succ {up : List Int} {i j : Nat} (hj : j < (rowsTo up up.length).length) : inTo up i (j + 1) = inTo up i j + if (i : Int) ∈ (rowsTo up up.length)[j]?.getD [] then 1 else 0 := by
  unfold inTo
  rw [List.take_succ_eq_append_getElem hj, List.filter_append, List.length_append, List.getElem?_eq_getElem hj]
  congr 1
  by_cases h : (i : Int) ∈ (rowsTo up up.length)[j] <;> simp [h]
theorem inTo_le (up : List Int) (i j : Nat) : inTo up i j ≤ j := by
  unfold inTo
  refine Nat.le_trans (List.length_filter_le _ _) ?_
  rw [List.length_take]
  omega
theorem inTo_all {up : List Int} {i : Nat} (hi : i < up.length) : inTo up i (rowsTo up up.length).length = 1 := by
  unfold inTo
  rw [List.take_length]
  unfold rowsTo
  rw [List.filter_map, List.length_map]
  refine filter_one (heads_nodup _ _) (first_head hi).1 fun x hx => ?_
  have hx' := (mem_heads.1 hx).1
  simp only [Function.comp_apply, decide_eq_true_eq, mem_cls hi]
  constructor
  · intro e
    have e2 : rootI up i = rootI up x := by omega
    rw [e2, head_root hx]
  · intro e
    have := (first_head hi).2
    rw [← e] at this
    omega
theorem row_at {up : List Int} {j : Nat} (hj : j < (rowsTo up up.length).length) : (rowsTo up up.length)[j]?.getD [] ∈ rowsTo up up.length := by
  rw [List.getElem?_eq_getElem hj]
  exact List.getElem_mem hj
/-- The class of an item that lies in a row is the row. -/
theorem row_class {up : List Int} (h : fvB up = true) {i j : Nat} (hi : i < up.length) (hj : j < (rowsTo up up.length).length) (hm : (i : Int) ∈ (rowsTo up up.length)[j]?.getD []) : clsN up (i : Int) = (rowsTo up up.length)[j]?.getD [] := by
  have hit : itemB up (i : Int) = true := item_of h (by omega) (by omega)
  rw [clsN_yes hit, rootN_yes hit]
  exact ((mem_rows (row_at hj) hm).2).symm

/-! ### A root that gets a link: one class less -/
theorem hang_rows {up : List Int} {p q : Nat} (T : Two up p q) : (rowsTo (hang up p q) (hang up p q).length).length + 1 = (rowsTo up up.length).length := by
  rw [rows_roots (hang_fv T), rows_roots T.fv]
  have key : ∀ k, k ≤ up.length → rootsTo (hang up p q) k + (if p < k then 1 else 0) = rootsTo up k := by
    intro k
    induction k with
    | zero => intro _; simp [rootsTo]
    | succ k ih =>
      intro hk
      have ih := ih (by omega)
      by_cases e : k = p
      · subst e
        have h1 : (hang up k q)[k]?.getD 0 ≠ (k : Int) := fun e2 => by
          have := step_iff.2 e2
          rw [hang_step_same T] at this
          cases this
        rw [rootsTo_no h1, rootsTo_yes (step_iff.1 T.rp)]
        simp at ih ⊢
        omega
      · have hs : step (hang up p q) k = step up k := hang_step e
        by_cases hr : step up k = none
        · rw [rootsTo_yes (step_iff.1 (hs.trans hr)), rootsTo_yes (step_iff.1 hr)]
          by_cases hp : p < k
          · rw [if_pos hp] at ih; rw [if_pos (by omega)]; omega
          · rw [if_neg hp] at ih; rw [if_neg (by omega)]; omega
        · rw [rootsTo_no (fun e2 => hr (hs.symm.trans (step_iff.2 e2))), rootsTo_no (fun e2 => hr (step_iff.2 e2))]
          by_cases hp : p < k
          · rw [if_pos hp] at ih; rw [if_pos (by omega)]; omega
          · rw [if_neg hp] at ih; rw [if_neg (by omega)]; omega
  have := key up.length (Nat.le_refl _)
  rw [if_pos T.hp] at this
  rw [hang_len]
  exact this
end Go.Proofs.Ytebgnaiibomjkaa

namespace Go.Proofs.Ytebgnaiibomjkaa

/-- How many classes there are. -/
def rowsC (u : List Int) : Nat := (rowsTo u u.length).length
theorem joinL_rows {u : List Int} (hv : fvB u = true) {a b : Nat} (ha : a < u.length) (hb : b < u.length) (r : Int) : rowsC (joinL u r a b) + (if rootI u a = rootI u b then 0 else 1) = rowsC u := by
  unfold joinL
  by_cases h : rootI u a = rootI u b
  · rw [if_pos h, if_pos h]; rfl
  · rw [if_neg h, if_neg h, joinTo_low]
    exact hang_rows (low_two (roots_two hv ha hb h) r)
theorem all_rows {u : List Int} (hv : fvB u = true) (r : Int) {ps : List (Nat × Nat)} (h : inP u.length ps) : ∀ {k : Nat}, k ≤ ps.length → rowsC (allL u r (ps.take k)) + (useTo u r ps k).length = rowsC u
  | 0, _ => by simp [allL, useTo_zero]
  | k + 1, hk => by
    have ih := all_rows hv r h (k := k) (by omega)
    have hp := h.get (k := k) (by omega)
    have hj := joinL_rows (allL_fv hv r h.take) (a := (ps[k]?.getD (0, 0)).1) (b := (ps[k]?.getD (0, 0)).2) (by rw [allL_len]; exact hp.1) (by rw [allL_len]; exact hp.2) r (u := allL u r (ps.take k))
    rw [← allL_succ u r (by omega)] at hj
    by_cases e : rootI (allL u r (ps.take k)) (ps[k]?.getD (0, 0)).1 = rootI (allL u r (ps.take k)) (ps[k]?.getD (0, 0)).2
    · have hu : useB u r ps k = false := by unfold useB; rw [decide_eq_true e]; rfl
      rw [if_pos e] at hj
      rw [useTo_no hu]
      omega
    · have hu : useB u r ps k = true := by unfold useB; rw [decide_eq_false e]; rfl
      rw [if_neg e] at hj
      rw [useTo_yes hu, List.length_append, List.length_singleton]
      omega
theorem all_rows_end {u : List Int} (hv : fvB u = true) (r : Int) {ps : List (Nat × Nat)} (h : inP u.length ps) : rowsC (allL u r ps) + (useTo u r ps ps.length).length = rowsC u := by
  have := all_rows hv r h (Nat.le_refl _)
  rwa [List.take_length] at this
theorem rows_roots_n {n : Nat} (h1 : 1 ≤ n) (h2 : n ≤ 16) : rowsC (roots n) = n := by
  unfold rowsC
  rw [rows_roots (roots_fv h1 h2), roots_len]
  unfold rootsTo
  rw [List.filter_eq_self.2 (fun i hi => by rw [roots_get (List.mem_range.1 hi)]; simp)]
  simp
theorem rowsN_C {u : List Int} (hv : fvB u = true) : (rowsN u).length = rowsC u := by
  unfold rowsN rowsC
  rw [if_pos hv]
end Go.Proofs.Ytebgnaiibomjkaa
