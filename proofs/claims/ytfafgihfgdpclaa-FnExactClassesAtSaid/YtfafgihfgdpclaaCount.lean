/- How many classes there are: as many as roots; each item lies in one of them; sums over the classes. Plain lists, no program. -/
import Derived.Test.YtfafgihfgdpclaaSame
import Derived.Test.YtfafgihfgdpclaaHang
namespace Go.Proofs.Ytfafgihfgdpclaa

/-- How many roots there are below k. -/
def rootsTo (up : List Int) (k : Nat) : Nat := ((List.range k).filter fun i : Nat => up[i]?.getD 0 == (i : Int)).length
theorem rootsTo_yes {up : List Int} {k : Nat} (h : up[k]?.getD 0 = (k : Int)) : rootsTo up (k + 1) = rootsTo up k + 1 := by
  simp [rootsTo, List.range_succ, List.filter_append, h]
theorem rootsTo_no {up : List Int} {k : Nat} (h : up[k]?.getD 0 ≠ (k : Int)) : rootsTo up (k + 1) = rootsTo up k := by
  simp [rootsTo, List.range_succ, List.filter_append, h]
theorem rootsTo_le (up : List Int) (k : Nat) : rootsTo up k ≤ k := by
  unfold rootsTo
  exact Nat.le_trans (List.length_filter_le _ _) (by simp)
theorem step_iff {up : List Int} {i : Nat} : step up i = none ↔ up[i]?.getD 0 = (i : Int) := by
  unfold step
  split <;> simp_all
theorem head_root {up : List Int} {h : Nat} (hm : h ∈ heads up up.length) : firstOf up (rootI up h : Int) = h := by
  rw [mem_heads] at hm
  have hne : cls up (rootI up h : Int) up.length ≠ [] := fun e => by have := cls_self hm.1; rw [e] at this; simp at this
  have := (first_mem hne).2.2
  rw [hm.2] at this
  omega
theorem first_head {up : List Int} {i : Nat} (hi : i < up.length) : firstOf up (rootI up i : Int) ∈ heads up up.length ∧ rootI up (firstOf up (rootI up i : Int)) = rootI up i := by
  have hne : cls up (rootI up i : Int) up.length ≠ [] := fun e => by have := cls_self hi; rw [e] at this; simp at this
  obtain ⟨h1, h2, h3⟩ := first_mem hne
  refine ⟨?_, by omega⟩
  rw [mem_heads]
  exact ⟨h1, by rw [h2]; exact h3⟩
theorem heads_nodup (up : List Int) (k : Nat) : (heads up k).Nodup := by
  unfold heads
  exact List.nodup_range.filter _
/-- As many classes as roots. -/
theorem rows_roots {up : List Int} (h : fvB up = true) : (rowsTo up up.length).length = rootsTo up up.length := by
  have e1 : (rowsTo up up.length).length = ((heads up up.length).map (rootI up)).length := by unfold rowsTo; simp
  rw [e1]
  unfold rootsTo
  refine List.Perm.length_eq ((List.perm_ext_iff_of_nodup ?_ (List.nodup_range.filter _)).2 fun r => ?_)
  · rw [List.nodup_iff_pairwise_ne, List.pairwise_map]
    refine (List.nodup_iff_pairwise_ne.1 (heads_nodup up up.length)).imp_of_mem fun {a b} ha hb hne e => hne ?_
    rw [← head_root ha, ← head_root hb, e]
  · rw [List.mem_map, List.mem_filter]
    constructor
    · rintro ⟨a, ha, rfl⟩
      rw [mem_heads] at ha
      have := root_is h ha.1
      exact ⟨by simpa using this.1, by simpa using step_iff.1 this.2⟩
    · rintro ⟨h1, h2⟩
      have hr : r < up.length := by simpa using h1
      have hs : step up r = none := step_iff.2 (by simpa using h2)
      have hrr : rootI up r = r := rootI_root h hs
      have := first_head hr
      exact ⟨_, this.1, by rw [this.2, hrr]⟩
theorem filter_one {l : List Nat} {p : Nat → Bool} {a : Nat} (hn : l.Nodup) (ha : a ∈ l) (hp : ∀ x ∈ l, p x = true ↔ x = a) : (l.filter p).length = 1 := by
  have h1 : (l.filter p).Perm [a] := (List.perm_ext_iff_of_nodup (hn.filter _) (by simp)).2 fun x => by
    rw [List.mem_filter]
    constructor
    · rintro ⟨h1, h2⟩
      simp [(hp x h1).1 h2]
    · intro h
      have : x = a := by simpa using h
      subst this
      exact ⟨ha, (hp x ha).2 rfl⟩
  simpa using h1.length_eq
/-- How many of the first j classes have an item. -/
def inTo (up : List Int) (i : Nat) (j : Nat) : Nat := (((rowsTo up up.length).take j).filter fun R => decide ((i : Int) ∈ R)).length
theorem inTo_zero (up : List Int) (i : Nat) : inTo up i 0 = 0 := by simp [inTo]
theorem inTo_succ {up : List Int} {i j : Nat} (hj : j < (rowsTo up up.length).length) : inTo up i (j + 1) = inTo up i j + if (i : Int) ∈ (rowsTo up up.length)[j]?.getD [] then 1 else 0 := by
  unfold inTo
  rw [List.take_succ_eq_append_getElem hj, List.filter_append, List.length_append, List.getElem?_eq_getElem hj]
  congr 1
  by_cases h : (i : Int) ∈ (rowsTo up up.length)[j] <;> simp [h]
theorem inTo_le (up : List Int) (i j : Nat) : inTo up i j ≤ j := by
  unfold inTo
  refine Nat.le_trans (List.length_filter_le _ _) ?_
  rw [List.length_take]
  omega
theorem inTo_all {up : List Int} {i : Nat} (hi : i < up.length) : inTo up i (rowsTo up up.length).length = 1 := by
  unfold inTo
  rw [List.take_length]
  unfold rowsTo
  rw [List.filter_map, List.length_map]
  refine filter_one (heads_nodup _ _) (first_head hi).1 fun x hx => ?_
  have hx' := (mem_heads.1 hx).1
  simp only [Function.comp_apply, decide_eq_true_eq, mem_cls hi]
  constructor
  · intro e
    have e2 : rootI up i = rootI up x := by omega
    rw [e2, head_root hx]
  · intro e
    have := (first_head hi).2
    rw [← e] at this
    omega
theorem row_at {up : List Int} {j : Nat} (hj : j < (rowsTo up up.length).length) : (rowsTo up up.length)[j]?.getD [] ∈ rowsTo up up.length := by
  rw [List.getElem?_eq_getElem hj]
  exact List.getElem_mem hj
/-- The class of an item that lies in a row is the row. -/
theorem row_class {up : List Int} (h : fvB up = true) {i j : Nat} (hi : i < up.length) (hj : j < (rowsTo up up.length).length) (hm : (i : Int) ∈ (rowsTo up up.length)[j]?.getD []) : clsN up (i : Int) = (rowsTo up up.length)[j]?.getD [] := by
  have hit : itemB up (i : Int) = true := item_of h (by omega) (by omega)
  rw [clsN_yes hit, rootN_yes hit]
  exact ((mem_rows (row_at hj) hm).2).symm

/-! ### A root that gets a link: one class less -/
theorem hang_rows {up : List Int} {p q : Nat} (T : Two up p q) : (rowsTo (hang up p q) (hang up p q).length).length + 1 = (rowsTo up up.length).length := by
  rw [rows_roots (hang_fv T), rows_roots T.fv]
  have key : ∀ k, k ≤ up.length → rootsTo (hang up p q) k + (if p < k then 1 else 0) = rootsTo up k := by
    intro k
    induction k with
    | zero => intro _; simp [rootsTo]
    | succ k ih =>
      intro hk
      have ih := ih (by omega)
      by_cases e : k = p
      · subst e
        have h1 : (hang up k q)[k]?.getD 0 ≠ (k : Int) := fun e2 => by
          have := step_iff.2 e2
          rw [hang_step_same T] at this
          cases this
        rw [rootsTo_no h1, rootsTo_yes (step_iff.1 T.rp)]
        simp at ih ⊢
        omega
      · have hs : step (hang up p q) k = step up k := hang_step e
        by_cases hr : step up k = none
        · rw [rootsTo_yes (step_iff.1 (hs.trans hr)), rootsTo_yes (step_iff.1 hr)]
          by_cases hp : p < k
          · rw [if_pos hp] at ih; rw [if_pos (by omega)]; omega
          · rw [if_neg hp] at ih; rw [if_neg (by omega)]; omega
        · rw [rootsTo_no (fun e2 => hr (hs.symm.trans (step_iff.2 e2))), rootsTo_no (fun e2 => hr (step_iff.2 e2))]
          by_cases hp : p < k
          · rw [if_pos hp] at ih; rw [if_pos (by omega)]; omega
          · rw [if_neg hp] at ih; rw [if_neg (by omega)]; omega
  have := key up.length (Nat.le_refl _)
  rw [if_pos T.hp] at this
  rw [hang_len]
  exact this
end Go.Proofs.Ytfafgihfgdpclaa
