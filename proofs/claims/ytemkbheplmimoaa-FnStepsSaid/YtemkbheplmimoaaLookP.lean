/- Looking: what the laws say of one item's way, of depths and of looking again. Plain lists, no program. -/
import Derived.Test.YtemkbheplmimoaaLookD
import Derived.Test.YtemkbheplmimoaaMirror
namespace Go.Proofs.Ytemkbheplmimoaa

theorem shr_deep {u v : List Int} (S : Shr u v) : deepN v ≤ deepN u := by
  unfold deepN
  rw [if_pos S.fv, if_pos S.fu, S.len]
  have : deepTo v u.length ≤ deepTo u u.length := deepTo_le fun j hj => by
    have h1 := S.short j hj
    have h2 := deepTo_up u hj
    have e1 : wayOf v j = way v v.length j := rfl
    have e2 : wayOf u j = way u u.length j := rfl
    rw [e1]
    rw [e2] at h2
    omega
  omega
theorem hang_same {v : List Int} {i r : Nat} (h : v[i]? = some (r : Int)) : hang v i r = v := by
  unfold hang
  apply List.ext_getElem?
  intro j
  rw [List.getElem?_set]
  by_cases e : i = j
  · subst e
    rw [if_pos rfl]
    have hl : i < v.length := by
      rcases Nat.lt_or_ge i v.length with hl | hl
      · exact hl
      · rw [List.getElem?_eq_none hl] at h; cases h
    rw [if_pos hl, h]
  · rw [if_neg e]
/-- Cutting twice is cutting. -/
theorem cut_twice {up : List Int} (h : fvB up = true) {i : Nat} (hi : i < up.length) : lookT cutAt (lookT cutAt up i) i = lookT cutAt up i := by
  have S := lookT_shr cut_kind h hi
  have hi' : i < (lookT cutAt up i).length := by rw [S.len]; exact hi
  have hr := root_is h hi
  obtain ⟨c1, c2⟩ := cut_step_to h hi
  have hg : ∀ j, j ∈ wayOf up i → (lookT cutAt up i)[j]? = some (rootI up i : Int) := fun j hj => by
    rw [(look_cut h hi).2, allTo_get (wayOf up i) up (way_lt h hi), if_pos hj]
  have hrm : rootI up i ∈ wayOf up i := root_mem h hi
  rw [(look_cut S.fv hi').2, S.root i hi]
  cases hs : step up i with
  | none =>
    rw [wayOf_root (c1 hs)]
    unfold allTo
    rw [List.foldl_cons, List.foldl_nil]
    exact hang_same (hg i (way_self _ _))
  | some y =>
    have h2 := c2 (by rw [hs]; simp)
    have h4 : step (lookT cutAt up i) (rootI up i) = none := by
      have := root_is S.fv (i := rootI up i) (by rw [S.len]; exact hr.1)
      rw [S.root _ hr.1, rootI_root h hr.2] at this
      exact this.2
    rw [wayOf_cons S.fv hi' h2, wayOf_root h4]
    unfold allTo
    rw [List.foldl_cons, List.foldl_cons, List.foldl_nil, hang_same (hg i (way_self _ _))]
    exact hang_same (hg _ hrm)
/-- A way of looking that there is, from an item that there is. -/
theorem look_yes {up : List Int} {i : Nat} (h : itemB up (i : Int) = true) {l : Int} (hl : 0 ≤ l ∧ l ≤ 3) : lookB up l [(i : Int)] = true ∧ lookedN up l [(i : Int)] = lookT (lookAt l) up i ∧ followedN up l [(i : Int)] = (stepsT (lookAt l) up i : Int) := by
  have hb : lookB up l [(i : Int)] = true := by
    rw [lookB_one, h]
    unfold inLook
    simp [hl.1, hl.2]
  exact ⟨hb, by rw [lookedN_yes hb, nats_one, manyL_one, Int.toNat_natCast], by rw [followedN_yes hb, nats_one, manyS_one, Int.toNat_natCast]⟩
theorem look_item {up : List Int} {l i : Int} (h : lookB up l [i] = true) : itemB up i = true ∧ 0 ≤ l ∧ l ≤ 3 := by
  rw [lookB_one, Bool.and_eq_true] at h
  exact ⟨h.1, of_decide_eq_true h.2⟩
theorem item_still {u v : List Int} (S : Shr u v) {i : Nat} (h : itemB u (i : Int) = true) : itemB v (i : Int) = true := item_of S.fv (by omega) (by rw [S.len]; exact (item_lt h).2)
end Go.Proofs.Ytemkbheplmimoaa
