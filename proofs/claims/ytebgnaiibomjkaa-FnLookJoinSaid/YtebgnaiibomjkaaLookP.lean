/- Looking: what the laws say of one item's way, of depths and of looking again. Plain lists, no program. -/
import Derived.Test.YtebgnaiibomjkaaLook
import Derived.Test.YtebgnaiibomjkaaMirror
namespace Go.Proofs.Ytebgnaiibomjkaa

theorem shr_deep {u v : List Int} (S : Shr u v) : deepN v ≤ deepN u := by
  unfold deepN
  rw [if_pos S.fv, if_pos S.fu, S.len]
  have : deepTo v u.length ≤ deepTo u u.length := deepTo_le fun j hj => by
    have h1 := S.short j hj
    have h2 := deepTo_up u hj
    have e1 : wayOf v j = way v v.length j := rfl
    have e2 : wayOf u j = way u u.length j := rfl
    rw [e1]
    rw [e2] at h2
    omega
  omega
theorem hang_same {v : List Int} {i r : Nat} (h : v[i]? = some (r : Int)) : hang v i r = v := by
  unfold hang
  apply List.ext_getElem?
  intro j
  rw [List.getElem?_set]
  by_cases e : i = j
  · subst e
    rw [if_pos rfl]
    have hl : i < v.length := by
      rcases Nat.lt_or_ge i v.length with hl | hl
      · exact hl
      · rw [List.getElem?_eq_none hl] at h; cases h
    rw [if_pos hl, h]
  · rw [if_neg e]
/-- Cutting twice is cutting. -/
theorem cut_twice {up : List Int} (h : fvB up = true) {i : Nat} (hi : i < up.length) : lookT cutAt (lookT cutAt up i) i = lookT cutAt up i := by
  have S := lookT_shr cut_kind h hi
  have hi' : i < (lookT cutAt up i).length := by rw [S.len]; exact hi
  have hr := root_is h hi
  obtain ⟨c1, c2⟩ := cut_step_to h hi
  have hg : ∀ j, j ∈ wayOf up i → (lookT cutAt up i)[j]? = some (rootI up i : Int) := fun j hj => by
    rw [(look_cut h hi).2, allTo_get (wayOf up i) up (way_lt h hi), if_pos hj]
  have hrm : rootI up i ∈ wayOf up i := root_mem h hi
  rw [(look_cut S.fv hi').2, S.root i hi]
  cases hs : step up i with
  | none =>
    rw [wayOf_root (c1 hs)]
    unfold allTo
    rw [List.foldl_cons, List.foldl_nil]
    exact hang_same (hg i (way_self _ _))
  | some y =>
    have h2 := c2 (by rw [hs]; simp)
    have h4 : step (lookT cutAt up i) (rootI up i) = none := by
      have := root_is S.fv (i := rootI up i) (by rw [S.len]; exact hr.1)
      rw [S.root _ hr.1, rootI_root h hr.2] at this
      exact this.2
    rw [wayOf_cons S.fv hi' h2, wayOf_root h4]
    unfold allTo
    rw [List.foldl_cons, List.foldl_cons, List.foldl_nil, hang_same (hg i (way_self _ _))]
    exact hang_same (hg _ hrm)
/-- A way of looking that there is, from an item that there is. -/
theorem look_yes {up : List Int} {i : Nat} (h : itemB up (i : Int) = true) {l : Int} (hl : 0 ≤ l ∧ l ≤ 3) : lookB up l [(i : Int)] = true ∧ lookedN up l [(i : Int)] = lookT (lookAt l) up i ∧ followedN up l [(i : Int)] = (stepsT (lookAt l) up i : Int) := by
  have hb : lookB up l [(i : Int)] = true := by
    rw [lookB_one, h]
    unfold inLook
    simp [hl.1, hl.2]
  exact ⟨hb, by rw [lookedN_yes hb, nats_one, manyL_one, Int.toNat_natCast], by rw [followedN_yes hb, nats_one, manyS_one, Int.toNat_natCast]⟩
theorem look_item {up : List Int} {l i : Int} (h : lookB up l [i] = true) : itemB up i = true ∧ 0 ≤ l ∧ l ≤ 3 := by
  rw [lookB_one, Bool.and_eq_true] at h
  exact ⟨h.1, of_decide_eq_true h.2⟩
theorem item_still {u v : List Int} (S : Shr u v) {i : Nat} (h : itemB u (i : Int) = true) : itemB v (i : Int) = true := item_of S.fv (by omega) (by rw [S.len]; exact (item_lt h).2)
end Go.Proofs.Ytebgnaiibomjkaa

namespace Go.Proofs.Ytebgnaiibomjkaa

/-- A number halved k times, rounded up. -/
def hseq (d : Nat) : Nat → Nat
  | 0 => d
  | k + 1 => (hseq d k + 1) / 2
theorem hseq_four {d : Nat} (h : d ≤ 16) : hseq d 4 ≤ 1 := by
  show ((((d + 1) / 2 + 1) / 2 + 1) / 2 + 1) / 2 ≤ 1
  omega
theorem hseq_le (d : Nat) : ∀ k, hseq d k ≤ max d 1
  | 0 => by show d ≤ max d 1; omega
  | k + 1 => by
    have := hseq_le d k
    show (hseq d k + 1) / 2 ≤ max d 1
    omega
theorem again_halve {up : List Int} (h : fvB up = true) {i : Nat} (hi : i < up.length) : ∀ k, dist (againL halveAt up i k) i = hseq (dist up i) k
  | 0 => rfl
  | k + 1 => by
    have S := again_shr halve_kind h hi k
    have := (halve_count S.fv (i := i) (by rw [S.len]; exact hi)).2
    rw [again_halve h hi k] at this
    exact this
theorem again_split {up : List Int} (h : fvB up = true) {i : Nat} (hi : i < up.length) : ∀ k, dist (againL splitAt' up i k) i = hseq (dist up i) k
  | 0 => rfl
  | k + 1 => by
    have S := again_shr split_kind h hi k
    have := (split_count S.fv (i := i) (by rw [S.len]; exact hi)).2
    rw [again_split h hi k] at this
    exact this
theorem again_bare {up : List Int} (h : fvB up = true) {i : Nat} (hi : i < up.length) : ∀ k, dist (againL bareAt up i k) i = dist up i
  | 0 => rfl
  | k + 1 => by
    have S := again_shr bare_kind h hi k
    have := (bare_count S.fv (i := i) (by rw [S.len]; exact hi)).2
    rw [again_bare h hi k] at this
    exact this
theorem dist_le16 {up : List Int} (h : fvB up = true) {i : Nat} (hi : i < up.length) : dist up i ≤ 15 := by
  have h1 := (fv_parts h).2.2.2 i hi
  have h2 := (fv_parts h).2.1
  unfold dist wayOf
  omega
/-- None is asked for where the item is right under its root. -/
theorem looks_none {up : List Int} {l : Int} {i : Nat} (h : itemB up (i : Int) = true) (hl : 0 ≤ l ∧ l ≤ 3) (hd : dist up i ≤ 1) : looksN up l (i : Int) = 0 := by
  rw [looksN_yes (by rw [h]; unfold inLook; simp [hl.1, hl.2]), Int.toNat_natCast]
  have e : firstFlat (lookAt l) up i 0 17 = ((0 : Nat) : Int) := firstFlat_at (k := 0) (by omega) (fun j hj => absurd hj (by omega)) hd
  exact e
theorem looks_cut {up : List Int} {i : Nat} (h : itemB up (i : Int) = true) (hd : ¬ dist up i ≤ 1) : looksN up 1 (i : Int) = 1 := by
  have hi : i < up.length := by have := (item_lt h).2; omega
  rw [looksN_yes (by rw [h]; rfl), Int.toNat_natCast, lookAt_1]
  have e : firstFlat cutAt up i 0 17 = ((1 : Nat) : Int) := firstFlat_at (by omega) (fun j hj => by
    have : j = 0 := by omega
    subst this
    exact hd) (by
      have := (cut_count (item_fv h) hi).2
      show dist (lookT cutAt up i) i ≤ 1
      omega)
  exact e
theorem looks_bare {up : List Int} {i : Nat} (h : itemB up (i : Int) = true) (hd : ¬ dist up i ≤ 1) : looksN up 0 (i : Int) = -1 := by
  have hi : i < up.length := by have := (item_lt h).2; omega
  rw [looksN_yes (by rw [h]; rfl), Int.toNat_natCast, lookAt_0]
  exact firstFlat_never fun j _ => by rw [again_bare (item_fv h) hi]; exact hd
theorem looks_halve {up : List Int} {i k : Nat} (h : itemB up (i : Int) = true) (hp : ∀ j, j < k → ¬ hseq (dist up i) j ≤ 1) (hd : hseq (dist up i) k ≤ 1) : looksN up 2 (i : Int) = k ∧ looksN up 3 (i : Int) = k := by
  have hi : i < up.length := by have := (item_lt h).2; omega
  have hf := item_fv h
  have hk : k < 17 := by
    rcases Nat.lt_or_ge 4 k with h4 | h4
    · exact absurd (hseq_four (by have := dist_le16 hf hi; omega)) (hp 4 h4)
    · omega
  constructor
  · rw [looksN_yes (by rw [h]; rfl), Int.toNat_natCast, lookAt_2]
    exact firstFlat_at hk (fun j hj => by rw [again_halve hf hi]; exact hp j hj) (by rw [again_halve hf hi]; exact hd)
  · rw [looksN_yes (by rw [h]; rfl), Int.toNat_natCast, lookAt_3]
    exact firstFlat_at hk (fun j hj => by rw [again_split hf hi]; exact hp j hj) (by rw [again_split hf hi]; exact hd)
end Go.Proofs.Ytebgnaiibomjkaa

namespace Go.Proofs.Ytebgnaiibomjkaa

theorem way_mem_ab {u : List Int} (h : fvB u = true) {j x : Nat} (hj : j < u.length) (hm : x ∈ way u u.length j) : x = j ∨ Ab u j x := by
  obtain ⟨ys, hy, _⟩ := path_first (fv_path h hj) hm
  cases ys with
  | nil =>
    have h' : some j = some x := hy
    injection h' with h'
    exact .inl h'.symm
  | cons y ys =>
    have h1 : some j = some y := hy.1
    injection h1 with h1
    subst h1
    exact .inr ⟨ys, hy.2⟩
theorem many_back (l : Int) : ∀ {its : List Nat} {up : List Int}, fvB up = true → (∀ i ∈ its, i < up.length) → ∀ {a b : Nat}, Ab (manyL (lookAt l) up its) a b → Ab up a b
  | [], _, _, _, _, _, h => h
  | i :: its, up, hf, hi, a, b, h => by
    have S := lookT_shr (look_kind l) hf (hi i (by simp))
    rw [manyL_cons] at h
    have h2 := many_back l (its := its) S.fv (fun j hj => by rw [S.len]; exact hi j (by simp [hj])) h
    exact foT_back (look_kind l) (look_back l) hf (hi i (by simp)) _ (visits_done (look_kind l) hf (hi i (by simp))).1 h2
theorem filter_le {n : Nat} {p q : Nat → Bool} (h : ∀ j, j < n → p j = true → q j = true) : ((List.range n).filter p).length ≤ ((List.range n).filter q).length := by
  have H : ∀ (xs : List Nat), (∀ j ∈ xs, p j = true → q j = true) → (xs.filter p).length ≤ (xs.filter q).length := by
    intro xs
    induction xs with
    | nil => intro _; simp
    | cons x xs ih =>
      intro hx
      have := ih (fun j hj => hx j (by simp [hj]))
      have h2 := hx x (by simp)
      by_cases hp : p x = true
      · rw [List.filter_cons_of_pos hp, List.filter_cons_of_pos (h2 hp)]
        simp
        omega
      · rw [List.filter_cons_of_neg hp]
        by_cases hq : q x = true
        · rw [List.filter_cons_of_pos hq]
          simp
          omega
        · rw [List.filter_cons_of_neg hq]
          exact this
  exact H _ fun j hj => h j (List.mem_range.1 hj)
/-- Nothing new comes below an item. -/
theorem shr_size {u v : List Int} (S : Shr u v) (hB : ∀ {a b : Nat}, Ab v a b → Ab u a b) (x : Nat) : szN v x ≤ szN u x := by
  unfold szN szTo
  rw [S.len]
  refine filter_le fun j hj hp => ?_
  have hm := of_decide_eq_true hp
  apply decide_eq_true
  have hj' : j < v.length := by rw [S.len]; exact hj
  rw [← S.len] at hm
  rw [S.len] at hm
  have hm2 : x ∈ way v v.length j := by rw [S.len]; exact hm
  rcases way_mem_ab S.fv hj' hm2 with e | e
  · rw [e]
    exact way_self _ _
  · exact (ab_up S.fu hj (hB e)).hk
/-- A root has as many below it. -/
theorem shr_root_size {u v : List Int} (S : Shr u v) {r : Nat} (hr : r < u.length) (hs : step u r = none) : szN v r = szN u r := by
  have hs2 : step v r = none := (root_links S.fv (by rw [S.len]; exact hr)).1 (by rw [S.root r hr]; exact rootI_root S.fu hs)
  unfold szN szTo
  rw [S.len]
  congr 1
  refine List.filter_congr fun j hj => ?_
  have hj := List.mem_range.1 hj
  rw [decide_eq_decide]
  have h1 := mem_way_root (r := r) S.fv (i := j) (by rw [S.len]; exact hj) hs2
  have h2 := mem_way_root (r := r) S.fu hj hs
  rw [S.len] at h1
  rw [h1, h2, S.root j hj]
theorem shr_step {u v : List Int} (S : Shr u v) {r : Nat} (hr : r < u.length) : step v r = none ↔ step u r = none := by
  rw [← root_links S.fv (by rw [S.len]; exact hr), ← root_links S.fu hr, S.root r hr]
end Go.Proofs.Ytebgnaiibomjkaa
