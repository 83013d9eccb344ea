/- Sizes and heights along the ways: those of roots are those of classes, above an item both grow. No condition. -/
import Derived.Test.YtebgnaiibomjkaaSquares
import Derived.Test.YtebgnaiibomjkaaHang
namespace Go.Proofs.Ytebgnaiibomjkaa
open Go.RowKit

theorem path_above {up : List Int} {i p : Nat} (hs : step up i = some p) : ∀ {o : Option Nat} {xs : List Nat}, Path up o xs none → i ∈ xs → xs.Nodup → p ∈ xs ∧ xs.idxOf p = xs.idxOf i + 1
  | _, [], _, hm, _ => by simp at hm
  | o, x :: t, h, hm, hn => by
    obtain ⟨_, ht⟩ := h
    obtain ⟨hx, hn'⟩ := List.nodup_cons.1 hn
    by_cases e : x = i
    · subst e
      rw [hs] at ht
      cases t with
      | nil => cases ht
      | cons y t =>
        obtain ⟨e2, _⟩ := ht
        injection e2 with e2
        subst e2
        have hne : x ≠ p := fun e => hx (by rw [e]; simp)
        refine ⟨by simp, ?_⟩
        rw [List.idxOf_cons, List.idxOf_cons_self, List.idxOf_cons]
        have : (x == p) = false := by simp [hne]
        rw [this]
        simp
    · have hm' : i ∈ t := by
        rcases List.mem_cons.1 hm with rfl | h
        · exact absurd rfl e
        · exact h
      obtain ⟨h1, h2⟩ := path_above hs ht hm' hn'
      have hne : x ≠ p := fun e => hx (by rw [e]; exact h1)
      refine ⟨List.mem_cons_of_mem _ h1, ?_⟩
      rw [List.idxOf_cons, List.idxOf_cons]
      have e1 : (x == p) = false := by simp [hne]
      have e2 : (x == i) = false := by simp [e]
      rw [e1, e2]
      simp only [cond_false]
      omega
theorem filter_lt {l : List Nat} {P Q : Nat → Bool} (h : ∀ x ∈ l, P x = true → Q x = true) {a : Nat} (ha : a ∈ l) (hq : Q a = true) (hp : P a = false) : (l.filter P).length < (l.filter Q).length := by
  induction l with
  | nil => simp at ha
  | cons x l ih =>
    have hle : (l.filter P).length ≤ (l.filter Q).length := by
      have : ∀ (m : List Nat), (∀ x ∈ m, P x = true → Q x = true) → (m.filter P).length ≤ (m.filter Q).length := by
        intro m
        induction m with
        | nil => simp
        | cons y m ihm =>
          intro hm
          have h1 := ihm fun z hz => hm z (List.mem_cons_of_mem _ hz)
          have h2 := hm y (by simp)
          rw [List.filter_cons, List.filter_cons]
          cases hP : P y <;> cases hQ : Q y <;> simp_all <;> omega
      exact this l fun z hz => h z (List.mem_cons_of_mem _ hz)
    rw [List.filter_cons, List.filter_cons]
    rcases List.mem_cons.1 ha with rfl | ha
    · rw [hp, hq]
      simp
      omega
    · have h1 := ih (fun z hz => h z (List.mem_cons_of_mem _ hz)) ha
      have h2 := h x (by simp)
      cases hP : P x <;> cases hQ : Q x <;> simp_all <;> omega

theorem self_on (up : List Int) (i : Nat) : i ∈ way up up.length i := by
  have h1 := way_len up up.length i
  cases n : up.length with
  | zero => simp [way]
  | succ k => rw [way]; split <;> simp
theorem on_step {up : List Int} (h : fvB up = true) {i p : Nat} (hs : step up i = some p) {j : Nat} (hj : j < up.length) (hm : i ∈ way up up.length j) : p ∈ way up up.length j ∧ (way up up.length j).idxOf p = (way up up.length j).idxOf i + 1 :=
  path_above hs (fv_path h hj) hm (way_nodup h hj)
theorem not_back {up : List Int} (h : fvB up = true) {i p : Nat} (_ : i < up.length) (hs : step up i = some p) (hp : p < up.length) : i ∉ way up up.length p := fun hm => by
  have h1 := on_step h hs hp hm
  have h2 : Path up (some i) (i :: way up up.length p) none := ⟨rfl, by rw [hs]; exact fv_path h hp⟩
  have h3 := path_nodup h2
  exact (List.nodup_cons.1 h3).1 hm
theorem sz_up {up : List Int} (h : fvB up = true) {i p : Nat} (hi : i < up.length) (hs : step up i = some p) : szN up i < szN up p := by
  have hp := path_step_lt (fv_in h) hi hs
  refine filter_lt (a := p) (fun j hj hm => ?_) (List.mem_range.2 hp) ?_ ?_
  · simp only [decide_eq_true_eq] at hm ⊢
    exact (on_step h hs (List.mem_range.1 hj) hm).1
  · simp only [decide_eq_true_eq]
    exact self_on up p
  · simp only [decide_eq_false_iff_not]
    exact not_back h hi hs hp
theorem ht_up {up : List Int} (h : fvB up = true) {i p : Nat} (hi : i < up.length) (hs : step up i = some p) : htN up i < htN up p := by
  have key : ∀ j, j < up.length → i ∈ way up up.length j → (way up up.length j).idxOf i + 1 ≤ htN up p := fun j hj hm => by
    have h1 := on_step h hs hj hm
    have h2 := htTo_ge (up := up) p hj
    unfold htOne at h2
    rw [if_pos h1.1, h1.2] at h2
    exact h2
  obtain ⟨j, hj, ha⟩ := htTo_attain (up := up) i (show 0 < up.length by omega)
  have ha : htN up i ≤ htOne (way up up.length j) i := ha
  unfold htOne at ha
  by_cases hm : i ∈ way up up.length j
  · rw [if_pos hm] at ha
    have := key j hj hm
    omega
  · rw [if_neg hm] at ha
    have := key i hi (self_on up i)
    omega
theorem sz_root {up : List Int} (h : fvB up = true) {r : Nat} (hr : r < up.length) (hs : step up r = none) : (clsN up (r : Int)).length = szN up r := by
  have hit : itemB up (r : Int) = true := item_of h (by omega) (by omega)
  rw [clsN_yes hit, rootN_yes hit, rootI_root h hs]
  unfold cls szN szTo
  rw [List.length_map]
  congr 1
  refine List.filter_congr fun j hj => ?_
  have := mem_way_root h (List.mem_range.1 hj) hs
  by_cases e : rootI up j = r
  · rw [e]
    simp [this.2 e]
  · have h1 : r ∉ way up up.length j := fun hm => e (this.1 hm)
    simp only [h1, decide_false]
    rw [beq_eq_false_iff_ne]
    omega

/-- The sizes of the roots among the first k, summed up; their greatest height. -/
def rootSum (up : List Int) (k : Nat) : Nat := sumL ((List.range k).map fun i : Nat => if up[i]?.getD 0 = (i : Int) then szN up i else 0)
def rootMost (up : List Int) (k : Nat) : Nat := (List.range k).foldl (fun (m i : Nat) => max m (if up[i]?.getD 0 = (i : Int) then htN up i else 0)) 0
theorem rootSum_succ (up : List Int) (k : Nat) : rootSum up (k + 1) = rootSum up k + if up[k]?.getD 0 = (k : Int) then szN up k else 0 := by
  unfold rootSum
  rw [List.range_succ, List.map_append, sumL_append]
  simp [sumL_cons, sumL_nil]
theorem rootMost_succ (up : List Int) (k : Nat) : rootMost up (k + 1) = max (rootMost up k) (if up[k]?.getD 0 = (k : Int) then htN up k else 0) := by simp [rootMost, List.range_succ, List.foldl_append]
theorem rootSum_all {up : List Int} (h : fvB up = true) : rootSum up up.length = up.length := by
  have e1 : rootSum up up.length = sumL ((List.range up.length).map fun i : Nat => sumL ((List.range up.length).map fun j : Nat => if (decide (up[i]?.getD 0 = (i : Int)) && decide (i ∈ way up up.length j)) = true then 1 else 0)) := by
    refine sumL_congr fun i hi => ?_
    rw [sumL_filter]
    by_cases hr : up[i]?.getD 0 = (i : Int)
    · rw [if_pos hr]
      simp [hr, szN, szTo]
    · rw [if_neg hr]
      rw [List.filter_eq_nil_iff.2 (fun j _ => by simp [hr])]
      simp
  rw [e1, sumL_swap]
  have e2 : ∀ j ∈ List.range up.length, sumL ((List.range up.length).map fun i : Nat => if (decide (up[i]?.getD 0 = (i : Int)) && decide (i ∈ way up up.length j)) = true then 1 else 0) = 1 := fun j hj => by
    have hj := List.mem_range.1 hj
    rw [sumL_filter, Nat.one_mul]
    have hri := root_is h hj
    refine filter_one List.nodup_range (List.mem_range.2 hri.1) fun x hx => ?_
    simp only [Bool.and_eq_true, decide_eq_true_eq]
    constructor
    · rintro ⟨h1, h2⟩
      exact (root_on h hj (step_iff.2 h1) h2).symm
    · rintro rfl
      exact ⟨step_iff.1 hri.2, (mem_way_root h hj hri.2).2 rfl⟩
  rw [sumL_congr e2]
  have : ∀ n : Nat, sumL ((List.range n).map fun _ => 1) = n := fun n => by
    induction n with
    | zero => rfl
    | succ n ih => rw [List.range_succ, List.map_append, sumL_append, ih]; rfl
  exact this _
theorem rootMost_ge {up : List Int} {i : Nat} : ∀ {k : Nat}, i < k → up[i]?.getD 0 = (i : Int) → htN up i ≤ rootMost up k
  | 0, h, _ => by omega
  | k + 1, h, hr => by
    rw [rootMost_succ]
    by_cases e : i = k
    · subst e
      rw [if_pos hr]
      omega
    · have := rootMost_ge (k := k) (by omega) hr
      omega
theorem rootMost_le {up : List Int} {M : Nat} : ∀ {k : Nat}, (∀ i, i < k → up[i]?.getD 0 = (i : Int) → htN up i ≤ M) → rootMost up k ≤ M
  | 0, _ => by simp [rootMost]
  | k + 1, h => by
    rw [rootMost_succ]
    have := rootMost_le (k := k) fun i hi => h i (by omega)
    by_cases e : up[k]?.getD 0 = (k : Int)
    · rw [if_pos e]
      have := h k (by omega) e
      omega
    · rw [if_neg e]
      omega
theorem deepTo_ge2 (up : List Int) {j : Nat} : ∀ {k : Nat}, j < k → (wayOf up j).length - 1 ≤ deepTo up k
  | 0, h => by omega
  | k + 1, h => by
    rw [deepTo_succ]
    by_cases e : j = k
    · subst e
      omega
    · have := deepTo_ge2 up (j := j) (k := k) (by omega)
      omega
theorem deepTo_le2 (up : List Int) {M : Nat} : ∀ {k : Nat}, (∀ j, j < k → (wayOf up j).length - 1 ≤ M) → deepTo up k ≤ M
  | 0, _ => by simp [deepTo]
  | k + 1, h => by
    rw [deepTo_succ]
    have := deepTo_le2 up (k := k) fun i hi => h i (by omega)
    have := h k (by omega)
    omega
theorem rootMost_all {up : List Int} (h : fvB up = true) : rootMost up up.length = deepTo up up.length := by
  apply Nat.le_antisymm
  · refine rootMost_le fun i hi hr => htTo_le i _ fun j hj => ?_
    rw [htOne_root h hj (step_iff.2 hr)]
    split
    · exact deepTo_ge2 up hj
    · omega
  · refine deepTo_le2 up fun j hj => ?_
    have hri := root_is h hj
    have h1 := rootMost_ge hri.1 (step_iff.1 hri.2)
    have h2 := htTo_ge (up := up) (rootI up j) hj
    rw [htOne_root h hj hri.2, if_pos rfl] at h2
    exact Nat.le_trans h2 h1
theorem szN_le (up : List Int) (x : Nat) : szN up x ≤ up.length := szTo_le up _ _
theorem htN_le {up : List Int} (h : fvB up = true) (x : Nat) : htN up x ≤ 16 := htTo_bound h (Nat.le_refl _) x
theorem rootSum_le {up : List Int} {k : Nat} (hk : k ≤ up.length) (h : fvB up = true) : rootSum up k ≤ 256 := by
  have h16 := (fv_parts h).2.1
  have : ∀ k : Nat, rootSum up k ≤ k * 16 := fun k => by
    induction k with
    | zero => simp [rootSum, sumL_nil]
    | succ k ih =>
      rw [rootSum_succ]
      have := szN_le up k
      split <;> omega
  have := this k
  omega
theorem rootMost_16 {up : List Int} (h : fvB up = true) (k : Nat) : rootMost up k ≤ 16 := rootMost_le fun i _ _ => htN_le h i
end Go.Proofs.Ytebgnaiibomjkaa
