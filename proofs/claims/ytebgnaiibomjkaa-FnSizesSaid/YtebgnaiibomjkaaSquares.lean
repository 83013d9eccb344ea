/- Pairs of items that are together, counted, are the squares of the classes. Plain lists, no program. -/
import Derived.Test.YtebgnaiibomjkaaRowsAll
import Derived.Test.YtebgnaiibomjkaaMarkRows
namespace Go.Proofs.Ytebgnaiibomjkaa

theorem sumL_nil : sumL [] = 0 := rfl
theorem sumL_cons (x : Nat) (xs : List Nat) : sumL (x :: xs) = x + sumL xs := rfl
theorem sumL_append (xs ys : List Nat) : sumL (xs ++ ys) = sumL xs + sumL ys := by
  induction xs with
  | nil => simp [sumL_nil]
  | cons x xs ih => rw [List.cons_append, sumL_cons, sumL_cons, ih]; omega
theorem sumL_add {α : Type} (xs : List α) (f g : α → Nat) : sumL (xs.map fun x => f x + g x) = sumL (xs.map f) + sumL (xs.map g) := by
  induction xs with
  | nil => rfl
  | cons x xs ih => simp only [List.map_cons, sumL_cons]; rw [ih]; omega
theorem sumL_zero {α : Type} (xs : List α) : sumL (xs.map fun _ => 0) = 0 := by
  induction xs with
  | nil => rfl
  | cons x xs ih => simp only [List.map_cons, sumL_cons]; rw [ih]
theorem sumL_swap {α β : Type} (xs : List α) (ys : List β) (f : α → β → Nat) : sumL (xs.map fun x => sumL (ys.map fun y => f x y)) = sumL (ys.map fun y => sumL (xs.map fun x => f x y)) := by
  induction xs with
  | nil => simp only [List.map_nil, sumL_nil]; rw [sumL_zero]
  | cons x xs ih =>
    simp only [List.map_cons, sumL_cons]
    rw [ih, ← sumL_add]
theorem sumL_filter {α : Type} (xs : List α) (p : α → Bool) (c : Nat) : sumL (xs.map fun x => if p x = true then c else 0) = c * (xs.filter p).length := by
  induction xs with
  | nil => rfl
  | cons x xs ih =>
    simp only [List.map_cons, sumL_cons]
    rw [ih]
    cases h : p x
    · simp [h]
    · simp only [h, List.filter_cons_of_pos, List.length_cons, Nat.mul_add]; simp; omega
theorem sumL_congr {α : Type} {xs : List α} {f g : α → Nat} (h : ∀ x ∈ xs, f x = g x) : sumL (xs.map f) = sumL (xs.map g) := by
  rw [List.map_congr_left h]

/-- As many pairs as the items below i make with all, and i with those below k. -/
def pairsTo (up : List Int) (i : Nat) : Nat := sumL ((List.range i).map fun j => (cls up (rootI up j : Int) up.length).length)
theorem pairsTo_succ (up : List Int) (i : Nat) : pairsTo up (i + 1) = pairsTo up i + (cls up (rootI up i : Int) up.length).length := by
  unfold pairsTo
  rw [List.range_succ, List.map_append, sumL_append]
  rfl
def squaresTo (up : List Int) (j : Nat) : Nat := sumL (((rowsTo up up.length).take j).map fun R => R.length * R.length)
theorem squaresTo_succ {up : List Int} {j : Nat} (hj : j < (rowsTo up up.length).length) : squaresTo up (j + 1) = squaresTo up j + ((rowsTo up up.length)[j]?.getD []).length * ((rowsTo up up.length)[j]?.getD []).length := by
  unfold squaresTo
  rw [List.take_succ_eq_append_getElem hj, List.map_append, sumL_append, List.getElem?_eq_getElem hj]
  rfl
theorem row_count {up : List Int} {R : List Int} (hR : R ∈ rowsTo up up.length) : ((List.range up.length).filter fun i : Nat => decide ((i : Int) ∈ R)).length = R.length := by
  unfold rowsTo at hR
  obtain ⟨h, _, rfl⟩ := List.mem_map.1 hR
  have e : ((List.range up.length).filter fun i : Nat => decide ((i : Int) ∈ cls up (rootI up h : Int) up.length)) = (List.range up.length).filter fun i => (rootI up i : Int) == (rootI up h : Int) := by
    refine List.filter_congr fun i hi => ?_
    have hi' : i < up.length := by simpa using hi
    rw [Bool.eq_iff_iff, decide_eq_true_iff, beq_iff_eq, mem_cls hi']
  rw [e]
  unfold cls
  rw [List.length_map]
theorem pairs_squares {up : List Int} : pairsTo up up.length = squaresTo up (rowsTo up up.length).length := by
  unfold pairsTo squaresTo
  rw [List.take_length]
  have h1 : ∀ i ∈ List.range up.length, (cls up (rootI up i : Int) up.length).length = sumL ((rowsTo up up.length).map fun R => if decide ((i : Int) ∈ R) = true then R.length else 0) := by
    intro i hi
    have hi' : i < up.length := by simpa using hi
    have h2 : sumL ((rowsTo up up.length).map fun R => if decide ((i : Int) ∈ R) = true then R.length else 0) = sumL ((rowsTo up up.length).map fun R => if decide ((i : Int) ∈ R) = true then (cls up (rootI up i : Int) up.length).length else 0) := by
      refine sumL_congr fun R hR => ?_
      by_cases hm : (i : Int) ∈ R
      · rw [if_pos (by simpa using hm), if_pos (by simpa using hm), (mem_rows hR hm).2]
      · rw [if_neg (by simpa using hm), if_neg (by simpa using hm)]
    rw [h2, sumL_filter]
    have := inTo_all hi'
    unfold inTo at this
    rw [List.take_length] at this
    rw [this, Nat.mul_one]
  rw [sumL_congr h1, sumL_swap]
  refine sumL_congr fun R hR => ?_
  rw [sumL_filter, row_count hR]
theorem pairsTo_le (up : List Int) (i : Nat) : pairsTo up i ≤ i * up.length := by
  induction i with
  | zero => simp [pairsTo, sumL_nil]
  | succ i ih =>
    rw [pairsTo_succ, Nat.add_mul]
    have := cls_len up (rootI up i : Int) up.length
    omega
theorem squaresTo_le (up : List Int) (j : Nat) : squaresTo up j ≤ j * (up.length * up.length) := by
  unfold squaresTo
  have key : ∀ (Rs : List (List Int)), (∀ R ∈ Rs, R.length ≤ up.length) → sumL (Rs.map fun R => R.length * R.length) ≤ Rs.length * (up.length * up.length) := by
    intro Rs
    induction Rs with
    | nil => intro _; simp [sumL_nil]
    | cons R Rs ih =>
      intro h
      have h1 := h R (by simp)
      have h2 := ih fun S hS => h S (List.mem_cons_of_mem _ hS)
      have h3 : R.length * R.length ≤ up.length * up.length := Nat.mul_le_mul h1 h1
      simp only [List.map_cons, sumL_cons, List.length_cons, Nat.add_mul]
      omega
  have h4 := key ((rowsTo up up.length).take j) fun R hR => by
    have hR' := List.mem_of_mem_take hR
    unfold rowsTo at hR'
    obtain ⟨h, _, rfl⟩ := List.mem_map.1 hR'
    exact cls_len up _ _
  have h5 : ((rowsTo up up.length).take j).length ≤ j := by rw [List.length_take]; omega
  exact Nat.le_trans h4 (Nat.mul_le_mul_right _ h5)
theorem small_sq {n j m : Nat} (hn : n ≤ 16) (hj : j ≤ 16) (h : m ≤ j * (n * n)) : m ≤ 4096 := by
  have h1 : n * n ≤ 16 * 16 := Nat.mul_le_mul hn hn
  have h2 : j * (n * n) ≤ 16 * (16 * 16) := Nat.mul_le_mul hj h1
  omega
theorem row_len {up : List Int} {j : Nat} (hj : j < (rowsTo up up.length).length) : ((rowsTo up up.length)[j]?.getD []).length ≤ up.length := by
  have hR := row_at hj
  unfold rowsTo at hR
  obtain ⟨h, _, e⟩ := List.mem_map.1 hR
  unfold rowsTo
  rw [← e]
  exact cls_len up _ _
end Go.Proofs.Ytebgnaiibomjkaa
