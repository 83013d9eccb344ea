/- The laws' marks in slices of slices of integers of the call's own, and looking at them. Condition: lengths up to 1048576, not more than 4194304 marks. -/
import Derived.Test.YtebgnaiibomjkaaRdR
namespace Go.Proofs.Ytebgnaiibomjkaa
open Go.RowKit

/-- Rows of these lengths, marked from k on. -/
def markRows (k : Int) : List Nat → List (List Int)
  | [] => []
  | n :: ns => marks k n :: markRows (k + n) ns
def sumL (ns : List Nat) : Nat := ns.foldr (· + ·) 0
theorem sumL_take_succ {ns : List Nat} {i : Nat} (h : i < ns.length) : sumL (ns.take (i + 1)) = sumL (ns.take i) + ns[i] := by
  induction ns generalizing i with
  | nil => simp at h
  | cons n ns ih =>
    cases i with
    | zero => simp [sumL]
    | succ i =>
      have hi : i < ns.length := by simpa using h
      have := ih (i := i) hi
      simp only [List.take_succ_cons, List.getElem_cons_succ]
      show n + sumL (ns.take (i + 1)) = n + sumL (ns.take i) + ns[i]
      omega
theorem sumL_take_le (ns : List Nat) (i : Nat) : sumL (ns.take i) ≤ sumL ns := by
  induction ns generalizing i with
  | nil => simp [sumL]
  | cons n ns ih =>
    cases i with
    | zero => simp [sumL]
    | succ i =>
      show n + sumL (ns.take i) ≤ n + sumL ns
      have := ih i
      omega
theorem markRows_len (k : Int) (ns : List Nat) : (markRows k ns).length = ns.length := by
  induction ns generalizing k with
  | nil => rfl
  | cons n ns ih => simp [markRows, ih]
theorem markRows_get {k : Int} {ns : List Nat} {i : Nat} (h : i < ns.length) : (markRows k ns)[i]?.getD [] = marks (k + sumL (ns.take i)) ns[i] := by
  induction ns generalizing k i with
  | nil => simp at h
  | cons n ns ih =>
    cases i with
    | zero => simp [markRows, sumL]
    | succ i =>
      have := ih (k := k + n) (i := i) (by simpa using h)
      simp only [markRows, List.getElem?_cons_succ, List.take_succ_cons, List.getElem_cons_succ]
      rw [this]
      congr 1
      show k + (n : Int) + (sumL (ns.take i) : Int) = k + ((n + sumL (ns.take i) : Nat) : Int)
      omega
def lens (zss : List (List Int)) : List Nat := zss.map List.length
theorem lens_len (zss : List (List Int)) : (lens zss).length = zss.length := by simp [lens]
theorem lens_get {zss : List (List Int)} {i : Nat} (h : i < zss.length) : (lens zss)[i]'(by simpa [lens] using h) = (zss[i]?.getD []).length := by simp [lens, h]

/-- The rows up to i marked, the others as they were. -/
def mixRows (k : Int) (zss : List (List Int)) (i : Nat) : List (List Int) := (markRows k (lens zss)).take i ++ zss.drop i
theorem mixRows_len (k : Int) (zss : List (List Int)) (i : Nat) : (mixRows k zss i).length = zss.length := by
  unfold mixRows
  have := markRows_len k (lens zss)
  rw [lens_len] at this
  simp [this]
  omega
theorem mixRows_get {k : Int} {zss : List (List Int)} {i j : Nat} (hj : j < zss.length) : (mixRows k zss i)[j]?.getD [] = if j < i then (markRows k (lens zss))[j]?.getD [] else zss[j]?.getD [] := by
  have hl := markRows_len k (lens zss)
  rw [lens_len] at hl
  unfold mixRows
  by_cases h : j < i
  · rw [if_pos h, List.getElem?_append_left (by simp [hl]; omega), List.getElem?_take_of_lt h]
  · rw [if_neg h, List.getElem?_append_right (by simp [hl]; omega), List.length_take, hl, List.getElem?_drop]
    congr 2
    omega
theorem mixRows_zero (k : Int) (zss : List (List Int)) : mixRows k zss 0 = zss := by simp [mixRows]
theorem mixRows_all (k : Int) (zss : List (List Int)) : mixRows k zss zss.length = markRows k (lens zss) := by
  have hl := markRows_len k (lens zss)
  rw [lens_len] at hl
  simp [mixRows, ← hl]

/-- One row has turned. -/
theorem OwnRows.turned {w w' : World} {base i : Nat} {v c : Value} {vs : List Value} {xss yss : List (List Int)} (h : OwnRows w base v vs xss) (hi : vs[i]? = some c) (hl : yss.length = xss.length) (hc : Own w' base c (yss[i]?.getD [])) (hg : w.grownBy w' c.ownBlock)
    (hsame : ∀ j, j < xss.length → j ≠ i → yss[j]?.getD [] = xss[j]?.getD []) : OwnRows w' base v vs yss := by
  have hin := (List.getElem?_eq_some_iff.1 hi).1
  have hcv := h.apart c (List.mem_of_getElem? hi)
  refine ⟨World.ownsRow.kept h.row hg ?_, by rw [hl]; exact h.len, fun j d hd => ?_, h.apart, h.apart2⟩
  · cases hb : v.ownBlock with
    | none => exact .inl rfl
    | some g =>
      refine .inr fun e => ?_
      rcases hcv with hcv | hcv
      · rw [hcv] at e; cases e
      · exact hcv (e.symm.trans hb.symm)
  · by_cases e : j = i
    · subst e
      rw [hi] at hd
      injection hd with hd
      subst hd
      exact hc
    · have hj := (List.getElem?_eq_some_iff.1 hd).1
      rw [hsame j (by rw [← h.len]; exact hj) e]
      refine (h.each j d hd).kept hg ?_
      have hp := List.pairwise_iff_getElem.1 h.apart2
      have e1 := (List.getElem?_eq_some_iff.1 hd).2
      have e2 := (List.getElem?_eq_some_iff.1 hi).2
      rcases Nat.lt_or_gt_of_ne e with hlt | hlt
      · have := hp j i hj hin hlt
        rwa [e1, e2] at this
      · have := hp i j hin hj hlt
        rw [e1, e2] at this
        rcases this with h0 | h0
        · cases hb : d.ownBlock with
          | none => exact .inl rfl
          | some g => exact .inr (by rw [h0]; simp)
        · exact .inr (Ne.symm h0)

end Go.Proofs.Ytebgnaiibomjkaa