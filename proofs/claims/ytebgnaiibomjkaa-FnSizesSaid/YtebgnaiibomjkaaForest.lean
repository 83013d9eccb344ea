/- Ways up in forests, as plain lists of numbers: no program. A forest is a list of links; a way goes on while the link is not the item's own number. No condition. -/
import Derived.Test.YtebgnaiibomjkaaBase
namespace Go.Proofs.Ytebgnaiibomjkaa

/-- The link of an item, as a number of an item. -/
def nx (up : List Int) (i : Nat) : Nat := (up[i]?.getD 0).toNat
/-- The item above, if this is no root. -/
def step (up : List Int) (i : Nat) : Option Nat := if up[i]?.getD 0 = (i : Int) then none else some (nx up i)
/-- From o one comes over xs to o'. -/
def Path (up : List Int) : Option Nat → List Nat → Option Nat → Prop
  | o, [], o' => o = o'
  | o, x :: xs, o' => o = some x ∧ Path up (step up x) xs o'
/-- All links are items. -/
def InB (up : List Int) : Prop := ∀ i, i < up.length → 0 ≤ up[i]?.getD 0 ∧ up[i]?.getD 0 < up.length
/-- The way up from an item, of at most k links. -/
def way (up : List Int) : Nat → Nat → List Nat
  | 0, i => [i]
  | k + 1, i => i :: (match step up i with | none => [] | some j => way up k j)

theorem path_snoc {up : List Int} : ∀ {o : Option Nat} {xs : List Nat} {x : Nat}, Path up o xs (some x) → Path up o (xs ++ [x]) (step up x)
  | _, [], x, h => by
    have h' : _ = some x := h
    exact ⟨h', rfl⟩
  | _, _ :: _, _, h => ⟨h.1, path_snoc h.2⟩
theorem path_last {up : List Int} : ∀ {o o' : Option Nat} {xs : List Nat} {x : Nat}, Path up o (xs ++ [x]) o' → Path up o xs (some x) ∧ o' = step up x
  | _, _, [], _, h => ⟨h.1, h.2.symm⟩
  | _, _, _ :: _, _, h => ⟨⟨h.1, (path_last h.2).1⟩, (path_last h.2).2⟩
theorem path_lt {up : List Int} (hb : InB up) : ∀ {o : Option Nat} {xs : List Nat} {x : Nat}, (∀ i, o = some i → i < up.length) → Path up o xs (some x) → x < up.length
  | _, [], x, ho, h => ho x h
  | _, y :: ys, x, ho, h => path_lt hb (fun i hi => by
      have hy := ho y h.1
      unfold step at hi
      split at hi
      · cases hi
      · have := hb y hy
        injection hi with hi
        unfold nx at hi
        omega) h.2
theorem path_step_lt {up : List Int} (hb : InB up) {x y : Nat} (hx : x < up.length) (h : step up x = some y) : y < up.length :=
  path_lt hb (o := some x) (xs := [x]) (fun i hi => by cases hi; exact hx) ⟨rfl, h⟩
theorem path_det {up : List Int} : ∀ {o p q : Option Nat} {xs ys : List Nat}, Path up o xs p → Path up o ys q → xs.length ≤ ys.length → xs <+: ys
  | _, _, _, [], _, _, _, _ => List.nil_prefix
  | _, _, _, x :: xs, [], _, _, h => by simp at h
  | _, _, _, x :: xs, y :: ys, h, k, hl => by
    have e : x = y := by have := h.1.symm.trans k.1; simpa using this
    subst e
    rw [List.cons_prefix_cons]
    exact ⟨rfl, path_det h.2 k.2 (by simpa using hl)⟩
theorem path_none {up : List Int} {xs : List Nat} {q : Option Nat} (h : Path up none xs q) : xs = [] := by
  cases xs with
  | nil => rfl
  | cons x xs => have := h.1; simp at this
theorem path_end {up : List Int} : ∀ {o q : Option Nat} {xs ys : List Nat}, Path up o xs none → Path up o ys q → ys.length ≤ xs.length
  | _, _, [], ys, h, k => by
    have h' : _ = none := h
    rw [h'] at k
    rw [path_none k]
    simp
  | _, _, x :: xs, [], _, _ => by simp
  | _, _, x :: xs, y :: ys, h, k => by
    have e : x = y := by have := h.1.symm.trans k.1; simpa using this
    subst e
    have := path_end h.2 k.2
    simpa using this
theorem path_uniq {up : List Int} {o : Option Nat} {xs ys : List Nat} (h : Path up o xs none) (k : Path up o ys none) : xs = ys := by
  have h1 := path_end h k
  have h2 := path_end k h
  exact (path_det h k h2).eq_of_length (by omega)

theorem way_done {up : List Int} : ∀ {k i : Nat} {xs : List Nat}, Path up (some i) xs none → xs.length ≤ k + 1 → way up k i = xs
  | _, _, [], h, _ => by
    have h' : some _ = none := h
    cases h'
  | 0, i, x :: xs, h, hl => by
    have e : i = x := by have := h.1; simpa using this
    subst e
    have : xs = [] := by simpa using hl
    subst this
    rfl
  | k + 1, i, x :: xs, h, hl => by
    have e : i = x := by have := h.1; simpa using this
    subst e
    have h2 := h.2
    unfold way
    congr 1
    cases hs : step up i with
    | none => rw [hs] at h2; exact (path_none h2).symm
    | some j => rw [hs] at h2; exact way_done h2 (by simp at hl; omega)
theorem way_long {up : List Int} : ∀ {k i : Nat} {xs : List Nat} {o : Option Nat}, Path up (some i) xs o → xs.length = k + 1 → way up k i = xs
  | _, _, [], _, _, hl => by simp at hl
  | 0, i, x :: xs, _, h, hl => by
    have e : i = x := by have := h.1; simpa using this
    subst e
    have : xs = [] := by simpa using hl
    subst this
    rfl
  | k + 1, i, x :: xs, o, h, hl => by
    have e : i = x := by have := h.1; simpa using this
    subst e
    have h2 := h.2
    unfold way
    congr 1
    cases hs : step up i with
    | none =>
      rw [hs] at h2
      have := path_none h2
      subst this
      simp at hl
    | some j => rw [hs] at h2; exact way_long h2 (by simp at hl; omega)
theorem way_len (up : List Int) : ∀ (k i : Nat), 1 ≤ (way up k i).length ∧ (way up k i).length ≤ k + 1
  | 0, _ => by simp [way]
  | k + 1, i => by
    unfold way
    cases step up i with
    | none => simp
    | some j => have := way_len up k j; simp; omega
/-- A way that is shorter than it might be ends at a root. -/
theorem way_path {up : List Int} : ∀ {k i : Nat}, (way up k i).length ≤ k → Path up (some i) (way up k i) none
  | 0, i, h => by simp [way] at h
  | k + 1, i, h => by
    unfold way at h ⊢
    cases hs : step up i with
    | none => rw [hs] at h; exact ⟨rfl, hs⟩
    | some j =>
      rw [hs] at h
      refine ⟨rfl, ?_⟩
      show Path up (step up i) (way up k j) none
      rw [hs]
      exact way_path (by simp at h; omega)

/-- A valid forest, as the document says it. -/
def inbB (up : List Int) : Bool := up.all fun k => decide (0 ≤ k) && decide (k < (up.length : Int))
def reachB (up : List Int) (i : Nat) : Bool := decide ((way up up.length i).length ≤ up.length)
def fvB (up : List Int) : Bool := decide (1 ≤ up.length) && decide (up.length ≤ 16) && inbB up && (List.range up.length).all (reachB up)

theorem inb_of {up : List Int} (h : inbB up = true) : InB up := by
  intro i hi
  have := List.all_eq_true.1 h up[i] (List.getElem_mem hi)
  simp only [Bool.and_eq_true, decide_eq_true_eq] at this
  simpa [hi] using this
theorem inb_to {up : List Int} (h : InB up) : inbB up = true := by
  refine List.all_eq_true.2 fun k hk => ?_
  obtain ⟨i, hi, rfl⟩ := List.getElem_of_mem hk
  have := h i hi
  simp only [List.getElem?_eq_getElem hi, Option.getD_some] at this
  simpa using this

theorem fv_parts {up : List Int} (h : fvB up = true) : 1 ≤ up.length ∧ up.length ≤ 16 ∧ InB up ∧ ∀ i, i < up.length → (way up up.length i).length ≤ up.length := by
  unfold fvB at h
  simp only [Bool.and_eq_true, decide_eq_true_eq, List.all_eq_true, List.mem_range] at h
  exact ⟨h.1.1.1, h.1.1.2, inb_of h.1.2, fun i hi => of_decide_eq_true (h.2 i hi)⟩
theorem fv_in {up : List Int} (h : fvB up = true) : InB up := (fv_parts h).2.2.1
theorem fv_path {up : List Int} (h : fvB up = true) {i : Nat} (hi : i < up.length) : Path up (some i) (way up up.length i) none := way_path ((fv_parts h).2.2.2 i hi)
theorem fv_of {up : List Int} (h1 : 1 ≤ up.length) (h2 : up.length ≤ 16) (h3 : InB up) (h4 : ∀ i, i < up.length → (way up up.length i).length ≤ up.length) : fvB up = true := by
  unfold fvB
  simp only [Bool.and_eq_true, decide_eq_true_eq, List.all_eq_true, List.mem_range]
  exact ⟨⟨⟨h1, h2⟩, inb_to h3⟩, fun i hi => decide_eq_true (h4 i hi)⟩

/-- Is there such an item of a valid forest? -/
def itemB (up : List Int) (i : Int) : Bool := fvB up && decide (0 ≤ i ∧ i < (up.length : Int))
theorem item_fv {up : List Int} {i : Int} (h : itemB up i = true) : fvB up = true := by
  unfold itemB at h
  simp only [Bool.and_eq_true] at h
  exact h.1
theorem item_lt {up : List Int} {i : Int} (h : itemB up i = true) : 0 ≤ i ∧ i < (up.length : Int) := by
  unfold itemB at h
  simp only [Bool.and_eq_true, decide_eq_true_eq] at h
  exact h.2
theorem item_of {up : List Int} {i : Int} (h : fvB up = true) (h0 : 0 ≤ i) (h1 : i < (up.length : Int)) : itemB up i = true := by
  unfold itemB
  rw [h]
  simp [h0, h1]
theorem item_no {up : List Int} {i : Int} (h : fvB up = false) : itemB up i = false := by unfold itemB; rw [h]; rfl
theorem item_out {up : List Int} {i : Int} (h : ¬ (0 ≤ i ∧ i < (up.length : Int))) : itemB up i = false := by
  unfold itemB
  rw [decide_eq_false h, Bool.and_false]
/-- The way up from an item, the last of it, and what RootOf says. -/
def wayOf (up : List Int) (i : Nat) : List Nat := way up up.length i
def lastOf (i : Nat) (pre : List Nat) : Nat := pre.getLast?.getD i
theorem lastOf_snoc (i x : Nat) (pre : List Nat) : lastOf i (pre ++ [x]) = x := by simp [lastOf]
def rootI (up : List Int) (i : Nat) : Nat := lastOf i (wayOf up i)
def rootN (up : List Int) (i : Int) : Int := if itemB up i = true then (rootI up i.toNat : Int) else -1
theorem rootN_yes {up : List Int} {i : Nat} (h : itemB up (i : Int) = true) : rootN up (i : Int) = (rootI up i : Int) := by unfold rootN; rw [if_pos h]; simp
theorem rootN_no {up : List Int} {i : Int} (h : itemB up i = false) : rootN up i = -1 := by unfold rootN; rw [h]; simp
theorem last_path {up : List Int} {o : Option Nat} {ys : List Nat} {q : Option Nat} {i : Nat} (h : Path up o ys q) (hne : ys ≠ []) : ∃ pre, ys = pre ++ [lastOf i ys] ∧ Path up o pre (some (lastOf i ys)) ∧ q = step up (lastOf i ys) := by
  have e : ys = ys.dropLast ++ [lastOf i ys] := by
    unfold lastOf
    rw [List.getLast?_eq_some_getLast hne, Option.getD_some, List.dropLast_concat_getLast hne]
  rw [e] at h
  have e2 : lastOf i (ys.dropLast ++ [lastOf i ys]) = lastOf i ys := lastOf_snoc _ _ _
  exact ⟨ys.dropLast, e, (path_last h).1, (path_last h).2⟩
/-- Of a valid forest: the root is an item, and a root. -/
theorem root_is {up : List Int} (h : fvB up = true) {i : Nat} (hi : i < up.length) : rootI up i < up.length ∧ step up (rootI up i) = none := by
  have hp := fv_path h hi
  have hne : way up up.length i ≠ [] := by
    intro e
    have := (way_len up up.length i).1
    rw [e] at this
    simp at this
  obtain ⟨pre, _, h2, h3⟩ := last_path (i := i) hp hne
  exact ⟨path_lt (fv_in h) (fun j hj => by cases hj; exact hi) h2, h3.symm⟩
/-- As deep as the deepest. -/
def deepTo (up : List Int) (k : Nat) : Nat := (List.range k).foldl (fun m i => max m ((wayOf up i).length - 1)) 0
theorem deepTo_succ (up : List Int) (k : Nat) : deepTo up (k + 1) = max (deepTo up k) ((wayOf up k).length - 1) := by simp [deepTo, List.range_succ, List.foldl_append]
def deepN (up : List Int) : Int := if fvB up = true then (deepTo up up.length : Int) else -1

theorem rootN_nonneg {up : List Int} {i : Int} (h : itemB up i = true) : 0 ≤ rootN up i := by unfold rootN; rw [if_pos h]; omega
/-- Are two items together? -/
def togB (up : List Int) (a b : Int) : Bool := itemB up a && itemB up b && (rootN up a == rootN up b)
theorem togB_no {up : List Int} {a b : Int} (h : itemB up a = false) : togB up a b = false := by unfold togB; rw [h]; rfl
theorem togB_yes {up : List Int} {a b : Int} (h : itemB up a = true) : togB up a b = (rootN up a == rootN up b) := by
  unfold togB
  rw [h]
  cases hb : itemB up b with
  | true => rfl
  | false =>
    have := rootN_nonneg h
    rw [rootN_no hb]
    simp
    omega

/-- Items as ints. -/
def ints (xs : List Nat) : List Int := xs.map fun x : Nat => (x : Int)
theorem ints_len (xs : List Nat) : (ints xs).length = xs.length := by simp [ints]
theorem ints_snoc (xs : List Nat) (x : Nat) : ints (xs ++ [x]) = ints xs ++ [(x : Int)] := by simp [ints]
theorem step_none {up : List Int} {x : Nat} (h : step up x = none) : up[x]?.getD 0 = (x : Int) := by
  unfold step at h
  split at h
  · assumption
  · cases h
theorem step_some {up : List Int} (hb : InB up) {x y : Nat} (hx : x < up.length) (h : step up x = some y) : up[x]?.getD 0 = (y : Int) ∧ y ≠ x ∧ y < up.length := by
  have hy := path_step_lt hb hx h
  have hh := hb x hx
  unfold step nx at h
  split at h
  · cases h
  · rename_i hne
    injection h with h
    refine ⟨by omega, fun e => hne (by omega), hy⟩

/-- What WayUp answers. -/
def wayN (up : List Int) (i : Int) : List Nat := if itemB up i = true then way up up.length i.toNat else []
theorem wayN_no {up : List Int} {i : Int} (h : itemB up i = false) : wayN up i = [] := by unfold wayN; rw [h]; simp
theorem wayN_yes {up : List Int} {i : Nat} (h : itemB up (i : Int) = true) : wayN up (i : Int) = way up up.length i := by unfold wayN; rw [if_pos h]; simp

end Go.Proofs.Ytebgnaiibomjkaa

namespace Go.Proofs.Ytebgnaiibomjkaa

theorem rootI_root {up : List Int} {r : Nat} (h : fvB up = true) (hs : step up r = none) : rootI up r = r := by
  have h1 := (fv_parts h).1
  unfold rootI wayOf
  obtain ⟨m, hm⟩ : ∃ m, up.length = m + 1 := ⟨up.length - 1, by omega⟩
  rw [hm]
  unfold way
  rw [hs]
  rfl
theorem root_facts {up : List Int} {a : Int} (h : itemB up a = true) : ∃ r : Nat, rootN up a = (r : Int) ∧ r < up.length ∧ itemB up (r : Int) = true ∧ rootN up (r : Int) = (r : Int) ∧ up[r]?.getD 0 = (r : Int) ∧ togB up a (r : Int) = true := by
  have hf := item_fv h
  have hl := item_lt h
  obtain ⟨j, rfl⟩ := Int.eq_ofNat_of_zero_le hl.1
  have hr := root_is hf (i := j) (by omega)
  have hi : itemB up (rootI up j : Int) = true := item_of hf (by omega) (by have := hr.1; omega)
  have he : rootN up (rootI up j : Int) = (rootI up j : Int) := by rw [rootN_yes hi, rootI_root hf hr.2]
  refine ⟨rootI up j, rootN_yes h, hr.1, hi, he, step_none hr.2, ?_⟩
  unfold togB
  rw [h, hi, rootN_yes h, he]
  simp
theorem togB_symm (up : List Int) (a b : Int) : togB up a b = togB up b a := by
  unfold togB
  rw [Bool.and_comm (itemB up a), Bool.beq_comm (a := rootN up a)]
theorem togB_both {up : List Int} {a b : Int} (ha : itemB up a = true) (hb : itemB up b = true) : togB up a b = (rootN up a == rootN up b) := by
  unfold togB
  rw [ha, hb]
  rfl
end Go.Proofs.Ytebgnaiibomjkaa
