/- Sizes and heights as lists, told so far. Plain lists, no program. -/
import Derived.Test.YtfdkkcigmjonfaaHang
namespace Go.Proofs.Ytfdkkcigmjonfaa

def szL (up : List Int) (k : Nat) (pre : List Nat) : List Int := (List.range up.length).map fun x : Nat => (szAt up k pre x : Int)
def htL (up : List Int) (k : Nat) (pre : List Nat) : List Int := (List.range up.length).map fun x : Nat => (htAt up k pre x : Int)
theorem szL_len (up : List Int) (k : Nat) (pre : List Nat) : (szL up k pre).length = up.length := by simp [szL]
theorem htL_len (up : List Int) (k : Nat) (pre : List Nat) : (htL up k pre).length = up.length := by simp [htL]
theorem szL_get {up : List Int} {k x : Nat} {pre : List Nat} (h : x < up.length) : (szL up k pre)[x]?.getD 0 = (szAt up k pre x : Int) := by simp [szL, h]
theorem htL_get {up : List Int} {k x : Nat} {pre : List Nat} (h : x < up.length) : (htL up k pre)[x]?.getD 0 = (htAt up k pre x : Int) := by simp [htL, h]
theorem map_zero {n : Nat} {f : Nat → Int} (h : ∀ x, f x = 0) : (List.range n).map f = List.replicate n 0 := by
  apply List.ext_getElem
  · simp
  · intro i h1 h2
    simp [h]
theorem szL_zero (up : List Int) : szL up 0 [] = List.replicate up.length 0 := map_zero fun x => by simp [szAt, szTo]
theorem htL_zero (up : List Int) : htL up 0 [] = List.replicate up.length 0 := map_zero fun x => by simp [htAt, htTo, htOne]
theorem map_set {n a : Nat} {f g : Nat → Int} {z : Int} (hz : g a = z) (h : ∀ x, x ≠ a → g x = f x) : ((List.range n).map f).set a z = (List.range n).map g := by
  apply List.ext_getElem
  · simp
  · intro i h1 h2
    rw [List.getElem_set]
    by_cases e : a = i
    · subst e; simp [hz]
    · rw [if_neg e]; simp [h i (Ne.symm e)]
theorem szL_set {up : List Int} {k a : Nat} {pre : List Nat} (h : a ∉ pre) : (szL up k pre).set a ((szAt up k pre a : Int) + 1) = szL up k (pre ++ [a]) :=
  map_set (by rw [szAt_snoc h, if_pos rfl]; omega) fun x hx => by rw [szAt_snoc h, if_neg hx]
theorem htL_set {up : List Int} {k a : Nat} {pre : List Nat} (h : a ∉ pre) : (htL up k pre).set a (max (htAt up k pre a : Int) (pre.length : Int)) = htL up k (pre ++ [a]) :=
  map_set (by rw [htAt_snoc h, if_pos rfl]; omega) fun x hx => by rw [htAt_snoc h, if_neg hx]
theorem szL_next (up : List Int) (k : Nat) : szL up k (way up up.length k) = szL up (k + 1) [] := by
  unfold szL
  refine List.map_congr_left fun x _ => ?_
  rw [szAt_way, szAt_nil]
theorem htL_next (up : List Int) (k : Nat) : htL up k (way up up.length k) = htL up (k + 1) [] := by
  unfold htL
  refine List.map_congr_left fun x _ => ?_
  rw [htAt_way, htAt_nil]
theorem szAt_le (up : List Int) (k : Nat) (pre : List Nat) (x : Nat) : szAt up k pre x ≤ k + 1 := by
  unfold szAt
  have := szTo_le up k x
  split <;> omega
theorem htAt_le {up : List Int} (h : fvB up = true) {k : Nat} (hk : k ≤ up.length) {pre : List Nat} (hp : pre.length ≤ 16) (x : Nat) : htAt up k pre x ≤ 16 := by
  unfold htAt
  have h1 := htTo_bound h hk x
  have h2 := htOne_le pre x
  omega
/-- What SizesOf and HeightsOf answer. -/
def sizesN (up : List Int) : List Int := if fvB up = true then szL up up.length [] else []
def heightsN (up : List Int) : List Int := if fvB up = true then htL up up.length [] else []
theorem sizesN_no {up : List Int} (h : fvB up = false) : sizesN up = [] := by unfold sizesN; rw [h]; simp
theorem sizesN_yes {up : List Int} (h : fvB up = true) : sizesN up = szL up up.length [] := by unfold sizesN; rw [if_pos h]
theorem heightsN_no {up : List Int} (h : fvB up = false) : heightsN up = [] := by unfold heightsN; rw [h]; simp
theorem heightsN_yes {up : List Int} (h : fvB up = true) : heightsN up = htL up up.length [] := by unfold heightsN; rw [if_pos h]
theorem sizesN_len16 (up : List Int) : (sizesN up).length ≤ 16 := by
  cases h : fvB up with
  | false => rw [sizesN_no h]; simp
  | true => rw [sizesN_yes h, szL_len]; exact (fv_parts h).2.1
theorem heightsN_len16 (up : List Int) : (heightsN up).length ≤ 16 := by
  cases h : fvB up with
  | false => rw [heightsN_no h]; simp
  | true => rw [heightsN_yes h, htL_len]; exact (fv_parts h).2.1
theorem way_take {W : List Nat} {t : Nat} (hn : W.Nodup) (ht : t < W.length) : W[t]?.getD 0 ∉ W.take t ∧ W.take (t + 1) = W.take t ++ [W[t]?.getD 0] := by
  rw [List.getElem?_eq_getElem ht, Option.getD_some]
  refine ⟨fun hm => ?_, List.take_succ_eq_append_getElem ht⟩
  have hn2 := hn
  rw [← List.take_append_drop t W, List.nodup_append, List.drop_eq_getElem_cons ht] at hn2
  exact hn2.2.2 _ hm _ List.mem_cons_self rfl
end Go.Proofs.Ytfdkkcigmjonfaa
