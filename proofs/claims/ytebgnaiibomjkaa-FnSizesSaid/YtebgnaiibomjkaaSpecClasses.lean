/- The model's ClassesOf. Condition: lengths up to 1048576. -/
import Derived.Test.YtebgnaiibomjkaaSpec2
import Derived.Test.YtebgnaiibomjkaaClass
import Derived.Test.YtebgnaiibomjkaaRdR
namespace Go.Proofs.Ytebgnaiibomjkaa
open Go.RowKit

theorem spec_class_kept : True := trivial

end Go.Proofs.Ytebgnaiibomjkaa
namespace Go.Proofs.Ytebgnaiibomjkaa
open Go.RowKit
/-- The items below k that are the first of their class. -/
def heads (up : List Int) (k : Nat) : List Nat := (List.range k).filter fun i => (cls up (rootI up i : Int) up.length)[0]?.getD 0 == (i : Int)
theorem heads_yes {up : List Int} {k : Nat} (h : (cls up (rootI up k : Int) up.length)[0]?.getD 0 = (k : Int)) : heads up (k + 1) = heads up k ++ [k] := by
  simp only [heads, List.range_succ, List.filter_append, List.filter_cons, List.filter_nil]
  rw [h]
  simp
theorem heads_no {up : List Int} {k : Nat} (h : (cls up (rootI up k : Int) up.length)[0]?.getD 0 ≠ (k : Int)) : heads up (k + 1) = heads up k := by
  simp only [heads, List.range_succ, List.filter_append, List.filter_cons, List.filter_nil]
  rw [if_neg (by simpa using h)]
  simp
theorem heads_len (up : List Int) (k : Nat) : (heads up k).length ≤ k := by
  unfold heads
  exact Nat.le_trans (List.length_filter_le _ _) (by simp)
/-- The classes told up to k. -/
def rowsTo (up : List Int) (k : Nat) : List (List Int) := (heads up k).map fun i => cls up (rootI up i : Int) up.length
theorem rowsTo_len (up : List Int) (k : Nat) : (rowsTo up k).length ≤ k := by
  unfold rowsTo
  rw [List.length_map]
  exact heads_len up k
theorem rowsTo_yes {up : List Int} {k : Nat} (h : (cls up (rootI up k : Int) up.length)[0]?.getD 0 = (k : Int)) : rowsTo up (k + 1) = rowsTo up k ++ [cls up (rootI up k : Int) up.length] := by
  unfold rowsTo
  rw [heads_yes h, List.map_append]
  rfl
theorem rowsTo_no {up : List Int} {k : Nat} (h : (cls up (rootI up k : Int) up.length)[0]?.getD 0 ≠ (k : Int)) : rowsTo up (k + 1) = rowsTo up k := by
  unfold rowsTo
  rw [heads_no h]
/-- What ClassesOf answers. -/
def rowsN (up : List Int) : List (List Int) := if fvB up = true then rowsTo up up.length else []
theorem rowsN_no {up : List Int} (h : fvB up = false) : rowsN up = [] := by unfold rowsN; rw [h]; simp
theorem rowsN_yes {up : List Int} (h : fvB up = true) : rowsN up = rowsTo up up.length := by unfold rowsN; rw [if_pos h]
theorem cls_self {up : List Int} {i : Nat} (hi : i < up.length) : 1 ≤ (cls up (rootI up i : Int) up.length).length := by
  have : (i : Int) ∈ cls up (rootI up i : Int) up.length := by
    unfold cls
    exact List.mem_map.2 ⟨i, List.mem_filter.2 ⟨by simpa using hi, by simp⟩, rfl⟩
  have := List.length_pos_of_mem this
  omega

theorem Try.info_ints : (Try.prog.info? 23).map (fun i => (i.zero, i.size, i.bytes)) = some (some (.slice none 0 0), 1, 24) := by kernel_rfl

end Go.Proofs.Ytebgnaiibomjkaa