/- The model's SameClasses. Condition: lengths up to 1048576. -/
import Derived.Test.YtfafgihfgdpclaaSpec2
import Derived.Test.YtfafgihfgdpclaaForest
namespace Go.Proofs.Ytfafgihfgdpclaa
open Go.RowKit

/-- Are the items i and k of both forests together alike? -/
def likeB (xs ys : List Int) (i k : Nat) : Bool := ((rootI xs i : Int) == (rootI xs k : Int)) == ((rootI ys i : Int) == (rootI ys k : Int))
/-- What SameClasses answers: both valid, as long, all pairs together alike. -/
def sameN (xs ys : List Int) : Bool := fvB xs && fvB ys && decide (xs.length = ys.length) && (List.range xs.length).all fun i => (List.range i).all fun k => likeB xs ys i k
theorem sameN_no1 {xs ys : List Int} (h : fvB xs = false) : sameN xs ys = false := by unfold sameN; rw [h]; rfl
theorem sameN_no2 {xs ys : List Int} (h : fvB ys = false) : sameN xs ys = false := by unfold sameN; rw [h]; simp
theorem sameN_no3 {xs ys : List Int} (h : xs.length ≠ ys.length) : sameN xs ys = false := by unfold sameN; simp [h]
theorem sameN_no {xs ys : List Int} {i k : Nat} (hi : i < xs.length) (hk : k < i) (h : likeB xs ys i k = false) : sameN xs ys = false := by
  unfold sameN
  rw [Bool.and_eq_false_iff]
  right
  rw [List.all_eq_false]
  refine ⟨i, by simpa using hi, ?_⟩
  rw [Bool.not_eq_true, List.all_eq_false]
  exact ⟨k, by simpa using hk, by simp [h]⟩
theorem sameN_yes {xs ys : List Int} (h1 : fvB xs = true) (h2 : fvB ys = true) (h3 : xs.length = ys.length) (h : ∀ i k, i < xs.length → k < i → likeB xs ys i k = true) : sameN xs ys = true := by
  unfold sameN
  rw [h1, h2]
  simp only [h3, decide_true, Bool.and_self, Bool.true_and, List.all_eq_true, List.mem_range]
  intro i hi k hk
  exact h i k (by omega) hk

end Go.Proofs.Ytfafgihfgdpclaa