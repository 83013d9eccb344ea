/- A list that is told one by one. No program. -/
import Derived.Test.YtemkbheplmimoaaHang
namespace Go.Proofs.Ytemkbheplmimoaa

/-- What has been told of the first k. -/
def tellL (f : Nat → Nat) (n k : Nat) : List Int := (List.range n).map fun x : Nat => if x < k then (f x : Int) else 0
theorem tellL_len (f : Nat → Nat) (n k : Nat) : (tellL f n k).length = n := by simp [tellL]
theorem tellL_zero (f : Nat → Nat) (n : Nat) : tellL f n 0 = List.replicate n 0 := by
  apply List.ext_getElem (by simp [tellL])
  intro i h1 h2
  simp [tellL]
theorem tellL_set (f : Nat → Nat) {n k : Nat} (_ : k < n) : (tellL f n k).set k (f k : Int) = tellL f n (k + 1) := by
  apply List.ext_getElem (by simp [tellL])
  intro i h1 h2
  simp only [tellL, List.getElem_set, List.getElem_map, List.getElem_range]
  by_cases e : k = i
  · subst e
    simp
  · rw [if_neg e]
    by_cases h : i < k
    · rw [if_pos h, if_pos (by omega)]
    · rw [if_neg h, if_neg (by omega)]
theorem tellL_all (f : Nat → Nat) (n : Nat) : tellL f n n = (List.range n).map fun x : Nat => (f x : Int) := by
  unfold tellL
  exact List.map_congr_left fun x hx => by rw [if_pos (List.mem_range.1 hx)]
end Go.Proofs.Ytemkbheplmimoaa
