/- Offsets: the exact laws' helpers for them, and OffsetsValid of the specification. Condition: lengths up to 1048576. -/
import Derived.Test.YtmkdiifjecnokaaGreatLogs
import Derived.Test.YtmkdiifjecnokaaGreatSpec2
namespace Go.Proofs.YtmkdiifjecnokaaGreat
open Go.RowKit

/-- Whether an item's difference is valid. -/
def okBy (us bs : List Int) (i : Nat) : Bool := decide (-16000 ≤ bs[i]?.getD 0 ∧ bs[i]?.getD 0 ≤ 16000) && !(decide (us[i]?.getD 0 = (i : Int)) && !decide (bs[i]?.getD 0 = 0))
def offB (us bs : List Int) : Bool := fvB us && decide (bs.length = us.length) && (List.range bs.length).all (okBy us bs)
theorem offB_v {us bs : List Int} (h : fvB us = false) : offB us bs = false := by unfold offB; rw [h]; rfl
theorem offB_l {us bs : List Int} (h : bs.length ≠ us.length) : offB us bs = false := by unfold offB; rw [decide_eq_false h]; simp
theorem offB_bad {us bs : List Int} {k : Nat} (hk : k < bs.length) (h : okBy us bs k = false) : offB us bs = false := by
  cases e : offB us bs with
  | false => rfl
  | true =>
    unfold offB at e
    simp only [Bool.and_eq_true, List.all_eq_true, List.mem_range] at e
    rw [e.2 k hk] at h
    cases h
theorem offB_of {us bs : List Int} (h1 : fvB us = true) (h2 : bs.length = us.length) (h3 : ∀ k, k < bs.length → okBy us bs k = true) : offB us bs = true := by
  unfold offB
  simp only [Bool.and_eq_true, decide_eq_true_eq, List.all_eq_true, List.mem_range]
  exact ⟨⟨h1, h2⟩, h3⟩
theorem offB_parts {us bs : List Int} (h : offB us bs = true) : fvB us = true ∧ bs.length = us.length ∧ ∀ k, k < bs.length → okBy us bs k = true := by
  unfold offB at h
  simp only [Bool.and_eq_true, decide_eq_true_eq, List.all_eq_true, List.mem_range] at h
  exact ⟨h.1.1, h.1.2, h.2⟩

/-- One cell of a box of two. -/
theorem boxTwo_put0 {W : World} {b : Nat} {x y : Value} {t : TypeId} (h : W.heap[b]? = some (.cells #[x, y] t (0, 0))) (a : Value) : (W.setCell ⟨b, 0, none⟩ a).heap[b]? = some (.cells #[a, y] t (0, 0)) := modify_at _ h
theorem boxTwo_put1 {W : World} {b : Nat} {x y : Value} {t : TypeId} (h : W.heap[b]? = some (.cells #[x, y] t (0, 0))) (a : Value) : (W.setCell ⟨b, 1, none⟩ a).heap[b]? = some (.cells #[x, a] t (0, 0)) := modify_at _ h
/-- A store of one cell, told zs growth of its block. -/
theorem put_grown (W : World) (b o : Nat) (v : Value) : W.grownBy (W.setCell ⟨b, o, none⟩ v) (some b) :=
  ⟨rfl, rfl, rfl, by simp [World.setCell], fun _ _ hk => Below.heap_setCell _ _ _ _ (fun e => hk (by rw [e]))⟩
theorem blocks_ne {v v2 : Value} {w w2 : World} {b1 b2 : Nat} {xs ys : List Int} (h1 : Own w b1 v xs) (h2 : Own w2 b2 v2 ys) (hb : w.heap.size ≤ b2) : ∀ x, v.ownBlock = some x → ∀ y, v2.ownBlock = some y → x ≠ y := fun x hx y hy e => by
  have a := (h1.blockOf x hx).2
  have b := (h2.blockOf y hy).1
  omega
theorem offs_eq {xs ys zs bs : List Int} : decide ((xs, zs) = (ys, bs)) = (decide (xs = ys) && decide (zs = bs)) := by
  by_cases h1 : xs = ys <;> by_cases h2 : zs = bs <;> simp [h1, h2]
end Go.Proofs.YtmkdiifjecnokaaGreat