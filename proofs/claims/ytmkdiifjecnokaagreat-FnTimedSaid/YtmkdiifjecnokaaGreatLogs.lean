/- The exact laws' helpers for logs, and NewLog of the specification. Condition: lengths up to 1048576. -/
import Derived.Test.YtmkdiifjecnokaaGreatHelpQ
import Derived.Test.YtmkdiifjecnokaaGreatExactQ
namespace Go.Proofs.YtmkdiifjecnokaaGreat
open Go.RowKit

theorem OwnQ.none_yet (t : TypeId) (w : World) (base : Nat) (hb : base ≤ w.heap.size) : OwnQ t (w.alloc (.cells #[] t)) base (.slice (some ⟨w.heap.size, 0, none⟩) 0 0) [] := by
  have h := World.ownsRow_lit (base := base) (e := t) (size := 2) w #[] 0 hb (by unfold maxLen; omega) (by simp)
  simpa [OwnQ, qcells] using h
/-- Two boxed slices. -/
theorem log_box (w : World) (v0 v1 : Value) : Below w.heap.size w (w.alloc (.cells #[v0, v1] 47)) := (Below.refl _ _).alloc (Nat.le_refl _) _
theorem logs_eq {xs ys : List Int} {ps qs : List (Int × Int)} : decide ((xs, ps) = (ys, qs)) = (decide (xs = ys) && decide (ps = qs)) := by
  by_cases h1 : xs = ys <;> by_cases h2 : ps = qs <;> simp [h1, h2]
theorem modify_at {xs : Array Obj} {b : Nat} {o : Obj} (f : Obj → Obj) (h : xs[b]? = some o) : (xs.modify b f)[b]? = some (f o) := by
  obtain ⟨hlt, hk⟩ := Array.getElem?_eq_some_iff.1 h
  rw [Array.getElem?_eq_getElem (by rw [Array.size_modify]; exact hlt), Array.getElem_modify_self, hk]
theorem boxTwo_set {W : World} {b : Nat} {x y : Value} {t : TypeId} (h : W.heap[b]? = some (.cells #[x, y] t (0, 0))) (a c : Value) : ((W.setCell ⟨b, 0, none⟩ a).setCell ⟨b, 1, none⟩ c).heap[b]? = some (.cells #[a, c] t (0, 0)) := by
  have h1 : (W.setCell ⟨b, 0, none⟩ a).heap[b]? = some (.cells #[a, y] t (0, 0)) := modify_at _ h
  exact modify_at _ h1
theorem boxTwo_cells {W : World} {b : Nat} {x y : Value} {t : TypeId} (h : W.heap[b]? = some (.cells #[x, y] t (0, 0))) : (W.cell? ⟨b, 0, none⟩ = some x ∧ W.cell? ⟨b, 1, none⟩ = some y) ∧ W.frozen? ⟨b, 0, none⟩ = false ∧ W.frozen? ⟨b, 1, none⟩ = false := by
  refine ⟨⟨?_, ?_⟩, ?_, ?_⟩
  · simp [World.cell?, h]
  · simp [World.cell?, h]
  · simp [World.frozen?, h]
  · simp [World.frozen?, h]
/-- The two cells of a result. -/
theorem boxTwo_below {w W : World} {C b : Nat} (h : Below C w W) (hb : C ≤ b) (a c : Value) : Below C w ((W.setCell ⟨b, 0, none⟩ a).setCell ⟨b, 1, none⟩ c) := (h.setCell (p := ⟨b, 0, none⟩) hb a).setCell (p := ⟨b, 1, none⟩) hb c
theorem boxTwo_grown (W : World) (b : Nat) (a c : Value) : W.grownBy ((W.setCell ⟨b, 0, none⟩ a).setCell ⟨b, 1, none⟩ c) (some b) :=
  ⟨rfl, rfl, rfl, by simp [World.setCell], fun k _ hk => (Below.heap_setCell _ _ _ k (fun e => hk (by rw [e]))).trans (Below.heap_setCell _ _ _ k (fun e => hk (by rw [e])))⟩
end Go.Proofs.YtmkdiifjecnokaaGreat