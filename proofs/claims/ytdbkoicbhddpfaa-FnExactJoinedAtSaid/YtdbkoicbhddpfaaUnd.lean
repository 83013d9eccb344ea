/- What undoes the steps of a history, one behind the other: it stays when other steps are done. -/
import Derived.Test.YtdbkoicbhddpfaaHistDo
namespace Go.Proofs.Ytdbkoicbhddpfaa
open Go.RowKit Go.Shelf

/-- Each done step's function value undoes it: it holds the sizes and heights of before. -/
inductive Und (w : World) (base M n : Nat) : List (Int × Int × Value) → List Int → (Nat → Nat) → (Nat → Nat) → Prop
  | nil : Und w base M n [] (roots n) (szN (roots n)) (htN (roots n))
  | snoc {ds : List (Int × Int × Value)} {u : List Int} {sz ht : Nat → Nat} {x y : Nat} {F : Value} : Und w base M n ds u sz ht → Two u x y → Undoer w base M x y (sz y) (ht y) F →
      Und w base M n (ds ++ [((x : Int), (y : Int), F)]) (hang u x y) (fun z => if z = y then sz y + sz x else sz z) (fun z => if z = y then max (ht y) (ht x + 1) else ht z)
/-- Blocks of other kinds than done steps stay. -/
def Kinds (w w' : World) (base : Nat) : Prop := ∀ K, base ≤ K → K < w.heap.size → (∀ cs, w.heap[K]? ≠ some (.cells cs 177 (0, 0))) → w'.heap[K]? = w.heap[K]?
theorem Undoer.kinds {w w' : World} {base M x y s t : Nat} {F : Value} (h : Undoer w base M x y s t F) (hk : Kinds w w' base) : Undoer w' base M x y s t F := by
  obtain ⟨K4, K6, K5, hF, b4, b6, b5, l4, l6, l5⟩ := h
  have h4 : w.heap[K4]? = some (.cells #[.pointer (some ⟨M, x * 3, none⟩)] 112 (0, 0)) := b4
  have h5 : w.heap[K5]? = some (.cells #[.pointer (some ⟨M, y * 3, none⟩)] 112 (0, 0)) := b5
  refine ⟨K4, K6, K5, hF, (hk K4 l4 (Array.getElem?_eq_some_iff.1 h4).1 (fun cs e => ?_)).trans b4, (hk K6 l6 (Array.getElem?_eq_some_iff.1 b6).1 (fun cs e => ?_)).trans b6, (hk K5 l5 (Array.getElem?_eq_some_iff.1 h5).1 (fun cs e => ?_)).trans b5, l4, l6, l5⟩
  · rw [h4] at e; simp at e
  · rw [b6] at e; simp at e
  · rw [h5] at e; simp at e
theorem Und.kinds {w w' : World} {base M n : Nat} {ds : List (Int × Int × Value)} {u : List Int} {sz ht : Nat → Nat} (h : Und w base M n ds u sz ht) (hk : Kinds w w' base) : Und w' base M n ds u sz ht := by
  induction h with
  | nil => exact .nil
  | snoc _ T hU ih => exact .snoc ih T (hU.kinds hk)
theorem Und.keep {w w' : World} {base M n : Nat} {ds : List (Int × Int × Value)} {u : List Int} {sz ht : Nat → Nat} (h : Und w base M n ds u sz ht) (hb : Below w.heap.size w w') : Und w' base M n ds u sz ht :=
  h.kinds fun K _ hl _ => hb.block K hl
/-- When a step has been done. -/
theorem Und.done {w w' : World} {base H M N n : Nat} {D : Value} {ds : List (Int × Int × Value)} {u : List Int} {sz ht : Nat → Nat} (h : Und w base M n ds u sz ht) (hD : OwnD w base D ds) (hH : H < base) (hM : M < base) (hN : N < base) (hc : Chg (fun i => i = N ∨ i = M ∨ i = H ∨ D.ownBlock = some i) w w') : Und w' base M n ds u sz ht :=
  h.kinds fun K hK hl hno => hc.block K hl (fun hi => by
    rcases hi with e | e | e | e
    · omega
    · omega
    · omega
    · rcases hD.2 with ⟨hv, _⟩ | ⟨g, cap, cur, hv, _, hh, _⟩
      · rw [hv] at e; cases e
      · rw [hv] at e
        have e1 : g = K := by simpa [Value.ownBlock] using e
        subst e1
        exact hno cur hh)
end Go.Proofs.Ytdbkoicbhddpfaa
