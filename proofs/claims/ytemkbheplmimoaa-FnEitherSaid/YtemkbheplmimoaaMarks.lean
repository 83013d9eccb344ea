/- A function that ranges over a function within a loop leaves with one mark a round among its deferred calls: what is asked of the marks, and how they are shut at the return. No condition. -/
import Derived.Test.YtemkbheplmimoaaIter
namespace Go.Proofs.Ytemkbheplmimoaa
open Go.RowKit

/-- The marks of the blocks D. -/
def marksOf (D : List Nat) : List Deferred := D.map fun d => { target := .collected d, args := #[] }
/-- They are open, each lies from base on and below top, and no two are one. -/
def Marked (w : World) (base : Nat) (D : List Nat) : Prop := D.Nodup ∧ ∀ d ∈ D, base ≤ d ∧ w.heap[d]? = some (.deferred (some []))
theorem marked_none (w : World) (base : Nat) : Marked w base [] := ⟨List.nodup_nil, by simp⟩
theorem Marked.lt {w : World} {base : Nat} {D : List Nat} (h : Marked w base D) : ∀ d ∈ D, d < w.heap.size := fun d hd => (Array.getElem?_eq_some_iff.1 (h.2 d hd).2).1
theorem Marked.kept {w w' : World} {base : Nat} {D : List Nat} (h : Marked w base D) (he : ∀ d ∈ D, w'.heap[d]? = w.heap[d]?) : Marked w' base D :=
  ⟨h.1, fun d hd => ⟨(h.2 d hd).1, (he d hd).trans (h.2 d hd).2⟩⟩
theorem Marked.grown {w w' : World} {base : Nat} {D : List Nat} {row : Option Nat} (h : Marked w base D) (hg : w.grownBy w' row) (hr : ∀ r, row = some r → r ∉ D) : Marked w' base D :=
  h.kept fun d hd => hg.block d (h.lt d hd) (fun e => hr d e.symm hd)
theorem Marked.below {w w' : World} {base : Nat} {D : List Nat} (h : Marked w base D) (hb : Below w.heap.size w w') : Marked w' base D :=
  h.kept fun d hd => hb.block d (h.lt d hd)
theorem Marked.more {w : World} {base d : Nat} {D : List Nat} (h : Marked w base D) (hd : w.heap[d]? = some (.deferred (some []))) (hb : base ≤ d) (hn : d ∉ D) : Marked w base (d :: D) :=
  ⟨List.nodup_cons.2 ⟨hn, h.1⟩, fun x hx => by
    rcases List.mem_cons.1 hx with rfl | hx
    · exact ⟨hb, hd⟩
    · exact h.2 x hx⟩
/-- A store into a block of cells touches no mark. -/
theorem Marked.setCell {w : World} {base b : Nat} {D : List Nat} (h : Marked w base D) (hb : ∃ cs t f, w.heap[b]? = some (.cells cs t f)) (o : Nat) (v : Value) : Marked (w.setCell ⟨b, o, none⟩ v) base D :=
  h.kept fun d hd => Below.heap_setCell w ⟨b, o, none⟩ v d (fun e => by
    obtain ⟨cs, t, f, hc⟩ := hb
    have e' : d = b := e
    have := (h.2 d hd).2
    rw [e', hc] at this
    cases this)
theorem Marked.alloc {w : World} {base : Nat} {D : List Nat} (h : Marked w base D) (o : Obj) : Marked (w.alloc o) base D :=
  h.kept fun d hd => Below.heap_alloc w o d (h.lt d hd)
theorem marked_from {β : Type} (B base : Nat) (D : List Nat) (hB : ∀ d ∈ D, d < B) : OwnFrom B (fun (_ : β) W => Marked W base D) := fun _ _ _ _ h hg hr =>
  h.grown hg fun r e hm => by
    have := (hr r e).1
    have := hB r hm
    omega

/-- What of a world stays when marks are shut. -/
structure Shut (w w' : World) (base : Nat) : Prop where
  os : w'.os = w.os
  tape : w'.tape = w.tape
  output : w'.output = w.output
  size : w'.heap.size = w.heap.size
  low : ∀ k : Nat, k < base → w'.heap[k]? = w.heap[k]?
  cells : ∀ (k : Nat) cs t f, w.heap[k]? = some (Obj.cells cs t f) → w'.heap[k]? = some (Obj.cells cs t f)
theorem Shut.refl (w : World) (base : Nat) : Shut w w base := ⟨rfl, rfl, rfl, rfl, fun _ _ => rfl, fun _ _ _ _ h => h⟩
theorem Shut.below {w w' a : World} {base B : Nat} (h : Shut w w' base) (hb : Below B a w) (hB : B ≤ base) : Below B a w' :=
  ⟨h.os.trans hb.os, h.tape.trans hb.tape, h.output.trans hb.output, by rw [h.size]; exact hb.size, fun k hk => (h.low k (by omega)).trans (hb.block k hk)⟩
theorem shut_one {w w' : World} {base d : Nat} (hd : w.heap[d]? = some (.deferred (some []))) (hb : base ≤ d) (h : Shut (w.putObj d (.deferred none)) w' base) : Shut w w' base := by
  refine ⟨h.os, h.tape, h.output, by rw [h.size]; simp [World.putObj], fun k hk => ?_, fun k cs t f hk => h.cells k cs t f ?_⟩
  · rw [h.low k hk]
    exact World.putObj_heap_other (by omega)
  · rw [← hk]
    refine World.putObj_heap_other fun e => ?_
    rw [e, hd] at hk
    cases hk
/-- The marks are shut one by one; then the function hands its results over. -/
theorem leaves_marks {F : Fence} {n : Nat} {P : Program} {fn : Func} {tmps : Array Value} {R : Ending → World → Prop} {base : Nat} : ∀ (D : List Nat) (w : World), Marked w base D →
    (∀ w', Shut w w' base → ∃ v, (results fn tmps).run P w' = .ok v w' ∧ R (.returned v) w') → LeavesInM F n P fn tmps R (marksOf D) .returning w
  | [], w, _, h => h w (Shut.refl w base)
  | d :: D, w, hm, h => by
    have hd := hm.2 d (by simp)
    refine ⟨by simp, .inl ⟨d, _, rfl, run_takeDeferred hd.2, ?_⟩⟩
    refine leaves_marks D _ ⟨(List.nodup_cons.1 hm.1).2, fun x hx => ⟨(hm.2 x (List.mem_cons_of_mem _ hx)).1, ?_⟩⟩ fun w' hs => h w' (shut_one hd.2 hd.1 hs)
    rw [World.putObj_heap_other (show x ≠ d from fun e => (List.nodup_cons.1 hm.1).1 (by rw [← e]; exact hx))]
    exact (hm.2 x (List.mem_cons_of_mem _ hx)).2
end Go.Proofs.Ytemkbheplmimoaa
