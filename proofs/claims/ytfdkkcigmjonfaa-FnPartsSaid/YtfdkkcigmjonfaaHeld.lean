/- What of a world is held through a region that draws its order: all below a bound, and one or two cells. No condition. -/
import Derived.Test.YtfdkkcigmjonfaaBase
import Derived.Deep.RegionHeld3
namespace Go.Proofs.Ytfdkkcigmjonfaa
open Go.RowKit

theorem held1_drew {B : Nat} {a w : World} {p : Addr} {v : Value} (h : Below B a w ∧ w.cell? p = some v) : Below B a w.drew ∧ w.drew.cell? p = some v :=
  ⟨⟨h.1.os, h.1.tape, h.1.output, h.1.size, h.1.block⟩, h.2⟩
theorem held1_call {B : Nat} {a w w' : World} {p : Addr} {v : Value} (h : Below B a w ∧ w.cell? p = some v) (hb : Below w.heap.size w w') (hB : B ≤ w.heap.size) : Below B a w' ∧ w'.cell? p = some v :=
  ⟨h.1.trans (hb.mono hB), (hb.cell (World.block_lt_of_cell? w _ h.2)).trans h.2⟩
theorem held2_drew {B : Nat} {a w : World} {p q : Addr} {v u : Value} (h : Below B a w ∧ w.cell? p = some v ∧ w.cell? q = some u) : Below B a w.drew ∧ w.drew.cell? p = some v ∧ w.drew.cell? q = some u :=
  ⟨⟨h.1.os, h.1.tape, h.1.output, h.1.size, h.1.block⟩, h.2⟩
theorem held2_call {B : Nat} {a w w' : World} {p q : Addr} {v u : Value} (h : Below B a w ∧ w.cell? p = some v ∧ w.cell? q = some u) (hb : Below w.heap.size w w') (hB : B ≤ w.heap.size) : Below B a w' ∧ w'.cell? p = some v ∧ w'.cell? q = some u :=
  ⟨h.1.trans (hb.mono hB), (hb.cell (World.block_lt_of_cell? w _ h.2.1)).trans h.2.1, (hb.cell (World.block_lt_of_cell? w _ h.2.2)).trans h.2.2⟩
theorem held4_drew {B : Nat} {a w : World} {p q r s : Addr} {v u x y : Value} (h : Below B a w ∧ w.cell? p = some v ∧ w.cell? q = some u ∧ w.cell? r = some x ∧ w.cell? s = some y) : Below B a w.drew ∧ w.drew.cell? p = some v ∧ w.drew.cell? q = some u ∧ w.drew.cell? r = some x ∧ w.drew.cell? s = some y :=
  ⟨⟨h.1.os, h.1.tape, h.1.output, h.1.size, h.1.block⟩, h.2⟩
theorem held3_drew {B : Nat} {a w : World} {p q r : Addr} {v u x : Value} (h : Below B a w ∧ w.cell? p = some v ∧ w.cell? q = some u ∧ w.cell? r = some x) : Below B a w.drew ∧ w.drew.cell? p = some v ∧ w.drew.cell? q = some u ∧ w.drew.cell? r = some x :=
  ⟨⟨h.1.os, h.1.tape, h.1.output, h.1.size, h.1.block⟩, h.2⟩
theorem held3_call {B : Nat} {a w w' : World} {p q r : Addr} {v u x : Value} (h : Below B a w ∧ w.cell? p = some v ∧ w.cell? q = some u ∧ w.cell? r = some x) (hb : Below w.heap.size w w') (hB : B ≤ w.heap.size) : Below B a w' ∧ w'.cell? p = some v ∧ w'.cell? q = some u ∧ w'.cell? r = some x :=
  ⟨h.1.trans (hb.mono hB), (hb.cell (World.block_lt_of_cell? w _ h.2.1)).trans h.2.1, (hb.cell (World.block_lt_of_cell? w _ h.2.2.1)).trans h.2.2.1, (hb.cell (World.block_lt_of_cell? w _ h.2.2.2)).trans h.2.2.2⟩
theorem held4_call {B : Nat} {a w w' : World} {p q r s : Addr} {v u x y : Value} (h : Below B a w ∧ w.cell? p = some v ∧ w.cell? q = some u ∧ w.cell? r = some x ∧ w.cell? s = some y) (hb : Below w.heap.size w w') (hB : B ≤ w.heap.size) : Below B a w' ∧ w'.cell? p = some v ∧ w'.cell? q = some u ∧ w'.cell? r = some x ∧ w'.cell? s = some y :=
  ⟨h.1.trans (hb.mono hB), (hb.cell (World.block_lt_of_cell? w _ h.2.1)).trans h.2.1, (hb.cell (World.block_lt_of_cell? w _ h.2.2.1)).trans h.2.2.1, (hb.cell (World.block_lt_of_cell? w _ h.2.2.2.1)).trans h.2.2.2.1, (hb.cell (World.block_lt_of_cell? w _ h.2.2.2.2)).trans h.2.2.2.2⟩
end Go.Proofs.Ytfdkkcigmjonfaa
