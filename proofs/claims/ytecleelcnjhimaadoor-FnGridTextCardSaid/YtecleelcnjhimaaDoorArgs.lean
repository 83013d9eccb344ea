/- A slice of ints that came in, as the frame tells of it, reads as its elements. No condition. -/
import Derived.Test.YtecleelcnjhimaaDoorBase
import Derived.Deep.RegionHeld3
namespace Go.Proofs.YtecleelcnjhimaaDoor
open Go.RowKit

/-- What is told of a slice of integers that came in: it is nil, or it leads to a row of 'cap' cells. -/
def Row (k : IntKind) (w : World) (a : Option Addr) (len cap : Nat) (zs : List Int) : Prop :=
  (a = none ∧ len = 0 ∧ cap = 0 ∧ zs = []) ∨
  ∃ x, a = some x ∧ len ≤ cap ∧ cap ≤ maxLen ∧ zs.length = cap ∧ (∀ i, i < zs.length → w.cell? (x.add i) = some (.int k (zs.getD i 0))) ∧ ∀ n ∈ zs, (Lit.int k n).wf = true

theorem Row.rd {w : World} {a : Option Addr} {len cap : Nat} {zs : List Int} (h : Row .i64 w a len cap zs) : Rd w w.heap.size a len (zs.take len) := by
  rcases h with ⟨rfl, rfl, rfl, rfl⟩ | ⟨x, rfl, hl, hm, hz, hc, _⟩
  · exact Rd.nil _ _ _
  · refine ⟨by rw [List.length_take]; omega, fun hn => ?_⟩
    obtain ⟨b, off, spot⟩ := x
    have h0 := hc 0 (by omega)
    have hspot : spot = none := by simpa [Addr.add] using World.cell?_spot h0
    subst hspot
    have hall : ∀ k, k < len → w.cell? ⟨b, off + k, none⟩ = some (.int .i64 ((zs.take len)[k]?.getD 0)) := fun k hk => by
      have := hc k (by omega)
      rw [add_at] at this
      rw [this, List.getElem?_take_of_lt hk]
      simp
    exact ⟨b, off, rfl, World.block_lt_of_cell? w _ (hall 0 hn), hall⟩
end Go.Proofs.YtecleelcnjhimaaDoor

namespace Go.Proofs.YtecleelcnjhimaaDoor
open Go.RowKit

theorem wpList_copy {ops : Array Oper} {rest : List Oper} {o : Oper} {a : Act} {Q : Exit → Act → World → Prop} (hgd : o.guard = none) (s x : Operand)
    (ho : o.op = .call { callee := .builtin .append, args := #[s, x], argTypes := #[36, 36] }) (w : World) (A : Option Addr) (n c B : Nat) (zs : List Int)
    (hs : a.eval s = .slice (some ⟨w.heap.size, 0, none⟩) 0 0) (hx : a.eval x = .slice A n c) (hr : Rd w B A n zs) (hB : B ≤ w.heap.size) (hn : 1 ≤ n) (hb : n ≤ 1048576)
    (h : ∀ g k w', Own w' w.heap.size (.slice (some ⟨g, 0, none⟩) n k) zs → Below w.heap.size w w' → wpList Tryd.prog ops Q rest (a.put o.dst (.slice (some ⟨g, 0, none⟩) n k)) w') :
    wpList Tryd.prog ops Q (o :: rest) a (w.alloc (.cells #[] 3)) := by
  obtain ⟨i0, hi0, hz0, hz1, hz2⟩ := info_parts Tryd.info_int
  have hln := hr.1
  obtain ⟨b, off, rfl, hlt, hc⟩ := hr.2 (by omega)
  have H0 : Own (w.alloc (.cells #[] 3)) w.heap.size (.slice (some ⟨w.heap.size, 0, none⟩) 0 0) [] := Own.lit w _ [] (Nat.le_refl _) (by simp)
  have hbe := (Below.refl w.heap.size w).alloc (Nat.le_refl _) (.cells #[] 3)
  have hnews : ∀ j u, (zs.map (Value.int .i64))[j]? = some u → (w.alloc (.cells #[] 3)).cell? ((⟨b, off, none⟩ : Addr).add j) = some u := by
    intro j u hu
    rw [List.getElem?_map] at hu
    have hj : j < zs.length := by
      rcases Nat.lt_or_ge j zs.length with h | h
      · exact h
      · rw [List.getElem?_eq_none h] at hu; cases hu
    rw [List.getElem?_eq_getElem hj] at hu
    simp only [Option.map_some, Option.some.injEq] at hu
    rw [add_at, hbe.cell (p := ⟨b, off + j, none⟩) (by show b < w.heap.size; omega), hc j (by omega), List.getElem?_eq_getElem hj, ← hu]
    rfl
  refine wpList_append_own_at _ hgd s x 36 ho w.heap.size 3 i0 (.int .i64 0) 1 8 Tryd.underlying36 hi0 hz0 hz1 hz2 rfl (by decide) _ 0 [] hs H0 ⟨b, off, none⟩ n c (zs.map (Value.int .i64)) hx (by rw [List.length_map]; omega) hnews (fun u hu => by
    obtain ⟨z, _, rfl⟩ := List.mem_map.1 hu
    rfl) (by unfold maxLen; omega) (by omega) (by simp) ?_
  intro v' w1 hown hgrow _ _
  have ho1 : Own w1 w.heap.size v' zs := by
    unfold Own
    rw [hln]
    simpa using hown
  have hb1 : Below w.heap.size w w1 := hbe.grown hgrow (by simp) (fun r e => by injection e with e; subst e; exact Nat.le_refl _)
  rcases ho1.2 with ⟨hv, hx'⟩ | ⟨g, cap, cur, hv, _⟩
  · have : zs = [] := by simpa using hx'
    rw [this] at hln
    simp at hln
    omega
  · rw [hln] at hv
    rw [hv] at ho1 ⊢
    exact h g cap w1 ho1 hb1
theorem own_head {w : World} {base n c : Nat} {A : Option Addr} {zs : List Int} (h : Own w base (.slice A n c) zs) (h1 : 1 ≤ n) : ∃ g, A = some ⟨g, 0, none⟩ := by
  rcases h.2 with ⟨hv, _⟩ | ⟨g, _, _, hv, _⟩
  · injection hv with _ h2 _
    omega
  · injection hv with h2 _ _
    exact ⟨g, h2⟩
/-- A store into a slice of the call's own, told as growth of its block. -/
theorem grown_set {w2 wr : World} {g k : Nat} (hg : w2.grownBy wr (some g)) (v : Value) : w2.grownBy (wr.setCell ⟨g, k, none⟩ v) (some g) :=
  ⟨hg.os, hg.tape, hg.output, by simpa [World.setCell] using hg.size, fun i hi hne => (Below.heap_setCell wr ⟨g, k, none⟩ _ i (fun e => hne (by rw [e]))).trans (hg.block i hi hne)⟩
end Go.Proofs.YtecleelcnjhimaaDoor

namespace Go.Proofs.YtecleelcnjhimaaDoor
open Go.RowKit

theorem held1_drew {B : Nat} {a w : World} {p : Addr} {v : Value} (h : Below B a w ∧ w.cell? p = some v) : Below B a w.drew ∧ w.drew.cell? p = some v :=
  ⟨⟨h.1.os, h.1.tape, h.1.output, h.1.size, h.1.block⟩, h.2⟩
theorem held1_call {B : Nat} {a w w' : World} {p : Addr} {v : Value} (h : Below B a w ∧ w.cell? p = some v) (hb : Below w.heap.size w w') (hB : B ≤ w.heap.size) : Below B a w' ∧ w'.cell? p = some v :=
  ⟨h.1.trans (hb.mono hB), (hb.cell (World.block_lt_of_cell? w _ h.2)).trans h.2⟩
theorem held2_drew {B : Nat} {a w : World} {p q : Addr} {v u : Value} (h : Below B a w ∧ w.cell? p = some v ∧ w.cell? q = some u) : Below B a w.drew ∧ w.drew.cell? p = some v ∧ w.drew.cell? q = some u :=
  ⟨⟨h.1.os, h.1.tape, h.1.output, h.1.size, h.1.block⟩, h.2⟩
theorem held2_call {B : Nat} {a w w' : World} {p q : Addr} {v u : Value} (h : Below B a w ∧ w.cell? p = some v ∧ w.cell? q = some u) (hb : Below w.heap.size w w') (hB : B ≤ w.heap.size) : Below B a w' ∧ w'.cell? p = some v ∧ w'.cell? q = some u :=
  ⟨h.1.trans (hb.mono hB), (hb.cell (World.block_lt_of_cell? w _ h.2.1)).trans h.2.1, (hb.cell (World.block_lt_of_cell? w _ h.2.2)).trans h.2.2⟩
theorem held4_drew {B : Nat} {a w : World} {p q r s : Addr} {v u x y : Value} (h : Below B a w ∧ w.cell? p = some v ∧ w.cell? q = some u ∧ w.cell? r = some x ∧ w.cell? s = some y) : Below B a w.drew ∧ w.drew.cell? p = some v ∧ w.drew.cell? q = some u ∧ w.drew.cell? r = some x ∧ w.drew.cell? s = some y :=
  ⟨⟨h.1.os, h.1.tape, h.1.output, h.1.size, h.1.block⟩, h.2⟩
theorem held3_drew {B : Nat} {a w : World} {p q r : Addr} {v u x : Value} (h : Below B a w ∧ w.cell? p = some v ∧ w.cell? q = some u ∧ w.cell? r = some x) : Below B a w.drew ∧ w.drew.cell? p = some v ∧ w.drew.cell? q = some u ∧ w.drew.cell? r = some x :=
  ⟨⟨h.1.os, h.1.tape, h.1.output, h.1.size, h.1.block⟩, h.2⟩
theorem held3_call {B : Nat} {a w w' : World} {p q r : Addr} {v u x : Value} (h : Below B a w ∧ w.cell? p = some v ∧ w.cell? q = some u ∧ w.cell? r = some x) (hb : Below w.heap.size w w') (hB : B ≤ w.heap.size) : Below B a w' ∧ w'.cell? p = some v ∧ w'.cell? q = some u ∧ w'.cell? r = some x :=
  ⟨h.1.trans (hb.mono hB), (hb.cell (World.block_lt_of_cell? w _ h.2.1)).trans h.2.1, (hb.cell (World.block_lt_of_cell? w _ h.2.2.1)).trans h.2.2.1, (hb.cell (World.block_lt_of_cell? w _ h.2.2.2)).trans h.2.2.2⟩
theorem held4_call {B : Nat} {a w w' : World} {p q r s : Addr} {v u x y : Value} (h : Below B a w ∧ w.cell? p = some v ∧ w.cell? q = some u ∧ w.cell? r = some x ∧ w.cell? s = some y) (hb : Below w.heap.size w w') (hB : B ≤ w.heap.size) : Below B a w' ∧ w'.cell? p = some v ∧ w'.cell? q = some u ∧ w'.cell? r = some x ∧ w'.cell? s = some y :=
  ⟨h.1.trans (hb.mono hB), (hb.cell (World.block_lt_of_cell? w _ h.2.1)).trans h.2.1, (hb.cell (World.block_lt_of_cell? w _ h.2.2.1)).trans h.2.2.1, (hb.cell (World.block_lt_of_cell? w _ h.2.2.2.1)).trans h.2.2.2.1, (hb.cell (World.block_lt_of_cell? w _ h.2.2.2.2)).trans h.2.2.2.2⟩
end Go.Proofs.YtecleelcnjhimaaDoor
