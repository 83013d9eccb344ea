/- The exact laws' small helpers for slices of pairs: a copy, a comparison, marking and looking at the marks. Condition: lengths up to 1048576. -/
import Derived.Test.YtmkdiifjecnokaaGreatPairs
import Derived.Test.YtmkdiifjecnokaaGreatHelp
import Derived.Test.YtmkdiifjecnokaaGreatArgs
import Derived.StillTailTactics
import Derived.Deep.SlicePairs
namespace Go.Proofs.YtmkdiifjecnokaaGreat
open Go.RowKit

theorem Pair_cells (w : World) (t : TypeId) (x y : Int) : (w.alloc (.cells #[.int .i64 x, .int .i64 y] t)).cell? ⟨w.heap.size, 0, none⟩ = some (.int .i64 x) ∧ (w.alloc (.cells #[.int .i64 x, .int .i64 y] t)).cell? ⟨w.heap.size, 1, none⟩ = some (.int .i64 y) := by
  have h := heap_alloc_new w (.cells #[.int .i64 x, .int .i64 y] t)
  constructor
  · unfold World.cell?
    rw [h]
    rfl
  · unfold World.cell?
    rw [h]
    rfl
theorem take_succ_eqPair {xs ys : List (Int × Int)} {k : Nat} (h : xs.take k = ys.take k) (h1 : k < xs.length) (h2 : k < ys.length) (he : xs[k]?.getD (0, 0) = ys[k]?.getD (0, 0)) : xs.take (k + 1) = ys.take (k + 1) := by
  rw [List.take_succ_eq_append_getElem h1, List.take_succ_eq_append_getElem h2, h]
  simp only [List.getElem?_eq_getElem h1, List.getElem?_eq_getElem h2, Option.getD_some] at he
  rw [he]
theorem ne_of_getPair {xs ys : List (Int × Int)} {k : Nat} (he : xs[k]?.getD (0, 0) ≠ ys[k]?.getD (0, 0)) : xs ≠ ys := by rintro rfl; exact he rfl
theorem eq_of_takePair {xs ys : List (Int × Int)} {k : Nat} (h : xs.take k = ys.take k) (h1 : xs.length ≤ k) (h2 : ys.length ≤ k) : xs = ys := by
  rwa [List.take_of_length_le h1, List.take_of_length_le h2] at h
/-- The marks of n structs from k on. -/
def marksPair (k : Int) (n : Nat) : List (Int × Int) := (List.range n).map fun i : Nat => (k + 2 * (i : Int), k + 2 * (i : Int) + 1)
theorem marksPair_len (k : Int) (n : Nat) : (marksPair k n).length = n := by simp [marksPair]
theorem marksPair_get (k : Int) {n i : Nat} (h : i < n) : (marksPair k n)[i]?.getD (0, 0) = (k + 2 * (i : Int), k + 2 * (i : Int) + 1) := by simp [marksPair, h]
theorem grown_setPair {w2 wr : World} {g k : Nat} (hg : w2.grownBy wr (some g)) (v : Value) : w2.grownBy (wr.setCell ⟨g, k, none⟩ v) (some g) :=
  ⟨hg.os, hg.tape, hg.output, by simpa [World.setCell] using hg.size, fun i hi hne => (Below.heap_setCell wr ⟨g, k, none⟩ _ i (fun e => hne (by rw [e]))).trans (hg.block i hi hne)⟩
end Go.Proofs.YtmkdiifjecnokaaGreat
namespace Go.Proofs.YtmkdiifjecnokaaGreat
open Go.RowKit
theorem Step_cells (w : World) (t : TypeId) (x y : Int) : (w.alloc (.cells #[.int .i64 x, .int .i64 y] t)).cell? ⟨w.heap.size, 0, none⟩ = some (.int .i64 x) ∧ (w.alloc (.cells #[.int .i64 x, .int .i64 y] t)).cell? ⟨w.heap.size, 1, none⟩ = some (.int .i64 y) := by
  have h := heap_alloc_new w (.cells #[.int .i64 x, .int .i64 y] t)
  constructor
  · unfold World.cell?
    rw [h]
    rfl
  · unfold World.cell?
    rw [h]
    rfl
theorem take_succ_eqStep {xs ys : List (Int × Int)} {k : Nat} (h : xs.take k = ys.take k) (h1 : k < xs.length) (h2 : k < ys.length) (he : xs[k]?.getD (0, 0) = ys[k]?.getD (0, 0)) : xs.take (k + 1) = ys.take (k + 1) := by
  rw [List.take_succ_eq_append_getElem h1, List.take_succ_eq_append_getElem h2, h]
  simp only [List.getElem?_eq_getElem h1, List.getElem?_eq_getElem h2, Option.getD_some] at he
  rw [he]
theorem ne_of_getStep {xs ys : List (Int × Int)} {k : Nat} (he : xs[k]?.getD (0, 0) ≠ ys[k]?.getD (0, 0)) : xs ≠ ys := by rintro rfl; exact he rfl
theorem eq_of_takeStep {xs ys : List (Int × Int)} {k : Nat} (h : xs.take k = ys.take k) (h1 : xs.length ≤ k) (h2 : ys.length ≤ k) : xs = ys := by
  rwa [List.take_of_length_le h1, List.take_of_length_le h2] at h
/-- The marks of n structs from k on. -/
def marksStep (k : Int) (n : Nat) : List (Int × Int) := (List.range n).map fun i : Nat => (k + 2 * (i : Int), k + 2 * (i : Int) + 1)
theorem marksStep_len (k : Int) (n : Nat) : (marksStep k n).length = n := by simp [marksStep]
theorem marksStep_get (k : Int) {n i : Nat} (h : i < n) : (marksStep k n)[i]?.getD (0, 0) = (k + 2 * (i : Int), k + 2 * (i : Int) + 1) := by simp [marksStep, h]
theorem grown_setStep {w2 wr : World} {g k : Nat} (hg : w2.grownBy wr (some g)) (v : Value) : w2.grownBy (wr.setCell ⟨g, k, none⟩ v) (some g) :=
  ⟨hg.os, hg.tape, hg.output, by simpa [World.setCell] using hg.size, fun i hi hne => (Below.heap_setCell wr ⟨g, k, none⟩ _ i (fun e => hne (by rw [e]))).trans (hg.block i hi hne)⟩
end Go.Proofs.YtmkdiifjecnokaaGreat
namespace Go.Proofs.YtmkdiifjecnokaaGreat
open Go.RowKit Go.ChangeShapes Go.WideShapes Go.Deep
/-- What is told of a slice of structs of two ints that came in. -/
def RowQ (w : World) (a : Option Addr) (len cap : Nat) (ps : List (Int × Int)) : Prop :=
  len ≤ cap ∧ cap ≤ maxLen ∧ RdQ w w.heap.size a len ps
theorem RowQ.rd {w : World} {a : Option Addr} {len cap : Nat} {ps : List (Int × Int)} (h : RowQ w a len cap ps) : RdQ w w.heap.size a len ps := h.2.2
theorem RowQ.small {w : World} {a : Option Addr} {len cap : Nat} {ps : List (Int × Int)} (h : RowQ w a len cap ps) : len ≤ maxLen := Nat.le_trans h.1 h.2.1
theorem add_cases (x : Addr) (i : Nat) (hs : x.spot = none) : x.add i = ⟨x.block, x.off + i, none⟩ := by
  obtain ⟨b, off, spot⟩ := x
  subst hs
  exact add_at b off i
section
variable {H : Type} {enc : TypeId × Value → H} {P : Program} {w : World} {base : Nat} {spare : Nat → Bool} {held : Bool}
theorem open_pairs_row {t e : TypeId} {f0 f1 : Field} {fuel : Nat} {v : Value} {x : DataW H × List MemPlace} (ht : P.underlying t = some (.slice e)) (he : P.underlying e = some (.struct #[f0, f1]))
    (ce : P.cellsOf e = 2) (o0 : f0.offset = 0) (o1 : f1.offset = 1) (c0 : P.cellsOf f0.type = 1) (c1 : P.cellsOf f1.type = 1) (u0 : P.underlying f0.type = some (.int .i64)) (u1 : P.underlying f1.type = some (.int .i64))
    (h : DataW.trod enc P w base spare held fuel t [v] = some x) : ∃ a len cap ps, v = .slice a len cap ∧ RowQ w a len cap ps := by
  rcases open_slice_pairs ht he ce o0 o1 c0 c1 h with ⟨hcs, _⟩ | ⟨a, len, cap, m, n, V0, V1, D0, D1, P0, P1, hcs, hb, hl, hm, hmm, _, hx⟩
  · simp only [List.cons.injEq, and_true] at hcs
    exact ⟨none, 0, 0, [], hcs, Nat.le_refl _, by unfold maxLen; omega, RdQ.nil _ _ _⟩
  · simp only [List.cons.injEq, and_true] at hcs
    have hlm : len ≤ m := by rw [hmm]; split <;> omega
    have hint : ∀ i, i < len → ∃ p : Int × Int, w.cell? (a.add (i * 2)) = some (.int .i64 p.1) ∧ w.cell? (a.add (i * 2 + 1)) = some (.int .i64 p.2) := fun i hi => by
      obtain ⟨h1, h2, h3, h4⟩ := hx i (by omega)
      obtain ⟨n0, e0, _, _⟩ := DataW.trod_int u0 h3
      obtain ⟨n1, e1, _, _⟩ := DataW.trod_int u1 h4
      simp only [List.cons.injEq, and_true] at e0 e1
      exact ⟨(n0, n1), by rw [h1, e0], by rw [h2, e1]⟩
    obtain ⟨f, hf⟩ := choose_lt hint
    refine ⟨some a, len, cap, (List.range len).map f, hcs, hl, hm, by simp, fun hn => ?_⟩
    have h0 := (hf 0 hn).1
    have hspot : a.spot = none := by
      have := World.cell?_spot h0
      rw [Nat.zero_mul] at this
      simpa [Addr.add] using this
    refine ⟨a.block, a.off, by obtain ⟨b, off, spot⟩ := a; simp only at hspot; rw [hspot], ?_, fun k hk => ?_⟩
    · have := World.block_lt_of_cell? w _ h0
      rw [add_cases a _ hspot] at this
      exact this
    · obtain ⟨g1, g2⟩ := hf k hk
      rw [add_cases a _ hspot] at g1 g2
      have e : ((List.range len).map f)[k]?.getD (0, 0) = f k := by simp [hk]
      rw [e]
      exact ⟨g1, by rw [Nat.add_assoc]; exact g2⟩
theorem open_ints_row {t e : TypeId} {k : IntKind} {fuel : Nat} {v : Value} {x : DataW H × List MemPlace} (ht : P.underlying t = some (.slice e)) (he : P.underlying e = some (.int k)) (hc : P.cellsOf e = 1)
    (h : DataW.trod enc P w base (fun _ => true) held fuel t [v] = some x) : ∃ a len cap zs, v = .slice a len cap ∧ Row k w a len cap zs := by
  rcases open_ints ht he hc h with ⟨hcs, _⟩ | ⟨a, len, cap, zs, hcs, _, hl, hm, hz, _, hcell, hwz⟩
  · simp only [List.cons.injEq, and_true] at hcs
    exact ⟨none, 0, 0, [], hcs, .inl ⟨rfl, rfl, rfl, rfl⟩⟩
  · simp only [List.cons.injEq, and_true] at hcs
    exact ⟨some a, len, cap, zs, hcs, .inr ⟨_, rfl, hl, hm, by simpa using hz, hcell, hwz⟩⟩
end
end Go.Proofs.YtmkdiifjecnokaaGreat
