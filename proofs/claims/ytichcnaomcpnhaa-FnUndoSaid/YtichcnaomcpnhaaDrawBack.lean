/- Drawn logs with a place to go back to: the model's DrawBackTo. Condition: none beyond the bytes read. -/
import Derived.Test.YtichcnaomcpnhaaDrawLog
namespace Go.Proofs.Ytichcnaomcpnhaa
open Go.RowKit Go.Shelf

/-- The world V has come from V0 by reading the source in R alone. -/
structure AtB (V0 V : World) (R p : Nat) : Prop where
  gr : V0.grownBy V (some R)
  src : Src V R p
section
variable {V0 V V' : World} {R p : Nat}
theorem AtB.block (h : AtB V0 V R p) {X : Nat} {o : Obj} (h0 : V0.heap[X]? = some o) (hne : X ≠ R) : V.heap[X]? = some o :=
  (h.gr.block X (Array.getElem?_eq_some_iff.1 h0).1 (fun e => by injection e with e; omega)).trans h0
theorem AtB.below (h : AtB V0 V R p) (hb : Below V.heap.size V V') : AtB V0 V' R p :=
  ⟨grown_trans2 h.gr (grown_of_below R hb), h.src.below hb h.src.lt⟩
theorem AtB.alloc (h : AtB V0 V R p) (o : Obj) : AtB V0 (V.alloc o) R p := h.below ((Below.refl _ _).alloc (Nat.le_refl _) o)
theorem AtB.drew (h : AtB V0 V R p) : AtB V0 V.drew R p := h.below ⟨rfl, rfl, rfl, Nat.le_refl _, fun _ _ => rfl⟩
theorem AtB.cells (h : AtB V0 V R p) {X : Nat} {v v2 : Value} {t : TypeId} (h0 : V0.heap[X]? = some (.cells #[v, v2] t (0, 0))) (hne : X ≠ R) : V.cell? ⟨X, 0, none⟩ = some v ∧ V.cell? ⟨X, 1, none⟩ = some v2 :=
  (boxTwo_cells (h.block h0 hne)).1
theorem pick_b (h : AtB V0 V R p) (hp : p ≤ 100000) (n : Int) :
    Calls Try.prog 79 #[.pointer (some ⟨R, 0, none⟩), .int .i64 n] V fun e w' => (∃ x : Nat, e = .returned (.int .i64 (x : Int)) ∧ (1 ≤ n → (x : Int) < n)) ∧ AtB V0 w' R (p + 1) := by
  refine (pick_any R p n V h.src hp).mono ?_
  rintro e w' ⟨h1, h2, h3⟩
  exact ⟨h1, grown_trans2 h.gr h3, h2⟩
theorem num_b (h : AtB V0 V R p) (hp : p ≤ 100000) {base : Nat} {u : Value} {zs : List Int} (ho : Own V base u zs) (hb : R < base) (h1 : 1 ≤ zs.length) (h2 : zs.length ≤ 100) :
    Calls Try.prog 75 #[.pointer (some ⟨R, 0, none⟩), u] V fun e w' => (∃ k, e = .returned (.int .i64 k)) ∧ AtB V0 w' R (p + 1) := by
  refine (num_any R p base u zs V h.src hp ho hb h1 h2).mono ?_
  rintro e w' ⟨⟨j, _, h1⟩, h2, h3⟩
  exact ⟨⟨_, h1⟩, grown_trans2 h.gr h3, h2⟩
theorem own_lit6 {w : World} {base : Nat} (a b c d e f : Int) (hb : base ≤ w.heap.size) : Own (w.alloc (.cells #[.int .i64 a, .int .i64 b, .int .i64 c, .int .i64 d, .int .i64 e, .int .i64 f] 3)) base (.slice (some ⟨w.heap.size, 0, none⟩) 6 6) [a, b, c, d, e, f] := by
  simpa using Own.lit w base [a, b, c, d, e, f] hb (by simp)
theorem cells_set2 {W : World} {X Z : Nat} {v v2 a b : Value} (h : W.cell? ⟨X, 0, none⟩ = some v ∧ W.cell? ⟨X, 1, none⟩ = some v2) (hne : X ≠ Z) : ((W.setCell ⟨Z, 0, none⟩ a).setCell ⟨Z, 1, none⟩ b).cell? ⟨X, 0, none⟩ = some v ∧ ((W.setCell ⟨Z, 0, none⟩ a).setCell ⟨Z, 1, none⟩ b).cell? ⟨X, 1, none⟩ = some v2 := by
  have hg := boxTwo_grown W Z a b
  have hlt := World.block_lt_of_cell? W _ h.1
  have e := hg.block X hlt (fun e => by injection e with e; omega)
  exact ⟨(World.cell?_of_block e).trans h.1, (World.cell?_of_block e).trans h.2⟩
end
end Go.Proofs.Ytichcnaomcpnhaa