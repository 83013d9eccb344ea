/- The four ways of shortening, at nodes in memory: what each stores. Conditions: the nodes lie in one block; the forest is valid. -/
import Derived.Test.YtemkbheplmimoaaPush
import Derived.Test.YtemkbheplmimoaaLookD
import Derived.Test.YtemkbheplmimoaaGo
namespace Go.Proofs.Ytemkbheplmimoaa
open Go.RowKit Go.Shelf

/-- Of all that was there, only blocks of S have changed. -/
structure Chg (S : Nat → Prop) (w w' : World) : Prop where
  os : w'.os = w.os
  tape : w'.tape = w.tape
  output : w'.output = w.output
  size : w.heap.size ≤ w'.heap.size
  block : ∀ k : Nat, k < w.heap.size → ¬ S k → w'.heap[k]? = w.heap[k]?
theorem Chg.refl (S : Nat → Prop) (w : World) : Chg S w w := ⟨rfl, rfl, rfl, Nat.le_refl _, fun _ _ _ => rfl⟩
theorem Chg.trans {S : Nat → Prop} {a b c : World} (h : Chg S a b) (k : Chg S b c) : Chg S a c :=
  ⟨k.os.trans h.os, k.tape.trans h.tape, k.output.trans h.output, Nat.le_trans h.size k.size, fun i hi hn => (k.block i (Nat.lt_of_lt_of_le hi h.size) hn).trans (h.block i hi hn)⟩
theorem Chg.weak {S S' : Nat → Prop} {a b : World} (h : Chg S a b) (k : ∀ i, S i → S' i) : Chg S' a b :=
  ⟨h.os, h.tape, h.output, h.size, fun i hi hn => h.block i hi (fun hs => hn (k i hs))⟩
theorem Chg.of_below {S : Nat → Prop} {a b : World} (h : Below a.heap.size a b) : Chg S a b := ⟨h.os, h.tape, h.output, h.size, fun k hk _ => h.block k hk⟩
theorem Chg.below {S : Nat → Prop} {a b : World} {C : Nat} (h : Chg S a b) (hC : C ≤ a.heap.size) (hS : ∀ i, S i → C ≤ i) : Below C a b :=
  ⟨h.os, h.tape, h.output, h.size, fun k hk => h.block k (by omega) (fun hs => absurd (hS k hs) (by omega))⟩
theorem Chg.set {S : Nat → Prop} {a b : World} (h : Chg S a b) {B : Nat} (hB : S B ∨ a.heap.size ≤ B) (o : Nat) (v : Value) : Chg S a (b.setCell ⟨B, o, none⟩ v) :=
  ⟨h.os, h.tape, h.output, by simpa [World.setCell] using h.size, fun k hk hn => (Below.heap_setCell b ⟨B, o, none⟩ v k (fun e => by
    rcases hB with hB | hB
    · exact hn (by rw [show k = B from e]; exact hB)
    · have : k = B := e
      omega)).trans (h.block k hk hn)⟩
theorem Chg.alloc {S : Nat → Prop} {a b : World} (h : Chg S a b) (o : Obj) : Chg S a (b.alloc o) :=
  ⟨h.os, h.tape, h.output, by have := h.size; simp; omega, fun k hk hn => (Below.heap_alloc b o k (by have := h.size; omega)).trans (h.block k hk hn)⟩
theorem Chg.drew {S : Nat → Prop} {a b : World} (h : Chg S a b) : Chg S a b.drew := ⟨h.os, h.tape, h.output, h.size, h.block⟩
theorem Chg.cell {S : Nat → Prop} {a b : World} (h : Chg S a b) {p : Addr} (hp : p.1 < a.heap.size) (hn : ¬ S p.1) : b.cell? p = a.cell? p := World.cell?_of_block (h.block p.1 hp hn)

/-- The nodes of u in block N. -/
def Nd (W : World) (N : Nat) (u : List Int) : Prop := Fill W N u u.length
theorem Nd.cells {W : World} {N : Nat} {u : List Int} (h : Nd W N u) {x : Nat} (hx : x < u.length) :
    W.cell? ⟨N, x * 2, none⟩ = some (.int .i64 (x : Int)) ∧ W.cell? ⟨N, x * 2 + 1, none⟩ = some (.pointer ((step u x).map (nadr N))) ∧ W.frozen? ⟨N, x * 2 + 1, none⟩ = false := by
  obtain ⟨h1, h2, _, h4⟩ := Fill.cells h hx
  rw [if_pos hx] at h1 h2
  exact ⟨h1, h2, h4⟩
theorem Nd.nodes {W : World} {N : Nat} {u : List Int} (h : Nd W N u) : Nodes W N u := Fill.nodes h (Nat.le_refl _)
theorem Nd.eq {W W' : World} {N : Nat} {u : List Int} (h : Nd W N u) (e : W'.heap[N]? = W.heap[N]?) : Nd W' N u := Fill.eq h e
theorem Nd.lt {W : World} {N : Nat} {u : List Int} (h : Nd W N u) : N < W.heap.size := Fill.lt h
theorem nd_from {β : Type} (B N : Nat) (f : β → List Int) : OwnFrom B (fun s W => Nd W N (f s)) := by
  intro s W W' row h hg hr
  have hl := h.lt
  obtain ⟨cur, hb, hc⟩ := h
  refine ⟨cur, (hg.block N hl fun e => ?_).trans hb, hc⟩
  obtain ⟨_, o, ho, hcc⟩ := hr N e.symm
  rw [hb] at ho
  injection ho with ho
  subst ho
  simp [Obj.isCells] at hcc
/-- A node's link is stored. -/
theorem Nd.hang {W : World} {N : Nat} {u : List Int} (h : Nd W N u) {p q : Nat} (hp : p < u.length) (hne : q ≠ p) : Nd (W.setCell ⟨N, p * 2 + 1, none⟩ (.pointer (some (nadr N q)))) N (hang u p q) := by
  obtain ⟨cur, hb, hc⟩ := h
  refine ⟨_, heap_set W N _ _ hb, fun x hx => ?_⟩
  rw [hang_len] at hx ⊢
  obtain ⟨h1, h2⟩ := hc x hx
  have hlt : p * 2 + 1 < cur.size := (Array.getElem?_eq_some_iff.1 (hc p hp).2).1
  rw [if_pos hx] at h1 h2 ⊢
  rw [if_pos hx]
  refine ⟨?_, ?_⟩
  · rw [Array.getElem?_setIfInBounds, if_neg (by omega), h1]
  · rw [Array.getElem?_setIfInBounds]
    by_cases e : x = p
    · subst e
      rw [if_pos rfl, if_pos hlt]
      have hs : step (Go.Proofs.Ytemkbheplmimoaa.hang u x q) x = some q := by
        unfold step nx Go.Proofs.Ytemkbheplmimoaa.hang
        rw [List.getElem?_set_self hp, Option.getD_some, if_neg (by omega)]
        simp
      rw [hs]
      rfl
    · rw [if_neg (by omega), hang_step e, h2]
end Go.Proofs.Ytemkbheplmimoaa
