/- The four ways of shortening, at nodes in memory: what each stores. Conditions: the nodes lie in one block; the forest is valid. -/
import Derived.Test.YtfmhdngblpmcfaaDoorImpl
import Derived.Test.YtfmhdngblpmcfaaDoorLook
import Derived.Test.YtfmhdngblpmcfaaDoorGo
namespace Go.Proofs.YtfmhdngblpmcfaaDoor
open Go.RowKit Go.Shelf

/-- The addresses of items in block N. -/
def ptrs (N : Nat) (xs : List Nat) : List Value := xs.map fun x => Value.pointer (some (nadr N x))
theorem ptrs_len (N : Nat) (xs : List Nat) : (ptrs N xs).length = xs.length := by simp [ptrs]
theorem ptrs_snoc (N : Nat) (xs : List Nat) (x : Nat) : ptrs N (xs ++ [x]) = ptrs N xs ++ [.pointer (some (nadr N x))] := by simp [ptrs]
def OwnP (w : World) (base N : Nat) (v : Value) (xs : List Nat) : Prop := w.ownsRow base 139 1 v xs.length (ptrs N xs)
theorem Tryd.info_ptr : (Tryd.prog.info? 139).map (fun i => (i.zero, i.size, i.bytes)) = some (some (.pointer none), 1, 8) := by kernel_rfl

/-- The slice value reads as these addresses; its block lies below B and from base on. -/
def RdP (w : World) (base B N : Nat) (A : Option Addr) (n : Nat) (xs : List Nat) : Prop :=
  xs.length = n ∧ (0 < n → ∃ b off, A = some ⟨b, off, none⟩ ∧ (base ≤ b ∧ b < B) ∧ ∀ k, k < n → w.cell? ⟨b, off + k, none⟩ = some (.pointer (some (nadr N (xs[k]?.getD 0)))))
theorem OwnP.form {w : World} {base N : Nat} {v : Value} {xs : List Nat} (h : OwnP w base N v xs) : ∃ A c, v = .slice A xs.length c ∧ RdP w base w.heap.size N A xs.length xs := by
  rcases h.2 with ⟨hv, hx⟩ | ⟨g, cap, cur, hv, hbase, hh, hnc, hm, hsz, hcells⟩
  · have h0 : xs = [] := by simpa [ptrs] using hx
    subst h0
    exact ⟨none, 0, hv, rfl, fun h => absurd h (by simp)⟩
  · refine ⟨_, cap, hv, rfl, fun hn => ⟨g, 0, rfl, ⟨hbase, ?_⟩, fun k hk => ?_⟩⟩
    · exact (World.ownsRow.lt h g (by rw [hv]; rfl)).2
    · have := World.ownsRow.cells h (g := g) (by rw [hv]; rfl) k (.pointer (some (nadr N (xs[k]?.getD 0)))) (by simp [ptrs, hk])
      rw [add_zero_at] at this
      simpa using this
theorem OwnP.blockOf {w : World} {base N : Nat} {v : Value} {xs : List Nat} (h : OwnP w base N v xs) : ∀ k, v.ownBlock = some k → base ≤ k ∧ k < w.heap.size := World.ownsRow.lt h
theorem OwnP.kept {w w' : World} {base N : Nat} {v : Value} {xs : List Nat} {row : Option Nat} (h : OwnP w base N v xs) (hg : w.grownBy w' row) (hne : v.ownBlock = none ∨ v.ownBlock ≠ row) : OwnP w' base N v xs := World.ownsRow.kept h hg hne
theorem ownP_nil (w : World) (base N : Nat) : OwnP w base N (.slice none 0 0) [] := World.ownsRow_nil _ _ _ _

theorem heldP_row {W : World} {base N : Nat} {v : Value} {xs : List Nat} (ho : OwnP W base N v xs) : ∀ r o, v.ownBlock = some r → W.heap[r]? = some o → o.isCells = true := by
  intro r o hr hw
  rcases ho.2 with ⟨hv, _⟩ | ⟨g, cap, cur, hv, _, hh, _⟩
  · rw [hv] at hr; cases hr
  · rw [hv] at hr
    have : g = r := by simpa [Value.ownBlock] using hr
    subst this
    rw [hh] at hw
    injection hw with hw
    subst hw
    rfl
end Go.Proofs.YtfmhdngblpmcfaaDoor
namespace Go.Proofs.YtfmhdngblpmcfaaDoor
open Go.RowKit Go.Shelf
/-- Of all that was there, only blocks of S have changed. -/
structure Chg (S : Nat → Prop) (w w' : World) : Prop where
  os : w'.os = w.os
  tape : w'.tape = w.tape
  output : w'.output = w.output
  size : w.heap.size ≤ w'.heap.size
  block : ∀ k : Nat, k < w.heap.size → ¬ S k → w'.heap[k]? = w.heap[k]?
theorem Chg.refl (S : Nat → Prop) (w : World) : Chg S w w := ⟨rfl, rfl, rfl, Nat.le_refl _, fun _ _ _ => rfl⟩
theorem Chg.trans {S : Nat → Prop} {a b c : World} (h : Chg S a b) (k : Chg S b c) : Chg S a c :=
  ⟨k.os.trans h.os, k.tape.trans h.tape, k.output.trans h.output, Nat.le_trans h.size k.size, fun i hi hn => (k.block i (Nat.lt_of_lt_of_le hi h.size) hn).trans (h.block i hi hn)⟩
theorem Chg.weak {S S' : Nat → Prop} {a b : World} (h : Chg S a b) (k : ∀ i, S i → S' i) : Chg S' a b :=
  ⟨h.os, h.tape, h.output, h.size, fun i hi hn => h.block i hi (fun hs => hn (k i hs))⟩
theorem Chg.of_below {S : Nat → Prop} {a b : World} (h : Below a.heap.size a b) : Chg S a b := ⟨h.os, h.tape, h.output, h.size, fun k hk _ => h.block k hk⟩
theorem Chg.below {S : Nat → Prop} {a b : World} {C : Nat} (h : Chg S a b) (hC : C ≤ a.heap.size) (hS : ∀ i, S i → C ≤ i) : Below C a b :=
  ⟨h.os, h.tape, h.output, h.size, fun k hk => h.block k (by omega) (fun hs => absurd (hS k hs) (by omega))⟩
theorem Chg.set {S : Nat → Prop} {a b : World} (h : Chg S a b) {B : Nat} (hB : S B ∨ a.heap.size ≤ B) (o : Nat) (v : Value) : Chg S a (b.setCell ⟨B, o, none⟩ v) :=
  ⟨h.os, h.tape, h.output, by simpa [World.setCell] using h.size, fun k hk hn => (Below.heap_setCell b ⟨B, o, none⟩ v k (fun e => by
    rcases hB with hB | hB
    · exact hn (by rw [show k = B from e]; exact hB)
    · have : k = B := e
      omega)).trans (h.block k hk hn)⟩
theorem Chg.alloc {S : Nat → Prop} {a b : World} (h : Chg S a b) (o : Obj) : Chg S a (b.alloc o) :=
  ⟨h.os, h.tape, h.output, by have := h.size; simp; omega, fun k hk hn => (Below.heap_alloc b o k (by have := h.size; omega)).trans (h.block k hk hn)⟩
theorem Chg.drew {S : Nat → Prop} {a b : World} (h : Chg S a b) : Chg S a b.drew := ⟨h.os, h.tape, h.output, h.size, h.block⟩
theorem Chg.cell {S : Nat → Prop} {a b : World} (h : Chg S a b) {p : Addr} (hp : p.1 < a.heap.size) (hn : ¬ S p.1) : b.cell? p = a.cell? p := World.cell?_of_block (h.block p.1 hp hn)

/-- The nodes of u in block N. -/
def Nd (W : World) (N : Nat) (u : List Int) : Prop := Fill W N u u.length
theorem Nd.cells {W : World} {N : Nat} {u : List Int} (h : Nd W N u) {x : Nat} (hx : x < u.length) :
    W.cell? ⟨N, x * 2, none⟩ = some (.int .i64 (x : Int)) ∧ W.cell? ⟨N, x * 2 + 1, none⟩ = some (.pointer ((step u x).map (nadr N))) ∧ W.frozen? ⟨N, x * 2 + 1, none⟩ = false := by
  obtain ⟨h1, h2, _, h4⟩ := Fill.cells h hx
  rw [if_pos hx] at h1 h2
  exact ⟨h1, h2, h4⟩
theorem Nd.nodes {W : World} {N : Nat} {u : List Int} (h : Nd W N u) : Nodes W N u := Fill.nodes h (Nat.le_refl _)
theorem Nd.eq {W W' : World} {N : Nat} {u : List Int} (h : Nd W N u) (e : W'.heap[N]? = W.heap[N]?) : Nd W' N u := Fill.eq h e
theorem Nd.lt {W : World} {N : Nat} {u : List Int} (h : Nd W N u) : N < W.heap.size := Fill.lt h
theorem nd_from {β : Type} (B N : Nat) (f : β → List Int) : OwnFrom B (fun s W => Nd W N (f s)) := by
  intro s W W' row h hg hr
  have hl := h.lt
  obtain ⟨cur, hb, hc⟩ := h
  refine ⟨cur, (hg.block N hl fun e => ?_).trans hb, hc⟩
  obtain ⟨_, o, ho, hcc⟩ := hr N e.symm
  rw [hb] at ho
  injection ho with ho
  subst ho
  simp [Obj.isCells] at hcc
/-- A node's link is stored. -/
theorem Nd.hang {W : World} {N : Nat} {u : List Int} (h : Nd W N u) {p q : Nat} (hp : p < u.length) (hne : q ≠ p) : Nd (W.setCell ⟨N, p * 2 + 1, none⟩ (.pointer (some (nadr N q)))) N (hang u p q) := by
  obtain ⟨cur, hb, hc⟩ := h
  refine ⟨_, heap_set W N _ _ hb, fun x hx => ?_⟩
  rw [hang_len] at hx ⊢
  obtain ⟨h1, h2⟩ := hc x hx
  have hlt : p * 2 + 1 < cur.size := (Array.getElem?_eq_some_iff.1 (hc p hp).2).1
  rw [if_pos hx] at h1 h2 ⊢
  rw [if_pos hx]
  refine ⟨?_, ?_⟩
  · rw [Array.getElem?_setIfInBounds, if_neg (by omega), h1]
  · rw [Array.getElem?_setIfInBounds]
    by_cases e : x = p
    · subst e
      rw [if_pos rfl, if_pos hlt]
      have hs : step (Go.Proofs.YtfmhdngblpmcfaaDoor.hang u x q) x = some q := by
        unfold step nx Go.Proofs.YtfmhdngblpmcfaaDoor.hang
        rw [List.getElem?_set_self hp, Option.getD_some, if_neg (by omega)]
        simp
      rw [hs]
      rfl
    · rw [if_neg (by omega), hang_step e, h2]
end Go.Proofs.YtfmhdngblpmcfaaDoor

namespace Go.Proofs.YtfmhdngblpmcfaaDoor
open Go.RowKit Go.Shelf

theorem RdP.chg {w w' : World} {S : Nat → Prop} {base B N n : Nat} {A : Option Addr} {xs : List Nat} (h : RdP w base B N A n xs) (hc : Chg S w w') (hB : B ≤ w.heap.size) (hS : ∀ i, S i → i < base) : RdP w' base B N A n xs :=
  ⟨h.1, fun hn => by
    obtain ⟨b, off, e, ⟨h1, h2⟩, hcell⟩ := h.2 hn
    exact ⟨b, off, e, ⟨h1, h2⟩, fun k hk => (hc.cell (p := ⟨b, off + k, none⟩) (by show b < _; omega) (fun hs => absurd (hS b hs) (by omega))).trans (hcell k hk)⟩⟩

/-- The first k passed items have links to x. -/
def cutTo (u : List Int) (pre : List Nat) (x k : Nat) : List Int := (pre.take k).foldl (fun v p => hang v p x) u
theorem cutTo_succ {u : List Int} {pre : List Nat} {x k : Nat} (hk : k < pre.length) : cutTo u pre x (k + 1) = hang (cutTo u pre x k) (pre[k]?.getD 0) x := by
  unfold cutTo
  rw [List.take_succ_eq_append_getElem hk, List.foldl_append, List.foldl_cons, List.foldl_nil, List.getElem?_eq_getElem hk, Option.getD_some]
theorem cutTo_len (u : List Int) (pre : List Nat) (x : Nat) : ∀ k, (cutTo u pre x k).length = u.length := fun k => by
  unfold cutTo
  exact allTo_len u x (pre.take k)
end Go.Proofs.YtfmhdngblpmcfaaDoor