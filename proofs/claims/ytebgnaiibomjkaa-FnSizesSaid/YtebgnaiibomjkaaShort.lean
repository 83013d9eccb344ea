/- The four ways of shortening, at nodes in memory: what each stores. Conditions: the nodes lie in one block; the forest is valid. -/
import Derived.Test.YtebgnaiibomjkaaImpl
import Derived.Test.YtebgnaiibomjkaaLook
import Derived.Test.YtebgnaiibomjkaaGo
namespace Go.Proofs.Ytebgnaiibomjkaa
open Go.RowKit Go.Shelf

/-- The addresses of items in block N. -/
def ptrs (N : Nat) (xs : List Nat) : List Value := xs.map fun x => Value.pointer (some (nadr N x))
theorem ptrs_len (N : Nat) (xs : List Nat) : (ptrs N xs).length = xs.length := by simp [ptrs]
theorem ptrs_snoc (N : Nat) (xs : List Nat) (x : Nat) : ptrs N (xs ++ [x]) = ptrs N xs ++ [.pointer (some (nadr N x))] := by simp [ptrs]
def OwnP (w : World) (base N : Nat) (v : Value) (xs : List Nat) : Prop := w.ownsRow base 86 1 v xs.length (ptrs N xs)
theorem Try.info_ptr : (Try.prog.info? 86).map (fun i => (i.zero, i.size, i.bytes)) = some (some (.pointer none), 1, 8) := by kernel_rfl

/-- The slice value reads as these addresses; its block lies below B and from base on. -/
def RdP (w : World) (base B N : Nat) (A : Option Addr) (n : Nat) (xs : List Nat) : Prop :=
  xs.length = n ∧ (0 < n → ∃ b off, A = some ⟨b, off, none⟩ ∧ (base ≤ b ∧ b < B) ∧ ∀ k, k < n → w.cell? ⟨b, off + k, none⟩ = some (.pointer (some (nadr N (xs[k]?.getD 0)))))
theorem OwnP.form {w : World} {base N : Nat} {v : Value} {xs : List Nat} (h : OwnP w base N v xs) : ∃ A c, v = .slice A xs.length c ∧ RdP w base w.heap.size N A xs.length xs := by
  rcases h.2 with ⟨hv, hx⟩ | ⟨g, cap, cur, hv, hbase, hh, hnc, hm, hsz, hcells⟩
  · have h0 : xs = [] := by simpa [ptrs] using hx
    subst h0
    exact ⟨none, 0, hv, rfl, fun h => absurd h (by simp)⟩
  · refine ⟨_, cap, hv, rfl, fun hn => ⟨g, 0, rfl, ⟨hbase, ?_⟩, fun k hk => ?_⟩⟩
    · exact (World.ownsRow.lt h g (by rw [hv]; rfl)).2
    · have := World.ownsRow.cells h (g := g) (by rw [hv]; rfl) k (.pointer (some (nadr N (xs[k]?.getD 0)))) (by simp [ptrs, hk])
      rw [add_zero_at] at this
      simpa using this
theorem OwnP.blockOf {w : World} {base N : Nat} {v : Value} {xs : List Nat} (h : OwnP w base N v xs) : ∀ k, v.ownBlock = some k → base ≤ k ∧ k < w.heap.size := World.ownsRow.lt h
theorem OwnP.kept {w w' : World} {base N : Nat} {v : Value} {xs : List Nat} {row : Option Nat} (h : OwnP w base N v xs) (hg : w.grownBy w' row) (hne : v.ownBlock = none ∨ v.ownBlock ≠ row) : OwnP w' base N v xs := World.ownsRow.kept h hg hne
theorem ownP_nil (w : World) (base N : Nat) : OwnP w base N (.slice none 0 0) [] := World.ownsRow_nil _ _ _ _

/-- 's = append(s, p)' of one address, inside a fence, as one step of a region that draws its order. -/
theorem stepIn_pushP {F : Fence} {n : Nat} {ops : Array Oper} {o : Oper} {a : Act} {K : Act → World → Prop} {Q : Exit → Act → World → Prop} {E : Prop} (hgd : o.guard = none) (s x : Operand)
    (ho : o.op = .call { callee := .builtin .append, args := #[s, x], argTypes := #[151, 151] }) (w W : World) (base N : Nat) (v : Value) (xs : List Nat) (z : Nat) (hW : W = w.alloc (.cells #[.pointer (some (nadr N z))] 86))
    (hs : a.eval s = v) (hx : a.eval x = .slice (some ⟨w.heap.size, 0, none⟩) 1 1) (hown : OwnP w base N v xs) (hlen : xs.length ≤ 1048576) (hbase : base ≤ w.heap.size)
    (h : ∀ v' w', OwnP w' base N v' (xs ++ [z]) → w.grownBy w' v.ownBlock → (v'.ownBlock = v.ownBlock ∨ ∃ g, v'.ownBlock = some g ∧ w.heap.size ≤ g) → K (a.put o.dst v') w') :
    if Region.wanted o (yielded ops a.tmps) = true then Oper.wpIn F n Try.prog o a W K Q else E := by
  obtain ⟨i0, hi, hz0, hz1, hz2⟩ := info_parts Try.info_ptr
  have hwd : Region.wanted o (yielded ops a.tmps) = true := by simp [Region.wanted, hgd]
  rw [if_pos hwd, hW]
  obtain ⟨v', w', hrun, h2, h3, _, h5⟩ := run_append_own_at (P := Try.prog) (w.alloc (.cells #[.pointer (some (nadr N z))] 86)) base 151 o.type 86 i0 (.pointer none) 1 8 Try.underlying151 hi hz0 hz1 hz2 rfl (by decide) v xs.length (ptrs N xs) (World.ownsRow.alloc hown _) ⟨w.heap.size, 0, none⟩ 1 1 [.pointer (some (nadr N z))] rfl (cell_one_new _ _ _) (by simp [Value.oneCell']) (by unfold maxLen; omega) (by omega) (by simp; omega)
  unfold Oper.wpIn
  refine ⟨by simp [Oper.about, ho, resolve, Target.leads, Sem.run_pure], ?_⟩
  rw [Oper.semAt_plain F _ _ (by rw [ho]; intro c hc'; cases hc')]
  simp [execOp, ho, resolve, invoke, builtin, hs, hx, hrun, Result.andThen]
  refine h v' w' (by unfold OwnP; rw [ptrs_snoc]; simpa using h2) (grown_then (World.grownBy_alloc w _ none) h3) ?_
  rcases h5 with h5 | h5
  · exact .inl h5
  · exact .inr ⟨_, h5, by simp⟩

/-- The same at a statement that draws no order. -/
theorem wpListIn_pushP {F : Fence} {n : Nat} {ops : Array Oper} {rest : List Oper} {o : Oper} {a : Act} {Q : Exit → Act → World → Prop} (hgd : o.guard = none) (s x : Operand)
    (ho : o.op = .call { callee := .builtin .append, args := #[s, x], argTypes := #[151, 151] }) (w : World) (base N : Nat) (v : Value) (xs : List Nat) (z : Nat)
    (hs : a.eval s = v) (hx : a.eval x = .slice (some ⟨w.heap.size, 0, none⟩) 1 1) (hown : OwnP w base N v xs) (hlen : xs.length ≤ 1048576) (hbase : base ≤ w.heap.size)
    (h : ∀ v' w', OwnP w' base N v' (xs ++ [z]) → w.grownBy w' v.ownBlock → wpListIn F n Try.prog ops Q rest (a.put o.dst v') w') :
    wpListIn F n Try.prog ops Q (o :: rest) a (w.alloc (.cells #[.pointer (some (nadr N z))] 86)) := by
  obtain ⟨i0, hi, hz0, hz1, hz2⟩ := info_parts Try.info_ptr
  refine wpListIn_append_own (w.alloc (.cells #[.pointer (some (nadr N z))] 86)) hgd s x 151 ho base 86 i0 (.pointer none) 1 8 Try.underlying151 hi hz0 hz1 hz2 rfl (by decide) v xs.length (ptrs N xs) hs (World.ownsRow.alloc hown _) ⟨w.heap.size, 0, none⟩ 1 1 [.pointer (some (nadr N z))] hx rfl (cell_one_new _ _ _) (by simp [Value.oneCell']) (by unfold maxLen; omega) (by omega) (by simp; omega) ?_
  intro v' w' h2 h3 _
  exact h v' w' (by unfold OwnP; rw [ptrs_snoc]; simpa using h2) (grown_then (World.grownBy_alloc w _ none) h3)

/-- A box that holds such a slice. -/
def HeldP (W : World) (B base N : Nat) (xs : List Nat) : Prop := ∃ A c, Boxed W B 151 (.slice A xs.length c) ∧ OwnP W base N (.slice A xs.length c) xs
theorem heldP_from {β : Type} (B base N B' : Nat) (f : β → List Nat) : OwnFrom B' (fun s W => HeldP W B base N (f s)) := by
  rintro s W W' row ⟨A, c, hb, ho⟩ hg hr
  refine ⟨A, c, Go.Own.from (boxed_own B 151 (fun _ : β => Value.slice A (f s).length c)) B' s W W' row hb hg hr, ho.kept hg ?_⟩
  rcases ho.2 with ⟨hv, _⟩ | ⟨g, cap, cur, hv, _, hh, _⟩
  · left; rw [hv]; rfl
  · right
    rw [hv]
    intro e
    obtain ⟨_, o, ho', hc⟩ := hr g e.symm
    rw [hh] at ho'
    injection ho' with ho'
    subst ho'
    simp [Obj.isCells] at hc
theorem heldP_row {W : World} {base N : Nat} {v : Value} {xs : List Nat} (ho : OwnP W base N v xs) : ∀ r o, v.ownBlock = some r → W.heap[r]? = some o → o.isCells = true := by
  intro r o hr hw
  rcases ho.2 with ⟨hv, _⟩ | ⟨g, cap, cur, hv, _, hh, _⟩
  · rw [hv] at hr; cases hr
  · rw [hv] at hr
    have : g = r := by simpa [Value.ownBlock] using hr
    subst this
    rw [hh] at hw
    injection hw with hw
    subst hw
    rfl
theorem ownP_setBox {W : World} {base N B : Nat} {v u u' : Value} {xs : List Nat} (ho : OwnP W base N v xs) (hb : Boxed W B 151 u) : OwnP (W.setCell ⟨B, 0, none⟩ u') base N v xs :=
  ownsRow_setCell_other ho (fun e => Boxed.not_row hb (by decide) ho e.symm) _
end Go.Proofs.Ytebgnaiibomjkaa

namespace Go.Proofs.Ytebgnaiibomjkaa
open Go.RowKit Go.Shelf

/-- Of all that was there, only blocks of S have changed. -/
structure Chg (S : Nat → Prop) (w w' : World) : Prop where
  os : w'.os = w.os
  tape : w'.tape = w.tape
  output : w'.output = w.output
  size : w.heap.size ≤ w'.heap.size
  block : ∀ k : Nat, k < w.heap.size → ¬ S k → w'.heap[k]? = w.heap[k]?
theorem Chg.refl (S : Nat → Prop) (w : World) : Chg S w w := ⟨rfl, rfl, rfl, Nat.le_refl _, fun _ _ _ => rfl⟩
theorem Chg.trans {S : Nat → Prop} {a b c : World} (h : Chg S a b) (k : Chg S b c) : Chg S a c :=
  ⟨k.os.trans h.os, k.tape.trans h.tape, k.output.trans h.output, Nat.le_trans h.size k.size, fun i hi hn => (k.block i (Nat.lt_of_lt_of_le hi h.size) hn).trans (h.block i hi hn)⟩
theorem Chg.weak {S S' : Nat → Prop} {a b : World} (h : Chg S a b) (k : ∀ i, S i → S' i) : Chg S' a b :=
  ⟨h.os, h.tape, h.output, h.size, fun i hi hn => h.block i hi (fun hs => hn (k i hs))⟩
theorem Chg.of_below {S : Nat → Prop} {a b : World} (h : Below a.heap.size a b) : Chg S a b := ⟨h.os, h.tape, h.output, h.size, fun k hk _ => h.block k hk⟩
theorem Chg.below {S : Nat → Prop} {a b : World} {C : Nat} (h : Chg S a b) (hC : C ≤ a.heap.size) (hS : ∀ i, S i → C ≤ i) : Below C a b :=
  ⟨h.os, h.tape, h.output, h.size, fun k hk => h.block k (by omega) (fun hs => absurd (hS k hs) (by omega))⟩
theorem Chg.set {S : Nat → Prop} {a b : World} (h : Chg S a b) {B : Nat} (hB : S B ∨ a.heap.size ≤ B) (o : Nat) (v : Value) : Chg S a (b.setCell ⟨B, o, none⟩ v) :=
  ⟨h.os, h.tape, h.output, by simpa [World.setCell] using h.size, fun k hk hn => (Below.heap_setCell b ⟨B, o, none⟩ v k (fun e => by
    rcases hB with hB | hB
    · exact hn (by rw [show k = B from e]; exact hB)
    · have : k = B := e
      omega)).trans (h.block k hk hn)⟩
theorem Chg.alloc {S : Nat → Prop} {a b : World} (h : Chg S a b) (o : Obj) : Chg S a (b.alloc o) :=
  ⟨h.os, h.tape, h.output, by have := h.size; simp; omega, fun k hk hn => (Below.heap_alloc b o k (by have := h.size; omega)).trans (h.block k hk hn)⟩
theorem Chg.drew {S : Nat → Prop} {a b : World} (h : Chg S a b) : Chg S a b.drew := ⟨h.os, h.tape, h.output, h.size, h.block⟩
theorem Chg.cell {S : Nat → Prop} {a b : World} (h : Chg S a b) {p : Addr} (hp : p.1 < a.heap.size) (hn : ¬ S p.1) : b.cell? p = a.cell? p := World.cell?_of_block (h.block p.1 hp hn)

/-- The nodes of u in block N. -/
def Nd (W : World) (N : Nat) (u : List Int) : Prop := Fill W N u u.length
theorem Nd.cells {W : World} {N : Nat} {u : List Int} (h : Nd W N u) {x : Nat} (hx : x < u.length) :
    W.cell? ⟨N, x * 2, none⟩ = some (.int .i64 (x : Int)) ∧ W.cell? ⟨N, x * 2 + 1, none⟩ = some (.pointer ((step u x).map (nadr N))) ∧ W.frozen? ⟨N, x * 2 + 1, none⟩ = false := by
  obtain ⟨h1, h2, _, h4⟩ := Fill.cells h hx
  rw [if_pos hx] at h1 h2
  exact ⟨h1, h2, h4⟩
theorem Nd.nodes {W : World} {N : Nat} {u : List Int} (h : Nd W N u) : Nodes W N u := Fill.nodes h (Nat.le_refl _)
theorem Nd.eq {W W' : World} {N : Nat} {u : List Int} (h : Nd W N u) (e : W'.heap[N]? = W.heap[N]?) : Nd W' N u := Fill.eq h e
theorem Nd.lt {W : World} {N : Nat} {u : List Int} (h : Nd W N u) : N < W.heap.size := Fill.lt h
theorem nd_from {β : Type} (B N : Nat) (f : β → List Int) : OwnFrom B (fun s W => Nd W N (f s)) := by
  intro s W W' row h hg hr
  have hl := h.lt
  obtain ⟨cur, hb, hc⟩ := h
  refine ⟨cur, (hg.block N hl fun e => ?_).trans hb, hc⟩
  obtain ⟨_, o, ho, hcc⟩ := hr N e.symm
  rw [hb] at ho
  injection ho with ho
  subst ho
  simp [Obj.isCells] at hcc
/-- A node's link is stored. -/
theorem Nd.hang {W : World} {N : Nat} {u : List Int} (h : Nd W N u) {p q : Nat} (hp : p < u.length) (hne : q ≠ p) : Nd (W.setCell ⟨N, p * 2 + 1, none⟩ (.pointer (some (nadr N q)))) N (hang u p q) := by
  obtain ⟨cur, hb, hc⟩ := h
  refine ⟨_, heap_set W N _ _ hb, fun x hx => ?_⟩
  rw [hang_len] at hx ⊢
  obtain ⟨h1, h2⟩ := hc x hx
  have hlt : p * 2 + 1 < cur.size := (Array.getElem?_eq_some_iff.1 (hc p hp).2).1
  rw [if_pos hx] at h1 h2 ⊢
  rw [if_pos hx]
  refine ⟨?_, ?_⟩
  · rw [Array.getElem?_setIfInBounds, if_neg (by omega), h1]
  · rw [Array.getElem?_setIfInBounds]
    by_cases e : x = p
    · subst e
      rw [if_pos rfl, if_pos hlt]
      have hs : step (Go.Proofs.Ytebgnaiibomjkaa.hang u x q) x = some q := by
        unfold step nx Go.Proofs.Ytebgnaiibomjkaa.hang
        rw [List.getElem?_set_self hp, Option.getD_some, if_neg (by omega)]
        simp
      rw [hs]
      rfl
    · rw [if_neg (by omega), hang_step e, h2]
end Go.Proofs.Ytebgnaiibomjkaa

namespace Go.Proofs.Ytebgnaiibomjkaa
open Go.RowKit Go.Shelf

theorem RdP.chg {w w' : World} {S : Nat → Prop} {base B N n : Nat} {A : Option Addr} {xs : List Nat} (h : RdP w base B N A n xs) (hc : Chg S w w') (hB : B ≤ w.heap.size) (hS : ∀ i, S i → i < base) : RdP w' base B N A n xs :=
  ⟨h.1, fun hn => by
    obtain ⟨b, off, e, ⟨h1, h2⟩, hcell⟩ := h.2 hn
    exact ⟨b, off, e, ⟨h1, h2⟩, fun k hk => (hc.cell (p := ⟨b, off + k, none⟩) (by show b < _; omega) (fun hs => absurd (hS b hs) (by omega))).trans (hcell k hk)⟩⟩

theorem bare_any (N x n c : Nat) (A : Option Addr) (pre : List Nat) (u : List Int) (w : World) (hN : Nd w N u) :
    Calls Try.prog 126 #[.pointer (some (nadr N x)), .slice A n c] w fun e w' => (∃ v, e = .returned v) ∧ Nd w' N (bareAt u pre x) ∧ Chg (fun b => b = N) w w' := by
  have HN := Lib.hid hN
  clear hN
  go_enter Try.func126, Try.ntmps126
  go_wp2
  go_end0
  exact ⟨⟨_, rfl⟩, HN.out, Chg.refl _ _⟩

set_option maxRecDepth 100000 in
set_option maxHeartbeats 1000000 in
theorem halve_any (N x n c : Nat) (A : Option Addr) (pre : List Nat) (u : List Int) (w : World) (hN : Nd w N u) (hv : fvB u = true) (hx : x < u.length) :
    Calls Try.prog 128 #[.pointer (some (nadr N x)), .slice A n c] w fun e w' => (∃ v, e = .returned v) ∧ Nd w' N (halveAt u pre x) ∧ Chg (fun b => b = N) w w' := by
  obtain ⟨_, c2, c3⟩ := hN.cells hx
  cases hs : step u x with
  | none =>
    have HR := Lib.hid (halve_root hs pre)
    have HN := Lib.hid hN
    rw [hs, Option.map_none] at c2
    clear hN hs
    unfold nadr
    go_enter Try.func128, Try.ntmps128
    go_wp2
    go_end0
    exact ⟨⟨_, rfl⟩, by rw [HR.out]; exact HN.out, Chg.refl _ _⟩
  | some y =>
    have hy := path_step_lt (fv_in hv) hx hs
    obtain ⟨_, d2, _⟩ := hN.cells hy
    rw [hs, Option.map_some] at c2
    cases hs2 : step u y with
    | none =>
      have HR := Lib.hid (halve_eq_one hs hs2 pre)
      have HN := Lib.hid hN
      rw [hs2, Option.map_none] at d2
      clear hN hs hs2
      unfold nadr at c2 ⊢
      go_enter Try.func128, Try.ntmps128
      go_wp2
      go_end0
      exact ⟨⟨_, rfl⟩, by rw [HR.out]; exact HN.out, Chg.refl _ _⟩
    | some z =>
      have HR := Lib.hid (halve_eq_two hs hs2 pre)
      have hne := (ab_up hv hx (ab_trans (ab_one hs) (ab_one hs2))).ne
      have HN := Lib.hid (hN.hang hx hne)
      rw [hs2, Option.map_some] at d2
      clear hN hs hs2
      unfold nadr at c2 d2 HN ⊢
      go_enter Try.func128, Try.ntmps128
      go_wp2
      go_end0
      exact ⟨⟨_, rfl⟩, by rw [HR.out]; exact HN.out, (Chg.refl (fun b => b = N) w).set (B := N) (.inl rfl) _ _⟩

set_option maxRecDepth 100000 in
set_option maxHeartbeats 1000000 in
theorem split_any (N x n c base B : Nat) (A : Option Addr) (pre : List Nat) (u : List Int) (w : World) (hN : Nd w N u) (hv : fvB u = true) (hab : ∀ p ∈ pre, p < u.length ∧ Ab u p x) (hp : RdP w base B N A n pre) (hn : n ≤ 1048576) :
    Calls Try.prog 129 #[.pointer (some (nadr N x)), .slice A n c] w fun e w' => (∃ v, e = .returned v) ∧ Nd w' N (splitAt' u pre x) ∧ Chg (fun b => b = N) w w' := by
  have hl := hp.1
  by_cases h2 : 2 ≤ n
  · obtain ⟨b, off, rfl, _, hc⟩ := hp.2 (by omega)
    have g := hc (n - 2) (by omega)
    have hm := split_mem (pre := pre) (by omega)
    rw [hl] at hm
    obtain ⟨q1, q2⟩ := hab _ hm
    have HR : Hid (splitAt' u pre x = hang u (pre[n - 2]?.getD 0) x) := by
      show _ = _
      unfold splitAt'
      rw [if_pos (by omega), hl]
    obtain ⟨q, hq⟩ : ∃ q, q = pre[n - 2]?.getD 0 := ⟨_, rfl⟩
    rw [← hq] at g q1 q2 HR
    have hne := (ab_up hv q1 q2).ne
    have HN := Lib.hid (hN.hang q1 hne)
    obtain ⟨_, _, c3⟩ := hN.cells q1
    obtain ⟨m, rfl⟩ : ∃ m, n = m + 2 := ⟨n - 2, by omega⟩
    rw [Nat.add_sub_cancel] at g
    have k1 : IntKind.i64.wrap (((m + 2 : Nat) : Int) - 2) = (m : Int) := by rw [show ((m + 2 : Nat) : Int) - 2 = (m : Int) by omega]; exact IntWalk.i64_in _ (by omega)
    have k2 : IntKind.i64.wrap ((m : Int) + 2 - 2) = (m : Int) := by rw [show (m : Int) + 2 - 2 = (m : Int) by omega]; exact IntWalk.i64_in _ (by omega)
    have k3 : IntKind.i64.wrap (m : Int) = (m : Int) := IntWalk.i64_in _ (by omega)
    have k4 : (2 : Int) ≤ (m : Int) + 2 := by omega
    clear hN hc hq hm hp hl hab q2 hv h2
    unfold nadr at g HN ⊢
    go_enter Try.func129, Try.ntmps129
    go_wp2
    go_end0
    exact ⟨⟨_, rfl⟩, by rw [HR.out]; exact HN.out, (Chg.refl (fun b => b = N) w).set (B := N) (.inl rfl) _ _⟩
  · have HR : Hid (splitAt' u pre x = u) := by
      show _ = _
      unfold splitAt'
      rw [if_neg (by omega)]
    have HN := Lib.hid hN
    clear hN hp hab hl
    go_enter Try.func129, Try.ntmps129
    go_wp2
    go_end0
    exact ⟨⟨_, rfl⟩, by rw [HR.out]; exact HN.out, Chg.refl _ _⟩

/-- The first k passed items have links to x. -/
def cutTo (u : List Int) (pre : List Nat) (x k : Nat) : List Int := (pre.take k).foldl (fun v p => hang v p x) u
theorem cutTo_succ {u : List Int} {pre : List Nat} {x k : Nat} (hk : k < pre.length) : cutTo u pre x (k + 1) = hang (cutTo u pre x k) (pre[k]?.getD 0) x := by
  unfold cutTo
  rw [List.take_succ_eq_append_getElem hk, List.foldl_append, List.foldl_cons, List.foldl_nil, List.getElem?_eq_getElem hk, Option.getD_some]
theorem cutTo_len (u : List Int) (pre : List Nat) (x : Nat) : ∀ k, (cutTo u pre x k).length = u.length := fun k => by
  unfold cutTo
  exact allTo_len u x (pre.take k)
set_option maxRecDepth 100000 in
set_option maxHeartbeats 1000000 in
theorem cut_any (N x n c base B : Nat) (A : Option Addr) (pre : List Nat) (u : List Int) (w : World) (hN : Nd w N u) (hv : fvB u = true) (hx : x < u.length) (hab : ∀ p ∈ pre, p < u.length ∧ Ab u p x) (hp : RdP w base B N A n pre) (hNb : N < base) (hB : B ≤ w.heap.size) (hn : n ≤ 1048576) :
    Calls Try.prog 127 #[.pointer (some (nadr N x)), .slice A n c] w fun e w' => (∃ v, e = .returned v) ∧ Nd w' N (cutAt u pre x) ∧ Chg (fun b => b = N) w w' := by
  obtain ⟨_, c2, _⟩ := hN.cells hx
  cases hs : step u x with
  | some y =>
    have HR : Hid (cutAt u pre x = u) := by
      show _ = _
      unfold cutAt
      rw [hs]
      rfl
    have HN := Lib.hid hN
    rw [hs, Option.map_some] at c2
    clear hN hs hp hab
    unfold nadr at c2 ⊢
    go_enter Try.func127, Try.ntmps127
    go_wp2
    refine bodyPost_ret (results_none rfl _ _ _) rfl ?_
    exact ⟨⟨_, rfl⟩, by rw [HR.out]; exact HN.out, Chg.refl _ _⟩
  | none =>
    have HR : Hid (cutAt u pre x = cutTo u pre x n) := by
      show _ = _
      unfold cutAt cutTo
      rw [hs, ← hp.1, List.take_length]
      rfl
    have HP := Lib.hid hp
    have HA : Hid (∀ k, k < n → pre[k]?.getD 0 < u.length ∧ x ≠ pre[k]?.getD 0) := fun k hk => by
      have hk' : k < pre.length := by rw [hp.1]; exact hk
      rw [List.getElem?_eq_getElem hk', Option.getD_some]
      have := hab _ (List.getElem_mem hk')
      exact ⟨this.1, (ab_up hv this.1 this.2).ne⟩
    have H0 : Hid (Nd w N (cutTo u pre x 0)) := hN
    rw [hs, Option.map_none] at c2
    clear hN hs hp hab hv
    unfold nadr
    go_enter Try.func127, Try.ntmps127
    go_wp2
    go_loopw [13] (fun i wr => ∃ k : Nat, k ≤ n ∧ i = .int .i64 k ∧ Hid (Nd wr N (cutTo u pre x k)) ∧ Chg (fun b => b = N) w wr) (fun i _ => n - (intOf i).toNat)
    case atStart => exact ⟨0, Nat.zero_le _, rfl, H0, Chg.refl _ _⟩
    case round =>
      obtain ⟨k, hk, rfl, HQ, hg⟩ := hrel
      clear H0
      by_cases hlt : k < n
      · obtain ⟨b, off, rfl, _, hc⟩ := (HP.out.chg hg hB (fun i e => by omega)).2 (by omega)
        have g := hc k hlt
        obtain ⟨a1, a2⟩ := HA.out k hlt
        have hsucc := cutTo_succ (u := u) (x := x) (show k < pre.length by rw [HP.out.1]; exact hlt)
        obtain ⟨p, hpe⟩ : ∃ p, p = pre[k]?.getD 0 := ⟨_, rfl⟩
        rw [← hpe] at g a1 a2 hsucc
        have hQ := HQ.out
        obtain ⟨_, _, c3⟩ := hQ.cells (x := p) (by rw [cutTo_len]; exact a1)
        have HNX := Lib.hid (show Nd (wr.setCell ⟨N, p * 2 + 1, none⟩ (.pointer (some (nadr N x)))) N (cutTo u pre x (k + 1)) by
          rw [hsucc]
          exact hQ.hang (by rw [cutTo_len]; exact a1) a2)
        have HG := Lib.hid (hg.set (B := N) (.inl rfl) (p * 2 + 1) (.pointer (some (nadr N x))))
        clear hQ hc hpe hsucc HQ hg
        unfold nadr at g HNX HG
        go_wp2
        go_roundw
        case rel => exact ⟨k + 1, by omega, by go_num, HNX, HG.out⟩
        case measure => simp [intOf]; omega
      · obtain rfl : k = n := by omega
        go_wp2
        go_end0
        exact ⟨⟨_, rfl⟩, by rw [HR.out]; exact HQ.out, hg⟩

/-- The four functions, by their numbers. -/
def shortF (l : Int) : Nat := if l = 0 then 126 else if l = 1 then 127 else if l = 2 then 128 else 129
theorem short_any (l : Int) (N x n c base B : Nat) (A : Option Addr) (pre : List Nat) (u : List Int) (w : World) (hN : Nd w N u) (hv : fvB u = true) (hx : x < u.length) (hab : ∀ p ∈ pre, p < u.length ∧ Ab u p x) (hp : RdP w base B N A n pre) (hNb : N < base) (hB : B ≤ w.heap.size) (hn : n ≤ 1048576) :
    Calls Try.prog (shortF l) #[.pointer (some (nadr N x)), .slice A n c] w fun e w' => (∃ v, e = .returned v) ∧ Nd w' N (lookAt l u pre x) ∧ Chg (fun b => b = N) w w' := by
  unfold shortF lookAt
  split
  · exact bare_any N x n c A pre u w hN
  · split
    · exact cut_any N x n c base B A pre u w hN hv hx hab hp hNb hB hn
    · split
      · exact halve_any N x n c A pre u w hN hv hx
      · exact split_any N x n c base B A pre u w hN hv hab hp hn
theorem short_enters (l : Int) : ∀ args w, (callFunc (shortF l) args).run Try.prog w = .ok (.enter (shortF l) args) w := by
  intro args w
  unfold shortF
  split
  · exact enters_of Try.func126 (by kernel_rfl) rfl args w
  · split
    · exact enters_of Try.func127 (by kernel_rfl) rfl args w
    · split
      · exact enters_of Try.func128 (by kernel_rfl) rfl args w
      · exact enters_of Try.func129 (by kernel_rfl) rfl args w
end Go.Proofs.Ytebgnaiibomjkaa
