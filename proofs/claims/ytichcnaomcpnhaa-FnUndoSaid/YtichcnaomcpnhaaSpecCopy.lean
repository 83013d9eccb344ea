/- The model's l4Copy. Condition: lengths up to 1048576, one item at least. -/
import Derived.Test.YtichcnaomcpnhaaLogs
import Derived.Deep.RegionHeld3
import Derived.Deep.RegionLawGrows
import Derived.Deep.AppendLies
namespace Go.Proofs.Ytichcnaomcpnhaa
open Go.RowKit

/-- One cell of a box of two. -/
theorem boxTwo_second {W : World} {b : Nat} {x y : Value} {t : TypeId} (h : W.heap[b]? = some (.cells #[x, y] t (0, 0))) (a : Value) : (W.setCell ⟨b, 1, none⟩ a).heap[b]? = some (.cells #[x, a] t (0, 0)) := modify_at _ h
/-- A store of one cell is growth of its block. -/
theorem cell_growth (W : World) (b o : Nat) (v : Value) : W.grownBy (W.setCell ⟨b, o, none⟩ v) (some b) :=
  ⟨rfl, rfl, rfl, by simp [World.setCell], fun _ _ hk => Below.heap_setCell _ _ _ _ (fun e => hk (by rw [e]))⟩
/-- What lies in a cell. -/
def cellAt (w : World) (p : Addr) : Value := (w.cell? p).getD undef
theorem cellAt_some {w : World} {p : Addr} {v : Value} (h : w.cell? p = some v) : w.cell? p = some (cellAt w p) := by unfold cellAt; rw [h]; rfl
/-- Appending all of a slice of ints to an empty one. -/
theorem step_copyI {ops : Array Oper} {o : Oper} {a : Act} {K : Act → World → Prop} {Q : Exit → Act → World → Prop} {E : Prop} (hgd : o.guard = none) (s x : Operand)
    (ho : o.op = .call { callee := .builtin .append, args := #[s, x], argTypes := #[23, 23] }) (W : World) (base B b off n c : Nat) (zs : List Int)
    (hs : a.eval s = .slice (some ⟨B, 0, none⟩) 0 0) (hx : a.eval x = .slice (some ⟨b, off, none⟩) n c) (hln : zs.length = n) (hnews : ∀ k, k < n → W.cell? ⟨b, off + k, none⟩ = some (.int .i64 (zs[k]?.getD 0))) (hn : 1 ≤ n) (hb : n ≤ 1048576) (hbase : base ≤ W.heap.size)
    (h : ∀ g k w', Own w' base (.slice (some ⟨g, 0, none⟩) n k) zs → W.grownBy w' none → K (a.put o.dst (.slice (some ⟨g, 0, none⟩) n k)) w') :
    if Region.wanted o (yielded ops a.tmps) = true then Oper.wp Try.prog o a W K Q else E := by
  obtain ⟨i0, hi0, hz0, hz1, hz2⟩ := info_parts Try.info_int
  refine step_append_grows hgd s x 23 ho 3 i0 (.int .i64 0) 1 8 Try.underlying23 hi0 hz0 hz1 hz2 rfl (by decide) (some ⟨B, 0, none⟩) 0 0 [] hs (fun e => by cases e) rfl (fun _ _ j u hu => by simp at hu) ⟨b, off, none⟩ n c (zs.map (Value.int .i64)) hx (by rw [List.length_map]; omega) (fun j u hu => ?_) (fun u hu => ?_) (by omega) (by unfold maxLen; omega) (by omega) ?_
  · rw [List.getElem?_map] at hu
    have hj : j < zs.length := by
      rcases Nat.lt_or_ge j zs.length with h | h
      · exact h
      · rw [List.getElem?_eq_none h] at hu; cases hu
    rw [List.getElem?_eq_getElem hj] at hu
    simp only [Option.map_some, Option.some.injEq] at hu
    rw [add_at, hnews j (by omega), List.getElem?_eq_getElem hj, ← hu]
    rfl
  · obtain ⟨z, _, rfl⟩ := List.mem_map.1 hu
    rfl
  · intro v' w' hown hg
    have ho1 : Own w' W.heap.size v' zs := by
      unfold Own
      rw [hln]
      simpa using hown
    rcases ho1.2 with ⟨hv, hx'⟩ | ⟨g, cap, cur, hv, _⟩
    · have : zs = [] := by simpa using hx'
      rw [this] at hln
      simp at hln
      omega
    · rw [hln] at hv
      rw [hv] at ho1 ⊢
      exact h g cap w' (ho1.less hbase) hg
/-- Appending all of a slice of steps to an empty one. -/
theorem step_copyS {ops : Array Oper} {o : Oper} {a : Act} {K : Act → World → Prop} {Q : Exit → Act → World → Prop} {E : Prop} (hgd : o.guard = none) (s x : Operand)
    (ho : o.op = .call { callee := .builtin .append, args := #[s, x], argTypes := #[24, 24] }) (W : World) (base B b off n c : Nat) (ps : List (Int × Int))
    (hs : a.eval s = .slice (some ⟨B, 0, none⟩) 0 0) (hx : a.eval x = .slice (some ⟨b, off, none⟩) n c) (hln : ps.length = n) (hnews : ∀ k, k < n → W.cell? ⟨b, off + k * 2, none⟩ = some (.int .i64 (ps[k]?.getD (0, 0)).1) ∧ W.cell? ⟨b, off + k * 2 + 1, none⟩ = some (.int .i64 (ps[k]?.getD (0, 0)).2)) (hn : 1 ≤ n) (hb : n ≤ 1048576) (hbase : base ≤ W.heap.size)
    (h : ∀ g k w', OwnQ 68 w' base (.slice (some ⟨g, 0, none⟩) n k) ps → W.grownBy w' none → K (a.put o.dst (.slice (some ⟨g, 0, none⟩) n k)) w') :
    if Region.wanted o (yielded ops a.tmps) = true then Oper.wp Try.prog o a W K Q else E := by
  obtain ⟨i0, hi0, hz0, hz1, hz2⟩ := info_parts Try.info_step
  refine step_append_grows hgd s x 24 ho 68 i0 (.agg #[.int .i64 0, .int .i64 0]) 2 16 Try.underlying24 hi0 hz0 hz1 hz2 rfl (by decide) (some ⟨B, 0, none⟩) 0 0 [] hs (fun e => by cases e) rfl (fun _ _ j u hu => by simp at hu) ⟨b, off, none⟩ n c (qcells ps) hx (by rw [qcells_len]; omega) (fun j u hu => ?_) (fun u hu => ?_) (by omega) (by unfold maxLen; omega) (by omega) ?_
  · have hj : j < ps.length * 2 := by
      rcases Nat.lt_or_ge j (qcells ps).length with h | h
      · rwa [qcells_len] at h
      · rw [List.getElem?_eq_none h] at hu; cases hu
    obtain ⟨k, hk⟩ : ∃ k, j = k * 2 ∨ j = k * 2 + 1 := ⟨j / 2, by omega⟩
    obtain ⟨q1, q2⟩ := qcells_get (ps := ps) (k := k) (by omega)
    obtain ⟨n1, n2⟩ := hnews k (by omega)
    rw [add_at]
    rcases hk with rfl | rfl
    · rw [q1] at hu
      rw [n1, ← hu]
    · rw [q2] at hu
      rw [← Nat.add_assoc, n2, ← hu]
  · unfold qcells at hu
    obtain ⟨p, _, hp⟩ := List.mem_flatMap.1 hu
    simp at hp
    rcases hp with rfl | rfl <;> rfl
  · intro v' w' hown hg
    have ho1 : OwnQ 68 w' W.heap.size v' ps := by
      unfold OwnQ
      rw [hln]
      simpa using hown
    rcases ho1.2 with ⟨hv, hx'⟩ | ⟨g, cap, cur, hv, _⟩
    · rw [hln] at hx'
      omega
    · rw [hln] at hv
      rw [hv] at ho1 ⊢
      exact h g cap w' (ho1.less hbase) hg
/-- Appending nothing. -/
theorem step_copyS0 {ops : Array Oper} {o : Oper} {a : Act} {K : Act → World → Prop} {Q : Exit → Act → World → Prop} {E : Prop} (hgd : o.guard = none) (s x : Operand)
    (ho : o.op = .call { callee := .builtin .append, args := #[s, x], argTypes := #[24, 24] }) (W : World) (B c : Nat) (A : Option Addr)
    (hs : a.eval s = .slice (some ⟨B, 0, none⟩) 0 0) (hx : a.eval x = .slice A 0 c) (h : K (a.put o.dst (.slice (some ⟨B, 0, none⟩) 0 0)) W) :
    if Region.wanted o (yielded ops a.tmps) = true then Oper.wp Try.prog o a W K Q else E := by
  obtain ⟨i0, hi0, hz0, hz1, hz2⟩ := info_parts Try.info_step
  have hw : Region.wanted o (yielded ops a.tmps) = true := by simp [Region.wanted, hgd]
  rw [if_pos hw]
  have hrun : (Builtin.append_ #[24, 24] o.type #[.slice (some ⟨B, 0, none⟩) 0 0, .slice A 0 c]).run Try.prog W = .ok (.slice (some ⟨B, 0, none⟩) 0 0) W := by
    cases A <;> simp [Builtin.append_, run_underlying Try.underlying24, sizeOf, typeInfo, hi0, Builtin.lenOf, Builtin.firstCells, storeCells, loadCells, loadCellsFrom]
  unfold Oper.wp
  simp [execOp, ho, resolve, invoke, builtin, hs, hx, hrun, Result.andThen]
  exact h

/-- What holds all through the copying. -/
abbrev CopyS (w : World) (P R : Nat) (V1 V2 : Value) (w' : World) : Prop :=
  Below w.heap.size w w' ∧ w'.cell? ⟨P, 0, none⟩ = some V1 ∧ w'.cell? ⟨P, 1, none⟩ = some V2 ∧ w'.cell? ⟨R, 0, none⟩ = some (cellAt w' ⟨R, 0, none⟩) ∧ w'.cell? ⟨R, 1, none⟩ = some (cellAt w' ⟨R, 1, none⟩) ∧ w'.frozen? ⟨R, 0, none⟩ = false ∧ w'.frozen? ⟨R, 1, none⟩ = false ∧ ∃ x y, w'.heap[R]? = some (.cells #[x, y] 26 (0, 0))
theorem copy_of {w w' : World} {P R : Nat} {V1 V2 x y : Value} (hb : Below w.heap.size w w') (h1 : w'.cell? ⟨P, 0, none⟩ = some V1) (h2 : w'.cell? ⟨P, 1, none⟩ = some V2) (h3 : w'.heap[R]? = some (.cells #[x, y] 26 (0, 0))) : CopyS w P R V1 V2 w' := by
  obtain ⟨⟨k1, k2⟩, f1, f2⟩ := boxTwo_cells h3
  exact ⟨hb, h1, h2, cellAt_some k1, cellAt_some k2, f1, f2, _, _, h3⟩
theorem copy_drew {w w' : World} {P R : Nat} {V1 V2 : Value} (h : CopyS w P R V1 V2 w') : CopyS w P R V1 V2 w'.drew :=
  ⟨⟨h.1.os, h.1.tape, h.1.output, h.1.size, h.1.block⟩, h.2⟩
theorem copy_alloc {w w' : World} {P R : Nat} {V1 V2 : Value} (h : CopyS w P R V1 V2 w') (o : Obj) : CopyS w P R V1 V2 (w'.alloc o) := by
  obtain ⟨hb, h1, h2, h3, _, _, _, x, y, h8⟩ := h
  exact copy_of (hb.alloc hb.size o) (cell_past o h1) (cell_past o h2) ((Below.heap_alloc w' o R (World.block_lt_of_cell? _ _ h3)).trans h8)
theorem copy_grown {w w' w2 : World} {P R : Nat} {V1 V2 : Value} (h : CopyS w P R V1 V2 w') (hg : w'.grownBy w2 none) : CopyS w P R V1 V2 w2 := by
  obtain ⟨hb, h1, h2, h3, _, _, _, x, y, h8⟩ := h
  exact copy_of (hb.grown hg hb.size (fun k e => by cases e)) ((hg.cell_far ⟨P, 0, none⟩ (World.block_lt_of_cell? _ _ h1) (fun e => by cases e)).trans h1) ((hg.cell_far ⟨P, 1, none⟩ (World.block_lt_of_cell? _ _ h2) (fun e => by cases e)).trans h2) ((hg.block R (World.block_lt_of_cell? _ _ h3) (fun e => by cases e)).trans h8)
theorem copy_put {w w' : World} {P R : Nat} {V1 V2 : Value} (h : CopyS w P R V1 V2 w') (hR : w.heap.size ≤ R) (hP : P ≠ R) (a b : Value) : CopyS w P R V1 V2 ((w'.setCell ⟨R, 0, none⟩ a).setCell ⟨R, 1, none⟩ b) := by
  obtain ⟨hb, h1, h2, h3, _, _, _, x, y, h8⟩ := h
  have e : ((w'.setCell ⟨R, 0, none⟩ a).setCell ⟨R, 1, none⟩ b).heap[P]? = w'.heap[P]? := (Below.heap_setCell _ ⟨R, 1, none⟩ b P hP).trans (Below.heap_setCell _ ⟨R, 0, none⟩ a P hP)
  exact copy_of (boxTwo_below hb hR a b) ((World.cell?_of_block (a := ⟨P, 0, none⟩) e).trans h1) ((World.cell?_of_block (a := ⟨P, 1, none⟩) e).trans h2) (boxTwo_set h8 a b)
theorem copy_size {w w' : World} {P R : Nat} {V1 V2 : Value} (h : CopyS w P R V1 V2 w') : R + 1 ≤ w'.heap.size := World.block_lt_of_cell? _ _ h.2.2.2.1
theorem own_ownQ_ne {w : World} {b1 b2 : Nat} {v v2 : Value} {xs : List Int} {ps : List (Int × Int)} (h1 : Own w b1 v xs) (h2 : OwnQ 68 w b2 v2 ps) : ∀ x, v.ownBlock = some x → ∀ y, v2.ownBlock = some y → x ≠ y := by
  intro x hx y hy e
  subst e
  rcases h1.2 with ⟨hv, _⟩ | ⟨g, cap, cur, hv, _, hh, _⟩
  · rw [hv] at hx; cases hx
  · rcases h2.2 with ⟨hv2, _⟩ | ⟨g2, cap2, cur2, hv2, _, hh2, _⟩
    · rw [hv2] at hy; cases hy
    · rw [hv] at hx
      rw [hv2] at hy
      have e1 : g = x := by simpa [Value.ownBlock] using hx
      have e2 : g2 = x := by simpa [Value.ownBlock] using hy
      subst e1 e2
      rw [hh] at hh2
      simp at hh2
theorem copy_end {w wz : World} {R : Nat} {v v2 : Value} {xs : List Int} {ps : List (Int × Int)} (hb : Below w.heap.size w wz) (hRw : w.heap.size ≤ R) (ho : Own wz (R + 1) v xs) (hq : OwnQ 68 wz (R + 1) v2 ps) :
    Own ((wz.setCell ⟨R, 0, none⟩ v).setCell ⟨R, 1, none⟩ v2) w.heap.size v xs ∧ OwnQ 68 ((wz.setCell ⟨R, 0, none⟩ v).setCell ⟨R, 1, none⟩ v2) w.heap.size v2 ps ∧ (∀ x, v.ownBlock = some x → ∀ y, v2.ownBlock = some y → x ≠ y) ∧ Below w.heap.size w ((wz.setCell ⟨R, 0, none⟩ v).setCell ⟨R, 1, none⟩ v2) := by
  have hx1 := ho.blockOf
  have hx2 := hq.blockOf
  have hg := boxTwo_grown wz R v v2
  exact ⟨(ho.less (by omega)).kept hg (.inr (fun e => by have := (hx1 _ e).1; omega)), (hq.less (by omega)).kept hg (.inr (fun e => by have := (hx2 _ e).1; omega)), own_ownQ_ne ho hq, boxTwo_below hb hRw _ _⟩
end Go.Proofs.Ytichcnaomcpnhaa

namespace Go.Proofs.Ytichcnaomcpnhaa
open Go.RowKit

set_option maxRecDepth 100000 in
set_option maxHeartbeats 8000000 in
theorem l4Copy_some (b1 o1 b2 o2 n c m c2 B0 : Nat) (xs : List Int) (ss : List (Int × Int)) (w : World) (h1 : Rd w B0 (some ⟨b1, o1, none⟩) n xs) (h2 : RdQ w B0 (some ⟨b2, o2, none⟩) m ss) (hB0 : B0 ≤ w.heap.size) (hn : 1 ≤ n) (hb : n ≤ 1048576) (hm : 1 ≤ m) (hb2 : m ≤ 1048576) :
    Calls Try.prog 38 #[.agg #[.slice (some ⟨b1, o1, none⟩) n c, .slice (some ⟨b2, o2, none⟩) m c2]] w fun e w' => ∃ v v2, e = .returned (.agg #[v, v2]) ∧ Own w' w.heap.size v xs ∧ OwnQ 68 w' w.heap.size v2 ss ∧ (∀ x, v.ownBlock = some x → ∀ y, v2.ownBlock = some y → x ≠ y) ∧ Below w.heap.size w w' := by
  obtain ⟨W1, hW1⟩ : ∃ W1, W1 = w.alloc (.cells #[.slice (some ⟨b1, o1, none⟩) n c, .slice (some ⟨b2, o2, none⟩) m c2] 26) := ⟨_, rfl⟩
  obtain ⟨W, hW⟩ : ∃ W, W = W1.alloc (.cells #[.slice none 0 0, .slice none 0 0] 26) := ⟨_, rfl⟩
  have e1 : W1.heap.size = w.heap.size + 1 := by rw [hW1]; simp
  have hA : W1.heap[w.heap.size]? = some (.cells #[.slice (some ⟨b1, o1, none⟩) n c, .slice (some ⟨b2, o2, none⟩) m c2] 26 (0, 0)) := by rw [hW1]; exact World.alloc_heap_new w _
  have hAW : W.heap[w.heap.size]? = some (.cells #[.slice (some ⟨b1, o1, none⟩) n c, .slice (some ⟨b2, o2, none⟩) m c2] 26 (0, 0)) := by rw [hW]; exact (Below.heap_alloc _ _ _ (by omega)).trans hA
  have hRW : W.heap[w.heap.size + 1]? = some (.cells #[.slice none 0 0, .slice none 0 0] 26 (0, 0)) := by rw [hW, ← e1]; exact World.alloc_heap_new W1 _
  have hbW : Below w.heap.size w W := by rw [hW, hW1]; exact ((Below.refl _ _).alloc (Nat.le_refl _) _).alloc (by simp) _
  have hN1 : Hid (∀ w8, Below w.heap.size w w8 → ∀ k, k < n → w8.cell? ⟨b1, o1 + k, none⟩ = some (.int .i64 (xs[k]?.getD 0))) := fun w8 hb8 k hk => by
    obtain ⟨b, o, e, _, hc⟩ := (h1.below hb8 hB0).2 hn
    simp only [Option.some.injEq, Addr.mk.injEq, and_true] at e
    obtain ⟨rfl, rfl⟩ := e
    exact hc k hk
  have hN2 : Hid (∀ w8, Below w.heap.size w w8 → ∀ k, k < m → w8.cell? ⟨b2, o2 + k * 2, none⟩ = some (.int .i64 (ss[k]?.getD (0, 0)).1) ∧ w8.cell? ⟨b2, o2 + k * 2 + 1, none⟩ = some (.int .i64 (ss[k]?.getD (0, 0)).2)) := fun w8 hb8 k hk => by
    obtain ⟨b, o, e, _, hc⟩ := (h2.below hb8 hB0).2 hm
    simp only [Option.some.injEq, Addr.mk.injEq, and_true] at e
    obtain ⟨rfl, rfl⟩ := e
    exact hc k hk
  have hl1 := h1.1
  have hl2 := h2.1
  obtain ⟨P, hP⟩ : ∃ P, P = w.heap.size := ⟨_, rfl⟩
  obtain ⟨R, hR⟩ : ∃ R, R = w.heap.size + 1 := ⟨_, rfl⟩
  rw [← hP] at hAW
  rw [← hR] at hRW
  have hS : CopyS w P R (.slice (some ⟨b1, o1, none⟩) n c) (.slice (some ⟨b2, o2, none⟩) m c2) W := copy_of hbW (boxTwo_cells hAW).1.1 (boxTwo_cells hAW).1.2 hRW
  have HW := Lib.hid (And.intro hW (And.intro hW1 (And.intro hP hR)))
  have HPR := Lib.hid (And.intro (show w.heap.size ≤ R by omega) (show P ≠ R by omega))
  have HL := Lib.hid (And.intro hl1 hl2)
  have HS := Lib.hid hS
  have HI := Lib.hid (And.intro (And.intro hn hb) (And.intro hm hb2))
  have hew : W1.heap.size = R := by omega
  have HEW := Lib.hid hew
  clear h1 h2 hB0 hn hb hm hb2 e1 hA hAW hRW hbW hl1 hl2 hW hW1 hP hR hew
  go_enter Try.func38, Try.ntmps38
  go_wp2_with fail
  rw [← HW.out.2.1, ← HW.out.1, ← HW.out.2.2.2, ← HW.out.2.2.1]
  go_region_held3 (fun w' => Below w.heap.size w w' ∧ w'.cell? ⟨P, 0, none⟩ = some (.slice (some ⟨b1, o1, none⟩) n c) ∧ w'.cell? ⟨P, 1, none⟩ = some (.slice (some ⟨b2, o2, none⟩) m c2) ∧ w'.cell? ⟨R, 0, none⟩ = some (cellAt w' ⟨R, 0, none⟩) ∧ w'.cell? ⟨R, 1, none⟩ = some (cellAt w' ⟨R, 1, none⟩) ∧ w'.frozen? ⟨R, 0, none⟩ = false ∧ w'.frozen? ⟨R, 1, none⟩ = false ∧ ∃ x y, w'.heap[R]? = some (.cells #[x, y] 26 (0, 0)))
    (first | exact copy_drew (by assumption) | exact copy_alloc (by assumption) _ | exact copy_grown (by assumption) (by assumption) | exact copy_put (by assumption) HPR.out.1 HPR.out.2 _ _)
    (first | (refine step_copyI rfl (.tmp 3) (.tmp 5) rfl _ (R + 1) _ b1 o1 n c xs rfl rfl HL.out.1 (hN1.out _ (‹Below w.heap.size w _ ∧ _›).1) HI.out.1.1 HI.out.1.2 (copy_size (by assumption)) ?_; intro gI kI wI hoI hgI) | (refine step_copyS rfl (.tmp 7) (.tmp 9) rfl _ (R + 1) _ b2 o2 m c2 ss rfl rfl HL.out.2 (hN2.out _ (‹Below w.heap.size w _ ∧ _›).1) HI.out.2.1 HI.out.2.2 (copy_size (by assumption)) ?_; intro gS kS wS hoS hgS))
  all_goals
    clear ‹Below w.heap.size w _ ∧ _›
    go_wp2_with fail
    have hcs : CopyS w P R (.slice (some ⟨b1, o1, none⟩) n c) (.slice (some ⟨b2, o2, none⟩) m c2) wS := by
      first | exact copy_grown (copy_alloc (copy_grown (copy_drew (copy_alloc HS.out _)) hgI) _) hgS | exact copy_grown (copy_grown (copy_drew (copy_alloc (copy_alloc HS.out _) _)) hgI) hgS
    obtain ⟨hbS, _, _, _, _, _, _, x, y, hRS⟩ := hcs
    have ho : Own wS (R + 1) (.slice (some ⟨gI, 0, none⟩) n kI) xs := by
      first | exact (hoI.alloc _).kept hgS (.inr (fun e => by cases e)) | exact hoI.kept hgS (.inr (fun e => by cases e))
    obtain ⟨q1, q2, q3, q4⟩ := copy_end hbS HPR.out.1 ho hoS
    obtain ⟨⟨k1, k2⟩, _⟩ := boxTwo_cells (boxTwo_set hRS (.slice (some ⟨gI, 0, none⟩) n kI) (.slice (some ⟨gS, 0, none⟩) m kS))
    refine bodyPost_ret (v := .agg #[.slice (some ⟨gI, 0, none⟩) n kI, .slice (some ⟨gS, 0, none⟩) m kS]) (by simp [results, Try.results38, go_sem, k1, k2]) rfl ?_
    exact ⟨_, _, rfl, q1, q2, q3, q4⟩

set_option maxRecDepth 100000 in
set_option maxHeartbeats 8000000 in
theorem l4Copy_none (b1 o1 n c c2 B0 : Nat) (A2 : Option Addr) (xs : List Int) (w : World) (h1 : Rd w B0 (some ⟨b1, o1, none⟩) n xs) (hB0 : B0 ≤ w.heap.size) (hn : 1 ≤ n) (hb : n ≤ 1048576) :
    Calls Try.prog 38 #[.agg #[.slice (some ⟨b1, o1, none⟩) n c, .slice A2 0 c2]] w fun e w' => ∃ v v2, e = .returned (.agg #[v, v2]) ∧ Own w' w.heap.size v xs ∧ OwnQ 68 w' w.heap.size v2 [] ∧ (∀ x, v.ownBlock = some x → ∀ y, v2.ownBlock = some y → x ≠ y) ∧ Below w.heap.size w w' := by
  obtain ⟨W1, hW1⟩ : ∃ W1, W1 = w.alloc (.cells #[.slice (some ⟨b1, o1, none⟩) n c, .slice A2 0 c2] 26) := ⟨_, rfl⟩
  obtain ⟨W, hW⟩ : ∃ W, W = W1.alloc (.cells #[.slice none 0 0, .slice none 0 0] 26) := ⟨_, rfl⟩
  have e1 : W1.heap.size = w.heap.size + 1 := by rw [hW1]; simp
  have eW : W.heap.size = w.heap.size + 2 := by rw [hW]; simp [e1]
  have hA : W1.heap[w.heap.size]? = some (.cells #[.slice (some ⟨b1, o1, none⟩) n c, .slice A2 0 c2] 26 (0, 0)) := by rw [hW1]; exact World.alloc_heap_new w _
  have hAW : W.heap[w.heap.size]? = some (.cells #[.slice (some ⟨b1, o1, none⟩) n c, .slice A2 0 c2] 26 (0, 0)) := by rw [hW]; exact (Below.heap_alloc _ _ _ (by omega)).trans hA
  have hRW : W.heap[w.heap.size + 1]? = some (.cells #[.slice none 0 0, .slice none 0 0] 26 (0, 0)) := by rw [hW, ← e1]; exact World.alloc_heap_new W1 _
  have hbW : Below w.heap.size w W := by rw [hW, hW1]; exact ((Below.refl _ _).alloc (Nat.le_refl _) _).alloc (by simp) _
  have hN1 : Hid (∀ w8, Below w.heap.size w w8 → ∀ k, k < n → w8.cell? ⟨b1, o1 + k, none⟩ = some (.int .i64 (xs[k]?.getD 0))) := fun w8 hb8 k hk => by
    obtain ⟨b, o, e, _, hc⟩ := (h1.below hb8 hB0).2 hn
    simp only [Option.some.injEq, Addr.mk.injEq, and_true] at e
    obtain ⟨rfl, rfl⟩ := e
    exact hc k hk
  have hl1 := h1.1
  obtain ⟨P, hP⟩ : ∃ P, P = w.heap.size := ⟨_, rfl⟩
  obtain ⟨R, hR⟩ : ∃ R, R = w.heap.size + 1 := ⟨_, rfl⟩
  rw [← hP] at hAW
  rw [← hR] at hRW
  have hS : CopyS w P R (.slice (some ⟨b1, o1, none⟩) n c) (.slice A2 0 c2) W := copy_of hbW (boxTwo_cells hAW).1.1 (boxTwo_cells hAW).1.2 hRW
  have HW := Lib.hid (And.intro hW (And.intro hW1 (And.intro hP hR)))
  have HPR := Lib.hid (And.intro (show w.heap.size ≤ R by omega) (And.intro (show P ≠ R by omega) (show W.heap.size = R + 1 by omega)))
  have HL := Lib.hid hl1
  have HS := Lib.hid hS
  have HI := Lib.hid (And.intro hn hb)
  clear h1 hB0 hn hb e1 eW hA hAW hRW hbW hl1 hW hW1 hP hR
  go_enter Try.func38, Try.ntmps38
  go_wp2_with fail
  rw [← HW.out.2.1, ← HW.out.1, ← HW.out.2.2.2, ← HW.out.2.2.1]
  go_region_held3 (fun w' => Below w.heap.size w w' ∧ w'.cell? ⟨P, 0, none⟩ = some (.slice (some ⟨b1, o1, none⟩) n c) ∧ w'.cell? ⟨P, 1, none⟩ = some (.slice A2 0 c2) ∧ w'.cell? ⟨R, 0, none⟩ = some (cellAt w' ⟨R, 0, none⟩) ∧ w'.cell? ⟨R, 1, none⟩ = some (cellAt w' ⟨R, 1, none⟩) ∧ w'.frozen? ⟨R, 0, none⟩ = false ∧ w'.frozen? ⟨R, 1, none⟩ = false ∧ ∃ x y, w'.heap[R]? = some (.cells #[x, y] 26 (0, 0)))
    (first | assumption | exact copy_drew (by assumption) | exact copy_alloc (by assumption) _ | exact copy_grown (by assumption) (by assumption) | exact copy_put (by assumption) HPR.out.1 HPR.out.2.1 _ _)
    (first | (refine step_copyI rfl (.tmp 3) (.tmp 5) rfl _ (R + 1) _ b1 o1 n c xs rfl rfl HL.out (hN1.out _ (‹Below w.heap.size w _ ∧ _›).1) HI.out.1 HI.out.2 (copy_size (by assumption)) ?_; intro gI kI wI hoI hgI) | (refine step_copyS0 rfl (.tmp 7) (.tmp 9) rfl _ _ c2 A2 rfl rfl ?_))
  all_goals
    clear ‹Below w.heap.size w _ ∧ _›
    go_wp2_with fail
    have hsI := hgI.size
    obtain ⟨_, eR⟩ := HPR.out.2
    first
    | (have hcs : CopyS w P R (.slice (some ⟨b1, o1, none⟩) n c) (.slice A2 0 c2) (wI.alloc (.cells #[] 68)) := copy_alloc (copy_grown (copy_drew (copy_alloc HS.out _)) hgI) _
       have hoS : OwnQ 68 (wI.alloc (.cells #[] 68)) (R + 1) (.slice (some ⟨wI.heap.size, 0, none⟩) 0 0) [] := OwnQ.none_yet _ _ _ (by simp at hsI; omega)
       have ho : Own (wI.alloc (.cells #[] 68)) (R + 1) (.slice (some ⟨gI, 0, none⟩) n kI) xs := hoI.alloc _
       obtain ⟨hbS, _, _, _, _, _, _, x, y, hRS⟩ := hcs
       obtain ⟨q1, q2, q3, q4⟩ := copy_end hbS HPR.out.1 ho hoS
       obtain ⟨⟨k1, k2⟩, _⟩ := boxTwo_cells (boxTwo_set hRS (.slice (some ⟨gI, 0, none⟩) n kI) (.slice (some ⟨wI.heap.size, 0, none⟩) 0 0))
       refine bodyPost_ret (v := .agg #[.slice (some ⟨gI, 0, none⟩) n kI, .slice (some ⟨wI.heap.size, 0, none⟩) 0 0]) (by simp [results, Try.results38, go_sem, k1, k2]) rfl ?_
       exact ⟨_, _, rfl, q1, q2, q3, q4⟩)
    | (have hcs : CopyS w P R (.slice (some ⟨b1, o1, none⟩) n c) (.slice A2 0 c2) wI := copy_grown (copy_drew (copy_alloc (copy_alloc HS.out _) _)) hgI
       have hoS : OwnQ 68 wI (R + 1) (.slice (some ⟨(W.alloc (.cells #[] 3)).heap.size, 0, none⟩) 0 0) [] := by
         have h0 : OwnQ 68 ((W.alloc (.cells #[] 3)).alloc (.cells #[] 68)).drew (R + 1) (.slice (some ⟨(W.alloc (.cells #[] 3)).heap.size, 0, none⟩) 0 0) [] := OwnQ.none_yet 68 (W.alloc (.cells #[] 3)) (R + 1) (by simp; omega)
         exact h0.kept hgI (.inr (fun e => by cases e))
       obtain ⟨hbS, _, _, _, _, _, _, x, y, hRS⟩ := hcs
       obtain ⟨q1, q2, q3, q4⟩ := copy_end hbS HPR.out.1 hoI hoS
       obtain ⟨⟨k1, k2⟩, _⟩ := boxTwo_cells (boxTwo_set hRS (.slice (some ⟨gI, 0, none⟩) n kI) (.slice (some ⟨(W.alloc (.cells #[] 3)).heap.size, 0, none⟩) 0 0))
       rw [World.size_alloc] at q1 q2 q3 q4 k1 k2
       refine bodyPost_ret (v := .agg #[.slice (some ⟨gI, 0, none⟩) n kI, .slice (some ⟨W.heap.size + 1, 0, none⟩) 0 0]) (by simp [results, Try.results38, go_sem, k1, k2]) rfl ?_
       exact ⟨_, _, rfl, q1, q2, q3, q4⟩)
    | (have hcs : CopyS w P R (.slice (some ⟨b1, o1, none⟩) n c) (.slice A2 0 c2) wI := copy_grown (copy_drew (copy_alloc (copy_alloc HS.out _) _)) hgI
       have hoS : OwnQ 68 wI (R + 1) (.slice (some ⟨W.heap.size, 0, none⟩) 0 0) [] := by
         have h0 : OwnQ 68 ((W.alloc (.cells #[] 68)).alloc (.cells #[] 3)).drew (R + 1) (.slice (some ⟨W.heap.size, 0, none⟩) 0 0) [] := (OwnQ.none_yet 68 W (R + 1) (by omega)).alloc _
         exact h0.kept hgI (.inr (fun e => by cases e))
       obtain ⟨hbS, _, _, _, _, _, _, x, y, hRS⟩ := hcs
       obtain ⟨q1, q2, q3, q4⟩ := copy_end hbS HPR.out.1 hoI hoS
       obtain ⟨⟨k1, k2⟩, _⟩ := boxTwo_cells (boxTwo_set hRS (.slice (some ⟨gI, 0, none⟩) n kI) (.slice (some ⟨W.heap.size, 0, none⟩) 0 0))
       refine bodyPost_ret (v := .agg #[.slice (some ⟨gI, 0, none⟩) n kI, .slice (some ⟨W.heap.size, 0, none⟩) 0 0]) (by simp [results, Try.results38, go_sem, k1, k2]) rfl ?_
       exact ⟨_, _, rfl, q1, q2, q3, q4⟩)
theorem l4Copy_any (A1 A2 : Option Addr) (n c m c2 B0 : Nat) (xs : List Int) (ss : List (Int × Int)) (w : World) (h1 : Rd w B0 A1 n xs) (h2 : RdQ w B0 A2 m ss) (hB0 : B0 ≤ w.heap.size) (hn : 1 ≤ n) (hb : n ≤ 1048576) (hb2 : m ≤ 1048576) :
    Calls Try.prog 38 #[.agg #[.slice A1 n c, .slice A2 m c2]] w fun e w' => ∃ v v2, e = .returned (.agg #[v, v2]) ∧ Own w' w.heap.size v xs ∧ OwnQ 68 w' w.heap.size v2 ss ∧ (∀ x, v.ownBlock = some x → ∀ y, v2.ownBlock = some y → x ≠ y) ∧ Below w.heap.size w w' := by
  obtain ⟨b1, o1, rfl, _, _⟩ := h1.2 hn
  by_cases hm : 1 ≤ m
  · obtain ⟨b2, o2, rfl, _, _⟩ := h2.2 hm
    exact l4Copy_some b1 o1 b2 o2 n c m c2 B0 xs ss w h1 h2 hB0 hn hb hm hb2
  · obtain rfl : m = 0 := by omega
    have : ss = [] := List.eq_nil_of_length_eq_zero h2.1
    subst this
    exact l4Copy_none b1 o1 n c c2 B0 A2 xs w h1 hB0 hn hb
end Go.Proofs.Ytichcnaomcpnhaa
