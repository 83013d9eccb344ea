/- The model's copy of a log. Condition: lengths up to 1048576. -/
import Derived.Test.YtdbkoicbhddpfaaLogs
import Derived.Deep.RegionHeld3
import Derived.Deep.RegionLawGrows
import Derived.Deep.AppendLies
namespace Go.Proofs.Ytdbkoicbhddpfaa
open Go.RowKit

/-- One cell of a box of two. -/
theorem boxTwo_second {W : World} {b : Nat} {x y : Value} {t : TypeId} (h : W.heap[b]? = some (.cells #[x, y] t (0, 0))) (a : Value) : (W.setCell ⟨b, 1, none⟩ a).heap[b]? = some (.cells #[x, a] t (0, 0)) := modify_at _ h
/-- A store of one cell is growth of its block. -/
theorem cell_growth (W : World) (b o : Nat) (v : Value) : W.grownBy (W.setCell ⟨b, o, none⟩ v) (some b) :=
  ⟨rfl, rfl, rfl, by simp [World.setCell], fun _ _ hk => Below.heap_setCell _ _ _ _ (fun e => hk (by rw [e]))⟩
/-- What lies in a cell. -/
def cellAt (w : World) (p : Addr) : Value := (w.cell? p).getD undef
theorem cellAt_some {w : World} {p : Addr} {v : Value} (h : w.cell? p = some v) : w.cell? p = some (cellAt w p) := by unfold cellAt; rw [h]; rfl
/-- Appending all of a slice of ints to an empty one. -/
theorem step_copyI {ops : Array Oper} {o : Oper} {a : Act} {K : Act → World → Prop} {Q : Exit → Act → World → Prop} {E : Prop} (hgd : o.guard = none) (s x : Operand)
    (ho : o.op = .call { callee := .builtin .append, args := #[s, x], argTypes := #[23, 23] }) (W : World) (base B b off n c : Nat) (zs : List Int)
    (hs : a.eval s = .slice (some ⟨B, 0, none⟩) 0 0) (hx : a.eval x = .slice (some ⟨b, off, none⟩) n c) (hln : zs.length = n) (hnews : ∀ k, k < n → W.cell? ⟨b, off + k, none⟩ = some (.int .i64 (zs[k]?.getD 0))) (hn : 1 ≤ n) (hb : n ≤ 1048576) (hbase : base ≤ W.heap.size)
    (h : ∀ g k w', Own w' base (.slice (some ⟨g, 0, none⟩) n k) zs → W.grownBy w' none → K (a.put o.dst (.slice (some ⟨g, 0, none⟩) n k)) w') :
    if Region.wanted o (yielded ops a.tmps) = true then Oper.wp Try.prog o a W K Q else E := by
  obtain ⟨i0, hi0, hz0, hz1, hz2⟩ := info_parts Try.info_int
  refine step_append_grows hgd s x 23 ho 3 i0 (.int .i64 0) 1 8 Try.underlying23 hi0 hz0 hz1 hz2 rfl (by decide) (some ⟨B, 0, none⟩) 0 0 [] hs (fun e => by cases e) rfl (fun _ _ j u hu => by simp at hu) ⟨b, off, none⟩ n c (zs.map (Value.int .i64)) hx (by rw [List.length_map]; omega) (fun j u hu => ?_) (fun u hu => ?_) (by omega) (by unfold maxLen; omega) (by omega) ?_
  · rw [List.getElem?_map] at hu
    have hj : j < zs.length := by
      rcases Nat.lt_or_ge j zs.length with h | h
      · exact h
      · rw [List.getElem?_eq_none h] at hu; cases hu
    rw [List.getElem?_eq_getElem hj] at hu
    simp only [Option.map_some, Option.some.injEq] at hu
    rw [add_at, hnews j (by omega), List.getElem?_eq_getElem hj, ← hu]
    rfl
  · obtain ⟨z, _, rfl⟩ := List.mem_map.1 hu
    rfl
  · intro v' w' hown hg
    have ho1 : Own w' W.heap.size v' zs := by
      unfold Own
      rw [hln]
      simpa using hown
    rcases ho1.2 with ⟨hv, hx'⟩ | ⟨g, cap, cur, hv, _⟩
    · have : zs = [] := by simpa using hx'
      rw [this] at hln
      simp at hln
      omega
    · rw [hln] at hv
      rw [hv] at ho1 ⊢
      exact h g cap w' (ho1.less hbase) hg
/-- Appending all of a slice of steps to an empty one. -/
theorem step_copyS {ops : Array Oper} {o : Oper} {a : Act} {K : Act → World → Prop} {Q : Exit → Act → World → Prop} {E : Prop} (hgd : o.guard = none) (s x : Operand)
    (ho : o.op = .call { callee := .builtin .append, args := #[s, x], argTypes := #[24, 24] }) (W : World) (base B b off n c : Nat) (ps : List (Int × Int))
    (hs : a.eval s = .slice (some ⟨B, 0, none⟩) 0 0) (hx : a.eval x = .slice (some ⟨b, off, none⟩) n c) (hln : ps.length = n) (hnews : ∀ k, k < n → W.cell? ⟨b, off + k * 2, none⟩ = some (.int .i64 (ps[k]?.getD (0, 0)).1) ∧ W.cell? ⟨b, off + k * 2 + 1, none⟩ = some (.int .i64 (ps[k]?.getD (0, 0)).2)) (hn : 1 ≤ n) (hb : n ≤ 1048576) (hbase : base ≤ W.heap.size)
    (h : ∀ g k w', OwnQ 45 w' base (.slice (some ⟨g, 0, none⟩) n k) ps → W.grownBy w' none → K (a.put o.dst (.slice (some ⟨g, 0, none⟩) n k)) w') :
    if Region.wanted o (yielded ops a.tmps) = true then Oper.wp Try.prog o a W K Q else E := by
  obtain ⟨i0, hi0, hz0, hz1, hz2⟩ := info_parts Try.info_step
  refine step_append_grows hgd s x 24 ho 45 i0 (.agg #[.int .i64 0, .int .i64 0]) 2 16 Try.underlying24 hi0 hz0 hz1 hz2 rfl (by decide) (some ⟨B, 0, none⟩) 0 0 [] hs (fun e => by cases e) rfl (fun _ _ j u hu => by simp at hu) ⟨b, off, none⟩ n c (qcells ps) hx (by rw [qcells_len]; omega) (fun j u hu => ?_) (fun u hu => ?_) (by omega) (by unfold maxLen; omega) (by omega) ?_
  · have hj : j < ps.length * 2 := by
      rcases Nat.lt_or_ge j (qcells ps).length with h | h
      · rwa [qcells_len] at h
      · rw [List.getElem?_eq_none h] at hu; cases hu
    obtain ⟨k, hk⟩ : ∃ k, j = k * 2 ∨ j = k * 2 + 1 := ⟨j / 2, by omega⟩
    obtain ⟨q1, q2⟩ := qcells_get (ps := ps) (k := k) (by omega)
    obtain ⟨n1, n2⟩ := hnews k (by omega)
    rw [add_at]
    rcases hk with rfl | rfl
    · rw [q1] at hu
      rw [n1, ← hu]
    · rw [q2] at hu
      rw [← Nat.add_assoc, n2, ← hu]
  · unfold qcells at hu
    obtain ⟨p, _, hp⟩ := List.mem_flatMap.1 hu
    simp at hp
    rcases hp with rfl | rfl <;> rfl
  · intro v' w' hown hg
    have ho1 : OwnQ 45 w' W.heap.size v' ps := by
      unfold OwnQ
      rw [hln]
      simpa using hown
    rcases ho1.2 with ⟨hv, hx'⟩ | ⟨g, cap, cur, hv, _⟩
    · rw [hln] at hx'
      omega
    · rw [hln] at hv
      rw [hv] at ho1 ⊢
      exact h g cap w' (ho1.less hbase) hg
/-- Appending nothing. -/
theorem step_copyS0 {ops : Array Oper} {o : Oper} {a : Act} {K : Act → World → Prop} {Q : Exit → Act → World → Prop} {E : Prop} (hgd : o.guard = none) (s x : Operand)
    (ho : o.op = .call { callee := .builtin .append, args := #[s, x], argTypes := #[24, 24] }) (W : World) (B c : Nat) (A : Option Addr)
    (hs : a.eval s = .slice (some ⟨B, 0, none⟩) 0 0) (hx : a.eval x = .slice A 0 c) (h : K (a.put o.dst (.slice (some ⟨B, 0, none⟩) 0 0)) W) :
    if Region.wanted o (yielded ops a.tmps) = true then Oper.wp Try.prog o a W K Q else E := by
  obtain ⟨i0, hi0, hz0, hz1, hz2⟩ := info_parts Try.info_step
  have hw : Region.wanted o (yielded ops a.tmps) = true := by simp [Region.wanted, hgd]
  rw [if_pos hw]
  have hrun : (Builtin.append_ #[24, 24] o.type #[.slice (some ⟨B, 0, none⟩) 0 0, .slice A 0 c]).run Try.prog W = .ok (.slice (some ⟨B, 0, none⟩) 0 0) W := by
    cases A <;> simp [Builtin.append_, run_underlying Try.underlying24, sizeOf, typeInfo, hi0, Builtin.lenOf, Builtin.firstCells, storeCells, loadCells, loadCellsFrom]
  unfold Oper.wp
  simp [execOp, ho, resolve, invoke, builtin, hs, hx, hrun, Result.andThen]
  exact h

/-- What holds all through the copying. -/
abbrev CopyS (w : World) (P R : Nat) (V1 V2 : Value) (w' : World) : Prop :=
  Below w.heap.size w w' ∧ w'.cell? ⟨P, 0, none⟩ = some V1 ∧ w'.cell? ⟨P, 1, none⟩ = some V2 ∧ w'.cell? ⟨R, 0, none⟩ = some (cellAt w' ⟨R, 0, none⟩) ∧ w'.cell? ⟨R, 1, none⟩ = some (cellAt w' ⟨R, 1, none⟩) ∧ w'.frozen? ⟨R, 0, none⟩ = false ∧ w'.frozen? ⟨R, 1, none⟩ = false ∧ ∃ x y, w'.heap[R]? = some (.cells #[x, y] 26 (0, 0))
theorem copy_of {w w' : World} {P R : Nat} {V1 V2 x y : Value} (hb : Below w.heap.size w w') (h1 : w'.cell? ⟨P, 0, none⟩ = some V1) (h2 : w'.cell? ⟨P, 1, none⟩ = some V2) (h3 : w'.heap[R]? = some (.cells #[x, y] 26 (0, 0))) : CopyS w P R V1 V2 w' := by
  obtain ⟨⟨k1, k2⟩, f1, f2⟩ := boxTwo_cells h3
  exact ⟨hb, h1, h2, cellAt_some k1, cellAt_some k2, f1, f2, _, _, h3⟩
theorem copy_drew {w w' : World} {P R : Nat} {V1 V2 : Value} (h : CopyS w P R V1 V2 w') : CopyS w P R V1 V2 w'.drew :=
  ⟨⟨h.1.os, h.1.tape, h.1.output, h.1.size, h.1.block⟩, h.2⟩
theorem copy_alloc {w w' : World} {P R : Nat} {V1 V2 : Value} (h : CopyS w P R V1 V2 w') (o : Obj) : CopyS w P R V1 V2 (w'.alloc o) := by
  obtain ⟨hb, h1, h2, h3, _, _, _, x, y, h8⟩ := h
  exact copy_of (hb.alloc hb.size o) (cell_past o h1) (cell_past o h2) ((Below.heap_alloc w' o R (World.block_lt_of_cell? _ _ h3)).trans h8)
theorem copy_grown {w w' w2 : World} {P R : Nat} {V1 V2 : Value} (h : CopyS w P R V1 V2 w') (hg : w'.grownBy w2 none) : CopyS w P R V1 V2 w2 := by
  obtain ⟨hb, h1, h2, h3, _, _, _, x, y, h8⟩ := h
  exact copy_of (hb.grown hg hb.size (fun k e => by cases e)) ((hg.cell_far ⟨P, 0, none⟩ (World.block_lt_of_cell? _ _ h1) (fun e => by cases e)).trans h1) ((hg.cell_far ⟨P, 1, none⟩ (World.block_lt_of_cell? _ _ h2) (fun e => by cases e)).trans h2) ((hg.block R (World.block_lt_of_cell? _ _ h3) (fun e => by cases e)).trans h8)
theorem copy_put {w w' : World} {P R : Nat} {V1 V2 : Value} (h : CopyS w P R V1 V2 w') (hR : w.heap.size ≤ R) (hP : P ≠ R) (a b : Value) : CopyS w P R V1 V2 ((w'.setCell ⟨R, 0, none⟩ a).setCell ⟨R, 1, none⟩ b) := by
  obtain ⟨hb, h1, h2, h3, _, _, _, x, y, h8⟩ := h
  have e : ((w'.setCell ⟨R, 0, none⟩ a).setCell ⟨R, 1, none⟩ b).heap[P]? = w'.heap[P]? := (Below.heap_setCell _ ⟨R, 1, none⟩ b P hP).trans (Below.heap_setCell _ ⟨R, 0, none⟩ a P hP)
  exact copy_of (boxTwo_below hb hR a b) ((World.cell?_of_block (a := ⟨P, 0, none⟩) e).trans h1) ((World.cell?_of_block (a := ⟨P, 1, none⟩) e).trans h2) (boxTwo_set h8 a b)
theorem copy_size {w w' : World} {P R : Nat} {V1 V2 : Value} (h : CopyS w P R V1 V2 w') : R + 1 ≤ w'.heap.size := World.block_lt_of_cell? _ _ h.2.2.2.1
theorem own_ownQ_ne {w : World} {b1 b2 : Nat} {v v2 : Value} {xs : List Int} {ps : List (Int × Int)} (h1 : Own w b1 v xs) (h2 : OwnQ 45 w b2 v2 ps) : ∀ x, v.ownBlock = some x → ∀ y, v2.ownBlock = some y → x ≠ y := by
  intro x hx y hy e
  subst e
  rcases h1.2 with ⟨hv, _⟩ | ⟨g, cap, cur, hv, _, hh, _⟩
  · rw [hv] at hx; cases hx
  · rcases h2.2 with ⟨hv2, _⟩ | ⟨g2, cap2, cur2, hv2, _, hh2, _⟩
    · rw [hv2] at hy; cases hy
    · rw [hv] at hx
      rw [hv2] at hy
      have e1 : g = x := by simpa [Value.ownBlock] using hx
      have e2 : g2 = x := by simpa [Value.ownBlock] using hy
      subst e1 e2
      rw [hh] at hh2
      simp at hh2
theorem copy_end {w wz : World} {R : Nat} {v v2 : Value} {xs : List Int} {ps : List (Int × Int)} (hb : Below w.heap.size w wz) (hRw : w.heap.size ≤ R) (ho : Own wz (R + 1) v xs) (hq : OwnQ 45 wz (R + 1) v2 ps) :
    Own ((wz.setCell ⟨R, 0, none⟩ v).setCell ⟨R, 1, none⟩ v2) w.heap.size v xs ∧ OwnQ 45 ((wz.setCell ⟨R, 0, none⟩ v).setCell ⟨R, 1, none⟩ v2) w.heap.size v2 ps ∧ (∀ x, v.ownBlock = some x → ∀ y, v2.ownBlock = some y → x ≠ y) ∧ Below w.heap.size w ((wz.setCell ⟨R, 0, none⟩ v).setCell ⟨R, 1, none⟩ v2) := by
  have hx1 := ho.blockOf
  have hx2 := hq.blockOf
  have hg := boxTwo_grown wz R v v2
  exact ⟨(ho.less (by omega)).kept hg (.inr (fun e => by have := (hx1 _ e).1; omega)), (hq.less (by omega)).kept hg (.inr (fun e => by have := (hx2 _ e).1; omega)), own_ownQ_ne ho hq, boxTwo_below hb hRw _ _⟩
end Go.Proofs.Ytdbkoicbhddpfaa
