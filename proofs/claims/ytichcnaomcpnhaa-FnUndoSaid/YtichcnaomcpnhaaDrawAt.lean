/- What holds of a drawn log while it is changed. Condition: none. -/
import Derived.Test.YtichcnaomcpnhaaDraw11
import Derived.Test.YtichcnaomcpnhaaSpecLogOf
import Derived.Test.YtichcnaomcpnhaaLogParts
import Derived.Deep.RegionHeld3
import Derived.Deep.RegionLaw
namespace Go.Proofs.Ytichcnaomcpnhaa
open Go.RowKit Go.Shelf

/-- Appending one step, within a region that draws. -/
theorem step_pushSt {ops : Array Oper} {o : Oper} {a : Act} {K : Act → World → Prop} {Q : Exit → Act → World → Prop} {E : Prop} (hgd : o.guard = none) (s x : Operand)
    (ho : o.op = .call { callee := .builtin .append, args := #[s, x], argTypes := #[24, 24] }) (w W : World) (base : Nat) (v : Value) (ps : List (Int × Int)) (x1 x2 : Int) (hW : W = w.alloc (.cells #[.int .i64 x1, .int .i64 x2] 68))
    (hs : a.eval s = v) (hx : a.eval x = .slice (some ⟨w.heap.size, 0, none⟩) 1 1) (hown : OwnQ 68 w base v ps) (hlen : ps.length ≤ 1048576) (hbase : base ≤ w.heap.size)
    (h : ∀ v' w', OwnQ 68 w' base v' (ps ++ [(x1, x2)]) → w.grownBy w' v.ownBlock → (v'.ownBlock = v.ownBlock ∨ ∃ g, v'.ownBlock = some g ∧ w.heap.size ≤ g) → K (a.put o.dst v') w') :
    if Region.wanted o (yielded ops a.tmps) = true then Oper.wp Try.prog o a W K Q else E := by
  obtain ⟨i0, hi, hz0, hz1, hz2⟩ := info_parts Try.info_step
  have hwd : Region.wanted o (yielded ops a.tmps) = true := by simp [Region.wanted, hgd]
  rw [if_pos hwd, hW]
  have hnew : ∀ j u, [Value.int .i64 x1, Value.int .i64 x2][j]? = some u → (w.alloc (.cells #[.int .i64 x1, .int .i64 x2] 68)).cell? ((⟨w.heap.size, 0, none⟩ : Addr).add j) = some u := by
    intro j u hu
    rw [add_zero_at, Nat.zero_add]
    have h0 := heap_alloc_new w (.cells #[.int .i64 x1, .int .i64 x2] 68)
    unfold World.cell?
    rw [h0]
    rcases (show j = 0 ∨ j = 1 ∨ 2 ≤ j by omega) with rfl | rfl | hj
    · simpa using hu
    · simpa using hu
    · rw [List.getElem?_eq_none (by simpa using hj)] at hu; cases hu
  obtain ⟨v', w', hrun, h2, h3, _, h5⟩ := run_append_own_at (P := Try.prog) (w.alloc (.cells #[.int .i64 x1, .int .i64 x2] 68)) base 24 o.type 68 i0 (.agg #[.int .i64 0, .int .i64 0]) 2 16 Try.underlying24 hi hz0 hz1 hz2 rfl (by decide) v ps.length (qcells ps) (World.ownsRow.alloc hown _) ⟨w.heap.size, 0, none⟩ 1 1 [.int .i64 x1, .int .i64 x2] rfl hnew (by simp [Value.oneCell']) (by unfold maxLen; omega) (by omega) (by simp; omega)
  unfold Oper.wp
  simp [execOp, ho, resolve, invoke, builtin, hs, hx, hrun, Result.andThen]
  refine h v' w' (by unfold OwnQ; rw [qcells_append]; simpa [qcells_cons, qcells_nil] using h2) (grown_then (World.grownBy_alloc w _ none) h3) ?_
  rcases h5 with h5 | h5
  · exact .inl h5
  · exact .inr ⟨_, h5, by simp⟩

/-- What holds of a drawn log v, v2 in box X, while the source is in R and the result in Z. -/
structure LogAtX (w V : World) (R X Z : Nat) (v v2 : Value) (xs : List Int) (ss : List (Int × Int)) (p : Nat) : Prop where
  gr : w.grownBy V (some R)
  src : Src V R p
  box : V.heap[X]? = some (.cells #[v, v2] 26 (0, 0))
  own : Own V (Z + 1) v xs
  ownq : OwnQ 68 V (Z + 1) v2 ss
  ox : ∀ x, v.ownBlock = some x → x ≠ X
  qx : ∀ x, v2.ownBlock = some x → x ≠ X
  res : V.heap[Z]? = some (.cells #[.slice none 0 0, .slice none 0 0] 26 (0, 0))
  zx : Z < X
  rz : R < Z
  wz : w.heap.size = Z
section
variable {w V V' : World} {R X Z p : Nat} {v v2 : Value} {xs : List Int} {ss : List (Int × Int)}
theorem LogAtX.xlt (h : LogAtX w V R X Z v v2 xs ss p) : X < V.heap.size := (Array.getElem?_eq_some_iff.1 h.box).1
theorem LogAtX.big (h : LogAtX w V R X Z v v2 xs ss p) : Z + 1 ≤ V.heap.size := by
  have := h.xlt
  have := h.zx
  omega
theorem LogAtX.next (h : LogAtX w V R X Z v v2 xs ss p) (hb : Below (Z + 1) V V') {v' v2' : Value} {xs' : List Int} {ss' : List (Int × Int)} (hbox : V'.heap[X]? = some (.cells #[v', v2'] 26 (0, 0)))
    (ho : Own V' (Z + 1) v' xs') (hq : OwnQ 68 V' (Z + 1) v2' ss') (hox : ∀ x, v'.ownBlock = some x → x ≠ X) (hqx : ∀ x, v2'.ownBlock = some x → x ≠ X) : LogAtX w V' R X Z v' v2' xs' ss' p :=
  ⟨grown_below h.gr (hb.mono (by have := h.wz; omega)), h.src.below hb (by have := h.rz; omega), hbox, ho, hq, hox, hqx, (hb.block Z (by omega)).trans h.res, h.zx, h.rz, h.wz⟩
theorem LogAtX.grown (h : LogAtX w V R X Z v v2 xs ss p) (hg : V.grownBy V' (some R)) {q : Nat} (hs : Src V' R q) : LogAtX w V' R X Z v v2 xs ss q := by
  have h1 := h.rz
  have h2 := h.zx
  have h3 := h.big
  have hne : ∀ k, R < k → some k ≠ some R := fun k hk e => by injection e with e; omega
  exact ⟨grown_trans2 h.gr hg, hs, (hg.block X h.xlt (fun e => by injection e with e; omega)).trans h.box, h.own.row hg (by omega), h.ownq.row hg (by omega), h.ox, h.qx, (hg.block Z (by omega) (fun e => by injection e with e; omega)).trans h.res, h2, h1, h.wz⟩
theorem LogAtX.below (h : LogAtX w V R X Z v v2 xs ss p) (hb : Below V.heap.size V V') : LogAtX w V' R X Z v v2 xs ss p :=
  h.grown (grown_of_below R hb) (h.src.below hb h.src.lt)
theorem LogAtX.drew (h : LogAtX w V R X Z v v2 xs ss p) : LogAtX w V.drew R X Z v v2 xs ss p := h.below ⟨rfl, rfl, rfl, Nat.le_refl _, fun _ _ => rfl⟩
theorem LogAtX.alloc (h : LogAtX w V R X Z v v2 xs ss p) (o : Obj) : LogAtX w (V.alloc o) R X Z v v2 xs ss p :=
  h.below ((Below.refl _ _).alloc (Nat.le_refl _) o)
theorem LogAtX.c0 (h : LogAtX w V R X Z v v2 xs ss p) : V.cell? ⟨X, 0, none⟩ = some v := (boxTwo_cells h.box).1.1
theorem LogAtX.c1 (h : LogAtX w V R X Z v v2 xs ss p) : V.cell? ⟨X, 1, none⟩ = some v2 := (boxTwo_cells h.box).1.2
theorem LogAtX.set0 {g n c : Nat} (h : LogAtX w V R X Z (.slice (some ⟨g, 0, none⟩) n c) v2 xs ss p) (k : Nat) (z : Int) : LogAtX w (V.setCell ⟨g, k, none⟩ (.int .i64 z)) R X Z (.slice (some ⟨g, 0, none⟩) n c) v2 (xs.set k z) ss p := by
  have hg : V.grownBy (V.setCell ⟨g, k, none⟩ (.int .i64 z)) (some g) := grown_set (World.grownBy.refl _ _) _
  have hge := h.own.at_base
  refine h.next (below_row hg h.big (fun r e => by injection e with e; omega)) ?_ (h.own.set_ k z) (h.ownq.kept hg ?_) h.ox h.qx
  · exact (hg.block X h.xlt (fun e => by injection e with e; exact h.ox g rfl e.symm)).trans h.box
  · cases hb : v2.ownBlock with
    | none => exact .inl rfl
    | some y => exact .inr (fun e => by injection e with e; exact own_ownQ_ne h.own h.ownq g rfl y hb e.symm)
theorem LogAtX.box0 (h : LogAtX w V R X Z v v2 xs ss p) {v' : Value} {xs' : List Int} (ho : Own V (Z + 1) v' xs') (hx : ∀ x, v'.ownBlock = some x → x ≠ X) : LogAtX w (V.setCell ⟨X, 0, none⟩ v') R X Z v' v2 xs' ss p := by
  have hg : V.grownBy (V.setCell ⟨X, 0, none⟩ v') (some X) := grown_set (World.grownBy.refl _ _) _
  have hne : ∀ {v : Value}, (∀ x, v.ownBlock = some x → x ≠ X) → v.ownBlock = none ∨ v.ownBlock ≠ some X := fun {v} hv => by
    cases hb : v.ownBlock with
    | none => exact .inl rfl
    | some y => exact .inr (fun e => by injection e with e; exact hv y hb e)
  exact h.next (below_row hg h.big (fun r e => by injection e with e; have := h.zx; omega)) (modify_at _ h.box) (ho.kept hg (hne hx)) (h.ownq.kept hg (hne h.qx)) hx h.qx
theorem LogAtX.box1 (h : LogAtX w V R X Z v v2 xs ss p) {v' : Value} {ss' : List (Int × Int)} (ho : OwnQ 68 V (Z + 1) v' ss') (hx : ∀ x, v'.ownBlock = some x → x ≠ X) : LogAtX w (V.setCell ⟨X, 1, none⟩ v') R X Z v v' xs ss' p := by
  have hg : V.grownBy (V.setCell ⟨X, 1, none⟩ v') (some X) := grown_set (World.grownBy.refl _ _) _
  have hne : ∀ {v : Value}, (∀ x, v.ownBlock = some x → x ≠ X) → v.ownBlock = none ∨ v.ownBlock ≠ some X := fun {v} hv => by
    cases hb : v.ownBlock with
    | none => exact .inl rfl
    | some y => exact .inr (fun e => by injection e with e; exact hv y hb e)
  exact h.next (below_row hg h.big (fun r e => by injection e with e; have := h.zx; omega)) (modify_at _ h.box) (h.own.kept hg (hne h.ox)) (ho.kept hg (hne hx)) h.ox hx
/-- The log is stored in the result. -/
theorem LogAtX.ret (h : LogAtX w V R X Z v v2 xs ss p) : Own ((V.setCell ⟨Z, 0, none⟩ v).setCell ⟨Z, 1, none⟩ v2) Z v xs ∧ OwnQ 68 ((V.setCell ⟨Z, 0, none⟩ v).setCell ⟨Z, 1, none⟩ v2) Z v2 ss ∧ Src ((V.setCell ⟨Z, 0, none⟩ v).setCell ⟨Z, 1, none⟩ v2) R p ∧ w.grownBy ((V.setCell ⟨Z, 0, none⟩ v).setCell ⟨Z, 1, none⟩ v2) (some R) ∧ ((V.setCell ⟨Z, 0, none⟩ v).setCell ⟨Z, 1, none⟩ v2).heap[Z]? = some (.cells #[v, v2] 26 (0, 0)) := by
  have hg := boxTwo_grown V Z v v2
  have hb : Below Z V ((V.setCell ⟨Z, 0, none⟩ v).setCell ⟨Z, 1, none⟩ v2) := below_row hg (by have := h.big; omega) (fun r e => by injection e with e; omega)
  refine ⟨(h.own.row hg (by omega)).less (by omega), (h.ownq.row hg (by omega)).less (by omega), h.src.below hb h.rz, ?_, boxTwo_set h.res _ _⟩
  exact grown_below h.gr (hb.mono (by have := h.wz; omega))
/-- Behind an append to the steps the box is as it was. -/
theorem LogAtX.pushedBox (h : LogAtX w V R X Z v v2 xs ss p) (hg : V.grownBy V' v2.ownBlock) : V'.heap[X]? = some (.cells #[v, v2] 26 (0, 0)) ∧ V'.heap[Z]? = some (.cells #[.slice none 0 0, .slice none 0 0] 26 (0, 0)) :=
  ⟨(hg.block X h.xlt (fun e => h.qx X e.symm rfl)).trans h.box, (hg.block Z (by have := h.big; omega) (fun e => by have := (h.ownq.blockOf Z e.symm).1; omega)).trans h.res⟩
/-- Behind an append to the steps, stored. -/
theorem LogAtX.pushed (h : LogAtX w V R X Z v v2 xs ss p) {v' : Value} {ss' : List (Int × Int)} (hq : OwnQ 68 V' (Z + 1) v' ss') (hg : V.grownBy V' v2.ownBlock) (hv : v'.ownBlock = v2.ownBlock ∨ ∃ g, v'.ownBlock = some g ∧ V.heap.size ≤ g) : LogAtX w (V'.setCell ⟨X, 1, none⟩ v') R X Z v v' xs ss' p := by
  have hne : ∀ {v : Value}, (∀ x, v.ownBlock = some x → x ≠ X) → v.ownBlock = none ∨ v.ownBlock ≠ some X := fun {v} hv => by
    cases hb : v.ownBlock with
    | none => exact .inl rfl
    | some y => exact .inr (fun e => by injection e with e; exact hv y hb e)
  have hx' : ∀ x, v'.ownBlock = some x → x ≠ X := fun x hx => by
    rcases hv with hv | ⟨g, hv, hge⟩
    · exact h.qx x (hv ▸ hx)
    · have := h.xlt
      have e : g = x := by
        rw [hv] at hx
        injection hx
      omega
  have hbl : Below (Z + 1) V V' := below_row hg h.big (fun r e => (h.ownq.blockOf r e).1)
  have ho : Own V' (Z + 1) v xs := h.own.kept hg (by
    cases hb : v.ownBlock with
    | none => exact .inl rfl
    | some y => exact .inr (fun e => own_ownQ_ne h.own h.ownq y hb y e.symm rfl))
  have hg2 : V'.grownBy (V'.setCell ⟨X, 1, none⟩ v') (some X) := grown_set (World.grownBy.refl _ _) _
  have hsz := hbl.size
  have hb2 : Below (Z + 1) V' (V'.setCell ⟨X, 1, none⟩ v') := below_row hg2 (by have := h.big; omega) (fun r e => by injection e with e; have := h.zx; omega)
  exact h.next (hbl.trans hb2) (modify_at _ (h.pushedBox hg).1) (ho.kept hg2 (hne h.ox)) (hq.kept hg2 (hne hx')) h.ox hx'
theorem pick_at (h : LogAtX w V R X Z v v2 xs ss p) (hp : p ≤ 100000) (n : Int) :
    Calls Try.prog 79 #[.pointer (some ⟨R, 0, none⟩), .int .i64 n] V fun e w' => (∃ x : Nat, e = .returned (.int .i64 (x : Int)) ∧ (1 ≤ n → (x : Int) < n)) ∧ LogAtX w w' R X Z v v2 xs ss (p + 1) ∧ V.grownBy w' (some R) := by
  refine (pick_any R p n V h.src hp).mono ?_
  rintro e w' ⟨h1, h2, h3⟩
  exact ⟨h1, h.grown h3 h2, h3⟩
theorem num_at (h : LogAtX w V R X Z v v2 xs ss p) (hp : p ≤ 100000) {u : Value} {zs : List Int} (ho : Own V (Z + 1) u zs) (h1 : 1 ≤ zs.length) (h2 : zs.length ≤ 100) :
    Calls Try.prog 75 #[.pointer (some ⟨R, 0, none⟩), u] V fun e w' => (∃ j, j < zs.length ∧ e = .returned (.int .i64 (zs[j]?.getD 0))) ∧ LogAtX w w' R X Z v v2 xs ss (p + 1) ∧ V.grownBy w' (some R) := by
  refine (num_any R p (Z + 1) u zs V h.src hp ho (by have := h.rz; omega) h1 h2).mono ?_
  rintro e w' ⟨h1, h2, h3⟩
  exact ⟨h1, h.grown h3 h2, h3⟩
theorem own_lit3 {w : World} {base : Nat} (a b c : Int) (hb : base ≤ w.heap.size) : Own (w.alloc (.cells #[.int .i64 a, .int .i64 b, .int .i64 c] 3)) base (.slice (some ⟨w.heap.size, 0, none⟩) 3 3) [a, b, c] := by
  simpa using Own.lit w base [a, b, c] hb (by simp)
theorem own_empty {w : World} {base : Nat} (hb : base ≤ w.heap.size) : Own (w.alloc (.cells #[] 3)) base (.slice (some ⟨w.heap.size, 0, none⟩) 0 0) [] := by
  simpa using Own.lit w base [] hb (by simp)
end
end Go.Proofs.Ytichcnaomcpnhaa
