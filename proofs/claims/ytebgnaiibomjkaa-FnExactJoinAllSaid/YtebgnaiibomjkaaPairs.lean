/- Slices of structs of two ints (pairs, steps): what they read as, what the call itself made. Condition: lengths up to 1048576. -/
import Derived.Test.YtebgnaiibomjkaaBase
namespace Go.Proofs.Ytebgnaiibomjkaa
open Go.RowKit

/-- The cells of structs of two ints. -/
def qcells (ps : List (Int × Int)) : List Value := ps.flatMap fun p => [Value.int .i64 p.1, Value.int .i64 p.2]
theorem qcells_nil : qcells [] = [] := rfl
theorem qcells_cons (p : Int × Int) (ps : List (Int × Int)) : qcells (p :: ps) = Value.int .i64 p.1 :: Value.int .i64 p.2 :: qcells ps := by simp [qcells]
theorem qcells_append (ps qs : List (Int × Int)) : qcells (ps ++ qs) = qcells ps ++ qcells qs := by simp [qcells]
theorem qcells_len (ps : List (Int × Int)) : (qcells ps).length = ps.length * 2 := by
  induction ps with
  | nil => rfl
  | cons p ps ih => rw [qcells_cons, List.length_cons, List.length_cons, ih, List.length_cons]; omega
theorem qcells_get : ∀ {ps : List (Int × Int)} {k : Nat}, k < ps.length → (qcells ps)[k * 2]? = some (.int .i64 (ps[k]?.getD (0, 0)).1) ∧ (qcells ps)[k * 2 + 1]? = some (.int .i64 (ps[k]?.getD (0, 0)).2)
  | [], _, h => by simp at h
  | p :: ps, 0, _ => by rw [qcells_cons]; simp
  | p :: ps, k + 1, h => by
    have ih := qcells_get (ps := ps) (k := k) (by simpa using h)
    rw [qcells_cons, show (k + 1) * 2 = k * 2 + 1 + 1 by omega]
    simpa using ih
theorem qcells_set {ps : List (Int × Int)} {k : Nat} (h : k < ps.length) (x y : Int) : ((qcells ps).set (k * 2) (.int .i64 x)).set (k * 2 + 1) (.int .i64 y) = qcells (ps.set k (x, y)) := by
  induction ps generalizing k with
  | nil => simp at h
  | cons p ps ih =>
    cases k with
    | zero => simp [qcells_cons]
    | succ k =>
      rw [qcells_cons, List.set_cons_succ, qcells_cons, ← ih (by simpa using h), show (k + 1) * 2 = k * 2 + 1 + 1 by omega]
      simp
theorem qcells_set1 {ps : List (Int × Int)} {k : Nat} (h : k < ps.length) (x : Int) : (qcells ps).set (k * 2) (.int .i64 x) = qcells (ps.set k (x, (ps[k]?.getD (0, 0)).2)) := by
  induction ps generalizing k with
  | nil => simp at h
  | cons p ps ih =>
    cases k with
    | zero => simp [qcells_cons]
    | succ k =>
      rw [qcells_cons, List.set_cons_succ, qcells_cons, show (k + 1) * 2 = k * 2 + 1 + 1 by omega]
      simp only [List.set_cons_succ, List.getElem?_cons_succ]
      rw [ih (by simpa using h)]
theorem qcells_set2 {ps : List (Int × Int)} {k : Nat} (h : k < ps.length) (y : Int) : (qcells ps).set (k * 2 + 1) (.int .i64 y) = qcells (ps.set k ((ps[k]?.getD (0, 0)).1, y)) := by
  induction ps generalizing k with
  | nil => simp at h
  | cons p ps ih =>
    cases k with
    | zero => simp [qcells_cons]
    | succ k =>
      rw [qcells_cons, show (k + 1) * 2 + 1 = k * 2 + 1 + 1 + 1 by omega]
      simp only [List.set_cons_succ, List.getElem?_cons_succ]
      rw [ih (by simpa using h), qcells_cons]

/-- The slice value at A, of n structs of two ints, reads as ps; its block lies below B. -/
def RdQ (w : World) (B : Nat) (A : Option Addr) (n : Nat) (ps : List (Int × Int)) : Prop :=
  ps.length = n ∧ (0 < n → ∃ b off, A = some ⟨b, off, none⟩ ∧ b < B ∧ ∀ k, k < n → w.cell? ⟨b, off + k * 2, none⟩ = some (.int .i64 (ps[k]?.getD (0, 0)).1) ∧ w.cell? ⟨b, off + k * 2 + 1, none⟩ = some (.int .i64 (ps[k]?.getD (0, 0)).2))
theorem RdQ.len {w : World} {B : Nat} {A : Option Addr} {n : Nat} {ps : List (Int × Int)} (h : RdQ w B A n ps) : ps.length = n := h.1
theorem RdQ.below {w w' : World} {B C : Nat} {A : Option Addr} {n : Nat} {ps : List (Int × Int)} (h : RdQ w B A n ps) (hb : Below C w w') (hB : B ≤ C) : RdQ w' B A n ps :=
  ⟨h.1, fun hn => by
    obtain ⟨b, off, e, hlt, hc⟩ := h.2 hn
    exact ⟨b, off, e, hlt, fun k hk => ⟨(hb.cell (p := ⟨b, off + k * 2, none⟩) (by show b < C; omega)).trans (hc k hk).1, (hb.cell (p := ⟨b, off + k * 2 + 1, none⟩) (by show b < C; omega)).trans (hc k hk).2⟩⟩⟩
theorem RdQ.more {w : World} {B C : Nat} {A : Option Addr} {n : Nat} {ps : List (Int × Int)} (h : RdQ w B A n ps) (hB : B ≤ C) : RdQ w C A n ps :=
  ⟨h.1, fun hn => by
    obtain ⟨b, off, e, hlt, hc⟩ := h.2 hn
    exact ⟨b, off, e, by omega, hc⟩⟩
theorem RdQ.to {w w' : World} {A : Option Addr} {n : Nat} {ps : List (Int × Int)} (h : RdQ w w.heap.size A n ps) (hb : Below w.heap.size w w') : RdQ w' w'.heap.size A n ps := (h.below hb (Nat.le_refl _)).more hb.size
theorem RdQ.nil (w : World) (B : Nat) (A : Option Addr) : RdQ w B A 0 [] := ⟨rfl, fun h => absurd h (by omega)⟩
theorem RdQ.drewN {w : World} {B : Nat} {A : Option Addr} {m : Nat} {ps : List (Int × Int)} (h : RdQ w B A m ps) (n : Nat) : RdQ (w.drewN n) B A m ps := h
/-- Its first k structs. -/
theorem RdQ.take {w : World} {B : Nat} {A : Option Addr} {n k : Nat} {ps : List (Int × Int)} (h : RdQ w B A n ps) (hk : k ≤ n) : RdQ w B A k (ps.take k) := by
  refine ⟨by rw [List.length_take, h.1]; omega, fun hn => ?_⟩
  obtain ⟨b, off, e, hlt, hc⟩ := h.2 (by omega)
  refine ⟨b, off, e, hlt, fun j hj => ?_⟩
  rw [List.getElem?_take_of_lt hj]
  exact hc j (by omega)
/-- Those from k on. -/
theorem RdQ.drop {w : World} {B b off : Nat} {n k : Nat} {ps : List (Int × Int)} (h : RdQ w B (some ⟨b, off, none⟩) n ps) (hk : k ≤ n) : RdQ w B (some ⟨b, off + k * 2, none⟩) (n - k) (ps.drop k) := by
  refine ⟨by rw [List.length_drop, h.1], fun hn => ?_⟩
  obtain ⟨b', off', e, hlt, hc⟩ := h.2 (by omega)
  simp only [Option.some.injEq, Addr.mk.injEq, and_true] at e
  obtain ⟨rfl, rfl⟩ := e
  refine ⟨b, off + k * 2, rfl, hlt, fun j hj => ?_⟩
  have := hc (k + j) (by omega)
  rw [List.getElem?_drop, show off + k * 2 + j * 2 = off + (k + j) * 2 by omega]
  exact this

/-- The slice value v of structs of two ints is of the call's own. -/
def OwnQ (t : TypeId) (w : World) (base : Nat) (v : Value) (ps : List (Int × Int)) : Prop := w.ownsRow base t 2 v ps.length (qcells ps)
section
variable {t : TypeId} {w w' : World} {base : Nat} {v : Value} {ps : List (Int × Int)}
theorem OwnQ.form (h : OwnQ t w base v ps) : ∃ A c, v = .slice A ps.length c ∧ RdQ w w.heap.size A ps.length ps := by
  rcases h.2 with ⟨hv, hx⟩ | ⟨g, cap, cur, hv, hbase, hh, hnc, hm, hsz, hcells⟩
  · have h0 : ps = [] := by simpa using hx
    subst h0
    exact ⟨none, 0, hv, RdQ.nil _ _ _⟩
  · refine ⟨_, cap, hv, rfl, fun hn => ⟨g, 0, rfl, ?_, fun k hk => ?_⟩⟩
    · exact (World.ownsRow.lt h g (by rw [hv]; rfl)).2
    · obtain ⟨h1, h2⟩ := qcells_get hk
      have c1 := World.ownsRow.cells h (g := g) (by rw [hv]; rfl) _ _ h1
      have c2 := World.ownsRow.cells h (g := g) (by rw [hv]; rfl) _ _ h2
      rw [add_zero_at] at c1 c2
      exact ⟨c1, by rw [Nat.add_assoc]; exact c2⟩
theorem OwnQ.form2 (h : OwnQ t w base v ps) : ∃ A c, v = .slice A ps.length c ∧ RdQ w w.heap.size A ps.length ps ∧ ps.length ≤ c := by
  obtain ⟨A, c, e, hr⟩ := h.form
  refine ⟨A, c, e, hr, ?_⟩
  rcases h.2 with ⟨hv, hx⟩ | ⟨g, cap, cur, hv, hbase, hh, hnc, _⟩
  · rw [hx]; omega
  · rw [hv] at e
    injection e with _ _ e3
    omega
theorem OwnQ.rd {n c : Nat} {A : Option Addr} (h : OwnQ t w base (.slice A n c) ps) : RdQ w w.heap.size A n ps := by
  obtain ⟨A', c', e, hr⟩ := h.form
  injection e with e1 e2 e3
  subst e1 e2
  exact hr
theorem OwnQ.drewN (h : OwnQ t w base v ps) (n : Nat) : OwnQ t (w.drewN n) base v ps := h
theorem OwnQ.keep {C : Nat} (h : OwnQ t w base v ps) (hb : Below C w w') (hC : w.heap.size ≤ C) : OwnQ t w' base v ps :=
  World.ownsRow.kept (row := none) h ⟨hb.os, hb.tape, hb.output, hb.size, fun k hk _ => hb.block k (by omega)⟩ (by
    cases hv : v.ownBlock with
    | none => exact .inl rfl
    | some k => exact .inr (by simp))
theorem OwnQ.less {base' : Nat} (h : OwnQ t w base v ps) (hb : base' ≤ base) : OwnQ t w base' v ps := by
  refine ⟨h.1, ?_⟩
  rcases h.2 with h0 | ⟨g, cap, cur, hv, hbase, hr⟩
  · exact .inl h0
  · exact .inr ⟨g, cap, cur, hv, by omega, hr⟩
theorem OwnQ.kept {row : Option Nat} (h : OwnQ t w base v ps) (hg : w.grownBy w' row) (hne : v.ownBlock = none ∨ v.ownBlock ≠ row) : OwnQ t w' base v ps := World.ownsRow.kept h hg hne
theorem OwnQ.blockOf (h : OwnQ t w base v ps) : ∀ k, v.ownBlock = some k → base ≤ k ∧ k < w.heap.size := World.ownsRow.lt h
theorem OwnQ.alloc (h : OwnQ t w base v ps) (o : Obj) : OwnQ t (w.alloc o) base v ps := World.ownsRow.alloc h o
theorem OwnQ.nil (t : TypeId) (w : World) (base : Nat) : OwnQ t w base (.slice none 0 0) [] := World.ownsRow_nil _ _ _ _
variable {g n c : Nat}
theorem OwnQ.len (h : OwnQ t w base (.slice (some ⟨g, 0, none⟩) n c) ps) : ps.length = n := by
  rcases h.2 with ⟨hv, _⟩ | ⟨_, _, _, hv, _⟩
  · simp at hv
  · simp at hv; omega
theorem OwnQ.slot (h : OwnQ t w base (.slice (some ⟨g, 0, none⟩) n c) ps) {k : Nat} (hk : k < n) : w.cell? ⟨g, k * 2, none⟩ = some (.int .i64 (ps[k]?.getD (0, 0)).1) ∧ w.cell? ⟨g, k * 2 + 1, none⟩ = some (.int .i64 (ps[k]?.getD (0, 0)).2) := by
  have hl := h.len
  obtain ⟨h1, h2⟩ := qcells_get (ps := ps) (k := k) (by omega)
  unfold OwnQ at h
  rw [hl] at h
  exact ⟨by rw [World.ownsRow.cellAt h _ (by omega), h1], by rw [World.ownsRow.cellAt h _ (by omega), h2]⟩
theorem OwnQ.free (h : OwnQ t w base (.slice (some ⟨g, 0, none⟩) n c) ps) (k : Nat) : w.frozen? ⟨g, k, none⟩ = false := by
  have hl := h.len
  unfold OwnQ at h
  rw [hl] at h
  exact World.ownsRow.frozenAt h k
theorem OwnQ.set_ (h : OwnQ t w base (.slice (some ⟨g, 0, none⟩) n c) ps) {k : Nat} (hk : k < n) (x y : Int) : OwnQ t ((w.setCell ⟨g, k * 2, none⟩ (.int .i64 x)).setCell ⟨g, k * 2 + 1, none⟩ (.int .i64 y)) base (.slice (some ⟨g, 0, none⟩) n c) (ps.set k (x, y)) := by
  have hl := h.len
  unfold OwnQ at h ⊢
  rw [hl] at h
  rw [List.length_set, hl, ← qcells_set (by omega)]
  exact (World.ownsRow.stored (World.ownsRow.stored h (k * 2) (.int .i64 x)).1 (k * 2 + 1) (.int .i64 y)).1
theorem OwnQ.set1 (h : OwnQ t w base (.slice (some ⟨g, 0, none⟩) n c) ps) {k : Nat} (hk : k < n) (x : Int) : OwnQ t (w.setCell ⟨g, k * 2, none⟩ (.int .i64 x)) base (.slice (some ⟨g, 0, none⟩) n c) (ps.set k (x, (ps[k]?.getD (0, 0)).2)) := by
  have hl := h.len
  unfold OwnQ at h ⊢
  rw [hl] at h
  rw [List.length_set, hl, ← qcells_set1 (by omega)]
  exact (World.ownsRow.stored h (k * 2) (.int .i64 x)).1
theorem OwnQ.set2 (h : OwnQ t w base (.slice (some ⟨g, 0, none⟩) n c) ps) {k : Nat} (hk : k < n) (y : Int) : OwnQ t (w.setCell ⟨g, k * 2 + 1, none⟩ (.int .i64 y)) base (.slice (some ⟨g, 0, none⟩) n c) (ps.set k ((ps[k]?.getD (0, 0)).1, y)) := by
  have hl := h.len
  unfold OwnQ at h ⊢
  rw [hl] at h
  rw [List.length_set, hl, ← qcells_set2 (by omega)]
  exact (World.ownsRow.stored h (k * 2 + 1) (.int .i64 y)).1
theorem OwnQ.at_base (h : OwnQ t w base (.slice (some ⟨g, 0, none⟩) n c) ps) : base ≤ g ∧ g < w.heap.size := World.ownsRow.lt h g rfl
theorem OwnQ.row {R : Nat} (h : OwnQ t w base v ps) (hg : w.grownBy w' (some R)) (hR : R < base) : OwnQ t w' base v ps := h.kept hg (by
  cases hv : v.ownBlock with
  | none => exact .inl rfl
  | some k =>
    refine .inr fun e => ?_
    injection e with e
    have := (h.blockOf k hv).1
    omega)
end
theorem set_stepQ {xs ys : List (Int × Int)} {k n : Nat} (hl : xs.length = n) (hk : k < n) (hy : ys.length = n) : (xs.take k ++ ys.drop k).set k (xs[k]?.getD (0, 0)) = xs.take (k + 1) ++ ys.drop (k + 1) := by
  have hx : k < xs.length := by omega
  have ht : xs.take (k + 1) = xs.take k ++ [xs[k]] := List.take_succ_eq_append_getElem hx
  have h1 : k - (xs.take k).length = 0 := by simp; omega
  rw [List.set_append_right _ _ (List.length_take_le _ _), h1, List.drop_eq_getElem_cons (by omega : k < ys.length), List.set_cons_zero, ht, List.append_assoc, List.getElem?_eq_getElem hx]
  rfl
theorem mixQ_len {xs ys : List (Int × Int)} {k n : Nat} (hl : xs.length = n) (hk : k ≤ n) (hy : ys.length = n) : (xs.take k ++ ys.drop k).length = n := by
  rw [List.length_append, List.length_take, List.length_drop]; omega
theorem made_qcells (n : Nat) : (madeCells #[Value.int .i64 0, Value.int .i64 0] (n * 2)).toList = qcells (List.replicate n (0, 0)) := by
  refine List.ext_getElem? fun j => ?_
  by_cases hj : j < n * 2
  · obtain ⟨k, hk⟩ : ∃ k, j = k * 2 ∨ j = k * 2 + 1 := ⟨j / 2, by omega⟩
    have hkn : k < n := by omega
    obtain ⟨h1, h2⟩ := qcells_get (ps := List.replicate n (0, 0)) (k := k) (by simpa using hkn)
    rcases hk with rfl | rfl
    · rw [h1]
      simp [madeCells, hj, hkn]
    · rw [h2]
      simp [madeCells, hj, hkn, show (k * 2 + 1) % 2 = 1 by omega]
  · rw [List.getElem?_eq_none (by simp [madeCells]; omega), List.getElem?_eq_none (by rw [qcells_len]; simp; omega)]
theorem OwnQ.made {t : TypeId} {w : World} {base n : Nat} {v : Value} (h : w.ownsRow base t 2 v n (madeCells #[Value.int .i64 0, Value.int .i64 0] (n * 2)).toList) : OwnQ t w base v (List.replicate n (0, 0)) := by
  rw [made_qcells] at h
  unfold OwnQ
  rwa [List.length_replicate]

theorem Try.info_pair : (Try.prog.info? 42).map (fun i => (i.zero, i.size, i.bytes)) = some (some (.agg #[.int .i64 0, .int .i64 0]), 2, 16) := by kernel_rfl
/-- 's = append(s, p)' of one pair. -/
theorem wpList_pushQ {ops : Array Oper} {rest : List Oper} {o : Oper} {a : Act} {Q : Exit → Act → World → Prop} (hgd : o.guard = none) (s x : Operand)
    (ho : o.op = .call { callee := .builtin .append, args := #[s, x], argTypes := #[37, 37] }) (w : World) (base : Nat) (v : Value) (ps : List (Int × Int)) (x1 x2 : Int)
    (hs : a.eval s = v) (hx : a.eval x = .slice (some ⟨w.heap.size, 0, none⟩) 1 1) (hown : OwnQ 42 w base v ps) (hlen : ps.length ≤ 1048576) (hbase : base ≤ w.heap.size)
    (h : ∀ v' w', OwnQ 42 w' base v' (ps ++ [(x1, x2)]) → w.grownBy w' v.ownBlock → (v'.ownBlock = v.ownBlock ∨ ∃ g, v'.ownBlock = some g ∧ w.heap.size ≤ g) → wpList Try.prog ops Q rest (a.put o.dst v') w') :
    wpList Try.prog ops Q (o :: rest) a (w.alloc (.cells #[.int .i64 x1, .int .i64 x2] 42)) := by
  obtain ⟨i0, hi, hz0, hz1, hz2⟩ := info_parts Try.info_pair
  refine wpList_plain hgd fun _ hK => ?_
  have hnew : ∀ j u, [Value.int .i64 x1, Value.int .i64 x2][j]? = some u → (w.alloc (.cells #[.int .i64 x1, .int .i64 x2] 42)).cell? ((⟨w.heap.size, 0, none⟩ : Addr).add j) = some u := by
    intro j u hu
    rw [add_zero_at, Nat.zero_add]
    have h0 := heap_alloc_new w (.cells #[.int .i64 x1, .int .i64 x2] 42)
    unfold World.cell?
    rw [h0]
    rcases (show j = 0 ∨ j = 1 ∨ 2 ≤ j by omega) with rfl | rfl | hj
    · simpa using hu
    · simpa using hu
    · rw [List.getElem?_eq_none (by simpa using hj)] at hu; cases hu
  obtain ⟨v', w', hrun, h2, h3, _, h5⟩ := run_append_own_at (P := Try.prog) (w.alloc (.cells #[.int .i64 x1, .int .i64 x2] 42)) base 37 o.type 42 i0 (.agg #[.int .i64 0, .int .i64 0]) 2 16 Try.underlying37 hi hz0 hz1 hz2 rfl (by decide) v ps.length (qcells ps) (World.ownsRow.alloc hown _) ⟨w.heap.size, 0, none⟩ 1 1 [.int .i64 x1, .int .i64 x2] rfl hnew (by simp [Value.oneCell']) (by unfold maxLen; omega) (by omega) (by simp; omega)
  unfold Oper.wp execOp
  simp only [ho, resolve, invoke, builtin, Sem.run_bind, Sem.run_pure, Result.andThen_ok, List.map_toArray, List.map_cons, List.map_nil, hs, hx, hrun]
  refine hK _ _ (h v' w' (by unfold OwnQ; rw [qcells_append]; simpa [qcells_cons, qcells_nil] using h2) (grown_then (World.grownBy_alloc w _ none) h3) ?_)
  rcases h5 with h5 | h5
  · exact .inl h5
  · exact .inr ⟨_, h5, by simp⟩
theorem boxTwo_cells {W : World} {b : Nat} {x y : Value} {t : TypeId} (h : W.heap[b]? = some (.cells #[x, y] t (0, 0))) : (W.cell? ⟨b, 0, none⟩ = some x ∧ W.cell? ⟨b, 1, none⟩ = some y) ∧ W.frozen? ⟨b, 0, none⟩ = false ∧ W.frozen? ⟨b, 1, none⟩ = false := by
  refine ⟨⟨?_, ?_⟩, ?_, ?_⟩
  · simp [World.cell?, h]
  · simp [World.cell?, h]
  · simp [World.frozen?, h]
  · simp [World.frozen?, h]
end Go.Proofs.Ytebgnaiibomjkaa
