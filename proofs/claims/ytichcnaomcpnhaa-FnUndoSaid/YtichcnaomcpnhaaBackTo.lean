/- Going back in a history: all later steps are undone, the last one first. Condition: lengths up to 1048576. -/
import Derived.Test.YtichcnaomcpnhaaHistOf
import Derived.Defers
import Derived.Test.YtichcnaomcpnhaaSpecCopy
namespace Go.Proofs.Ytichcnaomcpnhaa
open Go.RowKit Go.Shelf

/-- A node's link is taken away. -/
theorem Nd.unhang {W : World} {N : Nat} {u : List Int} (h : Nd W N u) {p : Nat} (hp : p < u.length) : Nd (W.setCell ⟨N, p * 2 + 1, none⟩ (.pointer none)) N (Go.Proofs.Ytichcnaomcpnhaa.hang u p p) := by
  obtain ⟨cur, hb, hc⟩ := h
  refine ⟨_, heap_set W N _ _ hb, fun x hx => ?_⟩
  rw [hang_len] at hx ⊢
  obtain ⟨h1, h2⟩ := hc x hx
  have hlt : p * 2 + 1 < cur.size := (Array.getElem?_eq_some_iff.1 (hc p hp).2).1
  rw [if_pos hx] at h1 h2 ⊢
  rw [if_pos hx]
  refine ⟨?_, ?_⟩
  · rw [Array.getElem?_setIfInBounds, if_neg (by omega), h1]
  · rw [Array.getElem?_setIfInBounds]
    by_cases e : x = p
    · subst e
      rw [if_pos rfl, if_pos hlt]
      have hs : step (Go.Proofs.Ytichcnaomcpnhaa.hang u x x) x = none := by
        unfold step Go.Proofs.Ytichcnaomcpnhaa.hang
        rw [List.getElem?_set_self hp, Option.getD_some, if_pos rfl]
      rw [hs]
      rfl
    · rw [if_neg (by omega), hang_step e, h2]
theorem hang_back {u : List Int} {x y : Nat} (T : Two u x y) : hang (hang u x y) x x = u := by
  unfold hang
  rw [List.set_set]
  exact hang_self T.hp T.rp
theorem Und.tell {w : World} {base M n : Nat} {ds : List (Int × Int × Value)} {u : List Int} {sz ht : Nat → Nat} (h : Und w base M n ds u sz ht) : RootsTell u sz ht := by
  induction h with
  | nil => exact RootsTell.all _
  | snoc _ T _ ih => exact ih.hang T
theorem Und.inv {w : World} {base M n : Nat} {es : List (Int × Int × Value)} {u : List Int} {sz ht : Nat → Nat} (h : Und w base M n es u sz ht) : ∀ {ds : List (Int × Int × Value)} {d : Int × Int × Value}, es = ds ++ [d] →
    ∃ u0 sz0 ht0, ∃ x y : Nat, ∃ F, d = ((x : Int), (y : Int), F) ∧ Und w base M n ds u0 sz0 ht0 ∧ Two u0 x y ∧ Undoer w base M x y (sz0 y) (ht0 y) F ∧ u = hang u0 x y ∧ sz = (fun z => if z = y then sz0 y + sz0 x else sz0 z) ∧ ht = (fun z => if z = y then max (ht0 y) (ht0 x + 1) else ht0 z) := by
  cases h with
  | nil => intro ds d e; exact absurd e.symm (by simp)
  | snoc h T hU =>
    intro ds d e
    obtain ⟨e1, e2⟩ := List.append_inj' e rfl
    injection e2 with e2 _
    subst e1
    exact ⟨_, _, _, _, _, _, e2.symm, h, T, hU, rfl, rfl, rfl⟩
/-- The forest is the one that the steps make. -/
theorem Und.built {w : World} {base M n : Nat} {ds : List (Int × Int × Value)} {u : List Int} {sz ht : Nat → Nat} (h : Und w base M n ds u sz ht) : ∀ {v : List Int}, builtL (roots n) (stepsOf ds) = some v → u = v := by
  induction h with
  | nil => intro v e; injection e
  | snoc h T hU ih =>
    rename_i ds u sz ht x y F
    intro v e
    have e1 : stepsOf (ds ++ [((x : Int), (y : Int), F)]) = stepsOf ds ++ [((x : Int), (y : Int))] := by simp [stepsOf]
    rw [e1, builtL_append] at e
    cases hb : builtL (roots n) (stepsOf ds) with
    | none => rw [hb] at e; cases e
    | some u1 =>
      have hu := ih hb
      subst hu
      rw [hb] at e
      change builtL u [((x : Int), (y : Int))] = some v at e
      rw [builtL_cons] at e
      split at e
      · change some _ = some v at e
        injection e
      · cases e
/-- The function value of each step. -/
theorem Und.fn {w : World} {base M n : Nat} {ds : List (Int × Int × Value)} {u : List Int} {sz ht : Nat → Nat} (h : Und w base M n ds u sz ht) : ∀ k, k < ds.length → ∃ K4 K6 K5 : Nat, (ds[k]?.getD (0, 0, .nilFunc)).2.2 = .func (.func 93) #[] #[.pointer (some ⟨K4, 0, none⟩), .pointer (some ⟨K6, 0, none⟩), .pointer (some ⟨K5, 0, none⟩)] := by
  induction h with
  | nil => intro k hk; simp at hk
  | snoc h T hU ih =>
    intro k hk
    rename_i ds u sz ht x y F
    rw [List.length_append, List.length_singleton] at hk
    by_cases e : k < ds.length
    · rw [List.getElem?_append_left e]
      exact ih k e
    · rw [List.getElem?_append_right (by omega), show k - ds.length = 0 by omega]
      obtain ⟨K4, K6, K5, hF, _⟩ := hU
      exact ⟨K4, K6, K5, hF⟩
set_option maxRecDepth 100000 in
set_option maxHeartbeats 8000000 in
theorem undo_any (M N n x y s t : Nat) (sz ht : Nat → Nat) (u : List Int) (K4 K6 K5 : Nat) (md : FrameMode) (w : World) (hm : MemK w M N n n sz ht) (hN : Nd w N u) (hn : u.length = n) (hx : x < n) (hy : y < n) (hNM : N < M) (hK : M < K4 ∧ M < K6 ∧ M < K5)
    (b4 : Boxed w K4 81 (.pointer (some ⟨M, x * 3, none⟩))) (b6 : w.heap[K6]? = some (.cells #[.int .i64 (s : Int), .int .i64 (t : Int)] 97 (0, 0))) (b5 : Boxed w K5 81 (.pointer (some ⟨M, y * 3, none⟩))) :
    CallsD Try.prog 93 #[.pointer (some ⟨K4, 0, none⟩), .pointer (some ⟨K6, 0, none⟩), .pointer (some ⟨K5, 0, none⟩)] md w fun e md' w' => md' = md ∧ ((∃ v, e = .returned v) ∧ Nd w' N (hang u x x) ∧ MemK w' M N n n (fun z => if z = y then s else sz z) (fun z => if z = y then t else ht z) ∧ Chg (fun i => i = N ∨ i = M) w w') := by
  obtain ⟨⟨c1, _, _⟩, _⟩ := hm.cells hx
  rw [if_pos hx] at c1
  obtain ⟨_, c3, f3⟩ := hN.cells (x := x) (by omega)
  have c4 := b4.cell
  have HN1 := hN.unhang (p := x) (by omega)
  have HM1 := hm.other (B := N) (by omega) (x * 2 + 1) (.pointer none)
  unfold nadr at c1
  obtain ⟨V, hV⟩ : ∃ V, V = w.setCell ⟨N, x * 2 + 1, none⟩ (.pointer none) := ⟨_, rfl⟩
  rw [← hV] at HN1 HM1
  have hC1 : Chg (fun b => b = N ∨ b = M) w V := by rw [hV]; exact (Chg.refl _ w).set (B := N) (.inl (.inl rfl)) _ _
  have h6 : V.heap[K6]? = some (.cells #[.int .i64 (s : Int), .int .i64 (t : Int)] 97 (0, 0)) := by rw [hV]; exact (Below.heap_setCell w ⟨N, x * 2 + 1, none⟩ _ K6 (by show K6 ≠ N; omega)).trans b6
  have h5 : Boxed V K5 81 (.pointer (some ⟨M, y * 3, none⟩)) := by rw [hV]; exact (Below.heap_setCell w ⟨N, x * 2 + 1, none⟩ _ K5 (by show K5 ≠ N; omega)).trans b5
  obtain ⟨⟨d1, d2⟩, _⟩ := boxTwo_cells h6
  have d3 := h5.cell
  obtain ⟨⟨_, d4, d5⟩, _, g1, g2⟩ := HM1.cells hy
  have g2 : V.frozen? ⟨M, y * 3 + 1 + 1, none⟩ = false := g2
  have d5 : V.cell? ⟨M, y * 3 + 1 + 1, none⟩ = some (.int .i64 (ht y : Int)) := d5
  have HE := Lib.hid (And.intro HN1 (And.intro HM1 (And.intro hC1 (And.intro hy hNM))))
  have HV := Lib.hid hV
  clear hm hN hn hNM hK b4 b6 b5 HN1 HM1 hC1 h6 h5 hV
  go_enter_d Try.func93, Try.ntmps93
  go_upto_region 1 with fail
  rw [← HV.out]
  go_wp2
  go_end0
  obtain ⟨HN1, HM1, hC1, hy, hNM⟩ := HE.out
  refine ⟨⟨_, rfl⟩, ?_, ?_, ?_⟩
  · exact (HN1.eq (Below.heap_setCell V ⟨M, y * 3 + 1, none⟩ _ N (by show N ≠ M; omega))).eq (Below.heap_setCell _ ⟨M, y * 3 + 1 + 1, none⟩ _ N (by show N ≠ M; omega))
  · exact (HM1.size hy s).height hy t
  · exact (hC1.set (B := M) (.inl (.inr rfl)) _ _).set (B := M) (.inl (.inr rfl)) _ _
end Go.Proofs.Ytichcnaomcpnhaa

namespace Go.Proofs.Ytichcnaomcpnhaa
open Go.RowKit Go.Shelf

/-- The deferred call of a function value. -/
def dfr : Value → Deferred
  | .func fn first cap => { target := .fn fn cap, args := first }
  | _ => { target := .nil, args := #[] }
def dfrs (es : List (Int × Int × Value)) : List Deferred := (es.map fun d => dfr d.2.2).reverse
theorem dfrs_snoc (es : List (Int × Int × Value)) (d : Int × Int × Value) : dfrs (es ++ [d]) = dfr d.2.2 :: dfrs es := by simp [dfrs]
/-- From base on, all blocks of w0 are as they were. -/
def Frz (w0 w : World) (base : Nat) : Prop := w0.heap.size ≤ w.heap.size ∧ ∀ k, base ≤ k → k < w0.heap.size → w.heap[k]? = w0.heap[k]?
theorem Frz.refl (w : World) (base : Nat) : Frz w w base := ⟨Nat.le_refl _, fun _ _ _ => rfl⟩
theorem Frz.chg {S : Nat → Prop} {w0 w w' : World} {base : Nat} (h : Frz w0 w base) (hc : Chg S w w') (hS : ∀ i, S i → i < base) : Frz w0 w' base :=
  ⟨Nat.le_trans h.1 hc.size, fun k hk hl => (hc.block k (Nat.lt_of_lt_of_le hl h.1) (fun hs => by have := hS k hs; omega)).trans (h.2 k hk hl)⟩
theorem OwnD.frz {w0 w : World} {base : Nat} {v : Value} {ds : List (Int × Int × Value)} (h : OwnD w0 base v ds) (hf : Frz w0 w base) : OwnD w base v ds := by
  refine ⟨h.1, ?_⟩
  rcases h.2 with h0 | ⟨g, cap, cur, hv, hbase, hg, hr⟩
  · exact .inl h0
  · exact .inr ⟨g, cap, cur, hv, hbase, (hf.2 g hbase (Array.getElem?_eq_some_iff.1 hg).1).trans hg, hr⟩
theorem Und.frz {w0 w : World} {base M n : Nat} {ds : List (Int × Int × Value)} {u : List Int} {sz ht : Nat → Nat} (h : Und w0 base M n ds u sz ht) (hf : Frz w0 w base) : Und w base M n ds u sz ht :=
  h.kinds fun K hK hl _ => hf.2 K hK hl
set_option maxHeartbeats 4000000 in
theorem leaves_undo {fn : Func} {tmps : Array Value} {R : Ending → World → Prop} (H J M N n base : Nat) (D : Value) (w0 : World) (hB : H < base) :
    ∀ (k : Nat) (es pre : List (Int × Int × Value)) (u : List Int) (sz ht : Nat → Nat) (w : World), es.length = k → Frz w0 w base → HistSt w H J M N n sz ht u D → Und w0 base M n (pre ++ es) u sz ht →
      (∀ w' u' sz' ht', HistSt w' H J M N n sz' ht' u' D → Und w0 base M n pre u' sz' ht' → Chg (fun i => i = N ∨ i = M) w w' → ∃ v, (results fn tmps).run Try.prog w' = .ok v w' ∧ R (.returned v) w') →
      Leaves Try.prog fn tmps R (dfrs es) .returning w
  | 0, es, pre, u, sz, ht, w, hk, hf, hS, hU, h => by
    have : es = [] := List.eq_nil_of_length_eq_zero hk
    subst this
    rw [List.append_nil] at hU
    exact h w u sz ht hS hU (Chg.refl _ _)
  | k + 1, es, pre, u, sz, ht, w, hk, hf, hS, hU, h => by
    obtain ⟨es', d, rfl⟩ : ∃ es' d, es = es' ++ [d] := ⟨es.dropLast, es.getLast (by intro e; rw [e] at hk; cases hk), (List.dropLast_concat_getLast _).symm⟩
    rw [List.length_append, List.length_singleton] at hk
    rw [← List.append_assoc] at hU
    obtain ⟨u0, sz0, ht0, x, y, F, hd, hU0, T, ⟨K4, K6, K5, hF, b4, b6, b5, l4, l6, l5⟩, hu, hs, hh⟩ := hU.inv rfl
    have b4 : Boxed w K4 81 (.pointer (some ⟨M, x * 3, none⟩)) := (hf.2 K4 l4 b4.lt).trans b4
    have b5 : Boxed w K5 81 (.pointer (some ⟨M, y * 3, none⟩)) := (hf.2 K5 l5 b5.lt).trans b5
    have b6 := (hf.2 K6 l6 (Array.getElem?_eq_some_iff.1 b6).1).trans b6
    have o1 := hS.o1
    have o2 := hS.o2
    have o3 := hS.o3
    have hlen := hS.len
    have hul : u.length = u0.length := by rw [hu, hang_len]
    have hlt := hS.lt
    have hp := T.hp
    have hq := T.hq
    have UA := undo_any M N n x y (sz0 y) (ht0 y) sz ht u K4 K6 K5 .returning w hS.mem hS.nd hlen (by omega) (by omega) o1 ⟨by omega, by omega, by omega⟩ b4 b6 b5
    rw [dfrs_snoc, hd, hF]
    change Leaves Try.prog fn tmps R ({ target := .fn (.func 93) #[.pointer (some ⟨K4, 0, none⟩), .pointer (some ⟨K6, 0, none⟩), .pointer (some ⟨K5, 0, none⟩)], args := #[] } :: dfrs es') .returning w
    refine leaves_cons (f := 93) (args := #[.pointer (some ⟨K4, 0, none⟩), .pointer (some ⟨K6, 0, none⟩), .pointer (some ⟨K5, 0, none⟩)]) (by simp) (by simp [go_sem]) ?_
    refine UA.mono ?_
    rintro e m' w1 ⟨rfl, ⟨v, rfl⟩, hN, hM, hC⟩
    have hS1 : HistSt w1 H J M N n sz0 ht0 u0 D := by
      refine ⟨(hC.block H hlt (by omega)).trans hS.at_, hM.congr (fun z _ => ?_) (fun z _ => ?_), (hC.block J (by omega) (by omega)).trans hS.box, ?_, o1, o2, o3, T.fv, by omega, hU0.tell⟩
      · rw [hs]
        by_cases e : z = y
        · simp [e]
        · simp [e]
      · rw [hh]
        by_cases e : z = y
        · simp [e]
        · simp [e]
      · rw [hu, hang_back T] at hN
        exact hN
    exact leaves_undo H J M N n base D w0 hB k es' pre u0 sz0 ht0 w1 (by omega) (hf.chg hC (fun i hi => by omega)) hS1 hU0 (fun w' u' sz' ht' a b c => h w' u' sz' ht' a b (hC.trans c))
theorem ownsRow_take {w : World} {base : Nat} {t : TypeId} {size g n c k : Nat} {xs : List Value} (h : w.ownsRow base t size (.slice (some ⟨g, 0, none⟩) n c) n xs) (hk : k ≤ n) : w.ownsRow base t size (.slice (some ⟨g, 0, none⟩) k c) k (xs.take (k * size)) := by
  obtain ⟨h1, h2⟩ := h
  refine ⟨by rw [List.length_take, h1]; exact Nat.min_eq_left (Nat.mul_le_mul_right size hk), ?_⟩
  rcases h2 with ⟨hv, _⟩ | ⟨g', cap, cur, hv, hb, hh, hn, hc, hs, ht⟩
  · cases hv
  · injection hv with e1 e2 e3
    injection e1 with e1
    injection e1 with e1
    subst e1 e3
    refine .inr ⟨g, c, cur, rfl, hb, hh, by omega, hc, hs, ?_⟩
    rw [← ht, List.take_take, Nat.min_eq_left (Nat.mul_le_mul_right size hk)]
theorem dcells_take (ds : List (Int × Int × Value)) (k : Nat) : (dcells ds).take (k * 3) = dcells (ds.take k) := by
  induction ds generalizing k with
  | nil => simp [dcells]
  | cons d ds ih =>
    cases k with
    | zero => simp [dcells]
    | succ k =>
      have e : dcells (d :: ds) = Value.int .i64 d.1 :: Value.int .i64 d.2.1 :: d.2.2 :: dcells ds := by simp [dcells]
      have e2 : dcells ((d :: ds).take (k + 1)) = Value.int .i64 d.1 :: Value.int .i64 d.2.1 :: d.2.2 :: dcells (ds.take k) := by simp [dcells]
      rw [e, e2, show (k + 1) * 3 = k * 3 + 3 by omega, List.take_succ_cons, List.take_succ_cons, List.take_succ_cons, ih]
/-- Its slices from k on, and up to k. -/
theorem OwnD.slices {w : World} {base : Nat} {D : Value} {ds : List (Int × Int × Value)} (h : OwnD w base D ds) {k : Nat} (hk : k ≤ ds.length) :
    ∃ (SA : Option Addr) (sc : Nat) (D' : Value), (∀ w, (Instr.slice 83 D (some (.int .i64 (k : Int))) none none).run Try.prog w = .ok (.slice SA (ds.length - k) sc) w) ∧
      (∀ w, (Instr.slice 83 D none (some (.int .i64 (k : Int))) none).run Try.prog w = .ok D' w) ∧ OwnD w base D' (ds.take k) ∧ D'.ownBlock = D.ownBlock ∧
      ∀ j, j < ds.length - k → ∃ g off, SA = some ⟨g, off, none⟩ ∧ g < w.heap.size ∧ w.cell? ⟨g, off + j * 3, none⟩ = some (.int .i64 (ds[k + j]?.getD (0, 0, .nilFunc)).1) ∧ w.cell? ⟨g, off + j * 3 + 1, none⟩ = some (.int .i64 (ds[k + j]?.getD (0, 0, .nilFunc)).2.1) ∧ w.cell? ⟨g, off + j * 3 + 1 + 1, none⟩ = some (ds[k + j]?.getD (0, 0, .nilFunc)).2.2 := by
  have hsz : ∀ w, (sizeOf 115).run Try.prog w = .ok 3 w := fun w => by simp [sizeOf, go_sem]; rfl
  rcases OwnD.cells h with ⟨rfl, rfl⟩ | ⟨g, c, rfl, hc, hcm, hcells⟩
  · obtain rfl : k = 0 := by simpa using hk
    refine ⟨none, 0, .slice none 0 0, fun w => ?_, fun w => ?_, by simpa using h, rfl, fun j hj => by simp at hj⟩
    · simp [go_sem, hsz]
    · simp [go_sem, hsz]
  · by_cases e : c = k
    · subst e
      have e0 : ds.length = c := by omega
      refine ⟨some ⟨g, 0, none⟩, 0, .slice (some ⟨g, 0, none⟩) c c, fun w => ?_, fun w => ?_, ?_, rfl, fun j hj => by omega⟩
      · simp [go_sem, hsz, e0]
      · simp [go_sem, hsz, e0]
      · have := ownsRow_take (k := c) h (by omega)
        rw [dcells_take] at this
        unfold OwnD
        rw [List.length_take, Nat.min_eq_left (by omega)]
        exact this
    · refine ⟨some ⟨g, k * 3, none⟩, c - k, .slice (some ⟨g, 0, none⟩) k c, fun w => ?_, fun w => ?_, ?_, rfl, fun j hj => ⟨g, k * 3, rfl, ?_, ?_⟩⟩
      · simp [go_sem, hsz, e, hk]
      · simp [go_sem, hsz]
        omega
      · have := ownsRow_take (k := k) h hk
        rw [dcells_take] at this
        unfold OwnD
        rw [List.length_take, Nat.min_eq_left hk]
        exact this
      · exact (World.ownsRow.lt h g rfl).2
      · obtain ⟨q1, q2, q3⟩ := hcells (k + j) (by omega)
        rw [show k * 3 + j * 3 = (k + j) * 3 by omega]
        exact ⟨q1, q2, q3⟩
set_option maxRecDepth 100000 in
set_option maxHeartbeats 8000000 in
theorem backTo_any (H J M N n left : Nat) (sz ht : Nat → Nat) (u : List Int) (D : Value) (ds : List (Int × Int × Value)) (base : Nat) (w0 w : World) (hf : Frz w0 w base) (h : HistSt w H J M N n sz ht u D) (hD0 : OwnD w0 base D ds) (hB : H < base) (hl : ds.length ≤ 1000) (hU0 : Und w0 base M n ds u sz ht) (hle : left ≤ ds.length) :
    Calls Try.prog 80 #[.pointer (some ⟨H, 0, none⟩), .int .i64 (left : Int)] w fun e w' =>
      (∃ v, e = .returned v) ∧ ∃ sz' ht' u' D', HistSt w' H J M N n sz' ht' u' D' ∧ OwnD w0 base D' (ds.take left) ∧ Und w0 base M n (ds.take left) u' sz' ht' ∧ Chg (fun i => i = N ∨ i = M ∨ i = H) w w' := by
  have hD := hD0.frz hf
  have hU := hU0.frz hf
  obtain ⟨SA, sc, D', hs1, hs2, hD', hDb, hcl⟩ := hD.slices hle
  have hD0' : OwnD w0 base D' (ds.take left) := by
    obtain ⟨_, _, D2, _, hs2', hD2, _⟩ := hD0.slices hle
    have e := (hs2 w).symm.trans (hs2' w)
    injection e with e _
    rw [e]
    exact hD2
  obtain ⟨m, hm⟩ : ∃ m, m = ds.length - left := ⟨_, rfl⟩
  rw [← hm] at hs1 hcl
  obtain ⟨⟨_, a1⟩, _, f1⟩ := boxTwo_cells h.at_
  have hfn := hU.fn
  have HH := Lib.hid (And.intro h (And.intro hD' (And.intro hU (And.intro hB (And.intro hle hm)))))
  have H0 := Lib.hid (And.intro hf (And.intro hD0' hU0))
  have HC := Lib.hid hcl
  have HFN := Lib.hid hfn
  have hm1 : m ≤ 1000 := by omega
  have hltH := h.lt
  clear h hD hB hl hU hle hDb hcl hfn hm hf hD0' hU0 hD0
  go_enter_defers Try.func80, Try.ntmps80
  go_wp2_with fail
  refine wp_loop (fun a' wr => ∃ u5 u14 u15 u16 u17 u18 u19 : Value, ∃ k : Nat, (k ≤ m ∧ Below w.heap.size w wr) ∧ a' = { tmps := #[.pointer (some ⟨H, 0, none⟩), .int .i64 (left : Int), undef, undef, undef, u5, .pointer (some ⟨H, 0, none⟩), .pointer (some ⟨H, 0, none⟩), .pointer (some ⟨H, 1, none⟩), D, .int .i64 (left : Int), .slice SA m sc, .int .i64 (m : Int), .int .i64 (k : Int), u14, u15, u16, u17, u18, u19, undef, undef, undef, undef, undef, undef, undef, undef, undef], defers := dfrs ((ds.drop left).take k) }) (fun a' _ => m - (intOf (a'.tmps.getD 13 undef)).toNat) ⟨_, _, _, _, _, _, _, 0, ⟨Nat.zero_le _, Below.refl _ _⟩, rfl⟩ ?_
  intro a' wr hI
  obtain ⟨u5, hI⟩ := hI
  obtain ⟨u14, hI⟩ := hI
  obtain ⟨u15, hI⟩ := hI
  obtain ⟨u16, hI⟩ := hI
  obtain ⟨u17, hI⟩ := hI
  obtain ⟨u18, hI⟩ := hI
  obtain ⟨u19, hI⟩ := hI
  obtain ⟨k, ⟨hkm, hbr⟩, ha⟩ := hI
  subst ha
  dsimp only
  by_cases hlt : k < m
  · have hkk : (k : Int) < (m : Int) := by omega
    obtain ⟨g, off, rfl, hg, g1, g2, g3⟩ := HC.out k hlt
    have g1 := (hbr.cell (p := ⟨g, off + k * 3, none⟩) hg).trans g1
    have g2 := (hbr.cell (p := ⟨g, off + k * 3 + 1, none⟩) hg).trans g2
    have g3 := (hbr.cell (p := ⟨g, off + k * 3 + 1 + 1, none⟩) hg).trans g3
    obtain ⟨K4, K6, K5, hF⟩ := HFN.out (left + k) (by have := HH.out.2.2.2.2; omega)
    have HT : Hid (dfrs ((ds.drop left).take (k + 1)) = { target := .fn (.func 93) #[.pointer (some ⟨K4, 0, none⟩), .pointer (some ⟨K6, 0, none⟩), .pointer (some ⟨K5, 0, none⟩)], args := #[] } :: dfrs ((ds.drop left).take k)) := by
      have e := take_snoc (ps := ds.drop left) (k := k) (by rw [List.length_drop]; have := HH.out.2.2.2.2; omega) ((0 : Int), (0 : Int), Value.nilFunc)
      show _ = _
      rw [e, dfrs_snoc, List.getElem?_drop, hF]
      rfl
    rw [hF] at g3
    obtain ⟨x1, hx1⟩ : ∃ x, x = (ds[left + k]?.getD (0, 0, .nilFunc)).1 := ⟨_, rfl⟩
    obtain ⟨x2, hx2⟩ : ∃ x, x = (ds[left + k]?.getD (0, 0, .nilFunc)).2.1 := ⟨_, rfl⟩
    rw [← hx1] at g1
    rw [← hx2] at g2
    have HB := Lib.hid hbr
    clear hF hx1 hx2 hbr hs1 hs2
    go_wp2
    rw [← HT.out]
    refine ⟨⟨_, _, _, _, _, _, _, k + 1, ⟨by omega, HB.out.alloc HB.out.size _⟩, rfl⟩, ?_⟩
    show m - ((k : Int) + 1).toNat < m - ((k : Int)).toNat
    omega
  · obtain rfl : k = m := by omega
    have e1 : wr.cell? ⟨H, 1, none⟩ = some D := (hbr.cell (p := ⟨H, 1, none⟩) hltH).trans a1
    have hHr := (hbr.block H hltH).trans HH.out.1.at_
    obtain ⟨_, _, e2⟩ := boxTwo_cells hHr
    have HB := Lib.hid (And.intro hbr hHr)
    clear hbr hHr
    obtain ⟨A9, n9, c9, rfl⟩ := HH.out.2.1.form
    go_wp2
    obtain ⟨h, hD', hU, hB, hle, hm⟩ := HH.out
    obtain ⟨hbr, hHr⟩ := HB.out
    have o1 := h.o1
    have o2 := h.o2
    have o3 := h.o3
    obtain ⟨W5, hW5⟩ : ∃ W5, W5 = wr.setCell ⟨H, 1, none⟩ (.slice A9 n9 c9) := ⟨_, rfl⟩
    have hc5 : Chg (fun i => i = H) w W5 := by rw [hW5]; exact Chg.set (S := fun i => i = H) (Chg.of_below hbr) (B := H) (.inl rfl) _ _
    have hS5 : HistSt W5 H J M N n sz ht u (.slice A9 n9 c9) := by
      refine ⟨?_, h.mem.eq (hc5.block M (by omega) (by omega)), (hc5.block J (by omega) (by omega)).trans h.box, h.nd.eq (hc5.block N (by omega) (by omega)), o1, o2, o3, h.fv, h.len, h.tell⟩
      rw [hW5]
      exact boxTwo_second hHr _
    obtain ⟨hf, hD0', hU0⟩ := H0.out
    rw [← hW5]
    have et : (ds.drop left).take k = ds.drop left := List.take_of_length_le (by rw [List.length_drop]; omega)
    rw [et]
    refine leaves_undo H J M N n base _ w0 hB (ds.drop left).length (ds.drop left) (ds.take left) u sz ht W5 rfl (hf.chg hc5 (fun i hi => by omega)) hS5 (by rw [List.take_append_drop]; exact hU0) ?_
    intro w' u' sz' ht' hS' hU' hc'
    refine ⟨_, results_none rfl _ _ _, ⟨_, rfl⟩, sz', ht', u', _, hS', hD0', hU', ?_⟩
    exact (hc5.weak (fun i hi => .inr (.inr hi))).trans (hc'.weak (fun i hi => by
      rcases hi with e | e
      · exact .inl e
      · exact .inr (.inl e)))
end Go.Proofs.Ytichcnaomcpnhaa

namespace Go.Proofs.Ytichcnaomcpnhaa
open Go.RowKit Go.Shelf

/-- BackTo's answer. -/
def bkB (xs : List Int) (ss : List (Int × Int)) (k : Int) : Bool := logV xs ss && decide (0 ≤ k ∧ k ≤ (ss.length : Int))
def bkUp (xs : List Int) (ss : List (Int × Int)) (k : Int) : List Int := if bkB xs ss k = true then (builtL (roots xs.length) (ss.take k.toNat)).getD [] else []
def bkSt (xs : List Int) (ss : List (Int × Int)) (k : Int) : List (Int × Int) := if bkB xs ss k = true then ss.take k.toNat else []
theorem bk_none {xs : List Int} {ss : List (Int × Int)} {k : Int} (h : bkB xs ss k = false) : bkUp xs ss k = [] ∧ bkSt xs ss k = [] := by
  unfold bkUp bkSt
  rw [h]
  exact ⟨rfl, rfl⟩
theorem bk_take {xs : List Int} {ss : List (Int × Int)} (h : logV xs ss = true) {k : Nat} (_hk : k ≤ ss.length) : ∃ u, builtL (roots xs.length) (ss.take k) = some u ∧ u.length = xs.length ∧ fvB u = true ∧ logV u (ss.take k) = true := by
  obtain ⟨h1, h2, _⟩ := logV_parts h
  have e := h2
  rw [← List.take_append_drop k ss, builtL_append] at e
  cases hb : builtL (roots xs.length) (ss.take k) with
  | none => rw [hb] at e; cases e
  | some u =>
    obtain ⟨q1, q2⟩ := built_fv (roots_fv h1.1 h1.2) hb
    rw [roots_len] at q2
    exact ⟨u, rfl, q2, q1, logV_of (by rw [q2]; exact h1) (by rw [q2]; exact hb)⟩
theorem bk_yes {xs : List Int} {ss : List (Int × Int)} (h : logV xs ss = true) {k : Nat} (hk : k ≤ ss.length) {u : List Int} (hu : builtL (roots xs.length) (ss.take k) = some u) : bkB xs ss (k : Int) = true ∧ bkUp xs ss (k : Int) = u ∧ bkSt xs ss (k : Int) = ss.take k := by
  have hb : bkB xs ss (k : Int) = true := by
    unfold bkB
    rw [h, decide_eq_true (by omega)]
    rfl
  refine ⟨hb, ?_, ?_⟩
  · unfold bkUp
    rw [if_pos hb, Int.toNat_natCast, hu]
    rfl
  · unfold bkSt
    rw [if_pos hb, Int.toNat_natCast]
/-- One step back. -/
theorem bk_one {xs : List Int} {ss : List (Int × Int)} (h : logV xs ss = true) {k : Nat} (hk : ss.length = k + 1) {u : List Int} (hu : builtL (roots xs.length) (ss.take k) = some u) :
    (0 ≤ (ss[k]?.getD (0, 0)).1 ∧ (ss[k]?.getD (0, 0)).1 < (xs.length : Int)) ∧ xs.set (ss[k]?.getD (0, 0)).1.toNat (ss[k]?.getD (0, 0)).1 = u := by
  obtain ⟨h1, h2, _⟩ := logV_parts h
  have e1 := take_snoc (ps := ss) (k := k) (by omega) (0, 0)
  rw [List.take_of_length_le (by omega)] at e1
  rw [e1, builtL_snoc _ hu] at h2
  obtain ⟨q1, q2⟩ := built_fv (roots_fv h1.1 h1.2) hu
  rw [roots_len] at q2
  split at h2
  · rename_i hok
    injection h2 with h2
    obtain ⟨p1, _, _, p4, _, _⟩ := okStep_parts hok
    rw [q2] at p1
    refine ⟨p1, ?_⟩
    rw [← h2, List.set_set]
    refine List.ext_getElem? fun j => ?_
    by_cases e : j = (ss[k]?.getD (0, 0)).1.toNat
    · subst e
      rw [List.getElem?_set_self (by omega)]
      have hl : (ss[k]?.getD (0, 0)).1.toNat < u.length := by omega
      rw [List.getElem?_eq_getElem hl] at p4 ⊢
      rw [Option.getD_some] at p4
      rw [p4]
    · rw [List.getElem?_set_ne (fun e' => e e'.symm)]
  · cases h2
end Go.Proofs.Ytichcnaomcpnhaa

namespace Go.Proofs.Ytichcnaomcpnhaa
open Go.RowKit Go.Shelf

set_option maxRecDepth 100000 in
set_option maxHeartbeats 8000000 in
theorem implBack_any (A1 A2 : Option Addr) (n c1 m c2 B0 : Nat) (k : Int) (xs : List Int) (ss : List (Int × Int)) (w : World) (h1 : Rd w B0 A1 n xs) (h2 : RdQ w B0 A2 m ss) (hB0 : B0 ≤ w.heap.size) (hb1 : n ≤ 1048576) (hb2 : m ≤ 1048576) :
    Calls Try.prog 41 #[.agg #[.slice A1 n c1, .slice A2 m c2], .int .i64 k] w fun e w' => ∃ v v2, e = .returned (.tuple #[.agg #[v, v2], .bool (bkB xs ss k)]) ∧ Own w' w.heap.size v (bkUp xs ss k) ∧ OwnQ 68 w' w.heap.size v2 (bkSt xs ss k) ∧ (∀ x, v.ownBlock = some x → ∀ y, v2.ownBlock = some y → x ≠ y) ∧ Below w.heap.size w w' := by
  obtain ⟨W1, hW1⟩ : ∃ W1, W1 = w.alloc (.cells #[.slice A1 n c1, .slice A2 m c2] 26) := ⟨_, rfl⟩
  obtain ⟨W, hW⟩ : ∃ W, W = W1.alloc (.cells #[.slice none 0 0, .slice none 0 0] 26) := ⟨_, rfl⟩
  have e1 : W1.heap.size = w.heap.size + 1 := by rw [hW1]; simp
  have eW : W.heap.size = w.heap.size + 2 := by rw [hW]; simp [e1]
  have hA : W1.heap[w.heap.size]? = some (.cells #[.slice A1 n c1, .slice A2 m c2] 26 (0, 0)) := by rw [hW1]; exact World.alloc_heap_new w _
  have hAW : W.heap[w.heap.size]? = some (.cells #[.slice A1 n c1, .slice A2 m c2] 26 (0, 0)) := by rw [hW]; exact (Below.heap_alloc _ _ _ (by omega)).trans hA
  have hRW : W.heap[w.heap.size + 1]? = some (.cells #[.slice none 0 0, .slice none 0 0] 26 (0, 0)) := by rw [hW, ← e1]; exact World.alloc_heap_new W1 _
  have hbW : Below w.heap.size w W := by rw [hW, hW1]; exact ((Below.refl _ _).alloc (Nat.le_refl _) _).alloc (by simp) _
  have hl := h1.1
  have hlm := h2.1
  have TE := historyOf_any A1 A2 n c1 m c2 B0 xs ss W (h1.below hbW hB0) (h2.below hbW hB0) (Nat.le_trans hB0 hbW.size) hb1 hb2
  obtain ⟨P, hP⟩ : ∃ P, P = w.heap.size := ⟨_, rfl⟩
  obtain ⟨R, hR⟩ : ∃ R, R = w.heap.size + 1 := ⟨_, rfl⟩
  rw [← hP] at hAW
  rw [← hR] at hRW
  obtain ⟨k1, k2⟩ := (boxTwo_cells hAW).1
  have HW := Lib.hid (And.intro hW (And.intro hW1 (And.intro hP hR)))
  have HF := Lib.hid (And.intro hbW (And.intro hAW (And.intro hRW eW)))
  -- no log comes back
  have NO : Hid (∀ wz, Below W.heap.size W wz → wz.heap[R]? = some (.cells #[.slice none 0 0, .slice none 0 0] 26 (0, 0)) ∧ Below w.heap.size w wz) := fun wz hz => ⟨(hz.block R (by omega)).trans hRW, Below.on hbW hz⟩
  cases hv : logV xs ss with
  | false =>
    have hno : bkB xs ss k = false := by unfold bkB; rw [hv]; rfl
    obtain ⟨g1, g2⟩ := bk_none hno
    rw [hno, g1, g2]
    have HVL := Lib.hid hv
    have TE := Lib.hid TE
    clear h1 h2 hB0 hb1 hb2 hW1 hW e1 eW hA hAW hRW hbW hl hlm hP hR hv hno g1 g2
    go_enter Try.func41, Try.ntmps41
    go_wp2_with fail
    rw [← HW.out.2.1, ← HW.out.1, ← HW.out.2.2.2, ← HW.out.2.2.1]
    refine TE.out.mono ?_
    rintro e w1 ⟨hb, ⟨_, rfl⟩ | ⟨hv, _⟩⟩
    · obtain ⟨hRz, hbw⟩ := NO.out w1 hb
      obtain ⟨⟨r1, r2⟩, f1, f2⟩ := boxTwo_cells hRz
      have HZ := Lib.hid (And.intro hRz hbw)
      clear hb hRz hbw
      go_wp2_with fail
      obtain ⟨⟨k1, k2⟩, _⟩ := boxTwo_cells (boxTwo_set HZ.out.1 (.slice none 0 0) (.slice none 0 0))
      refine bodyPost_ret (v := .tuple #[.agg #[.slice none 0 0, .slice none 0 0], .bool false]) (by simp [results, Try.results41, go_sem, k1, k2]) rfl ?_
      exact ⟨_, _, rfl, World.ownsRow_nil _ _ _ _, OwnQ.nil _ _ _, (fun x e => by cases e), boxTwo_below HZ.out.2 (by have := HW.out.2.2.2; omega) _ _⟩
    · rw [HVL.out] at hv
      cases hv
  | true =>
    by_cases hk : 0 ≤ k ∧ k ≤ (m : Int)
    · obtain ⟨k, rfl⟩ : ∃ x : Nat, k = x := ⟨k.toNat, by omega⟩
      have hkm : k ≤ ss.length := by omega
      obtain ⟨u, hu, -⟩ := bk_take hv hkm
      obtain ⟨g0, g1, g2⟩ := bk_yes hv hkm hu
      rw [g0, g1, g2]
      obtain ⟨⟨p1, p16⟩, hbu, _⟩ := logV_parts hv
      have hsh := built_short p1 p16 hbu
      have HU := Lib.hid (And.intro hu (And.intro hkm (And.intro hsh (And.intro hl hlm))))
      have HVL := Lib.hid hv
      have TE := Lib.hid TE
      have hk0 : ¬ ((k : Int) < 0) := by omega
      have hk1 : ¬ ((k : Int) > (m : Int)) := by omega
      clear h1 h2 hB0 hb1 hb2 hW1 hW e1 eW hA hAW hRW hbW hl hlm hP hR hv hk hkm hu g0 g1 g2 p1 p16 hbu hsh
      go_enter Try.func41, Try.ntmps41
      go_wp2_with fail
      rw [← HW.out.2.1, ← HW.out.1, ← HW.out.2.2.2, ← HW.out.2.2.1]
      refine TE.out.mono ?_
      rintro e w1 ⟨hb, ⟨hv, _⟩ | ⟨_, H, J, M, N, rfl, hwN, sz, ht, D, ds, hS, hD, hst, hfn, hUd⟩⟩
      · rw [HVL.out] at hv
        cases hv
      have hdl : ds.length = ss.length := by have := stepsOf_len ds; rw [hst] at this; exact this.symm
      have hD0 := hD
      obtain ⟨DA, dn, dc, rfl⟩ := hD0.form
      have hdn : dn = ds.length := by
        rcases hD.2 with ⟨hv, hx⟩ | ⟨g, cap, cur, hv, _⟩
        · injection hv with _ e _
          omega
        · injection hv
      have hdm : dn = m := by have := HU.out.2.2.2.2; omega
      subst hdm
      have BT := Lib.hid (backTo_any H J M N n k sz ht xs _ ds (H + 1) w1 w1 (Frz.refl _ _) hS hD (by omega) (by have := HU.out.2.2.1; omega) hUd (by have := HU.out.2.1; omega))
      obtain ⟨⟨a1, a2⟩, _⟩ := boxTwo_cells hS.at_
      have hnn := hS.o1
      have hnn2 := hS.o2
      have hnn3 := hS.o3
      have HB := Lib.hid (And.intro hb (And.intro hfn (And.intro hst (And.intro hdl (And.intro (show W.heap.size ≤ N ∧ W.heap.size ≤ M ∧ W.heap.size ≤ H by omega) hS.len)))))
      clear hb hfn hst hdl hdn hS hD hUd hwN hnn hnn2 hnn3 TE
      go_wp2_with fail
      refine BT.out.mono ?_
      rintro e w2 ⟨⟨v, rfl⟩, sz', ht', u', D', hS', hD', hU', hc2⟩
      have hst' : stepsOf (ds.take k) = ss.take k := by
        rw [← HB.out.2.2.1]
        simp [stepsOf, List.map_take]
      have hlen := HU.out.2.2.2.1
      have hue : u' = u := hU'.built (by rw [hst', ← HU.out.1, hlen])
      subst hue
      have hb2 : Below W.heap.size W w2 := HB.out.1.trans (hc2.below HB.out.1.size (fun i hi => by have := HB.out.2.2.2.2.1; omega))
      have hfn' : Fns (ds.take k) := fun j hj => by
        rw [List.length_take] at hj
        rw [List.getElem?_take_of_lt (by omega)]
        exact HB.out.2.1 j (by omega)
      have LG := log_any H J M N n sz' ht' _ D' (ds.take k) (H + 1) w2 hS' (hD'.chg hc2 (fun i hi => by have := hS'.o1; have := hS'.o2; have := hS'.o3; omega)) hfn' (by rw [List.length_take]; have := HU.out.2.2.1; have := HB.out.2.2.2.1; omega)
      rw [hst'] at LG
      have LG := Lib.hid LG
      have HB2 := Lib.hid hb2
      clear hst' hlen hS' hD' hU' hc2 hb2 hfn' BT a1 a2
      go_wp2_with fail
      refine LG.out.mono ?_
      rintro e w4 ⟨v4, v5, rfl, ho, hq, hne, hb4⟩
      have hb4' := Below.on HB2.out hb4
      obtain ⟨hRz, hbw⟩ := NO.out w4 hb4'
      obtain ⟨⟨r1, r2⟩, f1, f2⟩ := boxTwo_cells hRz
      obtain ⟨A4, d4, e4, -⟩ := ho.form
      obtain ⟨A5, d5, e5, -⟩ := hq.form
      generalize u'.length = n4 at e4
      generalize (ss.take k).length = n5 at e5
      subst e4 e5
      have HZ := Lib.hid (And.intro hRz (And.intro hbw (And.intro ho (And.intro hq (And.intro hne (HB2.out.size))))))
      clear hb4 hb4' hRz hbw ho hq hne
      go_wp2_with fail
      obtain ⟨hRz, hbw, ho, hq, hne, hsz⟩ := HZ.out
      have hRw : R < W.heap.size := by have := HF.out.2.2.2; have := HW.out.2.2.2; omega
      obtain ⟨q1, q2, q3, q4⟩ := copy_end hbw (show w.heap.size ≤ R by have := HW.out.2.2.2; omega) (ho.less (show R + 1 ≤ w2.heap.size by omega)) (hq.less (show R + 1 ≤ w2.heap.size by omega))
      obtain ⟨⟨k1, k2⟩, _⟩ := boxTwo_cells (boxTwo_set hRz (.slice A4 n4 d4) (.slice A5 n5 d5))
      refine bodyPost_ret (v := .tuple #[.agg #[.slice A4 n4 d4, .slice A5 n5 d5], .bool true]) (by simp [results, Try.results41, go_sem, k1, k2]) rfl ?_
      exact ⟨_, _, rfl, q1, q2, q3, q4⟩
    · have hno : bkB xs ss k = false := by
        unfold bkB
        rw [decide_eq_false (by omega)]
        simp
      obtain ⟨g1, g2⟩ := bk_none hno
      rw [hno, g1, g2]
      have HVL := Lib.hid hv
      have TE := Lib.hid TE
      have hsh : m ≤ 1000 := by
        obtain ⟨⟨p1, p16⟩, hbu, _⟩ := logV_parts hv
        have := built_short p1 p16 hbu
        omega
      have HK := Lib.hid (And.intro hk (And.intro hsh hlm))
      clear h1 h2 hB0 hb1 hb2 hW1 hW e1 eW hA hAW hRW hbW hl hlm hP hR hv hno g1 g2 hsh
      go_enter Try.func41, Try.ntmps41
      go_wp2_with fail
      rw [← HW.out.2.1, ← HW.out.1, ← HW.out.2.2.2, ← HW.out.2.2.1]
      refine TE.out.mono ?_
      rintro e w1 ⟨hb, ⟨hv, _⟩ | ⟨_, H, J, M, N, rfl, hwN, sz, ht, D, ds, hS, hD, hst, hfn, hUd⟩⟩
      · rw [HVL.out] at hv
        cases hv
      obtain ⟨hRz, hbw⟩ := NO.out w1 hb
      obtain ⟨⟨r1, r2⟩, f1, f2⟩ := boxTwo_cells hRz
      have HZ := Lib.hid (And.intro hRz hbw)
      have hdl : ds.length = ss.length := by have := stepsOf_len ds; rw [hst] at this; exact this.symm
      obtain ⟨DA, dn, dc, rfl⟩ := hD.form
      have hdn : dn = ds.length := by
        rcases hD.2 with ⟨hv, hx⟩ | ⟨g, cap, cur, hv, _⟩
        · injection hv with _ e _
          omega
        · injection hv
      have hdm : dn = m := by have := HK.out.2.2; omega
      subst hdm
      obtain ⟨⟨a1, a2⟩, _⟩ := boxTwo_cells hS.at_
      clear hb hRz hbw hwN hS hD hst hfn hUd hdl hdn
      by_cases hk0 : k < 0
      · clear hk
        go_wp2_with fail
        obtain ⟨⟨k1, k2⟩, _⟩ := boxTwo_cells (boxTwo_set HZ.out.1 (.slice none 0 0) (.slice none 0 0))
        refine bodyPost_ret (v := .tuple #[.agg #[.slice none 0 0, .slice none 0 0], .bool false]) (by simp [results, Try.results41, go_sem, k1, k2]) rfl ?_
        exact ⟨_, _, rfl, World.ownsRow_nil _ _ _ _, OwnQ.nil _ _ _, (fun x e => by cases e), boxTwo_below HZ.out.2 (by have := HW.out.2.2.2; omega) _ _⟩
      · have hk1 : k > (dn : Int) := by omega
        clear hk
        go_wp2_with fail
        obtain ⟨⟨k1, k2⟩, _⟩ := boxTwo_cells (boxTwo_set HZ.out.1 (.slice none 0 0) (.slice none 0 0))
        refine bodyPost_ret (v := .tuple #[.agg #[.slice none 0 0, .slice none 0 0], .bool false]) (by simp [results, Try.results41, go_sem, k1, k2]) rfl ?_
        exact ⟨_, _, rfl, World.ownsRow_nil _ _ _ _, OwnQ.nil _ _ _, (fun x e => by cases e), boxTwo_below HZ.out.2 (by have := HW.out.2.2.2; omega) _ _⟩
/-- UndoLog of the program. -/
theorem implUndo_any (A1 A2 : Option Addr) (n c1 m c2 B0 : Nat) (xs : List Int) (ss : List (Int × Int)) (w : World) (h1 : Rd w B0 A1 n xs) (h2 : RdQ w B0 A2 m ss) (hB0 : B0 ≤ w.heap.size) (hb1 : n ≤ 1048576) (hb2 : m ≤ 1048576) :
    Calls Try.prog 10 #[.agg #[.slice A1 n c1, .slice A2 m c2]] w fun e w' => ∃ v v2, e = .returned (.tuple #[.agg #[v, v2], .bool (bkB xs ss ((m : Int) - 1))]) ∧ Own w' w.heap.size v (bkUp xs ss ((m : Int) - 1)) ∧ OwnQ 68 w' w.heap.size v2 (bkSt xs ss ((m : Int) - 1)) ∧ (∀ x, v.ownBlock = some x → ∀ y, v2.ownBlock = some y → x ≠ y) ∧ Below w.heap.size w w' := by
  obtain ⟨W1, hW1⟩ : ∃ W1, W1 = w.alloc (.cells #[.slice A1 n c1, .slice A2 m c2] 26) := ⟨_, rfl⟩
  obtain ⟨W, hW⟩ : ∃ W, W = W1.alloc (.cells #[.slice none 0 0, .slice none 0 0] 26) := ⟨_, rfl⟩
  have e1 : W1.heap.size = w.heap.size + 1 := by rw [hW1]; simp
  have eW : W.heap.size = w.heap.size + 2 := by rw [hW]; simp [e1]
  have hA : W1.heap[w.heap.size]? = some (.cells #[.slice A1 n c1, .slice A2 m c2] 26 (0, 0)) := by rw [hW1]; exact World.alloc_heap_new w _
  have hAW : W.heap[w.heap.size]? = some (.cells #[.slice A1 n c1, .slice A2 m c2] 26 (0, 0)) := by rw [hW]; exact (Below.heap_alloc _ _ _ (by omega)).trans hA
  have hRW : W.heap[w.heap.size + 1]? = some (.cells #[.slice none 0 0, .slice none 0 0] 26 (0, 0)) := by rw [hW, ← e1]; exact World.alloc_heap_new W1 _
  have hbW : Below w.heap.size w W := by rw [hW, hW1]; exact ((Below.refl _ _).alloc (Nat.le_refl _) _).alloc (by simp) _
  have hwr : IntKind.i64.wrap ((m : Int) - 1) = (m : Int) - 1 := IntWalk.i64_in _ (by omega)
  have BK := Lib.hid (implBack_any A1 A2 n c1 m c2 B0 ((m : Int) - 1) xs ss W (h1.below hbW hB0) (h2.below hbW hB0) (Nat.le_trans hB0 hbW.size) hb1 hb2)
  obtain ⟨P, hP⟩ : ∃ P, P = w.heap.size := ⟨_, rfl⟩
  obtain ⟨R, hR⟩ : ∃ R, R = w.heap.size + 1 := ⟨_, rfl⟩
  rw [← hP] at hAW
  rw [← hR] at hRW
  obtain ⟨k1, k2⟩ := (boxTwo_cells hAW).1
  have HW := Lib.hid (And.intro hW (And.intro hW1 (And.intro hP hR)))
  have HF := Lib.hid (And.intro hbW (And.intro hAW (And.intro hRW eW)))
  clear h1 h2 hB0 hb1 hb2 hW1 hW e1 eW hA hAW hRW hbW hP hR
  go_enter Try.func10, Try.ntmps10
  go_wp2_with fail
  rw [← HW.out.2.1, ← HW.out.1, ← HW.out.2.2.2, ← HW.out.2.2.1]
  try rw [hwr]
  refine BK.out.mono ?_
  rintro e w1 ⟨v, v2, rfl, ho, hq, hne, hb⟩
  have hRz := (hb.block R (by have := HF.out.2.2.2; have := HW.out.2.2.2; omega)).trans HF.out.2.2.1
  obtain ⟨⟨r1, r2⟩, f1, f2⟩ := boxTwo_cells hRz
  obtain ⟨A4, d4, e4, -⟩ := ho.form
  obtain ⟨A5, d5, e5, -⟩ := hq.form
  generalize (bkUp xs ss ((m : Int) - 1)).length = n4 at e4
  generalize (bkSt xs ss ((m : Int) - 1)).length = n5 at e5
  subst e4 e5
  have HZ := Lib.hid (And.intro hRz (And.intro (Below.on HF.out.1 hb) (And.intro ho (And.intro hq hne))))
  clear hRz hb ho hq hne
  go_wp2_with fail
  obtain ⟨hRz, hbw, ho, hq, hne⟩ := HZ.out
  have hRw : R < W.heap.size := by have := HF.out.2.2.2; have := HW.out.2.2.2; omega
  obtain ⟨q1, q2, q3, q4⟩ := copy_end hbw (show w.heap.size ≤ R by have := HW.out.2.2.2; omega) (ho.less (show R + 1 ≤ W.heap.size by omega)) (hq.less (show R + 1 ≤ W.heap.size by omega))
  obtain ⟨⟨k1, k2⟩, _⟩ := boxTwo_cells (boxTwo_set hRz (.slice A4 n4 d4) (.slice A5 n5 d5))
  refine bodyPost_ret (v := .tuple #[.agg #[.slice A4 n4 d4, .slice A5 n5 d5], .bool (bkB xs ss ((m : Int) - 1))]) (by simp [results, Try.results10, go_sem, k1, k2]) rfl ?_
  exact ⟨_, _, rfl, q1, q2, q3, q4⟩
end Go.Proofs.Ytichcnaomcpnhaa
