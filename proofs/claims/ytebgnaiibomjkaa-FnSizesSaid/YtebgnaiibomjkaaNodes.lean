/- nodesOf and nodeOf: the nodes of a valid forest in a new block, or nothing. Condition: a length up to 1048576. -/
import Derived.Test.YtebgnaiibomjkaaForest
import Derived.Test.YtebgnaiibomjkaaIter
import Derived.Test.YtebgnaiibomjkaaHelp
namespace Go.Proofs.Ytebgnaiibomjkaa
open Go.RowKit Go.Shelf
attribute [local go_sem] Oper.semAt_some

/-- The address of a node in block B. -/
def nadr (B x : Nat) : Addr := ⟨B, x * 2, none⟩
/-- Block B holds the nodes of the forest up. -/
def Nodes (W : World) (B : Nat) (up : List Int) : Prop :=
  ∀ x, x < up.length → W.cell? ⟨B, x * 2, none⟩ = some (.int .i64 (x : Int)) ∧ W.cell? ⟨B, x * 2 + 1, none⟩ = some (.pointer ((step up x).map (nadr B)))
theorem Nodes.below {W W' : World} {B C : Nat} {up : List Int} (h : Nodes W B up) (hb : Below C W W') (hB : B < C) : Nodes W' B up := fun x hx =>
  ⟨(hb.cell (p := ⟨B, x * 2, none⟩) hB).trans (h x hx).1, (hb.cell (p := ⟨B, x * 2 + 1, none⟩) hB).trans (h x hx).2⟩

/-- How far the iterator has come. -/
def At (B i : Nat) (up : List Int) (J : List Nat → World → Prop) (M : Nat) (p : Value) (W : World) (m : Nat) : Prop :=
  ∃ pre o, p = .pointer (o.map (nadr B)) ∧ Path up (some i) pre o ∧ Nodes W B up ∧ J pre W ∧ m + pre.length = M + 1

set_option maxRecDepth 100000 in
set_option maxHeartbeats 1000000 in
theorem up_in (F : Fence) (n : Nat) (hf : F.fn 122) (hro : F.round = none) (_hn : 1 ≤ n) (l Bn n₀ B i M : Nat) (up : List Int) (J Jx : List Nat → World → Prop)
    (hM : ∀ pre W1, (∃ o, Path up (some i) pre o) → J pre W1 → pre.length ≤ M)
    (hY : ∀ pre x W1, J pre W1 → (∃ o, Path up (some i) (pre ++ [x]) o) → YieldAt F (n - 1) Try.prog l #[.pointer (some (nadr B x))] W1 fun e W' =>
      (e = .returned (.bool true) ∧ J (pre ++ [x]) W' ∧ Below n₀ W1 W') ∨ (e = .returned (.bool false) ∧ Jx (pre ++ [x]) W'))
    (W : World) (hBn : W.cell? ⟨Bn, 0, none⟩ = some (.pointer (some (nadr B i)))) (hN : Nodes W B up) (hB : B < n₀) (hb : InB up) (hi : i < up.length) (h0 : J [] W) :
    CallsIn F n Try.prog 122 #[.func (.yield l) #[] #[], .pointer (some ⟨Bn, 0, none⟩)] W fun e W' => (∃ v, e = .returned v) ∧
      ((∃ ys, Path up (some i) ys none ∧ J ys W') ∨ (∃ pre, (∃ o, Path up (some i) pre o) ∧ Jx pre W')) := by
  refine callsIn_of_wp Try.func122 rfl hf ?_ hro
  simp only [Try.ntmps122, List.size_toArray, List.length_cons, List.length_nil, Nat.reduceAdd, Nat.reduceSub, Array.replicate_succ, Array.replicate_zero, List.push_toArray, List.append_toArray, List.nil_append, List.cons_append]
  gi_wp2
  gi_loopw [3] (fun p wr => ∃ m, At B i up J M p wr m) (fun p wr => leastOf (At B i up J M p wr))
  case atStart => exact ⟨M + 1, [], some i, rfl, rfl, hN, h0, by simp⟩
  case round =>
    obtain ⟨⟨pre, o, rfl, hp, hl, hJs, hm⟩, hleast⟩ := leastOf_spec hrel
    have HM := Lib.hid hm
    clear hleast hrel hm
    cases o with
    | none =>
      gi_wp2
      go_end0
      exact ⟨⟨_, rfl⟩, .inl ⟨pre, hp, hJs⟩⟩
    | some x =>
      have hx : x < up.length := path_lt hb (fun j hj => by cases hj; exact hi) hp
      have hsn := path_snoc hp
      obtain ⟨fn, tmps, assign, body, hy, hR⟩ := hY pre x wr hJs ⟨_, hsn⟩
      have hpm := hM pre wr ⟨_, hp⟩ hJs
      clear hJs
      unfold nadr at hy
      unfold nadr
      gi_wp2
      refine hR.mono ?_
      rintro e W3 (⟨rfl, hJ3, hk3⟩ | ⟨rfl, hJx3⟩)
      · have hn3 := hl.below hk3 hB
        have hq3 := (hn3 x hx).2
        gi_wp2
        have hm2 := HM.out
        have hpm2 := hM (pre ++ [x]) W3 ⟨_, hsn⟩ hJ3
        rw [List.length_append] at hpm2
        have hnew : At B i up J M (.pointer ((step up x).map (nadr B))) W3 (M + 1 - (pre ++ [x]).length) := ⟨pre ++ [x], _, rfl, hsn, hn3, hJ3, by simp at hpm2 ⊢; omega⟩
        refine ⟨⟨_, hnew⟩, ?_⟩
        have hle := (leastOf_spec ⟨_, hnew⟩).2 _ hnew
        show _ < leastOf (At B i up J M (Value.pointer (Option.map (nadr B) (some x))) wr)
        simp only [List.length_append, List.length_cons, List.length_nil] at hle hpm2
        omega
      · gi_wp2
        refine bodyPost_ret (results_none rfl _ _ _) rfl ?_
        exact ⟨⟨_, rfl⟩, .inr ⟨pre ++ [x], ⟨_, hsn⟩, hJx3⟩⟩

/-- n.wayUp(): the receiver is boxed; the function value captures the box. -/
theorem wayUp_in (F : Fence) (n : Nat) (hf : F.fn 108) (hro : F.round = none) (p : Value) (hp : ∃ q, p = .pointer q) (w : World) :
    CallsIn F n Try.prog 108 #[p] w fun e w' => e = .returned (.func (.func 122) #[] #[.pointer (some ⟨w.heap.size, 0, none⟩)]) ∧ w.alloc (.cells #[p] 86) = w' := by
  obtain ⟨q, rfl⟩ := hp
  refine callsIn_of_wp Try.func108 rfl hf ?_ hro
  simp only [Try.ntmps108, List.size_toArray, List.length_cons, List.length_nil, Nat.reduceAdd, Nat.reduceSub, Array.replicate_succ, Array.replicate_zero, List.push_toArray, List.append_toArray, List.nil_append, List.cons_append]
  gi_wp2
  go_ret
  exact ⟨rfl, rfl⟩

/-- What n.wayUp() hands back has its contract. -/
theorem up_seq (F : Fence) (n : Nat) (hf : F.fn 122) (hro : F.round = none) (hn : 1 ≤ n) (Bn n₀ B i M : Nat) (up : List Int) (w : World) (hBn : w.cell? ⟨Bn, 0, none⟩ = some (.pointer (some (nadr B i)))) (hBw : Bn < w.heap.size)
    (hN : Nodes w B up) (hB : B < n₀) (hn0 : n₀ ≤ w.heap.size) (hb : InB up) (hi : i < up.length) :
    SeqOf F n Try.prog 122 #[.pointer (some ⟨Bn, 0, none⟩)] (fun x : Nat => #[Value.pointer (some (nadr B x))]) (Below n₀) (fun ys => Path up (some i) ys none) (fun pre => ∃ o, Path up (some i) pre o) M w :=
  fun l J Jx W hW _ _ hM hY h0 =>
    up_in F n hf hro hn l Bn n₀ B i M up J Jx hM hY W ((hW.cell (p := ⟨Bn, 0, none⟩) hBw).trans hBn) (hN.below hW (by omega)) hB hb hi h0

theorem box_cell {W : World} {B : Nat} {v : Value} {t : TypeId} (h : W.heap[B]? = some (.cells #[v] t (0, 0))) : W.cell? ⟨B, 0, none⟩ = some v ∧ W.frozen? ⟨B, 0, none⟩ = false := by
  constructor <;> simp [World.cell?, World.frozen?, h]
theorem box_new (W : World) (v : Value) (t : TypeId) : (W.alloc (.cells #[v] t)).cell? ⟨W.heap.size, 0, none⟩ = some v ∧ (W.alloc (.cells #[v] t)).frozen? ⟨W.heap.size, 0, none⟩ = false :=
  box_cell (World.alloc_heap_new W _)
theorem cell_past {W : World} {a : Addr} {v : Value} (o : Obj) (h : W.cell? a = some v) : (W.alloc o).cell? a = some v := cell_kept h (World.grownBy_alloc W o none) (fun r e => by cases e)
theorem free_past {W : World} {a : Addr} {v : Value} (o : Obj) (h : W.cell? a = some v) (hf : W.frozen? a = false) : (W.alloc o).frozen? a = false := (frozen_kept h (World.grownBy_alloc W o none) (fun r e => by cases e)).trans hf

/-- Four new boxes, one behind the other. -/
theorem boxes4 (w : World) (t1 : TypeId) (v1 : Value) (t2 : TypeId) (v2 : Value) (t3 : TypeId) (v3 : Value) (t4 : TypeId) (v4 : Value) :
    ∃ W, W = (((w.alloc (.cells #[v1] t1)).alloc (.cells #[v2] t2)).alloc (.cells #[v3] t3)).alloc (.cells #[v4] t4) ∧ Boxed W w.heap.size t1 v1 ∧ Boxed W (w.heap.size + 1) t2 v2 ∧ Boxed W (w.heap.size + 1 + 1) t3 v3 ∧ Boxed W (w.heap.size + 1 + 1 + 1) t4 v4 ∧
      Below w.heap.size w W ∧ W.heap.size = w.heap.size + 4 := by
  refine ⟨_, rfl, (((Boxed.new w _ _).alloc _).alloc _).alloc _, ?_, ?_, ?_, ((((Below.refl _ w).alloc (Nat.le_refl _) _).alloc (by simp) _).alloc (by simp; omega) _).alloc (by simp; omega) _, by simp⟩
  · have := Boxed.new (w.alloc (.cells #[v1] t1)) t2 v2
    rw [World.size_alloc] at this
    exact (this.alloc _).alloc _
  · have := Boxed.new ((w.alloc (.cells #[v1] t1)).alloc (.cells #[v2] t2)) t3 v3
    rw [World.size_alloc, World.size_alloc] at this
    exact this.alloc _
  · have := Boxed.new (((w.alloc (.cells #[v1] t1)).alloc (.cells #[v2] t2)).alloc (.cells #[v3] t3)) t4 v4
    rwa [World.size_alloc, World.size_alloc, World.size_alloc] at this

set_option maxRecDepth 100000 in
set_option maxHeartbeats 2000000 in
/-- reachesRoot: true just where the way up, of at most 'count' links, has at most 'count' items. -/
theorem reaches_in (F : Fence) (n : Nat) (h84 : F.fn 107) (h65 : F.fn 108) (h81 : F.fn 122) (hro : F.round = none) (hn : 3 ≤ n)
    (B i c : Nat) (up : List Int) (w : World) (hN : Nodes w B up) (hB : B < w.heap.size) (hb : InB up) (hi : i < up.length) (hc : c ≤ 1048576) :
    CallsIn F n Try.prog 107 #[.pointer (some (nadr B i)), .int .i64 c] w fun e w' => e = .returned (.bool (decide ((way up c i).length ≤ c))) ∧ Below w.heap.size w w' := by
  have h1 : 1 ≤ n := by omega
  refine callsIn_of_wp_marks Try.func107 rfl h84 ?_ hro
  simp only [Try.ntmps107, List.size_toArray, List.length_cons, List.length_nil, Nat.reduceAdd, Nat.reduceSub, Array.replicate_succ, Array.replicate_zero, List.push_toArray, List.append_toArray, List.nil_append, List.cons_append]
  gi_wp2_with (gi_at_call 108; refine (wayUp_in _ (n - 1) h65 hro _ ⟨_, rfl⟩ _).mono ?_; rintro e w' ⟨rfl, rfl⟩)
  obtain ⟨W0, hW0, bC, bR, bV, bP, hBw, hs0⟩ := boxes4 w 3 (.int .i64 c) 4 (.bool false) 3 (.int .i64 0) 86 (.pointer (some (nadr B i)))
  rw [← hW0]
  clear hW0
  refine wpIn_rangeFunc_seqOf hro h1 (gf := 122) (lb := #[.pointer (some ⟨w.heap.size + 1 + 1 + 1, 0, none⟩)]) rfl h81 (enters_of Try.func122 (by kernel_rfl) rfl)
    (up_seq F (n - 1) h81 hro (by omega) (w.heap.size + 1 + 1 + 1) w.heap.size B i c up W0 bP.cell (by omega) (hN.below hBw hB) hB (by omega) hb hi) belowK_t (belowK_b (by omega)) (fun _ => rfl)
    (fun pre W => (Boxed W (w.heap.size + 1 + 1) 3 (.int .i64 (pre.length : Int)) ∧ Boxed W (w.heap.size + 1) 4 (.bool false) ∧ Boxed W w.heap.size 3 (.int .i64 c)) ∧ Below w.heap.size w W ∧ pre.length ≤ c)
    (fun q pre W => (Boxed W (w.heap.size + 1) 4 (.bool false) ∧ Below w.heap.size w W) ∧ q = .ret ∧ pre.length = c + 1)
    (OwnFrom.and (OwnFrom.and (Go.Own.from (boxed_own _ _ _) _) (OwnFrom.and (Go.Own.from (boxed_own _ _ _) _) (Go.Own.from (boxed_own _ _ _) _))) (OwnFrom.and (ownFrom_below (by omega) (by omega)) (ownFrom_pure _ _)))
    (fun q => OwnFrom.and (OwnFrom.and (Go.Own.from (boxed_own _ _ _) _) (ownFrom_below (by omega) (by omega))) (ownFrom_pure _ _))
    (fun pre W _ h => h.2.2) ⟨⟨bV, bR, bC⟩, hBw, by simp⟩
    (fun x => { tmps := #[.pointer (some (nadr B i)), .int .i64 c, undef, .pointer (some ⟨w.heap.size, 0, none⟩), .pointer (some ⟨w.heap.size + 1, 0, none⟩), .pointer (some ⟨w.heap.size + 1 + 1, 0, none⟩), .pointer (some (nadr B i)), .func (.func 122) #[] #[.pointer (some ⟨w.heap.size + 1 + 1 + 1, 0, none⟩)], .pointer (some (nadr B x)), undef, undef, undef, undef, undef], defers := [] }) ?assign ?body ?done ?stop
  case assign =>
    intro l x W K hK
    gi_wp2
    first | exact hK | simpa using hK
  case body =>
    rintro l pre x W ⟨⟨hV, hR, hC⟩, hBe, hle⟩ _ hsz
    have cV := hV.cell
    have cC := hC.cell
    have cR := hR.cell
    have fV := hV.frozen
    have fR := hR.frozen
    gi_wp2
    · refine ⟨((KeepsOthers.setCell W _ _).trans (KeepsOthers.setCell _ _ _)).from _, ⟨(hR.other (by omega) _).set _, (hBe.setCell (p := ⟨w.heap.size + 1 + 1, 0, none⟩) (by simp; omega) _).setCell (p := ⟨w.heap.size + 1, 0, none⟩) (by simp) _⟩, rfl, ?_⟩
      rw [List.length_append]
      simp
      omega
    · refine ⟨(KeepsOthers.setCell W _ _).from _, (Below.refl _ W).setCell (p := ⟨w.heap.size + 1 + 1, 0, none⟩) (by simp; omega) _, ⟨?_, hR.other (by omega) _, hC.other (by omega) _⟩, hBe.setCell (p := ⟨w.heap.size + 1 + 1, 0, none⟩) (by simp; omega) _, ?_⟩
      · have := hV.set (.int .i64 ((pre.length : Int) + 1))
        simpa using this
      · rw [List.length_append]
        simp
        omega
  case done =>
    rintro D ys W hD hS ⟨⟨hV, hR, hC⟩, hBe, hle⟩ hK
    have cR := hR.cell
    have fR := hR.frozen
    have hw : decide ((way up c i).length ≤ c) = true := by
      rw [way_done hS (by omega)]
      simpa using hle
    have HW := Lib.hid hw
    clear hw
    gi_wp2
    have hK' := (KeepsOthers.setCell W ⟨w.heap.size + 1, 0, none⟩ (.bool true)).same D _ hK rfl
    refine ⟨by simp, .inl ⟨_, _, rfl, run_takeDeferred hK', ?_⟩⟩
    have hc5 := cell_kept (World.cell?_setCell_same' W ⟨w.heap.size + 1, 0, none⟩ (.bool true) (by rw [cR]; rfl)) (grownBy_putObj' _ D (.deferred none)) (fun r e => by cases e; exact ⟨_, hK', rfl⟩)
    refine ⟨.bool true, ?_, ret_bool HW.out.symm, (hBe.setCell (p := ⟨w.heap.size + 1, 0, none⟩) (by simp) _).trans (belowK_b (w := w) (Nat.le_refl _) _ D _ _ (by omega) hK' rfl rfl)⟩
    simp [results, Try.f107, go_sem, hc5]
  case stop =>
    rintro D q pre W hD ⟨o, hp⟩ ⟨⟨hR, hBe⟩, rfl, hl⟩ hK
    have cR := hR.cell
    have hw : decide ((way up c i).length ≤ c) = false := by
      rw [way_long hp hl, hl]
      simp
    have HW := Lib.hid hw
    clear hw
    gi_wp2
    refine ⟨by simp, .inl ⟨_, _, rfl, run_takeDeferred hK, ?_⟩⟩
    have hc5 := cell_kept cR (grownBy_putObj' _ D (.deferred none)) (fun r e => by cases e; exact ⟨_, hK, rfl⟩)
    refine ⟨.bool false, ?_, ret_bool HW.out.symm, hBe.trans (belowK_b (w := w) (Nat.le_refl _) W D _ _ (by omega) hK rfl rfl)⟩
    simp [results, Try.f107, go_sem, hc5]

theorem boxes2 (w : World) (t1 : TypeId) (v1 : Value) (t2 : TypeId) (v2 : Value) :
    ∃ W, W = (w.alloc (.cells #[v1] t1)).alloc (.cells #[v2] t2) ∧ Boxed W w.heap.size t1 v1 ∧ Boxed W (w.heap.size + 1) t2 v2 ∧ Below w.heap.size w W ∧ W.heap.size = w.heap.size + 2 := by
  refine ⟨_, rfl, (Boxed.new w _ _).alloc _, ?_, ((Below.refl _ w).alloc (Nat.le_refl _) _).alloc (by simp) _, by simp⟩
  have := Boxed.new (w.alloc (.cells #[v1] t1)) t2 v2
  rwa [World.size_alloc] at this

theorem ret_ptr {a b : Option Addr} (h : a = b) : Ending.returned (.pointer a) = .returned (.pointer b) := by rw [h]

set_option maxRecDepth 100000 in
set_option maxHeartbeats 2000000 in
/-- root: the node of the last item of the way. -/
theorem root_in (F : Fence) (n : Nat) (h62 : F.fn 67) (h65 : F.fn 108) (h81 : F.fn 122) (hro : F.round = none) (hn : 3 ≤ n)
    (B i : Nat) (ys : List Nat) (up : List Int) (w : World) (hN : Nodes w B up) (hB : B < w.heap.size) (hb : InB up) (hi : i < up.length) (hys : Path up (some i) ys none) :
    CallsIn F n Try.prog 67 #[.pointer (some (nadr B i))] w fun e w' => e = .returned (.pointer (some (nadr B (lastOf i ys)))) ∧ Below w.heap.size w w' := by
  have h1 : 1 ≤ n := by omega
  refine callsIn_of_wp_marks Try.func67 rfl h62 ?_ hro
  simp only [Try.ntmps67, List.size_toArray, List.length_cons, List.length_nil, Nat.reduceAdd, Nat.reduceSub, Array.replicate_succ, Array.replicate_zero, List.push_toArray, List.append_toArray, List.nil_append, List.cons_append]
  gi_wp2_with (gi_at_call 108; refine (wayUp_in _ (n - 1) h65 hro _ ⟨_, rfl⟩ _).mono ?_; rintro e w' ⟨rfl, rfl⟩)
  obtain ⟨W0, hW0, bL, bP, hBw, hs0⟩ := boxes2 w 86 (.pointer (some (nadr B i))) 86 (.pointer (some (nadr B i)))
  rw [← hW0]
  clear hW0
  refine wpIn_rangeFunc_seqOf hro h1 (gf := 122) (lb := #[.pointer (some ⟨w.heap.size + 1, 0, none⟩)]) rfl h81 (enters_of Try.func122 (by kernel_rfl) rfl)
    (up_seq F (n - 1) h81 hro (by omega) (w.heap.size + 1) w.heap.size B i ys.length up W0 bP.cell (by omega) (hN.below hBw hB) hB (by omega) hb hi) belowK_t (belowK_b (by omega)) (fun _ => rfl)
    (fun pre W => Boxed W w.heap.size 86 (.pointer (some (nadr B (lastOf i pre)))) ∧ Below w.heap.size w W)
    (fun _ _ _ => False)
    (OwnFrom.and (Go.Own.from (boxed_own _ _ _) _) (ownFrom_below (by omega) (by omega)))
    (fun _ _ _ _ _ hs _ _ => hs)
    (fun pre W hp _ => by obtain ⟨o, hp⟩ := hp; exact path_end hys hp) ⟨bL, hBw⟩
    (fun x => { tmps := #[.pointer (some (nadr B i)), undef, .pointer none, .pointer (some ⟨w.heap.size, 0, none⟩), .pointer (some (nadr B x)), .pointer (some (nadr B i)), .pointer (some (nadr B i)), .func (.func 122) #[] #[.pointer (some ⟨w.heap.size + 1, 0, none⟩)], .pointer (some (nadr B x)), undef, undef], defers := [] }) ?assign ?body ?done ?stop
  case assign =>
    intro l x W K hK
    gi_wp2
    exact hK
  case body =>
    rintro l pre x W ⟨hL, hBe⟩ _ hsz
    have cL := hL.cell
    have fL := hL.frozen
    gi_wp2
    exact ⟨(KeepsOthers.setCell W _ _).from _, (Below.refl _ W).setCell (p := ⟨w.heap.size, 0, none⟩) (Nat.le_refl _) _, by rw [lastOf_snoc]; exact hL.set _, hBe.setCell (p := ⟨w.heap.size, 0, none⟩) (Nat.le_refl _) _⟩
  case done =>
    rintro D zs W hD hS ⟨hL, hBe⟩ hK
    obtain rfl : zs = ys := path_uniq hS hys
    have cL := hL.cell
    gi_wp2
    refine ⟨by simp, .inl ⟨_, _, rfl, run_takeDeferred hK, ?_⟩⟩
    exact ⟨_, results_tmp rfl _ _ _, rfl, hBe.trans (belowK_b (w := w) (Nat.le_refl _) W D _ _ (by omega) hK rfl rfl)⟩
  case stop =>
    rintro D q pre W _ _ h _
    exact h.elim

/-- How many of these items have a link up. -/
def linked (up : List Int) (pre : List Nat) : Nat := (pre.filter fun x => (step up x).isSome).length
theorem linked_le (up : List Int) (pre : List Nat) : linked up pre ≤ pre.length := List.length_filter_le _ _
theorem linked_snoc (up : List Int) (pre : List Nat) (x : Nat) : linked up (pre ++ [x]) = linked up pre + if (step up x).isSome then 1 else 0 := by
  unfold linked
  rw [List.filter_append, List.length_append]
  cases h : (step up x).isSome <;> simp [h]
theorem linked_all {up : List Int} : ∀ {o : Option Nat} {ys : List Nat}, Path up o ys none → linked up ys = ys.length - 1
  | _, [], _ => rfl
  | _, [x], h => by
    have h2 : step up x = none := h.2
    simp [linked, h2]
  | _, x :: y :: ys, h => by
    have ih := linked_all h.2
    have h2 : step up x = some y := h.2.1
    unfold linked at ih ⊢
    rw [List.filter_cons_of_pos (by simp [h2])]
    simp at ih ⊢
    omega

set_option maxRecDepth 100000 in
set_option maxHeartbeats 2000000 in
/-- depth: as many links as the way up has items, less one. -/
theorem depth_in (F : Fence) (n : Nat) (h69 : F.fn 68) (h65 : F.fn 108) (h81 : F.fn 122) (hro : F.round = none) (hn : 3 ≤ n)
    (B i : Nat) (ys : List Nat) (up : List Int) (w : World) (hN : Nodes w B up) (hB : B < w.heap.size) (hb : InB up) (hi : i < up.length) (hys : Path up (some i) ys none) (hyl : ys.length ≤ 1048576) :
    CallsIn F n Try.prog 68 #[.pointer (some (nadr B i))] w fun e w' => e = .returned (.int .i64 ((ys.length - 1 : Nat) : Int)) ∧ Below w.heap.size w w' := by
  have h1 : 1 ≤ n := by omega
  refine callsIn_of_wp_marks Try.func68 rfl h69 ?_ hro
  simp only [Try.ntmps68, List.size_toArray, List.length_cons, List.length_nil, Nat.reduceAdd, Nat.reduceSub, Array.replicate_succ, Array.replicate_zero, List.push_toArray, List.append_toArray, List.nil_append, List.cons_append]
  gi_wp2_with (gi_at_call 108; refine (wayUp_in _ (n - 1) h65 hro _ ⟨_, rfl⟩ _).mono ?_; rintro e w' ⟨rfl, rfl⟩)
  obtain ⟨W0, hW0, bL, bP, hBw, hs0⟩ := boxes2 w 3 (.int .i64 ((linked up [] : Nat) : Int)) 86 (.pointer (some (nadr B i)))
  have hW0' : W0 = (w.alloc (.cells #[.int .i64 0] 3)).alloc (.cells #[.pointer (some (nadr B i))] 86) := hW0
  rw [← hW0']
  clear hW0 hW0'
  refine wpIn_rangeFunc_seqOf hro h1 (gf := 122) (lb := #[.pointer (some ⟨w.heap.size + 1, 0, none⟩)]) rfl h81 (enters_of Try.func122 (by kernel_rfl) rfl)
    (up_seq F (n - 1) h81 hro (by omega) (w.heap.size + 1) w.heap.size B i ys.length up W0 bP.cell (by omega) (hN.below hBw hB) hB (by omega) hb hi) belowK_t (belowK_b (by omega)) (fun _ => rfl)
    (fun pre W => Boxed W w.heap.size 3 (.int .i64 ((linked up pre : Nat) : Int)) ∧ Below w.heap.size w W)
    (fun _ _ _ => False)
    (OwnFrom.and (Go.Own.from (boxed_own _ _ _) _) (ownFrom_below (by omega) (by omega)))
    (fun _ _ _ _ _ hs _ _ => hs)
    (fun pre W hp _ => by obtain ⟨o, hp⟩ := hp; exact path_end hys hp) ⟨bL, hBw⟩
    (fun x => { tmps := #[.pointer (some (nadr B i)), undef, .int .i64 0, .pointer (some ⟨w.heap.size, 0, none⟩), .pointer (some (nadr B x)), .pointer (some (nadr B i)), .func (.func 122) #[] #[.pointer (some ⟨w.heap.size + 1, 0, none⟩)], .pointer (some (nadr B x)), undef, undef, undef, undef, undef, undef, undef, undef], defers := [] }) ?assign ?body ?done ?stop
  case assign =>
    intro l x W K hK
    gi_wp2
    exact hK
  case body =>
    rintro l pre x W ⟨hL, hBe⟩ ⟨o, hp⟩ hsz
    have hx : x < up.length := path_lt hb (fun j hj => by cases hj; exact hi) (path_last hp).1
    have hpl := path_end hys hp
    rw [List.length_append] at hpl
    have hle := linked_le up pre
    have cL := hL.cell
    have fL := hL.frozen
    have cN := ((hN.below hBe hB) x hx).2
    have hs := linked_snoc up pre x
    unfold nadr
    cases hst : step up x with
    | none =>
      rw [hst] at cN hs
      have HS := Lib.hid hs
      clear hs hst hp
      gi_wp2
      exact ⟨KeepsFrom.refl _ W, Below.refl _ W, by rw [HS.out]; exact hL, hBe⟩
    | some y =>
      rw [hst] at cN hs
      have HS := Lib.hid hs
      clear hs hst hp
      simp only [List.length_cons, List.length_nil] at hpl
      gi_wp2
      refine ⟨(KeepsOthers.setCell W _ _).from _, (Below.refl _ W).setCell (p := ⟨w.heap.size, 0, none⟩) (Nat.le_refl _) _, ?_, hBe.setCell (p := ⟨w.heap.size, 0, none⟩) (Nat.le_refl _) _⟩
      rw [HS.out]
      exact hL.set _
  case done =>
    rintro D zs W hD hS ⟨hL, hBe⟩ hK
    obtain rfl : zs = ys := path_uniq hS hys
    rw [linked_all hS] at hL
    have cL := hL.cell
    gi_wp2
    refine ⟨by simp, .inl ⟨_, _, rfl, run_takeDeferred hK, ?_⟩⟩
    exact ⟨_, results_tmp rfl _ _ _, rfl, hBe.trans (belowK_b (w := w) (Nat.le_refl _) W D _ _ (by omega) hK rfl rfl)⟩
  case stop =>
    rintro D q pre W _ _ h _
    exact h.elim

theorem root_any (B i : Nat) (ys : List Nat) (up : List Int) (w : World) (hN : Nodes w B up) (hB : B < w.heap.size) (hb : InB up) (hi : i < up.length) (hys : Path up (some i) ys none) :
    Calls Try.prog 67 #[.pointer (some (nadr B i))] w fun e w' => e = .returned (.pointer (some (nadr B (lastOf i ys)))) ∧ Below w.heap.size w w' :=
  (callsIn_wide (n := 3)).1 (root_in _ 3 trivial trivial trivial rfl (by omega) B i ys up w hN hB hb hi hys)
theorem depth_any (B i : Nat) (ys : List Nat) (up : List Int) (w : World) (hN : Nodes w B up) (hB : B < w.heap.size) (hb : InB up) (hi : i < up.length) (hys : Path up (some i) ys none) (hyl : ys.length ≤ 1048576) :
    Calls Try.prog 68 #[.pointer (some (nadr B i))] w fun e w' => e = .returned (.int .i64 ((ys.length - 1 : Nat) : Int)) ∧ Below w.heap.size w w' :=
  (callsIn_wide (n := 3)).1 (depth_in _ 3 trivial trivial trivial rfl (by omega) B i ys up w hN hB hb hi hys hyl)
theorem reaches_any (B i c : Nat) (up : List Int) (w : World) (hN : Nodes w B up) (hB : B < w.heap.size) (hb : InB up) (hi : i < up.length) (hc : c ≤ 1048576) :
    Calls Try.prog 107 #[.pointer (some (nadr B i)), .int .i64 c] w fun e w' => e = .returned (.bool (decide ((way up c i).length ≤ c))) ∧ Below w.heap.size w w' :=
  (callsIn_wide (n := 3)).1 (reaches_in _ 3 trivial trivial trivial rfl (by omega) B i c up w hN hB hb hi hc)
end Go.Proofs.Ytebgnaiibomjkaa

namespace Go.Proofs.Ytebgnaiibomjkaa
open Go.RowKit

theorem hasItem_any (A : Option Addr) (n c : Nat) (k : Int) (w : World) (_hn : n ≤ 1048576) :
    Calls Try.prog 106 #[.slice A n c, .int .i64 k] w fun e w' => e = .returned (.bool (decide (0 ≤ k ∧ k < (n : Int)))) ∧ w = w' := by
  by_cases h1 : 0 ≤ k <;> by_cases h2 : k < (n : Int)
  all_goals
    have H := Lib.hid (show decide (0 ≤ k ∧ k < (n : Int)) = decide (0 ≤ k ∧ k < (n : Int)) from rfl)
    go_enter Try.func106, Try.ntmps106
    go_wp2
    go_ret
    exact ⟨ret_bool (by simp [h1, h2]), rfl⟩

/-- Block B holds the nodes of zs, filled in up to k; the others are empty. -/
def Fill (W : World) (B : Nat) (zs : List Int) (k : Nat) : Prop :=
  ∃ cur : Array Value, W.heap[B]? = some (.cells cur 89 (0, 0)) ∧ ∀ x, x < zs.length →
    cur[x * 2]? = some (.int .i64 (if x < k then (x : Int) else 0)) ∧ cur[x * 2 + 1]? = some (.pointer (if x < k then (step zs x).map (nadr B) else none))

theorem Fill.cells {W : World} {B k : Nat} {zs : List Int} (h : Fill W B zs k) {x : Nat} (hx : x < zs.length) :
    W.cell? ⟨B, x * 2, none⟩ = some (.int .i64 (if x < k then (x : Int) else 0)) ∧ W.cell? ⟨B, x * 2 + 1, none⟩ = some (.pointer (if x < k then (step zs x).map (nadr B) else none)) ∧
      W.frozen? ⟨B, x * 2, none⟩ = false ∧ W.frozen? ⟨B, x * 2 + 1, none⟩ = false := by
  obtain ⟨cur, hb, hc⟩ := h
  refine ⟨?_, ?_, ?_, ?_⟩
  · simp [World.cell?, hb, (hc x hx).1]
  · simp [World.cell?, hb, (hc x hx).2]
  · simp [World.frozen?, hb]
  · simp [World.frozen?, hb]
theorem Fill.lt {W : World} {B k : Nat} {zs : List Int} (h : Fill W B zs k) : B < W.heap.size := by
  obtain ⟨cur, hb, _⟩ := h
  exact (Array.getElem?_eq_some_iff.1 hb).1
theorem Fill.nodes {W : World} {B k : Nat} {zs : List Int} (h : Fill W B zs k) (hk : zs.length ≤ k) : Nodes W B zs := fun x hx => by
  have hc := h.cells hx
  rw [if_pos (by omega), if_pos (by omega)] at hc
  exact ⟨hc.1, hc.2.1⟩
theorem Fill.eq {W W' : World} {B k : Nat} {zs : List Int} (h : Fill W B zs k) (e : W'.heap[B]? = W.heap[B]?) : Fill W' B zs k := by
  obtain ⟨cur, hb, hc⟩ := h
  exact ⟨cur, e.trans hb, hc⟩
theorem Fill.below {W W' : World} {B C k : Nat} {zs : List Int} (h : Fill W B zs k) (hb : Below C W W') (hB : B < C) : Fill W' B zs k := h.eq (hb.block B hB)
theorem heap_set (W : World) (B i : Nat) (v : Value) {cur : Array Value} {t : TypeId} (h : W.heap[B]? = some (.cells cur t (0, 0))) : (W.setCell ⟨B, i, none⟩ v).heap[B]? = some (.cells (cur.setIfInBounds i v) t (0, 0)) :=
  heap_setCell_same W B i cur t v h
theorem Fill.number {W : World} {B k : Nat} {zs : List Int} (h : Fill W B zs k) (hk : k < zs.length) (hs : step zs k = none) : Fill (W.setCell ⟨B, k * 2, none⟩ (.int .i64 (k : Int))) B zs (k + 1) := by
  obtain ⟨cur, hb, hc⟩ := h
  refine ⟨_, heap_set W B _ _ hb, fun x hx => ?_⟩
  have h1 := hc x hx
  have hlt : k * 2 < cur.size := (Array.getElem?_eq_some_iff.1 (hc k hk).1).1
  have a2 : (cur.setIfInBounds (k * 2) (.int .i64 (k : Int)))[x * 2 + 1]? = cur[x * 2 + 1]? := by rw [Array.getElem?_setIfInBounds, if_neg (by omega)]
  rw [a2, h1.2]
  by_cases e : x = k
  · subst e
    have a1 : (cur.setIfInBounds (x * 2) (.int .i64 (x : Int)))[x * 2]? = some (.int .i64 (x : Int)) := by rw [Array.getElem?_setIfInBounds, if_pos rfl, if_pos hlt]
    rw [a1, if_pos (show x < x + 1 by omega), if_neg (show ¬ x < x by omega), if_pos (show x < x + 1 by omega), hs]
    exact ⟨rfl, rfl⟩
  · have a1 : (cur.setIfInBounds (k * 2) (.int .i64 (k : Int)))[x * 2]? = cur[x * 2]? := by rw [Array.getElem?_setIfInBounds, if_neg (by omega)]
    rw [a1, h1.1]
    simp only [show x < k + 1 ↔ x < k by omega, and_self]
theorem Fill.both {W : World} {B k : Nat} {zs : List Int} (h : Fill W B zs k) (hk : k < zs.length) {y : Nat} (hs : step zs k = some y) :
    Fill ((W.setCell ⟨B, k * 2, none⟩ (.int .i64 (k : Int))).setCell ⟨B, k * 2 + 1, none⟩ (.pointer (some (nadr B y)))) B zs (k + 1) := by
  obtain ⟨cur, hb, hc⟩ := h
  refine ⟨_, heap_set _ B _ _ (heap_set W B _ _ hb), fun x hx => ?_⟩
  have h1 := hc x hx
  have hlt : k * 2 < cur.size := (Array.getElem?_eq_some_iff.1 (hc k hk).1).1
  have hlt2 : k * 2 + 1 < cur.size := (Array.getElem?_eq_some_iff.1 (hc k hk).2).1
  by_cases e : x = k
  · subst e
    have a1 : ((cur.setIfInBounds (x * 2) (.int .i64 (x : Int))).setIfInBounds (x * 2 + 1) (.pointer (some (nadr B y))))[x * 2]? = some (.int .i64 (x : Int)) := by
      rw [Array.getElem?_setIfInBounds, if_neg (by omega), Array.getElem?_setIfInBounds, if_pos rfl, if_pos hlt]
    have a2 : ((cur.setIfInBounds (x * 2) (.int .i64 (x : Int))).setIfInBounds (x * 2 + 1) (.pointer (some (nadr B y))))[x * 2 + 1]? = some (.pointer (some (nadr B y))) := by
      rw [Array.getElem?_setIfInBounds, if_pos rfl, if_pos (by rw [Array.size_setIfInBounds]; exact hlt2)]
    rw [a1, a2, if_pos (show x < x + 1 by omega), if_pos (show x < x + 1 by omega), hs]
    exact ⟨rfl, rfl⟩
  · have a1 : ((cur.setIfInBounds (k * 2) (.int .i64 (k : Int))).setIfInBounds (k * 2 + 1) (.pointer (some (nadr B y))))[x * 2]? = cur[x * 2]? := by
      rw [Array.getElem?_setIfInBounds, if_neg (by omega), Array.getElem?_setIfInBounds, if_neg (by omega)]
    have a2 : ((cur.setIfInBounds (k * 2) (.int .i64 (k : Int))).setIfInBounds (k * 2 + 1) (.pointer (some (nadr B y))))[x * 2 + 1]? = cur[x * 2 + 1]? := by
      rw [Array.getElem?_setIfInBounds, if_neg (by omega), Array.getElem?_setIfInBounds, if_neg (by omega)]
    rw [a1, a2, h1.1, h1.2]
    simp only [show x < k + 1 ↔ x < k by omega, and_self]
theorem Fill.new {W : World} {base g n c : Nat} {zs : List Int} (hn : zs.length = n) (h : W.ownsRow base 89 2 (.slice (some ⟨g, 0, none⟩) n c) n (madeCells #[.int .i64 0, .pointer none] (n * 2)).toList) : Fill W g zs 0 := by
  rcases h.2 with ⟨hv, _⟩ | ⟨g', cap, cur, hv, hbase, hh, hnc, hm, hsz, hcells⟩
  · simp at hv
  · simp only [Value.slice.injEq, Option.some.injEq, Addr.mk.injEq, and_true, true_and] at hv
    obtain ⟨rfl, rfl⟩ := hv
    refine ⟨cur, hh, fun x hx => ?_⟩
    have hget : ∀ j, j < n * 2 → cur[j]? = (madeCells #[.int .i64 0, .pointer none] (n * 2))[j]? := fun j hj => by
      rw [← Array.getElem?_toList, ← Array.getElem?_toList, ← hcells, List.getElem?_take_of_lt hj]
    rw [hget _ (by omega), hget _ (by omega), if_neg (by omega), if_neg (by omega)]
    constructor
    · simp [madeCells, show x * 2 < n * 2 by omega]
    · simp [madeCells, show x * 2 + 1 < n * 2 by omega]

theorem Try.info_node : (Try.prog.info? 89).map (fun i => (i.zero, i.size, i.bytes)) = some (some (.agg #[.int .i64 0, .pointer none]), 2, 16) := by kernel_rfl

set_option maxRecDepth 100000 in
set_option maxHeartbeats 2000000 in
theorem nodesOfF_any (A : Option Addr) (n c B0 : Nat) (zs : List Int) (w : World) (h : Rd w B0 A n zs) (hB0 : B0 ≤ w.heap.size) (hb : n ≤ 1048576) :
    Calls Try.prog 65 #[.slice A n c] w fun e w' => Below w.heap.size w w' ∧
      ((fvB zs = false ∧ e = .returned (.slice none 0 0)) ∨ (fvB zs = true ∧ e = .returned (.slice (some ⟨w.heap.size, 0, none⟩) n n) ∧ Fill w' w.heap.size zs n ∧ w.heap.size < w'.heap.size)) := by
  have l1 := h.1
  have L1 : zs.length ≤ n := by omega
  have L3 : n ≤ zs.length := by omega
  clear l1
  obtain ⟨i0, hi, hz0, hz1, hz2⟩ := info_parts Try.info_node
  by_cases hn : 1 ≤ n ∧ n ≤ 16
  · obtain ⟨hn1, hn2⟩ := hn
    go_enter Try.func65, Try.ntmps65
    go_wp2_with (at_make; go_must (refine wpList_make_full _ rfl _ _ 84 rfl w.heap.size 89 i0 (.agg #[.int .i64 0, .pointer none]) 2 Try.underlying84 hi hz0 hz1 .i64 .i64 _ _ n rfl rfl rfl rfl (by rw [hz2]; omega) (by unfold maxLen; omega) (Nat.le_refl _) ?_); intro w1 hown hgrow)
    have hf0 : Fill w1 w.heap.size zs 0 := Fill.new (n := n) (by omega) hown
    have hb1 : Below w.heap.size w w1 := (Below.refl _ w).grown hgrow (Nat.le_refl _) (fun k e => by cases e)
    clear hown hgrow hi hz0 hz1 hz2
    go_loopw [20] (fun i wr => ∃ k : Nat, k ≤ n ∧ i = .int .i64 k ∧ Fill wr w.heap.size zs k ∧ Below w.heap.size w wr ∧ ∀ x, x < k → 0 ≤ zs[x]?.getD 0 ∧ zs[x]?.getD 0 < (n : Int)) (fun i _ => n - (intOf i).toNat)
    case atStart => exact ⟨0, Nat.zero_le _, rfl, hf0, hb1, fun x hx => absurd hx (by omega)⟩
    case round =>
      obtain ⟨k, hk, rfl, hF, hbe, hin⟩ := hrel
      clear hf0
      by_cases hlt : k < n
      · obtain ⟨b, off, rfl, _, hc1⟩ := (h.below hbe hB0).2 (by omega)
        have g1 := hc1 k hlt
        have hcells := hF.cells (x := k) (by omega)
        clear hc1
        obtain ⟨z, hz⟩ : ∃ z, z = zs[k]?.getD 0 := ⟨_, rfl⟩
        rw [← hz] at g1
        have hst : step zs k = if z = (k : Int) then none else some z.toNat := by unfold step nx; rw [hz]
        have hnx : 0 ≤ z ∧ z < (n : Int) → ∀ x, x < k + 1 → 0 ≤ zs[x]?.getD 0 ∧ zs[x]?.getD 0 < (n : Int) := fun hh x hx => by
          by_cases e : x = k
          · subst e; rw [← hz]; exact hh
          · exact hin x (by omega)
        have hbad : ¬ (0 ≤ z ∧ z < (n : Int)) → fvB zs = false := fun hh => by
          cases hv : fvB zs with
          | false => rfl
          | true => exact absurd (by
              have := fv_in hv k (by omega)
              rw [← hz] at this
              omega) hh
        have HX := Lib.hid hnx
        have HB := Lib.hid hbad
        have HS := Lib.hid hst
        clear hin hz hnx hbad hst
        by_cases hzb : 0 ≤ z ∧ z < (n : Int)
        · obtain ⟨y, rfl⟩ := Int.eq_ofNat_of_zero_le hzb.1
          have hd : decide (0 ≤ (y : Int) ∧ (y : Int) < (n : Int)) = true := by simpa using hzb
          have HX2 := Lib.hid (HX.out hzb)
          clear HX HB
          have hyn : y < n := by omega
          clear hzb
          by_cases e : y = k
          · subst e
            have hst := HS.out
            rw [if_pos rfl] at hst
            have hF2 := hF.number (by omega) hst
            have HF := Lib.hid hF2
            have hne : ((y : Int) != (y : Int)) = false := by simp
            have hbe2 := hbe.setCell (p := ⟨w.heap.size, y * 2, none⟩) (Nat.le_refl _) (.int .i64 (y : Int))
            obtain ⟨q1, q2, q3, q4⟩ := hcells
            clear hF hF2 hst HS q2 q4
            go_wp2_with (go_at_call 106; refine (hasItem_any _ _ _ _ _ hb).mono ?_; rintro e w' ⟨rfl, rfl⟩)
            go_roundw
            case rel => exact ⟨y + 1, by omega, by go_num, HF.out, hbe2, HX2.out⟩
            case measure => simp [intOf]; omega
          · have hst := HS.out
            rw [if_neg (by omega)] at hst
            have hF2 := hF.both (by omega) hst
            have HF := Lib.hid hF2
            have hne : ((y : Int) != (k : Int)) = true := by simp; omega
            have hbe2 := (hbe.setCell (p := ⟨w.heap.size, k * 2, none⟩) (Nat.le_refl _) (.int .i64 (k : Int))).setCell (p := ⟨w.heap.size, k * 2 + 1, none⟩) (Nat.le_refl _) (.pointer (some (nadr w.heap.size y)))
            have HB2 := Lib.hid hbe2
            obtain ⟨q1, q2, q3, q4⟩ := hcells
            clear hF hF2 hst HS hbe2 e
            go_wp2_with (go_at_call 106; refine (hasItem_any _ _ _ _ _ hb).mono ?_; rintro e w' ⟨rfl, rfl⟩)
            go_roundw
            case rel => exact ⟨k + 1, by omega, by go_num, HF.out, HB2.out, HX2.out⟩
            case measure => simp [intOf]; omega
        · have hd : decide (0 ≤ z ∧ z < (n : Int)) = false := by simpa using hzb
          have hfv := HB.out hzb
          have HV := Lib.hid hfv
          clear hfv HB HX HS hzb
          go_wp2_with (go_at_call 106; refine (hasItem_any _ _ _ _ _ hb).mono ?_; rintro e w' ⟨rfl, rfl⟩)
          go_ret
          exact ⟨hbe, .inl ⟨HV.out, rfl⟩⟩
      · obtain rfl : k = n := by omega
        have hnodes := hF
        have hB := hF.lt
        have hInB : InB zs := fun x hx => by have := hin x (by omega); omega
        clear hin hF
        obtain ⟨wo, rfl⟩ : ∃ wo : World, wo = wr := ⟨_, rfl⟩
        go_wp2
        go_loopw [47] (fun i wr => ∃ j : Nat, j ≤ k ∧ i = .int .i64 j ∧ Fill wr w.heap.size zs k ∧ (Below w.heap.size w wr ∧ w.heap.size < wr.heap.size) ∧ ∀ x, x < j → (way zs k x).length ≤ k) (fun i _ => k - (intOf i).toNat)
        case atStart => exact ⟨0, Nat.zero_le _, rfl, hnodes, ⟨hbe, hB⟩, fun x hx => absurd hx (by omega)⟩
        case round =>
          obtain ⟨j, hj, rfl, hNr, ⟨hber, hBr⟩, hw⟩ := hrel
          clear hnodes hbe hB
          by_cases hlt : j < k
          · have R := reaches_any w.heap.size j k zs wr (hNr.nodes (by omega)) hBr hInB (by omega) (by omega)
            unfold nadr at R
            have R := Lib.hid R
            have HW := Lib.hid hw
            clear hw
            by_cases hr : (way zs k j).length ≤ k
            · have hd : decide ((way zs k j).length ≤ k) = true := by simpa using hr
              have HR := Lib.hid hr
              clear hr
              go_wp2_with (go_at_call 107; refine (R.out).mono ?_; rintro e w' ⟨rfl, hb5⟩)
              have hsz5 := hb5.size
              go_roundw
              case rel => exact ⟨j + 1, by omega, by go_num, hNr.below hb5 hBr, ⟨hber.trans (hb5.mono (by omega)), by omega⟩, fun x hx => by
                by_cases e : x = j
                · subst e; exact HR.out
                · exact HW.out x (by omega)⟩
              case measure => simp [intOf]; omega
            · have hd : decide ((way zs k j).length ≤ k) = false := by simpa using hr
              have hfv : fvB zs = false := by
                cases hv : fvB zs with
                | false => rfl
                | true => exact absurd (by
                    have := (fv_parts hv).2.2.2 j (by omega)
                    rwa [show zs.length = k by omega] at this) hr
              have HV := Lib.hid hfv
              clear hfv hr
              go_wp2_with (go_at_call 107; refine (R.out).mono ?_; rintro e w' ⟨rfl, hb5⟩)
              go_ret
              exact ⟨hber.trans (hb5.mono (by omega)), .inl ⟨HV.out, rfl⟩⟩
          · have hfv : fvB zs = true := by
              refine fv_of (by omega) (by omega) hInB fun x hx => ?_
              rw [show zs.length = k by omega]
              exact hw x (by omega)
            have HV := Lib.hid hfv
            clear hfv hw
            go_wp2
            go_ret
            exact ⟨hber, .inr ⟨HV.out, rfl, hNr, hBr⟩⟩
  · have hfv : fvB zs = false := by
      cases hv : fvB zs with
      | false => rfl
      | true =>
        obtain ⟨p1, p2, _⟩ := fv_parts hv
        exact absurd ⟨by omega, by omega⟩ hn
    have HV := Lib.hid hfv
    clear hfv hi hz0 hz1 hz2
    rcases (show n < 1 ∨ 16 < n by omega) with hn' | hn'
    · obtain rfl : n = 0 := by omega
      clear hn
      go_enter Try.func65, Try.ntmps65
      go_wp2
      go_ret
      exact ⟨Below.refl _ _, .inl ⟨HV.out, rfl⟩⟩
    · clear hn
      go_enter Try.func65, Try.ntmps65
      go_wp2
      go_ret
      exact ⟨Below.refl _ _, .inl ⟨HV.out, rfl⟩⟩
theorem nodesOf_any (A : Option Addr) (n c B0 : Nat) (zs : List Int) (w : World) (h : Rd w B0 A n zs) (hB0 : B0 ≤ w.heap.size) (hb : n ≤ 1048576) :
    Calls Try.prog 65 #[.slice A n c] w fun e w' => Below w.heap.size w w' ∧
      ((fvB zs = false ∧ e = .returned (.slice none 0 0)) ∨ (fvB zs = true ∧ e = .returned (.slice (some ⟨w.heap.size, 0, none⟩) n n) ∧ Nodes w' w.heap.size zs ∧ w.heap.size < w'.heap.size)) :=
  (nodesOfF_any A n c B0 zs w h hB0 hb).mono fun _ _ ⟨h1, h2⟩ => ⟨h1, h2.imp id fun ⟨a, b, f, g⟩ => ⟨a, b, f.nodes (by have := h.1; omega), g⟩⟩

end Go.Proofs.Ytebgnaiibomjkaa
