/- Sending pairs over a channel with room, and joining those that come: the loop over a channel in one goroutine. Condition: lengths up to 1048576. -/
import Derived.Conc.LoneCalls
import Derived.Deep.Cut
import Derived.Test.YtebgnaiibomjkaaJoins
import Derived.Test.YtebgnaiibomjkaaPairs
namespace Go.Proofs.Ytebgnaiibomjkaa
open Go.Conc

/-- The machine of one carries out the operations l of a region, and comes out with Q. -/
def OpsTo (P : Program) (ops : Array Oper) (Q : Exit → Act → World → Prop) (l : List Nat) (a : Act) (w : World) : Prop :=
  ∀ (b : Frame) (k : List Item) (cs : List Frame), ∃ e a' w', Q e a' w' ∧ Arrives P (lone (b.at a (.inRegion ops l :: k)) cs w) b k cs e a' w'
section
variable {P : Program} {ops : Array Oper} {Q : Exit → Act → World → Prop} {rest : List Nat} {i : Nat} {a a' : Act} {w w' : World} {o : Oper}
theorem OpsTo.of_ops {l : List Nat} (h : wpOps P ops Q l a w) : OpsTo P ops Q l a w := fun b k cs => wp_ops l a w h b k cs
theorem OpsTo.nil (h : Q .normal a w) : OpsTo P ops Q [] a w := fun _ _ _ => ⟨.normal, a, w, h, .one step_region_end⟩
theorem OpsTo.region {id : Nat} (h : OpsTo P ops Q (List.range ops.size) a w) : (Code.region id ops false).wp P Q a w :=
  fun b k cs => let ⟨e, a', w', q, r⟩ := h b k cs; ⟨e, a', w', q, .of_steps (.one step_region) r⟩
theorem OpsTo.next (hs : ∀ (b : Frame) (k : List Item) (cs : List Frame), Go.step P (lone (b.at a (.inRegion ops (i :: rest) :: k)) cs w) = .next (lone (b.at a' (.inRegion ops rest :: k)) cs w')) (h : OpsTo P ops Q rest a' w') : OpsTo P ops Q (i :: rest) a w :=
  fun b k cs => let ⟨e, a2, w2, q, r⟩ := h b k cs; ⟨e, a2, w2, q, .of_steps (.one (hs b k cs)) r⟩
theorem fin_at (b : Frame) (k : List Item) (ho : ops[i]? = some o) (v : Value) : (b.at a (.inRegion ops (i :: rest) :: k)).finish v = b.at (a.put o.dst v) (.inRegion ops rest :: k) := by
  rw [Frame.finish_at, ho]; rfl
theorem OpsTo.value {v : Value} (ho : ops[i]? = some o) (hw : Region.wanted o (yielded ops a.tmps) = true) (hr : (execOp a.eval o).run P w = .ok (.value v) w') (h : OpsTo P ops Q rest (a.put o.dst v) w') : OpsTo P ops Q (i :: rest) a w :=
  .next (fun b k cs => step_lone_go (by
    rw [stepG_op ho hw, ← fin_at b k ho]
    simp [stepG.apply, hr])) h
theorem OpsTo.skip (ho : ops[i]? = some o) (hw : Region.wanted o (yielded ops a.tmps) = true) (hr : (execOp a.eval o).run P w = .ok .skip w') (h : OpsTo P ops Q rest (a.put o.dst undef) w') : OpsTo P ops Q (i :: rest) a w :=
  .next (fun b k cs => step_lone_go (by
    rw [stepG_op ho hw, ← fin_at b k ho]
    simp [stepG.apply, hr])) h
theorem comm_step (b : Frame) (k : List Item) (cs : List Frame) {cases : Array CommCase} {blocking : Bool} {shape : CommShape} (ho : ops[i]? = some o) (hw : Region.wanted o (yielded ops a.tmps) = true) (hr : (execOp a.eval o).run P w = .ok (.comm cases blocking shape) w') :
    ∃ es, stepG P true (G (b.at a (.inRegion ops (i :: rest) :: k)) cs) w = .comm (G (b.at a (.inRegion ops (i :: rest) :: k)) cs) cases blocking shape w' es := by
  rw [stepG_oper ho hw]
  simp [stepG.apply, hr, G, GStep.after]
theorem OpsTo.send {c cap s r : Nat} {buf : Array Value} {tm : Bool} {v z : Value} (ho : ops[i]? = some o) (hw : Region.wanted o (yielded ops a.tmps) = true) (hr : (execOp a.eval o).run P w = .ok (.comm #[scase c v z] true .send) w')
    (hc : w'.heap[c]? = some (.chan cap buf false s r tm)) (hroom : buf.size < cap) (h : OpsTo P ops Q rest (a.put o.dst undef) (w'.setChan c cap (buf.push v) false (s + 1) r tm)) : OpsTo P ops Q (i :: rest) a w :=
  .next (fun b k cs => by
    obtain ⟨es, he⟩ := comm_step b k cs ho hw hr
    rw [← fin_at b k ho]
    exact step_lone_send_room he hc hroom) h
theorem OpsTo.recv {c cap s r : Nat} {buf : Array Value} {closed tm ok : Bool} {z : Value} (ho : ops[i]? = some o) (hw : Region.wanted o (yielded ops a.tmps) = true) (hr : (execOp a.eval o).run P w = .ok (.comm #[rcase c z] true (.recv ok)) w')
    (hc : w'.heap[c]? = some (.chan cap buf closed s r tm)) (hsome : 0 < buf.size) (h : OpsTo P ops Q rest (a.put o.dst (got ok (buf.getD 0 undef) true)) (w'.setChan c cap (buf.extract 1 buf.size) closed s (r + 1) tm)) : OpsTo P ops Q (i :: rest) a w :=
  .next (fun b k cs => by
    obtain ⟨es, he⟩ := comm_step b k cs ho hw hr
    rw [← fin_at b k ho]
    exact step_lone_recv_buf ok he hc hsome) h
theorem OpsTo.shut {c cap s r : Nat} {tm ok : Bool} {z : Value} (ho : ops[i]? = some o) (hw : Region.wanted o (yielded ops a.tmps) = true) (hr : (execOp a.eval o).run P w = .ok (.comm #[rcase c z] true (.recv ok)) w')
    (hc : w'.heap[c]? = some (.chan cap #[] true s r tm)) (h : OpsTo P ops Q rest (a.put o.dst (got ok z false)) w') : OpsTo P ops Q (i :: rest) a w :=
  .next (fun b k cs => by
    obtain ⟨es, he⟩ := comm_step b k cs ho hw hr
    rw [← fin_at b k ho]
    exact step_lone_recv_shut ok he hc) h
end
end Go.Proofs.Ytebgnaiibomjkaa

namespace Go.Proofs.Ytebgnaiibomjkaa
open Go.RowKit Go.Shelf Go.Conc

/-- What a channel of pairs holds. -/
def pvals (qs : List (Int × Int)) : Array Value := (qs.map fun p => Value.agg #[.int .i64 p.1, .int .i64 p.2]).toArray
theorem pvals_size (qs : List (Int × Int)) : (pvals qs).size = qs.length := by simp [pvals]
theorem pvals_push (qs : List (Int × Int)) (x y : Int) : (pvals qs).push (.agg #[.int .i64 x, .int .i64 y]) = pvals (qs ++ [(x, y)]) := by simp [pvals]
theorem pvals_head {qs : List (Int × Int)} {k : Nat} (h : k < qs.length) : (pvals (qs.drop k)).getD 0 undef = .agg #[.int .i64 (qs[k]?.getD (0, 0)).1, .int .i64 (qs[k]?.getD (0, 0)).2] := by
  rw [List.drop_eq_getElem_cons h, List.getElem?_eq_getElem h]
  simp [pvals, List.getElem?_eq_getElem h]
theorem pvals_tail {qs : List (Int × Int)} {k : Nat} : (pvals (qs.drop k)).extract 1 (pvals (qs.drop k)).size = pvals (qs.drop (k + 1)) := by
  unfold pvals
  simp only [List.size_toArray, List.length_map, List.length_drop, List.extract_toArray, List.extract_eq_take_drop, List.map_drop, List.drop_drop]
  rw [List.take_of_length_le (by simp; omega)]
theorem setChan_below {B : Nat} {a w : World} (h : Below B a w) {c : Nat} (hc : B ≤ c) (cap : Nat) (buf : Array Value) (cl : Bool) (s r : Nat) (tm : Bool) : Below B a (w.setChan c cap buf cl s r tm) := below_setChan h hc cap buf cl s r tm
theorem setChan_heap (w : World) {c i : Nat} (hi : i ≠ c) (cap : Nat) (buf : Array Value) (cl : Bool) (s r : Nat) (tm : Bool) : (w.setChan c cap buf cl s r tm).heap[i]? = w.heap[i]? := by
  unfold World.setChan
  simp only
  rw [Array.getElem?_setIfInBounds_ne (fun e => hi e.symm)]
theorem Chg.chan {S : Nat → Prop} {a b : World} (h : Chg S a b) {c : Nat} (hc : S c ∨ a.heap.size ≤ c) (cap : Nat) (buf : Array Value) (cl : Bool) (s r : Nat) (tm : Bool) : Chg S a (b.setChan c cap buf cl s r tm) :=
  ⟨h.os, h.tape, h.output, by rw [size_setChan]; exact h.size, fun k hk hn => (setChan_heap b (fun e => by
    rcases hc with hc | hc
    · exact hn (by rw [e]; exact hc)
    · omega) cap buf cl s r tm).trans (h.block k hk hn)⟩
theorem Chg.grown {S : Nat → Prop} {a b c : World} {row : Option Nat} (h : Chg S a b) (hg : b.grownBy c row) (hr : ∀ r, row = some r → a.heap.size ≤ r) : Chg S a c :=
  ⟨hg.os.trans h.os, hg.tape.trans h.tape, hg.output.trans h.output, Nat.le_trans h.size hg.size, fun k hk hn => (hg.block k (Nat.lt_of_lt_of_le hk h.size) (fun e => by have := hr k e.symm; omega)).trans (h.block k hk hn)⟩
theorem Own.chg {S : Nat → Prop} {w w' : World} {base : Nat} {v : Value} {zs : List Int} (h : Own w base v zs) (hc : Chg S w w') (hS : ∀ i, S i → i < base) : Own w' base v zs := by
  refine ⟨h.1, ?_⟩
  rcases h.2 with h0 | ⟨g, cap, cur, hv, hbase, hg, hr⟩
  · exact .inl h0
  · refine .inr ⟨g, cap, cur, hv, hbase, (hc.block g (Array.getElem?_eq_some_iff.1 hg).1 (fun hs => by have := hS g hs; omega)).trans hg, hr⟩
theorem mk_chan (n : Nat) (hn : n ≤ 1048576) (w : World) : (Instr.makeChan 143 (.int .i64 (n : Int))).run Try.prog w = .ok (.chan (some w.heap.size)) (w.alloc (.chan n #[] false 0 0 false)) := by
  obtain ⟨i, hi, _, _, hb⟩ := info_parts Try.info_pair
  simpa using run_makeChan (P := Try.prog) (w := w) Try.underlying143 hi .i64 n (by omega) (by rw [hb]; omega)

set_option maxRecDepth 100000 in
set_option maxHeartbeats 2000000 in
theorem sendPairs_any (A : Option Addr) (n c B0 : Nat) (qs : List (Int × Int)) (w : World) (h : RdQ w B0 A n qs) (hB0 : B0 ≤ w.heap.size) (hb : n ≤ 1048576) :
    Calls Try.prog 75 #[.slice A n c] w fun e w' => e = .returned (.chan (some w.heap.size)) ∧ w'.heap[w.heap.size]? = some (.chan n (pvals qs) true n 0 false) ∧ Below w.heap.size w w' := by
  have H := Lib.hid h
  have hmc := mk_chan n hb
  have HLN := Lib.hid h.1
  have HB0 := Lib.hid hB0
  clear h hB0
  go_enter Try.func75, Try.ntmps75
  go_wp2
  clear hmc
  have H1 : Hid ((w.alloc (.chan n #[] false 0 0 false)).heap[w.heap.size]? = some (.chan n (pvals (qs.take 0)) false 0 0 false)) := World.alloc_heap_new w _
  go_loopw [11] (fun i wr => ∃ k : Nat, k ≤ n ∧ i = .int .i64 k ∧ Hid (wr.heap[w.heap.size]? = some (.chan n (pvals (qs.take k)) false k 0 false)) ∧ Below w.heap.size w wr) (fun i _ => n - (intOf i).toNat)
  case atStart => exact ⟨0, Nat.zero_le _, rfl, H1, (Below.refl _ w).alloc (Nat.le_refl _) _⟩
  case round =>
    obtain ⟨k, hk, rfl, HC, hbe⟩ := hrel
    clear H1
    by_cases hlt : k < n
    · obtain ⟨b, off, rfl, hbb, hc1⟩ := (H.out.below hbe HB0.out).2 (by omega)
      obtain ⟨g1, g2⟩ := hc1 k hlt
      have hkk : (k : Int) < (n : Int) := by omega
      obtain ⟨x, hx⟩ : ∃ x, x = (qs[k]?.getD (0, 0)).1 := ⟨_, rfl⟩
      obtain ⟨y, hy⟩ : ∃ y, y = (qs[k]?.getD (0, 0)).2 := ⟨_, rfl⟩
      rw [← hx] at g1
      rw [← hy] at g2
      have HXY := Lib.hid (And.intro hx hy)
      have HC2 : Hid ((wr.alloc (.cells #[.int .i64 x, .int .i64 y] 42)).heap[w.heap.size]? = some (.chan n (pvals (qs.take k)) false k 0 false)) := (Below.heap_alloc wr _ _ (by have := (Array.getElem?_eq_some_iff.1 HC.out).1; omega)).trans HC.out
      have HBE := Lib.hid (hbe.alloc hbe.size (.cells #[.int .i64 x, .int .i64 y] 42))
      clear hc1 hx hy HC hbe
      go_upto_region 5 with fail
      refine OpsTo.region ?_
      change OpsTo _ _ _ [0, 1, 2] _ _
      refine OpsTo.value (w' := wr.alloc (.cells #[.int .i64 x, .int .i64 y] 42)) (v := .chan (some w.heap.size)) rfl rfl (by simp [go_sem, execOp, Act.eval]) ?_
      refine OpsTo.value (w' := wr.alloc (.cells #[.int .i64 x, .int .i64 y] 42)) (v := .agg #[.int .i64 x, .int .i64 y]) rfl rfl (by simp [go_sem, execOp, Act.eval]) ?_
      refine OpsTo.send (w' := wr.alloc (.cells #[.int .i64 x, .int .i64 y] 42)) (c := w.heap.size) (cap := n) (s := k) (r := 0) (tm := false) (v := .agg #[.int .i64 x, .int .i64 y]) (z := .tuple #[]) rfl rfl (by simp [execOp, scase, Act.eval, Act.put]) HC2.out (by rw [pvals_size, List.length_take]; omega) ?_
      refine OpsTo.nil ?_
      have HC3 : Hid (((wr.alloc (.cells #[.int .i64 x, .int .i64 y] 42)).setChan w.heap.size n ((pvals (qs.take k)).push (.agg #[.int .i64 x, .int .i64 y])) false (k + 1) 0 false).heap[w.heap.size]? = some (.chan n (pvals (qs.take (k + 1))) false (k + 1) 0 false)) := by
        show _ = _
        rw [heap_setChan _ _ _ _ _ _ _ _ (by have := (Array.getElem?_eq_some_iff.1 HC2.out).1; exact this), pvals_push, HXY.out.1, HXY.out.2, take_snoc (by have := HLN.out; omega) (0, 0)]
      have HB3 := Lib.hid (setChan_below HBE.out (Nat.le_refl _) n ((pvals (qs.take k)).push (.agg #[.int .i64 x, .int .i64 y])) false (k + 1) 0 false)
      clear HC2 HBE
      go_wp2
      go_roundw
      case rel => exact ⟨k + 1, by omega, by go_num, HC3, HB3.out⟩
      case measure => simp [intOf]; omega
    · obtain rfl : k = n := by omega
      have hcl := fun ats ty => run_close_open (P := Try.prog) (w := wr) ats ty HC.out
      go_wp2
      clear hcl
      go_ret
      refine ⟨rfl, ?_, ?_⟩
      · have := heap_setChan wr w.heap.size k (pvals (qs.take k)) true k 0 false (Array.getElem?_eq_some_iff.1 HC.out).1
        rw [List.take_of_length_le (show qs.length ≤ k by have := HLN.out; omega)] at this ⊢
        exact this
      · exact setChan_below hbe (Nat.le_refl _) k (pvals (qs.take k)) true k 0 false

set_option maxRecDepth 100000 in
set_option maxHeartbeats 4000000 in
theorem joinComing_any (r : Int) (hr : 0 ≤ r ∧ r ≤ 2) (J M N n C m s : Nat) (qs : List (Int × Int)) (sz ht : Nat → Nat) (u : List Int) (w : World) (hm : MemK w M N n n sz ht) (hj : Boxed w J 136 (.slice (some ⟨M, 0, none⟩) n n)) (hN : Nd w N u) (hNM : N < M) (hMJ : M < J) (hJC : J < C) (hv : fvB u = true) (hn : u.length = n) (hs : RootsTell u sz ht)
    (hq : okQ (n : Int) qs = true) (hc : w.heap[C]? = some (.chan m (pvals qs) true s 0 false)) :
    Calls Try.prog 74 #[.pointer (some ⟨J, 0, none⟩), .iface (ruleT r) (.agg #[]), .chan (some C)] w fun e w' =>
      ∃ v, e = .returned v ∧ Own w' w.heap.size v (useTo u r (natP qs) qs.length) ∧ Nd w' N (allL u r (natP qs)) ∧ (∃ sz' ht', MemK w' M N n n sz' ht' ∧ RootsTell (allL u r (natP qs)) sz' ht') ∧ Chg (fun k => k = N ∨ k = M ∨ k = C) w w' := by
  obtain ⟨ps, hps⟩ : ∃ ps, ps = natP qs := ⟨_, rfl⟩
  have hin : inP n ps := by rw [hps]; exact okQ_in hq
  have hpl : ps.length = qs.length := by rw [hps, natP_len]
  obtain ⟨L, hL⟩ : ∃ L, L = qs.length := ⟨_, rfl⟩
  rw [← hps, ← hL]
  have H0 : Hid (∀ wr (uv : Value) (k : Nat), k ≤ L → wr.heap[C]? = some (.chan m (pvals (qs.drop k)) true s k false) → Own wr w.heap.size uv (useTo u r ps k) → Nd wr N (allL u r (ps.take k)) → (∃ sz' ht', MemK wr M N n n sz' ht' ∧ RootsTell (allL u r (ps.take k)) sz' ht') → Chg (fun k => k = N ∨ k = M ∨ k = C) w wr → True) := fun _ _ _ _ _ _ _ _ _ => trivial
  have HI := Lib.hid (And.intro hin (And.intro hpl (And.intro hL (And.intro hv (And.intro hn (And.intro hq (And.intro hNM (And.intro hMJ (And.intro hJC (And.intro hr hj))))))))))
  have HPS := Lib.hid hps
  have hlt0 : C < w.heap.size := (Array.getElem?_eq_some_iff.1 hc).1
  have HLT := Lib.hid hlt0
  have HST : Hid (w.heap[C]? = some (.chan m (pvals (qs.drop 0)) true s 0 false) ∧ Nd w N (allL u r (ps.take 0)) ∧ (∃ sz' ht', MemK w M N n n sz' ht' ∧ RootsTell (allL u r (ps.take 0)) sz' ht')) := ⟨hc, hN, sz, ht, hm, hs⟩
  have h24 : L ≤ 24 := by have := (okQ_parts hq).1; omega
  clear hm hj hN hNM hMJ hJC hv hn hs hq hc hps hin hpl hL hr hlt0 H0
  go_enter Try.func74, Try.ntmps74
  go_wp2_with fail
  go_loopw [7, 8] (fun uv c wr => ∃ k : Nat, k ≤ L ∧ c = .int .i64 k ∧ Hid (wr.heap[C]? = some (.chan m (pvals (qs.drop k)) true s k false) ∧ Own wr w.heap.size uv (useTo u r ps k) ∧ Nd wr N (allL u r (ps.take k)) ∧ (∃ sz' ht', MemK wr M N n n sz' ht' ∧ RootsTell (allL u r (ps.take k)) sz' ht') ∧ Chg (fun k => k = N ∨ k = M ∨ k = C) w wr)) (fun _ c _ => L - (intOf c).toNat)
  case atStart => exact ⟨0, Nat.zero_le _, rfl, HST.out.1, ⟨by simp [useTo_zero], .inl ⟨rfl, by simp [useTo_zero]⟩⟩, HST.out.2.1, HST.out.2.2, Chg.refl _ _⟩
  case round =>
    obtain ⟨k, hk, rfl, HH⟩ := hrel
    by_cases hlt : k < L
    · obtain ⟨x, hx⟩ : ∃ x, x = (qs[k]?.getD (0, 0)).1 := ⟨_, rfl⟩
      obtain ⟨y, hy⟩ : ∃ y, y = (qs[k]?.getD (0, 0)).2 := ⟨_, rfl⟩
      have hhd := pvals_head (qs := qs) (k := k) (by have := HI.out.2.2.1; omega)
      rw [← hx, ← hy] at hhd
      have hg := okQ_get HI.out.2.2.2.2.2.1 (k := k) (by have := HI.out.2.2.1; omega)
      rw [← HPS.out, ← hx, ← hy] at hg
      obtain ⟨a, ha⟩ : ∃ a, a = (ps[k]?.getD (0, 0)).1 := ⟨_, rfl⟩
      obtain ⟨b, hb⟩ : ∃ b, b = (ps[k]?.getD (0, 0)).2 := ⟨_, rfl⟩
      rw [← ha, ← hb] at hg
      rw [hg.1, hg.2] at hhd
      have HHD := Lib.hid hhd
      have hpk : k < ps.length := by have := HI.out.2.1; have := HI.out.2.2.1; omega
      have hpn := HI.out.1.get hpk
      have hsucc := allL_succ u r hpk
      have huse : useB u r ps k = !decide (rootI (allL u r (ps.take k)) a = rootI (allL u r (ps.take k)) b) := by rw [ha, hb]; rfl
      rw [← ha, ← hb] at hpn hsucc
      obtain ⟨hch, hown, hNd, ⟨sz', ht', hm, hrt⟩, hchg⟩ := HH.out
      obtain ⟨v, hvd⟩ : ∃ v, v = allL u r (ps.take k) := ⟨_, rfl⟩
      rw [← hvd] at hNd hrt hsucc huse
      have hvl : v.length = n := by rw [hvd, allL_len]; exact HI.out.2.2.2.2.1
      have hvv : fvB v = true := by rw [hvd]; exact allL_fv HI.out.2.2.2.1 r (by rw [HI.out.2.2.2.2.1]; exact HI.out.1.take)
      obtain ⟨W, hW⟩ : ∃ W, W = (wr.setChan C m (pvals (qs.drop (k + 1))) true s (k + 1) false).alloc (.cells #[.int .i64 (a : Int), .int .i64 (b : Int)] 42) := ⟨_, rfl⟩
      have hCr : C < wr.heap.size := (Array.getElem?_eq_some_iff.1 hch).1
      have hNC : N ≠ C := by have := HI.out; omega
      have hMC : M ≠ C := by have := HI.out; omega
      have hJC' : J ≠ C := by have := HI.out; omega
      have hWh : ∀ i, i < wr.heap.size → i ≠ C → W.heap[i]? = wr.heap[i]? := fun i hi hc => by
        rw [hW]
        exact (Below.heap_alloc _ _ _ (by rw [size_setChan]; exact hi)).trans (setChan_heap wr hc _ _ _ _ _ _)
      have hWC : W.heap[C]? = some (.chan m (pvals (qs.drop (k + 1))) true s (k + 1) false) := by
        rw [hW]
        exact (Below.heap_alloc _ _ _ (by rw [size_setChan]; exact hCr)).trans (heap_setChan wr C _ _ _ _ _ _ hCr)
      have hWs : W.heap.size = wr.heap.size + 1 := by rw [hW]; simp [size_setChan]
      have hWchg : Chg (fun k => k = N ∨ k = M ∨ k = C) w W := by rw [hW]; exact (hchg.chan (.inl (.inr (.inr rfl))) _ _ _ _ _ _).alloc _
      have hWown : Own W w.heap.size u7 (useTo u r ps k) := hown.chg (S := fun k => k = C) ⟨by rw [hW]; rfl, by rw [hW]; rfl, by rw [hW]; rfl, by omega, fun i hi hne => hWh i hi hne⟩ (fun i hi => by have := HLT.out; omega)
      have hJr : J < w.heap.size := Boxed.lt HI.out.2.2.2.2.2.2.2.2.2.2
      have hWJ : Boxed W J 136 (.slice (some ⟨M, 0, none⟩) n n) := (hWchg.block J hJr (by have := HI.out; omega)).trans HI.out.2.2.2.2.2.2.2.2.2.2
      have JN := Lib.hid (join_any r HI.out.2.2.2.2.2.2.2.2.2.1 J M N n a b sz' ht' v W (hm.eq (hWh M hm.lt hMC)) hWJ (hNd.eq (hWh N hNd.lt hNC)) (by have := HI.out; omega) hvv hvl hpn.1 hpn.2 hrt)
      have HST2 := Lib.hid (And.intro hWC (And.intro hWchg (And.intro hWown (And.intro hsucc (And.intro hWs hCr)))))
      obtain ⟨d, hd⟩ : ∃ d, d = useB u r ps k := ⟨_, rfl⟩
      rw [← huse, ← hd] at JN
      have HD := Lib.hid hd
      have HW := Lib.hid hW
      have hlen := useTo_len u r ps k
      clear hx hy hhd ha hb hpk hpn hsucc huse hch hown hNd hm hrt hchg hvd hvl hvv hCr hNC hMC hJC' hWh hWC hWs hWchg hWown hWJ hJr hd hW hg
      go_upto_region 4 with fail
      refine OpsTo.region ?_
      change OpsTo _ _ _ [0, 1] _ _
      refine OpsTo.recv (w' := wr) (c := C) (cap := m) (s := s) (r := k) (buf := pvals (qs.drop k)) (closed := true) (tm := false) (ok := true) (z := .agg #[.int .i64 0, .int .i64 0]) rfl rfl (by simp [go_sem, rcase, execOp, Act.eval]) HH.out.1 (by rw [pvals_size, List.length_drop]; have := HI.out.2.2.1; omega) ?_
      rw [HHD.out, pvals_tail]
      refine OpsTo.value (w' := wr.setChan C m (pvals (qs.drop (k + 1))) true s (k + 1) false) (v := .bool true) rfl rfl (by simp [go_sem, execOp, Act.eval, got]) ?_
      refine OpsTo.nil ?_
      simp only [got]
      go_wp2_with fail
      rw [← HW.out]
      refine JN.out.mono ?_
      rintro e w3 ⟨rfl, hN3, hm3, hc3⟩
      have hchg3 : Chg (fun k => k = N ∨ k = M ∨ k = C) w w3 := HST2.out.2.1.trans (hc3.weak fun i hi => by rcases hi with h | h <;> simp [h])
      have hC3 : w3.heap[C]? = some (.chan m (pvals (qs.drop (k + 1))) true s (k + 1) false) := (hc3.block C (by have := HST2.out.2.2.2.2; omega) (by have := HI.out; omega)).trans HST2.out.1
      have hown3 : Own w3 w.heap.size u7 (useTo u r ps k) := HST2.out.2.2.1.chg hc3 (fun i hi => by
        have := HI.out
        have := HLT.out
        omega)
      rw [← HST2.out.2.2.2.1] at hN3 hm3
      have hsz3 : w.heap.size ≤ w3.heap.size := hchg3.size
      cases d with
      | true =>
        have HU := Lib.hid (useTo_yes HD.out.symm)
        have H3 := Lib.hid (And.intro hC3 (And.intro hN3 (And.intro hm3 hchg3)))
        clear hC3 hN3 hm3 hchg3 hc3
        go_wp2_with (at_builtin; go_must (refine wpList_push rfl (.tmp 18) (.tmp 20) rfl w3 w.heap.size u7 (useTo u r ps k) (k : Int) rfl rfl hown3 (by omega) hsz3 ?_); intro v' w4 ho4 hg4 _)
        have hr4 : ∀ z, u7.ownBlock = some z → w.heap.size ≤ z := fun z hz => (hown3.blockOf z hz).1
        have hk4 : ∀ i, i < w.heap.size → i < w3.heap.size → w4.heap[i]? = w3.heap[i]? := fun i hi hi3 => hg4.block i hi3 (fun e => by have := hr4 i e.symm; omega)
        have hN4 := H3.out.2.1.eq (hk4 N (by have := HI.out; have := HLT.out; omega) H3.out.2.1.lt)
        have hm4 : ∃ sz' ht', MemK w4 M N n n sz' ht' ∧ RootsTell (allL u r (ps.take (k + 1))) sz' ht' := by
          obtain ⟨s1, t1, h1, h2⟩ := H3.out.2.2.1
          exact ⟨s1, t1, h1.eq (hk4 M (by have := HI.out; have := HLT.out; omega) h1.lt), h2⟩
        have hC4 := (hk4 C HLT.out (Array.getElem?_eq_some_iff.1 H3.out.1).1).trans H3.out.1
        have hchg4 := H3.out.2.2.2.grown hg4 hr4
        rw [← HU.out] at ho4
        have H4 := Lib.hid (And.intro hC4 (And.intro ho4 (And.intro hN4 (And.intro hm4 hchg4))))
        clear ho4 hg4 hr4 hk4 hN4 hm4 hC4 hchg4 hown3
        go_wp2
        go_roundw
        case rel => exact ⟨k + 1, by omega, by go_num, H4⟩
        case measure => simp [intOf]; omega
      | false =>
        have HU := Lib.hid (useTo_no HD.out.symm)
        have H4 : Hid (w3.heap[C]? = some (.chan m (pvals (qs.drop (k + 1))) true s (k + 1) false) ∧ Own w3 w.heap.size u7 (useTo u r ps (k + 1)) ∧ Nd w3 N (allL u r (ps.take (k + 1))) ∧ (∃ sz' ht', MemK w3 M N n n sz' ht' ∧ RootsTell (allL u r (ps.take (k + 1))) sz' ht') ∧ Chg (fun k => k = N ∨ k = M ∨ k = C) w w3) := ⟨hC3, by rw [HU.out]; exact hown3, hN3, hm3, hchg3⟩
        clear hC3 hN3 hm3 hchg3 hc3 hown3
        go_wp2
        go_roundw
        case rel => exact ⟨k + 1, by omega, by go_num, H4⟩
        case measure => simp [intOf]; omega
    · obtain rfl : k = L := by omega
      have hch := HH.out.1
      have hnil : pvals (qs.drop k) = #[] := by
        rw [List.drop_eq_nil_of_le (by have := HI.out.2.2.1; omega)]
        rfl
      rw [hnil] at hch
      have HCH := Lib.hid hch
      have hps : ps.take k = ps := List.take_of_length_le (by have := HI.out.2.1; have := HI.out.2.2.1; omega)
      have HE : Hid (Own wr w.heap.size u7 (useTo u r ps k) ∧ Nd wr N (allL u r ps) ∧ (∃ sz' ht', MemK wr M N n n sz' ht' ∧ RootsTell (allL u r ps) sz' ht') ∧ Chg (fun k => k = N ∨ k = M ∨ k = C) w wr) := by
        have := HH.out.2
        rw [hps] at this
        exact this
      clear hch hnil hps
      go_upto_region 4 with fail
      refine OpsTo.region ?_
      change OpsTo _ _ _ [0, 1] _ _
      refine OpsTo.shut (w' := wr) (c := C) (cap := m) (s := s) (r := k) (tm := false) (ok := true) (z := .agg #[.int .i64 0, .int .i64 0]) rfl rfl (by simp [go_sem, rcase, execOp, Act.eval]) HCH.out ?_
      refine OpsTo.value (w' := wr) (v := .bool false) rfl rfl (by simp [go_sem, execOp, Act.eval, got]) ?_
      refine OpsTo.nil ?_
      simp only [got]
      go_wp2
      go_ret
      exact ⟨_, rfl, HE.out⟩
end Go.Proofs.Ytebgnaiibomjkaa
