/- Sending pairs over a channel with room, and joining those that come: the loop over a channel in one goroutine. Condition: lengths up to 1048576. -/
import Derived.Conc.LoneCalls
import Derived.Deep.Cut
import Derived.Test.YtfmhdngblpmcfaaDoorJoins
import Derived.Test.YtfmhdngblpmcfaaDoorPairs
namespace Go.Proofs.YtfmhdngblpmcfaaDoor
open Go.Conc

/-- The machine of one carries out the operations l of a region, and comes out with Q. -/
def OpsTo (P : Program) (ops : Array Oper) (Q : Exit → Act → World → Prop) (l : List Nat) (a : Act) (w : World) : Prop :=
  ∀ (b : Frame) (k : List Item) (cs : List Frame), ∃ e a' w', Q e a' w' ∧ Arrives P (lone (b.at a (.inRegion ops l :: k)) cs w) b k cs e a' w'
section
variable {P : Program} {ops : Array Oper} {Q : Exit → Act → World → Prop} {rest : List Nat} {i : Nat} {a a' : Act} {w w' : World} {o : Oper}
theorem OpsTo.of_ops {l : List Nat} (h : wpOps P ops Q l a w) : OpsTo P ops Q l a w := fun b k cs => wp_ops l a w h b k cs
theorem OpsTo.nil (h : Q .normal a w) : OpsTo P ops Q [] a w := fun _ _ _ => ⟨.normal, a, w, h, .one step_region_end⟩
theorem OpsTo.region {id : Nat} (h : OpsTo P ops Q (List.range ops.size) a w) : (Code.region id ops false).wp P Q a w :=
  fun b k cs => let ⟨e, a', w', q, r⟩ := h b k cs; ⟨e, a', w', q, .of_steps (.one step_region) r⟩
theorem OpsTo.next (hs : ∀ (b : Frame) (k : List Item) (cs : List Frame), Go.step P (lone (b.at a (.inRegion ops (i :: rest) :: k)) cs w) = .next (lone (b.at a' (.inRegion ops rest :: k)) cs w')) (h : OpsTo P ops Q rest a' w') : OpsTo P ops Q (i :: rest) a w :=
  fun b k cs => let ⟨e, a2, w2, q, r⟩ := h b k cs; ⟨e, a2, w2, q, .of_steps (.one (hs b k cs)) r⟩
theorem fin_at (b : Frame) (k : List Item) (ho : ops[i]? = some o) (v : Value) : (b.at a (.inRegion ops (i :: rest) :: k)).finish v = b.at (a.put o.dst v) (.inRegion ops rest :: k) := by
  rw [Frame.finish_at, ho]; rfl
theorem OpsTo.value {v : Value} (ho : ops[i]? = some o) (hw : Region.wanted o (yielded ops a.tmps) = true) (hr : (execOp a.eval o).run P w = .ok (.value v) w') (h : OpsTo P ops Q rest (a.put o.dst v) w') : OpsTo P ops Q (i :: rest) a w :=
  .next (fun b k cs => step_lone_go (by
    rw [stepG_op ho hw, ← fin_at b k ho]
    simp [stepG.apply, hr])) h
theorem OpsTo.skip (ho : ops[i]? = some o) (hw : Region.wanted o (yielded ops a.tmps) = true) (hr : (execOp a.eval o).run P w = .ok .skip w') (h : OpsTo P ops Q rest (a.put o.dst undef) w') : OpsTo P ops Q (i :: rest) a w :=
  .next (fun b k cs => step_lone_go (by
    rw [stepG_op ho hw, ← fin_at b k ho]
    simp [stepG.apply, hr])) h
theorem comm_step (b : Frame) (k : List Item) (cs : List Frame) {cases : Array CommCase} {blocking : Bool} {shape : CommShape} (ho : ops[i]? = some o) (hw : Region.wanted o (yielded ops a.tmps) = true) (hr : (execOp a.eval o).run P w = .ok (.comm cases blocking shape) w') :
    ∃ es, stepG P true (G (b.at a (.inRegion ops (i :: rest) :: k)) cs) w = .comm (G (b.at a (.inRegion ops (i :: rest) :: k)) cs) cases blocking shape w' es := by
  rw [stepG_oper ho hw]
  simp [stepG.apply, hr, G, GStep.after]
theorem OpsTo.send {c cap s r : Nat} {buf : Array Value} {tm : Bool} {v z : Value} (ho : ops[i]? = some o) (hw : Region.wanted o (yielded ops a.tmps) = true) (hr : (execOp a.eval o).run P w = .ok (.comm #[scase c v z] true .send) w')
    (hc : w'.heap[c]? = some (.chan cap buf false s r tm)) (hroom : buf.size < cap) (h : OpsTo P ops Q rest (a.put o.dst undef) (w'.setChan c cap (buf.push v) false (s + 1) r tm)) : OpsTo P ops Q (i :: rest) a w :=
  .next (fun b k cs => by
    obtain ⟨es, he⟩ := comm_step b k cs ho hw hr
    rw [← fin_at b k ho]
    exact step_lone_send_room he hc hroom) h
theorem OpsTo.recv {c cap s r : Nat} {buf : Array Value} {closed tm ok : Bool} {z : Value} (ho : ops[i]? = some o) (hw : Region.wanted o (yielded ops a.tmps) = true) (hr : (execOp a.eval o).run P w = .ok (.comm #[rcase c z] true (.recv ok)) w')
    (hc : w'.heap[c]? = some (.chan cap buf closed s r tm)) (hsome : 0 < buf.size) (h : OpsTo P ops Q rest (a.put o.dst (got ok (buf.getD 0 undef) true)) (w'.setChan c cap (buf.extract 1 buf.size) closed s (r + 1) tm)) : OpsTo P ops Q (i :: rest) a w :=
  .next (fun b k cs => by
    obtain ⟨es, he⟩ := comm_step b k cs ho hw hr
    rw [← fin_at b k ho]
    exact step_lone_recv_buf ok he hc hsome) h
theorem OpsTo.shut {c cap s r : Nat} {tm ok : Bool} {z : Value} (ho : ops[i]? = some o) (hw : Region.wanted o (yielded ops a.tmps) = true) (hr : (execOp a.eval o).run P w = .ok (.comm #[rcase c z] true (.recv ok)) w')
    (hc : w'.heap[c]? = some (.chan cap #[] true s r tm)) (h : OpsTo P ops Q rest (a.put o.dst (got ok z false)) w') : OpsTo P ops Q (i :: rest) a w :=
  .next (fun b k cs => by
    obtain ⟨es, he⟩ := comm_step b k cs ho hw hr
    rw [← fin_at b k ho]
    exact step_lone_recv_shut ok he hc) h
end
end Go.Proofs.YtfmhdngblpmcfaaDoor

namespace Go.Proofs.YtfmhdngblpmcfaaDoor
open Go.RowKit Go.Shelf Go.Conc

/-- What a channel of pairs holds. -/
def pvals (qs : List (Int × Int)) : Array Value := (qs.map fun p => Value.agg #[.int .i64 p.1, .int .i64 p.2]).toArray
theorem pvals_size (qs : List (Int × Int)) : (pvals qs).size = qs.length := by simp [pvals]
theorem pvals_push (qs : List (Int × Int)) (x y : Int) : (pvals qs).push (.agg #[.int .i64 x, .int .i64 y]) = pvals (qs ++ [(x, y)]) := by simp [pvals]
theorem pvals_head {qs : List (Int × Int)} {k : Nat} (h : k < qs.length) : (pvals (qs.drop k)).getD 0 undef = .agg #[.int .i64 (qs[k]?.getD (0, 0)).1, .int .i64 (qs[k]?.getD (0, 0)).2] := by
  rw [List.drop_eq_getElem_cons h, List.getElem?_eq_getElem h]
  simp [pvals, List.getElem?_eq_getElem h]
theorem pvals_tail {qs : List (Int × Int)} {k : Nat} : (pvals (qs.drop k)).extract 1 (pvals (qs.drop k)).size = pvals (qs.drop (k + 1)) := by
  unfold pvals
  simp only [List.size_toArray, List.length_map, List.length_drop, List.extract_toArray, List.extract_eq_take_drop, List.map_drop, List.drop_drop]
  rw [List.take_of_length_le (by simp; omega)]
theorem setChan_below {B : Nat} {a w : World} (h : Below B a w) {c : Nat} (hc : B ≤ c) (cap : Nat) (buf : Array Value) (cl : Bool) (s r : Nat) (tm : Bool) : Below B a (w.setChan c cap buf cl s r tm) := below_setChan h hc cap buf cl s r tm
theorem setChan_heap (w : World) {c i : Nat} (hi : i ≠ c) (cap : Nat) (buf : Array Value) (cl : Bool) (s r : Nat) (tm : Bool) : (w.setChan c cap buf cl s r tm).heap[i]? = w.heap[i]? := by
  unfold World.setChan
  simp only
  rw [Array.getElem?_setIfInBounds_ne (fun e => hi e.symm)]
theorem Chg.chan {S : Nat → Prop} {a b : World} (h : Chg S a b) {c : Nat} (hc : S c ∨ a.heap.size ≤ c) (cap : Nat) (buf : Array Value) (cl : Bool) (s r : Nat) (tm : Bool) : Chg S a (b.setChan c cap buf cl s r tm) :=
  ⟨h.os, h.tape, h.output, by rw [size_setChan]; exact h.size, fun k hk hn => (setChan_heap b (fun e => by
    rcases hc with hc | hc
    · exact hn (by rw [e]; exact hc)
    · omega) cap buf cl s r tm).trans (h.block k hk hn)⟩
theorem Chg.grown {S : Nat → Prop} {a b c : World} {row : Option Nat} (h : Chg S a b) (hg : b.grownBy c row) (hr : ∀ r, row = some r → a.heap.size ≤ r) : Chg S a c :=
  ⟨hg.os.trans h.os, hg.tape.trans h.tape, hg.output.trans h.output, Nat.le_trans h.size hg.size, fun k hk hn => (hg.block k (Nat.lt_of_lt_of_le hk h.size) (fun e => by have := hr k e.symm; omega)).trans (h.block k hk hn)⟩
theorem Own.chg {S : Nat → Prop} {w w' : World} {base : Nat} {v : Value} {zs : List Int} (h : Own w base v zs) (hc : Chg S w w') (hS : ∀ i, S i → i < base) : Own w' base v zs := by
  refine ⟨h.1, ?_⟩
  rcases h.2 with h0 | ⟨g, cap, cur, hv, hbase, hg, hr⟩
  · exact .inl h0
  · refine .inr ⟨g, cap, cur, hv, hbase, (hc.block g (Array.getElem?_eq_some_iff.1 hg).1 (fun hs => by have := hS g hs; omega)).trans hg, hr⟩
end Go.Proofs.YtfmhdngblpmcfaaDoor