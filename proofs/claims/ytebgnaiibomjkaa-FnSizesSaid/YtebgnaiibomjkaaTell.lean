/- What SizesOf and HeightsOf tell of a member, and told: the list of it for all members. Condition: lengths up to 1048576. -/
import Derived.Test.YtebgnaiibomjkaaImpl
import Derived.Test.YtebgnaiibomjkaaHang
import Derived.Laws.Rows
import Derived.Test.YtebgnaiibomjkaaIter
import Derived.StillTailTactics
import Derived.Deep.QuietTactic
import Derived.Sort.BigQuietIn
import Derived.BigRegionIn
import Derived.BigQuiet
import Derived.Test.YtebgnaiibomjkaaLook
namespace Go.Proofs.Ytebgnaiibomjkaa
open Go.RowKit Go.Shelf

/-- Block M holds the members of n items, those below k with the addresses of their nodes in block N. -/
def MemK (W : World) (M N n k : Nat) (sz ht : Nat → Nat) : Prop :=
  ∃ cur : Array Value, W.heap[M]? = some (.cells cur 114 (0, 0)) ∧ ∀ x, x < n →
    cur[x * 3]? = some (.pointer (if x < k then some (nadr N x) else none)) ∧ cur[x * 3 + 1]? = some (.int .i64 (sz x : Int)) ∧ cur[x * 3 + 2]? = some (.int .i64 (ht x : Int))
theorem MemK.lt {W : World} {M N n k : Nat} {sz ht : Nat → Nat} (h : MemK W M N n k sz ht) : M < W.heap.size := by
  obtain ⟨cur, hb, _⟩ := h
  exact (Array.getElem?_eq_some_iff.1 hb).1
theorem MemK.cells {W : World} {M N n k : Nat} {sz ht : Nat → Nat} (h : MemK W M N n k sz ht) {x : Nat} (hx : x < n) :
    (W.cell? ⟨M, x * 3, none⟩ = some (.pointer (if x < k then some (nadr N x) else none)) ∧ W.cell? ⟨M, x * 3 + 1, none⟩ = some (.int .i64 (sz x : Int)) ∧ W.cell? ⟨M, x * 3 + 2, none⟩ = some (.int .i64 (ht x : Int))) ∧
      W.frozen? ⟨M, x * 3, none⟩ = false ∧ W.frozen? ⟨M, x * 3 + 1, none⟩ = false ∧ W.frozen? ⟨M, x * 3 + 2, none⟩ = false := by
  obtain ⟨cur, hb, hc⟩ := h
  refine ⟨⟨?_, ?_, ?_⟩, ?_, ?_, ?_⟩
  · simp [World.cell?, hb, (hc x hx).1]
  · simp [World.cell?, hb, (hc x hx).2.1]
  · simp [World.cell?, hb, (hc x hx).2.2]
  all_goals simp [World.frozen?, hb]
theorem MemK.eq {W W' : World} {M N n k : Nat} {sz ht : Nat → Nat} (h : MemK W M N n k sz ht) (e : W'.heap[M]? = W.heap[M]?) : MemK W' M N n k sz ht := by
  obtain ⟨cur, hb, hc⟩ := h
  exact ⟨cur, e.trans hb, hc⟩
theorem MemK.below {W W' : World} {M N n k C : Nat} {sz ht : Nat → Nat} (h : MemK W M N n k sz ht) (hb : Below C W W') (hM : M < C) : MemK W' M N n k sz ht := h.eq (hb.block M hM)
theorem MemK.congr {W : World} {M N n k : Nat} {sz ht sz' ht' : Nat → Nat} (h : MemK W M N n k sz ht) (h1 : ∀ x, x < n → sz' x = sz x) (h2 : ∀ x, x < n → ht' x = ht x) : MemK W M N n k sz' ht' := by
  obtain ⟨cur, hb, hc⟩ := h
  refine ⟨cur, hb, fun x hx => ?_⟩
  rw [h1 x hx, h2 x hx]
  exact hc x hx
theorem at_set {cur : Array Value} {i j : Nat} {v : Value} (hi : i < cur.size) : (cur.setIfInBounds i v)[j]? = if i = j then some v else cur[j]? := by
  rw [Array.getElem?_setIfInBounds]
  by_cases h : i = j
  · rw [if_pos h, if_pos h, if_pos hi]
  · rw [if_neg h, if_neg h]
/-- The next node's address is stored. -/
theorem MemK.node {W : World} {M N n k : Nat} {sz ht : Nat → Nat} (h : MemK W M N n k sz ht) (hk : k < n) : MemK (W.setCell ⟨M, k * 3, none⟩ (.pointer (some (nadr N k)))) M N n (k + 1) sz ht := by
  obtain ⟨cur, hb, hc⟩ := h
  refine ⟨_, heap_set W M _ _ hb, fun x hx => ?_⟩
  obtain ⟨h1, h2, h3⟩ := hc x hx
  have hlt : k * 3 < cur.size := (Array.getElem?_eq_some_iff.1 (hc k hk).1).1
  refine ⟨?_, ?_, ?_⟩
  · rw [at_set hlt]
    by_cases e : x = k
    · subst e; rw [if_pos rfl, if_pos (Nat.lt_succ_self x)]
    · rw [if_neg (by omega), h1]
      by_cases hx2 : x < k
      · rw [if_pos hx2, if_pos (by omega)]
      · rw [if_neg hx2, if_neg (by omega)]
  · rw [at_set hlt, if_neg (by omega), h2]
  · rw [at_set hlt, if_neg (by omega), h3]
theorem MemK.size {W : World} {M N n k : Nat} {sz ht : Nat → Nat} (h : MemK W M N n k sz ht) {a : Nat} (ha : a < n) (z : Nat) : MemK (W.setCell ⟨M, a * 3 + 1, none⟩ (.int .i64 (z : Int))) M N n k (fun x => if x = a then z else sz x) ht := by
  obtain ⟨cur, hb, hc⟩ := h
  refine ⟨_, heap_set W M _ _ hb, fun x hx => ?_⟩
  obtain ⟨h1, h2, h3⟩ := hc x hx
  have hlt : a * 3 + 1 < cur.size := (Array.getElem?_eq_some_iff.1 (hc a ha).2.1).1
  refine ⟨?_, ?_, ?_⟩
  · rw [at_set hlt, if_neg (show ¬ a * 3 + 1 = x * 3 by omega), h1]
  · rw [at_set hlt]
    by_cases e : x = a
    · subst e; rw [if_pos rfl]; simp
    · rw [if_neg (show ¬ a * 3 + 1 = x * 3 + 1 by omega), h2]; simp [e]
  · rw [at_set hlt, if_neg (show ¬ a * 3 + 1 = x * 3 + 2 by omega), h3]
theorem MemK.height {W : World} {M N n k : Nat} {sz ht : Nat → Nat} (h : MemK W M N n k sz ht) {a : Nat} (ha : a < n) (z : Nat) : MemK (W.setCell ⟨M, a * 3 + 2, none⟩ (.int .i64 (z : Int))) M N n k sz (fun x => if x = a then z else ht x) := by
  obtain ⟨cur, hb, hc⟩ := h
  refine ⟨_, heap_set W M _ _ hb, fun x hx => ?_⟩
  obtain ⟨h1, h2, h3⟩ := hc x hx
  have hlt : a * 3 + 2 < cur.size := (Array.getElem?_eq_some_iff.1 (hc a ha).2.2).1
  refine ⟨?_, ?_, ?_⟩
  · rw [at_set hlt, if_neg (show ¬ a * 3 + 2 = x * 3 by omega), h1]
  · rw [at_set hlt, if_neg (show ¬ a * 3 + 2 = x * 3 + 1 by omega), h2]
  · rw [at_set hlt]
    by_cases e : x = a
    · subst e; rw [if_pos rfl]; simp
    · rw [if_neg (show ¬ a * 3 + 2 = x * 3 + 2 by omega), h3]; simp [e]
theorem MemK.other {W : World} {M N n k : Nat} {sz ht : Nat → Nat} (h : MemK W M N n k sz ht) {B : Nat} (hB : B ≠ M) (o : Nat) (v : Value) : MemK (W.setCell ⟨B, o, none⟩ v) M N n k sz ht :=
  h.eq (Below.heap_setCell W ⟨B, o, none⟩ v M (fun e => hB e.symm))
theorem MemK.alloc {W : World} {M N n k : Nat} {sz ht : Nat → Nat} (h : MemK W M N n k sz ht) (o : Obj) : MemK (W.alloc o) M N n k sz ht := h.eq (Below.heap_alloc W o M h.lt)
theorem MemK.new {W : World} {base g n c N : Nat} (h : W.ownsRow base 114 3 (.slice (some ⟨g, 0, none⟩) n c) n (madeCells #[.pointer none, .int .i64 0, .int .i64 0] (n * 3)).toList) : MemK W g N n 0 (fun _ => 0) (fun _ => 0) := by
  rcases h.2 with ⟨hv, _⟩ | ⟨g', cap, cur, hv, hbase, hh, hnc, hm, hsz, hcells⟩
  · simp at hv
  · simp only [Value.slice.injEq, Option.some.injEq, Addr.mk.injEq, and_true, true_and] at hv
    obtain ⟨rfl, rfl⟩ := hv
    refine ⟨cur, hh, fun x hx => ?_⟩
    have hget : ∀ j, j < n * 3 → cur[j]? = (madeCells #[.pointer none, .int .i64 0, .int .i64 0] (n * 3))[j]? := fun j hj => by
      rw [← Array.getElem?_toList, ← Array.getElem?_toList, ← hcells, List.getElem?_take_of_lt hj]
    rw [hget _ (by omega), hget _ (by omega), hget _ (by omega), if_neg (by omega)]
    refine ⟨?_, ?_, ?_⟩
    · simp [madeCells, show x * 3 < n * 3 by omega]
    · simp [madeCells, show x * 3 + 1 < n * 3 by omega, show (x * 3 + 1) % 3 = 1 by omega]
    · simp [madeCells, show x * 3 + 2 < n * 3 by omega, show (x * 3 + 2) % 3 = 2 by omega]
theorem mem_from {β : Type} (B M N n k : Nat) (sz ht : β → Nat → Nat) : OwnFrom B (fun s W => MemK W M N n k (sz s) (ht s)) := by
  intro s W W' row h hg hr
  have hl := h.lt
  obtain ⟨cur, hb, hc⟩ := h
  refine ⟨cur, (hg.block M hl fun e => ?_).trans hb, hc⟩
  obtain ⟨_, o, ho, hcc⟩ := hr M e.symm
  rw [hb] at ho
  injection ho with ho
  subst ho
  simp [Obj.isCells] at hcc
theorem Try.info_member : (Try.prog.info? 114).map (fun i => (i.zero, i.size, i.bytes)) = some (some (.agg #[.pointer none, .int .i64 0, .int .i64 0]), 3, 24) := by kernel_rfl
end Go.Proofs.Ytebgnaiibomjkaa

namespace Go.Proofs.Ytebgnaiibomjkaa
open Go.RowKit

/-- The marks of the blocks D. -/
def marksOf (D : List Nat) : List Deferred := D.map fun d => { target := .collected d, args := #[] }
/-- They are open, each lies from base on and below top, and no two are one. -/
def Marked (w : World) (base : Nat) (D : List Nat) : Prop := D.Nodup ∧ ∀ d ∈ D, base ≤ d ∧ w.heap[d]? = some (.deferred (some []))
theorem marked_none (w : World) (base : Nat) : Marked w base [] := ⟨List.nodup_nil, by simp⟩
theorem Marked.lt {w : World} {base : Nat} {D : List Nat} (h : Marked w base D) : ∀ d ∈ D, d < w.heap.size := fun d hd => (Array.getElem?_eq_some_iff.1 (h.2 d hd).2).1
theorem Marked.kept {w w' : World} {base : Nat} {D : List Nat} (h : Marked w base D) (he : ∀ d ∈ D, w'.heap[d]? = w.heap[d]?) : Marked w' base D :=
  ⟨h.1, fun d hd => ⟨(h.2 d hd).1, (he d hd).trans (h.2 d hd).2⟩⟩
theorem Marked.grown {w w' : World} {base : Nat} {D : List Nat} {row : Option Nat} (h : Marked w base D) (hg : w.grownBy w' row) (hr : ∀ r, row = some r → r ∉ D) : Marked w' base D :=
  h.kept fun d hd => hg.block d (h.lt d hd) (fun e => hr d e.symm hd)
theorem Marked.below {w w' : World} {base : Nat} {D : List Nat} (h : Marked w base D) (hb : Below w.heap.size w w') : Marked w' base D :=
  h.kept fun d hd => hb.block d (h.lt d hd)
theorem Marked.more {w : World} {base d : Nat} {D : List Nat} (h : Marked w base D) (hd : w.heap[d]? = some (.deferred (some []))) (hb : base ≤ d) (hn : d ∉ D) : Marked w base (d :: D) :=
  ⟨List.nodup_cons.2 ⟨hn, h.1⟩, fun x hx => by
    rcases List.mem_cons.1 hx with rfl | hx
    · exact ⟨hb, hd⟩
    · exact h.2 x hx⟩
/-- A store into a block of cells touches no mark. -/
theorem Marked.setCell {w : World} {base b : Nat} {D : List Nat} (h : Marked w base D) (hb : ∃ cs t f, w.heap[b]? = some (.cells cs t f)) (o : Nat) (v : Value) : Marked (w.setCell ⟨b, o, none⟩ v) base D :=
  h.kept fun d hd => Below.heap_setCell w ⟨b, o, none⟩ v d (fun e => by
    obtain ⟨cs, t, f, hc⟩ := hb
    have e' : d = b := e
    have := (h.2 d hd).2
    rw [e', hc] at this
    cases this)
theorem Marked.alloc {w : World} {base : Nat} {D : List Nat} (h : Marked w base D) (o : Obj) : Marked (w.alloc o) base D :=
  h.kept fun d hd => Below.heap_alloc w o d (h.lt d hd)
theorem marked_from {β : Type} (B base : Nat) (D : List Nat) (hB : ∀ d ∈ D, d < B) : OwnFrom B (fun (_ : β) W => Marked W base D) := fun _ _ _ _ h hg hr =>
  h.grown hg fun r e hm => by
    have := (hr r e).1
    have := hB r hm
    omega

/-- What of a world stays when marks are shut. -/
structure Shut (w w' : World) (base : Nat) : Prop where
  os : w'.os = w.os
  tape : w'.tape = w.tape
  output : w'.output = w.output
  size : w'.heap.size = w.heap.size
  low : ∀ k : Nat, k < base → w'.heap[k]? = w.heap[k]?
  cells : ∀ (k : Nat) cs t f, w.heap[k]? = some (Obj.cells cs t f) → w'.heap[k]? = some (Obj.cells cs t f)
theorem Shut.refl (w : World) (base : Nat) : Shut w w base := ⟨rfl, rfl, rfl, rfl, fun _ _ => rfl, fun _ _ _ _ h => h⟩
theorem Shut.below {w w' a : World} {base B : Nat} (h : Shut w w' base) (hb : Below B a w) (hB : B ≤ base) : Below B a w' :=
  ⟨h.os.trans hb.os, h.tape.trans hb.tape, h.output.trans hb.output, by rw [h.size]; exact hb.size, fun k hk => (h.low k (by omega)).trans (hb.block k hk)⟩
theorem shut_one {w w' : World} {base d : Nat} (hd : w.heap[d]? = some (.deferred (some []))) (hb : base ≤ d) (h : Shut (w.putObj d (.deferred none)) w' base) : Shut w w' base := by
  refine ⟨h.os, h.tape, h.output, by rw [h.size]; simp [World.putObj], fun k hk => ?_, fun k cs t f hk => h.cells k cs t f ?_⟩
  · rw [h.low k hk]
    exact World.putObj_heap_other (by omega)
  · rw [← hk]
    refine World.putObj_heap_other fun e => ?_
    rw [e, hd] at hk
    cases hk
/-- The marks are shut one by one; then the function hands its results over. -/
theorem leaves_marks {F : Fence} {n : Nat} {P : Program} {fn : Func} {tmps : Array Value} {R : Ending → World → Prop} {base : Nat} : ∀ (D : List Nat) (w : World), Marked w base D →
    (∀ w', Shut w w' base → ∃ v, (results fn tmps).run P w' = .ok v w' ∧ R (.returned v) w') → LeavesInM F n P fn tmps R (marksOf D) .returning w
  | [], w, _, h => h w (Shut.refl w base)
  | d :: D, w, hm, h => by
    have hd := hm.2 d (by simp)
    refine ⟨by simp, .inl ⟨d, _, rfl, run_takeDeferred hd.2, ?_⟩⟩
    refine leaves_marks D _ ⟨(List.nodup_cons.1 hm.1).2, fun x hx => ⟨(hm.2 x (List.mem_cons_of_mem _ hx)).1, ?_⟩⟩ fun w' hs => h w' (shut_one hd.2 hd.1 hs)
    rw [World.putObj_heap_other (show x ≠ d from fun e => (List.nodup_cons.1 hm.1).1 (by rw [← e]; exact hx))]
    exact (hm.2 x (List.mem_cons_of_mem _ hx)).2
end Go.Proofs.Ytebgnaiibomjkaa

namespace Go.Proofs.Ytebgnaiibomjkaa
open Go.RowKit Go.Shelf
attribute [local go_sem] Oper.semAt_some

theorem boxes2d (w : World) (t1 : TypeId) (v1 : Value) (t2 : TypeId) (v2 : Value) :
    ∃ W, W = ((w.alloc (.cells #[v1] t1)).alloc (.cells #[v2] t2)).drew ∧ Boxed W w.heap.size t1 v1 ∧ Boxed W (w.heap.size + 1) t2 v2 ∧ Below w.heap.size w W ∧ W.heap.size = w.heap.size + 2 := by
  obtain ⟨W, rfl, h1, h2, h3, h4⟩ := boxes2 w t1 v1 t2 v2
  exact ⟨_, rfl, h1, h2, ⟨h3.os, h3.tape, h3.output, h3.size, h3.block⟩, h4⟩

theorem three_blocks {W V V2 : World} {M L o1 o2 : Nat} {v1 v2 : Value} (v3 : Value) (hV : V = World.drew (W.setCell ⟨M, o1, none⟩ v1)) (hV2 : V2 = World.drew (V.setCell ⟨M, o2, none⟩ v2)) :
    (V2.setCell ⟨L, 0, none⟩ v3).os = W.os ∧ (V2.setCell ⟨L, 0, none⟩ v3).tape = W.tape ∧ (V2.setCell ⟨L, 0, none⟩ v3).output = W.output ∧ (V2.setCell ⟨L, 0, none⟩ v3).heap.size = W.heap.size ∧
      ∀ k : Nat, k ≠ M → k ≠ L → (V2.setCell ⟨L, 0, none⟩ v3).heap[k]? = W.heap[k]? := by
  subst hV2
  subst hV
  refine ⟨rfl, rfl, rfl, ?_, fun k h1 h2 => ?_⟩
  · simp [World.setCell, World.drew]
  · exact (Below.heap_setCell _ ⟨L, 0, none⟩ v3 k h2).trans ((Below.heap_setCell (World.drew (W.setCell ⟨M, o1, none⟩ v1)) ⟨M, o2, none⟩ v2 k h1).trans (Below.heap_setCell W ⟨M, o1, none⟩ v1 k h1))
theorem three_end {W W' : World} {M L C B : Nat} (h : W'.os = W.os ∧ W'.tape = W.tape ∧ W'.output = W.output ∧ W'.heap.size = W.heap.size ∧ ∀ k : Nat, k ≠ M → k ≠ L → W'.heap[k]? = W.heap[k]?) (hM : C ≤ M) (hL : C ≤ L) (hMB : M < B) (hLB : L < B) :
    KeepsFrom B W W' ∧ Below C W W' :=
  ⟨⟨by rw [h.2.2.2.1]; exact Nat.le_refl _, fun k o hk ho _ => (h.2.2.2.2 k (by omega) (by omega)).trans ho⟩, ⟨h.1, h.2.1, h.2.2.1, by rw [h.2.2.2.1]; exact Nat.le_refl _, fun k hk => h.2.2.2.2 k (by omega) (by omega)⟩⟩

/-- What a joining asks of the links that its nodes have: they lead to a root. -/
def FvG (up : List Int) : Prop := up.length ≤ 64 ∧ InB up ∧ ∀ i, i < up.length → (way up up.length i).length ≤ up.length
theorem FvG.of {up : List Int} (h : fvB up = true) : FvG up := ⟨by have := (fv_parts h).2.1; omega, fv_in h, (fv_parts h).2.2.2⟩
theorem FvG.path {up : List Int} (h : FvG up) {i : Nat} (hi : i < up.length) : Path up (some i) (way up up.length i) none := way_path (h.2.2 i hi)
theorem FvG.height {up : List Int} (h : FvG up) {k : Nat} (hk : k ≤ up.length) {pre : List Nat} (hp : pre.length ≤ 64) (x : Nat) : htAt up k pre x ≤ 64 := by
  unfold htAt
  have h1 : htTo up k x ≤ 64 := htTo_le x 64 fun j hj => by
    have h1 := htOne_le (way up up.length j) x
    have h2 := h.2.2 j (by omega)
    have h3 := h.1
    omega
  have h2 := htOne_le pre x
  omega

set_option maxRecDepth 100000 in
set_option maxHeartbeats 4000000 in
theorem joiningFrom_any (N m : Nat) (zs : List Int) (w1 : World) (hF : Fill w1 N zs m) (hlt : N < w1.heap.size) (hv : FvG zs) (hlen : zs.length = m) :
    Calls Try.prog 100 #[.slice (some ⟨N, 0, none⟩) m m] w1 fun e w' => Below w1.heap.size w1 w' ∧
      ∃ J M, e = .returned (.pointer (some ⟨J, 0, none⟩)) ∧ MemK w' M N m m (szN zs) (htN zs) ∧ Boxed w' J 136 (.slice (some ⟨M, 0, none⟩) m m) ∧ (w1.heap.size ≤ M ∧ M < J) := by
  obtain ⟨i0, hi0, hz0, hz1, hz2⟩ := info_parts Try.info_member
  refine (callsIn_wide (n := 6)).1 (callsIn_of_wp_marks Try.func100 rfl trivial (wpIn_wide.2 ?_) rfl)
  simp only [Try.ntmps100, List.size_toArray, List.length_cons, List.length_nil, Nat.reduceAdd, Nat.reduceSub, Array.replicate_succ, Array.replicate_zero, List.push_toArray, List.append_toArray, List.nil_append, List.cons_append]
  have HV := Lib.hid hv
  have hN := hF.nodes (by omega)
  have HF := Lib.hid hF
  clear hF
  have hm16 : m ≤ 64 := by have := hv.1; omega
  have hIn := Lib.hid hv.2.1
  have HL := Lib.hid hlen
  clear hv hlen
  go_wp2_with (at_make; go_must (refine wpList_make_full _ rfl _ _ 134 rfl w1.heap.size 114 i0 (.agg #[.pointer none, .int .i64 0, .int .i64 0]) 3 Try.underlying134 hi0 hz0 hz1 .i64 .i64 _ _ m rfl rfl rfl rfl (by rw [hz2]; omega) (by unfold maxLen; omega) (Nat.le_refl _) ?_); intro w2 hown hgrow)
  have hm0 : MemK w2 w1.heap.size N m 0 (fun _ => 0) (fun _ => 0) := MemK.new hown
  have hb2 : Below w1.heap.size w1 w2 := (Below.refl _ w1).grown hgrow (Nat.le_refl _) (fun k e => by cases e)
  have hM2 := hm0.lt
  obtain ⟨W0, hW0, bJ, bP, hBw, hs0⟩ := boxes2 w2 136 (.slice (some ⟨w1.heap.size, 0, none⟩) m m) 72 (.pointer (some ⟨w2.heap.size, 0, none⟩))
  rw [← hW0]
  have hm1 : MemK W0 w1.heap.size N m 0 (szAt zs 0 []) (htAt zs 0 []) := (hm0.below hBw hM2).congr (fun x _ => by simp [szAt, szTo]) (fun x _ => by simp [htAt, htTo, htOne])
  have HM1 := Lib.hid hm1
  have hb3 := hb2.trans (hBw.mono hb2.size)
  obtain ⟨J, hJ⟩ : ∃ J, J = w2.heap.size := ⟨_, rfl⟩
  rw [← hJ] at bJ bP hs0 hM2
  rw [← hJ]
  have hs0' : J + 2 ≤ W0.heap.size := by omega
  clear hm0 hm1 hb2 hBw hown hgrow hi0 hz0 hz1 hz2 hW0 hs0 hJ
  refine wp_loop (fun a' wr => ∃ u4 u5 u6 u7 u16 u17 u18 u19 u20 u21 u22 u23 u24 u25 u26 u27 u28 u29 u30 u31 u32 u33 u34 u35 u36 u37 u38 u39 u40 u41 u42 u43 u44 u45 u46 u47 u48 u49 u50 u51 u52 u53 u54 u55 u56 u57 u58 u59 u60 u61 u62 u63 u64 : Value, ∃ (k : Nat) (D : List Nat), (k ≤ m ∧ Hid (MemK wr w1.heap.size N m k (szAt zs k []) (htAt zs k [])) ∧ (Boxed wr J 136 (.slice (some ⟨w1.heap.size, 0, none⟩) m m) ∧ Boxed wr (J + 1) 72 (.pointer (some ⟨J, 0, none⟩))) ∧ Below w1.heap.size w1 wr ∧ J + 2 ≤ wr.heap.size ∧ Marked wr (J + 2) D) ∧
    a' = { tmps := #[.slice (some ⟨N, 0, none⟩) m m, undef, .pointer none, .pointer (some ⟨J + 1, 0, none⟩), u4, u5, u6, u7, .slice (some ⟨N, 0, none⟩) m m, .int .i64 (m : Int), .slice (some ⟨w1.heap.size, 0, none⟩) m m, .agg #[.slice (some ⟨w1.heap.size, 0, none⟩) m m], .pointer (some ⟨J, 0, none⟩), .slice (some ⟨N, 0, none⟩) m m, .int .i64 (m : Int), .int .i64 (k : Int), u16, u17, u18, u19, u20, u21, u22, u23, u24, u25, u26, u27, u28, u29, u30, u31, u32, u33, u34, u35, u36, u37, u38, u39, u40, u41, u42, u43, u44, u45, u46, u47, u48, u49, u50, u51, u52, u53, u54, u55, u56, u57, u58, u59, u60, u61, u62, u63, u64, undef], defers := marksOf D }) (fun a' _ => m - (intOf (a'.tmps.getD 15 undef)).toNat) ⟨_, _, _, _, _, _, _, _, _, _, _, _, _, _, _, _, _, _, _, _, _, _, _, _, _, _, _, _, _, _, _, _, _, _, _, _, _, _, _, _, _, _, _, _, _, _, _, _, _, _, _, _, _, 0, [], ⟨Nat.zero_le _, HM1, ⟨bJ, bP⟩, hb3, hs0', marked_none _ _⟩, rfl⟩ ?_
  intro a' wr hI
  obtain ⟨u4, hI⟩ := hI
  obtain ⟨u5, hI⟩ := hI
  obtain ⟨u6, hI⟩ := hI
  obtain ⟨u7, hI⟩ := hI
  obtain ⟨u16, hI⟩ := hI
  obtain ⟨u17, hI⟩ := hI
  obtain ⟨u18, hI⟩ := hI
  obtain ⟨u19, hI⟩ := hI
  obtain ⟨u20, hI⟩ := hI
  obtain ⟨u21, hI⟩ := hI
  obtain ⟨u22, hI⟩ := hI
  obtain ⟨u23, hI⟩ := hI
  obtain ⟨u24, hI⟩ := hI
  obtain ⟨u25, hI⟩ := hI
  obtain ⟨u26, hI⟩ := hI
  obtain ⟨u27, hI⟩ := hI
  obtain ⟨u28, hI⟩ := hI
  obtain ⟨u29, hI⟩ := hI
  obtain ⟨u30, hI⟩ := hI
  obtain ⟨u31, hI⟩ := hI
  obtain ⟨u32, hI⟩ := hI
  obtain ⟨u33, hI⟩ := hI
  obtain ⟨u34, hI⟩ := hI
  obtain ⟨u35, hI⟩ := hI
  obtain ⟨u36, hI⟩ := hI
  obtain ⟨u37, hI⟩ := hI
  obtain ⟨u38, hI⟩ := hI
  obtain ⟨u39, hI⟩ := hI
  obtain ⟨u40, hI⟩ := hI
  obtain ⟨u41, hI⟩ := hI
  obtain ⟨u42, hI⟩ := hI
  obtain ⟨u43, hI⟩ := hI
  obtain ⟨u44, hI⟩ := hI
  obtain ⟨u45, hI⟩ := hI
  obtain ⟨u46, hI⟩ := hI
  obtain ⟨u47, hI⟩ := hI
  obtain ⟨u48, hI⟩ := hI
  obtain ⟨u49, hI⟩ := hI
  obtain ⟨u50, hI⟩ := hI
  obtain ⟨u51, hI⟩ := hI
  obtain ⟨u52, hI⟩ := hI
  obtain ⟨u53, hI⟩ := hI
  obtain ⟨u54, hI⟩ := hI
  obtain ⟨u55, hI⟩ := hI
  obtain ⟨u56, hI⟩ := hI
  obtain ⟨u57, hI⟩ := hI
  obtain ⟨u58, hI⟩ := hI
  obtain ⟨u59, hI⟩ := hI
  obtain ⟨u60, hI⟩ := hI
  obtain ⟨u61, hI⟩ := hI
  obtain ⟨u62, hI⟩ := hI
  obtain ⟨u63, hI⟩ := hI
  obtain ⟨u64, hI⟩ := hI
  obtain ⟨k, D, ⟨hk, HM, ⟨bJ', bP'⟩, hbe, hws, hmk⟩, ha⟩ := hI
  subst ha
  clear HM1 bJ bP hb3 hs0'
  dsimp only
  by_cases hlt2 : k < m
  · have cJ := bJ'.cell
    have cP := bP'.cell
    obtain ⟨⟨q1, q2, q3⟩, q4, q5, q6⟩ := HM.out.cells hlt2
    have hkk : (k : Int) < (m : Int) := by omega
    clear q2 q3 q5 q6
    go_wp2
    go_still_tail 10, (by kernel_rfl)
    go_wp2_with (go_at_call 108; refine ((callsIn_wide (n := 2)).1 (wayUp_in Fence.wide 2 trivial rfl _ ⟨_, rfl⟩ _)).mono ?_; rintro e w' ⟨rfl, rfl⟩)
    obtain ⟨wm, hwm⟩ : ∃ wm, wm = wr.setCell ⟨w1.heap.size, k * 3, none⟩ (.pointer (some ⟨N, k * 2, none⟩)) := ⟨_, rfl⟩
    have hMm : MemK wm w1.heap.size N m (k + 1) (szAt zs k []) (htAt zs k []) := by rw [hwm]; exact HM.out.node hlt2
    have hJm : Boxed wm J 136 (.slice (some ⟨w1.heap.size, 0, none⟩) m m) := by rw [hwm]; exact (Below.heap_setCell wr ⟨w1.heap.size, k * 3, none⟩ _ J (by show J ≠ w1.heap.size; omega)).trans bJ'
    have hPm : Boxed wm (J + 1) 72 (.pointer (some ⟨J, 0, none⟩)) := by rw [hwm]; exact (Below.heap_setCell wr ⟨w1.heap.size, k * 3, none⟩ _ (J + 1) (by show J + 1 ≠ w1.heap.size; omega)).trans bP'
    have hbm : Below w1.heap.size w1 wm := by rw [hwm]; exact hbe.setCell (p := ⟨w1.heap.size, k * 3, none⟩) (Nat.le_refl _) _
    have hkm : Marked wm (J + 2) D := by
      rw [hwm]
      obtain ⟨cur, hcur, _⟩ := HM.out
      exact hmk.setCell ⟨_, _, _, hcur⟩ _ _
    have hsm : wm.heap.size = wr.heap.size := by rw [hwm]; simp [World.setCell]
    rw [← hwm]
    obtain ⟨W1, hW1, bL, bR, hBw, hs1⟩ := boxes2d wm 3 (.int .i64 (([] : List Nat).length : Int)) 86 (.pointer (some (nadr N k)))
    have hW1' : W1 = ((wm.alloc (.cells #[.int .i64 0] 3)).alloc (.cells #[.pointer (some ⟨N, k * 2, none⟩)] 86)).drew := hW1
    have hM1 : MemK W1 w1.heap.size N m (k + 1) (szAt zs k []) (htAt zs k []) := hMm.below hBw hMm.lt
    have hJ1 : Boxed W1 J 136 (.slice (some ⟨w1.heap.size, 0, none⟩) m m) := (hBw.block J hJm.lt).trans hJm
    have hP1 : Boxed W1 (J + 1) 72 (.pointer (some ⟨J, 0, none⟩)) := (hBw.block (J + 1) hPm.lt).trans hPm
    have hb1' := hbm.trans (hBw.mono hbm.size)
    have hk1 := hkm.below hBw
    have hklt := hkm.lt
    have hkz : k < zs.length := by have := HL.out; omega
    have hys := HV.out.path hkz
    have hnd := path_nodup (HV.out.path hkz)
    have hwl := HV.out.2.2 k hkz
    have hnx1 := szAt_way zs k
    have hnx2 := htAt_way zs k
    obtain ⟨ys, hYs⟩ : ∃ ys, ys = way zs zs.length k := ⟨_, rfl⟩
    rw [← hYs] at hys hnd hwl
    simp only [← hYs] at hnx1 hnx2
    have HNX := Lib.hid (And.intro hnx1 hnx2)
    have HND := Lib.hid hnd
    have HYL := Lib.hid hwl
    rw [hsm] at bL bR hBw hs1
    rw [← hW1']
    obtain ⟨L, hL⟩ : ∃ L, L = wr.heap.size := ⟨_, rfl⟩
    rw [← hL] at bL bR hs1 hws
    rw [← hL]
    have hDL : ∀ d ∈ D, d < L := fun d hd => by rw [hL]; exact hmk.lt d hd
    have hw1L : w1.heap.size < L := by rw [hL]; exact HM.out.lt
    have HK1 := Lib.hid hk1
    have HM1 := Lib.hid hM1
    have HDL := Lib.hid hDL
    clear hW1 hW1' hBw hMm hJm hPm hbm hkm hsm hwm hklt hnx1 hnx2 hnd hwl hL hmk HM hk1 hM1 hDL bJ' bP' hbe q1 q4 cJ cP
    refine (wpIn_wide (n := 6)).1 ?_
    apply wpIn_rangeFunc_seqOf (encs := fun x : Nat => #[Value.pointer (some (nadr N x))]) (Kp := Below w1.heap.size) (S := fun zs' => Path zs (some k) zs' none) (Sp := fun pre => ∃ o, Path zs (some k) pre o) (M := ys.length) rfl (by omega) (gf := 122) (lb := #[.pointer (some ⟨L + 1, 0, none⟩)]) rfl trivial (enters_of Try.func122 (by kernel_rfl) rfl)
      (up_seq Fence.wide 5 trivial rfl (by omega) (L + 1) w1.heap.size N k ys.length zs W1 bR.cell (by omega) (hN.below hb1' hlt) hlt hb1'.size hIn.out hkz) belowK_t (belowK_b (by omega)) (fun _ => rfl)
      (fun pre W => MemK W w1.heap.size N m (k + 1) (szAt zs k pre) (htAt zs k pre) ∧ ((Boxed W J 136 (.slice (some ⟨w1.heap.size, 0, none⟩) m m) ∧ Boxed W (J + 1) 72 (.pointer (some ⟨J, 0, none⟩))) ∧ (Boxed W L 3 (.int .i64 (pre.length : Int)) ∧ (Below w1.heap.size w1 W ∧ Marked W (J + 2) D))))
      (fun _ _ _ => False)
      (OwnFrom.and (mem_from _ _ _ _ _ (fun pre => szAt zs k pre) (fun pre => htAt zs k pre)) (OwnFrom.and (OwnFrom.and (Go.Own.from (boxed_own _ _ _) _) (Go.Own.from (boxed_own _ _ _) _)) (OwnFrom.and (Go.Own.from (boxed_own _ _ _) _) (OwnFrom.and (ownFrom_below (by omega) (by omega)) (marked_from _ _ _ (fun d hd => by have := HDL.out d hd; omega))))))
      (fun _ _ _ _ _ hs _ _ => hs)
      (fun pre W hp _ => by obtain ⟨o, hp⟩ := hp; exact path_end hys hp) ⟨HM1.out, ⟨hJ1, hP1⟩, bL, hb1', HK1.out⟩
    case hassign =>
      intro l x W K hK
      have hK := Lib.hid hK
      gi_wp2
      exact hK.out
    case hbody =>
      rintro l pre x W ⟨hM, ⟨hJ, hP⟩, hLk, hBe, hmk⟩ ⟨o, hp⟩ hsz
      have hx : x < zs.length := path_lt hIn.out (fun j hj => by cases hj; exact hkz) (path_last hp).1
      have hpl := path_end hys hp
      have hpre := path_det hp hys hpl
      have hnx : x ∉ pre := fun hm => by
        have h2 := HND.out.sublist hpre.sublist
        rw [List.nodup_append] at h2
        exact h2.2.2 x hm x (by simp) rfl
      rw [List.length_append] at hpl
      have hyl := HYL.out
      have hxm : x < m := by have := HL.out; omega
      have cN := ((hN.below hBe hlt) x hx).1
      obtain ⟨⟨q1, q2, q3⟩, q4, q5, q6⟩ := hM.cells hxm
      have cJ := hJ.cell
      have cP := hP.cell
      have cL := hLk.cell
      have fL := hLk.frozen
      have hpl16 : pre.length ≤ 64 := by have := HL.out; simp at hpl; omega
      have hs17 := szAt_le zs k pre x
      have hh16 := FvG.height HV.out (k := k) (by omega) (pre := pre) hpl16 x
      have hxi : (x : Int) < (m : Int) := by omega
      have hMX := Lib.hid (fun (s h : Nat) (hs : s = szAt zs k pre x + 1) (hh : h = max (htAt zs k pre x) pre.length) => show MemK (((W.setCell ⟨w1.heap.size, x * 3 + 1, none⟩ (.int .i64 (s : Int))).setCell ⟨w1.heap.size, x * 3 + 2, none⟩ (.int .i64 (h : Int))).setCell ⟨L, 0, none⟩ (.int .i64 ((pre.length : Int) + 1))) w1.heap.size N m (k + 1) (szAt zs k (pre ++ [x])) (htAt zs k (pre ++ [x])) from
        (((hM.size hxm s).height hxm h).other (by omega) _ _).congr (fun y _ => by rw [szAt_snoc hnx]; by_cases e : y = x <;> simp [e, hs]) (fun y _ => by rw [htAt_snoc hnx]; by_cases e : y = x <;> simp [e, hh]))
      have hM' := Lib.hid hM
      obtain ⟨s, hsv⟩ : ∃ s, s = szAt zs k pre x := ⟨_, rfl⟩
      obtain ⟨hh, hhv⟩ : ∃ hh, hh = htAt zs k pre x := ⟨_, rfl⟩
      rw [← hsv] at q2 hs17
      rw [← hhv] at q3 hh16
      have HSV := Lib.hid hsv
      have HHV := Lib.hid hhv
      have hs20 : s ≤ 80 := by omega
      unfold nadr
      have HJP := Lib.hid (And.intro hJ hP)
      clear hpre hpl hyl hp hx q1 q4 hsv hhv hM hJ hP hnx hs17 hys
      by_cases hlts : (hh : Int) < (pre.length : Int)
      · gi_wp2
        refine wpIn_region_tail 9 (by kernel_rfl) (by kernel_rfl) (by kernel_rfl) (by rintro ⟨_, _, h⟩; exact h) ?_
        simp only [List.take_succ_cons, List.take_zero, List.drop_succ_cons, List.drop_zero]
        repeat still_step
        refine wpStill_nil ?_
        go_wp2
        change Code.wpIn _ _ _ _ _ _ (World.drew W)
        gi_wp2
        change Code.wpIn _ _ _ _ _ _ (World.drew (W.setCell ⟨w1.heap.size, x * 3 + 1, none⟩ (.int .i64 ((s : Int) + 1))))
        obtain ⟨V, hV⟩ : ∃ V, V = World.drew (W.setCell ⟨w1.heap.size, x * 3 + 1, none⟩ (.int .i64 ((s : Int) + 1))) := ⟨_, rfl⟩
        have hMV : MemK V w1.heap.size N m (k + 1) (fun y => if y = x then s + 1 else szAt zs k pre y) (htAt zs k pre) := by rw [hV]; exact (hM'.out.size hxm (s + 1)).eq rfl
        have hLV : Boxed V L 3 (.int .i64 (pre.length : Int)) := by rw [hV]; exact (Below.heap_setCell W ⟨w1.heap.size, x * 3 + 1, none⟩ _ L (by show L ≠ w1.heap.size; omega)).trans hLk
        obtain ⟨⟨_, _, v3⟩, _, _, v6⟩ := hMV.cells hxm
        rw [← HHV.out] at v3
        have v3 : V.cell? ⟨w1.heap.size, x * 3 + 1 + 1, none⟩ = some (.int .i64 (hh : Int)) := v3
        have v6 : V.frozen? ⟨w1.heap.size, x * 3 + 1 + 1, none⟩ = false := v6
        have cLV := hLV.cell
        have fLV := hLV.frozen
        rw [← hV]
        have HV2 := Lib.hid hV
        clear hV q2 q3 q5 q6 cN cL fL hMV
        refine wpIn_region_tail 11 (by kernel_rfl) (by kernel_rfl) (by kernel_rfl) (by rintro ⟨_, _, h⟩; exact h) ?_
        simp only [List.take_succ_cons, List.take_zero, List.drop_succ_cons, List.drop_zero]
        repeat still_step
        refine wpStill_nil ?_
        go_wp2
        change Code.wpIn _ _ _ _ _ _ (World.drew (V.setCell ⟨w1.heap.size, x * 3 + 1 + 1, none⟩ (.int .i64 ((pre.length : Int)))))
        obtain ⟨V2, hV2⟩ : ∃ V2, V2 = World.drew (V.setCell ⟨w1.heap.size, x * 3 + 1 + 1, none⟩ (.int .i64 ((pre.length : Int)))) := ⟨_, rfl⟩
        have hL2 : Boxed V2 L 3 (.int .i64 (pre.length : Int)) := by rw [hV2]; exact (Below.heap_setCell V ⟨w1.heap.size, x * 3 + 1 + 1, none⟩ _ L (by show L ≠ w1.heap.size; omega)).trans hLV
        have cL2 := hL2.cell
        have fL2 := hL2.frozen
        have HV3 := Lib.hid hV2
        rw [← hV2]
        clear hV2 v3 v6 cLV fLV
        gi_wp2
        have HT := three_blocks (L := L) (.int .i64 ((pre.length : Int) + 1)) HV2.out HV3.out
        have hE := three_end HT (Nat.le_refl _) (by omega) (show w1.heap.size < W1.heap.size by omega) (show L < W1.heap.size by omega)
        refine ⟨hE.1, hE.2, (hMX.out (s + 1) pre.length (by rw [HSV.out]) (by rw [← HHV.out]; omega)).eq ?_, ⟨(HT.2.2.2.2 J (by omega) (by omega)).trans HJP.out.1, (HT.2.2.2.2 (J + 1) (by omega) (by omega)).trans HJP.out.2⟩, ?_, hBe.trans hE.2, hmk.kept fun d hd => HT.2.2.2.2 d (by have := (hmk.2 d hd).1; omega) (by have := HDL.out d hd; omega)⟩
        · rw [HV3.out, HV2.out]
          rfl
        · have e : (((pre ++ [x]).length : Nat) : Int) = (pre.length : Int) + 1 := by simp
          rw [e]
          exact hL2.set _
      · gi_wp2
        refine wpIn_region_tail 9 (by kernel_rfl) (by kernel_rfl) (by kernel_rfl) (by rintro ⟨_, _, h⟩; exact h) ?_
        simp only [List.take_succ_cons, List.take_zero, List.drop_succ_cons, List.drop_zero]
        repeat still_step
        refine wpStill_nil ?_
        go_wp2
        change Code.wpIn _ _ _ _ _ _ (World.drew W)
        gi_wp2
        change Code.wpIn _ _ _ _ _ _ (World.drew (W.setCell ⟨w1.heap.size, x * 3 + 1, none⟩ (.int .i64 ((s : Int) + 1))))
        obtain ⟨V, hV⟩ : ∃ V, V = World.drew (W.setCell ⟨w1.heap.size, x * 3 + 1, none⟩ (.int .i64 ((s : Int) + 1))) := ⟨_, rfl⟩
        have hMV : MemK V w1.heap.size N m (k + 1) (fun y => if y = x then s + 1 else szAt zs k pre y) (htAt zs k pre) := by rw [hV]; exact (hM'.out.size hxm (s + 1)).eq rfl
        have hLV : Boxed V L 3 (.int .i64 (pre.length : Int)) := by rw [hV]; exact (Below.heap_setCell W ⟨w1.heap.size, x * 3 + 1, none⟩ _ L (by show L ≠ w1.heap.size; omega)).trans hLk
        obtain ⟨⟨_, _, v3⟩, _, _, v6⟩ := hMV.cells hxm
        rw [← HHV.out] at v3
        have v3 : V.cell? ⟨w1.heap.size, x * 3 + 1 + 1, none⟩ = some (.int .i64 (hh : Int)) := v3
        have v6 : V.frozen? ⟨w1.heap.size, x * 3 + 1 + 1, none⟩ = false := v6
        have cLV := hLV.cell
        have fLV := hLV.frozen
        rw [← hV]
        have HV2 := Lib.hid hV
        clear hV q2 q3 q5 q6 cN cL fL hMV
        refine wpIn_region_tail 11 (by kernel_rfl) (by kernel_rfl) (by kernel_rfl) (by rintro ⟨_, _, h⟩; exact h) ?_
        simp only [List.take_succ_cons, List.take_zero, List.drop_succ_cons, List.drop_zero]
        repeat still_step
        refine wpStill_nil ?_
        go_wp2
        change Code.wpIn _ _ _ _ _ _ (World.drew (V.setCell ⟨w1.heap.size, x * 3 + 1 + 1, none⟩ (.int .i64 (hh : Int))))
        obtain ⟨V2, hV2⟩ : ∃ V2, V2 = World.drew (V.setCell ⟨w1.heap.size, x * 3 + 1 + 1, none⟩ (.int .i64 (hh : Int))) := ⟨_, rfl⟩
        have hL2 : Boxed V2 L 3 (.int .i64 (pre.length : Int)) := by rw [hV2]; exact (Below.heap_setCell V ⟨w1.heap.size, x * 3 + 1 + 1, none⟩ _ L (by show L ≠ w1.heap.size; omega)).trans hLV
        have cL2 := hL2.cell
        have fL2 := hL2.frozen
        have HV3 := Lib.hid hV2
        rw [← hV2]
        clear hV2 v3 v6 cLV fLV
        gi_wp2
        have HT := three_blocks (L := L) (.int .i64 ((pre.length : Int) + 1)) HV2.out HV3.out
        have hE := three_end HT (Nat.le_refl _) (by omega) (show w1.heap.size < W1.heap.size by omega) (show L < W1.heap.size by omega)
        refine ⟨hE.1, hE.2, (hMX.out (s + 1) hh (by rw [HSV.out]) (by rw [← HHV.out]; omega)).eq ?_, ⟨(HT.2.2.2.2 J (by omega) (by omega)).trans HJP.out.1, (HT.2.2.2.2 (J + 1) (by omega) (by omega)).trans HJP.out.2⟩, ?_, hBe.trans hE.2, hmk.kept fun d hd => HT.2.2.2.2 d (by have := (hmk.2 d hd).1; omega) (by have := HDL.out d hd; omega)⟩
        · rw [HV3.out, HV2.out]
          rfl
        · have e : (((pre ++ [x]).length : Nat) : Int) = (pre.length : Int) + 1 := by simp
          rw [e]
          exact hL2.set _
    case hdone =>
      rintro D0 xs W hD0 hS ⟨hM, ⟨hJ, hP⟩, hLk, hBe, hmk⟩ hd
      have hxs : xs = ys := path_uniq hS hys
      rw [hxs] at hM
      have hM2 : MemK W w1.heap.size N m (k + 1) (szAt zs (k + 1) []) (htAt zs (k + 1) []) := hM.congr (fun y _ => by rw [HNX.out.1 y]; simp [szAt]) (fun y _ => by rw [HNX.out.2 y]; simp [htAt, htOne])
      have hmk2 := hmk.more hd (by omega) (fun hm => by have := HDL.out D0 hm; omega)
      have hWs : J + 2 ≤ W.heap.size := by have := hLk.lt; omega
      have HM2 := Lib.hid hM2
      have HMK2 := Lib.hid hmk2
      clear hM2 hM hmk2 hmk hS hys hd hLk
      go_wp2
      refine ⟨⟨_, _, _, _, _, _, _, _, _, _, _, _, _, _, _, _, _, _, _, _, _, _, _, _, _, _, _, _, _, _, _, _, _, _, _, _, _, _, _, _, _, _, _, _, _, _, _, _, _, _, _, _, _, k + 1, D0 :: D, ⟨by omega, HM2, ⟨hJ, hP⟩, hBe, hWs, HMK2.out⟩, rfl⟩, ?_⟩
      show m - ((k : Int) + 1).toNat < m - ((k : Int)).toNat
      omega
    case hstop =>
      rintro D q pre W _ _ h _
      exact h.elim
  · have hkm : k = m := by omega
    have cP := bP'.cell
    have HMm := HM.out
    rw [hkm] at HMm
    have HMm := Lib.hid HMm
    clear HM
    go_wp2
    refine leaves_marks D _ hmk fun w' hs => ⟨_, results_tmp rfl _ _ _, ?_⟩
    have hB := hs.below hbe (by omega)
    have hJw := bJ'.lt
    refine ⟨hB, J, w1.heap.size, rfl, ?_, (hs.low J (by omega)).trans bJ', Nat.le_refl _, hM2⟩
    exact (HMm.out.eq (hs.low w1.heap.size (by omega))).congr (fun y _ => by rw [← HL.out]; simp [szAt, szN]) (fun y _ => by rw [← HL.out]; simp [htAt, htN, htOne])

theorem joiningOf_any (A : Option Addr) (m c B0 : Nat) (zs : List Int) (w : World) (h : Rd w B0 A m zs) (hB0 : B0 ≤ w.heap.size) (hb : m ≤ 1048576) :
    Calls Try.prog 55 #[.slice A m c] w fun e w' => Below w.heap.size w w' ∧ ((fvB zs = false ∧ e = .returned (.pointer none)) ∨
      (fvB zs = true ∧ ∃ J M N, e = .returned (.pointer (some ⟨J, 0, none⟩)) ∧ (Fill w' N zs m ∧ N < w'.heap.size) ∧ MemK w' M N m m (szN zs) (htN zs) ∧ Boxed w' J 136 (.slice (some ⟨M, 0, none⟩) m m) ∧ (w.heap.size ≤ N ∧ N < M ∧ M < J))) := by
  have R := Lib.hid (nodesOfF_any A m c B0 zs w h hB0 hb)
  have HL := Lib.hid h.1
  have hq := fun (w : World) (a : Option Addr) (n c : Nat) => Lib.run_eql_slice_nil (P := Try.prog) w 84 89 a n c 0 0 Try.underlying84
  clear h
  go_enter Try.func55, Try.ntmps55
  go_wp2_with fail
  refine R.out.mono ?_
  rintro e w1 ⟨hb1, ⟨hv, rfl⟩ | ⟨hv, rfl, hF, hlt⟩⟩
  · have HV := Lib.hid hv
    clear hv
    go_wp2
    go_ret
    exact ⟨hb1, .inl ⟨HV.out, rfl⟩⟩
  · have HV := Lib.hid hv
    have HF := Lib.hid (And.intro hF hlt)
    have C := Lib.hid (joiningFrom_any w.heap.size m zs w1 hF hlt (FvG.of hv) HL.out)
    clear hv hF hlt
    go_wp2_with (go_at_call 100; refine C.out.mono ?_; rintro e w2 ⟨hb2, J, M, rfl, hM, hJ, h1, h2⟩)
    go_ret
    obtain ⟨hF, hlt⟩ := HF.out
    exact ⟨hb1.trans (hb2.mono hb1.size), .inr ⟨HV.out, J, M, w.heap.size, rfl, ⟨hF.below hb2 hlt, by have := hb2.size; omega⟩, hM, hJ, Nat.le_refl _, by omega, h2⟩⟩
end Go.Proofs.Ytebgnaiibomjkaa

namespace Go.Proofs.Ytebgnaiibomjkaa
open Go.RowKit Go.Shelf

theorem tellSize_any (a : Option Addr) (s h : Int) (w : World) :
    Calls Try.prog 88 #[.agg #[.pointer a, .int .i64 s, .int .i64 h]] w fun e w' => e = .returned (.int .i64 s) ∧ Below w.heap.size w w' := by
  go_enter Try.func88, Try.ntmps88
  go_wp2
  go_ret
  exact ⟨rfl, (Below.refl _ w).alloc (Nat.le_refl _) _⟩
theorem tellHeight_any (a : Option Addr) (s h : Int) (w : World) :
    Calls Try.prog 90 #[.agg #[.pointer a, .int .i64 s, .int .i64 h]] w fun e w' => e = .returned (.int .i64 h) ∧ Below w.heap.size w w' := by
  go_enter Try.func90, Try.ntmps90
  go_wp2
  go_ret
  exact ⟨rfl, (Below.refl _ w).alloc (Nat.le_refl _) _⟩

set_option maxRecDepth 100000 in
set_option maxHeartbeats 2000000 in
theorem toldSize_any (J M N n : Nat) (sz ht : Nat → Nat) (w : World) (hm : MemK w M N n n sz ht) (hj : Boxed w J 136 (.slice (some ⟨M, 0, none⟩) n n)) (hb : n ≤ 1048576) :
    Calls Try.prog 87 #[.pointer (some ⟨J, 0, none⟩), .func (.func 88) #[] #[]] w fun e w' => ∃ v, e = .returned v ∧ Own w' w.heap.size v ((List.range n).map fun x : Nat => (sz x : Int)) ∧ Below w.heap.size w w' := by
  have cJ := hj.cell
  have HJ := Lib.hid hj
  have HM := Lib.hid hm
  obtain ⟨i0, hi, hz0, hz1, hz2⟩ := info_parts Try.info_int
  clear hj hm
  go_enter Try.func87, Try.ntmps87
  go_wp2_with (at_make; go_must (refine wpList_make_full _ rfl _ _ 23 rfl w.heap.size 3 i0 (.int .i64 0) 1 Try.underlying23 hi hz0 hz1 .i64 .i64 _ _ n rfl rfl rfl rfl (by rw [hz2]; omega) (by unfold maxLen; omega) (Nat.le_refl _) ?_); intro w1 hown hgrow; have hb1 : Below w.heap.size w w1 := (Below.refl _ w).grown hgrow (Nat.le_refl _) (fun k e => by cases e); have cJ1 := (World.cell?_of_block (hb1.block J HJ.out.lt)).trans cJ)
  have H0 : Hid (Own w1 w.heap.size (.slice (some ⟨w.heap.size, 0, none⟩) n n) (tellL sz n 0)) := by
    rw [tellL_zero]
    exact Own.made hown
  clear hown hgrow hi hz0 hz1 hz2
  go_loopw [19] (fun i wr => ∃ k : Nat, k ≤ n ∧ i = .int .i64 k ∧ Hid (Own wr w.heap.size (.slice (some ⟨w.heap.size, 0, none⟩) n n) (tellL sz n k)) ∧ Below w.heap.size w wr) (fun i _ => n - (intOf i).toNat)
  case atStart => exact ⟨0, Nat.zero_le _, rfl, H0, hb1⟩
  case round =>
    obtain ⟨k, hk, rfl, HO, hbe⟩ := hrel
    clear H0 hb1 cJ cJ1
    by_cases hlt : k < n
    · obtain ⟨⟨q1, q2, q3⟩, _⟩ := (HM.out.below hbe HM.out.lt).cells hlt
      rw [if_pos hlt] at q1
      have hkk : (k : Int) < (n : Int) := by omega
      have hb2 : Below w.heap.size w ((wr.alloc (.cells #[.pointer (some (nadr N k)), .int .i64 (sz k : Int), .int .i64 (ht k : Int)] 114)).alloc (.cells #[.pointer (some (nadr N k)), .int .i64 (sz k : Int), .int .i64 (ht k : Int)] 114)) := (hbe.alloc hbe.size _).alloc (by have := hbe.size; simp; omega) _
      have hO2 : Own ((wr.alloc (.cells #[.pointer (some (nadr N k)), .int .i64 (sz k : Int), .int .i64 (ht k : Int)] 114)).alloc (.cells #[.pointer (some (nadr N k)), .int .i64 (sz k : Int), .int .i64 (ht k : Int)] 114)) w.heap.size (.slice (some ⟨w.heap.size, 0, none⟩) n n) (tellL sz n k) :=
        HO.out.keep (((Below.refl _ wr).alloc (Nat.le_refl _) _).alloc (by simp) _) (Nat.le_refl _)
      have hsl := hO2.slot hlt
      have hfr := hO2.free k
      have hns := hO2.set_ k (sz k : Int)
      rw [tellL_set sz hlt] at hns
      have HNS := Lib.hid hns
      have hb3 := Lib.hid (hb2.setCell (p := ⟨w.heap.size, k, none⟩) (Nat.le_refl _) (.int .i64 (sz k : Int)))
      clear hns hO2 hb2 HO
      go_wp2
      go_roundw
      case rel => exact ⟨k + 1, by omega, by go_num, HNS, hb3.out⟩
      case measure => simp [intOf]; omega
    · obtain rfl : k = n := by omega
      go_wp2
      go_ret
      exact ⟨_, rfl, by rw [← tellL_all]; exact HO.out, hbe⟩
set_option maxRecDepth 100000 in
set_option maxHeartbeats 2000000 in
theorem toldHeight_any (J M N n : Nat) (sz ht : Nat → Nat) (w : World) (hm : MemK w M N n n sz ht) (hj : Boxed w J 136 (.slice (some ⟨M, 0, none⟩) n n)) (hb : n ≤ 1048576) :
    Calls Try.prog 87 #[.pointer (some ⟨J, 0, none⟩), .func (.func 90) #[] #[]] w fun e w' => ∃ v, e = .returned v ∧ Own w' w.heap.size v ((List.range n).map fun x : Nat => (ht x : Int)) ∧ Below w.heap.size w w' := by
  have cJ := hj.cell
  have HJ := Lib.hid hj
  have HM := Lib.hid hm
  obtain ⟨i0, hi, hz0, hz1, hz2⟩ := info_parts Try.info_int
  clear hj hm
  go_enter Try.func87, Try.ntmps87
  go_wp2_with (at_make; go_must (refine wpList_make_full _ rfl _ _ 23 rfl w.heap.size 3 i0 (.int .i64 0) 1 Try.underlying23 hi hz0 hz1 .i64 .i64 _ _ n rfl rfl rfl rfl (by rw [hz2]; omega) (by unfold maxLen; omega) (Nat.le_refl _) ?_); intro w1 hown hgrow; have hb1 : Below w.heap.size w w1 := (Below.refl _ w).grown hgrow (Nat.le_refl _) (fun k e => by cases e); have cJ1 := (World.cell?_of_block (hb1.block J HJ.out.lt)).trans cJ)
  have H0 : Hid (Own w1 w.heap.size (.slice (some ⟨w.heap.size, 0, none⟩) n n) (tellL ht n 0)) := by
    rw [tellL_zero]
    exact Own.made hown
  clear hown hgrow hi hz0 hz1 hz2
  go_loopw [19] (fun i wr => ∃ k : Nat, k ≤ n ∧ i = .int .i64 k ∧ Hid (Own wr w.heap.size (.slice (some ⟨w.heap.size, 0, none⟩) n n) (tellL ht n k)) ∧ Below w.heap.size w wr) (fun i _ => n - (intOf i).toNat)
  case atStart => exact ⟨0, Nat.zero_le _, rfl, H0, hb1⟩
  case round =>
    obtain ⟨k, hk, rfl, HO, hbe⟩ := hrel
    clear H0 hb1 cJ cJ1
    by_cases hlt : k < n
    · obtain ⟨⟨q1, q2, q3⟩, _⟩ := (HM.out.below hbe HM.out.lt).cells hlt
      rw [if_pos hlt] at q1
      have hkk : (k : Int) < (n : Int) := by omega
      have hb2 : Below w.heap.size w ((wr.alloc (.cells #[.pointer (some (nadr N k)), .int .i64 (sz k : Int), .int .i64 (ht k : Int)] 114)).alloc (.cells #[.pointer (some (nadr N k)), .int .i64 (sz k : Int), .int .i64 (ht k : Int)] 114)) := (hbe.alloc hbe.size _).alloc (by have := hbe.size; simp; omega) _
      have hO2 : Own ((wr.alloc (.cells #[.pointer (some (nadr N k)), .int .i64 (sz k : Int), .int .i64 (ht k : Int)] 114)).alloc (.cells #[.pointer (some (nadr N k)), .int .i64 (sz k : Int), .int .i64 (ht k : Int)] 114)) w.heap.size (.slice (some ⟨w.heap.size, 0, none⟩) n n) (tellL ht n k) :=
        HO.out.keep (((Below.refl _ wr).alloc (Nat.le_refl _) _).alloc (by simp) _) (Nat.le_refl _)
      have hsl := hO2.slot hlt
      have hfr := hO2.free k
      have hns := hO2.set_ k (ht k : Int)
      rw [tellL_set ht hlt] at hns
      have HNS := Lib.hid hns
      have hb3 := Lib.hid (hb2.setCell (p := ⟨w.heap.size, k, none⟩) (Nat.le_refl _) (.int .i64 (ht k : Int)))
      clear hns hO2 hb2 HO
      go_wp2
      go_roundw
      case rel => exact ⟨k + 1, by omega, by go_num, HNS, hb3.out⟩
      case measure => simp [intOf]; omega
    · obtain rfl : k = n := by omega
      go_wp2
      go_ret
      exact ⟨_, rfl, by rw [← tellL_all]; exact HO.out, hbe⟩
end Go.Proofs.Ytebgnaiibomjkaa
