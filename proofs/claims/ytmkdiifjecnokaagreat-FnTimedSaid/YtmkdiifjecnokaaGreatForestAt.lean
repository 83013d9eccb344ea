/- ForestAt, RootAt and TogetherAt of the program. Condition: lengths up to 1048576. -/
import Derived.Test.YtmkdiifjecnokaaGreatTimedIn
import Derived.Test.YtmkdiifjecnokaaGreatSeqMut
import Derived.Test.YtmkdiifjecnokaaGreatTimed
namespace Go.Proofs.YtmkdiifjecnokaaGreat
open Go.RowKit Go.Shelf
attribute [local go_sem] Oper.semAt_some

/-- A slice of the call's own stays so where blocks turn that hold no cells. -/
theorem own_row {w w' : World} {base : Nat} {v : Value} {zs : List Int} {row : Option Nat} (h : Own w base v zs) (hg : w.grownBy w' row) (hr : ∀ r, row = some r → ∃ o : Obj, w.heap[r]? = some o ∧ o.isCells = false) : Own w' base v zs := by
  refine h.kept hg ?_
  rcases h.2 with ⟨hv, _⟩ | ⟨g, cap, cur, hv, _, hh, _⟩
  · left; rw [hv]; rfl
  · right
    intro e
    rw [hv] at e
    obtain ⟨o, ho, hc⟩ := hr g e.symm
    rw [hh] at ho
    injection ho with ho
    rw [← ho] at hc
    cases hc
/-- Of the blocks below C all but B8 lie as they lay. -/
def Kept (B8 C : Nat) (A B : World) : Prop := A.heap.size ≤ B.heap.size ∧ ∀ k, k < C → k ≠ B8 → B.heap[k]? = A.heap[k]?
theorem Kept.trans {B8 C : Nat} {X Y Z : World} (h : Kept B8 C X Y) (k : Kept B8 C Y Z) : Kept B8 C X Z := ⟨Nat.le_trans h.1 k.1, fun i h1 h2 => (k.2 i h1 h2).trans (h.2 i h1 h2)⟩
theorem Kept.put {B8 C : Nat} (W : World) {l : Nat} (o : Obj) (h : C ≤ l) : Kept B8 C W (W.putObj l o) := ⟨by simp [World.putObj], fun k h1 _ => World.putObj_heap_other (by omega)⟩
/-- The first times. -/
def TmSp (M : Nat) (pre : List (Nat × Value)) : Prop := pre.map Prod.fst = List.range pre.length ∧ pre.length ≤ M
theorem TmSp.last {M : Nat} {pre : List (Nat × Value)} {x : Nat × Value} (h : TmSp M (pre ++ [x])) : pre.map Prod.fst = List.range pre.length ∧ x.1 = pre.length ∧ pre.length < M := by
  obtain ⟨h1, h2⟩ := h
  rw [List.length_append, List.length_singleton] at h1 h2
  rw [List.map_append, List.range_succ] at h1
  obtain ⟨h3, h4⟩ := List.append_inj' h1 rfl
  injection h4 with h4 _
  exact ⟨h3, h4, by omega⟩
/-- What is handed over is the forest of its time. -/
def TmRdy (base : Nat) (us ts : List Int) (q : List (Nat × Value)) (W : World) : Prop := ∀ x, q.getLast? = some x → Own W base x.2 (atL us ts (x.1 : Int))
theorem TmRdy.last {base : Nat} {us ts : List Int} {pre : List (Nat × Value)} {x : Nat × Value} {W : World} (h : TmRdy base us ts (pre ++ [x]) W) : Own W base x.2 (atL us ts (x.1 : Int)) := h x (by simp)
set_option maxRecDepth 100000 in
set_option maxHeartbeats 8000000 in
theorem forests_in (q l Bb B8 C T n : Nat) (us ts : List Int) (Jv Jx : List (Nat × Value) → World → Prop) (hro : Fence.wide.round = none)
    (hMv : ∀ pre W1 W2, Jv pre W1 → Below W1.heap.size W1 W2 → Jv pre W2)
    (hY : ∀ (pre : List (Nat × Value)) (x : Nat × Value) W1, Jv pre W1 → TmRdy C us ts (pre ++ [x]) W1 → TmSp 25 (pre ++ [x]) → YieldAt Fence.wide (q - 1) Tryz.prog l #[.int .i64 (x.1 : Int), x.2] W1 fun e W' =>
      (e = .returned (.bool true) ∧ Jv (pre ++ [x]) W' ∧ Kept B8 C W1 W') ∨ (e = .returned (.bool false) ∧ Jx (pre ++ [x]) W'))
    (W : World) (hBb : W.cell? ⟨Bb, 0, none⟩ = some (.slice (some ⟨T, 0, none⟩) n n)) (hb : Bb < C ∧ Bb ≠ B8 ∧ T < C ∧ T ≠ B8 ∧ C ≤ W.heap.size) (hT : TmK W T n n us ts) (hn : us.length = n ∧ n ≤ 16) (h0 : Jv [] W) (hq : 1 ≤ q) :
    CallsIn Fence.wide q Tryz.prog 47 #[.func (.yield l) #[] #[], .pointer (some ⟨Bb, 0, none⟩)] W fun e W' => (∃ v, e = .returned v) ∧
      ((∃ xs : List (Nat × Value), xs.map Prod.fst = List.range 25 ∧ Jv xs W') ∨ (∃ pre : List (Nat × Value), TmSp 25 pre ∧ Jx pre W')) := by
  have HMV := Lib.hid hMv
  have HY := Lib.hid hY
  have HBS := Lib.hid (And.intro hb hn)
  have HI : Hid (0 ≤ 25 ∧ (∃ pre : List (Nat × Value), pre.map Prod.fst = List.range 0 ∧ Jv pre W) ∧ TmK W T n n us ts ∧ W.cell? ⟨Bb, 0, none⟩ = some (.slice (some ⟨T, 0, none⟩) n n) ∧ C ≤ W.heap.size) := ⟨by omega, ⟨[], rfl, h0⟩, hT, hBb, hb.2.2.2.2⟩
  have hq2 := fun (w : World) (a : Option Addr) (n c : Nat) => Lib.run_eql_slice_nil (P := Tryz.prog) w 60 95 a n c 0 0 Tryz.underlying60
  clear hMv hY hb hT hn h0
  refine callsIn_of_wp Tryz.func47 rfl trivial ?_ hro
  simp only [Tryz.ntmps47, List.size_toArray, List.length_cons, List.length_nil, Nat.reduceAdd, Nat.reduceSub, Array.replicate_succ, Array.replicate_zero, List.push_toArray, List.append_toArray, List.nil_append, List.cons_append]
  gi_wp2
  clear hBb hq2
  gi_loopw [6] (fun lv wr => ∃ x : Nat, lv = .int .i64 (x : Int) ∧ Hid (x ≤ 25 ∧ (∃ pre : List (Nat × Value), pre.map Prod.fst = List.range x ∧ Jv pre wr) ∧ TmK wr T n n us ts ∧ wr.cell? ⟨Bb, 0, none⟩ = some (.slice (some ⟨T, 0, none⟩) n n) ∧ C ≤ wr.heap.size)) (fun lv _ => 25 - (intOf lv).toNat)
  case atStart => exact ⟨0, rfl, HI⟩
  case round =>
    obtain ⟨x, rfl, hx⟩ := hrel
    clear HI
    obtain ⟨hxm, ⟨pre, hpre, hJ⟩, hT, hc, hC⟩ := hx.out
    by_cases hlt : x < 25
    · have hxx : (x : Int) < 25 := by omega
      have hwr : IntKind.i64.wrap ((x : Int) + 1) = (x : Int) + 1 := IntWalk.i64_in _ (by omega)
      have AT := Lib.hid ((callsIn_wide (n := q - 1)).2 (at_any T n (x : Int) us ts wr hT HBS.out.2.1 HBS.out.2.2))
      have HX := Lib.hid (And.intro hpre (And.intro hJ (And.intro hT (And.intro hc hC))))
      clear hx hxm hpre hJ hT hC
      gi_wp2
      refine ⟨trivial, AT.out.mono ?_⟩
      rintro e w5 ⟨v5, rfl, ho5, hb5⟩
      obtain ⟨hpre, hJ, hT, hc0, hC⟩ := HX.out
      have hpl : pre.length = x := by have := congrArg List.length hpre; simpa using this
      have hJ5 := HMV.out _ _ _ hJ hb5
      have hyy := HY.out pre (x, v5) w5 hJ5 (fun z hz => by
        have e : (x, v5) = z := by simpa using hz
        rw [← e]
        exact ho5.less hC) ⟨by rw [List.map_append, hpre, List.length_append, hpl]; simp [List.range_succ], by rw [List.length_append, hpl]; simp; omega⟩
      obtain ⟨fn, tmps, assign, body, hy, hR⟩ := hyy
      have HX5 := Lib.hid (And.intro hpre (And.intro (hT.below hb5 hT.lt) (And.intro ((hb5.cell (p := ⟨Bb, 0, none⟩) (by show Bb < _; have := HBS.out.1; omega)).trans hc0) (Nat.le_trans hC hb5.size))))
      dsimp only at hy hR
      clear hpre hJ hT hc0 hC hpl hJ5 ho5 hb5 hc
      gi_wp2
      refine hR.mono ?_
      rintro e W3 (⟨rfl, hJ3, hk3⟩ | ⟨rfl, hJx3⟩)
      · obtain ⟨hpre, hT, hc, hC⟩ := HX5.out
        obtain ⟨⟨b1, b2, b3, b4, b5⟩, _⟩ := HBS.out
        have HI2 : Hid (x + 1 ≤ 25 ∧ (∃ pre : List (Nat × Value), pre.map Prod.fst = List.range (x + 1) ∧ Jv pre W3) ∧ TmK W3 T n n us ts ∧ W3.cell? ⟨Bb, 0, none⟩ = some (.slice (some ⟨T, 0, none⟩) n n) ∧ C ≤ W3.heap.size) := by
          refine ⟨by omega, ⟨pre ++ [(x, v5)], by rw [List.map_append, hpre, List.range_succ]; rfl, hJ3⟩, hT.eq (hk3.2 T b3 b4), ?_, Nat.le_trans hC hk3.1⟩
          rw [← hc]
          unfold World.cell?
          rw [hk3.2 Bb b1 b2]
        clear hpre hT hc hC b1 b2 b3 b4 b5 hJ3 hk3 hy hR
        gi_wp2
        exact ⟨⟨x + 1, by go_num, HI2⟩, by simp [intOf]; omega⟩
      · obtain ⟨hpre, _, _, _⟩ := HX5.out
        have hpl : pre.length = x := by have := congrArg List.length hpre; simpa using this
        have HJ := Lib.hid (And.intro hJx3 (show TmSp 25 (pre ++ [(x, v5)]) from ⟨by rw [List.map_append, hpre, List.length_append, hpl]; simp [List.range_succ], by rw [List.length_append, hpl]; simp; omega⟩))
        clear hJx3 hpre hpl hy hR
        gi_wp2
        refine bodyPost_ret (results_none rfl _ _ _) rfl ?_
        exact ⟨⟨_, rfl⟩, .inr ⟨_, HJ.out.2, HJ.out.1⟩⟩
    · obtain rfl : x = 25 := by omega
      have HJ : Hid (∃ xs : List (Nat × Value), xs.map Prod.fst = List.range 25 ∧ Jv xs wr) := ⟨pre, hpre, hJ⟩
      clear hx hxm hpre hJ hT hc hC
      gi_wp2
      go_end0
      exact ⟨⟨_, rfl⟩, .inl HJ.out⟩
/-- What forests hands back has its contract. -/
theorem forests_seq (q Bb B8 T n : Nat) (us ts : List Int) (w : World) (hro : Fence.wide.round = none) (hBb : w.cell? ⟨Bb, 0, none⟩ = some (.slice (some ⟨T, 0, none⟩) n n)) (hb : Bb ≠ B8 ∧ T ≠ B8 ∧ Bb < w.heap.size) (hT : TmK w T n n us ts) (hn : us.length = n ∧ n ≤ 16) (hq : 1 ≤ q) :
    SeqMut Fence.wide q Tryz.prog 47 #[.pointer (some ⟨Bb, 0, none⟩)] (fun x : Nat × Value => #[Value.int .i64 (x.1 : Int), x.2]) (Kept B8 w.heap.size) (fun A B => Below A.heap.size A B) (fun xs => xs.map Prod.fst = List.range 25) (TmSp 25) (TmRdy w.heap.size us ts) w := by
  intro l Jv Jx W hW _ _ hMv hY h0
  have hTl := hT.lt
  exact forests_in q l Bb B8 w.heap.size T n us ts Jv Jx hro hMv hY W ((hW.cell (p := ⟨Bb, 0, none⟩) hb.2.2).trans hBb) ⟨hb.2.2, hb.1, hTl, hb.2.1, hW.size⟩ (hT.below hW hTl) hn h0 hq
set_option maxHeartbeats 2000000 in
/-- No forests where there are no items. -/
theorem forests_seq0 (q Bb : Nat) (Kp : World → World → Prop) (Sp : List (Nat × Value) → Prop) (Rdy : List (Nat × Value) → World → Prop) (w : World) (hro : Fence.wide.round = none) (hBb : w.cell? ⟨Bb, 0, none⟩ = some (.slice none 0 0)) (hBl : Bb < w.heap.size) (_ : 1 ≤ q) :
    SeqMut Fence.wide q Tryz.prog 47 #[.pointer (some ⟨Bb, 0, none⟩)] (fun x : Nat × Value => #[Value.int .i64 (x.1 : Int), x.2]) Kp (fun A B => Below A.heap.size A B) (fun xs => xs = []) Sp Rdy w := by
  intro l Jv Jx W hW _ _ hMv hY h0
  have hc := (hW.cell (p := ⟨Bb, 0, none⟩) hBl).trans hBb
  have HJ := Lib.hid h0
  have hq2 := fun (w : World) (a : Option Addr) (n c : Nat) => Lib.run_eql_slice_nil (P := Tryz.prog) w 60 95 a n c 0 0 Tryz.underlying60
  clear h0 hMv hY hBb hW
  refine callsIn_of_wp Tryz.func47 rfl trivial ?_ hro
  simp only [Tryz.ntmps47, List.size_toArray, List.length_cons, List.length_nil, Nat.reduceAdd, Nat.reduceSub, Array.replicate_succ, Array.replicate_zero, List.push_toArray, List.append_toArray, List.nil_append, List.cons_append]
  gi_wp2
  refine bodyPost_ret (results_none rfl _ _ _) rfl ?_
  exact ⟨⟨_, rfl⟩, .inl ⟨[], rfl, HJ.out⟩⟩
theorem forests_any (A : Option Addr) (n c : Nat) (w : World) :
    Calls Tryz.prog 24 #[.slice A n c] w fun e w' => e = .returned (.func (.func 47) #[] #[.pointer (some ⟨w.heap.size, 0, none⟩)]) ∧ w' = w.alloc (.cells #[.slice A n c] 60) := by
  go_enter Tryz.func24, Tryz.ntmps24
  go_wp2
  go_ret
  exact ⟨rfl, rfl⟩
end Go.Proofs.YtmkdiifjecnokaaGreat

namespace Go.Proofs.YtmkdiifjecnokaaGreat
open Go.RowKit

theorem take_snoc_i {xs : List Int} {k : Nat} (h : k < xs.length) : xs.take (k + 1) = xs.take k ++ [xs[k]?.getD 0] := by
  rw [List.take_succ_eq_append_getElem h]
  simp [h]
/-- Whether there is a forest of that time. -/
def askB (us ts : List Int) (m : Int) : Bool := tmB us ts && decide (0 ≤ m ∧ m ≤ 24)
def faL (us ts : List Int) (m : Int) : List Int := if askB us ts m = true then atL us ts m else []
theorem faL_yes {us ts : List Int} {m : Int} (h : askB us ts m = true) : faL us ts m = atL us ts m := by unfold faL; rw [if_pos h]
theorem faL_no {us ts : List Int} {m : Int} (h : askB us ts m = false) : faL us ts m = [] := by unfold faL; rw [h]; simp
theorem askB_parts {us ts : List Int} {m : Int} (h : askB us ts m = true) : tmB us ts = true ∧ 0 ≤ m ∧ m ≤ 24 := by
  unfold askB at h
  simp only [Bool.and_eq_true, decide_eq_true_eq] at h
  exact h
theorem askB_tm {us ts : List Int} {m : Int} (h : tmB us ts = false) : askB us ts m = false := by unfold askB; rw [h]; rfl
theorem fv_nil : fvB [] = false := rfl
theorem rootN_nil (i : Int) : rootN [] i = -1 := rootN_no (item_no fv_nil)
theorem togB_nil (a b : Int) : togB [] a b = false := togB_no (item_no fv_nil)
theorem faL_len (us ts : List Int) (m : Int) : (faL us ts m).length ≤ us.length := by
  unfold faL
  split
  · rw [atL_len]; exact Nat.le_refl _
  · simp

end Go.Proofs.YtmkdiifjecnokaaGreat
namespace Go.Proofs.YtmkdiifjecnokaaGreat
open Go.RowKit Go.Shelf
attribute [local go_sem] Oper.semAt_some
set_option maxRecDepth 100000 in
set_option maxHeartbeats 8000000 in
theorem implForestAt_any (A1 A2 : Option Addr) (n1 c1 n2 c2 B0 : Nat) (m : Int) (us ts : List Int) (w : World) (h1 : Rd w B0 A1 n1 us) (h2 : Rd w B0 A2 n2 ts) (hB0 : B0 ≤ w.heap.size) (hb1 : n1 ≤ 1048576) (hb2 : n2 ≤ 1048576) :
    Calls Tryz.prog 9 #[.agg #[.slice A1 n1 c1, .slice A2 n2 c2], .int .i64 m] w fun e w' => ∃ v, e = .returned (.tuple #[v, .bool (askB us ts m)]) ∧ Own w' w.heap.size v (faL us ts m) ∧ Below w.heap.size w w' := by
  obtain ⟨W1, hW1⟩ : ∃ W1, W1 = w.alloc (.cells #[.slice A1 n1 c1, .slice A2 n2 c2] 28) := ⟨_, rfl⟩
  obtain ⟨W2, hW2⟩ : ∃ W2, W2 = W1.alloc (.cells #[.int .i64 m] 3) := ⟨_, rfl⟩
  obtain ⟨W3, hW3⟩ : ∃ W3, W3 = W2.alloc (.cells #[.slice none 0 0] 26) := ⟨_, rfl⟩
  obtain ⟨W, hW⟩ : ∃ W, W = W3.alloc (.cells #[.bool false] 4) := ⟨_, rfl⟩
  have e1 : W1.heap.size = w.heap.size + 1 := by rw [hW1]; simp
  have e2 : W2.heap.size = w.heap.size + 2 := by rw [hW2]; simp [e1]
  have e3 : W3.heap.size = w.heap.size + 3 := by rw [hW3]; simp [e2]
  have eW : W.heap.size = w.heap.size + 4 := by rw [hW]; simp [e3]
  have hb01 : Below w.heap.size w W1 := by rw [hW1]; exact (Below.refl _ _).alloc (Nat.le_refl _) _
  have hb12 : Below W1.heap.size W1 W2 := by rw [hW2]; exact (Below.refl _ _).alloc (Nat.le_refl _) _
  have hb23 : Below W2.heap.size W2 W3 := by rw [hW3]; exact (Below.refl _ _).alloc (Nat.le_refl _) _
  have hb34 : Below W3.heap.size W3 W := by rw [hW]; exact (Below.refl _ _).alloc (Nat.le_refl _) _
  have hbW : Below w.heap.size w W := Below.on (Below.on (Below.on hb01 hb12) hb23) hb34
  have hA2 : W.heap[w.heap.size]? = some (.cells #[.slice A1 n1 c1, .slice A2 n2 c2] 28 (0, 0)) := (hb34.block _ (by omega)).trans ((hb23.block _ (by omega)).trans ((hb12.block _ (by omega)).trans (by rw [hW1]; exact World.alloc_heap_new w _)))
  have hA3 : Boxed W (w.heap.size + 1) 3 (.int .i64 m) := (hb34.block _ (by omega)).trans ((hb23.block _ (by omega)).trans (by rw [hW2, ← e1]; exact World.alloc_heap_new W1 _))
  have hA4 : Boxed W (w.heap.size + 2) 26 (.slice none 0 0) := (hb34.block _ (by omega)).trans (by rw [hW3, ← e2]; exact World.alloc_heap_new W2 _)
  have hA5 : Boxed W (w.heap.size + 3) 4 (.bool false) := by rw [hW, ← e3]; exact World.alloc_heap_new W3 _
  have TE := timedForestOf_any A1 A2 n1 c1 n2 c2 B0 us ts W (h1.below hbW hB0) (h2.below hbW hB0) (Nat.le_trans hB0 hbW.size) hb1 hb2
  have hl1 := h1.1
  obtain ⟨B2, hB2⟩ : ∃ x, x = w.heap.size := ⟨_, rfl⟩
  obtain ⟨B3, hB3⟩ : ∃ x, x = w.heap.size + 1 := ⟨_, rfl⟩
  obtain ⟨B4, hB4⟩ : ∃ x, x = w.heap.size + 2 := ⟨_, rfl⟩
  obtain ⟨B5, hB5⟩ : ∃ x, x = w.heap.size + 3 := ⟨_, rfl⟩
  rw [← hB2] at hA2
  rw [← hB3] at hA3
  rw [← hB4] at hA4
  rw [← hB5] at hA5
  obtain ⟨k1, k2⟩ := (boxTwo_cells hA2).1
  have HW := Lib.hid (And.intro hW (And.intro hW3 (And.intro hW2 (And.intro hW1 (And.intro hB2 (And.intro (show B2 + 1 = B3 by omega) (And.intro (show B3 + 1 = B4 by omega) (show B4 + 1 = B5 by omega))))))))
  have HF := Lib.hid (And.intro hbW (And.intro hA2 (And.intro hA3 (And.intro hA4 (And.intro hA5 (And.intro eW hl1))))))
  have TE := Lib.hid TE
  have hszw : B5 = w.heap.size + 3 := hB5
  have HSZ := Lib.hid (And.intro hB2 (And.intro hB3 (And.intro hB4 hB5)))
  clear h1 h2 hB0 hb1 hb2 hW1 hW2 hW3 hW e1 e2 e3 eW hb01 hb12 hb23 hb34 hA2 hA3 hA4 hA5 hbW hl1 hB2 hB3 hB4 hB5 hszw
  refine (callsIn_wide (n := 8)).1 (callsIn_of_wp_marks Tryz.func9 rfl trivial (wpIn_wide.2 ?_) rfl)
  simp only [Tryz.ntmps9, List.size_toArray, List.length_cons, List.length_nil, Nat.reduceAdd, Nat.reduceSub, Array.replicate_succ, Array.replicate_zero, List.push_toArray, List.append_toArray, List.nil_append, List.cons_append]
  go_wp2_with fail
  rw [← HW.out.2.2.2.1, ← HW.out.2.2.1, ← HW.out.2.1, ← HW.out.1, ← HW.out.2.2.2.2.1]
  rw [HW.out.2.2.2.2.2.1, HW.out.2.2.2.2.2.2.1, HW.out.2.2.2.2.2.2.2]
  refine TE.out.mono ?_
  rintro e w1 ⟨hb, ⟨hv, rfl⟩ | ⟨hv, T, rfl, hT, hTl⟩⟩
  · skip
    obtain ⟨V, hV⟩ : ∃ V, V = w1.alloc (.cells #[.slice none 0 0] 60) := ⟨_, rfl⟩
    obtain ⟨B9, hB9⟩ : ∃ B9, B9 = w1.heap.size := ⟨_, rfl⟩
    have e9 : V.heap.size = B9 + 1 := by rw [hV, hB9]; simp
    have hbV : Below w1.heap.size w1 V := by rw [hV]; exact (Below.refl _ _).alloc (Nat.le_refl _) _
    have hA9 : Boxed V B9 60 (.slice none 0 0) := by rw [hV, hB9]; exact World.alloc_heap_new w1 _
    obtain ⟨hbW, _, hA3, hA4, hA5, eW, hl⟩ := HF.out
    obtain ⟨s2, s3, s4, s5⟩ := HSZ.out
    have hs1 := hb.size
    have hA3V : Boxed V B3 3 (.int .i64 m) := (hbV.block B3 (by omega)).trans ((hb.block B3 (by omega)).trans hA3)
    have hA4V : Boxed V B4 26 (.slice none 0 0) := (hbV.block B4 (by omega)).trans ((hb.block B4 (by omega)).trans hA4)
    have hA5V : Boxed V B5 4 (.bool false) := (hbV.block B5 (by omega)).trans ((hb.block B5 (by omega)).trans hA5)
    have hbwV : Below w.heap.size w V := Below.on (Below.on hbW hb) hbV
    have HK := Lib.hid (And.intro e9 (And.intro hA9 (And.intro hA3V (And.intro hA4V (And.intro hA5V (And.intro hbwV (And.intro hs1 (And.intro eW hl))))))))
    have HVE := Lib.hid (And.intro hV hB9)
    clear hb hA3 hA4 hA5 hbW hV hB9 e9 hbV hA9 eW hl s2 s3 s4 s5 hs1 hA3V hA4V hA5V hbwV
    go_wp2_with fail
    refine (forests_any _ _ _ w1).mono ?_
    rintro e w2 ⟨rfl, rfl⟩
    rw [← HVE.out.1, ← HVE.out.2]
    go_wp2_with fail
    obtain ⟨e9, hA9, hA3V, hA4V, hA5V, hbwV, hs1, eW, hl⟩ := HK.out
    obtain ⟨s2, s3, s4, s5⟩ := HSZ.out
    have hB9 := HVE.out.2
    refine (wpIn_wide (n := 8)).1 ?_
    apply wpIn_rangeFunc_seqMut (encs := fun x : Nat × Value => #[Value.int .i64 (x.1 : Int), x.2]) (Kp := Kept V.heap.size V.heap.size) (Mv := fun A B => Below A.heap.size A B) (S := fun xs => xs = []) (Sp := fun _ => False) (Rdy := fun _ _ => True) rfl (by omega) (gf := 47) (lb := #[.pointer (some ⟨B9, 0, none⟩)]) rfl trivial (enters_of Tryz.func47 (by kernel_rfl) rfl)
      (forests_seq0 7 B9 _ _ _ V rfl hA9.cell (by omega) (by omega)) (fun h1 h2 => h1.trans h2) ?hKb (fun _ => rfl) ?hMvK ?hRb
      (fun pre W => Boxed W B3 3 (.int .i64 m) ∧ (Boxed W B4 26 (.slice none 0 0) ∧ (Boxed W B5 4 (.bool false) ∧ (Below w.heap.size w W ∧ ∀ x, x ∈ pre → (x.1 : Int) ≠ m))))
      (fun c q W => c = .ret ∧ ((∃ pre x, q = pre ++ [x] ∧ (x.1 : Int) = m ∧ x.1 ≤ 24 ∧ Own W w.heap.size x.2 (atL us ts m) ∧ Boxed W B4 26 x.2 ∧ Boxed W B5 4 (.bool true)) ∧ Below w.heap.size w W))
      ?hI ?hIx ?hMv ⟨hA3V, hA4V, hA5V, hbwV, fun y hy => by simp at hy⟩
      (fun x => { tmps := #[.agg #[.slice A1 n1 c1, .slice A2 n2 c2], .int .i64 m, .pointer (some ⟨B2, 0, none⟩), .pointer (some ⟨B3, 0, none⟩), .pointer (some ⟨B4, 0, none⟩), .pointer (some ⟨B5, 0, none⟩), .int .i64 (x.1 : Int), x.2, .agg #[.slice A1 n1 c1, .slice A2 n2 c2], .slice none 0 0, .func (.func 47) #[] #[.pointer (some ⟨B9, 0, none⟩)], .int .i64 (x.1 : Int), x.2, undef, undef, undef, undef], defers := [] })
    case hKb =>
      intro W l o o' hl hlo hc _
      exact Kept.put W o' hl
    case hMvK =>
      intro A B h
      exact ⟨h.size, fun k o hk ho _ => (h.block k (Array.getElem?_eq_some_iff.1 ho).1).trans ho⟩
    case hRb =>
      intro q W l o o' h hl hlo hc _
      exact h
    case hI =>
      exact OwnFrom.and (Go.Own.from (boxed_own _ _ _) _) (OwnFrom.and (Go.Own.from (boxed_own _ _ _) _) (OwnFrom.and (Go.Own.from (boxed_own _ _ _) _) (OwnFrom.and (ownFrom_below (Nat.le_refl _) (by omega)) (fun _ _ _ _ h _ _ => h))))
    case hIx =>
      intro c s A B row h hg hr
      obtain ⟨h1, ⟨pre, x, h2, h3, h3', h4, h5, h6⟩, h7⟩ := h
      exact ⟨h1, ⟨pre, x, h2, h3, h3', own_row h4 hg (fun r e => (hr r e).2), Go.Own.from (boxed_own B4 26 (fun _ : List Nat => x.2)) _ [] A B row h5 hg hr, Go.Own.from (boxed_own B5 4 (fun _ : List Nat => Value.bool true)) _ [] A B row h6 hg hr⟩, ownFrom_below (β := List Nat) (Nat.le_refl _) (show w.heap.size ≤ V.heap.size by omega) [] A B row h7 hg hr⟩
    case hMv =>
      rintro pre A B ⟨q3, q4, q5, qb, qt⟩ hc
      exact ⟨(hc.block B3 q3.lt).trans q3, (hc.block B4 q4.lt).trans q4, (hc.block B5 q5.lt).trans q5, Below.on qb hc, qt⟩
    case hassign =>
      intro l x W K hK
      clear s2 s3 s4 s5 e9 eW hl hs1 hB9
      gi_wp2
      exact hK
    case hbody =>
      rintro l pre x W _ _ h _
      exact h.elim
    case hdone =>
      rintro D xs W hD hS ⟨q3, q4, q5, qb, qt⟩ hK
      have hno : askB us ts m = false := askB_tm hv
      obtain ⟨Z, hZ⟩ : ∃ Z, Z = (W.setCell ⟨B4, 0, none⟩ (.slice none 0 0)).setCell ⟨B5, 0, none⟩ (.bool false) := ⟨_, rfl⟩
      have hKZ : Z.heap[D]? = some (.deferred (some [])) := by rw [hZ]; exact (Below.heap_setCell _ ⟨B5, 0, none⟩ _ D (by show D ≠ B5; omega)).trans ((Below.heap_setCell _ ⟨B4, 0, none⟩ _ D (by show D ≠ B4; omega)).trans hK)
      have hb4 : Boxed Z B4 26 (.slice none 0 0) := by rw [hZ]; exact (Below.heap_setCell _ ⟨B5, 0, none⟩ _ B4 (by show B4 ≠ B5; omega)).trans (q4.set _)
      have q5' : Boxed (W.setCell ⟨B4, 0, none⟩ (.slice none 0 0)) B5 4 (.bool false) := (Below.heap_setCell W ⟨B4, 0, none⟩ _ B5 (by show B5 ≠ B4; omega)).trans q5
      have c5' := q5'.cell
      have f5' := q5'.frozen
      have hb5 : Boxed Z B5 4 (.bool false) := by
        rw [hZ]
        exact q5'.set _
      have hbz : Below w.heap.size w Z := by rw [hZ]; exact (qb.setCell (p := ⟨B4, 0, none⟩) (by show w.heap.size ≤ B4; omega) _).setCell (p := ⟨B5, 0, none⟩) (by show w.heap.size ≤ B5; omega) _
      have c4 := q4.cell
      have f4 := q4.frozen
      have c5 := q5.cell
      have f5 := q5.frozen
      have HX := Lib.hid (And.intro hKZ (And.intro hb4 (And.intro hb5 (And.intro hbz (And.intro (show B4 < D by omega) (And.intro (show B5 < D by omega) (show w.heap.size ≤ D by omega)))))))
      have HZ := Lib.hid hZ
      have HNO := Lib.hid hno
      clear hZ hKZ hb4 hb5 hbz hno q5' q3 q4 q5 qb qt s2 s3 s4 s5 e9 eW hl hs1 hB9
      gi_wp2
      go_wp2
      rw [← HZ.out]
      obtain ⟨z1, z2, z3, z4, z5, z6, z7⟩ := HX.out
      have k4 := Boxed.cell (show Boxed (Z.putObj D (.deferred none)) B4 26 (.slice none 0 0) from (World.putObj_heap_other (by omega)).trans z2)
      have k5 := Boxed.cell (show Boxed (Z.putObj D (.deferred none)) B5 4 (.bool false) from (World.putObj_heap_other (by omega)).trans z3)
      refine ⟨by simp, .inl ⟨_, _, rfl, run_takeDeferred z1, ?_⟩⟩
      refine ⟨.tuple #[.slice none 0 0, .bool false], by simp [results, Tryz.results9, go_sem, k4, k5], .slice none 0 0, by rw [HNO.out], ?_, z4.trans (belowK_b (w := w) (Nat.le_refl _) Z D _ _ z7 z1 rfl rfl)⟩
      rw [faL_no HNO.out]
      exact World.ownsRow_nil _ _ _ _
    case hstop =>
      rintro D c q W hD hq _ _
      exact hq.elim
  · skip
    obtain ⟨V, hV⟩ : ∃ V, V = w1.alloc (.cells #[.slice (some ⟨T, 0, none⟩) n1 n1] 60) := ⟨_, rfl⟩
    obtain ⟨B9, hB9⟩ : ∃ B9, B9 = w1.heap.size := ⟨_, rfl⟩
    have e9 : V.heap.size = B9 + 1 := by rw [hV, hB9]; simp
    have hbV : Below w1.heap.size w1 V := by rw [hV]; exact (Below.refl _ _).alloc (Nat.le_refl _) _
    have hA9 : Boxed V B9 60 (.slice (some ⟨T, 0, none⟩) n1 n1) := by rw [hV, hB9]; exact World.alloc_heap_new w1 _
    obtain ⟨hbW, _, hA3, hA4, hA5, eW, hl⟩ := HF.out
    obtain ⟨s2, s3, s4, s5⟩ := HSZ.out
    have hs1 := hb.size
    have hA3V : Boxed V B3 3 (.int .i64 m) := (hbV.block B3 (by omega)).trans ((hb.block B3 (by omega)).trans hA3)
    have hA4V : Boxed V B4 26 (.slice none 0 0) := (hbV.block B4 (by omega)).trans ((hb.block B4 (by omega)).trans hA4)
    have hA5V : Boxed V B5 4 (.bool false) := (hbV.block B5 (by omega)).trans ((hb.block B5 (by omega)).trans hA5)
    have hbwV : Below w.heap.size w V := Below.on (Below.on hbW hb) hbV
    have hTV := hT.below hbV hT.lt
    have hTlt := hT.lt
    have hn16 : us.length ≤ 16 := (fv_parts (tmB_parts hv).1).2.1
    have HT := Lib.hid (And.intro hTV (And.intro hTlt hn16))
    have HK := Lib.hid (And.intro e9 (And.intro hA9 (And.intro hA3V (And.intro hA4V (And.intro hA5V (And.intro hbwV (And.intro hs1 (And.intro eW hl))))))))
    have HVE := Lib.hid (And.intro hV hB9)
    clear hb hA3 hA4 hA5 hbW hV hB9 e9 hbV hA9 eW hl s2 s3 s4 s5 hs1 hA3V hA4V hA5V hbwV hTV hTlt hn16 hT hTl
    go_wp2_with fail
    refine (forests_any _ _ _ w1).mono ?_
    rintro e w2 ⟨rfl, rfl⟩
    rw [← HVE.out.1, ← HVE.out.2]
    go_wp2_with fail
    obtain ⟨e9, hA9, hA3V, hA4V, hA5V, hbwV, hs1, eW, hl⟩ := HK.out
    obtain ⟨s2, s3, s4, s5⟩ := HSZ.out
    have hB9 := HVE.out.2
    obtain ⟨hTV, hTlt, hn16⟩ := HT.out
    refine (wpIn_wide (n := 8)).1 ?_
    apply wpIn_rangeFunc_seqMut (encs := fun x : Nat × Value => #[Value.int .i64 (x.1 : Int), x.2]) (Kp := Kept V.heap.size V.heap.size) (Mv := fun A B => Below A.heap.size A B) (S := fun xs => xs.map Prod.fst = List.range 25) (Sp := TmSp 25) (Rdy := TmRdy V.heap.size us ts) rfl (by omega) (gf := 47) (lb := #[.pointer (some ⟨B9, 0, none⟩)]) rfl trivial (enters_of Tryz.func47 (by kernel_rfl) rfl)
      (forests_seq 7 B9 V.heap.size T n1 us ts V rfl hA9.cell ⟨by omega, by omega, by omega⟩ hTV ⟨hl, by omega⟩ (by omega)) (fun h1 h2 => h1.trans h2) ?hKb (fun _ => rfl) ?hMvK ?hRb
      (fun pre W => Boxed W B3 3 (.int .i64 m) ∧ (Boxed W B4 26 (.slice none 0 0) ∧ (Boxed W B5 4 (.bool false) ∧ (Below w.heap.size w W ∧ ∀ x, x ∈ pre → (x.1 : Int) ≠ m))))
      (fun c q W => c = .ret ∧ ((∃ pre x, q = pre ++ [x] ∧ (x.1 : Int) = m ∧ x.1 ≤ 24 ∧ Own W w.heap.size x.2 (atL us ts m) ∧ Boxed W B4 26 x.2 ∧ Boxed W B5 4 (.bool true)) ∧ Below w.heap.size w W))
      ?hI ?hIx ?hMv ⟨hA3V, hA4V, hA5V, hbwV, fun y hy => by simp at hy⟩
      (fun x => { tmps := #[.agg #[.slice A1 n1 c1, .slice A2 n2 c2], .int .i64 m, .pointer (some ⟨B2, 0, none⟩), .pointer (some ⟨B3, 0, none⟩), .pointer (some ⟨B4, 0, none⟩), .pointer (some ⟨B5, 0, none⟩), .int .i64 (x.1 : Int), x.2, .agg #[.slice A1 n1 c1, .slice A2 n2 c2], .slice (some ⟨T, 0, none⟩) n1 n1, .func (.func 47) #[] #[.pointer (some ⟨B9, 0, none⟩)], .int .i64 (x.1 : Int), x.2, undef, undef, undef, undef], defers := [] })
    case hKb =>
      intro W l o o' hl hlo hc _
      exact Kept.put W o' hl
    case hMvK =>
      intro A B h
      exact ⟨h.size, fun k o hk ho _ => (h.block k (Array.getElem?_eq_some_iff.1 ho).1).trans ho⟩
    case hRb =>
      intro q W l o o' h hl hlo hc _
      exact fun x hx => own_row (h x hx) (grownBy_putObj' W l o') (fun r e => by injection e with e; subst e; exact ⟨o, hlo, hc⟩)
    case hI =>
      exact OwnFrom.and (Go.Own.from (boxed_own _ _ _) _) (OwnFrom.and (Go.Own.from (boxed_own _ _ _) _) (OwnFrom.and (Go.Own.from (boxed_own _ _ _) _) (OwnFrom.and (ownFrom_below (Nat.le_refl _) (by omega)) (fun _ _ _ _ h _ _ => h))))
    case hIx =>
      intro c s A B row h hg hr
      obtain ⟨h1, ⟨pre, x, h2, h3, h3', h4, h5, h6⟩, h7⟩ := h
      exact ⟨h1, ⟨pre, x, h2, h3, h3', own_row h4 hg (fun r e => (hr r e).2), Go.Own.from (boxed_own B4 26 (fun _ : List Nat => x.2)) _ [] A B row h5 hg hr, Go.Own.from (boxed_own B5 4 (fun _ : List Nat => Value.bool true)) _ [] A B row h6 hg hr⟩, ownFrom_below (β := List Nat) (Nat.le_refl _) (show w.heap.size ≤ V.heap.size by omega) [] A B row h7 hg hr⟩
    case hMv =>
      rintro pre A B ⟨q3, q4, q5, qb, qt⟩ hc
      exact ⟨(hc.block B3 q3.lt).trans q3, (hc.block B4 q4.lt).trans q4, (hc.block B5 q5.lt).trans q5, Below.on qb hc, qt⟩
    case hassign =>
      intro l x W K hK
      clear s2 s3 s4 s5 e9 eW hl hs1 hB9
      gi_wp2
      exact hK
    case hbody =>
      rintro l pre ⟨x1, x2⟩ W ⟨q3, q4, q5, qb, qt⟩ hR hsp hsz
      have hO : Own W V.heap.size x2 (atL us ts (x1 : Int)) := hR.last
      have hx1 := hsp.last.2
      obtain ⟨A, c, rfl, _⟩ := hO.form
      have hxb := hO.blockOf
      by_cases hm : (x1 : Int) = m
      · have t : ((x1 : Int) == m) = true := by simp [hm]
        have c3 := q3.cell
        have c4 := q4.cell
        have f4 := q4.frozen
        have c5 := q5.cell
        have f5 := q5.frozen
        have hnl : (atL us ts (x1 : Int)).length = us.length := atL_len us ts _
        obtain ⟨Z, hZ⟩ : ∃ Z, Z = (W.setCell ⟨B4, 0, none⟩ (.slice A (atL us ts (x1 : Int)).length c)).setCell ⟨B5, 0, none⟩ (.bool true) := ⟨_, rfl⟩
        have g1 : W.grownBy (W.setCell ⟨B4, 0, none⟩ (.slice A (atL us ts (x1 : Int)).length c)) (some B4) := put_grown W B4 0 _
        have g2 : (W.setCell ⟨B4, 0, none⟩ (.slice A (atL us ts (x1 : Int)).length c)).grownBy Z (some B5) := by rw [hZ]; exact put_grown _ B5 0 _
        have ho1 := hO.kept g1 (.inr fun e => by have := (hxb _ e).1; omega)
        have ho2 := (ho1.kept g2 (.inr fun e => by have := (hxb _ e).1; omega)).less (show w.heap.size ≤ V.heap.size by omega)
        have hb4 : Boxed Z B4 26 (.slice A (atL us ts (x1 : Int)).length c) := by rw [hZ]; exact (Below.heap_setCell _ ⟨B5, 0, none⟩ _ B4 (by show B4 ≠ B5; omega)).trans (q4.set _)
        have q5' : Boxed (W.setCell ⟨B4, 0, none⟩ (.slice A (atL us ts (x1 : Int)).length c)) B5 4 (.bool false) := (Below.heap_setCell W ⟨B4, 0, none⟩ _ B5 (by show B5 ≠ B4; omega)).trans q5
        have c5' := q5'.cell
        have f5' := q5'.frozen
        have hb5 : Boxed Z B5 4 (.bool true) := by
          rw [hZ]
          exact q5'.set _
        have hbz : Below w.heap.size w Z := by rw [hZ]; exact (qb.setCell (p := ⟨B4, 0, none⟩) (by show w.heap.size ≤ B4; omega) _).setCell (p := ⟨B5, 0, none⟩) (by show w.heap.size ≤ B5; omega) _
        have hkz : KeepsFrom V.heap.size W Z := by rw [hZ]; exact ((KeepsOthers.setCell _ _ _).trans (KeepsOthers.setCell _ _ _)).from _
        have ho2 := (congrArg (fun z => Own Z w.heap.size (.slice A (atL us ts (x1 : Int)).length c) (atL us ts z)) hm).mp ho2
        have HX := Lib.hid (And.intro hkz (And.intro ho2 (And.intro hb4 (And.intro hb5 (And.intro hbz (And.intro hx1.2 hx1.1))))))
        have HZ := Lib.hid hZ
        have HM := Lib.hid hm
        clear hR hsp hO hx1 hxb hm hnl g1 g2 ho1 ho2 hb4 hb5 hbz hkz hZ q5' q3 q4 q5 qb qt s2 s3 s4 s5 e9 eW hl hs1 hB9
        gi_wp2
        rw [← HZ.out]
        obtain ⟨z1, z2, z3, z4, z5, z6, z7⟩ := HX.out
        have z7' : x1 = pre.length := z7
        exact ⟨z1, rfl, ⟨pre, x1, _, rfl, HM.out, (show x1 ≤ 24 by omega), z2, z3, z4⟩, z5⟩
      · have t : ((x1 : Int) == m) = false := by simp [hm]
        have c3 := q3.cell
        have HX := Lib.hid (And.intro q3 (And.intro q4 (And.intro q5 (And.intro qb qt))))
        have HM := Lib.hid hm
        clear hR hsp hO hx1 hxb hm q3 q4 q5 qb qt s2 s3 s4 s5 e9 eW hl hs1 hB9
        gi_wp2
        obtain ⟨q3, q4, q5, qb, qt⟩ := HX.out
        refine ⟨KeepsFrom.refl _ _, ⟨Nat.le_refl _, fun _ _ _ => rfl⟩, q3, q4, q5, qb, fun y hy => ?_⟩
        rw [List.mem_append, List.mem_singleton] at hy
        rcases hy with hy | hy
        · exact qt y hy
        · rw [hy]; exact HM.out
    case hdone =>
      rintro D xs W hD hS ⟨q3, q4, q5, qb, qt⟩ hK
      have hno : askB us ts m = false := by
        cases h : askB us ts m with
        | false => rfl
        | true =>
          exfalso
          obtain ⟨_, h0, h24⟩ := askB_parts h
          have : m.toNat ∈ xs.map Prod.fst := by rw [hS, List.mem_range]; omega
          obtain ⟨x, hx, e⟩ := List.mem_map.1 this
          exact qt x hx (by omega)
      obtain ⟨Z, hZ⟩ : ∃ Z, Z = (W.setCell ⟨B4, 0, none⟩ (.slice none 0 0)).setCell ⟨B5, 0, none⟩ (.bool false) := ⟨_, rfl⟩
      have hKZ : Z.heap[D]? = some (.deferred (some [])) := by rw [hZ]; exact (Below.heap_setCell _ ⟨B5, 0, none⟩ _ D (by show D ≠ B5; omega)).trans ((Below.heap_setCell _ ⟨B4, 0, none⟩ _ D (by show D ≠ B4; omega)).trans hK)
      have hb4 : Boxed Z B4 26 (.slice none 0 0) := by rw [hZ]; exact (Below.heap_setCell _ ⟨B5, 0, none⟩ _ B4 (by show B4 ≠ B5; omega)).trans (q4.set _)
      have q5' : Boxed (W.setCell ⟨B4, 0, none⟩ (.slice none 0 0)) B5 4 (.bool false) := (Below.heap_setCell W ⟨B4, 0, none⟩ _ B5 (by show B5 ≠ B4; omega)).trans q5
      have c5' := q5'.cell
      have f5' := q5'.frozen
      have hb5 : Boxed Z B5 4 (.bool false) := by
        rw [hZ]
        exact q5'.set _
      have hbz : Below w.heap.size w Z := by rw [hZ]; exact (qb.setCell (p := ⟨B4, 0, none⟩) (by show w.heap.size ≤ B4; omega) _).setCell (p := ⟨B5, 0, none⟩) (by show w.heap.size ≤ B5; omega) _
      have c4 := q4.cell
      have f4 := q4.frozen
      have c5 := q5.cell
      have f5 := q5.frozen
      have HX := Lib.hid (And.intro hKZ (And.intro hb4 (And.intro hb5 (And.intro hbz (And.intro (show B4 < D by omega) (And.intro (show B5 < D by omega) (show w.heap.size ≤ D by omega)))))))
      have HZ := Lib.hid hZ
      have HNO := Lib.hid hno
      clear hZ hKZ hb4 hb5 hbz hno q5' q3 q4 q5 qb qt s2 s3 s4 s5 e9 eW hl hs1 hB9
      gi_wp2
      go_wp2
      rw [← HZ.out]
      obtain ⟨z1, z2, z3, z4, z5, z6, z7⟩ := HX.out
      have k4 := Boxed.cell (show Boxed (Z.putObj D (.deferred none)) B4 26 (.slice none 0 0) from (World.putObj_heap_other (by omega)).trans z2)
      have k5 := Boxed.cell (show Boxed (Z.putObj D (.deferred none)) B5 4 (.bool false) from (World.putObj_heap_other (by omega)).trans z3)
      refine ⟨by simp, .inl ⟨_, _, rfl, run_takeDeferred z1, ?_⟩⟩
      refine ⟨.tuple #[.slice none 0 0, .bool false], by simp [results, Tryz.results9, go_sem, k4, k5], .slice none 0 0, by rw [HNO.out], ?_, z4.trans (belowK_b (w := w) (Nat.le_refl _) Z D _ _ z7 z1 rfl rfl)⟩
      rw [faL_no HNO.out]
      exact World.ownsRow_nil _ _ _ _
    case hstop =>
      rintro D c q W hD hq ⟨rfl, ⟨pre, x, rfl, hm, hx24, ho, q4, q5⟩, qb⟩ hK
      have hyes : askB us ts m = true := by
        unfold askB
        rw [hv, decide_eq_true (show 0 ≤ m ∧ m ≤ 24 by omega)]
        rfl
      have HX := Lib.hid (And.intro hyes (And.intro ho (And.intro q4 (And.intro q5 (And.intro qb (And.intro (show B4 < D by omega) (And.intro (show B5 < D by omega) (show w.heap.size ≤ D by omega))))))))
      clear hyes ho q4 q5 qb s2 s3 s4 s5 e9 eW hl hs1 hB9
      gi_wp2
      go_wp2
      obtain ⟨hyes, ho, q4, q5, qb, z5, z6, z7⟩ := HX.out
      have k4 := Boxed.cell (show Boxed (W.putObj D (.deferred none)) B4 26 x.2 from (World.putObj_heap_other (by omega)).trans q4)
      have k5 := Boxed.cell (show Boxed (W.putObj D (.deferred none)) B5 4 (.bool true) from (World.putObj_heap_other (by omega)).trans q5)
      refine ⟨by simp, .inl ⟨_, _, rfl, run_takeDeferred hK, ?_⟩⟩
      refine ⟨.tuple #[x.2, .bool true], by simp [results, Tryz.results9, go_sem, k4, k5], x.2, by rw [hyes], ?_, qb.trans (belowK_b (w := w) (Nat.le_refl _) W D _ _ z7 hK rfl rfl)⟩
      rw [faL_yes hyes]
      exact own_row ho (grownBy_putObj' W D _) (fun r e => by injection e with e; subst e; exact ⟨_, hK, rfl⟩)
end Go.Proofs.YtmkdiifjecnokaaGreat