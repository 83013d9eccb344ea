/- The forests of all times, one behind the other: the iterator of a timed forest. Condition: lengths up to 1048576. -/
import Derived.Test.YtfafgihfgdpclaaTimedIn
import Derived.Test.YtfafgihfgdpclaaSeqMut
namespace Go.Proofs.Ytfafgihfgdpclaa
open Go.RowKit Go.Shelf
attribute [local go_sem] Oper.semAt_some

/-- A slice of the call's own stays so where blocks turn that hold no cells. -/
theorem own_row {w w' : World} {base : Nat} {v : Value} {zs : List Int} {row : Option Nat} (h : Own w base v zs) (hg : w.grownBy w' row) (hr : ∀ r, row = some r → ∃ o : Obj, w.heap[r]? = some o ∧ o.isCells = false) : Own w' base v zs := by
  refine h.kept hg ?_
  rcases h.2 with ⟨hv, _⟩ | ⟨g, cap, cur, hv, _, hh, _⟩
  · left; rw [hv]; rfl
  · right
    intro e
    rw [hv] at e
    obtain ⟨o, ho, hc⟩ := hr g e.symm
    rw [hh] at ho
    injection ho with ho
    rw [← ho] at hc
    cases hc
/-- Of the blocks below C all but B8 lie as they lay. -/
def Kept (B8 C : Nat) (A B : World) : Prop := A.heap.size ≤ B.heap.size ∧ ∀ k, k < C → k ≠ B8 → B.heap[k]? = A.heap[k]?
theorem Kept.trans {B8 C : Nat} {X Y Z : World} (h : Kept B8 C X Y) (k : Kept B8 C Y Z) : Kept B8 C X Z := ⟨Nat.le_trans h.1 k.1, fun i h1 h2 => (k.2 i h1 h2).trans (h.2 i h1 h2)⟩
theorem Kept.put {B8 C : Nat} (W : World) {l : Nat} (o : Obj) (h : C ≤ l) : Kept B8 C W (W.putObj l o) := ⟨by simp [World.putObj], fun k h1 _ => World.putObj_heap_other (by omega)⟩
/-- The first times. -/
def TmSp (M : Nat) (pre : List (Nat × Value)) : Prop := pre.map Prod.fst = List.range pre.length ∧ pre.length ≤ M
theorem TmSp.last {M : Nat} {pre : List (Nat × Value)} {x : Nat × Value} (h : TmSp M (pre ++ [x])) : pre.map Prod.fst = List.range pre.length ∧ x.1 = pre.length ∧ pre.length < M := by
  obtain ⟨h1, h2⟩ := h
  rw [List.length_append, List.length_singleton] at h1 h2
  rw [List.map_append, List.range_succ] at h1
  obtain ⟨h3, h4⟩ := List.append_inj' h1 rfl
  injection h4 with h4 _
  exact ⟨h3, h4, by omega⟩
/-- What is handed over is the forest of its time. -/
def TmRdy (base : Nat) (us ts : List Int) (q : List (Nat × Value)) (W : World) : Prop := ∀ x, q.getLast? = some x → Own W base x.2 (atL us ts (x.1 : Int))
theorem TmRdy.last {base : Nat} {us ts : List Int} {pre : List (Nat × Value)} {x : Nat × Value} {W : World} (h : TmRdy base us ts (pre ++ [x]) W) : Own W base x.2 (atL us ts (x.1 : Int)) := h x (by simp)
set_option maxRecDepth 100000 in
set_option maxHeartbeats 8000000 in
theorem forests_in (q l Bb B8 C T n : Nat) (us ts : List Int) (Jv Jx : List (Nat × Value) → World → Prop) (hro : Fence.wide.round = none)
    (hMv : ∀ pre W1 W2, Jv pre W1 → Below W1.heap.size W1 W2 → Jv pre W2)
    (hY : ∀ (pre : List (Nat × Value)) (x : Nat × Value) W1, Jv pre W1 → TmRdy C us ts (pre ++ [x]) W1 → TmSp 25 (pre ++ [x]) → YieldAt Fence.wide (q - 1) Try.prog l #[.int .i64 (x.1 : Int), x.2] W1 fun e W' =>
      (e = .returned (.bool true) ∧ Jv (pre ++ [x]) W' ∧ Kept B8 C W1 W') ∨ (e = .returned (.bool false) ∧ Jx (pre ++ [x]) W'))
    (W : World) (hBb : W.cell? ⟨Bb, 0, none⟩ = some (.slice (some ⟨T, 0, none⟩) n n)) (hb : Bb < C ∧ Bb ≠ B8 ∧ T < C ∧ T ≠ B8 ∧ C ≤ W.heap.size) (hT : TmK W T n n us ts) (hn : us.length = n ∧ n ≤ 16) (h0 : Jv [] W) (hq : 1 ≤ q) :
    CallsIn Fence.wide q Try.prog 187 #[.func (.yield l) #[] #[], .pointer (some ⟨Bb, 0, none⟩)] W fun e W' => (∃ v, e = .returned v) ∧
      ((∃ xs : List (Nat × Value), xs.map Prod.fst = List.range 25 ∧ Jv xs W') ∨ (∃ pre : List (Nat × Value), TmSp 25 pre ∧ Jx pre W')) := by
  have HMV := Lib.hid hMv
  have HY := Lib.hid hY
  have HBS := Lib.hid (And.intro hb hn)
  have HI : Hid (0 ≤ 25 ∧ (∃ pre : List (Nat × Value), pre.map Prod.fst = List.range 0 ∧ Jv pre W) ∧ TmK W T n n us ts ∧ W.cell? ⟨Bb, 0, none⟩ = some (.slice (some ⟨T, 0, none⟩) n n) ∧ C ≤ W.heap.size) := ⟨by omega, ⟨[], rfl, h0⟩, hT, hBb, hb.2.2.2.2⟩
  have hq2 := fun (w : World) (a : Option Addr) (n c : Nat) => Lib.run_eql_slice_nil (P := Try.prog) w 168 224 a n c 0 0 Try.underlying168
  clear hMv hY hb hT hn h0
  refine callsIn_of_wp Try.func187 rfl trivial ?_ hro
  simp only [Try.ntmps187, List.size_toArray, List.length_cons, List.length_nil, Nat.reduceAdd, Nat.reduceSub, Array.replicate_succ, Array.replicate_zero, List.push_toArray, List.append_toArray, List.nil_append, List.cons_append]
  gi_wp2
  clear hBb hq2
  gi_loopw [6] (fun lv wr => ∃ x : Nat, lv = .int .i64 (x : Int) ∧ Hid (x ≤ 25 ∧ (∃ pre : List (Nat × Value), pre.map Prod.fst = List.range x ∧ Jv pre wr) ∧ TmK wr T n n us ts ∧ wr.cell? ⟨Bb, 0, none⟩ = some (.slice (some ⟨T, 0, none⟩) n n) ∧ C ≤ wr.heap.size)) (fun lv _ => 25 - (intOf lv).toNat)
  case atStart => exact ⟨0, rfl, HI⟩
  case round =>
    obtain ⟨x, rfl, hx⟩ := hrel
    clear HI
    obtain ⟨hxm, ⟨pre, hpre, hJ⟩, hT, hc, hC⟩ := hx.out
    by_cases hlt : x < 25
    · have hxx : (x : Int) < 25 := by omega
      have hwr : IntKind.i64.wrap ((x : Int) + 1) = (x : Int) + 1 := IntWalk.i64_in _ (by omega)
      have AT := Lib.hid ((callsIn_wide (n := q - 1)).2 (at_any T n (x : Int) us ts wr hT HBS.out.2.1 HBS.out.2.2))
      have HX := Lib.hid (And.intro hpre (And.intro hJ (And.intro hT (And.intro hc hC))))
      clear hx hxm hpre hJ hT hC
      gi_wp2
      refine ⟨trivial, AT.out.mono ?_⟩
      rintro e w5 ⟨v5, rfl, ho5, hb5⟩
      obtain ⟨hpre, hJ, hT, hc0, hC⟩ := HX.out
      have hpl : pre.length = x := by have := congrArg List.length hpre; simpa using this
      have hJ5 := HMV.out _ _ _ hJ hb5
      have hyy := HY.out pre (x, v5) w5 hJ5 (fun z hz => by
        have e : (x, v5) = z := by simpa using hz
        rw [← e]
        exact ho5.less hC) ⟨by rw [List.map_append, hpre, List.length_append, hpl]; simp [List.range_succ], by rw [List.length_append, hpl]; simp; omega⟩
      obtain ⟨fn, tmps, assign, body, hy, hR⟩ := hyy
      have HX5 := Lib.hid (And.intro hpre (And.intro (hT.below hb5 hT.lt) (And.intro ((hb5.cell (p := ⟨Bb, 0, none⟩) (by show Bb < _; have := HBS.out.1; omega)).trans hc0) (Nat.le_trans hC hb5.size))))
      dsimp only at hy hR
      clear hpre hJ hT hc0 hC hpl hJ5 ho5 hb5 hc
      gi_wp2
      refine hR.mono ?_
      rintro e W3 (⟨rfl, hJ3, hk3⟩ | ⟨rfl, hJx3⟩)
      · obtain ⟨hpre, hT, hc, hC⟩ := HX5.out
        obtain ⟨⟨b1, b2, b3, b4, b5⟩, _⟩ := HBS.out
        have HI2 : Hid (x + 1 ≤ 25 ∧ (∃ pre : List (Nat × Value), pre.map Prod.fst = List.range (x + 1) ∧ Jv pre W3) ∧ TmK W3 T n n us ts ∧ W3.cell? ⟨Bb, 0, none⟩ = some (.slice (some ⟨T, 0, none⟩) n n) ∧ C ≤ W3.heap.size) := by
          refine ⟨by omega, ⟨pre ++ [(x, v5)], by rw [List.map_append, hpre, List.range_succ]; rfl, hJ3⟩, hT.eq (hk3.2 T b3 b4), ?_, Nat.le_trans hC hk3.1⟩
          rw [← hc]
          unfold World.cell?
          rw [hk3.2 Bb b1 b2]
        clear hpre hT hc hC b1 b2 b3 b4 b5 hJ3 hk3 hy hR
        gi_wp2
        exact ⟨⟨x + 1, by go_num, HI2⟩, by simp [intOf]; omega⟩
      · obtain ⟨hpre, _, _, _⟩ := HX5.out
        have hpl : pre.length = x := by have := congrArg List.length hpre; simpa using this
        have HJ := Lib.hid (And.intro hJx3 (show TmSp 25 (pre ++ [(x, v5)]) from ⟨by rw [List.map_append, hpre, List.length_append, hpl]; simp [List.range_succ], by rw [List.length_append, hpl]; simp; omega⟩))
        clear hJx3 hpre hpl hy hR
        gi_wp2
        refine bodyPost_ret (results_none rfl _ _ _) rfl ?_
        exact ⟨⟨_, rfl⟩, .inr ⟨_, HJ.out.2, HJ.out.1⟩⟩
    · obtain rfl : x = 25 := by omega
      have HJ : Hid (∃ xs : List (Nat × Value), xs.map Prod.fst = List.range 25 ∧ Jv xs wr) := ⟨pre, hpre, hJ⟩
      clear hx hxm hpre hJ hT hc hC
      gi_wp2
      go_end0
      exact ⟨⟨_, rfl⟩, .inl HJ.out⟩
/-- What forests hands back has its contract. -/
theorem forests_seq (q Bb B8 T n : Nat) (us ts : List Int) (w : World) (hro : Fence.wide.round = none) (hBb : w.cell? ⟨Bb, 0, none⟩ = some (.slice (some ⟨T, 0, none⟩) n n)) (hb : Bb ≠ B8 ∧ T ≠ B8 ∧ Bb < w.heap.size) (hT : TmK w T n n us ts) (hn : us.length = n ∧ n ≤ 16) (hq : 1 ≤ q) :
    SeqMut Fence.wide q Try.prog 187 #[.pointer (some ⟨Bb, 0, none⟩)] (fun x : Nat × Value => #[Value.int .i64 (x.1 : Int), x.2]) (Kept B8 w.heap.size) (fun A B => Below A.heap.size A B) (fun xs => xs.map Prod.fst = List.range 25) (TmSp 25) (TmRdy w.heap.size us ts) w := by
  intro l Jv Jx W hW _ _ hMv hY h0
  have hTl := hT.lt
  exact forests_in q l Bb B8 w.heap.size T n us ts Jv Jx hro hMv hY W ((hW.cell (p := ⟨Bb, 0, none⟩) hb.2.2).trans hBb) ⟨hb.2.2, hb.1, hTl, hb.2.1, hW.size⟩ (hT.below hW hTl) hn h0 hq
set_option maxHeartbeats 2000000 in
/-- No forests where there are no items. -/
theorem forests_seq0 (q Bb : Nat) (Kp : World → World → Prop) (Sp : List (Nat × Value) → Prop) (Rdy : List (Nat × Value) → World → Prop) (w : World) (hro : Fence.wide.round = none) (hBb : w.cell? ⟨Bb, 0, none⟩ = some (.slice none 0 0)) (hBl : Bb < w.heap.size) (_ : 1 ≤ q) :
    SeqMut Fence.wide q Try.prog 187 #[.pointer (some ⟨Bb, 0, none⟩)] (fun x : Nat × Value => #[Value.int .i64 (x.1 : Int), x.2]) Kp (fun A B => Below A.heap.size A B) (fun xs => xs = []) Sp Rdy w := by
  intro l Jv Jx W hW _ _ hMv hY h0
  have hc := (hW.cell (p := ⟨Bb, 0, none⟩) hBl).trans hBb
  have HJ := Lib.hid h0
  have hq2 := fun (w : World) (a : Option Addr) (n c : Nat) => Lib.run_eql_slice_nil (P := Try.prog) w 168 224 a n c 0 0 Try.underlying168
  clear h0 hMv hY hBb hW
  refine callsIn_of_wp Try.func187 rfl trivial ?_ hro
  simp only [Try.ntmps187, List.size_toArray, List.length_cons, List.length_nil, Nat.reduceAdd, Nat.reduceSub, Array.replicate_succ, Array.replicate_zero, List.push_toArray, List.append_toArray, List.nil_append, List.cons_append]
  gi_wp2
  refine bodyPost_ret (results_none rfl _ _ _) rfl ?_
  exact ⟨⟨_, rfl⟩, .inl ⟨[], rfl, HJ.out⟩⟩
theorem forests_any (A : Option Addr) (n c : Nat) (w : World) :
    Calls Try.prog 138 #[.slice A n c] w fun e w' => e = .returned (.func (.func 187) #[] #[.pointer (some ⟨w.heap.size, 0, none⟩)]) ∧ w' = w.alloc (.cells #[.slice A n c] 168) := by
  go_enter Try.func138, Try.ntmps138
  go_wp2
  go_ret
  exact ⟨rfl, rfl⟩
end Go.Proofs.Ytfafgihfgdpclaa
