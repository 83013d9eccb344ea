/- The items of timed forests: whether one fits under another, its link at a time; the items of a valid timed forest (timedForestOf) and the forest of a time (at). Condition: lengths up to 1048576. -/
import Derived.Test.YtfmhdngblpmcfaaDoorTimed
import Derived.Test.YtfmhdngblpmcfaaDoorImpl
import Derived.StillTailTactics
import Derived.BigRegion
import Derived.Deep.AppendLies
namespace Go.Proofs.YtfmhdngblpmcfaaDoor
open Go.RowKit

/-- Block T holds the items of a timed forest, those below k with their links and times. -/
def TmK (W : World) (T n k : Nat) (us ts : List Int) : Prop :=
  ∃ cur : Array Value, W.heap[T]? = some (.cells cur 116 (0, 0)) ∧ ∀ x, x < n →
    cur[x * 3]? = some (.int .i64 (if x < k then us[x]?.getD 0 else 0)) ∧ cur[x * 3 + 1]? = some (.int .i64 (if x < k then ts[x]?.getD 0 else 0)) ∧ cur[x * 3 + 2]? = some (.int .i64 (if x < k then (x : Int) else 0))
theorem TmK.lt {W : World} {T n k : Nat} {us ts : List Int} (h : TmK W T n k us ts) : T < W.heap.size := by
  obtain ⟨cur, hb, _⟩ := h
  exact (Array.getElem?_eq_some_iff.1 hb).1
theorem TmK.cells {W : World} {T n k : Nat} {us ts : List Int} (h : TmK W T n k us ts) {x : Nat} (hx : x < n) :
    (W.cell? ⟨T, x * 3, none⟩ = some (.int .i64 (if x < k then us[x]?.getD 0 else 0)) ∧ W.cell? ⟨T, x * 3 + 1, none⟩ = some (.int .i64 (if x < k then ts[x]?.getD 0 else 0)) ∧ W.cell? ⟨T, x * 3 + 2, none⟩ = some (.int .i64 (if x < k then (x : Int) else 0))) ∧
      W.frozen? ⟨T, x * 3, none⟩ = false ∧ W.frozen? ⟨T, x * 3 + 1, none⟩ = false ∧ W.frozen? ⟨T, x * 3 + 2, none⟩ = false := by
  obtain ⟨cur, hb, hc⟩ := h
  refine ⟨⟨?_, ?_, ?_⟩, ?_, ?_, ?_⟩
  · simp [World.cell?, hb, (hc x hx).1]
  · simp [World.cell?, hb, (hc x hx).2.1]
  · simp [World.cell?, hb, (hc x hx).2.2]
  all_goals simp [World.frozen?, hb]
theorem TmK.all {W : World} {T n : Nat} {us ts : List Int} (h : TmK W T n n us ts) {x : Nat} (hx : x < n) :
    W.cell? ⟨T, x * 3, none⟩ = some (.int .i64 (us[x]?.getD 0)) ∧ W.cell? ⟨T, x * 3 + 1, none⟩ = some (.int .i64 (ts[x]?.getD 0)) ∧ W.cell? ⟨T, x * 3 + 2, none⟩ = some (.int .i64 (x : Int)) := by
  have := (h.cells hx).1
  rw [if_pos hx, if_pos hx, if_pos hx] at this
  exact this
theorem TmK.eq {W W' : World} {T n k : Nat} {us ts : List Int} (h : TmK W T n k us ts) (e : W'.heap[T]? = W.heap[T]?) : TmK W' T n k us ts := by
  obtain ⟨cur, hb, hc⟩ := h
  exact ⟨cur, e.trans hb, hc⟩
theorem TmK.below {W W' : World} {C T n k : Nat} {us ts : List Int} (h : TmK W T n k us ts) (hb : Below C W W') (hT : T < C) : TmK W' T n k us ts := h.eq (hb.block T hT)
theorem set3_at {cur : Array Value} {a b c j : Nat} {u v x : Value} (ha : a < cur.size) (hb : b < cur.size) (hc : c < cur.size) : (((cur.setIfInBounds a u).setIfInBounds b v).setIfInBounds c x)[j]? = if c = j then some x else if b = j then some v else if a = j then some u else cur[j]? := by
  rw [Array.getElem?_setIfInBounds, Array.getElem?_setIfInBounds, Array.getElem?_setIfInBounds]
  simp only [Array.size_setIfInBounds]
  by_cases h1 : c = j
  · rw [if_pos h1, if_pos h1, if_pos hc]
  · rw [if_neg h1, if_neg h1]
    by_cases h2 : b = j
    · rw [if_pos h2, if_pos h2, if_pos hb]
    · rw [if_neg h2, if_neg h2]
      by_cases h3 : a = j
      · rw [if_pos h3, if_pos h3, if_pos ha]
      · rw [if_neg h3, if_neg h3]
theorem TmK.next {W : World} {T n k : Nat} {us ts : List Int} (h : TmK W T n k us ts) (hk : k < n) {u t : Int} (hu : u = us[k]?.getD 0) (ht : t = ts[k]?.getD 0) :
    TmK (((W.setCell ⟨T, k * 3, none⟩ (.int .i64 u)).setCell ⟨T, k * 3 + 1, none⟩ (.int .i64 t)).setCell ⟨T, k * 3 + 2, none⟩ (.int .i64 (k : Int))) T n (k + 1) us ts := by
  obtain ⟨cur, hh, hc⟩ := h
  refine ⟨_, heap_set _ T _ _ (heap_set _ T _ _ (heap_set W T _ _ hh)), fun x hx => ?_⟩
  obtain ⟨h1, h2, h3⟩ := hc x hx
  have l1 : k * 3 < cur.size := (Array.getElem?_eq_some_iff.1 (hc k hk).1).1
  have l2 : k * 3 + 1 < cur.size := (Array.getElem?_eq_some_iff.1 (hc k hk).2.1).1
  have l3 : k * 3 + 2 < cur.size := (Array.getElem?_eq_some_iff.1 (hc k hk).2.2).1
  rw [set3_at l1 l2 l3, set3_at l1 l2 l3, set3_at l1 l2 l3]
  by_cases e : x = k
  · subst e
    refine ⟨?_, ?_, ?_⟩
    · rw [if_neg (by omega), if_neg (by omega), if_pos rfl, if_pos (Nat.lt_succ_self x), hu]
    · rw [if_neg (by omega), if_pos rfl, if_pos (Nat.lt_succ_self x), ht]
    · rw [if_pos rfl, if_pos (Nat.lt_succ_self x)]
  · have hif : ∀ (p q : Int), (if x < k + 1 then p else q) = if x < k then p else q := fun p q => by
      by_cases hx2 : x < k
      · rw [if_pos hx2, if_pos (by omega)]
      · rw [if_neg hx2, if_neg (by omega)]
    rw [hif, hif, hif]
    refine ⟨?_, ?_, ?_⟩
    · rw [if_neg (by omega), if_neg (by omega), if_neg (by omega), h1]
    · rw [if_neg (by omega), if_neg (by omega), if_neg (by omega), h2]
    · rw [if_neg (by omega), if_neg (by omega), if_neg (by omega), h3]
theorem TmK.new {W : World} {base g n c : Nat} {us ts : List Int} (h : W.ownsRow base 116 3 (.slice (some ⟨g, 0, none⟩) n c) n (madeCells #[.int .i64 0, .int .i64 0, .int .i64 0] (n * 3)).toList) : TmK W g n 0 us ts := by
  rcases h.2 with ⟨hv, _⟩ | ⟨g', cap, cur, hv, hbase, hh, hnc, hm, hsz, hcells⟩
  · simp at hv
  · simp only [Value.slice.injEq, Option.some.injEq, Addr.mk.injEq, and_true, true_and] at hv
    obtain ⟨rfl, rfl⟩ := hv
    refine ⟨cur, hh, fun x hx => ?_⟩
    have hget : ∀ j, j < n * 3 → cur[j]? = (madeCells #[.int .i64 0, .int .i64 0, .int .i64 0] (n * 3))[j]? := fun j hj => by
      rw [← Array.getElem?_toList, ← Array.getElem?_toList, ← hcells, List.getElem?_take_of_lt hj]
    rw [hget _ (by omega), hget _ (by omega), hget _ (by omega), if_neg (by omega), if_neg (by omega), if_neg (by omega)]
    refine ⟨?_, ?_, ?_⟩
    · simp [madeCells, show x * 3 < n * 3 by omega]
    · simp [madeCells, show x * 3 + 1 < n * 3 by omega, show (x * 3 + 1) % 3 = 1 by omega]
    · simp [madeCells, show x * 3 + 2 < n * 3 by omega, show (x * 3 + 2) % 3 = 2 by omega]
theorem Tryd.info_titem : (Tryd.prog.info? 116).map (fun i => (i.zero, i.size, i.bytes)) = some (some (.agg #[.int .i64 0, .int .i64 0, .int .i64 0]), 3, 24) := by kernel_rfl
theorem boxThree_cells {W : World} {b : Nat} {x y z : Value} {t : TypeId} (h : W.heap[b]? = some (.cells #[x, y, z] t (0, 0))) : W.cell? ⟨b, 0, none⟩ = some x ∧ W.cell? ⟨b, 1, none⟩ = some y ∧ W.cell? ⟨b, 2, none⟩ = some z := by
  refine ⟨?_, ?_, ?_⟩ <;> simp [World.cell?, h]

/-- An item with its link, as a value. -/
abbrev tmV (a b c : Int) : Value := .agg #[.int .i64 a, .int .i64 b, .int .i64 c]
theorem tmRoot_any (a b c : Int) (w : World) :
    Calls Tryd.prog 86 #[.agg #[.int .i64 a, .int .i64 b, .int .i64 c]] w fun e w' => e = .returned (.bool (decide (a = c))) ∧ Below w.heap.size w w' := by
  have HB := Lib.hid ((Below.refl w.heap.size w).alloc (Nat.le_refl _) (.cells #[.int .i64 a, .int .i64 b, .int .i64 c] 116))
  by_cases h : a = c
  · have t : (a == c) = true := by simp [h]
    have H := Lib.hid h
    clear h
    go_enter Tryd.func86, Tryd.ntmps86
    go_wp2
    go_ret
    exact ⟨ret_bool (a := true) (decide_eq_true H.out).symm, HB.out⟩
  · have t : (a == c) = false := by simp [h]
    have H := Lib.hid h
    clear h
    go_enter Tryd.func86, Tryd.ntmps86
    go_wp2
    go_ret
    exact ⟨ret_bool (a := false) (decide_eq_false H.out).symm, HB.out⟩
theorem ofPair_any (m : Int) (w : World) :
    Calls Tryd.prog 99 #[.int .i64 m] w fun e w' => e = .returned (.bool (decide (1 ≤ m ∧ m ≤ 24))) ∧ w = w' := by
  by_cases h1 : 1 ≤ m <;> by_cases h2 : m ≤ 24
  all_goals
    have H := Lib.hid (show decide (1 ≤ m ∧ m ≤ 24) = decide (1 ≤ m ∧ m ≤ 24) from rfl)
    go_enter Tryd.func99, Tryd.ntmps99
    go_wp2
    go_ret
    exact ⟨by simp [h1, h2], rfl⟩
/-- Whether an item can have got its link at its time. -/
def fitB (a1 a2 a3 b1 b2 b3 : Int) : Bool := if a1 = a3 then decide (a2 = 0) else decide (1 ≤ a2 ∧ a2 ≤ 24) && (decide (b1 = b3) || decide (a2 < b2))
theorem okTm_fit {us ts : List Int} {k y : Nat} (h : us[k]?.getD 0 = (y : Int)) : okTm us ts k = fitB (y : Int) (ts[k]?.getD 0) (k : Int) (us[y]?.getD 0) (ts[y]?.getD 0) (y : Int) := by
  unfold fitB
  by_cases e : y = k
  · rw [if_pos (by omega), okTm_root (h.trans (by rw [e]))]
  · rw [if_neg (by omega), okTm_link h e]
set_option maxRecDepth 100000 in
set_option maxHeartbeats 4000000 in
theorem fits_any (a1 a2 a3 b1 b2 b3 : Int) (w : World) :
    Calls Tryd.prog 85 #[.agg #[.int .i64 a1, .int .i64 a2, .int .i64 a3], .agg #[.int .i64 b1, .int .i64 b2, .int .i64 b3]] w fun e w' => e = .returned (.bool (fitB a1 a2 a3 b1 b2 b3)) ∧ Below w.heap.size w w' := by
  obtain ⟨W1, hW1⟩ : ∃ W1, W1 = w.alloc (.cells #[.int .i64 a1, .int .i64 a2, .int .i64 a3] 116) := ⟨_, rfl⟩
  obtain ⟨W, hW⟩ : ∃ W, W = W1.alloc (.cells #[.int .i64 b1, .int .i64 b2, .int .i64 b3] 116) := ⟨_, rfl⟩
  have e1 : W1.heap.size = w.heap.size + 1 := by rw [hW1]; simp
  have e2 : W.heap.size = w.heap.size + 2 := by rw [hW]; simp [e1]
  have hA1 : W1.heap[w.heap.size]? = some (.cells #[.int .i64 a1, .int .i64 a2, .int .i64 a3] 116 (0, 0)) := by rw [hW1]; exact World.alloc_heap_new w _
  have hA : W.heap[w.heap.size]? = some (.cells #[.int .i64 a1, .int .i64 a2, .int .i64 a3] 116 (0, 0)) := by rw [hW]; exact (Below.heap_alloc _ _ _ (by omega)).trans hA1
  have hB : W.heap[w.heap.size + 1]? = some (.cells #[.int .i64 b1, .int .i64 b2, .int .i64 b3] 116 (0, 0)) := by rw [hW, ← e1]; exact World.alloc_heap_new W1 _
  have hbW : Below w.heap.size w W := by rw [hW, hW1]; exact ((Below.refl _ _).alloc (Nat.le_refl _) _).alloc (by simp) _
  obtain ⟨P, hP⟩ : ∃ P, P = w.heap.size := ⟨_, rfl⟩
  rw [← hP] at hA hB e2
  have HW := Lib.hid (And.intro hbW (And.intro hA (And.intro hB (And.intro (show P < W.heap.size by omega) (show P + 1 < W.heap.size by omega)))))
  have HE := Lib.hid (hW.trans (by rw [hW1]))
  have HP := Lib.hid hP
  have IR := Lib.hid (fun (x y z : Int) (w2 : World) => tmRoot_any x y z w2)
  have IP := Lib.hid (fun (w2 : World) => ofPair_any a2 w2)
  by_cases h1 : a1 = a3
  · have IR1 : Hid (∀ w2, Calls Tryd.prog 86 #[.agg #[.int .i64 a1, .int .i64 a2, .int .i64 a3]] w2 fun e w' => e = .returned (.bool true) ∧ Below w2.heap.size w2 w') := fun w2 => by have := IR.out a1 a2 a3 w2; rw [decide_eq_true h1] at this; exact this
    have HF : Hid (fitB a1 a2 a3 b1 b2 b3 = decide (a2 = 0)) := by show _ = _; unfold fitB; rw [if_pos h1]
    clear hW1 hW e1 e2 hA1 hA hB hbW hP h1 IR IP
    by_cases h2 : a2 = 0
    · have t : (a2 == 0) = true := by simp [h2]
      have HF := Lib.hid (HF.out.trans (decide_eq_true h2))
      clear h2
      go_enter Tryd.func85, Tryd.ntmps85
      go_wp2_with fail
      rw [← HE.out, ← HP.out]
      refine (IR1.out _).mono ?_
      rintro e w1 ⟨rfl, hb⟩
      obtain ⟨c1, c2, c3⟩ := boxThree_cells ((hb.block P HW.out.2.2.2.1).trans HW.out.2.1)
      have HB := Lib.hid (Below.on HW.out.1 hb)
      clear hb
      go_wp2_with fail
      go_ret
      exact ⟨ret_bool HF.out.symm, HB.out⟩
    · have t : (a2 == 0) = false := by simp [h2]
      have HF := Lib.hid (HF.out.trans (decide_eq_false h2))
      clear h2
      go_enter Tryd.func85, Tryd.ntmps85
      go_wp2_with fail
      rw [← HE.out, ← HP.out]
      refine (IR1.out _).mono ?_
      rintro e w1 ⟨rfl, hb⟩
      obtain ⟨c1, c2, c3⟩ := boxThree_cells ((hb.block P HW.out.2.2.2.1).trans HW.out.2.1)
      have HB := Lib.hid (Below.on HW.out.1 hb)
      clear hb
      go_wp2_with fail
      go_ret
      exact ⟨ret_bool HF.out.symm, HB.out⟩
  · have IR1 : Hid (∀ w2, Calls Tryd.prog 86 #[.agg #[.int .i64 a1, .int .i64 a2, .int .i64 a3]] w2 fun e w' => e = .returned (.bool false) ∧ Below w2.heap.size w2 w') := fun w2 => by have := IR.out a1 a2 a3 w2; rw [decide_eq_false h1] at this; exact this
    have HF : Hid (fitB a1 a2 a3 b1 b2 b3 = (decide (1 ≤ a2 ∧ a2 ≤ 24) && (decide (b1 = b3) || decide (a2 < b2)))) := by show _ = _; unfold fitB; rw [if_neg h1]
    clear hW1 hW e1 e2 hA1 hA hB hbW hP h1
    by_cases h2 : 1 ≤ a2 ∧ a2 ≤ 24
    · have IP1 : Hid (∀ w2, Calls Tryd.prog 99 #[.int .i64 a2] w2 fun e w' => e = .returned (.bool true) ∧ w2 = w') := fun w2 => by have := IP.out w2; rw [decide_eq_true h2] at this; exact this
      by_cases h3 : b1 = b3
      · have IR2 : Hid (∀ w2, Calls Tryd.prog 86 #[.agg #[.int .i64 b1, .int .i64 b2, .int .i64 b3]] w2 fun e w' => e = .returned (.bool true) ∧ Below w2.heap.size w2 w') := fun w2 => by have := IR.out b1 b2 b3 w2; rw [decide_eq_true h3] at this; exact this
        have HF : Hid (fitB a1 a2 a3 b1 b2 b3 = true) := HF.out.trans (by rw [decide_eq_true h2, decide_eq_true h3]; rfl)
        clear h2 h3 IR IP
        go_enter Tryd.func85, Tryd.ntmps85
        go_wp2_with fail
        rw [← HE.out, ← HP.out]
        refine (IR1.out _).mono ?_
        rintro e w1 ⟨rfl, hb⟩
        obtain ⟨c1, c2, c3⟩ := boxThree_cells ((hb.block P HW.out.2.2.2.1).trans HW.out.2.1)
        obtain ⟨d1, d2, d3⟩ := boxThree_cells ((hb.block (P + 1) HW.out.2.2.2.2).trans HW.out.2.2.1)
        have HB := Lib.hid (Below.on HW.out.1 hb)
        clear hb
        go_wp2_with fail
        refine (IP1.out _).mono ?_
        rintro e w2 ⟨rfl, rfl⟩
        go_wp2_with fail
        refine (IR2.out _).mono ?_
        rintro e w2 ⟨rfl, hb⟩
        have HB2 := Lib.hid (Below.on HB.out hb)
        clear hb
        go_wp2_with fail
        go_ret
        exact ⟨ret_bool HF.out.symm, HB2.out⟩
      · have IR2 : Hid (∀ w2, Calls Tryd.prog 86 #[.agg #[.int .i64 b1, .int .i64 b2, .int .i64 b3]] w2 fun e w' => e = .returned (.bool false) ∧ Below w2.heap.size w2 w') := fun w2 => by have := IR.out b1 b2 b3 w2; rw [decide_eq_false h3] at this; exact this
        by_cases h4 : a2 < b2
        · have HF : Hid (fitB a1 a2 a3 b1 b2 b3 = true) := HF.out.trans (by rw [decide_eq_true h2, decide_eq_true h4]; simp)
          clear h2 h3 IR IP
          go_enter Tryd.func85, Tryd.ntmps85
          go_wp2_with fail
          rw [← HE.out, ← HP.out]
          refine (IR1.out _).mono ?_
          rintro e w1 ⟨rfl, hb⟩
          obtain ⟨c1, c2, c3⟩ := boxThree_cells ((hb.block P HW.out.2.2.2.1).trans HW.out.2.1)
          have hBB := (hb.block (P + 1) HW.out.2.2.2.2).trans HW.out.2.2.1
          have hAA := (hb.block P HW.out.2.2.2.1).trans HW.out.2.1
          obtain ⟨d1, d2, d3⟩ := boxThree_cells hBB
          have HB := Lib.hid (And.intro (Below.on HW.out.1 hb) (And.intro hAA hBB))
          clear hb hAA hBB
          go_wp2_with fail
          refine (IP1.out _).mono ?_
          rintro e w2 ⟨rfl, rfl⟩
          go_wp2_with fail
          refine (IR2.out _).mono ?_
          rintro e w2 ⟨rfl, hb⟩
          have c2' := (boxThree_cells ((hb.block P (Array.getElem?_eq_some_iff.1 HB.out.2.1).1).trans HB.out.2.1)).2.1
          have d2' := (boxThree_cells ((hb.block (P + 1) (Array.getElem?_eq_some_iff.1 HB.out.2.2).1).trans HB.out.2.2)).2.1
          have HB2 := Lib.hid (Below.on HB.out.1 hb)
          clear hb
          go_wp2_with fail
          go_ret
          exact ⟨ret_bool HF.out.symm, HB2.out⟩
        · have HF : Hid (fitB a1 a2 a3 b1 b2 b3 = decide (a2 < b2)) := HF.out.trans (by rw [decide_eq_true h2, decide_eq_false h3]; simp)
          clear h2 h3 IR IP
          go_enter Tryd.func85, Tryd.ntmps85
          go_wp2_with fail
          rw [← HE.out, ← HP.out]
          refine (IR1.out _).mono ?_
          rintro e w1 ⟨rfl, hb⟩
          obtain ⟨c1, c2, c3⟩ := boxThree_cells ((hb.block P HW.out.2.2.2.1).trans HW.out.2.1)
          have hBB := (hb.block (P + 1) HW.out.2.2.2.2).trans HW.out.2.2.1
          have hAA := (hb.block P HW.out.2.2.2.1).trans HW.out.2.1
          obtain ⟨d1, d2, d3⟩ := boxThree_cells hBB
          have HB := Lib.hid (And.intro (Below.on HW.out.1 hb) (And.intro hAA hBB))
          clear hb hAA hBB
          go_wp2_with fail
          refine (IP1.out _).mono ?_
          rintro e w2 ⟨rfl, rfl⟩
          go_wp2_with fail
          refine (IR2.out _).mono ?_
          rintro e w2 ⟨rfl, hb⟩
          have c2' := (boxThree_cells ((hb.block P (Array.getElem?_eq_some_iff.1 HB.out.2.1).1).trans HB.out.2.1)).2.1
          have d2' := (boxThree_cells ((hb.block (P + 1) (Array.getElem?_eq_some_iff.1 HB.out.2.2).1).trans HB.out.2.2)).2.1
          have HB2 := Lib.hid (Below.on HB.out.1 hb)
          clear hb
          go_wp2_with fail
          go_ret
          exact ⟨ret_bool HF.out.symm, HB2.out⟩
    · have IP1 : Hid (∀ w2, Calls Tryd.prog 99 #[.int .i64 a2] w2 fun e w' => e = .returned (.bool false) ∧ w2 = w') := fun w2 => by have := IP.out w2; rw [decide_eq_false h2] at this; exact this
      have HF : Hid (fitB a1 a2 a3 b1 b2 b3 = false) := HF.out.trans (by rw [decide_eq_false h2]; rfl)
      clear h2 IR IP
      go_enter Tryd.func85, Tryd.ntmps85
      go_wp2_with fail
      rw [← HE.out, ← HP.out]
      refine (IR1.out _).mono ?_
      rintro e w1 ⟨rfl, hb⟩
      obtain ⟨c1, c2, c3⟩ := boxThree_cells ((hb.block P HW.out.2.2.2.1).trans HW.out.2.1)
      obtain ⟨d1, d2, d3⟩ := boxThree_cells ((hb.block (P + 1) HW.out.2.2.2.2).trans HW.out.2.2.1)
      have HB := Lib.hid (Below.on HW.out.1 hb)
      clear hb
      go_wp2_with fail
      refine (IP1.out _).mono ?_
      rintro e w2 ⟨rfl, rfl⟩
      go_wp2_with fail
      go_ret
      exact ⟨ret_bool HF.out.symm, HB.out⟩
set_option maxRecDepth 100000 in
set_option maxHeartbeats 8000000 in
theorem timedForestOf_any (A1 A2 : Option Addr) (n1 c1 n2 c2 B0 : Nat) (us ts : List Int) (w : World) (h1 : Rd w B0 A1 n1 us) (h2 : Rd w B0 A2 n2 ts) (hB0 : B0 ≤ w.heap.size) (hb1 : n1 ≤ 1048576) (hb2 : n2 ≤ 1048576) :
    Calls Tryd.prog 67 #[.agg #[.slice A1 n1 c1, .slice A2 n2 c2]] w fun e w' => Below w.heap.size w w' ∧ ((tmB us ts = false ∧ e = .returned (.slice none 0 0)) ∨
      (tmB us ts = true ∧ ∃ T, e = .returned (.slice (some ⟨T, 0, none⟩) n1 n1) ∧ TmK w' T n1 n1 us ts ∧ w.heap.size ≤ T)) := by
  obtain ⟨W, hW⟩ : ∃ W, W = w.alloc (.cells #[.slice A1 n1 c1, .slice A2 n2 c2] 64) := ⟨_, rfl⟩
  have hbW : Below w.heap.size w W := by rw [hW]; exact (Below.refl _ _).alloc (Nat.le_refl _) _
  have hsW : w.heap.size < W.heap.size := by rw [hW]; simp
  have hA : W.heap[w.heap.size]? = some (.cells #[.slice A1 n1 c1, .slice A2 n2 c2] 64 (0, 0)) := by rw [hW]; exact World.alloc_heap_new w _
  have SV := implValid_any A1 n1 c1 B0 us W (h1.below hbW hB0) (Nat.le_trans hB0 hbW.size) hb1
  have hl1 := h1.1
  have hl2 := h2.1
  obtain ⟨P, hP⟩ : ∃ P, P = w.heap.size := ⟨_, rfl⟩
  rw [← hP] at hA hsW
  have HW := Lib.hid (And.intro hbW (And.intro hsW (And.intro hA (And.intro (h1.below hbW hB0) (And.intro (h2.below hbW hB0) (Nat.le_trans hB0 hbW.size))))))
  have HE := Lib.hid hW
  have HP := Lib.hid hP
  obtain ⟨i0, hi0, hz0, hz1, hz2⟩ := info_parts Tryd.info_titem
  cases hf : fvB us with
  | false =>
    rw [hf] at SV
    have HF := Lib.hid (tmB_v (ts := ts) hf)
    have SV := Lib.hid SV
    clear h1 h2 hl1 hl2 hW hbW hsW hA hP hf hi0 hz0 hz1 hz2
    go_enter Tryd.func67, Tryd.ntmps67
    go_wp2_with fail
    rw [← HE.out, ← HP.out]
    refine SV.out.mono ?_
    rintro e w1 ⟨rfl, hb⟩
    have HB := Lib.hid (Below.on HW.out.1 hb)
    clear hb
    go_wp2_with fail
    go_ret
    exact ⟨HB.out, .inl ⟨HF.out, rfl⟩⟩
  | true =>
    rw [hf] at SV
    have h01 := (fv_parts hf).1
    have h16 := (fv_parts hf).2.1
    have HFV := Lib.hid hf
    have HIN := Lib.hid (fv_in hf)
    have HLEN := Lib.hid (And.intro hl1 hl2)
    have SV := Lib.hid SV
    have hn16 : n1 ≤ 16 := by omega
    have hn01 : 1 ≤ n1 := by omega
    clear h1 h2 hl1 hl2 hW hbW hsW hA hP hf h01 h16
    go_enter Tryd.func67, Tryd.ntmps67
    go_wp2_with fail
    rw [← HE.out, ← HP.out]
    refine SV.out.mono ?_
    rintro e w1 ⟨rfl, hb⟩
    have hX := (hb.block P HW.out.2.1).trans HW.out.2.2.1
    obtain ⟨⟨a1, a2⟩, _⟩ := boxTwo_cells hX
    have HX := Lib.hid (And.intro hX (Array.getElem?_eq_some_iff.1 hX).1)
    have HB := Lib.hid (And.intro (Below.on HW.out.1 hb) (And.intro (HW.out.2.2.2.1.below hb HW.out.2.2.2.2.2) (And.intro (HW.out.2.2.2.2.1.below hb HW.out.2.2.2.2.2) (Nat.le_trans HW.out.2.2.2.2.2 hb.size))))
    clear hb hX
    by_cases hn : n2 = n1
    · have t1 : ((n2 : Int) != (n1 : Int)) = false := by simp [hn]
      have HN := Lib.hid hn
      clear hn
      go_wp2_with (at_make; go_must (refine wpList_make_full _ rfl _ _ 110 rfl w1.heap.size 116 i0 (.agg #[.int .i64 0, .int .i64 0, .int .i64 0]) 3 Tryd.underlying110 hi0 hz0 hz1 .i64 .i64 _ _ n1 rfl rfl rfl rfl (by rw [hz2]; omega) (by unfold maxLen; omega) (Nat.le_refl _) ?_; intro w2 hown hgrow; have a3 : w2.cell? ⟨P, 0, none⟩ = some (.slice A1 n1 c1) := (hgrow.cell_far ⟨P, 0, none⟩ (World.block_lt_of_cell? _ _ a1) (fun e => by cases e)).trans a1))
      have hb2 : Below w1.heap.size w1 w2 := (Below.refl _ w1).grown hgrow (Nat.le_refl _) (fun k e => by cases e)
      have hit : TmK w2 w1.heap.size n1 0 us ts := TmK.new hown
      obtain ⟨T, hT⟩ : ∃ T, T = w1.heap.size := ⟨_, rfl⟩
      rw [← hT] at hit hb2
      rw [← hT]
      have HT := Lib.hid hT
      have HI : Hid (TmK w2 T n1 0 us ts ∧ Below T w1 w2) := ⟨hit, hb2⟩
      clear hb2 hit hT hown hgrow a1 a2 a3 hi0 hz0 hz1 hz2
      go_wp2_with fail
      go_loopw [28] (fun i wr => ∃ k : Nat, k ≤ n1 ∧ i = .int .i64 k ∧ Hid (TmK wr T n1 k us ts ∧ Below T w1 wr)) (fun i _ => n1 - (intOf i).toNat)
      case atStart => exact ⟨0, Nat.zero_le _, rfl, HI⟩
      case round =>
        obtain ⟨k, hk, rfl, HK⟩ := hrel
        clear HI
        have hT1 := HT.out
        obtain ⟨hit, hbr⟩ := HK.out
        by_cases hlt : k < n1
        · have hkk : (k : Int) < (n1 : Int) := by omega
          have hkn : k < n2 := by have := HN.out; omega
          have hkk2 : (k : Int) < (n2 : Int) := by omega
          have hPT : P < T := by have := HX.out.2; omega
          obtain ⟨⟨a1, a2⟩, _⟩ := boxTwo_cells ((hbr.block P hPT).trans HX.out.1)
          obtain ⟨b1, o1, rfl, _, q1⟩ := (HB.out.2.1.below hbr (by have := HB.out.2.2.2; omega)).2 (by omega)
          obtain ⟨b2, o2, rfl, _, q2⟩ := (HB.out.2.2.1.below hbr (by have := HB.out.2.2.2; omega)).2 (by omega)
          have g1 := q1 k hlt
          have g2 := q2 k hkn
          obtain ⟨⟨d1, d2, d3⟩, f1, f2, f3⟩ := hit.cells hlt
          obtain ⟨u, hu⟩ : ∃ u, u = us[k]?.getD 0 := ⟨_, rfl⟩
          obtain ⟨t, ht⟩ : ∃ t, t = ts[k]?.getD 0 := ⟨_, rfl⟩
          rw [← hu] at g1
          rw [← ht] at g2
          have HI2 : Hid (TmK (((wr.setCell ⟨T, k * 3, none⟩ (.int .i64 u)).setCell ⟨T, k * 3 + 1, none⟩ (.int .i64 t)).setCell ⟨T, k * 3 + 2, none⟩ (.int .i64 (k : Int))) T n1 (k + 1) us ts ∧ Below T w1 (((wr.setCell ⟨T, k * 3, none⟩ (.int .i64 u)).setCell ⟨T, k * 3 + 1, none⟩ (.int .i64 t)).setCell ⟨T, k * 3 + 2, none⟩ (.int .i64 (k : Int)))) :=
            ⟨hit.next hlt hu ht, ((hbr.setCell (p := ⟨T, k * 3, none⟩) (Nat.le_refl _) _).setCell (p := ⟨T, k * 3 + 1, none⟩) (Nat.le_refl _) _).setCell (p := ⟨T, k * 3 + 2, none⟩) (Nat.le_refl _) _⟩
          clear hit hbr q1 q2 hu ht HK hT1 hPT
          go_wp2_with fail
          go_roundw
          case rel => exact ⟨k + 1, by omega, by go_num, HI2⟩
          case measure => simp [intOf]; omega
        · obtain rfl : k = n1 := by omega
          obtain ⟨wA, rfl⟩ : ∃ wA, wA = wr := ⟨_, rfl⟩
          have HK := Lib.hid (And.intro hit hbr)
          have HBB := Lib.hid (Below.refl wA.heap.size wA)
          clear hit hbr hT1
          go_wp2_with fail
          go_loopw [48] (fun i wr => ∃ j : Nat, j ≤ k ∧ i = .int .i64 j ∧ Hid (∀ x, x < j → okTm us ts x = true) ∧ Hid (Below wA.heap.size wA wr)) (fun i _ => k - (intOf i).toNat)
          case atStart => exact ⟨0, Nat.zero_le _, rfl, fun j hj => absurd hj (by omega), HBB⟩
          case round =>
            obtain ⟨j, hj, rfl, HJ, HR⟩ := hrel
            clear HBB
            have hTl := HK.out.1.lt
            have hit := HK.out.1.below HR.out hTl
            by_cases hlt : j < k
            · have hjj : (j : Int) < (k : Int) := by omega
              have hz := HIN.out j (by have := HLEN.out.1; omega)
              obtain ⟨y, hy⟩ : ∃ y : Nat, us[j]?.getD 0 = (y : Int) := ⟨(us[j]?.getD 0).toNat, by omega⟩
              have hyn : y < k := by have := HLEN.out.1; omega
              have hyy : (y : Int) < (k : Int) := by omega
              obtain ⟨d1, d2, d3⟩ := hit.all hlt
              rw [hy] at d1
              have hok := okTm_fit (ts := ts) hy
              obtain ⟨t, ht⟩ : ∃ t, t = ts[j]?.getD 0 := ⟨_, rfl⟩
              rw [← ht] at d2 hok
              obtain ⟨V, hV⟩ : ∃ V, V = wr.alloc (.cells #[.int .i64 (y : Int), .int .i64 t, .int .i64 (j : Int)] 116) := ⟨_, rfl⟩
              have hbV : Below wr.heap.size wr V := by rw [hV]; exact (Below.refl _ _).alloc (Nat.le_refl _) _
              have hXV : V.heap[wr.heap.size]? = some (.cells #[.int .i64 (y : Int), .int .i64 t, .int .i64 (j : Int)] 116 (0, 0)) := by rw [hV]; exact World.alloc_heap_new wr _
              obtain ⟨e1, e2, e3⟩ := (hit.below hbV (Nat.lt_of_lt_of_le hTl HR.out.size)).all hyn
              obtain ⟨z, hzz⟩ : ∃ z, z = us[y]?.getD 0 := ⟨_, rfl⟩
              obtain ⟨s, hs⟩ : ∃ s, s = ts[y]?.getD 0 := ⟨_, rfl⟩
              rw [← hzz] at e1 hok
              rw [← hs] at e2 hok
              obtain ⟨X, hX⟩ : ∃ X, X = wr.heap.size := ⟨_, rfl⟩
              rw [← hX] at hXV
              obtain ⟨x1, x2, x3⟩ := boxThree_cells hXV
              have FI := Lib.hid (fun (w8 : World) => fits_any (y : Int) t (j : Int) z s (y : Int) w8)
              have HBV := Lib.hid (Below.on HR.out hbV)
              have HVE := Lib.hid (And.intro hV hX)
              have HBAD : Hid (okTm us ts j = false → tmB us ts = false) := fun e => tmB_bad (by have := HLEN.out.1; omega) e
              cases hfb : fitB (y : Int) t (j : Int) z s (y : Int) with
              | false =>
                have FI : Hid (∀ w8, Calls Tryd.prog 85 #[.agg #[.int .i64 (y : Int), .int .i64 t, .int .i64 (j : Int)], .agg #[.int .i64 z, .int .i64 s, .int .i64 (y : Int)]] w8 fun e w' => e = .returned (.bool false) ∧ Below w8.heap.size w8 w') := fun w8 => by have := FI.out w8; rw [hfb] at this; exact this
                have HF := Lib.hid (HBAD.out (hok.trans hfb))
                have HBZ := Lib.hid (Below.on HB.out.1 (by have h := HK.out.2; rw [HT.out] at h; exact Below.on h HBV.out))
                clear hz hy hok ht hV hbV hXV hzz hs hX hfb hit HJ HR HBAD
                go_wp2_with fail
                rw [← HVE.out.1, ← HVE.out.2]
                go_still_tail 7, (by kernel_rfl)
                go_wp2_with fail
                refine (FI.out _).mono ?_
                rintro e w5 ⟨rfl, hb5⟩
                have HB5 := Lib.hid (Below.on HBZ.out (⟨hb5.os, hb5.tape, hb5.output, hb5.size, hb5.block⟩ : Below V.heap.size V w5))
                clear hb5
                go_wp2_with fail
                go_ret
                exact ⟨HB5.out, .inl ⟨HF.out, rfl⟩⟩
              | true =>
                have FI : Hid (∀ w8, Calls Tryd.prog 85 #[.agg #[.int .i64 (y : Int), .int .i64 t, .int .i64 (j : Int)], .agg #[.int .i64 z, .int .i64 s, .int .i64 (y : Int)]] w8 fun e w' => e = .returned (.bool true) ∧ Below w8.heap.size w8 w') := fun w8 => by have := FI.out w8; rw [hfb] at this; exact this
                have HN2 : Hid (∀ x, x < j + 1 → okTm us ts x = true) := fun x hx => by
                  by_cases h : x = j
                  · subst h; exact hok.trans hfb
                  · exact HJ.out x (by omega)
                clear hz hy hok ht hV hbV hXV hzz hs hX hfb hit HJ HR HBAD
                go_wp2_with fail
                rw [← HVE.out.1, ← HVE.out.2]
                go_still_tail 7, (by kernel_rfl)
                go_wp2_with fail
                refine (FI.out _).mono ?_
                rintro e w5 ⟨rfl, hb5⟩
                have HB5 : Hid (Below wA.heap.size wA w5) := Below.on HBV.out (⟨hb5.os, hb5.tape, hb5.output, hb5.size, hb5.block⟩ : Below V.heap.size V w5)
                clear hb5
                go_wp2_with fail
                go_roundw
                case rel => exact ⟨j + 1, by omega, by go_num, HN2, HB5⟩
                case measure => simp [intOf]; omega
            · obtain rfl : j = k := by omega
              have HG := Lib.hid (And.intro hit (Below.on HB.out.1 (by have h := HK.out.2; rw [HT.out] at h; exact Below.on h HR.out)))
              clear hit
              go_wp2
              go_ret
              obtain ⟨hit, hbz⟩ := HG.out
              refine ⟨hbz, .inr ⟨tmB_of HFV.out (by have := HLEN.out; have := HN.out; omega) (fun x hx => HJ.out x (by have := HLEN.out.1; omega)), T, rfl, hit, ?_⟩⟩
              have := HT.out
              have := HB.out.1.size
              omega
    · have t1 : ((n2 : Int) != (n1 : Int)) = true := by simp; omega
      have HF := Lib.hid (tmB_l (us := us) (ts := ts) (by have := HLEN.out; omega))
      clear hn hi0 hz0 hz1 hz2
      go_wp2_with fail
      go_ret
      exact ⟨HB.out.1, .inl ⟨HF.out, rfl⟩⟩
end Go.Proofs.YtfmhdngblpmcfaaDoor
namespace Go.Proofs.YtfmhdngblpmcfaaDoor
open Go.RowKit Go.Shelf
end Go.Proofs.YtfmhdngblpmcfaaDoor