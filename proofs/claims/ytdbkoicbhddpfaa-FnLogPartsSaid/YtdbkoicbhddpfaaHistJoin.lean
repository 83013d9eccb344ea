/- Joining two items of a history. -/
import Derived.Test.YtdbkoicbhddpfaaHistDo
namespace Go.Proofs.Ytdbkoicbhddpfaa
open Go.RowKit Go.Shelf

def stepsOf (ds : List (Int × Int × Value)) : List (Int × Int) := ds.map fun d => (d.1, d.2.1)
/-- The third of each is a function value. -/
def Fns (ds : List (Int × Int × Value)) : Prop := ∀ k, k < ds.length → ∃ f p q, (ds[k]?.getD (0, 0, .nilFunc)).2.2 = .func f p q
theorem Fns.snoc {ds : List (Int × Int × Value)} (h : Fns ds) {x y : Int} {F : Value} (hF : ∃ f p q, F = .func f p q) : Fns (ds ++ [(x, y, F)]) := fun k hk => by
  rw [List.length_append, List.length_singleton] at hk
  by_cases e : k < ds.length
  · rw [List.getElem?_append_left e]
    exact h k e
  · rw [List.getElem?_append_right (by omega), show k - ds.length = 0 by omega]
    exact hF
set_option maxRecDepth 100000 in
set_option maxHeartbeats 4000000 in
theorem joinItems_any (H J M N n a b : Nat) (sz ht : Nat → Nat) (u : List Int) (D : Value) (ds : List (Int × Int × Value)) (base : Nat) (w : World) (h : HistSt w H J M N n sz ht u D) (ha : a < n) (hb : b < n) (hD : OwnD w base D ds) (hB : H < base) (hBw : base ≤ w.heap.size) (hl : ds.length ≤ 1000) (hfn : Fns ds) :
    Calls Try.prog 79 #[.pointer (some ⟨H, 0, none⟩), .agg #[.int .i64 (a : Int), .int .i64 (b : Int)]] w fun e w' =>
      (∃ v, e = .returned v) ∧ ∃ sz' ht' D' ds', HistSt w' H J M N n sz' ht' (joinL u 1 a b) D' ∧ OwnD w' base D' ds' ∧ stepsOf ds' = joinSt u a b (stepsOf ds) ∧ ds'.length ≤ ds.length + 1 ∧ Fns ds' ∧ Chg (fun i => i = N ∨ i = M ∨ i = H ∨ base ≤ i) w w' := by
  obtain ⟨W, hW⟩ : ∃ W, W = w.alloc (.cells #[.int .i64 (a : Int), .int .i64 (b : Int)] 57) := ⟨_, rfl⟩
  have hbW : Below w.heap.size w W := by rw [hW]; exact (Below.refl _ _).alloc (Nat.le_refl _) _
  have hSW := h.below hbW h.lt
  have hDW : OwnD W base D ds := hD.chg (S := fun _ => False) (by rw [hW]; exact (Chg.refl _ _).alloc _) (fun i hi => hi.elim)
  have SF := Lib.hid (stepFor_any H J M N n a b sz ht u D W hSW ha hb)
  have hsW := hbW.size
  obtain ⟨x, hx⟩ : ∃ x, x = stR u a b := ⟨_, rfl⟩
  obtain ⟨y, hy⟩ : ∃ y, y = stT u a b := ⟨_, rfl⟩
  have HH := Lib.hid (And.intro hbW (And.intro hSW hDW))
  have HW := Lib.hid hW
  have HB := Lib.hid (And.intro hB (And.intro hBw hl))
  have hlen := h.len
  have hfv := h.fv
  have HFN := Lib.hid hfn
  clear hfn
  by_cases hpq : rootI u a = rootI u b
  · rw [decide_eq_true hpq, ← hx, ← hy] at SF
    have HJ : Hid (joinL u 1 a b = u ∧ joinSt u a b (stepsOf ds) = stepsOf ds) := by
      refine ⟨?_, ?_⟩
      · unfold joinL; rw [if_pos hpq]
      · unfold joinSt; rw [if_pos hpq]
    clear h ha hb hD hW hbW hSW hDW hx hy hpq hB hBw hl hlen hfv hsW
    go_enter Try.func79, Try.ntmps79
    go_wp2_with fail
    rw [← HW.out]
    refine SF.out.mono ?_
    rintro e w1 ⟨rfl, hb1⟩
    obtain ⟨V, hV⟩ : ∃ V, V = w1.alloc (.cells #[.int .i64 (x : Int), .int .i64 (y : Int)] 45) := ⟨_, rfl⟩
    have hbV : Below W.heap.size W V := Below.on hb1 (by rw [hV]; exact (Below.refl _ _).alloc (Nat.le_refl _) _)
    have HZ := Lib.hid (And.intro hbV hV)
    clear hb1 hV hbV
    go_wp2_with fail
    go_ret
    rw [HJ.out.1, HJ.out.2]
    rw [← HZ.out.2]
    have hbV := HZ.out.1
    exact ⟨⟨_, rfl⟩, sz, ht, D, ds, HH.out.2.1.below hbV HH.out.2.1.lt, HH.out.2.2.chg (S := fun _ => False) (Chg.of_below hbV) (fun i hi => hi.elim), rfl, by omega, HFN.out, Chg.of_below (Below.on HH.out.1 hbV)⟩
  · have T : Two u (rootI u a) (rootI u b) := roots_two hfv (by omega) (by omega) hpq
    have T2 := low_two T 1
    have h3 : x = lowI u 1 (rootI u a) (rootI u b) := by rw [hx]; unfold stR; rw [if_neg hpq]
    have h4 : y = uppI u 1 (rootI u a) (rootI u b) := by rw [hy]; unfold stT; rw [if_neg hpq]
    rw [← h3, ← h4] at T2
    rw [decide_eq_false hpq, ← hx, ← hy] at SF
    have HJ : Hid (joinL u 1 a b = hang u x y ∧ joinSt u a b (stepsOf ds) = stepsOf ds ++ [((x : Int), (y : Int))]) := by
      refine ⟨?_, ?_⟩
      · unfold joinL; rw [if_neg hpq, joinTo_low, ← h3, ← h4]
      · unfold joinSt; rw [if_neg hpq, ← hx, ← hy]
    have HT := Lib.hid T2
    clear h ha hb hD hW hbW hSW hDW hx hy hpq hB hBw hl hlen hfv T T2 h3 h4 hsW
    go_enter Try.func79, Try.ntmps79
    go_wp2_with fail
    rw [← HW.out]
    refine SF.out.mono ?_
    rintro e w1 ⟨rfl, hb1⟩
    obtain ⟨V, hV⟩ : ∃ V, V = w1.alloc (.cells #[.int .i64 (x : Int), .int .i64 (y : Int)] 45) := ⟨_, rfl⟩
    have hbV : Below W.heap.size W V := Below.on hb1 (by rw [hV]; exact (Below.refl _ _).alloc (Nat.le_refl _) _)
    have hsV := hbV.size
    have hsW := HH.out.1.size
    have DO := Lib.hid (do_any H J M N n x y sz ht u D ds base V (HH.out.2.1.below hbV HH.out.2.1.lt) HT.out (HH.out.2.2.chg (S := fun _ => False) (Chg.of_below hbV) (fun i hi => hi.elim)) HB.out.1 (by have := HB.out.2.1; omega) HB.out.2.2)
    have HZ := Lib.hid (And.intro hbV hV)
    clear hb1 hV hbV hsV hsW
    go_wp2_with fail
    rw [← HZ.out.2]
    refine DO.out.mono ?_
    rintro e w2 ⟨⟨v, rfl⟩, D', F, hS', hD', ⟨_, _, _, hF, _⟩, hc⟩
    have HQ := Lib.hid (And.intro hS' (And.intro hD' (And.intro hc hF)))
    clear hS' hD' hc hF
    go_wp2_with fail
    go_ret
    obtain ⟨hS', hD', hc, hF⟩ := HQ.out
    rw [HJ.out.1, HJ.out.2]
    refine ⟨⟨_, rfl⟩, _, _, D', _, hS', hD', by simp [stepsOf], by simp, HFN.out.snoc ⟨_, _, _, hF⟩, (Chg.of_below (Below.on HH.out.1 HZ.out.1)).trans (hc.weak (fun i hi => ?_))⟩
    rcases hi with h | h | h | h
    · exact .inl h
    · exact .inr (.inl h)
    · exact .inr (.inr (.inl h))
    · exact .inr (.inr (.inr (World.ownsRow.lt HH.out.2.2 i h).1))
end Go.Proofs.Ytdbkoicbhddpfaa

namespace Go.Proofs.Ytdbkoicbhddpfaa
open Go.RowKit Go.Shelf

/-- Each done step's function value undoes it: it holds the sizes and heights of before. -/
inductive Und (w : World) (base M n : Nat) : List (Int × Int × Value) → List Int → (Nat → Nat) → (Nat → Nat) → Prop
  | nil : Und w base M n [] (roots n) (szN (roots n)) (htN (roots n))
  | snoc {ds : List (Int × Int × Value)} {u : List Int} {sz ht : Nat → Nat} {x y : Nat} {F : Value} : Und w base M n ds u sz ht → Two u x y → Undoer w base M x y (sz y) (ht y) F →
      Und w base M n (ds ++ [((x : Int), (y : Int), F)]) (hang u x y) (fun z => if z = y then sz y + sz x else sz z) (fun z => if z = y then max (ht y) (ht x + 1) else ht z)
/-- Blocks of other kinds than done steps stay. -/
def Kinds (w w' : World) (base : Nat) : Prop := ∀ K, base ≤ K → K < w.heap.size → (∀ cs, w.heap[K]? ≠ some (.cells cs 177 (0, 0))) → w'.heap[K]? = w.heap[K]?
theorem Undoer.kinds {w w' : World} {base M x y s t : Nat} {F : Value} (h : Undoer w base M x y s t F) (hk : Kinds w w' base) : Undoer w' base M x y s t F := by
  obtain ⟨K4, K6, K5, hF, b4, b6, b5, l4, l6, l5⟩ := h
  have h4 : w.heap[K4]? = some (.cells #[.pointer (some ⟨M, x * 3, none⟩)] 112 (0, 0)) := b4
  have h5 : w.heap[K5]? = some (.cells #[.pointer (some ⟨M, y * 3, none⟩)] 112 (0, 0)) := b5
  refine ⟨K4, K6, K5, hF, (hk K4 l4 (Array.getElem?_eq_some_iff.1 h4).1 (fun cs e => ?_)).trans b4, (hk K6 l6 (Array.getElem?_eq_some_iff.1 b6).1 (fun cs e => ?_)).trans b6, (hk K5 l5 (Array.getElem?_eq_some_iff.1 h5).1 (fun cs e => ?_)).trans b5, l4, l6, l5⟩
  · rw [h4] at e; simp at e
  · rw [b6] at e; simp at e
  · rw [h5] at e; simp at e
theorem Und.kinds {w w' : World} {base M n : Nat} {ds : List (Int × Int × Value)} {u : List Int} {sz ht : Nat → Nat} (h : Und w base M n ds u sz ht) (hk : Kinds w w' base) : Und w' base M n ds u sz ht := by
  induction h with
  | nil => exact .nil
  | snoc _ T hU ih => exact .snoc ih T (hU.kinds hk)
theorem Und.keep {w w' : World} {base M n : Nat} {ds : List (Int × Int × Value)} {u : List Int} {sz ht : Nat → Nat} (h : Und w base M n ds u sz ht) (hb : Below w.heap.size w w') : Und w' base M n ds u sz ht :=
  h.kinds fun K _ hl _ => hb.block K hl
/-- When a step has been done. -/
theorem Und.done {w w' : World} {base H M N n : Nat} {D : Value} {ds : List (Int × Int × Value)} {u : List Int} {sz ht : Nat → Nat} (h : Und w base M n ds u sz ht) (hD : OwnD w base D ds) (hH : H < base) (hM : M < base) (hN : N < base) (hc : Chg (fun i => i = N ∨ i = M ∨ i = H ∨ D.ownBlock = some i) w w') : Und w' base M n ds u sz ht :=
  h.kinds fun K hK hl hno => hc.block K hl (fun hi => by
    rcases hi with e | e | e | e
    · omega
    · omega
    · omega
    · rcases hD.2 with ⟨hv, _⟩ | ⟨g, cap, cur, hv, _, hh, _⟩
      · rw [hv] at e; cases e
      · rw [hv] at e
        have e1 : g = K := by simpa [Value.ownBlock] using e
        subst e1
        exact hno cur hh)
end Go.Proofs.Ytdbkoicbhddpfaa
