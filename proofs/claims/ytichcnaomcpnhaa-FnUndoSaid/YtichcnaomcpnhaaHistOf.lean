/- The history of a log, LogValid of the program. Condition: lengths up to 1048576. -/
import Derived.Test.YtichcnaomcpnhaaHistDo
import Derived.Test.YtichcnaomcpnhaaPairsOk
import Derived.Deep.RegionHeld3
import Derived.Test.YtichcnaomcpnhaaEqRows
import Derived.Test.YtichcnaomcpnhaaPushS
namespace Go.Proofs.Ytichcnaomcpnhaa
open Go.RowKit Go.Shelf

def stepsOf (ds : List (Int × Int × Value)) : List (Int × Int) := ds.map fun d => (d.1, d.2.1)
/-- The third of each is a function value. -/
def Fns (ds : List (Int × Int × Value)) : Prop := ∀ k, k < ds.length → ∃ f p q, (ds[k]?.getD (0, 0, .nilFunc)).2.2 = .func f p q
theorem Fns.snoc {ds : List (Int × Int × Value)} (h : Fns ds) {x y : Int} {F : Value} (hF : ∃ f p q, F = .func f p q) : Fns (ds ++ [(x, y, F)]) := fun k hk => by
  rw [List.length_append, List.length_singleton] at hk
  by_cases e : k < ds.length
  · rw [List.getElem?_append_left e]
    exact h k e
  · rw [List.getElem?_append_right (by omega), show k - ds.length = 0 by omega]
    exact hF
set_option maxRecDepth 100000 in
set_option maxHeartbeats 4000000 in
theorem joinItems_any (H J M N n a b : Nat) (sz ht : Nat → Nat) (u : List Int) (D : Value) (ds : List (Int × Int × Value)) (base : Nat) (w : World) (h : HistSt w H J M N n sz ht u D) (ha : a < n) (hb : b < n) (hD : OwnD w base D ds) (hB : H < base) (hBw : base ≤ w.heap.size) (hl : ds.length ≤ 1000) (hfn : Fns ds) :
    Calls Try.prog 33 #[.pointer (some ⟨H, 0, none⟩), .agg #[.int .i64 (a : Int), .int .i64 (b : Int)]] w fun e w' =>
      (∃ v, e = .returned v) ∧ ∃ sz' ht' D' ds', HistSt w' H J M N n sz' ht' (joinL u 1 a b) D' ∧ OwnD w' base D' ds' ∧ stepsOf ds' = joinSt u a b (stepsOf ds) ∧ ds'.length ≤ ds.length + 1 ∧ Fns ds' ∧ Chg (fun i => i = N ∨ i = M ∨ i = H ∨ base ≤ i) w w' := by
  obtain ⟨W, hW⟩ : ∃ W, W = w.alloc (.cells #[.int .i64 (a : Int), .int .i64 (b : Int)] 59) := ⟨_, rfl⟩
  have hbW : Below w.heap.size w W := by rw [hW]; exact (Below.refl _ _).alloc (Nat.le_refl _) _
  have hSW := h.below hbW h.lt
  have hDW : OwnD W base D ds := hD.chg (S := fun _ => False) (by rw [hW]; exact (Chg.refl _ _).alloc _) (fun i hi => hi.elim)
  have SF := Lib.hid (stepFor_any H J M N n a b sz ht u D W hSW ha hb)
  have hsW := hbW.size
  obtain ⟨x, hx⟩ : ∃ x, x = stR u a b := ⟨_, rfl⟩
  obtain ⟨y, hy⟩ : ∃ y, y = stT u a b := ⟨_, rfl⟩
  have HH := Lib.hid (And.intro hbW (And.intro hSW hDW))
  have HW := Lib.hid hW
  have HB := Lib.hid (And.intro hB (And.intro hBw hl))
  have hlen := h.len
  have hfv := h.fv
  have HFN := Lib.hid hfn
  clear hfn
  by_cases hpq : rootI u a = rootI u b
  · rw [decide_eq_true hpq, ← hx, ← hy] at SF
    have HJ : Hid (joinL u 1 a b = u ∧ joinSt u a b (stepsOf ds) = stepsOf ds) := by
      refine ⟨?_, ?_⟩
      · unfold joinL; rw [if_pos hpq]
      · unfold joinSt; rw [if_pos hpq]
    clear h ha hb hD hW hbW hSW hDW hx hy hpq hB hBw hl hlen hfv hsW
    go_enter Try.func33, Try.ntmps33
    go_wp2_with fail
    rw [← HW.out]
    refine SF.out.mono ?_
    rintro e w1 ⟨rfl, hb1⟩
    obtain ⟨V, hV⟩ : ∃ V, V = w1.alloc (.cells #[.int .i64 (x : Int), .int .i64 (y : Int)] 68) := ⟨_, rfl⟩
    have hbV : Below W.heap.size W V := Below.on hb1 (by rw [hV]; exact (Below.refl _ _).alloc (Nat.le_refl _) _)
    have HZ := Lib.hid (And.intro hbV hV)
    clear hb1 hV hbV
    go_wp2_with fail
    go_ret
    rw [HJ.out.1, HJ.out.2]
    rw [← HZ.out.2]
    have hbV := HZ.out.1
    exact ⟨⟨_, rfl⟩, sz, ht, D, ds, HH.out.2.1.below hbV HH.out.2.1.lt, HH.out.2.2.chg (S := fun _ => False) (Chg.of_below hbV) (fun i hi => hi.elim), rfl, by omega, HFN.out, Chg.of_below (Below.on HH.out.1 hbV)⟩
  · have T : Two u (rootI u a) (rootI u b) := roots_two hfv (by omega) (by omega) hpq
    have T2 := low_two T 1
    have h3 : x = lowI u 1 (rootI u a) (rootI u b) := by rw [hx]; unfold stR; rw [if_neg hpq]
    have h4 : y = uppI u 1 (rootI u a) (rootI u b) := by rw [hy]; unfold stT; rw [if_neg hpq]
    rw [← h3, ← h4] at T2
    rw [decide_eq_false hpq, ← hx, ← hy] at SF
    have HJ : Hid (joinL u 1 a b = hang u x y ∧ joinSt u a b (stepsOf ds) = stepsOf ds ++ [((x : Int), (y : Int))]) := by
      refine ⟨?_, ?_⟩
      · unfold joinL; rw [if_neg hpq, joinTo_low, ← h3, ← h4]
      · unfold joinSt; rw [if_neg hpq, ← hx, ← hy]
    have HT := Lib.hid T2
    clear h ha hb hD hW hbW hSW hDW hx hy hpq hB hBw hl hlen hfv T T2 h3 h4 hsW
    go_enter Try.func33, Try.ntmps33
    go_wp2_with fail
    rw [← HW.out]
    refine SF.out.mono ?_
    rintro e w1 ⟨rfl, hb1⟩
    obtain ⟨V, hV⟩ : ∃ V, V = w1.alloc (.cells #[.int .i64 (x : Int), .int .i64 (y : Int)] 68) := ⟨_, rfl⟩
    have hbV : Below W.heap.size W V := Below.on hb1 (by rw [hV]; exact (Below.refl _ _).alloc (Nat.le_refl _) _)
    have hsV := hbV.size
    have hsW := HH.out.1.size
    have DO := Lib.hid (do_any H J M N n x y sz ht u D ds base V (HH.out.2.1.below hbV HH.out.2.1.lt) HT.out (HH.out.2.2.chg (S := fun _ => False) (Chg.of_below hbV) (fun i hi => hi.elim)) HB.out.1 (by have := HB.out.2.1; omega) HB.out.2.2)
    have HZ := Lib.hid (And.intro hbV hV)
    clear hb1 hV hbV hsV hsW
    go_wp2_with fail
    rw [← HZ.out.2]
    refine DO.out.mono ?_
    rintro e w2 ⟨⟨v, rfl⟩, D', F, hS', hD', ⟨_, _, _, hF, _⟩, hc⟩
    have HQ := Lib.hid (And.intro hS' (And.intro hD' (And.intro hc hF)))
    clear hS' hD' hc hF
    go_wp2_with fail
    go_ret
    obtain ⟨hS', hD', hc, hF⟩ := HQ.out
    rw [HJ.out.1, HJ.out.2]
    refine ⟨⟨_, rfl⟩, _, _, D', _, hS', hD', by simp [stepsOf], by simp, HFN.out.snoc ⟨_, _, _, hF⟩, (Chg.of_below (Below.on HH.out.1 HZ.out.1)).trans (hc.weak (fun i hi => ?_))⟩
    rcases hi with h | h | h | h
    · exact .inl h
    · exact .inr (.inl h)
    · exact .inr (.inr (.inl h))
    · exact .inr (.inr (.inr (World.ownsRow.lt HH.out.2.2 i h).1))
end Go.Proofs.Ytichcnaomcpnhaa

namespace Go.Proofs.Ytichcnaomcpnhaa
open Go.RowKit Go.Shelf

/-- Each done step's function value undoes it: it holds the sizes and heights of before. -/
inductive Und (w : World) (base M n : Nat) : List (Int × Int × Value) → List Int → (Nat → Nat) → (Nat → Nat) → Prop
  | nil : Und w base M n [] (roots n) (szN (roots n)) (htN (roots n))
  | snoc {ds : List (Int × Int × Value)} {u : List Int} {sz ht : Nat → Nat} {x y : Nat} {F : Value} : Und w base M n ds u sz ht → Two u x y → Undoer w base M x y (sz y) (ht y) F →
      Und w base M n (ds ++ [((x : Int), (y : Int), F)]) (hang u x y) (fun z => if z = y then sz y + sz x else sz z) (fun z => if z = y then max (ht y) (ht x + 1) else ht z)
/-- Blocks of other kinds than done steps stay. -/
def Kinds (w w' : World) (base : Nat) : Prop := ∀ K, base ≤ K → K < w.heap.size → (∀ cs, w.heap[K]? ≠ some (.cells cs 115 (0, 0))) → w'.heap[K]? = w.heap[K]?
theorem Undoer.kinds {w w' : World} {base M x y s t : Nat} {F : Value} (h : Undoer w base M x y s t F) (hk : Kinds w w' base) : Undoer w' base M x y s t F := by
  obtain ⟨K4, K6, K5, hF, b4, b6, b5, l4, l6, l5⟩ := h
  have h4 : w.heap[K4]? = some (.cells #[.pointer (some ⟨M, x * 3, none⟩)] 81 (0, 0)) := b4
  have h5 : w.heap[K5]? = some (.cells #[.pointer (some ⟨M, y * 3, none⟩)] 81 (0, 0)) := b5
  refine ⟨K4, K6, K5, hF, (hk K4 l4 (Array.getElem?_eq_some_iff.1 h4).1 (fun cs e => ?_)).trans b4, (hk K6 l6 (Array.getElem?_eq_some_iff.1 b6).1 (fun cs e => ?_)).trans b6, (hk K5 l5 (Array.getElem?_eq_some_iff.1 h5).1 (fun cs e => ?_)).trans b5, l4, l6, l5⟩
  · rw [h4] at e; simp at e
  · rw [b6] at e; simp at e
  · rw [h5] at e; simp at e
theorem Und.kinds {w w' : World} {base M n : Nat} {ds : List (Int × Int × Value)} {u : List Int} {sz ht : Nat → Nat} (h : Und w base M n ds u sz ht) (hk : Kinds w w' base) : Und w' base M n ds u sz ht := by
  induction h with
  | nil => exact .nil
  | snoc _ T hU ih => exact .snoc ih T (hU.kinds hk)
theorem Und.keep {w w' : World} {base M n : Nat} {ds : List (Int × Int × Value)} {u : List Int} {sz ht : Nat → Nat} (h : Und w base M n ds u sz ht) (hb : Below w.heap.size w w') : Und w' base M n ds u sz ht :=
  h.kinds fun K _ hl _ => hb.block K hl
/-- When a step has been done. -/
theorem Und.done {w w' : World} {base H M N n : Nat} {D : Value} {ds : List (Int × Int × Value)} {u : List Int} {sz ht : Nat → Nat} (h : Und w base M n ds u sz ht) (hD : OwnD w base D ds) (hH : H < base) (hM : M < base) (hN : N < base) (hc : Chg (fun i => i = N ∨ i = M ∨ i = H ∨ D.ownBlock = some i) w w') : Und w' base M n ds u sz ht :=
  h.kinds fun K hK hl hno => hc.block K hl (fun hi => by
    rcases hi with e | e | e | e
    · omega
    · omega
    · omega
    · rcases hD.2 with ⟨hv, _⟩ | ⟨g, cap, cur, hv, _, hh, _⟩
      · rw [hv] at e; cases e
      · rw [hv] at e
        have e1 : g = K := by simpa [Value.ownBlock] using e
        subst e1
        exact hno cur hh)
end Go.Proofs.Ytichcnaomcpnhaa

namespace Go.Proofs.Ytichcnaomcpnhaa
open Go.RowKit Go.Shelf

theorem rdq_one (w : World) (x y : Int) : RdQ (w.alloc (.cells #[.int .i64 x, .int .i64 y] 59)) (w.alloc (.cells #[.int .i64 x, .int .i64 y] 59)).heap.size (some ⟨w.heap.size, 0, none⟩) 1 [(x, y)] := by
  refine ⟨rfl, fun _ => ⟨_, 0, rfl, by simp, fun k hk => ?_⟩⟩
  obtain rfl : k = 0 := by omega
  obtain ⟨c1, c2⟩ := pair_cells w x y
  exact ⟨c1, c2⟩
theorem rdq_oneD (w : World) (x y : Int) : RdQ (w.alloc (.cells #[.int .i64 x, .int .i64 y] 59)).drew (w.alloc (.cells #[.int .i64 x, .int .i64 y] 59)).drew.heap.size (some ⟨w.heap.size, 0, none⟩) 1 [(x, y)] := rdq_one w x y
theorem okStep_rep {u : List Int} (hv : fvB u = true) {a b : Nat} (ha : a < u.length) (hb : b < u.length) :
    (rootI u a = rootI u b → okStep u ((a : Int), (b : Int)) = false) ∧ (rootI u a ≠ rootI u b → okStep u ((a : Int), (b : Int)) = decide (stR u a b = a ∧ stT u a b = b)) := by
  have key : okStep u ((a : Int), (b : Int)) = true → rootI u a ≠ rootI u b ∧ stR u a b = a ∧ stT u a b = b := fun h => by
    obtain ⟨T, _⟩ := okStep_two hv h
    obtain ⟨_, _, h3, _, _, h6⟩ := okStep_parts h
    have T' : Two u a b := T
    have ra : rootI u a = a := rootI_root T'.fv T'.rp
    have rb : rootI u b = b := rootI_root T'.fv T'.rq
    have hne : rootI u a ≠ rootI u b := by rw [ra, rb]; exact T'.ne
    refine ⟨hne, ?_, ?_⟩
    · unfold stR lowI
      rw [if_neg hne, ra, rb]
      exact if_pos h6
    · unfold stT uppI
      rw [if_neg hne, ra, rb]
      exact if_pos h6
  refine ⟨fun e => ?_, fun hne => ?_⟩
  · cases h : okStep u ((a : Int), (b : Int)) with
    | false => rfl
    | true => exact ((key h).1 e).elim
  · cases h : okStep u ((a : Int), (b : Int)) with
    | true => rw [decide_eq_true (key h).2]
    | false =>
      refine (decide_eq_false fun e => ?_).symm
      have := (ok_join hv ha hb hne).1
      rw [e.1, e.2, h] at this
      cases this
set_option maxRecDepth 100000 in
set_option maxHeartbeats 8000000 in
theorem repeat_any (H J M N n : Nat) (x y : Int) (sz ht : Nat → Nat) (u : List Int) (D : Value) (ds : List (Int × Int × Value)) (base : Nat) (w : World) (h : HistSt w H J M N n sz ht u D) (hD : OwnD w base D ds) (hB : H < base) (hBw : base ≤ w.heap.size) (hl : ds.length ≤ 1000) (hfn : Fns ds) :
    Calls Try.prog 65 #[.pointer (some ⟨H, 0, none⟩), .agg #[.int .i64 x, .int .i64 y]] w fun e w' =>
      e = .returned (.bool (okStep u (x, y))) ∧ ∃ sz' ht' D' ds', HistSt w' H J M N n sz' ht' (if okStep u (x, y) = true then u.set x.toNat y else u) D' ∧ OwnD w' base D' ds' ∧ stepsOf ds' = (if okStep u (x, y) = true then stepsOf ds ++ [(x, y)] else stepsOf ds) ∧ ds'.length ≤ ds.length + 1 ∧ Fns ds' ∧ Chg (fun i => i = N ∨ i = M ∨ i = H ∨ base ≤ i) w w' ∧ (Und w base M n ds u sz ht → Und w' base M n ds' (if okStep u (x, y) = true then u.set x.toNat y else u) sz' ht') := by
  obtain ⟨W1, hW1⟩ : ∃ W1, W1 = w.alloc (.cells #[.int .i64 x, .int .i64 y] 68) := ⟨_, rfl⟩
  obtain ⟨W, hW⟩ : ∃ W, W = W1.alloc (.cells #[.int .i64 x, .int .i64 y] 59) := ⟨_, rfl⟩
  have e1 : W1.heap.size = w.heap.size + 1 := by rw [hW1]; simp
  have eW : W.heap.size = w.heap.size + 2 := by rw [hW]; simp [e1]
  have hP1 : W1.heap[w.heap.size]? = some (.cells #[.int .i64 x, .int .i64 y] 68 (0, 0)) := by rw [hW1]; exact World.alloc_heap_new w _
  have hP : W.heap[w.heap.size]? = some (.cells #[.int .i64 x, .int .i64 y] 68 (0, 0)) := by rw [hW]; exact (Below.heap_alloc _ _ _ (by omega)).trans hP1
  have hQ : W.heap[w.heap.size + 1]? = some (.cells #[.int .i64 x, .int .i64 y] 59 (0, 0)) := by rw [hW, ← e1]; exact World.alloc_heap_new W1 _
  have hbW : Below w.heap.size w W := by rw [hW, hW1]; exact ((Below.refl _ _).alloc (Nat.le_refl _) _).alloc (by simp) _
  have hSW := h.below hbW h.lt
  have hDW : OwnD W base D ds := hD.chg (S := fun _ => False) (Chg.of_below hbW) (fun i hi => hi.elim)
  obtain ⟨⟨a1, _⟩, _⟩ := boxTwo_cells hSW.at_
  have cJ := hSW.box.cell
  obtain ⟨P, hPe⟩ : ∃ P, P = w.heap.size := ⟨_, rfl⟩
  obtain ⟨Q, hQe⟩ : ∃ Q, Q = w.heap.size + 1 := ⟨_, rfl⟩
  rw [← hPe] at hP
  rw [← hQe] at hQ
  obtain ⟨⟨p1, p2⟩, _⟩ := boxTwo_cells hP
  obtain ⟨⟨q1, q2⟩, _⟩ := boxTwo_cells hQ
  have PV := Lib.hid (fun (wz : World) (A : Option Addr) (hr : RdQ wz wz.heap.size A 1 [(x, y)]) => pairsValid_any (n : Int) A 1 1 _ [(x, y)] wz hr (Nat.le_refl _) (by omega))
  have hn16 : n ≤ 16 := by have := (fv_parts h.fv).2.1; have := h.len; omega
  have HW := Lib.hid (And.intro hW (And.intro hW1 (And.intro hPe hQe)))
  have HH := Lib.hid (And.intro hbW (And.intro hSW (And.intro hDW (And.intro hP (And.intro hQ eW)))))
  have HB := Lib.hid (And.intro hB (And.intro hBw (And.intro hl hfn)))
  have hfv := h.fv
  have hlen := h.len
  cases hok : okQ (n : Int) [(x, y)] with
  | false =>
    have hno : okStep u (x, y) = false := by
      cases e : okStep u (x, y) with
      | false => rfl
      | true =>
        obtain ⟨g1, g2, _⟩ := okStep_parts e
        rw [okQ_of (by simp) (fun p hp => by simp at hp; subst hp; rw [hlen] at g1 g2; exact ⟨g1, g2⟩)] at hok
        cases hok
    rw [hno, if_neg (by decide), if_neg (by decide)]
    rw [hok] at PV
    clear h hD hB hBw hl hfn hW1 hW e1 eW hP1 hP hQ hbW hSW hDW hPe hQe hfv hlen hok hno
    have hbb : Below W.heap.size W W := Below.refl _ _
    go_enter Try.func65, Try.ntmps65
    go_wp2_with fail
    rw [← HW.out.2.1, ← HW.out.1, ← HW.out.2.2.2, ← HW.out.2.2.1]
    go_region_held3 (fun w' => Below W.heap.size W w' ∧ w'.cell? ⟨H, 0, none⟩ = some (.pointer (some ⟨J, 0, none⟩)) ∧ w'.cell? ⟨J, 0, none⟩ = some (.slice (some ⟨M, 0, none⟩) n n) ∧ w'.cell? ⟨Q, 0, none⟩ = some (.int .i64 x) ∧ w'.cell? ⟨Q, 1, none⟩ = some (.int .i64 y))
      (first | assumption | exact held4_drew ⟨by assumption, by assumption, by assumption, by assumption, by assumption⟩ | exact held4_drew (by assumption) | exact held4_call (by assumption) ((Below.refl _ _).alloc (Nat.le_refl _) _) (Below.size (And.left (by assumption))) | exact held4_call (by assumption) (by assumption) (Below.size (And.left (by assumption))))
      (first | (go_at_call 32; refine (PV.out _ _ (rdq_oneD W _ _)).mono ?_; rintro e w8 ⟨rfl, hb8⟩))
    have hbz := (‹Below W.heap.size W _ ∧ _›).1
    have HZ := Lib.hid hbz
    clear hbz
    go_wp2_with fail
    go_ret
    have hbz := HZ.out
    exact ⟨rfl, sz, ht, D, ds, HH.out.2.1.below hbz HH.out.2.1.lt, HH.out.2.2.1.chg (S := fun _ => False) (Chg.of_below hbz) (fun i hi => hi.elim), rfl, by omega, HB.out.2.2.2, Chg.of_below (Below.on HH.out.1 hbz), fun hu => hu.keep (Below.on HH.out.1 hbz)⟩
  | true =>
    obtain ⟨r1, r2⟩ := (okQ_parts hok).2 (x, y) (by simp)
    obtain ⟨a, rfl⟩ : ∃ a : Nat, x = a := ⟨x.toNat, by have : 0 ≤ x := r1.1; omega⟩
    obtain ⟨b, rfl⟩ : ∃ b : Nat, y = b := ⟨y.toNat, by have : 0 ≤ y := r2.1; omega⟩
    have ha : a < n := by have : (a : Int) < n := r1.2; omega
    have hb : b < n := by have : (b : Int) < n := r2.2; omega
    have OR := okStep_rep hfv (show a < u.length by omega) (show b < u.length by omega)
    have SF := Lib.hid (fun (wz : World) (hz : Below W.heap.size W wz) => stepFor_any H J M N n a b sz ht u D wz (hSW.below hz hSW.lt) ha hb)
    rw [hok] at PV
    obtain ⟨s, hs⟩ : ∃ s, s = okStep u ((a : Int), (b : Int)) := ⟨_, rfl⟩
    rw [← hs] at OR ⊢
    by_cases hpq : rootI u a = rootI u b
    · have hs0 := OR.1 hpq
      rw [decide_eq_true hpq] at SF
      rw [hs0, if_neg (by decide), if_neg (by decide)]
      clear h hD hB hBw hl hfn hW1 hW e1 eW hP1 hP hQ hbW hSW hDW hPe hQe hfv hlen hok r1 r2 ha hb OR hs hs0 hpq
      have hbb : Below W.heap.size W W := Below.refl _ _
      go_enter Try.func65, Try.ntmps65
      go_wp2_with fail
      rw [← HW.out.2.1, ← HW.out.1, ← HW.out.2.2.2, ← HW.out.2.2.1]
      go_region_held3 (fun w' => Below W.heap.size W w' ∧ w'.cell? ⟨H, 0, none⟩ = some (.pointer (some ⟨J, 0, none⟩)) ∧ w'.cell? ⟨J, 0, none⟩ = some (.slice (some ⟨M, 0, none⟩) n n) ∧ w'.cell? ⟨Q, 0, none⟩ = some (.int .i64 (a : Int)) ∧ w'.cell? ⟨Q, 1, none⟩ = some (.int .i64 (b : Int)))
        (first | assumption | exact held4_drew ⟨by assumption, by assumption, by assumption, by assumption, by assumption⟩ | exact held4_drew (by assumption) | exact held4_call (by assumption) ((Below.refl _ _).alloc (Nat.le_refl _) _) (Below.size (And.left (by assumption))) | exact held4_call (by assumption) (by assumption) (Below.size (And.left (by assumption))))
        (first | (go_at_call 32; refine (PV.out _ _ (rdq_oneD W _ _)).mono ?_; rintro e w8 ⟨rfl, hb8⟩))
      obtain ⟨hbz, _, _, q1, q2⟩ := ‹Below W.heap.size W _ ∧ _›
      have SFZ := Lib.hid (SF.out _ hbz)
      have HZ := Lib.hid hbz
      clear hbz SF
      go_wp2_with fail
      refine SFZ.out.mono ?_
      rintro e w2 ⟨rfl, hb2⟩
      have hbz2 := Below.on HZ.out hb2
      obtain ⟨V, hV⟩ : ∃ V, V = w2.alloc (.cells #[.int .i64 (stR u a b : Int), .int .i64 (stT u a b : Int)] 68) := ⟨_, rfl⟩
      have hbV : Below W.heap.size W V := Below.on hbz2 (by rw [hV]; exact (Below.refl _ _).alloc (Nat.le_refl _) _)
      have HV := Lib.hid (And.intro hbV hV)
      clear hb2 hbz2 hV hbV
      go_wp2_with fail
      go_ret
      rw [← HV.out.2]
      have hbz := HV.out.1
      exact ⟨rfl, sz, ht, D, ds, HH.out.2.1.below hbz HH.out.2.1.lt, HH.out.2.2.1.chg (S := fun _ => False) (Chg.of_below hbz) (fun i hi => hi.elim), rfl, by omega, HB.out.2.2.2, Chg.of_below (Below.on HH.out.1 hbz), fun hu => hu.keep (Below.on HH.out.1 hbz)⟩
    · have hs1 := OR.2 hpq
      have SF0 := SF
      by_cases heq : stR u a b = a ∧ stT u a b = b
      · rw [decide_eq_true heq] at hs1
        rw [hs1, if_pos rfl, if_pos rfl]
        have T : Two u a b := (okStep_two hfv (hs.symm.trans hs1)).1
        have HT := Lib.hid T
        have HSET : Hid (u.set ((a : Int)).toNat (b : Int) = hang u a b) := by
          show _ = _
          rw [Int.toNat_natCast]
          rfl
        rw [HSET.out]
        rw [heq.1, heq.2] at SF
        clear SF0 heq T
        rw [decide_eq_false hpq] at SF
        clear hs1 h hD hB hBw hl hfn hW1 hW e1 eW hP1 hP hQ hbW hSW hDW hPe hQe hok r1 r2 OR hs
        have hbb : Below W.heap.size W W := Below.refl _ _
        go_enter Try.func65, Try.ntmps65
        go_wp2_with fail
        rw [← HW.out.2.1, ← HW.out.1, ← HW.out.2.2.2, ← HW.out.2.2.1]
        go_region_held3 (fun w' => Below W.heap.size W w' ∧ w'.cell? ⟨H, 0, none⟩ = some (.pointer (some ⟨J, 0, none⟩)) ∧ w'.cell? ⟨J, 0, none⟩ = some (.slice (some ⟨M, 0, none⟩) n n) ∧ w'.cell? ⟨Q, 0, none⟩ = some (.int .i64 (a : Int)) ∧ w'.cell? ⟨Q, 1, none⟩ = some (.int .i64 (b : Int)))
          (first | assumption | exact held4_drew ⟨by assumption, by assumption, by assumption, by assumption, by assumption⟩ | exact held4_drew (by assumption) | exact held4_call (by assumption) ((Below.refl _ _).alloc (Nat.le_refl _) _) (Below.size (And.left (by assumption))) | exact held4_call (by assumption) (by assumption) (Below.size (And.left (by assumption))))
          (first | (go_at_call 32; refine (PV.out _ _ (rdq_oneD W _ _)).mono ?_; rintro e w8 ⟨rfl, hb8⟩))
        obtain ⟨hbz, _, _, q1, q2⟩ := ‹Below W.heap.size W _ ∧ _›
        have SFZ := Lib.hid (SF.out _ hbz)
        have HZ := Lib.hid hbz
        clear hbz SF
        go_wp2_with fail
        refine SFZ.out.mono ?_
        rintro e w2 ⟨rfl, hb2⟩
        have hbz2 := Below.on HZ.out hb2
        obtain ⟨V, hV⟩ : ∃ V, V = w2.alloc (.cells #[.int .i64 (a : Int), .int .i64 (b : Int)] 68) := ⟨_, rfl⟩
        have hbV : Below W.heap.size W V := Below.on hbz2 (by rw [hV]; exact (Below.refl _ _).alloc (Nat.le_refl _) _)
        have HV := Lib.hid (And.intro hbV hV)
        have hPV := (hbV.block P (by have := HH.out.2.2.2.2.2; have := HW.out.2.2.1; omega)).trans HH.out.2.2.2.1
        obtain ⟨⟨p1, p2⟩, _⟩ := boxTwo_cells hPV
        rw [hV] at p1 p2
        clear hb2 hbz2 hV hbV hPV
        have hVs := HV.out.1
        have hsV := hVs.size
        have hsW := HH.out.1.size
        have DO := Lib.hid (do_any H J M N n a b sz ht u D ds base V (HH.out.2.1.below hVs HH.out.2.1.lt) HT.out (HH.out.2.2.1.chg (S := fun _ => False) (Chg.of_below hVs) (fun i hi => hi.elim)) HB.out.1 (by have := HB.out.2.1; omega) HB.out.2.2.1)
        clear hVs hsV hsW
        go_wp2_with fail
        rw [← HV.out.2]
        refine DO.out.mono ?_
        rintro e w3 ⟨⟨v, rfl⟩, D', F, hS', hD', hU, hc⟩
        have HQ := Lib.hid (And.intro hS' (And.intro hD' (And.intro hc hU)))
        clear hS' hD' hc hU
        go_wp2_with fail
        go_ret
        obtain ⟨hS', hD', hc, hU⟩ := HQ.out
        have hU0 := hU
        obtain ⟨_, _, _, hF, _⟩ := hU0
        refine ⟨rfl, _, _, D', _, hS', hD', by simp [stepsOf], by simp, HB.out.2.2.2.snoc ⟨_, _, _, hF⟩, (Chg.of_below (Below.on HH.out.1 HV.out.1)).trans (hc.weak (fun i hi => ?_)), fun hu => ?_⟩
        · rcases hi with h | h | h | h
          · exact .inl h
          · exact .inr (.inl h)
          · exact .inr (.inr (.inl h))
          · exact .inr (.inr (.inr (World.ownsRow.lt HH.out.2.2.1 i h).1))
        · have hSV := HH.out.2.1
          have o1 := hSV.o1
          have o2 := hSV.o2
          have o3 := hSV.o3
          have hHb := HB.out.1
          exact .snoc ((hu.keep (Below.on HH.out.1 HV.out.1)).done (HH.out.2.2.1.chg (S := fun _ => False) (Chg.of_below HV.out.1) (fun i hi => hi.elim)) hHb (by omega) (by omega) hc) HT.out hU
      · rw [decide_eq_false heq] at hs1
        rw [hs1, if_neg (by decide), if_neg (by decide)]
        clear SF0
        rw [decide_eq_false hpq] at SF
        clear hs1 h hD hB hBw hl hfn hW1 hW e1 eW hP1 hP hQ hbW hSW hDW hPe hQe hok r1 r2 OR hs
        have hbb : Below W.heap.size W W := Below.refl _ _
        go_enter Try.func65, Try.ntmps65
        go_wp2_with fail
        rw [← HW.out.2.1, ← HW.out.1, ← HW.out.2.2.2, ← HW.out.2.2.1]
        go_region_held3 (fun w' => Below W.heap.size W w' ∧ w'.cell? ⟨H, 0, none⟩ = some (.pointer (some ⟨J, 0, none⟩)) ∧ w'.cell? ⟨J, 0, none⟩ = some (.slice (some ⟨M, 0, none⟩) n n) ∧ w'.cell? ⟨Q, 0, none⟩ = some (.int .i64 (a : Int)) ∧ w'.cell? ⟨Q, 1, none⟩ = some (.int .i64 (b : Int)))
          (first | assumption | exact held4_drew ⟨by assumption, by assumption, by assumption, by assumption, by assumption⟩ | exact held4_drew (by assumption) | exact held4_call (by assumption) ((Below.refl _ _).alloc (Nat.le_refl _) _) (Below.size (And.left (by assumption))) | exact held4_call (by assumption) (by assumption) (Below.size (And.left (by assumption))))
          (first | (go_at_call 32; refine (PV.out _ _ (rdq_oneD W _ _)).mono ?_; rintro e w8 ⟨rfl, hb8⟩))
        obtain ⟨hbz, _, _, q1, q2⟩ := ‹Below W.heap.size W _ ∧ _›
        have SFZ := Lib.hid (SF.out _ hbz)
        have HZ := Lib.hid hbz
        clear hbz SF
        go_wp2_with fail
        refine SFZ.out.mono ?_
        rintro e w2 ⟨rfl, hb2⟩
        have hbz2 := Below.on HZ.out hb2
        obtain ⟨V, hV⟩ : ∃ V, V = w2.alloc (.cells #[.int .i64 (stR u a b : Int), .int .i64 (stT u a b : Int)] 68) := ⟨_, rfl⟩
        have hbV : Below W.heap.size W V := Below.on hbz2 (by rw [hV]; exact (Below.refl _ _).alloc (Nat.le_refl _) _)
        have HV := Lib.hid (And.intro hbV hV)
        have HB2 := Lib.hid hbz2
        have hPV := (hbV.block P (by have := HH.out.2.2.2.2.2; have := HW.out.2.2.1; omega)).trans HH.out.2.2.2.1
        obtain ⟨⟨p1, p2⟩, _⟩ := boxTwo_cells hPV
        rw [hV] at p1 p2
        clear hb2 hbz2 hV hbV hPV
        go_wp2_with fail
        all_goals
          go_ret
          have hal := HB2.out.size
          exact ⟨rfl, sz, ht, D, ds, HH.out.2.1.below (HB2.out.alloc hal _) HH.out.2.1.lt, HH.out.2.2.1.chg (S := fun _ => False) (Chg.of_below (HB2.out.alloc hal _)) (fun i hi => hi.elim), rfl, by omega, HB.out.2.2.2, Chg.of_below (Below.on HH.out.1 (HB2.out.alloc hal _)), fun hu => hu.keep (Below.on HH.out.1 (HB2.out.alloc hal _))⟩
end Go.Proofs.Ytichcnaomcpnhaa

namespace Go.Proofs.Ytichcnaomcpnhaa
open Go.RowKit Go.Shelf

/-- How many of the first k items are roots. -/
def rts (u : List Int) (k : Nat) : Nat := ((List.range k).filter fun i : Nat => u[i]?.getD 0 == (i : Int)).length
theorem rts_succ (u : List Int) (k : Nat) : rts u (k + 1) = rts u k + (if u[k]?.getD 0 = (k : Int) then 1 else 0) := by
  unfold rts
  rw [List.range_succ, List.filter_append, List.length_append]
  by_cases h : u[k]?.getD 0 = (k : Int)
  · rw [if_pos h]; simp [h]
  · rw [if_neg h]; simp [h]
theorem rts_le (u : List Int) (k : Nat) : rts u k ≤ k := by
  unfold rts
  exact Nat.le_trans (List.length_filter_le _ _) (by rw [List.length_range]; exact Nat.le_refl _)
theorem rts_hang {u : List Int} {p q : Nat} (T : Two u p q) : ∀ k, rts (hang u p q) k + (if p < k then 1 else 0) = rts u k
  | 0 => rfl
  | k + 1 => by
    have ih := rts_hang T k
    rw [rts_succ, rts_succ]
    by_cases e : k = p
    · subst e
      have h1 : u[k]?.getD 0 = (k : Int) := isroot_link T.rp
      have h2 : (hang u k q)[k]?.getD 0 = (q : Int) := by
        unfold hang
        rw [List.getElem?_set_self T.hp]
        rfl
      have hne := T.ne
      rw [if_neg (by omega)] at ih
      rw [if_neg (by rw [h2]; omega), if_pos (by omega), if_pos h1]
      omega
    · rw [hang_off e]
      by_cases h : p < k
      · rw [if_pos h] at ih
        rw [if_pos (show p < k + 1 by omega)]
        omega
      · rw [if_neg h] at ih
        rw [if_neg (show ¬ p < k + 1 by omega)]
        omega
theorem built_count {v : List Int} : ∀ {ss : List (Int × Int)} {u : List Int}, fvB u = true → builtL u ss = some v → ss.length + rts v u.length = rts u u.length
  | [], u, _, h => by
    have h' : some u = some v := h
    injection h' with e
    subst e
    simp
  | s :: ss, u, hv, h => by
    rw [builtL_cons] at h
    split at h
    · rename_i hk
      obtain ⟨T, e⟩ := okStep_two hv hk
      rw [e] at h
      have h1 := built_count (hang_fv T) h
      have h2 := rts_hang T u.length
      rw [if_pos T.hp] at h2
      rw [hang_len] at h1
      rw [List.length_cons]
      omega
    · cases h
theorem built_short {n : Nat} (h1 : 1 ≤ n) (h16 : n ≤ 16) {ss : List (Int × Int)} {v : List Int} (h : builtL (roots n) ss = some v) : ss.length ≤ 16 := by
  have h2 := built_count (roots_fv h1 h16) h
  have h3 := rts_le (roots n) (roots n).length
  rw [roots_len] at h2 h3
  omega
theorem stepsOf_len (ds : List (Int × Int × Value)) : (stepsOf ds).length = ds.length := by simp [stepsOf]
set_option maxRecDepth 100000 in
set_option maxHeartbeats 8000000 in
theorem historyOf_any (A1 A2 : Option Addr) (n c1 m c2 B0 : Nat) (xs : List Int) (ss : List (Int × Int)) (w : World) (h1 : Rd w B0 A1 n xs) (h2 : RdQ w B0 A2 m ss) (hB0 : B0 ≤ w.heap.size) (hb1 : n ≤ 1048576) (hb2 : m ≤ 1048576) :
    Calls Try.prog 31 #[.agg #[.slice A1 n c1, .slice A2 m c2]] w fun e w' => Below w.heap.size w w' ∧ ((logV xs ss = false ∧ e = .returned (.pointer none)) ∨
      (logV xs ss = true ∧ ∃ H J M N, e = .returned (.pointer (some ⟨H, 0, none⟩)) ∧ w.heap.size ≤ N ∧ ∃ sz ht D ds, HistSt w' H J M N n sz ht xs D ∧ OwnD w' (H + 1) D ds ∧ stepsOf ds = ss ∧ Fns ds ∧ Und w' (H + 1) M n ds xs sz ht)) := by
  obtain ⟨W, hW⟩ : ∃ W, W = w.alloc (.cells #[.slice A1 n c1, .slice A2 m c2] 26) := ⟨_, rfl⟩
  have hbW : Below w.heap.size w W := by rw [hW]; exact (Below.refl _ _).alloc (Nat.le_refl _) _
  have hA : W.heap[w.heap.size]? = some (.cells #[.slice A1 n c1, .slice A2 m c2] 26 (0, 0)) := by rw [hW]; exact World.alloc_heap_new w _
  have NH := newHistory_any (n : Int) W
  have hl := h1.1
  have hlm := h2.1
  obtain ⟨P, hP⟩ : ∃ P, P = w.heap.size := ⟨_, rfl⟩
  rw [← hP] at hA
  have hlt := (Array.getElem?_eq_some_iff.1 hA).1
  have HW := Lib.hid (And.intro hbW (And.intro hA (And.intro hlt (And.intro (h1.below hbW hB0) (And.intro (h2.below hbW hB0) hB0)))))
  have HE := Lib.hid (And.intro hW hP)
  by_cases hn : 1 ≤ n ∧ n ≤ 16
  case neg =>
    have e0 : logV xs ss = false := logV_n (by omega)
    have e1 : newOk (n : Int) = false := by unfold newOk; exact decide_eq_false (by omega)
    rw [e1] at NH
    rw [e0]
    have NH := Lib.hid NH
    clear h1 h2 hB0 hW hbW hA hP hlt hn e0 e1 hl hlm
    go_enter Try.func31, Try.ntmps31
    go_wp2_with fail
    rw [← HE.out.1]
    refine NH.out.mono ?_
    rintro e w1 ⟨hb1, ⟨_, rfl⟩ | ⟨hv, _⟩⟩
    · have HB := Lib.hid (Below.on HW.out.1 hb1)
      clear hb1
      go_wp2_with fail
      go_ret
      exact ⟨HB.out, .inl ⟨by trivial, rfl⟩⟩
    · cases hv
  case pos =>
    have e1 : newOk (n : Int) = true := by unfold newOk; exact decide_eq_true (by omega)
    rw [e1, Int.toNat_natCast] at NH
    have hfv := roots_fv hn.1 hn.2
    have HN : Hid (∀ k u, k < m → builtL (roots n) (ss.take k) = some u → (okStep u (ss[k]?.getD (0, 0)) = true → builtL (roots n) (ss.take (k + 1)) = some (u.set (ss[k]?.getD (0, 0)).1.toNat (ss[k]?.getD (0, 0)).2)) ∧ (okStep u (ss[k]?.getD (0, 0)) = false → logV xs ss = false) ∧ ss.take (k + 1) = ss.take k ++ [ss[k]?.getD (0, 0)] ∧ k ≤ 16) := fun k u hk hu => by
      obtain ⟨g1, g2⟩ := built_next (k := k) (by omega) hu
      refine ⟨g1, fun e => logV_b (by rw [hl, g2 e]; simp), take_snoc (by omega) (0, 0), ?_⟩
      have := built_short hn.1 hn.2 hu
      rw [List.length_take] at this
      omega
    have HEND : Hid (ss.take m = ss ∧ (∀ u, builtL (roots n) ss = some u → logV xs ss = decide (u = xs)) ∧ builtL (roots n) (ss.take 0) = some (roots n)) := by
      refine ⟨List.take_of_length_le (by omega), fun u hu => ?_, rfl⟩
      unfold logV
      rw [hl, hu, decide_eq_true hn]
      by_cases h : u = xs
      · rw [h]; simp
      · rw [decide_eq_false h, decide_eq_false (by simpa using h)]; rfl
    have HFV := Lib.hid (And.intro hfv (roots_len n))
    have NH := Lib.hid NH
    obtain ⟨⟨a1, a2⟩, _⟩ := boxTwo_cells hA
    clear h1 h2 hB0 hW hbW hA hlt hn e1 hl hfv
    rw [hP] at a1 a2
    clear hP
    go_enter Try.func31, Try.ntmps31
    go_wp2_with fail
    rw [← HE.out.1, ← HE.out.2]
    refine NH.out.mono ?_
    rintro e w1 ⟨hb1', ⟨hv, _⟩ | ⟨_, H, J, M, N, rfl, hh, hN, hm, hj, o1, o2, o3, o4⟩⟩
    · cases hv
    · have hP1 := (hb1'.block P HW.out.2.2.1).trans HW.out.2.1
      obtain ⟨⟨p1, p2⟩, _⟩ := boxTwo_cells hP1
      have hS1 : HistSt w1 H J M N n _ _ (roots n) (.slice none 0 0) := ⟨hh, hm, hj, hN, o2, o3, o4, HFV.out.1, HFV.out.2, RootsTell.all _⟩
      have hPN : P < N := by have := HW.out.2.2.1; omega
      have HB1 := Lib.hid (And.intro hb1' (And.intro hP1 (And.intro hPN (And.intro hS1.lt (And.intro o1 (And.intro o2 (And.intro o3 o4)))))))
      have HI : Hid (∃ u sz ht D ds, builtL (roots n) (ss.take 0) = some u ∧ HistSt w1 H J M N n sz ht u D ∧ OwnD w1 (H + 1) D ds ∧ stepsOf ds = ss.take 0 ∧ Fns ds ∧ Chg (fun i => i = N ∨ i = M ∨ i = H ∨ H + 1 ≤ i) w1 w1 ∧ Und w1 (H + 1) M n ds u sz ht) := ⟨_, _, _, _, [], HEND.out.2.2, hS1, OwnD.nil _ _, rfl, fun k hk => by simp at hk, Chg.refl _ _, .nil⟩
      clear hb1' hh hN hm hj o1 o2 o3 o4 hP1 hS1 hPN a1 a2
      go_wp2_with fail
      go_loopw [15] (fun i wr => ∃ k : Nat, k ≤ m ∧ i = .int .i64 (k : Int) ∧ Hid (∃ u sz ht D ds, builtL (roots n) (ss.take k) = some u ∧ HistSt wr H J M N n sz ht u D ∧ OwnD wr (H + 1) D ds ∧ stepsOf ds = ss.take k ∧ Fns ds ∧ Chg (fun i => i = N ∨ i = M ∨ i = H ∨ H + 1 ≤ i) w1 wr ∧ Und wr (H + 1) M n ds u sz ht)) (fun i _ => m - (intOf i).toNat)
      case atStart => exact ⟨0, by omega, rfl, HI⟩
      case round =>
        obtain ⟨k, hkm, rfl, HK⟩ := hrel
        clear HI
        obtain ⟨u, sz, ht, D, ds, hu, hS, hD, hst, hfn, hc, hUd⟩ := HK.out
        clear HK
        obtain ⟨hb1', hP1, hPN, hHl, q1, q2, q3, q4⟩ := HB1.out
        have hbr : Below W.heap.size W wr := hb1'.trans (hc.below (by omega) (fun i hi => by omega))
        have hPr := (hc.block P (by omega) (by omega)).trans hP1
        by_cases hlt : k < m
        · have hkk : (k : Int) < (m : Int) := by omega
          obtain ⟨b0, off, rfl, _, hc1⟩ := (HW.out.2.2.2.2.1.below hbr (Nat.le_trans HW.out.2.2.2.2.2 HW.out.1.size)).2 (by omega)
          obtain ⟨g1, g2⟩ := hc1 k hlt
          obtain ⟨n1, n2, n3, n4⟩ := HN.out k u hlt hu
          obtain ⟨x, hx⟩ : ∃ x, x = (ss[k]?.getD (0, 0)).1 := ⟨_, rfl⟩
          obtain ⟨y, hy⟩ : ∃ y, y = (ss[k]?.getD (0, 0)).2 := ⟨_, rfl⟩
          have exy : ss[k]?.getD (0, 0) = (x, y) := by rw [hx, hy]
          rw [exy] at n1 n2 n3
          rw [← hx] at g1
          rw [← hy] at g2
          obtain ⟨V, hV⟩ : ∃ V, V = wr.alloc (.cells #[.int .i64 x, .int .i64 y] 68) := ⟨_, rfl⟩
          have hbV : Below wr.heap.size wr V := by rw [hV]; exact (Below.refl _ _).alloc (Nat.le_refl _) _
          have hdl : ds.length ≤ 16 := by
            have := stepsOf_len ds
            rw [hst, List.length_take] at this
            omega
          have RA := repeat_any H J M N n x y sz ht u D ds (H + 1) V (hS.below hbV hS.lt) (hD.chg (S := fun _ => False) (Chg.of_below hbV) (fun i hi => hi.elim)) (by omega) (by have := hbV.size; have := hS.lt; omega) (by omega) hfn
          have HZ := Lib.hid (And.intro hst (And.intro (hc.trans (Chg.of_below hbV)) (And.intro n3 (And.intro (Below.on HW.out.1 hbr) (hUd.keep hbV)))))
          have HVE := Lib.hid (And.intro hV (Below.on hbr hbV))
          cases hok : okStep u (x, y) with
          | false =>
            have HF := Lib.hid (n2 hok)
            rw [hok] at RA
            have RA := Lib.hid RA
            clear hu hS hD hst hfn hc hUd hb1' hP1 hPN hHl q1 q2 q3 q4 hbr hPr hc1 n1 n2 n3 n4 hx hy exy hV hbV hdl hok
            go_wp2_with fail
            rw [← HVE.out.1]
            refine RA.out.mono ?_
            rintro e w3 ⟨rfl, _, _, _, _, _, _, _, _, _, hc3, _⟩
            have hb3 : Below w.heap.size w w3 := by
              have h3 := HVE.out.2.size
              have h4 := HB1.out
              have h5 := HW.out.1
              have hb : Below V.heap.size V V := Below.refl _ _
              exact (Below.on h5 HVE.out.2).trans (hc3.below (by have := h5.size; omega) (fun i hi => by have := h5.size; omega))
            have HB3 := Lib.hid hb3
            clear hc3 hb3
            go_wp2_with fail
            go_ret
            exact ⟨HB3.out, .inl ⟨HF.out, rfl⟩⟩
          | true =>
            have HB' := Lib.hid (n1 hok)
            rw [hok, if_pos rfl, if_pos rfl] at RA
            have RA := Lib.hid RA
            clear hu hS hD hst hfn hc hUd hb1' hP1 hPN hHl q1 q2 q3 q4 hbr hPr hc1 n1 n2 n3 n4 hx hy exy hV hbV hdl hok
            go_wp2_with fail
            rw [← HVE.out.1]
            refine RA.out.mono ?_
            rintro e w3 ⟨rfl, sz', ht', D', ds', hS', hD', hst', _, hfn', hc', hu'⟩
            obtain ⟨z1, z2, z3, _, z5⟩ := HZ.out
            have HI2 : Hid (∃ u sz ht D ds, builtL (roots n) (ss.take (k + 1)) = some u ∧ HistSt w3 H J M N n sz ht u D ∧ OwnD w3 (H + 1) D ds ∧ stepsOf ds = ss.take (k + 1) ∧ Fns ds ∧ Chg (fun i => i = N ∨ i = M ∨ i = H ∨ H + 1 ≤ i) w1 w3 ∧ Und w3 (H + 1) M n ds u sz ht) := ⟨_, sz', ht', D', ds', HB'.out, hS', hD', by rw [hst', z3, z1], hfn', z2.trans hc', hu' z5⟩
            clear hS' hD' hst' hfn' hc' hu' z1 z2 z3 z5
            go_wp2_with fail
            go_roundw
            case rel => exact ⟨k + 1, by omega, by go_num, HI2⟩
            case measure => simp [intOf]; omega
        · obtain rfl : k = m := by omega
          rw [HEND.out.1] at hu hst
          have e0 := HEND.out.2.1 u hu
          obtain ⟨⟨p1, p2⟩, _⟩ := boxTwo_cells hPr
          obtain ⟨⟨c1', _⟩, _⟩ := boxTwo_cells hS.at_
          have hun : u.length = n := hS.len
          have FO := Lib.hid (fun (wz : World) (hz : Below wr.heap.size wr wz) => forest_any J M N n sz ht u wz (hS.below hz hS.lt).mem (hS.below hz hS.lt).box (hS.below hz hS.lt).nd hS.fv hun (by have := (fv_parts hS.fv).2.1; omega))
          obtain ⟨d, hd⟩ : ∃ d, d = decide (u = xs) := ⟨_, rfl⟩
          rw [← hd] at e0
          have SE : Hid (∀ (wz : World) (A : Option Addr) (c : Nat), Rd wz wz.heap.size A n u → Below wr.heap.size wr wz → Calls Try.prog 66 #[.slice A n c, .slice A1 n c1] wz fun e w' => e = .returned (.bool d) ∧ Below wz.heap.size wz w') := fun wz A c hr hz => by
            refine (slEqual_any A A1 n c n c1 _ _ u xs wz hr (HW.out.2.2.2.1.below (Below.on hbr hz) (Nat.le_trans HW.out.2.2.2.2.2 HW.out.1.size)) hb1 hb1).mono ?_
            rintro e w' ⟨rfl, j, rfl⟩
            rw [hd]
            exact ⟨rfl, below_drewN (Below.refl _ _) j⟩
          have HZ := Lib.hid (And.intro hS (And.intro hD (And.intro hst (And.intro hfn (And.intro (Below.on HW.out.1 hbr) (And.intro e0 (And.intro hd hUd)))))))
          have HQ := Lib.hid (And.intro q1 HW.out.1.size)
          have HUN := Lib.hid hun
          have hbb : Below wr.heap.size wr wr := Below.refl _ _
          clear hu hS hD hst hfn hc hUd hb1' hP1 hPN hHl q1 q2 q3 q4 hbr hPr e0 hun hd
          go_wp2_with fail
          go_region_held3 (fun w' => Below wr.heap.size wr w' ∧ w'.cell? ⟨H, 0, none⟩ = some (.pointer (some ⟨J, 0, none⟩)) ∧ w'.cell? ⟨P, 0, none⟩ = some (.slice A1 n c1))
            (first | assumption | exact held2_drew ⟨by assumption, by assumption, by assumption⟩ | exact held2_drew (by assumption) | exact held2_call (by assumption) (by assumption) (Below.size (And.left (by assumption))))
            (first | (go_at_call 45; refine (FO.out _ (‹Below wr.heap.size wr _ ∧ _›).1).mono ?_; rintro e w8 ⟨v8, rfl, ho8, hb8⟩; obtain ⟨A8, c8, rfl, hr8⟩ := ho8.form; rw [HUN.out] at hr8; rw [HUN.out]) | (go_at_call 66; refine (SE.out _ _ _ (by assumption) (‹Below wr.heap.size wr _ ∧ _›).1).mono ?_; rintro e w9 ⟨rfl, hb9⟩))
          have hbz := (‹Below wr.heap.size wr _ ∧ _›).1
          have HBZ := Lib.hid hbz
          clear hbz
          cases d with
          | false =>
            go_wp2_with fail
            go_ret
            exact ⟨Below.on HZ.out.2.2.2.2.1 HBZ.out, .inl ⟨HZ.out.2.2.2.2.2.1, rfl⟩⟩
          | true =>
            go_wp2_with fail
            go_ret
            obtain ⟨hS, hD, hst, hfn, hbw, e0, hd, hUd⟩ := HZ.out
            have hux : u = xs := of_decide_eq_true hd.symm
            subst hux
            exact ⟨Below.on hbw HBZ.out, .inr ⟨e0, H, J, M, N, rfl, by have := HQ.out; omega, sz, ht, D, ds, hS.below HBZ.out hS.lt, hD.chg (S := fun _ => False) (Chg.of_below HBZ.out) (fun i hi => hi.elim), hst, hfn, hUd.keep HBZ.out⟩⟩
end Go.Proofs.Ytichcnaomcpnhaa

namespace Go.Proofs.Ytichcnaomcpnhaa
open Go.RowKit Go.Shelf

theorem dcells_get : ∀ {ds : List (Int × Int × Value)} {k : Nat}, k < ds.length → (dcells ds)[k * 3]? = some (.int .i64 (ds[k]?.getD (0, 0, .nilFunc)).1) ∧ (dcells ds)[k * 3 + 1]? = some (.int .i64 (ds[k]?.getD (0, 0, .nilFunc)).2.1) ∧ (dcells ds)[k * 3 + 2]? = some (ds[k]?.getD (0, 0, .nilFunc)).2.2
  | [], _, h => by simp at h
  | d :: ds, 0, _ => by simp [dcells]
  | d :: ds, k + 1, h => by
    have ih := dcells_get (ds := ds) (k := k) (by simpa using h)
    have e : dcells (d :: ds) = Value.int .i64 d.1 :: Value.int .i64 d.2.1 :: d.2.2 :: dcells ds := by simp [dcells]
    rw [e, show (k + 1) * 3 = k * 3 + 1 + 1 + 1 by omega]
    simpa using ih
/-- The cells of one done step. -/
theorem OwnD.cells {w : World} {base : Nat} {v : Value} {ds : List (Int × Int × Value)} (h : OwnD w base v ds) : (ds = [] ∧ v = .slice none 0 0) ∨ ∃ g c, v = .slice (some ⟨g, 0, none⟩) ds.length c ∧ ds.length ≤ c ∧ c ≤ maxLen ∧ ∀ k, k < ds.length → w.cell? ⟨g, k * 3, none⟩ = some (.int .i64 (ds[k]?.getD (0, 0, .nilFunc)).1) ∧ w.cell? ⟨g, k * 3 + 1, none⟩ = some (.int .i64 (ds[k]?.getD (0, 0, .nilFunc)).2.1) ∧ w.cell? ⟨g, k * 3 + 2, none⟩ = some (ds[k]?.getD (0, 0, .nilFunc)).2.2 := by
  rcases h.2 with ⟨hv, hx⟩ | ⟨g, cap, cur, hv, hbase, hh, hnc, hm, hsz, hcells⟩
  · exact .inl ⟨by simpa using hx, hv⟩
  · refine .inr ⟨g, cap, hv, by omega, by omega, fun k hk => ?_⟩
    obtain ⟨h1, h2, h3⟩ := dcells_get hk
    have c1 := World.ownsRow.cells h (g := g) (by rw [hv]; rfl) _ _ h1
    have c2 := World.ownsRow.cells h (g := g) (by rw [hv]; rfl) _ _ h2
    have c3 := World.ownsRow.cells h (g := g) (by rw [hv]; rfl) _ _ h3
    rw [add_zero_at, Nat.zero_add] at c1 c2 c3
    exact ⟨c1, c2, c3⟩
theorem steps_take {ds : List (Int × Int × Value)} {k : Nat} (h : k < ds.length) : (stepsOf ds).take (k + 1) = (stepsOf ds).take k ++ [((ds[k]?.getD (0, 0, .nilFunc)).1, (ds[k]?.getD (0, 0, .nilFunc)).2.1)] := by
  unfold stepsOf
  rw [← List.map_take, ← List.map_take, List.take_succ_eq_append_getElem h, List.map_append, List.getElem?_eq_getElem h]
  rfl
set_option maxRecDepth 100000 in
set_option maxHeartbeats 4000000 in
theorem log_any (H J M N n : Nat) (sz ht : Nat → Nat) (u : List Int) (D : Value) (ds : List (Int × Int × Value)) (base : Nat) (w : World) (h : HistSt w H J M N n sz ht u D) (hD : OwnD w base D ds) (hfn : Fns ds) (hl : ds.length ≤ 1000) :
    Calls Try.prog 34 #[.pointer (some ⟨H, 0, none⟩)] w fun e w' => ∃ v v2, e = .returned (.agg #[v, v2]) ∧ Own w' w.heap.size v u ∧ OwnQ 68 w' w.heap.size v2 (stepsOf ds) ∧ (∀ x, v.ownBlock = some x → ∀ y, v2.ownBlock = some y → x ≠ y) ∧ Below w.heap.size w w' := by
  have hlt := h.lt
  have h16 := (fv_parts h.fv).2.1
  obtain ⟨W0, hW0⟩ : ∃ W0, W0 = w.alloc (.cells #[.slice none 0 0, .slice none 0 0] 26) := ⟨_, rfl⟩
  have hb0 : Below w.heap.size w W0 := by rw [hW0]; exact log_box w _ _
  have hS0 := h.below hb0 hlt
  have FO := Lib.hid (forest_any J M N n sz ht u W0 hS0.mem hS0.box hS0.nd h.fv h.len (by have := h.len; omega))
  obtain ⟨⟨a1, a2⟩, _⟩ := boxTwo_cells hS0.at_
  have hR : W0.heap[w.heap.size]? = some (.cells #[.slice none 0 0, .slice none 0 0] 26 (0, 0)) := by rw [hW0]; exact World.alloc_heap_new w _
  have h0s : W0.heap.size = w.heap.size + 1 := by rw [hW0]; simp
  have hDlt := World.ownsRow.lt hD
  obtain ⟨m, hm⟩ : ∃ m, m = ds.length := ⟨_, rfl⟩
  obtain ⟨A0, c0, hDf⟩ : ∃ A c, D = .slice A m c := by
    rcases hD.cells with ⟨e1, e2⟩ | ⟨g, c, e, _⟩
    · subst e1
      exact ⟨_, _, by rw [hm, e2]; rfl⟩
    · exact ⟨_, _, by rw [hm]; exact e⟩
  subst hDf
  have hDc := hD.cells
  have HH := Lib.hid (And.intro hS0.at_ (And.intro hb0 (And.intro hR (And.intro h0s (And.intro hlt (And.intro hDlt (And.intro hDc (And.intro hm (And.intro hl hfn)))))))))
  have HW0 := Lib.hid hW0
  have a1' : (w.alloc (.cells #[.slice none 0 0, .slice none 0 0] 26)).cell? ⟨H, 0, none⟩ = some (.pointer (some ⟨J, 0, none⟩)) := by rw [← hW0]; exact a1
  clear h hD hl hfn h16 hb0 hS0 hR h0s hW0 a1 a2 hDlt hDc hm hlt
  go_enter Try.func34, Try.ntmps34
  go_wp2_with fail
  rw [← HW0.out]
  refine FO.out.mono ?_
  rintro e w1 ⟨v, rfl, ho, hb1⟩
  obtain ⟨A, c, rfl, _⟩ := ho.form
  obtain ⟨V, hV⟩ : ∃ V, V = w1.alloc (.cells #[.slice A u.length c, .slice none 0 0] 26) := ⟨_, rfl⟩
  have hbV : Below w1.heap.size w1 V := by rw [hV]; exact log_box w1 _ _
  have hs1 := hb1.size
  have hsV : V.heap.size = w1.heap.size + 1 := by rw [hV]; simp
  have h0s := HH.out.2.2.2.1
  have hHlt := HH.out.2.2.2.2.1
  obtain ⟨⟨b1, b2⟩, _⟩ := boxTwo_cells (show HistAt V H J (.slice A0 m c0) from (hbV.block H (by omega)).trans ((hb1.block H (by omega)).trans HH.out.1))
  have hRV : V.heap[w.heap.size]? = some (.cells #[.slice none 0 0, .slice none 0 0] 26 (0, 0)) := (hbV.block _ (by omega)).trans ((hb1.block _ (by omega)).trans HH.out.2.2.1)
  have hLV : V.heap[w1.heap.size]? = some (.cells #[.slice A u.length c, .slice none 0 0] 26 (0, 0)) := by rw [hV]; exact World.alloc_heap_new w1 _
  have hoV : Own V w.heap.size (.slice A u.length c) u := (ho.keep hbV (Nat.le_refl _)).less (by omega)
  have hbb : Below w.heap.size w V := Below.on (Below.on HH.out.2.1 hb1) hbV
  have hx := ho.blockOf
  have HX := Lib.hid (And.intro hx (And.intro hoV (And.intro hbb (And.intro hRV (And.intro hsV (And.intro hs1 hbV.size))))))
  have HV := Lib.hid hV
  rw [hV] at b2
  have HL : Hid (∃ A5 k5 c5, V.heap[w1.heap.size]? = some (.cells #[.slice A u.length c, .slice A5 k5 c5] 26 (0, 0)) ∧ OwnQ 68 V V.heap.size (.slice A5 k5 c5) ((stepsOf ds).take 0)) := ⟨_, _, _, hLV, OwnQ.nil _ _ _⟩
  clear ho hb1 hV hbV hRV hoV hbb b1 hx hLV hs1 hsV h0s hHlt
  go_wp2_with fail
  rw [← HV.out]
  clear b2
  go_loopw [17] (fun i wr => ∃ k : Nat, k ≤ m ∧ i = .int .i64 (k : Int) ∧ Hid ((∃ A5 k5 c5, wr.heap[w1.heap.size]? = some (.cells #[.slice A u.length c, .slice A5 k5 c5] 26 (0, 0)) ∧ OwnQ 68 wr V.heap.size (.slice A5 k5 c5) ((stepsOf ds).take k)) ∧ Chg (fun i => i = w1.heap.size) V wr)) (fun i _ => m - (intOf i).toNat)
  case atStart => exact ⟨0, by omega, rfl, HL.out, Chg.refl _ _⟩
  case round =>
    obtain ⟨k, hkm, rfl, HQ⟩ := hrel
    obtain ⟨⟨A5, k5, c5, hLr, hoq⟩, hcr⟩ := HQ.out
    clear HQ HL
    have hcs := hcr.size
    have q1 := HX.out.2.2.2.2.1
    have q2 := HX.out.2.2.2.2.2.1
    have q3 := HH.out.2.2.2.1
    by_cases hlt : k < m
    · have hm := HH.out.2.2.2.2.2.2.2.1
      have hlen := HH.out.2.2.2.2.2.2.2.2.1
      have hfn := HH.out.2.2.2.2.2.2.2.2.2
      rcases HH.out.2.2.2.2.2.2.1 with ⟨e1, _⟩ | ⟨g, cg, e2, hgc, hcm, hcells⟩
      · rw [e1] at hm
        simp at hm
        omega
      · rw [← hm] at e2 hgc
        injection e2 with e3 _ e4
        subst e3 e4
        have hgl := (HH.out.2.2.2.2.2.1 g rfl).2
        obtain ⟨d1, d2, d3⟩ := hcells k (by omega)
        have hgw : wr.heap[g]? = w.heap[g]? := (hcr.block g (by omega) (by omega)).trans (HX.out.2.2.1.block g hgl)
        have g1 := (World.cell?_of_block (a := ⟨g, k * 3, none⟩) hgw).trans d1
        have g2 := (World.cell?_of_block (a := ⟨g, k * 3 + 1, none⟩) hgw).trans d2
        have g3 := (World.cell?_of_block (a := ⟨g, k * 3 + 1 + 1, none⟩) hgw).trans d3
        have hst := steps_take (ds := ds) (k := k) (by omega)
        obtain ⟨a, ha⟩ : ∃ a, a = (ds[k]?.getD (0, 0, .nilFunc)).1 := ⟨_, rfl⟩
        obtain ⟨b, hb⟩ : ∃ b, b = (ds[k]?.getD (0, 0, .nilFunc)).2.1 := ⟨_, rfl⟩
        obtain ⟨F, hF⟩ : ∃ F, F = (ds[k]?.getD (0, 0, .nilFunc)).2.2 := ⟨_, rfl⟩
        rw [← ha] at g1 hst
        rw [← hb] at g2 hst
        rw [← hF] at g3
        obtain ⟨ff, fp, fq, hff⟩ := hfn k (by omega)
        rw [← hF] at hff
        subst hff
        clear hF
        unfold maxLen at hcm
        have hkk : (k : Int) < (m : Int) := by omega
        have hkc : (k : Int) ≤ (c0 : Int) := by omega
        have hkc1 : (k : Int) + 1 ≤ (c0 : Int) := by omega
        obtain ⟨W, hW⟩ : ∃ W, W = wr.alloc (.cells #[.int .i64 a, .int .i64 b, .func ff fp fq] 115) := ⟨_, rfl⟩
        have hWw : Chg (fun i => i = w1.heap.size) V W := by rw [hW]; exact hcr.alloc _
        have hbW : Below wr.heap.size wr W := by rw [hW]; exact (Below.refl _ _).alloc (Nat.le_refl _) _
        have hLW : W.heap[w1.heap.size]? = some (.cells #[.slice A u.length c, .slice A5 k5 c5] 26 (0, 0)) := (hbW.block _ (by omega)).trans hLr
        obtain ⟨⟨_, l2⟩, _, f2⟩ := boxTwo_cells hLW
        have hNW : W.heap[wr.heap.size]? = some (.cells #[.int .i64 a, .int .i64 b, .func ff fp fq] 115 (0, 0)) := by rw [hW]; exact World.alloc_heap_new wr _
        have t1 : W.cell? ⟨wr.heap.size, 0, none⟩ = some (.int .i64 a) := by simp [World.cell?, hNW]
        have t2 : W.cell? ⟨wr.heap.size, 1, none⟩ = some (.int .i64 b) := by simp [World.cell?, hNW]
        have hoW : OwnQ 68 W V.heap.size (.slice A5 k5 c5) ((stepsOf ds).take k) := hoq.keep hbW (Nat.le_refl _)
        have hsW : V.heap.size ≤ W.heap.size := Nat.le_trans hcs hbW.size
        have hlS : ((stepsOf ds).take k).length ≤ 1048576 := by rw [List.length_take]; omega
        have hx5 := hoW.blockOf
        have HY := Lib.hid (And.intro hWw (And.intro hLW hst))
        have HW := Lib.hid hW
        have hq1 : w1.heap.size < V.heap.size := by omega
        have HLK : Hid (((stepsOf ds).take k ++ [(a, b)]).length = k + 1) := by
          show _ = _
          rw [List.length_append, List.length_take, List.length_singleton]
          unfold stepsOf
          rw [List.length_map]
          omega
        have hlb : w1.heap.size < W.heap.size := by omega
        have hm1 : m ≤ 1000 := by omega
        clear hNW hcr hoq hLr hWw hbW hLW hst hgw d1 d2 d3 hcells hgl hgc hcm hm hlen hfn hcs q1 q2 q3 ha hb hW
        go_upto_region 5 with fail
        rw [← HW.out]
        go_wp2_with (at_builtin; go_must (refine wpList_pushS rfl (.tmp 22) (.tmp 25) rfl W V.heap.size (.slice A5 k5 c5) ((stepsOf ds).take k) a b rfl rfl hoW hlS hsW ?_); intro v' w9 ho9 hg9 _; obtain ⟨A9, c9, rfl, _⟩ := ho9.form; rw [HLK.out] at ho9; rw [HLK.out]; have s1 : w9.cell? ⟨w1.heap.size, 1, none⟩ = some (.slice A5 k5 c5) := (hg9.cell_far ⟨w1.heap.size, 1, none⟩ hlb (fun e => by have : V.heap.size ≤ w1.heap.size := (hx5 _ e.symm).1; omega)).trans l2; have s2 : w9.frozen? ⟨w1.heap.size, 1, none⟩ = false := (hg9.frozen_far ⟨w1.heap.size, 1, none⟩ hlb (fun e => by have : V.heap.size ≤ w1.heap.size := (hx5 _ e.symm).1; omega)).trans f2)
        obtain ⟨hWw, hLW, hst⟩ := HY.out
        rw [← hst] at ho9
        have hx9 := ho9.blockOf
        have hL9 : w9.heap[w1.heap.size]? = some (.cells #[.slice A u.length c, .slice A5 k5 c5] 26 (0, 0)) := (hg9.block _ hlb (fun e => by have := (hx5 _ e.symm).1; omega)).trans hLW
        obtain ⟨X, hX⟩ : ∃ X, X = w9.setCell ⟨w1.heap.size, 1, none⟩ (.slice A9 (k + 1) c9) := ⟨_, rfl⟩
        have hgS : w9.grownBy X (some w1.heap.size) := by
          rw [hX]
          exact ⟨rfl, rfl, rfl, by simp [World.setCell], fun i _ hn => Below.heap_setCell w9 ⟨w1.heap.size, 1, none⟩ _ i (fun e => hn (congrArg some e))⟩
        have hLX : X.heap[w1.heap.size]? = some (.cells #[.slice A u.length c, .slice A9 (k + 1) c9] 26 (0, 0)) := by
          rw [hX]
          exact modify_at _ hL9
        have hCX : Chg (fun i => i = w1.heap.size) V X := by
          rw [hX]
          exact (hWw.grown hg9 (fun r e => (hx5 r e).1)).set (B := w1.heap.size) (.inl rfl) 1 _
        have hoX : OwnQ 68 X V.heap.size (.slice A9 (k + 1) c9) ((stepsOf ds).take (k + 1)) := ho9.kept hgS (.inr (fun e => by have : V.heap.size ≤ w1.heap.size := (hx9 _ e).1; omega))
        have hN : Hid ((∃ A5 k5 c5, X.heap[w1.heap.size]? = some (.cells #[.slice A u.length c, .slice A5 k5 c5] 26 (0, 0)) ∧ OwnQ 68 X V.heap.size (.slice A5 k5 c5) ((stepsOf ds).take (k + 1))) ∧ Chg (fun i => i = w1.heap.size) V X) := ⟨⟨_, _, _, hLX, hoX⟩, hCX⟩
        have HX9 := Lib.hid hX
        clear hgS hLX hCX hoX hX
        clear ho9 hg9 hst hWw hLW hL9 hx9 hoW hlS hsW hx5
        go_wp2
        rw [← HX9.out]
        go_roundw
        case rel => exact ⟨k + 1, by omega, by go_num, hN⟩
        case measure => simp [intOf]; omega
    · obtain rfl : k = m := by omega
      have hm := HH.out.2.2.2.2.2.2.2.1
      have hRr := (hcr.block w.heap.size (by omega) (by omega)).trans HX.out.2.2.2.1
      obtain ⟨⟨r1, r2⟩, f1, f2⟩ := boxTwo_cells hRr
      obtain ⟨⟨l1, l2⟩, _⟩ := boxTwo_cells hLr
      rw [List.take_of_length_le (by simp [stepsOf]; omega)] at hoq
      have HY := Lib.hid (And.intro hRr (And.intro hoq hcr))
      clear hRr hoq hcr hLr hm hcs q1 q2 q3
      go_wp2_with fail
      obtain ⟨hRr, hoq, hcr⟩ := HY.out
      obtain ⟨hx, hoV, hbb, _, q1, q2, _⟩ := HX.out
      have q3 := HH.out.2.2.2.1
      have hcs := hcr.size
      have hg := boxTwo_grown wr w.heap.size (.slice A u.length c) (.slice A5 k5 c5)
      obtain ⟨⟨k1, k2⟩, _⟩ := boxTwo_cells (boxTwo_set hRr (.slice A u.length c) (.slice A5 k5 c5))
      refine bodyPost_ret (v := .agg #[.slice A u.length c, .slice A5 k5 c5]) (by simp [results, Try.results34, go_sem, k1, k2]) rfl ?_
      have hx5 := hoq.blockOf
      have hor : Own wr w.heap.size (.slice A u.length c) u := by
        refine hoV.kept (row := some w1.heap.size) ⟨hcr.os, hcr.tape, hcr.output, hcr.size, fun i hi hn => hcr.block i hi (fun e => hn (by rw [e]))⟩ (.inr (fun e => by have := (hx _ e).2; omega))
      refine ⟨_, _, rfl, hor.kept hg (.inr (fun e => by have := (hx _ e).1; omega)), (hoq.less (by omega)).kept hg (.inr (fun e => by have := (hx5 _ e).1; omega)), fun p hp q hq e => ?_, boxTwo_below (hbb.trans (hcr.below (by omega) (fun i hi => by omega))) (Nat.le_refl _) _ _⟩
      have := (hx _ hp).2
      have := (hx5 _ hq).1
      omega
end Go.Proofs.Ytichcnaomcpnhaa
