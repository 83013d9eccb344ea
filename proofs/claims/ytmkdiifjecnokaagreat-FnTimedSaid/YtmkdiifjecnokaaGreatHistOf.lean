/- The history of a log, LogValid of the program. Condition: lengths up to 1048576. -/
import Derived.Test.YtmkdiifjecnokaaGreatHistDo
import Derived.Test.YtmkdiifjecnokaaGreatPairsOk
import Derived.Deep.RegionHeld3
import Derived.Test.YtmkdiifjecnokaaGreatEqRows
import Derived.Test.YtmkdiifjecnokaaGreatPushS
namespace Go.Proofs.YtmkdiifjecnokaaGreat
open Go.RowKit Go.Shelf

def stepsOf (ds : List (Int × Int × Value)) : List (Int × Int) := ds.map fun d => (d.1, d.2.1)
/-- The third of each is a function value. -/
def Fns (ds : List (Int × Int × Value)) : Prop := ∀ k, k < ds.length → ∃ f p q, (ds[k]?.getD (0, 0, .nilFunc)).2.2 = .func f p q
theorem Fns.snoc {ds : List (Int × Int × Value)} (h : Fns ds) {x y : Int} {F : Value} (hF : ∃ f p q, F = .func f p q) : Fns (ds ++ [(x, y, F)]) := fun k hk => by
  rw [List.length_append, List.length_singleton] at hk
  by_cases e : k < ds.length
  · rw [List.getElem?_append_left e]
    exact h k e
  · rw [List.getElem?_append_right (by omega), show k - ds.length = 0 by omega]
    exact hF
set_option maxRecDepth 100000 in
set_option maxHeartbeats 4000000 in
theorem joinItems_any (H J M N n a b : Nat) (sz ht : Nat → Nat) (u : List Int) (D : Value) (ds : List (Int × Int × Value)) (base : Nat) (w : World) (h : HistSt w H J M N n sz ht u D) (ha : a < n) (hb : b < n) (hD : OwnD w base D ds) (hB : H < base) (hBw : base ≤ w.heap.size) (hl : ds.length ≤ 1000) (hfn : Fns ds) :
    Calls Tryz.prog 38 #[.pointer (some ⟨H, 0, none⟩), .agg #[.int .i64 (a : Int), .int .i64 (b : Int)]] w fun e w' =>
      (∃ v, e = .returned v) ∧ ∃ sz' ht' D' ds', HistSt w' H J M N n sz' ht' (joinL u 1 a b) D' ∧ OwnD w' base D' ds' ∧ stepsOf ds' = joinSt u a b (stepsOf ds) ∧ ds'.length ≤ ds.length + 1 ∧ Fns ds' ∧ Chg (fun i => i = N ∨ i = M ∨ i = H ∨ base ≤ i) w w' := by
  obtain ⟨W, hW⟩ : ∃ W, W = w.alloc (.cells #[.int .i64 (a : Int), .int .i64 (b : Int)] 41) := ⟨_, rfl⟩
  have hbW : Below w.heap.size w W := by rw [hW]; exact (Below.refl _ _).alloc (Nat.le_refl _) _
  have hSW := h.below hbW h.lt
  have hDW : OwnD W base D ds := hD.chg (S := fun _ => False) (by rw [hW]; exact (Chg.refl _ _).alloc _) (fun i hi => hi.elim)
  have SF := Lib.hid (stepFor_any H J M N n a b sz ht u D W hSW ha hb)
  have hsW := hbW.size
  obtain ⟨x, hx⟩ : ∃ x, x = stR u a b := ⟨_, rfl⟩
  obtain ⟨y, hy⟩ : ∃ y, y = stT u a b := ⟨_, rfl⟩
  have HH := Lib.hid (And.intro hbW (And.intro hSW hDW))
  have HW := Lib.hid hW
  have HB := Lib.hid (And.intro hB (And.intro hBw hl))
  have hlen := h.len
  have hfv := h.fv
  have HFN := Lib.hid hfn
  clear hfn
  by_cases hpq : rootI u a = rootI u b
  · rw [decide_eq_true hpq, ← hx, ← hy] at SF
    have HJ : Hid (joinL u 1 a b = u ∧ joinSt u a b (stepsOf ds) = stepsOf ds) := by
      refine ⟨?_, ?_⟩
      · unfold joinL; rw [if_pos hpq]
      · unfold joinSt; rw [if_pos hpq]
    clear h ha hb hD hW hbW hSW hDW hx hy hpq hB hBw hl hlen hfv hsW
    go_enter Tryz.func38, Tryz.ntmps38
    go_wp2_with fail
    rw [← HW.out]
    refine SF.out.mono ?_
    rintro e w1 ⟨rfl, hb1⟩
    obtain ⟨V, hV⟩ : ∃ V, V = w1.alloc (.cells #[.int .i64 (x : Int), .int .i64 (y : Int)] 52) := ⟨_, rfl⟩
    have hbV : Below W.heap.size W V := Below.on hb1 (by rw [hV]; exact (Below.refl _ _).alloc (Nat.le_refl _) _)
    have HZ := Lib.hid (And.intro hbV hV)
    clear hb1 hV hbV
    go_wp2_with fail
    go_ret
    rw [HJ.out.1, HJ.out.2]
    rw [← HZ.out.2]
    have hbV := HZ.out.1
    exact ⟨⟨_, rfl⟩, sz, ht, D, ds, HH.out.2.1.below hbV HH.out.2.1.lt, HH.out.2.2.chg (S := fun _ => False) (Chg.of_below hbV) (fun i hi => hi.elim), rfl, by omega, HFN.out, Chg.of_below (Below.on HH.out.1 hbV)⟩
  · have T : Two u (rootI u a) (rootI u b) := roots_two hfv (by omega) (by omega) hpq
    have T2 := low_two T 1
    have h3 : x = lowI u 1 (rootI u a) (rootI u b) := by rw [hx]; unfold stR; rw [if_neg hpq]
    have h4 : y = uppI u 1 (rootI u a) (rootI u b) := by rw [hy]; unfold stT; rw [if_neg hpq]
    rw [← h3, ← h4] at T2
    rw [decide_eq_false hpq, ← hx, ← hy] at SF
    have HJ : Hid (joinL u 1 a b = hang u x y ∧ joinSt u a b (stepsOf ds) = stepsOf ds ++ [((x : Int), (y : Int))]) := by
      refine ⟨?_, ?_⟩
      · unfold joinL; rw [if_neg hpq, joinTo_low, ← h3, ← h4]
      · unfold joinSt; rw [if_neg hpq, ← hx, ← hy]
    have HT := Lib.hid T2
    clear h ha hb hD hW hbW hSW hDW hx hy hpq hB hBw hl hlen hfv T T2 h3 h4 hsW
    go_enter Tryz.func38, Tryz.ntmps38
    go_wp2_with fail
    rw [← HW.out]
    refine SF.out.mono ?_
    rintro e w1 ⟨rfl, hb1⟩
    obtain ⟨V, hV⟩ : ∃ V, V = w1.alloc (.cells #[.int .i64 (x : Int), .int .i64 (y : Int)] 52) := ⟨_, rfl⟩
    have hbV : Below W.heap.size W V := Below.on hb1 (by rw [hV]; exact (Below.refl _ _).alloc (Nat.le_refl _) _)
    have hsV := hbV.size
    have hsW := HH.out.1.size
    have DO := Lib.hid (do_any H J M N n x y sz ht u D ds base V (HH.out.2.1.below hbV HH.out.2.1.lt) HT.out (HH.out.2.2.chg (S := fun _ => False) (Chg.of_below hbV) (fun i hi => hi.elim)) HB.out.1 (by have := HB.out.2.1; omega) HB.out.2.2)
    have HZ := Lib.hid (And.intro hbV hV)
    clear hb1 hV hbV hsV hsW
    go_wp2_with fail
    rw [← HZ.out.2]
    refine DO.out.mono ?_
    rintro e w2 ⟨⟨v, rfl⟩, D', F, hS', hD', ⟨_, _, _, hF, _⟩, hc⟩
    have HQ := Lib.hid (And.intro hS' (And.intro hD' (And.intro hc hF)))
    clear hS' hD' hc hF
    go_wp2_with fail
    go_ret
    obtain ⟨hS', hD', hc, hF⟩ := HQ.out
    rw [HJ.out.1, HJ.out.2]
    refine ⟨⟨_, rfl⟩, _, _, D', _, hS', hD', by simp [stepsOf], by simp, HFN.out.snoc ⟨_, _, _, hF⟩, (Chg.of_below (Below.on HH.out.1 HZ.out.1)).trans (hc.weak (fun i hi => ?_))⟩
    rcases hi with h | h | h | h
    · exact .inl h
    · exact .inr (.inl h)
    · exact .inr (.inr (.inl h))
    · exact .inr (.inr (.inr (World.ownsRow.lt HH.out.2.2 i h).1))
end Go.Proofs.YtmkdiifjecnokaaGreat

namespace Go.Proofs.YtmkdiifjecnokaaGreat
open Go.RowKit Go.Shelf

/-- Each done step's function value undoes it: it holds the sizes and heights of before. -/
inductive Und (w : World) (base M n : Nat) : List (Int × Int × Value) → List Int → (Nat → Nat) → (Nat → Nat) → Prop
  | nil : Und w base M n [] (roots n) (szN (roots n)) (htN (roots n))
  | snoc {ds : List (Int × Int × Value)} {u : List Int} {sz ht : Nat → Nat} {x y : Nat} {F : Value} : Und w base M n ds u sz ht → Two u x y → Undoer w base M x y (sz y) (ht y) F →
      Und w base M n (ds ++ [((x : Int), (y : Int), F)]) (hang u x y) (fun z => if z = y then sz y + sz x else sz z) (fun z => if z = y then max (ht y) (ht x + 1) else ht z)
/-- Blocks of other kinds than done steps stay. -/
def Kinds (w w' : World) (base : Nat) : Prop := ∀ K, base ≤ K → K < w.heap.size → (∀ cs, w.heap[K]? ≠ some (.cells cs 133 (0, 0))) → w'.heap[K]? = w.heap[K]?
theorem Undoer.kinds {w w' : World} {base M x y s t : Nat} {F : Value} (h : Undoer w base M x y s t F) (hk : Kinds w w' base) : Undoer w' base M x y s t F := by
  obtain ⟨K4, K6, K5, hF, b4, b6, b5, l4, l6, l5⟩ := h
  have h4 : w.heap[K4]? = some (.cells #[.pointer (some ⟨M, x * 3, none⟩)] 144 (0, 0)) := b4
  have h5 : w.heap[K5]? = some (.cells #[.pointer (some ⟨M, y * 3, none⟩)] 144 (0, 0)) := b5
  refine ⟨K4, K6, K5, hF, (hk K4 l4 (Array.getElem?_eq_some_iff.1 h4).1 (fun cs e => ?_)).trans b4, (hk K6 l6 (Array.getElem?_eq_some_iff.1 b6).1 (fun cs e => ?_)).trans b6, (hk K5 l5 (Array.getElem?_eq_some_iff.1 h5).1 (fun cs e => ?_)).trans b5, l4, l6, l5⟩
  · rw [h4] at e; simp at e
  · rw [b6] at e; simp at e
  · rw [h5] at e; simp at e
theorem Und.kinds {w w' : World} {base M n : Nat} {ds : List (Int × Int × Value)} {u : List Int} {sz ht : Nat → Nat} (h : Und w base M n ds u sz ht) (hk : Kinds w w' base) : Und w' base M n ds u sz ht := by
  induction h with
  | nil => exact .nil
  | snoc _ T hU ih => exact .snoc ih T (hU.kinds hk)
theorem Und.keep {w w' : World} {base M n : Nat} {ds : List (Int × Int × Value)} {u : List Int} {sz ht : Nat → Nat} (h : Und w base M n ds u sz ht) (hb : Below w.heap.size w w') : Und w' base M n ds u sz ht :=
  h.kinds fun K _ hl _ => hb.block K hl
/-- When a step has been done. -/
theorem Und.done {w w' : World} {base H M N n : Nat} {D : Value} {ds : List (Int × Int × Value)} {u : List Int} {sz ht : Nat → Nat} (h : Und w base M n ds u sz ht) (hD : OwnD w base D ds) (hH : H < base) (hM : M < base) (hN : N < base) (hc : Chg (fun i => i = N ∨ i = M ∨ i = H ∨ D.ownBlock = some i) w w') : Und w' base M n ds u sz ht :=
  h.kinds fun K hK hl hno => hc.block K hl (fun hi => by
    rcases hi with e | e | e | e
    · omega
    · omega
    · omega
    · rcases hD.2 with ⟨hv, _⟩ | ⟨g, cap, cur, hv, _, hh, _⟩
      · rw [hv] at e; cases e
      · rw [hv] at e
        have e1 : g = K := by simpa [Value.ownBlock] using e
        subst e1
        exact hno cur hh)
end Go.Proofs.YtmkdiifjecnokaaGreat

namespace Go.Proofs.YtmkdiifjecnokaaGreat
open Go.RowKit Go.Shelf

theorem rdq_one (w : World) (x y : Int) : RdQ (w.alloc (.cells #[.int .i64 x, .int .i64 y] 41)) (w.alloc (.cells #[.int .i64 x, .int .i64 y] 41)).heap.size (some ⟨w.heap.size, 0, none⟩) 1 [(x, y)] := by
  refine ⟨rfl, fun _ => ⟨_, 0, rfl, by simp, fun k hk => ?_⟩⟩
  obtain rfl : k = 0 := by omega
  obtain ⟨c1, c2⟩ := pair_cells w x y
  exact ⟨c1, c2⟩
theorem rdq_oneD (w : World) (x y : Int) : RdQ (w.alloc (.cells #[.int .i64 x, .int .i64 y] 41)).drew (w.alloc (.cells #[.int .i64 x, .int .i64 y] 41)).drew.heap.size (some ⟨w.heap.size, 0, none⟩) 1 [(x, y)] := rdq_one w x y
theorem okStep_rep {u : List Int} (hv : fvB u = true) {a b : Nat} (ha : a < u.length) (hb : b < u.length) :
    (rootI u a = rootI u b → okStep u ((a : Int), (b : Int)) = false) ∧ (rootI u a ≠ rootI u b → okStep u ((a : Int), (b : Int)) = decide (stR u a b = a ∧ stT u a b = b)) := by
  have key : okStep u ((a : Int), (b : Int)) = true → rootI u a ≠ rootI u b ∧ stR u a b = a ∧ stT u a b = b := fun h => by
    obtain ⟨T, _⟩ := okStep_two hv h
    obtain ⟨_, _, h3, _, _, h6⟩ := okStep_parts h
    have T' : Two u a b := T
    have ra : rootI u a = a := rootI_root T'.fv T'.rp
    have rb : rootI u b = b := rootI_root T'.fv T'.rq
    have hne : rootI u a ≠ rootI u b := by rw [ra, rb]; exact T'.ne
    refine ⟨hne, ?_, ?_⟩
    · unfold stR lowI
      rw [if_neg hne, ra, rb]
      exact if_pos h6
    · unfold stT uppI
      rw [if_neg hne, ra, rb]
      exact if_pos h6
  refine ⟨fun e => ?_, fun hne => ?_⟩
  · cases h : okStep u ((a : Int), (b : Int)) with
    | false => rfl
    | true => exact ((key h).1 e).elim
  · cases h : okStep u ((a : Int), (b : Int)) with
    | true => rw [decide_eq_true (key h).2]
    | false =>
      refine (decide_eq_false fun e => ?_).symm
      have := (ok_join hv ha hb hne).1
      rw [e.1, e.2, h] at this
      cases this
end Go.Proofs.YtmkdiifjecnokaaGreat
namespace Go.Proofs.YtmkdiifjecnokaaGreat
open Go.RowKit Go.Shelf
/-- How many of the first k items are roots. -/
def rts (u : List Int) (k : Nat) : Nat := ((List.range k).filter fun i : Nat => u[i]?.getD 0 == (i : Int)).length
theorem rts_succ (u : List Int) (k : Nat) : rts u (k + 1) = rts u k + (if u[k]?.getD 0 = (k : Int) then 1 else 0) := by
  unfold rts
  rw [List.range_succ, List.filter_append, List.length_append]
  by_cases h : u[k]?.getD 0 = (k : Int)
  · rw [if_pos h]; simp [h]
  · rw [if_neg h]; simp [h]
theorem rts_le (u : List Int) (k : Nat) : rts u k ≤ k := by
  unfold rts
  exact Nat.le_trans (List.length_filter_le _ _) (by rw [List.length_range]; exact Nat.le_refl _)
theorem rts_hang {u : List Int} {p q : Nat} (T : Two u p q) : ∀ k, rts (hang u p q) k + (if p < k then 1 else 0) = rts u k
  | 0 => rfl
  | k + 1 => by
    have ih := rts_hang T k
    rw [rts_succ, rts_succ]
    by_cases e : k = p
    · subst e
      have h1 : u[k]?.getD 0 = (k : Int) := isroot_link T.rp
      have h2 : (hang u k q)[k]?.getD 0 = (q : Int) := by
        unfold hang
        rw [List.getElem?_set_self T.hp]
        rfl
      have hne := T.ne
      rw [if_neg (by omega)] at ih
      rw [if_neg (by rw [h2]; omega), if_pos (by omega), if_pos h1]
      omega
    · rw [hang_off e]
      by_cases h : p < k
      · rw [if_pos h] at ih
        rw [if_pos (show p < k + 1 by omega)]
        omega
      · rw [if_neg h] at ih
        rw [if_neg (show ¬ p < k + 1 by omega)]
        omega
theorem built_count {v : List Int} : ∀ {ss : List (Int × Int)} {u : List Int}, fvB u = true → builtL u ss = some v → ss.length + rts v u.length = rts u u.length
  | [], u, _, h => by
    have h' : some u = some v := h
    injection h' with e
    subst e
    simp
  | s :: ss, u, hv, h => by
    rw [builtL_cons] at h
    split at h
    · rename_i hk
      obtain ⟨T, e⟩ := okStep_two hv hk
      rw [e] at h
      have h1 := built_count (hang_fv T) h
      have h2 := rts_hang T u.length
      rw [if_pos T.hp] at h2
      rw [hang_len] at h1
      rw [List.length_cons]
      omega
    · cases h
theorem built_short {n : Nat} (h1 : 1 ≤ n) (h16 : n ≤ 16) {ss : List (Int × Int)} {v : List Int} (h : builtL (roots n) ss = some v) : ss.length ≤ 16 := by
  have h2 := built_count (roots_fv h1 h16) h
  have h3 := rts_le (roots n) (roots n).length
  rw [roots_len] at h2 h3
  omega
theorem stepsOf_len (ds : List (Int × Int × Value)) : (stepsOf ds).length = ds.length := by simp [stepsOf]
end Go.Proofs.YtmkdiifjecnokaaGreat
namespace Go.Proofs.YtmkdiifjecnokaaGreat
open Go.RowKit Go.Shelf
theorem dcells_get : ∀ {ds : List (Int × Int × Value)} {k : Nat}, k < ds.length → (dcells ds)[k * 3]? = some (.int .i64 (ds[k]?.getD (0, 0, .nilFunc)).1) ∧ (dcells ds)[k * 3 + 1]? = some (.int .i64 (ds[k]?.getD (0, 0, .nilFunc)).2.1) ∧ (dcells ds)[k * 3 + 2]? = some (ds[k]?.getD (0, 0, .nilFunc)).2.2
  | [], _, h => by simp at h
  | d :: ds, 0, _ => by simp [dcells]
  | d :: ds, k + 1, h => by
    have ih := dcells_get (ds := ds) (k := k) (by simpa using h)
    have e : dcells (d :: ds) = Value.int .i64 d.1 :: Value.int .i64 d.2.1 :: d.2.2 :: dcells ds := by simp [dcells]
    rw [e, show (k + 1) * 3 = k * 3 + 1 + 1 + 1 by omega]
    simpa using ih
/-- The cells of one done step. -/
theorem OwnD.cells {w : World} {base : Nat} {v : Value} {ds : List (Int × Int × Value)} (h : OwnD w base v ds) : (ds = [] ∧ v = .slice none 0 0) ∨ ∃ g c, v = .slice (some ⟨g, 0, none⟩) ds.length c ∧ ds.length ≤ c ∧ c ≤ maxLen ∧ ∀ k, k < ds.length → w.cell? ⟨g, k * 3, none⟩ = some (.int .i64 (ds[k]?.getD (0, 0, .nilFunc)).1) ∧ w.cell? ⟨g, k * 3 + 1, none⟩ = some (.int .i64 (ds[k]?.getD (0, 0, .nilFunc)).2.1) ∧ w.cell? ⟨g, k * 3 + 2, none⟩ = some (ds[k]?.getD (0, 0, .nilFunc)).2.2 := by
  rcases h.2 with ⟨hv, hx⟩ | ⟨g, cap, cur, hv, hbase, hh, hnc, hm, hsz, hcells⟩
  · exact .inl ⟨by simpa using hx, hv⟩
  · refine .inr ⟨g, cap, hv, by omega, by omega, fun k hk => ?_⟩
    obtain ⟨h1, h2, h3⟩ := dcells_get hk
    have c1 := World.ownsRow.cells h (g := g) (by rw [hv]; rfl) _ _ h1
    have c2 := World.ownsRow.cells h (g := g) (by rw [hv]; rfl) _ _ h2
    have c3 := World.ownsRow.cells h (g := g) (by rw [hv]; rfl) _ _ h3
    rw [add_zero_at, Nat.zero_add] at c1 c2 c3
    exact ⟨c1, c2, c3⟩
theorem steps_take {ds : List (Int × Int × Value)} {k : Nat} (h : k < ds.length) : (stepsOf ds).take (k + 1) = (stepsOf ds).take k ++ [((ds[k]?.getD (0, 0, .nilFunc)).1, (ds[k]?.getD (0, 0, .nilFunc)).2.1)] := by
  unfold stepsOf
  rw [← List.map_take, ← List.map_take, List.take_succ_eq_append_getElem h, List.map_append, List.getElem?_eq_getElem h]
  rfl
set_option maxRecDepth 100000 in
set_option maxHeartbeats 4000000 in
theorem log_any (H J M N n : Nat) (sz ht : Nat → Nat) (u : List Int) (D : Value) (ds : List (Int × Int × Value)) (base : Nat) (w : World) (h : HistSt w H J M N n sz ht u D) (hD : OwnD w base D ds) (hfn : Fns ds) (hl : ds.length ≤ 1000) :
    Calls Tryz.prog 39 #[.pointer (some ⟨H, 0, none⟩)] w fun e w' => ∃ v v2, e = .returned (.agg #[v, v2]) ∧ Own w' w.heap.size v u ∧ OwnQ 52 w' w.heap.size v2 (stepsOf ds) ∧ (∀ x, v.ownBlock = some x → ∀ y, v2.ownBlock = some y → x ≠ y) ∧ Below w.heap.size w w' := by
  have hlt := h.lt
  have h16 := (fv_parts h.fv).2.1
  obtain ⟨W0, hW0⟩ : ∃ W0, W0 = w.alloc (.cells #[.slice none 0 0, .slice none 0 0] 47) := ⟨_, rfl⟩
  have hb0 : Below w.heap.size w W0 := by rw [hW0]; exact log_box w _ _
  have hS0 := h.below hb0 hlt
  have FO := Lib.hid (forest_any J M N n sz ht u W0 hS0.mem hS0.box hS0.nd h.fv h.len (by have := h.len; omega))
  obtain ⟨⟨a1, a2⟩, _⟩ := boxTwo_cells hS0.at_
  have hR : W0.heap[w.heap.size]? = some (.cells #[.slice none 0 0, .slice none 0 0] 47 (0, 0)) := by rw [hW0]; exact World.alloc_heap_new w _
  have h0s : W0.heap.size = w.heap.size + 1 := by rw [hW0]; simp
  have hDlt := World.ownsRow.lt hD
  obtain ⟨m, hm⟩ : ∃ m, m = ds.length := ⟨_, rfl⟩
  obtain ⟨A0, c0, hDf⟩ : ∃ A c, D = .slice A m c := by
    rcases hD.cells with ⟨e1, e2⟩ | ⟨g, c, e, _⟩
    · subst e1
      exact ⟨_, _, by rw [hm, e2]; rfl⟩
    · exact ⟨_, _, by rw [hm]; exact e⟩
  subst hDf
  have hDc := hD.cells
  have HH := Lib.hid (And.intro hS0.at_ (And.intro hb0 (And.intro hR (And.intro h0s (And.intro hlt (And.intro hDlt (And.intro hDc (And.intro hm (And.intro hl hfn)))))))))
  have HW0 := Lib.hid hW0
  have a1' : (w.alloc (.cells #[.slice none 0 0, .slice none 0 0] 47)).cell? ⟨H, 0, none⟩ = some (.pointer (some ⟨J, 0, none⟩)) := by rw [← hW0]; exact a1
  clear h hD hl hfn h16 hb0 hS0 hR h0s hW0 a1 a2 hDlt hDc hm hlt
  go_enter Tryz.func39, Tryz.ntmps39
  go_wp2_with fail
  rw [← HW0.out]
  refine FO.out.mono ?_
  rintro e w1 ⟨v, rfl, ho, hb1⟩
  obtain ⟨A, c, rfl, _⟩ := ho.form
  obtain ⟨V, hV⟩ : ∃ V, V = w1.alloc (.cells #[.slice A u.length c, .slice none 0 0] 47) := ⟨_, rfl⟩
  have hbV : Below w1.heap.size w1 V := by rw [hV]; exact log_box w1 _ _
  have hs1 := hb1.size
  have hsV : V.heap.size = w1.heap.size + 1 := by rw [hV]; simp
  have h0s := HH.out.2.2.2.1
  have hHlt := HH.out.2.2.2.2.1
  obtain ⟨⟨b1, b2⟩, _⟩ := boxTwo_cells (show HistAt V H J (.slice A0 m c0) from (hbV.block H (by omega)).trans ((hb1.block H (by omega)).trans HH.out.1))
  have hRV : V.heap[w.heap.size]? = some (.cells #[.slice none 0 0, .slice none 0 0] 47 (0, 0)) := (hbV.block _ (by omega)).trans ((hb1.block _ (by omega)).trans HH.out.2.2.1)
  have hLV : V.heap[w1.heap.size]? = some (.cells #[.slice A u.length c, .slice none 0 0] 47 (0, 0)) := by rw [hV]; exact World.alloc_heap_new w1 _
  have hoV : Own V w.heap.size (.slice A u.length c) u := (ho.keep hbV (Nat.le_refl _)).less (by omega)
  have hbb : Below w.heap.size w V := Below.on (Below.on HH.out.2.1 hb1) hbV
  have hx := ho.blockOf
  have HX := Lib.hid (And.intro hx (And.intro hoV (And.intro hbb (And.intro hRV (And.intro hsV (And.intro hs1 hbV.size))))))
  have HV := Lib.hid hV
  rw [hV] at b2
  have HL : Hid (∃ A5 k5 c5, V.heap[w1.heap.size]? = some (.cells #[.slice A u.length c, .slice A5 k5 c5] 47 (0, 0)) ∧ OwnQ 52 V V.heap.size (.slice A5 k5 c5) ((stepsOf ds).take 0)) := ⟨_, _, _, hLV, OwnQ.nil _ _ _⟩
  clear ho hb1 hV hbV hRV hoV hbb b1 hx hLV hs1 hsV h0s hHlt
  go_wp2_with fail
  rw [← HV.out]
  clear b2
  go_loopw [17] (fun i wr => ∃ k : Nat, k ≤ m ∧ i = .int .i64 (k : Int) ∧ Hid ((∃ A5 k5 c5, wr.heap[w1.heap.size]? = some (.cells #[.slice A u.length c, .slice A5 k5 c5] 47 (0, 0)) ∧ OwnQ 52 wr V.heap.size (.slice A5 k5 c5) ((stepsOf ds).take k)) ∧ Chg (fun i => i = w1.heap.size) V wr)) (fun i _ => m - (intOf i).toNat)
  case atStart => exact ⟨0, by omega, rfl, HL.out, Chg.refl _ _⟩
  case round =>
    obtain ⟨k, hkm, rfl, HQ⟩ := hrel
    obtain ⟨⟨A5, k5, c5, hLr, hoq⟩, hcr⟩ := HQ.out
    clear HQ HL
    have hcs := hcr.size
    have q1 := HX.out.2.2.2.2.1
    have q2 := HX.out.2.2.2.2.2.1
    have q3 := HH.out.2.2.2.1
    by_cases hlt : k < m
    · have hm := HH.out.2.2.2.2.2.2.2.1
      have hlen := HH.out.2.2.2.2.2.2.2.2.1
      have hfn := HH.out.2.2.2.2.2.2.2.2.2
      rcases HH.out.2.2.2.2.2.2.1 with ⟨e1, _⟩ | ⟨g, cg, e2, hgc, hcm, hcells⟩
      · rw [e1] at hm
        simp at hm
        omega
      · rw [← hm] at e2 hgc
        injection e2 with e3 _ e4
        subst e3 e4
        have hgl := (HH.out.2.2.2.2.2.1 g rfl).2
        obtain ⟨d1, d2, d3⟩ := hcells k (by omega)
        have hgw : wr.heap[g]? = w.heap[g]? := (hcr.block g (by omega) (by omega)).trans (HX.out.2.2.1.block g hgl)
        have g1 := (World.cell?_of_block (a := ⟨g, k * 3, none⟩) hgw).trans d1
        have g2 := (World.cell?_of_block (a := ⟨g, k * 3 + 1, none⟩) hgw).trans d2
        have g3 := (World.cell?_of_block (a := ⟨g, k * 3 + 1 + 1, none⟩) hgw).trans d3
        have hst := steps_take (ds := ds) (k := k) (by omega)
        obtain ⟨a, ha⟩ : ∃ a, a = (ds[k]?.getD (0, 0, .nilFunc)).1 := ⟨_, rfl⟩
        obtain ⟨b, hb⟩ : ∃ b, b = (ds[k]?.getD (0, 0, .nilFunc)).2.1 := ⟨_, rfl⟩
        obtain ⟨F, hF⟩ : ∃ F, F = (ds[k]?.getD (0, 0, .nilFunc)).2.2 := ⟨_, rfl⟩
        rw [← ha] at g1 hst
        rw [← hb] at g2 hst
        rw [← hF] at g3
        obtain ⟨ff, fp, fq, hff⟩ := hfn k (by omega)
        rw [← hF] at hff
        subst hff
        clear hF
        unfold maxLen at hcm
        have hkk : (k : Int) < (m : Int) := by omega
        have hkc : (k : Int) ≤ (c0 : Int) := by omega
        have hkc1 : (k : Int) + 1 ≤ (c0 : Int) := by omega
        obtain ⟨W, hW⟩ : ∃ W, W = wr.alloc (.cells #[.int .i64 a, .int .i64 b, .func ff fp fq] 133) := ⟨_, rfl⟩
        have hWw : Chg (fun i => i = w1.heap.size) V W := by rw [hW]; exact hcr.alloc _
        have hbW : Below wr.heap.size wr W := by rw [hW]; exact (Below.refl _ _).alloc (Nat.le_refl _) _
        have hLW : W.heap[w1.heap.size]? = some (.cells #[.slice A u.length c, .slice A5 k5 c5] 47 (0, 0)) := (hbW.block _ (by omega)).trans hLr
        obtain ⟨⟨_, l2⟩, _, f2⟩ := boxTwo_cells hLW
        have hNW : W.heap[wr.heap.size]? = some (.cells #[.int .i64 a, .int .i64 b, .func ff fp fq] 133 (0, 0)) := by rw [hW]; exact World.alloc_heap_new wr _
        have t1 : W.cell? ⟨wr.heap.size, 0, none⟩ = some (.int .i64 a) := by simp [World.cell?, hNW]
        have t2 : W.cell? ⟨wr.heap.size, 1, none⟩ = some (.int .i64 b) := by simp [World.cell?, hNW]
        have hoW : OwnQ 52 W V.heap.size (.slice A5 k5 c5) ((stepsOf ds).take k) := hoq.keep hbW (Nat.le_refl _)
        have hsW : V.heap.size ≤ W.heap.size := Nat.le_trans hcs hbW.size
        have hlS : ((stepsOf ds).take k).length ≤ 1048576 := by rw [List.length_take]; omega
        have hx5 := hoW.blockOf
        have HY := Lib.hid (And.intro hWw (And.intro hLW hst))
        have HW := Lib.hid hW
        have hq1 : w1.heap.size < V.heap.size := by omega
        have HLK : Hid (((stepsOf ds).take k ++ [(a, b)]).length = k + 1) := by
          show _ = _
          rw [List.length_append, List.length_take, List.length_singleton]
          unfold stepsOf
          rw [List.length_map]
          omega
        have hlb : w1.heap.size < W.heap.size := by omega
        have hm1 : m ≤ 1000 := by omega
        clear hNW hcr hoq hLr hWw hbW hLW hst hgw d1 d2 d3 hcells hgl hgc hcm hm hlen hfn hcs q1 q2 q3 ha hb hW
        go_upto_region 5 with fail
        rw [← HW.out]
        go_wp2_with (at_builtin; go_must (refine wpList_pushS rfl (.tmp 22) (.tmp 25) rfl W V.heap.size (.slice A5 k5 c5) ((stepsOf ds).take k) a b rfl rfl hoW hlS hsW ?_); intro v' w9 ho9 hg9 _; obtain ⟨A9, c9, rfl, _⟩ := ho9.form; rw [HLK.out] at ho9; rw [HLK.out]; have s1 : w9.cell? ⟨w1.heap.size, 1, none⟩ = some (.slice A5 k5 c5) := (hg9.cell_far ⟨w1.heap.size, 1, none⟩ hlb (fun e => by have : V.heap.size ≤ w1.heap.size := (hx5 _ e.symm).1; omega)).trans l2; have s2 : w9.frozen? ⟨w1.heap.size, 1, none⟩ = false := (hg9.frozen_far ⟨w1.heap.size, 1, none⟩ hlb (fun e => by have : V.heap.size ≤ w1.heap.size := (hx5 _ e.symm).1; omega)).trans f2)
        obtain ⟨hWw, hLW, hst⟩ := HY.out
        rw [← hst] at ho9
        have hx9 := ho9.blockOf
        have hL9 : w9.heap[w1.heap.size]? = some (.cells #[.slice A u.length c, .slice A5 k5 c5] 47 (0, 0)) := (hg9.block _ hlb (fun e => by have := (hx5 _ e.symm).1; omega)).trans hLW
        obtain ⟨X, hX⟩ : ∃ X, X = w9.setCell ⟨w1.heap.size, 1, none⟩ (.slice A9 (k + 1) c9) := ⟨_, rfl⟩
        have hgS : w9.grownBy X (some w1.heap.size) := by
          rw [hX]
          exact ⟨rfl, rfl, rfl, by simp [World.setCell], fun i _ hn => Below.heap_setCell w9 ⟨w1.heap.size, 1, none⟩ _ i (fun e => hn (congrArg some e))⟩
        have hLX : X.heap[w1.heap.size]? = some (.cells #[.slice A u.length c, .slice A9 (k + 1) c9] 47 (0, 0)) := by
          rw [hX]
          exact modify_at _ hL9
        have hCX : Chg (fun i => i = w1.heap.size) V X := by
          rw [hX]
          exact (hWw.grown hg9 (fun r e => (hx5 r e).1)).set (B := w1.heap.size) (.inl rfl) 1 _
        have hoX : OwnQ 52 X V.heap.size (.slice A9 (k + 1) c9) ((stepsOf ds).take (k + 1)) := ho9.kept hgS (.inr (fun e => by have : V.heap.size ≤ w1.heap.size := (hx9 _ e).1; omega))
        have hN : Hid ((∃ A5 k5 c5, X.heap[w1.heap.size]? = some (.cells #[.slice A u.length c, .slice A5 k5 c5] 47 (0, 0)) ∧ OwnQ 52 X V.heap.size (.slice A5 k5 c5) ((stepsOf ds).take (k + 1))) ∧ Chg (fun i => i = w1.heap.size) V X) := ⟨⟨_, _, _, hLX, hoX⟩, hCX⟩
        have HX9 := Lib.hid hX
        clear hgS hLX hCX hoX hX
        clear ho9 hg9 hst hWw hLW hL9 hx9 hoW hlS hsW hx5
        go_wp2
        rw [← HX9.out]
        go_roundw
        case rel => exact ⟨k + 1, by omega, by go_num, hN⟩
        case measure => simp [intOf]; omega
    · obtain rfl : k = m := by omega
      have hm := HH.out.2.2.2.2.2.2.2.1
      have hRr := (hcr.block w.heap.size (by omega) (by omega)).trans HX.out.2.2.2.1
      obtain ⟨⟨r1, r2⟩, f1, f2⟩ := boxTwo_cells hRr
      obtain ⟨⟨l1, l2⟩, _⟩ := boxTwo_cells hLr
      rw [List.take_of_length_le (by simp [stepsOf]; omega)] at hoq
      have HY := Lib.hid (And.intro hRr (And.intro hoq hcr))
      clear hRr hoq hcr hLr hm hcs q1 q2 q3
      go_wp2_with fail
      obtain ⟨hRr, hoq, hcr⟩ := HY.out
      obtain ⟨hx, hoV, hbb, _, q1, q2, _⟩ := HX.out
      have q3 := HH.out.2.2.2.1
      have hcs := hcr.size
      have hg := boxTwo_grown wr w.heap.size (.slice A u.length c) (.slice A5 k5 c5)
      obtain ⟨⟨k1, k2⟩, _⟩ := boxTwo_cells (boxTwo_set hRr (.slice A u.length c) (.slice A5 k5 c5))
      refine bodyPost_ret (v := .agg #[.slice A u.length c, .slice A5 k5 c5]) (by simp [results, Tryz.results39, go_sem, k1, k2]) rfl ?_
      have hx5 := hoq.blockOf
      have hor : Own wr w.heap.size (.slice A u.length c) u := by
        refine hoV.kept (row := some w1.heap.size) ⟨hcr.os, hcr.tape, hcr.output, hcr.size, fun i hi hn => hcr.block i hi (fun e => hn (by rw [e]))⟩ (.inr (fun e => by have := (hx _ e).2; omega))
      refine ⟨_, _, rfl, hor.kept hg (.inr (fun e => by have := (hx _ e).1; omega)), (hoq.less (by omega)).kept hg (.inr (fun e => by have := (hx5 _ e).1; omega)), fun p hp q hq e => ?_, boxTwo_below (hbb.trans (hcr.below (by omega) (fun i hi => by omega))) (Nat.le_refl _) _ _⟩
      have := (hx _ hp).2
      have := (hx5 _ hq).1
      omega
end Go.Proofs.YtmkdiifjecnokaaGreat
