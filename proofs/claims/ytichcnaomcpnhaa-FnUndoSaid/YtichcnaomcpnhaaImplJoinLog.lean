/- JoinLog of the program. Condition: lengths up to 1048576. -/
import Derived.Test.YtichcnaomcpnhaaHistOf
import Derived.Test.YtichcnaomcpnhaaSpecCopy
namespace Go.Proofs.Ytichcnaomcpnhaa
open Go.RowKit Go.Shelf

set_option maxRecDepth 100000 in
set_option maxHeartbeats 4000000 in
theorem joinItemsB_any (H J M N n a b : Nat) (sz ht : Nat → Nat) (u : List Int) (D : Value) (ds : List (Int × Int × Value)) (base : Nat) (w : World) (h : HistSt w H J M N n sz ht u D) (ha : a < n) (hb : b < n) (hD : OwnD w base D ds) (hB : H < base) (hBw : base ≤ w.heap.size) (hl : ds.length ≤ 1000) (hfn : Fns ds) :
    Calls Try.prog 33 #[.pointer (some ⟨H, 0, none⟩), .agg #[.int .i64 (a : Int), .int .i64 (b : Int)]] w fun e w' =>
      e = .returned (.bool (!decide (rootI u a = rootI u b))) ∧ ∃ sz' ht' D' ds', HistSt w' H J M N n sz' ht' (joinL u 1 a b) D' ∧ OwnD w' base D' ds' ∧ stepsOf ds' = joinSt u a b (stepsOf ds) ∧ ds'.length ≤ ds.length + 1 ∧ Fns ds' ∧ Chg (fun i => i = N ∨ i = M ∨ i = H ∨ base ≤ i) w w' := by
  obtain ⟨W, hW⟩ : ∃ W, W = w.alloc (.cells #[.int .i64 (a : Int), .int .i64 (b : Int)] 59) := ⟨_, rfl⟩
  have hbW : Below w.heap.size w W := by rw [hW]; exact (Below.refl _ _).alloc (Nat.le_refl _) _
  have hSW := h.below hbW h.lt
  have hDW : OwnD W base D ds := hD.chg (S := fun _ => False) (by rw [hW]; exact (Chg.refl _ _).alloc _) (fun i hi => hi.elim)
  have SF := Lib.hid (stepFor_any H J M N n a b sz ht u D W hSW ha hb)
  have hsW := hbW.size
  obtain ⟨x, hx⟩ : ∃ x, x = stR u a b := ⟨_, rfl⟩
  obtain ⟨y, hy⟩ : ∃ y, y = stT u a b := ⟨_, rfl⟩
  have HH := Lib.hid (And.intro hbW (And.intro hSW hDW))
  have HW := Lib.hid hW
  have HB := Lib.hid (And.intro hB (And.intro hBw hl))
  have hlen := h.len
  have hfv := h.fv
  have HFN := Lib.hid hfn
  clear hfn
  by_cases hpq : rootI u a = rootI u b
  · rw [decide_eq_true hpq, ← hx, ← hy] at SF
    rw [decide_eq_true hpq]
    have HJ : Hid (joinL u 1 a b = u ∧ joinSt u a b (stepsOf ds) = stepsOf ds) := by
      refine ⟨?_, ?_⟩
      · unfold joinL; rw [if_pos hpq]
      · unfold joinSt; rw [if_pos hpq]
    clear h ha hb hD hW hbW hSW hDW hx hy hpq hB hBw hl hlen hfv hsW
    go_enter Try.func33, Try.ntmps33
    go_wp2_with fail
    rw [← HW.out]
    refine SF.out.mono ?_
    rintro e w1 ⟨rfl, hb1⟩
    obtain ⟨V, hV⟩ : ∃ V, V = w1.alloc (.cells #[.int .i64 (x : Int), .int .i64 (y : Int)] 68) := ⟨_, rfl⟩
    have hbV : Below W.heap.size W V := Below.on hb1 (by rw [hV]; exact (Below.refl _ _).alloc (Nat.le_refl _) _)
    have HZ := Lib.hid (And.intro hbV hV)
    clear hb1 hV hbV
    go_wp2_with fail
    go_ret
    rw [HJ.out.1, HJ.out.2]
    rw [← HZ.out.2]
    have hbV := HZ.out.1
    exact ⟨rfl, sz, ht, D, ds, HH.out.2.1.below hbV HH.out.2.1.lt, HH.out.2.2.chg (S := fun _ => False) (Chg.of_below hbV) (fun i hi => hi.elim), rfl, by omega, HFN.out, Chg.of_below (Below.on HH.out.1 hbV)⟩
  · have T : Two u (rootI u a) (rootI u b) := roots_two hfv (by omega) (by omega) hpq
    have T2 := low_two T 1
    have h3 : x = lowI u 1 (rootI u a) (rootI u b) := by rw [hx]; unfold stR; rw [if_neg hpq]
    have h4 : y = uppI u 1 (rootI u a) (rootI u b) := by rw [hy]; unfold stT; rw [if_neg hpq]
    rw [← h3, ← h4] at T2
    rw [decide_eq_false hpq, ← hx, ← hy] at SF
    rw [decide_eq_false hpq]
    have HJ : Hid (joinL u 1 a b = hang u x y ∧ joinSt u a b (stepsOf ds) = stepsOf ds ++ [((x : Int), (y : Int))]) := by
      refine ⟨?_, ?_⟩
      · unfold joinL; rw [if_neg hpq, joinTo_low, ← h3, ← h4]
      · unfold joinSt; rw [if_neg hpq, ← hx, ← hy]
    have HT := Lib.hid T2
    clear h ha hb hD hW hbW hSW hDW hx hy hpq hB hBw hl hlen hfv T T2 h3 h4 hsW
    go_enter Try.func33, Try.ntmps33
    go_wp2_with fail
    rw [← HW.out]
    refine SF.out.mono ?_
    rintro e w1 ⟨rfl, hb1⟩
    obtain ⟨V, hV⟩ : ∃ V, V = w1.alloc (.cells #[.int .i64 (x : Int), .int .i64 (y : Int)] 68) := ⟨_, rfl⟩
    have hbV : Below W.heap.size W V := Below.on hb1 (by rw [hV]; exact (Below.refl _ _).alloc (Nat.le_refl _) _)
    have hsV := hbV.size
    have hsW := HH.out.1.size
    have DO := Lib.hid (do_any H J M N n x y sz ht u D ds base V (HH.out.2.1.below hbV HH.out.2.1.lt) HT.out (HH.out.2.2.chg (S := fun _ => False) (Chg.of_below hbV) (fun i hi => hi.elim)) HB.out.1 (by have := HB.out.2.1; omega) HB.out.2.2)
    have HZ := Lib.hid (And.intro hbV hV)
    clear hb1 hV hbV hsV hsW
    go_wp2_with fail
    rw [← HZ.out.2]
    refine DO.out.mono ?_
    rintro e w2 ⟨⟨v, rfl⟩, D', F, hS', hD', ⟨_, _, _, hF, _⟩, hc⟩
    have HQ := Lib.hid (And.intro hS' (And.intro hD' (And.intro hc hF)))
    clear hS' hD' hc hF
    go_wp2_with fail
    go_ret
    obtain ⟨hS', hD', hc, hF⟩ := HQ.out
    rw [HJ.out.1, HJ.out.2]
    refine ⟨rfl, _, _, D', _, hS', hD', by simp [stepsOf], by simp, HFN.out.snoc ⟨_, _, _, hF⟩, (Chg.of_below (Below.on HH.out.1 HZ.out.1)).trans (hc.weak (fun i hi => ?_))⟩
    rcases hi with h | h | h | h
    · exact .inl h
    · exact .inr (.inl h)
    · exact .inr (.inr (.inl h))
    · exact .inr (.inr (.inr (World.ownsRow.lt HH.out.2.2 i h).1))
theorem jlB_valid {xs : List Int} {ss : List (Int × Int)} (hv : logV xs ss = true) (a b : Nat) (ha : a < xs.length) (hb : b < xs.length) : jlB xs ss (a : Int) (b : Int) = !decide (rootI xs a = rootI xs b) := by
  obtain ⟨_, _, hf⟩ := logV_parts hv
  have ia : itemB xs (a : Int) = true := item_of hf (by omega) (by omega)
  have ib : itemB xs (b : Int) = true := item_of hf (by omega) (by omega)
  unfold jlB
  rw [hv, ia, ib, rootN_yes ia, rootN_yes ib]
  by_cases e : rootI xs a = rootI xs b
  · simp [e]
  · rw [decide_eq_false e, decide_eq_false (by omega)]
    rfl
theorem jlB_out {xs : List Int} {ss : List (Int × Int)} {a b : Int} (h : okQ (xs.length : Int) [(a, b)] = false) : jlB xs ss a b = false := by
  cases e : jlB xs ss a b with
  | false => rfl
  | true =>
    unfold jlB itemB at e
    simp only [Bool.and_eq_true, decide_eq_true_eq] at e
    rw [okQ_of (by simp) (fun p hp => by simp at hp; subst hp; exact ⟨e.1.1.2.2, e.1.2.2⟩)] at h
    cases h
theorem jl_none {xs : List Int} {ss : List (Int × Int)} {a b : Int} (h : jlB xs ss a b = false) : jlUp xs ss a b = [] ∧ jlSt xs ss a b = [] := by
  unfold jlUp jlSt
  rw [h]
  exact ⟨rfl, rfl⟩
set_option maxRecDepth 100000 in
set_option maxHeartbeats 8000000 in
theorem implJoinLog_any (A1 A2 : Option Addr) (n c1 m c2 B0 : Nat) (a b : Int) (xs : List Int) (ss : List (Int × Int)) (w : World) (h1 : Rd w B0 A1 n xs) (h2 : RdQ w B0 A2 m ss) (hB0 : B0 ≤ w.heap.size) (hb1 : n ≤ 1048576) (hb2 : m ≤ 1048576) :
    Calls Try.prog 7 #[.agg #[.slice A1 n c1, .slice A2 m c2], .int .i64 a, .int .i64 b] w fun e w' => ∃ v v2, e = .returned (.tuple #[.agg #[v, v2], .bool (jlB xs ss a b)]) ∧ Own w' w.heap.size v (jlUp xs ss a b) ∧ OwnQ 68 w' w.heap.size v2 (jlSt xs ss a b) ∧ (∀ x, v.ownBlock = some x → ∀ y, v2.ownBlock = some y → x ≠ y) ∧ Below w.heap.size w w' := by
  obtain ⟨W1, hW1⟩ : ∃ W1, W1 = w.alloc (.cells #[.slice A1 n c1, .slice A2 m c2] 26) := ⟨_, rfl⟩
  obtain ⟨W, hW⟩ : ∃ W, W = W1.alloc (.cells #[.slice none 0 0, .slice none 0 0] 26) := ⟨_, rfl⟩
  have e1 : W1.heap.size = w.heap.size + 1 := by rw [hW1]; simp
  have eW : W.heap.size = w.heap.size + 2 := by rw [hW]; simp [e1]
  have hA : W1.heap[w.heap.size]? = some (.cells #[.slice A1 n c1, .slice A2 m c2] 26 (0, 0)) := by rw [hW1]; exact World.alloc_heap_new w _
  have hAW : W.heap[w.heap.size]? = some (.cells #[.slice A1 n c1, .slice A2 m c2] 26 (0, 0)) := by rw [hW]; exact (Below.heap_alloc _ _ _ (by omega)).trans hA
  have hRW : W.heap[w.heap.size + 1]? = some (.cells #[.slice none 0 0, .slice none 0 0] 26 (0, 0)) := by rw [hW, ← e1]; exact World.alloc_heap_new W1 _
  have hbW : Below w.heap.size w W := by rw [hW, hW1]; exact ((Below.refl _ _).alloc (Nat.le_refl _) _).alloc (by simp) _
  have hl := h1.1
  have hlm := h2.1
  have TE := historyOf_any A1 A2 n c1 m c2 B0 xs ss W (h1.below hbW hB0) (h2.below hbW hB0) (Nat.le_trans hB0 hbW.size) hb1 hb2
  have PV := Lib.hid (fun (wz : World) (A : Option Addr) (hr : RdQ wz wz.heap.size A 1 [(a, b)]) => pairsValid_any (n : Int) A 1 1 _ [(a, b)] wz hr (Nat.le_refl _) (by omega))
  obtain ⟨P, hP⟩ : ∃ P, P = w.heap.size := ⟨_, rfl⟩
  obtain ⟨R, hR⟩ : ∃ R, R = w.heap.size + 1 := ⟨_, rfl⟩
  rw [← hP] at hAW
  rw [← hR] at hRW
  obtain ⟨k1, k2⟩ := (boxTwo_cells hAW).1
  have HW := Lib.hid (And.intro hW (And.intro hW1 (And.intro hP hR)))
  have HF := Lib.hid (And.intro hbW (And.intro hAW (And.intro hRW eW)))
  -- no log comes back
  have NO : Hid (∀ wz, Below W.heap.size W wz → jlB xs ss a b = false → wz.heap[R]? = some (.cells #[.slice none 0 0, .slice none 0 0] 26 (0, 0)) ∧ Below w.heap.size w wz) := fun wz hz _ => ⟨(hz.block R (by omega)).trans hRW, Below.on hbW hz⟩
  cases hv : logV xs ss with
  | false =>
    have hno : jlB xs ss a b = false := by unfold jlB; rw [hv]; rfl
    obtain ⟨g1, g2⟩ := jl_none hno
    rw [hno, g1, g2]
    have HNO := Lib.hid hno
    have HVL := Lib.hid hv
    have TE := Lib.hid TE
    clear h1 h2 hB0 hb1 hb2 hW1 hW e1 eW hA hAW hRW hbW hl hlm hP hR hv hno g1 g2
    go_enter Try.func7, Try.ntmps7
    go_wp2_with fail
    rw [← HW.out.2.1, ← HW.out.1, ← HW.out.2.2.2, ← HW.out.2.2.1]
    refine TE.out.mono ?_
    rintro e w1 ⟨hb, ⟨_, rfl⟩ | ⟨hv, _⟩⟩
    · obtain ⟨V, hV⟩ : ∃ V, V = w1.alloc (.cells #[.int .i64 a, .int .i64 b] 59) := ⟨_, rfl⟩
      have hbV : Below W.heap.size W V := Below.on hb (by rw [hV]; exact (Below.refl _ _).alloc (Nat.le_refl _) _)
      obtain ⟨hRz, hbw⟩ := NO.out V hbV HNO.out
      obtain ⟨⟨r1, r2⟩, f1, f2⟩ := boxTwo_cells hRz
      have HZ := Lib.hid (And.intro hRz hbw)
      have HVE := Lib.hid hV
      rw [hV] at r1 r2 f1 f2
      clear hb hV hbV hRz hbw
      go_wp2_with fail
      rw [← HVE.out]
      obtain ⟨⟨k1, k2⟩, _⟩ := boxTwo_cells (boxTwo_set HZ.out.1 (.slice none 0 0) (.slice none 0 0))
      refine bodyPost_ret (v := .tuple #[.agg #[.slice none 0 0, .slice none 0 0], .bool false]) (by simp [results, Try.results7, go_sem, k1, k2]) rfl ?_
      exact ⟨_, _, rfl, World.ownsRow_nil _ _ _ _, OwnQ.nil _ _ _, (fun x e => by cases e), boxTwo_below HZ.out.2 (by have := HW.out.2.2.2; omega) _ _⟩
    · rw [HVL.out] at hv
      cases hv
  | true =>
    cases hok : okQ (n : Int) [(a, b)] with
    | false =>
      have hno : jlB xs ss a b = false := jlB_out (by rw [hl]; exact hok)
      obtain ⟨g1, g2⟩ := jl_none hno
      rw [hok] at PV
      rw [hno, g1, g2]
      have HNO := Lib.hid hno
      have HVL := Lib.hid hv
      have TE := Lib.hid TE
      clear h1 h2 hB0 hb1 hb2 hW1 hW e1 eW hA hAW hRW hbW hl hlm hP hR hv hno g1 g2 hok
      go_enter Try.func7, Try.ntmps7
      go_wp2_with fail
      rw [← HW.out.2.1, ← HW.out.1, ← HW.out.2.2.2, ← HW.out.2.2.1]
      refine TE.out.mono ?_
      rintro e w1 ⟨hb, ⟨hv, _⟩ | ⟨_, H, J, M, N, rfl, hwN, sz, ht, D, ds, hS, hD, hst, hfn, _⟩⟩
      · rw [HVL.out] at hv
        cases hv
      obtain ⟨V, hV⟩ : ∃ V, V = w1.alloc (.cells #[.int .i64 a, .int .i64 b] 59) := ⟨_, rfl⟩
      have hbV1 : Below w1.heap.size w1 V := by rw [hV]; exact (Below.refl _ _).alloc (Nat.le_refl _) _
      have hbV : Below W.heap.size W V := Below.on hb hbV1
      obtain ⟨⟨k1, k2⟩, _⟩ := boxTwo_cells ((hbV.block P (by have := HF.out.2.2.2; have := HW.out.2.2.1; omega)).trans HF.out.2.1)
      have PVZ := PV.out _ _ (rdq_one V a b)
      rw [show V.heap.size = w1.heap.size + 1 by rw [hV]; simp] at PVZ
      have PVZ := Lib.hid PVZ
      have HV := Lib.hid (And.intro hbV (And.intro (hS.below hbV1 hS.lt) (And.intro (hD.chg (S := fun _ => False) (Chg.of_below hbV1) (fun i hi => hi.elim)) (And.intro hst (And.intro hfn (And.intro hwN hS.lt))))))
      have HQ := Lib.hid (show V.heap[w1.heap.size]? = some (.cells #[.int .i64 a, .int .i64 b] 59 (0, 0)) by rw [hV]; exact World.alloc_heap_new w1 _)
      have HVE := Lib.hid hV
      have HQE := Lib.hid (show (V.alloc (.cells #[.int .i64 a, .int .i64 b] 59)).heap.size = V.heap.size + 1 by simp)
      rw [hV] at k1 k2
      clear hb hV hbV1 hbV hS hD hst hfn hwN PV TE
      go_wp2_with fail
      rw [← HVE.out]
      refine PVZ.out.mono ?_
      rintro e w2 ⟨rfl, hb2⟩
      have hb2' : Below V.heap.size V w2 := Below.on ((Below.refl _ _).alloc (Nat.le_refl _) _) hb2
      obtain ⟨hRz, hbw⟩ := NO.out w2 (Below.on HV.out.1 hb2') HNO.out
      obtain ⟨⟨r1, r2⟩, f1, f2⟩ := boxTwo_cells hRz
      have HZ := Lib.hid (And.intro hRz hbw)
      clear hb2 hb2' hRz hbw k1 k2
      go_wp2_with fail
      obtain ⟨⟨k1, k2⟩, _⟩ := boxTwo_cells (boxTwo_set HZ.out.1 (.slice none 0 0) (.slice none 0 0))
      refine bodyPost_ret (v := .tuple #[.agg #[.slice none 0 0, .slice none 0 0], .bool false]) (by simp [results, Try.results7, go_sem, k1, k2]) rfl ?_
      exact ⟨_, _, rfl, World.ownsRow_nil _ _ _ _, OwnQ.nil _ _ _, (fun x e => by cases e), boxTwo_below HZ.out.2 (by have := HW.out.2.2.2; omega) _ _⟩
    | true =>
      obtain ⟨r1, r2⟩ := (okQ_parts hok).2 (a, b) (by simp)
      obtain ⟨a, rfl⟩ : ∃ x : Nat, a = x := ⟨a.toNat, by have : 0 ≤ a := r1.1; omega⟩
      obtain ⟨b, rfl⟩ : ∃ x : Nat, b = x := ⟨b.toNat, by have : 0 ≤ b := r2.1; omega⟩
      have ha : a < n := by have : (a : Int) < n := r1.2; omega
      have hb : b < n := by have : (b : Int) < n := r2.2; omega
      have hj := jlB_valid hv a b (by omega) (by omega)
      obtain ⟨⟨p1, p16⟩, hbu, hfv⟩ := logV_parts hv
      have hsh := built_short p1 p16 hbu
      rw [hok] at PV
      have HN := Lib.hid (And.intro ha (And.intro hb hsh))
      have HVL := Lib.hid hv
      have TE := Lib.hid TE
      by_cases hpq : rootI xs a = rootI xs b
      · have hno : jlB xs ss (a : Int) (b : Int) = false := by rw [hj, decide_eq_true hpq]; rfl
        obtain ⟨g1, g2⟩ := jl_none hno
        rw [hno, g1, g2]
        have HNO := Lib.hid hno
        have HPQ := Lib.hid hpq
        clear h1 h2 hB0 hb1 hb2 hW1 hW e1 eW hA hAW hRW hbW hl hlm hP hR hv hno g1 g2 hok r1 r2 ha hb hj p1 p16 hbu hfv hsh hpq
        go_enter Try.func7, Try.ntmps7
        go_wp2_with fail
        rw [← HW.out.2.1, ← HW.out.1, ← HW.out.2.2.2, ← HW.out.2.2.1]
        refine TE.out.mono ?_
        rintro e w1 ⟨hb, ⟨hv, _⟩ | ⟨_, H, J, M, N, rfl, hwN, sz, ht, D, ds, hS, hD, hst, hfn, _⟩⟩
        · rw [HVL.out] at hv
          cases hv
        obtain ⟨V, hV⟩ : ∃ V, V = w1.alloc (.cells #[.int .i64 (a : Int), .int .i64 (b : Int)] 59) := ⟨_, rfl⟩
        have hbV1 : Below w1.heap.size w1 V := by rw [hV]; exact (Below.refl _ _).alloc (Nat.le_refl _) _
        have hbV : Below W.heap.size W V := Below.on hb hbV1
        obtain ⟨⟨k1, k2⟩, _⟩ := boxTwo_cells ((hbV.block P (by have := HF.out.2.2.2; have := HW.out.2.2.1; omega)).trans HF.out.2.1)
        have PVZ := PV.out _ _ (rdq_one V (a : Int) (b : Int))
        rw [show V.heap.size = w1.heap.size + 1 by rw [hV]; simp] at PVZ
        have PVZ := Lib.hid PVZ
        have HV := Lib.hid (And.intro hbV (And.intro (hS.below hbV1 hS.lt) (And.intro (hD.chg (S := fun _ => False) (Chg.of_below hbV1) (fun i hi => hi.elim)) (And.intro hst (And.intro hfn (And.intro hwN hS.lt))))))
        have HQ := Lib.hid (show V.heap[w1.heap.size]? = some (.cells #[.int .i64 (a : Int), .int .i64 (b : Int)] 59 (0, 0)) by rw [hV]; exact World.alloc_heap_new w1 _)
        have HVE := Lib.hid hV
        have HQE := Lib.hid (show (V.alloc (.cells #[.int .i64 (a : Int), .int .i64 (b : Int)] 59)).heap.size = V.heap.size + 1 by simp)
        rw [hV] at k1 k2
        clear hb hV hbV1 hbV hS hD hst hfn hwN PV TE
        go_wp2_with fail
        rw [← HVE.out]
        refine PVZ.out.mono ?_
        rintro e w2 ⟨rfl, hb2⟩
        have hb2' : Below V.heap.size V w2 := Below.on ((Below.refl _ _).alloc (Nat.le_refl _) _) hb2
        obtain ⟨⟨q1, q2⟩, _⟩ := boxTwo_cells ((hb2'.block w1.heap.size (Array.getElem?_eq_some_iff.1 HQ.out).1).trans HQ.out)
        obtain ⟨hbV, hS, hD, hst, hfn, hwN, hHl⟩ := HV.out
        have hdl : ds.length ≤ 16 := by have := stepsOf_len ds; rw [hst] at this; have := HN.out.2.2; omega
        have JI := joinItemsB_any H J M N n a b sz ht xs D ds (H + 1) w2 (hS.below hb2' hS.lt) HN.out.1 HN.out.2.1 (hD.chg (S := fun _ => False) (Chg.of_below hb2') (fun i hi => hi.elim)) (by omega) (by have := hb2'.size; have := hS.lt; omega) (by omega) hfn
        rw [decide_eq_true HPQ.out] at JI
        have JI := Lib.hid JI
        have HB2 := Lib.hid (Below.on hbV hb2')
        have hnn := hS.o1
        have hnn2 := hS.o2
        have hnn3 := hS.o3
        have HO := Lib.hid (And.intro hwN (And.intro (show W.heap.size ≤ M by omega) (show W.heap.size ≤ H by omega)))
        clear hb2 hb2' k1 k2 hbV hS hD hst hfn hwN hHl hdl hnn hnn2 hnn3
        go_wp2_with fail
        refine JI.out.mono ?_
        rintro e w3 ⟨rfl, _, _, _, _, _, _, _, _, _, hc3⟩
        have hb3 : Below W.heap.size W w3 := HB2.out.trans (hc3.below HB2.out.size (fun i hi => by have := HO.out; omega))
        obtain ⟨hRz, hbw⟩ := NO.out w3 hb3 HNO.out
        obtain ⟨⟨r1, r2⟩, f1, f2⟩ := boxTwo_cells hRz
        have HZ := Lib.hid (And.intro hRz hbw)
        clear hc3 hb3 hRz hbw q1 q2
        go_wp2_with fail
        obtain ⟨⟨k1, k2⟩, _⟩ := boxTwo_cells (boxTwo_set HZ.out.1 (.slice none 0 0) (.slice none 0 0))
        refine bodyPost_ret (v := .tuple #[.agg #[.slice none 0 0, .slice none 0 0], .bool false]) (by simp [results, Try.results7, go_sem, k1, k2]) rfl ?_
        exact ⟨_, _, rfl, World.ownsRow_nil _ _ _ _, OwnQ.nil _ _ _, (fun x e => by cases e), boxTwo_below HZ.out.2 (by have := HW.out.2.2.2; omega) _ _⟩
      · have hno : jlB xs ss (a : Int) (b : Int) = true := by rw [hj, decide_eq_false hpq]; rfl
        have g1 : jlUp xs ss (a : Int) (b : Int) = joinL xs 1 a b := by unfold jlUp; rw [if_pos hno]; simp
        have g2 : jlSt xs ss (a : Int) (b : Int) = joinSt xs a b ss := by unfold jlSt; rw [if_pos hno]; simp
        rw [hno, g1, g2]
        have HPQ := Lib.hid hpq
        have HRW := Lib.hid (And.intro hRW hbW)
        clear NO
        clear h1 h2 hB0 hb1 hb2 hW1 hW e1 eW hA hAW hRW hbW hl hlm hP hR hv hno g1 g2 hok r1 r2 ha hb hj p1 p16 hbu hfv hsh hpq
        go_enter Try.func7, Try.ntmps7
        go_wp2_with fail
        rw [← HW.out.2.1, ← HW.out.1, ← HW.out.2.2.2, ← HW.out.2.2.1]
        refine TE.out.mono ?_
        rintro e w1 ⟨hb, ⟨hv, _⟩ | ⟨_, H, J, M, N, rfl, hwN, sz, ht, D, ds, hS, hD, hst, hfn, _⟩⟩
        · rw [HVL.out] at hv
          cases hv
        obtain ⟨V, hV⟩ : ∃ V, V = w1.alloc (.cells #[.int .i64 (a : Int), .int .i64 (b : Int)] 59) := ⟨_, rfl⟩
        have hbV1 : Below w1.heap.size w1 V := by rw [hV]; exact (Below.refl _ _).alloc (Nat.le_refl _) _
        have hbV : Below W.heap.size W V := Below.on hb hbV1
        obtain ⟨⟨k1, k2⟩, _⟩ := boxTwo_cells ((hbV.block P (by have := HF.out.2.2.2; have := HW.out.2.2.1; omega)).trans HF.out.2.1)
        have PVZ := PV.out _ _ (rdq_one V (a : Int) (b : Int))
        rw [show V.heap.size = w1.heap.size + 1 by rw [hV]; simp] at PVZ
        have PVZ := Lib.hid PVZ
        have HV := Lib.hid (And.intro hbV (And.intro (hS.below hbV1 hS.lt) (And.intro (hD.chg (S := fun _ => False) (Chg.of_below hbV1) (fun i hi => hi.elim)) (And.intro hst (And.intro hfn (And.intro hwN hS.lt))))))
        have HQ := Lib.hid (show V.heap[w1.heap.size]? = some (.cells #[.int .i64 (a : Int), .int .i64 (b : Int)] 59 (0, 0)) by rw [hV]; exact World.alloc_heap_new w1 _)
        have HVE := Lib.hid hV
        have HQE := Lib.hid (show (V.alloc (.cells #[.int .i64 (a : Int), .int .i64 (b : Int)] 59)).heap.size = V.heap.size + 1 by simp)
        rw [hV] at k1 k2
        clear hb hV hbV1 hbV hS hD hst hfn hwN PV TE
        go_wp2_with fail
        rw [← HVE.out]
        refine PVZ.out.mono ?_
        rintro e w2 ⟨rfl, hb2⟩
        have hb2' : Below V.heap.size V w2 := Below.on ((Below.refl _ _).alloc (Nat.le_refl _) _) hb2
        obtain ⟨⟨q1, q2⟩, _⟩ := boxTwo_cells ((hb2'.block w1.heap.size (Array.getElem?_eq_some_iff.1 HQ.out).1).trans HQ.out)
        obtain ⟨hbV, hS, hD, hst, hfn, hwN, hHl⟩ := HV.out
        have hdl : ds.length ≤ 16 := by have := stepsOf_len ds; rw [hst] at this; have := HN.out.2.2; omega
        have JI := joinItemsB_any H J M N n a b sz ht xs D ds (H + 1) w2 (hS.below hb2' hS.lt) HN.out.1 HN.out.2.1 (hD.chg (S := fun _ => False) (Chg.of_below hb2') (fun i hi => hi.elim)) (by omega) (by have := hb2'.size; have := hS.lt; omega) (by omega) hfn
        rw [decide_eq_false HPQ.out, hst] at JI
        have JI := Lib.hid JI
        have HB2 := Lib.hid (Below.on hbV hb2')
        have hnn := hS.o1
        have hnn2 := hS.o2
        have hnn3 := hS.o3
        have HO := Lib.hid (And.intro hwN (And.intro (show W.heap.size ≤ M by omega) (And.intro (show W.heap.size ≤ H by omega) hdl)))
        clear hb2 hb2' k1 k2 hbV hS hD hst hfn hwN hHl hdl hnn hnn2 hnn3
        go_wp2_with fail
        refine JI.out.mono ?_
        rintro e w3 ⟨rfl, sz', ht', D', ds', hS', hD', hst', hl', hfn', hc3⟩
        have hb3 : Below W.heap.size W w3 := HB2.out.trans (hc3.below HB2.out.size (fun i hi => by have := HO.out; omega))
        have LG := log_any H J M N n sz' ht' _ D' ds' (H + 1) w3 hS' hD' hfn' (by have := HO.out; omega)
        rw [hst'] at LG
        have LG := Lib.hid LG
        have HB3 := Lib.hid hb3
        clear hS' hD' hst' hl' hfn' hc3 hb3 q1 q2
        go_wp2_with fail
        refine LG.out.mono ?_
        rintro e w4 ⟨v, v2, rfl, ho, hq, hne, hb4⟩
        obtain ⟨A5, c5, rfl, _⟩ := ho.form
        obtain ⟨A6, c6, rfl, _⟩ := hq.form
        have hb4' := Below.on HB3.out hb4
        have hR4 := (hb4'.block R (by have := HF.out.2.2.2; have := HW.out.2.2.2; omega)).trans HRW.out.1
        obtain ⟨⟨r1, r2⟩, f1, f2⟩ := boxTwo_cells hR4
        have HX := Lib.hid (And.intro ho (And.intro hq (And.intro hne (And.intro (Below.on HRW.out.2 hb4') hR4))))
        have HR3 := Lib.hid (show R < w3.heap.size by have := HB3.out.size; have := HF.out.2.2.2; have := HW.out.2.2.2; omega)
        clear ho hq hne hb4 hb4' hR4
        go_wp2_with fail
        obtain ⟨ho, hq, hne, hbw, hR4⟩ := HX.out
        have hR3 := HR3.out
        have hwR : w.heap.size ≤ R := by have := HW.out.2.2.2; omega
        obtain ⟨V1, hV1⟩ : ∃ V, V = Value.slice A5 (joinL xs 1 a b).length c5 := ⟨_, rfl⟩
        obtain ⟨V2, hV2⟩ : ∃ V, V = Value.slice A6 (joinSt xs a b ss).length c6 := ⟨_, rfl⟩
        rw [← hV1, ← hV2]
        rw [← hV1] at ho hne
        rw [← hV2] at hq hne
        obtain ⟨q1, q2, q3, q4⟩ := copy_end hbw hwR (ho.less (show R + 1 ≤ w3.heap.size by omega)) (hq.less (show R + 1 ≤ w3.heap.size by omega))
        obtain ⟨⟨k1, k2⟩, _⟩ := boxTwo_cells (boxTwo_set hR4 V1 V2)
        refine bodyPost_ret (v := .tuple #[.agg #[V1, V2], .bool true]) (by simp [results, Try.results7, go_sem, k1, k2]) rfl ?_
        exact ⟨_, _, rfl, q1, q2, q3, q4⟩
end Go.Proofs.Ytichcnaomcpnhaa
