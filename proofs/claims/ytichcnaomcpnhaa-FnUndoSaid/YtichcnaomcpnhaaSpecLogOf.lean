/- The model's LogOf. Condition: lengths up to 1048576. -/
import Derived.Test.YtichcnaomcpnhaaSpecJoinLog
namespace Go.Proofs.Ytichcnaomcpnhaa
open Go.RowKit

theorem joinSt_len (u : List Int) (a b : Nat) (ss : List (Int × Int)) : (joinSt u a b ss).length ≤ ss.length + 1 := by
  unfold joinSt
  split
  · omega
  · simp
theorem stepsTo_len : ∀ (ps : List (Nat × Nat)) (u : List Int) (ss : List (Int × Int)), (stepsTo u ps ss).length ≤ ss.length + ps.length
  | [], _, _ => by simp [stepsTo]
  | p :: ps, u, ss => by
    have := stepsTo_len ps (joinL u 1 p.1 p.2) (joinSt u p.1 p.2 ss)
    have h2 := joinSt_len u p.1 p.2 ss
    show (stepsTo (joinL u 1 p.1 p.2) ps (joinSt u p.1 p.2 ss)).length ≤ _
    rw [List.length_cons]
    omega
theorem own_not_log {w : World} {b X : Nat} {v : Value} {xs : List Int} {cs : Array Value} (h : Own w b v xs) (hX : w.heap[X]? = some (.cells cs 26 (0, 0))) : v.ownBlock = none ∨ v.ownBlock ≠ some X := by
  rcases h.2 with ⟨hv, _⟩ | ⟨g, cap, cur, hv, _, hh, _⟩
  · rw [hv]; exact .inl rfl
  · refine .inr fun e => ?_
    rw [hv] at e
    have e1 : g = X := by simpa [Value.ownBlock] using e
    subst e1
    rw [hX] at hh
    simp at hh
theorem ownQ_not_log {w : World} {b X : Nat} {v : Value} {ps : List (Int × Int)} {cs : Array Value} (h : OwnQ 68 w b v ps) (hX : w.heap[X]? = some (.cells cs 26 (0, 0))) : v.ownBlock = none ∨ v.ownBlock ≠ some X := by
  rcases h.2 with ⟨hv, _⟩ | ⟨g, cap, cur, hv, _, hh, _⟩
  · rw [hv]; exact .inl rfl
  · refine .inr fun e => ?_
    rw [hv] at e
    have e1 : g = X := by simpa [Value.ownBlock] using e
    subst e1
    rw [hX] at hh
    simp at hh
/-- A log lies in a box, its slices of the call's own. -/
def LogAt (w : World) (X base : Nat) (xs : List Int) (ss : List (Int × Int)) : Prop :=
  ∃ A1 d1 A2 d2, w.heap[X]? = some (.cells #[.slice A1 xs.length d1, .slice A2 ss.length d2] 26 (0, 0)) ∧ Own w base (.slice A1 xs.length d1) xs ∧ OwnQ 68 w base (.slice A2 ss.length d2) ss
theorem LogAt.keep {w w' : World} {X base : Nat} {xs : List Int} {ss : List (Int × Int)} (h : LogAt w X base xs ss) (hb : Below w.heap.size w w') : LogAt w' X base xs ss := by
  obtain ⟨A1, d1, A2, d2, h1, h2, h3⟩ := h
  exact ⟨A1, d1, A2, d2, (hb.block X (Array.getElem?_eq_some_iff.1 h1).1).trans h1, h2.keep hb (Nat.le_refl _), h3.keep hb (Nat.le_refl _)⟩
set_option maxRecDepth 100000 in
set_option maxHeartbeats 8000000 in
theorem specLogOf_any (n : Int) (A : Option Addr) (m c B0 : Nat) (qs : List (Int × Int)) (w : World) (h : RdQ w B0 A m qs) (hB0 : B0 ≤ w.heap.size) (hb : m ≤ 1048576) :
    Calls Try.prog 76 #[.int .i64 n, .slice A m c] w fun e w' => ∃ v v2, e = .returned (.tuple #[.agg #[v, v2], .bool (logB n qs)]) ∧ Own w' w.heap.size v (logUp n qs) ∧ OwnQ 68 w' w.heap.size v2 (logSteps n qs) ∧ Below w.heap.size w w' := by
  obtain ⟨W, hW⟩ : ∃ W, W = w.alloc (.cells #[.slice none 0 0, .slice none 0 0] 26) := ⟨_, rfl⟩
  have hbW : Below w.heap.size w W := by rw [hW]; exact log_box w _ _
  have hRW : W.heap[w.heap.size]? = some (.cells #[.slice none 0 0, .slice none 0 0] 26 (0, 0)) := by rw [hW]; exact World.alloc_heap_new w _
  have hsW : W.heap.size = w.heap.size + 1 := by rw [hW]; simp
  have AS := l2Asked_any n A m c B0 qs W (h.below hbW hB0) (Nat.le_trans hB0 hbW.size) hb
  obtain ⟨R, hR⟩ : ∃ R, R = w.heap.size := ⟨_, rfl⟩
  rw [← hR] at hRW hsW
  have HW := Lib.hid (And.intro hbW (And.intro hRW (And.intro hsW (And.intro (h.below hbW hB0) (Nat.le_trans hB0 hbW.size)))))
  have HE := Lib.hid (And.intro hW hR)
  cases hok : usB n qs with
  | false =>
    have e3 : logB n qs = false := hok
    have e4 : logUp n qs = [] := by unfold logUp; rw [e3]; rfl
    have e5 : logSteps n qs = [] := by unfold logSteps; rw [e3]; rfl
    rw [hok] at AS
    rw [e3, e4, e5]
    have AS := Lib.hid AS
    clear h hB0 hb hW hbW hRW hsW hR hok e3 e4 e5
    go_enter Try.func76, Try.ntmps76
    go_wp2_with fail
    rw [← HE.out.1, ← HE.out.2]
    refine AS.out.mono ?_
    rintro e w1 ⟨rfl, hb1⟩
    have hR1 := (hb1.block R (by have := HW.out.2.2.1; omega)).trans HW.out.2.1
    obtain ⟨⟨r1, r2⟩, f1, f2⟩ := boxTwo_cells hR1
    have HZ := Lib.hid (And.intro hR1 (Below.on HW.out.1 hb1))
    clear hb1 hR1
    go_wp2_with fail
    obtain ⟨⟨k1, k2⟩, _⟩ := boxTwo_cells (boxTwo_set HZ.out.1 (.slice none 0 0) (.slice none 0 0))
    refine bodyPost_ret (v := .tuple #[.agg #[.slice none 0 0, .slice none 0 0], .bool false]) (by simp [results, Try.results76, go_sem, k1, k2]) rfl ?_
    exact ⟨_, _, rfl, World.ownsRow_nil _ _ _ _, OwnQ.nil _ _ _, boxTwo_below HZ.out.2 (by have := HE.out.2; omega) _ _⟩
  | true =>
    obtain ⟨hn, hq⟩ := usB_parts hok
    obtain ⟨p, rfl⟩ := Int.eq_ofNat_of_zero_le (show 0 ≤ n by omega)
    have e1 : newOk (p : Int) = true := by unfold newOk; exact decide_eq_true hn
    have e2 : newN (p : Int) = p := by unfold newN; rw [if_pos hn]; simp
    have e3 : logB (p : Int) qs = true := hok
    have e4 : logUp (p : Int) qs = allL (roots p) 1 (natP qs) := by unfold logUp; rw [if_pos e3, Int.toNat_natCast]
    have e5 : logSteps (p : Int) qs = stepsTo (roots p) (natP qs) [] := by unfold logSteps; rw [if_pos e3, Int.toNat_natCast]
    have NL : Hid (∀ w2, Calls Try.prog 78 #[.int .i64 (p : Int)] w2 fun e w' => ∃ v v2, e = .returned (.tuple #[.agg #[v, v2], .bool true]) ∧ Own w' w2.heap.size v (roots p) ∧ OwnQ 68 w' w2.heap.size v2 [] ∧ (∀ x, v.ownBlock = some x → ∀ y, v2.ownBlock = some y → x ≠ y) ∧ Below w2.heap.size w2 w') := fun w2 => by
      have := specNewLog_any (p : Int) w2
      rw [e1, e2] at this
      exact this
    rw [hok] at AS
    rw [e3, e4, e5]
    have hml := h.1
    have hm24 : m ≤ 24 := by have := (okQ_parts hq).1; omega
    have hfv := roots_fv (n := p) (by omega) (by omega)
    have HG : Hid (∀ k, k < m → ∃ a b : Nat, (qs[k]?.getD (0, 0)).1 = (a : Int) ∧ (qs[k]?.getD (0, 0)).2 = (b : Int) ∧ a < p ∧ b < p ∧ allL (roots p) 1 ((natP qs).take (k + 1)) = joinL (allL (roots p) 1 ((natP qs).take k)) 1 a b ∧ stepsTo (roots p) ((natP qs).take (k + 1)) [] = joinSt (allL (roots p) 1 ((natP qs).take k)) a b (stepsTo (roots p) ((natP qs).take k) [])) := fun k hk => by
      obtain ⟨g1, g2⟩ := okQ_get hq (k := k) (by omega)
      have hin := (okQ_in hq).get (k := k) (by rw [natP_len]; omega)
      refine ⟨_, _, g1, g2, hin.1, hin.2, allL_succ _ _ (by rw [natP_len]; omega), ?_⟩
      rw [take_snoc (by rw [natP_len]; omega) (0, 0), stepsTo_snoc]
    have HV : Hid (∀ k, logV (allL (roots p) 1 ((natP qs).take k)) (stepsTo (roots p) ((natP qs).take k) []) = true ∧ (allL (roots p) 1 ((natP qs).take k)).length = p ∧ (stepsTo (roots p) ((natP qs).take k) []).length ≤ 24) := fun k => by
      have hl : (allL (roots p) 1 ((natP qs).take k)).length = p := by rw [allL_len, roots_len]
      refine ⟨logV_of (by rw [hl]; omega) ?_, hl, ?_⟩
      · rw [hl]
        exact built_all hfv (by rw [roots_len]; exact (okQ_in hq).take) rfl
      · have := stepsTo_len ((natP qs).take k) (roots p) []
        rw [List.length_take, natP_len] at this
        simp at this
        have := (okQ_parts hq).1
        omega
    have HT : Hid ((natP qs).take m = natP qs) := by
      show _ = _
      rw [List.take_of_length_le (by rw [natP_len]; omega)]
    have AS := Lib.hid AS
    clear h hB0 hb hW hbW hRW hsW hR hok e1 e2 e3 e4 e5 hn hq hml hfv
    go_enter Try.func76, Try.ntmps76
    go_wp2_with fail
    rw [← HE.out.1, ← HE.out.2]
    refine AS.out.mono ?_
    rintro e w1 ⟨rfl, hb1⟩
    have HB1 := Lib.hid hb1
    clear hb1
    go_wp2_with fail
    refine (NL.out w1).mono ?_
    rintro e w2 ⟨v, v2, rfl, ho, hq, hne, hb2⟩
    obtain ⟨A1, d1, rfl, _⟩ := ho.form
    obtain ⟨A2, d2, rfl, _⟩ := hq.form
    obtain ⟨V, hV⟩ : ∃ V, V = w2.alloc (.cells #[.slice A1 (roots p).length d1, .slice A2 0 d2] 26) := ⟨_, rfl⟩
    have hbV : Below w2.heap.size w2 V := by rw [hV]; exact (Below.refl _ _).alloc (Nat.le_refl _) _
    have hXV : V.heap[w2.heap.size]? = some (.cells #[.slice A1 (roots p).length d1, .slice A2 0 d2] 26 (0, 0)) := by rw [hV]; exact World.alloc_heap_new w2 _
    have hWV := Below.on (Below.on HB1.out hb2) hbV
    have hRX : R < w2.heap.size := by have := HW.out.2.2.1; have := HB1.out.size; have := hb2.size; omega
    have hs1 : R + 1 ≤ w1.heap.size := by have := HW.out.2.2.1; have := HB1.out.size; omega
    obtain ⟨X, hX⟩ : ∃ X, X = w2.heap.size := ⟨_, rfl⟩
    have hLA : LogAt V X (R + 1) (allL (roots p) 1 ((natP qs).take 0)) (stepsTo (roots p) ((natP qs).take 0) []) := ⟨A1, d1, A2, d2, by rw [hX]; exact hXV, (ho.keep hbV (Nat.le_refl _)).less hs1, (hq.keep hbV (Nat.le_refl _)).less hs1⟩
    rw [← hX] at hRX
    have HVE := Lib.hid (And.intro hV hX)
    have HI : Hid (LogAt V X (R + 1) (allL (roots p) 1 ((natP qs).take 0)) (stepsTo (roots p) ((natP qs).take 0) []) ∧ Below W.heap.size W V) := ⟨hLA, hWV⟩
    have HRX := Lib.hid hRX
    clear ho hq hne hb2 hV hbV hXV hWV hRX hs1 hX hLA
    go_wp2_with fail
    rw [← HVE.out.1, ← HVE.out.2]
    go_loopw [24] (fun i wr => ∃ k : Nat, k ≤ m ∧ i = .int .i64 (k : Int) ∧ Hid (LogAt wr X (R + 1) (allL (roots p) 1 ((natP qs).take k)) (stepsTo (roots p) ((natP qs).take k) []) ∧ Below W.heap.size W wr)) (fun i _ => m - (intOf i).toNat)
    case atStart => exact ⟨0, by omega, rfl, HI⟩
    case round =>
      obtain ⟨k, hkm, rfl, HK⟩ := hrel
      clear HI
      obtain ⟨hLA, hbr⟩ := HK.out
      by_cases hlt : k < m
      · obtain ⟨a, b, ga, gb, ha, hb, hA, hB⟩ := HG.out k hlt
        obtain ⟨hv, hl, hl24⟩ := HV.out k
        obtain ⟨b0, off, rfl, _, hc1⟩ := (HW.out.2.2.2.1.below hbr HW.out.2.2.2.2).2 (by omega)
        obtain ⟨g1, g2⟩ := hc1 k hlt
        rw [ga] at g1
        rw [gb] at g2
        have hkk : (k : Int) < (m : Int) := by omega
        obtain ⟨xs, hxs⟩ : ∃ xs, xs = allL (roots p) 1 ((natP qs).take k) := ⟨_, rfl⟩
        obtain ⟨ss, hss⟩ : ∃ ss, ss = stepsTo (roots p) ((natP qs).take k) [] := ⟨_, rfl⟩
        rw [← hxs] at hLA hA hB hv hl
        rw [← hss] at hLA hB hv hl24
        obtain ⟨W1, hW1⟩ : ∃ W1, W1 = wr.alloc (.cells #[.int .i64 (a : Int), .int .i64 (b : Int)] 59) := ⟨_, rfl⟩
        have hbW1 : Below wr.heap.size wr W1 := by rw [hW1]; exact (Below.refl _ _).alloc (Nat.le_refl _) _
        obtain ⟨A1, d1, A2, d2, hX1, ho1, hq1⟩ := hLA.keep hbW1
        have JL := Lib.hid (specJoinLog_good A1 A2 xs.length d1 ss.length d2 W1.heap.size a b xs ss W1 ho1.rd hq1.rd (Nat.le_refl _) (by omega) hv (by omega) (by omega))
        obtain ⟨⟨x1, x2⟩, _⟩ := boxTwo_cells hX1
        have c1 := pair_cells wr (a : Int) (b : Int)
        rw [← hW1] at c1
        obtain ⟨y1, y2⟩ := c1
        have HN := Lib.hid (And.intro hX1 (And.intro ho1 (And.intro hq1 (And.intro (Below.on hbr hbW1) (And.intro hA hB)))))
        have HW1 := Lib.hid hW1
        rw [hW1] at x1 x2
        clear hLA hbr ga gb ha hb hA hB hv hl hl24 hc1 hxs hss hW1 hbW1 hX1 ho1 hq1 HK y1 y2
        go_wp2_with fail
        rw [← HW1.out]
        refine JL.out.mono ?_
        rintro e w3 ⟨v, v2, rfl, hap, ⟨⟨A3, n3, d3, rfl⟩, A4, n4, d4, rfl⟩, hb3⟩
        obtain ⟨hX1, ho1, hq1, hbr1, hA, hB⟩ := HN.out
        obtain ⟨U, hU⟩ : ∃ U, U = w3.alloc (.cells #[.slice A3 n3 d3, .slice A4 n4 d4] 26) := ⟨_, rfl⟩
        have hbU : Below w3.heap.size w3 U := by rw [hU]; exact (Below.refl _ _).alloc (Nat.le_refl _) _
        have hXU := (hbU.block X (by have := (Array.getElem?_eq_some_iff.1 hX1).1; have := hb3.size; omega)).trans ((hb3.block X (Array.getElem?_eq_some_iff.1 hX1).1).trans hX1)
        have hYU : U.heap[w3.heap.size]? = some (.cells #[.slice A3 n3 d3, .slice A4 n4 d4] 26 (0, 0)) := by rw [hU]; exact World.alloc_heap_new w3 _
        have hWU := Below.on (Below.on hbr1 hb3) hbU
        by_cases hpq : rootI xs a = rootI xs b
        · rw [decide_eq_true hpq]
          have hI2 : Hid (LogAt U X (R + 1) (allL (roots p) 1 ((natP qs).take (k + 1))) (stepsTo (roots p) ((natP qs).take (k + 1)) []) ∧ Below W.heap.size W U) := by
            refine ⟨?_, hWU⟩
            rw [hA, hB]
            unfold joinL joinSt
            rw [if_pos hpq, if_pos hpq]
            exact ⟨A1, d1, A2, d2, hXU, (ho1.keep hb3 (Nat.le_refl _)).keep hbU (Nat.le_refl _), (hq1.keep hb3 (Nat.le_refl _)).keep hbU (Nat.le_refl _)⟩
          have HUE := Lib.hid hU
          clear hap hb3 hX1 ho1 hq1 hbr1 hA hB hU hbU hXU hYU hWU hpq HN
          go_wp2_with fail
          rw [← HUE.out]
          go_roundw
          case rel => exact ⟨k + 1, by omega, by go_num, hI2⟩
          case measure => simp [intOf]; omega
        · rw [decide_eq_false hpq]
          obtain ⟨ho3, hq3⟩ := hap hpq
          have en3 : n3 = (joinL xs 1 a b).length := by
            obtain ⟨A5, d5, e5, _⟩ := ho3.form
            injection e5
          have en4 : n4 = (joinSt xs a b ss).length := by
            obtain ⟨A6, d6, e6, _⟩ := hq3.form
            injection e6
          have hoU := ho3.keep hbU (Nat.le_refl _)
          have hqU := hq3.keep hbU (Nat.le_refl _)
          have hW1R : R + 1 ≤ W1.heap.size := by have := hbr1.size; have := HW.out.2.2.1; omega
          have hI2 : Hid (LogAt ((U.setCell ⟨X, 0, none⟩ (.slice A3 n3 d3)).setCell ⟨X, 1, none⟩ (.slice A4 n4 d4)) X (R + 1) (allL (roots p) 1 ((natP qs).take (k + 1))) (stepsTo (roots p) ((natP qs).take (k + 1)) []) ∧ Below W.heap.size W ((U.setCell ⟨X, 0, none⟩ (.slice A3 n3 d3)).setCell ⟨X, 1, none⟩ (.slice A4 n4 d4))) := by
            refine ⟨?_, boxTwo_below hWU (by have := HRX.out; have := HW.out.2.2.1; omega) _ _⟩
            rw [hA, hB]
            have hg := boxTwo_grown U X (.slice A3 n3 d3) (.slice A4 n4 d4)
            refine ⟨A3, d3, A4, d4, ?_, ?_, ?_⟩
            · rw [← en3, ← en4]
              exact boxTwo_set hXU _ _
            · rw [← en3]
              exact (hoU.kept hg (own_not_log hoU hXU)).less hW1R
            · rw [← en4]
              exact (hqU.kept hg (ownQ_not_log hqU hXU)).less hW1R
          obtain ⟨⟨x1, x2⟩, x3, x4⟩ := boxTwo_cells hXU
          obtain ⟨⟨y1, y2⟩, _⟩ := boxTwo_cells hYU
          have HUE := Lib.hid hU
          rw [hU] at x1 x2 x3 x4 y1 y2
          clear hap hb3 hX1 ho1 hq1 hbr1 hA hB hU hbU hXU hYU hWU hpq HN ho3 hq3 en3 en4 hoU hqU hW1R
          go_wp2_with fail
          rw [← HUE.out]
          go_roundw
          case rel => exact ⟨k + 1, by omega, by go_num, hI2⟩
          case measure => simp [intOf]; omega
      · obtain rfl : k = m := by omega
        rw [HT.out] at hLA
        obtain ⟨A1, d1, A2, d2, hX1, ho1, hq1⟩ := hLA
        have hRr := (hbr.block R (by have := HW.out.2.2.1; omega)).trans HW.out.2.1
        obtain ⟨⟨x1, x2⟩, _⟩ := boxTwo_cells hX1
        obtain ⟨⟨r1, r2⟩, r3, r4⟩ := boxTwo_cells hRr
        have HZ := Lib.hid (And.intro ho1 (And.intro hq1 (And.intro hRr hbr)))
        clear hX1 ho1 hq1 hRr hbr HK
        go_wp2_with fail
        obtain ⟨ho1, hq1, hRr, hbr⟩ := HZ.out
        obtain ⟨q1, q2, _, q4⟩ := copy_end (Below.on HW.out.1 hbr) (by have := HE.out.2; omega) ho1 hq1
        obtain ⟨V1, hV1⟩ : ∃ V1, V1 = Value.slice A1 (allL (roots p) 1 (natP qs)).length d1 := ⟨_, rfl⟩
        obtain ⟨V2, hV2⟩ : ∃ V2, V2 = Value.slice A2 (stepsTo (roots p) (natP qs) []).length d2 := ⟨_, rfl⟩
        rw [← hV1, ← hV2] at q1 q2 q4 ⊢
        obtain ⟨⟨k1, k2⟩, _⟩ := boxTwo_cells (boxTwo_set hRr V1 V2)
        refine bodyPost_ret (v := .tuple #[.agg #[V1, V2], .bool true]) (by simp [results, Try.results76, go_sem, k1, k2]) rfl ?_
        exact ⟨_, _, rfl, q1, q2, q4⟩
end Go.Proofs.Ytichcnaomcpnhaa
