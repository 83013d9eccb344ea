/- The walk of the law on going back: for every row of bytes the law returns true and nothing that was there has turned. -/
import Derived.Test.YtdbkoicbhddpfaaDrawBack
import Derived.Test.YtdbkoicbhddpfaaSpecBack
import Derived.Test.YtdbkoicbhddpfaaLogV
import Derived.Test.YtdbkoicbhddpfaaRedo
import Derived.StillTailTactics
namespace Go.Proofs.Ytdbkoicbhddpfaa
open Go.RowKit Go.Shelf

theorem bk_parts {xs : List Int} {ss : List (Int × Int)} {k : Int} (h : bkB xs ss k = true) : logV xs ss = true ∧ ∃ j : Nat, k = (j : Int) ∧ j ≤ ss.length := by
  unfold bkB at h
  simp only [Bool.and_eq_true, decide_eq_true_eq] at h
  obtain ⟨h1, h2, h3⟩ := h
  obtain ⟨j, rfl⟩ := Int.eq_ofNat_of_zero_le h2
  exact ⟨h1, j, rfl, by omega⟩
theorem take_at {ss : List (Int × Int)} {q j : Nat} (h : q < j) : (ss.take j)[q]?.getD (0, 0) = ss[q]?.getD (0, 0) := by
  rw [List.getElem?_take_of_lt h]
set_option maxRecDepth 100000 in
set_option maxHeartbeats 8000000 in
theorem fnBackTo (A0 : Option Addr) (n0 c0 : Nat) (z0 : List Int) (w : World) (h0 : Row .u8 w A0 n0 c0 z0) :
    Calls Try.prog 4 #[.slice A0 n0 c0] w fun e w' => e = .returned (.bool true) ∧ Below w.heap.size w w' := by
  by_cases hl0 : 1048576 < n0
  · clear h0
    go_enter Try.func4, Try.ntmps4
    go_wp2
    go_ret
    exact ⟨rfl, Below.refl _ _⟩
  obtain ⟨b0, hc0⟩ := h0.bt
  have D0 := Lib.hid (drawBack_any A0 n0 c0 w.heap.size z0 w b0 (Nat.le_refl _) hc0)
  clear h0 b0 hc0
  go_enter Try.func4, Try.ntmps4
  go_wp2_with fail
  refine D0.out.mono ?_
  rintro e w1 ⟨v, v2, kk, xs, ss, rfl, ho, hx16, hq, hs17, hb1⟩
  obtain ⟨A, c, e1, hr⟩ := ho.form
  obtain ⟨A', c', e2, hrq, hcap⟩ := OwnQ.form2 hq
  obtain ⟨n, hn⟩ : ∃ n, n = xs.length := ⟨_, rfl⟩
  obtain ⟨m, hm⟩ : ∃ m, m = ss.length := ⟨_, rfl⟩
  rw [← hn] at e1 hr hx16
  rw [← hm] at e2 hrq hcap hs17
  subst e1 e2
  obtain ⟨V1, hV1⟩ : ∃ V1, V1 = w1.alloc (.cells #[.slice A n c, .slice A' m c'] 26) := ⟨_, rfl⟩
  obtain ⟨X, hX⟩ : ∃ X, X = w1.heap.size := ⟨_, rfl⟩
  have hbV1 : Below w1.heap.size w1 V1 := by rw [hV1]; exact log_box w1 _ _
  have hXV : V1.heap[X]? = some (.cells #[.slice A n c, .slice A' m c'] 26 (0, 0)) := by rw [hV1, hX]; exact World.alloc_heap_new w1 _
  have hrV := hr.to hbV1
  have hqV := hrq.to hbV1
  have BI := Lib.hid (implBack_any A A' n c m c' V1.heap.size kk xs ss V1 hrV hqV (Nat.le_refl _) (by omega) (by omega))
  have H1 := Lib.hid (And.intro (Below.on hb1 hbV1) (And.intro hXV (And.intro hrV hqV)))
  have HE1 := Lib.hid (And.intro hV1 hX)
  have HN := Lib.hid (And.intro hn (And.intro hm (And.intro hx16 (And.intro hs17 hcap))))
  obtain ⟨⟨a1, a2⟩, _⟩ := boxTwo_cells hXV
  rw [hV1, hX] at a1 a2
  clear hbV1 hrV hqV hr hrq ho hq hb1 D0 hn hm hx16 hs17 hcap hV1 hX hXV
  go_wp2_with fail
  rw [← HE1.out.1, ← HE1.out.2]
  refine BI.out.mono ?_
  rintro e w2 ⟨v5, v6, rfl, ho5, hq5, _, hb2⟩
  obtain ⟨A5, c5, e5, hr5⟩ := ho5.form
  obtain ⟨A6, c6, e6, hr6⟩ := hq5.form
  obtain ⟨n5, hn5⟩ : ∃ n5, n5 = (bkUp xs ss kk).length := ⟨_, rfl⟩
  obtain ⟨n6, hn6⟩ : ∃ n6, n6 = (bkSt xs ss kk).length := ⟨_, rfl⟩
  rw [← hn5] at e5 hr5
  rw [← hn6] at e6 hr6
  subst e5 e6
  obtain ⟨V2, hV2⟩ : ∃ V2, V2 = w2.alloc (.cells #[.slice A5 n5 c5, .slice A6 n6 c6] 26) := ⟨_, rfl⟩
  obtain ⟨X5, hX5⟩ : ∃ X5, X5 = w2.heap.size := ⟨_, rfl⟩
  have hbV2 : Below w2.heap.size w2 V2 := by rw [hV2]; exact log_box w2 _ _
  have hB5 : V2.heap[X5]? = some (.cells #[.slice A5 n5 c5, .slice A6 n6 c6] 26 (0, 0)) := by rw [hV2, hX5]; exact World.alloc_heap_new w2 _
  have hb12 := Below.on hb2 hbV2
  have hX2 := (hb12.block X (Array.getElem?_eq_some_iff.1 H1.out.2.1).1).trans H1.out.2.1
  have BS := Lib.hid (specBack_any A A' n c m c' V1.heap.size kk xs ss V2 (H1.out.2.2.1.below hb12 (Nat.le_refl _)) (H1.out.2.2.2.below hb12 (Nat.le_refl _)) hb12.size (by have := HN.out; omega) (by have := HN.out; omega) (fun _ => by have := HN.out; omega))
  have H2 := Lib.hid (And.intro hb12 (And.intro hB5 (And.intro (hr5.to hbV2) (And.intro (hr6.to hbV2) (And.intro hn5 hn6)))))
  have HE2 := Lib.hid (And.intro hV2 hX5)
  obtain ⟨⟨a1, a2⟩, _⟩ := boxTwo_cells hX2
  rw [hV2] at a1 a2
  clear hV2 hX5 hbV2 hB5 hb12 hX2 ho5 hq5 hr5 hr6 hb2 hn5 hn6 BI
  go_wp2_with fail
  rw [← HE2.out.1, ← HE2.out.2]
  refine BS.out.mono ?_
  rintro e w3 ⟨v7, v8, rfl, ho7, hq7, _, hb3⟩
  obtain ⟨A7, c7, e7, hr7⟩ := ho7.form
  obtain ⟨A8, c8, e8, hr8⟩ := hq7.form
  rw [← H2.out.2.2.2.2.1] at e7 hr7
  rw [← H2.out.2.2.2.2.2] at e8 hr8
  subst e7 e8
  obtain ⟨V3, hV3⟩ : ∃ V3, V3 = w3.alloc (.cells #[.slice A7 n5 c7, .slice A8 n6 c8] 26) := ⟨_, rfl⟩
  obtain ⟨X7, hX7⟩ : ∃ X7, X7 = w3.heap.size := ⟨_, rfl⟩
  have hbV3 : Below w3.heap.size w3 V3 := by rw [hV3]; exact log_box w3 _ _
  have hB7 : V3.heap[X7]? = some (.cells #[.slice A7 n5 c7, .slice A8 n6 c8] 26 (0, 0)) := by rw [hV3, hX7]; exact World.alloc_heap_new w3 _
  obtain ⟨hb12, hB5, hr5, hr6, hn5, hn6⟩ := H2.out
  have hb23 := Below.on hb3 hbV3
  have hB53 := (hb23.block X5 (Array.getElem?_eq_some_iff.1 hB5).1).trans hB5
  have hsm : n5 ≤ 1048576 ∧ n6 ≤ 1048576 := by
    cases hbk : bkB xs ss kk with
    | false =>
      obtain ⟨q1, q2⟩ := bk_none hbk
      rw [q1] at hn5
      rw [q2] at hn6
      simp at hn5 hn6
      omega
    | true =>
      obtain ⟨hv, j, rfl, hj⟩ := bk_parts hbk
      obtain ⟨g1, g2, _, _⟩ := upAt_built hv hj
      obtain ⟨_, q1, q2⟩ := bk_yes hv hj g1
      rw [q1, g2] at hn5
      rw [q2, List.length_take] at hn6
      have := HN.out
      omega
  have LR := Lib.hid (fun (W' : World) (hb : Below V3.heap.size V3 W') => lrLog_any A5 A6 A7 A8 n5 c5 n6 c6 c7 c8 V2.heap.size V2.heap.size V3.heap.size V3.heap.size (bkUp xs ss kk) (bkSt xs ss kk) W' ((hr5.below hb23 (Nat.le_refl _)).below hb (by have := hb23.size; omega)) ((hr6.below hb23 (Nat.le_refl _)).below hb (by have := hb23.size; omega)) ((hr7.to hbV3).below hb (Nat.le_refl _)) ((hr8.to hbV3).below hb (Nat.le_refl _)) ⟨Nat.le_trans hb23.size hb.size, Nat.le_trans hb23.size hb.size, hb.size, hb.size⟩ hsm.1 hsm.2)
  have H3 := Lib.hid (And.intro (Below.on hb12 hb23) (And.intro hB53 (And.intro hB7 (And.intro (hr5.to hb23) (hr6.to hb23)))))
  have HE3 := Lib.hid (And.intro hV3 hX7)
  have HS3 := Lib.hid (And.intro hn5 hn6)
  obtain ⟨⟨a1, a2⟩, _⟩ := boxTwo_cells hB53
  obtain ⟨⟨b1, b2⟩, _⟩ := boxTwo_cells hB7
  rw [hV3] at a1 a2
  rw [hV3, hX7] at b1 b2
  clear hV3 hX7 hbV3 hB7 hb12 hB5 hr5 hr6 hn5 hn6 hb23 hB53 hsm ho7 hq7 hr7 hr8 hb3 BS
  cases hbk : bkB xs ss kk with
  | false =>
    have h05 : n5 = 0 := by rw [HS3.out.1, (bk_none hbk).1]; rfl
    subst h05
    clear hbk
    go_wp2_with fail
    rw [← HE3.out.1, ← HE3.out.2]
    refine (LR.out V3 (Below.refl _ _)).mono ?_
    rintro e w4 ⟨rfl, hb4⟩
    obtain ⟨⟨a1, a2⟩, _⟩ := boxTwo_cells ((hb4.block X5 (Array.getElem?_eq_some_iff.1 H3.out.2.1).1).trans H3.out.2.1)
    obtain ⟨⟨b1, b2⟩, _⟩ := boxTwo_cells ((hb4.block X7 (Array.getElem?_eq_some_iff.1 H3.out.2.2.1).1).trans H3.out.2.2.1)
    have HB4 := Lib.hid hb4
    clear hb4
    go_wp2_with fail
    refine (LR.out w4 HB4.out).mono ?_
    rintro e w5 ⟨rfl, hb5⟩
    have hb35 := Below.on HB4.out hb5
    obtain ⟨⟨a1, a2⟩, _⟩ := boxTwo_cells ((hb35.block X5 (Array.getElem?_eq_some_iff.1 H3.out.2.1).1).trans H3.out.2.1)
    have HB5 := Lib.hid hb35
    clear hb5 hb35
    go_wp2
    go_ret
    exact ⟨rfl, Below.on (Below.on H1.out.1 H3.out.1) HB5.out⟩
  | true =>
    obtain ⟨hv, j, rfl, hj⟩ := bk_parts hbk
    obtain ⟨g1, g2, _, _⟩ := upAt_built hv hj
    obtain ⟨_, u1, u2⟩ := bk_yes hv hj g1
    have h5n : n5 = n := by rw [HS3.out.1, u1, g2]; exact HN.out.1.symm
    have h6j : n6 = j := by rw [HS3.out.2, u2, List.length_take]; have := HN.out; omega
    subst h5n h6j
    obtain ⟨hb13, hB5, hB7, hr5, hr6⟩ := H3.out
    rw [u1] at hr5
    rw [u2] at hr6
    have hjm : n6 ≤ m := by have := HN.out; omega
    have hm17 := HN.out.2.2.2.1
    have HV := Lib.hid (And.intro hv (And.intro hj hjm))
    clear hbk g1 g2 u1 u2 hv hb13 hB7
    go_wp2_with fail
    rw [← HE3.out.1, ← HE3.out.2]
    refine (LR.out V3 (Below.refl _ _)).mono ?_
    rintro e w4 ⟨rfl, hb4⟩
    have hB54 := (hb4.block X5 (Array.getElem?_eq_some_iff.1 hB5).1).trans hB5
    have hb14 := Below.on H3.out.1 hb4
    have hX4 := (hb14.block X (Array.getElem?_eq_some_iff.1 H1.out.2.1).1).trans H1.out.2.1
    have hA4 : Rd w4 w4.heap.size A n5 xs := (H1.out.2.2.1.below hb14 (Nat.le_refl _)).more hb14.size
    have hQ4 : RdQ w4 w4.heap.size A' m ss := (H1.out.2.2.2.below hb14 (Nat.le_refl _)).more hb14.size
    have H4 := Lib.hid (And.intro (Below.on H1.out.1 hb14) (And.intro hX4 (And.intro hB54 (And.intro hA4 (And.intro hQ4 (And.intro (hr5.to hb4) (hr6.to hb4)))))))
    obtain ⟨⟨a1, a2⟩, _⟩ := boxTwo_cells hB54
    clear hB5 hr5 hr6 hb4 hB54 hb14 hX4 hA4 hQ4 H1 H2 H3 LR HE1 HE2 HE3 HS3
    go_wp2
    go_loopw [66] (fun i wr => ∃ q : Nat, q ≤ n6 ∧ i = .int .i64 q ∧ Below w4.heap.size w4 wr) (fun i _ => n6 - (intOf i).toNat)
    case atStart => exact ⟨0, Nat.zero_le _, rfl, Below.refl _ _⟩
    case round =>
      obtain ⟨q, hq, rfl, hbr⟩ := hrel
      by_cases hlt : q < n6
      · obtain ⟨hb14, hX4, hB54, hA4, hQ4, hr5, hr6⟩ := H4.out
        obtain ⟨b, off, rfl, hl1, hc1⟩ := (hr6.below hbr (Nat.le_refl _)).2 (by omega)
        obtain ⟨b2, off2, rfl, hl2, hc2⟩ := (hQ4.below hbr (Nat.le_refl _)).2 (by have := HV.out; omega)
        obtain ⟨g1, g2⟩ := hc1 q hlt
        obtain ⟨g3, g4⟩ := hc2 q (by have := HV.out; omega)
        rw [take_at hlt] at g1 g2
        revert g1 g2 g3 g4
        generalize ss[q]?.getD (0, 0) = s
        intro g1 g2 g3 g4
        obtain ⟨x, y⟩ := s
        have g1 : wr.cell? ⟨b, off + q * 2, none⟩ = some (.int .i64 x) := g1
        have g2 : wr.cell? ⟨b, off + q * 2 + 1, none⟩ = some (.int .i64 y) := g2
        have g3 : wr.cell? ⟨b2, off2 + q * 2, none⟩ = some (.int .i64 x) := g3
        have g4 : wr.cell? ⟨b2, off2 + q * 2 + 1, none⟩ = some (.int .i64 y) := g4
        obtain ⟨⟨a1, a2⟩, _⟩ := boxTwo_cells ((hbr.block X (Array.getElem?_eq_some_iff.1 hX4).1).trans hX4)
        have hqm : (q : Int) < (m : Int) := by have := HV.out; omega
        obtain ⟨W10, hW10⟩ : ∃ W10, W10 = wr.alloc (.cells #[.int .i64 x, .int .i64 y] 45) := ⟨_, rfl⟩
        obtain ⟨X10, hX10⟩ : ∃ X10, X10 = wr.heap.size := ⟨_, rfl⟩
        have hbW10 : Below wr.heap.size wr W10 := by rw [hW10]; exact (Below.refl _ _).alloc (Nat.le_refl _) _
        have hB10 : W10.heap[X10]? = some (.cells #[.int .i64 x, .int .i64 y] 45 (0, 0)) := by rw [hW10, hX10]; exact World.alloc_heap_new wr _
        obtain ⟨⟨d1, d2⟩, _⟩ := boxTwo_cells hB10
        have d3 := (hbW10.cell (World.block_lt_of_cell? wr _ a2)).trans a2
        have d4 := (hbW10.cell (World.block_lt_of_cell? wr _ g3)).trans g3
        have d5 := (hbW10.cell (World.block_lt_of_cell? wr _ g4)).trans g4
        have HW10 := Lib.hid (And.intro hW10 hX10)
        clear hW10 hX10 hbW10 hB10
        have hqj : (q : Int) < (n6 : Int) := by omega
        have HBR := Lib.hid hbr
        clear hb14 hX4 hB54 hA4 hQ4 hr5 hr6 hc1 hc2 hl1 hl2 hbr
        have HB2 := Lib.hid (fun (o : Obj) (d : Nat) => (show Below w4.heap.size w4 ((wr.alloc o).drewN d) from ⟨(HBR.out.alloc HBR.out.size o).os, (HBR.out.alloc HBR.out.size o).tape, (HBR.out.alloc HBR.out.size o).output, (HBR.out.alloc HBR.out.size o).size, (HBR.out.alloc HBR.out.size o).block⟩))
        go_wp2
        rw [← HW10.out.1, ← HW10.out.2]
        clear g1 g2 g3 g4 a1 a2
        go_quiet (fail)
        rw [HW10.out.1]
        go_wp2
        go_roundw
        case rel => exact ⟨q + 1, by omega, by go_num, HB2.out _ _⟩
        case measure => simp [intOf]; omega
      · obtain rfl : q = n6 := by omega
        obtain ⟨wr', hwr'⟩ : ∃ wr', wr' = wr := ⟨_, rfl⟩
        rw [← hwr'] at hbr ⊢
        clear hwr'
        obtain ⟨hb14, hX4, hB54, hA4, hQ4, hr5, hr6⟩ := H4.out
        have hXr := (hbr.block X (Array.getElem?_eq_some_iff.1 hX4).1).trans hX4
        have hB5r := (hbr.block X5 (Array.getElem?_eq_some_iff.1 hB54).1).trans hB54
        obtain ⟨Vb, hVb⟩ : ∃ Vb, Vb = wr'.alloc (.cells #[.slice A5 n5 c5, .slice A6 q c6] 26) := ⟨_, rfl⟩
        obtain ⟨Xb, hXb⟩ : ∃ Xb, Xb = wr'.heap.size := ⟨_, rfl⟩
        have hbVb : Below wr'.heap.size wr' Vb := by rw [hVb]; exact log_box wr' _ _
        have hBb : Vb.heap[Xb]? = some (.cells #[.slice A5 n5 c5, .slice A6 q c6] 26 (0, 0)) := by rw [hVb, hXb]; exact World.alloc_heap_new wr' _
        have hb4b : Below w4.heap.size w4 Vb := hbr.trans (hbVb.mono hbr.size)
        obtain ⟨SA, sc, hsl, hrs⟩ := steps_from_rd A' m c' q HV.out.2.2 HN.out.2.2.2.2 hQ4
        obtain ⟨⟨a1, a2⟩, _⟩ := boxTwo_cells hB5r
        obtain ⟨⟨b1, b2⟩, _⟩ := boxTwo_cells ((hbVb.block X (Array.getElem?_eq_some_iff.1 hXr).1).trans hXr)
        have START : Hid (∃ A9 c9 A10 c10, Vb.heap[Xb]? = some (.cells #[.slice A9 n5 c9, .slice A10 (q + 0) c10] 26 (0, 0)) ∧ Rd Vb Vb.heap.size A9 n5 (upAt xs ss (q + 0)) ∧ RdQ Vb Vb.heap.size A10 (q + 0) (ss.take (q + 0)) ∧ Below w4.heap.size w4 Vb ∧ Below wr'.heap.size wr' Vb ∧ Xb < Vb.heap.size) :=
          ⟨A5, c5, A6, c6, hBb, (hr5.below hb4b (Nat.le_refl _)).more hb4b.size, (hr6.below hb4b (Nat.le_refl _)).more hb4b.size, hb4b, hbVb, (Array.getElem?_eq_some_iff.1 hBb).1⟩
        have HRS := Lib.hid hrs
        have HEb := Lib.hid (And.intro hVb hXb)
        have HBR := Lib.hid (And.intro hbr (And.intro hXr hB5r))
        rw [hVb] at b1 b2
        obtain ⟨L, hL⟩ : ∃ L, L = m - q := ⟨_, rfl⟩
        rw [← hL] at hsl HRS
        have HL := Lib.hid hL
        have hL17 : L ≤ 17 := by omega
        clear hVb hXb hbVb hBb hb4b hrs hb14 hX4 hB54 hA4 hQ4 hr5 hr6 hXr hB5r hbr hL hlt
        go_wp2
        rw [← HEb.out.1, ← HEb.out.2]
        go_loopw [85] (fun i wz => ∃ r : Nat, r ≤ L ∧ i = .int .i64 r ∧ Hid (∃ A9 c9 A10 c10, wz.heap[Xb]? = some (.cells #[.slice A9 n5 c9, .slice A10 (q + r) c10] 26 (0, 0)) ∧ Rd wz wz.heap.size A9 n5 (upAt xs ss (q + r)) ∧ RdQ wz wz.heap.size A10 (q + r) (ss.take (q + r)) ∧ Below w4.heap.size w4 wz ∧ Below wr'.heap.size wr' wz ∧ Xb < wz.heap.size)) (fun i _ => L - (intOf i).toNat)
        case atStart => exact ⟨0, Nat.zero_le _, rfl, START⟩
        case round =>
          obtain ⟨r, hr, rfl, HR⟩ := hrel
          obtain ⟨A9, c9, A10, c10, hBb, hr9, hr10, hb4z, hbrz, hxb⟩ := HR.out
          clear HR START
          by_cases hlt : r < L
          · obtain ⟨b, off, rfl, hl1, hc1⟩ := (HRS.out.below hb4z (Nat.le_refl _)).2 (by omega)
            obtain ⟨g1, g2⟩ := hc1 r hlt
            have hqr : q + r < ss.length := by have := HL.out; have := HN.out; omega
            rw [List.getElem?_drop] at g1 g2
            obtain ⟨j1, j2, j3⟩ := jl_redo HV.out.1 hqr
            obtain ⟨_, ul, _, _⟩ := upAt_built HV.out.1 (show q + r + 1 ≤ ss.length by omega)
            have hl' : (ss.take (q + r + 1)).length = q + r + 1 := by rw [List.length_take]; omega
            revert g1 g2 j1 j2 j3
            generalize ss[q + r]?.getD (0, 0) = s
            intro g1 g2 j1 j2 j3
            obtain ⟨x, y⟩ := s
            have g1 : wr.cell? ⟨b, off + r * 2, none⟩ = some (.int .i64 x) := g1
            have g2 : wr.cell? ⟨b, off + r * 2 + 1, none⟩ = some (.int .i64 y) := g2
            have j1 : jlB (upAt xs ss (q + r)) (ss.take (q + r)) x y = true := j1
            have j2 : jlUp (upAt xs ss (q + r)) (ss.take (q + r)) x y = upAt xs ss (q + r + 1) := j2
            have j3 : jlSt (upAt xs ss (q + r)) (ss.take (q + r)) x y = ss.take (q + r + 1) := j3
            obtain ⟨W13, hW13⟩ : ∃ W13, W13 = wr.alloc (.cells #[.int .i64 x, .int .i64 y] 45) := ⟨_, rfl⟩
            have hbW13 : Below wr.heap.size wr W13 := by rw [hW13]; exact (Below.refl _ _).alloc (Nat.le_refl _) _
            have JL0 := implJoinLog_any A9 A10 n5 c9 (q + r) c10 W13.heap.size x y (upAt xs ss (q + r)) (ss.take (q + r)) W13 (hr9.to hbW13) (hr10.to hbW13) (Nat.le_refl _) (by have := HN.out; omega) (by have := HN.out; omega)
            rw [j1, j2, j3] at JL0
            have JL := Lib.hid JL0
            have hB13 := (hbW13.block Xb hxb).trans hBb
            obtain ⟨⟨a1, a2⟩, _⟩ := boxTwo_cells hB13
            rw [hW13] at a1 a2
            have HR := Lib.hid (And.intro hB13 (And.intro (hb4z.trans (hbW13.mono hb4z.size)) (And.intro (hbrz.trans (hbW13.mono hbrz.size)) (And.intro (show Xb < W13.heap.size by have := hbW13.size; omega) (And.intro ul hl')))))
            have HW13 := Lib.hid hW13
            have hrL : (r : Int) < (L : Int) := by omega
            clear JL0 j1 j2 j3 ul hl' hB13 hW13 hbW13 hBb hr9 hr10 hb4z hbrz hxb hc1 hl1 hqr
            obtain ⟨qr1, hqr1⟩ : ∃ qr1, qr1 = q + r + 1 := ⟨_, rfl⟩
            have HQ1 := Lib.hid hqr1
            rw [← hqr1] at JL HR
            clear hqr1
            generalize q + r = qr at JL a2
            go_wp2_with fail
            rw [← HW13.out]
            refine JL.out.mono ?_
            rintro e w14 ⟨v, v2, rfl, ho, hq', _, hb14⟩
            obtain ⟨hB13, hb4z, hbrz, hxb, ul, hl'⟩ := HR.out
            obtain ⟨B1, d1, e1, -⟩ := ho.form
            obtain ⟨B2, d2, e2, -⟩ := hq'.form
            rw [ul, ← HN.out.1] at e1
            rw [hl'] at e2
            subst e1 e2
            obtain ⟨W9, hW9⟩ : ∃ W9, W9 = w14.alloc (.cells #[.slice B1 n5 d1, .slice B2 qr1 d2] 26) := ⟨_, rfl⟩
            have hbW9 : Below w14.heap.size w14 W9 := by rw [hW9]; exact log_box w14 _ _
            have hbr9 := Below.on hb14 hbW9
            have hB89 := (hbr9.block Xb hxb).trans hB13
            obtain ⟨⟨x1, x2⟩, x3, x4⟩ := boxTwo_cells hB89
            have hgr := boxTwo_grown W9 Xb (.slice B1 n5 d1) (.slice B2 qr1 d2)
            have ho9 := (ho.keep hbW9 (Nat.le_refl _)).row hgr hxb
            have hq9 := (hq'.keep hbW9 (Nat.le_refl _)).row hgr hxb
            have hXbw : w4.heap.size ≤ Xb ∧ Xb = wr'.heap.size := ⟨by have := HEb.out.2; have := HBR.out.1.size; omega, HEb.out.2⟩
            have hbz4 : Below w4.heap.size w4 ((W9.setCell ⟨Xb, 0, none⟩ (.slice B1 n5 d1)).setCell ⟨Xb, 1, none⟩ (.slice B2 qr1 d2)) := boxTwo_below (hb4z.trans (hbr9.mono hb4z.size)) hXbw.1 _ _
            have hbzr : Below wr'.heap.size wr' ((W9.setCell ⟨Xb, 0, none⟩ (.slice B1 n5 d1)).setCell ⟨Xb, 1, none⟩ (.slice B2 qr1 d2)) := boxTwo_below (hbrz.trans (hbr9.mono hbrz.size)) (by omega) _ _
            have hszb : Xb < ((W9.setCell ⟨Xb, 0, none⟩ (.slice B1 n5 d1)).setCell ⟨Xb, 1, none⟩ (.slice B2 qr1 d2)).heap.size := by
              have := hgr.size
              have := hbr9.size
              omega
            have NEXT := Lib.hid (And.intro (boxTwo_set hB89 (.slice B1 n5 d1) (.slice B2 qr1 d2)) (And.intro ho9.rd (And.intro hq9.rd (And.intro hbz4 (And.intro hbzr hszb)))))
            have HW9 := Lib.hid hW9
            rw [hW9] at x1 x2 x3 x4
            clear hW9 hbW9 hbr9 hB89 hgr ho9 hq9 hbz4 hbzr hszb hB13 hb4z hbrz ul hl' HR hb14 ho hq' JL hxb hXbw a1 a2
            go_wp2
            rw [← HW9.out]
            go_roundw
            case rel => exact ⟨r + 1, by omega, by go_num, by rw [show q + (r + 1) = qr1 by rw [HQ1.out, Nat.add_assoc]]; exact Lib.hid ⟨B1, d1, B2, d2, NEXT.out⟩⟩
            case measure => simp [intOf]; omega
          · obtain rfl : r = L := by omega
            have hqm : q + r = m := by have := HL.out; have := HV.out; omega
            have hall : upAt xs ss (q + r) = xs := by rw [hqm, HN.out.2.1]; exact upAt_all HV.out.1
            have htk : ss.take (q + r) = ss := by rw [hqm, HN.out.2.1]; exact List.take_of_length_le (Nat.le_refl _)
            rw [hall] at hr9
            rw [htk] at hr10
            rw [hqm] at hr10 hBb
            obtain ⟨_, gl, _, gv⟩ := upAt_built HV.out.1 (show q ≤ ss.length by have := HN.out; have := HV.out; omega)
            obtain ⟨hb14, hX4, hB54, hA4, hQ4, hr5, hr6⟩ := H4.out
            have hB5z := (hb4z.block X5 (Array.getElem?_eq_some_iff.1 hB54).1).trans hB54
            have hXz := (hb4z.block X (Array.getElem?_eq_some_iff.1 hX4).1).trans hX4
            have LV0 := implLogV_any A5 A6 n5 c5 q c6 w4.heap.size (upAt xs ss q) (ss.take q) wr (hr5.below hb4z (Nat.le_refl _)) (hr6.below hb4z (Nat.le_refl _)) hb4z.size (by have := HN.out; omega) (by have := HN.out; have := HV.out; omega)
            rw [gv] at LV0
            have LV := Lib.hid LV0
            obtain ⟨⟨a1, a2⟩, _⟩ := boxTwo_cells hB5z
            have HZ := Lib.hid (And.intro hb4z (And.intro hBb (And.intro hB5z (And.intro hXz (And.intro hr9 (And.intro hr10 (And.intro (hA4.below hb4z (Nat.le_refl _)) (And.intro (hQ4.below hb4z (Nat.le_refl _)) hb14))))))))
            clear LV0 gl gv hb14 hX4 hB54 hA4 hQ4 hr5 hr6 hB5z hXz hall htk hr9 hr10 hb4z hbrz hxb hBb hqm
            go_wp2_with fail
            refine LV.out.mono ?_
            rintro e w15 ⟨rfl, hb15⟩
            obtain ⟨hb4z, hBb, hB5z, hXz, hr9, hr10, hA, hQ, hb14⟩ := HZ.out
            obtain ⟨⟨a1, a2⟩, _⟩ := boxTwo_cells ((hb15.block X5 (Array.getElem?_eq_some_iff.1 hB5z).1).trans hB5z)
            obtain ⟨⟨b1, b2⟩, _⟩ := boxTwo_cells ((hb15.block X (Array.getElem?_eq_some_iff.1 hXz).1).trans hXz)
            obtain ⟨⟨d1, d2⟩, _⟩ := boxTwo_cells ((hb15.block Xb (Array.getElem?_eq_some_iff.1 hBb).1).trans hBb)
            have LR := Lib.hid (lrLog_any A9 A10 A A' n5 c9 m c10 c c' wr.heap.size wr.heap.size w4.heap.size w4.heap.size xs ss w15 (hr9.below hb15 (Nat.le_refl _)) (hr10.below hb15 (Nat.le_refl _)) (hA.below hb15 hb4z.size) (hQ.below hb15 hb4z.size) ⟨hb15.size, hb15.size, Nat.le_trans hb4z.size hb15.size, Nat.le_trans hb4z.size hb15.size⟩ (by have := HN.out; omega) (by have := HN.out; omega))
            have HB15 := Lib.hid (hb4z.trans (hb15.mono hb4z.size))
            clear hb4z hBb hB5z hXz hr9 hr10 hA hQ hb14 hb15 LV
            go_wp2_with fail
            refine LR.out.mono ?_
            rintro e w16 ⟨rfl, hb16⟩
            have HB16 := Lib.hid (HB15.out.trans (hb16.mono HB15.out.size))
            clear hb16
            go_wp2
            go_ret
            exact ⟨rfl, Below.on H4.out.1 HB16.out⟩
end Go.Proofs.Ytdbkoicbhddpfaa
