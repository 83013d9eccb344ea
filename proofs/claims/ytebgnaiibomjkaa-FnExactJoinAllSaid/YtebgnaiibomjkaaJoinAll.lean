/- The program's JoinAll, UsefulPairs and CountClasses. Condition: lengths up to 1048576. -/
import Derived.Test.YtebgnaiibomjkaaComm
import Derived.Test.YtebgnaiibomjkaaPairsOk
namespace Go.Proofs.Ytebgnaiibomjkaa
open Go.RowKit Go.Shelf

set_option maxRecDepth 100000 in
set_option maxHeartbeats 4000000 in
theorem implJoinAll_any (A : Option Addr) (n c B0 : Nat) (zs : List Int) (r : Int) (A' : Option Addr) (m c' B0' : Nat) (qs : List (Int × Int)) (w : World) (h : Rd w B0 A n zs) (hB0 : B0 ≤ w.heap.size) (hb : n ≤ 1048576) (hq : RdQ w B0' A' m qs) (hB0' : B0' ≤ w.heap.size) (hb' : m ≤ 1048576) :
    Calls Try.prog 25 #[.slice A n c, .int .i64 r, .slice A' m c'] w fun e w' => ∃ v, e = .returned (.tuple #[v, .bool (jaB zs r qs)]) ∧ Own w' w.heap.size v (jaN zs r qs) ∧ Below w.heap.size w w' := by
  have R := Lib.hid (joiningOf_any A n c B0 zs w h hB0 hb)
  have PV := Lib.hid (fun (w1 : World) (hb1 : Below w.heap.size w w1) => pairsValid_any (n : Int) A' m c' B0' qs w1 (hq.below hb1 hB0') (Nat.le_trans hB0' hb1.size) hb')
  have SP := Lib.hid (fun (w1 : World) (hb1 : Below w.heap.size w w1) => sendPairs_any A' m c' B0' qs w1 (hq.below hb1 hB0') (Nat.le_trans hB0' hb1.size) hb')
  have HN := Lib.hid h.1
  have HM := Lib.hid hq.1
  have hn0 : Own w w.heap.size (.slice none 0 0) [] := ⟨by simp, .inl ⟨rfl, rfl⟩⟩
  obtain ⟨x, hx⟩ : ∃ x, x = jaB zs r qs := ⟨_, rfl⟩
  obtain ⟨ss, hss⟩ : ∃ ss, ss = jaN zs r qs := ⟨_, rfl⟩
  rw [← hx, ← hss]
  have HX := Lib.hid hx
  have HSS := Lib.hid hss
  have HNO : Hid (x = false → ss = []) := fun e => by rw [HSS.out]; exact jaN_no (HX.out.symm.trans e)
  clear h hx hss hq
  go_enter Try.func25, Try.ntmps25
  go_wp2_with fail
  refine R.out.mono ?_
  rintro e w1 ⟨hb1, ⟨hv, rfl⟩ | ⟨hv, J, M, N, rfl, hN, hm, hj, h1, h2, h3⟩⟩
  · have hx0 := HX.out.trans (jaB_fv hv)
    have hs0 := HNO.out hx0
    subst hx0
    subst hs0
    have RF : Hid (Calls Try.prog 56 #[.int .i64 r] w1 fun e w' => (∃ v, e = .returned v) ∧ w' = w1) := by
      by_cases hr : 0 ≤ r ∧ r ≤ 2
      · exact (ruleFor_yes r hr w1).mono fun _ _ h => ⟨⟨_, h.1⟩, h.2.symm⟩
      · exact (ruleFor_no r hr w1).mono fun _ _ h => ⟨⟨_, h.1⟩, h.2.symm⟩
    have HB1 := Lib.hid hb1
    clear hv hb1
    go_wp2_with fail
    refine RF.out.mono ?_
    rintro e w2 ⟨⟨v, rfl⟩, hw⟩
    subst hw
    go_wp2
    go_ret2
    exact ⟨_, rfl, hn0.keep HB1.out (Nat.le_refl _), HB1.out⟩
  · by_cases hr : 0 ≤ r ∧ r ≤ 2
    · have RF := Lib.hid (ruleFor_yes r hr w1)
      have hNd : Nd w1 N zs := by unfold Nd; rw [HN.out]; exact hN.1
      have HS1 := Lib.hid (And.intro hb1 (And.intro hNd (And.intro hm (And.intro hj (And.intro h1 (And.intro h2 h3))))))
      have P1 := Lib.hid (PV.out w1 hb1)
      obtain ⟨d, hd⟩ : ∃ d, d = okQ (n : Int) qs := ⟨_, rfl⟩
      rw [← hd] at P1
      have HD := Lib.hid hd
      have HV := Lib.hid hv
      have HR := Lib.hid hr
      clear hv hb1 hN hm hj h1 h2 h3 hr hNd hd PV
      go_wp2_with fail
      refine RF.out.mono ?_
      rintro e w2 ⟨rfl, hw⟩
      subst hw
      go_wp2_with fail
      refine P1.out.mono ?_
      rintro e w2 ⟨rfl, hb2⟩
      have hbx := Lib.hid (HS1.out.1.trans (hb2.mono HS1.out.1.size))
      cases d with
      | false =>
        have hx0 := HX.out.trans (jaB_ok (by rw [HN.out]; exact HD.out.symm))
        have hs0 := HNO.out hx0
        subst hx0
        subst hs0
        clear hb2
        go_wp2
        go_ret2
        exact ⟨_, rfl, hn0.keep hbx.out (Nat.le_refl _), hbx.out⟩
      | true =>
        have hx1 := HX.out.trans (jaB_of HV.out HR.out (by rw [HN.out]; exact HD.out.symm))
        have hs1 := HSS.out.trans (jaN_yes (HX.out.symm.trans hx1))
        subst hx1
        subst hs1
        have S2 := Lib.hid (SP.out w2 hbx.out)
        have HB2 := Lib.hid hb2
        clear hb2 SP
        go_wp2_with fail
        refine S2.out.mono ?_
        rintro e w3 ⟨rfl, hch, hb3⟩
        have hb13 := HB2.out.trans (hb3.mono HB2.out.size)
        have hj3 : Boxed w3 J 136 (.slice (some ⟨M, 0, none⟩) n n) := (hb13.block J (Boxed.lt HS1.out.2.2.2.1)).trans HS1.out.2.2.2.1
        have JC := Lib.hid (joinComing_any r HR.out J M N n w2.heap.size m m qs (szN zs) (htN zs) zs w3 (HS1.out.2.2.1.below hb13 HS1.out.2.2.1.lt) hj3 (HS1.out.2.1.eq (hb13.block N HS1.out.2.1.lt)) HS1.out.2.2.2.2.2.1 HS1.out.2.2.2.2.2.2 (by have := Boxed.lt HS1.out.2.2.2.1; have := HB2.out.size; omega) HV.out HN.out (RootsTell.all zs) HD.out.symm hch)
        have HJ3 := Lib.hid hj3
        have HB3 := Lib.hid (hbx.out.trans (hb3.mono hbx.out.size))
        have HJL : Hid (J < w3.heap.size ∧ w.heap.size ≤ w2.heap.size) := ⟨Boxed.lt hj3, hbx.out.size⟩
        have HJC : Hid (J < w2.heap.size) := Nat.lt_of_lt_of_le (Boxed.lt HS1.out.2.2.2.1) HB2.out.size
        clear hch hb3 hb13 hj3
        go_wp2_with fail
        refine JC.out.mono ?_
        rintro e w4 ⟨v, rfl, _, hN4, ⟨sz', ht', hm4, _⟩, hc4⟩
        have hlo : ∀ k, (k = N ∨ k = M ∨ k = w2.heap.size) → w.heap.size ≤ k := fun k hk => by
          have a1 := HS1.out.2.2.2.2.1
          have a2 := HS1.out.2.2.2.2.2.1
          have a3 := HJL.out.2
          rcases hk with rfl | rfl | rfl
          · exact a1
          · omega
          · exact a3
        have hbz := HB3.out.trans (hc4.below HB3.out.size hlo)
        have hj4 : Boxed w4 J 136 (.slice (some ⟨M, 0, none⟩) n n) := (hc4.block J HJL.out.1 (by
          have a2 := HS1.out.2.2.2.2.2.1
          have a3 := HS1.out.2.2.2.2.2.2
          have a4 := HJC.out
          intro hk
          rcases hk with hk | hk | hk <;> omega)).trans HJ3.out
        have HBZ := Lib.hid hbz
        have FO := Lib.hid (forest_any J M N n sz' ht' _ w4 hm4 hj4 hN4 (allL_fv HV.out r (by rw [HN.out]; exact okQ_in HD.out.symm)) (by rw [allL_len]; exact HN.out) hb)
        clear hN4 hm4 hc4 hlo hbz hj4
        go_wp2_with fail
        refine FO.out.mono ?_
        rintro e w5 ⟨v5, rfl, ho, hb5⟩
        have HO := Lib.hid (ho.less HBZ.out.size)
        have HB5 := Lib.hid (HBZ.out.trans (hb5.mono HBZ.out.size))
        clear ho hb5
        go_wp2_with fail
        go_ret2
        exact ⟨_, rfl, HO.out, HB5.out⟩
    · have hx0 := HX.out.trans (jaB_rule hr)
      have hs0 := HNO.out hx0
      subst hx0
      subst hs0
      have RF := Lib.hid (ruleFor_no r hr w1)
      have HB1 := Lib.hid hb1
      clear hv hb1 hN hm hj h1 h2 h3 hr
      go_wp2_with fail
      refine RF.out.mono ?_
      rintro e w2 ⟨rfl, hw⟩
      subst hw
      go_wp2
      go_ret2
      exact ⟨_, rfl, hn0.keep HB1.out (Nat.le_refl _), HB1.out⟩

set_option maxRecDepth 100000 in
set_option maxHeartbeats 4000000 in
theorem joiningAlone_any (n : Int) (A' : Option Addr) (m c' B0' : Nat) (qs : List (Int × Int)) (w : World) (hq : RdQ w B0' A' m qs) (hB0' : B0' ≤ w.heap.size) (hb' : m ≤ 1048576) :
    Calls Try.prog 82 #[.int .i64 n, .slice A' m c'] w fun e w' => Below w.heap.size w w' ∧ ((usB n qs = false ∧ e = .returned (.pointer none)) ∨
      (usB n qs = true ∧ ∃ J M N n0 : Nat, n = (n0 : Int) ∧ e = .returned (.pointer (some ⟨J, 0, none⟩)) ∧ Nd w' N (roots n0) ∧ MemK w' M N n0 n0 (szN (roots n0)) (htN (roots n0)) ∧ Boxed w' J 136 (.slice (some ⟨M, 0, none⟩) n0 n0) ∧ w.heap.size ≤ N ∧ N < M ∧ M < J)) := by
  have NW := Lib.hid (implNew_any n w)
  have PV := Lib.hid (fun (w1 : World) (hb1 : Below w.heap.size w w1) => pairsValid_any n A' m c' B0' qs w1 (hq.below hb1 hB0') (Nat.le_trans hB0' hb1.size) hb')
  obtain ⟨x, hx⟩ : ∃ x, x = usB n qs := ⟨_, rfl⟩
  rw [← hx]
  have HX := Lib.hid hx
  clear hx hq
  by_cases hn : 1 ≤ n ∧ n ≤ 16
  · obtain ⟨N0, rfl⟩ : ∃ N0 : Nat, n = N0 := ⟨n.toNat, by omega⟩
    have e1 : newOk (N0 : Int) = true := by unfold newOk; exact decide_eq_true hn
    have e2 : newN (N0 : Int) = N0 := by unfold newN; rw [if_pos hn]; rfl
    rw [e1, e2] at NW
    have HFV : Hid (fvB (roots N0) = true) := roots_fv (by omega) (by omega)
    have HN : Hid (1 ≤ N0 ∧ N0 ≤ 16) := ⟨by omega, by omega⟩
    clear e1 e2 hn
    obtain ⟨d, hd⟩ : ∃ d, d = okQ (N0 : Int) qs := ⟨_, rfl⟩
    rw [← hd] at PV
    have HD := Lib.hid hd
    clear hd
    go_enter Try.func82, Try.ntmps82
    go_wp2_with fail
    refine NW.out.mono ?_
    rintro e w1 ⟨v1, rfl, ho1, hb1⟩
    obtain ⟨A1, c1, rfl, hr1⟩ := ho1.form
    have P1 := Lib.hid (PV.out w1 hb1)
    have HL1 : Hid ((roots N0).length = N0) := roots_len _
    rw [roots_len] at hr1 ⊢
    have HR1 := Lib.hid hr1
    have HB1 := Lib.hid hb1
    clear ho1 hr1 hb1 PV
    go_wp2_with fail
    refine P1.out.mono ?_
    rintro e w2 ⟨rfl, hb2⟩
    have hbx := Lib.hid (HB1.out.trans (hb2.mono HB1.out.size))
    cases d with
    | false =>
      have HX0 := Lib.hid (HX.out.trans (usB_ok HD.out.symm))
      clear hb2
      go_wp2
      go_ret
      exact ⟨hbx.out, .inl ⟨HX0.out, rfl⟩⟩
    | true =>
      have HX1 := Lib.hid (HX.out.trans (usB_of (by have := HN.out; omega) HD.out.symm))
      have JO := Lib.hid (joiningOf_any A1 N0 c1 w1.heap.size (roots N0) w2 (HR1.out.below hb2 (Nat.le_refl _)) hb2.size (by have := HN.out; omega))
      clear hb2
      go_wp2_with fail
      refine JO.out.mono ?_
      rintro e w3 ⟨hb3, ⟨hv, rfl⟩ | ⟨hv, J, M, N, rfl, hN, hm, hj, h1, h2, h3⟩⟩
      · rw [HFV.out] at hv
        cases hv
      have hb3w := hbx.out.trans (hb3.mono hbx.out.size)
      have hNd : Nd w3 N (roots N0) := by unfold Nd; rw [HL1.out]; exact hN.1
      have HS1 := Lib.hid (And.intro hb3w (And.intro hNd (And.intro hm (And.intro hj (And.intro (Nat.le_trans hbx.out.size h1) (And.intro h2 h3))))))
      clear hv hb3 hN hm hj h1 h2 h3 hNd hb3w
      go_wp2
      go_ret
      obtain ⟨q1, q2, q3, q4, q5, q6, q7⟩ := HS1.out
      exact ⟨q1, .inr ⟨HX1.out, J, M, N, N0, rfl, rfl, q2, q3, q4, q5, q6, q7⟩⟩
  · have e1 : newOk n = false := by unfold newOk; exact decide_eq_false hn
    rw [e1] at NW
    have HX0 := Lib.hid (HX.out.trans (usB_n hn))
    clear e1 hn
    go_enter Try.func82, Try.ntmps82
    go_wp2_with fail
    refine NW.out.mono ?_
    rintro e w1 ⟨v1, rfl, ho1, hb1⟩
    have HB1 := Lib.hid hb1
    clear ho1 hb1
    go_wp2_with fail
    go_ret
    exact ⟨HB1.out, .inl ⟨HX0.out, rfl⟩⟩

set_option maxRecDepth 100000 in
set_option maxHeartbeats 4000000 in
theorem implUseful_any (n : Int) (A' : Option Addr) (m c' B0' : Nat) (qs : List (Int × Int)) (w : World) (hq : RdQ w B0' A' m qs) (hB0' : B0' ≤ w.heap.size) (hb' : m ≤ 1048576) :
    Calls Try.prog 29 #[.int .i64 n, .slice A' m c'] w fun e w' => ∃ v, e = .returned (.tuple #[v, .bool (usB n qs)]) ∧ Own w' w.heap.size v (usN n qs) ∧ Below w.heap.size w w' := by
  have JA := Lib.hid (joiningAlone_any n A' m c' B0' qs w hq hB0' hb')
  have SP := Lib.hid (fun (w1 : World) (hb1 : Below w.heap.size w w1) => sendPairs_any A' m c' B0' qs w1 (hq.below hb1 hB0') (Nat.le_trans hB0' hb1.size) hb')
  have hn0 : Own w w.heap.size (.slice none 0 0) [] := ⟨by simp, .inl ⟨rfl, rfl⟩⟩
  obtain ⟨x, hx⟩ : ∃ x, x = usB n qs := ⟨_, rfl⟩
  obtain ⟨ss, hss⟩ : ∃ ss, ss = usN n qs := ⟨_, rfl⟩
  rw [← hx, ← hss]
  have HX := Lib.hid hx
  have HSS := Lib.hid hss
  have HNO : Hid (x = false → ss = []) := fun e => by rw [HSS.out]; exact usN_no (HX.out.symm.trans e)
  clear hx hss hq
  go_enter Try.func29, Try.ntmps29
  go_wp2_with fail
  refine JA.out.mono ?_
  rintro e w3 ⟨hb3, ⟨hu, rfl⟩ | ⟨hu, J, M, N, N0, rfl, rfl, hNd, hm, hj, h1, h2, h3⟩⟩
  · have hx0 := HX.out.trans hu
    have hs0 := HNO.out hx0
    subst hx0
    subst hs0
    have HB3 := Lib.hid hb3
    clear hu hb3
    go_wp2
    go_ret2
    exact ⟨_, rfl, hn0.keep HB3.out (Nat.le_refl _), HB3.out⟩
  · have hx1 := HX.out.trans hu
    have hs1 := HSS.out.trans (usN_yes hu)
    have hp := usB_parts hu
    have HFV : Hid (fvB (roots N0) = true) := roots_fv (by omega) (by omega)
    have HL1 : Hid ((roots N0).length = N0) := roots_len _
    have HD : Hid (okQ (N0 : Int) qs = true) := hp.2
    subst hx1
    subst hs1
    have HS1 := Lib.hid (And.intro hb3 (And.intro hNd (And.intro hm (And.intro hj (And.intro h1 (And.intro h2 h3))))))
    have S2 := Lib.hid (SP.out w3 hb3)
    clear hu hb3 hm hj h1 h2 h3 hNd SP hp
    go_wp2_with fail
    refine S2.out.mono ?_
    rintro e w4 ⟨rfl, hch, hb4⟩
    have hj4 : Boxed w4 J 136 (.slice (some ⟨M, 0, none⟩) N0 N0) := (hb4.block J (Boxed.lt HS1.out.2.2.2.1)).trans HS1.out.2.2.2.1
    have jc := joinComing_any 1 (by omega) J M N N0 w3.heap.size m m qs (szN (roots N0)) (htN (roots N0)) (roots N0) w4 (HS1.out.2.2.1.below hb4 HS1.out.2.2.1.lt) hj4 (HS1.out.2.1.eq (hb4.block N HS1.out.2.1.lt)) HS1.out.2.2.2.2.2.1 HS1.out.2.2.2.2.2.2 (Boxed.lt HS1.out.2.2.2.1) HFV.out HL1.out (RootsTell.all _) HD.out hch
    rw [show ruleT 1 = 104 from rfl] at jc
    have JC := Lib.hid jc
    have HB4 := Lib.hid (HS1.out.1.trans (hb4.mono HS1.out.1.size))
    have HJL : Hid (w.heap.size ≤ w3.heap.size) := HS1.out.1.size
    clear hch hb4 hj4 jc
    go_wp2_with fail
    refine JC.out.mono ?_
    rintro e w5 ⟨v, rfl, ho, _, _, hc5⟩
    have hlo : ∀ k, (k = N ∨ k = M ∨ k = w3.heap.size) → w.heap.size ≤ k := fun k hk => by
      have a1 := HS1.out.2.2.2.2.1
      have a2 := HS1.out.2.2.2.2.2.1
      have a3 := HJL.out
      rcases hk with rfl | rfl | rfl
      · exact a1
      · omega
      · exact a3
    have HBZ := Lib.hid (HB4.out.trans (hc5.below HB4.out.size hlo))
    have HO := Lib.hid (ho.less HB4.out.size)
    clear ho hc5 hlo
    go_wp2_with fail
    go_ret2
    exact ⟨_, rfl, HO.out, HBZ.out⟩

set_option maxRecDepth 100000 in
set_option maxHeartbeats 4000000 in
theorem implCount_any (n : Int) (A' : Option Addr) (m c' B0' : Nat) (qs : List (Int × Int)) (w : World) (hq : RdQ w B0' A' m qs) (hB0' : B0' ≤ w.heap.size) (hb' : m ≤ 1048576) :
    Calls Try.prog 31 #[.int .i64 n, .slice A' m c'] w fun e w' => e = .returned (.int .i64 (ccN n qs)) ∧ Below w.heap.size w w' := by
  have U := Lib.hid (implUseful_any n A' m c' B0' qs w hq hB0' hb')
  obtain ⟨z, hz⟩ : ∃ z, z = ccN n qs := ⟨_, rfl⟩
  rw [← hz]
  have hl := usN_len n qs
  obtain ⟨ss, hss⟩ : ∃ ss, ss = usN n qs := ⟨_, rfl⟩
  rw [← hss] at U hl
  cases hx : usB n qs with
  | false =>
    have HZ : Hid (z = -1) := by
      show _ = _
      rw [hz]
      unfold ccN
      rw [hx]
      simp
    rw [hx] at U
    clear hz hx hq hss
    go_enter Try.func31, Try.ntmps31
    go_wp2_with fail
    refine U.out.mono ?_
    rintro e w1 ⟨v1, rfl, ho1, hb1⟩
    have HB1 := Lib.hid hb1
    clear ho1 hb1
    go_wp2_with fail
    go_ret
    exact ⟨ret_int HZ.out.symm, HB1.out⟩
  | true =>
    have HZ : Hid (z = n - (ss.length : Int)) := by
      show _ = _
      rw [hz, hss]
      unfold ccN
      rw [if_pos hx]
    have hn := (usB_parts hx).1
    obtain ⟨hn1, hn2⟩ := hn
    rw [hx] at U
    clear hz hx hq hss
    go_enter Try.func31, Try.ntmps31
    go_wp2_with fail
    refine U.out.mono ?_
    rintro e w1 ⟨v1, rfl, ho1, hb1⟩
    obtain ⟨A1, c1, rfl, _⟩ := ho1.form
    have HB1 := Lib.hid hb1
    clear ho1 hb1
    go_wp2_with fail
    go_ret
    exact ⟨ret_int HZ.out.symm, HB1.out⟩
end Go.Proofs.Ytebgnaiibomjkaa
