/- The model's JoinAll, UsefulPairs and CountClasses. Condition: lengths up to 1048576. -/
import Derived.Test.YtebgnaiibomjkaaSpecJoin
import Derived.Test.YtebgnaiibomjkaaPairsOk
import Derived.Test.YtebgnaiibomjkaaRdR
namespace Go.Proofs.Ytebgnaiibomjkaa
open Go.RowKit

theorem below_drew1 {B : Nat} {a w : World} (h : Below B a w) : Below B a w.drew := ⟨h.os, h.tape, h.output, h.size, h.block⟩
set_option maxHeartbeats 1000000 in
theorem alone_any (m : Nat) (h1 : 1 ≤ m) (h2 : m ≤ 16) (w : World) :
    Calls Try.prog 71 #[.int .i64 (m : Int)] w fun e w' => ∃ v, e = .returned v ∧ Own w' w.heap.size v (roots m) ∧ Below w.heap.size w w' := by
  have R := Lib.hid (specNew_any (m : Int) w)
  have hn : newN (m : Int) = m := by
    unfold newN
    rw [if_pos (by omega)]
    simp
  rw [hn] at R
  clear hn
  go_enter Try.func71, Try.ntmps71
  go_wp2_with fail
  refine R.out.mono ?_
  rintro e w1 ⟨v, rfl, ho, hb⟩
  have HO := Lib.hid (And.intro ho hb)
  clear ho hb
  go_wp2
  go_ret
  exact ⟨_, rfl, HO.out.1, HO.out.2⟩

set_option maxRecDepth 100000 in
set_option maxHeartbeats 4000000 in
theorem l2All_any (A : Option Addr) (n c B0 : Nat) (zs : List Int) (r : Int) (A' : Option Addr) (m c' B0' : Nat) (qs : List (Int × Int)) (w : World) (h : Rd w B0 A n zs) (hB0 : B0 ≤ w.heap.size) (hv : fvB zs = true) (hr : 0 ≤ r ∧ r ≤ 2) (hq : RdQ w B0' A' m qs) (hB0' : B0' ≤ w.heap.size) (hok : okQ (n : Int) qs = true) :
    Calls Try.prog 78 #[.slice A n c, .int .i64 r, .slice A' m c'] w fun e w' => ∃ v, e = .returned v ∧ Own w' w.heap.size v (allL zs r (natP qs)) ∧ Below w.heap.size w w' := by
  have h16 := (fv_parts hv).2.1
  have h01 := (fv_parts hv).1
  have hln := h.1
  have hlm := hq.1
  have h24 := (okQ_parts hok).1
  have hin := okQ_in hok
  have hn1 : Hid (1 ≤ n ∧ n ≤ 1048576) := (⟨by omega, by omega⟩ : 1 ≤ n ∧ n ≤ 1048576)
  have hm24 : m ≤ 24 := by omega
  have HG : Hid (∀ k, k < m → (qs[k]?.getD (0, 0)).1 = (((natP qs)[k]?.getD (0, 0)).1 : Int) ∧ (qs[k]?.getD (0, 0)).2 = (((natP qs)[k]?.getD (0, 0)).2 : Int)) := fun k hk => okQ_get hok (by omega)
  obtain ⟨ps, hps⟩ : ∃ ps, ps = natP qs := ⟨_, rfl⟩
  have hpl : ps.length = m := by rw [hps, natP_len, hlm]
  rw [← hps] at hin HG ⊢
  have H := Lib.hid h
  have HQ := Lib.hid hq
  have HB0' := Lib.hid hB0'
  have HI := Lib.hid (And.intro hin (And.intro hpl (And.intro hv (And.intro hln hr))))
  clear h hq hv hr hok hps hin hpl hln hlm h24 hB0' h16 h01
  go_enter Try.func78, Try.ntmps78
  go_wp2_with (at_builtin; go_must (refine wpList_copy rfl (.tmp 10) (.tmp 11) rfl w A n c B0 zs rfl rfl H.out hB0 hn1.out.1 hn1.out.2 ?_); intro g1 k1 w1 ho1 hb1)
  have HO1 : Hid (∃ A1 c1, (Value.slice (some ⟨g1, 0, none⟩) n k1) = .slice A1 n c1 ∧ Own w1 w.heap.size (.slice A1 n c1) (allL zs r (ps.take 0))) := ⟨_, _, rfl, ho1⟩
  clear ho1
  go_loopw [7, 15] (fun v i wr => ∃ k : Nat, k ≤ m ∧ i = .int .i64 k ∧ Hid (∃ A1 c1, v = .slice A1 n c1 ∧ Own wr w.heap.size (.slice A1 n c1) (allL zs r (ps.take k))) ∧ Below w.heap.size w wr) (fun _ i _ => m - (intOf i).toNat)
  case atStart => exact ⟨0, Nat.zero_le _, rfl, HO1, hb1⟩
  case round =>
    obtain ⟨k, hk, rfl, HO, hbe⟩ := hrel
    clear HO1 hb1
    obtain ⟨A1, c1, rfl, ho⟩ := HO.out
    by_cases hlt : k < m
    · obtain ⟨b0, off, rfl, hbb, hc1⟩ := (HQ.out.below hbe HB0'.out).2 (by omega)
      obtain ⟨g1, g2⟩ := hc1 k hlt
      have hkk : (k : Int) < (m : Int) := by omega
      obtain ⟨e1, e2⟩ := HG.out k hlt
      rw [e1] at g1
      rw [e2] at g2
      have hpn := HI.out.1.get (k := k) (by have := HI.out.2.1; omega)
      obtain ⟨a, ha⟩ : ∃ a, a = (ps[k]?.getD (0, 0)).1 := ⟨_, rfl⟩
      obtain ⟨b, hb2⟩ : ∃ b, b = (ps[k]?.getD (0, 0)).2 := ⟨_, rfl⟩
      have hsucc := allL_succ zs r (ps := ps) (k := k) (by have := HI.out.2.1; omega)
      rw [← ha] at g1 hpn hsucc
      rw [← hb2] at g2 hpn hsucc
      obtain ⟨v, hvd⟩ : ∃ v, v = allL zs r (ps.take k) := ⟨_, rfl⟩
      rw [← hvd] at ho hsucc
      have hvl : v.length = n := by rw [hvd, allL_len]; exact HI.out.2.2.2.1
      have hvv : fvB v = true := by rw [hvd]; exact allL_fv HI.out.2.2.1 r (by rw [HI.out.2.2.2.1]; exact HI.out.1.take)
      obtain ⟨W, hW⟩ : ∃ W, W = wr.alloc (.cells #[.int .i64 (a : Int), .int .i64 (b : Int)] 42) := ⟨_, rfl⟩
      have hbW : Below wr.heap.size wr W := by rw [hW]; exact (Below.refl _ wr).alloc (Nat.le_refl _) _
      have hoW := ho.keep hbW (Nat.le_refl _)
      have hrW := hoW.rd
      have hbw := hbe.trans (hbW.mono hbe.size)
      have RQ := Lib.hid (fun (x : Nat) (hx : Hid (x < n)) (q : Nat) => Calls.quiet_of_same (P := Try.prog) (n := q) ((l1Root_any A1 n c1 _ x v (W.drewN q) (hrW.drewN q) hvv hx.out).mono fun _ _ ⟨h1, h2⟩ => ⟨h1, h2.symm⟩))
      have HA : Hid (a < n) := hpn.1
      have HB : Hid (b < n) := hpn.2
      obtain ⟨ρ, hρ⟩ : ∃ ρ, ρ = rootI v := ⟨_, rfl⟩
      rw [← hρ] at RQ
      have HS : Hid (allL zs r (ps.take (k + 1)) = if ρ a = ρ b then v else joinTo v r (ρ a) (ρ b)) := by
        show _ = _
        rw [hsucc, hρ]
        rfl
      have LJ := Lib.hid (fun (q : Nat) => l2Join_any A1 n c1 W.heap.size a b v r (W.drewN q) (hrW.drewN q) (Nat.le_refl _) hvv HI.out.2.2.2.2 HA.out HB.out)
      rw [← hρ] at LJ
      have HW := Lib.hid hW
      have HBW := Lib.hid hbw
      have HOW := Lib.hid hoW
      have HVL := Lib.hid hvl
      clear hc1 e1 e2 hpn ha hb2 hsucc hvd hvl hvv hW hbW hoW hrW hbw hρ ho HO hbe HG hbb
      obtain ⟨p, hp⟩ : ∃ p, p = ρ a := ⟨_, rfl⟩
      obtain ⟨q, hq⟩ : ∃ q, q = ρ b := ⟨_, rfl⟩
      have HPQ := Lib.hid (And.intro hp hq)
      have c1 := pair_cells wr (a : Int) (b : Int)
      rw [← HW.out] at c1
      obtain ⟨d1, d2⟩ := c1
      by_cases hpq : p = q
      · have t1 : ((ρ a : Int) != (ρ b : Int)) = false := by rw [← hp, ← hq, hpq]; simp
        have HF : Hid (allL zs r (ps.take (k + 1)) = v) := by
          show _ = _
          rw [HS.out, ← hp, ← hq, if_pos hpq]
        clear hp hq hpq HS LJ
        go_wp2
        rw [← HW.out]
        go_quiet ((go_at_call 62; exact RQ.out _ (by first | exact HA | exact HB) _))
        have HO2 : Hid (∃ A3 c3, (Value.slice A1 n c1) = .slice A3 n c3 ∧ Own (W.drewN nq) w.heap.size (.slice A3 n c3) (allL zs r (ps.take (k + 1)))) := ⟨_, _, rfl, by rw [HF.out]; exact HOW.out.drewN nq⟩
        have HB2 := Lib.hid (below_drewN HBW.out nq)
        go_wp2
        go_roundw
        case rel => exact ⟨k + 1, by omega, by go_num, HO2, HB2.out⟩
        case measure => simp [intOf]; omega
      · have t1 : ((ρ a : Int) != (ρ b : Int)) = true := by rw [← hp, ← hq]; simp; omega
        have HF : Hid (allL zs r (ps.take (k + 1)) = joinTo v r (ρ a) (ρ b)) := by
          show _ = _
          rw [HS.out, ← hp, ← hq, if_neg hpq]
        clear hp hq hpq HS
        go_wp2
        rw [← HW.out]
        go_quiet ((go_at_call 62; exact RQ.out _ (by first | exact HA | exact HB) _))
        have L2 := Lib.hid (LJ.out nq)
        have HB2 := Lib.hid (below_drewN HBW.out nq)
        clear LJ RQ
        go_wp2_with fail
        refine L2.out.mono ?_
        rintro e w3 ⟨v3, rfl, ho3, hb3⟩
        have hlen3 : (joinTo v r (ρ a) (ρ b)).length = n := by rw [joinTo_len]; exact HVL.out
        obtain ⟨A3, c3, rfl, _⟩ := ho3.form
        have HO3 : Hid (∃ A4 c4, (Value.slice A3 (joinTo v r (ρ a) (ρ b)).length c3) = .slice A4 n c4 ∧ Own w3 w.heap.size (.slice A4 n c4) (allL zs r (ps.take (k + 1)))) := ⟨A3, c3, by rw [hlen3], by rw [HF.out]; rw [hlen3] at ho3; exact ho3.less HB2.out.size⟩
        have HB3 := Lib.hid (HB2.out.trans (hb3.mono HB2.out.size))
        clear ho3 hb3 hlen3
        go_wp2
        go_roundw
        case rel => exact ⟨k + 1, by omega, by go_num, HO3, HB3.out⟩
        case measure => simp [intOf]; omega
    · obtain rfl : k = m := by omega
      have e : ps.take k = ps := List.take_of_length_le (by have := HI.out.2.1; omega)
      rw [e] at ho
      have HO2 := Lib.hid ho
      clear ho HO e
      go_wp2
      go_ret
      exact ⟨_, rfl, HO2.out, hbe⟩

set_option maxRecDepth 100000 in
set_option maxHeartbeats 4000000 in
theorem specJoinAll_any (A : Option Addr) (n c B0 : Nat) (zs : List Int) (r : Int) (A' : Option Addr) (m c' B0' : Nat) (qs : List (Int × Int)) (w : World) (h : Rd w B0 A n zs) (hB0 : B0 ≤ w.heap.size) (hb : n ≤ 1048576) (hq : RdQ w B0' A' m qs) (hB0' : B0' ≤ w.heap.size) (hb' : m ≤ 1048576) :
    Calls Try.prog 26 #[.slice A n c, .int .i64 r, .slice A' m c'] w fun e w' => ∃ v, e = .returned (.tuple #[v, .bool (jaB zs r qs)]) ∧ Own w' w.heap.size v (jaN zs r qs) ∧ Below w.heap.size w w' := by
  have V := Lib.hid (specValid_any A n c B0 zs w h hB0 hb)
  have HLN := Lib.hid h.1
  obtain ⟨x, hx⟩ : ∃ x, x = jaB zs r qs := ⟨_, rfl⟩
  obtain ⟨ss, hss⟩ : ∃ ss, ss = jaN zs r qs := ⟨_, rfl⟩
  rw [← hx, ← hss]
  have HX := Lib.hid hx
  have HSS := Lib.hid hss
  have HNO : Hid (x = false → ss = []) := fun e => by rw [HSS.out]; exact jaN_no (HX.out.symm.trans e)
  cases hv : fvB zs with
  | false =>
    have hx0 : x = false := hx.trans (jaB_fv hv)
    have hs0 := HNO.out hx0
    subst hx0
    subst hs0
    rw [hv] at V
    clear hx hss h hq hv
    go_enter Try.func26, Try.ntmps26
    go_wp2_with fail
    refine V.out.mono ?_
    rintro e w1 ⟨rfl, hb1⟩
    have HB1 := Lib.hid hb1
    clear hb1
    go_wp2_with fail
    go_ret2
    exact ⟨_, rfl, Own.lit w1 _ [] HB1.out.size (by simp), HB1.out.alloc HB1.out.size _⟩
  | true =>
    have RL := Lib.hid (fun (w1 : World) => l2Rule_any r w1)
    rw [hv] at V
    cases hr : inRule r with
    | false =>
      have hr' : ¬ (0 ≤ r ∧ r ≤ 2) := by unfold inRule at hr; exact of_decide_eq_false hr
      have hx0 : x = false := hx.trans (jaB_rule hr')
      have hs0 := HNO.out hx0
      subst hx0
      subst hs0
      rw [hr] at RL
      clear hx hss h hq hv hr hr'
      go_enter Try.func26, Try.ntmps26
      go_wp2_with fail
      refine V.out.mono ?_
      rintro e w1 ⟨rfl, hb1⟩
      have HB1 := Lib.hid hb1
      clear hb1
      go_wp2_with fail
      refine (RL.out _).mono ?_
      rintro e w2 ⟨rfl, hw⟩
      subst hw
      go_wp2_with fail
      go_ret2
      exact ⟨_, rfl, Own.lit w1 _ [] HB1.out.size (by simp), HB1.out.alloc HB1.out.size _⟩
    | true =>
      have hr' : 0 ≤ r ∧ r ≤ 2 := by unfold inRule at hr; exact of_decide_eq_true hr
      rw [hr] at RL
      have PV := Lib.hid (fun (w1 : World) (hb1 : Below w.heap.size w w1) => l2Pairs_any n A' m c' B0' qs w1 hb (hq.below hb1 hB0') (Nat.le_trans hB0' hb1.size) hb')
      cases hd : okQ (n : Int) qs with
      | false =>
        have hx0 : x = false := hx.trans (jaB_ok (by rw [HLN.out]; exact hd))
        have hs0 := HNO.out hx0
        subst hx0
        subst hs0
        rw [hd] at PV
        clear hx hss h hq hv hr hr' hd
        go_enter Try.func26, Try.ntmps26
        go_wp2_with fail
        refine V.out.mono ?_
        rintro e w1 ⟨rfl, hb1⟩
        have HB1 := Lib.hid hb1
        clear hb1
        go_wp2_with fail
        refine (RL.out _).mono ?_
        rintro e w2 ⟨rfl, hw⟩
        subst hw
        go_wp2_with fail
        refine (PV.out _ HB1.out).mono ?_
        rintro e w2 ⟨rfl, hb2⟩
        have HB2 := Lib.hid (HB1.out.trans (hb2.mono HB1.out.size))
        clear hb2
        go_wp2_with fail
        go_ret2
        exact ⟨_, rfl, Own.lit w2 _ [] HB2.out.size (by simp), HB2.out.alloc HB2.out.size _⟩
      | true =>
        have hx1 : x = true := hx.trans (jaB_of hv hr' (by rw [HLN.out]; exact hd))
        have hs1 : ss = allL zs r (natP qs) := hss.trans (jaN_yes (hx.symm.trans hx1))
        subst hx1
        have HS1 := Lib.hid hs1
        rw [hd] at PV
        have LA := Lib.hid (fun (w1 : World) (hb1 : Below w.heap.size w w1) => l2All_any A n c B0 zs r A' m c' B0' qs w1 (h.below hb1 hB0) (Nat.le_trans hB0 hb1.size) hv hr' (hq.below hb1 hB0') (Nat.le_trans hB0' hb1.size) hd)
        clear hx hss h hq hv hr hr' hd hs1
        go_enter Try.func26, Try.ntmps26
        go_wp2_with fail
        refine V.out.mono ?_
        rintro e w1 ⟨rfl, hb1⟩
        have HB1 := Lib.hid hb1
        clear hb1
        go_wp2_with fail
        refine (RL.out _).mono ?_
        rintro e w2 ⟨rfl, hw⟩
        subst hw
        go_wp2_with fail
        refine (PV.out _ HB1.out).mono ?_
        rintro e w2 ⟨rfl, hb2⟩
        have HB2 := Lib.hid (HB1.out.trans (hb2.mono HB1.out.size))
        clear hb2
        go_wp2_with fail
        refine (LA.out _ HB2.out).mono ?_
        rintro e w3 ⟨v, rfl, ho, hb3⟩
        have HO := Lib.hid (ho.less HB2.out.size)
        have HB3 := Lib.hid (HB2.out.trans (hb3.mono HB2.out.size))
        clear ho hb3
        go_wp2_with fail
        go_ret2
        exact ⟨_, rfl, by rw [HS1.out]; exact HO.out, HB3.out⟩

set_option maxRecDepth 100000 in
set_option maxHeartbeats 8000000 in
theorem specUseful_any (n : Int) (A' : Option Addr) (m c' B0' : Nat) (qs : List (Int × Int)) (w : World) (hq : RdQ w B0' A' m qs) (hB0' : B0' ≤ w.heap.size) (hb' : m ≤ 1048576) :
    Calls Try.prog 30 #[.int .i64 n, .slice A' m c'] w fun e w' => ∃ v, e = .returned (.tuple #[v, .bool (usB n qs)]) ∧ Own w' w.heap.size v (usN n qs) ∧ Below w.heap.size w w' := by
  have hW0 := (Below.refl w.heap.size w).alloc (Nat.le_refl _) (.cells #[] 3)
  have AS := Lib.hid (l2Asked_any n A' m c' B0' qs _ (hq.below hW0 hB0') (Nat.le_trans hB0' hW0.size) hb')
  have HE0 := Lib.hid (And.intro hW0 (Own.lit w w.heap.size [] (Nat.le_refl _) (by simp)))
  obtain ⟨x, hx⟩ : ∃ x, x = usB n qs := ⟨_, rfl⟩
  obtain ⟨ss, hss⟩ : ∃ ss, ss = usN n qs := ⟨_, rfl⟩
  rw [← hx] at AS
  rw [← hx, ← hss]
  have HX := Lib.hid hx
  have HSS := Lib.hid hss
  cases x with
  | false =>
    have hs0 : ss = [] := HSS.out.trans (usN_no HX.out.symm)
    subst hs0
    clear hx hss hq hW0
    go_enter Try.func30, Try.ntmps30
    go_wp2_with fail
    refine AS.out.mono ?_
    rintro e w1 ⟨rfl, hb1⟩
    have HB1 := Lib.hid (HE0.out.1.trans (hb1.mono HE0.out.1.size))
    have HO := Lib.hid (HE0.out.2.keep hb1 (Nat.le_refl _))
    clear hb1
    go_wp2_with fail
    go_ret2
    exact ⟨_, rfl, HO.out, HB1.out⟩
  | true =>
    obtain ⟨hn, hok⟩ := usB_parts hx.symm
    obtain ⟨N0, rfl⟩ : ∃ N0 : Nat, n = N0 := ⟨n.toNat, by omega⟩
    have hs1 : ss = useTo (roots N0) 1 (natP qs) m := by
      have := hss.trans (usN_yes hx.symm)
      rw [hq.1] at this
      exact this
    have HFV : Hid (fvB (roots N0) = true) := roots_fv (by omega) (by omega)
    have hin := okQ_in hok
    have h24 := (okQ_parts hok).1
    have hm24 : m ≤ 24 := by have := hq.1; omega
    have HG : Hid (∀ k, k < m → (qs[k]?.getD (0, 0)).1 = (((natP qs)[k]?.getD (0, 0)).1 : Int) ∧ (qs[k]?.getD (0, 0)).2 = (((natP qs)[k]?.getD (0, 0)).2 : Int)) := fun k hk => okQ_get hok (by have := hq.1; omega)
    obtain ⟨ps, hps⟩ : ∃ ps, ps = natP qs := ⟨_, rfl⟩
    have hpl : ps.length = m := by rw [hps, natP_len, hq.1]
    rw [← hps] at hin HG hs1
    have HQ := Lib.hid hq
    have HB0' := Lib.hid hB0'
    have HI := Lib.hid (And.intro hin (And.intro hpl (show 1 ≤ N0 ∧ N0 ≤ 16 by omega)))
    have AL := Lib.hid (fun (w1 : World) => alone_any N0 (by omega) (by omega) w1)
    have HS1 := Lib.hid hs1
    clear hx hss hq hW0 hn hok hs1 hin h24 hps hpl hB0'
    go_enter Try.func30, Try.ntmps30
    go_wp2_with fail
    refine AS.out.mono ?_
    rintro e w1 ⟨rfl, hb1⟩
    have HB1 := Lib.hid (HE0.out.1.trans (hb1.mono HE0.out.1.size))
    have HO := Lib.hid (HE0.out.2.keep hb1 (Nat.le_refl _))
    clear hb1
    go_wp2_with fail
    refine (AL.out _).mono ?_
    rintro e w2 ⟨v2, rfl, ho2, hb2⟩
    obtain ⟨A2, c2, rfl, _⟩ := ho2.form
    have HB2 := Lib.hid (HB1.out.trans (hb2.mono HB1.out.size))
    have HOU : Hid (Own w2 w.heap.size (.slice (some ⟨w.heap.size, 0, none⟩) 0 0) (useTo (roots N0) 1 ps 0)) := HO.out.keep hb2 (Nat.le_refl _)
    have HOF : Hid (∃ A1 c1, (Value.slice A2 (roots N0).length c2) = .slice A1 N0 c1 ∧ Own w2 w.heap.size (.slice A1 N0 c1) (allL (roots N0) 1 (ps.take 0)) ∧ ∀ z, (Value.slice (some ⟨w.heap.size, 0, none⟩) 0 0).ownBlock = some z → ∀ y, (Value.slice A1 N0 c1).ownBlock = some y → z ≠ y) := ⟨A2, c2, by rw [roots_len], by
      rw [roots_len] at ho2
      exact ho2.less HB1.out.size, fun z hz y hy e => by
      rw [roots_len] at ho2
      have h1 := (ho2.blockOf y hy).1
      have h2 : w.heap.size = z := by simpa [Value.ownBlock] using hz
      have h3 := (HO.out.blockOf z hz).2
      omega⟩
    clear ho2 hb2
    go_wp2_with fail
    go_loopw [6, 7, 20] (fun uv fv i wr => ∃ k : Nat, k ≤ m ∧ i = .int .i64 k ∧ Hid (Own wr w.heap.size uv (useTo (roots N0) 1 ps k)) ∧ Hid (∃ A1 c1, fv = .slice A1 N0 c1 ∧ Own wr w.heap.size (.slice A1 N0 c1) (allL (roots N0) 1 (ps.take k)) ∧ ∀ z, uv.ownBlock = some z → ∀ y, (Value.slice A1 N0 c1).ownBlock = some y → z ≠ y) ∧ Below w.heap.size w wr) (fun _ _ i _ => m - (intOf i).toNat)
    case atStart => exact ⟨0, Nat.zero_le _, rfl, HOU, HOF, HB2.out⟩
    case round =>
      obtain ⟨k, hk, rfl, HU, HF0, hbe⟩ := hrel
      clear HOU HOF HB2 HO HB1
      obtain ⟨A1, c1, rfl, ho, hdis⟩ := HF0.out
      by_cases hlt : k < m
      · obtain ⟨b0, off, rfl, hbb, hc1⟩ := (HQ.out.below hbe HB0'.out).2 (by omega)
        obtain ⟨g1, g2⟩ := hc1 k hlt
        have hkk : (k : Int) < (m : Int) := by omega
        obtain ⟨e1, e2⟩ := HG.out k hlt
        rw [e1] at g1
        rw [e2] at g2
        have hpn := HI.out.1.get (k := k) (by have := HI.out.2.1; omega)
        have hsucc := allL_succ (roots N0) 1 (ps := ps) (k := k) (by have := HI.out.2.1; omega)
        obtain ⟨a, ha⟩ : ∃ a, a = (ps[k]?.getD (0, 0)).1 := ⟨_, rfl⟩
        obtain ⟨b, hb2⟩ : ∃ b, b = (ps[k]?.getD (0, 0)).2 := ⟨_, rfl⟩
        have huse : useB (roots N0) 1 ps k = !decide (rootI (allL (roots N0) 1 (ps.take k)) a = rootI (allL (roots N0) 1 (ps.take k)) b) := by rw [ha, hb2]; rfl
        rw [← ha] at g1 hpn hsucc
        rw [← hb2] at g2 hpn hsucc
        obtain ⟨v, hvd⟩ : ∃ v, v = allL (roots N0) 1 (ps.take k) := ⟨_, rfl⟩
        rw [← hvd] at ho hsucc huse
        have hvl : v.length = N0 := by rw [hvd, allL_len, roots_len]
        have hvv : fvB v = true := by rw [hvd]; exact allL_fv HFV.out 1 (by rw [roots_len]; exact HI.out.1.take)
        obtain ⟨W, hW⟩ : ∃ W, W = wr.alloc (.cells #[.int .i64 (a : Int), .int .i64 (b : Int)] 42) := ⟨_, rfl⟩
        have hbW : Below wr.heap.size wr W := by rw [hW]; exact (Below.refl _ wr).alloc (Nat.le_refl _) _
        have hoW := ho.keep hbW (Nat.le_refl _)
        have huW := HU.out.keep hbW (Nat.le_refl _)
        have hrW := hoW.rd
        have hbw := hbe.trans (hbW.mono hbe.size)
        have RQ := Lib.hid (fun (x : Nat) (hx : Hid (x < N0)) (q : Nat) => Calls.quiet_of_same (P := Try.prog) (n := q) ((l1Root_any A1 N0 c1 _ x v (W.drewN q) (hrW.drewN q) hvv hx.out).mono fun _ _ ⟨h1, h2⟩ => ⟨h1, h2.symm⟩))
        have HA : Hid (a < N0) := hpn.1
        have HB : Hid (b < N0) := hpn.2
        obtain ⟨ρ, hρ⟩ : ∃ ρ, ρ = rootI v := ⟨_, rfl⟩
        rw [← hρ] at RQ huse
        have HS : Hid (allL (roots N0) 1 (ps.take (k + 1)) = if ρ a = ρ b then v else joinTo v 1 (ρ a) (ρ b)) := by
          show _ = _
          rw [hsucc, hρ]
          rfl
        have LJ := Lib.hid (fun (q : Nat) => l2Join_any A1 N0 c1 W.heap.size a b v 1 (W.drewN q) (hrW.drewN q) (Nat.le_refl _) hvv (by omega) HA.out HB.out)
        rw [← hρ] at LJ
        have HW := Lib.hid hW
        have HBW := Lib.hid hbw
        have HOW := Lib.hid hoW
        have HUW := Lib.hid huW
        have HVL := Lib.hid hvl
        have HUSE := Lib.hid huse
        have HDIS := Lib.hid hdis
        have hul := useTo_len (roots N0) 1 ps k
        clear hc1 e1 e2 hpn ha hb2 hsucc hvd hvl hvv hW hbW hoW hrW hbw hρ ho hbe HG hbb huse huW hdis HU HF0
        obtain ⟨p, hp⟩ : ∃ p, p = ρ a := ⟨_, rfl⟩
        obtain ⟨q, hq⟩ : ∃ q, q = ρ b := ⟨_, rfl⟩
        have c1' := pair_cells wr (a : Int) (b : Int)
        rw [← HW.out] at c1'
        obtain ⟨d1, d2⟩ := c1'
        by_cases hpq : p = q
        · have t1 : ((ρ a : Int) != (ρ b : Int)) = false := by rw [← hp, ← hq, hpq]; simp
          have HF : Hid (allL (roots N0) 1 (ps.take (k + 1)) = v) := by
            show _ = _
            rw [HS.out, ← hp, ← hq, if_pos hpq]
          have HUN : Hid (useTo (roots N0) 1 ps (k + 1) = useTo (roots N0) 1 ps k) := useTo_no (by rw [HUSE.out, ← hp, ← hq, hpq]; simp)
          clear hp hq hpq HS LJ
          go_wp2
          rw [← HW.out]
          go_quiet ((go_at_call 62; exact RQ.out _ (by first | exact HA | exact HB) _))
          have HU2 : Hid (Own (W.drewN nq) w.heap.size u6 (useTo (roots N0) 1 ps (k + 1))) := by
            show Own _ _ _ _
            rw [HUN.out]
            exact HUW.out.drewN nq
          have HO2 : Hid (∃ A3 c3, (Value.slice A1 N0 c1) = .slice A3 N0 c3 ∧ Own (W.drewN nq) w.heap.size (.slice A3 N0 c3) (allL (roots N0) 1 (ps.take (k + 1))) ∧ ∀ z, u6.ownBlock = some z → ∀ y, (Value.slice A3 N0 c3).ownBlock = some y → z ≠ y) := ⟨_, _, rfl, by rw [HF.out]; exact HOW.out.drewN nq, HDIS.out⟩
          have HB2 := Lib.hid (below_drewN HBW.out nq)
          go_wp2
          go_roundw
          case rel => exact ⟨k + 1, by omega, by go_num, HU2, HO2, HB2.out⟩
          case measure => simp [intOf]; omega
        · have t1 : ((ρ a : Int) != (ρ b : Int)) = true := by rw [← hp, ← hq]; simp; omega
          have HF : Hid (allL (roots N0) 1 (ps.take (k + 1)) = joinTo v 1 (ρ a) (ρ b)) := by
            show _ = _
            rw [HS.out, ← hp, ← hq, if_neg hpq]
          have HUN : Hid (useTo (roots N0) 1 ps (k + 1) = useTo (roots N0) 1 ps k ++ [(k : Int)]) := useTo_yes (by rw [HUSE.out, ← hp, ← hq]; simp [hpq])
          clear hp hq hpq HS
          go_wp2
          rw [← HW.out]
          go_quiet ((go_at_call 62; exact RQ.out _ (by first | exact HA | exact HB) _))
          have L2 := Lib.hid (LJ.out nq)
          have HB2 := Lib.hid (below_drewN HBW.out nq)
          have HU2 := Lib.hid (HUW.out.drewN nq)
          clear LJ RQ
          go_wp2_with fail
          refine L2.out.mono ?_
          rintro e w3 ⟨v3, rfl, ho3, hb3⟩
          have hlen3 : (joinTo v 1 (ρ a) (ρ b)).length = N0 := by rw [joinTo_len]; exact HVL.out
          obtain ⟨A3, c3, rfl, _⟩ := ho3.form
          have hu3 := HU2.out.keep hb3 (Nat.le_refl _)
          have hdis3 : ∀ z, u6.ownBlock = some z → ∀ y, (Value.slice A3 (joinTo v 1 (ρ a) (ρ b)).length c3).ownBlock = some y → z ≠ y := fun z hz y hy e => by
            have h1 := (ho3.blockOf y hy).1
            have h2 := (HU2.out.blockOf z hz).2
            omega
          have HO3 := Lib.hid ho3
          have hb3w := HB2.out.trans (hb3.mono HB2.out.size)
          have HB3 := Lib.hid hb3w
          have HD3 := Lib.hid hdis3
          have HL3 := Lib.hid hlen3
          have hsz3 : w.heap.size ≤ w3.heap.size := hb3w.size
          clear ho3 hb3 hdis3 hb3w hlen3
          go_wp2_with (at_builtin; go_must (refine wpList_push rfl (.tmp 40) (.tmp 42) rfl w3 w.heap.size u6 (useTo (roots N0) 1 ps k) (k : Int) rfl rfl hu3 (by omega) hsz3 ?_); intro v' w4 ho4 hg4 hrow4)
          have hr4 : ∀ z, u6.ownBlock = some z → w.heap.size ≤ z := fun z hz => (hu3.blockOf z hz).1
          have ho5 : Own w4 w.heap.size (.slice A3 (joinTo v 1 (ρ a) (ρ b)).length c3) (joinTo v 1 (ρ a) (ρ b)) := (HO3.out.less HB2.out.size).kept hg4 (by
            cases hb : (Value.slice A3 (joinTo v 1 (ρ a) (ρ b)).length c3).ownBlock with
            | none => exact .inl rfl
            | some y => exact .inr fun e => HD3.out y e.symm y hb rfl)
          have HO5 : Hid (∃ A4 c4, (Value.slice A3 (joinTo v 1 (ρ a) (ρ b)).length c3) = .slice A4 N0 c4 ∧ Own w4 w.heap.size (.slice A4 N0 c4) (allL (roots N0) 1 (ps.take (k + 1))) ∧ ∀ z, v'.ownBlock = some z → ∀ y, (Value.slice A4 N0 c4).ownBlock = some y → z ≠ y) := ⟨A3, c3, by rw [HL3.out], by rw [HF.out]; rw [HL3.out] at ho5; exact ho5, fun z hz y hy e => by
            rw [← HL3.out] at hy
            rcases hrow4 with hrow4 | ⟨g, hg, hge⟩
            · exact HD3.out z (hrow4 ▸ hz) y hy e
            · rw [hg] at hz
              injection hz with hz
              have := (HO3.out.blockOf y hy).2
              omega⟩
          have hb4 := Lib.hid (HB3.out.grown hg4 hsz3 hr4)
          rw [← HUN.out] at ho4
          have HU4 := Lib.hid ho4
          clear ho4 ho5 hg4 hr4 hrow4 hu3
          go_wp2
          go_roundw
          case rel => exact ⟨k + 1, by omega, by go_num, HU4, HO5, hb4.out⟩
          case measure => simp [intOf]; omega
      · obtain rfl : k = m := by omega
        have HU2 : Hid (Own wr w.heap.size u6 ss) := by
          show Own _ _ _ _
          rw [HS1.out]
          exact HU.out
        clear ho hdis HF0 HU
        go_wp2
        go_ret2
        exact ⟨_, rfl, HU2.out, hbe⟩

set_option maxRecDepth 100000 in
set_option maxHeartbeats 4000000 in
theorem specCount_any (n : Int) (A' : Option Addr) (m c' B0' : Nat) (qs : List (Int × Int)) (w : World) (hq : RdQ w B0' A' m qs) (hB0' : B0' ≤ w.heap.size) (hb' : m ≤ 1048576) :
    Calls Try.prog 32 #[.int .i64 n, .slice A' m c'] w fun e w' => e = .returned (.int .i64 (ccN n qs)) ∧ Below w.heap.size w w' := by
  have U := Lib.hid (specUseful_any n A' m c' B0' qs w hq hB0' hb')
  obtain ⟨z, hz⟩ : ∃ z, z = ccN n qs := ⟨_, rfl⟩
  rw [← hz]
  have hl := usN_len n qs
  obtain ⟨ss, hss⟩ : ∃ ss, ss = usN n qs := ⟨_, rfl⟩
  rw [← hss] at U hl
  cases hx : usB n qs with
  | false =>
    have HZ : Hid (z = -1) := by
      show _ = _
      rw [hz]
      unfold ccN
      rw [hx]
      simp
    rw [hx] at U
    clear hz hx hq hss
    go_enter Try.func32, Try.ntmps32
    go_wp2_with fail
    refine U.out.mono ?_
    rintro e w1 ⟨v1, rfl, ho1, hb1⟩
    have HB1 := Lib.hid hb1
    clear ho1 hb1
    go_wp2_with fail
    go_ret
    exact ⟨ret_int HZ.out.symm, HB1.out⟩
  | true =>
    have HZ : Hid (z = n - (ss.length : Int)) := by
      show _ = _
      rw [hz, hss]
      unfold ccN
      rw [if_pos hx]
    obtain ⟨hn1, hn2⟩ := (usB_parts hx).1
    rw [hx] at U
    clear hz hx hq hss
    go_enter Try.func32, Try.ntmps32
    go_wp2_with fail
    refine U.out.mono ?_
    rintro e w1 ⟨v1, rfl, ho1, hb1⟩
    obtain ⟨A1, c1, rfl, _⟩ := ho1.form
    have HB1 := Lib.hid hb1
    clear ho1 hb1
    go_wp2_with fail
    go_ret
    exact ⟨ret_int HZ.out.symm, HB1.out⟩
end Go.Proofs.Ytebgnaiibomjkaa
