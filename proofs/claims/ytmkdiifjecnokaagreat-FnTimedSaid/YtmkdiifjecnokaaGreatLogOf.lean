/- LogOf of the program, with any pairs. -/
import Derived.Test.YtmkdiifjecnokaaGreatHistOf
namespace Go.Proofs.YtmkdiifjecnokaaGreat
open Go.RowKit Go.Shelf

set_option maxRecDepth 100000 in
set_option maxHeartbeats 4000000 in
theorem implLogOf_any (n : Int) (A : Option Addr) (m c B0 : Nat) (qs : List (Int × Int)) (w : World) (h : RdQ w B0 A m qs) (hB0 : B0 ≤ w.heap.size) (hb : m ≤ 1048576) :
    Calls Tryz.prog 17 #[.int .i64 n, .slice A m c] w fun e w' => ∃ v v2, e = .returned (.tuple #[.agg #[v, v2], .bool (logB n qs)]) ∧ Own w' w.heap.size v (logUp n qs) ∧ OwnQ 52 w' w.heap.size v2 (logSteps n qs) ∧ (∀ x, v.ownBlock = some x → ∀ y, v2.ownBlock = some y → x ≠ y) ∧ Below w.heap.size w w' := by
  obtain ⟨W0, hW0⟩ : ∃ W0, W0 = w.alloc (.cells #[.slice none 0 0, .slice none 0 0] 47) := ⟨_, rfl⟩
  have hb0 : Below w.heap.size w W0 := by rw [hW0]; exact log_box w _ _
  have hR : W0.heap[w.heap.size]? = some (.cells #[.slice none 0 0, .slice none 0 0] 47 (0, 0)) := by rw [hW0]; exact World.alloc_heap_new w _
  have h0s : W0.heap.size = w.heap.size + 1 := by rw [hW0]; simp
  have NH := newHistory_any n W0
  have HH := Lib.hid (And.intro hb0 (And.intro hR h0s))
  have HW0 := Lib.hid hW0
  have HRQ := Lib.hid (And.intro h (And.intro hB0 hb))
  have ZERO : Hid (∀ w1 : World, Below W0.heap.size W0 w1 → Below w.heap.size w ((w1.setCell ⟨w.heap.size, 0, none⟩ (.slice none 0 0)).setCell ⟨w.heap.size, 1, none⟩ (.slice none 0 0)) ∧ w1.heap[w.heap.size]? = some (.cells #[.slice none 0 0, .slice none 0 0] 47 (0, 0))) := fun w1 hb1 =>
    ⟨boxTwo_below (Below.on hb0 hb1) (Nat.le_refl _) _ _, (hb1.block _ (by omega)).trans hR⟩
  by_cases hn : 1 ≤ n ∧ n ≤ 16
  case neg =>
    have e1 : newOk n = false := by unfold newOk; exact decide_eq_false hn
    have e3 : logB n qs = false := usB_n hn
    have e4 : logUp n qs = [] := by unfold logUp; rw [e3]; rfl
    have e5 : logSteps n qs = [] := by unfold logSteps; rw [e3]; rfl
    rw [e1] at NH
    rw [e3, e4, e5]
    have NH := Lib.hid NH
    clear hn e1 e3 e4 e5 hW0 hb0 hR h0s h hB0 hb
    go_enter Tryz.func17, Tryz.ntmps17
    go_wp2_with fail
    rw [← HW0.out]
    refine NH.out.mono ?_
    rintro e w1 ⟨hb1, ⟨_, rfl⟩ | ⟨hv, _⟩⟩
    · obtain ⟨z1, hR3⟩ := ZERO.out w1 hb1
      obtain ⟨⟨r1, r2⟩, f1, f2⟩ := boxTwo_cells hR3
      have HX := Lib.hid (And.intro z1 hR3)
      clear hb1 hR3 z1
      go_wp2_with fail
      obtain ⟨z1, hR3⟩ := HX.out
      obtain ⟨⟨k1, k2⟩, _⟩ := boxTwo_cells (boxTwo_set hR3 (.slice none 0 0) (.slice none 0 0))
      refine bodyPost_ret (v := .tuple #[.agg #[.slice none 0 0, .slice none 0 0], .bool false]) (by simp [results, Tryz.results17, go_sem, k1, k2]) rfl ?_
      exact ⟨_, _, rfl, World.ownsRow_nil _ _ _ _, OwnQ.nil _ _ _, (fun x e => by cases e), z1⟩
    · cases hv
  case pos =>
    obtain ⟨p, rfl⟩ := Int.eq_ofNat_of_zero_le (show 0 ≤ n by omega)
    have e1 : newOk (p : Int) = true := by unfold newOk; exact decide_eq_true hn
    have PV := fun (w2 : World) (hb2 : Below w.heap.size w w2) => pairsValid_any (p : Int) A m c B0 qs w2 (h.below hb2 hB0) (Nat.le_trans hB0 hb2.size) hb
    rw [e1, Int.toNat_natCast] at NH
    have NH := Lib.hid NH
    cases hok : okQ (p : Int) qs with
    | false =>
      have e3 : logB (p : Int) qs = false := usB_ok hok
      have e4 : logUp (p : Int) qs = [] := by unfold logUp; rw [e3]; rfl
      have e5 : logSteps (p : Int) qs = [] := by unfold logSteps; rw [e3]; rfl
      rw [hok] at PV
      rw [e3, e4, e5]
      have PV := Lib.hid PV
      clear hn e1 e3 e4 e5 hW0 hb0 hR h0s h hB0 hb hok
      go_enter Tryz.func17, Tryz.ntmps17
      go_wp2_with fail
      rw [← HW0.out]
      refine NH.out.mono ?_
      rintro e w1 ⟨hb1, ⟨hv, _⟩ | ⟨_, H, J, M, N, rfl, _⟩⟩
      · cases hv
      · have PV := Lib.hid (PV.out w1 (Below.on HH.out.1 hb1))
        have HB1 := Lib.hid hb1
        clear hb1
        go_wp2_with fail
        refine PV.out.mono ?_
        rintro e w2 ⟨rfl, hb2⟩
        obtain ⟨z1, hR3⟩ := ZERO.out w2 (Below.on HB1.out hb2)
        obtain ⟨⟨r1, r2⟩, f1, f2⟩ := boxTwo_cells hR3
        have HX := Lib.hid (And.intro z1 hR3)
        clear hb2 hR3 z1
        go_wp2_with fail
        obtain ⟨z1, hR3⟩ := HX.out
        obtain ⟨⟨k1, k2⟩, _⟩ := boxTwo_cells (boxTwo_set hR3 (.slice none 0 0) (.slice none 0 0))
        refine bodyPost_ret (v := .tuple #[.agg #[.slice none 0 0, .slice none 0 0], .bool false]) (by simp [results, Tryz.results17, go_sem, k1, k2]) rfl ?_
        exact ⟨_, _, rfl, World.ownsRow_nil _ _ _ _, OwnQ.nil _ _ _, (fun x e => by cases e), z1⟩
    | true =>
      have e3 : logB (p : Int) qs = true := usB_of hn hok
      have e4 : logUp (p : Int) qs = allL (roots p) 1 (natP qs) := by unfold logUp; rw [if_pos e3, Int.toNat_natCast]
      have e5 : logSteps (p : Int) qs = stepsTo (roots p) (natP qs) [] := by unfold logSteps; rw [if_pos e3, Int.toNat_natCast]
      rw [hok] at PV
      rw [e3, e4, e5]
      have hml := h.len
      have hm24 : m ≤ 24 := by have := (okQ_parts hok).1; omega
      have hfv := roots_fv (n := p) (by omega) (by omega)
      have HG : Hid (∀ k, k < m → ∃ a b : Nat, (qs[k]?.getD (0, 0)).1 = (a : Int) ∧ (qs[k]?.getD (0, 0)).2 = (b : Int) ∧ a < p ∧ b < p ∧ allL (roots p) 1 ((natP qs).take (k + 1)) = joinL (allL (roots p) 1 ((natP qs).take k)) 1 a b ∧ stepsTo (roots p) ((natP qs).take (k + 1)) [] = joinSt (allL (roots p) 1 ((natP qs).take k)) a b (stepsTo (roots p) ((natP qs).take k) [])) := fun k hk => by
        obtain ⟨g1, g2⟩ := okQ_get hok (k := k) (by omega)
        have hin := (okQ_in hok).get (k := k) (by rw [natP_len]; omega)
        refine ⟨_, _, g1, g2, hin.1, hin.2, allL_succ _ _ (by rw [natP_len]; omega), ?_⟩
        rw [take_snoc (by rw [natP_len]; omega) (0, 0), stepsTo_snoc]
      have HE : Hid ((natP qs).take m = natP qs) := by
        show _ = _
        rw [List.take_of_length_le (by rw [natP_len]; omega)]
      have PV := Lib.hid PV
      have HFV := Lib.hid (And.intro hfv (roots_len p))
      clear hn e1 e3 e4 e5 hW0 hb0 hR h0s h hB0 hb hok hml hfv
      go_enter Tryz.func17, Tryz.ntmps17
      go_wp2_with fail
      rw [← HW0.out]
      refine NH.out.mono ?_
      rintro e w1 ⟨hb1, ⟨hv, _⟩ | ⟨_, H, J, M, N, rfl, hh, hN, hm, hj, h1, h2, h3, h4⟩⟩
      · cases hv
      · have PV := Lib.hid (PV.out w1 (Below.on HH.out.1 hb1))
        have HS1 := Lib.hid (And.intro (show HistSt w1 H J M N p _ _ (roots p) (.slice none 0 0) from ⟨hh, hm, hj, hN, h2, h3, h4, HFV.out.1, HFV.out.2, RootsTell.all _⟩) (And.intro hb1 h1))
        clear hb1 hh hN hm hj h1 h2 h3 h4
        go_wp2_with fail
        refine PV.out.mono ?_
        rintro e w2 ⟨rfl, hb2⟩
        have hS2 := HS1.out.1.below hb2 HS1.out.1.lt
        have HB2 := Lib.hid (And.intro hb2 (And.intro hS2.lt (Below.on HS1.out.2.1 hb2)))
        have HI : Hid (∃ sz ht D ds, HistSt w2 H J M N p sz ht (allL (roots p) 1 ((natP qs).take 0)) D ∧ OwnD w2 w2.heap.size D ds ∧ stepsOf ds = stepsTo (roots p) ((natP qs).take 0) [] ∧ ds.length ≤ 0 ∧ Fns ds ∧ Chg (fun i => i = N ∨ i = M ∨ i = H ∨ w2.heap.size ≤ i) w2 w2) := ⟨_, _, _, [], hS2, OwnD.nil _ _, rfl, by simp, fun k hk => by simp at hk, Chg.refl _ _⟩
        clear hb2 hS2
        go_wp2_with fail
        go_loopw [22] (fun i wr => ∃ k : Nat, k ≤ m ∧ i = .int .i64 (k : Int) ∧ Hid (∃ sz ht D ds, HistSt wr H J M N p sz ht (allL (roots p) 1 ((natP qs).take k)) D ∧ OwnD wr w2.heap.size D ds ∧ stepsOf ds = stepsTo (roots p) ((natP qs).take k) [] ∧ ds.length ≤ k ∧ Fns ds ∧ Chg (fun i => i = N ∨ i = M ∨ i = H ∨ w2.heap.size ≤ i) w2 wr)) (fun i _ => m - (intOf i).toNat)
        case atStart => exact ⟨0, by omega, rfl, HI⟩
        case round =>
          obtain ⟨k, hkm, rfl, HQ⟩ := hrel
          clear HI
          obtain ⟨sz, ht, D, ds, hS, hD, hst, hdl, hfn, hc⟩ := HQ.out
          clear HQ
          have hHlt := HB2.out.2.1
          have hcs := hc.size
          have h0s := HH.out.2.2
          have hNl := HS1.out.2.2
          have o1 := hS.o1
          have o2 := hS.o2
          have o3 := hS.o3
          have hs02 := HB2.out.2.2.size
          have hbr : Below W0.heap.size W0 wr := HB2.out.2.2.trans (hc.below (by omega) (fun i hi => by omega))
          by_cases hlt : k < m
          · obtain ⟨a, b, ga, gb, ha, hb, hA, hB⟩ := HG.out k hlt
            obtain ⟨b0, off, rfl, _, hc1⟩ := (HRQ.out.1.below (Below.on HH.out.1 hbr) HRQ.out.2.1).2 (by omega)
            obtain ⟨g1, g2⟩ := hc1 k hlt
            rw [ga] at g1
            rw [gb] at g2
            have hkk : (k : Int) < (m : Int) := by omega
            obtain ⟨W, hW⟩ : ∃ W, W = wr.alloc (.cells #[.int .i64 (a : Int), .int .i64 (b : Int)] 41) := ⟨_, rfl⟩
            have hbW : Below wr.heap.size wr W := by rw [hW]; exact (Below.refl _ _).alloc (Nat.le_refl _) _
            have hWs := hbW.size
            have JI := Lib.hid (joinItems_any H J M N p a b sz ht _ D ds w2.heap.size W (hS.below hbW hS.lt) ha hb (hD.chg (S := fun _ => False) (Chg.of_below hbW) (fun i hi => hi.elim)) hHlt (by omega) (by omega) hfn)
            have HZ := Lib.hid (And.intro hst (And.intro hdl (And.intro (hc.trans (Chg.of_below hbW)) (And.intro hA hB))))
            have HW := Lib.hid hW
            clear hS hD hst hdl hfn hc hHlt hcs h0s hNl o1 o2 o3 hs02 hbr ha hb hA hB ga gb hc1 hbW hWs hW
            go_wp2_with fail
            rw [← HW.out]
            refine JI.out.mono ?_
            rintro e w3 ⟨⟨v, rfl⟩, sz', ht', D', ds', hS', hD', hst', hdl', hfn', hc'⟩
            obtain ⟨z1, z2, z3, z4, z5⟩ := HZ.out
            have HN : Hid (∃ sz ht D ds, HistSt w3 H J M N p sz ht (allL (roots p) 1 ((natP qs).take (k + 1))) D ∧ OwnD w3 w2.heap.size D ds ∧ stepsOf ds = stepsTo (roots p) ((natP qs).take (k + 1)) [] ∧ ds.length ≤ k + 1 ∧ Fns ds ∧ Chg (fun i => i = N ∨ i = M ∨ i = H ∨ w2.heap.size ≤ i) w2 w3) :=
              ⟨sz', ht', D', ds', by rw [z4]; exact hS', hD', by rw [hst', z5, z1], by omega, hfn', z3.trans hc'⟩
            clear hS' hD' hst' hdl' hfn' hc' z1 z2 z3 z4 z5
            go_wp2_with fail
            go_roundw
            case rel => exact ⟨k + 1, by omega, by go_num, HN⟩
            case measure => simp [intOf]; omega
          · obtain rfl : k = m := by omega
            rw [HE.out] at hS hst
            have LG := Lib.hid (log_any H J M N p sz ht _ D ds w2.heap.size wr hS hD hfn (by omega))
            rw [hst] at LG
            have HBR := Lib.hid hbr
            have hrs := hbr.size
            clear hS hD hst hdl hfn hc hHlt hcs hNl o1 o2 o3 hs02 hbr
            go_wp2_with fail
            refine LG.out.mono ?_
            rintro e w3 ⟨v, v2, rfl, ho, hq, hne, hb3⟩
            obtain ⟨A1, c1, rfl, _⟩ := ho.form
            obtain ⟨A2, c2, rfl, _⟩ := hq.form
            have hR3 : w3.heap[w.heap.size]? = some (.cells #[.slice none 0 0, .slice none 0 0] 47 (0, 0)) := (Below.block (Below.on HBR.out hb3) _ (by omega)).trans HH.out.2.1
            obtain ⟨⟨r1, r2⟩, f1, f2⟩ := boxTwo_cells hR3
            have HX := Lib.hid (And.intro ho (And.intro hq (And.intro hne (And.intro hb3 hR3))))
            clear ho hq hne hb3 hR3
            go_wp2_with fail
            obtain ⟨ho, hq, hne, hb3, hR3⟩ := HX.out
            have hx := ho.blockOf
            have hx2 := hq.blockOf
            obtain ⟨V1, hV1⟩ : ∃ V, V = Value.slice A1 (allL (roots p) 1 (natP qs)).length c1 := ⟨_, rfl⟩
            obtain ⟨V2, hV2⟩ : ∃ V, V = Value.slice A2 (stepsTo (roots p) (natP qs) []).length c2 := ⟨_, rfl⟩
            rw [← hV1, ← hV2]
            rw [← hV1] at ho hne hx
            rw [← hV2] at hq hne hx2
            have hg := boxTwo_grown w3 w.heap.size V1 V2
            obtain ⟨⟨k1, k2⟩, _⟩ := boxTwo_cells (boxTwo_set hR3 V1 V2)
            refine bodyPost_ret (v := .tuple #[.agg #[V1, V2], .bool true]) (by simp [results, Tryz.results17, go_sem, k1, k2]) rfl ?_
            refine ⟨V1, V2, rfl, (ho.less (by omega)).kept hg (.inr (fun e => by have := (hx _ e).1; omega)), (hq.less (by omega)).kept hg (.inr (fun e => by have := (hx2 _ e).1; omega)), hne, boxTwo_below (Below.on HH.out.1 (Below.on HBR.out hb3)) (Nat.le_refl _) _ _⟩
end Go.Proofs.YtmkdiifjecnokaaGreat
