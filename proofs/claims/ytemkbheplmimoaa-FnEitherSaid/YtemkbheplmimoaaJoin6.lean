/- The program's Join. Condition: lengths up to 1048576. -/
import Derived.Test.YtemkbheplmimoaaJoin5
namespace Go.Proofs.Ytemkbheplmimoaa
open Go.RowKit Go.Shelf

theorem joinB_fv {up : List Int} {r a b : Int} (h : fvB up = false) : joinB up r a b = false := by
  unfold joinB itemB
  rw [h]
  simp
theorem joinB_rule {up : List Int} {r a b : Int} (h : ¬ (0 ≤ r ∧ r ≤ 2)) : joinB up r a b = false := by
  unfold joinB inRule
  rw [decide_eq_false h]
  simp
def pairIn (n : Nat) (a b : Int) : Bool := decide (0 ≤ min a b ∧ max a b < (n : Int))
theorem joinB_pair {up : List Int} {r a b : Int} (h : pairIn up.length a b = false) : joinB up r a b = false := by
  unfold pairIn at h
  have h := of_decide_eq_false h
  cases hj : joinB up r a b with
  | false => rfl
  | true =>
    obtain ⟨h1, h2, _⟩ := joinB_parts hj
    unfold itemB at h1 h2
    simp only [Bool.and_eq_true, decide_eq_true_eq] at h1 h2
    omega
theorem pairIn_parts {n : Nat} {a b : Int} (h : pairIn n a b = true) : (0 ≤ a ∧ a < (n : Int)) ∧ 0 ≤ b ∧ b < (n : Int) := by
  unfold pairIn at h
  have h := of_decide_eq_true h
  omega
theorem joinB_in {up : List Int} {r a b : Int} (hv : fvB up = true) (hr : 0 ≤ r ∧ r ≤ 2) (h : pairIn up.length a b = true) : joinB up r a b = !decide (rootI up a.toNat = rootI up b.toNat) := by
  obtain ⟨h1, h2⟩ := pairIn_parts h
  have i1 : itemB up a = true := by unfold itemB; rw [hv, decide_eq_true h1]; rfl
  have i2 : itemB up b = true := by unfold itemB; rw [hv, decide_eq_true h2]; rfl
  unfold joinB inRule rootN
  rw [i1, i2, decide_eq_true hr, if_pos rfl, if_pos rfl]
  by_cases e : rootI up a.toNat = rootI up b.toNat
  · rw [e]; simp
  · rw [decide_eq_false e]
    have : ¬ ((rootI up a.toNat : Nat) : Int) = ((rootI up b.toNat : Nat) : Int) := by omega
    simp [this]

set_option maxRecDepth 100000 in
set_option maxHeartbeats 4000000 in
theorem implJoin_any (A : Option Addr) (n c B0 : Nat) (zs : List Int) (r a b : Int) (w : World) (h : Rd w B0 A n zs) (hB0 : B0 ≤ w.heap.size) (hb : n ≤ 1048576) :
    Calls Try.prog 30 #[.slice A n c, .int .i64 r, .int .i64 a, .int .i64 b] w fun e w' => ∃ v, e = .returned (.tuple #[v, .bool (joinB zs r a b)]) ∧ Own w' w.heap.size v (joinN zs r a b) ∧ Below w.heap.size w w' := by
  have R := Lib.hid (joiningOf_any A n c B0 zs w h hB0 hb)
  have HN := Lib.hid h.1
  have hn0 : Own w w.heap.size (.slice none 0 0) [] := ⟨by simp, .inl ⟨rfl, rfl⟩⟩
  obtain ⟨x, hx⟩ : ∃ x, x = joinB zs r a b := ⟨_, rfl⟩
  obtain ⟨ss, hss⟩ : ∃ ss, ss = joinN zs r a b := ⟨_, rfl⟩
  rw [← hx, ← hss]
  have HX := Lib.hid hx
  have HSS := Lib.hid hss
  have HNO : Hid (x = false → ss = []) := fun e => by rw [HSS.out]; exact joinN_no (HX.out.symm.trans e)
  clear h hx hss
  go_enter Try.func30, Try.ntmps30
  go_wp2_with fail
  refine R.out.mono ?_
  rintro e w1 ⟨hb1, ⟨hv, rfl⟩ | ⟨hv, J, M, N, rfl, hN, hm, hj, h1, h2, h3⟩⟩
  · have hx0 := HX.out.trans (joinB_fv hv)
    have hs0 := HNO.out hx0
    subst hx0
    subst hs0
    have RF : Hid (Calls Try.prog 84 #[.int .i64 r] w1 fun e w' => (∃ v, e = .returned v) ∧ w' = w1) := by
      by_cases hr : 0 ≤ r ∧ r ≤ 2
      · exact (ruleFor_yes r hr w1).mono fun _ _ h => ⟨⟨_, h.1⟩, h.2.symm⟩
      · exact (ruleFor_no r hr w1).mono fun _ _ h => ⟨⟨_, h.1⟩, h.2.symm⟩
    have HB1 := Lib.hid hb1
    clear hv hb1
    go_wp2_with fail
    refine RF.out.mono ?_
    rintro e w2 ⟨⟨v, rfl⟩, hw⟩
    subst hw
    go_wp2
    go_ret2
    exact ⟨_, rfl, hn0.keep (HB1.out.alloc HB1.out.size _) (Nat.le_refl _), HB1.out.alloc HB1.out.size _⟩
  · by_cases hr : 0 ≤ r ∧ r ≤ 2
    · have RF := Lib.hid (ruleFor_yes r hr w1)
      obtain ⟨W, hW⟩ : ∃ W, W = (w1.alloc (.cells #[.int .i64 a, .int .i64 b] 42)).alloc (.cells #[.int .i64 a, .int .i64 b] 42) := ⟨_, rfl⟩
      have hW1 : Below w1.heap.size w1 W := by rw [hW]; exact ((Below.refl _ w1).alloc (Nat.le_refl _) _).alloc (by simp) _
      have hWs : W.heap.size = w1.heap.size + 2 := by rw [hW]; simp
      have c1 := pair_cells w1 a b
      have c2 := pair_cells (w1.alloc (.cells #[.int .i64 a, .int .i64 b] 42)) a b
      rw [show (w1.alloc (.cells #[.int .i64 a, .int .i64 b] 42)).heap.size = w1.heap.size + 1 by simp, ← hW] at c2
      have k1 : W.cell? ⟨w1.heap.size, 0, none⟩ = some (.int .i64 a) := by rw [hW]; exact (World.cell?_of_block (Below.heap_alloc _ _ _ (by simp))).trans c1.1
      have k2 : W.cell? ⟨w1.heap.size, 1, none⟩ = some (.int .i64 b) := by rw [hW]; exact (World.cell?_of_block (Below.heap_alloc _ _ _ (by simp))).trans c1.2
      have hNd : Nd w1 N zs := by unfold Nd; rw [HN.out]; exact hN.1
      have HS1 := Lib.hid (And.intro (hb1.trans (hW1.mono hb1.size)) (And.intro (hNd.eq (hW1.block N hNd.lt)) (And.intro (hm.below hW1 hm.lt) (And.intro ((hW1.block J hj.lt).trans hj : Boxed W J 147 (.slice (some ⟨M, 0, none⟩) n n)) (And.intro h1 (And.intro h2 h3))))))
      have PV := Lib.hid (pairsValid_one n a b (w1.heap.size + 1) (pairIn n a b) rfl W c2.1 c2.2)
      obtain ⟨d, hd⟩ : ∃ d, d = pairIn n a b := ⟨_, rfl⟩
      rw [← hd] at PV
      have HD := Lib.hid hd
      have KK := Lib.hid (And.intro k1 k2)
      have HW := Lib.hid hW
      have HWS := Lib.hid hWs
      have HV := Lib.hid hv
      have HR := Lib.hid hr
      clear hv hb1 hN hm hj h1 h2 h3 hr hW hW1 c1 c2 k1 k2 hNd hd hWs
      go_wp2_with fail
      refine RF.out.mono ?_
      rintro e w2 ⟨rfl, hw⟩
      subst hw
      go_wp2_with fail
      rw [← HW.out]
      refine PV.out.mono ?_
      rintro e w2 ⟨rfl, hb2⟩
      have hbx := Lib.hid (HS1.out.1.trans (hb2.mono HS1.out.1.size))
      cases d with
      | false =>
        have hx0 := HX.out.trans (joinB_pair (by rw [HN.out]; exact HD.out.symm))
        have hs0 := HNO.out hx0
        subst hx0
        subst hs0
        clear hb2
        go_wp2
        go_ret2
        exact ⟨_, rfl, hn0.keep hbx.out (Nat.le_refl _), hbx.out⟩
      | true =>
        obtain ⟨ha, hb'⟩ := pairIn_parts HD.out.symm
        obtain ⟨a', rfl⟩ : ∃ a' : Nat, a = a' := ⟨a.toNat, by omega⟩
        obtain ⟨b', rfl⟩ : ∃ b' : Nat, b = b' := ⟨b.toNat, by omega⟩
        have k1 := (hb2.cell (p := ⟨w1.heap.size, 0, none⟩) (by have := HWS.out; simp; omega)).trans KK.out.1
        have k2 := (hb2.cell (p := ⟨w1.heap.size, 1, none⟩) (by have := HWS.out; simp; omega)).trans KK.out.2
        have hj2 : Boxed w2 J 147 (.slice (some ⟨M, 0, none⟩) n n) := (hb2.block J (Boxed.lt HS1.out.2.2.2.1)).trans HS1.out.2.2.2.1
        have JN := Lib.hid (join_any r HR.out J M N n a' b' (szN zs) (htN zs) zs w2 (HS1.out.2.2.1.below hb2 HS1.out.2.2.1.lt) hj2 (HS1.out.2.1.eq (hb2.block N HS1.out.2.1.lt)) (by have := HS1.out.2.2.2.2; omega) HV.out HN.out (by omega) (by omega) (RootsTell.all zs))
        have HJ2 := Lib.hid hj2
        have hx1 := HX.out.trans (joinB_in HV.out HR.out (by rw [HN.out]; exact HD.out.symm))
        simp only [Int.toNat_natCast] at hx1
        rw [← hx1] at JN
        have HL := Lib.hid (And.intro (show a' < zs.length by have := HN.out; omega) (show b' < zs.length by have := HN.out; omega))
        clear hb2 hj2 hx1 ha hb'
        go_wp2_with fail
        refine JN.out.mono ?_
        rintro e w3 ⟨rfl, hN3, ⟨sz', ht', hm3, _⟩, hc3⟩
        have hlo : ∀ k, (k = N ∨ k = M) → w.heap.size ≤ k := fun k hk => by have := HS1.out.2.2.2.2; omega
        have hbz := hbx.out.trans (hc3.below hbx.out.size hlo)
        have hj3 : Boxed w3 J 147 (.slice (some ⟨M, 0, none⟩) n n) := (hc3.block J (Boxed.lt HJ2.out) (by have := HS1.out.2.2.2.2; omega)).trans HJ2.out
        have HBZ := Lib.hid hbz
        cases x with
        | false =>
          have hs0 := HNO.out rfl
          subst hs0
          clear hN3 hm3 hc3 hlo hbz hj3 k1 k2
          go_wp2
          go_ret2
          exact ⟨_, rfl, hn0.keep HBZ.out (Nat.le_refl _), HBZ.out⟩
        | true =>
          have hss1 := HSS.out.trans (joinN_yes HX.out.symm)
          simp only [Int.toNat_natCast] at hss1
          subst hss1
          have FO := Lib.hid (forest_any J M N n sz' ht' _ w3 hm3 hj3 hN3 (joinL_fv HV.out HL.out.1 HL.out.2 r) (by rw [joinL_len]; exact HN.out) hb)
          clear hN3 hm3 hc3 hlo hbz hj3 k1 k2
          go_wp2_with fail
          refine FO.out.mono ?_
          rintro e w4 ⟨v, rfl, ho, hb4⟩
          have HO := Lib.hid (ho.less HBZ.out.size)
          have HB4 := Lib.hid (HBZ.out.trans (hb4.mono HBZ.out.size))
          clear ho hb4
          go_wp2_with fail
          go_ret2
          exact ⟨_, rfl, HO.out, HB4.out⟩
    · have hx0 := HX.out.trans (joinB_rule hr)
      have hs0 := HNO.out hx0
      subst hx0
      subst hs0
      have RF := Lib.hid (ruleFor_no r hr w1)
      have HB1 := Lib.hid hb1
      clear hv hb1 hN hm hj h1 h2 h3 hr
      go_wp2_with fail
      refine RF.out.mono ?_
      rintro e w2 ⟨rfl, hw⟩
      subst hw
      go_wp2
      go_ret2
      exact ⟨_, rfl, hn0.keep (HB1.out.alloc HB1.out.size _) (Nat.le_refl _), HB1.out.alloc HB1.out.size _⟩
end Go.Proofs.Ytemkbheplmimoaa
