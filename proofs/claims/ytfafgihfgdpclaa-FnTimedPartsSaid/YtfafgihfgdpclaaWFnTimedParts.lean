/- The walk of FnTimedParts: for every drawn number of items, pairs and text the law returns true. -/
import Derived.Test.YtfafgihfgdpclaaTimesLaw
import Derived.Test.YtfafgihfgdpclaaLr
import Derived.BigQuiet
namespace Go.Proofs.Ytfafgihfgdpclaa
open Go.RowKit Go.Shelf

set_option maxRecDepth 100000 in
set_option maxHeartbeats 8000000 in
theorem fnTimedParts (A0 : Option Addr) (n0 c0 : Nat) (z0 : List Int) (A1 : Option Addr) (n1 c1 : Nat) (z1 : List Int) (w : World) (h0 : Row .u8 w A0 n0 c0 z0) (_h1 : Row .u8 w A1 n1 c1 z1) :
    Calls Try.prog 11 #[.slice A0 n0 c0, .slice A1 n1 c1] w fun e w' => e = .returned (.bool true) ∧ Below w.heap.size w w' := by
  by_cases hl0 : 1048576 < n0
  · clear h0
    go_enter Try.func11, Try.ntmps11
    go_wp2
    go_ret
    exact ⟨rfl, Below.refl _ _⟩
  by_cases hl1 : 1048576 < n1
  · clear h0
    go_enter Try.func11, Try.ntmps11
    go_wp2
    go_ret
    exact ⟨rfl, Below.refl _ _⟩
  obtain ⟨b0, hc0⟩ := h0.bt
  have D0 := Lib.hid (drawTimedOf_any A0 n0 c0 w.heap.size z0 w b0 (Nat.le_refl _) hc0)
  clear h0 b0 hc0
  go_enter Try.func11, Try.ntmps11
  go_wp2_with fail
  refine D0.out.mono ?_
  rintro e w1 ⟨n, v, qs, rfl, hn17, hq, hlq, hb1⟩
  obtain ⟨A', c', rfl, hrq, hcap⟩ := OwnQ.form2 hq
  obtain ⟨m, hm⟩ : ∃ m, m = qs.length := ⟨_, rfl⟩
  rw [← hm] at hrq hlq hcap ⊢
  clear hq D0
  have IT := tm_read' (implTimedOf_any (n : Int) A' m c' w1.heap.size qs w1 hrq (Nat.le_refl _) (by omega))
  have ST := fun (w2 : World) (hb2 : Below w1.heap.size w1 w2) => tm_read (specTimedOf_any (n : Int) A' m c' w1.heap.size qs w2 (hrq.below hb2 (Nat.le_refl _)) hb2.size (by omega))
  cases hv : logB (n : Int) qs with
  | false =>
    rw [hv] at IT ST
    have IT := Lib.hid IT
    have ST := Lib.hid ST
    have HB1 := Lib.hid hb1
    clear hrq hv hm hb1 hcap
    go_wp2_with fail
    refine IT.out.mono ?_
    rintro e w2 ⟨A2, c2, A3, c3, rfl, _, _, hb2⟩
    have hbV : Below w2.heap.size w2 (w2.alloc (.cells #[.slice A2 (logUp (n : Int) qs).length c2, .slice A3 (tmAt (n : Int) qs).length c3] 64)) := (Below.refl _ _).alloc (Nat.le_refl _) _
    have HB2 := Lib.hid (Below.on hb2 hbV)
    clear hb2 hbV
    go_wp2_with fail
    refine (ST.out _ HB2.out).mono ?_
    rintro e w3 ⟨A4, c4, A5, c5, rfl, _, _, hb3⟩
    have HB3 := Lib.hid ((Below.on HB1.out (Below.on HB2.out hb3)).alloc (Below.on HB1.out (Below.on HB2.out hb3)).size (.cells #[.slice A4 (logUp (n : Int) qs).length c4, .slice A5 (tmAt (n : Int) qs).length c5] 64))
    clear hb3
    go_wp2_with fail
    go_ret
    exact ⟨rfl, HB3.out⟩
  | true =>
    obtain ⟨⟨p1, p16⟩, hin, h24, hpl⟩ := tmOf_parts hv
    rw [Int.toNat_natCast] at p1 p16 hin
    obtain ⟨K, hK⟩ : ∃ K, K = n1 % (m + 1) := ⟨_, rfl⟩
    have hKm : K ≤ m := by have := Nat.mod_lt n1 (show 0 < m + 1 by omega); omega
    have HKI : (n1 : Int) % ((m : Int) + 1) = (K : Int) := by rw [hK]; simp
    have HKT : (n1 : Int).tmod ((m : Int) + 1) = (K : Int) := by rw [← HKI]; exact Int.tmod_eq_emod_of_nonneg (by omega)
    obtain ⟨f1, f2, f3⟩ := tm_first hv (K := K) (by omega)
    have IX := fun (w2 : World) (hb2 : Below w1.heap.size w1 w2) => tm_read' (implTimedOf_any (n : Int) A' K c' w1.heap.size (qs.take K) w2 ((hrq.take hKm).below hb2 (Nat.le_refl _)) hb2.size (by omega))
    rw [f1, f2, f3] at IX
    rw [hv, tmUp_yes hv, tmAt_yes hv, Int.toNat_natCast] at IT ST
    have hul := upk_len n (natP qs) qs.length
    have htl := tmTo_len n (natP qs) qs.length
    have hul2 := upk_len n (natP qs) K
    have htl2 := tmTo_len n (natP qs) K
    have hfa : askB (upk n (natP qs) qs.length) (tmTo n (natP qs) qs.length) (K : Int) = true ∧ faL (upk n (natP qs) qs.length) (tmTo n (natP qs) qs.length) (K : Int) = upk n (natP qs) K := by
      have hask : askB (upk n (natP qs) qs.length) (tmTo n (natP qs) qs.length) (K : Int) = true := by
        unfold askB
        rw [← hpl, tmTo_valid p1 p16 hin h24 (Nat.le_refl _), decide_eq_true (by omega)]
        rfl
      refine ⟨hask, ?_⟩
      rw [faL_yes hask, ← hpl, at_to p1 p16 hin h24 K _ (Nat.le_refl _), Nat.min_eq_left (by omega)]
    have htt : ∀ i, i < n → (tmTo n (natP qs) K)[i]?.getD 0 = (if (tmTo n (natP qs) qs.length)[i]?.getD 0 ≤ (K : Int) then (tmTo n (natP qs) qs.length)[i]?.getD 0 else 0) ∧ 0 ≤ (tmTo n (natP qs) qs.length)[i]?.getD 0 := fun i hi => by
      have h1 := tmTo_first p1 p16 hin h24 (k := K) (qs.length - K) (by omega) i hi
      rw [show K + (qs.length - K) = qs.length by omega] at h1
      exact ⟨h1, (tmTo_inv p1 p16 hin h24 qs.length (by omega) i hi).1.1⟩
    obtain ⟨up, hup⟩ : ∃ up, up = upk n (natP qs) qs.length := ⟨_, rfl⟩
    obtain ⟨ts, hts⟩ : ∃ ts, ts = tmTo n (natP qs) qs.length := ⟨_, rfl⟩
    obtain ⟨yu, hyu⟩ : ∃ yu, yu = upk n (natP qs) K := ⟨_, rfl⟩
    obtain ⟨yt, hyt⟩ : ∃ yt, yt = tmTo n (natP qs) K := ⟨_, rfl⟩
    rw [← hup] at IT ST hul hfa
    rw [← hts] at IT ST htl hfa
    rw [← hyu] at IX hul2 hfa
    rw [← hyt] at IX htl2
    simp only [← hts, ← hyt] at htt
    rw [hul, htl] at IT ST
    rw [hul2, htl2] at IX
    have FA : Hid (∀ (A2 : Option Addr) (c2 : Nat) (A3 : Option Addr) (c3 : Nat) (w2 : World), Rd w2 w2.heap.size A2 n up → Rd w2 w2.heap.size A3 n ts → Calls Try.prog 61 #[.agg #[.slice A2 n c2, .slice A3 n c3], .int .i64 (K : Int)] w2 fun e w' => ∃ A c, e = .returned (.tuple #[.slice A n c, .bool true]) ∧ Rd w' w'.heap.size A n yu ∧ Below w2.heap.size w2 w') := fun A2 c2 A3 c3 w2 h2 h3 => by
      have := rd2_of (implForestAt_any A2 A3 n c2 n c3 _ (K : Int) up ts w2 h2 h3 (Nat.le_refl _) (by omega) (by omega))
      rw [hfa.1, hfa.2, hul2] at this
      exact this
    have SL := pairs_sliceT A' m c' K hKm hcap
    have IT := Lib.hid IT
    have ST := Lib.hid ST
    have IX := Lib.hid IX
    have HT := Lib.hid htt
    have HB1 := Lib.hid hb1
    have hm24 : m ≤ 24 := by omega
    have hn16 : n ≤ 16 := p16
    have hKm2 : K ≤ m := hKm
    clear hrq hv hb1 p1 p16 hin h24 hpl hul htl hup hts hm hlq hn17 hK hKm f1 f2 f3 hul2 htl2 hfa htt hyu hyt hcap
    go_wp2_with fail
    refine IT.out.mono ?_
    rintro e w2 ⟨A2, c2, A3, c3, rfl, hr2, hr3, hb2⟩
    obtain ⟨V, hV⟩ : ∃ V, V = w2.alloc (.cells #[.slice A2 n c2, .slice A3 n c3] 64) := ⟨_, rfl⟩
    have hbV : Below w2.heap.size w2 V := by rw [hV]; exact (Below.refl _ _).alloc (Nat.le_refl _) _
    have hXV : V.heap[w2.heap.size]? = some (.cells #[.slice A2 n c2, .slice A3 n c3] 64 (0, 0)) := by rw [hV]; exact World.alloc_heap_new w2 _
    obtain ⟨X, hX⟩ : ∃ X, X = w2.heap.size := ⟨_, rfl⟩
    rw [← hX] at hXV
    have HV := Lib.hid (And.intro (Below.on hb2 hbV) (And.intro hXV (And.intro (hr2.to hbV) (And.intro (hr3.to hbV) (Array.getElem?_eq_some_iff.1 hXV).1))))
    have HVE := Lib.hid (And.intro hV hX)
    clear hr2 hr3 hb2 hV hbV hXV hX
    go_wp2_with fail
    rw [← HVE.out.1, ← HVE.out.2]
    refine (ST.out V HV.out.1).mono ?_
    rintro e w3 ⟨A4, c4, A5, c5, rfl, _, _, hb3⟩
    obtain ⟨V3, hV3⟩ : ∃ V3, V3 = w3.alloc (.cells #[.slice A4 n c4, .slice A5 n c5] 64) := ⟨_, rfl⟩
    have hbV3 : Below V.heap.size V V3 := by rw [hV3]; exact hb3.alloc hb3.size _
    have HB3 := Lib.hid hbV3
    have HV3 := Lib.hid hV3
    clear hb3 hV3 hbV3
    go_wp2_with fail
    rw [← HV3.out]
    refine (IX.out V3 (Below.on HV.out.1 HB3.out)).mono ?_
    rintro e w4 ⟨A6, c6, A7, c7, rfl, hr6, hr7, hb4⟩
    obtain ⟨V4, hV4⟩ : ∃ V4, V4 = w4.alloc (.cells #[.slice A6 n c6, .slice A7 n c7] 64) := ⟨_, rfl⟩
    have hbV4 : Below w4.heap.size w4 V4 := by rw [hV4]; exact (Below.refl _ _).alloc (Nat.le_refl _) _
    have hXV4 : V4.heap[w4.heap.size]? = some (.cells #[.slice A6 n c6, .slice A7 n c7] 64 (0, 0)) := by rw [hV4]; exact World.alloc_heap_new w4 _
    obtain ⟨X4, hX4⟩ : ∃ X4, X4 = w4.heap.size := ⟨_, rfl⟩
    rw [← hX4] at hXV4
    have hb34 : Below V.heap.size V V4 := Below.on HB3.out (Below.on hb4 hbV4)
    have hXr := (hb34.block X HV.out.2.2.2.2).trans HV.out.2.1
    obtain ⟨⟨x1, x2⟩, _⟩ := boxTwo_cells hXr
    have H4 := Lib.hid (And.intro hb34 (And.intro hXV4 (And.intro (hr6.to hbV4) (And.intro (hr7.to hbV4) (And.intro (Array.getElem?_eq_some_iff.1 hXV4).1 hXr)))))
    have HV4 := Lib.hid (And.intro hV4 hX4)
    have FZ := Lib.hid (FA.out A2 c2 A3 c3 V4 (HV.out.2.2.1.to hb34) (HV.out.2.2.2.1.to hb34))
    rw [hV4] at x1 x2
    clear hr6 hr7 hb4 hV4 hX4 hbV4 hXV4 hb34 hXr SL
    go_wp2_with fail
    rw [← HV4.out.1, ← HV4.out.2]
    refine FZ.out.mono ?_
    rintro e w5 ⟨A8, c8, rfl, hr8, hb5⟩
    have H5 := Lib.hid (And.intro hb5 hr8)
    have HI0 : Hid (Below w5.heap.size w5 w5) := Below.refl _ _
    clear hr8 hb5 x1 x2
    go_wp2_with fail
    go_loopw [73] (fun i wr => ∃ j : Nat, j ≤ n ∧ i = .int .i64 j ∧ Hid (Below w5.heap.size w5 wr)) (fun i _ => n - (intOf i).toNat)
    case atStart => exact ⟨0, Nat.zero_le _, rfl, HI0⟩
    case round =>
      obtain ⟨j, hj, rfl, HR⟩ := hrel
      clear HI0
      obtain ⟨g1, g2, g3, g4, g5, g6⟩ := H4.out
      have hb5r : Below V4.heap.size V4 wr := Below.on H5.out.1 HR.out
      by_cases hlt : j < n
      · have hjj : (j : Int) < (n : Int) := by omega
        obtain ⟨⟨x1, x2⟩, _⟩ := boxTwo_cells ((hb5r.block X (Array.getElem?_eq_some_iff.1 g6).1).trans g6)
        obtain ⟨⟨y1, y2⟩, _⟩ := boxTwo_cells ((hb5r.block X4 g5).trans g2)
        obtain ⟨b7, o7, rfl, _, q7⟩ := (g4.to hb5r).2 (by omega)
        obtain ⟨b3, o3, rfl, _, q3⟩ := ((HV.out.2.2.2.1.to g1).to hb5r).2 (by omega)
        have s7 := q7 j hlt
        have s3 := q3 j hlt
        obtain ⟨e1, e2⟩ := HT.out j hlt
        obtain ⟨a, ha⟩ : ∃ a, a = yt[j]?.getD 0 := ⟨_, rfl⟩
        obtain ⟨b, hb⟩ : ∃ b, b = ts[j]?.getD 0 := ⟨_, rfl⟩
        rw [← ha] at s7 e1
        rw [← hb] at s3 e1 e2
        have HN : Hid (∀ q, Below w5.heap.size w5 (wr.drewN q)) := fun q => below_drewN HR.out q
        clear g1 g2 g3 g4 g5 g6 hb5r q7 q3 ha hb HR
        rcases (show b = 0 ∨ (0 < b ∧ b ≤ (K : Int)) ∨ (K : Int) < b by omega) with h | ⟨h, h'⟩ | h
        · subst h
          have ha : a = 0 := by rw [e1]; split <;> rfl
          subst ha
          clear e1 e2
          go_wp2_with fail
          go_quiet (fail)
          have HI2 := Lib.hid (HN.out nq)
          go_wp2_with fail
          go_roundw
          case rel => exact ⟨j + 1, by omega, by go_num, HI2⟩
          case measure => simp [intOf]; omega
        · rw [if_pos h'] at e1
          subst e1
          have t1 : (a != a) = false := by simp
          clear e2
          go_wp2_with fail
          go_quiet (fail)
          have HI2 := Lib.hid (HN.out nq)
          go_wp2_with fail
          go_roundw
          case rel => exact ⟨j + 1, by omega, by go_num, HI2⟩
          case measure => simp [intOf]; omega
        · rw [if_neg (by omega)] at e1
          subst e1
          have h2 : decide (b ≤ (K : Int)) = false := decide_eq_false (by omega)
          have h3 : decide (0 < b) = true := decide_eq_true (by omega)
          clear e2 h
          go_wp2_with fail
          go_quiet (fail)
          have HI2 := Lib.hid (HN.out nq)
          go_wp2_with fail
          go_roundw
          case rel => exact ⟨j + 1, by omega, by go_num, HI2⟩
          case measure => simp [intOf]; omega
      · obtain rfl : j = n := by omega
        obtain ⟨⟨y1, y2⟩, _⟩ := boxTwo_cells ((hb5r.block X4 g5).trans g2)
        have LR := Lib.hid (lrSame_any A6 A8 j c6 c8 _ _ yu wr (g3.to hb5r) (H5.out.2.to HR.out) (by omega))
        have HB6 := Lib.hid (Below.on HB1.out (Below.on HV.out.1 (Below.on g1 hb5r)))
        clear g1 g2 g3 g4 g5 g6 hb5r HR
        go_wp2_with fail
        refine LR.out.mono ?_
        rintro e w7 ⟨rfl, q, rfl⟩
        go_wp2_with fail
        go_ret
        exact ⟨rfl, below_drewN HB6.out q⟩
end Go.Proofs.Ytfafgihfgdpclaa
