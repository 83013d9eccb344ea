/- The walk of FnOneLess: for every drawn number of items and pairs the law returns true. -/
import Derived.Test.YtfafgihfgdpclaaTimesLaw
import Derived.Test.YtfafgihfgdpclaaDraw11
namespace Go.Proofs.Ytfafgihfgdpclaa
open Go.RowKit Go.Shelf

set_option maxRecDepth 100000 in
set_option maxHeartbeats 8000000 in
theorem fnOneLess (A0 : Option Addr) (n0 c0 : Nat) (z0 : List Int) (w : World) (h0 : Row .u8 w A0 n0 c0 z0) :
    Calls Try.prog 13 #[.slice A0 n0 c0] w fun e w' => e = .returned (.bool true) ∧ Below w.heap.size w w' := by
  by_cases hl0 : 1048576 < n0
  · clear h0
    go_enter Try.func13, Try.ntmps13
    go_wp2
    go_ret
    exact ⟨rfl, Below.refl _ _⟩
  obtain ⟨b0, hc0⟩ := h0.bt
  have D0 := Lib.hid (drawTimedOf_any A0 n0 c0 w.heap.size z0 w b0 (Nat.le_refl _) hc0)
  clear h0 b0 hc0
  go_enter Try.func13, Try.ntmps13
  go_wp2_with fail
  refine D0.out.mono ?_
  rintro e w1 ⟨n, v, qs, rfl, hn17, hq, hlq, hb1⟩
  obtain ⟨A', c', rfl, hrq⟩ := hq.form
  have hqc := hq.cases
  obtain ⟨m, hm⟩ : ∃ m, m = qs.length := ⟨_, rfl⟩
  rw [← hm] at hrq hlq hqc
  rw [← hm]
  clear hq D0 hqc
  have IT := tm_read' (implTimedOf_any (n : Int) A' m c' w1.heap.size qs w1 hrq (Nat.le_refl _) (by omega))
  have ST := fun (w2 : World) (hb2 : Below w1.heap.size w1 w2) => tm_read (specTimedOf_any (n : Int) A' m c' w1.heap.size qs w2 (hrq.below hb2 (Nat.le_refl _)) hb2.size (by omega))
  have IC := fun (w2 : World) (hb2 : Below w1.heap.size w1 w2) => implCount_any (n : Int) A' m c' w1.heap.size qs w2 (hrq.below hb2 (Nat.le_refl _)) hb2.size (by omega)
  cases hv : logB (n : Int) qs with
  | false =>
    rw [hv] at IT ST
    have IT := Lib.hid IT
    have ST := Lib.hid ST
    have HB1 := Lib.hid hb1
    clear IC hrq hv hm hb1
    go_wp2_with fail
    refine IT.out.mono ?_
    rintro e w2 ⟨A2, c2, A3, c3, rfl, _, _, hb2⟩
    have hbV : Below w2.heap.size w2 (w2.alloc (.cells #[.slice A2 (logUp (n : Int) qs).length c2, .slice A3 (tmAt (n : Int) qs).length c3] 64)) := (Below.refl _ _).alloc (Nat.le_refl _) _
    have HB2 := Lib.hid (Below.on hb2 hbV)
    clear hb2 hbV
    go_wp2_with fail
    refine (ST.out _ HB2.out).mono ?_
    rintro e w3 ⟨A4, c4, A5, c5, rfl, _, _, hb3⟩
    have HB3 := Lib.hid ((Below.on HB1.out (Below.on HB2.out hb3)).alloc (Below.on HB1.out (Below.on HB2.out hb3)).size (.cells #[.slice A4 (logUp (n : Int) qs).length c4, .slice A5 (tmAt (n : Int) qs).length c5] 64))
    clear hb3
    go_wp2_with fail
    go_ret
    exact ⟨rfl, HB3.out⟩
  | true =>
    obtain ⟨⟨p1, p16⟩, hin, h24, hpl⟩ := tmOf_parts hv
    rw [Int.toNat_natCast] at p1 p16 hin
    rw [hv, tmUp_yes hv, tmAt_yes hv, Int.toNat_natCast] at IT ST
    obtain ⟨C, hC⟩ : ∃ C, C = cAt n (natP qs) := ⟨_, rfl⟩
    have HC : Hid (C 0 = n ∧ (∀ k, C k ≤ 16) ∧ (∀ k, C (k + 1) ≤ C k ∧ C k ≤ C (k + 1) + 1 ∧ (m ≤ k → C (k + 1) = C k)) ∧ (∀ k, m ≤ k → ccN (n : Int) qs = (C k : Int))) := by
      rw [hC]
      exact ⟨cAt_zero p1 p16, cAt_le p1 p16 hin, fun k => by rw [hm, ← hpl]; exact cAt_step p1 p16 hin k, fun k hk => cAt_end hv (by omega)⟩
    have hca := fun (k : Nat) (hk : k ≤ 24) => ca_at hv hk
    rw [← hC] at hca
    have hul := upk_len n (natP qs) qs.length
    have htl := tmTo_len n (natP qs) qs.length
    obtain ⟨up, hup⟩ : ∃ up, up = upk n (natP qs) qs.length := ⟨_, rfl⟩
    obtain ⟨ts, hts⟩ : ∃ ts, ts = tmTo n (natP qs) qs.length := ⟨_, rfl⟩
    rw [← hup] at IT ST hul hca
    rw [← hts] at IT ST htl hca
    rw [hul, htl] at IT ST
    have CA : Hid (∀ (k : Nat), k ≤ 24 → ∀ (A2 : Option Addr) (c2 : Nat) (A3 : Option Addr) (c3 : Nat) (w2 : World), Rd w2 w2.heap.size A2 n up → Rd w2 w2.heap.size A3 n ts → Calls Try.prog 64 #[.agg #[.slice A2 n c2, .slice A3 n c3], .int .i64 (k : Int)] w2 fun e w' => e = .returned (.int .i64 (C k : Int)) ∧ Below w2.heap.size w2 w') := fun k hk A2 c2 A3 c3 w2 h2 h3 => by
      have := implClassesAt_any A2 A3 n c2 n c3 _ (k : Int) up ts w2 h2 h3 (Nat.le_refl _) (by omega) (by omega)
      rw [hca k hk] at this
      exact this
    have IT := Lib.hid IT
    have ST := Lib.hid ST
    have IC := Lib.hid IC
    have HB1 := Lib.hid hb1
    have hm24 : m ≤ 24 := by omega
    have hn16 : n ≤ 16 := p16
    have HC0 : Hid ((n : Int) = (C (0 - 1) : Int)) := by show _ = _; rw [HC.out.1]
    clear hrq hv hb1 p1 p16 hin h24 hpl hC hca hul htl hup hts hm hlq hn17
    go_wp2_with fail
    refine IT.out.mono ?_
    rintro e w2 ⟨A2, c2, A3, c3, rfl, hr2, hr3, hb2⟩
    obtain ⟨V, hV⟩ : ∃ V, V = w2.alloc (.cells #[.slice A2 n c2, .slice A3 n c3] 64) := ⟨_, rfl⟩
    have hbV : Below w2.heap.size w2 V := by rw [hV]; exact (Below.refl _ _).alloc (Nat.le_refl _) _
    have hXV : V.heap[w2.heap.size]? = some (.cells #[.slice A2 n c2, .slice A3 n c3] 64 (0, 0)) := by rw [hV]; exact World.alloc_heap_new w2 _
    obtain ⟨X, hX⟩ : ∃ X, X = w2.heap.size := ⟨_, rfl⟩
    rw [← hX] at hXV
    have HV := Lib.hid (And.intro (Below.on hb2 hbV) (And.intro hXV (And.intro (hr2.to hbV) (hr3.to hbV))))
    have HVE := Lib.hid (And.intro hV hX)
    clear hr2 hr3 hb2 hV hbV hXV hX
    go_wp2_with fail
    rw [← HVE.out.1, ← HVE.out.2]
    refine (ST.out V HV.out.1).mono ?_
    rintro e w3 ⟨A4, c4, A5, c5, rfl, _, _, hb3⟩
    obtain ⟨V3, hV3⟩ : ∃ V3, V3 = w3.alloc (.cells #[.slice A4 n c4, .slice A5 n c5] 64) := ⟨_, rfl⟩
    have hbV3 : Below V.heap.size V V3 := by rw [hV3]; exact hb3.alloc hb3.size _
    have HB3 := Lib.hid hbV3
    have HV3 := Lib.hid hV3
    clear hb3 hV3 hbV3
    go_wp2_with fail
    rw [← HV3.out]
    go_loopw [9, 43] (fun l i wr => ∃ k : Nat, k ≤ 25 ∧ i = .int .i64 k ∧ l = .int .i64 (C (k - 1) : Int) ∧ Hid (Below V.heap.size V wr)) (fun _ i _ => 25 - (intOf i).toNat)
    case atStart => exact ⟨0, by omega, rfl, by rw [← HC0.out], HB3⟩
    case round =>
      obtain ⟨k, hk, rfl, rfl, HR⟩ := hrel
      clear HC0 HB3
      obtain ⟨v1, v2, v3, v4⟩ := HV.out
      by_cases hlt : k < 25
      · have hkk : (k : Int) < 25 := by omega
        obtain ⟨⟨x1, x2⟩, _⟩ := boxTwo_cells ((HR.out.block X (Array.getElem?_eq_some_iff.1 v2).1).trans v2)
        have CZ := Lib.hid (CA.out k (by omega) A2 c2 A3 c3 wr (v3.to HR.out) (v4.to HR.out))
        have hst : C k ≤ C (k - 1) ∧ C (k - 1) ≤ C k + 1 ∧ (m < k → C k = C (k - 1)) := by
          cases k with
          | zero => exact ⟨Nat.le_refl _, (show C 0 ≤ C 0 + 1 by omega), fun _ => rfl⟩
          | succ j =>
            have := HC.out.2.2.1 j
            exact ⟨this.1, this.2.1, fun h => this.2.2 (by omega)⟩
        have hl16 := HC.out.2.1 (k - 1)
        obtain ⟨L, hL⟩ : ∃ L, L = C (k - 1) := ⟨_, rfl⟩
        obtain ⟨D, hD⟩ : ∃ D, D = C k := ⟨_, rfl⟩
        rw [← hD] at CZ
        rw [← hL, ← hD] at hst
        rw [← hL] at hl16 ⊢
        have HD : Hid (D = C (k + 1 - 1)) := hD
        obtain ⟨hs1, hs2, hs3⟩ := hst
        have f1 : ¬ (L : Int) < (D : Int) := by omega
        have f2 : ¬ (D : Int) < (L : Int) - 1 := by omega
        have hwr : IntKind.i64.wrap ((L : Int) - 1) = (L : Int) - 1 := IntWalk.i64_in _ (by omega)
        clear v1 v2 v3 v4 hL hD
        by_cases hmk : m < k
        · have f3 : (m : Int) < (k : Int) := by omega
          have f4 : ((D : Int) != (L : Int)) = false := by simp [hs3 hmk]
          clear hs3 hmk
          go_wp2_with fail
          refine CZ.out.mono ?_
          rintro e w4 ⟨rfl, hb4⟩
          have HB4 : Hid (Below V.heap.size V w4) := Below.on HR.out hb4
          clear hb4 x1 x2
          go_wp2_with fail
          go_roundw
          case rel => exact ⟨k + 1, by omega, by go_num, by rw [HD.out], HB4⟩
          case measure => simp [intOf]; omega
        · have f3 : ¬ (m : Int) < (k : Int) := by omega
          clear hs3 hmk
          go_wp2_with fail
          refine CZ.out.mono ?_
          rintro e w4 ⟨rfl, hb4⟩
          have HB4 : Hid (Below V.heap.size V w4) := Below.on HR.out hb4
          clear hb4 x1 x2
          go_wp2_with fail
          go_roundw
          case rel => exact ⟨k + 1, by omega, by go_num, by rw [HD.out], HB4⟩
          case measure => simp [intOf]; omega
      · obtain rfl : k = 25 := by omega
        have hcc := HC.out.2.2.2 24 (by omega)
        have hb25 := Below.on v1 HR.out
        have ICZ := IC.out wr hb25
        rw [hcc] at ICZ
        have ICZ := Lib.hid ICZ
        have HB5 := Lib.hid (Below.on HB1.out hb25)
        have t1 : ((C (25 - 1) : Int) == (C 24 : Int)) = true := by simp
        clear v1 v2 v3 v4 hcc hb25
        go_wp2_with fail
        refine ICZ.out.mono ?_
        rintro e w4 ⟨rfl, hb4⟩
        have HB6 := Lib.hid (Below.on HB5.out hb4)
        clear hb4
        go_wp2_with fail
        go_ret
        exact ⟨rfl, HB6.out⟩
end Go.Proofs.Ytfafgihfgdpclaa
