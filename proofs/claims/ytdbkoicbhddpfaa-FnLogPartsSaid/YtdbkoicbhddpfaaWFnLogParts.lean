/- The walk of the law on logs of the first pairs: for every row of bytes the law returns true and nothing that was there has turned. -/
import Derived.Test.YtdbkoicbhddpfaaLogParts
import Derived.Test.YtdbkoicbhddpfaaLogOf
import Derived.Test.YtdbkoicbhddpfaaSpecLogOf
import Derived.Test.YtdbkoicbhddpfaaDraw11
namespace Go.Proofs.Ytdbkoicbhddpfaa
open Go.RowKit Go.Shelf

theorem drawLogOf_any (A : Option Addr) (n c B : Nat) (bs : List Int) (w : World) (h : Bt w B A n bs) (hB : B ≤ w.heap.size) (hc : n ≤ c) :
    Calls Try.prog 32 #[.slice A n c] w fun e w' => ∃ (m : Nat) (v : Value) (ps : List (Int × Int)), e = .returned (.tuple #[.int .i64 (m : Int), v]) ∧ m ≤ 17 ∧ OwnQ 57 w' w.heap.size v ps ∧ ps.length ≤ 25 ∧ Below w.heap.size w w' := by
  have D := Lib.hid (drawUseful_any A n c B bs w h hB hc)
  clear h hB hc
  go_enter Try.func32, Try.ntmps32
  go_wp2_with fail
  refine D.out.mono ?_
  rintro e w1 ⟨m, v, ps, rfl, h1, h2, h3, h4⟩
  have HX := Lib.hid (And.intro h1 (And.intro h2 (And.intro h3 h4)))
  clear h1 h2 h3 h4
  go_wp2_with fail
  go_ret2
  exact ⟨m, v, ps, rfl, HX.out⟩
set_option maxRecDepth 100000 in
set_option maxHeartbeats 8000000 in
theorem fnLogParts (A0 : Option Addr) (n0 c0 : Nat) (z0 : List Int) (w : World) (h0 : Row .u8 w A0 n0 c0 z0) :
    Calls Try.prog 8 #[.slice A0 n0 c0] w fun e w' => e = .returned (.bool true) ∧ Below w.heap.size w w' := by
  by_cases hl0 : 1048576 < n0
  · clear h0
    go_enter Try.func8, Try.ntmps8
    go_wp2
    go_ret
    exact ⟨rfl, Below.refl _ _⟩
  obtain ⟨b0, hc0⟩ := h0.bt
  have D0 := Lib.hid (drawLogOf_any A0 n0 c0 w.heap.size z0 w b0 (Nat.le_refl _) hc0)
  clear h0 b0 hc0
  go_enter Try.func8, Try.ntmps8
  go_wp2_with fail
  refine D0.out.mono ?_
  rintro e w1 ⟨m0, v, qs, rfl, hm0, hq, hlq, hb1⟩
  obtain ⟨A', c', rfl, hrq, hcap⟩ := OwnQ.form2 hq
  obtain ⟨m, hm⟩ : ∃ m, m = qs.length := ⟨_, rfl⟩
  rw [← hm] at hrq hlq hcap ⊢
  clear hq D0
  have RI := fun (k : Nat) (hk : Hid (k ≤ m)) (w2 : World) (hb2 : Below w1.heap.size w1 w2) => log2_of (implLogOf_any (m0 : Int) A' k c' w1.heap.size (qs.take k) w2 ((hrq.take hk.out).below hb2 (Nat.le_refl _)) hb2.size (by have := hk.out; omega))
  have RS := fun (w2 : World) (hb2 : Below w1.heap.size w1 w2) => log2_of' (specLogOf_any (m0 : Int) A' m c' w1.heap.size qs w2 (hrq.below hb2 (Nat.le_refl _)) hb2.size (by omega))
  have RI0 := RI m (Nat.le_refl _)
  rw [List.take_of_length_le (by omega)] at RI0
  have HB1 := Lib.hid hb1
  have HCAP := Lib.hid hcap
  cases hv : logB (m0 : Int) qs with
  | false =>
    rw [hv] at RS RI0
    replace RI0 := Lib.hid RI0
    replace RS := Lib.hid RS
    clear hv hm hrq hcap hb1 RI
    go_wp2_with fail
    refine (RI0.out _ (Below.refl _ _)).mono ?_
    rintro e w2 ⟨A2, c2, A3, c3, rfl, _, _, _, hb2⟩
    have HB2 := Lib.hid hb2
    clear hb2
    go_wp2_with fail
    refine (RS.out _ (HB2.out.alloc HB2.out.size _)).mono ?_
    rintro e w3 ⟨A4, c4, A5, c5, rfl, _, _, _, hb3⟩
    have HB3 := Lib.hid (Below.on HB1.out ((HB2.out.alloc HB2.out.size _).trans (hb3.mono (HB2.out.alloc HB2.out.size _).size)))
    clear hb3
    go_wp2_with fail
    go_ret
    exact ⟨rfl, HB3.out.alloc HB3.out.size _⟩
  | true =>
    obtain ⟨hval, hun⟩ := lg_valid hv
    have hlf := fun k => lg_first hv k
    have hshort := fun k => lg_short (n := (m0 : Int)) (qs := qs.take k)
    have hsh0 := lg_short (n := (m0 : Int)) (qs := qs)
    rw [hv] at RS RI0
    obtain ⟨us, hus⟩ : ∃ us, us = logUp (m0 : Int) qs := ⟨_, rfl⟩
    obtain ⟨vs, hvs⟩ : ∃ vs, vs = logSteps (m0 : Int) qs := ⟨_, rfl⟩
    rw [← hus, ← hvs] at RS RI0 hval hsh0
    simp only [← hus, ← hvs] at hlf
    obtain ⟨p, hp⟩ : ∃ p, p = us.length := ⟨_, rfl⟩
    obtain ⟨q, hq⟩ : ∃ q, q = vs.length := ⟨_, rfl⟩
    rw [← hp, ← hq] at RS RI0 hsh0
    replace RI0 := Lib.hid RI0
    replace RI := Lib.hid RI
    replace RS := Lib.hid RS
    have HL := Lib.hid (And.intro hlf (And.intro hshort (And.intro hp hq)))
    have HSH := Lib.hid hsh0
    clear hv hm hrq hcap hb1 hval hun hlf hshort hus hvs hp hq hsh0
    go_wp2_with fail
    refine (RI0.out _ (Below.refl _ _)).mono ?_
    rintro e w2 ⟨A2, c2, A3, c3, rfl, hr2, hq2, _, hb2⟩
    obtain ⟨V2, hV2⟩ : ∃ V2, V2 = w2.alloc (.cells #[.slice A2 p c2, .slice A3 q c3] 26) := ⟨_, rfl⟩
    obtain ⟨X2, hX2⟩ : ∃ X2, X2 = w2.heap.size := ⟨_, rfl⟩
    have hbV2 : Below w2.heap.size w2 V2 := by rw [hV2]; exact log_box w2 _ _
    have hR2 : V2.heap[X2]? = some (.cells #[.slice A2 p c2, .slice A3 q c3] 26 (0, 0)) := by rw [hV2, hX2]; exact World.alloc_heap_new w2 _
    have H2 := Lib.hid (And.intro (hr2.to hbV2) (And.intro (hq2.to hbV2) (And.intro hR2 (Below.on hb2 hbV2))))
    have HE2 := Lib.hid (And.intro hV2 hX2)
    clear hr2 hq2 hb2 hV2 hX2 hbV2 hR2
    go_wp2_with fail
    rw [← HE2.out.1, ← HE2.out.2]
    refine (RS.out _ H2.out.2.2.2).mono ?_
    rintro e w3 ⟨A4, c4, A5, c5, rfl, _, _, _, hb3⟩
    obtain ⟨V3, hV3⟩ : ∃ V3, V3 = w3.alloc (.cells #[.slice A4 p c4, .slice A5 q c5] 26) := ⟨_, rfl⟩
    have hbV3 : Below w3.heap.size w3 V3 := by rw [hV3]; exact log_box w3 _ _
    have H3 := Lib.hid (Below.on hb3 hbV3)
    have HE3 := Lib.hid hV3
    clear hb3 hV3 hbV3
    go_wp2_with fail
    rw [← HE3.out]
    go_loopw [47] (fun i wr => ∃ k : Nat, k ≤ m + 1 ∧ i = .int .i64 (k : Int) ∧ Hid (Below V3.heap.size V3 wr)) (fun i _ => m + 1 - (intOf i).toNat)
    case atStart => exact ⟨0, by omega, rfl, Below.refl _ _⟩
    case round =>
      obtain ⟨k, hkm, rfl, HK⟩ := hrel
      by_cases hlt : k < m + 1
      · have hkk : (k : Int) < (m : Int) + 1 := by omega
        have hk0 : k ≤ m := by omega
        have HKM := Lib.hid hk0
        have SL := pairs_slice A' m c' k hk0 HCAP.out
        have hbr : Below V2.heap.size V2 wr := H3.out.trans (HK.out.mono H3.out.size)
        have RK := RI.out k HKM wr (Below.on H2.out.2.2.2 hbr)
        obtain ⟨t1, t2, t3, t4, t5⟩ := HL.out.1 k
        have t6 := HL.out.2.1 k
        rw [t1] at RK
        obtain ⟨yu, hyu⟩ : ∃ yu, yu = logUp (m0 : Int) (qs.take k) := ⟨_, rfl⟩
        obtain ⟨yv, hyv⟩ : ∃ yv, yv = logSteps (m0 : Int) (qs.take k) := ⟨_, rfl⟩
        rw [← hyu, ← hyv] at RK
        rw [← hyv] at t3 t4 t5 t6
        rw [← hyu] at t4 t6
        obtain ⟨r, hr⟩ : ∃ r, r = yu.length := ⟨_, rfl⟩
        obtain ⟨s, hs⟩ : ∃ s, s = yv.length := ⟨_, rfl⟩
        rw [← hr, ← hs] at RK t6
        rw [← hs] at t3 t4 t5
        replace RK := Lib.hid RK
        have HT := Lib.hid (And.intro t3 (And.intro t4 (And.intro t5 (And.intro hr (And.intro hs t6)))))
        have HBR := Lib.hid hbr
        have BK := fun (w4 : World) (h4 : Below V2.heap.size V2 w4) => log2_of (implBack_any A2 A3 p c2 q c3 V2.heap.size (s : Int) us vs w4 ((H2.out.1).below h4 (Nat.le_refl _)) ((H2.out.2.1).below h4 (Nat.le_refl _)) h4.size (by have := HSH.out; omega) (by have := HSH.out; omega))
        rw [t3, t4, t5, ← hr, ← hs] at BK
        replace BK := Lib.hid BK
        clear hbr t1 t2 t3 t4 t5 t6 hyu hyv hr hs hk0
        go_wp2_with fail
        refine RK.out.mono ?_
        rintro e w4 ⟨A6, c6, A7, c7, rfl, hr4, hq4, _, hb4⟩
        obtain ⟨V4, hV4⟩ : ∃ V4, V4 = w4.alloc (.cells #[.slice A6 r c6, .slice A7 s c7] 26) := ⟨_, rfl⟩
        obtain ⟨X4, hX4⟩ : ∃ X4, X4 = w4.heap.size := ⟨_, rfl⟩
        have hbV4 : Below w4.heap.size w4 V4 := by rw [hV4]; exact log_box w4 _ _
        have hR4 : V4.heap[X4]? = some (.cells #[.slice A6 r c6, .slice A7 s c7] 26 (0, 0)) := by rw [hV4, hX4]; exact World.alloc_heap_new w4 _
        have hb24 := Below.on HBR.out (Below.on hb4 hbV4)
        have hX24 := (hb24.block X2 (Array.getElem?_eq_some_iff.1 H2.out.2.2.1).1).trans H2.out.2.2.1
        obtain ⟨⟨a1, a2⟩, _⟩ := boxTwo_cells hX24
        obtain ⟨⟨b1, b2⟩, _⟩ := boxTwo_cells hR4
        have H4 := Lib.hid (And.intro (hr4.to hbV4) (And.intro (hq4.to hbV4) (And.intro hR4 hb24)))
        have HE4 := Lib.hid (And.intro hV4 hX4)
        have HK4 := Lib.hid (Below.on HK.out (Below.on hb4 hbV4))
        rw [hV4] at a1 a2 b1 b2
        rw [hX4] at b1 b2
        clear hr4 hq4 hb4 hV4 hX4 hbV4 hR4 hb24 hX24 SL
        go_wp2_with fail
        rw [← HE4.out.1, ← HE4.out.2]
        refine (BK.out _ H4.out.2.2.2).mono ?_
        rintro e w5 ⟨A8, c8, A9, c9, rfl, hr5, hq5, _, hb5⟩
        obtain ⟨V5, hV5⟩ : ∃ V5, V5 = w5.alloc (.cells #[.slice A8 r c8, .slice A9 s c9] 26) := ⟨_, rfl⟩
        obtain ⟨X5, hX5⟩ : ∃ X5, X5 = w5.heap.size := ⟨_, rfl⟩
        have hbV5 : Below w5.heap.size w5 V5 := by rw [hV5]; exact log_box w5 _ _
        have hR5 : V5.heap[X5]? = some (.cells #[.slice A8 r c8, .slice A9 s c9] 26 (0, 0)) := by rw [hV5, hX5]; exact World.alloc_heap_new w5 _
        have hb45 : Below V4.heap.size V4 V5 := Below.on hb5 hbV5
        have hX45 := (hb45.block X4 (Array.getElem?_eq_some_iff.1 H4.out.2.2.1).1).trans H4.out.2.2.1
        obtain ⟨⟨a1, a2⟩, _⟩ := boxTwo_cells hX45
        obtain ⟨⟨b1, b2⟩, _⟩ := boxTwo_cells hR5
        have LR := Lib.hid (lrLog_any A6 A7 A8 A9 r c6 s c7 c8 c9 V5.heap.size V5.heap.size V5.heap.size V5.heap.size yu yv V5 (H4.out.1.to hb45) (H4.out.2.1.to hb45) (hr5.to hbV5) (hq5.to hbV5) ⟨Nat.le_refl _, Nat.le_refl _, Nat.le_refl _, Nat.le_refl _⟩ (by have := HT.out.2.2.2.2.2; omega) (by have := HT.out.2.2.2.2.2; omega))
        have HK5 := Lib.hid (Below.on HK4.out hb45)
        have HE5 := Lib.hid (And.intro hV5 hX5)
        rw [hV5] at a1 a2 b1 b2
        rw [hX5] at b1 b2
        clear hr5 hq5 hb5 hV5 hX5 hbV5 hR5 hb45 hX45 BK RK
        go_wp2_with fail
        rw [← HE5.out.1]
        refine LR.out.mono ?_
        rintro e w6 ⟨rfl, hb6⟩
        have HI6 : Hid (Below V3.heap.size V3 w6) := Below.on HK5.out hb6
        clear hb6 LR a1 a2 b1 b2
        go_wp2_with fail
        go_roundw
        case rel => exact ⟨k + 1, by omega, by go_num, HI6⟩
        case measure => simp [intOf]; omega
      · obtain rfl : k = m + 1 := by omega
        have HJ := Lib.hid HK
        clear HK
        go_wp2
        go_ret
        exact ⟨rfl, Below.on HB1.out (Below.on H2.out.2.2.2 (Below.on H3.out HJ.out.out))⟩
end Go.Proofs.Ytdbkoicbhddpfaa
