/- The walk of FnLogOf: for every drawn number of items, pairs, and another number the law returns true. -/
import Derived.Test.YtfafgihfgdpclaaLogOfLaw
import Derived.Deep.RegionHeld3
namespace Go.Proofs.Ytfafgihfgdpclaa
open Go.RowKit Go.Shelf

set_option maxRecDepth 100000 in
set_option maxHeartbeats 8000000 in
theorem fnLogOf (A0 : Option Addr) (n0 c0 : Nat) (z0 : List Int) (A1 : Option Addr) (n1 c1 : Nat) (z1 : List Int) (w : World) (h0 : Row .u8 w A0 n0 c0 z0) (h1 : Row .u8 w A1 n1 c1 z1) :
    Calls Try.prog 7 #[.slice A0 n0 c0, .slice A1 n1 c1] w fun e w' => e = .returned (.bool true) ∧ Below w.heap.size w w' := by
  by_cases hl0 : 1048576 < n0
  · clear h0 h1
    go_enter Try.func7, Try.ntmps7
    go_wp2
    go_ret
    exact ⟨rfl, Below.refl _ _⟩
  by_cases hl1 : 1048576 < n1
  · clear h0 h1
    go_enter Try.func7, Try.ntmps7
    go_wp2
    go_ret
    exact ⟨rfl, Below.refl _ _⟩
  obtain ⟨b0, hc0⟩ := h0.bt
  obtain ⟨b1, hc1⟩ := h1.bt
  have D0 := Lib.hid (drawLogOf2_any A0 n0 c0 w.heap.size z0 w b0 (Nat.le_refl _) hc0)
  have D1 := Lib.hid (fun (w1 : World) (hb : Below w.heap.size w w1) => drawNewLog_any A1 n1 c1 w.heap.size z1 w1 (b1.below hb (Nat.le_refl _)) hb.size hc1)
  clear h0 h1 b0 b1 hc0 hc1
  go_enter Try.func7, Try.ntmps7
  go_wp2_with fail
  refine D0.out.mono ?_
  rintro e w1 ⟨m0, v, qs, rfl, hm0, hq, hlq, hb1⟩
  obtain ⟨A', c', rfl, hrq⟩ := hq.form
  obtain ⟨m, hm⟩ : ∃ m, m = qs.length := ⟨_, rfl⟩
  rw [← hm] at hrq hlq ⊢
  clear hq D0
  have RI := Lib.hid (log2_of (implLogOf_any (m0 : Int) A' m c' w1.heap.size qs w1 hrq (Nat.le_refl _) (by omega)))
  have RS := Lib.hid (fun (w2 : World) (hb2 : Below w1.heap.size w1 w2) => log2_of' (specLogOf_any (m0 : Int) A' m c' w1.heap.size qs w2 (hrq.below hb2 (Nat.le_refl _)) hb2.size (by omega)))
  have HB1 := Lib.hid (And.intro hb1 (And.intro hrq (And.intro hm hlq)))
  have hsh := lg_short (n := (m0 : Int)) (qs := qs)
  obtain ⟨p, hp⟩ : ∃ p, p = (logUp (m0 : Int) qs).length := ⟨_, rfl⟩
  obtain ⟨q, hq⟩ : ∃ q, q = (logSteps (m0 : Int) qs).length := ⟨_, rfl⟩
  rw [← hp, ← hq] at RI RS hsh
  have HPQ := Lib.hid (And.intro hp (And.intro hq hsh))
  clear hb1 hrq hm hlq hm0 hp hq hsh
  go_wp2_with fail
  refine RI.out.mono ?_
  rintro e w2 ⟨A2, c2, A3, c3, rfl, hr2, hq2, _, hb2⟩
  obtain ⟨V2, hV2⟩ : ∃ V2, V2 = w2.alloc (.cells #[.slice A2 p c2, .slice A3 q c3] 49) := ⟨_, rfl⟩
  obtain ⟨X2, hX2⟩ : ∃ X2, X2 = w2.heap.size := ⟨_, rfl⟩
  have hbV2 : Below w2.heap.size w2 V2 := by rw [hV2]; exact log_box w2 _ _
  have hR2 : V2.heap[X2]? = some (.cells #[.slice A2 p c2, .slice A3 q c3] 49 (0, 0)) := by rw [hV2, hX2]; exact World.alloc_heap_new w2 _
  have H2 := Lib.hid (And.intro (hr2.to hbV2) (And.intro (hq2.to hbV2) (And.intro hR2 (Below.on hb2 hbV2))))
  have HE2 := Lib.hid (And.intro hV2 hX2)
  clear hr2 hq2 hb2 hV2 hX2 hbV2 hR2 RI
  go_wp2_with fail
  rw [← HE2.out.1, ← HE2.out.2]
  refine (RS.out _ H2.out.2.2.2).mono ?_
  rintro e w3 ⟨A4, c4, A5, c5, rfl, hr3, hq3, _, hb3⟩
  obtain ⟨V3, hV3⟩ : ∃ V3, V3 = w3.alloc (.cells #[.slice A4 p c4, .slice A5 q c5] 49) := ⟨_, rfl⟩
  obtain ⟨X3, hX3⟩ : ∃ X3, X3 = w3.heap.size := ⟨_, rfl⟩
  have hbV3 : Below w3.heap.size w3 V3 := by rw [hV3]; exact log_box w3 _ _
  have hR3 : V3.heap[X3]? = some (.cells #[.slice A4 p c4, .slice A5 q c5] 49 (0, 0)) := by rw [hV3, hX3]; exact World.alloc_heap_new w3 _
  have H3 := Lib.hid (And.intro (hr3.to hbV3) (And.intro (hq3.to hbV3) (And.intro hR3 (Below.on hb3 hbV3))))
  have HE3 := Lib.hid (And.intro hV3 hX3)
  have D1 := Lib.hid (D1.out V3 (Below.on HB1.out.1 (Below.on H2.out.2.2.2 (Below.on hb3 hbV3))))
  clear hr3 hq3 hb3 hV3 hX3 hbV3 hR3 RS
  go_wp2_with fail
  rw [← HE3.out.1, ← HE3.out.2]
  refine D1.out.mono ?_
  rintro e w4 ⟨y, rfl, hb4⟩
  have NI := Lib.hid (implNewLog_any y w4)
  have HB4 := Lib.hid hb4
  clear hb4 D1
  go_wp2_with fail
  refine NI.out.mono ?_
  rintro e w5 ⟨v5, rfl, ho5, hb5⟩
  obtain ⟨A6, c6, rfl, hr5⟩ := ho5.form
  obtain ⟨r, hr⟩ : ∃ r, r = (roots (newN y)).length := ⟨_, rfl⟩
  have hr16 : r ≤ 16 := by
    rw [hr, roots_len]
    unfold newN
    split <;> omega
  rw [← hr] at hr5 ⊢
  obtain ⟨V5, hV5⟩ : ∃ V5, V5 = w5.alloc (.cells #[.slice A6 r c6, .slice none 0 0] 49) := ⟨_, rfl⟩
  obtain ⟨X5, hX5⟩ : ∃ X5, X5 = w5.heap.size := ⟨_, rfl⟩
  have hbV5 : Below w5.heap.size w5 V5 := by rw [hV5]; exact log_box w5 _ _
  have hR5 : V5.heap[X5]? = some (.cells #[.slice A6 r c6, .slice none 0 0] 49 (0, 0)) := by rw [hV5, hX5]; exact World.alloc_heap_new w5 _
  have H5 := Lib.hid (And.intro (hr5.to hbV5) (And.intro hR5 (And.intro (Below.on HB4.out (Below.on hb5 hbV5)) hr)))
  have HE5 := Lib.hid (And.intro hV5 hX5)
  have NS := Lib.hid (specNewLog_any y V5)
  clear ho5 hr5 hb5 hV5 hX5 hbV5 hR5 NI HB4 hr
  go_wp2_with fail
  rw [← HE5.out.1, ← HE5.out.2]
  refine NS.out.mono ?_
  rintro e w6 ⟨v6, v7, rfl, ho6, hq6, _, hb6⟩
  obtain ⟨A8, c8, rfl, hr6⟩ := ho6.form
  obtain ⟨A9, c9, e9, hq6'⟩ := hq6.form
  have e9 : v7 = .slice A9 0 c9 := e9
  subst e9
  rw [← H5.out.2.2.2] at hr6 ⊢
  obtain ⟨V, hV⟩ : ∃ V, V = w6.alloc (.cells #[.slice A8 r c8, .slice A9 0 c9] 49) := ⟨_, rfl⟩
  obtain ⟨X6, hX6⟩ : ∃ X6, X6 = w6.heap.size := ⟨_, rfl⟩
  have hbV6 : Below w6.heap.size w6 V := by rw [hV]; exact log_box w6 _ _
  have hR6 : V.heap[X6]? = some (.cells #[.slice A8 r c8, .slice A9 0 c9] 49 (0, 0)) := by rw [hV, hX6]; exact World.alloc_heap_new w6 _
  have hb5V : Below V5.heap.size V5 V := Below.on hb6 hbV6
  have hb3V : Below V3.heap.size V3 V := Below.on H5.out.2.2.1 hb5V
  have hb2V : Below V2.heap.size V2 V := Below.on H3.out.2.2.2 hb3V
  have hX5V := (hb5V.block X5 (Array.getElem?_eq_some_iff.1 H5.out.2.1).1).trans H5.out.2.1
  have hX3V := (hb3V.block X3 (Array.getElem?_eq_some_iff.1 H3.out.2.2.1).1).trans H3.out.2.2.1
  have hX2V := (hb2V.block X2 (Array.getElem?_eq_some_iff.1 H2.out.2.2.1).1).trans H2.out.2.2.1
  have r2 := H2.out.1.to hb2V
  have q2 := H2.out.2.1.to hb2V
  have r3 := H3.out.1.to hb3V
  have q3 := H3.out.2.1.to hb3V
  have r5 := H5.out.1.to hb5V
  have r6 := hr6.to hbV6
  have q6 := RdQ.nil V V.heap.size A9
  have q5 := RdQ.nil V V.heap.size none
  have LR := Lib.hid (fun (W' : World) (h8 : Below V.heap.size V W') => lrLog_any A2 A3 A4 A5 p c2 q c3 c4 c5 V.heap.size V.heap.size V.heap.size V.heap.size (logUp (m0 : Int) qs) (logSteps (m0 : Int) qs) W' (r2.below h8 (Nat.le_refl _)) (q2.below h8 (Nat.le_refl _)) (r3.below h8 (Nat.le_refl _)) (q3.below h8 (Nat.le_refl _)) ⟨h8.size, h8.size, h8.size, h8.size⟩ (by have := HPQ.out; omega) (by have := HPQ.out; omega))
  have LX := Lib.hid (fun (W' : World) (h8 : Below V.heap.size V W') => lrLog_any A6 none A8 A9 r c6 0 0 c8 c9 V.heap.size V.heap.size V.heap.size V.heap.size (roots (newN y)) [] W' (r5.below h8 (Nat.le_refl _)) (q5.below h8 (Nat.le_refl _)) (r6.below h8 (Nat.le_refl _)) (q6.below h8 (Nat.le_refl _)) ⟨h8.size, h8.size, h8.size, h8.size⟩ (by omega) (by omega))
  have HV := Lib.hid (And.intro hb2V (And.intro hX2V (And.intro r2 q2)))
  have HE6 := Lib.hid (And.intro hV hX6)
  have HC : Hid (∀ W', Below V.heap.size V W' → (W'.cell? ⟨X2, 0, none⟩ = some (.slice A2 p c2) ∧ W'.cell? ⟨X2, 1, none⟩ = some (.slice A3 q c3)) ∧ (W'.cell? ⟨X3, 0, none⟩ = some (.slice A4 p c4) ∧ W'.cell? ⟨X3, 1, none⟩ = some (.slice A5 q c5)) ∧ (W'.cell? ⟨X5, 0, none⟩ = some (.slice A6 r c6) ∧ W'.cell? ⟨X5, 1, none⟩ = some (.slice none 0 0)) ∧ W'.cell? ⟨X6, 0, none⟩ = some (.slice A8 r c8) ∧ W'.cell? ⟨X6, 1, none⟩ = some (.slice A9 0 c9)) := fun W' hb =>
    ⟨(boxTwo_cells ((hb.block X2 (Array.getElem?_eq_some_iff.1 hX2V).1).trans hX2V)).1, (boxTwo_cells ((hb.block X3 (Array.getElem?_eq_some_iff.1 hX3V).1).trans hX3V)).1, (boxTwo_cells ((hb.block X5 (Array.getElem?_eq_some_iff.1 hX5V).1).trans hX5V)).1, (boxTwo_cells ((hb.block X6 (Array.getElem?_eq_some_iff.1 hR6).1).trans hR6)).1⟩
  obtain ⟨⟨a1, a2⟩, _⟩ := boxTwo_cells hX2V
  obtain ⟨⟨a3, a4⟩, _⟩ := boxTwo_cells hX3V
  obtain ⟨⟨a5, a6⟩, _⟩ := boxTwo_cells hX5V
  obtain ⟨⟨a7, a8⟩, _⟩ := boxTwo_cells hR6
  rw [hV] at a1 a2 a3 a4 a5 a6 a7 a8
  rw [hX6] at a7 a8
  generalize newOk y = gg
  have t2 : (gg != gg) = false := by simp
  have t3 : (gg == gg) = true := by simp
  clear ho6 hq6 hr6 hq6' hb6 hV hX6 hbV6 hR6 hb5V hb3V hb2V hX5V hX3V hX2V r2 q2 r3 q3 r5 r6 q5 q6 NS
  cases hk : logB (m0 : Int) qs with
  | false =>
    have hp0 : p = 0 := by rw [HPQ.out.1, (lg_no hk).1]; rfl
    subst hp0
    clear hk
    go_wp2_with fail
    rw [← HE6.out.1, ← HE6.out.2]
    refine (LR.out V (Below.refl _ _)).mono ?_
    rintro e w7 ⟨rfl, hb⟩
    have H7 := Lib.hid hb
    clear hb a1 a2 a3 a4 a5 a6 a7 a8
    obtain ⟨⟨a1, a2⟩, ⟨a3, a4⟩, ⟨a5, a6⟩, a7, a8⟩ := HC.out _ H7.out
    go_wp2_with fail
    refine (LX.out w7 H7.out).mono ?_
    rintro e w8 ⟨rfl, hb⟩
    have H8 := Lib.hid (Below.on H7.out hb)
    clear hb a1 a2 a3 a4 a5 a6 a7 a8
    obtain ⟨⟨a1, a2⟩, ⟨a3, a4⟩, ⟨a5, a6⟩, a7, a8⟩ := HC.out _ H8.out
    go_wp2_with fail
    refine (LR.out w8 H8.out).mono ?_
    rintro e w9 ⟨rfl, hb⟩
    have H9 := Lib.hid (Below.on H8.out hb)
    clear hb a1 a2 a3 a4 a5 a6 a7 a8
    obtain ⟨⟨a1, a2⟩, ⟨a3, a4⟩, ⟨a5, a6⟩, a7, a8⟩ := HC.out _ H9.out
    go_wp2_with fail
    refine (LX.out w9 H9.out).mono ?_
    rintro e w10 ⟨rfl, hb⟩
    have H10 := Lib.hid (Below.on H9.out hb)
    clear hb a1 a2 a3 a4 a5 a6 a7 a8
    obtain ⟨⟨a1, a2⟩, ⟨a3, a4⟩, ⟨a5, a6⟩, a7, a8⟩ := HC.out _ H10.out
    go_wp2_with fail
    go_ret
    exact ⟨rfl, Below.on HB1.out.1 (Below.on H2.out.2.2.2 (Below.on HV.out.1 H10.out))⟩
  | true =>
    obtain ⟨hval, hun⟩ := lg_valid hk
    obtain ⟨hn, hok⟩ := usB_parts hk
    rw [Int.toNat_natCast] at hun
    have hm := HB1.out.2.2.1
    have hin := okQ_in hok
    have hnN : newN (m0 : Int) = m0 := by unfold newN; rw [if_pos (by omega)]; simp
    have hja : jaB (roots m0) 1 qs = true := by
      unfold jaB
      rw [roots_fv (by omega) (by omega), roots_len, hok]
      rfl
    have hjn : jaN (roots m0) 1 qs = logUp (m0 : Int) qs := by rw [jaN_yes hja, (lg_yes hk).1, Int.toNat_natCast]
    have hus : usN (m0 : Int) qs = useTo (roots m0) 1 (natP qs) m := by rw [usN_yes (show usB (m0 : Int) qs = true from hk), Int.toNat_natCast, hm]
    have hll : (logSteps (m0 : Int) qs).length = (useTo (roots m0) 1 (natP qs) m).length := by
      have := steps_len (p := m0) (natP qs) m (by rw [natP_len]; omega)
      rw [List.take_of_length_le (by rw [natP_len]; omega)] at this
      rw [(lg_yes hk).2, Int.toNat_natCast, this]
    have hjat := fun (i : Nat) (hi : i < (useTo (roots m0) 1 (natP qs) m).length) => (show ∃ k, k < m ∧ (useTo (roots m0) 1 (natP qs) m)[i]?.getD 0 = (k : Int) ∧ jatN (logUp (m0 : Int) qs) (logSteps (m0 : Int) qs) (qs[k]?.getD (0, 0)).1 (qs[k]?.getD (0, 0)).2 = ((i + 1 : Nat) : Int) by
      obtain ⟨k, h1, h2, h3, h4⟩ := use_nth m i hi
      exact ⟨k, h1, h3, by rw [jat_useful hk (by omega) h2, h4]⟩)
    obtain ⟨xs, hxs⟩ : ∃ xs, xs = logUp (m0 : Int) qs := ⟨_, rfl⟩
    obtain ⟨ss, hss⟩ : ∃ ss, ss = logSteps (m0 : Int) qs := ⟨_, rfl⟩
    obtain ⟨us, hus2⟩ : ∃ us, us = useTo (roots m0) 1 (natP qs) m := ⟨_, rfl⟩
    rw [← hus2] at hus hll
    rw [← hss] at hll hval
    rw [← hxs] at hjn hval hun
    simp only [← hus2, ← hxs, ← hss] at hjat
    have hp2 : p = xs.length := by rw [hxs]; exact HPQ.out.1
    have hq2 : q = ss.length := by rw [hss]; exact HPQ.out.2.1
    obtain ⟨L, hL⟩ : ∃ L, L = us.length := ⟨_, rfl⟩
    have hLq : q = L := by omega
    have r2 : Rd V V.heap.size A2 p xs := by rw [hxs]; exact HV.out.2.2.1
    have q2 : RdQ V V.heap.size A3 q ss := by rw [hss]; exact HV.out.2.2.2
    have rq : RdQ V V.heap.size A' m qs := HB1.out.2.1.to (Below.on H2.out.2.2.2 HV.out.1)
    have IU := Lib.hid (fun (W' : World) (h8 : Below V.heap.size V W') => by
      have := rd2_of (implUseful_any (m0 : Int) A' m c' V.heap.size qs W' (rq.below h8 (Nat.le_refl _)) h8.size (by have := HB1.out; omega))
      rw [hus, ← hL] at this
      exact this)
    have IN := Lib.hid (fun (W' : World) => by
      have := rd2_of (implNew_any (m0 : Int) W')
      rw [hnN, roots_len] at this
      exact this)
    have IA := Lib.hid (fun (W' : World) (h8 : Below V.heap.size V W') (A : Option Addr) (c : Nat) (hr : Rd W' W'.heap.size A m0 (roots m0)) => by
      have := rd2_of (implJoinAll_any A m0 c _ (roots m0) 1 A' m c' V.heap.size qs W' hr (Nat.le_refl _) (by omega) (rq.below h8 (Nat.le_refl _)) h8.size (by have := HB1.out; omega))
      rw [hja, hjn, ← hp2] at this
      exact this)
    have IV := Lib.hid (fun (W' : World) (h8 : Below V.heap.size V W') => by
      have := implLogV_any A2 A3 p c2 q c3 V.heap.size xs ss W' (r2.below h8 (Nat.le_refl _)) (q2.below h8 (Nat.le_refl _)) h8.size (by have := HPQ.out; omega) (by have := HPQ.out; omega)
      rw [hval] at this
      exact this)
    have IJ := Lib.hid (fun (W' : World) (h8 : Below V.heap.size V W') (a b : Int) => implJat_any A2 A3 p c2 q c3 V.heap.size a b xs ss W' (r2.below h8 (Nat.le_refl _)) (q2.below h8 (Nat.le_refl _)) h8.size (by have := HPQ.out; omega) (by have := HPQ.out; omega))
    have LE := Lib.hid (fun (W' : World) (h8 : Below V.heap.size V W') (A7 : Option Addr) (c7 : Nat) (h7 : Rd W' W'.heap.size A7 p xs) => (lrSame_any A7 A2 p c7 c2 _ _ xs W' h7 (r2.below h8 (Nat.le_refl _)) (by have := HPQ.out; omega)).mono (fun e w' (h : e = .returned (.bool true) ∧ ∃ n, w' = W'.drewN n) => (show e = .returned (.bool true) ∧ Below W'.heap.size W' w' from ⟨h.1, by obtain ⟨_, q, rfl⟩ := h; exact below_drewN (Below.refl _ _) q⟩)))
    have HJ := Lib.hid (And.intro hjat (And.intro hL rq))
    have hm25 : m ≤ 25 := HB1.out.2.2.2
    have hL24 : L ≤ 25 := by have := useTo_len (roots m0) 1 (natP qs) m; rw [← hus2] at this; omega
    clear hk hval hun hn hok hm hin hnN hja hjn hus hll hjat hxs hss hus2 hp2 hq2 hL r2 q2 rq
    subst hLq
    go_wp2_with fail
    rw [← HE6.out.1, ← HE6.out.2]
    refine (LR.out V (Below.refl _ _)).mono ?_
    rintro e w7 ⟨rfl, hb⟩
    have H7 := Lib.hid hb
    clear hb a1 a2 a3 a4 a5 a6 a7 a8
    obtain ⟨⟨a1, a2⟩, ⟨a3, a4⟩, ⟨a5, a6⟩, a7, a8⟩ := HC.out _ H7.out
    go_wp2_with fail
    refine (LX.out w7 H7.out).mono ?_
    rintro e w8 ⟨rfl, hb⟩
    have H8 := Lib.hid (Below.on H7.out hb)
    clear hb a1 a2 a3 a4 a5 a6 a7 a8
    obtain ⟨⟨a1, a2⟩, ⟨a3, a4⟩, ⟨a5, a6⟩, a7, a8⟩ := HC.out _ H8.out
    go_wp2_with fail
    refine (IU.out w8 H8.out).mono ?_
    rintro e w9 ⟨A10, c10, rfl, hr9, hb⟩
    have H9 := Lib.hid (And.intro (Below.on H8.out hb) hr9)
    clear hb hr9
    go_wp2_with fail
    refine (IN.out w9).mono ?_
    rintro e w10 ⟨A11, c11, rfl, hr10, hb⟩
    have H10 := Lib.hid (And.intro (Below.on H9.out.1 hb) (And.intro hr10 (H9.out.2.to hb)))
    clear hb hr10
    go_wp2_with fail
    refine (IA.out w10 H10.out.1 A11 c11 H10.out.2.1).mono ?_
    rintro e w11 ⟨A12, c12, rfl, hr11, hb⟩
    have H11 := Lib.hid (And.intro (Below.on H10.out.1 hb) (And.intro hr11 (H10.out.2.2.to hb)))
    clear hb hr11 a1 a2 a3 a4 a5 a6 a7 a8 LR LX IU IN IA
    have HI0 : Hid (Below w11.heap.size w11 w11) := Below.refl _ _
    go_wp2_with fail
    go_loopw [128] (fun i wr => ∃ j : Nat, j ≤ q ∧ i = .int .i64 j ∧ Hid (Below w11.heap.size w11 wr)) (fun i _ => q - (intOf i).toNat)
    case atStart => exact ⟨0, Nat.zero_le _, rfl, HI0⟩
    case round =>
      obtain ⟨j, hj, rfl, HR⟩ := hrel
      clear HI0
      have hbVr : Below V.heap.size V wr := Below.on H11.out.1 HR.out
      obtain ⟨⟨a1, a2⟩, _⟩ := HC.out wr hbVr
      by_cases hlt : j < q
      · obtain ⟨k, hkm, e1, e2⟩ := HJ.out.1 j (by have := HJ.out.2.1; omega)
        have hjj : (j : Int) < (q : Int) := by omega
        have hkk : (k : Int) < (m : Int) := by omega
        obtain ⟨b10, o10, rfl, _, q10⟩ := ((H11.out.2.2).to HR.out).2 (by omega)
        have s10 := q10 j hlt
        rw [e1] at s10
        obtain ⟨bq, oq, rfl, _, hcq⟩ := (HJ.out.2.2.below hbVr (Nat.le_refl _)).2 (by omega)
        obtain ⟨g1, g2⟩ := hcq k hkm
        obtain ⟨x, hx⟩ : ∃ x, x = (qs[k]?.getD (0, 0)).1 := ⟨_, rfl⟩
        obtain ⟨z, hz⟩ : ∃ z, z = (qs[k]?.getD (0, 0)).2 := ⟨_, rfl⟩
        rw [← hx] at g1 e2
        rw [← hz] at g2 e2
        rw [show ((j + 1 : Nat) : Int) = (j : Int) + 1 by omega] at e2
        have HVR := Lib.hid hbVr
        have JK := Lib.hid (fun (W' : World) (h8 : Below wr.heap.size wr W') => by
          have := IJ.out W' (Below.on HVR.out h8) x z
          rw [e2] at this
          exact this)
        have hwr : IntKind.i64.wrap ((j : Int) + 1) = (j : Int) + 1 := IntWalk.i64_in _ (by omega)
        have t1 : (((j : Int) + 1) != ((j : Int) + 1)) = false := by simp
        have hbb : Below wr.heap.size wr wr := Below.refl _ _
        clear e1 e2 hcq q10 hx hz hbVr
        go_wp2_with fail
        go_region_held3 (fun w' => Below wr.heap.size wr w' ∧ w'.cell? ⟨X2, 0, none⟩ = some (.slice A2 p c2) ∧ w'.cell? ⟨X2, 1, none⟩ = some (.slice A3 q c3) ∧ w'.cell? ⟨bq, oq + k * 2, none⟩ = some (.int .i64 x) ∧ w'.cell? ⟨bq, oq + k * 2 + 1, none⟩ = some (.int .i64 z))
          (first | exact held4_drew ⟨by assumption, by assumption, by assumption, by assumption, by assumption⟩ | exact held4_drew (by assumption) | exact held4_call (by assumption) (by assumption) (Below.size (And.left (by assumption))))
          (first | (go_at_call 46; refine (JK.out _ (‹Below wr.heap.size wr _ ∧ _›).1).mono ?_; rintro e w13 ⟨rfl, hb13⟩))
        have HI2 := Lib.hid (Below.on HR.out (‹Below wr.heap.size wr w13 ∧ _›).1)
        go_wp2_with fail
        go_roundw
        case rel => exact ⟨j + 1, by omega, by go_num, HI2⟩
        case measure => simp [intOf]; omega
      · obtain rfl : j = q := by omega
        have H12 := Lib.hid (And.intro hbVr ((H11.out.2.1).to HR.out))
        clear hbVr
        go_wp2_with fail
        refine (IV.out wr H12.out.1).mono ?_
        rintro e w12 ⟨rfl, hb⟩
        have H13 := Lib.hid (And.intro (Below.on H12.out.1 hb) (H12.out.2.to hb))
        clear hb a1 a2
        obtain ⟨⟨a1, a2⟩, _⟩ := HC.out _ H13.out.1
        go_wp2_with fail
        refine (LE.out w12 H13.out.1 A12 c12 H13.out.2).mono ?_
        rintro e w13 ⟨rfl, hb⟩
        have HW := Lib.hid (Below.on HB1.out.1 (Below.on H2.out.2.2.2 (Below.on HV.out.1 (Below.on H13.out.1 hb))))
        clear hb
        go_wp2_with fail
        go_ret
        exact ⟨by simp, HW.out⟩
end Go.Proofs.Ytfafgihfgdpclaa
