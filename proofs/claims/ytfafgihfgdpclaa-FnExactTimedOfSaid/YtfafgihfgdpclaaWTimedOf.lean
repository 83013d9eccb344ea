/- The walk of the exact law of TimedOf: for every int and slice of pairs the law returns true and nothing that was there has turned. -/
import Derived.Test.YtfafgihfgdpclaaTimedOfIn
import Derived.Test.YtfafgihfgdpclaaSpecTimedOf
import Derived.Test.YtfafgihfgdpclaaTimedMark
import Derived.Test.YtfafgihfgdpclaaExactQ
import Derived.Test.YtfafgihfgdpclaaHelpQ
namespace Go.Proofs.Ytfafgihfgdpclaa
open Go.RowKit

theorem tmUp_len16 (n : Int) (qs : List (Int × Int)) : (logUp n qs).length ≤ 16 := by
  cases h : logB n qs with
  | false => rw [tmUp_no h]; simp
  | true => rw [tmUp_yes h, upk_len]; exact (tmOf_parts h).1.2
theorem tmAt_len16 (n : Int) (qs : List (Int × Int)) : (tmAt n qs).length ≤ 16 := by
  cases h : logB n qs with
  | false => rw [tmAt_no h]; simp
  | true => rw [tmAt_yes h, tmTo_len]; exact (tmOf_parts h).1.2
set_option maxRecDepth 100000 in
set_option maxHeartbeats 8000000 in
theorem exactTimedOf (n : Int) (A' : Option Addr) (m c' : Nat) (qs : List (Int × Int)) (w : World) (h2 : RowQ w A' m c' qs) :
    Calls Try.prog 17 #[.int .i64 n, .slice A' m c'] w fun e w' => e = .returned (.bool true) ∧ Below w.heap.size w w' := by
  have SZ := Lib.hid (szPairS_any A' m c' 1048576 w h2.small (by omega) (by omega))
  by_cases hlm : 1048576 < m
  · rw [if_pos (by omega)] at SZ
    clear h2
    go_enter Try.func17, Try.ntmps17
    go_wp2_with fail
    refine SZ.out.mono ?_
    rintro e w1 ⟨rfl, rfl⟩
    go_wp2_with fail
    go_ret
    exact ⟨rfl, Below.refl _ _⟩
  rw [if_neg (by omega)] at SZ
  have hz0 : ¬ (1048576 : Int) - (m : Int) < 0 := by omega
  have hlq := h2.rd.len
  have hq2 : qs.length ≤ 1048576 := by omega
  have TP := Lib.hid (fun (w1 : World) (hb : Below w.heap.size w w1) => toPairS_any A' m c' qs w1 (h2.rd.to hb) (by omega))
  have S := fun (A : Option Addr) (c : Nat) (w : World) (h : RdQ w w.heap.size A qs.length qs) => specTimedOf_any n A qs.length c _ qs w h (Nat.le_refl _) hq2
  have I := fun (A : Option Addr) (c : Nat) (w : World) (h : RdQ w w.heap.size A qs.length qs) => implTimedOf_any n A qs.length c _ qs w h (Nat.le_refl _) hq2
  have hxl := tmUp_len16 n qs
  have hsl := tmAt_len16 n qs
  revert S I hxl hsl
  generalize logUp n qs = xs
  generalize tmAt n qs = ss
  generalize logB n qs = ok
  intro S I hxl hsl
  have S := Lib.hid S
  have I := Lib.hid I
  clear h2 hlq hlm
  have hd : decide ((xs, ss) = (xs, ss)) = true := by simp
  have hk : (ok != ok) = false := by cases ok <;> rfl
  have dq : decide (qs = qs) = true := by simp
  go_enter Try.func17, Try.ntmps17
  go_wp2_with fail
  refine SZ.out.mono ?_
  rintro e w0 ⟨rfl, rfl⟩
  go_wp2_with fail
  refine (TP.out _ (Below.refl _ _)).mono ?_
  rintro e w1 ⟨v1, rfl, ho1, hb1⟩
  obtain ⟨A1, c1, rfl, hr1⟩ := ho1.form
  clear ho1
  go_wp2_with fail
  refine (S.out A1 c1 w1 hr1).mono ?_
  rintro e w2 ⟨v0, v20, rfl, ho0, hq0, hb2⟩
  obtain ⟨A0, c0, rfl, hr0⟩ := ho0.form
  obtain ⟨A20, c20, rfl, hrq0⟩ := hq0.form
  obtain ⟨V2, hV2⟩ : ∃ V2, V2 = w2.alloc (.cells #[.slice A0 xs.length c0, .slice A20 ss.length c20] 64) := ⟨_, rfl⟩
  have hbV2 : Below w2.heap.size w2 V2 := by rw [hV2]; exact (Below.refl _ _).alloc (Nat.le_refl _) _
  have hR2 : V2.heap[w2.heap.size]? = some (.cells #[.slice A0 xs.length c0, .slice A20 ss.length c20] 64 (0, 0)) := by rw [hV2]; exact World.alloc_heap_new w2 _
  have hs2 : V2.heap.size = w2.heap.size + 1 := by rw [hV2]; simp
  have hbw : Below w.heap.size w V2 := Below.on (Below.on hb1 hb2) hbV2
  have W1 := Lib.hid (And.intro (hr0.to hbV2) (And.intro (hrq0.to hbV2) (And.intro hR2 (And.intro hs2 hbw))))
  have HV2 := Lib.hid hV2
  clear ho0 hq0 hr0 hrq0 hbV2 hR2 hs2 hV2 hb1 hb2 hbw hr1
  go_wp2_with fail
  rw [← HV2.out]
  refine (TP.out _ W1.out.2.2.2.2).mono ?_
  rintro e w3 ⟨v3, rfl, ho3, hb3⟩
  obtain ⟨A3, c3, rfl, hr3⟩ := ho3.form
  have hx3 := ho3.blockOf
  have HO3 := Lib.hid (And.intro ho3 (And.intro hb3 hx3))
  clear ho3 hb3 hx3
  go_wp2_with fail
  refine (I.out A3 c3 w3 hr3).mono ?_
  rintro e w4 ⟨v4, v24, rfl, ho4, hq4, hne4, hb4⟩
  obtain ⟨A4, c4, rfl, _⟩ := ho4.form
  obtain ⟨A5, c5, rfl, _⟩ := hq4.form
  obtain ⟨V4, hV4⟩ : ∃ V4, V4 = w4.alloc (.cells #[.slice A4 xs.length c4, .slice A5 ss.length c5] 64) := ⟨_, rfl⟩
  have hbV4 : Below w4.heap.size w4 V4 := by rw [hV4]; exact (Below.refl _ _).alloc (Nat.le_refl _) _
  have hR4 : V4.heap[w4.heap.size]? = some (.cells #[.slice A4 xs.length c4, .slice A5 ss.length c5] 64 (0, 0)) := by rw [hV4]; exact World.alloc_heap_new w4 _
  have hs4 : V4.heap.size = w4.heap.size + 1 := by rw [hV4]; simp
  have hb34 : Below w3.heap.size w3 V4 := Below.on hb4 hbV4
  have hx4 := ho4.blockOf
  have hx5 := hq4.blockOf
  have hoV := ho4.keep hbV4 (Nat.le_refl _)
  have hqV := hq4.keep hbV4 (Nat.le_refl _)
  obtain ⟨X0, hX0⟩ : ∃ X0, X0 = w2.heap.size := ⟨_, rfl⟩
  obtain ⟨X4, hX4⟩ : ∃ X4, X4 = w4.heap.size := ⟨_, rfl⟩
  have hw4 := hb4.size
  have W2 := Lib.hid (And.intro hoV (And.intro hqV (And.intro hne4 (And.intro hx4 (And.intro hx5 (And.intro hR4 (And.intro hs4 (And.intro hb34 (And.intro hX0 (And.intro hX4 hw4))))))))))
  have HV4 := Lib.hid hV4
  -- what stays in every later world
  have KEEP : Hid (∀ wr, Chg (fun i => (Value.slice A3 qs.length c3).ownBlock = some i ∨ (Value.slice A4 xs.length c4).ownBlock = some i ∨ (Value.slice A5 ss.length c5).ownBlock = some i) V4 wr → Below w.heap.size w wr ∧ Rd wr wr.heap.size A0 xs.length xs ∧ Rd wr wr.heap.size A20 ss.length ss ∧ ((wr.cell? ⟨X0, 0, none⟩ = some (.slice A0 xs.length c0) ∧ wr.cell? ⟨X0, 1, none⟩ = some (.slice A20 ss.length c20)) ∧ wr.cell? ⟨X4, 0, none⟩ = some (.slice A4 xs.length c4) ∧ wr.cell? ⟨X4, 1, none⟩ = some (.slice A5 ss.length c5))) := fun wr hc => by
    obtain ⟨p1, p2, p3, p4, p5⟩ := W1.out
    obtain ⟨_, _, _, q4, q5, q6, q7, q8, q9, q10, q11⟩ := W2.out
    obtain ⟨_, r2, r3⟩ := HO3.out
    have hr2 := r2.size
    have hq8 := q8.size
    have h4r : Below V2.heap.size V2 wr := (r2.trans (q8.mono hr2)).trans (hc.below (by omega) (fun i hi => by
      rcases hi with h | h | h
      · have := (r3 i h).1; omega
      · have := (q4 i h).1; omega
      · have := (q5 i h).1; omega))
    refine ⟨Below.on p5 h4r, p1.to h4r, p2.to h4r, ?_, ?_⟩
    · rw [q9]
      exact (boxTwo_cells ((h4r.block _ (by omega)).trans p3)).1
    · rw [q10]
      refine (boxTwo_cells ((hc.block w4.heap.size (by omega) (fun hi => ?_)).trans q6)).1
      rcases hi with h | h | h
      · have := (r3 _ h).2; omega
      · have := (q4 _ h).2; omega
      · have := (q5 _ h).2; omega
  have KV := KEEP.out V4 (Chg.refl _ _)
  obtain ⟨_, kr, kq, ⟨k1, k2⟩, k3, k4⟩ := KV
  have EQ := Lib.hid (eqTimed_any A4 A5 A0 A20 xs.length c4 ss.length c5 xs.length c0 ss.length c20 xs xs ss ss V4 hoV.rd hqV.rd kr kq (by omega) (by omega) (by omega) (by omega))
  rw [hV4] at k1 k2 k3 k4
  rw [hX0] at k1 k2
  rw [hX4] at k3 k4
  clear ho4 hq4 hne4 hb4 hbV4 hR4 hs4 hb34 hx4 hx5 hoV hqV hX0 hX4 hw4 hV4 kr kq
  go_wp2_with fail
  rw [W2.out.2.2.2.2.2.2.2.2.1.symm, W2.out.2.2.2.2.2.2.2.2.2.1.symm, ← HV4.out]
  refine EQ.out.mono ?_
  rintro e w5 ⟨rfl, hb5⟩
  have HB5 := Lib.hid hb5
  have h5 := KEEP.out w5 (Chg.of_below hb5)
  have HW5 := Lib.hid h5.1
  clear hb5 h5 k1 k2 k3 k4 EQ
  go_wp2_with fail
  refine (TP.out _ HW5.out).mono ?_
  rintro e w6 ⟨v6, rfl, ho6, hb6⟩
  obtain ⟨A6, c6, rfl, hr6⟩ := ho6.form
  have hb46 : Below V4.heap.size V4 w6 := Below.on HB5.out hb6
  have ho36 := ((HO3.out.1.keep W2.out.2.2.2.2.2.2.2.1 (Nat.le_refl _)).keep hb46 (Nat.le_refl _))
  have HB6 := Lib.hid (And.intro hb46 ho36)
  clear ho6 hb6 hb46 ho36
  go_wp2_with fail
  refine (eqPairS_any _ _ _ _ _ _ _ _ qs qs _ HB6.out.2.rd hr6 (Nat.le_refl _) (Nat.le_refl _) hq2 hq2).mono ?_
  rintro e w7 ⟨rfl, hb7⟩
  have HB7 := Lib.hid (And.intro (Below.on HB6.out.1 hb7) (HB6.out.2.keep hb7 (Nat.le_refl _)))
  clear hb7 hr6
  go_wp2_with fail
  refine (markPairS_any _ 1 qs _ _ HB7.out.2 hq2 (by omega) (by omega)).mono ?_
  rintro e w8 ⟨rfl, _, hg8⟩
  have c8 : Chg (fun i => (Value.slice A3 qs.length c3).ownBlock = some i) w7 w8 := Chg.mark hg8
  have h8 : Chg (fun i => (Value.slice A3 qs.length c3).ownBlock = some i ∨ (Value.slice A4 xs.length c4).ownBlock = some i ∨ (Value.slice A5 ss.length c5).ownBlock = some i) V4 w8 := (Chg.of_below HB7.out.1).trans (c8.weak (fun i h => .inl h))
  obtain ⟨hw8, kr, kq, ⟨k1, k2⟩, k3, k4⟩ := KEEP.out w8 h8
  have hx3 := HO3.out.2.2
  have ho8 := (W2.out.1.keep HB7.out.1 (Nat.le_refl _)).chg c8 (fun i hi => (hx3 i hi).2)
  have hq8 := (W2.out.2.1.keep HB7.out.1 (Nat.le_refl _)).chg c8 (fun i hi => (hx3 i hi).2)
  have EQ := Lib.hid (eqTimed_any A4 A5 A0 A20 xs.length c4 ss.length c5 xs.length c0 ss.length c20 xs xs ss ss w8 ho8.rd hq8.rd kr kq (by omega) (by omega) (by omega) (by omega))
  have t1 : ¬ ((1 : Int) + 2 * (qs.length : Int) < 0) := by omega
  have H8 := Lib.hid (And.intro h8 (And.intro ho8 hq8))
  clear hg8 c8 h8 hw8 kr kq hx3 ho8 hq8
  go_wp2_with fail
  refine EQ.out.mono ?_
  rintro e w9 ⟨rfl, hb9⟩
  have h9 := H8.out.1.trans (Chg.of_below hb9)
  obtain ⟨_, _, _, _, d1, d2⟩ := KEEP.out w9 h9
  have MK := Lib.hid (markTimed_any (.slice A4 xs.length c4) (.slice A5 ss.length c5) 1 xs ss _ w9 (H8.out.2.1.keep hb9 (Nat.le_refl _)) (H8.out.2.2.keep hb9 (Nat.le_refl _)) W2.out.2.2.1 (by omega) (by omega) (by omega) (by omega))
  have H9 := Lib.hid h9
  clear hb9 h9 k1 k2 k3 k4 EQ
  go_wp2_with fail
  refine MK.out.mono ?_
  rintro e w10 ⟨rfl, ho10, hq10, hc10⟩
  have h10 := H9.out.trans (hc10.weak (S' := fun i => (Value.slice A3 qs.length c3).ownBlock = some i ∨ (Value.slice A4 xs.length c4).ownBlock = some i ∨ (Value.slice A5 ss.length c5).ownBlock = some i) (fun i h => h.elim (fun e => .inr (.inl e)) (fun e => .inr (.inr e))))
  obtain ⟨_, _, _, _, d1, d2⟩ := KEEP.out w10 h10
  have HE := Lib.hid (fun (wr : World) (h : Below w10.heap.size w10 wr) => heldTimed_any A4 A5 xs.length c4 ss.length c5 1 wr (ho10.rd.to h) (hq10.rd.to h) (by omega) (by omega) (by omega) (by omega))
  have t2 : ¬ (1 : Int) + (xs.length : Int) + (ss.length : Int) < 0 := by omega
  have t3 : ((1 : Int) + (xs.length : Int) + (ss.length : Int) != 1 + (xs.length : Int) + (ss.length : Int)) = false := by simp
  have H10 := Lib.hid h10
  clear ho10 hq10 hc10 h10 MK
  go_wp2_with fail
  refine (HE.out _ (Below.refl _ _)).mono ?_
  rintro e w11 ⟨rfl, hb11⟩
  have h11 := H10.out.trans (Chg.of_below hb11)
  have H11 := Lib.hid (And.intro h11 (And.intro hb11 (KEEP.out w11 h11).1))
  clear h11 hb11 d1 d2
  go_wp2_with fail
  refine (TP.out _ H11.out.2.2).mono ?_
  rintro e w12 ⟨v12, rfl, ho12, hb12⟩
  obtain ⟨A12, c12, rfl, hr12⟩ := ho12.form
  have HB12 := Lib.hid hb12
  clear ho12 hb12
  go_wp2_with fail
  refine (I.out A12 c12 w12 hr12).mono ?_
  rintro e w13 ⟨v13, v23, rfl, ho13, hq13, _, hb13⟩
  obtain ⟨A13, c13, rfl, hr13⟩ := ho13.form
  obtain ⟨A23, c23, rfl, hrq13⟩ := hq13.form
  obtain ⟨V13, hV13⟩ : ∃ V13, V13 = w13.alloc (.cells #[.slice A13 xs.length c13, .slice A23 ss.length c23] 64) := ⟨_, rfl⟩
  have hbV13 : Below w13.heap.size w13 V13 := by rw [hV13]; exact (Below.refl _ _).alloc (Nat.le_refl _) _
  have hbb : Below w11.heap.size w11 V13 := Below.on (Below.on HB12.out hb13) hbV13
  have h13 := H11.out.1.trans (Chg.of_below hbb)
  obtain ⟨_, kr, kq, ⟨g1, g2⟩, _⟩ := KEEP.out V13 h13
  rw [hV13] at g1 g2
  have EQ := Lib.hid (eqTimed_any A13 A23 A0 A20 xs.length c13 ss.length c23 xs.length c0 ss.length c20 xs xs ss ss V13 (hr13.to hbV13) (hrq13.to hbV13) kr kq (by omega) (by omega) (by omega) (by omega))
  have H13 := Lib.hid (And.intro h13 (Below.on H11.out.2.1 hbb))
  have HV13 := Lib.hid hV13
  clear ho13 hq13 hb13 hr13 hrq13 hbV13 hbb h13 kr kq hV13 hr12
  go_wp2_with fail
  rw [← HV13.out]
  refine EQ.out.mono ?_
  rintro e w14 ⟨rfl, hb14⟩
  have h14 := H13.out.1.trans (Chg.of_below hb14)
  obtain ⟨_, _, _, _, d1, d2⟩ := KEEP.out w14 h14
  have H14 := Lib.hid (And.intro h14 (Below.on H13.out.2 hb14))
  clear hb14 h14 EQ g1 g2
  go_wp2_with fail
  refine (HE.out _ H14.out.2).mono ?_
  rintro e w15 ⟨rfl, hb15⟩
  have h15 := (KEEP.out w15 (H14.out.1.trans (Chg.of_below hb15))).1
  clear hb15 d1 d2
  go_wp2_with fail
  go_ret
  exact ⟨rfl, h15⟩
end Go.Proofs.Ytfafgihfgdpclaa
