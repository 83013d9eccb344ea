/- The walk of the exact law of ForestAt: for all timed forests and ints the law returns true and nothing that was there has turned. -/
import Derived.Test.YtfafgihfgdpclaaWTimedValid
import Derived.Test.YtfafgihfgdpclaaForestAt
import Derived.Test.YtfafgihfgdpclaaTimedMark
namespace Go.Proofs.Ytfafgihfgdpclaa
open Go.RowKit Go.Shelf

set_option maxRecDepth 100000 in
set_option maxHeartbeats 8000000 in
theorem exactForestAt (A1 : Option Addr) (n1 c1 : Nat) (z1 : List Int) (A2 : Option Addr) (n2 c2 : Nat) (z2 : List Int) (m : Int) (w : World) (h1 : Row .i64 w A1 n1 c1 z1) (h2 : Row .i64 w A2 n2 c2 z2) :
    Calls Try.prog 22 #[.agg #[.slice A1 n1 c1, .slice A2 n2 c2], .int .i64 m] w fun e w' => e = .returned (.bool true) ∧ Below w.heap.size w w' := by
  obtain ⟨W, hW⟩ : ∃ W, W = w.alloc (.cells #[.slice A1 n1 c1, .slice A2 n2 c2] 91) := ⟨_, rfl⟩
  have hbW : Below w.heap.size w W := by rw [hW]; exact (Below.refl _ _).alloc (Nat.le_refl _) _
  have hsW : w.heap.size < W.heap.size := by rw [hW]; simp
  have hA : W.heap[w.heap.size]? = some (.cells #[.slice A1 n1 c1, .slice A2 n2 c2] 91 (0, 0)) := by rw [hW]; exact World.alloc_heap_new w _
  have SZ := szTimed_any A1 A2 n1 c1 n2 c2 W (row_smallT h1) (row_smallT h2)
  obtain ⟨P, hP⟩ : ∃ P, P = w.heap.size := ⟨_, rfl⟩
  rw [← hP] at hA hsW
  have HW := Lib.hid (And.intro hbW (And.intro hsW hA))
  have HE := Lib.hid hW
  have HP := Lib.hid hP
  by_cases hl : 1048576 < n1 + n2
  · rw [if_pos hl] at SZ
    have SZ := Lib.hid SZ
    clear h1 h2 hW hbW hsW hA hP hl
    go_enter Try.func22, Try.ntmps22
    go_wp2_with fail
    rw [← HE.out, ← HP.out]
    refine SZ.out.mono ?_
    rintro e w1 ⟨rfl, hb1⟩
    have HB := Lib.hid (Below.on HW.out.1 hb1)
    clear hb1
    go_wp2_with fail
    go_ret
    exact ⟨rfl, HB.out⟩
  rw [if_neg hl] at SZ
  have t0 : ¬ (1048576 - (n1 : Int) - (n2 : Int) < 0) := by omega
  have hr1 := h1.rd
  have hr2 := h2.rd
  obtain ⟨xs, hxs⟩ : ∃ xs, xs = z1.take n1 := ⟨_, rfl⟩
  obtain ⟨ys, hys⟩ : ∃ ys, ys = z2.take n2 := ⟨_, rfl⟩
  rw [← hxs] at hr1
  rw [← hys] at hr2
  have hlx := hr1.1
  have hly := hr2.1
  have hx2 : xs.length ≤ 1048576 := by omega
  have hy2 : ys.length ≤ 1048576 := by omega
  have TO := Lib.hid (fun (w1 : World) (hb : Below w.heap.size w w1) => toTimed_any A1 A2 n1 c1 n2 c2 xs ys w1 ((hr1.below hb (Nat.le_refl _)).more hb.size) ((hr2.below hb (Nat.le_refl _)).more hb.size) (by omega) (by omega))
  have SP := Lib.hid (fun (A : Option Addr) (c : Nat) (A' : Option Addr) (c' : Nat) (w : World) (h : Rd w w.heap.size A xs.length xs) (h' : Rd w w.heap.size A' ys.length ys) => specForestAt_any A A' xs.length c ys.length c' _ m xs ys w h h' (Nat.le_refl _) hx2 hy2)
  have IM := Lib.hid (fun (A : Option Addr) (c : Nat) (A' : Option Addr) (c' : Nat) (w : World) (h : Rd w w.heap.size A xs.length xs) (h' : Rd w w.heap.size A' ys.length ys) => implForestAt_any A A' xs.length c ys.length c' _ m xs ys w h h' (Nat.le_refl _) hx2 hy2)
  have EQ : Hid (∀ (A A' B B' : Option Addr) (c c' d d' : Nat) (w : World), Rd w w.heap.size A xs.length xs → Rd w w.heap.size A' ys.length ys → Rd w w.heap.size B xs.length xs → Rd w w.heap.size B' ys.length ys → Calls Try.prog 85 #[.agg #[.slice A xs.length c, .slice A' ys.length c'], .agg #[.slice B xs.length d, .slice B' ys.length d']] w fun e w' => e = .returned (.bool true) ∧ Below w.heap.size w w') := fun A A' B B' c c' d d' w h1 h2 h3 h4 => by
    have := eqTimed_any A A' B B' xs.length c ys.length c' xs.length d ys.length d' xs xs ys ys w h1 h2 h3 h4 hx2 hy2 hx2 hy2
    rw [decide_eq_true rfl] at this
    exact this
  have hzl := faL_len xs ys m
  revert SP IM hzl
  generalize faL xs ys m = zs
  generalize askB xs ys m = ok
  intro SP IM hzl
  have hz2 : zs.length ≤ 1048576 := by omega
  have EI : Hid (∀ (A A' : Option Addr) (c c' : Nat) (w : World), Rd w w.heap.size A zs.length zs → Rd w w.heap.size A' zs.length zs → Calls Try.prog 74 #[.slice A zs.length c, .slice A' zs.length c'] w fun e w' => e = .returned (.bool true) ∧ Below w.heap.size w w') := fun A A' c c' w h1 h2 => by
    have := eqIntS_any A A' zs.length c zs.length c' _ _ zs zs w h1 h2 hz2 hz2
    rw [decide_eq_true rfl] at this
    exact this.mono fun e w' ⟨h1, n, h2⟩ => ⟨h1, by rw [h2]; exact below_drewN (Below.refl _ _) n⟩
  have dk : (ok != ok) = false := by cases ok <;> rfl
  have SZ := Lib.hid SZ
  clear h1 h2 hxs hys hr1 hr2 hlx hly hl hW hbW hsW hA hP
  go_enter Try.func22, Try.ntmps22
  go_wp2_with fail
  rw [← HE.out, ← HP.out]
  refine SZ.out.mono ?_
  rintro e w1 ⟨rfl, hb1⟩
  have hAa := (hb1.block P HW.out.2.1).trans HW.out.2.2
  obtain ⟨⟨a1, a2⟩, _⟩ := boxTwo_cells hAa
  have HA := Lib.hid (And.intro hAa (And.intro (Array.getElem?_eq_some_iff.1 hAa).1 (Below.on HW.out.1 hb1)))
  clear hb1 hAa
  go_wp2_with fail
  refine (TO.out _ HA.out.2.2).mono ?_
  rintro e w2 ⟨v, v2, rfl, ho, ho2, hne, hb2⟩
  obtain ⟨B1, d1, rfl, hr⟩ := ho.form
  obtain ⟨B2, d2, rfl, hr2⟩ := ho2.form
  have HA2 := Lib.hid (And.intro ((hb2.block P HA.out.2.1).trans HA.out.1) (Below.on HA.out.2.2 hb2))
  clear ho ho2 hne hb2 a1 a2
  go_wp2_with fail
  refine (SP.out _ _ _ _ _ hr hr2).mono ?_
  rintro e w3 ⟨v0, rfl, ho0, hb3⟩
  obtain ⟨A0, c0, rfl, hr0⟩ := ho0.form
  have hAa := (hb3.block P (Array.getElem?_eq_some_iff.1 HA2.out.1).1).trans HA2.out.1
  obtain ⟨⟨a1, a2⟩, _⟩ := boxTwo_cells hAa
  have HA3 := Lib.hid (And.intro hAa (And.intro (Array.getElem?_eq_some_iff.1 hAa).1 (And.intro (Below.on HA2.out.2 hb3) hr0)))
  clear hr hr2 hb3 hAa ho0 hr0
  go_wp2_with fail
  refine (TO.out _ HA3.out.2.2.1).mono ?_
  rintro e w4 ⟨v, v2, rfl, hox, hqx, hnx, hb4⟩
  obtain ⟨C1, e1, rfl, _⟩ := hox.form
  obtain ⟨C2, e2, rfl, _⟩ := hqx.form
  obtain ⟨V4, hV4⟩ : ∃ V4, V4 = w4.alloc (.cells #[.slice C1 xs.length e1, .slice C2 ys.length e2] 64) := ⟨_, rfl⟩
  have hbV4 : Below w4.heap.size w4 V4 := by rw [hV4]; exact (Below.refl _ _).alloc (Nat.le_refl _) _
  have hR4 : V4.heap[w4.heap.size]? = some (.cells #[.slice C1 xs.length e1, .slice C2 ys.length e2] 64 (0, 0)) := by rw [hV4]; exact World.alloc_heap_new w4 _
  have hb34 := Below.on hb4 hbV4
  have hxb1 := hox.blockOf
  have hxb2 := hqx.blockOf
  have hs4 : w4.heap.size < V4.heap.size := by rw [hV4]; simp
  have hs34 := hb4.size
  have hox4 := hox.keep hbV4 (Nat.le_refl _)
  have hqx4 := hqx.keep hbV4 (Nat.le_refl _)
  obtain ⟨X4, hX4⟩ : ∃ X4, X4 = w4.heap.size := ⟨_, rfl⟩
  rw [← hX4] at hR4 hxb1 hxb2 hs4
  have W4 := Lib.hid (And.intro hox4 (And.intro hqx4 (And.intro hnx (And.intro hxb1 (And.intro hxb2 (And.intro hR4 (And.intro hb34 hs4)))))))
  have HV4 := Lib.hid (And.intro hV4 hX4)
  clear a1 a2 hox hqx hnx hb4 hbV4 hR4 hb34 hxb1 hxb2 hs4 hV4 hX4 hox4 hqx4 hs34
  go_wp2_with fail
  rw [← HV4.out.1, ← HV4.out.2]
  refine (IM.out _ _ _ _ _ W4.out.1.rd W4.out.2.1.rd).mono ?_
  rintro e w5 ⟨v, rfl, hog, hb5⟩
  obtain ⟨G1, f1, rfl, hrg⟩ := hog.form
  have hgb1 := hog.blockOf
  have W5 := Lib.hid (And.intro hog (And.intro hgb1 hb5))
  have KEEP : Hid (∀ wr, Chg (fun i => ((Value.slice C1 xs.length e1).ownBlock = some i ∨ (Value.slice C2 ys.length e2).ownBlock = some i) ∨ (Value.slice G1 zs.length f1).ownBlock = some i) w5 wr → Below w.heap.size w wr ∧ Rd wr wr.heap.size A0 zs.length zs ∧ (wr.cell? ⟨P, 0, none⟩ = some (.slice A1 n1 c1) ∧ wr.cell? ⟨P, 1, none⟩ = some (.slice A2 n2 c2)) ∧ (wr.cell? ⟨X4, 0, none⟩ = some (.slice C1 xs.length e1) ∧ wr.cell? ⟨X4, 1, none⟩ = some (.slice C2 ys.length e2))) := fun wr hc => by
    obtain ⟨p1, p2, p3, p4⟩ := HA3.out
    obtain ⟨_, _, _, q4, q5, q6, q7, q8⟩ := W4.out
    obtain ⟨_, r2, r3⟩ := W5.out
    have hs7 := q7.size
    have hs5 := r3.size
    have h35 : Below w3.heap.size w3 w5 := Below.on q7 r3
    have hS3 : ∀ i, (((Value.slice C1 xs.length e1).ownBlock = some i ∨ (Value.slice C2 ys.length e2).ownBlock = some i) ∨ (Value.slice G1 zs.length f1).ownBlock = some i) → w3.heap.size ≤ i ∧ i ≠ X4 := fun i hi => by
      rcases hi with (h | h) | h
      · have := q4 i h; omega
      · have := q5 i h; omega
      · have := r2 i h; omega
    have h3r : Below w3.heap.size w3 wr := h35.trans (hc.below h35.size (fun i hi => (hS3 i hi).1))
    refine ⟨Below.on p3 h3r, p4.to h3r, (boxTwo_cells ((h3r.block P p2).trans p1)).1, ?_⟩
    exact (boxTwo_cells ((hc.block X4 (by omega) (fun hi => (hS3 X4 hi).2 rfl)).trans ((r3.block X4 q8).trans q6))).1
  obtain ⟨_, kr, _, _⟩ := KEEP.out w5 (Chg.refl _ _)
  have EQ5 := Lib.hid (EI.out G1 A0 f1 c0 w5 hrg kr)
  clear hog hrg hgb1 hb5 kr
  go_wp2_with fail
  refine EQ5.out.mono ?_
  rintro e w6 ⟨rfl, hb6⟩
  obtain ⟨hw6, _, ⟨a1, a2⟩, x1, x2⟩ := KEEP.out w6 (Chg.of_below hb6)
  have HB6 := Lib.hid (And.intro hb6 (And.intro hw6 (And.intro ((W4.out.1.keep W5.out.2.2 (Nat.le_refl _)).keep hb6 (Nat.le_refl _)) ((W4.out.2.1.keep W5.out.2.2 (Nat.le_refl _)).keep hb6 (Nat.le_refl _)))))
  have hbb : Below w6.heap.size w6 w6 := Below.refl _ _
  clear hb6 hw6 EQ5
  go_wp2_with fail
  go_region_held3 (fun w' => Below w6.heap.size w6 w' ∧ w'.cell? ⟨P, 0, none⟩ = some (.slice A1 n1 c1) ∧ w'.cell? ⟨P, 1, none⟩ = some (.slice A2 n2 c2) ∧ w'.cell? ⟨X4, 0, none⟩ = some (.slice C1 xs.length e1) ∧ w'.cell? ⟨X4, 1, none⟩ = some (.slice C2 ys.length e2))
    (first | exact held4_drew ⟨by assumption, by assumption, by assumption, by assumption, by assumption⟩ | exact held4_drew (by assumption) | exact held4_call (by assumption) (by assumption) (Below.size (And.left (by assumption))))
    (first | (go_at_call 84; refine (TO.out _ (Below.on HB6.out.2.1 (‹Below w6.heap.size w6 _ ∧ _›).1)).mono ?_; rintro e w8 ⟨v8, v9, rfl, ho8, ho9, _, hb8⟩; obtain ⟨E1, g1, rfl, hr8⟩ := ho8.form; obtain ⟨E2, g2, rfl, hr9⟩ := ho9.form) | (go_at_call 85; refine (EQ.out _ _ _ _ _ _ _ _ _ (HB6.out.2.2.1.rd.to (‹Below w6.heap.size w6 _ ∧ _›).1) (HB6.out.2.2.2.rd.to (‹Below w6.heap.size w6 _ ∧ _›).1) (by assumption) (by assumption)).mono ?_; rintro e w9 ⟨rfl, hb9⟩))
  obtain ⟨hbz, _, _, x1, x2⟩ := ‹Below w6.heap.size w6 _ ∧ _›
  have hc7 := (Chg.of_below (S := fun i => ((Value.slice C1 xs.length e1).ownBlock = some i ∨ (Value.slice C2 ys.length e2).ownBlock = some i) ∨ (Value.slice G1 zs.length f1).ownBlock = some i) (Below.on HB6.out.1 hbz))
  have MX := Lib.hid (markTimed_any (.slice C1 xs.length e1) (.slice C2 ys.length e2) 1 xs ys _ _ (HB6.out.2.2.1.keep hbz (Nat.le_refl _)) (HB6.out.2.2.2.keep hbz (Nat.le_refl _)) W4.out.2.2.1 (by omega) (by omega) (by omega) (by omega))
  have HC7 := Lib.hid (And.intro hc7 (Below.on HB6.out.1 hbz))
  clear hbz hc7
  go_wp2_with fail
  refine MX.out.mono ?_
  rintro e w8 ⟨rfl, _, _, hc8⟩
  have h8 := HC7.out.1.trans (hc8.weak (fun i h => .inl h))
  obtain ⟨_, kr, _, _⟩ := KEEP.out w8 h8
  have hog8 := (W5.out.1.keep HC7.out.2 (Nat.le_refl _)).chg hc8 (fun i hi => by
    rcases hi with h | h
    · have := W4.out.2.2.2.1 i h; have := W4.out.2.2.2.2.2.2.2; omega
    · have := W4.out.2.2.2.2.1 i h; have := W4.out.2.2.2.2.2.2.2; omega)
  have EQ8 := Lib.hid (EI.out G1 A0 f1 c0 w8 hog8.rd kr)
  have t1 : ¬ ((1 : Int) + (xs.length : Int) + (ys.length : Int) < 0) := by omega
  have H8 := Lib.hid (And.intro h8 hog8)
  clear hc8 h8 kr hog8 x1 x2 MX
  go_wp2_with fail
  refine EQ8.out.mono ?_
  rintro e w9 ⟨rfl, hb9⟩
  have h9 := H8.out.1.trans (Chg.of_below hb9)
  have MK := Lib.hid (markIntS_any (.slice G1 zs.length f1) 1 zs _ w9 (H8.out.2.keep hb9 (Nat.le_refl _)) hz2 (by omega) (by omega))
  have H9 := Lib.hid h9
  clear hb9 h9 EQ8
  go_wp2_with fail
  refine MK.out.mono ?_
  rintro e w10 ⟨rfl, ho10, hg10⟩
  have h10 := H9.out.trans ((Chg.mark hg10).weak (fun i h => .inr h))
  have HH : Hid (∀ (wr : World), Below w10.heap.size w10 wr → Calls Try.prog 78 #[.slice G1 zs.length f1, .int .i64 1] wr fun e w' => e = .returned (.int .i64 (1 + (zs.length : Int))) ∧ Below wr.heap.size wr w') := fun wr h => (heldIntS_any G1 zs.length f1 _ 1 wr (ho10.rd.to h) hz2 (by omega) (by omega)).mono fun e w' ⟨h1, n, h2⟩ => ⟨h1, by rw [h2]; exact below_drewN (Below.refl _ _) n⟩
  have t2 : ¬ (1 : Int) + (zs.length : Int) < 0 := by omega
  have t3 : ((1 : Int) + (zs.length : Int) != 1 + (zs.length : Int)) = false := by simp
  have H10 := Lib.hid h10
  clear ho10 hg10 h10 MK
  go_wp2_with fail
  refine (HH.out _ (Below.refl _ _)).mono ?_
  rintro e w11 ⟨rfl, hb11⟩
  have h11 := H10.out.trans (Chg.of_below hb11)
  obtain ⟨hw11, _, ⟨a1, a2⟩, _⟩ := KEEP.out w11 h11
  have H11 := Lib.hid (And.intro h11 (And.intro hb11 hw11))
  clear h11 hb11 hw11
  go_wp2_with fail
  refine (TO.out _ H11.out.2.2).mono ?_
  rintro e w12 ⟨v, v2, rfl, ho12, hq12, _, hb12⟩
  obtain ⟨A12, c12, rfl, hr12⟩ := ho12.form
  obtain ⟨A22, c22, rfl, hrq12⟩ := hq12.form
  have HB12 := Lib.hid hb12
  clear ho12 hq12 hb12 a1 a2
  go_wp2_with fail
  refine (IM.out _ _ _ _ _ hr12 hrq12).mono ?_
  rintro e w13 ⟨v13, rfl, ho13, hb13⟩
  obtain ⟨A13, c13, rfl, hr13⟩ := ho13.form
  have hbb2 : Below w11.heap.size w11 w13 := Below.on HB12.out hb13
  have h13 := H11.out.1.trans (Chg.of_below hbb2)
  obtain ⟨_, kr, _, _⟩ := KEEP.out w13 h13
  have EQ13 := Lib.hid (EI.out A13 A0 c13 c0 w13 hr13 kr)
  have H13 := Lib.hid (And.intro h13 (Below.on H11.out.2.1 hbb2))
  clear ho13 hb13 hr13 hbb2 h13 kr hr12 hrq12
  go_wp2_with fail
  refine EQ13.out.mono ?_
  rintro e w14 ⟨rfl, hb14⟩
  have h14 := H13.out.1.trans (Chg.of_below hb14)
  have H14 := Lib.hid (And.intro h14 (Below.on H13.out.2 hb14))
  clear hb14 h14 EQ13
  go_wp2_with fail
  refine (HH.out _ H14.out.2).mono ?_
  rintro e w15 ⟨rfl, hb15⟩
  have h15 := (KEEP.out w15 (H14.out.1.trans (Chg.of_below hb15))).1
  clear hb15
  go_wp2_with fail
  go_ret
  exact ⟨rfl, h15⟩
end Go.Proofs.Ytfafgihfgdpclaa
