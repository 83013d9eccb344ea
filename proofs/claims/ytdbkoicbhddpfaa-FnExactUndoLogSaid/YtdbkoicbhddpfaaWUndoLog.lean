/- The walk of the exact law of UndoLog: for every log the law returns true and nothing that was there has turned. -/
import Derived.Test.YtdbkoicbhddpfaaBackTo
import Derived.Test.YtdbkoicbhddpfaaSpecBack
import Derived.Test.YtdbkoicbhddpfaaLogHelp
import Derived.Test.YtdbkoicbhddpfaaOpen
import Derived.Deep.RegionHeld3
namespace Go.Proofs.Ytdbkoicbhddpfaa
open Go.RowKit Go.Shelf

theorem bkUp_lenU (xs : List Int) (ss : List (Int × Int)) (k : Int) : (bkUp xs ss k).length ≤ 16 := by
  cases h : bkB xs ss k with
  | false => rw [(bk_none h).1]; simp
  | true =>
    have h' := h
    unfold bkB at h'
    simp only [Bool.and_eq_true, decide_eq_true_eq] at h'
    obtain ⟨hv, h0, h1⟩ := h'
    obtain ⟨j, rfl⟩ : ∃ j : Nat, k = j := ⟨k.toNat, by omega⟩
    obtain ⟨u, hu, hl, -⟩ := bk_take hv (show j ≤ ss.length by omega)
    rw [(bk_yes hv (by omega) hu).2.1, hl]
    have := (logV_parts hv).1
    omega
theorem bkSt_lenU (xs : List Int) (ss : List (Int × Int)) (k : Int) : (bkSt xs ss k).length ≤ 17 := by
  cases h : bkB xs ss k with
  | false => rw [(bk_none h).2]; simp
  | true =>
    have h' := h
    unfold bkB at h'
    simp only [Bool.and_eq_true, decide_eq_true_eq] at h'
    obtain ⟨⟨p1, p16⟩, hbu, _⟩ := logV_parts h'.1
    have := built_short p1 p16 hbu
    unfold bkSt
    rw [if_pos h, List.length_take]
    omega
theorem rowB_smallU {w : World} {A : Option Addr} {n c : Nat} {zs : List Int} (h : Row .i64 w A n c zs) : n ≤ maxLen := by
  rcases h with ⟨rfl, rfl, rfl, rfl⟩ | ⟨x, rfl, hl, hm, _⟩
  · exact Nat.zero_le _
  · omega
set_option maxRecDepth 100000 in
set_option maxHeartbeats 16000000 in
theorem exactUndoLog (A1 : Option Addr) (n1 c1 : Nat) (z1 : List Int) (A2 : Option Addr) (n2 c2 : Nat) (ys : List (Int × Int)) (w : World) (h1 : Row .i64 w A1 n1 c1 z1) (h2 : RowQ w A2 n2 c2 ys) :
    Calls Try.prog 12 #[.agg #[.slice A1 n1 c1, .slice A2 n2 c2]] w fun e w' => e = .returned (.bool true) ∧ Below w.heap.size w w' := by
  obtain ⟨W, hW⟩ : ∃ W, W = w.alloc (.cells #[.slice A1 n1 c1, .slice A2 n2 c2] 76) := ⟨_, rfl⟩
  have hbW : Below w.heap.size w W := by rw [hW]; exact (Below.refl _ _).alloc (Nat.le_refl _) _
  have hsW : w.heap.size < W.heap.size := by rw [hW]; simp
  have hA : W.heap[w.heap.size]? = some (.cells #[.slice A1 n1 c1, .slice A2 n2 c2] 76 (0, 0)) := by rw [hW]; exact World.alloc_heap_new w _
  have SZ := szLog_any A1 A2 n1 c1 n2 c2 W (rowB_smallU h1) h2.small
  obtain ⟨P, hP⟩ : ∃ P, P = w.heap.size := ⟨_, rfl⟩
  rw [← hP] at hA hsW
  have HW := Lib.hid (And.intro hbW (And.intro hsW hA))
  have HE := Lib.hid hW
  have HP := Lib.hid hP
  by_cases hl : 1048576 < n1 + n2
  · rw [if_pos hl] at SZ
    have SZ := Lib.hid SZ
    clear h1 h2 hW hbW hsW hA hP hl
    go_enter Try.func12, Try.ntmps12
    go_wp2_with fail
    rw [← HE.out, ← HP.out]
    refine SZ.out.mono ?_
    rintro e w1 ⟨rfl, hb1⟩
    have HB := Lib.hid (Below.on HW.out.1 hb1)
    clear hb1
    go_wp2_with fail
    go_ret
    exact ⟨rfl, HB.out⟩
  rw [if_neg hl] at SZ
  have t0 : ¬ (1048576 - (n1 : Int) - (n2 : Int) < 0) := by omega
  have hr1 := h1.rd
  have hr2 := h2.rd
  obtain ⟨xs, hxs⟩ : ∃ xs, xs = z1.take n1 := ⟨_, rfl⟩
  rw [← hxs] at hr1
  have hlx := hr1.1
  have hly := hr2.1
  have hx2 : xs.length ≤ 1048576 := by omega
  have hy2 : ys.length ≤ 1048576 := by omega
  have hsh : logV xs ys = true → ys.length ≤ 1000 := fun h => by
    obtain ⟨⟨p1, p16⟩, hbu, _⟩ := logV_parts h
    have := built_short p1 p16 hbu
    omega
  have TO := Lib.hid (fun (w1 : World) (hb : Below w.heap.size w w1) => toLog_any A1 A2 n1 c1 n2 c2 xs ys w1 ((hr1.below hb (Nat.le_refl _)).more hb.size) (hr2.to hb) (by omega) (by omega))
  have S := fun (A : Option Addr) (c : Nat) (A' : Option Addr) (c' : Nat) (w : World) (h : Rd w w.heap.size A xs.length xs) (h' : RdQ w w.heap.size A' ys.length ys) => specUndo_any A A' xs.length c ys.length c' _ xs ys w h h' (Nat.le_refl _) hx2 hy2 hsh
  have I := fun (A : Option Addr) (c : Nat) (A' : Option Addr) (c' : Nat) (w : World) (h : Rd w w.heap.size A xs.length xs) (h' : RdQ w w.heap.size A' ys.length ys) => implUndo_any A A' xs.length c ys.length c' _ xs ys w h h' (Nat.le_refl _) hx2 hy2
  have EX : Hid (∀ (A A' B B' : Option Addr) (c c' d d' : Nat) (w : World), Rd w w.heap.size A xs.length xs → RdQ w w.heap.size A' ys.length ys → Rd w w.heap.size B xs.length xs → RdQ w w.heap.size B' ys.length ys → Calls Try.prog 65 #[.agg #[.slice A xs.length c, .slice A' ys.length c'], .agg #[.slice B xs.length d, .slice B' ys.length d']] w fun e w' => e = .returned (.bool true) ∧ Below w.heap.size w w') := fun A A' B B' c c' d d' w h1 h2 h3 h4 => by
    have := eqLog_any A A' B B' xs.length c ys.length c' xs.length d ys.length d' xs xs ys ys w h1 h2 h3 h4 hx2 hy2 hx2 hy2
    rw [decide_eq_true rfl] at this
    exact this
  have hul := bkUp_lenU xs ys ((ys.length : Int) - 1)
  have hvl := bkSt_lenU xs ys ((ys.length : Int) - 1)
  revert S I hul hvl
  generalize bkUp xs ys ((ys.length : Int) - 1) = us
  generalize bkSt xs ys ((ys.length : Int) - 1) = vs
  generalize bkB xs ys ((ys.length : Int) - 1) = ok
  intro S I hul hvl
  have EQ : Hid (∀ (A A' B B' : Option Addr) (c c' d d' : Nat) (w : World), Rd w w.heap.size A us.length us → RdQ w w.heap.size A' vs.length vs → Rd w w.heap.size B us.length us → RdQ w w.heap.size B' vs.length vs → Calls Try.prog 65 #[.agg #[.slice A us.length c, .slice A' vs.length c'], .agg #[.slice B us.length d, .slice B' vs.length d']] w fun e w' => e = .returned (.bool true) ∧ Below w.heap.size w w') := fun A A' B B' c c' d d' w h1 h2 h3 h4 => by
    have := eqLog_any A A' B B' us.length c vs.length c' us.length d vs.length d' us us vs vs w h1 h2 h3 h4 (by omega) (by omega) (by omega) (by omega)
    rw [decide_eq_true rfl] at this
    exact this
  have dk : (ok != ok) = false := by cases ok <;> rfl
  have S := Lib.hid S
  have I := Lib.hid I
  have SZ := Lib.hid SZ
  clear h1 h2 hxs hr1 hr2 hlx hly hl hW hbW hsW hA hP hsh
  go_enter Try.func12, Try.ntmps12
  go_wp2_with fail
  rw [← HE.out, ← HP.out]
  refine SZ.out.mono ?_
  rintro e w1 ⟨rfl, hb1⟩
  have hAa := (hb1.block P HW.out.2.1).trans HW.out.2.2
  obtain ⟨⟨a1, a2⟩, _⟩ := boxTwo_cells hAa
  have HA := Lib.hid (And.intro hAa (Below.on HW.out.1 hb1))
  clear hb1 hAa
  go_wp2_with fail
  refine (TO.out _ HA.out.2).mono ?_
  rintro e w2 ⟨v, v2, rfl, ho, ho2, _, hb2⟩
  obtain ⟨B1, d1, rfl, hr⟩ := ho.form
  obtain ⟨B2, d2, rfl, hr2⟩ := ho2.form
  have HA2 := Lib.hid (And.intro ((hb2.block P (Array.getElem?_eq_some_iff.1 HA.out.1).1).trans HA.out.1) (Below.on HA.out.2 hb2))
  clear ho ho2 hb2 a1 a2
  go_wp2_with fail
  refine (S.out _ _ _ _ _ hr hr2).mono ?_
  rintro e w3 ⟨v0, v20, rfl, ho0, hq0, _, hb3⟩
  obtain ⟨A0, c0, rfl, hr0⟩ := ho0.form
  obtain ⟨A20, c20, rfl, hrq0⟩ := hq0.form
  obtain ⟨V3, hV3⟩ : ∃ V3, V3 = w3.alloc (.cells #[.slice A0 us.length c0, .slice A20 vs.length c20] 26) := ⟨_, rfl⟩
  have hbV3 : Below w3.heap.size w3 V3 := by rw [hV3]; exact log_box w3 _ _
  have hR3 : V3.heap[w3.heap.size]? = some (.cells #[.slice A0 us.length c0, .slice A20 vs.length c20] 26 (0, 0)) := by rw [hV3]; exact World.alloc_heap_new w3 _
  have hb23 := Below.on hb3 hbV3
  have hA3 := (hb23.block P (Array.getElem?_eq_some_iff.1 HA2.out.1).1).trans HA2.out.1
  obtain ⟨⟨a1, a2⟩, _⟩ := boxTwo_cells hA3
  obtain ⟨X0, hX0⟩ : ∃ X0, X0 = w3.heap.size := ⟨_, rfl⟩
  rw [← hX0] at hR3
  have W3 := Lib.hid (And.intro (hr0.to hbV3) (And.intro (hrq0.to hbV3) (And.intro hR3 (And.intro hA3 (Below.on HA2.out.2 hb23)))))
  have HV3 := Lib.hid (And.intro hV3 hX0)
  rw [hV3] at a1 a2
  clear hr hr2 ho0 hq0 hr0 hrq0 hb3 hbV3 hR3 hb23 hA3 hV3 hX0
  go_wp2_with fail
  rw [← HV3.out.1, ← HV3.out.2]
  refine (TO.out _ W3.out.2.2.2.2).mono ?_
  rintro e w4 ⟨v, v2, rfl, hox, hqx, hnx, hb4⟩
  obtain ⟨C1, e1, rfl, _⟩ := hox.form
  obtain ⟨C2, e2, rfl, _⟩ := hqx.form
  obtain ⟨V4, hV4⟩ : ∃ V4, V4 = w4.alloc (.cells #[.slice C1 xs.length e1, .slice C2 ys.length e2] 26) := ⟨_, rfl⟩
  have hbV4 : Below w4.heap.size w4 V4 := by rw [hV4]; exact log_box w4 _ _
  have hR4 : V4.heap[w4.heap.size]? = some (.cells #[.slice C1 xs.length e1, .slice C2 ys.length e2] 26 (0, 0)) := by rw [hV4]; exact World.alloc_heap_new w4 _
  have hb34 := Below.on hb4 hbV4
  have hxb1 := hox.blockOf
  have hxb2 := hqx.blockOf
  have hs4 : w4.heap.size < V4.heap.size := by rw [hV4]; simp
  have hox4 := hox.keep hbV4 (Nat.le_refl _)
  have hqx4 := hqx.keep hbV4 (Nat.le_refl _)
  obtain ⟨X4, hX4⟩ : ∃ X4, X4 = w4.heap.size := ⟨_, rfl⟩
  rw [← hX4] at hR4 hxb1 hxb2 hs4
  have W4 := Lib.hid (And.intro hox4 (And.intro hqx4 (And.intro hnx (And.intro hxb1 (And.intro hxb2 (And.intro hR4 (And.intro hb34 hs4)))))))
  have HV4 := Lib.hid (And.intro hV4 hX4)
  clear a1 a2 hox hqx hnx hb4 hbV4 hR4 hb34 hxb1 hxb2 hs4 hV4 hX4 hox4 hqx4
  go_wp2_with fail
  rw [← HV4.out.1, ← HV4.out.2]
  refine (I.out _ _ _ _ _ W4.out.1.rd W4.out.2.1.rd).mono ?_
  rintro e w5 ⟨v, v2, rfl, hog, hqg, hng, hb5⟩
  obtain ⟨G1, f1, rfl, _⟩ := hog.form
  obtain ⟨G2, f2, rfl, _⟩ := hqg.form
  obtain ⟨V5, hV5⟩ : ∃ V5, V5 = w5.alloc (.cells #[.slice G1 us.length f1, .slice G2 vs.length f2] 26) := ⟨_, rfl⟩
  have hbV5 : Below w5.heap.size w5 V5 := by rw [hV5]; exact log_box w5 _ _
  have hR5 : V5.heap[w5.heap.size]? = some (.cells #[.slice G1 us.length f1, .slice G2 vs.length f2] 26 (0, 0)) := by rw [hV5]; exact World.alloc_heap_new w5 _
  have hb45 := Below.on hb5 hbV5
  have hgb1 := hog.blockOf
  have hgb2 := hqg.blockOf
  have hs5 : w5.heap.size < V5.heap.size := by rw [hV5]; simp
  have hog5 := hog.keep hbV5 (Nat.le_refl _)
  have hqg5 := hqg.keep hbV5 (Nat.le_refl _)
  have hw5 := hb5.size
  obtain ⟨X5, hX5⟩ : ∃ X5, X5 = w5.heap.size := ⟨_, rfl⟩
  rw [← hX5] at hR5 hgb1 hgb2 hs5 hw5
  have W5 := Lib.hid (And.intro hog5 (And.intro hqg5 (And.intro hng (And.intro hgb1 (And.intro hgb2 (And.intro hR5 (And.intro hb45 (And.intro hs5 hw5))))))))
  have HV5 := Lib.hid (And.intro hV5 hX5)
  -- what stays in every later world
  have KEEP : Hid (∀ wr, Chg (fun i => ((Value.slice C1 xs.length e1).ownBlock = some i ∨ (Value.slice C2 ys.length e2).ownBlock = some i) ∨ ((Value.slice G1 us.length f1).ownBlock = some i ∨ (Value.slice G2 vs.length f2).ownBlock = some i)) V5 wr → Below w.heap.size w wr ∧ Rd wr wr.heap.size A0 us.length us ∧ RdQ wr wr.heap.size A20 vs.length vs ∧ ((wr.cell? ⟨X0, 0, none⟩ = some (.slice A0 us.length c0) ∧ wr.cell? ⟨X0, 1, none⟩ = some (.slice A20 vs.length c20)) ∧ (wr.cell? ⟨X4, 0, none⟩ = some (.slice C1 xs.length e1) ∧ wr.cell? ⟨X4, 1, none⟩ = some (.slice C2 ys.length e2)) ∧ (wr.cell? ⟨X5, 0, none⟩ = some (.slice G1 us.length f1) ∧ wr.cell? ⟨X5, 1, none⟩ = some (.slice G2 vs.length f2)) ∧ (wr.cell? ⟨P, 0, none⟩ = some (.slice A1 n1 c1) ∧ wr.cell? ⟨P, 1, none⟩ = some (.slice A2 n2 c2)))) := fun wr hc => by
    obtain ⟨p1, p2, p3, p4, p5⟩ := W3.out
    obtain ⟨_, _, _, q4, q5, q6, q7, q8⟩ := W4.out
    obtain ⟨_, _, _, r4, r5, r6, r7, r8, r9⟩ := W5.out
    have l3 := (Array.getElem?_eq_some_iff.1 p3).1
    have lP := (Array.getElem?_eq_some_iff.1 p4).1
    have h7 := q7.size
    have h35 : Below V3.heap.size V3 V5 := Below.on q7 r7
    have h35s := h35.size
    have hS3 : ∀ i, (((Value.slice C1 xs.length e1).ownBlock = some i ∨ (Value.slice C2 ys.length e2).ownBlock = some i) ∨ ((Value.slice G1 us.length f1).ownBlock = some i ∨ (Value.slice G2 vs.length f2).ownBlock = some i)) → V3.heap.size ≤ i ∧ i ≠ X4 ∧ i ≠ X5 := fun i hi => by
      rcases hi with (h | h) | (h | h)
      · have := q4 i h; omega
      · have := q5 i h; omega
      · have := r4 i h; omega
      · have := r5 i h; omega
    have h3r : Below V3.heap.size V3 wr := h35.trans (hc.below h35s (fun i hi => (hS3 i hi).1))
    refine ⟨Below.on p5 h3r, p1.to h3r, p2.to h3r, (boxTwo_cells ((h3r.block X0 l3).trans p3)).1, ?_, ?_, (boxTwo_cells ((h3r.block P lP).trans p4)).1⟩
    · exact (boxTwo_cells ((hc.block X4 (by have := r7.size; omega) (fun hi => (hS3 X4 hi).2.1 rfl)).trans ((r7.block X4 q8).trans q6))).1
    · exact (boxTwo_cells ((hc.block X5 r8 (fun hi => (hS3 X5 hi).2.2 rfl)).trans r6)).1
  obtain ⟨_, kr, kq, ⟨k1, k2⟩, _, ⟨k3, k4⟩, _⟩ := KEEP.out V5 (Chg.refl _ _)
  have EQ5 := Lib.hid (EQ.out G1 G2 A0 A20 f1 f2 c0 c20 V5 hog5.rd hqg5.rd kr kq)
  rw [hV5] at k1 k2 k3 k4
  rw [hX5] at k3 k4
  clear hog hqg hng hb5 hbV5 hR5 hb45 hgb1 hgb2 hs5 hog5 hqg5 hw5 hV5 hX5 kr kq
  go_wp2_with fail
  rw [← HV5.out.2, ← HV5.out.1]
  refine EQ5.out.mono ?_
  rintro e w6 ⟨rfl, hb6⟩
  obtain ⟨hw6, _, _, _, ⟨x1, x2⟩, _, a1, a2⟩ := KEEP.out w6 (Chg.of_below hb6)
  have HB6 := Lib.hid (And.intro hb6 (And.intro hw6 (And.intro ((W4.out.1.keep W5.out.2.2.2.2.2.2.1 (Nat.le_refl _)).keep hb6 (Nat.le_refl _)) ((W4.out.2.1.keep W5.out.2.2.2.2.2.2.1 (Nat.le_refl _)).keep hb6 (Nat.le_refl _)))))
  have hbb : Below w6.heap.size w6 w6 := Below.refl _ _
  clear hb6 hw6 k1 k2 k3 k4 EQ5
  go_wp2_with fail
  go_region_held3 (fun w' => Below w6.heap.size w6 w' ∧ w'.cell? ⟨P, 0, none⟩ = some (.slice A1 n1 c1) ∧ w'.cell? ⟨P, 1, none⟩ = some (.slice A2 n2 c2) ∧ w'.cell? ⟨X4, 0, none⟩ = some (.slice C1 xs.length e1) ∧ w'.cell? ⟨X4, 1, none⟩ = some (.slice C2 ys.length e2))
    (first | exact held4_drew ⟨by assumption, by assumption, by assumption, by assumption, by assumption⟩ | exact held4_drew (by assumption) | exact held4_call (by assumption) (by assumption) (Below.size (And.left (by assumption))))
    (first | (go_at_call 64; refine (TO.out _ (Below.on HB6.out.2.1 (‹Below w6.heap.size w6 _ ∧ _›).1)).mono ?_; rintro e w8 ⟨v8, v9, rfl, ho8, ho9, _, hb8⟩; obtain ⟨E1, g1, rfl, hr8⟩ := ho8.form; obtain ⟨E2, g2, rfl, hr9⟩ := ho9.form) | (go_at_call 65; refine (EX.out _ _ _ _ _ _ _ _ _ (HB6.out.2.2.1.rd.to (‹Below w6.heap.size w6 _ ∧ _›).1) (HB6.out.2.2.2.rd.to (‹Below w6.heap.size w6 _ ∧ _›).1) (by assumption) (by assumption)).mono ?_; rintro e w9 ⟨rfl, hb9⟩))
  obtain ⟨hbz, _, _, x1, x2⟩ := ‹Below w6.heap.size w6 _ ∧ _›
  have hc7 := (Chg.of_below (S := fun i => ((Value.slice C1 xs.length e1).ownBlock = some i ∨ (Value.slice C2 ys.length e2).ownBlock = some i) ∨ ((Value.slice G1 us.length f1).ownBlock = some i ∨ (Value.slice G2 vs.length f2).ownBlock = some i)) (Below.on HB6.out.1 hbz))
  have MX := Lib.hid (markLog_any (.slice C1 xs.length e1) (.slice C2 ys.length e2) 1 xs ys _ _ (HB6.out.2.2.1.keep hbz (Nat.le_refl _)) (HB6.out.2.2.2.keep hbz (Nat.le_refl _)) W4.out.2.2.1 (by omega) (by omega) (by omega) (by omega))
  have HC7 := Lib.hid (And.intro hc7 (Below.on HB6.out.1 hbz))
  clear hbz hc7
  go_wp2_with fail
  refine MX.out.mono ?_
  rintro e w8 ⟨rfl, _, _, hc8⟩
  have h8 := HC7.out.1.trans (hc8.weak (fun i h => .inl h))
  obtain ⟨_, kr, kq, ⟨k1, k2⟩, _, ⟨k3, k4⟩, _⟩ := KEEP.out w8 h8
  have hog8 := (W5.out.1.keep HC7.out.2 (Nat.le_refl _)).chg hc8 (fun i hi => by
    rcases hi with h | h
    · have := W4.out.2.2.2.1 i h; have := W4.out.2.2.2.2.2.2.2; omega
    · have := W4.out.2.2.2.2.1 i h; have := W4.out.2.2.2.2.2.2.2; omega)
  have hqg8 := (W5.out.2.1.keep HC7.out.2 (Nat.le_refl _)).chg hc8 (fun i hi => by
    rcases hi with h | h
    · have := W4.out.2.2.2.1 i h; have := W4.out.2.2.2.2.2.2.2; omega
    · have := W4.out.2.2.2.2.1 i h; have := W4.out.2.2.2.2.2.2.2; omega)
  have EQ8 := Lib.hid (EQ.out G1 G2 A0 A20 f1 f2 c0 c20 w8 hog8.rd hqg8.rd kr kq)
  have t1 : ¬ ((1 : Int) + (xs.length : Int) + 2 * (ys.length : Int) < 0) := by omega
  have H8 := Lib.hid (And.intro h8 (And.intro hog8 hqg8))
  clear hc8 h8 kr kq hog8 hqg8 x1 x2 MX
  go_wp2_with fail
  refine EQ8.out.mono ?_
  rintro e w9 ⟨rfl, hb9⟩
  have h9 := H8.out.1.trans (Chg.of_below hb9)
  obtain ⟨_, _, _, _, _, ⟨k3, k4⟩, _⟩ := KEEP.out w9 h9
  have MK := Lib.hid (markLog_any (.slice G1 us.length f1) (.slice G2 vs.length f2) 1 us vs _ w9 (H8.out.2.1.keep hb9 (Nat.le_refl _)) (H8.out.2.2.keep hb9 (Nat.le_refl _)) W5.out.2.2.1 (by omega) (by omega) (by omega) (by omega))
  have H9 := Lib.hid h9
  clear hb9 h9 k1 k2 EQ8
  go_wp2_with fail
  refine MK.out.mono ?_
  rintro e w10 ⟨rfl, ho10, hq10, hc10⟩
  have h10 := H9.out.trans (hc10.weak (fun i h => .inr h))
  obtain ⟨_, _, _, _, _, ⟨k3, k4⟩, _⟩ := KEEP.out w10 h10
  have HH := Lib.hid (fun (wr : World) (h : Below w10.heap.size w10 wr) => heldLog_any G1 G2 us.length f1 vs.length f2 1 wr (ho10.rd.to h) (hq10.rd.to h) (by omega) (by omega) (by omega) (by omega))
  have t2 : ¬ (1 : Int) + (us.length : Int) + 2 * (vs.length : Int) < 0 := by omega
  have t3 : ((1 : Int) + (us.length : Int) + 2 * (vs.length : Int) != 1 + (us.length : Int) + 2 * (vs.length : Int)) = false := by simp
  have H10 := Lib.hid h10
  clear ho10 hq10 hc10 h10 MK
  go_wp2_with fail
  refine (HH.out _ (Below.refl _ _)).mono ?_
  rintro e w11 ⟨rfl, hb11⟩
  have h11 := H10.out.trans (Chg.of_below hb11)
  obtain ⟨hw11, _, _, _, _, _, a1, a2⟩ := KEEP.out w11 h11
  have H11 := Lib.hid (And.intro h11 (And.intro hb11 hw11))
  clear h11 hb11 k3 k4 hw11
  go_wp2_with fail
  refine (TO.out _ H11.out.2.2).mono ?_
  rintro e w12 ⟨v, v2, rfl, ho12, hq12, _, hb12⟩
  obtain ⟨A12, c12, rfl, hr12⟩ := ho12.form
  obtain ⟨A22, c22, rfl, hrq12⟩ := hq12.form
  have HB12 := Lib.hid hb12
  clear ho12 hq12 hb12 a1 a2
  go_wp2_with fail
  refine (I.out _ _ _ _ _ hr12 hrq12).mono ?_
  rintro e w13 ⟨v13, v23, rfl, ho13, hq13, _, hb13⟩
  obtain ⟨A13, c13, rfl, hr13⟩ := ho13.form
  obtain ⟨A23, c23, rfl, hrq13⟩ := hq13.form
  obtain ⟨V13, hV13⟩ : ∃ V13, V13 = w13.alloc (.cells #[.slice A13 us.length c13, .slice A23 vs.length c23] 26) := ⟨_, rfl⟩
  have hbV13 : Below w13.heap.size w13 V13 := by rw [hV13]; exact log_box w13 _ _
  have hbb2 : Below w11.heap.size w11 V13 := Below.on (Below.on HB12.out hb13) hbV13
  have h13 := H11.out.1.trans (Chg.of_below hbb2)
  obtain ⟨_, kr, kq, ⟨g1, g2⟩, _⟩ := KEEP.out V13 h13
  rw [hV13] at g1 g2
  have EQ13 := Lib.hid (EQ.out A13 A23 A0 A20 c13 c23 c0 c20 V13 (hr13.to hbV13) (hrq13.to hbV13) kr kq)
  have H13 := Lib.hid (And.intro h13 (Below.on H11.out.2.1 hbb2))
  have HV13 := Lib.hid hV13
  clear ho13 hq13 hb13 hr13 hrq13 hbV13 hbb2 h13 kr kq hV13 hr12 hrq12
  go_wp2_with fail
  rw [← HV13.out]
  refine EQ13.out.mono ?_
  rintro e w14 ⟨rfl, hb14⟩
  have h14 := H13.out.1.trans (Chg.of_below hb14)
  obtain ⟨_, _, _, _, _, ⟨k3, k4⟩, _⟩ := KEEP.out w14 h14
  have H14 := Lib.hid (And.intro h14 (Below.on H13.out.2 hb14))
  clear hb14 h14 EQ13 g1 g2
  go_wp2_with fail
  refine (HH.out _ H14.out.2).mono ?_
  rintro e w15 ⟨rfl, hb15⟩
  have h15 := (KEEP.out w15 (H14.out.1.trans (Chg.of_below hb15))).1
  clear hb15 k3 k4
  go_wp2_with fail
  go_ret
  exact ⟨rfl, h15⟩
end Go.Proofs.Ytdbkoicbhddpfaa
