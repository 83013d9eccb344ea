/- The walk of the exact law of NewLog: for every int the law returns true and nothing that was there has turned. -/
import Derived.Test.YtfdkkcigmjonfaaHistory
namespace Go.Proofs.Ytfdkkcigmjonfaa
open Go.RowKit

set_option maxRecDepth 100000 in
set_option maxHeartbeats 4000000 in
theorem exactNewLog (n : Int) (w : World) :
    Calls Try.prog 25 #[.int .i64 n] w fun e w' => e = .returned (.bool true) ∧ Below w.heap.size w w' := by
  obtain ⟨xs, hxs⟩ : ∃ xs, xs = roots (newN n) := ⟨_, rfl⟩
  have hl : xs.length ≤ 16 := by rw [hxs, roots_len]; exact newN_le n
  have S := specNewLog_any n w
  have I := implNewLog_any n
  obtain ⟨ok, hok⟩ : ∃ ok, ok = newOk n := ⟨_, rfl⟩
  rw [← hxs, ← hok] at S I
  have S := Lib.hid S
  have I := Lib.hid I
  have hd : decide ((xs, ([] : List (Int × Int))) = (xs, [])) = true := by simp
  have hk : (ok != ok) = false := by cases ok <;> rfl
  clear hxs hok
  go_enter Try.func25, Try.ntmps25
  go_wp2_with fail
  refine S.out.mono ?_
  rintro e w1 ⟨v0, v20, rfl, ho0, hq0, _, hb0⟩
  obtain ⟨A0, c0, rfl, hr0⟩ := ho0.form
  obtain ⟨A20, c20, rfl, hrq0⟩ := hq0.form
  rw [show ([] : List (Int × Int)).length = 0 from rfl] at hrq0
  rw [show ([] : List (Int × Int)).length = 0 from rfl]
  obtain ⟨V1, hV1⟩ : ∃ V1, V1 = w1.alloc (.cells #[.slice A0 xs.length c0, .slice A20 0 c20] 64) := ⟨_, rfl⟩
  have hbV1 : Below w1.heap.size w1 V1 := by rw [hV1]; exact log_box w1 _ _
  have hR1 : V1.heap[w1.heap.size]? = some (.cells #[.slice A0 xs.length c0, .slice A20 0 c20] 64 (0, 0)) := by rw [hV1]; exact World.alloc_heap_new w1 _
  have hs1 : V1.heap.size = w1.heap.size + 1 := by rw [hV1]; simp
  have hw0 := hb0.size
  have W1 := Lib.hid (And.intro (hr0.to hbV1) (And.intro (hrq0.to hbV1) (And.intro hR1 (And.intro hs1 (Below.on hb0 hbV1)))))
  have HV1 := Lib.hid hV1
  clear ho0 hq0 hr0 hrq0 hbV1 hR1 hs1 hV1 hb0
  go_wp2_with fail
  rw [← HV1.out]
  refine (I.out V1).mono ?_
  rintro e w2 ⟨v1, rfl, ho1, hb1⟩
  obtain ⟨A1, c1, rfl, _⟩ := ho1.form
  obtain ⟨V2, hV2⟩ : ∃ V2, V2 = w2.alloc (.cells #[.slice A1 xs.length c1, .slice none 0 0] 64) := ⟨_, rfl⟩
  have hbV2 : Below w2.heap.size w2 V2 := by rw [hV2]; exact log_box w2 _ _
  have hR2 : V2.heap[w2.heap.size]? = some (.cells #[.slice A1 xs.length c1, .slice none 0 0] 64 (0, 0)) := by rw [hV2]; exact World.alloc_heap_new w2 _
  have hs2 : V2.heap.size = w2.heap.size + 1 := by rw [hV2]; simp
  have hb12 : Below V1.heap.size V1 V2 := Below.on hb1 hbV2
  have hw2 := hb1.size
  obtain ⟨⟨b1, b2⟩, _⟩ := boxTwo_cells ((hb12.block w1.heap.size (by have := W1.out.2.2.2.1; omega)).trans W1.out.2.2.1)
  rw [hV2] at b1 b2
  have hoV2 := ho1.keep hbV2 (Nat.le_refl _)
  have hx1 := ho1.blockOf
  have W2 := Lib.hid (And.intro hoV2 (And.intro hR2 (And.intro hs2 (And.intro hb12 (And.intro hw2 hx1)))))
  have HV2 := Lib.hid hV2
  -- what stays in every later world
  have KEEP : Hid (∀ wr, Chg (fun i => (Value.slice A1 xs.length c1).ownBlock = some i) V2 wr → Below w.heap.size w wr ∧ Rd wr wr.heap.size A0 xs.length xs ∧ RdQ wr wr.heap.size A20 0 [] ∧ ((wr.cell? ⟨w1.heap.size, 0, none⟩ = some (.slice A0 xs.length c0) ∧ wr.cell? ⟨w1.heap.size, 1, none⟩ = some (.slice A20 0 c20)) ∧ wr.cell? ⟨w2.heap.size, 0, none⟩ = some (.slice A1 xs.length c1) ∧ wr.cell? ⟨w2.heap.size, 1, none⟩ = some (.slice none 0 0))) := fun wr hc => by
    obtain ⟨p1, p2, p3, p4, p5⟩ := W1.out
    obtain ⟨q1, q2, q3, q4, q5, q6⟩ := W2.out
    have hq4 := q4.size
    have h1r : Below V1.heap.size V1 wr := q4.trans (hc.below hq4 (fun i hi => (q6 i hi).1))
    refine ⟨Below.on p5 h1r, p1.to h1r, p2.to h1r, (boxTwo_cells ((h1r.block _ (by omega)).trans p3)).1, ?_⟩
    refine (boxTwo_cells ((hc.block w2.heap.size (by omega) (fun e => ?_)).trans q2)).1
    have := (q6 _ e).2
    omega
  clear ho1 hb1 hbV2 hR2 hs2 hb12 hoV2 hV2 hw2 hx1 hw0
  go_wp2_with fail
  rw [← HV2.out]
  have KV := Lib.hid (KEEP.out V2 (Chg.refl _ _))
  refine (eqLog_any A1 none A0 A20 xs.length c1 0 0 xs.length c0 0 c20 xs xs [] [] V2 W2.out.1.rd (RdQ.nil _ _ _) KV.out.2.1 KV.out.2.2.1 (by omega) (by omega) (by omega) (by omega)).mono ?_
  rintro e w3 ⟨rfl, hb3⟩
  have h3 : Chg (fun i => (Value.slice A1 xs.length c1).ownBlock = some i) V2 w3 := Chg.of_below hb3
  obtain ⟨_, _, _, _, a1, a2⟩ := KEEP.out w3 h3
  have ho3 := W2.out.1.keep hb3 (Nat.le_refl _)
  have MK := Lib.hid (markLog_any (.slice A1 xs.length c1) (.slice none 0 0) 1 xs [] _ w3 ho3 (OwnQ.nil _ _ _) (fun x _ y e => by cases e) (by omega) (by simp) (by omega) (by omega))
  have H3 := Lib.hid h3
  clear b1 b2 hb3 h3 ho3 KV
  go_wp2_with fail
  refine MK.out.mono ?_
  rintro e w4 ⟨rfl, ho4, _, hc4⟩
  have h4 := H3.out.trans (hc4.weak (S' := fun i => (Value.slice A1 xs.length c1).ownBlock = some i) (fun i h => h.elim id (fun e => by cases e)))
  obtain ⟨_, _, _, _, d1, d2⟩ := KEEP.out w4 h4
  rw [show ([] : List (Int × Int)).length = 0 from rfl]
  have e0 : (1 : Int) + (xs.length : Int) + 2 * ((0 : Nat) : Int) = 1 + (xs.length : Int) := by omega
  rw [e0]
  have HE := fun (wr : World) (h : Below w4.heap.size w4 wr) => heldLog_any A1 none xs.length c1 0 0 1 wr (ho4.rd.to h) (RdQ.nil _ _ _) (by omega) (by omega) (by omega) (by omega)
  rw [e0] at HE
  have HE := Lib.hid HE
  have t1 : ¬ (1 : Int) + (xs.length : Int) < 0 := by omega
  have t2 : ((1 : Int) + (xs.length : Int) != 1 + (xs.length : Int)) = false := by simp
  have H4 := Lib.hid h4
  clear ho4 hc4 h4 MK a1 a2 e0
  go_wp2_with fail
  refine (HE.out _ (Below.refl _ _)).mono ?_
  rintro e w5 ⟨rfl, hb5⟩
  have h5 := H4.out.trans (Chg.of_below hb5)
  have H5 := Lib.hid (And.intro h5 hb5)
  clear h5 hb5 d1 d2
  go_wp2_with fail
  refine (I.out w5).mono ?_
  rintro e w6 ⟨v6, rfl, ho6, hb6⟩
  obtain ⟨A6, c6, rfl, hr6⟩ := ho6.form
  obtain ⟨V6, hV6⟩ : ∃ V6, V6 = w6.alloc (.cells #[.slice A6 xs.length c6, .slice none 0 0] 64) := ⟨_, rfl⟩
  have hbV6 : Below w6.heap.size w6 V6 := by rw [hV6]; exact log_box w6 _ _
  have hb56 : Below w5.heap.size w5 V6 := Below.on hb6 hbV6
  have h6 := H5.out.1.trans (Chg.of_below hb56)
  obtain ⟨_, kr, kq, ⟨g1, g2⟩, _⟩ := KEEP.out V6 h6
  rw [hV6] at g1 g2
  have EQ := Lib.hid (eqLog_any A6 none A0 A20 xs.length c6 0 0 xs.length c0 0 c20 xs xs [] [] V6 (hr6.to hbV6) (RdQ.nil _ _ _) kr kq (by omega) (by omega) (by omega) (by omega))
  have H6 := Lib.hid (And.intro h6 (Below.on H5.out.2 hb56))
  have HV6 := Lib.hid hV6
  clear ho6 hb6 hr6 hbV6 hb56 h6 kr kq hV6
  go_wp2_with fail
  rw [← HV6.out]
  refine EQ.out.mono ?_
  rintro e w7 ⟨rfl, hb7⟩
  have h7 := H6.out.1.trans (Chg.of_below hb7)
  obtain ⟨_, _, _, _, d1, d2⟩ := KEEP.out w7 h7
  have H7 := Lib.hid (And.intro h7 (Below.on H6.out.2 hb7))
  clear hb7 h7 EQ g1 g2
  go_wp2_with fail
  refine (HE.out _ H7.out.2).mono ?_
  rintro e w8 ⟨rfl, hb8⟩
  have h8 := (KEEP.out w8 (H7.out.1.trans (Chg.of_below hb8))).1
  clear hb8 d1 d2
  go_wp2_with fail
  go_ret
  exact ⟨rfl, h8⟩
end Go.Proofs.Ytfdkkcigmjonfaa
