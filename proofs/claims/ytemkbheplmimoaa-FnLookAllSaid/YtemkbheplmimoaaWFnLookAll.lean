/- The walk of the law on looking from several items: for every two rows of bytes the law returns true and nothing that was there has turned. -/
import Derived.Test.YtemkbheplmimoaaLookFrom
import Derived.Test.YtemkbheplmimoaaSpecLook
import Derived.Test.YtemkbheplmimoaaLookP
import Derived.Test.YtemkbheplmimoaaDraw9
import Derived.Test.YtemkbheplmimoaaKit
import Derived.Test.YtemkbheplmimoaaSkip
namespace Go.Proofs.Ytemkbheplmimoaa
open Go.RowKit

theorem nats_more {is : List Int} {k : Nat} (hk : k < is.length) : nats (is.take (k + 1)) = nats (is.take k) ++ [(is[k]?.getD 0).toNat] := by
  unfold nats
  rw [List.take_succ_eq_append_getElem hk, List.map_append, List.getElem?_eq_getElem hk]
  rfl
set_option maxRecDepth 100000 in
set_option maxHeartbeats 8000000 in
theorem fnLookAll (A0 : Option Addr) (n0 c0 : Nat) (z0 : List Int) (A1 : Option Addr) (n1 c1 : Nat) (z1 : List Int) (w : World) (h0 : Row .u8 w A0 n0 c0 z0) (h1 : Row .u8 w A1 n1 c1 z1) :
    Calls Try.prog 13 #[.slice A0 n0 c0, .slice A1 n1 c1] w fun e w' => e = .returned (.bool true) ∧ Below w.heap.size w w' := by
  by_cases hl0 : 1048576 < n0
  · clear h0 h1
    go_enter Try.func13, Try.ntmps13
    go_wp2
    go_ret
    exact ⟨rfl, Below.refl _ _⟩
  by_cases hl1 : 1048576 < n1
  · clear h0 h1
    go_enter Try.func13, Try.ntmps13
    go_wp2
    go_ret
    exact ⟨rfl, Below.refl _ _⟩
  obtain ⟨b0, hc0⟩ := h0.bt
  obtain ⟨b1, hc1⟩ := h1.bt
  have D0 := Lib.hid (drawLookAll_any A0 n0 c0 w.heap.size z0 w b0 (Nat.le_refl _) hc0)
  have D1 := Lib.hid (fun (w1 : World) (hb : Below w.heap.size w w1) => drawTotalUp_any A1 n1 c1 w.heap.size z1 w1 (b1.below hb (Nat.le_refl _)) hb.size hc1)
  clear h0 h1 b0 b1 hc0 hc1
  go_enter Try.func13, Try.ntmps13
  go_wp2_with fail
  refine D0.out.mono ?_
  rintro e w1 ⟨v, zs, l, vi, is, rfl, ho, hl, hlk, hoi, hil, hb1⟩
  obtain ⟨A, c, rfl, hr⟩ := ho.form
  obtain ⟨Ai, ci, rfl, hri⟩ := hoi.form
  obtain ⟨n, hn⟩ : ∃ n, n = zs.length := ⟨_, rfl⟩
  obtain ⟨m, hm⟩ : ∃ m, m = is.length := ⟨_, rfl⟩
  rw [← hn] at hr hl
  rw [← hm] at hri hil
  rw [← hn, ← hm]
  clear ho hoi D0
  have IA := fun (w2 : World) (hb2 : Below w1.heap.size w1 w2) => rd2_of (implLookAll_any A n c w1.heap.size zs l Ai m ci w1.heap.size is w2 (hr.below hb2 (Nat.le_refl _)) hb2.size (by omega) (hri.below hb2 (Nat.le_refl _)) hb2.size (by omega))
  have SA := fun (w2 : World) (hb2 : Below w1.heap.size w1 w2) => rd2_of (specLookAll_any A n c w1.heap.size zs l Ai m ci w1.heap.size is w2 (hr.below hb2 (Nat.le_refl _)) hb2.size (by omega) (hri.below hb2 (Nat.le_refl _)) hb2.size (by omega))
  have xl16 := looked_len16 zs l is
  obtain ⟨xs, hxs⟩ : ∃ xs, xs = lookedN zs l is := ⟨_, rfl⟩
  obtain ⟨nx, hnx⟩ : ∃ nx, nx = xs.length := ⟨_, rfl⟩
  rw [← hxs] at IA SA xl16
  rw [← hnx] at IA SA xl16
  obtain ⟨ok, hok⟩ : ∃ ok, ok = lookB zs l is := ⟨_, rfl⟩
  rw [← hok] at IA SA
  have IA := Lib.hid IA
  have SA := Lib.hid SA
  have hoo : (ok != ok) = false := by cases ok <;> rfl
  have hoo2 : (ok == ok) = true := by cases ok <;> rfl
  have HR := Lib.hid (And.intro hr hri)
  have HN := Lib.hid hn
  have HM := Lib.hid hm
  have HXS := Lib.hid hxs
  have HNX := Lib.hid hnx
  have HOK := Lib.hid hok
  clear hr hri hn hm hxs hnx hok
  go_wp2_with fail
  refine (IA.out _ (by repeat (first | assumption | exact Below.refl _ _ | refine Below.on ?_ (by assumption)))).mono ?_
  rintro e w2 ⟨A2, c2, rfl, hr2, hb2⟩
  go_wp2_with fail
  refine (SA.out _ (by repeat (first | assumption | exact Below.refl _ _ | refine Below.on ?_ (by assumption)))).mono ?_
  rintro e w3 ⟨A3, c3, rfl, hr3, hb3⟩
  have hr2 := hr2.to hb3
  have hb03 : Below w.heap.size w w3 := (by repeat (first | assumption | exact Below.refl _ _ | refine Below.on ?_ (by assumption)))
  go_wp2_with fail
  refine (D1.out _ hb03).mono ?_
  rintro e w4 ⟨vy, ys, ly, vj, js, rfl, hoy, hly, hlky, hoj, hlj, hb4⟩
  obtain ⟨Ay, cy, rfl, hry⟩ := hoy.form
  obtain ⟨Aj, cj, rfl, hrj⟩ := hoj.form
  have hr2 := hr2.to hb4
  have hr3 := hr3.to hb4
  have IT := Lib.hid (fun (w5 : World) (hb5 : Below w4.heap.size w4 w5) => implTotalUp_any Ay ys.length cy w4.heap.size ys ly Aj js.length cj w4.heap.size js w5 (hry.below hb5 (Nat.le_refl _)) hb5.size (by omega) (hrj.below hb5 (Nat.le_refl _)) hb5.size (by omega))
  have ST := Lib.hid (fun (w5 : World) (hb5 : Below w4.heap.size w4 w5) => specTotalUp_any Ay ys.length cy w4.heap.size ys ly Aj js.length cj w4.heap.size js w5 (hry.below hb5 (Nat.le_refl _)) hb5.size (by omega) (hrj.below hb5 (Nat.le_refl _)) hb5.size (by omega))
  have htt : (followedN ys ly js != followedN ys ly js) = false := by simp
  have htt2 : (followedN ys ly js == followedN ys ly js) = true := by simp
  clear hoy hoj hry hrj
  go_wp2_with fail
  refine (IT.out _ (Below.refl _ _)).mono ?_
  rintro e w5 ⟨rfl, hb5⟩
  have hr2 := hr2.to hb5
  have hr3 := hr3.to hb5
  go_wp2_with fail
  refine (q_of (lrSame_any A2 A3 _ c2 c3 _ _ xs _ hr2 hr3 (by omega))).mono ?_
  rintro e w6 ⟨rfl, hb6⟩
  have hr2 := hr2.to hb6
  have hr3 := hr3.to hb6
  have hb46 : Below w4.heap.size w4 w6 := hb5.trans (hb6.mono hb5.size)
  go_wp2_with fail
  refine (ST.out _ hb46).mono ?_
  rintro e w7 ⟨rfl, hb7⟩
  have hr2 := hr2.to hb7
  have hr3 := hr3.to hb7
  cases ok with
  | false =>
    have e0 : nx = 0 := by rw [HNX.out, HXS.out, lookedN_no HOK.out.symm]; rfl
    subst e0
    clear hb46
    go_wp2_with fail
    refine (q_of (lrSame_any A2 A3 _ c2 c3 _ _ xs _ hr2 hr3 (by omega))).mono ?_
    rintro e w8 ⟨rfl, hb8⟩
    have hb48 : Below w4.heap.size w4 w8 := (by repeat (first | assumption | exact Below.refl _ _ | refine Below.on ?_ (by assumption)))
    go_wp2_with fail
    refine (ST.out _ hb48).mono ?_
    rintro e w9 ⟨rfl, hb9⟩
    clear hb48
    go_wp2_with fail
    go_ret
    exact ⟨rfl, (by repeat (first | assumption | exact Below.refl _ _ | refine Below.on ?_ (by assumption)))⟩
  | true =>
    have hb17 : Below w1.heap.size w1 w7 := Below.on (Below.on (Below.on hb2 hb3) hb4) (Below.on (Below.on hb5 hb6) hb7)
    have hb07 : Below w.heap.size w w7 := hb1.trans (hb17.mono hb1.size)
    have hLB := HOK.out.symm
    have P := lookB_parts hLB
    have hnn : nx = n := by rw [HNX.out, HXS.out, looked_len hLB]; exact HN.out.symm
    subst hnn
    have hmm : m ≤ 24 := by have := P.2.1; have := HM.out; omega
    have hr7 : Rd w7 w7.heap.size A nx zs := (HR.out.1.below hb17 (Nat.le_refl _)).more hb17.size
    have hri7 : Rd w7 w7.heap.size Ai m is := (HR.out.2.below hb17 (Nat.le_refl _)).more hb17.size
    have hits : ∀ q, ∀ i ∈ nats (is.take q), i < zs.length := fun q i hi => by
      unfold nats at hi
      obtain ⟨z, hz, rfl⟩ := List.mem_map.1 hi
      have := P.2.2.1 z (List.mem_of_mem_take hz)
      omega
    have HT := Lib.hid hits
    have HP := Lib.hid P
    have H0 : Hid (Rd w7 w7.heap.size A nx (manyL (lookAt l) zs (nats (is.take 0)))) := hr7
    have HR7 := Lib.hid (And.intro hr2 (And.intro hr7 hri7))
    have HB07 := Lib.hid (And.intro hb07 hb17)
    have HLB := Lib.hid hLB
    have hl17 : nx ≤ 16 := xl16
    clear hb46 hb03 hb1 hb2 hb3 hb4 hb5 hb6 hb7 hb17 hb07 hLB P hits hr2 hr3 hr7 hri7 HR IT ST IA SA D1 htt htt2
    go_wp2_with fail
    go_loopw [16, 17, 103] (fun v s t wr => ∃ k : Nat, k ≤ m ∧ t = .int .i64 (k : Int) ∧ s = .int .i64 ((manyS (lookAt l) zs (nats (is.take k)) : Nat) : Int) ∧ (∃ A c, v = .slice A nx c ∧ Hid (Rd wr wr.heap.size A nx (manyL (lookAt l) zs (nats (is.take k))))) ∧ Hid (Below w7.heap.size w7 wr)) (fun _ _ t _ => m - (intOf t).toNat)
    case atStart => exact ⟨0, Nat.zero_le _, rfl, rfl, ⟨_, _, rfl, H0⟩, Below.refl _ _⟩
    case round =>
      obtain ⟨k, hk, rfl, rfl, ⟨A5, c5, rfl, HU⟩, HBR⟩ := hrel
      clear H0
      have hf := HP.out.1
      have S := many_shr (look_kind l) hf (HT.out k)
      by_cases hlt : k < m
      · obtain ⟨b, off, hAi, _, hc1⟩ := (HR7.out.2.2.below HBR.out (Nat.le_refl _)).2 (by omega)
        subst hAi
        have g1 := hc1 k hlt
        have hki : k < is.length := by have := HM.out; omega
        have hz := HP.out.2.2.1 (is[k]?.getD 0) (by rw [List.getElem?_eq_getElem hki, Option.getD_some]; exact List.getElem_mem hki)
        have hnt := nats_more hki
        obtain ⟨j, hj⟩ := Int.eq_ofNat_of_zero_le hz.1
        rw [hj] at g1 hz hnt
        rw [Int.toNat_natCast] at hnt
        have hju : j < (manyL (lookAt l) zs (nats (is.take k))).length := by rw [S.len]; omega
        have hitU : itemB (manyL (lookAt l) zs (nats (is.take k))) (j : Int) = true := item_of S.fv (by omega) (by omega)
        have Y := look_yes hitU HP.out.2.2.2
        have IS := fun (w8 : World) (hb8 : Below wr.heap.size wr w8) => implStepsUp_any A5 nx c5 wr.heap.size (manyL (lookAt l) zs (nats (is.take k))) l (j : Int) w8 (HU.out.below hb8 (Nat.le_refl _)) hb8.size (by omega)
        have IL := fun (w8 : World) (hb8 : Below wr.heap.size wr w8) => rd2_of (implLookUp_any A5 nx c5 wr.heap.size (manyL (lookAt l) zs (nats (is.take k))) l (j : Int) w8 (HU.out.below hb8 (Nat.le_refl _)) hb8.size (by omega))
        have hlU : (lookT (lookAt l) (manyL (lookAt l) zs (nats (is.take k))) j).length = nx := by
          rw [(lookT_shr (look_kind l) S.fv hju).len, S.len]
          exact HN.out.symm
        rw [Y.2.2] at IS
        rw [Y.1, Y.2.1, hlU] at IL
        have HS1 : Hid (((manyS (lookAt l) zs (nats (is.take k)) : Nat) : Int) + ((stepsT (lookAt l) (manyL (lookAt l) zs (nats (is.take k))) j : Nat) : Int) = ((manyS (lookAt l) zs (nats (is.take (k + 1))) : Nat) : Int)) := by
          show _ = _
          rw [hnt, manyS_snoc]
          omega
        have HL1 : Hid (lookT (lookAt l) (manyL (lookAt l) zs (nats (is.take k))) j = manyL (lookAt l) zs (nats (is.take (k + 1)))) := by
          show _ = _
          rw [hnt, manyL_snoc]
        rw [HL1.out] at IL
        have hle := manyS_le (look_kind l) hf (HT.out k)
        have hle2 := steps_le16 (look_kind l) S.fv hju
        have hlen : (nats (is.take k)).length ≤ 24 := by simp [nats]; omega
        obtain ⟨F0, hF0⟩ : ∃ F0, F0 = manyS (lookAt l) zs (nats (is.take k)) := ⟨_, rfl⟩
        obtain ⟨S0, hS0⟩ : ∃ S0, S0 = stepsT (lookAt l) (manyL (lookAt l) zs (nats (is.take k))) j := ⟨_, rfl⟩
        rw [← hF0] at hle HS1 ⊢
        rw [← hS0] at hle2 HS1 IS
        have hF1 : F0 ≤ 400 := by omega
        have IS := Lib.hid IS
        have IL := Lib.hid IL
        clear hc1 hj hz hnt hju hitU Y S hlU hle hlen hF0 hS0 hf HL1 HU
        go_wp2_with fail
        refine (IS.out _ (Below.refl _ _)).mono ?_
        rintro e w8 ⟨rfl, hb8⟩
        go_wp2_with fail
        refine (IL.out _ hb8).mono ?_
        rintro e w9 ⟨A9, c9, rfl, hr9, hb9⟩
        have HU9 := Lib.hid hr9
        have HB9 : Hid (Below w7.heap.size w7 w9) := HBR.out.trans (Below.mono (hb8.trans (hb9.mono hb8.size)) HBR.out.size)
        clear hr9 hb8 hb9
        go_wp2
        go_roundw
        case rel => exact ⟨k + 1, by omega, by go_num, by rw [← HS1.out], ⟨_, _, rfl, HU9⟩, HB9⟩
        case measure => simp [intOf]; omega
      · obtain rfl : k = m := by omega
        have htk : is.take k = is := by rw [HM.out, List.take_length]
        rw [htk] at HU S
        rw [htk]
        have hU := HU.out
        rw [← lookedN_yes HLB.out, ← HXS.out] at hU
        have hr2 := (HR7.out.1.below HBR.out (Nat.le_refl _)).more HBR.out.size
        have hb1r : Below w1.heap.size w1 wr := HB07.out.2.trans (HBR.out.mono HB07.out.2.size)
        have hrr : Rd wr wr.heap.size A nx zs := (HR7.out.2.1.below HBR.out (Nat.le_refl _)).more HBR.out.size
        have hrir : Rd wr wr.heap.size Ai k is := (HR7.out.2.2.below HBR.out (Nat.le_refl _)).more HBR.out.size
        have hb0 : Below w.heap.size w wr := HB07.out.1.trans (HBR.out.mono HB07.out.1.size)
        have hsame := shr_same S
        rw [← lookedN_yes HLB.out, ← HXS.out] at hsame
        have hB0 : lookB zs 0 is = true := lookB_of HP.out.1 HP.out.2.1 HP.out.2.2.1 (by omega) (by omega)
        have hle := (bare_many (its := nats is) hf (by have := HT.out k; rwa [htk] at this)).2 l zs (Shr.refl hf)
        have TU := fun (ll : Int) (w8 : World) (hb8 : Below wr.heap.size wr w8) => implTotalUp_any A nx c wr.heap.size zs ll Ai k ci wr.heap.size is w8 (hrr.below hb8 (Nat.le_refl _)) hb8.size (by omega) (hrir.below hb8 (Nat.le_refl _)) hb8.size (by omega)
        have TL := TU l
        have T0 := TU 0
        rw [followedN_yes HLB.out] at TL
        rw [followedN_yes hB0, lookAt_0] at T0
        have SM := fun (A' : Option Addr) (c' B' : Nat) (w2 : World) (hb2 : Below wr.heap.size wr w2) (h : Rd w2 B' A' nx xs) (hB : B' ≤ w2.heap.size) => implSame_any A' nx c' B' xs A nx c wr.heap.size zs w2 h hB (by omega) (hrr.below hb2 (Nat.le_refl _)) hb2.size (by omega)
        rw [hsame] at SM
        obtain ⟨F0, hF0⟩ : ∃ F0, F0 = manyS (lookAt l) zs (nats is) := ⟨_, rfl⟩
        obtain ⟨G0, hG0⟩ : ∃ G0, G0 = manyS bareAt zs (nats is) := ⟨_, rfl⟩
        rw [← hF0, ← hG0] at hle
        rw [← hF0] at TL ⊢
        rw [← hG0] at T0
        have TL := Lib.hid TL
        have T0 := Lib.hid T0
        have SM := Lib.hid SM
        have hg0 : ¬ ((G0 : Int) < 0) := by omega
        have hg1 : (F0 : Int) ≤ (G0 : Int) := by omega
        have hg2 : max (G0 : Int) 0 = (G0 : Int) := by omega
        clear hf S htk hrr hrir hsame hB0 hle TU hF0 hG0 HU HR7 HB07 HBR hb1r HP HT
        go_wp2_with fail
        refine (q_of (lrSame_any A5 A2 _ c5 c2 _ _ xs _ hU hr2 (by omega))).mono ?_
        rintro e w8 ⟨rfl, hb8⟩
        have hr2 := hr2.to hb8
        go_wp2_with fail
        refine (TL.out _ (by repeat (first | assumption | exact Below.refl _ _ | refine Below.on ?_ (by assumption)))).mono ?_
        rintro e w9 ⟨rfl, hb9⟩
        have hr2 := hr2.to hb9
        have hbr9 : Below wr.heap.size wr w9 := (by repeat (first | assumption | exact Below.refl _ _ | refine Below.on ?_ (by assumption)))
        go_wp2_with fail
        refine (SM.out A2 c2 _ _ hbr9 hr2 (Nat.le_refl _)).mono ?_
        rintro e w10 ⟨rfl, hb10⟩
        clear hbr9
        go_wp2_with fail
        refine (T0.out _ (by repeat (first | assumption | exact Below.refl _ _ | refine Below.on ?_ (by assumption)))).mono ?_
        rintro e w11 ⟨rfl, hb11⟩
        go_wp2_with fail
        go_ret
        exact ⟨rfl, (by repeat (first | assumption | exact Below.refl _ _ | refine Below.on ?_ (by assumption)))⟩
end Go.Proofs.Ytemkbheplmimoaa
