/- The walk of the law on how often one has to look: for every row of bytes the law returns true and nothing that was there has turned. -/
import Derived.Test.YtemkbheplmimoaaLookFrom
import Derived.Test.YtemkbheplmimoaaSpecLook
import Derived.Test.YtemkbheplmimoaaLookP
import Derived.Test.YtemkbheplmimoaaDraw7
import Derived.Test.YtemkbheplmimoaaKit
namespace Go.Proofs.Ytemkbheplmimoaa
open Go.RowKit

theorem wayOf_len1 {u : List Int} {j n : Nat} (h : itemB u (j : Int) = true) (hd : dist u j = n) : (ints (wayN u (j : Int))).length = n + 1 := by
  rw [ints_len, wayN_yes h]
  have := wayOf_pos u j
  unfold dist wayOf at hd
  unfold wayOf at this
  omega
set_option maxRecDepth 100000 in
set_option maxHeartbeats 8000000 in
theorem fnLooksTo (A0 : Option Addr) (n0 c0 : Nat) (z0 : List Int) (w : World) (h0 : Row .u8 w A0 n0 c0 z0) :
    Calls Try.prog 15 #[.slice A0 n0 c0] w fun e w' => e = .returned (.bool true) ∧ Below w.heap.size w w' := by
  by_cases hl0 : 1048576 < n0
  · clear h0
    go_enter Try.func15, Try.ntmps15
    go_wp2
    go_ret
    exact ⟨rfl, Below.refl _ _⟩
  obtain ⟨b0, hc0⟩ := h0.bt
  have D0 := Lib.hid (drawLooksTo_any A0 n0 c0 w.heap.size z0 w b0 (Nat.le_refl _) hc0)
  clear h0 b0 hc0
  go_enter Try.func15, Try.ntmps15
  go_wp2_with fail
  refine D0.out.mono ?_
  rintro e w1 ⟨v, zs, l, x, rfl, ho, hl, hlk, hx, hb1⟩
  obtain ⟨A, c, rfl, hr⟩ := ho.form
  obtain ⟨n, hn⟩ : ∃ n, n = zs.length := ⟨_, rfl⟩
  rw [← hn] at hr hl
  rw [← hn]
  clear ho D0
  have RI := fun (w2 : World) (hb2 : Below w1.heap.size w1 w2) => implLooksToFlat_any A n c w1.heap.size zs l x w2 (hr.below hb2 (Nat.le_refl _)) hb2.size (by omega)
  have RS := fun (w2 : World) (hb2 : Below w1.heap.size w1 w2) => specLooksToFlat_any A n c w1.heap.size zs l x w2 (hr.below hb2 (Nat.le_refl _)) hb2.size (by omega)
  have IW := fun (w2 : World) (hb2 : Below w1.heap.size w1 w2) => rd2_of (implWay_any A n c w1.heap.size zs x w2 (hr.below hb2 (Nat.le_refl _)) hb2.size (by omega))
  cases hv : itemB zs x with
  | false =>
    rw [looksN_no (by rw [hv]; rfl)] at RI RS
    rw [hv, wayN_no hv] at IW
    have RI := Lib.hid RI
    have RS := Lib.hid RS
    have IW := Lib.hid IW
    clear hv hn hr
    go_wp2_with fail
    refine (RI.out _ (by repeat (first | assumption | exact Below.refl _ _ | refine Below.on ?_ (by assumption)))).mono ?_
    rintro e w2 ⟨rfl, hb2⟩
    go_wp2_with fail
    refine (RS.out _ (by repeat (first | assumption | exact Below.refl _ _ | refine Below.on ?_ (by assumption)))).mono ?_
    rintro e w3 ⟨rfl, hb3⟩
    go_wp2_with fail
    refine (IW.out _ (by repeat (first | assumption | exact Below.refl _ _ | refine Below.on ?_ (by assumption)))).mono ?_
    rintro e w4 ⟨A2, c2, rfl, _, hb4⟩
    go_wp2_with fail
    go_ret
    exact ⟨rfl, (by repeat (first | assumption | exact Below.refl _ _ | refine Below.on ?_ (by assumption)))⟩
  | true =>
    obtain ⟨j, rfl⟩ := Int.eq_ofNat_of_zero_le (item_lt hv).1
    have hf := item_fv hv
    have hj : j < zs.length := by have := (item_lt hv).2; omega
    obtain ⟨d, hd⟩ : ∃ d, d = dist zs j := ⟨_, rfl⟩
    rw [hv, wayOf_len1 hv hd.symm] at IW
    have hd15 := dist_le16 hf hj
    rw [← hd] at hd15
    have w1' : IntKind.i64.wrap (((d + 1 : Nat) : Int) - 1) = (d : Int) := by rw [show ((d + 1 : Nat) : Int) - 1 = (d : Int) by omega]; exact IntWalk.i64_in _ (by omega)
    have w2' : IntKind.i64.wrap ((d : Int) + 1 - 1) = (d : Int) := by rw [show (d : Int) + 1 - 1 = (d : Int) by omega]; exact IntWalk.i64_in _ (by omega)
    have IW := Lib.hid IW
    obtain ⟨r, hrr⟩ : ∃ r, r = looksN zs l (j : Int) := ⟨_, rfl⟩
    rw [← hrr] at RI RS
    have RI := Lib.hid RI
    have RS := Lib.hid RS
    have hre : (r != r) = false := by simp
    by_cases hl03 : 0 ≤ l ∧ l ≤ 3
    · by_cases hd1 : d ≤ 1
      · have e0 : r = 0 := hrr.trans (looks_none hv hl03 (by rw [← hd]; exact hd1))
        subst e0
        have hdi : (d : Int) ≤ 1 := by omega
        clear hrr hd hf hj hv hn hr
        obtain ⟨hla, hlb⟩ := hl03
        go_wp2_with fail
        refine (RI.out _ (by repeat (first | assumption | exact Below.refl _ _ | refine Below.on ?_ (by assumption)))).mono ?_
        rintro e w2 ⟨rfl, hb2⟩
        go_wp2_with fail
        refine (RS.out _ (by repeat (first | assumption | exact Below.refl _ _ | refine Below.on ?_ (by assumption)))).mono ?_
        rintro e w3 ⟨rfl, hb3⟩
        go_wp2_with fail
        refine (IW.out _ (by repeat (first | assumption | exact Below.refl _ _ | refine Below.on ?_ (by assumption)))).mono ?_
        rintro e w4 ⟨A2, c2, rfl, _, hb4⟩
        go_wp2_with fail
        go_ret
        exact ⟨rfl, (by repeat (first | assumption | exact Below.refl _ _ | refine Below.on ?_ (by assumption)))⟩
      · have hdi : ¬ ((d : Int) ≤ 1) := by omega
        have HC : Hid (l = 1 → r = 1) := fun e => by rw [hrr, e]; exact looks_cut hv (by rw [← hd]; exact hd1)
        have HB : Hid (l = 0 → r = -1) := fun e => by rw [hrr, e]; exact looks_bare hv (by rw [← hd]; exact hd1)
        have HH : Hid (∀ k, (∀ q, q < k → ¬ hseq d q ≤ 1) → hseq d k ≤ 1 → (l = 2 → r = (k : Int)) ∧ (l = 3 → r = (k : Int))) := fun k h1 h2 => by
          have := looks_halve (k := k) hv (by rw [← hd]; exact h1) (by rw [← hd]; exact h2)
          exact ⟨fun e => by rw [hrr, e]; exact this.1, fun e => by rw [hrr, e]; exact this.2⟩
        clear hrr hd hf hj hv hn hr hd1
        obtain ⟨hla, hlb⟩ := hl03
        go_wp2_with fail
        refine (RI.out _ (by repeat (first | assumption | exact Below.refl _ _ | refine Below.on ?_ (by assumption)))).mono ?_
        rintro e w2 ⟨rfl, hb2⟩
        go_wp2_with fail
        refine (RS.out _ (by repeat (first | assumption | exact Below.refl _ _ | refine Below.on ?_ (by assumption)))).mono ?_
        rintro e w3 ⟨rfl, hb3⟩
        go_wp2_with fail
        refine (IW.out _ (by repeat (first | assumption | exact Below.refl _ _ | refine Below.on ?_ (by assumption)))).mono ?_
        rintro e w4 ⟨A2, c2, rfl, _, hb4⟩
        have hb14 : Below w.heap.size w w4 := (by repeat (first | assumption | exact Below.refl _ _ | refine Below.on ?_ (by assumption)))
        clear hb1 hb2 hb3 hb4
        go_wp2
        go_loopw [10, 11] (fun s t wr => ∃ k : Nat, k ≤ 4 ∧ s = .int .i64 (k : Int) ∧ t = .int .i64 (hseq d k : Int) ∧ Hid (∀ q, q < k → ¬ hseq d q ≤ 1) ∧ w4 = wr) (fun s _ _ => 4 - (intOf s).toNat)
        case atStart => exact ⟨0, by omega, rfl, rfl, fun q hq => absurd hq (by omega), rfl⟩
        case round =>
          obtain ⟨k, hk, rfl, rfl, HP, rfl⟩ := hrel
          by_cases hm : hseq d k ≤ 1
          · have hmi : ¬ ((1 : Int) < (hseq d k : Int)) := by omega
            obtain ⟨e2, e3⟩ := HH.out k HP.out hm
            have E2 := Lib.hid e2
            have E3 := Lib.hid e3
            clear e2 e3 HH HP hm
            rcases (show l = 0 ∨ l = 1 ∨ l = 2 ∨ l = 3 by omega) with rfl | rfl | rfl | rfl
            · have e := HB.out rfl
              subst e
              clear HB HC E2 E3
              go_wp2
              go_ret
              exact ⟨rfl, hb14⟩
            · have e := HC.out rfl
              subst e
              clear HB HC E2 E3
              go_wp2
              go_ret
              exact ⟨rfl, hb14⟩
            · have e := E2.out rfl
              subst e
              clear HB HC E2 E3
              go_wp2
              go_ret
              exact ⟨ret_bool (by simp), hb14⟩
            · have e := E3.out rfl
              subst e
              clear HB HC E2 E3
              go_wp2
              go_ret
              exact ⟨ret_bool (by simp), hb14⟩
          · have hk4 : k < 4 := by
              rcases Nat.lt_or_ge k 4 with h | h
              · exact h
              · have : k = 4 := by omega
                subst this
                exact absurd (hseq_four (by omega)) hm
            have hle := hseq_le d k
            have hle3 := hseq_le d (k + 1)
            have hle4 : hseq d (k + 1) ≤ 16 := by omega
            have hm2 : (1 : Int) < (hseq d k : Int) := by omega
            have hs : Int.tdiv ((hseq d k : Int) + 1) 2 = (hseq d (k + 1) : Int) := by
              rw [Int.tdiv_eq_ediv_of_nonneg (by omega)]
              show _ = (((hseq d k + 1) / 2 : Nat) : Int)
              omega
            have HP2 : Hid (∀ q, q < k + 1 → ¬ hseq d q ≤ 1) := fun q hq => by
              by_cases e : q = k
              · rw [e]; exact hm
              · exact HP.out q (by omega)
            have hle16 : hseq d k ≤ 16 := by omega
            clear HP hm hle hle3
            obtain ⟨M, hM⟩ : ∃ M, M = hseq d k := ⟨_, rfl⟩
            obtain ⟨M2, hM2⟩ : ∃ M2, M2 = hseq d (k + 1) := ⟨_, rfl⟩
            rw [← hM, ← hM2] at hs
            rw [← hM2] at hle4
            rw [← hM] at hm2 hle16 ⊢
            have HM2 := Lib.hid hM2
            clear hM hM2
            go_wp2
            go_roundw
            case rel => exact ⟨k + 1, by omega, by go_num, by rw [← HM2.out], HP2, trivial⟩
            case measure => simp [intOf]; omega
    · have e0 : r = -1 := hrr.trans (looksN_no (by
        have : inLook l = false := by
          unfold inLook
          simp
          omega
        rw [this]
        simp))
      subst e0
      clear hrr hd hf hj hv hn hr
      rcases (show l = -1 ∨ l = 4 by omega) with rfl | rfl
      all_goals
        go_wp2_with fail
        refine (RI.out _ (by repeat (first | assumption | exact Below.refl _ _ | refine Below.on ?_ (by assumption)))).mono ?_
        rintro e w2 ⟨rfl, hb2⟩
        go_wp2_with fail
        refine (RS.out _ (by repeat (first | assumption | exact Below.refl _ _ | refine Below.on ?_ (by assumption)))).mono ?_
        rintro e w3 ⟨rfl, hb3⟩
        go_wp2_with fail
        refine (IW.out _ (by repeat (first | assumption | exact Below.refl _ _ | refine Below.on ?_ (by assumption)))).mono ?_
        rintro e w4 ⟨A2, c2, rfl, _, hb4⟩
        go_wp2_with fail
        go_ret
        exact ⟨rfl, (by repeat (first | assumption | exact Below.refl _ _ | refine Below.on ?_ (by assumption)))⟩
end Go.Proofs.Ytemkbheplmimoaa
