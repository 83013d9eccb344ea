/- The walk of the law on links that are followed: for every row of bytes the law returns true and nothing that was there has turned. -/
import Derived.Test.YtemkbheplmimoaaImplLook
import Derived.Test.YtemkbheplmimoaaSpecLook3
import Derived.Test.YtemkbheplmimoaaLookP
import Derived.Test.YtemkbheplmimoaaDraw8
import Derived.Test.YtemkbheplmimoaaKit
namespace Go.Proofs.Ytemkbheplmimoaa
open Go.RowKit

theorem wayOf_len {u : List Int} {j n : Nat} (h : itemB u (j : Int) = true) (hd : dist u j = n) : (ints (wayN u (j : Int))).length = n + 1 := by
  rw [ints_len, wayN_yes h]
  have := wayOf_pos u j
  unfold dist wayOf at hd
  unfold wayOf at this
  omega
set_option maxRecDepth 100000 in
set_option maxHeartbeats 8000000 in
theorem fnSteps (A0 : Option Addr) (n0 c0 : Nat) (z0 : List Int) (w : World) (h0 : Row .u8 w A0 n0 c0 z0) :
    Calls Try.prog 12 #[.slice A0 n0 c0] w fun e w' => e = .returned (.bool true) ∧ Below w.heap.size w w' := by
  by_cases hl0 : 1048576 < n0
  · clear h0
    go_enter Try.func12, Try.ntmps12
    go_wp2
    go_ret
    exact ⟨rfl, Below.refl _ _⟩
  obtain ⟨b0, hc0⟩ := h0.bt
  have D0 := Lib.hid (drawStepsUp_any A0 n0 c0 w.heap.size z0 w b0 (Nat.le_refl _) hc0)
  clear h0 b0 hc0
  go_enter Try.func12, Try.ntmps12
  go_wp2_with fail
  refine D0.out.mono ?_
  rintro e w1 ⟨v, zs, l, x, rfl, ho, hl, hlk, hx, hb1⟩
  obtain ⟨A, c, rfl, hr⟩ := ho.form
  obtain ⟨n, hn⟩ : ∃ n, n = zs.length := ⟨_, rfl⟩
  rw [← hn] at hr hl
  rw [← hn]
  clear ho D0
  have RI := fun (w2 : World) (hb2 : Below w1.heap.size w1 w2) => implStepsUp_any A n c w1.heap.size zs l x w2 (hr.below hb2 (Nat.le_refl _)) hb2.size (by omega)
  have RS := fun (w2 : World) (hb2 : Below w1.heap.size w1 w2) => specStepsUp_any A n c w1.heap.size zs l x w2 (hr.below hb2 (Nat.le_refl _)) hb2.size (by omega)
  cases hv : lookB zs l [x] with
  | false =>
    rw [followedN_no hv] at RI RS
    have RI := Lib.hid RI
    have RS := Lib.hid RS
    clear hv hn hr
    go_wp2_with fail
    refine (RI.out _ (by repeat (first | assumption | exact Below.refl _ _ | refine Below.on ?_ (by assumption)))).mono ?_
    rintro e w2 ⟨rfl, hb2⟩
    go_wp2_with fail
    refine (RS.out _ (by repeat (first | assumption | exact Below.refl _ _ | refine Below.on ?_ (by assumption)))).mono ?_
    rintro e w3 ⟨rfl, hb3⟩
    go_wp2_with fail
    refine (RS.out _ (by repeat (first | assumption | exact Below.refl _ _ | refine Below.on ?_ (by assumption)))).mono ?_
    rintro e w4 ⟨rfl, hb4⟩
    go_wp2_with fail
    go_ret
    exact ⟨rfl, (by repeat (first | assumption | exact Below.refl _ _ | refine Below.on ?_ (by assumption)))⟩
  | true =>
    obtain ⟨hit, hl03⟩ := look_item hv
    obtain ⟨j, rfl⟩ := Int.eq_ofNat_of_zero_le (item_lt hit).1
    have hf := item_fv hit
    have hj : j < zs.length := by have := (item_lt hit).2; omega
    have Y := look_yes hit hl03
    have S := lookT_shr (look_kind l) hf hj
    have hC : stepsT (lookAt l) zs j = (if l = 2 then (dist zs j + 1) / 2 else dist zs j) ∧ dist (lookT (lookAt l) zs j) j = (if l = 0 then dist zs j else if l = 1 then min (dist zs j) 1 else (dist zs j + 1) / 2) := by
      rcases (show l = 0 ∨ l = 1 ∨ l = 2 ∨ l = 3 by omega) with rfl | rfl | rfl | rfl
      · rw [if_neg (by omega), if_pos rfl]; exact bare_count hf hj
      · rw [if_neg (by omega), if_neg (by omega), if_pos rfl]; exact cut_count hf hj
      · rw [if_pos rfl, if_neg (by omega), if_neg (by omega)]; exact halve_count hf hj
      · rw [if_neg (by omega), if_neg (by omega), if_neg (by omega)]; exact split_count hf hj
    obtain ⟨d, hd⟩ : ∃ d, d = dist zs j := ⟨_, rfl⟩
    rw [← hd] at hC
    have LN := looked_len Y.1
    have IW := fun (w2 : World) (hb2 : Below w1.heap.size w1 w2) => rd2_of (implWay_any A n c w1.heap.size zs (j : Int) w2 (hr.below hb2 (Nat.le_refl _)) hb2.size (by omega))
    have IL := fun (w2 : World) (hb2 : Below w1.heap.size w1 w2) => rd2_of (implLookUp_any A n c w1.heap.size zs l (j : Int) w2 (hr.below hb2 (Nat.le_refl _)) hb2.size (by omega))
    have hx2 : itemB (lookedN zs l [(j : Int)]) (j : Int) = true := by rw [Y.2.1]; exact item_still S hit
    have IX := fun (A' : Option Addr) (c' B' : Nat) (w2 : World) (h : Rd w2 B' A' n (lookedN zs l [(j : Int)])) (hB : B' ≤ w2.heap.size) => rd2_of (implWay_any A' n c' B' (lookedN zs l [(j : Int)]) (j : Int) w2 h hB (by omega))
    rw [hit, wayOf_len hit hd.symm] at IW
    rw [Y.1, LN, ← hn] at IL
    obtain ⟨kk, hkk⟩ : ∃ kk, kk = dist (lookedN zs l [(j : Int)]) j := ⟨_, rfl⟩
    rw [hx2, wayOf_len hx2 hkk.symm] at IX
    have hK : kk = (if l = 0 then d else if l = 1 then min d 1 else (d + 1) / 2) := by rw [hkk, Y.2.1]; exact hC.2
    obtain ⟨st, hst⟩ : ∃ st, st = stepsT (lookAt l) zs j := ⟨_, rfl⟩
    have hS : st = (if l = 2 then (d + 1) / 2 else d) := by rw [hst]; exact hC.1
    obtain ⟨X, hX⟩ : ∃ X, X = lookedN zs l [(j : Int)] := ⟨_, rfl⟩
    rw [← hX] at IX IL
    rw [Y.2.2, ← hst] at RI RS
    have hd17 : d ≤ 17 := by
      have := (fv_parts hf).2.2.2 j hj
      have h16 := (fv_parts hf).2.1
      rw [hd]
      unfold dist wayOf
      omega
    have IW := Lib.hid IW
    have IL := Lib.hid IL
    have IX := Lib.hid IX
    have RI := Lib.hid RI
    have RS := Lib.hid RS
    clear Y S hC LN hx2 hf hj hit hd hv hn hr hkk hst hX
    have w1' : IntKind.i64.wrap (((d + 1 : Nat) : Int) - 1) = (d : Int) := by rw [show ((d + 1 : Nat) : Int) - 1 = (d : Int) by omega]; exact IntWalk.i64_in _ (by omega)
    have w2' : IntKind.i64.wrap ((d : Int) + 1 - 1) = (d : Int) := by rw [show (d : Int) + 1 - 1 = (d : Int) by omega]; exact IntWalk.i64_in _ (by omega)
    have w3' : IntKind.i64.wrap ((d : Int) + 1) = (d : Int) + 1 := IntWalk.i64_in _ (by omega)
    obtain ⟨k2, hk2⟩ : ∃ k2, k2 = (d + 1) / 2 := ⟨_, rfl⟩
    have hquo : Int.tdiv ((d : Int) + 1) 2 = (k2 : Int) := by
      rw [Int.tdiv_eq_ediv_of_nonneg (by omega)]
      omega
    have hk17 : k2 ≤ 17 := by omega
    rw [← hk2] at hK hS
    have HW : Hid (∀ k : Nat, k ≤ 17 → IntKind.i64.wrap (((k + 1 : Nat) : Int) - 1) = (k : Int) ∧ IntKind.i64.wrap ((k : Int) + 1 - 1) = (k : Int)) := fun k hk => ⟨by rw [show ((k + 1 : Nat) : Int) - 1 = (k : Int) by omega]; exact IntWalk.i64_in _ (by omega), by rw [show (k : Int) + 1 - 1 = (k : Int) by omega]; exact IntWalk.i64_in _ (by omega)⟩
    have hd0 : (0 : Int) ≤ (d : Int) := by omega
    have hk0 : (0 : Int) ≤ (k2 : Int) := by omega
    rcases (show (l = 0 ∧ kk = d ∧ st = d) ∨ (l = 1 ∧ d ≤ 1 ∧ kk = d ∧ st = d) ∨ (l = 1 ∧ ¬ d ≤ 1 ∧ kk = 1 ∧ st = d) ∨ (l = 2 ∧ kk = k2 ∧ st = k2) ∨ (l = 3 ∧ kk = k2 ∧ st = d) by
      rcases (show l = 0 ∨ l = 1 ∨ l = 2 ∨ l = 3 by omega) with rfl | rfl | rfl | rfl
      all_goals
        simp only [reduceIte, Int.reduceEq] at hK hS
        omega) with ⟨rfl, rfl, rfl⟩ | ⟨rfl, hd1, rfl, rfl⟩ | ⟨rfl, hd1, rfl, rfl⟩ | ⟨rfl, rfl, rfl⟩ | ⟨rfl, rfl, rfl⟩
    all_goals
      clear hk2 hK hS hl03 hlk
      obtain ⟨v1', v2'⟩ := HW.out _ (by assumption)
      go_wp2_with fail
      refine (RI.out _ (by repeat (first | assumption | exact Below.refl _ _ | refine Below.on ?_ (by assumption)))).mono ?_
      rintro e w2 ⟨rfl, hb2⟩
      go_wp2_with fail
      refine (RS.out _ (by repeat (first | assumption | exact Below.refl _ _ | refine Below.on ?_ (by assumption)))).mono ?_
      rintro e w3 ⟨rfl, hb3⟩
      go_wp2_with fail
      refine (IW.out _ (by repeat (first | assumption | exact Below.refl _ _ | refine Below.on ?_ (by assumption)))).mono ?_
      rintro e w4 ⟨A2, c2, rfl, _, hb4⟩
      go_wp2_with fail
      refine (IL.out _ (by repeat (first | assumption | exact Below.refl _ _ | refine Below.on ?_ (by assumption)))).mono ?_
      rintro e w5 ⟨A3, c3, rfl, hr3, hb5⟩
      go_wp2_with fail
      refine (IX.out A3 c3 _ _ hr3 (Nat.le_refl _)).mono ?_
      rintro e w6 ⟨A4, c4, rfl, _, hb6⟩
      go_wp2_with fail
    all_goals
      go_ret
      exact ⟨rfl, (by repeat (first | assumption | exact Below.refl _ _ | refine Below.on ?_ (by assumption)))⟩
end Go.Proofs.Ytemkbheplmimoaa
