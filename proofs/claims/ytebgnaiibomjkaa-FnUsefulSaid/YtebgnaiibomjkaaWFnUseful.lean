/- The walk of the law on useful pairs: for every row of bytes the law returns true and nothing that was there has turned. -/
import Derived.Test.YtebgnaiibomjkaaJoinAll
import Derived.Test.YtebgnaiibomjkaaSpecAll
import Derived.Test.YtebgnaiibomjkaaDraw11
import Derived.Test.YtebgnaiibomjkaaAnyOrder
import Derived.Test.YtebgnaiibomjkaaLr
namespace Go.Proofs.Ytebgnaiibomjkaa
open Go.RowKit

/-- The useful ones among the first pairs. -/
def fewTo (u : List Int) (r : Int) (qs : List (Int × Int)) (k : Nat) : List (Int × Int) := ((List.range k).filter (useB u r (natP qs))).map fun i => qs[i]?.getD (0, 0)
theorem fewTo_zero (u : List Int) (r : Int) (qs : List (Int × Int)) : fewTo u r qs 0 = [] := rfl
theorem fewTo_yes {u : List Int} {r : Int} {qs : List (Int × Int)} {k : Nat} (h : useB u r (natP qs) k = true) : fewTo u r qs (k + 1) = fewTo u r qs k ++ [qs[k]?.getD (0, 0)] := by
  simp [fewTo, List.range_succ, List.filter_append, h]
theorem fewTo_no {u : List Int} {r : Int} {qs : List (Int × Int)} {k : Nat} (h : useB u r (natP qs) k = false) : fewTo u r qs (k + 1) = fewTo u r qs k := by
  simp [fewTo, List.range_succ, List.filter_append, h]
theorem fewTo_len (u : List Int) (r : Int) (qs : List (Int × Int)) (k : Nat) : (fewTo u r qs k).length ≤ k := by
  unfold fewTo
  rw [List.length_map]
  have := List.length_filter_le (useB u r (natP qs)) (List.range k)
  simpa using this
theorem natP_snoc (qs : List (Int × Int)) (p : Int × Int) : natP (qs ++ [p]) = natP qs ++ [(p.1.toNat, p.2.toNat)] := by simp [natP]
theorem few_all (u : List Int) (r : Int) (qs : List (Int × Int)) : ∀ {k : Nat}, k ≤ qs.length → allL u r (natP (fewTo u r qs k)) = allL u r ((natP qs).take k)
  | 0, _ => rfl
  | k + 1, hk => by
    have ih := few_all u r qs (k := k) (by omega)
    rw [allL_succ u r (by rw [natP_len]; omega)]
    cases h : useB u r (natP qs) k with
    | true => rw [fewTo_yes h, natP_snoc, allL_snoc, ih, natP_get]
    | false =>
      rw [fewTo_no h, ih, joinL_same]
      unfold useB at h
      simpa using h
theorem few_ok {n : Int} {u : List Int} {r : Int} {qs : List (Int × Int)} (h : okQ n qs = true) {k : Nat} (hk : k ≤ qs.length) : okQ n (fewTo u r qs k) = true := by
  obtain ⟨h1, h2⟩ := okQ_parts h
  refine okQ_of (by have := fewTo_len u r qs k; omega) fun p hp => ?_
  unfold fewTo at hp
  obtain ⟨i, hi, rfl⟩ := List.mem_map.1 hp
  have hi := List.mem_range.1 (List.mem_filter.1 hi).1
  rw [List.getElem?_eq_getElem (by omega)]
  exact h2 _ (List.getElem_mem _)
theorem cc_take {n : Nat} {qs : List (Int × Int)} (h : usB (n : Int) qs = true) {k : Nat} (hk : k ≤ qs.length) : ccN (n : Int) (qs.take k) = (n : Int) - ((useTo (roots n) 1 (natP qs) k).length : Int) := by
  obtain ⟨hn, hq⟩ := usB_parts h
  have hok : okQ (n : Int) (qs.take k) = true := by
    obtain ⟨h1, h2⟩ := okQ_parts hq
    exact okQ_of (by rw [List.length_take]; omega) fun p hp => h2 p (List.mem_of_mem_take hp)
  have hu := usB_of hn hok
  unfold ccN
  rw [if_pos hu, usN_yes hu, Int.toNat_natCast, natP_take, List.length_take, Nat.min_eq_left hk, useTo_take]
set_option maxRecDepth 100000 in
set_option maxHeartbeats 16000000 in
theorem fnUseful (A0 : Option Addr) (n0 c0 : Nat) (z0 : List Int) (w : World) (h0 : Row .u8 w A0 n0 c0 z0) :
    Calls Try.prog 5 #[.slice A0 n0 c0] w fun e w' => e = .returned (.bool true) ∧ Below w.heap.size w w' := by
  by_cases hl0 : 1048576 < n0
  · clear h0
    go_enter Try.func5, Try.ntmps5
    go_wp2
    go_ret
    exact ⟨rfl, Below.refl _ _⟩
  obtain ⟨b0, hc0⟩ := h0.bt
  have D0 := Lib.hid (drawUseful_any A0 n0 c0 w.heap.size z0 w b0 (Nat.le_refl _) hc0)
  clear h0 b0 hc0
  go_enter Try.func5, Try.ntmps5
  go_wp2_with fail
  refine D0.out.mono ?_
  rintro e w1 ⟨n, v, qs, rfl, hn17, hq, hlq, hb1⟩
  obtain ⟨A', c', rfl, hrq⟩ := hq.form
  have hqc := hq.cases
  obtain ⟨m, hm⟩ : ∃ m, m = qs.length := ⟨_, rfl⟩
  rw [← hm] at hrq hlq hqc
  rw [← hm]
  clear hq D0
  have IU := fun (w2 : World) (hb2 : Below w1.heap.size w1 w2) => rd2_of (implUseful_any (n : Int) A' m c' w1.heap.size qs w2 (hrq.below hb2 (Nat.le_refl _)) hb2.size (by omega))
  have SU := fun (w2 : World) (hb2 : Below w1.heap.size w1 w2) => rd2_of (specUseful_any (n : Int) A' m c' w1.heap.size qs w2 (hrq.below hb2 (Nat.le_refl _)) hb2.size (by omega))
  have IC := fun (w2 : World) (hb2 : Below w1.heap.size w1 w2) => implCount_any (n : Int) A' m c' w1.heap.size qs w2 (hrq.below hb2 (Nat.le_refl _)) hb2.size (by omega)
  have SC := fun (w2 : World) (hb2 : Below w1.heap.size w1 w2) => specCount_any (n : Int) A' m c' w1.heap.size qs w2 (hrq.below hb2 (Nat.le_refl _)) hb2.size (by omega)
  cases hv : usB (n : Int) qs with
  | false =>
    have hz : ccN (n : Int) qs = -1 := by unfold ccN; rw [hv]; simp
    rw [hz] at IC SC
    rw [hv, usN_no hv] at IU SU
    have IU := Lib.hid IU
    have SU := Lib.hid SU
    have IC := Lib.hid IC
    have SC := Lib.hid SC
    clear hv hz hm hrq hqc
    go_wp2_with fail
    refine (IU.out _ (by repeat (first | assumption | exact Below.refl _ _ | refine Below.on ?_ (by assumption)))).mono ?_
    rintro e w2 ⟨A2, c2, rfl, hr2, hb2⟩
    go_wp2_with fail
    refine (SU.out _ (by repeat (first | assumption | exact Below.refl _ _ | refine Below.on ?_ (by assumption)))).mono ?_
    rintro e w3 ⟨A3, c3, rfl, hr3, hb3⟩
    have hr2 := hr2.to hb3
    go_wp2_with fail
    refine (IC.out _ (by repeat (first | assumption | exact Below.refl _ _ | refine Below.on ?_ (by assumption)))).mono ?_
    rintro e w4 ⟨rfl, hb4⟩
    have hr2 := hr2.to hb4
    have hr3 := hr3.to hb4
    go_wp2_with fail
    refine (lrSame_any _ _ _ _ _ _ _ [] _ hr2 hr3 (by simp)).mono ?_
    rintro e w5' ⟨rfl, k5, rfl⟩
    obtain ⟨w5, hw5⟩ : ∃ w5, w5 = w4.drewN k5 := ⟨_, rfl⟩
    have hb5 : Below w4.heap.size w4 w5 := by rw [hw5]; exact below_drewN (Below.refl _ _) _
    rw [← hw5]
    have hr2 := hr2.to hb5
    have hr3 := hr3.to hb5
    clear hw5
    go_wp2_with fail
    refine (SC.out _ (by repeat (first | assumption | exact Below.refl _ _ | refine Below.on ?_ (by assumption)))).mono ?_
    rintro e w6 ⟨rfl, hb6⟩
    have hr2 := hr2.to hb6
    have hr3 := hr3.to hb6
    go_wp2_with fail
    refine (lrSame_any _ _ _ _ _ _ _ [] _ hr2 hr3 (by simp)).mono ?_
    rintro e w7' ⟨rfl, k7, rfl⟩
    obtain ⟨w7, hw7⟩ : ∃ w7, w7 = w6.drewN k7 := ⟨_, rfl⟩
    have hb7 : Below w6.heap.size w6 w7 := by rw [hw7]; exact below_drewN (Below.refl _ _) _
    rw [← hw7]
    clear hw7
    go_wp2_with fail
    refine (SC.out _ (by repeat (first | assumption | exact Below.refl _ _ | refine Below.on ?_ (by assumption)))).mono ?_
    rintro e w8 ⟨rfl, hb8⟩
    go_wp2_with fail
    go_ret
    exact ⟨rfl, (by repeat (first | assumption | exact Below.refl _ _ | refine Below.on ?_ (by assumption)))⟩
  | true =>
    obtain ⟨hn, hk⟩ := usB_parts hv
    have h1n : 1 ≤ n := by omega
    have h2n : n ≤ 16 := by omega
    have hm24 : m ≤ 24 := by have := (okQ_parts hk).1; omega
    obtain ⟨k1, k2⟩ := cc_rows hv
    have hfv := roots_fv h1n h2n
    have hin : inP (roots n).length (natP qs) := by rw [roots_len]; exact okQ_in hk
    have hus : usN (n : Int) qs = useTo (roots n) 1 (natP qs) m := by
      have := usN_yes hv
      rwa [Int.toNat_natCast, ← hm] at this
    obtain ⟨z, hz⟩ : ∃ z, z = (usN (n : Int) qs).length := ⟨_, rfl⟩
    obtain ⟨X, hX⟩ : ∃ X, X = allL (roots n) 1 (natP qs) := ⟨_, rfl⟩
    obtain ⟨R, hR⟩ : ∃ R, R = rowsC X := ⟨_, rfl⟩
    obtain ⟨C0, hC0⟩ : ∃ C0, C0 = ccN (n : Int) qs := ⟨_, rfl⟩
    have hXv : fvB X = true := by rw [hX]; exact allL_fv hfv 1 hin
    have hXl : X.length = n := by rw [hX, allL_len, roots_len]
    rw [← hX, ← hR, ← hC0] at k1
    rw [← hz, ← hX, ← hR] at k2
    have HK : Hid (∀ k, k < m → ((n : Int) - ((useTo (roots n) 1 (natP qs) k).length : Int) ≤ 17 ∧ 0 ≤ (n : Int) - ((useTo (roots n) 1 (natP qs) k).length : Int)) ∧ (((n : Int) - ((useTo (roots n) 1 (natP qs) (k + 1)).length : Int) = (n : Int) - ((useTo (roots n) 1 (natP qs) k).length : Int) - 1 ∧ decide ((k : Int) ∈ usN (n : Int) qs) = true ∧ fewTo (roots n) 1 qs (k + 1) = fewTo (roots n) 1 qs k ++ [qs[k]?.getD (0, 0)]) ∨ ((n : Int) - ((useTo (roots n) 1 (natP qs) (k + 1)).length : Int) = (n : Int) - ((useTo (roots n) 1 (natP qs) k).length : Int) ∧ decide ((k : Int) ∈ usN (n : Int) qs) = false ∧ fewTo (roots n) 1 qs (k + 1) = fewTo (roots n) 1 qs k))) := fun k hkm => by
      have hr := all_rows hfv 1 hin (k := k) (by rw [natP_len]; omega)
      rw [rows_roots_n h1n h2n] at hr
      refine ⟨⟨by omega, by omega⟩, ?_⟩
      cases hu : useB (roots n) 1 (natP qs) k with
      | true => exact .inl ⟨by rw [useTo_yes hu, List.length_append, List.length_singleton]; omega, by rw [hus]; exact decide_eq_true ((useTo_mem _ _ _ _ _).2 ⟨hkm, hu⟩), fewTo_yes hu⟩
      | false => exact .inr ⟨by rw [useTo_no hu], by rw [hus]; exact decide_eq_false (fun h => by have := ((useTo_mem _ _ _ _ _).1 h).2; rw [hu] at this; cases this), fewTo_no hu⟩
    have IK : Hid (∀ k, k ≤ m → ∀ w2, Below w1.heap.size w1 w2 → Calls Try.prog 31 #[.int .i64 (n : Int), .slice A' k c'] w2 fun e w' => e = .returned (.int .i64 ((n : Int) - ((useTo (roots n) 1 (natP qs) k).length : Int))) ∧ Below w2.heap.size w2 w') := fun k hkm w2 hb2 => by
      have := implCount_any (n : Int) A' k c' w1.heap.size (qs.take k) w2 ((hrq.take hkm).below hb2 (Nat.le_refl _)) hb2.size (by omega)
      rw [cc_take hv (by omega)] at this
      exact this
    have g1 : jaB (roots n) 1 qs = true := jaB_of hfv (by omega) (by rw [roots_len]; exact hk)
    have g2 : jaB (roots n) 1 (fewTo (roots n) 1 qs m) = true := jaB_of hfv (by omega) (by rw [roots_len]; exact few_ok hk (by omega))
    have e2 : jaN (roots n) 1 (fewTo (roots n) 1 qs m) = X := by rw [jaN_yes g2, few_all _ _ _ (by omega), List.take_of_length_le (by rw [natP_len]; omega), hX]
    have JX : Hid (∀ A5 c5 w2, Rd w2 w2.heap.size A5 n (roots n) → Below w1.heap.size w1 w2 → Calls Try.prog 25 #[.slice A5 n c5, .int .i64 1, .slice A' m c'] w2 fun e w' => ∃ A c, e = .returned (.tuple #[.slice A n c, .bool true]) ∧ Rd w' w'.heap.size A n X ∧ Below w2.heap.size w2 w') := fun A5 c5 w2 h5 hb2 => by
      have := rd2_of (implJoinAll_any A5 n c5 w2.heap.size (roots n) 1 A' m c' w1.heap.size qs w2 h5 (Nat.le_refl _) (by omega) (hrq.below hb2 (Nat.le_refl _)) hb2.size (by omega))
      rw [g1, jaN_yes g1, ← hX, hXl] at this
      exact this
    have JY : Hid (∀ A5 c5 A6 k6 c6 w2, Rd w2 w2.heap.size A5 n (roots n) → RdQ w2 w2.heap.size A6 k6 (fewTo (roots n) 1 qs m) → Calls Try.prog 25 #[.slice A5 n c5, .int .i64 1, .slice A6 k6 c6] w2 fun e w' => ∃ A c, e = .returned (.tuple #[.slice A n c, .bool true]) ∧ Rd w' w'.heap.size A n X ∧ Below w2.heap.size w2 w') := fun A5 c5 A6 k6 c6 w2 h5 h6 => by
      have hl6 := h6.1
      have := fewTo_len (roots n) 1 qs m
      have := rd2_of (implJoinAll_any A5 n c5 w2.heap.size (roots n) 1 A6 k6 c6 w2.heap.size (fewTo (roots n) 1 qs m) w2 h5 (Nat.le_refl _) (by omega) h6 (Nat.le_refl _) (by omega))
      rw [g2, e2, hXl] at this
      exact this
    have CX : Hid (∀ A5 c5 w2, Rd w2 w2.heap.size A5 n X → Calls Try.prog 34 #[.slice A5 n c5] w2 fun e w' => ∃ A c, e = .returned (.tuple #[.slice A R c, .bool true]) ∧ Below w2.heap.size w2 w') := fun A5 c5 w2 h5 => by
      have := rows2_at (n := R) (by rw [hR, rowsN_C hXv]) (rowsN_big X).2 (implClasses_any A5 n c5 w2.heap.size X w2 h5 (Nat.le_refl _) (by omega))
      rw [hXv] at this
      exact this.mono fun _ _ ⟨A, c, e, _, hb⟩ => ⟨A, c, e, hb⟩
    have NW : Hid (∀ w2, Calls Try.prog 33 #[.int .i64 (n : Int)] w2 fun e w' => ∃ A c, e = .returned (.tuple #[.slice A n c, .bool true]) ∧ Rd w' w'.heap.size A n (roots n) ∧ Below w2.heap.size w2 w') := fun w2 => by
      have := rd2_of (implNew_any (n : Int) w2)
      have e1 : newOk (n : Int) = true := by unfold newOk; exact decide_eq_true hn
      have e2 : newN (n : Int) = n := by unfold newN; rw [if_pos hn]; simp
      rw [e1, e2, roots_len] at this
      exact this
    have hqc2 : 0 < m → ∃ g, A' = some ⟨g, 0, none⟩ ∧ m ≤ c' ∧ c' ≤ maxLen := fun h => by
      rcases hqc with ⟨_, h', _⟩ | h'
      · omega
      · exact h'
    have HQC := Lib.hid hqc2
    rw [hv, ← hz] at IU SU
    obtain ⟨us, hus2⟩ : ∃ us, us = usN (n : Int) qs := ⟨_, rfl⟩
    rw [← hus2] at IU SU HK
    rw [← hC0] at IC SC
    have IU := Lib.hid IU
    have SU := Lib.hid SU
    have IC := Lib.hid IC
    have SC := Lib.hid SC
    have HQ := Lib.hid hrq
    have q1 : (C0 != C0) = false := by simp
    have q2 : (C0 == (R : Int)) = true := by rw [beq_iff_eq]; exact k1
    have q3 : (C0 == (n : Int) - (z : Int)) = true := by rw [beq_iff_eq]; omega
    have hzn : z ≤ 16 := by omega
    have hRn : R ≤ 16 := by omega
    have hn16 : n ≤ 1048576 := by omega
    have HE0 : Hid (fewTo (roots n) 1 qs 0 = []) := fewTo_zero _ _ _
    clear hv hn hk h1n k1 k2 hfv hin hus hz hX hR hC0 hXv hXl g1 g2 e2 hqc hqc2 hus2 hm hrq
    go_wp2_with fail
    refine (IU.out _ (by repeat (first | assumption | exact Below.refl _ _ | refine Below.on ?_ (by assumption)))).mono ?_
    rintro e w2 ⟨A2, c2, rfl, hr2, hb2⟩
    go_wp2_with fail
    refine (SU.out _ (by repeat (first | assumption | exact Below.refl _ _ | refine Below.on ?_ (by assumption)))).mono ?_
    rintro e w3 ⟨A3, c3, rfl, hr3, hb3⟩
    have hr2 := hr2.to hb3
    go_wp2_with fail
    refine (IC.out _ (by repeat (first | assumption | exact Below.refl _ _ | refine Below.on ?_ (by assumption)))).mono ?_
    rintro e w4 ⟨rfl, hb4⟩
    have hr2 := hr2.to hb4
    have hr3 := hr3.to hb4
    go_wp2_with fail
    refine (lrSame_any _ _ _ _ _ _ _ us _ hr2 hr3 (by omega)).mono ?_
    rintro e w5' ⟨rfl, k5, rfl⟩
    obtain ⟨w5, hw5⟩ : ∃ w5, w5 = w4.drewN k5 := ⟨_, rfl⟩
    have hb5 : Below w4.heap.size w4 w5 := by rw [hw5]; exact below_drewN (Below.refl _ _) _
    rw [← hw5]
    have hr2 := hr2.to hb5
    clear hw5 hr3
    go_wp2_with fail
    refine (SC.out _ (by repeat (first | assumption | exact Below.refl _ _ | refine Below.on ?_ (by assumption)))).mono ?_
    rintro e w6 ⟨rfl, hb6⟩
    have HR2 := Lib.hid (hr2.to hb6)
    have HE : Hid (∃ A5 k5 c5, (Value.slice (some ⟨w6.heap.size, 0, none⟩) 0 0) = .slice A5 k5 c5 ∧ OwnQ 42 (w6.alloc (.cells #[] 42)) w6.heap.size (.slice (some ⟨w6.heap.size, 0, none⟩) 0 0) (fewTo (roots n) 1 qs 0)) := ⟨_, _, _, rfl, by rw [HE0.out]; exact OwnQ.empty _ w6 _ (Nat.le_refl _)⟩
    have hb7 : Below w6.heap.size w6 (w6.alloc (.cells #[] 42)) := (Below.refl _ _).alloc (Nat.le_refl _) _
    clear hr2 IU SU IC SC HE0
    go_wp2_with fail
    go_loopw [10, 88] (fun fv i wr => ∃ k : Nat, k ≤ m ∧ i = .int .i64 (k : Int) ∧ Hid (∃ A5 k5 c5, fv = .slice A5 k5 c5 ∧ OwnQ 42 wr w6.heap.size fv (fewTo (roots n) 1 qs k)) ∧ Below w6.heap.size w6 wr) (fun _ i _ => m - (intOf i).toNat)
    case atStart => exact ⟨0, by omega, rfl, HE, hb7⟩
    case round =>
      obtain ⟨k, hkm, rfl, HF, hbe⟩ := hrel
      clear HE hb7
      obtain ⟨A5, k5, c5, rfl, hof⟩ := HF.out
      clear HF
      by_cases hlt : k < m
      · obtain ⟨g, hg0, hmc, hcm⟩ := HQC.out (by omega)
        subst hg0
        unfold maxLen at hcm
        have hb1r : Below w1.heap.size w1 wr := (by repeat (first | assumption | exact Below.refl _ _ | refine Below.on ?_ (by assumption)))
        obtain ⟨b0, off, hbo, hlb, hc1⟩ := (HQ.out.below hb1r (Nat.le_refl _)).2 (by omega)
        simp only [Option.some.injEq, Addr.mk.injEq, and_true] at hbo
        obtain ⟨rfl, rfl⟩ := hbo
        obtain ⟨g1, g2⟩ := hc1 k hlt
        rw [Nat.zero_add] at g1 g2
        have hkk : (k : Int) < (m : Int) := by omega
        have hkc : (k : Int) ≤ (c' : Int) := by omega
        have hkc1 : (k : Int) + 1 ≤ (c' : Int) := by omega
        obtain ⟨a, ha⟩ : ∃ a, a = (qs[k]?.getD (0, 0)).1 := ⟨_, rfl⟩
        obtain ⟨b, hb⟩ : ∃ b, b = (qs[k]?.getD (0, 0)).2 := ⟨_, rfl⟩
        obtain ⟨⟨hB1, hB2⟩, hcase⟩ := HK.out k hlt
        have I1 := IK.out k (by omega)
        have I2 := IK.out (k + 1) (by omega)
        obtain ⟨B, hB⟩ : ∃ B, B = (n : Int) - ((useTo (roots n) 1 (natP qs) k).length : Int) := ⟨_, rfl⟩
        obtain ⟨C, hC⟩ : ∃ C, C = (n : Int) - ((useTo (roots n) 1 (natP qs) (k + 1)).length : Int) := ⟨_, rfl⟩
        rw [← hB] at I1 hB1 hB2 hcase
        rw [← hC] at I2 hcase
        rw [show qs[k]?.getD (0, 0) = (a, b) by rw [ha, hb]] at hcase
        rw [← ha] at g1
        rw [← hb] at g2
        have I1 := Lib.hid I1
        have I2 := Lib.hid I2
        have hba : Below wr.heap.size wr (wr.alloc (.cells #[.int .i64 a, .int .i64 b] 42)) := (Below.refl _ _).alloc (Nat.le_refl _) _
        have HOF := Lib.hid (hof.keep hba (Nat.le_refl _))
        clear hc1 ha hb hB hC hb1r hof
        rcases hcase with ⟨hc, hd, hfew⟩ | ⟨hc, hd, hfew⟩
        · have t1 : (C == B - 1) = true := by rw [beq_iff_eq]; exact hc
          have HFEW := Lib.hid hfew
          have LH := Lib.hid (fun (w2 : World) (hb2 : Below w6.heap.size w6 w2) => lrHas_any A2 z c2 w6.heap.size us (k : Int) w2 (HR2.out.below hb2 (Nat.le_refl _)) (by omega))
          rw [hd] at LH
          clear hc hd hfew
          go_wp2_with fail
          refine (I1.out _ (by repeat (first | assumption | exact Below.refl _ _ | refine Below.on ?_ (by assumption)))).mono ?_
          rintro e w7 ⟨rfl, hb8⟩
          go_wp2_with fail
          refine (I2.out _ (by repeat (first | assumption | exact Below.refl _ _ | refine Below.on ?_ (by assumption)))).mono ?_
          rintro e w8 ⟨rfl, hb9⟩
          have hof8 := (HOF.out.keep hb8 (Nat.le_refl _)).keep hb9 (Nat.le_refl _)
          go_wp2_with fail
          refine (LH.out _ (by repeat (first | assumption | exact Below.refl _ _ | refine Below.on ?_ (by assumption)))).mono ?_
          rintro e w9 ⟨rfl, hw⟩
          obtain rfl : w8 = w9 := hw.symm
          go_wp2_with fail
          refine (LH.out _ (by repeat (first | assumption | exact Below.refl _ _ | refine Below.on ?_ (by assumption)))).mono ?_
          rintro e w10 ⟨rfl, hw⟩
          obtain rfl : w8 = w10 := hw.symm
          go_wp2_with fail
          refine (LH.out _ (by repeat (first | assumption | exact Below.refl _ _ | refine Below.on ?_ (by assumption)))).mono ?_
          rintro e w11 ⟨rfl, hw⟩
          obtain rfl : w8 = w11 := hw.symm
          have hb6c : Below w6.heap.size w6 w8 := (by repeat (first | assumption | exact Below.refl _ _ | refine Below.on ?_ (by assumption)))
          have hs68 : w6.heap.size ≤ w8.heap.size := hb6c.size
          have hbl8 := hof8.blockOf
          have hfl : (fewTo (roots n) 1 qs k).length ≤ 1048576 := by have := fewTo_len (roots n) 1 qs k; omega
          have pc1 := ((hb8.cell (p := ⟨wr.heap.size, 0, none⟩) (by simp))).trans (pair_cells wr a b).1
          have pc2 := ((hb8.cell (p := ⟨wr.heap.size, 1, none⟩) (by simp))).trans (pair_cells wr a b).2
          have pc1 := ((hb9.cell (p := ⟨wr.heap.size, 0, none⟩) (by have := hb8.size; simp at this; show wr.heap.size < _; omega))).trans pc1
          have pc2 := ((hb9.cell (p := ⟨wr.heap.size, 1, none⟩) (by have := hb8.size; simp at this; show wr.heap.size < _; omega))).trans pc2
          clear hbe hba hb8 hb9 HOF I1 I2 LH g1 g2
          go_wp2_with (at_builtin; go_must (refine wpList_pushQ rfl (.tmp 126) (.tmp 128) rfl w8 w6.heap.size (.slice A5 k5 c5) (fewTo (roots n) 1 qs k) a b rfl rfl hof8 hfl hs68 ?_); intro v' w9 ho9 hg9 _; obtain ⟨A9, c9, rfl, _⟩ := ho9.form)
          have hbn : Below w6.heap.size w6 w9 := hb6c.grown hg9 hs68 (fun r e => (hbl8 r e).1)
          have HN : Hid (∃ A6 k6 c6, (Value.slice A9 ((fewTo (roots n) 1 qs k).length + 1) c9) = .slice A6 k6 c6 ∧ OwnQ 42 w9 w6.heap.size (.slice A9 ((fewTo (roots n) 1 qs k).length + 1) c9) (fewTo (roots n) 1 qs (k + 1))) := ⟨_, _, _, rfl, by
            rw [HFEW.out]
            rw [List.length_append, List.length_singleton] at ho9
            exact ho9⟩
          clear ho9 hg9 hof8 hbl8 hb6c HFEW
          go_wp2
          go_roundw
          case rel => exact ⟨k + 1, by omega, by go_num, HN, hbn⟩
          case measure => simp [intOf]; omega
        · have t1 : (C == B - 1) = false := by
            rw [beq_eq_false_iff_ne]
            omega
          have t2 : (C != B) = false := by simp [hc]
          have HFEW := Lib.hid hfew
          have LH := Lib.hid (fun (w2 : World) (hb2 : Below w6.heap.size w6 w2) => lrHas_any A2 z c2 w6.heap.size us (k : Int) w2 (HR2.out.below hb2 (Nat.le_refl _)) (by omega))
          rw [hd] at LH
          clear hc hd hfew
          go_wp2_with fail
          refine (I1.out _ (by repeat (first | assumption | exact Below.refl _ _ | refine Below.on ?_ (by assumption)))).mono ?_
          rintro e w7 ⟨rfl, hb8⟩
          go_wp2_with fail
          refine (I2.out _ (by repeat (first | assumption | exact Below.refl _ _ | refine Below.on ?_ (by assumption)))).mono ?_
          rintro e w8 ⟨rfl, hb9⟩
          have hof8 := (HOF.out.keep hb8 (Nat.le_refl _)).keep hb9 (Nat.le_refl _)
          go_wp2_with fail
          refine (LH.out _ (by repeat (first | assumption | exact Below.refl _ _ | refine Below.on ?_ (by assumption)))).mono ?_
          rintro e w9 ⟨rfl, hw⟩
          obtain rfl : w8 = w9 := hw.symm
          go_wp2_with fail
          refine (LH.out _ (by repeat (first | assumption | exact Below.refl _ _ | refine Below.on ?_ (by assumption)))).mono ?_
          rintro e w10 ⟨rfl, hw⟩
          obtain rfl : w8 = w10 := hw.symm
          go_wp2_with fail
          refine (LH.out _ (by repeat (first | assumption | exact Below.refl _ _ | refine Below.on ?_ (by assumption)))).mono ?_
          rintro e w11 ⟨rfl, hw⟩
          obtain rfl : w8 = w11 := hw.symm
          have hbn : Below w6.heap.size w6 w8 := (by repeat (first | assumption | exact Below.refl _ _ | refine Below.on ?_ (by assumption)))
          have HN : Hid (∃ A6 k6 c6, (Value.slice A5 k5 c5) = .slice A6 k6 c6 ∧ OwnQ 42 w8 w6.heap.size (.slice A5 k5 c5) (fewTo (roots n) 1 qs (k + 1))) := ⟨_, _, _, rfl, by rw [HFEW.out]; exact hof8⟩
          clear hbe hba hb8 hb9 HOF I1 I2 LH g1 g2 hof8 HFEW
          go_wp2_with fail
          go_roundw
          case rel => exact ⟨k + 1, by omega, by go_num, HN, hbn⟩
          case measure => simp [intOf]; omega
      · obtain rfl : k = m := by omega
        obtain ⟨wA, rfl⟩ : ∃ wA, wA = wr := ⟨_, rfl⟩
        have HOF := Lib.hid hof.rd
        clear hof HK IK
        go_wp2_with fail
        refine (NW.out _).mono ?_
        rintro e w7 ⟨A7, c7, rfl, hr7, hb8⟩
        go_wp2_with fail
        refine (JX.out A7 c7 _ hr7 (by repeat (first | assumption | exact Below.refl _ _ | refine Below.on ?_ (by assumption)))).mono ?_
        rintro e w8 ⟨A8, c8, rfl, hr8, hb9⟩
        have hr7 := hr7.to hb9
        go_wp2_with fail
        refine (JY.out A7 c7 A5 k5 c5 _ hr7 ((HOF.out.to hb8).to hb9)).mono ?_
        rintro e w9 ⟨A9, c9, rfl, hr9, hb10⟩
        have hr8 := hr8.to hb10
        go_wp2_with fail
        refine (CX.out A8 c8 _ hr8).mono ?_
        rintro e w10 ⟨A10, c10, rfl, hb11⟩
        have hr8 := hr8.to hb11
        have hr9 := hr9.to hb11
        go_wp2_with fail
        refine (lrSame_any _ _ _ _ _ _ _ X _ hr8 hr9 hn16).mono ?_
        rintro e w11 ⟨rfl, k11, rfl⟩
        go_wp2_with fail
        go_ret
        exact ⟨rfl, below_drewN (by repeat (first | assumption | exact Below.refl _ _ | refine Below.on ?_ (by assumption))) _⟩
end Go.Proofs.Ytebgnaiibomjkaa
