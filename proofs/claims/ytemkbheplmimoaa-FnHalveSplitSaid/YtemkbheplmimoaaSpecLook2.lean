/- The model's LookUp, StepsUp, LookAll and TotalUp. Condition: lengths up to 1048576. -/
import Derived.Test.YtemkbheplmimoaaSpecLook
import Derived.Test.YtemkbheplmimoaaSpec2
namespace Go.Proofs.Ytemkbheplmimoaa
open Go.RowKit

theorem l3Look_any (l : Int) (w : World) : Calls Try.prog 121 #[.int .i64 l] w fun e w' => e = .returned (.bool (inLook l)) ∧ w = w' := by
  go_enter Try.func121, Try.ntmps121
  go_wp2_with fail
  refine (l1In_any _ _ _ _).mono ?_
  rintro e w2 ⟨rfl, rfl⟩
  go_wp2_with fail
  go_ret
  exact ⟨ret_bool (by unfold inLook; simp), rfl⟩
theorem inLook_parts {l : Int} (h : inLook l = true) : 0 ≤ l ∧ l ≤ 3 := by
  unfold inLook at h
  exact of_decide_eq_true h

set_option maxRecDepth 100000 in
set_option maxHeartbeats 1000000 in
theorem specLookUp_any (A : Option Addr) (n c B0 : Nat) (zs : List Int) (l i : Int) (w : World) (h : Rd w B0 A n zs) (hB0 : B0 ≤ w.heap.size) (hb : n ≤ 1048576) :
    Calls Try.prog 55 #[.slice A n c, .int .i64 l, .int .i64 i] w fun e w' => ∃ v, e = .returned (.tuple #[v, .bool (lookB zs l [i])]) ∧ Own w' w.heap.size v (lookedN zs l [i]) ∧ Below w.heap.size w w' := by
  have R := l1Item_any A n c B0 zs i w h hB0 hb
  have L := l3Look_any l
  have hb1 := lookB_one zs l i
  have hln := h.1
  cases hv : itemB zs i with
  | false =>
    rw [hv] at R
    have hno : lookB zs l [i] = false := by rw [hb1, hv]; rfl
    rw [hno]
    have HN := Lib.hid (lookedN_no hno)
    have R := Lib.hid R
    clear hv hb1 hno L
    go_enter Try.func55, Try.ntmps55
    go_wp2_with fail
    refine R.out.mono ?_
    rintro e w1 ⟨rfl, hb1⟩
    go_wp2_with fail
    go_ret2
    exact ⟨_, rfl, by rw [HN.out]; exact Own.lit w1 _ [] hb1.size (by simp), hb1.alloc hb1.size _⟩
  | true =>
    rw [hv] at R
    cases hl : inLook l with
    | false =>
      rw [hl] at L
      have hno : lookB zs l [i] = false := by rw [hb1, hl]; simp
      rw [hno]
      have HN := Lib.hid (lookedN_no hno)
      have R := Lib.hid R
      have L := Lib.hid L
      clear hv hb1 hno hl
      go_enter Try.func55, Try.ntmps55
      go_wp2_with fail
      refine R.out.mono ?_
      rintro e w1 ⟨rfl, hb1⟩
      go_wp2_with fail
      refine (L.out _).mono ?_
      rintro e w2 ⟨rfl, rfl⟩
      go_wp2_with fail
      go_ret2
      exact ⟨_, rfl, by rw [HN.out]; exact Own.lit w1 _ [] hb1.size (by simp), hb1.alloc hb1.size _⟩
    | true =>
      rw [hl] at L
      have hyes : lookB zs l [i] = true := by rw [hb1, hv, hl]; rfl
      rw [hyes]
      have hit := item_lt hv
      obtain ⟨j, rfl⟩ := Int.eq_ofNat_of_zero_le hit.1
      have HN : Hid (lookedN zs l [(j : Int)] = lookT (lookAt l) zs j) := by
        show _ = _
        rw [lookedN_yes hyes, nats_one, manyL_one, Int.toNat_natCast]
      have R := Lib.hid R
      have L := Lib.hid L
      have U := Lib.hid (fun (w1 : World) (hb1 : Below w.heap.size w w1) => l3Up_any A n c B0 j zs l w1 (h.below hb1 hB0) (Nat.le_trans hB0 hb1.size) (item_fv hv) (by omega) (inLook_parts hl))
      clear hv hb1 hyes hl hit h hln
      go_enter Try.func55, Try.ntmps55
      go_wp2_with fail
      refine R.out.mono ?_
      rintro e w1 ⟨rfl, hb1⟩
      go_wp2_with fail
      refine (L.out _).mono ?_
      rintro e w2 ⟨rfl, rfl⟩
      go_wp2_with fail
      refine (U.out w1 hb1).mono ?_
      rintro e w3 ⟨v, rfl, ho, hb3⟩
      have HO := Lib.hid (ho.less hb1.size)
      have HB := Lib.hid (hb1.trans (hb3.mono hb1.size))
      clear ho hb3
      go_wp2_with fail
      go_ret2
      exact ⟨_, rfl, by rw [HN.out]; exact HO.out, HB.out⟩
set_option maxRecDepth 100000 in
set_option maxHeartbeats 1000000 in
theorem specStepsUp_any (A : Option Addr) (n c B0 : Nat) (zs : List Int) (l i : Int) (w : World) (h : Rd w B0 A n zs) (hB0 : B0 ≤ w.heap.size) (hb : n ≤ 1048576) :
    Calls Try.prog 59 #[.slice A n c, .int .i64 l, .int .i64 i] w fun e w' => e = .returned (.int .i64 (followedN zs l [i])) ∧ Below w.heap.size w w' := by
  have R := l1Item_any A n c B0 zs i w h hB0 hb
  have L := l3Look_any l
  have hb1 := lookB_one zs l i
  have hln := h.1
  cases hv : itemB zs i with
  | false =>
    rw [hv] at R
    have hno : lookB zs l [i] = false := by rw [hb1, hv]; rfl
    rw [followedN_no hno]
    have R := Lib.hid R
    clear hv hb1 hno L
    go_enter Try.func59, Try.ntmps59
    go_wp2_with fail
    refine R.out.mono ?_
    rintro e w1 ⟨rfl, hb1⟩
    go_wp2_with fail
    go_ret
    exact ⟨rfl, hb1⟩
  | true =>
    rw [hv] at R
    cases hl : inLook l with
    | false =>
      rw [hl] at L
      have hno : lookB zs l [i] = false := by rw [hb1, hl]; simp
      rw [followedN_no hno]
      have R := Lib.hid R
      have L := Lib.hid L
      clear hv hb1 hno hl
      go_enter Try.func59, Try.ntmps59
      go_wp2_with fail
      refine R.out.mono ?_
      rintro e w1 ⟨rfl, hb1⟩
      go_wp2_with fail
      refine (L.out _).mono ?_
      rintro e w2 ⟨rfl, rfl⟩
      go_wp2_with fail
      go_ret
      exact ⟨rfl, hb1⟩
    | true =>
      rw [hl] at L
      have hyes : lookB zs l [i] = true := by rw [hb1, hv, hl]; rfl
      have hit := item_lt hv
      obtain ⟨j, rfl⟩ := Int.eq_ofNat_of_zero_le hit.1
      rw [followedN_yes hyes, nats_one, manyS_one, Int.toNat_natCast]
      have R := Lib.hid R
      have L := Lib.hid L
      have U := Lib.hid (fun (w1 : World) (hb1 : Below w.heap.size w w1) => l3Up_any A n c B0 j zs l w1 (h.below hb1 hB0) (Nat.le_trans hB0 hb1.size) (item_fv hv) (by omega) (inLook_parts hl))
      clear hv hb1 hyes hl hit h hln
      go_enter Try.func59, Try.ntmps59
      go_wp2_with fail
      refine R.out.mono ?_
      rintro e w1 ⟨rfl, hb1⟩
      go_wp2_with fail
      refine (L.out _).mono ?_
      rintro e w2 ⟨rfl, rfl⟩
      go_wp2_with fail
      refine (U.out w1 hb1).mono ?_
      rintro e w3 ⟨v, rfl, _, hb3⟩
      have HB := Lib.hid (hb1.trans (hb3.mono hb1.size))
      clear hb3
      go_wp2_with fail
      go_ret
      exact ⟨rfl, HB.out⟩

/-- A valid forest, items of it, not too many. -/
def itemsB (up : List Int) (is : List Int) : Bool := fvB up && decide (is.length ≤ 24) && allIn up.length is
theorem allIn_of' {n : Nat} {is : List Int} (h : ∀ k, k < is.length → 0 ≤ is[k]?.getD 0 ∧ is[k]?.getD 0 < (n : Int)) : allIn n is = true := by
  unfold allIn
  rw [List.all_eq_true]
  intro i hi
  obtain ⟨k, hk, rfl⟩ := List.getElem_of_mem hi
  have := h k hk
  rw [List.getElem?_eq_getElem hk, Option.getD_some] at this
  exact decide_eq_true this
theorem allIn_not' {n : Nat} {is : List Int} {k : Nat} (hk : k < is.length) (h : ¬ (0 ≤ is[k]?.getD 0 ∧ is[k]?.getD 0 < (n : Int))) : allIn n is = false := by
  cases e : allIn n is with
  | false => rfl
  | true =>
    exfalso
    apply h
    rw [List.getElem?_eq_getElem hk, Option.getD_some]
    exact allIn_mem e _ (List.getElem_mem hk)
set_option maxRecDepth 100000 in
set_option maxHeartbeats 1000000 in
theorem l3Items_any (A : Option Addr) (n c B0 : Nat) (zs : List Int) (A1 : Option Addr) (m c1 B1 : Nat) (is : List Int) (w : World) (h : Rd w B0 A n zs) (hB0 : B0 ≤ w.heap.size) (hb : n ≤ 1048576) (h1 : Rd w B1 A1 m is) (hm : m ≤ 1048576) :
    Calls Try.prog 124 #[.slice A n c, .slice A1 m c1] w fun e w' => e = .returned (.bool (itemsB zs is)) ∧ Below w.heap.size w w' := by
  have R := Lib.hid (specValid_any A n c B0 zs w h hB0 hb)
  have HL := Lib.hid h1.1
  have HN := Lib.hid h.1
  obtain ⟨bo, hbo⟩ : ∃ bo, bo = itemsB zs is := ⟨_, rfl⟩
  rw [← hbo]
  have HB := Lib.hid hbo
  have HA := Lib.hid (fun (k : Nat) (hk : k < m) (hh : ¬ (0 ≤ is[k]?.getD 0 ∧ is[k]?.getD 0 < (n : Int))) => allIn_not' (n := n) (is := is) (k := k) (by have := h1.1; omega) hh)
  clear h hbo
  go_enter Try.func124, Try.ntmps124
  go_wp2
  go_loopw [9] (fun i wr => ∃ k : Nat, k ≤ m ∧ i = .int .i64 k ∧ w = wr ∧ ∀ x, x < k → 0 ≤ is[x]?.getD 0 ∧ is[x]?.getD 0 < (n : Int)) (fun i _ => m - (intOf i).toNat)
  case atStart => exact ⟨0, Nat.zero_le _, rfl, rfl, fun x hx => absurd hx (by omega)⟩
  case round =>
    obtain ⟨k, hk, rfl, rfl, hin⟩ := hrel
    by_cases hlt : k < m
    · obtain ⟨b, off, rfl, _, hc1⟩ := h1.2 (by omega)
      have g1 := hc1 k hlt
      have HX := Lib.hid (fun (hh : 0 ≤ is[k]?.getD 0 ∧ is[k]?.getD 0 < (n : Int)) => show ∀ x, x < k + 1 → 0 ≤ is[x]?.getD 0 ∧ is[x]?.getD 0 < (n : Int) from fun x hx => by
        by_cases e : x = k
        · subst e; exact hh
        · exact hin x (by omega))
      have HB2 := Lib.hid (HA.out k hlt)
      clear hc1 hin HA
      generalize is[k]?.getD 0 = z at g1 HX HB2
      by_cases hz : 0 ≤ z ∧ z ≤ (n : Int) - 1
      · have hd : decide (0 ≤ z ∧ z ≤ (n : Int) - 1) = true := by simpa using hz
        have HX2 := Lib.hid (HX.out (by omega))
        clear HX HB2 hz
        go_wp2_with (go_at_call 136; refine (l1In_any _ _ _ _).mono ?_; rintro e w' ⟨rfl, rfl⟩)
        go_roundw
        case rel => exact ⟨k + 1, by omega, by go_num, trivial, HX2.out⟩
        case measure => simp [intOf]; omega
      · have hd : decide (0 ≤ z ∧ z ≤ (n : Int) - 1) = false := by simpa using hz
        have HF := Lib.hid (HB2.out (by omega))
        clear HX HB2 hz
        go_wp2_with (go_at_call 136; refine (l1In_any _ _ _ _).mono ?_; rintro e w' ⟨rfl, rfl⟩)
        go_ret
        exact ⟨ret_bool (by rw [HB.out]; unfold itemsB; rw [HN.out, HF.out]; simp), Below.refl _ _⟩
    · obtain rfl : k = m := by omega
      have HT := Lib.hid (allIn_of' (n := n) (is := is) (fun x hx => hin x (by have := HL.out; omega)))
      clear hin HA
      cases hv : fvB zs with
      | false =>
        rw [hv] at R
        have E : Hid (bo = false) := by
          show _ = _
          rw [HB.out]
          unfold itemsB
          rw [hv]
          rfl
        clear hv
        go_wp2_with fail
        refine R.out.mono ?_
        rintro e w2 ⟨rfl, hb2⟩
        go_wp2
        go_ret
        exact ⟨ret_bool E.out.symm, hb2⟩
      | true =>
        rw [hv] at R
        have E : Hid (bo = decide (k ≤ 24)) := by
          show _ = _
          rw [HB.out]
          unfold itemsB
          rw [hv, HN.out, HT.out, HL.out]
          simp
        clear hv
        go_wp2_with fail
        refine R.out.mono ?_
        rintro e w2 ⟨rfl, hb2⟩
        go_wp2
        go_ret
        refine ⟨?_, hb2⟩
        rw [E.out]
        simp
        omega
end Go.Proofs.Ytemkbheplmimoaa
