/- Are pairs valid? The program's answer and the model's. Condition: lengths up to 1048576. -/
import Derived.Test.YtebgnaiibomjkaaJoins
import Derived.Test.YtebgnaiibomjkaaPairs
import Derived.Test.YtebgnaiibomjkaaHelp
namespace Go.Proofs.Ytebgnaiibomjkaa
open Go.RowKit

set_option maxRecDepth 100000 in
set_option maxHeartbeats 4000000 in
theorem pairsValid_any (n : Int) (A : Option Addr) (m c B0 : Nat) (qs : List (Int × Int)) (w : World) (h : RdQ w B0 A m qs) (hB0 : B0 ≤ w.heap.size) (hb : m ≤ 1048576) :
    Calls Try.prog 57 #[.int .i64 n, .slice A m c] w fun e w' => e = .returned (.bool (okQ n qs)) ∧ Below w.heap.size w w' := by
  obtain ⟨r, hr⟩ : ∃ r, r = okQ n qs := ⟨_, rfl⟩
  rw [← hr]
  have hlen := h.1
  have HL : Hid (24 < m → r = false) := fun e => by rw [hr]; exact okQ_long (by omega)
  have HB : Hid (∀ k, k < m → ¬ (0 ≤ min (qs[k]?.getD (0, 0)).1 (qs[k]?.getD (0, 0)).2 ∧ max (qs[k]?.getD (0, 0)).1 (qs[k]?.getD (0, 0)).2 < n) → r = false) := fun k hk e => by rw [hr]; exact okQ_bad (by omega) e
  have HA : Hid (m ≤ 24 → (∀ k, k < m → 0 ≤ min (qs[k]?.getD (0, 0)).1 (qs[k]?.getD (0, 0)).2 ∧ max (qs[k]?.getD (0, 0)).1 (qs[k]?.getD (0, 0)).2 < n) → r = true) := fun e1 e2 => by rw [hr]; exact okQ_all (by omega) (fun k hk => e2 k (by omega))
  have H := Lib.hid h
  have HB0 := Lib.hid hB0
  clear hr h hlen hB0
  by_cases hl : 24 < m
  · have HF := Lib.hid (HL.out hl)
    have hgt : (24 : Int) < (m : Int) := by omega
    clear HL HB HA
    go_enter Try.func57, Try.ntmps57
    go_wp2
    go_ret
    exact ⟨ret_bool HF.out.symm, Below.refl _ _⟩
  · have hgt : ¬ (24 : Int) < (m : Int) := by omega
    have hgt2 : (m : Int) ≤ 24 := by omega
    go_enter Try.func57, Try.ntmps57
    go_wp2
    go_loopw [12] (fun i wr => ∃ k : Nat, k ≤ m ∧ i = .int .i64 k ∧ Hid (∀ j, j < k → 0 ≤ min (qs[j]?.getD (0, 0)).1 (qs[j]?.getD (0, 0)).2 ∧ max (qs[j]?.getD (0, 0)).1 (qs[j]?.getD (0, 0)).2 < n) ∧ Below w.heap.size w wr) (fun i _ => m - (intOf i).toNat)
    case atStart => exact ⟨0, Nat.zero_le _, rfl, fun j hj => absurd hj (by omega), Below.refl _ _⟩
    case round =>
      obtain ⟨k, hk, rfl, HT, hbe⟩ := hrel
      by_cases hlt : k < m
      · obtain ⟨b0, off, rfl, hbb, hc1⟩ := (H.out.below hbe HB0.out).2 (by omega)
        obtain ⟨g1, g2⟩ := hc1 k hlt
        have hkk : (k : Int) < (m : Int) := by omega
        have HBK := Lib.hid (HB.out k hlt)
        have HN : Hid (0 ≤ min (qs[k]?.getD (0, 0)).1 (qs[k]?.getD (0, 0)).2 ∧ max (qs[k]?.getD (0, 0)).1 (qs[k]?.getD (0, 0)).2 < n → ∀ j, j < k + 1 → 0 ≤ min (qs[j]?.getD (0, 0)).1 (qs[j]?.getD (0, 0)).2 ∧ max (qs[j]?.getD (0, 0)).1 (qs[j]?.getD (0, 0)).2 < n) := fun e j hj => by
          by_cases h : j = k
          · subst h; exact e
          · exact HT.out j (by omega)
        obtain ⟨a, ha⟩ : ∃ a, a = (qs[k]?.getD (0, 0)).1 := ⟨_, rfl⟩
        obtain ⟨b, hb2⟩ : ∃ b, b = (qs[k]?.getD (0, 0)).2 := ⟨_, rfl⟩
        rw [← ha] at g1 HBK HN
        rw [← hb2] at g2 HBK HN
        have HBA := Lib.hid (hbe.alloc hbe.size (.cells #[.int .i64 a, .int .i64 b] 42))
        clear hc1 ha hb2 hbe HT HB HA HL hbb
        rcases Int.lt_trichotomy a b with hab | hab | hab
        · have hle : a ≤ b := by omega
          by_cases hl : a < 0
          · have HF := Lib.hid (HBK.out (by omega))
            clear HBK HN
            go_wp2
            go_ret
            exact ⟨ret_bool HF.out.symm, HBA.out⟩
          · by_cases hh : n ≤ b
            · have HF := Lib.hid (HBK.out (by omega))
              clear HBK HN
              go_wp2
              go_ret
              exact ⟨ret_bool HF.out.symm, HBA.out⟩
            · have HF := Lib.hid (HN.out (by omega))
              clear HBK HN
              go_wp2
              go_roundw
              case rel => exact ⟨k + 1, by omega, by go_num, HF, HBA.out⟩
              case measure => simp [intOf]; omega
        · subst hab
          by_cases hl : a < 0
          · have HF := Lib.hid (HBK.out (by omega))
            clear HBK HN
            go_wp2
            go_ret
            exact ⟨ret_bool HF.out.symm, HBA.out⟩
          · by_cases hh : n ≤ a
            · have HF := Lib.hid (HBK.out (by omega))
              clear HBK HN
              go_wp2
              go_ret
              exact ⟨ret_bool HF.out.symm, HBA.out⟩
            · have HF := Lib.hid (HN.out (by omega))
              clear HBK HN
              go_wp2
              go_roundw
              case rel => exact ⟨k + 1, by omega, by go_num, HF, HBA.out⟩
              case measure => simp [intOf]; omega
        · have hle : ¬ a ≤ b := by omega
          have hlt2 : ¬ a < b := by omega
          by_cases hl : b < 0
          · have HF := Lib.hid (HBK.out (by omega))
            clear HBK HN
            go_wp2
            go_ret
            exact ⟨ret_bool HF.out.symm, HBA.out⟩
          · by_cases hh : n ≤ a
            · have HF := Lib.hid (HBK.out (by omega))
              clear HBK HN
              go_wp2
              go_ret
              exact ⟨ret_bool HF.out.symm, HBA.out⟩
            · have HF := Lib.hid (HN.out (by omega))
              clear HBK HN
              go_wp2
              go_roundw
              case rel => exact ⟨k + 1, by omega, by go_num, HF, HBA.out⟩
              case measure => simp [intOf]; omega
      · obtain rfl : k = m := by omega
        have HF := Lib.hid (HA.out (by omega) HT.out)
        clear HB HA HL
        go_wp2
        go_ret
        exact ⟨ret_bool HF.out.symm, hbe⟩

set_option maxRecDepth 100000 in
set_option maxHeartbeats 4000000 in
theorem l2Pairs_any (n : Nat) (A : Option Addr) (m c B0 : Nat) (qs : List (Int × Int)) (w : World) (hn : n ≤ 1048576) (h : RdQ w B0 A m qs) (hB0 : B0 ≤ w.heap.size) (hb : m ≤ 1048576) :
    Calls Try.prog 77 #[.int .i64 (n : Int), .slice A m c] w fun e w' => e = .returned (.bool (okQ (n : Int) qs)) ∧ Below w.heap.size w w' := by
  obtain ⟨r, hr⟩ : ∃ r, r = okQ (n : Int) qs := ⟨_, rfl⟩
  rw [← hr]
  have hlen := h.1
  have HL : Hid (24 < m → r = false) := fun e => by rw [hr]; exact okQ_long (by omega)
  have HB : Hid (∀ k, k < m → ¬ (0 ≤ min (qs[k]?.getD (0, 0)).1 (qs[k]?.getD (0, 0)).2 ∧ max (qs[k]?.getD (0, 0)).1 (qs[k]?.getD (0, 0)).2 < (n : Int)) → r = false) := fun k hk e => by rw [hr]; exact okQ_bad (by omega) e
  have HA : Hid (m ≤ 24 → (∀ k, k < m → 0 ≤ min (qs[k]?.getD (0, 0)).1 (qs[k]?.getD (0, 0)).2 ∧ max (qs[k]?.getD (0, 0)).1 (qs[k]?.getD (0, 0)).2 < (n : Int)) → r = true) := fun e1 e2 => by rw [hr]; exact okQ_all (by omega) (fun k hk => e2 k (by omega))
  have H := Lib.hid h
  have HB0 := Lib.hid hB0
  have L1 := Lib.hid (fun (w2 : World) (a : Int) => l1In_any a 0 ((n : Int) - 1) w2)
  clear hr h hlen hB0
  go_enter Try.func77, Try.ntmps77
  go_wp2
  go_loopw [9] (fun i wr => ∃ k : Nat, k ≤ m ∧ i = .int .i64 k ∧ Hid (∀ j, j < k → 0 ≤ min (qs[j]?.getD (0, 0)).1 (qs[j]?.getD (0, 0)).2 ∧ max (qs[j]?.getD (0, 0)).1 (qs[j]?.getD (0, 0)).2 < (n : Int)) ∧ Below w.heap.size w wr) (fun i _ => m - (intOf i).toNat)
  case atStart => exact ⟨0, Nat.zero_le _, rfl, fun j hj => absurd hj (by omega), Below.refl _ _⟩
  case round =>
    obtain ⟨k, hk, rfl, HT, hbe⟩ := hrel
    by_cases hlt : k < m
    · obtain ⟨b0, off, rfl, hbb, hc1⟩ := (H.out.below hbe HB0.out).2 (by omega)
      obtain ⟨g1, g2⟩ := hc1 k hlt
      have hkk : (k : Int) < (m : Int) := by omega
      have HBK := Lib.hid (HB.out k hlt)
      have HN : Hid (0 ≤ min (qs[k]?.getD (0, 0)).1 (qs[k]?.getD (0, 0)).2 ∧ max (qs[k]?.getD (0, 0)).1 (qs[k]?.getD (0, 0)).2 < (n : Int) → ∀ j, j < k + 1 → 0 ≤ min (qs[j]?.getD (0, 0)).1 (qs[j]?.getD (0, 0)).2 ∧ max (qs[j]?.getD (0, 0)).1 (qs[j]?.getD (0, 0)).2 < (n : Int)) := fun e j hj => by
        by_cases h : j = k
        · subst h; exact e
        · exact HT.out j (by omega)
      obtain ⟨a, ha⟩ : ∃ a, a = (qs[k]?.getD (0, 0)).1 := ⟨_, rfl⟩
      obtain ⟨b, hb2⟩ : ∃ b, b = (qs[k]?.getD (0, 0)).2 := ⟨_, rfl⟩
      rw [← ha] at g1 HBK HN
      rw [← hb2] at g2 HBK HN
      have HBA := Lib.hid (hbe.alloc hbe.size (.cells #[.int .i64 a, .int .i64 b] 42))
      have LA := Lib.hid (L1.out (wr.alloc (.cells #[.int .i64 a, .int .i64 b] 42)) a)
      have LB := Lib.hid (L1.out (wr.alloc (.cells #[.int .i64 a, .int .i64 b] 42)) b)
      clear hc1 ha hb2 hbe HT HB HA HL hbb
      by_cases h1 : 0 ≤ a ∧ a ≤ (n : Int) - 1
      · rw [decide_eq_true h1] at LA
        by_cases h2 : 0 ≤ b ∧ b ≤ (n : Int) - 1
        · rw [decide_eq_true h2] at LB
          have HF := Lib.hid (HN.out (by omega))
          clear HBK HN h1 h2
          go_wp2_with fail
          refine LA.out.mono ?_
          rintro e w5 ⟨rfl, rfl⟩
          go_wp2_with fail
          refine LB.out.mono ?_
          rintro e w5 ⟨rfl, rfl⟩
          go_wp2_with fail
          go_roundw
          case rel => exact ⟨k + 1, by omega, by go_num, HF, HBA.out⟩
          case measure => simp [intOf]; omega
        · rw [decide_eq_false h2] at LB
          have HF := Lib.hid (HBK.out (by omega))
          clear HBK HN h1 h2
          go_wp2_with fail
          refine LA.out.mono ?_
          rintro e w5 ⟨rfl, rfl⟩
          go_wp2_with fail
          refine LB.out.mono ?_
          rintro e w5 ⟨rfl, rfl⟩
          go_wp2_with fail
          go_ret
          exact ⟨ret_bool HF.out.symm, HBA.out⟩
      · rw [decide_eq_false h1] at LA
        have HF := Lib.hid (HBK.out (by omega))
        clear HBK HN h1
        go_wp2_with fail
        refine LA.out.mono ?_
        rintro e w5 ⟨rfl, rfl⟩
        go_wp2_with fail
        go_ret
        exact ⟨ret_bool HF.out.symm, HBA.out⟩
    · obtain rfl : k = m := by omega
      have HF : Hid (decide ((k : Int) ≤ 24) = r) := by
        show _ = _
        by_cases h : k ≤ 24
        · rw [HA.out h HT.out, decide_eq_true (by omega)]
        · rw [HL.out (by omega), decide_eq_false (by omega)]
      clear HB HA HL
      go_wp2
      go_ret
      exact ⟨ret_bool HF.out, hbe⟩
set_option maxHeartbeats 1000000 in
theorem l2Asked_any (n : Int) (A : Option Addr) (m c B0 : Nat) (qs : List (Int × Int)) (w : World) (h : RdQ w B0 A m qs) (hB0 : B0 ≤ w.heap.size) (hb : m ≤ 1048576) :
    Calls Try.prog 83 #[.int .i64 n, .slice A m c] w fun e w' => e = .returned (.bool (usB n qs)) ∧ Below w.heap.size w w' := by
  have L := Lib.hid (l1In_any n 1 16 w)
  obtain ⟨r, hr⟩ : ∃ r, r = usB n qs := ⟨_, rfl⟩
  rw [← hr]
  by_cases hn : 1 ≤ n ∧ n ≤ 16
  · obtain ⟨k, rfl⟩ : ∃ k : Nat, n = k := ⟨n.toNat, by omega⟩
    have P := Lib.hid (l2Pairs_any k A m c B0 qs w (by omega) h hB0 hb)
    have HR : Hid (r = okQ (k : Int) qs) := by
      show _ = _
      rw [hr]
      unfold usB newOk
      rw [decide_eq_true hn]
      rfl
    rw [decide_eq_true hn] at L
    clear hr h hn
    go_enter Try.func83, Try.ntmps83
    go_wp2_with fail
    refine L.out.mono ?_
    rintro e w2 ⟨rfl, rfl⟩
    go_wp2_with fail
    refine P.out.mono ?_
    rintro e w2 ⟨rfl, hb2⟩
    go_wp2_with fail
    go_ret
    exact ⟨ret_bool HR.out.symm, hb2⟩
  · rw [decide_eq_false hn] at L
    have HR : Hid (r = false) := by
      show _ = _
      rw [hr]
      exact usB_n hn
    clear hr h hn
    go_enter Try.func83, Try.ntmps83
    go_wp2_with fail
    refine L.out.mono ?_
    rintro e w2 ⟨rfl, rfl⟩
    go_wp2_with fail
    go_ret
    exact ⟨ret_bool HR.out.symm, Below.refl _ _⟩
end Go.Proofs.Ytebgnaiibomjkaa
