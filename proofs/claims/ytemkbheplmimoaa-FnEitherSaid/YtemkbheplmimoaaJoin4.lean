/- Is one pair of items valid for the program? No condition. -/
import Derived.Test.YtemkbheplmimoaaJoin3
namespace Go.Proofs.Ytemkbheplmimoaa
open Go.RowKit Go.Shelf

set_option maxRecDepth 100000 in
set_option maxHeartbeats 2000000 in
theorem pairsValid_one (n a b : Int) (P : Nat) (r : Bool) (hr : r = decide (0 ≤ min a b ∧ max a b < n)) (w : World) (h1 : w.cell? ⟨P, 0, none⟩ = some (.int .i64 a)) (h2 : w.cell? ⟨P, 1, none⟩ = some (.int .i64 b)) :
    Calls Try.prog 85 #[.int .i64 n, .slice (some ⟨P, 0, none⟩) 1 1] w fun e w' => e = .returned (.bool r) ∧ Below w.heap.size w w' := by
  have HR := Lib.hid hr
  clear hr
  go_enter Try.func85, Try.ntmps85
  go_wp2
  go_loopw [12] (fun i wr => ∃ k : Nat, k ≤ 1 ∧ i = .int .i64 k ∧ Hid (k = 0 → wr = w) ∧ Hid (k = 1 → r = true) ∧ Below w.heap.size w wr) (fun i _ => 1 - (intOf i).toNat)
  case atStart => exact ⟨0, by omega, rfl, fun _ => rfl, fun h => absurd h (by omega), Below.refl _ _⟩
  case round =>
    obtain ⟨k, hk, rfl, hw, HT, hbe⟩ := hrel
    rcases (show k = 0 ∨ k = 1 by omega) with rfl | rfl
    · have e := hw.out rfl
      subst e
      have hba : Below wr.heap.size wr (wr.alloc (.cells #[.int .i64 a, .int .i64 b] 42)) := (Below.refl _ wr).alloc (Nat.le_refl _) _
      have HBA := Lib.hid hba
      clear hbe hw HT hba
      rcases Int.lt_trichotomy a b with hab | hab | hab
      · have hle : a ≤ b := by omega
        by_cases hl : a < 0
        · have HF : Hid (r = false) := by
            show _ = _
            rw [HR.out, decide_eq_false (by omega)]
          clear HR
          go_wp2
          go_ret
          exact ⟨ret_bool HF.out.symm, HBA.out⟩
        · by_cases hh : n ≤ b
          · have HF : Hid (r = false) := by
              show _ = _
              rw [HR.out, decide_eq_false (by omega)]
            clear HR
            go_wp2
            go_ret
            exact ⟨ret_bool HF.out.symm, HBA.out⟩
          · have HF : Hid (r = true) := by
              show _ = _
              rw [HR.out, decide_eq_true (by omega)]
            clear HR
            go_wp2
            go_roundw
            case rel => exact ⟨1, by omega, by go_num, fun h => absurd h (by omega), fun _ => HF.out, HBA.out⟩
            case measure => simp [intOf]
      · subst hab
        by_cases hl : a < 0
        · have HF : Hid (r = false) := by
            show _ = _
            rw [HR.out, decide_eq_false (by omega)]
          clear HR
          go_wp2
          go_ret
          exact ⟨ret_bool HF.out.symm, HBA.out⟩
        · by_cases hh : n ≤ a
          · have HF : Hid (r = false) := by
              show _ = _
              rw [HR.out, decide_eq_false (by omega)]
            clear HR
            go_wp2
            go_ret
            exact ⟨ret_bool HF.out.symm, HBA.out⟩
          · have HF : Hid (r = true) := by
              show _ = _
              rw [HR.out, decide_eq_true (by omega)]
            clear HR
            go_wp2
            go_roundw
            case rel => exact ⟨1, by omega, by go_num, fun h => absurd h (by omega), fun _ => HF.out, HBA.out⟩
            case measure => simp [intOf]
      · have hle : ¬ a ≤ b := by omega
        have hlt : ¬ a < b := by omega
        by_cases hl : b < 0
        · have HF : Hid (r = false) := by
            show _ = _
            rw [HR.out, decide_eq_false (by omega)]
          clear HR
          go_wp2
          go_ret
          exact ⟨ret_bool HF.out.symm, HBA.out⟩
        · by_cases hh : n ≤ a
          · have HF : Hid (r = false) := by
              show _ = _
              rw [HR.out, decide_eq_false (by omega)]
            clear HR
            go_wp2
            go_ret
            exact ⟨ret_bool HF.out.symm, HBA.out⟩
          · have HF : Hid (r = true) := by
              show _ = _
              rw [HR.out, decide_eq_true (by omega)]
            clear HR
            go_wp2
            go_roundw
            case rel => exact ⟨1, by omega, by go_num, fun h => absurd h (by omega), fun _ => HF.out, HBA.out⟩
            case measure => simp [intOf]
    · have HF : Hid (r = true) := HT.out rfl
      go_wp2
      go_ret
      exact ⟨ret_bool HF.out.symm, hbe⟩
end Go.Proofs.Ytemkbheplmimoaa
