/- lrHas at any slice. Condition: lengths up to 1048576. -/
import Derived.Test.YtfdkkcigmjonfaaLr
namespace Go.Proofs.Ytfdkkcigmjonfaa
open Go.RowKit

set_option maxHeartbeats 800000 in
theorem lrHas_any (A : Option Addr) (n c B : Nat) (xs : List Int) (x : Int) (w : World) (h : Rd w B A n xs) (hb : n ≤ 1048576) :
    Calls Try.prog 36 #[.slice A n c, .int .i64 x] w fun e w' => e = .returned (.bool (decide (x ∈ xs))) ∧ w' = w := by
  by_cases hx : x ∈ xs
  · rw [decide_eq_true hx]
    have l1 := h.1
    have L1 : xs.length ≤ n := by omega
    have L3 : n ≤ xs.length := by omega
    have hnf : ¬ ∀ k, k < n → xs[k]?.getD 0 ≠ x := fun hf => by
      obtain ⟨k, hk, e⟩ := List.getElem_of_mem hx
      exact hf k (by omega) (by simpa [hk] using e)
    have HX := Lib.hid hnf
    clear hx l1 hnf
    go_enter Try.func36, Try.ntmps36
    go_wp2
    go_loop [9] (fun i => ∃ k : Nat, k ≤ n ∧ i = .int .i64 k ∧ ∀ j, j < k → xs[j]?.getD 0 ≠ x) (fun i => n - (intOf i).toNat)
    case atStart => exact ⟨0, Nat.zero_le _, rfl, fun j hj => absurd hj (by omega)⟩
    case round =>
      obtain ⟨k, hk, rfl, hf⟩ := hrel
      have HF := Lib.hid hf
      clear hf
      by_cases hlt : k < n
      · obtain ⟨b, off, rfl, _, hc1⟩ := h.2 (by omega)
        have g1 := hc1 k hlt
        clear hc1
        by_cases he : xs[k]?.getD 0 = x
        · rw [he] at g1
          have heq : (x == x) = true := by simp
          clear he
          go_wp2
          go_ret
          exact ⟨rfl, rfl⟩
        · have HE : Hid (∀ j, j < k + 1 → xs[j]?.getD 0 ≠ x) := fun j hj => by
            by_cases e : j = k
            · subst e; exact he
            · exact HF.out j (by omega)
          generalize xs[k]?.getD 0 = z at g1 he
          have hne : (z == x) = false := by simp [he]
          clear he
          go_wp2
          go_round
          case rel => exact ⟨k + 1, by omega, by go_num, HE.out⟩
          case measure => simp [intOf]; omega
      · obtain rfl : k = n := by omega
        exact absurd HF.out HX.out
  · rw [decide_eq_false hx]
    exact lrHas_no A n c B xs x w h hb (fun z hz e => hx (e ▸ hz))
end Go.Proofs.Ytfdkkcigmjonfaa
