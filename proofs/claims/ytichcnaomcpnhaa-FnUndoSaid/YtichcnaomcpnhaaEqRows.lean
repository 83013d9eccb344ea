/- Comparisons of slices of slices of integers: the laws' eqIntSS, the library's slices.Equal and slices.EqualFunc with it. Condition: lengths up to 1048576. -/
import Derived.Test.YtichcnaomcpnhaaRdR
namespace Go.Proofs.Ytichcnaomcpnhaa
open Go.RowKit

set_option maxHeartbeats 800000 in
theorem slEqual_any (A1 A2 : Option Addr) (n1 c1 n2 c2 B B' : Nat) (xs ys : List Int) (w : World) (h1 : Rd w B A1 n1 xs) (h2 : Rd w B' A2 n2 ys) (hb : n1 ≤ 1048576) (hb2 : n2 ≤ 1048576) :
    Calls Try.prog 66 #[.slice A1 n1 c1, .slice A2 n2 c2] w fun e w' => e = .returned (.bool (decide (xs = ys))) ∧ ∃ n, w' = w.drewN n := by
  by_cases hn : n1 = n2
  · subst hn
    have l1 := h1.1
    have l2 := h2.1
    have L1 : xs.length ≤ n1 := by omega
    have L2 : ys.length ≤ n1 := by omega
    have L3 : n1 ≤ xs.length := by omega
    have L4 : n1 ≤ ys.length := by omega
    clear l1 l2
    go_enter Try.func66, Try.ntmps66
    go_wp2
    go_loopw [13] (fun i wr => ∃ k m : Nat, k ≤ n1 ∧ i = .int .i64 k ∧ xs.take k = ys.take k ∧ wr = w.drewN m) (fun i _ => n1 - (intOf i).toNat)
    case atStart => exact ⟨0, 0, Nat.zero_le _, rfl, by simp, rfl⟩
    case round =>
      obtain ⟨k, m, hk, rfl, ht, rfl⟩ := hrel
      by_cases hlt : k < n1
      · obtain ⟨b, off, rfl, _, hc1⟩ := h1.2 (by omega)
        obtain ⟨b2, off2, rfl, _, hc2⟩ := h2.2 (by omega)
        have g1 := hc1 k hlt
        have g2 := hc2 k hlt
        clear hc1 hc2
        by_cases he : xs[k]?.getD 0 = ys[k]?.getD 0
        · have hs := take_succ_eq ht (by omega) (by omega) he
          have H := Lib.hid hs
          clear hs ht
          have hne : (xs[k]?.getD 0 != ys[k]?.getD 0) = false := by simp [he]
          clear he
          go_wp2
          go_quiet (fail)
          go_wp2
          go_roundw
          case rel => exact ⟨k + 1, _, by omega, by go_num, H.out, rfl⟩
          case measure => simp [intOf]; omega
        · have hf : decide (xs = ys) = false := by simp; exact ne_of_get he
          have H := Lib.hid hf
          clear hf ht
          have hne : (xs[k]?.getD 0 != ys[k]?.getD 0) = true := by simp [he]
          clear he
          go_wp2
          go_quiet (fail)
          go_wp2
          go_ret
          exact ⟨ret_bool H.out.symm, _, World.drewN_drewN _ _ _⟩
      · have hf : decide (xs = ys) = true := by simp; exact eq_of_take ht (by omega) (by omega)
        have H := Lib.hid hf
        clear hf ht
        go_wp2
        go_ret
        exact ⟨ret_bool H.out.symm, _, rfl⟩
  · have hf : decide (xs = ys) = false := by simp; rintro rfl; exact hn (h1.1.symm.trans h2.1)
    have H := Lib.hid hf
    clear hf
    have hne : ((n1 : Int) != (n2 : Int)) = true := by simp; omega
    go_enter Try.func66, Try.ntmps66
    go_wp2
    go_ret
    exact ⟨ret_bool H.out.symm, 0, rfl⟩

end Go.Proofs.Ytichcnaomcpnhaa