/- Comparisons of slices of slices of integers: the laws' eqIntSS, the library's slices.Equal and slices.EqualFunc with it. Condition: lengths up to 1048576. -/
import Derived.Test.YtebgnaiibomjkaaRdR
namespace Go.Proofs.Ytebgnaiibomjkaa
open Go.RowKit

set_option maxHeartbeats 800000 in
theorem slEqual_any (A1 A2 : Option Addr) (n1 c1 n2 c2 B B' : Nat) (xs ys : List Int) (w : World) (h1 : Rd w B A1 n1 xs) (h2 : Rd w B' A2 n2 ys) (hb : n1 ≤ 1048576) (hb2 : n2 ≤ 1048576) :
    Calls Try.prog 80 #[.slice A1 n1 c1, .slice A2 n2 c2] w fun e w' => e = .returned (.bool (decide (xs = ys))) ∧ ∃ n, w' = w.drewN n := by
  by_cases hn : n1 = n2
  · subst hn
    have l1 := h1.1
    have l2 := h2.1
    have L1 : xs.length ≤ n1 := by omega
    have L2 : ys.length ≤ n1 := by omega
    have L3 : n1 ≤ xs.length := by omega
    have L4 : n1 ≤ ys.length := by omega
    clear l1 l2
    go_enter Try.func80, Try.ntmps80
    go_wp2
    go_loopw [13] (fun i wr => ∃ k m : Nat, k ≤ n1 ∧ i = .int .i64 k ∧ xs.take k = ys.take k ∧ wr = w.drewN m) (fun i _ => n1 - (intOf i).toNat)
    case atStart => exact ⟨0, 0, Nat.zero_le _, rfl, by simp, rfl⟩
    case round =>
      obtain ⟨k, m, hk, rfl, ht, rfl⟩ := hrel
      by_cases hlt : k < n1
      · obtain ⟨b, off, rfl, _, hc1⟩ := h1.2 (by omega)
        obtain ⟨b2, off2, rfl, _, hc2⟩ := h2.2 (by omega)
        have g1 := hc1 k hlt
        have g2 := hc2 k hlt
        clear hc1 hc2
        by_cases he : xs[k]?.getD 0 = ys[k]?.getD 0
        · have hs := take_succ_eq ht (by omega) (by omega) he
          have H := Lib.hid hs
          clear hs ht
          have hne : (xs[k]?.getD 0 != ys[k]?.getD 0) = false := by simp [he]
          clear he
          go_wp2
          go_quiet (fail)
          go_wp2
          go_roundw
          case rel => exact ⟨k + 1, _, by omega, by go_num, H.out, rfl⟩
          case measure => simp [intOf]; omega
        · have hf : decide (xs = ys) = false := by simp; exact ne_of_get he
          have H := Lib.hid hf
          clear hf ht
          have hne : (xs[k]?.getD 0 != ys[k]?.getD 0) = true := by simp [he]
          clear he
          go_wp2
          go_quiet (fail)
          go_wp2
          go_ret
          exact ⟨ret_bool H.out.symm, _, World.drewN_drewN _ _ _⟩
      · have hf : decide (xs = ys) = true := by simp; exact eq_of_take ht (by omega) (by omega)
        have H := Lib.hid hf
        clear hf ht
        go_wp2
        go_ret
        exact ⟨ret_bool H.out.symm, _, rfl⟩
  · have hf : decide (xs = ys) = false := by simp; rintro rfl; exact hn (h1.1.symm.trans h2.1)
    have H := Lib.hid hf
    clear hf
    have hne : ((n1 : Int) != (n2 : Int)) = true := by simp; omega
    go_enter Try.func80, Try.ntmps80
    go_wp2
    go_ret
    exact ⟨ret_bool H.out.symm, 0, rfl⟩

set_option maxHeartbeats 1600000 in
/-- slices.EqualFunc of two slices of slices, told by slices.Equal. -/
theorem equalFunc_any (A1 A2 : Option Addr) (n1 c1 n2 c2 B B' : Nat) (xs ys : List (List Int)) (w : World) (h1 : RdR w B A1 n1 xs) (h2 : RdR w B' A2 n2 ys) (hb : n1 ≤ 1048576) (hb2 : n2 ≤ 1048576) :
    Calls Try.prog 112 #[.slice A1 n1 c1, .slice A2 n2 c2, .func (.func 80) #[] #[]] w fun e w' => e = .returned (.bool (decide (xs = ys))) ∧ ∃ n, w' = w.drewN n := by
  have l1 := h1.1
  have l2 := h2.1
  by_cases hn : n1 = n2
  · subst hn
    have L1 : xs.length ≤ n1 := by omega
    have L2 : ys.length ≤ n1 := by omega
    have L3 : n1 ≤ xs.length := by omega
    have L4 : n1 ≤ ys.length := by omega
    clear l1 l2
    go_enter Try.func112, Try.ntmps112
    go_wp2
    go_loopw [17] (fun i wr => ∃ k : Nat, k ≤ n1 ∧ i = .int .i64 k ∧ xs.take k = ys.take k ∧ Hid (∃ m, wr = w.drewN m)) (fun i _ => n1 - (intOf i).toNat)
    case atStart => exact ⟨0, Nat.zero_le _, rfl, by simp, ⟨0, rfl⟩⟩
    case round =>
      obtain ⟨k, hk, rfl, ht, HW⟩ := hrel
      by_cases hlt : k < n1
      · obtain ⟨b, off, rfl, _, hc1⟩ := h1.2 (by omega)
        obtain ⟨b2, off2, rfl, _, hc2⟩ := h2.2 (by omega)
        obtain ⟨A3, n3, c3, g1, r1, b3⟩ := hc1 k hlt
        obtain ⟨A4, n4, c4, g2, r2, b4⟩ := hc2 k hlt
        have hold : ∀ a, wr.cell? a = w.cell? a := by obtain ⟨m, e⟩ := HW.out; intro a; rw [e]; rfl
        rw [← hold] at g1 g2
        have LS := Lib.hid (slEqual_any A3 A4 n3 c3 n4 c4 B B' (xs[k]?.getD []) (ys[k]?.getD []) wr (by obtain ⟨m, e⟩ := HW.out; rw [e]; exact r1) (by obtain ⟨m, e⟩ := HW.out; rw [e]; exact r2) b3 b4)
        clear hc1 hc2 hold r1 r2
        by_cases he : xs[k]?.getD [] = ys[k]?.getD []
        · have hs := take_succ_rows ht (by omega) (by omega) he
          have H := Lib.hid hs
          have hd := row_test he
          have LS := LS.out
          rw [hd] at LS
          have LS := Lib.hid LS
          clear hs ht he hd
          go_wp2_with fail
          refine LS.out.mono ?_
          rintro e w' ⟨rfl, q, rfl⟩
          have HW2 := Lib.hid (drew_chain HW.out q)
          go_wp2_with fail
          go_roundw
          case rel => exact ⟨k + 1, by omega, by go_num, H.out, HW2⟩
          case measure => simp [intOf]; omega
        · have hf : decide (xs = ys) = false := by simp; exact ne_of_getR he
          have H := Lib.hid hf
          have hd := row_test_no he
          have LS := LS.out
          rw [hd] at LS
          have LS := Lib.hid LS
          clear hf ht he hd
          go_wp2_with fail
          refine LS.out.mono ?_
          rintro e w' ⟨rfl, q, rfl⟩
          have HW2 := Lib.hid (drew_chain HW.out q)
          go_wp2_with fail
          go_ret
          exact ⟨ret_bool H.out.symm, HW2.out⟩
      · have hf : decide (xs = ys) = true := by simp; exact eq_of_takeR ht (by omega) (by omega)
        have H := Lib.hid hf
        clear hf ht
        go_wp2
        go_ret
        exact ⟨ret_bool H.out.symm, HW.out⟩
  · have hf : decide (xs = ys) = false := by simp; rintro rfl; exact hn (l1.symm.trans l2)
    have H := Lib.hid hf
    clear hf l1 l2
    have hne : ((n1 : Int) != (n2 : Int)) = true := by simp; omega
    go_enter Try.func112, Try.ntmps112
    go_wp2
    go_ret
    exact ⟨ret_bool H.out.symm, 0, rfl⟩
/-- The text stands in every seat, whatever the seat holds of it. -/
theorem eqRows_here : 0 = 0 := rfl
end Go.Proofs.Ytebgnaiibomjkaa
