/- Contracts of the laws' helpers over slices of integers: comparing two, copying one, writing marks into one of the call's own, looking at the marks. Condition: lengths up to 1048576. -/
import Derived.Test.YtecleelcnjhimaaDoorBase
namespace Go.Proofs.YtecleelcnjhimaaDoor
open Go.RowKit

theorem ret_bool {a b : Bool} (h : a = b) : Ending.returned (.bool a) = .returned (.bool b) := by rw [h]
theorem ret_int {k : IntKind} {a b : Int} (h : a = b) : Ending.returned (.int k a) = .returned (.int k b) := by rw [h]
theorem take_succ_eq {xs ys : List Int} {k : Nat} (h : xs.take k = ys.take k) (h1 : k < xs.length) (h2 : k < ys.length) (he : xs[k]?.getD 0 = ys[k]?.getD 0) : xs.take (k + 1) = ys.take (k + 1) := by
  rw [List.take_succ_eq_append_getElem h1, List.take_succ_eq_append_getElem h2, h]
  simp [h1, h2] at he
  rw [he]
theorem ne_of_get {xs ys : List Int} {k : Nat} (he : xs[k]?.getD 0 ≠ ys[k]?.getD 0) : xs ≠ ys := by rintro rfl; exact he rfl
theorem eq_of_take {xs ys : List Int} {k : Nat} (h : xs.take k = ys.take k) (h1 : xs.length ≤ k) (h2 : ys.length ≤ k) : xs = ys := by
  rwa [List.take_of_length_le h1, List.take_of_length_le h2] at h

set_option maxHeartbeats 800000 in
theorem eqIntS_any (A1 A2 : Option Addr) (n1 c1 n2 c2 B B' : Nat) (xs ys : List Int) (w : World) (h1 : Rd w B A1 n1 xs) (h2 : Rd w B' A2 n2 ys) (hb : n1 ≤ 1048576) (hb2 : n2 ≤ 1048576) :
    Calls Tryd.prog 30 #[.slice A1 n1 c1, .slice A2 n2 c2] w fun e w' => e = .returned (.bool (decide (xs = ys))) ∧ ∃ n, w' = w.drewN n := by
  by_cases hn : n1 = n2
  · subst hn
    have l1 := h1.1
    have l2 := h2.1
    have L1 : xs.length ≤ n1 := by omega
    have L2 : ys.length ≤ n1 := by omega
    have L3 : n1 ≤ xs.length := by omega
    have L4 : n1 ≤ ys.length := by omega
    clear l1 l2
    go_enter Tryd.func30, Tryd.ntmps30
    go_wp2
    go_loopw [5] (fun i wr => ∃ k m : Nat, k ≤ n1 ∧ i = .int .i64 k ∧ xs.take k = ys.take k ∧ wr = w.drewN m) (fun i _ => n1 - (intOf i).toNat)
    case atStart => exact ⟨0, 0, Nat.zero_le _, rfl, by simp, rfl⟩
    case round =>
      obtain ⟨k, m, hk, rfl, ht, rfl⟩ := hrel
      by_cases hlt : k < n1
      · obtain ⟨b, off, rfl, _, hc1⟩ := h1.2 (by omega)
        obtain ⟨b2, off2, rfl, _, hc2⟩ := h2.2 (by omega)
        have g1 := hc1 k hlt
        have g2 := hc2 k hlt
        clear hc1 hc2
        by_cases he : xs[k]?.getD 0 = ys[k]?.getD 0
        · have hs := take_succ_eq ht (by omega) (by omega) he
          have H := Lib.hid hs
          clear hs ht
          have hne : (xs[k]?.getD 0 != ys[k]?.getD 0) = false := by simp [he]
          clear he
          go_wp2
          go_quiet (fail)
          go_wp2
          go_roundw
          case rel => exact ⟨k + 1, _, by omega, by go_num, H.out, rfl⟩
          case measure => simp [intOf]; omega
        · have hf : decide (xs = ys) = false := by simp; exact ne_of_get he
          have H := Lib.hid hf
          clear hf ht
          have hne : (xs[k]?.getD 0 != ys[k]?.getD 0) = true := by simp [he]
          clear he
          go_wp2
          go_quiet (fail)
          go_wp2
          go_ret
          exact ⟨ret_bool H.out.symm, _, World.drewN_drewN _ _ _⟩
      · have hf : decide (xs = ys) = true := by simp; exact eq_of_take ht (by omega) (by omega)
        have H := Lib.hid hf
        clear hf ht
        go_wp2
        go_ret
        exact ⟨ret_bool H.out.symm, _, rfl⟩
  · have hf : decide (xs = ys) = false := by simp; rintro rfl; exact hn (h1.1.symm.trans h2.1)
    have H := Lib.hid hf
    clear hf
    have hne : ((n1 : Int) != (n2 : Int)) = true := by simp; omega
    go_enter Tryd.func30, Tryd.ntmps30
    go_wp2
    go_ret
    exact ⟨ret_bool H.out.symm, 0, rfl⟩

set_option maxHeartbeats 800000 in
theorem toIntS_any (A : Option Addr) (n c : Nat) (xs : List Int) (w : World) (h : Rd w w.heap.size A n xs) (hb : n ≤ 1048576) :
    Calls Tryd.prog 28 #[.slice A n c] w fun e w' => ∃ v, e = .returned v ∧ Own w' w.heap.size v xs ∧ Below w.heap.size w w' := by
  have l1 := h.1
  have L1 : xs.length ≤ n := by omega
  have L3 : n ≤ xs.length := by omega
  clear l1
  obtain ⟨i0, hi, hz0, hz1, hz2⟩ := info_parts Tryd.info_int
  go_enter Tryd.func28, Tryd.ntmps28
  go_wp2_with (at_make; go_must (refine wpList_make_full _ rfl _ _ 36 rfl w.heap.size 3 i0 (.int .i64 0) 1 Tryd.underlying36 hi hz0 hz1 .i64 .i64 _ _ n rfl rfl rfl rfl (by rw [hz2]; omega) (by unfold maxLen; omega) (Nat.le_refl _) ?_); intro w1 hown hgrow)
  have hz : ∀ m : Nat, m = n → Own w1 w.heap.size (.slice (some ⟨w.heap.size, 0, none⟩) n n) (xs.take 0 ++ (List.replicate n (0 : Int)).drop 0) := fun _ _ => Own.made hown
  have hb1 : Below w.heap.size w w1 := (Below.refl _ w).grown hgrow (Nat.le_refl _) (fun k e => by cases e)
  clear hown hgrow hi hz0 hz1 hz2
  go_loopw [4] (fun i wr => ∃ k : Nat, k ≤ n ∧ i = .int .i64 k ∧ Own wr w.heap.size (.slice (some ⟨w.heap.size, 0, none⟩) n n) (xs.take k ++ (List.replicate n (0 : Int)).drop k) ∧ Below w.heap.size w wr) (fun i _ => n - (intOf i).toNat)
  case atStart => exact ⟨0, Nat.zero_le _, rfl, hz n rfl, hb1⟩
  case round =>
    obtain ⟨k, hk, rfl, ho, hbe⟩ := hrel
    by_cases hlt : k < n
    · obtain ⟨b, off, rfl, _, hc1⟩ := (h.below hbe (Nat.le_refl _)).2 (by omega)
      have g1 := hc1 k hlt
      have g2 := ho.slot hlt
      have g3 := ho.free k
      have hs := ho.set_ k (xs[k]?.getD 0)
      rw [set_step (n := n) (by omega) hlt (by simp)] at hs
      have hb2 := hbe.setCell (p := ⟨w.heap.size, k, none⟩) (Nat.le_refl _) (.int .i64 (xs[k]?.getD 0))
      clear ho hc1 hz
      go_wp2
      go_roundw
      case rel => exact ⟨k + 1, by omega, by go_num, hs, hb2⟩
      case measure => simp [intOf]; omega
    · have e : xs.take k ++ (List.replicate n (0 : Int)).drop k = xs := by rw [List.take_of_length_le (by omega), List.drop_eq_nil_of_le (by simp; omega), List.append_nil]
      rw [e] at ho
      clear e hz
      go_wp2
      go_ret
      exact ⟨_, rfl, ho, hbe⟩

set_option maxHeartbeats 800000 in
theorem markIntS_any (v : Value) (k : Int) (zs : List Int) (base : Nat) (w : World) (h : Own w base v zs) (hb : zs.length ≤ 1048576) (hk0 : 0 ≤ k) (hk1 : k ≤ 4194304) :
    Calls Tryd.prog 31 #[v, .int .i64 k] w fun e w' => e = .returned (.int .i64 (k + zs.length)) ∧ Own w' base v (marks k zs.length) ∧ w.grownBy w' v.ownBlock := by
  rcases h.2 with ⟨hv, hx⟩ | ⟨g, cap, cur, hv, _⟩
  · have h0 : zs = [] := by simpa using hx
    subst h0 hv
    clear hx hb
    go_enter Tryd.func31, Tryd.ntmps31
    go_wp2
    refine wp_loop_rounds 1 ?_
    rw [rounds_succ]
    go_wp2
    go_ret
    exact ⟨ret_int (by simp), World.ownsRow_nil _ _ _ _, World.grownBy.refl _ _⟩
  · obtain ⟨n, hn⟩ : ∃ n, n = zs.length := ⟨_, rfl⟩
    rw [← hn] at hv
    subst hv
    rw [← hn]
    rw [← hn] at hb
    have L1 : zs.length ≤ n := by omega
    have L2 : n ≤ zs.length := by omega
    have ML : (marks k n).length ≤ n := by rw [marks_len]; omega
    have ML2 : n ≤ (marks k n).length := by rw [marks_len]; omega
    clear hn
    have hz : ∀ m : Nat, m = n → Own w base (.slice (some ⟨g, 0, none⟩) n cap) ((marks k n).take 0 ++ zs.drop 0) := fun _ _ => h
    go_enter Tryd.func31, Tryd.ntmps31
    go_wp2
    go_loopw [1, 5] (fun q i wr => ∃ j : Nat, j ≤ n ∧ i = .int .i64 j ∧ q = .int .i64 (k + j) ∧ Own wr base (.slice (some ⟨g, 0, none⟩) n cap) ((marks k n).take j ++ zs.drop j) ∧ w.grownBy wr (some g)) (fun _ i _ => n - (intOf i).toNat)
    case atStart => exact ⟨0, Nat.zero_le _, rfl, by simp, hz n rfl, World.grownBy.refl _ _⟩
    case round =>
      obtain ⟨j, hj, rfl, rfl, ho, hg⟩ := hrel
      by_cases hlt : j < n
      · have g2 := ho.slot hlt
        have g3 := ho.free j
        have hs := ho.set_ j ((marks k n)[j]?.getD 0)
        rw [set_step (n := n) (by omega) hlt (by omega), marks_get k hlt] at hs
        have hg2 : w.grownBy (wr.setCell ⟨g, j, none⟩ (.int .i64 (k + j))) (some g) := ⟨hg.os, hg.tape, hg.output, by simpa [World.setCell] using hg.size, fun i hi hne => (Below.heap_setCell wr ⟨g, j, none⟩ _ i (fun e => hne (by rw [e]))).trans (hg.block i hi hne)⟩
        clear ho hz hg
        go_wp2
        go_roundw
        case rel => exact ⟨j + 1, by omega, by go_num, by go_num, hs, hg2⟩
        case measure => simp [intOf]; omega
      · have e : (marks k n).take j ++ zs.drop j = marks k n := by rw [List.take_of_length_le (by omega), List.drop_eq_nil_of_le (by omega), List.append_nil]
        rw [e] at ho
        obtain rfl : j = n := by omega
        clear e hz
        go_wp2
        go_ret
        exact ⟨rfl, ho, hg⟩

end Go.Proofs.YtecleelcnjhimaaDoor
namespace Go.Proofs.YtecleelcnjhimaaDoor
open Go.RowKit
/-- 0, 1, .., n - 1. -/
def roots (n : Nat) : List Int := (List.range n).map fun i : Nat => (i : Int)
theorem roots_len (n : Nat) : (roots n).length = n := by simp [roots]
theorem roots_get {n i : Nat} (h : i < n) : (roots n)[i]?.getD 0 = i := by simp [roots, h]
theorem roots_succ (n : Nat) : roots (n + 1) = roots n ++ [(n : Int)] := by simp [roots, List.range_succ]
/-- The number of items that NewForest makes: none where n is out of bounds. -/
def newN (n : Int) : Nat := if 1 ≤ n ∧ n ≤ 16 then n.toNat else 0
theorem newN_le (n : Int) : newN n ≤ 16 := by unfold newN; split <;> omega
def newOk (n : Int) : Bool := decide (1 ≤ n ∧ n ≤ 16)

theorem l1In_any (a b c : Int) (w : World) : Calls Tryd.prog 37 #[.int .i64 a, .int .i64 b, .int .i64 c] w fun e w' => e = .returned (.bool (decide (b ≤ a ∧ a ≤ c))) ∧ w = w' := by
  by_cases h1 : b ≤ a <;> by_cases h2 : a ≤ c
  all_goals
    have H := Lib.hid (show decide (b ≤ a ∧ a ≤ c) = decide (b ≤ a ∧ a ≤ c) from rfl)
    go_enter Tryd.func37, Tryd.ntmps37
    go_wp2
    go_ret
    exact ⟨by simp [h1, h2], rfl⟩

end Go.Proofs.YtecleelcnjhimaaDoor