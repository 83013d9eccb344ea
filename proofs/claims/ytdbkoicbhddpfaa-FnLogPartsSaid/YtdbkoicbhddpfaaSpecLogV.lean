/- The model's l1Ints of two slices of one length, and its LogValid for valid logs. Condition: lengths up to 1048576. -/
import Derived.Test.YtdbkoicbhddpfaaSpecBuilt
namespace Go.Proofs.Ytdbkoicbhddpfaa
open Go.RowKit

set_option maxHeartbeats 2000000 in
theorem l1Ints_eq (A1 A2 : Option Addr) (n c1 c2 B B' : Nat) (xs ys : List Int) (w : World) (h1 : Rd w B A1 n xs) (h2 : Rd w B' A2 n ys) (hb : n ≤ 1048576) :
    Calls Try.prog 106 #[.slice A1 n c1, .slice A2 n c2] w fun e w' => e = .returned (.bool (decide (xs = ys))) ∧ ∃ n, w' = w.drewN n := by
  have l1 := h1.1
  have l2 := h2.1
  have L1 : xs.length ≤ n := by omega
  have L2 : ys.length ≤ n := by omega
  have L3 : n ≤ xs.length := by omega
  have L4 : n ≤ ys.length := by omega
  have hmn : min (n : Int) (n : Int) = (n : Int) := by omega
  clear l1 l2
  go_enter Try.func106, Try.ntmps106
  go_wp2
  go_loopw [11] (fun i wr => ∃ k m : Nat, k ≤ n ∧ i = .int .i64 k ∧ xs.take k = ys.take k ∧ wr = w.drewN m) (fun i _ => n - (intOf i).toNat)
  case atStart => exact ⟨0, 0, Nat.zero_le _, rfl, by simp, rfl⟩
  case round =>
    obtain ⟨k, m, hk, rfl, ht, rfl⟩ := hrel
    by_cases hlt : k < n
    · obtain ⟨b, off, rfl, _, hc1⟩ := h1.2 (by omega)
      obtain ⟨b2, off2, rfl, _, hc2⟩ := h2.2 (by omega)
      have g1 := hc1 k hlt
      have g2 := hc2 k hlt
      have hkk : (k : Int) < (n : Int) := by omega
      clear hc1 hc2
      by_cases he : xs[k]?.getD 0 = ys[k]?.getD 0
      · have hs := take_succ_eq ht (by omega) (by omega) he
        have H := Lib.hid hs
        clear hs ht
        have hne : (xs[k]?.getD 0 != ys[k]?.getD 0) = false := by simp [he]
        clear he
        go_wp2
        go_quiet (fail)
        go_wp2
        go_roundw
        case rel => exact ⟨k + 1, _, by omega, by go_num, H.out, rfl⟩
        case measure => simp [intOf]; omega
      · have hf : decide (xs = ys) = false := by simp; exact ne_of_get he
        have H := Lib.hid hf
        clear hf ht
        have hne : (xs[k]?.getD 0 != ys[k]?.getD 0) = true := by simp [he]
        clear he
        go_wp2
        go_quiet (fail)
        go_wp2
        go_ret
        exact ⟨ret_bool H.out.symm, _, World.drewN_drewN _ _ _⟩
    · have hf : decide (xs = ys) = true := by simp; exact eq_of_take ht (by omega) (by omega)
      have H := Lib.hid hf
      obtain rfl : k = n := by omega
      clear hf ht
      go_wp2
      go_ret
      exact ⟨ret_bool H.out.symm, _, rfl⟩
set_option maxHeartbeats 4000000 in
theorem specLogV_good (A1 A2 : Option Addr) (n c1 m c2 B0 : Nat) (xs : List Int) (ss : List (Int × Int)) (w : World) (h1 : Rd w B0 A1 n xs) (h2 : RdQ w B0 A2 m ss) (hB0 : B0 ≤ w.heap.size) (hb2 : m ≤ 1048576) (hv : logV xs ss = true) :
    Calls Try.prog 41 #[.agg #[.slice A1 n c1, .slice A2 m c2]] w fun e w' => e = .returned (.bool true) ∧ Below w.heap.size w w' := by
  obtain ⟨W, hW⟩ : ∃ W, W = w.alloc (.cells #[.slice A1 n c1, .slice A2 m c2] 26) := ⟨_, rfl⟩
  have hbW : Below w.heap.size w W := by rw [hW]; exact (Below.refl _ _).alloc (Nat.le_refl _) _
  have hA : W.heap[w.heap.size]? = some (.cells #[.slice A1 n c1, .slice A2 m c2] 26 (0, 0)) := by rw [hW]; exact World.alloc_heap_new w _
  obtain ⟨⟨p1, p16⟩, hbu, hfv⟩ := logV_parts hv
  have hl := h1.1
  rw [hl] at p1 p16 hbu
  have L1 := l1In_any (n : Int) 1 16 W
  rw [decide_eq_true (by omega)] at L1
  have BU := Lib.hid (l4Built_good n A2 m c2 B0 ss xs W (h2.below hbW hB0) (Nat.le_trans hB0 hbW.size) hb2 p1 p16 hbu)
  have L1 := Lib.hid L1
  obtain ⟨P, hP⟩ : ∃ P, P = w.heap.size := ⟨_, rfl⟩
  rw [← hP] at hA
  have hlt := (Array.getElem?_eq_some_iff.1 hA).1
  have HW := Lib.hid (And.intro hbW (And.intro hA (And.intro hlt (And.intro (h1.below hbW hB0) (Nat.le_trans hB0 hbW.size)))))
  have HE := Lib.hid (And.intro hW hP)
  have LI := Lib.hid (fun (A : Option Addr) (c : Nat) (w2 : World) (h : Rd w2 w2.heap.size A n xs) (h' : Rd w2 B0 A1 n xs) => l1Ints_eq A A1 n c c1 _ _ xs xs w2 h h' (by omega))
  have dx : decide (xs = xs) = true := by simp
  have hn1 : (n : Int) ≤ 16 := by omega
  clear h1 h2 hB0 hv hW hbW hA hbu hfv hP hlt p1 p16
  go_enter Try.func41, Try.ntmps41
  go_wp2_with fail
  rw [← HE.out.1]
  refine L1.out.mono ?_
  rintro e w1 ⟨rfl, rfl⟩
  obtain ⟨⟨a1, a2⟩, _⟩ := boxTwo_cells HW.out.2.1
  rw [HE.out.2] at a1 a2
  go_wp2_with fail
  refine BU.out.mono ?_
  rintro e w2 ⟨v, rfl, ho, hb⟩
  obtain ⟨A3, c3, rfl, hr⟩ := ho.form
  rw [hl] at hr ⊢
  obtain ⟨⟨k1, k2⟩, _⟩ := boxTwo_cells ((hb.block P HW.out.2.2.1).trans HW.out.2.1)
  rw [HE.out.2] at k1 k2
  have LI := Lib.hid (LI.out A3 c3 w2 hr (HW.out.2.2.2.1.below hb HW.out.2.2.2.2))
  have HB := Lib.hid (Below.on HW.out.1 hb)
  clear ho hb hr a1 a2 hl
  go_wp2_with fail
  refine LI.out.mono ?_
  rintro e w' ⟨rfl, j, rfl⟩
  rw [dx]
  go_wp2_with fail
  go_ret
  exact ⟨rfl, below_drewN HB.out j⟩
end Go.Proofs.Ytdbkoicbhddpfaa
