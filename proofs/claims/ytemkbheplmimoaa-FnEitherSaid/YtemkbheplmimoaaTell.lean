/- What SizesOf and HeightsOf tell of a member, and told: the list of it for all members. Condition: lengths up to 1048576. -/
import Derived.Test.YtemkbheplmimoaaJoining
import Derived.Test.YtemkbheplmimoaaLook
namespace Go.Proofs.Ytemkbheplmimoaa
open Go.RowKit Go.Shelf

theorem tellSize_any (a : Option Addr) (s h : Int) (w : World) :
    Calls Try.prog 111 #[.agg #[.pointer a, .int .i64 s, .int .i64 h]] w fun e w' => e = .returned (.int .i64 s) ∧ Below w.heap.size w w' := by
  go_enter Try.func111, Try.ntmps111
  go_wp2
  go_ret
  exact ⟨rfl, (Below.refl _ w).alloc (Nat.le_refl _) _⟩
theorem tellHeight_any (a : Option Addr) (s h : Int) (w : World) :
    Calls Try.prog 112 #[.agg #[.pointer a, .int .i64 s, .int .i64 h]] w fun e w' => e = .returned (.int .i64 h) ∧ Below w.heap.size w w' := by
  go_enter Try.func112, Try.ntmps112
  go_wp2
  go_ret
  exact ⟨rfl, (Below.refl _ w).alloc (Nat.le_refl _) _⟩

set_option maxRecDepth 100000 in
set_option maxHeartbeats 2000000 in
theorem toldSize_any (J M N n : Nat) (sz ht : Nat → Nat) (w : World) (hm : MemK w M N n n sz ht) (hj : Boxed w J 147 (.slice (some ⟨M, 0, none⟩) n n)) (hb : n ≤ 1048576) :
    Calls Try.prog 110 #[.pointer (some ⟨J, 0, none⟩), .func (.func 111) #[] #[]] w fun e w' => ∃ v, e = .returned v ∧ Own w' w.heap.size v ((List.range n).map fun x : Nat => (sz x : Int)) ∧ Below w.heap.size w w' := by
  have cJ := hj.cell
  have HJ := Lib.hid hj
  have HM := Lib.hid hm
  obtain ⟨i0, hi, hz0, hz1, hz2⟩ := info_parts Try.info_int
  clear hj hm
  go_enter Try.func110, Try.ntmps110
  go_wp2_with (at_make; go_must (refine wpList_make_full _ rfl _ _ 23 rfl w.heap.size 3 i0 (.int .i64 0) 1 Try.underlying23 hi hz0 hz1 .i64 .i64 _ _ n rfl rfl rfl rfl (by rw [hz2]; omega) (by unfold maxLen; omega) (Nat.le_refl _) ?_); intro w1 hown hgrow; have hb1 : Below w.heap.size w w1 := (Below.refl _ w).grown hgrow (Nat.le_refl _) (fun k e => by cases e); have cJ1 := (World.cell?_of_block (hb1.block J HJ.out.lt)).trans cJ)
  have H0 : Hid (Own w1 w.heap.size (.slice (some ⟨w.heap.size, 0, none⟩) n n) (tellL sz n 0)) := by
    rw [tellL_zero]
    exact Own.made hown
  clear hown hgrow hi hz0 hz1 hz2
  go_loopw [19] (fun i wr => ∃ k : Nat, k ≤ n ∧ i = .int .i64 k ∧ Hid (Own wr w.heap.size (.slice (some ⟨w.heap.size, 0, none⟩) n n) (tellL sz n k)) ∧ Below w.heap.size w wr) (fun i _ => n - (intOf i).toNat)
  case atStart => exact ⟨0, Nat.zero_le _, rfl, H0, hb1⟩
  case round =>
    obtain ⟨k, hk, rfl, HO, hbe⟩ := hrel
    clear H0 hb1 cJ cJ1
    by_cases hlt : k < n
    · obtain ⟨⟨q1, q2, q3⟩, _⟩ := (HM.out.below hbe HM.out.lt).cells hlt
      rw [if_pos hlt] at q1
      have hkk : (k : Int) < (n : Int) := by omega
      have hb2 : Below w.heap.size w ((wr.alloc (.cells #[.pointer (some (nadr N k)), .int .i64 (sz k : Int), .int .i64 (ht k : Int)] 114)).alloc (.cells #[.pointer (some (nadr N k)), .int .i64 (sz k : Int), .int .i64 (ht k : Int)] 114)) := (hbe.alloc hbe.size _).alloc (by have := hbe.size; simp; omega) _
      have hO2 : Own ((wr.alloc (.cells #[.pointer (some (nadr N k)), .int .i64 (sz k : Int), .int .i64 (ht k : Int)] 114)).alloc (.cells #[.pointer (some (nadr N k)), .int .i64 (sz k : Int), .int .i64 (ht k : Int)] 114)) w.heap.size (.slice (some ⟨w.heap.size, 0, none⟩) n n) (tellL sz n k) :=
        HO.out.keep (((Below.refl _ wr).alloc (Nat.le_refl _) _).alloc (by simp) _) (Nat.le_refl _)
      have hsl := hO2.slot hlt
      have hfr := hO2.free k
      have hns := hO2.set_ k (sz k : Int)
      rw [tellL_set sz hlt] at hns
      have HNS := Lib.hid hns
      have hb3 := Lib.hid (hb2.setCell (p := ⟨w.heap.size, k, none⟩) (Nat.le_refl _) (.int .i64 (sz k : Int)))
      clear hns hO2 hb2 HO
      go_wp2
      go_roundw
      case rel => exact ⟨k + 1, by omega, by go_num, HNS, hb3.out⟩
      case measure => simp [intOf]; omega
    · obtain rfl : k = n := by omega
      go_wp2
      go_ret
      exact ⟨_, rfl, by rw [← tellL_all]; exact HO.out, hbe⟩
set_option maxRecDepth 100000 in
set_option maxHeartbeats 2000000 in
theorem toldHeight_any (J M N n : Nat) (sz ht : Nat → Nat) (w : World) (hm : MemK w M N n n sz ht) (hj : Boxed w J 147 (.slice (some ⟨M, 0, none⟩) n n)) (hb : n ≤ 1048576) :
    Calls Try.prog 110 #[.pointer (some ⟨J, 0, none⟩), .func (.func 112) #[] #[]] w fun e w' => ∃ v, e = .returned v ∧ Own w' w.heap.size v ((List.range n).map fun x : Nat => (ht x : Int)) ∧ Below w.heap.size w w' := by
  have cJ := hj.cell
  have HJ := Lib.hid hj
  have HM := Lib.hid hm
  obtain ⟨i0, hi, hz0, hz1, hz2⟩ := info_parts Try.info_int
  clear hj hm
  go_enter Try.func110, Try.ntmps110
  go_wp2_with (at_make; go_must (refine wpList_make_full _ rfl _ _ 23 rfl w.heap.size 3 i0 (.int .i64 0) 1 Try.underlying23 hi hz0 hz1 .i64 .i64 _ _ n rfl rfl rfl rfl (by rw [hz2]; omega) (by unfold maxLen; omega) (Nat.le_refl _) ?_); intro w1 hown hgrow; have hb1 : Below w.heap.size w w1 := (Below.refl _ w).grown hgrow (Nat.le_refl _) (fun k e => by cases e); have cJ1 := (World.cell?_of_block (hb1.block J HJ.out.lt)).trans cJ)
  have H0 : Hid (Own w1 w.heap.size (.slice (some ⟨w.heap.size, 0, none⟩) n n) (tellL ht n 0)) := by
    rw [tellL_zero]
    exact Own.made hown
  clear hown hgrow hi hz0 hz1 hz2
  go_loopw [19] (fun i wr => ∃ k : Nat, k ≤ n ∧ i = .int .i64 k ∧ Hid (Own wr w.heap.size (.slice (some ⟨w.heap.size, 0, none⟩) n n) (tellL ht n k)) ∧ Below w.heap.size w wr) (fun i _ => n - (intOf i).toNat)
  case atStart => exact ⟨0, Nat.zero_le _, rfl, H0, hb1⟩
  case round =>
    obtain ⟨k, hk, rfl, HO, hbe⟩ := hrel
    clear H0 hb1 cJ cJ1
    by_cases hlt : k < n
    · obtain ⟨⟨q1, q2, q3⟩, _⟩ := (HM.out.below hbe HM.out.lt).cells hlt
      rw [if_pos hlt] at q1
      have hkk : (k : Int) < (n : Int) := by omega
      have hb2 : Below w.heap.size w ((wr.alloc (.cells #[.pointer (some (nadr N k)), .int .i64 (sz k : Int), .int .i64 (ht k : Int)] 114)).alloc (.cells #[.pointer (some (nadr N k)), .int .i64 (sz k : Int), .int .i64 (ht k : Int)] 114)) := (hbe.alloc hbe.size _).alloc (by have := hbe.size; simp; omega) _
      have hO2 : Own ((wr.alloc (.cells #[.pointer (some (nadr N k)), .int .i64 (sz k : Int), .int .i64 (ht k : Int)] 114)).alloc (.cells #[.pointer (some (nadr N k)), .int .i64 (sz k : Int), .int .i64 (ht k : Int)] 114)) w.heap.size (.slice (some ⟨w.heap.size, 0, none⟩) n n) (tellL ht n k) :=
        HO.out.keep (((Below.refl _ wr).alloc (Nat.le_refl _) _).alloc (by simp) _) (Nat.le_refl _)
      have hsl := hO2.slot hlt
      have hfr := hO2.free k
      have hns := hO2.set_ k (ht k : Int)
      rw [tellL_set ht hlt] at hns
      have HNS := Lib.hid hns
      have hb3 := Lib.hid (hb2.setCell (p := ⟨w.heap.size, k, none⟩) (Nat.le_refl _) (.int .i64 (ht k : Int)))
      clear hns hO2 hb2 HO
      go_wp2
      go_roundw
      case rel => exact ⟨k + 1, by omega, by go_num, HNS, hb3.out⟩
      case measure => simp [intOf]; omega
    · obtain rfl : k = n := by omega
      go_wp2
      go_ret
      exact ⟨_, rfl, by rw [← tellL_all]; exact HO.out, hbe⟩
end Go.Proofs.Ytemkbheplmimoaa
