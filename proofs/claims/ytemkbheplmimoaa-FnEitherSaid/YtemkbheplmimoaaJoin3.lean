/- The rest of a join of the program: which rule it is, the links of a joining. Conditions: lengths up to 1048576. -/
import Derived.Test.YtemkbheplmimoaaJoin2
import Derived.Test.YtemkbheplmimoaaTell
import Derived.Test.YtemkbheplmimoaaLookFrom
namespace Go.Proofs.Ytemkbheplmimoaa
open Go.RowKit Go.Shelf

theorem nx_list {u : List Int} (hb : InB u) : ((List.range u.length).map fun x : Nat => (nx u x : Int)) = u := by
  refine List.ext_getElem (by simp) fun i h1 h2 => ?_
  rw [List.getElem_map, List.getElem_range, nx_links hb h2, List.getElem?_eq_getElem h2]
  rfl
theorem ruleFor_no (r : Int) (h : ¬ (0 ≤ r ∧ r ≤ 2)) (w : World) : Calls Try.prog 84 #[.int .i64 r] w fun e w' => e = .returned .nilIface ∧ w = w' := by
  have h0 : (r == 0) = false := by simp; omega
  have h1 : (r == 1) = false := by simp; omega
  have h2 : (r == 2) = false := by simp; omega
  clear h
  go_enter Try.func84, Try.ntmps84
  go_wp2
  go_ret
  exact ⟨rfl, rfl⟩
theorem ruleFor_yes (r : Int) (h : 0 ≤ r ∧ r ≤ 2) (w : World) : Calls Try.prog 84 #[.int .i64 r] w fun e w' => e = .returned (.iface (ruleT r) (.agg #[])) ∧ w = w' := by
  rcases (show r = 0 ∨ r = 1 ∨ r = 2 by omega) with rfl | rfl | rfl
  · go_enter Try.func84, Try.ntmps84
    go_wp2
    go_ret
    exact ⟨rfl, rfl⟩
  · go_enter Try.func84, Try.ntmps84
    go_wp2
    go_ret
    exact ⟨rfl, rfl⟩
  · go_enter Try.func84, Try.ntmps84
    go_wp2
    go_ret
    exact ⟨rfl, rfl⟩

set_option maxRecDepth 100000 in
set_option maxHeartbeats 2000000 in
theorem forest_any (J M N n : Nat) (sz ht : Nat → Nat) (u : List Int) (w : World) (hm : MemK w M N n n sz ht) (hj : Boxed w J 147 (.slice (some ⟨M, 0, none⟩) n n)) (hN : Nd w N u) (hv : fvB u = true) (hn : u.length = n) (hb : n ≤ 1048576) :
    Calls Try.prog 87 #[.pointer (some ⟨J, 0, none⟩)] w fun e w' => ∃ v, e = .returned v ∧ Own w' w.heap.size v u ∧ Below w.heap.size w w' := by
  have cJ := hj.cell
  have HJ := Lib.hid hj
  have HM := Lib.hid hm
  have HNd := Lib.hid hN
  have HV := Lib.hid hv
  have HN := Lib.hid hn
  obtain ⟨i0, hi, hz0, hz1, hz2⟩ := info_parts Try.info_int
  clear hj hm hN hv hn
  go_enter Try.func87, Try.ntmps87
  go_wp2_with (at_make; go_must (refine wpList_make_full _ rfl _ _ 23 rfl w.heap.size 3 i0 (.int .i64 0) 1 Try.underlying23 hi hz0 hz1 .i64 .i64 _ _ n rfl rfl rfl rfl (by rw [hz2]; omega) (by unfold maxLen; omega) (Nat.le_refl _) ?_); intro w1 hown hgrow; have hb1 : Below w.heap.size w w1 := (Below.refl _ w).grown hgrow (Nat.le_refl _) (fun k e => by cases e); have cJ1 := (World.cell?_of_block (hb1.block J HJ.out.lt)).trans cJ)
  have H0 : Hid (Own w1 w.heap.size (.slice (some ⟨w.heap.size, 0, none⟩) n n) (tellL (nx u) n 0)) := by
    rw [tellL_zero]
    exact Own.made hown
  clear hown hgrow hi hz0 hz1 hz2
  go_loopw [17] (fun i wr => ∃ k : Nat, k ≤ n ∧ i = .int .i64 k ∧ Hid (Own wr w.heap.size (.slice (some ⟨w.heap.size, 0, none⟩) n n) (tellL (nx u) n k)) ∧ Below w.heap.size w wr) (fun i _ => n - (intOf i).toNat)
  case atStart => exact ⟨0, Nat.zero_le _, rfl, H0, hb1⟩
  case round =>
    obtain ⟨k, hk, rfl, HO, hbe⟩ := hrel
    clear H0 hb1 cJ cJ1
    by_cases hlt : k < n
    · obtain ⟨⟨q1, q2, q3⟩, _⟩ := (HM.out.below hbe HM.out.lt).cells hlt
      rw [if_pos hlt] at q1
      have hkk : (k : Int) < (n : Int) := by omega
      obtain ⟨w2, hw2⟩ : ∃ w2, w2 = ((wr.alloc (.cells #[.pointer (some (nadr N k)), .int .i64 (sz k : Int), .int .i64 (ht k : Int)] 114))) := ⟨_, rfl⟩
      have hb2 : Below w.heap.size w w2 := by rw [hw2]; exact (hbe.alloc hbe.size _)
      have hO2 : Own w2 w.heap.size (.slice (some ⟨w.heap.size, 0, none⟩) n n) (tellL (nx u) n k) := by
        rw [hw2]
        exact HO.out.keep ((Below.refl _ wr).alloc (Nat.le_refl _) _) (Nat.le_refl _)
      have LK := Lib.hid (link_any N k u w2 ((HNd.out.eq (hb2.block N HNd.out.lt)).nodes) HV.out (by rw [HN.out]; exact hlt))
      have HO3 : Hid (∀ w3, Below w2.heap.size w2 w3 → Own w3 w.heap.size (.slice (some ⟨w.heap.size, 0, none⟩) n n) (tellL (nx u) n k) ∧ Below w.heap.size w w3) := fun w3 hb3 => ⟨hO2.keep hb3 (Nat.le_refl _), hb2.trans (hb3.mono hb2.size)⟩
      clear HO hbe hb2 hO2
      subst hw2
      go_wp2_with fail
      refine LK.out.mono ?_
      rintro e w3 ⟨rfl, hb3⟩
      obtain ⟨ho, hbe⟩ := HO3.out w3 hb3
      have hsl := ho.slot hlt
      have hfr := ho.free k
      have hns := ho.set_ k (nx u k : Int)
      rw [tellL_set (nx u) hlt] at hns
      have HNS := Lib.hid hns
      have hb4 := Lib.hid (hbe.setCell (p := ⟨w.heap.size, k, none⟩) (Nat.le_refl _) (.int .i64 (nx u k : Int)))
      clear hns ho hbe hb3 q1 q2 q3
      go_wp2
      go_roundw
      case rel => exact ⟨k + 1, by omega, by go_num, HNS, hb4.out⟩
      case measure => simp [intOf]; omega
    · obtain rfl : k = n := by omega
      go_wp2
      go_ret
      refine ⟨_, rfl, ?_, hbe⟩
      have := HO.out
      rw [← HN.out, tellL_all, nx_list (fv_in HV.out)] at this
      rw [← HN.out]
      exact this
end Go.Proofs.Ytemkbheplmimoaa
