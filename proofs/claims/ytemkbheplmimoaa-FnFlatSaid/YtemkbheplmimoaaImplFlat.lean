/- toldOf, and the program's FlatForest. Condition: lengths up to 1048576. -/
import Derived.Test.YtemkbheplmimoaaShort
import Derived.Test.YtemkbheplmimoaaLook
namespace Go.Proofs.Ytemkbheplmimoaa
open Go.RowKit Go.Shelf

theorem tellRoot_any (N i : Nat) (zs : List Int) (w : World) (hN : Nodes w N zs) (hB : N < w.heap.size) (hv : fvB zs = true) (hi : i < zs.length) :
    Calls Try.prog 127 #[.pointer (some (nadr N i))] w fun e w' => e = .returned (.int .i64 (rootI zs i : Int)) ∧ Below w.heap.size w w' := by
  have R := Lib.hid (root_any N i (wayOf zs i) zs w hN hB (fv_in hv) hi (fv_path hv hi))
  have hr := (root_is hv hi).1
  have HR : Hid (lastOf i (wayOf zs i) = rootI zs i) := rfl
  have HN := Lib.hid hN
  clear hN hv hi
  obtain ⟨r, hre⟩ : ∃ r, r = rootI zs i := ⟨_, rfl⟩
  rw [← hre] at hr HR
  rw [← hre]
  clear hre
  go_enter Try.func127, Try.ntmps127
  go_wp2_with fail
  refine R.out.mono ?_
  rintro e w1 ⟨rfl, hb1⟩
  rw [HR.out]
  have c1 := ((HN.out.below hb1 hB) r hr).1
  unfold nadr
  go_wp2
  go_ret
  exact ⟨rfl, hb1⟩
set_option maxRecDepth 100000 in
set_option maxHeartbeats 2000000 in
theorem toldRoot_any (N n c : Nat) (zs : List Int) (w : World) (hN : Nodes w N zs) (hB : N < w.heap.size) (hv : fvB zs = true) (hn : n = zs.length) :
    Calls Try.prog 126 #[.slice (some ⟨N, 0, none⟩) n c, .func (.func 127) #[] #[]] w fun e w' => ∃ g k, e = .returned (.slice (some g) n k) ∧ Own w' w.heap.size (.slice (some g) n k) (flat zs) ∧ Below w.heap.size w w' := by
  have h16 : n ≤ 16 := by have := (fv_parts hv).2.1; omega
  have R := Lib.hid (fun (w1 : World) (hb : Below w.heap.size w w1) (k : Nat) (hk : k < n) => tellRoot_any N k zs w1 (hN.below hb hB) (by have := hb.size; omega) hv (by omega))
  have HN := Lib.hid hn
  obtain ⟨i0, hi, hz0, hz1, hz2⟩ := info_parts Try.info_int
  clear hN hv hn hB
  go_enter Try.func126, Try.ntmps126
  go_wp2_with (at_make; go_must (refine wpList_make_full _ rfl _ _ 23 rfl w.heap.size 3 i0 (.int .i64 0) 1 Try.underlying23 hi hz0 hz1 .i64 .i64 _ _ n rfl rfl rfl rfl (by rw [hz2]; omega) (by unfold maxLen; omega) (Nat.le_refl _) ?_); intro w1 hown hgrow; have hb1 : Below w.heap.size w w1 := (Below.refl _ w).grown hgrow (Nat.le_refl _) (fun k e => by cases e))
  have H0 : Hid (Own w1 w.heap.size (.slice (some ⟨w.heap.size, 0, none⟩) n n) (tellL (rootI zs) n 0)) := by
    rw [tellL_zero]
    exact Own.made hown
  clear hown hgrow hi hz0 hz1 hz2
  go_loopw [12] (fun i wr => ∃ k : Nat, k ≤ n ∧ i = .int .i64 k ∧ Hid (Own wr w.heap.size (.slice (some ⟨w.heap.size, 0, none⟩) n n) (tellL (rootI zs) n k)) ∧ Below w.heap.size w wr) (fun i _ => n - (intOf i).toNat)
  case atStart => exact ⟨0, Nat.zero_le _, rfl, H0, hb1⟩
  case round =>
    obtain ⟨k, hk, rfl, HO, hbe⟩ := hrel
    clear H0 hb1
    by_cases hlt : k < n
    · have RR := Lib.hid (R.out wr hbe k hlt)
      unfold nadr at RR
      go_wp2_with fail
      refine RR.out.mono ?_
      rintro e w2 ⟨rfl, hb2⟩
      have hO2 := HO.out.keep hb2 (Nat.le_refl _)
      have hbe2 := hbe.trans (hb2.mono hbe.size)
      have hsl := hO2.slot hlt
      have hfr := hO2.free k
      have hns := hO2.set_ k (rootI zs k : Int)
      rw [tellL_set (rootI zs) hlt] at hns
      have HNS := Lib.hid hns
      have hb3 := Lib.hid (hbe2.setCell (p := ⟨w.heap.size, k, none⟩) (Nat.le_refl _) (.int .i64 (rootI zs k : Int)))
      clear hns hO2 HO hbe2 hb2
      go_wp2
      go_roundw
      case rel => exact ⟨k + 1, by omega, by go_num, HNS, hb3.out⟩
      case measure => simp [intOf]; omega
    · obtain rfl : k = n := by omega
      go_wp2
      go_ret
      refine ⟨_, _, rfl, ?_, hbe⟩
      have := HO.out
      rw [tellL_all, HN.out] at this
      unfold flat
      rw [HN.out]
      exact this
set_option maxRecDepth 100000 in
set_option maxHeartbeats 2000000 in
theorem implFlat_any (A : Option Addr) (n c B0 : Nat) (zs : List Int) (w : World) (h : Rd w B0 A n zs) (hB0 : B0 ≤ w.heap.size) (hb : n ≤ 1048576) :
    Calls Try.prog 67 #[.slice A n c] w fun e w' => ∃ v, e = .returned (.tuple #[v, .bool (fvB zs)]) ∧ Own w' w.heap.size v (flatN zs) ∧ Below w.heap.size w w' := by
  have R := Lib.hid (nodesOf_any A n c B0 zs w h hB0 hb)
  have HN := Lib.hid h.1
  have hn0 : Own w w.heap.size (.slice none 0 0) [] := ⟨by simp, .inl ⟨rfl, rfl⟩⟩
  obtain ⟨b, hbv⟩ : ∃ b, b = fvB zs := ⟨_, rfl⟩
  obtain ⟨ss, hss⟩ : ∃ ss, ss = flatN zs := ⟨_, rfl⟩
  rw [← hbv, ← hss]
  have HBV := Lib.hid hbv
  have HSS := Lib.hid hss
  have hq := fun (w : World) (a : Option Addr) (n c : Nat) => Lib.run_eql_slice_nil (P := Try.prog) w 92 97 a n c 0 0 Try.underlying92
  clear h hbv hss
  go_enter Try.func67, Try.ntmps67
  go_wp2_with fail
  refine R.out.mono ?_
  rintro e w1 ⟨hb1, ⟨hv, rfl⟩ | ⟨hv, rfl, hN, hlt⟩⟩
  · have h0 : b = false := HBV.out.trans hv
    have h00 := HSS.out.trans (flatN_no hv)
    subst h0
    subst h00
    have HO := Lib.hid (hn0.keep hb1 (Nat.le_refl _))
    clear hv
    go_wp2_with fail
    go_ret2
    exact ⟨_, rfl, HO.out, hb1⟩
  · have h0 : b = true := HBV.out.trans hv
    have h00 := Lib.hid (HSS.out.trans (flatN_yes hv))
    subst h0
    have T := Lib.hid (toldRoot_any w.heap.size n n zs w1 hN hlt hv HN.out.symm)
    have hsz := hb1.size
    clear hv hN hlt
    go_wp2_with fail
    refine T.out.mono ?_
    rintro e w2 ⟨g, k, rfl, ho, hb2⟩
    have HO := Lib.hid (ho.less hsz)
    have hbb := hb1.trans (hb2.mono hsz)
    clear ho hb2
    go_wp2_with fail
    go_ret2
    exact ⟨_, rfl, by rw [h00.out]; exact HO.out, hbb⟩
end Go.Proofs.Ytemkbheplmimoaa
