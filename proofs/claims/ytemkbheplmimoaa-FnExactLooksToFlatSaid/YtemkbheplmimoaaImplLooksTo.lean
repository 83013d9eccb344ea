/- The program's LooksToFlat. Condition: lengths up to 1048576. -/
import Derived.Test.YtemkbheplmimoaaLookFrom4
import Derived.Test.YtemkbheplmimoaaLooksM
namespace Go.Proofs.Ytemkbheplmimoaa
open Go.RowKit Go.Shelf

theorem nodeOfF_any (A : Option Addr) (n c B0 : Nat) (zs : List Int) (i : Int) (w : World) (h : Rd w B0 A n zs) (hB0 : B0 ≤ w.heap.size) (hb : n ≤ 1048576) :
    Calls Try.prog 94 #[.slice A n c, .int .i64 i] w fun e w' => Below w.heap.size w w' ∧
      ((itemB zs i = false ∧ e = .returned (.pointer none)) ∨ (∃ j : Nat, i = j ∧ itemB zs i = true ∧ e = .returned (.pointer (some ⟨w.heap.size, j * 2, none⟩)) ∧ Fill w' w.heap.size zs n ∧ w.heap.size < w'.heap.size)) := by
  have R := Lib.hid (nodesOfF_any A n c B0 zs w h hB0 hb)
  have l1 := h.1
  have L1 : zs.length ≤ n := by omega
  have L3 : n ≤ zs.length := by omega
  clear l1
  have hq := fun (w : World) (a : Option Addr) (n c : Nat) => Lib.run_eql_slice_nil (P := Try.prog) w 92 97 a n c 0 0 Try.underlying92
  go_enter Try.func94, Try.ntmps94
  go_wp2_with fail
  refine R.out.mono ?_
  rintro e w1 ⟨hb1, ⟨hv, rfl⟩ | ⟨hv, rfl, hN, hlt⟩⟩
  · have HV := Lib.hid (item_no (i := i) hv)
    clear hv
    go_wp2
    go_ret
    exact ⟨hb1, .inl ⟨HV.out, rfl⟩⟩
  · by_cases hi : 0 ≤ i ∧ i < (n : Int)
    · have HV := Lib.hid (item_of (i := i) hv hi.1 (by omega))
      have hd : decide (0 ≤ i ∧ i < (n : Int)) = true := by simpa using hi
      obtain ⟨j, rfl⟩ := Int.eq_ofNat_of_zero_le hi.1
      have hj : j < n := by omega
      clear hv hi
      go_wp2_with (go_at_call 138; refine (hasItem_any _ _ _ _ _ hb).mono ?_; rintro e w' ⟨rfl, rfl⟩)
      go_ret
      exact ⟨hb1, .inr ⟨j, rfl, HV.out, rfl, hN, hlt⟩⟩
    · have HV := Lib.hid (item_out (up := zs) (i := i) (by omega))
      have hd : decide (0 ≤ i ∧ i < (n : Int)) = false := by simpa using hi
      clear hv hi
      go_wp2_with (go_at_call 138; refine (hasItem_any _ _ _ _ _ hb).mono ?_; rintro e w' ⟨rfl, rfl⟩)
      go_ret
      exact ⟨hb1, .inl ⟨HV.out, rfl⟩⟩

theorem plain_any (l : Int) (N j : Nat) (u : List Int) (w : World) (hN : Nd w N u) (hv : fvB u = true) (hj : j < u.length) :
    Calls Try.prog 129 #[.pointer (some (nadr N j)), .func (.func (shortF l)) #[] #[]] w fun e w' => (∃ v, e = .returned v) ∧ Nd w' N (lookT (lookAt l) u j) ∧ Chg (fun b => b = N) w w' := by
  have K := look_kind l
  have h16 := (fv_parts hv).2.1
  refine (look_any (lookAt l) K (shortF l) #[] (fun b => b = N) (fun _ _ => True) N j u w hN hv hj (fun k hk => by rw [hk]; exact hN.lt) rfl (fun _ _ _ _ _ _ _ => trivial) (fun _ _ _ _ _ => trivial) trivial (short_enters l) ?_).mono ?_
  · intro pre x A c W hg hNd _ hrd hC
    obtain ⟨g1, g2⟩ := gos_snoc.1 hg
    obtain ⟨s1, s2, _⟩ := goes K hv hj pre g1
    obtain ⟨hx, hab⟩ := s2 x g2
    have hpl := gos_len K hv hj hg
    rw [List.length_append, List.length_singleton] at hpl
    have e : (#[Value.pointer (some (nadr N x)), Value.slice A pre.length c] ++ (#[] : Array Value)) = #[Value.pointer (some (nadr N x)), Value.slice A pre.length c] := by simp
    rw [e]
    refine (short_any l N x pre.length c w.heap.size W.heap.size A pre (foT (lookAt l) u pre) W hNd s1.fv (by rw [s1.len]; exact hx) (fun p hp => by rw [s1.len]; exact hab p hp) hrd hN.lt (Nat.le_refl _) (by omega)).mono ?_
    rintro e W' ⟨hv', hN', hC'⟩
    exact ⟨hv', by rw [foT_snoc]; exact hN', trivial, hC'⟩
  · rintro e w' ⟨hv', ⟨hN', _⟩, hC'⟩
    exact ⟨hv', hN', hC'⟩

set_option maxRecDepth 100000 in
set_option maxHeartbeats 4000000 in
theorem implLooksToFlat_any (A : Option Addr) (n c B0 : Nat) (zs : List Int) (l i : Int) (w : World) (h : Rd w B0 A n zs) (hB0 : B0 ≤ w.heap.size) (hb : n ≤ 1048576) :
    Calls Try.prog 70 #[.slice A n c, .int .i64 l, .int .i64 i] w fun e w' => e = .returned (.int .i64 (looksN zs l i)) ∧ Below w.heap.size w w' := by
  have R := Lib.hid (nodeOfF_any A n c B0 zs i w h hB0 hb)
  have HN := Lib.hid h.1
  obtain ⟨r, hr⟩ : ∃ r, r = looksN zs l i := ⟨_, rfl⟩
  rw [← hr]
  have HR := Lib.hid hr
  have hqf := fun (w : World) (g : Fn) (fs cs : Array Value) => run_eql_func_nil (P := Try.prog) w 136 g fs cs Try.underlying136
  have hqn := fun (w : World) => run_eql_nil_nil (P := Try.prog) w 136 Try.underlying136
  clear h hr
  have SH := shorteningFor_any l
  unfold shortV at SH
  go_enter Try.func70, Try.ntmps70
  go_wp2_with fail
  refine R.out.mono ?_
  rintro e w1 ⟨hb1, ⟨hv, rfl⟩ | ⟨j, rfl, hv, rfl, hF, hlt⟩⟩
  · have HV : Hid (r = -1) := by
      show _ = _
      rw [HR.out]
      exact looksN_no (by rw [hv]; rfl)
    clear hv
    by_cases hl : inLook l = true
    · rw [if_pos hl] at SH
      have SH2 := Lib.hid (SH w1)
      clear SH hl
      go_wp2_with fail
      refine SH2.out.mono ?_
      rintro e w2 ⟨rfl, hb2⟩
      have hbb := hb1.trans (hb2.mono hb1.size)
      clear hb1 hb2
      go_wp2
      go_ret
      exact ⟨ret_int HV.out.symm, hbb⟩
    · rw [if_neg hl] at SH
      have SH2 := Lib.hid (SH w1)
      clear SH hl
      go_wp2_with fail
      refine SH2.out.mono ?_
      rintro e w2 ⟨rfl, hb2⟩
      have hbb := hb1.trans (hb2.mono hb1.size)
      clear hb1 hb2
      go_wp2
      go_ret
      exact ⟨ret_int HV.out.symm, hbb⟩
  · by_cases hl : inLook l = true
    · have hit := item_lt hv
      have hfv := item_fv hv
      have hjz : j < zs.length := by omega
      have HV : Hid (r = firstFlat (lookAt l) zs j 0 17) := by
        show _ = _
        rw [HR.out, looksN_yes (by rw [hv, hl]; rfl), Int.toNat_natCast]
      rw [if_pos hl] at SH
      have SH2 := Lib.hid (SH w1)
      have HFV := Lib.hid hfv
      have HF := Lib.hid hF
      clear SH hl hv hF hit hfv
      go_wp2_with fail
      refine SH2.out.mono ?_
      rintro e w2 ⟨rfl, hb2⟩
      have hbb := hb1.trans (hb2.mono hb1.size)
      have hN2 : Nd w2 w.heap.size (againL (lookAt l) zs j 0) := by
        have := HF.out.below hb2 hlt
        show Fill w2 w.heap.size zs zs.length
        rw [HN.out]
        exact this
      have H0 := Lib.hid (And.intro hN2 hbb)
      clear hb1 hb2 hbb hN2 HF R SH2
      go_wp2
      go_loopw [9] (fun t wr => ∃ k : Nat, k ≤ 16 ∧ t = .int .i64 k ∧ Hid (Nd wr w.heap.size (againL (lookAt l) zs j k) ∧ Below w.heap.size w wr) ∧ Hid (∀ q, q < k → ¬ dist (againL (lookAt l) zs j q) j ≤ 1)) (fun t _ => 16 - (intOf t).toNat)
      case atStart => exact ⟨0, Nat.zero_le _, rfl, H0, fun q hq => absurd hq (by omega)⟩
      case round =>
        obtain ⟨k, hk, rfl, HQ, HD⟩ := hrel
        clear H0
        obtain ⟨hN, hbe⟩ := HQ.out
        have S := again_shr (look_kind l) HFV.out hjz k
        have hju : j < (againL (lookAt l) zs j k).length := by rw [S.len]; exact hjz
        have h16 := (fv_parts S.fv).2.1
        have hwl : (wayOf (againL (lookAt l) zs j k) j).length ≤ (againL (lookAt l) zs j k).length := (fv_parts S.fv).2.2.2 j hju
        have DP := Lib.hid (depth_any w.heap.size j (wayOf (againL (lookAt l) zs j k) j) (againL (lookAt l) zs j k) wr hN.nodes hN.lt (fv_in S.fv) hju (fv_path S.fv hju) (by omega))
        unfold nadr at DP
        obtain ⟨d, hd⟩ : ∃ d, d = (wayOf (againL (lookAt l) zs j k) j).length - 1 := ⟨_, rfl⟩
        rw [← hd] at DP
        have hd16 : d ≤ 16 := by omega
        have HDD : Hid (d = dist (againL (lookAt l) zs j k) j) := hd
        have PL := Lib.hid (fun (w3 : World) (hb3 : Below wr.heap.size wr w3) => plain_any l w.heap.size j (againL (lookAt l) zs j k) w3 (hN.eq (hb3.block _ hN.lt)) S.fv hju)
        unfold nadr at PL
        have HBE := Lib.hid hbe
        clear hN hbe S hju h16 hwl hd HQ
        by_cases hd1 : d ≤ 1
        · have HE := Lib.hid (HV.out.trans (firstFlat_at (by omega) HD.out (by rw [← HDD.out]; exact hd1)))
          have hdi : ¬ ((1 : Int) < (d : Int)) := by omega
          clear HD HDD PL
          go_wp2_with fail
          refine DP.out.mono ?_
          rintro e w3 ⟨rfl, hb3⟩
          have HB3 := Lib.hid (HBE.out.trans (hb3.mono HBE.out.size))
          clear hb3
          go_wp2
          go_ret
          exact ⟨ret_int HE.out.symm, HB3.out⟩
        · have hdi : (1 : Int) < (d : Int) := by omega
          have hnd : ∀ q, q < k + 1 → ¬ dist (againL (lookAt l) zs j q) j ≤ 1 := fun q hq => by
            by_cases e : q = k
            · rw [e, ← HDD.out]; exact hd1
            · exact HD.out q (by omega)
          have HD2 := Lib.hid hnd
          clear hnd HD HDD hd1
          by_cases hk16 : k = 16
          · subst hk16
            have HE := Lib.hid (HV.out.trans (firstFlat_never HD2.out))
            clear HD2 PL
            go_wp2_with fail
            refine DP.out.mono ?_
            rintro e w3 ⟨rfl, hb3⟩
            have HB3 := Lib.hid (HBE.out.trans (hb3.mono HBE.out.size))
            clear hb3
            go_wp2
            go_ret
            exact ⟨ret_int HE.out.symm, HB3.out⟩
          · have hke : ((k : Int) == 16) = false := by simp; omega
            go_wp2_with fail
            refine DP.out.mono ?_
            rintro e w3 ⟨rfl, hb3⟩
            have PL3 := Lib.hid (PL.out w3 hb3)
            have HB3 := Lib.hid (HBE.out.trans (hb3.mono HBE.out.size))
            clear hb3 PL
            go_wp2_with fail
            refine PL3.out.mono ?_
            rintro e w4 ⟨⟨v, rfl⟩, hN4, hC4⟩
            have HQ4 : Hid (Nd w4 w.heap.size (againL (lookAt l) zs j (k + 1)) ∧ Below w.heap.size w w4) := ⟨hN4, HB3.out.trans (hC4.below HB3.out.size (fun b hb => by rw [hb]; exact Nat.le_refl _))⟩
            clear hN4 hC4
            go_wp2
            go_roundw
            case rel => exact ⟨k + 1, by omega, by go_num, HQ4, HD2⟩
            case measure => simp [intOf]; omega
    · have HV : Hid (r = -1) := by
        show _ = _
        rw [HR.out]
        exact looksN_no (by simp [hl])
      rw [if_neg hl] at SH
      have SH2 := Lib.hid (SH w1)
      clear SH hl hv hF
      go_wp2_with fail
      refine SH2.out.mono ?_
      rintro e w2 ⟨rfl, hb2⟩
      have hbb := hb1.trans (hb2.mono hb1.size)
      clear hb1 hb2
      go_wp2
      go_ret
      exact ⟨ret_int HV.out.symm, hbb⟩
end Go.Proofs.Ytemkbheplmimoaa
