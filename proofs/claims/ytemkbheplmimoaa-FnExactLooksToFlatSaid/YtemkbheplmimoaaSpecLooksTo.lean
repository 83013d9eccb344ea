/- The model's LooksToFlat. Condition: lengths up to 1048576. -/
import Derived.Test.YtemkbheplmimoaaSpecLook3
import Derived.Test.YtemkbheplmimoaaLooksM
namespace Go.Proofs.Ytemkbheplmimoaa
open Go.RowKit

set_option maxRecDepth 100000 in
set_option maxHeartbeats 2000000 in
theorem specLooksToFlat_any (A : Option Addr) (n c B0 : Nat) (zs : List Int) (l i : Int) (w : World) (h : Rd w B0 A n zs) (hB0 : B0 ≤ w.heap.size) (hb : n ≤ 1048576) :
    Calls Try.prog 71 #[.slice A n c, .int .i64 l, .int .i64 i] w fun e w' => e = .returned (.int .i64 (looksN zs l i)) ∧ Below w.heap.size w w' := by
  have R := l1Item_any A n c B0 zs i w h hB0 hb
  have L := l3Look_any l
  have hln := h.1
  cases hv : itemB zs i with
  | false =>
    rw [hv] at R
    rw [looksN_no (by rw [hv]; rfl)]
    have R := Lib.hid R
    clear hv L h
    go_enter Try.func71, Try.ntmps71
    go_wp2_with fail
    refine R.out.mono ?_
    rintro e w1 ⟨rfl, hb1⟩
    go_wp2_with fail
    go_ret
    exact ⟨rfl, hb1⟩
  | true =>
    rw [hv] at R
    cases hl : inLook l with
    | false =>
      rw [hl] at L
      rw [looksN_no (by rw [hl]; simp)]
      have R := Lib.hid R
      have L := Lib.hid L
      clear hv hl h
      go_enter Try.func71, Try.ntmps71
      go_wp2_with fail
      refine R.out.mono ?_
      rintro e w1 ⟨rfl, hb1⟩
      go_wp2_with fail
      refine (L.out _).mono ?_
      rintro e w2 ⟨rfl, rfl⟩
      go_wp2_with fail
      go_ret
      exact ⟨rfl, hb1⟩
    | true =>
      rw [hl] at L
      have hit := item_lt hv
      obtain ⟨j, rfl⟩ := Int.eq_ofNat_of_zero_le hit.1
      have hfv := item_fv hv
      have h16 := (fv_parts hfv).2.1
      have hn16 : n ≤ 16 := by omega
      have hjn : j < n := by omega
      obtain ⟨r, hr⟩ : ∃ r, r = looksN zs l (j : Int) := ⟨_, rfl⟩
      rw [← hr]
      have HV : Hid (r = firstFlat (lookAt l) zs j 0 17) := by
        show _ = _
        rw [hr, looksN_yes (by rw [hv, hl]; rfl), Int.toNat_natCast]
      have R := Lib.hid R
      have L := Lib.hid L
      have HFV := Lib.hid hfv
      have HN := Lib.hid hln
      have H := Lib.hid h
      have HLk := Lib.hid (inLook_parts hl)
      clear hv hl hit h hln hr hfv h16
      go_enter Try.func71, Try.ntmps71
      go_wp2_with fail
      refine R.out.mono ?_
      rintro e w1 ⟨rfl, hb1⟩
      have H1 := Lib.hid (H.out.below hb1 hB0)
      have hs1 := hb1.size
      have HB1 := Lib.hid hb1
      clear hb1
      go_wp2_with fail
      refine (L.out _).mono ?_
      rintro e w2 ⟨rfl, rfl⟩
      go_wp2_with (at_builtin; go_must (refine wpList_copy rfl (.tmp 18) (.tmp 19) rfl w1 A n c B0 zs rfl rfl H1.out (by omega) (by omega) (by omega) ?_); intro g2 k2 w3 ho3 hb3)
      have HQ0 : Hid (Own w3 w.heap.size (.slice (some ⟨g2, 0, none⟩) n k2) (againL (lookAt l) zs j 0) ∧ Below w.heap.size w w3) := ⟨ho3.less hs1, HB1.out.trans (hb3.mono hs1)⟩
      clear ho3 hb3 H1
      go_loopw [7, 21] (fun v t wr => ∃ k : Nat, k ≤ 17 ∧ t = .int .i64 k ∧ (∃ g k1, v = .slice (some ⟨g, 0, none⟩) n k1) ∧ Hid (Own wr w.heap.size v (againL (lookAt l) zs j k) ∧ Below w.heap.size w wr) ∧ Hid (∀ q, q < k → ¬ dist (againL (lookAt l) zs j q) j ≤ 1)) (fun _ t _ => 17 - (intOf t).toNat)
      case atStart => exact ⟨0, Nat.zero_le _, rfl, ⟨_, _, rfl⟩, HQ0, fun q hq => absurd hq (by omega)⟩
      case round =>
        obtain ⟨k, hk, rfl, ⟨g, kk, rfl⟩, HQ, HD⟩ := hrel
        clear HQ0
        by_cases hlt : k < 17
        · obtain ⟨ho, hbe⟩ := HQ.out
          have S := again_shr (look_kind l) HFV.out (i := j) (by have := HN.out; omega) k
          have hlU : (againL (lookAt l) zs j k).length = n := S.len.trans HN.out
          have hrd : Rd wr wr.heap.size (some ⟨g, 0, none⟩) n (againL (lookAt l) zs j k) := ho.rd
          have WY := Lib.hid (l1Way_any (some ⟨g, 0, none⟩) n kk wr.heap.size j (againL (lookAt l) zs j k) wr hrd (Nat.le_refl _) (by omega) (fv_in S.fv) hjn)
          have hWl : (way (againL (lookAt l) zs j k) n j).length ≤ n := by
            have := (fv_parts S.fv).2.2.2 j (by omega)
            rwa [hlU] at this
          have hW1 := (way_len (againL (lookAt l) zs j k) n j).1
          have hDe : dist (againL (lookAt l) zs j k) j = (way (againL (lookAt l) zs j k) n j).length - 1 := by
            unfold dist wayOf
            rw [hlU]
          have UP := Lib.hid (fun (w4 : World) (hb4 : Below wr.heap.size wr w4) => l3Up_any (some ⟨g, 0, none⟩) n kk wr.heap.size j (againL (lookAt l) zs j k) l w4 (hrd.below hb4 (Nat.le_refl _)) hb4.size S.fv hjn HLk.out)
          have HL2 := Lib.hid ((lookT_shr (look_kind l) S.fv (i := j) (by omega)).len.trans hlU)
          have HBE := Lib.hid hbe
          have HIL : (ints (way (againL (lookAt l) zs j k) n j)).length = (way (againL (lookAt l) zs j k) n j).length := ints_len _
          obtain ⟨d, hd⟩ : ∃ d, d = (ints (way (againL (lookAt l) zs j k) n j)).length := ⟨_, rfl⟩
          have hd16 : d ≤ 16 := by omega
          have HDE : Hid (dist (againL (lookAt l) zs j k) j = d - 1) := by
            show _ = _
            rw [hDe, hd, HIL]
          have HDD := Lib.hid hd
          clear ho hbe S hlU hrd hWl hW1 hDe HIL hd HQ
          by_cases hd2 : d ≤ 2
          · have HE := Lib.hid (HV.out.trans (firstFlat_at hlt HD.out (by have := HDE.out; omega)))
            have hdi : (d : Int) ≤ 2 := by omega
            clear HD HDE UP
            go_wp2_with fail
            refine WY.out.mono ?_
            rintro e w4 ⟨v4, rfl, ho4, hb4⟩
            obtain ⟨A4, c4, rfl, _⟩ := ho4.form
            rw [← HDD.out]
            have HB4 := Lib.hid (HBE.out.trans (hb4.mono HBE.out.size))
            clear ho4 hb4 HDD
            go_wp2
            go_ret
            exact ⟨ret_int HE.out.symm, HB4.out⟩
          · have hdi : ¬ ((d : Int) ≤ 2) := by omega
            have hdi2 : (2 : Int) < (d : Int) := by omega
            have HD2 : Hid (∀ q, q < k + 1 → ¬ dist (againL (lookAt l) zs j q) j ≤ 1) := fun q hq => by
              by_cases e : q = k
              · rw [e, HDE.out]; omega
              · exact HD.out q (by omega)
            clear HD HDE hd2
            go_wp2_with fail
            refine WY.out.mono ?_
            rintro e w4 ⟨v4, rfl, ho4, hb4⟩
            obtain ⟨A4, c4, rfl, _⟩ := ho4.form
            rw [← HDD.out]
            have UP4 := Lib.hid (UP.out w4 hb4)
            have HB4 := Lib.hid (HBE.out.trans (hb4.mono HBE.out.size))
            clear ho4 hb4 HDD UP
            go_wp2_with fail
            refine UP4.out.mono ?_
            rintro e w5 ⟨v5, rfl, ho5, hb5⟩
            obtain ⟨A5, c5, rfl, _⟩ := ho5.form
            have hl5 := HL2.out
            have ho6 := ho5
            rw [hl5] at ho6 ⊢
            obtain ⟨g5, rfl⟩ := own_head ho6 (by omega)
            have HQ5 : Hid (Own w5 w.heap.size (.slice (some ⟨g5, 0, none⟩) n c5) (againL (lookAt l) zs j (k + 1)) ∧ Below w.heap.size w w5) := ⟨ho6.less HB4.out.size, HB4.out.trans (hb5.mono HB4.out.size)⟩
            clear ho5 ho6 hb5 hl5
            go_wp2
            go_roundw
            case rel => exact ⟨k + 1, by omega, by go_num, ⟨_, _, rfl⟩, HQ5, HD2⟩
            case measure => simp [intOf]; omega
        · obtain rfl : k = 17 := by omega
          have HE := Lib.hid (HV.out.trans (firstFlat_never HD.out))
          obtain ⟨_, hbe⟩ := HQ.out
          clear HQ HD
          go_wp2
          go_ret
          exact ⟨ret_int HE.out.symm, hbe⟩
end Go.Proofs.Ytemkbheplmimoaa
