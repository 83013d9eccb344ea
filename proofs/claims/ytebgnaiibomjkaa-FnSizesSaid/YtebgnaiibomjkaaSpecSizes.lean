/- The model's sizes and heights. Condition: lengths up to 1048576. -/
import Derived.Test.YtebgnaiibomjkaaSpec2
import Derived.Test.YtebgnaiibomjkaaHang
namespace Go.Proofs.Ytebgnaiibomjkaa
open Go.RowKit

set_option maxRecDepth 100000 in
set_option maxHeartbeats 2000000 in
theorem l2Sizes_any (A : Option Addr) (n c B0 : Nat) (zs : List Int) (w : World) (h : Rd w B0 A n zs) (hB0 : B0 ≤ w.heap.size) (hv : fvB zs = true) :
    Calls Try.prog 89 #[.slice A n c] w fun e w' => ∃ v, e = .returned v ∧ Own w' w.heap.size v (szL zs zs.length []) ∧ Below w.heap.size w w' := by
  have h16 := (fv_parts hv).2.1
  have hln := h.1
  have hn16 : n ≤ 16 := by omega
  have HV := Lib.hid hv
  have HN := Lib.hid hln
  have L1 := Lib.hid (fun (i : Nat) (hi : i < n) (w2 : World) (hb2 : Below w.heap.size w w2) => l1Way_any A n c B0 i zs w2 (h.below hb2 hB0) (Nat.le_trans hB0 hb2.size) (by omega) (fv_in hv) hi)
  obtain ⟨i0, hi, hz0, hz1, hz2⟩ := info_parts Try.info_int
  clear hv h16 hln
  go_enter Try.func89, Try.ntmps89
  go_wp2_with (at_make; go_must (refine wpList_make_full _ rfl _ _ 23 rfl w.heap.size 3 i0 (.int .i64 0) 1 Try.underlying23 hi hz0 hz1 .i64 .i64 _ _ n rfl rfl rfl rfl (by rw [hz2]; omega) (by unfold maxLen; omega) (Nat.le_refl _) ?_); intro w1 hown hgrow)
  have H0 : Hid (Own w1 w.heap.size (.slice (some ⟨w.heap.size, 0, none⟩) n n) (szL zs 0 [])) := by
    rw [szL_zero, HN.out]
    exact Own.made hown
  have hb1 : Below w.heap.size w w1 := (Below.refl _ w).grown hgrow (Nat.le_refl _) (fun k e => by cases e)
  clear hown hgrow hi hz0 hz1 hz2
  go_loopw [12] (fun i wr => ∃ k : Nat, k ≤ n ∧ i = .int .i64 k ∧ Hid (Own wr w.heap.size (.slice (some ⟨w.heap.size, 0, none⟩) n n) (szL zs k [])) ∧ Below w.heap.size w wr) (fun i _ => n - (intOf i).toNat)
  case atStart => exact ⟨0, Nat.zero_le _, rfl, H0, hb1⟩
  case round =>
    obtain ⟨k, hk, rfl, HO, hbe⟩ := hrel
    clear H0 hb1
    obtain ⟨wo, rfl⟩ : ∃ wo : World, wo = wr := ⟨_, rfl⟩
    by_cases hlt : k < n
    · have W1 := Lib.hid (L1.out k hlt wo hbe)
      have hwn := way_nodup HV.out (i := k) (by rw [HN.out]; exact hlt)
      have hwl := way_lt HV.out (i := k) (by rw [HN.out]; exact hlt)
      have hwlen := (fv_parts HV.out).2.2.2 k (by rw [HN.out]; exact hlt)
      have hnext := szL_next zs k
      rw [HN.out] at hwn hwl hwlen hnext
      have hsz := hbe.size
      have hblt := HO.out.at_base.2
      revert W1 hwn hwl hwlen hnext
      generalize way zs n k = W
      intro W1 hwn hwl hwlen hnext
      have HWN := Lib.hid hwn
      have HWL := Lib.hid hwl
      have HNX := Lib.hid hnext
      clear hwn hwl hnext
      go_wp2_with fail
      refine W1.out.mono ?_
      rintro e w2 ⟨v2, rfl, ho2, hb2⟩
      obtain ⟨A2, c2, rfl, hr2⟩ := ho2.form
      rw [ints_len] at hr2
      rw [ints_len]
      have HO := Lib.hid (HO.out.keep hb2 (Nat.le_refl _))
      have HS : Hid (Own w2 w.heap.size (.slice (some ⟨w.heap.size, 0, none⟩) n n) (szL zs k (W.take 0))) := by rw [List.take_zero]; exact HO.out
      obtain ⟨L, hL⟩ : ∃ L, L = W.length := ⟨_, rfl⟩
      have hs2 := hb2.size
      have hbe2 := hbe.trans (hb2.mono hsz)
      have hA2 : 0 < L → ∃ g2, A2 = some ⟨g2, 0, none⟩ ∧ wo.heap.size ≤ g2 ∧ g2 < w2.heap.size ∧ ∀ t, t < L → w2.cell? ⟨g2, t, none⟩ = some (.int .i64 (W[t]?.getD 0 : Nat)) := fun hp => by
        rcases ho2.2 with ⟨hv', hx⟩ | ⟨g, cap, cur, hv', hbase, hh, _⟩
        · rw [ints_len] at hx; omega
        · simp only [Value.slice.injEq] at hv'
          refine ⟨g, hv'.1, hbase, (Array.getElem?_eq_some_iff.1 hh).1, fun t ht => ?_⟩
          have ho3 := ho2
          rw [hv'.1, ints_len] at ho3
          rw [ho3.slot (by omega)]
          congr 2
          simp [ints, show t < W.length by omega]
      have HA2 := Lib.hid hA2
      have HL := Lib.hid hL
      rw [← hL]
      rw [← hL] at hwlen
      clear ho2 hr2 hb2 hbe hA2 hL HO
      go_wp2_with fail
      go_loopw [19] (fun t wr => ∃ q : Nat, q ≤ L ∧ t = .int .i64 q ∧ Hid (Own wr w.heap.size (.slice (some ⟨w.heap.size, 0, none⟩) n n) (szL zs k (W.take q))) ∧ w2.grownBy wr (some w.heap.size)) (fun t _ => L - (intOf t).toNat)
      case atStart => exact ⟨0, Nat.zero_le _, rfl, HS, World.grownBy.refl _ _⟩
      case round =>
        obtain ⟨q, hq, rfl, HQ, hg⟩ := hrel
        clear HS
        by_cases hlt2 : q < L
        · obtain ⟨g2, rfl, hg1, hg2, hc2⟩ := HA2.out (by omega)
          have g1 : wr.cell? ⟨g2, q, none⟩ = some (.int .i64 (W[q]?.getD 0 : Nat)) := (World.cell?_of_block (hg.block g2 hg2 (by simp; omega))).trans (hc2 q hlt2)
          obtain ⟨hnm, htk⟩ := way_take HWN.out (show q < W.length by have := HL.out; omega)
          have hx : W[q]?.getD 0 < n := by
            have := HL.out
            have hq' : q < W.length := by omega
            rw [List.getElem?_eq_getElem hq', Option.getD_some]
            have := HWL.out _ (List.getElem_mem hq')
            have := HN.out
            omega
          have ho := HQ.out
          have hset := szL_set (up := zs) (k := k) hnm
          have hge := szL_get (up := zs) (k := k) (x := W[q]?.getD 0) (pre := W.take q) (by rw [HN.out]; exact hx)
          have hle := szAt_le zs k (W.take q) (W[q]?.getD 0)
          rw [← htk] at hset
          have hsl := ho.slot hx
          rw [hge] at hsl
          have hfr := ho.free (W[q]?.getD 0)
          have hns := ho.set_ (W[q]?.getD 0) ((szAt zs k (W.take q) (W[q]?.getD 0) : Int) + 1)
          rw [hset] at hns
          have hgn : w2.grownBy (wr.setCell ⟨w.heap.size, W[q]?.getD 0, none⟩ (.int .i64 ((szAt zs k (W.take q) (W[q]?.getD 0) : Int) + 1))) (some w.heap.size) := ⟨hg.os, hg.tape, hg.output, by simpa [World.setCell] using hg.size, fun i hi hne => (Below.heap_setCell wr ⟨w.heap.size, W[q]?.getD 0, none⟩ _ i (fun e => hne (by rw [e]))).trans (hg.block i hi hne)⟩
          have HNS := Lib.hid hns
          have HGN := Lib.hid hgn
          revert g1 hx hsl hfr hle HNS HGN
          generalize szAt zs k (W.take q) (W[q]?.getD 0) = s
          generalize W[q]?.getD 0 = a
          intro hx hle g1 hsl hfr HNS HGN
          clear ho hns hgn hset hge hnm htk hc2 HQ hg
          go_wp2
          go_roundw
          case rel => exact ⟨q + 1, by omega, by go_num, HNS, HGN.out⟩
          case measure => simp [intOf]; omega
        · obtain rfl : q = L := by omega
          have hfin := HQ.out
          rw [show W.take q = W by rw [HL.out, List.take_length], HNX.out] at hfin
          have HF := Lib.hid hfin
          have hbw : Below w.heap.size w wr := hbe2.grown hg (by omega) (fun r e => by injection e with e; omega)
          clear hfin HQ hg
          go_wp2
          go_roundw
          case rel => exact ⟨k + 1, by omega, by go_num, HF, hbw⟩
          case measure => simp [intOf]; omega
    · obtain rfl : k = n := by omega
      go_wp2
      go_ret
      rw [HN.out]
      exact ⟨_, rfl, HO.out, hbe⟩
set_option maxRecDepth 100000 in
set_option maxHeartbeats 2000000 in
theorem l2Heights_any (A : Option Addr) (n c B0 : Nat) (zs : List Int) (w : World) (h : Rd w B0 A n zs) (hB0 : B0 ≤ w.heap.size) (hv : fvB zs = true) :
    Calls Try.prog 91 #[.slice A n c] w fun e w' => ∃ v, e = .returned v ∧ Own w' w.heap.size v (htL zs zs.length []) ∧ Below w.heap.size w w' := by
  have h16 := (fv_parts hv).2.1
  have hln := h.1
  have hn16 : n ≤ 16 := by omega
  have HV := Lib.hid hv
  have HN := Lib.hid hln
  have L1 := Lib.hid (fun (i : Nat) (hi : i < n) (w2 : World) (hb2 : Below w.heap.size w w2) => l1Way_any A n c B0 i zs w2 (h.below hb2 hB0) (Nat.le_trans hB0 hb2.size) (by omega) (fv_in hv) hi)
  obtain ⟨i0, hi, hz0, hz1, hz2⟩ := info_parts Try.info_int
  clear hv h16 hln
  go_enter Try.func91, Try.ntmps91
  go_wp2_with (at_make; go_must (refine wpList_make_full _ rfl _ _ 23 rfl w.heap.size 3 i0 (.int .i64 0) 1 Try.underlying23 hi hz0 hz1 .i64 .i64 _ _ n rfl rfl rfl rfl (by rw [hz2]; omega) (by unfold maxLen; omega) (Nat.le_refl _) ?_); intro w1 hown hgrow)
  have H0 : Hid (Own w1 w.heap.size (.slice (some ⟨w.heap.size, 0, none⟩) n n) (htL zs 0 [])) := by
    rw [htL_zero, HN.out]
    exact Own.made hown
  have hb1 : Below w.heap.size w w1 := (Below.refl _ w).grown hgrow (Nat.le_refl _) (fun k e => by cases e)
  clear hown hgrow hi hz0 hz1 hz2
  go_loopw [12] (fun i wr => ∃ k : Nat, k ≤ n ∧ i = .int .i64 k ∧ Hid (Own wr w.heap.size (.slice (some ⟨w.heap.size, 0, none⟩) n n) (htL zs k [])) ∧ Below w.heap.size w wr) (fun i _ => n - (intOf i).toNat)
  case atStart => exact ⟨0, Nat.zero_le _, rfl, H0, hb1⟩
  case round =>
    obtain ⟨k, hk, rfl, HO, hbe⟩ := hrel
    clear H0 hb1
    obtain ⟨wo, rfl⟩ : ∃ wo : World, wo = wr := ⟨_, rfl⟩
    by_cases hlt : k < n
    · have W1 := Lib.hid (L1.out k hlt wo hbe)
      have hwn := way_nodup HV.out (i := k) (by rw [HN.out]; exact hlt)
      have hwl := way_lt HV.out (i := k) (by rw [HN.out]; exact hlt)
      have hwlen := (fv_parts HV.out).2.2.2 k (by rw [HN.out]; exact hlt)
      have hnext := htL_next zs k
      rw [HN.out] at hwn hwl hwlen hnext
      have hsz := hbe.size
      have hblt := HO.out.at_base.2
      revert W1 hwn hwl hwlen hnext
      generalize way zs n k = W
      intro W1 hwn hwl hwlen hnext
      have HWN := Lib.hid hwn
      have HWL := Lib.hid hwl
      have HNX := Lib.hid hnext
      clear hwn hwl hnext
      go_wp2_with fail
      refine W1.out.mono ?_
      rintro e w2 ⟨v2, rfl, ho2, hb2⟩
      obtain ⟨A2, c2, rfl, hr2⟩ := ho2.form
      rw [ints_len] at hr2
      rw [ints_len]
      have HO := Lib.hid (HO.out.keep hb2 (Nat.le_refl _))
      have HS : Hid (Own w2 w.heap.size (.slice (some ⟨w.heap.size, 0, none⟩) n n) (htL zs k (W.take 0))) := by rw [List.take_zero]; exact HO.out
      obtain ⟨L, hL⟩ : ∃ L, L = W.length := ⟨_, rfl⟩
      have hs2 := hb2.size
      have hbe2 := hbe.trans (hb2.mono hsz)
      have hA2 : 0 < L → ∃ g2, A2 = some ⟨g2, 0, none⟩ ∧ wo.heap.size ≤ g2 ∧ g2 < w2.heap.size ∧ ∀ t, t < L → w2.cell? ⟨g2, t, none⟩ = some (.int .i64 (W[t]?.getD 0 : Nat)) := fun hp => by
        rcases ho2.2 with ⟨hv', hx⟩ | ⟨g, cap, cur, hv', hbase, hh, _⟩
        · rw [ints_len] at hx; omega
        · simp only [Value.slice.injEq] at hv'
          refine ⟨g, hv'.1, hbase, (Array.getElem?_eq_some_iff.1 hh).1, fun t ht => ?_⟩
          have ho3 := ho2
          rw [hv'.1, ints_len] at ho3
          rw [ho3.slot (by omega)]
          congr 2
          simp [ints, show t < W.length by omega]
      have HA2 := Lib.hid hA2
      have HL := Lib.hid hL
      rw [← hL]
      rw [← hL] at hwlen
      clear ho2 hr2 hb2 hbe hA2 hL HO
      go_wp2_with fail
      go_loopw [19] (fun t wr => ∃ q : Nat, q ≤ L ∧ t = .int .i64 q ∧ Hid (Own wr w.heap.size (.slice (some ⟨w.heap.size, 0, none⟩) n n) (htL zs k (W.take q))) ∧ w2.grownBy wr (some w.heap.size)) (fun t _ => L - (intOf t).toNat)
      case atStart => exact ⟨0, Nat.zero_le _, rfl, HS, World.grownBy.refl _ _⟩
      case round =>
        obtain ⟨q, hq, rfl, HQ, hg⟩ := hrel
        clear HS
        by_cases hlt2 : q < L
        · obtain ⟨g2, rfl, hg1, hg2, hc2⟩ := HA2.out (by omega)
          have g1 : wr.cell? ⟨g2, q, none⟩ = some (.int .i64 (W[q]?.getD 0 : Nat)) := (World.cell?_of_block (hg.block g2 hg2 (by simp; omega))).trans (hc2 q hlt2)
          obtain ⟨hnm, htk⟩ := way_take HWN.out (show q < W.length by have := HL.out; omega)
          have hx : W[q]?.getD 0 < n := by
            have := HL.out
            have hq' : q < W.length := by omega
            rw [List.getElem?_eq_getElem hq', Option.getD_some]
            have := HWL.out _ (List.getElem_mem hq')
            have := HN.out
            omega
          have ho := HQ.out
          have hset := htL_set (up := zs) (k := k) hnm
          have hge := htL_get (up := zs) (k := k) (x := W[q]?.getD 0) (pre := W.take q) (by rw [HN.out]; exact hx)
          have hle := htAt_le HV.out (k := k) (by rw [HN.out]; omega) (pre := W.take q) (by rw [List.length_take]; omega) (W[q]?.getD 0)
          have hpl : (W.take q).length = q := by rw [List.length_take]; have := HL.out; omega
          rw [hpl] at hset
          rw [← htk] at hset
          have hsl := ho.slot hx
          rw [hge] at hsl
          have hfr := ho.free (W[q]?.getD 0)
          have hgn : ∀ z : Int, w2.grownBy (wr.setCell ⟨w.heap.size, W[q]?.getD 0, none⟩ (.int .i64 z)) (some w.heap.size) := fun z => ⟨hg.os, hg.tape, hg.output, by simpa [World.setCell] using hg.size, fun i hi hne => (Below.heap_setCell wr ⟨w.heap.size, W[q]?.getD 0, none⟩ _ i (fun e => hne (by rw [e]))).trans (hg.block i hi hne)⟩
          have hns : ∀ z : Int, z = max (htAt zs k (W.take q) (W[q]?.getD 0) : Int) (q : Int) → Own (wr.setCell ⟨w.heap.size, W[q]?.getD 0, none⟩ (.int .i64 z)) w.heap.size (.slice (some ⟨w.heap.size, 0, none⟩) n n) (htL zs k (W.take (q + 1))) := fun z hz => by
            rw [← hset, ← hz]
            exact ho.set_ _ z
          have HNS := Lib.hid hns
          have HGN := Lib.hid hgn
          revert g1 hx hsl hfr hle HNS HGN
          generalize htAt zs k (W.take q) (W[q]?.getD 0) = s
          generalize W[q]?.getD 0 = a
          intro hx hle g1 hsl hfr HNS HGN
          clear ho hns hgn hset hge hnm htk hc2 HQ hg hpl
          by_cases hlts : (s : Int) < (q : Int)
          · have HF := Lib.hid (HNS.out (q : Int) (by omega))
            clear HNS
            go_wp2
            go_roundw
            case rel => exact ⟨q + 1, by omega, by go_num, HF, HGN.out _⟩
            case measure => simp [intOf]; omega
          · have HF := Lib.hid (HNS.out (s : Int) (by omega))
            clear HNS
            go_wp2
            go_roundw
            case rel => exact ⟨q + 1, by omega, by go_num, HF, HGN.out _⟩
            case measure => simp [intOf]; omega
        · obtain rfl : q = L := by omega
          have hfin := HQ.out
          rw [show W.take q = W by rw [HL.out, List.take_length], HNX.out] at hfin
          have HF := Lib.hid hfin
          have hbw : Below w.heap.size w wr := hbe2.grown hg (by omega) (fun r e => by injection e with e; omega)
          clear hfin HQ hg
          go_wp2
          go_roundw
          case rel => exact ⟨k + 1, by omega, by go_num, HF, hbw⟩
          case measure => simp [intOf]; omega
    · obtain rfl : k = n := by omega
      go_wp2
      go_ret
      rw [HN.out]
      exact ⟨_, rfl, HO.out, hbe⟩

set_option maxRecDepth 100000 in
set_option maxHeartbeats 1000000 in
theorem specSizes_any (A : Option Addr) (n c B0 : Nat) (zs : List Int) (w : World) (h : Rd w B0 A n zs) (hB0 : B0 ≤ w.heap.size) (hb : n ≤ 1048576) :
    Calls Try.prog 37 #[.slice A n c] w fun e w' => ∃ v, e = .returned (.tuple #[v, .bool (fvB zs)]) ∧ Own w' w.heap.size v (sizesN zs) ∧ Below w.heap.size w w' := by
  have V := specValid_any A n c B0 zs w h hB0 hb
  cases hv : fvB zs with
  | false =>
    rw [hv] at V
    rw [sizesN_no hv]
    have V := Lib.hid V
    clear hv h
    go_enter Try.func37, Try.ntmps37
    go_wp2_with fail
    refine V.out.mono ?_
    rintro e w1 ⟨rfl, hb1⟩
    have hO := Lib.hid (Own.lit w1 w.heap.size [] hb1.size (by simp))
    have hbb := hb1.alloc hb1.size (.cells #[] 3)
    go_wp2_with fail
    go_ret2
    exact ⟨_, rfl, hO.out, hbb⟩
  | true =>
    rw [hv] at V
    rw [sizesN_yes hv]
    have V := Lib.hid V
    have S := Lib.hid (fun (w1 : World) (hb1 : Below w.heap.size w w1) => l2Sizes_any A n c B0 zs w1 (h.below hb1 hB0) (Nat.le_trans hB0 hb1.size) hv)
    clear hv h
    go_enter Try.func37, Try.ntmps37
    go_wp2_with fail
    refine V.out.mono ?_
    rintro e w1 ⟨rfl, hb1⟩
    have hsz := hb1.size
    go_wp2_with fail
    refine (S.out w1 hb1).mono ?_
    rintro e w2 ⟨v, rfl, ho, hb2⟩
    have HO := Lib.hid (ho.less hsz)
    have hbb := hb1.trans (hb2.mono hsz)
    clear ho hb2
    go_wp2_with fail
    go_ret2
    exact ⟨_, rfl, HO.out, hbb⟩

set_option maxRecDepth 100000 in
set_option maxHeartbeats 1000000 in
theorem specHeights_any (A : Option Addr) (n c B0 : Nat) (zs : List Int) (w : World) (h : Rd w B0 A n zs) (hB0 : B0 ≤ w.heap.size) (hb : n ≤ 1048576) :
    Calls Try.prog 40 #[.slice A n c] w fun e w' => ∃ v, e = .returned (.tuple #[v, .bool (fvB zs)]) ∧ Own w' w.heap.size v (heightsN zs) ∧ Below w.heap.size w w' := by
  have V := specValid_any A n c B0 zs w h hB0 hb
  cases hv : fvB zs with
  | false =>
    rw [hv] at V
    rw [heightsN_no hv]
    have V := Lib.hid V
    clear hv h
    go_enter Try.func40, Try.ntmps40
    go_wp2_with fail
    refine V.out.mono ?_
    rintro e w1 ⟨rfl, hb1⟩
    have hO := Lib.hid (Own.lit w1 w.heap.size [] hb1.size (by simp))
    have hbb := hb1.alloc hb1.size (.cells #[] 3)
    go_wp2_with fail
    go_ret2
    exact ⟨_, rfl, hO.out, hbb⟩
  | true =>
    rw [hv] at V
    rw [heightsN_yes hv]
    have V := Lib.hid V
    have S := Lib.hid (fun (w1 : World) (hb1 : Below w.heap.size w w1) => l2Heights_any A n c B0 zs w1 (h.below hb1 hB0) (Nat.le_trans hB0 hb1.size) hv)
    clear hv h
    go_enter Try.func40, Try.ntmps40
    go_wp2_with fail
    refine V.out.mono ?_
    rintro e w1 ⟨rfl, hb1⟩
    have hsz := hb1.size
    go_wp2_with fail
    refine (S.out w1 hb1).mono ?_
    rintro e w2 ⟨v, rfl, ho, hb2⟩
    have HO := Lib.hid (ho.less hsz)
    have hbb := hb1.trans (hb2.mono hsz)
    clear ho hb2
    go_wp2_with fail
    go_ret2
    exact ⟨_, rfl, HO.out, hbb⟩

end Go.Proofs.Ytebgnaiibomjkaa
