/- lookFrom of the program: the forest when one has looked from all items, and how many links were followed; nothing and -1 where the arguments are not valid. Condition: lengths up to 1048576. -/
import Derived.Test.YtemkbheplmimoaaLookFrom3
import Derived.Deep.RegionWith
namespace Go.Proofs.Ytemkbheplmimoaa
open Go.RowKit Go.Shelf

theorem lookB_is (up : List Int) (l : Int) (is : List Int) : lookB up l is = (fvB up && (decide (is.length ≤ 24) && allIn up.length is) && inLook l) := by
  unfold lookB
  cases fvB up <;> simp

theorem run_equalIn_func_nil {P : Program} (w : World) (d : Nat) (t : TypeId) {ps rs v} (g : Fn) (fs cs : Array Value) (h : P.underlying t = some (.func ps rs v)) :
    (Op.equalIn (d + 1) t (.func g fs cs) .nilFunc).run P w = .ok false w := by simp [Op.equalIn, run_underlying h]
theorem run_equalIn_nil_nil {P : Program} (w : World) (d : Nat) (t : TypeId) {ps rs v} (h : P.underlying t = some (.func ps rs v)) :
    (Op.equalIn (d + 1) t .nilFunc .nilFunc).run P w = .ok true w := by simp [Op.equalIn, run_underlying h]
theorem run_eql_func_nil {P : Program} (w : World) (t : TypeId) {ps rs v} (g : Fn) (fs cs : Array Value) (h : P.underlying t = some (.func ps rs v)) :
    (binOp .eql t (.func g fs cs) .nilFunc).run P w = .ok (.bool false) w := by
  simp only [binOp]
  simp [Op.equal, Op.maxDepth, run_equalIn_func_nil w 9999 t g fs cs h]
theorem run_eql_nil_nil {P : Program} (w : World) (t : TypeId) {ps rs v} (h : P.underlying t = some (.func ps rs v)) :
    (binOp .eql t .nilFunc .nilFunc).run P w = .ok (.bool true) w := by
  simp only [binOp]
  simp [Op.equal, Op.maxDepth, run_equalIn_nil_nil w 9999 t h]

set_option maxRecDepth 100000 in
set_option maxHeartbeats 4000000 in
theorem lookFrom_any (A : Option Addr) (n c B0 : Nat) (zs : List Int) (l : Int) (A1 : Option Addr) (m c1 B1 : Nat) (is : List Int) (w : World) (h : Rd w B0 A n zs) (hB0 : B0 ≤ w.heap.size) (hb : n ≤ 1048576) (h1 : Rd w B1 A1 m is) (hB1 : B1 ≤ w.heap.size) (hm : m ≤ 1048576) :
    Calls Try.prog 120 #[.slice A n c, .int .i64 l, .slice A1 m c1] w fun e w' => Below w.heap.size w w' ∧ ((lookB zs l is = false ∧ e = .returned (.tuple #[.slice none 0 0, .int .i64 (-1)])) ∨
      (lookB zs l is = true ∧ ∃ g k, e = .returned (.tuple #[.slice (some g) n k, .int .i64 ((manyS (lookAt l) zs (nats is) : Nat) : Int)]) ∧ Own w' w.heap.size (.slice (some g) n k) (manyL (lookAt l) zs (nats is)))) := by
  have R := Lib.hid (nodesOfF_any A n c B0 zs w h hB0 hb)
  have HI := Lib.hid (fun (w2 : World) (hb2 : Below w.heap.size w w2) => hasItems_any A n c B1 A1 m c1 is w2 hb (h1.below hb2 hB1) hm)
  have HLB := Lib.hid (lookB_is zs l is)
  have hln := h.1
  have hlm := h1.1
  have HN := Lib.hid hln
  have HM := Lib.hid hlm
  have H1 := Lib.hid h1
  have hq := fun (w : World) (a : Option Addr) (n c : Nat) => Lib.run_eql_slice_nil (P := Try.prog) w 92 97 a n c 0 0 Try.underlying92
  have hqf := fun (w : World) (g : Fn) (fs cs : Array Value) => run_eql_func_nil (P := Try.prog) w 136 g fs cs Try.underlying136
  have hqn := fun (w : World) => run_eql_nil_nil (P := Try.prog) w 136 Try.underlying136
  clear h hln hlm h1
  have SH := shorteningFor_any l
  unfold shortV at SH
  go_enter Try.func120, Try.ntmps120
  go_wp2_with fail
  refine R.out.mono ?_
  rintro e w1 ⟨hb1, ⟨hv, rfl⟩ | ⟨hv, rfl, hF, hlt⟩⟩
  · have HV : Hid (lookB zs l is = false) := by
      show _ = _
      rw [HLB.out, hv]
      simp
    clear hv HLB
    by_cases hl : inLook l = true
    · rw [if_pos hl] at SH
      have SH2 := Lib.hid (SH w1)
      clear SH hl
      go_wp2_with fail
      refine SH2.out.mono ?_
      rintro e w2 ⟨rfl, hb2⟩
      have hbb := hb1.trans (hb2.mono hb1.size)
      clear hb1 hb2
      go_wp2
      go_ret2
      exact ⟨hbb.alloc hbb.size _, .inl ⟨HV.out, rfl⟩⟩
    · rw [if_neg hl] at SH
      have SH2 := Lib.hid (SH w1)
      clear SH hl
      go_wp2_with fail
      refine SH2.out.mono ?_
      rintro e w2 ⟨rfl, hb2⟩
      have hbb := hb1.trans (hb2.mono hb1.size)
      clear hb1 hb2
      go_wp2
      go_ret2
      exact ⟨hbb.alloc hbb.size _, .inl ⟨HV.out, rfl⟩⟩
  · by_cases hl : inLook l = true
    · have HLB2 : Hid (lookB zs l is = (decide (is.length ≤ 24) && allIn n is)) := by
        show _ = _
        rw [HLB.out, hv, hl, HN.out]
        simp
      rw [if_pos hl] at SH
      have SH2 := Lib.hid (SH w1)
      have h16 := (fv_parts hv).2.1
      have hn16 : n ≤ 16 := by have := HN.out; omega
      have HV := Lib.hid hv
      have HF := Lib.hid hF
      clear SH hl HLB hv hF h16
      go_wp2_with fail
      refine SH2.out.mono ?_
      rintro e w2 ⟨rfl, hb2⟩
      have hbb := hb1.trans (hb2.mono hb1.size)
      have hws2 := hb2.size
      have hN2 : Nd w2 w.heap.size zs := by
        have := HF.out.below hb2 hlt
        unfold Nd
        rw [HN.out]
        exact this
      obtain ⟨W2, hW2⟩ : ∃ W2, W2 = w2.alloc (.cells #[.func (.func (shortF l)) #[] #[]] 136) := ⟨_, rfl⟩
      have bS : Boxed W2 w2.heap.size 136 (.func (.func (shortF l)) #[] #[]) := by rw [hW2]; exact Boxed.new _ _ _
      have hbW : Below w.heap.size w W2 := by rw [hW2]; exact hbb.alloc hbb.size _
      have hsW : W2.heap.size = w2.heap.size + 1 := by rw [hW2]; simp
      have hNW : Nd W2 w.heap.size zs := hN2.eq (by rw [hW2]; exact Below.heap_alloc _ _ _ hN2.lt)
      have hNlt := hN2.lt
      have cS := bS.cell
      have HI2 := Lib.hid (HI.out W2 hbW)
      have HK := Lib.hid (And.intro bS (And.intro hbW hNW))
      clear hb1 hb2 hbb hN2 HF bS hbW hNW HI R SH2
      by_cases hit : (decide (is.length ≤ 24) && allIn n is) = true
      · rw [hit] at HI2
        have HT := Lib.hid (HLB2.out.trans hit)
        clear hit HLB2
        have hin := (by
          have := HT.out
          exact (lookB_parts this).2.2.1 : ∀ i ∈ is, 0 ≤ i ∧ i < (zs.length : Int))
        have HIN := Lib.hid hin
        have h24 : m ≤ 24 := by have := (lookB_parts HT.out).2.1; have := HM.out; omega
        clear hin
        go_wp2_with (rw [← hW2])
        refine HI2.out.mono ?_
        rintro e w' ⟨rfl, rfl⟩
        obtain ⟨bS, hbW, hNW⟩ := HK.out
        obtain ⟨W3, hW3⟩ : ∃ W3, W3 = W2.alloc (.cells #[.int .i64 0] 3) := ⟨_, rfl⟩
        have bF : Boxed W3 W2.heap.size 3 (.int .i64 ((manyS (lookAt l) zs (nats (is.take 0)) : Nat) : Int)) := by rw [hW3]; exact Boxed.new _ _ _
        have bS3 : Boxed W3 w2.heap.size 136 (.func (.func (shortF l)) #[] #[]) := by rw [hW3]; exact bS.alloc _
        have hN3 : Nd W3 w.heap.size (manyL (lookAt l) zs (nats (is.take 0))) := hNW.eq (by rw [hW3]; exact Below.heap_alloc _ _ _ hNW.lt)
        have hb3 : Below w.heap.size w W3 := by rw [hW3]; exact hbW.alloc hbW.size _
        have hs3 : W3.heap.size = w2.heap.size + 2 := by rw [hW3]; simp; omega
        rw [hsW] at bF
        have H3 := Lib.hid (And.intro bF (And.intro bS3 (And.intro hN3 hb3)))
        have HW3 := Lib.hid hW3
        clear bF bS3 hN3 hb3 bS hbW hNW HK HI2 hW3 hW2
        go_wp2
        rw [← HW3.out]
        clear HW3
        go_loopw [33] (fun i wr => ∃ k : Nat, k ≤ m ∧ i = .int .i64 k ∧ Hid (Boxed wr (w2.heap.size + 1) 3 (.int .i64 ((manyS (lookAt l) zs (nats (is.take k)) : Nat) : Int)) ∧ Boxed wr w2.heap.size 136 (.func (.func (shortF l)) #[] #[]) ∧ Nd wr w.heap.size (manyL (lookAt l) zs (nats (is.take k))) ∧ Below w.heap.size w wr)) (fun i _ => m - (intOf i).toNat)
        case atStart => exact ⟨0, Nat.zero_le _, rfl, H3⟩
        case round =>
          obtain ⟨k, hk, rfl, HR⟩ := hrel
          clear H3
          have hits : ∀ q, ∀ i ∈ nats (is.take q), i < zs.length := fun q i hi => by
            unfold nats at hi
            obtain ⟨z, hz, rfl⟩ := List.mem_map.1 hi
            have := HIN.out z (List.mem_of_mem_take hz)
            omega
          have S := many_shr (look_kind l) HV.out (hits k)
          by_cases hlt : k < m
          · obtain ⟨bF, bS, hN, hbe⟩ := HR.out
            obtain ⟨b, off, rfl, _, hc1⟩ := (H1.out.below hbe hB1).2 (by omega)
            have g1 := hc1 k hlt
            have hki : k < is.length := by have := HM.out; omega
            have hz := HIN.out (is[k]?.getD 0) (by rw [List.getElem?_eq_getElem hki, Option.getD_some]; exact List.getElem_mem hki)
            have hnt := nats_take hki
            obtain ⟨j, hj⟩ := Int.eq_ofNat_of_zero_le hz.1
            rw [hj] at g1 hz hnt
            rw [Int.toNat_natCast] at hnt
            have hjz : j < zs.length := by omega
            have hjn : j < n := by have := HN.out; omega
            have hle := manyS_le (look_kind l) HV.out (hits k)
            have hlen : (nats (is.take k)).length ≤ 24 := by simp [nats]; omega
            have CT := Lib.hid (counted_any l w.heap.size j n w2.heap.size (w2.heap.size + 1) (manyS (lookAt l) zs (nats (is.take k))) (manyL (lookAt l) zs (nats (is.take k))) wr hN S.fv (by rw [S.len]; exact hjz) (by rw [S.len, HN.out]) (by omega) (by omega) (by omega) bS bF (by omega))
            unfold nadr at CT
            have HNT := Lib.hid hnt
            have HBE := Lib.hid hbe
            have hwr : w2.heap.size + 1 < wr.heap.size := bF.lt
            clear hc1 hj hz hnt hle hlen hits S bF bS hN HR hbe
            go_wp2_with fail
            refine CT.out.mono ?_
            rintro e w3 ⟨⟨v, rfl⟩, hN3, hF3, hS3, hC3⟩
            have hb3 : Below w.heap.size w w3 := HBE.out.trans (hC3.below HBE.out.size (fun i hi => by
              rcases hi with rfl | rfl
              · exact Nat.le_refl _
              · omega))
            have HR3 : Hid (Boxed w3 (w2.heap.size + 1) 3 (.int .i64 ((manyS (lookAt l) zs (nats (is.take (k + 1))) : Nat) : Int)) ∧ Boxed w3 w2.heap.size 136 (.func (.func (shortF l)) #[] #[]) ∧ Nd w3 w.heap.size (manyL (lookAt l) zs (nats (is.take (k + 1)))) ∧ Below w.heap.size w w3) := by
              show _ ∧ _
              rw [HNT.out, manyS_snoc, manyL_snoc]
              exact ⟨hF3, hS3, hN3, hb3⟩
            clear hN3 hF3 hS3 hC3 hb3
            go_wp2
            go_roundw
            case rel => exact ⟨k + 1, by omega, by go_num, HR3⟩
            case measure => simp [intOf]; omega
          · obtain rfl : k = m := by omega
            obtain ⟨bF, bS, hN, hbe⟩ := HR.out
            have htk : is.take k = is := by rw [← HM.out, List.take_length]
            rw [htk] at bF hN S
            have cF := bF.cell
            have TL := Lib.hid (fun (w4 : World) (hb4 : Below wr.heap.size wr w4) => toldLink_any w.heap.size n n (manyL (lookAt l) zs (nats is)) w4 (hN.nodes.below hb4 hN.lt) (by have := hN.lt; have := hb4.size; omega) S.fv (by rw [S.len, HN.out]))
            have HBE := Lib.hid hbe
            have TD := Lib.hid (TL.out wr.drew ⟨rfl, rfl, rfl, Nat.le_refl _, fun _ _ => rfl⟩)
            have cD : wr.drew.cell? ⟨w2.heap.size + 1, 0, none⟩ = some (.int .i64 ((manyS (lookAt l) zs (nats is) : Nat) : Int)) := cF
            have hFl : w2.heap.size + 1 < wr.drew.heap.size := bF.lt
            have CF := Lib.hid (fun (w4 : World) (hb4 : Below wr.drew.heap.size wr.drew w4) => (World.cell?_of_block (hb4.block (w2.heap.size + 1) hFl)).trans cD)
            clear hits bS hN HR hbe htk TL bF
            go_wp2
            go_region_with (go_at_call 126; refine TD.out.mono ?_; rintro e w4 ⟨g, kk, rfl, ho4, hb4⟩; have cF4 := CF.out w4 hb4)
            all_goals
              have hb5 : Below wr.heap.size wr w4 := ⟨hb4.os, hb4.tape, hb4.output, hb4.size, hb4.block⟩
              have HB5 := Lib.hid (HBE.out.trans (hb5.mono HBE.out.size))
              have HO5 := Lib.hid (ho4.less (show w.heap.size ≤ wr.drew.heap.size from HBE.out.size))
              clear hb4 hb5 ho4
              go_wp2
              go_ret2
              exact ⟨HB5.out, .inr ⟨HT.out, g, kk, rfl, HO5.out⟩⟩
      · have hif : (decide (is.length ≤ 24) && allIn n is) = false := by simpa using hit
        rw [hif] at HI2
        have HT := Lib.hid (HLB2.out.trans hif)
        clear hit hif HLB2
        go_wp2_with (rw [← hW2])
        refine HI2.out.mono ?_
        rintro e w' ⟨rfl, rfl⟩
        clear hW2
        go_wp2
        go_ret2
        exact ⟨HK.out.2.1, .inl ⟨HT.out, rfl⟩⟩
    · have HV : Hid (lookB zs l is = false) := by
        show _ = _
        rw [HLB.out]
        simp [hl]
      rw [if_neg hl] at SH
      have SH2 := Lib.hid (SH w1)
      clear SH hl HLB hv hF
      go_wp2_with fail
      refine SH2.out.mono ?_
      rintro e w2 ⟨rfl, hb2⟩
      have hbb := hb1.trans (hb2.mono hb1.size)
      clear hb1 hb2
      go_wp2
      go_ret2
      exact ⟨hbb.alloc hbb.size _, .inl ⟨HV.out, rfl⟩⟩
end Go.Proofs.Ytemkbheplmimoaa
