/- The model's looking: l3Up. Conditions: a valid forest, an item of it, a way of looking. -/
import Derived.Test.YtebgnaiibomjkaaSpec2
import Derived.Test.YtebgnaiibomjkaaArgs
import Derived.Test.YtebgnaiibomjkaaLook
namespace Go.Proofs.Ytebgnaiibomjkaa
open Go.RowKit

theorem allTo_take {up : List Int} {W : List Nat} {r q : Nat} (hq : q < W.length) : allTo up (W.take (q + 1)) r = (allTo up (W.take q) r).set (W[q]?.getD 0) (r : Int) := by
  unfold allTo
  rw [List.take_succ_eq_append_getElem hq, List.foldl_append, List.foldl_cons, List.foldl_nil, List.getElem?_eq_getElem hq, Option.getD_some]
  rfl
theorem twoUp_set {up : List Int} {W : List Nat} {q : Nat} : twoUp up W (q + 1) = (twoUp up W q).set (W[q]?.getD 0) ((W[q + 2]?.getD 0 : Nat) : Int) := twoUp_succ up W q

set_option maxRecDepth 100000 in
set_option maxHeartbeats 4000000 in
theorem l3Up_any (A : Option Addr) (n c B0 i : Nat) (zs : List Int) (l : Int) (w : World) (h : Rd w B0 A n zs) (hB0 : B0 ≤ w.heap.size) (hv : fvB zs = true) (hi : i < n) (hl : 0 ≤ l ∧ l ≤ 3) :
    Calls Try.prog 97 #[.slice A n c, .int .i64 l, .int .i64 (i : Int)] w fun e w' => ∃ v, e = .returned (.tuple #[v, .int .i64 (stepsT (lookAt l) zs i : Int)]) ∧ Own w' w.heap.size v (lookT (lookAt l) zs i) ∧ Below w.heap.size w w' := by
  have h16 := (fv_parts hv).2.1
  have hln := h.1
  have hn16 : n ≤ 16 := by omega
  have hiz : i < zs.length := by omega
  have HV := Lib.hid hv
  have HN := Lib.hid hln
  have H := Lib.hid h
  have R := Lib.hid (fun (w1 : World) (hb1 : Below w.heap.size w w1) => l1Way_any A n c B0 i zs w1 (h.below hb1 hB0) (Nat.le_trans hB0 hb1.size) (by omega) (fv_in hv) hi)
  obtain ⟨ST, hST⟩ : ∃ ST, ST = stepsT (lookAt l) zs i := ⟨_, rfl⟩
  obtain ⟨LT, hLT⟩ : ∃ LT, LT = lookT (lookAt l) zs i := ⟨_, rfl⟩
  rw [← hST, ← hLT]
  have HST := Lib.hid hST
  have HLT2 := Lib.hid hLT
  clear h hv hln h16 hST hLT
  go_enter Try.func97, Try.ntmps97
  go_wp2_with (at_builtin; go_must (refine wpList_copy rfl (.tmp 15) (.tmp 16) rfl w A n c B0 zs rfl rfl H.out hB0 (by omega) (by omega) ?_); intro g1 k1 w1 ho1 hb1)
  refine (R.out w1 hb1).mono ?_
  rintro e w2 ⟨v2, rfl, ho2, hb2⟩
  obtain ⟨A2, c2, rfl, _⟩ := ho2.form
  rw [ints_len] at ho2 ⊢
  have hwl := way_len zs n i
  obtain ⟨g2, rfl⟩ := own_head ho2 hwl.1
  have eW : way zs n i = wayOf zs i := by unfold wayOf; rw [HN.out]
  rw [eW] at ho2 hwl ⊢
  have hg2 := ho2.at_base
  have hg1 := ho1.at_base
  have ho1 := ho1.keep hb2 (Nat.le_refl _)
  have hcell : ∀ t, t < (wayOf zs i).length → w2.cell? ⟨g2, t, none⟩ = some (.int .i64 ((wayOf zs i)[t]?.getD 0 : Nat)) := fun t ht => by
    rw [ho2.slot ht]
    congr 2
    simp [ints, ht]
  have hroot : (wayOf zs i)[(wayOf zs i).length - 1]?.getD 0 = rootI zs i := by
    unfold rootI lastOf
    rw [List.getLast?_eq_getElem?]
    have hp : (wayOf zs i).length - 1 < (wayOf zs i).length := by omega
    rw [List.getElem?_eq_getElem hp]
    rfl
  have hlt := way_lt HV.out hiz
  have hbb := hb1.trans (hb2.mono hb1.size)
  have hs2 := hb2.size
  obtain ⟨L, hL⟩ : ∃ L, L = (wayOf zs i).length := ⟨_, rfl⟩
  rw [← hL] at hwl hroot ho2 ⊢
  obtain ⟨M, rfl⟩ : ∃ M, L = M + 1 := ⟨L - 1, by omega⟩
  rw [Nat.add_sub_cancel] at hroot
  have hM := hcell M (by omega)
  rw [hroot] at hM
  have HC := Lib.hid hcell
  have HL := Lib.hid hL
  have HLT := Lib.hid hlt
  have HO := Lib.hid ho1
  have HBB := Lib.hid hbb
  have kw1 : IntKind.i64.wrap (((M + 1 : Nat) : Int) - 1) = (M : Int) := by rw [show ((M + 1 : Nat) : Int) - 1 = (M : Int) by omega]; exact IntWalk.i64_in _ (by omega)
  have kw2 : IntKind.i64.wrap ((M : Int) + 1 - 1) = (M : Int) := by rw [show (M : Int) + 1 - 1 = (M : Int) by omega]; exact IntWalk.i64_in _ (by omega)
  have kw3 : IntKind.i64.wrap (M : Int) = (M : Int) := IntWalk.i64_in _ (by omega)
  have hroot16 : rootI zs i < n := by have := (root_is HV.out hiz).1; have := HN.out; omega
  clear hcell hL hlt ho1 hbb ho2 hb1 hb2 hroot eW R
  rcases (show l = 0 ∨ l = 1 ∨ l = 2 ∨ l = 3 by omega) with rfl | rfl | rfl | rfl
  · have e1 : ST = M := by
      rw [HST.out]
      unfold stepsT
      rw [lookAt_0, (look_bare HV.out hiz).1, ← HL.out]
      omega
    have e2 : LT = zs := HLT2.out.trans (look_bare HV.out hiz).2
    have E1 := Lib.hid e1
    have E2 := Lib.hid e2
    clear e1 e2
    go_wp2
    go_ret2
    refine ⟨.slice (some ⟨g1, 0, none⟩) n k1, ?_, ?_, HBB.out⟩
    · rw [E1.out]; rfl
    · rw [E2.out]; exact HO.out
  · have e1 : ST = M := by
      rw [HST.out]
      unfold stepsT
      rw [lookAt_1, (look_cut HV.out hiz).1, ← HL.out]
      omega
    have e2 : LT = allTo zs ((wayOf zs i).take (M + 1)) (rootI zs i) := by
      rw [HLT2.out, lookAt_1, (look_cut HV.out hiz).2, HL.out, List.take_length]
    have E1 := Lib.hid e1
    have E2 := Lib.hid e2
    have H0 : Hid (Own w2 w.heap.size (.slice (some ⟨g1, 0, none⟩) n k1) (allTo zs ((wayOf zs i).take 0) (rootI zs i))) := HO.out
    clear e1 e2
    go_wp2
    go_loopw [35] (fun t wr => ∃ q : Nat, q ≤ M + 1 ∧ t = .int .i64 q ∧ Hid (Own wr w.heap.size (.slice (some ⟨g1, 0, none⟩) n k1) (allTo zs ((wayOf zs i).take q) (rootI zs i))) ∧ w2.grownBy wr (some g1)) (fun t _ => M + 1 - (intOf t).toNat)
    case atStart => exact ⟨0, Nat.zero_le _, rfl, H0, World.grownBy.refl _ _⟩
    case round =>
      obtain ⟨q, hq, rfl, HQ, hg⟩ := hrel
      clear H0 hM
      by_cases hlt2 : q < M + 1
      · have c1 : wr.cell? ⟨g2, q, none⟩ = some (.int .i64 ((wayOf zs i)[q]?.getD 0 : Nat)) := (World.cell?_of_block (hg.block g2 hg2.2 (by simp; omega))).trans (HC.out q (by have := HL.out; omega))
        have hqW : q < (wayOf zs i).length := by have := HL.out; omega
        have hx : (wayOf zs i)[q]?.getD 0 < n := by
          rw [List.getElem?_eq_getElem hqW, Option.getD_some]
          have := HLT.out _ (List.getElem_mem hqW)
          have := HN.out
          omega
        have hset := allTo_take (up := zs) (r := rootI zs i) hqW
        have ho := HQ.out
        have hns := ho.set_ ((wayOf zs i)[q]?.getD 0) (rootI zs i : Int)
        rw [← hset] at hns
        have hsl := ho.slot hx
        have hfr := ho.free ((wayOf zs i)[q]?.getD 0)
        have HNS := Lib.hid hns
        have HGN := Lib.hid (grown_set (k := (wayOf zs i)[q]?.getD 0) hg (.int .i64 (rootI zs i : Int)))
        clear ho hns hset HQ hg
        revert c1 hx hsl hfr HNS HGN
        generalize (wayOf zs i)[q]?.getD 0 = a
        intro c1 hx hsl hfr HNS HGN
        go_wp2
        go_roundw
        case rel => exact ⟨q + 1, by omega, by go_num, HNS, HGN.out⟩
        case measure => simp [intOf]; omega
      · obtain rfl : q = M + 1 := by omega
        have HBW := Lib.hid (HBB.out.grown hg (by have := HBB.out.size; omega) (fun r e => by injection e with e; omega))
        clear hg
        go_wp2
        go_ret2
        refine ⟨.slice (some ⟨g1, 0, none⟩) n k1, ?_, ?_, HBW.out⟩
        · rw [E1.out]; rfl
        · rw [E2.out]; exact HQ.out
  · have H0 : Hid (Own w2 w.heap.size (.slice (some ⟨g1, 0, none⟩) n k1) (foT halveAt zs [])) := HO.out
    go_wp2
    go_loopw [2, 11] (fun t s wr => ∃ (pre : List Nat) (x : Nat), t = .int .i64 (x : Int) ∧ s = .int .i64 (pre.length : Int) ∧ Hid (Gos halveAt zs i pre ∧ nxT halveAt zs i pre = some x) ∧ Hid (Own wr w.heap.size (.slice (some ⟨g1, 0, none⟩) n k1) (foT halveAt zs pre)) ∧ w2.grownBy wr (some g1)) (fun _ s _ => n + 1 - (intOf s).toNat)
    case atStart => exact ⟨[], i, rfl, rfl, ⟨gos_nil _ _ _, rfl⟩, H0, World.grownBy.refl _ _⟩
    case round =>
      obtain ⟨pre, x, rfl, rfl, HG, HQ, hg⟩ := hrel
      clear H0 hM
      have hgo := HG.out
      have G := goes halve_kind HV.out hiz pre hgo.1
      have hx := (G.2.1 x hgo.2).1
      have hxn : x < n := by have := HN.out; omega
      have hpl := gos_len halve_kind HV.out hiz (gos_snoc.2 hgo)
      rw [List.length_append, List.length_singleton] at hpl
      have hpl16 : pre.length + 1 ≤ n := by have := HN.out; omega
      have ho := HQ.out
      have hsl := ho.slot hxn
      have hfr := ho.free x
      cases hs : step (foT halveAt zs pre) x with
      | none =>
        have e0 := step_none hs
        have he := halve_end HV.out hiz hgo.1 hgo.2 hs
        rw [e0] at hsl
        have E1 := Lib.hid (HST.out.trans he.2)
        have E2 := Lib.hid (HLT2.out.trans he.1)
        have HBW := Lib.hid (HBB.out.grown hg (by have := HBB.out.size; omega) (fun r e => by injection e with e; omega))
        clear hgo G hpl ho e0 he hs hg
        go_wp2
        go_ret2
        refine ⟨.slice (some ⟨g1, 0, none⟩) n k1, ?_, ?_, HBW.out⟩
        · rw [E1.out]; rfl
        · rw [E2.out]; exact HQ.out
      | some y =>
        have hlenU := G.1.len
        have e0 := step_some (fv_in G.1.fv) (by rw [hlenU]; exact hx) hs
        obtain ⟨_, hy, m1, m2, z, m3, m4, m5⟩ := halve_more HV.out hiz hgo.1 hgo.2 hs
        have hyn : y < n := by have := HN.out; omega
        have hsy := ho.slot hyn
        rw [e0.1] at hsl
        have hyx : y ≠ x := e0.2.1
        have hUy : (foT halveAt zs pre)[y]?.getD 0 = (z : Int) := by
          rw [← m2] at m4
          rw [List.getElem?_set_self (by rw [hlenU]; exact hx), Option.getD_some] at m4
          exact m4
        rw [hUy] at hsy m2
        have hns := ho.set_ x (z : Int)
        rw [m2] at hns
        have HNS := Lib.hid hns
        have HGN := Lib.hid (grown_set (k := x) hg (.int .i64 (z : Int)))
        have HM := Lib.hid (And.intro m1 m3)
        have hk : ((y : Int) != (x : Int)) = true := by simp; omega
        clear hgo G hpl ho e0 hs hg hns m1 m2 m3 m4 hUy hlenU HQ HG
        go_wp2
        go_roundw
        case rel => exact ⟨pre ++ [x], z, rfl, by simp, HM.out, HNS, HGN.out⟩
        case measure => simp [intOf]; omega
  · have e1 : ST = M := by
      rw [HST.out]
      unfold stepsT
      rw [lookAt_3, (look_split HV.out hiz).1, ← HL.out]
      omega
    have e2 : LT = twoUp zs (wayOf zs i) (M - 1) := by
      rw [HLT2.out, lookAt_3, (look_split HV.out hiz).2, ← HL.out]
      rfl
    have E1 := Lib.hid e1
    have E2 := Lib.hid e2
    have H0 : Hid (Own w2 w.heap.size (.slice (some ⟨g1, 0, none⟩) n k1) (twoUp zs (wayOf zs i) 0)) := HO.out
    clear e1 e2
    go_wp2
    go_loopw [14] (fun t wr => ∃ q : Nat, q ≤ M - 1 ∧ t = .int .i64 q ∧ Hid (Own wr w.heap.size (.slice (some ⟨g1, 0, none⟩) n k1) (twoUp zs (wayOf zs i) q)) ∧ w2.grownBy wr (some g1)) (fun t _ => M - 1 - (intOf t).toNat)
    case atStart => exact ⟨0, Nat.zero_le _, rfl, H0, World.grownBy.refl _ _⟩
    case round =>
      obtain ⟨q, hq, rfl, HQ, hg⟩ := hrel
      clear H0 hM
      by_cases hlt2 : q < M - 1
      · have c1 : wr.cell? ⟨g2, q, none⟩ = some (.int .i64 ((wayOf zs i)[q]?.getD 0 : Nat)) := (World.cell?_of_block (hg.block g2 hg2.2 (by simp; omega))).trans (HC.out q (by have := HL.out; omega))
        have c2 : wr.cell? ⟨g2, q + 2, none⟩ = some (.int .i64 ((wayOf zs i)[q + 2]?.getD 0 : Nat)) := (World.cell?_of_block (hg.block g2 hg2.2 (by simp; omega))).trans (HC.out (q + 2) (by have := HL.out; omega))
        have hqW : q < (wayOf zs i).length := by have := HL.out; omega
        have hx : (wayOf zs i)[q]?.getD 0 < n := by
          rw [List.getElem?_eq_getElem hqW, Option.getD_some]
          have := HLT.out _ (List.getElem_mem hqW)
          have := HN.out
          omega
        have hset := twoUp_set (up := zs) (W := wayOf zs i) (q := q)
        have ho := HQ.out
        have hns := ho.set_ ((wayOf zs i)[q]?.getD 0) (((wayOf zs i)[q + 2]?.getD 0 : Nat) : Int)
        rw [← hset] at hns
        have hsl := ho.slot hx
        have hfr := ho.free ((wayOf zs i)[q]?.getD 0)
        have HNS := Lib.hid hns
        have HGN := Lib.hid (grown_set (k := (wayOf zs i)[q]?.getD 0) hg (.int .i64 (((wayOf zs i)[q + 2]?.getD 0 : Nat) : Int)))
        clear ho hns hset HQ hg
        revert c1 c2 hx hsl hfr HNS HGN
        generalize (wayOf zs i)[q]?.getD 0 = a
        generalize (wayOf zs i)[q + 2]?.getD 0 = b
        intro c1 c2 hx hsl hfr HNS HGN
        have kq : IntKind.i64.wrap ((q : Int) + 2) = (q : Int) + 2 := IntWalk.i64_in _ (by omega)
        have kq2 : (0 : Int) ≤ (q : Int) + 2 := by omega
        have kq3 : (q : Int) + 2 < (M : Int) + 1 := by omega
        have kq4 : (q : Int) + 2 < ((M + 1 : Nat) : Int) := by omega
        have kq5 : ((q : Int) + 2).toNat = q + 2 := by omega
        go_wp2
        go_region
        go_wp2
        go_roundw
        case rel => exact ⟨q + 1, by omega, by go_num, HNS.out, ⟨HGN.out.os, HGN.out.tape, HGN.out.output, HGN.out.size, HGN.out.block⟩⟩
        case measure => simp [intOf]; omega
      · obtain rfl : q = M - 1 := by omega
        have HBW := Lib.hid (HBB.out.grown hg (by have := HBB.out.size; omega) (fun r e => by injection e with e; omega))
        clear hg
        go_wp2
        go_ret2
        refine ⟨.slice (some ⟨g1, 0, none⟩) n k1, ?_, ?_, HBW.out⟩
        · rw [E1.out]; rfl
        · rw [E2.out]; exact HQ.out
end Go.Proofs.Ytebgnaiibomjkaa

namespace Go.Proofs.Ytebgnaiibomjkaa
open Go.RowKit

theorem l3Look_any (l : Int) (w : World) : Calls Try.prog 96 #[.int .i64 l] w fun e w' => e = .returned (.bool (inLook l)) ∧ w = w' := by
  go_enter Try.func96, Try.ntmps96
  go_wp2_with fail
  refine (l1In_any _ _ _ _).mono ?_
  rintro e w2 ⟨rfl, rfl⟩
  go_wp2_with fail
  go_ret
  exact ⟨ret_bool (by unfold inLook; simp), rfl⟩
theorem inLook_parts {l : Int} (h : inLook l = true) : 0 ≤ l ∧ l ≤ 3 := by
  unfold inLook at h
  exact of_decide_eq_true h

set_option maxRecDepth 100000 in
set_option maxHeartbeats 1000000 in
theorem specLookUp_any (A : Option Addr) (n c B0 : Nat) (zs : List Int) (l i : Int) (w : World) (h : Rd w B0 A n zs) (hB0 : B0 ≤ w.heap.size) (hb : n ≤ 1048576) :
    Calls Try.prog 43 #[.slice A n c, .int .i64 l, .int .i64 i] w fun e w' => ∃ v, e = .returned (.tuple #[v, .bool (lookB zs l [i])]) ∧ Own w' w.heap.size v (lookedN zs l [i]) ∧ Below w.heap.size w w' := by
  have R := l1Item_any A n c B0 zs i w h hB0 hb
  have L := l3Look_any l
  have hb1 := lookB_one zs l i
  have hln := h.1
  cases hv : itemB zs i with
  | false =>
    rw [hv] at R
    have hno : lookB zs l [i] = false := by rw [hb1, hv]; rfl
    rw [hno]
    have HN := Lib.hid (lookedN_no hno)
    have R := Lib.hid R
    clear hv hb1 hno L
    go_enter Try.func43, Try.ntmps43
    go_wp2_with fail
    refine R.out.mono ?_
    rintro e w1 ⟨rfl, hb1⟩
    go_wp2_with fail
    go_ret2
    exact ⟨_, rfl, by rw [HN.out]; exact Own.lit w1 _ [] hb1.size (by simp), hb1.alloc hb1.size _⟩
  | true =>
    rw [hv] at R
    cases hl : inLook l with
    | false =>
      rw [hl] at L
      have hno : lookB zs l [i] = false := by rw [hb1, hl]; simp
      rw [hno]
      have HN := Lib.hid (lookedN_no hno)
      have R := Lib.hid R
      have L := Lib.hid L
      clear hv hb1 hno hl
      go_enter Try.func43, Try.ntmps43
      go_wp2_with fail
      refine R.out.mono ?_
      rintro e w1 ⟨rfl, hb1⟩
      go_wp2_with fail
      refine (L.out _).mono ?_
      rintro e w2 ⟨rfl, rfl⟩
      go_wp2_with fail
      go_ret2
      exact ⟨_, rfl, by rw [HN.out]; exact Own.lit w1 _ [] hb1.size (by simp), hb1.alloc hb1.size _⟩
    | true =>
      rw [hl] at L
      have hyes : lookB zs l [i] = true := by rw [hb1, hv, hl]; rfl
      rw [hyes]
      have hit := item_lt hv
      obtain ⟨j, rfl⟩ := Int.eq_ofNat_of_zero_le hit.1
      have HN : Hid (lookedN zs l [(j : Int)] = lookT (lookAt l) zs j) := by
        show _ = _
        rw [lookedN_yes hyes, nats_one, manyL_one, Int.toNat_natCast]
      have R := Lib.hid R
      have L := Lib.hid L
      have U := Lib.hid (fun (w1 : World) (hb1 : Below w.heap.size w w1) => l3Up_any A n c B0 j zs l w1 (h.below hb1 hB0) (Nat.le_trans hB0 hb1.size) (item_fv hv) (by omega) (inLook_parts hl))
      clear hv hb1 hyes hl hit h hln
      go_enter Try.func43, Try.ntmps43
      go_wp2_with fail
      refine R.out.mono ?_
      rintro e w1 ⟨rfl, hb1⟩
      go_wp2_with fail
      refine (L.out _).mono ?_
      rintro e w2 ⟨rfl, rfl⟩
      go_wp2_with fail
      refine (U.out w1 hb1).mono ?_
      rintro e w3 ⟨v, rfl, ho, hb3⟩
      have HO := Lib.hid (ho.less hb1.size)
      have HB := Lib.hid (hb1.trans (hb3.mono hb1.size))
      clear ho hb3
      go_wp2_with fail
      go_ret2
      exact ⟨_, rfl, by rw [HN.out]; exact HO.out, HB.out⟩
/-- A valid forest, items of it, not too many. -/
def itemsB (up : List Int) (is : List Int) : Bool := fvB up && decide (is.length ≤ 24) && allIn up.length is
theorem allIn_of' {n : Nat} {is : List Int} (h : ∀ k, k < is.length → 0 ≤ is[k]?.getD 0 ∧ is[k]?.getD 0 < (n : Int)) : allIn n is = true := by
  unfold allIn
  rw [List.all_eq_true]
  intro i hi
  obtain ⟨k, hk, rfl⟩ := List.getElem_of_mem hi
  have := h k hk
  rw [List.getElem?_eq_getElem hk, Option.getD_some] at this
  exact decide_eq_true this
theorem allIn_not' {n : Nat} {is : List Int} {k : Nat} (hk : k < is.length) (h : ¬ (0 ≤ is[k]?.getD 0 ∧ is[k]?.getD 0 < (n : Int))) : allIn n is = false := by
  cases e : allIn n is with
  | false => rfl
  | true =>
    exfalso
    apply h
    rw [List.getElem?_eq_getElem hk, Option.getD_some]
    exact allIn_mem e _ (List.getElem_mem hk)
end Go.Proofs.Ytebgnaiibomjkaa
namespace Go.Proofs.Ytebgnaiibomjkaa
open Go.RowKit
theorem stepsT_le16 {T : List Int → List Nat → Nat → List Int} (K : Kind T) {up : List Int} (h : fvB up = true) {i : Nat} (hi : i < up.length) : stepsT T up i ≤ 16 := by
  have h1 := visits_len K h hi
  have h2 := (fv_parts h).2.1
  unfold stepsT
  omega
theorem manyS_le' {T : List Int → List Nat → Nat → List Int} (K : Kind T) : ∀ {its : List Nat} {up : List Int}, fvB up = true → (∀ i ∈ its, i < up.length) → manyS T up its ≤ 16 * its.length
  | [], _, _, _ => Nat.le_refl _
  | i :: its, up, h, hi => by
    have h1 := lookT_shr K h (hi i (by simp))
    have h2 := manyS_le' K (its := its) h1.fv (fun j hj => by rw [h1.len]; exact hi j (by simp [hj]))
    have h3 := stepsT_le16 K h (hi i (by simp))
    unfold manyS
    rw [List.length_cons]
    omega
theorem nats_take' {is : List Int} {k : Nat} (hk : k < is.length) : nats (is.take (k + 1)) = nats (is.take k) ++ [(is[k]?.getD 0).toNat] := by
  unfold nats
  rw [List.take_succ_eq_append_getElem hk, List.map_append, List.getElem?_eq_getElem hk]
  rfl
theorem lookB_items (up : List Int) (l : Int) (is : List Int) : lookB up l is = (itemsB up is && inLook l) := rfl

end Go.Proofs.Ytebgnaiibomjkaa
namespace Go.Proofs.Ytebgnaiibomjkaa
open Go.RowKit
end Go.Proofs.Ytebgnaiibomjkaa