/- The walk of the law on drawn forests of WayUp and DeepestOf: for every two rows of bytes the law returns true and nothing that was there has turned. -/
import Derived.Test.YtlebnmboaeemoaaImplWay
import Derived.Test.YtlebnmboaeemoaaSpecWay
import Derived.Test.YtlebnmboaeemoaaDraw4
import Derived.Test.YtlebnmboaeemoaaLr
import Derived.Deep.RegionHeld3
import Derived.IntWalk
namespace Go.Proofs.Ytlebnmboaeemoaa
open Go.RowKit

theorem ints_get (xs : List Nat) (k : Nat) : (ints xs)[k]?.getD 0 = ((xs[k]?.getD 0 : Nat) : Int) := by
  unfold ints
  rw [List.getElem?_map]
  cases xs[k]? <;> rfl
theorem Own.capped {w : World} {base n c : Nat} {A : Option Addr} {zs : List Int} (h : Own w base (.slice A n c) zs) : n ≤ c := by
  have hf := h.form
  rcases h.2 with ⟨hv, hx⟩ | ⟨g, cap, cur, hv, hbase, hh, hnc, hm, hsz, hcells⟩
  · simp only [Value.slice.injEq] at hv
    omega
  · simp only [Value.slice.injEq] at hv
    omega

/-- What is held in a region that draws: nothing old has turned, two cells. -/
theorem held_drew {B : Nat} {a w : World} {p q : Addr} {v u : Value} (h : Below B a w ∧ w.cell? p = some v ∧ w.cell? q = some u) : Below B a w.drew ∧ w.drew.cell? p = some v ∧ w.drew.cell? q = some u :=
  ⟨⟨h.1.os, h.1.tape, h.1.output, h.1.size, h.1.block⟩, h.2⟩
theorem held_call {B : Nat} {a w w' : World} {p q : Addr} {v u : Value} (h : Below B a w ∧ w.cell? p = some v ∧ w.cell? q = some u) (hb : Below w.heap.size w w') (hB : B ≤ w.heap.size) : Below B a w' ∧ w'.cell? p = some v ∧ w'.cell? q = some u :=
  ⟨h.1.trans (hb.mono hB), (hb.cell (World.block_lt_of_cell? w _ h.2.1)).trans h.2.1, (hb.cell (World.block_lt_of_cell? w _ h.2.2)).trans h.2.2⟩

set_option maxRecDepth 100000 in
set_option maxHeartbeats 4000000 in
theorem fnWayUp (A0 : Option Addr) (n0 c0 : Nat) (z0 : List Int) (A1 : Option Addr) (n1 c1 : Nat) (z1 : List Int) (w : World) (h0 : Row .u8 w A0 n0 c0 z0) (h1 : Row .u8 w A1 n1 c1 z1) :
    Calls Try.prog 4 #[.slice A0 n0 c0, .slice A1 n1 c1] w fun e w' => e = .returned (.bool true) ∧ Below w.heap.size w w' := by
  by_cases hl0 : 1048576 < n0
  · clear h0 h1
    go_enter Try.func4, Try.ntmps4
    go_wp2
    go_ret
    exact ⟨rfl, Below.refl _ _⟩
  by_cases hl1 : 1048576 < n1
  · clear h0 h1
    go_enter Try.func4, Try.ntmps4
    go_wp2
    go_ret
    exact ⟨rfl, Below.refl _ _⟩
  obtain ⟨b0, hc0⟩ := h0.bt
  obtain ⟨b1, hc1⟩ := h1.bt
  have D0 := Lib.hid (drawWay_any A0 n0 c0 w.heap.size z0 w b0 (Nat.le_refl _) hc0)
  have D1 := Lib.hid (fun (w1 : World) (hb : Below w.heap.size w w1) => drawDeep_any A1 n1 c1 w.heap.size z1 w1 (b1.below hb (Nat.le_refl _)) hb.size hc1)
  clear h0 h1 b0 b1 hc0 hc1
  go_enter Try.func4, Try.ntmps4
  go_wp2_with fail
  refine D0.out.mono ?_
  rintro e w1 ⟨v, zs, a, rfl, ho, hl, ha, hb1⟩
  obtain ⟨A, c, rfl, hr⟩ := ho.form
  obtain ⟨n, hn⟩ : ∃ n, n = zs.length := ⟨_, rfl⟩
  rw [← hn] at hr hl
  rw [← hn]
  clear ho D0
  have IW := Lib.hid (implWay_any A n c w1.heap.size zs a w1 hr (Nat.le_refl _) (by omega))
  have SW := Lib.hid (fun (w2 : World) (hb2 : Below w1.heap.size w1 w2) => specWay_any A n c w1.heap.size zs a w2 (hr.below hb2 (Nat.le_refl _)) hb2.size (by omega))
  have R := Lib.hid (fun (w2 : World) (hb2 : Below w1.heap.size w1 w2) => implRoot_any A n c w1.heap.size zs a w2 (hr.below hb2 (Nat.le_refl _)) hb2.size (by omega))
  have DP := Lib.hid (fun (w2 : World) (hb2 : Below w1.heap.size w1 w2) => implDeep_any A n c w1.heap.size zs w2 (hr.below hb2 (Nat.le_refl _)) hb2.size (by omega))
  have RD := Lib.hid hr
  have HN := Lib.hid hn
  clear hr hn
  cases hia : itemB zs a with
  | false =>
    rw [wayN_no hia, hia] at IW SW
    clear hia R DP RD HN
    go_wp2_with fail
    refine IW.out.mono ?_
    rintro e w2 ⟨v2, rfl, ho2, hb2⟩
    obtain ⟨A2, c2, rfl, hr2⟩ := ho2.form
    have hz : (ints []).length = 0 := rfl
    rw [hz] at hr2
    rw [hz]
    have hB2 := hb1.trans (hb2.mono hb1.size)
    clear ho2 hz
    go_wp2_with fail
    refine (SW.out w2 hb2).mono ?_
    rintro e w3 ⟨v3, rfl, ho3, hb3⟩
    obtain ⟨A3, c3, rfl, hr3⟩ := ho3.form
    have hz : (ints []).length = 0 := rfl
    rw [hz] at hr3
    rw [hz]
    have hB3 := hB2.trans (hb3.mono hB2.size)
    have hr2 := hr2.below hb3 (Nat.le_refl _)
    have hr2 := hr2.more hb3.size
    clear ho3 hz hb2 hB2 hb3
    go_wp2_with fail
    refine (D1.out w3 hB3).mono ?_
    rintro e w4 ⟨v4, ys, rfl, ho4, hl4, hb4⟩
    obtain ⟨A4, c4, rfl, hr4⟩ := ho4.form
    have hB4 := hB3.trans (hb4.mono hB3.size)
    have hr2 := hr2.below hb4 (Nat.le_refl _)
    have hr3 := hr3.below hb4 (Nat.le_refl _)
    have hs4 := hb4.size
    have LS := Lib.hid (fun (w5 : World) (hb5 : Below w4.heap.size w4 w5) => lrSame_any A2 A3 0 c2 c3 w3.heap.size w3.heap.size (ints []) w5 (hr2.below hb5 hs4) (hr3.below hb5 hs4) (by omega))
    have DI := Lib.hid (fun (w5 : World) (hb5 : Below w4.heap.size w4 w5) => implDeep_any A4 ys.length c4 w4.heap.size ys w5 (hr4.below hb5 (Nat.le_refl _)) hb5.size (by omega))
    have DS := Lib.hid (fun (w5 : World) (hb5 : Below w4.heap.size w4 w5) => specDeep_any A4 ys.length c4 w4.heap.size ys w5 (hr4.below hb5 (Nat.le_refl _)) hb5.size (by omega))
    generalize deepN ys = d at DI DS
    have hne : (d != d) = false := by simp
    have heq : (d == d) = true := by simp
    clear hr2 hr3 hr4 hs4 hb4 hB3 ho4 D1
    go_wp2_with fail
    refine (LS.out w4 (Below.refl _ _)).mono ?_
    rintro e w5 ⟨rfl, m5, rfl⟩
    have hb5 := below_drewN (Below.refl w4.heap.size w4) m5
    go_wp2_with fail
    refine (DI.out _ hb5).mono ?_
    rintro e w6 ⟨rfl, hb6⟩
    have hb6 := hb5.trans (hb6.mono hb5.size)
    clear hb5
    go_wp2_with fail
    refine (DS.out _ hb6).mono ?_
    rintro e w7 ⟨rfl, hb7⟩
    have hb7 := hb6.trans (hb7.mono hb6.size)
    clear hb6
    go_wp2_with fail
    refine (LS.out w7 hb7).mono ?_
    rintro e w8 ⟨rfl, m8, rfl⟩
    have hb8 := below_drewN hb7 m8
    clear hb7
    go_wp2_with fail
    refine (DI.out _ hb8).mono ?_
    rintro e w9 ⟨rfl, hb9⟩
    have hb9 := hb8.trans (hb9.mono hb8.size)
    clear hb8
    go_wp2_with fail
    refine (DS.out _ hb9).mono ?_
    rintro e w10 ⟨rfl, hb10⟩
    have hb10 := hb9.trans (hb10.mono hb9.size)
    have hB := hB4.trans (hb10.mono hB4.size)
    clear hb9 hb10
    go_wp2_with fail
    go_ret
    exact ⟨rfl, hB⟩
  | true =>
    obtain ⟨i, L, W, rfl, hW, hWL, hL1, hL17, hW0, hWr, hd1, hd2, hd3, hfacts⟩ := way_facts hia
    rw [hW, hia] at IW SW
    rw [← hWr] at R
    generalize deepN zs = dd at DP hd1 hd2 hd3
    have HF := Lib.hid hfacts
    have HW0 := Lib.hid hW0
    have hiL : (ints W).length = L := by rw [ints_len]; exact hWL
    have HIL := Lib.hid hiL
    clear hia hfacts hW0 hWr hW hWL hiL ha
    go_wp2_with fail
    refine IW.out.mono ?_
    rintro e w2 ⟨v2, rfl, ho2, hb2⟩
    obtain ⟨A2, c2, rfl, hr2⟩ := ho2.form
    have hcap := ho2.capped
    rw [HIL.out] at hr2 hcap ho2
    rw [HIL.out]
    have hB2 := hb1.trans (hb2.mono hb1.size)
    clear ho2
    go_wp2_with fail
    refine (SW.out w2 hb2).mono ?_
    rintro e w3 ⟨v3, rfl, ho3, hb3⟩
    obtain ⟨A3, c3, rfl, hr3⟩ := ho3.form
    rw [HIL.out] at hr3
    rw [HIL.out]
    have hB3 := hB2.trans (hb3.mono hB2.size)
    have hr2 := hr2.below hb3 (Nat.le_refl _)
    have hr2 := hr2.more hb3.size
    have hb3 := hb2.trans (hb3.mono hb2.size)
    clear ho3 hb2 hB2
    go_wp2_with fail
    refine (D1.out w3 hB3).mono ?_
    rintro e w4 ⟨v4, ys, rfl, ho4, hl4, hb4⟩
    obtain ⟨A4, c4, rfl, hr4⟩ := ho4.form
    have hB4 := hB3.trans (hb4.mono hB3.size)
    have hs4 := hb4.size
    have hr2 := (hr2.below hb4 (Nat.le_refl _)).more hs4
    have hr3 := (hr3.below hb4 (Nat.le_refl _)).more hs4
    have hb4 := hb3.trans (hb4.mono hb3.size)
    have LS := Lib.hid (fun (w5 : World) (hb5 : Below w4.heap.size w4 w5) => lrSame_any A2 A3 L c2 c3 w4.heap.size w4.heap.size (ints W) w5 (hr2.below hb5 (Nat.le_refl _)) (hr3.below hb5 (Nat.le_refl _)) (by omega))
    have DI := Lib.hid (fun (w5 : World) (hb5 : Below w4.heap.size w4 w5) => implDeep_any A4 ys.length c4 w4.heap.size ys w5 (hr4.below hb5 (Nat.le_refl _)) hb5.size (by omega))
    have DS := Lib.hid (fun (w5 : World) (hb5 : Below w4.heap.size w4 w5) => specDeep_any A4 ys.length c4 w4.heap.size ys w5 (hr4.below hb5 (Nat.le_refl _)) hb5.size (by omega))
    have R := Lib.hid (fun (w5 : World) (hb5 : Below w4.heap.size w4 w5) => R.out w5 (hb4.trans (hb5.mono hb4.size)))
    have DP := Lib.hid (fun (w5 : World) (hb5 : Below w4.heap.size w4 w5) => DP.out w5 (hb4.trans (hb5.mono hb4.size)))
    have RD := Lib.hid (RD.out.below hb4 (Nat.le_refl _) |>.more hb4.size)
    have R2 := Lib.hid hr2
    generalize deepN ys = d at DI DS
    have hne : (d != d) = false := by simp
    clear hr2 hr3 hr4 hs4 hb4 hb3 hB3 ho4 D1
    go_wp2_with fail
    refine (LS.out w4 (Below.refl _ _)).mono ?_
    rintro e w5 ⟨rfl, m5, rfl⟩
    have hb5 := below_drewN (Below.refl w4.heap.size w4) m5
    go_wp2_with fail
    refine (DI.out _ hb5).mono ?_
    rintro e w6 ⟨rfl, hb6⟩
    have hb6 := hb5.trans (hb6.mono hb5.size)
    clear hb5
    go_wp2_with fail
    refine (DS.out _ hb6).mono ?_
    rintro e w7 ⟨rfl, hb7⟩
    have hb7 := hb6.trans (hb7.mono hb6.size)
    clear hb6 LS DI DS hl4
    go_wp2_with fail
    go_loopw [12] (fun q wr => ∃ m : Nat, m + 1 ≤ L ∧ q = .int .i64 ((m : Int) + 1) ∧ Below w4.heap.size w4 wr) (fun q _ => L - (intOf q).toNat)
    case atStart => exact ⟨0, hL1, rfl, hb7⟩
    case round =>
      obtain ⟨m, hm, rfl, hbe⟩ := hrel
      clear hb7
      by_cases hlt : m + 1 < L
      · obtain ⟨f1, f2, f3, f4⟩ := HF.out (m + 1) (by omega) hlt
        rw [Nat.add_sub_cancel] at f1 f2 f3
        rw [← HN.out] at f1
        obtain ⟨b1, off1, rfl, _, hc1⟩ := (RD.out.below hbe (Nat.le_refl _)).2 (by omega)
        obtain ⟨b2, off2, rfl, _, hc2⟩ := (R2.out.below hbe (Nat.le_refl _)).2 (by omega)
        have g1 := hc1 _ f1
        have g2 := hc2 m (by omega)
        have g3 := hc2 (m + 1) hlt
        rw [ints_get] at g2 g3
        rw [f2] at g1
        have hrk := (R2.out.below hbe (Nat.le_refl _)).take (show m + 1 ≤ L by omega)
        have LH := Lib.hid (fun q => Calls.quiet_of_same (lrHas_no (some ⟨b2, off2, none⟩) (m + 1) c2 _ ((ints W).take (m + 1)) ((W[m + 1]?.getD 0 : Nat) : Int) (wr.drewN q) (hrk.drewN q) (by omega) f4))
        clear hc1 hc2 hrk f4 f2
        generalize W[m]?.getD 0 = u at f1 f3 g1 g2
        generalize W[m + 1]?.getD 0 = x at f3 g1 g3 LH
        have k1 : ((x : Int) != (x : Int)) = false := by simp
        have k2 : ((u : Int) == (x : Int)) = false := by simp; omega
        clear f3
        go_wp2
        go_quiet ((go_at_call 34; exact LH.out _))
        go_wp2
        have hbq := below_drewN hbe nq
        go_roundw
        case rel => exact ⟨m + 1, by omega, by go_num, hbq⟩
        case measure => simp [intOf]; omega
      · obtain rfl : L = m + 1 := by omega
        obtain ⟨b2, off2, rfl, hlt2, hc2⟩ := (R2.out.below hbe (Nat.le_refl _)).2 (by omega)
        have g1 := hc2 0 (by omega)
        have g2 := hc2 m (by omega)
        rw [ints_get] at g1 g2
        rw [HW0.out, Nat.add_zero] at g1
        rw [Nat.add_sub_cancel] at R
        clear hc2
        generalize W[m]?.getD 0 = u at g2 R
        have k1 : ((i : Int) == (i : Int)) = true := by simp
        have k2 : ((u : Int) == (u : Int)) = true := by simp
        have w0 : IntKind.i64.wrap (m : Int) = (m : Int) := IntWalk.i64_in _ (by omega)
        have w1 : IntKind.i64.wrap ((m : Int) + 1 - 1) = (m : Int) := by rw [show (m : Int) + 1 - 1 = (m : Int) by omega]; exact IntWalk.i64_in _ (by omega)
        have w2 : IntKind.i64.wrap (((m + 1 : Nat) : Int) - 1) = (m : Int) := by rw [show ((m + 1 : Nat) : Int) - 1 = (m : Int) by omega]; exact IntWalk.i64_in _ (by omega)
        have w3 : (0 : Int) ≤ (m : Int) := by omega
        have w4' : (m : Int) < (m : Int) + 1 := by omega
        have w5 : (m : Int) < ((m + 1 : Nat) : Int) := by omega
        have w6 : (0 : Int) < ((m + 1 : Nat) : Int) := by omega
        have w7 : (0 : Int) < (m : Int) + 1 := by omega
        go_wp2
        go_region_held3 (fun w' => Below w4.heap.size w4 w' ∧ w'.cell? ⟨b2, off2, none⟩ = some (.int .i64 (i : Int)) ∧ w'.cell? ⟨b2, off2 + m, none⟩ = some (.int .i64 (u : Int)))
          (first | exact held_drew ⟨by assumption, by assumption, by assumption⟩ | exact held_drew (by assumption) | exact held_call (by assumption) (by assumption) (Below.size (And.left (by assumption))))
          (first | (go_at_call 24; refine (R.out _ (‹Below w4.heap.size w4 _ ∧ _ ∧ _›).1).mono ?_; rintro e w8 ⟨rfl, hb8⟩)
                 | (go_at_call 32; refine (DP.out _ (‹Below w4.heap.size w4 _ ∧ _ ∧ _›).1).mono ?_; rintro e w8 ⟨rfl, hb8⟩))
        have hbz := (‹Below w4.heap.size w4 _ ∧ _ ∧ _›).1
        have hB := hB4.trans (hbz.mono hB4.size)
        go_wp2
        go_ret
        refine ⟨?_, hB⟩
        simp
        omega
end Go.Proofs.Ytlebnmboaeemoaa
