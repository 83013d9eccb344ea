/- The walk of the law of grids' texts: for all codes the law returns true and nothing that was there has turned. -/
import Derived.Test.YtecleelcnjhimaaDoorDrawG4
import Derived.Test.YtecleelcnjhimaaDoorGridLaw
import Derived.Test.YtecleelcnjhimaaDoorArgs
namespace Go.Proofs.YtecleelcnjhimaaDoor
open Go.RowKit Go.Shelf

theorem RdT.toG {w w' : World} {A : Option Addr} {n : Nat} {zs : List ByteArray} (h : RdT w w.heap.size A n zs) (hb : Below w.heap.size w w') : RdT w' w'.heap.size A n zs := (h.below hb (Nat.le_refl _)).more hb.size
theorem RdT.nG {w : World} {A : Option Addr} {n : Nat} {zs : List ByteArray} (h : RdT w w.heap.size A n zs) (k : Nat) : RdT (w.drewN k) (w.drewN k).heap.size A n zs := by rw [drewN_size]; exact h
theorem RdT.mG {w wx : World} {A : Option Addr} {n k : Nat} {zs : List ByteArray} (h : RdT w w.heap.size A n zs) (hk : wx = w.drewN k) : RdT wx wx.heap.size A n zs := by subst hk; exact h.nG k
theorem below_mG {a w wx : World} {B k : Nat} (h : Below B a w) (hk : wx = w.drewN k) : Below B a wx := by subst hk; exact below_drewN h k
theorem pg_gv (xs : List ByteArray) : gvB (cutT (fmtN xs)) = gvB xs := by
  cases h : gvB xs with
  | true => rw [cut_fmt h, h]
  | false =>
    rw [fmtN_no h]
    have : cutT ⟨#[]⟩ = [⟨#[]⟩] := rfl
    rw [this]
    exact gv_wide (by decide)
theorem pg_yes {xs : List ByteArray} (h : gvB xs = true) : pgN (fmtN xs) = xs := by
  rw [pgN_yes (by rw [pg_gv]; exact h), cut_fmt h]
theorem fmtN_le (xs : List ByteArray) : (fmtN xs).size ≤ 42 := by
  cases h : gvB xs with
  | true => exact (fmtN_size h).2
  | false => rw [fmtN_no h]; exact Nat.zero_le _
theorem turn_len (xs : List ByteArray) : (turnN xs).length ≤ 6 := by
  cases h : gvB xs with
  | false => rw [turnN_no h]; simp
  | true => rw [turnN_yes h, turnL_len]; exact (gv_parts h).2.1.2
theorem turn_small (xs : List ByteArray) : ∀ x ∈ turnN xs, x.size ≤ 1048576 := fun x hx => by
  cases h : gvB xs with
  | false => rw [turnN_no h] at hx; simp at hx
  | true =>
    obtain ⟨_, g, hr⟩ := gv_parts (turn_gv h)
    have := (hr x hx).1
    omega
theorem pgN_small {s : ByteArray} (hs : s.size ≤ 1048576) : ∀ x ∈ pgN s, x.size ≤ 1048576 := fun x hx => by
  cases h : gvB (cutT s) with
  | false => rw [pgN_no h] at hx; simp at hx
  | true => rw [pgN_yes h] at hx; have := cutT_size hx; omega

set_option maxRecDepth 100000 in
set_option maxHeartbeats 8000000 in
theorem fnGridText (A0 : Option Addr) (n0 c0 : Nat) (z0 : List Int) (A1 : Option Addr) (n1 c1 : Nat) (z1 : List Int) (w : World) (h0 : Row .u8 w A0 n0 c0 z0) (h1 : Row .u8 w A1 n1 c1 z1) (m : Int) (hm : w.cell? ⟨Tryd.laySplitN_ren.g 1, 0, none⟩ = some (.int .i64 m)) :
    Calls Tryd.prog 3 #[.slice A0 n0 c0, .slice A1 n1 c1] w fun e w' => e = .returned (.bool true) ∧ Below w.heap.size w w' := by
  by_cases hl0 : 1048576 < n0
  · clear h0 h1 hm
    go_enter Tryd.func3, Tryd.ntmps3
    go_wp2
    go_ret
    exact ⟨rfl, Below.refl _ _⟩
  by_cases hl1 : 1048576 < n1
  · clear h0 h1 hm
    go_enter Tryd.func3, Tryd.ntmps3
    go_wp2
    go_ret
    exact ⟨rfl, Below.refl _ _⟩
  obtain ⟨b0, hc0⟩ := h0.bt
  obtain ⟨b1, hc1⟩ := h1.bt
  have hlt := World.block_lt_of_cell? w _ hm
  have IP := Lib.hid (fun (s : ByteArray) (W : World) (hs : s.size ≤ 1048576) (hb : Below w.heap.size w W) => implParse_any s m W hs ((hb.cell hlt).trans hm))
  have D0 := Lib.hid (drawFG_any A0 n0 c0 w.heap.size z0 w b0 (Nat.le_refl _) hc0)
  have D1 := Lib.hid (fun (W : World) (hb : Below w.heap.size w W) => drawTG_any A1 n1 c1 w.heap.size z1 W (b1.below hb (Nat.le_refl _)) hb.size hc1)
  have D2 := Lib.hid (fun (W : World) (hb : Below w.heap.size w W) => drawGV_any A1 n1 c1 w.heap.size z1 W (b1.below hb (Nat.le_refl _)) hb.size hc1)
  have D3 := Lib.hid (fun (W : World) (hb : Below w.heap.size w W) => drawPG_any A1 n1 c1 w.heap.size z1 W (b1.below hb (Nat.le_refl _)) hb.size hc1)
  clear h0 h1 b0 b1 hc0 hc1 hm hlt
  go_enter Tryd.func3, Tryd.ntmps3
  go_wp2_with fail
  refine D0.out.mono ?_
  rintro e w1 ⟨v, xs, rfl, ho, hx7, hx20, hb1⟩
  obtain ⟨A, c, rfl, hr, hcap⟩ := ho.form2
  have hxb : ∀ x ∈ xs, x.size ≤ 1048576 := fun x hx => by have := hx20 x hx; omega
  have F1 := Lib.hid (implFormatGrid_any A xs.length c _ xs w1 hr (Nat.le_refl _) hcap (by omega) hxb)
  have S1 := Lib.hid (fun (W : World) (h : RdT W W.heap.size A xs.length xs) => specFormatGrid_any A xs.length c _ xs W h (by omega) hxb)
  have V1 := Lib.hid (fun (W : World) (h : RdT W W.heap.size A xs.length xs) => implGridValid_any A xs.length c _ xs W h (Nat.le_refl _) (by omega) hxb)
  have I1 := Lib.hid (fun (W : World) (hb : Below w.heap.size w W) => IP.out (fmtN xs) W (by have := fmtN_le xs; omega) hb)
  rw [pg_gv] at I1
  have PY := Lib.hid (fun h : gvB xs = true => pg_yes h)
  have hbk := pgN_len (fmtN xs)
  obtain ⟨bk, hbe⟩ : ∃ bk, bk = pgN (fmtN xs) := ⟨_, rfl⟩
  rw [← hbe] at I1 PY hbk
  obtain ⟨t, hte⟩ : ∃ t, t = fmtN xs := ⟨_, rfl⟩
  rw [← hte] at F1 S1 I1
  obtain ⟨gx, hge⟩ : ∃ gx, gx = gvB xs := ⟨_, rfl⟩
  rw [← hge] at V1 I1 PY
  have dt : (t.toList == t.toList) = true := by simp
  have HB1 := Lib.hid hb1
  clear ho hb1 hbe hte hge hx20 hxb D0 hcap
  go_wp2_with fail
  refine F1.out.mono ?_
  rintro e w2 ⟨rfl, hb2⟩
  have hr := hr.toG hb2
  have HB2 := Lib.hid (Below.on HB1.out hb2)
  clear hb2 F1 HB1
  go_wp2_with fail
  refine (I1.out _ HB2.out).mono ?_
  rintro e w3 ⟨v3, rfl, ho3, hb3⟩
  obtain ⟨A3, c3, rfl, hr3⟩ := ho3.form
  have hr := hr.toG hb3
  have HB3 := Lib.hid (Below.on HB2.out hb3)
  clear hb3 I1 HB2 ho3
  go_wp2_with fail
  refine (D1.out _ HB3.out).mono ?_
  rintro e w4 ⟨v4, ys, rfl, ho4, hy7, hy20, hb4⟩
  obtain ⟨A4, c4, rfl, hr4⟩ := ho4.form
  have hyb : ∀ x ∈ ys, x.size ≤ 1048576 := fun x hx => by have := hy20 x hx; omega
  have hr := hr.toG hb4
  have hr3 := hr3.toG hb4
  have HB4 := Lib.hid (Below.on HB3.out hb4)
  have T1 := Lib.hid (fun (W : World) (h : RdT W W.heap.size A4 ys.length ys) => implTurn_any A4 ys.length c4 _ ys W h (Nat.le_refl _) (by omega) hyb)
  have T2 := Lib.hid (fun (W : World) (h : RdT W W.heap.size A4 ys.length ys) => specTurn_any A4 ys.length c4 _ ys W h (Nat.le_refl _) (by omega) hyb)
  have htl := turn_len ys
  have T3 := Lib.hid (fun (hg : gvB ys = true) (A : Option Addr) (c : Nat) (W : World) (h : RdT W W.heap.size A (turnN ys).length (turnN ys)) => (show Calls Tryd.prog 13 #[.slice A (turnN ys).length c] W fun e w' => ∃ v, e = .returned (.tuple #[v, .bool true]) ∧ OwnT w' W.heap.size v ys ∧ Below W.heap.size W w' by
    have := implTurn_any A (turnN ys).length c _ (turnN ys) W h (Nat.le_refl _) (by omega) (turn_small ys)
    rwa [turn_gv hg, turn_turn hg] at this))
  obtain ⟨tu, hte⟩ : ∃ tu, tu = turnN ys := ⟨_, rfl⟩
  rw [← hte] at T1 T2 T3 htl
  obtain ⟨gy, hge⟩ : ∃ gy, gy = gvB ys := ⟨_, rfl⟩
  rw [← hge] at T1 T2 T3
  clear ho4 hb4 hy20 hyb hte hge D1 HB3
  go_wp2_with fail
  refine (T1.out _ hr4).mono ?_
  rintro e w5 ⟨v5, rfl, ho5, hb5⟩
  obtain ⟨A5, c5, rfl, hr5⟩ := ho5.form
  have hr := hr.toG hb5
  have hr3 := hr3.toG hb5
  have hr4 := hr4.toG hb5
  have HB5 := Lib.hid (Below.on HB4.out hb5)
  clear ho5 hb5 T1 HB4
  go_wp2_with fail
  refine (T2.out _ hr4).mono ?_
  rintro e w6 ⟨v6, rfl, ho6, hb6⟩
  obtain ⟨A6, c6, rfl, hr6⟩ := ho6.form
  have hr := hr.toG hb6
  have hr3 := hr3.toG hb6
  have hr4 := hr4.toG hb6
  have hr5 := hr5.toG hb6
  have HB6 := Lib.hid (Below.on HB5.out hb6)
  clear ho6 hb6 T2 HB5
  go_wp2_with fail
  refine (D2.out _ HB6.out).mono ?_
  rintro e w7 ⟨v7, us, rfl, ho7, hu7, hu20, hb7⟩
  obtain ⟨A7, c7, rfl, hr7⟩ := ho7.form
  have hub : ∀ x ∈ us, x.size ≤ 1048576 := fun x hx => by have := hu20 x hx; omega
  have hr := hr.toG hb7
  have hr3 := hr3.toG hb7
  have hr4 := hr4.toG hb7
  have hr5 := hr5.toG hb7
  have hr6 := hr6.toG hb7
  have HB7 := Lib.hid (Below.on HB6.out hb7)
  have U1 := Lib.hid (fun (W : World) (h : RdT W W.heap.size A7 us.length us) => implGridValid_any A7 us.length c7 _ us W h (Nat.le_refl _) (by omega) hub)
  have U2 := Lib.hid (fun (W : World) (h : RdT W W.heap.size A7 us.length us) => specGridValid_any A7 us.length c7 _ us W h (by omega) hub)
  obtain ⟨gu, hge⟩ : ∃ gu, gu = gvB us := ⟨_, rfl⟩
  rw [← hge] at U1 U2
  have dgx : (gx != gx) = false := by cases gx <;> rfl
  have dgy : (gy != gy) = false := by cases gy <;> rfl
  have dgu : (gu != gu) = false := by cases gu <;> rfl
  have dtu : decide (tu = tu) = true := by simp
  have dys : decide (ys = ys) = true := by simp
  have dxs : decide (xs = xs) = true := by simp
  clear ho7 hb7 hu20 hub hge D2 HB6
  go_wp2_with fail
  refine (S1.out _ hr).mono ?_
  rintro e w8 ⟨rfl, rfl⟩
  go_wp2_with fail
  refine (V1.out _ hr).mono ?_
  rintro e w9 ⟨rfl, hb9⟩
  have hr := hr.toG hb9
  have hr3 := hr3.toG hb9
  have hr4 := hr4.toG hb9
  have hr5 := hr5.toG hb9
  have hr6 := hr6.toG hb9
  have hr7 := hr7.toG hb9
  have HB9 := Lib.hid (Below.on HB7.out hb9)
  clear hb9 S1 V1 HB7
  cases gx
  case' true =>
    obtain rfl := PY.out (by simp)
    go_wp2_with fail
    refine (lrTexts_any _ _ _ _ _ _ _ _ bk bk _ hr3 hr (by omega) (by omega)).mono ?_
    rintro e wx ⟨rfl, k1, hk⟩
    have hr4 := hr4.mG hk
    have hr5 := hr5.mG hk
    have hr6 := hr6.mG hk
    have hr7 := hr7.mG hk
    have HB9 := Lib.hid (below_mG HB9.out hk)
    clear hk
  all_goals
    clear PY hr hr3
    go_wp2_with fail
    refine (lrTexts_any _ _ _ _ _ _ _ _ tu tu _ hr5 hr6 (by omega) (by omega)).mono ?_
    rintro e wx ⟨rfl, k2, hk⟩
    have hr4 := hr4.mG hk
    have hr5 := hr5.mG hk
    have hr7 := hr7.mG hk
    have HB9 := Lib.hid (below_mG HB9.out hk)
    clear hk
    clear hr6
    go_wp2_with fail
    refine (U1.out _ hr7).mono ?_
    rintro e w10 ⟨rfl, hb10⟩
    have hr4 := hr4.toG hb10
    have hr5 := hr5.toG hb10
    have hr7 := hr7.toG hb10
    have HB9 := Lib.hid (Below.on HB9.out hb10)
    clear hb10 U1
    go_wp2_with fail
    refine (U2.out _ hr7).mono ?_
    rintro e wy ⟨rfl, rfl⟩
    clear hr7 U2
    cases gy
    case' true =>
      go_wp2_with fail
      refine (T3.out (by simp) _ _ _ hr5).mono ?_
      rintro e w11 ⟨v11, rfl, ho11, hb11⟩
      obtain ⟨A11, c11, rfl, hr11⟩ := ho11.form
      have hr4 := hr4.toG hb11
      have HB9 := Lib.hid (Below.on HB9.out hb11)
      clear ho11 hb11
      go_wp2_with fail
      refine (lrTexts_any _ _ _ _ _ _ _ _ ys ys _ hr11 hr4 (by omega) (by omega)).mono ?_
      rintro e wx ⟨rfl, k3, hk⟩
      have HB9 := Lib.hid (below_mG HB9.out hk)
      clear hk
      clear hr11
    all_goals
      clear hr4 hr5 T3
      go_wp2_with fail
      refine (D3.out _ HB9.out).mono ?_
      rintro e w12 ⟨s, rfl, hs, hb12⟩
      have HB12 := Lib.hid (Below.on HB9.out hb12)
      have I2 := Lib.hid (IP.out s w12 (by omega) HB12.out)
      have SP := Lib.hid (fun (W : World) => specParse_any s W (by omega))
      have hpl := pgN_len s
      have F2 := Lib.hid (fun (hg : gvB (cutT s) = true) (A : Option Addr) (c : Nat) (W : World) (h : RdT W W.heap.size A (pgN s).length (pgN s)) (hc : (pgN s).length ≤ c) => (show Calls Tryd.prog 10 #[.slice A (pgN s).length c] W fun e w' => e = .returned (.string s) ∧ Below W.heap.size W w' by
        have := implFormatGrid_any A (pgN s).length c _ (pgN s) W h (Nat.le_refl _) hc (by omega) (pgN_small (by omega))
        rwa [show fmtN (pgN s) = s by rw [pgN_yes hg]; exact fmt_cut hg] at this))
      obtain ⟨pg, hpe⟩ : ∃ pg, pg = pgN s := ⟨_, rfl⟩
      rw [← hpe] at I2 SP F2 hpl
      obtain ⟨gs, hge⟩ : ∃ gs, gs = gvB (cutT s) := ⟨_, rfl⟩
      rw [← hge] at I2 SP F2
      have dpg : decide (pg = pg) = true := by simp
      have dgs : (gs == gs) = true := by simp
      have dss : (s.toList == s.toList) = true := by simp
      clear hb12 hpe hge IP D3 HB9
      go_wp2_with fail
      refine I2.out.mono ?_
      rintro e w13 ⟨v13, rfl, ho13, hb13⟩
      obtain ⟨A13, c13, rfl, hr13, hcap13⟩ := ho13.form2
      have HB13 := Lib.hid (Below.on HB12.out hb13)
      clear ho13 hb13 I2 HB12
      go_wp2_with fail
      refine (SP.out _).mono ?_
      rintro e w14 ⟨v14, rfl, ho14, hb14⟩
      obtain ⟨A14, c14, rfl, hr14⟩ := ho14.form
      have hr13 := hr13.toG hb14
      have HB14 := Lib.hid (Below.on HB13.out hb14)
      clear ho14 hb14 SP HB13
      go_wp2_with fail
      refine (lrTexts_any _ _ _ _ _ _ _ _ pg pg _ hr13 hr14 (by omega) (by omega)).mono ?_
      rintro e wx ⟨rfl, k4, hk⟩
      have hr13 := hr13.mG hk
      have HB14 := Lib.hid (below_mG HB14.out hk)
      clear hk
      clear hr14
      cases gs
      case' true =>
        go_wp2_with fail
        refine (F2.out (by simp) _ _ _ hr13 hcap13).mono ?_
        rintro e w15 ⟨rfl, hb15⟩
        have HB14 := Lib.hid (Below.on HB14.out hb15)
        clear hb15
      all_goals
        go_wp2_with fail
        go_ret
        exact ⟨rfl, HB14.out⟩
end Go.Proofs.YtecleelcnjhimaaDoor
