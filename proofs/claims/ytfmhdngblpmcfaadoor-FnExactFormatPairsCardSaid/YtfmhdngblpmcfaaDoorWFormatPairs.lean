/- The walk of the exact law of FormatPairs: for every slice of pairs the law returns true and nothing that was there has turned. -/
import Derived.Test.YtfmhdngblpmcfaaDoorFmtP
import Derived.Test.YtfmhdngblpmcfaaDoorHelpQ
namespace Go.Proofs.YtfmhdngblpmcfaaDoor
open Go.RowKit Go.Shelf

set_option maxRecDepth 100000 in
set_option maxHeartbeats 2000000 in
theorem exactFormatPairs (A : Option Addr) (n c : Nat) (zs : List (Int × Int)) (w : World) (h0 : RowQ w A n c zs) :
    Calls Tryd.prog 4 #[.slice A n c] w fun e w' => e = .returned (.bool true) ∧ Below w.heap.size w w' := by
  have SZ := Lib.hid (szPairS_any A n c 1048576 w h0.small (by omega) (by omega))
  by_cases hl : 1048576 < n
  · rw [if_pos (by omega)] at SZ
    go_enter Tryd.func4, Tryd.ntmps4
    go_wp2_with fail
    refine SZ.out.mono ?_
    rintro e w1 ⟨rfl, rfl⟩
    go_wp2_with fail
    go_ret
    exact ⟨rfl, Below.refl _ _⟩
  rw [if_neg (by omega)] at SZ
  have hr := h0.rd
  obtain ⟨xs, hxs⟩ : ∃ xs, xs = zs := ⟨_, rfl⟩
  rw [← hxs] at hr
  have hn20 : n ≤ 1048576 := by omega
  have hsz : ¬ (1048576 : Int) - (n : Int) < 0 := by omega
  have TS := Lib.hid (fun (W : World) (hb : Below w.heap.size w W) => toPairS_any A n c xs W ((hr.below hb (Nat.le_refl _)).more hb.size) hn20)
  have HL := Lib.hid hr.1
  clear hxs h0 hr hl
  go_enter Tryd.func4, Tryd.ntmps4
  go_wp2_with fail
  refine SZ.out.mono ?_
  rintro e w1 ⟨rfl, rfl⟩
  clear SZ
  go_wp2_with fail
  refine (TS.out w (Below.refl _ _)).mono ?_
  rintro e w2 ⟨v1, rfl, ho1, hb1⟩
  obtain ⟨A1, c1, rfl, hr1⟩ := ho1.form
  rw [HL.out] at hr1
  have SV := Lib.hid (specFormatPairs_any A1 n c1 _ xs w2 hr1 (Nat.le_refl _) hn20)
  have H1 := Lib.hid hb1
  rw [HL.out]
  clear ho1 hr1 hb1
  go_wp2_with fail
  refine SV.out.mono ?_
  rintro e w3 ⟨rfl, hb3⟩
  have H3 := Lib.hid (Below.on H1.out hb3)
  clear SV hb3
  go_wp2_with fail
  refine (TS.out w3 H3.out).mono ?_
  rintro e w4 ⟨v2, rfl, ho2, hb2⟩
  obtain ⟨A2, c2, rfl, hr2⟩ := ho2.form
  rw [HL.out] at hr2
  have IV := Lib.hid (implFormatPairs_any A2 n c2 _ xs w4 hr2 (Nat.le_refl _) hn20)
  have H2 := Lib.hid (And.intro hr2 (Below.on H3.out hb2))
  rw [HL.out]
  clear ho2 hr2 hb2
  generalize fmtP xs = g at IV
  go_wp2_with fail
  refine IV.out.mono ?_
  rintro e w5 ⟨rfl, hb5⟩
  have H5 := Lib.hid (Below.on H2.out.2 hb5)
  have H25 := Lib.hid ((H2.out.1.below hb5 (Nat.le_refl _)).more hb5.size)
  have heq : (g.toList == g.toList) = true := by simp
  clear hb5 IV
  go_wp2_with fail
  refine (TS.out w5 H5.out).mono ?_
  rintro e w6 ⟨v3, rfl, ho3, hb6⟩
  obtain ⟨A3, c3, rfl, hr3⟩ := ho3.form
  rw [HL.out] at hr3
  have EQ := eqPairS_any A2 A3 n c2 n c3 _ _ xs xs w6 (H25.out.below hb6 (Nat.le_refl _)) hr3 hb6.size (Nat.le_refl _) hn20 hn20
  rw [decide_eq_true rfl] at EQ
  have EQ := Lib.hid EQ
  have H6 := Lib.hid (Below.on H5.out hb6)
  rw [HL.out]
  clear ho3 hr3 hb6
  go_wp2_with fail
  refine EQ.out.mono ?_
  rintro e w7 ⟨rfl, hb7⟩
  have H7 := Lib.hid (Below.on H6.out hb7)
  clear hb7
  go_wp2_with fail
  go_ret
  exact ⟨rfl, H7.out⟩
end Go.Proofs.YtfmhdngblpmcfaaDoor
