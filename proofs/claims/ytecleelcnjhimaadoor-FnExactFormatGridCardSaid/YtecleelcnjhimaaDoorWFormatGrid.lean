/- The walk of the exact law of FormatGrid: for every slice of strings the law returns true and nothing that was there has turned. -/
import Derived.Test.YtecleelcnjhimaaDoorGridF
namespace Go.Proofs.YtecleelcnjhimaaDoor
open Go.RowKit Go.Shelf

set_option maxRecDepth 100000 in
set_option maxHeartbeats 2000000 in
theorem exactFormatGrid (A : Option Addr) (n c : Nat) (xs : List ByteArray) (w : World) (h : RdT w w.heap.size A n xs) (hn : n ≤ 9223372036854775807) (hx : ∀ x ∈ xs, x.size ≤ 9223372036854775807) :
    Calls Tryd.prog 5 #[.slice A n c] w fun e w' => e = .returned (.bool true) ∧ Below w.heap.size w w' := by
  have SZ := Lib.hid (szStringS_any A n c w.heap.size xs w h hn hx)
  have HR := Lib.hid h
  clear h hx
  go_enter Tryd.func5, Tryd.ntmps5
  go_wp2_with fail
  refine SZ.out.mono ?_
  rintro e w1 ⟨v, rfl, rfl, hv⟩
  rcases hv with rfl | ⟨hv0, hn20, hs20⟩
  · clear SZ
    go_wp2_with fail
    go_ret
    exact ⟨rfl, Below.refl _ _⟩
  · have hv0' : ¬ v < 0 := by omega
    have hx20 : ∀ x ∈ xs, x.size ≤ 1048576 := fun x hm => Nat.le_trans (sumT_mem hm) hs20
    have TS := Lib.hid (fun (W : World) (hb : Below w1.heap.size w1 W) => toStringS_any A n c xs W ((HR.out.below hb (Nat.le_refl _)).more hb.size) hn20)
    have HX := Lib.hid hx20
    have HL := Lib.hid HR.out.1
    clear SZ hx20 hs20 hv0
    go_wp2_with fail
    refine (TS.out w1 (Below.refl _ _)).mono ?_
    rintro e w2 ⟨v1, rfl, ho1, hb1⟩
    obtain ⟨A1, c1, rfl, hr1⟩ := ho1.form
    rw [HL.out] at hr1
    have SV := Lib.hid (specFormatGrid_any A1 n c1 _ xs w2 hr1 hn20 HX.out)
    have H1 := Lib.hid hb1
    rw [HL.out]
    clear ho1 hr1 hb1
    go_wp2_with fail
    refine SV.out.mono ?_
    rintro e w3 ⟨rfl, rfl⟩
    clear SV
    go_wp2_with fail
    refine (TS.out w3 H1.out).mono ?_
    rintro e w4 ⟨v2, rfl, ho2, hb2⟩
    obtain ⟨A2, c2, rfl, hr2, hc2⟩ := ho2.form2
    rw [HL.out] at hr2 hc2
    have IV := Lib.hid (implFormatGrid_any A2 n c2 _ xs w4 hr2 (Nat.le_refl _) hc2 hn20 HX.out)
    have H2 := Lib.hid (And.intro hr2 (Below.on H1.out hb2))
    rw [HL.out]
    clear ho2 hr2 hb2 hc2
    generalize fmtN xs = g at IV
    go_wp2_with fail
    refine IV.out.mono ?_
    rintro e w5 ⟨rfl, hb5⟩
    have H5 := Lib.hid (Below.on H2.out.2 hb5)
    have H25 := Lib.hid ((H2.out.1.below hb5 (Nat.le_refl _)).more hb5.size)
    have heq : (g.toList == g.toList) = true := by simp
    clear hb5 IV
    go_wp2_with fail
    refine (TS.out w5 H5.out).mono ?_
    rintro e w6 ⟨v3, rfl, ho3, hb6⟩
    obtain ⟨A3, c3, rfl, hr3⟩ := ho3.form
    rw [HL.out] at hr3
    have EQ := eqStringS_any A2 A3 n c2 n c3 _ _ xs xs w6 (H25.out.below hb6 (Nat.le_refl _)) hr3 hn20 hn20
    rw [decide_eq_true rfl] at EQ
    have EQ := Lib.hid EQ
    have H6 := Lib.hid (Below.on H5.out hb6)
    rw [HL.out]
    clear ho3 hr3 hb6
    go_wp2_with fail
    refine EQ.out.mono ?_
    rintro e w7 ⟨rfl, q, rfl⟩
    go_wp2_with fail
    go_ret
    exact ⟨rfl, below_drewN H6.out q⟩
end Go.Proofs.YtecleelcnjhimaaDoor
