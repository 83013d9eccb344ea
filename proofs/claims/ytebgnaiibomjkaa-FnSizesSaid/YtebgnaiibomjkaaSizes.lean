/- The program's SizesOf and HeightsOf. Condition: lengths up to 1048576. -/
import Derived.Test.YtebgnaiibomjkaaTell
namespace Go.Proofs.Ytebgnaiibomjkaa
open Go.RowKit Go.Shelf

set_option maxRecDepth 100000 in
set_option maxHeartbeats 2000000 in
theorem implSizes_any (A : Option Addr) (n c B0 : Nat) (zs : List Int) (w : World) (h : Rd w B0 A n zs) (hB0 : B0 ≤ w.heap.size) (hb : n ≤ 1048576) :
    Calls Try.prog 36 #[.slice A n c] w fun e w' => ∃ v, e = .returned (.tuple #[v, .bool (fvB zs)]) ∧ Own w' w.heap.size v (sizesN zs) ∧ Below w.heap.size w w' := by
  have R := Lib.hid (joiningOf_any A n c B0 zs w h hB0 hb)
  have HN := Lib.hid h.1
  have hn0 : Own w w.heap.size (.slice none 0 0) [] := ⟨by simp, .inl ⟨rfl, rfl⟩⟩
  obtain ⟨b, hbv⟩ : ∃ b, b = fvB zs := ⟨_, rfl⟩
  obtain ⟨ss, hss⟩ : ∃ ss, ss = sizesN zs := ⟨_, rfl⟩
  rw [← hbv, ← hss]
  have HBV := Lib.hid hbv
  have HSS := Lib.hid hss
  clear h hbv hss
  go_enter Try.func36, Try.ntmps36
  go_wp2_with fail
  refine R.out.mono ?_
  rintro e w1 ⟨hb1, ⟨hv, rfl⟩ | ⟨hv, J, M, N, rfl, _, hm, hj, h1, h2, h3⟩⟩
  · have h0 : b = false := HBV.out.trans hv
    have h00 := HSS.out.trans (sizesN_no hv)
    subst h0
    subst h00
    have HO := Lib.hid (hn0.keep hb1 (Nat.le_refl _))
    clear hv
    go_wp2_with fail
    go_ret2
    exact ⟨_, rfl, HO.out, hb1⟩
  · have h0 : b = true := HBV.out.trans hv
    have h00 := Lib.hid (HSS.out.trans (sizesN_yes hv))
    subst h0
    have T := Lib.hid (toldSize_any J M N n (szN zs) (htN zs) w1 hm hj hb)
    have hsz := hb1.size
    clear hv hm hj h1 h2 h3
    go_wp2_with fail
    refine T.out.mono ?_
    rintro e w2 ⟨v, rfl, ho, hb2⟩
    have HO := Lib.hid (ho.less hsz)
    have hbb := hb1.trans (hb2.mono hsz)
    clear ho hb2
    go_wp2_with fail
    go_ret2
    refine ⟨_, rfl, ?_, hbb⟩
    have := HO.out
    rw [← HN.out] at this
    have e : (szL zs zs.length []) = (List.range zs.length).map fun x : Nat => (szN zs x : Int) := List.map_congr_left fun x _ => by simp [szAt, szN]
    rw [h00.out, e]
    exact this
set_option maxRecDepth 100000 in
set_option maxHeartbeats 2000000 in
theorem implHeights_any (A : Option Addr) (n c B0 : Nat) (zs : List Int) (w : World) (h : Rd w B0 A n zs) (hB0 : B0 ≤ w.heap.size) (hb : n ≤ 1048576) :
    Calls Try.prog 39 #[.slice A n c] w fun e w' => ∃ v, e = .returned (.tuple #[v, .bool (fvB zs)]) ∧ Own w' w.heap.size v (heightsN zs) ∧ Below w.heap.size w w' := by
  have R := Lib.hid (joiningOf_any A n c B0 zs w h hB0 hb)
  have HN := Lib.hid h.1
  have hn0 : Own w w.heap.size (.slice none 0 0) [] := ⟨by simp, .inl ⟨rfl, rfl⟩⟩
  obtain ⟨b, hbv⟩ : ∃ b, b = fvB zs := ⟨_, rfl⟩
  obtain ⟨ss, hss⟩ : ∃ ss, ss = heightsN zs := ⟨_, rfl⟩
  rw [← hbv, ← hss]
  have HBV := Lib.hid hbv
  have HSS := Lib.hid hss
  clear h hbv hss
  go_enter Try.func39, Try.ntmps39
  go_wp2_with fail
  refine R.out.mono ?_
  rintro e w1 ⟨hb1, ⟨hv, rfl⟩ | ⟨hv, J, M, N, rfl, _, hm, hj, h1, h2, h3⟩⟩
  · have h0 : b = false := HBV.out.trans hv
    have h00 := HSS.out.trans (heightsN_no hv)
    subst h0
    subst h00
    have HO := Lib.hid (hn0.keep hb1 (Nat.le_refl _))
    clear hv
    go_wp2_with fail
    go_ret2
    exact ⟨_, rfl, HO.out, hb1⟩
  · have h0 : b = true := HBV.out.trans hv
    have h00 := Lib.hid (HSS.out.trans (heightsN_yes hv))
    subst h0
    have T := Lib.hid (toldHeight_any J M N n (szN zs) (htN zs) w1 hm hj hb)
    have hsz := hb1.size
    clear hv hm hj h1 h2 h3
    go_wp2_with fail
    refine T.out.mono ?_
    rintro e w2 ⟨v, rfl, ho, hb2⟩
    have HO := Lib.hid (ho.less hsz)
    have hbb := hb1.trans (hb2.mono hsz)
    clear ho hb2
    go_wp2_with fail
    go_ret2
    refine ⟨_, rfl, ?_, hbb⟩
    have := HO.out
    rw [← HN.out] at this
    have e : (htL zs zs.length []) = (List.range zs.length).map fun x : Nat => (htN zs x : Int) := List.map_congr_left fun x _ => by simp [htAt, htN, htOne]
    rw [h00.out, e]
    exact this
end Go.Proofs.Ytebgnaiibomjkaa
