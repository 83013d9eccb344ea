/- The model's Join. Condition: lengths up to 1048576. -/
import Derived.Test.YtmkdiifjecnokaaGreatSpecSizes
import Derived.Test.YtmkdiifjecnokaaGreatSpec2
import Derived.Test.YtmkdiifjecnokaaGreatArgs
import Derived.Test.YtmkdiifjecnokaaGreatJoin
namespace Go.Proofs.YtmkdiifjecnokaaGreat
open Go.RowKit

set_option maxRecDepth 100000 in
set_option maxHeartbeats 4000000 in
theorem l2Under_any (A : Option Addr) (n c B0 p q : Nat) (zs : List Int) (r : Int) (w : World) (h : Rd w B0 A n zs) (hB0 : B0 ≤ w.heap.size) (hv : fvB zs = true) (hr : 0 ≤ r ∧ r ≤ 2) (hp : p < n) (hq : q < n) :
    Calls Tryz.prog 44 #[.slice A n c, .int .i64 r, .int .i64 (p : Int), .int .i64 (q : Int)] w fun e w' => e = .returned (.bool (underB zs r p q)) ∧ Below w.heap.size w w' := by
  have h16 := (fv_parts hv).2.1
  have hln := h.1
  rcases (show r = 0 ∨ r = 1 ∨ r = 2 by omega) with rfl | rfl | rfl
  · have e1 : Hid (underB zs 0 p q = true) := rfl
    clear h hv hln h16
    go_enter Tryz.func44, Tryz.ntmps44
    go_wp2
    go_ret
    exact ⟨ret_bool e1.out.symm, (Below.refl _ w).alloc (Nat.le_refl _) _⟩
  · have e1 : Hid (underB zs 1 p q = if szN zs p = szN zs q then decide (q < p) else decide (szN zs p < szN zs q)) := rfl
    have R := Lib.hid (fun (w2 : World) (hb2 : Below w.heap.size w w2) => l2Sizes_any A n c B0 zs w2 (h.below hb2 hB0) (Nat.le_trans hB0 hb2.size) hv)
    obtain ⟨x, hx⟩ : ∃ x, x = szN zs p := ⟨_, rfl⟩
    obtain ⟨y, hy⟩ : ∃ y, y = szN zs q := ⟨_, rfl⟩
    have GX : Hid ((szL zs zs.length [])[p]?.getD 0 = (x : Int)) := by
      show _ = _
      rw [szL_get (by omega), szAt_nil, hx]
      rfl
    have GY : Hid ((szL zs zs.length [])[q]?.getD 0 = (y : Int)) := by
      show _ = _
      rw [szL_get (by omega), szAt_nil, hy]
      rfl
    have HL : Hid ((szL zs zs.length []).length = n) := by
      show _ = _
      rw [szL_len, hln]
    rw [← hx, ← hy] at e1
    have hW := (Below.refl w.heap.size w).alloc (Nat.le_refl _) (.cells #[] 3)
    have R2 := Lib.hid (R.out _ hW)
    have HW := Lib.hid hW
    obtain ⟨b, hb⟩ : ∃ b, b = underB zs 1 p q := ⟨_, rfl⟩
    rw [← hb] at e1 ⊢
    clear h hv hln hx hy R hW hb h16
    go_enter Tryz.func44, Tryz.ntmps44
    go_wp2_with fail
    refine R2.out.mono ?_
    rintro e w3 ⟨v, rfl, ho, hb3⟩
    obtain ⟨A3, c3, rfl, _⟩ := ho.form
    rw [HL.out] at ho ⊢
    obtain ⟨g, rfl⟩ := own_head ho (by omega)
    have s1 := ho.slot hp
    have s2 := ho.slot hq
    rw [GX.out] at s1
    rw [GY.out] at s2
    have hbz := HW.out.trans (hb3.mono HW.out.size)
    have HB := Lib.hid (⟨hbz.os, hbz.tape, hbz.output, hbz.size, hbz.block⟩ : Below w.heap.size w w3.drew)
    have HB2 := Lib.hid (⟨hbz.os, hbz.tape, hbz.output, hbz.size, hbz.block⟩ : Below w.heap.size w w3.drew.drew)
    have pp : (p : Int) < (n : Int) := by omega
    have qq : (q : Int) < (n : Int) := by omega
    clear ho hb3 hbz GX GY HL R2
    by_cases hxy : x = y
    · have t1 : ((x : Int) != (y : Int)) = false := by simp [hxy]
      have HF : Hid (b = decide (q < p)) := by
        show _ = _
        rw [e1.out, if_pos hxy]
      clear hxy e1
      go_wp2
      go_region
      go_wp2
      go_ret
      refine ⟨ret_bool ?_, HB.out⟩
      rw [HF.out]
    · have t1 : ((x : Int) != (y : Int)) = true := by simp; omega
      have HF : Hid (b = decide (x < y)) := by
        show _ = _
        rw [e1.out, if_neg hxy]
      clear hxy e1
      go_wp2
      go_region
      go_wp2
      go_region
      go_wp2
      go_ret
      refine ⟨ret_bool ?_, HB2.out⟩
      rw [HF.out]
  · have e1 : Hid (underB zs 2 p q = if htN zs p = htN zs q then decide (q < p) else decide (htN zs p < htN zs q)) := rfl
    have R := Lib.hid (fun (w2 : World) (hb2 : Below w.heap.size w w2) => l2Heights_any A n c B0 zs w2 (h.below hb2 hB0) (Nat.le_trans hB0 hb2.size) hv)
    obtain ⟨x, hx⟩ : ∃ x, x = htN zs p := ⟨_, rfl⟩
    obtain ⟨y, hy⟩ : ∃ y, y = htN zs q := ⟨_, rfl⟩
    have GX : Hid ((htL zs zs.length [])[p]?.getD 0 = (x : Int)) := by
      show _ = _
      rw [htL_get (by omega), htAt_nil, hx]
      rfl
    have GY : Hid ((htL zs zs.length [])[q]?.getD 0 = (y : Int)) := by
      show _ = _
      rw [htL_get (by omega), htAt_nil, hy]
      rfl
    have HL : Hid ((htL zs zs.length []).length = n) := by
      show _ = _
      rw [htL_len, hln]
    rw [← hx, ← hy] at e1
    have hW := (Below.refl w.heap.size w).alloc (Nat.le_refl _) (.cells #[] 3)
    have R2 := Lib.hid (R.out _ hW)
    have HW := Lib.hid hW
    obtain ⟨b, hb⟩ : ∃ b, b = underB zs 2 p q := ⟨_, rfl⟩
    rw [← hb] at e1 ⊢
    clear h hv hln hx hy R hW hb h16
    go_enter Tryz.func44, Tryz.ntmps44
    go_wp2_with fail
    refine R2.out.mono ?_
    rintro e w3 ⟨v, rfl, ho, hb3⟩
    obtain ⟨A3, c3, rfl, _⟩ := ho.form
    rw [HL.out] at ho ⊢
    obtain ⟨g, rfl⟩ := own_head ho (by omega)
    have s1 := ho.slot hp
    have s2 := ho.slot hq
    rw [GX.out] at s1
    rw [GY.out] at s2
    have hbz := HW.out.trans (hb3.mono HW.out.size)
    have HB := Lib.hid (⟨hbz.os, hbz.tape, hbz.output, hbz.size, hbz.block⟩ : Below w.heap.size w w3.drew)
    have HB2 := Lib.hid (⟨hbz.os, hbz.tape, hbz.output, hbz.size, hbz.block⟩ : Below w.heap.size w w3.drew.drew)
    have pp : (p : Int) < (n : Int) := by omega
    have qq : (q : Int) < (n : Int) := by omega
    clear ho hb3 hbz GX GY HL R2
    by_cases hxy : x = y
    · have t1 : ((x : Int) != (y : Int)) = false := by simp [hxy]
      have HF : Hid (b = decide (q < p)) := by
        show _ = _
        rw [e1.out, if_pos hxy]
      clear hxy e1
      go_wp2
      go_region
      go_wp2
      go_ret
      refine ⟨ret_bool ?_, HB.out⟩
      rw [HF.out]
    · have t1 : ((x : Int) != (y : Int)) = true := by simp; omega
      have HF : Hid (b = decide (x < y)) := by
        show _ = _
        rw [e1.out, if_neg hxy]
      clear hxy e1
      go_wp2
      go_region
      go_wp2
      go_region
      go_wp2
      go_ret
      refine ⟨ret_bool ?_, HB2.out⟩
      rw [HF.out]

set_option maxRecDepth 100000 in
set_option maxHeartbeats 4000000 in
theorem l2Join_any (A : Option Addr) (n c B0 a b : Nat) (zs : List Int) (r : Int) (w : World) (h : Rd w B0 A n zs) (hB0 : B0 ≤ w.heap.size) (hv : fvB zs = true) (hr : 0 ≤ r ∧ r ≤ 2) (ha : a < n) (hb : b < n) :
    Calls Tryz.prog 22 #[.slice A n c, .int .i64 r, .int .i64 (a : Int), .int .i64 (b : Int)] w fun e w' => ∃ v, e = .returned v ∧ Own w' w.heap.size v (joinTo zs r (rootI zs a) (rootI zs b)) ∧ Below w.heap.size w w' := by
  have h16 := (fv_parts hv).2.1
  have hln := h.1
  have H := Lib.hid h
  obtain ⟨ρ, hρ⟩ : ∃ ρ, ρ = rootI zs := ⟨_, rfl⟩
  have RT := Lib.hid (fun (w1 : World) (hb1 : Below w.heap.size w w1) (x : Nat) (hx : Hid (x < n)) => l1Root_any A n c B0 x zs w1 (h.below hb1 hB0) hv hx.out)
  rw [← hρ] at RT
  have HA := Lib.hid ha
  have HB := Lib.hid hb
  have P1 : ρ a < n := by rw [hρ]; have := (root_is hv (i := a) (by omega)).1; omega
  have P2 : ρ b < n := by rw [hρ]; have := (root_is hv (i := b) (by omega)).1; omega
  have UN := Lib.hid (fun (w1 : World) (hb1 : Below w.heap.size w w1) (x y : Nat) (hx : Hid (x < n)) (hy : Hid (y < n)) => l2Under_any A n c B0 x y zs r w1 (h.below hb1 hB0) (Nat.le_trans hB0 hb1.size) hv hr hx.out hy.out)
  rw [← hρ]
  have HT0 : ∀ p q, Hid (joinTo zs r p q = if underB zs r p q = true then zs.set p (q : Int) else zs.set q (p : Int)) := fun _ _ => rfl
  have HT := Lib.hid HT0
  have hn1 : Hid (1 ≤ n ∧ n ≤ 1048576) := (⟨by omega, by omega⟩ : 1 ≤ n ∧ n ≤ 1048576)
  clear h hv hr ha hb hρ hln h16 HT0
  obtain ⟨p, hp⟩ : ∃ p, p = ρ a := ⟨_, rfl⟩
  obtain ⟨q, hq⟩ : ∃ q, q = ρ b := ⟨_, rfl⟩
  rw [← hp] at P1
  rw [← hq] at P2
  rw [← hp, ← hq]
  have HPQ := Lib.hid (And.intro hp hq)
  have HP1 := Lib.hid P1
  have HP2 := Lib.hid P2
  clear hp hq
  go_enter Tryz.func22, Tryz.ntmps22
  go_wp2_with (at_builtin; go_must (refine wpList_copy rfl (.tmp 12) (.tmp 13) rfl w A n c B0 zs rfl rfl H.out hB0 hn1.out.1 hn1.out.2 ?_); intro g1 k1 w1 ho1 hb1)
  refine (RT.out w1 hb1 a HA).mono ?_
  rintro e w2 ⟨rfl, hw⟩
  subst hw
  go_wp2_with fail
  refine (RT.out w1 hb1 b HB).mono ?_
  rintro e w2 ⟨rfl, hw⟩
  subst hw
  rw [← HPQ.out.1, ← HPQ.out.2]
  have U := Lib.hid (UN.out w1 hb1 p q HP1 HP2)
  obtain ⟨d, hd⟩ : ∃ d, d = underB zs r p q := ⟨_, rfl⟩
  rw [← hd] at U
  have HD := Lib.hid hd
  have HO := Lib.hid ho1
  have HB1 := Lib.hid hb1
  have pp : (p : Int) < (n : Int) := by omega
  have qq : (q : Int) < (n : Int) := by omega
  clear hd ho1 hb1 RT UN
  go_wp2_with fail
  refine U.out.mono ?_
  rintro e w3 ⟨rfl, hb3⟩
  have ho3 := HO.out.keep hb3 (Nat.le_refl _)
  have hbz := Lib.hid (HB1.out.trans (hb3.mono HB1.out.size))
  have hg := ho3.at_base
  have hfr1 := ho3.free p
  have hfr2 := ho3.free q
  have s1 := ho3.slot P1
  have s2 := ho3.slot P2
  have J1 := Lib.hid (And.intro (ho3.set_ p (q : Int)) (hbz.out.setCell (p := ⟨g1, p, none⟩) hg.1 (.int .i64 (q : Int))))
  have J2 := Lib.hid (And.intro (ho3.set_ q (p : Int)) (hbz.out.setCell (p := ⟨g1, q, none⟩) hg.1 (.int .i64 (p : Int))))
  have HTT := HT.out p q
  clear HT ho3 hb3 U HO
  cases d with
  | true =>
    go_wp2
    go_ret
    refine ⟨_, rfl, ?_, J1.out.2⟩
    rw [HTT.out, if_pos HD.out.symm]
    exact J1.out.1
  | false =>
    go_wp2
    go_ret
    refine ⟨_, rfl, ?_, J2.out.2⟩
    rw [HTT.out, if_neg (by rw [← HD.out]; simp)]
    exact J2.out.1

end Go.Proofs.YtmkdiifjecnokaaGreat