/- The model's Join. Condition: lengths up to 1048576. -/
import Derived.Test.YtebgnaiibomjkaaSpecSizes
import Derived.Test.YtebgnaiibomjkaaSpec2
import Derived.Test.YtebgnaiibomjkaaArgs
import Derived.Test.YtebgnaiibomjkaaJoin
namespace Go.Proofs.Ytebgnaiibomjkaa
open Go.RowKit

theorem l2Rule_any (r : Int) (w : World) : Calls Try.prog 61 #[.int .i64 r] w fun e w' => e = .returned (.bool (inRule r)) ∧ w = w' := by
  have L := Lib.hid (l1In_any r 0 2 w)
  go_enter Try.func61, Try.ntmps61
  go_wp2_with fail
  refine L.out.mono ?_
  rintro e w2 ⟨rfl, rfl⟩
  go_wp2_with fail
  go_ret
  exact ⟨ret_bool (by unfold inRule; simp [Bool.decide_and]), rfl⟩
set_option maxRecDepth 100000 in
set_option maxHeartbeats 4000000 in
theorem l2Under_any (A : Option Addr) (n c B0 p q : Nat) (zs : List Int) (r : Int) (w : World) (h : Rd w B0 A n zs) (hB0 : B0 ≤ w.heap.size) (hv : fvB zs = true) (hr : 0 ≤ r ∧ r ≤ 2) (hp : p < n) (hq : q < n) :
    Calls Try.prog 105 #[.slice A n c, .int .i64 r, .int .i64 (p : Int), .int .i64 (q : Int)] w fun e w' => e = .returned (.bool (underB zs r p q)) ∧ Below w.heap.size w w' := by
  have h16 := (fv_parts hv).2.1
  have hln := h.1
  rcases (show r = 0 ∨ r = 1 ∨ r = 2 by omega) with rfl | rfl | rfl
  · have e1 : Hid (underB zs 0 p q = true) := rfl
    clear h hv hln h16
    go_enter Try.func105, Try.ntmps105
    go_wp2
    go_ret
    exact ⟨ret_bool e1.out.symm, (Below.refl _ w).alloc (Nat.le_refl _) _⟩
  · have e1 : Hid (underB zs 1 p q = if szN zs p = szN zs q then decide (q < p) else decide (szN zs p < szN zs q)) := rfl
    have R := Lib.hid (fun (w2 : World) (hb2 : Below w.heap.size w w2) => l2Sizes_any A n c B0 zs w2 (h.below hb2 hB0) (Nat.le_trans hB0 hb2.size) hv)
    obtain ⟨x, hx⟩ : ∃ x, x = szN zs p := ⟨_, rfl⟩
    obtain ⟨y, hy⟩ : ∃ y, y = szN zs q := ⟨_, rfl⟩
    have GX : Hid ((szL zs zs.length [])[p]?.getD 0 = (x : Int)) := by
      show _ = _
      rw [szL_get (by omega), szAt_nil, hx]
      rfl
    have GY : Hid ((szL zs zs.length [])[q]?.getD 0 = (y : Int)) := by
      show _ = _
      rw [szL_get (by omega), szAt_nil, hy]
      rfl
    have HL : Hid ((szL zs zs.length []).length = n) := by
      show _ = _
      rw [szL_len, hln]
    rw [← hx, ← hy] at e1
    have hW := (Below.refl w.heap.size w).alloc (Nat.le_refl _) (.cells #[] 3)
    have R2 := Lib.hid (R.out _ hW)
    have HW := Lib.hid hW
    obtain ⟨b, hb⟩ : ∃ b, b = underB zs 1 p q := ⟨_, rfl⟩
    rw [← hb] at e1 ⊢
    clear h hv hln hx hy R hW hb h16
    go_enter Try.func105, Try.ntmps105
    go_wp2_with fail
    refine R2.out.mono ?_
    rintro e w3 ⟨v, rfl, ho, hb3⟩
    obtain ⟨A3, c3, rfl, _⟩ := ho.form
    rw [HL.out] at ho ⊢
    obtain ⟨g, rfl⟩ := own_head ho (by omega)
    have s1 := ho.slot hp
    have s2 := ho.slot hq
    rw [GX.out] at s1
    rw [GY.out] at s2
    have hbz := HW.out.trans (hb3.mono HW.out.size)
    have HB := Lib.hid (⟨hbz.os, hbz.tape, hbz.output, hbz.size, hbz.block⟩ : Below w.heap.size w w3.drew)
    have HB2 := Lib.hid (⟨hbz.os, hbz.tape, hbz.output, hbz.size, hbz.block⟩ : Below w.heap.size w w3.drew.drew)
    have pp : (p : Int) < (n : Int) := by omega
    have qq : (q : Int) < (n : Int) := by omega
    clear ho hb3 hbz GX GY HL R2
    by_cases hxy : x = y
    · have t1 : ((x : Int) != (y : Int)) = false := by simp [hxy]
      have HF : Hid (b = decide (q < p)) := by
        show _ = _
        rw [e1.out, if_pos hxy]
      clear hxy e1
      go_wp2
      go_region
      go_wp2
      go_ret
      refine ⟨ret_bool ?_, HB.out⟩
      rw [HF.out]
    · have t1 : ((x : Int) != (y : Int)) = true := by simp; omega
      have HF : Hid (b = decide (x < y)) := by
        show _ = _
        rw [e1.out, if_neg hxy]
      clear hxy e1
      go_wp2
      go_region
      go_wp2
      go_region
      go_wp2
      go_ret
      refine ⟨ret_bool ?_, HB2.out⟩
      rw [HF.out]
  · have e1 : Hid (underB zs 2 p q = if htN zs p = htN zs q then decide (q < p) else decide (htN zs p < htN zs q)) := rfl
    have R := Lib.hid (fun (w2 : World) (hb2 : Below w.heap.size w w2) => l2Heights_any A n c B0 zs w2 (h.below hb2 hB0) (Nat.le_trans hB0 hb2.size) hv)
    obtain ⟨x, hx⟩ : ∃ x, x = htN zs p := ⟨_, rfl⟩
    obtain ⟨y, hy⟩ : ∃ y, y = htN zs q := ⟨_, rfl⟩
    have GX : Hid ((htL zs zs.length [])[p]?.getD 0 = (x : Int)) := by
      show _ = _
      rw [htL_get (by omega), htAt_nil, hx]
      rfl
    have GY : Hid ((htL zs zs.length [])[q]?.getD 0 = (y : Int)) := by
      show _ = _
      rw [htL_get (by omega), htAt_nil, hy]
      rfl
    have HL : Hid ((htL zs zs.length []).length = n) := by
      show _ = _
      rw [htL_len, hln]
    rw [← hx, ← hy] at e1
    have hW := (Below.refl w.heap.size w).alloc (Nat.le_refl _) (.cells #[] 3)
    have R2 := Lib.hid (R.out _ hW)
    have HW := Lib.hid hW
    obtain ⟨b, hb⟩ : ∃ b, b = underB zs 2 p q := ⟨_, rfl⟩
    rw [← hb] at e1 ⊢
    clear h hv hln hx hy R hW hb h16
    go_enter Try.func105, Try.ntmps105
    go_wp2_with fail
    refine R2.out.mono ?_
    rintro e w3 ⟨v, rfl, ho, hb3⟩
    obtain ⟨A3, c3, rfl, _⟩ := ho.form
    rw [HL.out] at ho ⊢
    obtain ⟨g, rfl⟩ := own_head ho (by omega)
    have s1 := ho.slot hp
    have s2 := ho.slot hq
    rw [GX.out] at s1
    rw [GY.out] at s2
    have hbz := HW.out.trans (hb3.mono HW.out.size)
    have HB := Lib.hid (⟨hbz.os, hbz.tape, hbz.output, hbz.size, hbz.block⟩ : Below w.heap.size w w3.drew)
    have HB2 := Lib.hid (⟨hbz.os, hbz.tape, hbz.output, hbz.size, hbz.block⟩ : Below w.heap.size w w3.drew.drew)
    have pp : (p : Int) < (n : Int) := by omega
    have qq : (q : Int) < (n : Int) := by omega
    clear ho hb3 hbz GX GY HL R2
    by_cases hxy : x = y
    · have t1 : ((x : Int) != (y : Int)) = false := by simp [hxy]
      have HF : Hid (b = decide (q < p)) := by
        show _ = _
        rw [e1.out, if_pos hxy]
      clear hxy e1
      go_wp2
      go_region
      go_wp2
      go_ret
      refine ⟨ret_bool ?_, HB.out⟩
      rw [HF.out]
    · have t1 : ((x : Int) != (y : Int)) = true := by simp; omega
      have HF : Hid (b = decide (x < y)) := by
        show _ = _
        rw [e1.out, if_neg hxy]
      clear hxy e1
      go_wp2
      go_region
      go_wp2
      go_region
      go_wp2
      go_ret
      refine ⟨ret_bool ?_, HB2.out⟩
      rw [HF.out]

set_option maxRecDepth 100000 in
set_option maxHeartbeats 4000000 in
theorem l2Join_any (A : Option Addr) (n c B0 a b : Nat) (zs : List Int) (r : Int) (w : World) (h : Rd w B0 A n zs) (hB0 : B0 ≤ w.heap.size) (hv : fvB zs = true) (hr : 0 ≤ r ∧ r ≤ 2) (ha : a < n) (hb : b < n) :
    Calls Try.prog 63 #[.slice A n c, .int .i64 r, .int .i64 (a : Int), .int .i64 (b : Int)] w fun e w' => ∃ v, e = .returned v ∧ Own w' w.heap.size v (joinTo zs r (rootI zs a) (rootI zs b)) ∧ Below w.heap.size w w' := by
  have h16 := (fv_parts hv).2.1
  have hln := h.1
  have H := Lib.hid h
  obtain ⟨ρ, hρ⟩ : ∃ ρ, ρ = rootI zs := ⟨_, rfl⟩
  have RT := Lib.hid (fun (w1 : World) (hb1 : Below w.heap.size w w1) (x : Nat) (hx : Hid (x < n)) => l1Root_any A n c B0 x zs w1 (h.below hb1 hB0) hv hx.out)
  rw [← hρ] at RT
  have HA := Lib.hid ha
  have HB := Lib.hid hb
  have P1 : ρ a < n := by rw [hρ]; have := (root_is hv (i := a) (by omega)).1; omega
  have P2 : ρ b < n := by rw [hρ]; have := (root_is hv (i := b) (by omega)).1; omega
  have UN := Lib.hid (fun (w1 : World) (hb1 : Below w.heap.size w w1) (x y : Nat) (hx : Hid (x < n)) (hy : Hid (y < n)) => l2Under_any A n c B0 x y zs r w1 (h.below hb1 hB0) (Nat.le_trans hB0 hb1.size) hv hr hx.out hy.out)
  rw [← hρ]
  have HT0 : ∀ p q, Hid (joinTo zs r p q = if underB zs r p q = true then zs.set p (q : Int) else zs.set q (p : Int)) := fun _ _ => rfl
  have HT := Lib.hid HT0
  have hn1 : Hid (1 ≤ n ∧ n ≤ 1048576) := (⟨by omega, by omega⟩ : 1 ≤ n ∧ n ≤ 1048576)
  clear h hv hr ha hb hρ hln h16 HT0
  obtain ⟨p, hp⟩ : ∃ p, p = ρ a := ⟨_, rfl⟩
  obtain ⟨q, hq⟩ : ∃ q, q = ρ b := ⟨_, rfl⟩
  rw [← hp] at P1
  rw [← hq] at P2
  rw [← hp, ← hq]
  have HPQ := Lib.hid (And.intro hp hq)
  have HP1 := Lib.hid P1
  have HP2 := Lib.hid P2
  clear hp hq
  go_enter Try.func63, Try.ntmps63
  go_wp2_with (at_builtin; go_must (refine wpList_copy rfl (.tmp 12) (.tmp 13) rfl w A n c B0 zs rfl rfl H.out hB0 hn1.out.1 hn1.out.2 ?_); intro g1 k1 w1 ho1 hb1)
  refine (RT.out w1 hb1 a HA).mono ?_
  rintro e w2 ⟨rfl, hw⟩
  subst hw
  go_wp2_with fail
  refine (RT.out w1 hb1 b HB).mono ?_
  rintro e w2 ⟨rfl, hw⟩
  subst hw
  rw [← HPQ.out.1, ← HPQ.out.2]
  have U := Lib.hid (UN.out w1 hb1 p q HP1 HP2)
  obtain ⟨d, hd⟩ : ∃ d, d = underB zs r p q := ⟨_, rfl⟩
  rw [← hd] at U
  have HD := Lib.hid hd
  have HO := Lib.hid ho1
  have HB1 := Lib.hid hb1
  have pp : (p : Int) < (n : Int) := by omega
  have qq : (q : Int) < (n : Int) := by omega
  clear hd ho1 hb1 RT UN
  go_wp2_with fail
  refine U.out.mono ?_
  rintro e w3 ⟨rfl, hb3⟩
  have ho3 := HO.out.keep hb3 (Nat.le_refl _)
  have hbz := Lib.hid (HB1.out.trans (hb3.mono HB1.out.size))
  have hg := ho3.at_base
  have hfr1 := ho3.free p
  have hfr2 := ho3.free q
  have s1 := ho3.slot P1
  have s2 := ho3.slot P2
  have J1 := Lib.hid (And.intro (ho3.set_ p (q : Int)) (hbz.out.setCell (p := ⟨g1, p, none⟩) hg.1 (.int .i64 (q : Int))))
  have J2 := Lib.hid (And.intro (ho3.set_ q (p : Int)) (hbz.out.setCell (p := ⟨g1, q, none⟩) hg.1 (.int .i64 (p : Int))))
  have HTT := HT.out p q
  clear HT ho3 hb3 U HO
  cases d with
  | true =>
    go_wp2
    go_ret
    refine ⟨_, rfl, ?_, J1.out.2⟩
    rw [HTT.out, if_pos HD.out.symm]
    exact J1.out.1
  | false =>
    go_wp2
    go_ret
    refine ⟨_, rfl, ?_, J2.out.2⟩
    rw [HTT.out, if_neg (by rw [← HD.out]; simp)]
    exact J2.out.1

set_option maxRecDepth 100000 in
set_option maxHeartbeats 4000000 in
theorem specJoin_any (A : Option Addr) (n c B0 : Nat) (zs : List Int) (r a b : Int) (w : World) (h : Rd w B0 A n zs) (hB0 : B0 ≤ w.heap.size) (hb : n ≤ 1048576) :
    Calls Try.prog 16 #[.slice A n c, .int .i64 r, .int .i64 a, .int .i64 b] w fun e w' => ∃ v, e = .returned (.tuple #[v, .bool (joinB zs r a b)]) ∧ Own w' w.heap.size v (joinN zs r a b) ∧ Below w.heap.size w w' := by
  have IT := Lib.hid (fun (w1 : World) (hb1 : Below w.heap.size w w1) (x : Int) => l1Item_any A n c B0 zs x w1 (h.below hb1 hB0) (Nat.le_trans hB0 hb1.size) hb)
  obtain ⟨x, hx⟩ : ∃ x, x = joinB zs r a b := ⟨_, rfl⟩
  obtain ⟨ss, hss⟩ : ∃ ss, ss = joinN zs r a b := ⟨_, rfl⟩
  rw [← hx, ← hss]
  have HX := Lib.hid hx
  have HSS := Lib.hid hss
  have HNO : Hid (x = false → ss = []) := fun e => by rw [HSS.out]; exact joinN_no (HX.out.symm.trans e)
  obtain ⟨ι, hι⟩ : ∃ ι, ι = itemB zs := ⟨_, rfl⟩
  rw [← hι] at IT
  clear hx hss
  cases ha : ι a with
  | false =>
    have hx0 : x = false := by rw [HX.out]; unfold joinB; rw [← hι, ha]; simp
    have hs0 := HNO.out hx0
    subst hx0
    subst hs0
    clear hι h
    go_enter Try.func16, Try.ntmps16
    go_wp2_with fail
    refine (IT.out _ (Below.refl _ _) _).mono ?_
    rintro e w1 ⟨rfl, hb1⟩
    have hb1 := Lib.hid hb1
    rw [ha]
    go_wp2_with fail
    go_ret2
    exact ⟨_, rfl, Own.lit w1 _ [] hb1.out.size (by simp), hb1.out.alloc hb1.out.size _⟩
  | true =>
    cases hbb : ι b with
    | false =>
      have hx0 : x = false := by rw [HX.out]; unfold joinB; rw [← hι, hbb]; simp
      have hs0 := HNO.out hx0
      subst hx0
      subst hs0
      clear hι h
      go_enter Try.func16, Try.ntmps16
      go_wp2_with fail
      refine (IT.out _ (Below.refl _ _) _).mono ?_
      rintro e w1 ⟨rfl, hb1⟩
      have hb1 := Lib.hid hb1
      rw [ha]
      go_wp2_with fail
      refine (IT.out _ hb1.out _).mono ?_
      rintro e w2 ⟨rfl, hb2⟩
      have hb2 := Lib.hid (hb1.out.trans (hb2.mono hb1.out.size))
      rw [hbb]
      go_wp2_with fail
      go_ret2
      exact ⟨_, rfl, Own.lit w2 _ [] hb2.out.size (by simp), hb2.out.alloc hb2.out.size _⟩
    | true =>
      have hv : fvB zs = true := item_fv (by rw [← hι]; exact ha)
      have hln := h.1
      have ia : 0 ≤ a ∧ a < (zs.length : Int) := by
        have : itemB zs a = true := by rw [← hι]; exact ha
        unfold itemB at this
        simp only [Bool.and_eq_true, decide_eq_true_eq] at this
        exact this.2
      have ib : 0 ≤ b ∧ b < (zs.length : Int) := by
        have : itemB zs b = true := by rw [← hι]; exact hbb
        unfold itemB at this
        simp only [Bool.and_eq_true, decide_eq_true_eq] at this
        exact this.2
      obtain ⟨a', rfl⟩ : ∃ a' : Nat, a = a' := ⟨a.toNat, by omega⟩
      obtain ⟨b', rfl⟩ : ∃ b' : Nat, b = b' := ⟨b.toNat, by omega⟩
      have RL := Lib.hid (fun (w1 : World) => l2Rule_any r w1)
      cases hr : inRule r with
      | false =>
        have hx0 : x = false := by rw [HX.out]; unfold joinB; rw [hr]; simp
        have hs0 := HNO.out hx0
        subst hx0
        subst hs0
        clear hι h hv hln ia ib
        go_enter Try.func16, Try.ntmps16
        go_wp2_with fail
        refine (IT.out _ (Below.refl _ _) _).mono ?_
        rintro e w1 ⟨rfl, hb1⟩
        have hb1 := Lib.hid hb1
        rw [ha]
        go_wp2_with fail
        refine (IT.out _ hb1.out _).mono ?_
        rintro e w2 ⟨rfl, hb2⟩
        have hb2 := Lib.hid (hb1.out.trans (hb2.mono hb1.out.size))
        rw [hbb]
        go_wp2_with fail
        refine (RL.out _).mono ?_
        rintro e w3 ⟨rfl, hw⟩
        subst hw
        rw [hr]
        go_wp2_with fail
        go_ret2
        exact ⟨_, rfl, Own.lit w2 _ [] hb2.out.size (by simp), hb2.out.alloc hb2.out.size _⟩
      | true =>
        obtain ⟨ρ, hρ⟩ : ∃ ρ, ρ = rootI zs := ⟨_, rfl⟩
        have RT := Lib.hid (fun (w1 : World) (hb1 : Below w.heap.size w w1) (y : Nat) (hy : Hid (y < n)) => l1Root_any A n c B0 y zs w1 (h.below hb1 hB0) hv hy.out)
        rw [← hρ] at RT
        have HA : Hid (a' < n) := (by omega : a' < n)
        have HB : Hid (b' < n) := (by omega : b' < n)
        have hrr : 0 ≤ r ∧ r ≤ 2 := by unfold inRule at hr; exact of_decide_eq_true hr
        have LJ := Lib.hid (fun (w1 : World) (hb1 : Below w.heap.size w w1) => l2Join_any A n c B0 a' b' zs r w1 (h.below hb1 hB0) (Nat.le_trans hB0 hb1.size) hv hrr HA.out HB.out)
        rw [← hρ] at LJ
        have hxe : x = !decide (ρ a' = ρ b') := by
          rw [HX.out]
          unfold joinB
          rw [← hι, ha, hbb, hr, rootN_yes (by rw [← hι]; exact ha), rootN_yes (by rw [← hι]; exact hbb), ← hρ]
          by_cases e : ρ a' = ρ b'
          · rw [e]; simp
          · rw [decide_eq_false e]
            have : ¬ ((ρ a' : Nat) : Int) = ((ρ b' : Nat) : Int) := by omega
            simp [this]
        have hsx : x = true → ss = joinTo zs r (ρ a') (ρ b') := fun e => by
          rw [HSS.out, joinN_yes (HX.out.symm.trans e)]
          unfold joinL
          simp only [Int.toNat_natCast]
          rw [← hρ, if_neg]
          intro e2
          rw [hxe, e2] at e
          simp at e
        have HSX := Lib.hid hsx
        have HXE := Lib.hid hxe
        obtain ⟨p, hp⟩ : ∃ p, p = ρ a' := ⟨_, rfl⟩
        obtain ⟨q, hq⟩ : ∃ q, q = ρ b' := ⟨_, rfl⟩
        rw [← hp, ← hq] at HSX HXE
        have HPQ := Lib.hid (And.intro hp hq)
        clear hι h hv hln ia ib hrr hρ hxe hsx hp hq
        go_enter Try.func16, Try.ntmps16
        go_wp2_with fail
        refine (IT.out _ (Below.refl _ _) _).mono ?_
        rintro e w1 ⟨rfl, hb1⟩
        have hb1 := Lib.hid hb1
        rw [ha]
        go_wp2_with fail
        refine (IT.out _ hb1.out _).mono ?_
        rintro e w2 ⟨rfl, hb2⟩
        have hb2 := Lib.hid (hb1.out.trans (hb2.mono hb1.out.size))
        rw [hbb]
        go_wp2_with fail
        refine (RL.out _).mono ?_
        rintro e w3 ⟨rfl, hw⟩
        subst hw
        rw [hr]
        go_wp2_with fail
        refine (RT.out _ hb2.out a' HA).mono ?_
        rintro e w3 ⟨rfl, hw⟩
        subst hw
        go_wp2_with fail
        refine (RT.out _ hb2.out b' HB).mono ?_
        rintro e w3 ⟨rfl, hw⟩
        subst hw
        rw [← HPQ.out.1, ← HPQ.out.2]
        have L2 := Lib.hid (LJ.out w2 hb2.out)
        rw [← HPQ.out.1, ← HPQ.out.2] at L2
        clear LJ RT HPQ
        by_cases hpq : p = q
        · have hx0 : x = false := by rw [HXE.out, hpq]; simp
          have hs0 := HNO.out hx0
          subst hx0
          subst hs0
          clear HXE HSX
          subst hpq
          go_wp2_with fail
          go_ret2
          exact ⟨_, rfl, Own.lit w2 _ [] hb2.out.size (by simp), hb2.out.alloc hb2.out.size _⟩
        · have hx0 : x = true := by rw [HXE.out, decide_eq_false hpq]; rfl
          have hs0 := HSX.out hx0
          subst hx0
          have HS0 := Lib.hid hs0
          have t1 : ((p : Int) == (q : Int)) = false := by simp; omega
          clear HXE HSX hs0
          go_wp2_with fail
          refine L2.out.mono ?_
          rintro e w3 ⟨v, rfl, ho, hb3⟩
          have HO := Lib.hid (ho.less hb2.out.size)
          have HB3 := Lib.hid (hb2.out.trans (hb3.mono hb2.out.size))
          clear ho hb3
          go_wp2_with fail
          go_ret2
          exact ⟨_, rfl, by rw [HS0.out]; exact HO.out, HB3.out⟩
end Go.Proofs.Ytebgnaiibomjkaa
