/- The model's Join. Condition: lengths up to 1048576. -/
import Derived.Test.YtichcnaomcpnhaaSpecSizes
import Derived.Test.YtichcnaomcpnhaaSpec2
import Derived.Test.YtichcnaomcpnhaaArgs
import Derived.Test.YtichcnaomcpnhaaJoin
namespace Go.Proofs.Ytichcnaomcpnhaa
open Go.RowKit

set_option maxRecDepth 100000 in
set_option maxHeartbeats 4000000 in
theorem l2Under_any (A : Option Addr) (n c B0 p q : Nat) (zs : List Int) (r : Int) (w : World) (h : Rd w B0 A n zs) (hB0 : B0 ≤ w.heap.size) (hv : fvB zs = true) (hr : 0 ≤ r ∧ r ≤ 2) (hp : p < n) (hq : q < n) :
    Calls Try.prog 39 #[.slice A n c, .int .i64 r, .int .i64 (p : Int), .int .i64 (q : Int)] w fun e w' => e = .returned (.bool (underB zs r p q)) ∧ Below w.heap.size w w' := by
  have h16 := (fv_parts hv).2.1
  have hln := h.1
  rcases (show r = 0 ∨ r = 1 ∨ r = 2 by omega) with rfl | rfl | rfl
  · have e1 : Hid (underB zs 0 p q = true) := rfl
    clear h hv hln h16
    go_enter Try.func39, Try.ntmps39
    go_wp2
    go_ret
    exact ⟨ret_bool e1.out.symm, (Below.refl _ w).alloc (Nat.le_refl _) _⟩
  · have e1 : Hid (underB zs 1 p q = if szN zs p = szN zs q then decide (q < p) else decide (szN zs p < szN zs q)) := rfl
    have R := Lib.hid (fun (w2 : World) (hb2 : Below w.heap.size w w2) => l2Sizes_any A n c B0 zs w2 (h.below hb2 hB0) (Nat.le_trans hB0 hb2.size) hv)
    obtain ⟨x, hx⟩ : ∃ x, x = szN zs p := ⟨_, rfl⟩
    obtain ⟨y, hy⟩ : ∃ y, y = szN zs q := ⟨_, rfl⟩
    have GX : Hid ((szL zs zs.length [])[p]?.getD 0 = (x : Int)) := by
      show _ = _
      rw [szL_get (by omega), szAt_nil, hx]
      rfl
    have GY : Hid ((szL zs zs.length [])[q]?.getD 0 = (y : Int)) := by
      show _ = _
      rw [szL_get (by omega), szAt_nil, hy]
      rfl
    have HL : Hid ((szL zs zs.length []).length = n) := by
      show _ = _
      rw [szL_len, hln]
    rw [← hx, ← hy] at e1
    have hW := (Below.refl w.heap.size w).alloc (Nat.le_refl _) (.cells #[] 3)
    have R2 := Lib.hid (R.out _ hW)
    have HW := Lib.hid hW
    obtain ⟨b, hb⟩ : ∃ b, b = underB zs 1 p q := ⟨_, rfl⟩
    rw [← hb] at e1 ⊢
    clear h hv hln hx hy R hW hb h16
    go_enter Try.func39, Try.ntmps39
    go_wp2_with fail
    refine R2.out.mono ?_
    rintro e w3 ⟨v, rfl, ho, hb3⟩
    obtain ⟨A3, c3, rfl, _⟩ := ho.form
    rw [HL.out] at ho ⊢
    obtain ⟨g, rfl⟩ := own_head ho (by omega)
    have s1 := ho.slot hp
    have s2 := ho.slot hq
    rw [GX.out] at s1
    rw [GY.out] at s2
    have hbz := HW.out.trans (hb3.mono HW.out.size)
    have HB := Lib.hid (⟨hbz.os, hbz.tape, hbz.output, hbz.size, hbz.block⟩ : Below w.heap.size w w3.drew)
    have HB2 := Lib.hid (⟨hbz.os, hbz.tape, hbz.output, hbz.size, hbz.block⟩ : Below w.heap.size w w3.drew.drew)
    have pp : (p : Int) < (n : Int) := by omega
    have qq : (q : Int) < (n : Int) := by omega
    clear ho hb3 hbz GX GY HL R2
    by_cases hxy : x = y
    · have t1 : ((x : Int) != (y : Int)) = false := by simp [hxy]
      have HF : Hid (b = decide (q < p)) := by
        show _ = _
        rw [e1.out, if_pos hxy]
      clear hxy e1
      go_wp2
      go_region
      go_wp2
      go_ret
      refine ⟨ret_bool ?_, HB.out⟩
      rw [HF.out]
    · have t1 : ((x : Int) != (y : Int)) = true := by simp; omega
      have HF : Hid (b = decide (x < y)) := by
        show _ = _
        rw [e1.out, if_neg hxy]
      clear hxy e1
      go_wp2
      go_region
      go_wp2
      go_region
      go_wp2
      go_ret
      refine ⟨ret_bool ?_, HB2.out⟩
      rw [HF.out]
  · have e1 : Hid (underB zs 2 p q = if htN zs p = htN zs q then decide (q < p) else decide (htN zs p < htN zs q)) := rfl
    have R := Lib.hid (fun (w2 : World) (hb2 : Below w.heap.size w w2) => l2Heights_any A n c B0 zs w2 (h.below hb2 hB0) (Nat.le_trans hB0 hb2.size) hv)
    obtain ⟨x, hx⟩ : ∃ x, x = htN zs p := ⟨_, rfl⟩
    obtain ⟨y, hy⟩ : ∃ y, y = htN zs q := ⟨_, rfl⟩
    have GX : Hid ((htL zs zs.length [])[p]?.getD 0 = (x : Int)) := by
      show _ = _
      rw [htL_get (by omega), htAt_nil, hx]
      rfl
    have GY : Hid ((htL zs zs.length [])[q]?.getD 0 = (y : Int)) := by
      show _ = _
      rw [htL_get (by omega), htAt_nil, hy]
      rfl
    have HL : Hid ((htL zs zs.length []).length = n) := by
      show _ = _
      rw [htL_len, hln]
    rw [← hx, ← hy] at e1
    have hW := (Below.refl w.heap.size w).alloc (Nat.le_refl _) (.cells #[] 3)
    have R2 := Lib.hid (R.out _ hW)
    have HW := Lib.hid hW
    obtain ⟨b, hb⟩ : ∃ b, b = underB zs 2 p q := ⟨_, rfl⟩
    rw [← hb] at e1 ⊢
    clear h hv hln hx hy R hW hb h16
    go_enter Try.func39, Try.ntmps39
    go_wp2_with fail
    refine R2.out.mono ?_
    rintro e w3 ⟨v, rfl, ho, hb3⟩
    obtain ⟨A3, c3, rfl, _⟩ := ho.form
    rw [HL.out] at ho ⊢
    obtain ⟨g, rfl⟩ := own_head ho (by omega)
    have s1 := ho.slot hp
    have s2 := ho.slot hq
    rw [GX.out] at s1
    rw [GY.out] at s2
    have hbz := HW.out.trans (hb3.mono HW.out.size)
    have HB := Lib.hid (⟨hbz.os, hbz.tape, hbz.output, hbz.size, hbz.block⟩ : Below w.heap.size w w3.drew)
    have HB2 := Lib.hid (⟨hbz.os, hbz.tape, hbz.output, hbz.size, hbz.block⟩ : Below w.heap.size w w3.drew.drew)
    have pp : (p : Int) < (n : Int) := by omega
    have qq : (q : Int) < (n : Int) := by omega
    clear ho hb3 hbz GX GY HL R2
    by_cases hxy : x = y
    · have t1 : ((x : Int) != (y : Int)) = false := by simp [hxy]
      have HF : Hid (b = decide (q < p)) := by
        show _ = _
        rw [e1.out, if_pos hxy]
      clear hxy e1
      go_wp2
      go_region
      go_wp2
      go_ret
      refine ⟨ret_bool ?_, HB.out⟩
      rw [HF.out]
    · have t1 : ((x : Int) != (y : Int)) = true := by simp; omega
      have HF : Hid (b = decide (x < y)) := by
        show _ = _
        rw [e1.out, if_neg hxy]
      clear hxy e1
      go_wp2
      go_region
      go_wp2
      go_region
      go_wp2
      go_ret
      refine ⟨ret_bool ?_, HB2.out⟩
      rw [HF.out]

end Go.Proofs.Ytichcnaomcpnhaa