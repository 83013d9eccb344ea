/- The model's ClassOf. Condition: lengths up to 1048576. -/
import Derived.Test.YtkflihmhkgpgkaaSpec2
import Derived.Test.YtkflihmhkgpgkaaClass
namespace Go.Proofs.Ytkflihmhkgpgkaa
open Go.RowKit

set_option maxRecDepth 100000 in
set_option maxHeartbeats 2000000 in
theorem l1Class_any (A : Option Addr) (n c B0 j : Nat) (zs : List Int) (w : World) (h : Rd w B0 A n zs) (hB0 : B0 ≤ w.heap.size) (hv : fvB zs = true) (hj : j < n) :
    Calls Try.prog 85 #[.slice A n c, .int .i64 (j : Int)] w fun e w' => ∃ v, e = .returned v ∧ Own w' w.heap.size v (cls zs (rootI zs j : Int) n) ∧ Below w.heap.size w w' := by
  have L1 : zs.length ≤ n := by have := h.1; omega
  have L3 : n ≤ zs.length := by have := h.1; omega
  have h16 := (fv_parts hv).2.1
  have hn16 : n ≤ 16 := by omega
  have R := Lib.hid (fun (i : Nat) (hi : i < n) (w1 : World) (hb1 : Below w.heap.size w w1) => l1Root_any A n c B0 i zs w1 (h.below hb1 hB0) hv hi)
  obtain ⟨r, hr⟩ : ∃ r, r = rootI zs j := ⟨_, rfl⟩
  have RJ := Lib.hid (fun (w1 : World) (hb1 : Below w.heap.size w w1) => l1Root_any A n c B0 j zs w1 (h.below hb1 hB0) hv hj)
  rw [← hr]
  rw [← hr] at RJ
  have H0 : Hid (∃ ys, ys = cls zs (r : Int) 0 ∧ Own (w.alloc (.cells #[] 3)) w.heap.size (.slice (some ⟨w.heap.size, 0, none⟩) 0 0) ys) := ⟨[], by simp [cls], Own.lit w _ [] (Nat.le_refl _) (by simp)⟩
  clear hv h16 hr h
  go_enter Try.func85, Try.ntmps85
  go_wp2_with fail
  go_loopw [5, 10] (fun v i wr => ∃ k : Nat, k ≤ n ∧ i = .int .i64 k ∧ Hid (∃ ys, ys = cls zs (r : Int) k ∧ Own wr w.heap.size v ys) ∧ Below w.heap.size w wr) (fun _ i _ => n - (intOf i).toNat)
  case atStart => exact ⟨0, Nat.zero_le _, rfl, H0, (Below.refl _ _).alloc (Nat.le_refl _) _⟩
  case round =>
    obtain ⟨k, hk, rfl, HO, hbe⟩ := hrel
    clear H0
    by_cases hlt : k < n
    · have RK := Lib.hid (R.out k hlt wr hbe)
      have RJ2 := Lib.hid (RJ.out wr hbe)
      by_cases he : rootI zs k = r
      · have hc : cls zs (r : Int) (k + 1) = cls zs (r : Int) k ++ [(k : Int)] := cls_yes (by omega)
        have heb : ((rootI zs k : Int) == (r : Int)) = true := by simp; omega
        have HC := Lib.hid hc
        obtain ⟨ys, hys, ho⟩ := HO.out
        have hyl : ys.length ≤ 1048576 := by rw [hys]; have := cls_len zs (r : Int) k; omega
        have HY := Lib.hid hys
        have hsz := hbe.size
        clear hc hys HO he
        generalize (rootI zs k : Int) = q at RK heb
        go_wp2_with fail
        refine RK.out.mono ?_
        rintro e w2 ⟨rfl, rfl⟩
        go_wp2_with fail
        refine RJ2.out.mono ?_
        rintro e w3 ⟨rfl, rfl⟩
        go_wp2_with (at_builtin; go_must (refine wpList_push rfl (.tmp 20) (.tmp 22) rfl wr w.heap.size _ ys _ rfl rfl ho hyl hsz ?_); intro v' w' ho' hg' _)
        have hbe' : Below w.heap.size w w' := hbe.grown hg' hsz (fun r e => (ho.blockOf r e).1)
        have HO2 : Hid (∃ ys, ys = cls zs (r : Int) (k + 1) ∧ Own w' w.heap.size v' ys) := ⟨_, by rw [HC.out, HY.out], ho'⟩
        clear ho' hg' ho
        go_wp2
        go_roundw
        case rel => exact ⟨k + 1, by omega, by go_num, HO2, hbe'⟩
        case measure => simp [intOf]; omega
      · have hc : cls zs (r : Int) (k + 1) = cls zs (r : Int) k := cls_no (by omega)
        have heb : ((rootI zs k : Int) == (r : Int)) = false := by simp; omega
        rw [← hc] at HO
        clear hc he
        generalize (rootI zs k : Int) = q at RK heb
        go_wp2_with fail
        refine RK.out.mono ?_
        rintro e w2 ⟨rfl, rfl⟩
        go_wp2_with fail
        refine RJ2.out.mono ?_
        rintro e w3 ⟨rfl, rfl⟩
        go_wp2_with fail
        go_roundw
        case rel => exact ⟨k + 1, by omega, by go_num, HO, hbe⟩
        case measure => simp [intOf]; omega
    · obtain rfl : k = n := by omega
      go_wp2
      go_ret
      obtain ⟨ys, hys, ho⟩ := HO.out
      subst hys
      exact ⟨_, rfl, ho, hbe⟩

set_option maxRecDepth 100000 in
set_option maxHeartbeats 1000000 in
theorem specClass_any (A : Option Addr) (n c B0 : Nat) (zs : List Int) (i : Int) (w : World) (h : Rd w B0 A n zs) (hB0 : B0 ≤ w.heap.size) (hb : n ≤ 1048576) :
    Calls Try.prog 30 #[.slice A n c, .int .i64 i] w fun e w' => ∃ v, e = .returned (.tuple #[v, .bool (itemB zs i)]) ∧ Own w' w.heap.size v (clsN zs i) ∧ Below w.heap.size w w' := by
  have R := l1Item_any A n c B0 zs i w h hB0 hb
  have hln := h.1
  cases hv : itemB zs i with
  | false =>
    rw [hv] at R
    rw [clsN_no hv]
    have R := Lib.hid R
    clear hv
    go_enter Try.func30, Try.ntmps30
    go_wp2_with fail
    refine R.out.mono ?_
    rintro e w1 ⟨rfl, hb1⟩
    have hs1 := hb1.size
    go_wp2_with fail
    go_ret2
    exact ⟨_, rfl, Own.lit w1 _ [] hs1 (by simp), hb1.alloc hs1 _⟩
  | true =>
    rw [hv] at R
    have hl := item_lt hv
    obtain ⟨j, rfl⟩ := Int.eq_ofNat_of_zero_le hl.1
    have hj : j < n := by omega
    have hfv := item_fv hv
    have hcl := clsN_yes hv
    rw [rootN_yes hv, hln] at hcl
    rw [hcl]
    have C := Lib.hid (fun (w1 : World) (hb1 : Below w.heap.size w w1) => l1Class_any A n c B0 j zs w1 (h.below hb1 hB0) (Nat.le_trans hB0 hb1.size) hfv hj)
    have R := Lib.hid R
    generalize cls zs (rootI zs j : Int) n = ys at C
    clear hv hl hfv hcl hln
    go_enter Try.func30, Try.ntmps30
    go_wp2_with fail
    refine R.out.mono ?_
    rintro e w1 ⟨rfl, hb1⟩
    have hs1 := hb1.size
    go_wp2_with fail
    refine (C.out w1 hb1).mono ?_
    rintro e w2 ⟨v, rfl, ho, hb2⟩
    have hb2 := hb1.trans (hb2.mono hs1)
    go_wp2_with fail
    go_ret2
    exact ⟨_, rfl, ho.less hs1, hb2⟩
end Go.Proofs.Ytkflihmhkgpgkaa
