/- The walk of the law on mirrored forests: for every row of bytes the law returns true and nothing that was there has turned. -/
import Derived.Test.YtlebnmboaeemoaaImpl
import Derived.Test.YtlebnmboaeemoaaSpec
import Derived.Test.YtlebnmboaeemoaaDraw4
import Derived.Test.YtlebnmboaeemoaaMirror
namespace Go.Proofs.Ytlebnmboaeemoaa
open Go.RowKit

set_option maxRecDepth 100000 in
set_option maxHeartbeats 1000000 in
theorem lrMirror_any (A : Option Addr) (n c B0 : Nat) (zs : List Int) (w : World) (h : Rd w B0 A n zs) (hB0 : B0 ≤ w.heap.size) (hb : n ≤ 1048576) (hIn : InB zs) :
    Calls Try.prog 48 #[.slice A n c] w fun e w' => ∃ v, e = .returned v ∧ Own w' w.heap.size v (mir zs) ∧ Below w.heap.size w w' := by
  have l1 := h.1
  have L1 : zs.length ≤ n := by omega
  have L3 : n ≤ zs.length := by omega
  have H0 : Own (w.alloc (.cells #[] 3)) w.heap.size (.slice (some ⟨w.heap.size, 0, none⟩) 0 0) [] := Own.lit w _ [] (Nat.le_refl _) (by simp)
  have H0 : Hid (∃ ys, ys = (mir zs).take (zs.length - n) ∧ Own (w.alloc (.cells #[] 3)) w.heap.size (.slice (some ⟨w.heap.size, 0, none⟩) 0 0) ys) := ⟨[], by simp [l1], H0⟩
  have HL := Lib.hid l1
  clear l1
  go_enter Try.func48, Try.ntmps48
  go_wp2_with fail
  go_loopw [3, 4] (fun v q wr => ∃ k : Nat, k ≤ n ∧ q = .int .i64 ((k : Int) - 1) ∧ Hid (∃ ys, ys = (mir zs).take (zs.length - k) ∧ Own wr w.heap.size v ys) ∧ Below w.heap.size w wr) (fun _ q _ => ((intOf q) + 1).toNat)
  case atStart => exact ⟨n, Nat.le_refl _, rfl, H0, (Below.refl _ _).alloc (Nat.le_refl _) _⟩
  case round =>
    obtain ⟨k, hk, rfl, ho, hbe⟩ := hrel
    clear H0
    by_cases hlt : 0 < k
    · obtain ⟨j, rfl⟩ : ∃ j, k = j + 1 := ⟨k - 1, by omega⟩
      have e1 : ((j + 1 : Nat) : Int) - 1 = (j : Int) := by omega
      rw [e1]
      obtain ⟨b, off, rfl, _, hc1⟩ := (h.below hbe hB0).2 (by omega)
      have g1 := hc1 j (by omega)
      have hz := hIn j (by omega)
      have ht := mir_take (up := zs) (k := j) (by omega)
      obtain ⟨ys, hys, ho⟩ := ho.out
      have hyl : ys.length ≤ 1048576 := by rw [hys, List.length_take]; omega
      rw [← hys] at ht
      have HT := Lib.hid ht
      rw [HL.out] at HT
      have hsz := hbe.size
      clear hc1 hys ht e1
      generalize zs[j]?.getD 0 = z at g1 hz HT
      have hz2 : z < (n : Int) := by omega
      go_wp2_with (at_builtin; go_must (refine wpList_push rfl (.tmp 13) (.tmp 22) rfl wr w.heap.size _ ys _ rfl rfl ho hyl hsz ?_); intro v' w' ho' hg' _)
      have hbe' : Below w.heap.size w w' := hbe.grown hg' hsz (fun r e => (ho.blockOf r e).1)
      have HO : Hid (∃ ys, ys = (mir zs).take (zs.length - j) ∧ Own w' w.heap.size v' ys) := ⟨_, by rw [HL.out]; exact HT.out.symm, ho'⟩
      clear ho' hg' ho HT
      go_wp2
      go_roundw
      case rel => exact ⟨j, by omega, by go_num, HO, hbe'⟩
      case measure => simp [intOf]
    · obtain rfl : k = 0 := by omega
      have HO := ho
      clear ho
      go_wp2
      go_ret
      obtain ⟨ys, hys, ho⟩ := HO.out
      rw [List.take_of_length_le (by rw [mir_len]; omega)] at hys
      subst hys
      exact ⟨_, rfl, ho, hbe⟩

set_option maxRecDepth 100000 in
set_option maxHeartbeats 4000000 in
theorem fnMirror (A0 : Option Addr) (n0 c0 : Nat) (z0 : List Int) (w : World) (h0 : Row .u8 w A0 n0 c0 z0) :
    Calls Try.prog 7 #[.slice A0 n0 c0] w fun e w' => e = .returned (.bool true) ∧ Below w.heap.size w w' := by
  by_cases hl0 : 1048576 < n0
  · clear h0
    go_enter Try.func7, Try.ntmps7
    go_wp2
    go_ret
    exact ⟨rfl, Below.refl _ _⟩
  obtain ⟨b0, hc0⟩ := h0.bt
  have D0 := Lib.hid (drawTog_any A0 n0 c0 w.heap.size z0 w b0 (Nat.le_refl _) hc0)
  clear h0 b0 hc0
  go_enter Try.func7, Try.ntmps7
  go_wp2_with fail
  refine D0.out.mono ?_
  rintro e w1 ⟨v, zs, a, b, rfl, ho, hl, ha, hb, hb1⟩
  obtain ⟨A, c, rfl, hr⟩ := ho.form
  obtain ⟨n, hn⟩ : ∃ n, n = zs.length := ⟨_, rfl⟩
  rw [← hn] at hr hl
  rw [← hn]
  clear ho D0
  have VI := Lib.hid (fun (w2 : World) (hb2 : Below w1.heap.size w1 w2) => implValid_any A n c w1.heap.size zs w2 (hr.below hb2 (Nat.le_refl _)) hb2.size (by omega))
  have VS := Lib.hid (fun (w2 : World) (hb2 : Below w1.heap.size w1 w2) => specValid_any A n c w1.heap.size zs w2 (hr.below hb2 (Nat.le_refl _)) hb2.size (by omega))
  have RI := Lib.hid (fun (w2 : World) (hb2 : Below w1.heap.size w1 w2) (x : Int) => implRoot_any A n c w1.heap.size zs x w2 (hr.below hb2 (Nat.le_refl _)) hb2.size (by omega))
  have DI := Lib.hid (fun (w2 : World) (hb2 : Below w1.heap.size w1 w2) => implDeep_any A n c w1.heap.size zs w2 (hr.below hb2 (Nat.le_refl _)) hb2.size (by omega))
  have TI := Lib.hid (fun (w2 : World) (hb2 : Below w1.heap.size w1 w2) => implTog_any A n c w1.heap.size zs a b w2 (hr.below hb2 (Nat.le_refl _)) hb2.size (by omega))
  have MI := Lib.hid (fun (w2 : World) (hb2 : Below w1.heap.size w1 w2) (hIn : InB zs) => lrMirror_any A n c w1.heap.size zs w2 (hr.below hb2 (Nat.le_refl _)) hb2.size (by omega) hIn)
  have HN := Lib.hid hn
  clear hr hn
  cases hv : fvB zs with
  | false =>
    rw [hv] at VI VS
    clear RI DI TI MI hv HN ha hb
    go_wp2_with fail
    refine (VI.out w1 (Below.refl _ _)).mono ?_
    rintro e w2 ⟨rfl, hb2⟩
    go_wp2_with fail
    refine (VS.out w2 hb2).mono ?_
    rintro e w3 ⟨rfl, hb3⟩
    have hb3 := hb2.trans (hb3.mono hb2.size)
    clear hb2
    go_wp2_with fail
    refine (VI.out w3 hb3).mono ?_
    rintro e w4 ⟨rfl, hb4⟩
    have hb4 := hb3.trans (hb4.mono hb3.size)
    clear hb3
    go_wp2_with fail
    go_ret
    exact ⟨rfl, hb1.trans (hb4.mono hb1.size)⟩
  | true =>
    rw [hv] at VI VS
    have hIn := fv_in hv
    have hMv := mir_fv hv
    have hMr := fun i hi => mir_root hv (i := i) hi
    have hMd := mir_deep hv
    have hMt := mir_tog hv a b
    have hMl := mir_len zs
    have h1n := (fv_parts hv).1
    have h16 := (fv_parts hv).2.1
    have hRb : ∀ i : Nat, i < n → 0 ≤ rootN zs i ∧ rootN zs i < n := fun i hi => by
      have hl := HN.out
      have hit : itemB zs (i : Int) = true := item_of hv (by omega) (by omega)
      obtain ⟨r, hr, hrl, _⟩ := root_facts hit
      rw [hr]
      omega
    rw [← HN.out] at hMr hMt hMl h1n h16
    have MI := Lib.hid (fun w2 hb2 => MI.out w2 hb2 hIn)
    have HMR := Lib.hid hMr
    have HRB := Lib.hid hRb
    clear hIn hMr hRb hv
    generalize mir zs = ms at MI hMv HMR hMd hMt hMl
    go_wp2_with fail
    refine (VI.out w1 (Below.refl _ _)).mono ?_
    rintro e w2 ⟨rfl, hb2⟩
    go_wp2_with fail
    refine (VS.out w2 hb2).mono ?_
    rintro e w3 ⟨rfl, hb3⟩
    have hb3 := hb2.trans (hb3.mono hb2.size)
    clear hb2
    go_wp2_with fail
    refine (VI.out w3 hb3).mono ?_
    rintro e w4 ⟨rfl, hb4⟩
    have hb4 := hb3.trans (hb4.mono hb3.size)
    clear hb3 VI VS
    go_wp2_with fail
    refine (MI.out w4 hb4).mono ?_
    rintro e w5 ⟨v5, rfl, ho5, hb5⟩
    obtain ⟨A5, c5, rfl, hr5⟩ := ho5.form
    rw [hMl] at hr5
    rw [hMl]
    have hb5 := hb4.trans (hb5.mono hb4.size)
    have VM := Lib.hid (fun (w6 : World) (hb6 : Below w5.heap.size w5 w6) => implValid_any A5 n c5 w5.heap.size ms w6 (hr5.below hb6 (Nat.le_refl _)) hb6.size (by omega))
    have RM := Lib.hid (fun (w6 : World) (hb6 : Below w5.heap.size w5 w6) (x : Int) => implRoot_any A5 n c5 w5.heap.size ms x w6 (hr5.below hb6 (Nat.le_refl _)) hb6.size (by omega))
    have DM := Lib.hid (fun (w6 : World) (hb6 : Below w5.heap.size w5 w6) => implDeep_any A5 n c5 w5.heap.size ms w6 (hr5.below hb6 (Nat.le_refl _)) hb6.size (by omega))
    have TM := Lib.hid (fun (w6 : World) (hb6 : Below w5.heap.size w5 w6) => implTog_any A5 n c5 w5.heap.size ms ((n : Int) - 1 - a) ((n : Int) - 1 - b) w6 (hr5.below hb6 (Nat.le_refl _)) hb6.size (by omega))
    have RI := Lib.hid (fun (w6 : World) (hb6 : Below w5.heap.size w5 w6) (x : Int) => RI.out w6 (hb5.trans (hb6.mono hb5.size)) x)
    have DI := Lib.hid (fun (w6 : World) (hb6 : Below w5.heap.size w5 w6) => DI.out w6 (hb5.trans (hb6.mono hb5.size)))
    have TI := Lib.hid (fun (w6 : World) (hb6 : Below w5.heap.size w5 w6) => TI.out w6 (hb5.trans (hb6.mono hb5.size)))
    rw [hMv] at VM
    rw [hMd] at DM
    rw [hMt] at TM
    generalize deepN zs = d at DI DM hMd
    generalize togB zs a b = t at TI TM hMt
    have hB5 := hb1.trans (hb5.mono hb1.size)
    clear ho5 hr5 hb4 MI hMv hMd hMt hMl hb5
    go_wp2_with fail
    go_loopw [31] (fun q wr => ∃ k : Nat, k ≤ n ∧ q = .int .i64 (k : Int) ∧ Below w5.heap.size w5 wr) (fun q _ => n - (intOf q).toNat)
    case atStart => exact ⟨0, Nat.zero_le _, rfl, Below.refl _ _⟩
    case round =>
      obtain ⟨k, hk, rfl, hbe⟩ := hrel
      by_cases hlt : k < n
      · have RM := RM.out wr hbe ((n : Int) - 1 - (k : Int))
        rw [HMR.out k hlt] at RM
        have hrb := HRB.out k hlt
        have RI := Lib.hid (fun w6 hb6 => RI.out w6 hb6 (k : Int))
        generalize rootN zs (k : Int) = r at RM RI hrb
        have hrr : ((n : Int) - 1 - r != (n : Int) - 1 - r) = false := by simp
        have RM := Lib.hid RM
        go_wp2_with fail
        refine RM.out.mono ?_
        rintro e w6 ⟨rfl, hb6⟩
        have hb6 := hbe.trans (hb6.mono hbe.size)
        clear hbe
        go_wp2_with fail
        refine (RI.out w6 hb6).mono ?_
        rintro e w7 ⟨rfl, hb7⟩
        have hb7 := hb6.trans (hb7.mono hb6.size)
        clear hb6
        go_wp2_with fail
        go_roundw
        case rel => exact ⟨k + 1, by omega, by go_num, hb7⟩
        case measure => simp [intOf]; omega
      · obtain rfl : k = n := by omega
        have k1 : (d == d) = true := by simp
        have k2 : (t == t) = true := by simp
        clear HMR HRB HN RM RI
        go_wp2_with fail
        refine (VM.out wr hbe).mono ?_
        rintro e w6 ⟨rfl, hb6⟩
        have hb6 := hbe.trans (hb6.mono hbe.size)
        clear hbe
        go_wp2_with fail
        refine (DM.out w6 hb6).mono ?_
        rintro e w7 ⟨rfl, hb7⟩
        have hb7 := hb6.trans (hb7.mono hb6.size)
        clear hb6
        go_wp2_with fail
        refine (DI.out w7 hb7).mono ?_
        rintro e w8 ⟨rfl, hb8⟩
        have hb8 := hb7.trans (hb8.mono hb7.size)
        clear hb7
        go_wp2_with fail
        refine (TM.out w8 hb8).mono ?_
        rintro e w9 ⟨rfl, hb9⟩
        have hb9 := hb8.trans (hb9.mono hb8.size)
        clear hb8
        go_wp2_with fail
        refine (TI.out w9 hb9).mono ?_
        rintro e w10 ⟨rfl, hb10⟩
        have hb10 := hb9.trans (hb10.mono hb9.size)
        clear hb9
        go_wp2_with fail
        go_ret
        exact ⟨rfl, hB5.trans (hb10.mono hB5.size)⟩
end Go.Proofs.Ytlebnmboaeemoaa
