/- The walk of the law on forests in which an item becomes a root: for every row of bytes the law returns true and nothing that was there has turned. -/
import Derived.Test.YtlebnmboaeemoaaImplWay
import Derived.Test.YtlebnmboaeemoaaSpecWay
import Derived.Test.YtlebnmboaeemoaaDraw4
import Derived.Test.YtlebnmboaeemoaaCut
import Derived.Test.YtlebnmboaeemoaaWith
namespace Go.Proofs.Ytlebnmboaeemoaa
open Go.RowKit

/-- What is said of a valid forest and one of its items. -/
theorem cut_facts {up : List Int} {x : Int} (h : itemB up x = true) : ∃ (a r : Nat), x = (a : Int) ∧ a < up.length ∧ up.length ≤ 16 ∧ r ≤ 16 ∧ rootN up x = (r : Int) ∧ clsN up x = cls up (r : Int) up.length ∧ fvB (up.set a x) = true ∧ (up.set a x).length = up.length ∧
    ∀ i : Nat, i < up.length → ∃ b1 b2 : Bool, decide ((a : Int) ∈ ints (wayN up (i : Int))) = b1 ∧ decide ((i : Int) ∈ cls up (r : Int) up.length) = b2 ∧ togB (up.set a x) (i : Int) x = b1 ∧ togB (up.set a x) (i : Int) (r : Int) = (b2 && (!b1 || ((r : Int) == (a : Int)))) ∧ (ints (wayN up (i : Int))).length ≤ 17 := by
  have hf := item_fv h
  have hl := item_lt h
  obtain ⟨a, rfl⟩ := Int.eq_ofNat_of_zero_le hl.1
  have ha : a < up.length := by omega
  have h16 := (fv_parts hf).2.1
  have hr := (root_is hf ha).1
  refine ⟨a, rootI up a, rfl, ha, h16, by omega, rootN_yes h, by rw [clsN_yes h, rootN_yes h], cut_fv hf ha, cut_len up a, fun i hi => ⟨_, _, rfl, rfl, ?_, ?_, ?_⟩⟩
  · rw [wayN_yes (item_of hf (by omega) (by omega))]
    exact cut_with hf ha hi
  · rw [wayN_yes (item_of hf (by omega) (by omega))]
    exact cut_old hf ha hi
  · rw [wayN_yes (item_of hf (by omega) (by omega)), ints_len]
    have := (way_len up up.length i).2
    omega

set_option maxRecDepth 100000 in
set_option maxHeartbeats 4000000 in
theorem fnCutLink (A0 : Option Addr) (n0 c0 : Nat) (z0 : List Int) (w : World) (h0 : Row .u8 w A0 n0 c0 z0) :
    Calls Try.prog 8 #[.slice A0 n0 c0] w fun e w' => e = .returned (.bool true) ∧ Below w.heap.size w w' := by
  by_cases hl0 : 1048576 < n0
  · clear h0
    go_enter Try.func8, Try.ntmps8
    go_wp2
    go_ret
    exact ⟨rfl, Below.refl _ _⟩
  obtain ⟨b0, hc0⟩ := h0.bt
  have D0 := Lib.hid (drawWay_any A0 n0 c0 w.heap.size z0 w b0 (Nat.le_refl _) hc0)
  clear h0 b0 hc0
  go_enter Try.func8, Try.ntmps8
  go_wp2_with fail
  refine D0.out.mono ?_
  rintro e w1 ⟨v, zs, x, rfl, ho, hl, ha, hb1⟩
  obtain ⟨A, c, rfl, hr⟩ := ho.form
  obtain ⟨n, hn⟩ : ∃ n, n = zs.length := ⟨_, rfl⟩
  rw [← hn] at hr hl
  rw [← hn]
  clear ho D0 ha
  have WI := Lib.hid (fun (w2 : World) (hb2 : Below w1.heap.size w1 w2) (i : Int) => implWay_any A n c w1.heap.size zs i w2 (hr.below hb2 (Nat.le_refl _)) hb2.size (by omega))
  have WS := Lib.hid (fun (w2 : World) (hb2 : Below w1.heap.size w1 w2) (i : Int) => specWay_any A n c w1.heap.size zs i w2 (hr.below hb2 (Nat.le_refl _)) hb2.size (by omega))
  have RI := Lib.hid (fun (w2 : World) (hb2 : Below w1.heap.size w1 w2) => implRoot_any A n c w1.heap.size zs x w2 (hr.below hb2 (Nat.le_refl _)) hb2.size (by omega))
  have CI := Lib.hid (fun (w2 : World) (hb2 : Below w1.heap.size w1 w2) => implClass_any A n c w1.heap.size zs x w2 (hr.below hb2 (Nat.le_refl _)) hb2.size (by omega))
  have LW := Lib.hid (fun (w2 : World) (hb2 : Below w1.heap.size w1 w2) (a : Nat) (ha : a < n) => lrWith_any A n c w1.heap.size a x zs w2 (hr.below hb2 (Nat.le_refl _)) hb2.size (by omega) ha)
  have HN := Lib.hid hn
  clear hr hn
  cases hv : itemB zs x with
  | false =>
    have W1 := WI.out w1 (Below.refl _ _) x
    rw [hv] at W1
    have W2 := fun w2 hb2 => WS.out w2 hb2 x
    simp only [hv] at W2
    have W1 := Lib.hid W1
    have W2 := Lib.hid W2
    clear WI WS RI CI LW HN hv
    go_wp2_with fail
    refine W1.out.mono ?_
    rintro e w2 ⟨v2, rfl, _, hb2⟩
    go_wp2_with fail
    refine (W2.out w2 hb2).mono ?_
    rintro e w3 ⟨v3, rfl, _, hb3⟩
    have hb3 := hb2.trans (hb3.mono hb2.size)
    clear hb2
    go_wp2_with fail
    go_ret
    exact ⟨rfl, hb1.trans (hb3.mono hb1.size)⟩
  | true =>
    have W1 := WI.out w1 (Below.refl _ _) x
    rw [hv] at W1
    have W2 := fun w2 hb2 => WS.out w2 hb2 x
    simp only [hv] at W2
    have C1 := fun w2 hb2 => CI.out w2 hb2
    simp only [hv] at C1
    obtain ⟨a, r, rfl, han, hn16, hr16, hrt, hcl, hcf, hcl2, hfacts⟩ := cut_facts hv
    rw [← HN.out] at han hn16 hcl2 hfacts
    rw [hrt] at RI
    simp only [hcl, ← HN.out] at C1
    have HF := Lib.hid hfacts
    have HCF := Lib.hid hcf
    have W1 := Lib.hid W1
    have W2 := Lib.hid W2
    have C1 := Lib.hid C1
    have LW := Lib.hid (fun w2 hb2 => LW.out w2 hb2 a han)
    have hcy : (cls zs (r : Int) n).length ≤ 16 := by have := cls_len zs (r : Int) n; omega
    generalize cls zs (r : Int) n = old at C1 HF hcy
    generalize zs.set a (a : Int) = xs at LW HF HCF hcl2
    clear hfacts hcf hcl hrt hv CI WS
    go_wp2_with fail
    refine W1.out.mono ?_
    rintro e w2 ⟨v2, rfl, _, hb2⟩
    go_wp2_with fail
    refine (W2.out w2 hb2).mono ?_
    rintro e w3 ⟨v3, rfl, _, hb3⟩
    have hb3 := hb2.trans (hb3.mono hb2.size)
    clear hb2 W1 W2
    go_wp2_with fail
    refine (LW.out w3 hb3).mono ?_
    rintro e w4 ⟨v4, rfl, ho4, hb4⟩
    obtain ⟨A4, c4, rfl, hr4⟩ := ho4.form
    rw [hcl2] at hr4
    rw [hcl2]
    have hb4 := hb3.trans (hb4.mono hb3.size)
    clear hb3 ho4 LW
    go_wp2_with fail
    refine (C1.out w4 hb4).mono ?_
    rintro e w5 ⟨v5, rfl, ho5, hb5⟩
    obtain ⟨A5, c5, rfl, hr5⟩ := ho5.form
    have hr4 := (hr4.below hb5 (Nat.le_refl _)).more hb5.size
    have hb5 := hb4.trans (hb5.mono hb4.size)
    have TX := Lib.hid (fun (w6 : World) (hb6 : Below w5.heap.size w5 w6) (i j : Int) => implTog_any A4 n c4 w5.heap.size xs i j w6 (hr4.below hb6 (Nat.le_refl _)) hb6.size (by omega))
    have VX := implValid_any A4 n c4 w5.heap.size xs
    rw [HCF.out] at VX
    have VX := Lib.hid (fun (w6 : World) (hb6 : Below w5.heap.size w5 w6) => VX w6 (hr4.below hb6 (Nat.le_refl _)) hb6.size (by omega))
    have HO := Lib.hid (fun (w6 : World) (hb6 : Below w5.heap.size w5 w6) (i : Int) => lrHas_any A5 old.length c5 w5.heap.size old i w6 (hr5.below hb6 (Nat.le_refl _)) (by omega))
    have WI := Lib.hid (fun (w6 : World) (hb6 : Below w5.heap.size w5 w6) (i : Int) => WI.out w6 (hb5.trans (hb6.mono hb5.size)) i)
    have RI := Lib.hid (fun (w6 : World) (hb6 : Below w5.heap.size w5 w6) => RI.out w6 (hb5.trans (hb6.mono hb5.size)))
    have hB5 := hb1.trans (hb5.mono hb1.size)
    clear ho5 hr4 hr5 hb4 hb5 HCF C1 hcy
    go_wp2_with fail
    go_loopw [57] (fun q wr => ∃ k : Nat, k ≤ n ∧ q = .int .i64 (k : Int) ∧ Below w5.heap.size w5 wr) (fun q _ => n - (intOf q).toNat)
    case atStart => exact ⟨0, Nat.zero_le _, rfl, Below.refl _ _⟩
    case round =>
      obtain ⟨k, hk, rfl, hbe⟩ := hrel
      by_cases hlt : k < n
      · obtain ⟨b1, b2, f1, f2, f3, f4, f5⟩ := HF.out k hlt
        obtain ⟨b3, hq⟩ : ∃ b3, (b2 && (!b1 || ((r : Int) == (a : Int)))) = b3 := ⟨_, rfl⟩
        rw [hq] at f4
        have HQ := Lib.hid hq
        clear hq
        have WK := Lib.hid (WI.out wr hbe (k : Int))
        have TA := fun w6 hb6 => TX.out w6 hb6 (k : Int) (a : Int)
        have TR := fun w6 hb6 => TX.out w6 hb6 (k : Int) (r : Int)
        have HK := fun w6 hb6 => HO.out w6 hb6 (k : Int)
        simp only [f3] at TA
        simp only [f4] at TR
        simp only [f2] at HK
        have TA := Lib.hid TA
        have TR := Lib.hid TR
        have HK := Lib.hid HK
        revert WK f1 f5
        generalize ints (wayN zs (k : Int)) = ys
        intro f1 f5 WK
        have F1 := Lib.hid f1
        clear f1 f2 f3 f4 TX HO
        go_wp2_with fail
        refine WK.out.mono ?_
        rintro e w6 ⟨v6, rfl, ho6, hb6⟩
        obtain ⟨A6, c6, rfl, hr6⟩ := ho6.form
        have hb6 := hbe.trans (hb6.mono hbe.size)
        have HW := fun (w7 : World) (hb7 : Below w6.heap.size w6 w7) => lrHas_any A6 ys.length c6 w6.heap.size ys (a : Int) w7 (hr6.below hb7 (Nat.le_refl _)) (by omega)
        simp only [F1.out] at HW
        have HW := Lib.hid HW
        clear hbe ho6 hr6 WK F1
        cases b2 with
        | false =>
          have h3 : b3 = false := by have := HQ.out; simpa using this.symm
          subst h3
          clear HQ
          have hne : (b1 != b1) = false := by simp
          go_wp2_with fail
          refine (TA.out w6 hb6).mono ?_
          rintro e w7 ⟨rfl, hb7⟩
          have hb67 := hb7
          have hb7 := hb6.trans (hb7.mono hb6.size)
          go_wp2_with fail
          refine (HW.out w7 hb67).mono ?_
          rintro e w7' ⟨rfl, rfl⟩
          go_wp2_with fail
          refine (RI.out _ hb7).mono ?_
          rintro e w8 ⟨rfl, hb8⟩
          have hb68 := hb67.trans (hb8.mono hb67.size)
          have hb8 := hb7.trans (hb8.mono hb7.size)
          clear hb7 hb67
          go_wp2_with fail
          refine (TR.out _ hb8).mono ?_
          rintro e w9 ⟨rfl, hb9⟩
          have hb69 := hb68.trans (hb9.mono hb68.size)
          have hb9 := hb8.trans (hb9.mono hb8.size)
          clear hb8 hb68
          go_wp2_with fail
          refine (HK.out _ hb9).mono ?_
          rintro e w9' ⟨rfl, rfl⟩
          go_wp2_with fail
          go_roundw
          case rel => exact ⟨k + 1, by omega, by go_num, hb9⟩
          case measure => simp [intOf]; omega
        | true =>
          cases b1 with
          | false =>
            have h3 : b3 = true := by have := HQ.out; simpa using this.symm
            subst h3
            clear HQ
            go_wp2_with fail
            refine (TA.out w6 hb6).mono ?_
            rintro e w7 ⟨rfl, hb7⟩
            have hb67 := hb7
            have hb7 := hb6.trans (hb7.mono hb6.size)
            go_wp2_with fail
            refine (HW.out w7 hb67).mono ?_
            rintro e w7' ⟨rfl, rfl⟩
            go_wp2_with fail
            refine (RI.out _ hb7).mono ?_
            rintro e w8 ⟨rfl, hb8⟩
            have hb68 := hb67.trans (hb8.mono hb67.size)
            have hb8 := hb7.trans (hb8.mono hb7.size)
            clear hb7 hb67
            go_wp2_with fail
            refine (TR.out _ hb8).mono ?_
            rintro e w9 ⟨rfl, hb9⟩
            have hb69 := hb68.trans (hb9.mono hb68.size)
            have hb9 := hb8.trans (hb9.mono hb8.size)
            clear hb8 hb68
            go_wp2_with fail
            refine (HK.out _ hb9).mono ?_
            rintro e w9' ⟨rfl, rfl⟩
            go_wp2_with fail
            refine (HW.out _ hb69).mono ?_
            rintro e w9' ⟨rfl, rfl⟩
            go_wp2_with fail
            go_roundw
            case rel => exact ⟨k + 1, by omega, by go_num, hb9⟩
            case measure => simp [intOf]; omega
          | true =>
            have h3 : ((r : Int) == (a : Int)) = b3 := by have := HQ.out; simpa using this
            have hne : (b3 != b3) = false := by simp
            clear HQ
            go_wp2_with fail
            refine (TA.out w6 hb6).mono ?_
            rintro e w7 ⟨rfl, hb7⟩
            have hb67 := hb7
            have hb7 := hb6.trans (hb7.mono hb6.size)
            go_wp2_with fail
            refine (HW.out w7 hb67).mono ?_
            rintro e w7' ⟨rfl, rfl⟩
            go_wp2_with fail
            refine (RI.out _ hb7).mono ?_
            rintro e w8 ⟨rfl, hb8⟩
            have hb68 := hb67.trans (hb8.mono hb67.size)
            have hb8 := hb7.trans (hb8.mono hb7.size)
            clear hb7 hb67
            go_wp2_with fail
            refine (TR.out _ hb8).mono ?_
            rintro e w9 ⟨rfl, hb9⟩
            have hb69 := hb68.trans (hb9.mono hb68.size)
            have hb9 := hb8.trans (hb9.mono hb8.size)
            clear hb8 hb68
            go_wp2_with fail
            refine (HK.out _ hb9).mono ?_
            rintro e w9' ⟨rfl, rfl⟩
            go_wp2_with fail
            refine (HW.out _ hb69).mono ?_
            rintro e w9' ⟨rfl, rfl⟩
            go_wp2_with fail
            refine (RI.out _ hb9).mono ?_
            rintro e w10 ⟨rfl, hb10⟩
            have hb10 := hb9.trans (hb10.mono hb9.size)
            clear hb9 hb69
            go_wp2_with fail
            go_roundw
            case rel => exact ⟨k + 1, by omega, by go_num, hb10⟩
            case measure => simp [intOf]; omega
      · obtain rfl : k = n := by omega
        go_wp2_with fail
        refine (VX.out wr hbe).mono ?_
        rintro e w6 ⟨rfl, hb6⟩
        have hb6 := hbe.trans (hb6.mono hbe.size)
        go_wp2_with fail
        go_ret
        exact ⟨rfl, hB5.trans (hb6.mono hB5.size)⟩
end Go.Proofs.Ytlebnmboaeemoaa
