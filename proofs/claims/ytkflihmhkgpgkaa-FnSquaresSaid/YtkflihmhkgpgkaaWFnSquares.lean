/- The walk of the law on squares of classes: for every row of bytes the law returns true and nothing that was there has turned. -/
import Derived.Test.YtkflihmhkgpgkaaSquares
import Derived.Test.YtkflihmhkgpgkaaKit
import Derived.Test.YtkflihmhkgpgkaaDraw4
namespace Go.Proofs.Ytkflihmhkgpgkaa
open Go.RowKit

set_option maxRecDepth 100000 in
set_option maxHeartbeats 4000000 in
theorem fnSquares (A0 : Option Addr) (n0 c0 : Nat) (z0 : List Int) (w : World) (h0 : Row .u8 w A0 n0 c0 z0) :
    Calls Try.prog 6 #[.slice A0 n0 c0] w fun e w' => e = .returned (.bool true) ∧ Below w.heap.size w w' := by
  by_cases hl0 : 1048576 < n0
  · clear h0
    go_enter Try.func6, Try.ntmps6
    go_wp2
    go_ret
    exact ⟨rfl, Below.refl _ _⟩
  obtain ⟨b0, hc0⟩ := h0.bt
  have D0 := Lib.hid (drawClasses_any A0 n0 c0 w.heap.size z0 w b0 (Nat.le_refl _) hc0)
  clear h0 b0 hc0
  go_enter Try.func6, Try.ntmps6
  go_wp2_with fail
  refine D0.out.mono ?_
  rintro e w1 ⟨v, zs, rfl, ho, hl, hb1⟩
  obtain ⟨A, c, rfl, hr⟩ := ho.form
  obtain ⟨n, hn⟩ : ∃ n, n = zs.length := ⟨_, rfl⟩
  rw [← hn] at hr hl
  rw [← hn]
  clear ho D0
  have HN := Lib.hid hn
  cases hv : fvB zs with
  | false =>
    have CI := fun (w2 : World) (hb2 : Below w1.heap.size w1 w2) => rows2_of (rowsN_big zs).2 (implClasses_any A n c w1.heap.size zs w2 (hr.below hb2 (Nat.le_refl _)) hb2.size (by omega))
    have CS := fun (w2 : World) (hb2 : Below w1.heap.size w1 w2) => rows2_of (rowsN_big zs).2 (specClasses_any A n c w1.heap.size zs w2 (hr.below hb2 (Nat.le_refl _)) hb2.size (by omega))
    rw [hv] at CI CS
    have CI := Lib.hid CI
    have CS := Lib.hid CS
    clear hv hn hr
    go_wp2_with fail
    refine (CI.out _ (by repeat (first | assumption | exact Below.refl _ _ | refine Below.on ?_ (by assumption)))).mono ?_
    rintro e w2 ⟨A2, c2, rfl, hr2, hb2⟩
    go_wp2_with fail
    refine (CS.out _ (by repeat (first | assumption | exact Below.refl _ _ | refine Below.on ?_ (by assumption)))).mono ?_
    rintro e w3 ⟨A3, c3, rfl, hr3, hb3⟩
    clear hr2 hr3
    go_wp2_with fail
    go_ret
    exact ⟨rfl, (by repeat (first | assumption | exact Below.refl _ _ | refine Below.on ?_ (by assumption)))⟩
  | true =>
    obtain ⟨m, hm⟩ : ∃ m, m = (rowsTo zs zs.length).length := ⟨_, rfl⟩
    have hm16 : m ≤ n := by rw [hm, hn]; exact rowsTo_len zs zs.length
    have hn16 : n ≤ 16 := by have := (fv_parts hv).2.1; omega
    have CI := fun (w2 : World) (hb2 : Below w1.heap.size w1 w2) => rows2_at (n := m) (by rw [rowsN_yes hv]; exact hm) (rowsN_big zs).2 (implClasses_any A n c w1.heap.size zs w2 (hr.below hb2 (Nat.le_refl _)) hb2.size (by omega))
    have CS := fun (w2 : World) (hb2 : Below w1.heap.size w1 w2) => rows2_at (n := m) (by rw [rowsN_yes hv]; exact hm) (rowsN_big zs).2 (specClasses_any A n c w1.heap.size zs w2 (hr.below hb2 (Nat.le_refl _)) hb2.size (by omega))
    have TG := Lib.hid (fun (w2 : World) (hb2 : Below w1.heap.size w1 w2) (i k : Int) => implTog_any A n c w1.heap.size zs i k w2 (hr.below hb2 (Nat.le_refl _)) hb2.size (by omega))
    rw [hv, rowsN_yes hv] at CI CS
    have CI := Lib.hid CI
    have CS := Lib.hid CS
    have HV := Lib.hid hv
    have HMM := Lib.hid hm
    clear hv hm hn hr
    go_wp2_with fail
    refine (CI.out _ (by repeat (first | assumption | exact Below.refl _ _ | refine Below.on ?_ (by assumption)))).mono ?_
    rintro e w2 ⟨A2, c2, rfl, hr2, hb2⟩
    go_wp2_with fail
    refine (CS.out _ (by repeat (first | assumption | exact Below.refl _ _ | refine Below.on ?_ (by assumption)))).mono ?_
    rintro e w3 ⟨A3, c3, rfl, hr3, hb3⟩
    have HR2 := Lib.hid (hr2.to hb3)
    have HB3 := Lib.hid (show Below w1.heap.size w1 w3 from (by repeat (first | assumption | exact Below.refl _ _ | refine Below.on ?_ (by assumption))))
    clear hr2 hr3 hb2 hb3 CI CS
    go_wp2_with fail
    go_loopw [8, 41] (fun s i wr => ∃ t : Nat, t ≤ m ∧ i = .int .i64 t ∧ s = .int .i64 (squaresTo zs t) ∧ Below w3.heap.size w3 wr) (fun _ i _ => m - (intOf i).toNat)
    case atStart => exact ⟨0, Nat.zero_le _, rfl, by simp [squaresTo, sumL_nil], Below.refl _ _⟩
    case round =>
      obtain ⟨t, ht, rfl, rfl, hbe⟩ := hrel
      by_cases hlt : t < m
      · obtain ⟨b2, off2, rfl, _, hc2⟩ := (HR2.out.below hbe (Nat.le_refl _)).2 (by omega)
        obtain ⟨A7, n7, c7, g2, r7, b7⟩ := hc2 t hlt
        have htl : t < (rowsTo zs zs.length).length := by have := HMM.out; omega
        have hsn := squaresTo_succ htl
        have hrl := row_len htl
        have hsq := small_sq (by have := HN.out; omega) (by omega) (squaresTo_le zs t)
        rw [r7.1] at hsn hrl
        have h7 : n7 ≤ 16 := by have := HN.out; omega
        obtain ⟨s2, hs2⟩ : ∃ s2, s2 = n7 * n7 := ⟨_, rfl⟩
        have hs3 : s2 ≤ 256 := by rw [hs2]; exact Nat.mul_le_mul h7 h7
        have hmul : (n7 : Int) * (n7 : Int) = (s2 : Int) := by rw [hs2]; simp
        rw [← hs2] at hsn
        have HSN := Lib.hid hsn
        clear hc2 r7 hsn hrl htl hs2
        go_wp2_with fail
        go_roundw
        case rel => exact ⟨t + 1, by omega, by go_num, by rw [HSN.out]; go_num, hbe⟩
        case measure => simp [intOf]; omega
      · obtain rfl : t = m := by omega
        have hsq := small_sq (by have := HN.out; omega) (by omega) (squaresTo_le zs t)
        have hfin := pairs_squares (up := zs)
        rw [← HMM.out, ← HN.out] at hfin
        have HF := Lib.hid hfin
        clear hfin
        obtain ⟨S, hS⟩ : ∃ S, S = squaresTo zs t := ⟨_, rfl⟩
        rw [← hS] at hsq HF
        rw [← hS]
        clear hS
        go_wp2_with fail
        go_loopw [9, 55] (fun q i wr => ∃ k : Nat, k ≤ n ∧ i = .int .i64 k ∧ q = .int .i64 (pairsTo zs k) ∧ Below w3.heap.size w3 wr) (fun _ i _ => n - (intOf i).toNat)
        case atStart => exact ⟨0, Nat.zero_le _, rfl, by simp [pairsTo, sumL_nil], hbe⟩
        case round =>
          obtain ⟨k, hk, rfl, rfl, hbe2⟩ := hrel
          clear hbe
          by_cases hlt2 : k < n
          · have hps := pairsTo_succ zs k
            have hpl := pairsTo_le zs k
            have hpq : pairsTo zs k ≤ 256 := Nat.le_trans hpl (Nat.mul_le_mul (by omega) (by have := HN.out; omega) : k * zs.length ≤ 16 * 16)
            have hcl := cls_len zs (rootI zs k : Int)
            rw [← HN.out] at hps
            have HPS := Lib.hid hps
            clear hps hpl
            obtain ⟨wo, rfl⟩ : ∃ wo : World, wo = wr := ⟨_, rfl⟩
            go_wp2_with fail
            go_loopw [9, 60] (fun q i wr => ∃ j : Nat, j ≤ n ∧ i = .int .i64 j ∧ q = .int .i64 (pairsTo zs k + (cls zs (rootI zs k : Int) j).length : Nat) ∧ Below w3.heap.size w3 wr) (fun _ i _ => n - (intOf i).toNat)
            case atStart => exact ⟨0, Nat.zero_le _, rfl, by simp [cls], hbe2⟩
            case round =>
              obtain ⟨j, hj, rfl, rfl, hbi⟩ := hrel
              clear hbe2
              by_cases hlt3 : j < n
              · have TJ := TG.out wr (Below.on HB3.out hbi) (k : Int) (j : Int)
                have hit : itemB zs (k : Int) = true := item_of HV.out (by omega) (by have := HN.out; omega)
                have hit2 : itemB zs (j : Int) = true := item_of HV.out (by omega) (by have := HN.out; omega)
                have htg := togB_items hit hit2
                have hcj := hcl j
                by_cases hroot : rootI zs j = rootI zs k
                · have hcs := cls_yes (up := zs) (r := (rootI zs k : Int)) (k := j) (by omega)
                  have htt : togB zs (k : Int) (j : Int) = true := by rw [htg, hroot]; simp
                  rw [htt] at TJ
                  have hcs2 : (cls zs (rootI zs k : Int) (j + 1)).length = (cls zs (rootI zs k : Int) j).length + 1 := by rw [hcs]; simp
                  have HCS := Lib.hid hcs2
                  have TJ := Lib.hid TJ
                  clear hcs htt htg hit hit2 hroot hcs2 hcl
                  go_wp2_with fail
                  refine TJ.out.mono ?_
                  rintro e w7 ⟨rfl, hb7⟩
                  have hb8 := Below.on hbi hb7
                  clear hb7
                  go_wp2_with fail
                  go_roundw
                  case rel => exact ⟨j + 1, by omega, by go_num, by rw [HCS.out]; go_num, hb8⟩
                  case measure => simp [intOf]; omega
                · have hcs := cls_no (up := zs) (r := (rootI zs k : Int)) (k := j) (by omega)
                  have htt : togB zs (k : Int) (j : Int) = false := by rw [htg]; simp; omega
                  rw [htt] at TJ
                  have HCS := Lib.hid hcs
                  have TJ := Lib.hid TJ
                  clear hcs htt htg hit hit2 hroot hcl
                  go_wp2_with fail
                  refine TJ.out.mono ?_
                  rintro e w7 ⟨rfl, hb7⟩
                  have hb8 := Below.on hbi hb7
                  clear hb7
                  go_wp2_with fail
                  go_roundw
                  case rel => exact ⟨j + 1, by omega, by go_num, by rw [HCS.out]; go_num, hb8⟩
                  case measure => simp [intOf]; omega
              · obtain rfl : j = n := by omega
                clear hcl
                go_wp2_with fail
                go_roundw
                case rel => exact ⟨k + 1, by omega, by go_num, by rw [HPS.out], hbi⟩
                case measure => simp [intOf]; omega
          · obtain rfl : k = n := by omega
            have hft : ((S : Int) == ((pairsTo zs k : Nat) : Int)) = true := by rw [beq_iff_eq]; have := HF.out; omega
            go_wp2_with fail
            go_ret
            exact ⟨rfl, Below.on hb1 (Below.on HB3.out hbe2)⟩
end Go.Proofs.Ytkflihmhkgpgkaa
