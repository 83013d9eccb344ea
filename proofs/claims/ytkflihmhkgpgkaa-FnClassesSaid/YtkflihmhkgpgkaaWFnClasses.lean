/- The walk of the law on classes: each item lies in one of them, and there are as many as roots: for every two rows of bytes the law returns true and nothing that was there has turned. -/
import Derived.Test.YtkflihmhkgpgkaaCount
import Derived.Test.YtkflihmhkgpgkaaKit
import Derived.Test.YtkflihmhkgpgkaaDraw6
import Derived.Test.YtkflihmhkgpgkaaWith
import Derived.Outline
namespace Go.Proofs.Ytkflihmhkgpgkaa
open Go.RowKit

theorem has_of {P : Program} {f : FuncId} {args : Array Value} {w : World} {r : Ending} (h : Calls P f args w fun e w' => e = r ∧ w' = w) : Calls P f args w fun e w' => e = r ∧ Below w.heap.size w w' :=
  h.mono fun _ _ ⟨a, b⟩ => ⟨a, by rw [b]; exact Below.refl _ _⟩

set_option maxRecDepth 100000 in
set_option maxHeartbeats 4000000 in
theorem fnClasses (A0 : Option Addr) (n0 c0 : Nat) (z0 : List Int) (A1 : Option Addr) (n1 c1 : Nat) (z1 : List Int) (w : World) (h0 : Row .u8 w A0 n0 c0 z0) (h1 : Row .u8 w A1 n1 c1 z1) :
    Calls Try.prog 3 #[.slice A0 n0 c0, .slice A1 n1 c1] w fun e w' => e = .returned (.bool true) ∧ Below w.heap.size w w' := by
  by_cases hl0 : 1048576 < n0
  · clear h0 h1
    go_enter Try.func3, Try.ntmps3
    go_wp2
    go_ret
    exact ⟨rfl, Below.refl _ _⟩
  by_cases hl1 : 1048576 < n1
  · clear h0 h1
    go_enter Try.func3, Try.ntmps3
    go_wp2
    go_ret
    exact ⟨rfl, Below.refl _ _⟩
  obtain ⟨b0, hc0⟩ := h0.bt
  obtain ⟨b1, hc1⟩ := h1.bt
  have D0 := Lib.hid (drawClasses_any A0 n0 c0 w.heap.size z0 w b0 (Nat.le_refl _) hc0)
  have D1 := Lib.hid (fun (w1 : World) (hb : Below w.heap.size w w1) => drawClass_any A1 n1 c1 w.heap.size z1 w1 (b1.below hb (Nat.le_refl _)) hb.size hc1)
  clear h0 h1 b0 b1 hc0 hc1
  go_enter Try.func3, Try.ntmps3
  go_wp2_with fail
  refine D0.out.mono ?_
  rintro e w1 ⟨v, zs, rfl, ho, hl, hb1⟩
  obtain ⟨A, c, rfl, hr⟩ := ho.form
  obtain ⟨n, hn⟩ : ∃ n, n = zs.length := ⟨_, rfl⟩
  rw [← hn] at hr hl
  rw [← hn]
  clear ho D0
  have CI := Lib.hid (fun (w2 : World) (hb2 : Below w1.heap.size w1 w2) => rows2_of (rowsN_big zs).2 (implClasses_any A n c w1.heap.size zs w2 (hr.below hb2 (Nat.le_refl _)) hb2.size (by omega)))
  have CS := Lib.hid (fun (w2 : World) (hb2 : Below w1.heap.size w1 w2) => rows2_of (rowsN_big zs).2 (specClasses_any A n c w1.heap.size zs w2 (hr.below hb2 (Nat.le_refl _)) hb2.size (by omega)))
  have KI := Lib.hid (fun (w2 : World) (hb2 : Below w1.heap.size w1 w2) (i : Int) => rd2_of (implClass_any A n c w1.heap.size zs i w2 (hr.below hb2 (Nat.le_refl _)) hb2.size (by omega)))
  have RD := Lib.hid hr
  have HN := Lib.hid hn
  have HM := Lib.hid (rowsN_big zs)
  clear hr hn
  cases hv : fvB zs with
  | false =>
    have CI := CI.out
    have CS := CS.out
    rw [hv, rowsN_no hv] at CI CS
    have CI := Lib.hid CI
    have CS := Lib.hid CS
    clear hv
    go_wp2_with fail
    refine (CI.out _ (by repeat (first | assumption | exact Below.refl _ _ | refine Below.on ?_ (by assumption)))).mono ?_
    rintro e w2 ⟨A2, c2, rfl, hr2, hb2⟩
    go_wp2_with fail
    refine (CS.out _ (by repeat (first | assumption | exact Below.refl _ _ | refine Below.on ?_ (by assumption)))).mono ?_
    rintro e w3 ⟨A3, c3, rfl, hr3, hb3⟩
    have hr2 := hr2.to hb3
    go_wp2_with fail
    refine (D1.out _ (by repeat (first | assumption | exact Below.refl _ _ | refine Below.on ?_ (by assumption)))).mono ?_
    rintro e w4 ⟨v4, us, x, rfl, ho4, hl4, hx4, hb4⟩
    obtain ⟨A4, c4, rfl, hr4⟩ := ho4.form
    have IX := Lib.hid (fun (w5 : World) (hb5 : Below w4.heap.size w4 w5) => rd2_of (implClass_any A4 us.length c4 w4.heap.size us x w5 (hr4.below hb5 (Nat.le_refl _)) hb5.size (by omega)))
    have SX := Lib.hid (fun (w5 : World) (hb5 : Below w4.heap.size w4 w5) => rd2_of (specClass_any A4 us.length c4 w4.heap.size us x w5 (hr4.below hb5 (Nat.le_refl _)) hb5.size (by omega)))
    have hr2 := hr2.to hb4
    have hr3 := hr3.to hb4
    have hk := clsN_len16 us x
    clear ho4 hr4 hl4
    revert IX SX hk
    generalize us.length = nu
    generalize clsN us x = ks
    generalize itemB us x = ok
    intro IX SX hk
    have hok : (ok != ok) = false := by cases ok <;> rfl
    have hok2 : (ok == ok) = true := by cases ok <;> rfl
    have dk : decide (ks = ks) = true := by simp
    have dn : decide (([] : List (List Int)) = []) = true := rfl
    go_wp2_with fail
    refine (IX.out _ (by repeat (first | assumption | exact Below.refl _ _ | refine Below.on ?_ (by assumption)))).mono ?_
    rintro e w5 ⟨A5, c5, rfl, hr5, hb5⟩
    go_wp2_with fail
    refine (SX.out _ (by repeat (first | assumption | exact Below.refl _ _ | refine Below.on ?_ (by assumption)))).mono ?_
    rintro e w6 ⟨A6, c6, rfl, hr6, hb6⟩
    have hr5 := hr5.to hb6
    have hr2 := (hr2.to hb5).to hb6
    have hr3 := (hr3.to hb5).to hb6
    have LR := Lib.hid (fun (w7 : World) (hb7 : Below w6.heap.size w6 w7) => q_of (lrRows_any A2 A3 0 c2 0 c3 _ _ [] [] w7 (hr2.to hb7) (hr3.to hb7) (by omega) (by omega)))
    have LS := Lib.hid (fun (w7 : World) (hb7 : Below w6.heap.size w6 w7) => q_of (lrSame_all A5 A6 ks.length c5 ks.length c6 _ _ ks ks w7 (hr5.to hb7) (hr6.to hb7) (by omega) (by omega)))
    clear hr2 hr3 hr5 hr6
    go_wp2_with (first
      | (go_at_call 31; refine (LR.out _ (by repeat (first | assumption | exact Below.refl _ _ | refine Below.on ?_ (by assumption)))).mono ?_; rintro e w11 ⟨rfl, hb11⟩)
      | (go_at_call 32; refine (LS.out _ (by repeat (first | assumption | exact Below.refl _ _ | refine Below.on ?_ (by assumption)))).mono ?_; rintro e w12 ⟨rfl, hb12⟩))
    go_ret
    exact ⟨rfl, (by repeat (first | assumption | exact Below.refl _ _ | refine Below.on ?_ (by assumption)))⟩
  | true =>
    have HM := HM.out
    rw [rowsN_yes hv] at HM
    obtain ⟨hm16, HB⟩ := HM
    obtain ⟨m, hm⟩ : ∃ m, m = (rowsTo zs zs.length).length := ⟨_, rfl⟩
    have hr := RD.out
    have CI := Lib.hid (fun (w2 : World) (hb2 : Below w1.heap.size w1 w2) => rows2_at (n := m) (by rw [rowsN_yes hv]; exact hm) (rowsN_big zs).2 (implClasses_any A n c w1.heap.size zs w2 (hr.below hb2 (Nat.le_refl _)) hb2.size (by omega)))
    have CS := Lib.hid (fun (w2 : World) (hb2 : Below w1.heap.size w1 w2) => rows2_at (n := m) (by rw [rowsN_yes hv]; exact hm) (rowsN_big zs).2 (specClasses_any A n c w1.heap.size zs w2 (hr.below hb2 (Nat.le_refl _)) hb2.size (by omega)))
    have CI := CI.out
    have CS := CS.out
    rw [hv, rowsN_yes hv] at CI CS
    have CI := Lib.hid CI
    have CS := Lib.hid CS
    have HV := Lib.hid hv
    have h16 := (fv_parts hv).2.1
    have hn16 : n ≤ 16 := by have := HN.out; omega
    rw [← hm] at hm16
    have HMM := Lib.hid hm
    clear hv HB hm h16 hr
    go_wp2_with fail
    refine (CI.out _ (by repeat (first | assumption | exact Below.refl _ _ | refine Below.on ?_ (by assumption)))).mono ?_
    rintro e w2 ⟨A2, c2, rfl, hr2, hb2⟩
    go_wp2_with fail
    refine (CS.out _ (by repeat (first | assumption | exact Below.refl _ _ | refine Below.on ?_ (by assumption)))).mono ?_
    rintro e w3 ⟨A3, c3, rfl, hr3, hb3⟩
    have hr2 := hr2.to hb3
    go_wp2_with fail
    refine (D1.out _ (by repeat (first | assumption | exact Below.refl _ _ | refine Below.on ?_ (by assumption)))).mono ?_
    rintro e w4 ⟨v4, us, x, rfl, ho4, hl4, hx4, hb4⟩
    obtain ⟨A4, c4, rfl, hr4⟩ := ho4.form
    have IX := Lib.hid (fun (w5 : World) (hb5 : Below w4.heap.size w4 w5) => rd2_of (implClass_any A4 us.length c4 w4.heap.size us x w5 (hr4.below hb5 (Nat.le_refl _)) hb5.size (by omega)))
    have SX := Lib.hid (fun (w5 : World) (hb5 : Below w4.heap.size w4 w5) => rd2_of (specClass_any A4 us.length c4 w4.heap.size us x w5 (hr4.below hb5 (Nat.le_refl _)) hb5.size (by omega)))
    have hr2 := hr2.to hb4
    have hr3 := hr3.to hb4
    have hk := clsN_len16 us x
    clear ho4 hr4 hl4
    revert IX SX hk
    generalize us.length = nu
    generalize clsN us x = ks
    generalize itemB us x = ok
    intro IX SX hk
    have hok : (ok != ok) = false := by cases ok <;> rfl
    have dk : decide (ks = ks) = true := by simp
    have dn : decide (rowsTo zs zs.length = rowsTo zs zs.length) = true := by simp
    go_wp2_with fail
    refine (IX.out _ (by repeat (first | assumption | exact Below.refl _ _ | refine Below.on ?_ (by assumption)))).mono ?_
    rintro e w5 ⟨A5, c5, rfl, hr5, hb5⟩
    go_wp2_with fail
    refine (SX.out _ (by repeat (first | assumption | exact Below.refl _ _ | refine Below.on ?_ (by assumption)))).mono ?_
    rintro e w6 ⟨A6, c6, rfl, hr6, hb6⟩
    have hr5 := hr5.to hb6
    have hr2 := (hr2.to hb5).to hb6
    have hr3 := (hr3.to hb5).to hb6
    have HR2 := Lib.hid hr2
    have LR := Lib.hid (fun (w7 : World) (hb7 : Below w6.heap.size w6 w7) => q_of (lrRows_any A2 A3 m c2 m c3 _ _ (rowsTo zs zs.length) (rowsTo zs zs.length) w7 (hr2.to hb7) (hr3.to hb7) (by omega) (by omega)))
    have LS := Lib.hid (fun (w7 : World) (hb7 : Below w6.heap.size w6 w7) => q_of (lrSame_all A5 A6 ks.length c5 ks.length c6 _ _ ks ks w7 (hr5.to hb7) (hr6.to hb7) (by omega) (by omega)))
    clear hr2 hr3 hr5 hr6
    go_wp2_with (first
      | (go_at_call 31; refine (LR.out _ (by repeat (first | assumption | exact Below.refl _ _ | refine Below.on ?_ (by assumption)))).mono ?_; rintro e w11 ⟨rfl, hb11⟩)
      | (go_at_call 32; refine (LS.out _ (by repeat (first | assumption | exact Below.refl _ _ | refine Below.on ?_ (by assumption)))).mono ?_; rintro e w12 ⟨rfl, hb12⟩))
    have HB6 := Lib.hid (show Below w1.heap.size w1 w6 from (by repeat (first | assumption | exact Below.refl _ _ | refine Below.on ?_ (by assumption))))
    have HBW := Lib.hid (show Below w.heap.size w w6 from (by repeat (first | assumption | exact Below.refl _ _ | refine Below.on ?_ (by assumption))))
    obtain ⟨w13, hw13, hb13⟩ : ∃ w13, w13 = w12 ∧ Below w6.heap.size w6 w13 := ⟨_, rfl, (by repeat (first | assumption | exact Below.refl _ _ | refine Below.on ?_ (by assumption)))⟩
    rw [← hw13]
    clear hw13 hb11 hb12 hb6 hb5 hb4 hb3 hb2 CI CS IX SX LR LS D1
    go_loopw [16, 110] (fun r i wr => ∃ k : Nat, k ≤ n ∧ i = .int .i64 k ∧ r = .int .i64 (rootsTo zs k) ∧ Below w6.heap.size w6 wr) (fun _ i _ => n - (intOf i).toNat)
    case atStart => exact ⟨0, Nat.zero_le _, rfl, by simp [rootsTo], hb13⟩
    case round =>
      obtain ⟨k, hk, rfl, rfl, hbe⟩ := hrel
      clear hb13
      by_cases hlt : k < n
      · obtain ⟨b, off, rfl, _, hc1⟩ := (RD.out.below (Below.on HB6.out hbe) (Nat.le_refl _)).2 (by omega)
        have g1 := hc1 k hlt
        clear hc1
        have hrl := rootsTo_le zs k
        have hki : k < zs.length := by have := HN.out; omega
        have hcl : (clsN zs (k : Int)).length ≤ 16 := clsN_len16 zs _
        have hit : itemB zs (k : Int) = true := item_of HV.out (by omega) (by omega)
        have KI := fun (w2 : World) (hb2 : Below w1.heap.size w1 w2) => KI.out w2 hb2 (k : Int)
        rw [hit] at KI
        have KI := Lib.hid KI
        have hin := inTo_all hki
        rw [← HMM.out] at hin
        have HIN := Lib.hid hin
        have HKI := Lib.hid hki
        clear hit hin hki
        obtain ⟨r', hr', hrr⟩ : ∃ r' : Nat, r' = rootsTo zs (k + 1) ∧ r' ≤ 17 := ⟨_, rfl, by have := rootsTo_le zs (k + 1); omega⟩
        have HRR := Lib.hid hr'
        obtain ⟨wo, rfl⟩ : ∃ wo : World, wo = wr := ⟨_, rfl⟩
        by_cases hroot : zs[k]?.getD 0 = (k : Int)
        all_goals
          first
          | (have hsn := rootsTo_yes hroot
             rw [hroot] at g1
             have ht : ((k : Int) == (k : Int)) = true := by simp
             have hs2 : ((rootsTo zs k : Nat) : Int) + 1 = (r' : Int) := by rw [hr', hsn]; omega)
          | (have hsn := rootsTo_no hroot
             have ht : ((k : Int) == zs[k]?.getD 0) = false := by simp; exact fun e => hroot e.symm
             have hs2 : ((rootsTo zs k : Nat) : Int) = (r' : Int) := by rw [hr', hsn])
          have HS2 := Lib.hid hs2
          clear hroot hsn hs2 hr'
          go_wp2
          go_loopw [19, 122] (fun q j wr => ∃ t : Nat, t ≤ m ∧ j = .int .i64 t ∧ q = .int .i64 (inTo zs k t) ∧ Below w6.heap.size w6 wr) (fun _ j _ => m - (intOf j).toNat)
          case atStart => exact ⟨0, Nat.zero_le _, rfl, by rw [inTo_zero]; rfl, hbe⟩
          case round =>
            obtain ⟨t, ht', rfl, rfl, hbi⟩ := hrel
            clear hbe
            by_cases hlt2 : t < m
            · obtain ⟨b2, off2, rfl, _, hc2⟩ := (HR2.out.below hbi (Nat.le_refl _)).2 (by omega)
              obtain ⟨A7, n7, c7, g2, r7, b7⟩ := hc2 t hlt2
              have htl : t < (rowsTo zs zs.length).length := by have := HMM.out; omega
              have hsn := inTo_succ (i := k) htl
              have hile := inTo_le zs k t
              have hrc := row_class HV.out HKI.out htl
              have HRC := Lib.hid hrc
              have hr7l := r7.1
              clear hc2 hrc
              revert hsn g2 r7 HRC hr7l
              generalize (rowsTo zs zs.length)[t]?.getD [] = R
              intro g2 r7 hsn HRC hr7l
              have LH := Lib.hid (has_of (lrHas_any A7 n7 c7 _ R (k : Int) wr r7 b7))
              have R7 := Lib.hid r7
              have HSN := Lib.hid hsn
              have HR7 := Lib.hid hr7l
              clear r7 hsn hr7l
              by_cases hm : (k : Int) ∈ R
              · have hd : decide ((k : Int) ∈ R) = true := by simp [hm]
                have hre := HRC.out hm
                have KI := KI.out
                rw [hre] at KI hcl
                have KI := Lib.hid KI
                have hs3 := HSN.out
                rw [if_pos hm] at hs3
                have HS3 := Lib.hid hs3
                have LH := LH.out
                rw [hd] at LH
                have LH := Lib.hid LH
                have hRR : decide (R = R) = true := by simp
                clear hm hd hre hs3 HSN
                go_wp2_with fail
                refine LH.out.mono ?_
                rintro e w14 ⟨rfl, hb14⟩
                go_wp2_with fail
                refine (KI.out _ (Below.on HB6.out (Below.on hbi hb14))).mono ?_
                rintro e w15 ⟨A8, c8, rfl, hr8, hb15⟩
                have LS := Lib.hid (q_of (lrSame_all A7 A8 n7 c7 R.length c8 _ _ R R w15 ((R7.out.below hb14 hbi.size).below hb15 (by have := hb14.size; have := hbi.size; omega)) hr8 b7 (by omega)))
                have hb15' := Below.on hbi (Below.on hb14 hb15)
                clear hr8 hb14 hb15
                go_wp2_with fail
                refine LS.out.mono ?_
                rintro e w16 ⟨rfl, hb16⟩
                have hb16' := Below.on hb15' hb16
                clear hb15' hb16
                go_wp2_with fail
                go_roundw
                case rel => exact ⟨t + 1, by omega, by go_num, by rw [HS3.out]; go_num, hb16'⟩
                case measure => simp [intOf]; omega
              · have hd : decide ((k : Int) ∈ R) = false := by simp [hm]
                have hs3 := HSN.out
                rw [if_neg hm] at hs3
                have HS3 := Lib.hid hs3
                have LH := LH.out
                rw [hd] at LH
                have LH := Lib.hid LH
                clear hm hd hs3 HSN
                go_wp2_with fail
                refine LH.out.mono ?_
                rintro e w14 ⟨rfl, hb14⟩
                have hb14' := Below.on hbi hb14
                clear hb14
                go_wp2_with fail
                go_roundw
                case rel => exact ⟨t + 1, by omega, by go_num, by rw [HS3.out]; go_num, hb14'⟩
                case measure => simp [intOf]; omega
            · obtain rfl : t = m := by omega
              have hin := HIN.out
              have hne : (((inTo zs k t : Nat) : Int) != 1) = false := by rw [hin]; rfl
              have HSF := Lib.hid hin
              clear hin
              go_wp2_with fail
              go_roundw
              case rel => exact ⟨k + 1, by omega, by go_num, by rw [← HRR.out, ← HS2.out], hbi⟩
              case measure => simp [intOf]; omega
      · obtain rfl : k = n := by omega
        have hfin : ((m : Int) == ((rootsTo zs k : Nat) : Int)) = true := by
          have e1 := rows_roots HV.out
          have e2 := HMM.out
          have e3 := HN.out
          rw [← e3] at e1 e2
          rw [beq_iff_eq]
          omega
        go_wp2_with fail
        go_ret
        exact ⟨rfl, Below.on HBW.out hbe⟩
end Go.Proofs.Ytkflihmhkgpgkaa
