/- The walk of the law on sizes and heights: for every two rows of bytes the law returns true and nothing that was there has turned. -/
import Derived.Test.YtebgnaiibomjkaaSizesLaw
import Derived.Test.YtebgnaiibomjkaaSizes
import Derived.Test.YtebgnaiibomjkaaSpecSizes
import Derived.Test.YtebgnaiibomjkaaRdR
import Derived.Test.YtebgnaiibomjkaaDraw6
import Derived.StillTactics
namespace Go.Proofs.Ytebgnaiibomjkaa
open Go.RowKit

theorem wpStill_want {P : Program} {ops : Array Oper} {w : World} {Q : Act → Prop} {a : Act} {o : Oper} {rest : List Oper} (hw : Region.wanted o (yielded ops a.tmps) = true) (h : ∀ K : Act → Prop, (∀ a, wpStill P ops w Q rest a → K a) → o.still P a w K) : wpStill P ops w Q (o :: rest) a :=
  wpStill_step fun K hK => by rw [if_pos hw]; exact h K hK
theorem sizes_get {up : List Int} (h : fvB up = true) {x : Nat} (hx : x < up.length) : (sizesN up)[x]?.getD 0 = (szN up x : Int) := by
  rw [sizesN_yes h, szL_get hx]
  simp [szAt, szN]
theorem heights_get {up : List Int} (h : fvB up = true) {x : Nat} (hx : x < up.length) : (heightsN up)[x]?.getD 0 = (htN up x : Int) := by
  rw [heightsN_yes h, htL_get hx]
  simp [htAt, htN, htOne]
theorem sizes_len {up : List Int} (h : fvB up = true) : (sizesN up).length = up.length := by rw [sizesN_yes h, szL_len]
theorem heights_len {up : List Int} (h : fvB up = true) : (heightsN up).length = up.length := by rw [heightsN_yes h, htL_len]

set_option maxRecDepth 100000 in
set_option maxHeartbeats 4000000 in
theorem fnSizes (A0 : Option Addr) (n0 c0 : Nat) (z0 : List Int) (A1 : Option Addr) (n1 c1 : Nat) (z1 : List Int) (w : World) (h0 : Row .u8 w A0 n0 c0 z0) (h1 : Row .u8 w A1 n1 c1 z1) :
    Calls Try.prog 6 #[.slice A0 n0 c0, .slice A1 n1 c1] w fun e w' => e = .returned (.bool true) ∧ Below w.heap.size w w' := by
  by_cases hl0 : 1048576 < n0
  · clear h0 h1
    go_enter Try.func6, Try.ntmps6
    go_wp2
    go_ret
    exact ⟨rfl, Below.refl _ _⟩
  by_cases hl1 : 1048576 < n1
  · clear h0 h1
    go_enter Try.func6, Try.ntmps6
    go_wp2
    go_ret
    exact ⟨rfl, Below.refl _ _⟩
  obtain ⟨b0, hc0⟩ := h0.bt
  obtain ⟨b1, hc1⟩ := h1.bt
  have D0 := Lib.hid (drawSizes_any A0 n0 c0 w.heap.size z0 w b0 (Nat.le_refl _) hc0)
  have D1 := Lib.hid (fun (w1 : World) (hb : Below w.heap.size w w1) => drawHeights_any A1 n1 c1 w.heap.size z1 w1 (b1.below hb (Nat.le_refl _)) hb.size hc1)
  clear h0 h1 b0 b1 hc0 hc1
  go_enter Try.func6, Try.ntmps6
  go_wp2_with fail
  refine D0.out.mono ?_
  rintro e w1 ⟨v, zs, rfl, ho, hl, hb1⟩
  obtain ⟨A, c, rfl, hr⟩ := ho.form
  obtain ⟨n, hn⟩ : ∃ n, n = zs.length := ⟨_, rfl⟩
  rw [← hn] at hr hl
  rw [← hn]
  clear ho D0
  have HN := Lib.hid hn
  have HR1 := Lib.hid hr
  obtain ⟨ss, hss⟩ : ∃ ss, ss = sizesN zs := ⟨_, rfl⟩
  have hsl := sizesN_len16 zs
  have LR := Lib.hid (fun (w2 : World) (A A' : Option Addr) (c c' k : Nat) (zs : List Int) (hz : k ≤ 16) (h1 : Rd w2 w2.heap.size A k zs) (h2 : Rd w2 w2.heap.size A' k zs) => q_of (lrSame_any A A' k c c' _ _ zs w2 h1 h2 (by omega)))
  have ZI := fun (w2 : World) (hb2 : Below w1.heap.size w1 w2) => rd2_of (implSizes_any A n c w1.heap.size zs w2 (hr.below hb2 (Nat.le_refl _)) hb2.size (by omega))
  have ZS := fun (w2 : World) (hb2 : Below w1.heap.size w1 w2) => rd2_of (specSizes_any A n c w1.heap.size zs w2 (hr.below hb2 (Nat.le_refl _)) hb2.size (by omega))
  rw [← hss] at ZI ZS hsl
  have ZI := Lib.hid ZI
  have ZS := Lib.hid ZS
  have HSS := Lib.hid hss
  clear hss hn hr
  go_wp2_with fail
  refine (ZI.out w1 (Below.refl _ _)).mono ?_
  rintro e w2 ⟨A2, c2, rfl, hr2, hb2⟩
  go_wp2_with fail
  refine (ZS.out _ (by repeat (first | assumption | exact Below.refl _ _ | refine Below.on ?_ (by assumption)))).mono ?_
  rintro e w3 ⟨A3, c3, rfl, hr3, hb3⟩
  have hr2 := hr2.to hb3
  have HB3 := Below.on hb2 hb3
  clear hb2 hb3 ZI ZS
  have D1 := Lib.hid (D1.out w3 (Below.on hb1 HB3))
  go_wp2_with fail
  refine D1.out.mono ?_
  rintro e w4 ⟨v4, xs, rfl, ho4, hl4, hb4⟩
  obtain ⟨A4, c4, rfl, hr4⟩ := ho4.form
  clear ho4
  have hr2 := hr2.to hb4
  have hr3 := hr3.to hb4
  have HB4 := Below.on HB3 hb4
  clear HB3 hb4 D1
  have XI := fun (w2 : World) (hb2 : Below w4.heap.size w4 w2) => rd2_of (implHeights_any A4 xs.length c4 w4.heap.size xs w2 (hr4.below hb2 (Nat.le_refl _)) hb2.size (by omega))
  have XS := fun (w2 : World) (hb2 : Below w4.heap.size w4 w2) => rd2_of (specHeights_any A4 xs.length c4 w4.heap.size xs w2 (hr4.below hb2 (Nat.le_refl _)) hb2.size (by omega))
  have hhl := heightsN_len16 xs
  revert XI XS hhl
  generalize heightsN xs = hh
  generalize fvB xs = g
  generalize xs.length = q
  intro XI XS hhl
  have XI := Lib.hid XI
  have XS := Lib.hid XS
  clear hr4 hl4
  go_wp2_with fail
  refine (XI.out w4 (Below.refl _ _)).mono ?_
  rintro e w5 ⟨A5, c5, rfl, hr5, hb5⟩
  go_wp2_with fail
  refine (XS.out _ (by repeat (first | assumption | exact Below.refl _ _ | refine Below.on ?_ (by assumption)))).mono ?_
  rintro e w6 ⟨A6, c6, rfl, hr6, hb6⟩
  have hr2 := (hr2.to hb5).to hb6
  have hr3 := (hr3.to hb5).to hb6
  have hr5 := hr5.to hb6
  have HB6 := Below.on HB4 (Below.on hb5 hb6)
  clear hb5 hb6 XI XS HB4
  have gg : (g != g) = false := by cases g <;> rfl
  have g2 : (g == g) = true := by cases g <;> rfl
  cases hv : fvB zs with
  | false =>
    have h00 : ss = [] := HSS.out.trans (sizesN_no hv)
    subst h00
    rw [show ([] : List Int).length = 0 from rfl] at hr2 hr3
    rw [show ([] : List Int).length = 0 from rfl]
    clear hv hsl HSS
    go_wp2_with fail
    refine (LR.out _ A2 A3 c2 c3 0 [] (by omega) hr2 hr3).mono ?_
    rintro e w7 ⟨rfl, hb7⟩
    have hr2 := hr2.to hb7
    have hr3 := hr3.to hb7
    have hr5 := hr5.to hb7
    have hr6 := hr6.to hb7
    have HB7 := Below.on HB6 hb7
    clear hb7 HB6
    go_wp2_with fail
    refine (LR.out _ A5 A6 c5 c6 hh.length hh hhl hr5 hr6).mono ?_
    rintro e w8 ⟨rfl, hb8⟩
    have hr2 := hr2.to hb8
    have hr3 := hr3.to hb8
    have hr5 := hr5.to hb8
    have hr6 := hr6.to hb8
    have HB8 := Below.on HB7 hb8
    clear hb8 HB7
    go_wp2_with fail
    refine (LR.out _ A2 A3 c2 c3 0 [] (by omega) hr2 hr3).mono ?_
    rintro e w9 ⟨rfl, hb9⟩
    have hr5 := hr5.to hb9
    have hr6 := hr6.to hb9
    have HB9 := Below.on HB8 hb9
    clear hb9 HB8
    go_wp2_with fail
    refine (LR.out _ A5 A6 c5 c6 hh.length hh hhl hr5 hr6).mono ?_
    rintro e w10 ⟨rfl, hb10⟩
    have HB10 := Below.on HB9 hb10
    clear hb10 HB9
    go_wp2_with fail
    go_ret
    exact ⟨rfl, Below.on hb1 HB10⟩
  | true =>
    have hsn : ss.length = n := by rw [HSS.out, HN.out]; exact sizes_len hv
    have hn16 : n ≤ 16 := by rw [← hsn]; exact hsl
    have hnp : 1 ≤ n := by have := (fv_parts hv).1; have := HN.out; omega
    have HV := Lib.hid hv
    have HI := Lib.hid (fun (w2 : World) (hb2 : Below w1.heap.size w1 w2) => rd2_of (implHeights_any A n c w1.heap.size zs w2 (HR1.out.below hb2 (Nat.le_refl _)) hb2.size (by omega)))
    have CL := Lib.hid (fun (w2 : World) (hb2 : Below w1.heap.size w1 w2) (i : Int) => rd2_of (implClass_any A n c w1.heap.size zs i w2 (HR1.out.below hb2 (Nat.le_refl _)) hb2.size (by omega)))
    have DI := fun (w2 : World) (hb2 : Below w1.heap.size w1 w2) => implDeep_any A n c w1.heap.size zs w2 (HR1.out.below hb2 (Nat.le_refl _)) hb2.size (by omega)
    have hdn : deepN zs = (rootMost zs n : Int) := by unfold deepN; rw [if_pos hv, HN.out, rootMost_all hv]
    rw [hdn] at DI
    have DI := Lib.hid DI
    clear hv hdn
    rw [hsn] at hr2 hr3
    rw [hsn]
    have HSN := Lib.hid hsn
    clear hsl hsn
    go_wp2_with fail
    refine (LR.out _ A2 A3 c2 c3 n ss hn16 hr2 hr3).mono ?_
    rintro e w7 ⟨rfl, hb7⟩
    have hr2 := hr2.to hb7
    have hr5 := hr5.to hb7
    have hr6 := hr6.to hb7
    have HB7 := Below.on HB6 hb7
    clear hb7 HB6 hr3
    go_wp2_with fail
    refine (LR.out _ A5 A6 c5 c6 hh.length hh hhl hr5 hr6).mono ?_
    rintro e w8 ⟨rfl, hb8⟩
    have hr2 := hr2.to hb8
    have HB8 := Below.on HB7 hb8
    clear hb8 HB7 hr5 hr6
    have HI := HI.out w8 HB8
    have hhn : (heightsN zs).length = n := by rw [HN.out]; exact heights_len HV.out
    simp only [hhn] at HI
    have HI := Lib.hid HI
    clear hhn
    go_wp2_with fail
    refine HI.out.mono ?_
    rintro e w9 ⟨A9, c9, rfl, hr9, hb9⟩
    have hr2 := hr2.to hb9
    have HB9 := Below.on HB8 hb9
    have HR1 := Lib.hid (HR1.out.below HB9 (Nat.le_refl _))
    clear hb9 HB8 HI
    obtain ⟨bz, oz, rfl, kz, hcz⟩ := HR1.out.2 (by omega)
    obtain ⟨bs, os, rfl, ks, hcs⟩ := hr2.2 (by omega)
    obtain ⟨bh, oh, rfl, kh, hch⟩ := hr9.2 (by omega)
    have kz9 : bz < w9.heap.size := Nat.lt_of_lt_of_le kz HB9.size
    have PZ := Lib.hid (fun (wr : World) (hb : Below w9.heap.size w9 wr) (x : Nat) (hx : x < n) => show wr.cell? ⟨bz, oz + x, none⟩ = some (.int .i64 (zs[x]?.getD 0)) from (World.cell?_of_block (hb.block bz kz9)).trans (hcz x hx))
    have PS := Lib.hid (fun (wr : World) (hb : Below w9.heap.size w9 wr) (x : Nat) (hx : x < n) => show wr.cell? ⟨bs, os + x, none⟩ = some (.int .i64 (szN zs x : Int)) from by
      have := (World.cell?_of_block (hb.block bs ks)).trans (hcs x hx)
      rw [this, HSS.out, sizes_get HV.out (by have := HN.out; omega)])
    have PH := Lib.hid (fun (wr : World) (hb : Below w9.heap.size w9 wr) (x : Nat) (hx : x < n) => show wr.cell? ⟨bh, oh + x, none⟩ = some (.int .i64 (htN zs x : Int)) from by
      have := (World.cell?_of_block (hb.block bh kh)).trans (hch x hx)
      rw [this, heights_get HV.out (by have := HN.out; omega)])
    have RB := Lib.hid (fun (k : Nat) (hk : k ≤ n) => rootSum_le (up := zs) (k := k) (by have := HN.out; omega) HV.out)
    clear hcz hcs hch kz ks kh kz9 hr2 hr9
    go_wp2_with fail
    go_loopw [17, 18, 108] (fun s q i wr => ∃ t : Nat, t ≤ n ∧ i = .int .i64 t ∧ s = .int .i64 (rootSum zs t : Nat) ∧ q = .int .i64 (rootMost zs t : Nat) ∧ Below w9.heap.size w9 wr) (fun _ _ i _ => n - (intOf i).toNat)
    case atStart => exact ⟨0, Nat.zero_le _, rfl, by simp [rootSum, sumL_nil], by simp [rootMost], Below.refl _ _⟩
    case round =>
      obtain ⟨t, ht, rfl, rfl, rfl, hbe⟩ := hrel
      by_cases hlt : t < n
      · have hbt : t < zs.length := by have := HN.out; omega
        have C := CL.out wr (Below.on HB9 hbe) (t : Int)
        have cz := PZ.out wr hbe t hlt
        have sS := rootSum_succ zs t
        have sM := rootMost_succ zs t
        have r1 := RB.out t ht
        have r2 := rootMost_16 HV.out t
        have r3 := szN_le zs t
        have r4 := htN_le HV.out t
        have r5 : szN zs t ≤ 16 := by have := HN.out; omega
        clear r3
        cases hst : step zs t with
        | none =>
          have hcl := sz_root HV.out hbt hst
          have hzt := step_iff.1 hst
          have HZT := Lib.hid hzt
          rw [if_pos hzt] at sS sM
          simp only [hcl] at C
          have C := Lib.hid C
          have HSM := Lib.hid (And.intro sS sM)
          clear hcl hzt hst sS sM cz
          go_wp2_with fail
          refine C.out.mono ?_
          rintro e w10 ⟨A10, c10, rfl, _, hb10⟩
          have hbe2 := Below.on hbe hb10
          have cz := PZ.out w10 hbe2 t hlt
          rw [HZT.out] at cz
          have cs := PS.out w10 hbe2 t hlt
          have ch := PH.out w10 hbe2 t hlt
          by_cases hmx : (rootMost zs t : Int) < (htN zs t : Int)
          · go_wp2_with fail
            go_roundw
            case rel => exact ⟨t + 1, by omega, by go_num, by rw [HSM.out.1]; go_num, by rw [HSM.out.2]; go_num, hbe2⟩
            case measure => simp [intOf]; omega
          · go_wp2_with fail
            go_roundw
            case rel => exact ⟨t + 1, by omega, by go_num, by rw [HSM.out.1]; go_num, by rw [HSM.out.2]; go_num, hbe2⟩
            case measure => simp [intOf]; omega
        | some p =>
          obtain ⟨hzt, hpt, hpn⟩ := step_some (fv_in HV.out) hbt hst
          have hp : p < n := by have := HN.out; omega
          have hne : ¬ ((p : Int) = (t : Int)) := by omega
          have hzn : ¬ (zs[t]?.getD 0 = (t : Int)) := by rw [hzt]; exact hne
          rw [if_neg hzn, Nat.add_zero] at sS
          rw [if_neg hzn, Nat.max_zero] at sM
          have u1 := sz_up HV.out hbt hst
          have u2 := ht_up HV.out hbt hst
          have u3 : ¬ ((szN zs p : Int) ≤ (szN zs t : Int)) := by omega
          have u4 : ¬ ((htN zs p : Int) ≤ (htN zs t : Int)) := by omega
          have u5 : ¬ szN zs p ≤ szN zs t := by omega
          have u6 : ¬ htN zs p ≤ htN zs t := by omega
          have u7 : decide ((szN zs p : Int) ≤ (szN zs t : Int)) = false := by simp; omega
          have u8 : decide ((htN zs p : Int) ≤ (htN zs t : Int)) = false := by simp; omega
          have C := Lib.hid C
          have HSM := Lib.hid (And.intro sS sM)
          have HZT := Lib.hid hzt
          clear hzt hst sS sM cz hzn hpt hpn u1 u2
          go_wp2_with fail
          refine C.out.mono ?_
          rintro e w10 ⟨A10, c10, rfl, _, hb10⟩
          have hbe2 := Below.on hbe hb10
          have cz := PZ.out w10 hbe2 t hlt
          rw [HZT.out] at cz
          have cs := PS.out w10 hbe2 t hlt
          have ch := PH.out w10 hbe2 t hlt
          have cs2 := PS.out w10 hbe2 p hp
          have ch2 := PH.out w10 hbe2 p hp
          have hpi : (p : Int) < (n : Int) := by omega
          go_wp2_with fail
          refine wp_region_still_lit (by kernel_rfl) (by kernel_rfl) ?_
          repeat still_step

          repeat (first | still_step | (refine wpStill_want (by rfl) (fun K hK => ?_); go_simp; refine hK _ ?_; clear hK K))
          refine wpStill_nil ?_
          go_wp2_with fail
          go_roundw
          case rel => exact ⟨t + 1, by omega, by go_num, by simp [HSM.out.1], by simp [HSM.out.2], ⟨hbe2.os, hbe2.tape, hbe2.output, hbe2.size, hbe2.block⟩⟩
          case measure => simp [intOf]; omega
      · obtain rfl : t = n := by omega
        have hfs := rootSum_all HV.out
        rw [← HN.out] at hfs
        have DI := DI.out wr (Below.on HB9 hbe)
        rw [hfs]
        revert DI
        generalize rootMost zs t = M
        intro DI
        have DI := Lib.hid DI
        clear hfs
        go_wp2_with fail
        refine DI.out.mono ?_
        rintro e w10 ⟨rfl, hb10⟩
        go_wp2_with fail
        go_ret
        exact ⟨rfl, Below.on hb1 (Below.on HB9 (Below.on hbe hb10))⟩
end Go.Proofs.Ytebgnaiibomjkaa
