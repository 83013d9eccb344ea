/- The walk of FnForestAt: for every drawn timed forest and time, and another one, the law returns true. -/
import Derived.Test.YtfafgihfgdpclaaDrawCa
import Derived.Test.YtfafgihfgdpclaaClassesAt
import Derived.Test.YtfafgihfgdpclaaLr
import Derived.Deep.RegionHeld3
namespace Go.Proofs.Ytfafgihfgdpclaa
open Go.RowKit Go.Shelf

theorem atL_end {us ts : List Int} (h : tmB us ts = true) : atL us ts 24 = us := by
  obtain ⟨_, _, hok⟩ := tmB_parts h
  unfold atL
  apply List.ext_getElem
  · simp
  · intro i h1 h2
    have ho := hok i h2
    have e : us[i]?.getD 0 = us[i] := by simp [h2]
    have ht : ¬ (24 : Int) < ts[i]?.getD 0 := by
      unfold okTm at ho
      by_cases hr : us[i]?.getD 0 = (i : Int)
      · rw [if_pos hr] at ho
        have := of_decide_eq_true ho
        omega
      · rw [if_neg hr] at ho
        simp only [Bool.and_eq_true, decide_eq_true_eq] at ho
        omega
    rw [List.getElem_map, List.getElem_range, if_neg ht, e]
theorem rootsTo_mono {us ts : List Int} {m m' : Int} (h : m ≤ m') : ∀ k, k ≤ us.length → rootsTo (atL us ts m') k ≤ rootsTo (atL us ts m) k
  | 0, _ => by simp [rootsTo]
  | k + 1, hk => by
    have ih := rootsTo_mono (us := us) (ts := ts) h k (by omega)
    rw [rootsTo_succ, rootsTo_succ, atL_get (by omega), atL_get (by omega)]
    by_cases h1 : m < ts[k]?.getD 0
    · rw [if_pos h1, if_pos rfl]
      split <;> split <;> omega
    · rw [if_neg h1, if_neg (show ¬ m' < ts[k]?.getD 0 by omega)]
      omega
/-- With as many classes, or fewer. -/
theorem caN_mono {us ts : List Int} {m m' : Int} (h1 : askB us ts m = true) (h2 : askB us ts m' = true) (h : m ≤ m') : caN us ts m' ≤ caN us ts m := by
  have hv := (tmB_parts (askB_parts h1).1).1
  rw [caN_yes h1, caN_yes h2, rowsC_roots (atL_fv hv _), rowsC_roots (atL_fv hv _), atL_len, atL_len]
  have := rootsTo_mono (us := us) (ts := ts) h us.length (Nat.le_refl _)
  omega
set_option maxRecDepth 100000 in
set_option maxHeartbeats 8000000 in
theorem fnForestAt (A0 : Option Addr) (n0 c0 : Nat) (z0 : List Int) (A1 : Option Addr) (n1 c1 : Nat) (z1 : List Int) (w : World) (h0 : Row .u8 w A0 n0 c0 z0) (h1 : Row .u8 w A1 n1 c1 z1) :
    Calls Try.prog 9 #[.slice A0 n0 c0, .slice A1 n1 c1] w fun e w' => e = .returned (.bool true) ∧ Below w.heap.size w w' := by
  by_cases hl0 : 1048576 < n0
  · clear h0 h1
    go_enter Try.func9, Try.ntmps9
    go_wp2
    go_ret
    exact ⟨rfl, Below.refl _ _⟩
  by_cases hl1 : 1048576 < n1
  · clear h0 h1
    go_enter Try.func9, Try.ntmps9
    go_wp2
    go_ret
    exact ⟨rfl, Below.refl _ _⟩
  obtain ⟨b0, hc0⟩ := h0.bt
  obtain ⟨b1, hc1⟩ := h1.bt
  have D0 := Lib.hid (drawForest7_any A0 n0 c0 w.heap.size z0 w b0 (Nat.le_refl _) hc0)
  have D1 := Lib.hid (fun (w1 : World) (hb : Below w.heap.size w w1) => drawClasses7_any A1 n1 c1 w.heap.size z1 w1 (b1.below hb (Nat.le_refl _)) hb.size hc1)
  clear h0 h1 b0 b1 hc0 hc1
  go_enter Try.func9, Try.ntmps9
  go_wp2_with fail
  refine D0.out.mono ?_
  rintro e w1 ⟨v, v2, tm, xs, ss, rfl, ho, hx16, hq, hs17, hb1⟩
  obtain ⟨A, c, e1, hr⟩ := ho.form
  obtain ⟨A', c', e2, hrq⟩ := hq.form
  obtain ⟨n, hn⟩ : ∃ n, n = xs.length := ⟨_, rfl⟩
  obtain ⟨m, hm⟩ : ∃ m, m = ss.length := ⟨_, rfl⟩
  rw [← hn] at e1 hr hx16
  rw [← hm] at e2 hrq hs17
  subst e1 e2
  obtain ⟨V1, hV1⟩ : ∃ V1, V1 = w1.alloc (.cells #[.slice A n c, .slice A' m c'] 64) := ⟨_, rfl⟩
  obtain ⟨X, hX⟩ : ∃ X, X = w1.heap.size := ⟨_, rfl⟩
  have hbV1 : Below w1.heap.size w1 V1 := by rw [hV1]; exact timedBox w1 _ _
  have hXV : V1.heap[X]? = some (.cells #[.slice A n c, .slice A' m c'] 64 (0, 0)) := by rw [hV1, hX]; exact World.alloc_heap_new w1 _
  have hrV := hr.to hbV1
  have hqV := hrq.to hbV1
  have FJ := Lib.hid (fun (W' : World) (h8 : Below V1.heap.size V1 W') (k : Int) => rd2_of (implForestAt_any A A' n c m c' V1.heap.size k xs ss W' (hrV.below h8 (Nat.le_refl _)) (hqV.below h8 (Nat.le_refl _)) h8.size (by omega) (by omega)))
  have SJ := Lib.hid (fun (W' : World) (h8 : Below V1.heap.size V1 W') => rd2_of (specForestAt_any A A' n c m c' V1.heap.size tm xs ss W' (hrV.below h8 (Nat.le_refl _)) (hqV.below h8 (Nat.le_refl _)) h8.size (by omega) (by omega)))
  have CJ := Lib.hid (fun (W' : World) (h8 : Below V1.heap.size V1 W') (k : Int) => implClassesAt_any A A' n c m c' V1.heap.size k xs ss W' (hrV.below h8 (Nat.le_refl _)) (hqV.below h8 (Nat.le_refl _)) h8.size (by omega) (by omega))
  have H1 := Lib.hid (And.intro (Below.on hb1 hbV1) hXV)
  have HE1 := Lib.hid (And.intro hV1 hX)
  have HR1 := Lib.hid (And.intro hrV hn)
  have hfl := faL_len xs ss tm
  obtain ⟨⟨a1, a2⟩, _⟩ := boxTwo_cells hXV
  rw [hV1, hX] at a1 a2
  have hXb : Hid (∀ W', Below V1.heap.size V1 W' → W'.cell? ⟨X, 0, none⟩ = some (.slice A n c) ∧ W'.cell? ⟨X, 1, none⟩ = some (.slice A' m c')) := fun W' hb => (boxTwo_cells ((hb.block X (Array.getElem?_eq_some_iff.1 H1.out.2).1).trans H1.out.2)).1
  have HFL := Lib.hid (show (faL xs ss tm).length ≤ 16 by omega)
  clear hbV1 hrV hqV hr hrq ho hq hb1 D0 hn hm hs17 hXV hV1 hX hfl
  go_wp2_with fail
  rw [← HE1.out.1, ← HE1.out.2]
  refine (FJ.out V1 (Below.refl _ _) tm).mono ?_
  rintro e w2 ⟨A5, c5, rfl, hr5, hb2⟩
  obtain ⟨a1, a2⟩ := hXb.out w2 hb2
  have H2 := Lib.hid (And.intro hb2 hr5)
  clear hb2 hr5
  go_wp2_with fail
  refine (SJ.out w2 H2.out.1).mono ?_
  rintro e w3 ⟨A6, c6, rfl, hr6, hb3⟩
  have H3 := Lib.hid (And.intro hb3 hr6)
  have D1 := Lib.hid (D1.out w3 (Below.on H1.out.1 (Below.on H2.out.1 hb3)))
  clear hb3 hr6 a1 a2 SJ
  go_wp2_with fail
  refine D1.out.mono ?_
  rintro e w4 ⟨v3, v4, lt, ys, us, rfl, ho, hy16, hq, hs17, hb4⟩
  obtain ⟨A3, c3, e1, hr⟩ := ho.form
  obtain ⟨A4, c4, e2, hrq⟩ := hq.form
  obtain ⟨n3, hn⟩ : ∃ n3, n3 = ys.length := ⟨_, rfl⟩
  obtain ⟨n4, hm⟩ : ∃ n4, n4 = us.length := ⟨_, rfl⟩
  rw [← hn] at e1 hr hy16
  rw [← hm] at e2 hrq hs17
  subst e1 e2
  obtain ⟨V, hV⟩ : ∃ V, V = w4.alloc (.cells #[.slice A3 n3 c3, .slice A4 n4 c4] 64) := ⟨_, rfl⟩
  obtain ⟨Y, hY⟩ : ∃ Y, Y = w4.heap.size := ⟨_, rfl⟩
  have hbV : Below w4.heap.size w4 V := by rw [hV]; exact timedBox w4 _ _
  have hYV : V.heap[Y]? = some (.cells #[.slice A3 n3 c3, .slice A4 n4 c4] 64 (0, 0)) := by rw [hV, hY]; exact World.alloc_heap_new w4 _
  have hb3V : Below w3.heap.size w3 V := Below.on hb4 hbV
  have hb2V : Below w2.heap.size w2 V := Below.on H3.out.1 hb3V
  have hrV := hr.to hbV
  have hqV := hrq.to hbV
  have hr5 := H2.out.2.to hb2V
  have hr6 := H3.out.2.to hb3V
  have IC := Lib.hid (fun (W' : World) (h8 : Below V.heap.size V W') => implClassesAt_any A3 A4 n3 c3 n4 c4 V.heap.size lt ys us W' (hrV.below h8 (Nat.le_refl _)) (hqV.below h8 (Nat.le_refl _)) h8.size (by omega) (by omega))
  have SC := Lib.hid (fun (W' : World) (h8 : Below V.heap.size V W') => specClassesAt_any A3 A4 n3 c3 n4 c4 V.heap.size lt ys us W' (hrV.below h8 (Nat.le_refl _)) (hqV.below h8 (Nat.le_refl _)) h8.size (by omega) (by omega))
  revert IC SC
  generalize caN ys us lt = gc
  intro IC SC
  have LS := Lib.hid (fun (W' : World) (h8 : Below V.heap.size V W') => (lrSame_any A5 A6 (faL xs ss tm).length c5 c6 _ _ (faL xs ss tm) W' (hr5.below h8 (Nat.le_refl _)) (hr6.below h8 (Nat.le_refl _)) (by have := HFL.out; omega)).mono (fun e w' (h : e = .returned (.bool true) ∧ ∃ n, w' = W'.drewN n) => (show e = .returned (.bool true) ∧ Below W'.heap.size W' w' from ⟨h.1, by obtain ⟨_, q, rfl⟩ := h; exact below_drewN (Below.refl _ _) q⟩)))
  have H4 := Lib.hid (And.intro (Below.on H2.out.1 hb2V) (And.intro hYV hr5))
  have HE2 := Lib.hid (And.intro hV hY)
  have hbb : Below V.heap.size V V := Below.refl _ _
  obtain ⟨⟨a3, a4⟩, _⟩ := boxTwo_cells hYV
  clear hbV hrV hqV hr hrq ho hq hb4 D1 hn hm hy16 hs17 hYV hV hY hb3V hb2V hr5 hr6
  cases hk : askB xs ss tm with
  | false =>
    rw [faL_no hk] at LS ⊢
    have t1 : (gc != gc) = false := by simp
    have t2 : (gc == gc) = true := by simp
    clear hk
    go_wp2_with fail
    rw [← HE2.out.1, ← HE2.out.2]
    go_region_held3 (fun w' => Below V.heap.size V w' ∧ w'.cell? ⟨Y, 0, none⟩ = some (.slice A3 n3 c3) ∧ w'.cell? ⟨Y, 1, none⟩ = some (.slice A4 n4 c4))
      (first | exact held2_drew ⟨by assumption, by assumption, by assumption⟩ | exact held2_drew (by assumption) | exact held2_call (by assumption) (by assumption) (Below.size (And.left (by assumption))))
      (first | (go_at_call 33; refine (LS.out _ (‹Below V.heap.size V _ ∧ _›).1).mono ?_; rintro e w8 ⟨rfl, hb8⟩) | (go_at_call 64; refine (IC.out _ (‹Below V.heap.size V _ ∧ _›).1).mono ?_; rintro e w9 ⟨rfl, hb9⟩) | (go_at_call 65; refine (SC.out _ (‹Below V.heap.size V _ ∧ _›).1).mono ?_; rintro e w9 ⟨rfl, hb9⟩))
    have hV9 := (‹Below V.heap.size V w9 ∧ _›)
    obtain ⟨V9, rfl⟩ : ∃ V9, V9 = w9 := ⟨_, rfl⟩
    obtain ⟨hbb, a3, a4⟩ := hV9
    go_wp2_with fail
    go_region_held3 (fun w' => Below V.heap.size V w' ∧ w'.cell? ⟨Y, 0, none⟩ = some (.slice A3 n3 c3) ∧ w'.cell? ⟨Y, 1, none⟩ = some (.slice A4 n4 c4))
      (first | exact held2_drew ⟨by assumption, by assumption, by assumption⟩ | exact held2_drew (by assumption) | exact held2_call (by assumption) (by assumption) (Below.size (And.left (by assumption))))
      (first | (go_at_call 33; refine (LS.out _ (‹Below V.heap.size V _ ∧ _›).1).mono ?_; rintro e w8 ⟨rfl, hb8⟩) | (go_at_call 64; refine (IC.out _ (‹Below V.heap.size V _ ∧ _›).1).mono ?_; rintro e w9 ⟨rfl, hb9⟩) | (go_at_call 65; refine (SC.out _ (‹Below V.heap.size V _ ∧ _›).1).mono ?_; rintro e w9 ⟨rfl, hb9⟩))
    have hV9 := (‹Below V.heap.size V w9 ∧ _›).1
    have HZ := Lib.hid (Below.on H1.out.1 (Below.on H4.out.1 hV9))
    clear hV9
    go_wp2_with fail
    go_ret
    exact ⟨rfl, HZ.out⟩
  | true =>
    obtain ⟨htm, hm0, hm24⟩ := askB_parts hk
    have hv := (tmB_parts htm).1
    have hfv : fvB (faL xs ss tm) = true := by rw [faL_yes hk]; exact atL_fv hv _
    have hca : caN xs ss tm = ((rowsN (faL xs ss tm)).length : Int) := by rw [caN_yes hk, faL_yes hk, rowsN_C (atL_fv hv _)]
    have h24 : askB xs ss 24 = true := by unfold askB; rw [htm]; rfl
    have hend : faL xs ss 24 = xs := by rw [faL_yes h24, atL_end htm]
    have t1 : (gc != gc) = false := by simp
    obtain ⟨us, hus⟩ : ∃ us, us = faL xs ss tm := ⟨_, rfl⟩
    rw [← hus] at hfv hca LS HFL
    obtain ⟨l, hl⟩ : ∃ l, l = us.length := ⟨_, rfl⟩
    have hr5 : Rd V V.heap.size A5 l us := by
      have := H4.out.2.2
      rw [← hus, ← hl] at this
      exact this
    have hl16 : l ≤ 16 := by have := HFL.out; omega
    rw [← hl] at LS
    have CL := Lib.hid (fun (W' : World) (h8 : Below V.heap.size V W') => implClasses_any A5 l c5 V.heap.size us W' (hr5.below h8 (Nat.le_refl _)) h8.size (by omega))
    have VL := Lib.hid (fun (W' : World) (h8 : Below V.heap.size V W') => by
      have := implValid_any A5 l c5 V.heap.size us W' (hr5.below h8 (Nat.le_refl _)) h8.size (by omega)
      rw [hfv] at this
      exact this)
    have FE := Lib.hid (fun (W' : World) (h8 : Below V1.heap.size V1 W') => by
      have := FJ.out W' h8 24
      rw [h24, hend, ← HR1.out.2] at this
      exact this)
    have LE := Lib.hid (fun (W' : World) (h8 : Below V1.heap.size V1 W') (A7 : Option Addr) (c7 : Nat) (h7 : Rd W' W'.heap.size A7 n xs) => (lrSame_any A7 A n c7 c _ _ xs W' h7 (HR1.out.1.below h8 (Nat.le_refl _)) (by omega)).mono (fun e w' (h : e = .returned (.bool true) ∧ ∃ n, w' = W'.drewN n) => (show e = .returned (.bool true) ∧ Below W'.heap.size W' w' from ⟨h.1, by obtain ⟨_, q, rfl⟩ := h; exact below_drewN (Below.refl _ _) q⟩)))
    obtain ⟨L, hL⟩ : ∃ L, L = (rowsN us).length := ⟨_, rfl⟩
    rw [← hL] at hca
    have CK := Lib.hid (fun (W' : World) (h8 : Below V1.heap.size V1 W') => by
      have := CJ.out W' h8 tm
      rw [hca] at this
      exact this)
    have CB := Lib.hid (fun (M : Int) (hM : 0 ≤ M ∧ M ≤ tm) (W' : World) (h8 : Below V1.heap.size V1 W') => (CJ.out W' h8 M).mono (fun e w' (h : e = .returned (.int .i64 (caN xs ss M)) ∧ Below W'.heap.size W' w') => (show ∃ b : Int, e = .returned (.int .i64 b) ∧ (L : Int) ≤ b ∧ Below W'.heap.size W' w' from ⟨_, h.1, by
      have hk2 : askB xs ss M = true := by unfold askB; rw [htm, decide_eq_true (by omega)]; rfl
      have := caN_mono hk2 hk hM.2
      rw [hca] at this
      exact this, h.2⟩)))
    have hbig := rowsN_big us
    rw [← hL] at hbig
    have HL := Lib.hid (And.intro hL (And.intro hbig.2 (And.intro hm0 hm24)))
    have hL16 : L ≤ 16 := hbig.1
    have hgo : (faL xs ss tm).length = l := by rw [← hus, ← hl]
    rw [hgo]
    rw [hfv] at CL
    clear hk htm hv hfv hca h24 hend hus hl hr5 hL hbig FJ CJ hgo HFL
    go_wp2_with fail
    rw [← HE2.out.1, ← HE2.out.2]
    go_region_held3 (fun w' => Below V.heap.size V w' ∧ w'.cell? ⟨Y, 0, none⟩ = some (.slice A3 n3 c3) ∧ w'.cell? ⟨Y, 1, none⟩ = some (.slice A4 n4 c4))
      (first | exact held2_drew ⟨by assumption, by assumption, by assumption⟩ | exact held2_drew (by assumption) | exact held2_call (by assumption) (by assumption) (Below.size (And.left (by assumption))))
      (first | (go_at_call 33; refine (LS.out _ (‹Below V.heap.size V _ ∧ _›).1).mono ?_; rintro e w8 ⟨rfl, hb8⟩) | (go_at_call 64; refine (IC.out _ (‹Below V.heap.size V _ ∧ _›).1).mono ?_; rintro e w9 ⟨rfl, hb9⟩) | (go_at_call 65; refine (SC.out _ (‹Below V.heap.size V _ ∧ _›).1).mono ?_; rintro e w9 ⟨rfl, hb9⟩))
    have hV9 := (‹Below V.heap.size V w9 ∧ _›).1
    have HV9 := Lib.hid hV9
    clear hV9 hbb a3 a4 LS IC SC
    go_wp2_with fail
    refine (CL.out w9 HV9.out).mono ?_
    rintro e w10 ⟨v10, vs10, rfl, hor, hb10⟩
    obtain ⟨A8, c8, rfl, _⟩ := hor.form HL.out.2.1
    rw [← HL.out.1]
    have HV10 := Lib.hid (Below.on HV9.out hb10)
    obtain ⟨a1, a2⟩ := hXb.out w10 (Below.on H4.out.1 HV10.out)
    clear hor hb10 CL HV9
    go_wp2_with fail
    refine (FE.out w10 (Below.on H4.out.1 HV10.out)).mono ?_
    rintro e w11 ⟨A7, c7, rfl, hr7, hb11⟩
    have HV11 := Lib.hid (And.intro (Below.on HV10.out hb11) hr7)
    obtain ⟨a1, a2⟩ := hXb.out w11 (Below.on H4.out.1 HV11.out.1)
    obtain ⟨z, hz⟩ : ∃ z, z = tm - 1 := ⟨_, rfl⟩
    have hwr : IntKind.i64.wrap (tm - 1) = z := (IntWalk.i64_in _ (by have := HL.out; omega)).trans hz.symm
    have HZ := Lib.hid hz
    clear hb11 hr7 FE HV10 hz
    have CB2 := Lib.hid (CB.out (max z 0) (by have := HL.out; have := HZ.out; omega) w11 (Below.on H4.out.1 HV11.out.1))
    clear CB
    go_wp2_with fail
    refine CB2.out.mono ?_
    rintro e w12 ⟨b, rfl, hLb, hb12⟩
    have HV12 := Lib.hid (Below.on HV11.out.1 hb12)
    have HR7 := Lib.hid (HV11.out.2.to hb12)
    obtain ⟨a1, a2⟩ := hXb.out w12 (Below.on H4.out.1 HV12.out)
    clear hb12 CB2
    go_wp2_with fail
    refine (VL.out w12 HV12.out).mono ?_
    rintro e w13 ⟨rfl, hb13⟩
    have HV13 := Lib.hid (And.intro (Below.on HV12.out hb13) (HR7.out.to hb13))
    obtain ⟨a1, a2⟩ := hXb.out w13 (Below.on H4.out.1 HV13.out.1)
    clear hb13 VL
    go_wp2_with fail
    refine (CK.out w13 (Below.on H4.out.1 HV13.out.1)).mono ?_
    rintro e w14 ⟨rfl, hb14⟩
    have HV14 := Lib.hid (And.intro (Below.on HV13.out.1 hb14) (HV13.out.2.to hb14))
    obtain ⟨a1, a2⟩ := hXb.out w14 (Below.on H4.out.1 HV14.out.1)
    clear hb14 CK
    go_wp2_with fail
    refine (LE.out w14 (Below.on H4.out.1 HV14.out.1) A7 c7 HV14.out.2).mono ?_
    rintro e w15 ⟨rfl, hb15⟩
    have HW := Lib.hid (Below.on H1.out.1 (Below.on H4.out.1 (Below.on HV14.out.1 hb15)))
    clear hb15 LE
    go_wp2_with fail
    go_ret
    exact ⟨by simp, HW.out⟩
end Go.Proofs.Ytfafgihfgdpclaa
