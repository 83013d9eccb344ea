/- The walk of the law on Join: for every row of bytes the law returns true and nothing that was there has turned. -/
import Derived.Test.YtebgnaiibomjkaaSpecJoin
import Derived.Test.YtebgnaiibomjkaaJoin
import Derived.Test.YtebgnaiibomjkaaDraw11
import Derived.Test.YtebgnaiibomjkaaRdR
import Derived.Test.YtebgnaiibomjkaaMirror
import Derived.Test.YtebgnaiibomjkaaLr
namespace Go.Proofs.Ytebgnaiibomjkaa
open Go.RowKit

theorem hang_link {u : List Int} {s t : Nat} (T : Two u s t) {i : Nat} : (hang u s t)[i]?.getD 0 = if i = s then (t : Int) else u[i]?.getD 0 := by
  unfold hang
  by_cases e : i = s
  · subst e
    rw [if_pos rfl]
    simp [T.hp]
  · rw [if_neg e, List.getElem?_set, if_neg (fun h => e h.symm)]
theorem hang_deep {u : List Int} {s t : Nat} (T : Two u s t) : deepN (hang u s t) ≤ deepN u + 1 := by
  unfold deepN
  rw [if_pos (hang_fv T), if_pos T.fv, hang_len]
  have : deepTo (hang u s t) u.length ≤ deepTo u u.length + 1 := deepTo_le fun j hj => by
    have h1 := hang_way T hj
    have h2 := deepTo_up u hj
    have e1 : wayOf (hang u s t) j = way (hang u s t) u.length j := by unfold wayOf; rw [hang_len]
    have e2 : wayOf u j = way u u.length j := rfl
    rw [e1, h1]
    rw [e2] at h2
    split
    · simp
      omega
    · omega
  omega
theorem deepN_range {u : List Int} (h : fvB u = true) : 0 ≤ deepN u ∧ deepN u ≤ 16 := by
  unfold deepN
  rw [if_pos h]
  have h16 := (fv_parts h).2.1
  have : deepTo u u.length ≤ 16 := deepTo_le fun j hj => by
    have := (way_len u u.length j).2
    unfold wayOf
    omega
  omega
/-- What Join has done, as one link more. -/
theorem join_hung {u : List Int} {r a b : Int} (h : joinB u r a b = true) : ∃ i j s t : Nat, a = i ∧ b = j ∧ itemB u (i : Int) = true ∧ itemB u (j : Int) = true ∧ Two u s t ∧ joinN u r a b = hang u s t ∧ ((s = rootI u i ∧ t = rootI u j) ∨ (s = rootI u j ∧ t = rootI u i)) := by
  obtain ⟨ia, ib, hr3, hne⟩ := joinB_parts h
  obtain ⟨i, rfl⟩ := Int.eq_ofNat_of_zero_le (item_lt ia).1
  obtain ⟨j, rfl⟩ := Int.eq_ofNat_of_zero_le (item_lt ib).1
  have hf := item_fv ia
  have hi : i < u.length := by have := (item_lt ia).2; omega
  have hj : j < u.length := by have := (item_lt ib).2; omega
  have e := joinN_yes h
  simp only [Int.toNat_natCast] at hne e
  have T := roots_two hf hi hj hne
  unfold joinL joinTo at e
  rw [if_neg hne] at e
  cases hu : underB u r (rootI u i) (rootI u j) with
  | true =>
    rw [hu, if_pos rfl] at e
    exact ⟨i, j, _, _, rfl, rfl, ia, ib, T, e, .inl ⟨rfl, rfl⟩⟩
  | false =>
    rw [hu] at e
    exact ⟨i, j, _, _, rfl, rfl, ia, ib, T.symm, e, .inr ⟨rfl, rfl⟩⟩
/-- All of one item that the law asks. -/
theorem hung_item {u : List Int} {s t i j : Nat} (T : Two u s t) (ia : itemB u (i : Int) = true) (ib : itemB u (j : Int) = true) (hst : (s = rootI u i ∧ t = rootI u j) ∨ (s = rootI u j ∧ t = rootI u i)) {k : Nat} (hk : k < u.length) :
    ((k : Int) ∈ clsN u (i : Int) ↔ rootI u k = rootI u i) ∧ ((k : Int) ∈ clsN u (j : Int) ↔ rootI u k = rootI u j) ∧
    togB (hang u s t) (i : Int) (k : Int) = decide (rootI u k = rootI u i ∨ rootI u k = rootI u j) ∧
    (¬ (rootI u k = rootI u i ∨ rootI u k = rootI u j) → rootN (hang u s t) (k : Int) = rootN u (k : Int)) := by
  have hi : i < u.length := by have := (item_lt ia).2; omega
  have hj : j < u.length := by have := (item_lt ib).2; omega
  have hf2 := hang_fv T
  have ik : itemB u (k : Int) = true := item_of T.fv (by omega) (by omega)
  have ik2 : itemB (hang u s t) (k : Int) = true := item_of hf2 (by omega) (by rw [hang_len]; omega)
  have ii2 : itemB (hang u s t) (i : Int) = true := item_of hf2 (by omega) (by rw [hang_len]; omega)
  have hne := T.ne
  refine ⟨?_, ?_, ?_, ?_⟩
  · rw [clsN_yes ia, mem_cls hk, rootN_yes ia]
    omega
  · rw [clsN_yes ib, mem_cls hk, rootN_yes ib]
    omega
  · rw [togB_yes ii2, rootN_yes ii2, rootN_yes ik2, hang_root T hi, hang_root T hk, Bool.eq_iff_iff, beq_iff_eq, decide_eq_true_eq]
    split <;> split <;> omega
  · intro h
    rw [rootN_yes ik2, rootN_yes ik, hang_root T hk, if_neg (by omega)]
theorem rd_cell {w : World} {B b o n k : Nat} {zs : List Int} (h : Rd w B (some ⟨b, o, none⟩) n zs) (hk : k < n) : w.cell? ⟨b, o + k, none⟩ = some (.int .i64 (zs[k]?.getD 0)) := by
  obtain ⟨b', o', e, _, hc⟩ := h.2 (by omega)
  injection e with e
  injection e with e1 e2
  subst e1
  subst e2
  exact hc k hk
set_option maxRecDepth 100000 in
set_option maxHeartbeats 8000000 in
theorem fnJoin (A0 : Option Addr) (n0 c0 : Nat) (z0 : List Int) (w : World) (h0 : Row .u8 w A0 n0 c0 z0) :
    Calls Try.prog 3 #[.slice A0 n0 c0] w fun e w' => e = .returned (.bool true) ∧ Below w.heap.size w w' := by
  by_cases hl0 : 1048576 < n0
  · clear h0
    go_enter Try.func3, Try.ntmps3
    go_wp2
    go_ret
    exact ⟨rfl, Below.refl _ _⟩
  obtain ⟨b0, hc0⟩ := h0.bt
  have D0 := Lib.hid (drawJoin_any A0 n0 c0 w.heap.size z0 w b0 (Nat.le_refl _) hc0)
  clear h0 b0 hc0
  go_enter Try.func3, Try.ntmps3
  go_wp2_with fail
  refine D0.out.mono ?_
  rintro e w1 ⟨v, zs, r, a, b, rfl, ho, hl, hrr, ha, hb, hb1⟩
  obtain ⟨A, c, rfl, hr⟩ := ho.form
  obtain ⟨n, hn⟩ : ∃ n, n = zs.length := ⟨_, rfl⟩
  rw [← hn] at hr hl
  rw [← hn]
  clear ho D0 hrr ha hb
  have RI := fun (w2 : World) (hb2 : Below w1.heap.size w1 w2) => rd2_of (implJoin_any A n c w1.heap.size zs r a b w2 (hr.below hb2 (Nat.le_refl _)) hb2.size (by omega))
  have RS := fun (w2 : World) (hb2 : Below w1.heap.size w1 w2) => rd2_of (specJoin_any A n c w1.heap.size zs r a b w2 (hr.below hb2 (Nat.le_refl _)) hb2.size (by omega))
  cases hv : joinB zs r a b with
  | false =>
    rw [hv, joinN_no hv] at RI RS
    have RI := Lib.hid RI
    have RS := Lib.hid RS
    clear hv hn hr
    go_wp2_with fail
    refine (RI.out _ (by repeat (first | assumption | exact Below.refl _ _ | refine Below.on ?_ (by assumption)))).mono ?_
    rintro e w2 ⟨A2, c2, rfl, hr2, hb2⟩
    go_wp2_with fail
    refine (RS.out _ (by repeat (first | assumption | exact Below.refl _ _ | refine Below.on ?_ (by assumption)))).mono ?_
    rintro e w3 ⟨A3, c3, rfl, hr3, hb3⟩
    have hr2 := hr2.to hb3
    go_wp2_with fail
    refine (lrSame_any _ _ _ _ _ _ _ [] _ hr2 hr3 (by simp)).mono ?_
    rintro e w4 ⟨rfl, q1, rfl⟩
    go_wp2_with fail
    refine (lrSame_any _ _ _ _ _ _ _ [] _ (hr2.drewN q1) (hr3.drewN q1) (by simp)).mono ?_
    rintro e w5 ⟨rfl, q2, rfl⟩
    go_wp2_with fail
    go_ret
    exact ⟨rfl, below_drewN (show Below w.heap.size w w3 from (by repeat (first | assumption | exact Below.refl _ _ | refine Below.on ?_ (by assumption)))) _⟩
  | true =>
    obtain ⟨i, j, s, t, rfl, rfl, ia, ib, T, eJ, hst⟩ := join_hung hv
    rw [hv, eJ] at RI RS
    have lx : (hang zs s t).length = n := (hang_len _ _ _).trans hn.symm
    rw [lx] at RI RS
    have RI := Lib.hid RI
    have RS := Lib.hid RS
    have CA := Lib.hid (fun (w2 : World) (hb2 : Below w1.heap.size w1 w2) => rd2_of (implClass_any A n c w1.heap.size zs i w2 (hr.below hb2 (Nat.le_refl _)) hb2.size (by omega)))
    have CB := Lib.hid (fun (w2 : World) (hb2 : Below w1.heap.size w1 w2) => rd2_of (implClass_any A n c w1.heap.size zs j w2 (hr.below hb2 (Nat.le_refl _)) hb2.size (by omega)))
    have HR := Lib.hid hr
    have HT := Lib.hid T
    have HI := Lib.hid (And.intro ia (And.intro ib hst))
    have HN := Lib.hid hn
    have HLX := Lib.hid lx
    clear hv hn hr ia ib hst T eJ lx
    go_wp2_with fail
    refine (RI.out _ (by repeat (first | assumption | exact Below.refl _ _ | refine Below.on ?_ (by assumption)))).mono ?_
    rintro e w2 ⟨A2, c2, rfl, hr2, hb2⟩
    go_wp2_with fail
    refine (RS.out _ (by repeat (first | assumption | exact Below.refl _ _ | refine Below.on ?_ (by assumption)))).mono ?_
    rintro e w3 ⟨A3, c3, rfl, hr3, hb3⟩
    have hr2 := hr2.to hb3
    go_wp2_with fail
    refine (lrSame_any _ _ _ _ _ _ _ _ _ hr2 hr3 (by omega)).mono ?_
    rintro e w4 ⟨rfl, q1, rfl⟩
    have hbd : Below w3.heap.size w3 (w3.drewN q1) := below_drewN (Below.refl _ _) q1
    have hr2 := hr2.to hbd
    clear hr3
    go_wp2_with fail
    refine (CA.out _ (by repeat (first | assumption | exact Below.refl _ _ | refine Below.on ?_ (by assumption)))).mono ?_
    rintro e w5 ⟨A5, c5, rfl, hr5, hb5⟩
    have hr2 := hr2.to hb5
    go_wp2_with fail
    refine (CB.out _ (by repeat (first | assumption | exact Below.refl _ _ | refine Below.on ?_ (by assumption)))).mono ?_
    rintro e w6 ⟨A6, c6, rfl, hr6, hb6⟩
    have hr2 := hr2.to hb6
    have hr5 := hr5.to hb6
    go_wp2_with fail
    have HB6 := Lib.hid (show Below w1.heap.size w1 w6 from (by repeat (first | assumption | exact Below.refl _ _ | refine Below.on ?_ (by assumption))))
    have hn1 : 1 ≤ n := by have := HT.out.hp; have := HN.out; omega
    obtain ⟨o1, p1, e1, _, _⟩ := HR.out.2 hn1
    subst e1
    obtain ⟨o2, p2, e2, _, _⟩ := hr2.2 hn1
    subst e2
    have HR2 := Lib.hid hr2
    have X5 := Lib.hid (fun (W : World) (hb : Below w6.heap.size w6 W) (x : Int) => lrHas_any A5 _ c5 _ (clsN zs i) x W (hr5.below hb (Nat.le_refl _)) (by have := clsN_len16 zs i; omega))
    have X6 := Lib.hid (fun (W : World) (hb : Below w6.heap.size w6 W) (x : Int) => lrHas_any A6 _ c6 _ (clsN zs j) x W (hr6.below hb (Nat.le_refl _)) (by have := clsN_len16 zs j; omega))
    have TG := Lib.hid (fun (W : World) (hb : Below w6.heap.size w6 W) (x : Int) => implTog_any (some ⟨o2, p2, none⟩) n c2 _ (hang zs s t) i x W (hr2.below hb (Nat.le_refl _)) hb.size (by omega))
    have R2 := Lib.hid (fun (W : World) (hb : Below w6.heap.size w6 W) (x : Int) => implRoot_any (some ⟨o2, p2, none⟩) n c2 _ (hang zs s t) x W (hr2.below hb (Nat.le_refl _)) hb.size (by omega))
    have R1 := Lib.hid (fun (W : World) (hb : Below w6.heap.size w6 W) (x : Int) => implRoot_any (some ⟨o1, p1, none⟩) n c _ zs x W (HR.out.below (Below.on HB6.out hb) (Nat.le_refl _)) (Below.on HB6.out hb).size (by omega))
    have V2 := Lib.hid (fun (W : World) (hb : Below w6.heap.size w6 W) => implValid_any (some ⟨o2, p2, none⟩) n c2 _ (hang zs s t) W (hr2.below hb (Nat.le_refl _)) hb.size (by omega))
    have E2 := Lib.hid (fun (W : World) (hb : Below w6.heap.size w6 W) => implDeep_any (some ⟨o2, p2, none⟩) n c2 _ (hang zs s t) W (hr2.below hb (Nat.le_refl _)) hb.size (by omega))
    have E1 := Lib.hid (fun (W : World) (hb : Below w6.heap.size w6 W) => implDeep_any (some ⟨o1, p1, none⟩) n c _ zs W (HR.out.below (Below.on HB6.out hb) (Nat.le_refl _)) (Below.on HB6.out hb).size (by omega))
    have HB1 := Lib.hid hb1
    have H0 : Hid (0 = if s < 0 then 1 else 0) := by
      show _ = _
      simp
    clear hr2 hr5 hr6 hb1 hb2 hb3 hb5 hb6 hbd
    go_loopw [15, 84] (fun ch ix wr => ∃ k : Nat, k ≤ n ∧ ix = .int .i64 k ∧ (∃ m : Nat, m ≤ 1 ∧ ch = .int .i64 m ∧ Hid (m = if s < k then 1 else 0)) ∧ Below w6.heap.size w6 wr) (fun _ ix _ => n - (intOf ix).toNat)
    case atStart => exact ⟨0, Nat.zero_le _, rfl, ⟨0, by omega, rfl, H0⟩, Below.refl _ _⟩
    case round =>
      obtain ⟨k, hk, rfl, ⟨m, hm, rfl, HM⟩, hbe⟩ := hrel
      by_cases hlt : k < n
      · have hkz : k < zs.length := by have := HN.out; omega
        have F := hung_item HT.out HI.out.1 HI.out.2.1 HI.out.2.2 hkz
        have g1 := rd_cell (HR.out.below (Below.on HB6.out hbe) (Nat.le_refl _)) hlt
        have g2 := rd_cell (HR2.out.below hbe (Nat.le_refl _)) hlt
        rw [hang_link HT.out] at g2
        have hbd : Below w6.heap.size w6 wr.drew := ⟨hbe.os, hbe.tape, hbe.output, hbe.size, hbe.block⟩
        have HBD := Lib.hid hbd
        have kk : (k : Int) < (n : Int) := by omega
        have L5 := X5.out wr.drew hbd (k : Int)
        have L6 := X6.out wr.drew hbd (k : Int)
        have LT := TG.out wr.drew hbd (k : Int)
        have LR := fun (W : World) (hb : Below wr.drew.heap.size wr.drew W) => R2.out W (Below.on hbd hb) (k : Int)
        have LR1 := fun (W : World) (hb : Below wr.drew.heap.size wr.drew W) => R1.out W (Below.on hbd hb) (k : Int)
        rw [F.2.2.1] at LT
        by_cases h1 : rootI zs k = rootI zs i
        · rw [decide_eq_true (F.1.2 h1)] at L5
          rw [decide_eq_true (Or.inl h1)] at LT
          have L5 := Lib.hid L5
          have LT := Lib.hid LT
          clear F L6 LR LR1 h1 hbd hbe
          by_cases hks : k = s
          · obtain rfl : m = 0 := by rw [HM.out, if_neg (by omega)]
            have HM2 : Hid (1 = if s < k + 1 then 1 else 0) := by
              show _ = _
              rw [if_pos (by omega)]
            have hz : zs[k]?.getD 0 = (k : Int) := by rw [hks]; exact step_none HT.out.rp
            have t1 : ((k : Int) != (t : Int)) = true := by
              have := HT.out.ne
              simp
              omega
            rw [if_pos hks] at g2
            rw [hz] at g1
            clear hz hks HM
            go_wp2
            go_region
            go_wp2_with fail
            refine L5.out.mono ?_
            rintro e w7 ⟨rfl, hw⟩
            subst hw
            go_wp2_with fail
            refine LT.out.mono ?_
            rintro e w8 ⟨rfl, hb8⟩
            have HF := Lib.hid (Below.on HBD.out hb8)
            clear hb8
            go_wp2_with fail
            go_roundw
            case rel => exact ⟨k + 1, by omega, by go_num, ⟨_, by omega, by go_num, HM2⟩, HF.out⟩
            case measure => simp [intOf]; omega
          · have HM2 : Hid (m = if s < k + 1 then 1 else 0) := by
              show _ = _
              rw [HM.out]
              by_cases e : s < k
              · rw [if_pos e, if_pos (by omega)]
              · rw [if_neg e, if_neg (by omega)]
            rw [if_neg hks] at g2
            obtain ⟨y, hy⟩ : ∃ y, y = zs[k]?.getD 0 := ⟨_, rfl⟩
            rw [← hy] at g1 g2
            have t1 : (y != y) = false := by simp
            clear hy hks HM
            go_wp2
            go_region
            go_wp2_with fail
            refine L5.out.mono ?_
            rintro e w7 ⟨rfl, hw⟩
            subst hw
            go_wp2_with fail
            refine LT.out.mono ?_
            rintro e w8 ⟨rfl, hb8⟩
            have HF := Lib.hid (Below.on HBD.out hb8)
            clear hb8
            go_wp2_with fail
            go_roundw
            case rel => exact ⟨k + 1, by omega, by go_num, ⟨_, by omega, by go_num, HM2⟩, HF.out⟩
            case measure => simp [intOf]; omega
        · rw [decide_eq_false (fun h => h1 (F.1.1 h))] at L5
          by_cases h2 : rootI zs k = rootI zs j
          · rw [decide_eq_true (F.2.1.2 h2)] at L6
            rw [decide_eq_true (Or.inr h2)] at LT
            have L5 := Lib.hid L5
            have L6 := Lib.hid L6
            have LT := Lib.hid LT
            clear F LR LR1 h1 h2 hbd hbe
            by_cases hks : k = s
            · obtain rfl : m = 0 := by rw [HM.out, if_neg (by omega)]
              have HM2 : Hid (1 = if s < k + 1 then 1 else 0) := by
                show _ = _
                rw [if_pos (by omega)]
              have hz : zs[k]?.getD 0 = (k : Int) := by rw [hks]; exact step_none HT.out.rp
              have t1 : ((k : Int) != (t : Int)) = true := by
                have := HT.out.ne
                simp
                omega
              rw [if_pos hks] at g2
              rw [hz] at g1
              clear hz hks HM
              go_wp2
              go_region
              go_wp2_with fail
              refine L5.out.mono ?_
              rintro e w7 ⟨rfl, hw⟩
              subst hw
              go_wp2_with fail
              refine L6.out.mono ?_
              rintro e w7 ⟨rfl, hw⟩
              subst hw
              go_wp2_with fail
              refine LT.out.mono ?_
              rintro e w8 ⟨rfl, hb8⟩
              have HF := Lib.hid (Below.on HBD.out hb8)
              clear hb8
              go_wp2_with fail
              go_roundw
              case rel => exact ⟨k + 1, by omega, by go_num, ⟨_, by omega, by go_num, HM2⟩, HF.out⟩
              case measure => simp [intOf]; omega
            · have HM2 : Hid (m = if s < k + 1 then 1 else 0) := by
                show _ = _
                rw [HM.out]
                by_cases e : s < k
                · rw [if_pos e, if_pos (by omega)]
                · rw [if_neg e, if_neg (by omega)]
              rw [if_neg hks] at g2
              obtain ⟨y, hy⟩ : ∃ y, y = zs[k]?.getD 0 := ⟨_, rfl⟩
              rw [← hy] at g1 g2
              have t1 : (y != y) = false := by simp
              clear hy hks HM
              go_wp2
              go_region
              go_wp2_with fail
              refine L5.out.mono ?_
              rintro e w7 ⟨rfl, hw⟩
              subst hw
              go_wp2_with fail
              refine L6.out.mono ?_
              rintro e w7 ⟨rfl, hw⟩
              subst hw
              go_wp2_with fail
              refine LT.out.mono ?_
              rintro e w8 ⟨rfl, hb8⟩
              have HF := Lib.hid (Below.on HBD.out hb8)
              clear hb8
              go_wp2_with fail
              go_roundw
              case rel => exact ⟨k + 1, by omega, by go_num, ⟨_, by omega, by go_num, HM2⟩, HF.out⟩
              case measure => simp [intOf]; omega
          · have hno : ¬ (rootI zs k = rootI zs i ∨ rootI zs k = rootI zs j) := fun h => h.elim h1 h2
            rw [decide_eq_false (fun h => h2 (F.2.1.1 h))] at L6
            rw [decide_eq_false hno] at LT
            rw [F.2.2.2 hno] at LR
            obtain ⟨yy, hyy⟩ : ∃ yy, yy = rootN zs (k : Int) := ⟨_, rfl⟩
            rw [← hyy] at LR LR1
            have t2 : (yy != yy) = false := by simp
            have L5 := Lib.hid L5
            have L6 := Lib.hid L6
            have LT := Lib.hid LT
            have LR := Lib.hid LR
            have LR1 := Lib.hid LR1
            clear F hyy h1 h2 hno hbd hbe
            by_cases hks : k = s
            · obtain rfl : m = 0 := by rw [HM.out, if_neg (by omega)]
              have HM2 : Hid (1 = if s < k + 1 then 1 else 0) := by
                show _ = _
                rw [if_pos (by omega)]
              have hz : zs[k]?.getD 0 = (k : Int) := by rw [hks]; exact step_none HT.out.rp
              have t1 : ((k : Int) != (t : Int)) = true := by
                have := HT.out.ne
                simp
                omega
              rw [if_pos hks] at g2
              rw [hz] at g1
              clear hz hks HM
              go_wp2
              go_region
              go_wp2_with fail
              refine L5.out.mono ?_
              rintro e w7 ⟨rfl, hw⟩
              subst hw
              go_wp2_with fail
              refine L6.out.mono ?_
              rintro e w7 ⟨rfl, hw⟩
              subst hw
              go_wp2_with fail
              refine LT.out.mono ?_
              rintro e w8 ⟨rfl, hb8⟩
              go_wp2_with fail
              refine (LR.out _ hb8).mono ?_
              rintro e w9 ⟨rfl, hb9⟩
              go_wp2_with fail
              refine (LR1.out _ (Below.on hb8 hb9)).mono ?_
              rintro e w10 ⟨rfl, hb10⟩
              have HF := Lib.hid (Below.on HBD.out (Below.on hb8 (Below.on hb9 hb10)))
              clear hb8 hb9 hb10
              go_wp2_with fail
              go_roundw
              case rel => exact ⟨k + 1, by omega, by go_num, ⟨_, by omega, by go_num, HM2⟩, HF.out⟩
              case measure => simp [intOf]; omega
            · have HM2 : Hid (m = if s < k + 1 then 1 else 0) := by
                show _ = _
                rw [HM.out]
                by_cases e : s < k
                · rw [if_pos e, if_pos (by omega)]
                · rw [if_neg e, if_neg (by omega)]
              rw [if_neg hks] at g2
              obtain ⟨y, hy⟩ : ∃ y, y = zs[k]?.getD 0 := ⟨_, rfl⟩
              rw [← hy] at g1 g2
              have t1 : (y != y) = false := by simp
              clear hy hks HM
              go_wp2
              go_region
              go_wp2_with fail
              refine L5.out.mono ?_
              rintro e w7 ⟨rfl, hw⟩
              subst hw
              go_wp2_with fail
              refine L6.out.mono ?_
              rintro e w7 ⟨rfl, hw⟩
              subst hw
              go_wp2_with fail
              refine LT.out.mono ?_
              rintro e w8 ⟨rfl, hb8⟩
              go_wp2_with fail
              refine (LR.out _ hb8).mono ?_
              rintro e w9 ⟨rfl, hb9⟩
              go_wp2_with fail
              refine (LR1.out _ (Below.on hb8 hb9)).mono ?_
              rintro e w10 ⟨rfl, hb10⟩
              have HF := Lib.hid (Below.on HBD.out (Below.on hb8 (Below.on hb9 hb10)))
              clear hb8 hb9 hb10
              go_wp2_with fail
              go_roundw
              case rel => exact ⟨k + 1, by omega, by go_num, ⟨_, by omega, by go_num, HM2⟩, HF.out⟩
              case measure => simp [intOf]; omega
      · obtain rfl : k = n := by omega
        obtain rfl : m = 1 := by
          have := HT.out.hp
          have := HN.out
          rw [HM.out, if_pos (by omega)]
        have hx := hang_fv HT.out
        have v2 := fun (W : World) (hb : Below wr.heap.size wr W) => V2.out W (Below.on hbe hb)
        have d2 := fun (W : World) (hb : Below wr.heap.size wr W) => E2.out W (Below.on hbe hb)
        have d1 := fun (W : World) (hb : Below wr.heap.size wr W) => E1.out W (Below.on hbe hb)
        rw [hx] at v2
        have r1 := deepN_range HT.out.fv
        have r2 := deepN_range hx
        have hdd := hang_deep HT.out
        obtain ⟨da, hda⟩ : ∃ da, da = deepN zs := ⟨_, rfl⟩
        obtain ⟨db, hdb⟩ : ∃ db, db = deepN (hang zs s t) := ⟨_, rfl⟩
        rw [← hda] at d1 r1 hdd
        rw [← hdb] at d2 r2 hdd
        have hle : db ≤ da + 1 + da := by omega
        have V := Lib.hid v2
        have D2 := Lib.hid d2
        have D1 := Lib.hid d1
        have HBE := Lib.hid hbe
        clear hda hdb hdd hx v2 d2 d1 hbe
        go_wp2_with fail
        refine (V.out _ (Below.refl _ _)).mono ?_
        rintro e w7 ⟨rfl, hb7⟩
        go_wp2_with fail
        refine (D2.out _ hb7).mono ?_
        rintro e w8 ⟨rfl, hb8⟩
        go_wp2_with fail
        refine (D1.out _ (Below.on hb7 hb8)).mono ?_
        rintro e w9 ⟨rfl, hb9⟩
        go_wp2_with fail
        refine (D1.out _ (Below.on hb7 (Below.on hb8 hb9))).mono ?_
        rintro e w10 ⟨rfl, hb10⟩
        have HF := Lib.hid (Below.on HB1.out (Below.on HB6.out (Below.on HBE.out (Below.on hb7 (Below.on hb8 (Below.on hb9 hb10))))))
        clear hb7 hb8 hb9 hb10
        go_wp2_with fail
        go_ret
        exact ⟨rfl, HF.out⟩
end Go.Proofs.Ytebgnaiibomjkaa
