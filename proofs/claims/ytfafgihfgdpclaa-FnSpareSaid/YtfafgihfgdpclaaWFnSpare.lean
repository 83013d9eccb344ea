/- The walk of FnSpare: for every drawn number of items and pairs the law returns true. -/
import Derived.Test.YtfafgihfgdpclaaTimesLaw
import Derived.Test.YtfafgihfgdpclaaSinceAt
import Derived.Test.YtfafgihfgdpclaaLr
import Derived.Deep.RegionHeld3
namespace Go.Proofs.Ytfafgihfgdpclaa
open Go.RowKit Go.Shelf

/-- Each time is that of a useful pair. -/
theorem tm_use {p : Nat} {ps : List (Nat × Nat)} (h1 : 1 ≤ p) (h2 : p ≤ 16) (hp : inP p ps) : ∀ k, k ≤ ps.length → ∀ i, i < p → 0 < (tmTo p ps k)[i]?.getD 0 → (tmTo p ps k)[i]?.getD 0 - 1 ∈ useTo (roots p) 1 ps k
  | 0, _, i, hi, h => by
    have e : (tmTo p ps 0)[i]?.getD 0 = 0 := by simp [tmTo, hi]
    omega
  | k + 1, hk, i, hi, h => by
    have ih := tm_use h1 h2 hp k (by omega) i hi
    cases hu : useB (roots p) 1 ps k with
    | false =>
      rw [tmTo_no hu] at h ⊢
      rw [useTo_no hu]
      exact ih h
    | true =>
      obtain ⟨T, _⟩ := upk_yes h1 h2 hp (by omega) hu
      have hl := upk_len p ps k
      have hP := T.hp
      have tg : (tmTo p ps (k + 1))[i]?.getD 0 = if rk p ps k = i then ((k : Int) + 1) else (tmTo p ps k)[i]?.getD 0 := by
        rw [tmTo_yes hu]
        exact set_getD (by rw [tmTo_len]; omega)
      rw [useTo_yes hu, List.mem_append, List.mem_singleton]
      rw [tg] at h ⊢
      by_cases hr : rk p ps k = i
      · rw [if_pos hr]
        right
        omega
      · rw [if_neg hr] at h ⊢
        exact .inl (ih h)
/-- Since when an item is with the one above it. -/
theorem since_link {us ts : List Int} (h : tmB us ts = true) {i y : Nat} (hi : i < us.length) (hy : us[i]?.getD 0 = (y : Int)) (hne : y ≠ i) {x : Nat} (hx : ts[i]?.getD 0 = (x : Int)) : sinceN us ts (i : Int) (y : Int) = (x : Int) := by
  obtain ⟨hv, hl, hok⟩ := tmB_parts h
  have hin := fv_in hv i hi
  have hyl : y < us.length := by omega
  have ho := hok i hi
  rw [okTm_link hy hne] at ho
  simp only [Bool.and_eq_true, decide_eq_true_eq] at ho
  have hst : step us i = some y := by
    unfold step nx
    rw [hy, if_neg (by omega), Int.toNat_natCast]
  refine since_at h (by omega) ?_ fun j hj => ?_
  · unfold tgAt
    rw [tog_iff (atL_fv hv _), atL_len]
    refine ⟨by omega, by omega, ?_⟩
    rw [Int.toNat_natCast, Int.toNat_natCast]
    have hs2 : step (atL us ts (x : Int)) i = some y := by rw [step_atL hi, if_neg (by omega), hst]
    have hfv := atL_fv hv (ts := ts) (x : Int)
    unfold rootI
    rw [wayOf_cons hfv (by rw [atL_len]; exact hi) hs2]
    unfold lastOf
    have hne2 : wayOf (atL us ts (x : Int)) y ≠ [] := fun e => by
      have := way_self (atL us ts (x : Int)) y
      unfold wayOf at e
      rw [e] at this
      cases this
    rw [List.getLast?_cons_of_ne_nil hne2]
    cases hg : (wayOf (atL us ts (x : Int)) y).getLast? with
    | none => exact absurd (List.getLast?_eq_none_iff.1 hg) hne2
    | some z => rfl
  · cases e : tgAt us ts (i : Int) (y : Int) j with
    | false => rfl
    | true =>
      exfalso
      unfold tgAt at e
      rw [tog_iff (atL_fv hv _)] at e
      have e := e.2.2
      rw [Int.toNat_natCast, Int.toNat_natCast] at e
      have hfv := atL_fv hv (ts := ts) (j : Int)
      have hs0 : step (atL us ts (j : Int)) i = none := by rw [step_atL hi, if_pos (by omega)]
      rw [rootI_root hfv hs0] at e
      have hyl2 : y < (atL us ts (j : Int)).length := by rw [atL_len]; exact hyl
      obtain ⟨pre, _, h2, _⟩ := last_path (i := y) (fv_path hfv hyl2) (by intro e2; have := way_self (atL us ts (j : Int)) y; rw [e2] at this; cases this)
      have hr : lastOf y (way (atL us ts (j : Int)) (atL us ts (j : Int)).length y) = rootI (atL us ts (j : Int)) y := rfl
      rw [hr, ← e] at h2
      have hp := path_join (path_sub (atL_sub_all us ts (j : Int)) h2) (fv_path hv hi)
      have hw := path_uniq (fv_path hv hyl) hp
      have hmem : i ∈ wayOf us y := by
        unfold wayOf
        rw [hw]
        exact List.mem_append_right _ (way_self us i)
      have hnd := way_nodup hv hi
      have hc := wayOf_cons hv hi hst
      unfold wayOf at hc hmem
      rw [hc] at hnd
      exact (List.nodup_cons.1 hnd).1 hmem
set_option maxRecDepth 100000 in
set_option maxHeartbeats 8000000 in
theorem fnSpare (A0 : Option Addr) (n0 c0 : Nat) (z0 : List Int) (w : World) (h0 : Row .u8 w A0 n0 c0 z0) :
    Calls Try.prog 12 #[.slice A0 n0 c0] w fun e w' => e = .returned (.bool true) ∧ Below w.heap.size w w' := by
  by_cases hl0 : 1048576 < n0
  · clear h0
    go_enter Try.func12, Try.ntmps12
    go_wp2
    go_ret
    exact ⟨rfl, Below.refl _ _⟩
  obtain ⟨b0, hc0⟩ := h0.bt
  have D0 := Lib.hid (drawTimedOf_any A0 n0 c0 w.heap.size z0 w b0 (Nat.le_refl _) hc0)
  clear h0 b0 hc0
  go_enter Try.func12, Try.ntmps12
  go_wp2_with fail
  refine D0.out.mono ?_
  rintro e w1 ⟨n, v, qs, rfl, hn17, hq, hlq, hb1⟩
  obtain ⟨A', c', rfl, hrq⟩ := hq.form
  obtain ⟨m, hm⟩ : ∃ m, m = qs.length := ⟨_, rfl⟩
  rw [← hm] at hrq hlq
  rw [← hm]
  clear hq D0
  have IT := tm_read' (implTimedOf_any (n : Int) A' m c' w1.heap.size qs w1 hrq (Nat.le_refl _) (by omega))
  have ST := fun (w2 : World) (hb2 : Below w1.heap.size w1 w2) => tm_read (specTimedOf_any (n : Int) A' m c' w1.heap.size qs w2 (hrq.below hb2 (Nat.le_refl _)) hb2.size (by omega))
  have IU := fun (w2 : World) (hb2 : Below w1.heap.size w1 w2) => rd2_of (implUseful_any (n : Int) A' m c' w1.heap.size qs w2 (hrq.below hb2 (Nat.le_refl _)) hb2.size (by omega))
  cases hv : logB (n : Int) qs with
  | false =>
    rw [hv] at IT ST
    have IT := Lib.hid IT
    have ST := Lib.hid ST
    have HB1 := Lib.hid hb1
    clear IU hrq hv hm hb1
    go_wp2_with fail
    refine IT.out.mono ?_
    rintro e w2 ⟨A2, c2, A3, c3, rfl, _, _, hb2⟩
    have hbV : Below w2.heap.size w2 (w2.alloc (.cells #[.slice A2 (logUp (n : Int) qs).length c2, .slice A3 (tmAt (n : Int) qs).length c3] 64)) := (Below.refl _ _).alloc (Nat.le_refl _) _
    have HB2 := Lib.hid (Below.on hb2 hbV)
    clear hb2 hbV
    go_wp2_with fail
    refine (ST.out _ HB2.out).mono ?_
    rintro e w3 ⟨A4, c4, A5, c5, rfl, _, _, hb3⟩
    have HB3 := Lib.hid ((Below.on HB1.out (Below.on HB2.out hb3)).alloc (Below.on HB1.out (Below.on HB2.out hb3)).size (.cells #[.slice A4 (logUp (n : Int) qs).length c4, .slice A5 (tmAt (n : Int) qs).length c5] 64))
    clear hb3
    go_wp2_with fail
    go_ret
    exact ⟨rfl, HB3.out⟩
  | true =>
    obtain ⟨⟨p1, p16⟩, hin, h24, hpl⟩ := tmOf_parts hv
    rw [Int.toNat_natCast] at p1 p16 hin
    rw [hv, tmUp_yes hv, tmAt_yes hv, Int.toNat_natCast] at IT ST
    rw [show usB (n : Int) qs = true from hv, usN_yes (show usB (n : Int) qs = true from hv), Int.toNat_natCast] at IU
    have hval := tmTo_valid p1 p16 hin h24 (k := qs.length) (by omega)
    have huse := fun (i : Nat) (hi : i < n) => tm_use p1 p16 hin qs.length (by omega) i hi
    have hinv := fun (i : Nat) (hi : i < n) => (tmTo_inv p1 p16 hin h24 qs.length (by omega) i hi).1
    have hsum := cAt_sum p1 p16 hin (k := qs.length) (by omega)
    rw [rowsC_roots (upk_fv p1 p16 hin qs.length), upk_len] at hsum
    have hul := upk_len n (natP qs) qs.length
    have htl := tmTo_len n (natP qs) qs.length
    obtain ⟨up, hup⟩ : ∃ up, up = upk n (natP qs) qs.length := ⟨_, rfl⟩
    obtain ⟨ts, hts⟩ : ∃ ts, ts = tmTo n (natP qs) qs.length := ⟨_, rfl⟩
    obtain ⟨us, hus⟩ : ∃ us, us = useTo (roots n) 1 (natP qs) qs.length := ⟨_, rfl⟩
    have hxl := useTo_len (roots n) 1 (natP qs) qs.length
    rw [← hus] at IU hsum hxl
    rw [← hup] at IT ST hul hval hsum
    rw [← hts] at IT ST htl hval
    simp only [← hts, ← hus] at huse hinv
    rw [hul, htl] at IT ST
    have SW : Hid (∀ (i y : Int) (A2 : Option Addr) (c2 : Nat) (A3 : Option Addr) (c3 : Nat) (w2 : World), Rd w2 w2.heap.size A2 n up → Rd w2 w2.heap.size A3 n ts → Calls Try.prog 54 #[.agg #[.slice A2 n c2, .slice A3 n c3], .int .i64 i, .int .i64 y] w2 fun e w' => e = .returned (.int .i64 (sinceN up ts i y)) ∧ Below w2.heap.size w2 w') := fun i y A2 c2 A3 c3 w2 h2 h3 => implSince_any A2 A3 n c2 n c3 _ i y up ts w2 h2 h3 (Nat.le_refl _) (by omega) (by omega)
    have HX := Lib.hid (And.intro hval (And.intro huse (And.intro hinv (And.intro hsum (And.intro hul htl)))))
    have IT := Lib.hid IT
    have ST := Lib.hid ST
    have IU := Lib.hid IU
    have HB1 := Lib.hid hb1
    have hm24 : m ≤ 24 := by omega
    have hn16 : n ≤ 16 := p16
    have hus24 : us.length ≤ 24 := by omega
    clear hrq hv hb1 p1 p16 hin h24 hpl hval huse hinv hsum hul htl hup hts hus hxl hm hlq hn17
    go_wp2_with fail
    refine IT.out.mono ?_
    rintro e w2 ⟨A2, c2, A3, c3, rfl, hr2, hr3, hb2⟩
    obtain ⟨V, hV⟩ : ∃ V, V = w2.alloc (.cells #[.slice A2 n c2, .slice A3 n c3] 64) := ⟨_, rfl⟩
    have hbV : Below w2.heap.size w2 V := by rw [hV]; exact (Below.refl _ _).alloc (Nat.le_refl _) _
    have hXV : V.heap[w2.heap.size]? = some (.cells #[.slice A2 n c2, .slice A3 n c3] 64 (0, 0)) := by rw [hV]; exact World.alloc_heap_new w2 _
    obtain ⟨X, hX⟩ : ∃ X, X = w2.heap.size := ⟨_, rfl⟩
    rw [← hX] at hXV
    have HV := Lib.hid (And.intro (Below.on hb2 hbV) (And.intro hXV (And.intro (hr2.to hbV) (And.intro (hr3.to hbV) (Array.getElem?_eq_some_iff.1 hXV).1))))
    have HVE := Lib.hid (And.intro hV hX)
    clear hr2 hr3 hb2 hV hbV hXV hX
    go_wp2_with fail
    rw [← HVE.out.1, ← HVE.out.2]
    refine (ST.out V HV.out.1).mono ?_
    rintro e w3 ⟨A4, c4, A5, c5, rfl, _, _, hb3⟩
    obtain ⟨V3, hV3⟩ : ∃ V3, V3 = w3.alloc (.cells #[.slice A4 n c4, .slice A5 n c5] 64) := ⟨_, rfl⟩
    have hbV3 : Below V.heap.size V V3 := by rw [hV3]; exact hb3.alloc hb3.size _
    have HB3 := Lib.hid hbV3
    have HV3 := Lib.hid hV3
    clear hb3 hV3 hbV3
    go_wp2_with fail
    rw [← HV3.out]
    refine (IU.out V3 (Below.on HV.out.1 HB3.out)).mono ?_
    rintro e w4 ⟨A8, c8, rfl, hr8, hb4⟩
    have H4 := Lib.hid (And.intro (Below.on HB3.out hb4) hr8)
    have HI0 : Hid (Below w4.heap.size w4 w4) := Below.refl _ _
    have HM0 : Hid ((0 : Int) = ((0 - rootsTo up 0 : Nat) : Int)) := by show _ = _; simp
    clear hr8 hb4
    go_wp2_with fail
    go_loopw [11, 50] (fun q i wr => ∃ j : Nat, j ≤ n ∧ i = .int .i64 j ∧ q = .int .i64 ((j - rootsTo up j : Nat) : Int) ∧ Hid (Below w4.heap.size w4 wr)) (fun _ i _ => n - (intOf i).toNat)
    case atStart => exact ⟨0, Nat.zero_le _, rfl, by rw [← HM0.out], HI0⟩
    case round =>
      obtain ⟨j, hj, rfl, rfl, HR⟩ := hrel
      clear HI0 HM0
      have hb4r : Below V.heap.size V wr := Below.on H4.out.1 HR.out
      have hrl : rootsTo up j ≤ j := by unfold rootsTo; have := List.length_filter_le (fun i : Nat => up[i]?.getD 0 == (i : Int)) (List.range j); simpa using this
      by_cases hlt : j < n
      · have hjj : (j : Int) < (n : Int) := by omega
        have hXr := (hb4r.block X HV.out.2.2.2.2).trans HV.out.2.1
        obtain ⟨⟨x1, x2⟩, _⟩ := boxTwo_cells hXr
        have hR2 := HV.out.2.2.1.to hb4r
        have hR3 := HV.out.2.2.2.1.to hb4r
        obtain ⟨b3, o3, rfl, _, q3⟩ := hR3.2 (by omega)
        obtain ⟨b2, o2, rfl, _, q2⟩ := hR2.2 (by omega)
        have s3 := q3 j hlt
        have s2 := q2 j hlt
        obtain ⟨hval, huse, hinv, hsum, hul, htl⟩ := HX.out
        have hrs := rootsTo_succ up j
        have hu := huse j hlt
        have hi := hinv j hlt
        obtain ⟨hfv, _, hok⟩ := tmB_parts hval
        have hin := fv_in hfv j (by omega)
        obtain ⟨y, hy⟩ : ∃ y : Nat, up[j]?.getD 0 = (y : Int) := ⟨(up[j]?.getD 0).toNat, by omega⟩
        have hokj := hok j (by omega)
        rw [hy] at s2 hrs
        by_cases he : y = j
        · rw [okTm_root (hy.trans (by rw [he]))] at hokj
          have ht : ts[j]?.getD 0 = 0 := by simpa using hokj
          rw [ht] at s3
          rw [if_pos (by omega)] at hrs
          have HI2 : Hid (Below w4.heap.size w4 wr) := HR.out
          have HQ : Hid ((j - rootsTo up j : Nat) = (j + 1 - rootsTo up (j + 1) : Nat)) := by show _ = _; omega
          clear hb4r hXr hR2 hR3 q3 q2 s2 hval huse hinv hsum hul htl hrs hu hi hfv hok hin hy hokj he ht HR hrl
          go_wp2_with fail
          go_roundw
          case rel => exact ⟨j + 1, by omega, by go_num, by rw [HQ.out], HI2⟩
          case measure => simp [intOf]; omega
        · have hokj2 := hokj
          rw [okTm_link hy he] at hokj2
          simp only [Bool.and_eq_true, decide_eq_true_eq] at hokj2
          obtain ⟨x, hx⟩ : ∃ x : Nat, ts[j]?.getD 0 = (x : Int) := ⟨(ts[j]?.getD 0).toNat, by omega⟩
          have hsi := since_link hval (i := j) (by omega) hy he hx
          rw [hx] at s3 hu hi hokj2
          have hx1 : 1 ≤ x := by omega
          have hx24 : x ≤ 24 := by omega
          rw [if_neg (by omega)] at hrs
          have hmem := hu (by omega)
          have hpos : (0 : Int) < (x : Int) := by omega
          have hwr : IntKind.i64.wrap ((x : Int) - 1) = (x : Int) - 1 := IntWalk.i64_in _ (by omega)
          have hwr2 : IntKind.i64.wrap (((j - rootsTo up j : Nat) : Int) + 1) = ((j - rootsTo up j : Nat) : Int) + 1 := IntWalk.i64_in _ (by omega)
          have LH : Hid (∀ w8, Below wr.heap.size wr w8 → Calls Try.prog 34 #[.slice A8 us.length c8, .int .i64 ((x : Int) - 1)] w8 fun e w' => e = .returned (.bool true) ∧ Below w8.heap.size w8 w') := fun w8 h8 => by
            have := lrHas_any A8 us.length c8 w4.heap.size us ((x : Int) - 1) w8 (H4.out.2.below (Below.on HR.out h8) (Nat.le_refl _)) (by omega)
            rw [decide_eq_true hmem] at this
            exact this.mono fun _ _ ⟨h1, h2⟩ => ⟨h1, by rw [h2]; exact Below.refl _ _⟩
          have SZ : Hid (∀ w8, Below wr.heap.size wr w8 → Calls Try.prog 54 #[.agg #[.slice (some ⟨b2, o2, none⟩) n c2, .slice (some ⟨b3, o3, none⟩) n c3], .int .i64 (j : Int), .int .i64 (y : Int)] w8 fun e w' => e = .returned (.int .i64 (x : Int)) ∧ Below w8.heap.size w8 w') := fun w8 h8 => by
            have := SW.out (j : Int) (y : Int) (some ⟨b2, o2, none⟩) c2 (some ⟨b3, o3, none⟩) c3 w8 (hR2.to h8) (hR3.to h8)
            rw [hsi] at this
            exact this
          have HQ : Hid (((j - rootsTo up j : Nat) : Int) + 1 = ((j + 1 - rootsTo up (j + 1) : Nat) : Int)) := by show _ = _; omega
          have t1 : ((x : Int) != (x : Int)) = false := by simp
          have hbb : Below wr.heap.size wr wr := Below.refl _ _
          have HR2 := Lib.hid HR.out
          clear hb4r hXr hR2 hR3 q3 q2 hval huse hinv hsum hul htl hrs hu hi hfv hok hin hy hokj hokj2 he hx hsi hmem HR hrl
          go_wp2_with fail
          go_region_held3 (fun w' => Below wr.heap.size wr w' ∧ w'.cell? ⟨X, 0, none⟩ = some (.slice (some ⟨b2, o2, none⟩) n c2) ∧ w'.cell? ⟨X, 1, none⟩ = some (.slice (some ⟨b3, o3, none⟩) n c3) ∧ w'.cell? ⟨b3, o3 + j, none⟩ = some (.int .i64 (x : Int)) ∧ w'.cell? ⟨b2, o2 + j, none⟩ = some (.int .i64 (y : Int)))
            (first | exact held4_drew ⟨by assumption, by assumption, by assumption, by assumption, by assumption⟩ | exact held4_drew (by assumption) | exact held4_call (by assumption) (by assumption) (Below.size (And.left (by assumption))))
            (first | (go_at_call 34; (try rw [hwr]); refine (LH.out _ (‹Below wr.heap.size wr _ ∧ _›).1).mono ?_; rintro e w8 ⟨rfl, hb8⟩) | (go_at_call 54; refine (SZ.out _ (‹Below wr.heap.size wr _ ∧ _›).1).mono ?_; rintro e w9 ⟨rfl, hb9⟩))
          have HI2 := Lib.hid (Below.on HR2.out (‹Below wr.heap.size wr _ ∧ _›).1)
          go_wp2_with fail
          go_roundw
          case rel => exact ⟨j + 1, by omega, by go_num, by rw [HQ.out], HI2⟩
          case measure => simp [intOf]; omega
      · obtain rfl : j = n := by omega
        obtain ⟨_, _, _, hsum, _, _⟩ := HX.out
        have hq : j - rootsTo up j = us.length := by omega
        have t1 : (((j - rootsTo up j : Nat) : Int) == (us.length : Int)) = true := by rw [hq]; simp
        have HB6 := Lib.hid (Below.on HB1.out (Below.on HV.out.1 hb4r))
        rw [hq]
        clear hb4r hrl hsum hq t1 HR
        go_wp2_with fail
        go_ret
        exact ⟨by simp, HB6.out⟩
end Go.Proofs.Ytfafgihfgdpclaa
