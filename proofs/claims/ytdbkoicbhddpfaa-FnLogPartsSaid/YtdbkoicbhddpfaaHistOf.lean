/- The history of a log, LogValid of the program. Condition: lengths up to 1048576. -/
import Derived.Test.YtdbkoicbhddpfaaHistRepeat
import Derived.Test.YtdbkoicbhddpfaaEqRows
namespace Go.Proofs.Ytdbkoicbhddpfaa
open Go.RowKit Go.Shelf

/-- How many of the first k items are roots. -/
def rts (u : List Int) (k : Nat) : Nat := ((List.range k).filter fun i : Nat => u[i]?.getD 0 == (i : Int)).length
theorem rts_succ (u : List Int) (k : Nat) : rts u (k + 1) = rts u k + (if u[k]?.getD 0 = (k : Int) then 1 else 0) := by
  unfold rts
  rw [List.range_succ, List.filter_append, List.length_append]
  by_cases h : u[k]?.getD 0 = (k : Int)
  · rw [if_pos h]; simp [h]
  · rw [if_neg h]; simp [h]
theorem rts_le (u : List Int) (k : Nat) : rts u k ≤ k := by
  unfold rts
  exact Nat.le_trans (List.length_filter_le _ _) (by rw [List.length_range]; exact Nat.le_refl _)
theorem rts_hang {u : List Int} {p q : Nat} (T : Two u p q) : ∀ k, rts (hang u p q) k + (if p < k then 1 else 0) = rts u k
  | 0 => rfl
  | k + 1 => by
    have ih := rts_hang T k
    rw [rts_succ, rts_succ]
    by_cases e : k = p
    · subst e
      have h1 : u[k]?.getD 0 = (k : Int) := isroot_link T.rp
      have h2 : (hang u k q)[k]?.getD 0 = (q : Int) := by
        unfold hang
        rw [List.getElem?_set_self T.hp]
        rfl
      have hne := T.ne
      rw [if_neg (by omega)] at ih
      rw [if_neg (by rw [h2]; omega), if_pos (by omega), if_pos h1]
      omega
    · rw [hang_off e]
      by_cases h : p < k
      · rw [if_pos h] at ih
        rw [if_pos (show p < k + 1 by omega)]
        omega
      · rw [if_neg h] at ih
        rw [if_neg (show ¬ p < k + 1 by omega)]
        omega
theorem built_count {v : List Int} : ∀ {ss : List (Int × Int)} {u : List Int}, fvB u = true → builtL u ss = some v → ss.length + rts v u.length = rts u u.length
  | [], u, _, h => by
    have h' : some u = some v := h
    injection h' with e
    subst e
    simp
  | s :: ss, u, hv, h => by
    rw [builtL_cons] at h
    split at h
    · rename_i hk
      obtain ⟨T, e⟩ := okStep_two hv hk
      rw [e] at h
      have h1 := built_count (hang_fv T) h
      have h2 := rts_hang T u.length
      rw [if_pos T.hp] at h2
      rw [hang_len] at h1
      rw [List.length_cons]
      omega
    · cases h
theorem built_short {n : Nat} (h1 : 1 ≤ n) (h16 : n ≤ 16) {ss : List (Int × Int)} {v : List Int} (h : builtL (roots n) ss = some v) : ss.length ≤ 16 := by
  have h2 := built_count (roots_fv h1 h16) h
  have h3 := rts_le (roots n) (roots n).length
  rw [roots_len] at h2 h3
  omega
theorem stepsOf_len (ds : List (Int × Int × Value)) : (stepsOf ds).length = ds.length := by simp [stepsOf]
set_option maxRecDepth 100000 in
set_option maxHeartbeats 8000000 in
theorem historyOf_any (A1 A2 : Option Addr) (n c1 m c2 B0 : Nat) (xs : List Int) (ss : List (Int × Int)) (w : World) (h1 : Rd w B0 A1 n xs) (h2 : RdQ w B0 A2 m ss) (hB0 : B0 ≤ w.heap.size) (hb1 : n ≤ 1048576) (hb2 : m ≤ 1048576) :
    Calls Try.prog 77 #[.agg #[.slice A1 n c1, .slice A2 m c2]] w fun e w' => Below w.heap.size w w' ∧ ((logV xs ss = false ∧ e = .returned (.pointer none)) ∨
      (logV xs ss = true ∧ ∃ H J M N, e = .returned (.pointer (some ⟨H, 0, none⟩)) ∧ w.heap.size ≤ N ∧ ∃ sz ht D ds, HistSt w' H J M N n sz ht xs D ∧ OwnD w' (H + 1) D ds ∧ stepsOf ds = ss ∧ Fns ds ∧ Und w' (H + 1) M n ds xs sz ht)) := by
  obtain ⟨W, hW⟩ : ∃ W, W = w.alloc (.cells #[.slice A1 n c1, .slice A2 m c2] 26) := ⟨_, rfl⟩
  have hbW : Below w.heap.size w W := by rw [hW]; exact (Below.refl _ _).alloc (Nat.le_refl _) _
  have hA : W.heap[w.heap.size]? = some (.cells #[.slice A1 n c1, .slice A2 m c2] 26 (0, 0)) := by rw [hW]; exact World.alloc_heap_new w _
  have NH := newHistory_any (n : Int) W
  have hl := h1.1
  have hlm := h2.1
  obtain ⟨P, hP⟩ : ∃ P, P = w.heap.size := ⟨_, rfl⟩
  rw [← hP] at hA
  have hlt := (Array.getElem?_eq_some_iff.1 hA).1
  have HW := Lib.hid (And.intro hbW (And.intro hA (And.intro hlt (And.intro (h1.below hbW hB0) (And.intro (h2.below hbW hB0) hB0)))))
  have HE := Lib.hid (And.intro hW hP)
  by_cases hn : 1 ≤ n ∧ n ≤ 16
  case neg =>
    have e0 : logV xs ss = false := logV_n (by omega)
    have e1 : newOk (n : Int) = false := by unfold newOk; exact decide_eq_false (by omega)
    rw [e1] at NH
    rw [e0]
    have NH := Lib.hid NH
    clear h1 h2 hB0 hW hbW hA hP hlt hn e0 e1 hl hlm
    go_enter Try.func77, Try.ntmps77
    go_wp2_with fail
    rw [← HE.out.1]
    refine NH.out.mono ?_
    rintro e w1 ⟨hb1, ⟨_, rfl⟩ | ⟨hv, _⟩⟩
    · have HB := Lib.hid (Below.on HW.out.1 hb1)
      clear hb1
      go_wp2_with fail
      go_ret
      exact ⟨HB.out, .inl ⟨by trivial, rfl⟩⟩
    · cases hv
  case pos =>
    have e1 : newOk (n : Int) = true := by unfold newOk; exact decide_eq_true (by omega)
    rw [e1, Int.toNat_natCast] at NH
    have hfv := roots_fv hn.1 hn.2
    have HN : Hid (∀ k u, k < m → builtL (roots n) (ss.take k) = some u → (okStep u (ss[k]?.getD (0, 0)) = true → builtL (roots n) (ss.take (k + 1)) = some (u.set (ss[k]?.getD (0, 0)).1.toNat (ss[k]?.getD (0, 0)).2)) ∧ (okStep u (ss[k]?.getD (0, 0)) = false → logV xs ss = false) ∧ ss.take (k + 1) = ss.take k ++ [ss[k]?.getD (0, 0)] ∧ k ≤ 16) := fun k u hk hu => by
      obtain ⟨g1, g2⟩ := built_next (k := k) (by omega) hu
      refine ⟨g1, fun e => logV_b (by rw [hl, g2 e]; simp), take_snoc (by omega) (0, 0), ?_⟩
      have := built_short hn.1 hn.2 hu
      rw [List.length_take] at this
      omega
    have HEND : Hid (ss.take m = ss ∧ (∀ u, builtL (roots n) ss = some u → logV xs ss = decide (u = xs)) ∧ builtL (roots n) (ss.take 0) = some (roots n)) := by
      refine ⟨List.take_of_length_le (by omega), fun u hu => ?_, rfl⟩
      unfold logV
      rw [hl, hu, decide_eq_true hn]
      by_cases h : u = xs
      · rw [h]; simp
      · rw [decide_eq_false h, decide_eq_false (by simpa using h)]; rfl
    have HFV := Lib.hid (And.intro hfv (roots_len n))
    have NH := Lib.hid NH
    obtain ⟨⟨a1, a2⟩, _⟩ := boxTwo_cells hA
    clear h1 h2 hB0 hW hbW hA hlt hn e1 hl hfv
    rw [hP] at a1 a2
    clear hP
    go_enter Try.func77, Try.ntmps77
    go_wp2_with fail
    rw [← HE.out.1, ← HE.out.2]
    refine NH.out.mono ?_
    rintro e w1 ⟨hb1', ⟨hv, _⟩ | ⟨_, H, J, M, N, rfl, hh, hN, hm, hj, o1, o2, o3, o4⟩⟩
    · cases hv
    · have hP1 := (hb1'.block P HW.out.2.2.1).trans HW.out.2.1
      obtain ⟨⟨p1, p2⟩, _⟩ := boxTwo_cells hP1
      have hS1 : HistSt w1 H J M N n _ _ (roots n) (.slice none 0 0) := ⟨hh, hm, hj, hN, o2, o3, o4, HFV.out.1, HFV.out.2, RootsTell.all _⟩
      have hPN : P < N := by have := HW.out.2.2.1; omega
      have HB1 := Lib.hid (And.intro hb1' (And.intro hP1 (And.intro hPN (And.intro hS1.lt (And.intro o1 (And.intro o2 (And.intro o3 o4)))))))
      have HI : Hid (∃ u sz ht D ds, builtL (roots n) (ss.take 0) = some u ∧ HistSt w1 H J M N n sz ht u D ∧ OwnD w1 (H + 1) D ds ∧ stepsOf ds = ss.take 0 ∧ Fns ds ∧ Chg (fun i => i = N ∨ i = M ∨ i = H ∨ H + 1 ≤ i) w1 w1 ∧ Und w1 (H + 1) M n ds u sz ht) := ⟨_, _, _, _, [], HEND.out.2.2, hS1, OwnD.nil _ _, rfl, fun k hk => by simp at hk, Chg.refl _ _, .nil⟩
      clear hb1' hh hN hm hj o1 o2 o3 o4 hP1 hS1 hPN a1 a2
      go_wp2_with fail
      go_loopw [15] (fun i wr => ∃ k : Nat, k ≤ m ∧ i = .int .i64 (k : Int) ∧ Hid (∃ u sz ht D ds, builtL (roots n) (ss.take k) = some u ∧ HistSt wr H J M N n sz ht u D ∧ OwnD wr (H + 1) D ds ∧ stepsOf ds = ss.take k ∧ Fns ds ∧ Chg (fun i => i = N ∨ i = M ∨ i = H ∨ H + 1 ≤ i) w1 wr ∧ Und wr (H + 1) M n ds u sz ht)) (fun i _ => m - (intOf i).toNat)
      case atStart => exact ⟨0, by omega, rfl, HI⟩
      case round =>
        obtain ⟨k, hkm, rfl, HK⟩ := hrel
        clear HI
        obtain ⟨u, sz, ht, D, ds, hu, hS, hD, hst, hfn, hc, hUd⟩ := HK.out
        clear HK
        obtain ⟨hb1', hP1, hPN, hHl, q1, q2, q3, q4⟩ := HB1.out
        have hbr : Below W.heap.size W wr := hb1'.trans (hc.below (by omega) (fun i hi => by omega))
        have hPr := (hc.block P (by omega) (by omega)).trans hP1
        by_cases hlt : k < m
        · have hkk : (k : Int) < (m : Int) := by omega
          obtain ⟨b0, off, rfl, _, hc1⟩ := (HW.out.2.2.2.2.1.below hbr (Nat.le_trans HW.out.2.2.2.2.2 HW.out.1.size)).2 (by omega)
          obtain ⟨g1, g2⟩ := hc1 k hlt
          obtain ⟨n1, n2, n3, n4⟩ := HN.out k u hlt hu
          obtain ⟨x, hx⟩ : ∃ x, x = (ss[k]?.getD (0, 0)).1 := ⟨_, rfl⟩
          obtain ⟨y, hy⟩ : ∃ y, y = (ss[k]?.getD (0, 0)).2 := ⟨_, rfl⟩
          have exy : ss[k]?.getD (0, 0) = (x, y) := by rw [hx, hy]
          rw [exy] at n1 n2 n3
          rw [← hx] at g1
          rw [← hy] at g2
          obtain ⟨V, hV⟩ : ∃ V, V = wr.alloc (.cells #[.int .i64 x, .int .i64 y] 45) := ⟨_, rfl⟩
          have hbV : Below wr.heap.size wr V := by rw [hV]; exact (Below.refl _ _).alloc (Nat.le_refl _) _
          have hdl : ds.length ≤ 16 := by
            have := stepsOf_len ds
            rw [hst, List.length_take] at this
            omega
          have RA := repeat_any H J M N n x y sz ht u D ds (H + 1) V (hS.below hbV hS.lt) (hD.chg (S := fun _ => False) (Chg.of_below hbV) (fun i hi => hi.elim)) (by omega) (by have := hbV.size; have := hS.lt; omega) (by omega) hfn
          have HZ := Lib.hid (And.intro hst (And.intro (hc.trans (Chg.of_below hbV)) (And.intro n3 (And.intro (Below.on HW.out.1 hbr) (hUd.keep hbV)))))
          have HVE := Lib.hid (And.intro hV (Below.on hbr hbV))
          cases hok : okStep u (x, y) with
          | false =>
            have HF := Lib.hid (n2 hok)
            rw [hok] at RA
            have RA := Lib.hid RA
            clear hu hS hD hst hfn hc hUd hb1' hP1 hPN hHl q1 q2 q3 q4 hbr hPr hc1 n1 n2 n3 n4 hx hy exy hV hbV hdl hok
            go_wp2_with fail
            rw [← HVE.out.1]
            refine RA.out.mono ?_
            rintro e w3 ⟨rfl, _, _, _, _, _, _, _, _, _, hc3, _⟩
            have hb3 : Below w.heap.size w w3 := by
              have h3 := HVE.out.2.size
              have h4 := HB1.out
              have h5 := HW.out.1
              have hb : Below V.heap.size V V := Below.refl _ _
              exact (Below.on h5 HVE.out.2).trans (hc3.below (by have := h5.size; omega) (fun i hi => by have := h5.size; omega))
            have HB3 := Lib.hid hb3
            clear hc3 hb3
            go_wp2_with fail
            go_ret
            exact ⟨HB3.out, .inl ⟨HF.out, rfl⟩⟩
          | true =>
            have HB' := Lib.hid (n1 hok)
            rw [hok, if_pos rfl, if_pos rfl] at RA
            have RA := Lib.hid RA
            clear hu hS hD hst hfn hc hUd hb1' hP1 hPN hHl q1 q2 q3 q4 hbr hPr hc1 n1 n2 n3 n4 hx hy exy hV hbV hdl hok
            go_wp2_with fail
            rw [← HVE.out.1]
            refine RA.out.mono ?_
            rintro e w3 ⟨rfl, sz', ht', D', ds', hS', hD', hst', _, hfn', hc', hu'⟩
            obtain ⟨z1, z2, z3, _, z5⟩ := HZ.out
            have HI2 : Hid (∃ u sz ht D ds, builtL (roots n) (ss.take (k + 1)) = some u ∧ HistSt w3 H J M N n sz ht u D ∧ OwnD w3 (H + 1) D ds ∧ stepsOf ds = ss.take (k + 1) ∧ Fns ds ∧ Chg (fun i => i = N ∨ i = M ∨ i = H ∨ H + 1 ≤ i) w1 w3 ∧ Und w3 (H + 1) M n ds u sz ht) := ⟨_, sz', ht', D', ds', HB'.out, hS', hD', by rw [hst', z3, z1], hfn', z2.trans hc', hu' z5⟩
            clear hS' hD' hst' hfn' hc' hu' z1 z2 z3 z5
            go_wp2_with fail
            go_roundw
            case rel => exact ⟨k + 1, by omega, by go_num, HI2⟩
            case measure => simp [intOf]; omega
        · obtain rfl : k = m := by omega
          rw [HEND.out.1] at hu hst
          have e0 := HEND.out.2.1 u hu
          obtain ⟨⟨p1, p2⟩, _⟩ := boxTwo_cells hPr
          obtain ⟨⟨c1', _⟩, _⟩ := boxTwo_cells hS.at_
          have hun : u.length = n := hS.len
          have FO := Lib.hid (fun (wz : World) (hz : Below wr.heap.size wr wz) => forest_any J M N n sz ht u wz (hS.below hz hS.lt).mem (hS.below hz hS.lt).box (hS.below hz hS.lt).nd hS.fv hun (by have := (fv_parts hS.fv).2.1; omega))
          obtain ⟨d, hd⟩ : ∃ d, d = decide (u = xs) := ⟨_, rfl⟩
          rw [← hd] at e0
          have SE : Hid (∀ (wz : World) (A : Option Addr) (c : Nat), Rd wz wz.heap.size A n u → Below wr.heap.size wr wz → Calls Try.prog 124 #[.slice A n c, .slice A1 n c1] wz fun e w' => e = .returned (.bool d) ∧ Below wz.heap.size wz w') := fun wz A c hr hz => by
            refine (slEqual_any A A1 n c n c1 _ _ u xs wz hr (HW.out.2.2.2.1.below (Below.on hbr hz) (Nat.le_trans HW.out.2.2.2.2.2 HW.out.1.size)) hb1 hb1).mono ?_
            rintro e w' ⟨rfl, j, rfl⟩
            rw [hd]
            exact ⟨rfl, below_drewN (Below.refl _ _) j⟩
          have HZ := Lib.hid (And.intro hS (And.intro hD (And.intro hst (And.intro hfn (And.intro (Below.on HW.out.1 hbr) (And.intro e0 (And.intro hd hUd)))))))
          have HQ := Lib.hid (And.intro q1 HW.out.1.size)
          have HUN := Lib.hid hun
          have hbb : Below wr.heap.size wr wr := Below.refl _ _
          clear hu hS hD hst hfn hc hUd hb1' hP1 hPN hHl q1 q2 q3 q4 hbr hPr e0 hun hd
          go_wp2_with fail
          go_region_held3 (fun w' => Below wr.heap.size wr w' ∧ w'.cell? ⟨H, 0, none⟩ = some (.pointer (some ⟨J, 0, none⟩)) ∧ w'.cell? ⟨P, 0, none⟩ = some (.slice A1 n c1))
            (first | assumption | exact held2_drew ⟨by assumption, by assumption, by assumption⟩ | exact held2_drew (by assumption) | exact held2_call (by assumption) (by assumption) (Below.size (And.left (by assumption))))
            (first | (go_at_call 89; refine (FO.out _ (‹Below wr.heap.size wr _ ∧ _›).1).mono ?_; rintro e w8 ⟨v8, rfl, ho8, hb8⟩; obtain ⟨A8, c8, rfl, hr8⟩ := ho8.form; rw [HUN.out] at hr8; rw [HUN.out]) | (go_at_call 124; refine (SE.out _ _ _ (by assumption) (‹Below wr.heap.size wr _ ∧ _›).1).mono ?_; rintro e w9 ⟨rfl, hb9⟩))
          have hbz := (‹Below wr.heap.size wr _ ∧ _›).1
          have HBZ := Lib.hid hbz
          clear hbz
          cases d with
          | false =>
            go_wp2_with fail
            go_ret
            exact ⟨Below.on HZ.out.2.2.2.2.1 HBZ.out, .inl ⟨HZ.out.2.2.2.2.2.1, rfl⟩⟩
          | true =>
            go_wp2_with fail
            go_ret
            obtain ⟨hS, hD, hst, hfn, hbw, e0, hd, hUd⟩ := HZ.out
            have hux : u = xs := of_decide_eq_true hd.symm
            subst hux
            exact ⟨Below.on hbw HBZ.out, .inr ⟨e0, H, J, M, N, rfl, by have := HQ.out; omega, sz, ht, D, ds, hS.below HBZ.out hS.lt, hD.chg (S := fun _ => False) (Chg.of_below HBZ.out) (fun i hi => hi.elim), hst, hfn, hUd.keep HBZ.out⟩⟩
end Go.Proofs.Ytdbkoicbhddpfaa
