/- Doing a given step of a history again. -/
import Derived.Test.YtdbkoicbhddpfaaHistJoin
import Derived.Test.YtdbkoicbhddpfaaPairsOk
import Derived.Deep.RegionHeld3
namespace Go.Proofs.Ytdbkoicbhddpfaa
open Go.RowKit Go.Shelf

theorem rdq_one (w : World) (x y : Int) : RdQ (w.alloc (.cells #[.int .i64 x, .int .i64 y] 57)) (w.alloc (.cells #[.int .i64 x, .int .i64 y] 57)).heap.size (some ⟨w.heap.size, 0, none⟩) 1 [(x, y)] := by
  refine ⟨rfl, fun _ => ⟨_, 0, rfl, by simp, fun k hk => ?_⟩⟩
  obtain rfl : k = 0 := by omega
  obtain ⟨c1, c2⟩ := pair_cells w x y
  exact ⟨c1, c2⟩
theorem rdq_oneD (w : World) (x y : Int) : RdQ (w.alloc (.cells #[.int .i64 x, .int .i64 y] 57)).drew (w.alloc (.cells #[.int .i64 x, .int .i64 y] 57)).drew.heap.size (some ⟨w.heap.size, 0, none⟩) 1 [(x, y)] := rdq_one w x y
theorem okStep_rep {u : List Int} (hv : fvB u = true) {a b : Nat} (ha : a < u.length) (hb : b < u.length) :
    (rootI u a = rootI u b → okStep u ((a : Int), (b : Int)) = false) ∧ (rootI u a ≠ rootI u b → okStep u ((a : Int), (b : Int)) = decide (stR u a b = a ∧ stT u a b = b)) := by
  have key : okStep u ((a : Int), (b : Int)) = true → rootI u a ≠ rootI u b ∧ stR u a b = a ∧ stT u a b = b := fun h => by
    obtain ⟨T, _⟩ := okStep_two hv h
    obtain ⟨_, _, h3, _, _, h6⟩ := okStep_parts h
    have T' : Two u a b := T
    have ra : rootI u a = a := rootI_root T'.fv T'.rp
    have rb : rootI u b = b := rootI_root T'.fv T'.rq
    have hne : rootI u a ≠ rootI u b := by rw [ra, rb]; exact T'.ne
    refine ⟨hne, ?_, ?_⟩
    · unfold stR lowI
      rw [if_neg hne, ra, rb]
      exact if_pos h6
    · unfold stT uppI
      rw [if_neg hne, ra, rb]
      exact if_pos h6
  refine ⟨fun e => ?_, fun hne => ?_⟩
  · cases h : okStep u ((a : Int), (b : Int)) with
    | false => rfl
    | true => exact ((key h).1 e).elim
  · cases h : okStep u ((a : Int), (b : Int)) with
    | true => rw [decide_eq_true (key h).2]
    | false =>
      refine (decide_eq_false fun e => ?_).symm
      have := (ok_join hv ha hb hne).1
      rw [e.1, e.2, h] at this
      cases this
set_option maxRecDepth 100000 in
set_option maxHeartbeats 8000000 in
theorem repeat_any (H J M N n : Nat) (x y : Int) (sz ht : Nat → Nat) (u : List Int) (D : Value) (ds : List (Int × Int × Value)) (base : Nat) (w : World) (h : HistSt w H J M N n sz ht u D) (hD : OwnD w base D ds) (hB : H < base) (hBw : base ≤ w.heap.size) (hl : ds.length ≤ 1000) (hfn : Fns ds) :
    Calls Try.prog 141 #[.pointer (some ⟨H, 0, none⟩), .agg #[.int .i64 x, .int .i64 y]] w fun e w' =>
      e = .returned (.bool (okStep u (x, y))) ∧ ∃ sz' ht' D' ds', HistSt w' H J M N n sz' ht' (if okStep u (x, y) = true then u.set x.toNat y else u) D' ∧ OwnD w' base D' ds' ∧ stepsOf ds' = (if okStep u (x, y) = true then stepsOf ds ++ [(x, y)] else stepsOf ds) ∧ ds'.length ≤ ds.length + 1 ∧ Fns ds' ∧ Chg (fun i => i = N ∨ i = M ∨ i = H ∨ base ≤ i) w w' ∧ (Und w base M n ds u sz ht → Und w' base M n ds' (if okStep u (x, y) = true then u.set x.toNat y else u) sz' ht') := by
  obtain ⟨W1, hW1⟩ : ∃ W1, W1 = w.alloc (.cells #[.int .i64 x, .int .i64 y] 45) := ⟨_, rfl⟩
  obtain ⟨W, hW⟩ : ∃ W, W = W1.alloc (.cells #[.int .i64 x, .int .i64 y] 57) := ⟨_, rfl⟩
  have e1 : W1.heap.size = w.heap.size + 1 := by rw [hW1]; simp
  have eW : W.heap.size = w.heap.size + 2 := by rw [hW]; simp [e1]
  have hP1 : W1.heap[w.heap.size]? = some (.cells #[.int .i64 x, .int .i64 y] 45 (0, 0)) := by rw [hW1]; exact World.alloc_heap_new w _
  have hP : W.heap[w.heap.size]? = some (.cells #[.int .i64 x, .int .i64 y] 45 (0, 0)) := by rw [hW]; exact (Below.heap_alloc _ _ _ (by omega)).trans hP1
  have hQ : W.heap[w.heap.size + 1]? = some (.cells #[.int .i64 x, .int .i64 y] 57 (0, 0)) := by rw [hW, ← e1]; exact World.alloc_heap_new W1 _
  have hbW : Below w.heap.size w W := by rw [hW, hW1]; exact ((Below.refl _ _).alloc (Nat.le_refl _) _).alloc (by simp) _
  have hSW := h.below hbW h.lt
  have hDW : OwnD W base D ds := hD.chg (S := fun _ => False) (Chg.of_below hbW) (fun i hi => hi.elim)
  obtain ⟨⟨a1, _⟩, _⟩ := boxTwo_cells hSW.at_
  have cJ := hSW.box.cell
  obtain ⟨P, hPe⟩ : ∃ P, P = w.heap.size := ⟨_, rfl⟩
  obtain ⟨Q, hQe⟩ : ∃ Q, Q = w.heap.size + 1 := ⟨_, rfl⟩
  rw [← hPe] at hP
  rw [← hQe] at hQ
  obtain ⟨⟨p1, p2⟩, _⟩ := boxTwo_cells hP
  obtain ⟨⟨q1, q2⟩, _⟩ := boxTwo_cells hQ
  have PV := Lib.hid (fun (wz : World) (A : Option Addr) (hr : RdQ wz wz.heap.size A 1 [(x, y)]) => pairsValid_any (n : Int) A 1 1 _ [(x, y)] wz hr (Nat.le_refl _) (by omega))
  have hn16 : n ≤ 16 := by have := (fv_parts h.fv).2.1; have := h.len; omega
  have HW := Lib.hid (And.intro hW (And.intro hW1 (And.intro hPe hQe)))
  have HH := Lib.hid (And.intro hbW (And.intro hSW (And.intro hDW (And.intro hP (And.intro hQ eW)))))
  have HB := Lib.hid (And.intro hB (And.intro hBw (And.intro hl hfn)))
  have hfv := h.fv
  have hlen := h.len
  cases hok : okQ (n : Int) [(x, y)] with
  | false =>
    have hno : okStep u (x, y) = false := by
      cases e : okStep u (x, y) with
      | false => rfl
      | true =>
        obtain ⟨g1, g2, _⟩ := okStep_parts e
        rw [okQ_of (by simp) (fun p hp => by simp at hp; subst hp; rw [hlen] at g1 g2; exact ⟨g1, g2⟩)] at hok
        cases hok
    rw [hno, if_neg (by decide), if_neg (by decide)]
    rw [hok] at PV
    clear h hD hB hBw hl hfn hW1 hW e1 eW hP1 hP hQ hbW hSW hDW hPe hQe hfv hlen hok hno
    have hbb : Below W.heap.size W W := Below.refl _ _
    go_enter Try.func141, Try.ntmps141
    go_wp2_with fail
    rw [← HW.out.2.1, ← HW.out.1, ← HW.out.2.2.2, ← HW.out.2.2.1]
    go_region_held3 (fun w' => Below W.heap.size W w' ∧ w'.cell? ⟨H, 0, none⟩ = some (.pointer (some ⟨J, 0, none⟩)) ∧ w'.cell? ⟨J, 0, none⟩ = some (.slice (some ⟨M, 0, none⟩) n n) ∧ w'.cell? ⟨Q, 0, none⟩ = some (.int .i64 x) ∧ w'.cell? ⟨Q, 1, none⟩ = some (.int .i64 y))
      (first | assumption | exact held4_drew ⟨by assumption, by assumption, by assumption, by assumption, by assumption⟩ | exact held4_drew (by assumption) | exact held4_call (by assumption) ((Below.refl _ _).alloc (Nat.le_refl _) _) (Below.size (And.left (by assumption))) | exact held4_call (by assumption) (by assumption) (Below.size (And.left (by assumption))))
      (first | (go_at_call 78; refine (PV.out _ _ (rdq_oneD W _ _)).mono ?_; rintro e w8 ⟨rfl, hb8⟩))
    have hbz := (‹Below W.heap.size W _ ∧ _›).1
    have HZ := Lib.hid hbz
    clear hbz
    go_wp2_with fail
    go_ret
    have hbz := HZ.out
    exact ⟨rfl, sz, ht, D, ds, HH.out.2.1.below hbz HH.out.2.1.lt, HH.out.2.2.1.chg (S := fun _ => False) (Chg.of_below hbz) (fun i hi => hi.elim), rfl, by omega, HB.out.2.2.2, Chg.of_below (Below.on HH.out.1 hbz), fun hu => hu.keep (Below.on HH.out.1 hbz)⟩
  | true =>
    obtain ⟨r1, r2⟩ := (okQ_parts hok).2 (x, y) (by simp)
    obtain ⟨a, rfl⟩ : ∃ a : Nat, x = a := ⟨x.toNat, by have : 0 ≤ x := r1.1; omega⟩
    obtain ⟨b, rfl⟩ : ∃ b : Nat, y = b := ⟨y.toNat, by have : 0 ≤ y := r2.1; omega⟩
    have ha : a < n := by have : (a : Int) < n := r1.2; omega
    have hb : b < n := by have : (b : Int) < n := r2.2; omega
    have OR := okStep_rep hfv (show a < u.length by omega) (show b < u.length by omega)
    have SF := Lib.hid (fun (wz : World) (hz : Below W.heap.size W wz) => stepFor_any H J M N n a b sz ht u D wz (hSW.below hz hSW.lt) ha hb)
    rw [hok] at PV
    obtain ⟨s, hs⟩ : ∃ s, s = okStep u ((a : Int), (b : Int)) := ⟨_, rfl⟩
    rw [← hs] at OR ⊢
    by_cases hpq : rootI u a = rootI u b
    · have hs0 := OR.1 hpq
      rw [decide_eq_true hpq] at SF
      rw [hs0, if_neg (by decide), if_neg (by decide)]
      clear h hD hB hBw hl hfn hW1 hW e1 eW hP1 hP hQ hbW hSW hDW hPe hQe hfv hlen hok r1 r2 ha hb OR hs hs0 hpq
      have hbb : Below W.heap.size W W := Below.refl _ _
      go_enter Try.func141, Try.ntmps141
      go_wp2_with fail
      rw [← HW.out.2.1, ← HW.out.1, ← HW.out.2.2.2, ← HW.out.2.2.1]
      go_region_held3 (fun w' => Below W.heap.size W w' ∧ w'.cell? ⟨H, 0, none⟩ = some (.pointer (some ⟨J, 0, none⟩)) ∧ w'.cell? ⟨J, 0, none⟩ = some (.slice (some ⟨M, 0, none⟩) n n) ∧ w'.cell? ⟨Q, 0, none⟩ = some (.int .i64 (a : Int)) ∧ w'.cell? ⟨Q, 1, none⟩ = some (.int .i64 (b : Int)))
        (first | assumption | exact held4_drew ⟨by assumption, by assumption, by assumption, by assumption, by assumption⟩ | exact held4_drew (by assumption) | exact held4_call (by assumption) ((Below.refl _ _).alloc (Nat.le_refl _) _) (Below.size (And.left (by assumption))) | exact held4_call (by assumption) (by assumption) (Below.size (And.left (by assumption))))
        (first | (go_at_call 78; refine (PV.out _ _ (rdq_oneD W _ _)).mono ?_; rintro e w8 ⟨rfl, hb8⟩))
      obtain ⟨hbz, _, _, q1, q2⟩ := ‹Below W.heap.size W _ ∧ _›
      have SFZ := Lib.hid (SF.out _ hbz)
      have HZ := Lib.hid hbz
      clear hbz SF
      go_wp2_with fail
      refine SFZ.out.mono ?_
      rintro e w2 ⟨rfl, hb2⟩
      have hbz2 := Below.on HZ.out hb2
      obtain ⟨V, hV⟩ : ∃ V, V = w2.alloc (.cells #[.int .i64 (stR u a b : Int), .int .i64 (stT u a b : Int)] 45) := ⟨_, rfl⟩
      have hbV : Below W.heap.size W V := Below.on hbz2 (by rw [hV]; exact (Below.refl _ _).alloc (Nat.le_refl _) _)
      have HV := Lib.hid (And.intro hbV hV)
      clear hb2 hbz2 hV hbV
      go_wp2_with fail
      go_ret
      rw [← HV.out.2]
      have hbz := HV.out.1
      exact ⟨rfl, sz, ht, D, ds, HH.out.2.1.below hbz HH.out.2.1.lt, HH.out.2.2.1.chg (S := fun _ => False) (Chg.of_below hbz) (fun i hi => hi.elim), rfl, by omega, HB.out.2.2.2, Chg.of_below (Below.on HH.out.1 hbz), fun hu => hu.keep (Below.on HH.out.1 hbz)⟩
    · have hs1 := OR.2 hpq
      have SF0 := SF
      by_cases heq : stR u a b = a ∧ stT u a b = b
      · rw [decide_eq_true heq] at hs1
        rw [hs1, if_pos rfl, if_pos rfl]
        have T : Two u a b := (okStep_two hfv (hs.symm.trans hs1)).1
        have HT := Lib.hid T
        have HSET : Hid (u.set ((a : Int)).toNat (b : Int) = hang u a b) := by
          show _ = _
          rw [Int.toNat_natCast]
          rfl
        rw [HSET.out]
        rw [heq.1, heq.2] at SF
        clear SF0 heq T
        rw [decide_eq_false hpq] at SF
        clear hs1 h hD hB hBw hl hfn hW1 hW e1 eW hP1 hP hQ hbW hSW hDW hPe hQe hok r1 r2 OR hs
        have hbb : Below W.heap.size W W := Below.refl _ _
        go_enter Try.func141, Try.ntmps141
        go_wp2_with fail
        rw [← HW.out.2.1, ← HW.out.1, ← HW.out.2.2.2, ← HW.out.2.2.1]
        go_region_held3 (fun w' => Below W.heap.size W w' ∧ w'.cell? ⟨H, 0, none⟩ = some (.pointer (some ⟨J, 0, none⟩)) ∧ w'.cell? ⟨J, 0, none⟩ = some (.slice (some ⟨M, 0, none⟩) n n) ∧ w'.cell? ⟨Q, 0, none⟩ = some (.int .i64 (a : Int)) ∧ w'.cell? ⟨Q, 1, none⟩ = some (.int .i64 (b : Int)))
          (first | assumption | exact held4_drew ⟨by assumption, by assumption, by assumption, by assumption, by assumption⟩ | exact held4_drew (by assumption) | exact held4_call (by assumption) ((Below.refl _ _).alloc (Nat.le_refl _) _) (Below.size (And.left (by assumption))) | exact held4_call (by assumption) (by assumption) (Below.size (And.left (by assumption))))
          (first | (go_at_call 78; refine (PV.out _ _ (rdq_oneD W _ _)).mono ?_; rintro e w8 ⟨rfl, hb8⟩))
        obtain ⟨hbz, _, _, q1, q2⟩ := ‹Below W.heap.size W _ ∧ _›
        have SFZ := Lib.hid (SF.out _ hbz)
        have HZ := Lib.hid hbz
        clear hbz SF
        go_wp2_with fail
        refine SFZ.out.mono ?_
        rintro e w2 ⟨rfl, hb2⟩
        have hbz2 := Below.on HZ.out hb2
        obtain ⟨V, hV⟩ : ∃ V, V = w2.alloc (.cells #[.int .i64 (a : Int), .int .i64 (b : Int)] 45) := ⟨_, rfl⟩
        have hbV : Below W.heap.size W V := Below.on hbz2 (by rw [hV]; exact (Below.refl _ _).alloc (Nat.le_refl _) _)
        have HV := Lib.hid (And.intro hbV hV)
        have hPV := (hbV.block P (by have := HH.out.2.2.2.2.2; have := HW.out.2.2.1; omega)).trans HH.out.2.2.2.1
        obtain ⟨⟨p1, p2⟩, _⟩ := boxTwo_cells hPV
        rw [hV] at p1 p2
        clear hb2 hbz2 hV hbV hPV
        have hVs := HV.out.1
        have hsV := hVs.size
        have hsW := HH.out.1.size
        have DO := Lib.hid (do_any H J M N n a b sz ht u D ds base V (HH.out.2.1.below hVs HH.out.2.1.lt) HT.out (HH.out.2.2.1.chg (S := fun _ => False) (Chg.of_below hVs) (fun i hi => hi.elim)) HB.out.1 (by have := HB.out.2.1; omega) HB.out.2.2.1)
        clear hVs hsV hsW
        go_wp2_with fail
        rw [← HV.out.2]
        refine DO.out.mono ?_
        rintro e w3 ⟨⟨v, rfl⟩, D', F, hS', hD', hU, hc⟩
        have HQ := Lib.hid (And.intro hS' (And.intro hD' (And.intro hc hU)))
        clear hS' hD' hc hU
        go_wp2_with fail
        go_ret
        obtain ⟨hS', hD', hc, hU⟩ := HQ.out
        have hU0 := hU
        obtain ⟨_, _, _, hF, _⟩ := hU0
        refine ⟨rfl, _, _, D', _, hS', hD', by simp [stepsOf], by simp, HB.out.2.2.2.snoc ⟨_, _, _, hF⟩, (Chg.of_below (Below.on HH.out.1 HV.out.1)).trans (hc.weak (fun i hi => ?_)), fun hu => ?_⟩
        · rcases hi with h | h | h | h
          · exact .inl h
          · exact .inr (.inl h)
          · exact .inr (.inr (.inl h))
          · exact .inr (.inr (.inr (World.ownsRow.lt HH.out.2.2.1 i h).1))
        · have hSV := HH.out.2.1
          have o1 := hSV.o1
          have o2 := hSV.o2
          have o3 := hSV.o3
          have hHb := HB.out.1
          exact .snoc ((hu.keep (Below.on HH.out.1 HV.out.1)).done (HH.out.2.2.1.chg (S := fun _ => False) (Chg.of_below HV.out.1) (fun i hi => hi.elim)) hHb (by omega) (by omega) hc) HT.out hU
      · rw [decide_eq_false heq] at hs1
        rw [hs1, if_neg (by decide), if_neg (by decide)]
        clear SF0
        rw [decide_eq_false hpq] at SF
        clear hs1 h hD hB hBw hl hfn hW1 hW e1 eW hP1 hP hQ hbW hSW hDW hPe hQe hok r1 r2 OR hs
        have hbb : Below W.heap.size W W := Below.refl _ _
        go_enter Try.func141, Try.ntmps141
        go_wp2_with fail
        rw [← HW.out.2.1, ← HW.out.1, ← HW.out.2.2.2, ← HW.out.2.2.1]
        go_region_held3 (fun w' => Below W.heap.size W w' ∧ w'.cell? ⟨H, 0, none⟩ = some (.pointer (some ⟨J, 0, none⟩)) ∧ w'.cell? ⟨J, 0, none⟩ = some (.slice (some ⟨M, 0, none⟩) n n) ∧ w'.cell? ⟨Q, 0, none⟩ = some (.int .i64 (a : Int)) ∧ w'.cell? ⟨Q, 1, none⟩ = some (.int .i64 (b : Int)))
          (first | assumption | exact held4_drew ⟨by assumption, by assumption, by assumption, by assumption, by assumption⟩ | exact held4_drew (by assumption) | exact held4_call (by assumption) ((Below.refl _ _).alloc (Nat.le_refl _) _) (Below.size (And.left (by assumption))) | exact held4_call (by assumption) (by assumption) (Below.size (And.left (by assumption))))
          (first | (go_at_call 78; refine (PV.out _ _ (rdq_oneD W _ _)).mono ?_; rintro e w8 ⟨rfl, hb8⟩))
        obtain ⟨hbz, _, _, q1, q2⟩ := ‹Below W.heap.size W _ ∧ _›
        have SFZ := Lib.hid (SF.out _ hbz)
        have HZ := Lib.hid hbz
        clear hbz SF
        go_wp2_with fail
        refine SFZ.out.mono ?_
        rintro e w2 ⟨rfl, hb2⟩
        have hbz2 := Below.on HZ.out hb2
        obtain ⟨V, hV⟩ : ∃ V, V = w2.alloc (.cells #[.int .i64 (stR u a b : Int), .int .i64 (stT u a b : Int)] 45) := ⟨_, rfl⟩
        have hbV : Below W.heap.size W V := Below.on hbz2 (by rw [hV]; exact (Below.refl _ _).alloc (Nat.le_refl _) _)
        have HV := Lib.hid (And.intro hbV hV)
        have HB2 := Lib.hid hbz2
        have hPV := (hbV.block P (by have := HH.out.2.2.2.2.2; have := HW.out.2.2.1; omega)).trans HH.out.2.2.2.1
        obtain ⟨⟨p1, p2⟩, _⟩ := boxTwo_cells hPV
        rw [hV] at p1 p2
        clear hb2 hbz2 hV hbV hPV
        go_wp2_with fail
        all_goals
          go_ret
          have hal := HB2.out.size
          exact ⟨rfl, sz, ht, D, ds, HH.out.2.1.below (HB2.out.alloc hal _) HH.out.2.1.lt, HH.out.2.2.1.chg (S := fun _ => False) (Chg.of_below (HB2.out.alloc hal _)) (fun i hi => hi.elim), rfl, by omega, HB.out.2.2.2, Chg.of_below (Below.on HH.out.1 (HB2.out.alloc hal _)), fun hu => hu.keep (Below.on HH.out.1 (HB2.out.alloc hal _))⟩
end Go.Proofs.Ytdbkoicbhddpfaa
