/- The program's histories: a new one, its log, LogOf of no pairs, NewLog. -/
import Derived.Test.YtdbkoicbhddpfaaLogs
import Derived.Test.YtdbkoicbhddpfaaJoins
import Derived.Test.YtdbkoicbhddpfaaPairsOk
namespace Go.Proofs.Ytdbkoicbhddpfaa
open Go.RowKit Go.Shelf

/-- The history at H: a joining at J, and what has been done. -/
def HistAt (w : World) (H J : Nat) (D : Value) : Prop := w.heap[H]? = some (.cells #[.pointer (some ⟨J, 0, none⟩), D] 116 (0, 0))
set_option maxRecDepth 100000 in
set_option maxHeartbeats 2000000 in
theorem newHistory_any (n : Int) (w : World) :
    Calls Try.prog 98 #[.int .i64 n] w fun e w' => Below w.heap.size w w' ∧ ((newOk n = false ∧ e = .returned (.pointer none)) ∨
      (newOk n = true ∧ ∃ H J M N, e = .returned (.pointer (some ⟨H, 0, none⟩)) ∧ HistAt w' H J (.slice none 0 0) ∧ Nd w' N (roots n.toNat) ∧ MemK w' M N n.toNat n.toNat (szN (roots n.toNat)) (htN (roots n.toNat)) ∧ Boxed w' J 182 (.slice (some ⟨M, 0, none⟩) n.toNat n.toNat) ∧ w.heap.size ≤ N ∧ N < M ∧ M < J ∧ J < H)) := by
  have NW := rd2_of (implNew_any n w)
  by_cases hn : 1 ≤ n ∧ n ≤ 16
  · obtain ⟨m, rfl⟩ := Int.eq_ofNat_of_zero_le (show 0 ≤ n by omega)
    have e1 : newOk (m : Int) = true := by unfold newOk; exact decide_eq_true hn
    have e2 : newN (m : Int) = m := by unfold newN; rw [if_pos hn]; simp
    rw [e1, e2, roots_len] at NW
    rw [e1, Int.toNat_natCast]
    have hfv := roots_fv (n := m) (by omega) (by omega)
    have JO := fun (A : Option Addr) (c : Nat) (w1 : World) (h : Rd w1 w1.heap.size A m (roots m)) => joiningOf_any A m c _ (roots m) w1 h (Nat.le_refl _) (by omega)
    rw [hfv] at JO
    have JO := Lib.hid JO
    have NW := Lib.hid NW
    clear e1 e2 hfv hn
    go_enter Try.func98, Try.ntmps98
    go_wp2_with fail
    refine NW.out.mono ?_
    rintro e w1 ⟨A, c, rfl, hr, hb1⟩
    have JO := Lib.hid (JO.out A c w1 hr)
    clear hr
    go_wp2_with fail
    refine JO.out.mono ?_
    rintro e w2 ⟨hb2, ⟨hv, _⟩ | ⟨_, J, M, N, rfl, hN, hm, hj, h1, h2, h3⟩⟩
    · cases hv
    · have HH := Lib.hid (And.intro hN (And.intro hm (And.intro hj (And.intro hb1 (And.intro hb2 (And.intro h1 (And.intro h2 h3)))))))
      clear hN hm hj hb1 hb2 h1 h2 h3 NW JO
      go_wp2_with fail
      go_ret
      obtain ⟨hN, hm, hj, hb1, hb2, h1, h2, h3⟩ := HH.out
      have hjl := hj.lt
      have hs1 := hb1.size
      have hba : Below w2.heap.size w2 (w2.alloc (.cells #[.pointer (some ⟨J, 0, none⟩), .slice none 0 0] 116)) := (Below.refl _ _).alloc (Nat.le_refl _) _
      have hNd : Nd w2 N (roots m) := by unfold Nd; rw [roots_len]; exact hN.1
      exact ⟨Below.on (Below.on hb1 hb2) hba, .inr ⟨trivial, w2.heap.size, J, M, N, rfl, World.alloc_heap_new w2 _, hNd.eq (hba.block N hNd.lt), hm.below hba hm.lt, hj.alloc _, by omega, h2, h3, hjl⟩⟩
  · have e1 : newOk n = false := by unfold newOk; exact decide_eq_false hn
    rw [e1] at NW
    rw [e1]
    have e2 : newN n = 0 := by unfold newN; rw [if_neg hn]
    rw [e2, roots_len] at NW
    have NW := Lib.hid NW
    clear e1 hn e2
    go_enter Try.func98, Try.ntmps98
    go_wp2_with fail
    refine NW.out.mono ?_
    rintro e w1 ⟨A, c, rfl, _, hb1⟩
    go_wp2_with fail
    go_ret
    exact ⟨hb1, .inl ⟨trivial, rfl⟩⟩
set_option maxRecDepth 100000 in
set_option maxHeartbeats 2000000 in
theorem logNil_any (H J M N n : Nat) (sz ht : Nat → Nat) (u : List Int) (w : World) (hh : HistAt w H J (.slice none 0 0)) (hm : MemK w M N n n sz ht) (hj : Boxed w J 182 (.slice (some ⟨M, 0, none⟩) n n)) (hN : Nd w N u) (hv : fvB u = true) (hn : u.length = n) :
    Calls Try.prog 80 #[.pointer (some ⟨H, 0, none⟩)] w fun e w' => ∃ v, e = .returned (.agg #[v, .slice none 0 0]) ∧ Own w' w.heap.size v u ∧ Below w.heap.size w w' := by
  have hlt : H < w.heap.size := (Array.getElem?_eq_some_iff.1 hh).1
  have h16 := (fv_parts hv).2.1
  obtain ⟨W0, hW0⟩ : ∃ W0, W0 = w.alloc (.cells #[.slice none 0 0, .slice none 0 0] 26) := ⟨_, rfl⟩
  have hb0 : Below w.heap.size w W0 := by rw [hW0]; exact log_box w _ _
  have hh0 : HistAt W0 H J (.slice none 0 0) := (hb0.block H hlt).trans hh
  have hj0 : Boxed W0 J 182 (.slice (some ⟨M, 0, none⟩) n n) := (hb0.block J hj.lt).trans hj
  have FO := Lib.hid (forest_any J M N n sz ht u W0 (hm.below hb0 hm.lt) hj0 (hN.eq (hb0.block N hN.lt)) hv hn (by omega))
  obtain ⟨⟨a1, a2⟩, _⟩ := boxTwo_cells hh0
  have hR : W0.heap[w.heap.size]? = some (.cells #[.slice none 0 0, .slice none 0 0] 26 (0, 0)) := by rw [hW0]; exact World.alloc_heap_new w _
  have h0s : W0.heap.size = w.heap.size + 1 := by rw [hW0]; simp
  have HH := Lib.hid (And.intro hh0 (And.intro hb0 (And.intro hR h0s)))
  have HW0 := Lib.hid hW0
  clear hh hm hj hN hv hn h16 hb0 hh0 hj0 hR h0s hW0
  have a1' : (w.alloc (.cells #[.slice none 0 0, .slice none 0 0] 26)).cell? ⟨H, 0, none⟩ = some (.pointer (some ⟨J, 0, none⟩)) := by rw [← HW0.out]; exact a1
  clear a1 a2
  go_enter Try.func80, Try.ntmps80
  go_wp2_with fail
  rw [← HW0.out]
  refine FO.out.mono ?_
  rintro e w1 ⟨v, rfl, ho, hb1⟩
  obtain ⟨A, c, rfl, _⟩ := ho.form
  have hs1 := hb1.size
  obtain ⟨V, hV⟩ : ∃ V, V = w1.alloc (.cells #[.slice A u.length c, .slice none 0 0] 26) := ⟨_, rfl⟩
  have hbV : Below w1.heap.size w1 V := by rw [hV]; exact log_box w1 _ _
  obtain ⟨⟨b1, b2⟩, _⟩ := boxTwo_cells (show HistAt V H J (.slice none 0 0) from (hbV.block H (by have := HH.out.2.2.2; omega)).trans ((hb1.block H (by have := HH.out.2.2.2; omega)).trans HH.out.1))
  have hRV : V.heap[w.heap.size]? = some (.cells #[.slice none 0 0, .slice none 0 0] 26 (0, 0)) := (hbV.block _ (by have := HH.out.2.2.2; omega)).trans ((hb1.block _ (by have := HH.out.2.2.2; omega)).trans HH.out.2.2.1)
  obtain ⟨⟨r1, r2⟩, f1, f2⟩ := boxTwo_cells hRV
  obtain ⟨⟨l1, l2⟩, _⟩ := boxTwo_cells (show V.heap[w1.heap.size]? = some (.cells #[.slice A u.length c, .slice none 0 0] 26 (0, 0)) by rw [hV]; exact World.alloc_heap_new w1 _)
  have hoV : Own V w.heap.size (.slice A u.length c) u := (ho.keep hbV (Nat.le_refl _)).less (by have := HH.out.2.2.2; omega)
  have hbb : Below w.heap.size w V := Below.on (Below.on HH.out.2.1 hb1) hbV
  have HX := Lib.hid (And.intro ho.blockOf (And.intro hoV (And.intro hbb hRV)))
  have HV := Lib.hid hV
  rw [hV] at b2
  clear ho hb1 hV hbV hRV hoV hbb b1
  go_wp2_with fail
  rw [← HV.out]
  clear b2
  go_loopw [17] (fun i wr => i = .int .i64 0 ∧ V = wr) (fun _ _ => 0)
  case atStart => exact ⟨rfl, rfl⟩
  case round =>
    obtain ⟨rfl, rfl⟩ := hrel
    go_wp2_with fail
    obtain ⟨hx, hoV, hbb, hRV⟩ := HX.out
    have hg := boxTwo_grown V w.heap.size (.slice A u.length c) (.slice none 0 0)
    obtain ⟨⟨k1, k2⟩, _⟩ := boxTwo_cells (boxTwo_set hRV (.slice A u.length c) (.slice none 0 0))
    refine bodyPost_ret (v := .agg #[.slice A u.length c, .slice none 0 0]) (by simp [results, Try.results80, go_sem, k1, k2]) rfl ?_
    refine ⟨_, rfl, hoV.kept hg ?_, boxTwo_below hbb (Nat.le_refl _) _ _⟩
    refine .inr (fun e => ?_)
    have := (hx _ e).1
    have := HH.out.2.2.2
    omega
set_option maxRecDepth 100000 in
set_option maxHeartbeats 2000000 in
/-- LogOf of no pairs. -/
theorem logOfNil_any (n : Int) (w : World) :
    Calls Try.prog 33 #[.int .i64 n, .slice none 0 0] w fun e w' => ∃ v, e = .returned (.tuple #[.agg #[v, .slice none 0 0], .bool (newOk n)]) ∧ Own w' w.heap.size v (roots (newN n)) ∧ Below w.heap.size w w' := by
  obtain ⟨W0, hW0⟩ : ∃ W0, W0 = w.alloc (.cells #[.slice none 0 0, .slice none 0 0] 26) := ⟨_, rfl⟩
  have hb0 : Below w.heap.size w W0 := by rw [hW0]; exact log_box w _ _
  have hR : W0.heap[w.heap.size]? = some (.cells #[.slice none 0 0, .slice none 0 0] 26 (0, 0)) := by rw [hW0]; exact World.alloc_heap_new w _
  have h0s : W0.heap.size = w.heap.size + 1 := by rw [hW0]; simp
  have NH := newHistory_any n W0
  have HH := Lib.hid (And.intro hb0 (And.intro hR h0s))
  have HW0 := Lib.hid hW0
  by_cases hn : 1 ≤ n ∧ n ≤ 16
  · have e1 : newOk n = true := by unfold newOk; exact decide_eq_true hn
    have e2 : newN n = n.toNat := by unfold newN; rw [if_pos hn]
    have hfv := roots_fv (n := n.toNat) (by omega) (by omega)
    have hlen := roots_len n.toNat
    have hok : okQ n [] = true := okQ_of (by simp) (fun p hp => by simp at hp)
    have PV := fun (w2 : World) => pairsValid_any n none 0 0 w2.heap.size [] w2 (RdQ.nil _ _ _) (Nat.le_refl _) (by omega)
    rw [hok] at PV
    have PV := Lib.hid PV
    rw [e1] at NH
    rw [e1, e2]
    have NH := Lib.hid NH
    have HF := Lib.hid (And.intro hfv hlen)
    clear hn e1 e2 hfv hlen hok hW0 hb0 hR h0s
    go_enter Try.func33, Try.ntmps33
    go_wp2_with fail
    rw [← HW0.out]
    refine NH.out.mono ?_
    rintro e w1 ⟨hb1, ⟨hv, _⟩ | ⟨_, H, J, M, N, rfl, hh, hN, hm, hj, h1, h2, h3, h4⟩⟩
    · cases hv
    · have HI := Lib.hid (And.intro hb1 (And.intro hh (And.intro hN (And.intro hm hj))))
      clear hb1 hh hN hm hj h1 h2 h3 h4
      go_wp2_with fail
      refine (PV.out _).mono ?_
      rintro e w2 ⟨rfl, hb2⟩
      have HB2 := Lib.hid hb2
      clear hb2
      go_wp2_with fail
      go_loopw [22] (fun i wr => i = .int .i64 0 ∧ w2 = wr) (fun _ _ => 0)
      case atStart => exact ⟨rfl, rfl⟩
      case round =>
        obtain ⟨rfl, rfl⟩ := hrel
        obtain ⟨hb1, hh, hN, hm, hj⟩ := HI.out
        have hb2 := HB2.out
        have LG := Lib.hid (logNil_any H J M N n.toNat _ _ (roots n.toNat) w2 ((hb2.block H (Array.getElem?_eq_some_iff.1 hh).1).trans hh) (hm.below hb2 hm.lt) ((hb2.block J hj.lt).trans hj) (hN.eq (hb2.block N hN.lt)) HF.out.1 HF.out.2)
        clear hb1 hh hN hm hj hb2
        go_wp2_with fail
        refine LG.out.mono ?_
        rintro e w3 ⟨v, rfl, ho, hb3⟩
        obtain ⟨A, c, rfl, _⟩ := ho.form
        have hb03 : Below W0.heap.size W0 w3 := Below.on (Below.on HI.out.1 HB2.out) hb3
        have hR3 : w3.heap[w.heap.size]? = some (.cells #[.slice none 0 0, .slice none 0 0] 26 (0, 0)) := (hb03.block _ (by have := HH.out.2.2; omega)).trans HH.out.2.1
        obtain ⟨⟨r1, r2⟩, f1, f2⟩ := boxTwo_cells hR3
        have HX := Lib.hid (And.intro ho (And.intro hb03 (And.intro hR3 (Below.on HI.out.1 HB2.out).size)))
        clear ho hb3 hb03 hR3
        go_wp2_with fail
        obtain ⟨ho, hb03, hR3, hs⟩ := HX.out
        have hx := ho.blockOf
        have hs0 := HH.out.2.2
        have hg := boxTwo_grown w3 w.heap.size (.slice A (roots n.toNat).length c) (.slice none 0 0)
        obtain ⟨⟨k1, k2⟩, _⟩ := boxTwo_cells (boxTwo_set hR3 (.slice A (roots n.toNat).length c) (.slice none 0 0))
        refine bodyPost_ret (v := .tuple #[.agg #[.slice A (roots n.toNat).length c, .slice none 0 0], .bool true]) (by simp [results, Try.results33, go_sem, k1, k2]) rfl ?_
        refine ⟨_, rfl, (ho.less (by omega)).kept hg ?_, boxTwo_below (Below.on HH.out.1 hb03) (Nat.le_refl _) _ _⟩
        refine .inr (fun e => ?_)
        have := (hx _ e).1
        omega
  · have e1 : newOk n = false := by unfold newOk; exact decide_eq_false hn
    have e2 : newN n = 0 := by unfold newN; rw [if_neg hn]
    rw [e1] at NH
    rw [e1, e2]
    have NH := Lib.hid NH
    clear hn e1 e2 hW0 hb0 hR h0s
    go_enter Try.func33, Try.ntmps33
    go_wp2_with fail
    rw [← HW0.out]
    refine NH.out.mono ?_
    rintro e w1 ⟨hb1, ⟨_, rfl⟩ | ⟨hv, _⟩⟩
    · have hR3 : w1.heap[w.heap.size]? = some (.cells #[.slice none 0 0, .slice none 0 0] 26 (0, 0)) := (hb1.block _ (by have := HH.out.2.2; omega)).trans HH.out.2.1
      obtain ⟨⟨r1, r2⟩, f1, f2⟩ := boxTwo_cells hR3
      have HX := Lib.hid (And.intro hb1 hR3)
      clear hb1 hR3
      go_wp2_with fail
      obtain ⟨hb1, hR3⟩ := HX.out
      obtain ⟨⟨k1, k2⟩, _⟩ := boxTwo_cells (boxTwo_set hR3 (.slice none 0 0) (.slice none 0 0))
      refine bodyPost_ret (v := .tuple #[.agg #[.slice none 0 0, .slice none 0 0], .bool false]) (by simp [results, Try.results33, go_sem, k1, k2]) rfl ?_
      exact ⟨_, rfl, World.ownsRow_nil _ _ _ _, boxTwo_below (Below.on HH.out.1 hb1) (Nat.le_refl _) _ _⟩
    · cases hv
set_option maxRecDepth 100000 in
set_option maxHeartbeats 2000000 in
theorem implNewLog_any (n : Int) (w : World) :
    Calls Try.prog 36 #[.int .i64 n] w fun e w' => ∃ v, e = .returned (.tuple #[.agg #[v, .slice none 0 0], .bool (newOk n)]) ∧ Own w' w.heap.size v (roots (newN n)) ∧ Below w.heap.size w w' := by
  obtain ⟨W0, hW0⟩ : ∃ W0, W0 = w.alloc (.cells #[.slice none 0 0, .slice none 0 0] 26) := ⟨_, rfl⟩
  have hb0 : Below w.heap.size w W0 := by rw [hW0]; exact log_box w _ _
  have hR : W0.heap[w.heap.size]? = some (.cells #[.slice none 0 0, .slice none 0 0] 26 (0, 0)) := by rw [hW0]; exact World.alloc_heap_new w _
  have h0s : W0.heap.size = w.heap.size + 1 := by rw [hW0]; simp
  have LO := logOfNil_any n W0
  have HH := Lib.hid (And.intro hb0 (And.intro hR h0s))
  have HW0 := Lib.hid hW0
  obtain ⟨ok, hok⟩ : ∃ ok, ok = newOk n := ⟨_, rfl⟩
  obtain ⟨xs, hxs⟩ : ∃ xs, xs = roots (newN n) := ⟨_, rfl⟩
  rw [← hok, ← hxs] at LO
  rw [← hok, ← hxs]
  have LO := Lib.hid LO
  clear hok hxs hW0 hb0 hR h0s
  go_enter Try.func36, Try.ntmps36
  go_wp2_with fail
  rw [← HW0.out]
  refine LO.out.mono ?_
  rintro e w3 ⟨v, rfl, ho, hb3⟩
  obtain ⟨A, c, rfl, _⟩ := ho.form
  have hR3 : w3.heap[w.heap.size]? = some (.cells #[.slice none 0 0, .slice none 0 0] 26 (0, 0)) := (hb3.block _ (by have := HH.out.2.2; omega)).trans HH.out.2.1
  obtain ⟨⟨r1, r2⟩, f1, f2⟩ := boxTwo_cells hR3
  have HX := Lib.hid (And.intro ho (And.intro hb3 hR3))
  clear ho hb3 hR3
  go_wp2_with fail
  obtain ⟨ho, hb3, hR3⟩ := HX.out
  have hx := ho.blockOf
  have hs0 := HH.out.2.2
  have hg := boxTwo_grown w3 w.heap.size (.slice A xs.length c) (.slice none 0 0)
  obtain ⟨⟨k1, k2⟩, _⟩ := boxTwo_cells (boxTwo_set hR3 (.slice A xs.length c) (.slice none 0 0))
  refine bodyPost_ret (v := .tuple #[.agg #[.slice A xs.length c, .slice none 0 0], .bool ok]) (by simp [results, Try.results36, go_sem, k1, k2]) rfl ?_
  refine ⟨_, rfl, (ho.less (by omega)).kept hg ?_, boxTwo_below (Below.on HH.out.1 hb3) (Nat.le_refl _) _ _⟩
  refine .inr (fun e => ?_)
  have := (hx _ e).1
  omega
end Go.Proofs.Ytdbkoicbhddpfaa
