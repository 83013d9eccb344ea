/- Doing a step of a history. -/
import Derived.Test.YtmkdiifjecnokaaGreatLogs
import Derived.Test.YtmkdiifjecnokaaGreatJoins
import Derived.Test.YtmkdiifjecnokaaGreatPairsOk
import Derived.Test.YtmkdiifjecnokaaGreatJoin
import Derived.BigRegion
import Derived.Deep.DeepCutAuto
import Derived.Deep.RegionLaw
import Derived.Deep.AppendLies
import Derived.Laws.EntriesVeiled
namespace Go.Proofs.YtmkdiifjecnokaaGreat
open Go.RowKit Go.Shelf

/-- The history at H: a joining at J, and what has been done. -/
def HistAt (w : World) (H J : Nat) (D : Value) : Prop := w.heap[H]? = some (.cells #[.pointer (some ⟨J, 0, none⟩), D] 128 (0, 0))
set_option maxRecDepth 100000 in
set_option maxHeartbeats 2000000 in
theorem newHistory_any (n : Int) (w : World) :
    Calls Tryz.prog 37 #[.int .i64 n] w fun e w' => Below w.heap.size w w' ∧ ((newOk n = false ∧ e = .returned (.pointer none)) ∨
      (newOk n = true ∧ ∃ H J M N, e = .returned (.pointer (some ⟨H, 0, none⟩)) ∧ HistAt w' H J (.slice none 0 0) ∧ Nd w' N (roots n.toNat) ∧ MemK w' M N n.toNat n.toNat (szN (roots n.toNat)) (htN (roots n.toNat)) ∧ Boxed w' J 108 (.slice (some ⟨M, 0, none⟩) n.toNat n.toNat) ∧ w.heap.size ≤ N ∧ N < M ∧ M < J ∧ J < H)) := by
  have NW := rd2_of (implNew_any n w)
  by_cases hn : 1 ≤ n ∧ n ≤ 16
  · obtain ⟨m, rfl⟩ := Int.eq_ofNat_of_zero_le (show 0 ≤ n by omega)
    have e1 : newOk (m : Int) = true := by unfold newOk; exact decide_eq_true hn
    have e2 : newN (m : Int) = m := by unfold newN; rw [if_pos hn]; simp
    rw [e1, e2, roots_len] at NW
    rw [e1, Int.toNat_natCast]
    have hfv := roots_fv (n := m) (by omega) (by omega)
    have JO := fun (A : Option Addr) (c : Nat) (w1 : World) (h : Rd w1 w1.heap.size A m (roots m)) => joiningOf_any A m c _ (roots m) w1 h (Nat.le_refl _) (by omega)
    rw [hfv] at JO
    have JO := Lib.hid JO
    have NW := Lib.hid NW
    clear e1 e2 hfv hn
    go_enter Tryz.func37, Tryz.ntmps37
    go_wp2_with fail
    refine NW.out.mono ?_
    rintro e w1 ⟨A, c, rfl, hr, hb1⟩
    have JO := Lib.hid (JO.out A c w1 hr)
    clear hr
    go_wp2_with fail
    refine JO.out.mono ?_
    rintro e w2 ⟨hb2, ⟨hv, _⟩ | ⟨_, J, M, N, rfl, hN, hm, hj, h1, h2, h3⟩⟩
    · cases hv
    · have HH := Lib.hid (And.intro hN (And.intro hm (And.intro hj (And.intro hb1 (And.intro hb2 (And.intro h1 (And.intro h2 h3)))))))
      clear hN hm hj hb1 hb2 h1 h2 h3 NW JO
      go_wp2_with fail
      go_ret
      obtain ⟨hN, hm, hj, hb1, hb2, h1, h2, h3⟩ := HH.out
      have hjl := hj.lt
      have hs1 := hb1.size
      have hba : Below w2.heap.size w2 (w2.alloc (.cells #[.pointer (some ⟨J, 0, none⟩), .slice none 0 0] 128)) := (Below.refl _ _).alloc (Nat.le_refl _) _
      have hNd : Nd w2 N (roots m) := by unfold Nd; rw [roots_len]; exact hN.1
      exact ⟨Below.on (Below.on hb1 hb2) hba, .inr ⟨trivial, w2.heap.size, J, M, N, rfl, World.alloc_heap_new w2 _, hNd.eq (hba.block N hNd.lt), hm.below hba hm.lt, hj.alloc _, by omega, h2, h3, hjl⟩⟩
  · have e1 : newOk n = false := by unfold newOk; exact decide_eq_false hn
    rw [e1] at NW
    rw [e1]
    have e2 : newN n = 0 := by unfold newN; rw [if_neg hn]
    rw [e2, roots_len] at NW
    have NW := Lib.hid NW
    clear e1 hn e2
    go_enter Tryz.func37, Tryz.ntmps37
    go_wp2_with fail
    refine NW.out.mono ?_
    rintro e w1 ⟨A, c, rfl, _, hb1⟩
    go_wp2_with fail
    go_ret
    exact ⟨hb1, .inl ⟨trivial, rfl⟩⟩
set_option maxRecDepth 100000 in
set_option maxHeartbeats 2000000 in
theorem logNil_any (H J M N n : Nat) (sz ht : Nat → Nat) (u : List Int) (w : World) (hh : HistAt w H J (.slice none 0 0)) (hm : MemK w M N n n sz ht) (hj : Boxed w J 108 (.slice (some ⟨M, 0, none⟩) n n)) (hN : Nd w N u) (hv : fvB u = true) (hn : u.length = n) :
    Calls Tryz.prog 39 #[.pointer (some ⟨H, 0, none⟩)] w fun e w' => ∃ v, e = .returned (.agg #[v, .slice none 0 0]) ∧ Own w' w.heap.size v u ∧ Below w.heap.size w w' := by
  have hlt : H < w.heap.size := (Array.getElem?_eq_some_iff.1 hh).1
  have h16 := (fv_parts hv).2.1
  obtain ⟨W0, hW0⟩ : ∃ W0, W0 = w.alloc (.cells #[.slice none 0 0, .slice none 0 0] 47) := ⟨_, rfl⟩
  have hb0 : Below w.heap.size w W0 := by rw [hW0]; exact log_box w _ _
  have hh0 : HistAt W0 H J (.slice none 0 0) := (hb0.block H hlt).trans hh
  have hj0 : Boxed W0 J 108 (.slice (some ⟨M, 0, none⟩) n n) := (hb0.block J hj.lt).trans hj
  have FO := Lib.hid (forest_any J M N n sz ht u W0 (hm.below hb0 hm.lt) hj0 (hN.eq (hb0.block N hN.lt)) hv hn (by omega))
  obtain ⟨⟨a1, a2⟩, _⟩ := boxTwo_cells hh0
  have hR : W0.heap[w.heap.size]? = some (.cells #[.slice none 0 0, .slice none 0 0] 47 (0, 0)) := by rw [hW0]; exact World.alloc_heap_new w _
  have h0s : W0.heap.size = w.heap.size + 1 := by rw [hW0]; simp
  have HH := Lib.hid (And.intro hh0 (And.intro hb0 (And.intro hR h0s)))
  have HW0 := Lib.hid hW0
  clear hh hm hj hN hv hn h16 hb0 hh0 hj0 hR h0s hW0
  have a1' : (w.alloc (.cells #[.slice none 0 0, .slice none 0 0] 47)).cell? ⟨H, 0, none⟩ = some (.pointer (some ⟨J, 0, none⟩)) := by rw [← HW0.out]; exact a1
  clear a1 a2
  go_enter Tryz.func39, Tryz.ntmps39
  go_wp2_with fail
  rw [← HW0.out]
  refine FO.out.mono ?_
  rintro e w1 ⟨v, rfl, ho, hb1⟩
  obtain ⟨A, c, rfl, _⟩ := ho.form
  have hs1 := hb1.size
  obtain ⟨V, hV⟩ : ∃ V, V = w1.alloc (.cells #[.slice A u.length c, .slice none 0 0] 47) := ⟨_, rfl⟩
  have hbV : Below w1.heap.size w1 V := by rw [hV]; exact log_box w1 _ _
  obtain ⟨⟨b1, b2⟩, _⟩ := boxTwo_cells (show HistAt V H J (.slice none 0 0) from (hbV.block H (by have := HH.out.2.2.2; omega)).trans ((hb1.block H (by have := HH.out.2.2.2; omega)).trans HH.out.1))
  have hRV : V.heap[w.heap.size]? = some (.cells #[.slice none 0 0, .slice none 0 0] 47 (0, 0)) := (hbV.block _ (by have := HH.out.2.2.2; omega)).trans ((hb1.block _ (by have := HH.out.2.2.2; omega)).trans HH.out.2.2.1)
  obtain ⟨⟨r1, r2⟩, f1, f2⟩ := boxTwo_cells hRV
  obtain ⟨⟨l1, l2⟩, _⟩ := boxTwo_cells (show V.heap[w1.heap.size]? = some (.cells #[.slice A u.length c, .slice none 0 0] 47 (0, 0)) by rw [hV]; exact World.alloc_heap_new w1 _)
  have hoV : Own V w.heap.size (.slice A u.length c) u := (ho.keep hbV (Nat.le_refl _)).less (by have := HH.out.2.2.2; omega)
  have hbb : Below w.heap.size w V := Below.on (Below.on HH.out.2.1 hb1) hbV
  have HX := Lib.hid (And.intro ho.blockOf (And.intro hoV (And.intro hbb hRV)))
  have HV := Lib.hid hV
  rw [hV] at b2
  clear ho hb1 hV hbV hRV hoV hbb b1
  go_wp2_with fail
  rw [← HV.out]
  clear b2
  go_loopw [17] (fun i wr => i = .int .i64 0 ∧ V = wr) (fun _ _ => 0)
  case atStart => exact ⟨rfl, rfl⟩
  case round =>
    obtain ⟨rfl, rfl⟩ := hrel
    go_wp2_with fail
    obtain ⟨hx, hoV, hbb, hRV⟩ := HX.out
    have hg := boxTwo_grown V w.heap.size (.slice A u.length c) (.slice none 0 0)
    obtain ⟨⟨k1, k2⟩, _⟩ := boxTwo_cells (boxTwo_set hRV (.slice A u.length c) (.slice none 0 0))
    refine bodyPost_ret (v := .agg #[.slice A u.length c, .slice none 0 0]) (by simp [results, Tryz.results39, go_sem, k1, k2]) rfl ?_
    refine ⟨_, rfl, hoV.kept hg ?_, boxTwo_below hbb (Nat.le_refl _) _ _⟩
    refine .inr (fun e => ?_)
    have := (hx _ e).1
    have := HH.out.2.2.2
    omega
set_option maxRecDepth 100000 in
set_option maxHeartbeats 2000000 in
/-- LogOf of no pairs. -/
theorem logOfNil_any (n : Int) (w : World) :
    Calls Tryz.prog 17 #[.int .i64 n, .slice none 0 0] w fun e w' => ∃ v, e = .returned (.tuple #[.agg #[v, .slice none 0 0], .bool (newOk n)]) ∧ Own w' w.heap.size v (roots (newN n)) ∧ Below w.heap.size w w' := by
  obtain ⟨W0, hW0⟩ : ∃ W0, W0 = w.alloc (.cells #[.slice none 0 0, .slice none 0 0] 47) := ⟨_, rfl⟩
  have hb0 : Below w.heap.size w W0 := by rw [hW0]; exact log_box w _ _
  have hR : W0.heap[w.heap.size]? = some (.cells #[.slice none 0 0, .slice none 0 0] 47 (0, 0)) := by rw [hW0]; exact World.alloc_heap_new w _
  have h0s : W0.heap.size = w.heap.size + 1 := by rw [hW0]; simp
  have NH := newHistory_any n W0
  have HH := Lib.hid (And.intro hb0 (And.intro hR h0s))
  have HW0 := Lib.hid hW0
  by_cases hn : 1 ≤ n ∧ n ≤ 16
  · have e1 : newOk n = true := by unfold newOk; exact decide_eq_true hn
    have e2 : newN n = n.toNat := by unfold newN; rw [if_pos hn]
    have hfv := roots_fv (n := n.toNat) (by omega) (by omega)
    have hlen := roots_len n.toNat
    have hok : okQ n [] = true := okQ_of (by simp) (fun p hp => by simp at hp)
    have PV := fun (w2 : World) => pairsValid_any n none 0 0 w2.heap.size [] w2 (RdQ.nil _ _ _) (Nat.le_refl _) (by omega)
    rw [hok] at PV
    have PV := Lib.hid PV
    rw [e1] at NH
    rw [e1, e2]
    have NH := Lib.hid NH
    have HF := Lib.hid (And.intro hfv hlen)
    clear hn e1 e2 hfv hlen hok hW0 hb0 hR h0s
    go_enter Tryz.func17, Tryz.ntmps17
    go_wp2_with fail
    rw [← HW0.out]
    refine NH.out.mono ?_
    rintro e w1 ⟨hb1, ⟨hv, _⟩ | ⟨_, H, J, M, N, rfl, hh, hN, hm, hj, h1, h2, h3, h4⟩⟩
    · cases hv
    · have HI := Lib.hid (And.intro hb1 (And.intro hh (And.intro hN (And.intro hm hj))))
      clear hb1 hh hN hm hj h1 h2 h3 h4
      go_wp2_with fail
      refine (PV.out _).mono ?_
      rintro e w2 ⟨rfl, hb2⟩
      have HB2 := Lib.hid hb2
      clear hb2
      go_wp2_with fail
      go_loopw [22] (fun i wr => i = .int .i64 0 ∧ w2 = wr) (fun _ _ => 0)
      case atStart => exact ⟨rfl, rfl⟩
      case round =>
        obtain ⟨rfl, rfl⟩ := hrel
        obtain ⟨hb1, hh, hN, hm, hj⟩ := HI.out
        have hb2 := HB2.out
        have LG := Lib.hid (logNil_any H J M N n.toNat _ _ (roots n.toNat) w2 ((hb2.block H (Array.getElem?_eq_some_iff.1 hh).1).trans hh) (hm.below hb2 hm.lt) ((hb2.block J hj.lt).trans hj) (hN.eq (hb2.block N hN.lt)) HF.out.1 HF.out.2)
        clear hb1 hh hN hm hj hb2
        go_wp2_with fail
        refine LG.out.mono ?_
        rintro e w3 ⟨v, rfl, ho, hb3⟩
        obtain ⟨A, c, rfl, _⟩ := ho.form
        have hb03 : Below W0.heap.size W0 w3 := Below.on (Below.on HI.out.1 HB2.out) hb3
        have hR3 : w3.heap[w.heap.size]? = some (.cells #[.slice none 0 0, .slice none 0 0] 47 (0, 0)) := (hb03.block _ (by have := HH.out.2.2; omega)).trans HH.out.2.1
        obtain ⟨⟨r1, r2⟩, f1, f2⟩ := boxTwo_cells hR3
        have HX := Lib.hid (And.intro ho (And.intro hb03 (And.intro hR3 (Below.on HI.out.1 HB2.out).size)))
        clear ho hb3 hb03 hR3
        go_wp2_with fail
        obtain ⟨ho, hb03, hR3, hs⟩ := HX.out
        have hx := ho.blockOf
        have hs0 := HH.out.2.2
        have hg := boxTwo_grown w3 w.heap.size (.slice A (roots n.toNat).length c) (.slice none 0 0)
        obtain ⟨⟨k1, k2⟩, _⟩ := boxTwo_cells (boxTwo_set hR3 (.slice A (roots n.toNat).length c) (.slice none 0 0))
        refine bodyPost_ret (v := .tuple #[.agg #[.slice A (roots n.toNat).length c, .slice none 0 0], .bool true]) (by simp [results, Tryz.results17, go_sem, k1, k2]) rfl ?_
        refine ⟨_, rfl, (ho.less (by omega)).kept hg ?_, boxTwo_below (Below.on HH.out.1 hb03) (Nat.le_refl _) _ _⟩
        refine .inr (fun e => ?_)
        have := (hx _ e).1
        omega
  · have e1 : newOk n = false := by unfold newOk; exact decide_eq_false hn
    have e2 : newN n = 0 := by unfold newN; rw [if_neg hn]
    rw [e1] at NH
    rw [e1, e2]
    have NH := Lib.hid NH
    clear hn e1 e2 hW0 hb0 hR h0s
    go_enter Tryz.func17, Tryz.ntmps17
    go_wp2_with fail
    rw [← HW0.out]
    refine NH.out.mono ?_
    rintro e w1 ⟨hb1, ⟨_, rfl⟩ | ⟨hv, _⟩⟩
    · have hR3 : w1.heap[w.heap.size]? = some (.cells #[.slice none 0 0, .slice none 0 0] 47 (0, 0)) := (hb1.block _ (by have := HH.out.2.2; omega)).trans HH.out.2.1
      obtain ⟨⟨r1, r2⟩, f1, f2⟩ := boxTwo_cells hR3
      have HX := Lib.hid (And.intro hb1 hR3)
      clear hb1 hR3
      go_wp2_with fail
      obtain ⟨hb1, hR3⟩ := HX.out
      obtain ⟨⟨k1, k2⟩, _⟩ := boxTwo_cells (boxTwo_set hR3 (.slice none 0 0) (.slice none 0 0))
      refine bodyPost_ret (v := .tuple #[.agg #[.slice none 0 0, .slice none 0 0], .bool false]) (by simp [results, Tryz.results17, go_sem, k1, k2]) rfl ?_
      exact ⟨_, rfl, World.ownsRow_nil _ _ _ _, boxTwo_below (Below.on HH.out.1 hb1) (Nat.le_refl _) _ _⟩
    · cases hv
end Go.Proofs.YtmkdiifjecnokaaGreat
namespace Go.Proofs.YtmkdiifjecnokaaGreat
open Go.RowKit Go.Shelf
/-- A history's state: the forest, what is kept at roots, what has been done. -/
structure HistSt (w : World) (H J M N n : Nat) (sz ht : Nat → Nat) (u : List Int) (D : Value) : Prop where
  at_ : HistAt w H J D
  mem : MemK w M N n n sz ht
  box : Boxed w J 108 (.slice (some ⟨M, 0, none⟩) n n)
  nd : Nd w N u
  o1 : N < M
  o2 : M < J
  o3 : J < H
  fv : fvB u = true
  len : u.length = n
  tell : RootsTell u sz ht
theorem HistSt.lt {w : World} {H J M N n : Nat} {sz ht : Nat → Nat} {u : List Int} {D : Value} (h : HistSt w H J M N n sz ht u D) : H < w.heap.size := (Array.getElem?_eq_some_iff.1 h.at_).1
theorem HistSt.below {w w' : World} {C H J M N n : Nat} {sz ht : Nat → Nat} {u : List Int} {D : Value} (h : HistSt w H J M N n sz ht u D) (hb : Below C w w') (hC : H < C) : HistSt w' H J M N n sz ht u D := by
  have h1 := h.o1
  have h2 := h.o2
  have h3 := h.o3
  exact ⟨(hb.block H hC).trans h.at_, h.mem.below hb (by omega), (hb.block J (by omega)).trans h.box, h.nd.eq (hb.block N (by omega)), h1, h2, h3, h.fv, h.len, h.tell⟩
set_option maxRecDepth 100000 in
set_option maxHeartbeats 4000000 in
theorem stepFor_any (H J M N n a b : Nat) (sz ht : Nat → Nat) (u : List Int) (D : Value) (w : World) (h : HistSt w H J M N n sz ht u D) (ha : a < n) (hb : b < n) :
    Calls Tryz.prog 60 #[.pointer (some ⟨H, 0, none⟩), .agg #[.int .i64 (a : Int), .int .i64 (b : Int)]] w fun e w' =>
      e = .returned (.tuple #[.agg #[.int .i64 (stR u a b : Int), .int .i64 (stT u a b : Int)], .bool (!decide (rootI u a = rootI u b))]) ∧ Below w.heap.size w w' := by
  obtain ⟨W, hW⟩ : ∃ W, W = (w.alloc (.cells #[.int .i64 (a : Int), .int .i64 (b : Int)] 41)).alloc (.cells #[.int .i64 0, .int .i64 0] 52) := ⟨_, rfl⟩
  have hbW : Below w.heap.size w W := by rw [hW]; exact ((Below.refl _ _).alloc (Nat.le_refl _) _).alloc (by simp) _
  have hsW : W.heap.size = w.heap.size + 2 := by rw [hW]; simp
  have hRW : W.heap[w.heap.size + 1]? = some (.cells #[.int .i64 0, .int .i64 0] 52 (0, 0)) := by
    rw [hW]
    have := World.alloc_heap_new (w.alloc (.cells #[.int .i64 (a : Int), .int .i64 (b : Int)] 41)) (.cells #[.int .i64 0, .int .i64 0] 52)
    rwa [World.size_alloc] at this
  have hPW : W.heap[w.heap.size]? = some (.cells #[.int .i64 (a : Int), .int .i64 (b : Int)] 41 (0, 0)) := by
    rw [hW]
    exact (Below.heap_alloc _ _ _ (by simp)).trans (World.alloc_heap_new w _)
  have hSW := h.below hbW h.lt
  have RJ := fun (w2 : World) (hb2 : Below W.heap.size W w2) => rootsToJoin_any 1 (by omega) J M N n a b sz ht u w2 (hSW.below hb2 hSW.lt).mem (hSW.below hb2 hSW.lt).box (hSW.below hb2 hSW.lt).nd h.fv h.len ha hb h.tell
  rw [show ruleT 1 = 88 from rfl] at RJ
  obtain ⟨⟨p1, p2⟩, _⟩ := boxTwo_cells hPW
  obtain ⟨⟨a1, _⟩, _⟩ := boxTwo_cells hSW.at_
  have hbb : Below W.heap.size W W := Below.refl _ _
  obtain ⟨P, hP⟩ : ∃ P, P = w.heap.size := ⟨_, rfl⟩
  rw [← hP] at p1 p2 hRW hsW
  have HH := Lib.hid (And.intro hbW (And.intro hsW (And.intro hRW (And.intro hSW (And.intro ha hb)))))
  have HW := Lib.hid hW
  have HPP := Lib.hid hP
  obtain ⟨x, hx⟩ : ∃ x, x = stR u a b := ⟨_, rfl⟩
  obtain ⟨y, hy⟩ : ∃ y, y = stT u a b := ⟨_, rfl⟩
  rw [← hx, ← hy]
  by_cases hpq : rootI u a = rootI u b
  · have h1 : lowA M u 1 a b = none := by unfold lowA; rw [if_pos hpq]
    have h2 : uppA M u 1 a b = none := by unfold uppA; rw [if_pos hpq]
    have h3 : x = 0 := by rw [hx]; unfold stR; rw [if_pos hpq]
    have h4 : y = 0 := by rw [hy]; unfold stT; rw [if_pos hpq]
    rw [h1, h2] at RJ
    rw [show (!decide (rootI u a = rootI u b)) = false by rw [decide_eq_true hpq]; rfl]
    subst h3 h4
    have RJ := Lib.hid RJ
    clear hpq h1 h2 hx hy h ha hb hW hbW hsW hRW hPW hSW hP
    go_enter Tryz.func60, Tryz.ntmps60
    go_wp2
    rw [← HW.out, ← HPP.out]
    go_region_held3 (fun w' => Below W.heap.size W w' ∧ w'.cell? ⟨H, 0, none⟩ = some (.pointer (some ⟨J, 0, none⟩)) ∧ w'.cell? ⟨P, 0, none⟩ = some (.int .i64 (a : Int)) ∧ w'.cell? ⟨P, 1, none⟩ = some (.int .i64 (b : Int)))
      (first | exact held3_drew ⟨by assumption, by assumption, by assumption, by assumption⟩ | exact held3_drew (by assumption) | exact held3_call (by assumption) (by assumption) (Below.size (And.left (by assumption))))
      (first | (go_at_call 70; refine (RJ.out _ (‹Below W.heap.size W _ ∧ _›).1).mono ?_; rintro e w8 ⟨rfl, hb8⟩))
    have hbz := (‹Below W.heap.size W _ ∧ _›).1
    have hRz := (hbz.block (P + 1) (by have := HH.out.2.1; omega)).trans HH.out.2.2.1
    obtain ⟨⟨r1, r2⟩, f1, f2⟩ := boxTwo_cells hRz
    have HZ := Lib.hid (And.intro hRz (Below.on HH.out.1 hbz))
    clear hRz hbz
    go_wp2
    obtain ⟨⟨k1, k2⟩, _⟩ := boxTwo_cells (boxTwo_set HZ.out.1 (.int .i64 0) (.int .i64 0))
    refine bodyPost_ret (v := .tuple #[.agg #[.int .i64 0, .int .i64 0], .bool false]) (by simp [results, Tryz.results60, go_sem, k1, k2]) rfl ?_
    exact ⟨rfl, boxTwo_below HZ.out.2 (by have := HPP.out; omega) _ _⟩
  · have T : Two u (rootI u a) (rootI u b) := roots_two h.fv (by have := h.len; omega) (by have := h.len; omega) hpq
    have T2 := low_two T 1
    have h3 : x = lowI u 1 (rootI u a) (rootI u b) := by rw [hx]; unfold stR; rw [if_neg hpq]
    have h4 : y = uppI u 1 (rootI u a) (rootI u b) := by rw [hy]; unfold stT; rw [if_neg hpq]
    rw [← h3, ← h4] at T2
    have h1 : lowA M u 1 a b = some ⟨M, x * 3, none⟩ := by unfold lowA; rw [if_neg hpq, h3]
    have h2 : uppA M u 1 a b = some ⟨M, y * 3, none⟩ := by unfold uppA; rw [if_neg hpq, h4]
    rw [h1, h2] at RJ
    rw [show (!decide (rootI u a = rootI u b)) = true by rw [decide_eq_false hpq]; rfl]
    have hxn : x < n := by have := T2.hp; have := h.len; omega
    have hyn : y < n := by have := T2.hq; have := h.len; omega
    have CELLS : Hid (∀ wz, Below W.heap.size W wz → (wz.cell? ⟨M, x * 3, none⟩ = some (.pointer (some ⟨N, x * 2, none⟩)) ∧ wz.cell? ⟨M, y * 3, none⟩ = some (.pointer (some ⟨N, y * 2, none⟩))) ∧ wz.cell? ⟨N, x * 2, none⟩ = some (.int .i64 (x : Int)) ∧ wz.cell? ⟨N, y * 2, none⟩ = some (.int .i64 (y : Int))) := fun wz hz => by
      have hS := HH.out.2.2.2.1.below hz HH.out.2.2.2.1.lt
      obtain ⟨⟨c1, _⟩, _⟩ := hS.mem.cells hxn
      obtain ⟨⟨c2, _⟩, _⟩ := hS.mem.cells hyn
      rw [if_pos hxn] at c1
      rw [if_pos hyn] at c2
      exact ⟨⟨c1, c2⟩, (hS.nd.cells (x := x) (by have := hS.len; omega)).1, (hS.nd.cells (x := y) (by have := hS.len; omega)).1⟩
    have RJ := Lib.hid RJ
    clear hpq h1 h2 hx hy h3 h4 T T2 h ha hb hW hbW hsW hRW hPW hSW hP hxn hyn
    go_enter Tryz.func60, Tryz.ntmps60
    go_wp2
    rw [← HW.out, ← HPP.out]
    go_region_held3 (fun w' => Below W.heap.size W w' ∧ w'.cell? ⟨H, 0, none⟩ = some (.pointer (some ⟨J, 0, none⟩)) ∧ w'.cell? ⟨P, 0, none⟩ = some (.int .i64 (a : Int)) ∧ w'.cell? ⟨P, 1, none⟩ = some (.int .i64 (b : Int)))
      (first | exact held3_drew ⟨by assumption, by assumption, by assumption, by assumption⟩ | exact held3_drew (by assumption) | exact held3_call (by assumption) (by assumption) (Below.size (And.left (by assumption))))
      (first | (go_at_call 70; refine (RJ.out _ (‹Below W.heap.size W _ ∧ _›).1).mono ?_; rintro e w8 ⟨rfl, hb8⟩))
    have hbz := (‹Below W.heap.size W _ ∧ _›).1
    have hRz := (hbz.block (P + 1) (by have := HH.out.2.1; omega)).trans HH.out.2.2.1
    obtain ⟨⟨r1, r2⟩, f1, f2⟩ := boxTwo_cells hRz
    obtain ⟨⟨c1, c2⟩, c3, c4⟩ := CELLS.out _ hbz
    have HZ := Lib.hid (And.intro hRz (Below.on HH.out.1 hbz))
    clear hRz hbz
    go_wp2
    go_region
    go_wp2
    obtain ⟨⟨k1, k2⟩, _⟩ := boxTwo_cells (boxTwo_set HZ.out.1 (.int .i64 (x : Int)) (.int .i64 (y : Int)))
    refine bodyPost_ret (v := .tuple #[.agg #[.int .i64 (x : Int), .int .i64 (y : Int)], .bool true]) (by simp [results, Tryz.results60, go_sem, k1, k2]) rfl ?_
    have hq := boxTwo_below (b := P + 1) HZ.out.2 (by have := HPP.out; omega) (.int .i64 (x : Int)) (.int .i64 (y : Int))
    exact ⟨rfl, ⟨hq.os, hq.tape, hq.output, hq.size, hq.block⟩⟩
end Go.Proofs.YtmkdiifjecnokaaGreat

namespace Go.Proofs.YtmkdiifjecnokaaGreat
open Go.RowKit Go.Shelf

/-- The cells of steps that have been done, with how to undo them. -/
def dcells (ds : List (Int × Int × Value)) : List Value := ds.flatMap fun d => [Value.int .i64 d.1, Value.int .i64 d.2.1, d.2.2]
def OwnD (w : World) (base : Nat) (v : Value) (ds : List (Int × Int × Value)) : Prop := w.ownsRow base 133 3 v ds.length (dcells ds)
theorem dcells_append (ds es : List (Int × Int × Value)) : dcells (ds ++ es) = dcells ds ++ dcells es := by simp [dcells]
theorem dcells_len (ds : List (Int × Int × Value)) : (dcells ds).length = ds.length * 3 := by
  induction ds with
  | nil => rfl
  | cons d ds ih =>
    have : dcells (d :: ds) = [Value.int .i64 d.1, Value.int .i64 d.2.1, d.2.2] ++ dcells ds := by simp [dcells]
    rw [this, List.length_append, ih, List.length_cons]
    simp
    omega
theorem OwnD.form {w : World} {base : Nat} {v : Value} {ds : List (Int × Int × Value)} (h : OwnD w base v ds) : ∃ A n c, v = .slice A n c := by
  rcases h.2 with ⟨hv, _⟩ | ⟨g, cap, cur, hv, _⟩
  · exact ⟨_, _, _, hv⟩
  · exact ⟨_, _, _, hv⟩
theorem OwnD.chg {S : Nat → Prop} {w w' : World} {base : Nat} {v : Value} {ds : List (Int × Int × Value)} (h : OwnD w base v ds) (hc : Chg S w w') (hS : ∀ i, S i → i < base) : OwnD w' base v ds := by
  refine ⟨h.1, ?_⟩
  rcases h.2 with h0 | ⟨g, cap, cur, hv, hbase, hg, hr⟩
  · exact .inl h0
  · refine .inr ⟨g, cap, cur, hv, hbase, (hc.block g (Array.getElem?_eq_some_iff.1 hg).1 (fun hs => by have := hS g hs; omega)).trans hg, hr⟩
theorem Tryz.info_done : (Tryz.prog.info? 133).map (fun i => (i.zero, i.size, i.bytes)) = some (some (.agg #[.int .i64 0, .int .i64 0, .nilFunc]), 3, 24) := by kernel_rfl
theorem OwnD.nil (w : World) (base : Nat) : OwnD w base (.slice none 0 0) [] := World.ownsRow_nil _ _ _ _

/-- What undoes a step: two pointers to members and what was kept, in boxes. -/
def Undoer (w : World) (base M x y s t : Nat) (F : Value) : Prop :=
  ∃ K4 K6 K5 : Nat, F = .func (.func 77) #[] #[.pointer (some ⟨K4, 0, none⟩), .pointer (some ⟨K6, 0, none⟩), .pointer (some ⟨K5, 0, none⟩)] ∧
    Boxed w K4 144 (.pointer (some ⟨M, x * 3, none⟩)) ∧ w.heap[K6]? = some (.cells #[.int .i64 (s : Int), .int .i64 (t : Int)] 111 (0, 0)) ∧ Boxed w K5 144 (.pointer (some ⟨M, y * 3, none⟩)) ∧ base ≤ K4 ∧ base ≤ K6 ∧ base ≤ K5
/-- Appending one done step, where the slice lies in a history's second cell. -/
theorem step_pushD {ops : Array Oper} {o : Oper} {a : Act} {K : Act → World → Prop} {Q : Exit → Act → World → Prop} {E : Prop} (hgd : o.guard = none) (s x : Operand)
    (ho : o.op = .call { callee := .builtin .append, args := #[s, x], argTypes := #[126, 126] }) (W : World) (B H base : Nat) (v : Value) (ds : List (Int × Int × Value)) (x1 x2 : Int) (f : Value)
    (hs : a.eval s = v) (hx : a.eval x = .slice (some ⟨B, 0, none⟩) 1 1) (hW : W.heap[B]? = some (.cells #[.int .i64 x1, .int .i64 x2, f] 133 (0, 0))) (hf : f.oneCell' = true) (hown : OwnD W base v ds) (hlen : ds.length ≤ 1000) (hbase : base ≤ W.heap.size) (hH : H < base) (c1 : W.cell? ⟨H, 1, none⟩ = some v) (f1 : W.frozen? ⟨H, 1, none⟩ = false)
    (h : ∀ v' w', OwnD w' base v' (ds ++ [(x1, x2, f)]) → W.grownBy w' v.ownBlock → w'.cell? ⟨H, 1, none⟩ = some v → w'.frozen? ⟨H, 1, none⟩ = false → K (a.put o.dst v') w') :
    if Region.wanted o (yielded ops a.tmps) = true then Oper.wp Tryz.prog o a W K Q else E := by
  obtain ⟨i0, hi, hz0, hz1, hz2⟩ := info_parts Tryz.info_done
  have hlt := World.ownsRow.lt hown
  refine step_append_lies W hgd s x 126 ho base 133 i0 (.agg #[.int .i64 0, .int .i64 0, .nilFunc]) 3 24 Tryz.underlying126 hi hz0 hz1 hz2 rfl (by decide) v ds.length (dcells ds) hs hown ⟨B, 0, none⟩ 1 1 [.int .i64 x1, .int .i64 x2, f] hx rfl (World.news_of_block hW) (by intro u hu; simp at hu; rcases hu with rfl | rfl | rfl; rfl; rfl; exact hf) (by decide) (by unfold maxLen; omega) (by omega) hbase _ rfl ?_
  intro g cap w3 ho3 hg3 _ _
  refine h _ w3 ?_ hg3 ((hg3.cell_far ⟨H, 1, none⟩ (by show H < _; omega) (fun e => by have := (hlt H e.symm).1; omega)).trans c1) ((hg3.frozen_far ⟨H, 1, none⟩ (by show H < _; omega) (fun e => by have := (hlt H e.symm).1; omega)).trans f1)
  unfold OwnD
  rw [dcells_append, List.length_append]
  exact ho3
set_option maxRecDepth 100000 in
set_option maxHeartbeats 8000000 in
theorem do_any (H J M N n x y : Nat) (sz ht : Nat → Nat) (u : List Int) (D : Value) (ds : List (Int × Int × Value)) (base : Nat) (w : World) (h : HistSt w H J M N n sz ht u D) (T : Two u x y) (hD : OwnD w base D ds) (hB : H < base) (hBw : base ≤ w.heap.size) (hl : ds.length ≤ 1000) :
    Calls Tryz.prog 61 #[.pointer (some ⟨H, 0, none⟩), .agg #[.int .i64 (x : Int), .int .i64 (y : Int)]] w fun e w' =>
      (∃ v, e = .returned v) ∧ ∃ D' F, HistSt w' H J M N n (fun z => if z = y then sz y + sz x else sz z) (fun z => if z = y then max (ht y) (ht x + 1) else ht z) (hang u x y) D' ∧ OwnD w' base D' (ds ++ [((x : Int), (y : Int), F)]) ∧ Undoer w' base M x y (sz y) (ht y) F ∧ Chg (fun i => i = N ∨ i = M ∨ i = H ∨ D.ownBlock = some i) w w' := by
  obtain ⟨W, hW⟩ : ∃ W, W = w.alloc (.cells #[.int .i64 (x : Int), .int .i64 (y : Int)] 52) := ⟨_, rfl⟩
  have hbW : Below w.heap.size w W := by rw [hW]; exact (Below.refl _ _).alloc (Nat.le_refl _) _
  have hsW : W.heap.size = w.heap.size + 1 := by rw [hW]; simp
  have hPW : W.heap[w.heap.size]? = some (.cells #[.int .i64 (x : Int), .int .i64 (y : Int)] 52 (0, 0)) := by
    rw [hW]
    exact World.alloc_heap_new w _
  have hSW := h.below hbW h.lt
  obtain ⟨P, hP⟩ : ∃ P, P = w.heap.size := ⟨_, rfl⟩
  rw [← hP] at hPW hsW
  obtain ⟨⟨p1, p2⟩, _⟩ := boxTwo_cells hPW
  obtain ⟨⟨a1, _⟩, _⟩ := boxTwo_cells hSW.at_
  have cJ := hSW.box.cell
  have hxn : (x : Int) < (n : Int) := by have := T.hp; have := h.len; omega
  have hyn : (y : Int) < (n : Int) := by have := T.hq; have := h.len; omega
  have hn : (n : Int) ≤ 16 := by have := (fv_parts h.fv).2.1; have := h.len; omega
  have HH := Lib.hid (And.intro hbW (And.intro hsW (And.intro hPW (And.intro hSW T))))
  have HW := Lib.hid hW
  have HPP := Lib.hid hP
  have HD := Lib.hid (And.intro hD (And.intro hB (And.intro hBw hl)))
  clear h T hD hB hBw hl hW hbW hsW hPW hSW hP
  go_enter Tryz.func61, Tryz.ntmps61
  go_upto_region 1 with fail
  rw [← HW.out, ← HPP.out]
  go_cut [4, 5] (fun s4 s5 V => ∃ K4 K5 : Nat, s4 = .pointer (some ⟨K4, 0, none⟩) ∧ s5 = .pointer (some ⟨K5, 0, none⟩) ∧ Boxed V K4 144 (.pointer (some ⟨M, x * 3, none⟩)) ∧ Boxed V K5 144 (.pointer (some ⟨M, y * 3, none⟩)) ∧ K4 ≠ K5 ∧ W.heap.size ≤ K4 ∧ W.heap.size ≤ K5 ∧ Below W.heap.size W V)
  case first =>
    have HB4 : Hid (∀ (o1 o2 : Addr) (V : World), V = ((W.alloc (.cells #[.pointer (some o1)] 144)).alloc (.cells #[.pointer (some o2)] 144)).drew → Boxed V W.heap.size 144 (.pointer (some o1)) ∧ Boxed V (W.heap.size + 1) 144 (.pointer (some o2)) ∧ Below W.heap.size W V) := fun o1 o2 V hV => by
      subst hV
      refine ⟨(Boxed.new W _ _).alloc _, ?_, ?_⟩
      · have := Boxed.new (W.alloc (.cells #[.pointer (some o1)] 144)) 144 (.pointer (some o2))
        rw [World.size_alloc] at this
        exact this
      · have hq := ((Below.refl W.heap.size W).alloc (Nat.le_refl _) (.cells #[.pointer (some o1)] 144)).alloc (by simp) (.cells #[.pointer (some o2)] 144)
        exact ⟨hq.os, hq.tape, hq.output, hq.size, hq.block⟩
    have p1b := fun (o1 o2 : Obj) => cell_past o2 (cell_past o1 p1)
    have p1a := fun (o1 : Obj) => cell_past o1 p1
    have p2b := fun (o1 o2 : Obj) => cell_past o2 (cell_past o1 p2)
    have p2a := fun (o1 : Obj) => cell_past o1 p2
    have a1b := fun (o1 o2 : Obj) => cell_past o2 (cell_past o1 a1)
    have a1a := fun (o1 : Obj) => cell_past o1 a1
    have cJb := fun (o1 o2 : Obj) => cell_past o2 (cell_past o1 cJ)
    have cJa := fun (o1 : Obj) => cell_past o1 cJ
    go_region
    all_goals
      clear p1b p1a p2b p2a a1b a1a cJb cJa
      go_wp2_with fail
      go_meet
      first
      | (obtain ⟨q1, q2, q3⟩ := HB4.out ⟨M, x * 3, none⟩ ⟨M, y * 3, none⟩ _ rfl; exact ⟨W.heap.size, W.heap.size + 1, rfl, rfl, q1, q2, by omega, by omega, by omega, q3⟩)
      | (obtain ⟨q1, q2, q3⟩ := HB4.out ⟨M, y * 3, none⟩ ⟨M, x * 3, none⟩ _ rfl; exact ⟨W.heap.size + 1, W.heap.size, rfl, rfl, q2, q1, by omega, by omega, by omega, q3⟩)
  case rest =>
    obtain ⟨K4, K5, rfl, rfl, e4, e5, hne, hk4, hk5, hbV⟩ := hcut
    obtain ⟨V, rfl⟩ : ∃ V, V = wc := ⟨_, rfl⟩
    clear p1 p2 a1 cJ
    have hS := HH.out.2.2.2.1.below hbV HH.out.2.2.2.1.lt
    have T := HH.out.2.2.2.2
    have hln := hS.len
    have hxn : x < n := by have := T.hp; omega
    have hyn : y < n := by have := T.hq; omega
    obtain ⟨⟨_, m1, m2⟩, _⟩ := hS.mem.cells hyn
    have m2 : V.cell? ⟨M, y * 3 + 1 + 1, none⟩ = some (.int .i64 (ht y : Int)) := m2
    obtain ⟨V1, hV1⟩ : ∃ V1, V1 = V.alloc (.cells #[.int .i64 (sz y : Int), .int .i64 (ht y : Int)] 111) := ⟨_, rfl⟩
    have hb1 : Below V.heap.size V V1 := by rw [hV1]; exact (Below.refl _ _).alloc (Nat.le_refl _) _
    have hs1 : V1.heap.size = V.heap.size + 1 := by rw [hV1]; simp
    have h6 : V1.heap[V.heap.size]? = some (.cells #[.int .i64 (sz y : Int), .int .i64 (ht y : Int)] 111 (0, 0)) := by rw [hV1]; exact World.alloc_heap_new V _
    have c5 := e5.cell
    have c4 := e4.cell
    have hle := szN_leJ u
    have hlh := htN_leJ hS.fv
    have h16 := (fv_parts hS.fv).2.1
    have hS1 := hS.below hb1 hS.lt
    have t1 := hS.tell x T.hp T.rp
    have t2 := hS.tell y T.hq T.rq
    have GU := Lib.hid (goUnder_any M N n x y sz ht u V1 hS1.mem hS1.nd hS1.len hxn hyn T.ne (by have := hS.o1; omega) (by have := hle x; omega) (by have := hle y; omega) (by have := hlh x; omega) (by have := hlh y; omega))
    have HV1 := Lib.hid (And.intro hb1 (And.intro hs1 (And.intro h6 (And.intro hS1 (And.intro e4 (And.intro e5 (And.intro hne (And.intro hk4 (And.intro hk5 hbV)))))))))
    have HE := Lib.hid hV1
    have c4b := fun (o : Obj) => cell_past o c4
    have c5b := fun (o : Obj) => cell_past o c5
    clear hb1 hs1 h6 hS1 e4 e5 hne hk4 hk5 hbV hS T hln hxn hyn hle hlh h16 t1 t2 hV1
    go_wp2_with fail
    rw [← HE.out]
    refine GU.out.mono ?_
    rintro e w2 ⟨⟨v, rfl⟩, hN2, hm2, hc2⟩
    have H2 := Lib.hid (And.intro hN2 (And.intro hm2 hc2))
    clear hN2 hm2 hc2 m1 m2 c4 c5 c4b c5b GU
    go_upto_region 5 with fail
    have hsV := HV1.out.2.2.2.2.2.2.2.2.2.size
    have hsV1 := HV1.out.2.1
    have hsW := HH.out.2.1
    have hsw := HPP.out
    have hc2 := H2.out.2.2
    have hsw2 := hc2.size
    have hNM : N < M ∧ M < J ∧ J < H := ⟨HH.out.2.2.2.1.o1, HH.out.2.2.2.1.o2, HH.out.2.2.2.1.o3⟩
    have hHb := HD.out.2.1
    have hbw := HD.out.2.2.1
    have hbWV1 : Below W.heap.size W V1 := Below.on HV1.out.2.2.2.2.2.2.2.2.2 HV1.out.1
    have hH2 : w2.heap[H]? = some (.cells #[.pointer (some ⟨J, 0, none⟩), D] 128 (0, 0)) := (hc2.block H (by omega) (by omega)).trans HV1.out.2.2.2.1.at_
    have hP2 : w2.heap[P]? = some (.cells #[.int .i64 (x : Int), .int .i64 (y : Int)] 52 (0, 0)) := (hc2.block P (by omega) (by omega)).trans ((hbWV1.block P (by omega)).trans HH.out.2.2.1)
    obtain ⟨⟨_, a1⟩, _, f1⟩ := boxTwo_cells hH2
    obtain ⟨⟨p1, p2⟩, _⟩ := boxTwo_cells hP2
    have hcw : Chg (fun k => k = N ∨ k = M) w w2 := (Chg.of_below (Below.on HH.out.1 hbWV1)).trans hc2
    have hD2 : OwnD w2 base D ds := HD.out.1.chg hcw (fun i hi => by omega)
    have hdl := HD.out.2.2.2
    have HX := Lib.hid (And.intro hcw hH2)
    have hHw2 : H < w2.heap.size := by omega
    have hbw2 : base ≤ w2.heap.size := by omega
    have a1b := fun (o : Obj) => cell_past o a1
    clear hcw hH2 hP2 hbWV1 hc2 hNM hsV hsV1 hsW hsw hsw2 hbw
    have hDb : ∀ o : Obj, OwnD (w2.alloc o) base D ds := fun o => World.ownsRow.alloc hD2 o
    have hbb : ∀ o : Obj, base ≤ (w2.alloc o).heap.size := fun o => by simp; omega
    have f1b := fun (o : Obj) => free_past o a1 f1
    have HR := Lib.hid (And.intro hDb hbb)
    clear hDb hbb hD2 hbw2
    go_region_law (first | (refine step_pushD rfl (.tmp 40) (.tmp 44) rfl _ w2.heap.size H base D ds (x : Int) (y : Int) (.func (.func 77) #[] #[.pointer (some ⟨K4, 0, none⟩), .pointer (some ⟨V.heap.size, 0, none⟩), .pointer (some ⟨K5, 0, none⟩)] : Value) rfl rfl (World.alloc_heap_new w2 _) rfl (HR.out.1 _) hdl (HR.out.2 _) hHb (a1b _) (f1b _) ?_; intro v' w3 ho3 hg3 s1 s2; obtain ⟨A9, n9, c9, rfl⟩ := ho3.form))
    all_goals
      go_wp2_with fail
      go_end0
      obtain ⟨hb1, hs1, h6, hS1, e4, e5, hne, hk4, hk5, hbV⟩ := HV1.out
      obtain ⟨hbW, hsW, _, hSW, T⟩ := HH.out
      obtain ⟨hcw, hH2⟩ := HX.out
      obtain ⟨hN2, hm2, hc2⟩ := H2.out
      have hlt := World.ownsRow.lt HD.out.1
      have hsw2 := hcw.size
      have hsw3 := hc2.size
      have hsV := hbV.size
      have hbw := HD.out.2.2.1
      have hPw := HPP.out
      have o1 := hSW.o1
      have o2 := hSW.o2
      have o3 := hSW.o3
      have hJ1 := hS1.box.lt
      have hE : ∀ b, b < w2.heap.size → (∀ k, D.ownBlock = some k → b ≠ k) → b ≠ H → (w3.setCell ⟨H, 1, none⟩ (.slice A9 n9 c9)).heap[b]? = w2.heap[b]? := fun b h1 h2 h3 =>
        (Below.heap_setCell w3 ⟨H, 1, none⟩ (.slice A9 n9 c9) b (fun e => h3 e)).trans ((hg3.block b (by show b < (w2.alloc _).heap.size; simp; omega) (fun e => h2 b e.symm rfl)).trans (Below.heap_alloc w2 _ b h1))
      have hlo : ∀ b, b < base → ∀ k, D.ownBlock = some k → b ≠ k := fun b hb k hk => by have := (hlt k hk).1; omega
      have hhi : ∀ b, w.heap.size ≤ b → ∀ k, D.ownBlock = some k → b ≠ k := fun b hb k hk => by have := (hlt k hk).2; omega
      have hH3 : w3.heap[H]? = some (.cells #[.pointer (some ⟨J, 0, none⟩), D] 128 (0, 0)) := ((hg3.block H (by show H < (w2.alloc _).heap.size; simp; omega) (fun e => hlo H hHb H e.symm rfl)).trans (Below.heap_alloc w2 _ H hHw2)).trans hH2
      have hK : ∀ b, W.heap.size ≤ b → b < V1.heap.size → (w3.setCell ⟨H, 1, none⟩ (.slice A9 n9 c9)).heap[b]? = V1.heap[b]? := fun b h1 h2 => (hE b (by omega) (hhi b (by omega)) (by omega)).trans (hc2.block b h2 (by omega))
      refine ⟨⟨_, rfl⟩, .slice A9 n9 c9, _, ⟨?_, ?_, ?_, ?_, o1, o2, o3, hang_fv T, ?_, hSW.tell.hang T⟩, World.ownsRow.kept ho3 (row := some H) ?_ ?_, ⟨K4, V.heap.size, K5, rfl, ?_, ?_, ?_, ?_, ?_, ?_⟩, ?_⟩
      · exact modify_at _ hH3
      · exact hm2.eq (hE M (by omega) (hlo M (by omega)) (by omega))
      · exact (hE J (by omega) (hlo J (by omega)) (by omega)).trans ((hc2.block J hJ1 (by omega)).trans hS1.box)
      · exact hN2.eq (hE N (by omega) (hlo N (by omega)) (by omega))
      · rw [hang_len]
        exact hSW.len
      · exact ⟨rfl, rfl, rfl, by simp [World.setCell], fun k _ hk => Below.heap_setCell _ _ _ k (fun e => hk (by rw [e]))⟩
      · exact .inr (fun e => by have := (World.ownsRow.lt ho3 H e).1; omega)
      · exact (hK K4 hk4 (by have := e4.lt; omega)).trans ((hb1.block K4 e4.lt).trans e4)
      · exact (hK V.heap.size (by omega) (by omega)).trans h6
      · exact (hK K5 hk5 (by have := e5.lt; omega)).trans ((hb1.block K5 e5.lt).trans e5)
      · omega
      · omega
      · omega
      · have q1 : Chg (fun i => i = N ∨ i = M ∨ i = H ∨ D.ownBlock = some i) w w2 := hcw.weak (fun i h => h.elim .inl (fun h => .inr (.inl h)))
        have q2 := (q1.alloc (.cells #[.int .i64 (x : Int), .int .i64 (y : Int), (.func (.func 77) #[] #[.pointer (some ⟨K4, 0, none⟩), .pointer (some ⟨V.heap.size, 0, none⟩), .pointer (some ⟨K5, 0, none⟩)] : Value)] 133)).drew
        have q3 := q2.trans ((Chg.mark hg3).weak (S' := fun i => i = N ∨ i = M ∨ i = H ∨ D.ownBlock = some i) (fun i h => .inr (.inr (.inr h))))
        exact q3.set (B := H) (.inl (.inr (.inr (.inl rfl)))) 1 _
end Go.Proofs.YtmkdiifjecnokaaGreat
