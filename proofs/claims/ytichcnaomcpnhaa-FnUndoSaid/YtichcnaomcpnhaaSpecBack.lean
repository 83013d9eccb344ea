/- The model's BackTo. Condition: lengths up to 1048576, valid logs up to 1000 steps. -/
import Derived.Test.YtichcnaomcpnhaaBackTo
import Derived.Test.YtichcnaomcpnhaaSpecJoinLog
import Derived.Test.YtichcnaomcpnhaaSpecLogV
namespace Go.Proofs.Ytichcnaomcpnhaa
open Go.RowKit Go.Shelf

theorem ownQ_take {t : TypeId} {w : World} {base g n c k : Nat} {ps : List (Int × Int)} (h : OwnQ t w base (.slice (some ⟨g, 0, none⟩) n c) ps) (hn : ps.length = n) (hk : k ≤ n) : OwnQ t w base (.slice (some ⟨g, 0, none⟩) k c) (ps.take k) := by
  have h' : w.ownsRow base t 2 (.slice (some ⟨g, 0, none⟩) n c) n (qcells ps) := by rw [← hn]; rw [← hn] at h; exact h
  have := ownsRow_take h' hk
  unfold OwnQ
  rw [List.length_take, Nat.min_eq_left (by omega)]
  have e : (qcells ps).take (k * 2) = qcells (ps.take k) := by
    clear h h' this hn hk
    induction ps generalizing k with
    | nil => simp [qcells]
    | cons p ps ih =>
      cases k with
      | zero => simp [qcells]
      | succ k =>
        rw [qcells_cons, List.take_succ_cons, qcells_cons, show (k + 1) * 2 = k * 2 + 2 by omega, List.take_succ_cons, List.take_succ_cons, ih]
  rw [← e]
  exact this
set_option maxRecDepth 100000 in
set_option maxHeartbeats 8000000 in
theorem specUndo_good (A1 A2 : Option Addr) (n c1 m c2 B0 : Nat) (xs : List Int) (ss : List (Int × Int)) (u : List Int) (w : World) (h1 : Rd w B0 A1 n xs) (h2 : RdQ w B0 A2 (m + 1) ss) (hB0 : B0 ≤ w.heap.size) (hb2 : m ≤ 1000) (hv : logV xs ss = true) (hu : builtL (roots xs.length) (ss.take m) = some u) :
    Calls Try.prog 11 #[.agg #[.slice A1 n c1, .slice A2 (m + 1) c2]] w fun e w' => ∃ v v2, e = .returned (.tuple #[.agg #[v, v2], .bool true]) ∧ Own w' w.heap.size v u ∧ OwnQ 68 w' w.heap.size v2 (ss.take m) ∧ (∀ x, v.ownBlock = some x → ∀ y, v2.ownBlock = some y → x ≠ y) ∧ Below w.heap.size w w' := by
  obtain ⟨W1, hW1⟩ : ∃ W1, W1 = w.alloc (.cells #[.slice A1 n c1, .slice A2 (m + 1) c2] 26) := ⟨_, rfl⟩
  obtain ⟨W, hW⟩ : ∃ W, W = W1.alloc (.cells #[.slice none 0 0, .slice none 0 0] 26) := ⟨_, rfl⟩
  have e1 : W1.heap.size = w.heap.size + 1 := by rw [hW1]; simp
  have eW : W.heap.size = w.heap.size + 2 := by rw [hW]; simp [e1]
  have hA : W1.heap[w.heap.size]? = some (.cells #[.slice A1 n c1, .slice A2 (m + 1) c2] 26 (0, 0)) := by rw [hW1]; exact World.alloc_heap_new w _
  have hAW : W.heap[w.heap.size]? = some (.cells #[.slice A1 n c1, .slice A2 (m + 1) c2] 26 (0, 0)) := by rw [hW]; exact (Below.heap_alloc _ _ _ (by omega)).trans hA
  have hRW : W.heap[w.heap.size + 1]? = some (.cells #[.slice none 0 0, .slice none 0 0] 26 (0, 0)) := by rw [hW, ← e1]; exact World.alloc_heap_new W1 _
  have hbW : Below w.heap.size w W := by rw [hW, hW1]; exact ((Below.refl _ _).alloc (Nat.le_refl _) _).alloc (by simp) _
  obtain ⟨⟨p1, p16⟩, _, _⟩ := logV_parts hv
  have hl := h1.1
  have hl2 := h2.1
  have h1W := h1.below hbW hB0
  have h2W := h2.below hbW hB0
  have hBW : B0 ≤ W.heap.size := Nat.le_trans hB0 hbW.size
  obtain ⟨r, hr⟩ : ∃ r, r = (ss[m]?.getD (0, 0)).1 := ⟨_, rfl⟩
  obtain ⟨t, ht⟩ : ∃ t, t = (ss[m]?.getD (0, 0)).2 := ⟨_, rfl⟩
  obtain ⟨hrn, hset⟩ := bk_one hv hl2 hu
  rw [← hr] at hrn hset
  obtain ⟨r, rfl⟩ : ∃ x : Nat, r = x := ⟨r.toNat, by omega⟩
  rw [Int.toNat_natCast] at hset
  have LV := Lib.hid (specLogV_good A1 A2 n c1 (m + 1) c2 B0 xs ss W h1W h2W hBW (by omega) hv)
  have CP := Lib.hid (fun (w8 : World) (h8 : Below W.heap.size W w8) => l4Copy_any A1 A2 n c1 (m + 1) c2 B0 xs ss w8 (h1W.below h8 hBW) (h2W.below h8 hBW) (Nat.le_trans hBW h8.size) (by omega) (by omega) (by omega))
  obtain ⟨P, hP⟩ : ∃ P, P = w.heap.size := ⟨_, rfl⟩
  obtain ⟨R, hR⟩ : ∃ R, R = w.heap.size + 1 := ⟨_, rfl⟩
  rw [← hP] at hAW
  rw [← hR] at hRW
  obtain ⟨k1, k2⟩ := (boxTwo_cells hAW).1
  have HW := Lib.hid (And.intro hW (And.intro hW1 (And.intro hP hR)))
  have HF := Lib.hid (And.intro hbW (And.intro hAW (And.intro hRW eW)))
  have HR := Lib.hid (And.intro hr (And.intro ht (And.intro hset (And.intro hl hl2))))
  have hrn' : (r : Int) < (xs.length : Int) := hrn.2
  have HN := Lib.hid p1
  have hm0 : ¬ ((m : Int) + 1 = 0) := by omega
  have hwr : IntKind.i64.wrap ((m : Int) + 1 - 1) = (m : Int) := by rw [show (m : Int) + 1 - 1 = m by omega]; exact IntWalk.i64_in _ (by omega)
  have hwr2 : IntKind.i64.wrap (m : Int) = (m : Int) := IntWalk.i64_in _ (by omega)
  clear h1 h2 hB0 hb2 hv hu hW1 hW e1 eW hA hAW hRW hbW p1 p16 h1W h2W hBW hP hR hr ht hset hrn hl hl2
  go_enter Try.func11, Try.ntmps11
  go_wp2_with fail
  rw [← HW.out.2.1, ← HW.out.1, ← HW.out.2.2.2, ← HW.out.2.2.1]
  refine LV.out.mono ?_
  rintro e w1 ⟨rfl, hb1⟩
  have hP1 := (hb1.block P (by have := HF.out.2.2.2; have := HW.out.2.2.1; omega)).trans HF.out.2.1
  have hR1 := (hb1.block R (by have := HF.out.2.2.2; have := HW.out.2.2.2; omega)).trans HF.out.2.2.1
  have HZ := Lib.hid (And.intro hb1 (And.intro hP1 hR1))
  have CZ := Lib.hid (CP.out _ hb1)
  obtain ⟨⟨q1, q2⟩, _⟩ := boxTwo_cells hP1
  clear hb1 hP1 hR1 k1 k2 CP LV
  go_wp2_with fail
  refine CZ.out.mono ?_
  rintro e w3 ⟨v, v2, rfl, ho, hq, hne, hb3⟩
  obtain ⟨B1, d1, rfl, hr1⟩ := ho.form
  obtain ⟨B2, d2, rfl, hr2⟩ := hq.form
  obtain ⟨g, rfl⟩ := own_head ho HN.out
  have hl2 := HR.out.2.2.2.2
  have hq2 : B2 = some ⟨(B2.getD default).1, 0, none⟩ ∧ ss.length ≤ d2 := by
    rcases hq.2 with ⟨h0, _⟩ | ⟨g2, cap, cur, h0, _, _, h1, _⟩
    · injection h0 with _ e _
      omega
    · injection h0 with e1 _ e3
      exact ⟨by rw [e1]; rfl, by omega⟩
  obtain ⟨g2, hg2⟩ : ∃ g2, g2 = (B2.getD default).1 := ⟨_, rfl⟩
  rw [← hg2] at hq2
  obtain ⟨rfl, hd2⟩ := hq2
  clear hg2
  obtain ⟨_, hcq⟩ := hr2
  obtain ⟨gb, go_, hge, _, hcq⟩ := hcq (by omega)
  simp only [Option.some.injEq, Addr.mk.injEq, and_true] at hge
  obtain ⟨rfl, rfl⟩ := hge
  obtain ⟨s1, s2⟩ := hcq m (by omega)
  rw [← HR.out.1] at s1
  rw [← HR.out.2.1] at s2
  rw [Nat.zero_add] at s1 s2
  rw [hl2] at hq hd2 ⊢
  obtain ⟨V1, hV1⟩ : ∃ V1, V1 = w3.alloc (.cells #[.slice (some ⟨g, 0, none⟩) xs.length d1, .slice (some ⟨g2, 0, none⟩) (m + 1) d2] 26) := ⟨_, rfl⟩
  obtain ⟨X, hX⟩ : ∃ X, X = w3.heap.size := ⟨_, rfl⟩
  have hXV1 : V1.heap[X]? = some (.cells #[.slice (some ⟨g, 0, none⟩) xs.length d1, .slice (some ⟨g2, 0, none⟩) (m + 1) d2] 26 (0, 0)) := by rw [hV1, hX]; exact World.alloc_heap_new w3 _
  have hb31 : Below w3.heap.size w3 V1 := by rw [hV1]; exact (Below.refl _ _).alloc (Nat.le_refl _) _
  have hbR := hb3.size
  have hRl := (Array.getElem?_eq_some_iff.1 HZ.out.2.2).1
  have hRV1 := (hb31.block R (by omega)).trans ((hb3.block R hRl).trans HZ.out.2.2)
  have hxg : w1.heap.size ≤ g ∧ g < w3.heap.size := ho.blockOf g rfl
  have hxq : w1.heap.size ≤ g2 ∧ g2 < w3.heap.size := hq.blockOf g2 rfl
  have hgg : g ≠ g2 := hne g rfl g2 (by rw [hl2]; rfl)
  have s1 := (hb31.cell (p := ⟨g2, m * 2, none⟩) hxq.2).trans s1
  have s2 := (hb31.cell (p := ⟨g2, m * 2 + 1, none⟩) hxq.2).trans s2
  have ho1 := ho.keep hb31 (Nat.le_refl _)
  have hq1 := hq.keep hb31 (Nat.le_refl _)
  obtain ⟨V2, hV2⟩ : ∃ V2, V2 = V1.alloc (.cells #[.int .i64 (r : Int), .int .i64 t] 68) := ⟨_, rfl⟩
  have hb12 : Below V1.heap.size V1 V2 := by rw [hV2]; exact (Below.refl _ _).alloc (Nat.le_refl _) _
  obtain ⟨Y, hY⟩ : ∃ Y, Y = V1.heap.size := ⟨_, rfl⟩
  have hYV : V2.heap[Y]? = some (.cells #[.int .i64 (r : Int), .int .i64 t] 68 (0, 0)) := by rw [hV2, hY]; exact World.alloc_heap_new V1 _
  have hszV1 : V1.heap.size = X + 1 := by rw [hV1, hX]; simp
  have hX2 := (hb12.block X (by omega)).trans hXV1
  have hR2 := (hb12.block R (by omega)).trans hRV1
  have ho2 := ho1.keep hb12 (Nat.le_refl _)
  have hq2 := hq1.keep hb12 (Nat.le_refl _)
  have hbw2 : Below w.heap.size w V2 := Below.on HF.out.1 (Below.on HZ.out.1 (Below.on hb3 (Below.on hb31 hb12)))
  have hszw1 := HZ.out.1.size
  have hszW := HF.out.2.2.2
  have hRw := HW.out.2.2.2
  have hPw := HW.out.2.2.1
  obtain ⟨V3, hV3⟩ : ∃ V3, V3 = V2.setCell ⟨X, 1, none⟩ (.slice (some ⟨g2, 0, none⟩) m d2) := ⟨_, rfl⟩
  have hX3 : V3.heap[X]? = some (.cells #[.slice (some ⟨g, 0, none⟩) xs.length d1, .slice (some ⟨g2, 0, none⟩) m d2] 26 (0, 0)) := by rw [hV3]; exact boxTwo_second hX2 _
  have hR3 : V3.heap[R]? = some (.cells #[.slice none 0 0, .slice none 0 0] 26 (0, 0)) := by rw [hV3]; exact (Below.heap_setCell V2 ⟨X, 1, none⟩ _ R (by show R ≠ X; omega)).trans hR2
  have hY3 : V3.heap[Y]? = some (.cells #[.int .i64 (r : Int), .int .i64 t] 68 (0, 0)) := by rw [hV3]; exact (Below.heap_setCell V2 ⟨X, 1, none⟩ _ Y (by show Y ≠ X; omega)).trans hYV
  have ho3 : Own V3 w1.heap.size (.slice (some ⟨g, 0, none⟩) xs.length d1) xs := by rw [hV3]; exact ho2.kept (cell_growth V2 X 1 _) (.inr (fun e => by injection e with e; have e : g = X := e; omega))
  have hq3 : OwnQ 68 V3 w1.heap.size (.slice (some ⟨g2, 0, none⟩) (m + 1) d2) ss := by rw [hV3]; exact hq2.kept (cell_growth V2 X 1 _) (.inr (fun e => by injection e with e; have e : g2 = X := e; omega))
  have hbw3 : Below w.heap.size w V3 := by rw [hV3]; exact hbw2.setCell (p := ⟨X, 1, none⟩) (by show w.heap.size ≤ X; omega) _
  obtain ⟨V4, hV4⟩ : ∃ V4, V4 = V3.setCell ⟨g, r, none⟩ (.int .i64 (r : Int)) := ⟨_, rfl⟩
  have hX4 : V4.heap[X]? = some (.cells #[.slice (some ⟨g, 0, none⟩) xs.length d1, .slice (some ⟨g2, 0, none⟩) m d2] 26 (0, 0)) := by rw [hV4]; exact (Below.heap_setCell V3 ⟨g, r, none⟩ _ X (by show X ≠ g; omega)).trans hX3
  have hR4 : V4.heap[R]? = some (.cells #[.slice none 0 0, .slice none 0 0] 26 (0, 0)) := by rw [hV4]; exact (Below.heap_setCell V3 ⟨g, r, none⟩ _ R (by show R ≠ g; omega)).trans hR3
  have ho4 : Own V4 w1.heap.size (.slice (some ⟨g, 0, none⟩) xs.length d1) u := by rw [hV4, ← HR.out.2.2.1]; exact ho3.set_ r (r : Int)
  have hq4 : OwnQ 68 V4 w1.heap.size (.slice (some ⟨g2, 0, none⟩) m d2) (ss.take m) := by rw [hV4]; exact ownQ_take (hq3.kept (cell_growth V3 g r _) (.inr (fun e => by injection e with e; have e : g2 = g := e; omega))) hl2 (by omega)
  have hbw4 : Below w.heap.size w V4 := by rw [hV4]; exact hbw3.setCell (p := ⟨g, r, none⟩) (by show w.heap.size ≤ g; omega) _
  have q4 := copy_end hbw4 (show w.heap.size ≤ R by omega) (ho4.less (show R + 1 ≤ w1.heap.size by omega)) (hq4.less (show R + 1 ≤ w1.heap.size by omega))
  have HEND := Lib.hid (And.intro q4 hR4)
  obtain ⟨⟨x1, x2⟩, _⟩ := boxTwo_cells hXV1
  obtain ⟨⟨x3, x4⟩, x5, x6⟩ := boxTwo_cells hX2
  obtain ⟨⟨y1, _⟩, _⟩ := boxTwo_cells hYV
  obtain ⟨⟨x7, x8⟩, _⟩ := boxTwo_cells hX3
  obtain ⟨⟨y3, _⟩, _⟩ := boxTwo_cells hY3
  obtain ⟨⟨x9, x10⟩, _⟩ := boxTwo_cells hX4
  obtain ⟨_, r5, r6⟩ := boxTwo_cells hR4
  have c1 := ho3.slot (k := r) (by omega)
  have f1 := ho3.free r
  have hmd : (m : Int) ≤ (d2 : Int) := by omega
  have HVE := Lib.hid (And.intro hV1 (And.intro hV2 (And.intro hV3 (And.intro hV4 (And.intro hX hY)))))
  clear ho hq hne hb3 hr1 hcq hV1 hX hXV1 hb31 hbR hRl hRV1 hxg hxq hgg ho1 hq1 hV2 hb12 hY hYV hszV1 hX2 hR2 ho2 hq2 hbw2 hszw1 hszW hRw hPw hV3 hX3 hR3 hY3 ho3 hq3 hbw3 hV4 hX4 hR4 ho4 hq4 hbw4 q4 q1 q2
  go_upto_region 4 with fail
  rw [← HVE.out.1, ← HVE.out.2.2.2.2.1]
  go_upto_region 5 with fail
  rw [← HVE.out.2.1, ← HVE.out.2.2.2.2.2]
  go_upto_region 6 with fail
  rw [← HVE.out.2.2.1]
  go_upto_region 7 with fail
  rw [← HVE.out.2.2.2.1]
  go_wp2
  obtain ⟨⟨q1, q2, q3, q4⟩, hR4⟩ := HEND.out
  obtain ⟨⟨k1, k2⟩, _⟩ := boxTwo_cells (boxTwo_set hR4 (.slice (some ⟨g, 0, none⟩) xs.length d1) (.slice (some ⟨g2, 0, none⟩) m d2))
  refine bodyPost_ret (v := .tuple #[.agg #[.slice (some ⟨g, 0, none⟩) xs.length d1, .slice (some ⟨g2, 0, none⟩) m d2], .bool true]) (by simp [results, Try.results11, go_sem, k1, k2]) rfl ?_
  exact ⟨_, _, rfl, q1, q2, q3, q4⟩
set_option maxRecDepth 100000 in
set_option maxHeartbeats 8000000 in
theorem specUndo_any (A1 A2 : Option Addr) (n c1 m c2 B0 : Nat) (xs : List Int) (ss : List (Int × Int)) (w : World) (h1 : Rd w B0 A1 n xs) (h2 : RdQ w B0 A2 m ss) (hB0 : B0 ≤ w.heap.size) (hb1 : n ≤ 1048576) (hb2 : m ≤ 1048576) (hsh : logV xs ss = true → m ≤ 1000) :
    Calls Try.prog 11 #[.agg #[.slice A1 n c1, .slice A2 m c2]] w fun e w' => ∃ v v2, e = .returned (.tuple #[.agg #[v, v2], .bool (bkB xs ss ((m : Int) - 1))]) ∧ Own w' w.heap.size v (bkUp xs ss ((m : Int) - 1)) ∧ OwnQ 68 w' w.heap.size v2 (bkSt xs ss ((m : Int) - 1)) ∧ (∀ x, v.ownBlock = some x → ∀ y, v2.ownBlock = some y → x ≠ y) ∧ Below w.heap.size w w' := by
  have hlm := h2.1
  by_cases hg : logV xs ss = true ∧ 1 ≤ m
  · obtain ⟨hv, hm⟩ := hg
    obtain ⟨k, rfl⟩ : ∃ k, m = k + 1 := ⟨m - 1, by omega⟩
    obtain ⟨u, hu, -⟩ := bk_take hv (show k ≤ ss.length by omega)
    have hk : (((k + 1 : Nat) : Int) - 1) = (k : Int) := by omega
    obtain ⟨g0, g1, g2⟩ := bk_yes hv (show k ≤ ss.length by omega) hu
    rw [hk, g0, g1, g2]
    exact specUndo_good A1 A2 n c1 k c2 B0 xs ss u w h1 h2 hB0 (by have := hsh hv; omega) hv hu
  have hno : bkB xs ss ((m : Int) - 1) = false := by
    unfold bkB
    cases hv : logV xs ss with
    | false => rfl
    | true =>
      rw [decide_eq_false (fun h => hg ⟨hv, by omega⟩)]
      rfl
  obtain ⟨g1, g2⟩ := bk_none hno
  rw [hno, g1, g2]
  obtain ⟨W1, hW1⟩ : ∃ W1, W1 = w.alloc (.cells #[.slice A1 n c1, .slice A2 m c2] 26) := ⟨_, rfl⟩
  obtain ⟨W, hW⟩ : ∃ W, W = W1.alloc (.cells #[.slice none 0 0, .slice none 0 0] 26) := ⟨_, rfl⟩
  have e1 : W1.heap.size = w.heap.size + 1 := by rw [hW1]; simp
  have eW : W.heap.size = w.heap.size + 2 := by rw [hW]; simp [e1]
  have hA : W1.heap[w.heap.size]? = some (.cells #[.slice A1 n c1, .slice A2 m c2] 26 (0, 0)) := by rw [hW1]; exact World.alloc_heap_new w _
  have hAW : W.heap[w.heap.size]? = some (.cells #[.slice A1 n c1, .slice A2 m c2] 26 (0, 0)) := by rw [hW]; exact (Below.heap_alloc _ _ _ (by omega)).trans hA
  have hRW : W.heap[w.heap.size + 1]? = some (.cells #[.slice none 0 0, .slice none 0 0] 26 (0, 0)) := by rw [hW, ← e1]; exact World.alloc_heap_new W1 _
  have hbW : Below w.heap.size w W := by rw [hW, hW1]; exact ((Below.refl _ _).alloc (Nat.le_refl _) _).alloc (by simp) _
  have LV := specLogV_any A1 A2 n c1 m c2 B0 xs ss W (h1.below hbW hB0) (h2.below hbW hB0) (Nat.le_trans hB0 hbW.size) hb1 hb2
  obtain ⟨P, hP⟩ : ∃ P, P = w.heap.size := ⟨_, rfl⟩
  obtain ⟨R, hR⟩ : ∃ R, R = w.heap.size + 1 := ⟨_, rfl⟩
  rw [← hP] at hAW
  rw [← hR] at hRW
  obtain ⟨k1, k2⟩ := (boxTwo_cells hAW).1
  have HW := Lib.hid (And.intro hW (And.intro hW1 (And.intro hP hR)))
  have HF := Lib.hid (And.intro hbW (And.intro hAW (And.intro hRW eW)))
  cases hv : logV xs ss with
  | false =>
    rw [hv] at LV
    have LV := Lib.hid LV
    clear h1 h2 hB0 hb1 hb2 hsh hlm hg hno g1 g2 hW1 hW e1 eW hA hAW hRW hbW hP hR hv
    go_enter Try.func11, Try.ntmps11
    go_wp2_with fail
    rw [← HW.out.2.1, ← HW.out.1, ← HW.out.2.2.2, ← HW.out.2.2.1]
    refine LV.out.mono ?_
    rintro e w1 ⟨rfl, hb1⟩
    have hRz := (hb1.block R (by have := HF.out.2.2.2; have := HW.out.2.2.2; omega)).trans HF.out.2.2.1
    obtain ⟨⟨r1, r2⟩, f1, f2⟩ := boxTwo_cells hRz
    have HZ := Lib.hid (And.intro hRz (Below.on HF.out.1 hb1))
    clear hb1 hRz
    go_wp2_with fail
    obtain ⟨⟨k1, k2⟩, _⟩ := boxTwo_cells (boxTwo_set HZ.out.1 (.slice none 0 0) (.slice none 0 0))
    refine bodyPost_ret (v := .tuple #[.agg #[.slice none 0 0, .slice none 0 0], .bool false]) (by simp [results, Try.results11, go_sem, k1, k2]) rfl ?_
    exact ⟨_, _, rfl, World.ownsRow_nil _ _ _ _, OwnQ.nil _ _ _, (fun x e => by cases e), boxTwo_below HZ.out.2 (by have := HW.out.2.2.2; omega) _ _⟩
  | true =>
    obtain rfl : m = 0 := by
      cases m with
      | zero => rfl
      | succ m => exact (hg ⟨hv, by omega⟩).elim
    rw [hv] at LV
    have LV := Lib.hid LV
    clear h1 h2 hB0 hb1 hb2 hsh hlm hg hno g1 g2 hW1 hW e1 eW hA hAW hRW hbW hP hR hv
    go_enter Try.func11, Try.ntmps11
    go_wp2_with fail
    rw [← HW.out.2.1, ← HW.out.1, ← HW.out.2.2.2, ← HW.out.2.2.1]
    refine LV.out.mono ?_
    rintro e w1 ⟨rfl, hb1⟩
    have hP1 := (hb1.block P (by have := HF.out.2.2.2; have := HW.out.2.2.1; omega)).trans HF.out.2.1
    have hRz := (hb1.block R (by have := HF.out.2.2.2; have := HW.out.2.2.2; omega)).trans HF.out.2.2.1
    obtain ⟨⟨r1, r2⟩, f1, f2⟩ := boxTwo_cells hRz
    obtain ⟨⟨p1, p2⟩, _⟩ := boxTwo_cells hP1
    have HZ := Lib.hid (And.intro hRz (Below.on HF.out.1 hb1))
    clear hb1 hRz hP1
    go_wp2_with fail
    obtain ⟨⟨k1, k2⟩, _⟩ := boxTwo_cells (boxTwo_set HZ.out.1 (.slice none 0 0) (.slice none 0 0))
    refine bodyPost_ret (v := .tuple #[.agg #[.slice none 0 0, .slice none 0 0], .bool false]) (by simp [results, Try.results11, go_sem, k1, k2]) rfl ?_
    exact ⟨_, _, rfl, World.ownsRow_nil _ _ _ _, OwnQ.nil _ _ _, (fun x e => by cases e), boxTwo_below HZ.out.2 (by have := HW.out.2.2.2; omega) _ _⟩
end Go.Proofs.Ytichcnaomcpnhaa

namespace Go.Proofs.Ytichcnaomcpnhaa
open Go.RowKit Go.Shelf

/-- The length of the slice in a log's second cell. -/
def stepsIn (w : World) (X : Nat) : Nat := match w.cell? ⟨X, 1, none⟩ with | some (.slice _ n _) => n | _ => 0
theorem stepsIn_at {w : World} {X n c : Nat} {A : Option Addr} {x : Value} {t : TypeId} (h : w.heap[X]? = some (.cells #[x, .slice A n c] t (0, 0))) : stepsIn w X = n := by
  unfold stepsIn
  rw [(boxTwo_cells h).1.2]
end Go.Proofs.Ytichcnaomcpnhaa