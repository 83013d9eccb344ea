/- The walk of the law on undoing a join: for every two rows of bytes the law returns true and nothing that was there has turned. -/
import Derived.Test.YtichcnaomcpnhaaDrawUndo
import Derived.Test.YtichcnaomcpnhaaDrawJL
import Derived.Test.YtichcnaomcpnhaaSpecBack
import Derived.Test.YtichcnaomcpnhaaSpecJoinAny
import Derived.Test.YtichcnaomcpnhaaImplJoinLog
import Derived.Test.YtichcnaomcpnhaaLogV
import Derived.Test.YtichcnaomcpnhaaJoinedAt
import Derived.Deep.RegionHeld3
namespace Go.Proofs.Ytichcnaomcpnhaa
open Go.RowKit Go.Shelf

theorem jl_lens (xs : List Int) (ss : List (Int × Int)) (a b : Int) : (jlUp xs ss a b).length ≤ xs.length ∧ (jlSt xs ss a b).length ≤ ss.length + 1 := by
  unfold jlUp jlSt
  split
  · refine ⟨by rw [joinL_len]; exact Nat.le_refl _, ?_⟩
    unfold joinSt
    split
    · omega
    · simp
  · simp
theorem bk_lens {xs : List Int} {ss : List (Int × Int)} {k : Int} : (bkUp xs ss k).length ≤ xs.length ∧ (bkSt xs ss k).length ≤ ss.length := by
  cases h : bkB xs ss k with
  | false => rw [(bk_none h).1, (bk_none h).2]; simp
  | true =>
    have h' := h
    unfold bkB at h'
    simp only [Bool.and_eq_true, decide_eq_true_eq] at h'
    obtain ⟨hv, h2, h3⟩ := h'
    obtain ⟨j, rfl⟩ := Int.eq_ofNat_of_zero_le h2
    obtain ⟨g1, g2, _, _⟩ := upAt_built hv (show j ≤ ss.length by omega)
    obtain ⟨_, q1, q2⟩ := bk_yes hv (show j ≤ ss.length by omega) g1
    rw [q1, q2, g2, List.length_take]
    omega
/-- What is so when a join has been done: it can be undone, it is that of Join by the rule Size, and the items are together behind the last step. -/
theorem jl_facts {xs : List Int} {ss : List (Int × Int)} {a b : Int} (h : jlB xs ss a b = true) :
    ((jlUp xs ss a b).length = xs.length ∧ (jlSt xs ss a b).length = ss.length + 1) ∧ logV (jlUp xs ss a b) (jlSt xs ss a b) = true ∧
      (bkB (jlUp xs ss a b) (jlSt xs ss a b) (ss.length : Int) = true ∧ bkUp (jlUp xs ss a b) (jlSt xs ss a b) (ss.length : Int) = xs ∧ bkSt (jlUp xs ss a b) (jlSt xs ss a b) (ss.length : Int) = ss) ∧
      joinN xs 1 a b = jlUp xs ss a b ∧ joinB xs 1 a b = true ∧ jatN (jlUp xs ss a b) (jlSt xs ss a b) a b = ((ss.length + 1 : Nat) : Int) := by
  have h0 := h
  unfold jlB at h0
  simp only [Bool.and_eq_true, Bool.not_eq_true', decide_eq_false_iff_not] at h0
  obtain ⟨⟨⟨hv, ha⟩, hb⟩, hne⟩ := h0
  obtain ⟨l1, l2, hf⟩ := logV_parts hv
  obtain ⟨a1, a2⟩ := item_lt ha
  obtain ⟨b1, b2⟩ := item_lt hb
  obtain ⟨x, rfl⟩ := Int.eq_ofNat_of_zero_le (show 0 ≤ a by omega)
  obtain ⟨y, rfl⟩ := Int.eq_ofNat_of_zero_le (show 0 ≤ b by omega)
  have hx : x < xs.length := by omega
  have hy : y < xs.length := by omega
  have hr : rootI xs x ≠ rootI xs y := fun e => hne (by unfold rootN; rw [if_pos ha, if_pos hb, Int.toNat_natCast, Int.toNat_natCast, e])
  have eU : jlUp xs ss x y = joinL xs 1 x y := by unfold jlUp; rw [if_pos h, Int.toNat_natCast, Int.toNat_natCast]
  have eS : jlSt xs ss x y = ss ++ [((stR xs x y : Int), (stT xs x y : Int))] := by unfold jlSt joinSt; rw [if_pos h, Int.toNat_natCast, Int.toNat_natCast, if_neg hr]
  have hv2 : logV (jlUp xs ss x y) (jlSt xs ss x y) = true := by
    have := logV_join hv hx hy
    unfold joinSt at this
    rw [if_neg hr] at this
    rw [eU, eS]
    exact this
  have hl : (jlUp xs ss x y).length = xs.length := by rw [eU, joinL_len]
  have hs : (jlSt xs ss x y).length = ss.length + 1 := by rw [eS]; simp
  have htk : (jlSt xs ss x y).take ss.length = ss := by rw [eS]; simp
  have hbu : builtL (roots (jlUp xs ss x y).length) ((jlSt xs ss x y).take ss.length) = some xs := by rw [hl, htk]; exact l2
  obtain ⟨q1, q2, q3⟩ := bk_yes hv2 (k := ss.length) (by omega) hbu
  have hjb : joinB xs 1 (x : Int) (y : Int) = true := by
    unfold joinB inRule
    rw [ha, hb]
    simp only [Bool.true_and, Bool.and_eq_true, Bool.not_eq_true', beq_eq_false_iff_ne, ne_eq]
    exact ⟨by decide, hne⟩
  refine ⟨⟨hl, hs⟩, hv2, ⟨q1, q2, by rw [q3, htk]⟩, by rw [joinN_yes hjb, eU, Int.toNat_natCast, Int.toNat_natCast], hjb, ?_⟩
  refine jat_next hv2 (by omega) (by omega) (by omega) ?_ ?_
  · unfold tgN
    rw [show ss.length + 1 = (jlSt xs ss x y).length by omega, upAt_all hv2, eU]
    exact decide_eq_true (joinL_tog hf hx hy 1)
  · unfold tgN upAt
    rw [hbu]
    exact decide_eq_false hr
section
variable {xs : List Int} {ss : List (Int × Int)} {a b : Int} {A A' : Option Addr} {n c m q c' B : Nat} {w : World}
theorem undo_back (h : jlB xs ss a b = true) (hn : n = xs.length) (hm : m = ss.length) (hq : q = (jlSt xs ss a b).length) (hb : n ≤ 1048576) (hb2 : q ≤ 1048576) (h1 : Rd w B A n (jlUp xs ss a b)) (h2 : RdQ w B A' q (jlSt xs ss a b)) (hB : B ≤ w.heap.size) :
    Calls Try.prog 10 #[.agg #[.slice A n c, .slice A' q c']] w fun e w' => ∃ A c A' c', e = .returned (.tuple #[.agg #[.slice A n c, .slice A' m c'], .bool true]) ∧ Rd w' w'.heap.size A n xs ∧ RdQ w' w'.heap.size A' m ss ∧ m ≤ c' ∧ Below w.heap.size w w' := by
  obtain ⟨⟨f1, f2⟩, _, ⟨g1, g2, g3⟩, _⟩ := jl_facts h
  have := log2_of (implUndo_any A A' n c q c' B (jlUp xs ss a b) (jlSt xs ss a b) w h1 h2 hB hb hb2)
  rw [show ((q : Nat) : Int) - 1 = (ss.length : Int) by omega, g1, g2, g3, ← hn, ← hm] at this
  exact this
theorem undo_join (h : jlB xs ss a b = true) (hn : n = xs.length) (hb : n ≤ 1048576) (h1 : Rd w B A n xs) (hB : B ≤ w.heap.size) :
    Calls Try.prog 13 #[.slice A n c, .int .i64 1, .int .i64 a, .int .i64 b] w fun e w' => ∃ A c, e = .returned (.tuple #[.slice A n c, .bool true]) ∧ Rd w' w'.heap.size A n (jlUp xs ss a b) ∧ Below w.heap.size w w' := by
  obtain ⟨⟨f1, f2⟩, _, _, g1, g2, _⟩ := jl_facts h
  have := rd2_of (implJoin_any A n c B xs 1 a b w h1 hB hb)
  rw [g1, g2, f1, ← hn] at this
  exact this
theorem undo_valid (h : jlB xs ss a b = true) (hb : n ≤ 1048576) (hb2 : q ≤ 1048576) (h1 : Rd w B A n (jlUp xs ss a b)) (h2 : RdQ w B A' q (jlSt xs ss a b)) (hB : B ≤ w.heap.size) :
    Calls Try.prog 14 #[.agg #[.slice A n c, .slice A' q c']] w fun e w' => e = .returned (.bool true) ∧ Below w.heap.size w w' := by
  have := implLogV_any A A' n c q c' B (jlUp xs ss a b) (jlSt xs ss a b) w h1 h2 hB hb hb2
  rw [(jl_facts h).2.1] at this
  exact this
theorem undo_at (h : jlB xs ss a b = true) (hq : q = (jlSt xs ss a b).length) (hb : n ≤ 1048576) (hb2 : q ≤ 1048576) (h1 : Rd w B A n (jlUp xs ss a b)) (h2 : RdQ w B A' q (jlSt xs ss a b)) (hB : B ≤ w.heap.size) :
    Calls Try.prog 16 #[.agg #[.slice A n c, .slice A' q c'], .int .i64 a, .int .i64 b] w fun e w' => e = .returned (.int .i64 (q : Int)) ∧ Below w.heap.size w w' := by
  obtain ⟨⟨f1, f2⟩, _, _, _, _, g⟩ := jl_facts h
  have := implJat_any A A' n c q c' B a b (jlUp xs ss a b) (jlSt xs ss a b) w h1 h2 hB hb hb2
  rw [g, ← f2, ← hq] at this
  exact this
end
theorem cell_keep {w w' : World} {p : Addr} {v : Value} (h : w.cell? p = some v) (hb : Below w.heap.size w w') : w'.cell? p = some v := (hb.cell (p := p) (World.block_lt_of_cell? w _ h)).trans h
theorem held6_drew {B : Nat} {a w : World} {p1 p2 p3 p4 p5 p6 : Addr} {v1 v2 v3 v4 v5 v6 : Value} (h : Below B a w ∧ w.cell? p1 = some v1 ∧ w.cell? p2 = some v2 ∧ w.cell? p3 = some v3 ∧ w.cell? p4 = some v4 ∧ w.cell? p5 = some v5 ∧ w.cell? p6 = some v6) :
    Below B a w.drew ∧ w.drew.cell? p1 = some v1 ∧ w.drew.cell? p2 = some v2 ∧ w.drew.cell? p3 = some v3 ∧ w.drew.cell? p4 = some v4 ∧ w.drew.cell? p5 = some v5 ∧ w.drew.cell? p6 = some v6 :=
  ⟨⟨h.1.os, h.1.tape, h.1.output, h.1.size, h.1.block⟩, h.2⟩
theorem held6_call {B : Nat} {a w w' : World} {p1 p2 p3 p4 p5 p6 : Addr} {v1 v2 v3 v4 v5 v6 : Value} (h : Below B a w ∧ w.cell? p1 = some v1 ∧ w.cell? p2 = some v2 ∧ w.cell? p3 = some v3 ∧ w.cell? p4 = some v4 ∧ w.cell? p5 = some v5 ∧ w.cell? p6 = some v6) (hb : Below w.heap.size w w') (hB : B ≤ w.heap.size) :
    Below B a w' ∧ w'.cell? p1 = some v1 ∧ w'.cell? p2 = some v2 ∧ w'.cell? p3 = some v3 ∧ w'.cell? p4 = some v4 ∧ w'.cell? p5 = some v5 ∧ w'.cell? p6 = some v6 := by
  obtain ⟨h0, h1, h2, h3, h4, h5, h6⟩ := h
  exact ⟨h0.trans (hb.mono hB), cell_keep h1 hb, cell_keep h2 hb, cell_keep h3 hb, cell_keep h4 hb, cell_keep h5 hb, cell_keep h6 hb⟩

set_option maxRecDepth 100000 in
set_option maxHeartbeats 8000000 in
theorem fnUndo (A0 : Option Addr) (n0 c0 : Nat) (z0 : List Int) (A1 : Option Addr) (n1 c1 : Nat) (z1 : List Int) (w : World) (h0 : Row .u8 w A0 n0 c0 z0) (h1 : Row .u8 w A1 n1 c1 z1) :
    Calls Try.prog 3 #[.slice A0 n0 c0, .slice A1 n1 c1] w fun e w' => e = .returned (.bool true) ∧ Below w.heap.size w w' := by
  by_cases hl0 : 1048576 < n0
  · clear h0 h1
    go_enter Try.func3, Try.ntmps3
    go_wp2
    go_ret
    exact ⟨rfl, Below.refl _ _⟩
  by_cases hl1 : 1048576 < n1
  · clear h0 h1
    go_enter Try.func3, Try.ntmps3
    go_wp2
    go_ret
    exact ⟨rfl, Below.refl _ _⟩
  obtain ⟨b0, hc0⟩ := h0.bt
  obtain ⟨b1, hc1⟩ := h1.bt
  have D0 := Lib.hid (drawJoinLog_any A0 n0 c0 w.heap.size z0 w b0 (Nat.le_refl _) hc0)
  have D1 := Lib.hid (fun (w1 : World) (hb : Below w.heap.size w w1) => drawUndo_any A1 n1 c1 w.heap.size z1 w1 (b1.below hb (Nat.le_refl _)) hb.size hc1)
  clear h0 h1 b0 b1 hc0 hc1
  go_enter Try.func3, Try.ntmps3
  go_wp2_with fail
  refine D0.out.mono ?_
  rintro e w1 ⟨v, v2, a, b, xs, ss, rfl, ho, hx16, hq, hs17, hb1⟩
  obtain ⟨A, c, e1, hr⟩ := ho.form
  obtain ⟨A', c', e2, hrq⟩ := hq.form
  obtain ⟨n, hn⟩ : ∃ n, n = xs.length := ⟨_, rfl⟩
  obtain ⟨m, hm⟩ : ∃ m, m = ss.length := ⟨_, rfl⟩
  rw [← hn] at e1 hr hx16
  rw [← hm] at e2 hrq hs17
  subst e1 e2
  obtain ⟨V1, hV1⟩ : ∃ V1, V1 = w1.alloc (.cells #[.slice A n c, .slice A' m c'] 26) := ⟨_, rfl⟩
  obtain ⟨X1, hX1⟩ : ∃ X1, X1 = w1.heap.size := ⟨_, rfl⟩
  have hbV1 : Below w1.heap.size w1 V1 := by rw [hV1]; exact log_box w1 _ _
  have hR1 : V1.heap[X1]? = some (.cells #[.slice A n c, .slice A' m c'] 26 (0, 0)) := by rw [hV1, hX1]; exact World.alloc_heap_new w1 _
  have hrV := hr.to hbV1
  have hqV := hrq.to hbV1
  have hjl := jl_lens xs ss a b
  obtain ⟨p, hp⟩ : ∃ p, p = (jlUp xs ss a b).length := ⟨_, rfl⟩
  obtain ⟨q, hq2⟩ : ∃ q, q = (jlSt xs ss a b).length := ⟨_, rfl⟩
  obtain ⟨ok, hok⟩ : ∃ ok, ok = jlB xs ss a b := ⟨_, rfl⟩
  have JI := log2_of (implJoinLog_any A A' n c m c' V1.heap.size a b xs ss V1 hrV hqV (Nat.le_refl _) (by omega) (by omega))
  have JS := Lib.hid (fun (W : World) (hb : Below V1.heap.size V1 W) => by
    have := log2_of' (specJoinLog_any A A' n c m c' V1.heap.size a b xs ss W (hrV.below hb (Nat.le_refl _)) (hqV.below hb (Nat.le_refl _)) hb.size (by omega) (by omega) (fun _ => by omega))
    rw [← hp, ← hq2, ← hok] at this
    exact this)
  rw [← hp, ← hq2, ← hok] at JI
  have HOK := Lib.hid hok
  have JI := Lib.hid JI
  rw [← hp, ← hq2, ← hn, ← hm] at hjl
  have HN := Lib.hid (And.intro hn (And.intro hm (And.intro hx16 (And.intro hs17 (And.intro hp (And.intro hq2 hjl))))))
  have H1 := Lib.hid (And.intro (Below.on hb1 hbV1) (And.intro hR1 (And.intro hrV hqV)))
  have HE1 := Lib.hid (And.intro hV1 hX1)
  obtain ⟨⟨a1, a2⟩, _⟩ := boxTwo_cells hR1
  rw [hV1, hX1] at a1 a2
  clear hbV1 hR1 hrV hqV hr hrq ho hq hb1 D0 hn hm hx16 hs17 hV1 hX1 hp hq2 hjl hok
  go_wp2_with fail
  rw [← HE1.out.1, ← HE1.out.2]
  refine JI.out.mono ?_
  rintro e w2 ⟨A2, c2, A3, c3, rfl, hr2, hq2, _, hb2⟩
  obtain ⟨V2, hV2⟩ : ∃ V2, V2 = w2.alloc (.cells #[.slice A2 p c2, .slice A3 q c3] 26) := ⟨_, rfl⟩
  obtain ⟨X2, hX2⟩ : ∃ X2, X2 = w2.heap.size := ⟨_, rfl⟩
  have hbV2 : Below w2.heap.size w2 V2 := by rw [hV2]; exact log_box w2 _ _
  have hR2 : V2.heap[X2]? = some (.cells #[.slice A2 p c2, .slice A3 q c3] 26 (0, 0)) := by rw [hV2, hX2]; exact World.alloc_heap_new w2 _
  have H2 := Lib.hid (And.intro (hr2.to hbV2) (And.intro (hq2.to hbV2) (And.intro hR2 (Below.on hb2 hbV2))))
  have HE2 := Lib.hid (And.intro hV2 hX2)
  have hR12 := ((Below.on hb2 hbV2).block X1 (Array.getElem?_eq_some_iff.1 H1.out.2.1).1).trans H1.out.2.1
  obtain ⟨⟨a1, a2⟩, _⟩ := boxTwo_cells hR12
  rw [hV2] at a1 a2
  clear hr2 hq2 hb2 hV2 hX2 hbV2 hR2 JI hR12
  go_wp2_with fail
  rw [← HE2.out.1, ← HE2.out.2]
  refine (JS.out V2 H2.out.2.2.2).mono ?_
  rintro e w3 ⟨A4, c4, A5, c5, rfl, hr3, hq3, _, hb3⟩
  obtain ⟨V3, hV3⟩ : ∃ V3, V3 = w3.alloc (.cells #[.slice A4 p c4, .slice A5 q c5] 26) := ⟨_, rfl⟩
  obtain ⟨X3, hX3⟩ : ∃ X3, X3 = w3.heap.size := ⟨_, rfl⟩
  have hbV3 : Below w3.heap.size w3 V3 := by rw [hV3]; exact log_box w3 _ _
  have hR3 : V3.heap[X3]? = some (.cells #[.slice A4 p c4, .slice A5 q c5] 26 (0, 0)) := by rw [hV3, hX3]; exact World.alloc_heap_new w3 _
  have H3 := Lib.hid (And.intro (hr3.to hbV3) (And.intro (hq3.to hbV3) (And.intro hR3 (Below.on hb3 hbV3))))
  have HE3 := Lib.hid (And.intro hV3 hX3)
  have D1 := Lib.hid (D1.out V3 (Below.on H1.out.1 (Below.on H2.out.2.2.2 (Below.on hb3 hbV3))))
  clear hr3 hq3 hb3 hV3 hX3 hbV3 hR3 JS a1 a2
  go_wp2_with fail
  rw [← HE3.out.1, ← HE3.out.2]
  refine D1.out.mono ?_
  rintro e w4 ⟨v, v2, ys, ts, rfl, ho, hy16, hq, ht17, hb4⟩
  obtain ⟨A6, c6, e1, hr4⟩ := ho.form
  obtain ⟨A7, c7, e2, hq4⟩ := hq.form
  obtain ⟨n2, hn2⟩ : ∃ n2, n2 = ys.length := ⟨_, rfl⟩
  obtain ⟨m2, hm2⟩ : ∃ m2, m2 = ts.length := ⟨_, rfl⟩
  rw [← hn2] at e1 hr4 hy16
  rw [← hm2] at e2 hq4 ht17
  subst e1 e2
  obtain ⟨V4, hV4⟩ : ∃ V4, V4 = w4.alloc (.cells #[.slice A6 n2 c6, .slice A7 m2 c7] 26) := ⟨_, rfl⟩
  obtain ⟨X4, hX4⟩ : ∃ X4, X4 = w4.heap.size := ⟨_, rfl⟩
  have hbV4 : Below w4.heap.size w4 V4 := by rw [hV4]; exact log_box w4 _ _
  have hR4 : V4.heap[X4]? = some (.cells #[.slice A6 n2 c6, .slice A7 m2 c7] 26 (0, 0)) := by rw [hV4, hX4]; exact World.alloc_heap_new w4 _
  have hrV := hr4.to hbV4
  have hqV := hq4.to hbV4
  have hbl := bk_lens (xs := ys) (ss := ts) (k := (m2 : Int) - 1)
  obtain ⟨r, hr5⟩ : ∃ r, r = (bkUp ys ts ((m2 : Int) - 1)).length := ⟨_, rfl⟩
  obtain ⟨s, hs5⟩ : ∃ s, s = (bkSt ys ts ((m2 : Int) - 1)).length := ⟨_, rfl⟩
  have UI := log2_of (implUndo_any A6 A7 n2 c6 m2 c7 V4.heap.size ys ts V4 hrV hqV (Nat.le_refl _) (by omega) (by omega))
  have US := Lib.hid (fun (W : World) (hb : Below V4.heap.size V4 W) => by
    have := log2_of (specUndo_any A6 A7 n2 c6 m2 c7 V4.heap.size ys ts W (hrV.below hb (Nat.le_refl _)) (hqV.below hb (Nat.le_refl _)) hb.size (by omega) (by omega) (fun _ => by omega))
    rw [← hr5, ← hs5] at this
    exact this)
  rw [← hr5, ← hs5] at UI
  have UI := Lib.hid UI
  rw [← hr5, ← hs5, ← hn2, ← hm2] at hbl
  have HM := Lib.hid (And.intro hy16 (And.intro ht17 hbl))
  have H4 := Lib.hid (And.intro hR4 (Below.on hb4 hbV4))
  have HE4 := Lib.hid (And.intro hV4 hX4)
  obtain ⟨⟨a1, a2⟩, _⟩ := boxTwo_cells hR4
  rw [hV4, hX4] at a1 a2
  generalize bkB ys ts ((m2 : Int) - 1) = gg at UI US
  clear hbV4 hR4 hrV hqV hr4 hq4 ho hq hb4 D1 hn2 hm2 hy16 ht17 hV4 hX4 hbl hr5 hs5
  go_wp2_with fail
  rw [← HE4.out.1, ← HE4.out.2]
  refine UI.out.mono ?_
  rintro e w5 ⟨A8, c8, A9, c9, rfl, hr6, hq6, _, hb5⟩
  obtain ⟨V5, hV5⟩ : ∃ V5, V5 = w5.alloc (.cells #[.slice A8 r c8, .slice A9 s c9] 26) := ⟨_, rfl⟩
  obtain ⟨X5, hX5⟩ : ∃ X5, X5 = w5.heap.size := ⟨_, rfl⟩
  have hbV5 : Below w5.heap.size w5 V5 := by rw [hV5]; exact log_box w5 _ _
  have hR5 : V5.heap[X5]? = some (.cells #[.slice A8 r c8, .slice A9 s c9] 26 (0, 0)) := by rw [hV5, hX5]; exact World.alloc_heap_new w5 _
  have H5 := Lib.hid (And.intro (hr6.to hbV5) (And.intro (hq6.to hbV5) (And.intro hR5 (Below.on hb5 hbV5))))
  have HE5 := Lib.hid (And.intro hV5 hX5)
  have hR45 := ((Below.on hb5 hbV5).block X4 (Array.getElem?_eq_some_iff.1 H4.out.1).1).trans H4.out.1
  obtain ⟨⟨a1, a2⟩, _⟩ := boxTwo_cells hR45
  rw [hV5] at a1 a2
  clear hr6 hq6 hb5 hV5 hX5 hbV5 hR5 UI hR45
  go_wp2_with fail
  rw [← HE5.out.1, ← HE5.out.2]
  refine (US.out V5 H5.out.2.2.2).mono ?_
  rintro e w6 ⟨A10, c10, A11, c11, rfl, hr7, hq7, _, hb6⟩
  obtain ⟨V, hV⟩ : ∃ V, V = w6.alloc (.cells #[.slice A10 r c10, .slice A11 s c11] 26) := ⟨_, rfl⟩
  obtain ⟨X6, hX6⟩ : ∃ X6, X6 = w6.heap.size := ⟨_, rfl⟩
  have hbV6 : Below w6.heap.size w6 V := by rw [hV]; exact log_box w6 _ _
  have hR6 : V.heap[X6]? = some (.cells #[.slice A10 r c10, .slice A11 s c11] 26 (0, 0)) := by rw [hV, hX6]; exact World.alloc_heap_new w6 _
  have hb5V : Below V5.heap.size V5 V := Below.on hb6 hbV6
  have hb4V : Below V4.heap.size V4 V := Below.on H5.out.2.2.2 hb5V
  have hb3V : Below V3.heap.size V3 V := Below.on H4.out.2 hb4V
  have hb2V : Below V2.heap.size V2 V := Below.on H3.out.2.2.2 hb3V
  have hb1V : Below V1.heap.size V1 V := Below.on H2.out.2.2.2 hb2V
  have hX5V := (hb5V.block X5 (Array.getElem?_eq_some_iff.1 H5.out.2.2.1).1).trans H5.out.2.2.1
  have hX3V := (hb3V.block X3 (Array.getElem?_eq_some_iff.1 H3.out.2.2.1).1).trans H3.out.2.2.1
  have hX2V := (hb2V.block X2 (Array.getElem?_eq_some_iff.1 H2.out.2.2.1).1).trans H2.out.2.2.1
  have hX1V := (hb1V.block X1 (Array.getElem?_eq_some_iff.1 H1.out.2.1).1).trans H1.out.2.1
  have r1 := H1.out.2.2.1.to hb1V
  have q1 := H1.out.2.2.2.to hb1V
  have r2 := H2.out.1.to hb2V
  have q2 := H2.out.2.1.to hb2V
  have r3 := H3.out.1.to hb3V
  have q3 := H3.out.2.1.to hb3V
  have r5 := H5.out.1.to hb5V
  have q5 := H5.out.2.1.to hb5V
  have r6 := hr7.to hbV6
  have q6 := hq7.to hbV6
  have LR := Lib.hid (fun (W' : World) (h8 : Below V.heap.size V W') => lrLog_any A2 A3 A4 A5 p c2 q c3 c4 c5 V.heap.size V.heap.size V.heap.size V.heap.size (jlUp xs ss a b) (jlSt xs ss a b) W' (r2.below h8 (Nat.le_refl _)) (q2.below h8 (Nat.le_refl _)) (r3.below h8 (Nat.le_refl _)) (q3.below h8 (Nat.le_refl _)) ⟨h8.size, h8.size, h8.size, h8.size⟩ (by have := HN.out; omega) (by have := HN.out; omega))
  have LX := Lib.hid (fun (W' : World) (h8 : Below V.heap.size V W') => lrLog_any A8 A9 A10 A11 r c8 s c9 c10 c11 V.heap.size V.heap.size V.heap.size V.heap.size (bkUp ys ts ((m2 : Int) - 1)) (bkSt ys ts ((m2 : Int) - 1)) W' (r5.below h8 (Nat.le_refl _)) (q5.below h8 (Nat.le_refl _)) (r6.below h8 (Nat.le_refl _)) (q6.below h8 (Nat.le_refl _)) ⟨h8.size, h8.size, h8.size, h8.size⟩ (by have := HM.out; omega) (by have := HM.out; omega))
  have HV := Lib.hid (And.intro hb1V (And.intro r1 (And.intro q1 (And.intro r2 q2))))
  have HE6 := Lib.hid (And.intro hV hX6)
  have HC : Hid (∀ W', Below V.heap.size V W' → (W'.cell? ⟨X1, 0, none⟩ = some (.slice A n c) ∧ W'.cell? ⟨X1, 1, none⟩ = some (.slice A' m c')) ∧ (W'.cell? ⟨X2, 0, none⟩ = some (.slice A2 p c2) ∧ W'.cell? ⟨X2, 1, none⟩ = some (.slice A3 q c3)) ∧ (W'.cell? ⟨X3, 0, none⟩ = some (.slice A4 p c4) ∧ W'.cell? ⟨X3, 1, none⟩ = some (.slice A5 q c5)) ∧ (W'.cell? ⟨X5, 0, none⟩ = some (.slice A8 r c8) ∧ W'.cell? ⟨X5, 1, none⟩ = some (.slice A9 s c9)) ∧ (W'.cell? ⟨X6, 0, none⟩ = some (.slice A10 r c10) ∧ W'.cell? ⟨X6, 1, none⟩ = some (.slice A11 s c11))) := fun W' hb =>
    ⟨(boxTwo_cells ((hb.block X1 (Array.getElem?_eq_some_iff.1 hX1V).1).trans hX1V)).1, (boxTwo_cells ((hb.block X2 (Array.getElem?_eq_some_iff.1 hX2V).1).trans hX2V)).1, (boxTwo_cells ((hb.block X3 (Array.getElem?_eq_some_iff.1 hX3V).1).trans hX3V)).1, (boxTwo_cells ((hb.block X5 (Array.getElem?_eq_some_iff.1 hX5V).1).trans hX5V)).1, (boxTwo_cells ((hb.block X6 (Array.getElem?_eq_some_iff.1 hR6).1).trans hR6)).1⟩
  obtain ⟨⟨a1, a2⟩, _⟩ := boxTwo_cells hX2V
  obtain ⟨⟨a3, a4⟩, _⟩ := boxTwo_cells hX3V
  obtain ⟨⟨a5, a6⟩, _⟩ := boxTwo_cells hX5V
  obtain ⟨⟨a7, a8⟩, _⟩ := boxTwo_cells hR6
  rw [hV] at a1 a2 a3 a4 a5 a6 a7 a8
  rw [hX6] at a7 a8
  have t2 : (gg != gg) = false := by simp
  have t3 : (gg == gg) = true := by simp
  clear hr7 hq7 hb6 hV hX6 hbV6 hR6 hb5V hb4V hb3V hb2V hb1V hX5V hX3V hX2V hX1V r1 q1 r2 q2 r3 q3 r5 r6 q5 q6 US
  cases ok with
  | false =>
    have hk := HOK.out.symm
    have hp0 : p = 0 := by have := HN.out.2.2.2.2.1; unfold jlUp at this; rw [hk] at this; simpa using this
    subst hp0
    clear hk
    go_wp2_with fail
    rw [← HE6.out.1, ← HE6.out.2]
    refine (LR.out V (Below.refl _ _)).mono ?_
    rintro e w7 ⟨rfl, hb⟩
    have H7 := Lib.hid hb
    clear hb a1 a2 a3 a4 a5 a6 a7 a8
    obtain ⟨-, ⟨a1, a2⟩, ⟨a3, a4⟩, ⟨a5, a6⟩, a7, a8⟩ := HC.out _ H7.out
    go_wp2_with fail
    refine (LX.out w7 H7.out).mono ?_
    rintro e w8 ⟨rfl, hb⟩
    have H8 := Lib.hid (Below.on H7.out hb)
    clear hb a1 a2 a3 a4 a5 a6 a7 a8
    obtain ⟨-, ⟨a1, a2⟩, ⟨a3, a4⟩, ⟨a5, a6⟩, a7, a8⟩ := HC.out _ H8.out
    go_wp2_with fail
    refine (LR.out w8 H8.out).mono ?_
    rintro e w9 ⟨rfl, hb⟩
    have H9 := Lib.hid (Below.on H8.out hb)
    clear hb a1 a2 a3 a4 a5 a6 a7 a8
    obtain ⟨-, ⟨a1, a2⟩, ⟨a3, a4⟩, ⟨a5, a6⟩, a7, a8⟩ := HC.out _ H9.out
    go_wp2_with fail
    refine (LX.out w9 H9.out).mono ?_
    rintro e w10 ⟨rfl, hb⟩
    have H10 := Lib.hid (Below.on H9.out hb)
    clear hb a1 a2 a3 a4 a5 a6 a7 a8
    obtain ⟨-, ⟨a1, a2⟩, ⟨a3, a4⟩, ⟨a5, a6⟩, a7, a8⟩ := HC.out _ H10.out
    go_wp2_with fail
    go_ret
    exact ⟨rfl, Below.on H1.out.1 (Below.on HV.out.1 H10.out)⟩
  | true =>
    have hk := HOK.out.symm
    obtain ⟨f1, f2⟩ := (jl_facts hk).1
    obtain ⟨hn, hm, hx16, hs17, hp, hq, -⟩ := HN.out
    obtain ⟨hb1V, r1, q1, r2, q2⟩ := HV.out
    have hpn : n = p := hn.trans (f1.symm.trans hp.symm)
    subst hpn
    have hqm : q = m + 1 := by rw [hq, f2, ← hm]
    have hn20 : n ≤ 1048576 := by omega
    have hq20 : q ≤ 1048576 := by omega
    have UB := Lib.hid (fun (W' : World) (h8 : Below V.heap.size V W') => undo_back (c := c2) (c' := c3) hk hn hm hq hn20 hq20 (r2.below h8 (Nat.le_refl _)) (q2.below h8 (Nat.le_refl _)) h8.size)
    have IJ := Lib.hid (fun (W' : World) (h8 : Below V.heap.size V W') => undo_join (c := c) hk hn hn20 (r1.below h8 (Nat.le_refl _)) h8.size)
    have IV := Lib.hid (fun (W' : World) (h8 : Below V.heap.size V W') => undo_valid (c := c2) (c' := c3) hk hn20 hq20 (r2.below h8 (Nat.le_refl _)) (q2.below h8 (Nat.le_refl _)) h8.size)
    have IA := Lib.hid (fun (W' : World) (h8 : Below V.heap.size V W') => undo_at (c := c2) (c' := c3) hk hq hn20 hq20 (r2.below h8 (Nat.le_refl _)) (q2.below h8 (Nat.le_refl _)) h8.size)
    obtain ⟨us, hus⟩ : ∃ us, us = jlUp xs ss a b := ⟨_, rfl⟩
    rw [← hus] at r2 IJ
    have HR := Lib.hid (And.intro (And.intro r1 q1) r2)
    have HB := Lib.hid (And.intro hx16 hs17)
    clear hk f1 f2 hn hm hp hq hus hb1V r1 q1 r2 q2 hx16 hs17 hqm
    go_wp2_with fail
    rw [← HE6.out.1, ← HE6.out.2]
    refine (LR.out V (Below.refl _ _)).mono ?_
    rintro e w7 ⟨rfl, hb⟩
    have H7 := Lib.hid hb
    clear hb a1 a2 a3 a4 a5 a6 a7 a8
    obtain ⟨-, ⟨a1, a2⟩, ⟨a3, a4⟩, ⟨a5, a6⟩, a7, a8⟩ := HC.out _ H7.out
    go_wp2_with fail
    refine (LX.out w7 H7.out).mono ?_
    rintro e w8 ⟨rfl, hb⟩
    have H8 := Lib.hid (Below.on H7.out hb)
    clear hb a1 a2 a3 a4 a5 a6 a7 a8 LR LX
    obtain ⟨-, ⟨a1, a2⟩, -⟩ := HC.out _ H8.out
    go_wp2_with fail
    refine (UB.out w8 H8.out).mono ?_
    rintro e w9 ⟨A12, c12, A13, c13, rfl, hr9, hq9, _, hb9⟩
    obtain ⟨V9, hV9⟩ : ∃ V9, V9 = w9.alloc (.cells #[.slice A12 n c12, .slice A13 m c13] 26) := ⟨_, rfl⟩
    obtain ⟨X9, hX9⟩ : ∃ X9, X9 = w9.heap.size := ⟨_, rfl⟩
    have hbV9 : Below w9.heap.size w9 V9 := by rw [hV9]; exact log_box w9 _ _
    have hR9 : V9.heap[X9]? = some (.cells #[.slice A12 n c12, .slice A13 m c13] 26 (0, 0)) := by rw [hV9, hX9]; exact World.alloc_heap_new w9 _
    have H9 := Lib.hid (And.intro (hr9.to hbV9) (And.intro (hq9.to hbV9) (And.intro hR9 (Below.on H8.out (Below.on hb9 hbV9)))))
    have HE9 := Lib.hid (And.intro hV9 hX9)
    clear a1 a2
    obtain ⟨⟨a1, a2⟩, -⟩ := HC.out _ H9.out.2.2.2
    rw [hV9] at a1 a2
    clear hr9 hq9 hb9 hV9 hX9 hbV9 hR9 UB
    go_wp2_with fail
    rw [← HE9.out.1, ← HE9.out.2]
    refine (IJ.out V9 H9.out.2.2.2).mono ?_
    rintro e w10 ⟨A14, c14, rfl, hr10, hb10⟩
    have hV10 := Below.on H9.out.2.2.2 hb10
    have hR10 := (hb10.block X9 (Array.getElem?_eq_some_iff.1 H9.out.2.2.1).1).trans H9.out.2.2.1
    clear a1 a2
    obtain ⟨⟨a1, a2⟩, ⟨a3, a4⟩, -⟩ := HC.out _ hV10
    obtain ⟨⟨a5, a6⟩, _⟩ := boxTwo_cells hR10
    have LB := Lib.hid (fun (W' : World) (h8 : Below w10.heap.size w10 W') => lrLog_any A12 A13 A A' n c12 m c13 c c' w10.heap.size w10.heap.size w10.heap.size w10.heap.size xs ss W' ((H9.out.1.to hb10).below h8 (Nat.le_refl _)) ((H9.out.2.1.to hb10).below h8 (Nat.le_refl _)) ((HR.out.1.1.to hV10).below h8 (Nat.le_refl _)) ((HR.out.1.2.to hV10).below h8 (Nat.le_refl _)) ⟨h8.size, h8.size, h8.size, h8.size⟩ (by have := HB.out; omega) (by have := HB.out; omega))
    have LS := Lib.hid (fun (W' : World) (h8 : Below w10.heap.size w10 W') => (lrSame_any A14 A2 n c14 c2 _ _ us W' (hr10.below h8 (Nat.le_refl _)) ((HR.out.2.to hV10).below h8 (Nat.le_refl _)) (by have := HB.out; omega)).mono (fun e w' (h : e = .returned (.bool true) ∧ ∃ n, w' = W'.drewN n) => (show e = .returned (.bool true) ∧ Below W'.heap.size W' w' from ⟨h.1, by obtain ⟨_, q, rfl⟩ := h; exact below_drewN (Below.refl _ _) q⟩)))
    have IV2 := Lib.hid (fun (W' : World) (h8 : Below w10.heap.size w10 W') => IV.out W' (Below.on hV10 h8))
    have IA2 := Lib.hid (fun (W' : World) (h8 : Below w10.heap.size w10 W') => IA.out W' (Below.on hV10 h8))
    have HF := Lib.hid hV10
    have hbb : Below w10.heap.size w10 w10 := Below.refl _ _
    have hqq : ((q : Int) == (q : Int)) = true := by simp
    clear hr10 hb10 hV10 hR10 IV IA IJ
    go_wp2_with fail
    go_region_held3 (fun w' => Below w10.heap.size w10 w' ∧ w'.cell? ⟨X1, 0, none⟩ = some (.slice A n c) ∧ w'.cell? ⟨X1, 1, none⟩ = some (.slice A' m c') ∧ w'.cell? ⟨X2, 0, none⟩ = some (.slice A2 n c2) ∧ w'.cell? ⟨X2, 1, none⟩ = some (.slice A3 q c3) ∧ w'.cell? ⟨X9, 0, none⟩ = some (.slice A12 n c12) ∧ w'.cell? ⟨X9, 1, none⟩ = some (.slice A13 m c13))
      (first | exact held6_drew ⟨by assumption, by assumption, by assumption, by assumption, by assumption, by assumption, by assumption⟩ | exact held6_drew (by assumption) | exact held6_call (by assumption) (by assumption) (Below.size (And.left (by assumption))))
      (first | (go_at_call 14; refine (IV2.out _ (‹Below w10.heap.size w10 _ ∧ _›).1).mono ?_; rintro e w13 ⟨rfl, hb13⟩) | (go_at_call 16; refine (IA2.out _ (‹Below w10.heap.size w10 _ ∧ _›).1).mono ?_; rintro e w14 ⟨rfl, hb14⟩) | (go_at_call 12; refine (LB.out _ (‹Below w10.heap.size w10 _ ∧ _›).1).mono ?_; rintro e w15 ⟨rfl, hb15⟩) | (go_at_call 15; refine (LS.out _ (‹Below w10.heap.size w10 _ ∧ _›).1).mono ?_; rintro e w16 ⟨rfl, hb16⟩))
    go_wp2_with fail
    go_ret
    refine ⟨by simp, Below.on H1.out.1 (Below.on HV.out.1 (Below.on HF.out ?_))⟩
    exact And.left (by assumption)
end Go.Proofs.Ytichcnaomcpnhaa
