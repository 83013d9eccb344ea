/- The log of a history. -/
import Derived.Test.YtdbkoicbhddpfaaHistJoin
import Derived.Test.YtdbkoicbhddpfaaPushS
namespace Go.Proofs.Ytdbkoicbhddpfaa
open Go.RowKit Go.Shelf

theorem dcells_get : ∀ {ds : List (Int × Int × Value)} {k : Nat}, k < ds.length → (dcells ds)[k * 3]? = some (.int .i64 (ds[k]?.getD (0, 0, .nilFunc)).1) ∧ (dcells ds)[k * 3 + 1]? = some (.int .i64 (ds[k]?.getD (0, 0, .nilFunc)).2.1) ∧ (dcells ds)[k * 3 + 2]? = some (ds[k]?.getD (0, 0, .nilFunc)).2.2
  | [], _, h => by simp at h
  | d :: ds, 0, _ => by simp [dcells]
  | d :: ds, k + 1, h => by
    have ih := dcells_get (ds := ds) (k := k) (by simpa using h)
    have e : dcells (d :: ds) = Value.int .i64 d.1 :: Value.int .i64 d.2.1 :: d.2.2 :: dcells ds := by simp [dcells]
    rw [e, show (k + 1) * 3 = k * 3 + 1 + 1 + 1 by omega]
    simpa using ih
/-- The cells of one done step. -/
theorem OwnD.cells {w : World} {base : Nat} {v : Value} {ds : List (Int × Int × Value)} (h : OwnD w base v ds) : (ds = [] ∧ v = .slice none 0 0) ∨ ∃ g c, v = .slice (some ⟨g, 0, none⟩) ds.length c ∧ ds.length ≤ c ∧ c ≤ maxLen ∧ ∀ k, k < ds.length → w.cell? ⟨g, k * 3, none⟩ = some (.int .i64 (ds[k]?.getD (0, 0, .nilFunc)).1) ∧ w.cell? ⟨g, k * 3 + 1, none⟩ = some (.int .i64 (ds[k]?.getD (0, 0, .nilFunc)).2.1) ∧ w.cell? ⟨g, k * 3 + 2, none⟩ = some (ds[k]?.getD (0, 0, .nilFunc)).2.2 := by
  rcases h.2 with ⟨hv, hx⟩ | ⟨g, cap, cur, hv, hbase, hh, hnc, hm, hsz, hcells⟩
  · exact .inl ⟨by simpa using hx, hv⟩
  · refine .inr ⟨g, cap, hv, by omega, by omega, fun k hk => ?_⟩
    obtain ⟨h1, h2, h3⟩ := dcells_get hk
    have c1 := World.ownsRow.cells h (g := g) (by rw [hv]; rfl) _ _ h1
    have c2 := World.ownsRow.cells h (g := g) (by rw [hv]; rfl) _ _ h2
    have c3 := World.ownsRow.cells h (g := g) (by rw [hv]; rfl) _ _ h3
    rw [add_zero_at, Nat.zero_add] at c1 c2 c3
    exact ⟨c1, c2, c3⟩
theorem steps_take {ds : List (Int × Int × Value)} {k : Nat} (h : k < ds.length) : (stepsOf ds).take (k + 1) = (stepsOf ds).take k ++ [((ds[k]?.getD (0, 0, .nilFunc)).1, (ds[k]?.getD (0, 0, .nilFunc)).2.1)] := by
  unfold stepsOf
  rw [← List.map_take, ← List.map_take, List.take_succ_eq_append_getElem h, List.map_append, List.getElem?_eq_getElem h]
  rfl
set_option maxRecDepth 100000 in
set_option maxHeartbeats 4000000 in
theorem log_any (H J M N n : Nat) (sz ht : Nat → Nat) (u : List Int) (D : Value) (ds : List (Int × Int × Value)) (base : Nat) (w : World) (h : HistSt w H J M N n sz ht u D) (hD : OwnD w base D ds) (hfn : Fns ds) (hl : ds.length ≤ 1000) :
    Calls Try.prog 80 #[.pointer (some ⟨H, 0, none⟩)] w fun e w' => ∃ v v2, e = .returned (.agg #[v, v2]) ∧ Own w' w.heap.size v u ∧ OwnQ 45 w' w.heap.size v2 (stepsOf ds) ∧ (∀ x, v.ownBlock = some x → ∀ y, v2.ownBlock = some y → x ≠ y) ∧ Below w.heap.size w w' := by
  have hlt := h.lt
  have h16 := (fv_parts h.fv).2.1
  obtain ⟨W0, hW0⟩ : ∃ W0, W0 = w.alloc (.cells #[.slice none 0 0, .slice none 0 0] 26) := ⟨_, rfl⟩
  have hb0 : Below w.heap.size w W0 := by rw [hW0]; exact log_box w _ _
  have hS0 := h.below hb0 hlt
  have FO := Lib.hid (forest_any J M N n sz ht u W0 hS0.mem hS0.box hS0.nd h.fv h.len (by have := h.len; omega))
  obtain ⟨⟨a1, a2⟩, _⟩ := boxTwo_cells hS0.at_
  have hR : W0.heap[w.heap.size]? = some (.cells #[.slice none 0 0, .slice none 0 0] 26 (0, 0)) := by rw [hW0]; exact World.alloc_heap_new w _
  have h0s : W0.heap.size = w.heap.size + 1 := by rw [hW0]; simp
  have hDlt := World.ownsRow.lt hD
  obtain ⟨m, hm⟩ : ∃ m, m = ds.length := ⟨_, rfl⟩
  obtain ⟨A0, c0, hDf⟩ : ∃ A c, D = .slice A m c := by
    rcases hD.cells with ⟨e1, e2⟩ | ⟨g, c, e, _⟩
    · subst e1
      exact ⟨_, _, by rw [hm, e2]; rfl⟩
    · exact ⟨_, _, by rw [hm]; exact e⟩
  subst hDf
  have hDc := hD.cells
  have HH := Lib.hid (And.intro hS0.at_ (And.intro hb0 (And.intro hR (And.intro h0s (And.intro hlt (And.intro hDlt (And.intro hDc (And.intro hm (And.intro hl hfn)))))))))
  have HW0 := Lib.hid hW0
  have a1' : (w.alloc (.cells #[.slice none 0 0, .slice none 0 0] 26)).cell? ⟨H, 0, none⟩ = some (.pointer (some ⟨J, 0, none⟩)) := by rw [← hW0]; exact a1
  clear h hD hl hfn h16 hb0 hS0 hR h0s hW0 a1 a2 hDlt hDc hm hlt
  go_enter Try.func80, Try.ntmps80
  go_wp2_with fail
  rw [← HW0.out]
  refine FO.out.mono ?_
  rintro e w1 ⟨v, rfl, ho, hb1⟩
  obtain ⟨A, c, rfl, _⟩ := ho.form
  obtain ⟨V, hV⟩ : ∃ V, V = w1.alloc (.cells #[.slice A u.length c, .slice none 0 0] 26) := ⟨_, rfl⟩
  have hbV : Below w1.heap.size w1 V := by rw [hV]; exact log_box w1 _ _
  have hs1 := hb1.size
  have hsV : V.heap.size = w1.heap.size + 1 := by rw [hV]; simp
  have h0s := HH.out.2.2.2.1
  have hHlt := HH.out.2.2.2.2.1
  obtain ⟨⟨b1, b2⟩, _⟩ := boxTwo_cells (show HistAt V H J (.slice A0 m c0) from (hbV.block H (by omega)).trans ((hb1.block H (by omega)).trans HH.out.1))
  have hRV : V.heap[w.heap.size]? = some (.cells #[.slice none 0 0, .slice none 0 0] 26 (0, 0)) := (hbV.block _ (by omega)).trans ((hb1.block _ (by omega)).trans HH.out.2.2.1)
  have hLV : V.heap[w1.heap.size]? = some (.cells #[.slice A u.length c, .slice none 0 0] 26 (0, 0)) := by rw [hV]; exact World.alloc_heap_new w1 _
  have hoV : Own V w.heap.size (.slice A u.length c) u := (ho.keep hbV (Nat.le_refl _)).less (by omega)
  have hbb : Below w.heap.size w V := Below.on (Below.on HH.out.2.1 hb1) hbV
  have hx := ho.blockOf
  have HX := Lib.hid (And.intro hx (And.intro hoV (And.intro hbb (And.intro hRV (And.intro hsV (And.intro hs1 hbV.size))))))
  have HV := Lib.hid hV
  rw [hV] at b2
  have HL : Hid (∃ A5 k5 c5, V.heap[w1.heap.size]? = some (.cells #[.slice A u.length c, .slice A5 k5 c5] 26 (0, 0)) ∧ OwnQ 45 V V.heap.size (.slice A5 k5 c5) ((stepsOf ds).take 0)) := ⟨_, _, _, hLV, OwnQ.nil _ _ _⟩
  clear ho hb1 hV hbV hRV hoV hbb b1 hx hLV hs1 hsV h0s hHlt
  go_wp2_with fail
  rw [← HV.out]
  clear b2
  go_loopw [17] (fun i wr => ∃ k : Nat, k ≤ m ∧ i = .int .i64 (k : Int) ∧ Hid ((∃ A5 k5 c5, wr.heap[w1.heap.size]? = some (.cells #[.slice A u.length c, .slice A5 k5 c5] 26 (0, 0)) ∧ OwnQ 45 wr V.heap.size (.slice A5 k5 c5) ((stepsOf ds).take k)) ∧ Chg (fun i => i = w1.heap.size) V wr)) (fun i _ => m - (intOf i).toNat)
  case atStart => exact ⟨0, by omega, rfl, HL.out, Chg.refl _ _⟩
  case round =>
    obtain ⟨k, hkm, rfl, HQ⟩ := hrel
    obtain ⟨⟨A5, k5, c5, hLr, hoq⟩, hcr⟩ := HQ.out
    clear HQ HL
    have hcs := hcr.size
    have q1 := HX.out.2.2.2.2.1
    have q2 := HX.out.2.2.2.2.2.1
    have q3 := HH.out.2.2.2.1
    by_cases hlt : k < m
    · have hm := HH.out.2.2.2.2.2.2.2.1
      have hlen := HH.out.2.2.2.2.2.2.2.2.1
      have hfn := HH.out.2.2.2.2.2.2.2.2.2
      rcases HH.out.2.2.2.2.2.2.1 with ⟨e1, _⟩ | ⟨g, cg, e2, hgc, hcm, hcells⟩
      · rw [e1] at hm
        simp at hm
        omega
      · rw [← hm] at e2 hgc
        injection e2 with e3 _ e4
        subst e3 e4
        have hgl := (HH.out.2.2.2.2.2.1 g rfl).2
        obtain ⟨d1, d2, d3⟩ := hcells k (by omega)
        have hgw : wr.heap[g]? = w.heap[g]? := (hcr.block g (by omega) (by omega)).trans (HX.out.2.2.1.block g hgl)
        have g1 := (World.cell?_of_block (a := ⟨g, k * 3, none⟩) hgw).trans d1
        have g2 := (World.cell?_of_block (a := ⟨g, k * 3 + 1, none⟩) hgw).trans d2
        have g3 := (World.cell?_of_block (a := ⟨g, k * 3 + 1 + 1, none⟩) hgw).trans d3
        have hst := steps_take (ds := ds) (k := k) (by omega)
        obtain ⟨a, ha⟩ : ∃ a, a = (ds[k]?.getD (0, 0, .nilFunc)).1 := ⟨_, rfl⟩
        obtain ⟨b, hb⟩ : ∃ b, b = (ds[k]?.getD (0, 0, .nilFunc)).2.1 := ⟨_, rfl⟩
        obtain ⟨F, hF⟩ : ∃ F, F = (ds[k]?.getD (0, 0, .nilFunc)).2.2 := ⟨_, rfl⟩
        rw [← ha] at g1 hst
        rw [← hb] at g2 hst
        rw [← hF] at g3
        obtain ⟨ff, fp, fq, hff⟩ := hfn k (by omega)
        rw [← hF] at hff
        subst hff
        clear hF
        unfold maxLen at hcm
        have hkk : (k : Int) < (m : Int) := by omega
        have hkc : (k : Int) ≤ (c0 : Int) := by omega
        have hkc1 : (k : Int) + 1 ≤ (c0 : Int) := by omega
        obtain ⟨W, hW⟩ : ∃ W, W = wr.alloc (.cells #[.int .i64 a, .int .i64 b, .func ff fp fq] 177) := ⟨_, rfl⟩
        have hWw : Chg (fun i => i = w1.heap.size) V W := by rw [hW]; exact hcr.alloc _
        have hbW : Below wr.heap.size wr W := by rw [hW]; exact (Below.refl _ _).alloc (Nat.le_refl _) _
        have hLW : W.heap[w1.heap.size]? = some (.cells #[.slice A u.length c, .slice A5 k5 c5] 26 (0, 0)) := (hbW.block _ (by omega)).trans hLr
        obtain ⟨⟨_, l2⟩, _, f2⟩ := boxTwo_cells hLW
        have hNW : W.heap[wr.heap.size]? = some (.cells #[.int .i64 a, .int .i64 b, .func ff fp fq] 177 (0, 0)) := by rw [hW]; exact World.alloc_heap_new wr _
        have t1 : W.cell? ⟨wr.heap.size, 0, none⟩ = some (.int .i64 a) := by simp [World.cell?, hNW]
        have t2 : W.cell? ⟨wr.heap.size, 1, none⟩ = some (.int .i64 b) := by simp [World.cell?, hNW]
        have hoW : OwnQ 45 W V.heap.size (.slice A5 k5 c5) ((stepsOf ds).take k) := hoq.keep hbW (Nat.le_refl _)
        have hsW : V.heap.size ≤ W.heap.size := Nat.le_trans hcs hbW.size
        have hlS : ((stepsOf ds).take k).length ≤ 1048576 := by rw [List.length_take]; omega
        have hx5 := hoW.blockOf
        have HY := Lib.hid (And.intro hWw (And.intro hLW hst))
        have HW := Lib.hid hW
        have hq1 : w1.heap.size < V.heap.size := by omega
        have HLK : Hid (((stepsOf ds).take k ++ [(a, b)]).length = k + 1) := by
          show _ = _
          rw [List.length_append, List.length_take, List.length_singleton]
          unfold stepsOf
          rw [List.length_map]
          omega
        have hlb : w1.heap.size < W.heap.size := by omega
        have hm1 : m ≤ 1000 := by omega
        clear hNW hcr hoq hLr hWw hbW hLW hst hgw d1 d2 d3 hcells hgl hgc hcm hm hlen hfn hcs q1 q2 q3 ha hb hW
        go_upto_region 5 with fail
        rw [← HW.out]
        go_wp2_with (at_builtin; go_must (refine wpList_pushS rfl (.tmp 22) (.tmp 25) rfl W V.heap.size (.slice A5 k5 c5) ((stepsOf ds).take k) a b rfl rfl hoW hlS hsW ?_); intro v' w9 ho9 hg9 _; obtain ⟨A9, c9, rfl, _⟩ := ho9.form; rw [HLK.out] at ho9; rw [HLK.out]; have s1 : w9.cell? ⟨w1.heap.size, 1, none⟩ = some (.slice A5 k5 c5) := (hg9.cell_far ⟨w1.heap.size, 1, none⟩ hlb (fun e => by have : V.heap.size ≤ w1.heap.size := (hx5 _ e.symm).1; omega)).trans l2; have s2 : w9.frozen? ⟨w1.heap.size, 1, none⟩ = false := (hg9.frozen_far ⟨w1.heap.size, 1, none⟩ hlb (fun e => by have : V.heap.size ≤ w1.heap.size := (hx5 _ e.symm).1; omega)).trans f2)
        obtain ⟨hWw, hLW, hst⟩ := HY.out
        rw [← hst] at ho9
        have hx9 := ho9.blockOf
        have hL9 : w9.heap[w1.heap.size]? = some (.cells #[.slice A u.length c, .slice A5 k5 c5] 26 (0, 0)) := (hg9.block _ hlb (fun e => by have := (hx5 _ e.symm).1; omega)).trans hLW
        obtain ⟨X, hX⟩ : ∃ X, X = w9.setCell ⟨w1.heap.size, 1, none⟩ (.slice A9 (k + 1) c9) := ⟨_, rfl⟩
        have hgS : w9.grownBy X (some w1.heap.size) := by
          rw [hX]
          exact ⟨rfl, rfl, rfl, by simp [World.setCell], fun i _ hn => Below.heap_setCell w9 ⟨w1.heap.size, 1, none⟩ _ i (fun e => hn (congrArg some e))⟩
        have hLX : X.heap[w1.heap.size]? = some (.cells #[.slice A u.length c, .slice A9 (k + 1) c9] 26 (0, 0)) := by
          rw [hX]
          exact modify_at _ hL9
        have hCX : Chg (fun i => i = w1.heap.size) V X := by
          rw [hX]
          exact (hWw.grown hg9 (fun r e => (hx5 r e).1)).set (B := w1.heap.size) (.inl rfl) 1 _
        have hoX : OwnQ 45 X V.heap.size (.slice A9 (k + 1) c9) ((stepsOf ds).take (k + 1)) := ho9.kept hgS (.inr (fun e => by have : V.heap.size ≤ w1.heap.size := (hx9 _ e).1; omega))
        have hN : Hid ((∃ A5 k5 c5, X.heap[w1.heap.size]? = some (.cells #[.slice A u.length c, .slice A5 k5 c5] 26 (0, 0)) ∧ OwnQ 45 X V.heap.size (.slice A5 k5 c5) ((stepsOf ds).take (k + 1))) ∧ Chg (fun i => i = w1.heap.size) V X) := ⟨⟨_, _, _, hLX, hoX⟩, hCX⟩
        have HX9 := Lib.hid hX
        clear hgS hLX hCX hoX hX
        clear ho9 hg9 hst hWw hLW hL9 hx9 hoW hlS hsW hx5
        go_wp2
        rw [← HX9.out]
        go_roundw
        case rel => exact ⟨k + 1, by omega, by go_num, hN⟩
        case measure => simp [intOf]; omega
    · obtain rfl : k = m := by omega
      have hm := HH.out.2.2.2.2.2.2.2.1
      have hRr := (hcr.block w.heap.size (by omega) (by omega)).trans HX.out.2.2.2.1
      obtain ⟨⟨r1, r2⟩, f1, f2⟩ := boxTwo_cells hRr
      obtain ⟨⟨l1, l2⟩, _⟩ := boxTwo_cells hLr
      rw [List.take_of_length_le (by simp [stepsOf]; omega)] at hoq
      have HY := Lib.hid (And.intro hRr (And.intro hoq hcr))
      clear hRr hoq hcr hLr hm hcs q1 q2 q3
      go_wp2_with fail
      obtain ⟨hRr, hoq, hcr⟩ := HY.out
      obtain ⟨hx, hoV, hbb, _, q1, q2, _⟩ := HX.out
      have q3 := HH.out.2.2.2.1
      have hcs := hcr.size
      have hg := boxTwo_grown wr w.heap.size (.slice A u.length c) (.slice A5 k5 c5)
      obtain ⟨⟨k1, k2⟩, _⟩ := boxTwo_cells (boxTwo_set hRr (.slice A u.length c) (.slice A5 k5 c5))
      refine bodyPost_ret (v := .agg #[.slice A u.length c, .slice A5 k5 c5]) (by simp [results, Try.results80, go_sem, k1, k2]) rfl ?_
      have hx5 := hoq.blockOf
      have hor : Own wr w.heap.size (.slice A u.length c) u := by
        refine hoV.kept (row := some w1.heap.size) ⟨hcr.os, hcr.tape, hcr.output, hcr.size, fun i hi hn => hcr.block i hi (fun e => hn (by rw [e]))⟩ (.inr (fun e => by have := (hx _ e).2; omega))
      refine ⟨_, _, rfl, hor.kept hg (.inr (fun e => by have := (hx _ e).1; omega)), (hoq.less (by omega)).kept hg (.inr (fun e => by have := (hx5 _ e).1; omega)), fun p hp q hq e => ?_, boxTwo_below (hbb.trans (hcr.below (by omega) (fun i hi => by omega))) (Nat.le_refl _) _ _⟩
      have := (hx _ hp).2
      have := (hx5 _ hq).1
      omega
end Go.Proofs.Ytdbkoicbhddpfaa
