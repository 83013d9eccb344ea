/- The exact laws' helpers for logs, and NewLog of the specification. Condition: lengths up to 1048576. -/
import Derived.Test.YtdbkoicbhddpfaaHelpQ
import Derived.Test.YtdbkoicbhddpfaaExactQ
namespace Go.Proofs.Ytdbkoicbhddpfaa
open Go.RowKit

theorem OwnQ.none_yet (t : TypeId) (w : World) (base : Nat) (hb : base ≤ w.heap.size) : OwnQ t (w.alloc (.cells #[] t)) base (.slice (some ⟨w.heap.size, 0, none⟩) 0 0) [] := by
  have h := World.ownsRow_lit (base := base) (e := t) (size := 2) w #[] 0 hb (by unfold maxLen; omega) (by simp)
  simpa [OwnQ, qcells] using h
/-- Two boxed slices. -/
theorem log_box (w : World) (v0 v1 : Value) : Below w.heap.size w (w.alloc (.cells #[v0, v1] 26)) := (Below.refl _ _).alloc (Nat.le_refl _) _
theorem logs_eq {xs ys : List Int} {ps qs : List (Int × Int)} : decide ((xs, ps) = (ys, qs)) = (decide (xs = ys) && decide (ps = qs)) := by
  by_cases h1 : xs = ys <;> by_cases h2 : ps = qs <;> simp [h1, h2]
set_option maxHeartbeats 2000000 in
theorem eqLog_any (A1 A2 A3 A4 : Option Addr) (n1 c1 n2 c2 n3 c3 n4 c4 : Nat) (xs ys : List Int) (ps qs : List (Int × Int)) (w : World) (h1 : Rd w w.heap.size A1 n1 xs) (h2 : RdQ w w.heap.size A2 n2 ps) (h3 : Rd w w.heap.size A3 n3 ys) (h4 : RdQ w w.heap.size A4 n4 qs) (hb1 : n1 ≤ 1048576) (hb2 : n2 ≤ 1048576) (hb3 : n3 ≤ 1048576) (hb4 : n4 ≤ 1048576) :
    Calls Try.prog 65 #[.agg #[.slice A1 n1 c1, .slice A2 n2 c2], .agg #[.slice A3 n3 c3, .slice A4 n4 c4]] w fun e w' => e = .returned (.bool (decide ((xs, ps) = (ys, qs)))) ∧ Below w.heap.size w w' := by
  rw [logs_eq]
  obtain ⟨W, hW⟩ : ∃ W, W = (w.alloc (.cells #[.slice A1 n1 c1, .slice A2 n2 c2] 26)).alloc (.cells #[.slice A3 n3 c3, .slice A4 n4 c4] 26) := ⟨_, rfl⟩
  have hb : Below w.heap.size w W := by rw [hW]; exact (log_box w _ _).alloc (by simp) _
  have E1 := Lib.hid (eqIntS_any A1 A3 n1 c1 n3 c3 _ _ xs ys W (h1.to hb) (h3.to hb) hb1 hb3)
  have E2 := Lib.hid (fun (k : Nat) => eqStepS_any A2 A4 n2 c2 n4 c4 _ _ ps qs (W.drewN k) ((h2.to hb).drewN k) ((h4.to hb).drewN k) (Nat.le_refl _) (Nat.le_refl _) hb2 hb4)
  obtain ⟨a, ha⟩ : ∃ a, a = decide (xs = ys) := ⟨_, rfl⟩
  obtain ⟨b, hb'⟩ : ∃ b, b = decide (ps = qs) := ⟨_, rfl⟩
  rw [← ha] at E1 ⊢
  rw [← hb'] at E2 ⊢
  have HB := Lib.hid hb
  have HW := Lib.hid hW
  clear h1 h2 h3 h4 ha hb' hb hW
  go_enter Try.func65, Try.ntmps65
  go_wp2_with fail
  rw [← HW.out]
  refine E1.out.mono ?_
  rintro e w1 ⟨rfl, k1, rfl⟩
  rw [HW.out]
  cases a with
  | false =>
    go_wp2_with fail
    rw [← HW.out]
    go_ret
    exact ⟨rfl, below_drewN HB.out _⟩
  | true =>
    have E2 := Lib.hid (E2.out k1)
    go_wp2_with fail
    rw [← HW.out]
    refine E2.out.mono ?_
    rintro e w2 ⟨rfl, hb2⟩
    have HB2 := Lib.hid (Below.on HB.out (below_of_drewN hb2))
    cases b
    all_goals
      go_wp2_with fail
      go_ret
      exact ⟨rfl, HB2.out⟩
set_option maxHeartbeats 2000000 in
theorem markLog_any (v v2 : Value) (k : Int) (zs : List Int) (ps : List (Int × Int)) (base : Nat) (w : World) (h : Own w base v zs) (h2 : OwnQ 45 w base v2 ps) (hne : ∀ x, v.ownBlock = some x → ∀ y, v2.ownBlock = some y → x ≠ y) (hb : zs.length ≤ 1048576) (hb2 : ps.length ≤ 1048576) (hk0 : 0 ≤ k) (hk1 : k ≤ 1048576) :
    Calls Try.prog 66 #[.agg #[v, v2], .int .i64 k] w fun e w' => e = .returned (.int .i64 (k + zs.length + 2 * ps.length)) ∧ Own w' base v (marks k zs.length) ∧ OwnQ 45 w' base v2 (marksStep (k + zs.length) ps.length) ∧ Chg (fun i => v.ownBlock = some i ∨ v2.ownBlock = some i) w w' := by
  obtain ⟨A, c, rfl, _⟩ := h.form
  obtain ⟨A2, c2, rfl, _⟩ := h2.form
  obtain ⟨W, hW⟩ : ∃ W, W = w.alloc (.cells #[.slice A zs.length c, .slice A2 ps.length c2] 26) := ⟨_, rfl⟩
  have hb1 : Below w.heap.size w W := by rw [hW]; exact log_box w _ _
  have hB1 : Chg (fun i => (Value.slice A zs.length c).ownBlock = some i ∨ (Value.slice A2 ps.length c2).ownBlock = some i) w W := by rw [hW]; exact (Chg.refl _ w).alloc _
  have hWs : W.heap.size = w.heap.size + 1 := by rw [hW]; simp
  have cW : W.cell? ⟨w.heap.size, 1, none⟩ = some (.slice A2 ps.length c2) := by
    rw [hW]
    unfold World.cell?
    rw [heap_alloc_new w]
    rfl
  have M1 := Lib.hid (markIntS_any _ k zs base W (h.keep hb1 (Nat.le_refl _)) hb hk0 (by omega))
  have hx1 := h.blockOf
  have hx2 := h2.blockOf
  have HO2 := Lib.hid (h2.keep hb1 (Nat.le_refl _))
  have hnn : (Value.slice A2 ps.length c2).ownBlock = none ∨ (Value.slice A2 ps.length c2).ownBlock ≠ (Value.slice A zs.length c).ownBlock := by
    cases e2 : (Value.slice A2 ps.length c2).ownBlock with
    | none => exact .inl rfl
    | some y => exact .inr (fun e => hne y e.symm y e2 rfl)
  have hnn2 : (Value.slice A zs.length c).ownBlock = none ∨ (Value.slice A zs.length c).ownBlock ≠ (Value.slice A2 ps.length c2).ownBlock := by
    cases e2 : (Value.slice A zs.length c).ownBlock with
    | none => exact .inl rfl
    | some y => exact .inr (fun e => hne y e2 y e.symm rfl)
  have HNN := Lib.hid (And.intro hnn hnn2)
  have HX := Lib.hid (And.intro hx1 hx2)
  have HW := Lib.hid hW
  clear h h2 hne hnn hnn2 hx1 hx2 hW hb1
  go_enter Try.func66, Try.ntmps66
  go_wp2_with fail
  rw [← HW.out]
  refine M1.out.mono ?_
  rintro e w2 ⟨rfl, ho, hg⟩
  have hn2 : ¬ (Value.slice A zs.length c).ownBlock = some w.heap.size := fun e => by have := (HX.out.1 _ e).2; omega
  have c2' := (World.cell?_of_block (a := ⟨w.heap.size, 1, none⟩) (hg.block w.heap.size (by omega) (fun e => hn2 e.symm))).trans cW
  have M2 := Lib.hid (markStepS_any _ (k + zs.length) ps base w2 (HO2.out.kept hg HNN.out.1) hb2 (by omega) (by omega))
  have hB2 := hB1.trans ((Chg.mark hg).weak (fun i h => .inl h))
  have HB2 := Lib.hid (And.intro ho hB2)
  clear ho hg hn2 hB1 cW hB2
  go_wp2_with fail
  refine M2.out.mono ?_
  rintro e w3 ⟨rfl, ho3, hg3⟩
  have HE := Lib.hid (And.intro (HB2.out.1.kept hg3 HNN.out.2) (And.intro ho3 (HB2.out.2.trans ((Chg.mark hg3).weak (fun i h => .inr h)))))
  clear ho3 hg3
  go_wp2_with fail
  go_ret
  exact ⟨rfl, HE.out⟩
set_option maxHeartbeats 2000000 in
theorem heldLog_any (A1 A2 : Option Addr) (n c m c2 : Nat) (k : Int) (w : World) (h1 : Rd w w.heap.size A1 n (marks k n)) (h2 : RdQ w w.heap.size A2 m (marksStep (k + n) m)) (hb : n ≤ 1048576) (hb2 : m ≤ 1048576) (hk0 : 0 ≤ k) (hk1 : k ≤ 1048576) :
    Calls Try.prog 67 #[.agg #[.slice A1 n c, .slice A2 m c2], .int .i64 k] w fun e w' => e = .returned (.int .i64 (k + n + 2 * m)) ∧ Below w.heap.size w w' := by
  obtain ⟨W, hW⟩ : ∃ W, W = w.alloc (.cells #[.slice A1 n c, .slice A2 m c2] 26) := ⟨_, rfl⟩
  have hb1 : Below w.heap.size w W := by rw [hW]; exact log_box w _ _
  have E1 := Lib.hid (heldIntS_any A1 n c _ k W (h1.to hb1) hb hk0 (by omega))
  have E2 := Lib.hid (fun (j : Nat) => heldStepS_any A2 m c2 _ (k + n) (W.drewN j) ((h2.to hb1).drewN j) hb2 (by omega) (by omega))
  have t1 : ¬ k + (n : Int) < 0 := by omega
  have t2 : ¬ k + (n : Int) + 2 * (m : Int) < 0 := by omega
  have HB := Lib.hid hb1
  have HW := Lib.hid hW
  clear h1 h2 hb1 hW
  go_enter Try.func67, Try.ntmps67
  go_wp2_with fail
  rw [← HW.out]
  refine E1.out.mono ?_
  rintro e w1 ⟨rfl, j, rfl⟩
  have E2 := Lib.hid (E2.out j)
  rw [HW.out]
  go_wp2_with fail
  rw [← HW.out]
  refine E2.out.mono ?_
  rintro e w2 ⟨rfl, hb3⟩
  have HB2 := Lib.hid (Below.on HB.out (below_of_drewN hb3))
  clear hb3
  go_wp2_with fail
  go_ret
  exact ⟨rfl, HB2.out⟩
theorem modify_at {xs : Array Obj} {b : Nat} {o : Obj} (f : Obj → Obj) (h : xs[b]? = some o) : (xs.modify b f)[b]? = some (f o) := by
  obtain ⟨hlt, hk⟩ := Array.getElem?_eq_some_iff.1 h
  rw [Array.getElem?_eq_getElem (by rw [Array.size_modify]; exact hlt), Array.getElem_modify_self, hk]
theorem boxTwo_set {W : World} {b : Nat} {x y : Value} {t : TypeId} (h : W.heap[b]? = some (.cells #[x, y] t (0, 0))) (a c : Value) : ((W.setCell ⟨b, 0, none⟩ a).setCell ⟨b, 1, none⟩ c).heap[b]? = some (.cells #[a, c] t (0, 0)) := by
  have h1 : (W.setCell ⟨b, 0, none⟩ a).heap[b]? = some (.cells #[a, y] t (0, 0)) := modify_at _ h
  exact modify_at _ h1
theorem boxTwo_cells {W : World} {b : Nat} {x y : Value} {t : TypeId} (h : W.heap[b]? = some (.cells #[x, y] t (0, 0))) : (W.cell? ⟨b, 0, none⟩ = some x ∧ W.cell? ⟨b, 1, none⟩ = some y) ∧ W.frozen? ⟨b, 0, none⟩ = false ∧ W.frozen? ⟨b, 1, none⟩ = false := by
  refine ⟨⟨?_, ?_⟩, ?_, ?_⟩
  · simp [World.cell?, h]
  · simp [World.cell?, h]
  · simp [World.frozen?, h]
  · simp [World.frozen?, h]
/-- The two cells of a result. -/
theorem boxTwo_below {w W : World} {C b : Nat} (h : Below C w W) (hb : C ≤ b) (a c : Value) : Below C w ((W.setCell ⟨b, 0, none⟩ a).setCell ⟨b, 1, none⟩ c) := (h.setCell (p := ⟨b, 0, none⟩) hb a).setCell (p := ⟨b, 1, none⟩) hb c
theorem boxTwo_grown (W : World) (b : Nat) (a c : Value) : W.grownBy ((W.setCell ⟨b, 0, none⟩ a).setCell ⟨b, 1, none⟩ c) (some b) :=
  ⟨rfl, rfl, rfl, by simp [World.setCell], fun k _ hk => (Below.heap_setCell _ _ _ k (fun e => hk (by rw [e]))).trans (Below.heap_setCell _ _ _ k (fun e => hk (by rw [e])))⟩
/-- NewLog of the specification. -/
theorem specNewLog_any (n : Int) (w : World) :
    Calls Try.prog 37 #[.int .i64 n] w fun e w' => ∃ v v2, e = .returned (.tuple #[.agg #[v, v2], .bool (newOk n)]) ∧ Own w' w.heap.size v (roots (newN n)) ∧ OwnQ 45 w' w.heap.size v2 [] ∧ (∀ x, v.ownBlock = some x → ∀ y, v2.ownBlock = some y → x ≠ y) ∧ Below w.heap.size w w' := by
  have N := Lib.hid (specNew_any n (w.alloc (.cells #[.slice none 0 0, .slice none 0 0] 26)))
  obtain ⟨ok, hok⟩ : ∃ ok, ok = newOk n := ⟨_, rfl⟩
  obtain ⟨xs, hxs⟩ : ∃ xs, xs = roots (newN n) := ⟨_, rfl⟩
  rw [← hok, ← hxs] at N
  rw [← hok, ← hxs]
  have HNO : Hid (ok = false → xs = []) := fun e => by
    rw [hok] at e
    rw [hxs]
    unfold newOk at e
    unfold newN
    rw [if_neg (of_decide_eq_false e)]
    rfl
  clear hok hxs
  go_enter Try.func37, Try.ntmps37
  go_wp2_with fail
  refine N.out.mono ?_
  rintro e w1 ⟨v, rfl, ho, hb⟩
  obtain ⟨A, c, rfl, _⟩ := ho.form
  have hR : w1.heap[w.heap.size]? = some (.cells #[.slice none 0 0, .slice none 0 0] 26 (0, 0)) := (hb.block w.heap.size (by simp)).trans (World.alloc_heap_new w _)
  have r1 : w1.cell? ⟨w.heap.size, 0, none⟩ = some (.slice none 0 0) := by simp [World.cell?, hR]
  have r2 : w1.cell? ⟨w.heap.size, 1, none⟩ = some (.slice none 0 0) := by simp [World.cell?, hR]
  have f1 : w1.frozen? ⟨w.heap.size, 0, none⟩ = false := by simp [World.frozen?, hR]
  have f2 : w1.frozen? ⟨w.heap.size, 1, none⟩ = false := by simp [World.frozen?, hR]
  have HR := Lib.hid hR
  clear hR
  cases ok with
  | false =>
    have hx := HNO.out rfl
    subst hx
    have HB := Lib.hid hb
    clear ho hb HNO
    go_wp2_with fail
    obtain ⟨⟨k1, k2⟩, _⟩ := boxTwo_cells (boxTwo_set HR.out (.slice none 0 0) (.slice none 0 0))
    refine bodyPost_ret (v := .tuple #[.agg #[.slice none 0 0, .slice none 0 0], .bool false]) (by simp [results, Try.results37, go_sem, k1, k2]) rfl ?_
    exact ⟨_, _, rfl, World.ownsRow_nil _ _ _ _, OwnQ.nil _ _ _, (fun x e => by cases e), boxTwo_below (Below.on (log_box w _ _) HB.out) (Nat.le_refl _) _ _⟩
  | true =>
    obtain ⟨V, hV⟩ : ∃ V, V = w1.alloc (.cells #[] 45) := ⟨_, rfl⟩
    have hbV : Below w1.heap.size w1 V := by rw [hV]; exact (Below.refl _ _).alloc (Nat.le_refl _) _
    have g1 : (w1.alloc (.cells #[] 45)).cell? ⟨w.heap.size, 0, none⟩ = some (.slice none 0 0) := cell_past _ r1
    have g2 : (w1.alloc (.cells #[] 45)).cell? ⟨w.heap.size, 1, none⟩ = some (.slice none 0 0) := cell_past _ r2
    have g3 : (w1.alloc (.cells #[] 45)).frozen? ⟨w.heap.size, 0, none⟩ = false := free_past _ r1 f1
    have g4 : (w1.alloc (.cells #[] 45)).frozen? ⟨w.heap.size, 1, none⟩ = false := free_past _ r2 f2
    have HH := Lib.hid (And.intro ho (And.intro hb hV))
    clear ho hb hV hbV r1 r2 f1 f2
    go_wp2_with fail
    obtain ⟨ho, hb, hV⟩ := HH.out
    rw [← hV]
    have hs := hb.size
    rw [World.size_alloc] at hs
    have hRV : V.heap[w.heap.size]? = some (.cells #[.slice none 0 0, .slice none 0 0] 26 (0, 0)) := by rw [hV]; exact (Below.heap_alloc _ _ _ (by omega)).trans HR.out
    have hoV : Own V w.heap.size (.slice A xs.length c) xs := by rw [hV]; exact (ho.less (by simp)).alloc _
    have hqV : OwnQ 45 V w.heap.size (.slice (some ⟨w1.heap.size, 0, none⟩) 0 0) [] := by rw [hV]; exact OwnQ.none_yet _ w1 _ (by omega)
    have hbV : Below w.heap.size w V := by rw [hV]; exact (Below.on (log_box w _ _) hb).alloc (by omega) _
    have hx := ho.blockOf
    have hg := boxTwo_grown V w.heap.size (.slice A xs.length c) (.slice (some ⟨w1.heap.size, 0, none⟩) 0 0)
    obtain ⟨⟨k1, k2⟩, _⟩ := boxTwo_cells (boxTwo_set hRV (.slice A xs.length c) (.slice (some ⟨w1.heap.size, 0, none⟩) 0 0))
    refine bodyPost_ret (v := .tuple #[.agg #[.slice A xs.length c, .slice (some ⟨w1.heap.size, 0, none⟩) 0 0], .bool true]) (by simp [results, Try.results37, go_sem, k1, k2]) rfl ?_
    refine ⟨_, _, rfl, hoV.kept hg ?_, hqV.kept hg ?_, ?_, boxTwo_below hbV (Nat.le_refl _) _ _⟩
    · refine .inr (fun e => ?_)
      have := (hx _ e).1
      rw [World.size_alloc] at this
      omega
    · refine .inr (fun e => ?_)
      simp only [Value.ownBlock, Option.some.injEq] at e
      omega
    · intro x hx1 y hy
      have := (hx _ hx1).2
      simp only [Value.ownBlock, Option.some.injEq] at hy
      omega
end Go.Proofs.Ytdbkoicbhddpfaa
