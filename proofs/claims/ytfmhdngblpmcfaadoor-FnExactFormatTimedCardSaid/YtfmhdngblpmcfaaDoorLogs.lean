/- The exact laws' helpers for logs, and NewLog of the specification. Condition: lengths up to 1048576. -/
import Derived.Test.YtfmhdngblpmcfaaDoorHelpQ
import Derived.Test.YtfmhdngblpmcfaaDoorExactQ
namespace Go.Proofs.YtfmhdngblpmcfaaDoor
open Go.RowKit

theorem OwnQ.none_yet (t : TypeId) (w : World) (base : Nat) (hb : base ≤ w.heap.size) : OwnQ t (w.alloc (.cells #[] t)) base (.slice (some ⟨w.heap.size, 0, none⟩) 0 0) [] := by
  have h := World.ownsRow_lit (base := base) (e := t) (size := 2) w #[] 0 hb (by unfold maxLen; omega) (by simp)
  simpa [OwnQ, qcells] using h
/-- Two boxed slices. -/
theorem log_box (w : World) (v0 v1 : Value) : Below w.heap.size w (w.alloc (.cells #[v0, v1] 41)) := (Below.refl _ _).alloc (Nat.le_refl _) _
theorem logs_eq {xs ys : List Int} {ps qs : List (Int × Int)} : decide ((xs, ps) = (ys, qs)) = (decide (xs = ys) && decide (ps = qs)) := by
  by_cases h1 : xs = ys <;> by_cases h2 : ps = qs <;> simp [h1, h2]
set_option maxHeartbeats 2000000 in
theorem eqLog_any (A1 A2 A3 A4 : Option Addr) (n1 c1 n2 c2 n3 c3 n4 c4 : Nat) (xs ys : List Int) (ps qs : List (Int × Int)) (w : World) (h1 : Rd w w.heap.size A1 n1 xs) (h2 : RdQ w w.heap.size A2 n2 ps) (h3 : Rd w w.heap.size A3 n3 ys) (h4 : RdQ w w.heap.size A4 n4 qs) (hb1 : n1 ≤ 1048576) (hb2 : n2 ≤ 1048576) (hb3 : n3 ≤ 1048576) (hb4 : n4 ≤ 1048576) :
    Calls Tryd.prog 22 #[.agg #[.slice A1 n1 c1, .slice A2 n2 c2], .agg #[.slice A3 n3 c3, .slice A4 n4 c4]] w fun e w' => e = .returned (.bool (decide ((xs, ps) = (ys, qs)))) ∧ Below w.heap.size w w' := by
  rw [logs_eq]
  obtain ⟨W, hW⟩ : ∃ W, W = (w.alloc (.cells #[.slice A1 n1 c1, .slice A2 n2 c2] 41)).alloc (.cells #[.slice A3 n3 c3, .slice A4 n4 c4] 41) := ⟨_, rfl⟩
  have hb : Below w.heap.size w W := by rw [hW]; exact (log_box w _ _).alloc (by simp) _
  have E1 := Lib.hid (eqIntS_any A1 A3 n1 c1 n3 c3 _ _ xs ys W (h1.to hb) (h3.to hb) hb1 hb3)
  have E2 := Lib.hid (fun (k : Nat) => eqStepS_any A2 A4 n2 c2 n4 c4 _ _ ps qs (W.drewN k) ((h2.to hb).drewN k) ((h4.to hb).drewN k) (Nat.le_refl _) (Nat.le_refl _) hb2 hb4)
  obtain ⟨a, ha⟩ : ∃ a, a = decide (xs = ys) := ⟨_, rfl⟩
  obtain ⟨b, hb'⟩ : ∃ b, b = decide (ps = qs) := ⟨_, rfl⟩
  rw [← ha] at E1 ⊢
  rw [← hb'] at E2 ⊢
  have HB := Lib.hid hb
  have HW := Lib.hid hW
  clear h1 h2 h3 h4 ha hb' hb hW
  go_enter Tryd.func22, Tryd.ntmps22
  go_wp2_with fail
  rw [← HW.out]
  refine E1.out.mono ?_
  rintro e w1 ⟨rfl, k1, rfl⟩
  rw [HW.out]
  cases a with
  | false =>
    go_wp2_with fail
    rw [← HW.out]
    go_ret
    exact ⟨rfl, below_drewN HB.out _⟩
  | true =>
    have E2 := Lib.hid (E2.out k1)
    go_wp2_with fail
    rw [← HW.out]
    refine E2.out.mono ?_
    rintro e w2 ⟨rfl, hb2⟩
    have HB2 := Lib.hid (Below.on HB.out (below_of_drewN hb2))
    cases b
    all_goals
      go_wp2_with fail
      go_ret
      exact ⟨rfl, HB2.out⟩
theorem modify_at {xs : Array Obj} {b : Nat} {o : Obj} (f : Obj → Obj) (h : xs[b]? = some o) : (xs.modify b f)[b]? = some (f o) := by
  obtain ⟨hlt, hk⟩ := Array.getElem?_eq_some_iff.1 h
  rw [Array.getElem?_eq_getElem (by rw [Array.size_modify]; exact hlt), Array.getElem_modify_self, hk]
theorem boxTwo_set {W : World} {b : Nat} {x y : Value} {t : TypeId} (h : W.heap[b]? = some (.cells #[x, y] t (0, 0))) (a c : Value) : ((W.setCell ⟨b, 0, none⟩ a).setCell ⟨b, 1, none⟩ c).heap[b]? = some (.cells #[a, c] t (0, 0)) := by
  have h1 : (W.setCell ⟨b, 0, none⟩ a).heap[b]? = some (.cells #[a, y] t (0, 0)) := modify_at _ h
  exact modify_at _ h1
/-- The two cells of a result. -/
theorem boxTwo_below {w W : World} {C b : Nat} (h : Below C w W) (hb : C ≤ b) (a c : Value) : Below C w ((W.setCell ⟨b, 0, none⟩ a).setCell ⟨b, 1, none⟩ c) := (h.setCell (p := ⟨b, 0, none⟩) hb a).setCell (p := ⟨b, 1, none⟩) hb c
theorem boxTwo_grown (W : World) (b : Nat) (a c : Value) : W.grownBy ((W.setCell ⟨b, 0, none⟩ a).setCell ⟨b, 1, none⟩ c) (some b) :=
  ⟨rfl, rfl, rfl, by simp [World.setCell], fun k _ hk => (Below.heap_setCell _ _ _ k (fun e => hk (by rw [e]))).trans (Below.heap_setCell _ _ _ k (fun e => hk (by rw [e])))⟩
end Go.Proofs.YtfmhdngblpmcfaaDoor