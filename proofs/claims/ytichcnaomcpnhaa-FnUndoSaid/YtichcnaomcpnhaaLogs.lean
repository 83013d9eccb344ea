/- The exact laws' helpers for logs, and NewLog of the specification. Condition: lengths up to 1048576. -/
import Derived.Test.YtichcnaomcpnhaaHelpQ
import Derived.Test.YtichcnaomcpnhaaExactQ
namespace Go.Proofs.Ytichcnaomcpnhaa
open Go.RowKit

theorem OwnQ.none_yet (t : TypeId) (w : World) (base : Nat) (hb : base ≤ w.heap.size) : OwnQ t (w.alloc (.cells #[] t)) base (.slice (some ⟨w.heap.size, 0, none⟩) 0 0) [] := by
  have h := World.ownsRow_lit (base := base) (e := t) (size := 2) w #[] 0 hb (by unfold maxLen; omega) (by simp)
  simpa [OwnQ, qcells] using h
/-- Two boxed slices. -/
theorem log_box (w : World) (v0 v1 : Value) : Below w.heap.size w (w.alloc (.cells #[v0, v1] 26)) := (Below.refl _ _).alloc (Nat.le_refl _) _
theorem logs_eq {xs ys : List Int} {ps qs : List (Int × Int)} : decide ((xs, ps) = (ys, qs)) = (decide (xs = ys) && decide (ps = qs)) := by
  by_cases h1 : xs = ys <;> by_cases h2 : ps = qs <;> simp [h1, h2]
theorem modify_at {xs : Array Obj} {b : Nat} {o : Obj} (f : Obj → Obj) (h : xs[b]? = some o) : (xs.modify b f)[b]? = some (f o) := by
  obtain ⟨hlt, hk⟩ := Array.getElem?_eq_some_iff.1 h
  rw [Array.getElem?_eq_getElem (by rw [Array.size_modify]; exact hlt), Array.getElem_modify_self, hk]
theorem boxTwo_set {W : World} {b : Nat} {x y : Value} {t : TypeId} (h : W.heap[b]? = some (.cells #[x, y] t (0, 0))) (a c : Value) : ((W.setCell ⟨b, 0, none⟩ a).setCell ⟨b, 1, none⟩ c).heap[b]? = some (.cells #[a, c] t (0, 0)) := by
  have h1 : (W.setCell ⟨b, 0, none⟩ a).heap[b]? = some (.cells #[a, y] t (0, 0)) := modify_at _ h
  exact modify_at _ h1
theorem boxTwo_cells {W : World} {b : Nat} {x y : Value} {t : TypeId} (h : W.heap[b]? = some (.cells #[x, y] t (0, 0))) : (W.cell? ⟨b, 0, none⟩ = some x ∧ W.cell? ⟨b, 1, none⟩ = some y) ∧ W.frozen? ⟨b, 0, none⟩ = false ∧ W.frozen? ⟨b, 1, none⟩ = false := by
  refine ⟨⟨?_, ?_⟩, ?_, ?_⟩
  · simp [World.cell?, h]
  · simp [World.cell?, h]
  · simp [World.frozen?, h]
  · simp [World.frozen?, h]
/-- The two cells of a result. -/
theorem boxTwo_below {w W : World} {C b : Nat} (h : Below C w W) (hb : C ≤ b) (a c : Value) : Below C w ((W.setCell ⟨b, 0, none⟩ a).setCell ⟨b, 1, none⟩ c) := (h.setCell (p := ⟨b, 0, none⟩) hb a).setCell (p := ⟨b, 1, none⟩) hb c
theorem boxTwo_grown (W : World) (b : Nat) (a c : Value) : W.grownBy ((W.setCell ⟨b, 0, none⟩ a).setCell ⟨b, 1, none⟩ c) (some b) :=
  ⟨rfl, rfl, rfl, by simp [World.setCell], fun k _ hk => (Below.heap_setCell _ _ _ k (fun e => hk (by rw [e]))).trans (Below.heap_setCell _ _ _ k (fun e => hk (by rw [e])))⟩
/-- NewLog of the specification. -/
theorem specNewLog_any (n : Int) (w : World) :
    Calls Try.prog 78 #[.int .i64 n] w fun e w' => ∃ v v2, e = .returned (.tuple #[.agg #[v, v2], .bool (newOk n)]) ∧ Own w' w.heap.size v (roots (newN n)) ∧ OwnQ 68 w' w.heap.size v2 [] ∧ (∀ x, v.ownBlock = some x → ∀ y, v2.ownBlock = some y → x ≠ y) ∧ Below w.heap.size w w' := by
  have N := Lib.hid (specNew_any n (w.alloc (.cells #[.slice none 0 0, .slice none 0 0] 26)))
  obtain ⟨ok, hok⟩ : ∃ ok, ok = newOk n := ⟨_, rfl⟩
  obtain ⟨xs, hxs⟩ : ∃ xs, xs = roots (newN n) := ⟨_, rfl⟩
  rw [← hok, ← hxs] at N
  rw [← hok, ← hxs]
  have HNO : Hid (ok = false → xs = []) := fun e => by
    rw [hok] at e
    rw [hxs]
    unfold newOk at e
    unfold newN
    rw [if_neg (of_decide_eq_false e)]
    rfl
  clear hok hxs
  go_enter Try.func78, Try.ntmps78
  go_wp2_with fail
  refine N.out.mono ?_
  rintro e w1 ⟨v, rfl, ho, hb⟩
  obtain ⟨A, c, rfl, _⟩ := ho.form
  have hR : w1.heap[w.heap.size]? = some (.cells #[.slice none 0 0, .slice none 0 0] 26 (0, 0)) := (hb.block w.heap.size (by simp)).trans (World.alloc_heap_new w _)
  have r1 : w1.cell? ⟨w.heap.size, 0, none⟩ = some (.slice none 0 0) := by simp [World.cell?, hR]
  have r2 : w1.cell? ⟨w.heap.size, 1, none⟩ = some (.slice none 0 0) := by simp [World.cell?, hR]
  have f1 : w1.frozen? ⟨w.heap.size, 0, none⟩ = false := by simp [World.frozen?, hR]
  have f2 : w1.frozen? ⟨w.heap.size, 1, none⟩ = false := by simp [World.frozen?, hR]
  have HR := Lib.hid hR
  clear hR
  cases ok with
  | false =>
    have hx := HNO.out rfl
    subst hx
    have HB := Lib.hid hb
    clear ho hb HNO
    go_wp2_with fail
    obtain ⟨⟨k1, k2⟩, _⟩ := boxTwo_cells (boxTwo_set HR.out (.slice none 0 0) (.slice none 0 0))
    refine bodyPost_ret (v := .tuple #[.agg #[.slice none 0 0, .slice none 0 0], .bool false]) (by simp [results, Try.results78, go_sem, k1, k2]) rfl ?_
    exact ⟨_, _, rfl, World.ownsRow_nil _ _ _ _, OwnQ.nil _ _ _, (fun x e => by cases e), boxTwo_below (Below.on (log_box w _ _) HB.out) (Nat.le_refl _) _ _⟩
  | true =>
    obtain ⟨V, hV⟩ : ∃ V, V = w1.alloc (.cells #[] 68) := ⟨_, rfl⟩
    have hbV : Below w1.heap.size w1 V := by rw [hV]; exact (Below.refl _ _).alloc (Nat.le_refl _) _
    have g1 : (w1.alloc (.cells #[] 68)).cell? ⟨w.heap.size, 0, none⟩ = some (.slice none 0 0) := cell_past _ r1
    have g2 : (w1.alloc (.cells #[] 68)).cell? ⟨w.heap.size, 1, none⟩ = some (.slice none 0 0) := cell_past _ r2
    have g3 : (w1.alloc (.cells #[] 68)).frozen? ⟨w.heap.size, 0, none⟩ = false := free_past _ r1 f1
    have g4 : (w1.alloc (.cells #[] 68)).frozen? ⟨w.heap.size, 1, none⟩ = false := free_past _ r2 f2
    have HH := Lib.hid (And.intro ho (And.intro hb hV))
    clear ho hb hV hbV r1 r2 f1 f2
    go_wp2_with fail
    obtain ⟨ho, hb, hV⟩ := HH.out
    rw [← hV]
    have hs := hb.size
    rw [World.size_alloc] at hs
    have hRV : V.heap[w.heap.size]? = some (.cells #[.slice none 0 0, .slice none 0 0] 26 (0, 0)) := by rw [hV]; exact (Below.heap_alloc _ _ _ (by omega)).trans HR.out
    have hoV : Own V w.heap.size (.slice A xs.length c) xs := by rw [hV]; exact (ho.less (by simp)).alloc _
    have hqV : OwnQ 68 V w.heap.size (.slice (some ⟨w1.heap.size, 0, none⟩) 0 0) [] := by rw [hV]; exact OwnQ.none_yet _ w1 _ (by omega)
    have hbV : Below w.heap.size w V := by rw [hV]; exact (Below.on (log_box w _ _) hb).alloc (by omega) _
    have hx := ho.blockOf
    have hg := boxTwo_grown V w.heap.size (.slice A xs.length c) (.slice (some ⟨w1.heap.size, 0, none⟩) 0 0)
    obtain ⟨⟨k1, k2⟩, _⟩ := boxTwo_cells (boxTwo_set hRV (.slice A xs.length c) (.slice (some ⟨w1.heap.size, 0, none⟩) 0 0))
    refine bodyPost_ret (v := .tuple #[.agg #[.slice A xs.length c, .slice (some ⟨w1.heap.size, 0, none⟩) 0 0], .bool true]) (by simp [results, Try.results78, go_sem, k1, k2]) rfl ?_
    refine ⟨_, _, rfl, hoV.kept hg ?_, hqV.kept hg ?_, ?_, boxTwo_below hbV (Nat.le_refl _) _ _⟩
    · refine .inr (fun e => ?_)
      have := (hx _ e).1
      rw [World.size_alloc] at this
      omega
    · refine .inr (fun e => ?_)
      simp only [Value.ownBlock, Option.some.injEq] at e
      omega
    · intro x hx1 y hy
      have := (hx _ hx1).2
      simp only [Value.ownBlock, Option.some.injEq] at hy
      omega
end Go.Proofs.Ytichcnaomcpnhaa
