/- A step of a history: which one joins two items, doing it, the log of what has been done. -/
import Derived.Test.YtdbkoicbhddpfaaHistory
import Derived.Test.YtdbkoicbhddpfaaJoin
import Derived.Test.YtdbkoicbhddpfaaSteps
import Derived.BigRegion
namespace Go.Proofs.Ytdbkoicbhddpfaa
open Go.RowKit Go.Shelf

/-- A history's state: the forest, what is kept at roots, what has been done. -/
structure HistSt (w : World) (H J M N n : Nat) (sz ht : Nat → Nat) (u : List Int) (D : Value) : Prop where
  at_ : HistAt w H J D
  mem : MemK w M N n n sz ht
  box : Boxed w J 182 (.slice (some ⟨M, 0, none⟩) n n)
  nd : Nd w N u
  o1 : N < M
  o2 : M < J
  o3 : J < H
  fv : fvB u = true
  len : u.length = n
  tell : RootsTell u sz ht
theorem HistSt.lt {w : World} {H J M N n : Nat} {sz ht : Nat → Nat} {u : List Int} {D : Value} (h : HistSt w H J M N n sz ht u D) : H < w.heap.size := (Array.getElem?_eq_some_iff.1 h.at_).1
theorem HistSt.below {w w' : World} {C H J M N n : Nat} {sz ht : Nat → Nat} {u : List Int} {D : Value} (h : HistSt w H J M N n sz ht u D) (hb : Below C w w') (hC : H < C) : HistSt w' H J M N n sz ht u D := by
  have h1 := h.o1
  have h2 := h.o2
  have h3 := h.o3
  exact ⟨(hb.block H hC).trans h.at_, h.mem.below hb (by omega), (hb.block J (by omega)).trans h.box, h.nd.eq (hb.block N (by omega)), h1, h2, h3, h.fv, h.len, h.tell⟩
set_option maxRecDepth 100000 in
set_option maxHeartbeats 4000000 in
theorem stepFor_any (H J M N n a b : Nat) (sz ht : Nat → Nat) (u : List Int) (D : Value) (w : World) (h : HistSt w H J M N n sz ht u D) (ha : a < n) (hb : b < n) :
    Calls Try.prog 142 #[.pointer (some ⟨H, 0, none⟩), .agg #[.int .i64 (a : Int), .int .i64 (b : Int)]] w fun e w' =>
      e = .returned (.tuple #[.agg #[.int .i64 (stR u a b : Int), .int .i64 (stT u a b : Int)], .bool (!decide (rootI u a = rootI u b))]) ∧ Below w.heap.size w w' := by
  obtain ⟨W, hW⟩ : ∃ W, W = (w.alloc (.cells #[.int .i64 (a : Int), .int .i64 (b : Int)] 57)).alloc (.cells #[.int .i64 0, .int .i64 0] 45) := ⟨_, rfl⟩
  have hbW : Below w.heap.size w W := by rw [hW]; exact ((Below.refl _ _).alloc (Nat.le_refl _) _).alloc (by simp) _
  have hsW : W.heap.size = w.heap.size + 2 := by rw [hW]; simp
  have hRW : W.heap[w.heap.size + 1]? = some (.cells #[.int .i64 0, .int .i64 0] 45 (0, 0)) := by
    rw [hW]
    have := World.alloc_heap_new (w.alloc (.cells #[.int .i64 (a : Int), .int .i64 (b : Int)] 57)) (.cells #[.int .i64 0, .int .i64 0] 45)
    rwa [World.size_alloc] at this
  have hPW : W.heap[w.heap.size]? = some (.cells #[.int .i64 (a : Int), .int .i64 (b : Int)] 57 (0, 0)) := by
    rw [hW]
    exact (Below.heap_alloc _ _ _ (by simp)).trans (World.alloc_heap_new w _)
  have hSW := h.below hbW h.lt
  have RJ := fun (w2 : World) (hb2 : Below W.heap.size W w2) => rootsToJoin_any 1 (by omega) J M N n a b sz ht u w2 (hSW.below hb2 hSW.lt).mem (hSW.below hb2 hSW.lt).box (hSW.below hb2 hSW.lt).nd h.fv h.len ha hb h.tell
  rw [show ruleT 1 = 124 from rfl] at RJ
  obtain ⟨⟨p1, p2⟩, _⟩ := boxTwo_cells hPW
  obtain ⟨⟨a1, _⟩, _⟩ := boxTwo_cells hSW.at_
  have hbb : Below W.heap.size W W := Below.refl _ _
  obtain ⟨P, hP⟩ : ∃ P, P = w.heap.size := ⟨_, rfl⟩
  rw [← hP] at p1 p2 hRW hsW
  have HH := Lib.hid (And.intro hbW (And.intro hsW (And.intro hRW (And.intro hSW (And.intro ha hb)))))
  have HW := Lib.hid hW
  have HPP := Lib.hid hP
  obtain ⟨x, hx⟩ : ∃ x, x = stR u a b := ⟨_, rfl⟩
  obtain ⟨y, hy⟩ : ∃ y, y = stT u a b := ⟨_, rfl⟩
  rw [← hx, ← hy]
  by_cases hpq : rootI u a = rootI u b
  · have h1 : lowA M u 1 a b = none := by unfold lowA; rw [if_pos hpq]
    have h2 : uppA M u 1 a b = none := by unfold uppA; rw [if_pos hpq]
    have h3 : x = 0 := by rw [hx]; unfold stR; rw [if_pos hpq]
    have h4 : y = 0 := by rw [hy]; unfold stT; rw [if_pos hpq]
    rw [h1, h2] at RJ
    rw [show (!decide (rootI u a = rootI u b)) = false by rw [decide_eq_true hpq]; rfl]
    subst h3 h4
    have RJ := Lib.hid RJ
    clear hpq h1 h2 hx hy h ha hb hW hbW hsW hRW hPW hSW hP
    go_enter Try.func142, Try.ntmps142
    go_wp2
    rw [← HW.out, ← HPP.out]
    go_region_held3 (fun w' => Below W.heap.size W w' ∧ w'.cell? ⟨H, 0, none⟩ = some (.pointer (some ⟨J, 0, none⟩)) ∧ w'.cell? ⟨P, 0, none⟩ = some (.int .i64 (a : Int)) ∧ w'.cell? ⟨P, 1, none⟩ = some (.int .i64 (b : Int)))
      (first | exact held3_drew ⟨by assumption, by assumption, by assumption, by assumption⟩ | exact held3_drew (by assumption) | exact held3_call (by assumption) (by assumption) (Below.size (And.left (by assumption))))
      (first | (go_at_call 149; refine (RJ.out _ (‹Below W.heap.size W _ ∧ _›).1).mono ?_; rintro e w8 ⟨rfl, hb8⟩))
    have hbz := (‹Below W.heap.size W _ ∧ _›).1
    have hRz := (hbz.block (P + 1) (by have := HH.out.2.1; omega)).trans HH.out.2.2.1
    obtain ⟨⟨r1, r2⟩, f1, f2⟩ := boxTwo_cells hRz
    have HZ := Lib.hid (And.intro hRz (Below.on HH.out.1 hbz))
    clear hRz hbz
    go_wp2
    obtain ⟨⟨k1, k2⟩, _⟩ := boxTwo_cells (boxTwo_set HZ.out.1 (.int .i64 0) (.int .i64 0))
    refine bodyPost_ret (v := .tuple #[.agg #[.int .i64 0, .int .i64 0], .bool false]) (by simp [results, Try.results142, go_sem, k1, k2]) rfl ?_
    exact ⟨rfl, boxTwo_below HZ.out.2 (by have := HPP.out; omega) _ _⟩
  · have T : Two u (rootI u a) (rootI u b) := roots_two h.fv (by have := h.len; omega) (by have := h.len; omega) hpq
    have T2 := low_two T 1
    have h3 : x = lowI u 1 (rootI u a) (rootI u b) := by rw [hx]; unfold stR; rw [if_neg hpq]
    have h4 : y = uppI u 1 (rootI u a) (rootI u b) := by rw [hy]; unfold stT; rw [if_neg hpq]
    rw [← h3, ← h4] at T2
    have h1 : lowA M u 1 a b = some ⟨M, x * 3, none⟩ := by unfold lowA; rw [if_neg hpq, h3]
    have h2 : uppA M u 1 a b = some ⟨M, y * 3, none⟩ := by unfold uppA; rw [if_neg hpq, h4]
    rw [h1, h2] at RJ
    rw [show (!decide (rootI u a = rootI u b)) = true by rw [decide_eq_false hpq]; rfl]
    have hxn : x < n := by have := T2.hp; have := h.len; omega
    have hyn : y < n := by have := T2.hq; have := h.len; omega
    have CELLS : Hid (∀ wz, Below W.heap.size W wz → (wz.cell? ⟨M, x * 3, none⟩ = some (.pointer (some ⟨N, x * 2, none⟩)) ∧ wz.cell? ⟨M, y * 3, none⟩ = some (.pointer (some ⟨N, y * 2, none⟩))) ∧ wz.cell? ⟨N, x * 2, none⟩ = some (.int .i64 (x : Int)) ∧ wz.cell? ⟨N, y * 2, none⟩ = some (.int .i64 (y : Int))) := fun wz hz => by
      have hS := HH.out.2.2.2.1.below hz HH.out.2.2.2.1.lt
      obtain ⟨⟨c1, _⟩, _⟩ := hS.mem.cells hxn
      obtain ⟨⟨c2, _⟩, _⟩ := hS.mem.cells hyn
      rw [if_pos hxn] at c1
      rw [if_pos hyn] at c2
      exact ⟨⟨c1, c2⟩, (hS.nd.cells (x := x) (by have := hS.len; omega)).1, (hS.nd.cells (x := y) (by have := hS.len; omega)).1⟩
    have RJ := Lib.hid RJ
    clear hpq h1 h2 hx hy h3 h4 T T2 h ha hb hW hbW hsW hRW hPW hSW hP hxn hyn
    go_enter Try.func142, Try.ntmps142
    go_wp2
    rw [← HW.out, ← HPP.out]
    go_region_held3 (fun w' => Below W.heap.size W w' ∧ w'.cell? ⟨H, 0, none⟩ = some (.pointer (some ⟨J, 0, none⟩)) ∧ w'.cell? ⟨P, 0, none⟩ = some (.int .i64 (a : Int)) ∧ w'.cell? ⟨P, 1, none⟩ = some (.int .i64 (b : Int)))
      (first | exact held3_drew ⟨by assumption, by assumption, by assumption, by assumption⟩ | exact held3_drew (by assumption) | exact held3_call (by assumption) (by assumption) (Below.size (And.left (by assumption))))
      (first | (go_at_call 149; refine (RJ.out _ (‹Below W.heap.size W _ ∧ _›).1).mono ?_; rintro e w8 ⟨rfl, hb8⟩))
    have hbz := (‹Below W.heap.size W _ ∧ _›).1
    have hRz := (hbz.block (P + 1) (by have := HH.out.2.1; omega)).trans HH.out.2.2.1
    obtain ⟨⟨r1, r2⟩, f1, f2⟩ := boxTwo_cells hRz
    obtain ⟨⟨c1, c2⟩, c3, c4⟩ := CELLS.out _ hbz
    have HZ := Lib.hid (And.intro hRz (Below.on HH.out.1 hbz))
    clear hRz hbz
    go_wp2
    go_region
    go_wp2
    obtain ⟨⟨k1, k2⟩, _⟩ := boxTwo_cells (boxTwo_set HZ.out.1 (.int .i64 (x : Int)) (.int .i64 (y : Int)))
    refine bodyPost_ret (v := .tuple #[.agg #[.int .i64 (x : Int), .int .i64 (y : Int)], .bool true]) (by simp [results, Try.results142, go_sem, k1, k2]) rfl ?_
    have hq := boxTwo_below (b := P + 1) HZ.out.2 (by have := HPP.out; omega) (.int .i64 (x : Int)) (.int .i64 (y : Int))
    exact ⟨rfl, ⟨hq.os, hq.tape, hq.output, hq.size, hq.block⟩⟩
end Go.Proofs.Ytdbkoicbhddpfaa
