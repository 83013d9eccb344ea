/- The model's l4Copy. Condition: lengths up to 1048576, one item at least. -/
import Derived.Test.YtdbkoicbhddpfaaCopyLog
namespace Go.Proofs.Ytdbkoicbhddpfaa
open Go.RowKit

set_option maxRecDepth 100000 in
set_option maxHeartbeats 8000000 in
theorem l4Copy_some (b1 o1 b2 o2 n c m c2 B0 : Nat) (xs : List Int) (ss : List (Int × Int)) (w : World) (h1 : Rd w B0 (some ⟨b1, o1, none⟩) n xs) (h2 : RdQ w B0 (some ⟨b2, o2, none⟩) m ss) (hB0 : B0 ≤ w.heap.size) (hn : 1 ≤ n) (hb : n ≤ 1048576) (hm : 1 ≤ m) (hb2 : m ≤ 1048576) :
    Calls Try.prog 83 #[.agg #[.slice (some ⟨b1, o1, none⟩) n c, .slice (some ⟨b2, o2, none⟩) m c2]] w fun e w' => ∃ v v2, e = .returned (.agg #[v, v2]) ∧ Own w' w.heap.size v xs ∧ OwnQ 45 w' w.heap.size v2 ss ∧ (∀ x, v.ownBlock = some x → ∀ y, v2.ownBlock = some y → x ≠ y) ∧ Below w.heap.size w w' := by
  obtain ⟨W1, hW1⟩ : ∃ W1, W1 = w.alloc (.cells #[.slice (some ⟨b1, o1, none⟩) n c, .slice (some ⟨b2, o2, none⟩) m c2] 26) := ⟨_, rfl⟩
  obtain ⟨W, hW⟩ : ∃ W, W = W1.alloc (.cells #[.slice none 0 0, .slice none 0 0] 26) := ⟨_, rfl⟩
  have e1 : W1.heap.size = w.heap.size + 1 := by rw [hW1]; simp
  have hA : W1.heap[w.heap.size]? = some (.cells #[.slice (some ⟨b1, o1, none⟩) n c, .slice (some ⟨b2, o2, none⟩) m c2] 26 (0, 0)) := by rw [hW1]; exact World.alloc_heap_new w _
  have hAW : W.heap[w.heap.size]? = some (.cells #[.slice (some ⟨b1, o1, none⟩) n c, .slice (some ⟨b2, o2, none⟩) m c2] 26 (0, 0)) := by rw [hW]; exact (Below.heap_alloc _ _ _ (by omega)).trans hA
  have hRW : W.heap[w.heap.size + 1]? = some (.cells #[.slice none 0 0, .slice none 0 0] 26 (0, 0)) := by rw [hW, ← e1]; exact World.alloc_heap_new W1 _
  have hbW : Below w.heap.size w W := by rw [hW, hW1]; exact ((Below.refl _ _).alloc (Nat.le_refl _) _).alloc (by simp) _
  have hN1 : Hid (∀ w8, Below w.heap.size w w8 → ∀ k, k < n → w8.cell? ⟨b1, o1 + k, none⟩ = some (.int .i64 (xs[k]?.getD 0))) := fun w8 hb8 k hk => by
    obtain ⟨b, o, e, _, hc⟩ := (h1.below hb8 hB0).2 hn
    simp only [Option.some.injEq, Addr.mk.injEq, and_true] at e
    obtain ⟨rfl, rfl⟩ := e
    exact hc k hk
  have hN2 : Hid (∀ w8, Below w.heap.size w w8 → ∀ k, k < m → w8.cell? ⟨b2, o2 + k * 2, none⟩ = some (.int .i64 (ss[k]?.getD (0, 0)).1) ∧ w8.cell? ⟨b2, o2 + k * 2 + 1, none⟩ = some (.int .i64 (ss[k]?.getD (0, 0)).2)) := fun w8 hb8 k hk => by
    obtain ⟨b, o, e, _, hc⟩ := (h2.below hb8 hB0).2 hm
    simp only [Option.some.injEq, Addr.mk.injEq, and_true] at e
    obtain ⟨rfl, rfl⟩ := e
    exact hc k hk
  have hl1 := h1.1
  have hl2 := h2.1
  obtain ⟨P, hP⟩ : ∃ P, P = w.heap.size := ⟨_, rfl⟩
  obtain ⟨R, hR⟩ : ∃ R, R = w.heap.size + 1 := ⟨_, rfl⟩
  rw [← hP] at hAW
  rw [← hR] at hRW
  have hS : CopyS w P R (.slice (some ⟨b1, o1, none⟩) n c) (.slice (some ⟨b2, o2, none⟩) m c2) W := copy_of hbW (boxTwo_cells hAW).1.1 (boxTwo_cells hAW).1.2 hRW
  have HW := Lib.hid (And.intro hW (And.intro hW1 (And.intro hP hR)))
  have HPR := Lib.hid (And.intro (show w.heap.size ≤ R by omega) (show P ≠ R by omega))
  have HL := Lib.hid (And.intro hl1 hl2)
  have HS := Lib.hid hS
  have HI := Lib.hid (And.intro (And.intro hn hb) (And.intro hm hb2))
  have hew : W1.heap.size = R := by omega
  have HEW := Lib.hid hew
  clear h1 h2 hB0 hn hb hm hb2 e1 hA hAW hRW hbW hl1 hl2 hW hW1 hP hR hew
  go_enter Try.func83, Try.ntmps83
  go_wp2_with fail
  rw [← HW.out.2.1, ← HW.out.1, ← HW.out.2.2.2, ← HW.out.2.2.1]
  go_region_held3 (fun w' => Below w.heap.size w w' ∧ w'.cell? ⟨P, 0, none⟩ = some (.slice (some ⟨b1, o1, none⟩) n c) ∧ w'.cell? ⟨P, 1, none⟩ = some (.slice (some ⟨b2, o2, none⟩) m c2) ∧ w'.cell? ⟨R, 0, none⟩ = some (cellAt w' ⟨R, 0, none⟩) ∧ w'.cell? ⟨R, 1, none⟩ = some (cellAt w' ⟨R, 1, none⟩) ∧ w'.frozen? ⟨R, 0, none⟩ = false ∧ w'.frozen? ⟨R, 1, none⟩ = false ∧ ∃ x y, w'.heap[R]? = some (.cells #[x, y] 26 (0, 0)))
    (first | exact copy_drew (by assumption) | exact copy_alloc (by assumption) _ | exact copy_grown (by assumption) (by assumption) | exact copy_put (by assumption) HPR.out.1 HPR.out.2 _ _)
    (first | (refine step_copyI rfl (.tmp 3) (.tmp 5) rfl _ (R + 1) _ b1 o1 n c xs rfl rfl HL.out.1 (hN1.out _ (‹Below w.heap.size w _ ∧ _›).1) HI.out.1.1 HI.out.1.2 (copy_size (by assumption)) ?_; intro gI kI wI hoI hgI) | (refine step_copyS rfl (.tmp 7) (.tmp 9) rfl _ (R + 1) _ b2 o2 m c2 ss rfl rfl HL.out.2 (hN2.out _ (‹Below w.heap.size w _ ∧ _›).1) HI.out.2.1 HI.out.2.2 (copy_size (by assumption)) ?_; intro gS kS wS hoS hgS))
  all_goals
    clear ‹Below w.heap.size w _ ∧ _›
    go_wp2_with fail
    have hcs : CopyS w P R (.slice (some ⟨b1, o1, none⟩) n c) (.slice (some ⟨b2, o2, none⟩) m c2) wS := by
      first | exact copy_grown (copy_alloc (copy_grown (copy_drew (copy_alloc HS.out _)) hgI) _) hgS | exact copy_grown (copy_grown (copy_drew (copy_alloc (copy_alloc HS.out _) _)) hgI) hgS
    obtain ⟨hbS, _, _, _, _, _, _, x, y, hRS⟩ := hcs
    have ho : Own wS (R + 1) (.slice (some ⟨gI, 0, none⟩) n kI) xs := by
      first | exact (hoI.alloc _).kept hgS (.inr (fun e => by cases e)) | exact hoI.kept hgS (.inr (fun e => by cases e))
    obtain ⟨q1, q2, q3, q4⟩ := copy_end hbS HPR.out.1 ho hoS
    obtain ⟨⟨k1, k2⟩, _⟩ := boxTwo_cells (boxTwo_set hRS (.slice (some ⟨gI, 0, none⟩) n kI) (.slice (some ⟨gS, 0, none⟩) m kS))
    refine bodyPost_ret (v := .agg #[.slice (some ⟨gI, 0, none⟩) n kI, .slice (some ⟨gS, 0, none⟩) m kS]) (by simp [results, Try.results83, go_sem, k1, k2]) rfl ?_
    exact ⟨_, _, rfl, q1, q2, q3, q4⟩

set_option maxRecDepth 100000 in
set_option maxHeartbeats 8000000 in
theorem l4Copy_none (b1 o1 n c c2 B0 : Nat) (A2 : Option Addr) (xs : List Int) (w : World) (h1 : Rd w B0 (some ⟨b1, o1, none⟩) n xs) (hB0 : B0 ≤ w.heap.size) (hn : 1 ≤ n) (hb : n ≤ 1048576) :
    Calls Try.prog 83 #[.agg #[.slice (some ⟨b1, o1, none⟩) n c, .slice A2 0 c2]] w fun e w' => ∃ v v2, e = .returned (.agg #[v, v2]) ∧ Own w' w.heap.size v xs ∧ OwnQ 45 w' w.heap.size v2 [] ∧ (∀ x, v.ownBlock = some x → ∀ y, v2.ownBlock = some y → x ≠ y) ∧ Below w.heap.size w w' := by
  obtain ⟨W1, hW1⟩ : ∃ W1, W1 = w.alloc (.cells #[.slice (some ⟨b1, o1, none⟩) n c, .slice A2 0 c2] 26) := ⟨_, rfl⟩
  obtain ⟨W, hW⟩ : ∃ W, W = W1.alloc (.cells #[.slice none 0 0, .slice none 0 0] 26) := ⟨_, rfl⟩
  have e1 : W1.heap.size = w.heap.size + 1 := by rw [hW1]; simp
  have eW : W.heap.size = w.heap.size + 2 := by rw [hW]; simp [e1]
  have hA : W1.heap[w.heap.size]? = some (.cells #[.slice (some ⟨b1, o1, none⟩) n c, .slice A2 0 c2] 26 (0, 0)) := by rw [hW1]; exact World.alloc_heap_new w _
  have hAW : W.heap[w.heap.size]? = some (.cells #[.slice (some ⟨b1, o1, none⟩) n c, .slice A2 0 c2] 26 (0, 0)) := by rw [hW]; exact (Below.heap_alloc _ _ _ (by omega)).trans hA
  have hRW : W.heap[w.heap.size + 1]? = some (.cells #[.slice none 0 0, .slice none 0 0] 26 (0, 0)) := by rw [hW, ← e1]; exact World.alloc_heap_new W1 _
  have hbW : Below w.heap.size w W := by rw [hW, hW1]; exact ((Below.refl _ _).alloc (Nat.le_refl _) _).alloc (by simp) _
  have hN1 : Hid (∀ w8, Below w.heap.size w w8 → ∀ k, k < n → w8.cell? ⟨b1, o1 + k, none⟩ = some (.int .i64 (xs[k]?.getD 0))) := fun w8 hb8 k hk => by
    obtain ⟨b, o, e, _, hc⟩ := (h1.below hb8 hB0).2 hn
    simp only [Option.some.injEq, Addr.mk.injEq, and_true] at e
    obtain ⟨rfl, rfl⟩ := e
    exact hc k hk
  have hl1 := h1.1
  obtain ⟨P, hP⟩ : ∃ P, P = w.heap.size := ⟨_, rfl⟩
  obtain ⟨R, hR⟩ : ∃ R, R = w.heap.size + 1 := ⟨_, rfl⟩
  rw [← hP] at hAW
  rw [← hR] at hRW
  have hS : CopyS w P R (.slice (some ⟨b1, o1, none⟩) n c) (.slice A2 0 c2) W := copy_of hbW (boxTwo_cells hAW).1.1 (boxTwo_cells hAW).1.2 hRW
  have HW := Lib.hid (And.intro hW (And.intro hW1 (And.intro hP hR)))
  have HPR := Lib.hid (And.intro (show w.heap.size ≤ R by omega) (And.intro (show P ≠ R by omega) (show W.heap.size = R + 1 by omega)))
  have HL := Lib.hid hl1
  have HS := Lib.hid hS
  have HI := Lib.hid (And.intro hn hb)
  clear h1 hB0 hn hb e1 eW hA hAW hRW hbW hl1 hW hW1 hP hR
  go_enter Try.func83, Try.ntmps83
  go_wp2_with fail
  rw [← HW.out.2.1, ← HW.out.1, ← HW.out.2.2.2, ← HW.out.2.2.1]
  go_region_held3 (fun w' => Below w.heap.size w w' ∧ w'.cell? ⟨P, 0, none⟩ = some (.slice (some ⟨b1, o1, none⟩) n c) ∧ w'.cell? ⟨P, 1, none⟩ = some (.slice A2 0 c2) ∧ w'.cell? ⟨R, 0, none⟩ = some (cellAt w' ⟨R, 0, none⟩) ∧ w'.cell? ⟨R, 1, none⟩ = some (cellAt w' ⟨R, 1, none⟩) ∧ w'.frozen? ⟨R, 0, none⟩ = false ∧ w'.frozen? ⟨R, 1, none⟩ = false ∧ ∃ x y, w'.heap[R]? = some (.cells #[x, y] 26 (0, 0)))
    (first | assumption | exact copy_drew (by assumption) | exact copy_alloc (by assumption) _ | exact copy_grown (by assumption) (by assumption) | exact copy_put (by assumption) HPR.out.1 HPR.out.2.1 _ _)
    (first | (refine step_copyI rfl (.tmp 3) (.tmp 5) rfl _ (R + 1) _ b1 o1 n c xs rfl rfl HL.out (hN1.out _ (‹Below w.heap.size w _ ∧ _›).1) HI.out.1 HI.out.2 (copy_size (by assumption)) ?_; intro gI kI wI hoI hgI) | (refine step_copyS0 rfl (.tmp 7) (.tmp 9) rfl _ _ c2 A2 rfl rfl ?_))
  all_goals
    clear ‹Below w.heap.size w _ ∧ _›
    go_wp2_with fail
    have hsI := hgI.size
    obtain ⟨_, eR⟩ := HPR.out.2
    first
    | (have hcs : CopyS w P R (.slice (some ⟨b1, o1, none⟩) n c) (.slice A2 0 c2) (wI.alloc (.cells #[] 45)) := copy_alloc (copy_grown (copy_drew (copy_alloc HS.out _)) hgI) _
       have hoS : OwnQ 45 (wI.alloc (.cells #[] 45)) (R + 1) (.slice (some ⟨wI.heap.size, 0, none⟩) 0 0) [] := OwnQ.none_yet _ _ _ (by simp at hsI; omega)
       have ho : Own (wI.alloc (.cells #[] 45)) (R + 1) (.slice (some ⟨gI, 0, none⟩) n kI) xs := hoI.alloc _
       obtain ⟨hbS, _, _, _, _, _, _, x, y, hRS⟩ := hcs
       obtain ⟨q1, q2, q3, q4⟩ := copy_end hbS HPR.out.1 ho hoS
       obtain ⟨⟨k1, k2⟩, _⟩ := boxTwo_cells (boxTwo_set hRS (.slice (some ⟨gI, 0, none⟩) n kI) (.slice (some ⟨wI.heap.size, 0, none⟩) 0 0))
       refine bodyPost_ret (v := .agg #[.slice (some ⟨gI, 0, none⟩) n kI, .slice (some ⟨wI.heap.size, 0, none⟩) 0 0]) (by simp [results, Try.results83, go_sem, k1, k2]) rfl ?_
       exact ⟨_, _, rfl, q1, q2, q3, q4⟩)
    | (have hcs : CopyS w P R (.slice (some ⟨b1, o1, none⟩) n c) (.slice A2 0 c2) wI := copy_grown (copy_drew (copy_alloc (copy_alloc HS.out _) _)) hgI
       have hoS : OwnQ 45 wI (R + 1) (.slice (some ⟨(W.alloc (.cells #[] 3)).heap.size, 0, none⟩) 0 0) [] := by
         have h0 : OwnQ 45 ((W.alloc (.cells #[] 3)).alloc (.cells #[] 45)).drew (R + 1) (.slice (some ⟨(W.alloc (.cells #[] 3)).heap.size, 0, none⟩) 0 0) [] := OwnQ.none_yet 45 (W.alloc (.cells #[] 3)) (R + 1) (by simp; omega)
         exact h0.kept hgI (.inr (fun e => by cases e))
       obtain ⟨hbS, _, _, _, _, _, _, x, y, hRS⟩ := hcs
       obtain ⟨q1, q2, q3, q4⟩ := copy_end hbS HPR.out.1 hoI hoS
       obtain ⟨⟨k1, k2⟩, _⟩ := boxTwo_cells (boxTwo_set hRS (.slice (some ⟨gI, 0, none⟩) n kI) (.slice (some ⟨(W.alloc (.cells #[] 3)).heap.size, 0, none⟩) 0 0))
       rw [World.size_alloc] at q1 q2 q3 q4 k1 k2
       refine bodyPost_ret (v := .agg #[.slice (some ⟨gI, 0, none⟩) n kI, .slice (some ⟨W.heap.size + 1, 0, none⟩) 0 0]) (by simp [results, Try.results83, go_sem, k1, k2]) rfl ?_
       exact ⟨_, _, rfl, q1, q2, q3, q4⟩)
    | (have hcs : CopyS w P R (.slice (some ⟨b1, o1, none⟩) n c) (.slice A2 0 c2) wI := copy_grown (copy_drew (copy_alloc (copy_alloc HS.out _) _)) hgI
       have hoS : OwnQ 45 wI (R + 1) (.slice (some ⟨W.heap.size, 0, none⟩) 0 0) [] := by
         have h0 : OwnQ 45 ((W.alloc (.cells #[] 45)).alloc (.cells #[] 3)).drew (R + 1) (.slice (some ⟨W.heap.size, 0, none⟩) 0 0) [] := (OwnQ.none_yet 45 W (R + 1) (by omega)).alloc _
         exact h0.kept hgI (.inr (fun e => by cases e))
       obtain ⟨hbS, _, _, _, _, _, _, x, y, hRS⟩ := hcs
       obtain ⟨q1, q2, q3, q4⟩ := copy_end hbS HPR.out.1 hoI hoS
       obtain ⟨⟨k1, k2⟩, _⟩ := boxTwo_cells (boxTwo_set hRS (.slice (some ⟨gI, 0, none⟩) n kI) (.slice (some ⟨W.heap.size, 0, none⟩) 0 0))
       refine bodyPost_ret (v := .agg #[.slice (some ⟨gI, 0, none⟩) n kI, .slice (some ⟨W.heap.size, 0, none⟩) 0 0]) (by simp [results, Try.results83, go_sem, k1, k2]) rfl ?_
       exact ⟨_, _, rfl, q1, q2, q3, q4⟩)
theorem l4Copy_any (A1 A2 : Option Addr) (n c m c2 B0 : Nat) (xs : List Int) (ss : List (Int × Int)) (w : World) (h1 : Rd w B0 A1 n xs) (h2 : RdQ w B0 A2 m ss) (hB0 : B0 ≤ w.heap.size) (hn : 1 ≤ n) (hb : n ≤ 1048576) (hb2 : m ≤ 1048576) :
    Calls Try.prog 83 #[.agg #[.slice A1 n c, .slice A2 m c2]] w fun e w' => ∃ v v2, e = .returned (.agg #[v, v2]) ∧ Own w' w.heap.size v xs ∧ OwnQ 45 w' w.heap.size v2 ss ∧ (∀ x, v.ownBlock = some x → ∀ y, v2.ownBlock = some y → x ≠ y) ∧ Below w.heap.size w w' := by
  obtain ⟨b1, o1, rfl, _, _⟩ := h1.2 hn
  by_cases hm : 1 ≤ m
  · obtain ⟨b2, o2, rfl, _, _⟩ := h2.2 hm
    exact l4Copy_some b1 o1 b2 o2 n c m c2 B0 xs ss w h1 h2 hB0 hn hb hm hb2
  · obtain rfl : m = 0 := by omega
    have : ss = [] := List.eq_nil_of_length_eq_zero h2.1
    subst this
    exact l4Copy_none b1 o1 n c c2 B0 A2 xs w h1 hB0 hn hb
end Go.Proofs.Ytdbkoicbhddpfaa
