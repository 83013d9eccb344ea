/- The model's JoinLog for any log and any two numbers. Condition: lengths up to 1048576, of steps up to 1000 where the log is valid. -/
import Derived.Test.YtichcnaomcpnhaaSpecJoinLog
import Derived.Test.YtichcnaomcpnhaaSpecLogV
namespace Go.Proofs.Ytichcnaomcpnhaa
open Go.RowKit

theorem jlB_parts {xs : List Int} {ss : List (Int × Int)} {a b : Int} : (logV xs ss = false → jlB xs ss a b = false) ∧ (itemB xs a = false → jlB xs ss a b = false) ∧ (itemB xs b = false → jlB xs ss a b = false) := by
  unfold jlB
  exact ⟨fun h => by rw [h]; rfl, fun h => by rw [h]; simp, fun h => by rw [h]; simp⟩
theorem jl_no {xs : List Int} {ss : List (Int × Int)} {a b : Int} (h : jlB xs ss a b = false) : jlUp xs ss a b = [] ∧ jlSt xs ss a b = [] := by
  unfold jlUp jlSt
  rw [h]
  exact ⟨rfl, rfl⟩
set_option maxRecDepth 100000 in
set_option maxHeartbeats 8000000 in
theorem specJoinLog_no1 (A1 A2 : Option Addr) (n c1 m c2 B0 : Nat) (a b : Int) (xs : List Int) (ss : List (Int × Int)) (w : World) (h1 : Rd w B0 A1 n xs) (h2 : RdQ w B0 A2 m ss) (hB0 : B0 ≤ w.heap.size) (hb1 : n ≤ 1048576) (hb2 : m ≤ 1048576) (hv : logV xs ss = false) :
    Calls Try.prog 8 #[.agg #[.slice A1 n c1, .slice A2 m c2], .int .i64 a, .int .i64 b] w fun e w' => e = .returned (.tuple #[.agg #[.slice none 0 0, .slice none 0 0], .bool false]) ∧ Below w.heap.size w w' := by
  obtain ⟨W1, hW1⟩ : ∃ W1, W1 = w.alloc (.cells #[.slice A1 n c1, .slice A2 m c2] 26) := ⟨_, rfl⟩
  obtain ⟨W, hW⟩ : ∃ W, W = W1.alloc (.cells #[.slice none 0 0, .slice none 0 0] 26) := ⟨_, rfl⟩
  have e1 : W1.heap.size = w.heap.size + 1 := by rw [hW1]; simp
  have eW : W.heap.size = w.heap.size + 2 := by rw [hW]; simp [e1]
  have hA : W1.heap[w.heap.size]? = some (.cells #[.slice A1 n c1, .slice A2 m c2] 26 (0, 0)) := by rw [hW1]; exact World.alloc_heap_new w _
  have hAW : W.heap[w.heap.size]? = some (.cells #[.slice A1 n c1, .slice A2 m c2] 26 (0, 0)) := by rw [hW]; exact (Below.heap_alloc _ _ _ (by omega)).trans hA
  have hRW : W.heap[w.heap.size + 1]? = some (.cells #[.slice none 0 0, .slice none 0 0] 26 (0, 0)) := by rw [hW, ← e1]; exact World.alloc_heap_new W1 _
  have hbW : Below w.heap.size w W := by rw [hW, hW1]; exact ((Below.refl _ _).alloc (Nat.le_refl _) _).alloc (by simp) _
  have h1W := h1.below hbW hB0
  have h2W := h2.below hbW hB0
  have hBW : B0 ≤ W.heap.size := Nat.le_trans hB0 hbW.size
  have LV := fun (w8 : World) (h8 : Below W.heap.size W w8) => specLogV_any A1 A2 n c1 m c2 B0 xs ss w8 (h1W.below h8 hBW) (h2W.below h8 hBW) (Nat.le_trans hBW h8.size) hb1 hb2
  have ITA := fun (w8 : World) (h8 : Below W.heap.size W w8) => l1Item_any A1 n c1 B0 xs a w8 (h1W.below h8 hBW) (Nat.le_trans hBW h8.size) hb1
  have ITB := fun (w8 : World) (h8 : Below W.heap.size W w8) => l1Item_any A1 n c1 B0 xs b w8 (h1W.below h8 hBW) (Nat.le_trans hBW h8.size) hb1
  rw [hv] at LV
  have LV := Lib.hid LV
  have ITA := Lib.hid ITA
  have ITB := Lib.hid ITB
  obtain ⟨P, hP⟩ : ∃ P, P = w.heap.size := ⟨_, rfl⟩
  obtain ⟨R, hR⟩ : ∃ R, R = w.heap.size + 1 := ⟨_, rfl⟩
  rw [← hP] at hAW
  rw [← hR] at hRW
  obtain ⟨k1, k2⟩ := (boxTwo_cells hAW).1
  have HW := Lib.hid (And.intro hW (And.intro hW1 (And.intro hP hR)))
  have HF := Lib.hid (And.intro hbW (And.intro hRW eW))
  clear h1 h2 hB0 hb1 hb2 hW1 hW e1 eW hA hAW hRW hbW h1W h2W hBW hP hR hv
  have hbb : Below W.heap.size W W := Below.refl _ _
  go_enter Try.func8, Try.ntmps8
  go_wp2_with fail
  rw [← HW.out.2.1, ← HW.out.1, ← HW.out.2.2.2, ← HW.out.2.2.1]
  refine wp_region_noPanic ?_
  refine wp_region_held_drew (S := (fun w' => Below W.heap.size W w' ∧ w'.cell? ⟨P, 0, none⟩ = some (.slice A1 n c1) ∧ w'.cell? ⟨P, 1, none⟩ = some (.slice A2 m c2))) (by kernel_rfl) ?_ (fun hHeld => ?_)
  · first | assumption | exact held2_drew ⟨by assumption, by assumption, by assumption⟩
  refine wpAnyH_take (i := 0) (oi := ({ dst := some 12, op := Op.load 26 (Operand.tmp 3), type := 26, pos := "l4_undoing.go:42", after := #[], guard := none } : Oper)) (v := ?v1) rfl (by kernel_rfl) (by kernel_rfl) (by kernel_rfl) (fun _ _ _ h => h) (Or.inl ⟨by rfl, ?hy1⟩) hHeld ?rest1
  case hy1 => (intro w hSw; (try dsimp only at hSw); go_simp; (try with_reducible rfl))
  (try simp only [Act.put, List.setIfInBounds_toArray, List.set_cons_zero, List.set_cons_succ])
  refine wpAnyH_ready (rs := [1]) (by kernel_rfl) (by simp) ?_
  refine AllReadyH.cons (o := ({ dst := some 13, op := Op.call { callee := Callee.value (Operand.func 35), args := #[Operand.tmp 12], argTypes := #[26] }, type := 4, pos := "l4_undoing.go:42", after := #[{ on := 0, ground := Ground.data }], guard := none } : Oper)) rfl (fun K hK => ?_) AllReadyH.nil
  go_simp
  go_at_call 35
  refine (LV.out _ hHeld.1).mono ?_
  rintro e w8 ⟨rfl, hb8⟩
  (try go_wp2_with fail)
  refine hK.out _ _ ?_ (fun hHeld => ?_)
  · first | assumption | exact held2_call (by assumption) (by assumption) (Below.size (And.left (by assumption)))
  clear hK K
  (try simp only [Act.put, List.setIfInBounds_toArray, List.set_cons_zero, List.set_cons_succ])
  refine wpAnyH_take (i := 2) (oi := ({ dst := some 14, op := Op.unOp UnOp.not 4 (Operand.tmp 13), type := 4, pos := "l4_undoing.go:42", after := #[{ on := 1, ground := Ground.data }], guard := none } : Oper)) (v := ?v2) rfl (by kernel_rfl) (by kernel_rfl) (by kernel_rfl) (fun _ _ _ h => h) (Or.inl ⟨by rfl, ?hy2⟩) hHeld ?rest2
  case hy2 => (intro w hSw; (try dsimp only at hSw); go_simp; (try with_reducible rfl))
  (try simp only [Act.put, List.setIfInBounds_toArray, List.set_cons_zero, List.set_cons_succ])
  refine wpAnyH_take (i := 3) (oi := ({ dst := some 15, op := Op.move (Operand.tmp 14), type := 4, pos := "l4_undoing.go:42", after := #[{ on := 2, ground := Ground.data }, { on := 1, ground := Ground.chain }], guard := none } : Oper)) (v := ?v3) rfl (by kernel_rfl) (by kernel_rfl) (by kernel_rfl) (fun _ _ _ h => h) (Or.inl ⟨by rfl, ?hy3⟩) hHeld ?rest3
  case hy3 => (intro w hSw; (try dsimp only at hSw); go_simp; (try with_reducible rfl))
  (try simp only [Act.put, List.setIfInBounds_toArray, List.set_cons_zero, List.set_cons_succ])
  refine wpAnyH_take (i := 4) (oi := ({ dst := some 16, op := Op.fieldAddr 26 (Operand.tmp 3) 0, type := 0, pos := "l4_undoing.go:42", after := #[{ on := 3, ground := Ground.guard }], guard := some (3, false) } : Oper)) (v := undef) rfl (by kernel_rfl) (by kernel_rfl) (by kernel_rfl) (fun _ _ _ h => h) (Or.inr ⟨by rfl, rfl⟩) hHeld ?rest4
  (try simp only [Act.put, List.setIfInBounds_toArray, List.set_cons_zero, List.set_cons_succ])
  refine wpAnyH_take (i := 5) (oi := ({ dst := some 17, op := Op.load 23 (Operand.tmp 16), type := 23, pos := "l4_undoing.go:42", after := #[{ on := 4, ground := Ground.data }, { on := 3, ground := Ground.guard }], guard := some (3, false) } : Oper)) (v := undef) rfl (by kernel_rfl) (by kernel_rfl) (by kernel_rfl) (fun _ _ _ h => h) (Or.inr ⟨by rfl, rfl⟩) hHeld ?rest5
  (try simp only [Act.put, List.setIfInBounds_toArray, List.set_cons_zero, List.set_cons_succ])
  refine wpAnyH_take (i := 6) (oi := ({ dst := some 18, op := Op.move (Operand.tmp 1), type := 3, pos := "l4_undoing.go:42", after := #[{ on := 3, ground := Ground.guard }], guard := some (3, false) } : Oper)) (v := undef) rfl (by kernel_rfl) (by kernel_rfl) (by kernel_rfl) (fun _ _ _ h => h) (Or.inr ⟨by rfl, rfl⟩) hHeld ?rest6
  (try simp only [Act.put, List.setIfInBounds_toArray, List.set_cons_zero, List.set_cons_succ])
  refine wpAnyH_take (i := 7) (oi := ({ dst := some 19, op := Op.call { callee := Callee.value (Operand.func 36), args := #[Operand.tmp 17, Operand.tmp 18], argTypes := #[23, 3] }, type := 4, pos := "l4_undoing.go:42", after := #[{ on := 5, ground := Ground.data }, { on := 6, ground := Ground.data }, { on := 3, ground := Ground.chain }, { on := 3, ground := Ground.guard }], guard := some (3, false) } : Oper)) (v := undef) rfl (by kernel_rfl) (by kernel_rfl) (by kernel_rfl) (fun _ _ _ h => h) (Or.inr ⟨by rfl, rfl⟩) hHeld ?rest7
  (try simp only [Act.put, List.setIfInBounds_toArray, List.set_cons_zero, List.set_cons_succ])
  refine wpAnyH_take (i := 8) (oi := ({ dst := some 20, op := Op.unOp UnOp.not 4 (Operand.tmp 19), type := 4, pos := "l4_undoing.go:42", after := #[{ on := 7, ground := Ground.data }, { on := 3, ground := Ground.guard }], guard := some (3, false) } : Oper)) (v := undef) rfl (by kernel_rfl) (by kernel_rfl) (by kernel_rfl) (fun _ _ _ h => h) (Or.inr ⟨by rfl, rfl⟩) hHeld ?rest8
  (try simp only [Act.put, List.setIfInBounds_toArray, List.set_cons_zero, List.set_cons_succ])
  refine wpAnyH_take (i := 9) (oi := ({ dst := some 21, op := Op.pick (Operand.tmp 15) (Operand.const (Value.bool true)) (Operand.tmp 20), type := 4, pos := "l4_undoing.go:42", after := #[{ on := 3, ground := Ground.data }, { on := 8, ground := Ground.data }], guard := none } : Oper)) (v := ?v9) rfl (by kernel_rfl) (by kernel_rfl) (by kernel_rfl) (fun _ _ _ h => h) (Or.inl ⟨by rfl, ?hy9⟩) hHeld ?rest9
  case hy9 => (intro w hSw; (try dsimp only at hSw); go_simp; (try with_reducible rfl))
  (try simp only [Act.put, List.setIfInBounds_toArray, List.set_cons_zero, List.set_cons_succ])
  refine wpAnyH_take (i := 10) (oi := ({ dst := some 22, op := Op.move (Operand.tmp 21), type := 4, pos := "l4_undoing.go:42", after := #[{ on := 9, ground := Ground.data }, { on := 7, ground := Ground.chain }], guard := none } : Oper)) (v := ?v10) rfl (by kernel_rfl) (by kernel_rfl) (by kernel_rfl) (fun _ _ _ h => h) (Or.inl ⟨by rfl, ?hy10⟩) hHeld ?rest10
  case hy10 => (intro w hSw; (try dsimp only at hSw); go_simp; (try with_reducible rfl))
  (try simp only [Act.put, List.setIfInBounds_toArray, List.set_cons_zero, List.set_cons_succ])
  refine wpAnyH_take (i := 11) (oi := ({ dst := some 23, op := Op.fieldAddr 26 (Operand.tmp 3) 0, type := 0, pos := "l4_undoing.go:42", after := #[{ on := 10, ground := Ground.guard }], guard := some (10, false) } : Oper)) (v := undef) rfl (by kernel_rfl) (by kernel_rfl) (by kernel_rfl) (fun _ _ _ h => h) (Or.inr ⟨by rfl, rfl⟩) hHeld ?rest11
  (try simp only [Act.put, List.setIfInBounds_toArray, List.set_cons_zero, List.set_cons_succ])
  refine wpAnyH_take (i := 12) (oi := ({ dst := some 24, op := Op.load 23 (Operand.tmp 23), type := 23, pos := "l4_undoing.go:42", after := #[{ on := 11, ground := Ground.data }, { on := 10, ground := Ground.guard }], guard := some (10, false) } : Oper)) (v := undef) rfl (by kernel_rfl) (by kernel_rfl) (by kernel_rfl) (fun _ _ _ h => h) (Or.inr ⟨by rfl, rfl⟩) hHeld ?rest12
  (try simp only [Act.put, List.setIfInBounds_toArray, List.set_cons_zero, List.set_cons_succ])
  refine wpAnyH_take (i := 13) (oi := ({ dst := some 25, op := Op.move (Operand.tmp 2), type := 3, pos := "l4_undoing.go:42", after := #[{ on := 10, ground := Ground.guard }], guard := some (10, false) } : Oper)) (v := undef) rfl (by kernel_rfl) (by kernel_rfl) (by kernel_rfl) (fun _ _ _ h => h) (Or.inr ⟨by rfl, rfl⟩) hHeld ?rest13
  (try simp only [Act.put, List.setIfInBounds_toArray, List.set_cons_zero, List.set_cons_succ])
  refine wpAnyH_take (i := 14) (oi := ({ dst := some 26, op := Op.call { callee := Callee.value (Operand.func 36), args := #[Operand.tmp 24, Operand.tmp 25], argTypes := #[23, 3] }, type := 4, pos := "l4_undoing.go:42", after := #[{ on := 12, ground := Ground.data }, { on := 13, ground := Ground.data }, { on := 10, ground := Ground.chain }, { on := 10, ground := Ground.guard }], guard := some (10, false) } : Oper)) (v := undef) rfl (by kernel_rfl) (by kernel_rfl) (by kernel_rfl) (fun _ _ _ h => h) (Or.inr ⟨by rfl, rfl⟩) hHeld ?rest14
  (try simp only [Act.put, List.setIfInBounds_toArray, List.set_cons_zero, List.set_cons_succ])
  refine wpAnyH_take (i := 15) (oi := ({ dst := some 27, op := Op.unOp UnOp.not 4 (Operand.tmp 26), type := 4, pos := "l4_undoing.go:42", after := #[{ on := 14, ground := Ground.data }, { on := 10, ground := Ground.guard }], guard := some (10, false) } : Oper)) (v := undef) rfl (by kernel_rfl) (by kernel_rfl) (by kernel_rfl) (fun _ _ _ h => h) (Or.inr ⟨by rfl, rfl⟩) hHeld ?rest15
  (try simp only [Act.put, List.setIfInBounds_toArray, List.set_cons_zero, List.set_cons_succ])
  refine wpAnyH_take (i := 16) (oi := ({ dst := some 28, op := Op.pick (Operand.tmp 22) (Operand.const (Value.bool true)) (Operand.tmp 27), type := 4, pos := "l4_undoing.go:42", after := #[{ on := 10, ground := Ground.data }, { on := 15, ground := Ground.data }], guard := none } : Oper)) (v := ?v16) rfl (by kernel_rfl) (by kernel_rfl) (by kernel_rfl) (fun _ _ _ h => h) (Or.inl ⟨by rfl, ?hy16⟩) hHeld ?rest16
  case hy16 => (intro w hSw; (try dsimp only at hSw); go_simp; (try with_reducible rfl))
  (try simp only [Act.put, List.setIfInBounds_toArray, List.set_cons_zero, List.set_cons_succ])
  refine wpAnyH_take (i := 17) (oi := ({ dst := some 29, op := Op.move (Operand.tmp 28), type := 4, pos := "l4_undoing.go:42", after := #[{ on := 16, ground := Ground.data }, { on := 14, ground := Ground.chain }], guard := none } : Oper)) (v := ?v17) rfl (by kernel_rfl) (by kernel_rfl) (by kernel_rfl) (fun _ _ _ h => h) (Or.inl ⟨by rfl, ?hy17⟩) hHeld ?rest17
  case hy17 => (intro w hSw; (try dsimp only at hSw); go_simp; (try with_reducible rfl))
  (try simp only [Act.put, List.setIfInBounds_toArray, List.set_cons_zero, List.set_cons_succ])
  refine wpAnyH_take (i := 18) (oi := ({ dst := some 30, op := Op.fieldAddr 26 (Operand.tmp 3) 0, type := 0, pos := "l4_undoing.go:42", after := #[{ on := 17, ground := Ground.guard }], guard := some (17, false) } : Oper)) (v := undef) rfl (by kernel_rfl) (by kernel_rfl) (by kernel_rfl) (fun _ _ _ h => h) (Or.inr ⟨by rfl, rfl⟩) hHeld ?rest18
  (try simp only [Act.put, List.setIfInBounds_toArray, List.set_cons_zero, List.set_cons_succ])
  refine wpAnyH_take (i := 19) (oi := ({ dst := some 31, op := Op.load 23 (Operand.tmp 30), type := 23, pos := "l4_undoing.go:42", after := #[{ on := 18, ground := Ground.data }, { on := 17, ground := Ground.guard }], guard := some (17, false) } : Oper)) (v := undef) rfl (by kernel_rfl) (by kernel_rfl) (by kernel_rfl) (fun _ _ _ h => h) (Or.inr ⟨by rfl, rfl⟩) hHeld ?rest19
  (try simp only [Act.put, List.setIfInBounds_toArray, List.set_cons_zero, List.set_cons_succ])
  refine wpAnyH_take (i := 20) (oi := ({ dst := some 32, op := Op.move (Operand.tmp 1), type := 3, pos := "l4_undoing.go:42", after := #[{ on := 17, ground := Ground.guard }], guard := some (17, false) } : Oper)) (v := undef) rfl (by kernel_rfl) (by kernel_rfl) (by kernel_rfl) (fun _ _ _ h => h) (Or.inr ⟨by rfl, rfl⟩) hHeld ?rest20
  (try simp only [Act.put, List.setIfInBounds_toArray, List.set_cons_zero, List.set_cons_succ])
  refine wpAnyH_take (i := 21) (oi := ({ dst := some 33, op := Op.call { callee := Callee.value (Operand.func 37), args := #[Operand.tmp 31, Operand.tmp 32], argTypes := #[23, 3] }, type := 3, pos := "l4_undoing.go:42", after := #[{ on := 19, ground := Ground.data }, { on := 20, ground := Ground.data }, { on := 17, ground := Ground.chain }, { on := 17, ground := Ground.guard }], guard := some (17, false) } : Oper)) (v := undef) rfl (by kernel_rfl) (by kernel_rfl) (by kernel_rfl) (fun _ _ _ h => h) (Or.inr ⟨by rfl, rfl⟩) hHeld ?rest21
  (try simp only [Act.put, List.setIfInBounds_toArray, List.set_cons_zero, List.set_cons_succ])
  refine wpAnyH_take (i := 22) (oi := ({ dst := some 34, op := Op.fieldAddr 26 (Operand.tmp 3) 0, type := 0, pos := "l4_undoing.go:42", after := #[{ on := 17, ground := Ground.guard }], guard := some (17, false) } : Oper)) (v := undef) rfl (by kernel_rfl) (by kernel_rfl) (by kernel_rfl) (fun _ _ _ h => h) (Or.inr ⟨by rfl, rfl⟩) hHeld ?rest22
  (try simp only [Act.put, List.setIfInBounds_toArray, List.set_cons_zero, List.set_cons_succ])
  refine wpAnyH_take (i := 23) (oi := ({ dst := some 35, op := Op.load 23 (Operand.tmp 34), type := 23, pos := "l4_undoing.go:42", after := #[{ on := 22, ground := Ground.data }, { on := 17, ground := Ground.guard }], guard := some (17, false) } : Oper)) (v := undef) rfl (by kernel_rfl) (by kernel_rfl) (by kernel_rfl) (fun _ _ _ h => h) (Or.inr ⟨by rfl, rfl⟩) hHeld ?rest23
  (try simp only [Act.put, List.setIfInBounds_toArray, List.set_cons_zero, List.set_cons_succ])
  refine wpAnyH_take (i := 24) (oi := ({ dst := some 36, op := Op.move (Operand.tmp 2), type := 3, pos := "l4_undoing.go:42", after := #[{ on := 17, ground := Ground.guard }], guard := some (17, false) } : Oper)) (v := undef) rfl (by kernel_rfl) (by kernel_rfl) (by kernel_rfl) (fun _ _ _ h => h) (Or.inr ⟨by rfl, rfl⟩) hHeld ?rest24
  (try simp only [Act.put, List.setIfInBounds_toArray, List.set_cons_zero, List.set_cons_succ])
  refine wpAnyH_take (i := 25) (oi := ({ dst := some 37, op := Op.call { callee := Callee.value (Operand.func 37), args := #[Operand.tmp 35, Operand.tmp 36], argTypes := #[23, 3] }, type := 3, pos := "l4_undoing.go:42", after := #[{ on := 23, ground := Ground.data }, { on := 24, ground := Ground.data }, { on := 21, ground := Ground.chain }, { on := 17, ground := Ground.guard }], guard := some (17, false) } : Oper)) (v := undef) rfl (by kernel_rfl) (by kernel_rfl) (by kernel_rfl) (fun _ _ _ h => h) (Or.inr ⟨by rfl, rfl⟩) hHeld ?rest25
  (try simp only [Act.put, List.setIfInBounds_toArray, List.set_cons_zero, List.set_cons_succ])
  refine wpAnyH_take (i := 26) (oi := ({ dst := some 38, op := Op.binOp BinOp.eql 3 (Operand.tmp 33) (Operand.tmp 37) 3, type := 4, pos := "l4_undoing.go:42", after := #[{ on := 21, ground := Ground.data }, { on := 25, ground := Ground.data }, { on := 17, ground := Ground.guard }], guard := some (17, false) } : Oper)) (v := undef) rfl (by kernel_rfl) (by kernel_rfl) (by kernel_rfl) (fun _ _ _ h => h) (Or.inr ⟨by rfl, rfl⟩) hHeld ?rest26
  (try simp only [Act.put, List.setIfInBounds_toArray, List.set_cons_zero, List.set_cons_succ])
  refine wpAnyH_take (i := 27) (oi := ({ dst := some 39, op := Op.pick (Operand.tmp 29) (Operand.const (Value.bool true)) (Operand.tmp 38), type := 4, pos := "l4_undoing.go:42", after := #[{ on := 17, ground := Ground.data }, { on := 26, ground := Ground.data }], guard := none } : Oper)) (v := ?v27) rfl (by kernel_rfl) (by kernel_rfl) (by kernel_rfl) (fun _ _ _ h => h) (Or.inl ⟨by rfl, ?hy27⟩) hHeld ?rest27
  case hy27 => (intro w hSw; (try dsimp only at hSw); go_simp; (try with_reducible rfl))
  (try simp only [Act.put, List.setIfInBounds_toArray, List.set_cons_zero, List.set_cons_succ])
  refine wpAnyH_done (by kernel_rfl) ?_ _
  refine NoPanic.normal ?_
  have hbz := hHeld.1
  have hRz := (hbz.block R (by have := HF.out.2.2; have := HW.out.2.2.2; omega)).trans HF.out.2.1
  obtain ⟨⟨r1, r2⟩, f1, f2⟩ := boxTwo_cells hRz
  have HZ := Lib.hid (And.intro hRz (Below.on HF.out.1 hbz))
  clear hRz hbz
  go_wp2_with fail
  obtain ⟨⟨k1, k2⟩, _⟩ := boxTwo_cells (boxTwo_set HZ.out.1 (.slice none 0 0) (.slice none 0 0))
  refine bodyPost_ret (v := .tuple #[.agg #[.slice none 0 0, .slice none 0 0], .bool false]) (by simp [results, Try.results8, go_sem, k1, k2]) rfl ?_
  exact ⟨rfl, boxTwo_below HZ.out.2 (by have := HW.out.2.2.2; omega) _ _⟩
set_option maxRecDepth 100000 in
set_option maxHeartbeats 8000000 in
theorem specJoinLog_no2 (A1 A2 : Option Addr) (n c1 m c2 B0 : Nat) (a b : Int) (xs : List Int) (ss : List (Int × Int)) (w : World) (h1 : Rd w B0 A1 n xs) (h2 : RdQ w B0 A2 m ss) (hB0 : B0 ≤ w.heap.size) (hb1 : n ≤ 1048576) (hb2 : m ≤ 1048576) (hv : logV xs ss = true) (hi : itemB xs a = false) :
    Calls Try.prog 8 #[.agg #[.slice A1 n c1, .slice A2 m c2], .int .i64 a, .int .i64 b] w fun e w' => e = .returned (.tuple #[.agg #[.slice none 0 0, .slice none 0 0], .bool false]) ∧ Below w.heap.size w w' := by
  obtain ⟨W1, hW1⟩ : ∃ W1, W1 = w.alloc (.cells #[.slice A1 n c1, .slice A2 m c2] 26) := ⟨_, rfl⟩
  obtain ⟨W, hW⟩ : ∃ W, W = W1.alloc (.cells #[.slice none 0 0, .slice none 0 0] 26) := ⟨_, rfl⟩
  have e1 : W1.heap.size = w.heap.size + 1 := by rw [hW1]; simp
  have eW : W.heap.size = w.heap.size + 2 := by rw [hW]; simp [e1]
  have hA : W1.heap[w.heap.size]? = some (.cells #[.slice A1 n c1, .slice A2 m c2] 26 (0, 0)) := by rw [hW1]; exact World.alloc_heap_new w _
  have hAW : W.heap[w.heap.size]? = some (.cells #[.slice A1 n c1, .slice A2 m c2] 26 (0, 0)) := by rw [hW]; exact (Below.heap_alloc _ _ _ (by omega)).trans hA
  have hRW : W.heap[w.heap.size + 1]? = some (.cells #[.slice none 0 0, .slice none 0 0] 26 (0, 0)) := by rw [hW, ← e1]; exact World.alloc_heap_new W1 _
  have hbW : Below w.heap.size w W := by rw [hW, hW1]; exact ((Below.refl _ _).alloc (Nat.le_refl _) _).alloc (by simp) _
  have h1W := h1.below hbW hB0
  have h2W := h2.below hbW hB0
  have hBW : B0 ≤ W.heap.size := Nat.le_trans hB0 hbW.size
  have LV := fun (w8 : World) (h8 : Below W.heap.size W w8) => specLogV_any A1 A2 n c1 m c2 B0 xs ss w8 (h1W.below h8 hBW) (h2W.below h8 hBW) (Nat.le_trans hBW h8.size) hb1 hb2
  have ITA := fun (w8 : World) (h8 : Below W.heap.size W w8) => l1Item_any A1 n c1 B0 xs a w8 (h1W.below h8 hBW) (Nat.le_trans hBW h8.size) hb1
  have ITB := fun (w8 : World) (h8 : Below W.heap.size W w8) => l1Item_any A1 n c1 B0 xs b w8 (h1W.below h8 hBW) (Nat.le_trans hBW h8.size) hb1
  rw [hv] at LV
  rw [hi] at ITA
  have LV := Lib.hid LV
  have ITA := Lib.hid ITA
  have ITB := Lib.hid ITB
  obtain ⟨P, hP⟩ : ∃ P, P = w.heap.size := ⟨_, rfl⟩
  obtain ⟨R, hR⟩ : ∃ R, R = w.heap.size + 1 := ⟨_, rfl⟩
  rw [← hP] at hAW
  rw [← hR] at hRW
  obtain ⟨k1, k2⟩ := (boxTwo_cells hAW).1
  have HW := Lib.hid (And.intro hW (And.intro hW1 (And.intro hP hR)))
  have HF := Lib.hid (And.intro hbW (And.intro hRW eW))
  clear h1 h2 hB0 hb1 hb2 hW1 hW e1 eW hA hAW hRW hbW h1W h2W hBW hP hR hv hi
  have hbb : Below W.heap.size W W := Below.refl _ _
  go_enter Try.func8, Try.ntmps8
  go_wp2_with fail
  rw [← HW.out.2.1, ← HW.out.1, ← HW.out.2.2.2, ← HW.out.2.2.1]
  refine wp_region_noPanic ?_
  refine wp_region_held_drew (S := (fun w' => Below W.heap.size W w' ∧ w'.cell? ⟨P, 0, none⟩ = some (.slice A1 n c1) ∧ w'.cell? ⟨P, 1, none⟩ = some (.slice A2 m c2))) (by kernel_rfl) ?_ (fun hHeld => ?_)
  · first | assumption | exact held2_drew ⟨by assumption, by assumption, by assumption⟩
  refine wpAnyH_take (i := 0) (oi := ({ dst := some 12, op := Op.load 26 (Operand.tmp 3), type := 26, pos := "l4_undoing.go:42", after := #[], guard := none } : Oper)) (v := ?v28) rfl (by kernel_rfl) (by kernel_rfl) (by kernel_rfl) (fun _ _ _ h => h) (Or.inl ⟨by rfl, ?hy28⟩) hHeld ?rest28
  case hy28 => (intro w hSw; (try dsimp only at hSw); go_simp; (try with_reducible rfl))
  (try simp only [Act.put, List.setIfInBounds_toArray, List.set_cons_zero, List.set_cons_succ])
  refine wpAnyH_ready (rs := [1]) (by kernel_rfl) (by simp) ?_
  refine AllReadyH.cons (o := ({ dst := some 13, op := Op.call { callee := Callee.value (Operand.func 35), args := #[Operand.tmp 12], argTypes := #[26] }, type := 4, pos := "l4_undoing.go:42", after := #[{ on := 0, ground := Ground.data }], guard := none } : Oper)) rfl (fun K hK => ?_) AllReadyH.nil
  go_simp
  go_at_call 35
  refine (LV.out _ hHeld.1).mono ?_
  rintro e w8 ⟨rfl, hb8⟩
  (try go_wp2_with fail)
  refine hK.out _ _ ?_ (fun hHeld => ?_)
  · first | assumption | exact held2_call (by assumption) (by assumption) (Below.size (And.left (by assumption)))
  clear hK K
  (try simp only [Act.put, List.setIfInBounds_toArray, List.set_cons_zero, List.set_cons_succ])
  refine wpAnyH_take (i := 2) (oi := ({ dst := some 14, op := Op.unOp UnOp.not 4 (Operand.tmp 13), type := 4, pos := "l4_undoing.go:42", after := #[{ on := 1, ground := Ground.data }], guard := none } : Oper)) (v := ?v29) rfl (by kernel_rfl) (by kernel_rfl) (by kernel_rfl) (fun _ _ _ h => h) (Or.inl ⟨by rfl, ?hy29⟩) hHeld ?rest29
  case hy29 => (intro w hSw; (try dsimp only at hSw); go_simp; (try with_reducible rfl))
  (try simp only [Act.put, List.setIfInBounds_toArray, List.set_cons_zero, List.set_cons_succ])
  refine wpAnyH_take (i := 3) (oi := ({ dst := some 15, op := Op.move (Operand.tmp 14), type := 4, pos := "l4_undoing.go:42", after := #[{ on := 2, ground := Ground.data }, { on := 1, ground := Ground.chain }], guard := none } : Oper)) (v := ?v30) rfl (by kernel_rfl) (by kernel_rfl) (by kernel_rfl) (fun _ _ _ h => h) (Or.inl ⟨by rfl, ?hy30⟩) hHeld ?rest30
  case hy30 => (intro w hSw; (try dsimp only at hSw); go_simp; (try with_reducible rfl))
  (try simp only [Act.put, List.setIfInBounds_toArray, List.set_cons_zero, List.set_cons_succ])
  refine wpAnyH_take (i := 4) (oi := ({ dst := some 16, op := Op.fieldAddr 26 (Operand.tmp 3) 0, type := 0, pos := "l4_undoing.go:42", after := #[{ on := 3, ground := Ground.guard }], guard := some (3, false) } : Oper)) (v := ?v31) rfl (by kernel_rfl) (by kernel_rfl) (by kernel_rfl) (fun _ _ _ h => h) (Or.inl ⟨by rfl, ?hy31⟩) hHeld ?rest31
  case hy31 => (intro w hSw; (try dsimp only at hSw); go_simp; (try with_reducible rfl))
  (try simp only [Act.put, List.setIfInBounds_toArray, List.set_cons_zero, List.set_cons_succ])
  refine wpAnyH_take (i := 5) (oi := ({ dst := some 17, op := Op.load 23 (Operand.tmp 16), type := 23, pos := "l4_undoing.go:42", after := #[{ on := 4, ground := Ground.data }, { on := 3, ground := Ground.guard }], guard := some (3, false) } : Oper)) (v := ?v32) rfl (by kernel_rfl) (by kernel_rfl) (by kernel_rfl) (fun _ _ _ h => h) (Or.inl ⟨by rfl, ?hy32⟩) hHeld ?rest32
  case hy32 => (intro w hSw; (try dsimp only at hSw); go_simp; (try with_reducible rfl))
  (try simp only [Act.put, List.setIfInBounds_toArray, List.set_cons_zero, List.set_cons_succ])
  refine wpAnyH_take (i := 6) (oi := ({ dst := some 18, op := Op.move (Operand.tmp 1), type := 3, pos := "l4_undoing.go:42", after := #[{ on := 3, ground := Ground.guard }], guard := some (3, false) } : Oper)) (v := ?v33) rfl (by kernel_rfl) (by kernel_rfl) (by kernel_rfl) (fun _ _ _ h => h) (Or.inl ⟨by rfl, ?hy33⟩) hHeld ?rest33
  case hy33 => (intro w hSw; (try dsimp only at hSw); go_simp; (try with_reducible rfl))
  (try simp only [Act.put, List.setIfInBounds_toArray, List.set_cons_zero, List.set_cons_succ])
  refine wpAnyH_ready (rs := [7]) (by kernel_rfl) (by simp) ?_
  refine AllReadyH.cons (o := ({ dst := some 19, op := Op.call { callee := Callee.value (Operand.func 36), args := #[Operand.tmp 17, Operand.tmp 18], argTypes := #[23, 3] }, type := 4, pos := "l4_undoing.go:42", after := #[{ on := 5, ground := Ground.data }, { on := 6, ground := Ground.data }, { on := 3, ground := Ground.chain }, { on := 3, ground := Ground.guard }], guard := some (3, false) } : Oper)) rfl (fun K hK => ?_) AllReadyH.nil
  go_simp
  go_at_call 36
  refine (ITA.out _ hHeld.1).mono ?_
  rintro e w8 ⟨rfl, hb8⟩
  (try go_wp2_with fail)
  refine hK.out _ _ ?_ (fun hHeld => ?_)
  · first | assumption | exact held2_call (by assumption) (by assumption) (Below.size (And.left (by assumption)))
  clear hK K
  (try simp only [Act.put, List.setIfInBounds_toArray, List.set_cons_zero, List.set_cons_succ])
  refine wpAnyH_take (i := 8) (oi := ({ dst := some 20, op := Op.unOp UnOp.not 4 (Operand.tmp 19), type := 4, pos := "l4_undoing.go:42", after := #[{ on := 7, ground := Ground.data }, { on := 3, ground := Ground.guard }], guard := some (3, false) } : Oper)) (v := ?v34) rfl (by kernel_rfl) (by kernel_rfl) (by kernel_rfl) (fun _ _ _ h => h) (Or.inl ⟨by rfl, ?hy34⟩) hHeld ?rest34
  case hy34 => (intro w hSw; (try dsimp only at hSw); go_simp; (try with_reducible rfl))
  (try simp only [Act.put, List.setIfInBounds_toArray, List.set_cons_zero, List.set_cons_succ])
  refine wpAnyH_take (i := 9) (oi := ({ dst := some 21, op := Op.pick (Operand.tmp 15) (Operand.const (Value.bool true)) (Operand.tmp 20), type := 4, pos := "l4_undoing.go:42", after := #[{ on := 3, ground := Ground.data }, { on := 8, ground := Ground.data }], guard := none } : Oper)) (v := ?v35) rfl (by kernel_rfl) (by kernel_rfl) (by kernel_rfl) (fun _ _ _ h => h) (Or.inl ⟨by rfl, ?hy35⟩) hHeld ?rest35
  case hy35 => (intro w hSw; (try dsimp only at hSw); go_simp; (try with_reducible rfl))
  (try simp only [Act.put, List.setIfInBounds_toArray, List.set_cons_zero, List.set_cons_succ])
  refine wpAnyH_take (i := 10) (oi := ({ dst := some 22, op := Op.move (Operand.tmp 21), type := 4, pos := "l4_undoing.go:42", after := #[{ on := 9, ground := Ground.data }, { on := 7, ground := Ground.chain }], guard := none } : Oper)) (v := ?v36) rfl (by kernel_rfl) (by kernel_rfl) (by kernel_rfl) (fun _ _ _ h => h) (Or.inl ⟨by rfl, ?hy36⟩) hHeld ?rest36
  case hy36 => (intro w hSw; (try dsimp only at hSw); go_simp; (try with_reducible rfl))
  (try simp only [Act.put, List.setIfInBounds_toArray, List.set_cons_zero, List.set_cons_succ])
  refine wpAnyH_take (i := 11) (oi := ({ dst := some 23, op := Op.fieldAddr 26 (Operand.tmp 3) 0, type := 0, pos := "l4_undoing.go:42", after := #[{ on := 10, ground := Ground.guard }], guard := some (10, false) } : Oper)) (v := undef) rfl (by kernel_rfl) (by kernel_rfl) (by kernel_rfl) (fun _ _ _ h => h) (Or.inr ⟨by rfl, rfl⟩) hHeld ?rest37
  (try simp only [Act.put, List.setIfInBounds_toArray, List.set_cons_zero, List.set_cons_succ])
  refine wpAnyH_take (i := 12) (oi := ({ dst := some 24, op := Op.load 23 (Operand.tmp 23), type := 23, pos := "l4_undoing.go:42", after := #[{ on := 11, ground := Ground.data }, { on := 10, ground := Ground.guard }], guard := some (10, false) } : Oper)) (v := undef) rfl (by kernel_rfl) (by kernel_rfl) (by kernel_rfl) (fun _ _ _ h => h) (Or.inr ⟨by rfl, rfl⟩) hHeld ?rest38
  (try simp only [Act.put, List.setIfInBounds_toArray, List.set_cons_zero, List.set_cons_succ])
  refine wpAnyH_take (i := 13) (oi := ({ dst := some 25, op := Op.move (Operand.tmp 2), type := 3, pos := "l4_undoing.go:42", after := #[{ on := 10, ground := Ground.guard }], guard := some (10, false) } : Oper)) (v := undef) rfl (by kernel_rfl) (by kernel_rfl) (by kernel_rfl) (fun _ _ _ h => h) (Or.inr ⟨by rfl, rfl⟩) hHeld ?rest39
  (try simp only [Act.put, List.setIfInBounds_toArray, List.set_cons_zero, List.set_cons_succ])
  refine wpAnyH_take (i := 14) (oi := ({ dst := some 26, op := Op.call { callee := Callee.value (Operand.func 36), args := #[Operand.tmp 24, Operand.tmp 25], argTypes := #[23, 3] }, type := 4, pos := "l4_undoing.go:42", after := #[{ on := 12, ground := Ground.data }, { on := 13, ground := Ground.data }, { on := 10, ground := Ground.chain }, { on := 10, ground := Ground.guard }], guard := some (10, false) } : Oper)) (v := undef) rfl (by kernel_rfl) (by kernel_rfl) (by kernel_rfl) (fun _ _ _ h => h) (Or.inr ⟨by rfl, rfl⟩) hHeld ?rest40
  (try simp only [Act.put, List.setIfInBounds_toArray, List.set_cons_zero, List.set_cons_succ])
  refine wpAnyH_take (i := 15) (oi := ({ dst := some 27, op := Op.unOp UnOp.not 4 (Operand.tmp 26), type := 4, pos := "l4_undoing.go:42", after := #[{ on := 14, ground := Ground.data }, { on := 10, ground := Ground.guard }], guard := some (10, false) } : Oper)) (v := undef) rfl (by kernel_rfl) (by kernel_rfl) (by kernel_rfl) (fun _ _ _ h => h) (Or.inr ⟨by rfl, rfl⟩) hHeld ?rest41
  (try simp only [Act.put, List.setIfInBounds_toArray, List.set_cons_zero, List.set_cons_succ])
  refine wpAnyH_take (i := 16) (oi := ({ dst := some 28, op := Op.pick (Operand.tmp 22) (Operand.const (Value.bool true)) (Operand.tmp 27), type := 4, pos := "l4_undoing.go:42", after := #[{ on := 10, ground := Ground.data }, { on := 15, ground := Ground.data }], guard := none } : Oper)) (v := ?v42) rfl (by kernel_rfl) (by kernel_rfl) (by kernel_rfl) (fun _ _ _ h => h) (Or.inl ⟨by rfl, ?hy42⟩) hHeld ?rest42
  case hy42 => (intro w hSw; (try dsimp only at hSw); go_simp; (try with_reducible rfl))
  (try simp only [Act.put, List.setIfInBounds_toArray, List.set_cons_zero, List.set_cons_succ])
  refine wpAnyH_take (i := 17) (oi := ({ dst := some 29, op := Op.move (Operand.tmp 28), type := 4, pos := "l4_undoing.go:42", after := #[{ on := 16, ground := Ground.data }, { on := 14, ground := Ground.chain }], guard := none } : Oper)) (v := ?v43) rfl (by kernel_rfl) (by kernel_rfl) (by kernel_rfl) (fun _ _ _ h => h) (Or.inl ⟨by rfl, ?hy43⟩) hHeld ?rest43
  case hy43 => (intro w hSw; (try dsimp only at hSw); go_simp; (try with_reducible rfl))
  (try simp only [Act.put, List.setIfInBounds_toArray, List.set_cons_zero, List.set_cons_succ])
  refine wpAnyH_take (i := 18) (oi := ({ dst := some 30, op := Op.fieldAddr 26 (Operand.tmp 3) 0, type := 0, pos := "l4_undoing.go:42", after := #[{ on := 17, ground := Ground.guard }], guard := some (17, false) } : Oper)) (v := undef) rfl (by kernel_rfl) (by kernel_rfl) (by kernel_rfl) (fun _ _ _ h => h) (Or.inr ⟨by rfl, rfl⟩) hHeld ?rest44
  (try simp only [Act.put, List.setIfInBounds_toArray, List.set_cons_zero, List.set_cons_succ])
  refine wpAnyH_take (i := 19) (oi := ({ dst := some 31, op := Op.load 23 (Operand.tmp 30), type := 23, pos := "l4_undoing.go:42", after := #[{ on := 18, ground := Ground.data }, { on := 17, ground := Ground.guard }], guard := some (17, false) } : Oper)) (v := undef) rfl (by kernel_rfl) (by kernel_rfl) (by kernel_rfl) (fun _ _ _ h => h) (Or.inr ⟨by rfl, rfl⟩) hHeld ?rest45
  (try simp only [Act.put, List.setIfInBounds_toArray, List.set_cons_zero, List.set_cons_succ])
  refine wpAnyH_take (i := 20) (oi := ({ dst := some 32, op := Op.move (Operand.tmp 1), type := 3, pos := "l4_undoing.go:42", after := #[{ on := 17, ground := Ground.guard }], guard := some (17, false) } : Oper)) (v := undef) rfl (by kernel_rfl) (by kernel_rfl) (by kernel_rfl) (fun _ _ _ h => h) (Or.inr ⟨by rfl, rfl⟩) hHeld ?rest46
  (try simp only [Act.put, List.setIfInBounds_toArray, List.set_cons_zero, List.set_cons_succ])
  refine wpAnyH_take (i := 21) (oi := ({ dst := some 33, op := Op.call { callee := Callee.value (Operand.func 37), args := #[Operand.tmp 31, Operand.tmp 32], argTypes := #[23, 3] }, type := 3, pos := "l4_undoing.go:42", after := #[{ on := 19, ground := Ground.data }, { on := 20, ground := Ground.data }, { on := 17, ground := Ground.chain }, { on := 17, ground := Ground.guard }], guard := some (17, false) } : Oper)) (v := undef) rfl (by kernel_rfl) (by kernel_rfl) (by kernel_rfl) (fun _ _ _ h => h) (Or.inr ⟨by rfl, rfl⟩) hHeld ?rest47
  (try simp only [Act.put, List.setIfInBounds_toArray, List.set_cons_zero, List.set_cons_succ])
  refine wpAnyH_take (i := 22) (oi := ({ dst := some 34, op := Op.fieldAddr 26 (Operand.tmp 3) 0, type := 0, pos := "l4_undoing.go:42", after := #[{ on := 17, ground := Ground.guard }], guard := some (17, false) } : Oper)) (v := undef) rfl (by kernel_rfl) (by kernel_rfl) (by kernel_rfl) (fun _ _ _ h => h) (Or.inr ⟨by rfl, rfl⟩) hHeld ?rest48
  (try simp only [Act.put, List.setIfInBounds_toArray, List.set_cons_zero, List.set_cons_succ])
  refine wpAnyH_take (i := 23) (oi := ({ dst := some 35, op := Op.load 23 (Operand.tmp 34), type := 23, pos := "l4_undoing.go:42", after := #[{ on := 22, ground := Ground.data }, { on := 17, ground := Ground.guard }], guard := some (17, false) } : Oper)) (v := undef) rfl (by kernel_rfl) (by kernel_rfl) (by kernel_rfl) (fun _ _ _ h => h) (Or.inr ⟨by rfl, rfl⟩) hHeld ?rest49
  (try simp only [Act.put, List.setIfInBounds_toArray, List.set_cons_zero, List.set_cons_succ])
  refine wpAnyH_take (i := 24) (oi := ({ dst := some 36, op := Op.move (Operand.tmp 2), type := 3, pos := "l4_undoing.go:42", after := #[{ on := 17, ground := Ground.guard }], guard := some (17, false) } : Oper)) (v := undef) rfl (by kernel_rfl) (by kernel_rfl) (by kernel_rfl) (fun _ _ _ h => h) (Or.inr ⟨by rfl, rfl⟩) hHeld ?rest50
  (try simp only [Act.put, List.setIfInBounds_toArray, List.set_cons_zero, List.set_cons_succ])
  refine wpAnyH_take (i := 25) (oi := ({ dst := some 37, op := Op.call { callee := Callee.value (Operand.func 37), args := #[Operand.tmp 35, Operand.tmp 36], argTypes := #[23, 3] }, type := 3, pos := "l4_undoing.go:42", after := #[{ on := 23, ground := Ground.data }, { on := 24, ground := Ground.data }, { on := 21, ground := Ground.chain }, { on := 17, ground := Ground.guard }], guard := some (17, false) } : Oper)) (v := undef) rfl (by kernel_rfl) (by kernel_rfl) (by kernel_rfl) (fun _ _ _ h => h) (Or.inr ⟨by rfl, rfl⟩) hHeld ?rest51
  (try simp only [Act.put, List.setIfInBounds_toArray, List.set_cons_zero, List.set_cons_succ])
  refine wpAnyH_take (i := 26) (oi := ({ dst := some 38, op := Op.binOp BinOp.eql 3 (Operand.tmp 33) (Operand.tmp 37) 3, type := 4, pos := "l4_undoing.go:42", after := #[{ on := 21, ground := Ground.data }, { on := 25, ground := Ground.data }, { on := 17, ground := Ground.guard }], guard := some (17, false) } : Oper)) (v := undef) rfl (by kernel_rfl) (by kernel_rfl) (by kernel_rfl) (fun _ _ _ h => h) (Or.inr ⟨by rfl, rfl⟩) hHeld ?rest52
  (try simp only [Act.put, List.setIfInBounds_toArray, List.set_cons_zero, List.set_cons_succ])
  refine wpAnyH_take (i := 27) (oi := ({ dst := some 39, op := Op.pick (Operand.tmp 29) (Operand.const (Value.bool true)) (Operand.tmp 38), type := 4, pos := "l4_undoing.go:42", after := #[{ on := 17, ground := Ground.data }, { on := 26, ground := Ground.data }], guard := none } : Oper)) (v := ?v53) rfl (by kernel_rfl) (by kernel_rfl) (by kernel_rfl) (fun _ _ _ h => h) (Or.inl ⟨by rfl, ?hy53⟩) hHeld ?rest53
  case hy53 => (intro w hSw; (try dsimp only at hSw); go_simp; (try with_reducible rfl))
  (try simp only [Act.put, List.setIfInBounds_toArray, List.set_cons_zero, List.set_cons_succ])
  refine wpAnyH_done (by kernel_rfl) ?_ _
  refine NoPanic.normal ?_
  have hbz := hHeld.1
  have hRz := (hbz.block R (by have := HF.out.2.2; have := HW.out.2.2.2; omega)).trans HF.out.2.1
  obtain ⟨⟨r1, r2⟩, f1, f2⟩ := boxTwo_cells hRz
  have HZ := Lib.hid (And.intro hRz (Below.on HF.out.1 hbz))
  clear hRz hbz
  go_wp2_with fail
  obtain ⟨⟨k1, k2⟩, _⟩ := boxTwo_cells (boxTwo_set HZ.out.1 (.slice none 0 0) (.slice none 0 0))
  refine bodyPost_ret (v := .tuple #[.agg #[.slice none 0 0, .slice none 0 0], .bool false]) (by simp [results, Try.results8, go_sem, k1, k2]) rfl ?_
  exact ⟨rfl, boxTwo_below HZ.out.2 (by have := HW.out.2.2.2; omega) _ _⟩
set_option maxRecDepth 100000 in
set_option maxHeartbeats 8000000 in
theorem specJoinLog_no3 (A1 A2 : Option Addr) (n c1 m c2 B0 : Nat) (a b : Int) (xs : List Int) (ss : List (Int × Int)) (w : World) (h1 : Rd w B0 A1 n xs) (h2 : RdQ w B0 A2 m ss) (hB0 : B0 ≤ w.heap.size) (hb1 : n ≤ 1048576) (hb2 : m ≤ 1048576) (hv : logV xs ss = true) (hi : itemB xs a = true) (hj : itemB xs b = false) :
    Calls Try.prog 8 #[.agg #[.slice A1 n c1, .slice A2 m c2], .int .i64 a, .int .i64 b] w fun e w' => e = .returned (.tuple #[.agg #[.slice none 0 0, .slice none 0 0], .bool false]) ∧ Below w.heap.size w w' := by
  obtain ⟨W1, hW1⟩ : ∃ W1, W1 = w.alloc (.cells #[.slice A1 n c1, .slice A2 m c2] 26) := ⟨_, rfl⟩
  obtain ⟨W, hW⟩ : ∃ W, W = W1.alloc (.cells #[.slice none 0 0, .slice none 0 0] 26) := ⟨_, rfl⟩
  have e1 : W1.heap.size = w.heap.size + 1 := by rw [hW1]; simp
  have eW : W.heap.size = w.heap.size + 2 := by rw [hW]; simp [e1]
  have hA : W1.heap[w.heap.size]? = some (.cells #[.slice A1 n c1, .slice A2 m c2] 26 (0, 0)) := by rw [hW1]; exact World.alloc_heap_new w _
  have hAW : W.heap[w.heap.size]? = some (.cells #[.slice A1 n c1, .slice A2 m c2] 26 (0, 0)) := by rw [hW]; exact (Below.heap_alloc _ _ _ (by omega)).trans hA
  have hRW : W.heap[w.heap.size + 1]? = some (.cells #[.slice none 0 0, .slice none 0 0] 26 (0, 0)) := by rw [hW, ← e1]; exact World.alloc_heap_new W1 _
  have hbW : Below w.heap.size w W := by rw [hW, hW1]; exact ((Below.refl _ _).alloc (Nat.le_refl _) _).alloc (by simp) _
  have h1W := h1.below hbW hB0
  have h2W := h2.below hbW hB0
  have hBW : B0 ≤ W.heap.size := Nat.le_trans hB0 hbW.size
  have LV := fun (w8 : World) (h8 : Below W.heap.size W w8) => specLogV_any A1 A2 n c1 m c2 B0 xs ss w8 (h1W.below h8 hBW) (h2W.below h8 hBW) (Nat.le_trans hBW h8.size) hb1 hb2
  have ITA := fun (w8 : World) (h8 : Below W.heap.size W w8) => l1Item_any A1 n c1 B0 xs a w8 (h1W.below h8 hBW) (Nat.le_trans hBW h8.size) hb1
  have ITB := fun (w8 : World) (h8 : Below W.heap.size W w8) => l1Item_any A1 n c1 B0 xs b w8 (h1W.below h8 hBW) (Nat.le_trans hBW h8.size) hb1
  rw [hv] at LV
  rw [hi] at ITA
  rw [hj] at ITB
  have LV := Lib.hid LV
  have ITA := Lib.hid ITA
  have ITB := Lib.hid ITB
  obtain ⟨P, hP⟩ : ∃ P, P = w.heap.size := ⟨_, rfl⟩
  obtain ⟨R, hR⟩ : ∃ R, R = w.heap.size + 1 := ⟨_, rfl⟩
  rw [← hP] at hAW
  rw [← hR] at hRW
  obtain ⟨k1, k2⟩ := (boxTwo_cells hAW).1
  have HW := Lib.hid (And.intro hW (And.intro hW1 (And.intro hP hR)))
  have HF := Lib.hid (And.intro hbW (And.intro hRW eW))
  clear h1 h2 hB0 hb1 hb2 hW1 hW e1 eW hA hAW hRW hbW h1W h2W hBW hP hR hv hi hj
  have hbb : Below W.heap.size W W := Below.refl _ _
  go_enter Try.func8, Try.ntmps8
  go_wp2_with fail
  rw [← HW.out.2.1, ← HW.out.1, ← HW.out.2.2.2, ← HW.out.2.2.1]
  refine wp_region_noPanic ?_
  refine wp_region_held_drew (S := (fun w' => Below W.heap.size W w' ∧ w'.cell? ⟨P, 0, none⟩ = some (.slice A1 n c1) ∧ w'.cell? ⟨P, 1, none⟩ = some (.slice A2 m c2))) (by kernel_rfl) ?_ (fun hHeld => ?_)
  · first | assumption | exact held2_drew ⟨by assumption, by assumption, by assumption⟩
  refine wpAnyH_take (i := 0) (oi := ({ dst := some 12, op := Op.load 26 (Operand.tmp 3), type := 26, pos := "l4_undoing.go:42", after := #[], guard := none } : Oper)) (v := ?v54) rfl (by kernel_rfl) (by kernel_rfl) (by kernel_rfl) (fun _ _ _ h => h) (Or.inl ⟨by rfl, ?hy54⟩) hHeld ?rest54
  case hy54 => (intro w hSw; (try dsimp only at hSw); go_simp; (try with_reducible rfl))
  (try simp only [Act.put, List.setIfInBounds_toArray, List.set_cons_zero, List.set_cons_succ])
  refine wpAnyH_ready (rs := [1]) (by kernel_rfl) (by simp) ?_
  refine AllReadyH.cons (o := ({ dst := some 13, op := Op.call { callee := Callee.value (Operand.func 35), args := #[Operand.tmp 12], argTypes := #[26] }, type := 4, pos := "l4_undoing.go:42", after := #[{ on := 0, ground := Ground.data }], guard := none } : Oper)) rfl (fun K hK => ?_) AllReadyH.nil
  go_simp
  go_at_call 35
  refine (LV.out _ hHeld.1).mono ?_
  rintro e w8 ⟨rfl, hb8⟩
  (try go_wp2_with fail)
  refine hK.out _ _ ?_ (fun hHeld => ?_)
  · first | assumption | exact held2_call (by assumption) (by assumption) (Below.size (And.left (by assumption)))
  clear hK K
  (try simp only [Act.put, List.setIfInBounds_toArray, List.set_cons_zero, List.set_cons_succ])
  refine wpAnyH_take (i := 2) (oi := ({ dst := some 14, op := Op.unOp UnOp.not 4 (Operand.tmp 13), type := 4, pos := "l4_undoing.go:42", after := #[{ on := 1, ground := Ground.data }], guard := none } : Oper)) (v := ?v55) rfl (by kernel_rfl) (by kernel_rfl) (by kernel_rfl) (fun _ _ _ h => h) (Or.inl ⟨by rfl, ?hy55⟩) hHeld ?rest55
  case hy55 => (intro w hSw; (try dsimp only at hSw); go_simp; (try with_reducible rfl))
  (try simp only [Act.put, List.setIfInBounds_toArray, List.set_cons_zero, List.set_cons_succ])
  refine wpAnyH_take (i := 3) (oi := ({ dst := some 15, op := Op.move (Operand.tmp 14), type := 4, pos := "l4_undoing.go:42", after := #[{ on := 2, ground := Ground.data }, { on := 1, ground := Ground.chain }], guard := none } : Oper)) (v := ?v56) rfl (by kernel_rfl) (by kernel_rfl) (by kernel_rfl) (fun _ _ _ h => h) (Or.inl ⟨by rfl, ?hy56⟩) hHeld ?rest56
  case hy56 => (intro w hSw; (try dsimp only at hSw); go_simp; (try with_reducible rfl))
  (try simp only [Act.put, List.setIfInBounds_toArray, List.set_cons_zero, List.set_cons_succ])
  refine wpAnyH_take (i := 4) (oi := ({ dst := some 16, op := Op.fieldAddr 26 (Operand.tmp 3) 0, type := 0, pos := "l4_undoing.go:42", after := #[{ on := 3, ground := Ground.guard }], guard := some (3, false) } : Oper)) (v := ?v57) rfl (by kernel_rfl) (by kernel_rfl) (by kernel_rfl) (fun _ _ _ h => h) (Or.inl ⟨by rfl, ?hy57⟩) hHeld ?rest57
  case hy57 => (intro w hSw; (try dsimp only at hSw); go_simp; (try with_reducible rfl))
  (try simp only [Act.put, List.setIfInBounds_toArray, List.set_cons_zero, List.set_cons_succ])
  refine wpAnyH_take (i := 5) (oi := ({ dst := some 17, op := Op.load 23 (Operand.tmp 16), type := 23, pos := "l4_undoing.go:42", after := #[{ on := 4, ground := Ground.data }, { on := 3, ground := Ground.guard }], guard := some (3, false) } : Oper)) (v := ?v58) rfl (by kernel_rfl) (by kernel_rfl) (by kernel_rfl) (fun _ _ _ h => h) (Or.inl ⟨by rfl, ?hy58⟩) hHeld ?rest58
  case hy58 => (intro w hSw; (try dsimp only at hSw); go_simp; (try with_reducible rfl))
  (try simp only [Act.put, List.setIfInBounds_toArray, List.set_cons_zero, List.set_cons_succ])
  refine wpAnyH_take (i := 6) (oi := ({ dst := some 18, op := Op.move (Operand.tmp 1), type := 3, pos := "l4_undoing.go:42", after := #[{ on := 3, ground := Ground.guard }], guard := some (3, false) } : Oper)) (v := ?v59) rfl (by kernel_rfl) (by kernel_rfl) (by kernel_rfl) (fun _ _ _ h => h) (Or.inl ⟨by rfl, ?hy59⟩) hHeld ?rest59
  case hy59 => (intro w hSw; (try dsimp only at hSw); go_simp; (try with_reducible rfl))
  (try simp only [Act.put, List.setIfInBounds_toArray, List.set_cons_zero, List.set_cons_succ])
  refine wpAnyH_ready (rs := [7]) (by kernel_rfl) (by simp) ?_
  refine AllReadyH.cons (o := ({ dst := some 19, op := Op.call { callee := Callee.value (Operand.func 36), args := #[Operand.tmp 17, Operand.tmp 18], argTypes := #[23, 3] }, type := 4, pos := "l4_undoing.go:42", after := #[{ on := 5, ground := Ground.data }, { on := 6, ground := Ground.data }, { on := 3, ground := Ground.chain }, { on := 3, ground := Ground.guard }], guard := some (3, false) } : Oper)) rfl (fun K hK => ?_) AllReadyH.nil
  go_simp
  go_at_call 36
  refine (ITA.out _ hHeld.1).mono ?_
  rintro e w8 ⟨rfl, hb8⟩
  (try go_wp2_with fail)
  refine hK.out _ _ ?_ (fun hHeld => ?_)
  · first | assumption | exact held2_call (by assumption) (by assumption) (Below.size (And.left (by assumption)))
  clear hK K
  (try simp only [Act.put, List.setIfInBounds_toArray, List.set_cons_zero, List.set_cons_succ])
  refine wpAnyH_take (i := 8) (oi := ({ dst := some 20, op := Op.unOp UnOp.not 4 (Operand.tmp 19), type := 4, pos := "l4_undoing.go:42", after := #[{ on := 7, ground := Ground.data }, { on := 3, ground := Ground.guard }], guard := some (3, false) } : Oper)) (v := ?v60) rfl (by kernel_rfl) (by kernel_rfl) (by kernel_rfl) (fun _ _ _ h => h) (Or.inl ⟨by rfl, ?hy60⟩) hHeld ?rest60
  case hy60 => (intro w hSw; (try dsimp only at hSw); go_simp; (try with_reducible rfl))
  (try simp only [Act.put, List.setIfInBounds_toArray, List.set_cons_zero, List.set_cons_succ])
  refine wpAnyH_take (i := 9) (oi := ({ dst := some 21, op := Op.pick (Operand.tmp 15) (Operand.const (Value.bool true)) (Operand.tmp 20), type := 4, pos := "l4_undoing.go:42", after := #[{ on := 3, ground := Ground.data }, { on := 8, ground := Ground.data }], guard := none } : Oper)) (v := ?v61) rfl (by kernel_rfl) (by kernel_rfl) (by kernel_rfl) (fun _ _ _ h => h) (Or.inl ⟨by rfl, ?hy61⟩) hHeld ?rest61
  case hy61 => (intro w hSw; (try dsimp only at hSw); go_simp; (try with_reducible rfl))
  (try simp only [Act.put, List.setIfInBounds_toArray, List.set_cons_zero, List.set_cons_succ])
  refine wpAnyH_take (i := 10) (oi := ({ dst := some 22, op := Op.move (Operand.tmp 21), type := 4, pos := "l4_undoing.go:42", after := #[{ on := 9, ground := Ground.data }, { on := 7, ground := Ground.chain }], guard := none } : Oper)) (v := ?v62) rfl (by kernel_rfl) (by kernel_rfl) (by kernel_rfl) (fun _ _ _ h => h) (Or.inl ⟨by rfl, ?hy62⟩) hHeld ?rest62
  case hy62 => (intro w hSw; (try dsimp only at hSw); go_simp; (try with_reducible rfl))
  (try simp only [Act.put, List.setIfInBounds_toArray, List.set_cons_zero, List.set_cons_succ])
  refine wpAnyH_take (i := 11) (oi := ({ dst := some 23, op := Op.fieldAddr 26 (Operand.tmp 3) 0, type := 0, pos := "l4_undoing.go:42", after := #[{ on := 10, ground := Ground.guard }], guard := some (10, false) } : Oper)) (v := ?v63) rfl (by kernel_rfl) (by kernel_rfl) (by kernel_rfl) (fun _ _ _ h => h) (Or.inl ⟨by rfl, ?hy63⟩) hHeld ?rest63
  case hy63 => (intro w hSw; (try dsimp only at hSw); go_simp; (try with_reducible rfl))
  (try simp only [Act.put, List.setIfInBounds_toArray, List.set_cons_zero, List.set_cons_succ])
  refine wpAnyH_take (i := 12) (oi := ({ dst := some 24, op := Op.load 23 (Operand.tmp 23), type := 23, pos := "l4_undoing.go:42", after := #[{ on := 11, ground := Ground.data }, { on := 10, ground := Ground.guard }], guard := some (10, false) } : Oper)) (v := ?v64) rfl (by kernel_rfl) (by kernel_rfl) (by kernel_rfl) (fun _ _ _ h => h) (Or.inl ⟨by rfl, ?hy64⟩) hHeld ?rest64
  case hy64 => (intro w hSw; (try dsimp only at hSw); go_simp; (try with_reducible rfl))
  (try simp only [Act.put, List.setIfInBounds_toArray, List.set_cons_zero, List.set_cons_succ])
  refine wpAnyH_take (i := 13) (oi := ({ dst := some 25, op := Op.move (Operand.tmp 2), type := 3, pos := "l4_undoing.go:42", after := #[{ on := 10, ground := Ground.guard }], guard := some (10, false) } : Oper)) (v := ?v65) rfl (by kernel_rfl) (by kernel_rfl) (by kernel_rfl) (fun _ _ _ h => h) (Or.inl ⟨by rfl, ?hy65⟩) hHeld ?rest65
  case hy65 => (intro w hSw; (try dsimp only at hSw); go_simp; (try with_reducible rfl))
  (try simp only [Act.put, List.setIfInBounds_toArray, List.set_cons_zero, List.set_cons_succ])
  refine wpAnyH_ready (rs := [14]) (by kernel_rfl) (by simp) ?_
  refine AllReadyH.cons (o := ({ dst := some 26, op := Op.call { callee := Callee.value (Operand.func 36), args := #[Operand.tmp 24, Operand.tmp 25], argTypes := #[23, 3] }, type := 4, pos := "l4_undoing.go:42", after := #[{ on := 12, ground := Ground.data }, { on := 13, ground := Ground.data }, { on := 10, ground := Ground.chain }, { on := 10, ground := Ground.guard }], guard := some (10, false) } : Oper)) rfl (fun K hK => ?_) AllReadyH.nil
  go_simp
  go_at_call 36
  refine (ITB.out _ hHeld.1).mono ?_
  rintro e w8 ⟨rfl, hb8⟩
  (try go_wp2_with fail)
  refine hK.out _ _ ?_ (fun hHeld => ?_)
  · first | assumption | exact held2_call (by assumption) (by assumption) (Below.size (And.left (by assumption)))
  clear hK K
  (try simp only [Act.put, List.setIfInBounds_toArray, List.set_cons_zero, List.set_cons_succ])
  refine wpAnyH_take (i := 15) (oi := ({ dst := some 27, op := Op.unOp UnOp.not 4 (Operand.tmp 26), type := 4, pos := "l4_undoing.go:42", after := #[{ on := 14, ground := Ground.data }, { on := 10, ground := Ground.guard }], guard := some (10, false) } : Oper)) (v := ?v66) rfl (by kernel_rfl) (by kernel_rfl) (by kernel_rfl) (fun _ _ _ h => h) (Or.inl ⟨by rfl, ?hy66⟩) hHeld ?rest66
  case hy66 => (intro w hSw; (try dsimp only at hSw); go_simp; (try with_reducible rfl))
  (try simp only [Act.put, List.setIfInBounds_toArray, List.set_cons_zero, List.set_cons_succ])
  refine wpAnyH_take (i := 16) (oi := ({ dst := some 28, op := Op.pick (Operand.tmp 22) (Operand.const (Value.bool true)) (Operand.tmp 27), type := 4, pos := "l4_undoing.go:42", after := #[{ on := 10, ground := Ground.data }, { on := 15, ground := Ground.data }], guard := none } : Oper)) (v := ?v67) rfl (by kernel_rfl) (by kernel_rfl) (by kernel_rfl) (fun _ _ _ h => h) (Or.inl ⟨by rfl, ?hy67⟩) hHeld ?rest67
  case hy67 => (intro w hSw; (try dsimp only at hSw); go_simp; (try with_reducible rfl))
  (try simp only [Act.put, List.setIfInBounds_toArray, List.set_cons_zero, List.set_cons_succ])
  refine wpAnyH_take (i := 17) (oi := ({ dst := some 29, op := Op.move (Operand.tmp 28), type := 4, pos := "l4_undoing.go:42", after := #[{ on := 16, ground := Ground.data }, { on := 14, ground := Ground.chain }], guard := none } : Oper)) (v := ?v68) rfl (by kernel_rfl) (by kernel_rfl) (by kernel_rfl) (fun _ _ _ h => h) (Or.inl ⟨by rfl, ?hy68⟩) hHeld ?rest68
  case hy68 => (intro w hSw; (try dsimp only at hSw); go_simp; (try with_reducible rfl))
  (try simp only [Act.put, List.setIfInBounds_toArray, List.set_cons_zero, List.set_cons_succ])
  refine wpAnyH_take (i := 18) (oi := ({ dst := some 30, op := Op.fieldAddr 26 (Operand.tmp 3) 0, type := 0, pos := "l4_undoing.go:42", after := #[{ on := 17, ground := Ground.guard }], guard := some (17, false) } : Oper)) (v := undef) rfl (by kernel_rfl) (by kernel_rfl) (by kernel_rfl) (fun _ _ _ h => h) (Or.inr ⟨by rfl, rfl⟩) hHeld ?rest69
  (try simp only [Act.put, List.setIfInBounds_toArray, List.set_cons_zero, List.set_cons_succ])
  refine wpAnyH_take (i := 19) (oi := ({ dst := some 31, op := Op.load 23 (Operand.tmp 30), type := 23, pos := "l4_undoing.go:42", after := #[{ on := 18, ground := Ground.data }, { on := 17, ground := Ground.guard }], guard := some (17, false) } : Oper)) (v := undef) rfl (by kernel_rfl) (by kernel_rfl) (by kernel_rfl) (fun _ _ _ h => h) (Or.inr ⟨by rfl, rfl⟩) hHeld ?rest70
  (try simp only [Act.put, List.setIfInBounds_toArray, List.set_cons_zero, List.set_cons_succ])
  refine wpAnyH_take (i := 20) (oi := ({ dst := some 32, op := Op.move (Operand.tmp 1), type := 3, pos := "l4_undoing.go:42", after := #[{ on := 17, ground := Ground.guard }], guard := some (17, false) } : Oper)) (v := undef) rfl (by kernel_rfl) (by kernel_rfl) (by kernel_rfl) (fun _ _ _ h => h) (Or.inr ⟨by rfl, rfl⟩) hHeld ?rest71
  (try simp only [Act.put, List.setIfInBounds_toArray, List.set_cons_zero, List.set_cons_succ])
  refine wpAnyH_take (i := 21) (oi := ({ dst := some 33, op := Op.call { callee := Callee.value (Operand.func 37), args := #[Operand.tmp 31, Operand.tmp 32], argTypes := #[23, 3] }, type := 3, pos := "l4_undoing.go:42", after := #[{ on := 19, ground := Ground.data }, { on := 20, ground := Ground.data }, { on := 17, ground := Ground.chain }, { on := 17, ground := Ground.guard }], guard := some (17, false) } : Oper)) (v := undef) rfl (by kernel_rfl) (by kernel_rfl) (by kernel_rfl) (fun _ _ _ h => h) (Or.inr ⟨by rfl, rfl⟩) hHeld ?rest72
  (try simp only [Act.put, List.setIfInBounds_toArray, List.set_cons_zero, List.set_cons_succ])
  refine wpAnyH_take (i := 22) (oi := ({ dst := some 34, op := Op.fieldAddr 26 (Operand.tmp 3) 0, type := 0, pos := "l4_undoing.go:42", after := #[{ on := 17, ground := Ground.guard }], guard := some (17, false) } : Oper)) (v := undef) rfl (by kernel_rfl) (by kernel_rfl) (by kernel_rfl) (fun _ _ _ h => h) (Or.inr ⟨by rfl, rfl⟩) hHeld ?rest73
  (try simp only [Act.put, List.setIfInBounds_toArray, List.set_cons_zero, List.set_cons_succ])
  refine wpAnyH_take (i := 23) (oi := ({ dst := some 35, op := Op.load 23 (Operand.tmp 34), type := 23, pos := "l4_undoing.go:42", after := #[{ on := 22, ground := Ground.data }, { on := 17, ground := Ground.guard }], guard := some (17, false) } : Oper)) (v := undef) rfl (by kernel_rfl) (by kernel_rfl) (by kernel_rfl) (fun _ _ _ h => h) (Or.inr ⟨by rfl, rfl⟩) hHeld ?rest74
  (try simp only [Act.put, List.setIfInBounds_toArray, List.set_cons_zero, List.set_cons_succ])
  refine wpAnyH_take (i := 24) (oi := ({ dst := some 36, op := Op.move (Operand.tmp 2), type := 3, pos := "l4_undoing.go:42", after := #[{ on := 17, ground := Ground.guard }], guard := some (17, false) } : Oper)) (v := undef) rfl (by kernel_rfl) (by kernel_rfl) (by kernel_rfl) (fun _ _ _ h => h) (Or.inr ⟨by rfl, rfl⟩) hHeld ?rest75
  (try simp only [Act.put, List.setIfInBounds_toArray, List.set_cons_zero, List.set_cons_succ])
  refine wpAnyH_take (i := 25) (oi := ({ dst := some 37, op := Op.call { callee := Callee.value (Operand.func 37), args := #[Operand.tmp 35, Operand.tmp 36], argTypes := #[23, 3] }, type := 3, pos := "l4_undoing.go:42", after := #[{ on := 23, ground := Ground.data }, { on := 24, ground := Ground.data }, { on := 21, ground := Ground.chain }, { on := 17, ground := Ground.guard }], guard := some (17, false) } : Oper)) (v := undef) rfl (by kernel_rfl) (by kernel_rfl) (by kernel_rfl) (fun _ _ _ h => h) (Or.inr ⟨by rfl, rfl⟩) hHeld ?rest76
  (try simp only [Act.put, List.setIfInBounds_toArray, List.set_cons_zero, List.set_cons_succ])
  refine wpAnyH_take (i := 26) (oi := ({ dst := some 38, op := Op.binOp BinOp.eql 3 (Operand.tmp 33) (Operand.tmp 37) 3, type := 4, pos := "l4_undoing.go:42", after := #[{ on := 21, ground := Ground.data }, { on := 25, ground := Ground.data }, { on := 17, ground := Ground.guard }], guard := some (17, false) } : Oper)) (v := undef) rfl (by kernel_rfl) (by kernel_rfl) (by kernel_rfl) (fun _ _ _ h => h) (Or.inr ⟨by rfl, rfl⟩) hHeld ?rest77
  (try simp only [Act.put, List.setIfInBounds_toArray, List.set_cons_zero, List.set_cons_succ])
  refine wpAnyH_take (i := 27) (oi := ({ dst := some 39, op := Op.pick (Operand.tmp 29) (Operand.const (Value.bool true)) (Operand.tmp 38), type := 4, pos := "l4_undoing.go:42", after := #[{ on := 17, ground := Ground.data }, { on := 26, ground := Ground.data }], guard := none } : Oper)) (v := ?v78) rfl (by kernel_rfl) (by kernel_rfl) (by kernel_rfl) (fun _ _ _ h => h) (Or.inl ⟨by rfl, ?hy78⟩) hHeld ?rest78
  case hy78 => (intro w hSw; (try dsimp only at hSw); go_simp; (try with_reducible rfl))
  (try simp only [Act.put, List.setIfInBounds_toArray, List.set_cons_zero, List.set_cons_succ])
  refine wpAnyH_done (by kernel_rfl) ?_ _
  refine NoPanic.normal ?_
  have hbz := hHeld.1
  have hRz := (hbz.block R (by have := HF.out.2.2; have := HW.out.2.2.2; omega)).trans HF.out.2.1
  obtain ⟨⟨r1, r2⟩, f1, f2⟩ := boxTwo_cells hRz
  have HZ := Lib.hid (And.intro hRz (Below.on HF.out.1 hbz))
  clear hRz hbz
  go_wp2_with fail
  obtain ⟨⟨k1, k2⟩, _⟩ := boxTwo_cells (boxTwo_set HZ.out.1 (.slice none 0 0) (.slice none 0 0))
  refine bodyPost_ret (v := .tuple #[.agg #[.slice none 0 0, .slice none 0 0], .bool false]) (by simp [results, Try.results8, go_sem, k1, k2]) rfl ?_
  exact ⟨rfl, boxTwo_below HZ.out.2 (by have := HW.out.2.2.2; omega) _ _⟩
set_option maxRecDepth 100000 in
set_option maxHeartbeats 8000000 in
theorem specJoinLog_same (A1 A2 : Option Addr) (n c1 m c2 B0 a b : Nat) (xs : List Int) (ss : List (Int × Int)) (w : World) (h1 : Rd w B0 A1 n xs) (h2 : RdQ w B0 A2 m ss) (hB0 : B0 ≤ w.heap.size) (hb2 : m ≤ 1000) (hv : logV xs ss = true) (ha : a < n) (hb : b < n) (hab : rootI xs a = rootI xs b) :
    Calls Try.prog 8 #[.agg #[.slice A1 n c1, .slice A2 m c2], .int .i64 (a : Int), .int .i64 (b : Int)] w fun e w' => e = .returned (.tuple #[.agg #[.slice none 0 0, .slice none 0 0], .bool false]) ∧ Below w.heap.size w w' := by
  obtain ⟨W1, hW1⟩ : ∃ W1, W1 = w.alloc (.cells #[.slice A1 n c1, .slice A2 m c2] 26) := ⟨_, rfl⟩
  obtain ⟨W, hW⟩ : ∃ W, W = W1.alloc (.cells #[.slice none 0 0, .slice none 0 0] 26) := ⟨_, rfl⟩
  have e1 : W1.heap.size = w.heap.size + 1 := by rw [hW1]; simp
  have eW : W.heap.size = w.heap.size + 2 := by rw [hW]; simp [e1]
  have hA : W1.heap[w.heap.size]? = some (.cells #[.slice A1 n c1, .slice A2 m c2] 26 (0, 0)) := by rw [hW1]; exact World.alloc_heap_new w _
  have hAW : W.heap[w.heap.size]? = some (.cells #[.slice A1 n c1, .slice A2 m c2] 26 (0, 0)) := by rw [hW]; exact (Below.heap_alloc _ _ _ (by omega)).trans hA
  have hRW : W.heap[w.heap.size + 1]? = some (.cells #[.slice none 0 0, .slice none 0 0] 26 (0, 0)) := by rw [hW, ← e1]; exact World.alloc_heap_new W1 _
  have hbW : Below w.heap.size w W := by rw [hW, hW1]; exact ((Below.refl _ _).alloc (Nat.le_refl _) _).alloc (by simp) _
  obtain ⟨⟨p1, p16⟩, hbu, hfv⟩ := logV_parts hv
  have hl := h1.1
  have hl2 := h2.1
  have h1W := h1.below hbW hB0
  have h2W := h2.below hbW hB0
  have hBW : B0 ≤ W.heap.size := Nat.le_trans hB0 hbW.size
  have LV := Lib.hid (fun (w8 : World) (h8 : Below W.heap.size W w8) => specLogV_good A1 A2 n c1 m c2 B0 xs ss w8 (h1W.below h8 hBW) (h2W.below h8 hBW) (Nat.le_trans hBW h8.size) (by omega) hv)
  have IT : Hid (∀ (z : Nat), Hid (z < n) → ∀ w8, Below W.heap.size W w8 → Calls Try.prog 36 #[.slice A1 n c1, .int .i64 (z : Int)] w8 fun e w' => e = .returned (.bool true) ∧ Below w8.heap.size w8 w') := fun z hz w8 h8 => by
    have := l1Item_any A1 n c1 B0 xs (z : Int) w8 (h1W.below h8 hBW) (Nat.le_trans hBW h8.size) (by omega)
    rw [item_of hfv (by omega) (by have := hz.out; omega)] at this
    exact this
  obtain ⟨ρ, hρ⟩ : ∃ ρ, ρ = rootI xs := ⟨_, rfl⟩
  have RT : Hid (∀ (z : Nat), Hid (z < n) → ∀ w8, Below W.heap.size W w8 → Calls Try.prog 37 #[.slice A1 n c1, .int .i64 (z : Int)] w8 fun e w' => e = .returned (.int .i64 (ρ z : Int)) ∧ w8 = w') := fun z hz w8 h8 => by
    rw [hρ]
    exact l1Root_any A1 n c1 B0 z xs w8 (h1W.below h8 hBW) hfv hz.out
  have HA := Lib.hid ha
  have HB := Lib.hid hb
  obtain ⟨P, hP⟩ : ∃ P, P = w.heap.size := ⟨_, rfl⟩
  obtain ⟨R, hR⟩ : ∃ R, R = w.heap.size + 1 := ⟨_, rfl⟩
  have hew : W1.heap.size = R := by omega
  rw [← hP] at hAW
  rw [← hR] at hRW
  have hpW := (boxTwo_cells hAW).1
  obtain ⟨k1, k2⟩ := hpW
  have HW := Lib.hid (And.intro hW (And.intro hW1 (And.intro hP (And.intro hR hew))))
  have HF := Lib.hid (And.intro hbW (And.intro hAW (And.intro hRW (And.intro eW (And.intro h1W (And.intro h2W hBW))))))
  have HX := Lib.hid (And.intro hfv (And.intro hl hl2))
  have HP0 := Lib.hid (And.intro p1 p16)
  have hpq : ρ a = ρ b := by rw [hρ]; exact hab
  have t1 : ((ρ a : Int) == (ρ b : Int)) = true := by simp [hpq]
  clear h1 h2 hB0 hb2 hv ha hb hW1 hW e1 eW hA hAW hRW hbW p1 p16 hbu hfv hl hl2 h1W h2W hBW hρ hP hR hew hpq hab
  have hbb : Below W.heap.size W W := Below.refl _ _
  go_enter Try.func8, Try.ntmps8
  go_wp2_with fail
  rw [← HW.out.2.1, ← HW.out.1, ← HW.out.2.2.2.1, ← HW.out.2.2.1]
  go_region_held3 (fun w' => Below W.heap.size W w' ∧ w'.cell? ⟨P, 0, none⟩ = some (.slice A1 n c1) ∧ w'.cell? ⟨P, 1, none⟩ = some (.slice A2 m c2))
    (first | assumption | exact held2_drew ⟨by assumption, by assumption, by assumption⟩ | exact held2_drew (by assumption) | exact held2_call (by assumption) (by assumption) (Below.size (And.left (by assumption))))
    (first | (go_at_call 35; refine (LV.out _ (‹Below W.heap.size W _ ∧ _›).1).mono ?_; rintro e w8 ⟨rfl, hb8⟩) | (go_at_call 36; refine (IT.out _ (by first | exact HA | exact HB) _ (‹Below W.heap.size W _ ∧ _›).1).mono ?_; rintro e w8 ⟨rfl, hb8⟩) | (go_at_call 37; refine (RT.out _ (by first | exact HA | exact HB) _ (‹Below W.heap.size W _ ∧ _›).1).mono ?_; rintro e w8 ⟨rfl, rfl⟩))
  have hbz := (‹Below W.heap.size W _ ∧ _›).1
  have hRz := (hbz.block R (by have := HF.out.2.2.2.1; have := HW.out.2.2.2.1; omega)).trans HF.out.2.2.1
  obtain ⟨⟨r1, r2⟩, f1, f2⟩ := boxTwo_cells hRz
  have HZ := Lib.hid (And.intro hRz (Below.on HF.out.1 hbz))
  clear hRz hbz
  go_wp2_with fail
  obtain ⟨⟨k1, k2⟩, _⟩ := boxTwo_cells (boxTwo_set HZ.out.1 (.slice none 0 0) (.slice none 0 0))
  refine bodyPost_ret (v := .tuple #[.agg #[.slice none 0 0, .slice none 0 0], .bool false]) (by simp [results, Try.results8, go_sem, k1, k2]) rfl ?_
  exact ⟨rfl, boxTwo_below HZ.out.2 (by have := HW.out.2.2.2.1; omega) _ _⟩
theorem jlB_item {xs : List Int} {ss : List (Int × Int)} (hv : logV xs ss = true) (a b : Nat) (ia : itemB xs (a : Int) = true) (ib : itemB xs (b : Int) = true) : jlB xs ss (a : Int) (b : Int) = !decide (rootI xs a = rootI xs b) := by
  unfold jlB
  rw [hv, ia, ib, rootN_yes ia, rootN_yes ib]
  by_cases e : rootI xs a = rootI xs b
  · simp [e]
  · rw [decide_eq_false e, decide_eq_false (by omega)]
    rfl
theorem specJoinLog_any (A1 A2 : Option Addr) (n c1 m c2 B0 : Nat) (a b : Int) (xs : List Int) (ss : List (Int × Int)) (w : World) (h1 : Rd w B0 A1 n xs) (h2 : RdQ w B0 A2 m ss) (hB0 : B0 ≤ w.heap.size) (hb1 : n ≤ 1048576) (hb2 : m ≤ 1048576) (hsh : logV xs ss = true → m ≤ 1000) :
    Calls Try.prog 8 #[.agg #[.slice A1 n c1, .slice A2 m c2], .int .i64 a, .int .i64 b] w fun e w' => ∃ v v2, e = .returned (.tuple #[.agg #[v, v2], .bool (jlB xs ss a b)]) ∧ Own w' w.heap.size v (jlUp xs ss a b) ∧ OwnQ 68 w' w.heap.size v2 (jlSt xs ss a b) ∧ Below w.heap.size w w' := by
  have no : jlB xs ss a b = false → Calls Try.prog 8 #[.agg #[.slice A1 n c1, .slice A2 m c2], .int .i64 a, .int .i64 b] w (fun e w' => e = .returned (.tuple #[.agg #[.slice none 0 0, .slice none 0 0], .bool false]) ∧ Below w.heap.size w w') → Calls Try.prog 8 #[.agg #[.slice A1 n c1, .slice A2 m c2], .int .i64 a, .int .i64 b] w fun e w' => ∃ v v2, e = .returned (.tuple #[.agg #[v, v2], .bool (jlB xs ss a b)]) ∧ Own w' w.heap.size v (jlUp xs ss a b) ∧ OwnQ 68 w' w.heap.size v2 (jlSt xs ss a b) ∧ Below w.heap.size w w' := fun hj hc => by
    obtain ⟨g1, g2⟩ := jl_no hj
    rw [hj, g1, g2]
    refine hc.mono ?_
    rintro e w' ⟨rfl, hb⟩
    exact ⟨_, _, rfl, World.ownsRow_nil _ _ _ _, OwnQ.nil _ _ _, hb⟩
  cases hv : logV xs ss with
  | false => exact no (jlB_parts.1 hv) (specJoinLog_no1 A1 A2 n c1 m c2 B0 a b xs ss w h1 h2 hB0 hb1 hb2 hv)
  | true =>
    cases hi : itemB xs a with
    | false => exact no (jlB_parts.2.1 hi) (specJoinLog_no2 A1 A2 n c1 m c2 B0 a b xs ss w h1 h2 hB0 hb1 hb2 hv hi)
    | true =>
      cases hj : itemB xs b with
      | false => exact no (jlB_parts.2.2 hj) (specJoinLog_no3 A1 A2 n c1 m c2 B0 a b xs ss w h1 h2 hB0 hb1 hb2 hv hi hj)
      | true =>
        have hl := h1.1
        have hi' := hi
        have hj' := hj
        unfold itemB at hi' hj'
        simp only [Bool.and_eq_true, decide_eq_true_eq] at hi' hj'
        obtain ⟨a, rfl⟩ : ∃ x : Nat, a = x := ⟨a.toNat, by omega⟩
        obtain ⟨b, rfl⟩ : ∃ x : Nat, b = x := ⟨b.toNat, by omega⟩
        have hJ := jlB_item hv a b hi hj
        by_cases hpq : rootI xs a = rootI xs b
        · rw [decide_eq_true hpq] at hJ
          exact no hJ (specJoinLog_same A1 A2 n c1 m c2 B0 a b xs ss w h1 h2 hB0 (hsh hv) hv (by omega) (by omega) hpq)
        · rw [decide_eq_false hpq] at hJ
          have hJ : jlB xs ss (a : Int) (b : Int) = true := hJ
          have g1 : jlUp xs ss (a : Int) (b : Int) = joinL xs 1 a b := by unfold jlUp; rw [if_pos hJ]; simp
          have g2 : jlSt xs ss (a : Int) (b : Int) = joinSt xs a b ss := by unfold jlSt; rw [if_pos hJ]; simp
          have hc := specJoinLog_good A1 A2 n c1 m c2 B0 a b xs ss w h1 h2 hB0 (hsh hv) hv (by omega) (by omega)
          rw [decide_eq_false hpq] at hc
          rw [hJ, g1, g2]
          refine hc.mono ?_
          rintro e w' ⟨v, v2, rfl, hap, _, hb⟩
          exact ⟨v, v2, rfl, (hap hpq).1, (hap hpq).2, hb⟩
end Go.Proofs.Ytichcnaomcpnhaa
