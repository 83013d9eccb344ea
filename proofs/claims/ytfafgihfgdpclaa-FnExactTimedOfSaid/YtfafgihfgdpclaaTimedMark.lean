/- The exact laws' marks on timed forests. Condition: lengths up to 1048576. -/
import Derived.Test.YtfafgihfgdpclaaTimed
namespace Go.Proofs.Ytfafgihfgdpclaa
open Go.RowKit

set_option maxHeartbeats 2000000 in
theorem markTimed_any (v v2 : Value) (k : Int) (zs ps : List Int) (base : Nat) (w : World) (h : Own w base v zs) (h2 : Own w base v2 ps) (hne : ∀ x, v.ownBlock = some x → ∀ y, v2.ownBlock = some y → x ≠ y) (hb : zs.length ≤ 1048576) (hb2 : ps.length ≤ 1048576) (hk0 : 0 ≤ k) (hk1 : k ≤ 1048576) :
    Calls Try.prog 90 #[.agg #[v, v2], .int .i64 k] w fun e w' => e = .returned (.int .i64 (k + zs.length + ps.length)) ∧ Own w' base v (marks k zs.length) ∧ Own w' base v2 (marks (k + zs.length) ps.length) ∧ Chg (fun i => v.ownBlock = some i ∨ v2.ownBlock = some i) w w' := by
  obtain ⟨A, c, rfl, _⟩ := h.form
  obtain ⟨A2, c2, rfl, _⟩ := h2.form
  obtain ⟨W, hW⟩ : ∃ W, W = w.alloc (.cells #[.slice A zs.length c, .slice A2 ps.length c2] 64) := ⟨_, rfl⟩
  have hb1 : Below w.heap.size w W := by rw [hW]; exact (Below.refl _ _).alloc (Nat.le_refl _) _
  have hB1 : Chg (fun i => (Value.slice A zs.length c).ownBlock = some i ∨ (Value.slice A2 ps.length c2).ownBlock = some i) w W := by rw [hW]; exact (Chg.refl _ w).alloc _
  have hWs : W.heap.size = w.heap.size + 1 := by rw [hW]; simp
  have cW : W.cell? ⟨w.heap.size, 1, none⟩ = some (.slice A2 ps.length c2) := by
    rw [hW]
    unfold World.cell?
    rw [heap_alloc_new w]
    rfl
  have M1 := Lib.hid (markIntS_any _ k zs base W (h.keep hb1 (Nat.le_refl _)) hb hk0 (by omega))
  have hx1 := h.blockOf
  have hx2 := h2.blockOf
  have HO2 := Lib.hid (h2.keep hb1 (Nat.le_refl _))
  have hnn : (Value.slice A2 ps.length c2).ownBlock = none ∨ (Value.slice A2 ps.length c2).ownBlock ≠ (Value.slice A zs.length c).ownBlock := by
    cases e2 : (Value.slice A2 ps.length c2).ownBlock with
    | none => exact .inl rfl
    | some y => exact .inr (fun e => hne y e.symm y e2 rfl)
  have hnn2 : (Value.slice A zs.length c).ownBlock = none ∨ (Value.slice A zs.length c).ownBlock ≠ (Value.slice A2 ps.length c2).ownBlock := by
    cases e2 : (Value.slice A zs.length c).ownBlock with
    | none => exact .inl rfl
    | some y => exact .inr (fun e => hne y e2 y e.symm rfl)
  have HNN := Lib.hid (And.intro hnn hnn2)
  have HX := Lib.hid (And.intro hx1 hx2)
  have HW := Lib.hid hW
  clear h h2 hne hnn hnn2 hx1 hx2 hW hb1
  go_enter Try.func90, Try.ntmps90
  go_wp2_with fail
  rw [← HW.out]
  refine M1.out.mono ?_
  rintro e w2 ⟨rfl, ho, hg⟩
  have hn2 : ¬ (Value.slice A zs.length c).ownBlock = some w.heap.size := fun e => by have := (HX.out.1 _ e).2; omega
  have c2' := (World.cell?_of_block (a := ⟨w.heap.size, 1, none⟩) (hg.block w.heap.size (by omega) (fun e => hn2 e.symm))).trans cW
  have M2 := Lib.hid (markIntS_any _ (k + zs.length) ps base w2 (HO2.out.kept hg HNN.out.1) hb2 (by omega) (by omega))
  have hB2 := hB1.trans ((Chg.mark hg).weak (fun i h => .inl h))
  have HB2 := Lib.hid (And.intro ho hB2)
  clear ho hg hn2 hB1 cW hB2
  go_wp2_with fail
  refine M2.out.mono ?_
  rintro e w3 ⟨rfl, ho3, hg3⟩
  have HE := Lib.hid (And.intro (HB2.out.1.kept hg3 HNN.out.2) (And.intro ho3 (HB2.out.2.trans ((Chg.mark hg3).weak (fun i h => .inr h)))))
  clear ho3 hg3
  go_wp2_with fail
  go_ret
  exact ⟨rfl, HE.out⟩
set_option maxHeartbeats 2000000 in
theorem heldTimed_any (A1 A2 : Option Addr) (n c m c2 : Nat) (k : Int) (w : World) (h1 : Rd w w.heap.size A1 n (marks k n)) (h2 : Rd w w.heap.size A2 m (marks (k + n) m)) (hb : n ≤ 1048576) (hb2 : m ≤ 1048576) (hk0 : 0 ≤ k) (hk1 : k ≤ 1048576) :
    Calls Try.prog 91 #[.agg #[.slice A1 n c, .slice A2 m c2], .int .i64 k] w fun e w' => e = .returned (.int .i64 (k + n + m)) ∧ Below w.heap.size w w' := by
  obtain ⟨W, hW⟩ : ∃ W, W = w.alloc (.cells #[.slice A1 n c, .slice A2 m c2] 64) := ⟨_, rfl⟩
  have hb1 : Below w.heap.size w W := by rw [hW]; exact (Below.refl _ _).alloc (Nat.le_refl _) _
  have E1 := Lib.hid (heldIntS_any A1 n c _ k W (h1.to hb1) hb hk0 (by omega))
  have E2 := Lib.hid (fun (j : Nat) => heldIntS_any A2 m c2 _ (k + n) (W.drewN j) ((h2.to hb1).drewN j) hb2 (by omega) (by omega))
  have t1 : ¬ k + (n : Int) < 0 := by omega
  have t2 : ¬ k + (n : Int) + (m : Int) < 0 := by omega
  have HB := Lib.hid hb1
  have HW := Lib.hid hW
  clear h1 h2 hb1 hW
  go_enter Try.func91, Try.ntmps91
  go_wp2_with fail
  rw [← HW.out]
  refine E1.out.mono ?_
  rintro e w1 ⟨rfl, j, rfl⟩
  have E2 := Lib.hid (E2.out j)
  rw [HW.out]
  go_wp2_with fail
  rw [← HW.out]
  refine E2.out.mono ?_
  rintro e w2 ⟨rfl, j2, rfl⟩
  have HB2 := Lib.hid (below_drewN HB.out (j + j2))
  go_wp2_with fail
  go_ret
  exact ⟨rfl, HB2.out⟩
end Go.Proofs.Ytfafgihfgdpclaa
