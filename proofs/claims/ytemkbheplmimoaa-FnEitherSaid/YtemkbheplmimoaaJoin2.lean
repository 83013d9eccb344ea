/- Which of two roots goes under the other: the three rules of the program. Conditions: the nodes and the members lie in a block each. -/
import Derived.Test.YtemkbheplmimoaaJoin
import Derived.StillTailTactics
namespace Go.Proofs.Ytemkbheplmimoaa
open Go.RowKit Go.Shelf

theorem isNaN_any (a : Int) (w : World) : Calls Try.prog 194 #[.int .i64 a] w fun e w' => e = .returned (.bool false) ∧ w = w' := by
  have h : (a != a) = false := by simp
  go_enter Try.func194, Try.ntmps194
  go_wp2
  go_ret
  exact ⟨rfl, rfl⟩
def cmpI (a b : Int) : Int := if a < b then -1 else if b < a then 1 else 0
set_option maxHeartbeats 1000000 in
theorem compare_any (a b : Int) (w : World) : Calls Try.prog 193 #[.int .i64 a, .int .i64 b] w fun e w' => e = .returned (.int .i64 (cmpI a b)) ∧ w = w' := by
  obtain ⟨r, hr⟩ : ∃ r, r = cmpI a b := ⟨_, rfl⟩
  rw [← hr]
  unfold cmpI at hr
  by_cases h1 : a < b
  · rw [if_pos h1] at hr
    subst hr
    go_enter Try.func193, Try.ntmps193
    go_wp2_with (first | (go_at_call 194; refine (isNaN_any _ _).mono ?_; rintro e w' ⟨rfl, rfl⟩))
    go_ret
    exact ⟨rfl, rfl⟩
  · rw [if_neg h1] at hr
    by_cases h2 : b < a
    · rw [if_pos h2] at hr
      subst hr
      go_enter Try.func193, Try.ntmps193
      go_wp2_with (first | (go_at_call 194; refine (isNaN_any _ _).mono ?_; rintro e w' ⟨rfl, rfl⟩))
      go_ret
      exact ⟨rfl, rfl⟩
    · rw [if_neg h2] at hr
      subst hr
      go_enter Try.func193, Try.ntmps193
      go_wp2_with (first | (go_at_call 194; refine (isNaN_any _ _).mono ?_; rintro e w' ⟨rfl, rfl⟩))
      go_ret
      exact ⟨rfl, rfl⟩
def orI (x y : Int) : Int := if x = 0 then y else x
set_option maxHeartbeats 1000000 in
theorem or_any (b : Nat) (x y : Int) (w : World) (h1 : w.cell? ⟨b, 0, none⟩ = some (.int .i64 x)) (h2 : w.cell? ⟨b, 1, none⟩ = some (.int .i64 y)) : Calls Try.prog 192 #[.slice (some ⟨b, 0, none⟩) 2 2] w fun e w' => e = .returned (.int .i64 (orI x y)) ∧ w = w' := by
  obtain ⟨r, hr⟩ : ∃ r, r = orI x y := ⟨_, rfl⟩
  rw [← hr]
  unfold orI at hr
  have HR := Lib.hid hr
  clear hr
  go_enter Try.func192, Try.ntmps192
  go_wp2
  go_loopw [8] (fun i wr => ∃ k : Nat, k ≤ 2 ∧ i = .int .i64 k ∧ w = wr ∧ Hid ((0 < k → x = 0) ∧ (1 < k → y = 0))) (fun i _ => 2 - (intOf i).toNat)
  case atStart => exact ⟨0, by omega, rfl, rfl, ⟨fun h => absurd h (by omega), fun h => absurd h (by omega)⟩⟩
  case round =>
    obtain ⟨k, hk, rfl, rfl, HZ⟩ := hrel
    rcases (show k = 0 ∨ k = 1 ∨ k = 2 by omega) with rfl | rfl | rfl
    · by_cases hx : x = 0
      · have HZ2 : Hid ((0 < 1 → x = 0) ∧ (1 < 1 → y = 0)) := ⟨fun _ => hx, fun h => absurd h (by omega)⟩
        have hx2 : (x != 0) = false := by simp [hx]
        clear hx HZ
        go_wp2
        go_roundw
        case rel => exact ⟨1, by omega, by go_num, trivial, HZ2⟩
        case measure => simp [intOf]
      · have e : Hid (r = x) := by
          show _ = _
          rw [HR.out, if_neg hx]
        have hx2 : (x != 0) = true := by simp [hx]
        clear hx
        go_wp2
        go_ret
        exact ⟨ret_int e.out.symm, rfl⟩
    · have h0 := HZ.out.1 (by omega)
      have e0 : Hid (r = y) := by
        show _ = _
        rw [HR.out, if_pos h0]
      clear h0
      by_cases hy : y = 0
      · have HZ2 : Hid ((0 < 2 → x = 0) ∧ (1 < 2 → y = 0)) := ⟨fun _ => HZ.out.1 (by omega), fun _ => hy⟩
        have hy2 : (y != 0) = false := by simp [hy]
        clear hy HZ
        go_wp2
        go_roundw
        case rel => exact ⟨2, by omega, by go_num, trivial, HZ2⟩
        case measure => simp [intOf]
      · have hy2 : (y != 0) = true := by simp [hy]
        clear hy
        go_wp2
        go_ret
        exact ⟨ret_int e0.out.symm, rfl⟩
    · have e0 : Hid (r = 0) := by
        show _ = _
        rw [HR.out, if_pos (HZ.out.1 (by omega)), HZ.out.2 (by omega)]
      go_wp2
      go_ret
      exact ⟨ret_int e0.out.symm, rfl⟩

/-- The first has less, or as much and the greater number. -/
def laterB (a b : Int) (p q : Nat) : Bool := decide (orI (cmpI a b) (cmpI (q : Int) (p : Int)) < 0)
theorem two_cells (w : World) (x y : Int) : (w.alloc (.cells #[.int .i64 x, .int .i64 y] 3)).cell? ⟨w.heap.size, 0, none⟩ = some (.int .i64 x) ∧ (w.alloc (.cells #[.int .i64 x, .int .i64 y] 3)).cell? ⟨w.heap.size, 1, none⟩ = some (.int .i64 y) := by
  have h := Own.lit w w.heap.size [x, y] (Nat.le_refl _) (by simp)
  exact ⟨h.slot (k := 0) (by simp), h.slot (k := 1) (by simp)⟩
set_option maxRecDepth 100000 in
set_option maxHeartbeats 4000000 in
theorem lessOrLater_any (M N n p q : Nat) (sz ht : Nat → Nat) (u : List Int) (a b : Int) (w : World) (hm : MemK w M N n n sz ht) (hN : Nd w N u) (hn : u.length = n) (hp : p < n) (hq : q < n) :
    Calls Try.prog 191 #[.pointer (some ⟨M, p * 3, none⟩), .pointer (some ⟨M, q * 3, none⟩), .int .i64 a, .int .i64 b] w fun e w' => e = .returned (.bool (laterB a b p q)) ∧ Below w.heap.size w w' := by
  obtain ⟨⟨c1, _, _⟩, _⟩ := hm.cells hp
  obtain ⟨⟨c2, _, _⟩, _⟩ := hm.cells hq
  rw [if_pos hp] at c1
  rw [if_pos hq] at c2
  obtain ⟨d1, _, _⟩ := hN.cells (x := p) (by omega)
  obtain ⟨d2, _, _⟩ := hN.cells (x := q) (by omega)
  unfold nadr at c1 c2
  have K1 : Calls Try.prog 193 #[.int .i64 a, .int .i64 b] w.drew fun e w' => e = .returned (.int .i64 (cmpI a b)) ∧ w' = w.drew := (compare_any a b w.drew).mono fun _ _ ⟨h1, h2⟩ => ⟨h1, h2.symm⟩
  have K2 : Calls Try.prog 193 #[.int .i64 (q : Int), .int .i64 (p : Int)] w.drew fun e w' => e = .returned (.int .i64 (cmpI (q : Int) (p : Int))) ∧ w' = w.drew := (compare_any (q : Int) (p : Int) w.drew).mono fun _ _ ⟨h1, h2⟩ => ⟨h1, h2.symm⟩
  obtain ⟨r, hr⟩ : ∃ r, r = laterB a b p q := ⟨_, rfl⟩
  rw [← hr]
  have HR := Lib.hid hr
  unfold laterB at HR
  obtain ⟨x, hx⟩ : ∃ x, x = cmpI a b := ⟨_, rfl⟩
  obtain ⟨y, hy⟩ : ∃ y, y = cmpI (q : Int) (p : Int) := ⟨_, rfl⟩
  rw [← hx] at K1 HR
  rw [← hy] at K2 HR
  have T := two_cells w.drew x y
  have OR := Lib.hid (or_any w.drew.heap.size x y _ T.1 T.2)
  obtain ⟨z, hz⟩ : ∃ z, z = orI x y := ⟨_, rfl⟩
  rw [← hz] at OR HR
  have K1 := Lib.hid K1
  have K2 := Lib.hid K2
  clear hm hN hr hx hy hz T
  go_enter Try.func191, Try.ntmps191
  go_wp2
  refine wp_region_still_tail 18 (by kernel_rfl) (by kernel_rfl) ?_
  simp only [List.take_succ_cons, List.take_zero, List.drop_succ_cons, List.drop_zero]
  iterate 2 still_step
  still_call K1.out
  iterate 14 still_step
  still_call K2.out
  refine wpStill_nil ?_
  change wpList _ _ _ _ _ w.drew
  have hbd : Below w.heap.size w (w.drew.alloc (.cells #[.int .i64 x, .int .i64 y] 3)) := (⟨rfl, rfl, rfl, Nat.le_refl _, fun _ _ => rfl⟩ : Below w.heap.size w w.drew).alloc (Nat.le_refl _) _
  have HBD := Lib.hid hbd
  clear hbd c1 c2 d1 d2
  go_wp2_with fail
  refine OR.out.mono ?_
  rintro e w2 ⟨rfl, rfl⟩
  go_wp2
  go_ret
  exact ⟨ret_bool HR.out.symm, HBD.out⟩

theorem cmpI_lt {a b : Int} (h : a < b) : cmpI a b = -1 := by unfold cmpI; rw [if_pos h]
theorem cmpI_gt {a b : Int} (h : b < a) : cmpI a b = 1 := by unfold cmpI; rw [if_neg (by omega), if_pos h]
theorem cmpI_eq (a : Int) : cmpI a a = 0 := by unfold cmpI; rw [if_neg (by omega), if_neg (by omega)]
theorem later_nat (a b p q : Nat) : laterB (a : Int) (b : Int) p q = if a = b then decide (q < p) else decide (a < b) := by
  unfold laterB orI
  rcases Nat.lt_trichotomy a b with h | h | h
  · rw [cmpI_lt (show (a : Int) < (b : Int) by omega), if_neg (by omega), if_neg (by omega), decide_eq_true h]
    rfl
  · subst h
    rw [cmpI_eq, if_pos rfl, if_pos rfl]
    rcases Nat.lt_trichotomy q p with h | h | h
    · rw [cmpI_lt (show (q : Int) < (p : Int) by omega), decide_eq_true h]
      rfl
    · subst h
      rw [cmpI_eq, decide_eq_false (show ¬ q < q by omega)]
      rfl
    · rw [cmpI_gt (show (p : Int) < (q : Int) by omega), decide_eq_false (show ¬ q < p by omega)]
      rfl
  · rw [cmpI_gt (show (b : Int) < (a : Int) by omega), if_neg (by omega), if_neg (by omega), decide_eq_false (show ¬ a < b by omega)]
    rfl
theorem later_size (u : List Int) (p q : Nat) : laterB (szN u p : Int) (szN u q : Int) p q = underB u 1 p q := by
  rw [later_nat]
  rfl
theorem later_height (u : List Int) (p q : Nat) : laterB (htN u p : Int) (htN u q : Int) p q = underB u 2 p q := by
  rw [later_nat]
  rfl
/-- The type of a rule's value. -/
def ruleT (r : Int) : Nat := if r = 0 then 149 else if r = 1 then 117 else 150
def ruleF (r : Int) : Nat := if r = 0 then 195 else if r = 1 then 190 else 196
set_option maxRecDepth 100000 in
set_option maxHeartbeats 4000000 in
theorem plainGoes_any (a b : Option Addr) (w : World) : Calls Try.prog 195 #[.agg #[], .pointer a, .pointer b] w fun e w' => e = .returned (.bool true) ∧ Below w.heap.size w w' := by
  go_enter Try.func195, Try.ntmps195
  go_wp2
  go_ret
  exact ⟨rfl, (Below.refl _ w).alloc (Nat.le_refl _) _⟩
set_option maxRecDepth 100000 in
set_option maxHeartbeats 4000000 in
theorem sizeGoes_any (M N n p q : Nat) (sz ht : Nat → Nat) (u : List Int) (w : World) (hm : MemK w M N n n sz ht) (hN : Nd w N u) (hn : u.length = n) (hp : p < n) (hq : q < n) :
    Calls Try.prog 190 #[.agg #[], .pointer (some ⟨M, p * 3, none⟩), .pointer (some ⟨M, q * 3, none⟩)] w fun e w' => e = .returned (.bool (laterB (sz p : Int) (sz q : Int) p q)) ∧ Below w.heap.size w w' := by
  obtain ⟨⟨_, c1, _⟩, _⟩ := hm.cells hp
  obtain ⟨⟨_, c2, _⟩, _⟩ := hm.cells hq
  have LL := Lib.hid (fun (w2 : World) (hb2 : Below w.heap.size w w2) => lessOrLater_any M N n p q sz ht u (sz p : Int) (sz q : Int) w2 (hm.below hb2 hm.lt) (hN.eq (hb2.block N hN.lt)) hn hp hq)
  obtain ⟨W, hW⟩ : ∃ W, W = w.alloc (.cells #[] 117) := ⟨_, rfl⟩
  have hba : Below w.heap.size w W := by rw [hW]; exact (Below.refl w.heap.size w).alloc (Nat.le_refl _) _
  have g1 := (hba.cell (p := ⟨M, p * 3 + 1, none⟩) hm.lt).trans c1
  have g2 := (hba.cell (p := ⟨M, q * 3 + 1, none⟩) hm.lt).trans c2
  have hbd : Below w.heap.size w W.drew := ⟨hba.os, hba.tape, hba.output, hba.size, hba.block⟩
  have LD := Lib.hid (LL.out W.drew hbd)
  have HBD := Lib.hid hbd
  have HW := Lib.hid hW
  clear hm hN c1 c2 hba hbd hW LL
  go_enter Try.func190, Try.ntmps190
  go_wp2
  rw [← HW.out]
  refine wp_region_still_tail 12 (by kernel_rfl) (by kernel_rfl) ?_
  simp only [List.take_succ_cons, List.take_zero, List.drop_succ_cons, List.drop_zero]
  iterate 12 still_step
  refine wpStill_nil ?_
  change wpList _ _ _ _ _ W.drew
  clear g1 g2 HW
  go_wp2_with fail
  refine LD.out.mono ?_
  rintro e w2 ⟨rfl, hb2⟩
  go_wp2
  go_ret
  exact ⟨rfl, HBD.out.trans (hb2.mono HBD.out.size)⟩
set_option maxRecDepth 100000 in
set_option maxHeartbeats 4000000 in
theorem heightGoes_any (M N n p q : Nat) (sz ht : Nat → Nat) (u : List Int) (w : World) (hm : MemK w M N n n sz ht) (hN : Nd w N u) (hn : u.length = n) (hp : p < n) (hq : q < n) :
    Calls Try.prog 196 #[.agg #[], .pointer (some ⟨M, p * 3, none⟩), .pointer (some ⟨M, q * 3, none⟩)] w fun e w' => e = .returned (.bool (laterB (ht p : Int) (ht q : Int) p q)) ∧ Below w.heap.size w w' := by
  obtain ⟨⟨_, _, c1⟩, _⟩ := hm.cells hp
  obtain ⟨⟨_, _, c2⟩, _⟩ := hm.cells hq
  have LL := Lib.hid (fun (w2 : World) (hb2 : Below w.heap.size w w2) => lessOrLater_any M N n p q sz ht u (ht p : Int) (ht q : Int) w2 (hm.below hb2 hm.lt) (hN.eq (hb2.block N hN.lt)) hn hp hq)
  obtain ⟨W, hW⟩ : ∃ W, W = w.alloc (.cells #[] 150) := ⟨_, rfl⟩
  have hba : Below w.heap.size w W := by rw [hW]; exact (Below.refl w.heap.size w).alloc (Nat.le_refl _) _
  have g1 : W.cell? ⟨M, p * 3 + 1 + 1, none⟩ = some (.int .i64 (ht p : Int)) := (hba.cell (p := ⟨M, p * 3 + 2, none⟩) hm.lt).trans c1
  have g2 : W.cell? ⟨M, q * 3 + 1 + 1, none⟩ = some (.int .i64 (ht q : Int)) := (hba.cell (p := ⟨M, q * 3 + 2, none⟩) hm.lt).trans c2
  have hbd : Below w.heap.size w W.drew := ⟨hba.os, hba.tape, hba.output, hba.size, hba.block⟩
  have LD := Lib.hid (LL.out W.drew hbd)
  have HBD := Lib.hid hbd
  have HW := Lib.hid hW
  clear hm hN c1 c2 hba hbd hW LL
  go_enter Try.func196, Try.ntmps196
  go_wp2
  rw [← HW.out]
  refine wp_region_still_tail 12 (by kernel_rfl) (by kernel_rfl) ?_
  simp only [List.take_succ_cons, List.take_zero, List.drop_succ_cons, List.drop_zero]
  iterate 12 still_step
  refine wpStill_nil ?_
  change wpList _ _ _ _ _ W.drew
  clear g1 g2 HW
  go_wp2_with fail
  refine LD.out.mono ?_
  rintro e w2 ⟨rfl, hb2⟩
  go_wp2
  go_ret
  exact ⟨rfl, HBD.out.trans (hb2.mono HBD.out.size)⟩
end Go.Proofs.Ytemkbheplmimoaa
