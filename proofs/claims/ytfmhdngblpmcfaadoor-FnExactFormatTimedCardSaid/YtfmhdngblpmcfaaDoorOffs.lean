/- Offsets: the exact laws' helpers for them, and OffsetsValid of the specification. Condition: lengths up to 1048576. -/
import Derived.Test.YtfmhdngblpmcfaaDoorLogs
import Derived.Test.YtfmhdngblpmcfaaDoorSpec2
namespace Go.Proofs.YtfmhdngblpmcfaaDoor
open Go.RowKit

/-- Whether an item's difference is valid. -/
def okBy (us bs : List Int) (i : Nat) : Bool := decide (-16000 ≤ bs[i]?.getD 0 ∧ bs[i]?.getD 0 ≤ 16000) && !(decide (us[i]?.getD 0 = (i : Int)) && !decide (bs[i]?.getD 0 = 0))
def offB (us bs : List Int) : Bool := fvB us && decide (bs.length = us.length) && (List.range bs.length).all (okBy us bs)
theorem offB_v {us bs : List Int} (h : fvB us = false) : offB us bs = false := by unfold offB; rw [h]; rfl
theorem offB_l {us bs : List Int} (h : bs.length ≠ us.length) : offB us bs = false := by unfold offB; rw [decide_eq_false h]; simp
theorem offB_bad {us bs : List Int} {k : Nat} (hk : k < bs.length) (h : okBy us bs k = false) : offB us bs = false := by
  cases e : offB us bs with
  | false => rfl
  | true =>
    unfold offB at e
    simp only [Bool.and_eq_true, List.all_eq_true, List.mem_range] at e
    rw [e.2 k hk] at h
    cases h
theorem offB_of {us bs : List Int} (h1 : fvB us = true) (h2 : bs.length = us.length) (h3 : ∀ k, k < bs.length → okBy us bs k = true) : offB us bs = true := by
  unfold offB
  simp only [Bool.and_eq_true, decide_eq_true_eq, List.all_eq_true, List.mem_range]
  exact ⟨⟨h1, h2⟩, h3⟩
theorem offB_parts {us bs : List Int} (h : offB us bs = true) : fvB us = true ∧ bs.length = us.length ∧ ∀ k, k < bs.length → okBy us bs k = true := by
  unfold offB at h
  simp only [Bool.and_eq_true, decide_eq_true_eq, List.all_eq_true, List.mem_range] at h
  exact ⟨h.1.1, h.1.2, h.2⟩

set_option maxHeartbeats 1000000 in
theorem szIntS_any (A : Option Addr) (n c : Nat) (left : Int) (w : World) (hn : n ≤ maxLen) (h0 : 0 ≤ left) (h1 : left ≤ 1048576) :
    Calls Tryd.prog 49 #[.slice A n c, .int .i64 left] w fun e w' => e = .returned (.int .i64 (if left < (n : Int) then -1 else left - n)) ∧ w = w' := by
  obtain ⟨r, hr⟩ : ∃ r, r = if left < (n : Int) then -1 else left - (n : Int) := ⟨_, rfl⟩
  rw [← hr]
  unfold maxLen at hn
  by_cases hl : left < (n : Int)
  · have HR : Hid (r = -1) := by
      show _ = _
      rw [hr, if_pos hl]
    have h3 : left - (n : Int) < 0 := by omega
    clear hr
    go_enter Tryd.func49, Tryd.ntmps49
    go_wp2
    go_ret
    exact ⟨ret_int HR.out.symm, rfl⟩
  · have HR : Hid (r = left - (n : Int)) := by
      show _ = _
      rw [hr, if_neg hl]
    have h3 : ¬ left - (n : Int) < 0 := by omega
    clear hr
    go_enter Tryd.func49, Tryd.ntmps49
    go_wp2
    go_ret
    exact ⟨ret_int HR.out.symm, rfl⟩
/-- Both slices are short enough, or not. -/
theorem szOffsets_any (A1 A2 : Option Addr) (n1 c1 n2 c2 : Nat) (w : World) (hn1 : n1 ≤ maxLen) (hn2 : n2 ≤ maxLen) :
    Calls Tryd.prog 28 #[.agg #[.slice A1 n1 c1, .slice A2 n2 c2], .int .i64 1048576] w fun e w' => e = .returned (.int .i64 (if 1048576 < n1 + n2 then -1 else 1048576 - (n1 : Int) - (n2 : Int))) ∧ Below w.heap.size w w' := by
  obtain ⟨W, hW⟩ : ∃ W, W = w.alloc (.cells #[.slice A1 n1 c1, .slice A2 n2 c2] 53) := ⟨_, rfl⟩
  have hb : Below w.heap.size w W := by rw [hW]; exact (Below.refl _ _).alloc (Nat.le_refl _) _
  have HB := Lib.hid hb
  have HW := Lib.hid hW
  clear hb hW
  by_cases h1 : 1048576 < n1
  · have S1 : Hid (∀ w2, Calls Tryd.prog 49 #[.slice A1 n1 c1, .int .i64 1048576] w2 fun e w' => e = .returned (.int .i64 (-1)) ∧ w2 = w') := fun w2 => by
      have := szIntS_any A1 n1 c1 1048576 w2 hn1 (by decide) (by decide)
      rw [if_pos (by omega)] at this
      exact this
    rw [if_pos (by omega)]
    go_enter Tryd.func28, Tryd.ntmps28
    go_wp2_with fail
    rw [← HW.out]
    refine (S1.out _).mono ?_
    rintro e w1 ⟨rfl, rfl⟩
    go_wp2_with fail
    go_ret
    exact ⟨rfl, HB.out⟩
  · have S1 : Hid (∀ w2, Calls Tryd.prog 49 #[.slice A1 n1 c1, .int .i64 1048576] w2 fun e w' => e = .returned (.int .i64 (1048576 - (n1 : Int))) ∧ w2 = w') := fun w2 => by
      have := szIntS_any A1 n1 c1 1048576 w2 hn1 (by decide) (by decide)
      rw [if_neg (by omega)] at this
      exact this
    have t1 : ¬ (1048576 - (n1 : Int) < 0) := by omega
    by_cases h2 : 1048576 < n1 + n2
    · have S2 : Hid (∀ w2, Calls Tryd.prog 49 #[.slice A2 n2 c2, .int .i64 (1048576 - (n1 : Int))] w2 fun e w' => e = .returned (.int .i64 (-1)) ∧ w2 = w') := fun w2 => by
        have := szIntS_any A2 n2 c2 (1048576 - (n1 : Int)) w2 hn2 (by omega) (by omega)
        rw [if_pos (by omega)] at this
        exact this
      rw [if_pos h2]
      clear h2
      go_enter Tryd.func28, Tryd.ntmps28
      go_wp2_with fail
      refine (S1.out _).mono ?_
      rintro e w1 ⟨rfl, rfl⟩
      go_wp2_with fail
      rw [← HW.out]
      refine (S2.out _).mono ?_
      rintro e w1 ⟨rfl, rfl⟩
      go_wp2_with fail
      go_ret
      exact ⟨rfl, HB.out⟩
    · have S2 : Hid (∀ w2, Calls Tryd.prog 49 #[.slice A2 n2 c2, .int .i64 (1048576 - (n1 : Int))] w2 fun e w' => e = .returned (.int .i64 (1048576 - (n1 : Int) - (n2 : Int))) ∧ w2 = w') := fun w2 => by
        have := szIntS_any A2 n2 c2 (1048576 - (n1 : Int)) w2 hn2 (by omega) (by omega)
        rw [if_neg (by omega)] at this
        exact this
      have t2 : ¬ (1048576 - (n1 : Int) - (n2 : Int) < 0) := by omega
      rw [if_neg h2]
      clear h2
      go_enter Tryd.func28, Tryd.ntmps28
      go_wp2_with fail
      refine (S1.out _).mono ?_
      rintro e w1 ⟨rfl, rfl⟩
      go_wp2_with fail
      rw [← HW.out]
      refine (S2.out _).mono ?_
      rintro e w1 ⟨rfl, rfl⟩
      go_wp2_with fail
      go_ret
      exact ⟨rfl, HB.out⟩
/-- One cell of a box of two. -/
theorem boxTwo_put0 {W : World} {b : Nat} {x y : Value} {t : TypeId} (h : W.heap[b]? = some (.cells #[x, y] t (0, 0))) (a : Value) : (W.setCell ⟨b, 0, none⟩ a).heap[b]? = some (.cells #[a, y] t (0, 0)) := modify_at _ h
theorem boxTwo_put1 {W : World} {b : Nat} {x y : Value} {t : TypeId} (h : W.heap[b]? = some (.cells #[x, y] t (0, 0))) (a : Value) : (W.setCell ⟨b, 1, none⟩ a).heap[b]? = some (.cells #[x, a] t (0, 0)) := modify_at _ h
/-- A store of one cell, told zs growth of its block. -/
theorem put_grown (W : World) (b o : Nat) (v : Value) : W.grownBy (W.setCell ⟨b, o, none⟩ v) (some b) :=
  ⟨rfl, rfl, rfl, by simp [World.setCell], fun _ _ hk => Below.heap_setCell _ _ _ _ (fun e => hk (by rw [e]))⟩
theorem blocks_ne {v v2 : Value} {w w2 : World} {b1 b2 : Nat} {xs ys : List Int} (h1 : Own w b1 v xs) (h2 : Own w2 b2 v2 ys) (hb : w.heap.size ≤ b2) : ∀ x, v.ownBlock = some x → ∀ y, v2.ownBlock = some y → x ≠ y := fun x hx y hy e => by
  have a := (h1.blockOf x hx).2
  have b := (h2.blockOf y hy).1
  omega
set_option maxRecDepth 100000 in
set_option maxHeartbeats 4000000 in
theorem toOffsets_any (A1 A2 : Option Addr) (n1 c1 n2 c2 : Nat) (xs ys : List Int) (w : World) (h1 : Rd w w.heap.size A1 n1 xs) (h2 : Rd w w.heap.size A2 n2 ys) (hb1 : n1 ≤ 1048576) (hb2 : n2 ≤ 1048576) :
    Calls Tryd.prog 30 #[.agg #[.slice A1 n1 c1, .slice A2 n2 c2]] w fun e w' => ∃ v v2, e = .returned (.agg #[v, v2]) ∧ Own w' w.heap.size v xs ∧ Own w' w.heap.size v2 ys ∧ (∀ x, v.ownBlock = some x → ∀ y, v2.ownBlock = some y → x ≠ y) ∧ Below w.heap.size w w' := by
  obtain ⟨W, hW⟩ : ∃ W, W = ((w.alloc (.cells #[.slice A1 n1 c1, .slice A2 n2 c2] 53)).alloc (.cells #[.slice none 0 0, .slice none 0 0] 56)).alloc (.cells #[.slice none 0 0, .slice none 0 0] 56) := ⟨_, rfl⟩
  have hbW : Below w.heap.size w W := by rw [hW]; exact (((Below.refl _ _).alloc (Nat.le_refl _) _).alloc (by simp) _).alloc (by simp; omega) _
  have hsW : W.heap.size = w.heap.size + 3 := by rw [hW]; simp
  obtain ⟨W1, hW1⟩ : ∃ W1, W1 = w.alloc (.cells #[.slice A1 n1 c1, .slice A2 n2 c2] 53) := ⟨_, rfl⟩
  obtain ⟨W2, hW2⟩ : ∃ W2, W2 = W1.alloc (.cells #[.slice none 0 0, .slice none 0 0] 56) := ⟨_, rfl⟩
  have e1 : W1.heap.size = w.heap.size + 1 := by rw [hW1]; simp
  have e2 : W2.heap.size = w.heap.size + 2 := by rw [hW2]; simp [e1]
  have eW : W = W2.alloc (.cells #[.slice none 0 0, .slice none 0 0] 56) := by rw [hW, hW2, hW1]
  have hT : W.heap[w.heap.size + 2]? = some (.cells #[.slice none 0 0, .slice none 0 0] 56 (0, 0)) := by rw [eW, ← e2]; exact World.alloc_heap_new W2 _
  have hR : W.heap[w.heap.size + 1]? = some (.cells #[.slice none 0 0, .slice none 0 0] 56 (0, 0)) := by
    rw [eW]
    refine (Below.heap_alloc _ _ _ (by omega)).trans ?_
    rw [hW2, ← e1]
    exact World.alloc_heap_new W1 _
  have hA : W.heap[w.heap.size]? = some (.cells #[.slice A1 n1 c1, .slice A2 n2 c2] 53 (0, 0)) := by
    rw [eW]
    refine (Below.heap_alloc _ _ _ (by omega)).trans ?_
    rw [hW2]
    refine (Below.heap_alloc _ _ _ (by omega)).trans ?_
    rw [hW1]
    exact World.alloc_heap_new w _
  have T1 := Lib.hid (toIntS_any A1 n1 c1 xs W (h1.to hbW) hb1)
  have T2 := Lib.hid (fun (w2 : World) (hb : Below w.heap.size w w2) => toIntS_any A2 n2 c2 ys w2 (h2.to hb) hb2)
  obtain ⟨P, hP⟩ : ∃ P, P = w.heap.size := ⟨_, rfl⟩
  rw [← hP] at hT hR hA hsW
  have HW := Lib.hid (And.intro hbW (And.intro hsW (And.intro hT (And.intro hR (And.intro hA hP)))))
  have HE := Lib.hid hW
  have HP := Lib.hid hP
  clear h1 h2 hW hbW hsW hW1 hW2 e1 e2 eW hT hR hA hP
  go_enter Tryd.func30, Tryd.ntmps30
  go_wp2_with fail
  rw [← HE.out, ← HP.out]
  refine T1.out.mono ?_
  rintro e w1 ⟨v, rfl, ho1, hb1⟩
  obtain ⟨B1, d1, rfl, _⟩ := ho1.form
  obtain ⟨V, hV⟩ : ∃ V, V = w1.setCell ⟨P + 2, 0, none⟩ (.slice B1 xs.length d1) := ⟨_, rfl⟩
  have hT1 := (hb1.block (P + 2) (by have := HW.out.2.1; omega)).trans HW.out.2.2.1
  have hA1 := (hb1.block P (by have := HW.out.2.1; omega)).trans HW.out.2.2.2.2.1
  have hR1 := (hb1.block (P + 1) (by have := HW.out.2.1; omega)).trans HW.out.2.2.2.1
  obtain ⟨⟨t1, t2⟩, f1, f2⟩ := boxTwo_cells hT1
  have hAV : V.heap[P]? = some (.cells #[.slice A1 n1 c1, .slice A2 n2 c2] 53 (0, 0)) := by rw [hV]; exact (Below.heap_setCell w1 ⟨P + 2, 0, none⟩ _ P (by show P ≠ P + 2; omega)).trans hA1
  have hRV : V.heap[P + 1]? = some (.cells #[.slice none 0 0, .slice none 0 0] 56 (0, 0)) := by rw [hV]; exact (Below.heap_setCell w1 ⟨P + 2, 0, none⟩ _ (P + 1) (by show P + 1 ≠ P + 2; omega)).trans hR1
  have hTV : V.heap[P + 2]? = some (.cells #[.slice B1 xs.length d1, .slice none 0 0] 56 (0, 0)) := by rw [hV]; exact boxTwo_put0 hT1 _
  have hbV : Below w.heap.size w V := by rw [hV]; exact (Below.on HW.out.1 hb1).setCell (p := ⟨P + 2, 0, none⟩) (by show w.heap.size ≤ P + 2; have := HP.out; omega) _
  have hx1 := ho1.blockOf
  have hoV : Own V W.heap.size (.slice B1 xs.length d1) xs := by
    rw [hV]
    exact ho1.kept (put_grown w1 _ _ _) (.inr (fun e => by have := (hx1 _ e).1; have := HW.out.2.1; omega))
  obtain ⟨⟨_, a2⟩, _⟩ := boxTwo_cells hAV
  have HV := Lib.hid (And.intro hbV (And.intro hRV (And.intro hTV hoV)))
  have HVE := Lib.hid hV
  have hsV : P + 3 ≤ V.heap.size := by
    have := hbV.size
    have := (Array.getElem?_eq_some_iff.1 hTV).1
    omega
  have T2 := Lib.hid (T2.out V hbV)
  have HS := Lib.hid hsV
  rw [hV] at a2
  clear ho1 hb1 hV hT1 hA1 hR1 hAV hRV hTV hbV hx1 hoV hsV
  go_wp2_with fail
  rw [← HVE.out]
  refine T2.out.mono ?_
  rintro e w2 ⟨v2, rfl, ho2, hb2⟩
  obtain ⟨B2, d2, rfl, _⟩ := ho2.form
  clear a2
  have hT2 := (hb2.block (P + 2) (by have := HS.out; omega)).trans HV.out.2.2.1
  have hR2 := (hb2.block (P + 1) (by have := HS.out; omega)).trans HV.out.2.1
  obtain ⟨⟨t1, t2⟩, f1, f2⟩ := boxTwo_cells hT2
  obtain ⟨U, hU⟩ : ∃ U, U = w2.setCell ⟨P + 2, 1, none⟩ (.slice B2 ys.length d2) := ⟨_, rfl⟩
  have hTU : U.heap[P + 2]? = some (.cells #[.slice B1 xs.length d1, .slice B2 ys.length d2] 56 (0, 0)) := by rw [hU]; exact boxTwo_put1 hT2 _
  have hRU : U.heap[P + 1]? = some (.cells #[.slice none 0 0, .slice none 0 0] 56 (0, 0)) := by rw [hU]; exact (Below.heap_setCell w2 ⟨P + 2, 1, none⟩ _ (P + 1) (by show P + 1 ≠ P + 2; omega)).trans hR2
  have hbU : Below w.heap.size w U := by rw [hU]; exact (Below.on HV.out.1 hb2).setCell (p := ⟨P + 2, 1, none⟩) (by show w.heap.size ≤ P + 2; have := HP.out; omega) _
  have hne := blocks_ne HV.out.2.2.2 ho2 (Nat.le_refl _)
  have hx1 := HV.out.2.2.2.blockOf
  have hx2 := ho2.blockOf
  have ho1U : Own U w.heap.size (.slice B1 xs.length d1) xs := by
    rw [hU]
    exact ((HV.out.2.2.2.keep hb2 (Nat.le_refl _)).kept (put_grown w2 _ _ _) (.inr (fun e => by have := (hx1 _ e).1; have := HW.out.2.1; omega))).less (by have := HW.out.1.size; omega)
  have ho2U : Own U w.heap.size (.slice B2 ys.length d2) ys := by
    rw [hU]
    exact (ho2.kept (put_grown w2 _ _ _) (.inr (fun e => by have := (hx2 _ e).1; have := HS.out; omega))).less (by have := HV.out.1.size; omega)
  have g1 := (boxTwo_cells hTU).1.1
  have g2 := (boxTwo_cells hTU).1.2
  obtain ⟨⟨r1, r2⟩, r3, r4⟩ := boxTwo_cells hRU
  have HU := Lib.hid (And.intro hbU (And.intro hRU (And.intro ho1U (And.intro ho2U (And.intro hne (And.intro hx1 hx2))))))
  have HUE := Lib.hid hU
  rw [hU] at g1 g2 r1 r2 r3 r4
  clear ho2 hb2 hT2 hR2 hTU hRU hbU hne hx1 hx2 ho1U ho2U hU
  go_wp2_with fail
  rw [← HUE.out]
  obtain ⟨hbU, hRU, ho1U, ho2U, hne, hx1, hx2⟩ := HU.out
  obtain ⟨⟨k1, k2⟩, _⟩ := boxTwo_cells (boxTwo_set hRU (.slice B1 xs.length d1) (.slice B2 ys.length d2))
  have hg := boxTwo_grown U (P + 1) (.slice B1 xs.length d1) (.slice B2 ys.length d2)
  refine bodyPost_ret (v := .agg #[.slice B1 xs.length d1, .slice B2 ys.length d2]) (by simp [results, Tryd.results30, go_sem, k1, k2]) rfl ?_
  exact ⟨_, _, rfl, ho1U.kept hg (.inr (fun e => by have := (hx1 _ e).1; have := HW.out.2.1; omega)), ho2U.kept hg (.inr (fun e => by have := (hx2 _ e).1; have := HS.out; omega)), hne, boxTwo_below hbU (by have := HP.out; omega) _ _⟩
theorem offs_eq {xs ys zs bs : List Int} : decide ((xs, zs) = (ys, bs)) = (decide (xs = ys) && decide (zs = bs)) := by
  by_cases h1 : xs = ys <;> by_cases h2 : zs = bs <;> simp [h1, h2]
set_option maxHeartbeats 2000000 in
theorem eqOffsets_any (A1 A2 A3 A4 : Option Addr) (n1 c1 n2 c2 n3 c3 n4 c4 : Nat) (xs ys zs bs : List Int) (w : World) (h1 : Rd w w.heap.size A1 n1 xs) (h2 : Rd w w.heap.size A2 n2 zs) (h3 : Rd w w.heap.size A3 n3 ys) (h4 : Rd w w.heap.size A4 n4 bs) (hb1 : n1 ≤ 1048576) (hb2 : n2 ≤ 1048576) (hb3 : n3 ≤ 1048576) (hb4 : n4 ≤ 1048576) :
    Calls Tryd.prog 32 #[.agg #[.slice A1 n1 c1, .slice A2 n2 c2], .agg #[.slice A3 n3 c3, .slice A4 n4 c4]] w fun e w' => e = .returned (.bool (decide ((xs, zs) = (ys, bs)))) ∧ Below w.heap.size w w' := by
  rw [offs_eq]
  obtain ⟨W, hW⟩ : ∃ W, W = (w.alloc (.cells #[.slice A1 n1 c1, .slice A2 n2 c2] 56)).alloc (.cells #[.slice A3 n3 c3, .slice A4 n4 c4] 56) := ⟨_, rfl⟩
  have hb : Below w.heap.size w W := by rw [hW]; exact ((Below.refl _ _).alloc (Nat.le_refl _) _).alloc (by simp) _
  have E1 := Lib.hid (eqIntS_any A1 A3 n1 c1 n3 c3 _ _ xs ys W (h1.to hb) (h3.to hb) hb1 hb3)
  have E2 := Lib.hid (fun (k : Nat) => eqIntS_any A2 A4 n2 c2 n4 c4 _ _ zs bs (W.drewN k) ((h2.to hb).drewN k) ((h4.to hb).drewN k) hb2 hb4)
  obtain ⟨a, ha⟩ : ∃ a, a = decide (xs = ys) := ⟨_, rfl⟩
  obtain ⟨b, hb'⟩ : ∃ b, b = decide (zs = bs) := ⟨_, rfl⟩
  rw [← ha] at E1 ⊢
  rw [← hb'] at E2 ⊢
  have HB := Lib.hid hb
  have HW := Lib.hid hW
  clear h1 h2 h3 h4 ha hb' hb hW
  go_enter Tryd.func32, Tryd.ntmps32
  go_wp2_with fail
  rw [← HW.out]
  refine E1.out.mono ?_
  rintro e w1 ⟨rfl, k1, rfl⟩
  rw [HW.out]
  cases a with
  | false =>
    go_wp2_with fail
    rw [← HW.out]
    go_ret
    exact ⟨rfl, below_drewN HB.out _⟩
  | true =>
    have E2 := Lib.hid (E2.out k1)
    go_wp2_with fail
    rw [← HW.out]
    refine E2.out.mono ?_
    rintro e w2 ⟨rfl, k2, rfl⟩
    have HB2 := Lib.hid (below_drewN HB.out (k1 + k2))
    cases b
    all_goals
      go_wp2_with fail
      go_ret
      exact ⟨rfl, HB2.out⟩
set_option maxRecDepth 100000 in
set_option maxHeartbeats 4000000 in
theorem specOffs_any (A1 A2 : Option Addr) (n1 c1 n2 c2 B0 : Nat) (us bs : List Int) (w : World) (h1 : Rd w B0 A1 n1 us) (h2 : Rd w B0 A2 n2 bs) (hB0 : B0 ≤ w.heap.size) (hb1 : n1 ≤ 1048576) (hb2 : n2 ≤ 1048576) :
    Calls Tryd.prog 62 #[.agg #[.slice A1 n1 c1, .slice A2 n2 c2]] w fun e w' => e = .returned (.bool (offB us bs)) ∧ Below w.heap.size w w' := by
  obtain ⟨W, hW⟩ : ∃ W, W = w.alloc (.cells #[.slice A1 n1 c1, .slice A2 n2 c2] 56) := ⟨_, rfl⟩
  have hbW : Below w.heap.size w W := by rw [hW]; exact (Below.refl _ _).alloc (Nat.le_refl _) _
  have hsW : w.heap.size < W.heap.size := by rw [hW]; simp
  have hA : W.heap[w.heap.size]? = some (.cells #[.slice A1 n1 c1, .slice A2 n2 c2] 56 (0, 0)) := by rw [hW]; exact World.alloc_heap_new w _
  have SV := Lib.hid (specValid_any A1 n1 c1 B0 us W (h1.below hbW hB0) (Nat.le_trans hB0 hbW.size) hb1)
  obtain ⟨r, hr⟩ : ∃ r, r = offB us bs := ⟨_, rfl⟩
  rw [← hr]
  have hl1 := h1.1
  have hl2 := h2.1
  have HV : Hid (fvB us = false → r = false) := fun e => hr.trans (offB_v e)
  have HL : Hid (n2 ≠ n1 → r = false) := fun e => hr.trans (offB_l (by omega))
  have HBAD : Hid (∀ k, k < n2 → okBy us bs k = false → r = false) := fun k hk e => hr.trans (offB_bad (by omega) e)
  have HGOOD : Hid (fvB us = true → n2 = n1 → (∀ k, k < n2 → okBy us bs k = true) → r = true) := fun e1 e2 e3 => hr.trans (offB_of e1 (by omega) (fun k hk => e3 k (by omega)))
  obtain ⟨P, hP⟩ : ∃ P, P = w.heap.size := ⟨_, rfl⟩
  rw [← hP] at hA hsW
  have HW := Lib.hid (And.intro hbW (And.intro hsW (And.intro hA (And.intro (h1.below hbW hB0) (And.intro (h2.below hbW hB0) (Nat.le_trans hB0 hbW.size))))))
  have HE := Lib.hid hW
  have HP := Lib.hid hP
  obtain ⟨f, hf⟩ : ∃ f, f = fvB us := ⟨_, rfl⟩
  rw [← hf] at SV HV HGOOD
  clear h1 h2 hl1 hl2 hr hW hbW hsW hA hP hf
  cases f with
  | false =>
    have HF := Lib.hid (HV.out rfl)
    go_enter Tryd.func62, Tryd.ntmps62
    go_wp2_with fail
    rw [← HE.out, ← HP.out]
    refine SV.out.mono ?_
    rintro e w1 ⟨rfl, hb⟩
    have HB := Lib.hid (Below.on HW.out.1 hb)
    clear hb
    go_wp2_with fail
    go_ret
    exact ⟨ret_bool HF.out.symm, HB.out⟩
  | true =>
    go_enter Tryd.func62, Tryd.ntmps62
    go_wp2_with fail
    rw [← HE.out, ← HP.out]
    refine SV.out.mono ?_
    rintro e w1 ⟨rfl, hb⟩
    obtain ⟨⟨a1, a2⟩, _⟩ := boxTwo_cells ((hb.block P HW.out.2.1).trans HW.out.2.2.1)
    have HB := Lib.hid (And.intro (Below.on HW.out.1 hb) (And.intro (HW.out.2.2.2.1.below hb HW.out.2.2.2.2.2) (HW.out.2.2.2.2.1.below hb HW.out.2.2.2.2.2)))
    clear hb
    by_cases hn : n2 = n1
    · have t1 : ((n2 : Int) != (n1 : Int)) = false := by simp [hn]
      have HN := Lib.hid hn
      clear hn
      go_wp2_with fail
      go_loopw [21] (fun i wr => ∃ k : Nat, k ≤ n2 ∧ i = .int .i64 k ∧ Hid (∀ j, j < k → okBy us bs j = true) ∧ wr = w1) (fun i _ => n2 - (intOf i).toNat)
      case atStart => exact ⟨0, Nat.zero_le _, rfl, fun j hj => absurd hj (by omega), rfl⟩
      case round =>
        obtain ⟨k, hk, rfl, HT, rfl⟩ := hrel
        by_cases hlt : k < n2
        · have hkk : (k : Int) < (n2 : Int) := by omega
          have hkn : k < n1 := by have := HN.out; omega
          have hkn1 : (k : Int) < (n1 : Int) := by omega
          obtain ⟨b1, o1, rfl, _, q1⟩ := HB.out.2.1.2 (by omega)
          obtain ⟨b2, o2, rfl, _, q2⟩ := HB.out.2.2.2 (by omega)
          have g1 := q1 k hkn
          have g2 := q2 k hlt
          have HK : Hid (okBy us bs k = (decide (-16000 ≤ bs[k]?.getD 0 ∧ bs[k]?.getD 0 ≤ 16000) && !(decide (us[k]?.getD 0 = (k : Int)) && !decide (bs[k]?.getD 0 = 0)))) := rfl
          have HBK := Lib.hid (HBAD.out k hlt)
          have HN2 : Hid (okBy us bs k = true → ∀ j, j < k + 1 → okBy us bs j = true) := fun e j hj => by
            by_cases h : j = k
            · subst h; exact e
            · exact HT.out j (by omega)
          obtain ⟨b, hb⟩ : ∃ b, b = bs[k]?.getD 0 := ⟨_, rfl⟩
          obtain ⟨u, hu⟩ : ∃ u, u = us[k]?.getD 0 := ⟨_, rfl⟩
          rw [← hu] at g1 HK
          rw [← hb] at g2 HK
          have LI := Lib.hid (l1In_any b (-16000) 16000 wr)
          clear q1 q2 hu hb HT HBAD HGOOD HV HL
          by_cases i1 : -16000 ≤ b ∧ b ≤ 16000
          · rw [decide_eq_true i1] at LI HK
            by_cases i2 : u = (k : Int)
            · have t2 : (u == (k : Int)) = true := by simp [i2]
              rw [decide_eq_true i2] at HK
              by_cases i3 : b = 0
              · have t3 : (b != 0) = false := by simp [i3]
                rw [decide_eq_true i3] at HK
                have HF := Lib.hid (HN2.out HK.out)
                clear i1 i2 i3 HK HN2 HBK
                go_wp2_with fail
                refine LI.out.mono ?_
                rintro e w5 ⟨rfl, rfl⟩
                go_wp2_with fail
                go_roundw
                case rel => exact ⟨k + 1, by omega, by go_num, HF, trivial⟩
                case measure => simp [intOf]; omega
              · have t3 : (b != 0) = true := by simp [i3]
                rw [decide_eq_false i3] at HK
                have HF := Lib.hid (HBK.out HK.out)
                clear i1 i2 i3 HK HN2 HBK
                go_wp2_with fail
                refine LI.out.mono ?_
                rintro e w5 ⟨rfl, rfl⟩
                go_wp2_with fail
                go_ret
                exact ⟨ret_bool HF.out.symm, HB.out.1⟩
            · have t2 : (u == (k : Int)) = false := by simp [i2]
              rw [decide_eq_false i2] at HK
              have HF := Lib.hid (HN2.out HK.out)
              clear i1 i2 HK HN2 HBK
              go_wp2_with fail
              refine LI.out.mono ?_
              rintro e w5 ⟨rfl, rfl⟩
              go_wp2_with fail
              go_roundw
              case rel => exact ⟨k + 1, by omega, by go_num, HF, trivial⟩
              case measure => simp [intOf]; omega
          · rw [decide_eq_false i1] at LI HK
            have HF := Lib.hid (HBK.out HK.out)
            clear i1 HK HN2 HBK
            go_wp2_with fail
            refine LI.out.mono ?_
            rintro e w5 ⟨rfl, rfl⟩
            go_wp2_with fail
            go_ret
            exact ⟨ret_bool HF.out.symm, HB.out.1⟩
        · obtain rfl : k = n2 := by omega
          have HF := Lib.hid (HGOOD.out (by trivial) HN.out HT.out)
          clear HBAD HGOOD HV HL HT
          go_wp2
          go_ret
          exact ⟨ret_bool HF.out.symm, HB.out.1⟩
    · have t1 : ((n2 : Int) != (n1 : Int)) = true := by simp; omega
      have HF := Lib.hid (HL.out hn)
      clear hn
      go_wp2_with fail
      go_ret
      exact ⟨ret_bool HF.out.symm, HB.out.1⟩
end Go.Proofs.YtfmhdngblpmcfaaDoor
