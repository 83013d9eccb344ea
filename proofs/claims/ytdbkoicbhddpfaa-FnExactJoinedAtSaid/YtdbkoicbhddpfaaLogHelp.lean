/- The exact laws' helpers for logs: whether one is short enough, a copy. Condition: lengths up to 1048576. -/
import Derived.Test.YtdbkoicbhddpfaaOffs
namespace Go.Proofs.Ytdbkoicbhddpfaa
open Go.RowKit

theorem blocks_neS {v v2 : Value} {w w2 : World} {b1 b2 : Nat} {xs : List Int} {ys : List (Int × Int)} (h1 : Own w b1 v xs) (h2 : OwnQ 45 w2 b2 v2 ys) (hb : w.heap.size ≤ b2) : ∀ x, v.ownBlock = some x → ∀ y, v2.ownBlock = some y → x ≠ y := fun x hx y hy e => by
  have a := (h1.blockOf x hx).2
  have b := (h2.blockOf y hy).1
  omega
/-- Both slices are short enough, or not. -/
theorem szLog_any (A1 A2 : Option Addr) (n1 c1 n2 c2 : Nat) (w : World) (hn1 : n1 ≤ maxLen) (hn2 : n2 ≤ maxLen) :
    Calls Try.prog 63 #[.agg #[.slice A1 n1 c1, .slice A2 n2 c2], .int .i64 1048576] w fun e w' => e = .returned (.int .i64 (if 1048576 < n1 + n2 then -1 else 1048576 - (n1 : Int) - (n2 : Int))) ∧ Below w.heap.size w w' := by
  obtain ⟨W, hW⟩ : ∃ W, W = w.alloc (.cells #[.slice A1 n1 c1, .slice A2 n2 c2] 76) := ⟨_, rfl⟩
  have hb : Below w.heap.size w W := by rw [hW]; exact (Below.refl _ _).alloc (Nat.le_refl _) _
  have HB := Lib.hid hb
  have HW := Lib.hid hW
  clear hb hW
  by_cases h1 : 1048576 < n1
  · have S1 : Hid (∀ w2, Calls Try.prog 129 #[.slice A1 n1 c1, .int .i64 1048576] w2 fun e w' => e = .returned (.int .i64 (-1)) ∧ w2 = w') := fun w2 => by
      have := szIntS_any A1 n1 c1 1048576 w2 hn1 (by decide) (by decide)
      rw [if_pos (by omega)] at this
      exact this
    rw [if_pos (by omega)]
    go_enter Try.func63, Try.ntmps63
    go_wp2_with fail
    rw [← HW.out]
    refine (S1.out _).mono ?_
    rintro e w1 ⟨rfl, rfl⟩
    go_wp2_with fail
    go_ret
    exact ⟨rfl, HB.out⟩
  · have S1 : Hid (∀ w2, Calls Try.prog 129 #[.slice A1 n1 c1, .int .i64 1048576] w2 fun e w' => e = .returned (.int .i64 (1048576 - (n1 : Int))) ∧ w2 = w') := fun w2 => by
      have := szIntS_any A1 n1 c1 1048576 w2 hn1 (by decide) (by decide)
      rw [if_neg (by omega)] at this
      exact this
    have t1 : ¬ (1048576 - (n1 : Int) < 0) := by omega
    by_cases h2 : 1048576 < n1 + n2
    · have S2 : Hid (∀ w2, Calls Try.prog 130 #[.slice A2 n2 c2, .int .i64 (1048576 - (n1 : Int))] w2 fun e w' => e = .returned (.int .i64 (-1)) ∧ w2 = w') := fun w2 => by
        have := szStepS_any A2 n2 c2 (1048576 - (n1 : Int)) w2 hn2 (by omega) (by omega)
        rw [if_pos (by omega)] at this
        exact this
      rw [if_pos h2]
      clear h2
      go_enter Try.func63, Try.ntmps63
      go_wp2_with fail
      refine (S1.out _).mono ?_
      rintro e w1 ⟨rfl, rfl⟩
      go_wp2_with fail
      rw [← HW.out]
      refine (S2.out _).mono ?_
      rintro e w1 ⟨rfl, rfl⟩
      go_wp2_with fail
      go_ret
      exact ⟨rfl, HB.out⟩
    · have S2 : Hid (∀ w2, Calls Try.prog 130 #[.slice A2 n2 c2, .int .i64 (1048576 - (n1 : Int))] w2 fun e w' => e = .returned (.int .i64 (1048576 - (n1 : Int) - (n2 : Int))) ∧ w2 = w') := fun w2 => by
        have := szStepS_any A2 n2 c2 (1048576 - (n1 : Int)) w2 hn2 (by omega) (by omega)
        rw [if_neg (by omega)] at this
        exact this
      have t2 : ¬ (1048576 - (n1 : Int) - (n2 : Int) < 0) := by omega
      rw [if_neg h2]
      clear h2
      go_enter Try.func63, Try.ntmps63
      go_wp2_with fail
      refine (S1.out _).mono ?_
      rintro e w1 ⟨rfl, rfl⟩
      go_wp2_with fail
      rw [← HW.out]
      refine (S2.out _).mono ?_
      rintro e w1 ⟨rfl, rfl⟩
      go_wp2_with fail
      go_ret
      exact ⟨rfl, HB.out⟩
set_option maxRecDepth 100000 in
set_option maxHeartbeats 4000000 in
theorem toLog_any (A1 A2 : Option Addr) (n1 c1 n2 c2 : Nat) (xs : List Int) (ys : List (Int × Int)) (w : World) (h1 : Rd w w.heap.size A1 n1 xs) (h2 : RdQ w w.heap.size A2 n2 ys) (hb1 : n1 ≤ 1048576) (hb2 : n2 ≤ 1048576) :
    Calls Try.prog 64 #[.agg #[.slice A1 n1 c1, .slice A2 n2 c2]] w fun e w' => ∃ v v2, e = .returned (.agg #[v, v2]) ∧ Own w' w.heap.size v xs ∧ OwnQ 45 w' w.heap.size v2 ys ∧ (∀ x, v.ownBlock = some x → ∀ y, v2.ownBlock = some y → x ≠ y) ∧ Below w.heap.size w w' := by
  obtain ⟨W, hW⟩ : ∃ W, W = ((w.alloc (.cells #[.slice A1 n1 c1, .slice A2 n2 c2] 76)).alloc (.cells #[.slice none 0 0, .slice none 0 0] 26)).alloc (.cells #[.slice none 0 0, .slice none 0 0] 26) := ⟨_, rfl⟩
  have hbW : Below w.heap.size w W := by rw [hW]; exact (((Below.refl _ _).alloc (Nat.le_refl _) _).alloc (by simp) _).alloc (by simp; omega) _
  have hsW : W.heap.size = w.heap.size + 3 := by rw [hW]; simp
  obtain ⟨W1, hW1⟩ : ∃ W1, W1 = w.alloc (.cells #[.slice A1 n1 c1, .slice A2 n2 c2] 76) := ⟨_, rfl⟩
  obtain ⟨W2, hW2⟩ : ∃ W2, W2 = W1.alloc (.cells #[.slice none 0 0, .slice none 0 0] 26) := ⟨_, rfl⟩
  have e1 : W1.heap.size = w.heap.size + 1 := by rw [hW1]; simp
  have e2 : W2.heap.size = w.heap.size + 2 := by rw [hW2]; simp [e1]
  have eW : W = W2.alloc (.cells #[.slice none 0 0, .slice none 0 0] 26) := by rw [hW, hW2, hW1]
  have hT : W.heap[w.heap.size + 2]? = some (.cells #[.slice none 0 0, .slice none 0 0] 26 (0, 0)) := by rw [eW, ← e2]; exact World.alloc_heap_new W2 _
  have hR : W.heap[w.heap.size + 1]? = some (.cells #[.slice none 0 0, .slice none 0 0] 26 (0, 0)) := by
    rw [eW]
    refine (Below.heap_alloc _ _ _ (by omega)).trans ?_
    rw [hW2, ← e1]
    exact World.alloc_heap_new W1 _
  have hA : W.heap[w.heap.size]? = some (.cells #[.slice A1 n1 c1, .slice A2 n2 c2] 76 (0, 0)) := by
    rw [eW]
    refine (Below.heap_alloc _ _ _ (by omega)).trans ?_
    rw [hW2]
    refine (Below.heap_alloc _ _ _ (by omega)).trans ?_
    rw [hW1]
    exact World.alloc_heap_new w _
  have T1 := Lib.hid (toIntS_any A1 n1 c1 xs W (h1.to hbW) hb1)
  have T2 := Lib.hid (fun (w2 : World) (hb : Below w.heap.size w w2) => toStepS_any A2 n2 c2 ys w2 (h2.to hb) hb2)
  obtain ⟨P, hP⟩ : ∃ P, P = w.heap.size := ⟨_, rfl⟩
  rw [← hP] at hT hR hA hsW
  have HW := Lib.hid (And.intro hbW (And.intro hsW (And.intro hT (And.intro hR (And.intro hA hP)))))
  have HE := Lib.hid hW
  have HP := Lib.hid hP
  clear h1 h2 hW hbW hsW hW1 hW2 e1 e2 eW hT hR hA hP
  go_enter Try.func64, Try.ntmps64
  go_wp2_with fail
  rw [← HE.out, ← HP.out]
  refine T1.out.mono ?_
  rintro e w1 ⟨v, rfl, ho1, hb1⟩
  obtain ⟨B1, d1, rfl, _⟩ := ho1.form
  obtain ⟨V, hV⟩ : ∃ V, V = w1.setCell ⟨P + 2, 0, none⟩ (.slice B1 xs.length d1) := ⟨_, rfl⟩
  have hT1 := (hb1.block (P + 2) (by have := HW.out.2.1; omega)).trans HW.out.2.2.1
  have hA1 := (hb1.block P (by have := HW.out.2.1; omega)).trans HW.out.2.2.2.2.1
  have hR1 := (hb1.block (P + 1) (by have := HW.out.2.1; omega)).trans HW.out.2.2.2.1
  obtain ⟨⟨t1, t2⟩, f1, f2⟩ := boxTwo_cells hT1
  have hAV : V.heap[P]? = some (.cells #[.slice A1 n1 c1, .slice A2 n2 c2] 76 (0, 0)) := by rw [hV]; exact (Below.heap_setCell w1 ⟨P + 2, 0, none⟩ _ P (by show P ≠ P + 2; omega)).trans hA1
  have hRV : V.heap[P + 1]? = some (.cells #[.slice none 0 0, .slice none 0 0] 26 (0, 0)) := by rw [hV]; exact (Below.heap_setCell w1 ⟨P + 2, 0, none⟩ _ (P + 1) (by show P + 1 ≠ P + 2; omega)).trans hR1
  have hTV : V.heap[P + 2]? = some (.cells #[.slice B1 xs.length d1, .slice none 0 0] 26 (0, 0)) := by rw [hV]; exact boxTwo_put0 hT1 _
  have hbV : Below w.heap.size w V := by rw [hV]; exact (Below.on HW.out.1 hb1).setCell (p := ⟨P + 2, 0, none⟩) (by show w.heap.size ≤ P + 2; have := HP.out; omega) _
  have hx1 := ho1.blockOf
  have hoV : Own V W.heap.size (.slice B1 xs.length d1) xs := by
    rw [hV]
    exact ho1.kept (put_grown w1 _ _ _) (.inr (fun e => by have := (hx1 _ e).1; have := HW.out.2.1; omega))
  obtain ⟨⟨_, a2⟩, _⟩ := boxTwo_cells hAV
  have HV := Lib.hid (And.intro hbV (And.intro hRV (And.intro hTV hoV)))
  have HVE := Lib.hid hV
  have hsV : P + 3 ≤ V.heap.size := by
    have := hbV.size
    have := (Array.getElem?_eq_some_iff.1 hTV).1
    omega
  have T2 := Lib.hid (T2.out V hbV)
  have HS := Lib.hid hsV
  rw [hV] at a2
  clear ho1 hb1 hV hT1 hA1 hR1 hAV hRV hTV hbV hx1 hoV hsV
  go_wp2_with fail
  rw [← HVE.out]
  refine T2.out.mono ?_
  rintro e w2 ⟨v2, rfl, ho2, hb2⟩
  obtain ⟨B2, d2, rfl, _⟩ := ho2.form
  clear a2
  have hT2 := (hb2.block (P + 2) (by have := HS.out; omega)).trans HV.out.2.2.1
  have hR2 := (hb2.block (P + 1) (by have := HS.out; omega)).trans HV.out.2.1
  obtain ⟨⟨t1, t2⟩, f1, f2⟩ := boxTwo_cells hT2
  obtain ⟨U, hU⟩ : ∃ U, U = w2.setCell ⟨P + 2, 1, none⟩ (.slice B2 ys.length d2) := ⟨_, rfl⟩
  have hTU : U.heap[P + 2]? = some (.cells #[.slice B1 xs.length d1, .slice B2 ys.length d2] 26 (0, 0)) := by rw [hU]; exact boxTwo_put1 hT2 _
  have hRU : U.heap[P + 1]? = some (.cells #[.slice none 0 0, .slice none 0 0] 26 (0, 0)) := by rw [hU]; exact (Below.heap_setCell w2 ⟨P + 2, 1, none⟩ _ (P + 1) (by show P + 1 ≠ P + 2; omega)).trans hR2
  have hbU : Below w.heap.size w U := by rw [hU]; exact (Below.on HV.out.1 hb2).setCell (p := ⟨P + 2, 1, none⟩) (by show w.heap.size ≤ P + 2; have := HP.out; omega) _
  have hne := blocks_neS HV.out.2.2.2 ho2 (Nat.le_refl _)
  have hx1 := HV.out.2.2.2.blockOf
  have hx2 := ho2.blockOf
  have ho1U : Own U w.heap.size (.slice B1 xs.length d1) xs := by
    rw [hU]
    exact ((HV.out.2.2.2.keep hb2 (Nat.le_refl _)).kept (put_grown w2 _ _ _) (.inr (fun e => by have := (hx1 _ e).1; have := HW.out.2.1; omega))).less (by have := HW.out.1.size; omega)
  have ho2U : OwnQ 45 U w.heap.size (.slice B2 ys.length d2) ys := by
    rw [hU]
    exact (ho2.kept (put_grown w2 _ _ _) (.inr (fun e => by have := (hx2 _ e).1; have := HS.out; omega))).less (by have := HV.out.1.size; omega)
  have g1 := (boxTwo_cells hTU).1.1
  have g2 := (boxTwo_cells hTU).1.2
  obtain ⟨⟨r1, r2⟩, r3, r4⟩ := boxTwo_cells hRU
  have HU := Lib.hid (And.intro hbU (And.intro hRU (And.intro ho1U (And.intro ho2U (And.intro hne (And.intro hx1 hx2))))))
  have HUE := Lib.hid hU
  rw [hU] at g1 g2 r1 r2 r3 r4
  clear ho2 hb2 hT2 hR2 hTU hRU hbU hne hx1 hx2 ho1U ho2U hU
  go_wp2_with fail
  rw [← HUE.out]
  obtain ⟨hbU, hRU, ho1U, ho2U, hne, hx1, hx2⟩ := HU.out
  obtain ⟨⟨k1, k2⟩, _⟩ := boxTwo_cells (boxTwo_set hRU (.slice B1 xs.length d1) (.slice B2 ys.length d2))
  have hg := boxTwo_grown U (P + 1) (.slice B1 xs.length d1) (.slice B2 ys.length d2)
  refine bodyPost_ret (v := .agg #[.slice B1 xs.length d1, .slice B2 ys.length d2]) (by simp [results, Try.results64, go_sem, k1, k2]) rfl ?_
  exact ⟨_, _, rfl, ho1U.kept hg (.inr (fun e => by have := (hx1 _ e).1; have := HW.out.2.1; omega)), ho2U.kept hg (.inr (fun e => by have := (hx2 _ e).1; have := HS.out; omega)), hne, boxTwo_below hbU (by have := HP.out; omega) _ _⟩
end Go.Proofs.Ytdbkoicbhddpfaa
