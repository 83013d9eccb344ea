/- The model's drawn forests and items: some list of ints of at most 17 elements in new memory, an int from -1 to 16. Conditions: at most 90000 draws. -/
import Derived.Test.YtfdkkcigmjonfaaDraw
import Derived.Test.YtfdkkcigmjonfaaNew
namespace Go.Proofs.Ytfdkkcigmjonfaa
open Go.RowKit

theorem Own.row {w w' : World} {base R : Nat} {v : Value} {zs : List Int} (h : Own w base v zs) (hg : w.grownBy w' (some R)) (hR : R < base) : Own w' base v zs :=
  h.kept hg (by
    cases hb : v.ownBlock with
    | none => exact .inl rfl
    | some r =>
      refine .inr fun e => ?_
      injection e with e
      have := (h.blockOf r hb).1
      omega)
theorem grown_trans2 {a b c : World} {R : Nat} (h : a.grownBy b (some R)) (k : b.grownBy c (some R)) : a.grownBy c (some R) :=
  ⟨k.os.trans h.os, k.tape.trans h.tape, k.output.trans h.output, Nat.le_trans h.size k.size, fun i hi hne => (k.block i (Nat.lt_of_lt_of_le hi h.size) hne).trans (h.block i hi hne)⟩
theorem grown_of_below {a b : World} (R : Nat) (h : Below a.heap.size a b) : a.grownBy b (some R) := ⟨h.os, h.tape, h.output, h.size, fun i hi _ => h.block i hi⟩
theorem grown_below {a b c : World} {R : Nat} (h : a.grownBy b (some R)) (k : Below a.heap.size b c) : a.grownBy c (some R) :=
  ⟨k.os.trans h.os, k.tape.trans h.tape, k.output.trans h.output, Nat.le_trans h.size k.size, fun i hi hne => (k.block i hi).trans (h.block i hi hne)⟩
theorem Src.lt {w : World} {R p : Nat} (h : Src w R p) : R < w.heap.size := by
  obtain ⟨_, _, _, _, hR, _⟩ := h
  exact (Array.getElem?_eq_some_iff.1 hR).1
theorem Src.below {w w' : World} {R p C : Nat} (h : Src w R p) (hb : Below C w w') (hC : R < C) : Src w' R p := by
  obtain ⟨D, m, c, bs, hR, hm, hbs⟩ := h
  refine ⟨D, m, c, bs, (hb.block R hC).trans hR, hm, fun h0 => ?_⟩
  obtain ⟨b, off, e, hlt, hc⟩ := hbs h0
  exact ⟨b, off, e, hlt, fun k hk => ⟨(hb.cell (p := ⟨b, off + k, none⟩) (by show b < C; omega)).trans (hc k hk).1, (hc k hk).2⟩⟩

set_option maxRecDepth 100000 in
set_option maxHeartbeats 1000000 in
theorem num_any (R p base : Nat) (v : Value) (zs : List Int) (w : World) (h : Src w R p) (hp : p ≤ 100000) (ho : Own w base v zs) (hb : R < base) (h1 : 1 ≤ zs.length) (h2 : zs.length ≤ 100) :
    Calls Try.prog 116 #[.pointer (some ⟨R, 0, none⟩), v] w fun e w' => (∃ j, j < zs.length ∧ e = .returned (.int .i64 (zs[j]?.getD 0))) ∧ Src w' R (p + 1) ∧ w.grownBy w' (some R) := by
  obtain ⟨A, c, rfl, hr⟩ := ho.form
  obtain ⟨n, hn⟩ : ∃ n, n = zs.length := ⟨_, rfl⟩
  have P := Lib.hid (pick_any R p (n : Int) w h hp)
  rw [← hn] at hr h1 h2 ho ⊢
  clear hn
  go_enter Try.func116, Try.ntmps116
  go_wp2_with fail
  refine P.out.mono ?_
  rintro e w1 ⟨⟨j, rfl, hj⟩, hs, hg⟩
  have hj := hj (by omega)
  have ho1 := ho.row hg hb
  have hr1 := ho1.rd
  obtain ⟨b, off, rfl, _, hc⟩ := hr1.2 (by omega)
  have g1 := hc j (by omega)
  clear hc hr1 ho1 ho hr
  go_wp2
  go_ret
  exact ⟨⟨j, by omega, rfl⟩, hs, hg⟩

theorem nums_mem {zs : List Int} {j : Nat} {p : Int → Prop} (h : ∀ z ∈ zs, p z) (hj : j < zs.length) : p (zs[j]?.getD 0) := by
  simp only [List.getElem?_eq_getElem hj, Option.getD_some]
  exact h _ (List.getElem_mem hj)

set_option maxRecDepth 100000 in
set_option maxHeartbeats 2000000 in
theorem l1Pick_any (R p n c : Nat) (A : Option Addr) (w : World) (h : Src w R p) (hp : p ≤ 90000) (hn : n ≤ 17) :
    Calls Try.prog 135 #[.pointer (some ⟨R, 0, none⟩), .slice A n c] w fun e w' => (∃ x : Int, e = .returned (.int .i64 x) ∧ -1 ≤ x ∧ x ≤ 16) ∧ (∃ p', p' ≤ p + 10 ∧ Src w' R p') ∧ w.grownBy w' (some R) := by
  obtain ⟨M, hM⟩ : ∃ M : Nat, M = max n 1 := ⟨_, rfl⟩
  have hM1 : 1 ≤ M := by omega
  have hM2 : M ≤ 17 := by omega
  have P := Lib.hid (fun (q : Nat) (w1 : World) (hs : Src w1 R q) (hq : q ≤ 100000) => pick_any R q (M : Int) w1 hs hq)
  have hmax : (if (1 : Int) > (n : Int) then 1 else (n : Int)) = (M : Int) := by split <;> omega
  by_cases h0 : (n : Int) < 1
  all_goals
    have hMv := hmax
    simp only [gt_iff_lt, h0, if_true, if_false] at hMv
    have HM := Lib.hid hMv
    clear hmax hMv hM
    go_enter Try.func135, Try.ntmps135
    go_wp2_with fail
    rw [HM.out]
    refine (P.out p w h (by omega)).mono ?_
    rintro e w1 ⟨⟨x1, rfl, hx1⟩, hs1, hg1⟩
    have hx1 := hx1 (by omega)
    go_wp2_with fail
    rw [HM.out]
    refine (P.out _ _ hs1 (by omega)).mono ?_
    rintro e w2 ⟨⟨x2, rfl, hx2⟩, hs2, hg2⟩
    have hx2 := hx2 (by omega)
    go_wp2_with fail
    rw [HM.out]
    refine (P.out _ _ hs2 (by omega)).mono ?_
    rintro e w3 ⟨⟨x3, rfl, hx3⟩, hs3, hg3⟩
    have hx3 := hx3 (by omega)
    go_wp2_with fail
    rw [HM.out]
    refine (P.out _ _ hs3 (by omega)).mono ?_
    rintro e w4 ⟨⟨x4, rfl, hx4⟩, hs4, hg4⟩
    have hx4 := hx4 (by omega)
    go_wp2_with fail
    rw [HM.out]
    refine (P.out _ _ hs4 (by omega)).mono ?_
    rintro e w5 ⟨⟨x5, rfl, hx5⟩, hs5, hg5⟩
    have hx5 := hx5 (by omega)
    have hg := grown_trans2 (grown_trans2 (grown_trans2 (grown_trans2 hg1 hg2) hg3) hg4) hg5
    have hlt := hs5.lt
    have hlit : Own (w5.alloc (.cells #[.int .i64 (x1 : Int), .int .i64 0, .int .i64 (x2 : Int), .int .i64 (x3 : Int), .int .i64 (x4 : Int), .int .i64 (x5 : Int), .int .i64 (-1), .int .i64 16] 3)) w5.heap.size (.slice (some ⟨w5.heap.size, 0, none⟩) 8 8) [(x1 : Int), 0, x2, x3, x4, x5, -1, 16] := Own.lit w5 _ [(x1 : Int), 0, x2, x3, x4, x5, -1, 16] (Nat.le_refl _) (by simp)
    have hs6 := hs5.below ((Below.refl _ w5).alloc (Nat.le_refl _) (.cells #[.int .i64 (x1 : Int), .int .i64 0, .int .i64 (x2 : Int), .int .i64 (x3 : Int), .int .i64 (x4 : Int), .int .i64 (x5 : Int), .int .i64 (-1), .int .i64 16] 3)) hlt
    have NU := Lib.hid (num_any R _ w5.heap.size _ _ _ hs6 (by omega) hlit hlt (by simp) (by simp))
    have hsz := hg.size
    clear hs1 hs2 hs3 hs4 hg1 hg2 hg3 hg4 hg5 hlit
    go_wp2_with fail
    refine NU.out.mono ?_
    rintro e w7 ⟨⟨k, hk, rfl⟩, hs7, hg7⟩
    have hb := nums_mem (p := fun z => -1 ≤ z ∧ z ≤ 16) (zs := [(x1 : Int), 0, x2, x3, x4, x5, -1, 16]) (by
      intro z hz
      simp only [List.mem_cons, List.not_mem_nil, or_false] at hz
      omega) hk
    have hgf := grown_trans2 (grown_below hg ((Below.refl _ w5).alloc hsz (.cells #[.int .i64 (x1 : Int), .int .i64 0, .int .i64 (x2 : Int), .int .i64 (x3 : Int), .int .i64 (x4 : Int), .int .i64 (x5 : Int), .int .i64 (-1), .int .i64 16] 3))) hg7
    clear hs5 hs6 hg7 hg hk
    go_wp2
    go_ret
    exact ⟨⟨_, rfl, hb.1, hb.2⟩, ⟨_, by omega, hs7⟩, hgf⟩
end Go.Proofs.Ytfdkkcigmjonfaa
