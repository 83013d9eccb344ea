/- The laws' small helpers lrWith and lrHas. Condition: lengths up to 1048576, the item there. -/
import Derived.Test.YtkflihmhkgpgkaaLr
import Derived.Test.YtkflihmhkgpgkaaDraw3
namespace Go.Proofs.Ytkflihmhkgpgkaa
open Go.RowKit

set_option maxRecDepth 100000 in
set_option maxHeartbeats 1000000 in
theorem lrWith_any (A : Option Addr) (n c B0 i : Nat) (t : Int) (zs : List Int) (w : World) (h : Rd w B0 A n zs) (hB0 : B0 ≤ w.heap.size) (hb : n ≤ 1048576) (hi : i < n) :
    Calls Try.prog 44 #[.slice A n c, .int .i64 (i : Int), .int .i64 t] w fun e w' => ∃ v, e = .returned v ∧ Own w' w.heap.size v (zs.set i t) ∧ Below w.heap.size w w' := by
  obtain ⟨i0, hi0, hz0, hz1, hz2⟩ := info_parts Try.info_int
  have hln := h.1
  obtain ⟨b, off, rfl, hlt, hc⟩ := h.2 (by omega)
  have H0 : Own (w.alloc (.cells #[] 3)) w.heap.size (.slice (some ⟨w.heap.size, 0, none⟩) 0 0) [] := Own.lit w _ [] (Nat.le_refl _) (by simp)
  have hbe := (Below.refl w.heap.size w).alloc (Nat.le_refl _) (.cells #[] 3)
  have hnews : ∀ j u, (zs.map (Value.int .i64))[j]? = some u → (w.alloc (.cells #[] 3)).cell? ((⟨b, off, none⟩ : Addr).add j) = some u := by
    intro j u hu
    rw [List.getElem?_map] at hu
    have hj : j < zs.length := by
      rcases Nat.lt_or_ge j zs.length with h | h
      · exact h
      · rw [List.getElem?_eq_none h] at hu; cases hu
    rw [List.getElem?_eq_getElem hj] at hu
    simp only [Option.map_some, Option.some.injEq] at hu
    rw [add_at, hbe.cell (p := ⟨b, off + j, none⟩) (by show b < w.heap.size; omega), hc j (by omega), List.getElem?_eq_getElem hj, ← hu]
    rfl
  have hl : (zs.map (Value.int .i64)).length = n * 1 := by rw [List.length_map]; omega
  have h1 : ∀ u ∈ zs.map (Value.int .i64), u.oneCell' = true := by
    intro u hu
    obtain ⟨z, _, rfl⟩ := List.mem_map.1 hu
    rfl
  have HN := Lib.hid hnews
  have HL := Lib.hid hl
  have H1 := Lib.hid h1
  have HZ := Lib.hid hln
  have HB := Lib.hid hbe
  have hz : (0 : Nat) + n ≤ maxLen := by unfold maxLen; omega
  have hz8 : (0 + n) * 8 ≤ 140737488355328 := by omega
  clear hnews hl h1 hln hbe hc h
  go_enter Try.func44, Try.ntmps44
  go_wp2_with (at_builtin; go_must (refine wpList_append_own_at _ rfl (.tmp 8) (.tmp 9) 23 rfl w.heap.size 3 i0 (.int .i64 0) 1 8 Try.underlying23 hi0 hz0 hz1 hz2 rfl (by decide) _ 0 [] rfl H0 ⟨b, off, none⟩ n c _ rfl HL.out HN.out H1.out hz hz8 (by simp) ?_); intro v' w1 hown hgrow hnil hloc)
  have ho : Own w1 w.heap.size v' zs := by
    unfold Own
    rw [HZ.out]
    simpa using hown
  have hb1 : Below w.heap.size w w1 := HB.out.grown hgrow (by simp) (fun r e => by injection e with e; subst e; exact Nat.le_refl _)
  obtain ⟨A1, c1, rfl, _⟩ := ho.form
  obtain ⟨g, rfl⟩ := own_some ho (by have := HZ.out; omega)
  have hzl := HZ.out
  rw [hzl] at ho
  have g3 := ho.free i
  have g2 := ho.slot hi
  have hgB := ho.at_base.1
  have ho6 := ho.set_ i t
  have hb6 := hb1.setCell (p := ⟨g, i, none⟩) hgB (.int .i64 t)
  have HO := Lib.hid ho6
  have HB6 := Lib.hid hb6
  rw [hzl]
  clear hown hgrow hnil hloc ho hzl ho6 hb6 hb1 HB HZ H0
  have k1 : (0 : Int) ≤ (i : Int) := by omega
  have k2 : (i : Int) < (n : Int) := by omega
  clear hz hz8 hz0 hz1 hz2 hi0
  go_wp2
  simp [go_sem, *]
  go_wp2
  go_ret
  exact ⟨_, rfl, HO.out, HB6.out⟩

set_option maxHeartbeats 800000 in
theorem lrHas_any (A : Option Addr) (n c B : Nat) (xs : List Int) (x : Int) (w : World) (h : Rd w B A n xs) (hb : n ≤ 1048576) :
    Calls Try.prog 33 #[.slice A n c, .int .i64 x] w fun e w' => e = .returned (.bool (decide (x ∈ xs))) ∧ w' = w := by
  by_cases hx : x ∈ xs
  · rw [decide_eq_true hx]
    have l1 := h.1
    have L1 : xs.length ≤ n := by omega
    have L3 : n ≤ xs.length := by omega
    have hnf : ¬ ∀ k, k < n → xs[k]?.getD 0 ≠ x := fun hf => by
      obtain ⟨k, hk, e⟩ := List.getElem_of_mem hx
      exact hf k (by omega) (by simpa [hk] using e)
    have HX := Lib.hid hnf
    clear hx l1 hnf
    go_enter Try.func33, Try.ntmps33
    go_wp2
    go_loop [9] (fun i => ∃ k : Nat, k ≤ n ∧ i = .int .i64 k ∧ ∀ j, j < k → xs[j]?.getD 0 ≠ x) (fun i => n - (intOf i).toNat)
    case atStart => exact ⟨0, Nat.zero_le _, rfl, fun j hj => absurd hj (by omega)⟩
    case round =>
      obtain ⟨k, hk, rfl, hf⟩ := hrel
      have HF := Lib.hid hf
      clear hf
      by_cases hlt : k < n
      · obtain ⟨b, off, rfl, _, hc1⟩ := h.2 (by omega)
        have g1 := hc1 k hlt
        clear hc1
        by_cases he : xs[k]?.getD 0 = x
        · rw [he] at g1
          have heq : (x == x) = true := by simp
          clear he
          go_wp2
          go_ret
          exact ⟨rfl, rfl⟩
        · have HE : Hid (∀ j, j < k + 1 → xs[j]?.getD 0 ≠ x) := fun j hj => by
            by_cases e : j = k
            · subst e; exact he
            · exact HF.out j (by omega)
          generalize xs[k]?.getD 0 = z at g1 he
          have hne : (z == x) = false := by simp [he]
          clear he
          go_wp2
          go_round
          case rel => exact ⟨k + 1, by omega, by go_num, HE.out⟩
          case measure => simp [intOf]; omega
      · obtain rfl : k = n := by omega
        exact absurd HF.out HX.out
  · rw [decide_eq_false hx]
    exact lrHas_no A n c B xs x w h hb (fun z hz e => hx (e ▸ hz))
end Go.Proofs.Ytkflihmhkgpgkaa
