/- A copy of a slice of integers by append onto an empty one. Condition: lengths up to 1048576, one element at least. -/
import Derived.Test.YtfdkkcigmjonfaaBase
namespace Go.Proofs.Ytfdkkcigmjonfaa
open Go.RowKit

theorem wpList_copy {ops : Array Oper} {rest : List Oper} {o : Oper} {a : Act} {Q : Exit → Act → World → Prop} (hgd : o.guard = none) (s x : Operand)
    (ho : o.op = .call { callee := .builtin .append, args := #[s, x], argTypes := #[23, 23] }) (w : World) (A : Option Addr) (n c B : Nat) (zs : List Int)
    (hs : a.eval s = .slice (some ⟨w.heap.size, 0, none⟩) 0 0) (hx : a.eval x = .slice A n c) (hr : Rd w B A n zs) (hB : B ≤ w.heap.size) (hn : 1 ≤ n) (hb : n ≤ 1048576)
    (h : ∀ g k w', Own w' w.heap.size (.slice (some ⟨g, 0, none⟩) n k) zs → Below w.heap.size w w' → wpList Try.prog ops Q rest (a.put o.dst (.slice (some ⟨g, 0, none⟩) n k)) w') :
    wpList Try.prog ops Q (o :: rest) a (w.alloc (.cells #[] 3)) := by
  obtain ⟨i0, hi0, hz0, hz1, hz2⟩ := info_parts Try.info_int
  have hln := hr.1
  obtain ⟨b, off, rfl, hlt, hc⟩ := hr.2 (by omega)
  have H0 : Own (w.alloc (.cells #[] 3)) w.heap.size (.slice (some ⟨w.heap.size, 0, none⟩) 0 0) [] := Own.lit w _ [] (Nat.le_refl _) (by simp)
  have hbe := (Below.refl w.heap.size w).alloc (Nat.le_refl _) (.cells #[] 3)
  have hnews : ∀ j u, (zs.map (Value.int .i64))[j]? = some u → (w.alloc (.cells #[] 3)).cell? ((⟨b, off, none⟩ : Addr).add j) = some u := by
    intro j u hu
    rw [List.getElem?_map] at hu
    have hj : j < zs.length := by
      rcases Nat.lt_or_ge j zs.length with h | h
      · exact h
      · rw [List.getElem?_eq_none h] at hu; cases hu
    rw [List.getElem?_eq_getElem hj] at hu
    simp only [Option.map_some, Option.some.injEq] at hu
    rw [add_at, hbe.cell (p := ⟨b, off + j, none⟩) (by show b < w.heap.size; omega), hc j (by omega), List.getElem?_eq_getElem hj, ← hu]
    rfl
  refine wpList_append_own_at _ hgd s x 23 ho w.heap.size 3 i0 (.int .i64 0) 1 8 Try.underlying23 hi0 hz0 hz1 hz2 rfl (by decide) _ 0 [] hs H0 ⟨b, off, none⟩ n c (zs.map (Value.int .i64)) hx (by rw [List.length_map]; omega) hnews (fun u hu => by
    obtain ⟨z, _, rfl⟩ := List.mem_map.1 hu
    rfl) (by unfold maxLen; omega) (by omega) (by simp) ?_
  intro v' w1 hown hgrow _ _
  have ho1 : Own w1 w.heap.size v' zs := by
    unfold Own
    rw [hln]
    simpa using hown
  have hb1 : Below w.heap.size w w1 := hbe.grown hgrow (by simp) (fun r e => by injection e with e; subst e; exact Nat.le_refl _)
  rcases ho1.2 with ⟨hv, hx'⟩ | ⟨g, cap, cur, hv, _⟩
  · have : zs = [] := by simpa using hx'
    rw [this] at hln
    simp at hln
    omega
  · rw [hln] at hv
    rw [hv] at ho1 ⊢
    exact h g cap w1 ho1 hb1
theorem own_head {w : World} {base n c : Nat} {A : Option Addr} {zs : List Int} (h : Own w base (.slice A n c) zs) (h1 : 1 ≤ n) : ∃ g, A = some ⟨g, 0, none⟩ := by
  rcases h.2 with ⟨hv, _⟩ | ⟨g, _, _, hv, _⟩
  · injection hv with _ h2 _
    omega
  · injection hv with h2 _ _
    exact ⟨g, h2⟩
/-- A store into a slice of the call's own, told as growth of its block. -/
theorem grown_set {w2 wr : World} {g k : Nat} (hg : w2.grownBy wr (some g)) (v : Value) : w2.grownBy (wr.setCell ⟨g, k, none⟩ v) (some g) :=
  ⟨hg.os, hg.tape, hg.output, by simpa [World.setCell] using hg.size, fun i hi hne => (Below.heap_setCell wr ⟨g, k, none⟩ _ i (fun e => hne (by rw [e]))).trans (hg.block i hi hne)⟩
end Go.Proofs.Ytfdkkcigmjonfaa
