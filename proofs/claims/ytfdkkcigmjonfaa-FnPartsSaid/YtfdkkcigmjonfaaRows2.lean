/- A slice of slices of the call's own: what holds its rows, keeps it, and puts one more behind. No condition. -/
import Derived.Test.YtfdkkcigmjonfaaBase
namespace Go.Proofs.Ytfdkkcigmjonfaa
open Go.RowKit

/-- The slice value v holds the slice values vs, which hold the integers zss; no two lie in one block. -/
structure OwnRows (w : World) (base : Nat) (v : Value) (vs : List Value) (zss : List (List Int)) : Prop where
  row : w.ownsRow base 23 1 v vs.length vs
  len : vs.length = zss.length
  each : ∀ (i : Nat) (c : Value), vs[i]? = some c → Own w base c (zss[i]?.getD [])
  apart : ∀ c ∈ vs, c.ownBlock = none ∨ c.ownBlock ≠ v.ownBlock
  apart2 : vs.Pairwise fun c d => c.ownBlock = none ∨ c.ownBlock ≠ d.ownBlock

theorem own_kept {w w' : World} {base : Nat} {e : TypeId} {v : Value} {n : Nat} {xs : List Value} (h : w.ownsRow base e 1 v n xs) (hb : Below w.heap.size w w') : w'.ownsRow base e 1 v n xs :=
  World.ownsRow.kept (row := none) h ⟨hb.os, hb.tape, hb.output, hb.size, fun k hk _ => hb.block k hk⟩ (by
    cases hv : v.ownBlock with
    | none => exact .inl rfl
    | some k => exact .inr (by simp))
theorem OwnRows.keep {w w' : World} {base : Nat} {v : Value} {vs : List Value} {zss : List (List Int)} (h : OwnRows w base v vs zss) (hb : Below w.heap.size w w') : OwnRows w' base v vs zss :=
  ⟨own_kept h.row hb, h.len, fun i c hc => (h.each i c hc).keep hb (Nat.le_refl _), h.apart, h.apart2⟩
theorem OwnRows.drewN {w : World} {base : Nat} {v : Value} {vs : List Value} {zss : List (List Int)} (h : OwnRows w base v vs zss) (n : Nat) : OwnRows (w.drewN n) base v vs zss := ⟨h.row, h.len, h.each, h.apart, h.apart2⟩
theorem OwnRows.less {w : World} {base base' : Nat} {v : Value} {vs : List Value} {zss : List (List Int)} (h : OwnRows w base v vs zss) (hb : base' ≤ base) : OwnRows w base' v vs zss :=
  ⟨⟨h.row.1, by
    rcases h.row.2 with h0 | ⟨g, cap, cur, hv, hbase, hr⟩
    · exact .inl h0
    · exact .inr ⟨g, cap, cur, hv, by omega, hr⟩⟩, h.len, fun i c hc => (h.each i c hc).less hb, h.apart, h.apart2⟩
theorem OwnRows.empty (w : World) (base : Nat) (hb : base ≤ w.heap.size) : OwnRows (w.alloc (.cells #[] 23)) base (.slice (some ⟨w.heap.size, 0, none⟩) 0 0) [] [] :=
  ⟨World.ownsRow_lit (base := base) (e := 23) (size := 1) w #[] 0 hb (by unfold maxLen; omega) (by simp), rfl, fun i c hc => by simp at hc, by simp, .nil⟩
theorem OwnRows.ofNil (w : World) (base : Nat) : OwnRows w base (.slice none 0 0) [] [] :=
  ⟨World.ownsRow_nil _ _ _ _, rfl, fun i c hc => by simp at hc, by simp, .nil⟩

/-- One more behind: its slice lay in a block of its own ahead of the append. -/
theorem OwnRows.more {w w' : World} {base : Nat} {v v' c : Value} {vs : List Value} {zss : List (List Int)} {cs : List Int} (h : OwnRows w base v vs zss) (hc : Own w base c cs)
    (hf : c.ownBlock = none ∨ c.ownBlock ≠ v.ownBlock) (hf2 : ∀ d ∈ vs, d.ownBlock = none ∨ d.ownBlock ≠ c.ownBlock)
    (hown : w'.ownsRow base 23 1 v' (vs.length + 1) (vs ++ [c])) (hg : w.grownBy w' v.ownBlock) (hloc : v'.ownBlock = v.ownBlock ∨ ∃ g, v'.ownBlock = some g ∧ w.heap.size ≤ g) : OwnRows w' base v' (vs ++ [c]) (zss ++ [cs]) := by
  have hnew : ∀ d xs, Own w base d xs → (d.ownBlock = none ∨ d.ownBlock ≠ v.ownBlock) → (d.ownBlock = none ∨ d.ownBlock ≠ v'.ownBlock) := fun d xs ho hd => by
    cases hb : d.ownBlock with
    | none => exact .inl rfl
    | some g =>
      refine .inr fun e => ?_
      rcases hloc with h1 | ⟨g', h1, h2⟩
      · rcases hd with hd | hd
        · rw [hb] at hd; cases hd
        · exact hd (by rw [hb, e, h1])
      · rw [h1] at e
        injection e with e
        have := (ho.blockOf g hb).2
        omega
  have heach : ∀ d ∈ vs, ∃ xs, Own w base d xs := fun d hd => by
    obtain ⟨i, hi, rfl⟩ := List.getElem_of_mem hd
    exact ⟨_, h.each i vs[i] (by simp [hi])⟩
  refine ⟨by rw [List.length_append]; exact hown, by simp [h.len], fun i d hd => ?_, fun d hd => ?_, ?_⟩
  · by_cases hi : i < vs.length
    · rw [List.getElem?_append_left hi] at hd
      rw [List.getElem?_append_left (by rw [← h.len]; exact hi)]
      exact (h.each i d hd).kept hg (h.apart d (List.mem_of_getElem? hd))
    · have hi2 : i = vs.length := by
        have := (List.getElem?_eq_some_iff.1 hd).1
        simp at this
        omega
      subst hi2
      rw [List.getElem?_append_right (Nat.le_refl _)] at hd
      rw [h.len, List.getElem?_append_right (Nat.le_refl _)]
      simp at hd ⊢
      subst hd
      exact hc.kept hg hf
  · rcases List.mem_append.1 hd with hd | hd
    · obtain ⟨xs, ho⟩ := heach d hd
      exact hnew d xs ho (h.apart d hd)
    · have : d = c := by simpa using hd
      subst this
      exact hnew _ cs hc hf
  · rw [List.pairwise_append]
    refine ⟨h.apart2, by simp, fun d hd e he => ?_⟩
    have : e = c := by simpa using he
    subst this
    exact hf2 d hd
end Go.Proofs.Ytfdkkcigmjonfaa
