/- The classes in the order of their first items, as plain lists: the one list that ClassesOf answers. No program. -/
import Derived.Test.YtemkbheplmimoaaSpecClasses
namespace Go.Proofs.Ytemkbheplmimoaa

/-- Two rising lists with the same members are one. -/
theorem rising_ext : ∀ {xs ys : List Nat}, xs.Pairwise (· < ·) → ys.Pairwise (· < ·) → (∀ a, a ∈ xs ↔ a ∈ ys) → xs = ys
  | [], [], _, _, _ => rfl
  | [], y :: ys, _, _, h => by have := (h y).2 (by simp); simp at this
  | x :: xs, [], _, _, h => by have := (h x).1 (by simp); simp at this
  | x :: xs, y :: ys, hx, hy, h => by
    rw [List.pairwise_cons] at hx hy
    have e : x = y := by
      have h1 := (h x).1 (by simp)
      have h2 := (h y).2 (by simp)
      rcases List.mem_cons.1 h1 with h1 | h1
      · exact h1
      · rcases List.mem_cons.1 h2 with h2 | h2
        · exact h2.symm
        · have := hy.1 x h1
          have := hx.1 y h2
          omega
    subst e
    congr 1
    refine rising_ext hx.2 hy.2 fun a => ⟨fun ha => ?_, fun ha => ?_⟩
    · have h1 := (h a).1 (List.mem_cons_of_mem _ ha)
      rcases List.mem_cons.1 h1 with h1 | h1
      · have := hx.1 a ha; omega
      · exact h1
    · have h1 := (h a).2 (List.mem_cons_of_mem _ ha)
      rcases List.mem_cons.1 h1 with h1 | h1
      · have := hy.1 a ha; omega
      · exact h1

/-- The first item of a root's class. -/
def firstOf (up : List Int) (r : Int) : Nat := ((cls up r up.length)[0]?.getD 0).toNat
theorem first_mem {up : List Int} {r : Int} (h : cls up r up.length ≠ []) : firstOf up r < up.length ∧ (rootI up (firstOf up r) : Int) = r ∧ (cls up r up.length)[0]?.getD 0 = (firstOf up r : Int) := by
  have hl : 0 < (cls up r up.length).length := List.length_pos_iff.2 h
  have hm := List.getElem_mem (l := cls up r up.length) (n := 0) hl
  have he : (cls up r up.length)[0]?.getD 0 = (cls up r up.length)[0] := by simp [hl]
  unfold cls at hm
  obtain ⟨i, hi, e⟩ := List.mem_map.1 hm
  have h2 := List.mem_filter.1 hi
  have h3 : (cls up r up.length)[0] = (i : Int) := e.symm
  have hf : firstOf up r = i := by unfold firstOf; rw [he, h3]; simp
  rw [hf, he, h3]
  exact ⟨by simpa using h2.1, by simpa using h2.2, rfl⟩
theorem mem_heads {up : List Int} {i : Nat} : i ∈ heads up up.length ↔ i < up.length ∧ (cls up (rootI up i : Int) up.length)[0]?.getD 0 = (i : Int) := by
  unfold heads
  rw [List.mem_filter]
  simp
theorem heads_rising (up : List Int) (k : Nat) : (heads up k).Pairwise (· < ·) := by
  unfold heads
  exact List.Pairwise.filter _ List.pairwise_lt_range

/-- The classes of all roots, in the order of their first items, are what ClassesOf answers. -/
theorem rows_sorted {up : List Int} {rs : List Int} (hm : ∀ r, r ∈ rs ↔ cls up r up.length ≠ []) (hs : (rs.map (firstOf up)).Pairwise (· < ·)) : rs.map (fun r => cls up r up.length) = rowsTo up up.length := by
  have hf : rs.map (firstOf up) = heads up up.length := rising_ext hs (heads_rising _ _) fun a => by
    rw [mem_heads]
    constructor
    · intro ha
      obtain ⟨r, hr, rfl⟩ := List.mem_map.1 ha
      obtain ⟨h1, h2, h3⟩ := first_mem ((hm r).1 hr)
      exact ⟨h1, by rw [h2]; exact h3⟩
    · rintro ⟨h1, h2⟩
      refine List.mem_map.2 ⟨(rootI up a : Int), (hm _).2 (fun e => ?_), ?_⟩
      · have := cls_self (up := up) h1
        rw [e] at this
        simp at this
      · unfold firstOf
        rw [h2]
        simp
  unfold rowsTo
  rw [← hf, List.map_map]
  refine List.map_congr_left fun r hr => ?_
  show cls up r up.length = cls up (rootI up (firstOf up r) : Int) up.length
  rw [(first_mem ((hm r).1 hr)).2.1]
end Go.Proofs.Ytemkbheplmimoaa
