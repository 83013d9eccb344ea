/- As many classes in any order, and mirrored. No program, no condition. -/
import Derived.Test.YtebgnaiibomjkaaRowsAll
import Derived.Test.YtebgnaiibomjkaaMirror
namespace Go.Proofs.Ytebgnaiibomjkaa

theorem rowsC_same {x y : List Int} (h : sameN x y = true) : rowsC x = rowsC y := by
  rw [← same_answer] at h
  simp only [Bool.and_eq_true, decide_eq_true_eq] at h
  rw [← rowsN_C h.1.1, ← rowsN_C h.1.2, h.2]
theorem cc_rows {n : Nat} {qs : List (Int × Int)} (h : usB (n : Int) qs = true) : ccN (n : Int) qs = (rowsC (allL (roots n) 1 (natP qs)) : Int) ∧ (usN (n : Int) qs).length + rowsC (allL (roots n) 1 (natP qs)) = n := by
  obtain ⟨hn, hk⟩ := usB_parts h
  have h1 : 1 ≤ n := by omega
  have h2 : n ≤ 16 := by omega
  have hin := okQ_in hk
  have hr := all_rows_end (roots_fv h1 h2) 1 (ps := natP qs) (by rw [roots_len]; exact hin)
  rw [rows_roots_n h1 h2, natP_len] at hr
  have hu : usN (n : Int) qs = useTo (roots n) 1 (natP qs) qs.length := by
    have := usN_yes h
    rwa [Int.toNat_natCast] at this
  have hl : (usN (n : Int) qs).length + rowsC (allL (roots n) 1 (natP qs)) = n := by rw [hu]; omega
  refine ⟨?_, hl⟩
  unfold ccN
  rw [if_pos h]
  omega
theorem okQ_rev {n : Int} {qs : List (Int × Int)} (h : okQ n qs = true) : okQ n qs.reverse = true := by
  obtain ⟨h1, h2⟩ := okQ_parts h
  exact okQ_of (by rw [List.length_reverse]; exact h1) fun p hp => h2 p (List.mem_reverse.1 hp)
theorem rev_rows {n : Nat} {qs : List (Int × Int)} (h : usB (n : Int) qs = true) : usB (n : Int) qs.reverse = true ∧ (usN (n : Int) qs.reverse).length = (usN (n : Int) qs).length := by
  obtain ⟨hn, hk⟩ := usB_parts h
  have h1 : 1 ≤ n := by omega
  have h2 : n ≤ 16 := by omega
  have hu := usB_of hn (okQ_rev hk)
  refine ⟨hu, ?_⟩
  have e : rowsC (allL (roots n) 1 (natP qs.reverse)) = rowsC (allL (roots n) 1 (natP qs)) := rowsC_same (all_same (roots_fv h1 h2) (by rw [roots_len]; exact okQ_in (okQ_rev hk)) (by rw [roots_len]; exact okQ_in hk)
    (fun p hp => .inl (by unfold natP at hp ⊢; simpa using hp)) (fun p hp => .inl (by unfold natP at hp ⊢; simpa using hp)))
  have a := (cc_rows h).2
  have b := (cc_rows hu).2
  omega
/-- The pairs mirrored, backwards. -/
def mirQ (n : Int) (qs : List (Int × Int)) : List (Int × Int) := qs.reverse.map fun p => (n - 1 - p.2, n - 1 - p.1)
theorem mirQ_len (n : Int) (qs : List (Int × Int)) : (mirQ n qs).length = qs.length := by simp [mirQ]
theorem mirQ_at {n : Int} {qs : List (Int × Int)} {j : Nat} (h : j < qs.length) : (mirQ n qs)[qs.length - (j + 1)]?.getD (0, 0) = (n - 1 - (qs[j]?.getD (0, 0)).2, n - 1 - (qs[j]?.getD (0, 0)).1) := by
  unfold mirQ
  rw [List.getElem?_map, List.getElem?_reverse (by omega), show qs.length - 1 - (qs.length - (j + 1)) = j by omega, List.getElem?_eq_getElem h]
  rfl
theorem rev_at {qs : List (Int × Int)} {j : Nat} (h : j < qs.length) : qs.reverse[qs.length - (j + 1)]?.getD (0, 0) = qs[j]?.getD (0, 0) := by
  rw [List.getElem?_reverse (by omega), show qs.length - 1 - (qs.length - (j + 1)) = j by omega]
theorem mirQ_ok {n : Int} {qs : List (Int × Int)} (h : okQ n qs = true) : okQ n (mirQ n qs) = true := by
  obtain ⟨h1, h2⟩ := okQ_parts h
  refine okQ_of (by rw [mirQ_len]; exact h1) fun p hp => ?_
  unfold mirQ at hp
  obtain ⟨q, hq, rfl⟩ := List.mem_map.1 hp
  have := h2 q (List.mem_reverse.1 hq)
  exact ⟨by show 0 ≤ n - 1 - q.2 ∧ n - 1 - q.2 < n; omega, by show 0 ≤ n - 1 - q.1 ∧ n - 1 - q.1 < n; omega⟩
theorem mirP_mem {n : Nat} {qs : List (Int × Int)} (h : okQ (n : Int) qs = true) {p : Nat × Nat} : p ∈ natP (mirQ (n : Int) qs) ↔ ∃ q ∈ natP qs, p = (n - 1 - q.2, n - 1 - q.1) := by
  have h2 := (okQ_parts h).2
  unfold natP mirQ
  simp only [List.map_map, List.mem_map, List.mem_reverse, Function.comp]
  constructor
  · rintro ⟨q, hq, rfl⟩
    have := h2 q hq
    refine ⟨_, ⟨q, hq, rfl⟩, ?_⟩
    simp only [Prod.mk.injEq]
    omega
  · rintro ⟨_, ⟨q, hq, rfl⟩, rfl⟩
    have := h2 q hq
    refine ⟨q, hq, ?_⟩
    simp only [Prod.mk.injEq]
    omega
theorem con_mir {n : Nat} (h1 : 1 ≤ n) (h2 : n ≤ 16) {ps qs : List (Nat × Nat)} (h : ∀ q ∈ ps, (n - 1 - q.2, n - 1 - q.1) ∈ qs) {i j : Nat} (c : Con (roots n) ps i j) : Con (roots n) qs (n - 1 - i) (n - 1 - j) := by
  induction c with
  | base a b e =>
    rw [roots_len] at a b
    rw [roots_rootI h1 h2 a, roots_rootI h1 h2 b] at e
    subst e
    exact .base (by rw [roots_len]; omega) (by rw [roots_len]; omega) rfl
  | pair hp => exact .symm (.pair (h _ hp))
  | symm _ ih => exact .symm ih
  | trans _ _ ih1 ih2 => exact .trans ih1 ih2
theorem range_mir (n : Nat) : (List.range n).map (fun j => n - 1 - j) = (List.range n).reverse := by
  refine List.ext_getElem (by simp) fun i h1 h2 => ?_
  simp at h1
  simp [List.getElem_reverse]
theorem mir_rows {x : List Int} (h : fvB x = true) : rowsC (mir x) = rowsC x := by
  have hl := mir_len x
  unfold rowsC
  rw [rows_roots (mir_fv h), rows_roots h, hl]
  unfold rootsTo
  have e : ((List.range x.length).filter fun i : Nat => x[i]?.getD 0 == (i : Int)).length = ((List.range x.length).reverse.filter fun i : Nat => x[i]?.getD 0 == (i : Int)).length := by
    rw [List.filter_reverse, List.length_reverse]
  rw [e, ← range_mir, List.filter_map, List.length_map]
  congr 1
  refine List.filter_congr fun j hj => ?_
  have hj := List.mem_range.1 hj
  rw [mir_get hj]
  simp only [Function.comp]
  rw [Bool.eq_iff_iff, beq_iff_eq, beq_iff_eq]
  omega
theorem mirQ_rows {n : Nat} {qs : List (Int × Int)} (h : usB (n : Int) qs = true) : ccN (n : Int) (mirQ (n : Int) qs) = ccN (n : Int) qs := by
  obtain ⟨hn, hk⟩ := usB_parts h
  have h1 : 1 ≤ n := by omega
  have h2 : n ≤ 16 := by omega
  have hm := mirQ_ok hk
  have hu := usB_of hn hm
  rw [(cc_rows hu).1, (cc_rows h).1]
  have i1 : inP (roots n).length (natP qs) := by rw [roots_len]; exact okQ_in hk
  have i2 : inP (roots n).length (natP (mirQ (n : Int) qs)) := by rw [roots_len]; exact okQ_in hm
  have hv := roots_fv h1 h2
  have hx := allL_fv hv 1 i1
  have hxl : (allL (roots n) 1 (natP qs)).length = n := by rw [allL_len, roots_len]
  have hyl : (allL (roots n) 1 (natP (mirQ (n : Int) qs))).length = n := by rw [allL_len, roots_len]
  have hs : sameN (mir (allL (roots n) 1 (natP qs))) (allL (roots n) 1 (natP (mirQ (n : Int) qs))) = true := by
    refine sameN_yes (mir_fv hx) (allL_fv hv 1 i2) (by rw [mir_len, hxl, hyl]) fun i k hi hk' => like_iff.2 ?_
    rw [mir_len, hxl] at hi
    have e1 : ∀ j, j < n → rootI (mir (allL (roots n) 1 (natP qs))) j = n - 1 - rootI (allL (roots n) 1 (natP qs)) (n - 1 - j) := fun j hj => by
      have hr := mir_root hx (i := n - 1 - j) (by rw [hxl]; omega)
      rw [hxl, show (n : Int) - 1 - ((n - 1 - j : Nat) : Int) = (j : Int) by omega] at hr
      have a1 := rootN_yes (item_of (mir_fv hx) (i := (j : Int)) (by omega) (by rw [mir_len, hxl]; omega))
      have a2 := rootN_yes (item_of hx (i := ((n - 1 - j : Nat) : Int)) (by omega) (by rw [hxl]; omega))
      rw [a1, a2] at hr
      have := (root_is hx (i := n - 1 - j) (by rw [hxl]; omega)).1
      rw [hxl] at this
      omega
    have b1 := (root_is hx (i := n - 1 - i) (by rw [hxl]; omega)).1
    have b2 := (root_is hx (i := n - 1 - k) (by rw [hxl]; omega)).1
    rw [hxl] at b1 b2
    rw [e1 i hi, e1 k (by omega)]
    have c1 := all_con hv 1 i1 (i := n - 1 - i) (j := n - 1 - k) (by rw [roots_len]; omega) (by rw [roots_len]; omega)
    have c2 := all_con hv 1 i2 (i := i) (j := k) (by rw [roots_len]; omega) (by rw [roots_len]; omega)
    rw [c2]
    constructor
    · intro e
      have := con_mir h1 h2 (fun q hq => (mirP_mem hk).2 ⟨q, hq, rfl⟩) (c1.1 (by omega))
      rwa [show n - 1 - (n - 1 - i) = i by omega, show n - 1 - (n - 1 - k) = k by omega] at this
    · intro c
      have := con_mir h1 h2 (qs := natP qs) (fun q hq => by
        obtain ⟨q', hq', rfl⟩ := (mirP_mem hk).1 hq
        have := okQ_in hk q' hq'
        rw [show n - 1 - (n - 1 - q'.1) = q'.1 by omega, show n - 1 - (n - 1 - q'.2) = q'.2 by omega]
        exact hq') c
      have := c1.2 this
      omega
  have := rowsC_same hs
  rw [mir_rows hx] at this
  omega
end Go.Proofs.Ytebgnaiibomjkaa
