/- How many classes pairs leave: each useful pair takes one. No program, no condition. -/
import Derived.Test.YtfafgihfgdpclaaCon
import Derived.Test.YtfafgihfgdpclaaCount
namespace Go.Proofs.Ytfafgihfgdpclaa

/-- How many classes there are. -/
def rowsC (u : List Int) : Nat := (rowsTo u u.length).length
theorem joinL_rows {u : List Int} (hv : fvB u = true) {a b : Nat} (ha : a < u.length) (hb : b < u.length) (r : Int) : rowsC (joinL u r a b) + (if rootI u a = rootI u b then 0 else 1) = rowsC u := by
  unfold joinL
  by_cases h : rootI u a = rootI u b
  · rw [if_pos h, if_pos h]; rfl
  · rw [if_neg h, if_neg h, joinTo_low]
    exact hang_rows (low_two (roots_two hv ha hb h) r)
theorem all_rows {u : List Int} (hv : fvB u = true) (r : Int) {ps : List (Nat × Nat)} (h : inP u.length ps) : ∀ {k : Nat}, k ≤ ps.length → rowsC (allL u r (ps.take k)) + (useTo u r ps k).length = rowsC u
  | 0, _ => by simp [allL, useTo_zero]
  | k + 1, hk => by
    have ih := all_rows hv r h (k := k) (by omega)
    have hp := h.get (k := k) (by omega)
    have hj := joinL_rows (allL_fv hv r h.take) (a := (ps[k]?.getD (0, 0)).1) (b := (ps[k]?.getD (0, 0)).2) (by rw [allL_len]; exact hp.1) (by rw [allL_len]; exact hp.2) r (u := allL u r (ps.take k))
    rw [← allL_succ u r (by omega)] at hj
    by_cases e : rootI (allL u r (ps.take k)) (ps[k]?.getD (0, 0)).1 = rootI (allL u r (ps.take k)) (ps[k]?.getD (0, 0)).2
    · have hu : useB u r ps k = false := by unfold useB; rw [decide_eq_true e]; rfl
      rw [if_pos e] at hj
      rw [useTo_no hu]
      omega
    · have hu : useB u r ps k = true := by unfold useB; rw [decide_eq_false e]; rfl
      rw [if_neg e] at hj
      rw [useTo_yes hu, List.length_append, List.length_singleton]
      omega
theorem all_rows_end {u : List Int} (hv : fvB u = true) (r : Int) {ps : List (Nat × Nat)} (h : inP u.length ps) : rowsC (allL u r ps) + (useTo u r ps ps.length).length = rowsC u := by
  have := all_rows hv r h (Nat.le_refl _)
  rwa [List.take_length] at this
theorem rows_roots_n {n : Nat} (h1 : 1 ≤ n) (h2 : n ≤ 16) : rowsC (roots n) = n := by
  unfold rowsC
  rw [rows_roots (roots_fv h1 h2), roots_len]
  unfold rootsTo
  rw [List.filter_eq_self.2 (fun i hi => by rw [roots_get (List.mem_range.1 hi)]; simp)]
  simp
theorem rowsN_C {u : List Int} (hv : fvB u = true) : (rowsN u).length = rowsC u := by
  unfold rowsN rowsC
  rw [if_pos hv]
end Go.Proofs.Ytfafgihfgdpclaa
