/- Joining by many pairs, one behind the other: plain lists. No program, no condition. -/
import Derived.Test.YtdbkoicbhddpfaaJoin
import Derived.Test.YtdbkoicbhddpfaaHelp
namespace Go.Proofs.Ytdbkoicbhddpfaa

/-- Pairs of ints as pairs of items. -/
def natP (qs : List (Int × Int)) : List (Nat × Nat) := qs.map fun p => (p.1.toNat, p.2.toNat)
theorem natP_len (qs : List (Int × Int)) : (natP qs).length = qs.length := by simp [natP]
theorem natP_take (qs : List (Int × Int)) (k : Nat) : natP (qs.take k) = (natP qs).take k := by simp [natP, List.map_take]
theorem natP_drop (qs : List (Int × Int)) (k : Nat) : natP (qs.drop k) = (natP qs).drop k := by simp [natP, List.map_drop]
theorem natP_get (qs : List (Int × Int)) (k : Nat) : (natP qs)[k]?.getD (0, 0) = ((qs[k]?.getD (0, 0)).1.toNat, (qs[k]?.getD (0, 0)).2.toNat) := by
  unfold natP
  rw [List.getElem?_map]
  cases qs[k]? <;> rfl
/-- All pairs are of n items. -/
def inP (n : Nat) (ps : List (Nat × Nat)) : Prop := ∀ p ∈ ps, p.1 < n ∧ p.2 < n
theorem inP.take {n k : Nat} {ps : List (Nat × Nat)} (h : inP n ps) : inP n (ps.take k) := fun p hp => h p (List.mem_of_mem_take hp)
theorem inP.drop {n k : Nat} {ps : List (Nat × Nat)} (h : inP n ps) : inP n (ps.drop k) := fun p hp => h p (List.mem_of_mem_drop hp)
theorem inP.get {n k : Nat} {ps : List (Nat × Nat)} (h : inP n ps) (hk : k < ps.length) : (ps[k]?.getD (0, 0)).1 < n ∧ (ps[k]?.getD (0, 0)).2 < n := by
  rw [List.getElem?_eq_getElem hk]
  exact h _ (List.getElem_mem hk)
/-- The forest that pairs make. -/
def allL (u : List Int) (r : Int) (ps : List (Nat × Nat)) : List Int := ps.foldl (fun v p => joinL v r p.1 p.2) u
theorem allL_nil (u : List Int) (r : Int) : allL u r [] = u := rfl
theorem allL_append (u : List Int) (r : Int) (ps qs : List (Nat × Nat)) : allL u r (ps ++ qs) = allL (allL u r ps) r qs := by simp [allL]
theorem allL_snoc (u : List Int) (r : Int) (ps : List (Nat × Nat)) (p : Nat × Nat) : allL u r (ps ++ [p]) = joinL (allL u r ps) r p.1 p.2 := by simp [allL]
theorem take_snoc {α : Type} {ps : List α} {k : Nat} (h : k < ps.length) (d : α) : ps.take (k + 1) = ps.take k ++ [ps[k]?.getD d] := by
  rw [List.take_succ_eq_append_getElem h, List.getElem?_eq_getElem h]
  rfl
theorem allL_succ (u : List Int) (r : Int) {ps : List (Nat × Nat)} {k : Nat} (h : k < ps.length) : allL u r (ps.take (k + 1)) = joinL (allL u r (ps.take k)) r (ps[k]?.getD (0, 0)).1 (ps[k]?.getD (0, 0)).2 := by
  rw [take_snoc h (0, 0), allL_snoc]
theorem allL_len (u : List Int) (r : Int) (ps : List (Nat × Nat)) : (allL u r ps).length = u.length := by
  induction ps generalizing u with
  | nil => rfl
  | cons p ps ih => show (allL (joinL u r p.1 p.2) r ps).length = _; rw [ih, joinL_len]
theorem allL_fv {u : List Int} (hv : fvB u = true) (r : Int) {ps : List (Nat × Nat)} (h : inP u.length ps) : fvB (allL u r ps) = true := by
  induction ps generalizing u with
  | nil => exact hv
  | cons p ps ih =>
    have hp := h p (List.mem_cons_self ..)
    refine ih (joinL_fv hv hp.1 hp.2 r) fun q hq => ?_
    rw [joinL_len]
    exact h q (List.mem_cons_of_mem _ hq)
/-- Is pair i useful? -/
def useB (u : List Int) (r : Int) (ps : List (Nat × Nat)) (i : Nat) : Bool := !decide (rootI (allL u r (ps.take i)) (ps[i]?.getD (0, 0)).1 = rootI (allL u r (ps.take i)) (ps[i]?.getD (0, 0)).2)
def useTo (u : List Int) (r : Int) (ps : List (Nat × Nat)) (k : Nat) : List Int := ints ((List.range k).filter (useB u r ps))
theorem useTo_zero (u : List Int) (r : Int) (ps : List (Nat × Nat)) : useTo u r ps 0 = [] := rfl
theorem useTo_yes {u : List Int} {r : Int} {ps : List (Nat × Nat)} {k : Nat} (h : useB u r ps k = true) : useTo u r ps (k + 1) = useTo u r ps k ++ [(k : Int)] := by
  simp [useTo, List.range_succ, List.filter_append, h, ints]
theorem useTo_no {u : List Int} {r : Int} {ps : List (Nat × Nat)} {k : Nat} (h : useB u r ps k = false) : useTo u r ps (k + 1) = useTo u r ps k := by
  simp [useTo, List.range_succ, List.filter_append, h, ints]
theorem useTo_len (u : List Int) (r : Int) (ps : List (Nat × Nat)) (k : Nat) : (useTo u r ps k).length ≤ k := by
  unfold useTo
  rw [ints_len]
  have := List.length_filter_le (useB u r ps) (List.range k)
  simpa using this
/-- Are these valid pairs of n items? -/
def okQ (n : Int) (qs : List (Int × Int)) : Bool := decide (qs.length ≤ 24) && qs.all fun p => decide (0 ≤ min p.1 p.2 ∧ max p.1 p.2 < n)
theorem okQ_parts {n : Int} {qs : List (Int × Int)} (h : okQ n qs = true) : qs.length ≤ 24 ∧ ∀ p ∈ qs, (0 ≤ p.1 ∧ p.1 < n) ∧ 0 ≤ p.2 ∧ p.2 < n := by
  unfold okQ at h
  simp only [Bool.and_eq_true, decide_eq_true_eq, List.all_eq_true] at h
  exact ⟨h.1, fun p hp => by have := h.2 p hp; omega⟩
theorem okQ_of {n : Int} {qs : List (Int × Int)} (h1 : qs.length ≤ 24) (h2 : ∀ p ∈ qs, (0 ≤ p.1 ∧ p.1 < n) ∧ 0 ≤ p.2 ∧ p.2 < n) : okQ n qs = true := by
  unfold okQ
  simp only [Bool.and_eq_true, decide_eq_true_eq, List.all_eq_true]
  exact ⟨h1, fun p hp => by have := h2 p hp; omega⟩
theorem okQ_long {n : Int} {qs : List (Int × Int)} (h : 24 < qs.length) : okQ n qs = false := by
  unfold okQ
  rw [decide_eq_false (by omega)]
  rfl
theorem okQ_bad {n : Int} {qs : List (Int × Int)} {k : Nat} (hk : k < qs.length) (h : ¬ (0 ≤ min (qs[k]?.getD (0, 0)).1 (qs[k]?.getD (0, 0)).2 ∧ max (qs[k]?.getD (0, 0)).1 (qs[k]?.getD (0, 0)).2 < n)) : okQ n qs = false := by
  cases e : okQ n qs with
  | false => rfl
  | true =>
    rw [List.getElem?_eq_getElem hk] at h
    have := (okQ_parts e).2 _ (List.getElem_mem hk)
    simp only [Option.getD_some] at h
    omega
theorem okQ_all {n : Int} {qs : List (Int × Int)} (h1 : qs.length ≤ 24) (h2 : ∀ k, k < qs.length → 0 ≤ min (qs[k]?.getD (0, 0)).1 (qs[k]?.getD (0, 0)).2 ∧ max (qs[k]?.getD (0, 0)).1 (qs[k]?.getD (0, 0)).2 < n) : okQ n qs = true :=
  okQ_of h1 fun p hp => by
    obtain ⟨k, hk, rfl⟩ := List.getElem_of_mem hp
    have := h2 k hk
    rw [List.getElem?_eq_getElem hk] at this
    simp only [Option.getD_some] at this
    omega
theorem okQ_in {n : Nat} {qs : List (Int × Int)} (h : okQ n qs = true) : inP n (natP qs) := by
  intro p hp
  obtain ⟨q, hq, rfl⟩ := List.mem_map.1 hp
  have := (okQ_parts h).2 q hq
  exact ⟨by show q.1.toNat < n; omega, by show q.2.toNat < n; omega⟩
theorem okQ_get {n : Int} {qs : List (Int × Int)} (h : okQ n qs = true) {k : Nat} (hk : k < qs.length) : (qs[k]?.getD (0, 0)).1 = (((natP qs)[k]?.getD (0, 0)).1 : Int) ∧ (qs[k]?.getD (0, 0)).2 = (((natP qs)[k]?.getD (0, 0)).2 : Int) := by
  rw [natP_get, List.getElem?_eq_getElem hk]
  have := (okQ_parts h).2 _ (List.getElem_mem hk)
  simp only [Option.getD_some]
  omega
/-- What JoinAll answers. -/
def jaB (up : List Int) (r : Int) (qs : List (Int × Int)) : Bool := fvB up && inRule r && okQ up.length qs
def jaN (up : List Int) (r : Int) (qs : List (Int × Int)) : List Int := if jaB up r qs = true then allL up r (natP qs) else []
theorem jaN_yes {up : List Int} {r : Int} {qs : List (Int × Int)} (h : jaB up r qs = true) : jaN up r qs = allL up r (natP qs) := by unfold jaN; rw [if_pos h]
theorem jaN_no {up : List Int} {r : Int} {qs : List (Int × Int)} (h : jaB up r qs = false) : jaN up r qs = [] := by unfold jaN; rw [h]; simp
theorem jaB_parts {up : List Int} {r : Int} {qs : List (Int × Int)} (h : jaB up r qs = true) : fvB up = true ∧ (0 ≤ r ∧ r ≤ 2) ∧ okQ up.length qs = true := by
  unfold jaB inRule at h
  simp only [Bool.and_eq_true, decide_eq_true_eq] at h
  exact ⟨h.1.1, h.1.2, h.2⟩
theorem jaB_of {up : List Int} {r : Int} {qs : List (Int × Int)} (h1 : fvB up = true) (h2 : 0 ≤ r ∧ r ≤ 2) (h3 : okQ up.length qs = true) : jaB up r qs = true := by
  unfold jaB inRule
  rw [h1, decide_eq_true h2, h3]
  rfl
theorem jaB_fv {up : List Int} {r : Int} {qs : List (Int × Int)} (h : fvB up = false) : jaB up r qs = false := by unfold jaB; rw [h]; rfl
theorem jaB_rule {up : List Int} {r : Int} {qs : List (Int × Int)} (h : ¬ (0 ≤ r ∧ r ≤ 2)) : jaB up r qs = false := by unfold jaB inRule; rw [decide_eq_false h]; simp
theorem jaB_ok {up : List Int} {r : Int} {qs : List (Int × Int)} (h : okQ up.length qs = false) : jaB up r qs = false := by unfold jaB; rw [h]; simp
theorem jaN_len16 (up : List Int) (r : Int) (qs : List (Int × Int)) : (jaN up r qs).length ≤ 16 := by
  cases h : jaB up r qs with
  | false => rw [jaN_no h]; simp
  | true => rw [jaN_yes h, allL_len]; exact (fv_parts (jaB_parts h).1).2.1
/-- What UsefulPairs answers, and CountClasses. -/
def usB (n : Int) (qs : List (Int × Int)) : Bool := newOk n && okQ n qs
def usN (n : Int) (qs : List (Int × Int)) : List Int := if usB n qs = true then useTo (roots n.toNat) 1 (natP qs) qs.length else []
def ccN (n : Int) (qs : List (Int × Int)) : Int := if usB n qs = true then n - (usN n qs).length else -1
theorem usB_parts {n : Int} {qs : List (Int × Int)} (h : usB n qs = true) : (1 ≤ n ∧ n ≤ 16) ∧ okQ n qs = true := by
  unfold usB newOk at h
  simp only [Bool.and_eq_true, decide_eq_true_eq] at h
  exact h
theorem usB_of {n : Int} {qs : List (Int × Int)} (h1 : 1 ≤ n ∧ n ≤ 16) (h2 : okQ n qs = true) : usB n qs = true := by
  unfold usB newOk
  rw [decide_eq_true h1, h2]
  rfl
theorem usB_n {n : Int} {qs : List (Int × Int)} (h : ¬ (1 ≤ n ∧ n ≤ 16)) : usB n qs = false := by unfold usB newOk; rw [decide_eq_false h]; rfl
theorem usB_ok {n : Int} {qs : List (Int × Int)} (h : okQ n qs = false) : usB n qs = false := by unfold usB; rw [h]; simp
theorem usN_yes {n : Int} {qs : List (Int × Int)} (h : usB n qs = true) : usN n qs = useTo (roots n.toNat) 1 (natP qs) qs.length := by unfold usN; rw [if_pos h]
theorem usN_no {n : Int} {qs : List (Int × Int)} (h : usB n qs = false) : usN n qs = [] := by unfold usN; rw [h]; simp
theorem usN_len (n : Int) (qs : List (Int × Int)) : (usN n qs).length ≤ 24 := by
  cases h : usB n qs with
  | false => rw [usN_no h]; simp
  | true =>
    rw [usN_yes h]
    have := useTo_len (roots n.toNat) 1 (natP qs) qs.length
    have := (okQ_parts (usB_parts h).2).1
    omega
theorem roots_step {n i : Nat} (h : i < n) : step (roots n) i = none := by
  unfold step
  rw [roots_get h, if_pos rfl]
theorem roots_fv {n : Nat} (h1 : 1 ≤ n) (h2 : n ≤ 16) : fvB (roots n) = true := by
  refine fv_of (by rw [roots_len]; exact h1) (by rw [roots_len]; exact h2) (fun i hi => ?_) fun i hi => ?_
  · rw [roots_len] at hi ⊢
    rw [roots_get hi]
    omega
  · rw [roots_len] at hi ⊢
    obtain ⟨m, rfl⟩ : ∃ m, n = m + 1 := ⟨n - 1, by omega⟩
    unfold way
    rw [roots_step hi]
    simp
theorem roots_rootI {n i : Nat} (h1 : 1 ≤ n) (h2 : n ≤ 16) (h : i < n) : rootI (roots n) i = i := rootI_root (roots_fv h1 h2) (roots_step h)
end Go.Proofs.Ytdbkoicbhddpfaa
