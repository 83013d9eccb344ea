/- Joining by many pairs, one behind the other: plain lists. No program, no condition. -/
import Derived.Test.YtebgnaiibomjkaaJoin
import Derived.Test.YtebgnaiibomjkaaHelp
namespace Go.Proofs.Ytebgnaiibomjkaa

/-- Pairs of ints as pairs of items. -/
def natP (qs : List (Int × Int)) : List (Nat × Nat) := qs.map fun p => (p.1.toNat, p.2.toNat)
theorem natP_len (qs : List (Int × Int)) : (natP qs).length = qs.length := by simp [natP]
theorem natP_take (qs : List (Int × Int)) (k : Nat) : natP (qs.take k) = (natP qs).take k := by simp [natP, List.map_take]
theorem natP_drop (qs : List (Int × Int)) (k : Nat) : natP (qs.drop k) = (natP qs).drop k := by simp [natP, List.map_drop]
theorem natP_get (qs : List (Int × Int)) (k : Nat) : (natP qs)[k]?.getD (0, 0) = ((qs[k]?.getD (0, 0)).1.toNat, (qs[k]?.getD (0, 0)).2.toNat) := by
  unfold natP
  rw [List.getElem?_map]
  cases qs[k]? <;> rfl
/-- All pairs are of n items. -/
def inP (n : Nat) (ps : List (Nat × Nat)) : Prop := ∀ p ∈ ps, p.1 < n ∧ p.2 < n
theorem inP.take {n k : Nat} {ps : List (Nat × Nat)} (h : inP n ps) : inP n (ps.take k) := fun p hp => h p (List.mem_of_mem_take hp)
theorem inP.drop {n k : Nat} {ps : List (Nat × Nat)} (h : inP n ps) : inP n (ps.drop k) := fun p hp => h p (List.mem_of_mem_drop hp)
theorem inP.get {n k : Nat} {ps : List (Nat × Nat)} (h : inP n ps) (hk : k < ps.length) : (ps[k]?.getD (0, 0)).1 < n ∧ (ps[k]?.getD (0, 0)).2 < n := by
  rw [List.getElem?_eq_getElem hk]
  exact h _ (List.getElem_mem hk)
/-- The forest that pairs make. -/
def allL (u : List Int) (r : Int) (ps : List (Nat × Nat)) : List Int := ps.foldl (fun v p => joinL v r p.1 p.2) u
theorem allL_nil (u : List Int) (r : Int) : allL u r [] = u := rfl
theorem allL_append (u : List Int) (r : Int) (ps qs : List (Nat × Nat)) : allL u r (ps ++ qs) = allL (allL u r ps) r qs := by simp [allL]
theorem allL_snoc (u : List Int) (r : Int) (ps : List (Nat × Nat)) (p : Nat × Nat) : allL u r (ps ++ [p]) = joinL (allL u r ps) r p.1 p.2 := by simp [allL]
theorem take_snoc {α : Type} {ps : List α} {k : Nat} (h : k < ps.length) (d : α) : ps.take (k + 1) = ps.take k ++ [ps[k]?.getD d] := by
  rw [List.take_succ_eq_append_getElem h, List.getElem?_eq_getElem h]
  rfl
theorem allL_succ (u : List Int) (r : Int) {ps : List (Nat × Nat)} {k : Nat} (h : k < ps.length) : allL u r (ps.take (k + 1)) = joinL (allL u r (ps.take k)) r (ps[k]?.getD (0, 0)).1 (ps[k]?.getD (0, 0)).2 := by
  rw [take_snoc h (0, 0), allL_snoc]
theorem allL_len (u : List Int) (r : Int) (ps : List (Nat × Nat)) : (allL u r ps).length = u.length := by
  induction ps generalizing u with
  | nil => rfl
  | cons p ps ih => show (allL (joinL u r p.1 p.2) r ps).length = _; rw [ih, joinL_len]
theorem allL_fv {u : List Int} (hv : fvB u = true) (r : Int) {ps : List (Nat × Nat)} (h : inP u.length ps) : fvB (allL u r ps) = true := by
  induction ps generalizing u with
  | nil => exact hv
  | cons p ps ih =>
    have hp := h p (List.mem_cons_self ..)
    refine ih (joinL_fv hv hp.1 hp.2 r) fun q hq => ?_
    rw [joinL_len]
    exact h q (List.mem_cons_of_mem _ hq)
/-- Is pair i useful? -/
def useB (u : List Int) (r : Int) (ps : List (Nat × Nat)) (i : Nat) : Bool := !decide (rootI (allL u r (ps.take i)) (ps[i]?.getD (0, 0)).1 = rootI (allL u r (ps.take i)) (ps[i]?.getD (0, 0)).2)
def useTo (u : List Int) (r : Int) (ps : List (Nat × Nat)) (k : Nat) : List Int := ints ((List.range k).filter (useB u r ps))
theorem useTo_zero (u : List Int) (r : Int) (ps : List (Nat × Nat)) : useTo u r ps 0 = [] := rfl
theorem useTo_yes {u : List Int} {r : Int} {ps : List (Nat × Nat)} {k : Nat} (h : useB u r ps k = true) : useTo u r ps (k + 1) = useTo u r ps k ++ [(k : Int)] := by
  simp [useTo, List.range_succ, List.filter_append, h, ints]
theorem useTo_no {u : List Int} {r : Int} {ps : List (Nat × Nat)} {k : Nat} (h : useB u r ps k = false) : useTo u r ps (k + 1) = useTo u r ps k := by
  simp [useTo, List.range_succ, List.filter_append, h, ints]
theorem useTo_len (u : List Int) (r : Int) (ps : List (Nat × Nat)) (k : Nat) : (useTo u r ps k).length ≤ k := by
  unfold useTo
  rw [ints_len]
  have := List.length_filter_le (useB u r ps) (List.range k)
  simpa using this
/-- Are these valid pairs of n items? -/
def okQ (n : Int) (qs : List (Int × Int)) : Bool := decide (qs.length ≤ 24) && qs.all fun p => decide (0 ≤ min p.1 p.2 ∧ max p.1 p.2 < n)
theorem okQ_parts {n : Int} {qs : List (Int × Int)} (h : okQ n qs = true) : qs.length ≤ 24 ∧ ∀ p ∈ qs, (0 ≤ p.1 ∧ p.1 < n) ∧ 0 ≤ p.2 ∧ p.2 < n := by
  unfold okQ at h
  simp only [Bool.and_eq_true, decide_eq_true_eq, List.all_eq_true] at h
  exact ⟨h.1, fun p hp => by have := h.2 p hp; omega⟩
theorem okQ_of {n : Int} {qs : List (Int × Int)} (h1 : qs.length ≤ 24) (h2 : ∀ p ∈ qs, (0 ≤ p.1 ∧ p.1 < n) ∧ 0 ≤ p.2 ∧ p.2 < n) : okQ n qs = true := by
  unfold okQ
  simp only [Bool.and_eq_true, decide_eq_true_eq, List.all_eq_true]
  exact ⟨h1, fun p hp => by have := h2 p hp; omega⟩
theorem okQ_long {n : Int} {qs : List (Int × Int)} (h : 24 < qs.length) : okQ n qs = false := by
  unfold okQ
  rw [decide_eq_false (by omega)]
  rfl
theorem okQ_bad {n : Int} {qs : List (Int × Int)} {k : Nat} (hk : k < qs.length) (h : ¬ (0 ≤ min (qs[k]?.getD (0, 0)).1 (qs[k]?.getD (0, 0)).2 ∧ max (qs[k]?.getD (0, 0)).1 (qs[k]?.getD (0, 0)).2 < n)) : okQ n qs = false := by
  cases e : okQ n qs with
  | false => rfl
  | true =>
    rw [List.getElem?_eq_getElem hk] at h
    have := (okQ_parts e).2 _ (List.getElem_mem hk)
    simp only [Option.getD_some] at h
    omega
theorem okQ_all {n : Int} {qs : List (Int × Int)} (h1 : qs.length ≤ 24) (h2 : ∀ k, k < qs.length → 0 ≤ min (qs[k]?.getD (0, 0)).1 (qs[k]?.getD (0, 0)).2 ∧ max (qs[k]?.getD (0, 0)).1 (qs[k]?.getD (0, 0)).2 < n) : okQ n qs = true :=
  okQ_of h1 fun p hp => by
    obtain ⟨k, hk, rfl⟩ := List.getElem_of_mem hp
    have := h2 k hk
    rw [List.getElem?_eq_getElem hk] at this
    simp only [Option.getD_some] at this
    omega
theorem okQ_in {n : Nat} {qs : List (Int × Int)} (h : okQ n qs = true) : inP n (natP qs) := by
  intro p hp
  obtain ⟨q, hq, rfl⟩ := List.mem_map.1 hp
  have := (okQ_parts h).2 q hq
  exact ⟨by show q.1.toNat < n; omega, by show q.2.toNat < n; omega⟩
theorem okQ_get {n : Int} {qs : List (Int × Int)} (h : okQ n qs = true) {k : Nat} (hk : k < qs.length) : (qs[k]?.getD (0, 0)).1 = (((natP qs)[k]?.getD (0, 0)).1 : Int) ∧ (qs[k]?.getD (0, 0)).2 = (((natP qs)[k]?.getD (0, 0)).2 : Int) := by
  rw [natP_get, List.getElem?_eq_getElem hk]
  have := (okQ_parts h).2 _ (List.getElem_mem hk)
  simp only [Option.getD_some]
  omega
/-- What JoinAll answers. -/
def jaB (up : List Int) (r : Int) (qs : List (Int × Int)) : Bool := fvB up && inRule r && okQ up.length qs
def jaN (up : List Int) (r : Int) (qs : List (Int × Int)) : List Int := if jaB up r qs = true then allL up r (natP qs) else []
theorem jaN_yes {up : List Int} {r : Int} {qs : List (Int × Int)} (h : jaB up r qs = true) : jaN up r qs = allL up r (natP qs) := by unfold jaN; rw [if_pos h]
theorem jaN_no {up : List Int} {r : Int} {qs : List (Int × Int)} (h : jaB up r qs = false) : jaN up r qs = [] := by unfold jaN; rw [h]; simp
theorem jaB_parts {up : List Int} {r : Int} {qs : List (Int × Int)} (h : jaB up r qs = true) : fvB up = true ∧ (0 ≤ r ∧ r ≤ 2) ∧ okQ up.length qs = true := by
  unfold jaB inRule at h
  simp only [Bool.and_eq_true, decide_eq_true_eq] at h
  exact ⟨h.1.1, h.1.2, h.2⟩
theorem jaB_of {up : List Int} {r : Int} {qs : List (Int × Int)} (h1 : fvB up = true) (h2 : 0 ≤ r ∧ r ≤ 2) (h3 : okQ up.length qs = true) : jaB up r qs = true := by
  unfold jaB inRule
  rw [h1, decide_eq_true h2, h3]
  rfl
theorem jaB_fv {up : List Int} {r : Int} {qs : List (Int × Int)} (h : fvB up = false) : jaB up r qs = false := by unfold jaB; rw [h]; rfl
theorem jaB_rule {up : List Int} {r : Int} {qs : List (Int × Int)} (h : ¬ (0 ≤ r ∧ r ≤ 2)) : jaB up r qs = false := by unfold jaB inRule; rw [decide_eq_false h]; simp
theorem jaB_ok {up : List Int} {r : Int} {qs : List (Int × Int)} (h : okQ up.length qs = false) : jaB up r qs = false := by unfold jaB; rw [h]; simp
theorem jaN_len16 (up : List Int) (r : Int) (qs : List (Int × Int)) : (jaN up r qs).length ≤ 16 := by
  cases h : jaB up r qs with
  | false => rw [jaN_no h]; simp
  | true => rw [jaN_yes h, allL_len]; exact (fv_parts (jaB_parts h).1).2.1
/-- What UsefulPairs answers, and CountClasses. -/
def usB (n : Int) (qs : List (Int × Int)) : Bool := newOk n && okQ n qs
def usN (n : Int) (qs : List (Int × Int)) : List Int := if usB n qs = true then useTo (roots n.toNat) 1 (natP qs) qs.length else []
def ccN (n : Int) (qs : List (Int × Int)) : Int := if usB n qs = true then n - (usN n qs).length else -1
theorem usB_parts {n : Int} {qs : List (Int × Int)} (h : usB n qs = true) : (1 ≤ n ∧ n ≤ 16) ∧ okQ n qs = true := by
  unfold usB newOk at h
  simp only [Bool.and_eq_true, decide_eq_true_eq] at h
  exact h
theorem usB_of {n : Int} {qs : List (Int × Int)} (h1 : 1 ≤ n ∧ n ≤ 16) (h2 : okQ n qs = true) : usB n qs = true := by
  unfold usB newOk
  rw [decide_eq_true h1, h2]
  rfl
theorem usB_n {n : Int} {qs : List (Int × Int)} (h : ¬ (1 ≤ n ∧ n ≤ 16)) : usB n qs = false := by unfold usB newOk; rw [decide_eq_false h]; rfl
theorem usB_ok {n : Int} {qs : List (Int × Int)} (h : okQ n qs = false) : usB n qs = false := by unfold usB; rw [h]; simp
theorem usN_yes {n : Int} {qs : List (Int × Int)} (h : usB n qs = true) : usN n qs = useTo (roots n.toNat) 1 (natP qs) qs.length := by unfold usN; rw [if_pos h]
theorem usN_no {n : Int} {qs : List (Int × Int)} (h : usB n qs = false) : usN n qs = [] := by unfold usN; rw [h]; simp
theorem usN_len (n : Int) (qs : List (Int × Int)) : (usN n qs).length ≤ 24 := by
  cases h : usB n qs with
  | false => rw [usN_no h]; simp
  | true =>
    rw [usN_yes h]
    have := useTo_len (roots n.toNat) 1 (natP qs) qs.length
    have := (okQ_parts (usB_parts h).2).1
    omega
theorem roots_step {n i : Nat} (h : i < n) : step (roots n) i = none := by
  unfold step
  rw [roots_get h, if_pos rfl]
theorem roots_fv {n : Nat} (h1 : 1 ≤ n) (h2 : n ≤ 16) : fvB (roots n) = true := by
  refine fv_of (by rw [roots_len]; exact h1) (by rw [roots_len]; exact h2) (fun i hi => ?_) fun i hi => ?_
  · rw [roots_len] at hi ⊢
    rw [roots_get hi]
    omega
  · rw [roots_len] at hi ⊢
    obtain ⟨m, rfl⟩ : ∃ m, n = m + 1 := ⟨n - 1, by omega⟩
    unfold way
    rw [roots_step hi]
    simp
theorem roots_rootI {n i : Nat} (h1 : 1 ≤ n) (h2 : n ≤ 16) (h : i < n) : rootI (roots n) i = i := rootI_root (roots_fv h1 h2) (roots_step h)
end Go.Proofs.Ytebgnaiibomjkaa

namespace Go.Proofs.Ytebgnaiibomjkaa

def stR (u : List Int) (a b : Nat) : Nat := if rootI u a = rootI u b then 0 else lowI u 1 (rootI u a) (rootI u b)
def stT (u : List Int) (a b : Nat) : Nat := if rootI u a = rootI u b then 0 else uppI u 1 (rootI u a) (rootI u b)
/-- The steps behind joining two items. -/
def joinSt (u : List Int) (a b : Nat) (ss : List (Int × Int)) : List (Int × Int) := if rootI u a = rootI u b then ss else ss ++ [((stR u a b : Int), (stT u a b : Int))]
/-- The steps of joining pairs, one behind the other. -/
def stepsTo (u : List Int) : List (Nat × Nat) → List (Int × Int) → List (Int × Int)
  | [], ss => ss
  | p :: ps, ss => stepsTo (joinL u 1 p.1 p.2) ps (joinSt u p.1 p.2 ss)
theorem stepsTo_snoc (p : Nat × Nat) : ∀ (ps : List (Nat × Nat)) (u : List Int) (ss : List (Int × Int)), stepsTo u (ps ++ [p]) ss = joinSt (allL u 1 ps) p.1 p.2 (stepsTo u ps ss)
  | [], _, _ => rfl
  | q :: ps, u, ss => stepsTo_snoc p ps (joinL u 1 q.1 q.2) (joinSt u q.1 q.2 ss)
def logB (n : Int) (qs : List (Int × Int)) : Bool := usB n qs
def logUp (n : Int) (qs : List (Int × Int)) : List Int := if logB n qs = true then allL (roots n.toNat) 1 (natP qs) else []
def logSteps (n : Int) (qs : List (Int × Int)) : List (Int × Int) := if logB n qs = true then stepsTo (roots n.toNat) (natP qs) [] else []
/-- Whether a step can be done in a forest by sizes. -/
def okStep (u : List Int) (s : Int × Int) : Bool :=
  decide (0 ≤ s.1 ∧ s.1 < (u.length : Int)) && decide (0 ≤ s.2 ∧ s.2 < (u.length : Int)) && !decide (s.1 = s.2) && decide (u[s.1.toNat]?.getD 0 = s.1) && decide (u[s.2.toNat]?.getD 0 = s.2) && underB u 1 s.1.toNat s.2.toNat
/-- The forest that steps make, if each one can be done. -/
def builtL : List Int → List (Int × Int) → Option (List Int)
  | u, [] => some u
  | u, s :: ss => if okStep u s = true then builtL (u.set s.1.toNat s.2) ss else none
theorem builtL_cons (u : List Int) (s : Int × Int) (ss : List (Int × Int)) : builtL u (s :: ss) = if okStep u s = true then builtL (u.set s.1.toNat s.2) ss else none := rfl
theorem builtL_append (ys : List (Int × Int)) : ∀ (xs : List (Int × Int)) (u : List Int), builtL u (xs ++ ys) = (builtL u xs).bind fun v => builtL v ys
  | [], _ => rfl
  | x :: xs, u => by
    rw [List.cons_append, builtL_cons, builtL_cons]
    split
    · exact builtL_append ys xs _
    · rfl
theorem builtL_snoc {u v : List Int} {xs : List (Int × Int)} (s : Int × Int) (h : builtL u xs = some v) : builtL u (xs ++ [s]) = if okStep v s = true then some (v.set s.1.toNat s.2) else none := by
  rw [builtL_append, h]
  rfl
theorem okStep_parts {u : List Int} {s : Int × Int} (h : okStep u s = true) : (0 ≤ s.1 ∧ s.1 < (u.length : Int)) ∧ (0 ≤ s.2 ∧ s.2 < (u.length : Int)) ∧ s.1 ≠ s.2 ∧ u[s.1.toNat]?.getD 0 = s.1 ∧ u[s.2.toNat]?.getD 0 = s.2 ∧ underB u 1 s.1.toNat s.2.toNat = true := by
  unfold okStep at h
  simp only [Bool.and_eq_true, decide_eq_true_eq, Bool.not_eq_true', decide_eq_false_iff_not] at h
  obtain ⟨⟨⟨⟨⟨h1, h2⟩, h3⟩, h4⟩, h5⟩, h6⟩ := h
  exact ⟨h1, h2, h3, h4, h5, h6⟩
theorem okStep_of {u : List Int} {s : Int × Int} (h1 : 0 ≤ s.1 ∧ s.1 < (u.length : Int)) (h2 : 0 ≤ s.2 ∧ s.2 < (u.length : Int)) (h3 : s.1 ≠ s.2) (h4 : u[s.1.toNat]?.getD 0 = s.1) (h5 : u[s.2.toNat]?.getD 0 = s.2) (h6 : underB u 1 s.1.toNat s.2.toNat = true) : okStep u s = true := by
  unfold okStep
  simp only [Bool.and_eq_true, decide_eq_true_eq, Bool.not_eq_true', decide_eq_false_iff_not]
  exact ⟨⟨⟨⟨⟨h1, h2⟩, h3⟩, h4⟩, h5⟩, h6⟩
theorem okStep_two {u : List Int} (hv : fvB u = true) {s : Int × Int} (h : okStep u s = true) : Two u s.1.toNat s.2.toNat ∧ u.set s.1.toNat s.2 = hang u s.1.toNat s.2.toNat := by
  obtain ⟨h1, h2, h3, h4, h5, _⟩ := okStep_parts h
  refine ⟨⟨hv, by omega, by omega, ?_, ?_, by omega⟩, ?_⟩
  · unfold step
    rw [h4, if_pos (by omega)]
  · unfold step
    rw [h5, if_pos (by omega)]
  · unfold hang
    rw [show ((s.2.toNat : Nat) : Int) = s.2 by omega]
theorem built_fv {v : List Int} : ∀ {ss : List (Int × Int)} {u : List Int}, fvB u = true → builtL u ss = some v → fvB v = true ∧ v.length = u.length
  | [], u, hv, h => by
    have h' : some u = some v := h
    injection h' with e
    subst e
    exact ⟨hv, rfl⟩
  | s :: ss, u, hv, h => by
    rw [builtL_cons] at h
    split at h
    · rename_i hk
      obtain ⟨T, e⟩ := okStep_two hv hk
      rw [e] at h
      obtain ⟨a, b⟩ := built_fv (hang_fv T) h
      exact ⟨a, by rw [b, hang_len]⟩
    · cases h
theorem under_low {u : List Int} {p q : Nat} (h : p ≠ q) : underB u 1 (lowI u 1 p q) (uppI u 1 p q) = true := by
  unfold lowI uppI
  cases e : underB u 1 p q with
  | true => simpa using e
  | false =>
    have := under_not (up := u) h (r := 1) (by decide)
    rw [e] at this
    simp at this
    simpa using this
theorem isroot_link {u : List Int} {p : Nat} (h : step u p = none) : u[p]?.getD 0 = (p : Int) := by
  unfold step at h
  split at h
  · assumption
  · cases h
/-- The step of joining two items can be done, and makes that forest. -/
theorem ok_join {u : List Int} (hv : fvB u = true) {a b : Nat} (ha : a < u.length) (hb : b < u.length) (hne : rootI u a ≠ rootI u b) :
    okStep u ((stR u a b : Int), (stT u a b : Int)) = true ∧ u.set (stR u a b) (stT u a b : Int) = joinL u 1 a b := by
  have T2 := low_two (roots_two hv ha hb hne) 1
  have e1 : stR u a b = lowI u 1 (rootI u a) (rootI u b) := by unfold stR; rw [if_neg hne]
  have e2 : stT u a b = uppI u 1 (rootI u a) (rootI u b) := by unfold stT; rw [if_neg hne]
  rw [← e1, ← e2] at T2
  have hp := T2.hp
  have hq := T2.hq
  have hn := T2.ne
  refine ⟨okStep_of ⟨by omega, by omega⟩ ⟨by omega, by omega⟩ (by omega) ?_ ?_ ?_, ?_⟩
  · exact isroot_link T2.rp
  · exact isroot_link T2.rq
  · show underB u 1 (stR u a b) (stT u a b) = true
    rw [e1, e2]
    exact under_low hne
  · unfold joinL
    rw [if_neg hne, joinTo_low, ← e1, ← e2]
    rfl
theorem built_join {n : Nat} {u : List Int} (hv : fvB u = true) {a b : Nat} (ha : a < u.length) (hb : b < u.length) {ss : List (Int × Int)} (h : builtL (roots n) ss = some u) : builtL (roots n) (joinSt u a b ss) = some (joinL u 1 a b) := by
  unfold joinSt
  by_cases hne : rootI u a = rootI u b
  · rw [if_pos hne]
    unfold joinL
    rw [if_pos hne]
    exact h
  · obtain ⟨h1, h2⟩ := ok_join hv ha hb hne
    rw [if_neg hne, builtL_snoc _ h, if_pos h1]
    show some (u.set ((stR u a b : Int)).toNat _) = _
    rw [Int.toNat_natCast, h2]
theorem built_all {n : Nat} : ∀ {ps : List (Nat × Nat)} {u : List Int} {ss : List (Int × Int)}, fvB u = true → inP u.length ps → builtL (roots n) ss = some u → builtL (roots n) (stepsTo u ps ss) = some (allL u 1 ps)
  | [], _, _, _, _, h => h
  | p :: ps, u, ss, hv, hi, h => by
    have h0 := hi p (by simp)
    have := built_all (ps := ps) (u := joinL u 1 p.1 p.2) (joinL_fv hv h0.1 h0.2 1) (fun q hq => by rw [joinL_len]; exact hi q (by simp [hq])) (built_join hv h0.1 h0.2 h)
    exact this
/-- Behind k steps; and if the next one cannot be done, all cannot be. -/
theorem built_next {u v : List Int} {ss : List (Int × Int)} {k : Nat} (hk : k < ss.length) (h : builtL u (ss.take k) = some v) :
    (okStep v (ss[k]?.getD (0, 0)) = true → builtL u (ss.take (k + 1)) = some (v.set (ss[k]?.getD (0, 0)).1.toNat (ss[k]?.getD (0, 0)).2)) ∧ (okStep v (ss[k]?.getD (0, 0)) = false → builtL u ss = none) := by
  constructor
  · intro e
    rw [take_snoc hk (0, 0), builtL_snoc _ h, if_pos e]
  · intro e
    have hs : ss = ss.take k ++ (ss[k]?.getD (0, 0)) :: ss.drop (k + 1) := by
      rw [List.getElem?_eq_getElem hk, Option.getD_some, ← List.drop_eq_getElem_cons hk, List.take_append_drop]
    rw [hs, builtL_append, h]
    show builtL v (_ :: _) = none
    rw [builtL_cons, e]
    rfl
/-- Whether a log is valid. -/
def logV (xs : List Int) (ss : List (Int × Int)) : Bool := decide (1 ≤ xs.length ∧ xs.length ≤ 16) && decide (builtL (roots xs.length) ss = some xs)
theorem logV_parts {xs : List Int} {ss : List (Int × Int)} (h : logV xs ss = true) : (1 ≤ xs.length ∧ xs.length ≤ 16) ∧ builtL (roots xs.length) ss = some xs ∧ fvB xs = true := by
  unfold logV at h
  simp only [Bool.and_eq_true, decide_eq_true_eq] at h
  exact ⟨h.1, h.2, (built_fv (roots_fv h.1.1 h.1.2) h.2).1⟩
theorem logV_of {xs : List Int} {ss : List (Int × Int)} (h1 : 1 ≤ xs.length ∧ xs.length ≤ 16) (h2 : builtL (roots xs.length) ss = some xs) : logV xs ss = true := by
  unfold logV
  simp only [Bool.and_eq_true, decide_eq_true_eq]
  exact ⟨h1, h2⟩
theorem logV_n {xs : List Int} {ss : List (Int × Int)} (h : ¬ (1 ≤ xs.length ∧ xs.length ≤ 16)) : logV xs ss = false := by unfold logV; rw [decide_eq_false h]; rfl
theorem logV_b {xs : List Int} {ss : List (Int × Int)} (h : builtL (roots xs.length) ss ≠ some xs) : logV xs ss = false := by unfold logV; rw [decide_eq_false h]; simp
theorem logV_join {xs : List Int} {ss : List (Int × Int)} {a b : Nat} (h : logV xs ss = true) (ha : a < xs.length) (hb : b < xs.length) : logV (joinL xs 1 a b) (joinSt xs a b ss) = true := by
  obtain ⟨h1, h2, h3⟩ := logV_parts h
  refine logV_of (by rw [joinL_len]; exact h1) ?_
  rw [joinL_len]
  exact built_join h3 ha hb h2
theorem logV_roots {n : Nat} (h1 : 1 ≤ n) (h2 : n ≤ 16) : logV (roots n) [] = true := logV_of (by rw [roots_len]; exact ⟨h1, h2⟩) (by rw [roots_len]; rfl)
/-- JoinLog's answer. -/
def jlB (xs : List Int) (ss : List (Int × Int)) (a b : Int) : Bool := logV xs ss && itemB xs a && itemB xs b && !decide (rootN xs a = rootN xs b)
def jlUp (xs : List Int) (ss : List (Int × Int)) (a b : Int) : List Int := if jlB xs ss a b = true then joinL xs 1 a.toNat b.toNat else []
def jlSt (xs : List Int) (ss : List (Int × Int)) (a b : Int) : List (Int × Int) := if jlB xs ss a b = true then joinSt xs a.toNat b.toNat ss else []
/-- The roots behind a join. -/
theorem joinL_root {u : List Int} (hv : fvB u = true) {a b : Nat} (ha : a < u.length) (hb : b < u.length) (r : Int) {i : Nat} (hi : i < u.length) :
    rootI (joinL u r a b) i = if rootI u a = rootI u b then rootI u i else if rootI u i = lowI u r (rootI u a) (rootI u b) then uppI u r (rootI u a) (rootI u b) else rootI u i := by
  unfold joinL
  by_cases h : rootI u a = rootI u b
  · rw [if_pos h, if_pos h]
  · rw [if_neg h, if_neg h, joinTo_low]
    exact hang_root (low_two (roots_two hv ha hb h) r) hi
theorem low_upp (u : List Int) (r : Int) (p q : Nat) : (lowI u r p q = p ∧ uppI u r p q = q) ∨ (lowI u r p q = q ∧ uppI u r p q = p) := by
  unfold lowI uppI
  split
  · exact .inl ⟨rfl, rfl⟩
  · exact .inr ⟨rfl, rfl⟩
/-- Whoever is together in the end was so, or the two have been joined. -/
theorem joinL_only {u : List Int} (hv : fvB u = true) {a b : Nat} (ha : a < u.length) (hb : b < u.length) (r : Int) {i j : Nat} (hi : i < u.length) (hj : j < u.length) (h : rootI (joinL u r a b) i = rootI (joinL u r a b) j) :
    rootI u i = rootI u j ∨ (rootI u i = rootI u a ∧ rootI u j = rootI u b) ∨ (rootI u i = rootI u b ∧ rootI u j = rootI u a) := by
  rw [joinL_root hv ha hb r hi, joinL_root hv ha hb r hj] at h
  by_cases e : rootI u a = rootI u b
  · rw [if_pos e, if_pos e] at h; exact .inl h
  · rw [if_neg e, if_neg e] at h
    rcases low_upp u r (rootI u a) (rootI u b) with ⟨h1, h2⟩ | ⟨h1, h2⟩
    all_goals
      rw [h1, h2] at h
      by_cases e1 : rootI u i = rootI u a <;> by_cases e2 : rootI u j = rootI u a <;> by_cases e3 : rootI u i = rootI u b <;> by_cases e4 : rootI u j = rootI u b <;> simp_all
theorem joinL_keep {u : List Int} (hv : fvB u = true) {a b : Nat} (ha : a < u.length) (hb : b < u.length) (r : Int) {i j : Nat} (hi : i < u.length) (hj : j < u.length) (h : rootI u i = rootI u j) : rootI (joinL u r a b) i = rootI (joinL u r a b) j := by
  rw [joinL_root hv ha hb r hi, joinL_root hv ha hb r hj, h]
theorem joinL_tog {u : List Int} (hv : fvB u = true) {a b : Nat} (ha : a < u.length) (hb : b < u.length) (r : Int) : rootI (joinL u r a b) a = rootI (joinL u r a b) b := by
  rw [joinL_root hv ha hb r ha, joinL_root hv ha hb r hb]
  by_cases e : rootI u a = rootI u b
  · rw [if_pos e, if_pos e, e]
  · rw [if_neg e, if_neg e]
    rcases low_upp u r (rootI u a) (rootI u b) with ⟨h1, h2⟩ | ⟨h1, h2⟩
    · rw [h1, h2, if_pos rfl, if_neg (fun e' => e e'.symm)]
    · rw [h1, h2, if_neg e, if_pos rfl]
end Go.Proofs.Ytebgnaiibomjkaa
