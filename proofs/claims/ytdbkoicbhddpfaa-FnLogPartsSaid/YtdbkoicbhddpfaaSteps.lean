/- Steps by which a forest is made, as plain lists of numbers: those of joining pairs, the forest that any steps make, whether a log is valid. No program. No condition. -/
import Derived.Test.YtdbkoicbhddpfaaJoins
namespace Go.Proofs.Ytdbkoicbhddpfaa

def stR (u : List Int) (a b : Nat) : Nat := if rootI u a = rootI u b then 0 else lowI u 1 (rootI u a) (rootI u b)
def stT (u : List Int) (a b : Nat) : Nat := if rootI u a = rootI u b then 0 else uppI u 1 (rootI u a) (rootI u b)
/-- The steps behind joining two items. -/
def joinSt (u : List Int) (a b : Nat) (ss : List (Int × Int)) : List (Int × Int) := if rootI u a = rootI u b then ss else ss ++ [((stR u a b : Int), (stT u a b : Int))]
/-- The steps of joining pairs, one behind the other. -/
def stepsTo (u : List Int) : List (Nat × Nat) → List (Int × Int) → List (Int × Int)
  | [], ss => ss
  | p :: ps, ss => stepsTo (joinL u 1 p.1 p.2) ps (joinSt u p.1 p.2 ss)
theorem stepsTo_snoc (p : Nat × Nat) : ∀ (ps : List (Nat × Nat)) (u : List Int) (ss : List (Int × Int)), stepsTo u (ps ++ [p]) ss = joinSt (allL u 1 ps) p.1 p.2 (stepsTo u ps ss)
  | [], _, _ => rfl
  | q :: ps, u, ss => stepsTo_snoc p ps (joinL u 1 q.1 q.2) (joinSt u q.1 q.2 ss)
def logB (n : Int) (qs : List (Int × Int)) : Bool := usB n qs
def logUp (n : Int) (qs : List (Int × Int)) : List Int := if logB n qs = true then allL (roots n.toNat) 1 (natP qs) else []
def logSteps (n : Int) (qs : List (Int × Int)) : List (Int × Int) := if logB n qs = true then stepsTo (roots n.toNat) (natP qs) [] else []
/-- Whether a step can be done in a forest by sizes. -/
def okStep (u : List Int) (s : Int × Int) : Bool :=
  decide (0 ≤ s.1 ∧ s.1 < (u.length : Int)) && decide (0 ≤ s.2 ∧ s.2 < (u.length : Int)) && !decide (s.1 = s.2) && decide (u[s.1.toNat]?.getD 0 = s.1) && decide (u[s.2.toNat]?.getD 0 = s.2) && underB u 1 s.1.toNat s.2.toNat
/-- The forest that steps make, if each one can be done. -/
def builtL : List Int → List (Int × Int) → Option (List Int)
  | u, [] => some u
  | u, s :: ss => if okStep u s = true then builtL (u.set s.1.toNat s.2) ss else none
theorem builtL_cons (u : List Int) (s : Int × Int) (ss : List (Int × Int)) : builtL u (s :: ss) = if okStep u s = true then builtL (u.set s.1.toNat s.2) ss else none := rfl
theorem builtL_append (ys : List (Int × Int)) : ∀ (xs : List (Int × Int)) (u : List Int), builtL u (xs ++ ys) = (builtL u xs).bind fun v => builtL v ys
  | [], _ => rfl
  | x :: xs, u => by
    rw [List.cons_append, builtL_cons, builtL_cons]
    split
    · exact builtL_append ys xs _
    · rfl
theorem builtL_snoc {u v : List Int} {xs : List (Int × Int)} (s : Int × Int) (h : builtL u xs = some v) : builtL u (xs ++ [s]) = if okStep v s = true then some (v.set s.1.toNat s.2) else none := by
  rw [builtL_append, h]
  rfl
theorem okStep_parts {u : List Int} {s : Int × Int} (h : okStep u s = true) : (0 ≤ s.1 ∧ s.1 < (u.length : Int)) ∧ (0 ≤ s.2 ∧ s.2 < (u.length : Int)) ∧ s.1 ≠ s.2 ∧ u[s.1.toNat]?.getD 0 = s.1 ∧ u[s.2.toNat]?.getD 0 = s.2 ∧ underB u 1 s.1.toNat s.2.toNat = true := by
  unfold okStep at h
  simp only [Bool.and_eq_true, decide_eq_true_eq, Bool.not_eq_true', decide_eq_false_iff_not] at h
  obtain ⟨⟨⟨⟨⟨h1, h2⟩, h3⟩, h4⟩, h5⟩, h6⟩ := h
  exact ⟨h1, h2, h3, h4, h5, h6⟩
theorem okStep_of {u : List Int} {s : Int × Int} (h1 : 0 ≤ s.1 ∧ s.1 < (u.length : Int)) (h2 : 0 ≤ s.2 ∧ s.2 < (u.length : Int)) (h3 : s.1 ≠ s.2) (h4 : u[s.1.toNat]?.getD 0 = s.1) (h5 : u[s.2.toNat]?.getD 0 = s.2) (h6 : underB u 1 s.1.toNat s.2.toNat = true) : okStep u s = true := by
  unfold okStep
  simp only [Bool.and_eq_true, decide_eq_true_eq, Bool.not_eq_true', decide_eq_false_iff_not]
  exact ⟨⟨⟨⟨⟨h1, h2⟩, h3⟩, h4⟩, h5⟩, h6⟩
theorem okStep_two {u : List Int} (hv : fvB u = true) {s : Int × Int} (h : okStep u s = true) : Two u s.1.toNat s.2.toNat ∧ u.set s.1.toNat s.2 = hang u s.1.toNat s.2.toNat := by
  obtain ⟨h1, h2, h3, h4, h5, _⟩ := okStep_parts h
  refine ⟨⟨hv, by omega, by omega, ?_, ?_, by omega⟩, ?_⟩
  · unfold step
    rw [h4, if_pos (by omega)]
  · unfold step
    rw [h5, if_pos (by omega)]
  · unfold hang
    rw [show ((s.2.toNat : Nat) : Int) = s.2 by omega]
theorem built_fv {v : List Int} : ∀ {ss : List (Int × Int)} {u : List Int}, fvB u = true → builtL u ss = some v → fvB v = true ∧ v.length = u.length
  | [], u, hv, h => by
    have h' : some u = some v := h
    injection h' with e
    subst e
    exact ⟨hv, rfl⟩
  | s :: ss, u, hv, h => by
    rw [builtL_cons] at h
    split at h
    · rename_i hk
      obtain ⟨T, e⟩ := okStep_two hv hk
      rw [e] at h
      obtain ⟨a, b⟩ := built_fv (hang_fv T) h
      exact ⟨a, by rw [b, hang_len]⟩
    · cases h
theorem under_low {u : List Int} {p q : Nat} (h : p ≠ q) : underB u 1 (lowI u 1 p q) (uppI u 1 p q) = true := by
  unfold lowI uppI
  cases e : underB u 1 p q with
  | true => simpa using e
  | false =>
    have := under_not (up := u) h (r := 1) (by decide)
    rw [e] at this
    simp at this
    simpa using this
theorem isroot_link {u : List Int} {p : Nat} (h : step u p = none) : u[p]?.getD 0 = (p : Int) := by
  unfold step at h
  split at h
  · assumption
  · cases h
/-- The step of joining two items can be done, and makes that forest. -/
theorem ok_join {u : List Int} (hv : fvB u = true) {a b : Nat} (ha : a < u.length) (hb : b < u.length) (hne : rootI u a ≠ rootI u b) :
    okStep u ((stR u a b : Int), (stT u a b : Int)) = true ∧ u.set (stR u a b) (stT u a b : Int) = joinL u 1 a b := by
  have T2 := low_two (roots_two hv ha hb hne) 1
  have e1 : stR u a b = lowI u 1 (rootI u a) (rootI u b) := by unfold stR; rw [if_neg hne]
  have e2 : stT u a b = uppI u 1 (rootI u a) (rootI u b) := by unfold stT; rw [if_neg hne]
  rw [← e1, ← e2] at T2
  have hp := T2.hp
  have hq := T2.hq
  have hn := T2.ne
  refine ⟨okStep_of ⟨by omega, by omega⟩ ⟨by omega, by omega⟩ (by omega) ?_ ?_ ?_, ?_⟩
  · exact isroot_link T2.rp
  · exact isroot_link T2.rq
  · show underB u 1 (stR u a b) (stT u a b) = true
    rw [e1, e2]
    exact under_low hne
  · unfold joinL
    rw [if_neg hne, joinTo_low, ← e1, ← e2]
    rfl
theorem built_join {n : Nat} {u : List Int} (hv : fvB u = true) {a b : Nat} (ha : a < u.length) (hb : b < u.length) {ss : List (Int × Int)} (h : builtL (roots n) ss = some u) : builtL (roots n) (joinSt u a b ss) = some (joinL u 1 a b) := by
  unfold joinSt
  by_cases hne : rootI u a = rootI u b
  · rw [if_pos hne]
    unfold joinL
    rw [if_pos hne]
    exact h
  · obtain ⟨h1, h2⟩ := ok_join hv ha hb hne
    rw [if_neg hne, builtL_snoc _ h, if_pos h1]
    show some (u.set ((stR u a b : Int)).toNat _) = _
    rw [Int.toNat_natCast, h2]
theorem built_all {n : Nat} : ∀ {ps : List (Nat × Nat)} {u : List Int} {ss : List (Int × Int)}, fvB u = true → inP u.length ps → builtL (roots n) ss = some u → builtL (roots n) (stepsTo u ps ss) = some (allL u 1 ps)
  | [], _, _, _, _, h => h
  | p :: ps, u, ss, hv, hi, h => by
    have h0 := hi p (by simp)
    have := built_all (ps := ps) (u := joinL u 1 p.1 p.2) (joinL_fv hv h0.1 h0.2 1) (fun q hq => by rw [joinL_len]; exact hi q (by simp [hq])) (built_join hv h0.1 h0.2 h)
    exact this
/-- Behind k steps; and if the next one cannot be done, all cannot be. -/
theorem built_next {u v : List Int} {ss : List (Int × Int)} {k : Nat} (hk : k < ss.length) (h : builtL u (ss.take k) = some v) :
    (okStep v (ss[k]?.getD (0, 0)) = true → builtL u (ss.take (k + 1)) = some (v.set (ss[k]?.getD (0, 0)).1.toNat (ss[k]?.getD (0, 0)).2)) ∧ (okStep v (ss[k]?.getD (0, 0)) = false → builtL u ss = none) := by
  constructor
  · intro e
    rw [take_snoc hk (0, 0), builtL_snoc _ h, if_pos e]
  · intro e
    have hs : ss = ss.take k ++ (ss[k]?.getD (0, 0)) :: ss.drop (k + 1) := by
      rw [List.getElem?_eq_getElem hk, Option.getD_some, ← List.drop_eq_getElem_cons hk, List.take_append_drop]
    rw [hs, builtL_append, h]
    show builtL v (_ :: _) = none
    rw [builtL_cons, e]
    rfl
/-- Whether a log is valid. -/
def logV (xs : List Int) (ss : List (Int × Int)) : Bool := decide (1 ≤ xs.length ∧ xs.length ≤ 16) && decide (builtL (roots xs.length) ss = some xs)
theorem logV_parts {xs : List Int} {ss : List (Int × Int)} (h : logV xs ss = true) : (1 ≤ xs.length ∧ xs.length ≤ 16) ∧ builtL (roots xs.length) ss = some xs ∧ fvB xs = true := by
  unfold logV at h
  simp only [Bool.and_eq_true, decide_eq_true_eq] at h
  exact ⟨h.1, h.2, (built_fv (roots_fv h.1.1 h.1.2) h.2).1⟩
theorem logV_of {xs : List Int} {ss : List (Int × Int)} (h1 : 1 ≤ xs.length ∧ xs.length ≤ 16) (h2 : builtL (roots xs.length) ss = some xs) : logV xs ss = true := by
  unfold logV
  simp only [Bool.and_eq_true, decide_eq_true_eq]
  exact ⟨h1, h2⟩
theorem logV_n {xs : List Int} {ss : List (Int × Int)} (h : ¬ (1 ≤ xs.length ∧ xs.length ≤ 16)) : logV xs ss = false := by unfold logV; rw [decide_eq_false h]; rfl
theorem logV_b {xs : List Int} {ss : List (Int × Int)} (h : builtL (roots xs.length) ss ≠ some xs) : logV xs ss = false := by unfold logV; rw [decide_eq_false h]; simp
theorem logV_join {xs : List Int} {ss : List (Int × Int)} {a b : Nat} (h : logV xs ss = true) (ha : a < xs.length) (hb : b < xs.length) : logV (joinL xs 1 a b) (joinSt xs a b ss) = true := by
  obtain ⟨h1, h2, h3⟩ := logV_parts h
  refine logV_of (by rw [joinL_len]; exact h1) ?_
  rw [joinL_len]
  exact built_join h3 ha hb h2
theorem logV_roots {n : Nat} (h1 : 1 ≤ n) (h2 : n ≤ 16) : logV (roots n) [] = true := logV_of (by rw [roots_len]; exact ⟨h1, h2⟩) (by rw [roots_len]; rfl)
/-- JoinLog's answer. -/
def jlB (xs : List Int) (ss : List (Int × Int)) (a b : Int) : Bool := logV xs ss && itemB xs a && itemB xs b && !decide (rootN xs a = rootN xs b)
def jlUp (xs : List Int) (ss : List (Int × Int)) (a b : Int) : List Int := if jlB xs ss a b = true then joinL xs 1 a.toNat b.toNat else []
def jlSt (xs : List Int) (ss : List (Int × Int)) (a b : Int) : List (Int × Int) := if jlB xs ss a b = true then joinSt xs a.toNat b.toNat ss else []
end Go.Proofs.Ytdbkoicbhddpfaa
