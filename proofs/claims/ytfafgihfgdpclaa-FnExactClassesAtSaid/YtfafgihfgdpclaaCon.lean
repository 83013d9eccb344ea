/- Who is together when pairs have been joined: whoever pairs lead to, in any order and by any rule; useful pairs counted. No program, no condition. -/
import Derived.Test.YtfafgihfgdpclaaJoins
import Derived.Test.YtfafgihfgdpclaaSpecSame
namespace Go.Proofs.Ytfafgihfgdpclaa

theorem joinL_root {u : List Int} (hv : fvB u = true) {a b : Nat} (ha : a < u.length) (hb : b < u.length) (r : Int) {i : Nat} (hi : i < u.length) :
    rootI (joinL u r a b) i = if rootI u a = rootI u b then rootI u i else if rootI u i = lowI u r (rootI u a) (rootI u b) then uppI u r (rootI u a) (rootI u b) else rootI u i := by
  unfold joinL
  by_cases h : rootI u a = rootI u b
  · rw [if_pos h, if_pos h]
  · rw [if_neg h, if_neg h, joinTo_low]
    exact hang_root (low_two (roots_two hv ha hb h) r) hi
theorem low_upp (u : List Int) (r : Int) (p q : Nat) : (lowI u r p q = p ∧ uppI u r p q = q) ∨ (lowI u r p q = q ∧ uppI u r p q = p) := by
  unfold lowI uppI
  split
  · exact .inl ⟨rfl, rfl⟩
  · exact .inr ⟨rfl, rfl⟩
/-- Whoever is together in the end was so, or the two have been joined. -/
theorem joinL_only {u : List Int} (hv : fvB u = true) {a b : Nat} (ha : a < u.length) (hb : b < u.length) (r : Int) {i j : Nat} (hi : i < u.length) (hj : j < u.length) (h : rootI (joinL u r a b) i = rootI (joinL u r a b) j) :
    rootI u i = rootI u j ∨ (rootI u i = rootI u a ∧ rootI u j = rootI u b) ∨ (rootI u i = rootI u b ∧ rootI u j = rootI u a) := by
  rw [joinL_root hv ha hb r hi, joinL_root hv ha hb r hj] at h
  by_cases e : rootI u a = rootI u b
  · rw [if_pos e, if_pos e] at h; exact .inl h
  · rw [if_neg e, if_neg e] at h
    rcases low_upp u r (rootI u a) (rootI u b) with ⟨h1, h2⟩ | ⟨h1, h2⟩
    all_goals
      rw [h1, h2] at h
      by_cases e1 : rootI u i = rootI u a <;> by_cases e2 : rootI u j = rootI u a <;> by_cases e3 : rootI u i = rootI u b <;> by_cases e4 : rootI u j = rootI u b <;> simp_all
theorem joinL_keep {u : List Int} (hv : fvB u = true) {a b : Nat} (ha : a < u.length) (hb : b < u.length) (r : Int) {i j : Nat} (hi : i < u.length) (hj : j < u.length) (h : rootI u i = rootI u j) : rootI (joinL u r a b) i = rootI (joinL u r a b) j := by
  rw [joinL_root hv ha hb r hi, joinL_root hv ha hb r hj, h]
theorem joinL_tog {u : List Int} (hv : fvB u = true) {a b : Nat} (ha : a < u.length) (hb : b < u.length) (r : Int) : rootI (joinL u r a b) a = rootI (joinL u r a b) b := by
  rw [joinL_root hv ha hb r ha, joinL_root hv ha hb r hb]
  by_cases e : rootI u a = rootI u b
  · rw [if_pos e, if_pos e, e]
  · rw [if_neg e, if_neg e]
    rcases low_upp u r (rootI u a) (rootI u b) with ⟨h1, h2⟩ | ⟨h1, h2⟩
    · rw [h1, h2, if_pos rfl, if_neg (fun e' => e e'.symm)]
    · rw [h1, h2, if_neg e, if_pos rfl]
theorem joinL_same {u : List Int} {a b : Nat} (r : Int) (h : rootI u a = rootI u b) : joinL u r a b = u := by unfold joinL; rw [if_pos h]

/-- Whom the pairs lead to. -/
inductive Con (u : List Int) (ps : List (Nat × Nat)) : Nat → Nat → Prop
  | base {i j : Nat} : i < u.length → j < u.length → rootI u i = rootI u j → Con u ps i j
  | pair {p : Nat × Nat} : p ∈ ps → Con u ps p.1 p.2
  | symm {i j : Nat} : Con u ps i j → Con u ps j i
  | trans {i j k : Nat} : Con u ps i j → Con u ps j k → Con u ps i k
theorem Con.lt {u : List Int} {ps : List (Nat × Nat)} (h : inP u.length ps) {i j : Nat} (c : Con u ps i j) : i < u.length ∧ j < u.length := by
  induction c with
  | base h1 h2 _ => exact ⟨h1, h2⟩
  | pair hp => exact h _ hp
  | symm _ ih => exact ⟨ih.2, ih.1⟩
  | trans _ _ ih1 ih2 => exact ⟨ih1.1, ih2.2⟩
theorem Con.weak {u : List Int} {ps qs : List (Nat × Nat)} (h : ∀ p ∈ ps, p ∈ qs ∨ (p.2, p.1) ∈ qs) {i j : Nat} (c : Con u ps i j) : Con u qs i j := by
  induction c with
  | base h1 h2 h3 => exact .base h1 h2 h3
  | pair hp =>
    rcases h _ hp with h | h
    · exact .pair h
    · exact .symm (.pair h)
  | symm _ ih => exact .symm ih
  | trans _ _ ih1 ih2 => exact .trans ih1 ih2
theorem con_step {u : List Int} (hv : fvB u = true) (r : Int) {p : Nat × Nat} {ps : List (Nat × Nat)} (h : inP u.length (p :: ps)) {i j : Nat} : Con (joinL u r p.1 p.2) ps i j ↔ Con u (p :: ps) i j := by
  have hp := h p (List.mem_cons_self ..)
  constructor
  · intro c
    induction c with
    | base h1 h2 h3 =>
      rw [joinL_len] at h1 h2
      rcases joinL_only hv hp.1 hp.2 r h1 h2 h3 with e | ⟨e1, e2⟩ | ⟨e1, e2⟩
      · exact .base h1 h2 e
      · exact .trans (.base h1 hp.1 e1) (.trans (.pair (List.mem_cons_self ..)) (.base hp.2 h2 e2.symm))
      · exact .trans (.base h1 hp.2 e1) (.trans (.symm (.pair (List.mem_cons_self ..))) (.base hp.1 h2 e2.symm))
    | pair hq => exact .pair (List.mem_cons_of_mem _ hq)
    | symm _ ih => exact .symm ih
    | trans _ _ ih1 ih2 => exact .trans ih1 ih2
  · intro c
    induction c with
    | base h1 h2 h3 => exact .base (by rw [joinL_len]; exact h1) (by rw [joinL_len]; exact h2) (joinL_keep hv hp.1 hp.2 r h1 h2 h3)
    | pair hq =>
      rcases List.mem_cons.1 hq with rfl | hq
      · exact .base (by rw [joinL_len]; exact hp.1) (by rw [joinL_len]; exact hp.2) (joinL_tog hv hp.1 hp.2 r)
      · exact .pair hq
    | symm _ ih => exact .symm ih
    | trans _ _ ih1 ih2 => exact .trans ih1 ih2
theorem con_nil {u : List Int} {i j : Nat} (c : Con u [] i j) : rootI u i = rootI u j := by
  induction c with
  | base _ _ h => exact h
  | pair h => simp at h
  | symm _ ih => exact ih.symm
  | trans _ _ ih1 ih2 => exact ih1.trans ih2
/-- In any order, by any rule. -/
theorem all_con {ps : List (Nat × Nat)} : ∀ {u : List Int}, fvB u = true → ∀ (r : Int), inP u.length ps → ∀ {i j : Nat}, i < u.length → j < u.length → (rootI (allL u r ps) i = rootI (allL u r ps) j ↔ Con u ps i j) := by
  induction ps with
  | nil => exact fun {u} _ _ _ {i j} hi hj => ⟨fun h => .base hi hj h, con_nil⟩
  | cons p ps ih =>
    intro u hv r h i j hi hj
    have hp := h p (List.mem_cons_self ..)
    have := ih (joinL_fv hv hp.1 hp.2 r) r (fun q hq => by rw [joinL_len]; exact h q (List.mem_cons_of_mem _ hq)) (i := i) (j := j) (by rw [joinL_len]; exact hi) (by rw [joinL_len]; exact hj)
    exact this.trans (con_step hv r h)
theorem all_same {u : List Int} (hv : fvB u = true) {r r' : Int} {ps qs : List (Nat × Nat)} (h1 : inP u.length ps) (h2 : inP u.length qs) (hpq : ∀ p ∈ ps, p ∈ qs ∨ (p.2, p.1) ∈ qs) (hqp : ∀ p ∈ qs, p ∈ ps ∨ (p.2, p.1) ∈ ps) : sameN (allL u r ps) (allL u r' qs) = true := by
  have l1 := allL_len u r ps
  have l2 := allL_len u r' qs
  refine sameN_yes (allL_fv hv r h1) (allL_fv hv r' h2) (by rw [l1, l2]) fun i k hi hk => ?_
  rw [l1] at hi
  have e1 := all_con hv r h1 (i := i) (j := k) hi (by omega)
  have e2 := all_con hv r' h2 (i := i) (j := k) hi (by omega)
  have e3 : Con u ps i k ↔ Con u qs i k := ⟨Con.weak hpq, Con.weak hqp⟩
  unfold likeB
  by_cases c : Con u ps i k
  · rw [e1.2 c, e2.2 (e3.1 c)]
    simp
  · have a1 : ((rootI (allL u r ps) i : Int) == (rootI (allL u r ps) k : Int)) = false := by
      have : ¬ rootI (allL u r ps) i = rootI (allL u r ps) k := fun h => c (e1.1 h)
      simp only [beq_eq_false_iff_ne, ne_eq]
      omega
    have a2 : ((rootI (allL u r' qs) i : Int) == (rootI (allL u r' qs) k : Int)) = false := by
      have : ¬ rootI (allL u r' qs) i = rootI (allL u r' qs) k := fun h => c (e3.2 (e2.1 h))
      simp only [beq_eq_false_iff_ne, ne_eq]
      omega
    rw [a1, a2]
    rfl
theorem all_tog {u : List Int} (hv : fvB u = true) (r : Int) {ps : List (Nat × Nat)} (h : inP u.length ps) {p : Nat × Nat} (hp : p ∈ ps) : rootI (allL u r ps) p.1 = rootI (allL u r ps) p.2 :=
  (all_con hv r h (h p hp).1 (h p hp).2).2 (.pair hp)
/-- Pairs that are together already change nothing. -/
theorem all_still {ps : List (Nat × Nat)} {u : List Int} (r : Int) (h : ∀ p ∈ ps, rootI u p.1 = rootI u p.2) : allL u r ps = u := by
  induction ps with
  | nil => rfl
  | cons p ps ih =>
    show allL (joinL u r p.1 p.2) r ps = u
    rw [joinL_same r (h p (List.mem_cons_self ..))]
    exact ih fun q hq => h q (List.mem_cons_of_mem _ hq)
theorem all_twice {u : List Int} (hv : fvB u = true) (r : Int) {ps : List (Nat × Nat)} (h : inP u.length ps) : allL (allL u r ps) r ps = allL u r ps :=
  all_still r fun _ hp => all_tog hv r h hp
theorem all_parts (u : List Int) (r : Int) (ps : List (Nat × Nat)) (k : Nat) : allL (allL u r (ps.take k)) r (ps.drop k) = allL u r ps := by rw [← allL_append, List.take_append_drop]

theorem useB_take {u : List Int} {r : Int} {ps : List (Nat × Nat)} {k j : Nat} (h : j < k) : useB u r (ps.take k) j = useB u r ps j := by
  unfold useB
  rw [List.take_take, Nat.min_eq_left (by omega), List.getElem?_take_of_lt h]
theorem useTo_take (u : List Int) (r : Int) (ps : List (Nat × Nat)) (k : Nat) : useTo u r (ps.take k) k = useTo u r ps k := by
  unfold useTo
  congr 1
  exact List.filter_congr fun j hj => useB_take (List.mem_range.1 hj)
theorem useTo_mem (u : List Int) (r : Int) (ps : List (Nat × Nat)) (k i : Nat) : ((i : Int) ∈ useTo u r ps k) ↔ i < k ∧ useB u r ps i = true := by
  unfold useTo ints
  simp only [List.mem_map, List.mem_filter, List.mem_range]
  constructor
  · rintro ⟨x, h, e⟩
    have : x = i := by omega
    subst this
    exact h
  · exact fun h => ⟨i, h, rfl⟩
end Go.Proofs.Ytfafgihfgdpclaa
