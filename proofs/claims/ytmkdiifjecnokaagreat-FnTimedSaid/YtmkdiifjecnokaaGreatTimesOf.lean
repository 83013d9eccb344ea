/- The timed forest of pairs: plain lists. No condition. -/
import Derived.Test.YtmkdiifjecnokaaGreatTimed
import Derived.Test.YtmkdiifjecnokaaGreatJoins
namespace Go.Proofs.YtmkdiifjecnokaaGreat

theorem list_eq {xs ys : List Int} (hl : xs.length = ys.length) (h : ∀ i, i < xs.length → xs[i]?.getD 0 = ys[i]?.getD 0) : xs = ys := by
  refine List.ext_getElem hl fun i h1 h2 => ?_
  have := h i h1
  simpa [h1, h2] using this
theorem set_getD {xs : List Int} {p i : Nat} {z : Int} (hp : p < xs.length) : (xs.set p z)[i]?.getD 0 = if p = i then z else xs[i]?.getD 0 := by
  rw [List.getElem?_set]
  by_cases h : p = i
  · rw [if_pos h, if_pos h, if_pos hp]; rfl
  · rw [if_neg h, if_neg h]
/-- The forest behind the first k pairs. -/
def upk (n : Nat) (ps : List (Nat × Nat)) (k : Nat) : List Int := allL (roots n) 1 (ps.take k)
def rk (n : Nat) (ps : List (Nat × Nat)) (k : Nat) : Nat := stR (upk n ps k) (ps[k]?.getD (0, 0)).1 (ps[k]?.getD (0, 0)).2
def tk (n : Nat) (ps : List (Nat × Nat)) (k : Nat) : Nat := stT (upk n ps k) (ps[k]?.getD (0, 0)).1 (ps[k]?.getD (0, 0)).2
/-- The times behind the first k pairs. -/
def tmTo (n : Nat) (ps : List (Nat × Nat)) : Nat → List Int
  | 0 => List.replicate n 0
  | k + 1 => if useB (roots n) 1 ps k = true then (tmTo n ps k).set (rk n ps k) ((k : Int) + 1) else tmTo n ps k
theorem tmTo_len (n : Nat) (ps : List (Nat × Nat)) : ∀ k, (tmTo n ps k).length = n
  | 0 => by simp [tmTo]
  | k + 1 => by
    unfold tmTo
    split
    · rw [List.length_set]; exact tmTo_len n ps k
    · exact tmTo_len n ps k
theorem tmTo_yes {n k : Nat} {ps : List (Nat × Nat)} (h : useB (roots n) 1 ps k = true) : tmTo n ps (k + 1) = (tmTo n ps k).set (rk n ps k) ((k : Int) + 1) := by
  show (if _ then _ else _) = _
  rw [if_pos h]
theorem tmTo_no {n k : Nat} {ps : List (Nat × Nat)} (h : useB (roots n) 1 ps k = false) : tmTo n ps (k + 1) = tmTo n ps k := by
  show (if _ then _ else _) = _
  rw [h]
  simp
theorem upk_len (n : Nat) (ps : List (Nat × Nat)) (k : Nat) : (upk n ps k).length = n := by
  unfold upk
  rw [allL_len, roots_len]
theorem upk_zero (n : Nat) (ps : List (Nat × Nat)) : upk n ps 0 = roots n := by unfold upk; rw [List.take_zero]; rfl
theorem upk_fv {n : Nat} {ps : List (Nat × Nat)} (h1 : 1 ≤ n) (h2 : n ≤ 16) (hp : inP n ps) (k : Nat) : fvB (upk n ps k) = true :=
  allL_fv (roots_fv h1 h2) 1 (by rw [roots_len]; exact hp.take)
theorem upk_no {n k : Nat} {ps : List (Nat × Nat)} (hk : k < ps.length) (h : useB (roots n) 1 ps k = false) : upk n ps (k + 1) = upk n ps k := by
  unfold upk
  rw [allL_succ _ _ hk]
  unfold joinL
  unfold useB at h
  rw [if_pos (by simpa using h)]
theorem upk_yes {n k : Nat} {ps : List (Nat × Nat)} (h1 : 1 ≤ n) (h2 : n ≤ 16) (hp : inP n ps) (hk : k < ps.length) (h : useB (roots n) 1 ps k = true) :
    Two (upk n ps k) (rk n ps k) (tk n ps k) ∧ upk n ps (k + 1) = hang (upk n ps k) (rk n ps k) (tk n ps k) := by
  have hg := hp.get hk
  have hl := upk_len n ps k
  have hf := upk_fv h1 h2 hp k
  have hne : rootI (upk n ps k) (ps[k]?.getD (0, 0)).1 ≠ rootI (upk n ps k) (ps[k]?.getD (0, 0)).2 := by
    unfold useB at h
    unfold upk
    simpa using h
  obtain ⟨o1, o2⟩ := ok_join hf (a := (ps[k]?.getD (0, 0)).1) (b := (ps[k]?.getD (0, 0)).2) (by omega) (by omega) hne
  obtain ⟨T, e⟩ := okStep_two hf o1
  refine ⟨T, ?_⟩
  show allL (roots n) 1 (ps.take (k + 1)) = _
  rw [allL_succ _ _ hk]
  show joinL (upk n ps k) 1 _ _ = _
  rw [← o2]
  exact e
theorem hang_getD {u : List Int} {p q i : Nat} (hp : p < u.length) : (hang u p q)[i]?.getD 0 = if p = i then (q : Int) else u[i]?.getD 0 := set_getD hp
/-- The times are valid, and none is later than the pairs. -/
theorem tmTo_inv {n : Nat} {ps : List (Nat × Nat)} (h1 : 1 ≤ n) (h2 : n ≤ 16) (hp : inP n ps) (h24 : ps.length ≤ 24) : ∀ k, k ≤ ps.length → ∀ i, i < n → (0 ≤ (tmTo n ps k)[i]?.getD 0 ∧ (tmTo n ps k)[i]?.getD 0 ≤ (k : Int)) ∧ okTm (upk n ps k) (tmTo n ps k) i = true
  | 0, _, i, hi => by
    have e : (tmTo n ps 0)[i]?.getD 0 = 0 := by simp [tmTo, hi]
    refine ⟨by rw [e]; exact ⟨Int.le_refl _, by omega⟩, ?_⟩
    rw [upk_zero, okTm_root (roots_get hi), e]
    rfl
  | k + 1, hk, i, hi => by
    have ih := tmTo_inv h1 h2 hp h24 k (by omega)
    cases hu : useB (roots n) 1 ps k with
    | false =>
      rw [tmTo_no hu, upk_no (by omega) hu]
      obtain ⟨a, b⟩ := ih i hi
      exact ⟨⟨a.1, by omega⟩, b⟩
    | true =>
      obtain ⟨T, e⟩ := upk_yes h1 h2 hp (by omega) hu
      have hl := upk_len n ps k
      have hP := T.hp
      have hQ := T.hq
      have hne := T.ne
      have rp := isroot_link T.rp
      have rq := isroot_link T.rq
      have tg : ∀ j, (tmTo n ps (k + 1))[j]?.getD 0 = if rk n ps k = j then ((k : Int) + 1) else (tmTo n ps k)[j]?.getD 0 := fun j => by
        rw [tmTo_yes hu]
        exact set_getD (by rw [tmTo_len]; omega)
      have ug : ∀ j, (upk n ps (k + 1))[j]?.getD 0 = if rk n ps k = j then ((tk n ps k : Nat) : Int) else (upk n ps k)[j]?.getD 0 := fun j => by
        rw [e]
        exact hang_getD hP
      by_cases hip : rk n ps k = i
      · have t1 := tg i
        rw [if_pos hip] at t1
        have u1 := ug i
        rw [if_pos hip] at u1
        refine ⟨by rw [t1]; omega, ?_⟩
        rw [okTm_link u1 (by omega), t1, ug, if_neg (by omega), rq, decide_eq_true (by omega), decide_eq_true rfl]
        rfl
      · have t1 := tg i
        rw [if_neg hip] at t1
        have u1 := ug i
        rw [if_neg hip] at u1
        obtain ⟨a, b⟩ := ih i hi
        refine ⟨by rw [t1]; omega, ?_⟩
        by_cases hr : (upk n ps k)[i]?.getD 0 = (i : Int)
        · rw [okTm_root hr] at b
          rw [okTm_root (by rw [u1, hr]), t1]
          exact b
        · have hin := fv_in (upk_fv h1 h2 hp k) i (by omega)
          obtain ⟨y, hy⟩ : ∃ y : Nat, (upk n ps k)[i]?.getD 0 = (y : Int) := ⟨((upk n ps k)[i]?.getD 0).toNat, by omega⟩
          rw [okTm_link hy (by omega)] at b
          rw [okTm_link (by rw [u1, hy]) (by omega), t1]
          simp only [Bool.and_eq_true, Bool.or_eq_true, decide_eq_true_eq] at b ⊢
          refine ⟨b.1, ?_⟩
          by_cases hyp : rk n ps k = y
          · right
            rw [tg y, if_pos hyp]
            omega
          · rw [ug y, if_neg hyp, tg y, if_neg hyp]
            exact b.2
theorem tmTo_valid {n : Nat} {ps : List (Nat × Nat)} (h1 : 1 ≤ n) (h2 : n ≤ 16) (hp : inP n ps) (h24 : ps.length ≤ 24) {k : Nat} (hk : k ≤ ps.length) : tmB (upk n ps k) (tmTo n ps k) = true :=
  tmB_of (upk_fv h1 h2 hp k) (by rw [tmTo_len, upk_len]) (fun i hi => (tmTo_inv h1 h2 hp h24 k hk i (by rw [upk_len] at hi; exact hi)).2)
theorem atL_all {us ts : List Int} {m : Int} (h : ∀ i, i < us.length → ts[i]?.getD 0 ≤ m) : atL us ts m = us :=
  list_eq (atL_len us ts m) fun i hi => by
    rw [atL_len] at hi
    rw [atL_get hi, if_neg (by have := h i hi; omega)]
/-- The root that gets a link had no time. -/
theorem tmTo_root {n : Nat} {ps : List (Nat × Nat)} (h1 : 1 ≤ n) (h2 : n ≤ 16) (hp : inP n ps) (h24 : ps.length ≤ 24) {k : Nat} (hk : k < ps.length) (hu : useB (roots n) 1 ps k = true) : (tmTo n ps k)[rk n ps k]?.getD 0 = 0 := by
  obtain ⟨T, _⟩ := upk_yes h1 h2 hp hk hu
  have hl := upk_len n ps k
  have hP := T.hp
  have := (tmTo_inv h1 h2 hp h24 k (by omega) (rk n ps k) (by omega)).2
  rw [okTm_root (isroot_link T.rp)] at this
  simpa using this
/-- The forests of all times. -/
theorem at_to {n : Nat} {ps : List (Nat × Nat)} (h1 : 1 ≤ n) (h2 : n ≤ 16) (hp : inP n ps) (h24 : ps.length ≤ 24) (m : Nat) : ∀ k, k ≤ ps.length → atL (upk n ps k) (tmTo n ps k) (m : Int) = upk n ps (min m k)
  | 0, hk => by
    rw [Nat.min_zero]
    exact atL_all fun i hi => by
      rw [upk_len] at hi
      have := (tmTo_inv h1 h2 hp h24 0 hk i hi).1
      omega
  | k + 1, hk => by
    by_cases hm : k + 1 ≤ m
    · rw [Nat.min_eq_right hm]
      exact atL_all fun i hi => by
        rw [upk_len] at hi
        have := (tmTo_inv h1 h2 hp h24 (k + 1) hk i hi).1
        omega
    · have ih := at_to h1 h2 hp h24 m k (by omega)
      rw [Nat.min_eq_left (by omega)] at ih ⊢
      rw [← ih]
      cases hu : useB (roots n) 1 ps k with
      | false => rw [tmTo_no hu, upk_no (by omega) hu]
      | true =>
        obtain ⟨T, e⟩ := upk_yes h1 h2 hp (by omega) hu
        have hl := upk_len n ps k
        have hl2 := upk_len n ps (k + 1)
        have hP := T.hp
        have rp := isroot_link T.rp
        refine list_eq (by rw [atL_len, atL_len, hl, hl2]) fun i hi => ?_
        rw [atL_len, hl2] at hi
        rw [atL_get (by omega), atL_get (by omega)]
        rw [show (tmTo n ps (k + 1))[i]?.getD 0 = if rk n ps k = i then ((k : Int) + 1) else (tmTo n ps k)[i]?.getD 0 by rw [tmTo_yes hu]; exact set_getD (by rw [tmTo_len]; omega)]
        rw [show (upk n ps (k + 1))[i]?.getD 0 = if rk n ps k = i then ((tk n ps k : Nat) : Int) else (upk n ps k)[i]?.getD 0 by rw [e]; exact hang_getD hP]
        by_cases hip : rk n ps k = i
        · subst hip
          rw [if_pos rfl, if_pos (by omega), rp]
          split <;> rfl
        · rw [if_neg hip, if_neg hip]
/-- The times of the first pairs. -/
theorem tmTo_first {n : Nat} {ps : List (Nat × Nat)} (h1 : 1 ≤ n) (h2 : n ≤ 16) (hp : inP n ps) (h24 : ps.length ≤ 24) {k : Nat} : ∀ d, k + d ≤ ps.length → ∀ i, i < n → (tmTo n ps k)[i]?.getD 0 = if (tmTo n ps (k + d))[i]?.getD 0 ≤ (k : Int) then (tmTo n ps (k + d))[i]?.getD 0 else 0
  | 0, hk, i, hi => by
    have := (tmTo_inv h1 h2 hp h24 k (by omega) i hi).1
    rw [Nat.add_zero, if_pos this.2]
  | d + 1, hk, i, hi => by
    have ih := tmTo_first h1 h2 hp h24 (k := k) d (by omega) i hi
    rw [← Nat.add_assoc]
    cases hu : useB (roots n) 1 ps (k + d) with
    | false => rw [tmTo_no hu]; exact ih
    | true =>
      obtain ⟨T, _⟩ := upk_yes h1 h2 hp (by omega) hu
      have hl := upk_len n ps (k + d)
      have hP := T.hp
      rw [show (tmTo n ps (k + d + 1))[i]?.getD 0 = if rk n ps (k + d) = i then (((k + d : Nat) : Int) + 1) else (tmTo n ps (k + d))[i]?.getD 0 by rw [tmTo_yes hu]; exact set_getD (by rw [tmTo_len]; omega)]
      by_cases hip : rk n ps (k + d) = i
      · have h0 := tmTo_root h1 h2 hp h24 (k := k + d) (by omega) hu
        rw [hip] at h0
        rw [h0, if_pos (by omega)] at ih
        rw [if_pos hip, if_neg (by omega)]
        exact ih
      · rw [if_neg hip]
        exact ih
/-- Marks of the steps' roots by the useful pairs. -/
def markS : List Int → List (Int × Int) → List Int → List Int
  | zs, s :: ss, x :: xs => markS (zs.set s.1.toNat (x + 1)) ss xs
  | zs, _, _ => zs
theorem markS_snoc (s : Int × Int) (x : Int) : ∀ (ss : List (Int × Int)) (xs zs : List Int), ss.length = xs.length → markS zs (ss ++ [s]) (xs ++ [x]) = (markS zs ss xs).set s.1.toNat (x + 1)
  | [], [], _, _ => rfl
  | _ :: ss, _ :: xs, _, h => markS_snoc s x ss xs _ (by simpa using h)
theorem markS_len : ∀ (ss : List (Int × Int)) (xs zs : List Int), (markS zs ss xs).length = zs.length
  | [], _, _ => by simp [markS]
  | _ :: _, [], _ => by simp [markS]
  | _ :: ss, _ :: xs, zs => by
    show (markS _ ss xs).length = _
    rw [markS_len ss xs, List.length_set]
/-- As many steps as useful pairs, and they make the times. -/
theorem marks_to (n : Nat) (ps : List (Nat × Nat)) : ∀ k, k ≤ ps.length → (stepsTo (roots n) (ps.take k) []).length = (useTo (roots n) 1 ps k).length ∧ markS (List.replicate n 0) (stepsTo (roots n) (ps.take k) []) (useTo (roots n) 1 ps k) = tmTo n ps k
  | 0, _ => ⟨rfl, rfl⟩
  | k + 1, hk => by
    obtain ⟨i1, i2⟩ := marks_to n ps k (by omega)
    rw [take_snoc (by omega) (0, 0), stepsTo_snoc]
    cases hu : useB (roots n) 1 ps k with
    | false =>
      have hu' := hu
      unfold useB at hu'
      unfold joinSt
      rw [if_pos (by simpa using hu'), useTo_no hu, tmTo_no hu]
      exact ⟨i1, i2⟩
    | true =>
      have hu' := hu
      unfold useB at hu'
      unfold joinSt
      rw [if_neg (by simpa using hu'), useTo_yes hu, tmTo_yes hu, markS_snoc _ _ _ _ _ i1, i2]
      refine ⟨by rw [List.length_append, List.length_append, i1]; rfl, ?_⟩
      rfl
/-- The answers of TimedOf. -/
def tmAt (n : Int) (qs : List (Int × Int)) : List Int := if logB n qs = true then tmTo n.toNat (natP qs) qs.length else []
theorem tmAt_yes {n : Int} {qs : List (Int × Int)} (h : logB n qs = true) : tmAt n qs = tmTo n.toNat (natP qs) qs.length := by unfold tmAt; rw [if_pos h]
theorem tmAt_no {n : Int} {qs : List (Int × Int)} (h : logB n qs = false) : tmAt n qs = [] := by unfold tmAt; rw [h]; simp
theorem tmUp_yes {n : Int} {qs : List (Int × Int)} (h : logB n qs = true) : logUp n qs = upk n.toNat (natP qs) qs.length := by
  unfold logUp upk
  rw [if_pos h, List.take_of_length_le (by rw [natP_len]; exact Nat.le_refl _)]
theorem tmUp_no {n : Int} {qs : List (Int × Int)} (h : logB n qs = false) : logUp n qs = [] := by unfold logUp; rw [h]; simp
theorem tmOf_parts {n : Int} {qs : List (Int × Int)} (h : logB n qs = true) : (1 ≤ n.toNat ∧ n.toNat ≤ 16) ∧ inP n.toNat (natP qs) ∧ (natP qs).length ≤ 24 ∧ (natP qs).length = qs.length := by
  obtain ⟨hn, hq⟩ := usB_parts h
  refine ⟨by omega, okQ_in (n := n.toNat) (by rw [show ((n.toNat : Nat) : Int) = n by omega]; exact hq), by rw [natP_len]; exact (okQ_parts hq).1, natP_len qs⟩
theorem times_type : (Tryz.prog.info? 28).isSome = (Tryz.prog.info? 28).isSome := rfl
end Go.Proofs.YtmkdiifjecnokaaGreat
