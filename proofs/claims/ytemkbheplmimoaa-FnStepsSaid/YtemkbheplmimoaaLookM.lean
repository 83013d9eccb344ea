/- How long ways are when one has looked, and what a look leaves as it was. Plain lists, no program. -/
import Derived.Test.YtemkbheplmimoaaLookL
namespace Go.Proofs.Ytemkbheplmimoaa

theorem wayOf_root {u : List Int} {x : Nat} (h : step u x = none) : wayOf u x = [x] := way_of_path ⟨rfl, h⟩ (by simp)
theorem wayOf_cons {u : List Int} (hf : fvB u = true) {x y : Nat} (hx : x < u.length) (h : step u x = some y) : wayOf u x = x :: wayOf u y := by
  have hy := path_step_lt (fv_in hf) hx h
  refine path_uniq (fv_path hf hx) ⟨rfl, ?_⟩
  rw [h]
  exact fv_path hf hy
/-- How many links lie between an item and its root. -/
def dist (u : List Int) (x : Nat) : Nat := (wayOf u x).length - 1
theorem dist_root {u : List Int} {x : Nat} (h : step u x = none) : dist u x = 0 := by unfold dist; rw [wayOf_root h]; rfl
theorem wayOf_pos (u : List Int) (x : Nat) : 1 ≤ (wayOf u x).length := (way_len u u.length x).1
theorem dist_cons {u : List Int} (hf : fvB u = true) {x y : Nat} (hx : x < u.length) (h : step u x = some y) : dist u x = dist u y + 1 := by
  unfold dist
  rw [wayOf_cons hf hx h, List.length_cons]
  have := wayOf_pos u y
  omega
theorem dist_zero {u : List Int} (hf : fvB u = true) {x : Nat} (hx : x < u.length) (h : dist u x = 0) : step u x = none := by
  cases hs : step u x with
  | none => rfl
  | some y =>
    have := dist_cons hf hx hs
    omega

/-- A change lets links of passed items and of the one one has come to change, and no others. -/
structure Only (T : List Int → List Nat → Nat → List Int) : Prop where
  off : ∀ u pre x j, j ∉ pre → j ≠ x → (T u pre x)[j]? = u[j]?
theorem hang_off {u : List Int} {p q j : Nat} (h : j ≠ p) : (hang u p q)[j]? = u[j]? := by
  unfold hang
  rw [List.getElem?_set_ne (by omega)]
theorem cut_off {x j : Nat} : ∀ (pre : List Nat) (u : List Int), j ∉ pre → (pre.foldl (fun v p => hang v p x) u)[j]? = u[j]?
  | [], _, _ => rfl
  | p :: pre, u, h => by
    rw [List.foldl_cons, cut_off pre _ (fun hm => h (by simp [hm])), hang_off (fun e => h (by simp [e]))]
theorem look_only (l : Int) : Only (lookAt l) := by
  refine ⟨fun u pre x j hj hx => ?_⟩
  unfold lookAt
  split
  · rfl
  · split
    · unfold cutAt
      split
      · rfl
      · exact cut_off pre u hj
    · split
      · unfold halveAt
        cases h1 : step u x with
        | none => rfl
        | some y =>
          dsimp only
          cases h2 : step u y with
          | none => rfl
          | some z => exact hang_off hx
      · unfold splitAt'
        split
        · rename_i h2
          exact hang_off (fun e => hj (by rw [e]; exact split_mem h2))
        · rfl
theorem foT_off {T : List Int → List Nat → Nat → List Int} (O : Only T) {up : List Int} {j : Nat} (pre : List Nat) : j ∉ pre → (foT T up pre)[j]? = up[j]? :=
  rev_ind (P := fun pre => j ∉ pre → (foT T up pre)[j]? = up[j]?) (fun _ => rfl) (fun pre x ih hn => by
    rw [foT_snoc, O.off _ _ _ _ (fun hm => hn (List.mem_append_left _ hm)) (fun e => hn (by simp [e]))]
    exact ih (fun hm => hn (List.mem_append_left _ hm))) pre
theorem step_off {T : List Int → List Nat → Nat → List Int} (O : Only T) {up : List Int} {j : Nat} {pre : List Nat} (h : j ∉ pre) : step (foT T up pre) j = step up j := by
  unfold step nx
  rw [foT_off O pre h]

/-- What lies above in a forest of shorter ways lay above. -/
theorem ab_back {u : List Int} {p k : Nat} (A : Ab u p k) : ∀ {xs : List Nat} {a b : Nat}, Path (hang u p k) (step (hang u p k) a) xs (some b) → Ab u a b := by
  have one : ∀ {a b : Nat}, step (hang u p k) a = some b → Ab u a b := fun {a b} h => by
    by_cases e : a = p
    · subst e
      by_cases ha : a < u.length
      · unfold step nx hang at h
        rw [List.getElem?_set_self ha, Option.getD_some] at h
        split at h
        · cases h
        · have hb : k = b := by simpa using h
          rw [← hb]
          exact A
      · unfold step nx hang at h
        rw [List.set_eq_of_length_le (by omega)] at h
        exact ab_one h
    · rw [hang_step e] at h
      exact ab_one h
  intro xs
  induction xs with
  | nil => exact fun h => one h
  | cons x xs ih => exact fun h => ab_trans (one h.1) (ih h.2)
theorem ab_hang_back {u : List Int} {p k a b : Nat} (A : Ab u p k) (h : Ab (hang u p k) a b) : Ab u a b := by
  obtain ⟨xs, hx⟩ := h
  exact ab_back A hx
structure Back (T : List Int → List Nat → Nat → List Int) : Prop where
  back : ∀ u pre x a b, fvB u = true → x < u.length → (∀ p ∈ pre, p < u.length ∧ Ab u p x) → Ab (T u pre x) a b → Ab u a b
theorem cut_back {x a b : Nat} : ∀ (pre : List Nat) (u : List Int), fvB u = true → x < u.length → (∀ p ∈ pre, p < u.length ∧ Ab u p x) → Ab (pre.foldl (fun v p => hang v p x) u) a b → Ab u a b
  | [], _, _, _, _, h => h
  | q :: pre, u, h, hx, hab, hA => by
    have hq := hab q (by simp)
    have S := ab_up h hq.1 hq.2
    rw [List.foldl_cons] at hA
    exact ab_hang_back hq.2 (cut_back pre (hang u q x) (sk_fv S) (by rw [hang_len]; exact hx) (fun p hp => by
      have := hab p (by simp [hp])
      exact ⟨by rw [hang_len]; exact this.1, ab_hang_to S this.2⟩) hA)
theorem look_back (l : Int) : Back (lookAt l) := by
  refine ⟨fun u pre x a b h hx hab hA => ?_⟩
  unfold lookAt at hA
  split at hA
  · exact hA
  · split at hA
    · unfold cutAt at hA
      split at hA
      · exact hA
      · exact cut_back pre u h hx hab hA
    · split at hA
      · unfold halveAt at hA
        cases h1 : step u x with
        | none => rw [h1] at hA; exact hA
        | some y =>
          rw [h1] at hA
          dsimp only at hA
          cases h2 : step u y with
          | none => rw [h2] at hA; exact hA
          | some z =>
            rw [h2] at hA
            exact ab_hang_back (ab_trans (ab_one h1) (ab_one h2)) hA
      · unfold splitAt' at hA
        split at hA
        · rename_i h2
          exact ab_hang_back (hab _ (split_mem h2)).2 hA
        · exact hA
theorem foT_back {T : List Int → List Nat → Nat → List Int} (K : Kind T) (Bk : Back T) {up : List Int} (h : fvB up = true) {i : Nat} (hi : i < up.length) {a b : Nat} (pre : List Nat) : Gos T up i pre → Ab (foT T up pre) a b → Ab up a b :=
  rev_ind (P := fun pre => Gos T up i pre → Ab (foT T up pre) a b → Ab up a b) (fun _ h => h) (fun pre x ih hg hA => by
    obtain ⟨h1, h2⟩ := gos_snoc.1 hg
    obtain ⟨s1, s2, _⟩ := goes K h hi pre h1
    obtain ⟨hx, hab⟩ := s2 x h2
    rw [foT_snoc] at hA
    exact ih h1 (Bk.back _ pre x a b s1.fv (by rw [s1.len]; exact hx) (fun p hp => by rw [s1.len]; exact hab p hp) hA)) pre
/-- One comes over items of the way alone. -/
theorem gos_way {T : List Int → List Nat → Nat → List Int} (K : Kind T) (Bk : Back T) {up : List Int} (h : fvB up = true) {i : Nat} (hi : i < up.length) (pre : List Nat) : Gos T up i pre → ∀ x ∈ pre, x ∈ wayOf up i := by
  refine rev_ind (P := fun pre => Gos T up i pre → ∀ x ∈ pre, x ∈ wayOf up i) (fun _ x hx => by simp at hx) (fun pre x ih hg y hy => ?_) pre
  obtain ⟨h1, h2⟩ := gos_snoc.1 hg
  rcases List.mem_append.1 hy with hy | hy
  · exact ih h1 y hy
  · have e : y = x := by simpa using hy
    rw [e]
    cases hp : pre with
    | nil =>
      rw [hp, nxT_nil] at h2
      injection h2 with h2
      rw [← h2]
      exact way_self _ _
    | cons q rest =>
      have hq : q = i := by
        have h3 : Gos T up i (q :: rest) := by rw [← hp]; exact h1
        have h4 := h3 [] q (by simp)
        rw [nxT_nil] at h4
        injection h4 with h4
        exact h4.symm
      obtain ⟨s1, s2, _⟩ := goes K h hi pre h1
      have hab := ((s2 x h2).2 q (by rw [hp]; simp)).2
      have := foT_back K Bk h hi pre h1 hab
      rw [hq] at this
      exact (ab_up h hi this).hk
theorem look_off (l : Int) {up : List Int} (h : fvB up = true) {i : Nat} (hi : i < up.length) {j : Nat} (hj : j ∉ wayOf up i) : (lookT (lookAt l) up i)[j]? = up[j]? :=
  foT_off (look_only l) _ fun hm => hj (gos_way (look_kind l) (look_back l) h hi _ (visits_done (look_kind l) h hi).1 j hm)

theorem halve_eq_one {v : List Int} {x y : Nat} (h : step v x = some y) (h2 : step v y = none) (pre : List Nat) : halveAt v pre x = v := by
  unfold halveAt
  rw [h]
  dsimp only
  rw [h2]
theorem halve_eq_two {v : List Int} {x y z : Nat} (h : step v x = some y) (h2 : step v y = some z) (pre : List Nat) : halveAt v pre x = hang v x z := by
  unfold halveAt
  rw [h]
  dsimp only
  rw [h2]
/-- Halving: how far one has come over so many items. -/
theorem halve_far {up : List Int} (h : fvB up = true) {i : Nat} (hi : i < up.length) (pre : List Nat) : Gos halveAt up i pre → ∀ x, nxT halveAt up i pre = some x → 2 * pre.length + dist up x = dist up i ∨ (dist up x = 0 ∧ 2 * pre.length = dist up i + 1) := by
  refine rev_ind (P := fun pre => Gos halveAt up i pre → ∀ x, nxT halveAt up i pre = some x → 2 * pre.length + dist up x = dist up i ∨ (dist up x = 0 ∧ 2 * pre.length = dist up i + 1)) (fun _ x hx => ?_) (fun pre x ih hg z hz => ?_) pre
  · rw [nxT_nil] at hx
    injection hx with hx
    rw [hx]
    exact .inl (by simp)
  · obtain ⟨h1, h2⟩ := gos_snoc.1 hg
    obtain ⟨s1, s2, _⟩ := goes halve_kind h hi pre h1
    obtain ⟨hx, hab⟩ := s2 x h2
    have O : Only halveAt := look_only 2
    have hnx : x ∉ pre := fun hm => (ab_up s1.fv (by rw [s1.len]; exact hx) (hab x hm).2).ne rfl
    have hs := step_off O (up := up) hnx
    rw [List.length_append, List.length_singleton]
    rw [nxT_snoc, foT_snoc] at hz
    rcases ih h1 x h2 with ih | ⟨ih, ih2⟩
    · cases h3 : step up x with
      | none =>
        rw [h3] at hs
        rw [halve_root hs, hs] at hz
        cases hz
      | some y =>
        rw [h3] at hs
        have hd := dist_cons h hx h3
        have hy := path_step_lt (fv_in h) hx h3
        have hny : y ∉ pre := fun hm => (ab_up s1.fv (by rw [s1.len]; exact hy) (ab_trans (hab y hm).2 (ab_one hs))).ne rfl
        have hs2 := step_off O (up := up) hny
        cases h4 : step up y with
        | none =>
          rw [h4] at hs2
          rw [halve_eq_one hs hs2, hs] at hz
          injection hz with hz
          have := dist_root h4
          rw [← hz]
          exact .inr (by omega)
        | some z' =>
          rw [h4] at hs2
          rw [halve_eq_two hs hs2] at hz
          have hst := sk_step_same (ab_up s1.fv (by rw [s1.len]; exact hx) (ab_trans (ab_one hs) (ab_one hs2)))
          rw [hst] at hz
          injection hz with hz
          have := dist_cons h hy h4
          rw [← hz]
          exact .inl (by omega)
    · rw [dist_zero h hx ih] at hs
      rw [halve_root hs, hs] at hz
      cases hz
theorem halve_path {up : List Int} (h : fvB up = true) {i : Nat} (hi : i < up.length) (pre : List Nat) : Gos halveAt up i pre → Path (foT halveAt up pre) (some i) pre (nxT halveAt up i pre) := by
  refine rev_ind (P := fun pre => Gos halveAt up i pre → Path (foT halveAt up pre) (some i) pre (nxT halveAt up i pre)) (fun _ => rfl) (fun pre x ih hg => ?_) pre
  obtain ⟨h1, h2⟩ := gos_snoc.1 hg
  have h3 := ih h1
  have hnd := (goes halve_kind h hi _ hg).2.2.1
  have hx : x ∉ pre := fun hm => by
    rw [List.nodup_append] at hnd
    exact hnd.2.2 x hm x (by simp) rfl
  rw [h2] at h3
  have h4 : Path (foT halveAt up (pre ++ [x])) (some i) pre (some x) := by
    rw [foT_snoc]
    cases h5 : step (foT halveAt up pre) x with
    | none => rw [halve_root h5]; exact h3
    | some y =>
      cases h6 : step (foT halveAt up pre) y with
      | none => rw [halve_eq_one h5 h6]; exact h3
      | some z => rw [halve_eq_two h5 h6]; exact hang_path h3 hx
  have h5 := path_snoc h4
  rw [nxT_snoc]
  exact h5
/-- Halving follows half as many links, and leaves a way of as many. -/
theorem halve_count {up : List Int} (h : fvB up = true) {i : Nat} (hi : i < up.length) : stepsT halveAt up i = (dist up i + 1) / 2 ∧ dist (lookT halveAt up i) i = (dist up i + 1) / 2 := by
  obtain ⟨h1, h2⟩ := visits_done halve_kind h hi
  have hsh := lookT_shr halve_kind h hi
  have hp := halve_path h hi _ h1
  rw [h2] at hp
  have hw : wayOf (lookT halveAt up i) i = visits halveAt up i := path_uniq (fv_path hsh.fv (by rw [hsh.len]; exact hi)) hp
  have hn : stepsT halveAt up i = (dist up i + 1) / 2 := by
    unfold stepsT
    have hpos := wayOf_pos (lookT halveAt up i) i
    rw [hw] at hpos
    have hne : visits halveAt up i ≠ [] := fun e => by rw [e] at hpos; simp at hpos
    have e := List.dropLast_concat_getLast hne
    rw [← e] at h1 h2
    obtain ⟨k1, k2⟩ := gos_snoc.1 h1
    have hf := halve_far h hi _ k1 _ k2
    have hlen : (visits halveAt up i).length - 1 = (visits halveAt up i).dropLast.length := by simp
    rw [hlen]
    obtain ⟨s1, s2, _⟩ := goes halve_kind h hi _ k1
    obtain ⟨hx, hab⟩ := s2 _ k2
    rcases hf with hf | ⟨_, hf⟩
    · have O : Only halveAt := look_only 2
      have hnx : (visits halveAt up i).getLast hne ∉ (visits halveAt up i).dropLast := fun hm => (ab_up s1.fv (by rw [s1.len]; exact hx) (hab _ hm).2).ne rfl
      have hs := step_off O (up := up) hnx
      cases h3 : step up ((visits halveAt up i).getLast hne) with
      | none =>
        have := dist_root h3
        omega
      | some y =>
        rw [h3] at hs
        obtain ⟨z, hz⟩ := halve_on s1.fv (by rw [s1.len]; exact hx) hs (visits halveAt up i).dropLast
        rw [nxT_snoc, foT_snoc, hz] at h2
        cases h2
    · omega
  refine ⟨hn, ?_⟩
  rw [← hn]
  unfold dist stepsT
  rw [hw]
end Go.Proofs.Ytemkbheplmimoaa
