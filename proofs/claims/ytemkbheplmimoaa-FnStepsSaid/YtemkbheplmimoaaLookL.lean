/- Ways of looking told as the document tells them: what each leaves, and over which items one comes. Plain lists, no program. -/
import Derived.Test.YtemkbheplmimoaaLook
namespace Go.Proofs.Ytemkbheplmimoaa

theorem lookAt_0 : lookAt 0 = bareAt := rfl
theorem lookAt_1 : lookAt 1 = cutAt := rfl
theorem lookAt_2 : lookAt 2 = halveAt := rfl
theorem lookAt_3 : lookAt 3 = splitAt' := rfl

/-- Where the link one follows is the old one, one comes over the old way. -/
theorem way_visits {T : List Int → List Nat → Nat → List Int} (K : Kind T) {up : List Int} (h : fvB up = true) {i : Nat} (hi : i < up.length)
    (hT : ∀ pre, Gos T up i pre → Path up (some i) pre (nxT T up i pre)) : visits T up i = wayOf up i := by
  obtain ⟨h1, h2⟩ := visits_done K h hi
  have := hT _ h1
  rw [h2] at this
  exact path_uniq this (fv_path h hi)
theorem foT_bare (up : List Int) (pre : List Nat) : foT bareAt up pre = up :=
  rev_ind (P := fun pre => foT bareAt up pre = up) rfl (fun pre x ih => by rw [foT_snoc]; exact ih) pre
theorem bare_path {up : List Int} {i : Nat} (pre : List Nat) : Gos bareAt up i pre → Path up (some i) pre (nxT bareAt up i pre) :=
  rev_ind (P := fun pre => Gos bareAt up i pre → Path up (some i) pre (nxT bareAt up i pre)) (fun _ => rfl) (fun pre x ih h => by
    obtain ⟨h1, h2⟩ := gos_snoc.1 h
    have h3 := ih h1
    rw [h2] at h3
    rw [nxT_snoc, foT_bare]
    exact path_snoc h3) pre
theorem look_bare {up : List Int} (h : fvB up = true) {i : Nat} (hi : i < up.length) : visits bareAt up i = wayOf up i ∧ lookT bareAt up i = up := by
  refine ⟨way_visits bare_kind h hi bare_path, ?_⟩
  unfold lookT
  exact foT_bare _ _

theorem cut_path {up : List Int} (h : fvB up = true) {i : Nat} (hi : i < up.length) (pre : List Nat) : Gos cutAt up i pre → Path up (some i) pre (nxT cutAt up i pre) ∧ (nxT cutAt up i pre ≠ none → foT cutAt up pre = up) := by
  refine rev_ind (P := fun pre => Gos cutAt up i pre → Path up (some i) pre (nxT cutAt up i pre) ∧ (nxT cutAt up i pre ≠ none → foT cutAt up pre = up)) (fun _ => ⟨rfl, fun _ => rfl⟩) (fun pre x ih hg => ?_) pre
  obtain ⟨h1, h2⟩ := gos_snoc.1 hg
  obtain ⟨h3, h4⟩ := ih h1
  obtain ⟨_, g2, _⟩ := goes cut_kind h hi pre h1
  obtain ⟨hx, hab⟩ := g2 x h2
  have h5 := h4 (by rw [h2]; simp)
  rw [h2] at h3
  rw [h5] at hab
  rw [nxT_snoc, foT_snoc, h5]
  have hst : step (cutAt up pre x) x = step up x := by
    unfold cutAt
    split
    · rfl
    · exact (cut_fold pre up h hx hab).2
  rw [hst]
  refine ⟨path_snoc h3, fun hn => ?_⟩
  unfold cutAt
  rw [if_pos]
  cases hs : step up x with
  | none => exact absurd hs hn
  | some y => rfl
theorem hang_self {v : List Int} {r : Nat} (hr : r < v.length) (hs : step v r = none) : hang v r r = v := by
  have := step_none hs
  rw [List.getElem?_eq_getElem hr, Option.getD_some] at this
  unfold hang
  rw [← this]
  exact List.set_getElem_self hr
/-- All items of a way get a link to r. -/
def allTo (up : List Int) (way : List Nat) (r : Nat) : List Int := way.foldl (fun v k => hang v k r) up
theorem look_cut {up : List Int} (h : fvB up = true) {i : Nat} (hi : i < up.length) : visits cutAt up i = wayOf up i ∧ lookT cutAt up i = allTo up (wayOf up i) (rootI up i) := by
  have hv := way_visits cut_kind h hi (fun pre hg => (cut_path h hi pre hg).1)
  refine ⟨hv, ?_⟩
  unfold lookT
  have hd := visits_done cut_kind h hi
  rw [hv] at hd ⊢
  have hne : wayOf up i ≠ [] := fun e => by
    have := (way_len up up.length i).1
    unfold wayOf at e
    rw [e] at this
    simp at this
  obtain ⟨pre, h1, h2, h3⟩ := last_path (i := i) (fv_path h hi) hne
  have e : wayOf up i = pre ++ [rootI up i] := h1
  rw [e] at hd ⊢
  obtain ⟨g1, g2⟩ := gos_snoc.1 hd.1
  obtain ⟨_, k2⟩ := cut_path h hi pre g1
  have k3 := k2 (by rw [g2]; simp)
  have hr := (root_is h hi)
  obtain ⟨_, m2, _⟩ := goes cut_kind h hi pre g1
  obtain ⟨hx, hab⟩ := m2 _ g2
  rw [k3] at hab
  rw [foT_snoc, k3]
  unfold cutAt allTo
  rw [if_neg (by rw [hr.2]; simp), List.foldl_append, List.foldl_cons, List.foldl_nil]
  obtain ⟨f1, f2⟩ := cut_fold pre up h hx hab
  exact (hang_self (by rw [f1.len]; exact hx) (by rw [f2]; exact hr.2)).symm

theorem split_off {up : List Int} {x : Nat} (pre : List Nat) : x ∉ pre → step (foT splitAt' up pre) x = step up x :=
  rev_ind (P := fun pre => x ∉ pre → step (foT splitAt' up pre) x = step up x) (fun _ => rfl) (fun pre y ih hn => by
    have h1 : x ∉ pre := fun hm => hn (List.mem_append_left _ hm)
    rw [foT_snoc]
    unfold splitAt'
    split
    · rename_i h2
      rw [hang_step (fun e => h1 (by rw [e]; exact split_mem h2))]
      exact ih h1
    · exact ih h1) pre
theorem split_path {up : List Int} (h : fvB up = true) {i : Nat} (hi : i < up.length) (pre : List Nat) : Gos splitAt' up i pre → Path up (some i) pre (nxT splitAt' up i pre) := by
  refine rev_ind (P := fun pre => Gos splitAt' up i pre → Path up (some i) pre (nxT splitAt' up i pre)) (fun _ => rfl) (fun pre x ih hg => ?_) pre
  obtain ⟨h1, h2⟩ := gos_snoc.1 hg
  have h3 := ih h1
  rw [h2] at h3
  have hnd := (goes split_kind h hi _ hg).2.2.1
  have hx : x ∉ pre := fun hm => by
    rw [List.nodup_append] at hnd
    exact hnd.2.2 x hm x (by simp) rfl
  rw [nxT_snoc]
  have hst : step (foT splitAt' up (pre ++ [x])) x = step up x := by
    rw [foT_snoc]
    unfold splitAt'
    split
    · rename_i h4
      rw [hang_step (fun e => hx (by rw [e]; exact split_mem h4))]
      exact split_off pre hx
    · exact split_off pre hx
  rw [hst]
  exact path_snoc h3
/-- The first t items of a way get links to the items two above. -/
def twoUp (up : List Int) (way : List Nat) (t : Nat) : List Int := (List.range t).foldl (fun v k => hang v (way[k]?.getD 0) (way[k + 2]?.getD 0)) up
theorem twoUp_succ (up : List Int) (way : List Nat) (t : Nat) : twoUp up way (t + 1) = hang (twoUp up way t) (way[t]?.getD 0) (way[t + 2]?.getD 0) := by
  unfold twoUp
  rw [List.range_succ, List.foldl_append, List.foldl_cons, List.foldl_nil]
theorem twoUp_len (up : List Int) (way : List Nat) : ∀ t, (twoUp up way t).length = up.length
  | 0 => rfl
  | t + 1 => by rw [twoUp_succ, hang_len, twoUp_len up way t]
theorem twoUp_snoc (up : List Int) (way : List Nat) (x : Nat) : ∀ t, t + 2 ≤ way.length → twoUp up (way ++ [x]) t = twoUp up way t
  | 0, _ => rfl
  | t + 1, h => by
    rw [twoUp_succ, twoUp_succ, twoUp_snoc up way x t (by omega), List.getElem?_append_left (by omega), List.getElem?_append_left (by omega)]
theorem foT_split (up : List Int) (pre : List Nat) : foT splitAt' up pre = twoUp up pre (pre.length - 2) := by
  refine rev_ind (P := fun pre => foT splitAt' up pre = twoUp up pre (pre.length - 2)) rfl (fun pre x ih => ?_) pre
  rw [foT_snoc, ih, List.length_append, List.length_singleton]
  unfold splitAt'
  split
  · rename_i h
    rw [show pre.length + 1 - 2 = pre.length - 2 + 1 by omega, twoUp_succ, twoUp_snoc up pre x _ (by omega), List.getElem?_append_left (by omega), List.getElem?_append_right (by omega), show pre.length - 2 + 2 - pre.length = 0 by omega]
    rfl
  · rename_i h
    rw [show pre.length + 1 - 2 = 0 by omega, show pre.length - 2 = 0 by omega]
    rfl
theorem look_split {up : List Int} (h : fvB up = true) {i : Nat} (hi : i < up.length) : visits splitAt' up i = wayOf up i ∧ lookT splitAt' up i = twoUp up (wayOf up i) ((wayOf up i).length - 2) := by
  have hv := way_visits split_kind h hi (split_path h hi)
  refine ⟨hv, ?_⟩
  unfold lookT
  rw [hv]
  exact foT_split _ _

/-- Halving sets an item's link to the link of the one above. -/
theorem halve_set {u : List Int} (hb : InB u) {x y : Nat} (hx : x < u.length) (h : step u x = some y) (pre : List Nat) : u.set x (u[y]?.getD 0) = halveAt u pre x := by
  have hy := step_some hb hx h
  unfold halveAt
  rw [h]
  dsimp only
  cases h2 : step u y with
  | none =>
    have e := step_none h2
    dsimp only
    rw [e, ← hy.1, List.getElem?_eq_getElem hx, Option.getD_some]
    exact List.set_getElem_self hx
  | some z =>
    have e := (step_some hb hy.2.2 h2).1
    dsimp only
    rw [e]
    rfl
theorem halve_root {u : List Int} {x : Nat} (h : step u x = none) (pre : List Nat) : halveAt u pre x = u := by
  unfold halveAt
  rw [h]
theorem halve_on {u : List Int} (hf : fvB u = true) {x y : Nat} (hx : x < u.length) (h : step u x = some y) (pre : List Nat) : ∃ z, step (halveAt u pre x) x = some z := by
  unfold halveAt
  rw [h]
  dsimp only
  cases h2 : step u y with
  | none => exact ⟨y, h⟩
  | some z => exact ⟨z, sk_step_same (ab_up hf hx (ab_trans (ab_one h) (ab_one h2)))⟩
/-- One has come to a root: all has been done. -/
theorem halve_end {up : List Int} (h : fvB up = true) {i : Nat} (hi : i < up.length) {pre : List Nat} {x : Nat} (hg : Gos halveAt up i pre) (hn : nxT halveAt up i pre = some x) (hr : step (foT halveAt up pre) x = none) :
    lookT halveAt up i = foT halveAt up pre ∧ stepsT halveAt up i = pre.length := by
  have h1 : Gos halveAt up i (pre ++ [x]) := gos_snoc.2 ⟨hg, hn⟩
  have h2 : foT halveAt up (pre ++ [x]) = foT halveAt up pre := by rw [foT_snoc, halve_root hr]
  have h3 : nxT halveAt up i (pre ++ [x]) = none := by rw [nxT_snoc, h2]; exact hr
  have h4 := visits_of h1 h3 (gos_len halve_kind h hi h1)
  unfold lookT stepsT
  rw [h4, h2]
  simp
/-- One has not. -/
theorem halve_more {up : List Int} (h : fvB up = true) {i : Nat} (hi : i < up.length) {pre : List Nat} {x y : Nat} (hg : Gos halveAt up i pre) (hn : nxT halveAt up i pre = some x) (hr : step (foT halveAt up pre) x = some y) :
    x < up.length ∧ y < up.length ∧ Gos halveAt up i (pre ++ [x]) ∧ (foT halveAt up pre).set x ((foT halveAt up pre)[y]?.getD 0) = foT halveAt up (pre ++ [x]) ∧ ∃ z, nxT halveAt up i (pre ++ [x]) = some z ∧ (foT halveAt up (pre ++ [x]))[x]?.getD 0 = (z : Int) ∧ z < up.length := by
  obtain ⟨g1, g2, _⟩ := goes halve_kind h hi pre hg
  have hx := (g2 x hn).1
  have hx' : x < (foT halveAt up pre).length := by rw [g1.len]; exact hx
  have h1 : Gos halveAt up i (pre ++ [x]) := gos_snoc.2 ⟨hg, hn⟩
  obtain ⟨k1, _⟩ := goes halve_kind h hi _ h1
  obtain ⟨z, hz⟩ := halve_on g1.fv hx' hr pre
  have hz : step (foT halveAt up (pre ++ [x])) x = some z := by rw [foT_snoc]; exact hz
  have hs := step_some (fv_in k1.fv) (by rw [k1.len]; exact hx) hz
  have hy := (step_some (fv_in g1.fv) hx' hr).2.2
  refine ⟨hx, by rw [← g1.len]; exact hy, h1, by rw [foT_snoc]; exact halve_set (fv_in g1.fv) hx' hr pre, z, by rw [nxT_snoc]; exact hz, hs.1, by rw [← k1.len]; exact hs.2.2⟩
end Go.Proofs.Ytemkbheplmimoaa
