/- Ways of looking for a root: which links become shorter while one goes up, as plain lists. No program. -/
import Derived.Test.YtemkbheplmimoaaSkipL
namespace Go.Proofs.Ytemkbheplmimoaa

/-- k lies above p: one comes to it over links. -/
def Ab (u : List Int) (p k : Nat) : Prop := ∃ xs, Path u (step u p) xs (some k)
theorem ab_one {u : List Int} {p k : Nat} (h : step u p = some k) : Ab u p k := ⟨[], h⟩
theorem ab_trans {u : List Int} {p q k : Nat} (h : Ab u p q) (h2 : Ab u q k) : Ab u p k := by
  obtain ⟨xs, hx⟩ := h
  obtain ⟨ys, hy⟩ := h2
  exact ⟨xs ++ q :: ys, path_join hx ⟨rfl, hy⟩⟩
theorem ab_up {u : List Int} (h : fvB u = true) {p k : Nat} (hp : p < u.length) (A : Ab u p k) : Up u p k := by
  obtain ⟨xs, hx⟩ := A
  have h1 : Path u (some p) (p :: xs) (some k) := ⟨rfl, hx⟩
  have hk : k < u.length := path_lt (fv_in h) (fun j hj => by cases hj; exact hp) h1
  have h2 := path_join h1 (fv_path h hk)
  have e := path_uniq h2 (fv_path h hp)
  have hs := way_self u k
  have hn := way_nodup h hp
  rw [← e] at hn
  refine ⟨h, hp, ?_, fun e2 => ?_⟩
  · rw [← e]
    exact List.mem_append_right _ hs
  · subst e2
    exact (List.nodup_cons.1 hn).1 (List.mem_append_right _ hs)
theorem path_first {u : List Int} {a : Nat} : ∀ {o o' : Option Nat} {xs : List Nat}, Path u o xs o' → a ∈ xs → ∃ ys, Path u o ys (some a) ∧ a ∉ ys
  | _, _, [], _, h => by simp at h
  | o, o', x :: xs, h, hm => by
    by_cases e : x = a
    · subst e
      exact ⟨[], h.1, by simp⟩
    · obtain ⟨ys, h1, h2⟩ := path_first h.2 (by
        rcases List.mem_cons.1 hm with hm | hm
        · exact absurd hm.symm e
        · exact hm)
      exact ⟨x :: ys, ⟨h.1, h1⟩, by simp [h2]; omega⟩
/-- Without the item one comes to. -/
theorem path_to {u : List Int} {a : Nat} {o : Option Nat} {xs : List Nat} (h : Path u o xs (some a)) : ∃ ys, Path u o ys (some a) ∧ a ∉ ys := by
  by_cases hm : a ∈ xs
  · exact path_first h hm
  · exact ⟨xs, h, hm⟩
theorem ab_hang_to {u : List Int} {p q k : Nat} (S : Up u q k) (A : Ab u p k) : Ab (hang u q k) p k := by
  by_cases e : p = q
  · subst e
    exact ab_one (sk_step_same S)
  · obtain ⟨xs, hx⟩ := A
    unfold Ab
    rw [hang_step e]
    by_cases hm : q ∈ xs
    · obtain ⟨ys, h1, h2⟩ := path_first hx hm
      refine ⟨ys ++ [q], ?_⟩
      have h3 := path_snoc (hang_path (q := k) h1 h2)
      rwa [sk_step_same S] at h3
    · exact ⟨xs, hang_path hx hm⟩
theorem ab_hang_from {u : List Int} {p x z : Nat} (hne : p ≠ x) (A : Ab u p x) : Ab (hang u x z) p x := by
  obtain ⟨xs, hx⟩ := A
  unfold Ab
  rw [hang_step hne]
  obtain ⟨ys, h1, h2⟩ := path_to hx
  exact ⟨ys, hang_path h1 h2⟩

/-- v is u with shorter ways to the same roots. -/
structure Shr (u v : List Int) : Prop where
  fu : fvB u = true
  fv : fvB v = true
  len : v.length = u.length
  root : ∀ j, j < u.length → rootI v j = rootI u j
  short : ∀ j, j < u.length → (way v v.length j).length ≤ (way u u.length j).length
theorem Shr.refl {u : List Int} (h : fvB u = true) : Shr u u := ⟨h, h, rfl, fun _ _ => rfl, fun _ _ => Nat.le_refl _⟩
theorem Shr.trans {u v w : List Int} (h : Shr u v) (k : Shr v w) : Shr u w :=
  ⟨h.fu, k.fv, k.len.trans h.len, fun j hj => (k.root j (by rw [h.len]; exact hj)).trans (h.root j hj), fun j hj => Nat.le_trans (k.short j (by rw [h.len]; exact hj)) (h.short j hj)⟩
theorem Shr.one {u : List Int} {p k : Nat} (S : Up u p k) : Shr u (hang u p k) :=
  ⟨S.fv, sk_fv S, hang_len _ _ _, fun _ hj => (sk_way S hj).2, fun _ hj => by rw [hang_len]; exact (sk_way S hj).1⟩

/-- What has become of the forest when one has come over pre and has changed it at each item. -/
def foT (T : List Int → List Nat → Nat → List Int) (up : List Int) (pre : List Nat) : List Int := (pre.foldl (fun (s : List Int × List Nat) x => (T s.1 s.2 x, s.2 ++ [x])) (up, [])).1
theorem foT_snd (T : List Int → List Nat → Nat → List Int) : ∀ (pre acc : List Nat) (up : List Int), (pre.foldl (fun (s : List Int × List Nat) x => (T s.1 s.2 x, s.2 ++ [x])) (up, acc)).2 = acc ++ pre
  | [], acc, _ => by simp
  | x :: pre, acc, up => by
    rw [List.foldl_cons, foT_snd T pre]
    simp
theorem foT_nil (T : List Int → List Nat → Nat → List Int) (up : List Int) : foT T up [] = up := rfl
theorem foT_snoc (T : List Int → List Nat → Nat → List Int) (up : List Int) (pre : List Nat) (x : Nat) : foT T up (pre ++ [x]) = T (foT T up pre) pre x := by
  have h := foT_snd T pre [] up
  unfold foT
  rw [List.foldl_append, List.foldl_cons, List.foldl_nil, h, List.nil_append]
/-- Where one comes then. -/
def nxT (T : List Int → List Nat → Nat → List Int) (up : List Int) (i : Nat) (pre : List Nat) : Option Nat := match pre.getLast? with | none => some i | some x => step (foT T up pre) x
theorem nxT_nil (T : List Int → List Nat → Nat → List Int) (up : List Int) (i : Nat) : nxT T up i [] = some i := rfl
theorem nxT_snoc (T : List Int → List Nat → Nat → List Int) (up : List Int) (i : Nat) (pre : List Nat) (x : Nat) : nxT T up i (pre ++ [x]) = step (foT T up (pre ++ [x])) x := by
  unfold nxT
  simp
/-- One comes over pre. -/
def Gos (T : List Int → List Nat → Nat → List Int) (up : List Int) (i : Nat) (pre : List Nat) : Prop := ∀ p x, (p ++ [x]) <+: pre → nxT T up i p = some x
theorem gos_nil (T : List Int → List Nat → Nat → List Int) (up : List Int) (i : Nat) : Gos T up i [] := fun p x h => by simp at h
theorem gos_snoc {T : List Int → List Nat → Nat → List Int} {up : List Int} {i : Nat} {pre : List Nat} {x : Nat} : Gos T up i (pre ++ [x]) ↔ Gos T up i pre ∧ nxT T up i pre = some x := by
  constructor
  · intro h
    exact ⟨fun p y hp => h p y (hp.trans (List.prefix_append _ _)), h pre x (List.prefix_refl _)⟩
  · rintro ⟨h1, h2⟩ p y hp
    rcases List.prefix_concat_iff.1 hp with e | e
    · have := List.append_inj' e rfl
      rw [this.1]
      have h3 : y = x := by simpa using this.2
      rw [h3]
      exact h2
    · exact h1 p y e
/-- The first k items one comes over. -/
def goT (T : List Int → List Nat → Nat → List Int) (up : List Int) (i : Nat) : Nat → List Nat
  | 0 => []
  | k + 1 => match nxT T up i (goT T up i k) with | none => goT T up i k | some x => goT T up i k ++ [x]
theorem rev_ind {P : List Nat → Prop} (h0 : P []) (h1 : ∀ pre x, P pre → P (pre ++ [x])) (xs : List Nat) : P xs := by
  have H : ∀ n (ys : List Nat), ys.length = n → P ys := by
    intro n
    induction n with
    | zero =>
      intro ys hy
      have : ys = [] := by simpa using hy
      rw [this]
      exact h0
    | succ n ih =>
      intro ys hy
      have hne : ys ≠ [] := fun e => by simp [e] at hy
      rw [← List.dropLast_concat_getLast hne]
      exact h1 _ _ (ih _ (by simp; omega))
  exact H _ xs rfl
theorem goT_gos {T : List Int → List Nat → Nat → List Int} {up : List Int} {i : Nat} (pre : List Nat) : Gos T up i pre → goT T up i pre.length = pre := by
  refine rev_ind (P := fun pre => Gos T up i pre → goT T up i pre.length = pre) (fun _ => rfl) (fun pre x ih h => ?_) pre
  obtain ⟨h1, h2⟩ := gos_snoc.1 h
  rw [List.length_append, List.length_singleton]
  show (match nxT T up i (goT T up i pre.length) with | none => goT T up i pre.length | some x => goT T up i pre.length ++ [x]) = _
  rw [ih h1, h2]
theorem goT_done {T : List Int → List Nat → Nat → List Int} {up : List Int} {i : Nat} {pre : List Nat} (h : Gos T up i pre) (hn : nxT T up i pre = none) : ∀ d, goT T up i (pre.length + d) = pre
  | 0 => goT_gos pre h
  | d + 1 => by
    show (match nxT T up i (goT T up i (pre.length + d)) with | none => goT T up i (pre.length + d) | some x => goT T up i (pre.length + d) ++ [x]) = _
    rw [goT_done h hn d, hn]
/-- All items one comes over, in a forest of so many. -/
def visits (T : List Int → List Nat → Nat → List Int) (up : List Int) (i : Nat) : List Nat := goT T up i up.length
theorem visits_of {T : List Int → List Nat → Nat → List Int} {up : List Int} {i : Nat} {pre : List Nat} (h : Gos T up i pre) (hn : nxT T up i pre = none) (hl : pre.length ≤ up.length) : visits T up i = pre := by
  have := goT_done h hn (up.length - pre.length)
  rw [show pre.length + (up.length - pre.length) = up.length by omega] at this
  exact this
theorem goT_all (T : List Int → List Nat → Nat → List Int) (up : List Int) (i : Nat) : ∀ k, Gos T up i (goT T up i k) ∧ (nxT T up i (goT T up i k) = none ∨ (goT T up i k).length = k)
  | 0 => ⟨gos_nil _ _ _, .inr rfl⟩
  | k + 1 => by
    obtain ⟨h1, h2⟩ := goT_all T up i k
    cases hn : nxT T up i (goT T up i k) with
    | none =>
      have e : goT T up i (k + 1) = goT T up i k := by
        show (match nxT T up i (goT T up i k) with | none => goT T up i k | some x => goT T up i k ++ [x]) = _
        rw [hn]
      rw [e]
      exact ⟨h1, .inl hn⟩
    | some x =>
      have e : goT T up i (k + 1) = goT T up i k ++ [x] := by
        show (match nxT T up i (goT T up i k) with | none => goT T up i k | some x => goT T up i k ++ [x]) = _
        rw [hn]
      rw [e]
      refine ⟨gos_snoc.2 ⟨h1, hn⟩, .inr ?_⟩
      rcases h2 with h2 | h2
      · rw [hn] at h2
        cases h2
      · simp [h2]

/-- A change that shortens ways alone. -/
structure Kind (T : List Int → List Nat → Nat → List Int) : Prop where
  shr : ∀ u pre x, fvB u = true → x < u.length → (∀ p ∈ pre, p < u.length ∧ Ab u p x) → Shr u (T u pre x)
  on : ∀ u pre x y, fvB u = true → x < u.length → (∀ p ∈ pre, p < u.length ∧ Ab u p x) → step (T u pre x) x = some y → ∀ p ∈ pre, Ab (T u pre x) p x
theorem goes {T : List Int → List Nat → Nat → List Int} (K : Kind T) {up : List Int} (h : fvB up = true) {i : Nat} (hi : i < up.length) (pre : List Nat) :
    Gos T up i pre → Shr up (foT T up pre) ∧ (∀ x, nxT T up i pre = some x → x < up.length ∧ ∀ p ∈ pre, p < up.length ∧ Ab (foT T up pre) p x) ∧ (pre.Nodup ∧ ∀ p ∈ pre, p < up.length) := by
  refine rev_ind (P := fun pre => Gos T up i pre → Shr up (foT T up pre) ∧ (∀ x, nxT T up i pre = some x → x < up.length ∧ ∀ p ∈ pre, p < up.length ∧ Ab (foT T up pre) p x) ∧ (pre.Nodup ∧ ∀ p ∈ pre, p < up.length)) ?_ ?_ pre
  · intro _
    exact ⟨Shr.refl h, fun x e => by
      rw [nxT_nil] at e
      cases e
      exact ⟨hi, by simp⟩, List.nodup_nil, by simp⟩
  · intro pre x ih hg
    obtain ⟨h1, h2⟩ := gos_snoc.1 hg
    obtain ⟨s1, s2, s3, s4⟩ := ih h1
    obtain ⟨hx, hab⟩ := s2 x h2
    have hx' : x < (foT T up pre).length := by rw [s1.len]; exact hx
    have hab' : ∀ p ∈ pre, p < (foT T up pre).length ∧ Ab (foT T up pre) p x := fun p hp => by rw [s1.len]; exact hab p hp
    have t1 := K.shr _ pre x s1.fv hx' hab'
    rw [foT_snoc]
    have t2 := s1.trans t1
    refine ⟨t2, fun y hy => ?_, ?_, fun p hp => ?_⟩
    · rw [nxT_snoc, foT_snoc] at hy
      have hy2 : y < up.length := by
        rw [← t2.len]
        exact path_step_lt (fv_in t1.fv) (by rw [t2.len]; exact hx) hy
      refine ⟨hy2, fun p hp => ?_⟩
      rcases List.mem_append.1 hp with hp | hp
      · exact ⟨(hab p hp).1, ab_trans (K.on _ pre x y s1.fv hx' hab' hy p hp) (ab_one hy)⟩
      · have e : p = x := by simpa using hp
        rw [e]
        exact ⟨hx, ab_one hy⟩
    · rw [List.nodup_append]
      refine ⟨s3, by simp, fun a ha b hb e => ?_⟩
      have e2 : b = x := by simpa using hb
      rw [e, e2] at ha
      exact (ab_up s1.fv (hab' x ha).1 (hab' x ha).2).ne rfl
    · rcases List.mem_append.1 hp with hp | hp
      · exact s4 p hp
      · have e : p = x := by simpa using hp
        rw [e]
        exact hx
theorem gos_len {T : List Int → List Nat → Nat → List Int} (K : Kind T) {up : List Int} (h : fvB up = true) {i : Nat} (hi : i < up.length) {pre : List Nat} (hg : Gos T up i pre) : pre.length ≤ up.length :=
  nodup_len (goes K h hi pre hg).2.2.1 (goes K h hi pre hg).2.2.2
/-- One comes to an end. -/
theorem visits_done {T : List Int → List Nat → Nat → List Int} (K : Kind T) {up : List Int} (h : fvB up = true) {i : Nat} (hi : i < up.length) : Gos T up i (visits T up i) ∧ nxT T up i (visits T up i) = none := by
  obtain ⟨h1, h2⟩ := goT_all T up i up.length
  refine ⟨h1, ?_⟩
  rcases h2 with h2 | h2
  · exact h2
  · cases hn : nxT T up i (visits T up i) with
    | none => rfl
    | some x =>
      have := gos_len K h hi (gos_snoc.2 ⟨h1, hn⟩)
      rw [List.length_append, List.length_singleton, h2] at this
      omega
/-- The forest when one has looked from i, and how many links were followed. -/
def lookT (T : List Int → List Nat → Nat → List Int) (up : List Int) (i : Nat) : List Int := foT T up (visits T up i)
def stepsT (T : List Int → List Nat → Nat → List Int) (up : List Int) (i : Nat) : Nat := (visits T up i).length - 1
theorem lookT_shr {T : List Int → List Nat → Nat → List Int} (K : Kind T) {up : List Int} (h : fvB up = true) {i : Nat} (hi : i < up.length) : Shr up (lookT T up i) := (goes K h hi _ (visits_done K h hi).1).1
theorem visits_len {T : List Int → List Nat → Nat → List Int} (K : Kind T) {up : List Int} (h : fvB up = true) {i : Nat} (hi : i < up.length) : (visits T up i).length ≤ up.length := gos_len K h hi (visits_done K h hi).1

def bareAt (u : List Int) (_ : List Nat) (_ : Nat) : List Int := u
def cutAt (u : List Int) (pre : List Nat) (x : Nat) : List Int := if (step u x).isSome = true then u else pre.foldl (fun v p => hang v p x) u
def halveAt (u : List Int) (_ : List Nat) (x : Nat) : List Int := match step u x with | none => u | some y => match step u y with | none => u | some z => hang u x z
def splitAt' (u : List Int) (pre : List Nat) (x : Nat) : List Int := if 2 ≤ pre.length then hang u (pre[pre.length - 2]?.getD 0) x else u

theorem bare_kind : Kind bareAt := ⟨fun _ _ _ h _ _ => Shr.refl h, fun _ _ _ _ _ _ h _ p hp => (h p hp).2⟩
theorem cut_fold {x : Nat} : ∀ (pre : List Nat) (u : List Int), fvB u = true → x < u.length → (∀ p ∈ pre, p < u.length ∧ Ab u p x) → Shr u (pre.foldl (fun v p => hang v p x) u) ∧ step (pre.foldl (fun v p => hang v p x) u) x = step u x
  | [], u, h, _, _ => ⟨Shr.refl h, rfl⟩
  | q :: pre, u, h, hx, hab => by
    have hq := hab q (by simp)
    have S := ab_up h hq.1 hq.2
    obtain ⟨h1, h2⟩ := cut_fold pre (hang u q x) (sk_fv S) (by rw [hang_len]; exact hx) fun p hp => by
      have := hab p (by simp [hp])
      exact ⟨by rw [hang_len]; exact this.1, ab_hang_to S this.2⟩
    rw [List.foldl_cons]
    exact ⟨(Shr.one S).trans h1, h2.trans (hang_step S.ne)⟩
theorem cut_kind : Kind cutAt := by
  refine ⟨fun u pre x h hx hab => ?_, fun u pre x y h hx hab hy => ?_⟩
  · unfold cutAt
    split
    · exact Shr.refl h
    · exact (cut_fold pre u h hx hab).1
  · unfold cutAt at hy ⊢
    split
    · exact fun p hp => (hab p hp).2
    · rename_i hs
      rw [if_neg hs, (cut_fold pre u h hx hab).2] at hy
      rw [hy] at hs
      exact absurd rfl hs
theorem halve_kind : Kind halveAt := by
  refine ⟨fun u pre x h hx hab => ?_, fun u pre x y h hx hab hy p hp => ?_⟩
  · unfold halveAt
    cases h1 : step u x with
    | none => exact Shr.refl h
    | some y =>
      dsimp only
      cases h2 : step u y with
      | none => exact Shr.refl h
      | some z => exact Shr.one (ab_up h hx (ab_trans (ab_one h1) (ab_one h2)))
  · unfold halveAt
    cases h1 : step u x with
    | none => exact (hab p hp).2
    | some y =>
      dsimp only
      cases h2 : step u y with
      | none => exact (hab p hp).2
      | some z => exact ab_hang_from (fun e => (ab_up h (hab p hp).1 (hab p hp).2).ne e.symm) (hab p hp).2
theorem split_mem {pre : List Nat} (h : 2 ≤ pre.length) : pre[pre.length - 2]?.getD 0 ∈ pre := by
  rw [List.getElem?_eq_getElem (by omega), Option.getD_some]
  exact List.getElem_mem _
theorem split_kind : Kind splitAt' := by
  refine ⟨fun u pre x h hx hab => ?_, fun u pre x y h hx hab hy p hp => ?_⟩
  · unfold splitAt'
    split
    · rename_i h2
      have := hab _ (split_mem h2)
      exact Shr.one (ab_up h this.1 this.2)
    · exact Shr.refl h
  · unfold splitAt'
    split
    · rename_i h2
      have := hab _ (split_mem h2)
      exact ab_hang_to (ab_up h this.1 this.2) (hab p hp).2
    · exact (hab p hp).2

/-- The ways of looking by their numbers. -/
def lookAt (l : Int) : List Int → List Nat → Nat → List Int := if l = 0 then bareAt else if l = 1 then cutAt else if l = 2 then halveAt else splitAt'
theorem look_kind (l : Int) : Kind (lookAt l) := by
  unfold lookAt
  repeat (first | split | exact bare_kind | exact cut_kind | exact halve_kind | exact split_kind)
end Go.Proofs.Ytemkbheplmimoaa
