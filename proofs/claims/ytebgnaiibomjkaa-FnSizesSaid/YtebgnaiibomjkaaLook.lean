/- Ways of looking for a root: which links become shorter while one goes up, as plain lists. No program. -/
import Derived.Test.YtebgnaiibomjkaaHang
namespace Go.Proofs.Ytebgnaiibomjkaa

/-- The item k lies on the way up from i, and is not i. -/
structure Up (up : List Int) (i k : Nat) : Prop where
  fv : fvB up = true
  hi : i < up.length
  hk : k ∈ way up up.length i
  ne : k ≠ i
theorem Up.lt {up : List Int} {i k : Nat} (S : Up up i k) : k < up.length := way_lt S.fv S.hi k S.hk
theorem sk_step_same {up : List Int} {i k : Nat} (S : Up up i k) : step (hang up i k) i = some k := by
  have := S.ne
  unfold step nx hang
  simp [S.hi]
  omega
theorem sk_in {up : List Int} {i k : Nat} (S : Up up i k) : InB (hang up i k) := fun j hj => by
  rw [hang_len] at hj ⊢
  unfold hang
  by_cases e : j = i
  · subst e; simp [hj]; exact S.lt
  · rw [List.getElem?_set_ne (by omega)]; exact fv_in S.fv j hj
theorem sk_above {up : List Int} {i k : Nat} (S : Up up i k) : ∃ rest, way up up.length i = i :: rest ∧ Path up (some k) (way up up.length k) none ∧ i ∉ way up up.length k ∧ (way up up.length k).length ≤ rest.length := by
  have hP := fv_path S.fv S.hi
  have hnd := way_nodup S.fv S.hi
  obtain ⟨t, ht, e⟩ := List.getElem_of_mem S.hk
  have h1 := path_at hP ht
  rw [e] at h1
  have hw := path_uniq h1 (fv_path S.fv S.lt)
  cases hW : way up up.length i with
  | nil =>
    rw [hW] at ht
    simp at ht
  | cons x rest =>
    have hx : x = i := by
      have hP2 := hP
      rw [hW] at hP2
      have := hP2.1
      injection this with this
      exact this.symm
    subst hx
    have ht0 : t ≠ 0 := fun e0 => by
      subst e0
      simp only [hW, List.getElem_cons_zero] at e
      exact S.ne e.symm
    refine ⟨rest, rfl, fv_path S.fv S.lt, ?_, ?_⟩
    · rw [← hw, hW]
      obtain ⟨t', rfl⟩ : ∃ t', t = t' + 1 := ⟨t - 1, by omega⟩
      rw [List.drop_succ_cons]
      rw [hW] at hnd
      exact fun hm => (List.nodup_cons.1 hnd).1 (List.mem_of_mem_drop hm)
    · rw [← hw, hW]
      simp
      omega
theorem sk_path {up : List Int} {i k : Nat} (S : Up up i k) : ∀ {o : Option Nat} {xs : List Nat}, Path up o xs none → ∃ ys, Path (hang up i k) o ys none ∧ ys.length ≤ xs.length ∧ (∀ d, lastOf d ys = lastOf d xs)
  | _, [], h => ⟨[], h, Nat.le_refl _, fun _ => rfl⟩
  | o, x :: xs, h => by
    by_cases e : x = i
    · subst e
      obtain ⟨rest, h1, h2, h3, h4⟩ := sk_above S
      have hxs : x :: xs = way up up.length x := by
        have h5 : Path up (some x) (x :: xs) none := ⟨rfl, h.2⟩
        exact path_uniq h5 (fv_path S.fv S.hi)
      have hlen : xs.length = rest.length := by rw [h1] at hxs; injection hxs with _ hxs; rw [hxs]
      refine ⟨x :: way up up.length k, ⟨h.1, ?_⟩, by simp; omega, fun d => ?_⟩
      · rw [sk_step_same S]
        exact hang_path h2 h3
      · rw [hxs]
        have hr : rootI up x = rootI up k := way_root S.fv S.hi S.lt S.hk
        have hk1 := (way_len up up.length k).1
        have e1 : lastOf d (x :: way up up.length k) = rootI up k := by
          unfold lastOf rootI lastOf wayOf
          rw [List.getLast?_cons]
          cases hl : (way up up.length k).getLast? with
          | none => rw [List.getLast?_eq_none_iff] at hl; rw [hl] at hk1; simp at hk1
          | some z => simp
        have e2 : lastOf d (way up up.length x) = rootI up x := by
          unfold rootI lastOf wayOf
          have hx1 := (way_len up up.length x).1
          cases hl : (way up up.length x).getLast? with
          | none => rw [List.getLast?_eq_none_iff] at hl; rw [hl] at hx1; simp at hx1
          | some z => simp
        rw [e1, e2, hr]
    · obtain ⟨ys, h1, h2, h3⟩ := sk_path S h.2
      refine ⟨x :: ys, ⟨h.1, by rw [hang_step e]; exact h1⟩, by simp; omega, fun d => ?_⟩
      have e1 : ∀ (zs : List Nat), lastOf d (x :: zs) = lastOf x zs := fun zs => by
        unfold lastOf
        rw [List.getLast?_cons]
        cases zs.getLast? <;> rfl
      rw [e1, e1, h3]
theorem sk_way {up : List Int} {i k j : Nat} (S : Up up i k) (hj : j < up.length) : (way (hang up i k) up.length j).length ≤ (way up up.length j).length ∧ rootI (hang up i k) j = rootI up j := by
  obtain ⟨ys, h1, h2, h3⟩ := sk_path S (fv_path S.fv hj)
  have hl := (fv_parts S.fv).2.2.2 j hj
  have hw : way (hang up i k) (hang up i k).length j = ys := way_of_path h1 (by rw [hang_len]; omega)
  refine ⟨?_, ?_⟩
  · rw [hang_len] at hw; rw [hw]; exact h2
  · unfold rootI wayOf; rw [hw]; exact h3 j
theorem sk_fv {up : List Int} {i k : Nat} (S : Up up i k) : fvB (hang up i k) = true := by
  obtain ⟨h1, h2, _, h4⟩ := fv_parts S.fv
  refine fv_of (by rw [hang_len]; exact h1) (by rw [hang_len]; exact h2) (sk_in S) fun j hj => ?_
  rw [hang_len] at hj ⊢
  exact Nat.le_trans (sk_way S hj).1 (h4 j hj)
end Go.Proofs.Ytebgnaiibomjkaa

namespace Go.Proofs.Ytebgnaiibomjkaa

/-- k lies above p: one comes to it over links. -/
def Ab (u : List Int) (p k : Nat) : Prop := ∃ xs, Path u (step u p) xs (some k)
theorem ab_one {u : List Int} {p k : Nat} (h : step u p = some k) : Ab u p k := ⟨[], h⟩
theorem ab_trans {u : List Int} {p q k : Nat} (h : Ab u p q) (h2 : Ab u q k) : Ab u p k := by
  obtain ⟨xs, hx⟩ := h
  obtain ⟨ys, hy⟩ := h2
  exact ⟨xs ++ q :: ys, path_join hx ⟨rfl, hy⟩⟩
theorem ab_up {u : List Int} (h : fvB u = true) {p k : Nat} (hp : p < u.length) (A : Ab u p k) : Up u p k := by
  obtain ⟨xs, hx⟩ := A
  have h1 : Path u (some p) (p :: xs) (some k) := ⟨rfl, hx⟩
  have hk : k < u.length := path_lt (fv_in h) (fun j hj => by cases hj; exact hp) h1
  have h2 := path_join h1 (fv_path h hk)
  have e := path_uniq h2 (fv_path h hp)
  have hs := way_self u k
  have hn := way_nodup h hp
  rw [← e] at hn
  refine ⟨h, hp, ?_, fun e2 => ?_⟩
  · rw [← e]
    exact List.mem_append_right _ hs
  · subst e2
    exact (List.nodup_cons.1 hn).1 (List.mem_append_right _ hs)
theorem path_first {u : List Int} {a : Nat} : ∀ {o o' : Option Nat} {xs : List Nat}, Path u o xs o' → a ∈ xs → ∃ ys, Path u o ys (some a) ∧ a ∉ ys
  | _, _, [], _, h => by simp at h
  | o, o', x :: xs, h, hm => by
    by_cases e : x = a
    · subst e
      exact ⟨[], h.1, by simp⟩
    · obtain ⟨ys, h1, h2⟩ := path_first h.2 (by
        rcases List.mem_cons.1 hm with hm | hm
        · exact absurd hm.symm e
        · exact hm)
      exact ⟨x :: ys, ⟨h.1, h1⟩, by simp [h2]; omega⟩
/-- Without the item one comes to. -/
theorem path_to {u : List Int} {a : Nat} {o : Option Nat} {xs : List Nat} (h : Path u o xs (some a)) : ∃ ys, Path u o ys (some a) ∧ a ∉ ys := by
  by_cases hm : a ∈ xs
  · exact path_first h hm
  · exact ⟨xs, h, hm⟩
theorem ab_hang_to {u : List Int} {p q k : Nat} (S : Up u q k) (A : Ab u p k) : Ab (hang u q k) p k := by
  by_cases e : p = q
  · subst e
    exact ab_one (sk_step_same S)
  · obtain ⟨xs, hx⟩ := A
    unfold Ab
    rw [hang_step e]
    by_cases hm : q ∈ xs
    · obtain ⟨ys, h1, h2⟩ := path_first hx hm
      refine ⟨ys ++ [q], ?_⟩
      have h3 := path_snoc (hang_path (q := k) h1 h2)
      rwa [sk_step_same S] at h3
    · exact ⟨xs, hang_path hx hm⟩
theorem ab_hang_from {u : List Int} {p x z : Nat} (hne : p ≠ x) (A : Ab u p x) : Ab (hang u x z) p x := by
  obtain ⟨xs, hx⟩ := A
  unfold Ab
  rw [hang_step hne]
  obtain ⟨ys, h1, h2⟩ := path_to hx
  exact ⟨ys, hang_path h1 h2⟩

/-- v is u with shorter ways to the same roots. -/
structure Shr (u v : List Int) : Prop where
  fu : fvB u = true
  fv : fvB v = true
  len : v.length = u.length
  root : ∀ j, j < u.length → rootI v j = rootI u j
  short : ∀ j, j < u.length → (way v v.length j).length ≤ (way u u.length j).length
theorem Shr.refl {u : List Int} (h : fvB u = true) : Shr u u := ⟨h, h, rfl, fun _ _ => rfl, fun _ _ => Nat.le_refl _⟩
theorem Shr.trans {u v w : List Int} (h : Shr u v) (k : Shr v w) : Shr u w :=
  ⟨h.fu, k.fv, k.len.trans h.len, fun j hj => (k.root j (by rw [h.len]; exact hj)).trans (h.root j hj), fun j hj => Nat.le_trans (k.short j (by rw [h.len]; exact hj)) (h.short j hj)⟩
theorem Shr.one {u : List Int} {p k : Nat} (S : Up u p k) : Shr u (hang u p k) :=
  ⟨S.fv, sk_fv S, hang_len _ _ _, fun _ hj => (sk_way S hj).2, fun _ hj => by rw [hang_len]; exact (sk_way S hj).1⟩

/-- What has become of the forest when one has come over pre and has changed it at each item. -/
def foT (T : List Int → List Nat → Nat → List Int) (up : List Int) (pre : List Nat) : List Int := (pre.foldl (fun (s : List Int × List Nat) x => (T s.1 s.2 x, s.2 ++ [x])) (up, [])).1
theorem foT_snd (T : List Int → List Nat → Nat → List Int) : ∀ (pre acc : List Nat) (up : List Int), (pre.foldl (fun (s : List Int × List Nat) x => (T s.1 s.2 x, s.2 ++ [x])) (up, acc)).2 = acc ++ pre
  | [], acc, _ => by simp
  | x :: pre, acc, up => by
    rw [List.foldl_cons, foT_snd T pre]
    simp
theorem foT_nil (T : List Int → List Nat → Nat → List Int) (up : List Int) : foT T up [] = up := rfl
theorem foT_snoc (T : List Int → List Nat → Nat → List Int) (up : List Int) (pre : List Nat) (x : Nat) : foT T up (pre ++ [x]) = T (foT T up pre) pre x := by
  have h := foT_snd T pre [] up
  unfold foT
  rw [List.foldl_append, List.foldl_cons, List.foldl_nil, h, List.nil_append]
/-- Where one comes then. -/
def nxT (T : List Int → List Nat → Nat → List Int) (up : List Int) (i : Nat) (pre : List Nat) : Option Nat := match pre.getLast? with | none => some i | some x => step (foT T up pre) x
theorem nxT_nil (T : List Int → List Nat → Nat → List Int) (up : List Int) (i : Nat) : nxT T up i [] = some i := rfl
theorem nxT_snoc (T : List Int → List Nat → Nat → List Int) (up : List Int) (i : Nat) (pre : List Nat) (x : Nat) : nxT T up i (pre ++ [x]) = step (foT T up (pre ++ [x])) x := by
  unfold nxT
  simp
/-- One comes over pre. -/
def Gos (T : List Int → List Nat → Nat → List Int) (up : List Int) (i : Nat) (pre : List Nat) : Prop := ∀ p x, (p ++ [x]) <+: pre → nxT T up i p = some x
theorem gos_nil (T : List Int → List Nat → Nat → List Int) (up : List Int) (i : Nat) : Gos T up i [] := fun p x h => by simp at h
theorem gos_snoc {T : List Int → List Nat → Nat → List Int} {up : List Int} {i : Nat} {pre : List Nat} {x : Nat} : Gos T up i (pre ++ [x]) ↔ Gos T up i pre ∧ nxT T up i pre = some x := by
  constructor
  · intro h
    exact ⟨fun p y hp => h p y (hp.trans (List.prefix_append _ _)), h pre x (List.prefix_refl _)⟩
  · rintro ⟨h1, h2⟩ p y hp
    rcases List.prefix_concat_iff.1 hp with e | e
    · have := List.append_inj' e rfl
      rw [this.1]
      have h3 : y = x := by simpa using this.2
      rw [h3]
      exact h2
    · exact h1 p y e
/-- The first k items one comes over. -/
def goT (T : List Int → List Nat → Nat → List Int) (up : List Int) (i : Nat) : Nat → List Nat
  | 0 => []
  | k + 1 => match nxT T up i (goT T up i k) with | none => goT T up i k | some x => goT T up i k ++ [x]
theorem rev_ind {P : List Nat → Prop} (h0 : P []) (h1 : ∀ pre x, P pre → P (pre ++ [x])) (xs : List Nat) : P xs := by
  have H : ∀ n (ys : List Nat), ys.length = n → P ys := by
    intro n
    induction n with
    | zero =>
      intro ys hy
      have : ys = [] := by simpa using hy
      rw [this]
      exact h0
    | succ n ih =>
      intro ys hy
      have hne : ys ≠ [] := fun e => by simp [e] at hy
      rw [← List.dropLast_concat_getLast hne]
      exact h1 _ _ (ih _ (by simp; omega))
  exact H _ xs rfl
theorem goT_gos {T : List Int → List Nat → Nat → List Int} {up : List Int} {i : Nat} (pre : List Nat) : Gos T up i pre → goT T up i pre.length = pre := by
  refine rev_ind (P := fun pre => Gos T up i pre → goT T up i pre.length = pre) (fun _ => rfl) (fun pre x ih h => ?_) pre
  obtain ⟨h1, h2⟩ := gos_snoc.1 h
  rw [List.length_append, List.length_singleton]
  show (match nxT T up i (goT T up i pre.length) with | none => goT T up i pre.length | some x => goT T up i pre.length ++ [x]) = _
  rw [ih h1, h2]
theorem goT_done {T : List Int → List Nat → Nat → List Int} {up : List Int} {i : Nat} {pre : List Nat} (h : Gos T up i pre) (hn : nxT T up i pre = none) : ∀ d, goT T up i (pre.length + d) = pre
  | 0 => goT_gos pre h
  | d + 1 => by
    show (match nxT T up i (goT T up i (pre.length + d)) with | none => goT T up i (pre.length + d) | some x => goT T up i (pre.length + d) ++ [x]) = _
    rw [goT_done h hn d, hn]
/-- All items one comes over, in a forest of so many. -/
def visits (T : List Int → List Nat → Nat → List Int) (up : List Int) (i : Nat) : List Nat := goT T up i up.length
theorem visits_of {T : List Int → List Nat → Nat → List Int} {up : List Int} {i : Nat} {pre : List Nat} (h : Gos T up i pre) (hn : nxT T up i pre = none) (hl : pre.length ≤ up.length) : visits T up i = pre := by
  have := goT_done h hn (up.length - pre.length)
  rw [show pre.length + (up.length - pre.length) = up.length by omega] at this
  exact this
theorem goT_all (T : List Int → List Nat → Nat → List Int) (up : List Int) (i : Nat) : ∀ k, Gos T up i (goT T up i k) ∧ (nxT T up i (goT T up i k) = none ∨ (goT T up i k).length = k)
  | 0 => ⟨gos_nil _ _ _, .inr rfl⟩
  | k + 1 => by
    obtain ⟨h1, h2⟩ := goT_all T up i k
    cases hn : nxT T up i (goT T up i k) with
    | none =>
      have e : goT T up i (k + 1) = goT T up i k := by
        show (match nxT T up i (goT T up i k) with | none => goT T up i k | some x => goT T up i k ++ [x]) = _
        rw [hn]
      rw [e]
      exact ⟨h1, .inl hn⟩
    | some x =>
      have e : goT T up i (k + 1) = goT T up i k ++ [x] := by
        show (match nxT T up i (goT T up i k) with | none => goT T up i k | some x => goT T up i k ++ [x]) = _
        rw [hn]
      rw [e]
      refine ⟨gos_snoc.2 ⟨h1, hn⟩, .inr ?_⟩
      rcases h2 with h2 | h2
      · rw [hn] at h2
        cases h2
      · simp [h2]

/-- A change that shortens ways alone. -/
structure Kind (T : List Int → List Nat → Nat → List Int) : Prop where
  shr : ∀ u pre x, fvB u = true → x < u.length → (∀ p ∈ pre, p < u.length ∧ Ab u p x) → Shr u (T u pre x)
  on : ∀ u pre x y, fvB u = true → x < u.length → (∀ p ∈ pre, p < u.length ∧ Ab u p x) → step (T u pre x) x = some y → ∀ p ∈ pre, Ab (T u pre x) p x
theorem goes {T : List Int → List Nat → Nat → List Int} (K : Kind T) {up : List Int} (h : fvB up = true) {i : Nat} (hi : i < up.length) (pre : List Nat) :
    Gos T up i pre → Shr up (foT T up pre) ∧ (∀ x, nxT T up i pre = some x → x < up.length ∧ ∀ p ∈ pre, p < up.length ∧ Ab (foT T up pre) p x) ∧ (pre.Nodup ∧ ∀ p ∈ pre, p < up.length) := by
  refine rev_ind (P := fun pre => Gos T up i pre → Shr up (foT T up pre) ∧ (∀ x, nxT T up i pre = some x → x < up.length ∧ ∀ p ∈ pre, p < up.length ∧ Ab (foT T up pre) p x) ∧ (pre.Nodup ∧ ∀ p ∈ pre, p < up.length)) ?_ ?_ pre
  · intro _
    exact ⟨Shr.refl h, fun x e => by
      rw [nxT_nil] at e
      cases e
      exact ⟨hi, by simp⟩, List.nodup_nil, by simp⟩
  · intro pre x ih hg
    obtain ⟨h1, h2⟩ := gos_snoc.1 hg
    obtain ⟨s1, s2, s3, s4⟩ := ih h1
    obtain ⟨hx, hab⟩ := s2 x h2
    have hx' : x < (foT T up pre).length := by rw [s1.len]; exact hx
    have hab' : ∀ p ∈ pre, p < (foT T up pre).length ∧ Ab (foT T up pre) p x := fun p hp => by rw [s1.len]; exact hab p hp
    have t1 := K.shr _ pre x s1.fv hx' hab'
    rw [foT_snoc]
    have t2 := s1.trans t1
    refine ⟨t2, fun y hy => ?_, ?_, fun p hp => ?_⟩
    · rw [nxT_snoc, foT_snoc] at hy
      have hy2 : y < up.length := by
        rw [← t2.len]
        exact path_step_lt (fv_in t1.fv) (by rw [t2.len]; exact hx) hy
      refine ⟨hy2, fun p hp => ?_⟩
      rcases List.mem_append.1 hp with hp | hp
      · exact ⟨(hab p hp).1, ab_trans (K.on _ pre x y s1.fv hx' hab' hy p hp) (ab_one hy)⟩
      · have e : p = x := by simpa using hp
        rw [e]
        exact ⟨hx, ab_one hy⟩
    · rw [List.nodup_append]
      refine ⟨s3, by simp, fun a ha b hb e => ?_⟩
      have e2 : b = x := by simpa using hb
      rw [e, e2] at ha
      exact (ab_up s1.fv (hab' x ha).1 (hab' x ha).2).ne rfl
    · rcases List.mem_append.1 hp with hp | hp
      · exact s4 p hp
      · have e : p = x := by simpa using hp
        rw [e]
        exact hx
theorem gos_len {T : List Int → List Nat → Nat → List Int} (K : Kind T) {up : List Int} (h : fvB up = true) {i : Nat} (hi : i < up.length) {pre : List Nat} (hg : Gos T up i pre) : pre.length ≤ up.length :=
  nodup_len (goes K h hi pre hg).2.2.1 (goes K h hi pre hg).2.2.2
/-- One comes to an end. -/
theorem visits_done {T : List Int → List Nat → Nat → List Int} (K : Kind T) {up : List Int} (h : fvB up = true) {i : Nat} (hi : i < up.length) : Gos T up i (visits T up i) ∧ nxT T up i (visits T up i) = none := by
  obtain ⟨h1, h2⟩ := goT_all T up i up.length
  refine ⟨h1, ?_⟩
  rcases h2 with h2 | h2
  · exact h2
  · cases hn : nxT T up i (visits T up i) with
    | none => rfl
    | some x =>
      have := gos_len K h hi (gos_snoc.2 ⟨h1, hn⟩)
      rw [List.length_append, List.length_singleton, h2] at this
      omega
/-- The forest when one has looked from i, and how many links were followed. -/
def lookT (T : List Int → List Nat → Nat → List Int) (up : List Int) (i : Nat) : List Int := foT T up (visits T up i)
def stepsT (T : List Int → List Nat → Nat → List Int) (up : List Int) (i : Nat) : Nat := (visits T up i).length - 1
theorem lookT_shr {T : List Int → List Nat → Nat → List Int} (K : Kind T) {up : List Int} (h : fvB up = true) {i : Nat} (hi : i < up.length) : Shr up (lookT T up i) := (goes K h hi _ (visits_done K h hi).1).1
theorem visits_len {T : List Int → List Nat → Nat → List Int} (K : Kind T) {up : List Int} (h : fvB up = true) {i : Nat} (hi : i < up.length) : (visits T up i).length ≤ up.length := gos_len K h hi (visits_done K h hi).1

def bareAt (u : List Int) (_ : List Nat) (_ : Nat) : List Int := u
def cutAt (u : List Int) (pre : List Nat) (x : Nat) : List Int := if (step u x).isSome = true then u else pre.foldl (fun v p => hang v p x) u
def halveAt (u : List Int) (_ : List Nat) (x : Nat) : List Int := match step u x with | none => u | some y => match step u y with | none => u | some z => hang u x z
def splitAt' (u : List Int) (pre : List Nat) (x : Nat) : List Int := if 2 ≤ pre.length then hang u (pre[pre.length - 2]?.getD 0) x else u

theorem bare_kind : Kind bareAt := ⟨fun _ _ _ h _ _ => Shr.refl h, fun _ _ _ _ _ _ h _ p hp => (h p hp).2⟩
theorem cut_fold {x : Nat} : ∀ (pre : List Nat) (u : List Int), fvB u = true → x < u.length → (∀ p ∈ pre, p < u.length ∧ Ab u p x) → Shr u (pre.foldl (fun v p => hang v p x) u) ∧ step (pre.foldl (fun v p => hang v p x) u) x = step u x
  | [], u, h, _, _ => ⟨Shr.refl h, rfl⟩
  | q :: pre, u, h, hx, hab => by
    have hq := hab q (by simp)
    have S := ab_up h hq.1 hq.2
    obtain ⟨h1, h2⟩ := cut_fold pre (hang u q x) (sk_fv S) (by rw [hang_len]; exact hx) fun p hp => by
      have := hab p (by simp [hp])
      exact ⟨by rw [hang_len]; exact this.1, ab_hang_to S this.2⟩
    rw [List.foldl_cons]
    exact ⟨(Shr.one S).trans h1, h2.trans (hang_step S.ne)⟩
theorem cut_kind : Kind cutAt := by
  refine ⟨fun u pre x h hx hab => ?_, fun u pre x y h hx hab hy => ?_⟩
  · unfold cutAt
    split
    · exact Shr.refl h
    · exact (cut_fold pre u h hx hab).1
  · unfold cutAt at hy ⊢
    split
    · exact fun p hp => (hab p hp).2
    · rename_i hs
      rw [if_neg hs, (cut_fold pre u h hx hab).2] at hy
      rw [hy] at hs
      exact absurd rfl hs
theorem halve_kind : Kind halveAt := by
  refine ⟨fun u pre x h hx hab => ?_, fun u pre x y h hx hab hy p hp => ?_⟩
  · unfold halveAt
    cases h1 : step u x with
    | none => exact Shr.refl h
    | some y =>
      dsimp only
      cases h2 : step u y with
      | none => exact Shr.refl h
      | some z => exact Shr.one (ab_up h hx (ab_trans (ab_one h1) (ab_one h2)))
  · unfold halveAt
    cases h1 : step u x with
    | none => exact (hab p hp).2
    | some y =>
      dsimp only
      cases h2 : step u y with
      | none => exact (hab p hp).2
      | some z => exact ab_hang_from (fun e => (ab_up h (hab p hp).1 (hab p hp).2).ne e.symm) (hab p hp).2
theorem split_mem {pre : List Nat} (h : 2 ≤ pre.length) : pre[pre.length - 2]?.getD 0 ∈ pre := by
  rw [List.getElem?_eq_getElem (by omega), Option.getD_some]
  exact List.getElem_mem _
theorem split_kind : Kind splitAt' := by
  refine ⟨fun u pre x h hx hab => ?_, fun u pre x y h hx hab hy p hp => ?_⟩
  · unfold splitAt'
    split
    · rename_i h2
      have := hab _ (split_mem h2)
      exact Shr.one (ab_up h this.1 this.2)
    · exact Shr.refl h
  · unfold splitAt'
    split
    · rename_i h2
      have := hab _ (split_mem h2)
      exact ab_hang_to (ab_up h this.1 this.2) (hab p hp).2
    · exact (hab p hp).2

/-- The ways of looking by their numbers. -/
def lookAt (l : Int) : List Int → List Nat → Nat → List Int := if l = 0 then bareAt else if l = 1 then cutAt else if l = 2 then halveAt else splitAt'
theorem look_kind (l : Int) : Kind (lookAt l) := by
  unfold lookAt
  repeat (first | split | exact bare_kind | exact cut_kind | exact halve_kind | exact split_kind)
end Go.Proofs.Ytebgnaiibomjkaa

namespace Go.Proofs.Ytebgnaiibomjkaa

theorem lookAt_0 : lookAt 0 = bareAt := rfl
theorem lookAt_1 : lookAt 1 = cutAt := rfl
theorem lookAt_2 : lookAt 2 = halveAt := rfl
theorem lookAt_3 : lookAt 3 = splitAt' := rfl

/-- Where the link one follows is the old one, one comes over the old way. -/
theorem way_visits {T : List Int → List Nat → Nat → List Int} (K : Kind T) {up : List Int} (h : fvB up = true) {i : Nat} (hi : i < up.length)
    (hT : ∀ pre, Gos T up i pre → Path up (some i) pre (nxT T up i pre)) : visits T up i = wayOf up i := by
  obtain ⟨h1, h2⟩ := visits_done K h hi
  have := hT _ h1
  rw [h2] at this
  exact path_uniq this (fv_path h hi)
theorem foT_bare (up : List Int) (pre : List Nat) : foT bareAt up pre = up :=
  rev_ind (P := fun pre => foT bareAt up pre = up) rfl (fun pre x ih => by rw [foT_snoc]; exact ih) pre
theorem bare_path {up : List Int} {i : Nat} (pre : List Nat) : Gos bareAt up i pre → Path up (some i) pre (nxT bareAt up i pre) :=
  rev_ind (P := fun pre => Gos bareAt up i pre → Path up (some i) pre (nxT bareAt up i pre)) (fun _ => rfl) (fun pre x ih h => by
    obtain ⟨h1, h2⟩ := gos_snoc.1 h
    have h3 := ih h1
    rw [h2] at h3
    rw [nxT_snoc, foT_bare]
    exact path_snoc h3) pre
theorem look_bare {up : List Int} (h : fvB up = true) {i : Nat} (hi : i < up.length) : visits bareAt up i = wayOf up i ∧ lookT bareAt up i = up := by
  refine ⟨way_visits bare_kind h hi bare_path, ?_⟩
  unfold lookT
  exact foT_bare _ _

theorem cut_path {up : List Int} (h : fvB up = true) {i : Nat} (hi : i < up.length) (pre : List Nat) : Gos cutAt up i pre → Path up (some i) pre (nxT cutAt up i pre) ∧ (nxT cutAt up i pre ≠ none → foT cutAt up pre = up) := by
  refine rev_ind (P := fun pre => Gos cutAt up i pre → Path up (some i) pre (nxT cutAt up i pre) ∧ (nxT cutAt up i pre ≠ none → foT cutAt up pre = up)) (fun _ => ⟨rfl, fun _ => rfl⟩) (fun pre x ih hg => ?_) pre
  obtain ⟨h1, h2⟩ := gos_snoc.1 hg
  obtain ⟨h3, h4⟩ := ih h1
  obtain ⟨_, g2, _⟩ := goes cut_kind h hi pre h1
  obtain ⟨hx, hab⟩ := g2 x h2
  have h5 := h4 (by rw [h2]; simp)
  rw [h2] at h3
  rw [h5] at hab
  rw [nxT_snoc, foT_snoc, h5]
  have hst : step (cutAt up pre x) x = step up x := by
    unfold cutAt
    split
    · rfl
    · exact (cut_fold pre up h hx hab).2
  rw [hst]
  refine ⟨path_snoc h3, fun hn => ?_⟩
  unfold cutAt
  rw [if_pos]
  cases hs : step up x with
  | none => exact absurd hs hn
  | some y => rfl
theorem hang_self {v : List Int} {r : Nat} (hr : r < v.length) (hs : step v r = none) : hang v r r = v := by
  have := step_none hs
  rw [List.getElem?_eq_getElem hr, Option.getD_some] at this
  unfold hang
  rw [← this]
  exact List.set_getElem_self hr
/-- All items of a way get a link to r. -/
def allTo (up : List Int) (way : List Nat) (r : Nat) : List Int := way.foldl (fun v k => hang v k r) up
theorem look_cut {up : List Int} (h : fvB up = true) {i : Nat} (hi : i < up.length) : visits cutAt up i = wayOf up i ∧ lookT cutAt up i = allTo up (wayOf up i) (rootI up i) := by
  have hv := way_visits cut_kind h hi (fun pre hg => (cut_path h hi pre hg).1)
  refine ⟨hv, ?_⟩
  unfold lookT
  have hd := visits_done cut_kind h hi
  rw [hv] at hd ⊢
  have hne : wayOf up i ≠ [] := fun e => by
    have := (way_len up up.length i).1
    unfold wayOf at e
    rw [e] at this
    simp at this
  obtain ⟨pre, h1, h2, h3⟩ := last_path (i := i) (fv_path h hi) hne
  have e : wayOf up i = pre ++ [rootI up i] := h1
  rw [e] at hd ⊢
  obtain ⟨g1, g2⟩ := gos_snoc.1 hd.1
  obtain ⟨_, k2⟩ := cut_path h hi pre g1
  have k3 := k2 (by rw [g2]; simp)
  have hr := (root_is h hi)
  obtain ⟨_, m2, _⟩ := goes cut_kind h hi pre g1
  obtain ⟨hx, hab⟩ := m2 _ g2
  rw [k3] at hab
  rw [foT_snoc, k3]
  unfold cutAt allTo
  rw [if_neg (by rw [hr.2]; simp), List.foldl_append, List.foldl_cons, List.foldl_nil]
  obtain ⟨f1, f2⟩ := cut_fold pre up h hx hab
  exact (hang_self (by rw [f1.len]; exact hx) (by rw [f2]; exact hr.2)).symm

theorem split_off {up : List Int} {x : Nat} (pre : List Nat) : x ∉ pre → step (foT splitAt' up pre) x = step up x :=
  rev_ind (P := fun pre => x ∉ pre → step (foT splitAt' up pre) x = step up x) (fun _ => rfl) (fun pre y ih hn => by
    have h1 : x ∉ pre := fun hm => hn (List.mem_append_left _ hm)
    rw [foT_snoc]
    unfold splitAt'
    split
    · rename_i h2
      rw [hang_step (fun e => h1 (by rw [e]; exact split_mem h2))]
      exact ih h1
    · exact ih h1) pre
theorem split_path {up : List Int} (h : fvB up = true) {i : Nat} (hi : i < up.length) (pre : List Nat) : Gos splitAt' up i pre → Path up (some i) pre (nxT splitAt' up i pre) := by
  refine rev_ind (P := fun pre => Gos splitAt' up i pre → Path up (some i) pre (nxT splitAt' up i pre)) (fun _ => rfl) (fun pre x ih hg => ?_) pre
  obtain ⟨h1, h2⟩ := gos_snoc.1 hg
  have h3 := ih h1
  rw [h2] at h3
  have hnd := (goes split_kind h hi _ hg).2.2.1
  have hx : x ∉ pre := fun hm => by
    rw [List.nodup_append] at hnd
    exact hnd.2.2 x hm x (by simp) rfl
  rw [nxT_snoc]
  have hst : step (foT splitAt' up (pre ++ [x])) x = step up x := by
    rw [foT_snoc]
    unfold splitAt'
    split
    · rename_i h4
      rw [hang_step (fun e => hx (by rw [e]; exact split_mem h4))]
      exact split_off pre hx
    · exact split_off pre hx
  rw [hst]
  exact path_snoc h3
/-- The first t items of a way get links to the items two above. -/
def twoUp (up : List Int) (way : List Nat) (t : Nat) : List Int := (List.range t).foldl (fun v k => hang v (way[k]?.getD 0) (way[k + 2]?.getD 0)) up
theorem twoUp_succ (up : List Int) (way : List Nat) (t : Nat) : twoUp up way (t + 1) = hang (twoUp up way t) (way[t]?.getD 0) (way[t + 2]?.getD 0) := by
  unfold twoUp
  rw [List.range_succ, List.foldl_append, List.foldl_cons, List.foldl_nil]
theorem twoUp_len (up : List Int) (way : List Nat) : ∀ t, (twoUp up way t).length = up.length
  | 0 => rfl
  | t + 1 => by rw [twoUp_succ, hang_len, twoUp_len up way t]
theorem twoUp_snoc (up : List Int) (way : List Nat) (x : Nat) : ∀ t, t + 2 ≤ way.length → twoUp up (way ++ [x]) t = twoUp up way t
  | 0, _ => rfl
  | t + 1, h => by
    rw [twoUp_succ, twoUp_succ, twoUp_snoc up way x t (by omega), List.getElem?_append_left (by omega), List.getElem?_append_left (by omega)]
theorem foT_split (up : List Int) (pre : List Nat) : foT splitAt' up pre = twoUp up pre (pre.length - 2) := by
  refine rev_ind (P := fun pre => foT splitAt' up pre = twoUp up pre (pre.length - 2)) rfl (fun pre x ih => ?_) pre
  rw [foT_snoc, ih, List.length_append, List.length_singleton]
  unfold splitAt'
  split
  · rename_i h
    rw [show pre.length + 1 - 2 = pre.length - 2 + 1 by omega, twoUp_succ, twoUp_snoc up pre x _ (by omega), List.getElem?_append_left (by omega), List.getElem?_append_right (by omega), show pre.length - 2 + 2 - pre.length = 0 by omega]
    rfl
  · rename_i h
    rw [show pre.length + 1 - 2 = 0 by omega, show pre.length - 2 = 0 by omega]
    rfl
theorem look_split {up : List Int} (h : fvB up = true) {i : Nat} (hi : i < up.length) : visits splitAt' up i = wayOf up i ∧ lookT splitAt' up i = twoUp up (wayOf up i) ((wayOf up i).length - 2) := by
  have hv := way_visits split_kind h hi (split_path h hi)
  refine ⟨hv, ?_⟩
  unfold lookT
  rw [hv]
  exact foT_split _ _

/-- Halving sets an item's link to the link of the one above. -/
theorem halve_set {u : List Int} (hb : InB u) {x y : Nat} (hx : x < u.length) (h : step u x = some y) (pre : List Nat) : u.set x (u[y]?.getD 0) = halveAt u pre x := by
  have hy := step_some hb hx h
  unfold halveAt
  rw [h]
  dsimp only
  cases h2 : step u y with
  | none =>
    have e := step_none h2
    dsimp only
    rw [e, ← hy.1, List.getElem?_eq_getElem hx, Option.getD_some]
    exact List.set_getElem_self hx
  | some z =>
    have e := (step_some hb hy.2.2 h2).1
    dsimp only
    rw [e]
    rfl
theorem halve_root {u : List Int} {x : Nat} (h : step u x = none) (pre : List Nat) : halveAt u pre x = u := by
  unfold halveAt
  rw [h]
theorem halve_on {u : List Int} (hf : fvB u = true) {x y : Nat} (hx : x < u.length) (h : step u x = some y) (pre : List Nat) : ∃ z, step (halveAt u pre x) x = some z := by
  unfold halveAt
  rw [h]
  dsimp only
  cases h2 : step u y with
  | none => exact ⟨y, h⟩
  | some z => exact ⟨z, sk_step_same (ab_up hf hx (ab_trans (ab_one h) (ab_one h2)))⟩
/-- One has come to a root: all has been done. -/
theorem halve_end {up : List Int} (h : fvB up = true) {i : Nat} (hi : i < up.length) {pre : List Nat} {x : Nat} (hg : Gos halveAt up i pre) (hn : nxT halveAt up i pre = some x) (hr : step (foT halveAt up pre) x = none) :
    lookT halveAt up i = foT halveAt up pre ∧ stepsT halveAt up i = pre.length := by
  have h1 : Gos halveAt up i (pre ++ [x]) := gos_snoc.2 ⟨hg, hn⟩
  have h2 : foT halveAt up (pre ++ [x]) = foT halveAt up pre := by rw [foT_snoc, halve_root hr]
  have h3 : nxT halveAt up i (pre ++ [x]) = none := by rw [nxT_snoc, h2]; exact hr
  have h4 := visits_of h1 h3 (gos_len halve_kind h hi h1)
  unfold lookT stepsT
  rw [h4, h2]
  simp
/-- One has not. -/
theorem halve_more {up : List Int} (h : fvB up = true) {i : Nat} (hi : i < up.length) {pre : List Nat} {x y : Nat} (hg : Gos halveAt up i pre) (hn : nxT halveAt up i pre = some x) (hr : step (foT halveAt up pre) x = some y) :
    x < up.length ∧ y < up.length ∧ Gos halveAt up i (pre ++ [x]) ∧ (foT halveAt up pre).set x ((foT halveAt up pre)[y]?.getD 0) = foT halveAt up (pre ++ [x]) ∧ ∃ z, nxT halveAt up i (pre ++ [x]) = some z ∧ (foT halveAt up (pre ++ [x]))[x]?.getD 0 = (z : Int) ∧ z < up.length := by
  obtain ⟨g1, g2, _⟩ := goes halve_kind h hi pre hg
  have hx := (g2 x hn).1
  have hx' : x < (foT halveAt up pre).length := by rw [g1.len]; exact hx
  have h1 : Gos halveAt up i (pre ++ [x]) := gos_snoc.2 ⟨hg, hn⟩
  obtain ⟨k1, _⟩ := goes halve_kind h hi _ h1
  obtain ⟨z, hz⟩ := halve_on g1.fv hx' hr pre
  have hz : step (foT halveAt up (pre ++ [x])) x = some z := by rw [foT_snoc]; exact hz
  have hs := step_some (fv_in k1.fv) (by rw [k1.len]; exact hx) hz
  have hy := (step_some (fv_in g1.fv) hx' hr).2.2
  refine ⟨hx, by rw [← g1.len]; exact hy, h1, by rw [foT_snoc]; exact halve_set (fv_in g1.fv) hx' hr pre, z, by rw [nxT_snoc]; exact hz, hs.1, by rw [← k1.len]; exact hs.2.2⟩
end Go.Proofs.Ytebgnaiibomjkaa

namespace Go.Proofs.Ytebgnaiibomjkaa

theorem wayOf_root {u : List Int} {x : Nat} (h : step u x = none) : wayOf u x = [x] := way_of_path ⟨rfl, h⟩ (by simp)
theorem wayOf_cons {u : List Int} (hf : fvB u = true) {x y : Nat} (hx : x < u.length) (h : step u x = some y) : wayOf u x = x :: wayOf u y := by
  have hy := path_step_lt (fv_in hf) hx h
  refine path_uniq (fv_path hf hx) ⟨rfl, ?_⟩
  rw [h]
  exact fv_path hf hy
/-- How many links lie between an item and its root. -/
def dist (u : List Int) (x : Nat) : Nat := (wayOf u x).length - 1
theorem dist_root {u : List Int} {x : Nat} (h : step u x = none) : dist u x = 0 := by unfold dist; rw [wayOf_root h]; rfl
theorem wayOf_pos (u : List Int) (x : Nat) : 1 ≤ (wayOf u x).length := (way_len u u.length x).1
theorem dist_cons {u : List Int} (hf : fvB u = true) {x y : Nat} (hx : x < u.length) (h : step u x = some y) : dist u x = dist u y + 1 := by
  unfold dist
  rw [wayOf_cons hf hx h, List.length_cons]
  have := wayOf_pos u y
  omega
theorem dist_zero {u : List Int} (hf : fvB u = true) {x : Nat} (hx : x < u.length) (h : dist u x = 0) : step u x = none := by
  cases hs : step u x with
  | none => rfl
  | some y =>
    have := dist_cons hf hx hs
    omega

/-- A change lets links of passed items and of the one one has come to change, and no others. -/
structure Only (T : List Int → List Nat → Nat → List Int) : Prop where
  off : ∀ u pre x j, j ∉ pre → j ≠ x → (T u pre x)[j]? = u[j]?
theorem hang_off {u : List Int} {p q j : Nat} (h : j ≠ p) : (hang u p q)[j]? = u[j]? := by
  unfold hang
  rw [List.getElem?_set_ne (by omega)]
theorem cut_off {x j : Nat} : ∀ (pre : List Nat) (u : List Int), j ∉ pre → (pre.foldl (fun v p => hang v p x) u)[j]? = u[j]?
  | [], _, _ => rfl
  | p :: pre, u, h => by
    rw [List.foldl_cons, cut_off pre _ (fun hm => h (by simp [hm])), hang_off (fun e => h (by simp [e]))]
theorem look_only (l : Int) : Only (lookAt l) := by
  refine ⟨fun u pre x j hj hx => ?_⟩
  unfold lookAt
  split
  · rfl
  · split
    · unfold cutAt
      split
      · rfl
      · exact cut_off pre u hj
    · split
      · unfold halveAt
        cases h1 : step u x with
        | none => rfl
        | some y =>
          dsimp only
          cases h2 : step u y with
          | none => rfl
          | some z => exact hang_off hx
      · unfold splitAt'
        split
        · rename_i h2
          exact hang_off (fun e => hj (by rw [e]; exact split_mem h2))
        · rfl
theorem foT_off {T : List Int → List Nat → Nat → List Int} (O : Only T) {up : List Int} {j : Nat} (pre : List Nat) : j ∉ pre → (foT T up pre)[j]? = up[j]? :=
  rev_ind (P := fun pre => j ∉ pre → (foT T up pre)[j]? = up[j]?) (fun _ => rfl) (fun pre x ih hn => by
    rw [foT_snoc, O.off _ _ _ _ (fun hm => hn (List.mem_append_left _ hm)) (fun e => hn (by simp [e]))]
    exact ih (fun hm => hn (List.mem_append_left _ hm))) pre
theorem step_off {T : List Int → List Nat → Nat → List Int} (O : Only T) {up : List Int} {j : Nat} {pre : List Nat} (h : j ∉ pre) : step (foT T up pre) j = step up j := by
  unfold step nx
  rw [foT_off O pre h]

/-- What lies above in a forest of shorter ways lay above. -/
theorem ab_back {u : List Int} {p k : Nat} (A : Ab u p k) : ∀ {xs : List Nat} {a b : Nat}, Path (hang u p k) (step (hang u p k) a) xs (some b) → Ab u a b := by
  have one : ∀ {a b : Nat}, step (hang u p k) a = some b → Ab u a b := fun {a b} h => by
    by_cases e : a = p
    · subst e
      by_cases ha : a < u.length
      · unfold step nx hang at h
        rw [List.getElem?_set_self ha, Option.getD_some] at h
        split at h
        · cases h
        · have hb : k = b := by simpa using h
          rw [← hb]
          exact A
      · unfold step nx hang at h
        rw [List.set_eq_of_length_le (by omega)] at h
        exact ab_one h
    · rw [hang_step e] at h
      exact ab_one h
  intro xs
  induction xs with
  | nil => exact fun h => one h
  | cons x xs ih => exact fun h => ab_trans (one h.1) (ih h.2)
theorem ab_hang_back {u : List Int} {p k a b : Nat} (A : Ab u p k) (h : Ab (hang u p k) a b) : Ab u a b := by
  obtain ⟨xs, hx⟩ := h
  exact ab_back A hx
structure Back (T : List Int → List Nat → Nat → List Int) : Prop where
  back : ∀ u pre x a b, fvB u = true → x < u.length → (∀ p ∈ pre, p < u.length ∧ Ab u p x) → Ab (T u pre x) a b → Ab u a b
theorem cut_back {x a b : Nat} : ∀ (pre : List Nat) (u : List Int), fvB u = true → x < u.length → (∀ p ∈ pre, p < u.length ∧ Ab u p x) → Ab (pre.foldl (fun v p => hang v p x) u) a b → Ab u a b
  | [], _, _, _, _, h => h
  | q :: pre, u, h, hx, hab, hA => by
    have hq := hab q (by simp)
    have S := ab_up h hq.1 hq.2
    rw [List.foldl_cons] at hA
    exact ab_hang_back hq.2 (cut_back pre (hang u q x) (sk_fv S) (by rw [hang_len]; exact hx) (fun p hp => by
      have := hab p (by simp [hp])
      exact ⟨by rw [hang_len]; exact this.1, ab_hang_to S this.2⟩) hA)
theorem look_back (l : Int) : Back (lookAt l) := by
  refine ⟨fun u pre x a b h hx hab hA => ?_⟩
  unfold lookAt at hA
  split at hA
  · exact hA
  · split at hA
    · unfold cutAt at hA
      split at hA
      · exact hA
      · exact cut_back pre u h hx hab hA
    · split at hA
      · unfold halveAt at hA
        cases h1 : step u x with
        | none => rw [h1] at hA; exact hA
        | some y =>
          rw [h1] at hA
          dsimp only at hA
          cases h2 : step u y with
          | none => rw [h2] at hA; exact hA
          | some z =>
            rw [h2] at hA
            exact ab_hang_back (ab_trans (ab_one h1) (ab_one h2)) hA
      · unfold splitAt' at hA
        split at hA
        · rename_i h2
          exact ab_hang_back (hab _ (split_mem h2)).2 hA
        · exact hA
theorem foT_back {T : List Int → List Nat → Nat → List Int} (K : Kind T) (Bk : Back T) {up : List Int} (h : fvB up = true) {i : Nat} (hi : i < up.length) {a b : Nat} (pre : List Nat) : Gos T up i pre → Ab (foT T up pre) a b → Ab up a b :=
  rev_ind (P := fun pre => Gos T up i pre → Ab (foT T up pre) a b → Ab up a b) (fun _ h => h) (fun pre x ih hg hA => by
    obtain ⟨h1, h2⟩ := gos_snoc.1 hg
    obtain ⟨s1, s2, _⟩ := goes K h hi pre h1
    obtain ⟨hx, hab⟩ := s2 x h2
    rw [foT_snoc] at hA
    exact ih h1 (Bk.back _ pre x a b s1.fv (by rw [s1.len]; exact hx) (fun p hp => by rw [s1.len]; exact hab p hp) hA)) pre
/-- One comes over items of the way alone. -/
theorem gos_way {T : List Int → List Nat → Nat → List Int} (K : Kind T) (Bk : Back T) {up : List Int} (h : fvB up = true) {i : Nat} (hi : i < up.length) (pre : List Nat) : Gos T up i pre → ∀ x ∈ pre, x ∈ wayOf up i := by
  refine rev_ind (P := fun pre => Gos T up i pre → ∀ x ∈ pre, x ∈ wayOf up i) (fun _ x hx => by simp at hx) (fun pre x ih hg y hy => ?_) pre
  obtain ⟨h1, h2⟩ := gos_snoc.1 hg
  rcases List.mem_append.1 hy with hy | hy
  · exact ih h1 y hy
  · have e : y = x := by simpa using hy
    rw [e]
    cases hp : pre with
    | nil =>
      rw [hp, nxT_nil] at h2
      injection h2 with h2
      rw [← h2]
      exact way_self _ _
    | cons q rest =>
      have hq : q = i := by
        have h3 : Gos T up i (q :: rest) := by rw [← hp]; exact h1
        have h4 := h3 [] q (by simp)
        rw [nxT_nil] at h4
        injection h4 with h4
        exact h4.symm
      obtain ⟨s1, s2, _⟩ := goes K h hi pre h1
      have hab := ((s2 x h2).2 q (by rw [hp]; simp)).2
      have := foT_back K Bk h hi pre h1 hab
      rw [hq] at this
      exact (ab_up h hi this).hk
theorem look_off (l : Int) {up : List Int} (h : fvB up = true) {i : Nat} (hi : i < up.length) {j : Nat} (hj : j ∉ wayOf up i) : (lookT (lookAt l) up i)[j]? = up[j]? :=
  foT_off (look_only l) _ fun hm => hj (gos_way (look_kind l) (look_back l) h hi _ (visits_done (look_kind l) h hi).1 j hm)

theorem halve_eq_one {v : List Int} {x y : Nat} (h : step v x = some y) (h2 : step v y = none) (pre : List Nat) : halveAt v pre x = v := by
  unfold halveAt
  rw [h]
  dsimp only
  rw [h2]
theorem halve_eq_two {v : List Int} {x y z : Nat} (h : step v x = some y) (h2 : step v y = some z) (pre : List Nat) : halveAt v pre x = hang v x z := by
  unfold halveAt
  rw [h]
  dsimp only
  rw [h2]
/-- Halving: how far one has come over so many items. -/
theorem halve_far {up : List Int} (h : fvB up = true) {i : Nat} (hi : i < up.length) (pre : List Nat) : Gos halveAt up i pre → ∀ x, nxT halveAt up i pre = some x → 2 * pre.length + dist up x = dist up i ∨ (dist up x = 0 ∧ 2 * pre.length = dist up i + 1) := by
  refine rev_ind (P := fun pre => Gos halveAt up i pre → ∀ x, nxT halveAt up i pre = some x → 2 * pre.length + dist up x = dist up i ∨ (dist up x = 0 ∧ 2 * pre.length = dist up i + 1)) (fun _ x hx => ?_) (fun pre x ih hg z hz => ?_) pre
  · rw [nxT_nil] at hx
    injection hx with hx
    rw [hx]
    exact .inl (by simp)
  · obtain ⟨h1, h2⟩ := gos_snoc.1 hg
    obtain ⟨s1, s2, _⟩ := goes halve_kind h hi pre h1
    obtain ⟨hx, hab⟩ := s2 x h2
    have O : Only halveAt := look_only 2
    have hnx : x ∉ pre := fun hm => (ab_up s1.fv (by rw [s1.len]; exact hx) (hab x hm).2).ne rfl
    have hs := step_off O (up := up) hnx
    rw [List.length_append, List.length_singleton]
    rw [nxT_snoc, foT_snoc] at hz
    rcases ih h1 x h2 with ih | ⟨ih, ih2⟩
    · cases h3 : step up x with
      | none =>
        rw [h3] at hs
        rw [halve_root hs, hs] at hz
        cases hz
      | some y =>
        rw [h3] at hs
        have hd := dist_cons h hx h3
        have hy := path_step_lt (fv_in h) hx h3
        have hny : y ∉ pre := fun hm => (ab_up s1.fv (by rw [s1.len]; exact hy) (ab_trans (hab y hm).2 (ab_one hs))).ne rfl
        have hs2 := step_off O (up := up) hny
        cases h4 : step up y with
        | none =>
          rw [h4] at hs2
          rw [halve_eq_one hs hs2, hs] at hz
          injection hz with hz
          have := dist_root h4
          rw [← hz]
          exact .inr (by omega)
        | some z' =>
          rw [h4] at hs2
          rw [halve_eq_two hs hs2] at hz
          have hst := sk_step_same (ab_up s1.fv (by rw [s1.len]; exact hx) (ab_trans (ab_one hs) (ab_one hs2)))
          rw [hst] at hz
          injection hz with hz
          have := dist_cons h hy h4
          rw [← hz]
          exact .inl (by omega)
    · rw [dist_zero h hx ih] at hs
      rw [halve_root hs, hs] at hz
      cases hz
theorem halve_path {up : List Int} (h : fvB up = true) {i : Nat} (hi : i < up.length) (pre : List Nat) : Gos halveAt up i pre → Path (foT halveAt up pre) (some i) pre (nxT halveAt up i pre) := by
  refine rev_ind (P := fun pre => Gos halveAt up i pre → Path (foT halveAt up pre) (some i) pre (nxT halveAt up i pre)) (fun _ => rfl) (fun pre x ih hg => ?_) pre
  obtain ⟨h1, h2⟩ := gos_snoc.1 hg
  have h3 := ih h1
  have hnd := (goes halve_kind h hi _ hg).2.2.1
  have hx : x ∉ pre := fun hm => by
    rw [List.nodup_append] at hnd
    exact hnd.2.2 x hm x (by simp) rfl
  rw [h2] at h3
  have h4 : Path (foT halveAt up (pre ++ [x])) (some i) pre (some x) := by
    rw [foT_snoc]
    cases h5 : step (foT halveAt up pre) x with
    | none => rw [halve_root h5]; exact h3
    | some y =>
      cases h6 : step (foT halveAt up pre) y with
      | none => rw [halve_eq_one h5 h6]; exact h3
      | some z => rw [halve_eq_two h5 h6]; exact hang_path h3 hx
  have h5 := path_snoc h4
  rw [nxT_snoc]
  exact h5
/-- Halving follows half as many links, and leaves a way of as many. -/
theorem halve_count {up : List Int} (h : fvB up = true) {i : Nat} (hi : i < up.length) : stepsT halveAt up i = (dist up i + 1) / 2 ∧ dist (lookT halveAt up i) i = (dist up i + 1) / 2 := by
  obtain ⟨h1, h2⟩ := visits_done halve_kind h hi
  have hsh := lookT_shr halve_kind h hi
  have hp := halve_path h hi _ h1
  rw [h2] at hp
  have hw : wayOf (lookT halveAt up i) i = visits halveAt up i := path_uniq (fv_path hsh.fv (by rw [hsh.len]; exact hi)) hp
  have hn : stepsT halveAt up i = (dist up i + 1) / 2 := by
    unfold stepsT
    have hpos := wayOf_pos (lookT halveAt up i) i
    rw [hw] at hpos
    have hne : visits halveAt up i ≠ [] := fun e => by rw [e] at hpos; simp at hpos
    have e := List.dropLast_concat_getLast hne
    rw [← e] at h1 h2
    obtain ⟨k1, k2⟩ := gos_snoc.1 h1
    have hf := halve_far h hi _ k1 _ k2
    have hlen : (visits halveAt up i).length - 1 = (visits halveAt up i).dropLast.length := by simp
    rw [hlen]
    obtain ⟨s1, s2, _⟩ := goes halve_kind h hi _ k1
    obtain ⟨hx, hab⟩ := s2 _ k2
    rcases hf with hf | ⟨_, hf⟩
    · have O : Only halveAt := look_only 2
      have hnx : (visits halveAt up i).getLast hne ∉ (visits halveAt up i).dropLast := fun hm => (ab_up s1.fv (by rw [s1.len]; exact hx) (hab _ hm).2).ne rfl
      have hs := step_off O (up := up) hnx
      cases h3 : step up ((visits halveAt up i).getLast hne) with
      | none =>
        have := dist_root h3
        omega
      | some y =>
        rw [h3] at hs
        obtain ⟨z, hz⟩ := halve_on s1.fv (by rw [s1.len]; exact hx) hs (visits halveAt up i).dropLast
        rw [nxT_snoc, foT_snoc, hz] at h2
        cases h2
    · omega
  refine ⟨hn, ?_⟩
  rw [← hn]
  unfold dist stepsT
  rw [hw]
end Go.Proofs.Ytebgnaiibomjkaa

namespace Go.Proofs.Ytebgnaiibomjkaa

theorem hang_get {u : List Int} {p q j : Nat} (hp : p < u.length) : (hang u p q)[j]? = if j = p then some (q : Int) else u[j]? := by
  by_cases e : j = p
  · subst e
    rw [if_pos rfl]
    unfold hang
    rw [List.getElem?_set_self hp]
  · rw [if_neg e, hang_off e]
theorem allTo_len (up : List Int) (r : Nat) : ∀ (W : List Nat), (allTo up W r).length = up.length := fun W => by
  unfold allTo
  induction W generalizing up with
  | nil => rfl
  | cons p W ih => rw [List.foldl_cons, ih, hang_len]
theorem allTo_get {r j : Nat} : ∀ (W : List Nat) (up : List Int), (∀ p ∈ W, p < up.length) → (allTo up W r)[j]? = if j ∈ W then some (r : Int) else up[j]?
  | [], up, _ => by simp [allTo]
  | p :: W, up, h => by
    have h1 := allTo_get (r := r) (j := j) W (hang up p r) (fun q hq => by rw [hang_len]; exact h q (by simp [hq]))
    unfold allTo at h1 ⊢
    rw [List.foldl_cons, h1, hang_get (h p (by simp))]
    by_cases e : j ∈ W
    · rw [if_pos e, if_pos (by simp [e])]
    · rw [if_neg e]
      by_cases e2 : j = p
      · rw [if_pos e2, if_pos (by simp [e2])]
      · rw [if_neg e2, if_neg (by simp [e, e2])]
theorem cut_step_to {up : List Int} (h : fvB up = true) {i : Nat} (hi : i < up.length) : (step up i = none → step (lookT cutAt up i) i = none) ∧ (step up i ≠ none → step (lookT cutAt up i) i = some (rootI up i)) := by
  rw [(look_cut h hi).2]
  have hg := allTo_get (r := rootI up i) (j := i) (wayOf up i) up (way_lt h hi)
  rw [if_pos (show i ∈ wayOf up i from way_self _ _)] at hg
  unfold step nx
  rw [hg]
  simp only [Option.getD_some]
  constructor
  · intro hs
    have e : rootI up i = i := rootI_root h (by unfold step nx; exact hs)
    rw [if_pos (by rw [e])]
  · intro hs
    have hne : rootI up i ≠ i := fun e => hs (by
      have := (root_is h hi).2
      rw [e] at this
      exact this)
    rw [if_neg (by omega)]
    simp
/-- Cutting leaves one link at most. -/
theorem cut_count {up : List Int} (h : fvB up = true) {i : Nat} (hi : i < up.length) : stepsT cutAt up i = dist up i ∧ dist (lookT cutAt up i) i = min (dist up i) 1 := by
  refine ⟨by unfold stepsT dist; rw [(look_cut h hi).1], ?_⟩
  obtain ⟨c1, c2⟩ := cut_step_to h hi
  have hsh := lookT_shr cut_kind h hi
  cases hs : step up i with
  | none => rw [dist_root hs, dist_root (c1 hs)]; rfl
  | some y =>
    have h1 := dist_cons h hi hs
    have h2 := c2 (by rw [hs]; simp)
    have h3 := dist_cons hsh.fv (by rw [hsh.len]; exact hi) h2
    have hr := root_is h hi
    have h4 : step (lookT cutAt up i) (rootI up i) = none := by
      have := root_is hsh.fv (i := rootI up i) (by rw [hsh.len]; exact hr.1)
      rw [hsh.root _ hr.1, rootI_root h hr.2] at this
      exact this.2
    rw [h3, dist_root h4]
    omega

theorem nodup_inj {W : List Nat} (hW : W.Nodup) {a b : Nat} (ha : a < W.length) (hb : b < W.length) (e : W[a]?.getD 0 = W[b]?.getD 0) : a = b := by
  rw [List.getElem?_eq_getElem ha, List.getElem?_eq_getElem hb, Option.getD_some, Option.getD_some] at e
  rw [List.nodup_iff_pairwise_ne, List.pairwise_iff_getElem] at hW
  rcases Nat.lt_trichotomy a b with h | h | h
  · exact absurd e (hW a b ha hb h)
  · exact h
  · exact absurd e.symm (hW b a hb ha h)
theorem twoUp_off {up : List Int} {W : List Nat} {j : Nat} : ∀ t, t + 2 ≤ W.length ∨ t = 0 → (∀ k, k < t → W[k]?.getD 0 ≠ j) → (twoUp up W t)[j]? = up[j]?
  | 0, _, _ => rfl
  | t + 1, h, hn => by
    rw [twoUp_succ, hang_off (fun e => hn t (by omega) e.symm)]
    exact twoUp_off t (by omega) (fun k hk => hn k (by omega))
theorem twoUp_on {up : List Int} {W : List Nat} (hW : W.Nodup) (hl : ∀ p ∈ W, p < up.length) {k : Nat} : ∀ t, t + 2 ≤ W.length → k < t → (twoUp up W t)[W[k]?.getD 0]? = some ((W[k + 2]?.getD 0 : Nat) : Int)
  | 0, _, hk => absurd hk (by omega)
  | t + 1, h, hk => by
    rw [twoUp_succ, hang_get (by
      rw [twoUp_len, List.getElem?_eq_getElem (by omega), Option.getD_some]
      exact hl _ (List.getElem_mem _))]
    by_cases e : k = t
    · subst e
      rw [if_pos rfl]
    · rw [if_neg (fun e2 => e (nodup_inj hW (by omega) (by omega) e2))]
      exact twoUp_on hW hl t (by omega) (by omega)
theorem path_step_at {up : List Int} : ∀ {o q : Option Nat} {W : List Nat} {t : Nat}, Path up o W q → t + 1 < W.length → step up (W[t]?.getD 0) = some (W[t + 1]?.getD 0)
  | _, _, [], _, _, h => by simp at h
  | _, _, [x], _, _, h => by simp at h
  | _, _, x :: y :: W, 0, hp, _ => hp.2.1
  | _, _, x :: y :: W, t + 1, hp, h => path_step_at (W := y :: W) (t := t) hp.2 (by simpa using h)
theorem way_step {up : List Int} {i t : Nat} (h : fvB up = true) (hi : i < up.length) (ht : t + 1 < (wayOf up i).length) : step up ((wayOf up i)[t]?.getD 0) = some ((wayOf up i)[t + 1]?.getD 0) :=
  path_step_at (fv_path h hi) ht
theorem way_dist {up : List Int} {i t : Nat} (h : fvB up = true) (hi : i < up.length) (ht : t < (wayOf up i).length) : (wayOf up i)[t]?.getD 0 < up.length ∧ dist up ((wayOf up i)[t]?.getD 0) = (wayOf up i).length - 1 - t := by
  have hp := path_at (fv_path h hi) (k := t) ht
  have hlt : (wayOf up i)[t]?.getD 0 < up.length := by
    rw [List.getElem?_eq_getElem ht, Option.getD_some]
    exact way_lt h hi _ (List.getElem_mem _)
  refine ⟨hlt, ?_⟩
  have e : (wayOf up i)[t]?.getD 0 = (way up up.length i)[t]'ht := by
    rw [List.getElem?_eq_getElem ht, Option.getD_some]
    rfl
  have := path_uniq hp (fv_path h (by rw [← e]; exact hlt))
  unfold dist
  rw [e]
  unfold wayOf
  rw [← this, List.length_drop]
  omega
theorem split_dist {up : List Int} (h : fvB up = true) {i : Nat} (hi : i < up.length) : ∀ k t, t < (wayOf up i).length → (wayOf up i).length - 1 - t ≤ k → dist (lookT splitAt' up i) ((wayOf up i)[t]?.getD 0) = ((wayOf up i).length - 1 - t + 1) / 2 := by
    intro k
    induction k using Nat.strongRecOn with
    | ind k ih =>
    intro t ht hk
    have hW := way_nodup h hi
    have hl := way_lt h hi
    have hsh := lookT_shr split_kind h hi
    have hlt := (way_dist h hi ht).1
    have eL : lookT splitAt' up i = twoUp up (wayOf up i) ((wayOf up i).length - 2) := (look_split h hi).2
    have inj : ∀ a b, a < (wayOf up i).length → b < (wayOf up i).length → (wayOf up i)[a]?.getD 0 = (wayOf up i)[b]?.getD 0 → a = b := fun a b ha hb e => nodup_inj hW ha hb e
    have stay : (wayOf up i).length - 2 ≤ t → step (lookT splitAt' up i) ((wayOf up i)[t]?.getD 0) = step up ((wayOf up i)[t]?.getD 0) := fun hge => by
      rw [eL]
      unfold step nx
      rw [twoUp_off _ (by omega) (fun a ha e => by
        have := inj a t (by omega) ht e
        omega)]
    by_cases h0 : (wayOf up i).length - 1 - t = 0
    · have hr : step up ((wayOf up i)[t]?.getD 0) = none := dist_zero h hlt (by rw [(way_dist h hi ht).2]; exact h0)
      have := stay (by omega)
      rw [hr] at this
      rw [dist_root this, h0]
    · by_cases h1 : (wayOf up i).length - 1 - t = 1
      · have hs := way_step h hi (t := t) (by omega)
        have h2 := stay (by omega)
        rw [hs] at h2
        have h3 := dist_cons hsh.fv (by rw [hsh.len]; exact hlt) h2
        have hr : step up ((wayOf up i)[t + 1]?.getD 0) = none := dist_zero h (way_dist h hi (t := t + 1) (by omega)).1 (by rw [(way_dist h hi (t := t + 1) (by omega)).2]; omega)
        have h4 : step (lookT splitAt' up i) ((wayOf up i)[t + 1]?.getD 0) = none := by
          have hr2 := (way_dist h hi (t := t + 1) (by omega)).1
          have := root_is hsh.fv (i := (wayOf up i)[t + 1]?.getD 0) (by rw [hsh.len]; exact hr2)
          rw [hsh.root _ hr2, rootI_root h hr] at this
          exact this.2
        rw [h3, dist_root h4, h1]
      · have hk0 : k - 1 < k := by omega
        · have hon := twoUp_on (up := up) (W := wayOf up i) hW hl (k := t) ((wayOf up i).length - 2) (by omega) (by omega)
          have hst : step (lookT splitAt' up i) ((wayOf up i)[t]?.getD 0) = some ((wayOf up i)[t + 2]?.getD 0) := by
            rw [eL]
            unfold step nx
            have hon' : (twoUp up (wayOf up i) ((wayOf up i).length - 2))[(wayOf up i)[t]?.getD 0]? = some (((wayOf up i)[t + 2]?.getD 0 : Nat) : Int) := hon
            rw [hon', Option.getD_some, if_neg (fun e => by
              have := inj (t + 2) t (by omega) ht (by omega)
              omega)]
            simp
          have h3 := dist_cons hsh.fv (by rw [hsh.len]; exact hlt) hst
          rw [h3, ih (k - 1) hk0 (t + 2) (by omega) (by omega)]
          omega
/-- Splitting follows all links and leaves half as many. -/
theorem split_count {up : List Int} (h : fvB up = true) {i : Nat} (hi : i < up.length) : stepsT splitAt' up i = dist up i ∧ dist (lookT splitAt' up i) i = (dist up i + 1) / 2 := by
  refine ⟨by unfold stepsT dist; rw [(look_split h hi).1], ?_⟩
  have h0 : (wayOf up i)[0]?.getD 0 = i := by
    cases hs : step up i with
    | none => rw [wayOf_root hs]; rfl
    | some y => rw [wayOf_cons h hi hs]; rfl
  have := split_dist h hi _ 0 (by have := wayOf_pos up i; omega) (Nat.le_refl _)
  rw [h0] at this
  unfold dist at this ⊢
  rw [this]
  omega
theorem bare_count {up : List Int} (h : fvB up = true) {i : Nat} (hi : i < up.length) : stepsT bareAt up i = dist up i ∧ dist (lookT bareAt up i) i = dist up i := by
  obtain ⟨h1, h2⟩ := look_bare h hi
  exact ⟨by unfold stepsT dist; rw [h1], by rw [h2]⟩
/-- As often as links lie on the way, or half as often. -/
theorem steps_le (l : Int) {up : List Int} (h : fvB up = true) {i : Nat} (hi : i < up.length) : stepsT (lookAt l) up i ≤ dist up i := by
  unfold lookAt
  split
  · rw [(bare_count h hi).1]; exact Nat.le_refl _
  · split
    · rw [(cut_count h hi).1]; exact Nat.le_refl _
    · split
      · rw [(halve_count h hi).1]; omega
      · rw [(split_count h hi).1]; exact Nat.le_refl _
end Go.Proofs.Ytebgnaiibomjkaa

namespace Go.Proofs.Ytebgnaiibomjkaa

def manyL (T : List Int → List Nat → Nat → List Int) (up : List Int) (its : List Nat) : List Int := its.foldl (fun v i => lookT T v i) up
def manyS (T : List Int → List Nat → Nat → List Int) : List Int → List Nat → Nat
  | _, [] => 0
  | up, i :: its => stepsT T up i + manyS T (lookT T up i) its
theorem manyL_cons (T : List Int → List Nat → Nat → List Int) (up : List Int) (i : Nat) (its : List Nat) : manyL T up (i :: its) = manyL T (lookT T up i) its := rfl
theorem manyL_snoc (T : List Int → List Nat → Nat → List Int) (up : List Int) (i : Nat) (its : List Nat) : manyL T up (its ++ [i]) = lookT T (manyL T up its) i := by
  unfold manyL
  rw [List.foldl_append, List.foldl_cons, List.foldl_nil]
theorem manyS_snoc (T : List Int → List Nat → Nat → List Int) (i : Nat) : ∀ (its : List Nat) (up : List Int), manyS T up (its ++ [i]) = manyS T up its + stepsT T (manyL T up its) i
  | [], up => by simp [manyS, manyL]
  | j :: its, up => by
    rw [List.cons_append, manyL_cons]
    unfold manyS
    rw [manyS_snoc T i its]
    omega
theorem many_shr {T : List Int → List Nat → Nat → List Int} (K : Kind T) : ∀ {its : List Nat} {up : List Int}, fvB up = true → (∀ i ∈ its, i < up.length) → Shr up (manyL T up its)
  | [], up, h, _ => Shr.refl h
  | i :: its, up, h, hi => by
    have h1 := lookT_shr K h (hi i (by simp))
    rw [manyL_cons]
    exact h1.trans (many_shr K h1.fv fun j hj => by rw [h1.len]; exact hi j (by simp [hj]))
theorem shr_dist {u v : List Int} (S : Shr u v) {j : Nat} (hj : j < u.length) : dist v j ≤ dist u j := by
  have := S.short j hj
  unfold dist wayOf
  omega
theorem bare_many : ∀ {its : List Nat} {up : List Int}, fvB up = true → (∀ i ∈ its, i < up.length) → manyL bareAt up its = up ∧ ∀ (l : Int) (v : List Int), Shr up v → manyS (lookAt l) v its ≤ manyS bareAt up its
  | [], up, _, _ => ⟨rfl, fun _ _ _ => Nat.le_refl _⟩
  | i :: its, up, h, hi => by
    have h1 := look_bare h (hi i (by simp))
    obtain ⟨k1, k2⟩ := bare_many (its := its) h (fun j hj => hi j (by simp [hj]))
    refine ⟨by rw [manyL_cons, h1.2]; exact k1, fun l v S => ?_⟩
    have hv : i < v.length := by rw [S.len]; exact hi i (by simp)
    have s1 := steps_le l S.fv hv
    have s2 := shr_dist S (hi i (by simp))
    have s3 := k2 l _ (S.trans (lookT_shr (look_kind l) S.fv hv))
    unfold manyS
    rw [(bare_count h (hi i (by simp))).1, h1.2]
    omega

/-- The forest in which each item is right under its root. -/
def flat (up : List Int) : List Int := (List.range up.length).map fun i => (rootI up i : Int)
theorem flat_len (up : List Int) : (flat up).length = up.length := by simp [flat]
theorem flat_get {up : List Int} {i : Nat} (hi : i < up.length) : (flat up)[i]? = some (rootI up i : Int) := by
  unfold flat
  rw [List.getElem?_map, List.getElem?_range hi]
  rfl
theorem flat_step {up : List Int} (_h : fvB up = true) {i : Nat} (hi : i < up.length) : step (flat up) i = if rootI up i = i then none else some (rootI up i) := by
  unfold step nx
  rw [flat_get hi, Option.getD_some]
  by_cases e : rootI up i = i
  · rw [if_pos (by omega), if_pos e]
  · rw [if_neg (by omega), if_neg e]
    simp
theorem flat_in {up : List Int} (h : fvB up = true) : InB (flat up) := fun i hi => by
  rw [flat_len] at hi ⊢
  rw [flat_get hi, Option.getD_some]
  have := (root_is h hi).1
  omega
theorem flat_path {up : List Int} (h : fvB up = true) {i : Nat} (hi : i < up.length) : Path (flat up) (some i) (if rootI up i = i then [i] else [i, rootI up i]) none := by
  have hr := root_is h hi
  have hrr : rootI up (rootI up i) = rootI up i := rootI_root h hr.2
  have hs2 := flat_step h hr.1
  rw [if_pos hrr] at hs2
  have hs := flat_step h hi
  by_cases e : rootI up i = i
  · rw [if_pos e] at hs ⊢
    exact ⟨rfl, hs⟩
  · rw [if_neg e] at hs ⊢
    exact ⟨rfl, hs, hs2⟩
theorem flat_way {up : List Int} (h : fvB up = true) {i : Nat} (hi : i < up.length) : way (flat up) (flat up).length i = if rootI up i = i then [i] else [i, rootI up i] :=
  way_of_path (flat_path h hi) (by
    have := (fv_parts h).1
    rw [flat_len]
    split <;> simp <;> omega)
theorem root_links {up : List Int} (h : fvB up = true) {i : Nat} (hi : i < up.length) : rootI up i = i ↔ step up i = none := by
  constructor
  · intro e
    have := (root_is h hi).2
    rwa [e] at this
  · exact rootI_root h
theorem flat_shr {up : List Int} (h : fvB up = true) : Shr up (flat up) := by
  have hs : ∀ j, j < up.length → (way (flat up) (flat up).length j).length ≤ (way up up.length j).length := fun j hj => by
    rw [flat_way h hj]
    have e : way up up.length j = wayOf up j := rfl
    rw [e]
    by_cases hr : rootI up j = j
    · rw [if_pos hr]
      exact wayOf_pos up j
    · rw [if_neg hr]
      cases hs : step up j with
      | none => exact absurd ((root_links h hj).2 hs) hr
      | some y =>
        rw [wayOf_cons h hj hs]
        have := wayOf_pos up y
        simp
        omega
  obtain ⟨h1, h2, _, h4⟩ := fv_parts h
  refine ⟨h, fv_of (by rw [flat_len]; exact h1) (by rw [flat_len]; exact h2) (flat_in h) fun j hj => ?_, flat_len _, fun j hj => ?_, hs⟩
  · rw [flat_len] at hj
    have := hs j hj
    have := h4 j hj
    rw [flat_len] at *
    omega
  · unfold rootI wayOf
    rw [flat_way h hj]
    by_cases hr : rootI up j = j
    · rw [if_pos hr]
      have e : lastOf j (way up up.length j) = rootI up j := rfl
      rw [e, hr]
      simp [lastOf]
    · rw [if_neg hr]
      simp [lastOf]
      rfl
theorem flat_dist {up : List Int} (h : fvB up = true) {i : Nat} (hi : i < up.length) : dist (flat up) i ≤ 1 := by
  unfold dist wayOf
  rw [flat_way h hi]
  split <;> simp
/-- Flat once, flat for ever. -/
theorem flat_again {up : List Int} (h : fvB up = true) : flat (flat up) = flat up := by
  have S := flat_shr h
  unfold flat
  rw [List.length_map, List.length_range]
  refine List.map_congr_left fun i hi => ?_
  have := S.root i (List.mem_range.1 hi)
  unfold flat at this
  rw [this]
/-- As when one has looked from all. -/
theorem flat_cut {up : List Int} (h : fvB up = true) : ∀ k, k ≤ up.length → ∀ j, j < k → (manyL cutAt up (List.range k))[j]? = some (rootI up j : Int)
  | 0, _, j, hj => absurd hj (by omega)
  | k + 1, hk, j, hj => by
    have S := many_shr cut_kind h (its := List.range k) (fun i hi => by have := List.mem_range.1 hi; omega)
    have hk2 : k < (manyL cutAt up (List.range k)).length := by rw [S.len]; omega
    have ih := flat_cut h k (by omega)
    rw [List.range_succ, manyL_snoc, (look_cut S.fv hk2).2, allTo_get (wayOf (manyL cutAt up (List.range k)) k) _ (way_lt S.fv hk2)]
    rw [S.root k (by omega)]
    by_cases hm : j ∈ wayOf (manyL cutAt up (List.range k)) k
    · rw [if_pos hm]
      have h1 : rootI (manyL cutAt up (List.range k)) k = rootI (manyL cutAt up (List.range k)) j := way_root S.fv hk2 (by rw [S.len]; omega) hm
      rw [S.root k (by omega), S.root j (by omega)] at h1
      rw [h1]
    · rw [if_neg hm]
      by_cases e : j = k
      · rw [e] at hm
        exact absurd (way_self _ _) hm
      · exact ih j (by omega)
theorem flat_all {up : List Int} (h : fvB up = true) : manyL cutAt up (List.range up.length) = flat up := by
  have S := many_shr cut_kind h (its := List.range up.length) (fun i hi => List.mem_range.1 hi)
  apply List.ext_getElem? 
  intro j
  by_cases hj : j < up.length
  · rw [flat_cut h up.length (Nat.le_refl _) j hj, flat_get hj]
  · rw [List.getElem?_eq_none (by rw [S.len]; omega), List.getElem?_eq_none (by rw [flat_len]; omega)]
end Go.Proofs.Ytebgnaiibomjkaa

namespace Go.Proofs.Ytebgnaiibomjkaa

def inLook (l : Int) : Bool := decide (0 ≤ l ∧ l ≤ 3)
def allIn (n : Nat) (is : List Int) : Bool := is.all fun i => decide (0 ≤ i ∧ i < (n : Int))
def lookB (up : List Int) (l : Int) (is : List Int) : Bool := fvB up && decide (is.length ≤ 24) && allIn up.length is && inLook l
def nats (is : List Int) : List Nat := is.map Int.toNat
def lookedN (up : List Int) (l : Int) (is : List Int) : List Int := if lookB up l is = true then manyL (lookAt l) up (nats is) else []
def followedN (up : List Int) (l : Int) (is : List Int) : Int := if lookB up l is = true then (manyS (lookAt l) up (nats is) : Int) else -1
theorem lookedN_yes {up : List Int} {l : Int} {is : List Int} (h : lookB up l is = true) : lookedN up l is = manyL (lookAt l) up (nats is) := by unfold lookedN; rw [if_pos h]
theorem lookedN_no {up : List Int} {l : Int} {is : List Int} (h : lookB up l is = false) : lookedN up l is = [] := by unfold lookedN; rw [h]; simp
theorem followedN_yes {up : List Int} {l : Int} {is : List Int} (h : lookB up l is = true) : followedN up l is = (manyS (lookAt l) up (nats is) : Int) := by unfold followedN; rw [if_pos h]
theorem followedN_no {up : List Int} {l : Int} {is : List Int} (h : lookB up l is = false) : followedN up l is = -1 := by unfold followedN; rw [h]; simp
theorem allIn_mem {n : Nat} {is : List Int} (h : allIn n is = true) : ∀ i ∈ is, 0 ≤ i ∧ i < (n : Int) := fun i hi => by
  have := List.all_eq_true.1 h i hi
  exact of_decide_eq_true this
theorem lookB_parts {up : List Int} {l : Int} {is : List Int} (h : lookB up l is = true) : fvB up = true ∧ is.length ≤ 24 ∧ (∀ i ∈ is, 0 ≤ i ∧ i < (up.length : Int)) ∧ 0 ≤ l ∧ l ≤ 3 := by
  unfold lookB inLook at h
  simp only [Bool.and_eq_true, decide_eq_true_eq] at h
  exact ⟨h.1.1.1, h.1.1.2, allIn_mem h.1.2, h.2⟩
theorem lookB_of {up : List Int} {l : Int} {is : List Int} (h1 : fvB up = true) (h2 : is.length ≤ 24) (h3 : ∀ i ∈ is, 0 ≤ i ∧ i < (up.length : Int)) (h4 : 0 ≤ l) (h5 : l ≤ 3) : lookB up l is = true := by
  unfold lookB inLook allIn
  simp only [Bool.and_eq_true, decide_eq_true_eq, List.all_eq_true]
  exact ⟨⟨⟨h1, h2⟩, h3⟩, h4, h5⟩
theorem lookB_not {up : List Int} {l : Int} {is : List Int} (h : ¬ (fvB up = true ∧ is.length ≤ 24 ∧ (∀ i ∈ is, 0 ≤ i ∧ i < (up.length : Int)) ∧ 0 ≤ l ∧ l ≤ 3)) : lookB up l is = false := by
  cases hl : lookB up l is with
  | false => rfl
  | true => exact absurd (lookB_parts hl) h
theorem lookB_one (up : List Int) (l i : Int) : lookB up l [i] = (itemB up i && inLook l) := by
  unfold lookB itemB allIn
  simp
theorem nats_lt {up : List Int} {is : List Int} (h : ∀ i ∈ is, 0 ≤ i ∧ i < (up.length : Int)) : ∀ i ∈ nats is, i < up.length := fun i hi => by
  obtain ⟨k, hk, rfl⟩ := List.mem_map.1 hi
  have := h k hk
  omega
theorem nats_one (i : Int) : nats [i] = [i.toNat] := rfl
theorem manyL_one (T : List Int → List Nat → Nat → List Int) (up : List Int) (i : Nat) : manyL T up [i] = lookT T up i := rfl
theorem manyS_one (T : List Int → List Nat → Nat → List Int) (up : List Int) (i : Nat) : manyS T up [i] = stepsT T up i := by simp [manyS]
theorem looked_len {up : List Int} {l : Int} {is : List Int} (h : lookB up l is = true) : (lookedN up l is).length = up.length := by
  obtain ⟨h1, _, h3, _⟩ := lookB_parts h
  rw [lookedN_yes h]
  exact (many_shr (look_kind l) h1 (nats_lt h3)).len
theorem looked_len16 (up : List Int) (l : Int) (is : List Int) : (lookedN up l is).length ≤ 16 := by
  cases h : lookB up l is with
  | false => rw [lookedN_no h]; simp
  | true =>
    rw [looked_len h]
    exact (fv_parts (lookB_parts h).1).2.1
/-- What FlatForest answers. -/
def flatN (up : List Int) : List Int := if fvB up = true then flat up else []
theorem flatN_yes {up : List Int} (h : fvB up = true) : flatN up = flat up := by unfold flatN; rw [if_pos h]
theorem flatN_no {up : List Int} (h : fvB up = false) : flatN up = [] := by unfold flatN; rw [h]; simp
theorem flatN_len16 (up : List Int) : (flatN up).length ≤ 16 := by
  cases h : fvB up with
  | false => rw [flatN_no h]; simp
  | true => rw [flatN_yes h, flat_len]; exact (fv_parts h).2.1
/-- The forest after k looks from i; the first number of looks after which i is right under its root. -/
def againL (T : List Int → List Nat → Nat → List Int) (up : List Int) (i : Nat) : Nat → List Int
  | 0 => up
  | k + 1 => lookT T (againL T up i k) i
theorem again_shr {T : List Int → List Nat → Nat → List Int} (K : Kind T) {up : List Int} (h : fvB up = true) {i : Nat} (hi : i < up.length) : ∀ k, Shr up (againL T up i k)
  | 0 => Shr.refl h
  | k + 1 => by
    have h1 := again_shr K h hi k
    exact h1.trans (lookT_shr K h1.fv (by rw [h1.len]; exact hi))
/-- From k looks on, for so many more. -/
def firstFlat (T : List Int → List Nat → Nat → List Int) (up : List Int) (i : Nat) : Nat → Nat → Int
  | _, 0 => -1
  | k, f + 1 => if dist (againL T up i k) i ≤ 1 then (k : Int) else firstFlat T up i (k + 1) f
def looksN (up : List Int) (l i : Int) : Int := if (itemB up i && inLook l) = true then firstFlat (lookAt l) up i.toNat 0 17 else -1
theorem looksN_yes {up : List Int} {l i : Int} (h : (itemB up i && inLook l) = true) : looksN up l i = firstFlat (lookAt l) up i.toNat 0 17 := by unfold looksN; rw [if_pos h]
theorem looksN_no {up : List Int} {l i : Int} (h : (itemB up i && inLook l) = false) : looksN up l i = -1 := by unfold looksN; rw [h]; simp
end Go.Proofs.Ytebgnaiibomjkaa

namespace Go.Proofs.Ytebgnaiibomjkaa

theorem firstFlat_skip {T : List Int → List Nat → Nat → List Int} {up : List Int} {i : Nat} : ∀ (k a f : Nat), (∀ j, a ≤ j → j < a + k → ¬ dist (againL T up i j) i ≤ 1) → firstFlat T up i a (k + f) = firstFlat T up i (a + k) f
  | 0, a, f, _ => by simp
  | k + 1, a, f, h => by
    have h0 := h a (Nat.le_refl _) (by omega)
    have e : firstFlat T up i a (k + 1 + f) = firstFlat T up i (a + 1) (k + f) := by
      rw [show k + 1 + f = k + f + 1 by omega]
      show (if dist (againL T up i a) i ≤ 1 then (a : Int) else firstFlat T up i (a + 1) (k + f)) = _
      rw [if_neg h0]
    rw [e, firstFlat_skip k (a + 1) f (fun j h1 h2 => h j (by omega) (by omega)), show a + 1 + k = a + (k + 1) by omega]
theorem firstFlat_at {T : List Int → List Nat → Nat → List Int} {up : List Int} {i k : Nat} (hk : k < 17) (h : ∀ j, j < k → ¬ dist (againL T up i j) i ≤ 1) (hd : dist (againL T up i k) i ≤ 1) : firstFlat T up i 0 17 = (k : Int) := by
  have := firstFlat_skip (T := T) (up := up) (i := i) k 0 (17 - k) (fun j _ h2 => h j (by omega))
  rw [show k + (17 - k) = 17 by omega, Nat.zero_add] at this
  rw [this, show 17 - k = 16 - k + 1 by omega]
  show (if dist (againL T up i k) i ≤ 1 then (k : Int) else _) = _
  rw [if_pos hd]
theorem firstFlat_never {T : List Int → List Nat → Nat → List Int} {up : List Int} {i : Nat} (h : ∀ j, j < 17 → ¬ dist (againL T up i j) i ≤ 1) : firstFlat T up i 0 17 = -1 := by
  have := firstFlat_skip (T := T) (up := up) (i := i) 17 0 0 (fun j _ h2 => h j (by omega))
  rw [Nat.zero_add] at this
  exact this
end Go.Proofs.Ytebgnaiibomjkaa

namespace Go.Proofs.Ytebgnaiibomjkaa

/-- What has been told of the first k. -/
def tellL (f : Nat → Nat) (n k : Nat) : List Int := (List.range n).map fun x : Nat => if x < k then (f x : Int) else 0
theorem tellL_len (f : Nat → Nat) (n k : Nat) : (tellL f n k).length = n := by simp [tellL]
theorem tellL_zero (f : Nat → Nat) (n : Nat) : tellL f n 0 = List.replicate n 0 := by
  apply List.ext_getElem (by simp [tellL])
  intro i h1 h2
  simp [tellL]
theorem tellL_set (f : Nat → Nat) {n k : Nat} (_ : k < n) : (tellL f n k).set k (f k : Int) = tellL f n (k + 1) := by
  apply List.ext_getElem (by simp [tellL])
  intro i h1 h2
  simp only [tellL, List.getElem_set, List.getElem_map, List.getElem_range]
  by_cases e : k = i
  · subst e
    simp
  · rw [if_neg e]
    by_cases h : i < k
    · rw [if_pos h, if_pos (by omega)]
    · rw [if_neg h, if_neg (by omega)]
theorem tellL_all (f : Nat → Nat) (n : Nat) : tellL f n n = (List.range n).map fun x : Nat => (f x : Int) := by
  unfold tellL
  exact List.map_congr_left fun x hx => by rw [if_pos (List.mem_range.1 hx)]
end Go.Proofs.Ytebgnaiibomjkaa
