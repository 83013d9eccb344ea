/- A root that gets a link to another root, as plain lists: its class comes along, all others stay. No program. -/
import Derived.Test.YtebgnaiibomjkaaLr
import Derived.Test.YtebgnaiibomjkaaClass
namespace Go.Proofs.Ytebgnaiibomjkaa

/-- The forest in which the item a is a root. -/
def cut (up : List Int) (a : Nat) : List Int := up.set a (a : Int)
theorem cut_len (up : List Int) (a : Nat) : (cut up a).length = up.length := by simp [cut]
theorem cut_step_same {up : List Int} {a : Nat} (h : a < up.length) : step (cut up a) a = none := by
  unfold step cut
  simp [h]
theorem cut_step {up : List Int} {a i : Nat} (h : i ≠ a) : step (cut up a) i = step up i := by
  unfold step nx cut
  rw [List.getElem?_set_ne (by omega)]
theorem cut_in {up : List Int} (hb : InB up) (a : Nat) : InB (cut up a) := fun i hi => by
  rw [cut_len] at hi ⊢
  unfold cut
  by_cases e : i = a
  · subst e; simp [hi]
  · rw [List.getElem?_set_ne (by omega)]; exact hb i hi
theorem cut_path_off {up : List Int} {a : Nat} : ∀ {o q : Option Nat} {xs : List Nat}, Path up o xs q → a ∉ xs → Path (cut up a) o xs q
  | _, _, [], h, _ => h
  | _, _, x :: xs, h, hn => ⟨h.1, by
    rw [cut_step (fun e => hn (by simp [e]))]
    exact cut_path_off h.2 (fun e => hn (by simp [e]))⟩
theorem cut_path_on {up : List Int} {a : Nat} (ha : a < up.length) : ∀ {o q : Option Nat} {xs : List Nat}, Path up o xs q → a ∈ xs → ∃ ys, ys.length ≤ xs.length ∧ Path (cut up a) o (ys ++ [a]) none ∧ ys.length + 1 ≤ xs.length
  | _, _, [], _, hn => by simp at hn
  | o, _, x :: xs, h, hn => by
    by_cases e : x = a
    · subst e
      exact ⟨[], by simp, ⟨h.1, cut_step_same ha⟩, by simp⟩
    · have hm : a ∈ xs := by simpa [Ne.symm e] using hn
      obtain ⟨ys, h1, h2, h3⟩ := cut_path_on ha h.2 hm
      exact ⟨x :: ys, by simp; omega, ⟨h.1, by rw [cut_step e]; exact h2⟩, by simp; omega⟩
theorem way_of_path {up : List Int} {i : Nat} {xs : List Nat} (h : Path up (some i) xs none) (hl : xs.length ≤ up.length + 1) : way up up.length i = xs := way_done h hl

theorem root_mem {up : List Int} (h : fvB up = true) {i : Nat} (hi : i < up.length) : rootI up i ∈ way up up.length i := by
  have hne : way up up.length i ≠ [] := by
    intro e
    have := (way_len up up.length i).1
    rw [e] at this
    simp at this
  obtain ⟨pre, h1, _, _⟩ := last_path (i := i) (fv_path h hi) hne
  have : rootI up i = lastOf i (way up up.length i) := rfl
  rw [this, h1]
  simp [lastOf]
theorem cut_way {up : List Int} {a : Nat} (h : fvB up = true) (ha : a < up.length) {i : Nat} (hi : i < up.length) :
    (way (cut up a) up.length i).length ≤ up.length ∧ rootI (cut up a) i = if a ∈ way up up.length i then a else rootI up i := by
  have hP := fv_path h hi
  have hl := (fv_parts h).2.2.2 i hi
  by_cases hm : a ∈ way up up.length i
  · rw [if_pos hm]
    obtain ⟨ys, _, h2, h3⟩ := cut_path_on ha hP hm
    have hw : way (cut up a) (cut up a).length i = ys ++ [a] := way_of_path h2 (by rw [cut_len]; simp; omega)
    refine ⟨?_, ?_⟩
    · rw [cut_len] at hw; rw [hw]; simp; omega
    · unfold rootI wayOf; rw [hw]; exact lastOf_snoc _ _ _
  · rw [if_neg hm]
    have h2 := cut_path_off hP hm
    have hw : way (cut up a) (cut up a).length i = way up up.length i := way_of_path h2 (by rw [cut_len]; omega)
    refine ⟨?_, ?_⟩
    · rw [cut_len] at hw; rw [hw]; exact hl
    · unfold rootI wayOf; rw [hw]
theorem cut_fv {up : List Int} {a : Nat} (h : fvB up = true) (ha : a < up.length) : fvB (cut up a) = true := by
  obtain ⟨h1, h2, h3, _⟩ := fv_parts h
  refine fv_of (by rw [cut_len]; exact h1) (by rw [cut_len]; exact h2) (cut_in h3 a) fun i hi => ?_
  rw [cut_len] at hi ⊢
  exact (cut_way h ha hi).1
theorem cut_item {up : List Int} {a i : Nat} (h : fvB up = true) (ha : a < up.length) (hi : i < up.length) : itemB (cut up a) (i : Int) = true := item_of (cut_fv h ha) (by omega) (by rw [cut_len]; omega)
theorem cut_tog {up : List Int} {a i j : Nat} (h : fvB up = true) (ha : a < up.length) (hi : i < up.length) (hj : j < up.length) : togB (cut up a) (i : Int) (j : Int) = decide (rootI (cut up a) i = rootI (cut up a) j) := by
  unfold togB
  rw [cut_item h ha hi, cut_item h ha hj, rootN_yes (cut_item h ha hi), rootN_yes (cut_item h ha hj)]
  show ((rootI (cut up a) i : Int) == (rootI (cut up a) j : Int)) = _
  rw [Bool.eq_iff_iff, beq_iff_eq, decide_eq_true_iff]
  omega
theorem way_self (up : List Int) (i : Nat) : i ∈ way up up.length i := by
  cases up.length <;> simp [way]
/-- Who lies below a, is together with it. -/
theorem cut_with {up : List Int} {a i : Nat} (h : fvB up = true) (ha : a < up.length) (hi : i < up.length) : togB (cut up a) (i : Int) (a : Int) = decide ((a : Int) ∈ ints (way up up.length i)) := by
  rw [cut_tog h ha hi ha, (cut_way h ha hi).2, (cut_way h ha ha).2, if_pos (way_self up a), decide_eq_decide]
  have hm : (a : Int) ∈ ints (way up up.length i) ↔ a ∈ way up up.length i := by
    unfold ints
    constructor
    · intro hx
      obtain ⟨x, hx, e⟩ := List.mem_map.1 hx
      have : x = a := by omega
      exact this ▸ hx
    · intro hx
      exact List.mem_map.2 ⟨a, hx, rfl⟩
  rw [hm]
  by_cases hx : a ∈ way up up.length i
  · rw [if_pos hx]; simp [hx]
  · rw [if_neg hx]
    constructor
    · intro e
      exact absurd (e ▸ root_mem h hi) hx
    · intro hx2; exact absurd hx2 hx
theorem root_root {up : List Int} (h : fvB up = true) {i : Nat} (hi : i < up.length) : rootI up (rootI up i) = rootI up i := rootI_root h (root_is h hi).2
theorem root_way {up : List Int} (h : fvB up = true) {i : Nat} (hi : i < up.length) : way up up.length (rootI up i) = [rootI up i] := way_of_path ⟨rfl, (root_is h hi).2⟩ (by simp)
/-- On one way: the same root. -/
theorem way_root {up : List Int} (h : fvB up = true) {i a : Nat} (hi : i < up.length) (ha : a < up.length) (hm : a ∈ way up up.length i) : rootI up i = rootI up a := by
  obtain ⟨k, hk, e⟩ := List.getElem_of_mem hm
  have hp := path_at (fv_path h hi) hk
  rw [e] at hp
  have hw := path_uniq hp (fv_path h ha)
  have hne : (way up up.length i).drop k ≠ [] := by
    intro e
    have := congrArg List.length e
    simp at this
    omega
  have h1 : rootI up a = ((way up up.length i).drop k).getLast?.getD a := by
    rw [hw]; rfl
  have h2 : rootI up i = (way up up.length i).getLast?.getD i := rfl
  rw [h1, h2, List.getLast?_drop, if_neg (by omega)]
  have hne2 : way up up.length i ≠ [] := by
    intro e
    rw [e] at hk
    simp at hk
  rw [List.getLast?_eq_some_getLast hne2]
  rfl
theorem mem_cls {up : List Int} {r : Int} {i k : Nat} (hi : i < k) : (i : Int) ∈ cls up r k ↔ (rootI up i : Int) = r := by
  unfold cls
  constructor
  · intro hx
    obtain ⟨x, hx2, e⟩ := List.mem_map.1 hx
    have h3 := (List.mem_filter.1 hx2).2
    rw [show x = i by omega] at h3
    simpa using h3
  · intro hx
    exact List.mem_map.2 ⟨i, List.mem_filter.2 ⟨by simpa using hi, by simpa using hx⟩, rfl⟩
/-- And who is left with the old root. -/
theorem cut_old {up : List Int} {a i : Nat} (h : fvB up = true) (ha : a < up.length) (hi : i < up.length) :
    togB (cut up a) (i : Int) (rootI up a : Int) = (decide ((i : Int) ∈ cls up (rootI up a : Int) up.length) && (!decide ((a : Int) ∈ ints (way up up.length i)) || ((rootI up a : Int) == (a : Int)))) := by
  have hr := (root_is h ha).1
  rw [← cut_with h ha hi, cut_tog h ha hi ha, cut_tog h ha hi hr, (cut_way h ha hi).2, (cut_way h ha ha).2, (cut_way h ha hr).2, if_pos (way_self up a), root_way h ha, root_root h ha]
  have hR : (if a ∈ [rootI up a] then a else rootI up a) = rootI up a := by
    split
    · rename_i hx; simpa using hx
    · rfl
  rw [hR]
  have hc : decide ((i : Int) ∈ cls up (rootI up a : Int) up.length) = decide (rootI up i = rootI up a) := by
    rw [decide_eq_decide, mem_cls hi]; omega
  have hb : ((rootI up a : Int) == (a : Int)) = decide (rootI up a = a) := by
    rw [Bool.eq_iff_iff, beq_iff_eq, decide_eq_true_iff]; omega
  rw [hc, hb]
  by_cases hx : a ∈ way up up.length i
  · rw [if_pos hx, way_root h hi ha hx]
    by_cases e : rootI up a = a
    · simp [e]
    · simp [e, Ne.symm e]
  · rw [if_neg hx]
    have hne : rootI up i ≠ a := fun e => hx (e ▸ root_mem h hi)
    simp [hne]
end Go.Proofs.Ytebgnaiibomjkaa

namespace Go.Proofs.Ytebgnaiibomjkaa

theorem path_mem_lt {up : List Int} (hb : InB up) : ∀ {o q : Option Nat} {xs : List Nat}, (∀ i, o = some i → i < up.length) → Path up o xs q → ∀ x ∈ xs, x < up.length
  | _, _, [], _, _, x, hx => by simp at hx
  | o, q, y :: ys, ho, h, x, hx => by
    have hy := ho y h.1
    rcases List.mem_cons.1 hx with rfl | hx
    · exact hy
    · exact path_mem_lt hb (fun i hi => path_step_lt hb hy hi) h.2 x hx
theorem nodup_len : ∀ {n : Nat} {xs : List Nat}, xs.Nodup → (∀ x ∈ xs, x < n) → xs.length ≤ n
  | 0, [], _, _ => Nat.le_refl _
  | 0, x :: xs, _, hb => absurd (hb x (by simp)) (by omega)
  | n + 1, xs, h, hb => by
    by_cases hm : n ∈ xs
    · have h1 : (xs.erase n).length ≤ n := nodup_len (h.erase n) fun x hx => by
        have h2 := (h.mem_erase_iff).1 hx
        have := hb x h2.2
        have := h2.1
        omega
      rw [List.length_erase_of_mem hm] at h1
      omega
    · have h1 : xs.length ≤ n := nodup_len h fun x hx => by
        have := hb x hx
        have : x ≠ n := fun e => hm (e ▸ hx)
        omega
      omega
theorem path_nodup {up : List Int} {o : Option Nat} {xs : List Nat} (h : Path up o xs none) : xs.Nodup := by
  rw [List.nodup_iff_pairwise_ne, List.pairwise_iff_getElem]
  intro i j hi hj hij
  exact path_new h hij hj
theorem way_nodup {up : List Int} (h : fvB up = true) {i : Nat} (hi : i < up.length) : (way up up.length i).Nodup := path_nodup (fv_path h hi)
theorem way_lt {up : List Int} (h : fvB up = true) {i : Nat} (hi : i < up.length) : ∀ x ∈ way up up.length i, x < up.length :=
  path_mem_lt (fv_in h) (fun j hj => by cases hj; exact hi) (fv_path h hi)
/-- A root on a way is its end. -/
theorem root_on {up : List Int} (h : fvB up = true) {i r : Nat} (hi : i < up.length) (hs : step up r = none) (hm : r ∈ way up up.length i) : rootI up i = r := by
  have hr := way_lt h hi r hm
  rw [way_root h hi hr hm, rootI_root h hs]
theorem mem_way_root {up : List Int} (h : fvB up = true) {i r : Nat} (hi : i < up.length) (hs : step up r = none) : r ∈ way up up.length i ↔ rootI up i = r :=
  ⟨root_on h hi hs, fun e => e ▸ root_mem h hi⟩

def hang (up : List Int) (p q : Nat) : List Int := up.set p (q : Int)
theorem hang_len (up : List Int) (p q : Nat) : (hang up p q).length = up.length := by simp [hang]
/-- Two roots that are not one. -/
structure Two (up : List Int) (p q : Nat) : Prop where
  fv : fvB up = true
  hp : p < up.length
  hq : q < up.length
  rp : step up p = none
  rq : step up q = none
  ne : p ≠ q
theorem Two.symm {up : List Int} {p q : Nat} (T : Two up p q) : Two up q p := ⟨T.fv, T.hq, T.hp, T.rq, T.rp, T.ne.symm⟩
theorem hang_step_same {up : List Int} {p q : Nat} (T : Two up p q) : step (hang up p q) p = some q := by
  have := T.ne
  unfold step nx hang
  simp [T.hp]
  omega
theorem hang_step {up : List Int} {p q i : Nat} (h : i ≠ p) : step (hang up p q) i = step up i := by
  unfold step nx hang
  rw [List.getElem?_set_ne (by omega)]
theorem hang_in {up : List Int} {p q : Nat} (T : Two up p q) : InB (hang up p q) := fun i hi => by
  rw [hang_len] at hi ⊢
  unfold hang
  by_cases e : i = p
  · subst e; simp [hi]; exact T.hq
  · rw [List.getElem?_set_ne (by omega)]; exact fv_in T.fv i hi
theorem hang_path {up : List Int} {p q : Nat} : ∀ {o o' : Option Nat} {xs : List Nat}, Path up o xs o' → p ∉ xs → Path (hang up p q) o xs o'
  | _, _, [], h, _ => h
  | _, _, x :: xs, h, hn => ⟨h.1, by
    rw [hang_step (fun e => hn (by simp [e]))]
    exact hang_path h.2 (fun e => hn (by simp [e]))⟩
theorem path_join {up : List Int} : ∀ {o m o' : Option Nat} {xs ys : List Nat}, Path up o xs m → Path up m ys o' → Path up o (xs ++ ys) o'
  | _, _, _, [], _, h, k => by
    have h' : _ = _ := h
    rw [h']
    exact k
  | _, _, _, _ :: _, _, h, k => ⟨h.1, path_join h.2 k⟩
theorem hang_path_new {up : List Int} {p q i : Nat} (T : Two up p q) (hi : i < up.length) : Path (hang up p q) (some i) (if rootI up i = p then way up up.length i ++ [q] else way up up.length i) none ∧ (if rootI up i = p then way up up.length i ++ [q] else way up up.length i).length ≤ up.length := by
  have hP := fv_path T.fv hi
  by_cases e : rootI up i = p
  · rw [if_pos e]
    have hne : way up up.length i ≠ [] := by
      intro e
      have := (way_len up up.length i).1
      rw [e] at this
      simp at this
    obtain ⟨pre, h1, h2, _⟩ := last_path (i := i) hP hne
    have hl : lastOf i (way up up.length i) = p := e
    rw [hl] at h1 h2
    have hnd := way_nodup T.fv hi
    have hq : q ∉ way up up.length i := fun hm => T.ne (by rw [← e]; exact root_on T.fv hi T.rq hm)
    have hlen : (way up up.length i ++ [q]).length ≤ up.length := nodup_len (List.nodup_append.2 ⟨hnd, by simp, fun a ha b hb => by simp at hb; subst hb; exact fun e => hq (e ▸ ha)⟩) fun x hx => by
      rcases List.mem_append.1 hx with hx | hx
      · exact way_lt T.fv hi x hx
      · simp at hx; subst hx; exact T.hq
    refine ⟨?_, hlen⟩
    have hpre : p ∉ pre := fun hm => by
      rw [h1, List.nodup_append] at hnd
      exact hnd.2.2 p hm p (by simp) rfl
    rw [h1, List.append_assoc]
    refine path_join (hang_path h2 hpre) ⟨rfl, ?_⟩
    rw [hang_step_same T]
    refine ⟨rfl, ?_⟩
    show step (hang up p q) q = none
    rw [hang_step T.ne.symm]
    exact T.rq
  · rw [if_neg e]
    exact ⟨hang_path hP (fun hm => e (root_on T.fv hi T.rp hm)), (fv_parts T.fv).2.2.2 i hi⟩
theorem hang_way {up : List Int} {p q i : Nat} (T : Two up p q) (hi : i < up.length) : way (hang up p q) up.length i = if rootI up i = p then way up up.length i ++ [q] else way up up.length i := by
  obtain ⟨h1, h2⟩ := hang_path_new T hi
  have := way_of_path h1 (by rw [hang_len]; omega)
  rwa [hang_len] at this
theorem hang_fv {up : List Int} {p q : Nat} (T : Two up p q) : fvB (hang up p q) = true := by
  obtain ⟨h1, h2, _, _⟩ := fv_parts T.fv
  refine fv_of (by rw [hang_len]; exact h1) (by rw [hang_len]; exact h2) (hang_in T) fun i hi => ?_
  rw [hang_len] at hi ⊢
  rw [hang_way T hi]
  exact (hang_path_new T hi).2
theorem hang_root {up : List Int} {p q i : Nat} (T : Two up p q) (hi : i < up.length) : rootI (hang up p q) i = if rootI up i = p then q else rootI up i := by
  unfold rootI wayOf
  rw [hang_len, hang_way T hi]
  have e : lastOf i (way up up.length i) = rootI up i := rfl
  rw [e]
  by_cases h : rootI up i = p
  · rw [if_pos h, if_pos h]; exact lastOf_snoc _ _ _
  · rw [if_neg h, if_neg h]; rfl
theorem hang_item {up : List Int} {p q i : Nat} (T : Two up p q) (hi : i < up.length) : itemB (hang up p q) (i : Int) = true := item_of (hang_fv T) (by omega) (by rw [hang_len]; omega)
/-- Who is a root behind it: the roots from before, but one. -/
theorem hang_isroot {up : List Int} {p q r : Nat} (T : Two up p q) : step (hang up p q) r = none ↔ r ≠ p ∧ step up r = none := by
  by_cases e : r = p
  · subst e; rw [hang_step_same T]; simp
  · rw [hang_step e]; simp [e]

/-! ### Sizes and heights -/
def szTo (up : List Int) (k x : Nat) : Nat := ((List.range k).filter fun j => decide (x ∈ way up up.length j)).length
theorem szTo_succ (up : List Int) (k x : Nat) : szTo up (k + 1) x = szTo up k x + if x ∈ way up up.length k then 1 else 0 := by
  unfold szTo
  rw [List.range_succ, List.filter_append, List.length_append]
  congr 1
  by_cases h : x ∈ way up up.length k <;> simp [h]
theorem szTo_le (up : List Int) (k x : Nat) : szTo up k x ≤ k := by
  unfold szTo
  exact Nat.le_trans (List.length_filter_le _ _) (by simp)
/-- With the part pre of the way up from k told already. -/
def szAt (up : List Int) (k : Nat) (pre : List Nat) (x : Nat) : Nat := szTo up k x + if x ∈ pre then 1 else 0
def htOne (xs : List Nat) (x : Nat) : Nat := if x ∈ xs then xs.idxOf x else 0
def htTo (up : List Int) (k x : Nat) : Nat := (List.range k).foldl (fun m j => max m (htOne (way up up.length j) x)) 0
theorem htTo_succ (up : List Int) (k x : Nat) : htTo up (k + 1) x = max (htTo up k x) (htOne (way up up.length k) x) := by simp [htTo, List.range_succ, List.foldl_append]
def htAt (up : List Int) (k : Nat) (pre : List Nat) (x : Nat) : Nat := max (htTo up k x) (htOne pre x)
theorem szAt_nil (up : List Int) (k x : Nat) : szAt up k [] x = szTo up k x := by simp [szAt]
theorem htAt_nil (up : List Int) (k x : Nat) : htAt up k [] x = htTo up k x := by simp [htAt, htOne]
theorem szAt_way (up : List Int) (k x : Nat) : szAt up k (way up up.length k) x = szTo up (k + 1) x := (szTo_succ up k x).symm
theorem htAt_way (up : List Int) (k x : Nat) : htAt up k (way up up.length k) x = htTo up (k + 1) x := (htTo_succ up k x).symm
theorem szAt_snoc {up : List Int} {k a : Nat} {pre : List Nat} (h : a ∉ pre) (x : Nat) : szAt up k (pre ++ [a]) x = if x = a then szAt up k pre x + 1 else szAt up k pre x := by
  unfold szAt
  by_cases e : x = a
  · subst e; simp [h]
  · simp [e]
theorem htOne_snoc {a : Nat} {pre : List Nat} (h : a ∉ pre) (x : Nat) : htOne (pre ++ [a]) x = if x = a then pre.length else htOne pre x := by
  unfold htOne
  by_cases e : x = a
  · subst e
    rw [if_pos (by simp), if_pos rfl, List.idxOf_append, if_neg h]
    simp
  · rw [if_neg e]
    by_cases hm : x ∈ pre
    · rw [if_pos (by simp [hm]), if_pos hm, List.idxOf_append, if_pos hm]
    · rw [if_neg (by simp [hm, e]), if_neg hm]
theorem htOne_new {a : Nat} {pre : List Nat} (h : a ∉ pre) : htOne pre a = 0 := by unfold htOne; rw [if_neg h]
theorem htAt_snoc {up : List Int} {k a : Nat} {pre : List Nat} (h : a ∉ pre) (x : Nat) : htAt up k (pre ++ [a]) x = if x = a then max (htAt up k pre x) pre.length else htAt up k pre x := by
  unfold htAt
  rw [htOne_snoc h]
  by_cases e : x = a
  · subst e; rw [if_pos rfl, if_pos rfl, htOne_new h]; omega
  · rw [if_neg e, if_neg e]
theorem htOne_le (xs : List Nat) (x : Nat) : htOne xs x ≤ xs.length := by
  unfold htOne
  split
  · rename_i h; exact Nat.le_of_lt (List.idxOf_lt_length_of_mem h)
  · omega
theorem htTo_le {up : List Int} (x M : Nat) : ∀ {k : Nat}, (∀ j, j < k → htOne (way up up.length j) x ≤ M) → htTo up k x ≤ M
  | 0, _ => by simp [htTo]
  | k + 1, h => by
    rw [htTo_succ]
    have := htTo_le x M (k := k) fun j hj => h j (by omega)
    have := h k (by omega)
    omega
theorem htTo_ge {up : List Int} (x : Nat) : ∀ {k j : Nat}, j < k → htOne (way up up.length j) x ≤ htTo up k x
  | 0, _, h => absurd h (by omega)
  | k + 1, j, h => by
    rw [htTo_succ]
    by_cases e : j = k
    · subst e; omega
    · have := htTo_ge (up := up) x (show j < k by omega); omega
theorem htTo_bound {up : List Int} (h : fvB up = true) {k : Nat} (hk : k ≤ up.length) (x : Nat) : htTo up k x ≤ 16 := htTo_le x 16 fun j hj => by
  have h1 := htOne_le (way up up.length j) x
  have h2 := (fv_parts h).2.2.2 j (by omega)
  have h3 := (fv_parts h).2.1
  omega
/-- What SizesOf and HeightsOf tell of an item. -/
def szN (up : List Int) (x : Nat) : Nat := szTo up up.length x
def htN (up : List Int) (x : Nat) : Nat := htTo up up.length x
theorem szTo_congr {up vp : List Int} {x y : Nat} : ∀ {k : Nat}, (∀ j, j < k → (x ∈ way up up.length j ↔ y ∈ way vp vp.length j)) → szTo up k x = szTo vp k y
  | 0, _ => rfl
  | k + 1, h => by
    rw [szTo_succ, szTo_succ, szTo_congr fun j hj => h j (by omega)]
    congr 1
    by_cases e : x ∈ way up up.length k
    · rw [if_pos e, if_pos ((h k (by omega)).1 e)]
    · rw [if_neg e, if_neg (fun e' => e ((h k (by omega)).2 e'))]
theorem szTo_sum {up vp : List Int} {x p q : Nat} : ∀ {k : Nat}, (∀ j, j < k → (x ∈ way vp vp.length j ↔ (p ∈ way up up.length j ∨ q ∈ way up up.length j)) ∧ ¬ (p ∈ way up up.length j ∧ q ∈ way up up.length j)) → szTo vp k x = szTo up k p + szTo up k q
  | 0, _ => rfl
  | k + 1, h => by
    rw [szTo_succ, szTo_succ, szTo_succ, szTo_sum fun j hj => h j (by omega)]
    obtain ⟨h1, h2⟩ := h k (by omega)
    by_cases ep : p ∈ way up up.length k
    · have eq : q ∉ way up up.length k := fun e => h2 ⟨ep, e⟩
      rw [if_pos (h1.2 (.inl ep)), if_pos ep, if_neg eq]; omega
    · by_cases eq : q ∈ way up up.length k
      · rw [if_pos (h1.2 (.inr eq)), if_neg ep, if_pos eq]; omega
      · have hx : x ∉ way vp vp.length k := fun e => (h1.1 e).elim ep eq
        rw [if_neg hx, if_neg ep, if_neg eq]; omega
theorem htOne_root {up : List Int} (h : fvB up = true) {j r : Nat} (hj : j < up.length) (hs : step up r = none) : htOne (way up up.length j) r = if rootI up j = r then (way up up.length j).length - 1 else 0 := by
  by_cases e : rootI up j = r
  · rw [if_pos e]
    have hne : way up up.length j ≠ [] := by
      intro e
      have := (way_len up up.length j).1
      rw [e] at this
      simp at this
    obtain ⟨pre, h1, _, _⟩ := last_path (i := j) (fv_path h hj) hne
    have hl : lastOf j (way up up.length j) = r := e
    rw [hl] at h1
    have hnd := way_nodup h hj
    rw [h1, List.nodup_append] at hnd
    have hpre : r ∉ pre := fun hm => hnd.2.2 r hm r (by simp) rfl
    rw [h1, htOne_snoc hpre, if_pos rfl]
    simp
  · rw [if_neg e]
    exact htOne_new (fun hm => e (root_on h hj hs hm))
/-- Behind a join: the size and the height of the root that stayed, and of all other roots. -/
theorem hang_sz {up : List Int} {p q : Nat} (T : Two up p q) : szN (hang up p q) q = szN up q + szN up p := by
  unfold szN
  rw [hang_len, Nat.add_comm]
  refine szTo_sum fun j hj => ?_
  have hx := hang_way T hj
  rw [hang_len, mem_way_root T.fv hj T.rp, mem_way_root T.fv hj T.rq, hx]
  by_cases e : rootI up j = p
  · rw [if_pos e]
    exact ⟨by simp [e], fun ⟨_, h2⟩ => T.ne (by omega)⟩
  · rw [if_neg e, mem_way_root T.fv hj T.rq]
    exact ⟨by simp [e], fun ⟨h1, _⟩ => e h1⟩
theorem hang_sz_other {up : List Int} {p q r : Nat} (T : Two up p q) (hr : step up r = none) (hp : r ≠ p) (hq : r ≠ q) : szN (hang up p q) r = szN up r := by
  unfold szN
  rw [hang_len]
  refine (szTo_congr fun j hj => ?_).symm
  rw [hang_len, hang_way T hj, mem_way_root T.fv hj hr]
  by_cases e : rootI up j = p
  · rw [if_pos e]
    have h1 : r ∉ way up up.length j := fun hm => hp (by rw [← e]; exact (root_on T.fv hj hr hm).symm)
    constructor
    · intro e2; omega
    · intro hm
      rcases List.mem_append.1 hm with hm | hm
      · exact absurd hm h1
      · simp at hm; omega
  · rw [if_neg e, mem_way_root T.fv hj hr]
theorem htN_eq {up : List Int} {x M : Nat} (h1 : ∀ j, j < up.length → htOne (way up up.length j) x ≤ M) (h2 : ∃ j, j < up.length ∧ M ≤ htOne (way up up.length j) x) : htN up x = M := by
  have a := htTo_le x M h1
  obtain ⟨j, hj, h⟩ := h2
  have b := htTo_ge (up := up) x hj
  unfold htN
  omega
theorem htTo_attain {up : List Int} (x : Nat) : ∀ {k : Nat}, 0 < k → ∃ j, j < k ∧ htTo up k x ≤ htOne (way up up.length j) x
  | 0, h => absurd h (by omega)
  | k + 1, _ => by
    rw [htTo_succ]
    by_cases hk : k = 0
    · subst hk; exact ⟨0, by omega, by simp [htTo]⟩
    · obtain ⟨j, hj, h⟩ := htTo_attain (up := up) x (k := k) (by omega)
      by_cases e : htTo up k x ≤ htOne (way up up.length k) x
      · exact ⟨k, by omega, by omega⟩
      · exact ⟨j, by omega, by omega⟩
theorem hang_ht {up : List Int} {p q : Nat} (T : Two up p q) : htN (hang up p q) q = max (htN up q) (htN up p + 1) := by
  have hrq : step (hang up p q) q = none := (hang_isroot T).2 ⟨T.ne.symm, T.rq⟩
  have one : ∀ j, j < up.length → htOne (way (hang up p q) (hang up p q).length j) q = if rootI up j = p then (way up up.length j).length else if rootI up j = q then (way up up.length j).length - 1 else 0 := fun j hj => by
    rw [htOne_root (hang_fv T) (by rw [hang_len]; exact hj) hrq, hang_root T hj, hang_len, hang_way T hj]
    by_cases e : rootI up j = p
    · rw [if_pos e, if_pos e, if_pos e, if_pos rfl]; simp
    · rw [if_neg e, if_neg e, if_neg e]
  have oq : ∀ j, j < up.length → htOne (way up up.length j) q = if rootI up j = q then (way up up.length j).length - 1 else 0 := fun j hj => htOne_root T.fv hj T.rq
  have op : ∀ j, j < up.length → htOne (way up up.length j) p = if rootI up j = p then (way up up.length j).length - 1 else 0 := fun j hj => htOne_root T.fv hj T.rp
  have hpos := (fv_parts T.fv).1
  have w1 : ∀ j, 1 ≤ (way up up.length j).length := fun j => (way_len up up.length j).1
  refine htN_eq (fun j hj => ?_) ?_
  · rw [hang_len] at hj
    rw [one j hj]
    have g1 := htTo_ge (up := up) q hj
    have g2 := htTo_ge (up := up) p hj
    rw [oq j hj] at g1
    rw [op j hj] at g2
    have := w1 j
    unfold htN
    by_cases e : rootI up j = p
    · rw [if_pos e] at g2 ⊢; omega
    · rw [if_neg e]; omega
  · by_cases hc : htN up p + 1 ≤ htN up q
    · obtain ⟨j, hj, h⟩ := htTo_attain (up := up) q hpos
      refine ⟨j, by rw [hang_len]; exact hj, ?_⟩
      rw [one j hj]
      rw [oq j hj] at h
      unfold htN at hc ⊢
      by_cases e : rootI up j = q
      · rw [if_pos e] at h
        rw [if_neg (fun e' => T.ne (by omega)), if_pos e]; omega
      · rw [if_neg e] at h; omega
    · obtain ⟨j, hj, h⟩ := htTo_attain (up := up) p hpos
      rw [op j hj] at h
      unfold htN at hc ⊢
      by_cases e : rootI up j = p
      · refine ⟨j, by rw [hang_len]; exact hj, ?_⟩
        have := w1 j
        rw [one j hj, if_pos e]
        rw [if_pos e] at h; omega
      · rw [if_neg e] at h
        refine ⟨p, by rw [hang_len]; exact T.hp, ?_⟩
        have := w1 p
        rw [one p T.hp, if_pos (rootI_root T.fv T.rp)]; omega
theorem hang_ht_other {up : List Int} {p q r : Nat} (T : Two up p q) (hr : step up r = none) (hp : r ≠ p) (hq : r ≠ q) : htN (hang up p q) r = htN up r := by
  have hrr : step (hang up p q) r = none := (hang_isroot T).2 ⟨hp, hr⟩
  have hpos := (fv_parts T.fv).1
  have one : ∀ j, j < up.length → htOne (way (hang up p q) (hang up p q).length j) r = htOne (way up up.length j) r := fun j hj => by
    rw [htOne_root (hang_fv T) (by rw [hang_len]; exact hj) hrr, htOne_root T.fv hj hr, hang_root T hj, hang_len, hang_way T hj]
    by_cases e : rootI up j = p
    · rw [if_pos e, if_pos e, if_neg (Ne.symm hq), if_neg (by omega)]
    · rw [if_neg e, if_neg e]
  refine htN_eq (fun j hj => ?_) ?_
  · rw [hang_len] at hj
    rw [one j hj]
    exact htTo_ge r hj
  · obtain ⟨j, hj, h⟩ := htTo_attain (up := up) r hpos
    exact ⟨j, by rw [hang_len]; exact hj, by rw [one j hj]; exact h⟩
end Go.Proofs.Ytebgnaiibomjkaa

namespace Go.Proofs.Ytebgnaiibomjkaa

def szL (up : List Int) (k : Nat) (pre : List Nat) : List Int := (List.range up.length).map fun x : Nat => (szAt up k pre x : Int)
def htL (up : List Int) (k : Nat) (pre : List Nat) : List Int := (List.range up.length).map fun x : Nat => (htAt up k pre x : Int)
theorem szL_len (up : List Int) (k : Nat) (pre : List Nat) : (szL up k pre).length = up.length := by simp [szL]
theorem htL_len (up : List Int) (k : Nat) (pre : List Nat) : (htL up k pre).length = up.length := by simp [htL]
theorem szL_get {up : List Int} {k x : Nat} {pre : List Nat} (h : x < up.length) : (szL up k pre)[x]?.getD 0 = (szAt up k pre x : Int) := by simp [szL, h]
theorem htL_get {up : List Int} {k x : Nat} {pre : List Nat} (h : x < up.length) : (htL up k pre)[x]?.getD 0 = (htAt up k pre x : Int) := by simp [htL, h]
theorem map_zero {n : Nat} {f : Nat → Int} (h : ∀ x, f x = 0) : (List.range n).map f = List.replicate n 0 := by
  apply List.ext_getElem
  · simp
  · intro i h1 h2
    simp [h]
theorem szL_zero (up : List Int) : szL up 0 [] = List.replicate up.length 0 := map_zero fun x => by simp [szAt, szTo]
theorem htL_zero (up : List Int) : htL up 0 [] = List.replicate up.length 0 := map_zero fun x => by simp [htAt, htTo, htOne]
theorem map_set {n a : Nat} {f g : Nat → Int} {z : Int} (hz : g a = z) (h : ∀ x, x ≠ a → g x = f x) : ((List.range n).map f).set a z = (List.range n).map g := by
  apply List.ext_getElem
  · simp
  · intro i h1 h2
    rw [List.getElem_set]
    by_cases e : a = i
    · subst e; simp [hz]
    · rw [if_neg e]; simp [h i (Ne.symm e)]
theorem szL_set {up : List Int} {k a : Nat} {pre : List Nat} (h : a ∉ pre) : (szL up k pre).set a ((szAt up k pre a : Int) + 1) = szL up k (pre ++ [a]) :=
  map_set (by rw [szAt_snoc h, if_pos rfl]; omega) fun x hx => by rw [szAt_snoc h, if_neg hx]
theorem htL_set {up : List Int} {k a : Nat} {pre : List Nat} (h : a ∉ pre) : (htL up k pre).set a (max (htAt up k pre a : Int) (pre.length : Int)) = htL up k (pre ++ [a]) :=
  map_set (by rw [htAt_snoc h, if_pos rfl]; omega) fun x hx => by rw [htAt_snoc h, if_neg hx]
theorem szL_next (up : List Int) (k : Nat) : szL up k (way up up.length k) = szL up (k + 1) [] := by
  unfold szL
  refine List.map_congr_left fun x _ => ?_
  rw [szAt_way, szAt_nil]
theorem htL_next (up : List Int) (k : Nat) : htL up k (way up up.length k) = htL up (k + 1) [] := by
  unfold htL
  refine List.map_congr_left fun x _ => ?_
  rw [htAt_way, htAt_nil]
theorem szAt_le (up : List Int) (k : Nat) (pre : List Nat) (x : Nat) : szAt up k pre x ≤ k + 1 := by
  unfold szAt
  have := szTo_le up k x
  split <;> omega
theorem htAt_le {up : List Int} (h : fvB up = true) {k : Nat} (hk : k ≤ up.length) {pre : List Nat} (hp : pre.length ≤ 16) (x : Nat) : htAt up k pre x ≤ 16 := by
  unfold htAt
  have h1 := htTo_bound h hk x
  have h2 := htOne_le pre x
  omega
/-- What SizesOf and HeightsOf answer. -/
def sizesN (up : List Int) : List Int := if fvB up = true then szL up up.length [] else []
def heightsN (up : List Int) : List Int := if fvB up = true then htL up up.length [] else []
theorem sizesN_no {up : List Int} (h : fvB up = false) : sizesN up = [] := by unfold sizesN; rw [h]; simp
theorem sizesN_yes {up : List Int} (h : fvB up = true) : sizesN up = szL up up.length [] := by unfold sizesN; rw [if_pos h]
theorem heightsN_no {up : List Int} (h : fvB up = false) : heightsN up = [] := by unfold heightsN; rw [h]; simp
theorem heightsN_yes {up : List Int} (h : fvB up = true) : heightsN up = htL up up.length [] := by unfold heightsN; rw [if_pos h]
theorem sizesN_len16 (up : List Int) : (sizesN up).length ≤ 16 := by
  cases h : fvB up with
  | false => rw [sizesN_no h]; simp
  | true => rw [sizesN_yes h, szL_len]; exact (fv_parts h).2.1
theorem heightsN_len16 (up : List Int) : (heightsN up).length ≤ 16 := by
  cases h : fvB up with
  | false => rw [heightsN_no h]; simp
  | true => rw [heightsN_yes h, htL_len]; exact (fv_parts h).2.1
theorem way_take {W : List Nat} {t : Nat} (hn : W.Nodup) (ht : t < W.length) : W[t]?.getD 0 ∉ W.take t ∧ W.take (t + 1) = W.take t ++ [W[t]?.getD 0] := by
  rw [List.getElem?_eq_getElem ht, Option.getD_some]
  refine ⟨fun hm => ?_, List.take_succ_eq_append_getElem ht⟩
  have hn2 := hn
  rw [← List.take_append_drop t W, List.nodup_append, List.drop_eq_getElem_cons ht] at hn2
  exact hn2.2.2 _ hm _ List.mem_cons_self rfl
end Go.Proofs.Ytebgnaiibomjkaa
