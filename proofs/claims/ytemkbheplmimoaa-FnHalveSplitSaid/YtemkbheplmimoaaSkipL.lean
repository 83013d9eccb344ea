/- An item that gets a link to one farther up its way: no way becomes longer, every root stays. Plain lists, no program. -/
import Derived.Test.YtemkbheplmimoaaHang
namespace Go.Proofs.Ytemkbheplmimoaa

/-- The item k lies on the way up from i, and is not i. -/
structure Up (up : List Int) (i k : Nat) : Prop where
  fv : fvB up = true
  hi : i < up.length
  hk : k ∈ way up up.length i
  ne : k ≠ i
theorem Up.lt {up : List Int} {i k : Nat} (S : Up up i k) : k < up.length := way_lt S.fv S.hi k S.hk
theorem sk_step_same {up : List Int} {i k : Nat} (S : Up up i k) : step (hang up i k) i = some k := by
  have := S.ne
  unfold step nx hang
  simp [S.hi]
  omega
theorem sk_in {up : List Int} {i k : Nat} (S : Up up i k) : InB (hang up i k) := fun j hj => by
  rw [hang_len] at hj ⊢
  unfold hang
  by_cases e : j = i
  · subst e; simp [hj]; exact S.lt
  · rw [List.getElem?_set_ne (by omega)]; exact fv_in S.fv j hj
theorem sk_above {up : List Int} {i k : Nat} (S : Up up i k) : ∃ rest, way up up.length i = i :: rest ∧ Path up (some k) (way up up.length k) none ∧ i ∉ way up up.length k ∧ (way up up.length k).length ≤ rest.length := by
  have hP := fv_path S.fv S.hi
  have hnd := way_nodup S.fv S.hi
  obtain ⟨t, ht, e⟩ := List.getElem_of_mem S.hk
  have h1 := path_at hP ht
  rw [e] at h1
  have hw := path_uniq h1 (fv_path S.fv S.lt)
  cases hW : way up up.length i with
  | nil =>
    rw [hW] at ht
    simp at ht
  | cons x rest =>
    have hx : x = i := by
      have hP2 := hP
      rw [hW] at hP2
      have := hP2.1
      injection this with this
      exact this.symm
    subst hx
    have ht0 : t ≠ 0 := fun e0 => by
      subst e0
      simp only [hW, List.getElem_cons_zero] at e
      exact S.ne e.symm
    refine ⟨rest, rfl, fv_path S.fv S.lt, ?_, ?_⟩
    · rw [← hw, hW]
      obtain ⟨t', rfl⟩ : ∃ t', t = t' + 1 := ⟨t - 1, by omega⟩
      rw [List.drop_succ_cons]
      rw [hW] at hnd
      exact fun hm => (List.nodup_cons.1 hnd).1 (List.mem_of_mem_drop hm)
    · rw [← hw, hW]
      simp
      omega
theorem sk_path {up : List Int} {i k : Nat} (S : Up up i k) : ∀ {o : Option Nat} {xs : List Nat}, Path up o xs none → ∃ ys, Path (hang up i k) o ys none ∧ ys.length ≤ xs.length ∧ (∀ d, lastOf d ys = lastOf d xs)
  | _, [], h => ⟨[], h, Nat.le_refl _, fun _ => rfl⟩
  | o, x :: xs, h => by
    by_cases e : x = i
    · subst e
      obtain ⟨rest, h1, h2, h3, h4⟩ := sk_above S
      have hxs : x :: xs = way up up.length x := by
        have h5 : Path up (some x) (x :: xs) none := ⟨rfl, h.2⟩
        exact path_uniq h5 (fv_path S.fv S.hi)
      have hlen : xs.length = rest.length := by rw [h1] at hxs; injection hxs with _ hxs; rw [hxs]
      refine ⟨x :: way up up.length k, ⟨h.1, ?_⟩, by simp; omega, fun d => ?_⟩
      · rw [sk_step_same S]
        exact hang_path h2 h3
      · rw [hxs]
        have hr : rootI up x = rootI up k := way_root S.fv S.hi S.lt S.hk
        have hk1 := (way_len up up.length k).1
        have e1 : lastOf d (x :: way up up.length k) = rootI up k := by
          unfold lastOf rootI lastOf wayOf
          rw [List.getLast?_cons]
          cases hl : (way up up.length k).getLast? with
          | none => rw [List.getLast?_eq_none_iff] at hl; rw [hl] at hk1; simp at hk1
          | some z => simp
        have e2 : lastOf d (way up up.length x) = rootI up x := by
          unfold rootI lastOf wayOf
          have hx1 := (way_len up up.length x).1
          cases hl : (way up up.length x).getLast? with
          | none => rw [List.getLast?_eq_none_iff] at hl; rw [hl] at hx1; simp at hx1
          | some z => simp
        rw [e1, e2, hr]
    · obtain ⟨ys, h1, h2, h3⟩ := sk_path S h.2
      refine ⟨x :: ys, ⟨h.1, by rw [hang_step e]; exact h1⟩, by simp; omega, fun d => ?_⟩
      have e1 : ∀ (zs : List Nat), lastOf d (x :: zs) = lastOf x zs := fun zs => by
        unfold lastOf
        rw [List.getLast?_cons]
        cases zs.getLast? <;> rfl
      rw [e1, e1, h3]
theorem sk_way {up : List Int} {i k j : Nat} (S : Up up i k) (hj : j < up.length) : (way (hang up i k) up.length j).length ≤ (way up up.length j).length ∧ rootI (hang up i k) j = rootI up j := by
  obtain ⟨ys, h1, h2, h3⟩ := sk_path S (fv_path S.fv hj)
  have hl := (fv_parts S.fv).2.2.2 j hj
  have hw : way (hang up i k) (hang up i k).length j = ys := way_of_path h1 (by rw [hang_len]; omega)
  refine ⟨?_, ?_⟩
  · rw [hang_len] at hw; rw [hw]; exact h2
  · unfold rootI wayOf; rw [hw]; exact h3 j
theorem sk_fv {up : List Int} {i k : Nat} (S : Up up i k) : fvB (hang up i k) = true := by
  obtain ⟨h1, h2, _, h4⟩ := fv_parts S.fv
  refine fv_of (by rw [hang_len]; exact h1) (by rw [hang_len]; exact h2) (sk_in S) fun j hj => ?_
  rw [hang_len] at hj ⊢
  exact Nat.le_trans (sk_way S hj).1 (h4 j hj)
end Go.Proofs.Ytemkbheplmimoaa
