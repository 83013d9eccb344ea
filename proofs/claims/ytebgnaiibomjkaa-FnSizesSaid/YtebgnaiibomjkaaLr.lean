/- The laws' small helpers lrSame (of two slices that read alike) and lrHas, and plain words on ways: no item twice, each step a link, from the item to its root. Condition: lengths up to 1048576. -/
import Derived.Test.YtebgnaiibomjkaaForest
import Derived.Test.YtebgnaiibomjkaaHelp
namespace Go.Proofs.Ytebgnaiibomjkaa
open Go.RowKit

set_option maxHeartbeats 800000 in
theorem lrSame_any (A1 A2 : Option Addr) (n c1 c2 B B' : Nat) (xs : List Int) (w : World) (h1 : Rd w B A1 n xs) (h2 : Rd w B' A2 n xs) (hb : n ≤ 1048576) :
    Calls Try.prog 17 #[.slice A1 n c1, .slice A2 n c2] w fun e w' => e = .returned (.bool true) ∧ ∃ n, w' = w.drewN n := by
  have l1 := h1.1
  have L1 : xs.length ≤ n := by omega
  have L3 : n ≤ xs.length := by omega
  have hmin : min (n : Int) (n : Int) = (n : Int) := by omega
  clear l1
  go_enter Try.func17, Try.ntmps17
  go_wp2
  go_loopw [11] (fun i wr => ∃ k m : Nat, k ≤ n ∧ i = .int .i64 k ∧ wr = w.drewN m) (fun i _ => n - (intOf i).toNat)
  case atStart => exact ⟨0, 0, Nat.zero_le _, rfl, rfl⟩
  case round =>
    obtain ⟨k, m, hk, rfl, rfl⟩ := hrel
    by_cases hlt : k < n
    · obtain ⟨b, off, rfl, _, hc1⟩ := h1.2 (by omega)
      obtain ⟨b2, off2, rfl, _, hc2⟩ := h2.2 (by omega)
      have g1 := hc1 k hlt
      have g2 := hc2 k hlt
      clear hc1 hc2
      generalize xs[k]?.getD 0 = z at g1 g2
      have hne : (z != z) = false := by simp
      go_wp2
      go_quiet (fail)
      go_wp2
      go_roundw
      case rel => exact ⟨k + 1, _, by omega, by go_num, rfl⟩
      case measure => simp [intOf]; omega
    · obtain rfl : k = n := by omega
      go_wp2
      go_ret
      exact ⟨rfl, _, rfl⟩

set_option maxHeartbeats 800000 in
theorem lrHas_no (A : Option Addr) (n c B : Nat) (xs : List Int) (x : Int) (w : World) (h : Rd w B A n xs) (hb : n ≤ 1048576) (hx : ∀ z ∈ xs, z ≠ x) :
    Calls Try.prog 19 #[.slice A n c, .int .i64 x] w fun e w' => e = .returned (.bool false) ∧ w' = w := by
  have l1 := h.1
  have HX := Lib.hid hx
  have L1 : xs.length ≤ n := by omega
  have L3 : n ≤ xs.length := by omega
  clear l1 hx
  go_enter Try.func19, Try.ntmps19
  go_wp2
  go_loop [9] (fun i => ∃ k : Nat, k ≤ n ∧ i = .int .i64 k) (fun i => n - (intOf i).toNat)
  case atStart => exact ⟨0, Nat.zero_le _, rfl⟩
  case round =>
    obtain ⟨k, hk, rfl⟩ := hrel
    by_cases hlt : k < n
    · obtain ⟨b, off, rfl, _, hc1⟩ := h.2 (by omega)
      have g1 := hc1 k hlt
      clear hc1
      have hz : xs[k]?.getD 0 ≠ x := by
        simp only [List.getElem?_eq_getElem (show k < xs.length by omega), Option.getD_some]
        exact HX.out _ (List.getElem_mem _)
      generalize xs[k]?.getD 0 = z at g1 hz
      have hne : (z == x) = false := by simp [hz]
      go_wp2
      go_round
      case rel => exact ⟨k + 1, by omega, by go_num⟩
      case measure => simp [intOf]; omega
    · go_wp2
      go_ret
      exact ⟨rfl, rfl⟩

/-- What is read of a slice's head. -/
theorem Rd.take {w : World} {B : Nat} {A : Option Addr} {n k : Nat} {zs : List Int} (h : Rd w B A n zs) (hk : k ≤ n) : Rd w B A k (zs.take k) :=
  ⟨by rw [List.length_take, h.1]; omega, fun h0 => by
    obtain ⟨b, off, e, hlt, hc⟩ := h.2 (by omega)
    exact ⟨b, off, e, hlt, fun j hj => by rw [hc j (by omega), List.getElem?_take_of_lt hj]⟩⟩

/-! Ways -/
theorem path_at {up : List Int} : ∀ {o : Option Nat} {xs : List Nat} {q : Option Nat} {k : Nat}, Path up o xs q → (hk : k < xs.length) → Path up (some xs[k]) (xs.drop k) q
  | _, [], _, _, _, hk => by simp at hk
  | _, x :: xs, _, 0, h, _ => ⟨rfl, h.2⟩
  | _, x :: xs, _, k + 1, h, hk => by
    have := path_at h.2 (by simpa using hk)
    simpa using this
theorem path_next {up : List Int} {o q : Option Nat} {xs : List Nat} {k : Nat} (h : Path up o xs q) (hk : k + 1 < xs.length) : step up (xs[k]'(by omega)) = some (xs[k + 1]) := by
  have h1 := path_at h (show k < xs.length by omega)
  rw [List.drop_eq_getElem_cons (show k < xs.length by omega)] at h1
  have h2 := h1.2
  rw [List.drop_eq_getElem_cons hk] at h2
  exact h2.1
theorem path_new {up : List Int} {o : Option Nat} {xs : List Nat} {j k : Nat} (h : Path up o xs none) (hj : j < k) (hk : k < xs.length) : xs[j]'(by omega) ≠ xs[k] := by
  intro e
  have h1 := path_at h (show j < xs.length by omega)
  have h2 := path_at h hk
  rw [e] at h1
  have := congrArg List.length (path_uniq h1 h2)
  simp at this
  omega

theorem deepTo_ge (up : List Int) : ∀ {k i : Nat}, i < k → (wayOf up i).length - 1 ≤ deepTo up k
  | 0, _, h => by omega
  | k + 1, i, h => by
    rw [deepTo_succ]
    by_cases e : i = k
    · subst e; omega
    · have := deepTo_ge up (k := k) (i := i) (by omega); omega

/-- All that is said of a way up in a valid forest. -/
theorem way_facts {up : List Int} {a : Int} (h : itemB up a = true) : ∃ (i L : Nat) (W : List Nat), a = (i : Int) ∧ wayN up a = W ∧ W.length = L ∧ 1 ≤ L ∧ L ≤ 17 ∧ W[0]?.getD 0 = i ∧
    (W[L - 1]?.getD 0 : Int) = rootN up a ∧ ((L : Int) - 1 ≤ deepN up) ∧ 0 ≤ deepN up ∧ deepN up ≤ 1048576 ∧
    ∀ k, 1 ≤ k → k < L → W[k - 1]?.getD 0 < up.length ∧ up[W[k - 1]?.getD 0]?.getD 0 = (W[k]?.getD 0 : Int) ∧ (W[k - 1]?.getD 0 : Int) ≠ (W[k]?.getD 0 : Int) ∧ ∀ z ∈ (ints W).take k, z ≠ (W[k]?.getD 0 : Int) := by
  have hf := item_fv h
  have hl := item_lt h
  obtain ⟨i, rfl⟩ := Int.eq_ofNat_of_zero_le hl.1
  have hi : i < up.length := by omega
  have hP := fv_path hf hi
  have hIn := fv_in hf
  have hlen := way_len up up.length i
  have h16 := (fv_parts hf).2.1
  have hle := (fv_parts hf).2.2.2 i hi
  refine ⟨i, (way up up.length i).length, way up up.length i, rfl, wayN_yes h, rfl, hlen.1, by omega, ?_, ?_, ?_, ?_, ?_, ?_⟩
  · cases hn : up.length <;> simp [way]
  · rw [rootN_yes h]
    unfold rootI lastOf wayOf
    rw [List.getLast?_eq_getElem?]
    simp [show (way up up.length i).length - 1 < (way up up.length i).length by omega]
  · unfold deepN
    rw [if_pos hf]
    have := deepTo_ge up hi
    unfold wayOf at this
    omega
  · unfold deepN; rw [if_pos hf]; omega
  · unfold deepN; rw [if_pos hf]
    have : ∀ k, deepTo up k ≤ 17 := by
      intro k
      induction k with
      | zero => simp [deepTo]
      | succ k ih =>
        rw [deepTo_succ]
        have := (way_len up up.length k).2
        unfold wayOf
        omega
    have := this up.length
    omega
  · intro k h1 hk
    have hk1 : k - 1 < (way up up.length i).length := by omega
    simp only [List.getElem?_eq_getElem hk, List.getElem?_eq_getElem hk1, Option.getD_some]
    have hlt : (way up up.length i)[k - 1] < up.length := path_lt hIn (o := some i) (xs := (way up up.length i).take (k - 1)) (fun j hj => by cases hj; exact hi) (by
      have : ∀ (xs : List Nat) (o : Option Nat) (k : Nat) (hk : k < xs.length), Path up o xs none → Path up o (xs.take k) (some xs[k]) := by
        intro xs
        induction xs with
        | nil => intro o k hk; simp at hk
        | cons x xs ih =>
          intro o k hk hp
          cases k with
          | zero => exact hp.1
          | succ k => exact ⟨hp.1, ih _ k (by simpa using hk) hp.2⟩
      exact this _ _ _ hk1 hP)
    have hn := path_next hP (k := k - 1) (by omega)
    simp only [show k - 1 + 1 = k by omega] at hn
    have hs := step_some hIn hlt hn
    refine ⟨hlt, ?_, ?_, ?_⟩
    · simpa using hs.1
    · have := hs.2.1; omega
    · intro z hz e
      rw [List.mem_take_iff_getElem] at hz
      obtain ⟨j, hj, rfl⟩ := hz
      have hj2 : j < k := by omega
      simp only [ints, List.getElem_map] at e
      have := path_new hP hj2 hk
      omega
end Go.Proofs.Ytebgnaiibomjkaa

namespace Go.Proofs.Ytebgnaiibomjkaa
open Go.RowKit

set_option maxHeartbeats 800000 in
theorem lrHas_any (A : Option Addr) (n c B : Nat) (xs : List Int) (x : Int) (w : World) (h : Rd w B A n xs) (hb : n ≤ 1048576) :
    Calls Try.prog 19 #[.slice A n c, .int .i64 x] w fun e w' => e = .returned (.bool (decide (x ∈ xs))) ∧ w' = w := by
  by_cases hx : x ∈ xs
  · rw [decide_eq_true hx]
    have l1 := h.1
    have L1 : xs.length ≤ n := by omega
    have L3 : n ≤ xs.length := by omega
    have hnf : ¬ ∀ k, k < n → xs[k]?.getD 0 ≠ x := fun hf => by
      obtain ⟨k, hk, e⟩ := List.getElem_of_mem hx
      exact hf k (by omega) (by simpa [hk] using e)
    have HX := Lib.hid hnf
    clear hx l1 hnf
    go_enter Try.func19, Try.ntmps19
    go_wp2
    go_loop [9] (fun i => ∃ k : Nat, k ≤ n ∧ i = .int .i64 k ∧ ∀ j, j < k → xs[j]?.getD 0 ≠ x) (fun i => n - (intOf i).toNat)
    case atStart => exact ⟨0, Nat.zero_le _, rfl, fun j hj => absurd hj (by omega)⟩
    case round =>
      obtain ⟨k, hk, rfl, hf⟩ := hrel
      have HF := Lib.hid hf
      clear hf
      by_cases hlt : k < n
      · obtain ⟨b, off, rfl, _, hc1⟩ := h.2 (by omega)
        have g1 := hc1 k hlt
        clear hc1
        by_cases he : xs[k]?.getD 0 = x
        · rw [he] at g1
          have heq : (x == x) = true := by simp
          clear he
          go_wp2
          go_ret
          exact ⟨rfl, rfl⟩
        · have HE : Hid (∀ j, j < k + 1 → xs[j]?.getD 0 ≠ x) := fun j hj => by
            by_cases e : j = k
            · subst e; exact he
            · exact HF.out j (by omega)
          generalize xs[k]?.getD 0 = z at g1 he
          have hne : (z == x) = false := by simp [he]
          clear he
          go_wp2
          go_round
          case rel => exact ⟨k + 1, by omega, by go_num, HE.out⟩
          case measure => simp [intOf]; omega
      · obtain rfl : k = n := by omega
        exact absurd HF.out HX.out
  · rw [decide_eq_false hx]
    exact lrHas_no A n c B xs x w h hb (fun z hz e => hx (e ▸ hz))
end Go.Proofs.Ytebgnaiibomjkaa
