/- How much an item is more than its root: plain lists; the model's l5Over. Condition: lengths up to 1048576. -/
import Derived.Test.YtafebdpcifmndaaOffs
namespace Go.Proofs.Ytafebdpcifmndaa
open Go.RowKit

/-- The differences of items, summed. -/
def overL (bs : List Int) : List Nat → Int
  | [] => 0
  | x :: xs => bs[x]?.getD 0 + overL bs xs
theorem overL_append (bs : List Int) : ∀ (xs ys : List Nat), overL bs (xs ++ ys) = overL bs xs + overL bs ys
  | [], ys => by simp [overL]
  | x :: xs, ys => by
    have := overL_append bs xs ys
    show bs[x]?.getD 0 + overL bs (xs ++ ys) = bs[x]?.getD 0 + overL bs xs + overL bs ys
    omega
theorem overL_snoc (bs : List Int) (xs : List Nat) (x : Nat) : overL bs (xs ++ [x]) = overL bs xs + bs[x]?.getD 0 := by
  rw [overL_append]
  simp [overL]
theorem overL_le {bs : List Int} (h : ∀ k, k < bs.length → -16000 ≤ bs[k]?.getD 0 ∧ bs[k]?.getD 0 ≤ 16000) : ∀ (xs : List Nat), -(16000 * (xs.length : Int)) ≤ overL bs xs ∧ overL bs xs ≤ 16000 * (xs.length : Int)
  | [] => by simp [overL]
  | x :: xs => by
    have ih := overL_le h xs
    have hx : -16000 ≤ bs[x]?.getD 0 ∧ bs[x]?.getD 0 ≤ 16000 := by
      rcases Nat.lt_or_ge x bs.length with hl | hl
      · exact h x hl
      · rw [List.getElem?_eq_none hl]; exact ⟨by decide, by decide⟩
    rw [List.length_cons]
    show _ ≤ bs[x]?.getD 0 + overL bs xs ∧ bs[x]?.getD 0 + overL bs xs ≤ _
    constructor
    · have := ih.1; have := hx.1; omega
    · have := ih.2; have := hx.2; omega
/-- How much an item is more than its root. -/
def overI (us bs : List Int) (i : Nat) : Int := overL bs (way us us.length i)
theorem offB_by {us bs : List Int} (h : offB us bs = true) : (∀ k, k < bs.length → -16000 ≤ bs[k]?.getD 0 ∧ bs[k]?.getD 0 ≤ 16000) ∧ ∀ k, k < us.length → step us k = none → bs[k]?.getD 0 = 0 := by
  obtain ⟨_, h2, h3⟩ := offB_parts h
  constructor
  · intro k hk
    have := h3 k hk
    unfold okBy at this
    simp only [Bool.and_eq_true, decide_eq_true_eq] at this
    exact this.1
  · intro k hk hs
    have h4 := h3 k (by omega)
    unfold okBy at h4
    have hu : us[k]?.getD 0 = (k : Int) := by
      unfold step at hs
      split at hs
      · assumption
      · cases hs
    rw [decide_eq_true hu] at h4
    simp at h4
    exact h4.2
theorem overI_le {us bs : List Int} (h : offB us bs = true) {i : Nat} (hi : i < us.length) : -256000 ≤ overI us bs i ∧ overI us bs i ≤ 256000 := by
  obtain ⟨hv, _, _⟩ := offB_parts h
  obtain ⟨_, h16, _, hw⟩ := fv_parts hv
  have h1 := overL_le (offB_by h).1 (way us us.length i)
  have h2 := hw i hi
  unfold overI
  omega
set_option maxRecDepth 100000 in
set_option maxHeartbeats 2000000 in
theorem l5Over_any (A1 A2 : Option Addr) (n c1 c2 B0 i : Nat) (us bs : List Int) (w : World) (h1 : Rd w B0 A1 n us) (h2 : Rd w B0 A2 n bs) (hB0 : B0 ≤ w.heap.size) (hv : offB us bs = true) (hi : i < n) :
    Calls Try.prog 153 #[.agg #[.slice A1 n c1, .slice A2 n c2], .int .i64 (i : Int)] w fun e w' => e = .returned (.int .i64 (overI us bs i)) ∧ Below w.heap.size w w' := by
  obtain ⟨W, hW⟩ : ∃ W, W = w.alloc (.cells #[.slice A1 n c1, .slice A2 n c2] 92) := ⟨_, rfl⟩
  have hbW : Below w.heap.size w W := by rw [hW]; exact (Below.refl _ _).alloc (Nat.le_refl _) _
  have hA : W.heap[w.heap.size]? = some (.cells #[.slice A1 n c1, .slice A2 n c2] 92 (0, 0)) := by rw [hW]; exact World.alloc_heap_new w _
  obtain ⟨⟨k1, k2⟩, _⟩ := boxTwo_cells hA
  have h1W := h1.below hbW hB0
  have h2W := h2.below hbW hB0
  obtain ⟨hfv, hlen, _⟩ := offB_parts hv
  obtain ⟨hby, hroot⟩ := offB_by hv
  have l1 := h1.1
  have hP := fv_path hfv (i := i) (by omega)
  have hIn := fv_in hfv
  have h16 := (fv_parts hfv).2.1
  have hwl := (fv_parts hfv).2.2.2 i (by omega)
  obtain ⟨Y, hY⟩ : ∃ Y, Y = way us us.length i := ⟨_, rfl⟩
  have hov : overI us bs i = overL bs Y := by rw [hY]; rfl
  rw [← hY] at hP hwl
  rw [hov]
  have HB := Lib.hid hbW
  have HBY := Lib.hid (And.intro hby hroot)
  have HL := Lib.hid (And.intro hlen (And.intro h16 hwl))
  have hin : i < n := hi
  have hL : us.length ≤ n ∧ n ≤ us.length := ⟨by omega, by omega⟩
  obtain ⟨P, hPe⟩ : ∃ P, P = w.heap.size := ⟨_, rfl⟩
  have HE := Lib.hid (And.intro hW hPe)
  clear h1 h2 hB0 hv hi hbW hA hfv hlen hby hroot l1 h16 hwl hY hov
  rw [hW] at k1 k2
  clear hW hPe
  go_enter Try.func153, Try.ntmps153
  go_wp2
  rw [← HE.out.1, ← HE.out.2]
  rw [← HE.out.1, ← HE.out.2] at k1 k2
  go_loopg [1, 5] (Y.length) (fun m q o wr => ∃ (pre : List Nat) (x : Nat), q = .int .i64 (x : Int) ∧ o = .int .i64 (overL bs pre) ∧ Path us (some i) pre (some x) ∧ m + pre.length = Y.length ∧ wr = W)
  case atStart => exact ⟨[], i, rfl, rfl, rfl, by simp, rfl⟩
  case round =>
    obtain ⟨pre, x, rfl, rfl, hp, hm, rfl⟩ := hrel
    have hx : x < n := by have := path_lt hIn (fun j hj => by cases hj; omega) hp; omega
    obtain ⟨b, off, rfl, _, hc1⟩ := h1W.2 (by omega)
    obtain ⟨b2, off2, rfl, _, hc2⟩ := h2W.2 (by omega)
    have g1 := hc1 x hx
    have g2 := hc2 x hx
    have hxx : (x : Int) < (n : Int) := by omega
    clear hc1 hc2
    have hsn := path_snoc hp
    obtain ⟨s, hs⟩ : ∃ s, s = overL bs pre := ⟨_, rfl⟩
    obtain ⟨z, hz⟩ : ∃ z, z = bs[x]?.getD 0 := ⟨_, rfl⟩
    have hsl := overL_le HBY.out.1 pre
    have hzl : -16000 ≤ z ∧ z ≤ 16000 := by rw [hz]; exact HBY.out.1 x (by have := HL.out.1; omega)
    have hpl : pre.length ≤ 16 := by have := HL.out; omega
    have hsn2 := overL_snoc bs pre x
    rw [← hs] at hsl hsn2 ⊢
    rw [← hz] at g2 hsn2
    have s1 : -256000 ≤ s := by omega
    have s2 : s ≤ 256000 := by omega
    obtain ⟨z1, z2⟩ := hzl
    cases hst : step us x with
    | none =>
      rw [step_none hst] at g1
      rw [hst] at hsn
      have hz0 := HBY.out.2 x (by omega) hst
      have HF : Hid (overL bs Y = s) := by
        show _ = _
        rw [path_uniq hP hsn, hsn2]
        omega
      have hne : ((x : Int) != (x : Int)) = false := by simp
      clear hsn hp hst hm hs hz hsl hsn2 hz0 hpl
      go_wp2
      go_ret
      exact ⟨ret_int HF.out.symm, HB.out⟩
    | some y =>
      obtain ⟨hzz, hyx, hy⟩ := step_some hIn (by omega) hst
      rw [hzz] at g1
      rw [hst] at hsn
      have hne : ((y : Int) != (x : Int)) = true := by simp; omega
      have hle := path_end hP hsn
      rw [List.length_append] at hle
      have hm1 : 1 ≤ gk := by simp at hle; omega
      have HM := Lib.hid hm
      have HS2 := Lib.hid hsn2
      clear hzz hp hst hyx hle hm hs hz hsl hsn2 hpl
      go_wp2
      go_roundg (gk - 1)
      case measure => omega
      case rel => exact ⟨pre ++ [x], y, rfl, by rw [HS2.out], hsn, by rw [List.length_append]; have := HM.out; simp; omega, rfl⟩
end Go.Proofs.Ytafebdpcifmndaa
