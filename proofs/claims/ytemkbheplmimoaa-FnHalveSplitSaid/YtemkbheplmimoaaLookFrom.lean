/- The program's looking from several items: its parts and lookFrom. Condition: lengths up to 1048576. -/
import Derived.Test.YtemkbheplmimoaaLooking
import Derived.Test.YtemkbheplmimoaaTellL
import Derived.Laws.EntriesVeiled
namespace Go.Proofs.Ytemkbheplmimoaa
open Go.RowKit Go.Shelf

theorem nx_links {u : List Int} (hb : InB u) {x : Nat} (hx : x < u.length) : (nx u x : Int) = u[x]?.getD 0 := by
  have := hb x hx
  unfold nx
  omega
theorem link_any (N x : Nat) (u : List Int) (w : World) (hN : Nodes w N u) (hv : fvB u = true) (hx : x < u.length) :
    Calls Try.prog 135 #[.pointer (some (nadr N x))] w fun e w' => e = .returned (.int .i64 (nx u x : Int)) ∧ Below w.heap.size w w' := by
  obtain ⟨c1, c2⟩ := hN x hx
  have hl := nx_links (fv_in hv) hx
  cases hs : step u x with
  | none =>
    have e := step_none hs
    rw [hs, Option.map_none] at c2
    rw [e] at hl
    rw [hl]
    clear hN hs hl e
    unfold nadr
    go_enter Try.func135, Try.ntmps135
    go_wp2
    go_ret
    exact ⟨rfl, Below.refl _ _⟩
  | some y =>
    have e := step_some (fv_in hv) hx hs
    obtain ⟨d1, _⟩ := hN y e.2.2
    rw [hs, Option.map_some] at c2
    rw [e.1] at hl
    rw [hl]
    clear hN hs hl e
    unfold nadr at c2 ⊢
    go_enter Try.func135, Try.ntmps135
    go_wp2
    go_ret
    exact ⟨rfl, Below.refl _ _⟩
theorem links_all {u : List Int} (hb : InB u) : ((List.range u.length).map fun x : Nat => (nx u x : Int)) = u := by
  apply List.ext_getElem (by simp)
  intro i h1 h2
  have := nx_links hb h2
  rw [List.getElem?_eq_getElem h2, Option.getD_some] at this
  simp [this]
set_option maxRecDepth 100000 in
set_option maxHeartbeats 2000000 in
theorem toldLink_any (N n c : Nat) (zs : List Int) (w : World) (hN : Nodes w N zs) (hB : N < w.heap.size) (hv : fvB zs = true) (hn : n = zs.length) :
    Calls Try.prog 126 #[.slice (some ⟨N, 0, none⟩) n c, .func (.func 135) #[] #[]] w fun e w' => ∃ g k, e = .returned (.slice (some g) n k) ∧ Own w' w.heap.size (.slice (some g) n k) zs ∧ Below w.heap.size w w' := by
  have h16 : n ≤ 16 := by have := (fv_parts hv).2.1; omega
  have R := Lib.hid (fun (w1 : World) (hb : Below w.heap.size w w1) (k : Nat) (hk : k < n) => link_any N k zs w1 (hN.below hb hB) hv (by omega))
  have HN := Lib.hid hn
  have HL := Lib.hid (links_all (fv_in hv))
  obtain ⟨i0, hi, hz0, hz1, hz2⟩ := info_parts Try.info_int
  clear hN hv hn hB
  go_enter Try.func126, Try.ntmps126
  go_wp2_with (at_make; go_must (refine wpList_make_full _ rfl _ _ 23 rfl w.heap.size 3 i0 (.int .i64 0) 1 Try.underlying23 hi hz0 hz1 .i64 .i64 _ _ n rfl rfl rfl rfl (by rw [hz2]; omega) (by unfold maxLen; omega) (Nat.le_refl _) ?_); intro w1 hown hgrow; have hb1 : Below w.heap.size w w1 := (Below.refl _ w).grown hgrow (Nat.le_refl _) (fun k e => by cases e))
  have H0 : Hid (Own w1 w.heap.size (.slice (some ⟨w.heap.size, 0, none⟩) n n) (tellL (nx zs) n 0)) := by
    rw [tellL_zero]
    exact Own.made hown
  clear hown hgrow hi hz0 hz1 hz2
  go_loopw [12] (fun i wr => ∃ k : Nat, k ≤ n ∧ i = .int .i64 k ∧ Hid (Own wr w.heap.size (.slice (some ⟨w.heap.size, 0, none⟩) n n) (tellL (nx zs) n k)) ∧ Below w.heap.size w wr) (fun i _ => n - (intOf i).toNat)
  case atStart => exact ⟨0, Nat.zero_le _, rfl, H0, hb1⟩
  case round =>
    obtain ⟨k, hk, rfl, HO, hbe⟩ := hrel
    clear H0 hb1
    by_cases hlt : k < n
    · have RR := Lib.hid (R.out wr hbe k hlt)
      unfold nadr at RR
      go_wp2_with fail
      refine RR.out.mono ?_
      rintro e w2 ⟨rfl, hb2⟩
      have hO2 := HO.out.keep hb2 (Nat.le_refl _)
      have hbe2 := hbe.trans (hb2.mono hbe.size)
      have hsl := hO2.slot hlt
      have hfr := hO2.free k
      have hns := hO2.set_ k (nx zs k : Int)
      rw [tellL_set (nx zs) hlt] at hns
      have HNS := Lib.hid hns
      have hb3 := Lib.hid (hbe2.setCell (p := ⟨w.heap.size, k, none⟩) (Nat.le_refl _) (.int .i64 (nx zs k : Int)))
      clear hns hO2 HO hbe2 hb2
      go_wp2
      go_roundw
      case rel => exact ⟨k + 1, by omega, by go_num, HNS, hb3.out⟩
      case measure => simp [intOf]; omega
    · obtain rfl : k = n := by omega
      go_wp2
      go_ret
      refine ⟨_, _, rfl, ?_, hbe⟩
      have := HO.out
      rw [tellL_all, HN.out, HL.out] at this
      rw [HN.out]
      exact this

/-- What a way of looking changes, as a function value. -/
def shortV (l : Int) : Value := if inLook l = true then .func (.func (shortF l)) #[] #[] else .nilFunc
set_option maxRecDepth 100000 in
set_option maxHeartbeats 1000000 in
theorem shorteningFor_any (l : Int) (w : World) : Calls Try.prog 128 #[.int .i64 l] w fun e w' => e = .returned (shortV l) ∧ Below w.heap.size w w' := by
  by_cases h0 : l < 0
  · have e : shortV l = .nilFunc := by
      unfold shortV inLook
      rw [if_neg]
      simp
      omega
    rw [e]
    go_enter Try.func128, Try.ntmps128
    go_wp2
    go_ret
    exact ⟨rfl, (Below.refl _ w).alloc (Nat.le_refl _) _⟩
  · by_cases h4 : 4 ≤ l
    · have e : shortV l = .nilFunc := by
        unfold shortV inLook
        rw [if_neg]
        simp
        omega
      rw [e]
      go_enter Try.func128, Try.ntmps128
      go_wp2
      go_ret
      exact ⟨rfl, (Below.refl _ w).alloc (Nat.le_refl _) _⟩
    · rcases (show l = 0 ∨ l = 1 ∨ l = 2 ∨ l = 3 by omega) with rfl | rfl | rfl | rfl
      all_goals
        go_enter Try.func128, Try.ntmps128
        go_wp2
        go_ret
        exact ⟨rfl, (Below.refl _ w).alloc (Nat.le_refl _) _⟩
end Go.Proofs.Ytemkbheplmimoaa
