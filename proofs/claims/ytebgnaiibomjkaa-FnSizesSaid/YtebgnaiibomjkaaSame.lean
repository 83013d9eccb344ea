/- SameClasses: the program's answer, by rows, is the model's, by roots. Condition: lengths up to 1048576. -/
import Derived.Test.YtebgnaiibomjkaaSpec2
import Derived.Test.YtebgnaiibomjkaaForest
import Derived.Test.YtebgnaiibomjkaaClasses
import Derived.Test.YtebgnaiibomjkaaEqRows
namespace Go.Proofs.Ytebgnaiibomjkaa
open Go.RowKit

/-- Are the items i and k of both forests together alike? -/
def likeB (xs ys : List Int) (i k : Nat) : Bool := ((rootI xs i : Int) == (rootI xs k : Int)) == ((rootI ys i : Int) == (rootI ys k : Int))
/-- What SameClasses answers: both valid, as long, all pairs together alike. -/
def sameN (xs ys : List Int) : Bool := fvB xs && fvB ys && decide (xs.length = ys.length) && (List.range xs.length).all fun i => (List.range i).all fun k => likeB xs ys i k
theorem sameN_no1 {xs ys : List Int} (h : fvB xs = false) : sameN xs ys = false := by unfold sameN; rw [h]; rfl
theorem sameN_no2 {xs ys : List Int} (h : fvB ys = false) : sameN xs ys = false := by unfold sameN; rw [h]; simp
theorem sameN_no3 {xs ys : List Int} (h : xs.length ≠ ys.length) : sameN xs ys = false := by unfold sameN; simp [h]
theorem sameN_no {xs ys : List Int} {i k : Nat} (hi : i < xs.length) (hk : k < i) (h : likeB xs ys i k = false) : sameN xs ys = false := by
  unfold sameN
  rw [Bool.and_eq_false_iff]
  right
  rw [List.all_eq_false]
  refine ⟨i, by simpa using hi, ?_⟩
  rw [Bool.not_eq_true, List.all_eq_false]
  exact ⟨k, by simpa using hk, by simp [h]⟩
theorem sameN_yes {xs ys : List Int} (h1 : fvB xs = true) (h2 : fvB ys = true) (h3 : xs.length = ys.length) (h : ∀ i k, i < xs.length → k < i → likeB xs ys i k = true) : sameN xs ys = true := by
  unfold sameN
  rw [h1, h2]
  simp only [h3, decide_true, Bool.and_self, Bool.true_and, List.all_eq_true, List.mem_range]
  intro i hi k hk
  exact h i k (by omega) hk

end Go.Proofs.Ytebgnaiibomjkaa
namespace Go.Proofs.Ytebgnaiibomjkaa
open Go.RowKit
theorem mem_cls_lt {up : List Int} {r : Int} {i k : Nat} (h : (i : Int) ∈ cls up r k) : i < k ∧ (rootI up i : Int) = r := by
  unfold cls at h
  obtain ⟨x, hx, e⟩ := List.mem_map.1 h
  have h2 := List.mem_filter.1 hx
  have : x = i := by omega
  subst this
  exact ⟨by simpa using h2.1, by simpa using h2.2⟩
theorem mem_rows {up : List Int} {i : Nat} {R : List Int} (hR : R ∈ rowsTo up up.length) (hi : (i : Int) ∈ R) : i < up.length ∧ R = cls up (rootI up i : Int) up.length := by
  unfold rowsTo at hR
  obtain ⟨j, _, rfl⟩ := List.mem_map.1 hR
  obtain ⟨h1, h2⟩ := mem_cls_lt hi
  exact ⟨h1, by rw [h2]⟩
theorem row_of {up : List Int} {i : Nat} (hi : i < up.length) : cls up (rootI up i : Int) up.length ∈ rowsTo up up.length := by
  have hne : cls up (rootI up i : Int) up.length ≠ [] := fun e => by have := cls_self hi; rw [e] at this; simp at this
  obtain ⟨h1, h2, h3⟩ := first_mem hne
  unfold rowsTo
  refine List.mem_map.2 ⟨firstOf up (rootI up i : Int), ?_, by rw [h2]⟩
  rw [mem_heads]
  exact ⟨h1, by rw [h2]; exact h3⟩
theorem same_row {up : List Int} {i k : Nat} (hi : i < up.length) (hk : k < up.length) : rootI up i = rootI up k ↔ ∃ R ∈ rowsTo up up.length, (i : Int) ∈ R ∧ (k : Int) ∈ R := by
  constructor
  · intro e
    exact ⟨_, row_of hi, (mem_cls hi).2 rfl, (mem_cls hk).2 (by rw [e])⟩
  · rintro ⟨R, hR, h1, h2⟩
    have e1 := (mem_rows hR h1).2
    rw [e1, mem_cls hk] at h2
    omega
theorem in_row {up : List Int} {i : Nat} : (∃ R ∈ rowsTo up up.length, (i : Int) ∈ R) ↔ i < up.length := by
  constructor
  · rintro ⟨R, hR, h1⟩
    exact (mem_rows hR h1).1
  · intro hi
    exact ⟨_, row_of hi, (mem_cls hi).2 rfl⟩
theorem like_iff {xs ys : List Int} {i k : Nat} : likeB xs ys i k = true ↔ (rootI xs i = rootI xs k ↔ rootI ys i = rootI ys k) := by
  unfold likeB
  have e : ∀ a b : Nat, ((a : Int) == (b : Int)) = decide (a = b) := fun a b => by rw [Bool.eq_iff_iff, beq_iff_eq, decide_eq_true_iff]; omega
  rw [e, e, beq_iff_eq, decide_eq_decide]
theorem rows_same {xs ys : List Int} (h : rowsTo xs xs.length = rowsTo ys ys.length) : xs.length = ys.length ∧ ∀ i k, i < xs.length → k < xs.length → likeB xs ys i k = true := by
  have hl : ∀ i, i < xs.length ↔ i < ys.length := fun i => by rw [← in_row, ← in_row, h]
  have hn : xs.length = ys.length := by
    have h1 := hl xs.length
    have h2 := hl ys.length
    omega
  refine ⟨hn, fun i k hi hk => like_iff.2 ?_⟩
  rw [same_row hi hk, h, same_row (by omega) (by omega)]
theorem same_rows {xs ys : List Int} (hn : xs.length = ys.length) (h : ∀ i k, i < xs.length → k < xs.length → likeB xs ys i k = true) : rowsTo xs xs.length = rowsTo ys ys.length := by
  have hc : ∀ i, i < xs.length → cls xs (rootI xs i : Int) xs.length = cls ys (rootI ys i : Int) ys.length := fun i hi => by
    unfold cls
    rw [← hn]
    congr 1
    refine List.filter_congr fun j hj => ?_
    have hj' : j < xs.length := by simpa using hj
    have := like_iff.1 (h j i hj' hi)
    rw [Bool.eq_iff_iff, beq_iff_eq, beq_iff_eq]
    omega
  have hh : heads xs xs.length = heads ys ys.length := by
    unfold heads
    rw [← hn]
    refine List.filter_congr fun j hj => ?_
    have hj' : j < xs.length := by simpa using hj
    have := hc j hj'
    rw [← hn] at this
    rw [this]
  unfold rowsTo
  rw [hh]
  refine List.map_congr_left fun i hi => ?_
  rw [← hh, mem_heads] at hi
  exact hc i hi.1
/-- What the program's SameClasses answers, is what the model's does. -/
theorem same_answer (xs ys : List Int) : (fvB xs && fvB ys && decide (rowsN xs = rowsN ys)) = sameN xs ys := by
  cases h1 : fvB xs with
  | false => rw [sameN_no1 h1]; rfl
  | true =>
    cases h2 : fvB ys with
    | false => rw [sameN_no2 h2]; rfl
    | true =>
      rw [rowsN_yes h1, rowsN_yes h2]
      show decide (rowsTo xs xs.length = rowsTo ys ys.length) = sameN xs ys
      by_cases h : rowsTo xs xs.length = rowsTo ys ys.length
      · obtain ⟨h3, h4⟩ := rows_same h
        rw [sameN_yes h1 h2 h3 fun i k hi hk => h4 i k hi (by omega)]
        simp [h]
      · have hf : decide (rowsTo xs xs.length = rowsTo ys ys.length) = false := by simp [h]
        rw [hf]
        cases hs : sameN xs ys with
        | false => rfl
        | true =>
          refine absurd ?_ h
          unfold sameN at hs
          simp only [Bool.and_eq_true, decide_eq_true_eq, List.all_eq_true, List.mem_range] at hs
          obtain ⟨⟨_, h3⟩, h4⟩ := hs
          refine same_rows h3 fun i k hi hk => ?_
          rcases Nat.lt_trichotomy i k with hlt | rfl | hlt
          · have := like_iff.1 (h4 k hk i hlt)
            exact like_iff.2 ⟨fun e => (this.1 e.symm).symm, fun e => (this.2 e.symm).symm⟩
          · exact like_iff.2 ⟨fun _ => rfl, fun _ => rfl⟩
          · exact h4 i hi k hlt
theorem rowsN_big (up : List Int) : (rowsN up).length ≤ 16 ∧ ∀ zs ∈ rowsN up, zs.length ≤ 1048576 := by
  cases hv : fvB up with
  | false => rw [rowsN_no hv]; simp
  | true =>
    rw [rowsN_yes hv]
    have h1 := rowsTo_len up up.length
    have h2 := (fv_parts hv).2.1
    refine ⟨by omega, fun zs hz => ?_⟩
    unfold rowsTo at hz
    obtain ⟨i, _, rfl⟩ := List.mem_map.1 hz
    have := cls_len up (rootI up i : Int) up.length
    omega

set_option maxRecDepth 100000 in
set_option maxHeartbeats 1000000 in
theorem sameOf_any (A : Option Addr) (n c B0 : Nat) (xs : List Int) (A' : Option Addr) (n' c' B0' : Nat) (ys : List Int) (w : World) (h : Rd w B0 A n xs) (hB0 : B0 ≤ w.heap.size) (hb : n ≤ 1048576) (h' : Rd w B0' A' n' ys) (hB0' : B0' ≤ w.heap.size) (hb' : n' ≤ 1048576) :
    Calls Try.prog 79 #[.slice A n c, .slice A' n' c', .func (.func 34) #[] #[], .func (.func 80) #[] #[]] w fun e w' => e = .returned (.bool (sameN xs ys)) ∧ Below w.heap.size w w' := by
  have C1 := implClasses_any A n c B0 xs w h hB0 hb
  have C2 := fun (w1 : World) (hb1 : Below w.heap.size w w1) => implClasses_any A' n' c' B0' ys w1 (h'.below hb1 hB0') (Nat.le_trans hB0' hb1.size) hb'
  have HS := Lib.hid (same_answer xs ys)
  obtain ⟨s1, b1⟩ := rowsN_big xs
  obtain ⟨s2, b2⟩ := rowsN_big ys
  revert C1 C2 HS s1 b1 s2 b2
  generalize rowsN xs = xss
  generalize rowsN ys = yss
  generalize sameN xs ys = r
  intro C1 C2 HS s1 b1 s2 b2
  have HB1 := Lib.hid b1
  have HB2 := Lib.hid b2
  cases e1 : fvB xs <;> cases e2 : fvB ys
  all_goals
    rw [e1] at C1
    rw [e2] at C2
    have HS := HS.out
    rw [e1, e2] at HS
    have HS := Lib.hid HS
    have C1 := Lib.hid C1
    have C2 := Lib.hid C2
    clear e1 e2 h h' b1 b2
    go_enter Try.func79, Try.ntmps79
    go_wp2_with fail
    refine C1.out.mono ?_
    rintro e w1 ⟨v1, vs1, rfl, ho1, hb1⟩
    obtain ⟨A1, c1, rfl, hr1⟩ := ho1.form HB1.out
    clear ho1
    go_wp2_with fail
    refine (C2.out w1 hb1).mono ?_
    rintro e w2 ⟨v2, vs2, rfl, ho2, hb2⟩
    obtain ⟨A2, c2, rfl, hr2⟩ := ho2.form HB2.out
    have hr1 := hr1.below hb2 (Nat.le_refl _)
    have hb3 := hb1.trans (hb2.mono hb1.size)
    clear ho2 hb1 hb2
    have EF := Lib.hid (equalFunc_any A1 A2 xss.length c1 yss.length c2 _ _ xss yss w2 hr1 hr2 (by omega) (by omega))
    go_wp2_with fail
  all_goals first
    | (go_ret; exact ⟨ret_bool HS.out, hb3⟩)
    | (refine EF.out.mono ?_
       rintro e w3 ⟨rfl, q, rfl⟩
       go_wp2_with fail
       go_ret
       exact ⟨ret_bool HS.out, below_drewN hb3 q⟩)

set_option maxRecDepth 100000 in
set_option maxHeartbeats 1000000 in
theorem implSame_any (A : Option Addr) (n c B0 : Nat) (xs : List Int) (A' : Option Addr) (n' c' B0' : Nat) (ys : List Int) (w : World) (h : Rd w B0 A n xs) (hB0 : B0 ≤ w.heap.size) (hb : n ≤ 1048576) (h' : Rd w B0' A' n' ys) (hB0' : B0' ≤ w.heap.size) (hb' : n' ≤ 1048576) :
    Calls Try.prog 27 #[.slice A n c, .slice A' n' c'] w fun e w' => e = .returned (.bool (sameN xs ys)) ∧ Below w.heap.size w w' := by
  have S := Lib.hid (sameOf_any A n c B0 xs A' n' c' B0' ys w h hB0 hb h' hB0' hb')
  go_enter Try.func27, Try.ntmps27
  go_wp2_with fail
  refine S.out.mono ?_
  rintro e w1 ⟨rfl, hb1⟩
  go_wp2_with fail
  go_ret
  exact ⟨rfl, hb1⟩
end Go.Proofs.Ytebgnaiibomjkaa
