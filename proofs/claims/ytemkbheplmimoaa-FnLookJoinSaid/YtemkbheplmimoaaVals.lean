/- The values of a map from ints to slices of ints, as the library's maps.Values ranges over them: each value once, in some order. Condition: the map reads whole. -/
import Derived.Test.YtemkbheplmimoaaClass
import Derived.Test.YtemkbheplmimoaaIter
import Derived.RangeFuncMany
import Derived.RangeFuncLeaves
import Derived.Sort.MapsRangeIn
import Derived.Sort.KeysCollected
import Derived.OwnWalkIn
import Derived.TacticsInMore
import Derived.RegionIn
import Derived.LoopNIn
import Derived.LoopIn
namespace Go.Proofs.Ytemkbheplmimoaa
open Go.RowKit Go.Maps Go.Sort Go.Shelf Go.ChangeShapes
attribute [local go_sem] Oper.semAt_some

/-- A slice value by its parts. -/
def slV (s : Option Addr × Nat × Nat) : Value := .slice s.1 s.2.1 s.2.2
/-- How the map's elements read. -/
abbrev Reads := Value → Option (DataW Unit × List MemPlace)
/-- The pair's second is the map's value at its first. -/
def ValAt (D0 : DataW Unit) (R : Reads) (p : Int × (Option Addr × Nat × Nat)) : Prop := ∃ y, R (slV p.2) = some y ∧ ∀ zd, D0.atKey (.int .i64 p.1) zd = y.1
/-- The keys met so far. -/
def Met (D0 : DataW Unit) (left : Lit → Bool) (ks : List Int) : Prop := ks.Nodup ∧ ∀ x, x ∈ ks ↔ (has D0 (.int .i64 x) = true ∧ left (.int .i64 x) = false)
theorem Met.start (D0 : DataW Unit) : Met D0 (has D0) [] := ⟨List.nodup_nil, fun x => by cases has D0 (.int .i64 x) <;> simp⟩
theorem Met.step {D0 : DataW Unit} {left : Lit → Bool} {ks : List Int} (h : Met D0 left ks) {x : Int} {y : DataW Unit} (hlk : left (.int .i64 x) = true) (hat : ∀ zd, D0.atKey (.int .i64 x) zd = y) : Met D0 (fun z => left z && !z.sameKey (.int .i64 x)) (ks ++ [x]) := by
  have hhas : has D0 (.int .i64 x) = true := has_true_of_atKey hat
  have hnew : x ∉ ks := fun hx => by have := ((h.2 x).1 hx).2; rw [hlk] at this; cases this
  refine ⟨List.nodup_append.2 ⟨h.1, by simp, fun a ha b hb => by simp at hb; subst hb; exact fun e => hnew (e ▸ ha)⟩, fun y => ?_⟩
  by_cases hy : y = x
  · subst hy; simp [hhas, Lit.sameKey]
  · simp [h.2 y, hy, Lit.sameKey]
/-- All have come; a part has come. -/
def AllVals (D0 : DataW Unit) (R : Reads) (ps : List (Int × (Option Addr × Nat × Nat))) : Prop := (ps.map (·.1)).Nodup ∧ (∀ x, x ∈ ps.map (·.1) ↔ has D0 (.int .i64 x) = true) ∧ ∀ p ∈ ps, ValAt D0 R p
def PartVals (D0 : DataW Unit) (R : Reads) (ps : List (Int × (Option Addr × Nat × Nat))) : Prop := ps.length ≤ Maps.size D0 ∧ (ps.map (·.1)).Nodup ∧ ∀ p ∈ ps, ValAt D0 R p

set_option maxRecDepth 100000 in
set_option maxHeartbeats 1000000 in
theorem values1_in (F : Fence) (n : Nat) (hf : F.fn 145) (hro : F.round = none) (_hn : 1 ≤ n) (l Bm b nn : Nat) (D0 : DataW Unit) (R : Reads) (hR0 : ∀ v y, R v = some y → ∃ c, v = slV c) (J Jx : List (Int × (Option Addr × Nat × Nat)) → World → Prop)
    (hY : ∀ pre x W, J pre W → pre.length < Maps.size D0 → YieldAt F (n - 1) Try.prog l #[slV x.2] W fun e W' =>
      (e = .returned (.bool true) ∧ J (pre ++ [x]) W' ∧ KeepsWalks W W') ∨ (e = .returned (.bool false) ∧ Jx (pre ++ [x]) W'))
    (W : World) (hJ : AbidesFrom W.heap.size J) (hm : W.cell? ⟨Bm, 0, none⟩ = some (.map (some b))) (hown : W.ownsMap Try.prog 3 R b nn D0) (h0 : J [] W) :
    CallsIn F n Try.prog 145 #[.func (.yield l) #[] #[], .pointer (some ⟨Bm, 0, none⟩)] W fun e W' => (∃ v, e = .returned v) ∧
      ((∃ ps, AllVals D0 R ps ∧ J ps W') ∨ (∃ pre, PartVals D0 R pre ∧ Jx pre W')) := by
  have HK : Keyed Try.prog 3 := int_keyed Try.underlying3
  refine callsIn_of_wp Try.func145 rfl hf ?_ hro
  simp only [Try.ntmps145, List.size_toArray, List.length_cons, List.length_nil, Nat.reduceAdd, Nat.reduceSub, Array.replicate_succ, Array.replicate_zero, List.push_toArray, List.append_toArray, List.nil_append, List.cons_append]
  gi_wp2_with (first
    | (gi_at_range; refine wpListIn_range_own _ rfl _ 90 rfl 3 23 HK Try.underlying90 _ b nn _ rfl hown ?_; intro w0 hrg0 hg0 hs0)
    | gi_in)
  go_frame
  gi_loopw [4] (fun _ wr => ∃ (left : Lit → Bool) (cnt : Nat) (ps : List (Int × (Option Addr × Nat × Nat))), wr.ranges Try.prog 3 R b W.heap.size nn D0 left cnt ∧ ps.length + cnt ≤ Maps.size D0 ∧ Met D0 left (ps.map (·.1)) ∧ (∀ p ∈ ps, ValAt D0 R p) ∧ J ps wr)
    (fun _ wr => wr.rangeLeft b W.heap.size)
  case atStart =>
    exact ⟨_, _, [], hrg0, by simp, Met.start D0, by simp, hJ [] W w0 none h0 hg0 (fun r e => by cases e)⟩
  case round =>
    obtain ⟨left, cnt, ps, hrg, hcs, hC, hV, hJs⟩ := hrel
    gi_wp2_with (first
      | (gi_at_next; refine wpListIn_next_ranges _ rfl _ rfl 3 HK R (Value.int .i64) slV (fun key kl hk => by obtain ⟨x, hx, _⟩ := Maps.keyOf_int_inv Try.underlying3 hk; exact ⟨x, hx⟩) hR0 b W.heap.size nn _ _ _ rfl hrg ?_ ?_)
      | gi_in)
    · intro hc0 hl0
      gi_wp2
      go_end0
      exact ⟨⟨_, rfl⟩, .inl ⟨ps, ⟨hC.1, fun x => by rw [hC.2 x, hl0]; simp, hV⟩, hJs⟩⟩
    · intro x A m cc kl yd yp w2 cnt2 hkey hlk hv hat hrg2 hlt hg2 hs2 hen
      obtain ⟨x', ex, rfl, _⟩ := Maps.keyOf_int_inv Try.underlying3 hkey
      obtain rfl : x = x' := by simpa using ex
      have hJ2 : J ps w2 := hJ ps wr w2 (some W.heap.size) hJs hg2 (fun r e => by cases e; exact ⟨Nat.le_refl _, hrg.iter_walk⟩)
      obtain ⟨fn, tmps, assign, body, hy, hR⟩ := hY ps (x, (A, m, cc)) w2 hJ2 (by omega)
      have hC2 : Met D0 (fun z => left z && !z.sameKey (.int .i64 x)) ((ps ++ [(x, (A, m, cc))]).map (·.1)) := by simpa using hC.step hlk hat
      have hV2 : ∀ p ∈ ps ++ [(x, (A, m, cc))], ValAt D0 R p := fun p hp => (List.mem_append.1 hp).elim (hV p) (fun e => by simp at e; subst e; exact ⟨_, hv, hat⟩)
      unfold slV at hen hy
      clear hs2
      gi_wp2
      refine hR.mono ?_
      rintro e W3 (⟨rfl, hJ3, hk3⟩ | ⟨rfl, hJx3⟩)
      · gi_wp2
        have hrg3 := hrg2.of_walks hk3
        go_roundw
        case rel => exact ⟨_, cnt2, ps ++ [(x, (A, m, cc))], hrg3, by simp; omega, hC2, hV2, hJ3⟩
        case measure => rw [hrg3.left_eq, hrg.left_eq]; exact hlt
      · gi_wp2
        refine bodyPost_ret (results_none rfl _ _ _) rfl ?_
        exact ⟨⟨_, rfl⟩, .inr ⟨ps ++ [(x, (A, m, cc))], ⟨by simp; omega, hC2.1, hV2⟩, hJx3⟩⟩

/-- maps.Values hands such an iterator. -/
theorem vals_seq (F : Fence) (n : Nat) (hf : F.fn 145) (hro : F.round = none) (hn : 1 ≤ n) (Bm b nn : Nat) (D0 : DataW Unit) (R : Reads) (hR0 : ∀ v y, R v = some y → ∃ c, v = slV c) (w : World) (hBm : Bm < w.heap.size) (hm : w.cell? ⟨Bm, 0, none⟩ = some (.map (some b))) (hown : w.ownsMap Try.prog 3 R b nn D0) :
    SeqOf F n Try.prog 145 #[.pointer (some ⟨Bm, 0, none⟩)] (fun p : Int × (Option Addr × Nat × Nat) => #[slV p.2]) KeepsWalks (AllVals D0 R) (fun pre => pre.length ≤ Maps.size D0) (Maps.size D0) w := fun l J Jx W hW hJ _ _ hY h0 => by
  have hown' : W.ownsMap Try.prog 3 R b nn D0 := by
    have hbl := hown.lt
    obtain ⟨es, clock, hb, Ft, hs, hD⟩ := hown
    exact ⟨es, clock, (hW.block b hbl).trans hb, Ft, hs, hD⟩
  refine (values1_in F n hf hro hn l Bm b nn D0 R hR0 J Jx (fun pre x W1 hJ1 hl => hY pre x W1 hJ1 (by simp; omega)) W hJ ((hW.cell (p := ⟨Bm, 0, none⟩) hBm).trans hm) hown' h0).mono ?_
  rintro e W' ⟨hv, ⟨ps, h1, h2⟩ | ⟨pre, h1, h2⟩⟩
  · exact ⟨hv, .inl ⟨ps, h1, h2⟩⟩
  · exact ⟨hv, .inr ⟨pre, h1.1, h2⟩⟩
end Go.Proofs.Ytemkbheplmimoaa
