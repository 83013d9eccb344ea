/- The program's ClassesOf: the map's values, collected and sorted. Condition: lengths up to 1048576; the library's sort lies in this program under the numbers of the library's proofs (SortLay). -/
import Derived.Test.YtebgnaiibomjkaaClass
import Derived.Test.YtebgnaiibomjkaaIter
import Derived.RangeFuncMany
import Derived.RangeFuncLeaves
import Derived.Sort.MapsRangeIn
import Derived.Sort.KeysCollected
import Derived.OwnWalkIn
import Derived.TacticsInMore
import Derived.RegionIn
import Derived.LoopNIn
import Derived.LoopIn
import Derived.Test.YtebgnaiibomjkaaImpl
import Derived.Test.YtebgnaiibomjkaaSpecClasses
import Derived.Test.YtebgnaiibomjkaaHelp
import Derived.IntWalk
import Derived.Shelf.SlSortCmp.Whole1
import Derived.Sort.OwnSorted
import Derived.Test.YtebgnaiibomjkaaSortLay
import Derived.Test.YtebgnaiibomjkaaHang
import Derived.Maps.OwnSet
import Derived.Outline
namespace Go.Proofs.Ytebgnaiibomjkaa
open Go.RowKit Go.Maps Go.Sort Go.Shelf Go.ChangeShapes
attribute [local go_sem] Oper.semAt_some

/-- A slice value by its parts. -/
def slV (s : Option Addr × Nat × Nat) : Value := .slice s.1 s.2.1 s.2.2
/-- How the map's elements read. -/
abbrev Reads := Value → Option (DataW Unit × List MemPlace)
/-- The pair's second is the map's value at its first. -/
def ValAt (D0 : DataW Unit) (R : Reads) (p : Int × (Option Addr × Nat × Nat)) : Prop := ∃ y, R (slV p.2) = some y ∧ ∀ zd, D0.atKey (.int .i64 p.1) zd = y.1
/-- The keys met so far. -/
def Met (D0 : DataW Unit) (left : Lit → Bool) (ks : List Int) : Prop := ks.Nodup ∧ ∀ x, x ∈ ks ↔ (has D0 (.int .i64 x) = true ∧ left (.int .i64 x) = false)
theorem Met.start (D0 : DataW Unit) : Met D0 (has D0) [] := ⟨List.nodup_nil, fun x => by cases has D0 (.int .i64 x) <;> simp⟩
theorem Met.step {D0 : DataW Unit} {left : Lit → Bool} {ks : List Int} (h : Met D0 left ks) {x : Int} {y : DataW Unit} (hlk : left (.int .i64 x) = true) (hat : ∀ zd, D0.atKey (.int .i64 x) zd = y) : Met D0 (fun z => left z && !z.sameKey (.int .i64 x)) (ks ++ [x]) := by
  have hhas : has D0 (.int .i64 x) = true := has_true_of_atKey hat
  have hnew : x ∉ ks := fun hx => by have := ((h.2 x).1 hx).2; rw [hlk] at this; cases this
  refine ⟨List.nodup_append.2 ⟨h.1, by simp, fun a ha b hb => by simp at hb; subst hb; exact fun e => hnew (e ▸ ha)⟩, fun y => ?_⟩
  by_cases hy : y = x
  · subst hy; simp [hhas, Lit.sameKey]
  · simp [h.2 y, hy, Lit.sameKey]
/-- All have come; a part has come. -/
def AllVals (D0 : DataW Unit) (R : Reads) (ps : List (Int × (Option Addr × Nat × Nat))) : Prop := (ps.map (·.1)).Nodup ∧ (∀ x, x ∈ ps.map (·.1) ↔ has D0 (.int .i64 x) = true) ∧ ∀ p ∈ ps, ValAt D0 R p
def PartVals (D0 : DataW Unit) (R : Reads) (ps : List (Int × (Option Addr × Nat × Nat))) : Prop := ps.length ≤ Maps.size D0 ∧ (ps.map (·.1)).Nodup ∧ ∀ p ∈ ps, ValAt D0 R p

set_option maxRecDepth 100000 in
set_option maxHeartbeats 1000000 in
theorem values1_in (F : Fence) (n : Nat) (hf : F.fn 115) (hro : F.round = none) (_hn : 1 ≤ n) (l Bm b nn : Nat) (D0 : DataW Unit) (R : Reads) (hR0 : ∀ v y, R v = some y → ∃ c, v = slV c) (J Jx : List (Int × (Option Addr × Nat × Nat)) → World → Prop)
    (hY : ∀ pre x W, J pre W → pre.length < Maps.size D0 → YieldAt F (n - 1) Try.prog l #[slV x.2] W fun e W' =>
      (e = .returned (.bool true) ∧ J (pre ++ [x]) W' ∧ KeepsWalks W W') ∨ (e = .returned (.bool false) ∧ Jx (pre ++ [x]) W'))
    (W : World) (hJ : AbidesFrom W.heap.size J) (hm : W.cell? ⟨Bm, 0, none⟩ = some (.map (some b))) (hown : W.ownsMap Try.prog 3 R b nn D0) (h0 : J [] W) :
    CallsIn F n Try.prog 115 #[.func (.yield l) #[] #[], .pointer (some ⟨Bm, 0, none⟩)] W fun e W' => (∃ v, e = .returned v) ∧
      ((∃ ps, AllVals D0 R ps ∧ J ps W') ∨ (∃ pre, PartVals D0 R pre ∧ Jx pre W')) := by
  have HK : Keyed Try.prog 3 := int_keyed Try.underlying3
  refine callsIn_of_wp Try.func115 rfl hf ?_ hro
  simp only [Try.ntmps115, List.size_toArray, List.length_cons, List.length_nil, Nat.reduceAdd, Nat.reduceSub, Array.replicate_succ, Array.replicate_zero, List.push_toArray, List.append_toArray, List.nil_append, List.cons_append]
  gi_wp2_with (first
    | (gi_at_range; refine wpListIn_range_own _ rfl _ 82 rfl 3 23 HK Try.underlying82 _ b nn _ rfl hown ?_; intro w0 hrg0 hg0 hs0)
    | gi_in)
  go_frame
  gi_loopw [4] (fun _ wr => ∃ (left : Lit → Bool) (cnt : Nat) (ps : List (Int × (Option Addr × Nat × Nat))), wr.ranges Try.prog 3 R b W.heap.size nn D0 left cnt ∧ ps.length + cnt ≤ Maps.size D0 ∧ Met D0 left (ps.map (·.1)) ∧ (∀ p ∈ ps, ValAt D0 R p) ∧ J ps wr)
    (fun _ wr => wr.rangeLeft b W.heap.size)
  case atStart =>
    exact ⟨_, _, [], hrg0, by simp, Met.start D0, by simp, hJ [] W w0 none h0 hg0 (fun r e => by cases e)⟩
  case round =>
    obtain ⟨left, cnt, ps, hrg, hcs, hC, hV, hJs⟩ := hrel
    gi_wp2_with (first
      | (gi_at_next; refine wpListIn_next_ranges _ rfl _ rfl 3 HK R (Value.int .i64) slV (fun key kl hk => by obtain ⟨x, hx, _⟩ := Maps.keyOf_int_inv Try.underlying3 hk; exact ⟨x, hx⟩) hR0 b W.heap.size nn _ _ _ rfl hrg ?_ ?_)
      | gi_in)
    · intro hc0 hl0
      gi_wp2
      go_end0
      exact ⟨⟨_, rfl⟩, .inl ⟨ps, ⟨hC.1, fun x => by rw [hC.2 x, hl0]; simp, hV⟩, hJs⟩⟩
    · intro x A m cc kl yd yp w2 cnt2 hkey hlk hv hat hrg2 hlt hg2 hs2 hen
      obtain ⟨x', ex, rfl, _⟩ := Maps.keyOf_int_inv Try.underlying3 hkey
      obtain rfl : x = x' := by simpa using ex
      have hJ2 : J ps w2 := hJ ps wr w2 (some W.heap.size) hJs hg2 (fun r e => by cases e; exact ⟨Nat.le_refl _, hrg.iter_walk⟩)
      obtain ⟨fn, tmps, assign, body, hy, hR⟩ := hY ps (x, (A, m, cc)) w2 hJ2 (by omega)
      have hC2 : Met D0 (fun z => left z && !z.sameKey (.int .i64 x)) ((ps ++ [(x, (A, m, cc))]).map (·.1)) := by simpa using hC.step hlk hat
      have hV2 : ∀ p ∈ ps ++ [(x, (A, m, cc))], ValAt D0 R p := fun p hp => (List.mem_append.1 hp).elim (hV p) (fun e => by simp at e; subst e; exact ⟨_, hv, hat⟩)
      unfold slV at hen hy
      clear hs2
      gi_wp2
      refine hR.mono ?_
      rintro e W3 (⟨rfl, hJ3, hk3⟩ | ⟨rfl, hJx3⟩)
      · gi_wp2
        have hrg3 := hrg2.of_walks hk3
        go_roundw
        case rel => exact ⟨_, cnt2, ps ++ [(x, (A, m, cc))], hrg3, by simp; omega, hC2, hV2, hJ3⟩
        case measure => rw [hrg3.left_eq, hrg.left_eq]; exact hlt
      · gi_wp2
        refine bodyPost_ret (results_none rfl _ _ _) rfl ?_
        exact ⟨⟨_, rfl⟩, .inr ⟨ps ++ [(x, (A, m, cc))], ⟨by simp; omega, hC2.1, hV2⟩, hJx3⟩⟩

/-- maps.Values hands such an iterator. -/
theorem vals_seq (F : Fence) (n : Nat) (hf : F.fn 115) (hro : F.round = none) (hn : 1 ≤ n) (Bm b nn : Nat) (D0 : DataW Unit) (R : Reads) (hR0 : ∀ v y, R v = some y → ∃ c, v = slV c) (w : World) (hBm : Bm < w.heap.size) (hm : w.cell? ⟨Bm, 0, none⟩ = some (.map (some b))) (hown : w.ownsMap Try.prog 3 R b nn D0) :
    SeqOf F n Try.prog 115 #[.pointer (some ⟨Bm, 0, none⟩)] (fun p : Int × (Option Addr × Nat × Nat) => #[slV p.2]) KeepsWalks (AllVals D0 R) (fun pre => pre.length ≤ Maps.size D0) (Maps.size D0) w := fun l J Jx W hW hJ _ _ hY h0 => by
  have hown' : W.ownsMap Try.prog 3 R b nn D0 := by
    have hbl := hown.lt
    obtain ⟨es, clock, hb, Ft, hs, hD⟩ := hown
    exact ⟨es, clock, (hW.block b hbl).trans hb, Ft, hs, hD⟩
  refine (values1_in F n hf hro hn l Bm b nn D0 R hR0 J Jx (fun pre x W1 hJ1 hl => hY pre x W1 hJ1 (by simp; omega)) W hJ ((hW.cell (p := ⟨Bm, 0, none⟩) hBm).trans hm) hown' h0).mono ?_
  rintro e W' ⟨hv, ⟨ps, h1, h2⟩ | ⟨pre, h1, h2⟩⟩
  · exact ⟨hv, .inl ⟨ps, h1, h2⟩⟩
  · exact ⟨hv, .inr ⟨pre, h1.1, h2⟩⟩
end Go.Proofs.Ytebgnaiibomjkaa

namespace Go.Proofs.Ytebgnaiibomjkaa
open Go.RowKit Go.Maps Go.Shelf
attribute [local go_sem] Oper.semAt_some

/-- The values that came. -/
def vals (ps : List (Int × (Option Addr × Nat × Nat))) : List Value := ps.map fun p => slV p.2
theorem vals_snoc (ps : List (Int × (Option Addr × Nat × Nat))) (p : Int × (Option Addr × Nat × Nat)) : vals (ps ++ [p]) = vals ps ++ [slV p.2] := by simp [vals]
theorem vals_len (ps : List (Int × (Option Addr × Nat × Nat))) : (vals ps).length = ps.length := by simp [vals]
theorem row_form {W : World} {base n : Nat} {e : TypeId} {v : Value} {vs : List Value} (h : W.ownsRow base e 1 v n vs) : ∃ A c, v = .slice A n c := by
  rcases h.2 with ⟨hv, h0⟩ | ⟨g, cap, cur, hv, _⟩
  · exact ⟨none, 0, by rw [hv, h0]⟩
  · exact ⟨_, cap, hv⟩
/-- A box that holds a slice of the call's own, of slice values. -/
def HeldS (W : World) (B base : Nat) (vs : List Value) : Prop := ∃ A c, Boxed W B 49 (.slice A vs.length c) ∧ W.ownsRow base 23 1 (.slice A vs.length c) vs.length vs
theorem rowS_cells {W : World} {base n : Nat} {v : Value} {vs : List Value} (ho : W.ownsRow base 23 1 v n vs) : ∀ r o, v.ownBlock = some r → W.heap[r]? = some o → o.isCells = true := by
  intro r o hr hw
  rcases ho.2 with ⟨hv, _⟩ | ⟨g, cap, cur, hv, _, hh, _⟩
  · rw [hv] at hr; cases hr
  · rw [hv] at hr
    have : g = r := by simpa [Value.ownBlock] using hr
    subst this
    rw [hh] at hw
    injection hw with hw
    subst hw
    rfl
theorem heldS_from {β : Type} (B base B' : Nat) (f : β → List Value) : OwnFrom B' (fun s W => HeldS W B base (f s)) := by
  rintro s W W' row ⟨A, c, hb, ho⟩ hg hr
  refine ⟨A, c, Go.Own.from (boxed_own B 49 (fun _ : β => Value.slice A (f s).length c)) B' s W W' row hb hg hr, ho.kept hg ?_⟩
  cases hb : (Value.slice A (f s).length c).ownBlock with
  | none => exact .inl rfl
  | some g =>
    refine .inr fun e => ?_
    obtain ⟨_, o, ho', hc⟩ := hr g e.symm
    rw [rowS_cells ho g o hb ho'] at hc
    cases hc
set_option maxRecDepth 100000 in
set_option maxHeartbeats 2000000 in
theorem appendSeq_in (F : Fence) (n : Nat) (hF : ∀ f, F.fn f) (hro : F.round = none) (hn : 3 ≤ n) (g : Nat) (lb : Array Value) (eg : ∀ args w, (callFunc g args).run Try.prog w = .ok (.enter g args) w)
    (S Sp : List (Int × (Option Addr × Nat × Nat)) → Prop) (M : Nat) (hM : M ≤ 1000) (hSp : ∀ pre, Sp pre → pre.length ≤ M) (w : World) (hseq : ∀ w', Below w.heap.size w w' → SeqOf F (n - 1) Try.prog g lb (fun p : Int × (Option Addr × Nat × Nat) => #[slV p.2]) KeepsWalks S Sp M w') :
    CallsIn F n Try.prog 123 #[.slice none 0 0, .func (.func g) #[] lb] w fun e w' => ∃ v ps, e = .returned v ∧ S ps ∧ w'.ownsRow w.heap.size 23 1 v (vals ps).length (vals ps) ∧ Below w.heap.size w w' := by
  have h1 : 1 ≤ n := by omega
  obtain ⟨i0, hi0, hz0, hz1, hz2⟩ := info_parts Try.info_ints
  refine callsIn_of_wp_marks Try.func123 rfl (hF _) ?_ hro
  simp only [Try.ntmps123, List.size_toArray, List.length_cons, List.length_nil, Nat.reduceAdd, Nat.reduceSub, Array.replicate_succ, Array.replicate_zero, List.push_toArray, List.append_toArray, List.nil_append, List.cons_append]
  gi_wp2
  have bL := Boxed.new w 49 (.slice none 0 0)
  have hBw := (Below.refl w.heap.size w).alloc (Nat.le_refl _) (.cells #[.slice none 0 0] 49)
  have hs0 : (w.alloc (.cells #[.slice none 0 0] 49)).heap.size = w.heap.size + 1 := by simp
  have hq := hseq _ hBw
  generalize w.alloc (.cells #[.slice none 0 0] 49) = W0 at bL hBw hs0 hq
  refine wpIn_rangeFunc_seqOf hro h1 (gf := g) (lb := lb) rfl (hF _) eg hq KeepsWalks.trans (fun W l o o' _ h _ hw => KeepsWalks.putObj o' h hw) (fun _ => rfl)
    (fun pre W => HeldS W w.heap.size w.heap.size (vals pre) ∧ Below w.heap.size w W)
    (fun _ _ _ => False)
    (OwnFrom.and (heldS_from _ _ _ vals) (ownFrom_below (by omega) (by omega)))
    (fun _ _ _ _ _ hs _ _ => hs)
    (fun pre W hp _ => hSp pre hp) ⟨⟨none, 0, bL, World.ownsRow_nil _ _ _ _⟩, hBw⟩
    (fun x => { tmps := #[.slice none 0 0, .func (.func g) #[] lb, .pointer (some ⟨w.heap.size, 0, none⟩), undef, .slice none 0 0, slV x.2, .func (.func g) #[] lb, slV x.2, undef, undef, undef, undef, undef], defers := [] }) ?assign ?body ?done ?stop
  case assign =>
    intro l x W K hK
    gi_wp2
    exact hK
  case body =>
    rintro l pre x W ⟨⟨A2, c2, hL, ho⟩, hBe⟩ hp hsz
    have hpl := hSp _ hp
    rw [List.length_append] at hpl
    have hvl : (vals pre).length ≤ 1000 := by rw [vals_len]; omega
    have cL := hL.cell
    have fL := hL.frozen
    have hsz' : w.heap.size ≤ W.heap.size := hBe.size
    have hL5 := hL.alloc (.cells #[slV x.2] 23)
    have ho5 := ho.alloc (.cells #[slV x.2] 23)
    obtain ⟨kx, Ax, mx, cx⟩ := x
    have hsl : slV (kx, Ax, mx, cx).2 = .slice Ax mx cx := rfl
    rw [hsl] at hL5 ho5
    have HSL := Lib.hid hsl
    have hv5 := vals_snoc pre (kx, Ax, mx, cx)
    rw [hsl] at hv5 ⊢
    have HV5 := Lib.hid hv5
    have HL := Lib.hid hL
    have HL5 := Lib.hid hL5
    have HO5 := Lib.hid ho5
    have HO := Lib.hid ho
    clear hsl hv5 hL hL5 ho5 ho hp
    gi_wp2_with (gi_at_builtin; refine wpListIn_append_own _ rfl _ _ 49 rfl w.heap.size 23 i0 (.slice none 0 0) 1 24 Try.underlying49 hi0 hz0 hz1 hz2 rfl (by decide) _ _ _ rfl HO5.out ⟨W.heap.size, 0, none⟩ 1 1 [.slice Ax mx cx] rfl rfl (cell_one_new _ _ _) (by simp [Value.oneCell']) (by unfold maxLen; omega) (by omega) (by simp; omega) ?_; intro v' w' ho' hg' hnil'; obtain ⟨A3, c3, rfl⟩ := row_form ho'; have hL' := HL5.out.kept hg' (Boxed.not_row HL5.out (by decide) HO5.out); have cL' := hL'.cell; have fL' := hL'.frozen; have HG' := Lib.hid hg'; have HO' := Lib.hid ho'; have HL' := Lib.hid hL'; clear hg' ho' hnil' hL')
    have hg := (World.grownBy_alloc W (.cells #[.slice Ax mx cx] 23) _).trans HG'.out
    have hk1 : KeepsOthers W w' := KeepsOthers.of_grownBy hg (rowS_cells HO.out)
    have hk2 : KeepsWalks W w' := KeepsWalks.of_grownBy hg (fun j o hj ho => by
      have := rowS_cells HO.out j o hj ho
      cases o <;> simp_all [Obj.isCells, Obj.isWalk])
    have hb2 : Below w.heap.size w w' := hBe.grown hg hsz' (fun r e => (HO.out.lt r e).1)
    have e2 : (vals pre).length + 1 = (vals (pre ++ [(kx, Ax, mx, cx)])).length := by rw [HV5.out]; simp
    have hrow := HO'.out
    rw [← HV5.out, e2] at hrow
    rw [e2]
    exact ⟨(hk1.trans (KeepsOthers.setCell _ _ _)).from _, hk2.trans (KeepsWalks.setCell _ _ _), ⟨A3, c3, HL'.out.set _, ownsRow_setCell_other hrow (fun e => Boxed.not_row HL'.out (by decide) hrow e.symm) _⟩, hb2.setCell (p := ⟨w.heap.size, 0, none⟩) (Nat.le_refl _) _⟩
  case done =>
    rintro D xs W hD hS ⟨⟨A2, c2, hL, ho⟩, hBe⟩ hK
    have cL := hL.cell
    have HO := Lib.hid ho
    clear ho
    gi_wp2
    refine ⟨by simp, .inl ⟨_, _, rfl, run_takeDeferred hK, ?_⟩⟩
    refine ⟨_, results_tmp rfl _ _ _, ?_⟩
    have hb3 := belowK_b (w := w) (n₀ := w.heap.size) (Nat.le_refl _) W D _ (.deferred none) (by omega) hK rfl rfl
    refine ⟨_, xs, rfl, hS, HO.out.kept (grownBy_putObj' W D (.deferred none)) ?_, hBe.trans hb3⟩
    cases hb : (Value.slice A2 (vals xs).length c2).ownBlock with
    | none => exact .inl rfl
    | some r =>
      refine .inr fun e => ?_
      injection e with e
      subst e
      have := rowS_cells HO.out r _ hb hK
      simp [Obj.isCells] at this
  case stop =>
    rintro D q pre W _ _ h _
    exact h.elim
end Go.Proofs.Ytebgnaiibomjkaa

namespace Go.Proofs.Ytebgnaiibomjkaa
open Go.RowKit Go.Maps Go.Shelf
attribute [local go_sem] Oper.semAt_some

set_option maxRecDepth 100000 in
set_option maxHeartbeats 1000000 in
theorem collect_in (F : Fence) (n : Nat) (hF : ∀ f, F.fn f) (hro : F.round = none) (hn : 4 ≤ n) (g : Nat) (lb : Array Value) (eg : ∀ args w, (callFunc g args).run Try.prog w = .ok (.enter g args) w)
    (S Sp : List (Int × (Option Addr × Nat × Nat)) → Prop) (M : Nat) (hM : M ≤ 1000) (hSp : ∀ pre, Sp pre → pre.length ≤ M) (w : World) (hseq : ∀ w', Below w.heap.size w w' → SeqOf F (n - 1 - 1) Try.prog g lb (fun p : Int × (Option Addr × Nat × Nat) => #[slV p.2]) KeepsWalks S Sp M w') :
    CallsIn F n Try.prog 113 #[.func (.func g) #[] lb] w fun e w' => ∃ v ps, e = .returned v ∧ S ps ∧ w'.ownsRow w.heap.size 23 1 v (vals ps).length (vals ps) ∧ Below w.heap.size w w' := by
  have R := Lib.hid (appendSeq_in F (n - 1) hF hro (by omega) g lb eg S Sp M hM hSp w hseq)
  refine callsIn_of_wp Try.func113 rfl (hF _) ?_ hro
  simp only [Try.ntmps113, List.size_toArray, List.length_cons, List.length_nil, Nat.reduceAdd, Nat.reduceSub, Array.replicate_succ, Array.replicate_zero, List.push_toArray, List.append_toArray, List.nil_append, List.cons_append]
  gi_wp2_with fail
  refine ⟨fun _ => by omega, R.out.mono ?_⟩
  rintro e w1 ⟨v, ps, rfl, hS, ho, hb⟩
  gi_wp2_with fail
  go_ret
  exact ⟨_, ps, rfl, hS, ho, hb⟩

set_option maxRecDepth 100000 in
set_option maxHeartbeats 1000000 in
theorem values_any (mb : Option Nat) (w : World) :
    Calls Try.prog 86 #[.map mb] w fun e w' => e = .returned (.func (.func 115) #[] #[.pointer (some ⟨w.heap.size, 0, none⟩)]) ∧ w' = w.alloc (.cells #[.map mb] 82) := by
  go_enter Try.func86, Try.ntmps86
  go_wp2
  go_ret
  exact ⟨rfl, rfl⟩

theorem slice_of_row {w : World} {base : Nat} {e : TypeId} {v : Value} {zs : List Int} (h : w.ownsInts base e .i64 v zs) : ∃ c, v = slV c := by
  obtain ⟨A, c, e⟩ := row_form h.1
  exact ⟨(A, zs.length, c), e⟩

/-- slices.Collect(maps.Values(m)). -/
theorem collectVals_any (Bm b nn base : Nat) (D0 : DataW Unit) (w : World) (hBm : Bm < w.heap.size) (hm : w.cell? ⟨Bm, 0, none⟩ = some (.map (some b))) (hown : w.ownsGroups Try.prog 3 base 3 .i64 b nn D0) (hsz : Maps.size D0 ≤ 1000) :
    Calls Try.prog 113 #[.func (.func 115) #[] #[.pointer (some ⟨Bm, 0, none⟩)]] w fun e w' => ∃ v ps, e = .returned v ∧ AllVals D0 (rowElem w base 3 .i64) ps ∧ w'.ownsRow w.heap.size 23 1 v (vals ps).length (vals ps) ∧ Below w.heap.size w w' := by
  have hR0 : ∀ v y, rowElem (H := Unit) w base 3 .i64 v = some y → ∃ c, v = slV c := fun v y hv => by
    obtain ⟨zs, ho, _⟩ := rowElem_inv hv
    exact slice_of_row ho
  have hmap : w.ownsMap Try.prog 3 (rowElem (H := Unit) w base 3 .i64) b nn D0 := by
    obtain ⟨es, clock, h1, h2, h3, h4, _⟩ := hown
    exact ⟨es, clock, h1, h2, h3, h4⟩
  have hbl := hmap.lt
  refine (callsIn_wide (n := 6)).1 (collect_in Fence.wide 6 (fun _ => trivial) rfl (by omega) _ _ (enters_of Try.func115 (by kernel_rfl) rfl) _ _ (Maps.size D0) hsz (fun _ h => h) w fun w' hb => ?_)
  refine vals_seq Fence.wide _ trivial rfl (by omega) Bm b nn D0 _ hR0 w' (Nat.lt_of_lt_of_le hBm hb.size) ((hb.cell (p := ⟨Bm, 0, none⟩) hBm).trans hm) ?_
  obtain ⟨es, clock, h1, h2, h3, h4⟩ := hmap
  exact ⟨es, clock, (hb.block b hbl).trans h1, h2, h3, h4⟩
end Go.Proofs.Ytebgnaiibomjkaa

namespace Go.Proofs.Ytebgnaiibomjkaa
open Go.RowKit

set_option maxHeartbeats 800000 in
theorem byFirst_any (g1 n1 c1 g2 n2 c2 : Nat) (x y : Nat) (w : World) (h1 : w.cell? ⟨g1, 0, none⟩ = some (.int .i64 (x : Int))) (h2 : w.cell? ⟨g2, 0, none⟩ = some (.int .i64 (y : Int))) (l1 : 0 < n1) (l2 : 0 < n2) (hx : x ≤ 16) (hy : y ≤ 16) :
    Calls Try.prog 84 #[.slice (some ⟨g1, 0, none⟩) n1 c1, .slice (some ⟨g2, 0, none⟩) n2 c2] w fun e w' => e = .returned (.int .i64 ((x : Int) - (y : Int))) ∧ ∃ q, w' = w.drewN q := by
  have k1 : IntKind.i64.wrap ((x : Int) - (y : Int)) = (x : Int) - (y : Int) := IntWalk.i64_in _ (by omega)
  have k2 : (0 : Int) < (n1 : Int) := by omega
  have k3 : (0 : Int) < (n2 : Int) := by omega
  go_enter Try.func84, Try.ntmps84
  go_wp2
  go_quiet (fail)
  go_wp2
  go_ret
  exact ⟨by simp, _, rfl⟩
end Go.Proofs.Ytebgnaiibomjkaa

namespace Go.Proofs.Ytebgnaiibomjkaa

/-- Two rising lists with the same members are one. -/
theorem rising_ext : ∀ {xs ys : List Nat}, xs.Pairwise (· < ·) → ys.Pairwise (· < ·) → (∀ a, a ∈ xs ↔ a ∈ ys) → xs = ys
  | [], [], _, _, _ => rfl
  | [], y :: ys, _, _, h => by have := (h y).2 (by simp); simp at this
  | x :: xs, [], _, _, h => by have := (h x).1 (by simp); simp at this
  | x :: xs, y :: ys, hx, hy, h => by
    rw [List.pairwise_cons] at hx hy
    have e : x = y := by
      have h1 := (h x).1 (by simp)
      have h2 := (h y).2 (by simp)
      rcases List.mem_cons.1 h1 with h1 | h1
      · exact h1
      · rcases List.mem_cons.1 h2 with h2 | h2
        · exact h2.symm
        · have := hy.1 x h1
          have := hx.1 y h2
          omega
    subst e
    congr 1
    refine rising_ext hx.2 hy.2 fun a => ⟨fun ha => ?_, fun ha => ?_⟩
    · have h1 := (h a).1 (List.mem_cons_of_mem _ ha)
      rcases List.mem_cons.1 h1 with h1 | h1
      · have := hx.1 a ha; omega
      · exact h1
    · have h1 := (h a).2 (List.mem_cons_of_mem _ ha)
      rcases List.mem_cons.1 h1 with h1 | h1
      · have := hy.1 a ha; omega
      · exact h1

/-- The first item of a root's class. -/
def firstOf (up : List Int) (r : Int) : Nat := ((cls up r up.length)[0]?.getD 0).toNat
theorem first_mem {up : List Int} {r : Int} (h : cls up r up.length ≠ []) : firstOf up r < up.length ∧ (rootI up (firstOf up r) : Int) = r ∧ (cls up r up.length)[0]?.getD 0 = (firstOf up r : Int) := by
  have hl : 0 < (cls up r up.length).length := List.length_pos_iff.2 h
  have hm := List.getElem_mem (l := cls up r up.length) (n := 0) hl
  have he : (cls up r up.length)[0]?.getD 0 = (cls up r up.length)[0] := by simp [hl]
  unfold cls at hm
  obtain ⟨i, hi, e⟩ := List.mem_map.1 hm
  have h2 := List.mem_filter.1 hi
  have h3 : (cls up r up.length)[0] = (i : Int) := e.symm
  have hf : firstOf up r = i := by unfold firstOf; rw [he, h3]; simp
  rw [hf, he, h3]
  exact ⟨by simpa using h2.1, by simpa using h2.2, rfl⟩
theorem mem_heads {up : List Int} {i : Nat} : i ∈ heads up up.length ↔ i < up.length ∧ (cls up (rootI up i : Int) up.length)[0]?.getD 0 = (i : Int) := by
  unfold heads
  rw [List.mem_filter]
  simp
theorem heads_rising (up : List Int) (k : Nat) : (heads up k).Pairwise (· < ·) := by
  unfold heads
  exact List.Pairwise.filter _ List.pairwise_lt_range

/-- The classes of all roots, in the order of their first items, are what ClassesOf answers. -/
theorem rows_sorted {up : List Int} {rs : List Int} (hm : ∀ r, r ∈ rs ↔ cls up r up.length ≠ []) (hs : (rs.map (firstOf up)).Pairwise (· < ·)) : rs.map (fun r => cls up r up.length) = rowsTo up up.length := by
  have hf : rs.map (firstOf up) = heads up up.length := rising_ext hs (heads_rising _ _) fun a => by
    rw [mem_heads]
    constructor
    · intro ha
      obtain ⟨r, hr, rfl⟩ := List.mem_map.1 ha
      obtain ⟨h1, h2, h3⟩ := first_mem ((hm r).1 hr)
      exact ⟨h1, by rw [h2]; exact h3⟩
    · rintro ⟨h1, h2⟩
      refine List.mem_map.2 ⟨(rootI up a : Int), (hm _).2 (fun e => ?_), ?_⟩
      · have := cls_self (up := up) h1
        rw [e] at this
        simp at this
      · unfold firstOf
        rw [h2]
        simp
  unfold rowsTo
  rw [← hf, List.map_map]
  refine List.map_congr_left fun r hr => ?_
  show cls up r up.length = cls up (rootI up (firstOf up r) : Int) up.length
  rw [(first_mem ((hm r).1 hr)).2.1]
end Go.Proofs.Ytebgnaiibomjkaa

namespace Go.Proofs.Ytebgnaiibomjkaa
open Go.RowKit Go.Maps Go.Shelf Go.Lib

/-! ### The sort's worlds, at any one-cell elements -/
theorem grown_sort {α : Type} [Inhabited α] (enc : α → Value) (w : World) (blk off m : Nat) (dk : Array α) (os : Array Obj) : w.grownBy (sortWorld enc w blk off m dk os) (some blk) := by
  refine ⟨rfl, rfl, rfl, by simp [sortWorld], fun k hk hne => ?_⟩
  unfold sortWorld
  rw [Sort.heap_grow_old _ _ (by simpa using hk)]
  have : blk ≠ k := fun e => hne (by rw [e])
  simp [Sort.putRow, Sort.mapBlock, Sort.ahead, Array.getElem?_modify, this]
theorem heap_sort {α : Type} [Inhabited α] (enc : α → Value) {w : World} {g m : Nat} {cur : Array Value} {e : TypeId} {d : Array α} {os : Array Obj} (hb : w.heap[g]? = some (.cells cur e (0, 0))) :
    (sortWorld enc w g 0 m d os).heap[g]? = some (.cells (Sort.putCells enc 0 d cur) e (0, 0)) := by
  unfold sortWorld
  rw [Sort.heap_grow_old _ _ (by simpa using (Array.getElem?_eq_some_iff.1 hb).1)]
  simp [Sort.putRow, Sort.mapBlock, Sort.ahead, Sort.onCells, Array.getElem?_modify, hb]
theorem take_cells {α : Type} [Inhabited α] (enc : α → Value) (cur : Array Value) (d : Array α) (h : d.size ≤ cur.size) : (Sort.putCells enc 0 d cur).toList.take d.size = d.toList.map enc := by
  apply List.ext_getElem?
  intro k
  by_cases hk : k < d.size
  · rw [List.getElem?_take_of_lt hk]
    simp [Sort.putCells, hk, show k < cur.size by omega]
  · rw [List.getElem?_eq_none (by simp; omega), List.getElem?_eq_none (by simp; omega)]
theorem row_sort {α : Type} [Inhabited α] (enc : α → Value) {w : World} {base g cap m n : Nat} {e : TypeId} {os : Array Obj} {cur : Array Value} {d : Array α} (hd : d.size = n) (hbase : base ≤ g) (hb : w.heap[g]? = some (.cells cur e (0, 0)))
    (h1 : n ≤ cap) (h2 : cap ≤ maxLen) (h3 : cur.size = cap * 1) : (sortWorld enc w g 0 m d os).ownsRow base e 1 (.slice (some ⟨g, 0, none⟩) n cap) n (d.toList.map enc) :=
  ⟨by simp [hd], .inr ⟨g, cap, _, rfl, hbase, heap_sort enc hb, h1, h2, by simp [Sort.putCells, h3], by rw [Nat.mul_one, ← hd]; exact take_cells enc cur d (by omega)⟩⟩
theorem holds_block {α : Type} [Inhabited α] (enc : α → Value) {w : World} {g : Nat} {cur : Array Value} {e : TypeId} {ss : List α} (hb : w.heap[g]? = some (.cells cur e (0, 0))) (ht : cur.toList.take ss.length = ss.map enc) : Sort.Holds enc w g 0 ss.toArray := by
  intro j hj
  have hj' : j < ss.length := by simpa using hj
  refine ⟨?_, by simp [World.frozen?, hb]⟩
  have h1 : (cur.toList.take ss.length)[j]? = (ss.map enc)[j]? := by rw [ht]
  rw [List.getElem?_take_of_lt hj'] at h1
  simp only [World.cell?, hb, Nat.zero_add]
  simp only [Option.isSome_none, Bool.false_eq_true, if_false]
  rw [← Array.getElem?_toList, h1]
  simp [hj']

/-! ### The classes as the sort's elements: the root, the block, the length, the room -/
def candV (x : Int × Nat × Nat × Nat) : Value := .slice (some ⟨x.2.1, 0, none⟩) x.2.2.1 x.2.2.2
def CandOk (w : World) (base row : Nat) (up : List Int) (x : Int × Nat × Nat × Nat) : Prop :=
  cls up x.1 up.length ≠ [] ∧ Own w base (candV x) (cls up x.1 up.length) ∧ x.2.1 ≠ row
theorem CandOk.kept {w w' : World} {base row : Nat} {up : List Int} {x : Int × Nat × Nat × Nat} (h : CandOk w base row up x) (hg : w.grownBy w' (some row)) : Own w' base (candV x) (cls up x.1 up.length) :=
  h.2.1.kept hg (.inr (by simp [candV, Value.ownBlock, h.2.2]))
theorem CandOk.first {w : World} {base row : Nat} {up : List Int} {x : Int × Nat × Nat × Nat} (h : CandOk w base row up x) {w' : World} (ho : Own w' base (candV x) (cls up x.1 up.length)) : w'.cell? ⟨x.2.1, 0, none⟩ = some (.int .i64 (firstOf up x.1 : Int)) ∧ 0 < x.2.2.1 := by
  have hl := ho.len
  have hp : 0 < (cls up x.1 up.length).length := List.length_pos_iff.2 h.1
  have := ho.slot (k := 0) (by omega)
  rw [(first_mem h.1).2.2] at this
  exact ⟨this, by omega⟩
theorem first_inj {up : List Int} {r s : Int} (hr : cls up r up.length ≠ []) (hs : cls up s up.length ≠ []) (h : firstOf up r = firstOf up s) : r = s := by
  rw [← (first_mem hr).2.1, ← (first_mem hs).2.1, h]
theorem cand_apart {w : World} {base row : Nat} {up : List Int} {x y : Int × Nat × Nat × Nat} (hx : CandOk w base row up x) (hy : CandOk w base row up y) (h : x.1 ≠ y.1) : x.2.1 ≠ y.2.1 := fun e => by
  have h1 := (hx.first hx.2.1).1
  have h2 := (hy.first hy.2.1).1
  rw [e, h2] at h1
  injection h1 with h1
  injection h1 with _ h1
  exact h (first_inj hx.1 hy.1 (by omega))

/-- The order that the program asks. -/
def cmpI {α : Type} (f : α → Nat) (x y : α) : Int := (f x : Int) - (f y : Int)
theorem swo_cmp {α : Type} (f : α → Nat) : Sort.SWO (ltOf (cmpI f)) := by
  have e : ∀ x y, ltOf (cmpI f) x y = decide (f x < f y) := fun x y => by
    unfold ltOf cmpI
    rw [decide_eq_decide]
    omega
  refine ⟨fun x => ?_, fun x y z h1 h2 => ?_, fun x y z h1 h2 => ?_⟩
  · rw [e]; simp
  · rw [e] at *; simp at *; omega
  · rw [e] at *; simp at *; omega

set_option maxHeartbeats 1000000 in
theorem sortRows_any {ρ : Ren} (L : SlLaysF.n6 Try.prog ρ) (base g cap : Nat) (up : List Int) (h16 : up.length ≤ 16) (xs : List (Int × Nat × Nat × Nat)) (w : World) (hb0 : base ≤ g) (hrow : w.ownsRow base 23 1 (.slice (some ⟨g, 0, none⟩) xs.length cap) xs.length (xs.map candV))
    (hok : ∀ x ∈ xs, CandOk w base g up x) (hnd : (xs.map (·.1)).Nodup) (hall : ∀ r, r ∈ xs.map (·.1) ↔ cls up r up.length ≠ []) (hne : xs ≠ []) (hlen : xs.length ≤ 1048576) :
    Calls Try.prog (ρ.f 6) #[.slice (some ⟨g, 0, none⟩) xs.length cap, .func (.func 84) #[] #[]] w fun e w' => e = .returned (.tuple #[]) ∧ (∃ vs, OwnRows w' base (.slice (some ⟨g, 0, none⟩) xs.length cap) vs (rowsTo up up.length)) ∧ w.grownBy w' (some g) := by
  obtain ⟨x0, t0, rfl⟩ := List.exists_cons_of_ne_nil hne
  generalize hxs : x0 :: t0 = xs at *
  letI : Inhabited {x : Int × Nat × Nat × Nat // CandOk w base g up x} := ⟨⟨x0, hok x0 (by rw [← hxs]; simp)⟩⟩
  obtain ⟨ys, hys⟩ : ∃ ys : List {x : Int × Nat × Nat × Nat // CandOk w base g up x}, ys.map Subtype.val = xs := ⟨xs.attach.map fun x => ⟨x.1, hok x.1 x.2⟩, by simp [List.map_map, Function.comp_def, List.attach_map_subtype_val]⟩
  have hyl : ys.length = xs.length := by rw [← hys, List.length_map]
  have hkeys : ys.map (fun y => y.1.1) = xs.map (·.1) := by rw [← hys, List.map_map]; rfl
  have hvals : ys.map (fun y => candV y.1) = xs.map candV := by rw [← hys, List.map_map]; rfl
  obtain ⟨cur, hheap, h1, h2, h3, h4⟩ : ∃ cur, w.heap[g]? = some (.cells cur 23 (0, 0)) ∧ xs.length ≤ cap ∧ cap ≤ maxLen ∧ cur.size = cap * 1 ∧ cur.toList.take (xs.length * 1) = xs.map candV := by
    rcases hrow.2 with ⟨hv, _⟩ | ⟨g', cap', cur, hv, _, h⟩
    · simp at hv
    · simp only [Value.slice.injEq, Option.some.injEq, Addr.mk.injEq, and_true, true_and] at hv
      obtain ⟨rfl, rfl⟩ := hv
      exact ⟨cur, h⟩
  have hH : Sort.Holds (fun y : {x : Int × Nat × Nat × Nat // CandOk w base g up x} => candV y.1) w g 0 ys.toArray := holds_block _ hheap (by rw [hyl, hvals, ← h4, Nat.mul_one])
  have hf : ∀ y : {x : Int × Nat × Nat × Nat // CandOk w base g up x}, firstOf up y.1.1 ≤ 16 := fun y => by have := (first_mem y.2.1).1; omega
  have hsize : ys.toArray.size = xs.length := by simp [hyl]
  have hcon := Any.slices_SortFunc L (fun y : {x : Int × Nat × Nat × Nat // CandOk w base g up x} => candV y.1) (fun _ => rfl) (cmpI fun y => firstOf up y.1.1) (swo_cmp _) 84 #[] g 0 cap ys.toArray w
    (enters_of Try.func84 (by kernel_rfl) rfl)
    (CmpReads.lays fun m os dk _ x y => by
      have gr := grown_sort (fun y : {x : Int × Nat × Nat × Nat // CandOk w base g up x} => candV y.1) w g 0 m dk os
      have fx := x.2.first (x.2.kept gr)
      have fy := y.2.first (y.2.kept gr)
      exact byFirst_any _ _ _ _ _ _ _ _ _ fx.1 fy.1 fx.2 fy.2 (hf x) (hf y)) hH (Array.getElem?_eq_some_iff.1 hheap).1 (by omega)
  rw [hsize] at hcon
  refine hcon.mono ?_
  rintro e w' ⟨rfl, d, n, os, ⟨hd1, _, hd3⟩, hs, rfl⟩
  have gr := grown_sort (fun y : {x : Int × Nat × Nat × Nat // CandOk w base g up x} => candV y.1) w g 0 n d os
  refine ⟨rfl, ⟨d.toList.map fun y => candV y.1, ?_⟩, gr⟩
  have hds : d.size = xs.length := by rw [hd1, hsize]
  have hperm : d.toList.Perm ys := by
    have e1 : d.extract 0 xs.length = d := by rw [← hds]; simp
    have e2 : ys.toArray.extract 0 xs.length = ys.toArray := by rw [← hsize]; simp
    rw [e1, e2] at hd3
    simpa using hd3
  have hkp : (d.toList.map fun y => y.1.1).Perm (xs.map (·.1)) := by rw [← hkeys]; exact hperm.map _
  have hkn : (d.toList.map fun y => y.1.1).Nodup := hkp.nodup_iff.2 hnd
  have hpw : d.toList.Pairwise fun x y => x.1.1 ≠ y.1.1 := List.pairwise_map.1 hkn
  have hsorted : d.toList.Pairwise fun x y => firstOf up x.1.1 ≤ firstOf up y.1.1 := by
    rw [List.pairwise_iff_getElem]
    intro i j hi hj hij
    have hi' : i < d.size := by simpa using hi
    have hj' : j < d.size := by simpa using hj
    have := hs i j (Nat.zero_le _) hij (by omega)
    rw [getElem!_pos d i hi', getElem!_pos d j hj'] at this
    unfold ltOf cmpI at this
    have h6 : ¬ ((firstOf up d[j].1.1 : Int) - (firstOf up d[i].1.1 : Int) < 0) := of_decide_eq_false this
    simp only [Array.getElem_toList]
    omega
  have hrows : (d.toList.map fun y => y.1.1).map (fun r => cls up r up.length) = rowsTo up up.length := by
    refine rows_sorted (fun r => by rw [hkp.mem_iff]; exact hall r) ?_
    rw [List.map_map, List.pairwise_map]
    refine (hsorted.and hpw).imp ?_
    rintro ⟨a, ha⟩ ⟨b, hb⟩ ⟨h1, h2⟩
    have h3 : firstOf up a.1 ≠ firstOf up b.1 := fun e => h2 (first_inj ha.1 hb.1 e)
    show firstOf up a.1 < firstOf up b.1
    have h1' : firstOf up a.1 ≤ firstOf up b.1 := h1
    omega
  have hl2 : (d.toList.map fun y => candV y.1).length = xs.length := by simp [hds]
  refine ⟨?_, ?_, ?_, ?_, ?_⟩
  · rw [hl2]
    exact row_sort _ hds hb0 hheap h1 h2 h3
  · rw [← hrows]; simp
  · intro i c hc
    rw [← hrows, List.map_map, List.getElem?_map]
    rw [List.getElem?_map] at hc
    cases hy : d.toList[i]? with
    | none => rw [hy] at hc; cases hc
    | some y =>
      rw [hy] at hc
      simp only [Option.map_some, Option.some.injEq] at hc
      subst hc
      exact y.2.kept gr
  · intro c hc
    obtain ⟨y, _, rfl⟩ := List.mem_map.1 hc
    exact .inr (by have := y.2.2.2; simpa [candV, Value.ownBlock] using this)
  · rw [List.pairwise_map]
    refine hpw.imp ?_
    intro x y hxy
    exact .inr (by have := cand_apart x.2 y.2 hxy; simpa [candV, Value.ownBlock] using this)
end Go.Proofs.Ytebgnaiibomjkaa

namespace Go.Proofs.Ytebgnaiibomjkaa
open Go.RowKit Go.Maps Go.Shelf Go.Lib

/-- What the map's values are, as the sort takes them. -/
theorem cands {w w' : World} {base n row : Nat} {up : List Int} {D0 : DataW Unit} {ps : List (Int × (Option Addr × Nat × Nat))} (hn : up.length = n) (ht : Told up D0 n) (ha : AllVals D0 (rowElem w base 3 .i64) ps) (hb : Below w.heap.size w w') (hr : w.heap.size ≤ row) :
    ∃ xs : List (Int × Nat × Nat × Nat), xs.length = ps.length ∧ xs.map candV = vals ps ∧ (∀ x ∈ xs, CandOk w' base row up x) ∧ (xs.map (·.1)).Nodup ∧ ∀ r, r ∈ xs.map (·.1) ↔ cls up r up.length ≠ [] := by
  subst hn
  have key : ∀ p ∈ ps, ∃ x : Int × Nat × Nat × Nat, x.1 = p.1 ∧ candV x = slV p.2 ∧ CandOk w' base row up x := by
    intro p hp
    obtain ⟨y, hy, hat⟩ := ha.2.2 p hp
    obtain ⟨zs, ho, hz⟩ := rowElem_inv hy
    have hhas := (ha.2.1 p.1).1 (List.mem_map_of_mem hp)
    have hd : D0.atKey (.int .i64 p.1) .nil = rowDatum .i64 (slV p.2) zs := by rw [hat .nil, hz]
    have hc : zs = cls up p.1 up.length := dat_row ho hd (ht p.1).1
    have hne := (ht p.1).2.1 hhas
    have hO : Own w base (slV p.2) (cls up p.1 up.length) := by rw [← hc]; exact ho.1
    rcases hO.2 with ⟨hv, hx⟩ | ⟨g, cap, cur, hv, _, hh, _⟩
    · exact absurd (List.length_eq_zero_iff.1 hx) hne
    · refine ⟨(p.1, g, (cls up p.1 up.length).length, cap), rfl, hv.symm, hne, ?_, ?_⟩
      · show Own w' base (.slice (some ⟨g, 0, none⟩) _ cap) _
        rw [← hv]
        exact hO.keep hb (Nat.le_refl _)
      · have := (Array.getElem?_eq_some_iff.1 hh).1
        show g ≠ row
        omega
  have hlist : ∀ qs : List (Int × (Option Addr × Nat × Nat)), (∀ p ∈ qs, ∃ x : Int × Nat × Nat × Nat, x.1 = p.1 ∧ candV x = slV p.2 ∧ CandOk w' base row up x) → ∃ xs : List (Int × Nat × Nat × Nat), xs.map (·.1) = qs.map (·.1) ∧ xs.map candV = vals qs ∧ ∀ x ∈ xs, CandOk w' base row up x := by
    intro qs
    induction qs with
    | nil => exact fun _ => ⟨[], rfl, rfl, by simp⟩
    | cons q qs ih =>
      intro h
      obtain ⟨xs, h1, h2, h3⟩ := ih fun p hp => h p (List.mem_cons_of_mem _ hp)
      obtain ⟨x, e1, e2, e3⟩ := h q (by simp)
      refine ⟨x :: xs, by simp [h1, e1], ?_, ?_⟩
      · show candV x :: xs.map candV = slV q.2 :: vals qs
        rw [e2, h2]
      · intro y hy
        rcases List.mem_cons.1 hy with rfl | hy
        · exact e3
        · exact h3 y hy
  obtain ⟨xs, h1, h2, h3⟩ := hlist ps key
  refine ⟨xs, by have := congrArg List.length h1; simpa using this, h2, h3, by rw [h1]; exact ha.1, fun r => ?_⟩
  rw [h1, ha.2.1 r, (ht r).2]

set_option maxRecDepth 100000 in
set_option maxHeartbeats 1000000 in
theorem sortedFunc_any (Bm b n base base0 : Nat) (zs : List Int) (D0 : DataW Unit) (w : World) (hv : fvB zs = true) (hn : zs.length = n) (hBm : Bm < w.heap.size) (hm : w.cell? ⟨Bm, 0, none⟩ = some (.map (some b))) (hown : w.ownsGroups Try.prog 3 base 3 .i64 b n D0) (ht : Told zs D0 n)
    (hb0 : base0 ≤ base) (hbw : base0 ≤ w.heap.size) :
    Calls Try.prog 85 #[.func (.func 115) #[] #[.pointer (some ⟨Bm, 0, none⟩)], .func (.func 84) #[] #[]] w fun e w' => ∃ v, e = .returned v ∧ (∃ vs, OwnRows w' base0 v vs (rowsTo zs n)) ∧ Below w.heap.size w w' := by
  have h16 := (fv_parts hv).2.1
  have h1 := (fv_parts hv).1
  have hsz : Maps.size D0 ≤ 1000 := by
    obtain ⟨es, clock, a1, a2, a3, a4, _⟩ := hown
    have : Maps.size D0 ≤ n := World.ownsMap.size_le (w := w) (P := Try.prog) (k := 3) (R := rowElem (H := Unit) w base 3 .i64) (b := b) ⟨es, clock, a1, a2, a3, a4⟩
    omega
  have C := Lib.hid (collectVals_any Bm b n base D0 w hBm hm hown hsz)
  go_enter Try.func85, Try.ntmps85
  go_wp2_with fail
  refine C.out.mono ?_
  rintro e w1 ⟨v, ps, rfl, ha, hrow, hb1⟩
  have hrow0 := hrow.2
  obtain ⟨xs, hl, hx, hok, hnd, hall⟩ := cands (row := (v.ownBlock).getD w.heap.size) hn ht ha hb1 (by
    cases hvb : v.ownBlock with
    | none => simp
    | some k => have := (hrow.lt k hvb).1; simpa using this)
  have hne : xs ≠ [] := fun e => by
    have := (hall (rootI zs 0 : Int)).2 (fun e => by have := cls_self (up := zs) (i := 0) (by omega); rw [e] at this; simp at this)
    rw [e] at this
    simp at this
  have hxl := List.length_pos_iff.2 hne
  have hvl : (vals ps).length = xs.length := by rw [vals_len, hl]
  rw [hvl] at hrow
  rw [← hx] at hrow
  obtain ⟨g, cap, rfl, hg⟩ : ∃ g cap, v = .slice (some ⟨g, 0, none⟩) xs.length cap ∧ w.heap.size ≤ g := by
    rcases hrow.2 with ⟨_, h0⟩ | ⟨g, cap, cur, hv', hg, _⟩
    · omega
    · exact ⟨g, cap, hv', hg⟩
  have hxn : xs.length ≤ 1048576 := by
    have hle : xs.length ≤ 1000 := by
      have hsub : (ps.map (·.1)).Nodup := ha.1
      have : (xs.map (·.1)).Nodup ∧ ∀ r ∈ xs.map (·.1), cls zs r zs.length ≠ [] := ⟨hnd, fun r hr => (hall r).1 hr⟩
      have hf : ((xs.map (·.1)).map (firstOf zs)).Nodup := by
        rw [List.nodup_iff_pairwise_ne, List.pairwise_map]
        refine (List.nodup_iff_pairwise_ne.1 hnd).imp_of_mem fun {a b} ha hb hne e => hne (first_inj (this.2 a ha) (this.2 b hb) e)
      have hlt : ∀ x ∈ (xs.map (·.1)).map (firstOf zs), x < zs.length := by
        intro x hx
        obtain ⟨r, hr, rfl⟩ := List.mem_map.1 hx
        exact (first_mem (this.2 r hr)).1
      have := nodup_len hf hlt
      simp at this
      omega
    omega
  have hrow2 : w1.ownsRow base0 23 1 (.slice (some ⟨g, 0, none⟩) xs.length cap) xs.length (xs.map candV) := by
    refine ⟨hrow.1, ?_⟩
    rcases hrow.2 with h0 | ⟨g', cap', cur, hv', hg', h⟩
    · exact .inl h0
    · exact .inr ⟨g', cap', cur, hv', by omega, h⟩
  have hok2 : ∀ x ∈ xs, CandOk w1 base0 g zs x := fun x hx => by
    have h := hok x hx
    exact ⟨h.1, h.2.1.less hb0, by have := h.2.2; simpa [Value.ownBlock] using this⟩
  have S := sortRows_any Try.sortRows base0 g cap zs h16 xs w1 (by omega) hrow2 hok2 hnd hall hne hxn
  change Calls Try.prog 114 _ _ _ at S
  have S := Lib.hid S
  have HB := Lib.hid hb1
  have HG := Lib.hid hg
  have HN := Lib.hid hn
  clear hrow hrow0 hrow2 hok hok2 hl hx hall hnd hne hvl ha C hb1 hg hn h16 h1 hsz
  go_wp2_with fail
  refine S.out.mono ?_
  rintro e w2 ⟨rfl, HR, hg2⟩
  have HR := Lib.hid HR
  have hb2 : Below w.heap.size w w2 := HB.out.grown hg2 HB.out.size (fun k hk => by injection hk with hk; subst hk; exact HG.out)
  go_wp2_with fail
  go_ret
  obtain ⟨vs, ho⟩ := HR.out
  rw [HN.out] at ho
  exact ⟨_, rfl, ⟨vs, ho⟩, hb2⟩

set_option maxRecDepth 100000 in
set_option maxHeartbeats 1000000 in
theorem implClasses_any (A : Option Addr) (n c B0 : Nat) (zs : List Int) (w : World) (h : Rd w B0 A n zs) (hB0 : B0 ≤ w.heap.size) (hb : n ≤ 1048576) :
    Calls Try.prog 34 #[.slice A n c] w fun e w' => ∃ v vs, e = .returned (.tuple #[v, .bool (fvB zs)]) ∧ OwnRows w' w.heap.size v vs (rowsN zs) ∧ Below w.heap.size w w' := by
  have R := Lib.hid (nodesOf_any A n c B0 zs w h hB0 hb)
  have hln := Lib.hid h.1
  have hq := fun (w : World) (a : Option Addr) (n c : Nat) => Lib.run_eql_slice_nil (P := Try.prog) w 84 89 a n c 0 0 Try.underlying84
  go_enter Try.func34, Try.ntmps34
  go_wp2_with fail
  refine R.out.mono ?_
  rintro e w1 ⟨hb1, ⟨hv, rfl⟩ | ⟨hv, rfl, hN, hlt⟩⟩
  · have HV := Lib.hid hv
    clear hv
    go_wp2_with fail
    go_ret2
    refine ⟨.slice none 0 0, [], ?_, ?_, hb1⟩
    · rw [HV.out]; rfl
    · rw [rowsN_no HV.out]; exact OwnRows.ofNil _ _
  · have C := Lib.hid (byRoot_any w.heap.size n zs w1 hN hlt hv hln.out)
    have HV := Lib.hid hv
    have hsz1 := hb1.size
    clear hv hN
    go_wp2_with fail
    refine C.out.mono ?_
    rintro e w2 ⟨rfl, ⟨D, hown, ht⟩, hb2⟩
    have hsz2 := hb2.size
    have hlt2 : w1.heap.size < w2.heap.size := by obtain ⟨es, clock, a1, _⟩ := hown; exact (Array.getElem?_eq_some_iff.1 a1).1
    have HO := Lib.hid hown
    have HT := Lib.hid ht
    clear hown ht
    go_wp2_with fail
    refine (values_any _ w2).mono ?_
    rintro e w3 ⟨rfl, hw3⟩
    have hm : w3.cell? ⟨w2.heap.size, 0, none⟩ = some (.map (some w1.heap.size)) := by rw [hw3]; exact (box_new w2 _ _).1
    have hb3 : Below w2.heap.size w2 w3 := by rw [hw3]; exact (Below.refl _ _).alloc (Nat.le_refl _) _
    have hs3 : w2.heap.size < w3.heap.size := by rw [hw3]; simp
    have hown3 : w3.ownsGroups Try.prog 3 (w1.heap.size + 1) 3 .i64 w1.heap.size n D := HO.out.kept (grown_none hb3) (by simp) (HO.out.rowsAbove (fun j hj => by cases hj))
    have SF := Lib.hid (sortedFunc_any w2.heap.size w1.heap.size n (w1.heap.size + 1) w.heap.size zs D w3 HV.out hln.out hs3 hm hown3 HT.out (by omega) (by omega))
    have HB := Lib.hid (hb1.trans ((hb2.mono hsz1).trans (hb3.mono (by omega))))
    clear hw3 hm hb3 hown3 hb2 hb1
    go_wp2_with fail
    refine SF.out.mono ?_
    rintro e w4 ⟨v, rfl, ⟨vs, ho⟩, hb4⟩
    have HO4 := Lib.hid ho
    have HB4 := Lib.hid hb4
    clear ho hb4
    go_wp2_with fail
    go_ret2
    refine ⟨v, vs, ?_, ?_, HB.out.trans (HB4.out.mono (by omega))⟩
    · rw [HV.out]; rfl
    · rw [rowsN_yes HV.out, hln.out]; exact HO4.out
end Go.Proofs.Ytebgnaiibomjkaa
