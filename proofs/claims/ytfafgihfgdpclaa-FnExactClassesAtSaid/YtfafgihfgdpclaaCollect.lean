/- slices.AppendSeq and slices.Collect of slices of ints, over any iterator that is bounded: what came, in that order, in a row of the call's own. Condition: at most 1000 values. -/
import Derived.Test.YtfafgihfgdpclaaClass
import Derived.Test.YtfafgihfgdpclaaIter
import Derived.RangeFuncMany
import Derived.RangeFuncLeaves
import Derived.Sort.MapsRangeIn
import Derived.Sort.KeysCollected
import Derived.OwnWalkIn
import Derived.TacticsInMore
import Derived.RegionIn
import Derived.LoopNIn
import Derived.LoopIn
import Derived.Test.YtfafgihfgdpclaaImpl
import Derived.Test.YtfafgihfgdpclaaSpecClasses
namespace Go.Proofs.Ytfafgihfgdpclaa
open Go.RowKit Go.Maps Go.Sort Go.Shelf Go.ChangeShapes
attribute [local go_sem] Oper.semAt_some

/-- A slice value by its parts. -/
def slV (s : Option Addr × Nat × Nat) : Value := .slice s.1 s.2.1 s.2.2
/-- How the map's elements read. -/
abbrev Reads := Value → Option (DataW Unit × List MemPlace)
/-- The pair's second is the map's value at its first. -/
def ValAt (D0 : DataW Unit) (R : Reads) (p : Int × (Option Addr × Nat × Nat)) : Prop := ∃ y, R (slV p.2) = some y ∧ ∀ zd, D0.atKey (.int .i64 p.1) zd = y.1
/-- The keys met so far. -/
def Met (D0 : DataW Unit) (left : Lit → Bool) (ks : List Int) : Prop := ks.Nodup ∧ ∀ x, x ∈ ks ↔ (has D0 (.int .i64 x) = true ∧ left (.int .i64 x) = false)
theorem Met.start (D0 : DataW Unit) : Met D0 (has D0) [] := ⟨List.nodup_nil, fun x => by cases has D0 (.int .i64 x) <;> simp⟩
theorem Met.step {D0 : DataW Unit} {left : Lit → Bool} {ks : List Int} (h : Met D0 left ks) {x : Int} {y : DataW Unit} (hlk : left (.int .i64 x) = true) (hat : ∀ zd, D0.atKey (.int .i64 x) zd = y) : Met D0 (fun z => left z && !z.sameKey (.int .i64 x)) (ks ++ [x]) := by
  have hhas : has D0 (.int .i64 x) = true := has_true_of_atKey hat
  have hnew : x ∉ ks := fun hx => by have := ((h.2 x).1 hx).2; rw [hlk] at this; cases this
  refine ⟨List.nodup_append.2 ⟨h.1, by simp, fun a ha b hb => by simp at hb; subst hb; exact fun e => hnew (e ▸ ha)⟩, fun y => ?_⟩
  by_cases hy : y = x
  · subst hy; simp [hhas, Lit.sameKey]
  · simp [h.2 y, hy, Lit.sameKey]
/-- All have come; a part has come. -/
def AllVals (D0 : DataW Unit) (R : Reads) (ps : List (Int × (Option Addr × Nat × Nat))) : Prop := (ps.map (·.1)).Nodup ∧ (∀ x, x ∈ ps.map (·.1) ↔ has D0 (.int .i64 x) = true) ∧ ∀ p ∈ ps, ValAt D0 R p
def PartVals (D0 : DataW Unit) (R : Reads) (ps : List (Int × (Option Addr × Nat × Nat))) : Prop := ps.length ≤ Maps.size D0 ∧ (ps.map (·.1)).Nodup ∧ ∀ p ∈ ps, ValAt D0 R p

set_option maxRecDepth 100000 in
set_option maxHeartbeats 1000000 in
theorem values1_in (F : Fence) (n : Nat) (hf : F.fn 173) (hro : F.round = none) (_hn : 1 ≤ n) (l Bm b nn : Nat) (D0 : DataW Unit) (R : Reads) (hR0 : ∀ v y, R v = some y → ∃ c, v = slV c) (J Jx : List (Int × (Option Addr × Nat × Nat)) → World → Prop)
    (hY : ∀ pre x W, J pre W → pre.length < Maps.size D0 → YieldAt F (n - 1) Try.prog l #[slV x.2] W fun e W' =>
      (e = .returned (.bool true) ∧ J (pre ++ [x]) W' ∧ KeepsWalks W W') ∨ (e = .returned (.bool false) ∧ Jx (pre ++ [x]) W'))
    (W : World) (hJ : AbidesFrom W.heap.size J) (hm : W.cell? ⟨Bm, 0, none⟩ = some (.map (some b))) (hown : W.ownsMap Try.prog 3 R b nn D0) (h0 : J [] W) :
    CallsIn F n Try.prog 173 #[.func (.yield l) #[] #[], .pointer (some ⟨Bm, 0, none⟩)] W fun e W' => (∃ v, e = .returned v) ∧
      ((∃ ps, AllVals D0 R ps ∧ J ps W') ∨ (∃ pre, PartVals D0 R pre ∧ Jx pre W')) := by
  have HK : Keyed Try.prog 3 := int_keyed Try.underlying3
  refine callsIn_of_wp Try.func173 rfl hf ?_ hro
  simp only [Try.ntmps173, List.size_toArray, List.length_cons, List.length_nil, Nat.reduceAdd, Nat.reduceSub, Array.replicate_succ, Array.replicate_zero, List.push_toArray, List.append_toArray, List.nil_append, List.cons_append]
  gi_wp2_with (first
    | (gi_at_range; refine wpListIn_range_own _ rfl _ 142 rfl 3 23 HK Try.underlying142 _ b nn _ rfl hown ?_; intro w0 hrg0 hg0 hs0)
    | gi_in)
  go_frame
  gi_loopw [4] (fun _ wr => ∃ (left : Lit → Bool) (cnt : Nat) (ps : List (Int × (Option Addr × Nat × Nat))), wr.ranges Try.prog 3 R b W.heap.size nn D0 left cnt ∧ ps.length + cnt ≤ Maps.size D0 ∧ Met D0 left (ps.map (·.1)) ∧ (∀ p ∈ ps, ValAt D0 R p) ∧ J ps wr)
    (fun _ wr => wr.rangeLeft b W.heap.size)
  case atStart =>
    exact ⟨_, _, [], hrg0, by simp, Met.start D0, by simp, hJ [] W w0 none h0 hg0 (fun r e => by cases e)⟩
  case round =>
    obtain ⟨left, cnt, ps, hrg, hcs, hC, hV, hJs⟩ := hrel
    gi_wp2_with (first
      | (gi_at_next; refine wpListIn_next_ranges _ rfl _ rfl 3 HK R (Value.int .i64) slV (fun key kl hk => by obtain ⟨x, hx, _⟩ := Maps.keyOf_int_inv Try.underlying3 hk; exact ⟨x, hx⟩) hR0 b W.heap.size nn _ _ _ rfl hrg ?_ ?_)
      | gi_in)
    · intro hc0 hl0
      gi_wp2
      go_end0
      exact ⟨⟨_, rfl⟩, .inl ⟨ps, ⟨hC.1, fun x => by rw [hC.2 x, hl0]; simp, hV⟩, hJs⟩⟩
    · intro x A m cc kl yd yp w2 cnt2 hkey hlk hv hat hrg2 hlt hg2 hs2 hen
      obtain ⟨x', ex, rfl, _⟩ := Maps.keyOf_int_inv Try.underlying3 hkey
      obtain rfl : x = x' := by simpa using ex
      have hJ2 : J ps w2 := hJ ps wr w2 (some W.heap.size) hJs hg2 (fun r e => by cases e; exact ⟨Nat.le_refl _, hrg.iter_walk⟩)
      obtain ⟨fn, tmps, assign, body, hy, hR⟩ := hY ps (x, (A, m, cc)) w2 hJ2 (by omega)
      have hC2 : Met D0 (fun z => left z && !z.sameKey (.int .i64 x)) ((ps ++ [(x, (A, m, cc))]).map (·.1)) := by simpa using hC.step hlk hat
      have hV2 : ∀ p ∈ ps ++ [(x, (A, m, cc))], ValAt D0 R p := fun p hp => (List.mem_append.1 hp).elim (hV p) (fun e => by simp at e; subst e; exact ⟨_, hv, hat⟩)
      unfold slV at hen hy
      clear hs2
      gi_wp2
      refine hR.mono ?_
      rintro e W3 (⟨rfl, hJ3, hk3⟩ | ⟨rfl, hJx3⟩)
      · gi_wp2
        have hrg3 := hrg2.of_walks hk3
        go_roundw
        case rel => exact ⟨_, cnt2, ps ++ [(x, (A, m, cc))], hrg3, by simp; omega, hC2, hV2, hJ3⟩
        case measure => rw [hrg3.left_eq, hrg.left_eq]; exact hlt
      · gi_wp2
        refine bodyPost_ret (results_none rfl _ _ _) rfl ?_
        exact ⟨⟨_, rfl⟩, .inr ⟨ps ++ [(x, (A, m, cc))], ⟨by simp; omega, hC2.1, hV2⟩, hJx3⟩⟩

/-- maps.Values hands such an iterator. -/
theorem vals_seq (F : Fence) (n : Nat) (hf : F.fn 173) (hro : F.round = none) (hn : 1 ≤ n) (Bm b nn : Nat) (D0 : DataW Unit) (R : Reads) (hR0 : ∀ v y, R v = some y → ∃ c, v = slV c) (w : World) (hBm : Bm < w.heap.size) (hm : w.cell? ⟨Bm, 0, none⟩ = some (.map (some b))) (hown : w.ownsMap Try.prog 3 R b nn D0) :
    SeqOf F n Try.prog 173 #[.pointer (some ⟨Bm, 0, none⟩)] (fun p : Int × (Option Addr × Nat × Nat) => #[slV p.2]) KeepsWalks (AllVals D0 R) (fun pre => pre.length ≤ Maps.size D0) (Maps.size D0) w := fun l J Jx W hW hJ _ _ hY h0 => by
  have hown' : W.ownsMap Try.prog 3 R b nn D0 := by
    have hbl := hown.lt
    obtain ⟨es, clock, hb, Ft, hs, hD⟩ := hown
    exact ⟨es, clock, (hW.block b hbl).trans hb, Ft, hs, hD⟩
  refine (values1_in F n hf hro hn l Bm b nn D0 R hR0 J Jx (fun pre x W1 hJ1 hl => hY pre x W1 hJ1 (by simp; omega)) W hJ ((hW.cell (p := ⟨Bm, 0, none⟩) hBm).trans hm) hown' h0).mono ?_
  rintro e W' ⟨hv, ⟨ps, h1, h2⟩ | ⟨pre, h1, h2⟩⟩
  · exact ⟨hv, .inl ⟨ps, h1, h2⟩⟩
  · exact ⟨hv, .inr ⟨pre, h1.1, h2⟩⟩
end Go.Proofs.Ytfafgihfgdpclaa

namespace Go.Proofs.Ytfafgihfgdpclaa
open Go.RowKit Go.Maps Go.Shelf
attribute [local go_sem] Oper.semAt_some

/-- The values that came. -/
def vals (ps : List (Int × (Option Addr × Nat × Nat))) : List Value := ps.map fun p => slV p.2
theorem vals_snoc (ps : List (Int × (Option Addr × Nat × Nat))) (p : Int × (Option Addr × Nat × Nat)) : vals (ps ++ [p]) = vals ps ++ [slV p.2] := by simp [vals]
theorem vals_len (ps : List (Int × (Option Addr × Nat × Nat))) : (vals ps).length = ps.length := by simp [vals]
theorem row_form {W : World} {base n : Nat} {e : TypeId} {v : Value} {vs : List Value} (h : W.ownsRow base e 1 v n vs) : ∃ A c, v = .slice A n c := by
  rcases h.2 with ⟨hv, h0⟩ | ⟨g, cap, cur, hv, _⟩
  · exact ⟨none, 0, by rw [hv, h0]⟩
  · exact ⟨_, cap, hv⟩
/-- A box that holds a slice of the call's own, of slice values. -/
def HeldS (W : World) (B base : Nat) (vs : List Value) : Prop := ∃ A c, Boxed W B 43 (.slice A vs.length c) ∧ W.ownsRow base 23 1 (.slice A vs.length c) vs.length vs
theorem rowS_cells {W : World} {base n : Nat} {v : Value} {vs : List Value} (ho : W.ownsRow base 23 1 v n vs) : ∀ r o, v.ownBlock = some r → W.heap[r]? = some o → o.isCells = true := by
  intro r o hr hw
  rcases ho.2 with ⟨hv, _⟩ | ⟨g, cap, cur, hv, _, hh, _⟩
  · rw [hv] at hr; cases hr
  · rw [hv] at hr
    have : g = r := by simpa [Value.ownBlock] using hr
    subst this
    rw [hh] at hw
    injection hw with hw
    subst hw
    rfl
theorem heldS_from {β : Type} (B base B' : Nat) (f : β → List Value) : OwnFrom B' (fun s W => HeldS W B base (f s)) := by
  rintro s W W' row ⟨A, c, hb, ho⟩ hg hr
  refine ⟨A, c, Go.Own.from (boxed_own B 43 (fun _ : β => Value.slice A (f s).length c)) B' s W W' row hb hg hr, ho.kept hg ?_⟩
  cases hb : (Value.slice A (f s).length c).ownBlock with
  | none => exact .inl rfl
  | some g =>
    refine .inr fun e => ?_
    obtain ⟨_, o, ho', hc⟩ := hr g e.symm
    rw [rowS_cells ho g o hb ho'] at hc
    cases hc
set_option maxRecDepth 100000 in
set_option maxHeartbeats 2000000 in
theorem appendSeq_in (F : Fence) (n : Nat) (hF : ∀ f, F.fn f) (hro : F.round = none) (hn : 3 ≤ n) (g : Nat) (lb : Array Value) (eg : ∀ args w, (callFunc g args).run Try.prog w = .ok (.enter g args) w)
    (S Sp : List (Int × (Option Addr × Nat × Nat)) → Prop) (M : Nat) (hM : M ≤ 1000) (hSp : ∀ pre, Sp pre → pre.length ≤ M) (w : World) (hseq : ∀ w', Below w.heap.size w w' → SeqOf F (n - 1) Try.prog g lb (fun p : Int × (Option Addr × Nat × Nat) => #[slV p.2]) KeepsWalks S Sp M w') :
    CallsIn F n Try.prog 194 #[.slice none 0 0, .func (.func g) #[] lb] w fun e w' => ∃ v ps, e = .returned v ∧ S ps ∧ w'.ownsRow w.heap.size 23 1 v (vals ps).length (vals ps) ∧ Below w.heap.size w w' := by
  have h1 : 1 ≤ n := by omega
  obtain ⟨i0, hi0, hz0, hz1, hz2⟩ := info_parts Try.info_ints
  refine callsIn_of_wp_marks Try.func194 rfl (hF _) ?_ hro
  simp only [Try.ntmps194, List.size_toArray, List.length_cons, List.length_nil, Nat.reduceAdd, Nat.reduceSub, Array.replicate_succ, Array.replicate_zero, List.push_toArray, List.append_toArray, List.nil_append, List.cons_append]
  gi_wp2
  have bL := Boxed.new w 43 (.slice none 0 0)
  have hBw := (Below.refl w.heap.size w).alloc (Nat.le_refl _) (.cells #[.slice none 0 0] 43)
  have hs0 : (w.alloc (.cells #[.slice none 0 0] 43)).heap.size = w.heap.size + 1 := by simp
  have hq := hseq _ hBw
  generalize w.alloc (.cells #[.slice none 0 0] 43) = W0 at bL hBw hs0 hq
  refine wpIn_rangeFunc_seqOf hro h1 (gf := g) (lb := lb) rfl (hF _) eg hq KeepsWalks.trans (fun W l o o' _ h _ hw => KeepsWalks.putObj o' h hw) (fun _ => rfl)
    (fun pre W => HeldS W w.heap.size w.heap.size (vals pre) ∧ Below w.heap.size w W)
    (fun _ _ _ => False)
    (OwnFrom.and (heldS_from _ _ _ vals) (ownFrom_below (by omega) (by omega)))
    (fun _ _ _ _ _ hs _ _ => hs)
    (fun pre W hp _ => hSp pre hp) ⟨⟨none, 0, bL, World.ownsRow_nil _ _ _ _⟩, hBw⟩
    (fun x => { tmps := #[.slice none 0 0, .func (.func g) #[] lb, .pointer (some ⟨w.heap.size, 0, none⟩), undef, .slice none 0 0, slV x.2, .func (.func g) #[] lb, slV x.2, undef, undef, undef, undef, undef], defers := [] }) ?assign ?body ?done ?stop
  case assign =>
    intro l x W K hK
    gi_wp2
    exact hK
  case body =>
    rintro l pre x W ⟨⟨A2, c2, hL, ho⟩, hBe⟩ hp hsz
    have hpl := hSp _ hp
    rw [List.length_append] at hpl
    have hvl : (vals pre).length ≤ 1000 := by rw [vals_len]; omega
    have cL := hL.cell
    have fL := hL.frozen
    have hsz' : w.heap.size ≤ W.heap.size := hBe.size
    have hL5 := hL.alloc (.cells #[slV x.2] 23)
    have ho5 := ho.alloc (.cells #[slV x.2] 23)
    obtain ⟨kx, Ax, mx, cx⟩ := x
    have hsl : slV (kx, Ax, mx, cx).2 = .slice Ax mx cx := rfl
    rw [hsl] at hL5 ho5
    have HSL := Lib.hid hsl
    have hv5 := vals_snoc pre (kx, Ax, mx, cx)
    rw [hsl] at hv5 ⊢
    have HV5 := Lib.hid hv5
    have HL := Lib.hid hL
    have HL5 := Lib.hid hL5
    have HO5 := Lib.hid ho5
    have HO := Lib.hid ho
    clear hsl hv5 hL hL5 ho5 ho hp
    gi_wp2_with (gi_at_builtin; refine wpListIn_append_own _ rfl _ _ 43 rfl w.heap.size 23 i0 (.slice none 0 0) 1 24 Try.underlying43 hi0 hz0 hz1 hz2 rfl (by decide) _ _ _ rfl HO5.out ⟨W.heap.size, 0, none⟩ 1 1 [.slice Ax mx cx] rfl rfl (cell_one_new _ _ _) (by simp [Value.oneCell']) (by unfold maxLen; omega) (by omega) (by simp; omega) ?_; intro v' w' ho' hg' hnil'; obtain ⟨A3, c3, rfl⟩ := row_form ho'; have hL' := HL5.out.kept hg' (Boxed.not_row HL5.out (by decide) HO5.out); have cL' := hL'.cell; have fL' := hL'.frozen; have HG' := Lib.hid hg'; have HO' := Lib.hid ho'; have HL' := Lib.hid hL'; clear hg' ho' hnil' hL')
    have hg := (World.grownBy_alloc W (.cells #[.slice Ax mx cx] 23) _).trans HG'.out
    have hk1 : KeepsOthers W w' := KeepsOthers.of_grownBy hg (rowS_cells HO.out)
    have hk2 : KeepsWalks W w' := KeepsWalks.of_grownBy hg (fun j o hj ho => by
      have := rowS_cells HO.out j o hj ho
      cases o <;> simp_all [Obj.isCells, Obj.isWalk])
    have hb2 : Below w.heap.size w w' := hBe.grown hg hsz' (fun r e => (HO.out.lt r e).1)
    have e2 : (vals pre).length + 1 = (vals (pre ++ [(kx, Ax, mx, cx)])).length := by rw [HV5.out]; simp
    have hrow := HO'.out
    rw [← HV5.out, e2] at hrow
    rw [e2]
    exact ⟨(hk1.trans (KeepsOthers.setCell _ _ _)).from _, hk2.trans (KeepsWalks.setCell _ _ _), ⟨A3, c3, HL'.out.set _, ownsRow_setCell_other hrow (fun e => Boxed.not_row HL'.out (by decide) hrow e.symm) _⟩, hb2.setCell (p := ⟨w.heap.size, 0, none⟩) (Nat.le_refl _) _⟩
  case done =>
    rintro D xs W hD hS ⟨⟨A2, c2, hL, ho⟩, hBe⟩ hK
    have cL := hL.cell
    have HO := Lib.hid ho
    clear ho
    gi_wp2
    refine ⟨by simp, .inl ⟨_, _, rfl, run_takeDeferred hK, ?_⟩⟩
    refine ⟨_, results_tmp rfl _ _ _, ?_⟩
    have hb3 := belowK_b (w := w) (n₀ := w.heap.size) (Nat.le_refl _) W D _ (.deferred none) (by omega) hK rfl rfl
    refine ⟨_, xs, rfl, hS, HO.out.kept (grownBy_putObj' W D (.deferred none)) ?_, hBe.trans hb3⟩
    cases hb : (Value.slice A2 (vals xs).length c2).ownBlock with
    | none => exact .inl rfl
    | some r =>
      refine .inr fun e => ?_
      injection e with e
      subst e
      have := rowS_cells HO.out r _ hb hK
      simp [Obj.isCells] at this
  case stop =>
    rintro D q pre W _ _ h _
    exact h.elim
end Go.Proofs.Ytfafgihfgdpclaa

namespace Go.Proofs.Ytfafgihfgdpclaa
open Go.RowKit Go.Maps Go.Shelf
attribute [local go_sem] Oper.semAt_some

set_option maxRecDepth 100000 in
set_option maxHeartbeats 1000000 in
theorem collect_in (F : Fence) (n : Nat) (hF : ∀ f, F.fn f) (hro : F.round = none) (hn : 4 ≤ n) (g : Nat) (lb : Array Value) (eg : ∀ args w, (callFunc g args).run Try.prog w = .ok (.enter g args) w)
    (S Sp : List (Int × (Option Addr × Nat × Nat)) → Prop) (M : Nat) (hM : M ≤ 1000) (hSp : ∀ pre, Sp pre → pre.length ≤ M) (w : World) (hseq : ∀ w', Below w.heap.size w w' → SeqOf F (n - 1 - 1) Try.prog g lb (fun p : Int × (Option Addr × Nat × Nat) => #[slV p.2]) KeepsWalks S Sp M w') :
    CallsIn F n Try.prog 171 #[.func (.func g) #[] lb] w fun e w' => ∃ v ps, e = .returned v ∧ S ps ∧ w'.ownsRow w.heap.size 23 1 v (vals ps).length (vals ps) ∧ Below w.heap.size w w' := by
  have R := Lib.hid (appendSeq_in F (n - 1) hF hro (by omega) g lb eg S Sp M hM hSp w hseq)
  refine callsIn_of_wp Try.func171 rfl (hF _) ?_ hro
  simp only [Try.ntmps171, List.size_toArray, List.length_cons, List.length_nil, Nat.reduceAdd, Nat.reduceSub, Array.replicate_succ, Array.replicate_zero, List.push_toArray, List.append_toArray, List.nil_append, List.cons_append]
  gi_wp2_with fail
  refine ⟨fun _ => by omega, R.out.mono ?_⟩
  rintro e w1 ⟨v, ps, rfl, hS, ho, hb⟩
  gi_wp2_with fail
  go_ret
  exact ⟨_, ps, rfl, hS, ho, hb⟩

set_option maxRecDepth 100000 in
set_option maxHeartbeats 1000000 in
theorem values_any (mb : Option Nat) (w : World) :
    Calls Try.prog 118 #[.map mb] w fun e w' => e = .returned (.func (.func 173) #[] #[.pointer (some ⟨w.heap.size, 0, none⟩)]) ∧ w' = w.alloc (.cells #[.map mb] 142) := by
  go_enter Try.func118, Try.ntmps118
  go_wp2
  go_ret
  exact ⟨rfl, rfl⟩

theorem slice_of_row {w : World} {base : Nat} {e : TypeId} {v : Value} {zs : List Int} (h : w.ownsInts base e .i64 v zs) : ∃ c, v = slV c := by
  obtain ⟨A, c, e⟩ := row_form h.1
  exact ⟨(A, zs.length, c), e⟩

/-- slices.Collect(maps.Values(m)). -/
theorem collectVals_any (Bm b nn base : Nat) (D0 : DataW Unit) (w : World) (hBm : Bm < w.heap.size) (hm : w.cell? ⟨Bm, 0, none⟩ = some (.map (some b))) (hown : w.ownsGroups Try.prog 3 base 3 .i64 b nn D0) (hsz : Maps.size D0 ≤ 1000) :
    Calls Try.prog 171 #[.func (.func 173) #[] #[.pointer (some ⟨Bm, 0, none⟩)]] w fun e w' => ∃ v ps, e = .returned v ∧ AllVals D0 (rowElem w base 3 .i64) ps ∧ w'.ownsRow w.heap.size 23 1 v (vals ps).length (vals ps) ∧ Below w.heap.size w w' := by
  have hR0 : ∀ v y, rowElem (H := Unit) w base 3 .i64 v = some y → ∃ c, v = slV c := fun v y hv => by
    obtain ⟨zs, ho, _⟩ := rowElem_inv hv
    exact slice_of_row ho
  have hmap : w.ownsMap Try.prog 3 (rowElem (H := Unit) w base 3 .i64) b nn D0 := by
    obtain ⟨es, clock, h1, h2, h3, h4, _⟩ := hown
    exact ⟨es, clock, h1, h2, h3, h4⟩
  have hbl := hmap.lt
  refine (callsIn_wide (n := 6)).1 (collect_in Fence.wide 6 (fun _ => trivial) rfl (by omega) _ _ (enters_of Try.func173 (by kernel_rfl) rfl) _ _ (Maps.size D0) hsz (fun _ h => h) w fun w' hb => ?_)
  refine vals_seq Fence.wide _ trivial rfl (by omega) Bm b nn D0 _ hR0 w' (Nat.lt_of_lt_of_le hBm hb.size) ((hb.cell (p := ⟨Bm, 0, none⟩) hBm).trans hm) ?_
  obtain ⟨es, clock, h1, h2, h3, h4⟩ := hmap
  exact ⟨es, clock, (hb.block b hbl).trans h1, h2, h3, h4⟩
end Go.Proofs.Ytfafgihfgdpclaa
