/- slices.AppendSeq and slices.Collect of slices of ints, over any iterator that is bounded: what came, in that order, in a row of the call's own. Condition: at most 1000 values. -/
import Derived.Test.YtemkbheplmimoaaVals
import Derived.Test.YtemkbheplmimoaaImplWay
import Derived.Test.YtemkbheplmimoaaSpecClasses
namespace Go.Proofs.Ytemkbheplmimoaa
open Go.RowKit Go.Maps Go.Shelf
attribute [local go_sem] Oper.semAt_some

/-- The values that came. -/
def vals (ps : List (Int × (Option Addr × Nat × Nat))) : List Value := ps.map fun p => slV p.2
theorem vals_snoc (ps : List (Int × (Option Addr × Nat × Nat))) (p : Int × (Option Addr × Nat × Nat)) : vals (ps ++ [p]) = vals ps ++ [slV p.2] := by simp [vals]
theorem vals_len (ps : List (Int × (Option Addr × Nat × Nat))) : (vals ps).length = ps.length := by simp [vals]
theorem row_form {W : World} {base n : Nat} {e : TypeId} {v : Value} {vs : List Value} (h : W.ownsRow base e 1 v n vs) : ∃ A c, v = .slice A n c := by
  rcases h.2 with ⟨hv, h0⟩ | ⟨g, cap, cur, hv, _⟩
  · exact ⟨none, 0, by rw [hv, h0]⟩
  · exact ⟨_, cap, hv⟩
/-- A box that holds a slice of the call's own, of slice values. -/
def HeldS (W : World) (B base : Nat) (vs : List Value) : Prop := ∃ A c, Boxed W B 52 (.slice A vs.length c) ∧ W.ownsRow base 23 1 (.slice A vs.length c) vs.length vs
theorem rowS_cells {W : World} {base n : Nat} {v : Value} {vs : List Value} (ho : W.ownsRow base 23 1 v n vs) : ∀ r o, v.ownBlock = some r → W.heap[r]? = some o → o.isCells = true := by
  intro r o hr hw
  rcases ho.2 with ⟨hv, _⟩ | ⟨g, cap, cur, hv, _, hh, _⟩
  · rw [hv] at hr; cases hr
  · rw [hv] at hr
    have : g = r := by simpa [Value.ownBlock] using hr
    subst this
    rw [hh] at hw
    injection hw with hw
    subst hw
    rfl
theorem heldS_from {β : Type} (B base B' : Nat) (f : β → List Value) : OwnFrom B' (fun s W => HeldS W B base (f s)) := by
  rintro s W W' row ⟨A, c, hb, ho⟩ hg hr
  refine ⟨A, c, Go.Own.from (boxed_own B 52 (fun _ : β => Value.slice A (f s).length c)) B' s W W' row hb hg hr, ho.kept hg ?_⟩
  cases hb : (Value.slice A (f s).length c).ownBlock with
  | none => exact .inl rfl
  | some g =>
    refine .inr fun e => ?_
    obtain ⟨_, o, ho', hc⟩ := hr g e.symm
    rw [rowS_cells ho g o hb ho'] at hc
    cases hc
set_option maxRecDepth 100000 in
set_option maxHeartbeats 2000000 in
theorem appendSeq_in (F : Fence) (n : Nat) (hF : ∀ f, F.fn f) (hro : F.round = none) (hn : 3 ≤ n) (g : Nat) (lb : Array Value) (eg : ∀ args w, (callFunc g args).run Try.prog w = .ok (.enter g args) w)
    (S Sp : List (Int × (Option Addr × Nat × Nat)) → Prop) (M : Nat) (hM : M ≤ 1000) (hSp : ∀ pre, Sp pre → pre.length ≤ M) (w : World) (hseq : ∀ w', Below w.heap.size w w' → SeqOf F (n - 1) Try.prog g lb (fun p : Int × (Option Addr × Nat × Nat) => #[slV p.2]) KeepsWalks S Sp M w') :
    CallsIn F n Try.prog 155 #[.slice none 0 0, .func (.func g) #[] lb] w fun e w' => ∃ v ps, e = .returned v ∧ S ps ∧ w'.ownsRow w.heap.size 23 1 v (vals ps).length (vals ps) ∧ Below w.heap.size w w' := by
  have h1 : 1 ≤ n := by omega
  obtain ⟨i0, hi0, hz0, hz1, hz2⟩ := info_parts Try.info_ints
  refine callsIn_of_wp_marks Try.func155 rfl (hF _) ?_ hro
  simp only [Try.ntmps155, List.size_toArray, List.length_cons, List.length_nil, Nat.reduceAdd, Nat.reduceSub, Array.replicate_succ, Array.replicate_zero, List.push_toArray, List.append_toArray, List.nil_append, List.cons_append]
  gi_wp2
  have bL := Boxed.new w 52 (.slice none 0 0)
  have hBw := (Below.refl w.heap.size w).alloc (Nat.le_refl _) (.cells #[.slice none 0 0] 52)
  have hs0 : (w.alloc (.cells #[.slice none 0 0] 52)).heap.size = w.heap.size + 1 := by simp
  have hq := hseq _ hBw
  generalize w.alloc (.cells #[.slice none 0 0] 52) = W0 at bL hBw hs0 hq
  refine wpIn_rangeFunc_seqOf hro h1 (gf := g) (lb := lb) rfl (hF _) eg hq KeepsWalks.trans (fun W l o o' _ h _ hw => KeepsWalks.putObj o' h hw) (fun _ => rfl)
    (fun pre W => HeldS W w.heap.size w.heap.size (vals pre) ∧ Below w.heap.size w W)
    (fun _ _ _ => False)
    (OwnFrom.and (heldS_from _ _ _ vals) (ownFrom_below (by omega) (by omega)))
    (fun _ _ _ _ _ hs _ _ => hs)
    (fun pre W hp _ => hSp pre hp) ⟨⟨none, 0, bL, World.ownsRow_nil _ _ _ _⟩, hBw⟩
    (fun x => { tmps := #[.slice none 0 0, .func (.func g) #[] lb, .pointer (some ⟨w.heap.size, 0, none⟩), undef, .slice none 0 0, slV x.2, .func (.func g) #[] lb, slV x.2, undef, undef, undef, undef, undef], defers := [] }) ?assign ?body ?done ?stop
  case assign =>
    intro l x W K hK
    gi_wp2
    exact hK
  case body =>
    rintro l pre x W ⟨⟨A2, c2, hL, ho⟩, hBe⟩ hp hsz
    have hpl := hSp _ hp
    rw [List.length_append] at hpl
    have hvl : (vals pre).length ≤ 1000 := by rw [vals_len]; omega
    have cL := hL.cell
    have fL := hL.frozen
    have hsz' : w.heap.size ≤ W.heap.size := hBe.size
    have hL5 := hL.alloc (.cells #[slV x.2] 23)
    have ho5 := ho.alloc (.cells #[slV x.2] 23)
    obtain ⟨kx, Ax, mx, cx⟩ := x
    have hsl : slV (kx, Ax, mx, cx).2 = .slice Ax mx cx := rfl
    rw [hsl] at hL5 ho5
    have HSL := Lib.hid hsl
    have hv5 := vals_snoc pre (kx, Ax, mx, cx)
    rw [hsl] at hv5 ⊢
    have HV5 := Lib.hid hv5
    have HL := Lib.hid hL
    have HL5 := Lib.hid hL5
    have HO5 := Lib.hid ho5
    have HO := Lib.hid ho
    clear hsl hv5 hL hL5 ho5 ho hp
    gi_wp2_with (gi_at_builtin; refine wpListIn_append_own _ rfl _ _ 52 rfl w.heap.size 23 i0 (.slice none 0 0) 1 24 Try.underlying52 hi0 hz0 hz1 hz2 rfl (by decide) _ _ _ rfl HO5.out ⟨W.heap.size, 0, none⟩ 1 1 [.slice Ax mx cx] rfl rfl (cell_one_new _ _ _) (by simp [Value.oneCell']) (by unfold maxLen; omega) (by omega) (by simp; omega) ?_; intro v' w' ho' hg' hnil'; obtain ⟨A3, c3, rfl⟩ := row_form ho'; have hL' := HL5.out.kept hg' (Boxed.not_row HL5.out (by decide) HO5.out); have cL' := hL'.cell; have fL' := hL'.frozen; have HG' := Lib.hid hg'; have HO' := Lib.hid ho'; have HL' := Lib.hid hL'; clear hg' ho' hnil' hL')
    have hg := (World.grownBy_alloc W (.cells #[.slice Ax mx cx] 23) _).trans HG'.out
    have hk1 : KeepsOthers W w' := KeepsOthers.of_grownBy hg (rowS_cells HO.out)
    have hk2 : KeepsWalks W w' := KeepsWalks.of_grownBy hg (fun j o hj ho => by
      have := rowS_cells HO.out j o hj ho
      cases o <;> simp_all [Obj.isCells, Obj.isWalk])
    have hb2 : Below w.heap.size w w' := hBe.grown hg hsz' (fun r e => (HO.out.lt r e).1)
    have e2 : (vals pre).length + 1 = (vals (pre ++ [(kx, Ax, mx, cx)])).length := by rw [HV5.out]; simp
    have hrow := HO'.out
    rw [← HV5.out, e2] at hrow
    rw [e2]
    exact ⟨(hk1.trans (KeepsOthers.setCell _ _ _)).from _, hk2.trans (KeepsWalks.setCell _ _ _), ⟨A3, c3, HL'.out.set _, ownsRow_setCell_other hrow (fun e => Boxed.not_row HL'.out (by decide) hrow e.symm) _⟩, hb2.setCell (p := ⟨w.heap.size, 0, none⟩) (Nat.le_refl _) _⟩
  case done =>
    rintro D xs W hD hS ⟨⟨A2, c2, hL, ho⟩, hBe⟩ hK
    have cL := hL.cell
    have HO := Lib.hid ho
    clear ho
    gi_wp2
    refine ⟨by simp, .inl ⟨_, _, rfl, run_takeDeferred hK, ?_⟩⟩
    refine ⟨_, results_tmp rfl _ _ _, ?_⟩
    have hb3 := belowK_b (w := w) (n₀ := w.heap.size) (Nat.le_refl _) W D _ (.deferred none) (by omega) hK rfl rfl
    refine ⟨_, xs, rfl, hS, HO.out.kept (grownBy_putObj' W D (.deferred none)) ?_, hBe.trans hb3⟩
    cases hb : (Value.slice A2 (vals xs).length c2).ownBlock with
    | none => exact .inl rfl
    | some r =>
      refine .inr fun e => ?_
      injection e with e
      subst e
      have := rowS_cells HO.out r _ hb hK
      simp [Obj.isCells] at this
  case stop =>
    rintro D q pre W _ _ h _
    exact h.elim
end Go.Proofs.Ytemkbheplmimoaa
