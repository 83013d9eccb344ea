/- The law FnExactFormatTimed returns true for every input, and every argument reads behind the call as it did: the given card, out of the walk in WFormatTimed. Conditions: the listed package-level variables read as the program's text lays them, which the card ties. -/
import Derived.Test.YtfmhdngblpmcfaaDoorWFormatTimed
import Derived.WalkKit
import Derived.ProofKit
import Derived.Test.YtfmhdngblpmcfaaDoorHelpQ
import Derived.Lib.SmallJoins
import Derived.Test.YtfmhdngblpmcfaaDoorClosed
import Derived.Test.YtfmhdngblpmcfaaDoorCards
import Derived.Test.YtfmhdngblpmcfaaDoorTie
import Derived.Deep.Strs
import Derived.LaidMore
import Derived.Lay
import Derived.SevenTiedAt
import Derived.Stop.Joined
import Derived.OpenShut
import Derived.ShutString
import Derived.ChangeOld
import Derived.Below
namespace Go.Proofs.YtfmhdngblpmcfaaDoor.fnExactFormatTimed
open Go.ChangeShapes Go.WideShapes Go.ChangeAt Go.RowKit
open Go.Joins
open Go.ChangeMaps (open_string shut_string)
set_option linter.unusedVariables false

theorem own : ownKnob Tryd.prog.godebug = none := by kernel_rfl
theorem laidOut : laidOutB Tryd.prog = true := head_laid.1

/-- WHAT THE WALK IS TOLD OF A SLICE OF INTEGERS THAT CAME IN: it is nil; or it leads to a row of 'cap' cells, the numbers 'zs' (the first 'len' are its elements, the rest its spare room), each fitting its kind. -/
def IsRow (k : IntKind) (w : World) (a : Option Addr) (len cap : Nat) (zs : List Int) : Prop :=
  (a = none ∧ len = 0 ∧ cap = 0 ∧ zs = []) ∨
  ∃ x, a = some x ∧ len ≤ cap ∧ cap ≤ maxLen ∧ zs.length = cap ∧ (∀ i, i < zs.length → w.cell? (x.add i) = some (.int k (zs.getD i 0))) ∧ ∀ n ∈ zs, (Lit.int k n).wf = true

/-! ### STEP 1: THE WALK: the Go text returns true, AND WRITES NOTHING THAT WAS THERE: 'Below w.heap.size w w'' (Derived/Below.lean: '.refl', '.alloc', '.drew', '.setCell' at a new block, '.trans'). Open each 'IsRow' by 'rcases' AHEAD of 'go_enter'; part every test ahead of the walk. -/
theorem walk (a0l : Option Addr) (len0l cap0l : Nat) (z0l : List Int) (a0r : Option Addr) (len0r cap0r : Nat) (z0r : List Int) (w : World) (w0l : Row .i64 w a0l len0l cap0l z0l) (w0r : Row .i64 w a0r len0r cap0r z0r) :
    Calls Tryd.prog 8 #[.agg #[.slice a0l len0l cap0l, .slice a0r len0r cap0r]] w fun e w' => e = .returned (.bool true) ∧ Below w.heap.size w w' := by
  exact exactFormatTimed _ _ _ _ _ _ _ _ _ w0l w0r

/-! ### THE ROW's STEP: WRITTEN OUT: LEAVE IT -/
set_option maxRecDepth 100000 in
theorem lifted (os : Os) (started : os.Started) (H : Type) (enc : TypeId × Value → H) :
    ReturnsInHanded {} Tryd.checked os 8 .any (fun w args => (Rows.fnExactFormatTimedSpec.pre enc Tryd.prog Tryd.f8 Rows.fnExactFormatTimedRow.domain false w args ∧ laidMetH Tryd.prog Rows.fnExactFormatTimedRow.laid w) ∧ sizedMet enc Tryd.prog Tryd.f8 (OpenSpec.ofChange Rows.fnExactFormatTimedSpec) false w args) (Rows.fnExactFormatTimedSpec.post enc Tryd.prog Tryd.f8 false true false false) := by
  refine returnsInHanded_of_change_and (C := Tryd.checked) (X := fun w _ => laidMetH Tryd.prog Rows.fnExactFormatTimedRow.laid w) (fun _ _ _ hh h => h.of_heap hh) own started (by kernel_rfl) Tryd.func8
    (ChangeSpec.witness_shaped (enc := enc) (C := Tryd.checked) (os := os) (X := fun w _ => laidMetH Tryd.prog Rows.fnExactFormatTimedRow.laid w) false (World.laidAll Tryd.prog os Rows.fnExactFormatTimedRow.laid) #[.agg #[.slice none 0 0, .slice none 0 0]] 8 (World.laidAll_os _ _ _)
      (World.shaped_of_ZipB (by kernel_rfl) (by kernel_rfl)) (by kernel_rfl) (by kernel_rfl) (by kernel_rfl)
      (by rw [MakeChecks.laidMetH_plain _ _ _ (by kernel_rfl)]; exact laidMet_laidAll _ (by kernel_rfl) (by kernel_rfl))) ?_
  intro W base args ds gs before hval0 hW hcnd _ hL _
  have hval : ∀ (j : Nat) t v, Tryd.f8.params[j]? = some t → args[j]? = some v → Value.okWide Tryd.prog W .any base t v := hval0
  have hW' := hW
  obtain ⟨p, q, hA0, hV, rfl, hfz, hnd⟩ := hW
  have hA : DataW.TrodAll enc Tryd.prog W 0 (fun _ => true) true Tryd.f8.params.toList args.toList ds p := hA0
  rw [Tryd.params8] at hA hval
  obtain ⟨v0, vs0, d0, ds0, p0, q0, hargs, rfl, rfl, h0, r0⟩ := trodAll_cons hA
  obtain ⟨rfl, rfl, rfl⟩ := trodAll_nil r0
  obtain rfl : args = #[v0] := by cases args; simp_all
  obtain ⟨rfl, rfl⟩ := trodVars_none hV
  have k0 := h0
  have lt0 : ∀ x ∈ p0, x.block < W.heap.size := by obtain ⟨m, hm⟩ := k0; exact DataW.trod_lt m _ _ _ hm
  obtain ⟨x0, y0, ex0, ey0, n0, rfl, _, _, hx0, hy0⟩ := open_agg2 Tryd.underlying61 (by kernel_rfl) (by kernel_rfl) (hval 0 61 v0 rfl rfl) h0
  obtain ⟨a0l, len0l, cap0l, z0l, rfl, w0l⟩ := open_ints_row Tryd.underlying22 Tryd.underlying3 (by kernel_rfl) hx0
  obtain ⟨a0r, len0r, cap0r, z0r, rfl, w0r⟩ := open_ints_row Tryd.underlying22 Tryd.underlying3 (by kernel_rfl) hy0
  clear hA0 hval0
  refine (walk a0l len0l cap0l z0l a0r len0r cap0r z0r W w0l w0r).mono fun e W' ⟨he, bel⟩ => ?_
  subst he
  exact ⟨_, rfl, _, _, _, [], _, [], hW', trodAll_mk1 (shut_bool Tryd.underlying4 _), (trodAll_cons_mk (Below.trod laidOut (by kernel_rfl) (of_decide_eq_true (by kernel_rfl)) k0 bel lt0) trodAll_mk0), rfl, bel.frame _, fun h => by cases h⟩

/-! ### The form's closed facts, one by one (together they outgrow the memory) -/
theorem factIn : (Rows.fnExactFormatTimedRow.inPlace == Tryd.prog.inPlace 8) = true := by kernel_rfl
theorem factUn : (Rows.fnExactFormatTimedRow.unfollowed == Tryd.prog.unfollowed 8) = true := by kernel_rfl
theorem factRe : (Rows.fnExactFormatTimedRow.recurses == Tryd.prog.recurses 8) = true := by kernel_rfl
theorem factNa : (Rows.fnExactFormatTimedRow.named == Tryd.prog.varsNamed 8) = true := by kernel_rfl
theorem factPl : (Rows.fnExactFormatTimedRow.plainKeys == Tryd.prog.plainKeys) = true := by rw [head_laid.2.2]; kernel_rfl
theorem closed : joinedFacts Tryd.prog 8 Tryd.f8 Rows.fnExactFormatTimedSpec Rows.fnExactFormatTimedRow = true :=
  joined_of (by kernel_rfl) head_laid.1 head_laid.2.1 (by kernel_rfl) (by kernel_rfl) (by kernel_rfl) head_stops (by kernel_rfl) head_knobs factIn factUn factRe factNa (by kernel_rfl) (by kernel_rfl) (by kernel_rfl) (by kernel_rfl) (by kernel_rfl) (by kernel_rfl) (by kernel_rfl) (by kernel_rfl) (by kernel_rfl) factPl (by kernel_rfl) head_heard head_enters head_final (by kernel_rfl) head_make (by kernel_rfl) (by kernel_rfl) (by kernel_rfl) (by kernel_rfl) (by kernel_rfl)

theorem over : Rows.fnExactFormatTimedRow.holds Tryd.pinned (OpenSpec.ofChange Rows.fnExactFormatTimedSpec) :=
  OpenClaim.holds_of_wide 8 Tryd.f8 rfl rfl rfl rfl rfl rfl rfl ⟨rfl, rfl, rfl, rfl, rfl⟩ rfl rfl rfl rfl rfl (by kernel_rfl) Tryd.func8 closed
    (of_decide_eq_true (by kernel_rfl)) (by unfold Func.isWrapper; first | (rw [if_pos (by decide +kernel)]; kernel_rfl) | (rw [if_neg (by decide +kernel)]; exact ⟨rfl, rfl⟩))
    (fun os started H enc _ => lifted os started H enc)

/-- THE CARD -/
theorem proved : Rows.FnExactFormatTimedCardSaid :=
  Claim7.holds_tied_plain_at .later [] [.data, .data, .data] true (true, "4ee7b83f57fee7337f954d65ef70157228c966e3b3dcea013df26bcf0419e2cb") false over (fun _ h => by cases h) (by kernel_rfl) (fun _ h => by cases h) fnExactFormatTimed_row_tie rfl ⟨rfl, rfl⟩ (by kernel_rfl) rfl
    (fun f fn hf hfn => by
      obtain rfl : f = 8 := Option.some.inj ((show Tryd.prog.funcNamed "loop.example/linkedroots/laws.FnExactFormatTimed" = some 8 by kernel_rfl).symm.trans hf) |>.symm
      obtain rfl : fn = Tryd.f8 := (Option.some.inj (Tryd.func8.symm.trans hfn)).symm
      exact ⟨by kernel_rfl, fun j t ht => by
        rw [Tryd.params8] at ht
        have hm : t ∈ [61] := by simpa using Array.mem_of_getElem? ht
        have hall : ([61].all fun u => !Tryd.prog.wantsStandIn u) = true := by kernel_rfl
        exact (show Tryd.prog.wantsStandIn t = false by simpa using List.all_eq_true.1 hall t hm)⟩)
    (by kernel_rfl)
end Go.Proofs.YtfmhdngblpmcfaaDoor.fnExactFormatTimed
