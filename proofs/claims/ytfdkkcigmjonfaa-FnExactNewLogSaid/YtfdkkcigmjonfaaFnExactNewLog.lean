/- The law FnExactNewLog returns true for every input, and every argument reads behind the call as it did: the given statement, out of the walk in WNewLog. No condition beyond the statement's own. -/
import Derived.Test.YtfdkkcigmjonfaaWNewLog
import Derived.WalkKit
import Derived.Test.YtfdkkcigmjonfaaClosed
import Derived.ProofKit
import Derived.Below
import Derived.Carry
import Derived.OpenShut
import Derived.ShutString
namespace Go.Proofs.Ytfdkkcigmjonfaa.fnExactNewLog
open Go.ChangeShapes Go.WideShapes Go.ChangeAt Go.RowKit
open Go.ChangeMaps (open_string shut_string)
set_option linter.unusedVariables false      -- a walk need not use every 'w<i>' (that an integer argument fits its kind)

theorem own : ownKnob Try.prog.godebug = none := by kernel_rfl

/-! ### STEP 1: THE WALK: the Go text returns true. 'Grown w w'': the world has at most new blocks (Derived/RowKit3.lean). Part the cases AHEAD of 'go_enter' where a test parts the walk; take each callee by a contract of your own. -/
theorem walk (a0 : Int) (w0 : (Lit.int .i64 a0).wf = true) (w : World) :
    Calls Try.prog 25 #[.int .i64 a0] w fun e w' => e = .returned (.bool true) ∧ Below w.heap.size w w' := by
  exact exactNewLog _ _

/-! ### THE ROW's STEP: WRITTEN OUT: LEAVE IT -/
set_option maxRecDepth 100000 in
theorem lifted (os : Os) (started : os.Started) (H : Type) (enc : TypeId × Value → H) :
    ReturnsInHanded {} Try.checked os 25 .any (Rows.fnExactNewLogSpec.pre6 enc Try.prog Try.f25 Rows.fnExactNewLogRow.domain false) (Rows.fnExactNewLogSpec.post enc Try.prog Try.f25 false true false false) := by
  refine returnsInHanded_of_change (C := Try.checked) own started (by kernel_rfl) Try.func25
    (ChangeSpec.witness6 (enc := enc) (C := Try.checked) false ⟨#[], #[.int .i64 0], []⟩ 8 (by kernel_rfl) (by kernel_rfl) (by kernel_rfl) (by kernel_rfl)) ?_
  intro W base args ds gs before hval0 hW hcnd _
  have hval : ∀ (j : Nat) t v, Try.f25.params[j]? = some t → args[j]? = some v → Value.okWide Try.prog W .any base t v := hval0
  have hW' := hW
  obtain ⟨p, q, hA0, hV, rfl, hfz, hnd⟩ := hW
  have hA : DataW.TrodAll enc Try.prog W 0 (fun _ => true) true Try.f25.params.toList args.toList ds p := hA0
  rw [Try.params25] at hA hval
  obtain ⟨v0, vs0, d0, ds0, p0, q0, hargs, rfl, rfl, h0, r0⟩ := trodAll_cons hA
  obtain ⟨rfl, rfl, rfl⟩ := trodAll_nil r0
  obtain rfl : args = #[v0] := by cases args; simp_all
  obtain ⟨rfl, rfl⟩ := trodVars_none hV
  obtain ⟨a0, rfl, rfl, rfl, w0⟩ := open_int Try.underlying3 (hval 0 3 v0 rfl rfl) h0
  clear hA0 hval0
  simp only [List.append_nil] at hW'
  refine (walk a0 w0 W).mono fun e W' ⟨he, hg⟩ => ?_
  subst he
  exact ⟨_, rfl, _, _, _, [], _, [], hW', (trodAll_cons_mk (shut_bool Try.underlying4 _) trodAll_mk0), (trodAll_cons_mk (shut_int Try.underlying3 w0) trodAll_mk0), rfl, hg.frame _, fun h => by cases h⟩

/-! ### The form's closed facts, one by one (together they outgrow the memory) -/
theorem factIn : (Rows.fnExactNewLogRow.inPlace == Try.prog.inPlace 25) = true := by kernel_rfl
theorem factUn : (Rows.fnExactNewLogRow.unfollowed == Try.prog.unfollowed 25) = true := by kernel_rfl
theorem factRe : (Rows.fnExactNewLogRow.recurses == Try.prog.recurses 25) = true := by kernel_rfl
theorem factNa : (Rows.fnExactNewLogRow.named == Try.prog.varsNamed 25) = true := by kernel_rfl
theorem factPl : (Rows.fnExactNewLogRow.plainKeys == Try.prog.plainKeys) = true := by rw [head_laid.2.2]; kernel_rfl
theorem closed : joinedFacts Try.prog 25 Try.f25 Rows.fnExactNewLogSpec Rows.fnExactNewLogRow = true :=
  joined_of (by kernel_rfl) head_laid.1 head_laid.2.1 (by kernel_rfl) (by kernel_rfl) (by kernel_rfl) head_stops (by kernel_rfl) head_knobs factIn factUn factRe factNa (by kernel_rfl) (by kernel_rfl) (by kernel_rfl) (by kernel_rfl) (by kernel_rfl) (by kernel_rfl) (by kernel_rfl) (by kernel_rfl) (by kernel_rfl) factPl (by kernel_rfl) head_heard head_enters head_final (by kernel_rfl) head_make (by kernel_rfl) (by kernel_rfl) (by kernel_rfl) (by kernel_rfl) (by kernel_rfl)

theorem over : Rows.fnExactNewLogRow.holds Try.pinned (OpenSpec.ofChange Rows.fnExactNewLogSpec) :=
  OpenClaim.holds_of_wide 25 Try.f25 rfl rfl rfl rfl rfl rfl rfl ⟨rfl, rfl, rfl, rfl, rfl⟩ rfl rfl rfl rfl rfl (by kernel_rfl) Try.func25 closed
    (of_decide_eq_true (by kernel_rfl)) (by unfold Func.isWrapper; first | (rw [if_pos (by decide +kernel)]; kernel_rfl) | (rw [if_neg (by decide +kernel)]; exact ⟨rfl, rfl⟩))
    (fun os started H enc _ => lifted os started H enc)

/-- THE STATEMENT -/
theorem proved : Rows.FnExactNewLogSaid :=
  over
end Go.Proofs.Ytfdkkcigmjonfaa.fnExactNewLog
