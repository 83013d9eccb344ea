/- The law FnExactForestAt returns true for every input, and every argument reads behind the call as it did: the given statement, out of the walk in WForestAt. No condition beyond the statement's own. -/
import Derived.Test.YtfafgihfgdpclaaWForestAt
import Derived.WalkKit
import Derived.Test.YtfafgihfgdpclaaClosed
import Derived.ProofKit
import Derived.Test.YtfafgihfgdpclaaHelpQ
import Derived.Lib.SmallJoins
import Derived.OpenShut
import Derived.ShutString
import Derived.ChangeOld
import Derived.Below
namespace Go.Proofs.Ytfafgihfgdpclaa.fnExactForestAt
open Go.ChangeShapes Go.WideShapes Go.ChangeAt Go.RowKit
open Go.Joins
open Go.ChangeMaps (open_string shut_string)
set_option linter.unusedVariables false

theorem own : ownKnob Try.prog.godebug = none := by kernel_rfl
theorem laidOut : laidOutB Try.prog = true := head_laid.1

/-- WHAT THE WALK IS TOLD OF A SLICE OF INTEGERS THAT CAME IN: it is nil; or it leads to a row of 'cap' cells, the numbers 'zs' (the first 'len' are its elements, the rest its spare room), each fitting its kind. -/
def IsRow (k : IntKind) (w : World) (a : Option Addr) (len cap : Nat) (zs : List Int) : Prop :=
  (a = none ∧ len = 0 ∧ cap = 0 ∧ zs = []) ∨
  ∃ x, a = some x ∧ len ≤ cap ∧ cap ≤ maxLen ∧ zs.length = cap ∧ (∀ i, i < zs.length → w.cell? (x.add i) = some (.int k (zs.getD i 0))) ∧ ∀ n ∈ zs, (Lit.int k n).wf = true

/-! ### STEP 1: THE WALK: the Go text returns true, AND WRITES NOTHING THAT WAS THERE: 'Below w.heap.size w w'' (Derived/Below.lean: '.refl', '.alloc', '.drew', '.setCell' at a new block, '.trans'). Open each 'IsRow' by 'rcases' AHEAD of 'go_enter'; part every test ahead of the walk. -/
theorem walk (a0l : Option Addr) (len0l cap0l : Nat) (z0l : List Int) (a0r : Option Addr) (len0r cap0r : Nat) (z0r : List Int) (a1 : Int) (w : World) (w0l : Row .i64 w a0l len0l cap0l z0l) (w0r : Row .i64 w a0r len0r cap0r z0r) (w1 : (Lit.int .i64 a1).wf = true) :
    Calls Try.prog 22 #[.agg #[.slice a0l len0l cap0l, .slice a0r len0r cap0r], .int .i64 a1] w fun e w' => e = .returned (.bool true) ∧ Below w.heap.size w w' := by
  exact exactForestAt _ _ _ _ _ _ _ _ _ _ w0l w0r

/-! ### THE ROW's STEP: WRITTEN OUT: LEAVE IT -/
set_option maxRecDepth 100000 in
theorem lifted (os : Os) (started : os.Started) (H : Type) (enc : TypeId × Value → H) :
    ReturnsInHanded {} Try.checked os 22 .any (Rows.fnExactForestAtSpec.pre6 enc Try.prog Try.f22 Rows.fnExactForestAtRow.domain false) (Rows.fnExactForestAtSpec.post enc Try.prog Try.f22 false true false false) := by
  refine returnsInHanded_of_change (C := Try.checked) own started (by kernel_rfl) Try.func22
    (ChangeSpec.witness6 (enc := enc) (C := Try.checked) false ⟨#[], #[.agg #[.slice none 0 0, .slice none 0 0], .int .i64 0], []⟩ 8 (by kernel_rfl) (by kernel_rfl) (by kernel_rfl) (by kernel_rfl)) ?_
  intro W base args ds gs before hval0 hW hcnd _
  have hval : ∀ (j : Nat) t v, Try.f22.params[j]? = some t → args[j]? = some v → Value.okWide Try.prog W .any base t v := hval0
  have hW' := hW
  obtain ⟨p, q, hA0, hV, rfl, hfz, hnd⟩ := hW
  have hA : DataW.TrodAll enc Try.prog W 0 (fun _ => true) true Try.f22.params.toList args.toList ds p := hA0
  rw [Try.params22] at hA hval
  obtain ⟨v0, vs0, d0, ds0, p0, q0, hargs, rfl, rfl, h0, r0⟩ := trodAll_cons hA
  obtain ⟨v1, vs1, d1, ds1, p1, q1, rfl, rfl, rfl, h1, r1⟩ := trodAll_cons r0
  obtain ⟨rfl, rfl, rfl⟩ := trodAll_nil r1
  obtain rfl : args = #[v0, v1] := by cases args; simp_all
  obtain ⟨rfl, rfl⟩ := trodVars_none hV
  have k0 := h0
  have lt0 : ∀ x ∈ p0, x.block < W.heap.size := by obtain ⟨m, hm⟩ := k0; exact DataW.trod_lt m _ _ _ hm
  obtain ⟨x0, y0, ex0, ey0, n0, rfl, _, _, hx0, hy0⟩ := open_agg2 Try.underlying91 (by kernel_rfl) (by kernel_rfl) (hval 0 91 v0 rfl rfl) h0
  obtain ⟨a0l, len0l, cap0l, z0l, rfl, w0l⟩ := open_ints_row Try.underlying23 Try.underlying3 (by kernel_rfl) hx0
  obtain ⟨a0r, len0r, cap0r, z0r, rfl, w0r⟩ := open_ints_row Try.underlying23 Try.underlying3 (by kernel_rfl) hy0
  obtain ⟨a1, rfl, rfl, rfl, w1⟩ := open_int Try.underlying3 (hval 1 3 v1 rfl rfl) h1
  clear hA0 hval0
  refine (walk a0l len0l cap0l z0l a0r len0r cap0r z0r a1 W w0l w0r w1).mono fun e W' ⟨he, bel⟩ => ?_
  subst he
  exact ⟨_, rfl, _, _, _, [], _, [], hW', trodAll_mk1 (shut_bool Try.underlying4 _), (trodAll_cons_mk (Below.trod laidOut (by kernel_rfl) (of_decide_eq_true (by kernel_rfl)) k0 bel lt0) (trodAll_cons_mk (shut_int Try.underlying3 w1) trodAll_mk0)), rfl, bel.frame _, fun h => by cases h⟩

/-! ### The form's closed facts, one by one (together they outgrow the memory) -/
theorem factIn : (Rows.fnExactForestAtRow.inPlace == Try.prog.inPlace 22) = true := by kernel_rfl
theorem factUn : (Rows.fnExactForestAtRow.unfollowed == Try.prog.unfollowed 22) = true := by kernel_rfl
theorem factRe : (Rows.fnExactForestAtRow.recurses == Try.prog.recurses 22) = true := by kernel_rfl
theorem factNa : (Rows.fnExactForestAtRow.named == Try.prog.varsNamed 22) = true := by kernel_rfl
theorem factPl : (Rows.fnExactForestAtRow.plainKeys == Try.prog.plainKeys) = true := by rw [head_laid.2.2]; kernel_rfl
theorem closed : joinedFacts Try.prog 22 Try.f22 Rows.fnExactForestAtSpec Rows.fnExactForestAtRow = true :=
  joined_of (by kernel_rfl) head_laid.1 head_laid.2.1 (by kernel_rfl) (by kernel_rfl) (by kernel_rfl) head_stops (by kernel_rfl) head_knobs factIn factUn factRe factNa (by kernel_rfl) (by kernel_rfl) (by kernel_rfl) (by kernel_rfl) (by kernel_rfl) (by kernel_rfl) (by kernel_rfl) (by kernel_rfl) (by kernel_rfl) factPl (by kernel_rfl) head_heard head_enters head_final (by kernel_rfl) head_make (by kernel_rfl) (by kernel_rfl) (by kernel_rfl) (by kernel_rfl) (by kernel_rfl)

theorem over : Rows.fnExactForestAtRow.holds Try.pinned (OpenSpec.ofChange Rows.fnExactForestAtSpec) :=
  OpenClaim.holds_of_wide 22 Try.f22 rfl rfl rfl rfl rfl rfl rfl ⟨rfl, rfl, rfl, rfl, rfl⟩ rfl rfl rfl rfl rfl (by kernel_rfl) Try.func22 closed
    (of_decide_eq_true (by kernel_rfl)) (by unfold Func.isWrapper; first | (rw [if_pos (by decide +kernel)]; kernel_rfl) | (rw [if_neg (by decide +kernel)]; exact ⟨rfl, rfl⟩))
    (fun os started H enc _ => lifted os started H enc)

/-- THE STATEMENT -/
theorem proved : Rows.FnExactForestAtSaid := over
end Go.Proofs.Ytfafgihfgdpclaa.fnExactForestAt
