/- The program's functions of chapter 1 that answer a number or a truth: nodeOf, ForestValid, RootOf, Together, DeepestOf. Condition: lengths up to 1048576. -/
import Derived.Test.YtfmhdngblpmcfaaDoorNodes
import Derived.WalkSpells
import Derived.WalkLawsBesides
namespace Go.Proofs.YtfmhdngblpmcfaaDoor
open Go.RowKit

set_option maxRecDepth 100000 in
set_option maxHeartbeats 1000000 in
theorem implValid_any (A : Option Addr) (n c B0 : Nat) (zs : List Int) (w : World) (h : Rd w B0 A n zs) (hB0 : B0 ≤ w.heap.size) (hb : n ≤ 1048576) :
    Calls Tryd.prog 40 #[.slice A n c] w fun e w' => e = .returned (.bool (fvB zs)) ∧ Below w.heap.size w w' := by
  have R := Lib.hid (nodesOf_any A n c B0 zs w h hB0 hb)
  go_enter Tryd.func40, Tryd.ntmps40
  go_wp2_with fail
  refine R.out.mono ?_
  rintro e w1 ⟨hb1, ⟨hv, rfl⟩ | ⟨hv, rfl, _, _⟩⟩
  · have HV := Lib.hid hv
    clear hv
    go_wp2
    go_ret
    exact ⟨ret_bool HV.out.symm, hb1⟩
  · have HV := Lib.hid hv
    clear hv
    go_wp2
    go_ret
    exact ⟨ret_bool HV.out.symm, hb1⟩

end Go.Proofs.YtfmhdngblpmcfaaDoor
namespace Go.Proofs.YtfmhdngblpmcfaaDoor
open Go.RowKit Go.Shelf
attribute [local go_sem] Oper.semAt_some
/-- A box that holds a slice of the call's own. -/
def Held (W : World) (B base : Nat) (zs : List Int) : Prop := ∃ A c, Boxed W B 22 (.slice A zs.length c) ∧ Go.Proofs.YtfmhdngblpmcfaaDoor.Own W base (.slice A zs.length c) zs
theorem held_from {β : Type} (B base B' : Nat) (f : β → List Int) : OwnFrom B' (fun s W => Held W B base (f s)) := by
  rintro s W W' row ⟨A, c, hb, ho⟩ hg hr
  refine ⟨A, c, Go.Own.from (boxed_own B 22 (fun _ : β => Value.slice A (f s).length c)) B' s W W' row hb hg hr, ho.kept hg ?_⟩
  rcases ho.2 with ⟨hv, _⟩ | ⟨g, cap, cur, hv, _, hh, _⟩
  · left; rw [hv]; rfl
  · right
    rw [hv]
    intro e
    obtain ⟨_, o, ho', hc⟩ := hr g e.symm
    rw [hh] at ho'
    injection ho' with ho'
    subst ho'
    simp [Obj.isCells] at hc

theorem held_row {W : World} {base : Nat} {v : Value} {zs : List Int} (ho : Go.Proofs.YtfmhdngblpmcfaaDoor.Own W base v zs) : ∀ r o, v.ownBlock = some r → W.heap[r]? = some o → o.isCells = true := by
  intro r o hr hw
  rcases ho.2 with ⟨hv, _⟩ | ⟨g, cap, cur, hv, _, hh, _⟩
  · rw [hv] at hr; cases hr
  · rw [hv] at hr
    have : g = r := by simpa [Value.ownBlock] using hr
    subst this
    rw [hh] at hw
    injection hw with hw
    subst hw
    rfl
theorem own_setBox {W : World} {base B : Nat} {v u u' : Value} {zs : List Int} (ho : Go.Proofs.YtfmhdngblpmcfaaDoor.Own W base v zs) (hb : Boxed W B 22 u) : Go.Proofs.YtfmhdngblpmcfaaDoor.Own (W.setCell ⟨B, 0, none⟩ u') base v zs :=
  ownsRow_setCell_other ho (fun e => Boxed.not_row hb (by decide) ho e.symm) _

end Go.Proofs.YtfmhdngblpmcfaaDoor