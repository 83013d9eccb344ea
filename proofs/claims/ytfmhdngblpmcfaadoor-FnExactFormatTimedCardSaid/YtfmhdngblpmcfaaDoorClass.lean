/- The program's map from roots to classes, and ClassOf. Condition: lengths up to 1048576. -/
import Derived.Test.YtfmhdngblpmcfaaDoorImpl
import Derived.Test.YtfmhdngblpmcfaaDoorForest
import Derived.Maps.OwnRows
import Derived.Maps.GroupsBeside
import Derived.Maps.OwnOps
import Derived.Maps.Views
namespace Go.Proofs.YtfmhdngblpmcfaaDoor
open Go.RowKit Go.Maps Go.ChangeShapes

/-- The items below k whose root is r, in order. -/
def cls (up : List Int) (r : Int) (k : Nat) : List Int := ((List.range k).filter fun i => (rootI up i : Int) == r).map fun i : Nat => (i : Int)
theorem cls_yes {up : List Int} {r : Int} {k : Nat} (h : (rootI up k : Int) = r) : cls up r (k + 1) = cls up r k ++ [(k : Int)] := by simp [cls, List.range_succ, List.filter_append, h]
theorem cls_no {up : List Int} {r : Int} {k : Nat} (h : (rootI up k : Int) ≠ r) : cls up r (k + 1) = cls up r k := by simp [cls, List.range_succ, List.filter_append, h]
theorem cls_len (up : List Int) (r : Int) (k : Nat) : (cls up r k).length ≤ k := by
  unfold cls
  rw [List.length_map]
  exact Nat.le_trans (List.length_filter_le _ _) (by simp)
/-- What ClassOf answers. -/
def clsN (up : List Int) (i : Int) : List Int := if itemB up i = true then cls up (rootN up i) up.length else []
theorem clsN_no {up : List Int} {i : Int} (h : itemB up i = false) : clsN up i = [] := by unfold clsN; rw [h]; simp
theorem clsN_yes {up : List Int} {i : Int} (h : itemB up i = true) : clsN up i = cls up (rootN up i) up.length := by unfold clsN; rw [if_pos h]
theorem clsN_len16 (up : List Int) (i : Int) : (clsN up i).length ≤ 16 := by
  cases hv : itemB up i with
  | false => rw [clsN_no hv]; simp
  | true =>
    rw [clsN_yes hv]
    have := cls_len up (rootN up i) up.length
    have := (fv_parts (item_fv hv)).2.1
    omega

/-- An element of the map reads as these numbers. -/
def Dat (d : DataW Unit) (xs : List Int) : Prop := (d = .nil ∧ xs = []) ∨ d = .slice (lits .i64 xs) []
theorem lits_inj : ∀ {xs ys : List Int}, (lits .i64 xs : List (DataW Unit)) = lits .i64 ys → xs = ys
  | [], [], _ => rfl
  | [], _ :: _, h => by simp [lits] at h
  | _ :: _, [], h => by simp [lits] at h
  | x :: xs, y :: ys, h => by
    simp only [lits, List.map_cons, List.cons.injEq, DataW.lit.injEq, Lit.int.injEq, true_and] at h
    rw [h.1, lits_inj (xs := xs) (ys := ys) h.2]
theorem dat_row {w : World} {base : Nat} {e : TypeId} {v : Value} {zs xs : List Int} {d : DataW Unit} (h : w.ownsInts base e .i64 v zs) (hd : d = rowDatum .i64 v zs) (hx : Dat d xs) : zs = xs := by
  rcases h.datum (H := Unit) with ⟨h1, h2⟩ | h1
  · rw [h1] at hd
    rcases hx with ⟨_, hx⟩ | hx
    · rw [h2, hx]
    · rw [hd] at hx; cases hx
  · rw [h1] at hd
    rcases hx with ⟨hx, _⟩ | hx
    · rw [hd] at hx; cases hx
    · rw [hd] at hx
      injection hx with hx
      exact lits_inj hx
theorem groups_map {w : World} {P : Program} {k : TypeId} {base : Nat} {e : TypeId} {q : IntKind} {b n : Nat} {D : DataW Unit} (h : w.ownsGroups P k base e q b n D) : IsMap D := by
  obtain ⟨es, clock, _, _, _, rfl, _⟩ := h
  exact ⟨_, rfl⟩
theorem int_key (r : Int) : WideAt.IsKeyLit (.int .i64 r) := by simp [WideAt.IsKeyLit]
/-- The map told so far. -/
def Told (up : List Int) (D : DataW Unit) (k : Nat) : Prop := ∀ r : Int, Dat (D.atKey (.int .i64 r) .nil) (cls up r k) ∧ (has D (.int .i64 r) = true ↔ cls up r k ≠ [])
theorem told_none (up : List Int) : Told up (.map []) 0 := fun _ => ⟨.inl ⟨rfl, rfl⟩, by simp [has, cls]⟩
theorem told_more {up : List Int} {D : DataW Unit} {k : Nat} {d : DataW Unit} (hD : IsMap D) (h : Told up D k) (hd : d = .slice (lits .i64 (cls up (rootI up k : Int) k ++ [(k : Int)])) []) : Told up (D.put (.int .i64 (rootI up k : Int)) d) (k + 1) := fun r => by
  by_cases e : (rootI up k : Int) = r
  · subst e
    rw [atKey_put_same hD (int_key _), has_put_same hD (int_key _), cls_yes rfl]
    exact ⟨.inr hd, by simp⟩
  · rw [atKey_put_other (fun h => e (by injection h with _ h; exact h.symm)), has_put_other (fun h => e (by injection h with _ h; exact h.symm)), cls_no e]
    exact h r
theorem grown_none {a b : World} (h : Below a.heap.size a b) : a.grownBy b none := ⟨h.os, h.tape, h.output, h.size, fun i hi _ => h.block i hi⟩

theorem zero_ints (w : World) : (zeroValue 22).run Tryd.prog w = .ok (.slice none 0 0) w := by kernel_rfl

end Go.Proofs.YtfmhdngblpmcfaaDoor