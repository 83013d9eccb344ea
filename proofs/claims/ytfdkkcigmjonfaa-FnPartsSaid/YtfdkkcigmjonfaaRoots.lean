/- Roots and togetherness in valid forests: a root is its own root; togetherness is symmetric. No program, no condition. -/
import Derived.Test.YtfdkkcigmjonfaaForest
namespace Go.Proofs.Ytfdkkcigmjonfaa

theorem rootI_root {up : List Int} {r : Nat} (h : fvB up = true) (hs : step up r = none) : rootI up r = r := by
  have h1 := (fv_parts h).1
  unfold rootI wayOf
  obtain ⟨m, hm⟩ : ∃ m, up.length = m + 1 := ⟨up.length - 1, by omega⟩
  rw [hm]
  unfold way
  rw [hs]
  rfl
theorem root_facts {up : List Int} {a : Int} (h : itemB up a = true) : ∃ r : Nat, rootN up a = (r : Int) ∧ r < up.length ∧ itemB up (r : Int) = true ∧ rootN up (r : Int) = (r : Int) ∧ up[r]?.getD 0 = (r : Int) ∧ togB up a (r : Int) = true := by
  have hf := item_fv h
  have hl := item_lt h
  obtain ⟨j, rfl⟩ := Int.eq_ofNat_of_zero_le hl.1
  have hr := root_is hf (i := j) (by omega)
  have hi : itemB up (rootI up j : Int) = true := item_of hf (by omega) (by have := hr.1; omega)
  have he : rootN up (rootI up j : Int) = (rootI up j : Int) := by rw [rootN_yes hi, rootI_root hf hr.2]
  refine ⟨rootI up j, rootN_yes h, hr.1, hi, he, step_none hr.2, ?_⟩
  unfold togB
  rw [h, hi, rootN_yes h, he]
  simp
theorem togB_symm (up : List Int) (a b : Int) : togB up a b = togB up b a := by
  unfold togB
  rw [Bool.and_comm (itemB up a), Bool.beq_comm (a := rootN up a)]
theorem togB_both {up : List Int} {a b : Int} (ha : itemB up a = true) (hb : itemB up b = true) : togB up a b = (rootN up a == rootN up b) := by
  unfold togB
  rw [ha, hb]
  rfl
end Go.Proofs.Ytfdkkcigmjonfaa
