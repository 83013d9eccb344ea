/- Contracts whose results read, and that keep all that was there at the call. No condition. -/
import Derived.Test.YtfdkkcigmjonfaaRdR
namespace Go.Proofs.Ytfdkkcigmjonfaa
open Go.RowKit

theorem Below.on {a b c : World} (h : Below a.heap.size a b) (k : Below b.heap.size b c) : Below a.heap.size a c := h.trans (k.mono h.size)
theorem Rd.to {w w' : World} {A : Option Addr} {n : Nat} {zs : List Int} (h : Rd w w.heap.size A n zs) (hb : Below w.heap.size w w') : Rd w' w'.heap.size A n zs := (h.below hb (Nat.le_refl _)).more hb.size
theorem RdR.to {w w' : World} {A : Option Addr} {n : Nat} {zs : List (List Int)} (h : RdR w w.heap.size A n zs) (hb : Below w.heap.size w w') : RdR w' w'.heap.size A n zs := (h.below hb (Nat.le_refl _)).more hb.size

variable {P : Program} {f : FuncId} {args : Array Value} {w : World}
/-- A quiet one. -/
theorem q_of {r : Ending} (h : Calls P f args w fun e w' => e = r ∧ ∃ q, w' = w.drewN q) : Calls P f args w fun e w' => e = r ∧ Below w.heap.size w w' :=
  h.mono fun _ _ ⟨a, q, b⟩ => ⟨a, by rw [b]; exact below_drewN (Below.refl _ _) q⟩
theorem same_of {r : Ending} (h : Calls P f args w fun e w' => e = r ∧ w = w') : Calls P f args w fun e w' => e = r ∧ Below w.heap.size w w' :=
  h.mono fun _ _ ⟨a, b⟩ => ⟨a, by rw [b]; exact Below.refl _ _⟩
theorem rd_of {zs : List Int} (h : Calls P f args w fun e w' => ∃ v, e = .returned v ∧ Own w' w.heap.size v zs ∧ Below w.heap.size w w') :
    Calls P f args w fun e w' => ∃ A c, e = .returned (.slice A zs.length c) ∧ Rd w' w'.heap.size A zs.length zs ∧ Below w.heap.size w w' :=
  h.mono fun _ _ ⟨v, a, o, b⟩ => by
    obtain ⟨A, c, rfl, r⟩ := o.form
    exact ⟨A, c, a, r, b⟩
theorem rd2_of {zs : List Int} {x : Value} (h : Calls P f args w fun e w' => ∃ v, e = .returned (.tuple #[v, x]) ∧ Own w' w.heap.size v zs ∧ Below w.heap.size w w') :
    Calls P f args w fun e w' => ∃ A c, e = .returned (.tuple #[.slice A zs.length c, x]) ∧ Rd w' w'.heap.size A zs.length zs ∧ Below w.heap.size w w' :=
  h.mono fun _ _ ⟨v, a, o, b⟩ => by
    obtain ⟨A, c, rfl, r⟩ := o.form
    exact ⟨A, c, a, r, b⟩
theorem rows2_of {zss : List (List Int)} {x : Value} (hl : ∀ zs ∈ zss, zs.length ≤ 1048576) (h : Calls P f args w fun e w' => ∃ v vs, e = .returned (.tuple #[v, x]) ∧ OwnRows w' w.heap.size v vs zss ∧ Below w.heap.size w w') :
    Calls P f args w fun e w' => ∃ A c, e = .returned (.tuple #[.slice A zss.length c, x]) ∧ RdR w' w'.heap.size A zss.length zss ∧ Below w.heap.size w w' :=
  h.mono fun _ _ ⟨v, vs, a, o, b⟩ => by
    obtain ⟨A, c, rfl, r⟩ := o.form hl
    exact ⟨A, c, a, r, b⟩
theorem rows2_at {zss : List (List Int)} {x : Value} {n : Nat} (hn : n = zss.length) (hl : ∀ zs ∈ zss, zs.length ≤ 1048576) (h : Calls P f args w fun e w' => ∃ v vs, e = .returned (.tuple #[v, x]) ∧ OwnRows w' w.heap.size v vs zss ∧ Below w.heap.size w w') :
    Calls P f args w fun e w' => ∃ A c, e = .returned (.tuple #[.slice A n c, x]) ∧ RdR w' w'.heap.size A n zss ∧ Below w.heap.size w w' := by
  subst hn
  exact rows2_of hl h
end Go.Proofs.Ytfdkkcigmjonfaa
