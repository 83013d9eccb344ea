/- Slices of nodes' addresses that a call makes of its own: appending to them, reading them, and boxes that hold them. Condition: lengths up to 1048576. -/
import Derived.Test.YtemkbheplmimoaaImplWay
namespace Go.Proofs.Ytemkbheplmimoaa
open Go.RowKit Go.Shelf

/-- The addresses of items in block N. -/
def ptrs (N : Nat) (xs : List Nat) : List Value := xs.map fun x => Value.pointer (some (nadr N x))
theorem ptrs_len (N : Nat) (xs : List Nat) : (ptrs N xs).length = xs.length := by simp [ptrs]
theorem ptrs_snoc (N : Nat) (xs : List Nat) (x : Nat) : ptrs N (xs ++ [x]) = ptrs N xs ++ [.pointer (some (nadr N x))] := by simp [ptrs]
def OwnP (w : World) (base N : Nat) (v : Value) (xs : List Nat) : Prop := w.ownsRow base 94 1 v xs.length (ptrs N xs)
theorem Try.info_ptr : (Try.prog.info? 94).map (fun i => (i.zero, i.size, i.bytes)) = some (some (.pointer none), 1, 8) := by kernel_rfl

/-- The slice value reads as these addresses; its block lies below B and from base on. -/
def RdP (w : World) (base B N : Nat) (A : Option Addr) (n : Nat) (xs : List Nat) : Prop :=
  xs.length = n ∧ (0 < n → ∃ b off, A = some ⟨b, off, none⟩ ∧ (base ≤ b ∧ b < B) ∧ ∀ k, k < n → w.cell? ⟨b, off + k, none⟩ = some (.pointer (some (nadr N (xs[k]?.getD 0)))))
theorem OwnP.form {w : World} {base N : Nat} {v : Value} {xs : List Nat} (h : OwnP w base N v xs) : ∃ A c, v = .slice A xs.length c ∧ RdP w base w.heap.size N A xs.length xs := by
  rcases h.2 with ⟨hv, hx⟩ | ⟨g, cap, cur, hv, hbase, hh, hnc, hm, hsz, hcells⟩
  · have h0 : xs = [] := by simpa [ptrs] using hx
    subst h0
    exact ⟨none, 0, hv, rfl, fun h => absurd h (by simp)⟩
  · refine ⟨_, cap, hv, rfl, fun hn => ⟨g, 0, rfl, ⟨hbase, ?_⟩, fun k hk => ?_⟩⟩
    · exact (World.ownsRow.lt h g (by rw [hv]; rfl)).2
    · have := World.ownsRow.cells h (g := g) (by rw [hv]; rfl) k (.pointer (some (nadr N (xs[k]?.getD 0)))) (by simp [ptrs, hk])
      rw [add_zero_at] at this
      simpa using this
theorem OwnP.blockOf {w : World} {base N : Nat} {v : Value} {xs : List Nat} (h : OwnP w base N v xs) : ∀ k, v.ownBlock = some k → base ≤ k ∧ k < w.heap.size := World.ownsRow.lt h
theorem OwnP.kept {w w' : World} {base N : Nat} {v : Value} {xs : List Nat} {row : Option Nat} (h : OwnP w base N v xs) (hg : w.grownBy w' row) (hne : v.ownBlock = none ∨ v.ownBlock ≠ row) : OwnP w' base N v xs := World.ownsRow.kept h hg hne
theorem ownP_nil (w : World) (base N : Nat) : OwnP w base N (.slice none 0 0) [] := World.ownsRow_nil _ _ _ _

/-- 's = append(s, p)' of one address, inside a fence, as one step of a region that draws its order. -/
theorem stepIn_pushP {F : Fence} {n : Nat} {ops : Array Oper} {o : Oper} {a : Act} {K : Act → World → Prop} {Q : Exit → Act → World → Prop} {E : Prop} (hgd : o.guard = none) (s x : Operand)
    (ho : o.op = .call { callee := .builtin .append, args := #[s, x], argTypes := #[161, 161] }) (w W : World) (base N : Nat) (v : Value) (xs : List Nat) (z : Nat) (hW : W = w.alloc (.cells #[.pointer (some (nadr N z))] 94))
    (hs : a.eval s = v) (hx : a.eval x = .slice (some ⟨w.heap.size, 0, none⟩) 1 1) (hown : OwnP w base N v xs) (hlen : xs.length ≤ 1048576) (hbase : base ≤ w.heap.size)
    (h : ∀ v' w', OwnP w' base N v' (xs ++ [z]) → w.grownBy w' v.ownBlock → (v'.ownBlock = v.ownBlock ∨ ∃ g, v'.ownBlock = some g ∧ w.heap.size ≤ g) → K (a.put o.dst v') w') :
    if Region.wanted o (yielded ops a.tmps) = true then Oper.wpIn F n Try.prog o a W K Q else E := by
  obtain ⟨i0, hi, hz0, hz1, hz2⟩ := info_parts Try.info_ptr
  have hwd : Region.wanted o (yielded ops a.tmps) = true := by simp [Region.wanted, hgd]
  rw [if_pos hwd, hW]
  obtain ⟨v', w', hrun, h2, h3, _, h5⟩ := run_append_own_at (P := Try.prog) (w.alloc (.cells #[.pointer (some (nadr N z))] 94)) base 161 o.type 94 i0 (.pointer none) 1 8 Try.underlying161 hi hz0 hz1 hz2 rfl (by decide) v xs.length (ptrs N xs) (World.ownsRow.alloc hown _) ⟨w.heap.size, 0, none⟩ 1 1 [.pointer (some (nadr N z))] rfl (cell_one_new _ _ _) (by simp [Value.oneCell']) (by unfold maxLen; omega) (by omega) (by simp; omega)
  unfold Oper.wpIn
  refine ⟨by simp [Oper.about, ho, resolve, Target.leads, Sem.run_pure], ?_⟩
  rw [Oper.semAt_plain F _ _ (by rw [ho]; intro c hc'; cases hc')]
  simp [execOp, ho, resolve, invoke, builtin, hs, hx, hrun, Result.andThen]
  refine h v' w' (by unfold OwnP; rw [ptrs_snoc]; simpa using h2) (grown_then (World.grownBy_alloc w _ none) h3) ?_
  rcases h5 with h5 | h5
  · exact .inl h5
  · exact .inr ⟨_, h5, by simp⟩

/-- The same at a statement that draws no order. -/
theorem wpListIn_pushP {F : Fence} {n : Nat} {ops : Array Oper} {rest : List Oper} {o : Oper} {a : Act} {Q : Exit → Act → World → Prop} (hgd : o.guard = none) (s x : Operand)
    (ho : o.op = .call { callee := .builtin .append, args := #[s, x], argTypes := #[161, 161] }) (w : World) (base N : Nat) (v : Value) (xs : List Nat) (z : Nat)
    (hs : a.eval s = v) (hx : a.eval x = .slice (some ⟨w.heap.size, 0, none⟩) 1 1) (hown : OwnP w base N v xs) (hlen : xs.length ≤ 1048576) (hbase : base ≤ w.heap.size)
    (h : ∀ v' w', OwnP w' base N v' (xs ++ [z]) → w.grownBy w' v.ownBlock → wpListIn F n Try.prog ops Q rest (a.put o.dst v') w') :
    wpListIn F n Try.prog ops Q (o :: rest) a (w.alloc (.cells #[.pointer (some (nadr N z))] 94)) := by
  obtain ⟨i0, hi, hz0, hz1, hz2⟩ := info_parts Try.info_ptr
  refine wpListIn_append_own (w.alloc (.cells #[.pointer (some (nadr N z))] 94)) hgd s x 161 ho base 94 i0 (.pointer none) 1 8 Try.underlying161 hi hz0 hz1 hz2 rfl (by decide) v xs.length (ptrs N xs) hs (World.ownsRow.alloc hown _) ⟨w.heap.size, 0, none⟩ 1 1 [.pointer (some (nadr N z))] hx rfl (cell_one_new _ _ _) (by simp [Value.oneCell']) (by unfold maxLen; omega) (by omega) (by simp; omega) ?_
  intro v' w' h2 h3 _
  exact h v' w' (by unfold OwnP; rw [ptrs_snoc]; simpa using h2) (grown_then (World.grownBy_alloc w _ none) h3)

/-- A box that holds such a slice. -/
def HeldP (W : World) (B base N : Nat) (xs : List Nat) : Prop := ∃ A c, Boxed W B 161 (.slice A xs.length c) ∧ OwnP W base N (.slice A xs.length c) xs
theorem heldP_from {β : Type} (B base N B' : Nat) (f : β → List Nat) : OwnFrom B' (fun s W => HeldP W B base N (f s)) := by
  rintro s W W' row ⟨A, c, hb, ho⟩ hg hr
  refine ⟨A, c, Go.Own.from (boxed_own B 161 (fun _ : β => Value.slice A (f s).length c)) B' s W W' row hb hg hr, ho.kept hg ?_⟩
  rcases ho.2 with ⟨hv, _⟩ | ⟨g, cap, cur, hv, _, hh, _⟩
  · left; rw [hv]; rfl
  · right
    rw [hv]
    intro e
    obtain ⟨_, o, ho', hc⟩ := hr g e.symm
    rw [hh] at ho'
    injection ho' with ho'
    subst ho'
    simp [Obj.isCells] at hc
theorem heldP_row {W : World} {base N : Nat} {v : Value} {xs : List Nat} (ho : OwnP W base N v xs) : ∀ r o, v.ownBlock = some r → W.heap[r]? = some o → o.isCells = true := by
  intro r o hr hw
  rcases ho.2 with ⟨hv, _⟩ | ⟨g, cap, cur, hv, _, hh, _⟩
  · rw [hv] at hr; cases hr
  · rw [hv] at hr
    have : g = r := by simpa [Value.ownBlock] using hr
    subst this
    rw [hh] at hw
    injection hw with hw
    subst hw
    rfl
theorem ownP_setBox {W : World} {base N B : Nat} {v u u' : Value} {xs : List Nat} (ho : OwnP W base N v xs) (hb : Boxed W B 161 u) : OwnP (W.setCell ⟨B, 0, none⟩ u') base N v xs :=
  ownsRow_setCell_other ho (fun e => Boxed.not_row hb (by decide) ho e.symm) _
end Go.Proofs.Ytemkbheplmimoaa
