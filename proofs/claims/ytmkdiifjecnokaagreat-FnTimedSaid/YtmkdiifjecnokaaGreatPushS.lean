/- Appending one step to a slice of steps. -/
import Derived.Test.YtmkdiifjecnokaaGreatPairs
namespace Go.Proofs.YtmkdiifjecnokaaGreat
open Go.RowKit

/-- 's = append(s, p)' of one step. -/
theorem wpList_pushS {ops : Array Oper} {rest : List Oper} {o : Oper} {a : Act} {Q : Exit → Act → World → Prop} (hgd : o.guard = none) (s x : Operand)
    (ho : o.op = .call { callee := .builtin .append, args := #[s, x], argTypes := #[45, 45] }) (w : World) (base : Nat) (v : Value) (ps : List (Int × Int)) (x1 x2 : Int)
    (hs : a.eval s = v) (hx : a.eval x = .slice (some ⟨w.heap.size, 0, none⟩) 1 1) (hown : OwnQ 52 w base v ps) (hlen : ps.length ≤ 1048576) (hbase : base ≤ w.heap.size)
    (h : ∀ v' w', OwnQ 52 w' base v' (ps ++ [(x1, x2)]) → w.grownBy w' v.ownBlock → (v'.ownBlock = v.ownBlock ∨ ∃ g, v'.ownBlock = some g ∧ w.heap.size ≤ g) → wpList Tryz.prog ops Q rest (a.put o.dst v') w') :
    wpList Tryz.prog ops Q (o :: rest) a (w.alloc (.cells #[.int .i64 x1, .int .i64 x2] 52)) := by
  obtain ⟨i0, hi, hz0, hz1, hz2⟩ := info_parts Tryz.info_step
  refine wpList_plain hgd fun _ hK => ?_
  have hnew : ∀ j u, [Value.int .i64 x1, Value.int .i64 x2][j]? = some u → (w.alloc (.cells #[.int .i64 x1, .int .i64 x2] 52)).cell? ((⟨w.heap.size, 0, none⟩ : Addr).add j) = some u := by
    intro j u hu
    rw [add_zero_at, Nat.zero_add]
    have h0 := heap_alloc_new w (.cells #[.int .i64 x1, .int .i64 x2] 52)
    unfold World.cell?
    rw [h0]
    rcases (show j = 0 ∨ j = 1 ∨ 2 ≤ j by omega) with rfl | rfl | hj
    · simpa using hu
    · simpa using hu
    · rw [List.getElem?_eq_none (by simpa using hj)] at hu; cases hu
  obtain ⟨v', w', hrun, h2, h3, _, h5⟩ := run_append_own_at (P := Tryz.prog) (w.alloc (.cells #[.int .i64 x1, .int .i64 x2] 52)) base 45 o.type 52 i0 (.agg #[.int .i64 0, .int .i64 0]) 2 16 Tryz.underlying45 hi hz0 hz1 hz2 rfl (by decide) v ps.length (qcells ps) (World.ownsRow.alloc hown _) ⟨w.heap.size, 0, none⟩ 1 1 [.int .i64 x1, .int .i64 x2] rfl hnew (by simp [Value.oneCell']) (by unfold maxLen; omega) (by omega) (by simp; omega)
  unfold Oper.wp execOp
  simp only [ho, resolve, invoke, builtin, Sem.run_bind, Sem.run_pure, Result.andThen_ok, List.map_toArray, List.map_cons, List.map_nil, hs, hx, hrun]
  refine hK _ _ (h v' w' (by unfold OwnQ; rw [qcells_append]; simpa [qcells_cons, qcells_nil] using h2) (grown_then (World.grownBy_alloc w _ none) h3) ?_)
  rcases h5 with h5 | h5
  · exact .inl h5
  · exact .inr ⟨_, h5, by simp⟩
end Go.Proofs.YtmkdiifjecnokaaGreat
