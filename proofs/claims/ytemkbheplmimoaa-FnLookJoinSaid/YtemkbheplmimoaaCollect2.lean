/- slices.Collect(maps.Values(m)) at the map of classes: the values, each once, in some order, in a row of the call's own. Condition: at most 1000 entries. -/
import Derived.Test.YtemkbheplmimoaaCollect
namespace Go.Proofs.Ytemkbheplmimoaa
open Go.RowKit Go.Maps Go.Shelf
attribute [local go_sem] Oper.semAt_some

set_option maxRecDepth 100000 in
set_option maxHeartbeats 1000000 in
theorem collect_in (F : Fence) (n : Nat) (hF : ∀ f, F.fn f) (hro : F.round = none) (hn : 4 ≤ n) (g : Nat) (lb : Array Value) (eg : ∀ args w, (callFunc g args).run Try.prog w = .ok (.enter g args) w)
    (S Sp : List (Int × (Option Addr × Nat × Nat)) → Prop) (M : Nat) (hM : M ≤ 1000) (hSp : ∀ pre, Sp pre → pre.length ≤ M) (w : World) (hseq : ∀ w', Below w.heap.size w w' → SeqOf F (n - 1 - 1) Try.prog g lb (fun p : Int × (Option Addr × Nat × Nat) => #[slV p.2]) KeepsWalks S Sp M w') :
    CallsIn F n Try.prog 143 #[.func (.func g) #[] lb] w fun e w' => ∃ v ps, e = .returned v ∧ S ps ∧ w'.ownsRow w.heap.size 23 1 v (vals ps).length (vals ps) ∧ Below w.heap.size w w' := by
  have R := Lib.hid (appendSeq_in F (n - 1) hF hro (by omega) g lb eg S Sp M hM hSp w hseq)
  refine callsIn_of_wp Try.func143 rfl (hF _) ?_ hro
  simp only [Try.ntmps143, List.size_toArray, List.length_cons, List.length_nil, Nat.reduceAdd, Nat.reduceSub, Array.replicate_succ, Array.replicate_zero, List.push_toArray, List.append_toArray, List.nil_append, List.cons_append]
  gi_wp2_with fail
  refine ⟨fun _ => by omega, R.out.mono ?_⟩
  rintro e w1 ⟨v, ps, rfl, hS, ho, hb⟩
  gi_wp2_with fail
  go_ret
  exact ⟨_, ps, rfl, hS, ho, hb⟩

set_option maxRecDepth 100000 in
set_option maxHeartbeats 1000000 in
theorem values_any (mb : Option Nat) (w : World) :
    Calls Try.prog 116 #[.map mb] w fun e w' => e = .returned (.func (.func 145) #[] #[.pointer (some ⟨w.heap.size, 0, none⟩)]) ∧ w' = w.alloc (.cells #[.map mb] 90) := by
  go_enter Try.func116, Try.ntmps116
  go_wp2
  go_ret
  exact ⟨rfl, rfl⟩

theorem slice_of_row {w : World} {base : Nat} {e : TypeId} {v : Value} {zs : List Int} (h : w.ownsInts base e .i64 v zs) : ∃ c, v = slV c := by
  obtain ⟨A, c, e⟩ := row_form h.1
  exact ⟨(A, zs.length, c), e⟩

/-- slices.Collect(maps.Values(m)). -/
theorem collectVals_any (Bm b nn base : Nat) (D0 : DataW Unit) (w : World) (hBm : Bm < w.heap.size) (hm : w.cell? ⟨Bm, 0, none⟩ = some (.map (some b))) (hown : w.ownsGroups Try.prog 3 base 3 .i64 b nn D0) (hsz : Maps.size D0 ≤ 1000) :
    Calls Try.prog 143 #[.func (.func 145) #[] #[.pointer (some ⟨Bm, 0, none⟩)]] w fun e w' => ∃ v ps, e = .returned v ∧ AllVals D0 (rowElem w base 3 .i64) ps ∧ w'.ownsRow w.heap.size 23 1 v (vals ps).length (vals ps) ∧ Below w.heap.size w w' := by
  have hR0 : ∀ v y, rowElem (H := Unit) w base 3 .i64 v = some y → ∃ c, v = slV c := fun v y hv => by
    obtain ⟨zs, ho, _⟩ := rowElem_inv hv
    exact slice_of_row ho
  have hmap : w.ownsMap Try.prog 3 (rowElem (H := Unit) w base 3 .i64) b nn D0 := by
    obtain ⟨es, clock, h1, h2, h3, h4, _⟩ := hown
    exact ⟨es, clock, h1, h2, h3, h4⟩
  have hbl := hmap.lt
  refine (callsIn_wide (n := 6)).1 (collect_in Fence.wide 6 (fun _ => trivial) rfl (by omega) _ _ (enters_of Try.func145 (by kernel_rfl) rfl) _ _ (Maps.size D0) hsz (fun _ h => h) w fun w' hb => ?_)
  refine vals_seq Fence.wide _ trivial rfl (by omega) Bm b nn D0 _ hR0 w' (Nat.lt_of_lt_of_le hBm hb.size) ((hb.cell (p := ⟨Bm, 0, none⟩) hBm).trans hm) ?_
  obtain ⟨es, clock, h1, h2, h3, h4⟩ := hmap
  exact ⟨es, clock, (hb.block b hbl).trans h1, h2, h3, h4⟩
end Go.Proofs.Ytemkbheplmimoaa
