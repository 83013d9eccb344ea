/- The members of a joining in memory: for each item its node's address, a size, a height; what a store makes of them. No condition. -/
import Derived.Test.YtemkbheplmimoaaImplWay
import Derived.Test.YtemkbheplmimoaaSizeL
import Derived.Laws.Rows
namespace Go.Proofs.Ytemkbheplmimoaa
open Go.RowKit Go.Shelf

/-- Block M holds the members of n items, those below k with the addresses of their nodes in block N. -/
def MemK (W : World) (M N n k : Nat) (sz ht : Nat → Nat) : Prop :=
  ∃ cur : Array Value, W.heap[M]? = some (.cells cur 114 (0, 0)) ∧ ∀ x, x < n →
    cur[x * 3]? = some (.pointer (if x < k then some (nadr N x) else none)) ∧ cur[x * 3 + 1]? = some (.int .i64 (sz x : Int)) ∧ cur[x * 3 + 2]? = some (.int .i64 (ht x : Int))
theorem MemK.lt {W : World} {M N n k : Nat} {sz ht : Nat → Nat} (h : MemK W M N n k sz ht) : M < W.heap.size := by
  obtain ⟨cur, hb, _⟩ := h
  exact (Array.getElem?_eq_some_iff.1 hb).1
theorem MemK.cells {W : World} {M N n k : Nat} {sz ht : Nat → Nat} (h : MemK W M N n k sz ht) {x : Nat} (hx : x < n) :
    (W.cell? ⟨M, x * 3, none⟩ = some (.pointer (if x < k then some (nadr N x) else none)) ∧ W.cell? ⟨M, x * 3 + 1, none⟩ = some (.int .i64 (sz x : Int)) ∧ W.cell? ⟨M, x * 3 + 2, none⟩ = some (.int .i64 (ht x : Int))) ∧
      W.frozen? ⟨M, x * 3, none⟩ = false ∧ W.frozen? ⟨M, x * 3 + 1, none⟩ = false ∧ W.frozen? ⟨M, x * 3 + 2, none⟩ = false := by
  obtain ⟨cur, hb, hc⟩ := h
  refine ⟨⟨?_, ?_, ?_⟩, ?_, ?_, ?_⟩
  · simp [World.cell?, hb, (hc x hx).1]
  · simp [World.cell?, hb, (hc x hx).2.1]
  · simp [World.cell?, hb, (hc x hx).2.2]
  all_goals simp [World.frozen?, hb]
theorem MemK.eq {W W' : World} {M N n k : Nat} {sz ht : Nat → Nat} (h : MemK W M N n k sz ht) (e : W'.heap[M]? = W.heap[M]?) : MemK W' M N n k sz ht := by
  obtain ⟨cur, hb, hc⟩ := h
  exact ⟨cur, e.trans hb, hc⟩
theorem MemK.below {W W' : World} {M N n k C : Nat} {sz ht : Nat → Nat} (h : MemK W M N n k sz ht) (hb : Below C W W') (hM : M < C) : MemK W' M N n k sz ht := h.eq (hb.block M hM)
theorem MemK.congr {W : World} {M N n k : Nat} {sz ht sz' ht' : Nat → Nat} (h : MemK W M N n k sz ht) (h1 : ∀ x, x < n → sz' x = sz x) (h2 : ∀ x, x < n → ht' x = ht x) : MemK W M N n k sz' ht' := by
  obtain ⟨cur, hb, hc⟩ := h
  refine ⟨cur, hb, fun x hx => ?_⟩
  rw [h1 x hx, h2 x hx]
  exact hc x hx
theorem at_set {cur : Array Value} {i j : Nat} {v : Value} (hi : i < cur.size) : (cur.setIfInBounds i v)[j]? = if i = j then some v else cur[j]? := by
  rw [Array.getElem?_setIfInBounds]
  by_cases h : i = j
  · rw [if_pos h, if_pos h, if_pos hi]
  · rw [if_neg h, if_neg h]
/-- The next node's address is stored. -/
theorem MemK.node {W : World} {M N n k : Nat} {sz ht : Nat → Nat} (h : MemK W M N n k sz ht) (hk : k < n) : MemK (W.setCell ⟨M, k * 3, none⟩ (.pointer (some (nadr N k)))) M N n (k + 1) sz ht := by
  obtain ⟨cur, hb, hc⟩ := h
  refine ⟨_, heap_set W M _ _ hb, fun x hx => ?_⟩
  obtain ⟨h1, h2, h3⟩ := hc x hx
  have hlt : k * 3 < cur.size := (Array.getElem?_eq_some_iff.1 (hc k hk).1).1
  refine ⟨?_, ?_, ?_⟩
  · rw [at_set hlt]
    by_cases e : x = k
    · subst e; rw [if_pos rfl, if_pos (Nat.lt_succ_self x)]
    · rw [if_neg (by omega), h1]
      by_cases hx2 : x < k
      · rw [if_pos hx2, if_pos (by omega)]
      · rw [if_neg hx2, if_neg (by omega)]
  · rw [at_set hlt, if_neg (by omega), h2]
  · rw [at_set hlt, if_neg (by omega), h3]
theorem MemK.size {W : World} {M N n k : Nat} {sz ht : Nat → Nat} (h : MemK W M N n k sz ht) {a : Nat} (ha : a < n) (z : Nat) : MemK (W.setCell ⟨M, a * 3 + 1, none⟩ (.int .i64 (z : Int))) M N n k (fun x => if x = a then z else sz x) ht := by
  obtain ⟨cur, hb, hc⟩ := h
  refine ⟨_, heap_set W M _ _ hb, fun x hx => ?_⟩
  obtain ⟨h1, h2, h3⟩ := hc x hx
  have hlt : a * 3 + 1 < cur.size := (Array.getElem?_eq_some_iff.1 (hc a ha).2.1).1
  refine ⟨?_, ?_, ?_⟩
  · rw [at_set hlt, if_neg (show ¬ a * 3 + 1 = x * 3 by omega), h1]
  · rw [at_set hlt]
    by_cases e : x = a
    · subst e; rw [if_pos rfl]; simp
    · rw [if_neg (show ¬ a * 3 + 1 = x * 3 + 1 by omega), h2]; simp [e]
  · rw [at_set hlt, if_neg (show ¬ a * 3 + 1 = x * 3 + 2 by omega), h3]
theorem MemK.height {W : World} {M N n k : Nat} {sz ht : Nat → Nat} (h : MemK W M N n k sz ht) {a : Nat} (ha : a < n) (z : Nat) : MemK (W.setCell ⟨M, a * 3 + 2, none⟩ (.int .i64 (z : Int))) M N n k sz (fun x => if x = a then z else ht x) := by
  obtain ⟨cur, hb, hc⟩ := h
  refine ⟨_, heap_set W M _ _ hb, fun x hx => ?_⟩
  obtain ⟨h1, h2, h3⟩ := hc x hx
  have hlt : a * 3 + 2 < cur.size := (Array.getElem?_eq_some_iff.1 (hc a ha).2.2).1
  refine ⟨?_, ?_, ?_⟩
  · rw [at_set hlt, if_neg (show ¬ a * 3 + 2 = x * 3 by omega), h1]
  · rw [at_set hlt, if_neg (show ¬ a * 3 + 2 = x * 3 + 1 by omega), h2]
  · rw [at_set hlt]
    by_cases e : x = a
    · subst e; rw [if_pos rfl]; simp
    · rw [if_neg (show ¬ a * 3 + 2 = x * 3 + 2 by omega), h3]; simp [e]
theorem MemK.other {W : World} {M N n k : Nat} {sz ht : Nat → Nat} (h : MemK W M N n k sz ht) {B : Nat} (hB : B ≠ M) (o : Nat) (v : Value) : MemK (W.setCell ⟨B, o, none⟩ v) M N n k sz ht :=
  h.eq (Below.heap_setCell W ⟨B, o, none⟩ v M (fun e => hB e.symm))
theorem MemK.alloc {W : World} {M N n k : Nat} {sz ht : Nat → Nat} (h : MemK W M N n k sz ht) (o : Obj) : MemK (W.alloc o) M N n k sz ht := h.eq (Below.heap_alloc W o M h.lt)
theorem MemK.new {W : World} {base g n c N : Nat} (h : W.ownsRow base 114 3 (.slice (some ⟨g, 0, none⟩) n c) n (madeCells #[.pointer none, .int .i64 0, .int .i64 0] (n * 3)).toList) : MemK W g N n 0 (fun _ => 0) (fun _ => 0) := by
  rcases h.2 with ⟨hv, _⟩ | ⟨g', cap, cur, hv, hbase, hh, hnc, hm, hsz, hcells⟩
  · simp at hv
  · simp only [Value.slice.injEq, Option.some.injEq, Addr.mk.injEq, and_true, true_and] at hv
    obtain ⟨rfl, rfl⟩ := hv
    refine ⟨cur, hh, fun x hx => ?_⟩
    have hget : ∀ j, j < n * 3 → cur[j]? = (madeCells #[.pointer none, .int .i64 0, .int .i64 0] (n * 3))[j]? := fun j hj => by
      rw [← Array.getElem?_toList, ← Array.getElem?_toList, ← hcells, List.getElem?_take_of_lt hj]
    rw [hget _ (by omega), hget _ (by omega), hget _ (by omega), if_neg (by omega)]
    refine ⟨?_, ?_, ?_⟩
    · simp [madeCells, show x * 3 < n * 3 by omega]
    · simp [madeCells, show x * 3 + 1 < n * 3 by omega, show (x * 3 + 1) % 3 = 1 by omega]
    · simp [madeCells, show x * 3 + 2 < n * 3 by omega, show (x * 3 + 2) % 3 = 2 by omega]
theorem mem_from {β : Type} (B M N n k : Nat) (sz ht : β → Nat → Nat) : OwnFrom B (fun s W => MemK W M N n k (sz s) (ht s)) := by
  intro s W W' row h hg hr
  have hl := h.lt
  obtain ⟨cur, hb, hc⟩ := h
  refine ⟨cur, (hg.block M hl fun e => ?_).trans hb, hc⟩
  obtain ⟨_, o, ho, hcc⟩ := hr M e.symm
  rw [hb] at ho
  injection ho with ho
  subst ho
  simp [Obj.isCells] at hcc
theorem Try.info_member : (Try.prog.info? 114).map (fun i => (i.zero, i.size, i.bytes)) = some (some (.agg #[.pointer none, .int .i64 0, .int .i64 0]), 3, 24) := by kernel_rfl
end Go.Proofs.Ytemkbheplmimoaa
