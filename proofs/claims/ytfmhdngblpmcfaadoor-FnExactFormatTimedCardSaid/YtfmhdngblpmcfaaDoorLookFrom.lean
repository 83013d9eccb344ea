/- The program's looking from several items: its parts and lookFrom. Condition: lengths up to 1048576. -/
import Derived.Test.YtfmhdngblpmcfaaDoorShort
import Derived.Test.YtfmhdngblpmcfaaDoorIter
import Derived.Test.YtfmhdngblpmcfaaDoorLook
import Derived.Laws.EntriesVeiled
import Derived.Deep.RegionWith
namespace Go.Proofs.YtfmhdngblpmcfaaDoor
open Go.RowKit Go.Shelf
attribute [local go_sem] Oper.semAt_some

theorem boxes3 (w : World) (t1 : TypeId) (v1 : Value) (t2 : TypeId) (v2 : Value) (t3 : TypeId) (v3 : Value) :
    ∃ W, W = ((w.alloc (.cells #[v1] t1)).alloc (.cells #[v2] t2)).alloc (.cells #[v3] t3) ∧ Boxed W w.heap.size t1 v1 ∧ Boxed W (w.heap.size + 1) t2 v2 ∧ Boxed W (w.heap.size + 1 + 1) t3 v3 ∧ Below w.heap.size w W ∧ W.heap.size = w.heap.size + 3 := by
  refine ⟨_, rfl, ((Boxed.new w _ _).alloc _).alloc _, ?_, ?_, (((Below.refl _ w).alloc (Nat.le_refl _) _).alloc (by simp) _).alloc (by simp; omega) _, by simp⟩
  · have := Boxed.new (w.alloc (.cells #[v1] t1)) t2 v2
    rw [World.size_alloc] at this
    exact this.alloc _
  · have := Boxed.new ((w.alloc (.cells #[v1] t1)).alloc (.cells #[v2] t2)) t3 v3
    rwa [World.size_alloc, World.size_alloc] at this
theorem chg_from {β : Type} {S : Nat → Prop} {w : World} (B : Nat) (hB : w.heap.size ≤ B) : OwnFrom B (fun (_ : β) W => Chg S w W) := by
  intro s W W' row h hg hr
  refine ⟨hg.os.trans h.os, hg.tape.trans h.tape, hg.output.trans h.output, Nat.le_trans h.size hg.size, fun k hk hn => (hg.block k (Nat.lt_of_lt_of_le hk h.size) (fun e => ?_)).trans (h.block k hk hn)⟩
  have := (hr k e.symm).1
  omega
theorem chg_keeps {S : Nat → Prop} {a b : World} {B : Nat} (h : Chg S a b) (hS : ∀ k, S k → k < B) : KeepsFrom B a b :=
  ⟨h.size, fun k o hb hk _ => (h.block k (Array.getElem?_eq_some_iff.1 hk).1 (fun hs => absurd (hS k hs) (by omega))).trans hk⟩
theorem Chg.to {S : Nat → Prop} {w a b : World} (h : Chg S w a) (k : Chg S a b) : Chg S w b := h.trans k
theorem chg_grown {S : Nat → Prop} {w a b : World} {row : Option Nat} (h : Chg S w a) (hg : a.grownBy b row) (hr : ∀ r, row = some r → w.heap.size ≤ r) : Chg S w b :=
  ⟨hg.os.trans h.os, hg.tape.trans h.tape, hg.output.trans h.output, Nat.le_trans h.size hg.size, fun k hk hn => (hg.block k (Nat.lt_of_lt_of_le hk h.size) (fun e => by have := hr k e.symm; omega)).trans (h.block k hk hn)⟩
end Go.Proofs.YtfmhdngblpmcfaaDoor
namespace Go.Proofs.YtfmhdngblpmcfaaDoor
open Go.RowKit Go.Shelf
theorem nx_links {u : List Int} (hb : InB u) {x : Nat} (hx : x < u.length) : (nx u x : Int) = u[x]?.getD 0 := by
  have := hb x hx
  unfold nx
  omega
theorem link_any (N x : Nat) (u : List Int) (w : World) (hN : Nodes w N u) (hv : fvB u = true) (hx : x < u.length) :
    Calls Tryd.prog 84 #[.pointer (some (nadr N x))] w fun e w' => e = .returned (.int .i64 (nx u x : Int)) ∧ Below w.heap.size w w' := by
  obtain ⟨c1, c2⟩ := hN x hx
  have hl := nx_links (fv_in hv) hx
  cases hs : step u x with
  | none =>
    have e := step_none hs
    rw [hs, Option.map_none] at c2
    rw [e] at hl
    rw [hl]
    clear hN hs hl e
    unfold nadr
    go_enter Tryd.func84, Tryd.ntmps84
    go_wp2
    go_ret
    exact ⟨rfl, Below.refl _ _⟩
  | some y =>
    have e := step_some (fv_in hv) hx hs
    obtain ⟨d1, _⟩ := hN y e.2.2
    rw [hs, Option.map_some] at c2
    rw [e.1] at hl
    rw [hl]
    clear hN hs hl e
    unfold nadr at c2 ⊢
    go_enter Tryd.func84, Tryd.ntmps84
    go_wp2
    go_ret
    exact ⟨rfl, Below.refl _ _⟩
theorem links_all {u : List Int} (hb : InB u) : ((List.range u.length).map fun x : Nat => (nx u x : Int)) = u := by
  apply List.ext_getElem (by simp)
  intro i h1 h2
  have := nx_links hb h2
  rw [List.getElem?_eq_getElem h2, Option.getD_some] at this
  simp [this]
end Go.Proofs.YtfmhdngblpmcfaaDoor
namespace Go.Proofs.YtfmhdngblpmcfaaDoor
open Go.RowKit Go.Shelf
/-- Does one go on from x? -/
def on1 (u : List Int) (x : Nat) : Nat := if step u x = none then 0 else 1
theorem allIn_cons (n : Nat) (i : Int) (is : List Int) : allIn n (i :: is) = (decide (0 ≤ i ∧ i < (n : Int)) && allIn n is) := by simp [allIn]
theorem allIn_of {n : Nat} {is : List Int} (h : ∀ k, k < is.length → 0 ≤ is[k]?.getD 0 ∧ is[k]?.getD 0 < (n : Int)) : allIn n is = true := by
  unfold allIn
  rw [List.all_eq_true]
  intro i hi
  obtain ⟨k, hk, rfl⟩ := List.getElem_of_mem hi
  have := h k hk
  rw [List.getElem?_eq_getElem hk, Option.getD_some] at this
  exact decide_eq_true this
theorem allIn_not {n : Nat} {is : List Int} {k : Nat} (hk : k < is.length) (h : ¬ (0 ≤ is[k]?.getD 0 ∧ is[k]?.getD 0 < (n : Int))) : allIn n is = false := by
  cases e : allIn n is with
  | false => rfl
  | true =>
    exfalso
    apply h
    rw [List.getElem?_eq_getElem hk, Option.getD_some]
    exact allIn_mem e _ (List.getElem_mem hk)
end Go.Proofs.YtfmhdngblpmcfaaDoor
namespace Go.Proofs.YtfmhdngblpmcfaaDoor
open Go.RowKit Go.Shelf
/-- How many links have been followed over pre. -/
def cntT (T : List Int → List Nat → Nat → List Int) (u : List Int) (j : Nat) (pre : List Nat) : Nat := if nxT T u j pre = none then pre.length - 1 else pre.length
theorem cntT_nil (T : List Int → List Nat → Nat → List Int) (u : List Int) (j : Nat) : cntT T u j [] = 0 := rfl
theorem cntT_snoc {T : List Int → List Nat → Nat → List Int} {u : List Int} {j x : Nat} {pre : List Nat} (h : nxT T u j pre = some x) : cntT T u j (pre ++ [x]) = cntT T u j pre + on1 (foT T u (pre ++ [x])) x := by
  unfold cntT on1
  rw [nxT_snoc, h]
  cases hs : step (foT T u (pre ++ [x])) x with
  | none => simp
  | some y => simp
theorem steps_le16 {T : List Int → List Nat → Nat → List Int} (K : Kind T) {up : List Int} (h : fvB up = true) {i : Nat} (hi : i < up.length) : stepsT T up i ≤ 16 := by
  have h1 := visits_len K h hi
  have h2 := (fv_parts h).2.1
  unfold stepsT
  omega
theorem manyS_le {T : List Int → List Nat → Nat → List Int} (K : Kind T) : ∀ {its : List Nat} {up : List Int}, fvB up = true → (∀ i ∈ its, i < up.length) → manyS T up its ≤ 16 * its.length
  | [], _, _, _ => Nat.le_refl _
  | i :: its, up, h, hi => by
    have h1 := lookT_shr K h (hi i (by simp))
    have h2 := manyS_le K (its := its) h1.fv (fun j hj => by rw [h1.len]; exact hi j (by simp [hj]))
    have h3 := steps_le16 K h (hi i (by simp))
    unfold manyS
    rw [List.length_cons]
    omega
theorem nats_take {is : List Int} {k : Nat} (hk : k < is.length) : nats (is.take (k + 1)) = nats (is.take k) ++ [(is[k]?.getD 0).toNat] := by
  unfold nats
  rw [List.take_succ_eq_append_getElem hk, List.map_append, List.getElem?_eq_getElem hk]
  rfl

end Go.Proofs.YtfmhdngblpmcfaaDoor
namespace Go.Proofs.YtfmhdngblpmcfaaDoor
open Go.RowKit Go.Shelf
theorem lookB_is (up : List Int) (l : Int) (is : List Int) : lookB up l is = (fvB up && (decide (is.length ≤ 24) && allIn up.length is) && inLook l) := by
  unfold lookB
  cases fvB up <;> simp

theorem run_equalIn_func_nil {P : Program} (w : World) (d : Nat) (t : TypeId) {ps rs v} (g : Fn) (fs cs : Array Value) (h : P.underlying t = some (.func ps rs v)) :
    (Op.equalIn (d + 1) t (.func g fs cs) .nilFunc).run P w = .ok false w := by simp [Op.equalIn, run_underlying h]
theorem run_equalIn_nil_nil {P : Program} (w : World) (d : Nat) (t : TypeId) {ps rs v} (h : P.underlying t = some (.func ps rs v)) :
    (Op.equalIn (d + 1) t .nilFunc .nilFunc).run P w = .ok true w := by simp [Op.equalIn, run_underlying h]
theorem run_eql_func_nil {P : Program} (w : World) (t : TypeId) {ps rs v} (g : Fn) (fs cs : Array Value) (h : P.underlying t = some (.func ps rs v)) :
    (binOp .eql t (.func g fs cs) .nilFunc).run P w = .ok (.bool false) w := by
  simp only [binOp]
  simp [Op.equal, Op.maxDepth, run_equalIn_func_nil w 9999 t g fs cs h]
theorem run_eql_nil_nil {P : Program} (w : World) (t : TypeId) {ps rs v} (h : P.underlying t = some (.func ps rs v)) :
    (binOp .eql t .nilFunc .nilFunc).run P w = .ok (.bool true) w := by
  simp only [binOp]
  simp [Op.equal, Op.maxDepth, run_equalIn_nil_nil w 9999 t h]

end Go.Proofs.YtfmhdngblpmcfaaDoor
namespace Go.Proofs.YtfmhdngblpmcfaaDoor
open Go.RowKit Go.Shelf
theorem run_neq_nil {P : Program} (w : World) (t e : TypeId) (a : Option Addr) (n c : Nat) (h : P.underlying t = some (.slice e)) :
    (binOp .neq t (.slice a n c) (.slice none 0 0)).run P w = .ok (.bool (!a.isNone)) w := by
  simp only [binOp]
  simp [Op.equal, Op.maxDepth, Lib.run_equalIn_slice_nil w 9999 t e a n c 0 0 h]
theorem Below.back {a b c : World} (h : Below a.heap.size a b) (k : Below a.heap.size b c) : Below a.heap.size a c := h.trans k
theorem followed_not {up : List Int} {l : Int} {is : List Int} (h : lookB up l is = false) : (-1 : Int) = followedN up l is := (followedN_no h).symm

theorem one_rd (w : World) (i : Int) : Rd (w.alloc (.cells #[.int .i64 i] 3)) (w.heap.size + 1) (some ⟨w.heap.size, 0, none⟩) 1 [i] := by
  have := (Own.lit w w.heap.size [i] (Nat.le_refl _) (by simp)).rd
  simpa using this

end Go.Proofs.YtfmhdngblpmcfaaDoor
namespace Go.Proofs.YtfmhdngblpmcfaaDoor
open Go.RowKit Go.Shelf
end Go.Proofs.YtfmhdngblpmcfaaDoor