/- The iterator over a way up whose links the caller changes while one goes along it. Conditions: the nodes lie in one block; the forest is valid at the start; the changes shorten ways alone. -/
import Derived.Test.YtemkbheplmimoaaUp
import Derived.Test.YtemkbheplmimoaaIterG
import Derived.Test.YtemkbheplmimoaaLookL
namespace Go.Proofs.Ytemkbheplmimoaa
open Go.RowKit Go.Shelf
attribute [local go_sem] Oper.semAt_some

/-- How far the iterator has come. -/
def AtG (B i : Nat) (T : List Int → List Nat → Nat → List Int) (up : List Int) (J : List Nat → World → Prop) (p : Value) (W : World) (m : Nat) : Prop :=
  ∃ pre, p = .pointer ((nxT T up i pre).map (nadr B)) ∧ Gos T up i pre ∧ Nodes W B (foT T up pre) ∧ J pre W ∧ m + pre.length = up.length + 1

set_option maxRecDepth 100000 in
set_option maxHeartbeats 1000000 in
theorem upG_in (F : Fence) (n : Nat) (hf : F.fn 148) (hro : F.round = none) (_hn : 1 ≤ n) (l Bn B i : Nat) (T : List Int → List Nat → Nat → List Int) (K : Kind T) (up : List Int) (J Jx : List Nat → World → Prop)
    (hM : ∀ pre W1, Gos T up i pre → J pre W1 → Nodes W1 B (foT T up pre))
    (hY : ∀ pre x W1, J pre W1 → Gos T up i (pre ++ [x]) → YieldAt F (n - 1) Try.prog l #[.pointer (some (nadr B x))] W1 fun e W' =>
      (e = .returned (.bool true) ∧ J (pre ++ [x]) W' ∧ True) ∨ (e = .returned (.bool false) ∧ Jx (pre ++ [x]) W'))
    (W : World) (hBn : W.cell? ⟨Bn, 0, none⟩ = some (.pointer (some (nadr B i)))) (hv : fvB up = true) (hi : i < up.length) (h0 : J [] W) :
    CallsIn F n Try.prog 148 #[.func (.yield l) #[] #[], .pointer (some ⟨Bn, 0, none⟩)] W fun e W' => (∃ v, e = .returned v) ∧
      ((∃ ys, (Gos T up i ys ∧ nxT T up i ys = none) ∧ J ys W') ∨ (∃ pre, Gos T up i pre ∧ Jx pre W')) := by
  refine callsIn_of_wp Try.func148 rfl hf ?_ hro
  simp only [Try.ntmps148, List.size_toArray, List.length_cons, List.length_nil, Nat.reduceAdd, Nat.reduceSub, Array.replicate_succ, Array.replicate_zero, List.push_toArray, List.append_toArray, List.nil_append, List.cons_append]
  gi_wp2
  gi_loopw [3] (fun p wr => ∃ m, AtG B i T up J p wr m) (fun p wr => leastOf (AtG B i T up J p wr))
  case atStart => exact ⟨up.length + 1, [], rfl, gos_nil _ _ _, hM [] W (gos_nil _ _ _) h0, h0, by simp⟩
  case round =>
    obtain ⟨⟨pre, rfl, hg, hl, hJs, hm⟩, hleast⟩ := leastOf_spec hrel
    clear hleast hrel
    cases ho : nxT T up i pre with
    | none =>
      rw [Option.map_none]
      have HO := Lib.hid ho
      clear ho hm
      gi_wp2
      go_end0
      exact ⟨⟨_, rfl⟩, .inl ⟨pre, ⟨hg, HO.out⟩, hJs⟩⟩
    | some x =>
      have hx : x < up.length := ((goes K hv hi pre hg).2.1 x ho).1
      have hsn : Gos T up i (pre ++ [x]) := gos_snoc.2 ⟨hg, ho⟩
      obtain ⟨fn, tmps, assign, body, hy, hR⟩ := hY pre x wr hJs hsn
      rw [ho, Option.map_some] at hm
      change leastOf (AtG B i T up J (Value.pointer (some ⟨B, x * 2, none⟩)) wr) + pre.length = up.length + 1 at hm
      have HM := Lib.hid hm
      have HO := Lib.hid ho
      clear hJs ho hm
      rw [Option.map_some]
      unfold nadr at hy
      unfold nadr
      gi_wp2
      refine hR.mono ?_
      rintro e W3 (⟨rfl, hJ3, _⟩ | ⟨rfl, hJx3⟩)
      · have hn3 := hM _ W3 hsn hJ3
        have hq3 := (hn3 x (by rw [(goes K hv hi _ hsn).1.len]; exact hx)).2
        rw [← nxT_snoc (i := i)] at hq3
        gi_wp2
        have hm2 := HM.out
        have hpm2 := gos_len K hv hi hsn
        rw [List.length_append] at hpm2
        have hnew : AtG B i T up J (.pointer ((nxT T up i (pre ++ [x])).map (nadr B))) W3 (up.length + 1 - (pre ++ [x]).length) := ⟨pre ++ [x], rfl, hsn, hn3, hJ3, by simp at hpm2 ⊢; omega⟩
        refine ⟨⟨_, hnew⟩, ?_⟩
        have hle := (leastOf_spec ⟨_, hnew⟩).2 _ hnew
        show _ < leastOf (AtG B i T up J (Value.pointer (some ⟨B, x * 2, none⟩)) wr)
        simp only [List.length_append, List.length_cons, List.length_nil] at hle hpm2
        omega
      · gi_wp2
        refine bodyPost_ret (results_none rfl _ _ _) rfl ?_
        exact ⟨⟨_, rfl⟩, .inr ⟨pre ++ [x], hsn, hJx3⟩⟩

/-- What n.wayUp() hands back has its contract. -/
theorem upG_seq (F : Fence) (n : Nat) (hf : F.fn 148) (hro : F.round = none) (hn : 1 ≤ n) (Bn B i : Nat) (T : List Int → List Nat → Nat → List Int) (K : Kind T) (up : List Int) (w : World) (hBn : w.cell? ⟨Bn, 0, none⟩ = some (.pointer (some (nadr B i)))) (hBw : Bn < w.heap.size)
    (hv : fvB up = true) (hi : i < up.length) :
    SeqGo F n Try.prog 148 #[.pointer (some ⟨Bn, 0, none⟩)] (fun x : Nat => #[Value.pointer (some (nadr B x))]) (fun _ _ => True) (fun ys => Gos T up i ys ∧ nxT T up i ys = none) (fun pre => Gos T up i pre) (fun pre W => Nodes W B (foT T up pre)) w :=
  fun l J Jx W hW _ _ hM hY h0 =>
    upG_in F n hf hro hn l Bn B i T K up J Jx hM hY W ((hW.cell (p := ⟨Bn, 0, none⟩) hBw).trans hBn) hv hi h0
end Go.Proofs.Ytemkbheplmimoaa
