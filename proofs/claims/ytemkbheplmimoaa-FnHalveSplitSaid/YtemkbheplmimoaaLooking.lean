/- (*node).look over any function that shortens: the forest changes as the way of looking says. Conditions: the nodes lie in one block; the forest is valid. -/
import Derived.Test.YtemkbheplmimoaaShorts
import Derived.Test.YtemkbheplmimoaaRound
namespace Go.Proofs.Ytemkbheplmimoaa
open Go.RowKit Go.Shelf
attribute [local go_sem] Oper.semAt_some

theorem boxes3 (w : World) (t1 : TypeId) (v1 : Value) (t2 : TypeId) (v2 : Value) (t3 : TypeId) (v3 : Value) :
    ∃ W, W = ((w.alloc (.cells #[v1] t1)).alloc (.cells #[v2] t2)).alloc (.cells #[v3] t3) ∧ Boxed W w.heap.size t1 v1 ∧ Boxed W (w.heap.size + 1) t2 v2 ∧ Boxed W (w.heap.size + 1 + 1) t3 v3 ∧ Below w.heap.size w W ∧ W.heap.size = w.heap.size + 3 := by
  refine ⟨_, rfl, ((Boxed.new w _ _).alloc _).alloc _, ?_, ?_, (((Below.refl _ w).alloc (Nat.le_refl _) _).alloc (by simp) _).alloc (by simp; omega) _, by simp⟩
  · have := Boxed.new (w.alloc (.cells #[v1] t1)) t2 v2
    rw [World.size_alloc] at this
    exact this.alloc _
  · have := Boxed.new ((w.alloc (.cells #[v1] t1)).alloc (.cells #[v2] t2)) t3 v3
    rwa [World.size_alloc, World.size_alloc] at this
theorem chg_from {β : Type} {S : Nat → Prop} {w : World} (B : Nat) (hB : w.heap.size ≤ B) : OwnFrom B (fun (_ : β) W => Chg S w W) := by
  intro s W W' row h hg hr
  refine ⟨hg.os.trans h.os, hg.tape.trans h.tape, hg.output.trans h.output, Nat.le_trans h.size hg.size, fun k hk hn => (hg.block k (Nat.lt_of_lt_of_le hk h.size) (fun e => ?_)).trans (h.block k hk hn)⟩
  have := (hr k e.symm).1
  omega
theorem chg_keeps {S : Nat → Prop} {a b : World} {B : Nat} (h : Chg S a b) (hS : ∀ k, S k → k < B) : KeepsFrom B a b :=
  ⟨h.size, fun k o hb hk _ => (h.block k (Array.getElem?_eq_some_iff.1 hk).1 (fun hs => absurd (hS k hs) (by omega))).trans hk⟩
theorem Chg.to {S : Nat → Prop} {w a b : World} (h : Chg S w a) (k : Chg S a b) : Chg S w b := h.trans k
theorem chg_grown {S : Nat → Prop} {w a b : World} {row : Option Nat} (h : Chg S w a) (hg : a.grownBy b row) (hr : ∀ r, row = some r → w.heap.size ≤ r) : Chg S w b :=
  ⟨hg.os.trans h.os, hg.tape.trans h.tape, hg.output.trans h.output, Nat.le_trans h.size hg.size, fun k hk hn => (hg.block k (Nat.lt_of_lt_of_le hk h.size) (fun e => by have := hr k e.symm; omega)).trans (h.block k hk hn)⟩
theorem HeldP.chg {S : Nat → Prop} {W W' : World} {B base N : Nat} {xs : List Nat} {A : Option Addr} {c : Nat} (hb : Boxed W B 161 (.slice A xs.length c)) (ho : OwnP W base N (.slice A xs.length c) xs) (h : Chg S W W') (hS : ∀ k, S k → k < base) (hB : base ≤ B) :
    Boxed W' B 161 (.slice A xs.length c) ∧ OwnP W' base N (.slice A xs.length c) xs := by
  refine ⟨(h.block B hb.lt (fun hs => absurd (hS B hs) (by omega))).trans hb, ?_⟩
  refine ⟨ho.1, ?_⟩
  rcases ho.2 with h0 | ⟨g, cap, cur, hv, hbase, hh, hr⟩
  · exact .inl h0
  · exact .inr ⟨g, cap, cur, hv, hbase, (h.block g (Array.getElem?_eq_some_iff.1 hh).1 (fun hs => absurd (hS g hs) (by omega))).trans hh, hr⟩

set_option maxRecDepth 100000 in
set_option maxHeartbeats 4000000 in
theorem look_any (T : List Int → List Nat → Nat → List Int) (K : Kind T) (g : FuncId) (lb : Array Value) (S : Nat → Prop) (X : List Nat → World → Prop) (N i : Nat) (zs : List Int) (w : World)
    (hN : Nd w N zs) (hv : fvB zs = true) (hi : i < zs.length) (hS : ∀ k, S k → k < w.heap.size) (hSN : S N) (hX : OwnFrom w.heap.size X) (hXc : ∀ pre W W', X pre W → (∀ k, S k → W'.heap[k]? = W.heap[k]?) → X pre W') (hX0 : X [] w)
    (eg : ∀ args w, (callFunc g args).run Try.prog w = .ok (.enter g args) w)
    (hcb : ∀ pre x A c W, Gos T zs i (pre ++ [x]) → Nd W N (foT T zs pre) → X pre W → RdP W w.heap.size W.heap.size N A pre.length pre → Chg S w W →
      Calls Try.prog g (#[.pointer (some (nadr N x)), .slice A pre.length c] ++ lb) W fun e W' => (∃ v, e = .returned v) ∧ Nd W' N (foT T zs (pre ++ [x])) ∧ X (pre ++ [x]) W' ∧ Chg S W W') :
    Calls Try.prog 129 #[.pointer (some (nadr N i)), .func (.func g) #[] lb] w fun e w' => (∃ v, e = .returned v) ∧ (Nd w' N (lookT T zs i) ∧ X (visits T zs i) w') ∧ Chg S w w' := by
  have h16 := (fv_parts hv).2.1
  refine (callsIn_wide (n := 6)).1 (callsIn_of_wp_marks Try.func129 rfl trivial (wpIn_wide.2 ?_) rfl)
  simp only [Try.ntmps129, List.size_toArray, List.length_cons, List.length_nil, Nat.reduceAdd, Nat.reduceSub, Array.replicate_succ, Array.replicate_zero, List.push_toArray, List.append_toArray, List.nil_append, List.cons_append]
  go_wp2_with (go_at_call 123; refine ((callsIn_wide (n := 2)).1 (wayUp_in Fence.wide 2 trivial rfl _ ⟨_, rfl⟩ _)).mono ?_; rintro e w' ⟨rfl, rfl⟩)
  obtain ⟨W0, hW0, bS, bL, bP, hBw, hs0⟩ := boxes3 w 136 (.func (.func g) #[] lb) 161 (.slice none 0 0) 94 (.pointer (some (nadr N i)))
  rw [← hW0]
  clear hW0
  have hws : w.heap.size ≤ W0.heap.size := by omega
  have hS0 : ∀ k, S k → k < W0.heap.size := fun k hk => by have := hS k hk; omega
  have hN0 : Nd W0 N (foT T zs []) := hN.eq (hBw.block N (hS N hSN))
  have hX00 : X [] W0 := hXc [] w W0 hX0 fun k hk => hBw.block k (hS k hk)
  have hC0 : Chg S w W0 := Chg.of_below hBw
  have HN0 := Lib.hid (And.intro hN0 (And.intro hX00 hC0))
  have HV := Lib.hid hv
  have HCB := Lib.hid hcb
  clear hN hN0 hX00 hC0 hX0 hcb hBw
  refine (wpIn_wide (n := 6)).1 ?_
  apply wpIn_rangeFunc_seqGo (encs := fun x : Nat => #[Value.pointer (some (nadr N x))]) (Kp := fun _ _ => True) (S := fun ys => Gos T zs i ys ∧ nxT T zs i ys = none) (Sp := fun pre => Gos T zs i pre) (Gd := fun pre W => Nodes W N (foT T zs pre)) rfl (by omega) (gf := 148) (lb := #[.pointer (some ⟨w.heap.size + 1 + 1, 0, none⟩)]) rfl trivial (enters_of Try.func148 (by kernel_rfl) rfl)
    (upG_seq Fence.wide 5 trivial rfl (by omega) (w.heap.size + 1 + 1) N i T K zs W0 bP.cell (by omega) HV.out hi) (fun _ _ => trivial) (fun _ _ _ _ _ _ _ _ => trivial) (fun _ => rfl)
    (fun pre W => (Boxed W w.heap.size 136 (.func (.func g) #[] lb) ∧ HeldP W (w.heap.size + 1) w.heap.size N pre) ∧ Nd W N (foT T zs pre) ∧ X pre W ∧ Chg S w W)
    (fun _ _ _ => False)
    (OwnFrom.and (OwnFrom.and (Go.Own.from (boxed_own _ _ _) _) (heldP_from _ _ _ _ id)) (OwnFrom.and (nd_from _ _ (fun pre => foT T zs pre)) (OwnFrom.and (fun s A B row h hg hr => hX s A B row h hg (fun r e => ⟨by have := (hr r e).1; omega, (hr r e).2⟩)) (chg_from _ hws))))
    (fun _ _ _ _ _ hs _ _ => hs)
    (fun pre W _ h => h.2.1.nodes) ⟨⟨bS, ⟨none, 0, bL, ownP_nil _ _ _⟩⟩, HN0.out.1, HN0.out.2.1, HN0.out.2.2⟩
  case hassign =>
    intro l x W K hK
    have hK := Lib.hid hK
    gi_wp2
    exact hK.out
  case hbody =>
    rintro l pre x W ⟨⟨hSh, A2, c2, hL, ho⟩, hNd, hXp, hCh⟩ hg hsz
    have hpl := gos_len K HV.out hi hg
    rw [List.length_append, List.length_singleton] at hpl
    obtain ⟨A3, c3, e3, hrd⟩ := ho.form
    have e4 : A3 = A2 ∧ c3 = c2 := by
      injection e3 with e5 e6 e7
      exact ⟨e5.symm, e7.symm⟩
    obtain ⟨rfl, rfl⟩ := e4
    have CB := Lib.hid (HCB.out pre x A3 c3 W hg hNd hXp hrd hCh)
    have cS := hSh.cell
    have cL := hL.cell
    have HI := Lib.hid (And.intro hSh (And.intro hL (And.intro ho (And.intro hNd (And.intro hXp hCh)))))
    clear e3 hrd hNd hXp hCh hSh hL ho HN0
    gi_wp2_with fail
    refine ⟨trivial, (callsIn_round CB.out).mono ?_⟩
    rintro e W1 ⟨⟨v, rfl⟩, hNd1, hX1, hC1⟩
    obtain ⟨hSh, hL, ho, hNd, hXp, hCh⟩ := HI.out
    have hSh1 : Boxed W1 w.heap.size 136 (.func (.func g) #[] lb) := (hC1.block w.heap.size hSh.lt (fun hs => absurd (hS _ hs) (by omega))).trans hSh
    obtain ⟨hL1, ho1⟩ := HeldP.chg hL ho hC1 hS (by omega)
    have cL1 := hL1.cell
    have fL1 := hL1.frozen
    have hCh1 := hCh.trans hC1
    have hsz1 : w.heap.size ≤ W1.heap.size := hCh1.size
    have hk1 : KeepsFrom W0.heap.size W W1 := chg_keeps hC1 hS0
    have HI1 := Lib.hid (And.intro hSh1 (And.intro hNd1 (And.intro hX1 (And.intro hCh1 (And.intro hk1 hL1)))))
    clear hSh hL ho hNd hXp hCh hC1 hSh1 hNd1 hX1 hCh1 hk1 hL1 CB HI cS cL
    gi_wp2_with (gi_at_builtin; refine wpListIn_pushP rfl (.tmp 13) (.tmp 15) rfl W1 w.heap.size N _ pre x rfl rfl ho1 (by omega) hsz1 ?_; intro v' w' ho' hg'; obtain ⟨A4, c4, rfl, _⟩ := ho'.form; obtain ⟨hSh1, hNd1, hX1, hCh1, hk1, hL1⟩ := HI1.out; have hL' : Boxed w' (w.heap.size + 1) 161 (.slice A3 pre.length c3) := Boxed.kept hL1 hg' (Boxed.not_row hL1 (by decide) ho1); have cL' := hL'.cell; have fL' := hL'.frozen; have HI2 := Lib.hid (And.intro hSh1 (And.intro hNd1 (And.intro hX1 (And.intro hCh1 (And.intro hk1 (And.intro hL1 hL')))))); clear hSh1 hNd1 hX1 hCh1 hk1 hL1 hL')
    have hrow : ∀ r, (Value.slice A3 pre.length c3).ownBlock = some r → w.heap.size ≤ r := fun r e => (ho1.blockOf r e).1
    have hsame : ∀ k, S k → (w'.setCell ⟨w.heap.size + 1, 0, none⟩ (.slice A4 (pre.length + 1) c4)).heap[k]? = W1.heap[k]? := fun k hk => by
      have hk2 := hS k hk
      exact (Below.heap_setCell w' ⟨w.heap.size + 1, 0, none⟩ _ k (by show k ≠ w.heap.size + 1; omega)).trans (hg'.block k (by omega) (fun e => by have := hrow k e.symm; omega))
    obtain ⟨hSh1, hNd1, hX1, hCh1, hk1, hL1, hL'⟩ := HI2.out
    have hk2 : KeepsFrom W0.heap.size W1 (w'.setCell ⟨w.heap.size + 1, 0, none⟩ (.slice A4 (pre.length + 1) c4)) := ((KeepsOthers.of_grownBy hg' (heldP_row ho1)).trans (KeepsOthers.setCell _ _ _)).from _
    have hSh2 : Boxed w' w.heap.size 136 (.func (.func g) #[] lb) := Boxed.kept hSh1 hg' (Boxed.not_row hSh1 (by decide) ho1)
    have ho2 : OwnP w' w.heap.size N (.slice A4 (pre ++ [x]).length c4) (pre ++ [x]) := ho'
    have e2 : Value.slice A4 (pre.length + 1) c4 = Value.slice A4 (pre ++ [x]).length c4 := by simp
    refine ⟨hk1.trans hk2, trivial, ⟨hSh2.other (by omega) _, A4, c4, ?_, ?_⟩, hNd1.eq (hsame N hSN), hXc _ _ _ hX1 hsame, (chg_grown hCh1 hg' hrow).set (.inr (by omega)) _ _⟩
    · rw [e2]
      exact hL'.set _
    · rw [e2]
      exact ownP_setBox ho2 hL'
  case hdone =>
    rintro D xs W hD hS1 ⟨⟨hSh, _⟩, hNd, hXp, hCh⟩ hd
    have hvis := visits_of hS1.1 hS1.2 (gos_len K HV.out hi hS1.1)
    have hDw : w.heap.size ≤ D := by omega
    have hout : ∀ k, S k → (W.putObj D (.deferred none)).heap[k]? = W.heap[k]? := fun k hk => World.putObj_heap_other (by have := hS k hk; omega)
    have hfin : (Nd (W.putObj D (.deferred none)) N (lookT T zs i) ∧ X (visits T zs i) (W.putObj D (.deferred none))) ∧ Chg S w (W.putObj D (.deferred none)) := by
      unfold lookT
      rw [hvis]
      exact ⟨⟨hNd.eq (hout N hSN), hXc _ _ _ hXp hout⟩, hCh.os, hCh.tape, hCh.output, by simpa [World.putObj] using hCh.size, fun k hk hn => (World.putObj_heap_other (by omega)).trans (hCh.block k hk hn)⟩
    have HF := Lib.hid hfin
    clear hfin hout hNd hXp hCh hSh hS1
    go_wp2
    refine ⟨by simp, .inl ⟨_, _, rfl, run_takeDeferred hd, ?_⟩⟩
    exact ⟨_, results_none rfl _ _ _, ⟨_, rfl⟩, HF.out⟩
  case hstop =>
    rintro D q pre W _ _ h _
    exact h.elim
end Go.Proofs.Ytemkbheplmimoaa
