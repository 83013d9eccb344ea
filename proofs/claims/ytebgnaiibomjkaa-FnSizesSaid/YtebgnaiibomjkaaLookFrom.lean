/- The program's looking from several items: its parts and lookFrom. Condition: lengths up to 1048576. -/
import Derived.Test.YtebgnaiibomjkaaShort
import Derived.Test.YtebgnaiibomjkaaIter
import Derived.Test.YtebgnaiibomjkaaLook
import Derived.Laws.EntriesVeiled
import Derived.Deep.RegionWith
namespace Go.Proofs.Ytebgnaiibomjkaa
open Go.RowKit Go.Shelf
attribute [local go_sem] Oper.semAt_some

theorem boxes3 (w : World) (t1 : TypeId) (v1 : Value) (t2 : TypeId) (v2 : Value) (t3 : TypeId) (v3 : Value) :
    ∃ W, W = ((w.alloc (.cells #[v1] t1)).alloc (.cells #[v2] t2)).alloc (.cells #[v3] t3) ∧ Boxed W w.heap.size t1 v1 ∧ Boxed W (w.heap.size + 1) t2 v2 ∧ Boxed W (w.heap.size + 1 + 1) t3 v3 ∧ Below w.heap.size w W ∧ W.heap.size = w.heap.size + 3 := by
  refine ⟨_, rfl, ((Boxed.new w _ _).alloc _).alloc _, ?_, ?_, (((Below.refl _ w).alloc (Nat.le_refl _) _).alloc (by simp) _).alloc (by simp; omega) _, by simp⟩
  · have := Boxed.new (w.alloc (.cells #[v1] t1)) t2 v2
    rw [World.size_alloc] at this
    exact this.alloc _
  · have := Boxed.new ((w.alloc (.cells #[v1] t1)).alloc (.cells #[v2] t2)) t3 v3
    rwa [World.size_alloc, World.size_alloc] at this
theorem chg_from {β : Type} {S : Nat → Prop} {w : World} (B : Nat) (hB : w.heap.size ≤ B) : OwnFrom B (fun (_ : β) W => Chg S w W) := by
  intro s W W' row h hg hr
  refine ⟨hg.os.trans h.os, hg.tape.trans h.tape, hg.output.trans h.output, Nat.le_trans h.size hg.size, fun k hk hn => (hg.block k (Nat.lt_of_lt_of_le hk h.size) (fun e => ?_)).trans (h.block k hk hn)⟩
  have := (hr k e.symm).1
  omega
theorem chg_keeps {S : Nat → Prop} {a b : World} {B : Nat} (h : Chg S a b) (hS : ∀ k, S k → k < B) : KeepsFrom B a b :=
  ⟨h.size, fun k o hb hk _ => (h.block k (Array.getElem?_eq_some_iff.1 hk).1 (fun hs => absurd (hS k hs) (by omega))).trans hk⟩
theorem Chg.to {S : Nat → Prop} {w a b : World} (h : Chg S w a) (k : Chg S a b) : Chg S w b := h.trans k
theorem chg_grown {S : Nat → Prop} {w a b : World} {row : Option Nat} (h : Chg S w a) (hg : a.grownBy b row) (hr : ∀ r, row = some r → w.heap.size ≤ r) : Chg S w b :=
  ⟨hg.os.trans h.os, hg.tape.trans h.tape, hg.output.trans h.output, Nat.le_trans h.size hg.size, fun k hk hn => (hg.block k (Nat.lt_of_lt_of_le hk h.size) (fun e => by have := hr k e.symm; omega)).trans (h.block k hk hn)⟩
theorem HeldP.chg {S : Nat → Prop} {W W' : World} {B base N : Nat} {xs : List Nat} {A : Option Addr} {c : Nat} (hb : Boxed W B 151 (.slice A xs.length c)) (ho : OwnP W base N (.slice A xs.length c) xs) (h : Chg S W W') (hS : ∀ k, S k → k < base) (hB : base ≤ B) :
    Boxed W' B 151 (.slice A xs.length c) ∧ OwnP W' base N (.slice A xs.length c) xs := by
  refine ⟨(h.block B hb.lt (fun hs => absurd (hS B hs) (by omega))).trans hb, ?_⟩
  refine ⟨ho.1, ?_⟩
  rcases ho.2 with h0 | ⟨g, cap, cur, hv, hbase, hh, hr⟩
  · exact .inl h0
  · exact .inr ⟨g, cap, cur, hv, hbase, (h.block g (Array.getElem?_eq_some_iff.1 hh).1 (fun hs => absurd (hS g hs) (by omega))).trans hh, hr⟩

set_option maxRecDepth 100000 in
set_option maxHeartbeats 4000000 in
theorem look_any (T : List Int → List Nat → Nat → List Int) (K : Kind T) (g : FuncId) (lb : Array Value) (S : Nat → Prop) (X : List Nat → World → Prop) (N i : Nat) (zs : List Int) (w : World)
    (hN : Nd w N zs) (hv : fvB zs = true) (hi : i < zs.length) (hS : ∀ k, S k → k < w.heap.size) (hSN : S N) (hX : OwnFrom w.heap.size X) (hXc : ∀ pre W W', X pre W → (∀ k, S k → W'.heap[k]? = W.heap[k]?) → X pre W') (hX0 : X [] w)
    (eg : ∀ args w, (callFunc g args).run Try.prog w = .ok (.enter g args) w)
    (hcb : ∀ pre x A c W, Gos T zs i (pre ++ [x]) → Nd W N (foT T zs pre) → X pre W → RdP W w.heap.size W.heap.size N A pre.length pre → Chg S w W →
      Calls Try.prog g (#[.pointer (some (nadr N x)), .slice A pre.length c] ++ lb) W fun e W' => (∃ v, e = .returned v) ∧ Nd W' N (foT T zs (pre ++ [x])) ∧ X (pre ++ [x]) W' ∧ Chg S W W') :
    Calls Try.prog 119 #[.pointer (some (nadr N i)), .func (.func g) #[] lb] w fun e w' => (∃ v, e = .returned v) ∧ (Nd w' N (lookT T zs i) ∧ X (visits T zs i) w') ∧ Chg S w w' := by
  have h16 := (fv_parts hv).2.1
  refine (callsIn_wide (n := 6)).1 (callsIn_of_wp_marks Try.func119 rfl trivial (wpIn_wide.2 ?_) rfl)
  simp only [Try.ntmps119, List.size_toArray, List.length_cons, List.length_nil, Nat.reduceAdd, Nat.reduceSub, Array.replicate_succ, Array.replicate_zero, List.push_toArray, List.append_toArray, List.nil_append, List.cons_append]
  go_wp2_with (go_at_call 108; refine ((callsIn_wide (n := 2)).1 (wayUp_in Fence.wide 2 trivial rfl _ ⟨_, rfl⟩ _)).mono ?_; rintro e w' ⟨rfl, rfl⟩)
  obtain ⟨W0, hW0, bS, bL, bP, hBw, hs0⟩ := boxes3 w 149 (.func (.func g) #[] lb) 151 (.slice none 0 0) 86 (.pointer (some (nadr N i)))
  rw [← hW0]
  clear hW0
  have hws : w.heap.size ≤ W0.heap.size := by omega
  have hS0 : ∀ k, S k → k < W0.heap.size := fun k hk => by have := hS k hk; omega
  have hN0 : Nd W0 N (foT T zs []) := hN.eq (hBw.block N (hS N hSN))
  have hX00 : X [] W0 := hXc [] w W0 hX0 fun k hk => hBw.block k (hS k hk)
  have hC0 : Chg S w W0 := Chg.of_below hBw
  have HN0 := Lib.hid (And.intro hN0 (And.intro hX00 hC0))
  have HV := Lib.hid hv
  have HCB := Lib.hid hcb
  clear hN hN0 hX00 hC0 hX0 hcb hBw
  refine (wpIn_wide (n := 6)).1 ?_
  apply wpIn_rangeFunc_seqGo (encs := fun x : Nat => #[Value.pointer (some (nadr N x))]) (Kp := fun _ _ => True) (S := fun ys => Gos T zs i ys ∧ nxT T zs i ys = none) (Sp := fun pre => Gos T zs i pre) (Gd := fun pre W => Nodes W N (foT T zs pre)) rfl (by omega) (gf := 122) (lb := #[.pointer (some ⟨w.heap.size + 1 + 1, 0, none⟩)]) rfl trivial (enters_of Try.func122 (by kernel_rfl) rfl)
    (upG_seq Fence.wide 5 trivial rfl (by omega) (w.heap.size + 1 + 1) N i T K zs W0 bP.cell (by omega) HV.out hi) (fun _ _ => trivial) (fun _ _ _ _ _ _ _ _ => trivial) (fun _ => rfl)
    (fun pre W => (Boxed W w.heap.size 149 (.func (.func g) #[] lb) ∧ HeldP W (w.heap.size + 1) w.heap.size N pre) ∧ Nd W N (foT T zs pre) ∧ X pre W ∧ Chg S w W)
    (fun _ _ _ => False)
    (OwnFrom.and (OwnFrom.and (Go.Own.from (boxed_own _ _ _) _) (heldP_from _ _ _ _ id)) (OwnFrom.and (nd_from _ _ (fun pre => foT T zs pre)) (OwnFrom.and (fun s A B row h hg hr => hX s A B row h hg (fun r e => ⟨by have := (hr r e).1; omega, (hr r e).2⟩)) (chg_from _ hws))))
    (fun _ _ _ _ _ hs _ _ => hs)
    (fun pre W _ h => h.2.1.nodes) ⟨⟨bS, ⟨none, 0, bL, ownP_nil _ _ _⟩⟩, HN0.out.1, HN0.out.2.1, HN0.out.2.2⟩
  case hassign =>
    intro l x W K hK
    have hK := Lib.hid hK
    gi_wp2
    exact hK.out
  case hbody =>
    rintro l pre x W ⟨⟨hSh, A2, c2, hL, ho⟩, hNd, hXp, hCh⟩ hg hsz
    have hpl := gos_len K HV.out hi hg
    rw [List.length_append, List.length_singleton] at hpl
    obtain ⟨A3, c3, e3, hrd⟩ := ho.form
    have e4 : A3 = A2 ∧ c3 = c2 := by
      injection e3 with e5 e6 e7
      exact ⟨e5.symm, e7.symm⟩
    obtain ⟨rfl, rfl⟩ := e4
    have CB := Lib.hid (HCB.out pre x A3 c3 W hg hNd hXp hrd hCh)
    have cS := hSh.cell
    have cL := hL.cell
    have HI := Lib.hid (And.intro hSh (And.intro hL (And.intro ho (And.intro hNd (And.intro hXp hCh)))))
    clear e3 hrd hNd hXp hCh hSh hL ho HN0
    gi_wp2_with fail
    refine ⟨trivial, (callsIn_round CB.out).mono ?_⟩
    rintro e W1 ⟨⟨v, rfl⟩, hNd1, hX1, hC1⟩
    obtain ⟨hSh, hL, ho, hNd, hXp, hCh⟩ := HI.out
    have hSh1 : Boxed W1 w.heap.size 149 (.func (.func g) #[] lb) := (hC1.block w.heap.size hSh.lt (fun hs => absurd (hS _ hs) (by omega))).trans hSh
    obtain ⟨hL1, ho1⟩ := HeldP.chg hL ho hC1 hS (by omega)
    have cL1 := hL1.cell
    have fL1 := hL1.frozen
    have hCh1 := hCh.trans hC1
    have hsz1 : w.heap.size ≤ W1.heap.size := hCh1.size
    have hk1 : KeepsFrom W0.heap.size W W1 := chg_keeps hC1 hS0
    have HI1 := Lib.hid (And.intro hSh1 (And.intro hNd1 (And.intro hX1 (And.intro hCh1 (And.intro hk1 hL1)))))
    clear hSh hL ho hNd hXp hCh hC1 hSh1 hNd1 hX1 hCh1 hk1 hL1 CB HI cS cL
    gi_wp2_with (gi_at_builtin; refine wpListIn_pushP rfl (.tmp 13) (.tmp 15) rfl W1 w.heap.size N _ pre x rfl rfl ho1 (by omega) hsz1 ?_; intro v' w' ho' hg'; obtain ⟨A4, c4, rfl, _⟩ := ho'.form; obtain ⟨hSh1, hNd1, hX1, hCh1, hk1, hL1⟩ := HI1.out; have hL' : Boxed w' (w.heap.size + 1) 151 (.slice A3 pre.length c3) := Boxed.kept hL1 hg' (Boxed.not_row hL1 (by decide) ho1); have cL' := hL'.cell; have fL' := hL'.frozen; have HI2 := Lib.hid (And.intro hSh1 (And.intro hNd1 (And.intro hX1 (And.intro hCh1 (And.intro hk1 (And.intro hL1 hL')))))); clear hSh1 hNd1 hX1 hCh1 hk1 hL1 hL')
    have hrow : ∀ r, (Value.slice A3 pre.length c3).ownBlock = some r → w.heap.size ≤ r := fun r e => (ho1.blockOf r e).1
    have hsame : ∀ k, S k → (w'.setCell ⟨w.heap.size + 1, 0, none⟩ (.slice A4 (pre.length + 1) c4)).heap[k]? = W1.heap[k]? := fun k hk => by
      have hk2 := hS k hk
      exact (Below.heap_setCell w' ⟨w.heap.size + 1, 0, none⟩ _ k (by show k ≠ w.heap.size + 1; omega)).trans (hg'.block k (by omega) (fun e => by have := hrow k e.symm; omega))
    obtain ⟨hSh1, hNd1, hX1, hCh1, hk1, hL1, hL'⟩ := HI2.out
    have hk2 : KeepsFrom W0.heap.size W1 (w'.setCell ⟨w.heap.size + 1, 0, none⟩ (.slice A4 (pre.length + 1) c4)) := ((KeepsOthers.of_grownBy hg' (heldP_row ho1)).trans (KeepsOthers.setCell _ _ _)).from _
    have hSh2 : Boxed w' w.heap.size 149 (.func (.func g) #[] lb) := Boxed.kept hSh1 hg' (Boxed.not_row hSh1 (by decide) ho1)
    have ho2 : OwnP w' w.heap.size N (.slice A4 (pre ++ [x]).length c4) (pre ++ [x]) := ho'
    have e2 : Value.slice A4 (pre.length + 1) c4 = Value.slice A4 (pre ++ [x]).length c4 := by simp
    refine ⟨hk1.trans hk2, trivial, ⟨hSh2.other (by omega) _, A4, c4, ?_, ?_⟩, hNd1.eq (hsame N hSN), hXc _ _ _ hX1 hsame, (chg_grown hCh1 hg' hrow).set (.inr (by omega)) _ _⟩
    · rw [e2]
      exact hL'.set _
    · rw [e2]
      exact ownP_setBox ho2 hL'
  case hdone =>
    rintro D xs W hD hS1 ⟨⟨hSh, _⟩, hNd, hXp, hCh⟩ hd
    have hvis := visits_of hS1.1 hS1.2 (gos_len K HV.out hi hS1.1)
    have hDw : w.heap.size ≤ D := by omega
    have hout : ∀ k, S k → (W.putObj D (.deferred none)).heap[k]? = W.heap[k]? := fun k hk => World.putObj_heap_other (by have := hS k hk; omega)
    have hfin : (Nd (W.putObj D (.deferred none)) N (lookT T zs i) ∧ X (visits T zs i) (W.putObj D (.deferred none))) ∧ Chg S w (W.putObj D (.deferred none)) := by
      unfold lookT
      rw [hvis]
      exact ⟨⟨hNd.eq (hout N hSN), hXc _ _ _ hXp hout⟩, hCh.os, hCh.tape, hCh.output, by simpa [World.putObj] using hCh.size, fun k hk hn => (World.putObj_heap_other (by omega)).trans (hCh.block k hk hn)⟩
    have HF := Lib.hid hfin
    clear hfin hout hNd hXp hCh hSh hS1
    go_wp2
    refine ⟨by simp, .inl ⟨_, _, rfl, run_takeDeferred hd, ?_⟩⟩
    exact ⟨_, results_none rfl _ _ _, ⟨_, rfl⟩, HF.out⟩
  case hstop =>
    rintro D q pre W _ _ h _
    exact h.elim
end Go.Proofs.Ytebgnaiibomjkaa

namespace Go.Proofs.Ytebgnaiibomjkaa
open Go.RowKit Go.Shelf

theorem nx_links {u : List Int} (hb : InB u) {x : Nat} (hx : x < u.length) : (nx u x : Int) = u[x]?.getD 0 := by
  have := hb x hx
  unfold nx
  omega
theorem link_any (N x : Nat) (u : List Int) (w : World) (hN : Nodes w N u) (hv : fvB u = true) (hx : x < u.length) :
    Calls Try.prog 103 #[.pointer (some (nadr N x))] w fun e w' => e = .returned (.int .i64 (nx u x : Int)) ∧ Below w.heap.size w w' := by
  obtain ⟨c1, c2⟩ := hN x hx
  have hl := nx_links (fv_in hv) hx
  cases hs : step u x with
  | none =>
    have e := step_none hs
    rw [hs, Option.map_none] at c2
    rw [e] at hl
    rw [hl]
    clear hN hs hl e
    unfold nadr
    go_enter Try.func103, Try.ntmps103
    go_wp2
    go_ret
    exact ⟨rfl, Below.refl _ _⟩
  | some y =>
    have e := step_some (fv_in hv) hx hs
    obtain ⟨d1, _⟩ := hN y e.2.2
    rw [hs, Option.map_some] at c2
    rw [e.1] at hl
    rw [hl]
    clear hN hs hl e
    unfold nadr at c2 ⊢
    go_enter Try.func103, Try.ntmps103
    go_wp2
    go_ret
    exact ⟨rfl, Below.refl _ _⟩
theorem links_all {u : List Int} (hb : InB u) : ((List.range u.length).map fun x : Nat => (nx u x : Int)) = u := by
  apply List.ext_getElem (by simp)
  intro i h1 h2
  have := nx_links hb h2
  rw [List.getElem?_eq_getElem h2, Option.getD_some] at this
  simp [this]
set_option maxRecDepth 100000 in
set_option maxHeartbeats 2000000 in
theorem toldLink_any (N n c : Nat) (zs : List Int) (w : World) (hN : Nodes w N zs) (hB : N < w.heap.size) (hv : fvB zs = true) (hn : n = zs.length) :
    Calls Try.prog 120 #[.slice (some ⟨N, 0, none⟩) n c, .func (.func 103) #[] #[]] w fun e w' => ∃ g k, e = .returned (.slice (some g) n k) ∧ Own w' w.heap.size (.slice (some g) n k) zs ∧ Below w.heap.size w w' := by
  have h16 : n ≤ 16 := by have := (fv_parts hv).2.1; omega
  have R := Lib.hid (fun (w1 : World) (hb : Below w.heap.size w w1) (k : Nat) (hk : k < n) => link_any N k zs w1 (hN.below hb hB) hv (by omega))
  have HN := Lib.hid hn
  have HL := Lib.hid (links_all (fv_in hv))
  obtain ⟨i0, hi, hz0, hz1, hz2⟩ := info_parts Try.info_int
  clear hN hv hn hB
  go_enter Try.func120, Try.ntmps120
  go_wp2_with (at_make; go_must (refine wpList_make_full _ rfl _ _ 23 rfl w.heap.size 3 i0 (.int .i64 0) 1 Try.underlying23 hi hz0 hz1 .i64 .i64 _ _ n rfl rfl rfl rfl (by rw [hz2]; omega) (by unfold maxLen; omega) (Nat.le_refl _) ?_); intro w1 hown hgrow; have hb1 : Below w.heap.size w w1 := (Below.refl _ w).grown hgrow (Nat.le_refl _) (fun k e => by cases e))
  have H0 : Hid (Own w1 w.heap.size (.slice (some ⟨w.heap.size, 0, none⟩) n n) (tellL (nx zs) n 0)) := by
    rw [tellL_zero]
    exact Own.made hown
  clear hown hgrow hi hz0 hz1 hz2
  go_loopw [12] (fun i wr => ∃ k : Nat, k ≤ n ∧ i = .int .i64 k ∧ Hid (Own wr w.heap.size (.slice (some ⟨w.heap.size, 0, none⟩) n n) (tellL (nx zs) n k)) ∧ Below w.heap.size w wr) (fun i _ => n - (intOf i).toNat)
  case atStart => exact ⟨0, Nat.zero_le _, rfl, H0, hb1⟩
  case round =>
    obtain ⟨k, hk, rfl, HO, hbe⟩ := hrel
    clear H0 hb1
    by_cases hlt : k < n
    · have RR := Lib.hid (R.out wr hbe k hlt)
      unfold nadr at RR
      go_wp2_with fail
      refine RR.out.mono ?_
      rintro e w2 ⟨rfl, hb2⟩
      have hO2 := HO.out.keep hb2 (Nat.le_refl _)
      have hbe2 := hbe.trans (hb2.mono hbe.size)
      have hsl := hO2.slot hlt
      have hfr := hO2.free k
      have hns := hO2.set_ k (nx zs k : Int)
      rw [tellL_set (nx zs) hlt] at hns
      have HNS := Lib.hid hns
      have hb3 := Lib.hid (hbe2.setCell (p := ⟨w.heap.size, k, none⟩) (Nat.le_refl _) (.int .i64 (nx zs k : Int)))
      clear hns hO2 HO hbe2 hb2
      go_wp2
      go_roundw
      case rel => exact ⟨k + 1, by omega, by go_num, HNS, hb3.out⟩
      case measure => simp [intOf]; omega
    · obtain rfl : k = n := by omega
      go_wp2
      go_ret
      refine ⟨_, _, rfl, ?_, hbe⟩
      have := HO.out
      rw [tellL_all, HN.out, HL.out] at this
      rw [HN.out]
      exact this

/-- What a way of looking changes, as a function value. -/
def shortV (l : Int) : Value := if inLook l = true then .func (.func (shortF l)) #[] #[] else .nilFunc
set_option maxRecDepth 100000 in
set_option maxHeartbeats 1000000 in
theorem shorteningFor_any (l : Int) (w : World) : Calls Try.prog 116 #[.int .i64 l] w fun e w' => e = .returned (shortV l) ∧ Below w.heap.size w w' := by
  by_cases h0 : l < 0
  · have e : shortV l = .nilFunc := by
      unfold shortV inLook
      rw [if_neg]
      simp
      omega
    rw [e]
    go_enter Try.func116, Try.ntmps116
    go_wp2
    go_ret
    exact ⟨rfl, (Below.refl _ w).alloc (Nat.le_refl _) _⟩
  · by_cases h4 : 4 ≤ l
    · have e : shortV l = .nilFunc := by
        unfold shortV inLook
        rw [if_neg]
        simp
        omega
      rw [e]
      go_enter Try.func116, Try.ntmps116
      go_wp2
      go_ret
      exact ⟨rfl, (Below.refl _ w).alloc (Nat.le_refl _) _⟩
    · rcases (show l = 0 ∨ l = 1 ∨ l = 2 ∨ l = 3 by omega) with rfl | rfl | rfl | rfl
      all_goals
        go_enter Try.func116, Try.ntmps116
        go_wp2
        go_ret
        exact ⟨rfl, (Below.refl _ w).alloc (Nat.le_refl _) _⟩
end Go.Proofs.Ytebgnaiibomjkaa

namespace Go.Proofs.Ytebgnaiibomjkaa
open Go.RowKit Go.Shelf

/-- Does one go on from x? -/
def on1 (u : List Int) (x : Nat) : Nat := if step u x = none then 0 else 1
set_option maxRecDepth 100000 in
set_option maxHeartbeats 1000000 in
theorem counting_any (l : Int) (N x n c base B Sb Fb : Nat) (f : Nat) (A : Option Addr) (pre : List Nat) (u : List Int) (w : World) (hN : Nd w N u) (hv : fvB u = true) (hx : x < u.length) (hab : ∀ p ∈ pre, p < u.length ∧ Ab u p x) (hp : RdP w base B N A n pre) (hNb : N < base) (hB : B ≤ w.heap.size) (hn : n ≤ 1048576)
    (hS : Boxed w Sb 149 (.func (.func (shortF l)) #[] #[])) (hF : Boxed w Fb 3 (.int .i64 (f : Int))) (hf : f ≤ 1048576) (hNF : N ≠ Fb) :
    Calls Try.prog 118 (#[.pointer (some (nadr N x)), .slice A n c] ++ #[.pointer (some ⟨Sb, 0, none⟩), .pointer (some ⟨Fb, 0, none⟩)]) w fun e w' => (∃ v, e = .returned v) ∧ Nd w' N (lookAt l u pre x) ∧ Boxed w' Fb 3 (.int .i64 ((f + on1 (lookAt l u pre x) x : Nat) : Int)) ∧ Chg (fun b => b = N ∨ b = Fb) w w' := by
  have R := Lib.hid (short_any l N x n c base B A pre u w hN hv hx hab hp hNb hB hn)
  have eg := short_enters l
  have cS := hS.cell
  have hlen := ((look_kind l).shr u pre x hv hx hab).len
  have HF := Lib.hid hF
  obtain ⟨r, hr⟩ : ∃ r : Nat, r = f + on1 (lookAt l u pre x) x := ⟨_, rfl⟩
  rw [← hr]
  have HR := Lib.hid hr
  clear hN hv hab hp hS hF hr
  simp only [List.append_toArray, List.nil_append, List.cons_append]
  go_enter Try.func118, Try.ntmps118
  go_wp2_with fail
  refine R.out.mono ?_
  rintro e w1 ⟨⟨v, rfl⟩, hN1, hC1⟩
  obtain ⟨_, c2, _⟩ := hN1.cells (x := x) (by rw [hlen]; exact hx)
  have hF1 : Boxed w1 Fb 3 (.int .i64 (f : Int)) := (hC1.block Fb HF.out.lt (fun e => hNF e.symm)).trans HF.out
  have cF := hF1.cell
  have fF := hF1.frozen
  have hC2 : Chg (fun b => b = N ∨ b = Fb) w w1 := hC1.weak fun i h => .inl h
  have HH := Lib.hid (And.intro hN1 (And.intro hF1 hC2))
  clear hN1 hF1 hC1 hC2
  unfold nadr
  cases hs : step (lookAt l u pre x) x with
  | none =>
    rw [hs, Option.map_none] at c2
    have e : Hid (r = f) := by
      have := HR.out
      unfold on1 at this
      rw [if_pos hs] at this
      exact this
    clear hs HR
    go_wp2
    go_end0
    exact ⟨⟨_, rfl⟩, HH.out.1, by rw [e.out]; exact HH.out.2.1, HH.out.2.2⟩
  | some y =>
    rw [hs, Option.map_some] at c2
    unfold nadr at c2
    have e : Hid ((r : Int) = (f : Int) + 1) := by
      have := HR.out
      unfold on1 at this
      rw [if_neg (by rw [hs]; simp)] at this
      show _ = _
      omega
    clear hs HR
    go_wp2
    go_end0
    obtain ⟨hN1, hF1, hC2⟩ := HH.out
    refine ⟨⟨_, rfl⟩, hN1.eq (Below.heap_setCell w1 ⟨Fb, 0, none⟩ _ N (by show N ≠ Fb; exact hNF)), ?_, hC2.set (B := Fb) (.inl (.inr rfl)) _ _⟩
    rw [e.out]
    exact hF1.set _

theorem allIn_cons (n : Nat) (i : Int) (is : List Int) : allIn n (i :: is) = (decide (0 ≤ i ∧ i < (n : Int)) && allIn n is) := by simp [allIn]
theorem allIn_of {n : Nat} {is : List Int} (h : ∀ k, k < is.length → 0 ≤ is[k]?.getD 0 ∧ is[k]?.getD 0 < (n : Int)) : allIn n is = true := by
  unfold allIn
  rw [List.all_eq_true]
  intro i hi
  obtain ⟨k, hk, rfl⟩ := List.getElem_of_mem hi
  have := h k hk
  rw [List.getElem?_eq_getElem hk, Option.getD_some] at this
  exact decide_eq_true this
theorem allIn_not {n : Nat} {is : List Int} {k : Nat} (hk : k < is.length) (h : ¬ (0 ≤ is[k]?.getD 0 ∧ is[k]?.getD 0 < (n : Int))) : allIn n is = false := by
  cases e : allIn n is with
  | false => rfl
  | true =>
    exfalso
    apply h
    rw [List.getElem?_eq_getElem hk, Option.getD_some]
    exact allIn_mem e _ (List.getElem_mem hk)
set_option maxRecDepth 100000 in
set_option maxHeartbeats 1000000 in
theorem hasItems_any (A : Option Addr) (n c : Nat) (B0 : Nat) (A1 : Option Addr) (m c1 : Nat) (is : List Int) (w : World) (hn : n ≤ 1048576) (h : Rd w B0 A1 m is) (hm : m ≤ 1048576) :
    Calls Try.prog 117 #[.slice A n c, .slice A1 m c1] w fun e w' => e = .returned (.bool (decide (is.length ≤ 24) && allIn n is)) ∧ w = w' := by
  have hl := h.1
  have HL := Lib.hid hl
  by_cases h24 : m ≤ 24
  · have hd : decide (is.length ≤ 24) = true := by simp; omega
    rw [hd, Bool.true_and]
    have HA := Lib.hid (fun (k : Nat) (hk : k < m) (hh : ¬ (0 ≤ is[k]?.getD 0 ∧ is[k]?.getD 0 < (n : Int))) => allIn_not (n := n) (is := is) (k := k) (by omega) hh)
    clear hd hl
    go_enter Try.func117, Try.ntmps117
    go_wp2
    go_loopw [12] (fun i wr => ∃ k : Nat, k ≤ m ∧ i = .int .i64 k ∧ w = wr ∧ ∀ x, x < k → 0 ≤ is[x]?.getD 0 ∧ is[x]?.getD 0 < (n : Int)) (fun i _ => m - (intOf i).toNat)
    case atStart => exact ⟨0, Nat.zero_le _, rfl, rfl, fun x hx => absurd hx (by omega)⟩
    case round =>
      obtain ⟨k, hk, rfl, rfl, hin⟩ := hrel
      by_cases hlt : k < m
      · obtain ⟨b, off, rfl, _, hc1⟩ := h.2 (by omega)
        have g1 := hc1 k hlt
        have HX := Lib.hid (fun (hh : 0 ≤ is[k]?.getD 0 ∧ is[k]?.getD 0 < (n : Int)) => show ∀ x, x < k + 1 → 0 ≤ is[x]?.getD 0 ∧ is[x]?.getD 0 < (n : Int) from fun x hx => by
          by_cases e : x = k
          · subst e; exact hh
          · exact hin x (by omega))
        have HB := Lib.hid (HA.out k hlt)
        clear hc1 hin HA
        generalize is[k]?.getD 0 = z at g1 HX HB
        by_cases hz : 0 ≤ z ∧ z < (n : Int)
        · have hd : decide (0 ≤ z ∧ z < (n : Int)) = true := by simpa using hz
          have HX2 := Lib.hid (HX.out hz)
          clear HX HB hz
          go_wp2_with (go_at_call 106; refine (hasItem_any _ _ _ _ _ hn).mono ?_; rintro e w' ⟨rfl, rfl⟩)
          go_roundw
          case rel => exact ⟨k + 1, by omega, by go_num, trivial, HX2.out⟩
          case measure => simp [intOf]; omega
        · have hd : decide (0 ≤ z ∧ z < (n : Int)) = false := by simpa using hz
          have HF := Lib.hid (HB.out hz)
          clear HX HB hz
          go_wp2_with (go_at_call 106; refine (hasItem_any _ _ _ _ _ hn).mono ?_; rintro e w' ⟨rfl, rfl⟩)
          go_ret
          exact ⟨ret_bool HF.out.symm, rfl⟩
      · obtain rfl : k = m := by omega
        have HT := Lib.hid (allIn_of (n := n) (is := is) (fun x hx => hin x (by have := HL.out; omega)))
        clear hin
        go_wp2
        go_ret
        exact ⟨ret_bool HT.out.symm, rfl⟩
  · have hd : decide (is.length ≤ 24) = false := by simp; omega
    rw [hd, Bool.false_and]
    clear hd hl h
    go_enter Try.func117, Try.ntmps117
    go_wp2
    go_ret
    exact ⟨rfl, rfl⟩
end Go.Proofs.Ytebgnaiibomjkaa

namespace Go.Proofs.Ytebgnaiibomjkaa
open Go.RowKit Go.Shelf

/-- How many links have been followed over pre. -/
def cntT (T : List Int → List Nat → Nat → List Int) (u : List Int) (j : Nat) (pre : List Nat) : Nat := if nxT T u j pre = none then pre.length - 1 else pre.length
theorem cntT_nil (T : List Int → List Nat → Nat → List Int) (u : List Int) (j : Nat) : cntT T u j [] = 0 := rfl
theorem cntT_snoc {T : List Int → List Nat → Nat → List Int} {u : List Int} {j x : Nat} {pre : List Nat} (h : nxT T u j pre = some x) : cntT T u j (pre ++ [x]) = cntT T u j pre + on1 (foT T u (pre ++ [x])) x := by
  unfold cntT on1
  rw [nxT_snoc, h]
  cases hs : step (foT T u (pre ++ [x])) x with
  | none => simp
  | some y => simp
theorem steps_le16 {T : List Int → List Nat → Nat → List Int} (K : Kind T) {up : List Int} (h : fvB up = true) {i : Nat} (hi : i < up.length) : stepsT T up i ≤ 16 := by
  have h1 := visits_len K h hi
  have h2 := (fv_parts h).2.1
  unfold stepsT
  omega
theorem manyS_le {T : List Int → List Nat → Nat → List Int} (K : Kind T) : ∀ {its : List Nat} {up : List Int}, fvB up = true → (∀ i ∈ its, i < up.length) → manyS T up its ≤ 16 * its.length
  | [], _, _, _ => Nat.le_refl _
  | i :: its, up, h, hi => by
    have h1 := lookT_shr K h (hi i (by simp))
    have h2 := manyS_le K (its := its) h1.fv (fun j hj => by rw [h1.len]; exact hi j (by simp [hj]))
    have h3 := steps_le16 K h (hi i (by simp))
    unfold manyS
    rw [List.length_cons]
    omega
theorem nats_take {is : List Int} {k : Nat} (hk : k < is.length) : nats (is.take (k + 1)) = nats (is.take k) ++ [(is[k]?.getD 0).toNat] := by
  unfold nats
  rw [List.take_succ_eq_append_getElem hk, List.map_append, List.getElem?_eq_getElem hk]
  rfl

theorem counted_any (l : Int) (N j n Sb Fb F0 : Nat) (u : List Int) (w : World) (hN : Nd w N u) (hv : fvB u = true) (hj : j < u.length) (_hn : n = u.length) (hNS : N ≠ Sb) (hNF : N ≠ Fb) (hSF : Sb ≠ Fb)
    (hS : Boxed w Sb 149 (.func (.func (shortF l)) #[] #[])) (hF : Boxed w Fb 3 (.int .i64 (F0 : Int))) (hF0 : F0 ≤ 100000) :
    Calls Try.prog 119 #[.pointer (some (nadr N j)), .func (.func 118) #[] #[.pointer (some ⟨Sb, 0, none⟩), .pointer (some ⟨Fb, 0, none⟩)]] w fun e w' => (∃ v, e = .returned v) ∧
      Nd w' N (lookT (lookAt l) u j) ∧ Boxed w' Fb 3 (.int .i64 ((F0 + stepsT (lookAt l) u j : Nat) : Int)) ∧ Boxed w' Sb 149 (.func (.func (shortF l)) #[] #[]) ∧ Chg (fun b => b = N ∨ b = Fb) w w' := by
  have K := look_kind l
  have h16 := (fv_parts hv).2.1
  refine (look_any (lookAt l) K 118 #[.pointer (some ⟨Sb, 0, none⟩), .pointer (some ⟨Fb, 0, none⟩)] (fun b => b = N ∨ b = Fb) (fun pre W => Boxed W Fb 3 (.int .i64 ((F0 + cntT (lookAt l) u j pre : Nat) : Int))) N j u w hN hv hj
    (fun k hk => by
      rcases hk with rfl | rfl
      · exact hN.lt
      · exact hF.lt) (.inl rfl) (Go.Own.from (boxed_own _ _ _) _) (fun pre W W' hb he => (he Fb (.inr rfl)).trans hb) hF (enters_of Try.func118 (by kernel_rfl) rfl) ?_).mono ?_
  · intro pre x A c W hg hNd hX hrd hC
    obtain ⟨g1, g2⟩ := gos_snoc.1 hg
    obtain ⟨s1, s2, _⟩ := goes K hv hj pre g1
    obtain ⟨hx, hab⟩ := s2 x g2
    have hpl := gos_len K hv hj hg
    rw [List.length_append, List.length_singleton] at hpl
    have hS2 : Boxed W Sb 149 (.func (.func (shortF l)) #[] #[]) := (hC.block Sb hS.lt (fun e => by
      rcases e with e | e
      · exact hNS e.symm
      · exact hSF e)).trans hS
    have hc : cntT (lookAt l) u j pre ≤ 16 := by
      unfold cntT
      split <;> omega
    refine (counting_any l N x pre.length c w.heap.size W.heap.size Sb Fb (F0 + cntT (lookAt l) u j pre) A pre (foT (lookAt l) u pre) W hNd s1.fv (by rw [s1.len]; exact hx) (fun p hp => by rw [s1.len]; exact hab p hp) hrd hN.lt (Nat.le_refl _) (by omega) hS2 hX (by omega) hNF).mono ?_
    rintro e W' ⟨hv', hN', hF', hC'⟩
    refine ⟨hv', by rw [foT_snoc]; exact hN', ?_, hC'⟩
    rw [cntT_snoc g2, foT_snoc, ← Nat.add_assoc]
    exact hF'
  · rintro e w' ⟨hv', ⟨hN', hX'⟩, hC'⟩
    refine ⟨hv', hN', ?_, (hC'.block Sb hS.lt (fun e => by
      rcases e with e | e
      · exact hNS e.symm
      · exact hSF e)).trans hS, hC'⟩
    have hd := (visits_done K hv hj).2
    have e : cntT (lookAt l) u j (visits (lookAt l) u j) = stepsT (lookAt l) u j := by
      unfold cntT stepsT
      rw [if_pos hd]
    rw [← e]
    exact hX'
end Go.Proofs.Ytebgnaiibomjkaa

namespace Go.Proofs.Ytebgnaiibomjkaa
open Go.RowKit Go.Shelf

theorem lookB_is (up : List Int) (l : Int) (is : List Int) : lookB up l is = (fvB up && (decide (is.length ≤ 24) && allIn up.length is) && inLook l) := by
  unfold lookB
  cases fvB up <;> simp

theorem run_equalIn_func_nil {P : Program} (w : World) (d : Nat) (t : TypeId) {ps rs v} (g : Fn) (fs cs : Array Value) (h : P.underlying t = some (.func ps rs v)) :
    (Op.equalIn (d + 1) t (.func g fs cs) .nilFunc).run P w = .ok false w := by simp [Op.equalIn, run_underlying h]
theorem run_equalIn_nil_nil {P : Program} (w : World) (d : Nat) (t : TypeId) {ps rs v} (h : P.underlying t = some (.func ps rs v)) :
    (Op.equalIn (d + 1) t .nilFunc .nilFunc).run P w = .ok true w := by simp [Op.equalIn, run_underlying h]
theorem run_eql_func_nil {P : Program} (w : World) (t : TypeId) {ps rs v} (g : Fn) (fs cs : Array Value) (h : P.underlying t = some (.func ps rs v)) :
    (binOp .eql t (.func g fs cs) .nilFunc).run P w = .ok (.bool false) w := by
  simp only [binOp]
  simp [Op.equal, Op.maxDepth, run_equalIn_func_nil w 9999 t g fs cs h]
theorem run_eql_nil_nil {P : Program} (w : World) (t : TypeId) {ps rs v} (h : P.underlying t = some (.func ps rs v)) :
    (binOp .eql t .nilFunc .nilFunc).run P w = .ok (.bool true) w := by
  simp only [binOp]
  simp [Op.equal, Op.maxDepth, run_equalIn_nil_nil w 9999 t h]

set_option maxRecDepth 100000 in
set_option maxHeartbeats 4000000 in
theorem lookFrom_any (A : Option Addr) (n c B0 : Nat) (zs : List Int) (l : Int) (A1 : Option Addr) (m c1 B1 : Nat) (is : List Int) (w : World) (h : Rd w B0 A n zs) (hB0 : B0 ≤ w.heap.size) (hb : n ≤ 1048576) (h1 : Rd w B1 A1 m is) (hB1 : B1 ≤ w.heap.size) (hm : m ≤ 1048576) :
    Calls Try.prog 95 #[.slice A n c, .int .i64 l, .slice A1 m c1] w fun e w' => Below w.heap.size w w' ∧ ((lookB zs l is = false ∧ e = .returned (.tuple #[.slice none 0 0, .int .i64 (-1)])) ∨
      (lookB zs l is = true ∧ ∃ g k, e = .returned (.tuple #[.slice (some g) n k, .int .i64 ((manyS (lookAt l) zs (nats is) : Nat) : Int)]) ∧ Own w' w.heap.size (.slice (some g) n k) (manyL (lookAt l) zs (nats is)))) := by
  have R := Lib.hid (nodesOfF_any A n c B0 zs w h hB0 hb)
  have HI := Lib.hid (fun (w2 : World) (hb2 : Below w.heap.size w w2) => hasItems_any A n c B1 A1 m c1 is w2 hb (h1.below hb2 hB1) hm)
  have HLB := Lib.hid (lookB_is zs l is)
  have hln := h.1
  have hlm := h1.1
  have HN := Lib.hid hln
  have HM := Lib.hid hlm
  have H1 := Lib.hid h1
  have hq := fun (w : World) (a : Option Addr) (n c : Nat) => Lib.run_eql_slice_nil (P := Try.prog) w 84 89 a n c 0 0 Try.underlying84
  have hqf := fun (w : World) (g : Fn) (fs cs : Array Value) => run_eql_func_nil (P := Try.prog) w 149 g fs cs Try.underlying149
  have hqn := fun (w : World) => run_eql_nil_nil (P := Try.prog) w 149 Try.underlying149
  clear h hln hlm h1
  have SH := shorteningFor_any l
  unfold shortV at SH
  go_enter Try.func95, Try.ntmps95
  go_wp2_with fail
  refine R.out.mono ?_
  rintro e w1 ⟨hb1, ⟨hv, rfl⟩ | ⟨hv, rfl, hF, hlt⟩⟩
  · have HV : Hid (lookB zs l is = false) := by
      show _ = _
      rw [HLB.out, hv]
      simp
    clear hv HLB
    by_cases hl : inLook l = true
    · rw [if_pos hl] at SH
      have SH2 := Lib.hid (SH w1)
      clear SH hl
      go_wp2_with fail
      refine SH2.out.mono ?_
      rintro e w2 ⟨rfl, hb2⟩
      have hbb := hb1.trans (hb2.mono hb1.size)
      clear hb1 hb2
      go_wp2
      go_ret2
      exact ⟨hbb.alloc hbb.size _, .inl ⟨HV.out, rfl⟩⟩
    · rw [if_neg hl] at SH
      have SH2 := Lib.hid (SH w1)
      clear SH hl
      go_wp2_with fail
      refine SH2.out.mono ?_
      rintro e w2 ⟨rfl, hb2⟩
      have hbb := hb1.trans (hb2.mono hb1.size)
      clear hb1 hb2
      go_wp2
      go_ret2
      exact ⟨hbb.alloc hbb.size _, .inl ⟨HV.out, rfl⟩⟩
  · by_cases hl : inLook l = true
    · have HLB2 : Hid (lookB zs l is = (decide (is.length ≤ 24) && allIn n is)) := by
        show _ = _
        rw [HLB.out, hv, hl, HN.out]
        simp
      rw [if_pos hl] at SH
      have SH2 := Lib.hid (SH w1)
      have h16 := (fv_parts hv).2.1
      have hn16 : n ≤ 16 := by have := HN.out; omega
      have HV := Lib.hid hv
      have HF := Lib.hid hF
      clear SH hl HLB hv hF h16
      go_wp2_with fail
      refine SH2.out.mono ?_
      rintro e w2 ⟨rfl, hb2⟩
      have hbb := hb1.trans (hb2.mono hb1.size)
      have hws2 := hb2.size
      have hN2 : Nd w2 w.heap.size zs := by
        have := HF.out.below hb2 hlt
        unfold Nd
        rw [HN.out]
        exact this
      obtain ⟨W2, hW2⟩ : ∃ W2, W2 = w2.alloc (.cells #[.func (.func (shortF l)) #[] #[]] 149) := ⟨_, rfl⟩
      have bS : Boxed W2 w2.heap.size 149 (.func (.func (shortF l)) #[] #[]) := by rw [hW2]; exact Boxed.new _ _ _
      have hbW : Below w.heap.size w W2 := by rw [hW2]; exact hbb.alloc hbb.size _
      have hsW : W2.heap.size = w2.heap.size + 1 := by rw [hW2]; simp
      have hNW : Nd W2 w.heap.size zs := hN2.eq (by rw [hW2]; exact Below.heap_alloc _ _ _ hN2.lt)
      have hNlt := hN2.lt
      have cS := bS.cell
      have HI2 := Lib.hid (HI.out W2 hbW)
      have HK := Lib.hid (And.intro bS (And.intro hbW hNW))
      clear hb1 hb2 hbb hN2 HF bS hbW hNW HI R SH2
      by_cases hit : (decide (is.length ≤ 24) && allIn n is) = true
      · rw [hit] at HI2
        have HT := Lib.hid (HLB2.out.trans hit)
        clear hit HLB2
        have hin := (by
          have := HT.out
          exact (lookB_parts this).2.2.1 : ∀ i ∈ is, 0 ≤ i ∧ i < (zs.length : Int))
        have HIN := Lib.hid hin
        have h24 : m ≤ 24 := by have := (lookB_parts HT.out).2.1; have := HM.out; omega
        clear hin
        go_wp2_with (rw [← hW2])
        refine HI2.out.mono ?_
        rintro e w' ⟨rfl, rfl⟩
        obtain ⟨bS, hbW, hNW⟩ := HK.out
        obtain ⟨W3, hW3⟩ : ∃ W3, W3 = W2.alloc (.cells #[.int .i64 0] 3) := ⟨_, rfl⟩
        have bF : Boxed W3 W2.heap.size 3 (.int .i64 ((manyS (lookAt l) zs (nats (is.take 0)) : Nat) : Int)) := by rw [hW3]; exact Boxed.new _ _ _
        have bS3 : Boxed W3 w2.heap.size 149 (.func (.func (shortF l)) #[] #[]) := by rw [hW3]; exact bS.alloc _
        have hN3 : Nd W3 w.heap.size (manyL (lookAt l) zs (nats (is.take 0))) := hNW.eq (by rw [hW3]; exact Below.heap_alloc _ _ _ hNW.lt)
        have hb3 : Below w.heap.size w W3 := by rw [hW3]; exact hbW.alloc hbW.size _
        have hs3 : W3.heap.size = w2.heap.size + 2 := by rw [hW3]; simp; omega
        rw [hsW] at bF
        have H3 := Lib.hid (And.intro bF (And.intro bS3 (And.intro hN3 hb3)))
        have HW3 := Lib.hid hW3
        clear bF bS3 hN3 hb3 bS hbW hNW HK HI2 hW3 hW2
        go_wp2
        rw [← HW3.out]
        clear HW3
        go_loopw [33] (fun i wr => ∃ k : Nat, k ≤ m ∧ i = .int .i64 k ∧ Hid (Boxed wr (w2.heap.size + 1) 3 (.int .i64 ((manyS (lookAt l) zs (nats (is.take k)) : Nat) : Int)) ∧ Boxed wr w2.heap.size 149 (.func (.func (shortF l)) #[] #[]) ∧ Nd wr w.heap.size (manyL (lookAt l) zs (nats (is.take k))) ∧ Below w.heap.size w wr)) (fun i _ => m - (intOf i).toNat)
        case atStart => exact ⟨0, Nat.zero_le _, rfl, H3⟩
        case round =>
          obtain ⟨k, hk, rfl, HR⟩ := hrel
          clear H3
          have hits : ∀ q, ∀ i ∈ nats (is.take q), i < zs.length := fun q i hi => by
            unfold nats at hi
            obtain ⟨z, hz, rfl⟩ := List.mem_map.1 hi
            have := HIN.out z (List.mem_of_mem_take hz)
            omega
          have S := many_shr (look_kind l) HV.out (hits k)
          by_cases hlt : k < m
          · obtain ⟨bF, bS, hN, hbe⟩ := HR.out
            obtain ⟨b, off, rfl, _, hc1⟩ := (H1.out.below hbe hB1).2 (by omega)
            have g1 := hc1 k hlt
            have hki : k < is.length := by have := HM.out; omega
            have hz := HIN.out (is[k]?.getD 0) (by rw [List.getElem?_eq_getElem hki, Option.getD_some]; exact List.getElem_mem hki)
            have hnt := nats_take hki
            obtain ⟨j, hj⟩ := Int.eq_ofNat_of_zero_le hz.1
            rw [hj] at g1 hz hnt
            rw [Int.toNat_natCast] at hnt
            have hjz : j < zs.length := by omega
            have hjn : j < n := by have := HN.out; omega
            have hle := manyS_le (look_kind l) HV.out (hits k)
            have hlen : (nats (is.take k)).length ≤ 24 := by simp [nats]; omega
            have CT := Lib.hid (counted_any l w.heap.size j n w2.heap.size (w2.heap.size + 1) (manyS (lookAt l) zs (nats (is.take k))) (manyL (lookAt l) zs (nats (is.take k))) wr hN S.fv (by rw [S.len]; exact hjz) (by rw [S.len, HN.out]) (by omega) (by omega) (by omega) bS bF (by omega))
            unfold nadr at CT
            have HNT := Lib.hid hnt
            have HBE := Lib.hid hbe
            have hwr : w2.heap.size + 1 < wr.heap.size := bF.lt
            clear hc1 hj hz hnt hle hlen hits S bF bS hN HR hbe
            go_wp2_with fail
            refine CT.out.mono ?_
            rintro e w3 ⟨⟨v, rfl⟩, hN3, hF3, hS3, hC3⟩
            have hb3 : Below w.heap.size w w3 := HBE.out.trans (hC3.below HBE.out.size (fun i hi => by
              rcases hi with rfl | rfl
              · exact Nat.le_refl _
              · omega))
            have HR3 : Hid (Boxed w3 (w2.heap.size + 1) 3 (.int .i64 ((manyS (lookAt l) zs (nats (is.take (k + 1))) : Nat) : Int)) ∧ Boxed w3 w2.heap.size 149 (.func (.func (shortF l)) #[] #[]) ∧ Nd w3 w.heap.size (manyL (lookAt l) zs (nats (is.take (k + 1)))) ∧ Below w.heap.size w w3) := by
              show _ ∧ _
              rw [HNT.out, manyS_snoc, manyL_snoc]
              exact ⟨hF3, hS3, hN3, hb3⟩
            clear hN3 hF3 hS3 hC3 hb3
            go_wp2
            go_roundw
            case rel => exact ⟨k + 1, by omega, by go_num, HR3⟩
            case measure => simp [intOf]; omega
          · obtain rfl : k = m := by omega
            obtain ⟨bF, bS, hN, hbe⟩ := HR.out
            have htk : is.take k = is := by rw [← HM.out, List.take_length]
            rw [htk] at bF hN S
            have cF := bF.cell
            have TL := Lib.hid (fun (w4 : World) (hb4 : Below wr.heap.size wr w4) => toldLink_any w.heap.size n n (manyL (lookAt l) zs (nats is)) w4 (hN.nodes.below hb4 hN.lt) (by have := hN.lt; have := hb4.size; omega) S.fv (by rw [S.len, HN.out]))
            have HBE := Lib.hid hbe
            have TD := Lib.hid (TL.out wr.drew ⟨rfl, rfl, rfl, Nat.le_refl _, fun _ _ => rfl⟩)
            have cD : wr.drew.cell? ⟨w2.heap.size + 1, 0, none⟩ = some (.int .i64 ((manyS (lookAt l) zs (nats is) : Nat) : Int)) := cF
            have hFl : w2.heap.size + 1 < wr.drew.heap.size := bF.lt
            have CF := Lib.hid (fun (w4 : World) (hb4 : Below wr.drew.heap.size wr.drew w4) => (World.cell?_of_block (hb4.block (w2.heap.size + 1) hFl)).trans cD)
            clear hits bS hN HR hbe htk TL bF
            go_wp2
            go_region_with (go_at_call 120; refine TD.out.mono ?_; rintro e w4 ⟨g, kk, rfl, ho4, hb4⟩; have cF4 := CF.out w4 hb4)
            all_goals
              have hb5 : Below wr.heap.size wr w4 := ⟨hb4.os, hb4.tape, hb4.output, hb4.size, hb4.block⟩
              have HB5 := Lib.hid (HBE.out.trans (hb5.mono HBE.out.size))
              have HO5 := Lib.hid (ho4.less (show w.heap.size ≤ wr.drew.heap.size from HBE.out.size))
              clear hb4 hb5 ho4
              go_wp2
              go_ret2
              exact ⟨HB5.out, .inr ⟨HT.out, g, kk, rfl, HO5.out⟩⟩
      · have hif : (decide (is.length ≤ 24) && allIn n is) = false := by simpa using hit
        rw [hif] at HI2
        have HT := Lib.hid (HLB2.out.trans hif)
        clear hit hif HLB2
        go_wp2_with (rw [← hW2])
        refine HI2.out.mono ?_
        rintro e w' ⟨rfl, rfl⟩
        clear hW2
        go_wp2
        go_ret2
        exact ⟨HK.out.2.1, .inl ⟨HT.out, rfl⟩⟩
    · have HV : Hid (lookB zs l is = false) := by
        show _ = _
        rw [HLB.out]
        simp [hl]
      rw [if_neg hl] at SH
      have SH2 := Lib.hid (SH w1)
      clear SH hl HLB hv hF
      go_wp2_with fail
      refine SH2.out.mono ?_
      rintro e w2 ⟨rfl, hb2⟩
      have hbb := hb1.trans (hb2.mono hb1.size)
      clear hb1 hb2
      go_wp2
      go_ret2
      exact ⟨hbb.alloc hbb.size _, .inl ⟨HV.out, rfl⟩⟩
end Go.Proofs.Ytebgnaiibomjkaa

namespace Go.Proofs.Ytebgnaiibomjkaa
open Go.RowKit Go.Shelf

theorem run_neq_nil {P : Program} (w : World) (t e : TypeId) (a : Option Addr) (n c : Nat) (h : P.underlying t = some (.slice e)) :
    (binOp .neq t (.slice a n c) (.slice none 0 0)).run P w = .ok (.bool (!a.isNone)) w := by
  simp only [binOp]
  simp [Op.equal, Op.maxDepth, Lib.run_equalIn_slice_nil w 9999 t e a n c 0 0 h]
theorem Below.back {a b c : World} (h : Below a.heap.size a b) (k : Below a.heap.size b c) : Below a.heap.size a c := h.trans k
theorem followed_not {up : List Int} {l : Int} {is : List Int} (h : lookB up l is = false) : (-1 : Int) = followedN up l is := (followedN_no h).symm

/-- lookFrom in the words of its answer. -/
theorem lookFrom_says (A : Option Addr) (n c B0 : Nat) (zs : List Int) (l : Int) (A1 : Option Addr) (m c1 B1 : Nat) (is : List Int) (w : World) (h : Rd w B0 A n zs) (hB0 : B0 ≤ w.heap.size) (hb : n ≤ 1048576) (h1 : Rd w B1 A1 m is) (hB1 : B1 ≤ w.heap.size) (hm : m ≤ 1048576) :
    Calls Try.prog 95 #[.slice A n c, .int .i64 l, .slice A1 m c1] w fun e w' => ∃ a k, e = .returned (.tuple #[.slice a (lookedN zs l is).length k, .int .i64 (followedN zs l is)]) ∧ a.isSome = lookB zs l is ∧ Own w' w.heap.size (.slice a (lookedN zs l is).length k) (lookedN zs l is) ∧ Below w.heap.size w w' := by
  have hln := h.1
  refine (lookFrom_any A n c B0 zs l A1 m c1 B1 is w h hB0 hb h1 hB1 hm).mono ?_
  rintro e w' ⟨hb', ⟨hv, rfl⟩ | ⟨hv, g, k, rfl, ho⟩⟩
  · refine ⟨none, 0, ?_, by rw [hv]; rfl, ?_, hb'⟩
    · rw [lookedN_no hv, followedN_no hv]; rfl
    · rw [lookedN_no hv]; exact ⟨by simp, .inl ⟨rfl, rfl⟩⟩
  · have hl := looked_len hv
    rw [hln] at hl
    refine ⟨some g, k, ?_, by rw [hv]; rfl, ?_, hb'⟩
    · rw [hl, followedN_yes hv]
    · rw [hl, lookedN_yes hv]; exact ho
theorem one_rd (w : World) (i : Int) : Rd (w.alloc (.cells #[.int .i64 i] 3)) (w.heap.size + 1) (some ⟨w.heap.size, 0, none⟩) 1 [i] := by
  have := (Own.lit w w.heap.size [i] (Nat.le_refl _) (by simp)).rd
  simpa using this

set_option maxRecDepth 100000 in
set_option maxHeartbeats 1000000 in
theorem implLookUp_any (A : Option Addr) (n c B0 : Nat) (zs : List Int) (l i : Int) (w : World) (h : Rd w B0 A n zs) (hB0 : B0 ≤ w.heap.size) (hb : n ≤ 1048576) :
    Calls Try.prog 42 #[.slice A n c, .int .i64 l, .int .i64 i] w fun e w' => ∃ v, e = .returned (.tuple #[v, .bool (lookB zs l [i])]) ∧ Own w' w.heap.size v (lookedN zs l [i]) ∧ Below w.heap.size w w' := by
  have hba := (Below.refl w.heap.size w).alloc (Nat.le_refl _) (.cells #[.int .i64 i] 3)
  have R := Lib.hid (lookFrom_says A n c B0 zs l (some ⟨w.heap.size, 0, none⟩) 1 1 (w.heap.size + 1) [i] (w.alloc (.cells #[.int .i64 i] 3)) (h.below hba hB0) (Nat.le_trans hB0 hba.size) hb (one_rd w i) (by simp) (by omega))
  have HBA := Lib.hid hba
  have hq := fun (w : World) (a : Option Addr) (n c : Nat) => run_neq_nil (P := Try.prog) w 23 3 a n c Try.underlying23
  obtain ⟨ok, hok⟩ : ∃ ok, ok = lookB zs l [i] := ⟨_, rfl⟩
  rw [← hok] at R ⊢
  clear h hba hok
  go_enter Try.func42, Try.ntmps42
  go_wp2_with fail
  refine R.out.mono ?_
  rintro e w1 ⟨a, k, rfl, rfl, ho, hb1⟩
  have HO := Lib.hid (ho.less (show w.heap.size ≤ _ by simp))
  have HB := Lib.hid (HBA.out.trans (hb1.mono (by simp)))
  clear ho hb1
  go_wp2
  go_ret2
  exact ⟨_, rfl, HO.out, HB.out⟩
end Go.Proofs.Ytebgnaiibomjkaa
namespace Go.Proofs.Ytebgnaiibomjkaa
open Go.RowKit Go.Shelf
theorem nodeOfF_any (A : Option Addr) (n c B0 : Nat) (zs : List Int) (i : Int) (w : World) (h : Rd w B0 A n zs) (hB0 : B0 ≤ w.heap.size) (hb : n ≤ 1048576) :
    Calls Try.prog 66 #[.slice A n c, .int .i64 i] w fun e w' => Below w.heap.size w w' ∧
      ((itemB zs i = false ∧ e = .returned (.pointer none)) ∨ (∃ j : Nat, i = j ∧ itemB zs i = true ∧ e = .returned (.pointer (some ⟨w.heap.size, j * 2, none⟩)) ∧ Fill w' w.heap.size zs n ∧ w.heap.size < w'.heap.size)) := by
  have R := Lib.hid (nodesOfF_any A n c B0 zs w h hB0 hb)
  have l1 := h.1
  have L1 : zs.length ≤ n := by omega
  have L3 : n ≤ zs.length := by omega
  clear l1
  have hq := fun (w : World) (a : Option Addr) (n c : Nat) => Lib.run_eql_slice_nil (P := Try.prog) w 84 89 a n c 0 0 Try.underlying84
  go_enter Try.func66, Try.ntmps66
  go_wp2_with fail
  refine R.out.mono ?_
  rintro e w1 ⟨hb1, ⟨hv, rfl⟩ | ⟨hv, rfl, hN, hlt⟩⟩
  · have HV := Lib.hid (item_no (i := i) hv)
    clear hv
    go_wp2
    go_ret
    exact ⟨hb1, .inl ⟨HV.out, rfl⟩⟩
  · by_cases hi : 0 ≤ i ∧ i < (n : Int)
    · have HV := Lib.hid (item_of (i := i) hv hi.1 (by omega))
      have hd : decide (0 ≤ i ∧ i < (n : Int)) = true := by simpa using hi
      obtain ⟨j, rfl⟩ := Int.eq_ofNat_of_zero_le hi.1
      have hj : j < n := by omega
      clear hv hi
      go_wp2_with (go_at_call 106; refine (hasItem_any _ _ _ _ _ hb).mono ?_; rintro e w' ⟨rfl, rfl⟩)
      go_ret
      exact ⟨hb1, .inr ⟨j, rfl, HV.out, rfl, hN, hlt⟩⟩
    · have HV := Lib.hid (item_out (up := zs) (i := i) (by omega))
      have hd : decide (0 ≤ i ∧ i < (n : Int)) = false := by simpa using hi
      clear hv hi
      go_wp2_with (go_at_call 106; refine (hasItem_any _ _ _ _ _ hb).mono ?_; rintro e w' ⟨rfl, rfl⟩)
      go_ret
      exact ⟨hb1, .inl ⟨HV.out, rfl⟩⟩

theorem plain_any (l : Int) (N j : Nat) (u : List Int) (w : World) (hN : Nd w N u) (hv : fvB u = true) (hj : j < u.length) :
    Calls Try.prog 119 #[.pointer (some (nadr N j)), .func (.func (shortF l)) #[] #[]] w fun e w' => (∃ v, e = .returned v) ∧ Nd w' N (lookT (lookAt l) u j) ∧ Chg (fun b => b = N) w w' := by
  have K := look_kind l
  have h16 := (fv_parts hv).2.1
  refine (look_any (lookAt l) K (shortF l) #[] (fun b => b = N) (fun _ _ => True) N j u w hN hv hj (fun k hk => by rw [hk]; exact hN.lt) rfl (fun _ _ _ _ _ _ _ => trivial) (fun _ _ _ _ _ => trivial) trivial (short_enters l) ?_).mono ?_
  · intro pre x A c W hg hNd _ hrd hC
    obtain ⟨g1, g2⟩ := gos_snoc.1 hg
    obtain ⟨s1, s2, _⟩ := goes K hv hj pre g1
    obtain ⟨hx, hab⟩ := s2 x g2
    have hpl := gos_len K hv hj hg
    rw [List.length_append, List.length_singleton] at hpl
    have e : (#[Value.pointer (some (nadr N x)), Value.slice A pre.length c] ++ (#[] : Array Value)) = #[Value.pointer (some (nadr N x)), Value.slice A pre.length c] := by simp
    rw [e]
    refine (short_any l N x pre.length c w.heap.size W.heap.size A pre (foT (lookAt l) u pre) W hNd s1.fv (by rw [s1.len]; exact hx) (fun p hp => by rw [s1.len]; exact hab p hp) hrd hN.lt (Nat.le_refl _) (by omega)).mono ?_
    rintro e W' ⟨hv', hN', hC'⟩
    exact ⟨hv', by rw [foT_snoc]; exact hN', trivial, hC'⟩
  · rintro e w' ⟨hv', ⟨hN', _⟩, hC'⟩
    exact ⟨hv', hN', hC'⟩

end Go.Proofs.Ytebgnaiibomjkaa