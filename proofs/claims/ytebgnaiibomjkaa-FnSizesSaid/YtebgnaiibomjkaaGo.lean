/- The iterator over a way up whose links the caller changes while one goes along it. Conditions: the nodes lie in one block; the forest is valid at the start; the changes shorten ways alone. -/
import Derived.Test.YtebgnaiibomjkaaIter
import Derived.Test.YtebgnaiibomjkaaNodes
import Derived.Test.YtebgnaiibomjkaaLook
namespace Go.Proofs.Ytebgnaiibomjkaa
open Go.RowKit

variable {F : Fence} {n : Nat} {P : Program}

/-- The iterator's contract: Sp: what has come so far; S: all that comes; Gd: what the caller keeps while it goes on. -/
def SeqGo {α : Type} (F : Fence) (n : Nat) (P : Program) (g : Nat) (lb : Array Value) (encs : α → Array Value) (Kp : World → World → Prop) (S Sp : List α → Prop) (Gd : List α → World → Prop) (w : World) : Prop :=
  ∀ (l : Nat) (J Jx : List α → World → Prop) (W : World), Below w.heap.size w W → AbidesFrom W.heap.size J → AbidesFrom W.heap.size Jx →
    (∀ pre W1, Sp pre → J pre W1 → Gd pre W1) →
    (∀ pre x W1, J pre W1 → Sp (pre ++ [x]) → YieldAt F (n - 1) P l (encs x) W1 fun e W' =>
      (e = .returned (.bool true) ∧ J (pre ++ [x]) W' ∧ Kp W1 W') ∨ (e = .returned (.bool false) ∧ Jx (pre ++ [x]) W')) →
    J [] W →
    CallsIn F n P g (#[.func (.yield l) #[] #[]] ++ lb) W fun e W' => (∃ v, e = .returned v) ∧ ((∃ xs, S xs ∧ J xs W') ∨ (∃ pre, Sp pre ∧ Jx pre W'))

/-- The statement 'for x := range seq' over such an iterator: what the caller owes is its own: what its cells hold between two rounds, one walk of its body, and the bound. -/
theorem wpIn_rangeFunc_seqGo {α : Type} {g : Operand} {ps : Array Tmp} {assign body : Code} {Q : Exit → Act → World → Prop} {a : Act} {w : World}
    (hro : F.round = none) (h1 : 1 ≤ n) {gf : Nat} {lb : Array Value} (hg : a.eval g = .func (.func gf) #[] lb) (hFg : F.fn gf) (eg : ∀ args w, (callFunc gf args).run P w = .ok (.enter gf args) w)
    {encs : α → Array Value} {Kp : World → World → Prop} {S Sp : List α → Prop} {Gd : List α → World → Prop} (hseq : SeqGo F (n - 1) P gf lb encs Kp S Sp Gd w)
    (hKt : ∀ {A B C : World}, Kp A B → Kp B C → Kp A C) (hKb : ∀ (W : World) (l : Nat) (o o' : Obj), w.heap.size ≤ l → W.heap[l]? = some o → o.isCells = false → o.isWalk = false → Kp W (W.putObj l o')) (hps : ∀ x, (encs x).size = ps.size)
    (I : List α → World → Prop) (Ix : Code → List α → World → Prop) (hI : OwnFrom w.heap.size I) (hIx : ∀ c, OwnFrom w.heap.size (Ix c)) (hM : ∀ pre W, Sp pre → I pre W → Gd pre W) (h0 : I [] w) (a₁ : α → Act)
    (hassign : ∀ (l : Nat) (x : α) (W : World) (K : Act → World → Prop), K (a₁ x) W →
      assign.wpIn (F.inRound l) (n - 1 - 1) P (Exit.then K (fun _ _ _ => False)) { tmps := (ps.zip (encs x)).foldl (fun t (p, v) => t.setIfInBounds p v) a.tmps, defers := [] } W)
    (hbody : ∀ (l : Nat) (pre : List α) (x : α) (W : World), I pre W → Sp (pre ++ [x]) → w.heap.size ≤ W.heap.size → body.wpIn (F.inRound l) (n - 1 - 1) P (ownPostG w.heap.size Kp I Ix (pre ++ [x]) W) (a₁ x) W)
    (hdone : ∀ (D : Nat) (xs : List α) (W : World), w.heap.size ≤ D → S xs → I xs W → W.heap[D]? = some (.deferred (some [])) → Q .normal { a with defers := { target := .collected D, args := #[] } :: a.defers } W)
    (hstop : ∀ (D : Nat) (c : Code) (pre : List α) (W : World), w.heap.size ≤ D → Sp pre → Ix c pre W → W.heap[D]? = some (.deferred (some [])) → c.wpIn F n P Q { a with defers := { target := .collected D, args := #[] } :: a.defers } W) :
    (Code.rangeFunc g ps assign body).wpIn F n P Q a w := by
  refine wpIn_rangeFunc ?_
  intro fn hfn
  rw [hro]
  obtain ⟨mk, hmk⟩ : ∃ mk : LoopState → Option Code → Loop, mk = fun st pe => { state := st, pending := pe, fn, tmps := a.tmps, params := ps, assign, body, defers := w.heap.size } := ⟨_, rfl⟩
  obtain ⟨W1, hW1⟩ : ∃ W1, (w.alloc (.deferred (some []))).alloc (.loop (mk .ready none)) = W1 := ⟨_, rfl⟩
  have hL1 : W1.heap[w.heap.size + 1]? = some (.loop (mk .ready none)) := by
    rw [← hW1]
    have := World.alloc_heap_new (w.alloc (.deferred (some []))) (.loop (mk .ready none))
    rwa [World.size_alloc] at this
  have hK1 : W1.heap[w.heap.size]? = some (.deferred (some [])) := by
    rw [← hW1]
    exact (Below.heap_alloc _ _ _ (by simp)).trans (World.alloc_heap_new w _)
  have hI1 : I [] W1 := by
    rw [← hW1]
    exact hI.alloc _ (hI.alloc _ h0)
  have hb1 : Below w.heap.size w W1 := by
    rw [← hW1]
    exact ((Below.refl _ w).alloc (Nat.le_refl _) _).alloc (by simp) _
  refine ⟨w.heap.size + 1, [{ target := .collected w.heap.size, args := #[] }], W1, { target := .fn (.func gf) lb, args := #[.func (.yield (w.heap.size + 1)) #[] #[]] }, W1, gf,
    #[.func (.yield (w.heap.size + 1)) #[] #[]] ++ lb, W1, ?_, ?_, ?_, ?_, fun _ => h1, ?_⟩
  · rw [← hW1, hmk]
    exact run_enterLoop_outer _ _ _ _ _
  · simp only [resolve, hg]
    simp [go_sem]
  · intro f' hf'
    simp [Target.leads] at hf'
    subst hf'
    exact hFg
  · simp [invoke, go_sem, eg]
  · have hnw : ∀ {A B : World} {row : Option Nat}, (∀ r, row = some r → W1.heap.size ≤ r ∧ ∃ o : Obj, A.heap[r]? = some o ∧ o.isWalk = true) → (∀ r, row = some r → w.heap.size ≤ r ∧ ∃ o : Obj, A.heap[r]? = some o ∧ o.isCells = false) :=
      fun hr r e => by
        obtain ⟨hB, o, ho, hw⟩ := hr r e
        exact ⟨by rw [← hW1] at hB; simp at hB; omega, o, ho, Obj.not_cells_of_walk hw⟩
    refine (hseq (w.heap.size + 1)
      (fun pre W => (I pre W ∧ w.heap.size ≤ W.heap.size) ∧ W.heap[w.heap.size + 1]? = some (.loop (mk .ready none)) ∧ W.heap[w.heap.size]? = some (.deferred (some [])))
      (fun pre W => ∃ c, Ix c pre W ∧ W.heap[w.heap.size + 1]? = some (.loop (mk .done (some c))) ∧ W.heap[w.heap.size]? = some (.deferred (some [])))
      W1 hb1
      (fun s A B row hs hg' hr => ⟨⟨hI s A B row hs.1.1 hg' (hnw (B := B) hr), Nat.le_trans hs.1.2 hg'.size⟩, (grownBy_keeps hg' (fun r e => (hr r e).2) hs.2.1 rfl).trans hs.2.1, (grownBy_keeps hg' (fun r e => (hr r e).2) hs.2.2 rfl).trans hs.2.2⟩)
      (fun s A B row hs hg' hr => by
        obtain ⟨c, hc, hl, hk⟩ := hs
        exact ⟨c, hIx c s A B row hc hg' (hnw (B := B) hr), (grownBy_keeps hg' (fun r e => (hr r e).2) hl rfl).trans hl, (grownBy_keeps hg' (fun r e => (hr r e).2) hk rfl).trans hk⟩)
      (fun pre W hp hj => hM pre W hp hj.1.1) ?_ ⟨⟨hI1, hb1.size⟩, hL1, hK1⟩).mono ?_
    · rintro pre x W ⟨⟨hi, hsz⟩, hl, hk⟩ hsp
      have hlt : w.heap.size + 1 < W.heap.size := (Array.getElem?_eq_some_iff.1 hl).1
      have hy := run_yield (P := P) (args := encs x) hl (by rw [hmk]; exact hps x)
      rw [hmk] at hy
      refine ⟨fn, _, assign, body, hy, roundIn_of_wpIn hfn (hassign _ x W _ ⟨_, run_beginRound hl (by rw [hmk]), ?_⟩)⟩
      have hl2 : (W.putObj (w.heap.size + 1) (.loop { mk .ready none with state := .busy })).heap[w.heap.size + 1]? = some (.loop { mk .ready none with state := .busy }) := World.putObj_heap_same hlt
      have hk2 : (W.putObj (w.heap.size + 1) (.loop { mk .ready none with state := .busy })).heap[w.heap.size]? = some (.deferred (some [])) := (World.putObj_heap_other (by omega)).trans hk
      have hw2 : Kp W (W.putObj (w.heap.size + 1) (.loop { mk .ready none with state := .busy })) := hKb _ _ _ _ (by omega) hl rfl rfl
      have hsz2 : w.heap.size ≤ (W.putObj (w.heap.size + 1) (.loop { mk .ready none with state := .busy })).heap.size := by simpa [World.putObj] using hsz
      refine wpIn_mono (hbody _ pre x _ (hI.putObj _ hi (by omega) hl rfl) hsp hsz2) ?_
      have fin : ∀ (jump : Option Code) (W3 : World), KeepsFrom w.heap.size (W.putObj (w.heap.size + 1) (.loop { mk .ready none with state := .busy })) W3 →
          (Instr.endRound (w.heap.size + 1) jump).run P W3 = .ok (.bool jump.isNone) (W3.putObj (w.heap.size + 1) (.loop (mk (if jump.isNone then .ready else .done) jump))) ∧
          W3.heap[w.heap.size + 1]? = some (.loop { mk .ready none with state := .busy }) ∧
          (W3.putObj (w.heap.size + 1) (.loop (mk (if jump.isNone then .ready else .done) jump))).heap[w.heap.size + 1]? = some (.loop (mk (if jump.isNone then .ready else .done) jump)) ∧
          (W3.putObj (w.heap.size + 1) (.loop (mk (if jump.isNone then .ready else .done) jump))).heap[w.heap.size]? = some (.deferred (some [])) ∧
          w.heap.size ≤ (W3.putObj (w.heap.size + 1) (.loop (mk (if jump.isNone then .ready else .done) jump))).heap.size := fun jump W3 hk3 => by
        have hl3 := hk3.same _ _ (by omega) hl2 rfl
        have hr := run_endRound (P := P) jump hl3
        rw [hmk] at hr ⊢
        exact ⟨hr, by rw [hmk] at hl3; exact hl3, World.putObj_heap_same (Array.getElem?_eq_some_iff.1 hl3).1, (World.putObj_heap_other (by omega)).trans (hk3.same _ _ (Nat.le_refl _) hk2 rfl), by
          have := hk3.size
          have := hsz2
          simp [World.putObj] at *
          omega⟩
      rintro e a3 W3 hp
      cases e with
      | normal =>
        obtain ⟨hk3, hkp3, hi3⟩ := hp
        obtain ⟨hr, hl3, hl4, hk4, hs4⟩ := fin none W3 hk3
        exact ⟨_, _, hr, .inl ⟨rfl, ⟨⟨hI.putObj _ hi3 (by omega) hl3 rfl, hs4⟩, hl4, hk4⟩, hKt (hKt hw2 hkp3) (hKb _ _ _ _ (by omega) hl3 rfl rfl)⟩⟩
      | ret =>
        obtain ⟨hk3, hi3⟩ := hp
        obtain ⟨hr, hl3, hl4, hk4, _⟩ := fin (some .ret) W3 hk3
        exact ⟨_, _, hr, .inr ⟨rfl, .ret, (hIx _).putObj _ hi3 (by omega) hl3 rfl, hl4, hk4⟩⟩
      | exit id =>
        obtain ⟨hk3, hi3⟩ := hp
        obtain ⟨hr, hl3, hl4, hk4, _⟩ := fin (some (.exit id)) W3 hk3
        exact ⟨_, _, hr, .inr ⟨rfl, .exit id, (hIx _).putObj _ hi3 (by omega) hl3 rfl, hl4, hk4⟩⟩
      | goto t =>
        obtain ⟨hk3, hi3⟩ := hp
        obtain ⟨hr, hl3, hl4, hk4, _⟩ := fin (some (.goto t)) W3 hk3
        exact ⟨_, _, hr, .inr ⟨rfl, .goto t, (hIx _).putObj _ hi3 (by omega) hl3 rfl, hl4, hk4⟩⟩
      | panic ch => exact hp.elim
      | outgrown => exact hp.elim
    · rintro e W2 ⟨⟨v, rfl⟩, (⟨xs, hS, hi, hl, hk⟩ | ⟨pre, hSp, c, hi, hl, hk⟩)⟩
      · exact ⟨none, _, by have := run_endLoop (P := P) hl (by rw [hmk]; simp); rw [hmk] at this; exact this, hdone _ xs _ (Nat.le_refl _) hS (hI.putObj _ hi.1 (by omega) hl rfl) ((World.putObj_heap_other (by omega)).trans hk)⟩
      · exact ⟨some c, _, by have := run_endLoop (P := P) hl (by rw [hmk]; simp); rw [hmk] at this; exact this, hstop _ c pre _ (Nat.le_refl _) hSp ((hIx c).putObj _ hi (by omega) hl rfl) ((World.putObj_heap_other (by omega)).trans hk)⟩

end Go.Proofs.Ytebgnaiibomjkaa

namespace Go.Proofs.Ytebgnaiibomjkaa
open Go.RowKit Go.Shelf
attribute [local go_sem] Oper.semAt_some

/-- How far the iterator has come. -/
def AtG (B i : Nat) (T : List Int → List Nat → Nat → List Int) (up : List Int) (J : List Nat → World → Prop) (p : Value) (W : World) (m : Nat) : Prop :=
  ∃ pre, p = .pointer ((nxT T up i pre).map (nadr B)) ∧ Gos T up i pre ∧ Nodes W B (foT T up pre) ∧ J pre W ∧ m + pre.length = up.length + 1

set_option maxRecDepth 100000 in
set_option maxHeartbeats 1000000 in
theorem upG_in (F : Fence) (n : Nat) (hf : F.fn 122) (hro : F.round = none) (_hn : 1 ≤ n) (l Bn B i : Nat) (T : List Int → List Nat → Nat → List Int) (K : Kind T) (up : List Int) (J Jx : List Nat → World → Prop)
    (hM : ∀ pre W1, Gos T up i pre → J pre W1 → Nodes W1 B (foT T up pre))
    (hY : ∀ pre x W1, J pre W1 → Gos T up i (pre ++ [x]) → YieldAt F (n - 1) Try.prog l #[.pointer (some (nadr B x))] W1 fun e W' =>
      (e = .returned (.bool true) ∧ J (pre ++ [x]) W' ∧ True) ∨ (e = .returned (.bool false) ∧ Jx (pre ++ [x]) W'))
    (W : World) (hBn : W.cell? ⟨Bn, 0, none⟩ = some (.pointer (some (nadr B i)))) (hv : fvB up = true) (hi : i < up.length) (h0 : J [] W) :
    CallsIn F n Try.prog 122 #[.func (.yield l) #[] #[], .pointer (some ⟨Bn, 0, none⟩)] W fun e W' => (∃ v, e = .returned v) ∧
      ((∃ ys, (Gos T up i ys ∧ nxT T up i ys = none) ∧ J ys W') ∨ (∃ pre, Gos T up i pre ∧ Jx pre W')) := by
  refine callsIn_of_wp Try.func122 rfl hf ?_ hro
  simp only [Try.ntmps122, List.size_toArray, List.length_cons, List.length_nil, Nat.reduceAdd, Nat.reduceSub, Array.replicate_succ, Array.replicate_zero, List.push_toArray, List.append_toArray, List.nil_append, List.cons_append]
  gi_wp2
  gi_loopw [3] (fun p wr => ∃ m, AtG B i T up J p wr m) (fun p wr => leastOf (AtG B i T up J p wr))
  case atStart => exact ⟨up.length + 1, [], rfl, gos_nil _ _ _, hM [] W (gos_nil _ _ _) h0, h0, by simp⟩
  case round =>
    obtain ⟨⟨pre, rfl, hg, hl, hJs, hm⟩, hleast⟩ := leastOf_spec hrel
    clear hleast hrel
    cases ho : nxT T up i pre with
    | none =>
      rw [Option.map_none]
      have HO := Lib.hid ho
      clear ho hm
      gi_wp2
      go_end0
      exact ⟨⟨_, rfl⟩, .inl ⟨pre, ⟨hg, HO.out⟩, hJs⟩⟩
    | some x =>
      have hx : x < up.length := ((goes K hv hi pre hg).2.1 x ho).1
      have hsn : Gos T up i (pre ++ [x]) := gos_snoc.2 ⟨hg, ho⟩
      obtain ⟨fn, tmps, assign, body, hy, hR⟩ := hY pre x wr hJs hsn
      rw [ho, Option.map_some] at hm
      change leastOf (AtG B i T up J (Value.pointer (some ⟨B, x * 2, none⟩)) wr) + pre.length = up.length + 1 at hm
      have HM := Lib.hid hm
      have HO := Lib.hid ho
      clear hJs ho hm
      rw [Option.map_some]
      unfold nadr at hy
      unfold nadr
      gi_wp2
      refine hR.mono ?_
      rintro e W3 (⟨rfl, hJ3, _⟩ | ⟨rfl, hJx3⟩)
      · have hn3 := hM _ W3 hsn hJ3
        have hq3 := (hn3 x (by rw [(goes K hv hi _ hsn).1.len]; exact hx)).2
        rw [← nxT_snoc (i := i)] at hq3
        gi_wp2
        have hm2 := HM.out
        have hpm2 := gos_len K hv hi hsn
        rw [List.length_append] at hpm2
        have hnew : AtG B i T up J (.pointer ((nxT T up i (pre ++ [x])).map (nadr B))) W3 (up.length + 1 - (pre ++ [x]).length) := ⟨pre ++ [x], rfl, hsn, hn3, hJ3, by simp at hpm2 ⊢; omega⟩
        refine ⟨⟨_, hnew⟩, ?_⟩
        have hle := (leastOf_spec ⟨_, hnew⟩).2 _ hnew
        show _ < leastOf (AtG B i T up J (Value.pointer (some ⟨B, x * 2, none⟩)) wr)
        simp only [List.length_append, List.length_cons, List.length_nil] at hle hpm2
        omega
      · gi_wp2
        refine bodyPost_ret (results_none rfl _ _ _) rfl ?_
        exact ⟨⟨_, rfl⟩, .inr ⟨pre ++ [x], hsn, hJx3⟩⟩

/-- What n.wayUp() hands back has its contract. -/
theorem upG_seq (F : Fence) (n : Nat) (hf : F.fn 122) (hro : F.round = none) (hn : 1 ≤ n) (Bn B i : Nat) (T : List Int → List Nat → Nat → List Int) (K : Kind T) (up : List Int) (w : World) (hBn : w.cell? ⟨Bn, 0, none⟩ = some (.pointer (some (nadr B i)))) (hBw : Bn < w.heap.size)
    (hv : fvB up = true) (hi : i < up.length) :
    SeqGo F n Try.prog 122 #[.pointer (some ⟨Bn, 0, none⟩)] (fun x : Nat => #[Value.pointer (some (nadr B x))]) (fun _ _ => True) (fun ys => Gos T up i ys ∧ nxT T up i ys = none) (fun pre => Gos T up i pre) (fun pre W => Nodes W B (foT T up pre)) w :=
  fun l J Jx W hW _ _ hM hY h0 =>
    upG_in F n hf hro hn l Bn B i T K up J Jx hM hY W ((hW.cell (p := ⟨Bn, 0, none⟩) hBw).trans hBn) hv hi h0
end Go.Proofs.Ytebgnaiibomjkaa
