/- SinceWhen: since when two items are together, as a number; the program's halving and the model's search. Condition: lengths up to 1048576. -/
import Derived.Test.YtmkdiifjecnokaaGreatForestAt
import Derived.WalkMore
namespace Go.Proofs.YtmkdiifjecnokaaGreat
open Go.RowKit Go.Shelf
attribute [local go_sem] Oper.semAt_some

/-- Whether two items are together at a time. -/
def tgAt (us ts : List Int) (a b : Int) (k : Nat) : Bool := togB (atL us ts (k : Int)) a b
/-- Since when two items are together. -/
def sinceN (us ts : List Int) (a b : Int) : Int := if tmB us ts = true then optI (firstT (tgAt us ts a b) 0 25) else -1
theorem since_no {us ts : List Int} {a b : Int} (h : tmB us ts = false) : sinceN us ts a b = -1 := by unfold sinceN; rw [h]; simp
theorem since_yes {us ts : List Int} {a b : Int} (h : tmB us ts = true) : sinceN us ts a b = optI (firstT (tgAt us ts a b) 0 25) := by unfold sinceN; rw [if_pos h]
theorem tog_iff {v : List Int} (hv : fvB v = true) {a b : Int} : togB v a b = true ↔ (0 ≤ a ∧ a < (v.length : Int)) ∧ (0 ≤ b ∧ b < (v.length : Int)) ∧ rootI v a.toNat = rootI v b.toNat := by
  constructor
  · intro h
    have h2 := h
    unfold togB at h2
    simp only [Bool.and_eq_true] at h2
    have i1 := h2.1.1
    have i2 := h2.1.2
    have l1 := item_lt i1
    have l2 := item_lt i2
    refine ⟨l1, l2, ?_⟩
    have h3 := h2.2
    unfold rootN at h3
    rw [if_pos i1, if_pos i2] at h3
    have h4 : (rootI v a.toNat : Int) = (rootI v b.toNat : Int) := by simpa using h3
    omega
  · rintro ⟨h1, h2, h3⟩
    have i1 := item_of hv h1.1 h1.2
    have i2 := item_of hv h2.1 h2.2
    rw [togB_both i1 i2]
    unfold rootN
    rw [if_pos i1, if_pos i2, h3]
    simp
/-- Who is together stays together. -/
theorem tgAt_on {us ts : List Int} (hv : fvB us = true) {a b : Int} {k k' : Nat} (hk : k ≤ k') (h : tgAt us ts a b k = true) : tgAt us ts a b k' = true := by
  unfold tgAt at h ⊢
  rw [tog_iff (atL_fv hv _), atL_len] at h ⊢
  exact ⟨h.1, h.2.1, at_tog_on hv (by omega) (by omega) (by omega) h.2.2⟩
theorem since_at {us ts : List Int} (h : tmB us ts = true) {a b : Int} {x : Nat} (hx : x < 25) (h1 : tgAt us ts a b x = true) (h2 : ∀ j, j < x → tgAt us ts a b j = false) : sinceN us ts a b = (x : Int) := by
  rw [since_yes h, firstT_some _ h1 _ _ (fun j _ hj => h2 j hj) (Nat.zero_le _) (by omega)]
  rfl
theorem since_never {us ts : List Int} (h : tmB us ts = true) {a b : Int} (h2 : ∀ j, j < 25 → tgAt us ts a b j = false) : sinceN us ts a b = -1 := by
  rw [since_yes h, firstT_none _ _ _ (fun j _ hj => h2 j (by omega))]
  rfl
/-- Where the halving ends. -/
theorem since_end {us ts : List Int} (h : tmB us ts = true) {a b : Int} {E : Nat} (hE : E ≤ 25) (h1 : ∀ j, j + 1 = E → tgAt us ts a b j = false) (h2 : E < 25 → tgAt us ts a b E = true) : sinceN us ts a b = if E = 25 then -1 else (E : Int) := by
  have hv := (tmB_parts h).1
  have hno : ∀ j, j < E → tgAt us ts a b j = false := fun j hj => by
    cases e : tgAt us ts a b j with
    | false => rfl
    | true =>
      have := tgAt_on hv (show j ≤ E - 1 by omega) e
      rw [h1 (E - 1) (by omega)] at this
      cases this
  by_cases he : E = 25
  · rw [if_pos he]
    exact since_never h (fun j hj => hno j (by omega))
  · rw [if_neg he]
    exact since_at h (by omega) (h2 (by omega)) hno
set_option maxHeartbeats 1000000 in
theorem halfway_any (E L : Nat) (h : E ≤ L) (hl : L ≤ 25) (w : World) :
    Calls Tryz.prog 32 #[.int .i64 ((E : Int) - 1), .int .i64 (L : Int)] w fun e w' => e = .returned (.int .i64 ((E : Int) - 1 + (((L - E + 1) / 2 : Nat) : Int))) ∧ w = w' := by
  have hd : ((L : Int) - ((E : Int) - 1)).tdiv 2 = (((L - E + 1) / 2 : Nat) : Int) := by
    rw [show (L : Int) - ((E : Int) - 1) = ((L - E + 1 : Nat) : Int) by omega, Int.tdiv_eq_ediv_of_nonneg (by omega)]
    omega
  have hM : (L - E + 1) / 2 ≤ 13 := by omega
  have HD := Lib.hid hd
  go_enter Tryz.func32, Tryz.ntmps32
  go_wp2
  go_ret
  exact ⟨ret_int (by omega), rfl⟩

theorem rowT_form {W : World} {base n : Nat} {e : TypeId} {v : Value} {vs : List Value} (h : W.ownsRow base e 1 v n vs) : ∃ A c, v = .slice A n c := by
  rcases h.2 with ⟨hv, h0⟩ | ⟨g, cap, cur, hv, _⟩
  · exact ⟨none, 0, by rw [hv, h0]⟩
  · exact ⟨_, cap, hv⟩
theorem rowT_cells {W : World} {base n : Nat} {v : Value} {vs : List Value} (ho : W.ownsRow base 26 1 v n vs) : ∀ r o, v.ownBlock = some r → W.heap[r]? = some o → o.isCells = true := by
  intro r o hr hw
  rcases ho.2 with ⟨hv, _⟩ | ⟨g, cap, cur, hv, _, hh, _⟩
  · rw [hv] at hr; cases hr
  · rw [hv] at hr
    have : g = r := by simpa [Value.ownBlock] using hr
    subst this
    rw [hh] at hw
    injection hw with hw
    subst hw
    rfl
/-- A slice of ints does not lie where slices lie. -/
theorem own_apart {W : World} {b b2 n : Nat} {v v2 : Value} {zs : List Int} {vs : List Value} (h : Own W b v zs) (h2 : W.ownsRow b2 26 1 v2 n vs) : v.ownBlock = none ∨ v.ownBlock ≠ v2.ownBlock := by
  rcases h.2 with ⟨hv, _⟩ | ⟨g, cap, cur, hv, _, hh, _⟩
  · left; rw [hv]; rfl
  · right
    intro e
    rcases h2.2 with ⟨hv2, _⟩ | ⟨g2, cap2, cur2, hv2, _, hh2, _⟩
    · rw [hv, hv2] at e; cases e
    · rw [hv, hv2] at e
      have e2 : g = g2 := by simpa [Value.ownBlock] using e
      subst e2
      rw [hh] at hh2
      injection hh2 with hh2
      injection hh2 with _ hh2 _
      exact absurd hh2 (by decide)
/-- The forests that came so far, in a box. -/
def FrS (W : World) (B7 C : Nat) (us ts : List Int) (pre : List (Nat × Value)) : Prop :=
  ∃ A c, Boxed W B7 73 (.slice A pre.length c) ∧ W.ownsRow C 26 1 (.slice A pre.length c) pre.length (pre.map Prod.snd) ∧ ∀ x, x ∈ pre → Own W C x.2 (atL us ts (x.1 : Int))
theorem FrS.row {W W' : World} {B7 C : Nat} {us ts : List Int} {pre : List (Nat × Value)} {row : Option Nat} (h : FrS W B7 C us ts pre) (hg : W.grownBy W' row) (hr : ∀ r, row = some r → ∃ o : Obj, W.heap[r]? = some o ∧ o.isCells = false) : FrS W' B7 C us ts pre := by
  obtain ⟨A, c, hb, ho, hx⟩ := h
  refine ⟨A, c, Go.Own.from (boxed_own B7 73 (fun _ : List Nat => Value.slice A pre.length c)) 0 [] W W' row hb hg (fun r e => ⟨Nat.zero_le _, hr r e⟩), ho.kept hg ?_, fun x hxm => own_row (hx x hxm) hg hr⟩
  cases hb : (Value.slice A pre.length c).ownBlock with
  | none => exact .inl rfl
  | some g =>
    refine .inr fun e => ?_
    obtain ⟨o, ho', hc⟩ := hr g e.symm
    rw [rowT_cells ho g o hb ho'] at hc
    cases hc
theorem FrS.below {W W' : World} {B7 C : Nat} {us ts : List Int} {pre : List (Nat × Value)} (h : FrS W B7 C us ts pre) (hb : Below W.heap.size W W') : FrS W' B7 C us ts pre :=
  h.row (row := none) ⟨hb.os, hb.tape, hb.output, hb.size, fun k hk _ => hb.block k hk⟩ (fun r e => by cases e)
/-- One more. -/
theorem FrS.push {W w' : World} {B7 C : Nat} {us ts : List Int} {pre : List (Nat × Value)} {A A3 : Option Addr} {c c3 x1 : Nat} {x2 : Value} (hB7 : B7 < C)
    (ho : W.ownsRow C 26 1 (.slice A pre.length c) pre.length (pre.map Prod.snd)) (hx : ∀ x, x ∈ pre → Own W C x.2 (atL us ts (x.1 : Int))) (hx2 : Own W C x2 (atL us ts (x1 : Int)))
    (hg : W.grownBy w' (Value.slice A pre.length c).ownBlock) (hL' : Boxed w' B7 73 (.slice A pre.length c)) (ho' : w'.ownsRow C 26 1 (.slice A3 (pre.length + 1) c3) (pre.length + 1) (pre.map Prod.snd ++ [x2])) :
    FrS (w'.setCell ⟨B7, 0, none⟩ (.slice A3 (pre.length + 1) c3)) B7 C us ts (pre ++ [(x1, x2)]) := by
  have e2 : (pre ++ [(x1, x2)]).length = pre.length + 1 := by simp
  have e3 : (pre ++ [(x1, x2)]).map Prod.snd = pre.map Prod.snd ++ [x2] := by simp
  have hgs := put_grown w' B7 0 (.slice A3 (pre.length + 1) c3)
  unfold FrS
  rw [e2, e3]
  refine ⟨A3, c3, hL'.set _, ho'.kept hgs ?_, fun x hxm => ?_⟩
  · cases hb : (Value.slice A3 (pre.length + 1) c3).ownBlock with
    | none => exact .inl rfl
    | some g =>
      refine .inr fun e => ?_
      injection e with e
      have := (ho'.lt g hb).1
      omega
  · have hxo : Own W C x.2 (atL us ts (x.1 : Int)) := by
      rw [List.mem_append, List.mem_singleton] at hxm
      rcases hxm with h | h
      · exact hx x h
      · rw [h]; exact hx2
    have h1 := hxo.kept hg (own_apart hxo ho)
    refine h1.kept hgs ?_
    cases hb : x.2.ownBlock with
    | none => exact .inl rfl
    | some g =>
      refine .inr fun e => ?_
      injection e with e
      have := (h1.blockOf g hb).1
      omega
/-- All of them, read. -/
theorem FrS.get {W : World} {B7 C N : Nat} {us ts : List Int} {xs : List (Nat × Value)} (h : FrS W B7 C us ts xs) (hxs : xs.map Prod.fst = List.range N) :
    ∃ A c, Boxed W B7 73 (.slice A N c) ∧ ∀ j, j < N → ∃ g, A = some ⟨g, 0, none⟩ ∧ ∃ A' cc, W.cell? ⟨g, j, none⟩ = some (.slice A' us.length cc) ∧ Rd W W.heap.size A' us.length (atL us ts (j : Int)) := by
  obtain ⟨A, c, hb, ho, hx⟩ := h
  have hl : xs.length = N := by have := congrArg List.length hxs; simpa using this
  rw [hl] at hb ho
  refine ⟨A, c, hb, fun j hj => ?_⟩
  have hjl : j < xs.length := by omega
  have h1 : xs[j].1 = j := by
    have := congrArg (fun l : List Nat => l[j]?) hxs
    simpa [hjl, hj] using this
  have hO := hx xs[j] (List.getElem_mem hjl)
  rw [h1] at hO
  obtain ⟨A', cc, e, hr⟩ := hO.form
  rw [atL_len] at e hr
  rcases ho.2 with ⟨hv, h0⟩ | ⟨g, cap, cur, hv, _⟩
  · omega
  · injection hv with hA _ _
    refine ⟨g, hA, A', cc, ?_, hr⟩
    have := World.ownsRow.cells ho (g := g) (by rw [hA]; rfl) j (.slice A' us.length cc) (by simp [hjl, e])
    rw [add_zero_at] at this
    simpa using this
theorem Tryz.info_intsT : (Tryz.prog.info? 26).map (fun i => (i.zero, i.size, i.bytes)) = some (some (.slice none 0 0), 1, 24) := by kernel_rfl
theorem forests_seqN (q Bb : Nat) (Kp : World → World → Prop) (S Sp : List (Nat × Value) → Prop) (hS : S []) (Rdy : List (Nat × Value) → World → Prop) (w : World) (hro : Fence.wide.round = none) (hBb : w.cell? ⟨Bb, 0, none⟩ = some (.slice none 0 0)) (hBl : Bb < w.heap.size) (hq : 1 ≤ q) :
    SeqMut Fence.wide q Tryz.prog 47 #[.pointer (some ⟨Bb, 0, none⟩)] (fun x : Nat × Value => #[Value.int .i64 (x.1 : Int), x.2]) Kp (fun A B => Below A.heap.size A B) S Sp Rdy w := by
  intro l Jv Jx W hW hA hB hMv hY h0
  refine (forests_seq0 q Bb Kp Sp Rdy w hro hBb hBl hq l Jv Jx W hW hA hB hMv hY h0).mono ?_
  rintro e W' ⟨hv, ⟨xs, rfl, hJ⟩ | h⟩
  · exact ⟨hv, .inl ⟨[], hS, hJ⟩⟩
  · exact ⟨hv, .inr h⟩
set_option maxRecDepth 100000 in
set_option maxHeartbeats 8000000 in
theorem implSince_any (A1 A2 : Option Addr) (n1 c1 n2 c2 B0 : Nat) (a b : Int) (us ts : List Int) (w : World) (h1 : Rd w B0 A1 n1 us) (h2 : Rd w B0 A2 n2 ts) (hB0 : B0 ≤ w.heap.size) (hb1 : n1 ≤ 1048576) (hb2 : n2 ≤ 1048576) :
    Calls Tryz.prog 14 #[.agg #[.slice A1 n1 c1, .slice A2 n2 c2], .int .i64 a, .int .i64 b] w fun e w' => e = .returned (.int .i64 (sinceN us ts a b)) ∧ Below w.heap.size w w' := by
  obtain ⟨W1, hW1⟩ : ∃ W1, W1 = w.alloc (.cells #[.slice A1 n1 c1, .slice A2 n2 c2] 28) := ⟨_, rfl⟩
  obtain ⟨W, hW⟩ : ∃ W, W = W1.alloc (.cells #[.slice none 0 0] 73) := ⟨_, rfl⟩
  have e1 : W1.heap.size = w.heap.size + 1 := by rw [hW1]; simp
  have eW : W.heap.size = w.heap.size + 2 := by rw [hW]; simp [e1]
  have hb01 : Below w.heap.size w W1 := by rw [hW1]; exact (Below.refl _ _).alloc (Nat.le_refl _) _
  have hb12 : Below W1.heap.size W1 W := by rw [hW]; exact (Below.refl _ _).alloc (Nat.le_refl _) _
  have hbW : Below w.heap.size w W := Below.on hb01 hb12
  have hA1 : W1.heap[w.heap.size]? = some (.cells #[.slice A1 n1 c1, .slice A2 n2 c2] 28 (0, 0)) := by rw [hW1]; exact World.alloc_heap_new w _
  have hA7 : Boxed W (w.heap.size + 1) 73 (.slice none 0 0) := by rw [hW, ← e1]; exact World.alloc_heap_new W1 _
  have hl1 := h1.1
  have TE : Calls Tryz.prog 23 #[.agg #[.slice A1 n1 c1, .slice A2 n2 c2]] W fun e w' => Below W.heap.size W w' ∧ ∃ sA sn N, e = .returned (.slice sA sn sn) ∧ ((tmB us ts = false ∧ sA = none ∧ sn = 0 ∧ N = 0) ∨ (tmB us ts = true ∧ N = 25 ∧ ∃ T, sA = some ⟨T, 0, none⟩ ∧ sn = n1 ∧ TmK w' T n1 n1 us ts ∧ W.heap.size ≤ T)) :=
    (timedForestOf_any A1 A2 n1 c1 n2 c2 B0 us ts W (h1.below hbW hB0) (h2.below hbW hB0) (Nat.le_trans hB0 hbW.size) hb1 hb2).mono fun e w' ⟨hb, h⟩ => ⟨hb, by
      rcases h with ⟨h1, h2⟩ | ⟨h1, T, h2, h3, h4⟩
      · exact ⟨none, 0, 0, h2, .inl ⟨h1, rfl, rfl, rfl⟩⟩
      · exact ⟨_, n1, 25, h2, .inr ⟨h1, rfl, T, rfl, rfl, h3, h4⟩⟩⟩
  obtain ⟨B3, hB3⟩ : ∃ x, x = w.heap.size := ⟨_, rfl⟩
  obtain ⟨B7, hB7⟩ : ∃ x, x = w.heap.size + 1 := ⟨_, rfl⟩
  rw [← hB3] at hA1
  rw [← hB7] at hA7
  obtain ⟨k1, k2⟩ := (boxTwo_cells hA1).1
  have k1' := (boxTwo_cells ((hb12.block B3 (by omega)).trans hA1)).1.1
  have k2' := (boxTwo_cells ((hb12.block B3 (by omega)).trans hA1)).1.2
  have HW := Lib.hid (And.intro hW (And.intro hW1 (And.intro hB3 (show B3 + 1 = B7 by omega))))
  have HF := Lib.hid (And.intro hbW (And.intro hA7 (And.intro eW hl1)))
  have HSZ := Lib.hid (And.intro hB3 hB7)
  have TE := Lib.hid TE
  have TG := Lib.hid (fun (k : Nat) (A : Option Addr) (c : Nat) (w8 : World) (h : Rd w8 w8.heap.size A us.length (atL us ts (k : Int))) => implTog_any A us.length c _ (atL us ts (k : Int)) a b w8 h (Nat.le_refl _) (by omega))
  obtain ⟨r, hr⟩ : ∃ r, r = sinceN us ts a b := ⟨_, rfl⟩
  have HR := Lib.hid hr
  rw [← hr]
  obtain ⟨i0, hi0, hz0, hz1, hz2⟩ := info_parts Tryz.info_intsT
  have HI0 := Lib.hid (And.intro hi0 (And.intro hz0 (And.intro hz1 hz2)))
  clear h1 h2 hB0 hb1 hb2 hW1 hW e1 eW hb01 hb12 hbW hA1 hA7 hl1 hB3 hB7 hr k1' k2' hi0 hz0 hz1 hz2
  refine (callsIn_wide (n := 8)).1 (callsIn_of_wp_marks Tryz.func14 rfl trivial (wpIn_wide.2 ?_) rfl)
  simp only [Tryz.ntmps14, List.size_toArray, List.length_cons, List.length_nil, Nat.reduceAdd, Nat.reduceSub, Array.replicate_succ, Array.replicate_zero, List.push_toArray, List.append_toArray, List.nil_append, List.cons_append]
  go_wp2_with fail
  go_step3
  go_wp2_with fail
  rw [← HW.out.2.1, ← HW.out.1, ← HW.out.2.2.1]
  rw [HW.out.2.2.2]
  refine TE.out.mono ?_
  rintro e w1 ⟨hb, sA, sn, N, rfl, hN⟩
  obtain ⟨V, hV⟩ : ∃ V, V = w1.alloc (.cells #[.slice sA sn sn] 60) := ⟨_, rfl⟩
  obtain ⟨B9, hB9⟩ : ∃ B9, B9 = w1.heap.size := ⟨_, rfl⟩
  have e9 : V.heap.size = B9 + 1 := by rw [hV, hB9]; simp
  have hbV : Below w1.heap.size w1 V := by rw [hV]; exact (Below.refl _ _).alloc (Nat.le_refl _) _
  have hA9 : Boxed V B9 60 (.slice sA sn sn) := by rw [hV, hB9]; exact World.alloc_heap_new w1 _
  have hs1 := hb.size
  have hA7V : Boxed V B7 73 (.slice none 0 0) := (hbV.block B7 (by have := HSZ.out.2; have := HF.out.2.2.1; omega)).trans ((hb.block B7 (by have := HSZ.out.2; have := HF.out.2.2.1; omega)).trans HF.out.2.1)
  have hbwV : Below w.heap.size w V := Below.on (Below.on HF.out.1 hb) hbV
  have hseq : SeqMut Fence.wide 7 Tryz.prog 47 #[.pointer (some ⟨B9, 0, none⟩)] (fun x : Nat × Value => #[Value.int .i64 (x.1 : Int), x.2]) (Kept B7 V.heap.size) (fun A B => Below A.heap.size A B) (fun xs => xs.map Prod.fst = List.range N) (TmSp 25) (TmRdy V.heap.size us ts) V := by
    rcases hN with ⟨h1, rfl, rfl, rfl⟩ | ⟨h1, rfl, T, rfl, rfl, hT, hTl⟩
    · exact forests_seqN 7 B9 _ (fun xs => xs.map Prod.fst = List.range 0) _ rfl _ V rfl hA9.cell (by omega) (by omega)
    · have h16 : us.length ≤ 16 := (fv_parts (tmB_parts h1).1).2.1
      have := HSZ.out.2
      have := HF.out.2.2
      exact forests_seq 7 B9 B7 T _ us ts V rfl hA9.cell ⟨by omega, by omega, by omega⟩ (hT.below hbV hT.lt) ⟨by omega, by omega⟩ (by omega)
  have hend : N ≤ 25 ∧ ∀ E, E ≤ N → (∀ j, j + 1 = E → tgAt us ts a b j = false) → (E < N → tgAt us ts a b E = true) → sinceN us ts a b = if E = N then -1 else (E : Int) := by
    rcases hN with ⟨h1, rfl, rfl, rfl⟩ | ⟨h1, rfl, T, rfl, rfl, hT, hTl⟩
    · exact ⟨by omega, fun E hE _ _ => by rw [since_no h1, if_pos (by omega)]⟩
    · exact ⟨by omega, fun E hE h2 h3 => since_end h1 hE h2 h3⟩
  have HEND := Lib.hid hend
  have HK := Lib.hid (And.intro e9 (And.intro hA7V (And.intro hbwV hs1)))
  have HVE := Lib.hid (And.intro hV hB9)
  have HSEQ := Lib.hid hseq
  clear hb hV hB9 e9 hbV hA9 hs1 hA7V hbwV hseq hend hN k1 k2
  go_wp2_with fail
  refine (forests_any _ _ _ w1).mono ?_
  rintro e w2 ⟨rfl, rfl⟩
  rw [← HVE.out.1, ← HVE.out.2]
  go_wp2_with fail
  obtain ⟨e9, hA7V, hbwV, hs1⟩ := HK.out
  obtain ⟨s3, s7⟩ := HSZ.out
  have eW := HF.out.2.2.1
  have hB9 := HVE.out.2
  refine (wpIn_wide (n := 8)).1 ?_
  apply wpIn_rangeFunc_seqMut (encs := fun x : Nat × Value => #[Value.int .i64 (x.1 : Int), x.2]) (Kp := Kept B7 V.heap.size) (Mv := fun A B => Below A.heap.size A B) (S := fun xs => xs.map Prod.fst = List.range N) (Sp := TmSp 25) (Rdy := TmRdy V.heap.size us ts) rfl (by omega) (gf := 47) (lb := #[.pointer (some ⟨B9, 0, none⟩)]) rfl trivial (enters_of Tryz.func47 (by kernel_rfl) rfl)
    HSEQ.out (fun h1 h2 => h1.trans h2) ?hKb (fun _ => rfl) ?hMvK ?hRb
    (fun pre W => FrS W B7 V.heap.size us ts pre ∧ Below w.heap.size w W)
    (fun _ _ _ => False)
    ?hI ?hIx ?hMv ⟨⟨none, 0, hA7V, World.ownsRow_nil _ _ _ _, fun x hx => by simp at hx⟩, hbwV⟩
    (fun x => { tmps := #[.agg #[.slice A1 n1 c1, .slice A2 n2 c2], .int .i64 a, .int .i64 b, .pointer (some ⟨B3, 0, none⟩), undef, undef, .int .i64 0, .pointer (some ⟨B7, 0, none⟩), undef, x.2, undef, undef, undef, .agg #[.slice A1 n1 c1, .slice A2 n2 c2], .slice sA sn sn, .func (.func 47) #[] #[.pointer (some ⟨B9, 0, none⟩)], .int .i64 (x.1 : Int), x.2, undef, undef, undef, undef, undef, undef, undef, undef, undef, undef, undef, undef, undef, undef, undef, undef, undef, undef, undef, undef, undef, undef, undef, undef, undef, undef, undef, undef], defers := [] })
  case hKb =>
    intro W l o o' hl hlo hc _
    exact Kept.put W o' hl
  case hMvK =>
    intro A B h
    exact ⟨h.size, fun k o hk ho _ => (h.block k (Array.getElem?_eq_some_iff.1 ho).1).trans ho⟩
  case hRb =>
    intro q W l o o' h hl hlo hc _
    exact fun x hx => own_row (h x hx) (grownBy_putObj' W l o') (fun r e => by injection e with e; subst e; exact ⟨o, hlo, hc⟩)
  case hI =>
    exact OwnFrom.and (fun s A B row h hg hr => h.row hg (fun r e => (hr r e).2)) (ownFrom_below (Nat.le_refl _) (by omega))
  case hIx =>
    intro c s A B row h _ _
    exact h
  case hMv =>
    rintro pre A B ⟨q7, qb⟩ hc
    exact ⟨q7.below hc, Below.on qb hc⟩
  case hassign =>
    intro l x W K hK
    clear s3 s7 e9 eW hs1 hB9
    gi_wp2
    exact hK
  case hbody =>
    rintro l pre ⟨x1, x2⟩ W ⟨⟨A2', c2', hL, ho, hx⟩, qb⟩ hR hsp hsz
    have hO : Own W V.heap.size x2 (atL us ts (x1 : Int)) := hR.last
    have hpl := hsp.last.2.2
    obtain ⟨Ax, cx, rfl, _⟩ := hO.form
    obtain ⟨i1, i2, i3, i4⟩ := HI0.out
    have cL := hL.cell
    have fL := hL.frozen
    have hL5 := hL.alloc (.cells #[.slice Ax (atL us ts (x1 : Int)).length cx] 26)
    have ho5 := ho.alloc (.cells #[.slice Ax (atL us ts (x1 : Int)).length cx] 26)
    have HL := Lib.hid hL
    have HL5 := Lib.hid hL5
    have HO5 := Lib.hid ho5
    have HO := Lib.hid (And.intro ho (And.intro hx (And.intro hO qb)))
    have hpl2 : pre.length ≤ 25 := by omega
    have hB7V : B7 < V.heap.size := by omega
    have HBV := Lib.hid (And.intro hB7V (show w.heap.size ≤ B7 by omega))
    clear hL hL5 ho5 ho hx hO qb hR hsp hpl s3 s7 e9 eW hs1 hB9
    gi_wp2_with (gi_at_builtin; refine wpListIn_append_own _ rfl _ _ 73 rfl V.heap.size 26 i0 (.slice none 0 0) 1 24 Tryz.underlying73 i1 i2 i3 i4 rfl (by decide) _ _ _ rfl HO5.out ⟨W.heap.size, 0, none⟩ 1 1 [.slice Ax (atL us ts (x1 : Int)).length cx] rfl rfl (cell_one_new _ _ _) (by simp [Value.oneCell']) (by unfold maxLen; omega) (by omega) (by simp; omega) ?_; intro v' w' ho' hg' hnil'; obtain ⟨A3, c3, rfl⟩ := rowT_form ho'; have hL' := HL5.out.kept hg' (Boxed.not_row HL5.out (by decide) HO5.out); have cL' := hL'.cell; have fL' := hL'.frozen; have HG' := Lib.hid hg'; have HO' := Lib.hid ho'; have HL' := Lib.hid hL'; clear hg' ho' hnil' hL')
    obtain ⟨ho, hx, hO, qb⟩ := HO.out
    obtain ⟨hB7V, hB7w⟩ := HBV.out
    have hg := (World.grownBy_alloc W (.cells #[.slice Ax (atL us ts (x1 : Int)).length cx] 26) _).trans HG'.out
    have hgs := put_grown w' B7 0 (.slice A3 (pre.length + 1) c3)
    refine ⟨((KeepsOthers.of_grownBy hg (rowT_cells ho)).trans (KeepsOthers.setCell _ _ _)).from _, ⟨Nat.le_trans hg.size hgs.size, fun k hk hk7 => ?_⟩, FrS.push hB7V ho hx hO hg HL'.out HO'.out, ?_⟩
    · refine (hgs.block k (Nat.lt_of_lt_of_le (Nat.lt_of_lt_of_le hk hsz) hg.size) (fun e => hk7 (by injection e))).trans (hg.block k (Nat.lt_of_lt_of_le hk hsz) (fun e => ?_))
      have := (ho.lt k e.symm).1
      omega
    · exact (qb.grown hg (by have := qb.size; omega) (fun r e => by have := (ho.lt r e).1; omega)).setCell (p := ⟨B7, 0, none⟩) hB7w _
  case hdone =>
    rintro D xs W hD hS ⟨q7, qb⟩ hK
    obtain ⟨A, c, hb7, hget⟩ := q7.get hS
    have c7 := hb7.cell
    have HD := Lib.hid (And.intro hK (And.intro hb7 (And.intro hget (And.intro qb (And.intro (show w.heap.size ≤ D by omega) (And.intro (Array.getElem?_eq_some_iff.1 hK).1 hb7.lt))))))
    clear s3 s7 e9 eW hs1 hB9 hb7 hget q7 qb
    gi_wp2
    go_wp2
    go_quiet (fail)
    obtain ⟨W2, hW2⟩ : ∃ W2, W2 = W.drewN nq := ⟨_, rfl⟩
    rw [← hW2]
    have HD2 : Hid (W2.heap[D]? = some (.deferred (some [])) ∧ Boxed W2 B7 73 (.slice A N c) ∧ (∀ j, j < N → ∃ g, A = some ⟨g, 0, none⟩ ∧ ∃ A' cc, W2.cell? ⟨g, j, none⟩ = some (.slice A' us.length cc) ∧ Rd W2 W2.heap.size A' us.length (atL us ts (j : Int))) ∧ Below w.heap.size w W2 ∧ w.heap.size ≤ D ∧ D < W2.heap.size ∧ B7 < W2.heap.size) := by
      rw [hW2]
      obtain ⟨h1, h2, h3, h4, h5, h6, h7⟩ := HD.out
      exact ⟨h1, h2, h3, below_drewN h4 _, h5, h6, h7⟩
    have HBB := Lib.hid (Below.refl W2.heap.size W2)
    have hN25 := HEND.out.1
    have HT0 : Hid (∀ j, j + 1 = 0 → tgAt us ts a b j = false) := fun j hj => by omega
    have HL0 : Hid (N < N → tgAt us ts a b N = true) := fun h => by omega
    clear hW2 c7 HD
    go_wp2_with fail
    go_step3
    go_wp2_with fail
    go_loopw [10, 11] (fun ev lv wr => ∃ E L : Nat, E ≤ L ∧ L ≤ N ∧ ev = .int .i64 ((E : Int) - 1) ∧ lv = .int .i64 (L : Int) ∧ Hid (∀ j, j + 1 = E → tgAt us ts a b j = false) ∧ Hid (L < N → tgAt us ts a b L = true) ∧ Hid (Below W2.heap.size W2 wr)) (fun ev lv _ => (intOf lv - intOf ev).toNat)
    case atStart => exact ⟨0, N, Nat.zero_le _, Nat.le_refl _, by simp, rfl, HT0, HL0, HBB⟩
    case round =>
      obtain ⟨E, L, hEL, hLN, rfl, rfl, HE1, HL1, HBR⟩ := hrel
      clear HT0 HL0 HBB
      have HM := halfway_any E L hEL (by omega)
      have c7 := Boxed.cell (show Boxed wr B7 73 (.slice A N c) from (HBR.out.block B7 HD2.out.2.2.2.2.2.2).trans HD2.out.2.1)
      by_cases he : E = L
      · subst he
        have HM : Hid (∀ w8, Calls Tryz.prog 32 #[.int .i64 ((E : Int) - 1), .int .i64 (E : Int)] w8 fun e w' => e = .returned (.int .i64 ((E : Int) - 1)) ∧ w8 = w') := fun w8 => by
          have := HM w8
          rw [show (E : Int) - 1 + (((E - E + 1) / 2 : Nat) : Int) = (E : Int) - 1 by omega] at this
          exact this
        have t1 : ((E : Int) - 1 == (E : Int) - 1) = true := by simp
        have HS := Lib.hid (HR.out.trans (HEND.out.2 E hLN HE1.out HL1.out))
        have hKr := (HBR.out.block D HD2.out.2.2.2.2.2.1).trans HD2.out.1
        have HB3 := Lib.hid (And.intro (Below.on HD2.out.2.2.2.1 HBR.out) (And.intro hKr HD2.out.2.2.2.2.1))
        clear hEL HE1 HL1 HBR hKr
        by_cases hn : E = N
        · have t2 : ((E : Int) == (N : Int)) = true := by simp [hn]
          have HS2 : Hid (r = -1) := HS.out.trans (if_pos hn)
          clear hn
          go_wp2_with fail
          refine (HM.out _).mono ?_
          rintro e w2 ⟨rfl, rfl⟩
          go_wp2_with fail
          rw [Exit.noGoto_ret]
          refine ⟨by simp, .inl ⟨_, _, rfl, run_takeDeferred HB3.out.2.1, ?_⟩⟩
          exact ⟨_, results_tmp rfl _ _ _, by rw [HS2.out]; rfl, HB3.out.1.trans (belowK_b (w := w) (Nat.le_refl _) wr D _ _ HB3.out.2.2 HB3.out.2.1 rfl rfl)⟩
        · have t2 : ((E : Int) == (N : Int)) = false := by simp; omega
          have HS2 : Hid (r = (E : Int)) := HS.out.trans (if_neg hn)
          clear hn
          go_wp2_with fail
          refine (HM.out _).mono ?_
          rintro e w2 ⟨rfl, rfl⟩
          go_wp2_with fail
          rw [Exit.noGoto_ret]
          refine ⟨by simp, .inl ⟨_, _, rfl, run_takeDeferred HB3.out.2.1, ?_⟩⟩
          exact ⟨_, results_tmp rfl _ _ _, by rw [HS2.out]; rfl, HB3.out.1.trans (belowK_b (w := w) (Nat.le_refl _) wr D _ _ HB3.out.2.2 HB3.out.2.1 rfl rfl)⟩
      · obtain ⟨md, hmd⟩ : ∃ md : Nat, (E : Int) - 1 + (((L - E + 1) / 2 : Nat) : Int) = (md : Int) := ⟨E + (L - E + 1) / 2 - 1, by omega⟩
        have hm1 : E ≤ md := by omega
        have hm2 : md < L := by omega
        have HM : Hid (∀ w8, Calls Tryz.prog 32 #[.int .i64 ((E : Int) - 1), .int .i64 (L : Int)] w8 fun e w' => e = .returned (.int .i64 (md : Int)) ∧ w8 = w') := fun w8 => by
          have := HM w8
          rw [hmd] at this
          exact this
        have t1 : ((md : Int) == (E : Int) - 1) = false := by simp; omega
        have hmN : (md : Int) < (N : Int) := by omega
        obtain ⟨g, rfl, A', cc, hcell, hrd⟩ := HD2.out.2.2.1 md (by omega)
        have hcell := (HBR.out.cell (p := ⟨g, md, none⟩) (World.block_lt_of_cell? _ _ hcell)).trans hcell
        have TZ := Lib.hid (TG.out md A' cc wr (hrd.to HBR.out))
        have HX := Lib.hid (And.intro hEL (And.intro hLN (And.intro hm1 hm2)))
        clear hmd hrd he
        cases htg : togB (atL us ts (md : Int)) a b with
        | true =>
          rw [htg] at TZ
          have HL2 : Hid (md < N → tgAt us ts a b md = true) := fun _ => htg
          clear htg HL1
          go_wp2_with fail
          refine (HM.out _).mono ?_
          rintro e w2 ⟨rfl, rfl⟩
          go_wp2_with fail
          refine TZ.out.mono ?_
          rintro e w3 ⟨rfl, hb3⟩
          have HB3 : Hid (Below W2.heap.size W2 w3) := Below.on HBR.out hb3
          clear hb3
          go_wp2_with fail
          go_roundw
          case rel => exact ⟨E, md, HX.out.2.2.1, by have := HX.out; omega, rfl, rfl, HE1, HL2, HB3⟩
          case measure => have := HX.out; simp [intOf]; omega
        | false =>
          rw [htg] at TZ
          have HE2 : Hid (∀ j, j + 1 = md + 1 → tgAt us ts a b j = false) := fun j hj => by
            obtain rfl : j = md := by omega
            exact htg
          clear htg HE1
          go_wp2_with fail
          refine (HM.out _).mono ?_
          rintro e w2 ⟨rfl, rfl⟩
          go_wp2_with fail
          refine TZ.out.mono ?_
          rintro e w3 ⟨rfl, hb3⟩
          have HB3 : Hid (Below W2.heap.size W2 w3) := Below.on HBR.out hb3
          clear hb3
          go_wp2_with fail
          go_roundw
          case rel => exact ⟨md + 1, L, by have := HX.out; omega, HX.out.2.1, by go_num, rfl, HE2, HL1, HB3⟩
          case measure => have := HX.out; simp [intOf]; omega
  case hstop =>
    rintro D c q W _ _ h _
    exact h.elim
end Go.Proofs.YtmkdiifjecnokaaGreat

namespace Go.Proofs.YtmkdiifjecnokaaGreat
open Go.RowKit Go.Shelf

theorem since_valid {us ts : List Int} {a b : Int} (h : 0 ≤ sinceN us ts a b) : tmB us ts = true := by
  cases e : tmB us ts with
  | true => rfl
  | false => rw [since_no e] at h; omega
theorem tgAt_sym {us ts : List Int} (hv : fvB us = true) {a b : Int} {k : Nat} (h : tgAt us ts a b k = true) : tgAt us ts b a k = true := by
  unfold tgAt at h ⊢
  rw [tog_iff (atL_fv hv _)] at h ⊢
  exact ⟨h.2.1, h.1, h.2.2.symm⟩
theorem tgAt_tr {us ts : List Int} (hv : fvB us = true) {a b c : Int} {k : Nat} (h : tgAt us ts a b k = true) (h2 : tgAt us ts b c k = true) : tgAt us ts a c k = true := by
  unfold tgAt at h h2 ⊢
  rw [tog_iff (atL_fv hv _)] at h h2 ⊢
  exact ⟨h.1, h2.2.1, h.2.2.trans h2.2.2⟩
theorem first_at (p : Nat → Bool) (n : Nat) : p n = true → ∃ x, x ≤ n ∧ p x = true ∧ ∀ j, j < x → p j = false :=
  Nat.strongRecOn n fun n ih h => by
    by_cases hh : ∃ j, j < n ∧ p j = true
    · obtain ⟨j, hj, hp⟩ := hh
      obtain ⟨x, h1, h2⟩ := ih j hj hp
      exact ⟨x, by omega, h2⟩
    · refine ⟨n, Nat.le_refl _, h, fun j hj => ?_⟩
      cases hc : p j with
      | false => rfl
      | true => exact absurd ⟨j, hj, hc⟩ hh
/-- Together for the first time behind x pairs, or never. -/
theorem since_cases {us ts : List Int} (h : tmB us ts = true) (a b : Int) :
    (sinceN us ts a b = -1 ∧ ∀ k, k ≤ 24 → tgAt us ts a b k = false) ∨ ∃ x : Nat, x ≤ 24 ∧ sinceN us ts a b = (x : Int) ∧ tgAt us ts a b x = true ∧ ∀ j, j < x → tgAt us ts a b j = false := by
  have hv := (tmB_parts h).1
  cases e : tgAt us ts a b 24 with
  | true =>
    obtain ⟨x, h0, h1, h2⟩ := first_at (tgAt us ts a b) 24 e
    exact .inr ⟨x, h0, since_at h (by omega) h1 h2, h1, h2⟩
  | false =>
    have hno : ∀ k, k ≤ 24 → tgAt us ts a b k = false := fun k hk => by
      cases hc : tgAt us ts a b k with
      | false => rfl
      | true => rw [tgAt_on hv hk hc] at e; cases e
    exact .inl ⟨since_never h fun j hj => hno j (by omega), hno⟩
/-- Three items: of the three times the two latest are one. -/
theorem since_three {us ts : List Int} (h : tmB us ts = true) {a b c : Int} (h0 : 0 ≤ sinceN us ts a b) :
    (sinceN us ts a c = -1 ∧ sinceN us ts c b = -1) ∨ ∃ x y z : Nat, sinceN us ts a b = (x : Int) ∧ sinceN us ts a c = (y : Int) ∧ sinceN us ts c b = (z : Int) ∧ x ≤ 24 ∧ y ≤ 24 ∧ z ≤ 24 ∧ ((y = z ∧ x ≤ y) ∨ (y < z ∧ x = z) ∨ (z < y ∧ x = y)) := by
  have hv := (tmB_parts h).1
  have up := fun {a b : Int} {k l : Nat} (hk : tgAt us ts a b k = true) (hl : k ≤ l) => tgAt_on hv (a := a) (b := b) hl hk
  obtain ⟨h1, _⟩ | ⟨x, hx, ex, tx, fx⟩ := since_cases h a b
  · omega
  obtain ⟨h1, fy⟩ | ⟨y, hy, ey, ty, fy⟩ := since_cases h a c
  · obtain ⟨h2, _⟩ | ⟨z, hz, ez, tz, fz⟩ := since_cases h c b
    · exact .inl ⟨h1, h2⟩
    · have := tgAt_tr hv (up tx hx) (tgAt_sym hv (up tz hz))
      rw [fy _ (Nat.le_refl _)] at this
      cases this
  · obtain ⟨h2, fz⟩ | ⟨z, hz, ez, tz, fz⟩ := since_cases h c b
    · have := tgAt_tr hv (tgAt_sym hv (up ty hy)) (up tx hx)
      rw [fz _ (Nat.le_refl _)] at this
      cases this
    · refine .inr ⟨x, y, z, ex, ey, ez, hx, hy, hz, ?_⟩
      have nx : ∀ k, tgAt us ts a b k = true → x ≤ k := fun k hk => by
        by_cases hlt : k < x
        · rw [fx k hlt] at hk; cases hk
        · omega
      have ny : ∀ k, tgAt us ts a c k = true → y ≤ k := fun k hk => by
        by_cases hlt : k < y
        · rw [fy k hlt] at hk; cases hk
        · omega
      have nz : ∀ k, tgAt us ts c b k = true → z ≤ k := fun k hk => by
        by_cases hlt : k < z
        · rw [fz k hlt] at hk; cases hk
        · omega
      have m1 := nx (max y z) (tgAt_tr hv (up ty (by omega)) (up tz (by omega)))
      have m2 := ny (max x z) (tgAt_tr hv (up tx (by omega)) (tgAt_sym hv (up tz (by omega))))
      have m3 := nz (max x y) (tgAt_tr hv (tgAt_sym hv (up ty (by omega))) (up tx (by omega)))
      omega
theorem tgAt_swap {us ts : List Int} (hv : fvB us = true) (a b : Int) : tgAt us ts b a = tgAt us ts a b := by
  funext k
  cases e : tgAt us ts a b k with
  | true => exact tgAt_sym hv e
  | false =>
    cases e2 : tgAt us ts b a k with
    | false => rfl
    | true => rw [tgAt_sym hv e2] at e; cases e
theorem since_swap {us ts : List Int} (h : tmB us ts = true) (a b : Int) : sinceN us ts b a = sinceN us ts a b := by
  rw [since_yes h, since_yes h, tgAt_swap (tmB_parts h).1]
/-- At a time from 0 to 24: together, or not. -/
theorem tog_at {us ts : List Int} (h : tmB us ts = true) {a b : Int} {k : Nat} (hk : k ≤ 24) : togB (faL us ts (k : Int)) a b = tgAt us ts a b k := by
  rw [faL_yes (by unfold askB; rw [h, decide_eq_true (by omega)]; rfl)]
  rfl
end Go.Proofs.YtmkdiifjecnokaaGreat
