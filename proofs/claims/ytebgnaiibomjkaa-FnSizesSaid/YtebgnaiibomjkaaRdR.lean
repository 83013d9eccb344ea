/- Slices of slices of integers that are read: what reads so; the laws' and the library's comparisons of two of them, and of two slices of integers. Condition: lengths up to 1048576. -/
import Derived.Test.YtebgnaiibomjkaaBase
import Derived.Test.YtebgnaiibomjkaaHelp
namespace Go.Proofs.Ytebgnaiibomjkaa
open Go.RowKit

/-- The slice value v holds the slice values vs, which hold the integers zss; no two lie in one block. -/
structure OwnRows (w : World) (base : Nat) (v : Value) (vs : List Value) (zss : List (List Int)) : Prop where
  row : w.ownsRow base 23 1 v vs.length vs
  len : vs.length = zss.length
  each : ∀ (i : Nat) (c : Value), vs[i]? = some c → Own w base c (zss[i]?.getD [])
  apart : ∀ c ∈ vs, c.ownBlock = none ∨ c.ownBlock ≠ v.ownBlock
  apart2 : vs.Pairwise fun c d => c.ownBlock = none ∨ c.ownBlock ≠ d.ownBlock

theorem own_kept {w w' : World} {base : Nat} {e : TypeId} {v : Value} {n : Nat} {xs : List Value} (h : w.ownsRow base e 1 v n xs) (hb : Below w.heap.size w w') : w'.ownsRow base e 1 v n xs :=
  World.ownsRow.kept (row := none) h ⟨hb.os, hb.tape, hb.output, hb.size, fun k hk _ => hb.block k hk⟩ (by
    cases hv : v.ownBlock with
    | none => exact .inl rfl
    | some k => exact .inr (by simp))
theorem OwnRows.keep {w w' : World} {base : Nat} {v : Value} {vs : List Value} {zss : List (List Int)} (h : OwnRows w base v vs zss) (hb : Below w.heap.size w w') : OwnRows w' base v vs zss :=
  ⟨own_kept h.row hb, h.len, fun i c hc => (h.each i c hc).keep hb (Nat.le_refl _), h.apart, h.apart2⟩
theorem OwnRows.drewN {w : World} {base : Nat} {v : Value} {vs : List Value} {zss : List (List Int)} (h : OwnRows w base v vs zss) (n : Nat) : OwnRows (w.drewN n) base v vs zss := ⟨h.row, h.len, h.each, h.apart, h.apart2⟩
theorem OwnRows.less {w : World} {base base' : Nat} {v : Value} {vs : List Value} {zss : List (List Int)} (h : OwnRows w base v vs zss) (hb : base' ≤ base) : OwnRows w base' v vs zss :=
  ⟨⟨h.row.1, by
    rcases h.row.2 with h0 | ⟨g, cap, cur, hv, hbase, hr⟩
    · exact .inl h0
    · exact .inr ⟨g, cap, cur, hv, by omega, hr⟩⟩, h.len, fun i c hc => (h.each i c hc).less hb, h.apart, h.apart2⟩
theorem OwnRows.empty (w : World) (base : Nat) (hb : base ≤ w.heap.size) : OwnRows (w.alloc (.cells #[] 23)) base (.slice (some ⟨w.heap.size, 0, none⟩) 0 0) [] [] :=
  ⟨World.ownsRow_lit (base := base) (e := 23) (size := 1) w #[] 0 hb (by unfold maxLen; omega) (by simp), rfl, fun i c hc => by simp at hc, by simp, .nil⟩
theorem OwnRows.ofNil (w : World) (base : Nat) : OwnRows w base (.slice none 0 0) [] [] :=
  ⟨World.ownsRow_nil _ _ _ _, rfl, fun i c hc => by simp at hc, by simp, .nil⟩

/-- One more behind: its slice lay in a block of its own ahead of the append. -/
theorem OwnRows.more {w w' : World} {base : Nat} {v v' c : Value} {vs : List Value} {zss : List (List Int)} {cs : List Int} (h : OwnRows w base v vs zss) (hc : Own w base c cs)
    (hf : c.ownBlock = none ∨ c.ownBlock ≠ v.ownBlock) (hf2 : ∀ d ∈ vs, d.ownBlock = none ∨ d.ownBlock ≠ c.ownBlock)
    (hown : w'.ownsRow base 23 1 v' (vs.length + 1) (vs ++ [c])) (hg : w.grownBy w' v.ownBlock) (hloc : v'.ownBlock = v.ownBlock ∨ ∃ g, v'.ownBlock = some g ∧ w.heap.size ≤ g) : OwnRows w' base v' (vs ++ [c]) (zss ++ [cs]) := by
  have hnew : ∀ d xs, Own w base d xs → (d.ownBlock = none ∨ d.ownBlock ≠ v.ownBlock) → (d.ownBlock = none ∨ d.ownBlock ≠ v'.ownBlock) := fun d xs ho hd => by
    cases hb : d.ownBlock with
    | none => exact .inl rfl
    | some g =>
      refine .inr fun e => ?_
      rcases hloc with h1 | ⟨g', h1, h2⟩
      · rcases hd with hd | hd
        · rw [hb] at hd; cases hd
        · exact hd (by rw [hb, e, h1])
      · rw [h1] at e
        injection e with e
        have := (ho.blockOf g hb).2
        omega
  have heach : ∀ d ∈ vs, ∃ xs, Own w base d xs := fun d hd => by
    obtain ⟨i, hi, rfl⟩ := List.getElem_of_mem hd
    exact ⟨_, h.each i vs[i] (by simp [hi])⟩
  refine ⟨by rw [List.length_append]; exact hown, by simp [h.len], fun i d hd => ?_, fun d hd => ?_, ?_⟩
  · by_cases hi : i < vs.length
    · rw [List.getElem?_append_left hi] at hd
      rw [List.getElem?_append_left (by rw [← h.len]; exact hi)]
      exact (h.each i d hd).kept hg (h.apart d (List.mem_of_getElem? hd))
    · have hi2 : i = vs.length := by
        have := (List.getElem?_eq_some_iff.1 hd).1
        simp at this
        omega
      subst hi2
      rw [List.getElem?_append_right (Nat.le_refl _)] at hd
      rw [h.len, List.getElem?_append_right (Nat.le_refl _)]
      simp at hd ⊢
      subst hd
      exact hc.kept hg hf
  · rcases List.mem_append.1 hd with hd | hd
    · obtain ⟨xs, ho⟩ := heach d hd
      exact hnew d xs ho (h.apart d hd)
    · have : d = c := by simpa using hd
      subst this
      exact hnew _ cs hc hf
  · rw [List.pairwise_append]
    refine ⟨h.apart2, by simp, fun d hd e he => ?_⟩
    have : e = c := by simpa using he
    subst this
    exact hf2 d hd
end Go.Proofs.Ytebgnaiibomjkaa

namespace Go.Proofs.Ytebgnaiibomjkaa
open Go.RowKit

/-- The slice value at A, of n elements, reads as the rows zss; all lies below B. -/
def RdR (w : World) (B : Nat) (A : Option Addr) (n : Nat) (zss : List (List Int)) : Prop :=
  zss.length = n ∧ (0 < n → ∃ b off, A = some ⟨b, off, none⟩ ∧ b < B ∧ ∀ k, k < n → ∃ A' n' c', w.cell? ⟨b, off + k, none⟩ = some (.slice A' n' c') ∧ Rd w B A' n' (zss[k]?.getD []) ∧ n' ≤ 1048576)
theorem RdR.below {w w' : World} {B C : Nat} {A : Option Addr} {n : Nat} {zss : List (List Int)} (h : RdR w B A n zss) (hb : Below C w w') (hB : B ≤ C) : RdR w' B A n zss :=
  ⟨h.1, fun hn => by
    obtain ⟨b, off, e, hlt, hc⟩ := h.2 hn
    refine ⟨b, off, e, hlt, fun k hk => ?_⟩
    obtain ⟨A', n', c', h1, h2, h3⟩ := hc k hk
    exact ⟨A', n', c', (hb.cell (p := ⟨b, off + k, none⟩) (by show b < C; omega)).trans h1, h2.below hb hB, h3⟩⟩
theorem RdR.more {w : World} {B C : Nat} {A : Option Addr} {n : Nat} {zss : List (List Int)} (h : RdR w B A n zss) (hB : B ≤ C) : RdR w C A n zss :=
  ⟨h.1, fun hn => by
    obtain ⟨b, off, e, hlt, hc⟩ := h.2 hn
    refine ⟨b, off, e, by omega, fun k hk => ?_⟩
    obtain ⟨A', n', c', h1, h2, h3⟩ := hc k hk
    exact ⟨A', n', c', h1, h2.more hB, h3⟩⟩
theorem RdR.drewN {w : World} {B : Nat} {A : Option Addr} {m : Nat} {zss : List (List Int)} (h : RdR w B A m zss) (n : Nat) : RdR (w.drewN n) B A m zss := h
theorem RdR.len {w : World} {B : Nat} {A : Option Addr} {n : Nat} {zss : List (List Int)} (h : RdR w B A n zss) : zss.length = n := h.1
theorem RdR.nil (w : World) (B : Nat) (A : Option Addr) : RdR w B A 0 [] := ⟨rfl, fun h => absurd h (by omega)⟩
/-- A slice of slices of the call's own reads. -/
theorem OwnRows.form {w : World} {base : Nat} {v : Value} {vs : List Value} {zss : List (List Int)} (h : OwnRows w base v vs zss) (hl : ∀ zs ∈ zss, zs.length ≤ 1048576) : ∃ A c, v = .slice A zss.length c ∧ RdR w w.heap.size A zss.length zss := by
  rcases h.row.2 with ⟨hv, hx⟩ | ⟨g, cap, cur, hv, hbase, hh, hnc, hm, hsz, hcells⟩
  · have h0 : zss = [] := by rw [h.len] at hx; simpa using hx
    subst h0
    exact ⟨none, 0, hv, RdR.nil _ _ _⟩
  · rw [h.len] at hv
    refine ⟨_, cap, hv, rfl, fun hn => ⟨g, 0, rfl, (World.ownsRow.lt h.row g (by rw [hv]; rfl)).2, fun k hk => ?_⟩⟩
    have hk' : k < vs.length := by rw [h.len]; exact hk
    have h1 := World.ownsRow.cells h.row (g := g) (by rw [hv]; rfl) k vs[k] (by simp [hk'])
    rw [add_zero_at] at h1
    obtain ⟨A', c', e, hr⟩ := (h.each k vs[k] (by simp [hk'])).form
    rw [e] at h1
    refine ⟨A', _, c', h1, hr, ?_⟩
    rw [List.getElem?_eq_getElem hk]
    exact hl _ (List.getElem_mem hk)

theorem OwnRows.rd {w : World} {base n c : Nat} {A : Option Addr} {vs : List Value} {zss : List (List Int)} (h : OwnRows w base (.slice A n c) vs zss) (hl : ∀ zs ∈ zss, zs.length ≤ 1048576) : RdR w w.heap.size A zss.length zss := by
  obtain ⟨A', c', e, hr⟩ := h.form hl
  injection e with e1 e2 e3
  subst e1
  exact hr

theorem drewN_two {w : World} {n m : Nat} : ∃ k, (w.drewN n).drewN m = w.drewN k := ⟨_, World.drewN_drewN _ _ _⟩
theorem drew_chain {w wr : World} (h : ∃ m, wr = w.drewN m) (q : Nat) : ∃ m, wr.drewN q = w.drewN m := by
  obtain ⟨m, rfl⟩ := h
  exact ⟨_, World.drewN_drewN _ _ _⟩
theorem take_succ_rows {xs ys : List (List Int)} {k : Nat} (h : xs.take k = ys.take k) (h1 : k < xs.length) (h2 : k < ys.length) (he : xs[k]?.getD [] = ys[k]?.getD []) : xs.take (k + 1) = ys.take (k + 1) := by
  rw [List.take_succ_eq_append_getElem h1, List.take_succ_eq_append_getElem h2, h]
  simp [h1, h2] at he
  rw [he]
theorem ne_of_getR {xs ys : List (List Int)} {k : Nat} (he : xs[k]?.getD [] ≠ ys[k]?.getD []) : xs ≠ ys := by rintro rfl; exact he rfl
theorem eq_of_takeR {xs ys : List (List Int)} {k : Nat} (h : xs.take k = ys.take k) (h1 : xs.length ≤ k) (h2 : ys.length ≤ k) : xs = ys := by
  rwa [List.take_of_length_le h1, List.take_of_length_le h2] at h

set_option maxHeartbeats 1600000 in
theorem lrSame_all (A1 A2 : Option Addr) (n1 c1 n2 c2 B B' : Nat) (xs ys : List Int) (w : World) (h1 : Rd w B A1 n1 xs) (h2 : Rd w B' A2 n2 ys) (hb : n1 ≤ 1048576) (hb2 : n2 ≤ 1048576) :
    Calls Try.prog 17 #[.slice A1 n1 c1, .slice A2 n2 c2] w fun e w' => e = .returned (.bool (decide (xs = ys))) ∧ ∃ n, w' = w.drewN n := by
  by_cases hn : n1 = n2
  · subst hn
    have l1 := h1.1
    have l2 := h2.1
    have L1 : xs.length ≤ n1 := by omega
    have L2 : ys.length ≤ n1 := by omega
    have L3 : n1 ≤ xs.length := by omega
    have L4 : n1 ≤ ys.length := by omega
    have hmin : min (n1 : Int) (n1 : Int) = (n1 : Int) := by omega
    clear l1 l2
    go_enter Try.func17, Try.ntmps17
    go_wp2
    go_loopw [11] (fun i wr => ∃ k m : Nat, k ≤ n1 ∧ i = .int .i64 k ∧ xs.take k = ys.take k ∧ wr = w.drewN m) (fun i _ => n1 - (intOf i).toNat)
    case atStart => exact ⟨0, 0, Nat.zero_le _, rfl, by simp, rfl⟩
    case round =>
      obtain ⟨k, m, hk, rfl, ht, rfl⟩ := hrel
      by_cases hlt : k < n1
      · obtain ⟨b, off, rfl, _, hc1⟩ := h1.2 (by omega)
        obtain ⟨b2, off2, rfl, _, hc2⟩ := h2.2 (by omega)
        have g1 := hc1 k hlt
        have g2 := hc2 k hlt
        clear hc1 hc2
        by_cases he : xs[k]?.getD 0 = ys[k]?.getD 0
        · have hs := take_succ_eq ht (by omega) (by omega) he
          have H := Lib.hid hs
          clear hs ht
          have hne : (xs[k]?.getD 0 != ys[k]?.getD 0) = false := by simp [he]
          clear he
          go_wp2
          go_quiet (fail)
          go_wp2
          go_roundw
          case rel => exact ⟨k + 1, _, by omega, by go_num, H.out, rfl⟩
          case measure => simp [intOf]; omega
        · have hf : decide (xs = ys) = false := by simp; exact ne_of_get he
          have H := Lib.hid hf
          clear hf ht
          have hne : (xs[k]?.getD 0 != ys[k]?.getD 0) = true := by simp [he]
          clear he
          go_wp2
          go_quiet (fail)
          go_wp2
          go_ret
          exact ⟨ret_bool H.out.symm, _, World.drewN_drewN _ _ _⟩
      · have hf : decide (xs = ys) = true := by simp; exact eq_of_take ht (by omega) (by omega)
        have H := Lib.hid hf
        clear hf ht
        go_wp2
        go_ret
        exact ⟨ret_bool H.out.symm, _, rfl⟩
  · have hf : decide (xs = ys) = false := by simp; rintro rfl; exact hn (h1.1.symm.trans h2.1)
    have H := Lib.hid hf
    clear hf
    have hne : ((n1 : Int) == (n2 : Int)) = false := by simp; omega
    obtain ⟨m, hm1, hm2, hmin⟩ : ∃ m : Nat, m ≤ n1 ∧ m ≤ n2 ∧ ((m = n1 ∧ (n1 : Int) ≤ (n2 : Int)) ∨ (m = n2 ∧ ¬ (n1 : Int) ≤ (n2 : Int))) := ⟨min n1 n2, by omega, by omega, by omega⟩
    rcases hmin with ⟨rfl, hmin⟩ | ⟨rfl, hmin⟩
    all_goals
      go_enter Try.func17, Try.ntmps17
      go_wp2
      go_loopw [11] (fun i wr => ∃ k q : Nat, k ≤ m ∧ i = .int .i64 k ∧ wr = w.drewN q) (fun i _ => m - (intOf i).toNat)
      case atStart => exact ⟨0, 0, Nat.zero_le _, rfl, rfl⟩
      case round =>
        obtain ⟨k, q, hk, rfl, rfl⟩ := hrel
        by_cases hlt : k < m
        · obtain ⟨b, off, rfl, _, hc1⟩ := h1.2 (by omega)
          obtain ⟨b2, off2, rfl, _, hc2⟩ := h2.2 (by omega)
          have g1 := hc1 k (by omega)
          have g2 := hc2 k (by omega)
          have k1 := Nat.lt_of_lt_of_le hlt hm1
          have k2 := Nat.lt_of_lt_of_le hlt hm2
          clear hc1 hc2
          by_cases he : xs[k]?.getD 0 = ys[k]?.getD 0
          · have hne : (xs[k]?.getD 0 != ys[k]?.getD 0) = false := by simp [he]
            clear he
            go_wp2
            go_quiet (fail)
            go_wp2
            go_roundw
            case rel => exact ⟨k + 1, _, by omega, by go_num, rfl⟩
            case measure => simp [intOf]; omega
          · have hne : (xs[k]?.getD 0 != ys[k]?.getD 0) = true := by simp [he]
            clear he
            go_wp2
            go_quiet (fail)
            go_wp2
            go_ret
            exact ⟨ret_bool H.out.symm, _, World.drewN_drewN _ _ _⟩
        · obtain rfl : k = m := by omega
          go_wp2
          go_ret
          exact ⟨ret_bool H.out.symm, _, rfl⟩

/-- One round's test of two rows that are compared. -/
theorem row_test {xs ys : List Int} (h : xs = ys) : decide (xs = ys) = true := by simp [h]
theorem row_test_no {xs ys : List Int} (h : xs ≠ ys) : decide (xs = ys) = false := by simp [h]

end Go.Proofs.Ytebgnaiibomjkaa
namespace Go.Proofs.Ytebgnaiibomjkaa
open Go.RowKit
theorem Rd.to {w w' : World} {A : Option Addr} {n : Nat} {zs : List Int} (h : Rd w w.heap.size A n zs) (hb : Below w.heap.size w w') : Rd w' w'.heap.size A n zs := (h.below hb (Nat.le_refl _)).more hb.size
theorem RdR.to {w w' : World} {A : Option Addr} {n : Nat} {zs : List (List Int)} (h : RdR w w.heap.size A n zs) (hb : Below w.heap.size w w') : RdR w' w'.heap.size A n zs := (h.below hb (Nat.le_refl _)).more hb.size

variable {P : Program} {f : FuncId} {args : Array Value} {w : World}
/-- A quiet one. -/
theorem q_of {r : Ending} (h : Calls P f args w fun e w' => e = r ∧ ∃ q, w' = w.drewN q) : Calls P f args w fun e w' => e = r ∧ Below w.heap.size w w' :=
  h.mono fun _ _ ⟨a, q, b⟩ => ⟨a, by rw [b]; exact below_drewN (Below.refl _ _) q⟩
theorem same_of {r : Ending} (h : Calls P f args w fun e w' => e = r ∧ w = w') : Calls P f args w fun e w' => e = r ∧ Below w.heap.size w w' :=
  h.mono fun _ _ ⟨a, b⟩ => ⟨a, by rw [b]; exact Below.refl _ _⟩
theorem rd_of {zs : List Int} (h : Calls P f args w fun e w' => ∃ v, e = .returned v ∧ Own w' w.heap.size v zs ∧ Below w.heap.size w w') :
    Calls P f args w fun e w' => ∃ A c, e = .returned (.slice A zs.length c) ∧ Rd w' w'.heap.size A zs.length zs ∧ Below w.heap.size w w' :=
  h.mono fun _ _ ⟨v, a, o, b⟩ => by
    obtain ⟨A, c, rfl, r⟩ := o.form
    exact ⟨A, c, a, r, b⟩
theorem rd2_of {zs : List Int} {x : Value} (h : Calls P f args w fun e w' => ∃ v, e = .returned (.tuple #[v, x]) ∧ Own w' w.heap.size v zs ∧ Below w.heap.size w w') :
    Calls P f args w fun e w' => ∃ A c, e = .returned (.tuple #[.slice A zs.length c, x]) ∧ Rd w' w'.heap.size A zs.length zs ∧ Below w.heap.size w w' :=
  h.mono fun _ _ ⟨v, a, o, b⟩ => by
    obtain ⟨A, c, rfl, r⟩ := o.form
    exact ⟨A, c, a, r, b⟩
theorem rows2_of {zss : List (List Int)} {x : Value} (hl : ∀ zs ∈ zss, zs.length ≤ 1048576) (h : Calls P f args w fun e w' => ∃ v vs, e = .returned (.tuple #[v, x]) ∧ OwnRows w' w.heap.size v vs zss ∧ Below w.heap.size w w') :
    Calls P f args w fun e w' => ∃ A c, e = .returned (.tuple #[.slice A zss.length c, x]) ∧ RdR w' w'.heap.size A zss.length zss ∧ Below w.heap.size w w' :=
  h.mono fun _ _ ⟨v, vs, a, o, b⟩ => by
    obtain ⟨A, c, rfl, r⟩ := o.form hl
    exact ⟨A, c, a, r, b⟩
theorem rows2_at {zss : List (List Int)} {x : Value} {n : Nat} (hn : n = zss.length) (hl : ∀ zs ∈ zss, zs.length ≤ 1048576) (h : Calls P f args w fun e w' => ∃ v vs, e = .returned (.tuple #[v, x]) ∧ OwnRows w' w.heap.size v vs zss ∧ Below w.heap.size w w') :
    Calls P f args w fun e w' => ∃ A c, e = .returned (.tuple #[.slice A n c, x]) ∧ RdR w' w'.heap.size A n zss ∧ Below w.heap.size w w' := by
  subst hn
  exact rows2_of hl h
end Go.Proofs.Ytebgnaiibomjkaa
