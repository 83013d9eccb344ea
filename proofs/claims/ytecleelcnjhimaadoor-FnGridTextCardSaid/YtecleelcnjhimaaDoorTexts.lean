/- Words for slices of strings (what is read, what the call itself made) and the contracts of the laws' helpers over them: the size, a copy, a comparison. Condition: lengths up to 1048576. -/
import Derived.Test.YtecleelcnjhimaaDoorBase
import Derived.Test.YtecleelcnjhimaaDoorHelp
import Derived.Lib.Strings
namespace Go.Proofs.YtecleelcnjhimaaDoor
open Go.RowKit

/-- The slice value at A, of n elements, reads as the strings zs; its block lies below B. -/
def RdT (w : World) (B : Nat) (A : Option Addr) (n : Nat) (zs : List ByteArray) : Prop :=
  zs.length = n ∧ (0 < n → ∃ b off, A = some ⟨b, off, none⟩ ∧ b < B ∧ ∀ k, k < n → w.cell? ⟨b, off + k, none⟩ = some (.string (zs[k]?.getD ByteArray.empty)))
theorem RdT.len {w : World} {B : Nat} {A : Option Addr} {n : Nat} {zs : List ByteArray} (h : RdT w B A n zs) : zs.length = n := h.1
theorem RdT.below {w w' : World} {B C : Nat} {A : Option Addr} {n : Nat} {zs : List ByteArray} (h : RdT w B A n zs) (hb : Below C w w') (hB : B ≤ C) : RdT w' B A n zs :=
  ⟨h.1, fun hn => by
    obtain ⟨b, off, e, hlt, hc⟩ := h.2 hn
    exact ⟨b, off, e, hlt, fun k hk => (hb.cell (p := ⟨b, off + k, none⟩) (by show b < C; omega)).trans (hc k hk)⟩⟩
theorem RdT.more {w : World} {B C : Nat} {A : Option Addr} {n : Nat} {zs : List ByteArray} (h : RdT w B A n zs) (hB : B ≤ C) : RdT w C A n zs :=
  ⟨h.1, fun hn => by
    obtain ⟨b, off, e, hlt, hc⟩ := h.2 hn
    exact ⟨b, off, e, by omega, hc⟩⟩
theorem RdT.nil (w : World) (B : Nat) (A : Option Addr) : RdT w B A 0 [] := ⟨rfl, fun h => absurd h (by omega)⟩

/-- The slice value v is nil and empty, or begins at the head of a block of the call's own (from base on), not frozen, and holds the strings zs. -/
def OwnT (w : World) (base : Nat) (v : Value) (zs : List ByteArray) : Prop := w.ownsRow base 9 1 v zs.length (zs.map Value.string)
theorem OwnT.form {w : World} {base : Nat} {v : Value} {zs : List ByteArray} (h : OwnT w base v zs) :
    ∃ A c, v = .slice A zs.length c ∧ RdT w w.heap.size A zs.length zs := by
  rcases h.2 with ⟨hv, hx⟩ | ⟨g, cap, cur, hv, hbase, hh, hnc, hm, hsz, hcells⟩
  · have h0 : zs = [] := by simpa using hx
    subst h0
    exact ⟨none, 0, hv, RdT.nil _ _ _⟩
  · refine ⟨_, cap, hv, rfl, fun hn => ⟨g, 0, rfl, ?_, fun k hk => ?_⟩⟩
    · exact (World.ownsRow.lt h g (by rw [hv]; rfl)).2
    · have := World.ownsRow.cells h (g := g) (by rw [hv]; rfl) k (.string (zs[k]?.getD ByteArray.empty)) (by simp [hk])
      rw [add_zero_at] at this
      simpa using this
theorem OwnT.rd {w : World} {base n c : Nat} {A : Option Addr} {zs : List ByteArray} (h : OwnT w base (.slice A n c) zs) : RdT w w.heap.size A n zs := by
  obtain ⟨A', c', e, hr⟩ := h.form
  injection e with e1 e2 e3
  subst e1 e2
  exact hr
theorem OwnT.form_rd {w : World} {base n c : Nat} {A : Option Addr} {zs : List ByteArray} (h : OwnT w base (.slice A n c) zs) : RdT w w.heap.size A n zs := h.rd
theorem OwnT.keep {w w' : World} {base C : Nat} {v : Value} {zs : List ByteArray} (h : OwnT w base v zs) (hb : Below C w w') (hC : w.heap.size ≤ C) : OwnT w' base v zs :=
  World.ownsRow.kept (row := none) h ⟨hb.os, hb.tape, hb.output, hb.size, fun k hk _ => hb.block k (by omega)⟩ (by
    cases hv : v.ownBlock with
    | none => exact .inl rfl
    | some k => exact .inr (by simp))
theorem OwnT.less {w : World} {base base' : Nat} {v : Value} {zs : List ByteArray} (h : OwnT w base v zs) (hb : base' ≤ base) : OwnT w base' v zs := by
  refine ⟨h.1, ?_⟩
  rcases h.2 with h0 | ⟨g, cap, cur, hv, hbase, hr⟩
  · exact .inl h0
  · exact .inr ⟨g, cap, cur, hv, by omega, hr⟩
theorem OwnT.made {w : World} {base n : Nat} {v : Value} (h : w.ownsRow base 9 1 v n (madeCells (Value.string ByteArray.empty).cells (n * 1)).toList) : OwnT w base v (List.replicate n ByteArray.empty) := by
  have e : (madeCells (Value.string ByteArray.empty).cells (n * 1)).toList = (List.replicate n ByteArray.empty).map Value.string := by
    rw [Nat.mul_one, show (Value.string ByteArray.empty).cells = #[.string ByteArray.empty] from rfl, toList_madeCells_one, List.map_replicate]
  rw [e] at h
  unfold OwnT
  rwa [List.length_replicate]
theorem OwnT.lit (w : World) (base : Nat) (zs : List ByteArray) (hb : base ≤ w.heap.size) (hl : zs.length ≤ 1048576) : OwnT (w.alloc (.cells (zs.map Value.string).toArray 9)) base (.slice (some ⟨w.heap.size, 0, none⟩) zs.length zs.length) zs := by
  have h := World.ownsRow_lit (base := base) (e := 9) (size := 1) w (zs.map Value.string).toArray zs.length hb (by unfold maxLen; omega) (by simp)
  simpa [OwnT] using h
theorem OwnT.len {w : World} {base g n c : Nat} {zs : List ByteArray} (h : OwnT w base (.slice (some ⟨g, 0, none⟩) n c) zs) : zs.length = n := by
  rcases h.2 with ⟨hv, _⟩ | ⟨_, _, _, hv, _⟩
  · simp at hv
  · simp at hv; omega
theorem OwnT.slot {w : World} {base g n c : Nat} {zs : List ByteArray} (h : OwnT w base (.slice (some ⟨g, 0, none⟩) n c) zs) {k : Nat} (hk : k < n) : w.cell? ⟨g, k, none⟩ = some (.string (zs[k]?.getD ByteArray.empty)) := by
  have hl := h.len
  unfold OwnT at h
  rw [hl] at h
  rw [World.ownsRow.cellAt h k (by omega)]
  simp [show k < zs.length by omega]
theorem OwnT.free {w : World} {base g n c : Nat} {zs : List ByteArray} (h : OwnT w base (.slice (some ⟨g, 0, none⟩) n c) zs) (k : Nat) : w.frozen? ⟨g, k, none⟩ = false := by
  have hl := h.len
  unfold OwnT at h
  rw [hl] at h
  exact World.ownsRow.frozenAt h k
theorem OwnT.set_ {w : World} {base g n c : Nat} {zs : List ByteArray} (h : OwnT w base (.slice (some ⟨g, 0, none⟩) n c) zs) (k : Nat) (z : ByteArray) : OwnT (w.setCell ⟨g, k, none⟩ (.string z)) base (.slice (some ⟨g, 0, none⟩) n c) (zs.set k z) := by
  have hl := h.len
  unfold OwnT at h ⊢
  rw [hl] at h
  rw [List.length_set, hl, List.map_set]
  exact (World.ownsRow.stored h k _).1
theorem OwnT.at_base {w : World} {base g n c : Nat} {zs : List ByteArray} (h : OwnT w base (.slice (some ⟨g, 0, none⟩) n c) zs) : base ≤ g ∧ g < w.heap.size := World.ownsRow.lt h g rfl
theorem OwnT.kept {w w' : World} {base : Nat} {v : Value} {zs : List ByteArray} {row : Option Nat} (h : OwnT w base v zs) (hg : w.grownBy w' row) (hne : v.ownBlock = none ∨ v.ownBlock ≠ row) : OwnT w' base v zs := World.ownsRow.kept h hg hne
theorem OwnT.blockOf {w : World} {base : Nat} {v : Value} {zs : List ByteArray} (h : OwnT w base v zs) : ∀ k, v.ownBlock = some k → base ≤ k ∧ k < w.heap.size := World.ownsRow.lt h
theorem set_stepT {xs ys : List ByteArray} {k n : Nat} (hl : xs.length = n) (hk : k < n) (hy : ys.length = n) : (xs.take k ++ ys.drop k).set k (xs[k]?.getD ByteArray.empty) = xs.take (k + 1) ++ ys.drop (k + 1) := by
  have hx : k < xs.length := by omega
  have ht : xs.take (k + 1) = xs.take k ++ [xs[k]] := List.take_succ_eq_append_getElem hx
  have h1 : k - (xs.take k).length = 0 := by simp; omega
  rw [List.set_append_right _ _ (List.length_take_le _ _), h1, List.drop_eq_getElem_cons (by omega : k < ys.length), List.set_cons_zero, ht, List.append_assoc, List.getElem?_eq_getElem hx]
  rfl
theorem Tryd.info_string : (Tryd.prog.info? 9).map (fun i => (i.zero, i.size, i.bytes)) = some (some (.string ByteArray.empty), 1, 16) := by kernel_rfl
theorem take_succ_eqT {xs ys : List ByteArray} {k : Nat} (h : xs.take k = ys.take k) (h1 : k < xs.length) (h2 : k < ys.length) (he : xs[k]?.getD ByteArray.empty = ys[k]?.getD ByteArray.empty) : xs.take (k + 1) = ys.take (k + 1) := by
  rw [List.take_succ_eq_append_getElem h1, List.take_succ_eq_append_getElem h2, h]
  simp [h1, h2] at he
  rw [he]
theorem ne_of_getT {xs ys : List ByteArray} {k : Nat} (he : xs[k]?.getD ByteArray.empty ≠ ys[k]?.getD ByteArray.empty) : xs ≠ ys := by rintro rfl; exact he rfl
theorem eq_of_takeT {xs ys : List ByteArray} {k : Nat} (h : xs.take k = ys.take k) (h1 : xs.length ≤ k) (h2 : ys.length ≤ k) : xs = ys := by
  rwa [List.take_of_length_le h1, List.take_of_length_le h2] at h
theorem bytes_ext {s t : ByteArray} (h : s.toList = t.toList) : s = t := by
  rw [Lib.toList_data, Lib.toList_data] at h
  exact ByteArray.ext (Array.toList_inj.1 h)
/-- How many bytes there are. -/
def sumT : List ByteArray → Nat
  | [] => 0
  | x :: xs => x.size + sumT xs
theorem sumT_append (ys : List ByteArray) : ∀ xs, sumT (xs ++ ys) = sumT xs + sumT ys
  | [] => by simp [sumT]
  | x :: xs => by rw [List.cons_append, sumT, sumT, sumT_append ys xs, Nat.add_assoc]
theorem sumT_take {xs : List ByteArray} {k : Nat} (h : k < xs.length) : sumT (xs.take (k + 1)) = sumT (xs.take k) + (xs[k]?.getD ByteArray.empty).size := by
  rw [List.take_succ_eq_append_getElem h, sumT_append, List.getElem?_eq_getElem h]
  simp [sumT]
theorem sumT_mem {xs : List ByteArray} {x : ByteArray} : x ∈ xs → x.size ≤ sumT xs := by
  induction xs with
  | nil => intro h; cases h
  | cons y ys ih =>
    intro h
    rw [sumT]
    rcases List.mem_cons.1 h with h | h
    · subst h; omega
    · have := ih h; omega

set_option maxHeartbeats 800000 in
theorem szStringS_any (A : Option Addr) (n c B : Nat) (xs : List ByteArray) (w : World) (h : RdT w B A n xs) (hb : n ≤ 9223372036854775807) (hx : ∀ x ∈ xs, x.size ≤ 9223372036854775807) :
    Calls Tryd.prog 22 #[.slice A n c, .int .i64 1048576] w fun e w' => ∃ v, e = .returned (.int .i64 v) ∧ w' = w ∧ (v = -1 ∨ (0 ≤ v ∧ n ≤ 1048576 ∧ sumT xs ≤ 1048576)) := by
  have hlen := h.1
  by_cases hn : 1048576 < n
  · have e1 : IntKind.i64.wrap (1048576 - (n : Int)) = 1048576 - (n : Int) := IntWalk.i64_in _ (by omega)
    have e2 : (1048576 : Int) - (n : Int) < 0 := by omega
    clear h hx hlen
    go_enter Tryd.func22, Tryd.ntmps22
    go_wp2
    go_ret
    exact ⟨_, rfl, rfl, .inl rfl⟩
  · have e1 : IntKind.i64.wrap (1048576 - (n : Int)) = 1048576 - (n : Int) := IntWalk.i64_in _ (by omega)
    have e2 : ¬ (1048576 : Int) - (n : Int) < 0 := by omega
    have HX := Lib.hid hx
    have HL := Lib.hid hlen
    clear hx hlen
    go_enter Tryd.func22, Tryd.ntmps22
    go_wp2
    go_loop [1, 5] (fun q i => ∃ j l : Nat, j ≤ n ∧ i = .int .i64 j ∧ q = .int .i64 l ∧ (l : Int) = 1048576 - n - sumT (xs.take j)) (fun _ i => n - (intOf i).toNat)
    case atStart => exact ⟨0, 1048576 - n, Nat.zero_le _, rfl, by congr 1; omega, by simp [sumT]; omega⟩
    case round =>
      obtain ⟨j, l, hj, rfl, rfl, hl⟩ := hrel
      have HLL := Lib.hid hl
      by_cases hlt : j < n
      · obtain ⟨b, off, rfl, _, hc1⟩ := h.2 (by omega)
        have g1 := hc1 j hlt
        have hjl : j < xs.length := by have := HL.out; omega
        have hsz := HX.out (xs[j]?.getD ByteArray.empty) (by rw [List.getElem?_eq_getElem hjl]; exact List.getElem_mem hjl)
        have hst := sumT_take hjl
        revert g1 hsz hst
        generalize xs[j]?.getD ByteArray.empty = s
        intro g1 hsz hst
        have HST := Lib.hid hst
        have hll : l ≤ 1048576 := by omega
        have e3 : IntKind.i64.wrap ((l : Int) - (s.size : Int)) = (l : Int) - (s.size : Int) := IntWalk.i64_in _ (by omega)
        clear hc1 hst hl hjl
        by_cases hneg : (l : Int) - (s.size : Int) < 0
        · go_wp2
          go_ret
          exact ⟨_, rfl, rfl, .inl rfl⟩
        · go_wp2
          go_round
          case rel => exact ⟨j + 1, l - s.size, by omega, by go_num, by congr 1; omega, by have := HLL.out; have := HST.out; omega⟩
          case measure => simp [intOf]; omega
      · obtain rfl : j = n := by omega
        clear hl
        go_wp2
        go_ret
        refine ⟨_, rfl, rfl, .inr ⟨by omega, by omega, ?_⟩⟩
        have := HLL.out
        rw [List.take_of_length_le (by have := HL.out; omega)] at this
        omega

set_option maxHeartbeats 800000 in
theorem toStringS_any (A : Option Addr) (n c : Nat) (xs : List ByteArray) (w : World) (h : RdT w w.heap.size A n xs) (hb : n ≤ 1048576) :
    Calls Tryd.prog 23 #[.slice A n c] w fun e w' => ∃ v, e = .returned v ∧ OwnT w' w.heap.size v xs ∧ Below w.heap.size w w' := by
  have l1 := h.1
  have L1 : xs.length ≤ n := by omega
  have L3 : n ≤ xs.length := by omega
  clear l1
  obtain ⟨i0, hi, hz0, hz1, hz2⟩ := info_parts Tryd.info_string
  go_enter Tryd.func23, Tryd.ntmps23
  go_wp2_with (at_make; go_must (refine wpList_make_full _ rfl _ _ 23 rfl w.heap.size 9 i0 (.string ByteArray.empty) 1 Tryd.underlying23 hi hz0 hz1 .i64 .i64 _ _ n rfl rfl rfl rfl (by rw [hz2]; omega) (by unfold maxLen; omega) (Nat.le_refl _) ?_); intro w1 hown hgrow)
  have hz : ∀ m : Nat, m = n → OwnT w1 w.heap.size (.slice (some ⟨w.heap.size, 0, none⟩) n n) (xs.take 0 ++ (List.replicate n ByteArray.empty).drop 0) := fun _ _ => OwnT.made hown
  have hb1 : Below w.heap.size w w1 := (Below.refl _ w).grown hgrow (Nat.le_refl _) (fun k e => by cases e)
  clear hown hgrow hi hz0 hz1 hz2
  go_loopw [4] (fun i wr => ∃ k : Nat, k ≤ n ∧ i = .int .i64 k ∧ OwnT wr w.heap.size (.slice (some ⟨w.heap.size, 0, none⟩) n n) (xs.take k ++ (List.replicate n ByteArray.empty).drop k) ∧ Below w.heap.size w wr) (fun i _ => n - (intOf i).toNat)
  case atStart => exact ⟨0, Nat.zero_le _, rfl, hz n rfl, hb1⟩
  case round =>
    obtain ⟨k, hk, rfl, ho, hbe⟩ := hrel
    by_cases hlt : k < n
    · obtain ⟨b, off, rfl, _, hc1⟩ := (h.below hbe (Nat.le_refl _)).2 (by omega)
      have g1 := hc1 k hlt
      have g2 := ho.slot hlt
      have g3 := ho.free k
      have hs := ho.set_ k (xs[k]?.getD ByteArray.empty)
      rw [set_stepT (n := n) (by omega) hlt (by simp)] at hs
      have hb2 := hbe.setCell (p := ⟨w.heap.size, k, none⟩) (Nat.le_refl _) (.string (xs[k]?.getD ByteArray.empty))
      clear ho hc1 hz
      go_wp2
      go_roundw
      case rel => exact ⟨k + 1, by omega, by go_num, hs, hb2⟩
      case measure => simp [intOf]; omega
    · have e : xs.take k ++ (List.replicate n ByteArray.empty).drop k = xs := by rw [List.take_of_length_le (by omega), List.drop_eq_nil_of_le (by simp; omega), List.append_nil]
      rw [e] at ho
      clear e hz
      go_wp2
      go_ret
      exact ⟨_, rfl, ho, hbe⟩

set_option maxHeartbeats 800000 in
theorem eqStringS_any (A1 A2 : Option Addr) (n1 c1 n2 c2 B B' : Nat) (xs ys : List ByteArray) (w : World) (h1 : RdT w B A1 n1 xs) (h2 : RdT w B' A2 n2 ys) (hb : n1 ≤ 1048576) (hb2 : n2 ≤ 1048576) :
    Calls Tryd.prog 24 #[.slice A1 n1 c1, .slice A2 n2 c2] w fun e w' => e = .returned (.bool (decide (xs = ys))) ∧ ∃ n, w' = w.drewN n := by
  by_cases hn : n1 = n2
  · subst hn
    have l1 := h1.1
    have l2 := h2.1
    have L1 : xs.length ≤ n1 := by omega
    have L2 : ys.length ≤ n1 := by omega
    have L3 : n1 ≤ xs.length := by omega
    have L4 : n1 ≤ ys.length := by omega
    clear l1 l2
    go_enter Tryd.func24, Tryd.ntmps24
    go_wp2
    go_loopw [5] (fun i wr => ∃ k m : Nat, k ≤ n1 ∧ i = .int .i64 k ∧ xs.take k = ys.take k ∧ wr = w.drewN m) (fun i _ => n1 - (intOf i).toNat)
    case atStart => exact ⟨0, 0, Nat.zero_le _, rfl, by simp, rfl⟩
    case round =>
      obtain ⟨k, m, hk, rfl, ht, rfl⟩ := hrel
      by_cases hlt : k < n1
      · obtain ⟨b, off, rfl, _, hc1⟩ := h1.2 (by omega)
        obtain ⟨b2, off2, rfl, _, hc2⟩ := h2.2 (by omega)
        have g1 := hc1 k hlt
        have g2 := hc2 k hlt
        clear hc1 hc2
        by_cases he : xs[k]?.getD ByteArray.empty = ys[k]?.getD ByteArray.empty
        · have hs := take_succ_eqT ht (by omega) (by omega) he
          have H := Lib.hid hs
          clear hs ht
          revert g1 g2 he
          generalize xs[k]?.getD ByteArray.empty = s
          generalize ys[k]?.getD ByteArray.empty = t
          intro g1 g2 he
          subst he
          have hne : (s.toList == s.toList) = true := by simp
          go_wp2
          go_quiet (fail)
          go_wp2
          go_roundw
          case rel => exact ⟨k + 1, _, by omega, by go_num, H.out, rfl⟩
          case measure => simp [intOf]; omega
        · have hf : decide (xs = ys) = false := by simp; exact ne_of_getT he
          have H := Lib.hid hf
          clear hf ht
          revert g1 g2 he
          generalize xs[k]?.getD ByteArray.empty = s
          generalize ys[k]?.getD ByteArray.empty = t
          intro g1 g2 he
          have hne : (s.toList == t.toList) = false := beq_eq_false_iff_ne.2 fun e => he (bytes_ext e)
          clear he
          go_wp2
          go_quiet (fail)
          go_wp2
          go_ret
          exact ⟨ret_bool H.out.symm, _, World.drewN_drewN _ _ _⟩
      · have hf : decide (xs = ys) = true := by simp; exact eq_of_takeT ht (by omega) (by omega)
        have H := Lib.hid hf
        clear hf ht
        go_wp2
        go_ret
        exact ⟨ret_bool H.out.symm, _, rfl⟩
  · have hf : decide (xs = ys) = false := by simp; rintro rfl; exact hn (h1.1.symm.trans h2.1)
    have H := Lib.hid hf
    clear hf
    have hne : ((n1 : Int) != (n2 : Int)) = true := by simp; omega
    go_enter Tryd.func24, Tryd.ntmps24
    go_wp2
    go_ret
    exact ⟨ret_bool H.out.symm, 0, rfl⟩

/-- 's = append(s, z)' of one string, s of the call's own: some slice of the call's own that holds one more. -/
theorem wpList_pushT {ops : Array Oper} {rest : List Oper} {o : Oper} {a : Act} {Q : Exit → Act → World → Prop} (hgd : o.guard = none) (s x : Operand)
    (ho : o.op = .call { callee := .builtin .append, args := #[s, x], argTypes := #[23, 23] }) (w : World) (base : Nat) (v : Value) (zs : List ByteArray) (z : ByteArray)
    (hs : a.eval s = v) (hx : a.eval x = .slice (some ⟨w.heap.size, 0, none⟩) 1 1) (hown : OwnT w base v zs) (hlen : zs.length ≤ 1048576) (hbase : base ≤ w.heap.size)
    (h : ∀ v' w', OwnT w' base v' (zs ++ [z]) → w.grownBy w' v.ownBlock → (v'.ownBlock = v.ownBlock ∨ ∃ g, v'.ownBlock = some g ∧ w.heap.size ≤ g) → wpList Tryd.prog ops Q rest (a.put o.dst v') w') :
    wpList Tryd.prog ops Q (o :: rest) a (w.alloc (.cells #[Value.string z] 9)) := by
  obtain ⟨i0, hi, hz0, hz1, hz2⟩ := info_parts Tryd.info_string
  refine wpList_plain hgd fun _ hK => ?_
  obtain ⟨v', w', hrun, h2, h3, _, h5⟩ := run_append_own_at (P := Tryd.prog) (w.alloc (.cells #[Value.string z] 9)) base 23 o.type 9 i0 (.string ByteArray.empty) 1 16 Tryd.underlying23 hi hz0 hz1 hz2 rfl (by decide) v zs.length (zs.map Value.string) (World.ownsRow.alloc hown _) ⟨w.heap.size, 0, none⟩ 1 1 [Value.string z] rfl (cell_one_new _ _ _) (by simp [Value.oneCell']) (by unfold maxLen; omega) (by omega) (by simp; omega)
  unfold Oper.wp execOp
  simp only [ho, resolve, invoke, builtin, Sem.run_bind, Sem.run_pure, Result.andThen_ok, List.map_toArray, List.map_cons, List.map_nil, hs, hx, hrun]
  refine hK _ _ (h v' w' (by unfold OwnT; simpa using h2) (grown_then (World.grownBy_alloc w _ none) h3) ?_)
  rcases h5 with h5 | h5
  · exact .inl h5
  · exact .inr ⟨_, h5, by simp⟩


/-- What is told of a slice of strings that came in. -/
def RowT (w : World) (a : Option Addr) (len cap : Nat) (xs : List ByteArray) : Prop :=
  (a = none ∧ len = 0 ∧ cap = 0 ∧ xs = []) ∨
  ∃ x, a = some x ∧ len ≤ cap ∧ cap ≤ maxLen ∧ xs.length = cap ∧ (∀ i, i < cap → w.cell? (x.add i) = some (.string (xs[i]?.getD ByteArray.empty))) ∧ ∀ s ∈ xs, s.size ≤ maxLen
theorem RowT.rd {w : World} {a : Option Addr} {len cap : Nat} {xs : List ByteArray} (h : RowT w a len cap xs) : RdT w w.heap.size a len (xs.take len) := by
  rcases h with ⟨rfl, rfl, rfl, rfl⟩ | ⟨x, rfl, hl, hm, hz, hc, _⟩
  · exact RdT.nil _ _ _
  · refine ⟨by rw [List.length_take]; omega, fun hn => ?_⟩
    obtain ⟨b, off, spot⟩ := x
    have h0 := hc 0 (by omega)
    have hspot : spot = none := by simpa [Addr.add] using World.cell?_spot h0
    subst hspot
    have hall : ∀ k, k < len → w.cell? ⟨b, off + k, none⟩ = some (.string ((xs.take len)[k]?.getD ByteArray.empty)) := fun k hk => by
      have := hc k (by omega)
      rw [add_at] at this
      rw [this, List.getElem?_take_of_lt hk]
    exact ⟨b, off, rfl, World.block_lt_of_cell? w _ (hall 0 hn), hall⟩
theorem RowT.len_le {w : World} {a : Option Addr} {len cap : Nat} {xs : List ByteArray} (h : RowT w a len cap xs) : len ≤ 9223372036854775807 := by
  rcases h with ⟨rfl, rfl, rfl, rfl⟩ | ⟨x, rfl, hl, hm, hz, hc, _⟩
  · omega
  · unfold maxLen at hm; omega
theorem RowT.each {w : World} {a : Option Addr} {len cap : Nat} {xs : List ByteArray} (h : RowT w a len cap xs) : ∀ s ∈ xs.take len, s.size ≤ 9223372036854775807 := fun s hs => by
  rcases h with ⟨rfl, rfl, rfl, rfl⟩ | ⟨x, rfl, hl, hm, hz, hc, he⟩
  · simp at hs
  · have := he s (List.mem_of_mem_take hs)
    unfold maxLen at this
    exact this
theorem rowT_of {w : World} {x : Addr} {len cap : Nat} {f : Nat → ByteArray} (hl : len ≤ cap) (hm : cap ≤ maxLen) (h : ∀ i, i < cap → w.cell? (x.add i) = some (.string (f i)) ∧ (f i).size ≤ maxLen) : RowT w (some x) len cap ((List.range cap).map f) :=
  .inr ⟨x, rfl, hl, hm, by simp, fun i hi => by
    rw [(h i hi).1]
    simp [hi], fun s hs => by
    obtain ⟨i, hi, rfl⟩ := List.mem_map.1 hs
    exact (h i (List.mem_range.1 hi)).2⟩
end Go.Proofs.YtecleelcnjhimaaDoor
