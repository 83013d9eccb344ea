/- The exact laws' small helpers for slices of pairs: a copy, a comparison, marking and looking at the marks. Condition: lengths up to 1048576. -/
import Derived.Test.YtebgnaiibomjkaaPairs
import Derived.Test.YtebgnaiibomjkaaHelp
import Derived.Test.YtebgnaiibomjkaaArgs
import Derived.StillTailTactics
import Derived.Deep.SlicePairs
namespace Go.Proofs.Ytebgnaiibomjkaa
open Go.RowKit

theorem Pair_cells (w : World) (t : TypeId) (x y : Int) : (w.alloc (.cells #[.int .i64 x, .int .i64 y] t)).cell? ⟨w.heap.size, 0, none⟩ = some (.int .i64 x) ∧ (w.alloc (.cells #[.int .i64 x, .int .i64 y] t)).cell? ⟨w.heap.size, 1, none⟩ = some (.int .i64 y) := by
  have h := heap_alloc_new w (.cells #[.int .i64 x, .int .i64 y] t)
  constructor
  · unfold World.cell?
    rw [h]
    rfl
  · unfold World.cell?
    rw [h]
    rfl
set_option maxHeartbeats 1000000 in
theorem szPairS_any (A : Option Addr) (n c : Nat) (left : Int) (w : World) (hn : n ≤ maxLen) (h0 : 0 ≤ left) (h1 : left ≤ 1048576) :
    Calls Try.prog 48 #[.slice A n c, .int .i64 left] w fun e w' => e = .returned (.int .i64 (if left < (n : Int) then -1 else left - n)) ∧ w = w' := by
  obtain ⟨r, hr⟩ : ∃ r, r = if left < (n : Int) then -1 else left - (n : Int) := ⟨_, rfl⟩
  rw [← hr]
  unfold maxLen at hn
  by_cases hl : left < (n : Int)
  · have HR : Hid (r = -1) := by
      show _ = _
      rw [hr, if_pos hl]
    have h3 : left - (n : Int) < 0 := by omega
    clear hr
    go_enter Try.func48, Try.ntmps48
    go_wp2
    go_ret
    exact ⟨ret_int HR.out.symm, rfl⟩
  · have HR : Hid (r = left - (n : Int)) := by
      show _ = _
      rw [hr, if_neg hl]
    have h3 : ¬ left - (n : Int) < 0 := by omega
    clear hr
    go_enter Try.func48, Try.ntmps48
    go_wp2
    go_ret
    exact ⟨ret_int HR.out.symm, rfl⟩
set_option maxHeartbeats 1000000 in
theorem toPair_any (x y : Int) (w : World) : Calls Try.prog 98 #[.agg #[.int .i64 x, .int .i64 y]] w fun e w' => e = .returned (.agg #[.int .i64 x, .int .i64 y]) ∧ Below w.heap.size w w' := by
  go_enter Try.func98, Try.ntmps98
  go_wp2
  refine bodyPost_ret (v := .agg #[.int .i64 x, .int .i64 y]) (by simp [results, Try.results98, go_sem]) rfl ⟨rfl, ?_⟩
  exact (((Below.refl _ w).alloc (Nat.le_refl _) _).alloc (by simp) _).alloc (by simp; omega) _
set_option maxHeartbeats 1000000 in
theorem eqPair_any (a b c d : Int) (w : World) : Calls Try.prog 99 #[.agg #[.int .i64 a, .int .i64 b], .agg #[.int .i64 c, .int .i64 d]] w fun e w' => e = .returned (.bool (decide ((a, b) = (c, d)))) ∧ Below w.heap.size w w' := by
  obtain ⟨r, hr⟩ : ∃ r, r = decide ((a, b) = (c, d)) := ⟨_, rfl⟩
  rw [← hr]
  have hbz : Below w.heap.size w ((w.alloc (.cells #[.int .i64 a, .int .i64 b] 42)).alloc (.cells #[.int .i64 c, .int .i64 d] 42)) := ((Below.refl _ w).alloc (Nat.le_refl _) _).alloc (by simp) _
  have HB := Lib.hid hbz
  clear hbz
  by_cases h1 : a = c
  · by_cases h2 : b = d
    · have HR : Hid (r = true) := by
        show _ = _
        rw [hr, h1, h2]
        simp
      have t1 : (a != c) = false := by simp [h1]
      have t2 : (b != d) = false := by simp [h2]
      clear hr h1 h2
      go_enter Try.func99, Try.ntmps99
      go_wp2
      go_ret
      exact ⟨ret_bool HR.out.symm, HB.out⟩
    · have HR : Hid (r = false) := by
        show _ = _
        rw [hr]
        simp [h2]
      have t1 : (a != c) = false := by simp [h1]
      have t2 : (b != d) = true := by simp [h2]
      clear hr h1 h2
      go_enter Try.func99, Try.ntmps99
      go_wp2
      go_ret
      exact ⟨ret_bool HR.out.symm, HB.out⟩
  · have HR : Hid (r = false) := by
      show _ = _
      rw [hr]
      simp [h1]
    have t1 : (a != c) = true := by simp [h1]
    clear hr h1
    go_enter Try.func99, Try.ntmps99
    go_wp2
    go_ret
    exact ⟨ret_bool HR.out.symm, HB.out⟩

set_option maxHeartbeats 2000000 in
theorem toPairS_any (A : Option Addr) (n c : Nat) (ps : List (Int × Int)) (w : World) (h : RdQ w w.heap.size A n ps) (hb : n ≤ 1048576) :
    Calls Try.prog 49 #[.slice A n c] w fun e w' => ∃ v, e = .returned v ∧ OwnQ 42 w' w.heap.size v ps ∧ Below w.heap.size w w' := by
  have HLN := Lib.hid h.1
  have H := Lib.hid h
  clear h
  obtain ⟨i0, hi, hz0, hz1, hz2⟩ := info_parts Try.info_pair
  go_enter Try.func49, Try.ntmps49
  go_wp2_with (at_make; go_must (refine wpList_make_full _ rfl _ _ 37 rfl w.heap.size 42 i0 (.agg #[.int .i64 0, .int .i64 0]) 2 Try.underlying37 hi hz0 hz1 .i64 .i64 _ _ n rfl rfl rfl rfl (by rw [hz2]; omega) (by unfold maxLen; omega) (Nat.le_refl _) ?_); intro w1 hown hgrow)
  have hz : Hid (OwnQ 42 w1 w.heap.size (.slice (some ⟨w.heap.size, 0, none⟩) n n) (ps.take 0 ++ (List.replicate n (0, 0)).drop 0)) := OwnQ.made hown
  have hb1 : Below w.heap.size w w1 := (Below.refl _ w).grown hgrow (Nat.le_refl _) (fun k e => by cases e)
  clear hown hgrow hi hz0 hz1 hz2
  go_loopw [4] (fun i wr => ∃ k : Nat, k ≤ n ∧ i = .int .i64 k ∧ Hid (OwnQ 42 wr w.heap.size (.slice (some ⟨w.heap.size, 0, none⟩) n n) (ps.take k ++ (List.replicate n (0, 0)).drop k)) ∧ Below w.heap.size w wr) (fun i _ => n - (intOf i).toNat)
  case atStart => exact ⟨0, Nat.zero_le _, rfl, hz, hb1⟩
  case round =>
    obtain ⟨k, hk, rfl, HO, hbe⟩ := hrel
    clear hz hb1
    by_cases hlt : k < n
    · obtain ⟨b, off, rfl, _, hc1⟩ := (H.out.below hbe (Nat.le_refl _)).2 (by omega)
      obtain ⟨g1, g2⟩ := hc1 k hlt
      have hkk : (k : Int) < (n : Int) := by omega
      have hset := set_stepQ (xs := ps) (ys := List.replicate n (0, 0)) (k := k) (n := n) HLN.out hlt (by simp)
      obtain ⟨x, hx⟩ : ∃ x, x = (ps[k]?.getD (0, 0)).1 := ⟨_, rfl⟩
      obtain ⟨y, hy⟩ : ∃ y, y = (ps[k]?.getD (0, 0)).2 := ⟨_, rfl⟩
      have hxy : ps[k]?.getD (0, 0) = (x, y) := by rw [hx, hy]
      rw [hxy] at hset
      rw [← hx] at g1
      rw [← hy] at g2
      have HSET := Lib.hid hset
      have TP := Lib.hid (toPair_any x y wr)
      have HB := Lib.hid hbe
      clear hc1 hx hy hxy hset hbe
      go_wp2_with fail
      refine TP.out.mono ?_
      rintro e w2 ⟨rfl, hb2⟩
      have ho := HO.out.keep hb2 (Nat.le_refl _)
      obtain ⟨s1, s2⟩ := ho.slot hlt
      have f1 := ho.free (k * 2)
      have f2 := ho.free (k * 2 + 1)
      have hns := ho.set_ hlt x y
      rw [HSET.out] at hns
      have HNS := Lib.hid hns
      have hb3 := Lib.hid (((HB.out.trans (hb2.mono HB.out.size)).setCell (p := ⟨w.heap.size, k * 2, none⟩) (Nat.le_refl _) (.int .i64 x)).setCell (p := ⟨w.heap.size, k * 2 + 1, none⟩) (Nat.le_refl _) (.int .i64 y))
      clear ho hb2 hns HO TP
      go_wp2
      go_roundw
      case rel => exact ⟨k + 1, by omega, by go_num, HNS, hb3.out⟩
      case measure => simp [intOf]; omega
    · have e : ps.take k ++ (List.replicate n (0, 0)).drop k = ps := by rw [List.take_of_length_le (by have := HLN.out; omega), List.drop_eq_nil_of_le (by simp; omega), List.append_nil]
      have HO2 : Hid (OwnQ 42 wr w.heap.size (.slice (some ⟨w.heap.size, 0, none⟩) n n) ps) := by
        have := HO.out
        rw [e] at this
        exact this
      clear e HO
      go_wp2
      go_ret
      exact ⟨_, rfl, HO2.out, hbe⟩

theorem take_succ_eqPair {xs ys : List (Int × Int)} {k : Nat} (h : xs.take k = ys.take k) (h1 : k < xs.length) (h2 : k < ys.length) (he : xs[k]?.getD (0, 0) = ys[k]?.getD (0, 0)) : xs.take (k + 1) = ys.take (k + 1) := by
  rw [List.take_succ_eq_append_getElem h1, List.take_succ_eq_append_getElem h2, h]
  simp only [List.getElem?_eq_getElem h1, List.getElem?_eq_getElem h2, Option.getD_some] at he
  rw [he]
theorem ne_of_getPair {xs ys : List (Int × Int)} {k : Nat} (he : xs[k]?.getD (0, 0) ≠ ys[k]?.getD (0, 0)) : xs ≠ ys := by rintro rfl; exact he rfl
theorem eq_of_takePair {xs ys : List (Int × Int)} {k : Nat} (h : xs.take k = ys.take k) (h1 : xs.length ≤ k) (h2 : ys.length ≤ k) : xs = ys := by
  rwa [List.take_of_length_le h1, List.take_of_length_le h2] at h
set_option maxRecDepth 100000 in
set_option maxHeartbeats 4000000 in
theorem eqPairS_any (A1 A2 : Option Addr) (n1 c1 n2 c2 B B' : Nat) (xs ys : List (Int × Int)) (w : World) (h1 : RdQ w B A1 n1 xs) (h2 : RdQ w B' A2 n2 ys) (hB : B ≤ w.heap.size) (hB' : B' ≤ w.heap.size) (hb : n1 ≤ 1048576) (hb2 : n2 ≤ 1048576) :
    Calls Try.prog 50 #[.slice A1 n1 c1, .slice A2 n2 c2] w fun e w' => e = .returned (.bool (decide (xs = ys))) ∧ Below w.heap.size w w' := by
  obtain ⟨r, hr⟩ : ∃ r, r = decide (xs = ys) := ⟨_, rfl⟩
  rw [← hr]
  by_cases hn : n1 = n2
  · subst hn
    have HL := Lib.hid (And.intro h1.1 h2.1)
    have HNE : Hid (∀ k : Nat, xs[k]?.getD (0, 0) ≠ ys[k]?.getD (0, 0) → r = false) := fun k e => by rw [hr]; exact decide_eq_false (ne_of_getPair e)
    have HYE : Hid (xs.take n1 = ys.take n1 → r = true) := fun e => by rw [hr]; exact decide_eq_true (eq_of_takePair e (by have := h1.1; omega) (by have := h2.1; omega))
    have H1 := Lib.hid h1
    have H2 := Lib.hid h2
    have HBB := Lib.hid (And.intro hB hB')
    clear h1 h2 hr hB hB' hb2
    go_enter Try.func50, Try.ntmps50
    go_wp2
    go_loopw [5] (fun i wr => ∃ k : Nat, k ≤ n1 ∧ i = .int .i64 k ∧ Hid (xs.take k = ys.take k) ∧ Below w.heap.size w wr) (fun i _ => n1 - (intOf i).toNat)
    case atStart => exact ⟨0, Nat.zero_le _, rfl, (by show _ = _; simp), Below.refl _ _⟩
    case round =>
      obtain ⟨k, hk, rfl, ht, hbe⟩ := hrel
      by_cases hlt : k < n1
      · obtain ⟨b, off, rfl, hl1, hc1⟩ := (H1.out.below hbe HBB.out.1).2 (by omega)
        obtain ⟨b2, off2, rfl, hl2, hc2⟩ := (H2.out.below hbe HBB.out.2).2 (by omega)
        obtain ⟨g1, g2⟩ := hc1 k hlt
        obtain ⟨g3, g4⟩ := hc2 k hlt
        have hkk : (k : Int) < (n1 : Int) := by omega
        have HK := Lib.hid (HNE.out k)
        have HT : Hid (xs[k]?.getD (0, 0) = ys[k]?.getD (0, 0) → xs.take (k + 1) = ys.take (k + 1)) := fun e => take_succ_eqPair ht.out (by have := HL.out.1; omega) (by have := HL.out.2; omega) e
        have hbb : Below wr.heap.size wr wr := Below.refl _ _
        obtain ⟨x, hx⟩ : ∃ x, x = (xs[k]?.getD (0, 0)).1 := ⟨_, rfl⟩
        obtain ⟨y, hy⟩ : ∃ y, y = (xs[k]?.getD (0, 0)).2 := ⟨_, rfl⟩
        obtain ⟨x', hx'⟩ : ∃ x', x' = (ys[k]?.getD (0, 0)).1 := ⟨_, rfl⟩
        obtain ⟨y', hy'⟩ : ∃ y', y' = (ys[k]?.getD (0, 0)).2 := ⟨_, rfl⟩
        have e1 : xs[k]?.getD (0, 0) = (x, y) := by rw [hx, hy]
        have e2 : ys[k]?.getD (0, 0) = (x', y') := by rw [hx', hy']
        rw [e1, e2] at HK HT
        rw [← hx] at g1
        rw [← hy] at g2
        rw [← hx'] at g3
        rw [← hy'] at g4
        have EP := Lib.hid (fun (w2 : World) => eqPair_any x y x' y' w2)
        have HBE := Lib.hid hbe
        clear hc1 hc2 hx hy hx' hy' e1 e2 ht hbe HNE hl1 hl2
        by_cases he : (x, y) = (x', y')
        · have HT2 := Lib.hid (HT.out he)
          rw [decide_eq_true he] at EP
          clear he HT HK
          go_wp2
          go_region_held3 (fun w' => Below wr.heap.size wr w' ∧ w'.cell? ⟨b, off + k * 2, none⟩ = some (.int .i64 x) ∧ w'.cell? ⟨b, off + k * 2 + 1, none⟩ = some (.int .i64 y) ∧ w'.cell? ⟨b2, off2 + k * 2, none⟩ = some (.int .i64 x') ∧ w'.cell? ⟨b2, off2 + k * 2 + 1, none⟩ = some (.int .i64 y'))
            (first | exact held4_drew ⟨by assumption, by assumption, by assumption, by assumption, by assumption⟩ | exact held4_drew (by assumption) | exact held4_call (by assumption) (by assumption) (Below.size (And.left (by assumption))))
            (first | (go_at_call 99; refine (EP.out _).mono ?_; rintro e w8 ⟨rfl, hb8⟩))
          have hbz := Lib.hid (HBE.out.trans ((‹Below wr.heap.size wr _ ∧ _›).1.mono HBE.out.size))
          go_wp2
          go_roundw
          case rel => exact ⟨k + 1, by omega, by go_num, HT2, hbz.out⟩
          case measure => simp [intOf]; omega
        · have HF := Lib.hid (HK.out he)
          rw [decide_eq_false he] at EP
          clear he HT HK
          go_wp2
          go_region_held3 (fun w' => Below wr.heap.size wr w' ∧ w'.cell? ⟨b, off + k * 2, none⟩ = some (.int .i64 x) ∧ w'.cell? ⟨b, off + k * 2 + 1, none⟩ = some (.int .i64 y) ∧ w'.cell? ⟨b2, off2 + k * 2, none⟩ = some (.int .i64 x') ∧ w'.cell? ⟨b2, off2 + k * 2 + 1, none⟩ = some (.int .i64 y'))
            (first | exact held4_drew ⟨by assumption, by assumption, by assumption, by assumption, by assumption⟩ | exact held4_drew (by assumption) | exact held4_call (by assumption) (by assumption) (Below.size (And.left (by assumption))))
            (first | (go_at_call 99; refine (EP.out _).mono ?_; rintro e w8 ⟨rfl, hb8⟩))
          have hbz := Lib.hid (HBE.out.trans ((‹Below wr.heap.size wr _ ∧ _›).1.mono HBE.out.size))
          go_wp2
          go_ret
          exact ⟨ret_bool HF.out.symm, hbz.out⟩
      · obtain rfl : k = n1 := by omega
        have HF := Lib.hid (HYE.out ht.out)
        go_wp2
        go_ret
        exact ⟨ret_bool HF.out.symm, hbe⟩
  · have hf : r = false := by rw [hr]; exact decide_eq_false (by rintro rfl; exact hn (h1.1.symm.trans h2.1))
    have H := Lib.hid hf
    have hne : ((n1 : Int) != (n2 : Int)) = true := by simp; omega
    clear hf hr
    go_enter Try.func50, Try.ntmps50
    go_wp2
    go_ret
    exact ⟨ret_bool H.out.symm, Below.refl _ _⟩

/-- The marks of n structs from k on. -/
def marksPair (k : Int) (n : Nat) : List (Int × Int) := (List.range n).map fun i : Nat => (k + 2 * (i : Int), k + 2 * (i : Int) + 1)
theorem marksPair_len (k : Int) (n : Nat) : (marksPair k n).length = n := by simp [marksPair]
theorem marksPair_get (k : Int) {n i : Nat} (h : i < n) : (marksPair k n)[i]?.getD (0, 0) = (k + 2 * (i : Int), k + 2 * (i : Int) + 1) := by simp [marksPair, h]
theorem grown_setPair {w2 wr : World} {g k : Nat} (hg : w2.grownBy wr (some g)) (v : Value) : w2.grownBy (wr.setCell ⟨g, k, none⟩ v) (some g) :=
  ⟨hg.os, hg.tape, hg.output, by simpa [World.setCell] using hg.size, fun i hi hne => (Below.heap_setCell wr ⟨g, k, none⟩ _ i (fun e => hne (by rw [e]))).trans (hg.block i hi hne)⟩
set_option maxHeartbeats 2000000 in
theorem markPairS_any (v : Value) (k : Int) (ps : List (Int × Int)) (base : Nat) (w : World) (h : OwnQ 42 w base v ps) (hb : ps.length ≤ 1048576) (hk0 : 0 ≤ k) (hk1 : k ≤ 4194304) :
    Calls Try.prog 51 #[v, .int .i64 k] w fun e w' => e = .returned (.int .i64 (k + 2 * ps.length)) ∧ OwnQ 42 w' base v (marksPair k ps.length) ∧ w.grownBy w' v.ownBlock := by
  rcases h.2 with ⟨hv, hx⟩ | ⟨g, cap, cur, hv, _⟩
  · have h0 : ps = [] := by simpa using hx
    subst h0 hv
    clear hx hb
    go_enter Try.func51, Try.ntmps51
    go_wp2
    refine wp_loop_rounds 1 ?_
    rw [rounds_succ]
    go_wp2
    go_ret
    exact ⟨ret_int (by simp), World.ownsRow_nil _ _ _ _, World.grownBy.refl _ _⟩
  · obtain ⟨n, hn⟩ : ∃ n, n = ps.length := ⟨_, rfl⟩
    rw [← hn] at hv
    subst hv
    rw [← hn]
    rw [← hn] at hb
    have HL := Lib.hid hn
    have hz : Hid (OwnQ 42 w base (.slice (some ⟨g, 0, none⟩) n cap) ((marksPair k n).take 0 ++ ps.drop 0)) := h
    clear hn h
    go_enter Try.func51, Try.ntmps51
    go_wp2
    go_loopw [1, 5] (fun q i wr => ∃ j : Nat, j ≤ n ∧ i = .int .i64 j ∧ q = .int .i64 (k + 2 * (j : Int)) ∧ Hid (OwnQ 42 wr base (.slice (some ⟨g, 0, none⟩) n cap) ((marksPair k n).take j ++ ps.drop j)) ∧ w.grownBy wr (some g)) (fun _ i _ => n - (intOf i).toNat)
    case atStart => exact ⟨0, Nat.zero_le _, rfl, by simp, hz, World.grownBy.refl _ _⟩
    case round =>
      obtain ⟨j, hj, rfl, rfl, HO, hg⟩ := hrel
      clear hz
      by_cases hlt : j < n
      · obtain ⟨s1, s2⟩ := HO.out.slot hlt
        have f1 := HO.out.free (j * 2)
        have f2 := HO.out.free (j * 2 + 1)
        have hns := HO.out.set_ hlt (k + 2 * (j : Int)) (k + 2 * (j : Int) + 1)
        rw [← marksPair_get k hlt, set_stepQ (n := n) (marksPair_len k n) hlt HL.out.symm] at hns
        have HNS := Lib.hid hns
        have hg2 := Lib.hid (grown_setPair (grown_setPair hg (k := j * 2) (.int .i64 (k + 2 * (j : Int)))) (k := j * 2 + 1) (.int .i64 (k + 2 * (j : Int) + 1)))
        have hkk : (j : Int) < (n : Int) := by omega
        clear hns hg HO
        go_wp2
        go_roundw
        case rel => exact ⟨j + 1, by omega, by go_num, by congr 1; omega, HNS, hg2.out⟩
        case measure => simp [intOf]; omega
      · have e : (marksPair k n).take j ++ ps.drop j = marksPair k n := by rw [List.take_of_length_le (by rw [marksPair_len]; omega), List.drop_eq_nil_of_le (by have := HL.out; omega), List.append_nil]
        have HO2 : Hid (OwnQ 42 wr base (.slice (some ⟨g, 0, none⟩) n cap) (marksPair k n)) := by
          have := HO.out
          rw [e] at this
          exact this
        obtain rfl : j = n := by omega
        clear e HO
        go_wp2
        go_ret
        exact ⟨rfl, HO2.out, hg⟩

end Go.Proofs.Ytebgnaiibomjkaa
namespace Go.Proofs.Ytebgnaiibomjkaa
open Go.RowKit
theorem Step_cells (w : World) (t : TypeId) (x y : Int) : (w.alloc (.cells #[.int .i64 x, .int .i64 y] t)).cell? ⟨w.heap.size, 0, none⟩ = some (.int .i64 x) ∧ (w.alloc (.cells #[.int .i64 x, .int .i64 y] t)).cell? ⟨w.heap.size, 1, none⟩ = some (.int .i64 y) := by
  have h := heap_alloc_new w (.cells #[.int .i64 x, .int .i64 y] t)
  constructor
  · unfold World.cell?
    rw [h]
    rfl
  · unfold World.cell?
    rw [h]
    rfl
theorem take_succ_eqStep {xs ys : List (Int × Int)} {k : Nat} (h : xs.take k = ys.take k) (h1 : k < xs.length) (h2 : k < ys.length) (he : xs[k]?.getD (0, 0) = ys[k]?.getD (0, 0)) : xs.take (k + 1) = ys.take (k + 1) := by
  rw [List.take_succ_eq_append_getElem h1, List.take_succ_eq_append_getElem h2, h]
  simp only [List.getElem?_eq_getElem h1, List.getElem?_eq_getElem h2, Option.getD_some] at he
  rw [he]
theorem ne_of_getStep {xs ys : List (Int × Int)} {k : Nat} (he : xs[k]?.getD (0, 0) ≠ ys[k]?.getD (0, 0)) : xs ≠ ys := by rintro rfl; exact he rfl
theorem eq_of_takeStep {xs ys : List (Int × Int)} {k : Nat} (h : xs.take k = ys.take k) (h1 : xs.length ≤ k) (h2 : ys.length ≤ k) : xs = ys := by
  rwa [List.take_of_length_le h1, List.take_of_length_le h2] at h
/-- The marks of n structs from k on. -/
def marksStep (k : Int) (n : Nat) : List (Int × Int) := (List.range n).map fun i : Nat => (k + 2 * (i : Int), k + 2 * (i : Int) + 1)
theorem marksStep_len (k : Int) (n : Nat) : (marksStep k n).length = n := by simp [marksStep]
theorem marksStep_get (k : Int) {n i : Nat} (h : i < n) : (marksStep k n)[i]?.getD (0, 0) = (k + 2 * (i : Int), k + 2 * (i : Int) + 1) := by simp [marksStep, h]
theorem grown_setStep {w2 wr : World} {g k : Nat} (hg : w2.grownBy wr (some g)) (v : Value) : w2.grownBy (wr.setCell ⟨g, k, none⟩ v) (some g) :=
  ⟨hg.os, hg.tape, hg.output, by simpa [World.setCell] using hg.size, fun i hi hne => (Below.heap_setCell wr ⟨g, k, none⟩ _ i (fun e => hne (by rw [e]))).trans (hg.block i hi hne)⟩
end Go.Proofs.Ytebgnaiibomjkaa
namespace Go.Proofs.Ytebgnaiibomjkaa
open Go.RowKit Go.ChangeShapes Go.WideShapes Go.Deep
/-- What is told of a slice of structs of two ints that came in. -/
def RowQ (w : World) (a : Option Addr) (len cap : Nat) (ps : List (Int × Int)) : Prop :=
  len ≤ cap ∧ cap ≤ maxLen ∧ RdQ w w.heap.size a len ps
theorem RowQ.rd {w : World} {a : Option Addr} {len cap : Nat} {ps : List (Int × Int)} (h : RowQ w a len cap ps) : RdQ w w.heap.size a len ps := h.2.2
theorem RowQ.small {w : World} {a : Option Addr} {len cap : Nat} {ps : List (Int × Int)} (h : RowQ w a len cap ps) : len ≤ maxLen := Nat.le_trans h.1 h.2.1
theorem add_cases (x : Addr) (i : Nat) (hs : x.spot = none) : x.add i = ⟨x.block, x.off + i, none⟩ := by
  obtain ⟨b, off, spot⟩ := x
  subst hs
  exact add_at b off i
section
variable {H : Type} {enc : TypeId × Value → H} {P : Program} {w : World} {base : Nat} {spare : Nat → Bool} {held : Bool}
theorem open_pairs_row {t e : TypeId} {f0 f1 : Field} {fuel : Nat} {v : Value} {x : DataW H × List MemPlace} (ht : P.underlying t = some (.slice e)) (he : P.underlying e = some (.struct #[f0, f1]))
    (ce : P.cellsOf e = 2) (o0 : f0.offset = 0) (o1 : f1.offset = 1) (c0 : P.cellsOf f0.type = 1) (c1 : P.cellsOf f1.type = 1) (u0 : P.underlying f0.type = some (.int .i64)) (u1 : P.underlying f1.type = some (.int .i64))
    (h : DataW.trod enc P w base spare held fuel t [v] = some x) : ∃ a len cap ps, v = .slice a len cap ∧ RowQ w a len cap ps := by
  rcases open_slice_pairs ht he ce o0 o1 c0 c1 h with ⟨hcs, _⟩ | ⟨a, len, cap, m, n, V0, V1, D0, D1, P0, P1, hcs, hb, hl, hm, hmm, _, hx⟩
  · simp only [List.cons.injEq, and_true] at hcs
    exact ⟨none, 0, 0, [], hcs, Nat.le_refl _, by unfold maxLen; omega, RdQ.nil _ _ _⟩
  · simp only [List.cons.injEq, and_true] at hcs
    have hlm : len ≤ m := by rw [hmm]; split <;> omega
    have hint : ∀ i, i < len → ∃ p : Int × Int, w.cell? (a.add (i * 2)) = some (.int .i64 p.1) ∧ w.cell? (a.add (i * 2 + 1)) = some (.int .i64 p.2) := fun i hi => by
      obtain ⟨h1, h2, h3, h4⟩ := hx i (by omega)
      obtain ⟨n0, e0, _, _⟩ := DataW.trod_int u0 h3
      obtain ⟨n1, e1, _, _⟩ := DataW.trod_int u1 h4
      simp only [List.cons.injEq, and_true] at e0 e1
      exact ⟨(n0, n1), by rw [h1, e0], by rw [h2, e1]⟩
    obtain ⟨f, hf⟩ := choose_lt hint
    refine ⟨some a, len, cap, (List.range len).map f, hcs, hl, hm, by simp, fun hn => ?_⟩
    have h0 := (hf 0 hn).1
    have hspot : a.spot = none := by
      have := World.cell?_spot h0
      rw [Nat.zero_mul] at this
      simpa [Addr.add] using this
    refine ⟨a.block, a.off, by obtain ⟨b, off, spot⟩ := a; simp only at hspot; rw [hspot], ?_, fun k hk => ?_⟩
    · have := World.block_lt_of_cell? w _ h0
      rw [add_cases a _ hspot] at this
      exact this
    · obtain ⟨g1, g2⟩ := hf k hk
      rw [add_cases a _ hspot] at g1 g2
      have e : ((List.range len).map f)[k]?.getD (0, 0) = f k := by simp [hk]
      rw [e]
      exact ⟨g1, by rw [Nat.add_assoc]; exact g2⟩
theorem open_ints_row {t e : TypeId} {k : IntKind} {fuel : Nat} {v : Value} {x : DataW H × List MemPlace} (ht : P.underlying t = some (.slice e)) (he : P.underlying e = some (.int k)) (hc : P.cellsOf e = 1)
    (h : DataW.trod enc P w base (fun _ => true) held fuel t [v] = some x) : ∃ a len cap zs, v = .slice a len cap ∧ Row k w a len cap zs := by
  rcases open_ints ht he hc h with ⟨hcs, _⟩ | ⟨a, len, cap, zs, hcs, _, hl, hm, hz, _, hcell, hwz⟩
  · simp only [List.cons.injEq, and_true] at hcs
    exact ⟨none, 0, 0, [], hcs, .inl ⟨rfl, rfl, rfl, rfl⟩⟩
  · simp only [List.cons.injEq, and_true] at hcs
    exact ⟨some a, len, cap, zs, hcs, .inr ⟨_, rfl, hl, hm, by simpa using hz, hcell, hwz⟩⟩
end
end Go.Proofs.Ytebgnaiibomjkaa
