/- The model's drawn arguments over any bytes: some list of at most 17 ints in new memory, ints from -1 to 16. No condition. -/
import Derived.Test.YtebgnaiibomjkaaHelp
import Derived.StillTailTactics
import Derived.Laws.BitsAllLaws
import Derived.Laws.BitsLemmas
import Derived.Test.YtebgnaiibomjkaaArgs
namespace Go.Proofs.Ytebgnaiibomjkaa
open Go.RowKit

/-- Block R is a source of drawn numbers, p of them drawn: a slice of at most 2000 bytes that lie below it, and p. -/
def Src (W : World) (R p : Nat) : Prop :=
  ∃ (D : Option Addr) (m c : Nat) (bs : List Int), W.heap[R]? = some (.cells #[.slice D m c, .int .i64 (p : Int)] 126 (0, 0)) ∧ m ≤ 2000 ∧
    (0 < m → ∃ b off, D = some ⟨b, off, none⟩ ∧ b < R ∧ ∀ k, k < m → W.cell? ⟨b, off + k, none⟩ = some (.int .u8 (bs[k]?.getD 0)) ∧ 0 ≤ bs[k]?.getD 0 ∧ bs[k]?.getD 0 ≤ 255)

theorem xor_nonneg (a b : Nat) (ha : a < 9223372036854775808) (hb : b < 9223372036854775808) : ∃ c : Nat, bits .xor .i64 (a : Int) (b : Int) = (c : Int) := by
  refine ⟨a ^^^ b, ?_⟩
  have e : ∀ x : Nat, x < 9223372036854775808 → (BitVec.ofInt 64 (x : Int)).toNat = x := fun x hx => by
    rw [BitVec.ofInt_natCast, BitVec.toNat_ofNat]
    exact Nat.mod_eq_of_lt (by omega)
  have hx : a ^^^ b < 2 ^ 63 := Nat.xor_lt_two_pow (by omega) (by omega)
  show IntKind.i64.wrap ((BitVec.ofInt 64 (a : Int) ^^^ BitVec.ofInt 64 (b : Int)).toNat : Int) = _
  rw [BitVec.toNat_xor, e a ha, e b hb, IntKind.wrap_i64]
  omega

theorem wrap_small {x : Int} (h0 : -9223372036854775808 ≤ x) (h1 : x ≤ 9223372036854775807) : wrap64 x = x := IntWalk.wrap64_in x ⟨h0, h1⟩

set_option maxRecDepth 100000 in
set_option maxHeartbeats 4000000 in
theorem pick_any (R p : Nat) (n : Int) (w : World) (h : Src w R p) (hp : p ≤ 100000) :
    Calls Try.prog 70 #[.pointer (some ⟨R, 0, none⟩), .int .i64 n] w fun e w' => (∃ x : Nat, e = .returned (.int .i64 (x : Int)) ∧ (1 ≤ n → (x : Int) < n)) ∧ Src w' R (p + 1) ∧ w.grownBy w' (some R) := by
  obtain ⟨D, m, c, bs, hR, hm, hbs⟩ := h
  have c0 : w.cell? ⟨R, 0, none⟩ = some (.slice D m c) := by simp [World.cell?, hR]
  have c1 : w.cell? ⟨R, 1, none⟩ = some (.int .i64 (p : Int)) := by simp [World.cell?, hR]
  have f1 : w.frozen? ⟨R, 1, none⟩ = false := by simp [World.frozen?, hR]
  have HS : Hid (∀ k, Src ((w.setCell ⟨R, 1, none⟩ (.int .i64 ((p : Int) + 1))).drewN k) R (p + 1) ∧ w.grownBy ((w.setCell ⟨R, 1, none⟩ (.int .i64 ((p : Int) + 1))).drewN k) (some R)) := by
    intro k
    refine ⟨⟨D, m, c, bs, ?_, hm, fun h0 => ?_⟩, ⟨rfl, rfl, rfl, by simp [World.setCell], fun i _ hne => Below.heap_setCell w ⟨R, 1, none⟩ _ i (fun e => hne (by rw [e]))⟩⟩
    · have := heap_setCell_same w R 1 #[.slice D m c, .int .i64 (p : Int)] 126 (.int .i64 ((p : Int) + 1)) hR
      simpa using this
    · obtain ⟨b, off, e, hlt, hc⟩ := hbs h0
      refine ⟨b, off, e, hlt, fun k hk => ⟨?_, (hc k hk).2⟩⟩
      exact (World.cell?_setCell_other w ⟨R, 1, none⟩ ⟨b, off + k, none⟩ _ (fun e => by have := congrArg Addr.block e; simp at this; omega)).trans (hc k hk).1
  clear hR
  by_cases hn : n < 1
  · go_enter Try.func70, Try.ntmps70
    go_wp2
    go_ret
    exact ⟨⟨0, rfl, by first | omega | (intro h; omega)⟩, HS.out 0⟩
  · by_cases h0 : m = 0
    · subst h0
      go_enter Try.func70, Try.ntmps70
      go_wp2
      go_ret
      exact ⟨⟨0, rfl, by first | omega | (intro h; omega)⟩, HS.out 0⟩
    · obtain ⟨b, off, rfl, hlt, hc⟩ := hbs (by omega)
      have hm0 : ((m : Int) == 0) = false := by simp; omega
      have hbR : ∀ k u, (w.setCell ⟨R, 1, none⟩ u).cell? ⟨b, k, none⟩ = w.cell? ⟨b, k, none⟩ := fun k u => World.cell?_setCell_other w ⟨R, 1, none⟩ ⟨b, k, none⟩ u (fun e => by have := congrArg Addr.block e; simp at this; omega)
      by_cases hpm : p < m
      · have hx := hc p hpm
        have cb : (w.setCell ⟨R, 1, none⟩ (.int .i64 ((p : Int) + 1))).cell? ⟨b, off + p, none⟩ = some (.int .u8 (bs[p]?.getD 0)) := (hbR _ _).trans hx.1
        obtain ⟨z, hz⟩ := Int.eq_ofNat_of_zero_le hx.2.1
        rw [hz] at cb
        have hz2 : (z : Int) ≤ 255 := by rw [← hz]; exact hx.2.2
        clear hx hz hc hbR hbs
        obtain ⟨N, rfl⟩ := Int.eq_ofNat_of_zero_le (show 0 ≤ n by omega)
        have hN : 0 < N := by omega
        go_enter Try.func70, Try.ntmps70
        go_wp2
        go_ret
        exact ⟨⟨z % N, ret_int (by first | rfl | simp), by have := Nat.mod_lt z hN; first | omega | (intro _; omega)⟩, HS.out 0⟩
      · have hx1 := hc (p % m) (Nat.mod_lt _ (by omega))
        have hx2 := hc ((p * 7 + 3) % m) (Nat.mod_lt _ (by omega))
        have cb1 := (hbR (off + p % m) (.int .i64 ((p : Int) + 1))).trans hx1.1
        have cb2 := (hbR (off + (p * 7 + 3) % m) (.int .i64 ((p : Int) + 1))).trans hx2.1
        have b1 := hx1.2
        have b2 := hx2.2
        obtain ⟨z1, hz1⟩ : ∃ z1 : Int, z1 = bs[p % m]?.getD 0 := ⟨_, rfl⟩
        obtain ⟨z2, hz2⟩ : ∃ z2 : Int, z2 = bs[(p * 7 + 3) % m]?.getD 0 := ⟨_, rfl⟩
        rw [← hz1] at cb1 b1
        rw [← hz2] at cb2 b2
        obtain ⟨y1, rfl⟩ := Int.eq_ofNat_of_zero_le b1.1
        obtain ⟨y2, rfl⟩ := Int.eq_ofNat_of_zero_le b2.1
        clear hx1 hx2 hz1 hz2 hc hbR hbs
        obtain ⟨N, rfl⟩ := Int.eq_ofNat_of_zero_le (show 0 ≤ n by omega)
        have hN : 0 < N := by omega
        have d1 : (p : Int) % (m : Int) < (m : Int) := Int.emod_lt_of_pos _ (by omega)
        have d2 : ((p : Int) * 7 + 3) % (m : Int) < (m : Int) := Int.emod_lt_of_pos _ (by omega)
        have d3 : 0 ≤ (p : Int) % (m : Int) := Int.emod_nonneg _ (by omega)
        have d4 : 0 ≤ ((p : Int) * 7 + 3) % (m : Int) := Int.emod_nonneg _ (by omega)
        have e1 : ((p : Int) % (m : Int)).toNat = p % m := Int.toNat_natCast (p % m)
        have e2 : (((p : Int) * 7 + 3) % (m : Int)).toNat = (p * 7 + 3) % m := Int.toNat_natCast ((p * 7 + 3) % m)
        have q1 : 0 ≤ (p : Int) / (m : Int) := Int.ediv_nonneg (by omega) (by omega)
        have q2 : (p : Int) / (m : Int) ≤ 100000 := by
          have : p / m ≤ p := Nat.div_le_self p m
          have e : (p : Int) / (m : Int) = ((p / m : Nat) : Int) := rfl
          omega
        go_enter Try.func70, Try.ntmps70
        go_wp2
        go_quiet (fail)
        go_wp2
        go_ret
        refine ⟨?_, HS.out _⟩
        obtain ⟨c', hc'⟩ := xor_nonneg (y1 * 131 + y2 * 1117 + p * 29 + p / m * 53) ((y1 * 131 + y2 * 1117 + p * 29 + p / m * 53) / 64) (by
          have : ((p / m : Nat) : Int) = (p : Int) / (m : Int) := rfl
          omega) (by
          have : ((p / m : Nat) : Int) = (p : Int) / (m : Int) := rfl
          omega)
        have e4 : ((p / m : Nat) : Int) = (p : Int) / (m : Int) := rfl
        have e3 : ((y1 * 131 + y2 * 1117 + p * 29 + p / m * 53 : Nat) : Int) = (y1 : Int) * 131 + (y2 : Int) * 1117 + (p : Int) * 29 + (p : Int) / (m : Int) * 53 := by rw [← e4]; omega
        have e5 : (((y1 * 131 + y2 * 1117 + p * 29 + p / m * 53) / 64 : Nat) : Int) = ((y1 : Int) * 131 + (y2 : Int) * 1117 + (p : Int) * 29 + (p : Int) / (m : Int) * 53) / 64 := by rw [← e3]; rfl
        rw [e3, e5] at hc'
        refine ⟨c' % N, ret_int ?_, fun _ => by have := Nat.mod_lt c' hN; omega⟩
        show (bits BinOp.xor IntKind.i64 ((y1 : Int) * 131 + (y2 : Int) * 1117 + (p : Int) * 29 + (p : Int) / (m : Int) * 53) (((y1 : Int) * 131 + (y2 : Int) * 1117 + (p : Int) * 29 + (p : Int) / (m : Int) * 53) / 64)).tmod (N : Int) = _
        rw [hc']
        rfl
end Go.Proofs.Ytebgnaiibomjkaa

namespace Go.Proofs.Ytebgnaiibomjkaa
open Go.RowKit

theorem Own.row {w w' : World} {base R : Nat} {v : Value} {zs : List Int} (h : Own w base v zs) (hg : w.grownBy w' (some R)) (hR : R < base) : Own w' base v zs :=
  h.kept hg (by
    cases hb : v.ownBlock with
    | none => exact .inl rfl
    | some r =>
      refine .inr fun e => ?_
      injection e with e
      have := (h.blockOf r hb).1
      omega)
theorem grown_trans2 {a b c : World} {R : Nat} (h : a.grownBy b (some R)) (k : b.grownBy c (some R)) : a.grownBy c (some R) :=
  ⟨k.os.trans h.os, k.tape.trans h.tape, k.output.trans h.output, Nat.le_trans h.size k.size, fun i hi hne => (k.block i (Nat.lt_of_lt_of_le hi h.size) hne).trans (h.block i hi hne)⟩
theorem grown_of_below {a b : World} (R : Nat) (h : Below a.heap.size a b) : a.grownBy b (some R) := ⟨h.os, h.tape, h.output, h.size, fun i hi _ => h.block i hi⟩
theorem grown_below {a b c : World} {R : Nat} (h : a.grownBy b (some R)) (k : Below a.heap.size b c) : a.grownBy c (some R) :=
  ⟨k.os.trans h.os, k.tape.trans h.tape, k.output.trans h.output, Nat.le_trans h.size k.size, fun i hi hne => (k.block i hi).trans (h.block i hi hne)⟩
theorem Src.lt {w : World} {R p : Nat} (h : Src w R p) : R < w.heap.size := by
  obtain ⟨_, _, _, _, hR, _⟩ := h
  exact (Array.getElem?_eq_some_iff.1 hR).1
theorem Src.below {w w' : World} {R p C : Nat} (h : Src w R p) (hb : Below C w w') (hC : R < C) : Src w' R p := by
  obtain ⟨D, m, c, bs, hR, hm, hbs⟩ := h
  refine ⟨D, m, c, bs, (hb.block R hC).trans hR, hm, fun h0 => ?_⟩
  obtain ⟨b, off, e, hlt, hc⟩ := hbs h0
  exact ⟨b, off, e, hlt, fun k hk => ⟨(hb.cell (p := ⟨b, off + k, none⟩) (by show b < C; omega)).trans (hc k hk).1, (hc k hk).2⟩⟩

set_option maxRecDepth 100000 in
set_option maxHeartbeats 1000000 in
theorem num_any (R p base : Nat) (v : Value) (zs : List Int) (w : World) (h : Src w R p) (hp : p ≤ 100000) (ho : Own w base v zs) (hb : R < base) (h1 : 1 ≤ zs.length) (h2 : zs.length ≤ 100) :
    Calls Try.prog 72 #[.pointer (some ⟨R, 0, none⟩), v] w fun e w' => (∃ j, j < zs.length ∧ e = .returned (.int .i64 (zs[j]?.getD 0))) ∧ Src w' R (p + 1) ∧ w.grownBy w' (some R) := by
  obtain ⟨A, c, rfl, hr⟩ := ho.form
  obtain ⟨n, hn⟩ : ∃ n, n = zs.length := ⟨_, rfl⟩
  have P := Lib.hid (pick_any R p (n : Int) w h hp)
  rw [← hn] at hr h1 h2 ho ⊢
  clear hn
  go_enter Try.func72, Try.ntmps72
  go_wp2_with fail
  refine P.out.mono ?_
  rintro e w1 ⟨⟨j, rfl, hj⟩, hs, hg⟩
  have hj := hj (by omega)
  have ho1 := ho.row hg hb
  have hr1 := ho1.rd
  obtain ⟨b, off, rfl, _, hc⟩ := hr1.2 (by omega)
  have g1 := hc j (by omega)
  clear hc hr1 ho1 ho hr
  go_wp2
  go_ret
  exact ⟨⟨j, by omega, rfl⟩, hs, hg⟩

theorem nums_mem {zs : List Int} {j : Nat} {p : Int → Prop} (h : ∀ z ∈ zs, p z) (hj : j < zs.length) : p (zs[j]?.getD 0) := by
  simp only [List.getElem?_eq_getElem hj, Option.getD_some]
  exact h _ (List.getElem_mem hj)

set_option maxRecDepth 100000 in
set_option maxHeartbeats 2000000 in
theorem l1Pick_any (R p n c : Nat) (A : Option Addr) (w : World) (h : Src w R p) (hp : p ≤ 90000) (hn : n ≤ 17) :
    Calls Try.prog 94 #[.pointer (some ⟨R, 0, none⟩), .slice A n c] w fun e w' => (∃ x : Int, e = .returned (.int .i64 x) ∧ -1 ≤ x ∧ x ≤ 16) ∧ (∃ p', p' ≤ p + 10 ∧ Src w' R p') ∧ w.grownBy w' (some R) := by
  obtain ⟨M, hM⟩ : ∃ M : Nat, M = max n 1 := ⟨_, rfl⟩
  have hM1 : 1 ≤ M := by omega
  have hM2 : M ≤ 17 := by omega
  have P := Lib.hid (fun (q : Nat) (w1 : World) (hs : Src w1 R q) (hq : q ≤ 100000) => pick_any R q (M : Int) w1 hs hq)
  have hmax : (if (1 : Int) > (n : Int) then 1 else (n : Int)) = (M : Int) := by split <;> omega
  by_cases h0 : (n : Int) < 1
  all_goals
    have hMv := hmax
    simp only [gt_iff_lt, h0, if_true, if_false] at hMv
    have HM := Lib.hid hMv
    clear hmax hMv hM
    go_enter Try.func94, Try.ntmps94
    go_wp2_with fail
    rw [HM.out]
    refine (P.out p w h (by omega)).mono ?_
    rintro e w1 ⟨⟨x1, rfl, hx1⟩, hs1, hg1⟩
    have hx1 := hx1 (by omega)
    go_wp2_with fail
    rw [HM.out]
    refine (P.out _ _ hs1 (by omega)).mono ?_
    rintro e w2 ⟨⟨x2, rfl, hx2⟩, hs2, hg2⟩
    have hx2 := hx2 (by omega)
    go_wp2_with fail
    rw [HM.out]
    refine (P.out _ _ hs2 (by omega)).mono ?_
    rintro e w3 ⟨⟨x3, rfl, hx3⟩, hs3, hg3⟩
    have hx3 := hx3 (by omega)
    go_wp2_with fail
    rw [HM.out]
    refine (P.out _ _ hs3 (by omega)).mono ?_
    rintro e w4 ⟨⟨x4, rfl, hx4⟩, hs4, hg4⟩
    have hx4 := hx4 (by omega)
    go_wp2_with fail
    rw [HM.out]
    refine (P.out _ _ hs4 (by omega)).mono ?_
    rintro e w5 ⟨⟨x5, rfl, hx5⟩, hs5, hg5⟩
    have hx5 := hx5 (by omega)
    have hg := grown_trans2 (grown_trans2 (grown_trans2 (grown_trans2 hg1 hg2) hg3) hg4) hg5
    have hlt := hs5.lt
    have hlit : Own (w5.alloc (.cells #[.int .i64 (x1 : Int), .int .i64 0, .int .i64 (x2 : Int), .int .i64 (x3 : Int), .int .i64 (x4 : Int), .int .i64 (x5 : Int), .int .i64 (-1), .int .i64 16] 3)) w5.heap.size (.slice (some ⟨w5.heap.size, 0, none⟩) 8 8) [(x1 : Int), 0, x2, x3, x4, x5, -1, 16] := Own.lit w5 _ [(x1 : Int), 0, x2, x3, x4, x5, -1, 16] (Nat.le_refl _) (by simp)
    have hs6 := hs5.below ((Below.refl _ w5).alloc (Nat.le_refl _) (.cells #[.int .i64 (x1 : Int), .int .i64 0, .int .i64 (x2 : Int), .int .i64 (x3 : Int), .int .i64 (x4 : Int), .int .i64 (x5 : Int), .int .i64 (-1), .int .i64 16] 3)) hlt
    have NU := Lib.hid (num_any R _ w5.heap.size _ _ _ hs6 (by omega) hlit hlt (by simp) (by simp))
    have hsz := hg.size
    clear hs1 hs2 hs3 hs4 hg1 hg2 hg3 hg4 hg5 hlit
    go_wp2_with fail
    refine NU.out.mono ?_
    rintro e w7 ⟨⟨k, hk, rfl⟩, hs7, hg7⟩
    have hb := nums_mem (p := fun z => -1 ≤ z ∧ z ≤ 16) (zs := [(x1 : Int), 0, x2, x3, x4, x5, -1, 16]) (by
      intro z hz
      simp only [List.mem_cons, List.not_mem_nil, or_false] at hz
      omega) hk
    have hgf := grown_trans2 (grown_below hg ((Below.refl _ w5).alloc hsz (.cells #[.int .i64 (x1 : Int), .int .i64 0, .int .i64 (x2 : Int), .int .i64 (x3 : Int), .int .i64 (x4 : Int), .int .i64 (x5 : Int), .int .i64 (-1), .int .i64 16] 3))) hg7
    clear hs5 hs6 hg7 hg hk
    go_wp2
    go_ret
    exact ⟨⟨_, rfl, hb.1, hb.2⟩, ⟨_, by omega, hs7⟩, hgf⟩
end Go.Proofs.Ytebgnaiibomjkaa

namespace Go.Proofs.Ytebgnaiibomjkaa
open Go.RowKit

set_option maxRecDepth 100000 in
set_option maxHeartbeats 4000000 in
theorem l1Good_any (R p : Nat) (w : World) (h : Src w R p) (hp : p ≤ 80000) :
    Calls Try.prog 109 #[.pointer (some ⟨R, 0, none⟩)] w fun e w' => ∃ v zs, e = .returned v ∧ Own w' w.heap.size v zs ∧ 1 ≤ zs.length ∧ zs.length ≤ 16 ∧ (∃ p', p' ≤ p + 50 ∧ Src w' R p') ∧ w.grownBy w' (some R) := by
  have hlt := h.lt
  have hb0 := (Below.refl w.heap.size w).alloc (Nat.le_refl _) (.cells #[.int .i64 5, .int .i64 7, .int .i64 1, .int .i64 8, .int .i64 16, .int .i64 3, .int .i64 2, .int .i64 10] 3)
  have hlit : Own (w.alloc (.cells #[.int .i64 5, .int .i64 7, .int .i64 1, .int .i64 8, .int .i64 16, .int .i64 3, .int .i64 2, .int .i64 10] 3)) w.heap.size (.slice (some ⟨w.heap.size, 0, none⟩) 8 8) [5, 7, 1, 8, 16, 3, 2, 10] := Own.lit w _ [5, 7, 1, 8, 16, 3, 2, 10] (Nat.le_refl _) (by simp)
  have NU := Lib.hid (num_any R p w.heap.size _ _ _ (h.below hb0 hlt) (by omega) hlit hlt (by simp) (by simp))
  have HB := Lib.hid hb0
  clear hlit hb0
  go_enter Try.func109, Try.ntmps109
  go_wp2_with fail
  refine NU.out.mono ?_
  rintro e w1 ⟨⟨k, hk, rfl⟩, hs1, hg1⟩
  have hb := nums_mem (p := fun z => 1 ≤ z ∧ z ≤ 16) (zs := [5, 7, 1, 8, 16, 3, 2, 10]) (by
    intro z hz
    simp only [List.mem_cons, List.not_mem_nil, or_false] at hz
    omega) hk
  revert hb
  generalize ([5, 7, 1, 8, 16, 3, 2, 10] : List Int)[k]?.getD 0 = z
  intro hb
  obtain ⟨n, rfl⟩ := Int.eq_ofNat_of_zero_le (show 0 ≤ z by omega)
  have hn1 : 1 ≤ n := by omega
  have hn2 : n ≤ 16 := by omega
  have hgw : w.grownBy w1 (some R) := grown_trans2 (grown_of_below R HB.out) hg1
  have hsw := hgw.size
  have hnN : newN (n : Int) = n := by unfold newN; rw [if_pos (by omega)]; simp
  have S := specNew_any (n : Int) w1
  rw [hnN] at S
  have S := Lib.hid S
  clear hk hnN hg1 HB NU hb
  go_wp2_with fail
  refine S.out.mono ?_
  rintro e w2 ⟨v2, rfl, ho2, hb2⟩
  have hs2 := hs1.below hb2 hs1.lt
  have hg2 := grown_below hgw (hb2.mono hsw)
  have ho2 := ho2.less hsw
  obtain ⟨g, c2, rfl⟩ : ∃ g c2, v2 = .slice (some ⟨g, 0, none⟩) n c2 := by
    rcases ho2.2 with ⟨_, hx⟩ | ⟨g, cap, cur, hv, _⟩
    · rw [roots_len] at hx; omega
    · rw [roots_len] at hv; exact ⟨g, cap, hv⟩
  have HO : Hid (∃ zs, zs.length = n ∧ Own w2 w.heap.size (.slice (some ⟨g, 0, none⟩) n c2) zs) := ⟨_, roots_len n, ho2⟩
  clear hs1 hgw hb2 ho2 S
  go_wp2_with fail
  go_loopw [18] (fun i wr => ∃ k : Nat, k ≤ n ∧ i = .int .i64 k ∧ Hid (∃ zs, zs.length = n ∧ Own wr w.heap.size (.slice (some ⟨g, 0, none⟩) n c2) zs) ∧ (∃ q, q ≤ p + 1 + 2 * k ∧ Src wr R q) ∧ w.grownBy wr (some R)) (fun i _ => n - (intOf i).toNat)
  case atStart => exact ⟨0, Nat.zero_le _, rfl, HO, ⟨_, by omega, hs2⟩, hg2⟩
  case round =>
    obtain ⟨k, hk, rfl, ho, ⟨q, hq, hs⟩, hg⟩ := hrel
    clear HO hs2 hg2
    by_cases hkn : k < n
    · by_cases hk0 : k = 0
      · subst hk0
        go_wp2_with fail
        go_roundw
        case rel => exact ⟨1, by omega, by go_num, ho, ⟨q, by omega, hs⟩, hg⟩
        case measure => simp [intOf]; omega
      · have P1 := Lib.hid (pick_any R q 3 wr hs (by omega))
        have hk1 : (0 : Int) < (k : Int) := by omega
        go_wp2_with fail
        refine P1.out.mono ?_
        rintro e w4 ⟨⟨x, rfl, _⟩, hs4, hg4⟩
        have hg4w := grown_trans2 hg hg4
        have ho4 : Hid (∃ zs, zs.length = n ∧ Own w4 w.heap.size (.slice (some ⟨g, 0, none⟩) n c2) zs) := by
          obtain ⟨zs, hz, ho⟩ := ho.out
          exact ⟨zs, hz, ho.row hg4 hlt⟩
        by_cases hx : (0 : Int) < (x : Int)
        · have P2 := Lib.hid (pick_any R _ (k : Int) w4 hs4 (by omega))
          clear ho hs hg hg4
          go_wp2_with fail
          refine P2.out.mono ?_
          rintro e w5 ⟨⟨y, rfl, _⟩, hs5, hg5⟩
          have hg5w := grown_trans2 hg4w hg5
          obtain ⟨zs, hz, ho5⟩ := ho4.out
          have ho5 := ho5.row hg5 hlt
          have g2 := ho5.slot hkn
          have g3 := ho5.free k
          have ho6 := ho5.set_ k (y : Int)
          have hgB := (ho5.at_base).1
          have HO6 : Hid (∃ zs, zs.length = n ∧ Own (w5.setCell ⟨g, k, none⟩ (.int .i64 (y : Int))) w.heap.size (.slice (some ⟨g, 0, none⟩) n c2) zs) := ⟨_, by rw [List.length_set]; exact hz, ho6⟩
          have hs6 := hs5.below ((Below.refl (R + 1) w5).setCell (p := ⟨g, k, none⟩) (by show R + 1 ≤ g; omega) (.int .i64 (y : Int))) (by omega)
          have hg6 := grown_below hg5w ((Below.refl w.heap.size w5).setCell (p := ⟨g, k, none⟩) hgB (.int .i64 (y : Int)))
          clear ho4 hs4 hg4w hs5 hg5 hg5w ho5 ho6 hz
          go_wp2_with fail
          go_roundw
          case rel => exact ⟨k + 1, by omega, by go_num, HO6, ⟨_, by omega, hs6⟩, hg6⟩
          case measure => simp [intOf]; omega
        · go_wp2_with fail
          go_roundw
          case rel => exact ⟨k + 1, by omega, by go_num, ho4, ⟨_, by omega, hs4⟩, hg4w⟩
          case measure => simp [intOf]; omega
    · obtain rfl : k = n := by omega
      have P1 := Lib.hid (pick_any R q 2 wr hs (by omega))
      go_wp2_with fail
      refine P1.out.mono ?_
      rintro e w4 ⟨⟨x, rfl, _⟩, hs4, hg4⟩
      have hg4w := grown_trans2 hg hg4
      have ho4 : Hid (∃ zs, zs.length = k ∧ Own w4 w.heap.size (.slice (some ⟨g, 0, none⟩) k c2) zs) := by
        obtain ⟨zs, hz, ho⟩ := ho.out
        exact ⟨zs, hz, ho.row hg4 hlt⟩
      clear ho hs hg hg4
      by_cases hx : (x : Int) = 0
      · go_wp2_with fail
        go_ret
        obtain ⟨zs, hz, ho4⟩ := ho4.out
        exact ⟨_, zs, rfl, ho4, by omega, by omega, ⟨_, by omega, hs4⟩, hg4w⟩
      · have hxb : ((x : Int) == 0) = false := by simp; omega
        clear hx
        have hsz4 := hg4w.size
        have ho0 : Own (w4.alloc (.cells #[] 3)) w.heap.size (.slice (some ⟨w4.heap.size, 0, none⟩) 0 0) [] := Own.lit w4 _ [] hsz4 (by simp)
        have hg40 := grown_below hg4w ((Below.refl w.heap.size w4).alloc hsz4 (.cells #[] 3))
        have hs40 := hs4.below ((Below.refl (R + 1) w4).alloc (by omega) (.cells #[] 3)) (by omega)
        have ho40 : Hid (∃ zs, zs.length = k ∧ Own (w4.alloc (.cells #[] 3)) w.heap.size (.slice (some ⟨g, 0, none⟩) k c2) zs) := by
          obtain ⟨zs, hz, ho⟩ := ho4.out
          exact ⟨zs, hz, ho.keep ((Below.refl _ w4).alloc (Nat.le_refl _) _) (Nat.le_refl _)⟩
        have hgb : g < w4.heap.size := by
          obtain ⟨zs, hz, ho⟩ := ho4.out
          exact ho.at_base.2
        have HV : Hid (∃ ys : List Int, ys.length = 0 ∧ Own (w4.alloc (.cells #[] 3)) w.heap.size (.slice (some ⟨w4.heap.size, 0, none⟩) 0 0) ys ∧ (Value.slice (some ⟨w4.heap.size, 0, none⟩) 0 0).ownBlock ≠ some g) := ⟨[], rfl, ho0, by simp [Value.ownBlock]; omega⟩
        clear ho4 hs4 hg4w ho0
        go_wp2_with fail
        go_loopw [7, 41] (fun v i wr => ∃ j : Nat, j ≤ k ∧ i = .int .i64 j ∧ Hid (∃ ys : List Int, ys.length = j ∧ Own wr w.heap.size v ys ∧ v.ownBlock ≠ some g) ∧ Hid (∃ zs, zs.length = k ∧ Own wr w.heap.size (.slice (some ⟨g, 0, none⟩) k c2) zs) ∧ (∃ q', q' ≤ q + 1 ∧ Src wr R q') ∧ w.grownBy wr (some R)) (fun _ i _ => k - (intOf i).toNat)
        case atStart => exact ⟨0, Nat.zero_le _, rfl, HV, ho40, ⟨_, Nat.le_refl _, hs40⟩, hg40⟩
        case round =>
          obtain ⟨j, hj, rfl, hv, ho, ⟨q', hq', hs⟩, hg⟩ := hrel
          clear HV ho40 hs40 hg40
          by_cases hjk : j < k
          · obtain ⟨zs, hz, ho⟩ := ho.out
            obtain ⟨ys, hy, hv, hne⟩ := hv.out
            have g2 := ho.slot (k := k - 1 - j) (by omega)
            have hsz := hg.size
            have hgl := ho.at_base.2
            generalize zs[k - 1 - j]?.getD 0 = z at g2
            have HZ := Lib.hid hz
            have HY := Lib.hid hy
            have HN := Lib.hid hne
            have hyl : ys.length ≤ 1048576 := by omega
            have HOUT := Lib.hid ho
            clear hz hy hne ho
            go_wp2_with (at_builtin; go_must (refine wpList_push rfl (.tmp 44) (.tmp 55) rfl wr w.heap.size _ ys _ rfl rfl hv hyl hsz ?_); intro v' w' ho' hg' hbl)
            have hb' : Below w.heap.size wr w' := below_row hg' hsz (fun r e => (hv.blockOf r e).1)
            have hg2 := grown_below hg hb'
            have hs2 := hs.below (C := R + 1) (hb'.mono (by omega)) (by omega)
            have ho2 := HOUT.out.kept hg' (.inr (fun e => HN.out e.symm))
            have hne2 : v'.ownBlock ≠ some g := by
              rcases hbl with hbl | ⟨g', hbl, hle⟩
              · rw [hbl]; exact HN.out
              · rw [hbl]; intro e; injection e with e; omega
            have HV2 : Hid (∃ ys : List Int, ys.length = j + 1 ∧ Own w' w.heap.size v' ys ∧ v'.ownBlock ≠ some g) := ⟨_, by rw [List.length_append, HY.out]; rfl, ho', hne2⟩
            have HO2 : Hid (∃ zs, zs.length = k ∧ Own w' w.heap.size (.slice (some ⟨g, 0, none⟩) k c2) zs) := ⟨zs, HZ.out, ho2⟩
            clear ho' hg' hbl hb' ho2 hne2 hv hg hs
            go_wp2
            go_roundw
            case rel => exact ⟨j + 1, by omega, by go_num, HV2, HO2, ⟨_, by omega, hs2⟩, hg2⟩
            case measure => simp [intOf]; omega
          · obtain rfl : j = k := by omega
            obtain ⟨ys, hy, hv, _⟩ := hv.out
            have HY := Lib.hid hy
            clear ho hy
            go_wp2_with fail
            go_ret
            have hy := HY.out
            exact ⟨_, ys, rfl, hv, by omega, by omega, ⟨_, by omega, hs⟩, hg⟩

theorem own_some {w : World} {base n c : Nat} {A : Option Addr} {zs : List Int} (h : Own w base (.slice A n c) zs) (h1 : 1 ≤ n) : ∃ g, A = some ⟨g, 0, none⟩ := by
  rcases h.2 with ⟨hv, hx⟩ | ⟨g, cap, cur, hv, _⟩
  · simp only [Value.slice.injEq] at hv
    omega
  · simp only [Value.slice.injEq] at hv
    exact ⟨g, hv.1⟩

set_option maxRecDepth 100000 in
set_option maxHeartbeats 4000000 in
theorem l1Some_any (R p : Nat) (w : World) (h : Src w R p) (hp : p ≤ 70000) :
    Calls Try.prog 69 #[.pointer (some ⟨R, 0, none⟩)] w fun e w' => ∃ v zs, e = .returned v ∧ Own w' w.heap.size v zs ∧ zs.length ≤ 17 ∧ (∃ p', p' ≤ p + 100 ∧ Src w' R p') ∧ w.grownBy w' (some R) := by
  have hlt := h.lt
  have G := Lib.hid (l1Good_any R p w h (by omega))
  go_enter Try.func69, Try.ntmps69
  go_wp2_with fail
  refine G.out.mono ?_
  rintro e w1 ⟨v, zs, rfl, ho1, hl1, hl2, ⟨p1, hp1, hs1⟩, hg1⟩
  obtain ⟨n, hn⟩ : ∃ n, n = zs.length := ⟨_, rfl⟩
  obtain ⟨A, c, rfl, _⟩ := ho1.form
  rw [← hn] at ho1 hl1 hl2
  obtain ⟨g, rfl⟩ := own_some ho1 hl1
  have HO1 : Hid (∃ zs, zs.length = n ∧ Own w1 w.heap.size (.slice (some ⟨g, 0, none⟩) n c) zs) := ⟨zs, hn.symm, ho1⟩
  rw [← hn]
  have P1 := Lib.hid (pick_any R p1 24 w1 hs1 (by omega))
  clear ho1 hn G
  go_wp2_with fail
  refine P1.out.mono ?_
  rintro e w2 ⟨⟨x, rfl, _⟩, hs2, hg2⟩
  have hgw := grown_trans2 hg1 hg2
  have HO2 : Hid (∃ zs, zs.length = n ∧ Own w2 w.heap.size (.slice (some ⟨g, 0, none⟩) n c) zs) := by
    obtain ⟨zs, hz, ho⟩ := HO1.out
    exact ⟨zs, hz, ho.row hg2 hlt⟩
  have hgb : w.heap.size ≤ g ∧ g < w2.heap.size := by
    obtain ⟨zs, hz, ho⟩ := HO2.out
    exact ho.at_base
  have hsz2 := hgw.size
  clear HO1 hs1 hg1 hg2 P1
  by_cases h0 : x = 0
  · subst h0
    have P2 := Lib.hid (pick_any R (p1 + 1) (n : Int) w2 hs2 (by omega))
    go_wp2_with fail
    refine P2.out.mono ?_
    rintro e w3 ⟨⟨y, rfl, hy⟩, hs3, hg3⟩
    have hy := hy (by omega)
    have hg3w := grown_trans2 hgw hg3
    have HO3 : Hid (∃ zs, zs.length = n ∧ Own w3 w.heap.size (.slice (some ⟨g, 0, none⟩) n c) zs) := by
      obtain ⟨zs, hz, ho⟩ := HO2.out
      exact ⟨zs, hz, ho.row hg3 hlt⟩
    have hsz3 := hg3w.size
    have hlit : Own (w3.alloc (.cells #[.int .i64 (-1), .int .i64 16, .int .i64 0, .int .i64 ((n : Int) - 1)] 3)) w3.heap.size (.slice (some ⟨w3.heap.size, 0, none⟩) 4 4) [-1, 16, 0, (n : Int) - 1] := Own.lit w3 _ [-1, 16, 0, (n : Int) - 1] (Nat.le_refl _) (by simp)
    have hs4 := hs3.below ((Below.refl (R + 1) w3).alloc (by have := hs3.lt; omega) (.cells #[.int .i64 (-1), .int .i64 16, .int .i64 0, .int .i64 ((n : Int) - 1)] 3)) (by omega)
    have hg4 := grown_below hg3w ((Below.refl w.heap.size w3).alloc hsz3 (.cells #[.int .i64 (-1), .int .i64 16, .int .i64 0, .int .i64 ((n : Int) - 1)] 3))
    have NU := Lib.hid (num_any R _ w3.heap.size _ _ _ hs4 (by omega) hlit hs3.lt (by simp) (by simp))
    have HO4 : Hid (∃ zs, zs.length = n ∧ Own (w3.alloc (.cells #[.int .i64 (-1), .int .i64 16, .int .i64 0, .int .i64 ((n : Int) - 1)] 3)) w.heap.size (.slice (some ⟨g, 0, none⟩) n c) zs) := by
      obtain ⟨zs, hz, ho⟩ := HO3.out
      exact ⟨zs, hz, ho.keep ((Below.refl _ w3).alloc (Nat.le_refl _) _) (Nat.le_refl _)⟩
    clear hlit hs4 HO3 hg3 HO2 hs3 hg3w hs2 hgw P2
    go_wp2_with fail
    refine NU.out.mono ?_
    rintro e w5 ⟨⟨k, hk, rfl⟩, hs5, hg5⟩
    obtain ⟨zs, hz, ho⟩ := HO4.out
    have ho := ho.row hg5 hlt
    have g2 := ho.slot (k := y) (by omega)
    have g3 := ho.free y
    generalize ([-1, 16, 0, (n : Int) - 1] : List Int)[k]?.getD 0 = q
    have ho6 := ho.set_ y q
    have hg6 := grown_below (grown_trans2 hg4 hg5) ((Below.refl w.heap.size w5).setCell (p := ⟨g, y, none⟩) hgb.1 (.int .i64 q))
    have hs6 := hs5.below ((Below.refl (R + 1) w5).setCell (p := ⟨g, y, none⟩) (by show R + 1 ≤ g; omega) (.int .i64 q)) (by omega)
    have HL : Hid ((zs.set y q).length ≤ 17) := by show _ ≤ _; rw [List.length_set]; omega
    clear ho hg4 hg5 hs5 hk hz HO4
    go_wp2_with fail
    go_ret
    exact ⟨_, _, rfl, ho6, HL.out, ⟨_, by omega, hs6⟩, hg6⟩
  · by_cases h1 : x = 1
    · subst h1
      go_wp2_with fail
      go_ret
      exact ⟨_, [], rfl, Own.lit w2 _ [] hsz2 (by simp), by simp, ⟨_, by omega, hs2.below ((Below.refl (R + 1) w2).alloc (by have := hs2.lt; omega) _) (by omega)⟩, grown_below hgw ((Below.refl w.heap.size w2).alloc hsz2 _)⟩
    · by_cases h2 : x = 2
      · subst h2
        obtain ⟨zs, hz, ho⟩ := HO2.out
        have g2 := ho.slot (k := 0) (by omega)
        have g3 := ho.free 0
        have ho1 := ho.set_ 0 ((n : Int) - 1)
        have g4 := ho1.slot (k := n - 1) (by omega)
        have g5 := ho1.free (n - 1)
        have ho2 := ho1.set_ (n - 1) 0
        have hB := ((Below.refl w.heap.size w2).setCell (p := ⟨g, 0, none⟩) hgb.1 (.int .i64 ((n : Int) - 1))).setCell (p := ⟨g, n - 1, none⟩) hgb.1 (.int .i64 0)
        have hs3 := hs2.below (hB.mono (show R + 1 ≤ w.heap.size by omega)) (by omega)
        have hg3 := grown_below hgw hB
        have HL : Hid ((((zs.set 0 ((n : Int) - 1))).set (n - 1) 0).length ≤ 17) := by show _ ≤ _; rw [List.length_set, List.length_set]; omega
        have HOF := Lib.hid ho2
        have HSF := Lib.hid hs3
        have HGF := Lib.hid hg3
        clear ho ho1 ho2 hB hz HO2 hs2 hgw hs3 hg3 h0 h1
        go_wp2_with fail
        go_ret
        exact ⟨_, _, rfl, HOF.out, HL.out, ⟨_, by omega, HSF.out⟩, HGF.out⟩
      · by_cases h3 : x = 3
        · subst h3
          have HV : Hid (∃ zs, zs.length = n ∧ Own w2 w.heap.size (.slice (some ⟨g, 0, none⟩) n c) zs) := HO2
          clear h0 h1 h2 HO2
          go_wp2_with fail
          go_loopw [3] (fun v wr => ∃ (L : Nat) (A : Option Addr) (c : Nat), v = .slice A L c ∧ L ≤ 17 ∧ Hid (∃ zs, zs.length = L ∧ Own wr w.heap.size (.slice A L c) zs) ∧ Src wr R (p1 + 1) ∧ w.grownBy wr (some R)) (fun v _ => 17 - lenOf v)
          case atStart => exact ⟨n, _, _, rfl, by omega, HV, hs2, hgw⟩
          case round =>
            obtain ⟨L, A, c3, rfl, hL, ho, hs, hg⟩ := hrel
            clear HV hs2 hgw
            by_cases hlt17 : L < 17
            · obtain ⟨zs, hz, ho⟩ := ho.out
              have hsz := hg.size
              have hzl : zs.length ≤ 1048576 := by omega
              have HZ := Lib.hid hz
              clear hz
              go_wp2_with (at_builtin; go_must (refine wpList_push rfl (.tmp 42) (.tmp 43) rfl wr w.heap.size _ zs 0 rfl rfl ho hzl hsz ?_); intro v' w' ho' hg' _; obtain ⟨A4, c4, rfl, _⟩ := ho'.form)
              have hb' : Below w.heap.size wr w' := below_row hg' hsz (fun r e => (ho.blockOf r e).1)
              have hg2 := grown_below hg hb'
              have hs2 := hs.below (C := R + 1) (hb'.mono (by omega)) (by omega)
              have hLL : zs.length + 1 = L + 1 := by rw [HZ.out]
              have HO5 : Hid (∃ ys, ys.length = zs.length + 1 ∧ Own w' w.heap.size (.slice A4 (zs.length + 1) c4) ys) := ⟨zs ++ [0], by simp, by simpa using ho'⟩
              clear ho' hg' hb' hg hs ho
              go_roundw
              case rel => exact ⟨_, _, _, rfl, by omega, HO5, hs2, hg2⟩
              case measure => rw [hLL]; simp [lenOf]; omega
            · obtain ⟨zs, hz, ho⟩ := ho.out
              have HZ := Lib.hid hz
              clear hz
              go_wp2_with fail
              go_ret
              exact ⟨_, zs, rfl, ho, by have := HZ.out; omega, ⟨_, by omega, hs⟩, hg⟩
        · have b0 : ((x : Int) == 0) = false := by simp; omega
          have b1 : ((x : Int) == 1) = false := by simp; omega
          have b2 : ((x : Int) == 2) = false := by simp; omega
          have b3 : ((x : Int) == 3) = false := by simp; omega
          clear h0 h1 h2 h3
          go_wp2_with fail
          go_ret
          obtain ⟨zs, hz, ho⟩ := HO2.out
          exact ⟨_, zs, rfl, ho, by omega, ⟨_, by omega, hs2⟩, hgw⟩
end Go.Proofs.Ytebgnaiibomjkaa

namespace Go.Proofs.Ytebgnaiibomjkaa
open Go.RowKit

/-- The slice value at A, of n bytes, reads as the numbers bs; its block lies below B. -/
def Bt (w : World) (B : Nat) (A : Option Addr) (n : Nat) (bs : List Int) : Prop :=
  0 < n → ∃ b off, A = some ⟨b, off, none⟩ ∧ b < B ∧ ∀ k, k < n → w.cell? ⟨b, off + k, none⟩ = some (.int .u8 (bs[k]?.getD 0)) ∧ 0 ≤ bs[k]?.getD 0 ∧ bs[k]?.getD 0 ≤ 255
theorem Bt.below {w w' : World} {B C : Nat} {A : Option Addr} {n : Nat} {bs : List Int} (h : Bt w B A n bs) (hb : Below C w w') (hB : B ≤ C) : Bt w' B A n bs := fun hn => by
  obtain ⟨b, off, e, hlt, hc⟩ := h hn
  exact ⟨b, off, e, hlt, fun k hk => ⟨(hb.cell (p := ⟨b, off + k, none⟩) (by show b < C; omega)).trans (hc k hk).1, (hc k hk).2⟩⟩
theorem Bt.more {w : World} {B C : Nat} {A : Option Addr} {n : Nat} {bs : List Int} (h : Bt w B A n bs) (hB : B ≤ C) : Bt w C A n bs := fun hn => by
  obtain ⟨b, off, e, hlt, hc⟩ := h hn
  exact ⟨b, off, e, by omega, hc⟩
theorem Row.bt {w : World} {a : Option Addr} {len cap : Nat} {zs : List Int} (h : Row .u8 w a len cap zs) : Bt w w.heap.size a len zs ∧ len ≤ cap := by
  rcases h with ⟨rfl, rfl, rfl, rfl⟩ | ⟨x, rfl, hl, hm, hz, hc, hw⟩
  · exact ⟨fun h => absurd h (by omega), Nat.le_refl _⟩
  · refine ⟨fun hn => ?_, hl⟩
    obtain ⟨b, off, spot⟩ := x
    have h0 := hc 0 (by omega)
    have hspot : spot = none := by simpa [Addr.add] using World.cell?_spot h0
    subst hspot
    have hall : ∀ k, k < len → w.cell? ⟨b, off + k, none⟩ = some (.int .u8 (zs[k]?.getD 0)) ∧ 0 ≤ zs[k]?.getD 0 ∧ zs[k]?.getD 0 ≤ 255 := fun k hk => by
      have h1 := hc k (by omega)
      rw [add_at] at h1
      have h2 := hw (zs[k]'(by omega)) (List.getElem_mem _)
      have h3 : 0 ≤ zs[k]'(by omega) ∧ zs[k]'(by omega) ≤ 255 := by simpa [Lit.wf, IntKind.min, IntKind.max, IntKind.signed, IntKind.bits] using h2
      refine ⟨by rw [h1]; simp, ?_⟩
      simpa [show k < zs.length by omega] using h3
    exact ⟨b, off, rfl, World.block_lt_of_cell? w _ (hall 0 hn).1, hall⟩

set_option maxRecDepth 100000 in
set_option maxHeartbeats 1000000 in
theorem open_any (A : Option Addr) (n c B : Nat) (bs : List Int) (w : World) (h : Bt w B A n bs) (hB : B ≤ w.heap.size) (hc : n ≤ c) :
    Calls Try.prog 52 #[.slice A n c] w fun e w' => e = .returned (.pointer (some ⟨w.heap.size, 0, none⟩)) ∧ Src w' w.heap.size 0 ∧ Below w.heap.size w w' := by
  have HS : ∀ m, m ≤ n → m ≤ 2000 → Src (w.alloc (.cells #[.slice A m c, .int .i64 0] 126)) w.heap.size 0 := fun m hm hm2 => by
    refine ⟨A, m, c, bs, heap_alloc_new w _, hm2, fun h0 => ?_⟩
    obtain ⟨b, off, e, hlt, hcell⟩ := h (by omega)
    exact ⟨b, off, e, by omega, fun k hk => ⟨(((Below.refl B w).alloc hB _).cell (p := ⟨b, off + k, none⟩) hlt).trans (hcell k (by omega)).1, (hcell k (by omega)).2⟩⟩
  have HS := Lib.hid HS
  by_cases hn : 2000 < n
  · obtain ⟨b, off, rfl, _, _⟩ := h (by omega)
    clear h
    go_enter Try.func52, Try.ntmps52
    go_wp2
    go_ret
    exact ⟨rfl, HS.out 2000 (by omega) (by omega), (Below.refl _ _).alloc (Nat.le_refl _) _⟩
  · clear h
    go_enter Try.func52, Try.ntmps52
    go_wp2
    go_ret
    exact ⟨rfl, HS.out n (by omega) (by omega), (Below.refl _ _).alloc (Nat.le_refl _) _⟩

theorem below_of_grown {a b : World} (h : Below a.heap.size a b) {c : World} (hg : b.grownBy c (some a.heap.size)) : Below a.heap.size a c :=
  ⟨hg.os.trans h.os, hg.tape.trans h.tape, hg.output.trans h.output, Nat.le_trans h.size hg.size, fun k hk => (hg.block k (Nat.lt_of_lt_of_le hk h.size) (fun e => by injection e with e; omega)).trans (h.block k hk)⟩

set_option maxRecDepth 100000 in
set_option maxHeartbeats 1000000 in
theorem l1Pair_any (R p : Nat) (w : World) (h : Src w R p) (hp : p ≤ 70000) :
    Calls Try.prog 53 #[.pointer (some ⟨R, 0, none⟩)] w fun e w' => ∃ v zs a b, e = .returned (.tuple #[v, .int .i64 a, .int .i64 b]) ∧ Own w' w.heap.size v zs ∧ zs.length ≤ 17 ∧ (-1 ≤ a ∧ a ≤ 16) ∧ (-1 ≤ b ∧ b ≤ 16) ∧ w.grownBy w' (some R) := by
  have hlt := h.lt
  have G := Lib.hid (l1Some_any R p w h hp)
  go_enter Try.func53, Try.ntmps53
  go_wp2_with fail
  refine G.out.mono ?_
  rintro e w1 ⟨v, zs, rfl, ho1, hl1, ⟨p1, hp1, hs1⟩, hg1⟩
  obtain ⟨A, c, rfl, _⟩ := ho1.form
  have P1 := Lib.hid (l1Pick_any R p1 zs.length c A w1 hs1 (by omega) hl1)
  go_wp2_with fail
  refine P1.out.mono ?_
  rintro e w2 ⟨⟨a, rfl, ha1, ha2⟩, ⟨p2, hp2, hs2⟩, hg2⟩
  have ho2 := ho1.row hg2 hlt
  have hg2w := grown_trans2 hg1 hg2
  have P2 := Lib.hid (l1Pick_any R p2 zs.length c A w2 hs2 (by omega) hl1)
  clear ho1 hs1 hg1 hg2
  go_wp2_with fail
  refine P2.out.mono ?_
  rintro e w3 ⟨⟨b, rfl, hb1, hb2⟩, ⟨p3, hp3, hs3⟩, hg3⟩
  have ho3 := ho2.row hg3 hlt
  have hg3w := grown_trans2 hg2w hg3
  clear ho2 hs2 hg2w hg3
  go_wp2_with fail
  go_ret3
  exact ⟨_, zs, a, b, rfl, ho3, hl1, ⟨ha1, ha2⟩, ⟨hb1, hb2⟩, hg3w⟩

end Go.Proofs.Ytebgnaiibomjkaa