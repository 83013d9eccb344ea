/- The model's drawn arguments over any bytes: some list of at most 17 ints in new memory, ints from -1 to 16. No condition. -/
import Derived.Test.YtecleelcnjhimaaDoorHelp
import Derived.StillTailTactics
import Derived.Laws.BitsAllLaws
import Derived.Laws.BitsLemmas
import Derived.Test.YtecleelcnjhimaaDoorArgs
namespace Go.Proofs.YtecleelcnjhimaaDoor
open Go.RowKit

/-- Block R is a source of drawn numbers, p of them drawn: a slice of at most 2000 bytes that lie below it, and p. -/
def Src (W : World) (R p : Nat) : Prop :=
  ∃ (D : Option Addr) (m c : Nat) (bs : List Int), W.heap[R]? = some (.cells #[.slice D m c, .int .i64 (p : Int)] 59 (0, 0)) ∧ m ≤ 2000 ∧
    (0 < m → ∃ b off, D = some ⟨b, off, none⟩ ∧ b < R ∧ ∀ k, k < m → W.cell? ⟨b, off + k, none⟩ = some (.int .u8 (bs[k]?.getD 0)) ∧ 0 ≤ bs[k]?.getD 0 ∧ bs[k]?.getD 0 ≤ 255)

theorem xor_nonneg (a b : Nat) (ha : a < 9223372036854775808) (hb : b < 9223372036854775808) : ∃ c : Nat, bits .xor .i64 (a : Int) (b : Int) = (c : Int) := by
  refine ⟨a ^^^ b, ?_⟩
  have e : ∀ x : Nat, x < 9223372036854775808 → (BitVec.ofInt 64 (x : Int)).toNat = x := fun x hx => by
    rw [BitVec.ofInt_natCast, BitVec.toNat_ofNat]
    exact Nat.mod_eq_of_lt (by omega)
  have hx : a ^^^ b < 2 ^ 63 := Nat.xor_lt_two_pow (by omega) (by omega)
  show IntKind.i64.wrap ((BitVec.ofInt 64 (a : Int) ^^^ BitVec.ofInt 64 (b : Int)).toNat : Int) = _
  rw [BitVec.toNat_xor, e a ha, e b hb, IntKind.wrap_i64]
  omega

theorem wrap_small {x : Int} (h0 : -9223372036854775808 ≤ x) (h1 : x ≤ 9223372036854775807) : wrap64 x = x := IntWalk.wrap64_in x ⟨h0, h1⟩

set_option maxRecDepth 100000 in
set_option maxHeartbeats 4000000 in
theorem pick_any (R p : Nat) (n : Int) (w : World) (h : Src w R p) (hp : p ≤ 100000) :
    Calls Tryd.prog 39 #[.pointer (some ⟨R, 0, none⟩), .int .i64 n] w fun e w' => (∃ x : Nat, e = .returned (.int .i64 (x : Int)) ∧ (1 ≤ n → (x : Int) < n)) ∧ Src w' R (p + 1) ∧ w.grownBy w' (some R) := by
  obtain ⟨D, m, c, bs, hR, hm, hbs⟩ := h
  have c0 : w.cell? ⟨R, 0, none⟩ = some (.slice D m c) := by simp [World.cell?, hR]
  have c1 : w.cell? ⟨R, 1, none⟩ = some (.int .i64 (p : Int)) := by simp [World.cell?, hR]
  have f1 : w.frozen? ⟨R, 1, none⟩ = false := by simp [World.frozen?, hR]
  have HS : Hid (∀ k, Src ((w.setCell ⟨R, 1, none⟩ (.int .i64 ((p : Int) + 1))).drewN k) R (p + 1) ∧ w.grownBy ((w.setCell ⟨R, 1, none⟩ (.int .i64 ((p : Int) + 1))).drewN k) (some R)) := by
    intro k
    refine ⟨⟨D, m, c, bs, ?_, hm, fun h0 => ?_⟩, ⟨rfl, rfl, rfl, by simp [World.setCell], fun i _ hne => Below.heap_setCell w ⟨R, 1, none⟩ _ i (fun e => hne (by rw [e]))⟩⟩
    · have := heap_setCell_same w R 1 #[.slice D m c, .int .i64 (p : Int)] 59 (.int .i64 ((p : Int) + 1)) hR
      simpa using this
    · obtain ⟨b, off, e, hlt, hc⟩ := hbs h0
      refine ⟨b, off, e, hlt, fun k hk => ⟨?_, (hc k hk).2⟩⟩
      exact (World.cell?_setCell_other w ⟨R, 1, none⟩ ⟨b, off + k, none⟩ _ (fun e => by have := congrArg Addr.block e; simp at this; omega)).trans (hc k hk).1
  clear hR
  by_cases hn : n < 1
  · go_enter Tryd.func39, Tryd.ntmps39
    go_wp2
    go_ret
    exact ⟨⟨0, rfl, by first | omega | (intro h; omega)⟩, HS.out 0⟩
  · by_cases h0 : m = 0
    · subst h0
      go_enter Tryd.func39, Tryd.ntmps39
      go_wp2
      go_ret
      exact ⟨⟨0, rfl, by first | omega | (intro h; omega)⟩, HS.out 0⟩
    · obtain ⟨b, off, rfl, hlt, hc⟩ := hbs (by omega)
      have hm0 : ((m : Int) == 0) = false := by simp; omega
      have hbR : ∀ k u, (w.setCell ⟨R, 1, none⟩ u).cell? ⟨b, k, none⟩ = w.cell? ⟨b, k, none⟩ := fun k u => World.cell?_setCell_other w ⟨R, 1, none⟩ ⟨b, k, none⟩ u (fun e => by have := congrArg Addr.block e; simp at this; omega)
      by_cases hpm : p < m
      · have hx := hc p hpm
        have cb : (w.setCell ⟨R, 1, none⟩ (.int .i64 ((p : Int) + 1))).cell? ⟨b, off + p, none⟩ = some (.int .u8 (bs[p]?.getD 0)) := (hbR _ _).trans hx.1
        obtain ⟨z, hz⟩ := Int.eq_ofNat_of_zero_le hx.2.1
        rw [hz] at cb
        have hz2 : (z : Int) ≤ 255 := by rw [← hz]; exact hx.2.2
        clear hx hz hc hbR hbs
        obtain ⟨N, rfl⟩ := Int.eq_ofNat_of_zero_le (show 0 ≤ n by omega)
        have hN : 0 < N := by omega
        go_enter Tryd.func39, Tryd.ntmps39
        go_wp2
        go_ret
        exact ⟨⟨z % N, ret_int (by first | rfl | simp), by have := Nat.mod_lt z hN; first | omega | (intro _; omega)⟩, HS.out 0⟩
      · have hx1 := hc (p % m) (Nat.mod_lt _ (by omega))
        have hx2 := hc ((p * 7 + 3) % m) (Nat.mod_lt _ (by omega))
        have cb1 := (hbR (off + p % m) (.int .i64 ((p : Int) + 1))).trans hx1.1
        have cb2 := (hbR (off + (p * 7 + 3) % m) (.int .i64 ((p : Int) + 1))).trans hx2.1
        have b1 := hx1.2
        have b2 := hx2.2
        obtain ⟨z1, hz1⟩ : ∃ z1 : Int, z1 = bs[p % m]?.getD 0 := ⟨_, rfl⟩
        obtain ⟨z2, hz2⟩ : ∃ z2 : Int, z2 = bs[(p * 7 + 3) % m]?.getD 0 := ⟨_, rfl⟩
        rw [← hz1] at cb1 b1
        rw [← hz2] at cb2 b2
        obtain ⟨y1, rfl⟩ := Int.eq_ofNat_of_zero_le b1.1
        obtain ⟨y2, rfl⟩ := Int.eq_ofNat_of_zero_le b2.1
        clear hx1 hx2 hz1 hz2 hc hbR hbs
        obtain ⟨N, rfl⟩ := Int.eq_ofNat_of_zero_le (show 0 ≤ n by omega)
        have hN : 0 < N := by omega
        have d1 : (p : Int) % (m : Int) < (m : Int) := Int.emod_lt_of_pos _ (by omega)
        have d2 : ((p : Int) * 7 + 3) % (m : Int) < (m : Int) := Int.emod_lt_of_pos _ (by omega)
        have d3 : 0 ≤ (p : Int) % (m : Int) := Int.emod_nonneg _ (by omega)
        have d4 : 0 ≤ ((p : Int) * 7 + 3) % (m : Int) := Int.emod_nonneg _ (by omega)
        have e1 : ((p : Int) % (m : Int)).toNat = p % m := Int.toNat_natCast (p % m)
        have e2 : (((p : Int) * 7 + 3) % (m : Int)).toNat = (p * 7 + 3) % m := Int.toNat_natCast ((p * 7 + 3) % m)
        have q1 : 0 ≤ (p : Int) / (m : Int) := Int.ediv_nonneg (by omega) (by omega)
        have q2 : (p : Int) / (m : Int) ≤ 100000 := by
          have : p / m ≤ p := Nat.div_le_self p m
          have e : (p : Int) / (m : Int) = ((p / m : Nat) : Int) := rfl
          omega
        go_enter Tryd.func39, Tryd.ntmps39
        go_wp2
        go_quiet (fail)
        go_wp2
        go_ret
        refine ⟨?_, HS.out _⟩
        obtain ⟨c', hc'⟩ := xor_nonneg (y1 * 131 + y2 * 1117 + p * 29 + p / m * 53) ((y1 * 131 + y2 * 1117 + p * 29 + p / m * 53) / 64) (by
          have : ((p / m : Nat) : Int) = (p : Int) / (m : Int) := rfl
          omega) (by
          have : ((p / m : Nat) : Int) = (p : Int) / (m : Int) := rfl
          omega)
        have e4 : ((p / m : Nat) : Int) = (p : Int) / (m : Int) := rfl
        have e3 : ((y1 * 131 + y2 * 1117 + p * 29 + p / m * 53 : Nat) : Int) = (y1 : Int) * 131 + (y2 : Int) * 1117 + (p : Int) * 29 + (p : Int) / (m : Int) * 53 := by rw [← e4]; omega
        have e5 : (((y1 * 131 + y2 * 1117 + p * 29 + p / m * 53) / 64 : Nat) : Int) = ((y1 : Int) * 131 + (y2 : Int) * 1117 + (p : Int) * 29 + (p : Int) / (m : Int) * 53) / 64 := by rw [← e3]; rfl
        rw [e3, e5] at hc'
        refine ⟨c' % N, ret_int ?_, fun _ => by have := Nat.mod_lt c' hN; omega⟩
        show (bits BinOp.xor IntKind.i64 ((y1 : Int) * 131 + (y2 : Int) * 1117 + (p : Int) * 29 + (p : Int) / (m : Int) * 53) (((y1 : Int) * 131 + (y2 : Int) * 1117 + (p : Int) * 29 + (p : Int) / (m : Int) * 53) / 64)).tmod (N : Int) = _
        rw [hc']
        rfl
end Go.Proofs.YtecleelcnjhimaaDoor

namespace Go.Proofs.YtecleelcnjhimaaDoor
open Go.RowKit

theorem Own.row {w w' : World} {base R : Nat} {v : Value} {zs : List Int} (h : Own w base v zs) (hg : w.grownBy w' (some R)) (hR : R < base) : Own w' base v zs :=
  h.kept hg (by
    cases hb : v.ownBlock with
    | none => exact .inl rfl
    | some r =>
      refine .inr fun e => ?_
      injection e with e
      have := (h.blockOf r hb).1
      omega)
theorem grown_trans2 {a b c : World} {R : Nat} (h : a.grownBy b (some R)) (k : b.grownBy c (some R)) : a.grownBy c (some R) :=
  ⟨k.os.trans h.os, k.tape.trans h.tape, k.output.trans h.output, Nat.le_trans h.size k.size, fun i hi hne => (k.block i (Nat.lt_of_lt_of_le hi h.size) hne).trans (h.block i hi hne)⟩
theorem grown_of_below {a b : World} (R : Nat) (h : Below a.heap.size a b) : a.grownBy b (some R) := ⟨h.os, h.tape, h.output, h.size, fun i hi _ => h.block i hi⟩
theorem grown_below {a b c : World} {R : Nat} (h : a.grownBy b (some R)) (k : Below a.heap.size b c) : a.grownBy c (some R) :=
  ⟨k.os.trans h.os, k.tape.trans h.tape, k.output.trans h.output, Nat.le_trans h.size k.size, fun i hi hne => (k.block i hi).trans (h.block i hi hne)⟩
theorem Src.lt {w : World} {R p : Nat} (h : Src w R p) : R < w.heap.size := by
  obtain ⟨_, _, _, _, hR, _⟩ := h
  exact (Array.getElem?_eq_some_iff.1 hR).1
theorem Src.below {w w' : World} {R p C : Nat} (h : Src w R p) (hb : Below C w w') (hC : R < C) : Src w' R p := by
  obtain ⟨D, m, c, bs, hR, hm, hbs⟩ := h
  refine ⟨D, m, c, bs, (hb.block R hC).trans hR, hm, fun h0 => ?_⟩
  obtain ⟨b, off, e, hlt, hc⟩ := hbs h0
  exact ⟨b, off, e, hlt, fun k hk => ⟨(hb.cell (p := ⟨b, off + k, none⟩) (by show b < C; omega)).trans (hc k hk).1, (hc k hk).2⟩⟩

set_option maxRecDepth 100000 in
set_option maxHeartbeats 1000000 in
theorem num_any (R p base : Nat) (v : Value) (zs : List Int) (w : World) (h : Src w R p) (hp : p ≤ 100000) (ho : Own w base v zs) (hb : R < base) (h1 : 1 ≤ zs.length) (h2 : zs.length ≤ 100) :
    Calls Tryd.prog 61 #[.pointer (some ⟨R, 0, none⟩), v] w fun e w' => (∃ j, j < zs.length ∧ e = .returned (.int .i64 (zs[j]?.getD 0))) ∧ Src w' R (p + 1) ∧ w.grownBy w' (some R) := by
  obtain ⟨A, c, rfl, hr⟩ := ho.form
  obtain ⟨n, hn⟩ : ∃ n, n = zs.length := ⟨_, rfl⟩
  have P := Lib.hid (pick_any R p (n : Int) w h hp)
  rw [← hn] at hr h1 h2 ho ⊢
  clear hn
  go_enter Tryd.func61, Tryd.ntmps61
  go_wp2_with fail
  refine P.out.mono ?_
  rintro e w1 ⟨⟨j, rfl, hj⟩, hs, hg⟩
  have hj := hj (by omega)
  have ho1 := ho.row hg hb
  have hr1 := ho1.rd
  obtain ⟨b, off, rfl, _, hc⟩ := hr1.2 (by omega)
  have g1 := hc j (by omega)
  clear hc hr1 ho1 ho hr
  go_wp2
  go_ret
  exact ⟨⟨j, by omega, rfl⟩, hs, hg⟩

theorem nums_mem {zs : List Int} {j : Nat} {p : Int → Prop} (h : ∀ z ∈ zs, p z) (hj : j < zs.length) : p (zs[j]?.getD 0) := by
  simp only [List.getElem?_eq_getElem hj, Option.getD_some]
  exact h _ (List.getElem_mem hj)

end Go.Proofs.YtecleelcnjhimaaDoor
namespace Go.Proofs.YtecleelcnjhimaaDoor
open Go.RowKit
theorem own_some {w : World} {base n c : Nat} {A : Option Addr} {zs : List Int} (h : Own w base (.slice A n c) zs) (h1 : 1 ≤ n) : ∃ g, A = some ⟨g, 0, none⟩ := by
  rcases h.2 with ⟨hv, hx⟩ | ⟨g, cap, cur, hv, _⟩
  · simp only [Value.slice.injEq] at hv
    omega
  · simp only [Value.slice.injEq] at hv
    exact ⟨g, hv.1⟩

end Go.Proofs.YtecleelcnjhimaaDoor
namespace Go.Proofs.YtecleelcnjhimaaDoor
open Go.RowKit
/-- The slice value at A, of n bytes, reads as the numbers bs; its block lies below B. -/
def Bt (w : World) (B : Nat) (A : Option Addr) (n : Nat) (bs : List Int) : Prop :=
  0 < n → ∃ b off, A = some ⟨b, off, none⟩ ∧ b < B ∧ ∀ k, k < n → w.cell? ⟨b, off + k, none⟩ = some (.int .u8 (bs[k]?.getD 0)) ∧ 0 ≤ bs[k]?.getD 0 ∧ bs[k]?.getD 0 ≤ 255
theorem Bt.below {w w' : World} {B C : Nat} {A : Option Addr} {n : Nat} {bs : List Int} (h : Bt w B A n bs) (hb : Below C w w') (hB : B ≤ C) : Bt w' B A n bs := fun hn => by
  obtain ⟨b, off, e, hlt, hc⟩ := h hn
  exact ⟨b, off, e, hlt, fun k hk => ⟨(hb.cell (p := ⟨b, off + k, none⟩) (by show b < C; omega)).trans (hc k hk).1, (hc k hk).2⟩⟩
theorem Bt.more {w : World} {B C : Nat} {A : Option Addr} {n : Nat} {bs : List Int} (h : Bt w B A n bs) (hB : B ≤ C) : Bt w C A n bs := fun hn => by
  obtain ⟨b, off, e, hlt, hc⟩ := h hn
  exact ⟨b, off, e, by omega, hc⟩
theorem Row.bt {w : World} {a : Option Addr} {len cap : Nat} {zs : List Int} (h : Row .u8 w a len cap zs) : Bt w w.heap.size a len zs ∧ len ≤ cap := by
  rcases h with ⟨rfl, rfl, rfl, rfl⟩ | ⟨x, rfl, hl, hm, hz, hc, hw⟩
  · exact ⟨fun h => absurd h (by omega), Nat.le_refl _⟩
  · refine ⟨fun hn => ?_, hl⟩
    obtain ⟨b, off, spot⟩ := x
    have h0 := hc 0 (by omega)
    have hspot : spot = none := by simpa [Addr.add] using World.cell?_spot h0
    subst hspot
    have hall : ∀ k, k < len → w.cell? ⟨b, off + k, none⟩ = some (.int .u8 (zs[k]?.getD 0)) ∧ 0 ≤ zs[k]?.getD 0 ∧ zs[k]?.getD 0 ≤ 255 := fun k hk => by
      have h1 := hc k (by omega)
      rw [add_at] at h1
      have h2 := hw (zs[k]'(by omega)) (List.getElem_mem _)
      have h3 : 0 ≤ zs[k]'(by omega) ∧ zs[k]'(by omega) ≤ 255 := by simpa [Lit.wf, IntKind.min, IntKind.max, IntKind.signed, IntKind.bits] using h2
      refine ⟨by rw [h1]; simp, ?_⟩
      simpa [show k < zs.length by omega] using h3
    exact ⟨b, off, rfl, World.block_lt_of_cell? w _ (hall 0 hn).1, hall⟩

set_option maxRecDepth 100000 in
set_option maxHeartbeats 1000000 in
theorem open_any (A : Option Addr) (n c B : Nat) (bs : List Int) (w : World) (h : Bt w B A n bs) (hB : B ≤ w.heap.size) (hc : n ≤ c) :
    Calls Tryd.prog 33 #[.slice A n c] w fun e w' => e = .returned (.pointer (some ⟨w.heap.size, 0, none⟩)) ∧ Src w' w.heap.size 0 ∧ Below w.heap.size w w' := by
  have HS : ∀ m, m ≤ n → m ≤ 2000 → Src (w.alloc (.cells #[.slice A m c, .int .i64 0] 59)) w.heap.size 0 := fun m hm hm2 => by
    refine ⟨A, m, c, bs, heap_alloc_new w _, hm2, fun h0 => ?_⟩
    obtain ⟨b, off, e, hlt, hcell⟩ := h (by omega)
    exact ⟨b, off, e, by omega, fun k hk => ⟨(((Below.refl B w).alloc hB _).cell (p := ⟨b, off + k, none⟩) hlt).trans (hcell k (by omega)).1, (hcell k (by omega)).2⟩⟩
  have HS := Lib.hid HS
  by_cases hn : 2000 < n
  · obtain ⟨b, off, rfl, _, _⟩ := h (by omega)
    clear h
    go_enter Tryd.func33, Tryd.ntmps33
    go_wp2
    go_ret
    exact ⟨rfl, HS.out 2000 (by omega) (by omega), (Below.refl _ _).alloc (Nat.le_refl _) _⟩
  · clear h
    go_enter Tryd.func33, Tryd.ntmps33
    go_wp2
    go_ret
    exact ⟨rfl, HS.out n (by omega) (by omega), (Below.refl _ _).alloc (Nat.le_refl _) _⟩

theorem below_of_grown {a b : World} (h : Below a.heap.size a b) {c : World} (hg : b.grownBy c (some a.heap.size)) : Below a.heap.size a c :=
  ⟨hg.os.trans h.os, hg.tape.trans h.tape, hg.output.trans h.output, Nat.le_trans h.size hg.size, fun k hk => (hg.block k (Nat.lt_of_lt_of_le hk h.size) (fun e => by injection e with e; omega)).trans (h.block k hk)⟩

end Go.Proofs.YtecleelcnjhimaaDoor