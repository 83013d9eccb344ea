/- The model's drawn arguments over any bytes: some list of at most 17 ints in new memory, ints from -1 to 16. No condition. -/
import Derived.Test.YtfdkkcigmjonfaaDraw3
import Derived.Test.YtfdkkcigmjonfaaArgs
namespace Go.Proofs.Ytfdkkcigmjonfaa
open Go.RowKit

/-- The slice value at A, of n bytes, reads as the numbers bs; its block lies below B. -/
def Bt (w : World) (B : Nat) (A : Option Addr) (n : Nat) (bs : List Int) : Prop :=
  0 < n → ∃ b off, A = some ⟨b, off, none⟩ ∧ b < B ∧ ∀ k, k < n → w.cell? ⟨b, off + k, none⟩ = some (.int .u8 (bs[k]?.getD 0)) ∧ 0 ≤ bs[k]?.getD 0 ∧ bs[k]?.getD 0 ≤ 255
theorem Bt.below {w w' : World} {B C : Nat} {A : Option Addr} {n : Nat} {bs : List Int} (h : Bt w B A n bs) (hb : Below C w w') (hB : B ≤ C) : Bt w' B A n bs := fun hn => by
  obtain ⟨b, off, e, hlt, hc⟩ := h hn
  exact ⟨b, off, e, hlt, fun k hk => ⟨(hb.cell (p := ⟨b, off + k, none⟩) (by show b < C; omega)).trans (hc k hk).1, (hc k hk).2⟩⟩
theorem Bt.more {w : World} {B C : Nat} {A : Option Addr} {n : Nat} {bs : List Int} (h : Bt w B A n bs) (hB : B ≤ C) : Bt w C A n bs := fun hn => by
  obtain ⟨b, off, e, hlt, hc⟩ := h hn
  exact ⟨b, off, e, by omega, hc⟩
theorem Row.bt {w : World} {a : Option Addr} {len cap : Nat} {zs : List Int} (h : Row .u8 w a len cap zs) : Bt w w.heap.size a len zs ∧ len ≤ cap := by
  rcases h with ⟨rfl, rfl, rfl, rfl⟩ | ⟨x, rfl, hl, hm, hz, hc, hw⟩
  · exact ⟨fun h => absurd h (by omega), Nat.le_refl _⟩
  · refine ⟨fun hn => ?_, hl⟩
    obtain ⟨b, off, spot⟩ := x
    have h0 := hc 0 (by omega)
    have hspot : spot = none := by simpa [Addr.add] using World.cell?_spot h0
    subst hspot
    have hall : ∀ k, k < len → w.cell? ⟨b, off + k, none⟩ = some (.int .u8 (zs[k]?.getD 0)) ∧ 0 ≤ zs[k]?.getD 0 ∧ zs[k]?.getD 0 ≤ 255 := fun k hk => by
      have h1 := hc k (by omega)
      rw [add_at] at h1
      have h2 := hw (zs[k]'(by omega)) (List.getElem_mem _)
      have h3 : 0 ≤ zs[k]'(by omega) ∧ zs[k]'(by omega) ≤ 255 := by simpa [Lit.wf, IntKind.min, IntKind.max, IntKind.signed, IntKind.bits] using h2
      refine ⟨by rw [h1]; simp, ?_⟩
      simpa [show k < zs.length by omega] using h3
    exact ⟨b, off, rfl, World.block_lt_of_cell? w _ (hall 0 hn).1, hall⟩

set_option maxRecDepth 100000 in
set_option maxHeartbeats 1000000 in
theorem open_any (A : Option Addr) (n c B : Nat) (bs : List Int) (w : World) (h : Bt w B A n bs) (hB : B ≤ w.heap.size) (hc : n ≤ c) :
    Calls Try.prog 96 #[.slice A n c] w fun e w' => e = .returned (.pointer (some ⟨w.heap.size, 0, none⟩)) ∧ Src w' w.heap.size 0 ∧ Below w.heap.size w w' := by
  have HS : ∀ m, m ≤ n → m ≤ 2000 → Src (w.alloc (.cells #[.slice A m c, .int .i64 0] 187)) w.heap.size 0 := fun m hm hm2 => by
    refine ⟨A, m, c, bs, heap_alloc_new w _, hm2, fun h0 => ?_⟩
    obtain ⟨b, off, e, hlt, hcell⟩ := h (by omega)
    exact ⟨b, off, e, by omega, fun k hk => ⟨(((Below.refl B w).alloc hB _).cell (p := ⟨b, off + k, none⟩) hlt).trans (hcell k (by omega)).1, (hcell k (by omega)).2⟩⟩
  have HS := Lib.hid HS
  by_cases hn : 2000 < n
  · obtain ⟨b, off, rfl, _, _⟩ := h (by omega)
    clear h
    go_enter Try.func96, Try.ntmps96
    go_wp2
    go_ret
    exact ⟨rfl, HS.out 2000 (by omega) (by omega), (Below.refl _ _).alloc (Nat.le_refl _) _⟩
  · clear h
    go_enter Try.func96, Try.ntmps96
    go_wp2
    go_ret
    exact ⟨rfl, HS.out n (by omega) (by omega), (Below.refl _ _).alloc (Nat.le_refl _) _⟩

theorem below_of_grown {a b : World} (h : Below a.heap.size a b) {c : World} (hg : b.grownBy c (some a.heap.size)) : Below a.heap.size a c :=
  ⟨hg.os.trans h.os, hg.tape.trans h.tape, hg.output.trans h.output, Nat.le_trans h.size hg.size, fun k hk => (hg.block k (Nat.lt_of_lt_of_le hk h.size) (fun e => by injection e with e; omega)).trans (h.block k hk)⟩

set_option maxRecDepth 100000 in
set_option maxHeartbeats 1000000 in
theorem l1Pair_any (R p : Nat) (w : World) (h : Src w R p) (hp : p ≤ 70000) :
    Calls Try.prog 97 #[.pointer (some ⟨R, 0, none⟩)] w fun e w' => ∃ v zs a b, e = .returned (.tuple #[v, .int .i64 a, .int .i64 b]) ∧ Own w' w.heap.size v zs ∧ zs.length ≤ 17 ∧ (-1 ≤ a ∧ a ≤ 16) ∧ (-1 ≤ b ∧ b ≤ 16) ∧ w.grownBy w' (some R) := by
  have hlt := h.lt
  have G := Lib.hid (l1Some_any R p w h hp)
  go_enter Try.func97, Try.ntmps97
  go_wp2_with fail
  refine G.out.mono ?_
  rintro e w1 ⟨v, zs, rfl, ho1, hl1, ⟨p1, hp1, hs1⟩, hg1⟩
  obtain ⟨A, c, rfl, _⟩ := ho1.form
  have P1 := Lib.hid (l1Pick_any R p1 zs.length c A w1 hs1 (by omega) hl1)
  go_wp2_with fail
  refine P1.out.mono ?_
  rintro e w2 ⟨⟨a, rfl, ha1, ha2⟩, ⟨p2, hp2, hs2⟩, hg2⟩
  have ho2 := ho1.row hg2 hlt
  have hg2w := grown_trans2 hg1 hg2
  have P2 := Lib.hid (l1Pick_any R p2 zs.length c A w2 hs2 (by omega) hl1)
  clear ho1 hs1 hg1 hg2
  go_wp2_with fail
  refine P2.out.mono ?_
  rintro e w3 ⟨⟨b, rfl, hb1, hb2⟩, ⟨p3, hp3, hs3⟩, hg3⟩
  have ho3 := ho2.row hg3 hlt
  have hg3w := grown_trans2 hg2w hg3
  clear ho2 hs2 hg2w hg3
  go_wp2_with fail
  go_ret3
  exact ⟨_, zs, a, b, rfl, ho3, hl1, ⟨ha1, ha2⟩, ⟨hb1, hb2⟩, hg3w⟩

end Go.Proofs.Ytfdkkcigmjonfaa