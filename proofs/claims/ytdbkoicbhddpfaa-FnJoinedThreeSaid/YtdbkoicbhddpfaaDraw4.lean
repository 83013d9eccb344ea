/- The model's drawn arguments over any bytes: some list of at most 17 ints in new memory, ints from -1 to 16. No condition. -/
import Derived.Test.YtdbkoicbhddpfaaDraw
import Derived.Test.YtdbkoicbhddpfaaArgs
namespace Go.Proofs.Ytdbkoicbhddpfaa
open Go.RowKit

theorem own_some {w : World} {base n c : Nat} {A : Option Addr} {zs : List Int} (h : Own w base (.slice A n c) zs) (h1 : 1 ≤ n) : ∃ g, A = some ⟨g, 0, none⟩ := by
  rcases h.2 with ⟨hv, hx⟩ | ⟨g, cap, cur, hv, _⟩
  · simp only [Value.slice.injEq] at hv
    omega
  · simp only [Value.slice.injEq] at hv
    exact ⟨g, hv.1⟩

end Go.Proofs.Ytdbkoicbhddpfaa
namespace Go.Proofs.Ytdbkoicbhddpfaa
open Go.RowKit
/-- The slice value at A, of n bytes, reads as the numbers bs; its block lies below B. -/
def Bt (w : World) (B : Nat) (A : Option Addr) (n : Nat) (bs : List Int) : Prop :=
  0 < n → ∃ b off, A = some ⟨b, off, none⟩ ∧ b < B ∧ ∀ k, k < n → w.cell? ⟨b, off + k, none⟩ = some (.int .u8 (bs[k]?.getD 0)) ∧ 0 ≤ bs[k]?.getD 0 ∧ bs[k]?.getD 0 ≤ 255
theorem Bt.below {w w' : World} {B C : Nat} {A : Option Addr} {n : Nat} {bs : List Int} (h : Bt w B A n bs) (hb : Below C w w') (hB : B ≤ C) : Bt w' B A n bs := fun hn => by
  obtain ⟨b, off, e, hlt, hc⟩ := h hn
  exact ⟨b, off, e, hlt, fun k hk => ⟨(hb.cell (p := ⟨b, off + k, none⟩) (by show b < C; omega)).trans (hc k hk).1, (hc k hk).2⟩⟩
theorem Bt.more {w : World} {B C : Nat} {A : Option Addr} {n : Nat} {bs : List Int} (h : Bt w B A n bs) (hB : B ≤ C) : Bt w C A n bs := fun hn => by
  obtain ⟨b, off, e, hlt, hc⟩ := h hn
  exact ⟨b, off, e, by omega, hc⟩
theorem Row.bt {w : World} {a : Option Addr} {len cap : Nat} {zs : List Int} (h : Row .u8 w a len cap zs) : Bt w w.heap.size a len zs ∧ len ≤ cap := by
  rcases h with ⟨rfl, rfl, rfl, rfl⟩ | ⟨x, rfl, hl, hm, hz, hc, hw⟩
  · exact ⟨fun h => absurd h (by omega), Nat.le_refl _⟩
  · refine ⟨fun hn => ?_, hl⟩
    obtain ⟨b, off, spot⟩ := x
    have h0 := hc 0 (by omega)
    have hspot : spot = none := by simpa [Addr.add] using World.cell?_spot h0
    subst hspot
    have hall : ∀ k, k < len → w.cell? ⟨b, off + k, none⟩ = some (.int .u8 (zs[k]?.getD 0)) ∧ 0 ≤ zs[k]?.getD 0 ∧ zs[k]?.getD 0 ≤ 255 := fun k hk => by
      have h1 := hc k (by omega)
      rw [add_at] at h1
      have h2 := hw (zs[k]'(by omega)) (List.getElem_mem _)
      have h3 : 0 ≤ zs[k]'(by omega) ∧ zs[k]'(by omega) ≤ 255 := by simpa [Lit.wf, IntKind.min, IntKind.max, IntKind.signed, IntKind.bits] using h2
      refine ⟨by rw [h1]; simp, ?_⟩
      simpa [show k < zs.length by omega] using h3
    exact ⟨b, off, rfl, World.block_lt_of_cell? w _ (hall 0 hn).1, hall⟩

set_option maxRecDepth 100000 in
set_option maxHeartbeats 1000000 in
theorem open_any (A : Option Addr) (n c B : Nat) (bs : List Int) (w : World) (h : Bt w B A n bs) (hB : B ≤ w.heap.size) (hc : n ≤ c) :
    Calls Try.prog 76 #[.slice A n c] w fun e w' => e = .returned (.pointer (some ⟨w.heap.size, 0, none⟩)) ∧ Src w' w.heap.size 0 ∧ Below w.heap.size w w' := by
  have HS : ∀ m, m ≤ n → m ≤ 2000 → Src (w.alloc (.cells #[.slice A m c, .int .i64 0] 171)) w.heap.size 0 := fun m hm hm2 => by
    refine ⟨A, m, c, bs, heap_alloc_new w _, hm2, fun h0 => ?_⟩
    obtain ⟨b, off, e, hlt, hcell⟩ := h (by omega)
    exact ⟨b, off, e, by omega, fun k hk => ⟨(((Below.refl B w).alloc hB _).cell (p := ⟨b, off + k, none⟩) hlt).trans (hcell k (by omega)).1, (hcell k (by omega)).2⟩⟩
  have HS := Lib.hid HS
  by_cases hn : 2000 < n
  · obtain ⟨b, off, rfl, _, _⟩ := h (by omega)
    clear h
    go_enter Try.func76, Try.ntmps76
    go_wp2
    go_ret
    exact ⟨rfl, HS.out 2000 (by omega) (by omega), (Below.refl _ _).alloc (Nat.le_refl _) _⟩
  · clear h
    go_enter Try.func76, Try.ntmps76
    go_wp2
    go_ret
    exact ⟨rfl, HS.out n (by omega) (by omega), (Below.refl _ _).alloc (Nat.le_refl _) _⟩

theorem below_of_grown {a b : World} (h : Below a.heap.size a b) {c : World} (hg : b.grownBy c (some a.heap.size)) : Below a.heap.size a c :=
  ⟨hg.os.trans h.os, hg.tape.trans h.tape, hg.output.trans h.output, Nat.le_trans h.size hg.size, fun k hk => (hg.block k (Nat.lt_of_lt_of_le hk h.size) (fun e => by injection e with e; omega)).trans (h.block k hk)⟩

end Go.Proofs.Ytdbkoicbhddpfaa