/- What the laws of Join draw. Conditions: the bytes lie below, their number is at most the capacity. -/
import Derived.Test.YtfdkkcigmjonfaaDraw7
namespace Go.Proofs.Ytfdkkcigmjonfaa
open Go.RowKit

theorem results_four {fn : Func} {t u v x : Tmp} (h : fn.results = #[.tmp t, .tmp u, .tmp v, .tmp x]) (tmps : Array Value) (P : Program) (w : World) :
    (results fn tmps).run P w = .ok (.tuple #[tmps.getD t undef, tmps.getD u undef, tmps.getD v undef, tmps.getD x undef]) w := by
  simp [results, h]

set_option maxRecDepth 100000 in
set_option maxHeartbeats 1000000 in
theorem l2Any_any (R p : Nat) (w : World) (h : Src w R p) (hp : p ≤ 90000) :
    Calls Try.prog 98 #[.pointer (some ⟨R, 0, none⟩)] w fun e w' => (∃ l : Int, e = .returned (.int .i64 l) ∧ -1 ≤ l ∧ l ≤ 3) ∧ Src w' R (p + 1) ∧ w.grownBy w' (some R) := by
  have hlt := h.lt
  have hlit : Own (w.alloc (.cells #[.int .i64 1, .int .i64 2, .int .i64 0, .int .i64 1, .int .i64 2, .int .i64 0, .int .i64 3, .int .i64 1, .int .i64 2, .int .i64 (-1)] 3)) w.heap.size (.slice (some ⟨w.heap.size, 0, none⟩) 10 10) [1, 2, 0, 1, 2, 0, 3, 1, 2, -1] := Own.lit w _ [1, 2, 0, 1, 2, 0, 3, 1, 2, -1] (Nat.le_refl _) (by simp)
  have hb := (Below.refl w.heap.size w).alloc (Nat.le_refl _) (.cells #[.int .i64 1, .int .i64 2, .int .i64 0, .int .i64 1, .int .i64 2, .int .i64 0, .int .i64 3, .int .i64 1, .int .i64 2, .int .i64 (-1)] 3)
  have NU := Lib.hid (num_any R p w.heap.size _ _ _ (h.below hb hlt) (by omega) hlit hlt (by simp) (by simp))
  have HB := Lib.hid hb
  clear hlit hb
  go_enter Try.func98, Try.ntmps98
  go_wp2_with fail
  refine NU.out.mono ?_
  rintro e w1 ⟨⟨k, hk, rfl⟩, hs1, hg1⟩
  have hm := nums_mem (p := fun z => -1 ≤ z ∧ z ≤ 3) (zs := [1, 2, 0, 1, 2, 0, 3, 1, 2, -1]) (by
    intro z hz
    simp only [List.mem_cons, List.not_mem_nil, or_false] at hz
    omega) hk
  have hgf := Lib.hid (grown_trans2 (grown_of_below R HB.out) hg1)
  clear hg1 hk
  go_wp2
  go_ret
  exact ⟨⟨_, rfl, hm.1, hm.2⟩, hs1, hgf.out⟩

set_option maxRecDepth 100000 in
set_option maxHeartbeats 1000000 in
theorem l1PairS_any (R p : Nat) (w : World) (h : Src w R p) (hp : p ≤ 70000) :
    Calls Try.prog 97 #[.pointer (some ⟨R, 0, none⟩)] w fun e w' => ∃ v zs a b, e = .returned (.tuple #[v, .int .i64 a, .int .i64 b]) ∧ Own w' w.heap.size v zs ∧ zs.length ≤ 17 ∧ (-1 ≤ a ∧ a ≤ 16) ∧ (-1 ≤ b ∧ b ≤ 16) ∧ (∃ p', p' ≤ p + 200 ∧ Src w' R p') ∧ w.grownBy w' (some R) := by
  have hlt := h.lt
  have G := Lib.hid (l1Some_any R p w h hp)
  go_enter Try.func97, Try.ntmps97
  go_wp2_with fail
  refine G.out.mono ?_
  rintro e w1 ⟨v, zs, rfl, ho1, hl1, ⟨p1, hp1, hs1⟩, hg1⟩
  obtain ⟨A, c, rfl, _⟩ := ho1.form
  have P1 := Lib.hid (l1Pick_any R p1 zs.length c A w1 hs1 (by omega) hl1)
  go_wp2_with fail
  refine P1.out.mono ?_
  rintro e w2 ⟨⟨a, rfl, ha1, ha2⟩, ⟨p2, hp2, hs2⟩, hg2⟩
  have ho2 := ho1.row hg2 hlt
  have hg2w := grown_trans2 hg1 hg2
  have P2 := Lib.hid (l1Pick_any R p2 zs.length c A w2 hs2 (by omega) hl1)
  clear ho1 hs1 hg1 hg2
  go_wp2_with fail
  refine P2.out.mono ?_
  rintro e w3 ⟨⟨b, rfl, hb1, hb2⟩, ⟨p3, hp3, hs3⟩, hg3⟩
  have ho3 := ho2.row hg3 hlt
  have hg3w := grown_trans2 hg2w hg3
  clear ho2 hs2 hg2w hg3
  have HS3 := Lib.hid hs3
  clear hs3
  go_wp2_with fail
  go_ret3
  exact ⟨_, zs, a, b, rfl, ho3, hl1, ⟨ha1, ha2⟩, ⟨hb1, hb2⟩, ⟨p3, by omega, HS3.out⟩, hg3w⟩

set_option maxRecDepth 100000 in
set_option maxHeartbeats 1000000 in
theorem drawJoin_any (A : Option Addr) (n c B : Nat) (bs : List Int) (w : World) (h : Bt w B A n bs) (hB : B ≤ w.heap.size) (hc : n ≤ c) :
    Calls Try.prog 31 #[.slice A n c] w fun e w' => ∃ v zs r a b, e = .returned (.tuple #[v, .int .i64 r, .int .i64 a, .int .i64 b]) ∧ Own w' w.heap.size v zs ∧ zs.length ≤ 17 ∧ (-1 ≤ r ∧ r ≤ 3) ∧ (-1 ≤ a ∧ a ≤ 16) ∧ (-1 ≤ b ∧ b ≤ 16) ∧ Below w.heap.size w w' := by
  have O := Lib.hid (open_any A n c B bs w h hB hc)
  clear h
  go_enter Try.func31, Try.ntmps31
  go_wp2_with fail
  refine O.out.mono ?_
  rintro e w1 ⟨rfl, hs1, hb1⟩
  have P := Lib.hid (l1PairS_any w.heap.size 0 w1 hs1 (by omega))
  have hsz := hb1.size
  have hlt := hs1.lt
  go_wp2_with fail
  refine P.out.mono ?_
  rintro e w2 ⟨v, zs, a, b, rfl, ho, hl, ha, hb, ⟨p2, hp2, hs2⟩, hg⟩
  have L := Lib.hid (l2Any_any w.heap.size p2 w2 hs2 (by omega))
  clear hs1 hs2
  go_wp2_with fail
  refine L.out.mono ?_
  rintro e w3 ⟨⟨r, rfl, hr1, hr2⟩, hs3, hg3⟩
  have ho3 := Lib.hid (ho.row hg3 hlt)
  have hb2 := Lib.hid (below_of_grown hb1 (grown_trans2 hg hg3))
  clear hb1 hg hg3 hs3 ho
  go_wp2_with fail
  refine bodyPost_ret (results_four rfl _ _ _) rfl ?_
  exact ⟨_, zs, r, a, b, rfl, ho3.out.less hsz, hl, ⟨hr1, hr2⟩, ha, hb, hb2.out⟩
end Go.Proofs.Ytfdkkcigmjonfaa
