/- The arguments that the laws of looking draw. Conditions: the bytes lie below, their number is at most the capacity. -/
import Derived.Test.YtemkbheplmimoaaDraw7
namespace Go.Proofs.Ytemkbheplmimoaa
open Go.RowKit

set_option maxRecDepth 100000 in
set_option maxHeartbeats 1000000 in
theorem drawLookUp_any (A : Option Addr) (n c B : Nat) (bs : List Int) (w : World) (h : Bt w B A n bs) (hB : B ≤ w.heap.size) (hc : n ≤ c) :
    Calls Try.prog 53 #[.slice A n c] w fun e w' => ∃ v zs l i, e = .returned (.tuple #[v, .int .i64 l, .int .i64 i]) ∧ Own w' w.heap.size v zs ∧ zs.length ≤ 17 ∧ (-1 ≤ l ∧ l ≤ 4) ∧ (-1 ≤ i ∧ i ≤ 17) ∧ Below w.heap.size w w' := by
  have O := Lib.hid (open_any A n c B bs w h hB hc)
  clear h
  go_enter Try.func53, Try.ntmps53
  go_wp2_with fail
  refine O.out.mono ?_
  rintro e w1 ⟨rfl, hs1, hb1⟩
  have D := Lib.hid (l3Deep_any w.heap.size 0 w1 hs1 (by omega))
  have hlt := hs1.lt
  have hsz := hb1.size
  clear hs1
  go_wp2_with fail
  refine D.out.mono ?_
  rintro e w2 ⟨v, zs, rfl, ho, hl, ⟨p2, hp2, hs2⟩, hg2⟩
  obtain ⟨A2, c2, rfl, _⟩ := ho.form
  obtain ⟨m, hm⟩ : ∃ m, m = zs.length := ⟨_, rfl⟩
  have HO2 : Hid (∃ zs, zs.length = m ∧ Own w2 w1.heap.size (.slice A2 m c2) zs) := ⟨zs, hm.symm, by rw [hm]; exact ho⟩
  rw [← hm] at hl ⊢
  have L := Lib.hid (l3Any_any w.heap.size p2 w2 hs2 (by omega))
  clear ho hm hs2 D
  go_wp2_with fail
  refine L.out.mono ?_
  rintro e w3 ⟨⟨l, rfl, hl1, hl2⟩, hs3, hg3⟩
  have hg3w := grown_trans2 hg2 hg3
  have HO3 : Hid (∃ zs, zs.length = m ∧ Own w3 w1.heap.size (.slice A2 m c2) zs) := by
    obtain ⟨zs, hz, ho⟩ := HO2.out
    exact ⟨zs, hz, ho.row hg3 hlt⟩
  clear HO2 hg2 hg3 L
  by_cases hm0 : 0 < m
  · have PK := Lib.hid (pick_any w.heap.size (p2 + 1) 2 w3 hs3 (by omega))
    go_wp2_with fail
    refine PK.out.mono ?_
    rintro e w4 ⟨⟨y, rfl, _⟩, hs4, hg4⟩
    have hg4w := grown_trans2 hg3w hg4
    have HO4 : Hid (∃ zs, zs.length = m ∧ Own w4 w1.heap.size (.slice A2 m c2) zs) := by
      obtain ⟨zs, hz, ho⟩ := HO3.out
      exact ⟨zs, hz, ho.row hg4 hlt⟩
    clear HO3 hg3w hg4 hs3 PK
    by_cases hy : y = 0
    · subst hy
      obtain ⟨zs, hz, ho⟩ := HO4.out
      have HF := Lib.hid (And.intro hz (And.intro (ho.less hsz) (below_of_grown hb1 hg4w)))
      clear hz ho HO4 hg4w hs4 hb1
      go_wp2
      go_ret3
      exact ⟨_, zs, l, _, rfl, HF.out.2.1, by have := HF.out.1; omega, ⟨hl1, hl2⟩, by omega, HF.out.2.2⟩
    · have hye : ((y : Int) == 0) = false := by simp; omega
      have PI := Lib.hid (l1Pick_any w.heap.size (p2 + 1 + 1) m c2 A2 w4 hs4 (by omega) hl)
      clear hy
      go_wp2_with fail
      refine PI.out.mono ?_
      rintro e w5 ⟨⟨x, rfl, hx1, hx2⟩, ⟨p5, hp5, hs5⟩, hg5⟩
      obtain ⟨zs, hz, ho⟩ := HO4.out
      have HF := Lib.hid (And.intro hz (And.intro ((ho.row hg5 hlt).less hsz) (below_of_grown hb1 (grown_trans2 hg4w hg5))))
      clear hz ho HO4 hg4w hs4 hb1 hs5 hg5 PI
      go_wp2
      go_ret3
      exact ⟨_, zs, l, x, rfl, HF.out.2.1, by have := HF.out.1; omega, ⟨hl1, hl2⟩, by omega, HF.out.2.2⟩
  · have PI := Lib.hid (l1Pick_any w.heap.size (p2 + 1) m c2 A2 w3 hs3 (by omega) hl)
    go_wp2_with fail
    refine PI.out.mono ?_
    rintro e w5 ⟨⟨x, rfl, hx1, hx2⟩, ⟨p5, hp5, hs5⟩, hg5⟩
    obtain ⟨zs, hz, ho⟩ := HO3.out
    have HF := Lib.hid (And.intro hz (And.intro ((ho.row hg5 hlt).less hsz) (below_of_grown hb1 (grown_trans2 hg3w hg5))))
    clear hz ho HO3 hg3w hs3 hb1 hs5 hg5 PI
    go_wp2
    go_ret3
    exact ⟨_, zs, l, x, rfl, HF.out.2.1, by have := HF.out.1; omega, ⟨hl1, hl2⟩, by omega, HF.out.2.2⟩

set_option maxRecDepth 100000 in
theorem drawStepsUp_any (A : Option Addr) (n c B : Nat) (bs : List Int) (w : World) (h : Bt w B A n bs) (hB : B ≤ w.heap.size) (hc : n ≤ c) :
    Calls Try.prog 57 #[.slice A n c] w fun e w' => ∃ v zs l i, e = .returned (.tuple #[v, .int .i64 l, .int .i64 i]) ∧ Own w' w.heap.size v zs ∧ zs.length ≤ 17 ∧ (-1 ≤ l ∧ l ≤ 4) ∧ (-1 ≤ i ∧ i ≤ 17) ∧ Below w.heap.size w w' := by
  have O := Lib.hid (drawLookUp_any A n c B bs w h hB hc)
  clear h
  go_enter Try.func57, Try.ntmps57
  go_wp2_with fail
  refine O.out.mono ?_
  rintro e w1 ⟨v, zs, l, i, rfl, ho, hl, h2, h3, hb1⟩
  go_wp2_with fail
  go_ret3
  exact ⟨_, zs, l, i, rfl, ho, hl, h2, h3, hb1⟩
set_option maxRecDepth 100000 in
theorem drawLooksTo_any (A : Option Addr) (n c B : Nat) (bs : List Int) (w : World) (h : Bt w B A n bs) (hB : B ≤ w.heap.size) (hc : n ≤ c) :
    Calls Try.prog 69 #[.slice A n c] w fun e w' => ∃ v zs l i, e = .returned (.tuple #[v, .int .i64 l, .int .i64 i]) ∧ Own w' w.heap.size v zs ∧ zs.length ≤ 17 ∧ (-1 ≤ l ∧ l ≤ 4) ∧ (-1 ≤ i ∧ i ≤ 17) ∧ Below w.heap.size w w' := by
  have O := Lib.hid (drawLookUp_any A n c B bs w h hB hc)
  clear h
  go_enter Try.func69, Try.ntmps69
  go_wp2_with fail
  refine O.out.mono ?_
  rintro e w1 ⟨v, zs, l, i, rfl, ho, hl, h2, h3, hb1⟩
  go_wp2_with fail
  go_ret3
  exact ⟨_, zs, l, i, rfl, ho, hl, h2, h3, hb1⟩
set_option maxRecDepth 100000 in
theorem drawFlat_any (A : Option Addr) (n c B : Nat) (bs : List Int) (w : World) (h : Bt w B A n bs) (hB : B ≤ w.heap.size) (hc : n ≤ c) :
    Calls Try.prog 66 #[.slice A n c] w fun e w' => ∃ v zs, e = .returned v ∧ Own w' w.heap.size v zs ∧ zs.length ≤ 17 ∧ Below w.heap.size w w' := by
  have O := Lib.hid (open_any A n c B bs w h hB hc)
  clear h
  go_enter Try.func66, Try.ntmps66
  go_wp2_with fail
  refine O.out.mono ?_
  rintro e w1 ⟨rfl, hs1, hb1⟩
  have D := Lib.hid (l3Deep_any w.heap.size 0 w1 hs1 (by omega))
  have hsz := hb1.size
  clear hs1
  go_wp2_with fail
  refine D.out.mono ?_
  rintro e w2 ⟨v, zs, rfl, ho, hl, _, hg2⟩
  have HF := Lib.hid (And.intro (ho.less hsz) (below_of_grown hb1 hg2))
  clear ho hg2 hb1
  go_wp2_with fail
  go_ret
  exact ⟨_, zs, rfl, HF.out.1, hl, HF.out.2⟩
end Go.Proofs.Ytemkbheplmimoaa
