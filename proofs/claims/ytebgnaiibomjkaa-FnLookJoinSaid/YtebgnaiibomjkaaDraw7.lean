/- What the laws of looking draw: deep forests, ways of looking, items. Conditions: the bytes lie below, their number is at most the capacity. -/
import Derived.Test.YtebgnaiibomjkaaDraw4
import Derived.Test.YtebgnaiibomjkaaHelp
import Derived.Test.YtebgnaiibomjkaaArgs
namespace Go.Proofs.Ytebgnaiibomjkaa
open Go.RowKit

set_option maxRecDepth 100000 in
set_option maxHeartbeats 1000000 in
theorem l3Any_any (R p : Nat) (w : World) (h : Src w R p) (hp : p ≤ 90000) :
    Calls Try.prog 93 #[.pointer (some ⟨R, 0, none⟩)] w fun e w' => (∃ l : Int, e = .returned (.int .i64 l) ∧ -1 ≤ l ∧ l ≤ 4) ∧ Src w' R (p + 1) ∧ w.grownBy w' (some R) := by
  have hlt := h.lt
  have hlit : Own (w.alloc (.cells #[.int .i64 1, .int .i64 2, .int .i64 3, .int .i64 0, .int .i64 1, .int .i64 2, .int .i64 3, .int .i64 4, .int .i64 2, .int .i64 (-1)] 3)) w.heap.size (.slice (some ⟨w.heap.size, 0, none⟩) 10 10) [1, 2, 3, 0, 1, 2, 3, 4, 2, -1] := Own.lit w _ [1, 2, 3, 0, 1, 2, 3, 4, 2, -1] (Nat.le_refl _) (by simp)
  have hb := (Below.refl w.heap.size w).alloc (Nat.le_refl _) (.cells #[.int .i64 1, .int .i64 2, .int .i64 3, .int .i64 0, .int .i64 1, .int .i64 2, .int .i64 3, .int .i64 4, .int .i64 2, .int .i64 (-1)] 3)
  have NU := Lib.hid (num_any R p w.heap.size _ _ _ (h.below hb hlt) (by omega) hlit hlt (by simp) (by simp))
  have HB := Lib.hid hb
  clear hlit hb
  go_enter Try.func93, Try.ntmps93
  go_wp2_with fail
  refine NU.out.mono ?_
  rintro e w1 ⟨⟨k, hk, rfl⟩, hs1, hg1⟩
  have hm := nums_mem (p := fun z => -1 ≤ z ∧ z ≤ 4) (zs := [1, 2, 3, 0, 1, 2, 3, 4, 2, -1]) (by
    intro z hz
    simp only [List.mem_cons, List.not_mem_nil, or_false] at hz
    omega) hk
  have hgf := Lib.hid (grown_trans2 (grown_of_below R HB.out) hg1)
  clear hg1 hk
  go_wp2
  go_ret
  exact ⟨⟨_, rfl, hm.1, hm.2⟩, hs1, hgf.out⟩

set_option maxRecDepth 100000 in
set_option maxHeartbeats 1000000 in
theorem l2Alone_any (m : Nat) (h1 : 1 ≤ m) (h2 : m ≤ 16) (w : World) :
    Calls Try.prog 71 #[.int .i64 (m : Int)] w fun e w' => ∃ g c zs, e = .returned (.slice (some ⟨g, 0, none⟩) m c) ∧ Own w' w.heap.size (.slice (some ⟨g, 0, none⟩) m c) zs ∧ Below w.heap.size w w' := by
  have R := Lib.hid (specNew_any (m : Int) w)
  have hn : newN (m : Int) = m := by
    unfold newN
    rw [if_pos (by omega)]
    simp
  have hl : (roots (newN (m : Int))).length = m := by rw [roots_len, hn]
  have HL := Lib.hid hl
  clear hn hl
  go_enter Try.func71, Try.ntmps71
  go_wp2_with fail
  refine R.out.mono ?_
  rintro e w1 ⟨v, rfl, ho, hb⟩
  obtain ⟨A, c, rfl, _⟩ := ho.form
  rw [HL.out] at ho ⊢
  obtain ⟨g, rfl⟩ := own_head ho h1
  go_wp2
  go_ret
  exact ⟨g, c, _, rfl, ho, hb⟩

set_option maxRecDepth 100000 in
set_option maxHeartbeats 2000000 in
theorem l3Deep_any (R p : Nat) (w : World) (h : Src w R p) (hp : p ≤ 60000) :
    Calls Try.prog 92 #[.pointer (some ⟨R, 0, none⟩)] w fun e w' => ∃ v zs, e = .returned v ∧ Own w' w.heap.size v zs ∧ zs.length ≤ 17 ∧ (∃ p', p' ≤ p + 200 ∧ Src w' R p') ∧ w.grownBy w' (some R) := by
  have hlt := h.lt
  have P := Lib.hid (pick_any R p 3 w h (by omega))
  go_enter Try.func92, Try.ntmps92
  go_wp2_with fail
  refine P.out.mono ?_
  rintro e w1 ⟨⟨x, rfl, _⟩, hs1, hg1⟩
  have hsz1 := hg1.size
  by_cases hx : x = 0
  · subst hx
    have G := Lib.hid (l1Some_any R (p + 1) w1 hs1 (by omega))
    go_wp2_with fail
    refine G.out.mono ?_
    rintro e w2 ⟨v, zs, rfl, ho, hl, ⟨p', hp', hs2⟩, hg2⟩
    have HO := Lib.hid (And.intro (ho.less hsz1) (And.intro hs2 (grown_trans2 hg1 hg2)))
    clear ho hs2 hg1 hg2 hs1
    go_wp2
    go_ret
    exact ⟨_, _, rfl, HO.out.1, hl, ⟨_, by omega, HO.out.2.1⟩, HO.out.2.2⟩
  · have hxe : ((x : Int) == 0) = false := by simp; omega
    have hlit : Own (w1.alloc (.cells #[.int .i64 6, .int .i64 9, .int .i64 16, .int .i64 4, .int .i64 12] 3)) w1.heap.size (.slice (some ⟨w1.heap.size, 0, none⟩) 5 5) [6, 9, 16, 4, 12] := Own.lit w1 _ [6, 9, 16, 4, 12] (Nat.le_refl _) (by simp)
    have hb1 := (Below.refl w1.heap.size w1).alloc (Nat.le_refl _) (.cells #[.int .i64 6, .int .i64 9, .int .i64 16, .int .i64 4, .int .i64 12] 3)
    have hlt1 := hs1.lt
    have NU := Lib.hid (num_any R (p + 1) w1.heap.size _ _ _ (hs1.below hb1 hlt1) (by omega) hlit hlt1 (by simp) (by simp))
    have HG := Lib.hid (grown_trans2 hg1 (grown_of_below R hb1))
    clear hlit hb1 hs1 hg1 hx
    go_wp2_with fail
    refine NU.out.mono ?_
    rintro e w2 ⟨⟨k, hk, rfl⟩, hs2, hg2⟩
    have hm := nums_mem (p := fun z => 4 ≤ z ∧ z ≤ 16) (zs := [6, 9, 16, 4, 12]) (by
      intro z hz
      simp only [List.mem_cons, List.not_mem_nil, or_false] at hz
      omega) hk
    revert hm
    generalize ([6, 9, 16, 4, 12] : List Int)[k]?.getD 0 = m0
    intro hm
    obtain ⟨m, rfl⟩ := Int.eq_ofNat_of_zero_le (show 0 ≤ m0 by omega)
    have hg2w := grown_trans2 HG.out hg2
    have hsz2 := hg2w.size
    have AL := Lib.hid (l2Alone_any m (by omega) (by omega) w2)
    clear hk hg2 HG
    go_wp2_with fail
    refine AL.out.mono ?_
    rintro e w3 ⟨g, c, zs, rfl, ho, hb3⟩
    have hlen := ho.len
    have hs3 := hs2.below hb3 hs2.lt
    have hg3 := grown_trans2 hg2w (grown_of_below R hb3)
    have H0 : Hid (∃ zs, zs.length = m ∧ Own w3 w.heap.size (.slice (some ⟨g, 0, none⟩) m c) zs) := ⟨zs, hlen, ho.less hsz2⟩
    have HS0 : Hid (Src w3 R (p + 2 + (1 - 1)) ∧ w.grownBy w3 (some R)) := ⟨hs3, hg3⟩
    clear ho hb3 hlen hs3 hg3 hs2 hg2w
    go_wp2
    go_loopw [5] (fun t wr => ∃ i : Nat, 1 ≤ i ∧ i ≤ m + 1 ∧ t = .int .i64 (i : Int) ∧ Hid (∃ zs, zs.length = m ∧ Own wr w.heap.size (.slice (some ⟨g, 0, none⟩) m c) zs) ∧ Hid (Src wr R (p + 2 + (i - 1)) ∧ w.grownBy wr (some R))) (fun t _ => m + 1 - (intOf t).toNat)
    case atStart => exact ⟨1, Nat.le_refl _, by omega, rfl, H0, HS0⟩
    case round =>
      obtain ⟨i, hi1, hi2, rfl, HO, HS⟩ := hrel
      clear H0 HS0
      by_cases hlm : i < m
      · have PK := Lib.hid (pick_any R _ 2 wr HS.out.1 (by omega))
        go_wp2_with fail
        refine PK.out.mono ?_
        rintro e w4 ⟨⟨y, rfl, hy⟩, hs4, hg4⟩
        have hy := hy (by omega)
        obtain ⟨zs, hz, ho⟩ := HO.out
        have ho4 := ho.row hg4 hlt
        have hgw := grown_trans2 HS.out.2 hg4
        have g2 := ho4.slot hlm
        have g3 := ho4.free i
        have hbg := ho4.at_base
        have HN : Hid (∀ q : Int, (∃ zs, zs.length = m ∧ Own (w4.setCell ⟨g, i, none⟩ (.int .i64 q)) w.heap.size (.slice (some ⟨g, 0, none⟩) m c) zs) ∧ (Src (w4.setCell ⟨g, i, none⟩ (.int .i64 q)) R (p + 2 + (i + 1 - 1)) ∧ w.grownBy (w4.setCell ⟨g, i, none⟩ (.int .i64 q)) (some R))) := fun q => by
          have hB := (Below.refl w.heap.size w4).setCell (p := ⟨g, i, none⟩) hbg.1 (.int .i64 q)
          refine ⟨⟨zs.set i q, by rw [List.length_set]; exact hz, ho4.set_ i q⟩, ?_, grown_below hgw hB⟩
          have := hs4.below (hB.mono (show R + 1 ≤ w.heap.size by omega)) (by omega)
          rw [show p + 2 + (i + 1 - 1) = p + 2 + (i - 1) + 1 by omega]
          exact this
        clear ho ho4 hgw hs4 hg4 HS HO hz PK
        by_cases hq : (i : Int) - 1 - (y : Int) < 0
        all_goals
          go_wp2
          go_roundw
          case rel => exact ⟨i + 1, by omega, by omega, by go_num, (HN.out _).1, (HN.out _).2⟩
          case measure => simp [intOf]; omega
      · obtain ⟨zs, hz, ho⟩ := HO.out
        have HF := Lib.hid (And.intro hz (And.intro ho HS.out))
        clear hz ho HS HO
        go_wp2
        go_ret
        exact ⟨_, zs, rfl, HF.out.2.1, by have := HF.out.1; omega, ⟨_, by omega, HF.out.2.2.1⟩, HF.out.2.2.2⟩
end Go.Proofs.Ytebgnaiibomjkaa

namespace Go.Proofs.Ytebgnaiibomjkaa
open Go.RowKit

set_option maxRecDepth 100000 in
set_option maxHeartbeats 1000000 in
theorem drawLookUp_any (A : Option Addr) (n c B : Nat) (bs : List Int) (w : World) (h : Bt w B A n bs) (hB : B ≤ w.heap.size) (hc : n ≤ c) :
    Calls Try.prog 41 #[.slice A n c] w fun e w' => ∃ v zs l i, e = .returned (.tuple #[v, .int .i64 l, .int .i64 i]) ∧ Own w' w.heap.size v zs ∧ zs.length ≤ 17 ∧ (-1 ≤ l ∧ l ≤ 4) ∧ (-1 ≤ i ∧ i ≤ 17) ∧ Below w.heap.size w w' := by
  have O := Lib.hid (open_any A n c B bs w h hB hc)
  clear h
  go_enter Try.func41, Try.ntmps41
  go_wp2_with fail
  refine O.out.mono ?_
  rintro e w1 ⟨rfl, hs1, hb1⟩
  have D := Lib.hid (l3Deep_any w.heap.size 0 w1 hs1 (by omega))
  have hlt := hs1.lt
  have hsz := hb1.size
  clear hs1
  go_wp2_with fail
  refine D.out.mono ?_
  rintro e w2 ⟨v, zs, rfl, ho, hl, ⟨p2, hp2, hs2⟩, hg2⟩
  obtain ⟨A2, c2, rfl, _⟩ := ho.form
  obtain ⟨m, hm⟩ : ∃ m, m = zs.length := ⟨_, rfl⟩
  have HO2 : Hid (∃ zs, zs.length = m ∧ Own w2 w1.heap.size (.slice A2 m c2) zs) := ⟨zs, hm.symm, by rw [hm]; exact ho⟩
  rw [← hm] at hl ⊢
  have L := Lib.hid (l3Any_any w.heap.size p2 w2 hs2 (by omega))
  clear ho hm hs2 D
  go_wp2_with fail
  refine L.out.mono ?_
  rintro e w3 ⟨⟨l, rfl, hl1, hl2⟩, hs3, hg3⟩
  have hg3w := grown_trans2 hg2 hg3
  have HO3 : Hid (∃ zs, zs.length = m ∧ Own w3 w1.heap.size (.slice A2 m c2) zs) := by
    obtain ⟨zs, hz, ho⟩ := HO2.out
    exact ⟨zs, hz, ho.row hg3 hlt⟩
  clear HO2 hg2 hg3 L
  by_cases hm0 : 0 < m
  · have PK := Lib.hid (pick_any w.heap.size (p2 + 1) 2 w3 hs3 (by omega))
    go_wp2_with fail
    refine PK.out.mono ?_
    rintro e w4 ⟨⟨y, rfl, _⟩, hs4, hg4⟩
    have hg4w := grown_trans2 hg3w hg4
    have HO4 : Hid (∃ zs, zs.length = m ∧ Own w4 w1.heap.size (.slice A2 m c2) zs) := by
      obtain ⟨zs, hz, ho⟩ := HO3.out
      exact ⟨zs, hz, ho.row hg4 hlt⟩
    clear HO3 hg3w hg4 hs3 PK
    by_cases hy : y = 0
    · subst hy
      obtain ⟨zs, hz, ho⟩ := HO4.out
      have HF := Lib.hid (And.intro hz (And.intro (ho.less hsz) (below_of_grown hb1 hg4w)))
      clear hz ho HO4 hg4w hs4 hb1
      go_wp2
      go_ret3
      exact ⟨_, zs, l, _, rfl, HF.out.2.1, by have := HF.out.1; omega, ⟨hl1, hl2⟩, by omega, HF.out.2.2⟩
    · have hye : ((y : Int) == 0) = false := by simp; omega
      have PI := Lib.hid (l1Pick_any w.heap.size (p2 + 1 + 1) m c2 A2 w4 hs4 (by omega) hl)
      clear hy
      go_wp2_with fail
      refine PI.out.mono ?_
      rintro e w5 ⟨⟨x, rfl, hx1, hx2⟩, ⟨p5, hp5, hs5⟩, hg5⟩
      obtain ⟨zs, hz, ho⟩ := HO4.out
      have HF := Lib.hid (And.intro hz (And.intro ((ho.row hg5 hlt).less hsz) (below_of_grown hb1 (grown_trans2 hg4w hg5))))
      clear hz ho HO4 hg4w hs4 hb1 hs5 hg5 PI
      go_wp2
      go_ret3
      exact ⟨_, zs, l, x, rfl, HF.out.2.1, by have := HF.out.1; omega, ⟨hl1, hl2⟩, by omega, HF.out.2.2⟩
  · have PI := Lib.hid (l1Pick_any w.heap.size (p2 + 1) m c2 A2 w3 hs3 (by omega) hl)
    go_wp2_with fail
    refine PI.out.mono ?_
    rintro e w5 ⟨⟨x, rfl, hx1, hx2⟩, ⟨p5, hp5, hs5⟩, hg5⟩
    obtain ⟨zs, hz, ho⟩ := HO3.out
    have HF := Lib.hid (And.intro hz (And.intro ((ho.row hg5 hlt).less hsz) (below_of_grown hb1 (grown_trans2 hg3w hg5))))
    clear hz ho HO3 hg3w hs3 hb1 hs5 hg5 PI
    go_wp2
    go_ret3
    exact ⟨_, zs, l, x, rfl, HF.out.2.1, by have := HF.out.1; omega, ⟨hl1, hl2⟩, by omega, HF.out.2.2⟩

end Go.Proofs.Ytebgnaiibomjkaa