/- The model's drawn arguments over any bytes: some list of at most 17 ints in new memory, ints from -1 to 16. No condition. -/
import Derived.Test.YtfafgihfgdpclaaDraw
import Derived.Test.YtfafgihfgdpclaaArgs
namespace Go.Proofs.Ytfafgihfgdpclaa
open Go.RowKit

set_option maxRecDepth 100000 in
set_option maxHeartbeats 4000000 in
theorem l1Good_any (R p : Nat) (w : World) (h : Src w R p) (hp : p ≤ 80000) :
    Calls Try.prog 166 #[.pointer (some ⟨R, 0, none⟩)] w fun e w' => ∃ v zs, e = .returned v ∧ Own w' w.heap.size v zs ∧ 1 ≤ zs.length ∧ zs.length ≤ 16 ∧ (∃ p', p' ≤ p + 50 ∧ Src w' R p') ∧ w.grownBy w' (some R) := by
  have hlt := h.lt
  have hb0 := (Below.refl w.heap.size w).alloc (Nat.le_refl _) (.cells #[.int .i64 5, .int .i64 7, .int .i64 1, .int .i64 8, .int .i64 16, .int .i64 3, .int .i64 2, .int .i64 10] 3)
  have hlit : Own (w.alloc (.cells #[.int .i64 5, .int .i64 7, .int .i64 1, .int .i64 8, .int .i64 16, .int .i64 3, .int .i64 2, .int .i64 10] 3)) w.heap.size (.slice (some ⟨w.heap.size, 0, none⟩) 8 8) [5, 7, 1, 8, 16, 3, 2, 10] := Own.lit w _ [5, 7, 1, 8, 16, 3, 2, 10] (Nat.le_refl _) (by simp)
  have NU := Lib.hid (num_any R p w.heap.size _ _ _ (h.below hb0 hlt) (by omega) hlit hlt (by simp) (by simp))
  have HB := Lib.hid hb0
  clear hlit hb0
  go_enter Try.func166, Try.ntmps166
  go_wp2_with fail
  refine NU.out.mono ?_
  rintro e w1 ⟨⟨k, hk, rfl⟩, hs1, hg1⟩
  have hb := nums_mem (p := fun z => 1 ≤ z ∧ z ≤ 16) (zs := [5, 7, 1, 8, 16, 3, 2, 10]) (by
    intro z hz
    simp only [List.mem_cons, List.not_mem_nil, or_false] at hz
    omega) hk
  revert hb
  generalize ([5, 7, 1, 8, 16, 3, 2, 10] : List Int)[k]?.getD 0 = z
  intro hb
  obtain ⟨n, rfl⟩ := Int.eq_ofNat_of_zero_le (show 0 ≤ z by omega)
  have hn1 : 1 ≤ n := by omega
  have hn2 : n ≤ 16 := by omega
  have hgw : w.grownBy w1 (some R) := grown_trans2 (grown_of_below R HB.out) hg1
  have hsw := hgw.size
  have hnN : newN (n : Int) = n := by unfold newN; rw [if_pos (by omega)]; simp
  have S := specNew_any (n : Int) w1
  rw [hnN] at S
  have S := Lib.hid S
  clear hk hnN hg1 HB NU hb
  go_wp2_with fail
  refine S.out.mono ?_
  rintro e w2 ⟨v2, rfl, ho2, hb2⟩
  have hs2 := hs1.below hb2 hs1.lt
  have hg2 := grown_below hgw (hb2.mono hsw)
  have ho2 := ho2.less hsw
  obtain ⟨g, c2, rfl⟩ : ∃ g c2, v2 = .slice (some ⟨g, 0, none⟩) n c2 := by
    rcases ho2.2 with ⟨_, hx⟩ | ⟨g, cap, cur, hv, _⟩
    · rw [roots_len] at hx; omega
    · rw [roots_len] at hv; exact ⟨g, cap, hv⟩
  have HO : Hid (∃ zs, zs.length = n ∧ Own w2 w.heap.size (.slice (some ⟨g, 0, none⟩) n c2) zs) := ⟨_, roots_len n, ho2⟩
  clear hs1 hgw hb2 ho2 S
  go_wp2_with fail
  go_loopw [18] (fun i wr => ∃ k : Nat, k ≤ n ∧ i = .int .i64 k ∧ Hid (∃ zs, zs.length = n ∧ Own wr w.heap.size (.slice (some ⟨g, 0, none⟩) n c2) zs) ∧ (∃ q, q ≤ p + 1 + 2 * k ∧ Src wr R q) ∧ w.grownBy wr (some R)) (fun i _ => n - (intOf i).toNat)
  case atStart => exact ⟨0, Nat.zero_le _, rfl, HO, ⟨_, by omega, hs2⟩, hg2⟩
  case round =>
    obtain ⟨k, hk, rfl, ho, ⟨q, hq, hs⟩, hg⟩ := hrel
    clear HO hs2 hg2
    by_cases hkn : k < n
    · by_cases hk0 : k = 0
      · subst hk0
        go_wp2_with fail
        go_roundw
        case rel => exact ⟨1, by omega, by go_num, ho, ⟨q, by omega, hs⟩, hg⟩
        case measure => simp [intOf]; omega
      · have P1 := Lib.hid (pick_any R q 3 wr hs (by omega))
        have hk1 : (0 : Int) < (k : Int) := by omega
        go_wp2_with fail
        refine P1.out.mono ?_
        rintro e w4 ⟨⟨x, rfl, _⟩, hs4, hg4⟩
        have hg4w := grown_trans2 hg hg4
        have ho4 : Hid (∃ zs, zs.length = n ∧ Own w4 w.heap.size (.slice (some ⟨g, 0, none⟩) n c2) zs) := by
          obtain ⟨zs, hz, ho⟩ := ho.out
          exact ⟨zs, hz, ho.row hg4 hlt⟩
        by_cases hx : (0 : Int) < (x : Int)
        · have P2 := Lib.hid (pick_any R _ (k : Int) w4 hs4 (by omega))
          clear ho hs hg hg4
          go_wp2_with fail
          refine P2.out.mono ?_
          rintro e w5 ⟨⟨y, rfl, _⟩, hs5, hg5⟩
          have hg5w := grown_trans2 hg4w hg5
          obtain ⟨zs, hz, ho5⟩ := ho4.out
          have ho5 := ho5.row hg5 hlt
          have g2 := ho5.slot hkn
          have g3 := ho5.free k
          have ho6 := ho5.set_ k (y : Int)
          have hgB := (ho5.at_base).1
          have HO6 : Hid (∃ zs, zs.length = n ∧ Own (w5.setCell ⟨g, k, none⟩ (.int .i64 (y : Int))) w.heap.size (.slice (some ⟨g, 0, none⟩) n c2) zs) := ⟨_, by rw [List.length_set]; exact hz, ho6⟩
          have hs6 := hs5.below ((Below.refl (R + 1) w5).setCell (p := ⟨g, k, none⟩) (by show R + 1 ≤ g; omega) (.int .i64 (y : Int))) (by omega)
          have hg6 := grown_below hg5w ((Below.refl w.heap.size w5).setCell (p := ⟨g, k, none⟩) hgB (.int .i64 (y : Int)))
          clear ho4 hs4 hg4w hs5 hg5 hg5w ho5 ho6 hz
          go_wp2_with fail
          go_roundw
          case rel => exact ⟨k + 1, by omega, by go_num, HO6, ⟨_, by omega, hs6⟩, hg6⟩
          case measure => simp [intOf]; omega
        · go_wp2_with fail
          go_roundw
          case rel => exact ⟨k + 1, by omega, by go_num, ho4, ⟨_, by omega, hs4⟩, hg4w⟩
          case measure => simp [intOf]; omega
    · obtain rfl : k = n := by omega
      have P1 := Lib.hid (pick_any R q 2 wr hs (by omega))
      go_wp2_with fail
      refine P1.out.mono ?_
      rintro e w4 ⟨⟨x, rfl, _⟩, hs4, hg4⟩
      have hg4w := grown_trans2 hg hg4
      have ho4 : Hid (∃ zs, zs.length = k ∧ Own w4 w.heap.size (.slice (some ⟨g, 0, none⟩) k c2) zs) := by
        obtain ⟨zs, hz, ho⟩ := ho.out
        exact ⟨zs, hz, ho.row hg4 hlt⟩
      clear ho hs hg hg4
      by_cases hx : (x : Int) = 0
      · go_wp2_with fail
        go_ret
        obtain ⟨zs, hz, ho4⟩ := ho4.out
        exact ⟨_, zs, rfl, ho4, by omega, by omega, ⟨_, by omega, hs4⟩, hg4w⟩
      · have hxb : ((x : Int) == 0) = false := by simp; omega
        clear hx
        have hsz4 := hg4w.size
        have ho0 : Own (w4.alloc (.cells #[] 3)) w.heap.size (.slice (some ⟨w4.heap.size, 0, none⟩) 0 0) [] := Own.lit w4 _ [] hsz4 (by simp)
        have hg40 := grown_below hg4w ((Below.refl w.heap.size w4).alloc hsz4 (.cells #[] 3))
        have hs40 := hs4.below ((Below.refl (R + 1) w4).alloc (by omega) (.cells #[] 3)) (by omega)
        have ho40 : Hid (∃ zs, zs.length = k ∧ Own (w4.alloc (.cells #[] 3)) w.heap.size (.slice (some ⟨g, 0, none⟩) k c2) zs) := by
          obtain ⟨zs, hz, ho⟩ := ho4.out
          exact ⟨zs, hz, ho.keep ((Below.refl _ w4).alloc (Nat.le_refl _) _) (Nat.le_refl _)⟩
        have hgb : g < w4.heap.size := by
          obtain ⟨zs, hz, ho⟩ := ho4.out
          exact ho.at_base.2
        have HV : Hid (∃ ys : List Int, ys.length = 0 ∧ Own (w4.alloc (.cells #[] 3)) w.heap.size (.slice (some ⟨w4.heap.size, 0, none⟩) 0 0) ys ∧ (Value.slice (some ⟨w4.heap.size, 0, none⟩) 0 0).ownBlock ≠ some g) := ⟨[], rfl, ho0, by simp [Value.ownBlock]; omega⟩
        clear ho4 hs4 hg4w ho0
        go_wp2_with fail
        go_loopw [7, 41] (fun v i wr => ∃ j : Nat, j ≤ k ∧ i = .int .i64 j ∧ Hid (∃ ys : List Int, ys.length = j ∧ Own wr w.heap.size v ys ∧ v.ownBlock ≠ some g) ∧ Hid (∃ zs, zs.length = k ∧ Own wr w.heap.size (.slice (some ⟨g, 0, none⟩) k c2) zs) ∧ (∃ q', q' ≤ q + 1 ∧ Src wr R q') ∧ w.grownBy wr (some R)) (fun _ i _ => k - (intOf i).toNat)
        case atStart => exact ⟨0, Nat.zero_le _, rfl, HV, ho40, ⟨_, Nat.le_refl _, hs40⟩, hg40⟩
        case round =>
          obtain ⟨j, hj, rfl, hv, ho, ⟨q', hq', hs⟩, hg⟩ := hrel
          clear HV ho40 hs40 hg40
          by_cases hjk : j < k
          · obtain ⟨zs, hz, ho⟩ := ho.out
            obtain ⟨ys, hy, hv, hne⟩ := hv.out
            have g2 := ho.slot (k := k - 1 - j) (by omega)
            have hsz := hg.size
            have hgl := ho.at_base.2
            generalize zs[k - 1 - j]?.getD 0 = z at g2
            have HZ := Lib.hid hz
            have HY := Lib.hid hy
            have HN := Lib.hid hne
            have hyl : ys.length ≤ 1048576 := by omega
            have HOUT := Lib.hid ho
            clear hz hy hne ho
            go_wp2_with (at_builtin; go_must (refine wpList_push rfl (.tmp 44) (.tmp 55) rfl wr w.heap.size _ ys _ rfl rfl hv hyl hsz ?_); intro v' w' ho' hg' hbl)
            have hb' : Below w.heap.size wr w' := below_row hg' hsz (fun r e => (hv.blockOf r e).1)
            have hg2 := grown_below hg hb'
            have hs2 := hs.below (C := R + 1) (hb'.mono (by omega)) (by omega)
            have ho2 := HOUT.out.kept hg' (.inr (fun e => HN.out e.symm))
            have hne2 : v'.ownBlock ≠ some g := by
              rcases hbl with hbl | ⟨g', hbl, hle⟩
              · rw [hbl]; exact HN.out
              · rw [hbl]; intro e; injection e with e; omega
            have HV2 : Hid (∃ ys : List Int, ys.length = j + 1 ∧ Own w' w.heap.size v' ys ∧ v'.ownBlock ≠ some g) := ⟨_, by rw [List.length_append, HY.out]; rfl, ho', hne2⟩
            have HO2 : Hid (∃ zs, zs.length = k ∧ Own w' w.heap.size (.slice (some ⟨g, 0, none⟩) k c2) zs) := ⟨zs, HZ.out, ho2⟩
            clear ho' hg' hbl hb' ho2 hne2 hv hg hs
            go_wp2
            go_roundw
            case rel => exact ⟨j + 1, by omega, by go_num, HV2, HO2, ⟨_, by omega, hs2⟩, hg2⟩
            case measure => simp [intOf]; omega
          · obtain rfl : j = k := by omega
            obtain ⟨ys, hy, hv, _⟩ := hv.out
            have HY := Lib.hid hy
            clear ho hy
            go_wp2_with fail
            go_ret
            have hy := HY.out
            exact ⟨_, ys, rfl, hv, by omega, by omega, ⟨_, by omega, hs⟩, hg⟩

theorem own_some {w : World} {base n c : Nat} {A : Option Addr} {zs : List Int} (h : Own w base (.slice A n c) zs) (h1 : 1 ≤ n) : ∃ g, A = some ⟨g, 0, none⟩ := by
  rcases h.2 with ⟨hv, hx⟩ | ⟨g, cap, cur, hv, _⟩
  · simp only [Value.slice.injEq] at hv
    omega
  · simp only [Value.slice.injEq] at hv
    exact ⟨g, hv.1⟩

set_option maxRecDepth 100000 in
set_option maxHeartbeats 4000000 in
theorem l1Some_any (R p : Nat) (w : World) (h : Src w R p) (hp : p ≤ 70000) :
    Calls Try.prog 95 #[.pointer (some ⟨R, 0, none⟩)] w fun e w' => ∃ v zs, e = .returned v ∧ Own w' w.heap.size v zs ∧ zs.length ≤ 17 ∧ (∃ p', p' ≤ p + 100 ∧ Src w' R p') ∧ w.grownBy w' (some R) := by
  have hlt := h.lt
  have G := Lib.hid (l1Good_any R p w h (by omega))
  go_enter Try.func95, Try.ntmps95
  go_wp2_with fail
  refine G.out.mono ?_
  rintro e w1 ⟨v, zs, rfl, ho1, hl1, hl2, ⟨p1, hp1, hs1⟩, hg1⟩
  obtain ⟨n, hn⟩ : ∃ n, n = zs.length := ⟨_, rfl⟩
  obtain ⟨A, c, rfl, _⟩ := ho1.form
  rw [← hn] at ho1 hl1 hl2
  obtain ⟨g, rfl⟩ := own_some ho1 hl1
  have HO1 : Hid (∃ zs, zs.length = n ∧ Own w1 w.heap.size (.slice (some ⟨g, 0, none⟩) n c) zs) := ⟨zs, hn.symm, ho1⟩
  rw [← hn]
  have P1 := Lib.hid (pick_any R p1 24 w1 hs1 (by omega))
  clear ho1 hn G
  go_wp2_with fail
  refine P1.out.mono ?_
  rintro e w2 ⟨⟨x, rfl, _⟩, hs2, hg2⟩
  have hgw := grown_trans2 hg1 hg2
  have HO2 : Hid (∃ zs, zs.length = n ∧ Own w2 w.heap.size (.slice (some ⟨g, 0, none⟩) n c) zs) := by
    obtain ⟨zs, hz, ho⟩ := HO1.out
    exact ⟨zs, hz, ho.row hg2 hlt⟩
  have hgb : w.heap.size ≤ g ∧ g < w2.heap.size := by
    obtain ⟨zs, hz, ho⟩ := HO2.out
    exact ho.at_base
  have hsz2 := hgw.size
  clear HO1 hs1 hg1 hg2 P1
  by_cases h0 : x = 0
  · subst h0
    have P2 := Lib.hid (pick_any R (p1 + 1) (n : Int) w2 hs2 (by omega))
    go_wp2_with fail
    refine P2.out.mono ?_
    rintro e w3 ⟨⟨y, rfl, hy⟩, hs3, hg3⟩
    have hy := hy (by omega)
    have hg3w := grown_trans2 hgw hg3
    have HO3 : Hid (∃ zs, zs.length = n ∧ Own w3 w.heap.size (.slice (some ⟨g, 0, none⟩) n c) zs) := by
      obtain ⟨zs, hz, ho⟩ := HO2.out
      exact ⟨zs, hz, ho.row hg3 hlt⟩
    have hsz3 := hg3w.size
    have hlit : Own (w3.alloc (.cells #[.int .i64 (-1), .int .i64 16, .int .i64 0, .int .i64 ((n : Int) - 1)] 3)) w3.heap.size (.slice (some ⟨w3.heap.size, 0, none⟩) 4 4) [-1, 16, 0, (n : Int) - 1] := Own.lit w3 _ [-1, 16, 0, (n : Int) - 1] (Nat.le_refl _) (by simp)
    have hs4 := hs3.below ((Below.refl (R + 1) w3).alloc (by have := hs3.lt; omega) (.cells #[.int .i64 (-1), .int .i64 16, .int .i64 0, .int .i64 ((n : Int) - 1)] 3)) (by omega)
    have hg4 := grown_below hg3w ((Below.refl w.heap.size w3).alloc hsz3 (.cells #[.int .i64 (-1), .int .i64 16, .int .i64 0, .int .i64 ((n : Int) - 1)] 3))
    have NU := Lib.hid (num_any R _ w3.heap.size _ _ _ hs4 (by omega) hlit hs3.lt (by simp) (by simp))
    have HO4 : Hid (∃ zs, zs.length = n ∧ Own (w3.alloc (.cells #[.int .i64 (-1), .int .i64 16, .int .i64 0, .int .i64 ((n : Int) - 1)] 3)) w.heap.size (.slice (some ⟨g, 0, none⟩) n c) zs) := by
      obtain ⟨zs, hz, ho⟩ := HO3.out
      exact ⟨zs, hz, ho.keep ((Below.refl _ w3).alloc (Nat.le_refl _) _) (Nat.le_refl _)⟩
    clear hlit hs4 HO3 hg3 HO2 hs3 hg3w hs2 hgw P2
    go_wp2_with fail
    refine NU.out.mono ?_
    rintro e w5 ⟨⟨k, hk, rfl⟩, hs5, hg5⟩
    obtain ⟨zs, hz, ho⟩ := HO4.out
    have ho := ho.row hg5 hlt
    have g2 := ho.slot (k := y) (by omega)
    have g3 := ho.free y
    generalize ([-1, 16, 0, (n : Int) - 1] : List Int)[k]?.getD 0 = q
    have ho6 := ho.set_ y q
    have hg6 := grown_below (grown_trans2 hg4 hg5) ((Below.refl w.heap.size w5).setCell (p := ⟨g, y, none⟩) hgb.1 (.int .i64 q))
    have hs6 := hs5.below ((Below.refl (R + 1) w5).setCell (p := ⟨g, y, none⟩) (by show R + 1 ≤ g; omega) (.int .i64 q)) (by omega)
    have HL : Hid ((zs.set y q).length ≤ 17) := by show _ ≤ _; rw [List.length_set]; omega
    clear ho hg4 hg5 hs5 hk hz HO4
    go_wp2_with fail
    go_ret
    exact ⟨_, _, rfl, ho6, HL.out, ⟨_, by omega, hs6⟩, hg6⟩
  · by_cases h1 : x = 1
    · subst h1
      go_wp2_with fail
      go_ret
      exact ⟨_, [], rfl, Own.lit w2 _ [] hsz2 (by simp), by simp, ⟨_, by omega, hs2.below ((Below.refl (R + 1) w2).alloc (by have := hs2.lt; omega) _) (by omega)⟩, grown_below hgw ((Below.refl w.heap.size w2).alloc hsz2 _)⟩
    · by_cases h2 : x = 2
      · subst h2
        obtain ⟨zs, hz, ho⟩ := HO2.out
        have g2 := ho.slot (k := 0) (by omega)
        have g3 := ho.free 0
        have ho1 := ho.set_ 0 ((n : Int) - 1)
        have g4 := ho1.slot (k := n - 1) (by omega)
        have g5 := ho1.free (n - 1)
        have ho2 := ho1.set_ (n - 1) 0
        have hB := ((Below.refl w.heap.size w2).setCell (p := ⟨g, 0, none⟩) hgb.1 (.int .i64 ((n : Int) - 1))).setCell (p := ⟨g, n - 1, none⟩) hgb.1 (.int .i64 0)
        have hs3 := hs2.below (hB.mono (show R + 1 ≤ w.heap.size by omega)) (by omega)
        have hg3 := grown_below hgw hB
        have HL : Hid ((((zs.set 0 ((n : Int) - 1))).set (n - 1) 0).length ≤ 17) := by show _ ≤ _; rw [List.length_set, List.length_set]; omega
        have HOF := Lib.hid ho2
        have HSF := Lib.hid hs3
        have HGF := Lib.hid hg3
        clear ho ho1 ho2 hB hz HO2 hs2 hgw hs3 hg3 h0 h1
        go_wp2_with fail
        go_ret
        exact ⟨_, _, rfl, HOF.out, HL.out, ⟨_, by omega, HSF.out⟩, HGF.out⟩
      · by_cases h3 : x = 3
        · subst h3
          have HV : Hid (∃ zs, zs.length = n ∧ Own w2 w.heap.size (.slice (some ⟨g, 0, none⟩) n c) zs) := HO2
          clear h0 h1 h2 HO2
          go_wp2_with fail
          go_loopw [3] (fun v wr => ∃ (L : Nat) (A : Option Addr) (c : Nat), v = .slice A L c ∧ L ≤ 17 ∧ Hid (∃ zs, zs.length = L ∧ Own wr w.heap.size (.slice A L c) zs) ∧ Src wr R (p1 + 1) ∧ w.grownBy wr (some R)) (fun v _ => 17 - lenOf v)
          case atStart => exact ⟨n, _, _, rfl, by omega, HV, hs2, hgw⟩
          case round =>
            obtain ⟨L, A, c3, rfl, hL, ho, hs, hg⟩ := hrel
            clear HV hs2 hgw
            by_cases hlt17 : L < 17
            · obtain ⟨zs, hz, ho⟩ := ho.out
              have hsz := hg.size
              have hzl : zs.length ≤ 1048576 := by omega
              have HZ := Lib.hid hz
              clear hz
              go_wp2_with (at_builtin; go_must (refine wpList_push rfl (.tmp 42) (.tmp 43) rfl wr w.heap.size _ zs 0 rfl rfl ho hzl hsz ?_); intro v' w' ho' hg' _; obtain ⟨A4, c4, rfl, _⟩ := ho'.form)
              have hb' : Below w.heap.size wr w' := below_row hg' hsz (fun r e => (ho.blockOf r e).1)
              have hg2 := grown_below hg hb'
              have hs2 := hs.below (C := R + 1) (hb'.mono (by omega)) (by omega)
              have hLL : zs.length + 1 = L + 1 := by rw [HZ.out]
              have HO5 : Hid (∃ ys, ys.length = zs.length + 1 ∧ Own w' w.heap.size (.slice A4 (zs.length + 1) c4) ys) := ⟨zs ++ [0], by simp, by simpa using ho'⟩
              clear ho' hg' hb' hg hs ho
              go_roundw
              case rel => exact ⟨_, _, _, rfl, by omega, HO5, hs2, hg2⟩
              case measure => rw [hLL]; simp [lenOf]; omega
            · obtain ⟨zs, hz, ho⟩ := ho.out
              have HZ := Lib.hid hz
              clear hz
              go_wp2_with fail
              go_ret
              exact ⟨_, zs, rfl, ho, by have := HZ.out; omega, ⟨_, by omega, hs⟩, hg⟩
        · have b0 : ((x : Int) == 0) = false := by simp; omega
          have b1 : ((x : Int) == 1) = false := by simp; omega
          have b2 : ((x : Int) == 2) = false := by simp; omega
          have b3 : ((x : Int) == 3) = false := by simp; omega
          clear h0 h1 h2 h3
          go_wp2_with fail
          go_ret
          obtain ⟨zs, hz, ho⟩ := HO2.out
          exact ⟨_, zs, rfl, ho, by omega, ⟨_, by omega, hs2⟩, hgw⟩
end Go.Proofs.Ytfafgihfgdpclaa

namespace Go.Proofs.Ytfafgihfgdpclaa
open Go.RowKit

/-- The slice value at A, of n bytes, reads as the numbers bs; its block lies below B. -/
def Bt (w : World) (B : Nat) (A : Option Addr) (n : Nat) (bs : List Int) : Prop :=
  0 < n → ∃ b off, A = some ⟨b, off, none⟩ ∧ b < B ∧ ∀ k, k < n → w.cell? ⟨b, off + k, none⟩ = some (.int .u8 (bs[k]?.getD 0)) ∧ 0 ≤ bs[k]?.getD 0 ∧ bs[k]?.getD 0 ≤ 255
theorem Bt.below {w w' : World} {B C : Nat} {A : Option Addr} {n : Nat} {bs : List Int} (h : Bt w B A n bs) (hb : Below C w w') (hB : B ≤ C) : Bt w' B A n bs := fun hn => by
  obtain ⟨b, off, e, hlt, hc⟩ := h hn
  exact ⟨b, off, e, hlt, fun k hk => ⟨(hb.cell (p := ⟨b, off + k, none⟩) (by show b < C; omega)).trans (hc k hk).1, (hc k hk).2⟩⟩
theorem Bt.more {w : World} {B C : Nat} {A : Option Addr} {n : Nat} {bs : List Int} (h : Bt w B A n bs) (hB : B ≤ C) : Bt w C A n bs := fun hn => by
  obtain ⟨b, off, e, hlt, hc⟩ := h hn
  exact ⟨b, off, e, by omega, hc⟩
theorem Row.bt {w : World} {a : Option Addr} {len cap : Nat} {zs : List Int} (h : Row .u8 w a len cap zs) : Bt w w.heap.size a len zs ∧ len ≤ cap := by
  rcases h with ⟨rfl, rfl, rfl, rfl⟩ | ⟨x, rfl, hl, hm, hz, hc, hw⟩
  · exact ⟨fun h => absurd h (by omega), Nat.le_refl _⟩
  · refine ⟨fun hn => ?_, hl⟩
    obtain ⟨b, off, spot⟩ := x
    have h0 := hc 0 (by omega)
    have hspot : spot = none := by simpa [Addr.add] using World.cell?_spot h0
    subst hspot
    have hall : ∀ k, k < len → w.cell? ⟨b, off + k, none⟩ = some (.int .u8 (zs[k]?.getD 0)) ∧ 0 ≤ zs[k]?.getD 0 ∧ zs[k]?.getD 0 ≤ 255 := fun k hk => by
      have h1 := hc k (by omega)
      rw [add_at] at h1
      have h2 := hw (zs[k]'(by omega)) (List.getElem_mem _)
      have h3 : 0 ≤ zs[k]'(by omega) ∧ zs[k]'(by omega) ≤ 255 := by simpa [Lit.wf, IntKind.min, IntKind.max, IntKind.signed, IntKind.bits] using h2
      refine ⟨by rw [h1]; simp, ?_⟩
      simpa [show k < zs.length by omega] using h3
    exact ⟨b, off, rfl, World.block_lt_of_cell? w _ (hall 0 hn).1, hall⟩

set_option maxRecDepth 100000 in
set_option maxHeartbeats 1000000 in
theorem open_any (A : Option Addr) (n c B : Nat) (bs : List Int) (w : World) (h : Bt w B A n bs) (hB : B ≤ w.heap.size) (hc : n ≤ c) :
    Calls Try.prog 94 #[.slice A n c] w fun e w' => e = .returned (.pointer (some ⟨w.heap.size, 0, none⟩)) ∧ Src w' w.heap.size 0 ∧ Below w.heap.size w w' := by
  have HS : ∀ m, m ≤ n → m ≤ 2000 → Src (w.alloc (.cells #[.slice A m c, .int .i64 0] 196)) w.heap.size 0 := fun m hm hm2 => by
    refine ⟨A, m, c, bs, heap_alloc_new w _, hm2, fun h0 => ?_⟩
    obtain ⟨b, off, e, hlt, hcell⟩ := h (by omega)
    exact ⟨b, off, e, by omega, fun k hk => ⟨(((Below.refl B w).alloc hB _).cell (p := ⟨b, off + k, none⟩) hlt).trans (hcell k (by omega)).1, (hcell k (by omega)).2⟩⟩
  have HS := Lib.hid HS
  by_cases hn : 2000 < n
  · obtain ⟨b, off, rfl, _, _⟩ := h (by omega)
    clear h
    go_enter Try.func94, Try.ntmps94
    go_wp2
    go_ret
    exact ⟨rfl, HS.out 2000 (by omega) (by omega), (Below.refl _ _).alloc (Nat.le_refl _) _⟩
  · clear h
    go_enter Try.func94, Try.ntmps94
    go_wp2
    go_ret
    exact ⟨rfl, HS.out n (by omega) (by omega), (Below.refl _ _).alloc (Nat.le_refl _) _⟩

theorem below_of_grown {a b : World} (h : Below a.heap.size a b) {c : World} (hg : b.grownBy c (some a.heap.size)) : Below a.heap.size a c :=
  ⟨hg.os.trans h.os, hg.tape.trans h.tape, hg.output.trans h.output, Nat.le_trans h.size hg.size, fun k hk => (hg.block k (Nat.lt_of_lt_of_le hk h.size) (fun e => by injection e with e; omega)).trans (h.block k hk)⟩

end Go.Proofs.Ytfafgihfgdpclaa