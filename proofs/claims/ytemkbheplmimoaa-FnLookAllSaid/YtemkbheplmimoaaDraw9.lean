/- What the laws of looking from several items draw. Conditions: the bytes lie below, their number is at most the capacity. -/
import Derived.Test.YtemkbheplmimoaaDraw7
namespace Go.Proofs.Ytemkbheplmimoaa
open Go.RowKit

theorem made_ints {w : World} {base n : Nat} {v : Value} (h : w.ownsRow base 3 1 v n (madeCells (Value.int .i64 0).cells (n * 1)).toList) : ∃ zs : List Int, zs.length = n ∧ Own w base v zs := ⟨List.replicate n 0, by simp, Own.made h⟩

set_option maxRecDepth 100000 in
set_option maxHeartbeats 4000000 in
theorem drawLookAll_any (A : Option Addr) (n c B : Nat) (bs : List Int) (w : World) (h : Bt w B A n bs) (hB : B ≤ w.heap.size) (hc : n ≤ c) :
    Calls Try.prog 60 #[.slice A n c] w fun e w' => ∃ v zs l v2 is, e = .returned (.tuple #[v, .int .i64 l, v2]) ∧ Own w' w.heap.size v zs ∧ zs.length ≤ 17 ∧ (-1 ≤ l ∧ l ≤ 4) ∧ Own w' w.heap.size v2 is ∧ is.length ≤ 25 ∧ Below w.heap.size w w' := by
  have O := Lib.hid (open_any A n c B bs w h hB hc)
  obtain ⟨i0, hi0, hz0, hz1, hz2⟩ := info_parts Try.info_int
  clear h
  go_enter Try.func60, Try.ntmps60
  go_wp2_with fail
  refine O.out.mono ?_
  rintro e w1 ⟨rfl, hs1, hb1⟩
  have D := Lib.hid (l3Deep_any w.heap.size 0 w1 hs1 (by omega))
  have hlt := hs1.lt
  have hsz := hb1.size
  clear hs1
  go_wp2_with fail
  refine D.out.mono ?_
  rintro e w2 ⟨v, zs, rfl, ho, hl, ⟨p2, hp2, hs2⟩, hg2⟩
  obtain ⟨A2, c2, rfl, _⟩ := ho.form
  obtain ⟨m, hm⟩ : ∃ m, m = zs.length := ⟨_, rfl⟩
  have HO2 : Hid (∃ zs, zs.length = m ∧ Own w2 w1.heap.size (.slice A2 m c2) zs) := ⟨zs, hm.symm, by rw [hm]; exact ho⟩
  rw [← hm] at hl ⊢
  have hsz2 := hg2.size
  -- the empty list of items, and the list of numbers
  have hE : Own (w2.alloc (.cells #[] 3)) w2.heap.size (.slice (some ⟨w2.heap.size, 0, none⟩) 0 0) [] := Own.lit w2 _ [] (Nat.le_refl _) (by simp)
  have hblk : ∀ r, (Value.slice A2 m c2).ownBlock = some r → r < w2.heap.size := fun r e => by
    obtain ⟨zs, _, ho⟩ := HO2.out
    exact (ho.blockOf r e).2
  have hb2 := (Below.refl w2.heap.size w2).alloc (Nat.le_refl _) (.cells #[] 3)
  have hlit : Own ((w2.alloc (.cells #[] 3)).alloc (.cells #[.int .i64 3, .int .i64 1, .int .i64 6, .int .i64 0, .int .i64 10, .int .i64 24] 3)) (w2.heap.size + 1) (.slice (some ⟨w2.heap.size + 1, 0, none⟩) 6 6) [3, 1, 6, 0, 10, 24] := by
    have := Own.lit (w2.alloc (.cells #[] 3)) (w2.heap.size + 1) [3, 1, 6, 0, 10, 24] (by simp) (by simp)
    simpa using this
  have hb3 := hb2.alloc hb2.size (.cells #[.int .i64 3, .int .i64 1, .int .i64 6, .int .i64 0, .int .i64 10, .int .i64 24] 3)
  have hR2 := hs2.lt
  have NU := Lib.hid (num_any w.heap.size p2 (w2.heap.size + 1) _ _ _ (hs2.below hb3 hR2) (by omega) hlit (by omega) (by simp) (by simp))
  have HE : Hid (Own ((w2.alloc (.cells #[] 3)).alloc (.cells #[.int .i64 3, .int .i64 1, .int .i64 6, .int .i64 0, .int .i64 10, .int .i64 24] 3)) w2.heap.size (.slice (some ⟨w2.heap.size, 0, none⟩) 0 0) []) := hE.keep ((Below.refl _ _).alloc (Nat.le_refl _) _) (Nat.le_refl _)
  have HO3 : Hid (∃ zs, zs.length = m ∧ Own ((w2.alloc (.cells #[] 3)).alloc (.cells #[.int .i64 3, .int .i64 1, .int .i64 6, .int .i64 0, .int .i64 10, .int .i64 24] 3)) w1.heap.size (.slice A2 m c2) zs) := by
    obtain ⟨zs, hz, ho⟩ := HO2.out
    exact ⟨zs, hz, ho.keep hb3 (Nat.le_refl _)⟩
  have HG3 := Lib.hid (grown_trans2 hg2 (grown_of_below w.heap.size hb3))
  clear ho hm hs2 hg2 hE hb2 hlit hb3 HO2 D O
  go_wp2_with fail
  refine NU.out.mono ?_
  rintro e w3 ⟨⟨k, hk, rfl⟩, hs3, hg3⟩
  have hm3 := nums_mem (p := fun z => 0 ≤ z ∧ z ≤ 24) (zs := [3, 1, 6, 0, 10, 24]) (by
    intro z hz
    simp only [List.mem_cons, List.not_mem_nil, or_false] at hz
    omega) hk
  revert hm3
  generalize ([3, 1, 6, 0, 10, 24] : List Int)[k]?.getD 0 = q0
  intro hm3
  obtain ⟨q, rfl⟩ := Int.eq_ofNat_of_zero_le hm3.1
  have hq24 : q ≤ 24 := by omega
  have H0 : Hid ((∃ is : List Int, is.length = 0 ∧ Own w3 w2.heap.size (.slice (some ⟨w2.heap.size, 0, none⟩) 0 0) is) ∧ (∃ zs, zs.length = m ∧ Own w3 w1.heap.size (.slice A2 m c2) zs) ∧ Src w3 w.heap.size (p2 + 1 + 0) ∧ w1.grownBy w3 (some w.heap.size) ∧ w2.heap.size ≤ w3.heap.size) := by
    obtain ⟨zs, hz, ho⟩ := HO3.out
    exact ⟨⟨[], rfl, HE.out.row hg3 hR2⟩, ⟨zs, hz, ho.row hg3 hlt⟩, hs3, grown_trans2 HG3.out hg3, by have := hg3.size; simp at this; omega⟩
  clear hk hm3 hs3 hg3 HE HO3 HG3 NU
  obtain ⟨M, hM⟩ : ∃ M : Nat, M = max m 1 := ⟨_, rfl⟩
  have hmax : (if (m : Int) < 1 then (1 : Int) else (m : Int)) = (M : Int) := by split <;> omega
  by_cases hm1 : (m : Int) < 1
  all_goals
    have hMv := hmax
    simp only [hm1, if_true, if_false] at hMv
    have HM := Lib.hid hMv
    clear hmax hMv
    go_wp2
    go_loopw [7, 16] (fun v t wr => ∃ k : Nat, k ≤ q ∧ t = .int .i64 (k : Int) ∧ (∃ A c, v = .slice A k c) ∧ Hid ((∃ is : List Int, is.length = k ∧ Own wr w2.heap.size v is) ∧ (∃ zs, zs.length = m ∧ Own wr w1.heap.size (.slice A2 m c2) zs) ∧ Src wr w.heap.size (p2 + 1 + k) ∧ w1.grownBy wr (some w.heap.size) ∧ w2.heap.size ≤ wr.heap.size)) (fun _ t _ => q - (intOf t).toNat)
    case atStart => exact ⟨0, Nat.zero_le _, rfl, ⟨_, _, rfl⟩, H0.out⟩
    case round =>
      obtain ⟨k, hk, rfl, ⟨A5, c5, rfl⟩, HR⟩ := hrel
      clear H0
      by_cases hlt2 : k < q
      · have PK := Lib.hid (pick_any w.heap.size (p2 + 1 + k) (M : Int) wr HR.out.2.2.1 (by omega))
        rw [← HM.out] at PK
        go_wp2_with fail
        refine PK.out.mono ?_
        rintro e w4 ⟨⟨y, rfl, _⟩, hs4, hg4⟩
        obtain ⟨⟨is, hil, hoi⟩, ⟨zs, hz, ho⟩, _, hgw, hw2⟩ := HR.out
        have hoi := hoi.row hg4 hR2
        have ho := ho.row hg4 hlt
        have hgw4 := grown_trans2 hgw hg4
        have hsz4 : w2.heap.size ≤ w4.heap.size := Nat.le_trans hw2 hg4.size
        have hisl : is.length ≤ 1048576 := by omega
        have HF := Lib.hid (And.intro hil (And.intro hz (And.intro ho (And.intro hs4 hgw4))))
        have hoib := hoi.blockOf
        clear hil hz ho hs4 hgw4 hgw hg4 HR PK
        go_wp2_with (at_builtin; go_must (refine wpList_push rfl (.tmp 18) (.tmp 24) rfl w4 w2.heap.size _ is (y : Int) rfl rfl hoi hisl hsz4 ?_); intro v' w6 ho6 hg6 _; obtain ⟨A6, c6, rfl, _⟩ := ho6.form)
        have hb6 : Below w2.heap.size w4 w6 := below_row hg6 hsz4 (fun r e => (hoib r e).1)
        obtain ⟨hil, hz, ho, hs4, hgw4⟩ := HF.out
        have hl6 : (is ++ [(y : Int)]).length = k + 1 := by simp [hil]
        have hl7 : is.length + 1 = k + 1 := by omega
        have ho7 : Own w6 w1.heap.size (.slice A2 m c2) zs := ho.kept hg6 (by
          cases hb : (Value.slice A2 m c2).ownBlock with
          | none => exact .inl rfl
          | some r =>
            refine .inr fun e => ?_
            have h1 := hblk r hb
            have h2 := (hoib r e.symm).1
            omega)
        have HR6 : Hid ((∃ is : List Int, is.length = k + 1 ∧ Own w6 w2.heap.size (.slice A6 (k + 1) c6) is) ∧ (∃ zs, zs.length = m ∧ Own w6 w1.heap.size (.slice A2 m c2) zs) ∧ Src w6 w.heap.size (p2 + 1 + (k + 1)) ∧ w1.grownBy w6 (some w.heap.size) ∧ w2.heap.size ≤ w6.heap.size) := by
          rw [hl6] at ho6
          exact ⟨⟨_, hl6, ho6⟩, ⟨zs, hz, ho7⟩, hs4.below hb6 hR2, grown_below hgw4 (hb6.mono hsz2), Nat.le_trans hsz4 hb6.size⟩
        clear hil hz ho hs4 hgw4 ho6 hg6 hb6 hoib HF ho7 hoi
        rw [hl7]
        go_wp2
        go_roundw
        case rel => exact ⟨k + 1, by omega, by go_num, ⟨_, _, rfl⟩, HR6.out⟩
        case measure => simp [intOf]; omega
      · obtain rfl : k = q := by omega
        have P24 := Lib.hid (pick_any w.heap.size (p2 + 1 + k) 24 wr HR.out.2.2.1 (by omega))
        go_wp2_with fail
        refine P24.out.mono ?_
        rintro e w4 ⟨⟨x, rfl, _⟩, hs4, hg4⟩
        have HR4 : Hid ((∃ is : List Int, is.length = k ∧ Own w4 w2.heap.size (.slice A5 k c5) is) ∧ (∃ zs, zs.length = m ∧ Own w4 w1.heap.size (.slice A2 m c2) zs) ∧ w1.grownBy w4 (some w.heap.size) ∧ w2.heap.size ≤ w4.heap.size) := by
          obtain ⟨⟨is, hil, hoi⟩, ⟨zs, hz, ho⟩, _, hgw, hw2⟩ := HR.out
          exact ⟨⟨is, hil, hoi.row hg4 hR2⟩, ⟨zs, hz, ho.row hg4 hlt⟩, grown_trans2 hgw hg4, Nat.le_trans hw2 hg4.size⟩
        clear HR hg4 P24
        by_cases hx0 : x = 0
        · subst hx0
          have PI := Lib.hid (l1Pick_any w.heap.size (p2 + 1 + k + 1) m c2 A2 w4 hs4 (by omega) hl)
          go_wp2_with fail
          refine PI.out.mono ?_
          rintro e w5 ⟨⟨y, rfl, _⟩, ⟨p5, hp5, hs5⟩, hg5⟩
          obtain ⟨⟨is, hil, hoi⟩, ⟨zs, hz, ho⟩, hgw, hw2⟩ := HR4.out
          have hoi := hoi.row hg5 hR2
          have ho := ho.row hg5 hlt
          have hgw5 := grown_trans2 hgw hg5
          have hsz5 : w2.heap.size ≤ w5.heap.size := Nat.le_trans hw2 hg5.size
          have hisl : is.length ≤ 1048576 := by omega
          have HF := Lib.hid (And.intro hil (And.intro hz (And.intro ho (And.intro hs5 hgw5))))
          have hoib := hoi.blockOf
          clear hil hz ho hs5 hgw5 hgw hg5 HR4 PI hs4
          go_wp2_with (at_builtin; go_must (refine wpList_push rfl (.tmp 31) (.tmp 35) rfl w5 w2.heap.size _ is y rfl rfl hoi hisl hsz5 ?_); intro v' w6 ho6 hg6 _; obtain ⟨A6, c6, rfl, _⟩ := ho6.form)
          have hb6 : Below w2.heap.size w5 w6 := below_row hg6 hsz5 (fun r e => (hoib r e).1)
          obtain ⟨hil, hz, ho, hs5, hgw5⟩ := HF.out
          have hl6 : (is ++ [y]).length = is.length + 1 := by simp
          rw [hl6] at ho6
          have ho7 : Own w6 w1.heap.size (.slice A2 m c2) zs := ho.kept hg6 (by
            cases hb : (Value.slice A2 m c2).ownBlock with
            | none => exact .inl rfl
            | some r =>
              refine .inr fun e => ?_
              have h1 := hblk r hb
              have h2 := (hoib r e.symm).1
              omega)
          have LA := Lib.hid (l3Any_any w.heap.size p5 w6 (hs5.below hb6 hR2) (by omega))
          have HF2 := Lib.hid (And.intro ho6 (And.intro ho7 (And.intro hz (And.intro (grown_below hgw5 (hb6.mono hsz2)) hil))))
          clear hil hz ho hs5 hgw5 ho6 hg6 hb6 hoib HF ho7 hoi
          go_wp2_with fail
          refine LA.out.mono ?_
          rintro e w7 ⟨⟨l, rfl, hl1, hl2⟩, _, hg7⟩
          obtain ⟨ho6, ho7, hz, hgw, hil⟩ := HF2.out
          have HF3 := Lib.hid (And.intro ((ho6.row hg7 hR2).less (show w.heap.size ≤ w2.heap.size by omega)) (And.intro ((ho7.row hg7 hlt).less hsz) (And.intro hz (And.intro (below_of_grown hb1 (grown_trans2 hgw hg7)) hil))))
          clear ho6 ho7 hz hgw hil hg7 HF2 LA hb1
          go_wp2
          go_ret3
          exact ⟨_, zs, l, _, is ++ [y], rfl, HF3.out.2.1, by have := HF3.out.2.2.1; omega, ⟨hl1, hl2⟩, HF3.out.1, by have := HF3.out.2.2.2.2; simp; omega, HF3.out.2.2.2.1⟩
        · by_cases hx1 : x = 1
          · subst hx1
            have hlit : Own (w4.alloc (.cells #[.int .i64 24, .int .i64 25] 3)) w4.heap.size (.slice (some ⟨w4.heap.size, 0, none⟩) 2 2) [24, 25] := Own.lit w4 _ [24, 25] (Nat.le_refl _) (by simp)
            have hba := (Below.refl w4.heap.size w4).alloc (Nat.le_refl _) (.cells #[.int .i64 24, .int .i64 25] 3)
            have hR4 := hs4.lt
            have NU2 := Lib.hid (num_any w.heap.size (p2 + 1 + k + 1) w4.heap.size _ _ _ (hs4.below hba hR4) (by omega) hlit hR4 (by simp) (by simp))
            have HBA := Lib.hid hba
            clear hlit hba hs4 hx0
            go_wp2_with fail
            refine NU2.out.mono ?_
            rintro e w5 ⟨⟨j, hj, rfl⟩, hs5, hg5⟩
            have hm5 := nums_mem (p := fun z => 24 ≤ z ∧ z ≤ 25) (zs := [24, 25]) (by
              intro z hz
              simp only [List.mem_cons, List.not_mem_nil, or_false] at hz
              omega) hj
            revert hm5
            generalize ([24, 25] : List Int)[j]?.getD 0 = z0
            intro hm5
            obtain ⟨z, rfl⟩ := Int.eq_ofNat_of_zero_le (show 0 ≤ z0 by omega)
            obtain ⟨_, ⟨zs, hz, ho⟩, hgw, hw2⟩ := HR4.out
            have hg45 := grown_trans2 (grown_of_below w.heap.size HBA.out) hg5
            have HF := Lib.hid (And.intro hz (And.intro (ho.row hg45 hlt) (And.intro (grown_trans2 hgw hg45) hs5)))
            have hsz5 : w1.heap.size ≤ w5.heap.size := (grown_trans2 hgw hg45).size
            have hz25 : z ≤ 25 := by omega
            clear hj hz ho hgw hg45 hg5 hs5 HR4 HBA NU2
            go_wp2_with (at_make; go_must (refine wpList_make_full _ rfl _ _ 23 rfl w5.heap.size 3 i0 (.int .i64 0) 1 Try.underlying23 hi0 hz0 hz1 .i64 .i64 _ _ z rfl rfl rfl rfl (by rw [hz2]; omega) (by unfold maxLen; omega) (Nat.le_refl _) ?_); intro w6 hown hgrow)
            have hb56 : Below w5.heap.size w5 w6 := (Below.refl _ w5).grown hgrow (Nat.le_refl _) (fun k e => by cases e)
            obtain ⟨is, hil, hoi⟩ := made_ints hown
            obtain ⟨hz, ho, hgw, hs5⟩ := HF.out
            have LA := Lib.hid (l3Any_any w.heap.size _ w6 (hs5.below hb56 hs5.lt) (by omega))
            have HF2 := Lib.hid (And.intro hoi (And.intro (ho.keep hb56 (Nat.le_refl _)) (And.intro hz (And.intro (grown_trans2 hgw (grown_of_below w.heap.size hb56)) (And.intro hil hs5.lt)))))
            clear hown hgrow hb56 hil hoi hz ho hgw hs5 HF
            go_wp2_with fail
            refine LA.out.mono ?_
            rintro e w7 ⟨⟨l, rfl, hl1, hl2⟩, _, hg7⟩
            obtain ⟨hoi, ho7, hz, hgw, hil, hR5⟩ := HF2.out
            have HF3 := Lib.hid (And.intro ((hoi.row hg7 hR5).less (show w.heap.size ≤ w5.heap.size by omega)) (And.intro ((ho7.row hg7 hlt).less hsz) (And.intro hz (And.intro (below_of_grown hb1 (grown_trans2 hgw hg7)) hil))))
            clear hoi ho7 hz hgw hil hg7 HF2 LA hb1
            go_wp2
            go_ret3
            exact ⟨_, zs, l, _, is, rfl, HF3.out.2.1, by have := HF3.out.2.2.1; omega, ⟨hl1, hl2⟩, HF3.out.1, by have := HF3.out.2.2.2.2; omega, HF3.out.2.2.2.1⟩
          · have hxe0 : ((x : Int) == 0) = false := by simp; omega
            have hxe1 : ((x : Int) == 1) = false := by simp; omega
            have LA := Lib.hid (l3Any_any w.heap.size (p2 + 1 + k + 1) w4 hs4 (by omega))
            clear hx0 hx1
            go_wp2_with fail
            refine LA.out.mono ?_
            rintro e w7 ⟨⟨l, rfl, hl1, hl2⟩, _, hg7⟩
            obtain ⟨⟨is, hil, hoi⟩, ⟨zs, hz, ho⟩, hgw, hw2⟩ := HR4.out
            have HF3 := Lib.hid (And.intro ((hoi.row hg7 hR2).less (show w.heap.size ≤ w2.heap.size by omega)) (And.intro ((ho.row hg7 hlt).less hsz) (And.intro hz (And.intro (below_of_grown hb1 (grown_trans2 hgw hg7)) hil))))
            clear hoi ho hz hgw hil hg7 HR4 LA hb1 hs4
            go_wp2
            go_ret3
            exact ⟨_, zs, l, _, is, rfl, HF3.out.2.1, by have := HF3.out.2.2.1; omega, ⟨hl1, hl2⟩, HF3.out.1, by have := HF3.out.2.2.2.2; omega, HF3.out.2.2.2.1⟩
set_option maxRecDepth 100000 in
theorem drawTotalUp_any (A : Option Addr) (n c B : Nat) (bs : List Int) (w : World) (h : Bt w B A n bs) (hB : B ≤ w.heap.size) (hc : n ≤ c) :
    Calls Try.prog 63 #[.slice A n c] w fun e w' => ∃ v zs l v2 is, e = .returned (.tuple #[v, .int .i64 l, v2]) ∧ Own w' w.heap.size v zs ∧ zs.length ≤ 17 ∧ (-1 ≤ l ∧ l ≤ 4) ∧ Own w' w.heap.size v2 is ∧ is.length ≤ 25 ∧ Below w.heap.size w w' := by
  have O := Lib.hid (drawLookAll_any A n c B bs w h hB hc)
  clear h
  go_enter Try.func63, Try.ntmps63
  go_wp2_with fail
  refine O.out.mono ?_
  rintro e w1 ⟨v, zs, l, v2, is, rfl, ho, hl, h2, ho2, hl2, hb1⟩
  go_wp2_with fail
  go_ret3
  exact ⟨_, zs, l, _, is, rfl, ho, hl, h2, ho2, hl2, hb1⟩
end Go.Proofs.Ytemkbheplmimoaa
