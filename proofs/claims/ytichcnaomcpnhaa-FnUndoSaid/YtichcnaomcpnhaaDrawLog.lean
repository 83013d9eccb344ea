/- Drawn logs: the model's l4Some. Condition: none beyond the bytes read. -/
import Derived.Test.YtichcnaomcpnhaaDrawAt
namespace Go.Proofs.Ytichcnaomcpnhaa
open Go.RowKit Go.Shelf

set_option maxRecDepth 100000 in
set_option maxHeartbeats 16000000 in
theorem l4Some_any (R p : Nat) (w : World) (h : Src w R p) (hp : p ≤ 60000) :
    Calls Try.prog 40 #[.pointer (some ⟨R, 0, none⟩)] w fun e w' => ∃ v v2 xs ss, e = .returned (.agg #[v, v2]) ∧ Own w' w.heap.size v xs ∧ xs.length ≤ 16 ∧ OwnQ 68 w' w.heap.size v2 ss ∧ ss.length ≤ 17 ∧ (∃ p', p' ≤ p + 70 ∧ Src w' R p') ∧ w.grownBy w' (some R) := by
  have hlt := h.lt
  obtain ⟨W1, hW1⟩ : ∃ W1, W1 = w.alloc (.cells #[.slice none 0 0, .slice none 0 0] 26) := ⟨_, rfl⟩
  have e1 : W1.heap.size = w.heap.size + 1 := by rw [hW1]; simp
  have hZ1 : W1.heap[w.heap.size]? = some (.cells #[.slice none 0 0, .slice none 0 0] 26 (0, 0)) := by rw [hW1]; exact World.alloc_heap_new w _
  have hb1 : Below w.heap.size w W1 := by rw [hW1]; exact (Below.refl _ _).alloc (Nat.le_refl _) _
  have hlit : Own (W1.alloc (.cells #[.int .i64 6, .int .i64 8, .int .i64 5, .int .i64 16, .int .i64 3, .int .i64 1, .int .i64 10] 3)) W1.heap.size (.slice (some ⟨W1.heap.size, 0, none⟩) 7 7) [6, 8, 5, 16, 3, 1, 10] := by
    have := Own.lit W1 W1.heap.size [6, 8, 5, 16, 3, 1, 10] (by simp) (by simp)
    simpa using this
  have hb2 : Below W1.heap.size W1 (W1.alloc (.cells #[.int .i64 6, .int .i64 8, .int .i64 5, .int .i64 16, .int .i64 3, .int .i64 1, .int .i64 10] 3)) := (Below.refl _ _).alloc (Nat.le_refl _) _
  have NU0 := num_any R p W1.heap.size _ _ _ (h.below (Below.on hb1 hb2) hlt) (by omega) hlit (by omega) (by simp) (by simp)
  obtain ⟨Z, hZ⟩ : ∃ Z, Z = w.heap.size := ⟨_, rfl⟩
  rw [e1, ← hZ] at NU0
  rw [← hZ] at hZ1
  have NU := Lib.hid NU0
  have HG2 := Lib.hid (grown_of_below R (Below.on hb1 hb2))
  have HZ2 := Lib.hid ((hb2.block Z (by omega)).trans hZ1)
  have HW1 := Lib.hid (And.intro hW1 (And.intro hZ (And.intro e1 (show R < Z by omega))))
  clear h hZ1 hb1 hlit hb2 hW1 hZ e1 hlt NU0
  go_enter Try.func40, Try.ntmps40
  go_wp2_with fail
  rw [← HW1.out.1, ← HW1.out.2.1]
  refine NU.out.mono ?_
  rintro e w3 ⟨⟨k, hk, rfl⟩, hs3, hg3⟩
  have hm3 := nums_mem (p := fun z => 1 ≤ z ∧ z ≤ 16) (zs := [6, 8, 5, 16, 3, 1, 10]) (by
    intro z hz
    simp only [List.mem_cons, List.not_mem_nil, or_false] at hz
    omega) hk
  revert hm3
  generalize ([6, 8, 5, 16, 3, 1, 10] : List Int)[k]?.getD 0 = q0
  intro hm3
  obtain ⟨n, rfl⟩ := Int.eq_ofNat_of_zero_le (show 0 ≤ q0 by omega)
  have hgw3 := grown_trans2 HG2.out hg3
  have hZ3 := (hg3.block Z (Array.getElem?_eq_some_iff.1 HZ2.out).1 (fun e => by injection e with e; have := HW1.out.2.2.2; omega)).trans HZ2.out
  have SO := Lib.hid (l2Some_any R (p + 1) n w3 hs3 (by omega) (by omega))
  have H3 := Lib.hid (And.intro hgw3 (And.intro hZ3 hs3))
  clear hk hs3 hg3 hgw3 hZ3 NU
  go_wp2_with fail
  refine SO.out.mono ?_
  rintro e w4 ⟨v, ps, rfl, hq, hpl, ⟨p2, hp2, hs4⟩, hg4⟩
  obtain ⟨A4, c4, rfl, hr4⟩ := hq.form
  have hgw4 := grown_trans2 H3.out.1 hg4
  have hZ4 := (hg4.block Z (Array.getElem?_eq_some_iff.1 H3.out.2.1).1 (fun e => by injection e with e; have := HW1.out.2.2.2; omega)).trans H3.out.2.1
  have LO := Lib.hid (log2_of' (specLogOf_any (n : Int) A4 ps.length c4 w4.heap.size ps w4 hr4 (Nat.le_refl _) (by omega)))
  have LO' := Lib.hid (specLogOf_any (n : Int) A4 ps.length c4 w4.heap.size ps w4 hr4 (Nat.le_refl _) (by omega))
  have H4 := Lib.hid (And.intro hgw4 (And.intro hZ4 (And.intro hs4 hp2)))
  have HM := Lib.hid (show 1 ≤ n ∧ n ≤ 16 by omega)
  generalize ps.length = pl at LO' ⊢
  clear hq hpl hs4 hg4 hr4 hgw4 hZ4 hp2 SO LO hm3
  go_wp2_with fail
  refine LO'.out.mono ?_
  rintro e w5 ⟨v1, v2, rfl, ho5, hq5, hb5⟩
  obtain ⟨A5, c5, e5, -⟩ := ho5.form
  obtain ⟨A6, c6, e6, -⟩ := hq5.form
  have hsh := lg_short (n := (n : Int)) (qs := ps)
  obtain ⟨V5, hV5⟩ : ∃ V5, V5 = w5.alloc (.cells #[v1, v2] 26) := ⟨_, rfl⟩
  obtain ⟨X, hX⟩ : ∃ X, X = w5.heap.size := ⟨_, rfl⟩
  have hbV5 : Below w5.heap.size w5 V5 := by rw [hV5]; exact log_box w5 _ _
  have hX5 : V5.heap[X]? = some (.cells #[v1, v2] 26 (0, 0)) := by rw [hV5, hX]; exact World.alloc_heap_new w5 _
  have hb45 := Below.on hb5 hbV5
  have hZl := (Array.getElem?_eq_some_iff.1 H4.out.2.1).1
  have hZ5 := (hb45.block Z hZl).trans H4.out.2.1
  have hs5 := H4.out.2.2.1.below hb45 H4.out.2.2.1.lt
  have hg5 := grown_trans2 H4.out.1 (grown_of_below R hb45)
  have hsz5 := hb5.size
  have ho5' := ho5.keep hbV5 (Nat.le_refl _)
  have hq5' := hq5.keep hbV5 (Nat.le_refl _)
  have hox : ∀ x, v1.ownBlock = some x → x ≠ X := fun x hx => by have := (ho5.blockOf x hx).2; omega
  have hqx : ∀ x, v2.ownBlock = some x → x ≠ X := fun x hx => by have := (hq5.blockOf x hx).2; omega
  have hZX : Z < X := by omega
  have hnx : (logUp (n : Int) ps).length ≤ 16 := by
    cases hlb : logB (n : Int) ps with
    | true => have := (lg_valid hlb).2; rw [Int.toNat_natCast] at this; have := HM.out; omega
    | false => rw [(lg_no hlb).1]; simp
  have hlt : logB (n : Int) ps = true → 1 ≤ (logUp (n : Int) ps).length := fun hlb => by
    have := (lg_valid hlb).2; rw [Int.toNat_natCast] at this; have := HM.out; omega
  have hlf : logB (n : Int) ps = false → (logUp (n : Int) ps).length = 0 := fun hlb => by rw [(lg_no hlb).1]; rfl
  have hL5 : LogAtX w V5 R X Z v1 v2 (logUp (n : Int) ps) (logSteps (n : Int) ps) p2 :=
    ⟨hg5, hs5, hX5, ho5'.less (by omega), hq5'.less (by omega), hox, hqx, hZ5, hZX, HW1.out.2.2.2, HW1.out.2.1.symm⟩
  have HPP := Lib.hid H4.out.2.2.2
  revert hlt hlf hL5 e5 e6 hnx hsh
  generalize logUp (n : Int) ps = xs5
  generalize logSteps (n : Int) ps = ss5
  generalize logB (n : Int) ps = lb
  intro e5 e6 hsh hnx hlt hlf hL5
  obtain ⟨x5, hx5⟩ : ∃ x5, x5 = xs5.length := ⟨_, rfl⟩
  obtain ⟨s5, hs5'⟩ : ∃ s5, s5 = ss5.length := ⟨_, rfl⟩
  rw [← hx5] at e5 hlt hlf hnx
  rw [← hs5'] at e6 hsh
  subst e5 e6
  have HE5 := Lib.hid (And.intro hV5 hX)
  have HL5 := Lib.hid hL5
  have HN5 := Lib.hid (And.intro hx5 (And.intro hs5' (And.intro hsh.1 (And.intro hnx HM.out))))
  obtain ⟨⟨x1, x2⟩, x3, x4⟩ := boxTwo_cells hL5.box
  rw [hV5, hX] at x1 x2 x3 x4
  clear hV5 hX hbV5 hX5 hb45 hZl hZ5 hs5 hg5 hsz5 ho5 hq5 ho5' hq5' hox hqx hZX hb5 hsh LO' hL5 hx5 hs5' hnx H3 H4 HG2 HZ2
  cases lb with
  | true =>
    have hx1 : 1 ≤ x5 := hlt rfl
    have hne : ((x5 : Int) == 0) = false := by simp; omega
    have HX := Lib.hid (show 1 ≤ x5 ∧ x5 ≤ 16 ∧ x5 = xs5.length ∧ s5 = ss5.length ∧ s5 ≤ 16 from ⟨hx1, HN5.out.2.2.2.1, HN5.out.1, HN5.out.2.1, HN5.out.2.2.1⟩)
    have HE := HE5
    clear hlt hlf hx1 HE5 HN5
    go_wp2_with fail
    rw [← HE.out.1, ← HE.out.2]
    clear x1 x2 x3 x4 HE hne
    have P24 := Lib.hid (pick_at HL5.out (by have := HPP.out; omega) 24)
    refine P24.out.mono ?_
    rintro e w7 ⟨⟨x, rfl, _⟩, hL7, _⟩
    obtain ⟨⟨x1, x2⟩, x3, x4⟩ := boxTwo_cells hL7.box
    have HL7 := Lib.hid hL7
    clear P24 HL5
    by_cases hx0 : x = 0
    · subst hx0
      have hd := hL7.drew
      obtain ⟨g, rfl⟩ := own_head hL7.own HX.out.1
      have hrz1 : R < Z + 1 := by have := HW1.out.2.2.2; omega
      have hlitB : Own (w7.alloc (.cells #[.int .i64 0, .int .i64 (-1), .int .i64 16] 3)).drew (Z + 1) (.slice (some ⟨w7.heap.size, 0, none⟩) 3 3) [0, -1, 16] := own_lit3 0 (-1) 16 hL7.big
      have PN := Lib.hid (fun W' (h' : LogAtX w W' R X Z (.slice (some ⟨g, 0, none⟩) x5 c5) (.slice A6 s5 c6) xs5 ss5 (p2 + 1)) => pick_at h' (by have := HPP.out; omega) (x5 : Int))
      have NN := Lib.hid (fun W' b (h' : LogAtX w W' R X Z (.slice (some ⟨g, 0, none⟩) x5 c5) (.slice A6 s5 c6) xs5 ss5 (p2 + 1 + 1)) (ho : Own W' (Z + 1) (.slice (some ⟨b, 0, none⟩) 3 3) [0, -1, 16]) => num_at h' (by have := HPP.out; omega) ho (by simp) (by simp))
      have hx5 : 1 ≤ (x5 : Int) := by have := HX.out.1; omega
      clear hL7
      go_wp2_with fail
      go_region_held3 (fun w' => w'.cell? ⟨X, 0, none⟩ = some (.slice (some ⟨g, 0, none⟩) x5 c5))
        (first | exact LogAtX.c0 (by assumption) | exact LogAtX.c0 (LogAtX.alloc (by assumption) _) | exact LogAtX.c0 (LogAtX.set0 (by assumption) _ _))
        (first | (go_at_call 79; refine (PN.out _ (by first | assumption | exact LogAtX.alloc (by assumption) _)).mono ?_; rintro e w8 ⟨⟨j, rfl, hj⟩, hL8, hg8⟩; have hj := hj hx5; have hj0 : (0 : Int) ≤ (j : Int) := by omega) | (go_at_call 75; refine (NN.out _ _ (by first | assumption | exact LogAtX.alloc (by assumption) _) (by first | exact own_lit3 _ _ _ (LogAtX.big (by assumption)) | exact Own.row hlitB (by assumption) hrz1)).mono ?_; rintro e w9 ⟨⟨i, _, rfl⟩, hL9, _⟩; have cj := hL9.own.slot (show j < x5 by omega); have fj := hL9.own.free j; generalize ([0, -1, 16] : List Int)[i]?.getD 0 = zz))
      all_goals
        have hL10 := hL9.set0 j zz
        obtain ⟨W10, hW10⟩ : ∃ W10, W10 = w9.setCell ⟨g, j, none⟩ (.int .i64 zz) := ⟨_, rfl⟩
        rw [← hW10] at hL10 ⊢
        obtain ⟨⟨y1, y2⟩, y3, y4⟩ := boxTwo_cells hL10.box
        obtain ⟨⟨z1, z2⟩, z3, z4⟩ := boxTwo_cells hL10.res
        have HL9 := Lib.hid hL10
        clear hL10 hL9 hW10 cj fj hL8 hg8 hlitB hrz1 hd hx5 hj hj0 PN NN x1 x2 x3 x4
        go_wp2
        obtain ⟨hown, hownq, hsrc, hgrw, hbx⟩ := HL9.out.ret
        obtain ⟨⟨k1, k2⟩, _⟩ := boxTwo_cells hbx
        refine bodyPost_ret (v := .agg #[.slice (some ⟨g, 0, none⟩) x5 c5, .slice A6 s5 c6]) (by simp [results, Try.results40, go_sem, k1, k2]) rfl ?_
        rw [← HW1.out.2.1]
        exact ⟨_, _, _, _, rfl, hown, by have := HX.out; rw [List.length_set]; omega, hownq, by have := HX.out; omega, ⟨_, by have := HPP.out; omega, hsrc⟩, hgrw⟩
    · by_cases hx1 : x = 1
      · subst hx1
        have hd := hL7.drew
        have hrz1 : R < Z + 1 := by have := HW1.out.2.2.2; omega
        have hlitB : Own (w7.alloc (.cells #[.int .i64 0, .int .i64 (-1), .int .i64 1] 3)).drew (Z + 1) (.slice (some ⟨w7.heap.size, 0, none⟩) 3 3) [0, -1, 1] := own_lit3 0 (-1) 1 hL7.big
        have PN := Lib.hid (fun W' (h' : LogAtX w W' R X Z (.slice A5 x5 c5) (.slice A6 s5 c6) xs5 ss5 (p2 + 1)) => pick_at h' (by have := HPP.out; omega) (n : Int))
        have NN := Lib.hid (fun W' b (h' : LogAtX w W' R X Z (.slice A5 x5 c5) (.slice A6 s5 c6) xs5 ss5 (p2 + 1 + 1)) (ho : Own W' (Z + 1) (.slice (some ⟨b, 0, none⟩) 3 3) [0, -1, 1]) => num_at h' (by have := HPP.out; omega) ho (by simp) (by simp))
        have c7a := fun o => (hL7.alloc o).c1
        have c7d := fun o => (hL7.alloc o).drew.c1
        have hs16 : ss5.length ≤ 1048576 := by have := HX.out; omega
        clear hL7
        go_wp2_with fail
        go_region_law (first | (refine step_pushSt rfl (.tmp 44) (.tmp 52) rfl w9 _ (Z + 1) _ ss5 _ _ rfl rfl rfl hL9.ownq hs16 hL9.big ?_; intro v' w10 hq10 hg10 hv10; obtain ⟨A9, c9', e9, -⟩ := hq10.form; generalize hln : (ss5 ++ [((j : Int), zz)]).length = s9 at e9; subst e9; have hbx := hL9.pushedBox hg10; have c10 := (boxTwo_cells hbx.1).1.2; have d10 := (boxTwo_cells hbx.1).2.2) | (go_simp; first | (go_at_call 79; refine (PN.out _ (by first | assumption | exact LogAtX.alloc (by assumption) _)).mono ?_; rintro e w8 ⟨⟨j, rfl, hj⟩, hL8, hg8⟩; have c8 := hL8.c1; have c8a := fun o => (hL8.alloc o).c1) | (go_at_call 75; refine (NN.out _ _ (by first | assumption | exact LogAtX.alloc (by assumption) _) (by first | exact own_lit3 _ _ _ (LogAtX.big (by assumption)) | exact Own.row hlitB (by assumption) hrz1)).mono ?_; rintro e w9 ⟨⟨i, _, rfl⟩, hL9, _⟩; have c9 := hL9.c1; have c9a := fun o => (hL9.alloc o).c1; generalize ([0, -1, 1] : List Int)[i]?.getD 0 = zz)))
        all_goals
          have hL10 := hL9.pushed hq10 hg10 hv10
          obtain ⟨W10, hW10⟩ : ∃ W10, W10 = w10.setCell ⟨X, 1, none⟩ (.slice A9 s9 c9') := ⟨_, rfl⟩
          rw [← hW10] at hL10 ⊢
          obtain ⟨⟨y1, y2⟩, y3, y4⟩ := boxTwo_cells hL10.box
          obtain ⟨⟨z1, z2⟩, z3, z4⟩ := boxTwo_cells hL10.res
          have HL9 := Lib.hid hL10
          have hs9 : (ss5 ++ [((j : Int), zz)]).length ≤ 17 := by rw [List.length_append, List.length_singleton]; have := HX.out; omega
          have HS9 := Lib.hid hs9
          clear hL10 hL9 hW10 hL8 hg8 hlitB hrz1 hd hj PN NN x1 x2 x3 x4 c8 c9 c10 d10 c8a c9a c7a c7d hbx hq10 hg10 hv10 hs16 hln hs9
          go_wp2
          obtain ⟨hown, hownq, hsrc, hgrw, hbx⟩ := HL9.out.ret
          obtain ⟨⟨k1, k2⟩, _⟩ := boxTwo_cells hbx
          refine bodyPost_ret (v := .agg #[.slice A5 x5 c5, .slice A9 s9 c9']) (by simp [results, Try.results40, go_sem, k1, k2]) rfl ?_
          rw [← HW1.out.2.1]
          exact ⟨_, _, _, _, rfl, hown, by have := HX.out; omega, hownq, HS9.out, ⟨_, by have := HPP.out; omega, hsrc⟩, hgrw⟩
      · by_cases hx2 : x = 2
        · subst hx2
          have hL8 := hL7.alloc (.cells #[] 3)
          obtain ⟨⟨y1, y2⟩, y3, y4⟩ := boxTwo_cells hL8.box
          obtain ⟨⟨z1, z2⟩, z3, z4⟩ := boxTwo_cells hL8.res
          have hne : ∀ y, (Value.slice (some ⟨w7.heap.size, 0, none⟩) 0 0).ownBlock = some y → y ≠ X := fun y hy e => by
            have hy' : w7.heap.size = y := by injection hy
            have := hL7.xlt
            omega
          have HL9 := Lib.hid (LogAtX.box0 (hL7.alloc (.cells #[] 3)) (own_empty hL7.big) hne)
          have hzx : Z ≠ X := fun e => by have := hL7.zx; omega
          have hxz : X ≠ Z := fun e => by have := hL7.zx; omega
          clear hL7 hL8 hne x1 x2 x3 x4
          go_wp2
          obtain ⟨hown, hownq, hsrc, hgrw, hbx⟩ := HL9.out.ret
          obtain ⟨⟨k1, k2⟩, _⟩ := boxTwo_cells hbx
          refine bodyPost_ret (v := .agg #[.slice (some ⟨w7.heap.size, 0, none⟩) 0 0, .slice A6 s5 c6]) (by simp [results, Try.results40, go_sem, k1, k2]) rfl ?_
          rw [← HW1.out.2.1]
          exact ⟨_, _, _, _, rfl, hown, by simp, hownq, by have := HX.out; omega, ⟨_, by have := HPP.out; omega, hsrc⟩, hgrw⟩
        · have b0 : ((x : Int) == 0) = false := by simp; omega
          have b1 : ((x : Int) == 1) = false := by simp; omega
          have b2 : ((x : Int) == 2) = false := by simp; omega
          obtain ⟨⟨z1, z2⟩, z3, z4⟩ := boxTwo_cells hL7.res
          have HL9 := HL7
          clear hx0 hx1 hx2 hL7
          go_wp2
          obtain ⟨hown, hownq, hsrc, hgrw, hbx⟩ := HL9.out.ret
          obtain ⟨⟨k1, k2⟩, _⟩ := boxTwo_cells hbx
          refine bodyPost_ret (v := .agg #[.slice A5 x5 c5, .slice A6 s5 c6]) (by simp [results, Try.results40, go_sem, k1, k2]) rfl ?_
          rw [← HW1.out.2.1]
          exact ⟨_, _, _, _, rfl, hown, by have := HX.out; omega, hownq, by have := HX.out; omega, ⟨_, by have := HPP.out; omega, hsrc⟩, hgrw⟩
  | false =>
    have hx1 : x5 = 0 := hlf rfl
    subst hx1
    have NL := Lib.hid (specNewLog_any (n : Int) V5)
    have HE := HE5
    clear hlt hlf HE5
    go_wp2_with fail
    rw [← HE.out.1, ← HE.out.2]
    clear x1 x2 x3 x4 HE
    refine NL.out.mono ?_
    rintro e w6 ⟨v6, v7, rfl, ho6, hq6, _, hb6⟩
    have hL6 := HL5.out.below hb6
    have hb5 := HL5.out.big
    have hX5 := HL5.out.xlt
    have hnn : newN (n : Int) = n := by
      unfold newN
      have := HM.out
      rw [if_pos (by omega)]
      omega
    rw [hnn] at ho6
    obtain ⟨A5, c5, e5, -⟩ := ho6.form
    obtain ⟨A6, c6, e6, -⟩ := hq6.form
    have ho6' : Own w6 (Z + 1) v6 (roots n) := ho6.less (by omega)
    have hx6 : ∀ x, v6.ownBlock = some x → x ≠ X := fun x hx => by have := (ho6.blockOf x hx).1; omega
    have hx7 : ∀ x, v7.ownBlock = some x → x ≠ X := fun x hx => by have := (hq6.blockOf x hx).1; omega
    have hL7 := hL6.box0 ho6' hx6
    have hg6 : w6.grownBy (w6.setCell ⟨X, 0, none⟩ v6) (some X) := grown_set (World.grownBy.refl _ _) _
    have hL8 := hL7.box1 ((hq6.less (show Z + 1 ≤ V5.heap.size by omega)).kept hg6 (by
      cases hb : v7.ownBlock with
      | none => exact .inl rfl
      | some y => exact .inr (fun e => by injection e with e; exact hx7 y hb e))) hx7
    have hrl : n = (roots n).length := (roots_len n).symm
    rw [← hrl] at e5
    have e6 : v7 = .slice A6 0 c6 := e6
    obtain ⟨⟨x1, x2⟩, x3, x4⟩ := boxTwo_cells hL6.box
    have HX := Lib.hid (show 1 ≤ n ∧ n ≤ 16 ∧ n = (roots n).length ∧ 0 = ([] : List (Int × Int)).length ∧ 0 ≤ 16 from ⟨HM.out.1, HM.out.2, hrl, rfl, by omega⟩)
    subst e5 e6
    have HL8 := Lib.hid hL8
    clear HL5 NL HN5 hL6 hb5 hX5 hnn ho6 hq6 ho6' hx6 hx7 hL7 hg6 hL8 hrl hb6
    go_wp2_with fail
    clear x1 x2 x3 x4
    obtain ⟨V6, hV6⟩ : ∃ V6, V6 = (w6.setCell ⟨X, 0, none⟩ (.slice A5 n c5)).setCell ⟨X, 1, none⟩ (.slice A6 0 c6) := ⟨_, rfl⟩
    rw [← hV6] at HL8 ⊢
    clear hV6
    have HL5 := HL8
    clear HL8
    have P24 := Lib.hid (pick_at HL5.out (by have := HPP.out; omega) 24)
    refine P24.out.mono ?_
    rintro e w7 ⟨⟨x, rfl, _⟩, hL7, _⟩
    obtain ⟨⟨x1, x2⟩, x3, x4⟩ := boxTwo_cells hL7.box
    have HL7 := Lib.hid hL7
    clear P24 HL5
    by_cases hx0 : x = 0
    · subst hx0
      have hd := hL7.drew
      obtain ⟨g, rfl⟩ := own_head hL7.own HX.out.1
      have hrz1 : R < Z + 1 := by have := HW1.out.2.2.2; omega
      have hlitB : Own (w7.alloc (.cells #[.int .i64 0, .int .i64 (-1), .int .i64 16] 3)).drew (Z + 1) (.slice (some ⟨w7.heap.size, 0, none⟩) 3 3) [0, -1, 16] := own_lit3 0 (-1) 16 hL7.big
      have PN := Lib.hid (fun W' (h' : LogAtX w W' R X Z (.slice (some ⟨g, 0, none⟩) n c5) (.slice A6 0 c6) (roots n) ([] : List (Int × Int)) (p2 + 1)) => pick_at h' (by have := HPP.out; omega) (n : Int))
      have NN := Lib.hid (fun W' b (h' : LogAtX w W' R X Z (.slice (some ⟨g, 0, none⟩) n c5) (.slice A6 0 c6) (roots n) ([] : List (Int × Int)) (p2 + 1 + 1)) (ho : Own W' (Z + 1) (.slice (some ⟨b, 0, none⟩) 3 3) [0, -1, 16]) => num_at h' (by have := HPP.out; omega) ho (by simp) (by simp))
      have hn : 1 ≤ (n : Int) := by have := HX.out.1; omega
      clear hL7
      go_wp2_with fail
      go_region_held3 (fun w' => w'.cell? ⟨X, 0, none⟩ = some (.slice (some ⟨g, 0, none⟩) n c5))
        (first | exact LogAtX.c0 (by assumption) | exact LogAtX.c0 (LogAtX.alloc (by assumption) _) | exact LogAtX.c0 (LogAtX.set0 (by assumption) _ _))
        (first | (go_at_call 79; refine (PN.out _ (by first | assumption | exact LogAtX.alloc (by assumption) _)).mono ?_; rintro e w8 ⟨⟨j, rfl, hj⟩, hL8, hg8⟩; have hj := hj hn; have hj0 : (0 : Int) ≤ (j : Int) := by omega) | (go_at_call 75; refine (NN.out _ _ (by first | assumption | exact LogAtX.alloc (by assumption) _) (by first | exact own_lit3 _ _ _ (LogAtX.big (by assumption)) | exact Own.row hlitB (by assumption) hrz1)).mono ?_; rintro e w9 ⟨⟨i, _, rfl⟩, hL9, _⟩; have cj := hL9.own.slot (show j < n by omega); have fj := hL9.own.free j; generalize ([0, -1, 16] : List Int)[i]?.getD 0 = zz))
      all_goals
        have hL10 := hL9.set0 j zz
        obtain ⟨W10, hW10⟩ : ∃ W10, W10 = w9.setCell ⟨g, j, none⟩ (.int .i64 zz) := ⟨_, rfl⟩
        rw [← hW10] at hL10 ⊢
        obtain ⟨⟨y1, y2⟩, y3, y4⟩ := boxTwo_cells hL10.box
        obtain ⟨⟨z1, z2⟩, z3, z4⟩ := boxTwo_cells hL10.res
        have HL9 := Lib.hid hL10
        clear hL10 hL9 hW10 cj fj hL8 hg8 hlitB hrz1 hd hn hj hj0 PN NN x1 x2 x3 x4
        go_wp2
        obtain ⟨hown, hownq, hsrc, hgrw, hbx⟩ := HL9.out.ret
        obtain ⟨⟨k1, k2⟩, _⟩ := boxTwo_cells hbx
        refine bodyPost_ret (v := .agg #[.slice (some ⟨g, 0, none⟩) n c5, .slice A6 0 c6]) (by simp [results, Try.results40, go_sem, k1, k2]) rfl ?_
        rw [← HW1.out.2.1]
        exact ⟨_, _, _, _, rfl, hown, by have := HX.out; rw [List.length_set]; omega, hownq, by have := HX.out; omega, ⟨_, by have := HPP.out; omega, hsrc⟩, hgrw⟩
    · by_cases hx1 : x = 1
      · subst hx1
        have hd := hL7.drew
        have hrz1 : R < Z + 1 := by have := HW1.out.2.2.2; omega
        have hlitB : Own (w7.alloc (.cells #[.int .i64 0, .int .i64 (-1), .int .i64 1] 3)).drew (Z + 1) (.slice (some ⟨w7.heap.size, 0, none⟩) 3 3) [0, -1, 1] := own_lit3 0 (-1) 1 hL7.big
        have PN := Lib.hid (fun W' (h' : LogAtX w W' R X Z (.slice A5 n c5) (.slice A6 0 c6) (roots n) ([] : List (Int × Int)) (p2 + 1)) => pick_at h' (by have := HPP.out; omega) (n : Int))
        have NN := Lib.hid (fun W' b (h' : LogAtX w W' R X Z (.slice A5 n c5) (.slice A6 0 c6) (roots n) ([] : List (Int × Int)) (p2 + 1 + 1)) (ho : Own W' (Z + 1) (.slice (some ⟨b, 0, none⟩) 3 3) [0, -1, 1]) => num_at h' (by have := HPP.out; omega) ho (by simp) (by simp))
        have c7a := fun o => (hL7.alloc o).c1
        have c7d := fun o => (hL7.alloc o).drew.c1
        have hs16 : ([] : List (Int × Int)).length ≤ 1048576 := by have := HX.out; omega
        clear hL7
        go_wp2_with fail
        go_region_law (first | (refine step_pushSt rfl (.tmp 44) (.tmp 52) rfl w9 _ (Z + 1) _ ([] : List (Int × Int)) _ _ rfl rfl rfl hL9.ownq hs16 hL9.big ?_; intro v' w10 hq10 hg10 hv10; obtain ⟨A9, c9', e9, -⟩ := hq10.form; generalize hln : (([] : List (Int × Int)) ++ [((j : Int), zz)]).length = s9 at e9; subst e9; have hbx := hL9.pushedBox hg10; have c10 := (boxTwo_cells hbx.1).1.2; have d10 := (boxTwo_cells hbx.1).2.2) | (go_simp; first | (go_at_call 79; refine (PN.out _ (by first | assumption | exact LogAtX.alloc (by assumption) _)).mono ?_; rintro e w8 ⟨⟨j, rfl, hj⟩, hL8, hg8⟩; have c8 := hL8.c1; have c8a := fun o => (hL8.alloc o).c1) | (go_at_call 75; refine (NN.out _ _ (by first | assumption | exact LogAtX.alloc (by assumption) _) (by first | exact own_lit3 _ _ _ (LogAtX.big (by assumption)) | exact Own.row hlitB (by assumption) hrz1)).mono ?_; rintro e w9 ⟨⟨i, _, rfl⟩, hL9, _⟩; have c9 := hL9.c1; have c9a := fun o => (hL9.alloc o).c1; generalize ([0, -1, 1] : List Int)[i]?.getD 0 = zz)))
        all_goals
          have hL10 := hL9.pushed hq10 hg10 hv10
          obtain ⟨W10, hW10⟩ : ∃ W10, W10 = w10.setCell ⟨X, 1, none⟩ (.slice A9 s9 c9') := ⟨_, rfl⟩
          rw [← hW10] at hL10 ⊢
          obtain ⟨⟨y1, y2⟩, y3, y4⟩ := boxTwo_cells hL10.box
          obtain ⟨⟨z1, z2⟩, z3, z4⟩ := boxTwo_cells hL10.res
          have HL9 := Lib.hid hL10
          have hs9 : (([] : List (Int × Int)) ++ [((j : Int), zz)]).length ≤ 17 := by rw [List.length_append, List.length_singleton]; have := HX.out; omega
          have HS9 := Lib.hid hs9
          clear hL10 hL9 hW10 hL8 hg8 hlitB hrz1 hd hj PN NN x1 x2 x3 x4 c8 c9 c10 d10 c8a c9a c7a c7d hbx hq10 hg10 hv10 hs16 hln hs9
          go_wp2
          obtain ⟨hown, hownq, hsrc, hgrw, hbx⟩ := HL9.out.ret
          obtain ⟨⟨k1, k2⟩, _⟩ := boxTwo_cells hbx
          refine bodyPost_ret (v := .agg #[.slice A5 n c5, .slice A9 s9 c9']) (by simp [results, Try.results40, go_sem, k1, k2]) rfl ?_
          rw [← HW1.out.2.1]
          exact ⟨_, _, _, _, rfl, hown, by have := HX.out; omega, hownq, HS9.out, ⟨_, by have := HPP.out; omega, hsrc⟩, hgrw⟩
      · by_cases hx2 : x = 2
        · subst hx2
          have hL8 := hL7.alloc (.cells #[] 3)
          obtain ⟨⟨y1, y2⟩, y3, y4⟩ := boxTwo_cells hL8.box
          obtain ⟨⟨z1, z2⟩, z3, z4⟩ := boxTwo_cells hL8.res
          have hne : ∀ y, (Value.slice (some ⟨w7.heap.size, 0, none⟩) 0 0).ownBlock = some y → y ≠ X := fun y hy e => by
            have hy' : w7.heap.size = y := by injection hy
            have := hL7.xlt
            omega
          have HL9 := Lib.hid (LogAtX.box0 (hL7.alloc (.cells #[] 3)) (own_empty hL7.big) hne)
          have hzx : Z ≠ X := fun e => by have := hL7.zx; omega
          have hxz : X ≠ Z := fun e => by have := hL7.zx; omega
          clear hL7 hL8 hne x1 x2 x3 x4
          go_wp2
          obtain ⟨hown, hownq, hsrc, hgrw, hbx⟩ := HL9.out.ret
          obtain ⟨⟨k1, k2⟩, _⟩ := boxTwo_cells hbx
          refine bodyPost_ret (v := .agg #[.slice (some ⟨w7.heap.size, 0, none⟩) 0 0, .slice A6 0 c6]) (by simp [results, Try.results40, go_sem, k1, k2]) rfl ?_
          rw [← HW1.out.2.1]
          exact ⟨_, _, _, _, rfl, hown, by simp, hownq, by have := HX.out; omega, ⟨_, by have := HPP.out; omega, hsrc⟩, hgrw⟩
        · have b0 : ((x : Int) == 0) = false := by simp; omega
          have b1 : ((x : Int) == 1) = false := by simp; omega
          have b2 : ((x : Int) == 2) = false := by simp; omega
          obtain ⟨⟨z1, z2⟩, z3, z4⟩ := boxTwo_cells hL7.res
          have HL9 := HL7
          clear hx0 hx1 hx2 hL7
          go_wp2
          obtain ⟨hown, hownq, hsrc, hgrw, hbx⟩ := HL9.out.ret
          obtain ⟨⟨k1, k2⟩, _⟩ := boxTwo_cells hbx
          refine bodyPost_ret (v := .agg #[.slice A5 n c5, .slice A6 0 c6]) (by simp [results, Try.results40, go_sem, k1, k2]) rfl ?_
          rw [← HW1.out.2.1]
          exact ⟨_, _, _, _, rfl, hown, by have := HX.out; omega, hownq, by have := HX.out; omega, ⟨_, by have := HPP.out; omega, hsrc⟩, hgrw⟩
end Go.Proofs.Ytichcnaomcpnhaa
