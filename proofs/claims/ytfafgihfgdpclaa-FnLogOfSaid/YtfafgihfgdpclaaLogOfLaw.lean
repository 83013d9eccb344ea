/- What FnLogOf needs: joined at a useful pair; its draws; eight cells held. Condition: none. -/
import Derived.Test.YtfafgihfgdpclaaLogParts
import Derived.Test.YtfafgihfgdpclaaLogOf
import Derived.Test.YtfafgihfgdpclaaSpecLogOf
import Derived.Test.YtfafgihfgdpclaaDraw11
import Derived.Test.YtfafgihfgdpclaaJoinedAt
import Derived.Test.YtfafgihfgdpclaaLogV
import Derived.Test.YtfafgihfgdpclaaJoinAll
import Derived.Test.YtfafgihfgdpclaaRowsAll
namespace Go.Proofs.Ytfafgihfgdpclaa
open Go.RowKit Go.Shelf

theorem lg_at {n : Int} {qs : List (Int × Int)} (h : logB n qs = true) (k : Nat) : upAt (logUp n qs) (logSteps n qs) (logSteps n (qs.take k)).length = logUp n (qs.take k) := by
  obtain ⟨_, _, g0, g1, _⟩ := lg_first h k
  rw [← g1]
  unfold bkUp upAt
  rw [if_pos g0, Int.toNat_natCast]
theorem steps_len {p : Nat} (ps : List (Nat × Nat)) : ∀ k, k ≤ ps.length → (stepsTo (roots p) (ps.take k) []).length = (useTo (roots p) 1 ps k).length
  | 0, _ => rfl
  | k + 1, hk => by
    have ih := steps_len (p := p) ps k (by omega)
    have ht : ps.take (k + 1) = ps.take k ++ [ps[k]?.getD (0, 0)] := by
      rw [List.take_succ_eq_append_getElem (by omega)]
      simp [List.getElem?_eq_getElem (show k < ps.length by omega)]
    have hu : useB (roots p) 1 ps k = !decide (rootI (allL (roots p) 1 (ps.take k)) (ps[k]?.getD (0, 0)).1 = rootI (allL (roots p) 1 (ps.take k)) (ps[k]?.getD (0, 0)).2) := rfl
    rw [ht, stepsTo_snoc]
    unfold joinSt
    by_cases e : rootI (allL (roots p) 1 (ps.take k)) (ps[k]?.getD (0, 0)).1 = rootI (allL (roots p) 1 (ps.take k)) (ps[k]?.getD (0, 0)).2
    · rw [if_pos e, useTo_no (by rw [hu, decide_eq_true e]; rfl), ih]
    · rw [if_neg e, useTo_yes (by rw [hu, decide_eq_false e]; rfl), List.length_append, List.length_append, ih]
      rfl
theorem use_nth {u : List Int} {r : Int} {ps : List (Nat × Nat)} : ∀ m i, i < (useTo u r ps m).length → ∃ k, k < m ∧ useB u r ps k = true ∧ (useTo u r ps m)[i]?.getD 0 = (k : Int) ∧ (useTo u r ps k).length = i
  | 0, i, h => by rw [useTo_zero] at h; simp at h
  | m + 1, i, h => by
    cases hu : useB u r ps m with
    | true =>
      rw [useTo_yes hu, List.length_append, List.length_singleton] at h
      rw [useTo_yes hu]
      by_cases hi : i < (useTo u r ps m).length
      · obtain ⟨k, h1, h2, h3, h4⟩ := use_nth m i hi
        exact ⟨k, by omega, h2, by rw [List.getElem?_append_left hi]; exact h3, h4⟩
      · have e : i = (useTo u r ps m).length := by omega
        exact ⟨m, by omega, hu, by rw [e, List.getElem?_append_right (Nat.le_refl _)]; simp, e.symm⟩
    | false =>
      rw [useTo_no hu] at h ⊢
      obtain ⟨k, h1, h2, h3, h4⟩ := use_nth m i h
      exact ⟨k, by omega, h2, h3, h4⟩
/-- The two of a useful pair are together by its own step. -/
theorem jat_useful {n : Nat} {qs : List (Int × Int)} (h : logB (n : Int) qs = true) {k : Nat} (hk : k < qs.length) (hu : useB (roots n) 1 (natP qs) k = true) :
    jatN (logUp (n : Int) qs) (logSteps (n : Int) qs) (qs[k]?.getD (0, 0)).1 (qs[k]?.getD (0, 0)).2 = (((useTo (roots n) 1 (natP qs) k).length + 1 : Nat) : Int) := by
  obtain ⟨hn, hok⟩ := usB_parts h
  obtain ⟨hv, hl⟩ := lg_valid h
  rw [Int.toNat_natCast] at hl
  have hpl := natP_len qs
  have hin : inP n (natP qs) := okQ_in hok
  have hp := hin.get (k := k) (by omega)
  obtain ⟨e1, e2⟩ := okQ_get hok hk
  have S := fun j (hj : j ≤ qs.length) => (show (logSteps (n : Int) (qs.take j)).length = (useTo (roots n) 1 (natP qs) j).length by
    rw [(lg_yes (lg_first h j).1).2, natP_take, Int.toNat_natCast]
    exact steps_len _ j (by omega))
  have U := fun j => (show upAt (logUp (n : Int) qs) (logSteps (n : Int) qs) (logSteps (n : Int) (qs.take j)).length = allL (roots n) 1 ((natP qs).take j) by
    rw [lg_at h j, (lg_yes (lg_first h j).1).1, natP_take, Int.toNat_natCast])
  have u0 := U k
  have u1 := U (k + 1)
  rw [S k (by omega)] at u0
  rw [S (k + 1) (by omega), useTo_yes hu, List.length_append, List.length_singleton] at u1
  have hle := (lg_first h (k + 1)).2.1
  rw [S (k + 1) (by omega), useTo_yes hu, List.length_append, List.length_singleton] at hle
  have hub : rootI (allL (roots n) 1 ((natP qs).take k)) ((natP qs)[k]?.getD (0, 0)).1 ≠ rootI (allL (roots n) 1 ((natP qs).take k)) ((natP qs)[k]?.getD (0, 0)).2 := fun e => by
    have hu2 : useB (roots n) 1 (natP qs) k = !decide (rootI (allL (roots n) 1 ((natP qs).take k)) ((natP qs)[k]?.getD (0, 0)).1 = rootI (allL (roots n) 1 ((natP qs).take k)) ((natP qs)[k]?.getD (0, 0)).2) := rfl
    rw [hu2, decide_eq_true e] at hu
    cases hu
  have hal : (allL (roots n) 1 ((natP qs).take k)).length = n := by rw [allL_len, roots_len]
  rw [allL_succ _ _ (by omega)] at u1
  have hfv : fvB (allL (roots n) 1 ((natP qs).take k)) = true := allL_fv (roots_fv (by omega) (by omega)) 1 (by rw [roots_len]; exact hin.take)
  have ht := joinL_tog hfv (a := ((natP qs)[k]?.getD (0, 0)).1) (b := ((natP qs)[k]?.getD (0, 0)).2) (by omega) (by omega) 1
  rw [e1, e2]
  refine jat_next hv (by omega) (by omega) (by omega) ?_ ?_
  · unfold tgN
    rw [u1]
    exact decide_eq_true ht
  · unfold tgN
    rw [u0]
    exact decide_eq_false hub
theorem cell_call {w w' : World} {p : Addr} {v : Value} (h : w.cell? p = some v) (hb : Below w.heap.size w w') : w'.cell? p = some v := (hb.cell (p := p) (World.block_lt_of_cell? w _ h)).trans h
theorem held8_drew {B : Nat} {a w : World} {p1 p2 p3 p4 p5 p6 p7 p8 : Addr} {v1 v2 v3 v4 v5 v6 v7 v8 : Value} (h : Below B a w ∧ w.cell? p1 = some v1 ∧ w.cell? p2 = some v2 ∧ w.cell? p3 = some v3 ∧ w.cell? p4 = some v4 ∧ w.cell? p5 = some v5 ∧ w.cell? p6 = some v6 ∧ w.cell? p7 = some v7 ∧ w.cell? p8 = some v8) :
    Below B a w.drew ∧ w.drew.cell? p1 = some v1 ∧ w.drew.cell? p2 = some v2 ∧ w.drew.cell? p3 = some v3 ∧ w.drew.cell? p4 = some v4 ∧ w.drew.cell? p5 = some v5 ∧ w.drew.cell? p6 = some v6 ∧ w.drew.cell? p7 = some v7 ∧ w.drew.cell? p8 = some v8 :=
  ⟨⟨h.1.os, h.1.tape, h.1.output, h.1.size, h.1.block⟩, h.2⟩
theorem held8_call {B : Nat} {a w w' : World} {p1 p2 p3 p4 p5 p6 p7 p8 : Addr} {v1 v2 v3 v4 v5 v6 v7 v8 : Value} (h : Below B a w ∧ w.cell? p1 = some v1 ∧ w.cell? p2 = some v2 ∧ w.cell? p3 = some v3 ∧ w.cell? p4 = some v4 ∧ w.cell? p5 = some v5 ∧ w.cell? p6 = some v6 ∧ w.cell? p7 = some v7 ∧ w.cell? p8 = some v8) (hb : Below w.heap.size w w') (hB : B ≤ w.heap.size) :
    Below B a w' ∧ w'.cell? p1 = some v1 ∧ w'.cell? p2 = some v2 ∧ w'.cell? p3 = some v3 ∧ w'.cell? p4 = some v4 ∧ w'.cell? p5 = some v5 ∧ w'.cell? p6 = some v6 ∧ w'.cell? p7 = some v7 ∧ w'.cell? p8 = some v8 := by
  obtain ⟨h0, h1, h2, h3, h4, h5, h6, h7, h8⟩ := h
  exact ⟨h0.trans (hb.mono hB), cell_call h1 hb, cell_call h2 hb, cell_call h3 hb, cell_call h4 hb, cell_call h5 hb, cell_call h6 hb, cell_call h7 hb, cell_call h8 hb⟩
theorem drawLogOf2_any (A : Option Addr) (n c B : Nat) (bs : List Int) (w : World) (h : Bt w B A n bs) (hB : B ≤ w.heap.size) (hc : n ≤ c) :
    Calls Try.prog 47 #[.slice A n c] w fun e w' => ∃ (m : Nat) (v : Value) (ps : List (Int × Int)), e = .returned (.tuple #[.int .i64 (m : Int), v]) ∧ m ≤ 17 ∧ OwnQ 41 w' w.heap.size v ps ∧ ps.length ≤ 25 ∧ Below w.heap.size w w' := by
  have D := Lib.hid (drawUseful_any A n c B bs w h hB hc)
  clear h hB hc
  go_enter Try.func47, Try.ntmps47
  go_wp2_with fail
  refine D.out.mono ?_
  rintro e w1 ⟨m, v, ps, rfl, h1, h2, h3, h4⟩
  have HX := Lib.hid (And.intro h1 (And.intro h2 (And.intro h3 h4)))
  clear h1 h2 h3 h4
  go_wp2_with fail
  go_ret2
  exact ⟨m, v, ps, rfl, HX.out⟩
set_option maxRecDepth 100000 in
set_option maxHeartbeats 2000000 in
theorem drawNewForest_any (A : Option Addr) (n c B : Nat) (bs : List Int) (w : World) (h : Bt w B A n bs) (hB : B ≤ w.heap.size) (hc : n ≤ c) :
    Calls Try.prog 135 #[.slice A n c] w fun e w' => ∃ x : Int, e = .returned (.int .i64 x) ∧ Below w.heap.size w w' := by
  have O := Lib.hid (open_any A n c B bs w h hB hc)
  clear h
  go_enter Try.func135, Try.ntmps135
  go_wp2_with fail
  refine O.out.mono ?_
  rintro e w1 ⟨rfl, hs1, hb1⟩
  have hlt := hs1.lt
  have hlit : Own (w1.alloc (.cells #[.int .i64 5, .int .i64 1, .int .i64 16, .int .i64 17, .int .i64 0, .int .i64 (-1), .int .i64 9] 3)) w1.heap.size (.slice (some ⟨w1.heap.size, 0, none⟩) 7 7) [5, 1, 16, 17, 0, -1, 9] := by
    simpa using Own.lit w1 w1.heap.size [5, 1, 16, 17, 0, -1, 9] (Nat.le_refl _) (by simp)
  have hbl := (Below.refl w1.heap.size w1).alloc (Nat.le_refl _) (.cells #[.int .i64 5, .int .i64 1, .int .i64 16, .int .i64 17, .int .i64 0, .int .i64 (-1), .int .i64 9] 3)
  have NU := Lib.hid (num_any w.heap.size 0 w1.heap.size _ _ _ (hs1.below hbl hlt) (by omega) hlit hlt (by simp) (by simp))
  have HB := Lib.hid (Below.on hb1 hbl)
  clear hs1 hb1 hlit hbl O
  go_wp2_with fail
  refine NU.out.mono ?_
  rintro e w2 ⟨⟨k, hk, rfl⟩, _, hg⟩
  have HF := Lib.hid (below_of_grown HB.out hg)
  clear hg hk
  go_wp2
  go_ret
  exact ⟨_, rfl, HF.out⟩
theorem drawNewLog_any (A : Option Addr) (n c B : Nat) (bs : List Int) (w : World) (h : Bt w B A n bs) (hB : B ≤ w.heap.size) (hc : n ≤ c) :
    Calls Try.prog 50 #[.slice A n c] w fun e w' => ∃ x : Int, e = .returned (.int .i64 x) ∧ Below w.heap.size w w' := by
  have O := Lib.hid (drawNewForest_any A n c B bs w h hB hc)
  clear h
  go_enter Try.func50, Try.ntmps50
  go_wp2_with fail
  refine O.out.mono ?_
  rintro e w1 ⟨x, rfl, hb⟩
  have HB := Lib.hid hb
  clear hb O
  go_wp2_with fail
  go_ret
  exact ⟨x, rfl, HB.out⟩
end Go.Proofs.Ytfafgihfgdpclaa
