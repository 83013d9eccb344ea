/- A drawn text of a grid, which may be spoilt. Condition: none besides the source's. -/
import Derived.Test.YtecleelcnjhimaaDoorDrawG3
namespace Go.Proofs.YtecleelcnjhimaaDoor
open Go.RowKit Go.Shelf

set_option maxRecDepth 100000 in
set_option maxHeartbeats 4000000 in
theorem drawPG_any (A : Option Addr) (n c B : Nat) (bs : List Int) (w : World) (h : Bt w B A n bs) (hB : B ≤ w.heap.size) (hc : n ≤ c) :
    Calls Tryd.prog 20 #[.slice A n c] w fun e w' => ∃ s : ByteArray, e = .returned (.string s) ∧ s.size ≤ 100 ∧ Below w.heap.size w w' := by
  have O := Lib.hid (open_any A n c B bs w h hB hc)
  clear h
  go_enter Tryd.func20, Tryd.ntmps20
  go_wp2_with fail
  refine O.out.mono ?_
  rintro e w1 ⟨rfl, hs1, hb1⟩
  obtain ⟨R, hR⟩ : ∃ R, R = w.heap.size := ⟨_, rfl⟩
  rw [← hR] at hs1 ⊢
  have G := Lib.hid (l8Good_any R 0 w1 hs1 (by omega))
  have HR := Lib.hid hR
  have HB1 := Lib.hid hb1
  clear hs1 hb1 O hR
  go_wp2_with fail
  refine G.out.mono ?_
  rintro e w2 ⟨v, zs, rfl, ho, hgv, ⟨q, hq, hs⟩, hg⟩
  obtain ⟨A2, c2, rfl, hr2⟩ := ho.form
  have hF := fmtN_size hgv
  have hn6 := (gv_parts hgv).1.2
  have F := Lib.hid (specFormatGrid_any A2 zs.length c2 _ zs w2 hr2 (by omega) (fun x hx => by have := ((gv_parts hgv).2.2 x hx).1; have := (gv_parts hgv).2.1.2; omega))
  have hbw2 : Below w.heap.size w w2 := below_of_grown HB1.out (by rw [← HR.out]; exact hg)
  have HB2 := Lib.hid hbw2
  have P2 := Lib.hid (pick_any R q 2 w2 hs (by omega))
  revert F hF
  generalize fmtN zs = s
  intro hF F
  clear ho hgv hr2 hg hs G hbw2 hn6
  go_wp2_with fail
  refine F.out.mono ?_
  rintro e w2' ⟨rfl, rfl⟩
  go_wp2_with fail
  refine P2.out.mono ?_
  rintro e w3 ⟨⟨x, rfl, _⟩, hs3, hg3⟩
  have HB3 : Hid (Below w.heap.size w w3) := by
    show Below _ _ _
    exact below_of_grown HB2.out (by rw [← HR.out]; exact hg3)
  clear hg3 P2 F
  by_cases hx : (x : Int) = 0
  · have hx0 : x = 0 := by omega
    subst hx0
    go_wp2_with fail
    go_ret
    exact ⟨_, rfl, by omega, HB3.out⟩
  · have q0 : ((x : Int) == 0) = false := by simp; omega
    have P4 := Lib.hid (pick_any R (q + 1) (s.size : Int) w3 hs3 (by omega))
    clear hs3
    go_wp2_with fail
    refine P4.out.mono ?_
    rintro e w4 ⟨⟨k, rfl, hk⟩, hs4, hg4⟩
    have hk := hk (by omega)
    have HB4 : Hid (Below w.heap.size w w4) := by
      show Below _ _ _
      exact below_of_grown HB3.out (by rw [← HR.out]; exact hg4)
    have hc1 := fun W => cut_to (s := s) (k := k) (by omega) W
    have hs1k : (s.extract 0 k).size ≤ 42 := by rw [ByteArray.size_extract]; omega
    obtain ⟨a, ha⟩ : ∃ a, a = s.extract 0 k := ⟨_, rfl⟩
    rw [← ha] at hs1k
    simp only [← ha] at hc1
    have hlt4 := hs4.lt
    have hbL : Below w4.heap.size w4 (w4.alloc (.cells #[.string ⟨#[]⟩, .string ⟨#[46]⟩, .string ⟨#[35]⟩, .string ⟨#[47]⟩, .string ⟨#[111]⟩, .string ⟨#[32]⟩] 9)) := (Below.refl _ _).alloc (Nat.le_refl _) _
    have OF : Hid (∀ W : World, W.heap = (w4.alloc (.cells #[.string ⟨#[]⟩, .string ⟨#[46]⟩, .string ⟨#[35]⟩, .string ⟨#[47]⟩, .string ⟨#[111]⟩, .string ⟨#[32]⟩] 9)).heap → Below w4.heap.size w4 W → Calls Tryd.prog 40 #[.pointer (some ⟨R, 0, none⟩), .slice (some ⟨w4.heap.size, 0, none⟩) 6 6] W fun e w' => ∃ y : ByteArray, e = .returned (.string y) ∧ y.size ≤ 7 ∧ Hid (Src w' R (q + 3)) ∧ Hid (Below w.heap.size w w')) := fun W hW hbW => by
      have hL : OwnT W w4.heap.size (.slice (some ⟨w4.heap.size, 0, none⟩) 6 6) [⟨#[]⟩, ⟨#[46]⟩, ⟨#[35]⟩, ⟨#[47]⟩, ⟨#[111]⟩, ⟨#[32]⟩] := by
        have := OwnT.lit w4 w4.heap.size [⟨#[]⟩, ⟨#[46]⟩, ⟨#[35]⟩, ⟨#[47]⟩, ⟨#[111]⟩, ⟨#[32]⟩] (Nat.le_refl _) (by simp)
        unfold OwnT World.ownsRow at this ⊢
        rw [hW]
        exact this
      refine (of_any R (q + 2) w4.heap.size _ [⟨#[]⟩, ⟨#[46]⟩, ⟨#[35]⟩, ⟨#[47]⟩, ⟨#[111]⟩, ⟨#[32]⟩] W (hs4.below hbW hs4.lt) (by omega) hL hs4.lt (by simp) (by simp)).mono fun e w' h => ?_
      obtain ⟨⟨j, hj, he⟩, hs', hg'⟩ := h
      have hg3 := grown_trans2 (grown_of_below R hbW) hg'
      refine ⟨_, he, ?_, hs', below_of_grown HB4.out (by rw [← HR.out]; exact hg3)⟩
      have : j = 0 ∨ j = 1 ∨ j = 2 ∨ j = 3 ∨ j = 4 ∨ j = 5 := by simp at hj; omega
      rcases this with rfl | rfl | rfl | rfl | rfl | rfl <;> decide
    have HBL := Lib.hid hbL
    have PK : Hid (∀ W : World, Hid (Src W R (q + 3)) → Hid (Below w.heap.size w W) → Calls Tryd.prog 39 #[.pointer (some ⟨R, 0, none⟩), .int .i64 2] W fun e w' => ∃ y : Nat, e = .returned (.int .i64 (y : Int)) ∧ y < 2 ∧ Hid (Below w.heap.size w w')) := fun W hW hbW =>
      (pick_any R (q + 3) 2 W hW.out (by omega)).mono fun e w' h => by
        obtain ⟨⟨y, he, hy⟩, _, hg'⟩ := h
        have := hy (by omega)
        exact ⟨y, he, by omega, below_of_grown hbW.out (by rw [← HR.out]; exact hg')⟩
    have hkk : k < s.size := by omega
    have CUT : Hid (∀ j : Nat, j < 2 → ∀ W : World, (Instr.slice 9 (.string s) (some (.int .i64 ((k : Int) + (j : Int)))) none none).run Tryd.prog W = .ok (.string (s.extract (k + j) s.size)) W) := fun j hj W => by
      have := cut_on (s := s) (k := k + j) (by omega) W
      rwa [show (((k + j : Nat)) : Int) = (k : Int) + (j : Int) by omega] at this
    clear hs4 hg4 hbL P4 ha hk
    go_wp2_with fail
    go_region_law (first
      | (go_simp; (try go_at_call 40); refine (OF.out _ (by rfl) (by exact ⟨HBL.out.os, HBL.out.tape, HBL.out.output, HBL.out.size, HBL.out.block⟩)).mono ?_; rintro e w5 ⟨y, rfl, hy7, HS5, HB5⟩; have hA : ∀ W : World, (Op.stringOp .add a y).run Tryd.prog W = .ok (.string (a ++ y)) W := fun W => run_string_add_sum W _ _ (by omega))
      | (go_simp; (try go_at_call 39); refine (PK.out _ (by exact HS5) (by exact HB5)).mono ?_; rintro e w6 ⟨j, rfl, hj2, HB6⟩; have hcj := CUT.out j hj2; have hwr : IntKind.i64.wrap ((k : Int) + (j : Int)) = (k : Int) + (j : Int) := (IntWalk.i64_in _ (by omega)); have hay : (a ++ y).size ≤ 49 := (by rw [ByteArray.size_append]; omega); have hez : (s.extract (k + j) s.size).size ≤ 42 := (by rw [ByteArray.size_extract]; omega); have hA2 : ∀ W : World, (Op.stringOp .add (a ++ y) (s.extract (k + j) s.size)).run Tryd.prog W = .ok (.string (a ++ y ++ s.extract (k + j) s.size)) W := fun W => run_string_add_sum W _ _ (by omega)))
    all_goals
      go_wp2_with fail
      go_ret
      exact ⟨_, rfl, by rw [ByteArray.size_append]; omega, HB6.out⟩
end Go.Proofs.YtecleelcnjhimaaDoor
