/- The walk of the exact law of ParseGrid: for every string the law returns true and nothing that was there has turned. -/
import Derived.Test.YtecleelcnjhimaaDoorCutP
import Derived.Test.YtecleelcnjhimaaDoorMarkT
namespace Go.Proofs.YtecleelcnjhimaaDoor
open Go.RowKit Go.Shelf

theorem OwnT.drewG {w : World} {base : Nat} {v : Value} {zs : List ByteArray} (h : OwnT w base v zs) (n : Nat) : OwnT (w.drewN n) base v zs := h
theorem RdT.drewG {w : World} {B : Nat} {A : Option Addr} {m : Nat} {zs : List ByteArray} (h : RdT w B A m zs) (n : Nat) : RdT (w.drewN n) B A m zs := h

set_option maxRecDepth 100000 in
set_option maxHeartbeats 4000000 in
theorem exactParseGrid (s : ByteArray) (w : World) (m : Int) (hm : w.cell? ⟨Tryd.laySplitN_ren.g 1, 0, none⟩ = some (.int .i64 m)) :
    Calls Tryd.prog 6 #[.string s] w fun e w' => e = .returned (.bool true) ∧ Below w.heap.size w w' := by
  by_cases hl : 1048576 < s.size
  · clear hm
    go_enter Tryd.func6, Tryd.ntmps6
    go_wp2_with fail
    go_ret
    exact ⟨rfl, Below.refl _ _⟩
  have hs : s.size ≤ 1048576 := by omega
  have hlt := World.block_lt_of_cell? w _ hm
  have SP := Lib.hid (fun (w : World) => specParse_any s w hs)
  have IM := Lib.hid (fun (w1 : World) (hb : Below w.heap.size w w1) => implParse_any s m w1 hs ((hb.cell hlt).trans hm))
  have hy := pgN_len s
  revert SP IM hy
  generalize pgN s = ys
  generalize gvB (cutT s) = ok
  intro SP IM hy
  have dy : decide (ys = ys) = true := by simp
  have dk : (ok != ok) = false := by cases ok <;> rfl
  clear hm hlt
  go_enter Tryd.func6, Tryd.ntmps6
  go_wp2_with fail
  refine (SP.out _).mono ?_
  rintro e w2 ⟨v2, rfl, ho2, hb2⟩
  obtain ⟨A2, c2, rfl, hr2⟩ := ho2.form
  clear ho2
  go_wp2_with fail
  refine (IM.out _ hb2).mono ?_
  rintro e w4 ⟨v4, rfl, ho4, hb4⟩
  obtain ⟨A4, c4, rfl, hr4⟩ := ho4.form
  have hs24 := hb4.size
  have hr2 := hr2.below hb4 (Nat.le_refl _)
  have hb4 := hb2.trans (hb4.mono hb2.size)
  go_wp2_with fail
  refine (eqStringS_any _ _ _ _ _ _ _ _ ys ys _ hr4 hr2 (by omega) (by omega)).mono ?_
  rintro e w' ⟨rfl, n1, rfl⟩
  clear hr4
  go_wp2_with fail
  refine (markOne_any _ ys _ _ (ho4.drewG n1) (by omega)).mono ?_
  rintro e w6 ⟨rfl, ho6, hg6⟩
  have hb6 : Below w2.heap.size w4 w6 := below_of_drewN (below_row hg6 (by simp; omega) (fun r e => (ho4.blockOf r e).1))
  have hs46 := hb6.size
  have hr2 := hr2.below hb6 (Nat.le_refl _)
  have hb6 := hb4.trans (hb6.mono hb2.size)
  have hh6 := ho6.form_rd
  clear ho4 hg6 ho6
  have k1 : ¬ (1 + (ys.length : Int) < 0) := by omega
  have t1 : ((1 + (ys.length : Int)) != 1 + (ys.length : Int)) = false := by simp
  go_wp2_with fail
  refine (heldOne_any _ _ _ _ _ hh6 (Nat.le_refl _) (by omega)).mono ?_
  rintro e w7 ⟨rfl, hb7⟩
  have hs67 := hb7.size
  have hr2 := hr2.below hb7 (by omega)
  have hh7 := hh6.below hb7 (Nat.le_refl _)
  have hb7 := hb6.trans (hb7.mono hb6.size)
  clear hh6
  go_wp2_with fail
  refine (IM.out _ hb7).mono ?_
  rintro e w9 ⟨v9, rfl, ho9, hb9⟩
  obtain ⟨A9, c9, rfl, hr9⟩ := ho9.form
  have hs79 := hb9.size
  have hr2 := hr2.below hb9 (by omega)
  have hh9 := hh7.below hb9 (by omega)
  have hb9 := hb7.trans (hb9.mono hb7.size)
  clear ho9 hh7
  go_wp2_with fail
  refine (eqStringS_any _ _ _ _ _ _ _ _ ys ys _ hr9 hr2 (by omega) (by omega)).mono ?_
  rintro e w' ⟨rfl, n5, rfl⟩
  go_wp2_with fail
  refine (heldOne_any _ _ _ _ _ (hh9.drewG n5) (by rw [drewN_size]; omega) (by omega)).mono ?_
  rintro e w10 ⟨rfl, hb10⟩
  have hb10 := hb9.trans ((below_of_drewN hb10).mono hb9.size)
  go_wp2_with fail
  go_ret
  exact ⟨rfl, hb10⟩
end Go.Proofs.YtecleelcnjhimaaDoor
