/- What the laws of Join draw. Conditions: the bytes lie below, their number is at most the capacity. -/
import Derived.Test.YtafebdpcifmndaaDraw7
namespace Go.Proofs.Ytafebdpcifmndaa
open Go.RowKit

theorem results_four {fn : Func} {t u v x : Tmp} (h : fn.results = #[.tmp t, .tmp u, .tmp v, .tmp x]) (tmps : Array Value) (P : Program) (w : World) :
    (results fn tmps).run P w = .ok (.tuple #[tmps.getD t undef, tmps.getD u undef, tmps.getD v undef, tmps.getD x undef]) w := by
  simp [results, h]

set_option maxRecDepth 100000 in
set_option maxHeartbeats 1000000 in
theorem l2Any_any (R p : Nat) (w : World) (h : Src w R p) (hp : p ≤ 90000) :
    Calls Try.prog 97 #[.pointer (some ⟨R, 0, none⟩)] w fun e w' => (∃ l : Int, e = .returned (.int .i64 l) ∧ -1 ≤ l ∧ l ≤ 3) ∧ Src w' R (p + 1) ∧ w.grownBy w' (some R) := by
  have hlt := h.lt
  have hlit : Own (w.alloc (.cells #[.int .i64 1, .int .i64 2, .int .i64 0, .int .i64 1, .int .i64 2, .int .i64 0, .int .i64 3, .int .i64 1, .int .i64 2, .int .i64 (-1)] 3)) w.heap.size (.slice (some ⟨w.heap.size, 0, none⟩) 10 10) [1, 2, 0, 1, 2, 0, 3, 1, 2, -1] := Own.lit w _ [1, 2, 0, 1, 2, 0, 3, 1, 2, -1] (Nat.le_refl _) (by simp)
  have hb := (Below.refl w.heap.size w).alloc (Nat.le_refl _) (.cells #[.int .i64 1, .int .i64 2, .int .i64 0, .int .i64 1, .int .i64 2, .int .i64 0, .int .i64 3, .int .i64 1, .int .i64 2, .int .i64 (-1)] 3)
  have NU := Lib.hid (num_any R p w.heap.size _ _ _ (h.below hb hlt) (by omega) hlit hlt (by simp) (by simp))
  have HB := Lib.hid hb
  clear hlit hb
  go_enter Try.func97, Try.ntmps97
  go_wp2_with fail
  refine NU.out.mono ?_
  rintro e w1 ⟨⟨k, hk, rfl⟩, hs1, hg1⟩
  have hm := nums_mem (p := fun z => -1 ≤ z ∧ z ≤ 3) (zs := [1, 2, 0, 1, 2, 0, 3, 1, 2, -1]) (by
    intro z hz
    simp only [List.mem_cons, List.not_mem_nil, or_false] at hz
    omega) hk
  have hgf := Lib.hid (grown_trans2 (grown_of_below R HB.out) hg1)
  clear hg1 hk
  go_wp2
  go_ret
  exact ⟨⟨_, rfl, hm.1, hm.2⟩, hs1, hgf.out⟩

end Go.Proofs.Ytafebdpcifmndaa