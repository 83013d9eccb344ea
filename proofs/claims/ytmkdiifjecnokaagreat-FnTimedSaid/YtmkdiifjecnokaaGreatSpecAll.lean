/- The model's JoinAll, UsefulPairs and CountClasses. Condition: lengths up to 1048576. -/
import Derived.Test.YtmkdiifjecnokaaGreatSpecJoin
import Derived.Test.YtmkdiifjecnokaaGreatPairsOk
import Derived.Test.YtmkdiifjecnokaaGreatRdR
namespace Go.Proofs.YtmkdiifjecnokaaGreat
open Go.RowKit

theorem below_drew1 {B : Nat} {a w : World} (h : Below B a w) : Below B a w.drew := ⟨h.os, h.tape, h.output, h.size, h.block⟩
set_option maxHeartbeats 1000000 in
theorem alone_any (m : Nat) (h1 : 1 ≤ m) (h2 : m ≤ 16) (w : World) :
    Calls Tryz.prog 20 #[.int .i64 (m : Int)] w fun e w' => ∃ v, e = .returned v ∧ Own w' w.heap.size v (roots m) ∧ Below w.heap.size w w' := by
  have R := Lib.hid (specNew_any (m : Int) w)
  have hn : newN (m : Int) = m := by
    unfold newN
    rw [if_pos (by omega)]
    simp
  rw [hn] at R
  clear hn
  go_enter Tryz.func20, Tryz.ntmps20
  go_wp2_with fail
  refine R.out.mono ?_
  rintro e w1 ⟨v, rfl, ho, hb⟩
  have HO := Lib.hid (And.intro ho hb)
  clear ho hb
  go_wp2
  go_ret
  exact ⟨_, rfl, HO.out.1, HO.out.2⟩

end Go.Proofs.YtmkdiifjecnokaaGreat