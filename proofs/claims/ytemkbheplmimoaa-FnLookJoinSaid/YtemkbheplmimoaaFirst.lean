/- The program's order of two classes: their first items' difference. Condition: the first items are from 0 to 16. -/
import Derived.Test.YtemkbheplmimoaaHelp
import Derived.IntWalk
namespace Go.Proofs.Ytemkbheplmimoaa
open Go.RowKit

set_option maxHeartbeats 800000 in
theorem byFirst_any (g1 n1 c1 g2 n2 c2 : Nat) (x y : Nat) (w : World) (h1 : w.cell? ⟨g1, 0, none⟩ = some (.int .i64 (x : Int))) (h2 : w.cell? ⟨g2, 0, none⟩ = some (.int .i64 (y : Int))) (l1 : 0 < n1) (l2 : 0 < n2) (hx : x ≤ 16) (hy : y ≤ 16) :
    Calls Try.prog 114 #[.slice (some ⟨g1, 0, none⟩) n1 c1, .slice (some ⟨g2, 0, none⟩) n2 c2] w fun e w' => e = .returned (.int .i64 ((x : Int) - (y : Int))) ∧ ∃ q, w' = w.drewN q := by
  have k1 : IntKind.i64.wrap ((x : Int) - (y : Int)) = (x : Int) - (y : Int) := IntWalk.i64_in _ (by omega)
  have k2 : (0 : Int) < (n1 : Int) := by omega
  have k3 : (0 : Int) < (n2 : Int) := by omega
  go_enter Try.func114, Try.ntmps114
  go_wp2
  go_quiet (fail)
  go_wp2
  go_ret
  exact ⟨by simp, _, rfl⟩
end Go.Proofs.Ytemkbheplmimoaa
