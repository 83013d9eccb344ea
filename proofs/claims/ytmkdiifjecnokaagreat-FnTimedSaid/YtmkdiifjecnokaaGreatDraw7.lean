/- What the laws of looking draw: deep forests, ways of looking, items. Conditions: the bytes lie below, their number is at most the capacity. -/
import Derived.Test.YtmkdiifjecnokaaGreatDraw4
import Derived.Test.YtmkdiifjecnokaaGreatHelp
import Derived.Test.YtmkdiifjecnokaaGreatArgs
namespace Go.Proofs.YtmkdiifjecnokaaGreat
open Go.RowKit

set_option maxRecDepth 100000 in
set_option maxHeartbeats 1000000 in
theorem l2Alone_any (m : Nat) (h1 : 1 ≤ m) (h2 : m ≤ 16) (w : World) :
    Calls Tryz.prog 20 #[.int .i64 (m : Int)] w fun e w' => ∃ g c zs, e = .returned (.slice (some ⟨g, 0, none⟩) m c) ∧ Own w' w.heap.size (.slice (some ⟨g, 0, none⟩) m c) zs ∧ Below w.heap.size w w' := by
  have R := Lib.hid (specNew_any (m : Int) w)
  have hn : newN (m : Int) = m := by
    unfold newN
    rw [if_pos (by omega)]
    simp
  have hl : (roots (newN (m : Int))).length = m := by rw [roots_len, hn]
  have HL := Lib.hid hl
  clear hn hl
  go_enter Tryz.func20, Tryz.ntmps20
  go_wp2_with fail
  refine R.out.mono ?_
  rintro e w1 ⟨v, rfl, ho, hb⟩
  obtain ⟨A, c, rfl, _⟩ := ho.form
  rw [HL.out] at ho ⊢
  obtain ⟨g, rfl⟩ := own_head ho h1
  go_wp2
  go_ret
  exact ⟨g, c, _, rfl, ho, hb⟩

end Go.Proofs.YtmkdiifjecnokaaGreat
namespace Go.Proofs.YtmkdiifjecnokaaGreat
open Go.RowKit
end Go.Proofs.YtmkdiifjecnokaaGreat