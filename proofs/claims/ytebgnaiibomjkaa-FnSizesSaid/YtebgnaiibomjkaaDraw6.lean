/- Drawn arguments of ClassOf, SizesOf, HeightsOf. Condition: none beyond the bytes read. -/
import Derived.Test.YtebgnaiibomjkaaDraw4
namespace Go.Proofs.Ytebgnaiibomjkaa
open Go.RowKit

set_option maxRecDepth 100000 in
theorem drawSizes_any (A : Option Addr) (n c B : Nat) (bs : List Int) (w : World) (h : Bt w B A n bs) (hB : B ≤ w.heap.size) (hc : n ≤ c) :
    Calls Try.prog 35 #[.slice A n c] w fun e w' => ∃ v zs, e = .returned v ∧ Own w' w.heap.size v zs ∧ zs.length ≤ 17 ∧ Below w.heap.size w w' := by
  have O := Lib.hid (open_any A n c B bs w h hB hc)
  clear h
  go_enter Try.func35, Try.ntmps35
  go_wp2_with fail
  refine O.out.mono ?_
  rintro e w1 ⟨rfl, hs1, hb1⟩
  have P := Lib.hid (l1Some_any w.heap.size 0 w1 hs1 (by omega))
  have hsz := hb1.size
  go_wp2_with fail
  refine P.out.mono ?_
  rintro e w2 ⟨v, zs, rfl, ho, hl, _, hg⟩
  have hb2 := below_of_grown hb1 hg
  clear hs1 hb1 hg
  go_wp2_with fail
  go_ret
  exact ⟨_, zs, rfl, ho.less hsz, hl, hb2⟩

set_option maxRecDepth 100000 in
theorem drawHeights_any (A : Option Addr) (n c B : Nat) (bs : List Int) (w : World) (h : Bt w B A n bs) (hB : B ≤ w.heap.size) (hc : n ≤ c) :
    Calls Try.prog 38 #[.slice A n c] w fun e w' => ∃ v zs, e = .returned v ∧ Own w' w.heap.size v zs ∧ zs.length ≤ 17 ∧ Below w.heap.size w w' := by
  have O := Lib.hid (open_any A n c B bs w h hB hc)
  clear h
  go_enter Try.func38, Try.ntmps38
  go_wp2_with fail
  refine O.out.mono ?_
  rintro e w1 ⟨rfl, hs1, hb1⟩
  have P := Lib.hid (l1Some_any w.heap.size 0 w1 hs1 (by omega))
  have hsz := hb1.size
  go_wp2_with fail
  refine P.out.mono ?_
  rintro e w2 ⟨v, zs, rfl, ho, hl, _, hg⟩
  have hb2 := below_of_grown hb1 hg
  clear hs1 hb1 hg
  go_wp2_with fail
  go_ret
  exact ⟨_, zs, rfl, ho.less hsz, hl, hb2⟩
end Go.Proofs.Ytebgnaiibomjkaa
