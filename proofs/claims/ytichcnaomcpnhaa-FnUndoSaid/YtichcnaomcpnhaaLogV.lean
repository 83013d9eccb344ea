/- LogValid of the program, of any slices. Condition: none beyond lengths. -/
import Derived.Test.YtichcnaomcpnhaaHistOf
import Derived.Test.YtichcnaomcpnhaaSpecLogV
import Derived.Deep.RegionHeld3
namespace Go.Proofs.Ytichcnaomcpnhaa
open Go.RowKit Go.Shelf

theorem implLogV_any (A1 A2 : Option Addr) (n1 c1 n2 c2 B0 : Nat) (us : List Int) (bs : List (Int × Int)) (w : World) (h1 : Rd w B0 A1 n1 us) (h2 : RdQ w B0 A2 n2 bs) (hB0 : B0 ≤ w.heap.size) (hb1 : n1 ≤ 1048576) (hb2 : n2 ≤ 1048576) :
    Calls Try.prog 14 #[.agg #[.slice A1 n1 c1, .slice A2 n2 c2]] w fun e w' => e = .returned (.bool (logV us bs)) ∧ Below w.heap.size w w' := by
  obtain ⟨W, hW⟩ : ∃ W, W = w.alloc (.cells #[.slice A1 n1 c1, .slice A2 n2 c2] 26) := ⟨_, rfl⟩
  have hbW : Below w.heap.size w W := by rw [hW]; exact (Below.refl _ _).alloc (Nat.le_refl _) _
  have TE := Lib.hid (historyOf_any A1 A2 n1 c1 n2 c2 B0 us bs W (h1.below hbW hB0) (h2.below hbW hB0) (Nat.le_trans hB0 hbW.size) hb1 hb2)
  have HB := Lib.hid hbW
  have HW := Lib.hid hW
  obtain ⟨r, hr⟩ : ∃ r, r = logV us bs := ⟨_, rfl⟩
  rw [← hr] at TE ⊢
  clear h1 h2 hbW hW hr
  go_enter Try.func14, Try.ntmps14
  go_wp2_with fail
  rw [← HW.out]
  refine TE.out.mono ?_
  rintro e w1 ⟨hb, ⟨rfl, rfl⟩ | ⟨rfl, H, J, M, N, rfl, _⟩⟩
  · have HB := Lib.hid (Below.on HB.out hb)
    clear hb
    go_wp2_with fail
    go_ret
    exact ⟨rfl, HB.out⟩
  · have HB := Lib.hid (Below.on HB.out hb)
    clear hb
    go_wp2_with fail
    go_ret
    exact ⟨rfl, HB.out⟩
end Go.Proofs.Ytichcnaomcpnhaa
