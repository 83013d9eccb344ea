/- An item that gets a link to one farther up its way: what the document says of it. Plain lists, no program. -/
import Derived.Test.YtemkbheplmimoaaSame
import Derived.Test.YtemkbheplmimoaaLook
import Derived.Test.YtemkbheplmimoaaMirror
namespace Go.Proofs.Ytemkbheplmimoaa

theorem sk_same {up : List Int} {i k : Nat} (S : Up up i k) : sameN (hang up i k) up = true := by
  refine sameN_yes (sk_fv S) S.fv (hang_len _ _ _) fun a b ha hb => like_iff.2 ?_
  rw [hang_len] at ha
  rw [(sk_way S ha).2, (sk_way S (by omega)).2]
theorem sk_rootN {up : List Int} {i k j : Nat} (S : Up up i k) (hj : j < up.length) : rootN (hang up i k) (j : Int) = rootN up (j : Int) := by
  rw [rootN_yes (item_of (sk_fv S) (by omega) (by rw [hang_len]; omega)), rootN_yes (item_of S.fv (by omega) (by omega)), (sk_way S hj).2]
theorem sk_deep {up : List Int} {i k : Nat} (S : Up up i k) : deepN (hang up i k) ≤ deepN up := by
  unfold deepN
  rw [if_pos (sk_fv S), if_pos S.fv, hang_len]
  have : deepTo (hang up i k) up.length ≤ deepTo up up.length := deepTo_le fun j hj => by
    have h1 := (sk_way S hj).1
    have h2 := deepTo_up up hj
    have e1 : wayOf (hang up i k) j = way (hang up i k) up.length j := by unfold wayOf; rw [hang_len]
    have e2 : wayOf up j = way up up.length j := rfl
    rw [e1]
    rw [e2] at h2
    omega
  omega
theorem shr_same {u v : List Int} (S : Shr u v) : sameN v u = true := by
  refine sameN_yes S.fv S.fu S.len fun a b ha hb => like_iff.2 ?_
  rw [S.len] at ha
  rw [S.root a ha, S.root b (by omega)]
end Go.Proofs.Ytemkbheplmimoaa
