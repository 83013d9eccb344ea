/- Words for the exact laws over pairs: what stays through a mark. Condition: lengths up to 1048576. -/
import Derived.Test.YtebgnaiibomjkaaComm
import Derived.Test.YtebgnaiibomjkaaHelpQ
import Derived.Test.YtebgnaiibomjkaaRdR
namespace Go.Proofs.Ytebgnaiibomjkaa
open Go.RowKit

theorem OwnQ.chg {t : TypeId} {S : Nat → Prop} {w w' : World} {base : Nat} {v : Value} {ps : List (Int × Int)} (h : OwnQ t w base v ps) (hc : Chg S w w') (hS : ∀ i, S i → i < base) : OwnQ t w' base v ps := by
  refine ⟨h.1, ?_⟩
  rcases h.2 with h0 | ⟨g, cap, cur, hv, hbase, hg, hr⟩
  · exact .inl h0
  · refine .inr ⟨g, cap, cur, hv, hbase, (hc.block g (Array.getElem?_eq_some_iff.1 hg).1 (fun hs => by have := hS g hs; omega)).trans hg, hr⟩
theorem Chg.mark {w w' : World} {v : Value} (hg : w.grownBy w' v.ownBlock) : Chg (fun i => v.ownBlock = some i) w w' :=
  ⟨hg.os, hg.tape, hg.output, hg.size, fun k hk hn => hg.block k hk (fun e => hn e.symm)⟩
end Go.Proofs.Ytebgnaiibomjkaa
