/- What the laws of Join draw. Conditions: the bytes lie below, their number is at most the capacity. -/
import Derived.Test.YtdbkoicbhddpfaaDraw7
namespace Go.Proofs.Ytdbkoicbhddpfaa
open Go.RowKit

theorem results_four {fn : Func} {t u v x : Tmp} (h : fn.results = #[.tmp t, .tmp u, .tmp v, .tmp x]) (tmps : Array Value) (P : Program) (w : World) :
    (results fn tmps).run P w = .ok (.tuple #[tmps.getD t undef, tmps.getD u undef, tmps.getD v undef, tmps.getD x undef]) w := by
  simp [results, h]

end Go.Proofs.Ytdbkoicbhddpfaa