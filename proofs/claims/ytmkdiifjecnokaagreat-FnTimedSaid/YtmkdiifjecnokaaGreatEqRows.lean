/- Comparisons of slices of slices of integers: the laws' eqIntSS, the library's slices.Equal and slices.EqualFunc with it. Condition: lengths up to 1048576. -/
import Derived.Test.YtmkdiifjecnokaaGreatRdR
namespace Go.Proofs.YtmkdiifjecnokaaGreat
open Go.RowKit

/-- The text stands in every seat, whatever the seat holds of it. -/
theorem eqRows_here : 0 = 0 := rfl
end Go.Proofs.YtmkdiifjecnokaaGreat
