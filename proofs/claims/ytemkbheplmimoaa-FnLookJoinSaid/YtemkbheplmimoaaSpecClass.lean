/- The model's ClassOf. Condition: lengths up to 1048576. -/
import Derived.Test.YtemkbheplmimoaaSpec2
import Derived.Test.YtemkbheplmimoaaClass
namespace Go.Proofs.Ytemkbheplmimoaa
open Go.RowKit

theorem spec_class_kept : True := trivial

end Go.Proofs.Ytemkbheplmimoaa