/- The reference over entries: Insert. No condition but sizes. -/
import Derived.Test.YtgccbghaibddcaaEnE
import Derived.Test.YtgccbghaibddcaaEnC
import Derived.Deep.RegionLaw
namespace Go.Proofs.Ytgccbghaibddcaa
open Go Go.RowKit

end Go.Proofs.Ytgccbghaibddcaa
