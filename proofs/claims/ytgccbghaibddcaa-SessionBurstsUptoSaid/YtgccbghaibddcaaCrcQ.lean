/- The reference's Open: the record at a place, in new memory, and the place behind it; or the kind of what is wrong. -/
import Derived.Test.YtgccbghaibddcaaCrcO
import Derived.Test.YtgccbghaibddcaaCmp
namespace Go.Proofs.Ytgccbghaibddcaa
open Go Go.RowKit

end Go.Proofs.Ytgccbghaibddcaa
