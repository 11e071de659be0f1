/- The reference's Cmp tells how two lists of bytes compare; it leaves memory alone. -/
import Derived.Test.YtgccbghaibddcaaMem
import Derived.Test.YtgccbghaibddcaaMathO
namespace Go.Proofs.Ytgccbghaibddcaa
open Go Go.RowKit

end Go.Proofs.Ytgccbghaibddcaa
