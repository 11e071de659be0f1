/- codec.Cmp (bytes.Compare, the runtime's own comparison) tells how two lists of bytes compare; it leaves memory alone. -/
import Derived.Test.YtgccbghaibddcaaCmp
import Derived.Lib.BytesEntry
import Derived.Laws.Externs
namespace Go.Proofs.Ytgccbghaibddcaa
open Go Go.RowKit

end Go.Proofs.Ytgccbghaibddcaa
