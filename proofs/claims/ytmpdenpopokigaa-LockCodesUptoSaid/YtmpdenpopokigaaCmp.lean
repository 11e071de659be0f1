/- The reference's Cmp tells how two lists of bytes compare; it leaves memory alone. -/
import Derived.Test.YtmpdenpopokigaaMem
import Derived.Test.YtmpdenpopokigaaMathO
namespace Go.Proofs.Ytmpdenpopokigaa
open Go Go.RowKit

end Go.Proofs.Ytmpdenpopokigaa
