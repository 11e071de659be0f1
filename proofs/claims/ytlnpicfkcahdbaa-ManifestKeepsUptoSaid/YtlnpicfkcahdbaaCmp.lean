/- The reference's Cmp tells how two lists of bytes compare; it leaves memory alone. -/
import Derived.Test.YtlnpicfkcahdbaaMem
import Derived.Test.YtlnpicfkcahdbaaMathO
namespace Go.Proofs.Ytlnpicfkcahdbaa
open Go Go.RowKit

end Go.Proofs.Ytlnpicfkcahdbaa
