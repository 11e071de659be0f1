/- The reference over entries: Range. No condition but sizes. -/
import Derived.Test.YtlnpicfkcahdbaaEnH
import Derived.Test.YtlnpicfkcahdbaaSrt
namespace Go.Proofs.Ytlnpicfkcahdbaa
open Go Go.RowKit

end Go.Proofs.Ytlnpicfkcahdbaa
