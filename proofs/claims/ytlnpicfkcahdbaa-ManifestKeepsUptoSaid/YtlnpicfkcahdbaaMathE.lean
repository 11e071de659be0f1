/- The order of entries. Plain mathematics. -/
import Derived.Test.YtlnpicfkcahdbaaEnE
namespace Go.Proofs.Ytlnpicfkcahdbaa
open Go Go.RowKit

end Go.Proofs.Ytlnpicfkcahdbaa
