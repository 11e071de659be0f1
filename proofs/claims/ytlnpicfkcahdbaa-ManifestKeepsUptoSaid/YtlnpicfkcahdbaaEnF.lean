/- The reference over entries: Insert. No condition but sizes. -/
import Derived.Test.YtlnpicfkcahdbaaEnE
import Derived.Test.YtlnpicfkcahdbaaEnC
import Derived.Deep.RegionLaw
namespace Go.Proofs.Ytlnpicfkcahdbaa
open Go Go.RowKit

end Go.Proofs.Ytlnpicfkcahdbaa
