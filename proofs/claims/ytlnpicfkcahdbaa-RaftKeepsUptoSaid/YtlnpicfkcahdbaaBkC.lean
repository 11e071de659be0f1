/- Block: how many first bytes are alike; do entries stand in order. No condition but sizes. -/
import Derived.Test.YtlnpicfkcahdbaaBkB
import Derived.Test.YtlnpicfkcahdbaaEnE
import Derived.Test.YtlnpicfkcahdbaaMathE
namespace Go.Proofs.Ytlnpicfkcahdbaa
open Go Go.RowKit

end Go.Proofs.Ytlnpicfkcahdbaa
