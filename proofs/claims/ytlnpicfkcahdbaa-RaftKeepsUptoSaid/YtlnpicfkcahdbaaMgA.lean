/- Merge: inOrder, the reference's Ordered, a copy of an entry. No condition but sizes. -/
import Derived.Test.YtlnpicfkcahdbaaTrB
import Derived.Test.YtlnpicfkcahdbaaBkC
import Derived.Test.YtlnpicfkcahdbaaEnE
namespace Go.Proofs.Ytlnpicfkcahdbaa
open Go Go.RowKit

section
variable {w : World} {a : En} {v0 v1 v2 v3 : Value}
end
end Go.Proofs.Ytlnpicfkcahdbaa
