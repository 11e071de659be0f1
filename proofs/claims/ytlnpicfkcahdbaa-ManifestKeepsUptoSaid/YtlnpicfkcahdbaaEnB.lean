/- Entries: both Checks, Twins. No condition but sizes. -/
import Derived.Test.YtlnpicfkcahdbaaEnA
import Derived.Test.YtlnpicfkcahdbaaFamC
namespace Go.Proofs.Ytlnpicfkcahdbaa
open Go Go.RowKit

section
variable {w : World} {A : Option Addr} {n c : Nat} {es : List En}
end
end Go.Proofs.Ytlnpicfkcahdbaa
