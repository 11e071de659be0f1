/- Entries: both Checks, Twins. No condition but sizes. -/
import Derived.Test.YtikcehnlpfeafaaEnA
import Derived.Test.YtikcehnlpfeafaaFamC
namespace Go.Proofs.Ytikcehnlpfeafaa
open Go Go.RowKit

section
variable {w : World} {A : Option Addr} {n c : Nat} {es : List En}
end
end Go.Proofs.Ytikcehnlpfeafaa
