/- Entries: both Checks, Twins. No condition but sizes. -/
import Derived.Test.YtgccbghaibddcaaEnA
import Derived.Test.YtgccbghaibddcaaFamC
namespace Go.Proofs.Ytgccbghaibddcaa
open Go Go.RowKit

section
variable {w : World} {A : Option Addr} {n c : Nat} {es : List En}
end
end Go.Proofs.Ytgccbghaibddcaa
