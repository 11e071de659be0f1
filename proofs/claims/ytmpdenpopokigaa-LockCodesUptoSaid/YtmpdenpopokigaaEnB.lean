/- Entries: both Checks, Twins. No condition but sizes. -/
import Derived.Test.YtmpdenpopokigaaEnA
import Derived.Test.YtmpdenpopokigaaFamC
namespace Go.Proofs.Ytmpdenpopokigaa
open Go Go.RowKit

section
variable {w : World} {A : Option Addr} {n c : Nat} {es : List En}
end
end Go.Proofs.Ytmpdenpopokigaa
