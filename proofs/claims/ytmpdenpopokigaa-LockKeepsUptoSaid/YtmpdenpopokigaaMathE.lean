/- The order of entries. Plain mathematics. -/
import Derived.Test.YtmpdenpopokigaaEnE
namespace Go.Proofs.Ytmpdenpopokigaa
open Go Go.RowKit

end Go.Proofs.Ytmpdenpopokigaa
