/- The reference over entries: In. No condition but sizes. -/
import Derived.Test.YtmpdenpopokigaaEnD
import Derived.Deep.QuietTactic
import Derived.BigQuiet
namespace Go.Proofs.Ytmpdenpopokigaa
open Go Go.RowKit

end Go.Proofs.Ytmpdenpopokigaa
