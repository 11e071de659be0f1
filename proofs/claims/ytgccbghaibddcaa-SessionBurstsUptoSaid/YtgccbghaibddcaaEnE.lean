/- The reference over entries: In. No condition but sizes. -/
import Derived.Test.YtgccbghaibddcaaEnD
import Derived.Deep.QuietTactic
import Derived.BigQuiet
namespace Go.Proofs.Ytgccbghaibddcaa
open Go Go.RowKit

end Go.Proofs.Ytgccbghaibddcaa
