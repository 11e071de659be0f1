/- The reference over entries: In. No condition but sizes. -/
import Derived.Test.YtlnpicfkcahdbaaEnD
import Derived.Deep.QuietTactic
import Derived.BigQuiet
namespace Go.Proofs.Ytlnpicfkcahdbaa
open Go Go.RowKit

end Go.Proofs.Ytlnpicfkcahdbaa
