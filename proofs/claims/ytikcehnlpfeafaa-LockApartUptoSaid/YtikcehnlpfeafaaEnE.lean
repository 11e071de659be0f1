/- The reference over entries: In. No condition but sizes. -/
import Derived.Test.YtikcehnlpfeafaaEnD
import Derived.Deep.QuietTactic
import Derived.BigQuiet
namespace Go.Proofs.Ytikcehnlpfeafaa
open Go Go.RowKit

end Go.Proofs.Ytikcehnlpfeafaa
