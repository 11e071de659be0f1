/- The order of entries. Plain mathematics. -/
import Derived.Test.YtikcehnlpfeafaaEnE
namespace Go.Proofs.Ytikcehnlpfeafaa
open Go Go.RowKit

end Go.Proofs.Ytikcehnlpfeafaa
