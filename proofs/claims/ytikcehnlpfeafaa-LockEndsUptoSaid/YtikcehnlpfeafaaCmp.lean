/- The reference's Cmp tells how two lists of bytes compare; it leaves memory alone. -/
import Derived.Test.YtikcehnlpfeafaaMem
import Derived.Test.YtikcehnlpfeafaaMathO
namespace Go.Proofs.Ytikcehnlpfeafaa
open Go Go.RowKit

end Go.Proofs.Ytikcehnlpfeafaa
