/- The reference's Apart, with blocks that stand. -/
import Derived.Test.YtikcehnlpfeafaaApart
import Derived.Test.YtikcehnlpfeafaaStageF
namespace Go.Proofs.Ytikcehnlpfeafaa
open Go Go.RowKit

end Go.Proofs.Ytikcehnlpfeafaa
