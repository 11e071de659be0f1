/- The reference's Equals is true of lists that read alike; codec.Parts and the reference's Parts return the parts of a frame in new memory, or the error. -/
import Derived.Test.YtikcehnlpfeafaaFrame
import Derived.Test.YtikcehnlpfeafaaGetU
import Derived.Test.YtikcehnlpfeafaaBcmp
namespace Go.Proofs.Ytikcehnlpfeafaa
open Go Go.RowKit

end Go.Proofs.Ytikcehnlpfeafaa
