/- codec.GetU and the reference's GetU return the number at a place, and the place behind it, or the error. -/
import Derived.Test.YtikcehnlpfeafaaMem
namespace Go.Proofs.Ytikcehnlpfeafaa
open Go Go.RowKit

end Go.Proofs.Ytikcehnlpfeafaa
