/- codec.GetU and the reference's GetU return the number at a place, and the place behind it, or the error. -/
import Derived.Test.YtgccbghaibddcaaMem
namespace Go.Proofs.Ytgccbghaibddcaa
open Go Go.RowKit

end Go.Proofs.Ytgccbghaibddcaa
