/- OpenAll of the program and of the reference: all records up to the first that doesn't open. -/
import Derived.Test.YtgccbghaibddcaaCrcX
namespace Go.Proofs.Ytgccbghaibddcaa
open Go Go.RowKit

end Go.Proofs.Ytgccbghaibddcaa
