/- The reference's Equals is true of lists that read alike; codec.Parts and the reference's Parts return the parts of a frame in new memory, or the error. -/
import Derived.Test.YtgccbghaibddcaaFrame
import Derived.Test.YtgccbghaibddcaaGetU
import Derived.Test.YtgccbghaibddcaaBcmp
namespace Go.Proofs.Ytgccbghaibddcaa
open Go Go.RowKit

end Go.Proofs.Ytgccbghaibddcaa
