/- Copies and codec.Parts hand back rows over families: lists that share no memory. -/
import Derived.Test.YtgccbghaibddcaaFam
import Derived.Test.YtgccbghaibddcaaParts
namespace Go.Proofs.Ytgccbghaibddcaa
open Go Go.RowKit

end Go.Proofs.Ytgccbghaibddcaa
