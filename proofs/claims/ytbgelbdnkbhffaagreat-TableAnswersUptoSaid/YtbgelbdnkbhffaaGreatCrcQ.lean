/- The reference's Open: the record at a place, in new memory, and the place behind it; or the kind of what is wrong. -/
import Derived.Test.YtbgelbdnkbhffaaGreatCrcO
import Derived.Test.YtbgelbdnkbhffaaGreatCmp
namespace Go.Proofs.YtbgelbdnkbhffaaGreat
open Go Go.RowKit

end Go.Proofs.YtbgelbdnkbhffaaGreat
