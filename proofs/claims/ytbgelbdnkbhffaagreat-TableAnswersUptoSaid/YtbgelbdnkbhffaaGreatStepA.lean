/- Bytes appended at a step of a region that draws its order. No condition. -/
import Derived.Test.YtbgelbdnkbhffaaGreatMem
import Derived.Deep.RegionLaw
namespace Go.Proofs.YtbgelbdnkbhffaaGreat
open Go Go.RowKit

end Go.Proofs.YtbgelbdnkbhffaaGreat
