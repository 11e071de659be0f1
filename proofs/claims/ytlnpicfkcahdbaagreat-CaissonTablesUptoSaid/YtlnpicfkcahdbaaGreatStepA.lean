/- Bytes appended at a step of a region that draws its order. No condition. -/
import Derived.Test.YtlnpicfkcahdbaaGreatMem
import Derived.Deep.RegionLaw
namespace Go.Proofs.YtlnpicfkcahdbaaGreat
open Go Go.RowKit

end Go.Proofs.YtlnpicfkcahdbaaGreat
