/- The reference's Apart, with blocks that stand. -/
import Derived.Test.YtlnpicfkcahdbaaGreatApart
import Derived.Test.YtlnpicfkcahdbaaGreatStageF
namespace Go.Proofs.YtlnpicfkcahdbaaGreat
open Go Go.RowKit

end Go.Proofs.YtlnpicfkcahdbaaGreat
