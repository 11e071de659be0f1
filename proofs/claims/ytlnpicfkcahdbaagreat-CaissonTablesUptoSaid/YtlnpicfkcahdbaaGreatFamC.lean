/- Copies and codec.Parts hand back rows over families: lists that share no memory. -/
import Derived.Test.YtlnpicfkcahdbaaGreatFam
import Derived.Test.YtlnpicfkcahdbaaGreatParts
namespace Go.Proofs.YtlnpicfkcahdbaaGreat
open Go Go.RowKit

end Go.Proofs.YtlnpicfkcahdbaaGreat
