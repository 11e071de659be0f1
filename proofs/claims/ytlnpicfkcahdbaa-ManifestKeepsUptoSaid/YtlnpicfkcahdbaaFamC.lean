/- Copies and codec.Parts hand back rows over families: lists that share no memory. -/
import Derived.Test.YtlnpicfkcahdbaaFam
import Derived.Test.YtlnpicfkcahdbaaParts
namespace Go.Proofs.Ytlnpicfkcahdbaa
open Go Go.RowKit

end Go.Proofs.Ytlnpicfkcahdbaa
