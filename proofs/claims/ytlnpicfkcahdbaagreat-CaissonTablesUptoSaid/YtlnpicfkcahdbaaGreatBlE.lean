/- A filter's reference: a key's bit, May. No condition but sizes. -/
import Derived.Test.YtlnpicfkcahdbaaGreatBlD
namespace Go.Proofs.YtlnpicfkcahdbaaGreat
open Go Go.RowKit

end Go.Proofs.YtlnpicfkcahdbaaGreat
