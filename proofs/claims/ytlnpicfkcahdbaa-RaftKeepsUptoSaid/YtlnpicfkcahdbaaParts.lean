/- The reference's Equals is true of lists that read alike; codec.Parts and the reference's Parts return the parts of a frame in new memory, or the error. -/
import Derived.Test.YtlnpicfkcahdbaaFrame
import Derived.Test.YtlnpicfkcahdbaaGetU
import Derived.Test.YtlnpicfkcahdbaaBcmp
namespace Go.Proofs.Ytlnpicfkcahdbaa
open Go Go.RowKit

end Go.Proofs.Ytlnpicfkcahdbaa
