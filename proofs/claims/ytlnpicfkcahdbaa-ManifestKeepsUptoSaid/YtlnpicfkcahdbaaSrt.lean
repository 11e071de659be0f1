/- Lists of entries in order: inserted, looked up, sorted (plain mathematics). -/
import Derived.Test.YtlnpicfkcahdbaaMathE
import Derived.Test.YtlnpicfkcahdbaaEnF
namespace Go.Proofs.Ytlnpicfkcahdbaa
open Go Go.RowKit

end Go.Proofs.Ytlnpicfkcahdbaa
