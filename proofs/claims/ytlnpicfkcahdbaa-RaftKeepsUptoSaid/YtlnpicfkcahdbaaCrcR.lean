/- The reference's One and Sum are the register's steps, and its four the number's four bytes. No condition beyond a list's length. -/
import Derived.Test.YtlnpicfkcahdbaaOrdU
import Derived.Test.YtlnpicfkcahdbaaMathCrc
import Derived.Test.YtlnpicfkcahdbaaNext
import Derived.Laws.BitsAllLaws
namespace Go.Proofs.Ytlnpicfkcahdbaa
open Go Go.RowKit

end Go.Proofs.Ytlnpicfkcahdbaa
