/- codec.Cmp (bytes.Compare, the runtime's own comparison) tells how two lists of bytes compare; it leaves memory alone. -/
import Derived.Test.YtlnpicfkcahdbaaCmp
import Derived.Lib.BytesEntry
import Derived.Laws.Externs
namespace Go.Proofs.Ytlnpicfkcahdbaa
open Go Go.RowKit

end Go.Proofs.Ytlnpicfkcahdbaa
