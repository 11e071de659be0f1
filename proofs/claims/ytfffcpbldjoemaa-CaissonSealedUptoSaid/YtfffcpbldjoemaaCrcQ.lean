/- The reference's Open: the record at a place, in new memory, and the place behind it; or the kind of what is wrong. -/
import Derived.Test.YtfffcpbldjoemaaCrcO
import Derived.Test.YtfffcpbldjoemaaCmp
namespace Go.Proofs.Ytfffcpbldjoemaa
open Go Go.RowKit

end Go.Proofs.Ytfffcpbldjoemaa
