/- Lists of entries in order: inserted, looked up, sorted (plain mathematics). -/
import Derived.Test.YtmpdenpopokigaaMathE
import Derived.Test.YtmpdenpopokigaaEnF
namespace Go.Proofs.Ytmpdenpopokigaa
open Go Go.RowKit

end Go.Proofs.Ytmpdenpopokigaa
