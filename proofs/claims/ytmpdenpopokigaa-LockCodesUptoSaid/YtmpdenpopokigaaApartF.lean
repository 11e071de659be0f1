/- The reference's Apart, with blocks that stand. -/
import Derived.Test.YtmpdenpopokigaaApart
import Derived.Test.YtmpdenpopokigaaStageF
namespace Go.Proofs.Ytmpdenpopokigaa
open Go Go.RowKit

end Go.Proofs.Ytmpdenpopokigaa
