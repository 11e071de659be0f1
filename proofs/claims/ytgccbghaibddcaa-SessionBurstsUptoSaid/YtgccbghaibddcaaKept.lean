/- The reference's Kept and Over: is the whole as Spare made it; each byte turned, and what stands elsewhere stands. -/
import Derived.Test.YtgccbghaibddcaaSpare
import Derived.Laws.BitsAllLaws
namespace Go.Proofs.Ytgccbghaibddcaa
open Go Go.RowKit

end Go.Proofs.Ytgccbghaibddcaa
