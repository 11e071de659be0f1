/- From the rows' own words on lists of lists of entries, and on asks, to the words of the walks. No condition. -/
import Derived.Test.YtmpdenpopokigaaOpenE
import Derived.Test.YtmpdenpopokigaaEnL
namespace Go.Proofs.Ytmpdenpopokigaa
open Go Go.RowKit Go.Deep Go.ChangeShapes Go.WideShapes Go.ChangeAt

end Go.Proofs.Ytmpdenpopokigaa
