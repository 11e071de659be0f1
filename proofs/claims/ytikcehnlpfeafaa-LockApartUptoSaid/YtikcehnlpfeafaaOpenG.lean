/- From the rows' own words on lists of lists of entries, and on asks, to the words of the walks. No condition. -/
import Derived.Test.YtikcehnlpfeafaaOpenE
import Derived.Test.YtikcehnlpfeafaaEnL
namespace Go.Proofs.Ytikcehnlpfeafaa
open Go Go.RowKit Go.Deep Go.ChangeShapes Go.WideShapes Go.ChangeAt

end Go.Proofs.Ytikcehnlpfeafaa
