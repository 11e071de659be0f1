/- The reference's One and Sum are the register's steps, and its four the number's four bytes. No condition beyond a list's length. -/
import Derived.Test.YtikcehnlpfeafaaOrdU
import Derived.Test.YtikcehnlpfeafaaMathCrc
import Derived.Test.YtikcehnlpfeafaaNext
import Derived.Laws.BitsAllLaws
namespace Go.Proofs.Ytikcehnlpfeafaa
open Go Go.RowKit

end Go.Proofs.Ytikcehnlpfeafaa
