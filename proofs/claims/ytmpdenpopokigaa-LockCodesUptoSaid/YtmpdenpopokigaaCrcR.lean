/- The reference's One and Sum are the register's steps, and its four the number's four bytes. No condition beyond a list's length. -/
import Derived.Test.YtmpdenpopokigaaOrdU
import Derived.Test.YtmpdenpopokigaaMathCrc
import Derived.Test.YtmpdenpopokigaaNext
import Derived.Laws.BitsAllLaws
namespace Go.Proofs.Ytmpdenpopokigaa
open Go Go.RowKit

end Go.Proofs.Ytmpdenpopokigaa
