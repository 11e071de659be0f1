/- codec.appendU, codec.PutU and the reference's PutU return the number in groups of seven bits, in new memory. -/
import Derived.Test.YtikcehnlpfeafaaProg
import Derived.Handy
import Derived.Lib.Hide
import Derived.Test.YtikcehnlpfeafaaBase
import Derived.Test.YtikcehnlpfeafaaSpec
namespace Go.Proofs.Ytikcehnlpfeafaa
open Go Go.RowKit

theorem info_u8 : (Try.prog.info? 5).map (fun i => (i.zero, i.size, i.bytes)) = some (some (.int .u8 0), 1, 1) := by kernel_rfl
/-- 'It hands back a slice of its own, from block base on, that holds xs; what lay below base stands.' -/
def Made (base : Nat) (w : World) (xs : List UInt8) (e : Ending) (w' : World) : Prop :=
  ∃ A n c, e = .returned (.slice A n c) ∧ Own 5 w' base A n c xs ∧ Below base w w'

end Go.Proofs.Ytikcehnlpfeafaa
