/- codec.Frame and the reference's Frame return the framed parts in new memory; Copies copies a list of lists; lists that hold at most 268435456 values. -/
import Derived.Test.YtgccbghaibddcaaLists
import Derived.Test.YtgccbghaibddcaaMathF
namespace Go.Proofs.Ytgccbghaibddcaa
open Go Go.RowKit

theorem info_sl : (Try.prog.info? 30).map (fun i => (i.zero, i.size, i.bytes)) = some (some (.slice none 0 0), 1, 24) := by kernel_rfl

end Go.Proofs.Ytgccbghaibddcaa
