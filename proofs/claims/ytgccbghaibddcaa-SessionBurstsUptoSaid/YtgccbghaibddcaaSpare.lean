/- The reference's Spare, Kept and Over: a copy with marked room behind it; is it as it was made; each byte turned. -/
import Derived.Test.YtgccbghaibddcaaPool
import Derived.Test.YtgccbghaibddcaaNext
import Derived.Deep.QuietTactic
import Derived.BigQuiet
import Derived.IntWalk
import Derived.Laws.CopyOwn
namespace Go.Proofs.Ytgccbghaibddcaa
open Go Go.RowKit

/-- What the marked room holds at place i. -/
def sp (i : Nat) : UInt8 := bt (160 + i % 31)
def room (n k : Nat) : List UInt8 := (List.range k).map fun j => sp (n + j)
end Go.Proofs.Ytgccbghaibddcaa
