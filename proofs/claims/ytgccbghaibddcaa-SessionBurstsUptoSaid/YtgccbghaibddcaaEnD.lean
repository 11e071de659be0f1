/- The reference over entries: Same, SameList of what reads alike; Size. No condition but sizes. -/
import Derived.Test.YtgccbghaibddcaaEnB
import Derived.Deep.DeepCutAuto
import Derived.Deep.CutBlock
import Derived.Deep.RegionHeld3
namespace Go.Proofs.Ytgccbghaibddcaa
open Go Go.RowKit

theorem belowT' {w0 w1 w2 : World} (h : Below w0.heap.size w0 w1) (hb : Below w1.heap.size w1 w2) : Below w0.heap.size w0 w2 := h.trans (hb.mono h.size)
section
variable {w : World} {a : En} {v0 v1 v2 v3 u0 u1 u2 u3 : Value}
end
end Go.Proofs.Ytgccbghaibddcaa
