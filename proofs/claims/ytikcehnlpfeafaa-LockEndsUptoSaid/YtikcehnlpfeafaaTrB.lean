/- The table in memory: own, with, first. No condition but sizes. -/
import Derived.Test.YtikcehnlpfeafaaTr
import Derived.Test.YtikcehnlpfeafaaNext
import Derived.Deep.RegionLaw
namespace Go.Proofs.Ytikcehnlpfeafaa
open Go Go.RowKit

theorem Made.out {base : Nat} {w w' : World} {xs : List UInt8} {e : Ending} (h : Made base w xs e w') : ∃ A n c, e = .returned (.slice A n c) ∧ Own 5 w' base A n c xs ∧ Below base w w' := h
section
variable {w : World} {a : En} {v0 v1 v2 v3 : Value}
end
end Go.Proofs.Ytikcehnlpfeafaa
