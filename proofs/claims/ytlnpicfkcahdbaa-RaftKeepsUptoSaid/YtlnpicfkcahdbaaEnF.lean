/- The reference over entries: Insert. No condition but sizes. -/
import Derived.Test.YtlnpicfkcahdbaaEnE
import Derived.Test.YtlnpicfkcahdbaaEnC
import Derived.Deep.RegionLaw
namespace Go.Proofs.Ytlnpicfkcahdbaa
open Go Go.RowKit

/-- Where an entry goes in, from the end. -/
def posI (es : List En) (e : En) : Nat → Nat
  | 0 => 0
  | k + 1 => match es[k]? with
    | some x => if lessE e x then posI es e k else k + 1
    | none => k + 1
def insL (es : List En) (e : En) : List En := es.take (posI es e es.length) ++ e :: es.drop (posI es e es.length)
end Go.Proofs.Ytlnpicfkcahdbaa
