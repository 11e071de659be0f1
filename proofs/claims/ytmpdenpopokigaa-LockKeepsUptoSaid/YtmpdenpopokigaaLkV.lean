/- The reference's Check, as the lock's check. -/
import Derived.Test.YtmpdenpopokigaaLkC
import Derived.Deep.QuietTactic
import Derived.BigQuiet
namespace Go.Proofs.Ytmpdenpopokigaa
open Go Go.RowKit
section
variable {w : World} {A : Option Addr} {n c : Nat} {rs : List Rg}
end
end Go.Proofs.Ytmpdenpopokigaa
