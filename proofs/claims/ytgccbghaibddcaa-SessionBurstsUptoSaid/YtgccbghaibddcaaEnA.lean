/- Entries: the reference's and the program's Less, Check, Twin, few. No condition but sizes. -/
import Derived.Test.YtgccbghaibddcaaEn
import Derived.Test.YtgccbghaibddcaaCl
import Derived.Test.YtgccbghaibddcaaCmp
import Derived.Test.YtgccbghaibddcaaBcmp
import Derived.Test.YtgccbghaibddcaaAwake
namespace Go.Proofs.Ytgccbghaibddcaa
open Go Go.RowKit

/-- 'These two share no block.' -/
def Dj (K V : Option Addr) : Prop := ∀ b, blk K = some b → blk V ≠ some b
theorem Dj.old {e : TypeId} {w w' : World} {base base' n c m d : Nat} {K V : Option Addr} {xs ys : List UInt8} (h : Own e w base K n c xs) (k : Own e w' base' V m d ys) (hb : w.heap.size ≤ base') : Dj K V := fun b h1 h2 => by
  have a1 := (OwnV.lt h b h1).2
  have a2 := (OwnV.lt k b h2).1
  omega
theorem Dj.symm {K V : Option Addr} (h : Dj K V) : Dj V K := fun b h1 h2 => h b h2 h1
section
variable {w : World} {a b : En} {v0 v1 v2 v3 u0 u1 u2 u3 : Value}
end
end Go.Proofs.Ytgccbghaibddcaa
