/- Plain facts on framed parts: what is framed is read back as the same parts. No condition but that lengths are below 2^64. -/
import Derived.Test.YtgccbghaibddcaaMathU
import Derived.Test.YtgccbghaibddcaaLists
namespace Go.Proofs.Ytgccbghaibddcaa

/-- The parts from place p on, f of them at most; 'acc' are read already: the parts, the error. -/
def partsF (xs : List UInt8) : Nat → Nat → List (List UInt8) → List (List UInt8) × Int
  | 0, p, acc => if p < xs.length then ([], 5) else (acc, 0)
  | f + 1, p, acc =>
    if p < xs.length then
      if (getU xs p).2.2 ≠ 0 then ([], (getU xs p).2.2)
      else if (xs.length : Int) - (getU xs p).2.1 < ((getU xs p).1 : Int) then ([], 5)
      else partsF xs f ((getU xs p).2.1.toNat + (getU xs p).1) (acc ++ [(xs.drop (getU xs p).2.1.toNat).take (getU xs p).1])
    else (acc, 0)
def parts (xs : List UInt8) : List (List UInt8) × Int := partsF xs xs.length 0 []
end Go.Proofs.Ytgccbghaibddcaa
