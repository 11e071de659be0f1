/- Plain facts on framed parts: what is framed is read back as the same parts. No condition but that lengths are below 2^64. -/
import Derived.Test.YtgccbghaibddcaaMathU
import Derived.Test.YtgccbghaibddcaaLists
namespace Go.Proofs.Ytgccbghaibddcaa

/-- The parts from place p on, f of them at most; 'acc' are read already: the parts, the error. -/
def partsF (xs : List UInt8) : Nat → Nat → List (List UInt8) → List (List UInt8) × Int
  | 0, p, acc => if p < xs.length then ([], 5) else (acc, 0)
  | f + 1, p, acc =>
    if p < xs.length then
      if (getU xs p).2.2 ≠ 0 then ([], (getU xs p).2.2)
      else if (xs.length : Int) - (getU xs p).2.1 < ((getU xs p).1 : Int) then ([], 5)
      else partsF xs f ((getU xs p).2.1.toNat + (getU xs p).1) (acc ++ [(xs.drop (getU xs p).2.1.toNat).take (getU xs p).1])
    else (acc, 0)
def parts (xs : List UInt8) : List (List UInt8) × Int := partsF xs xs.length 0 []
theorem getU_at (pre r : List UInt8) (n : Nat) (h : n < B64) : getU (pre ++ (putU n ++ r)) (pre.length : Int) = (n, ((pre.length + (putU n).length : Nat) : Int), 0) := by
  have h1 := getL_putU 10 n (Nat.lt_of_lt_of_le h (by unfold B64; decide)) r 0 0 (by omega) (by omega) (by simpa using h) (fun h => absurd h (by omega))
  have h2 := getU_in (xs := pre ++ (putU n ++ r)) (k := pre.length) (by simp) (n := n) (j := (putU n).length) (e := 0) (by rw [List.drop_left]; simpa using h1)
  rw [h2]
  simp

end Go.Proofs.Ytgccbghaibddcaa
