/- Plain facts on lists of bytes as numbers and in their order. No condition but that numbers are below 2^64. -/
import Derived.Test.YtgccbghaibddcaaSpec
namespace Go.Proofs.Ytgccbghaibddcaa

/-- How two lists compare, byte by byte. -/
def cmpB : List UInt8 → List UInt8 → Int
  | [], [] => 0
  | [], _ :: _ => -1
  | _ :: _, [] => 1
  | x :: xs, y :: ys => if x.toNat < y.toNat then -1 else if y.toNat < x.toNat then 1 else cmpB xs ys
theorem cmpB_lt {x y : UInt8} (xs ys : List UInt8) (h : x.toNat < y.toNat) : cmpB (x :: xs) (y :: ys) = -1 := by rw [cmpB, if_pos h]
theorem cmpB_gt {x y : UInt8} (xs ys : List UInt8) (h : y.toNat < x.toNat) : cmpB (x :: xs) (y :: ys) = 1 := by rw [cmpB, if_neg (by omega), if_pos h]
theorem cmpB_eq {x y : UInt8} (xs ys : List UInt8) (h : x.toNat = y.toNat) : cmpB (x :: xs) (y :: ys) = cmpB xs ys := by rw [cmpB, if_neg (by omega), if_neg (by omega)]
end Go.Proofs.Ytgccbghaibddcaa
