/- Plain facts on lists of bytes as numbers and in their order. No condition but that numbers are below 2^64. -/
import Derived.Test.YtmpdenpopokigaaSpec
namespace Go.Proofs.Ytmpdenpopokigaa

/-- How two lists compare, byte by byte. -/
def cmpB : List UInt8 → List UInt8 → Int
  | [], [] => 0
  | [], _ :: _ => -1
  | _ :: _, [] => 1
  | x :: xs, y :: ys => if x.toNat < y.toNat then -1 else if y.toNat < x.toNat then 1 else cmpB xs ys
theorem cmpB_lt {x y : UInt8} (xs ys : List UInt8) (h : x.toNat < y.toNat) : cmpB (x :: xs) (y :: ys) = -1 := by rw [cmpB, if_pos h]
theorem cmpB_gt {x y : UInt8} (xs ys : List UInt8) (h : y.toNat < x.toNat) : cmpB (x :: xs) (y :: ys) = 1 := by rw [cmpB, if_neg (by omega), if_pos h]
theorem cmpB_eq {x y : UInt8} (xs ys : List UInt8) (h : x.toNat = y.toNat) : cmpB (x :: xs) (y :: ys) = cmpB xs ys := by rw [cmpB, if_neg (by omega), if_neg (by omega)]
theorem cmpB_zero : ∀ xs ys : List UInt8, cmpB xs ys = 0 → xs = ys
  | [], [], _ => rfl
  | [], _ :: _, h => by cases h
  | _ :: _, [], h => by cases h
  | x :: xs, y :: ys, h => by
    rcases Nat.lt_trichotomy x.toNat y.toNat with g | g | g
    · rw [cmpB_lt _ _ g] at h; cases h
    · rw [cmpB_eq _ _ g] at h
      rw [UInt8.toNat_inj.1 g, cmpB_zero xs ys h]
    · rw [cmpB_gt _ _ g] at h; cases h

end Go.Proofs.Ytmpdenpopokigaa
