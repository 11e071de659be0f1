/- The reference's One and Sum are the register's steps, and its four the number's four bytes. No condition beyond a list's length. -/
import Derived.Test.YtgccbghaibddcaaOrdU
import Derived.Test.YtgccbghaibddcaaMathCrc
import Derived.Test.YtgccbghaibddcaaNext
import Derived.Laws.BitsAllLaws
namespace Go.Proofs.Ytgccbghaibddcaa
open Go Go.RowKit

/-- 'It hands back the number (32 bits); memory is as it was.' -/
def RetU (w : World) (n : Nat) (e : Ending) (w' : World) : Prop := e = .returned (.int .u32 (n : Int)) ∧ ∃ q, w' = w.drewN q

theorem stps_even {j m x : Nat} (h : m = j + 1) (h2 : x % 2 = 0) : stps m x = stps j (x / 2) := by
  rw [h, stps_succ, stp, if_neg (by omega)]
theorem stps_odd {j m x : Nat} (h : m = j + 1) (h2 : x % 2 = 1) : stps m x = stps j (x / 2 ^^^ 3988292384) := by
  rw [h, stps_succ, stp, if_pos h2]

theorem xor_poly {x : Nat} (h : x < 4294967296) : bits .xor .u32 ((x : Int) / 2) 3988292384 = ((x / 2 ^^^ 3988292384 : Nat) : Int) :=
  u32_xor_nat (x / 2) 3988292384 (by omega) (by decide)
theorem xor_poly_lt {x : Nat} (h : x < 4294967296) : x / 2 ^^^ 3988292384 < 4294967296 := Nat.xor_lt_two_pow (n := 32) (by omega) (by decide)

theorem regB_take {xs : List UInt8} {i : Nat} {b : UInt8} (x : Nat) (h : xs[i]? = some b) : regB x (xs.take (i + 1)) = stps 8 (regB x (xs.take i) ^^^ b.toNat) := by
  obtain ⟨hi, hb⟩ := List.getElem?_eq_some_iff.mp h
  rw [List.take_succ_eq_append_getElem hi, regB_app, hb]
  rfl
/-- The four bytes of a number, the greatest first. -/
def fourB (n : Nat) : List UInt8 := (ordU n).drop 4
theorem fourB_len (n : Nat) : (fourB n).length = 4 := rfl
end Go.Proofs.Ytgccbghaibddcaa
