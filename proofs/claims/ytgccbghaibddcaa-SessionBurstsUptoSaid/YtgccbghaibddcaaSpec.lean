/- What the functions of layer 1 come to, as plain functions on numbers and lists of bytes. No condition. -/
import Derived.WalkKit
namespace Go.Proofs.Ytgccbghaibddcaa

/-- The byte of a number (the last eight bits), behind a name. -/
def bt (n : Nat) : UInt8 := UInt8.ofNat n
theorem bt_nat (i : Nat) (h : i < 256) : (bt i).toNat = i := by
  have : (UInt8.ofNat i).toNat = i % 256 := by simp [UInt8.toNat_ofNat']
  unfold bt
  omega
theorem bt_mod (i : Nat) : (bt i).toNat = i % 256 := by
  unfold bt
  simp [UInt8.toNat_ofNat']
theorem or128_all : ∀ a : Fin 256, a.val ||| 128 = a.val % 128 + 128 := by decide +kernel
theorem u8_or128' (x : Int) (h0 : 0 ≤ x) (h1 : x < 256) : bits .or .u8 x 128 = x % 128 + 128 := by
  have h := or128_all ⟨x.toNat, by omega⟩
  simp only at h
  rw [u8_or x 128 h0 h1 (by omega) (by omega)]
  simp only [Int.reduceToNat, h]
  omega

/-- A number in groups of seven bits, the least first. -/
def putU (n : Nat) : List UInt8 :=
  if h : n < 128 then [bt n] else bt (n % 128 + 128) :: putU (n / 128)
termination_by n
decreasing_by omega

theorem putU_small {n : Nat} (h : n < 128) : putU n = [bt n] := by rw [putU, dif_pos h]
theorem putU_big {n : Nat} (h : ¬ n < 128) : putU n = bt (n % 128 + 128) :: putU (n / 128) := by rw [putU, dif_neg h]

theorem putU_len : ∀ (k n : Nat), n < 128 ^ (k + 1) → (putU n).length ≤ k + 1
  | 0, n, h => by rw [putU_small (by simpa using h)]; simp
  | k + 1, n, h => by
    by_cases hs : n < 128
    · rw [putU_small hs]; simp
    · rw [putU_big hs]
      have h' : n < 128 ^ (k + 1) * 128 := by rw [← Nat.pow_succ]; exact h
      have := putU_len k (n / 128) (Nat.div_lt_of_lt_mul (by rw [Nat.mul_comm]; exact h'))
      simp only [List.length_cons]
      omega
theorem putU_pos (n : Nat) : 0 < (putU n).length := by
  by_cases hs : n < 128
  · rw [putU_small hs]; simp
  · rw [putU_big hs]; simp

/-- The bound of a uint64, behind a name. -/
def B64 : Nat := 18446744073709551616
theorem putU_len64 (n : Nat) (h : n < B64) : (putU n).length ≤ 10 :=
  putU_len 9 n (Nat.lt_of_lt_of_le h (by unfold B64; decide))

/-- A number read from a list of groups, i of them read already, 'acc' in all: the number, how many groups, the error. -/
def getL : List UInt8 → Nat → Nat → Nat × Nat × Nat
  | [], _, _ => (0, 0, 5)
  | c :: r, i, acc =>
    if (i = 9 ∧ 1 < c.toNat) ∨ (0 < i ∧ c.toNat = 0) then (0, 0, 3)
    else if c.toNat < 128 then (acc + c.toNat * 128 ^ i, i + 1, 0)
    else getL r (i + 1) (acc + (c.toNat % 128) * 128 ^ i)
/-- The number at a place: the number, the place behind it, the error. -/
def getU (xs : List UInt8) (t : Int) : Nat × Int × Int :=
  if t < 0 ∨ (xs.length : Int) < t then (0, 0, 1)
  else
    let g := getL (xs.drop t.toNat) 0 0
    (g.1, if g.2.2 = 0 then t + g.2.1 else 0, g.2.2)
/-- A number in eight bytes, the greatest first. -/
def ordU (n : Nat) : List UInt8 :=
  [bt (n / 72057594037927936), bt (n / 281474976710656), bt (n / 1099511627776), bt (n / 4294967296), bt (n / 16777216), bt (n / 65536), bt (n / 256), bt n]
/-- A signed number as the unsigned one that stands at its place. -/
def up (z : Int) : Nat := (z + 9223372036854775808).toNat
/-- 'An int64.' -/
def I64 (z : Int) : Prop := -9223372036854775808 ≤ z ∧ z ≤ 9223372036854775807

end Go.Proofs.Ytgccbghaibddcaa
