/- What the functions of layer 1 come to, as plain functions on numbers and lists of bytes. No condition. -/
import Derived.WalkKit
namespace Go.Proofs.Ytgccbghaibddcaa

/-- The byte of a number (the last eight bits), behind a name. -/
def bt (n : Nat) : UInt8 := UInt8.ofNat n
theorem bt_nat (i : Nat) (h : i < 256) : (bt i).toNat = i := by
  have : (UInt8.ofNat i).toNat = i % 256 := by simp [UInt8.toNat_ofNat']
  unfold bt
  omega
theorem bt_mod (i : Nat) : (bt i).toNat = i % 256 := by
  unfold bt
  simp [UInt8.toNat_ofNat']
theorem or128_all : ∀ a : Fin 256, a.val ||| 128 = a.val % 128 + 128 := by decide +kernel
theorem u8_or128' (x : Int) (h0 : 0 ≤ x) (h1 : x < 256) : bits .or .u8 x 128 = x % 128 + 128 := by
  have h := or128_all ⟨x.toNat, by omega⟩
  simp only at h
  rw [u8_or x 128 h0 h1 (by omega) (by omega)]
  simp only [Int.reduceToNat, h]
  omega

/-- A number in groups of seven bits, the least first. -/
def putU (n : Nat) : List UInt8 :=
  if h : n < 128 then [bt n] else bt (n % 128 + 128) :: putU (n / 128)
termination_by n
decreasing_by omega

theorem putU_small {n : Nat} (h : n < 128) : putU n = [bt n] := by rw [putU, dif_pos h]
theorem putU_big {n : Nat} (h : ¬ n < 128) : putU n = bt (n % 128 + 128) :: putU (n / 128) := by rw [putU, dif_neg h]

theorem putU_len : ∀ (k n : Nat), n < 128 ^ (k + 1) → (putU n).length ≤ k + 1
  | 0, n, h => by rw [putU_small (by simpa using h)]; simp
  | k + 1, n, h => by
    by_cases hs : n < 128
    · rw [putU_small hs]; simp
    · rw [putU_big hs]
      have h' : n < 128 ^ (k + 1) * 128 := by rw [← Nat.pow_succ]; exact h
      have := putU_len k (n / 128) (Nat.div_lt_of_lt_mul (by rw [Nat.mul_comm]; exact h'))
      simp only [List.length_cons]
      omega
theorem putU_pos (n : Nat) : 0 < (putU n).length := by
  by_cases hs : n < 128
  · rw [putU_small hs]; simp
  · rw [putU_big hs]; simp

/-- The bound of a uint64, behind a name. -/
def B64 : Nat := 18446744073709551616
theorem u64_nat (n : Nat) (h : n < B64) : IntKind.u64.wrap (n : Int) = (n : Int) := by
  unfold B64 at h
  rw [IntKind.wrap_u64]
  omega
theorem putU_len64 (n : Nat) (h : n < B64) : (putU n).length ≤ 10 :=
  putU_len 9 n (Nat.lt_of_lt_of_le h (by unfold B64; decide))

/-- A number read from a list of groups, i of them read already, 'acc' in all: the number, how many groups, the error. -/
def getL : List UInt8 → Nat → Nat → Nat × Nat × Nat
  | [], _, _ => (0, 0, 5)
  | c :: r, i, acc =>
    if (i = 9 ∧ 1 < c.toNat) ∨ (0 < i ∧ c.toNat = 0) then (0, 0, 3)
    else if c.toNat < 128 then (acc + c.toNat * 128 ^ i, i + 1, 0)
    else getL r (i + 1) (acc + (c.toNat % 128) * 128 ^ i)
theorem getL_form {c : UInt8} (r : List UInt8) {i : Nat} (acc : Nat) (h : (i = 9 ∧ 1 < c.toNat) ∨ (0 < i ∧ c.toNat = 0)) : getL (c :: r) i acc = (0, 0, 3) := by
  rw [getL, if_pos h]
theorem getL_last {c : UInt8} (r : List UInt8) {i : Nat} (acc : Nat) (h : ¬ ((i = 9 ∧ 1 < c.toNat) ∨ (0 < i ∧ c.toNat = 0))) (h1 : c.toNat < 128) :
    getL (c :: r) i acc = (acc + c.toNat * 128 ^ i, i + 1, 0) := by
  rw [getL, if_neg h, if_pos h1]
theorem getL_more {c : UInt8} (r : List UInt8) {i : Nat} (acc : Nat) (h : ¬ ((i = 9 ∧ 1 < c.toNat) ∨ (0 < i ∧ c.toNat = 0))) (h1 : ¬ c.toNat < 128) :
    getL (c :: r) i acc = getL r (i + 1) (acc + (c.toNat % 128) * 128 ^ i) := by
  rw [getL, if_neg h, if_neg h1]

/-- The number at a place: the number, the place behind it, the error. -/
def getU (xs : List UInt8) (t : Int) : Nat × Int × Int :=
  if t < 0 ∨ (xs.length : Int) < t then (0, 0, 1)
  else
    let g := getL (xs.drop t.toNat) 0 0
    (g.1, if g.2.2 = 0 then t + g.2.1 else 0, g.2.2)
theorem getU_out {xs : List UInt8} {t : Int} (h : t < 0 ∨ (xs.length : Int) < t) : getU xs t = (0, 0, 1) := by rw [getU, if_pos h]
theorem getU_in {xs : List UInt8} {k : Nat} (h : k ≤ xs.length) {n j e : Nat} (hg : getL (xs.drop k) 0 0 = (n, j, e)) :
    getU xs (k : Int) = (n, if e = 0 then (k : Int) + j else 0, (e : Int)) := by
  rw [getU, if_neg (by omega)]
  simp only [Int.toNat_natCast, hg]

/-- What the rounds of the loop keep: what is read so far is less than the next group's weight; the ninth group alone may be followed by a tenth. -/
theorem pow128 (i : Nat) (h : i ≤ 9) : 128 ^ i ≤ 9223372036854775808 := Nat.le_trans (Nat.pow_le_pow_right (by omega) h) (by decide)
theorem pow128' (i : Nat) (h : i ≤ 8) : 128 ^ i ≤ 72057594037927936 := Nat.le_trans (Nat.pow_le_pow_right (by omega) h) (by decide)

theorem drop_cons {xs : List UInt8} {k : Nat} {x : UInt8} (h : xs[k]? = some x) : xs.drop k = x :: xs.drop (k + 1) := by
  obtain ⟨hk, rfl⟩ := List.getElem?_eq_some_iff.1 h
  exact List.drop_eq_getElem_cons hk

theorem and127_all : ∀ a : Fin 256, a.val &&& 127 = a.val % 128 := by decide +kernel
theorem u8_and127 (z : Nat) (h : z < 256) : bits .and .u8 (z : Int) 127 = ((z % 128 : Nat) : Int) := by
  have h1 := and127_all ⟨z, h⟩
  simp only at h1
  have h2 := u8_and_nat z 127 h (by omega)
  rw [h1] at h2
  exact h2

/-- The group laid on top of what is read. -/
theorem group_on (acc z i : Nat) (hz : z < 256) (hi : i ≤ 9) (h9 : i = 9 → z % 128 ≤ 1) (ha : acc < 128 ^ i) :
    bits .or .u64 (acc : Int) (IntKind.u64.wrap (IntKind.u64.wrap (bits .and .u8 (z : Int) 127) * 2 ^ (7 * i))) = ((acc + z % 128 * 128 ^ i : Nat) : Int) := by
  have hp : (2 : Nat) ^ (7 * i) = 128 ^ i := by rw [Nat.pow_mul]
  have hlt : z % 128 * 128 ^ i + 128 ^ i ≤ 18446744073709551616 := by
    rcases Nat.lt_or_ge i 9 with h | h
    · have h1 : 128 ^ i ≤ 72057594037927936 := pow128' i (by omega)
      have h2 : z % 128 * 128 ^ i ≤ 127 * 128 ^ i := Nat.mul_le_mul_right _ (by omega)
      omega
    · have h1 : 128 ^ i ≤ 9223372036854775808 := pow128 i (by omega)
      have h2 : z % 128 * 128 ^ i ≤ 1 * 128 ^ i := Nat.mul_le_mul_right _ (h9 (by omega))
      omega
  have hpos : 0 < 128 ^ i := Nat.pow_pos (by omega)
  rw [u8_and127 z hz, u64_nat _ (by unfold B64; omega)]
  have e : ((z % 128 : Nat) : Int) * 2 ^ (7 * i) = ((z % 128 * 128 ^ i : Nat) : Int) := by
    rw [Int.natCast_mul, ← hp, Int.natCast_pow]; rfl
  rw [e, u64_nat _ (by unfold B64; omega), u64_or_nat _ _ (by omega) (by omega)]
  have h3 : acc ||| z % 128 * 128 ^ i = acc + z % 128 * 128 ^ i := by
    rw [Nat.or_comm, Nat.add_comm, ← hp, Nat.mul_comm]
    exact (Nat.two_pow_add_eq_or_of_lt (by rw [hp]; exact ha) (z % 128)).symm
  rw [h3]

theorem acc_step {acc z i : Nat} (h : acc < 128 ^ i) (hz : z % 128 < 128) : acc + z % 128 * 128 ^ i < 128 ^ (i + 1) := by
  have h1 : z % 128 * 128 ^ i ≤ 127 * 128 ^ i := Nat.mul_le_mul_right _ (by omega)
  rw [Nat.pow_succ]
  omega

/-- A number in eight bytes, the greatest first. -/
def ordU (n : Nat) : List UInt8 :=
  [bt (n / 72057594037927936), bt (n / 281474976710656), bt (n / 1099511627776), bt (n / 4294967296), bt (n / 16777216), bt (n / 65536), bt (n / 256), bt n]
/-- A signed number as the unsigned one that stands at its place. -/
def up (z : Int) : Nat := (z + 9223372036854775808).toNat
/-- 'An int64.' -/
def I64 (z : Int) : Prop := -9223372036854775808 ≤ z ∧ z ≤ 9223372036854775807

end Go.Proofs.Ytgccbghaibddcaa
