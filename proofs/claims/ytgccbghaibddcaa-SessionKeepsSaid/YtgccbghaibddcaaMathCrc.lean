/- Plain facts on the CRC-32, bit by bit: it is linear, a step loses nothing below 2^32, and bytes one behind the other are one number, the lowest first. No condition. -/
import Derived.Test.YtgccbghaibddcaaBase
namespace Go.Proofs.Ytgccbghaibddcaa

/-- One step of the register. -/
def stp (x : Nat) : Nat := if x % 2 = 1 then x / 2 ^^^ 3988292384 else x / 2
def stps : Nat → Nat → Nat
  | 0, x => x
  | n + 1, x => stps n (stp x)
/-- The register from a list on. -/
def regB : Nat → List UInt8 → Nat
  | x, [] => x
  | x, b :: r => regB (stps 8 (x ^^^ b.toNat)) r
def crcB (bs : List UInt8) : Nat := 4294967295 - regB 4294967295 bs
theorem regB_nil (x : Nat) : regB x [] = x := rfl
theorem stps_succ (n x : Nat) : stps (n + 1) x = stps n (stp x) := rfl
theorem xor_mod2 (x y : Nat) : (x ^^^ y) % 2 = (x % 2 + y % 2) % 2 := by
  have h := Nat.testBit_xor x y 0
  simp only [Nat.testBit_zero] at h
  rcases Nat.mod_two_eq_zero_or_one x with hx | hx <;> rcases Nat.mod_two_eq_zero_or_one y with hy | hy <;>
    rcases Nat.mod_two_eq_zero_or_one (x ^^^ y) with hz | hz <;> simp_all
theorem xor_div2 (x y : Nat) : (x ^^^ y) / 2 = x / 2 ^^^ y / 2 := by
  apply Nat.eq_of_testBit_eq
  intro i
  simp only [Nat.testBit_xor, ← Nat.testBit_succ]
theorem stp_xor (x y : Nat) : stp (x ^^^ y) = stp x ^^^ stp y := by
  unfold stp
  rw [xor_div2, xor_mod2]
  rcases Nat.mod_two_eq_zero_or_one x with hx | hx <;> rcases Nat.mod_two_eq_zero_or_one y with hy | hy <;> rw [hx, hy]
  · rfl
  · rw [if_pos (by decide), if_neg (by decide), if_pos (by decide), Nat.xor_assoc]
  · rw [if_pos (by decide), if_pos (by decide), if_neg (by decide), Nat.xor_assoc, Nat.xor_assoc, Nat.xor_comm 3988292384]
  · rw [if_neg (by decide), if_pos (by decide), if_pos (by decide), Nat.xor_assoc, ← Nat.xor_assoc 3988292384, Nat.xor_comm 3988292384, Nat.xor_assoc (y / 2), Nat.xor_self, Nat.xor_zero]
theorem stp_lt {x : Nat} (h : x < 2 ^ 32) : stp x < 2 ^ 32 := by
  unfold stp
  split
  · exact Nat.xor_lt_two_pow (by omega) (by decide)
  · omega
theorem stp_two (x : Nat) : stp (2 * x) = x := by
  unfold stp
  rw [if_neg (by omega)]
  omega
theorem stps_xor : ∀ (n x y : Nat), stps n (x ^^^ y) = stps n x ^^^ stps n y
  | 0, _, _ => rfl
  | n + 1, x, y => by rw [stps, stp_xor, stps_xor n]; rfl
theorem stps_lt : ∀ (n : Nat) {x : Nat}, x < 2 ^ 32 → stps n x < 2 ^ 32
  | 0, _, h => h
  | n + 1, _, h => stps_lt n (stp_lt h)
theorem stps_pow : ∀ (n x : Nat), stps n (x * 2 ^ n) = x
  | 0, x => by rw [stps]; omega
  | n + 1, x => by rw [stps, show x * 2 ^ (n + 1) = 2 * (x * 2 ^ n) by rw [Nat.pow_succ, Nat.mul_comm 2, Nat.mul_assoc], stp_two, stps_pow n]
theorem add_xor {b y : Nat} (h : b < 256) : b + 256 * y = b ^^^ 256 * y := by
  have h1 : 2 ^ 8 * y ^^^ b = 2 ^ 8 * y + b := by
    apply Nat.eq_of_testBit_eq
    intro i
    rw [Nat.testBit_two_pow_mul_add y (by simpa using h), Nat.testBit_xor, Nat.testBit_two_pow_mul]
    split
    · rw [show decide (i ≥ 8) = false by simp; omega, Bool.false_and, Bool.false_xor]
    · rw [show decide (i ≥ 8) = true by simp; omega, Bool.true_and, Nat.testBit_lt_two_pow (Nat.lt_of_lt_of_le (show b < 2 ^ 8 by simpa using h) (Nat.pow_le_pow_right (by decide) (by omega))), Bool.xor_false]
  rw [Nat.xor_comm, show 256 = 2 ^ 8 from rfl, h1, Nat.add_comm]
/-- Eight steps: what the lowest eight bits become, and the others moved. -/
theorem stps8 (x : Nat) : stps 8 x = stps 8 (x % 256) ^^^ x / 256 := by
  conv => lhs; rw [← Nat.mod_add_div x 256, add_xor (Nat.mod_lt _ (by decide)), stps_xor]
  rw [show 256 * (x / 256) = x / 256 * 2 ^ 8 by rw [Nat.mul_comm], stps_pow]
theorem crcB_lt (bs : List UInt8) : crcB bs < 2 ^ 32 := by
  unfold crcB
  omega
theorem regB_app : ∀ (as bs : List UInt8) (x : Nat), regB x (as ++ bs) = regB (regB x as) bs
  | [], _, _ => rfl
  | _ :: r, bs, _ => regB_app r bs _
end Go.Proofs.Ytgccbghaibddcaa
