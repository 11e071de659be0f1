/- Plain facts on the CRC-32, bit by bit: it is linear, a step loses nothing below 2^32, and bytes one behind the other are one number, the lowest first. No condition. -/
import Derived.Test.YtgccbghaibddcaaBase
namespace Go.Proofs.Ytgccbghaibddcaa

/-- One step of the register. -/
def stp (x : Nat) : Nat := if x % 2 = 1 then x / 2 ^^^ 3988292384 else x / 2
def stps : Nat → Nat → Nat
  | 0, x => x
  | n + 1, x => stps n (stp x)
/-- The register from a list on. -/
def regB : Nat → List UInt8 → Nat
  | x, [] => x
  | x, b :: r => regB (stps 8 (x ^^^ b.toNat)) r
def crcB (bs : List UInt8) : Nat := 4294967295 - regB 4294967295 bs
/-- A list as one number, the lowest byte first. -/
def leB : List UInt8 → Nat
  | [] => 0
  | b :: r => b.toNat + 256 * leB r

theorem regB_nil (x : Nat) : regB x [] = x := rfl
theorem regB_cons (x : Nat) (b : UInt8) (r : List UInt8) : regB x (b :: r) = regB (stps 8 (x ^^^ b.toNat)) r := rfl
theorem leB_nil : leB [] = 0 := rfl
theorem leB_cons (b : UInt8) (r : List UInt8) : leB (b :: r) = b.toNat + 256 * leB r := rfl
theorem stps_zero (x : Nat) : stps 0 x = x := rfl
theorem stps_succ (n x : Nat) : stps (n + 1) x = stps n (stp x) := rfl
theorem xor_mod2 (x y : Nat) : (x ^^^ y) % 2 = (x % 2 + y % 2) % 2 := by
  have h := Nat.testBit_xor x y 0
  simp only [Nat.testBit_zero] at h
  rcases Nat.mod_two_eq_zero_or_one x with hx | hx <;> rcases Nat.mod_two_eq_zero_or_one y with hy | hy <;>
    rcases Nat.mod_two_eq_zero_or_one (x ^^^ y) with hz | hz <;> simp_all
theorem xor_div2 (x y : Nat) : (x ^^^ y) / 2 = x / 2 ^^^ y / 2 := by
  apply Nat.eq_of_testBit_eq
  intro i
  simp only [Nat.testBit_xor, ← Nat.testBit_succ]
theorem stp_xor (x y : Nat) : stp (x ^^^ y) = stp x ^^^ stp y := by
  unfold stp
  rw [xor_div2, xor_mod2]
  rcases Nat.mod_two_eq_zero_or_one x with hx | hx <;> rcases Nat.mod_two_eq_zero_or_one y with hy | hy <;> rw [hx, hy]
  · rfl
  · rw [if_pos (by decide), if_neg (by decide), if_pos (by decide), Nat.xor_assoc]
  · rw [if_pos (by decide), if_pos (by decide), if_neg (by decide), Nat.xor_assoc, Nat.xor_assoc, Nat.xor_comm 3988292384]
  · rw [if_neg (by decide), if_pos (by decide), if_pos (by decide), Nat.xor_assoc, ← Nat.xor_assoc 3988292384, Nat.xor_comm 3988292384, Nat.xor_assoc (y / 2), Nat.xor_self, Nat.xor_zero]
theorem stp_lt {x : Nat} (h : x < 2 ^ 32) : stp x < 2 ^ 32 := by
  unfold stp
  split
  · exact Nat.xor_lt_two_pow (by omega) (by decide)
  · omega
theorem stp_inj0 {x : Nat} (h : x < 2 ^ 32) (h0 : stp x = 0) : x = 0 := by
  unfold stp at h0
  split at h0
  · have h1 : x / 2 = 3988292384 := by
      have := congrArg (· ^^^ 3988292384) h0
      simpa only [Nat.xor_assoc, Nat.xor_self, Nat.xor_zero, Nat.zero_xor] using this
    omega
  · omega
theorem stp_two (x : Nat) : stp (2 * x) = x := by
  unfold stp
  rw [if_neg (by omega)]
  omega
theorem stps_xor : ∀ (n x y : Nat), stps n (x ^^^ y) = stps n x ^^^ stps n y
  | 0, _, _ => rfl
  | n + 1, x, y => by rw [stps, stp_xor, stps_xor n]; rfl
theorem stps_lt : ∀ (n : Nat) {x : Nat}, x < 2 ^ 32 → stps n x < 2 ^ 32
  | 0, _, h => h
  | n + 1, _, h => stps_lt n (stp_lt h)
theorem stps_inj0 : ∀ (n : Nat) {x : Nat}, x < 2 ^ 32 → stps n x = 0 → x = 0
  | 0, _, _, h => h
  | n + 1, _, hl, h => stp_inj0 hl (stps_inj0 n (stp_lt hl) h)
theorem stps_add : ∀ (m n x : Nat), stps (m + n) x = stps n (stps m x)
  | 0, n, x => by rw [Nat.zero_add]; rfl
  | m + 1, n, x => by rw [Nat.succ_add]; exact stps_add m n (stp x)
theorem stps_pow : ∀ (n x : Nat), stps n (x * 2 ^ n) = x
  | 0, x => by rw [stps]; omega
  | n + 1, x => by rw [stps, show x * 2 ^ (n + 1) = 2 * (x * 2 ^ n) by rw [Nat.pow_succ, Nat.mul_comm 2, Nat.mul_assoc], stp_two, stps_pow n]
theorem mul_xor_pow (a b n : Nat) : 2 ^ n * (a ^^^ b) = 2 ^ n * a ^^^ 2 ^ n * b := by
  apply Nat.eq_of_testBit_eq
  intro i
  simp only [Nat.testBit_xor, Nat.testBit_two_pow_mul]
  cases decide (i ≥ n) <;> simp
theorem add_xor {b y : Nat} (h : b < 256) : b + 256 * y = b ^^^ 256 * y := by
  have h1 : 2 ^ 8 * y ^^^ b = 2 ^ 8 * y + b := by
    apply Nat.eq_of_testBit_eq
    intro i
    rw [Nat.testBit_two_pow_mul_add y (by simpa using h), Nat.testBit_xor, Nat.testBit_two_pow_mul]
    split
    · rw [show decide (i ≥ 8) = false by simp; omega, Bool.false_and, Bool.false_xor]
    · rw [show decide (i ≥ 8) = true by simp; omega, Bool.true_and, Nat.testBit_lt_two_pow (Nat.lt_of_lt_of_le (show b < 2 ^ 8 by simpa using h) (Nat.pow_le_pow_right (by decide) (by omega))), Bool.xor_false]
  rw [Nat.xor_comm, show 256 = 2 ^ 8 from rfl, h1, Nat.add_comm]
/-- Eight steps: what the lowest eight bits become, and the others moved. -/
theorem stps8 (x : Nat) : stps 8 x = stps 8 (x % 256) ^^^ x / 256 := by
  conv => lhs; rw [← Nat.mod_add_div x 256, add_xor (Nat.mod_lt _ (by decide)), stps_xor]
  rw [show 256 * (x / 256) = x / 256 * 2 ^ 8 by rw [Nat.mul_comm], stps_pow]
/-- The register is as many steps of one number. -/
theorem regB_le : ∀ (bs : List UInt8) (x : Nat), regB x bs = stps (8 * bs.length) (x ^^^ leB bs)
  | [], x => by rw [regB_nil, leB_nil, Nat.xor_zero, List.length_nil, Nat.mul_zero, stps_zero]
  | b :: r, x => by
    rw [regB_cons, regB_le r, leB_cons, add_xor b.toNat_lt, List.length_cons, show 8 * (r.length + 1) = 8 + 8 * r.length by omega, stps_add, ← Nat.xor_assoc,
      stps_xor 8 (x ^^^ b.toNat), show 256 * leB r = leB r * 2 ^ 8 by rw [Nat.mul_comm], stps_pow]
theorem regB_lt : ∀ (bs : List UInt8) {x : Nat}, x < 2 ^ 32 → regB x bs < 2 ^ 32
  | [], _, h => h
  | b :: r, x, h => by
    rw [regB_cons]
    exact regB_lt r (stps_lt 8 (Nat.xor_lt_two_pow h (Nat.lt_of_lt_of_le b.toNat_lt (by decide))))
theorem crcB_lt (bs : List UInt8) : crcB bs < 2 ^ 32 := by
  unfold crcB
  omega
theorem regB_app : ∀ (as bs : List UInt8) (x : Nat), regB x (as ++ bs) = regB (regB x as) bs
  | [], _, _ => rfl
  | _ :: r, bs, _ => regB_app r bs _
/-- One bit turned, in the list and in its number. -/
theorem leB_set : ∀ (bs : List UInt8) (i j : Nat) (c d : UInt8), bs[i]? = some c → d.toNat = c.toNat ^^^ 2 ^ j → j < 8 →
    leB (bs.set i d) = leB bs ^^^ 2 ^ (8 * i + j)
  | [], _, _, _, _, h, _, _ => by simp at h
  | b :: r, 0, j, c, d, h, hd, hj => by
    obtain rfl : b = c := by simpa using h
    rw [List.set_cons_zero, leB_cons, leB_cons, add_xor d.toNat_lt, add_xor b.toNat_lt, hd, Nat.mul_zero, Nat.zero_add, Nat.xor_assoc, Nat.xor_assoc, Nat.xor_comm (2 ^ j)]
  | b :: r, i + 1, j, c, d, h, hd, hj => by
    rw [List.set_cons_succ, leB_cons, leB_cons, leB_set r i j c d (by simpa using h) hd hj, add_xor b.toNat_lt, add_xor b.toNat_lt, Nat.xor_assoc,
      show 8 * (i + 1) + j = 8 + (8 * i + j) by omega, Nat.pow_add 2 8, show 256 = 2 ^ 8 from rfl, mul_xor_pow]
theorem mod_pow_bit (x k : Nat) : x % 2 ^ (k + 1) = x % 2 ^ k ^^^ (if x.testBit k then 2 ^ k else 0) := by
  apply Nat.eq_of_testBit_eq
  intro i
  rw [Nat.testBit_xor, Nat.testBit_mod_two_pow, Nat.testBit_mod_two_pow]
  by_cases h : i = k
  · subst h
    cases hx : x.testBit i <;> simp [Nat.testBit_two_pow_self]
  · have h1 : (if x.testBit k then 2 ^ k else 0).testBit i = false := by
      split
      · exact Nat.testBit_two_pow_of_ne (by omega)
      · exact Nat.zero_testBit i
    rw [h1, Bool.xor_false]
    congr 1
    simp only [decide_eq_decide]
    omega
end Go.Proofs.Ytgccbghaibddcaa
