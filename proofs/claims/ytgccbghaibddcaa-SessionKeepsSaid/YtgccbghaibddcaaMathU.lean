/- Plain facts on numbers in groups of seven bits: what is written is read back, and what is read was written so. No condition but that numbers are below 2^64. -/
import Derived.Test.YtgccbghaibddcaaSpec
namespace Go.Proofs.Ytgccbghaibddcaa

theorem shift_mul (v i : Nat) : v / 128 * 128 ^ (i + 1) + v % 128 * 128 ^ i = v * 128 ^ i := by
  have h : v = 128 * (v / 128) + v % 128 := (Nat.div_add_mod v 128).symm
  have e : v / 128 * 128 ^ (i + 1) = 128 * (v / 128) * 128 ^ i := by
    rw [Nat.pow_succ, Nat.mul_comm (128 ^ i) 128, ← Nat.mul_assoc, Nat.mul_comm (v / 128) 128]
  rw [e, ← Nat.add_mul]
  congr 1
  omega

theorem getL_putU : ∀ (f n : Nat), n < 128 ^ f → ∀ (r : List UInt8) (i acc : Nat), i ≤ 9 → acc < 128 ^ i → acc + n * 128 ^ i < B64 → (0 < i → 0 < n) →
    getL (putU n ++ r) i acc = (acc + n * 128 ^ i, i + (putU n).length, 0)
  | 0, n, hf, r, i, acc, hi, ha, hb, h0 => by
    have hn : n = 0 := by simpa using hf
    subst hn
    rw [putU_small (by omega), List.cons_append, getL_last]
    · rw [bt_nat 0 (by omega)]
      rfl
    · rw [bt_nat 0 (by omega)]
      omega
    · rw [bt_nat 0 (by omega)]
      omega
  | f + 1, n, hf, r, i, acc, hi, ha, hb, h0 => by
    have h9 : i = 9 → n ≤ 1 := fun h => by
      subst h
      unfold B64 at hb
      omega
    by_cases hs : n < 128
    · rw [putU_small hs, List.cons_append, getL_last]
      · rw [bt_nat n (by omega)]
        rfl
      · rw [bt_nat n (by omega)]
        omega
      · rw [bt_nat n (by omega)]
        exact hs
    · rw [putU_big hs, List.cons_append, getL_more]
      · rw [bt_nat _ (by omega)]
        have e1 : (n % 128 + 128) % 128 = n % 128 := by omega
        have e2 := shift_mul n i
        rw [e1, getL_putU f (n / 128) (Nat.div_lt_of_lt_mul (by rw [Nat.mul_comm]; exact hf)) _ (i + 1) _ (by omega) ?_ ?_ (fun _ => by omega)]
        · rw [Nat.add_assoc, Nat.add_comm (n % 128 * 128 ^ i), e2, List.length_cons]
          congr 2
          omega
        · have := acc_step (z := n) ha (by omega)
          exact this
        · rw [Nat.add_assoc, Nat.add_comm (n % 128 * 128 ^ i), e2]
          exact hb
      · rw [bt_nat _ (by omega)]
        omega
      · rw [bt_nat _ (by omega)]
        omega

end Go.Proofs.Ytgccbghaibddcaa
