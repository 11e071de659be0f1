/- A filter: bit by bit, byte by byte (plain mathematics for the reference's Build). -/
import Derived.Test.YtoaajkdhlhopmaaBlI
namespace Go.Proofs.Ytoaajkdhlhopmaa
open Go Go.RowKit

theorem putB_only {fs : List UInt8} {b d : Nat} (hne : b ≠ d) : setB (putB fs b) d = setB fs d := by
  by_cases e : d / 8 = b / 8
  · by_cases hl : b / 8 < fs.length
    · have hp : 2 ^ (b % 8) < 256 := Nat.lt_of_lt_of_le (Nat.pow_lt_pow_right (by omega) (Nat.mod_lt b (by omega))) (by decide)
      have hm : b % 8 ≠ d % 8 := by omega
      rw [setB_eq, setB_eq]
      unfold putB
      rw [e, List.getElem?_set_self hl, Option.getD_some, toNat_or (UInt8.toNat_lt _) hp, Nat.testBit_or, Nat.testBit_two_pow_of_ne hm, Bool.or_false]
    · unfold putB
      rw [List.set_eq_of_length_le (by omega)]
  · rw [setB_eq, setB_eq, putB_off (fun e2 => e e2.symm)]
/-- One bit more among the bools. -/
def putO (bs : List Bool) (b : Nat) : List Bool := bs.set b true
/-- 'The bools are the filter's bits.' -/
def Bits (n : Nat) (fs : List UInt8) (bs : List Bool) : Prop := fs.length = n + 1 ∧ bs.length = 8 * n ∧ ∀ d, d < 8 * n → bs[d]? = some (setB fs d)
theorem Bits.put {n : Nat} {fs : List UInt8} {bs : List Bool} (h : Bits n fs bs) {b : Nat} (hb : b < 8 * n) : Bits n (putB fs b) (putO bs b) := by
  refine ⟨by rw [putB_len]; exact h.1, by rw [putO, List.length_set]; exact h.2.1, fun d hd => ?_⟩
  unfold putO
  by_cases e : b = d
  · subst e
    rw [List.getElem?_set_self (by rw [h.2.1]; exact hb), putB_self (by have := h.1; omega)]
  · rw [List.getElem?_set_ne e, putB_only e]
    exact h.2.2 d hd
theorem Bits.zero (n : Nat) (x : UInt8) : Bits n ((List.replicate (n + 1) 0).set n x) (List.replicate (8 * n) false) := by
  refine ⟨by simp, by simp, fun d hd => ?_⟩
  rw [List.getElem?_replicate, if_pos hd, setB_eq, List.getElem?_set_ne (by omega), List.getElem?_replicate, if_pos (by omega)]
  simp
/-- Eight bools as a number, from the highest. -/
def byteO (bs : List Bool) (i : Nat) : Nat → Nat
  | 0 => 0
  | k + 1 => 2 * byteO bs i k + (if bs[i + (7 - k)]?.getD false then 1 else 0)
theorem byteO_lt (bs : List Bool) (i : Nat) : ∀ k, byteO bs i k < 2 ^ k
  | 0 => by simp [byteO]
  | k + 1 => by
    have := byteO_lt bs i k
    unfold byteO
    rw [Nat.pow_succ]
    split <;> omega
theorem bit_if (a : Nat) : (if a % 2 = 1 then 1 else 0) = a % 2 := by split <;> omega
theorem Bits.byte {n : Nat} {fs : List UInt8} {bs : List Bool} (h : Bits n fs bs) {i : Nat} (hi : i < n) {x : UInt8} (hx : fs[i]? = some x) : byteO bs (8 * i) 8 = x.toNat := by
  have hb : ∀ j, j < 8 → bs[8 * i + j]?.getD false = decide (x.toNat / 2 ^ j % 2 = 1) := fun j hj => by
    rw [h.2.2 _ (by omega), Option.getD_some, setB]
    rw [show (8 * i + j) / 8 = i by omega, show (8 * i + j) % 8 = j by omega, hx]
  have h0 := hb 0 (by omega)
  have h1 := hb 1 (by omega)
  have h2 := hb 2 (by omega)
  have h3 := hb 3 (by omega)
  have h4 := hb 4 (by omega)
  have h5 := hb 5 (by omega)
  have h6 := hb 6 (by omega)
  have h7 := hb 7 (by omega)
  have hl := x.toNat_lt
  simp only [byteO, Nat.sub_zero, Nat.reduceSub, h0, h1, h2, h3, h4, h5, h6, h7, decide_eq_true_eq]
  simp only [bit_if, Nat.reducePow, Nat.div_one]
  omega
end Go.Proofs.Ytoaajkdhlhopmaa
