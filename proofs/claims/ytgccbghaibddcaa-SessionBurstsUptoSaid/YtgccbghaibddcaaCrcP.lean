/- What the program's Open answers is what the reference's does: plain facts. -/
import Derived.Test.YtgccbghaibddcaaCrcQ
import Derived.Test.YtgccbghaibddcaaCrcW
namespace Go.Proofs.Ytgccbghaibddcaa
open Go Go.RowKit

theorem numK_four (a b c d : UInt8) (r : List UInt8) : numK (a :: b :: c :: d :: r) 4 = ((a.toNat * 256 + b.toNat) * 256 + c.toNat) * 256 + d.toNat := by
  simp [numK]
theorem four_cons {ys : List UInt8} (h : 4 ≤ ys.length) : ∃ a b c d r, ys = a :: b :: c :: d :: r := by
  match ys, h with
  | a :: b :: c :: d :: r, _ => exact ⟨a, b, c, d, r, rfl⟩
theorem bt_byte (a : UInt8) {k : Nat} (h : k % 256 = a.toNat) : bt k = a := by
  apply UInt8.toNat_inj.1
  rw [bt_mod, h]
theorem fourB_numK {ys : List UInt8} (h : 4 ≤ ys.length) : fourB (numK ys 4) = ys.take 4 := by
  obtain ⟨a, b, c, d, r, rfl⟩ := four_cons h
  have ha := a.toNat_lt
  have hb := b.toNat_lt
  have hc := c.toNat_lt
  have hd := d.toNat_lt
  rw [numK_four]
  show [bt _, bt _, bt _, bt _] = [a, b, c, d]
  rw [bt_byte a (by omega), bt_byte b (by omega), bt_byte c (by omega), bt_byte d (by omega)]
theorem numK_fourB (n : Nat) (r : List UInt8) (hn : n < 4294967296) : numK (fourB n ++ r) 4 = n := by
  show numK (bt _ :: bt _ :: bt _ :: bt _ :: r) 4 = n
  rw [numK_four]
  simp only [bt_mod]
  omega
theorem numK_take4 (ys : List UInt8) (m : Nat) (h : 4 ≤ m) : numK (ys.take m) 4 = numK ys 4 := by
  simp only [numK, List.getD_eq_getElem?_getD, List.getElem?_take, show (0 : Nat) < m by omega, show (1 : Nat) < m by omega, show (2 : Nat) < m by omega, show (3 : Nat) < m by omega, if_true]
/-- The record is whole just if the sum that it says is its own. -/
theorem whole_eq {rs : List UInt8} {m : Nat} (hm : m = numK rs 4) (hl : 8 + m ≤ rs.length) :
    (eqB (sealB ((rs.take (8 + m)).drop 8)) (rs.take (8 + m)) = true) ↔ crcB (rs.take 4 ++ (rs.take (8 + m)).drop 8) = numK (rs.drop 4) 4 := by
  have hbl : ((rs.take (8 + m)).drop 8).length = m := by rw [List.length_drop, List.length_take]; omega
  have h4 : fourB m = rs.take 4 := by rw [hm, fourB_numK (by omega)]
  have hsplit : rs.take (8 + m) = rs.take 4 ++ ((rs.drop 4).take 4 ++ (rs.take (8 + m)).drop 8) := by
    apply List.ext_getElem?
    intro i
    have hm4 : min 4 rs.length = 4 := by omega
    have hm8 : min 4 (rs.length - 4) = 4 := by omega
    simp only [List.getElem?_append, List.length_take, List.length_drop, List.getElem?_take, List.getElem?_drop, hm4, hm8]
    by_cases h1 : i < 4
    · simp [h1, show i < 8 + m by omega]
    · by_cases h2 : i - 4 < 4
      · simp [h1, h2, show i < 8 + m by omega, show 4 + (i - 4) = i by omega]
      · simp [h1, h2, show 8 + (i - 4 - 4) = i by omega]
  obtain ⟨bd, hbd⟩ : ∃ bd, bd = (rs.take (8 + m)).drop 8 := ⟨_, rfl⟩
  obtain ⟨wh, hwh⟩ : ∃ wh, wh = rs.take (8 + m) := ⟨_, rfl⟩
  rw [← hbd] at hsplit hbl ⊢
  rw [← hwh] at hsplit ⊢
  unfold eqB
  rw [beq_iff_eq]
  unfold sealB
  rw [hbl, h4, hsplit]
  have hc : crcB (rs.take 4 ++ bd) < 4294967296 := crcB_lt _
  have hn : numK (rs.drop 4) 4 = numK ((rs.drop 4).take 4) 4 := (numK_take4 _ 4 (Nat.le_refl _)).symm
  constructor
  · intro h
    have h1 := List.append_cancel_right (List.append_cancel_left h)
    rw [hn, ← h1]
    have := numK_fourB _ [] hc
    rw [List.append_nil] at this
    exact this.symm
  · intro h
    rw [h, fourB_numK (by rw [List.length_drop]; omega)]
end Go.Proofs.Ytgccbghaibddcaa
