/- A change of bits within 32 bits of one another, and what the sum makes of it (plain mathematics, and stores into a row). No condition. -/
import Derived.Test.YtoaajkdhlhopmaaCrcX
import Derived.Test.YtoaajkdhlhopmaaSpare
import Derived.Laws.BitsAllLaws
import Derived.RegionTactic
import Derived.BigRegion
namespace Go.Proofs.Ytoaajkdhlhopmaa
open Go Go.RowKit

/-- A change within 32 bits changes the register, from wherever it begins. -/
theorem regB_burst {b t : List UInt8} {y at' burst : Nat} (hl : t.length = b.length) (ha : at' ≤ 8 * b.length) (h0 : burst ≠ 0) (h32 : burst < 2 ^ 32)
    (hx : leB t = leB b ^^^ burst * 2 ^ at') : regB y t ≠ regB y b := by
  intro h1
  rw [regB_le, regB_le, hl, stps_xor, stps_xor, hx, stps_xor] at h1
  have h2 : stps (8 * b.length) (burst * 2 ^ at') = 0 := by
    have := congrArg (fun z => stps (8 * b.length) (leB b) ^^^ (stps (8 * b.length) y ^^^ z)) h1
    simp only [← Nat.xor_assoc, Nat.xor_self, Nat.zero_xor] at this
    exact this
  rw [show 8 * b.length = at' + (8 * b.length - at') by omega, stps_add, stps_pow] at h2
  exact h0 (stps_inj0 _ h32 h2)
theorem crcB_after {h b t : List UInt8} (hne : regB (regB 4294967295 h) t ≠ regB (regB 4294967295 h) b) : crcB (h ++ t) ≠ crcB (h ++ b) := by
  intro hc
  have ht := regB_lt t (regB_lt h (show 4294967295 < 2 ^ 32 by decide))
  have hb := regB_lt b (regB_lt h (show 4294967295 < 2 ^ 32 by decide))
  unfold crcB at hc
  rw [regB_app, regB_app] at hc
  omega
/-- The bits below k of a burst, laid on. -/
theorem burst_step {burst k a : Nat} (h : burst.testBit k = true) : burst % 2 ^ (k + 1) * 2 ^ a = (burst % 2 ^ k * 2 ^ a) ^^^ 2 ^ (a + k) := by
  rw [mod_pow_bit, if_pos h, Nat.mul_comm, mul_xor_pow, Nat.mul_comm (2 ^ a), ← Nat.pow_add]
theorem burst_same {burst k : Nat} (h : burst.testBit k = false) : burst % 2 ^ (k + 1) = burst % 2 ^ k := by
  rw [mod_pow_bit, if_neg (by rw [h]; decide), Nat.xor_zero]

theorem Own.spliced {e : TypeId} {w w' : World} {base base' g n c off : Nat} {xs zs : List UInt8} {cur : List Value} (h : Own e w base (some ⟨g, 0, none⟩) n c xs) (hc : w.heap[g]? = some (.cells cur.toArray e (0, 0)))
    (hf : off + zs.length ≤ n) (hb : base' ≤ g) (h' : w'.heap[g]? = some (.cells (splice cur off (zs.map cv)).toArray e (0, 0))) : Own e w' base' (some ⟨g, 0, none⟩) n c (splice xs off zs) := by
  have hl := h.len
  rcases h.2 with ⟨h1, _⟩ | ⟨g', cap, cur', h1, h2, h3, h4, h5, h6, h7⟩
  · injection h1 with h1; cases h1
  · injection h1 with h1 _ h8
    injection h1 with h1
    injection h1 with h1
    subst h1 h8
    rw [hc] at h3
    injection h3 with h3
    injection h3 with h3
    subst h3
    simp only [List.size_toArray, Nat.mul_one] at h6
    simp only [Nat.mul_one] at h7
    have hsl : (splice xs off zs).length = n := by rw [length_splice _ _ _ (by omega), hl]
    refine ⟨by simpa using hsl, .inr ⟨g, c, _, rfl, hb, h', h4, h5, by rw [List.size_toArray, length_splice _ _ _ (by rw [List.length_map]; omega)]; omega, ?_⟩⟩
    simp only [Nat.mul_one]
    apply List.ext_getElem?
    intro i
    have hcx : ∀ i, i < n → cur[i]? = (xs.map cv)[i]? := fun i hi => by
      rw [← h7, List.getElem?_take, if_pos hi]
    rw [List.getElem?_take]
    by_cases hi : i < n
    · rw [if_pos hi]
      unfold splice
      rw [List.map_append, List.map_append, List.map_take, List.map_drop]
      simp only [List.getElem?_append, List.length_take, List.length_map, List.getElem?_take, List.getElem?_drop]
      have e1 : min off cur.length = off := by omega
      have e2 : min off xs.length = off := by omega
      rw [e1, e2]
      by_cases c1 : i < off
      · rw [if_pos c1, if_pos c1, if_pos c1, if_pos c1, hcx i hi]
      · rw [if_neg c1, if_neg c1]
        by_cases c2 : i - off < zs.length
        · rw [if_pos c2, if_pos c2]
        · rw [if_neg c2, if_neg c2, hcx _ (by omega)]
    · rw [if_neg hi, List.getElem?_eq_none (by rw [List.length_map, hsl]; omega)]
theorem Own.cells {e : TypeId} {w : World} {base g n c : Nat} {xs : List UInt8} (h : Own e w base (some ⟨g, 0, none⟩) n c xs) : ∃ cur : List Value, w.heap[g]? = some (.cells cur.toArray e (0, 0)) ∧ cur.length = c := by
  rcases h.2 with ⟨h1, _⟩ | ⟨g', cap, cur, h1, h2, h3, h4, h5, h6, h7⟩
  · injection h1 with h1; cases h1
  · injection h1 with h1 _ h8
    injection h1 with h1
    injection h1 with h1
    subst h1 h8
    exact ⟨cur.toList, by simpa using h3, by simpa using h6⟩

theorem bit_off {u k : Nat} (hu : u < 4294967296) (h : u.testBit k = false) : (bits .and .u32 ((u : Int) / 2 ^ k) 1 == 1) = false := by
  have h1 : (u : Int) / 2 ^ k = ((u / 2 ^ k : Nat) : Int) := by
    rw [Int.natCast_ediv, Int.natCast_pow]; rfl
  have h2 : u / 2 ^ k < 4294967296 := Nat.lt_of_le_of_lt (Nat.div_le_self _ _) hu
  rw [h1, and1_u32 h2]
  rw [Nat.testBit_eq_decide_div_mod_eq, decide_eq_false_iff_not] at h
  rw [beq_eq_false_iff_ne]
  omega
theorem bit_on {u k : Nat} (hu : u < 4294967296) (h : u.testBit k = true) : (bits .and .u32 ((u : Int) / 2 ^ k) 1 == 1) = true := by
  have h1 : (u : Int) / 2 ^ k = ((u / 2 ^ k : Nat) : Int) := by
    rw [Int.natCast_ediv, Int.natCast_pow]; rfl
  have h2 : u / 2 ^ k < 4294967296 := Nat.lt_of_le_of_lt (Nat.div_le_self _ _) hu
  rw [h1, and1_u32 h2]
  rw [Nat.testBit_eq_decide_div_mod_eq, decide_eq_true_iff] at h
  rw [beq_iff_eq]
  omega
theorem u8_shl {j : Nat} (h : j < 8) : ∃ m : Nat, m = 2 ^ j ∧ m < 256 := ⟨_, rfl, Nat.lt_of_lt_of_le (Nat.pow_lt_pow_right (by decide) h) (by decide)⟩

theorem splice_tail {a b t : List UInt8} {k : Nat} (hk : a.length = k) (hl : t.length = b.length) : splice (a ++ b) k t = a ++ t := by
  unfold splice
  rw [List.take_left' hk, List.drop_eq_nil_of_le (by rw [List.length_append]; omega), List.append_nil]
/-- A record with another sum doesn't open. -/
theorem openG_bad {n c : Nat} {t : List UInt8} (hl : t.length = n) (hn : n ≤ 1048576) (hc : c < 4294967296) (hne : c ≠ crcB (fourB n ++ t)) : openG (fourB n ++ (fourB c ++ t)) ((0 : Nat) : Int) = ([], 0, 4) := by
  have hlen : (fourB n ++ (fourB c ++ t)).length = 8 + n := by simp only [List.length_append, fourB_len]; omega
  have hm : n = numK ((fourB n ++ (fourB c ++ t)).drop 0) 4 := by rw [List.drop_zero, numK_fourB _ _ (by omega)]
  rw [openG_whole (a := 0) (n := 8 + n) hlen hm (by omega) (by omega), Nat.zero_add, List.take_of_length_le (by omega), List.drop_zero]
  have h2 : (fourB n ++ (fourB c ++ t)).drop 8 = t := by
    rw [← List.append_assoc]
    exact List.drop_left' (by simp [fourB_len])
  rw [h2, if_neg]
  unfold eqB
  rw [beq_iff_eq, sealB, hl]
  intro h
  have h1 := List.append_cancel_right (List.append_cancel_left h)
  have h3 := numK_fourB c [] hc
  rw [← h1, numK_fourB _ _ (crcB_lt _)] at h3
  exact hne h3.symm

end Go.Proofs.Ytoaajkdhlhopmaa
