/- The program's Sum is the CRC-32 of the parts joined. For lists that hold at most 2^40 bytes. -/
import Derived.Test.YtgccbghaibddcaaCrcT
import Derived.Test.YtgccbghaibddcaaLists
namespace Go.Proofs.Ytgccbghaibddcaa
open Go Go.RowKit

/-- 'It hands back the number (32 bits); what was in memory stands.' -/
def RetUB (w : World) (n : Nat) (e : Ending) (w' : World) : Prop := e = .returned (.int .u32 (n : Int)) ∧ Below w.heap.size w w'

theorem xor_mod256 (x : Nat) (b : UInt8) : (x ^^^ b.toNat) % 256 = x % 256 ^^^ b.toNat := by
  have hb := b.toNat_lt
  apply Nat.eq_of_testBit_eq
  intro i
  rw [show (256 : Nat) = 2 ^ 8 from rfl, Nat.testBit_mod_two_pow, Nat.testBit_xor, Nat.testBit_xor, Nat.testBit_mod_two_pow]
  by_cases h : i < 8
  · simp [h]
  · have h2 : b.toNat.testBit i = false := Nat.testBit_lt_two_pow (Nat.lt_of_lt_of_le (show b.toNat < 2 ^ 8 by simpa using hb) (Nat.pow_le_pow_right (by decide) (by omega)))
    simp [h, h2]
theorem xor_div256 (x : Nat) (b : UInt8) : (x ^^^ b.toNat) / 256 = x / 256 := by
  have hb := b.toNat_lt
  apply Nat.eq_of_testBit_eq
  intro i
  rw [show (256 : Nat) = 2 ^ 8 from rfl, Nat.testBit_div_two_pow, Nat.testBit_div_two_pow, Nat.testBit_xor]
  have h2 : b.toNat.testBit (8 + i) = false := Nat.testBit_lt_two_pow (Nat.lt_of_lt_of_le (show b.toNat < 2 ^ 8 by simpa using hb) (Nat.pow_le_pow_right (by decide) (by omega)))
  simp [Nat.add_comm i 8, h2]
theorem stps8_byte (x : Nat) (b : UInt8) : stps 8 (x ^^^ b.toNat) = x / 256 ^^^ stps 8 (x % 256 ^^^ b.toNat) := by
  rw [stps8, xor_mod256, xor_div256, Nat.xor_comm]

theorem u32_not {x : Nat} (h : x < 4294967296) : bits .xor .u32 IntKind.u32.max (x : Int) = ((4294967295 - x : Nat) : Int) := by
  have h1 := u32_xor_nat 4294967295 x (by decide) h
  have h2 : 4294967295 ^^^ x = 4294967295 - x := by
    apply Nat.eq_of_testBit_eq
    intro i
    rw [show 4294967295 - x = 2 ^ 32 - (x + 1) by omega, Nat.testBit_two_pow_sub_succ (by omega), Nat.testBit_xor, show 4294967295 = 2 ^ 32 - 1 from rfl, Nat.testBit_two_pow_sub_one]
    by_cases hi : i < 32
    · simp [hi]
    · rw [Nat.testBit_lt_two_pow (Nat.lt_of_lt_of_le (show x < 2 ^ 32 by omega) (Nat.pow_le_pow_right (by decide) (by omega)))]
      simp [hi]
  rw [h2] at h1
  exact h1

/-- 'The table lies in block g, from base on; what was below base stands.' -/
def Tg (w : World) (base g : Nat) (wr : World) : Prop := wr.heap[g]? = some (.cells (tabA 256) 211 (0, 0)) ∧ Below base w wr
theorem Tg.drewN {w wr : World} {base g : Nat} (h : Tg w base g wr) (q : Nat) : Tg w base g (wr.drewN q) := ⟨h.1, below_drewN h.2 q⟩
theorem Tg.cell {w wr : World} {base g : Nat} (h : Tg w base g wr) (i : Nat) (hi : i < 256) : wr.cell? ⟨g, i, none⟩ = some (.int .u32 (stps 8 i : Int)) := by
  rw [cell_of_row wr _ i _ _ _ h.1, tabA_at 256 i hi, tabF, if_pos hi]

set_option maxRecDepth 100000 in
set_option maxHeartbeats 2000000 in
theorem Sum_any (A : Option Addr) (n c : Nat) (xss : List (List UInt8)) (w : World) (hx : RdL w A n xss) (ht : tot xss ≤ 1099511627776) :
    Calls Try.prog 69 #[.slice A n c] w (RetUB w (crcB xss.flatten)) := by
  have hn : n ≤ 1099511627776 := by have := tot_len xss; have := hx.len; omega
  have HXL := Lib.hid hx.len
  go_enter Try.func69, Try.ntmps69
  go_wp2_with fail
  refine (Table_any _).mono ?_
  rintro e w1 ⟨rfl, hb1⟩
  have hg1 := hb1.size
  obtain ⟨g, hg⟩ : ∃ g, g = w1.heap.size := ⟨_, rfl⟩
  have h0 : (w1.alloc (.cells (tabA 0) 211)).heap[w1.heap.size]? = some (.cells (tabA 0) 211 (0, 0)) := heap_alloc_new _ _
  have H0 := Lib.hid h0
  have HG := Lib.hid hg
  clear h0 hg
  go_wp2_with (first | (refine Great.wpList_allocTo rfl _ rfl _ _ (run_alloc_tab _ _ _ rfl) ?_) | (refine wpList_store_row rfl _ _ _ rfl w1.heap.size (tabA 256) rfl rfl 211 (tabA 0) H0.out info_tab (by rw [tabA_size, tabA_size]) tabA_cells ?_))
  have hT : Tg w w.heap.size g (((w1.alloc (.cells (tabA 0) 211)).setRow w1.heap.size (tabA 256))) := by
    rw [HG.out]
    exact ⟨setRow_heap _ _ _ _ _ _ H0.out, below_setRow (hb1.alloc hg1 _) hg1 _⟩
  have HT := Lib.hid hT
  rw [← HG.out] at HT ⊢
  obtain ⟨W, hW⟩ : ∃ W, W = (w1.alloc (.cells (tabA 0) 211)).setRow g (tabA 256) := ⟨_, rfl⟩
  rw [← hW] at HT ⊢
  clear hT hW H0
  go_loopw [4, 12] (fun vx vk wr => ∃ x k : Nat, vx = .int .u32 x ∧ vk = .int .i64 k ∧ k ≤ n ∧ x < 4294967296 ∧ x = regB 4294967295 (xss.take k).flatten ∧ Tg w w.heap.size g wr) (fun _ vk _ => n - (intOf vk).toNat)
  case atStart => exact ⟨4294967295, 0, rfl, rfl, by omega, by omega, by rw [List.take_zero, List.flatten_nil, regB_nil], HT.out⟩
  case round =>
    clear HT
    obtain ⟨x, k, rfl, rfl, hk, hx4, hs, hT⟩ := hrel
    have Hs := Lib.hid hs
    clear hs
    by_cases hlt : k < n
    · obtain ⟨b, off, rfl, hbl⟩ := hx.pos (by omega)
      obtain ⟨p, B, m, d, hk1, hc0, rp0, hmd, _⟩ := hx.at_ k hlt
      have hc := (hT.2.cell (p := ⟨b, off + k, none⟩) hbl).trans hc0
      have hta := tot_at hk1
      have HPL := Lib.hid rp0.len
      have hm : m ≤ 1099511627776 := by have := rp0.len; omega
      have S : Hid ((xss.take (k + 1)).flatten = (xss.take k).flatten ++ p) := Lib.hid (by rw [List.take_add_one, hk1]; simp)
      have HT := Lib.hid hT
      obtain ⟨wo, hwo⟩ : ∃ wo : World, wo = wr := ⟨_, rfl⟩
      rw [← hwo] at hc HT ⊢
      clear hk1 hc0 hbl hT hwo wr
      go_wp2
      go_loopw [4, 18] (fun vy vj wt => ∃ y j : Nat, vy = .int .u32 y ∧ vj = .int .i64 j ∧ j ≤ m ∧ y < 4294967296 ∧ y = regB x (p.take j) ∧ Tg w w.heap.size g wt) (fun _ vj _ => m - (intOf vj).toNat)
      case atStart => exact ⟨x, 0, rfl, rfl, by omega, hx4, by rw [List.take_zero, regB_nil], HT.out⟩
      case round =>
        clear HT
        obtain ⟨y, j, rfl, rfl, hj, hy4, hs, hT⟩ := hrel
        have Hs2 := Lib.hid hs
        clear hs
        by_cases hjm : j < m
        · obtain ⟨bp, op, rfl, hbp⟩ := rp0.pos (by omega)
          obtain ⟨v, hv, hcv0, hv255⟩ := rp0.at_ j hjm
          have hc := (hT.2.cell (p := ⟨bp, op + j, none⟩) hbp).trans hcv0
          have hv8 := v.toNat_lt
          obtain ⟨z, hz⟩ : ∃ z : Nat, z = y % 256 ^^^ v.toNat := ⟨_, rfl⟩
          have hz256 : z < 256 := by rw [hz]; exact Nat.xor_lt_two_pow (n := 8) (by omega) hv8
          have e1 : bits .xor .u8 ((y : Int) % 256) (v.toNat : Int) = (z : Int) := by
            have := u8_xor_nat (y % 256) v.toNat (by omega) hv8
            rw [← hz] at this
            exact this
          have hc2 := hT.cell z hz256
          obtain ⟨S, hS⟩ : ∃ S : Nat, S = stps 8 z := ⟨_, rfl⟩
          have hS32 : S < 4294967296 := by rw [hS]; exact stps_lt 8 (by omega)
          rw [← hS] at hc2
          have e2 : bits .xor .u32 ((y : Int) / 256) (S : Int) = ((y / 256 ^^^ S : Nat) : Int) := u32_xor_nat (y / 256) S (by omega) hS32
          have hl : y / 256 ^^^ S < 4294967296 := Nat.xor_lt_two_pow (n := 32) (by omega) hS32
          have HR : Hid (y / 256 ^^^ S = regB x (p.take (j + 1))) := Lib.hid (by rw [regB_take x hv, ← Hs2.out, hS, hz, stps8_byte y v])
          have HT := Lib.hid hT
          clear hT hS hz hcv0 hv
          go_wp2
          go_roundw
          case rel => exact ⟨y / 256 ^^^ S, j + 1, by go_num, by go_num, by omega, hl, HR.out, HT.out⟩
          case measure => simp [intOf]; omega
        · obtain rfl : j = m := by omega
          have HR : Hid (y = regB 4294967295 (xss.take (k + 1)).flatten) := Lib.hid (by
            rw [S.out, regB_app, ← Hs.out, Hs2.out, List.take_of_length_le (by rw [HPL.out]; omega)])
          have HT := Lib.hid hT
          clear hT
          go_wp2
          go_roundw
          case rel => exact ⟨y, k + 1, rfl, by go_num, by omega, hy4, HR.out, HT.out⟩
          case measure => simp [intOf]; omega
    · obtain rfl : k = n := by omega
      have e1 := u32_not hx4
      have HB := hT.2
      go_wp2
      go_ret
      refine ⟨?_, HB⟩
      have h3 : crcB xss.flatten = 4294967295 - x := by rw [crcB, Hs.out, List.take_of_length_le (by rw [HXL.out]; omega)]
      rw [h3]
      rfl
end Go.Proofs.Ytgccbghaibddcaa
