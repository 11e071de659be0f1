/- The program's word is a number's four bytes, the greatest first, and getWord the number of the first four bytes. -/
import Derived.Test.YtgccbghaibddcaaCrcU
import Derived.Test.YtgccbghaibddcaaCrcO
namespace Go.Proofs.Ytgccbghaibddcaa
open Go Go.RowKit

/-- 'It hands back the four bytes as an array; what was in memory stands.' -/
def RetW (w : World) (n : Nat) (e : Ending) (w' : World) : Prop := e = .returned (.agg ((fourB n).map cv).toArray) ∧ Below w.heap.size w w'
theorem fourB_val {n : Nat} (hn : n < 4294967296) : ((fourB n).map cv).toArray = #[.int .u8 ((n : Int) / 16777216), .int .u8 ((n : Int) / 65536 % 256), .int .u8 ((n : Int) / 256 % 256), .int .u8 ((n : Int) % 256)] := by
  show (List.map cv [bt (n / 16777216), bt (n / 65536), bt (n / 256), bt n]).toArray = _
  simp only [List.map_cons, List.map_nil, cv, bt_mod]
  rw [show ((n / 16777216 % 256 : Nat) : Int) = (n : Int) / 16777216 by omega, show ((n / 65536 % 256 : Nat) : Int) = (n : Int) / 65536 % 256 by omega, show ((n / 256 % 256 : Nat) : Int) = (n : Int) / 256 % 256 by omega, show ((n % 256 : Nat) : Int) = (n : Int) % 256 by omega]
theorem info_four : (Try.prog.info? 172).map (·.size) = some 4 := by kernel_rfl
set_option maxRecDepth 100000 in
theorem word_any (n : Nat) (w : World) (hn : n < 4294967296) : Calls Try.prog 68 #[.int .u32 n] w (RetW w n) := by
  have HV := Lib.hid (fourB_val hn)
  go_enter Try.func68, Try.ntmps68
  go_wp2
  rw [← HV.out]
  exact bodyPost_ret (v := .agg ((fourB n).map cv).toArray) (results_cell_row rfl _ _ w.heap.size 172 _ (0, 0) _ rfl (heap_alloc_new _ _) Try.underlying172 rfl info_four) rfl ⟨rfl, (Below.refl _ _).alloc (Nat.le_refl _) _⟩

theorem numK_take {xs : List UInt8} {i : Nat} {b : UInt8} (h : xs[i]? = some b) : numK xs (i + 1) = numK xs i * 256 + b.toNat := by
  rw [numK, List.getD_eq_getElem?_getD, h, Option.getD_some]
theorem or_byte {m : Nat} (b : UInt8) (h : m < 16777216) : bits .or .u32 ((m : Int) * 256) (b.toNat : Int) = ((m * 256 + b.toNat : Nat) : Int) := by
  have hb := b.toNat_lt
  have h1 := u32_or_nat (m * 256) b.toNat (by omega) (by omega)
  have h2 : m * 256 ||| b.toNat = m * 256 + b.toNat := by
    rw [Nat.mul_comm]
    exact (Nat.two_pow_add_eq_or_of_lt (i := 8) (by simpa using hb) m).symm
  rw [h2] at h1
  exact h1

set_option maxRecDepth 100000 in
set_option maxHeartbeats 1000000 in
theorem getWord_any (A : Option Addr) (n c : Nat) (xs : List UInt8) (w : World) (hx : Rd w A n xs) (h4 : 4 ≤ n) (hn : n ≤ 1099511627776) (hnc : n ≤ c) :
    Calls Try.prog 70 #[.slice A n c] w (RetU w (numK xs 4)) := by
  have hsl : ∀ w, (Instr.slice 30 (.slice A n c) none (some (.int .i64 4)) none).run Try.prog w = .ok (.slice A 4 c) w :=
    cut_h Try.underlying30 elem_bytes size_u8 A (m := 4) (by omega)
  go_enter Try.func70, Try.ntmps70
  go_wp2
  go_loopw [3, 9] (fun vm vi wr => ∃ m i q : Nat, vm = .int .u32 m ∧ vi = .int .i64 i ∧ i ≤ 4 ∧ m = numK xs i ∧ wr = w.drewN q) (fun _ vi _ => 4 - (intOf vi).toNat)
  case atStart => exact ⟨0, 0, 0, rfl, rfl, by omega, rfl, rfl⟩
  case round =>
    obtain ⟨m, i, q, rfl, rfl, hi, hm, rfl⟩ := hrel
    have hml := numK_lt xs i
    rw [← hm] at hml
    have Hm := Lib.hid hm
    clear hm
    by_cases hlt : i < 4
    · have hm3 : m < 16777216 := Nat.lt_of_lt_of_le hml (Nat.le_trans (Nat.pow_le_pow_right (by decide) (show i ≤ 3 by omega)) (by decide))
      clear hml
      obtain ⟨bf, off, rfl, _⟩ := hx.pos (by omega)
      obtain ⟨b, hb, hc, _⟩ := hx.at_ i (by omega)
      have hb8 := b.toNat_lt
      have e0 : (m : Int) * 256 % 4294967296 = (m : Int) * 256 := by omega
      have e1 := or_byte b hm3
      have HR : Hid (m * 256 + b.toNat = numK xs (i + 1)) := Lib.hid (by rw [numK_take hb, Hm.out])
      clear hb
      obtain ⟨W, hW⟩ : ∃ W, W = w.drewN q := ⟨_, rfl⟩
      have c1 : W.cell? ⟨bf, off + i, none⟩ = some (.int .u8 (b.toNat : Int)) := by rw [hW]; exact hc
      rw [← hW]
      have HW := Lib.hid hW
      clear hW hc
      go_wp2
      go_roundw
      case rel => exact ⟨m * 256 + b.toNat, i + 1, q, by go_num, by go_num, by omega, HR.out, HW.out⟩
      case measure => simp [intOf]; omega
    · obtain rfl : i = 4 := by omega
      clear hml
      go_wp2
      go_ret
      exact ⟨by rw [Hm.out]; rfl, q, rfl⟩
end Go.Proofs.Ytgccbghaibddcaa
