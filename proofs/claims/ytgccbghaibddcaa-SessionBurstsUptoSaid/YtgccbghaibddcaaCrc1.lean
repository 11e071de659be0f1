/- The program's eightSteps is eight steps of the register. No condition. -/
import Derived.Test.YtgccbghaibddcaaCrcR
namespace Go.Proofs.Ytgccbghaibddcaa
open Go Go.RowKit

theorem and1_u32 {x : Nat} (h : x < 4294967296) : bits .and .u32 (x : Int) 1 = ((x % 2 : Nat) : Int) := by
  have h1 := u32_and_nat x 1 h (by decide)
  rw [Nat.and_one_is_mod] at h1
  exact h1

set_option maxRecDepth 100000 in
set_option maxHeartbeats 1000000 in
theorem eightSteps_any (n : Nat) (w : World) (hn : n < 4294967296) : Calls Try.prog 116 #[.int .u32 n] w (RetU w (stps 8 n)) := by
  go_enter Try.func116, Try.ntmps116
  go_wp2
  go_loopw [0, 4] (fun vx vk wr => ∃ x k q : Nat, vx = .int .u32 x ∧ vk = .int .i64 k ∧ k ≤ 8 ∧ x < 4294967296 ∧ stps (8 - k) x = stps 8 n ∧ wr = w.drewN q) (fun _ vk _ => 8 - (intOf vk).toNat)
  case atStart => exact ⟨n, 0, 0, rfl, rfl, by omega, by omega, rfl, rfl⟩
  case round =>
    obtain ⟨x, k, q, rfl, rfl, hk, hx, hs, rfl⟩ := hrel
    have Hs := Lib.hid hs
    clear hs
    by_cases hlt : k < 8
    · rcases Nat.mod_two_eq_zero_or_one x with h2 | h2
      · have ha := and1_u32 hx
        rw [h2] at ha
        have H2 := Lib.hid h2
        clear h2
        go_wp2
        go_ways
        go_roundw
        case rel => exact ⟨x / 2, k + 1, _, by go_num, by go_num, by omega, by omega, by rw [← Hs.out, stps_even (j := 8 - (k + 1)) (by omega) H2.out], rfl⟩
        case measure => simp [intOf]; omega
      · have ha := and1_u32 hx
        rw [h2] at ha
        have H2 := Lib.hid h2
        clear h2
        go_wp2
        go_roundw
        case rel => exact ⟨x / 2 ^^^ 3988292384, k + 1, _, by rw [xor_poly hx], by go_num, by omega, xor_poly_lt hx, by rw [← Hs.out, stps_odd (j := 8 - (k + 1)) (by omega) H2.out], rfl⟩
        case measure => simp [intOf]; omega
    · go_wp2
      go_ret
      obtain rfl : k = 8 := by omega
      exact ⟨by rw [← Hs.out]; rfl, _, rfl⟩
end Go.Proofs.Ytgccbghaibddcaa
