/- The reference's Kept and Over: is the whole as Spare made it; each byte turned, and what stands elsewhere stands. -/
import Derived.Test.YtgccbghaibddcaaSpare
import Derived.Laws.BitsAllLaws
namespace Go.Proofs.Ytgccbghaibddcaa
open Go Go.RowKit

set_option maxRecDepth 100000 in
set_option maxHeartbeats 2000000 in
theorem Kept_any (F B : Option Addr) (n cf c : Nat) (xs : List UInt8) (w : World) (hf : Rd w F (n + 40) (xs ++ room n 40)) (hx : Rd w B n xs) (hn : n ≤ 1099511627776) :
    Calls Try.prog 28 #[.slice F (n + 40) cf, .slice B n c] w (RetB w true) := by
  have HXL := Lib.hid hx.len
  go_enter Try.func28, Try.ntmps28
  go_wp2
  go_loopw [5] (fun vi wr => ∃ i q : Nat, vi = .int .i64 i ∧ i ≤ n + 40 ∧ wr = w.drewN q) (fun vi _ => n + 40 - (intOf vi).toNat)
  case atStart => exact ⟨0, 0, rfl, Nat.zero_le _, rfl⟩
  case round =>
    obtain ⟨i, q, rfl, hi, rfl⟩ := hrel
    by_cases hlt : i < n + 40
    · obtain ⟨bf, off, rfl, _⟩ := hf.pos (by omega)
      obtain ⟨y, hy, hcy, _⟩ := hf.at_ i hlt
      have hlt' : (i : Int) < (n : Int) + 40 := by omega
      obtain ⟨W, hW⟩ : ∃ W, W = w.drewN q := ⟨_, rfl⟩
      by_cases hin : i < n
      · obtain ⟨bx, offx, rfl, _⟩ := hx.pos (by omega)
        obtain ⟨x, hxx, hcx, _⟩ := hx.at_ i hin
        rw [List.getElem?_append_left (by rw [HXL.out]; exact hin), hxx] at hy
        injection hy with hy
        subst hy
        have h1 : decide (i < n) = true := by simpa using hin
        have h2 : decide (n ≤ i) = false := by simpa using hin
        have c1 : W.cell? ⟨bf, off + i, none⟩ = some (.int .u8 (x.toNat : Int)) := by rw [hW]; exact hcy
        have c2 : W.cell? ⟨bx, offx + i, none⟩ = some (.int .u8 (x.toNat : Int)) := by rw [hW]; exact hcx
        rw [← hW]
        have HW := Lib.hid hW
        clear hW hxx hcy hcx
        go_wp2
        go_quiet (fail)
        rw [HW.out]
        go_wp2
        go_roundw
        case rel => exact ⟨i + 1, _, by go_num, by omega, rfl⟩
        case measure => simp [intOf]; omega
      · obtain ⟨j, rfl⟩ : ∃ j, i = n + j := ⟨i - n, by omega⟩
        rw [List.getElem?_append_right (by rw [HXL.out]; omega), HXL.out, Nat.add_sub_cancel_left, room_at _ _ _ (by omega)] at hy
        injection hy with hy
        subst hy
        obtain ⟨p, hp⟩ : ∃ p, p = n + j := ⟨_, rfl⟩
        rw [← hp] at hcy hlt hlt' hi ⊢
        rw [sp_val] at hcy
        have hin' : ¬ p < n := by omega
        have h1 : decide (p < n) = false := by simpa using hin'
        have h2 : decide (n ≤ p) = true := by simp; omega
        have c1 : W.cell? ⟨bf, off + p, none⟩ = some (.int .u8 (160 + (p : Int) % 31)) := by rw [hW]; exact hcy
        rw [← hW]
        have HW := Lib.hid hW
        have e1 : (p : Int).tmod 31 = (p : Int) % 31 := rfl
        have e2 : IntKind.i64.wrap ((p : Int) % 31) = (p : Int) % 31 := IntWalk.i64_in _ (by omega)
        have e3 : IntKind.i64.wrap (160 + (p : Int) % 31) = 160 + (p : Int) % 31 := IntWalk.i64_in _ (by omega)
        have e4 : IntKind.u8.wrap (160 + (p : Int) % 31) = 160 + (p : Int) % 31 := by rw [IntKind.wrap_u8]; omega
        clear hW hcy hp hin'
        go_wp2
        go_quiet (fail)
        rw [HW.out]
        go_wp2
        go_roundw
        case rel => exact ⟨p + 1, _, by go_num, by omega, rfl⟩
        case measure => simp [intOf]; omega
    · obtain rfl : i = n + 40 := by omega
      go_wp2
      go_ret
      exact ⟨rfl, q, rfl⟩

end Go.Proofs.Ytgccbghaibddcaa
