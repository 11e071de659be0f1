/- The reference's One and Sum are the register's steps, and its four the number's four bytes. No condition beyond a list's length. -/
import Derived.Test.YtbgelbdnkbhffaaGreatOrdU
import Derived.Test.YtbgelbdnkbhffaaGreatMathCrc
import Derived.Test.YtbgelbdnkbhffaaGreatNext
import Derived.Laws.BitsAllLaws
namespace Go.Proofs.YtbgelbdnkbhffaaGreat
open Go Go.RowKit

/-- 'It hands back the number (32 bits); memory is as it was.' -/
def RetU (w : World) (n : Nat) (e : Ending) (w' : World) : Prop := e = .returned (.int .u32 (n : Int)) ∧ ∃ q, w' = w.drewN q

theorem stps_even {j m x : Nat} (h : m = j + 1) (h2 : x % 2 = 0) : stps m x = stps j (x / 2) := by
  rw [h, stps_succ, stp, if_neg (by omega)]
theorem stps_odd {j m x : Nat} (h : m = j + 1) (h2 : x % 2 = 1) : stps m x = stps j (x / 2 ^^^ 3988292384) := by
  rw [h, stps_succ, stp, if_pos h2]

theorem xor_poly {x : Nat} (h : x < 4294967296) : bits .xor .u32 ((x : Int) / 2) 3988292384 = ((x / 2 ^^^ 3988292384 : Nat) : Int) :=
  u32_xor_nat (x / 2) 3988292384 (by omega) (by decide)
theorem xor_poly_lt {x : Nat} (h : x < 4294967296) : x / 2 ^^^ 3988292384 < 4294967296 := Nat.xor_lt_two_pow (n := 32) (by omega) (by decide)

theorem regB_take {xs : List UInt8} {i : Nat} {b : UInt8} (x : Nat) (h : xs[i]? = some b) : regB x (xs.take (i + 1)) = stps 8 (regB x (xs.take i) ^^^ b.toNat) := by
  obtain ⟨hi, hb⟩ := List.getElem?_eq_some_iff.mp h
  rw [List.take_succ_eq_append_getElem hi, regB_app, hb]
  rfl
theorem xor_byte {x : Nat} (b : UInt8) (h : x < 4294967296) : bits .xor .u32 (x : Int) (b.toNat : Int) = ((x ^^^ b.toNat : Nat) : Int) :=
  u32_xor_nat x b.toNat h (Nat.lt_trans b.toNat_lt (by decide))
theorem xor_byte_lt {x : Nat} (b : UInt8) (h : x < 4294967296) : x ^^^ b.toNat < 4294967296 := Nat.xor_lt_two_pow (n := 32) h (Nat.lt_trans b.toNat_lt (by decide))

set_option maxRecDepth 100000 in
set_option maxHeartbeats 1000000 in
theorem refSum_any (A : Option Addr) (n c : Nat) (xs : List UInt8) (w : World) (hx : Rd w A n xs) (hn : n ≤ 1099511627776) :
    Calls Tryz.prog 130 #[.slice A n c] w (RetU w (crcB xs)) := by
  have HL := Lib.hid hx.len
  go_enter Tryz.func130, Tryz.ntmps130
  go_wp2
  go_loopw [3, 4] (fun vx vi wr => ∃ x i q : Nat, vx = .int .u32 x ∧ vi = .int .i64 i ∧ i ≤ n ∧ x < 4294967296 ∧ x = regB 4294967295 (xs.take i) ∧ wr = w.drewN q) (fun _ vi _ => n - (intOf vi).toNat)
  case atStart => exact ⟨4294967295, 0, 0, rfl, rfl, by omega, by omega, rfl, rfl⟩
  case round =>
    obtain ⟨x, i, q, rfl, rfl, hi, hx4, hs, rfl⟩ := hrel
    have Hs := Lib.hid hs
    clear hs
    by_cases hlt : i < n
    · obtain ⟨bf, off, rfl, _⟩ := hx.pos (by omega)
      obtain ⟨b, hb, hc, _⟩ := hx.at_ i hlt
      have Hb := Lib.hid hb
      clear hb
      have hw8 : IntKind.u32.wrap (b.toNat : Int) = (b.toNat : Int) := by have := b.toNat_lt; rw [IntKind.wrap_u32']; omega
      obtain ⟨W, hW⟩ : ∃ W, W = w.drewN q := ⟨_, rfl⟩
      have c1 : W.cell? ⟨bf, off + i, none⟩ = some (.int .u8 (b.toNat : Int)) := by rw [hW]; exact hc
      rw [← hW]
      have HW := Lib.hid hW
      clear hW hc
      have hxb := xor_byte b hx4
      have hxl := xor_byte_lt b hx4
      go_wp2
      go_loopw [3, 5] (fun vy vk wr => ∃ y k p : Nat, vy = .int .u32 y ∧ vk = .int .i64 k ∧ k ≤ 8 ∧ y < 4294967296 ∧ stps (8 - k) y = stps 8 (x ^^^ b.toNat) ∧ wr = w.drewN p) (fun _ vk _ => 8 - (intOf vk).toNat)
      case atStart => exact ⟨x ^^^ b.toNat, 0, _, rfl, rfl, by omega, hxl, rfl, HW.out⟩
      case round =>
        obtain ⟨y, k, p, rfl, rfl, hk, hy4, hs, rfl⟩ := hrel
        have Hs2 := Lib.hid hs
        clear hs
        by_cases hk8 : k < 8
        · rcases Nat.mod_two_eq_zero_or_one y with h2 | h2
          · go_wp2
            go_roundw
            case rel => exact ⟨y / 2, k + 1, _, by go_num, by go_num, by omega, by omega, by rw [← Hs2.out, stps_even (j := 8 - (k + 1)) (by omega) h2], rfl⟩
            case measure => simp [intOf]; omega
          · go_wp2
            go_roundw
            case rel => exact ⟨y / 2 ^^^ 3988292384, k + 1, _, by rw [xor_poly hy4], by go_num, by omega, xor_poly_lt hy4, by rw [← Hs2.out, stps_odd (j := 8 - (k + 1)) (by omega) h2], rfl⟩
            case measure => simp [intOf]; omega
        · go_wp2
          go_roundw
          case rel =>
            obtain rfl : k = 8 := by omega
            exact ⟨y, i + 1, _, rfl, by go_num, by omega, hy4, by rw [regB_take _ Hb.out, ← Hs.out, ← Hs2.out]; rfl, rfl⟩
          case measure => simp [intOf]; omega
    · have e1 : i = n := by omega
      have e2 : IntKind.u32.wrap (4294967295 - (x : Int)) = 4294967295 - (x : Int) := by rw [IntKind.wrap_u32']; omega
      go_wp2
      go_ret
      refine ⟨?_, _, rfl⟩
      subst e1
      have h3 : crcB xs = 4294967295 - x := by rw [crcB, Hs.out, List.take_of_length_le (by rw [HL.out]; omega)]
      have h4 : ((4294967295 - x : Nat) : Int) = 4294967295 - (x : Int) := by omega
      rw [h3, h4]
      rfl

/-- The four bytes of a number, the greatest first. -/
def fourB (n : Nat) : List UInt8 := (ordU n).drop 4
theorem fourB_len (n : Nat) : (fourB n).length = 4 := rfl
/-- 'It hands back a slice that reads as xs, in a block from base on; what lay below base stands.' -/
def MadeR (base : Nat) (w : World) (xs : List UInt8) (e : Ending) (w' : World) : Prop :=
  ∃ A n c, e = .returned (.slice A n c) ∧ Rd w' A n xs ∧ (∀ b off, A = some ⟨b, off, none⟩ → base ≤ b) ∧ Below base w w'

set_option maxRecDepth 100000 in
set_option maxHeartbeats 1000000 in
theorem refFour_any (n : Nat) (w : World) (hn : n < 4294967296) : Calls Tryz.prog 129 #[.int .u32 n] w (MadeR w.heap.size w (fourB n)) := by
  have hw8 : IntKind.u64.wrap (n : Int) = (n : Int) := u64_nat n (by unfold B64; omega)
  go_enter Tryz.func129, Tryz.ntmps129
  go_wp2_with fail
  refine (refOrdU_any n _ (by unfold B64; omega)).mono ?_
  rintro e w' ⟨A, m, c, rfl, ho, hb⟩
  have hm : m = 8 := by rw [← ho.len]; rfl
  subst hm
  have hc8 := ho.cap.1
  have hr := ho.rd.cut (k := 4) (m := 8) (cap := c) (by omega) (by omega) (by omega)
  obtain ⟨g, rfl, hg, _⟩ := ho.form (by omega)
  rw [show cutA (some ⟨g, 0, none⟩) 4 c = some ⟨g, 4, none⟩ by unfold cutA; rw [if_neg (by omega)]; simp [Addr.add]] at hr
  have R := Lib.hid hr
  clear hr
  go_wp2
  go_ret
  refine ⟨_, _, _, rfl, R.out, ?_, hb⟩
  intro b off h
  injection h with h
  injection h with h
  omega

end Go.Proofs.YtbgelbdnkbhffaaGreat
