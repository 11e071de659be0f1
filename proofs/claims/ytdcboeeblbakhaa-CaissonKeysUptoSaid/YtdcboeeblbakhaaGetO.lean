/- codec.GetOrdU, codec.GetOrdI and the reference's GetOrdU return the number at a place and the place behind it, or the error; they leave memory alone. -/
import Derived.Test.YtdcboeeblbakhaaGetU
import Derived.Test.YtdcboeeblbakhaaMathO
namespace Go.Proofs.Ytdcboeeblbakhaa
open Go Go.RowKit

theorem byte_on (acc z i : Nat) (hz : z < 256) (hi : i ≤ 7) (ha : acc < 256 ^ i) :
    bits .or .u64 (IntKind.u64.wrap ((acc : Int) * 256)) (z : Int) = ((acc * 256 + z : Nat) : Int) := by
  have h1 : 256 ^ i ≤ 72057594037927936 := Nat.le_trans (Nat.pow_le_pow_right (by omega) hi) (by decide)
  have e : (acc : Int) * 256 = ((acc * 256 : Nat) : Int) := by omega
  rw [e, u64_nat _ (by unfold B64; omega), u64_or_nat _ _ (by omega) (by omega)]
  have h3 : acc * 256 ||| z = acc * 256 + z := by
    have := (Nat.two_pow_add_eq_or_of_lt (i := 8) (b := z) (by omega) acc).symm
    rw [Nat.mul_comm] at this
    exact this
  rw [h3]
theorem byte_sum (acc z i : Nat) (hz : z < 256) (hi : i ≤ 7) (ha : acc < 256 ^ i) :
    IntKind.u64.wrap (IntKind.u64.wrap ((acc : Int) * 256) + (z : Int)) = ((acc * 256 + z : Nat) : Int) := by
  have h1 : 256 ^ i ≤ 72057594037927936 := Nat.le_trans (Nat.pow_le_pow_right (by omega) hi) (by decide)
  have e : (acc : Int) * 256 = ((acc * 256 : Nat) : Int) := by omega
  rw [e, u64_nat _ (by unfold B64; omega)]
  have e2 : ((acc * 256 : Nat) : Int) + (z : Int) = ((acc * 256 + z : Nat) : Int) := by omega
  rw [e2, u64_nat _ (by unfold B64; omega)]

set_option maxRecDepth 100000 in
set_option maxHeartbeats 1000000 in
theorem GetOrdU_any (A : Option Addr) (n c : Nat) (xs : List UInt8) (t : Int) (w : World) (hx : Rd w A n xs) (hn : n ≤ 140737488355328) (hnc : n ≤ c) :
    Calls Try.prog 16 #[.slice A n c, .int .i64 t] w (RetG w (getO xs t)) := by
  by_cases hout : t < 0 ∨ (n : Int) < t
  · rw [getO_out (by rw [hx.len]; exact hout)]
    go_enter Try.func16, Try.ntmps16
    go_wp2_with (go_at_call 38; refine (outside_yes _ _ _ _ _ hout).mono ?_; rintro e w' ⟨rfl, rfl⟩)
    go_ret3
    exact ⟨rfl, rfl⟩
  · obtain ⟨k, rfl⟩ : ∃ k : Nat, t = (k : Int) := ⟨t.toNat, by omega⟩
    have hkn : k ≤ n := by omega
    have hkb : k ≤ 140737488355328 := by omega
    by_cases h8 : (n : Int) - (k : Int) < 8
    · rw [getO_end (by rw [hx.len]; exact hout) (by rw [hx.len]; exact h8)]
      have Hout := Lib.hid hout
      clear hout
      go_enter Try.func16, Try.ntmps16
      go_wp2_with (go_at_call 38; refine (outside_no _ _ _ _ _ (by omega) (by omega)).mono ?_; rintro e w' ⟨rfl, rfl⟩)
      go_ret3
      exact ⟨rfl, rfl⟩
    · have F : Hid (getO xs (k : Int) = (vr ((xs.drop k).take 8), (k : Int) + 8, 0)) := Lib.hid (getO_in (by rw [hx.len]; omega))
      have hsl : ∀ w, (Instr.slice 23 (.slice A n c) (some (.int .i64 (k : Int))) (some (.int .i64 ((k : Int) + 8))) none).run Try.prog w = .ok (.slice (cutA A k c) 8 (c - k)) w := fun w => by
        have h := cut_lh Try.underlying23 elem_bytes size_u8 A (n := n) (cap := c) (k := k) (m := k + 8) (by omega) (by omega) w
        rw [Nat.add_sub_cancel_left] at h
        exact h
      have hr : Rd w (cutA A k c) 8 ((xs.drop k).take 8) := by
        have h := hx.cut (k := k) (m := k + 8) (by omega) (by omega) hnc
        rw [Nat.add_sub_cancel_left, List.drop_take, Nat.add_sub_cancel_left] at h
        exact h
      obtain ⟨A', hA'⟩ : ∃ A', A' = cutA A k c := ⟨_, rfl⟩
      obtain ⟨cc, hcc⟩ : ∃ cc, cc = c - k := ⟨_, rfl⟩
      obtain ⟨ys, hys⟩ : ∃ ys, ys = (xs.drop k).take 8 := ⟨_, rfl⟩
      rw [← hA', ← hys] at hr
      rw [← hA', ← hcc] at hsl
      rw [← hys] at F
      clear hA' hcc hys hout
      go_enter Try.func16, Try.ntmps16
      go_wp2_with (go_at_call 38; refine (outside_no _ _ _ _ _ (by omega) (by omega)).mono ?_; rintro e w' ⟨rfl, rfl⟩)
      go_loop [7, 24] (fun v j => ∃ i acc : Nat, v = .int .u64 acc ∧ j = .int .i64 i ∧ i ≤ 8 ∧ acc = vr (ys.take i)) (fun _ j => 8 - (intOf j).toNat)
      case atStart => exact ⟨0, 0, rfl, rfl, by omega, rfl⟩
      case round =>
        obtain ⟨i, acc, rfl, rfl, hi, hacc⟩ := hrel
        have Hacc := Lib.hid hacc
        have hb : acc < 256 ^ i := by
          rw [hacc]
          have := vr_lt (ys.take i)
          rw [List.length_take, hr.len, Nat.min_eq_left hi] at this
          exact this
        have Hb := Lib.hid hb
        clear hacc hb
        by_cases hlt : i < 8
        · obtain ⟨b, off, rfl, _⟩ := hr.pos (by omega)
          obtain ⟨x, hx1, hx2, hx3⟩ := hr.at_ i hlt
          have V := Lib.hid (byte_on acc x.toNat i (by omega) (by omega) Hb.out)
          have R : Hid (acc * 256 + x.toNat = vr (ys.take (i + 1))) := by
            rw [take_snoc' _ _ _ hx1, vr_snoc, ← Hacc.out]
            exact Lib.hid rfl
          clear hx1
          go_wp2
          go_round
          case rel => exact ⟨i + 1, acc * 256 + x.toNat, by rw [V.out], by go_num, by omega, R.out⟩
          case measure => simp [intOf]; omega
        · have h : i = 8 := by omega
          subst h
          have E : Hid (acc = vr ys) := by
            rw [Hacc.out, List.take_of_length_le (by rw [hr.len]; omega)]
            exact Lib.hid rfl
          go_wp2
          go_ret3
          exact retG_mk F.out (by rw [E.out]) (by omega) rfl

set_option maxRecDepth 100000 in
set_option maxHeartbeats 1000000 in
theorem refGetOrdU_any (A : Option Addr) (n c : Nat) (xs : List UInt8) (t : Int) (w : World) (hx : Rd w A n xs) (hn : n ≤ 140737488355328) :
    Calls Try.prog 18 #[.slice A n c, .int .i64 t] w (RetG w (getO xs t)) := by
  by_cases hout : t < 0 ∨ (n : Int) < t
  · rw [getO_out (by rw [hx.len]; exact hout)]
    by_cases h0 : t < 0
    · go_enter Try.func18, Try.ntmps18
      go_wp2
      go_ret3
      exact ⟨rfl, rfl⟩
    · have hd : decide (t < 0) = false := by simp; omega
      have hd1 : decide ((n : Int) < t) = true := by simp; omega
      go_enter Try.func18, Try.ntmps18
      go_wp2
      go_ret3
      exact ⟨rfl, rfl⟩
  · obtain ⟨k, rfl⟩ : ∃ k : Nat, t = (k : Int) := ⟨t.toNat, by omega⟩
    have hkn : k ≤ n := by omega
    have hkb : k ≤ 140737488355328 := by omega
    have hd1 : decide ((n : Int) < (k : Int)) = false := by simp; omega
    by_cases h8 : (n : Int) - (k : Int) < 8
    · rw [getO_end (by rw [hx.len]; exact hout) (by rw [hx.len]; exact h8)]
      have Hout := Lib.hid hout
      clear hout
      go_enter Try.func18, Try.ntmps18
      go_wp2
      go_ret3
      exact ⟨rfl, rfl⟩
    · have F : Hid (getO xs (k : Int) = (vr ((xs.drop k).take 8), (k : Int) + 8, 0)) := Lib.hid (getO_in (by rw [hx.len]; omega))
      clear hout
      have hk8 : k + 8 ≤ n := by omega
      go_enter Try.func18, Try.ntmps18
      go_wp2
      go_loop [7, 8] (fun v j => ∃ i acc : Nat, v = .int .u64 acc ∧ j = .int .i64 i ∧ i ≤ 8 ∧ acc = vr ((xs.drop k).take i)) (fun _ j => 8 - (intOf j).toNat)
      case atStart => exact ⟨0, 0, rfl, rfl, by omega, rfl⟩
      case round =>
        obtain ⟨i, acc, rfl, rfl, hi, hacc⟩ := hrel
        have Hacc := Lib.hid hacc
        have hb : acc < 256 ^ i := by
          rw [hacc]
          have := vr_lt ((xs.drop k).take i)
          rw [List.length_take, List.length_drop, hx.len, Nat.min_eq_left (by omega)] at this
          exact this
        have Hb := Lib.hid hb
        clear hacc hb
        by_cases hlt : i < 8
        · obtain ⟨b, off, rfl, _⟩ := hx.pos (by omega)
          obtain ⟨x, hx1, hx2, hx3⟩ := hx.at_ (k + i) (by omega)
          have V := Lib.hid (byte_sum acc x.toNat i (by omega) (by omega) Hb.out)
          have R : Hid (acc * 256 + x.toNat = vr ((xs.drop k).take (i + 1))) := by
            rw [take_snoc' _ _ x (by rw [List.getElem?_drop]; exact hx1), vr_snoc, ← Hacc.out]
            exact Lib.hid rfl
          have hki : k + i < n := by omega
          clear hx1
          go_wp2
          go_round
          case rel => exact ⟨i + 1, acc * 256 + x.toNat, by rw [V.out], by go_num, by omega, R.out⟩
          case measure => simp [intOf]; omega
        · have h : i = 8 := by omega
          subst h
          go_wp2
          go_ret3
          exact retG_mk F.out (by rw [Hacc.out]) (by omega) rfl

/-- The signed number that stands at a place. -/
def dn (n : Nat) : Int := (n : Int) - 9223372036854775808
theorem dn_i64 {n : Nat} (h : n < B64) : I64 (dn n) := by
  unfold B64 at h
  unfold I64 dn
  omega
theorem up_dn (n : Nat) : up (dn n) = n := by
  unfold up dn
  omega
theorem dn_wrap {n : Nat} (h : n < B64) : wrap64 (IntKind.u64.wrap ((n : Int) - 9223372036854775808)) = dn n := by
  unfold B64 at h
  unfold dn wrap64
  rw [IntKind.wrap_u64]
  omega
def RetI (w : World) (g : Int × Int × Int) (e : Ending) (w' : World) : Prop :=
  e = .returned (.tuple #[.int .i64 g.1, .int .i64 g.2.1, .int .i64 g.2.2]) ∧ w = w'
def getOI (g : Nat × Int × Int) : Int × Int × Int := if g.2.2 = 0 then (dn g.1, g.2.1, 0) else (0, 0, g.2.2)
theorem getO_lt (xs : List UInt8) (t : Int) : (getO xs t).1 < B64 := by
  rcases hg : getO xs t with ⟨m, nx, e⟩
  by_cases he : e = 0
  · obtain ⟨_, _, _, _, _, h⟩ := getO_ok hg he
    exact h
  · by_cases ho : t < 0 ∨ (xs.length : Int) < t
    · rw [getO_out ho] at hg
      simp only [Prod.mk.injEq] at hg
      unfold B64
      omega
    · by_cases h8 : (xs.length : Int) - t < 8
      · rw [getO_end ho h8] at hg
        simp only [Prod.mk.injEq] at hg
        unfold B64
        omega
      · rw [getO, if_neg ho, if_neg h8] at hg
        simp only [Prod.mk.injEq] at hg
        exact absurd hg.2.2.symm he

theorem GetOrdI_any (A : Option Addr) (n c : Nat) (xs : List UInt8) (t : Int) (w : World) (hx : Rd w A n xs) (hn : n ≤ 140737488355328) (hnc : n ≤ c) :
    Calls Try.prog 19 #[.slice A n c, .int .i64 t] w (RetI w (getOI (getO xs t))) := by
  have hC := GetOrdU_any A n c xs t w hx hn hnc
  have hlt := getO_lt xs t
  rcases hg : getO xs t with ⟨m, nx, e⟩
  rw [hg] at hC hlt
  have HC := Lib.hid hC
  have V := Lib.hid (dn_wrap hlt)
  clear hC hg hlt
  by_cases he : e = 0
  · subst he
    go_enter Try.func19, Try.ntmps19
    go_wp2_with (go_at_call 16; refine HC.out.mono ?_; rintro e w' ⟨rfl, rfl⟩)
    go_ret3
    refine ⟨?_, rfl⟩
    rw [getOI, if_pos rfl, ← V.out]
    rfl
  · have hb : ((e : Int) != 0) = true := by simpa using he
    have He := Lib.hid he
    clear he
    go_enter Try.func19, Try.ntmps19
    go_wp2_with (go_at_call 16; refine HC.out.mono ?_; rintro e w' ⟨rfl, rfl⟩)
    go_ret3
    refine ⟨?_, rfl⟩
    rw [getOI, if_neg He.out]
    rfl

theorem getO_err {xs : List UInt8} {t : Int} {m : Nat} {nx e : Int} (h : getO xs t = (m, nx, e)) (he : e ≠ 0) : m = 0 ∧ nx = 0 := by
  unfold getO at h
  split at h
  · simp only [Prod.mk.injEq] at h
    omega
  · split at h
    · simp only [Prod.mk.injEq] at h
      omega
    · simp only [Prod.mk.injEq] at h
      exact absurd h.2.2.symm he
theorem wrap64_I64 (n : Int) : I64 (wrap64 n) := by
  unfold I64 wrap64
  omega

theorem up_lt_iff {a b : Int} (ha : I64 a) (hb : I64 b) : up a < up b ↔ a < b := by
  unfold I64 at ha hb
  unfold up
  omega
theorem ordI_lt {a b : Int} (ha : I64 a) (hb : I64 b) : decide (cmpB (ordU (up a)) (ordU (up b)) < 0) = decide (a < b) := by
  rw [decide_eq_decide]
  exact (ordU_lt _ _ (up_lt ha) (up_lt hb)).trans (up_lt_iff ha hb)

end Go.Proofs.Ytdcboeeblbakhaa
