/- codec.GetU and the reference's GetU return the number at a place, and the place behind it, or the error. -/
import Derived.Test.YtgccbghaibddcaaMem
namespace Go.Proofs.Ytgccbghaibddcaa
open Go Go.RowKit

theorem outside_yes (A : Option Addr) (n c : Nat) (t : Int) (w : World) (h : t < 0 ∨ (n : Int) < t) :
    Calls Try.prog 105 #[.slice A n c, .int .i64 t] w fun e w' => e = .returned (.bool true) ∧ w = w' := by
  by_cases h0 : t < 0
  · go_enter Try.func105, Try.ntmps105
    go_wp2
    go_ret
    exact ⟨rfl, rfl⟩
  · have h1 : (n : Int) < t := by omega
    go_enter Try.func105, Try.ntmps105
    go_wp2
    go_ret
    exact ⟨rfl, rfl⟩

theorem outside_no (A : Option Addr) (n c : Nat) (t : Int) (w : World) (h0 : 0 ≤ t) (h1 : t ≤ (n : Int)) :
    Calls Try.prog 105 #[.slice A n c, .int .i64 t] w fun e w' => e = .returned (.bool false) ∧ w = w' := by
  have hd : ¬ t < 0 := by omega
  have hd1 : decide ((n : Int) < t) = false := by simp; omega
  go_enter Try.func105, Try.ntmps105
  go_wp2
  go_ret
  exact ⟨rfl, rfl⟩

/-- 'It hands back these three numbers, and leaves memory alone.' -/
def RetG (w : World) (g : Nat × Int × Int) (e : Ending) (w' : World) : Prop :=
  e = .returned (.tuple #[.int .u64 (g.1 : Int), .int .i64 g.2.1, .int .i64 g.2.2]) ∧ w = w'

theorem retG_mk {w : World} {g : Nat × Int × Int} {a' : Nat} {b' c' a b c : Int} (hg : g = (a', b', c')) (ha : a = (a' : Int)) (hb : b = b') (hc : c = c') :
    RetG w g (.returned (.tuple #[.int .u64 a, .int .i64 b, .int .i64 c])) w := by
  subst hg ha hb hc
  exact ⟨rfl, rfl⟩

set_option maxRecDepth 100000 in
theorem GetU_any (A : Option Addr) (n c : Nat) (xs : List UInt8) (t : Int) (w : World) (hx : Rd w A n xs) (hn : n ≤ 140737488355328) (hnc : n ≤ c) :
    Calls Try.prog 72 #[.slice A n c, .int .i64 t] w (RetG w (getU xs t)) := by
  by_cases hout : t < 0 ∨ (n : Int) < t
  · rw [getU_out (by rw [hx.len]; exact hout)]
    go_enter Try.func72, Try.ntmps72
    go_wp2_with (go_at_call 105; refine (outside_yes _ _ _ _ _ hout).mono ?_; rintro e w' ⟨rfl, rfl⟩)
    go_ret3
    exact ⟨rfl, rfl⟩
  · obtain ⟨k, rfl⟩ : ∃ k : Nat, t = (k : Int) := ⟨t.toNat, by omega⟩
    have hkn : k ≤ n := by omega
    have Hn := Lib.hid hn
    clear hout hn
    have hsl : ∀ w, (Instr.slice 30 (.slice A n c) (some (.int .i64 (k : Int))) none none).run Try.prog w = .ok (.slice (cutA A k c) (n - k) (c - k)) w :=
      cut_l Try.underlying30 elem_bytes size_u8 A hkn
    have hr : Rd w (cutA A k c) (n - k) (xs.drop k) := by
      have h := hx.cut hkn (Nat.le_refl n) hnc
      rw [List.take_of_length_le (by rw [hx.len]; omega)] at h
      exact h
    obtain ⟨A', hA'⟩ : ∃ A', A' = cutA A k c := ⟨_, rfl⟩
    obtain ⟨l, hl⟩ : ∃ l, l = n - k := ⟨_, rfl⟩
    obtain ⟨cc, hcc⟩ : ∃ cc, cc = c - k := ⟨_, rfl⟩
    rw [← hA', ← hl] at hr
    rw [← hA', ← hl, ← hcc] at hsl
    have Hl : Hid (l + k = n) := Lib.hid (by omega)
    have hlb : l ≤ 140737488355328 := by have := Hn.out; omega
    have hkb : k ≤ 140737488355328 := by have := Hn.out; omega
    obtain ⟨ys, hys⟩ : ∃ ys, ys = xs.drop k := ⟨_, rfl⟩
    rw [← hys] at hr
    have Hys := Lib.hid hys
    clear hA' hl hcc hys
    go_enter Try.func72, Try.ntmps72
    go_wp2_with (go_at_call 105; refine (outside_no _ _ _ _ _ (by omega) (by omega)).mono ?_; rintro e w' ⟨rfl, rfl⟩)
    go_loop [7, 17] (fun v j => ∃ i acc : Nat, v = .int .u64 acc ∧ j = .int .i64 i ∧ i ≤ l ∧ i ≤ 9 ∧ acc < 128 ^ i ∧ getL ys 0 0 = getL (ys.drop i) i acc) (fun _ j => l - (intOf j).toNat)
    case atStart => exact ⟨0, 0, rfl, rfl, by omega, by omega, by decide, rfl⟩
    case round =>
      obtain ⟨i, acc, rfl, rfl, hil, hi9, hacc, hg⟩ := hrel
      have Hacc := Lib.hid hacc
      have Hg := Lib.hid hg
      clear hacc hg
      by_cases hlt : i < l
      · obtain ⟨b, off, rfl, _⟩ := hr.pos (by omega)
        obtain ⟨x, hx1, hx2, hx3⟩ := hr.at_ i hlt
        obtain ⟨z, hz⟩ : ∃ z, z = x.toNat := ⟨_, rfl⟩
        rw [← hz] at hx2 hx3
        have Hg2 : Hid (getL ys 0 0 = getL (x :: ys.drop (i + 1)) i acc) := by
          rw [← drop_cons hx1]
          exact Hg
        have Hz := Lib.hid hz
        clear hx1 hz Hg
        have hkl : k ≤ xs.length := by rw [hx.len]; exact hkn
        have Hv : i ≤ 9 → (i = 9 → z % 128 ≤ 1) → Hid (bits .or .u64 (acc : Int) (IntKind.u64.wrap (IntKind.u64.wrap (bits .and .u8 (z : Int) 127) * 2 ^ (7 * i))) = ((acc + z % 128 * 128 ^ i : Nat) : Int)) :=
          fun h1 h2 => Lib.hid (group_on acc z i (by omega) h1 h2 Hacc.out)
        have form : ((i = 9 ∧ 1 < z) ∨ (0 < i ∧ z = 0)) → Hid (getU xs (k : Int) = (0, 0, 3)) := fun h => by
          refine Lib.hid (getU_in hkl (n := 0) (j := 0) (e := 3) ?_)
          rw [← Hys.out, Hg2.out]
          exact getL_form _ _ (by rw [← Hz.out]; exact h)
        have last : ¬ ((i = 9 ∧ 1 < z) ∨ (0 < i ∧ z = 0)) → z < 128 → Hid (getU xs (k : Int) = (acc + z * 128 ^ i, (k : Int) + (i + 1 : Nat), 0)) := fun h h1 => by
          have hq := getU_in hkl (n := acc + z * 128 ^ i) (j := i + 1) (e := 0) (by
            rw [← Hys.out, Hg2.out, Hz.out]
            exact getL_last _ _ (by rw [← Hz.out]; exact h) (by rw [← Hz.out]; exact h1))
          exact Lib.hid hq
        have more : ¬ ((i = 9 ∧ 1 < z) ∨ (0 < i ∧ z = 0)) → ¬ z < 128 → Hid (getL ys 0 0 = getL (ys.drop (i + 1)) (i + 1) (acc + z % 128 * 128 ^ i)) := fun h h1 => by
          rw [Hg2.out, Hz.out]
          exact Lib.hid (getL_more _ _ (by rw [← Hz.out]; exact h) (by rw [← Hz.out]; exact h1))
        clear Hg2 Hz
        by_cases h9 : i = 9
        · subst h9
          by_cases h1 : 1 < z
          · have F := form (.inl ⟨rfl, h1⟩)
            clear form last more Hv
            have e1 : decide ((1 : Int) < (z : Int)) = true := by simp; omega
            go_wp2
            go_ret3
            exact retG_mk F.out rfl rfl rfl
          · have e1 : decide ((1 : Int) < (z : Int)) = false := by simp; omega
            have e3 : decide ((128 : Int) ≤ (z : Int)) = false := by simp; omega
            by_cases h0 : z = 0
            · have F := form (.inr ⟨by omega, h0⟩)
              clear form last more Hv
              have H0 := Lib.hid h0
              clear h0
              have e2 : ((z : Int) == 0) = true := by have := H0.out; simp; omega
              go_wp2
              go_ret3
              exact retG_mk F.out rfl rfl rfl
            · have F := last (by omega) (by omega)
              have V := Hv (by omega) (by omega)
              clear form last more Hv
              have e2 : ((z : Int) == 0) = false := by simp; omega
              go_wp2
              go_ret3
              exact retG_mk F.out (by have h := V.out; rw [show (2 : Int) ^ (7 * 9) = 9223372036854775808 from by decide +kernel, Nat.mod_eq_of_lt (by omega)] at h; exact h) (by omega) rfl
        · have e9 : ((i : Int) == 9) = false := by simp; omega
          by_cases h128 : z < 128
          · have e3 : decide ((128 : Int) ≤ (z : Int)) = false := by simp; omega
            by_cases h0 : z = 0
            · have H0 := Lib.hid h0
              have e2 : ((z : Int) == 0) = true := by simp; omega
              by_cases hi0 : 0 < i
              · have F := form (.inr ⟨hi0, h0⟩)
                clear form last more Hv h0
                have e4 : decide ((0 : Int) < (i : Int)) = true := by simp; omega
                go_wp2
                go_ret3
                exact retG_mk F.out rfl rfl rfl
              · have F := last (by omega) (by omega)
                have V := Hv (by omega) (by omega)
                clear form last more Hv h0
                have e4 : decide ((0 : Int) < (i : Int)) = false := by simp; omega
                go_wp2
                go_ret3
                exact retG_mk F.out (by rw [V.out, Nat.mod_eq_of_lt (by omega)]) (by omega) rfl
            · have F := last (by omega) (by omega)
              have V := Hv (by omega) (by omega)
              clear form last more Hv
              have e2 : ((z : Int) == 0) = false := by simp; omega
              go_wp2
              go_ret3
              exact retG_mk F.out (by rw [V.out, Nat.mod_eq_of_lt (by omega)]) (by omega) rfl
          · have e3 : decide ((128 : Int) ≤ (z : Int)) = true := by simp; omega
            have F := more (by omega) h128
            have V := Hv (by omega) (by omega)
            clear form last more Hv
            go_wp2
            go_round
            case rel => exact ⟨i + 1, acc + z % 128 * 128 ^ i, by rw [V.out], by go_num, by omega, by omega, acc_step Hacc.out (by omega), F.out⟩
            case measure => simp [intOf]; omega
      · have hkl : k ≤ xs.length := by rw [hx.len]; exact hkn
        have F : Hid (getU xs (k : Int) = (0, 0, 5)) := by
          refine Lib.hid (getU_in hkl (n := 0) (j := 0) (e := 5) ?_)
          rw [← Hys.out, Hg.out, List.drop_of_length_le (by rw [hr.len]; omega)]
          rfl
        go_wp2
        go_ret3
        exact retG_mk F.out rfl rfl rfl

end Go.Proofs.Ytgccbghaibddcaa
