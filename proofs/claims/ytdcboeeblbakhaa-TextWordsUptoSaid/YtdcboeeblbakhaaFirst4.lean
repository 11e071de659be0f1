/- The reference's First at a lead byte of four; First at any place of any string. -/
import Derived.Test.YtdcboeeblbakhaaFirst
namespace Go.Proofs.Ytdcboeeblbakhaa
open Go Go.RowKit

set_option maxRecDepth 100000 in
set_option maxHeartbeats 8000000 in
theorem First_four (s : ByteArray) (p : Nat) (w : World) (hp : p < s.size) (hs : s.size ≤ 140737488355328) (z : Nat) (e0 : (s[p]'hp).toNat = z) (c1 : 240 ≤ z) (c2 : z ≤ 244) (hD : Utf8.decode s p = Lib.decodeN (s.size - p) z (s.get! (p + 1)).toNat (s.get! (p + 2)).toNat (s.get! (p + 3)).toNat) :
    Calls Try.prog 52 #[.string s, .int .i64 p] w (First3 w s p) := by
  rw [dN_four c1 c2] at hD
  by_cases hn : p + 3 < s.size
  · have hn1 : p + 1 < s.size := by omega
    have hn2 : p + 2 < s.size := by omega
    rw [get_nat s (p + 1) hn1, get_nat s (p + 2) hn2, get_nat s (p + 3) hn] at hD
    have hz1 := byte_le s (p + 1) hn1
    have hz2 := byte_le s (p + 2) hn2
    have hz3 := byte_le s (p + 3) hn
    obtain ⟨y1, hy1⟩ : ∃ z, (s[p + 1]'hn1).toNat = z := ⟨_, rfl⟩
    obtain ⟨y2, hy2⟩ : ∃ z, (s[p + 2]'hn2).toNat = z := ⟨_, rfl⟩
    obtain ⟨y3, hy3⟩ : ∃ z, (s[p + 3]'hn).toNat = z := ⟨_, rfl⟩
    rw [hy1] at hD hz1
    rw [hy2] at hD hz2
    rw [hy3] at hD hz3
    by_cases g1 : y1 < 128 ∨ 191 < y1
    · have F := Lib.hid (First_bad (w := w) (by rw [hD, if_neg (by omega)] : Utf8.decode s p = (65533, 1)))
      clear hD
      rcases g1 with g1 | g1
      all_goals
        go_enter Try.func52, Try.ntmps52
        go_wp2_with fail
        refine (wide_any (z : Int) 3 ((z : Int) - 240) _ (by omega) (by omega) (.inr (.inr (.inr (.inl ⟨by omega, by omega, rfl, rfl⟩))))).mono ?_
        rintro e w' ⟨rfl, rfl⟩
        go_wp2
        go_rounds 2
        go_ret3
        exact F.out _ _ _ rfl rfl rfl
    · have g1a : 128 ≤ y1 := by omega
      have g1b : y1 ≤ 191 := by omega
      clear g1
      by_cases g2 : y2 < 128 ∨ 191 < y2
      · have F := Lib.hid (First_bad (w := w) (by rw [hD, if_neg (by omega)] : Utf8.decode s p = (65533, 1)))
        clear hD
        rcases g2 with g2 | g2
        all_goals
          go_enter Try.func52, Try.ntmps52
          go_wp2_with fail
          refine (wide_any (z : Int) 3 ((z : Int) - 240) _ (by omega) (by omega) (.inr (.inr (.inr (.inl ⟨by omega, by omega, rfl, rfl⟩))))).mono ?_
          rintro e w' ⟨rfl, rfl⟩
          go_wp2
          go_rounds 3
          go_ret3
          exact F.out _ _ _ rfl rfl rfl
      · have g2a : 128 ≤ y2 := by omega
        have g2b : y2 ≤ 191 := by omega
        clear g2
        by_cases g3 : y3 < 128 ∨ 191 < y3
        · have F := Lib.hid (First_bad (w := w) (by rw [hD, if_neg (by omega)] : Utf8.decode s p = (65533, 1)))
          clear hD
          rcases g3 with g3 | g3
          all_goals
            go_enter Try.func52, Try.ntmps52
            go_wp2_with fail
            refine (wide_any (z : Int) 3 ((z : Int) - 240) _ (by omega) (by omega) (.inr (.inr (.inr (.inl ⟨by omega, by omega, rfl, rfl⟩))))).mono ?_
            rintro e w' ⟨rfl, rfl⟩
            go_wp2
            go_rounds 4
            go_ret3
            exact F.out _ _ _ rfl rfl rfl
        · have g3a : 128 ≤ y3 := by omega
          have g3b : y3 ≤ 191 := by omega
          clear g3
          obtain ⟨v, hv⟩ : ∃ v : Nat, (((z - 240) * 64 + y1 - 128) * 64 + y2 - 128) * 64 + y3 - 128 = v := ⟨_, rfl⟩
          obtain ⟨r, hr⟩ : ∃ r : Int, ((((z : Int) - 240) * 64 + y1 - 128) * 64 + y2 - 128) * 64 + y3 - 128 = r := ⟨_, rfl⟩
          have hvr : r = (v : Int) := by omega
          rw [hv] at hD
          by_cases g4 : 65536 ≤ v ∧ v ≤ 1114111
          · have F := Lib.hid (First_good (w := w) (by rw [hD, if_pos (by omega)] : Utf8.decode s p = (v, 4)) (.inl (by omega)))
            have Hvr := Lib.hid hvr
            have g5 : 65536 ≤ r := by omega
            have g6 : r ≤ 1114111 := by omega
            clear hD hv g4 hvr
            go_enter Try.func52, Try.ntmps52
            go_wp2_with fail
            refine (wide_any (z : Int) 3 ((z : Int) - 240) _ (by omega) (by omega) (.inr (.inr (.inr (.inl ⟨by omega, by omega, rfl, rfl⟩))))).mono ?_
            rintro e w' ⟨rfl, rfl⟩
            go_wp2
            go_rounds 4
            go_ret3
            exact F.out _ _ _ rfl Hvr.out rfl
          · have F := Lib.hid (First_bad (w := w) (by rw [hD, if_neg (by omega)] : Utf8.decode s p = (65533, 1)))
            have g5 : r < 65536 ∨ 1114111 < r := by omega
            clear hD hv g4 hvr
            rcases g5 with g5 | g5
            all_goals
              go_enter Try.func52, Try.ntmps52
              go_wp2_with fail
              refine (wide_any (z : Int) 3 ((z : Int) - 240) _ (by omega) (by omega) (.inr (.inr (.inr (.inl ⟨by omega, by omega, rfl, rfl⟩))))).mono ?_
              rintro e w' ⟨rfl, rfl⟩
              go_wp2
              go_rounds 4
              go_ret3
              exact F.out _ _ _ rfl rfl rfl
  · have F := Lib.hid (First_bad (w := w) (by rw [hD, if_neg (by omega)] : Utf8.decode s p = (65533, 1)))
    clear hD
    go_enter Try.func52, Try.ntmps52
    go_wp2_with fail
    refine (wide_any (z : Int) 3 ((z : Int) - 240) _ (by omega) (by omega) (.inr (.inr (.inr (.inl ⟨by omega, by omega, rfl, rfl⟩))))).mono ?_
    rintro e w' ⟨rfl, rfl⟩
    go_wp2
    go_ret3
    exact F.out _ _ _ rfl rfl rfl

theorem First_any (s : ByteArray) (p : Nat) (w : World) (hp : p < s.size) (hs : s.size ≤ 140737488355328) :
    Calls Try.prog 52 #[.string s, .int .i64 p] w (First3 w s p) := by
  have hD := Lib.decode_at s p
  rw [get_nat s p hp] at hD
  obtain ⟨z, e0⟩ : ∃ z, (s[p]'hp).toNat = z := ⟨_, rfl⟩
  have hz := byte_le s p hp
  rw [e0] at hD hz
  by_cases c0 : z < 128
  · exact First_one s p w hp hs z e0 c0 (by rw [hD, Lib.decodeN, if_pos c0])
  · by_cases c1 : z ≤ 193 ∨ 245 ≤ z
    · exact First_none s p w hp z e0 hz (by omega) (by rw [hD]; exact dN_bad hz (by omega))
    · by_cases c2 : z ≤ 223
      · exact First_two s p w hp hs z e0 (by omega) c2 (by rw [hD]; exact dN_two (by omega) c2)
      · by_cases c3 : z ≤ 239
        · exact First_three s p w hp hs z e0 (by omega) c3 hD
        · exact First_four s p w hp hs z e0 (by omega) (by omega) hD

end Go.Proofs.Ytdcboeeblbakhaa
