/- The reference's First tells the rune at a place, its width, and whether it is well-formed, as the language decodes it; it leaves memory alone. -/
import Derived.Test.YtdcboeeblbakhaaDec
import Derived.Handy
namespace Go.Proofs.Ytdcboeeblbakhaa
open Go Go.RowKit

def RetW (w : World) (n c : Int) (e : Ending) (w' : World) : Prop := e = .returned (.tuple #[.int .i64 n, .int .i64 c]) ∧ w = w'

set_option maxRecDepth 100000 in
theorem wide_any (z n c : Int) (w : World) (h0 : 0 ≤ z) (h1 : z ≤ 255)
    (hv : (z < 128 ∧ n = 0 ∧ c = z) ∨ (194 ≤ z ∧ z ≤ 223 ∧ n = 1 ∧ c = z - 192) ∨ (224 ≤ z ∧ z ≤ 239 ∧ n = 2 ∧ c = z - 224) ∨ (240 ≤ z ∧ z ≤ 244 ∧ n = 3 ∧ c = z - 240) ∨ (((128 ≤ z ∧ z ≤ 193) ∨ 245 ≤ z) ∧ n = -1 ∧ c = 0)) :
    Calls Try.prog 56 #[.int .u8 z] w (RetW w n c) := by
  have fin : ∀ a b : Int, a = n → b = c → RetW w n c (.returned (.tuple #[.int .i64 a, .int .i64 b])) w := fun a b h h' => by subst h h'; exact ⟨rfl, rfl⟩
  have Fin := Lib.hid fin
  clear fin
  have hr : z < 128 ∨ (194 ≤ z ∧ z ≤ 223) ∨ (224 ≤ z ∧ z ≤ 239) ∨ (240 ≤ z ∧ z ≤ 244) ∨ (128 ≤ z ∧ z ≤ 193) ∨ 245 ≤ z := by omega
  have Hv := Lib.hid hv
  clear hv
  rcases hr with h | ⟨h, h'⟩ | ⟨h, h'⟩ | ⟨h, h'⟩ | ⟨h, h'⟩ | h
  all_goals
    go_enter Try.func56, Try.ntmps56
    go_wp2
    go_ret2
    exact Fin.out _ _ (by have := Hv.out; omega) (by have := Hv.out; omega)

/-- Is what is decoded well-formed? -/
def okD (s : ByteArray) (p : Nat) : Bool := !(decide ((Utf8.decode s p).1 = 65533) && decide ((Utf8.decode s p).2 = 1))
def RetF (w : World) (c wd : Nat) (ok : Bool) (e : Ending) (w' : World) : Prop := e = .returned (.tuple #[.int .i64 c, .int .i64 wd, .bool ok]) ∧ w = w'
def First3 (w : World) (s : ByteArray) (p : Nat) : Ending → World → Prop := RetF w (Utf8.decode s p).1 (Utf8.decode s p).2 (okD s p)
theorem first_mk {w : World} {s : ByteArray} {p c wd : Nat} {ok : Bool} {a b : Int} (h : Utf8.decode s p = (c, wd)) (hok : ok = !(decide (c = 65533) && decide (wd = 1))) (ha : a = (c : Int)) (hb : b = (wd : Int)) :
    First3 w s p (.returned (.tuple #[.int .i64 a, .int .i64 b, .bool ok])) w := by
  subst ha hb hok
  unfold First3 okD
  rw [h]
  exact ⟨rfl, rfl⟩
theorem get_nat (s : ByteArray) (i : Nat) (h : i < s.size) : (s.get! i).toNat = (s[i]'h).toNat := by
  have := get_at s i h
  rw [Nat.add_zero] at this
  rw [this]


theorem dN_bad {n a b c d : Nat} (h0 : a ≤ 255) (h : (128 ≤ a ∧ a ≤ 193) ∨ 245 ≤ a) : Lib.decodeN n a b c d = (65533, 1) := by
  unfold Lib.decodeN
  repeat' split
  all_goals first | (exfalso; omega) | (apply Prod.ext <;> simp only)
theorem dN_two {n a b c d : Nat} (h0 : 194 ≤ a) (h : a ≤ 223) : Lib.decodeN n a b c d = if 1 < n ∧ 128 ≤ b ∧ b ≤ 191 then ((a - 192) * 64 + b - 128, 2) else (65533, 1) := by
  unfold Lib.decodeN
  repeat' split
  all_goals first | (exfalso; omega) | (apply Prod.ext <;> simp only <;> omega)
theorem dN_three {n a b c d : Nat} (h0 : 224 ≤ a) (h : a ≤ 239) : Lib.decodeN n a b c d = if 2 < n ∧ 128 ≤ b ∧ b ≤ 191 ∧ 128 ≤ c ∧ c ≤ 191 ∧ 2048 ≤ ((a - 224) * 64 + b - 128) * 64 + c - 128 ∧ (((a - 224) * 64 + b - 128) * 64 + c - 128 < 55296 ∨ 57343 < ((a - 224) * 64 + b - 128) * 64 + c - 128) then (((a - 224) * 64 + b - 128) * 64 + c - 128, 3) else (65533, 1) := by
  unfold Lib.decodeN
  repeat' split
  all_goals first | (exfalso; omega) | (apply Prod.ext <;> simp only <;> omega)
theorem dN_four {n a b c d : Nat} (h0 : 240 ≤ a) (h : a ≤ 244) : Lib.decodeN n a b c d = if 3 < n ∧ 128 ≤ b ∧ b ≤ 191 ∧ 128 ≤ c ∧ c ≤ 191 ∧ 128 ≤ d ∧ d ≤ 191 ∧ 65536 ≤ (((a - 240) * 64 + b - 128) * 64 + c - 128) * 64 + d - 128 ∧ (((a - 240) * 64 + b - 128) * 64 + c - 128) * 64 + d - 128 ≤ 1114111 then ((((a - 240) * 64 + b - 128) * 64 + c - 128) * 64 + d - 128, 4) else (65533, 1) := by
  unfold Lib.decodeN
  repeat' split
  all_goals first | (exfalso; omega) | (apply Prod.ext <;> simp only <;> omega)

theorem First_bad {w : World} {s : ByteArray} {p : Nat} (h : Utf8.decode s p = (65533, 1)) : ∀ ok a b, ok = false → a = 65533 → b = 1 → First3 w s p (.returned (.tuple #[.int .i64 a, .int .i64 b, .bool ok])) w := fun ok a b h1 h2 h3 => first_mk h (by rw [h1]; rfl) (by rw [h2]; rfl) (by rw [h3]; rfl)
theorem First_good {w : World} {s : ByteArray} {p c k : Nat} (h : Utf8.decode s p = (c, k)) (hk : k ≠ 1 ∨ c ≠ 65533) : ∀ ok a b, ok = true → a = (c : Int) → b = (k : Int) → First3 w s p (.returned (.tuple #[.int .i64 a, .int .i64 b, .bool ok])) w := fun ok a b h1 h2 h3 => first_mk h (by rw [h1]; rcases hk with h | h <;> simp [h]) h2 h3

theorem byte_le (s : ByteArray) (i : Nat) (h : i < s.size) : (s[i]'h).toNat ≤ 255 := by have := UInt8.toNat_lt (s[i]'h); omega

section
variable (s : ByteArray) (p : Nat) (w : World) (hp : p < s.size) (hs : s.size ≤ 140737488355328)
include hs

set_option maxRecDepth 100000 in
set_option maxHeartbeats 4000000 in
theorem First_one (z : Nat) (e0 : (s[p]'hp).toNat = z) (c0 : z < 128) (hD : Utf8.decode s p = (z, 1)) : Calls Try.prog 52 #[.string s, .int .i64 p] w (First3 w s p) := by
  have F := Lib.hid (First_good (w := w) hD (.inr (by omega)))
  clear hD
  go_enter Try.func52, Try.ntmps52
  go_wp2_with fail
  refine (wide_any (z : Int) 0 (z : Int) _ (by omega) (by omega) (.inl ⟨by omega, rfl, rfl⟩)).mono ?_
  rintro e w' ⟨rfl, rfl⟩
  go_wp2
  go_rounds 2
  go_ret3
  exact F.out _ _ _ rfl rfl rfl

set_option maxRecDepth 100000 in
set_option maxHeartbeats 4000000 in
omit hs in
theorem First_none (z : Nat) (e0 : (s[p]'hp).toNat = z) (h0 : z ≤ 255) (c0 : (128 ≤ z ∧ z ≤ 193) ∨ 245 ≤ z) (hD : Utf8.decode s p = (65533, 1)) : Calls Try.prog 52 #[.string s, .int .i64 p] w (First3 w s p) := by
  have F := Lib.hid (First_bad (w := w) hD)
  have C := Lib.hid c0
  clear hD c0
  go_enter Try.func52, Try.ntmps52
  go_wp2_with fail
  refine (wide_any (z : Int) (-1) 0 _ (by omega) (by omega) (.inr (.inr (.inr (.inr ⟨by have := C.out; omega, rfl, rfl⟩))))).mono ?_
  rintro e w' ⟨rfl, rfl⟩
  go_wp2
  go_ret3
  exact F.out _ _ _ rfl rfl rfl

set_option maxRecDepth 100000 in
set_option maxHeartbeats 4000000 in
theorem First_two (z : Nat) (e0 : (s[p]'hp).toNat = z) (c1 : 194 ≤ z) (c2 : z ≤ 223) (hD : Utf8.decode s p = if 1 < s.size - p ∧ 128 ≤ (s.get! (p + 1)).toNat ∧ (s.get! (p + 1)).toNat ≤ 191 then ((z - 192) * 64 + (s.get! (p + 1)).toNat - 128, 2) else (65533, 1)) :
    Calls Try.prog 52 #[.string s, .int .i64 p] w (First3 w s p) := by
  by_cases hn : p + 1 < s.size
  · rw [get_nat s (p + 1) hn] at hD
    obtain ⟨y1, hy1⟩ : ∃ z, (s[p + 1]'hn).toNat = z := ⟨_, rfl⟩
    have hz1 : y1 ≤ 255 := by have := UInt8.toNat_lt (s[p + 1]'hn); omega
    rw [hy1] at hD
    by_cases g : 128 ≤ y1 ∧ y1 ≤ 191
    · have hD2 : Utf8.decode s p = ((z - 192) * 64 + y1 - 128, 2) := by rw [hD, if_pos ⟨by omega, g⟩]
      have F := Lib.hid (First_good (w := w) hD2 (.inl (by omega)))
      obtain ⟨g1, g2⟩ := g
      clear hD hD2
      go_enter Try.func52, Try.ntmps52
      go_wp2_with fail
      refine (wide_any (z : Int) 1 ((z : Int) - 192) _ (by omega) (by omega) (.inr (.inl ⟨by omega, by omega, rfl, rfl⟩))).mono ?_
      rintro e w' ⟨rfl, rfl⟩
      go_wp2
      go_rounds 2
      go_ret3
      exact F.out _ _ _ rfl (by omega) rfl
    · have hD2 : Utf8.decode s p = (65533, 1) := by rw [hD, if_neg (by omega)]
      have F := Lib.hid (First_bad (w := w) hD2)
      clear hD hD2
      rcases (show y1 < 128 ∨ 191 < y1 by omega) with g1 | g1
      all_goals
        clear g
        go_enter Try.func52, Try.ntmps52
        go_wp2_with fail
        refine (wide_any (z : Int) 1 ((z : Int) - 192) _ (by omega) (by omega) (.inr (.inl ⟨by omega, by omega, rfl, rfl⟩))).mono ?_
        rintro e w' ⟨rfl, rfl⟩
        go_wp2
        go_rounds 2
        go_ret3
        exact F.out _ _ _ rfl rfl rfl
  · have hD2 : Utf8.decode s p = (65533, 1) := by rw [hD, if_neg (by omega)]
    have F := Lib.hid (First_bad (w := w) hD2)
    clear hD hD2
    go_enter Try.func52, Try.ntmps52
    go_wp2_with fail
    refine (wide_any (z : Int) 1 ((z : Int) - 192) _ (by omega) (by omega) (.inr (.inl ⟨by omega, by omega, rfl, rfl⟩))).mono ?_
    rintro e w' ⟨rfl, rfl⟩
    go_wp2
    go_ret3
    exact F.out _ _ _ rfl rfl rfl

set_option maxRecDepth 100000 in
set_option maxHeartbeats 4000000 in
theorem First_three (z : Nat) (e0 : (s[p]'hp).toNat = z) (c1 : 224 ≤ z) (c2 : z ≤ 239) (hD : Utf8.decode s p = Lib.decodeN (s.size - p) z (s.get! (p + 1)).toNat (s.get! (p + 2)).toNat (s.get! (p + 3)).toNat) :
    Calls Try.prog 52 #[.string s, .int .i64 p] w (First3 w s p) := by
  rw [dN_three c1 c2] at hD
  by_cases hn : p + 2 < s.size
  · have hn1 : p + 1 < s.size := by omega
    rw [get_nat s (p + 1) hn1, get_nat s (p + 2) hn] at hD
    have hz1 := byte_le s (p + 1) hn1
    have hz2 := byte_le s (p + 2) hn
    obtain ⟨y1, hy1⟩ : ∃ z, (s[p + 1]'hn1).toNat = z := ⟨_, rfl⟩
    obtain ⟨y2, hy2⟩ : ∃ z, (s[p + 2]'hn).toNat = z := ⟨_, rfl⟩
    rw [hy1] at hD hz1
    rw [hy2] at hD hz2
    by_cases g1 : y1 < 128 ∨ 191 < y1
    · have F := Lib.hid (First_bad (w := w) (by rw [hD, if_neg (by omega)] : Utf8.decode s p = (65533, 1)))
      clear hD
      rcases g1 with g1 | g1
      all_goals
        go_enter Try.func52, Try.ntmps52
        go_wp2_with fail
        refine (wide_any (z : Int) 2 ((z : Int) - 224) _ (by omega) (by omega) (.inr (.inr (.inl ⟨by omega, by omega, rfl, rfl⟩)))).mono ?_
        rintro e w' ⟨rfl, rfl⟩
        go_wp2
        go_rounds 2
        go_ret3
        exact F.out _ _ _ rfl rfl rfl
    · have g1a : 128 ≤ y1 := by omega
      have g1b : y1 ≤ 191 := by omega
      clear g1
      by_cases g2 : y2 < 128 ∨ 191 < y2
      · have F := Lib.hid (First_bad (w := w) (by rw [hD, if_neg (by omega)] : Utf8.decode s p = (65533, 1)))
        clear hD
        rcases g2 with g2 | g2
        all_goals
          go_enter Try.func52, Try.ntmps52
          go_wp2_with fail
          refine (wide_any (z : Int) 2 ((z : Int) - 224) _ (by omega) (by omega) (.inr (.inr (.inl ⟨by omega, by omega, rfl, rfl⟩)))).mono ?_
          rintro e w' ⟨rfl, rfl⟩
          go_wp2
          go_rounds 3
          go_ret3
          exact F.out _ _ _ rfl rfl rfl
      · have g2a : 128 ≤ y2 := by omega
        have g2b : y2 ≤ 191 := by omega
        clear g2
        obtain ⟨v, hv⟩ : ∃ v : Nat, ((z - 224) * 64 + y1 - 128) * 64 + y2 - 128 = v := ⟨_, rfl⟩
        obtain ⟨r, hr⟩ : ∃ r : Int, (((z : Int) - 224) * 64 + y1 - 128) * 64 + y2 - 128 = r := ⟨_, rfl⟩
        have hvr : r = (v : Int) := by omega
        rw [hv] at hD
        by_cases g3 : 2048 ≤ v ∧ (v < 55296 ∨ 57343 < v)
        · have F := Lib.hid (First_good (w := w) (by rw [hD, if_pos (by omega)] : Utf8.decode s p = (v, 3)) (.inl (by omega)))
          have Hvr := Lib.hid hvr
          have g4 : 2048 ≤ r := by omega
          have g5 : r < 55296 ∨ 57343 < r := by omega
          clear hD hv g3 hvr
          rcases g5 with g5 | g5
          all_goals
            go_enter Try.func52, Try.ntmps52
            go_wp2_with fail
            refine (wide_any (z : Int) 2 ((z : Int) - 224) _ (by omega) (by omega) (.inr (.inr (.inl ⟨by omega, by omega, rfl, rfl⟩)))).mono ?_
            rintro e w' ⟨rfl, rfl⟩
            go_wp2
            go_rounds 3
            go_ret3
            exact F.out _ _ _ rfl Hvr.out rfl
        · have F := Lib.hid (First_bad (w := w) (by rw [hD, if_neg (by omega)] : Utf8.decode s p = (65533, 1)))
          have g5 : r < 2048 ∨ (55296 ≤ r ∧ r ≤ 57343) := by omega
          clear hD hv g3 hvr
          rcases g5 with g5 | ⟨g5, g6⟩
          all_goals
            go_enter Try.func52, Try.ntmps52
            go_wp2_with fail
            refine (wide_any (z : Int) 2 ((z : Int) - 224) _ (by omega) (by omega) (.inr (.inr (.inl ⟨by omega, by omega, rfl, rfl⟩)))).mono ?_
            rintro e w' ⟨rfl, rfl⟩
            go_wp2
            go_rounds 3
            go_ret3
            exact F.out _ _ _ rfl rfl rfl
  · have F := Lib.hid (First_bad (w := w) (by rw [hD, if_neg (by omega)] : Utf8.decode s p = (65533, 1)))
    clear hD
    go_enter Try.func52, Try.ntmps52
    go_wp2_with fail
    refine (wide_any (z : Int) 2 ((z : Int) - 224) _ (by omega) (by omega) (.inr (.inr (.inl ⟨by omega, by omega, rfl, rfl⟩)))).mono ?_
    rintro e w' ⟨rfl, rfl⟩
    go_wp2
    go_ret3
    exact F.out _ _ _ rfl rfl rfl
end

end Go.Proofs.Ytdcboeeblbakhaa
