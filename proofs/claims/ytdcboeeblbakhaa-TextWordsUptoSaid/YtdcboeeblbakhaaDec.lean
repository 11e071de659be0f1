/- Runes of a string: where they begin and what they are. No condition. -/
import Derived.Test.YtdcboeeblbakhaaRune
import Derived.Laws.RangeAny
import Derived.Lib.OthersKept
import Derived.Lib.DecodeN
namespace Go.Proofs.Ytdcboeeblbakhaa
open Go Go.RowKit

theorem width_pos (s : ByteArray) (p : Nat) (h : p < s.size) : 1 ≤ (Utf8.decode s p).2 := by
  by_cases ha : (s[p]'h).toNat < 128
  · rw [decode_ascii s p h ha]
    exact Nat.le_refl _
  · exact (decode_high s p h (by omega)).2

/-- The runes from place p on, f of them at most: where each begins, and what it is. -/
def rnF (s : ByteArray) : Nat → Nat → List (Nat × Nat)
  | 0, _ => []
  | f + 1, p => if p < s.size then (p, (Utf8.decode s p).1) :: rnF s f (p + (Utf8.decode s p).2) else []
def rn (s : ByteArray) : List (Nat × Nat) := rnF s s.size 0
theorem rnF_step {s : ByteArray} {f p : Nat} (h : p < s.size) : rnF s (f + 1) p = (p, (Utf8.decode s p).1) :: rnF s f (p + (Utf8.decode s p).2) := by rw [rnF, if_pos h]
theorem rnF_end {s : ByteArray} {f p : Nat} (h : ¬ p < s.size) : rnF s f p = [] := by
  cases f with
  | zero => rfl
  | succ f => rw [rnF, if_neg h]
theorem rnF_len (s : ByteArray) : ∀ f p, (rnF s f p).length ≤ s.size - p
  | 0, p => by simp [rnF]
  | f + 1, p => by
    by_cases h : p < s.size
    · have h1 := rnF_len s f (p + (Utf8.decode s p).2)
      have h2 := width_pos s p h
      rw [rnF_step h, List.length_cons]
      omega
    · rw [rnF_end h]; simp

/-- What is decoded is a valid rune, and its bytes lie within the string. -/
theorem decode_valid (s : ByteArray) (p : Nat) (h : p < s.size) : VR (Utf8.decode s p).1 ∧ p + (Utf8.decode s p).2 ≤ s.size := by
  have h0 : (s.get! (p + 0)).toNat < 256 := UInt8.toNat_lt _
  have h1 : (s.get! (p + 1)).toNat < 256 := UInt8.toNat_lt _
  have h2 : (s.get! (p + 2)).toNat < 256 := UInt8.toNat_lt _
  have h3 : (s.get! (p + 3)).toNat < 256 := UInt8.toNat_lt _
  unfold VR
  simp only [Utf8.decode]
  repeat' split
  all_goals simp_all [Utf8.runeError, Utf8.valid]
  all_goals omega

end Go.Proofs.Ytdcboeeblbakhaa
