/- A text's words: runs of letters and digits, each folded. No condition. -/
import Derived.Test.YtdcboeeblbakhaaOf
namespace Go.Proofs.Ytdcboeeblbakhaa
open Go Go.RowKit

/-- Is the rune a letter or a digit, as words go? -/
def inW (c : Nat) : Bool := decide (97 ≤ c ∧ c ≤ 122) || decide (65 ≤ c ∧ c ≤ 90) || decide (48 ≤ c ∧ c ≤ 57) || decide (192 ≤ c ∧ c ≠ 65533)
theorem inW_iff (c : Nat) : inW c = true ↔ (97 ≤ c ∧ c ≤ 122) ∨ (65 ≤ c ∧ c ≤ 90) ∨ (48 ≤ c ∧ c ≤ 57) ∨ (192 ≤ c ∧ c ≠ 65533) := by
  simp only [inW, Bool.or_eq_true, decide_eq_true_eq, or_assoc]
theorem inW_bad {c : Nat} (h : inW c = true) : c ≠ 65533 := by
  rw [inW_iff] at h
  omega
/-- The words among the runes that are left, the runes of the word under way before them. -/
def wd : List Nat → List Nat → List (List Nat)
  | [], cur => if cur = [] then [] else [cur]
  | c :: r, cur => if inW c = true then wd r (cur ++ [c]) else if cur = [] then wd r [] else cur :: wd r []
theorem wd_nil0 : wd [] [] = [] := by rw [wd, if_pos rfl]
theorem wd_nil1 {cur : List Nat} (h : cur ≠ []) : wd [] cur = [cur] := by rw [wd, if_neg h]
theorem wd_in {c : Nat} {r cur : List Nat} (h : inW c = true) : wd (c :: r) cur = wd r (cur ++ [c]) := by rw [wd, if_pos h]
theorem wd_out0 {c : Nat} {r : List Nat} (h : inW c = false) : wd (c :: r) [] = wd r [] := by rw [wd, if_neg (by simp [h]), if_pos rfl]
theorem wd_out1 {c : Nat} {r cur : List Nat} (h : inW c = false) (h2 : cur ≠ []) : wd (c :: r) cur = cur :: wd r [] := by rw [wd, if_neg (by simp [h]), if_neg h2]
def fw (l : List Nat) : List UInt8 := encR (l.map low)
/-- A text's words. -/
def wds (s : ByteArray) : List (List UInt8) := (wd (rs s) []).map fw
theorem mt_eq' {a b : Bool} (h : a = true ↔ b = true) : a = b := by cases a <;> cases b <;> simp_all
def svs (l : List (List UInt8)) : List Value := l.map fun x => .string (bs x)
theorem svs_snoc (l : List (List UInt8)) (x : List UInt8) : svs (l ++ [x]) = svs l ++ [.string (bs x)] := by simp [svs]

/-- 'From b to p the text has just the bytes of these runes, all of them letters or digits.' -/
def Wd (s : ByteArray) (b p : Nat) (cur : List Nat) : Prop := b ≤ p ∧ p ≤ s.size ∧ (s.data.toList.drop b).take (p - b) = encR cur ∧ ∀ c ∈ cur, VR c
theorem Wd.one {s : ByteArray} {p : Nat} (hp : p < s.size) (h : inW (Utf8.decode s p).1 = true) : Wd s p (p + (Utf8.decode s p).2) [(Utf8.decode s p).1] := by
  obtain ⟨h1, h2⟩ := decode_valid s p hp
  refine ⟨by omega, h2, ?_, ?_⟩
  · rw [Nat.add_sub_cancel_left, ok_bytes hp (okD_not (inW_bad h))]
    simp [encR]
  · intro c hc
    simp at hc
    subst hc
    exact h1
theorem Wd.more {s : ByteArray} {b p : Nat} {cur : List Nat} (hw : Wd s b p cur) (hp : p < s.size) (h : inW (Utf8.decode s p).1 = true) : Wd s b (p + (Utf8.decode s p).2) (cur ++ [(Utf8.decode s p).1]) := by
  obtain ⟨h1, h2⟩ := decode_valid s p hp
  obtain ⟨w1, w2, w3, w4⟩ := hw
  refine ⟨by omega, h2, ?_, ?_⟩
  · rw [show p + (Utf8.decode s p).2 - b = (p - b) + (Utf8.decode s p).2 by omega, List.take_add, w3, List.drop_drop, show b + (p - b) = p by omega, ok_bytes hp (okD_not (inW_bad h)), encR_append]
    simp [encR]
  · intro c hc
    rcases List.mem_append.1 hc with hc | hc
    · exact w4 c hc
    · simp at hc; subst hc; exact h1
theorem Wd.fold {s : ByteArray} {b p : Nat} {cur : List Nat} (hw : Wd s b p cur) : foldB (s.extract b p) = fw cur := by
  obtain ⟨w1, w2, w3, w4⟩ := hw
  have e : s.extract b p = bs (encR cur) := by
    rw [← bs_of (s.extract b p), Lib.extract_data, w3]
  rw [e, foldB_enc, (rs_enc w4).1, fw]
theorem fw_pos {cur : List Nat} (h : cur ≠ []) : 0 < (fw cur).length := by
  have := (encR_len (cur.map low)).1
  rw [List.length_map] at this
  have : 0 < cur.length := List.length_pos_iff.2 h
  unfold fw
  omega
/-- How many words, and how long. -/
theorem wd_len : ∀ (l cur : List Nat), (wd l cur).length ≤ l.length + cur.length
  | [], cur => by
    rw [wd]
    split
    · simp
    · next h => have : 0 < cur.length := List.length_pos_iff.2 h; simp; omega
  | c :: r, cur => by
    rw [wd]
    split
    · have := wd_len r (cur ++ [c]); simp at this ⊢; omega
    · split
      · have := wd_len r []; simp at this ⊢; omega
      · next h => have := wd_len r []; have : 0 < cur.length := List.length_pos_iff.2 h; simp at *; omega
theorem wds_len (s : ByteArray) : (wds s).length ≤ s.size := by
  have h1 := wd_len (rs s) []
  have h2 := rn_len s
  rw [rs_len] at h1
  simp only [wds, List.length_map, List.length_nil] at *
  omega

end Go.Proofs.Ytdcboeeblbakhaa
