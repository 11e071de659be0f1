/- text.Clip: the first n runes of a text, with the bytes that they have in it. Texts of at most 2^40 bytes. -/
import Derived.Test.YtdcboeeblbakhaaText1
namespace Go.Proofs.Ytdcboeeblbakhaa
open Go Go.RowKit

/-- Where the first n runes of a text end. -/
def clipP (s : ByteArray) (n : Int) : Nat := match (rn s)[n.toNat]? with | some x => x.1 | none => s.size
def clipS (s : ByteArray) (n : Int) : ByteArray := s.extract 0 (clipP s n)
theorem clipP_at {s : ByteArray} {l r : List (Nat × Nat)} {p c : Nat} {n : Int} (h : rn s = l ++ (p, c) :: r) (hn : n.toNat = l.length) : clipP s n = p := by
  unfold clipP
  rw [h, hn, List.getElem?_append_right (Nat.le_refl _)]
  simp
theorem clipP_end {s : ByteArray} {n : Int} (hn : (rn s).length ≤ n.toNat) : clipP s n = s.size := by
  unfold clipP
  rw [List.getElem?_eq_none hn]
theorem extract_all (s : ByteArray) : s.extract 0 s.size = s := by simp

def RetSt (w : World) (t : ByteArray) (e : Ending) (w' : World) : Prop := e = .returned (.string t) ∧ Below w.heap.size w w'

theorem decode_in (s : ByteArray) (p : Nat) (h : p < s.size) : p + (Utf8.decode s p).2 ≤ s.size := (decode_valid s p h).2

end Go.Proofs.Ytdcboeeblbakhaa
