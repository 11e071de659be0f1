/- The reference's Seal: length, sum, bytes, in new memory; what is longer than a record is refused. -/
import Derived.Test.YtgccbghaibddcaaCrcR
namespace Go.Proofs.Ytgccbghaibddcaa
open Go Go.RowKit

/-- A record: length, sum, bytes. -/
def sealB (xs : List UInt8) : List UInt8 := fourB xs.length ++ (fourB (crcB (fourB xs.length ++ xs)) ++ xs)
theorem sealB_len (xs : List UInt8) : (sealB xs).length = 8 + xs.length := by
  unfold sealB
  simp only [List.length_append, fourB_len]
  omega
/-- What Seal answers. -/
def sealG (xs : List UInt8) : List UInt8 × Int := if 1048576 < xs.length then ([], 2) else (sealB xs, 0)
theorem sealG_long {xs : List UInt8} {n : Nat} (h : xs.length = n) (h2 : 1048576 < n) : sealG xs = ([], 2) := by rw [sealG, if_pos (by omega)]
theorem sealG_ok {xs : List UInt8} {n : Nat} (h : xs.length = n) (h2 : ¬ 1048576 < n) : sealG xs = (sealB xs, 0) := by rw [sealG, if_neg (by omega)]
/-- 'It hands back bytes of its own, and a kind.' -/
def RetSE (base : Nat) (w : World) (g : List UInt8 × Int) (e : Ending) (w' : World) : Prop :=
  ∃ A n c, e = .returned (.tuple #[.slice A n c, .int .i64 g.2]) ∧ Own 5 w' base A n c g.1 ∧ Below base w w'

end Go.Proofs.Ytgccbghaibddcaa
