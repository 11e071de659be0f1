/- What Open answers, as a plain function of the bytes and the place. No condition. -/
import Derived.Test.YtgccbghaibddcaaCrcS
namespace Go.Proofs.Ytgccbghaibddcaa
open Go Go.RowKit

/-- The number that the first bytes make, the greatest first. -/
def numK (ys : List UInt8) : Nat → Nat
  | 0 => 0
  | j + 1 => numK ys j * 256 + (ys.getD j 0).toNat
theorem numK_lt (ys : List UInt8) : ∀ j, numK ys j < 256 ^ j
  | 0 => by simp [numK]
  | j + 1 => by
    have h1 := numK_lt ys j
    have h2 := (ys.getD j 0).toNat_lt
    rw [numK, Nat.pow_succ]
    omega
/-- What Open answers: the bytes, the place behind, the kind. -/
def openG (xs : List UInt8) (z : Int) : List UInt8 × Int × Int :=
  if z < 0 ∨ (xs.length : Int) < z then ([], 0, 1)
  else if xs.length < z.toNat + 8 then ([], 0, 5)
  else if 1048576 < numK (xs.drop z.toNat) 4 then ([], 0, 2)
  else if xs.length < z.toNat + 8 + numK (xs.drop z.toNat) 4 then ([], 0, 5)
  else if eqB (sealB ((xs.take (z.toNat + 8 + numK (xs.drop z.toNat) 4)).drop (z.toNat + 8))) ((xs.take (z.toNat + 8 + numK (xs.drop z.toNat) 4)).drop z.toNat) then
    ((xs.take (z.toNat + 8 + numK (xs.drop z.toNat) 4)).drop (z.toNat + 8), (z.toNat + 8 + numK (xs.drop z.toNat) 4 : Nat), 0)
  else ([], 0, 4)
theorem openG_arg {xs : List UInt8} {z : Int} (h : z < 0 ∨ (xs.length : Int) < z) : openG xs z = ([], 0, 1) := by rw [openG, if_pos h]
theorem openG_end {xs : List UInt8} {a n : Nat} (hl : xs.length = n) (h1 : a ≤ n) (h2 : n < a + 8) : openG xs a = ([], 0, 5) := by
  rw [openG, if_neg (by omega), Int.toNat_natCast, if_pos (by omega)]
theorem openG_size {xs : List UInt8} {a n m : Nat} (hl : xs.length = n) (h1 : a + 8 ≤ n) (hm : m = numK (xs.drop a) 4) (h2 : 1048576 < m) : openG xs a = ([], 0, 2) := by
  rw [openG, if_neg (by omega), Int.toNat_natCast, if_neg (by omega), if_pos (by omega)]
theorem openG_cut {xs : List UInt8} {a n m : Nat} (hl : xs.length = n) (h1 : a + 8 ≤ n) (hm : m = numK (xs.drop a) 4) (h2 : ¬ 1048576 < m) (h3 : n < a + 8 + m) : openG xs a = ([], 0, 5) := by
  rw [openG, if_neg (by omega), Int.toNat_natCast, if_neg (by omega), if_neg (by omega), if_pos (by omega)]
theorem openG_whole {xs : List UInt8} {a n m : Nat} (hl : xs.length = n) (hm : m = numK (xs.drop a) 4) (h2 : ¬ 1048576 < m) (h3 : a + 8 + m ≤ n) :
    openG xs a = if eqB (sealB ((xs.take (a + 8 + m)).drop (a + 8))) ((xs.take (a + 8 + m)).drop a) then ((xs.take (a + 8 + m)).drop (a + 8), ((a + 8 + m : Nat) : Int), 0) else ([], 0, 4) := by
  rw [openG, if_neg (by omega), Int.toNat_natCast, if_neg (by omega), ← hm, if_neg h2, if_neg (by omega)]
/-- 'It hands back bytes of its own, a place, and a kind.' -/
def RetO (base : Nat) (w : World) (g : List UInt8 × Int × Int) (e : Ending) (w' : World) : Prop :=
  ∃ A n c, e = .returned (.tuple #[.slice A n c, .int .i64 g.2.1, .int .i64 g.2.2]) ∧ Own 5 w' base A n c g.1 ∧ Below base w w'
theorem RetO_none {w w' : World} {g : List UInt8 × Int × Int} {k : Int} (hg : g = ([], 0, k)) (hb : Below w.heap.size w w') : RetO w.heap.size w g (.returned (.tuple #[.slice none 0 0, .int .i64 0, .int .i64 k])) w' := by
  subst hg
  exact ⟨none, 0, 0, rfl, Own.nil _ _ _, hb⟩

end Go.Proofs.Ytgccbghaibddcaa
