/- codec.OrdText and the reference's OrdText return the list for a key in new memory; lists of which twice the length and two are at most 2^47. -/
import Derived.Test.YtgigohfjioifaaaMem
namespace Go.Proofs.Ytgigohfjioifaaa
open Go Go.RowKit

theorem byte_ne0 {x : UInt8} (h : x ≠ 0) : ((x.toNat : Int) == 0) = false := by
  rw [beq_eq_false_iff_ne]
  intro e
  exact h (UInt8.toNat_inj.1 (by simp; omega))

theorem own_two {e : TypeId} {w : World} {base m c : Nat} {A : Option Addr} {ys : List UInt8} {x y : UInt8} (h : Own e w base A (m + 1 + 1) c (ys ++ [x, y])) : Own e w base A (m + 2) c (ys ++ [x, y]) := h

end Go.Proofs.Ytgigohfjioifaaa
