/- The reference's Cmp tells how two lists of bytes compare; it leaves memory alone. -/
import Derived.Test.YtfffcpbldjoemaaMem
import Derived.Test.YtfffcpbldjoemaaMathO
namespace Go.Proofs.Ytfffcpbldjoemaa
open Go Go.RowKit

def RetZ (w : World) (z : Int) (e : Ending) (w' : World) : Prop := e = .returned (.int .i64 z) ∧ ∃ q, w' = w.drewN q

theorem drewN3 (w : World) (a b c : Nat) : ((w.drewN a).drewN b).drewN c = w.drewN (a + b + c) := by rw [World.drewN_drewN, World.drewN_drewN, Nat.add_assoc]

theorem Equal_is (A B : Option Addr) (n m c d : Nat) (xs ys : List UInt8) (b : Bool) (hz : eqB xs ys = b) (w : World) (hx : Rd w A n xs) (hy : Rd w B m ys) (hn : n ≤ maxLen) (hm : m ≤ maxLen) :
    Calls Try.prog 25 #[.slice A n c, .slice B m d] w (RetB w b) := by
  subst hz
  exact Equal_any A B n m c d xs ys w hx hy hn hm

end Go.Proofs.Ytfffcpbldjoemaa
