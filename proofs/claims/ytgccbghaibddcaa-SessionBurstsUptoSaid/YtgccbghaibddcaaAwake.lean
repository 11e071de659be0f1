/- The fixed fact of layer 1's statements holds: awake returns true and changes nothing that was there. -/
import Derived.Test.YtgccbghaibddcaaOrdT
import Derived.Test.YtgccbghaibddcaaGetU
namespace Go.Proofs.Ytgccbghaibddcaa
open Go Go.RowKit

/-- 'It hands back this bool, and what was there stands.' -/
def RetT (w : World) (b : Bool) (e : Ending) (w' : World) : Prop := e = .returned (.bool b) ∧ Below w.heap.size w w'

/-- 'The argument reads as it did, and what was there stands.' -/
def Kp (w0 : World) (B : Option Addr) (n : Nat) (ys : List UInt8) (w : World) : Prop := Rd w B n ys ∧ Below w0.heap.size w0 w
theorem Kp.made {w0 w w' : World} {B : Option Addr} {n : Nat} {ys : List UInt8} (h : Kp w0 B n ys w) (hb : Below w.heap.size w w') : Kp w0 B n ys w' := ⟨h.1.below hb, h.2.trans (hb.mono h.2.size)⟩
theorem Kp.drew {w0 w : World} {B : Option Addr} {n : Nat} {ys : List UInt8} (h : Kp w0 B n ys w) : Kp w0 B n ys w.drew := ⟨h.1.drew, h.2.drew⟩
theorem Kp.drewN {w0 w : World} {B : Option Addr} {n : Nat} {ys : List UInt8} (h : Kp w0 B n ys w) (q : Nat) : Kp w0 B n ys (w.drewN q) := ⟨h.1.drewN q, below_drewN h.2 q⟩

theorem Kp.bel {w0 w : World} {B : Option Addr} {n : Nat} {ys : List UInt8} (h : Kp w0 B n ys w) : Below w0.heap.size w0 w := h.2

end Go.Proofs.Ytgccbghaibddcaa
