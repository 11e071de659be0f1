/- A filter: May. No condition but sizes. -/
import Derived.Test.YtbgelbdnkbhffaaGreatBlC
namespace Go.Proofs.YtbgelbdnkbhffaaGreat
open Go Go.RowKit Go.Shelf
attribute [local go_sem] Oper.semAt_some

/-- Is this bit of the filter set? -/
def setB (fs : List UInt8) (b : Nat) : Bool := match fs[b / 8]? with
  | some x => decide (x.toNat / 2 ^ (b % 8) % 2 = 1)
  | none => false
def RetMy (w : World) (z : Bool × Int) (e : Ending) (w' : World) : Prop := e = .returned (.tuple #[.bool z.1, .int .i64 z.2]) ∧ Below w.heap.size w w'
theorem RetMy.out {w : World} {z : Bool × Int} {e : Ending} {w' : World} (h : RetMy w z e w') : e = .returned (.tuple #[.bool z.1, .int .i64 z.2]) ∧ Below w.heap.size w w' := h
end Go.Proofs.YtbgelbdnkbhffaaGreat
