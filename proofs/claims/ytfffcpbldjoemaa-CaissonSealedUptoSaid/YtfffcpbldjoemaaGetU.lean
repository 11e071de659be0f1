/- codec.GetU and the reference's GetU return the number at a place, and the place behind it, or the error. -/
import Derived.Test.YtfffcpbldjoemaaMem
namespace Go.Proofs.Ytfffcpbldjoemaa
open Go Go.RowKit

/-- 'It hands back these three numbers, and leaves memory alone.' -/
def RetG (w : World) (g : Nat × Int × Int) (e : Ending) (w' : World) : Prop :=
  e = .returned (.tuple #[.int .u64 (g.1 : Int), .int .i64 g.2.1, .int .i64 g.2.2]) ∧ w = w'

theorem retG_mk {w : World} {g : Nat × Int × Int} {a' : Nat} {b' c' a b c : Int} (hg : g = (a', b', c')) (ha : a = (a' : Int)) (hb : b = b') (hc : c = c') :
    RetG w g (.returned (.tuple #[.int .u64 a, .int .i64 b, .int .i64 c])) w := by
  subst hg ha hb hc
  exact ⟨rfl, rfl⟩

end Go.Proofs.Ytfffcpbldjoemaa
