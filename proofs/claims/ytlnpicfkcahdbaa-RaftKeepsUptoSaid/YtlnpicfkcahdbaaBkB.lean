/- What block's appendEntry appends. No condition but sizes. -/
import Derived.Test.YtlnpicfkcahdbaaBkA
namespace Go.Proofs.Ytlnpicfkcahdbaa
open Go Go.RowKit

theorem ClG.grown {w w' : World} {p : Nat} {us : Array Value} {ty : TypeId} {row : Option Nat} (h : Cl w p us ty) (hg : w.grownBy w' row) (hne : row ≠ some p) : Cl w' p us ty := by
  obtain ⟨_, _, _, h4, h5⟩ := hg
  exact (h5 p h.lt (fun e => hne e.symm)).trans h
section
variable {w0 U wi wj : World} {g n c n' c' : Nat} {cs : Array Value} {A Ai Aj : Option Addr} {xs ys : List UInt8}
end
end Go.Proofs.Ytlnpicfkcahdbaa
