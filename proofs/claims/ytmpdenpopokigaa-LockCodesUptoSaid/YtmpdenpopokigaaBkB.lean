/- What block's appendEntry appends. No condition but sizes. -/
import Derived.Test.YtmpdenpopokigaaBkA
namespace Go.Proofs.Ytmpdenpopokigaa
open Go Go.RowKit

theorem ClG.grown {w w' : World} {p : Nat} {us : Array Value} {ty : TypeId} {row : Option Nat} (h : Cl w p us ty) (hg : w.grownBy w' row) (hne : row ≠ some p) : Cl w' p us ty := by
  obtain ⟨_, _, _, h4, h5⟩ := hg
  exact (h5 p h.lt (fun e => hne e.symm)).trans h
/-- What stands between two appends: the entry's box, the row so far. -/
def AE (w0 U : World) (g : Nat) (cs : Array Value) (A Ai : Option Addr) (n c : Nat) (xs : List UInt8) (wi : World) : Prop :=
  Cl wi g cs 38 ∧ blk Ai ≠ some g ∧ Own 5 wi w0.heap.size Ai n c xs ∧ Grow U wi A Ai ∧ Below w0.heap.size w0 wi
section
variable {w0 U wi wj : World} {g n c n' c' : Nat} {cs : Array Value} {A Ai Aj : Option Addr} {xs ys : List UInt8}
theorem AE.below (h : AE w0 U g cs A Ai n c xs wi) (hb : Below wi.heap.size wi wj) : AE w0 U g cs A Ai n c xs wj := by
  obtain ⟨h1, h2, h3, h4, h5⟩ := h
  exact ⟨h1.below hb, h2, h3.below hb, h4.trans (Grow.of_below Ai hb), h5.trans (hb.mono h5.size)⟩
theorem AE.app (h : AE w0 U g cs A Ai n c xs wi) (ho : Own 5 wj w0.heap.size Aj n' c' ys) (hg : Grow wi wj Ai Aj) : AE w0 U g cs A Aj n' c' ys wj := by
  obtain ⟨h1, h2, h3, h4, h5⟩ := h
  refine ⟨ClG.grown h1 hg.1 h2, fun e => ?_, ho, h4.trans hg, h5.trans (hg.below h3 h5.size)⟩
  rcases hg.2 with e2 | e2
  · exact h2 (e2.symm.trans e)
  · have := e2 g e
    have := h1.lt
    omega
end
end Go.Proofs.Ytmpdenpopokigaa
