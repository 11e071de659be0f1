/- The reference over entries: Insert. No condition but sizes. -/
import Derived.Test.YtmpdenpopokigaaEnE
import Derived.Test.YtmpdenpopokigaaEnC
import Derived.Deep.RegionLaw
namespace Go.Proofs.Ytmpdenpopokigaa
open Go Go.RowKit

theorem OwnE.mono {w : World} {base base' n c : Nat} {A : Option Addr} {vs : List Value} (h : OwnE w base A n c vs) (hb : base' ≤ base) : OwnE w base' A n c vs := by
  refine ⟨h.1, ?_⟩
  rcases h.2 with h1 | ⟨g, cap, cur, h1, h2, h3⟩
  · exact .inl h1
  · exact .inr ⟨g, cap, cur, h1, Nat.le_trans hb h2, h3⟩
/-- What an insertion comes to: a row of the call's own, with the values that were handed in. -/
def RetIns (w : World) (n : Nat) (es : List En) (us : List Value) (e : Ending) (w' : World) : Prop :=
  ∃ L d vs, e = .returned (.slice L n d) ∧ OwnE w' w.heap.size L n d vs ∧ EVs w' es vs ∧ Below w.heap.size w w' ∧ ∀ u ∈ vs, u ∈ us
theorem RetIns.out {w : World} {n : Nat} {es : List En} {us : List Value} {e : Ending} {w' : World} (h : RetIns w n es us e w') : ∃ L d vs, e = .returned (.slice L n d) ∧ OwnE w' w.heap.size L n d vs ∧ EVs w' es vs ∧ Below w.heap.size w w' ∧ ∀ u ∈ vs, u ∈ us := h
end Go.Proofs.Ytmpdenpopokigaa
