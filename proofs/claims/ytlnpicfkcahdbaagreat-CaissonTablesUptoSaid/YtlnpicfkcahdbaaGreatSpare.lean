/- The reference's Spare, Kept and Over: a copy with marked room behind it; is it as it was made; each byte turned. -/
import Derived.Test.YtlnpicfkcahdbaaGreatPool
import Derived.Test.YtlnpicfkcahdbaaGreatNext
import Derived.Deep.QuietTactic
import Derived.BigQuiet
import Derived.IntWalk
import Derived.Laws.CopyOwn
namespace Go.Proofs.YtlnpicfkcahdbaaGreat
open Go Go.RowKit

/-- What the marked room holds at place i. -/
def sp (i : Nat) : UInt8 := bt (160 + i % 31)
def room (n k : Nat) : List UInt8 := (List.range k).map fun j => sp (n + j)
theorem Own.full {e : TypeId} {w : World} {base g n : Nat} {xs : List UInt8} (h : Own e w base (some ⟨g, 0, none⟩) n n xs) : w.heap[g]? = some (.cells (xs.map cv).toArray e (0, 0)) ∧ base ≤ g := by
  rcases h.2 with ⟨h1, _⟩ | ⟨g', cap, cur, h1, h2, h3, h4, h5, h6, h7⟩
  · injection h1 with h1; cases h1
  · injection h1 with h1 _ h8
    injection h1 with h1
    injection h1 with h1
    subst h1 h8
    have hc : cur = (xs.map cv).toArray := by
      rw [← h7, List.take_of_length_le (by simp; omega)]
    rw [← hc]
    exact ⟨h3, h2⟩

end Go.Proofs.YtlnpicfkcahdbaaGreat
