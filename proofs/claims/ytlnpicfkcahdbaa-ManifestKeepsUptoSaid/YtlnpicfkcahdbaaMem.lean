/- The reference's Copy and Equal: a copy in new memory; whether two slices read alike. -/
import Derived.Test.YtlnpicfkcahdbaaPut
import Derived.Deep.QuietTactic
import Derived.BigQuiet
namespace Go.Proofs.Ytlnpicfkcahdbaa
open Go Go.RowKit

theorem Own.lit0 (e : TypeId) (w : World) : Own e (w.alloc (.cells #[] e)) w.heap.size (some ⟨w.heap.size, 0, none⟩) 0 0 [] := by
  refine ⟨rfl, .inr ⟨w.heap.size, 0, #[], rfl, Nat.le_refl _, heap_alloc_new w _, Nat.le_refl _, by unfold maxLen; omega, rfl, rfl⟩⟩

def RetB (w : World) (b : Bool) (e : Ending) (w' : World) : Prop := e = .returned (.bool b) ∧ ∃ q, w' = w.drewN q

end Go.Proofs.Ytlnpicfkcahdbaa
