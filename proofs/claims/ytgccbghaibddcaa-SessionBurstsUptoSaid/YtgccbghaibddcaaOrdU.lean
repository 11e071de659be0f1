/- codec.OrdU, codec.OrdI and the reference's two return the number in eight bytes, in new memory. -/
import Derived.Test.YtgccbghaibddcaaMem
namespace Go.Proofs.Ytgccbghaibddcaa
open Go Go.RowKit

theorem Own.lit (w : World) (e : TypeId) (n : Nat) (xs : List UInt8) (hn : xs.length = n) (hm : n ≤ maxLen) (vs : Array Value) (hv : vs = (xs.map cv).toArray) :
    Own e (w.alloc (.cells vs e)) w.heap.size (some ⟨w.heap.size, 0, none⟩) n n xs := by
  subst hv
  refine ⟨by simp [hn], .inr ⟨w.heap.size, n, (xs.map cv).toArray, rfl, Nat.le_refl _, heap_alloc_new w _, Nat.le_refl _, hm, by simp [hn], ?_⟩⟩
  rw [List.take_of_length_le (by simp [hn])]

end Go.Proofs.Ytgccbghaibddcaa
