/- codec.OrdU, codec.OrdI and the reference's two return the number in eight bytes, in new memory. -/
import Derived.Test.YtfffcpbldjoemaaMem
namespace Go.Proofs.Ytfffcpbldjoemaa
open Go Go.RowKit

theorem Own.lit (w : World) (e : TypeId) (n : Nat) (xs : List UInt8) (hn : xs.length = n) (hm : n ≤ maxLen) (vs : Array Value) (hv : vs = (xs.map cv).toArray) :
    Own e (w.alloc (.cells vs e)) w.heap.size (some ⟨w.heap.size, 0, none⟩) n n xs := by
  subst hv
  refine ⟨by simp [hn], .inr ⟨w.heap.size, n, (xs.map cv).toArray, rfl, Nat.le_refl _, heap_alloc_new w _, Nat.le_refl _, hm, by simp [hn], ?_⟩⟩
  rw [List.take_of_length_le (by simp [hn])]

theorem u64_quo (n : Nat) (h : n < B64) (z : Int) (h0 : 0 ≤ z) (hz : z ≤ (n : Int)) : IntKind.u64.wrap z = z := by
  unfold B64 at h
  rw [IntKind.wrap_u64]
  omega

end Go.Proofs.Ytfffcpbldjoemaa
