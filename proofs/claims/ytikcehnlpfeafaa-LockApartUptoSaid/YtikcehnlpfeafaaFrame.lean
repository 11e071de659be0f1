/- codec.Frame and the reference's Frame return the framed parts in new memory; Copies copies a list of lists; lists that hold at most 268435456 values. -/
import Derived.Test.YtikcehnlpfeafaaLists
import Derived.Test.YtikcehnlpfeafaaMathF
namespace Go.Proofs.Ytikcehnlpfeafaa
open Go Go.RowKit

theorem Own.apart {e : TypeId} {w : World} {base n c m d : Nat} {A B : Option Addr} {xs : List UInt8} {w0 : World} {base0 : Nat} {t : TypeId} {xss : List (List UInt8)} (h : Own e w base A n c xs)
    (h0 : OwnL t w0 base0 B m d xss) (hb : w0.heap.size ≤ base) : ∀ b off, A = some ⟨b, off, none⟩ → b < w.heap.size ∧ Value.ownBlock (.slice B m d) ≠ some b := by
  intro b off e
  have h1 := h.block b off e
  refine ⟨h1.2, fun e2 => ?_⟩
  obtain ⟨vs, h2, _⟩ := h0
  have h3 := World.ownsRow.lt h2 b e2
  omega

end Go.Proofs.Ytikcehnlpfeafaa
