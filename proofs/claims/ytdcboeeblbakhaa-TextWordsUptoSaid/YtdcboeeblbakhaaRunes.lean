/- text.Runes: the runes of a text as a row of its own. Texts of at most 2^40 bytes. -/
import Derived.Test.YtdcboeeblbakhaaOf
namespace Go.Proofs.Ytdcboeeblbakhaa
open Go Go.RowKit

theorem OwnV.iterAt {e : TypeId} {w : World} {base n c g p' : Nat} {A : Option Addr} {vs : List Value} {s : ByteArray} (h : OwnV e w base A n c vs) (hg : g < base) : OwnV e (w.iterAt g s p') base A n c vs := by
  refine ⟨h.1, ?_⟩
  rcases h.2 with h4 | ⟨r, cap, cur, h4, h5, h6, h7⟩
  · exact .inl h4
  · exact .inr ⟨r, cap, cur, h4, h5, (Lib.iterAt_other w g r s p' (by omega)).trans h6, h7⟩
theorem kvs_snoc (l : List Nat) (c : Nat) : kvs ((l ++ [c]).map fun x : Nat => (x : Int)) = kvs (l.map fun x : Nat => (x : Int)) ++ [kv (c : Int)] := by simp [kvs]

end Go.Proofs.Ytdcboeeblbakhaa
