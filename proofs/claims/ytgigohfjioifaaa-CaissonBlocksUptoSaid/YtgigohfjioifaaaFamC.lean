/- Copies and codec.Parts hand back rows over families: lists that share no memory. -/
import Derived.Test.YtgigohfjioifaaaFam
import Derived.Test.YtgigohfjioifaaaParts
namespace Go.Proofs.Ytgigohfjioifaaa
open Go Go.RowKit

/-- 'It hands back a row of its own over a family that holds these lists.' -/
def MadeF (base : Nat) (w : World) (xss : List (List UInt8)) (e : Ending) (w' : World) : Prop :=
  ∃ A n c ps, e = .returned (.slice A n c) ∧ RowF w base A n c ps w' ∧ ps.map (·.2) = xss
def RetPF (base : Nat) (w : World) (g : List (List UInt8) × Int) (e : Ending) (w' : World) : Prop :=
  ∃ A n c ps, e = .returned (.tuple #[.slice A n c, .int .i64 g.2]) ∧ RowF w base A n c ps w' ∧ ps.map (·.2) = g.1
theorem retPF_some {w w' : World} {base n c : Nat} {A : Option Addr} {ps : List VB} {g : List (List UInt8) × Int} (hg : g = (ps.map (·.2), 0)) (h : RowF w base A n c ps w') : RetPF base w g (.returned (.tuple #[.slice A n c, .int .i64 0])) w' := by
  subst hg
  exact ⟨A, n, c, ps, rfl, h, rfl⟩
theorem retPF_none {w w' : World} {base : Nat} {g : List (List UInt8) × Int} {e : Int} (hg : g = ([], e)) (hb : Below base w w') : RetPF base w g (.returned (.tuple #[.slice none 0 0, .int .i64 e])) w' := by
  subst hg
  exact ⟨none, 0, 0, [], rfl, ⟨OwnV.nil _ _ _, Fam.nil _ _, fun b h => by simp [blk] at h, hb⟩, rfl⟩

end Go.Proofs.Ytgigohfjioifaaa
