/- The tree of a table in memory: words, height, join, balance. No condition but sizes. -/
import Derived.Test.YtmpdenpopokigaaEnC
import Derived.Deep.RegionHeld3
import Derived.Deep.DeepCutAuto
import Derived.Deep.CutBlock
namespace Go.Proofs.Ytmpdenpopokigaa
open Go Go.RowKit

inductive Tr where
  | nil : Tr
  | node : Tr → En → Tr → Tr
def Tr.ht : Tr → Nat
  | .nil => 0
  | .node l _ r => 1 + max l.ht r.ht
def Tr.list : Tr → List En
  | .nil => []
  | .node l e r => l.list ++ e :: r.list
/-- 'These four values are the entry e; its bytes are the program's own and lie in good blocks.' -/
def EG (G : Nat → Prop) (w : World) (e : En) (v0 v1 v2 v3 : Value) : Prop :=
  EO 0 w e v0 v1 v2 v3 ∧ ∀ A m c g, Value.slice A m c ∈ [v0, v1, v2, v3] → blk A = some g → G g
/-- 'The entry e lies in the box at p.' -/
def EB (G : Nat → Prop) (w : World) (e : En) (p : Nat) : Prop := ∃ v0 v1 v2 v3, Cl w p #[v0, v1, v2, v3] 38 ∧ EG G w e v0 v1 v2 v3
section
variable {G : Nat → Prop} {w w' : World}
theorem EG.below {e : En} {v0 v1 v2 v3 : Value} (h : EG G w e v0 v1 v2 v3) (hb : Below w.heap.size w w') : EG G w' e v0 v1 v2 v3 := ⟨h.1.below hb, h.2⟩
theorem EB.below {e : En} {p : Nat} (h : EB G w e p) (hb : Below w.heap.size w w') : EB G w' e p := by
  obtain ⟨v0, v1, v2, v3, h1, h2⟩ := h
  exact ⟨v0, v1, v2, v3, h1.below hb, h2.below hb⟩
end
end Go.Proofs.Ytmpdenpopokigaa
