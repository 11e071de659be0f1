/- A block known whole: its cells, stores into it, what other stores leave of it. No condition. -/
import Derived.Test.YtgccbghaibddcaaVal
import Derived.OwnWalk
import Derived.Handy
namespace Go.Proofs.Ytgccbghaibddcaa
open Go Go.RowKit

/-- 'Block g holds these cells.' -/
def Cl (w : World) (g : Nat) (vs : Array Value) (t : TypeId) : Prop := w.heap[g]? = some (.cells vs t (0, 0))
section
variable {w w' : World} {g : Nat} {vs : Array Value} {t : TypeId}
theorem Cl.cell (h : Cl w g vs t) (i : Nat) : w.cell? ⟨g, i, none⟩ = vs[i]? := cell_of_row w g i vs t (0, 0) h
theorem Cl.thaw (h : Cl w g vs t) (i : Nat) : w.frozen? ⟨g, i, none⟩ = false := frozen_of_row w g i _ _ h
theorem Cl.lt (h : Cl w g vs t) : g < w.heap.size := (Array.getElem?_eq_some_iff.1 h).1
theorem Cl.below (h : Cl w g vs t) (hb : Below w.heap.size w w') : Cl w' g vs t := (hb.block g h.lt).trans h
theorem Cl.base {B : Nat} (h : Cl w g vs t) (hb : Below B w w') (hB : g < B) : Cl w' g vs t := (hb.block g hB).trans h
theorem Cl.new (w : World) (vs : Array Value) (t : TypeId) : Cl (w.alloc (.cells vs t)) w.heap.size vs t := heap_alloc_new w _
theorem Cl.newg (w : World) (vs : Array Value) (t : TypeId) (g : Nat) (hg : g = w.heap.size) : Cl (w.alloc (.cells vs t)) g vs t := by subst hg; exact heap_alloc_new w _
theorem Cl.alloc (h : Cl w g vs t) (o : Obj) : Cl (w.alloc o) g vs t := h.below ((Below.refl _ _).alloc (Nat.le_refl _) o)
theorem Cl.drewN (h : Cl w g vs t) (q : Nat) : Cl (w.drewN q) g vs t := h
theorem Cl.set (h : Cl w g vs t) (i : Nat) (v : Value) : Cl (w.setCell ⟨g, i, none⟩ v) g (vs.setIfInBounds i v) t := heap_setCell_same _ _ _ _ _ _ h
theorem Cl.off (h : Cl w g vs t) {k : Nat} (i : Nat) (v : Value) (hk : k ≠ g) : Cl (w.setCell ⟨k, i, none⟩ v) g vs t := by
  unfold Cl
  rw [heap_setCell_other _ _ _ _ (by simpa using fun e => hk e.symm)]
  exact h
end
section
variable {w : World} {g : Nat} {a b c d : Value} {t : TypeId}
theorem Cl.c1 (h : Cl w g #[a] t) : w.cell? ⟨g, 0, none⟩ = some a ∧ w.frozen? ⟨g, 0, none⟩ = false := ⟨h.cell 0, h.thaw 0⟩
theorem Cl.c3 (h : Cl w g #[a, b, c] t) : w.cell? ⟨g, 0, none⟩ = some a ∧ w.cell? ⟨g, 1, none⟩ = some b ∧ w.cell? ⟨g, 2, none⟩ = some c ∧
    w.frozen? ⟨g, 0, none⟩ = false ∧ w.frozen? ⟨g, 1, none⟩ = false ∧ w.frozen? ⟨g, 2, none⟩ = false :=
  ⟨h.cell 0, h.cell 1, h.cell 2, h.thaw 0, h.thaw 1, h.thaw 2⟩
theorem Cl.c4 (h : Cl w g #[a, b, c, d] t) : w.cell? ⟨g, 0, none⟩ = some a ∧ w.cell? ⟨g, 1, none⟩ = some b ∧ w.cell? ⟨g, 2, none⟩ = some c ∧ w.cell? ⟨g, 3, none⟩ = some d ∧
    w.frozen? ⟨g, 0, none⟩ = false ∧ w.frozen? ⟨g, 1, none⟩ = false ∧ w.frozen? ⟨g, 2, none⟩ = false ∧ w.frozen? ⟨g, 3, none⟩ = false :=
  ⟨h.cell 0, h.cell 1, h.cell 2, h.cell 3, h.thaw 0, h.thaw 1, h.thaw 2, h.thaw 3⟩
theorem Own.set {e : TypeId} {w : World} {base n c g : Nat} {A : Option Addr} {xs : List UInt8} (h : Own e w base A n c xs) (hg : g < base) (i : Nat) (v : Value) : Own e (w.setCell ⟨g, i, none⟩ v) base A n c xs := by
  refine ⟨h.1, ?_⟩
  rcases h.2 with h1 | ⟨k, cap, cur, h1, h2, h3, h4⟩
  · exact .inl h1
  · refine .inr ⟨k, cap, cur, h1, h2, ?_, h4⟩
    rw [heap_setCell_other _ _ _ _ (by simp only [ne_eq]; omega)]
    exact h3
end
end Go.Proofs.Ytgccbghaibddcaa
