/- What the loops of Apart keep: the grown row, the pool, the row of the lists. No condition. -/
import Derived.Test.YtgccbghaibddcaaPool
import Derived.Test.YtgccbghaibddcaaProg
namespace Go.Proofs.Ytgccbghaibddcaa
open Go Go.RowKit

def Lens (n : Nat) (svs ms : List Value) : Prop :=
  (∀ (k : Nat) (A : Option Addr) (m c : Nat) (A' : Option Addr) (m' c' : Nat), k < n → ms[k]? = some (Value.slice A' m' c') → svs[k]? = some (Value.slice A m c) → m' ≤ m + 16) ∧
  ∀ (k : Nat) (A' : Option Addr) (m' c' : Nat), ms[k]? = some (Value.slice A' m' c') → m' ≤ 2147483648

/-- Row G (of gn slices gvs) is the call's own; of the pool are the lists svs and what ms has; L is the row of the lists. -/
def Stg (w0 : World) (base n : Nat) (L : Option Addr) (svs : List Value) (G : Option Addr) (gn gc : Nat) (gvs ms : List Value) (w : World) : Prop :=
  OwnV 30 w base G gn gc gvs ∧ Pool 5 w base (Mem n svs ms) ∧ Lens n svs ms ∧ (∀ b : Nat, blk L = some b → Off (Mem n svs ms) b ∧ blk G ≠ some b) ∧ (∀ b : Nat, blk G = some b → Off (Mem n svs ms) b) ∧ RdV w L n svs ∧ Below base w0 w

section
variable {w0 w w' : World} {base n gn gc : Nat} {L G : Option Addr} {svs gvs ms : List Value}
theorem Stg.own (h : Stg w0 base n L svs G gn gc gvs ms w) : OwnV 30 w base G gn gc gvs := h.1
theorem Stg.pool (h : Stg w0 base n L svs G gn gc gvs ms w) : Pool 5 w base (Mem n svs ms) := h.2.1
theorem Stg.rd (h : Stg w0 base n L svs G gn gc gvs ms w) : RdV w L n svs := h.2.2.2.2.2.1
theorem Stg.bel (h : Stg w0 base n L svs G gn gc gvs ms w) : Below base w0 w := h.2.2.2.2.2.2
theorem Stg.drew (h : Stg w0 base n L svs G gn gc gvs ms w) : Stg w0 base n L svs G gn gc gvs ms w.drew := ⟨h.1, h.2.1, h.2.2.1, h.2.2.2.1, h.2.2.2.2.1, h.rd, h.bel.drew⟩
theorem Stg.drewN (h : Stg w0 base n L svs G gn gc gvs ms w) (q : Nat) : Stg w0 base n L svs G gn gc gvs ms (w.drewN q) := ⟨h.1, h.2.1, h.2.2.1, h.2.2.2.1, h.2.2.2.2.1, h.rd, ⟨h.bel.os, h.bel.tape, h.bel.output, h.bel.size, h.bel.block⟩⟩
theorem Stg.kept (h : Stg w0 base n L svs G gn gc gvs ms w) {row : Option Nat} (hg : w.grownBy w' row) (hbase : base ≤ w.heap.size)
    (hr : ∀ b, row = some b → base ≤ b ∧ Off (Mem n svs ms) b ∧ blk G ≠ some b ∧ blk L ≠ some b) : Stg w0 base n L svs G gn gc gvs ms w' := by
  obtain ⟨h1, h2, h3, h4, h5, h6, h7⟩ := h
  exact ⟨h1.kept hg (fun b hb e => (hr b e).2.2.1 hb), h2.kept hg (fun b e => (hr b e).2.1), h3, h4, h5, h6.kept hg (fun b hb e => (hr b e).2.2.2 hb), h7.grown hg hbase (fun k hk => (hr k hk).1)⟩
theorem Stg.alloc (h : Stg w0 base n L svs G gn gc gvs ms w) (hbase : base ≤ w.heap.size) (o : Obj) : Stg w0 base n L svs G gn gc gvs ms (w.alloc o) :=
  h.kept (World.grownBy_alloc w o none) hbase (fun b e => by cases e)
theorem Stg.off_new (h : Stg w0 base n L svs G gn gc gvs ms w) (hn : 0 < n) {b : Nat} (hb : w.heap.size ≤ b) : Off (Mem n svs ms) b ∧ blk G ≠ some b ∧ blk L ≠ some b := by
  refine ⟨h.pool.off_new hb, fun e => ?_, fun e => ?_⟩
  · have := h.own.lt b e; omega
  · obtain ⟨b', off, rfl, hlt⟩ := h.rd.pos hn
    injection e with e
    simp only at e
    omega
theorem Stg.row (h : Stg w0 base n L svs G gn gc gvs ms w) (hn : 0 < n) (hbase : base ≤ w.heap.size) {G' : Option Addr} {gn' gc' : Nat} {gvs' : List Value} (ho : OwnV 30 w' base G' gn' gc' gvs') (hg : w.grownBy w' (blk G)) (hk : blk G' = blk G ∨ blk G' = some (w.heap.size + 1)) :
    Stg w0 base n L svs G' gn' gc' gvs' ms w' := by
  obtain ⟨h1, h2, h3, h4, h5, h6, h7⟩ := h
  refine ⟨ho, h2.kept hg (fun b e => h5 b e), h3, fun b hb => ⟨(h4 b hb).1, fun e => ?_⟩, fun b hb => ?_, h6.kept hg (fun b hb e => (h4 b hb).2 e), h7.grown hg hbase (fun k hk => (h1.lt k hk).1)⟩
  · rcases hk with hk | hk
    · exact (h4 b hb).2 (by rw [← hk]; exact e)
    · obtain ⟨b', off, rfl, hlt⟩ := h6.pos hn
      injection hb with hb
      rw [hk] at e
      injection e with e
      simp only at hb
      omega
  · rcases hk with hk | hk
    · exact h5 b (by rw [← hk]; exact hb)
    · rw [hk] at hb
      injection hb with hb
      exact h2.off_new (by omega)
end

end Go.Proofs.Ytgccbghaibddcaa
