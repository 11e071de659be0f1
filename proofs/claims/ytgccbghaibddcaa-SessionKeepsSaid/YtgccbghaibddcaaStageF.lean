/- What the loops of Apart keep, with blocks that stand. -/
import Derived.Test.YtgccbghaibddcaaStage
namespace Go.Proofs.Ytgccbghaibddcaa
open Go Go.RowKit

def Sm (K : List Nat) (w0 w : World) : Prop := ∀ b ∈ K, b < w0.heap.size ∧ w.heap[b]? = w0.heap[b]?
theorem Sm.grown {K : List Nat} {w0 w w' : World} {row : Option Nat} (h : Sm K w0 w) (hs : w0.heap.size ≤ w.heap.size) (hg : w.grownBy w' row) (hr : ∀ b, row = some b → b ∉ K) : Sm K w0 w' := fun b hb =>
  ⟨(h b hb).1, (hg.block b (by have := (h b hb).1; omega) (fun e => hr b e.symm hb)).trans (h b hb).2⟩

/-- As Stg; and the blocks K stand. -/
def StF (w0 : World) (base : Nat) (K : List Nat) (n : Nat) (L : Option Addr) (svs : List Value) (G : Option Addr) (gn gc : Nat) (gvs ms : List Value) (w : World) : Prop :=
  Stg w0 base n L svs G gn gc gvs ms w ∧ w0.heap.size ≤ w.heap.size ∧ Sm K w0 w ∧ (∀ b ∈ K, Off (Mem n svs ms) b ∧ blk G ≠ some b)

section
variable {w0 w w' : World} {base n gn gc : Nat} {K : List Nat} {L G : Option Addr} {svs gvs ms : List Value}
theorem StF.own (h : StF w0 base K n L svs G gn gc gvs ms w) : OwnV 30 w base G gn gc gvs := h.1.own
theorem StF.pool (h : StF w0 base K n L svs G gn gc gvs ms w) : Pool 5 w base (Mem n svs ms) := h.1.pool
theorem StF.lens (h : StF w0 base K n L svs G gn gc gvs ms w) : Lens n svs ms := h.1.lens
theorem StF.rd (h : StF w0 base K n L svs G gn gc gvs ms w) : RdV w L n svs := h.1.rd
theorem StF.bel (h : StF w0 base K n L svs G gn gc gvs ms w) : Below base w0 w := h.1.bel
theorem StF.drew (h : StF w0 base K n L svs G gn gc gvs ms w) : StF w0 base K n L svs G gn gc gvs ms w.drew := ⟨h.1.drew, h.2⟩
theorem StF.drewN (h : StF w0 base K n L svs G gn gc gvs ms w) (q : Nat) : StF w0 base K n L svs G gn gc gvs ms (w.drewN q) := ⟨h.1.drewN q, h.2⟩
theorem StF.kept (h : StF w0 base K n L svs G gn gc gvs ms w) {row : Option Nat} (hg : w.grownBy w' row) (hbase : base ≤ w.heap.size)
    (hr : ∀ b, row = some b → (base ≤ b ∧ Off (Mem n svs ms) b ∧ blk G ≠ some b ∧ blk L ≠ some b) ∧ b ∉ K) : StF w0 base K n L svs G gn gc gvs ms w' :=
  ⟨h.1.kept hg hbase (fun b e => (hr b e).1), Nat.le_trans h.2.1 hg.size, h.2.2.1.grown h.2.1 hg (fun b e => (hr b e).2), h.2.2.2⟩
theorem StF.alloc (h : StF w0 base K n L svs G gn gc gvs ms w) (hbase : base ≤ w.heap.size) (o : Obj) : StF w0 base K n L svs G gn gc gvs ms (w.alloc o) :=
  h.kept (World.grownBy_alloc w o none) hbase (fun b e => by cases e)
theorem StF.sub (h : StF w0 base K n L svs G gn gc gvs ms w) {ms' : List Value} (hms : ∀ i v, Mem n svs ms' i v → Mem n svs ms i v) (hlen : Lens n svs ms') : StF w0 base K n L svs G gn gc gvs ms' w :=
  ⟨h.1.sub hms hlen, h.2.1, h.2.2.1, fun b hb => ⟨fun i v hv => (h.2.2.2 b hb).1 i v (hms i v hv), (h.2.2.2 b hb).2⟩⟩
theorem StF.off_new (h : StF w0 base K n L svs G gn gc gvs ms w) (hn : 0 < n) {b : Nat} (hb : w.heap.size ≤ b) : Off (Mem n svs ms) b ∧ blk G ≠ some b ∧ blk L ≠ some b := h.1.off_new hn hb
theorem StF.off_k (h : StF w0 base K n L svs G gn gc gvs ms w) {b : Nat} (hb : w.heap.size ≤ b) : b ∉ K := fun hk => by
  have h1 := (h.2.2.1 b hk).1
  have h2 := h.2.1
  omega
theorem StF.app (h : StF w0 base K n L svs G gn gc gvs ms w) (hn : 0 < n) (hbase : base ≤ w.heap.size) {ms' : List Value} {i m k c : Nat} {A : Option Addr} (hv : Mem n svs ms i (.slice A m c)) {A' : Option Addr} {c' : Nat} (ho : Own 5 w' base A' (m + k) c' (marks i (m + k)))
    (ha : Alt w w' A c A' c')
    (hmax : ∀ A2 m2 c2, Mem n svs ms i (.slice A2 m2 c2) → m2 ≤ m + k)
    (hms : ∀ i' v', Mem n svs ms' i' v' → Mem n svs ms i' v' ∨ (i' = i ∧ v' = .slice A' (m + k) c')) (hlen : Lens n svs ms') : StF w0 base K n L svs G gn gc gvs ms' w' := by
  obtain ⟨row, hg, hrow⟩ : ∃ row, w.grownBy w' row ∧ (row = blk A ∨ row = none) := by
    rcases ha with ⟨_, _, _, hg⟩ | ⟨_, hg⟩
    · exact ⟨_, hg, .inl rfl⟩
    · exact ⟨_, hg, .inr rfl⟩
  have hrb : ∀ b, row = some b → blk A = some b := fun b e => by
    rcases hrow with rfl | rfl
    · exact e
    · cases e
  obtain ⟨h1, h2, h3, h4⟩ := h
  have hout : ∀ b, Off (Mem n svs ms) b → b < w.heap.size → Off (Mem n svs ms') b := fun b hb hlt i' v' hm => by
    exact Pool.app_off (k := k) hb hv ha hlt i' v' (hms i' v' hm)
  refine ⟨h1.app hn hbase hv ho ha hmax hms hlen, Nat.le_trans h2 hg.size, h3.grown h2 hg (fun b e hk => (h4 b hk).1 i _ hv (by rw [own_blk]; exact hrb b e)), fun b hb => ⟨hout b (h4 b hb).1 (by have := (h3 b hb).1; omega), (h4 b hb).2⟩⟩
theorem StF.row (h : StF w0 base K n L svs G gn gc gvs ms w) (hn : 0 < n) (hbase : base ≤ w.heap.size) {G' : Option Addr} {gn' gc' : Nat} {gvs' : List Value} (ho : OwnV 30 w' base G' gn' gc' gvs') (hg : w.grownBy w' (blk G)) (hk : blk G' = blk G ∨ blk G' = some (w.heap.size + 1)) :
    StF w0 base K n L svs G' gn' gc' gvs' ms w' := by
  obtain ⟨h1, h2, h3, h4⟩ := h
  refine ⟨h1.row hn hbase ho hg hk, Nat.le_trans h2 hg.size, h3.grown h2 hg (fun b e hb => (h4 b hb).2 e), fun b hb => ⟨(h4 b hb).1, fun e => ?_⟩⟩
  rcases hk with hk | hk
  · exact (h4 b hb).2 (by rw [← hk]; exact e)
  · rw [hk] at e
    injection e with e
    have := (h3 b hb).1
    omega
end
end Go.Proofs.Ytgccbghaibddcaa
