/- What the loops of Apart keep: the grown row, the pool, the row of the lists. No condition. -/
import Derived.Test.YtgccbghaibddcaaPool
import Derived.Test.YtgccbghaibddcaaProg
namespace Go.Proofs.Ytgccbghaibddcaa
open Go Go.RowKit

def Lens (n : Nat) (svs ms : List Value) : Prop :=
  (∀ (k : Nat) (A : Option Addr) (m c : Nat) (A' : Option Addr) (m' c' : Nat), k < n → ms[k]? = some (Value.slice A' m' c') → svs[k]? = some (Value.slice A m c) → m' ≤ m + 16) ∧
  ∀ (k : Nat) (A' : Option Addr) (m' c' : Nat), ms[k]? = some (Value.slice A' m' c') → m' ≤ 2147483648

/-- Row G (of gn slices gvs) is the call's own; of the pool are the lists svs and what ms has; L is the row of the lists. -/
def Stg (w0 : World) (base n : Nat) (L : Option Addr) (svs : List Value) (G : Option Addr) (gn gc : Nat) (gvs ms : List Value) (w : World) : Prop :=
  OwnV 30 w base G gn gc gvs ∧ Pool 5 w base (Mem n svs ms) ∧ Lens n svs ms ∧ (∀ b : Nat, blk L = some b → Off (Mem n svs ms) b ∧ blk G ≠ some b) ∧ (∀ b : Nat, blk G = some b → Off (Mem n svs ms) b) ∧ RdV w L n svs ∧ Below base w0 w

section
variable {w0 w w' : World} {base n gn gc : Nat} {L G : Option Addr} {svs gvs ms : List Value}
theorem Stg.own (h : Stg w0 base n L svs G gn gc gvs ms w) : OwnV 30 w base G gn gc gvs := h.1
theorem Stg.pool (h : Stg w0 base n L svs G gn gc gvs ms w) : Pool 5 w base (Mem n svs ms) := h.2.1
theorem Stg.lens (h : Stg w0 base n L svs G gn gc gvs ms w) : Lens n svs ms := h.2.2.1
theorem Stg.rd (h : Stg w0 base n L svs G gn gc gvs ms w) : RdV w L n svs := h.2.2.2.2.2.1
theorem Stg.bel (h : Stg w0 base n L svs G gn gc gvs ms w) : Below base w0 w := h.2.2.2.2.2.2
theorem Stg.drew (h : Stg w0 base n L svs G gn gc gvs ms w) : Stg w0 base n L svs G gn gc gvs ms w.drew := ⟨h.1, h.2.1, h.2.2.1, h.2.2.2.1, h.2.2.2.2.1, h.rd, h.bel.drew⟩
theorem Stg.drewN (h : Stg w0 base n L svs G gn gc gvs ms w) (q : Nat) : Stg w0 base n L svs G gn gc gvs ms (w.drewN q) := ⟨h.1, h.2.1, h.2.2.1, h.2.2.2.1, h.2.2.2.2.1, h.rd, ⟨h.bel.os, h.bel.tape, h.bel.output, h.bel.size, h.bel.block⟩⟩
theorem Stg.kept (h : Stg w0 base n L svs G gn gc gvs ms w) {row : Option Nat} (hg : w.grownBy w' row) (hbase : base ≤ w.heap.size)
    (hr : ∀ b, row = some b → base ≤ b ∧ Off (Mem n svs ms) b ∧ blk G ≠ some b ∧ blk L ≠ some b) : Stg w0 base n L svs G gn gc gvs ms w' := by
  obtain ⟨h1, h2, h3, h4, h5, h6, h7⟩ := h
  exact ⟨h1.kept hg (fun b hb e => (hr b e).2.2.1 hb), h2.kept hg (fun b e => (hr b e).2.1), h3, h4, h5, h6.kept hg (fun b hb e => (hr b e).2.2.2 hb), h7.grown hg hbase (fun k hk => (hr k hk).1)⟩
theorem Stg.alloc (h : Stg w0 base n L svs G gn gc gvs ms w) (hbase : base ≤ w.heap.size) (o : Obj) : Stg w0 base n L svs G gn gc gvs ms (w.alloc o) :=
  h.kept (World.grownBy_alloc w o none) hbase (fun b e => by cases e)
theorem Stg.sub (h : Stg w0 base n L svs G gn gc gvs ms w) {ms' : List Value} (hms : ∀ i v, Mem n svs ms' i v → Mem n svs ms i v) (hlen : Lens n svs ms') : Stg w0 base n L svs G gn gc gvs ms' w := by
  obtain ⟨h1, h2, _, h4, h5, h6, h7⟩ := h
  exact ⟨h1, h2.sub hms, hlen, fun b hb => ⟨fun i v hv => (h4 b hb).1 i v (hms i v hv), (h4 b hb).2⟩, fun b hb i v hv => h5 b hb i v (hms i v hv), h6, h7⟩
theorem Stg.off_new (h : Stg w0 base n L svs G gn gc gvs ms w) (hn : 0 < n) {b : Nat} (hb : w.heap.size ≤ b) : Off (Mem n svs ms) b ∧ blk G ≠ some b ∧ blk L ≠ some b := by
  refine ⟨h.pool.off_new hb, fun e => ?_, fun e => ?_⟩
  · have := h.own.lt b e; omega
  · obtain ⟨b', off, rfl, hlt⟩ := h.rd.pos hn
    injection e with e
    simp only at e
    omega
theorem Stg.app (h : Stg w0 base n L svs G gn gc gvs ms w) (hn : 0 < n) (hbase : base ≤ w.heap.size) {ms' : List Value} {i m k c : Nat} {A : Option Addr} (hv : Mem n svs ms i (.slice A m c)) {A' : Option Addr} {c' : Nat} (ho : Own 5 w' base A' (m + k) c' (marks i (m + k)))
    (ha : Alt w w' A c A' c')
    (hmax : ∀ A2 m2 c2, Mem n svs ms i (.slice A2 m2 c2) → m2 ≤ m + k)
    (hms : ∀ i' v', Mem n svs ms' i' v' → Mem n svs ms i' v' ∨ (i' = i ∧ v' = .slice A' (m + k) c')) (hlen : Lens n svs ms') : Stg w0 base n L svs G gn gc gvs ms' w' := by
  obtain ⟨row, hg, hrow⟩ : ∃ row, w.grownBy w' row ∧ (row = blk A ∨ row = none) := by
    rcases ha with ⟨_, _, _, hg⟩ | ⟨_, hg⟩
    · exact ⟨_, hg, .inl rfl⟩
    · exact ⟨_, hg, .inr rfl⟩
  have hrb : ∀ b, row = some b → blk A = some b := fun b e => by
    rcases hrow with rfl | rfl
    · exact e
    · cases e
  obtain ⟨h1, h2, h3, h4, h5, h6, h7⟩ := h
  have hout : ∀ b, Off (Mem n svs ms) b → b < w.heap.size → Off (Mem n svs ms') b := fun b hb hlt i' v' hm => by
    exact Pool.app_off (k := k) hb hv ha hlt i' v' (hms i' v' hm)
  have hne : ∀ b, Off (Mem n svs ms) b → row ≠ some b := fun b hb e => hb i _ hv (by rw [own_blk]; exact hrb b e)
  refine ⟨h1.kept hg (fun b hb => hne b (h5 b hb)), (h2.app hv ho ha hmax).sub hms, hlen, fun b hb => ⟨hout b (h4 b hb).1 ?_, (h4 b hb).2⟩, fun b hb => hout b (h5 b hb) (h1.lt b hb).2, h6.kept hg (fun b hb => hne b (h4 b hb).1), h7.grown hg hbase (fun k hk => ?_)⟩
  · obtain ⟨b', off, rfl, hlt⟩ := h6.pos hn
    injection hb with hb
    subst hb
    exact hlt
  · exact (h2.lt hv (b := k) (by rw [own_blk]; exact hrb k hk)).1
theorem Stg.row (h : Stg w0 base n L svs G gn gc gvs ms w) (hn : 0 < n) (hbase : base ≤ w.heap.size) {G' : Option Addr} {gn' gc' : Nat} {gvs' : List Value} (ho : OwnV 30 w' base G' gn' gc' gvs') (hg : w.grownBy w' (blk G)) (hk : blk G' = blk G ∨ blk G' = some (w.heap.size + 1)) :
    Stg w0 base n L svs G' gn' gc' gvs' ms w' := by
  obtain ⟨h1, h2, h3, h4, h5, h6, h7⟩ := h
  refine ⟨ho, h2.kept hg (fun b e => h5 b e), h3, fun b hb => ⟨(h4 b hb).1, fun e => ?_⟩, fun b hb => ?_, h6.kept hg (fun b hb e => (h4 b hb).2 e), h7.grown hg hbase (fun k hk => (h1.lt k hk).1)⟩
  · rcases hk with hk | hk
    · exact (h4 b hb).2 (by rw [← hk]; exact e)
    · obtain ⟨b', off, rfl, hlt⟩ := h6.pos hn
      injection hb with hb
      rw [hk] at e
      injection e with e
      simp only at hb
      omega
  · rcases hk with hk | hk
    · exact h5 b (by rw [← hk]; exact hb)
    · rw [hk] at hb
      injection hb with hb
      exact h2.off_new (by omega)
end

theorem mem_snoc {n : Nat} {svs ms : List Value} {v : Value} {i : Nat} (hi : ms.length % n = i) : ∀ i' v', Mem n svs (ms ++ [v]) i' v' → Mem n svs ms i' v' ∨ (i' = i ∧ v' = v) := by
  rintro i' v' (h | ⟨k, h, hk⟩)
  · exact .inl (.inl h)
  · rcases Nat.lt_trichotomy k ms.length with h1 | h1 | h1
    · rw [List.getElem?_append_left h1] at h
      exact .inl (.inr ⟨k, h, hk⟩)
    · subst h1
      rw [List.getElem?_append_right (Nat.le_refl _), Nat.sub_self] at h
      simp only [List.getElem?_cons_zero, Option.some.injEq] at h
      exact .inr ⟨by rw [← hk, hi], h.symm⟩
    · rw [List.getElem?_eq_none (by simp; omega)] at h
      cases h
theorem mem_last {n : Nat} {svs ms : List Value} {v : Value} {i : Nat} (hi : ms.length % n = i) : Mem n svs (ms ++ [v]) i v := .inr ⟨ms.length, by simp, hi⟩
theorem mem_left {n : Nat} {svs ms : List Value} {v v' : Value} {i : Nat} (h : Mem n svs ms i v') : Mem n svs (ms ++ [v]) i v' := by
  rcases h with h | ⟨k, h, hk⟩
  · exact .inl h
  · exact .inr ⟨k, by rw [List.getElem?_append_left (List.getElem?_eq_some_iff.1 h).1]; exact h, hk⟩
theorem lens_snoc {n : Nat} {svs ms : List Value} (h : Lens n svs ms) (A' : Option Addr) (m' c' : Nat) (hb : m' ≤ 2147483648) (hv : ∀ (A : Option Addr) (m c : Nat), ms.length < n → svs[ms.length]? = some (Value.slice A m c) → m' ≤ m + 16) : Lens n svs (ms ++ [.slice A' m' c']) := by
  have key : ∀ (k : Nat) (A2 : Option Addr) (m2 c2 : Nat), (ms ++ [Value.slice A' m' c'])[k]? = some (Value.slice A2 m2 c2) → ms[k]? = some (Value.slice A2 m2 c2) ∨ (k = ms.length ∧ m2 = m') := by
    intro k A2 m2 c2 h1
    rcases Nat.lt_trichotomy k ms.length with h3 | h3 | h3
    · rw [List.getElem?_append_left h3] at h1
      exact .inl h1
    · subst h3
      rw [List.getElem?_append_right (Nat.le_refl _), Nat.sub_self] at h1
      simp only [List.getElem?_cons_zero, Option.some.injEq, Value.slice.injEq] at h1
      exact .inr ⟨rfl, h1.2.1.symm⟩
    · rw [List.getElem?_eq_none (by simp; omega)] at h1
      cases h1
  refine ⟨fun k A m c A2 m2 c2 hk h1 h2 => ?_, fun k A2 m2 c2 h1 => ?_⟩
  · rcases key k A2 m2 c2 h1 with h3 | ⟨rfl, rfl⟩
    · exact h.1 k A m c A2 m2 c2 hk h3 h2
    · exact hv A m c hk h2
  · rcases key k A2 m2 c2 h1 with h3 | ⟨rfl, rfl⟩
    · exact h.2 k A2 m2 c2 h3
    · exact hb

end Go.Proofs.Ytgccbghaibddcaa
