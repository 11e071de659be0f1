/- Words for lists of bytes that share no memory, each in a row of the call's own, with what each holds; a row of slices over them. No condition. -/
import Derived.Test.YtgccbghaibddcaaPool
import Derived.Test.YtgccbghaibddcaaLists
import Derived.Test.YtgccbghaibddcaaProg
namespace Go.Proofs.Ytgccbghaibddcaa
open Go Go.RowKit

abbrev VB := Value × List UInt8
def Ap (p q : VB) : Prop := ∀ b : Nat, Value.ownBlock p.1 = some b → Value.ownBlock q.1 ≠ some b
theorem Ap.symm {p q : VB} (h : Ap p q) : Ap q p := fun b h1 h2 => h b h2 h1
/-- 'Each of these slices is a row of the call's own that holds its bytes; no two share a block.' -/
def Fam (w : World) (base : Nat) (ps : List VB) : Prop := (∀ p ∈ ps, ∃ A m c, p.1 = .slice A m c ∧ Own 5 w base A m c p.2) ∧ ps.Pairwise Ap
def OffF (ps : List VB) (b : Nat) : Prop := ∀ p ∈ ps, Value.ownBlock p.1 ≠ some b

section
variable {w w' : World} {base base' : Nat} {a b ps qs : List VB}
theorem Fam.nil (w : World) (base : Nat) : Fam w base [] := ⟨(fun p h => by cases h), List.Pairwise.nil⟩
theorem Fam.one {A : Option Addr} {m c : Nat} {xs : List UInt8} (h : Own 5 w base A m c xs) : Fam w base [(.slice A m c, xs)] := by
  refine ⟨fun p hp => ?_, List.pairwise_singleton _ _⟩
  simp only [List.mem_singleton] at hp
  subst hp
  exact ⟨A, m, c, rfl, h⟩
theorem Fam.lt (h : Fam w base ps) {p : VB} (hp : p ∈ ps) {b : Nat} (hb : Value.ownBlock p.1 = some b) : base ≤ b ∧ b < w.heap.size := by
  obtain ⟨A, m, c, e, ho⟩ := h.1 p hp
  rw [e, own_blk] at hb
  exact ho.lt b hb
theorem Fam.kept (h : Fam w base ps) {row : Option Nat} (hg : w.grownBy w' row) (hr : ∀ b, row = some b → OffF ps b) : Fam w' base ps := by
  refine ⟨fun p hp => ?_, h.2⟩
  obtain ⟨A, m, c, e, ho⟩ := h.1 p hp
  refine ⟨A, m, c, e, ho.kept hg (fun b hb hrb => hr b hrb p hp ?_)⟩
  rw [e, own_blk]
  exact hb
theorem Fam.below (h : Fam w base ps) (hb : Below w.heap.size w w') : Fam w' base ps := by
  refine ⟨fun p hp => ?_, h.2⟩
  obtain ⟨A, m, c, e, ho⟩ := h.1 p hp
  exact ⟨A, m, c, e, ho.below hb⟩
theorem Fam.drewN (h : Fam w base ps) (q : Nat) : Fam (w.drewN q) base ps := h
theorem Fam.off_new (h : Fam w base ps) {b : Nat} (hb : w.heap.size ≤ b) : OffF ps b := fun p hp e => by have := h.lt hp e; omega
theorem Fam.left (h : Fam w base (a ++ b)) : Fam w base a := ⟨fun p hp => h.1 p (List.mem_append.2 (.inl hp)), (List.pairwise_append.1 h.2).1⟩
theorem Fam.right (h : Fam w base (a ++ b)) : Fam w base b := ⟨fun p hp => h.1 p (List.mem_append.2 (.inr hp)), (List.pairwise_append.1 h.2).2.1⟩
theorem Fam.mono (h : Fam w base' ps) (hb : base ≤ base') : Fam w base ps := by
  refine ⟨fun p hp => ?_, h.2⟩
  obtain ⟨A, m, c, e, ho⟩ := h.1 p hp
  exact ⟨A, m, c, e, ho.mono hb⟩
theorem OffF.left {k : Nat} (h : OffF (a ++ b) k) : OffF a k := fun p hp => h p (List.mem_append.2 (.inl hp))
/-- The family, read through a row of its slices. -/
theorem Fam.rdl {L : Option Addr} {n : Nat} (h : Fam w base ps) (hL : RdV w L n (ps.map (·.1))) : RdL w L n (ps.map (·.2)) := by
  refine ⟨by have := hL.1; simpa using this, fun hn => ?_⟩
  obtain ⟨b, off, h1, h2, h3⟩ := hL.2 hn
  refine ⟨b, off, h1, h2, fun i xs hx => ?_⟩
  rw [List.getElem?_map] at hx
  cases hp : ps[i]? with
  | none => rw [hp] at hx; cases hx
  | some p =>
    rw [hp] at hx
    injection hx with hx
    subst hx
    obtain ⟨A, m, c, e, ho⟩ := h.1 p (List.mem_of_getElem? hp)
    have hcap := ho.cap
    refine ⟨_, h3 i p.1 (by rw [List.getElem?_map, hp]; rfl), A, m, c, e, ho.rd, hcap.1, fun hA => ?_⟩
    have := ho.nil_of (by rw [hA]; rfl)
    exact this.2.2
end

/-- 'Row P of n slices is the call's own, over a family ps; it lies in no block of theirs.' -/
def RowF (w0 : World) (base : Nat) (P : Option Addr) (n c : Nat) (ps : List VB) (w : World) : Prop :=
  OwnV 30 w base P n c (ps.map (·.1)) ∧ Fam w base ps ∧ (∀ b, blk P = some b → OffF ps b) ∧ Below base w0 w
section
variable {w0 w w' w2 : World} {base n c : Nat} {P : Option Addr} {ps : List VB}
theorem RowF.nil (w : World) (base : Nat) : RowF w base none 0 0 [] w := ⟨OwnV.nil _ _ _, Fam.nil _ _, fun b h => by simp [blk] at h, Below.refl _ _⟩
theorem RowF.own (h : RowF w0 base P n c ps w) : OwnV 30 w base P n c (ps.map (·.1)) := h.1
theorem RowF.fam (h : RowF w0 base P n c ps w) : Fam w base ps := h.2.1
theorem RowF.bel (h : RowF w0 base P n c ps w) : Below base w0 w := h.2.2.2
theorem RowF.len (h : RowF w0 base P n c ps w) : ps.length = n := by have := h.1.len; simpa using this
theorem RowF.rd (h : RowF w0 base P n c ps w) : RdL w P n (ps.map (·.2)) := h.fam.rdl h.own.rd
theorem RowF.below (h : RowF w0 base P n c ps w) (hb : Below w.heap.size w w') (hbase : base ≤ w.heap.size) : RowF w0 base P n c ps w' :=
  ⟨h.1.below hb, h.2.1.below hb, h.2.2.1, h.2.2.2.trans (hb.mono hbase)⟩
end

end Go.Proofs.Ytgccbghaibddcaa
