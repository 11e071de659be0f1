/- Words for rows of one-cell values in memory (numbers, runes, bools, strings): read, and made by the call itself; one value more appended onto such a row while others stand beside it. No condition. -/
import Derived.Test.YtgccbghaibddcaaMem
namespace Go.Proofs.Ytgccbghaibddcaa
open Go Go.RowKit

/-- 'The slice at A of length n reads as these values.' -/
def RdV (w : World) (A : Option Addr) (n : Nat) (vs : List Value) : Prop :=
  vs.length = n ∧ (0 < n → ∃ b off, A = some ⟨b, off, none⟩ ∧ b < w.heap.size ∧ ∀ (i : Nat) v, vs[i]? = some v → w.cell? ⟨b, off + i, none⟩ = some v)
/-- 'The slice at A, of length n and capacity c, is the call's own, and holds these values.' -/
def OwnV (e : TypeId) (w : World) (base : Nat) (A : Option Addr) (n c : Nat) (vs : List Value) : Prop := w.ownsRow base e 1 (.slice A n c) n vs

section
variable {w w' : World} {A : Option Addr} {n : Nat} {vs : List Value}
theorem RdV.len (h : RdV w A n vs) : vs.length = n := h.1
theorem RdV.nil (w : World) (A : Option Addr) : RdV w A 0 [] := ⟨rfl, fun h => absurd h (by omega)⟩
theorem RdV.pos (h : RdV w A n vs) (hn : 0 < n) : ∃ b off, A = some ⟨b, off, none⟩ ∧ b < w.heap.size := by
  obtain ⟨b, off, h1, h2, _⟩ := h.2 hn
  exact ⟨b, off, h1, h2⟩
theorem RdV.at_ {b off : Nat} (h : RdV w (some ⟨b, off, none⟩) n vs) (k : Nat) (hk : k < n) : ∃ v, vs[k]? = some v ∧ w.cell? ⟨b, off + k, none⟩ = some v := by
  obtain ⟨b', off', h1, _, h3⟩ := h.2 (by omega)
  have hl : k < vs.length := by have := h.1; omega
  injection h1 with h1
  injection h1 with h1 h2
  subst h1 h2
  exact ⟨vs[k], List.getElem?_eq_getElem hl, h3 k _ (List.getElem?_eq_getElem hl)⟩
theorem RdV.below (h : RdV w A n vs) (hb : Below w.heap.size w w') : RdV w' A n vs := by
  refine ⟨h.1, fun hn => ?_⟩
  obtain ⟨b, off, h1, h2, h3⟩ := h.2 hn
  exact ⟨b, off, h1, Nat.lt_of_lt_of_le h2 hb.size, fun i x hx => (hb.cell (p := ⟨b, off + i, none⟩) h2).trans (h3 i x hx)⟩
theorem RdV.drewN (h : RdV w A n vs) (q : Nat) : RdV (w.drewN q) A n vs := h
theorem RdV.alloc (h : RdV w A n vs) (o : Obj) : RdV (w.alloc o) A n vs := h.below ((Below.refl _ _).alloc (Nat.le_refl _) o)
end

section
variable {e : TypeId} {w w' : World} {base n c : Nat} {A : Option Addr} {vs : List Value}
theorem OwnV.len (h : OwnV e w base A n c vs) : vs.length = n := by have := h.1; simpa using this
theorem OwnV.cap (h : OwnV e w base A n c vs) : n ≤ c ∧ c ≤ maxLen := by
  rcases h.2 with ⟨h1, h2⟩ | ⟨g, cap, cur, h1, _, _, h2, h3, _⟩
  · injection h1 with h1 h2 h3
    subst h2 h3
    unfold maxLen
    omega
  · injection h1 with _ _ h4
    subst h4
    exact ⟨h2, h3⟩
theorem OwnV.nil (e : TypeId) (w : World) (base : Nat) : OwnV e w base none 0 0 [] := World.ownsRow_nil _ _ _ _
theorem OwnV.rd (h : OwnV e w base A n c vs) : RdV w A n vs := by
  refine ⟨h.len, fun hn => ?_⟩
  rcases h.2 with ⟨_, h2⟩ | ⟨g, cap, cur, h1, _, hg, _⟩
  · omega
  · injection h1 with h1
    subst h1
    refine ⟨g, 0, rfl, (Array.getElem?_eq_some_iff.1 hg).1, fun i x hx => ?_⟩
    have := World.ownsRow.cells h (g := g) rfl i _ hx
    simpa [Addr.add_lit] using this
theorem OwnV.below (h : OwnV e w base A n c vs) (hb : Below w.heap.size w w') : OwnV e w' base A n c vs := by
  refine ⟨h.1, ?_⟩
  rcases h.2 with h1 | ⟨g, cap, cur, h1, h2, h3, h4⟩
  · exact .inl h1
  · exact .inr ⟨g, cap, cur, h1, h2, (hb.block g (Array.getElem?_eq_some_iff.1 h3).1).trans h3, h4⟩
theorem OwnV.mono {base' : Nat} (h : OwnV e w base A n c vs) (hb : base' ≤ base) : OwnV e w base' A n c vs := by
  refine ⟨h.1, ?_⟩
  rcases h.2 with h1 | ⟨g, cap, cur, h1, h2, h3⟩
  · exact .inl h1
  · exact .inr ⟨g, cap, cur, h1, by omega, h3⟩
theorem OwnV.alloc (h : OwnV e w base A n c vs) (o : Obj) : OwnV e (w.alloc o) base A n c vs := World.ownsRow.alloc h o
theorem OwnV.drewN (h : OwnV e w base A n c vs) (q : Nat) : OwnV e (w.drewN q) base A n c vs := h
end

/-- The block in which a slice's row lies. -/
def blk (A : Option Addr) : Option Nat := A.map (·.block)
theorem own_blk (A : Option Addr) (n c : Nat) : Value.ownBlock (.slice A n c) = blk A := by cases A <;> rfl
theorem OwnV.kept {e : TypeId} {w w' : World} {base n c : Nat} {A : Option Addr} {vs : List Value} {row : Option Nat} (h : OwnV e w base A n c vs) (hg : w.grownBy w' row) (hne : ∀ b, blk A = some b → row ≠ some b) : OwnV e w' base A n c vs := by
  refine World.ownsRow.kept h hg ?_
  rw [own_blk]
  cases hb : blk A with
  | none => exact .inl rfl
  | some b => exact .inr (fun e => hne b hb e.symm)
theorem RdV.kept {w w' : World} {n : Nat} {A : Option Addr} {vs : List Value} {row : Option Nat} (h : RdV w A n vs) (hg : w.grownBy w' row) (hne : ∀ b, blk A = some b → row ≠ some b) : RdV w' A n vs := by
  refine ⟨h.1, fun hn => ?_⟩
  obtain ⟨b, off, rfl, h2, h3⟩ := h.2 hn
  exact ⟨b, off, rfl, Nat.lt_of_lt_of_le h2 hg.size, fun i x hx => hg.cell (a := ⟨b, off + i, none⟩) (h3 i x hx) (fun e => hne b rfl e.symm)⟩

theorem OwnV.lt {e : TypeId} {w : World} {base n c : Nat} {A : Option Addr} {vs : List Value} (h : OwnV e w base A n c vs) (b : Nat) (hb : blk A = some b) : base ≤ b ∧ b < w.heap.size :=
  World.ownsRow.lt h b (by rw [own_blk]; exact hb)

/-- 'This cell holds v, and what was there stands': kept by a call that makes memory, and by a draw. -/
def Cel (w0 : World) (p : Addr) (v : Value) (w : World) : Prop := w.cell? p = some v ∧ Below w0.heap.size w0 w
theorem cell_lt {w : World} {p : Addr} {v : Value} (h : w.cell? p = some v) : p.block < w.heap.size := by
  apply Nat.lt_of_not_le
  intro hle
  simp [World.cell?, Array.getElem?_eq_none hle] at h
theorem Cel.made {w0 w w' : World} {p : Addr} {v : Value} (h : w.cell? p = some v ∧ Below w0.heap.size w0 w) (hb : Below w.heap.size w w') : w'.cell? p = some v ∧ Below w0.heap.size w0 w' :=
  ⟨(hb.cell (cell_lt h.1)).trans h.1, h.2.trans (hb.mono h.2.size)⟩

end Go.Proofs.Ytgccbghaibddcaa
