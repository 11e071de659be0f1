/- Rows of bytes and of entries beside each other: other kinds are other blocks; two lists of pairs by turns; an append at a step. -/
import Derived.Test.YtmpdenpopokigaaCl
import Derived.Test.YtmpdenpopokigaaEnC
import Derived.Test.YtmpdenpopokigaaSrt
import Derived.Test.YtmpdenpopokigaaFamD
import Derived.Deep.RegionLaw
namespace Go.Proofs.Ytmpdenpopokigaa
open Go Go.RowKit

/-- Blocks of other kinds are other blocks. -/
theorem row_ne {t1 t2 : TypeId} {s1 s2 : Nat} {w : World} {b1 b2 n c m d : Nat} {L A : Option Addr} {i j : Nat} {vs us : List Value} (h : w.ownsRow b1 t1 s1 (.slice L n c) i vs) (k : w.ownsRow b2 t2 s2 (.slice A m d) j us) (hne : t1 ≠ t2) : Dj L A := fun b e1 e2 => by
  rcases h.2 with ⟨h1, _⟩ | ⟨g, cap, cur, h1, _, hg, _⟩
  · injection h1 with h1
    rw [h1] at e1; cases e1
  · injection h1 with h1
    rw [h1] at e1
    injection e1 with e1
    rcases k.2 with ⟨k1, _⟩ | ⟨g2, cap2, cur2, k1, _, kg, _⟩
    · injection k1 with k1
      rw [k1] at e2; cases e2
    · injection k1 with k1
      rw [k1] at e2
      injection e2 with e2
      simp only at e1 e2
      subst e1 e2
      rw [hg] at kg
      injection kg with kg
      injection kg with _ kg
      exact hne kg
theorem ownV_ne {t : TypeId} {w : World} {b1 b2 n c m d : Nat} {L A : Option Addr} {vs : List Value} {xs : List UInt8} (h : OwnV t w b1 L n c vs) (k : Own 5 w b2 A m d xs) (hne : t ≠ 5) : Dj L A := row_ne h k hne
theorem cl_row {ty t : TypeId} {s : Nat} {w : World} {p b2 m d j : Nat} {A : Option Addr} {us : Array Value} {vs : List Value} (h : Cl w p us ty) (k : w.ownsRow b2 t s (.slice A m d) j vs) (hne : ty ≠ t) : blk A ≠ some p := fun e2 => by
  rcases k.2 with ⟨k1, _⟩ | ⟨g2, cap2, cur2, k1, _, kg, _⟩
  · injection k1 with k1
    rw [k1] at e2; cases e2
  · injection k1 with k1
    rw [k1] at e2
    injection e2 with e2
    simp only at e2
    subst e2
    unfold Cl at h
    rw [h] at kg
    injection kg with kg
    injection kg with _ kg
    exact hne kg
theorem Cl.grown {w w' : World} {p : Nat} {us : Array Value} {ty : TypeId} {row : Option Nat} (h : Cl w p us ty) (hg : w.grownBy w' row) (hne : row ≠ some p) : Cl w' p us ty := by
  obtain ⟨_, _, _, h4, h5⟩ := hg
  exact (h5 p h.lt (fun e => hne e.symm)).trans h
theorem rdPre2 {e : TypeId} {w : World} {base g n k : Nat} {xs : List UInt8} (h : Own e w base (some ⟨g, 0, none⟩) (n + 40) (n + 40) (xs ++ room n k)) (hx : xs.length = n) : Rd w (some ⟨g, 0, none⟩) n xs := by
  have := (h.prefix n (by omega) (by simp)).rd
  rw [List.take_left' hx] at this
  exact this
theorem ownV_box2 (w : World) (t : TypeId) (base : Nat) (vs : List Value) (n : Nat) (hl : vs.length = n) (hn : n ≤ 1024) (hb : base ≤ w.heap.size) (cs : Array Value) (hc : cs = vs.toArray) : OwnV t (w.alloc (.cells cs t)) base (some ⟨w.heap.size, 0, none⟩) n n vs := by
  subst hc
  refine ⟨by simp [hl], .inr ⟨w.heap.size, n, vs.toArray, rfl, hb, heap_alloc_new w _, Nat.le_refl _, by unfold maxLen; omega, by simp [hl], ?_⟩⟩
  simp only [Nat.mul_one]
  exact List.take_of_length_le (by simp [hl])
section
variable {w w' : World} {base : Nat} {ps qs : List VB}
theorem Fam.off_row (h : Fam w base ps) {t : TypeId} {b1 n c : Nat} {L : Option Addr} {vs : List Value} (hl : OwnV t w b1 L n c vs) (hne : t ≠ 5) : ∀ b, blk L = some b → OffF ps b := fun b hb q hq e => by
  obtain ⟨A, m, d, e1, ho⟩ := h.1 q hq
  rw [e1, own_blk] at e
  exact ownV_ne hl ho hne b hb e
theorem Fam.app {base' : Nat} (h : Fam w base ps) (hn : Fam w' base' qs) (hb : Below w.heap.size w w') (h1 : w.heap.size ≤ base') (h2 : base ≤ base') : Fam w' base (ps ++ qs) := by
  have h0 : Fam w base (ps ++ []) := by rw [List.append_nil]; exact h
  have := Fam.ins h0 hn hb h1 h2
  rw [List.append_nil] at this
  exact this
theorem OffF.app {p : Nat} (h : OffF ps p) (k : OffF qs p) : OffF (ps ++ qs) p := fun q hq => by
  rcases List.mem_append.1 hq with h1 | h1
  · exact h q h1
  · exact k q h1
end
end Go.Proofs.Ytmpdenpopokigaa
