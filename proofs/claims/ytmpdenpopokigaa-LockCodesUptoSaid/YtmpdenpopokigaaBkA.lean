/- Appends that tell where the row lies, and what block's pieces append. No condition. -/
import Derived.Test.YtmpdenpopokigaaFamD
import Derived.Test.YtmpdenpopokigaaCrcR
import Derived.Test.YtmpdenpopokigaaEnA
namespace Go.Proofs.Ytmpdenpopokigaa
open Go Go.RowKit

/-- 'The row that lay at A lies at A' now: it grew where it lay, or lies in a new block; all else stands.' -/
def Grow (w w' : World) (A A' : Option Addr) : Prop := w.grownBy w' (blk A) ∧ (blk A' = blk A ∨ ∀ b, blk A' = some b → w.heap.size ≤ b)
theorem grown_then {a b c : World} {row row' : Option Nat} (h : a.grownBy b row) (k : b.grownBy c row') (hr : ∀ j, row' = some j → a.heap.size ≤ j ∨ row = some j) : a.grownBy c row := by
  obtain ⟨h1, h2, h3, h4, h5⟩ := h
  obtain ⟨k1, k2, k3, k4, k5⟩ := k
  refine ⟨k1.trans h1, k2.trans h2, k3.trans h3, Nat.le_trans h4 k4, fun i hi hne => (k5 i (Nat.lt_of_lt_of_le hi h4) fun e => ?_).trans (h5 i hi hne)⟩
  rcases hr i e.symm with h6 | h6
  · omega
  · exact hne h6.symm
theorem Grow.refl (w : World) (A : Option Addr) : Grow w w A A := ⟨World.grownBy.refl w _, .inl rfl⟩
theorem Grow.size {w w' : World} {A A' : Option Addr} (h : Grow w w' A A') : w.heap.size ≤ w'.heap.size := h.1.size
theorem Grow.trans {w w1 w2 : World} {A A1 A2 : Option Addr} (h : Grow w w1 A A1) (k : Grow w1 w2 A1 A2) : Grow w w2 A A2 := by
  have hs := h.size
  refine ⟨grown_then h.1 k.1 (fun j hj => ?_), ?_⟩
  · rcases h.2 with e | e
    · exact .inr (by rw [← e]; exact hj)
    · exact .inl (e j hj)
  · rcases k.2 with e | e
    · rcases h.2 with e2 | e2
      · exact .inl (e.trans e2)
      · exact .inr fun b hb => e2 b (by rw [← e]; exact hb)
    · exact .inr fun b hb => Nat.le_trans hs (e b hb)
theorem Grow.of_below {w w1 : World} (A : Option Addr) (h : Below w.heap.size w w1) : Grow w w1 A A :=
  ⟨⟨h.os, h.tape, h.output, h.size, fun b hb _ => h.block b hb⟩, .inl rfl⟩
theorem Grow.below {e : TypeId} {w w' : World} {base n c : Nat} {A A' : Option Addr} {xs : List UInt8} (h : Grow w w' A A') (ho : Own e w base A n c xs) (hb : base ≤ w.heap.size) : Below base w w' :=
  (Below.refl _ _).grown h.1 hb (fun k hk => (ho.lt k hk).1)
theorem Grow.kept {e : TypeId} {w w' : World} {base n c : Nat} {A A' B : Option Addr} {xs : List UInt8} (h : Grow w w' A A') (ho : Own e w base B n c xs) (hd : Dj A B) : Own e w' base B n c xs :=
  ho.kept h.1 (fun b hb e => hd b e hb)
theorem Grow.dj {e : TypeId} {w w' : World} {base n c : Nat} {A A' B : Option Addr} {xs : List UInt8} (h : Grow w w' A A') (ho : Own e w base B n c xs) (hd : Dj A B) : Dj A' B := fun b h1 h2 => by
  rcases h.2 with e | e
  · exact hd b (by rw [← e]; exact h1) h2
  · have h3 := e b h1
    have h4 := (ho.lt b h2).2
    omega
end Go.Proofs.Ytmpdenpopokigaa
