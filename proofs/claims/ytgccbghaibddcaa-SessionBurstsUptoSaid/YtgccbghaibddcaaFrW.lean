/- Frames: a call turns some blocks, and makes new ones. No condition. -/
import Derived.Test.YtgccbghaibddcaaFamD
namespace Go.Proofs.Ytgccbghaibddcaa
open Go Go.RowKit

/-- What a call may turn: some blocks, and new ones. -/
structure Fr (w w' : World) (bl : List Nat) : Prop where
  os : w'.os = w.os
  tape : w'.tape = w.tape
  output : w'.output = w.output
  size : w.heap.size ≤ w'.heap.size
  block : ∀ k, k < w.heap.size → k ∉ bl → w'.heap[k]? = w.heap[k]?

section
variable {w w' w2 : World} {bl bl2 : List Nat}
theorem Fr.refl (w : World) (bl : List Nat) : Fr w w bl := ⟨rfl, rfl, rfl, Nat.le_refl _, fun _ _ _ => rfl⟩
theorem Fr.of_below (h : Below w.heap.size w w') (bl : List Nat) : Fr w w' bl := ⟨h.os, h.tape, h.output, h.size, fun k hk _ => h.block k hk⟩
theorem Fr.of_grown {row : Option Nat} (h : w.grownBy w' row) (hr : ∀ b, row = some b → b ∈ bl) : Fr w w' bl :=
  ⟨h.os, h.tape, h.output, h.size, fun k hk hn => h.block k hk (fun e => hn (hr k e.symm))⟩
theorem Fr.trans (h : Fr w w' bl) (h2 : Fr w' w2 bl2) (hs : ∀ b ∈ bl2, b ∈ bl ∨ w.heap.size ≤ b) : Fr w w2 bl :=
  ⟨h2.os.trans h.os, h2.tape.trans h.tape, h2.output.trans h.output, Nat.le_trans h.size h2.size, fun k hk hn => by
    rw [h2.block k (Nat.lt_of_lt_of_le hk h.size) (fun hm => by rcases hs k hm with h1 | h1; exact hn h1; omega), h.block k hk hn]⟩
theorem Fr.mono (h : Fr w w' bl) (hs : ∀ b ∈ bl, b ∈ bl2 ∨ w.heap.size ≤ b) : Fr w w' bl2 :=
  ⟨h.os, h.tape, h.output, h.size, fun k hk hn => h.block k hk (fun hm => by rcases hs k hm with h1 | h1; exact hn h1; omega)⟩
theorem Fr.below {base : Nat} (h : Fr w w' bl) (hb : ∀ b ∈ bl, base ≤ b) (hs : base ≤ w.heap.size) : Below base w w' :=
  ⟨h.os, h.tape, h.output, h.size, fun k hk => h.block k (by omega) (fun hm => by have := hb k hm; omega)⟩
theorem Fr.drewN (h : Fr w w' bl) (q : Nat) : Fr w (w'.drewN q) bl := ⟨h.os, h.tape, h.output, h.size, h.block⟩
theorem Rd.fr {A : Option Addr} {n : Nat} {xs : List UInt8} (h : Rd w A n xs) (hf : Fr w w' bl) (ho : ∀ b, blk A = some b → b ∉ bl) : Rd w' A n xs := by
  refine ⟨h.1, fun hn => ?_⟩
  obtain ⟨b, off, rfl, h2, h3⟩ := h.2 hn
  refine ⟨b, off, rfl, Nat.lt_of_lt_of_le h2 hf.size, fun i x hx => ?_⟩
  have hb := hf.block b h2 (ho b rfl)
  exact (World.cell?_of_block (a := ⟨b, off + i, none⟩) hb).trans (h3 i x hx)
theorem Own.fr {e : TypeId} {base n c : Nat} {A : Option Addr} {xs : List UInt8} (h : Own e w base A n c xs) (hf : Fr w w' bl) (ho : ∀ b, blk A = some b → b ∉ bl) : Own e w' base A n c xs := by
  refine ⟨h.1, ?_⟩
  rcases h.2 with h1 | ⟨g, cap, cur, h1, h2, h3, h4⟩
  · exact .inl h1
  · injection h1 with h1 h5 h6
    subst h1 h6
    exact .inr ⟨g, _, cur, rfl, h2, (hf.block g (Array.getElem?_eq_some_iff.1 h3).1 (ho g rfl)).trans h3, h4⟩
end
theorem Fr.set (w : World) (p i : Nat) (v : Value) : Fr w (w.setCell ⟨p, i, none⟩ v) [p] :=
  ⟨rfl, rfl, rfl, by simp, fun k _ hn => heap_setCell_other w ⟨p, i, none⟩ k v (by simpa using hn)⟩
end Go.Proofs.Ytgccbghaibddcaa
