/- Words for lists of bytes that share no memory: each is a class, and what is in a class holds the class's own marks. An append that tells where the row lies behind it. No condition. -/
import Derived.Test.YtgccbghaibddcaaVal
namespace Go.Proofs.Ytgccbghaibddcaa
open Go Go.RowKit

/-- What list i holds at place j. -/
def mk (i j : Nat) : UInt8 := bt (17 * i + 3 * j + 1)
def marks (i n : Nat) : List UInt8 := (List.range n).map (mk i)
section
variable {e : TypeId} {w w' : World} {base n c : Nat} {A : Option Addr} {xs : List UInt8}
theorem Own.kept {row : Option Nat} (h : Own e w base A n c xs) (hg : w.grownBy w' row) (hne : ∀ b, blk A = some b → row ≠ some b) : Own e w' base A n c xs := OwnV.kept h hg hne
theorem Own.lt (h : Own e w base A n c xs) (b : Nat) (hb : blk A = some b) : base ≤ b ∧ b < w.heap.size := OwnV.lt h b hb
theorem Own.nil_of (h : Own e w base A n c xs) (hb : blk A = none) : A = none ∧ n = 0 ∧ c = 0 := by
  rcases h.2 with ⟨h1, h2⟩ | ⟨g, cap, cur, h1, _⟩
  · injection h1 with h1 h3 h4
    exact ⟨h1, h2, h4⟩
  · injection h1 with h1
    subst h1
    cases hb
theorem Own.prefix (h : Own e w base A n c xs) (m : Nat) (hm : m ≤ n) (hA : A ≠ none) : Own e w base A m c (xs.take m) := by
  have hl := h.len
  rcases h.2 with ⟨h1, _⟩ | ⟨g, cap, cur, h1, h2, h3, h4, h5, h6, h7⟩
  · injection h1 with h1
    exact absurd h1 hA
  · injection h1 with h1 _ h8
    subst h1 h8
    refine ⟨by simp; omega, .inr ⟨g, c, cur, rfl, h2, h3, by omega, h5, h6, ?_⟩⟩
    rw [List.map_take, ← h7, List.take_take, Nat.mul_one, Nat.mul_one, Nat.min_eq_left hm]
end

/-! ### the pool -/
/-- What lies in class i of the pool: list i itself, and whatever stands in the grown row at a place that is i when divided by n. -/
def Mem (n : Nat) (svs gvs : List Value) (i : Nat) (v : Value) : Prop := svs[i]? = some v ∨ ∃ k, gvs[k]? = some v ∧ k % n = i
/-- 'Each holds its class's marks, in a row of the call's own; what is of two classes shares no block.' -/
def Pool (e : TypeId) (w : World) (base : Nat) (M : Nat → Value → Prop) : Prop :=
  (∀ i v, M i v → ∃ A m c, v = .slice A m c ∧ Own e w base A m c (marks i m)) ∧
  ∀ i v i' v' b, M i v → M i' v' → Value.ownBlock v = some b → Value.ownBlock v' = some b → i = i'
/-- 'Nothing of the pool lies in this block.' -/
def Off (M : Nat → Value → Prop) (b : Nat) : Prop := ∀ i v, M i v → Value.ownBlock v ≠ some b

section
variable {e : TypeId} {w w' : World} {base : Nat} {M M' : Nat → Value → Prop}
theorem Pool.lt (h : Pool e w base M) {i : Nat} {v : Value} (hv : M i v) {b : Nat} (hb : Value.ownBlock v = some b) : base ≤ b ∧ b < w.heap.size := by
  obtain ⟨A, m, c, rfl, ho⟩ := h.1 i v hv
  rw [own_blk] at hb
  exact ho.lt b hb
theorem Pool.off_new (h : Pool e w base M) {b : Nat} (hb : w.heap.size ≤ b) : Off M b := fun i v hv e => by
  have := h.lt hv e
  omega
theorem Pool.kept (h : Pool e w base M) {row : Option Nat} (hg : w.grownBy w' row) (ho : ∀ b, row = some b → Off M b) : Pool e w' base M := by
  refine ⟨fun i v hv => ?_, h.2⟩
  obtain ⟨A, m, c, rfl, hw⟩ := h.1 i v hv
  refine ⟨A, m, c, rfl, hw.kept hg (fun b hb hr => ho b hr i _ hv ?_)⟩
  rw [own_blk, hb]
theorem Pool.below (h : Pool e w base M) (hb : Below w.heap.size w w') : Pool e w' base M := by
  refine ⟨fun i v hv => ?_, h.2⟩
  obtain ⟨A, m, c, rfl, hw⟩ := h.1 i v hv
  exact ⟨A, m, c, rfl, hw.below hb⟩
theorem Pool.drewN (h : Pool e w base M) (q : Nat) : Pool e (w.drewN q) base M := h
end

end Go.Proofs.Ytgccbghaibddcaa
