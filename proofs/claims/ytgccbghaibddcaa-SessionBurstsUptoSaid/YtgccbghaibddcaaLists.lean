/- Words for a list of lists of bytes in memory: read, and made by the call itself; appends onto it. No condition. -/
import Derived.Test.YtgccbghaibddcaaNext
namespace Go.Proofs.Ytgccbghaibddcaa
open Go Go.RowKit

/-- 'This value is a slice that reads as xs.' -/
def ElB (w : World) (v : Value) (xs : List UInt8) : Prop := ∃ A n c, v = .slice A n c ∧ Rd w A n xs ∧ n ≤ c ∧ (A = none → c = 0)

/-- 'The slice at A of length n reads as these lists.' -/
def RdL (w : World) (A : Option Addr) (n : Nat) (xss : List (List UInt8)) : Prop :=
  xss.length = n ∧ (0 < n → ∃ b off, A = some ⟨b, off, none⟩ ∧ b < w.heap.size ∧ ∀ (i : Nat) xs, xss[i]? = some xs → ∃ v, w.cell? ⟨b, off + i, none⟩ = some v ∧ ElB w v xs)

section
variable {w w' : World} {A : Option Addr} {n : Nat} {xss : List (List UInt8)}
theorem ElB.below {v : Value} {xs : List UInt8} (h : ElB w v xs) (hb : Below w.heap.size w w') : ElB w' v xs := by
  obtain ⟨A, n, c, h1, h2, h3⟩ := h
  exact ⟨A, n, c, h1, h2.below hb, h3⟩
theorem RdL.len (h : RdL w A n xss) : xss.length = n := h.1
theorem RdL.nil (w : World) (A : Option Addr) : RdL w A 0 [] := ⟨rfl, fun h => absurd h (by omega)⟩
theorem RdL.pos (h : RdL w A n xss) (hn : 0 < n) : ∃ b off, A = some ⟨b, off, none⟩ ∧ b < w.heap.size := by
  obtain ⟨b, off, h1, h2, _⟩ := h.2 hn
  exact ⟨b, off, h1, h2⟩
theorem RdL.at_ {b off : Nat} (h : RdL w (some ⟨b, off, none⟩) n xss) (k : Nat) (hk : k < n) :
    ∃ xs A' n' c', xss[k]? = some xs ∧ w.cell? ⟨b, off + k, none⟩ = some (.slice A' n' c') ∧ Rd w A' n' xs ∧ n' ≤ c' ∧ (A' = none → c' = 0) := by
  obtain ⟨b', off', h1, _, h3⟩ := h.2 (by omega)
  have hl : k < xss.length := by have := h.1; omega
  injection h1 with h1
  injection h1 with h1 h2
  subst h1 h2
  obtain ⟨v, hv, A', n', c', rfl, h4, h5, h6⟩ := h3 k _ (List.getElem?_eq_getElem hl)
  exact ⟨xss[k], A', n', c', List.getElem?_eq_getElem hl, hv, h4, h5, h6⟩
theorem RdL.below (h : RdL w A n xss) (hb : Below w.heap.size w w') : RdL w' A n xss := by
  refine ⟨h.1, fun hn => ?_⟩
  obtain ⟨b, off, h1, h2, h3⟩ := h.2 hn
  refine ⟨b, off, h1, Nat.lt_of_lt_of_le h2 hb.size, fun i x hx => ?_⟩
  obtain ⟨v, hv, he⟩ := h3 i x hx
  exact ⟨v, (hb.cell (p := ⟨b, off + i, none⟩) h2).trans hv, he.below hb⟩
theorem RdL.drewN (h : RdL w A n xss) (q : Nat) : RdL (w.drewN q) A n xss := h
end

/-- How much the lists hold: each list counts one more than its length. -/
def tot : List (List UInt8) → Nat
  | [] => 0
  | x :: r => x.length + 1 + tot r
theorem tot_append : ∀ a b : List (List UInt8), tot (a ++ b) = tot a + tot b
  | [], b => by simp [tot]
  | x :: a, b => by simp only [List.cons_append, tot, tot_append a b]; omega
theorem tot_take (l : List (List UInt8)) (k : Nat) : tot (l.take k) ≤ tot l := by
  have h := tot_append (l.take k) (l.drop k)
  rw [List.take_append_drop] at h
  omega
theorem tot_snoc {l : List (List UInt8)} {k : Nat} {x : List UInt8} (h : l[k]? = some x) : tot (l.take (k + 1)) = tot (l.take k) + x.length + 1 := by
  rw [List.take_add_one, h, tot_append]
  simp [tot]
  omega
theorem tot_at {l : List (List UInt8)} {k : Nat} {x : List UInt8} (h : l[k]? = some x) : x.length + 1 ≤ tot l := by
  have h1 := tot_snoc h
  have h2 := tot_take l (k + 1)
  omega
theorem tot_len : ∀ l : List (List UInt8), l.length ≤ tot l
  | [] => by simp
  | x :: r => by have := tot_len r; simp only [List.length_cons, tot]; omega

/-- 'The slice at A, of length n and capacity c, is the call's own row of slices (of element type t) that read as these lists; none of them lies in the row.' -/
def OwnL (t : TypeId) (w : World) (base : Nat) (A : Option Addr) (n c : Nat) (xss : List (List UInt8)) : Prop :=
  ∃ vs : List Value, w.ownsRow base t 1 (.slice A n c) n vs ∧ xss.length = n ∧ ∀ (i : Nat) xs, xss[i]? = some xs → ∃ A' n' c', vs[i]? = some (Value.slice A' n' c') ∧ Rd w A' n' xs ∧ n' ≤ c' ∧ (A' = none → c' = 0) ∧
    ∀ b off, A' = some ⟨b, off, none⟩ → b < w.heap.size ∧ Value.ownBlock (.slice A n c) ≠ some b

section
variable {t : TypeId} {w w' : World} {base n c : Nat} {A : Option Addr} {xss : List (List UInt8)}
theorem OwnL.len (h : OwnL t w base A n c xss) : xss.length = n := by obtain ⟨_, _, h, _⟩ := h; exact h
theorem OwnL.nil (t : TypeId) (w : World) (base : Nat) : OwnL t w base none 0 0 [] := ⟨[], World.ownsRow_nil _ _ _ _, rfl, fun i xs h => by simp at h⟩
theorem OwnL.cap (h : OwnL t w base A n c xss) : n ≤ c ∧ c ≤ maxLen := by
  obtain ⟨vs, h, _⟩ := h
  rcases h.2 with ⟨h1, h2⟩ | ⟨g, cap, cur, h1, _, _, h2, h3, _⟩
  · injection h1 with h1 h2 h3
    subst h2 h3
    unfold maxLen
    omega
  · injection h1 with _ _ h4
    subst h4
    exact ⟨h2, h3⟩
theorem OwnL.rd (h : OwnL t w base A n c xss) : RdL w A n xss := by
  obtain ⟨vs, h1, h2, h3⟩ := h
  refine ⟨h2, fun hn => ?_⟩
  rcases h1.2 with ⟨_, h4⟩ | ⟨g, cap, cur, h4, _, hg, _⟩
  · omega
  · injection h4 with h4
    subst h4
    refine ⟨g, 0, rfl, (Array.getElem?_eq_some_iff.1 hg).1, fun i xs hx => ?_⟩
    obtain ⟨A', n', c', hv, hr, hc, hn', _⟩ := h3 i xs hx
    have := World.ownsRow.cells h1 (g := g) rfl i _ hv
    exact ⟨_, by simpa [Addr.add_lit] using this, A', n', c', rfl, hr, hc, hn'⟩
theorem OwnL.below (h : OwnL t w base A n c xss) (hb : Below w.heap.size w w') : OwnL t w' base A n c xss := by
  obtain ⟨vs, h1, h2, h3⟩ := h
  refine ⟨vs, ⟨h1.1, ?_⟩, h2, fun i xs hx => ?_⟩
  · rcases h1.2 with h4 | ⟨g, cap, cur, h4, h5, h6, h7⟩
    · exact .inl h4
    · exact .inr ⟨g, cap, cur, h4, h5, (hb.block g (Array.getElem?_eq_some_iff.1 h6).1).trans h6, h7⟩
  · obtain ⟨A', n', c', hv, hr, hc, hn', ho⟩ := h3 i xs hx
    exact ⟨A', n', c', hv, hr.below hb, hc, hn', fun b off e => ⟨Nat.lt_of_lt_of_le (ho b off e).1 hb.size, (ho b off e).2⟩⟩
theorem OwnL.mono {base' : Nat} (h : OwnL t w base A n c xss) (hb : base' ≤ base) : OwnL t w base' A n c xss := by
  obtain ⟨vs, h1, h2⟩ := h
  refine ⟨vs, ⟨h1.1, ?_⟩, h2⟩
  rcases h1.2 with h4 | ⟨g, cap, cur, h4, h5, h6⟩
  · exact .inl h4
  · exact .inr ⟨g, cap, cur, h4, by omega, h6⟩
end

end Go.Proofs.Ytgccbghaibddcaa
