/- Entries in memory: a row of entries of four cells, read. No condition. -/
import Derived.Test.YtgccbghaibddcaaLists
import Derived.Test.YtgccbghaibddcaaVal
import Derived.OwnWalk
import Derived.Handy
namespace Go.Proofs.Ytgccbghaibddcaa
open Go Go.RowKit

/-- An entry as plain data. -/
structure En where
  key : List UInt8
  seq : Nat
  kind : Nat
  val : List UInt8
deriving DecidableEq
/-- 'A number of 64 bits without a sign.' -/
def U64 (n : Nat) : Prop := n < 18446744073709551616
/-- 'These four values are the entry e.' -/
def EV (w : World) (e : En) (v0 v1 v2 v3 : Value) : Prop :=
  v1 = .int .u64 (e.seq : Int) ∧ v2 = .int .u8 (e.kind : Int) ∧ U64 e.seq ∧ e.kind < 256 ∧ ElB w v0 e.key ∧ ElB w v3 e.val
def EVs (w : World) : List En → List Value → Prop
  | [], vs => vs = []
  | e :: es, vs => ∃ v0 v1 v2 v3 r, vs = v0 :: v1 :: v2 :: v3 :: r ∧ EV w e v0 v1 v2 v3 ∧ EVs w es r
/-- 'The slice of n entries at A reads as these.' -/
def REs (w : World) (A : Option Addr) (n : Nat) (es : List En) : Prop := es.length = n ∧ ∃ vs, EVs w es vs ∧ RdV w A (n * 4) vs

section
variable {w w' : World}
theorem EV.below {e : En} {v0 v1 v2 v3 : Value} (h : EV w e v0 v1 v2 v3) (hb : Below w.heap.size w w') : EV w' e v0 v1 v2 v3 := by
  obtain ⟨h1, h2, h3, h4, h5, h6⟩ := h
  exact ⟨h1, h2, h3, h4, h5.below hb, h6.below hb⟩
theorem EV.parts {e : En} {v0 v1 v2 v3 : Value} (h : EV w e v0 v1 v2 v3) : ∃ K kn kc V vn vc, v0 = .slice K kn kc ∧ v1 = .int .u64 (e.seq : Int) ∧ v2 = .int .u8 (e.kind : Int) ∧ v3 = .slice V vn vc ∧
    Rd w K kn e.key ∧ Rd w V vn e.val ∧ kn ≤ kc ∧ vn ≤ vc ∧ (K = none → kc = 0) ∧ (V = none → vc = 0) ∧ U64 e.seq ∧ e.kind < 256 := by
  obtain ⟨h1, h2, h3, h4, ⟨K, kn, kc, e0, r0, c0, d0⟩, ⟨V, vn, vc, e3, r3, c3, d3⟩⟩ := h
  exact ⟨K, kn, kc, V, vn, vc, e0, h1, h2, e3, r0, r3, c0, c3, d0, d3, h3, h4⟩
theorem EV.cells {e : En} {v0 v1 v2 v3 : Value} (h : EV w e v0 v1 v2 v3) : ∀ u ∈ [v0, v1, v2, v3], u.oneCell' = true := by
  obtain ⟨K, kn, kc, V, vn, vc, rfl, rfl, rfl, rfl, _⟩ := h.parts
  intro u hu
  simp only [List.mem_cons, List.not_mem_nil, or_false] at hu
  rcases hu with rfl | rfl | rfl | rfl <;> rfl
theorem EVs.below (hb : Below w.heap.size w w') : ∀ {es : List En} {vs : List Value}, EVs w es vs → EVs w' es vs
  | [], _, h => h
  | _ :: _, _, ⟨v0, v1, v2, v3, r, e, h1, h2⟩ => ⟨v0, v1, v2, v3, r, e, h1.below hb, EVs.below hb h2⟩
theorem EVs.len : ∀ {es : List En} {vs : List Value}, EVs w es vs → vs.length = es.length * 4
  | [], _, h => by rw [h]; rfl
  | _ :: _, _, ⟨v0, v1, v2, v3, r, e, h1, h2⟩ => by
    have := EVs.len h2
    rw [e]
    simp only [List.length_cons]
    omega
theorem EVs.one {e : En} {v0 v1 v2 v3 : Value} (h : EV w e v0 v1 v2 v3) : EVs w [e] [v0, v1, v2, v3] := ⟨v0, v1, v2, v3, [], rfl, h, rfl⟩
theorem EVs.take : ∀ {es : List En} {vs : List Value} (i : Nat), EVs w es vs → EVs w (es.take i) (vs.take (i * 4))
  | [], _, i, h => by rw [h]; simp [EVs]
  | _ :: _, _, 0, _ => by simp [EVs]
  | _ :: _, _, i + 1, ⟨v0, v1, v2, v3, r, e, h1, h2⟩ => ⟨v0, v1, v2, v3, r.take (i * 4), by rw [e, show (i + 1) * 4 = i * 4 + 4 by omega]; rfl, h1, EVs.take i h2⟩
theorem EVs.drop : ∀ {es : List En} {vs : List Value} (i : Nat), EVs w es vs → EVs w (es.drop i) (vs.drop (i * 4))
  | [], _, i, h => by rw [h]; simp [EVs]
  | _ :: _, _, 0, h => by simpa using h
  | _ :: _, _, i + 1, ⟨v0, v1, v2, v3, r, e, h1, h2⟩ => by
    have := EVs.drop i h2
    rw [e, show (i + 1) * 4 = i * 4 + 4 by omega]
    exact this
theorem EVs.at_ : ∀ {es : List En} {vs : List Value} (i : Nat) {e : En}, EVs w es vs → es[i]? = some e → ∃ v0 v1 v2 v3, vs[i * 4]? = some v0 ∧ vs[i * 4 + 1]? = some v1 ∧ vs[i * 4 + 2]? = some v2 ∧ vs[i * 4 + 3]? = some v3 ∧ EV w e v0 v1 v2 v3
  | [], _, i, e, _, h => by simp at h
  | g :: _, _, 0, e, ⟨v0, v1, v2, v3, r, q, h1, h2⟩, h => by
    simp only [List.getElem?_cons_zero, Option.some.injEq] at h
    subst h q
    exact ⟨v0, v1, v2, v3, rfl, rfl, rfl, rfl, h1⟩
  | _ :: _, _, i + 1, e, ⟨v0, v1, v2, v3, r, q, h1, h2⟩, h => by
    rw [List.getElem?_cons_succ] at h
    obtain ⟨a, b, c, d, e0, e1, e2, e3, e4⟩ := EVs.at_ i h2 h
    subst q
    refine ⟨a, b, c, d, ?_, ?_, ?_, ?_, e4⟩
    · rw [show (i + 1) * 4 = i * 4 + 4 by omega]; exact e0
    · rw [show (i + 1) * 4 + 1 = i * 4 + 1 + 4 by omega]; exact e1
    · rw [show (i + 1) * 4 + 2 = i * 4 + 2 + 4 by omega]; exact e2
    · rw [show (i + 1) * 4 + 3 = i * 4 + 3 + 4 by omega]; exact e3
theorem EVs.cells : ∀ {es : List En} {vs : List Value}, EVs w es vs → ∀ u ∈ vs, u.oneCell' = true
  | [], _, h, u, hu => by rw [h] at hu; cases hu
  | _ :: _, _, ⟨v0, v1, v2, v3, r, e, h1, h2⟩, u, hu => by
    subst e
    have hc := h1.cells
    simp only [List.mem_cons] at hu
    rcases hu with rfl | rfl | rfl | rfl | hu
    · exact hc _ (by simp)
    · exact hc _ (by simp)
    · exact hc _ (by simp)
    · exact hc _ (by simp)
    · exact EVs.cells h2 u hu
theorem REs.below {A : Option Addr} {n : Nat} {es : List En} (h : REs w A n es) (hb : Below w.heap.size w w') : REs w' A n es := by
  obtain ⟨h1, vs, h2, h3⟩ := h
  exact ⟨h1, vs, h2.below hb, h3.below hb⟩
theorem REs.drewN {A : Option Addr} {n : Nat} {es : List En} (h : REs w A n es) (q : Nat) : REs (w.drewN q) A n es := h.below (below_drewN (Below.refl _ _) q)
theorem REs.nil (w : World) (A : Option Addr) : REs w A 0 [] := ⟨rfl, [], rfl, RdV.nil _ _⟩
theorem REs.len {A : Option Addr} {n : Nat} {es : List En} (h : REs w A n es) : es.length = n := h.1
theorem REs.mk {A : Option Addr} {n : Nat} {es : List En} {vs : List Value} (h : EVs w es vs) (hr : RdV w A (n * 4) vs) (hn : es.length = n) : REs w A n es := ⟨hn, vs, h, hr⟩
theorem REs.pos {A : Option Addr} {n : Nat} {es : List En} (h : REs w A n es) (hn : 0 < n) : ∃ b off, A = some ⟨b, off, none⟩ ∧ b < w.heap.size := by
  obtain ⟨h1, vs, h2, h3⟩ := h
  exact h3.pos (by omega)
/-- An entry's cells. -/
theorem REs.at_ {b off n : Nat} {es : List En} (h : REs w (some ⟨b, off, none⟩) n es) (k : Nat) (hk : k < n) :
    ∃ e v0 v1 v2 v3, es[k]? = some e ∧ w.cell? ⟨b, off + k * 4, none⟩ = some v0 ∧ w.cell? ⟨b, off + k * 4 + 1, none⟩ = some v1 ∧
      w.cell? ⟨b, off + k * 4 + 2, none⟩ = some v2 ∧ w.cell? ⟨b, off + k * 4 + 3, none⟩ = some v3 ∧ EV w e v0 v1 v2 v3 := by
  obtain ⟨h1, vs, h2, h3⟩ := h
  obtain ⟨b', off', e, hb, hc⟩ := h3.2 (by omega)
  injection e with e
  injection e with e1 e2
  subst e1 e2
  obtain ⟨x, hx⟩ : ∃ x, es[k]? = some x := ⟨_, List.getElem?_eq_getElem (by omega)⟩
  obtain ⟨v0, v1, v2, v3, e0, e1, e2, e3, g0⟩ := h2.at_ k hx
  refine ⟨x, v0, v1, v2, v3, hx, hc _ _ e0, ?_, ?_, ?_, g0⟩
  · rw [Nat.add_assoc]; exact hc _ _ e1
  · rw [Nat.add_assoc]; exact hc _ _ e2
  · rw [Nat.add_assoc]; exact hc _ _ e3
theorem REs.wf {A : Option Addr} {n : Nat} {es : List En} (h : REs w A n es) : ∀ e ∈ es, U64 e.seq ∧ e.kind < 256 := by
  obtain ⟨h1, vs, h2, _⟩ := h
  intro e he
  obtain ⟨i, hi⟩ := List.mem_iff_getElem?.1 he
  obtain ⟨_, _, _, _, _, _, _, _, g⟩ := h2.at_ i hi
  exact ⟨g.2.2.1, g.2.2.2.1⟩
end

end Go.Proofs.Ytgccbghaibddcaa
