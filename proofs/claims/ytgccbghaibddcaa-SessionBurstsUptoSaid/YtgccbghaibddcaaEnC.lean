/- Entries that the call has made: a row of them, appended onto one by one; Twins. No condition but sizes. -/
import Derived.Test.YtgccbghaibddcaaEnB
import Derived.Test.YtgccbghaibddcaaFam
import Derived.Test.YtgccbghaibddcaaPool
namespace Go.Proofs.Ytgccbghaibddcaa
open Go Go.RowKit

/-- 'These four values are the entry e, whose bytes are the call's own.' -/
def EO (base : Nat) (w : World) (e : En) (v0 v1 v2 v3 : Value) : Prop :=
  ∃ K kn kc V vn vc, v0 = .slice K kn kc ∧ v1 = .int .u64 (e.seq : Int) ∧ v2 = .int .u8 (e.kind : Int) ∧ v3 = .slice V vn vc ∧ Own 5 w base K kn kc e.key ∧ Own 5 w base V vn vc e.val ∧ U64 e.seq ∧ e.kind < 256
def EOs (base : Nat) (w : World) : List En → List Value → Prop
  | [], vs => vs = []
  | e :: es, vs => ∃ v0 v1 v2 v3 r, vs = v0 :: v1 :: v2 :: v3 :: r ∧ EO base w e v0 v1 v2 v3 ∧ EOs base w es r
/-- 'None of these slices lies in that block.' -/
def OffW (vs : List Value) (b : Option Nat) : Prop := ∀ g, b = some g → ∀ A m c, Value.slice A m c ∈ vs → blk A ≠ some g
theorem OffW.none (vs : List Value) : OffW vs none := fun g hg => by cases hg
theorem OffW.nil (o : Option Nat) : OffW [] o := fun g _ A m c h => by cases h
section
variable {base : Nat} {w w' : World} {e : En} {es : List En} {v0 v1 v2 v3 : Value} {vs : List Value}
theorem elb_own {n c : Nat} {A : Option Addr} {xs : List UInt8} (h : Own 5 w base A n c xs) : ElB w (.slice A n c) xs :=
  ⟨A, n, c, rfl, h.rd, h.cap.1, fun hA => (h.nil_of (by rw [hA]; rfl)).2.2⟩
theorem EO.ev (h : EO base w e v0 v1 v2 v3) : EV w e v0 v1 v2 v3 := by
  obtain ⟨K, kn, kc, V, vn, vc, rfl, rfl, rfl, rfl, h1, h2, h3, h4⟩ := h
  exact ⟨rfl, rfl, h3, h4, elb_own h1, elb_own h2⟩
theorem EO.below (h : EO base w e v0 v1 v2 v3) (hb : Below w.heap.size w w') : EO base w' e v0 v1 v2 v3 := by
  obtain ⟨K, kn, kc, V, vn, vc, h0, h1, h2, h3, h4, h5, h6⟩ := h
  exact ⟨K, kn, kc, V, vn, vc, h0, h1, h2, h3, h4.below hb, h5.below hb, h6⟩
theorem EO.mono {base' : Nat} (h : EO base w e v0 v1 v2 v3) (hb : base' ≤ base) : EO base' w e v0 v1 v2 v3 := by
  obtain ⟨K, kn, kc, V, vn, vc, h0, h1, h2, h3, h4, h5, h6⟩ := h
  exact ⟨K, kn, kc, V, vn, vc, h0, h1, h2, h3, h4.mono hb, h5.mono hb, h6⟩
theorem EO.kept {row : Option Nat} (h : EO base w e v0 v1 v2 v3) (hg : w.grownBy w' row) (ho : OffW [v0, v1, v2, v3] row) : EO base w' e v0 v1 v2 v3 := by
  obtain ⟨K, kn, kc, V, vn, vc, rfl, rfl, rfl, rfl, h4, h5, h6⟩ := h
  exact ⟨K, kn, kc, V, vn, vc, rfl, rfl, rfl, rfl, h4.kept hg (fun b hb he => ho b he K kn kc (by simp) hb), h5.kept hg (fun b hb he => ho b he V vn vc (by simp) hb), h6⟩
/-- The blocks of an entry's slices. -/
theorem EO.lt (h : EO base w e v0 v1 v2 v3) {A : Option Addr} {m c g : Nat} (hv : Value.slice A m c ∈ [v0, v1, v2, v3]) (hg : blk A = some g) : base ≤ g ∧ g < w.heap.size := by
  obtain ⟨K, kn, kc, V, vn, vc, rfl, rfl, rfl, rfl, h4, h5, h6⟩ := h
  simp only [List.mem_cons, List.not_mem_nil, or_false] at hv
  rcases hv with e | e | e | e
  · injection e with e1 e2 e3; subst e1; exact h4.lt g hg
  · cases e
  · cases e
  · injection e with e1 e2 e3; subst e1; exact h5.lt g hg
theorem EO.off (h : EO base w e v0 v1 v2 v3) {o : Option Nat} (ho : ∀ g, o = some g → g < base ∨ w.heap.size ≤ g) : OffW [v0, v1, v2, v3] o := fun g hg A m c hv he => by
  have h1 := h.lt hv he
  rcases ho g hg with h2 | h2 <;> omega
theorem EOs.below (hb : Below w.heap.size w w') : ∀ {es : List En} {vs : List Value}, EOs base w es vs → EOs base w' es vs
  | [], _, h => h
  | _ :: _, _, ⟨v0, v1, v2, v3, r, e, h1, h2⟩ => ⟨v0, v1, v2, v3, r, e, h1.below hb, EOs.below hb h2⟩
theorem EOs.mono {base' : Nat} (hb : base' ≤ base) : ∀ {es : List En} {vs : List Value}, EOs base w es vs → EOs base' w es vs
  | [], _, h => h
  | _ :: _, _, ⟨v0, v1, v2, v3, r, e, h1, h2⟩ => ⟨v0, v1, v2, v3, r, e, h1.mono hb, EOs.mono hb h2⟩
theorem EOs.one (h : EO base w e v0 v1 v2 v3) : EOs base w [e] [v0, v1, v2, v3] := ⟨v0, v1, v2, v3, [], rfl, h, rfl⟩
theorem EOs.kept {row : Option Nat} (hg : w.grownBy w' row) : ∀ {es : List En} {vs : List Value}, EOs base w es vs → OffW vs row → EOs base w' es vs
  | [], _, h, _ => h
  | _ :: _, _, ⟨v0, v1, v2, v3, r, e, h1, h2⟩, ho => ⟨v0, v1, v2, v3, r, e, h1.kept hg (fun g hg2 A m c hv => ho g hg2 A m c (by rw [e]; simp at hv ⊢; rcases hv with h | h | h | h <;> simp [h])), EOs.kept hg h2 (fun g hg2 A m c hv => ho g hg2 A m c (by rw [e]; simp [hv]))⟩
theorem EOs.lt : ∀ {es : List En} {vs : List Value}, EOs base w es vs → ∀ {A : Option Addr} {m c g : Nat}, Value.slice A m c ∈ vs → blk A = some g → base ≤ g ∧ g < w.heap.size
  | [], _, h, _, _, _, _, hv, _ => by rw [h] at hv; cases hv
  | _ :: _, _, ⟨v0, v1, v2, v3, r, e, h1, h2⟩, A, m, c, g, hv, hg => by
    rw [e] at hv
    have hv2 : Value.slice A m c ∈ [v0, v1, v2, v3] ∨ Value.slice A m c ∈ r := by
      simp only [List.mem_cons, List.not_mem_nil, or_false] at hv ⊢
      rcases hv with h | h | h | h | h
      · exact .inl (.inl h)
      · exact .inl (.inr (.inl h))
      · exact .inl (.inr (.inr (.inl h)))
      · exact .inl (.inr (.inr (.inr h)))
      · exact .inr h
    rcases hv2 with h | h
    · exact h1.lt h hg
    · exact EOs.lt h2 h hg
end
section
variable {w w' : World} {base n c : Nat} {A : Option Addr} {vs : List Value}
end
section
variable {W wr w4 U : World} {base i d d' : Nat} {L L' : Option Addr} {es : List En} {e : En} {v0 v1 v2 v3 : Value} {vs : List Value}
end
section
variable {w : World} {A : Option Addr} {n c : Nat} {es : List En}
end
end Go.Proofs.Ytgccbghaibddcaa
