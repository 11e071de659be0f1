/- From the rows' own words on a list of entries that came in to the words of the walks. No condition. -/
import Derived.Test.YtmpdenpopokigaaOpenF
import Derived.Test.YtmpdenpopokigaaEnB
namespace Go.Proofs.Ytmpdenpopokigaa
open Go Go.RowKit Go.Deep Go.ChangeShapes Go.WideShapes Go.ChangeAt

theorem REs.of_at {w : World} {b : Nat} : ∀ (es : List En) (off : Nat), (∀ k e, es[k]? = some e → ∃ v0 v1 v2 v3, w.cell? ⟨b, off + k * 4, none⟩ = some v0 ∧ w.cell? ⟨b, off + k * 4 + 1, none⟩ = some v1 ∧ w.cell? ⟨b, off + k * 4 + 2, none⟩ = some v2 ∧ w.cell? ⟨b, off + k * 4 + 3, none⟩ = some v3 ∧ EV w e v0 v1 v2 v3) →
    ∃ vs, EVs w es vs ∧ ∀ (i : Nat) v, vs[i]? = some v → w.cell? ⟨b, off + i, none⟩ = some v
  | [], off, _ => ⟨[], rfl, fun i v h => by simp at h⟩
  | e :: es, off, h => by
    obtain ⟨v0, v1, v2, v3, c0, c1, c2, c3, hev⟩ := h 0 e rfl
    obtain ⟨vs, h1, h2⟩ := REs.of_at es (off + 4) (fun k x hk => by
      obtain ⟨u0, u1, u2, u3, d0, d1, d2, d3, hew⟩ := h (k + 1) x (by simpa using hk)
      have e0 : off + (k + 1) * 4 = off + 4 + k * 4 := by omega
      rw [e0] at d0 d1 d2 d3
      exact ⟨u0, u1, u2, u3, d0, d1, d2, d3, hew⟩)
    refine ⟨v0 :: v1 :: v2 :: v3 :: vs, ⟨v0, v1, v2, v3, vs, rfl, hev, h1⟩, fun i v hi => ?_⟩
    match i, hi with
    | 0, hi => simp at hi; subst hi; simpa using c0
    | 1, hi => simp at hi; subst hi; simpa using c1
    | 2, hi => simp at hi; subst hi; simpa using c2
    | 3, hi => simp at hi; subst hi; simpa using c3
    | i + 4, hi =>
      have := h2 i v (by simpa using hi)
      rw [show off + (i + 4) = off + 4 + i by omega]
      exact this
theorem wf_u64 {z : Int} (h : (Lit.int .u64 z).wf = true) : z = (z.toNat : Int) ∧ U64 z.toNat := by
  unfold U64
  simp [Lit.wf] at h
  have h1 : IntKind.u64.min = 0 := rfl
  have h2 : IntKind.u64.max = 18446744073709551615 := rfl
  omega
end Go.Proofs.Ytmpdenpopokigaa
