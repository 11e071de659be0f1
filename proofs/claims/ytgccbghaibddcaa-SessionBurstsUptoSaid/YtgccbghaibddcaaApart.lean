/- The reference's Apart returns true for lists that share no memory, each in a row of the call's own. -/
import Derived.Test.YtgccbghaibddcaaStage
import Derived.Test.YtgccbghaibddcaaNext
import Derived.Deep.RegionHeld3
import Derived.IntWalk
namespace Go.Proofs.Ytgccbghaibddcaa
open Go Go.RowKit

/-- 'Each of these slices is a row of the call's own, and p holds of what it holds.' -/
def Pre (w : World) (base : Nat) (svs : List Value) (p : Nat → Nat → List UInt8 → Prop) : Prop := ∀ (i : Nat) (v : Value), svs[i]? = some v → ∃ A m c xs, v = .slice A m c ∧ Own 5 w base A m c xs ∧ p i m xs
def DisS (svs : List Value) : Prop := ∀ (i : Nat) (v : Value) (i' : Nat) (v' : Value) (b : Nat), svs[i]? = some v → svs[i']? = some v' → Value.ownBlock v = some b → Value.ownBlock v' = some b → i = i'
theorem Pre.set {w : World} {base : Nat} {svs : List Value} {p p' : Nat → Nat → List UInt8 → Prop} (h : Pre w base svs p) (hd : DisS svs) {i g m c : Nat} (hi : svs[i]? = some (.slice (some ⟨g, 0, none⟩) m c)) (j : Nat) (x : UInt8) (z : Int) (hz : z = (x.toNat : Int))
    (hp : ∀ xs, xs.length = m → p i m xs → p' i m (xs.set j x)) (hq : ∀ i' m' xs, i' ≠ i → p i' m' xs → p' i' m' xs) : Pre (w.setCell ⟨g, j, none⟩ (.int .u8 z)) base svs p' := by
  intro i' v hv
  obtain ⟨A, m', c', xs, rfl, ho, hx⟩ := h i' v hv
  by_cases e : i' = i
  · subst e
    rw [hi] at hv
    injection hv with hv
    injection hv with e1 e2 e3
    subst e1 e2 e3
    exact ⟨_, _, _, _, rfl, ho.set_ j x z hz, hp _ ho.len hx⟩
  · refine ⟨A, m', c', xs, rfl, ?_, hq i' m' xs e hx⟩
    obtain ⟨A0, m0, c0, xs0, e0, ho0, _⟩ := h i _ hi
    injection e0 with e1 e2 e3
    subst e1 e2 e3
    refine ho.kept (World.ownsRow.stored ho0 j (.int .u8 z)).2 (fun b hb hg => e ?_)
    injection hg with hg
    subst hg
    exact hd i' _ i _ g hv hi (by rw [own_blk]; exact hb) rfl

end Go.Proofs.Ytgccbghaibddcaa
