/- More on families: a row of many slices appended to a row; one of a family turned; what Apart asks. How much the parts of a frame hold. -/
import Derived.Test.YtlnpicfkcahdbaaFamC
import Derived.Test.YtlnpicfkcahdbaaApart
import Derived.Test.YtlnpicfkcahdbaaKept
import Derived.BigFrame
namespace Go.Proofs.Ytlnpicfkcahdbaa
open Go Go.RowKit

section
variable {w w' : World} {base : Nat} {a b ps : List VB}
theorem Fam.turn {g N : Nat} {xs ys : List UInt8} (h : Fam w base (a ++ ((.slice (some ⟨g, 0, none⟩) N N, xs) :: b))) (ho : Own 5 w' base (some ⟨g, 0, none⟩) N N ys) (hg : w.grownBy w' (some g)) :
    Fam w' base (a ++ ((.slice (some ⟨g, 0, none⟩) N N, ys) :: b)) := by
  obtain ⟨h1, h2⟩ := h
  rw [List.pairwise_append, List.pairwise_cons] at h2
  obtain ⟨p1, ⟨p2, p3⟩, p4⟩ := h2
  have key : ∀ p, (p ∈ a ∨ p ∈ b) → ∃ A m c, p.1 = .slice A m c ∧ Own 5 w' base A m c p.2 := fun p hp => by
    obtain ⟨A, m, c, e, ho⟩ := h1 p (by rcases hp with hp | hp <;> simp [hp])
    refine ⟨A, m, c, e, ho.kept hg (fun k hk e2 => ?_)⟩
    injection e2 with e2
    subst e2
    rcases hp with hp | hp
    · exact p4 p hp _ (List.mem_cons_self ..) g (by rw [e, own_blk]; exact hk) rfl
    · exact p2 p hp g rfl (by rw [e, own_blk]; exact hk)
  refine ⟨fun p hp => ?_, ?_⟩
  · simp only [List.mem_append, List.mem_cons] at hp
    rcases hp with hp | rfl | hp
    · exact key p (.inl hp)
    · exact ⟨_, _, _, rfl, ho⟩
    · exact key p (.inr hp)
  · rw [List.pairwise_append, List.pairwise_cons]
    exact ⟨p1, ⟨fun q hq => p2 q hq, p3⟩, fun x hx y hy => by
      rcases List.mem_cons.1 hy with rfl | hy
      · exact fun k e1 e2 => p4 x hx _ (List.mem_cons_self ..) k e1 e2
      · exact p4 x hx y (List.mem_cons_of_mem _ hy)⟩
theorem Fam.pre (h : Fam w base ps) : Pre w base (ps.map (·.1)) (fun _ _ _ => True) := fun i v hv => by
  rw [List.getElem?_map] at hv
  cases hp : ps[i]? with
  | none => rw [hp] at hv; cases hv
  | some p =>
    rw [hp] at hv
    injection hv with hv
    subst hv
    obtain ⟨A, m, c, e, ho⟩ := h.1 p (List.mem_of_getElem? hp)
    exact ⟨A, m, c, p.2, e, ho, trivial⟩
theorem Fam.dis (h : Fam w base ps) : DisS (ps.map (·.1)) := fun i v i' v' k h1 h2 e1 e2 => by
  rw [List.getElem?_map] at h1 h2
  cases hp : ps[i]? with
  | none => rw [hp] at h1; cases h1
  | some p =>
    cases hq : ps[i']? with
    | none => rw [hq] at h2; cases h2
    | some q =>
      rw [hp] at h1
      rw [hq] at h2
      injection h1 with h1
      injection h2 with h2
      subst h1 h2
      obtain ⟨li, ep⟩ := List.getElem?_eq_some_iff.1 hp
      obtain ⟨lj, eq⟩ := List.getElem?_eq_some_iff.1 hq
      have hpw := List.pairwise_iff_getElem.1 h.2
      rcases Nat.lt_trichotomy i i' with hlt | hlt | hlt
      · exact absurd e2 (by have := hpw i i' li lj hlt k; rw [ep, eq] at this; exact this e1)
      · exact hlt
      · exact absurd e1 (by have := hpw i' i lj li hlt k; rw [ep, eq] at this; exact this e2)
theorem Fam.small (h : Fam w base ps) {M : Nat} (hM : ∀ p ∈ ps, p.2.length ≤ M) : ∀ (i : Nat) (A : Option Addr) (m c : Nat), (ps.map (·.1))[i]? = some (Value.slice A m c) → m ≤ M := fun i A m c hv => by
  rw [List.getElem?_map] at hv
  cases hp : ps[i]? with
  | none => rw [hp] at hv; cases hv
  | some p =>
    rw [hp] at hv
    injection hv with hv
    obtain ⟨A', m', c', e, ho⟩ := h.1 p (List.mem_of_getElem? hp)
    have hv' : p.1 = Value.slice A m c := hv
    rw [hv'] at e
    injection e with _ e
    subst e
    rw [← ho.len]
    exact hM p (List.mem_of_getElem? hp)
theorem OffF.map {k : Nat} (h : OffF ps k) : ∀ (i : Nat) (v : Value), (ps.map (·.1))[i]? = some v → Value.ownBlock v ≠ some k := fun i v hv => by
  rw [List.getElem?_map] at hv
  cases hp : ps[i]? with
  | none => rw [hp] at hv; cases hv
  | some p =>
    rw [hp] at hv
    injection hv with hv
    subst hv
    exact h p (List.mem_of_getElem? hp)
end

end Go.Proofs.Ytlnpicfkcahdbaa
