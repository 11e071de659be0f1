/- A tree's insertion against a list's. Plain mathematics. -/
import Derived.Test.YtheefpgokdejcaaMathE
import Derived.Test.YtheefpgokdejcaaEnF
import Derived.Test.YtheefpgokdejcaaTrD
namespace Go.Proofs.Ytheefpgokdejcaa
open Go Go.RowKit

def SortL (l : List En) : Prop := l.Pairwise (fun a b => lessE a b = true)
theorem posI_app {p q : List En} {x : En} (h1 : ∀ y ∈ p, lessE x y = false) (h2 : ∀ y ∈ q, lessE x y = true) : ∀ j, j ≤ q.length → posI (p ++ q) x (p.length + j) = p.length
  | 0, _ => by
    rw [Nat.add_zero]
    cases hp : p.length with
    | zero => rfl
    | succ m =>
      have hm : m < p.length := by omega
      have e : (p ++ q)[m]? = some (p[m]'hm) := by rw [List.getElem?_append_left hm, List.getElem?_eq_getElem hm]
      rw [posI, e]
      simp only
      rw [h1 _ (List.getElem_mem hm)]
      rfl
  | j + 1, h => by
    have hj : j < q.length := by omega
    have e : (p ++ q)[p.length + j]? = some (q[j]'hj) := by rw [List.getElem?_append_right (by omega), Nat.add_sub_cancel_left, List.getElem?_eq_getElem hj]
    rw [← Nat.add_assoc, posI, e]
    simp only
    rw [h2 _ (List.getElem_mem hj)]
    exact posI_app h1 h2 j (by omega)
theorem insL_app {p q : List En} {x : En} (h1 : ∀ y ∈ p, lessE x y = false) (h2 : ∀ y ∈ q, lessE x y = true) : insL (p ++ q) x = p ++ x :: q := by
  have h := posI_app h1 h2 q.length (Nat.le_refl _)
  unfold insL
  rw [List.length_append, h]
  simp
theorem withT_list {x : En} : ∀ {t t' : Tr}, SortL t.list → withT x t = some t' → ∃ p q, t.list = p ++ q ∧ t'.list = p ++ x :: q ∧ (∀ y ∈ p, lessE y x = true) ∧ (∀ y ∈ q, lessE x y = true)
  | .nil, t', _, h => by
    unfold withT at h
    injection h with h
    subst h
    exact ⟨[], [], rfl, rfl, (fun y hy => by cases hy), fun y hy => by cases hy⟩
  | .node l e r, t', hs, h => by
    have hs' : SortL (l.list ++ e :: r.list) := hs
    obtain ⟨sl, sr, slr⟩ := List.pairwise_append.1 hs'
    obtain ⟨er, srr⟩ := List.pairwise_cons.1 sr
    unfold withT at h
    split at h
    · next hx =>
      cases hw : withT x l with
      | none => rw [hw] at h; cases h
      | some l' =>
        rw [hw] at h
        injection h with h
        obtain ⟨p, q, e1, e2, h1, h2⟩ := withT_list sl hw
        subst h
        refine ⟨p, q ++ e :: r.list, by rw [Tr.list, e1, List.append_assoc], by rw [balT_list, e2]; simp, h1, fun y hy => ?_⟩
        rcases List.mem_append.1 hy with m | m
        · exact h2 y m
        · rcases List.mem_cons.1 m with rfl | m
          · exact hx
          · exact lessE_trans hx (er y m)
    · split at h
      · next hx =>
        cases hw : withT x r with
        | none => rw [hw] at h; cases h
        | some r' =>
          rw [hw] at h
          injection h with h
          obtain ⟨p, q, e1, e2, h1, h2⟩ := withT_list srr hw
          subst h
          refine ⟨l.list ++ e :: p, q, by rw [Tr.list, e1]; simp, by rw [balT_list, e2]; simp, fun y hy => ?_, h2⟩
          rcases List.mem_append.1 hy with m | m
          · exact lessE_trans (slr y m e (by simp)) hx
          · rcases List.mem_cons.1 m with rfl | m
            · exact hx
            · exact h1 y m
      · cases h
theorem withT_none {x : En} : ∀ {t : Tr}, withT x t = none → inL t.list x = true
  | .nil, h => by unfold withT at h; cases h
  | .node l e r, h => by
    unfold withT at h
    unfold inL
    rw [Tr.list, List.any_append, List.any_cons]
    split at h
    · cases hw : withT x l with
      | none => have := withT_none hw; unfold inL at this; rw [this]; rfl
      | some l' => rw [hw] at h; cases h
    · next h1 =>
      split at h
      · cases hw : withT x r with
        | none => have := withT_none hw; unfold inL at this; rw [this]; simp
        | some r' => rw [hw] at h; cases h
      · next h2 =>
        rcases lessE_tri e x with q | q | q
        · exact absurd q h2
        · exact absurd q h1
        · rw [q]; simp
/-- An insertion that goes well: the list's, and the entry wasn't there. -/
theorem withT_ins {x : En} {t t' : Tr} (hs : SortL t.list) (h : withT x t = some t') : t'.list = insL t.list x ∧ inL t.list x = false ∧ SortL t'.list := by
  obtain ⟨p, q, e1, e2, h1, h2⟩ := withT_list hs h
  have hp : ∀ y ∈ p, lessE x y = false := fun y hy => lessE_asym (h1 y hy)
  refine ⟨by rw [e1, e2, insL_app hp h2], ?_, ?_⟩
  · rw [e1]
    unfold inL
    rw [List.any_eq_false]
    intro y hy k
    obtain ⟨k1, k2⟩ := sameK_not k
    rcases List.mem_append.1 hy with m | m
    · rw [h1 y m] at k1; cases k1
    · rw [h2 y m] at k2; cases k2
  · rw [e2]
    rw [e1] at hs
    obtain ⟨s1, s2, s3⟩ := List.pairwise_append.1 hs
    refine List.pairwise_append.2 ⟨s1, List.pairwise_cons.2 ⟨h2, s2⟩, fun a ha b hb => ?_⟩
    rcases List.mem_cons.1 hb with rfl | m
    · exact h1 a ha
    · exact s3 a ha b m
end Go.Proofs.Ytheefpgokdejcaa
