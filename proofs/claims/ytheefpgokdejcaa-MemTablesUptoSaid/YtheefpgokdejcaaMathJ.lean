/- A tree's Put of many against a list's. Plain mathematics. -/
import Derived.Test.YtheefpgokdejcaaMathG
namespace Go.Proofs.Ytheefpgokdejcaa
open Go Go.RowKit

/-- The reference's PutAll, of entries in form. -/
def refIns : List En → List En → Option (List En)
  | l, [] => some l
  | l, x :: xs => if inL l x then none else refIns (insL l x) xs
theorem insAll_ref : ∀ (xs : List En) {t : Tr}, SortL t.list → (∀ t', insAll t xs = some t' → refIns t.list xs = some t'.list ∧ SortL t'.list) ∧ (insAll t xs = none → refIns t.list xs = none)
  | [], t, hs => by
    refine ⟨fun t' h => ?_, fun h => ?_⟩
    · injection h with h
      subst h
      exact ⟨rfl, hs⟩
    · cases h
  | x :: xs, t, hs => by
    unfold insAll refIns
    cases hw : withT x t with
    | none =>
      refine ⟨fun t' h => (by cases h), fun _ => ?_⟩
      rw [withT_none hw]
      rfl
    | some t1 =>
      obtain ⟨e1, e2, e3⟩ := withT_ins hs hw
      obtain ⟨h1, h2⟩ := insAll_ref xs e3
      rw [e2, ← e1]
      exact ⟨fun t' h => h1 t' h, fun h => h2 h⟩
theorem insL_len (l : List En) (x : En) : (insL l x).length = l.length + 1 := by
  have := posI_le l x l.length
  unfold insL
  rw [List.length_append, List.length_cons, List.length_take, List.length_drop]
  omega
theorem num_list : ∀ t : Tr, t.num = t.list.length
  | .nil => rfl
  | .node l e r => by
    rw [Tr.num, Tr.list, List.length_append, List.length_cons, num_list l, num_list r]
    omega
theorem sortL_nil : SortL Tr.nil.list := List.Pairwise.nil
end Go.Proofs.Ytheefpgokdejcaa
