/- A tree's Range against a list's. Plain mathematics. -/
import Derived.Test.YtheefpgokdejcaaMathH
import Derived.Test.YtheefpgokdejcaaTrH
namespace Go.Proofs.Ytheefpgokdejcaa
open Go Go.RowKit

def inR (xs ys : List UInt8) (e : En) : Bool := decide (0 ≤ cmpB e.key xs) && decide (ys.length = 0 ∨ cmpB e.key ys < 0)
theorem less_key {a b : En} {zs : List UInt8} (h : lessE a b = true) (k : cmpB b.key zs < 0) : cmpB a.key zs < 0 := by
  rcases lessE_iff.1 h with q | ⟨q, _⟩
  · exact cmpB_trans q k
  · rw [q]; exact k
theorem betw_list (xs ys : List UInt8) : ∀ {t : Tr}, SortL t.list → betw xs ys t = t.list.filter (inR xs ys)
  | .nil, _ => rfl
  | .node l e r, hs => by
    have hs' : SortL (l.list ++ e :: r.list) := hs
    obtain ⟨sl, sr, slr⟩ := List.pairwise_append.1 hs'
    obtain ⟨er, srr⟩ := List.pairwise_cons.1 sr
    rw [betw, Tr.list, List.filter_append, List.filter_cons, betw_list xs ys sl, betw_list xs ys srr]
    have hl : ¬ 0 ≤ cmpB e.key xs → l.list.filter (inR xs ys) = [] := fun h => by
      rw [List.filter_eq_nil_iff]
      intro y hy k
      have hk : cmpB y.key xs < 0 := less_key (slr y hy e (by simp)) (by omega)
      unfold inR at k
      simp at k
      omega
    have hr : ¬ (ys.length = 0 ∨ cmpB e.key ys < 0) → r.list.filter (inR xs ys) = [] := fun h => by
      rw [List.filter_eq_nil_iff]
      intro y hy k
      unfold inR at k
      rw [Bool.and_eq_true, decide_eq_true_eq, decide_eq_true_eq] at k
      rcases k.2 with q | q
      · exact h (.inl q)
      · exact h (.inr (less_key (er y hy) q))
    by_cases h1 : 0 ≤ cmpB e.key xs
    · by_cases h2 : ys.length = 0 ∨ cmpB e.key ys < 0
      · rw [if_pos h1, if_pos ⟨h1, h2⟩, if_pos h2, if_pos (by unfold inR; rw [decide_eq_true h1, decide_eq_true h2]; rfl)]
        simp
      · rw [if_pos h1, if_neg (fun h => h2 h.2), if_neg h2, if_neg (by unfold inR; rw [decide_eq_false h2]; simp), hr h2]
        simp
    · by_cases h2 : ys.length = 0 ∨ cmpB e.key ys < 0
      · rw [if_neg h1, if_neg (fun h => h1 h.1), if_pos h2, if_neg (by unfold inR; rw [decide_eq_false h1]; simp), hl h1]
        simp
      · rw [if_neg h1, if_neg (fun h => h1 h.1), if_neg h2, if_neg (by unfold inR; rw [decide_eq_false h1]; simp), hl h1, hr h2]
        simp
end Go.Proofs.Ytheefpgokdejcaa
