/- A tree's Get against a list's. Plain mathematics. -/
import Derived.Test.YtheefpgokdejcaaMathG
import Derived.Test.YtheefpgokdejcaaTrG
namespace Go.Proofs.Ytheefpgokdejcaa
open Go Go.RowKit

theorem firstT_find {x : En} : ∀ {t : Tr} {f : Option En}, SortL t.list → firstT x t f = (t.list.find? (fun e => !lessE e x)).or f
  | .nil, f, _ => by simp [firstT, Tr.list]
  | .node l e r, f, hs => by
    have hs' : SortL (l.list ++ e :: r.list) := hs
    obtain ⟨sl, sr, slr⟩ := List.pairwise_append.1 hs'
    obtain ⟨er, srr⟩ := List.pairwise_cons.1 sr
    unfold firstT
    rw [Tr.list, List.find?_append, List.find?_cons]
    split
    · next h =>
      have hn : l.list.find? (fun e => !lessE e x) = none := by
        rw [List.find?_eq_none]
        intro y hy
        rw [lessE_trans (slr y hy e (by simp)) h]
        simp
      rw [hn, h, firstT_find srr]
      rfl
    · next h =>
      have h' : lessE e x = false := by simpa using h
      rw [h', firstT_find sl]
      cases l.list.find? (fun e => !lessE e x) <;> rfl
/-- What the reference's Get finds. -/
def findL (key : List UInt8) (at_ : Nat) (l : List En) : Option En := l.find? (fun y => eqB y.key key && decide (y.seq ≤ at_))
theorem keyed_find {key : List UInt8} {at_ : Nat} : ∀ {l : List En}, SortL l → keyed key (l.find? (fun e => !lessE e ⟨key, at_, 0, []⟩)) = findL key at_ l
  | [], _ => rfl
  | y :: l, hs => by
    obtain ⟨hy, hl⟩ := List.pairwise_cons.1 hs
    unfold findL
    rw [List.find?_cons, List.find?_cons]
    cases h : lessE y ⟨key, at_, 0, []⟩ with
    | true =>
      have hno : (eqB y.key key && decide (y.seq ≤ at_)) = false := by
        rcases lessE_iff.1 h with q | ⟨_, q⟩
        · cases e : eqB y.key key with
          | false => rfl
          | true =>
            have e' : y.key = key := by simpa [eqB] using e
            simp only [e', cmpB_refl] at q
            omega
        · have : ¬ y.seq ≤ at_ := by simp only at q; omega
          simp [this]
      rw [hno]
      exact keyed_find hl
    | false =>
      show (if cmpB y.key key = 0 then some y else none) = _
      by_cases hk : cmpB y.key key = 0
      · have e' := cmpB_zero _ _ hk
        have hq : y.seq ≤ at_ := by
          apply Nat.le_of_not_lt
          intro q
          have : lessE y ⟨key, at_, 0, []⟩ = true := lessE_iff.2 (.inr ⟨e', q⟩)
          rw [h] at this
          cases this
        have hyes : (eqB y.key key && decide (y.seq ≤ at_)) = true := by simp [eqB, e', hq]
        rw [if_pos hk, hyes]
      · have hne : ∀ z : En, (z = y ∨ z ∈ l) → eqB z.key key = false := fun z hz => by
          cases e : eqB z.key key with
          | false => rfl
          | true =>
            have e' : z.key = key := by simpa [eqB] using e
            rcases hz with rfl | m
            · rw [e', cmpB_refl] at hk
              exact absurd rfl hk
            · rcases lessE_iff.1 (hy z m) with q | ⟨q, _⟩
              · rw [e'] at q
                have : lessE y ⟨key, at_, 0, []⟩ = true := lessE_iff.2 (.inl q)
                rw [h] at this
                cases this
              · rw [q, e', cmpB_refl] at hk
                exact absurd rfl hk
        rw [if_neg hk, hne y (.inl rfl)]
        symm
        simp only [Bool.false_and]
        rw [List.find?_eq_none]
        intro z hz
        rw [hne z (.inr hz)]
        simp
theorem tabGet_list {t : Tr} {key : List UInt8} {at_ : Nat} (hs : SortL t.list) : tabGet t key at_ = findL key at_ t.list := by
  unfold tabGet
  rw [firstT_find hs, Option.or_none, keyed_find hs]
end Go.Proofs.Ytheefpgokdejcaa
