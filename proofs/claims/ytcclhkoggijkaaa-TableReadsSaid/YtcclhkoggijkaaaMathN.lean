/- Plain facts on the next list: it is above all that begin with the prefix, and no other list stands between. No condition. -/
import Derived.Test.YtcclhkoggijkaaaMathO
namespace Go.Proofs.Ytcclhkoggijkaaa

/-- The next list, from the first k bytes of the prefix: the last byte of them that isn't 255 is raised. -/
def nextAt (xs : List UInt8) : Nat → List UInt8
  | 0 => []
  | k + 1 => if (xs.getD k 0).toNat = 255 then nextAt xs k else xs.take k ++ [bt ((xs.getD k 0).toNat + 1)]
def nextB (xs : List UInt8) : List UInt8 := nextAt xs xs.length
theorem nextAt_zero (xs : List UInt8) : nextAt xs 0 = [] := rfl
theorem nextAt_255 {xs : List UInt8} {k : Nat} {x : UInt8} (hx : xs[k]? = some x) (h : x.toNat = 255) : nextAt xs (k + 1) = nextAt xs k := by
  rw [nextAt, List.getD_eq_getElem?_getD, hx, Option.getD_some, if_pos h]
theorem nextAt_up {xs : List UInt8} {k : Nat} {x : UInt8} (hx : xs[k]? = some x) (h : x.toNat ≠ 255) : nextAt xs (k + 1) = xs.take k ++ [bt (x.toNat + 1)] := by
  rw [nextAt, List.getD_eq_getElem?_getD, hx, Option.getD_some, if_neg h]
theorem nextAt_len (xs : List UInt8) : ∀ k, (nextAt xs k).length ≤ k
  | 0 => by simp [nextAt]
  | k + 1 => by
    rw [nextAt]
    split
    · have := nextAt_len xs k
      omega
    · have : (xs.take k).length ≤ k := List.length_take_le _ _
      simp only [List.length_append, List.length_cons, List.length_nil]
      omega

theorem nextAt_form (p : List UInt8) : ∀ k, k ≤ p.length → (∀ x ∈ p.drop k, x.toNat = 255) →
    nextAt p k = [] ∨ ∃ a c r c', p = a ++ c :: r ∧ nextAt p k = a ++ [c'] ∧ (c' : UInt8).toNat = (c : UInt8).toNat + 1 ∧ ∀ x ∈ r, (x : UInt8).toNat = 255
  | 0, _, _ => .inl rfl
  | k + 1, hk, hr => by
    obtain ⟨x, hx⟩ : ∃ x, p[k]? = some x := ⟨_, List.getElem?_eq_getElem (by omega)⟩
    have hd := drop_cons hx
    by_cases h : x.toNat = 255
    · rw [nextAt_255 hx h]
      refine nextAt_form p k (by omega) fun y hy => ?_
      rw [hd] at hy
      rcases List.mem_cons.1 hy with e | e
      · rw [e]; exact h
      · exact hr y e
    · right
      have hlt := UInt8.toNat_lt x
      refine ⟨p.take k, x, p.drop (k + 1), bt (x.toNat + 1), ?_, nextAt_up hx h, bt_nat _ (by omega), hr⟩
      rw [← hd, List.take_append_drop]

theorem nextB_form (p : List UInt8) : nextB p = [] ∨ ∃ a c r c', p = a ++ c :: r ∧ nextB p = a ++ [c'] ∧ (c' : UInt8).toNat = (c : UInt8).toNat + 1 ∧ ∀ x ∈ r, (x : UInt8).toNat = 255 :=
  nextAt_form p p.length (Nat.le_refl _) (by simp)

/-- Not below a list of bytes 255 alone: it begins with it. -/
theorem above_full : ∀ (r q : List UInt8), (∀ x ∈ r, x.toNat = 255) → ¬ cmpB q r < 0 → q.take r.length = r ∧ r.length ≤ q.length
  | [], q, _, _ => by simp
  | c :: r, [], _, h => absurd (show cmpB [] (c :: r) < 0 by simp [cmpB]) h
  | c :: r, x :: q, hr, h => by
    have hc := hr c (by simp)
    have hx := UInt8.toNat_lt x
    by_cases e : x.toNat = c.toNat
    · rw [cmpB_eq _ _ e] at h
      obtain ⟨h1, h2⟩ := above_full r q (fun y hy => hr y (by simp [hy])) h
      rw [List.length_cons, List.take_succ_cons, h1, UInt8.toNat_inj.1 e]
      simp only [List.length_cons]
      exact ⟨trivial, by omega⟩
    · rw [cmpB_lt _ _ (by omega)] at h
      omega

/-- Between the prefix and its next list stand only lists that begin with the prefix. -/
theorem between : ∀ (a : List UInt8) (c c' : UInt8) (r q : List UInt8), c'.toNat = c.toNat + 1 → (∀ x ∈ r, x.toNat = 255) → ¬ cmpB q (a ++ c :: r) < 0 → cmpB q (a ++ [c']) < 0 →
    q.take (a ++ c :: r).length = a ++ c :: r ∧ (a ++ c :: r).length ≤ q.length
  | [], c, c', r, [], _, _, h, _ => absurd (show cmpB [] (c :: r) < 0 by simp [cmpB]) h
  | [], c, c', r, x :: q, hc, hr, h, h2 => by
    rw [List.nil_append] at h h2 ⊢
    have e : x.toNat = c.toNat := by
      rcases Nat.lt_trichotomy x.toNat c.toNat with g | g | g
      · rw [cmpB_lt _ _ g] at h; omega
      · exact g
      · rcases Nat.lt_trichotomy x.toNat c'.toNat with k | k | k
        · omega
        · rw [cmpB_eq _ _ k] at h2
          cases q <;> simp [cmpB] at h2
        · rw [cmpB_gt _ _ k] at h2; omega
    rw [cmpB_eq _ _ e] at h
    obtain ⟨h3, h4⟩ := above_full r q hr h
    rw [List.length_cons, List.take_succ_cons, h3, UInt8.toNat_inj.1 e]
    simp only [List.length_cons]
    exact ⟨trivial, by omega⟩
  | y :: a, c, c', r, [], _, _, h, _ => absurd (show cmpB [] (y :: a ++ c :: r) < 0 by simp [cmpB]) h
  | y :: a, c, c', r, x :: q, hc, hr, h, h2 => by
    rw [List.cons_append] at h h2 ⊢
    rcases Nat.lt_trichotomy x.toNat y.toNat with g | g | g
    · rw [cmpB_lt _ _ g] at h; omega
    · rw [cmpB_eq _ _ g] at h h2
      obtain ⟨h3, h4⟩ := between a c c' r q hc hr h h2
      rw [List.length_cons, List.take_succ_cons, h3, UInt8.toNat_inj.1 g]
      simp only [List.length_cons]
      exact ⟨trivial, by omega⟩
    · rw [cmpB_gt _ _ g] at h2; omega

theorem next_above (p t : List UInt8) (h : nextB p ≠ []) : cmpB (p ++ t) (nextB p) < 0 := by
  rcases nextB_form p with h0 | ⟨a, c, r, c', h1, h2, h3, _⟩
  · exact absurd h0 h
  · rw [h2, h1, List.append_assoc, cmpB_pre, List.cons_append, cmpB_lt _ _ (by omega)]
    decide
theorem next_above' (p : List UInt8) (h : nextB p ≠ []) : cmpB p (nextB p) < 0 := by
  have := next_above p [] h
  rw [List.append_nil] at this
  exact this
theorem next_between (p q : List UInt8) (h : nextB p ≠ []) (h1 : ¬ cmpB q p < 0) (h2 : cmpB q (nextB p) < 0) : q.take p.length = p ∧ p.length ≤ q.length := by
  rcases nextB_form p with h0 | ⟨a, c, r, c', e1, e2, e3, e4⟩
  · exact absurd h0 h
  · rw [e2] at h2
    rw [e1] at h1 ⊢
    exact between a c c' r q e3 e4 h1 h2

end Go.Proofs.Ytcclhkoggijkaaa
