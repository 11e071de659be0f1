/- Plain facts on the next list: it is above all that begin with the prefix, and no other list stands between. No condition. -/
import Derived.Test.YtgccbghaibddcaaMathO
namespace Go.Proofs.Ytgccbghaibddcaa

/-- Not below a list of bytes 255 alone: it begins with it. -/
theorem above_full : ∀ (r q : List UInt8), (∀ x ∈ r, x.toNat = 255) → ¬ cmpB q r < 0 → q.take r.length = r ∧ r.length ≤ q.length
  | [], q, _, _ => by simp
  | c :: r, [], _, h => absurd (show cmpB [] (c :: r) < 0 by simp [cmpB]) h
  | c :: r, x :: q, hr, h => by
    have hc := hr c (by simp)
    have hx := UInt8.toNat_lt x
    by_cases e : x.toNat = c.toNat
    · rw [cmpB_eq _ _ e] at h
      obtain ⟨h1, h2⟩ := above_full r q (fun y hy => hr y (by simp [hy])) h
      rw [List.length_cons, List.take_succ_cons, h1, UInt8.toNat_inj.1 e]
      simp only [List.length_cons]
      exact ⟨trivial, by omega⟩
    · rw [cmpB_lt _ _ (by omega)] at h
      omega

/-- Between the prefix and its next list stand only lists that begin with the prefix. -/
theorem between : ∀ (a : List UInt8) (c c' : UInt8) (r q : List UInt8), c'.toNat = c.toNat + 1 → (∀ x ∈ r, x.toNat = 255) → ¬ cmpB q (a ++ c :: r) < 0 → cmpB q (a ++ [c']) < 0 →
    q.take (a ++ c :: r).length = a ++ c :: r ∧ (a ++ c :: r).length ≤ q.length
  | [], c, c', r, [], _, _, h, _ => absurd (show cmpB [] (c :: r) < 0 by simp [cmpB]) h
  | [], c, c', r, x :: q, hc, hr, h, h2 => by
    rw [List.nil_append] at h h2 ⊢
    have e : x.toNat = c.toNat := by
      rcases Nat.lt_trichotomy x.toNat c.toNat with g | g | g
      · rw [cmpB_lt _ _ g] at h; omega
      · exact g
      · rcases Nat.lt_trichotomy x.toNat c'.toNat with k | k | k
        · omega
        · rw [cmpB_eq _ _ k] at h2
          cases q <;> simp [cmpB] at h2
        · rw [cmpB_gt _ _ k] at h2; omega
    rw [cmpB_eq _ _ e] at h
    obtain ⟨h3, h4⟩ := above_full r q hr h
    rw [List.length_cons, List.take_succ_cons, h3, UInt8.toNat_inj.1 e]
    simp only [List.length_cons]
    exact ⟨trivial, by omega⟩
  | y :: a, c, c', r, [], _, _, h, _ => absurd (show cmpB [] (y :: a ++ c :: r) < 0 by simp [cmpB]) h
  | y :: a, c, c', r, x :: q, hc, hr, h, h2 => by
    rw [List.cons_append] at h h2 ⊢
    rcases Nat.lt_trichotomy x.toNat y.toNat with g | g | g
    · rw [cmpB_lt _ _ g] at h; omega
    · rw [cmpB_eq _ _ g] at h h2
      obtain ⟨h3, h4⟩ := between a c c' r q hc hr h h2
      rw [List.length_cons, List.take_succ_cons, h3, UInt8.toNat_inj.1 g]
      simp only [List.length_cons]
      exact ⟨trivial, by omega⟩
    · rw [cmpB_gt _ _ g] at h2; omega

end Go.Proofs.Ytgccbghaibddcaa
