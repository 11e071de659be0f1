/- Plain facts on lists written for a key: what is written is read back; the lists' order is the tuples'. No condition. -/
import Derived.Test.YtbmaaofomgkllaaMathO
namespace Go.Proofs.Ytbmaaofomgkllaa

/-- A list for a key read from place p on; 'acc' is read already: the list, the place behind its end, the error. -/
def getTL : List UInt8 → Nat → List UInt8 → List UInt8 × Nat × Nat
  | [], _, _ => ([], 0, 5)
  | [c], p, acc => if c = 0 then ([], 0, 5) else getTL [] (p + 1) (acc ++ [c])
  | c :: d :: r, p, acc =>
    if c = 0 then
      if d = 1 then (acc, p + 2, 0) else if d = 255 then getTL r (p + 2) (acc ++ [0]) else ([], 0, 3)
    else getTL (d :: r) (p + 1) (acc ++ [c])
theorem getTL_nil (p : Nat) (acc : List UInt8) : getTL [] p acc = ([], 0, 5) := by rw [getTL]
theorem getTL_byte {c : UInt8} (h : c ≠ 0) (r : List UInt8) (p : Nat) (acc : List UInt8) : getTL (c :: r) p acc = getTL r (p + 1) (acc ++ [c]) := by
  cases r with
  | nil => simp [getTL]
  | cons d r => rw [getTL, if_neg h]
theorem getTL_cut (p : Nat) (acc : List UInt8) : getTL [0] p acc = ([], 0, 5) := by rw [getTL, if_pos rfl]
theorem getTL_end (r : List UInt8) (p : Nat) (acc : List UInt8) : getTL (0 :: 1 :: r) p acc = (acc, p + 2, 0) := by rw [getTL, if_pos rfl, if_pos rfl]
theorem getTL_zero (r : List UInt8) (p : Nat) (acc : List UInt8) : getTL (0 :: 255 :: r) p acc = getTL r (p + 2) (acc ++ [0]) := by
  rw [getTL, if_pos rfl, if_neg (by decide), if_pos rfl]
theorem getTL_form {d : UInt8} (h1 : d ≠ 1) (h2 : d ≠ 255) (r : List UInt8) (p : Nat) (acc : List UInt8) : getTL (0 :: d :: r) p acc = ([], 0, 3) := by
  rw [getTL, if_pos rfl, if_neg h1, if_neg h2]

/-- What is written is read back, whatever stands behind it. -/
theorem getTL_ordT : ∀ (xs r : List UInt8) (p : Nat) (acc : List UInt8), getTL (ordT xs ++ r) p acc = (acc ++ xs, p + (ordT xs).length, 0)
  | [], r, p, acc => by
    show getTL (0 :: 1 :: r) p acc = _
    rw [getTL_end]
    simp [ordT, esc]
  | c :: xs, r, p, acc => by
    by_cases h : c = 0
    · subst h
      have e : ordT (0 :: xs) = 0 :: 255 :: ordT xs := by rw [ordT, esc_zero]; rfl
      rw [e, List.cons_append, List.cons_append, getTL_zero, getTL_ordT xs r]
      simp only [List.append_assoc, List.cons_append, List.nil_append, List.length_cons, Prod.mk.injEq, true_and, and_true]
      omega
    · have e : ordT (c :: xs) = c :: ordT xs := by rw [ordT, esc_cons h]; rfl
      rw [e, List.cons_append, getTL_byte h, getTL_ordT xs r]
      simp only [List.append_assoc, List.cons_append, List.nil_append, List.length_cons, Prod.mk.injEq, true_and, and_true]
      omega

/-- The list at a place: the list, the place behind its end, the error. -/
def getT (xs : List UInt8) (t : Int) : List UInt8 × Int × Int :=
  if t < 0 ∨ (xs.length : Int) < t then ([], 0, 1)
  else ((getTL (xs.drop t.toNat) t.toNat []).1, ((getTL (xs.drop t.toNat) t.toNat []).2.1 : Int), ((getTL (xs.drop t.toNat) t.toNat []).2.2 : Int))
theorem getT_out {xs : List UInt8} {t : Int} (h : t < 0 ∨ (xs.length : Int) < t) : getT xs t = ([], 0, 1) := by rw [getT, if_pos h]
theorem getT_in {xs : List UInt8} {k : Nat} (h : k ≤ xs.length) {v : List UInt8} {j e : Nat} (hg : getTL (xs.drop k) k [] = (v, j, e)) : getT xs (k : Int) = (v, (j : Int), (e : Int)) := by
  rw [getT, if_neg (by omega)]
  simp only [Int.toNat_natCast, hg]
theorem getT_ordT (pre xs r : List UInt8) : getT (pre ++ (ordT xs ++ r)) (pre.length : Int) = (xs, ((pre.length + (ordT xs).length : Nat) : Int), 0) := by
  refine getT_in (by simp) (e := 0) ?_
  rw [List.drop_left, getTL_ordT]
  rfl
theorem getT_ordT0 (xs : List UInt8) : getT (ordT xs) 0 = (xs, ((ordT xs).length : Int), 0) := by
  have := getT_ordT [] xs []
  simpa using this
/-- What is read is no longer than what was there. -/
theorem getTL_len : ∀ (n : Nat) (l : List UInt8) (p : Nat) (acc : List UInt8), l.length ≤ n → (getTL l p acc).1.length ≤ acc.length + l.length ∧ (getTL l p acc).2.1 ≤ p + l.length
  | 0, l, p, acc, h => by
    have hl : l = [] := List.eq_nil_of_length_eq_zero (by omega)
    subst hl
    rw [getTL_nil]
    simp
  | n + 1, [], p, acc, _ => by rw [getTL_nil]; simp
  | n + 1, c :: r, p, acc, h => by
    simp only [List.length_cons] at h
    by_cases hc : c = 0
    · subst hc
      match r with
      | [] => rw [getTL_cut]; simp
      | d :: r =>
        simp only [List.length_cons] at h
        by_cases h1 : d = 1
        · subst h1
          rw [getTL_end]
          simp only [List.length_cons]
          omega
        · by_cases h2 : d = 255
          · subst h2
            rw [getTL_zero]
            have := getTL_len n r (p + 2) (acc ++ [0]) (by omega)
            simp only [List.length_append, List.length_cons, List.length_nil] at this ⊢
            omega
          · rw [getTL_form h1 h2]
            simp
    · rw [getTL_byte hc]
      have := getTL_len n r (p + 1) (acc ++ [c]) (by omega)
      simp only [List.length_append, List.length_cons, List.length_nil] at this ⊢
      omega
theorem getT_len (xs : List UInt8) (t : Int) : (getT xs t).1.length ≤ xs.length := by
  by_cases ho : t < 0 ∨ (xs.length : Int) < t
  · rw [getT_out ho]; simp
  · obtain ⟨k, rfl⟩ : ∃ k : Nat, t = (k : Int) := ⟨t.toNat, by omega⟩
    have := getTL_len _ (xs.drop k) k [] (Nat.le_refl _)
    rcases hg : getTL (xs.drop k) k [] with ⟨v, j, e⟩
    rw [getT_in (by omega) hg]
    rw [hg, List.length_drop] at this
    simp only [List.length_nil] at this ⊢
    omega

/-- The order of two lists' keys, with whatever behind them. -/
theorem cmpB_ordT : ∀ (xs ys r s : List UInt8), cmpB (ordT xs ++ r) (ordT ys ++ s) = if cmpB xs ys = 0 then cmpB r s else cmpB xs ys
  | [], [], r, s => by
    show cmpB (0 :: 1 :: r) (0 :: 1 :: s) = _
    rw [cmpB_same, cmpB_same]
    rfl
  | [], y :: ys, r, s => by
    show cmpB (0 :: 1 :: r) _ = -1
    by_cases h : y = 0
    · subst h
      have e : ordT (0 :: ys) = 0 :: 255 :: ordT ys := by rw [ordT, esc_zero]; rfl
      rw [e, List.cons_append, cmpB_same, List.cons_append]
      exact cmpB_lt _ _ (by decide)
    · have e : ordT (y :: ys) = y :: ordT ys := by rw [ordT, esc_cons h]; rfl
      rw [e, List.cons_append]
      refine cmpB_lt _ _ ?_
      have : y.toNat ≠ 0 := fun h0 => h (UInt8.toNat_inj.1 h0)
      show 0 < y.toNat
      omega
  | x :: xs, [], r, s => by
    show cmpB _ (0 :: 1 :: s) = 1
    by_cases h : x = 0
    · subst h
      have e : ordT (0 :: xs) = 0 :: 255 :: ordT xs := by rw [ordT, esc_zero]; rfl
      rw [e, List.cons_append, cmpB_same, List.cons_append]
      exact cmpB_gt _ _ (by decide)
    · have e : ordT (x :: xs) = x :: ordT xs := by rw [ordT, esc_cons h]; rfl
      rw [e, List.cons_append]
      refine cmpB_gt _ _ ?_
      have : x.toNat ≠ 0 := fun h0 => h (UInt8.toNat_inj.1 h0)
      show 0 < x.toNat
      omega
  | x :: xs, y :: ys, r, s => by
    rcases Nat.lt_trichotomy x.toNat y.toNat with h | h | h
    · rw [cmpB_lt xs ys h, if_neg (by decide)]
      have hy : y ≠ 0 := fun h0 => by subst h0; simp at h
      have ey : ordT (y :: ys) = y :: ordT ys := by rw [ordT, esc_cons hy]; rfl
      rw [ey]
      by_cases hx : x = 0
      · subst hx
        have ex : ordT (0 :: xs) = 0 :: 255 :: ordT xs := by rw [ordT, esc_zero]; rfl
        rw [ex]
        exact cmpB_lt _ _ h
      · have ex : ordT (x :: xs) = x :: ordT xs := by rw [ordT, esc_cons hx]; rfl
        rw [ex]
        exact cmpB_lt _ _ h
    · rw [cmpB_eq xs ys h]
      obtain rfl := UInt8.toNat_inj.1 h
      by_cases hx : x = 0
      · subst hx
        have ex : ∀ zs, ordT (0 :: zs) = 0 :: 255 :: ordT zs := fun zs => by rw [ordT, esc_zero]; rfl
        rw [ex, ex, List.cons_append, List.cons_append, List.cons_append, List.cons_append, cmpB_same, cmpB_same]
        exact cmpB_ordT xs ys r s
      · have ex : ∀ zs, ordT (x :: zs) = x :: ordT zs := fun zs => by rw [ordT, esc_cons hx]; rfl
        rw [ex, ex, List.cons_append, List.cons_append, cmpB_same]
        exact cmpB_ordT xs ys r s
    · rw [cmpB_gt xs ys h, if_neg (by decide)]
      have hx : x ≠ 0 := fun h0 => by subst h0; simp at h
      have ex : ordT (x :: xs) = x :: ordT xs := by rw [ordT, esc_cons hx]; rfl
      rw [ex]
      by_cases hy : y = 0
      · subst hy
        have ey : ordT (0 :: ys) = 0 :: 255 :: ordT ys := by rw [ordT, esc_zero]; rfl
        rw [ey]
        exact cmpB_gt _ _ h
      · have ey : ordT (y :: ys) = y :: ordT ys := by rw [ordT, esc_cons hy]; rfl
        rw [ey]
        exact cmpB_gt _ _ h

end Go.Proofs.Ytbmaaofomgkllaa
