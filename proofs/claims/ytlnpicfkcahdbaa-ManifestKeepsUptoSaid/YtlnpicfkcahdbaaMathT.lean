/- Plain facts on lists written for a key: what is written is read back; the lists' order is the tuples'. No condition. -/
import Derived.Test.YtlnpicfkcahdbaaMathO
namespace Go.Proofs.Ytlnpicfkcahdbaa

/-- A list for a key read from place p on; 'acc' is read already: the list, the place behind its end, the error. -/
def getTL : List UInt8 → Nat → List UInt8 → List UInt8 × Nat × Nat
  | [], _, _ => ([], 0, 5)
  | [c], p, acc => if c = 0 then ([], 0, 5) else getTL [] (p + 1) (acc ++ [c])
  | c :: d :: r, p, acc =>
    if c = 0 then
      if d = 1 then (acc, p + 2, 0) else if d = 255 then getTL r (p + 2) (acc ++ [0]) else ([], 0, 3)
    else getTL (d :: r) (p + 1) (acc ++ [c])
theorem getTL_nil (p : Nat) (acc : List UInt8) : getTL [] p acc = ([], 0, 5) := by rw [getTL]
theorem getTL_byte {c : UInt8} (h : c ≠ 0) (r : List UInt8) (p : Nat) (acc : List UInt8) : getTL (c :: r) p acc = getTL r (p + 1) (acc ++ [c]) := by
  cases r with
  | nil => simp [getTL]
  | cons d r => rw [getTL, if_neg h]
theorem getTL_cut (p : Nat) (acc : List UInt8) : getTL [0] p acc = ([], 0, 5) := by rw [getTL, if_pos rfl]
theorem getTL_end (r : List UInt8) (p : Nat) (acc : List UInt8) : getTL (0 :: 1 :: r) p acc = (acc, p + 2, 0) := by rw [getTL, if_pos rfl, if_pos rfl]
theorem getTL_zero (r : List UInt8) (p : Nat) (acc : List UInt8) : getTL (0 :: 255 :: r) p acc = getTL r (p + 2) (acc ++ [0]) := by
  rw [getTL, if_pos rfl, if_neg (by decide), if_pos rfl]
theorem getTL_form {d : UInt8} (h1 : d ≠ 1) (h2 : d ≠ 255) (r : List UInt8) (p : Nat) (acc : List UInt8) : getTL (0 :: d :: r) p acc = ([], 0, 3) := by
  rw [getTL, if_pos rfl, if_neg h1, if_neg h2]

/-- What is written is read back, whatever stands behind it. -/
theorem getTL_ordT : ∀ (xs r : List UInt8) (p : Nat) (acc : List UInt8), getTL (ordT xs ++ r) p acc = (acc ++ xs, p + (ordT xs).length, 0)
  | [], r, p, acc => by
    show getTL (0 :: 1 :: r) p acc = _
    rw [getTL_end]
    simp [ordT, esc]
  | c :: xs, r, p, acc => by
    by_cases h : c = 0
    · subst h
      have e : ordT (0 :: xs) = 0 :: 255 :: ordT xs := by rw [ordT, esc_zero]; rfl
      rw [e, List.cons_append, List.cons_append, getTL_zero, getTL_ordT xs r]
      simp only [List.append_assoc, List.cons_append, List.nil_append, List.length_cons, Prod.mk.injEq, true_and, and_true]
      omega
    · have e : ordT (c :: xs) = c :: ordT xs := by rw [ordT, esc_cons h]; rfl
      rw [e, List.cons_append, getTL_byte h, getTL_ordT xs r]
      simp only [List.append_assoc, List.cons_append, List.nil_append, List.length_cons, Prod.mk.injEq, true_and, and_true]
      omega

/-- The list at a place: the list, the place behind its end, the error. -/
def getT (xs : List UInt8) (t : Int) : List UInt8 × Int × Int :=
  if t < 0 ∨ (xs.length : Int) < t then ([], 0, 1)
  else ((getTL (xs.drop t.toNat) t.toNat []).1, ((getTL (xs.drop t.toNat) t.toNat []).2.1 : Int), ((getTL (xs.drop t.toNat) t.toNat []).2.2 : Int))
theorem getT_out {xs : List UInt8} {t : Int} (h : t < 0 ∨ (xs.length : Int) < t) : getT xs t = ([], 0, 1) := by rw [getT, if_pos h]
theorem getT_in {xs : List UInt8} {k : Nat} (h : k ≤ xs.length) {v : List UInt8} {j e : Nat} (hg : getTL (xs.drop k) k [] = (v, j, e)) : getT xs (k : Int) = (v, (j : Int), (e : Int)) := by
  rw [getT, if_neg (by omega)]
  simp only [Int.toNat_natCast, hg]
theorem getT_ordT (pre xs r : List UInt8) : getT (pre ++ (ordT xs ++ r)) (pre.length : Int) = (xs, ((pre.length + (ordT xs).length : Nat) : Int), 0) := by
  refine getT_in (by simp) (e := 0) ?_
  rw [List.drop_left, getTL_ordT]
  rfl
end Go.Proofs.Ytlnpicfkcahdbaa
