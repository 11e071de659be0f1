/- Plain facts on lists of bytes as numbers and in their order. No condition but that numbers are below 2^64. -/
import Derived.Test.YtcclhkoggijkaaaSpec
namespace Go.Proofs.Ytcclhkoggijkaaa

/-- How two lists compare, byte by byte. -/
def cmpB : List UInt8 → List UInt8 → Int
  | [], [] => 0
  | [], _ :: _ => -1
  | _ :: _, [] => 1
  | x :: xs, y :: ys => if x.toNat < y.toNat then -1 else if y.toNat < x.toNat then 1 else cmpB xs ys
theorem cmpB_lt {x y : UInt8} (xs ys : List UInt8) (h : x.toNat < y.toNat) : cmpB (x :: xs) (y :: ys) = -1 := by rw [cmpB, if_pos h]
theorem cmpB_gt {x y : UInt8} (xs ys : List UInt8) (h : y.toNat < x.toNat) : cmpB (x :: xs) (y :: ys) = 1 := by rw [cmpB, if_neg (by omega), if_pos h]
theorem cmpB_eq {x y : UInt8} (xs ys : List UInt8) (h : x.toNat = y.toNat) : cmpB (x :: xs) (y :: ys) = cmpB xs ys := by rw [cmpB, if_neg (by omega), if_neg (by omega)]
theorem cmpB_same (x : UInt8) (xs ys : List UInt8) : cmpB (x :: xs) (x :: ys) = cmpB xs ys := cmpB_eq xs ys rfl
theorem cmpB_self : ∀ xs : List UInt8, cmpB xs xs = 0
  | [] => rfl
  | x :: xs => by rw [cmpB_same]; exact cmpB_self xs
theorem cmpB_pre : ∀ (p xs ys : List UInt8), cmpB (p ++ xs) (p ++ ys) = cmpB xs ys
  | [], _, _ => rfl
  | x :: p, xs, ys => by rw [List.cons_append, List.cons_append, cmpB_same]; exact cmpB_pre p xs ys
theorem cmpB_swap : ∀ xs ys : List UInt8, cmpB ys xs = - cmpB xs ys
  | [], [] => rfl
  | [], _ :: _ => rfl
  | _ :: _, [] => rfl
  | x :: xs, y :: ys => by
    rcases Nat.lt_trichotomy x.toNat y.toNat with h | h | h
    · rw [cmpB_lt _ _ h, cmpB_gt _ _ h]; rfl
    · rw [cmpB_eq _ _ h, cmpB_eq _ _ h.symm]
      exact cmpB_swap xs ys
    · rw [cmpB_gt _ _ h, cmpB_lt _ _ h]
theorem cmpB_range : ∀ xs ys : List UInt8, cmpB xs ys = -1 ∨ cmpB xs ys = 0 ∨ cmpB xs ys = 1
  | [], [] => .inr (.inl rfl)
  | [], _ :: _ => .inl rfl
  | _ :: _, [] => .inr (.inr rfl)
  | x :: xs, y :: ys => by
    rcases Nat.lt_trichotomy x.toNat y.toNat with h | h | h
    · exact .inl (cmpB_lt _ _ h)
    · rw [cmpB_eq _ _ h]
      exact cmpB_range xs ys
    · exact .inr (.inr (cmpB_gt _ _ h))
theorem cmpB_zero : ∀ xs ys : List UInt8, cmpB xs ys = 0 → xs = ys
  | [], [], _ => rfl
  | [], _ :: _, h => by cases h
  | _ :: _, [], h => by cases h
  | x :: xs, y :: ys, h => by
    rcases Nat.lt_trichotomy x.toNat y.toNat with g | g | g
    · rw [cmpB_lt _ _ g] at h; cases h
    · rw [cmpB_eq _ _ g] at h
      rw [UInt8.toNat_inj.1 g, cmpB_zero xs ys h]
    · rw [cmpB_gt _ _ g] at h; cases h

/-- The number whose digits the bytes are. -/
def vr : List UInt8 → Nat
  | [] => 0
  | c :: r => c.toNat * 256 ^ r.length + vr r
theorem vr_lt : ∀ l : List UInt8, vr l < 256 ^ l.length
  | [] => by simp [vr]
  | c :: r => by
    have h := vr_lt r
    have hc := UInt8.toNat_lt c
    have h1 : c.toNat * 256 ^ r.length ≤ 255 * 256 ^ r.length := Nat.mul_le_mul_right _ (by omega)
    simp only [vr, List.length_cons, Nat.pow_succ]
    omega
theorem vr_snoc : ∀ (l : List UInt8) (x : UInt8), vr (l ++ [x]) = vr l * 256 + x.toNat
  | [], x => by simp [vr]
  | c :: r, x => by
    simp only [List.cons_append, vr, List.length_append, List.length_cons, List.length_nil, vr_snoc r x, Nat.pow_succ, Nat.zero_add]
    rw [Nat.add_mul, ← Nat.mul_assoc]
    omega
theorem cmpB_vr : ∀ l r : List UInt8, l.length = r.length → (cmpB l r < 0 ↔ vr l < vr r)
  | [], [], _ => by simp [cmpB, vr]
  | [], _ :: _, h => by simp at h
  | _ :: _, [], h => by simp at h
  | x :: xs, y :: ys, h => by
    have hl : xs.length = ys.length := by simpa using h
    have h1 := vr_lt xs
    have h2 := vr_lt ys
    simp only [vr, hl] at h1 ⊢
    rcases Nat.lt_trichotomy x.toNat y.toNat with g | g | g
    · rw [cmpB_lt _ _ g]
      have := Nat.mul_le_mul_right (256 ^ ys.length) (show x.toNat + 1 ≤ y.toNat from g)
      rw [Nat.add_mul] at this
      omega
    · rw [cmpB_eq _ _ g, cmpB_vr xs ys hl, g]
      omega
    · rw [cmpB_gt _ _ g]
      have := Nat.mul_le_mul_right (256 ^ ys.length) (show y.toNat + 1 ≤ x.toNat from g)
      rw [Nat.add_mul] at this
      omega

theorem vr_ordU (n : Nat) (h : n < B64) : vr (ordU n) = n := by
  unfold B64 at h
  simp only [ordU, vr, List.length_cons, List.length_nil, bt_mod]
  omega
theorem ordU_vr (l : List UInt8) (h : l.length = 8) : ordU (vr l) = l := by
  match l, h with
  | [a, b, c, d, e, f, g, i], _ =>
    have ha := UInt8.toNat_lt a
    have hb := UInt8.toNat_lt b
    have hc := UInt8.toNat_lt c
    have hd := UInt8.toNat_lt d
    have he := UInt8.toNat_lt e
    have hf := UInt8.toNat_lt f
    have hg := UInt8.toNat_lt g
    have hi := UInt8.toNat_lt i
    simp only [ordU, vr, List.length_cons, List.length_nil, List.cons.injEq, and_true, Nat.reducePow, Nat.reduceAdd]
    refine ⟨?_, ?_, ?_, ?_, ?_, ?_, ?_, ?_⟩ <;> (apply UInt8.toNat_inj.1; rw [bt_mod]; omega)
theorem ordU_lt (n m : Nat) (hn : n < B64) (hm : m < B64) : cmpB (ordU n) (ordU m) < 0 ↔ n < m := by
  rw [cmpB_vr (ordU n) (ordU m) rfl, vr_ordU n hn, vr_ordU m hm]
theorem vr8 (l : List UInt8) (h : l.length = 8) : vr l < B64 := by
  have := vr_lt l
  rw [h] at this
  exact this

/-- The number at a place in eight bytes: the number, the place behind it, the error. -/
def getO (xs : List UInt8) (t : Int) : Nat × Int × Int :=
  if t < 0 ∨ (xs.length : Int) < t then (0, 0, 1)
  else if (xs.length : Int) - t < 8 then (0, 0, 5)
  else (vr ((xs.drop t.toNat).take 8), t + 8, 0)
theorem getO_out {xs : List UInt8} {t : Int} (h : t < 0 ∨ (xs.length : Int) < t) : getO xs t = (0, 0, 1) := by rw [getO, if_pos h]
theorem getO_end {xs : List UInt8} {t : Int} (h : ¬ (t < 0 ∨ (xs.length : Int) < t)) (h1 : (xs.length : Int) - t < 8) : getO xs t = (0, 0, 5) := by rw [getO, if_neg h, if_pos h1]
theorem getO_in {xs : List UInt8} {k : Nat} (h : k + 8 ≤ xs.length) : getO xs (k : Int) = (vr ((xs.drop k).take 8), (k : Int) + 8, 0) := by
  rw [getO, if_neg (by omega), if_neg (by omega)]
  simp
theorem getO_ok {xs : List UInt8} {t : Int} {m : Nat} {nx e : Int} (h : getO xs t = (m, nx, e)) (he : e = 0) :
    ∃ k : Nat, t = (k : Int) ∧ nx = (k : Int) + 8 ∧ k + 8 ≤ xs.length ∧ (xs.take (k + 8)).drop k = ordU m ∧ m < B64 := by
  by_cases ho : t < 0 ∨ (xs.length : Int) < t
  · rw [getO_out ho] at h
    simp only [Prod.mk.injEq] at h
    omega
  · by_cases h8 : (xs.length : Int) - t < 8
    · rw [getO_end ho h8] at h
      simp only [Prod.mk.injEq] at h
      omega
    · obtain ⟨k, rfl⟩ : ∃ k : Nat, t = (k : Int) := ⟨t.toNat, by omega⟩
      rw [getO_in (by omega)] at h
      simp only [Prod.mk.injEq] at h
      obtain ⟨rfl, rfl, _⟩ := h
      have hl : ((xs.drop k).take 8).length = 8 := by
        rw [List.length_take, List.length_drop]
        omega
      refine ⟨k, rfl, rfl, by omega, ?_, vr8 _ hl⟩
      rw [ordU_vr _ hl, List.drop_take, Nat.add_sub_cancel_left]

end Go.Proofs.Ytcclhkoggijkaaa
