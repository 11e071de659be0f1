/- Plain facts on numbers in groups of seven bits: what is written is read back, and what is read was written so. No condition but that numbers are below 2^64. -/
import Derived.Test.YtmpdenpopokigaaSpec
namespace Go.Proofs.Ytmpdenpopokigaa

theorem shift_mul (v i : Nat) : v / 128 * 128 ^ (i + 1) + v % 128 * 128 ^ i = v * 128 ^ i := by
  have h : v = 128 * (v / 128) + v % 128 := (Nat.div_add_mod v 128).symm
  have e : v / 128 * 128 ^ (i + 1) = 128 * (v / 128) * 128 ^ i := by
    rw [Nat.pow_succ, Nat.mul_comm (128 ^ i) 128, ← Nat.mul_assoc, Nat.mul_comm (v / 128) 128]
  rw [e, ← Nat.add_mul]
  congr 1
  omega

theorem getL_putU : ∀ (f n : Nat), n < 128 ^ f → ∀ (r : List UInt8) (i acc : Nat), i ≤ 9 → acc < 128 ^ i → acc + n * 128 ^ i < B64 → (0 < i → 0 < n) →
    getL (putU n ++ r) i acc = (acc + n * 128 ^ i, i + (putU n).length, 0)
  | 0, n, hf, r, i, acc, hi, ha, hb, h0 => by
    have hn : n = 0 := by simpa using hf
    subst hn
    rw [putU_small (by omega), List.cons_append, getL_last]
    · rw [bt_nat 0 (by omega)]
      rfl
    · rw [bt_nat 0 (by omega)]
      omega
    · rw [bt_nat 0 (by omega)]
      omega
  | f + 1, n, hf, r, i, acc, hi, ha, hb, h0 => by
    have h9 : i = 9 → n ≤ 1 := fun h => by
      subst h
      unfold B64 at hb
      omega
    by_cases hs : n < 128
    · rw [putU_small hs, List.cons_append, getL_last]
      · rw [bt_nat n (by omega)]
        rfl
      · rw [bt_nat n (by omega)]
        omega
      · rw [bt_nat n (by omega)]
        exact hs
    · rw [putU_big hs, List.cons_append, getL_more]
      · rw [bt_nat _ (by omega)]
        have e1 : (n % 128 + 128) % 128 = n % 128 := by omega
        have e2 := shift_mul n i
        rw [e1, getL_putU f (n / 128) (Nat.div_lt_of_lt_mul (by rw [Nat.mul_comm]; exact hf)) _ (i + 1) _ (by omega) ?_ ?_ (fun _ => by omega)]
        · rw [Nat.add_assoc, Nat.add_comm (n % 128 * 128 ^ i), e2, List.length_cons]
          congr 2
          omega
        · have := acc_step (z := n) ha (by omega)
          exact this
        · rw [Nat.add_assoc, Nat.add_comm (n % 128 * 128 ^ i), e2]
          exact hb
      · rw [bt_nat _ (by omega)]
        omega
      · rw [bt_nat _ (by omega)]
        omega

theorem getU_putU (n : Nat) (h : n < B64) : getU (putU n) 0 = (n, ((putU n).length : Int), 0) := by
  have h1 := getL_putU 10 n (Nat.lt_of_lt_of_le h (by unfold B64; decide)) [] 0 0 (by omega) (by omega) (by simpa using h) (fun h => absurd h (by omega))
  have h2 := getU_in (xs := putU n) (k := 0) (Nat.zero_le _) (n := n) (j := (putU n).length) (e := 0) (by simpa using h1)
  simpa using h2

theorem getL_ok : ∀ (l : List UInt8) (i acc m j : Nat), i ≤ 9 → acc < 128 ^ i → getL l i acc = (m, j, 0) →
    ∃ q v, j = i + q ∧ q ≤ l.length ∧ m = acc + v * 128 ^ i ∧ l.take q = putU v ∧ (0 < i → 0 < v) ∧ m < B64
  | [], i, acc, m, j, hi, ha, h => by
    rw [getL_nil] at h
    simp at h
  | c :: r, i, acc, m, j, hi, ha, h => by
    by_cases hf : (i = 9 ∧ 1 < c.toNat) ∨ (0 < i ∧ c.toNat = 0)
    · rw [getL_form _ _ hf] at h
      simp at h
    · by_cases hc : c.toNat < 128
      · rw [getL_last _ _ hf hc] at h
        simp only [Prod.mk.injEq] at h
        have hb := group_lt acc c.toNat i hi (by omega) ha
        rw [Nat.mod_eq_of_lt hc] at hb
        refine ⟨1, c.toNat, by omega, by simp, by omega, ?_, by omega, by omega⟩
        rw [putU_small hc, bt_toNat]
        rfl
      · rw [getL_more _ _ hf hc] at h
        obtain ⟨q, v, h1, h2, h3, h4, h5, h6⟩ := getL_ok r (i + 1) _ m j (by omega) (acc_step ha (by omega)) h
        have hv := h5 (by omega)
        have hlt := UInt8.toNat_lt c
        have e1 : (c.toNat % 128 + 128 * v) / 128 = v := by omega
        have e2 : (c.toNat % 128 + 128 * v) % 128 = c.toNat % 128 := by omega
        have e3 := shift_mul (c.toNat % 128 + 128 * v) i
        rw [e1, e2] at e3
        refine ⟨q + 1, c.toNat % 128 + 128 * v, by omega, by simp; omega, by omega, ?_, by omega, h6⟩
        rw [putU_big (by omega), e1, e2, List.take_succ_cons, h4]
        congr 1
        rw [show c.toNat % 128 + 128 = c.toNat from by omega, bt_toNat]

theorem getU_ok {ys : List UInt8} {t : Int} {m : Nat} {nx : Int} (h : getU ys t = (m, nx, 0)) :
    ∃ k k' : Nat, t = (k : Int) ∧ nx = (k' : Int) ∧ k ≤ k' ∧ k' ≤ ys.length ∧ (ys.take k').drop k = putU m ∧ m < B64 := by
  by_cases ho : t < 0 ∨ (ys.length : Int) < t
  · rw [getU_out ho] at h
    simp at h
  · obtain ⟨k, rfl⟩ : ∃ k : Nat, t = (k : Int) := ⟨t.toNat, by omega⟩
    rcases hg : getL (ys.drop k) 0 0 with ⟨n, j, e⟩
    rw [getU_in (by omega) hg] at h
    simp only [Prod.mk.injEq] at h
    obtain ⟨rfl, h2, h3⟩ := h
    have he : e = 0 := by omega
    subst he
    obtain ⟨q, v, h4, h5, h6, h7, _, h8⟩ := getL_ok _ _ _ _ _ (by omega) (by omega) hg
    rw [List.length_drop] at h5
    refine ⟨k, k + q, rfl, ?_, by omega, by omega, ?_, h8⟩
    · rw [← h2, if_pos rfl]
      omega
    · rw [List.drop_take, Nat.add_sub_cancel_left, h7]
      congr 1
      simp at h6
      omega

end Go.Proofs.Ytmpdenpopokigaa
