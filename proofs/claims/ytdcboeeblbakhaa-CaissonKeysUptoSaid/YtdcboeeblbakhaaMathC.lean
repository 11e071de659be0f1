/- Keys of a text, a number and bytes, one behind the other: how they compare, and that they are read back. No condition. -/
import Derived.Test.YtdcboeeblbakhaaKeyT
import Derived.Test.YtdcboeeblbakhaaMathO
namespace Go.Proofs.Ytdcboeeblbakhaa
open Go Go.RowKit

theorem cmpB_app : ∀ (xs ys r s : List UInt8), xs.length = ys.length → cmpB (xs ++ r) (ys ++ s) = if cmpB xs ys = 0 then cmpB r s else cmpB xs ys
  | [], [], r, s, _ => by simp [cmpB]
  | x :: xs, [], _, _, h => by simp at h
  | [], y :: ys, _, _, h => by simp at h
  | x :: xs, y :: ys, r, s, h => by
    rw [List.cons_append, List.cons_append]
    rcases Nat.lt_trichotomy x.toNat y.toNat with h1 | h1 | h1
    · rw [cmpB_lt _ _ h1, cmpB_lt _ _ h1]; rfl
    · rw [cmpB_eq _ _ h1, cmpB_eq _ _ h1]
      exact cmpB_app xs ys r s (by simpa using h)
    · rw [cmpB_gt _ _ h1, cmpB_gt _ _ h1]; rfl
theorem cmpB_ordT1 (xs ys : List UInt8) : cmpB (ordT xs) (ordT ys) = cmpB xs ys := by
  have h := cmpB_ordT xs ys [] []
  simp only [List.append_nil] at h
  rw [h]
  split
  · next h0 => rw [h0]; rfl
  · rfl
theorem cmpB_key2 (s t : ByteArray) (q r : List UInt8) : cmpB (keyB s ++ q) (keyB t ++ r) = if cmpB (keyB s) (keyB t) = 0 then cmpB q r else cmpB (keyB s) (keyB t) := by
  have h1 : cmpB (keyB s) (keyB t) = if cmpB (foldB s) (foldB t) = 0 then cmpB s.data.toList t.data.toList else cmpB (foldB s) (foldB t) := by
    unfold keyB
    rw [cmpB_ordT, cmpB_ordT1]
  rw [h1]
  unfold keyB
  rw [List.append_assoc, List.append_assoc, cmpB_ordT, cmpB_ordT]
  by_cases h2 : cmpB (foldB s) (foldB t) = 0
  · rw [if_pos h2, if_pos h2]
  · rw [if_neg h2, if_neg h2, if_neg h2]
theorem cmpB_num (n m : Nat) (hn : n < B64) (hm : m < B64) : cmpB (ordU n) (ordU m) = if n = m then 0 else if n < m then -1 else 1 := by
  have h1 := ordU_lt n m hn hm
  have h2 := ordU_lt m n hm hn
  rw [cmpB_swap (ordU n) (ordU m)] at h2
  have h3 := cmpB_range (ordU n) (ordU m)
  by_cases h : n = m
  · rw [if_pos h]; subst h; exact cmpB_self _
  · rw [if_neg h]
    by_cases hl : n < m
    · rw [if_pos hl]
      have := h1.2 hl
      omega
    · rw [if_neg hl]
      have := h2.2 (by omega)
      omega

/-- The key of a text, a number and bytes. -/
def tri (a : ByteArray) (x : Int) (b : ByteArray) : List UInt8 := (keyB a ++ ordU (up x)) ++ ordT b.data.toList
theorem up_eq {x y : Int} (hx : I64 x) (hy : I64 y) : up x = up y ↔ x = y := by
  unfold I64 at hx hy
  unfold up
  omega
theorem up_less {x y : Int} (hx : I64 x) (hy : I64 y) : up x < up y ↔ x < y := by
  unfold I64 at hx hy
  unfold up
  omega
theorem cmpB_tri (a b : ByteArray) (x y : Int) (hx : I64 x) (hy : I64 y) :
    cmpB (tri a x b) (tri b y a) = if cmpB (keyB a) (keyB b) = 0 then (if x = y then cmpB b.data.toList a.data.toList else if x < y then -1 else 1) else cmpB (keyB a) (keyB b) := by
  unfold tri
  rw [List.append_assoc, List.append_assoc, cmpB_key2]
  by_cases h : cmpB (keyB a) (keyB b) = 0
  · rw [if_pos h, if_pos h, cmpB_app _ _ _ _ (by rw [ordU_len, ordU_len]), cmpB_num _ _ (up_lt hx) (up_lt hy), cmpB_ordT1]
    by_cases he : x = y
    · subst he; rw [if_pos rfl, if_pos rfl, if_pos rfl]
    · rw [if_neg he, if_neg (fun h => he ((up_eq hx hy).1 h))]
      by_cases hl : x < y
      · rw [if_pos hl, if_pos ((up_less hx hy).2 hl)]; rfl
      · rw [if_neg hl, if_neg (fun h => hl ((up_less hx hy).1 h))]; rfl
  · rw [if_neg h, if_neg h]
theorem fromK_key2 (s : ByteArray) (r : List UInt8) : fromK (keyB s ++ r) 0 = (s.data.toList, ((keyB s).length : Int), 0) := by
  have h1 : getT (keyB s ++ r) 0 = (foldB s, ((ordT (foldB s)).length : Int), 0) := by
    have := getT_ordT [] (foldB s) (ordT s.data.toList ++ r)
    simpa [keyB] using this
  have h2 : getT (keyB s ++ r) ((ordT (foldB s)).length : Int) = (s.data.toList, ((keyB s).length : Int), 0) := by
    have := getT_ordT (ordT (foldB s)) s.data.toList r
    simpa [keyB] using this
  exact fromK_ok h1 h2 (by rw [bs_of])
theorem tri_1 (a : ByteArray) (x : Int) (b : ByteArray) : fromK (tri a x b) 0 = (a.data.toList, ((keyB a).length : Int), 0) := by
  unfold tri
  rw [List.append_assoc]
  exact fromK_key2 a _
theorem tri_2 (a : ByteArray) (x : Int) (b : ByteArray) (hx : I64 x) : getO (tri a x b) ((keyB a).length : Int) = (up x, ((keyB a).length : Int) + 8, 0) := by
  rw [getO_in (by simp only [tri, List.length_append, ordU_len]; omega)]
  have e : ((tri a x b).drop (keyB a).length).take 8 = ordU (up x) := by
    unfold tri
    rw [List.append_assoc, List.drop_left]
    exact List.take_left' (ordU_len _)
  rw [e, vr_ordU _ (up_lt hx)]
theorem tri_3 (a : ByteArray) (x : Int) (b : ByteArray) : getT (tri a x b) (((keyB a).length : Int) + 8) = (b.data.toList, ((tri a x b).length : Int), 0) := by
  have h := getT_ordT (keyB a ++ ordU (up x)) b.data.toList []
  rw [List.append_nil] at h
  have e : (((keyB a ++ ordU (up x)).length : Nat) : Int) = ((keyB a).length : Int) + 8 := by rw [List.length_append, ordU_len]; omega
  rw [e] at h
  unfold tri
  rw [h, ← List.length_append]
theorem eqB_key (a b : ByteArray) (d : Bool) (hd : (a.toList == b.toList) = d) : eqB (keyB a) (keyB b) = d := by
  subst hd
  by_cases h : a = b
  · subst h; simp [eqB]
  · rw [str_ne h]
    unfold eqB
    rw [beq_eq_false_iff_ne]
    intro e
    have h1 := fromK_key a
    rw [e, fromK_key b] at h1
    simp only [Prod.mk.injEq] at h1
    exact h (WideShapes.bytes_inj h1.1.symm)

end Go.Proofs.Ytdcboeeblbakhaa
