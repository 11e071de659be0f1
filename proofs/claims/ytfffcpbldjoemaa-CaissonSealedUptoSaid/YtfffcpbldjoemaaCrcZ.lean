/- Sealed records behind one another, and any beginning of them: what opens. No condition but that each is of a record's size. -/
import Derived.Test.YtfffcpbldjoemaaCrcA
namespace Go.Proofs.Ytfffcpbldjoemaa
open Go Go.RowKit

/-- Sealed records behind one another. -/
def catB (l : List (List UInt8)) : List UInt8 := (l.map sealB).flatten
theorem catB_nil : catB [] = [] := rfl
theorem catB_cons (r : List UInt8) (l : List (List UInt8)) : catB (r :: l) = sealB r ++ catB l := by simp [catB]
theorem catB_app (a b : List (List UInt8)) : catB (a ++ b) = catB a ++ catB b := by simp [catB]
theorem catB_snoc (a : List (List UInt8)) (r : List UInt8) : catB (a ++ [r]) = catB a ++ sealB r := by simp [catB]
theorem catB_len : ∀ l : List (List UInt8), (catB l).length = (l.map fun r => 8 + r.length).sum
  | [] => rfl
  | r :: l => by rw [catB_cons, List.length_append, sealB_len, catB_len l, List.map_cons, List.sum_cons]
theorem catB_ge : ∀ l : List (List UInt8), l.length ≤ (catB l).length
  | [] => Nat.zero_le _
  | r :: l => by
    have := catB_ge l
    rw [catB_cons, List.length_append, sealB_len, List.length_cons]
    omega
theorem catB_tot : ∀ l : List (List UInt8), (catB l).length ≤ 8 * tot l
  | [] => by simp [catB, tot]
  | r :: l => by
    have := catB_tot l
    rw [catB_cons, List.length_append, sealB_len, tot]
    omega
/-- A record that isn't there whole. -/
def Bad (T : List UInt8) : Prop := ∃ (r : List UInt8) (t : Nat), r.length ≤ 1048576 ∧ t < 8 + r.length ∧ T = (sealB r).take t
theorem bad_nil : Bad [] := ⟨[], 0, by simp, by simp, by simp⟩
theorem openG_at (A r R : List UInt8) (hr : r.length ≤ 1048576) : openG (A ++ (sealB r ++ R)) ((A.length : Nat) : Int) = (r, ((A.length + 8 + r.length : Nat) : Int), 0) := by
  have hl := sealB_len r
  have hlen : (A ++ (sealB r ++ R)).length = A.length + (8 + r.length + R.length) := by simp only [List.length_append, hl]
  have hd : (A ++ (sealB r ++ R)).drop A.length = sealB r ++ R := List.drop_left' rfl
  have hm : r.length = numK ((A ++ (sealB r ++ R)).drop A.length) 4 := by
    rw [hd, sealB, List.append_assoc, numK_fourB _ _ (by omega)]
  have h2 : (A ++ (sealB r ++ R)).take (A.length + 8 + r.length) = A ++ sealB r := by
    rw [← List.append_assoc]
    exact List.take_left' (by simp only [List.length_append, hl]; omega)
  have h3 : (A ++ sealB r).drop A.length = sealB r := List.drop_left' rfl
  have h4 : (A ++ sealB r).drop (A.length + 8) = r := by
    unfold sealB
    rw [← List.append_assoc, ← List.append_assoc]
    exact List.drop_left' (by simp only [List.length_append, fourB_len])
  rw [openG_whole (a := A.length) hlen hm (by omega) (by omega), h2, h3, h4, eqB_self, if_pos rfl]
theorem openG_bad_at (A T : List UInt8) (h : Bad T) : (openG (A ++ T) ((A.length : Nat) : Int)).2.2 ≠ 0 := by
  obtain ⟨r, t, hr, ht, rfl⟩ := h
  have hl := sealB_len r
  have hlen : (A ++ (sealB r).take t).length = A.length + t := by simp only [List.length_append, List.length_take, hl]; omega
  by_cases h8 : t < 8
  · rw [openG_end (a := A.length) hlen (by omega) (by omega)]
    decide
  · have hd : (A ++ (sealB r).take t).drop A.length = (sealB r).take t := List.drop_left' rfl
    have hm : r.length = numK ((A ++ (sealB r).take t).drop A.length) 4 := by
      rw [hd, numK_take4 _ _ (by omega), sealB, numK_fourB _ _ (by omega)]
    rw [openG_cut (a := A.length) hlen (by omega) hm (by omega) (by omega)]
    decide
theorem oaF_bad {xs : List UInt8} {p : Nat} (h : (openG xs p).2.2 ≠ 0) : ∀ (f : Nat) (acc : List (List UInt8)), oaF xs f p acc = (acc, p)
  | 0, acc => rfl
  | f + 1, acc => by rw [oaF, if_neg h]
theorem oaF_cat {T : List UInt8} (hT : Bad T) : ∀ (l : List (List UInt8)) (A : List UInt8) (acc : List (List UInt8)) (f : Nat), (∀ r ∈ l, r.length ≤ 1048576) → l.length ≤ f →
    oaF (A ++ (catB l ++ T)) f A.length acc = (acc ++ l, A.length + (catB l).length)
  | [], A, acc, f, _, _ => by
    rw [catB_nil, List.nil_append, oaF_bad (openG_bad_at A T hT), List.append_nil]
    rfl
  | r :: l, A, acc, f, hr, hf => by
    obtain ⟨f, rfl⟩ : ∃ g, f = g + 1 := ⟨f - 1, by simp only [List.length_cons] at hf; omega⟩
    have hl := sealB_len r
    have e : A ++ (catB (r :: l) ++ T) = (A ++ sealB r) ++ (catB l ++ T) := by rw [catB_cons]; simp only [List.append_assoc]
    have e2 : A ++ (catB (r :: l) ++ T) = A ++ (sealB r ++ (catB l ++ T)) := by rw [catB_cons]; simp only [List.append_assoc]
    have hg := openG_at A r (catB l ++ T) (hr r (List.mem_cons_self ..))
    rw [← e2] at hg
    rw [oaF_next hg, e, show A.length + 8 + r.length = (A ++ sealB r).length by rw [List.length_append, hl]; omega,
      oaF_cat hT l (A ++ sealB r) (acc ++ [r]) f (fun q hq => hr q (List.mem_cons_of_mem _ hq)) (by simp only [List.length_cons] at hf; omega)]
    rw [catB_cons, List.append_assoc, List.length_append, List.length_append]
    rw [Nat.add_assoc]
    rfl
/-- What opens of whole records and a torn one. -/
theorem openAll_cat {T : List UInt8} (hT : Bad T) (l : List (List UInt8)) (hl : ∀ r ∈ l, r.length ≤ 1048576) : openAllG (catB l ++ T) = (l, (catB l).length) := by
  have h := oaF_cat hT l [] [] ((catB l ++ T).length + 1) hl (by have := catB_ge l; rw [List.length_append]; omega)
  simpa [openAllG] using h
theorem openAll_whole (l : List (List UInt8)) (hl : ∀ r ∈ l, r.length ≤ 1048576) : openAllG (catB l) = (l, (catB l).length) := by
  have h := openAll_cat bad_nil l hl
  rwa [List.append_nil] at h
/-- Any beginning of records behind one another: some whole ones, and a torn one. -/
theorem catB_take : ∀ (l : List (List UInt8)) (k : Nat), (∀ r ∈ l, r.length ≤ 1048576) → ∃ (j : Nat) (T : List UInt8), j ≤ l.length ∧ Bad T ∧ (catB l).take k = catB (l.take j) ++ T ∧ ∀ i, i ≤ l.length → (catB (l.take i)).length ≤ k → i ≤ j
  | [], k, _ => ⟨0, [], Nat.le_refl _, bad_nil, by simp [catB], fun i hi _ => hi⟩
  | r :: l, k, h => by
    have hl := sealB_len r
    by_cases hk : k < 8 + r.length
    · refine ⟨0, (sealB r).take k, Nat.zero_le _, ⟨r, k, h r (List.mem_cons_self ..), hk, rfl⟩, ?_, fun i _ hi2 => ?_⟩
      · rw [catB_cons, List.take_append_of_le_length (by omega), List.take_zero, catB_nil, List.nil_append]
      · cases i with
        | zero => exact Nat.le_refl _
        | succ i => rw [List.take_succ_cons, catB_cons, List.length_append, hl] at hi2; omega
    · obtain ⟨j, T, h1, h2, h3, h4⟩ := catB_take l (k - (8 + r.length)) (fun q hq => h q (List.mem_cons_of_mem _ hq))
      refine ⟨j + 1, T, by simp only [List.length_cons]; omega, h2, ?_, fun i hi hi2 => ?_⟩
      · rw [catB_cons, List.take_append, List.take_of_length_le (by omega), hl, h3, List.take_succ_cons, catB_cons, List.append_assoc]
      · cases i with
        | zero => omega
        | succ i =>
          rw [List.take_succ_cons, catB_cons, List.length_append, hl] at hi2
          have := h4 i (by simp only [List.length_cons] at hi; omega) (by omega)
          omega
theorem catB_take_app {l : List (List UInt8)} {i : Nat} : catB l = catB (l.take i) ++ catB (l.drop i) := by rw [← catB_app, List.take_append_drop]
end Go.Proofs.Ytfffcpbldjoemaa
