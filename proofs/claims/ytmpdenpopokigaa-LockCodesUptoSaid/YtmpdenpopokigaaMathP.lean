/- The parts of bytes: how long, how many. No condition. -/
import Derived.Test.YtmpdenpopokigaaParts
namespace Go.Proofs.Ytmpdenpopokigaa
open Go Go.RowKit

theorem partsF_len {xs : List UInt8} : ∀ (f p : Nat) (acc : List (List UInt8)), (∀ x ∈ acc, (x : List UInt8).length ≤ xs.length) → ∀ x ∈ (partsF xs f p acc).1, (x : List UInt8).length ≤ xs.length
  | 0, p, acc, h => by
    rw [partsF]
    split
    · simp
    · exact h
  | f + 1, p, acc, h => by
    rw [partsF]
    split
    · split
      · simp
      · split
        · simp
        · refine partsF_len f _ _ fun x hx => ?_
          rcases List.mem_append.1 hx with e | e
          · exact h x e
          · rw [List.mem_singleton.1 e, List.length_take, List.length_drop]
            omega
    · exact h
theorem parts_len (xs : List UInt8) : ∀ x ∈ (parts xs).1, (x : List UInt8).length ≤ xs.length := partsF_len _ _ _ (by simp)

theorem partsF_count {xs : List UInt8} : ∀ (f p : Nat) (acc : List (List UInt8)), (partsF xs f p acc).1.length ≤ acc.length + f
  | 0, p, acc => by
    rw [partsF]
    split <;> simp
  | f + 1, p, acc => by
    rw [partsF]
    split
    · split
      · simp
      · split
        · simp
        · have := partsF_count (xs := xs) f ((getU xs p).2.1.toNat + (getU xs p).1) (acc ++ [(xs.drop (getU xs p).2.1.toNat).take (getU xs p).1])
          simp only [List.length_append, List.length_cons, List.length_nil] at this
          omega
    · simp only
      omega
theorem parts_count (xs : List UInt8) : (parts xs).1.length ≤ xs.length := by
  have := partsF_count (xs := xs) xs.length 0 []
  simpa [parts] using this
end Go.Proofs.Ytmpdenpopokigaa
