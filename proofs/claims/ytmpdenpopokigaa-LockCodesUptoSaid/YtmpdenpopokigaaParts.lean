/- The reference's Equals is true of lists that read alike; codec.Parts and the reference's Parts return the parts of a frame in new memory, or the error. -/
import Derived.Test.YtmpdenpopokigaaFrame
import Derived.Test.YtmpdenpopokigaaGetU
import Derived.Test.YtmpdenpopokigaaBcmp
namespace Go.Proofs.Ytmpdenpopokigaa
open Go Go.RowKit

theorem getU_err {xs : List UInt8} {p : Nat} (h : p ≤ xs.length) {m : Nat} {nx e : Int} (hg : getU xs p = (m, nx, e)) (he : e = 0) : ∃ k : Nat, nx = (k : Int) ∧ p < k ∧ k ≤ xs.length ∧ m < B64 := by
  subst he
  obtain ⟨k, k', h1, h2, h3, h4, h5, h6⟩ := getU_ok hg
  have hk : k = p := by omega
  subst hk
  refine ⟨k', h2, ?_, h4, h6⟩
  have := congrArg List.length h5
  rw [List.length_drop, List.length_take, Nat.min_eq_left h4] at this
  have := putU_pos m
  omega

end Go.Proofs.Ytmpdenpopokigaa
