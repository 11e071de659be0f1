/- The reference's Equals is true of lists that read alike; codec.Parts and the reference's Parts return the parts of a frame in new memory, or the error. -/
import Derived.Test.YtgigohfjioifaaaFrame
import Derived.Test.YtgigohfjioifaaaGetU
import Derived.Test.YtgigohfjioifaaaBcmp
namespace Go.Proofs.Ytgigohfjioifaaa
open Go Go.RowKit

/-- 'It hands back a slice of slices of its own and an error's number; what lay below base stands.' -/
def RetP (base : Nat) (w : World) (g : List (List UInt8) × Int) (e : Ending) (w' : World) : Prop :=
  ∃ A n c, e = .returned (.tuple #[.slice A n c, .int .i64 g.2]) ∧ OwnL 22 w' base A n c g.1 ∧ Below base w w'
theorem retP_none {w w' : World} {base : Nat} {g : List (List UInt8) × Int} {e : Int} (hg : g = ([], e)) (hb : Below base w w') : RetP base w g (.returned (.tuple #[.slice none 0 0, .int .i64 e])) w' := by
  subst hg
  exact ⟨none, 0, 0, rfl, OwnL.nil _ _ _, hb⟩
theorem retP_some {w w' : World} {base n c : Nat} {A : Option Addr} {g : List (List UInt8) × Int} {v : List (List UInt8)} (hg : g = (v, 0)) (ho : OwnL 22 w' base A n c v) (hb : Below base w w') :
    RetP base w g (.returned (.tuple #[.slice A n c, .int .i64 0])) w' := by
  subst hg
  exact ⟨A, n, c, rfl, ho, hb⟩

theorem getU_err {xs : List UInt8} {p : Nat} (h : p ≤ xs.length) {m : Nat} {nx e : Int} (hg : getU xs p = (m, nx, e)) (he : e = 0) : ∃ k : Nat, nx = (k : Int) ∧ p < k ∧ k ≤ xs.length ∧ m < B64 := by
  subst he
  obtain ⟨k, k', h1, h2, h3, h4, h5, h6⟩ := getU_ok hg
  have hk : k = p := by omega
  subst hk
  refine ⟨k', h2, ?_, h4, h6⟩
  have := congrArg List.length h5
  rw [List.length_drop, List.length_take, Nat.min_eq_left h4] at this
  have := putU_pos m
  omega

end Go.Proofs.Ytgigohfjioifaaa
