/- The reference's disk: New. -/
import Derived.Test.YtjpnfhfeabdhiaaDskY
import Derived.OwnWalk
import Derived.Handy
namespace Go.Proofs.Ytjpnfhfeabdhiaa
open Go Go.RowKit Go.Maps

set_option maxRecDepth 100000 in
set_option maxHeartbeats 1000000 in
theorem refNew_any (n : Int) (w : World) (hn : I64 n) :
    Calls Try.prog 19 #[.int .i64 n] w fun e w' => e = .returned (.agg #[.slice none 0 0, .int .i64 (n.toNat : Int), .int .i64 (-1), .bool false]) ∧ Below w.heap.size w w' := by
  unfold I64 at hn
  by_cases h0 : n < 0
  · have t0 : decide (n < 0) = true := by simpa using h0
    have h2 : (n.toNat : Int) = 0 := by omega
    rw [h2]
    go_enter Try.func19, Try.ntmps19
    go_wp2
    first | go_ret3 | go_returns
    exact ⟨rfl, (Below.refl _ _).alloc (Nat.le_refl _) _⟩
  · have t0 : decide (n < 0) = false := by simpa using h0
    have h2 : (n.toNat : Int) = n := by omega
    rw [h2]
    go_enter Try.func19, Try.ntmps19
    go_wp2
    first | go_ret3 | go_returns
    exact ⟨rfl, (Below.refl _ _).alloc (Nat.le_refl _) _⟩
end Go.Proofs.Ytjpnfhfeabdhiaa
