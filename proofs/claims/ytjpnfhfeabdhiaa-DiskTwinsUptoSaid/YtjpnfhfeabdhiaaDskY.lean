/- The path of a name on a named disk. -/
import Derived.Test.YtjpnfhfeabdhiaaDskV
import Derived.Laws.Concat
namespace Go.Proofs.Ytjpnfhfeabdhiaa
open Go Go.RowKit Go.Maps

theorem tx_app (a b : List UInt8) : tx a ++ tx b = tx (a ++ b) := by
  apply ByteArray.ext
  rw [ByteArray.data_append]
  simp [tx]
set_option maxRecDepth 100000 in
set_option maxHeartbeats 1000000 in
theorem Path_any (v : Value) (pre x : List UInt8) (w : World) (hp : pre.length ≤ 1099511627776) (hx : x.length ≤ 1099511627776) :
    Calls Try.prog 23 #[.agg #[v, .string (tx pre)], .string (tx x)] w fun e w' => e = .returned (.string (tx (pre ++ x))) ∧ Below w.heap.size w w' := by
  have hs : (tx pre ++ tx x).size ≤ 281474976710656 := by rw [tx_app, tx_size, List.length_append]; omega
  have HS := Lib.hid hs
  have hsum : (tx pre).size + (tx x).size ≤ 9223372036854775807 := by rw [tx_size, tx_size]; omega
  have hadd := fun w => run_string_add_sum (P := Try.prog) w (tx pre) (tx x) hsum
  clear hs
  go_enter Try.func23, Try.ntmps23
  go_wp2_with fail
  refine (Dclone _ _ HS.out).mono ?_
  rintro e w1 ⟨rfl, hb1⟩
  go_wp2
  go_ret
  rw [tx_app]
  exact ⟨rfl, ((Below.refl _ _).alloc (Nat.le_refl _) _).trans (hb1.mono (by simp))⟩
end Go.Proofs.Ytjpnfhfeabdhiaa
