/- The fixed fact of layer 9's statements holds. -/
import Derived.Test.YtoaajkdhlhopmaaBlF
import Derived.Test.YtoaajkdhlhopmaaAwake
namespace Go.Proofs.Ytoaajkdhlhopmaa
open Go Go.RowKit

theorem filter_ten : filterB 10 [] = [0, 0, 0, 0, 0, 0, 0, 0, 6] := by decide +kernel
theorem hash_nil : hashB [] = 14695981039346656037 := rfl
set_option maxRecDepth 100000 in
set_option maxHeartbeats 4000000 in
theorem awake9_any (w : World) : Calls Try.prog 31 #[] w (RetT w true) := by
  have HB : Hid (∀ w : World, Calls Try.prog 34 #[.int .i64 10, .slice none 0 0] w (RetBd w [0, 0, 0, 0, 0, 0, 0, 0, 6])) := Lib.hid (fun w => by
    have h := build_good none 0 0 10 w (by omega) (by omega) (by omega) [] ⟨rfl, fun h => absurd h (by omega)⟩ (fun _ h => by cases h)
    rw [filter_ten] at h
    exact h)
  have HH : Hid (∀ w : World, Calls Try.prog 32 #[.slice none 0 0] w (fun e w' => e = .returned (.int .u64 14695981039346656037) ∧ w' = w)) := Lib.hid (fun w => by
    have h := Hash_any none 0 0 [] w (Rd.nil _ _) (by unfold maxLen; omega)
    rw [hash_nil] at h
    exact h)
  go_enter Try.func31, Try.ntmps31
  go_wp2_with fail
  with_reducible refine (HB.out _).mono ?_
  rintro e w1 ⟨rfl, hc, hb⟩
  have hrd := vsB_rd hc
  go_wp2_with fail
  refine (Equal_any _ _ 9 9 9 9 [0, 0, 0, 0, 0, 0, 0, 0, 6] [0, 0, 0, 0, 0, 0, 0, 0, 6] _ (hrd.below ((Below.refl _ _).alloc (Nat.le_refl _) _)) (Rd.lit _ _ 9 [0, 0, 0, 0, 0, 0, 0, 0, 6] rfl _ rfl) (by unfold maxLen; omega) (by unfold maxLen; omega)).mono ?_
  rintro e w2 ⟨rfl, q, rfl⟩
  rw [eqB_self]
  go_wp2_with fail
  with_reducible refine (HH.out _).mono ?_
  rintro e w3 ⟨rfl, rfl⟩
  go_wp2_with fail
  go_ret
  exact ⟨rfl, below_drewN (hb.alloc (Nat.le_of_lt (by have := hc.lt; omega)) _) q⟩
end Go.Proofs.Ytoaajkdhlhopmaa
