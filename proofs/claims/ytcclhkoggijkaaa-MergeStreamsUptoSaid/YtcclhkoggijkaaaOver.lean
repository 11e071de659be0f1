/- Over at any row of the call's own. No condition. -/
import Derived.Test.YtcclhkoggijkaaaKept
import Derived.Test.YtcclhkoggijkaaaAwake
namespace Go.Proofs.Ytcclhkoggijkaaa
open Go Go.RowKit

set_option maxRecDepth 100000 in
set_option maxHeartbeats 2000000 in
theorem Over_some (g n c base : Nat) (xs : List UInt8) (w : World) (ho : Own 5 w base (some ⟨g, 0, none⟩) n c xs) (hn : n ≤ 1099511627776) :
    Calls Try.prog 29 #[.slice (some ⟨g, 0, none⟩) n c] w fun e w' => e = .returned (.tuple #[]) ∧ w.grownBy w' (some g) := by
  go_enter Try.func29, Try.ntmps29
  go_wp2
  go_loopw [2] (fun vi wr => ∃ (i : Nat) (ys : List UInt8), vi = .int .i64 i ∧ i ≤ n ∧ Own 5 wr base (some ⟨g, 0, none⟩) n c ys ∧ w.grownBy wr (some g)) (fun vi _ => n - (intOf vi).toNat)
  case atStart => exact ⟨0, xs, rfl, Nat.zero_le _, ho, World.grownBy.refl w _⟩
  case round =>
    obtain ⟨i, ys, rfl, hi, hO, hg⟩ := hrel
    by_cases hlt : i < n
    · obtain ⟨x, _, hc0, _⟩ := hO.rd.at_ i (by omega)
      rw [Nat.zero_add] at hc0
      have fz := hO.thawed i
      obtain ⟨y, hy⟩ := u8_xor90 x.toNat (UInt8.toNat_lt x)
      have h1 := hO.set_ i y _ rfl
      have h2 := hg.trans (World.ownsRow.stored hO i (.int .u8 (y.toNat : Int))).2
      have H1 := Lib.hid h1
      have H2 := Lib.hid h2
      clear h1 h2
      go_wp2
      go_roundw
      case rel => exact ⟨i + 1, _, by go_num, by omega, H1.out, H2.out⟩
      case measure => simp [intOf]; omega
    · go_wp2
      go_end0
      exact ⟨rfl, hg⟩
theorem Over_none (c : Nat) (w : World) : Calls Try.prog 29 #[.slice none 0 c] w fun e w' => e = .returned (.tuple #[]) ∧ w' = w := by
  go_enter Try.func29, Try.ntmps29
  go_wp2
  go_loopw [2] (fun vi wr => vi = .int .i64 0 ∧ wr = w) (fun _ _ => 0)
  case atStart => exact ⟨rfl, rfl⟩
  case round =>
    obtain ⟨rfl, rfl⟩ := hrel
    go_wp2
    go_end0
    exact ⟨rfl, rfl⟩
/-- Over at a row of the call's own: nothing but its block is turned. -/
theorem Over_own (A : Option Addr) (n c base : Nat) (xs : List UInt8) (w : World) (ho : Own 5 w base A n c xs) (hn : n ≤ 1099511627776) :
    Calls Try.prog 29 #[.slice A n c] w fun e w' => e = .returned (.tuple #[]) ∧ w.grownBy w' (blk A) := by
  cases hA : blk A with
  | none =>
    obtain ⟨rfl, rfl, rfl⟩ := ho.nil_of hA
    exact (Over_none 0 w).mono (by rintro e w' ⟨h1, rfl⟩; exact ⟨h1, World.grownBy.refl _ _⟩)
  | some g =>
    obtain rfl := ho.at0 g hA
    exact Over_some g n c base xs w ho hn
end Go.Proofs.Ytcclhkoggijkaaa
