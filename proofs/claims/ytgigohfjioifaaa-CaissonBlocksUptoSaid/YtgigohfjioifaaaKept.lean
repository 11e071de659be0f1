/- The reference's Kept and Over: is the whole as Spare made it; each byte turned, and what stands elsewhere stands. -/
import Derived.Test.YtgigohfjioifaaaSpare
import Derived.Laws.BitsAllLaws
namespace Go.Proofs.Ytgigohfjioifaaa
open Go Go.RowKit

theorem u8_xor90 (z : Nat) (h : z < 256) : ∃ y : UInt8, bits .xor .u8 (z : Int) 90 = (y.toNat : Int) := by
  have h1 := u8_xor_nat z 90 h (by omega)
  have h2 : z ^^^ 90 < 2 ^ 8 := Nat.xor_lt_two_pow (by omega) (by omega)
  refine ⟨UInt8.ofNat (z ^^^ 90), ?_⟩
  rw [show ((90 : Nat) : Int) = 90 from rfl] at h1
  rw [h1, UInt8.toNat_ofNat']
  omega

/-- 'It hands back nothing; the row is still the call's own, of the same length; what stands elsewhere stands.' -/
def RetOv (w : World) (base : Nat) (g n : Nat) (e : Ending) (w' : World) : Prop :=
  e = .returned (.tuple #[]) ∧ ∃ ys, Own 5 w' base (some ⟨g, 0, none⟩) n n ys ∧ w.grownBy w' (some g)

set_option maxRecDepth 100000 in
set_option maxHeartbeats 2000000 in
theorem Over_any (g N n base : Nat) (xs : List UInt8) (w : World) (ho : Own 5 w base (some ⟨g, 0, none⟩) N N xs) (hn : n ≤ N) (hN : N ≤ 1099511627776) :
    Calls Try.prog 35 #[.slice (some ⟨g, 0, none⟩) n N] w (RetOv w base g N) := by
  go_enter Try.func35, Try.ntmps35
  go_wp2
  go_loopw [2] (fun vi wr => ∃ (i : Nat) (ys : List UInt8), vi = .int .i64 i ∧ i ≤ n ∧ Own 5 wr base (some ⟨g, 0, none⟩) N N ys ∧ w.grownBy wr (some g)) (fun vi _ => n - (intOf vi).toNat)
  case atStart => exact ⟨0, xs, rfl, Nat.zero_le _, ho, World.grownBy.refl w _⟩
  case round =>
    obtain ⟨i, ys, rfl, hi, hO, hg⟩ := hrel
    by_cases hlt : i < n
    · obtain ⟨x, _, hc0, _⟩ := hO.rd.at_ i (by omega)
      rw [Nat.zero_add] at hc0
      have fz := hO.thawed i
      obtain ⟨y, hy⟩ := u8_xor90 x.toNat (UInt8.toNat_lt x)
      have h1 := hO.set_ i y _ rfl
      have h2 := hg.trans (World.ownsRow.stored hO i (.int .u8 (y.toNat : Int))).2
      have H1 := Lib.hid h1
      have H2 := Lib.hid h2
      clear h1 h2
      go_wp2
      go_roundw
      case rel => exact ⟨i + 1, _, by go_num, by omega, H1.out, H2.out⟩
      case measure => simp [intOf]; omega
    · go_wp2
      go_end0
      exact ⟨rfl, ys, hO, hg⟩

end Go.Proofs.Ytgigohfjioifaaa
