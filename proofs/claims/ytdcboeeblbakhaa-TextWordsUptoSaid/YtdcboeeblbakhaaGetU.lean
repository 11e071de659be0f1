/- codec.GetU and the reference's GetU return the number at a place, and the place behind it, or the error. -/
import Derived.Test.YtdcboeeblbakhaaMem
namespace Go.Proofs.Ytdcboeeblbakhaa
open Go Go.RowKit

theorem outside_yes (A : Option Addr) (n c : Nat) (t : Int) (w : World) (h : t < 0 ∨ (n : Int) < t) :
    Calls Try.prog 38 #[.slice A n c, .int .i64 t] w fun e w' => e = .returned (.bool true) ∧ w = w' := by
  by_cases h0 : t < 0
  · go_enter Try.func38, Try.ntmps38
    go_wp2
    go_ret
    exact ⟨rfl, rfl⟩
  · have h1 : (n : Int) < t := by omega
    go_enter Try.func38, Try.ntmps38
    go_wp2
    go_ret
    exact ⟨rfl, rfl⟩

theorem outside_no (A : Option Addr) (n c : Nat) (t : Int) (w : World) (h0 : 0 ≤ t) (h1 : t ≤ (n : Int)) :
    Calls Try.prog 38 #[.slice A n c, .int .i64 t] w fun e w' => e = .returned (.bool false) ∧ w = w' := by
  have hd : ¬ t < 0 := by omega
  have hd1 : decide ((n : Int) < t) = false := by simp; omega
  go_enter Try.func38, Try.ntmps38
  go_wp2
  go_ret
  exact ⟨rfl, rfl⟩

/-- 'It hands back these three numbers, and leaves memory alone.' -/
def RetG (w : World) (g : Nat × Int × Int) (e : Ending) (w' : World) : Prop :=
  e = .returned (.tuple #[.int .u64 (g.1 : Int), .int .i64 g.2.1, .int .i64 g.2.2]) ∧ w = w'

theorem retG_mk {w : World} {g : Nat × Int × Int} {a' : Nat} {b' c' a b c : Int} (hg : g = (a', b', c')) (ha : a = (a' : Int)) (hb : b = b') (hc : c = c') :
    RetG w g (.returned (.tuple #[.int .u64 a, .int .i64 b, .int .i64 c])) w := by
  subst hg ha hb hc
  exact ⟨rfl, rfl⟩

end Go.Proofs.Ytdcboeeblbakhaa
