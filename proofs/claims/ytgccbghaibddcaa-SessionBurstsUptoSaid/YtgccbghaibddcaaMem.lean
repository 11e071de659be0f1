/- The reference's Copy and Equal: a copy in new memory; whether two slices read alike. -/
import Derived.Test.YtgccbghaibddcaaPut
import Derived.Deep.QuietTactic
import Derived.BigQuiet
namespace Go.Proofs.Ytgccbghaibddcaa
open Go Go.RowKit

theorem Own.lit0 (e : TypeId) (w : World) : Own e (w.alloc (.cells #[] e)) w.heap.size (some ⟨w.heap.size, 0, none⟩) 0 0 [] := by
  refine ⟨rfl, .inr ⟨w.heap.size, 0, #[], rfl, Nat.le_refl _, heap_alloc_new w _, Nat.le_refl _, by unfold maxLen; omega, rfl, rfl⟩⟩

theorem Copy_any (A : Option Addr) (n c : Nat) (xs : List UInt8) (w : World) (h : Rd w A n xs) (hn : n ≤ 140737488355328) :
    Calls Try.prog 14 #[.slice A n c] w (Made w.heap.size w xs) := by
  have Hn := Lib.hid hn
  clear hn
  go_enter Try.func14, Try.ntmps14
  go_wp2_with (at_builtin; refine wpList_app _ rfl _ _ 30 rfl w.heap.size 5 Try.underlying30 info_u8 (some ⟨w.heap.size, 0, none⟩) 0 0 [] rfl (Own.lit0 _ _) A n c xs rfl (h.alloc _) ?_ ?_ ?_)
  · have := Hn.out
    omega
  · simp
  · intro A2 c2 w2 ho2 hb2
    go_wp2
    go_ret
    exact ⟨A2, n, c2, rfl, by simpa using ho2, ((Below.refl _ _).alloc (Nat.le_refl _) _).trans hb2⟩

/-- Do two lists read alike? -/
def eqB (xs ys : List UInt8) : Bool := xs == ys
end Go.Proofs.Ytgccbghaibddcaa
