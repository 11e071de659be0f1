/- bytes.Clone, codec.Next and the reference's Next return their lists in new memory. -/
import Derived.Test.YtgccbghaibddcaaMem
import Derived.Test.YtgccbghaibddcaaMathN
import Derived.Lib.SliceRun
namespace Go.Proofs.Ytgccbghaibddcaa
open Go Go.RowKit

theorem Rd.take {w : World} {A : Option Addr} {n m : Nat} {xs : List UInt8} (h : Rd w A n xs) (hm : m ≤ n) : Rd w A m (xs.take m) := by
  refine ⟨by rw [List.length_take, h.1]; omega, fun hp => ?_⟩
  obtain ⟨b, off, h1, h2, h3⟩ := h.2 (by omega)
  refine ⟨b, off, h1, h2, fun i x hx => h3 i x ?_⟩
  rw [List.getElem?_take] at hx
  split at hx
  · exact hx
  · cases hx

theorem Rd.none_zero {w : World} {n : Nat} {xs : List UInt8} (h : Rd w none n xs) : n = 0 ∧ xs = [] := by
  rcases Nat.eq_zero_or_pos n with h0 | h0
  · exact ⟨h0, List.eq_nil_of_length_eq_zero (by rw [h.1, h0])⟩
  · obtain ⟨_, _, h1, _⟩ := h.2 h0
    cases h1

section
variable {e : TypeId} {w : World} {base n c : Nat} {A : Option Addr} {xs : List UInt8}
theorem Own.form (h : Own e w base A n c xs) (hn : 0 < n) : ∃ g, A = some ⟨g, 0, none⟩ ∧ base ≤ g ∧ g < w.heap.size := by
  rcases h.2 with ⟨_, h2⟩ | ⟨g, cap, cur, h1, hb, hg, _⟩
  · omega
  · injection h1 with h1 _ _
    exact ⟨g, h1, hb, (Array.getElem?_eq_some_iff.1 hg).1⟩
theorem Own.thawed {g : Nat} (h : Own e w base (some ⟨g, 0, none⟩) n c xs) (j : Nat) : w.frozen? ⟨g, j, none⟩ = false := World.ownsRow.frozenAt h j
theorem Own.set_ {g : Nat} (h : Own e w base (some ⟨g, 0, none⟩) n c xs) (j : Nat) (y : UInt8) (z : Int) (hz : z = (y.toNat : Int)) :
    Own e (w.setCell ⟨g, j, none⟩ (.int .u8 z)) base (some ⟨g, 0, none⟩) n c (xs.set j y) := by
  subst hz
  have := World.ownsRow.stored h j (cv y)
  unfold Own
  rw [List.map_set]
  exact this.1
end

theorem Clone_any (A : Option Addr) (n c : Nat) (xs : List UInt8) (w : World) (h : Rd w A n xs) (hn : n ≤ 140737488355328) (hnil : A = none → c = 0) :
    Calls Try.prog 45 #[.slice A n c] w (Made w.heap.size w xs) := by
  have Hn := Lib.hid hn
  clear hn
  have heq : ∀ (w : World) (a : Option Addr) (n c n' c' : Nat), (binOp .eql 30 (.slice a n c) (.slice none n' c')).run Try.prog w = .ok (.bool a.isNone) w := fun w a n c n' c' => Lib.run_eql_slice_nil w _ _ a n c n' c' Try.underlying30
  rcases A with _ | a
  · obtain ⟨rfl, rfl⟩ := h.none_zero
    obtain rfl := hnil rfl
    clear hnil
    go_enter Try.func45, Try.ntmps45
    go_wp2
    go_ret
    exact ⟨none, 0, 0, rfl, Own.nil _ _ _, Below.refl _ _⟩
  · clear hnil
    go_enter Try.func45, Try.ntmps45
    go_wp2_with (at_builtin; refine wpList_app _ rfl _ _ 30 rfl w.heap.size 5 Try.underlying30 info_u8 (some ⟨w.heap.size, 0, none⟩) 0 0 [] rfl (Own.lit0 _ _) (some a) n c xs rfl (h.alloc _) ?_ ?_ ?_)
    · have := Hn.out
      omega
    · simp
    · intro A2 c2 w2 ho2 hb2
      go_wp2
      go_ret
      exact ⟨A2, n, c2, rfl, by simpa using ho2, ((Below.refl _ _).alloc (Nat.le_refl _) _).trans hb2⟩

end Go.Proofs.Ytgccbghaibddcaa
