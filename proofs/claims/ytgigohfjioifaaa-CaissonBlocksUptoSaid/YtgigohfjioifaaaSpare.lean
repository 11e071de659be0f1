/- The reference's Spare, Kept and Over: a copy with marked room behind it; is it as it was made; each byte turned. -/
import Derived.Test.YtgigohfjioifaaaPool
import Derived.Test.YtgigohfjioifaaaNext
import Derived.Deep.QuietTactic
import Derived.BigQuiet
import Derived.IntWalk
import Derived.Laws.CopyOwn
namespace Go.Proofs.Ytgigohfjioifaaa
open Go Go.RowKit

/-- What the marked room holds at place i. -/
def sp (i : Nat) : UInt8 := bt (160 + i % 31)
def room (n k : Nat) : List UInt8 := (List.range k).map fun j => sp (n + j)
theorem room_len (n k : Nat) : (room n k).length = k := by simp [room]
theorem room_succ (n k : Nat) : room n (k + 1) = room n k ++ [sp (n + k)] := by simp [room, List.range_succ]
theorem room_at (n k j : Nat) (h : j < k) : (room n k)[j]? = some (sp (n + j)) := by simp [room, h]
theorem sp_val (i : Nat) : ((sp i).toNat : Int) = 160 + (i : Int) % 31 := by
  rw [sp, bt_nat _ (by omega)]
  omega
/-- 'Two slices into a new row: the copy, and the whole with the marked room.' -/
def RetSp (w : World) (xs : List UInt8) (n : Nat) (e : Ending) (w' : World) : Prop :=
  ∃ g, e = .returned (.tuple #[.slice (some ⟨g, 0, none⟩) n (n + 40), .slice (some ⟨g, 0, none⟩) (n + 40) (n + 40)]) ∧ Own 5 w' w.heap.size (some ⟨g, 0, none⟩) (n + 40) (n + 40) (xs ++ room n 40) ∧ Below w.heap.size w w'

theorem own_block {e : TypeId} {w : World} {base g n : Nat} {xs : List UInt8} {vs : List Value} (h : w.heap[g]? = some (.cells vs.toArray e (0, 0))) (hv : vs = xs.map cv) (hn : xs.length = n) (hm : n ≤ maxLen) (hb : base ≤ g) : Own e w base (some ⟨g, 0, none⟩) n n xs := by
  subst hv
  refine ⟨by simp [hn], .inr ⟨g, n, _, rfl, hb, h, Nat.le_refl _, hm, by simp [hn], ?_⟩⟩
  simp only [Nat.mul_one]
  exact List.take_of_length_le (by simp [hn])
theorem Own.full {e : TypeId} {w : World} {base g n : Nat} {xs : List UInt8} (h : Own e w base (some ⟨g, 0, none⟩) n n xs) : w.heap[g]? = some (.cells (xs.map cv).toArray e (0, 0)) ∧ base ≤ g := by
  rcases h.2 with ⟨h1, _⟩ | ⟨g', cap, cur, h1, h2, h3, h4, h5, h6, h7⟩
  · injection h1 with h1; cases h1
  · injection h1 with h1 _ h8
    injection h1 with h1
    injection h1 with h1
    subst h1 h8
    have hc : cur = (xs.map cv).toArray := by
      rw [← h7, List.take_of_length_le (by simp; omega)]
    rw [← hc]
    exact ⟨h3, h2⟩

end Go.Proofs.Ytgigohfjioifaaa
