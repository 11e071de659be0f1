/- The reference's Apart returns true for lists that share no memory, each in a row of the call's own. -/
import Derived.Test.YtgccbghaibddcaaStage
import Derived.Test.YtgccbghaibddcaaNext
import Derived.Deep.RegionHeld3
import Derived.IntWalk
namespace Go.Proofs.Ytgccbghaibddcaa
open Go Go.RowKit

theorem info_row : (Try.prog.info? 30).map (fun i => (i.zero, i.size, i.bytes)) = some (some (.slice none 0 0), 1, 24) := by kernel_rfl

theorem mark_is (i j : Nat) (a b : Int) (w : World) (ha : a = (i : Int)) (hb : b = (j : Int)) (hi : i ≤ 1099511627776) (hj : j ≤ 1099511627776) :
    Calls Try.prog 54 #[.int .i64 a, .int .i64 b] w fun e w' => e = .returned (.int .u8 ((mk i j).toNat : Int)) ∧ w = w' := by
  have hv : ∀ z : Int, z = ((17 * i + 3 * j + 1 : Nat) : Int) % 256 → Ending.returned (.int .u8 z) = .returned (.int .u8 ((mk i j).toNat : Int)) := fun z hz => by
    rw [hz, mk, bt_mod]
    rfl
  have Hv := Lib.hid hv
  have h1 : 0 ≤ a ∧ a ≤ 1099511627776 := by omega
  have h2 : 0 ≤ b ∧ b ≤ 1099511627776 := by omega
  obtain ⟨h1, h3⟩ := h1
  obtain ⟨h2, h4⟩ := h2
  have Ha := Lib.hid ha
  have Hb := Lib.hid hb
  clear hv ha hb hi hj
  go_enter Try.func54, Try.ntmps54
  go_wp2
  go_ret
  refine ⟨Hv.out _ ?_, rfl⟩
  have := Ha.out
  have := Hb.out
  try rw [IntKind.wrap_u8]
  omega

/-- 'Each of these slices is a row of the call's own, and p holds of what it holds.' -/
def Pre (w : World) (base : Nat) (svs : List Value) (p : Nat → Nat → List UInt8 → Prop) : Prop := ∀ (i : Nat) (v : Value), svs[i]? = some v → ∃ A m c xs, v = .slice A m c ∧ Own 5 w base A m c xs ∧ p i m xs
def DisS (svs : List Value) : Prop := ∀ (i : Nat) (v : Value) (i' : Nat) (v' : Value) (b : Nat), svs[i]? = some v → svs[i']? = some v' → Value.ownBlock v = some b → Value.ownBlock v' = some b → i = i'
def pst (i j i' m : Nat) (xs : List UInt8) : Prop := (i' < i → xs = marks i' m) ∧ (i' = i → xs.take j = marks i j)

theorem Pre.set {w : World} {base : Nat} {svs : List Value} {p p' : Nat → Nat → List UInt8 → Prop} (h : Pre w base svs p) (hd : DisS svs) {i g m c : Nat} (hi : svs[i]? = some (.slice (some ⟨g, 0, none⟩) m c)) (j : Nat) (x : UInt8) (z : Int) (hz : z = (x.toNat : Int))
    (hp : ∀ xs, xs.length = m → p i m xs → p' i m (xs.set j x)) (hq : ∀ i' m' xs, i' ≠ i → p i' m' xs → p' i' m' xs) : Pre (w.setCell ⟨g, j, none⟩ (.int .u8 z)) base svs p' := by
  intro i' v hv
  obtain ⟨A, m', c', xs, rfl, ho, hx⟩ := h i' v hv
  by_cases e : i' = i
  · subst e
    rw [hi] at hv
    injection hv with hv
    injection hv with e1 e2 e3
    subst e1 e2 e3
    exact ⟨_, _, _, _, rfl, ho.set_ j x z hz, hp _ ho.len hx⟩
  · refine ⟨A, m', c', xs, rfl, ?_, hq i' m' xs e hx⟩
    obtain ⟨A0, m0, c0, xs0, e0, ho0, _⟩ := h i _ hi
    injection e0 with e1 e2 e3
    subst e1 e2 e3
    refine ho.kept (World.ownsRow.stored ho0 j (.int .u8 z)).2 (fun b hb hg => e ?_)
    injection hg with hg
    subst hg
    exact hd i' _ i _ g hv hi (by rw [own_blk]; exact hb) rfl

theorem grown_set {e : TypeId} {w : World} {base n c g : Nat} {xs : List UInt8} (h : Own e w base (some ⟨g, 0, none⟩) n c xs) (j : Nat) (v : Value) : w.grownBy (w.setCell ⟨g, j, none⟩ v) (some g) := (World.ownsRow.stored h j v).2

theorem set_take (xs : List UInt8) (i j : Nat) (h : xs.take j = marks i j) (hj : j < xs.length) : (xs.set j (mk i j)).take (j + 1) = marks i (j + 1) := by
  rw [marks_succ, ← h, List.take_add_one, List.getElem?_set_self hj]
  simp [List.take_set_of_le]

end Go.Proofs.Ytgccbghaibddcaa
