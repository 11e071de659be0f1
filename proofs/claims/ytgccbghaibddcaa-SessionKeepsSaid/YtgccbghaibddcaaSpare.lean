/- The reference's Spare, Kept and Over: a copy with marked room behind it; is it as it was made; each byte turned. -/
import Derived.Test.YtgccbghaibddcaaPool
import Derived.Test.YtgccbghaibddcaaNext
import Derived.Deep.QuietTactic
import Derived.BigQuiet
import Derived.IntWalk
import Derived.Laws.CopyOwn
namespace Go.Proofs.Ytgccbghaibddcaa
open Go Go.RowKit

/-- What the marked room holds at place i. -/
def sp (i : Nat) : UInt8 := bt (160 + i % 31)
def room (n k : Nat) : List UInt8 := (List.range k).map fun j => sp (n + j)
theorem room_len (n k : Nat) : (room n k).length = k := by simp [room]
theorem room_succ (n k : Nat) : room n (k + 1) = room n k ++ [sp (n + k)] := by simp [room, List.range_succ]
theorem room_at (n k j : Nat) (h : j < k) : (room n k)[j]? = some (sp (n + j)) := by simp [room, h]
theorem sp_val (i : Nat) : ((sp i).toNat : Int) = 160 + (i : Int) % 31 := by
  rw [sp, bt_nat _ (by omega)]
  omega
/-- 'Two slices into a new row: the copy, and the whole with the marked room.' -/
def RetSp (w : World) (xs : List UInt8) (n : Nat) (e : Ending) (w' : World) : Prop :=
  ∃ g, e = .returned (.tuple #[.slice (some ⟨g, 0, none⟩) n (n + 40), .slice (some ⟨g, 0, none⟩) (n + 40) (n + 40)]) ∧ Own 5 w' w.heap.size (some ⟨g, 0, none⟩) (n + 40) (n + 40) (xs ++ room n 40) ∧ Below w.heap.size w w'

theorem own_block {e : TypeId} {w : World} {base g n : Nat} {xs : List UInt8} {vs : List Value} (h : w.heap[g]? = some (.cells vs.toArray e (0, 0))) (hv : vs = xs.map cv) (hn : xs.length = n) (hm : n ≤ maxLen) (hb : base ≤ g) : Own e w base (some ⟨g, 0, none⟩) n n xs := by
  subst hv
  refine ⟨by simp [hn], .inr ⟨g, n, _, rfl, hb, h, Nat.le_refl _, hm, by simp [hn], ?_⟩⟩
  simp only [Nat.mul_one]
  exact List.take_of_length_le (by simp [hn])
theorem Own.full {e : TypeId} {w : World} {base g n : Nat} {xs : List UInt8} (h : Own e w base (some ⟨g, 0, none⟩) n n xs) : w.heap[g]? = some (.cells (xs.map cv).toArray e (0, 0)) ∧ base ≤ g := by
  rcases h.2 with ⟨h1, _⟩ | ⟨g', cap, cur, h1, h2, h3, h4, h5, h6, h7⟩
  · injection h1 with h1; cases h1
  · injection h1 with h1 _ h8
    injection h1 with h1
    injection h1 with h1
    subst h1 h8
    have hc : cur = (xs.map cv).toArray := by
      rw [← h7, List.take_of_length_le (by simp; omega)]
    rw [← hc]
    exact ⟨h3, h2⟩

set_option maxRecDepth 100000 in
set_option maxHeartbeats 2000000 in
theorem Spare_any (B : Option Addr) (n c : Nat) (xs : List UInt8) (w : World) (hx : Rd w B n xs) (hn : n ≤ 1099511627776) : Calls Try.prog 27 #[.slice B n c] w (RetSp w xs n) := by
  obtain ⟨i0, hi0, z1, z2, z3⟩ := info_parts info_u8
  have hsum : ((n : Int) + 40) = ((n + 40 : Nat) : Int) := by omega
  have HSUM := Lib.hid hsum
  have hxl := hx.len
  have HXL := Lib.hid hxl
  have hszu : (Try.prog.info? 5).map (·.size) = some 1 := by kernel_rfl
  clear hsum hxl
  go_enter Try.func27, Try.ntmps27
  go_wp2_with (at_make; refine wpList_make_full w rfl _ _ 30 rfl w.heap.size 5 i0 (.int .u8 0) 1 Try.underlying30 hi0 z1 z2 .i64 .i64 _ _ (n + 40) rfl rfl HSUM.out HSUM.out ?_ ?_ ?_ ?_)
  · rw [z3]; omega
  · unfold maxLen; omega
  · exact Nat.le_refl _
  intro w3 hR3 hg3
  have hD3 : Own 5 w3 w.heap.size (some ⟨w.heap.size, 0, none⟩) (n + 40) (n + 40) (List.replicate (n + 40) 0) := by
    have h := hR3
    rw [toList_madeCells_one] at h
    unfold Own
    rw [List.map_replicate]
    exact h
  have hb3 : Below w.heap.size w w3 := (Below.refl _ _).grown hg3 (Nat.le_refl _) (fun k hk => by cases hk)
  obtain ⟨hblk, _⟩ := hD3.full
  obtain ⟨g, hg⟩ : ∃ g, g = w.heap.size := ⟨_, rfl⟩
  rw [← hg] at hblk ⊢
  have hgb : w.heap.size ≤ g := by omega
  have hx3 := hx.below hb3
  clear hg hR3 hg3 hD3
  go_wp2_with (with_reducible refine wpList_copy_splice rfl (.tmp 10) (.tmp 11) 30 30 rfl 5 Try.underlying30 hszu (some ⟨g, 0, none⟩) B (n + 40) (n + 40) n c rfl rfl g 0 _ 5 hblk (xs.map cv) ?_ ?_ ?_ ?_ w.heap.size w hb3 hgb ?_)
  · rw [List.length_map, HXL.out]
    show n = min n (n + 40)
    omega
  · intro hpos
    have hpos' : 0 < n := by have := HXL.out; omega
    obtain ⟨b, off, rfl, _, hc⟩ := hx3.2 hpos'
    refine ⟨_, rfl, fun j v hj => ?_⟩
    rw [Addr.add_lit]
    exact hc j v hj
  · simp only [List.length_map, HXL.out, List.length_replicate]; omega
  · exact cv_one xs
  intro w4 hw4 hb4
  have ho4 : Own 5 w4 w.heap.size (some ⟨g, 0, none⟩) (n + 40) (n + 40) (xs ++ List.replicate 40 0) := by
    refine own_block hw4.out ?_ (by simp [HXL.out]) (by unfold maxLen; omega) hgb
    unfold splice
    simp only [List.take_zero, List.nil_append, List.length_map, HXL.out, Nat.zero_add, List.map_append, List.map_replicate, List.drop_replicate]
    rw [Nat.add_sub_cancel_left]
  have HO4 := Lib.hid ho4
  have HB4 := Lib.hid hb4
  clear hw4 ho4 hb4 hb3 hblk hx3
  go_wp2
  go_loopw [5] (fun vi wr => ∃ (t : Nat) (ys : List UInt8), vi = .int .i64 ((n + t : Nat) : Int) ∧ t ≤ 40 ∧ Own 5 wr w.heap.size (some ⟨g, 0, none⟩) (n + 40) (n + 40) ys ∧ ys.take (n + t) = xs ++ room n t ∧ Below w.heap.size w wr) (fun vi _ => n + 40 - (intOf vi).toNat)
  case atStart =>
    refine ⟨0, _, rfl, by omega, HO4.out, ?_, HB4.out⟩
    rw [Nat.add_zero, List.take_left' HXL.out]
    simp [room]
  case round =>
    clear HO4 HB4
    obtain ⟨t, ys, rfl, ht, hO, hys, hb⟩ := hrel
    have HYS := Lib.hid hys
    clear hys
    by_cases ht40 : t < 40
    · obtain ⟨x, _, hc0, _⟩ := hO.rd.at_ (n + t) (by omega)
      rw [Nat.zero_add] at hc0
      have fz := hO.thawed (n + t)
      have hsz := hb.size
      have hfin : ∀ z : Int, z = 160 + ((n + t : Nat) : Int) % 31 → Own 5 (wr.setCell ⟨g, n + t, none⟩ (.int .u8 z)) w.heap.size (some ⟨g, 0, none⟩) (n + 40) (n + 40) (ys.set (n + t) (sp (n + t))) ∧ (ys.set (n + t) (sp (n + t))).take (n + (t + 1)) = xs ++ room n (t + 1) ∧ Below w.heap.size w (wr.setCell ⟨g, n + t, none⟩ (.int .u8 z)) := fun z hz => by
        refine ⟨hO.set_ (n + t) _ z (by rw [hz, sp_val]), ?_, hb.grown (World.ownsRow.stored hO (n + t) (.int .u8 z)).2 hsz (fun k hk => by injection hk with hk; omega)⟩
        rw [← Nat.add_assoc, List.take_add_one, List.getElem?_set_self (by have := hO.len; omega), List.take_set_of_le (Nat.le_refl _), HYS.out, room_succ]
        simp
      have HF := Lib.hid hfin
      clear hfin
      obtain ⟨p, hp⟩ : ∃ p, p = n + t := ⟨_, rfl⟩
      have Hp := Lib.hid hp
      rw [← hp] at hc0 fz HF ⊢
      have hp1 : p < n + 40 := by omega
      have hp2 : ((p : Int) < (n : Int) + 40) := by omega
      have hz : (0 : Int) ≤ 160 + (p : Int) % 31 ∧ 160 + (p : Int) % 31 < 256 := by omega
      clear hp
      go_wp2
      go_roundw
      case rel =>
        obtain ⟨f1, f2, f3⟩ := HF.out _ (by first | rfl | omega)
        exact ⟨t + 1, _, by rw [Hp.out]; go_num, by omega, f1, f2, f3⟩
      case measure => have := Hp.out; simp [intOf]; omega
    · obtain rfl : t = 40 := by omega
      have hsl : ∀ w, (Instr.slice 30 (.slice (some ⟨g, 0, none⟩) (n + 40) (n + 40)) none (some (.int .i64 (n : Int))) none).run Try.prog w = .ok (.slice (some ⟨g, 0, none⟩) n (n + 40)) w :=
        cut_h Try.underlying30 elem_bytes size_u8 (some ⟨g, 0, none⟩) (by omega)
      have hlen := hO.len
      rw [List.take_of_length_le (by omega)] at HYS
      go_wp2
      go_ret2
      refine ⟨g, rfl, ?_, hb⟩
      rw [← HYS.out]
      exact hO

end Go.Proofs.Ytgccbghaibddcaa
