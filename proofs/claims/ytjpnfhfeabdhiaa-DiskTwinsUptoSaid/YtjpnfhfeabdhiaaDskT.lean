/- The program's turn, New, Used, Dead and Arm. -/
import Derived.Test.YtjpnfhfeabdhiaaDskF
import Derived.RegionTactic
import Derived.BigRegion
namespace Go.Proofs.Ytjpnfhfeabdhiaa
open Go Go.RowKit Go.Maps

theorem Fr.set (w : World) (p i : Nat) (v : Value) : Fr w (w.setCell ⟨p, i, none⟩ v) [p] :=
  ⟨rfl, rfl, rfl, by simp, fun k _ hn => heap_setCell_other w ⟨p, i, none⟩ k v (by simpa using hn)⟩
/-- 'The head's block holds this now, and nothing else has turned.' -/
def Hd (w : World) (p : Nat) (vs : Array Value) (w' : World) : Prop := Fr w w' [p] ∧ w'.heap[p]? = some (.cells vs 26 (0, 0))
theorem Hd.refl {w : World} {p : Nat} {vs : Array Value} (h : w.heap[p]? = some (.cells vs 26 (0, 0))) : Hd w p vs w := ⟨Fr.refl _ _, h⟩
theorem Hd.set {w w' : World} {p : Nat} {vs : Array Value} (h : Hd w p vs w') (i : Nat) (v : Value) : Hd w p (vs.setIfInBounds i v) (w'.setCell ⟨p, i, none⟩ v) :=
  ⟨h.1.trans (Fr.set w' p i v) (fun _ hb => .inl hb), heap_setCell_same _ _ _ _ _ _ h.2⟩
theorem Hd.drew {w w' : World} {p : Nat} {vs : Array Value} (h : Hd w p vs w') : Hd w p vs w'.drew := ⟨⟨h.1.os, h.1.tape, h.1.output, h.1.size, h.1.block⟩, h.2⟩
def RetHd (w : World) (p : Nat) (vs : Array Value) (v : Value) (e : Ending) (w' : World) : Prop := e = .returned v ∧ Hd w p vs w'

section
variable {w : World} {p : Nat} {m : Option Nat} {rs : List FR} {room used left : Int} {dead armed : Bool}
set_option maxRecDepth 100000 in
set_option maxHeartbeats 1000000 in
theorem turn_err {e : Int} (he : e ≠ 0) :
    Calls Try.prog 63 #[.pointer (some ⟨p, 0, none⟩), .int .i64 e] w fun e' w' => e' = .returned (.int .i64 e) ∧ w = w' := by
  have h1 : (e != 0) = true := by simpa using he
  go_enter Try.func63, Try.ntmps63
  go_wp2
  go_ret
  exact ⟨rfl, rfl⟩
set_option maxRecDepth 100000 in
set_option maxHeartbeats 1000000 in
theorem turn_free (h : DskR w p m rs room used left dead false) :
    Calls Try.prog 63 #[.pointer (some ⟨p, 0, none⟩), .int .i64 0] w fun e' w' => e' = .returned (.int .i64 0) ∧ w = w' := by
  obtain ⟨c0, c1, c2, c3, c4, c5⟩ := h.head
  go_enter Try.func63, Try.ntmps63
  go_wp2
  go_ret
  exact ⟨rfl, rfl⟩
set_option maxRecDepth 100000 in
set_option maxHeartbeats 1000000 in
theorem turn_kill (h : DskR w p m rs room used 0 dead true) :
    Calls Try.prog 63 #[.pointer (some ⟨p, 0, none⟩), .int .i64 0] w (RetHd w p (headV m room used 0 true false) (.int .i64 9)) := by
  obtain ⟨c0, c1, c2, c3, c4, c5⟩ := h.head
  have f3 := h.thaw 3
  have f4 := h.thaw 4
  have HH := Lib.hid (((Hd.refl h.1).set 3 (.bool true)).set 4 (.bool false))
  go_enter Try.func63, Try.ntmps63
  go_wp2
  go_ret
  exact ⟨rfl, HH.out⟩
set_option maxRecDepth 100000 in
set_option maxHeartbeats 1000000 in
theorem turn_step (h : DskR w p m rs room used left dead true) (hl : 0 < left) (hl2 : left ≤ 9223372036854775807) :
    Calls Try.prog 63 #[.pointer (some ⟨p, 0, none⟩), .int .i64 0] w (RetHd w p (headV m room used (left - 1) dead true) (.int .i64 0)) := by
  obtain ⟨c0, c1, c2, c3, c4, c5⟩ := h.head
  have f5 := h.thaw 5
  have h1 : (left == 0) = false := by simp; omega
  have HH := Lib.hid ((Hd.refl h.1).set 5 (.int .i64 (left - 1)))
  go_enter Try.func63, Try.ntmps63
  go_wp2
  go_ret
  exact ⟨rfl, HH.out⟩
set_option maxRecDepth 100000 in
set_option maxHeartbeats 1000000 in
theorem Used_any (h : DskR w p m rs room used left dead armed) :
    Calls Try.prog 15 #[.pointer (some ⟨p, 0, none⟩)] w fun e' w' => e' = .returned (.int .i64 used) ∧ w = w' := by
  obtain ⟨c0, c1, c2, c3, c4, c5⟩ := h.head
  go_enter Try.func15, Try.ntmps15
  go_wp2
  go_ret
  exact ⟨rfl, rfl⟩
set_option maxRecDepth 100000 in
set_option maxHeartbeats 1000000 in
theorem Dead_any (h : DskR w p m rs room used left dead armed) :
    Calls Try.prog 76 #[.pointer (some ⟨p, 0, none⟩)] w fun e' w' => e' = .returned (.bool dead) ∧ w = w' := by
  obtain ⟨c0, c1, c2, c3, c4, c5⟩ := h.head
  go_enter Try.func76, Try.ntmps76
  go_wp2
  go_ret
  exact ⟨rfl, rfl⟩
set_option maxRecDepth 100000 in
set_option maxHeartbeats 1000000 in
theorem Arm_dead (n : Int) (h : DskR w p m rs room used left true armed) :
    Calls Try.prog 69 #[.pointer (some ⟨p, 0, none⟩), .int .i64 n] w fun e' w' => e' = .returned (.tuple #[]) ∧ w = w' := by
  obtain ⟨c0, c1, c2, c3, c4, c5⟩ := h.head
  go_enter Try.func69, Try.ntmps69
  go_wp2
  go_end0
  exact ⟨rfl, rfl⟩
set_option maxRecDepth 100000 in
set_option maxHeartbeats 1000000 in
theorem Arm_live (n : Int) (h : DskR w p m rs room used left false armed) (hn : I64 n) :
    Calls Try.prog 69 #[.pointer (some ⟨p, 0, none⟩), .int .i64 n] w (RetHd w p (headV m room used (max n 0) false (decide (0 ≤ n))) (.tuple #[])) := by
  obtain ⟨c0, c1, c2, c3, c4, c5⟩ := h.head
  have f4 := h.thaw 4
  have f5 := h.thaw 5
  unfold I64 at hn
  have HH := Lib.hid (((Hd.refl h.1).set 4 (.bool (decide (0 ≤ n)))).set 5 (.int .i64 (max n 0)))
  by_cases h0 : 0 ≤ n
  · have h1 : decide (0 ≤ n) = true := by simpa using h0
    have h2 : max n 0 = n := by omega
    rw [h1, h2] at HH ⊢
    clear h2
    go_enter Try.func69, Try.ntmps69
    go_wp2
    go_end0
    exact ⟨rfl, HH.out⟩
  · have h1 : decide (0 ≤ n) = false := by simpa using h0
    have h2 : max n 0 = 0 := by omega
    rw [h1, h2] at HH ⊢
    clear h2
    go_enter Try.func69, Try.ntmps69
    go_wp2
    go_end0
    exact ⟨rfl, HH.out⟩
end

theorem DskR.init (w : World) (room : Int) : DskR (w.alloc (.cells (headV none room 0 0 false false) 26)) w.heap.size none [] room 0 0 false false :=
  ⟨heap_alloc_new _ _, .inl ⟨rfl, rfl⟩, (fun r hr => by cases hr), ⟨(fun r hr => by cases hr), (fun b hb => by cases hb), List.Pairwise.nil⟩⟩
/-- 'It hands back a new disk.' -/
def RetD (w : World) (D : DS) (e : Ending) (w' : World) : Prop := ∃ p bl, e = .returned (.pointer (some ⟨p, 0, none⟩)) ∧ Dsk w' p bl D ∧ (∀ b ∈ bl, w.heap.size ≤ b) ∧ Below w.heap.size w w'
set_option maxRecDepth 100000 in
set_option maxHeartbeats 1000000 in
theorem New_any (n : Int) (w : World) (hn : I64 n) : Calls Try.prog 18 #[.int .i64 n] w (RetD w ⟨[], n.toNat, -1, false⟩) := by
  unfold I64 at hn
  have fin : RetD w ⟨[], n.toNat, -1, false⟩ (.returned (.pointer (some ⟨w.heap.size, 0, none⟩))) (w.alloc (.cells (headV none (n.toNat : Int) 0 0 false false) 26)) :=
    ⟨w.heap.size, _, rfl, ⟨none, [], 0, false, DskR.init w _, rfl, rfl, fun _ => ⟨rfl, fun h => absurd h (show ¬ (0 : Int) ≤ -1 by decide)⟩, by omega, by simp only; omega, List.Pairwise.nil, Nat.zero_le _, by simp only; omega⟩,
      (fun b hb => by simp [allB] at hb; omega), (Below.refl _ _).alloc (Nat.le_refl _) _⟩
  have HF := Lib.hid fin
  clear fin
  by_cases h0 : 0 ≤ n
  · have h2 : (n.toNat : Int) = n := by omega
    rw [h2] at HF
    have h3 : max n 0 = n := by omega
    go_enter Try.func18, Try.ntmps18
    go_wp2
    go_ret
    exact HF.out
  · have h2 : (n.toNat : Int) = 0 := by omega
    rw [h2] at HF
    have h3 : max n 0 = 0 := by omega
    go_enter Try.func18, Try.ntmps18
    go_wp2
    go_ret
    exact HF.out
end Go.Proofs.Ytjpnfhfeabdhiaa
