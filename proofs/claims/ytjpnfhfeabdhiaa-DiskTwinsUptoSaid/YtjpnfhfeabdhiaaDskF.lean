/- The disk's state, in memory and as plain data; a look-up by name; the program's find. -/
import Derived.Test.YtjpnfhfeabdhiaaDsk
namespace Go.Proofs.Ytjpnfhfeabdhiaa
open Go Go.RowKit Go.Maps

abbrev FE := List UInt8 × List UInt8 × Nat
def usedF (fs : List FE) : Nat := (fs.map fun f => f.2.1.length).sum
def risingF (fs : List FE) : Prop := fs.Pairwise fun a b => a.1 < b.1
/-- The disk as plain data: files by rising names, room, armed with (-1: not), dead. -/
structure DS where
  fs : List FE
  room : Nat
  arm : Int
  dead : Bool

def Sp (a b : FR) : Prop := ∀ x ∈ a.bl, x ∉ b.bl
theorem Sp.symm {a b : FR} (h : Sp a b) : Sp b a := fun x h1 h2 => h x h2 h1
/-- 'No two blocks of the disk are the same.' -/
def SepR (p : Nat) (m : Option Nat) (rs : List FR) : Prop :=
  (∀ r ∈ rs, p ∉ r.bl ∧ (∀ b, m = some b → b ∉ r.bl) ∧ blk r.A ≠ some r.fb) ∧ (∀ b, m = some b → b ≠ p) ∧ rs.Pairwise Sp
def headV (m : Option Nat) (room used left : Int) (dead armed : Bool) : Array Value := #[.map m, .int .i64 room, .int .i64 used, .bool dead, .bool armed, .int .i64 left]
/-- The disk's blocks, written out. -/
def DskR (w : World) (p : Nat) (m : Option Nat) (rs : List FR) (room used left : Int) (dead armed : Bool) : Prop :=
  w.heap[p]? = some (.cells (headV m room used left dead armed) 26 (0, 0)) ∧ MapAt w m rs ∧ (∀ r ∈ rs, FileAt w r) ∧ SepR p m rs
/-- 'The disk at block p is D, and lies in the blocks bl.' -/
def Dsk (w : World) (p : Nat) (bl : List Nat) (D : DS) : Prop :=
  ∃ m rs left armed, DskR w p m rs (D.room : Int) (usedF D.fs : Int) left D.dead armed ∧ bl = allB p m rs ∧ rs.map FR.val = D.fs ∧
    (D.dead = false → armed = decide (0 ≤ D.arm) ∧ (0 ≤ D.arm → left = D.arm)) ∧ (-9223372036854775808 ≤ left ∧ left ≤ 9223372036854775807) ∧ (-1 ≤ D.arm ∧ D.arm ≤ 9223372036854775807) ∧ risingF D.fs ∧ usedF D.fs ≤ D.room ∧ D.room ≤ 9223372036854775807

section
variable {w w' : World} {p : Nat} {m : Option Nat} {rs : List FR} {room used left : Int} {dead armed : Bool} {bl : List Nat}
theorem DskR.head (h : DskR w p m rs room used left dead armed) : w.cell? ⟨p, 0, none⟩ = some (.map m) ∧ w.cell? ⟨p, 1, none⟩ = some (.int .i64 room) ∧ w.cell? ⟨p, 2, none⟩ = some (.int .i64 used) ∧ w.cell? ⟨p, 3, none⟩ = some (.bool dead) ∧ w.cell? ⟨p, 4, none⟩ = some (.bool armed) ∧ w.cell? ⟨p, 5, none⟩ = some (.int .i64 left) := by
  have hc := fun i => cell_of_row w p i _ _ _ h.1
  exact ⟨hc 0, hc 1, hc 2, hc 3, hc 4, hc 5⟩
theorem DskR.thaw (h : DskR w p m rs room used left dead armed) (i : Nat) : w.frozen? ⟨p, i, none⟩ = false := frozen_of_row w p i _ _ h.1
theorem FileAt.cells {r : FR} (h : FileAt w r) : w.cell? ⟨r.fb, 0, none⟩ = some (.slice r.A r.dat.length r.c) ∧ w.cell? ⟨r.fb, 1, none⟩ = some (.int .i64 (r.saf : Int)) := by
  have hc := fun i => cell_of_row w r.fb i _ _ _ h.1
  exact ⟨hc 0, hc 1⟩
theorem FileAt.thaw {r : FR} (h : FileAt w r) (i : Nat) : w.frozen? ⟨r.fb, i, none⟩ = false := frozen_of_row w r.fb i _ _ h.1
theorem DskR.lt (h : DskR w p m rs room used left dead armed) : ∀ b ∈ allB p m rs, b < w.heap.size := fun b hb => by
  simp only [allB, List.mem_cons, List.mem_append, Option.mem_toList, List.mem_flatMap] at hb
  rcases hb with rfl | hb | ⟨r, hr, hb⟩
  · exact (Array.getElem?_eq_some_iff.1 h.1).1
  · exact h.2.1.lt b hb
  · exact (h.2.2.1 r hr).lt b hb
theorem mem_head : p ∈ allB p m rs := by simp [allB]
theorem mem_map {b : Nat} (h : m = some b) : b ∈ allB p m rs := by simp [allB, h]
theorem mem_file {r : FR} (hr : r ∈ rs) {b : Nat} (hb : b ∈ r.bl) : b ∈ allB p m rs := by
  simp only [allB, List.mem_cons, List.mem_append, List.mem_flatMap]
  exact .inr (.inr ⟨r, hr, hb⟩)
theorem DskR.fr (h : DskR w p m rs room used left dead armed) (hf : Fr w w' bl) (ho : ∀ b ∈ allB p m rs, b ∉ bl) : DskR w' p m rs room used left dead armed :=
  ⟨(hf.block p (Array.getElem?_eq_some_iff.1 h.1).1 (ho p mem_head)).trans h.1, h.2.1.fr hf (fun b hb => ho b (mem_map hb)), fun r hr => (h.2.2.1 r hr).fr hf (fun b hb => ho b (mem_file hr hb)), h.2.2.2⟩
/-- The head turned. -/
theorem DskR.turn {room' used' left' : Int} {dead' armed' : Bool} (h : DskR w p m rs room used left dead armed) (hf : Fr w w' [p]) (hp : w'.heap[p]? = some (.cells (headV m room' used' left' dead' armed') 26 (0, 0))) :
    DskR w' p m rs room' used' left' dead' armed' := by
  obtain ⟨h1, h2, h3, h4⟩ := h
  refine ⟨hp, h2.fr hf (fun b hb hm => ?_), fun r hr => (h3 r hr).fr hf (fun b hb hm => ?_), h4⟩
  · rw [List.mem_singleton] at hm
    exact h4.2.1 b hb hm
  · rw [List.mem_singleton] at hm
    subst hm
    exact (h4.1 r hr).1 hb
end

theorem MapAt.look_some {w : World} {m : Option Nat} {rs : List FR} (h : MapAt w m rs) {r : FR} (hr : r ∈ rs) (hl : r.name.length ≤ maxLen) :
    (Instr.lookup 24 (.map m) (.string (tx r.name)) false).run Try.prog w = .ok (.pointer (some ⟨r.fb, 0, none⟩)) w := by
  rcases h with ⟨_, rfl⟩ | ⟨b, Dm, rfl, ho, hm⟩
  · cases hr
  · obtain ⟨v, ps, hrun, hv⟩ := ho.lookup (t := 24) (e := 105) lawN Try.underlying24 (zeroP w) ptrEl_none (keyN hl)
    rw [hm.2.2 r hr] at hv
    rw [ptrEl_at hv] at hrun
    exact hrun
theorem MapAt.look_none {w : World} {m : Option Nat} {rs : List FR} (h : MapAt w m rs) {x : List UInt8} (hx : ∀ r ∈ rs, r.name ≠ x) (hl : x.length ≤ maxLen) :
    (Instr.lookup 24 (.map m) (.string (tx x)) false).run Try.prog w = .ok (.pointer none) w := by
  rcases h with ⟨rfl, rfl⟩ | ⟨b, Dm, rfl, ho, hm⟩
  · exact Maps.look_nil false lawN Try.underlying24 (zeroP w) (keyN hl)
  · obtain ⟨v, ps, hrun, hv⟩ := ho.lookup (t := 24) (e := 105) lawN Try.underlying24 (zeroP w) ptrEl_none (keyN hl)
    have hn : has Dm (.string x) = false := by
      rw [hm.2.1, List.any_eq_false]
      intro r hr
      simpa using hx r hr
    rw [atKey_of_not_has hn] at hv
    rw [ptrEl_nil hv] at hrun
    exact hrun

set_option maxRecDepth 100000 in
set_option maxHeartbeats 1000000 in
theorem find_dead {w : World} {p : Nat} {m : Option Nat} {rs : List FR} {room used left : Int} {armed : Bool} (x : List UInt8) (h : DskR w p m rs room used left true armed) :
    Calls Try.prog 61 #[.pointer (some ⟨p, 0, none⟩), .string (tx x)] w fun e w' => e = .returned (.tuple #[.pointer none, .int .i64 9]) ∧ w = w' := by
  obtain ⟨c0, c1, c2, c3, c4, c5⟩ := h.head
  go_enter Try.func61, Try.ntmps61
  go_wp2
  go_ret2
  exact ⟨rfl, rfl⟩
set_option maxRecDepth 100000 in
set_option maxHeartbeats 1000000 in
theorem find_none {w : World} {p : Nat} {m : Option Nat} {rs : List FR} {room used left : Int} {armed : Bool} (x : List UInt8) (h : DskR w p m rs room used left false armed) (hx : ∀ r ∈ rs, r.name ≠ x) (hl : x.length ≤ maxLen) :
    Calls Try.prog 61 #[.pointer (some ⟨p, 0, none⟩), .string (tx x)] w fun e w' => e = .returned (.tuple #[.pointer none, .int .i64 6]) ∧ w = w' := by
  obtain ⟨c0, c1, c2, c3, c4, c5⟩ := h.head
  have hlk := h.2.1.look_none hx hl
  clear hx hl
  go_enter Try.func61, Try.ntmps61
  go_wp2
  go_ret2
  exact ⟨rfl, rfl⟩
set_option maxRecDepth 100000 in
set_option maxHeartbeats 1000000 in
theorem find_some {w : World} {p : Nat} {m : Option Nat} {rs : List FR} {room used left : Int} {armed : Bool} {r : FR} (h : DskR w p m rs room used left false armed) (hr : r ∈ rs) (hl : r.name.length ≤ maxLen) :
    Calls Try.prog 61 #[.pointer (some ⟨p, 0, none⟩), .string (tx r.name)] w fun e w' => e = .returned (.tuple #[.pointer (some ⟨r.fb, 0, none⟩), .int .i64 0]) ∧ w = w' := by
  obtain ⟨c0, c1, c2, c3, c4, c5⟩ := h.head
  have hlk := h.2.1.look_some hr hl
  clear hl
  go_enter Try.func61, Try.ntmps61
  go_wp2
  go_ret2
  exact ⟨rfl, rfl⟩
end Go.Proofs.Ytjpnfhfeabdhiaa
