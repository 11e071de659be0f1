/- The program's Read, Sync, shorten and drop. -/
import Derived.Test.YtjpnfhfeabdhiaaDskC
namespace Go.Proofs.Ytjpnfhfeabdhiaa
open Go Go.RowKit Go.Maps

/-- 'It hands back bytes in new memory, and a number.' -/
def RetRd (w : World) (xs : List UInt8) (k : Int) (e : Ending) (w' : World) : Prop :=
  ∃ A n c, e = .returned (.tuple #[.slice A n c, .int .i64 k]) ∧ Own 5 w' w.heap.size A n c xs ∧ Below w.heap.size w w'

section
variable {w : World} {p : Nat} {m : Option Nat} {rs : List FR} {room used left : Int} {dead armed : Bool}
theorem read_dead (x : List UInt8) (h : DskR w p m rs room used left true armed) :
    Calls Try.prog 60 #[.pointer (some ⟨p, 0, none⟩), .string (tx x)] w (RetRd w [] 9) := by
  go_enter Try.func60, Try.ntmps60
  go_wp2_with fail
  refine (find_dead x h).mono ?_
  rintro e w' ⟨rfl, rfl⟩
  go_wp2
  go_ret2
  exact ⟨none, 0, 0, rfl, Own.nil _ _ _, Below.refl _ _⟩
theorem read_none (x : List UInt8) (h : DskR w p m rs room used left false armed) (hx : ∀ r ∈ rs, r.name ≠ x) (hl : x.length ≤ maxLen) :
    Calls Try.prog 60 #[.pointer (some ⟨p, 0, none⟩), .string (tx x)] w (RetRd w [] 6) := by
  go_enter Try.func60, Try.ntmps60
  go_wp2_with fail
  refine (find_none x h hx hl).mono ?_
  rintro e w' ⟨rfl, rfl⟩
  go_wp2
  go_ret2
  exact ⟨none, 0, 0, rfl, Own.nil _ _ _, Below.refl _ _⟩
set_option maxRecDepth 100000 in
set_option maxHeartbeats 1000000 in
theorem read_some {r : FR} (h : DskR w p m rs room used left false armed) (hr : r ∈ rs) (hl : r.name.length ≤ maxLen) (hd : r.dat.length ≤ 1099511627776) :
    Calls Try.prog 60 #[.pointer (some ⟨p, 0, none⟩), .string (tx r.name)] w (RetRd w r.dat 0) := by
  have hfa := h.2.2.1 r hr
  obtain ⟨d0, d1⟩ := hfa.cells
  have hnil : r.A = none → r.c = 0 := fun e => (hfa.2.1.nil_of (by rw [e]; rfl)).2.2
  go_enter Try.func60, Try.ntmps60
  go_wp2_with fail
  refine (find_some h hr hl).mono ?_
  rintro e w' ⟨rfl, rfl⟩
  go_wp2_with fail
  refine (Clone_any r.A r.dat.length r.c r.dat _ hfa.2.1.rd (by omega) hnil).mono ?_
  rintro e w2 ⟨A, n, c, rfl, ho, hb⟩
  go_wp2
  go_ret2
  exact ⟨A, n, c, rfl, ho, hb⟩

theorem sync_dead (x : List UInt8) (h : DskR w p m rs room used left true armed) :
    Calls Try.prog 17 #[.pointer (some ⟨p, 0, none⟩), .string (tx x)] w fun e w' => e = .returned (.int .i64 9) ∧ w = w' := by
  go_enter Try.func17, Try.ntmps17
  go_wp2_with fail
  refine (find_dead x h).mono ?_
  rintro e w' ⟨rfl, rfl⟩
  go_wp2_with fail
  refine (turn_err (p := p) (w := w) (e := 9) (by decide)).mono ?_
  rintro e w' ⟨rfl, rfl⟩
  go_wp2
  go_ret
  exact ⟨rfl, rfl⟩
theorem sync_none (x : List UInt8) (h : DskR w p m rs room used left false armed) (hx : ∀ r ∈ rs, r.name ≠ x) (hl : x.length ≤ maxLen) :
    Calls Try.prog 17 #[.pointer (some ⟨p, 0, none⟩), .string (tx x)] w fun e w' => e = .returned (.int .i64 6) ∧ w = w' := by
  go_enter Try.func17, Try.ntmps17
  go_wp2_with fail
  refine (find_none x h hx hl).mono ?_
  rintro e w' ⟨rfl, rfl⟩
  go_wp2_with fail
  refine (turn_err (p := p) (w := w) (e := 6) (by decide)).mono ?_
  rintro e w' ⟨rfl, rfl⟩
  go_wp2
  go_ret
  exact ⟨rfl, rfl⟩
theorem sync_kill {r : FR} (h : DskR w p m rs room used 0 false true) (hr : r ∈ rs) (hl : r.name.length ≤ maxLen) :
    Calls Try.prog 17 #[.pointer (some ⟨p, 0, none⟩), .string (tx r.name)] w (RetHd w p (headV m room used 0 true false) (.int .i64 9)) := by
  go_enter Try.func17, Try.ntmps17
  go_wp2_with fail
  refine (find_some h hr hl).mono ?_
  rintro e w' ⟨rfl, rfl⟩
  go_wp2_with fail
  refine (turn_kill h).mono ?_
  rintro e w1 ⟨rfl, hH⟩
  go_wp2
  go_ret
  exact ⟨rfl, hH⟩
/-- What the turned head says where the call is done. -/
theorem tE_done {armed : Bool} {left : Int} (h : tE armed left = 0) : tD dead armed left = dead ∧ tA armed left = armed := by
  unfold tE at h
  by_cases h1 : armed = true ∧ left = 0
  · rw [if_pos h1] at h; exact absurd h (by decide)
  · exact ⟨by rw [tD, if_neg h1], by rw [tA, if_neg h1]⟩
set_option maxRecDepth 100000 in
set_option maxHeartbeats 2000000 in
theorem sync_some {r : FR} (h : DskR w p m rs room used left false armed) (hu : rsUp rs) (hr : r ∈ rs) (hl : r.name.length ≤ maxLen) (hl2 : 0 ≤ left ∧ left ≤ 9223372036854775807) (ht : tE armed left = 0) :
    Calls Try.prog 17 #[.pointer (some ⟨p, 0, none⟩), .string (tx r.name)] w (RetFile w p m rs r r.dat r.dat.length room used (tL armed left) false armed (.int .i64 0)) := by
  obtain ⟨t1, t2⟩ := tE_done (dead := false) ht
  have hT := turn_zero h hl2
  rw [ht, t1, t2] at hT
  have HT := Lib.hid hT
  clear hT t1 t2 ht
  go_enter Try.func17, Try.ntmps17
  go_wp2_with fail
  refine (find_some h hr hl).mono ?_
  rintro e w' ⟨rfl, rfl⟩
  go_wp2_with fail
  refine HT.out.mono ?_
  clear HT
  rintro e w1 ⟨rfl, hH⟩
  have hD1 := h.turn hH.1 hH.2
  have hfa := hD1.2.2.1 r hr
  obtain ⟨d0, d1⟩ := hfa.cells
  have f1 := hfa.thaw 1
  obtain ⟨r', hr'⟩ : ∃ r' : FR, r' = { r with saf := r.dat.length } := ⟨_, rfl⟩
  obtain ⟨w2, hw2⟩ : ∃ w2, w2 = w1.setCell ⟨r.fb, 1, none⟩ (.int .i64 (r.dat.length : Int)) := ⟨_, rfl⟩
  have hsep := hD1.2.2.2.1 r hr
  have hf2 : Fr w1 w2 r.bl := by
    rw [hw2]
    exact (Fr.set w1 r.fb 1 _).mono (fun b hb => .inl (by rw [List.mem_singleton] at hb; rw [hb]; simp [FR.bl]))
  have hat : FileAt w2 r' := by
    refine ⟨?_, ?_, ?_⟩
    · rw [hw2, hr']
      exact heap_setCell_same _ _ _ _ _ _ hfa.1
    · rw [hr']
      exact hfa.2.1.fr (hw2 ▸ Fr.set w1 r.fb 1 (.int .i64 (r.dat.length : Int))) (fun b hb hm => by rw [List.mem_singleton] at hm; rw [hm] at hb; exact hsep.2.2 hb)
    · rw [hr']; exact Nat.le_refl _
  have hbl : ∀ b ∈ r'.bl, b ∈ r.bl ∨ w1.heap.size ≤ b := fun b hb => .inl (by rw [hr'] at hb; exact hb)
  have hfin : RetFile w p m rs r r.dat r.dat.length room used (tL armed left) false armed (.int .i64 0) (.returned (.int .i64 0)) w2 := by
    refine ⟨rfl, r', by rw [hr'], by rw [hr'], by rw [hr'], hD1.file hu hr (by rw [hr']) (by rw [hr']) hf2 hat hbl (by rw [hr']; exact hsep.2.2), ?_, fun b hb => ?_⟩
    · have f1 : Fr w w1 (allB p m rs) := hH.1.mono (fun b hb => .inl (by rw [List.mem_singleton] at hb; rw [hb]; exact mem_head))
      exact f1.trans hf2 (fun b hb => .inl (mem_file hr hb))
    · rcases mem_putR (p := p) (m := m) (w := w1) hu hr hbl b hb with h1 | h1
      · exact .inl h1
      · exact .inr (Nat.le_trans hH.1.size h1)
  have HFIN := Lib.hid hfin
  have HW2 := Lib.hid hw2
  clear hfin hw2 hat hbl hf2 hr' hD1 hfa hH
  go_wp2
  go_ret
  rw [← HW2.out]
  exact HFIN.out
end
end Go.Proofs.Ytjpnfhfeabdhiaa
