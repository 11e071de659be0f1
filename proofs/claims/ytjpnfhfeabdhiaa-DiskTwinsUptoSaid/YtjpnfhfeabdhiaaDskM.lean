/- The program's Remove, Cut and Rename. -/
import Derived.Test.YtjpnfhfeabdhiaaDskS
namespace Go.Proofs.Ytjpnfhfeabdhiaa
open Go Go.RowKit Go.Maps

section
variable {w : World} {p : Nat} {m : Option Nat} {rs : List FR} {room used left : Int} {dead armed : Bool}
/-- A call that asks for a file, where turn says no: a dead disk, no such file, the disk dies. -/
def RetNo (w : World) (k : Int) (e : Ending) (w' : World) : Prop := e = .returned (.int .i64 k) ∧ w = w'
theorem remove_dead (x : List UInt8) (h : DskR w p m rs room used left true armed) :
    Calls Try.prog 67 #[.pointer (some ⟨p, 0, none⟩), .string (tx x)] w (RetNo w 9) := by
  go_enter Try.func67, Try.ntmps67
  go_wp2_with fail
  refine (find_dead x h).mono ?_
  rintro e w' ⟨rfl, rfl⟩
  go_wp2_with fail
  refine (turn_err (p := p) (w := w) (e := 9) (by decide)).mono ?_
  rintro e w' ⟨rfl, rfl⟩
  go_wp2
  go_ret
  exact ⟨rfl, rfl⟩
theorem remove_none (x : List UInt8) (h : DskR w p m rs room used left false armed) (hx : ∀ r ∈ rs, r.name ≠ x) (hl : x.length ≤ maxLen) :
    Calls Try.prog 67 #[.pointer (some ⟨p, 0, none⟩), .string (tx x)] w (RetNo w 6) := by
  go_enter Try.func67, Try.ntmps67
  go_wp2_with fail
  refine (find_none x h hx hl).mono ?_
  rintro e w' ⟨rfl, rfl⟩
  go_wp2_with fail
  refine (turn_err (p := p) (w := w) (e := 6) (by decide)).mono ?_
  rintro e w' ⟨rfl, rfl⟩
  go_wp2
  go_ret
  exact ⟨rfl, rfl⟩
theorem remove_kill {r : FR} (h : DskR w p m rs room used 0 false true) (hr : r ∈ rs) (hl : r.name.length ≤ maxLen) :
    Calls Try.prog 67 #[.pointer (some ⟨p, 0, none⟩), .string (tx r.name)] w (RetHd w p (headV m room used 0 true false) (.int .i64 9)) := by
  go_enter Try.func67, Try.ntmps67
  go_wp2_with fail
  refine (find_some h hr hl).mono ?_
  rintro e w' ⟨rfl, rfl⟩
  go_wp2_with fail
  refine (turn_kill h).mono ?_
  rintro e w1 ⟨rfl, hH⟩
  go_wp2
  go_ret
  exact ⟨rfl, hH⟩
set_option maxRecDepth 100000 in
set_option maxHeartbeats 1000000 in
theorem remove_some {r : FR} (u : Nat) (h : DskR w p m rs room (u : Int) left false armed) (hu : rsUp rs) (hr : r ∈ rs) (hl : r.name.length ≤ maxLen) (hl2 : 0 ≤ left ∧ left ≤ 9223372036854775807) (ht : tE armed left = 0) (hru : r.dat.length ≤ u) (hu2 : u ≤ 9223372036854775807) :
    Calls Try.prog 67 #[.pointer (some ⟨p, 0, none⟩), .string (tx r.name)] w (RetDel w p m rs r.name room ((u - r.dat.length : Nat) : Int) (tL armed left) false armed (.int .i64 0)) := by
  obtain ⟨t1, t2⟩ := tE_done (dead := false) ht
  have hT := turn_zero h hl2
  rw [ht, t1, t2] at hT
  have HT := Lib.hid hT
  clear hT t1 t2 ht
  go_enter Try.func67, Try.ntmps67
  go_wp2_with fail
  refine (find_some h hr hl).mono ?_
  rintro e w' ⟨rfl, rfl⟩
  go_wp2_with fail
  refine HT.out.mono ?_
  clear HT
  rintro e w1 ⟨rfl, hH⟩
  have hD1 := h.turn hH.1 hH.2
  go_wp2_with fail
  refine (drop_some u hD1 hu hr hl hru hu2).mono ?_
  rintro e w2 ⟨rfl, hD2, hF2⟩
  have hfin : RetDel w p m rs r.name room ((u - r.dat.length : Nat) : Int) (tL armed left) false armed (.int .i64 0) (.returned (.int .i64 0)) w2 := by
    refine ⟨rfl, hD2, ?_⟩
    have f1 : Fr w w1 (allB p m rs) := hH.1.mono (fun b hb => .inl (by rw [List.mem_singleton] at hb; rw [hb]; exact mem_head))
    exact f1.trans hF2 (fun b hb => .inl hb)
  have HFIN := Lib.hid hfin
  clear hfin hD1 hD2 hF2 hH
  go_wp2
  go_ret
  exact HFIN.out

theorem cut_dead (x : List UInt8) (z : Int) (h : DskR w p m rs room used left true armed) :
    Calls Try.prog 68 #[.pointer (some ⟨p, 0, none⟩), .string (tx x), .int .i64 z] w (RetNo w 9) := by
  go_enter Try.func68, Try.ntmps68
  go_wp2_with fail
  refine (find_dead x h).mono ?_
  rintro e w' ⟨rfl, rfl⟩
  go_wp2_with fail
  refine (turn_err (p := p) (w := w) (e := 9) (by decide)).mono ?_
  rintro e w' ⟨rfl, rfl⟩
  go_wp2
  go_ret
  exact ⟨rfl, rfl⟩
theorem cut_none_arg (x : List UInt8) (z : Int) (h : DskR w p m rs room used left false armed) (hx : ∀ r ∈ rs, r.name ≠ x) (hl : x.length ≤ maxLen) (hz : z < 0) :
    Calls Try.prog 68 #[.pointer (some ⟨p, 0, none⟩), .string (tx x), .int .i64 z] w (RetNo w 1) := by
  have h1 : decide (z < 0) = true := by simpa using hz
  go_enter Try.func68, Try.ntmps68
  go_wp2_with fail
  refine (find_none x h hx hl).mono ?_
  rintro e w' ⟨rfl, rfl⟩
  go_wp2
  go_ret
  exact ⟨rfl, rfl⟩
theorem cut_none (x : List UInt8) (z : Int) (h : DskR w p m rs room used left false armed) (hx : ∀ r ∈ rs, r.name ≠ x) (hl : x.length ≤ maxLen) (hz : ¬ z < 0) :
    Calls Try.prog 68 #[.pointer (some ⟨p, 0, none⟩), .string (tx x), .int .i64 z] w (RetNo w 6) := by
  have h1 : decide (z < 0) = false := by simpa using hz
  go_enter Try.func68, Try.ntmps68
  go_wp2_with fail
  refine (find_none x h hx hl).mono ?_
  rintro e w' ⟨rfl, rfl⟩
  go_wp2_with fail
  refine (turn_err (p := p) (w := w) (e := 6) (by decide)).mono ?_
  rintro e w' ⟨rfl, rfl⟩
  go_wp2
  go_ret
  exact ⟨rfl, rfl⟩
set_option maxRecDepth 100000 in
set_option maxHeartbeats 1000000 in
theorem cut_arg {r : FR} (z : Int) (h : DskR w p m rs room used left false armed) (hr : r ∈ rs) (hl : r.name.length ≤ maxLen) (hz : z < 0 ∨ (r.dat.length : Int) < z) :
    Calls Try.prog 68 #[.pointer (some ⟨p, 0, none⟩), .string (tx r.name), .int .i64 z] w (RetNo w 1) := by
  obtain ⟨d0, _⟩ := (h.2.2.1 r hr).cells
  by_cases h0 : z < 0
  · have h1 : decide (z < 0) = true := by simpa using h0
    go_enter Try.func68, Try.ntmps68
    go_wp2_with fail
    refine (find_some h hr hl).mono ?_
    rintro e w' ⟨rfl, rfl⟩
    go_wp2
    go_ret
    exact ⟨rfl, rfl⟩
  · have h1 : decide (z < 0) = false := by simpa using h0
    have h2 : decide ((r.dat.length : Int) < z) = true := by
      rcases hz with hz | hz
      · exact absurd hz h0
      · simpa using hz
    go_enter Try.func68, Try.ntmps68
    go_wp2_with fail
    refine (find_some h hr hl).mono ?_
    rintro e w' ⟨rfl, rfl⟩
    go_wp2
    go_ret
    exact ⟨rfl, rfl⟩
set_option maxRecDepth 100000 in
set_option maxHeartbeats 1000000 in
theorem cut_kill {r : FR} (k : Nat) (h : DskR w p m rs room used 0 false true) (hr : r ∈ rs) (hl : r.name.length ≤ maxLen) (hk : k ≤ r.dat.length) :
    Calls Try.prog 68 #[.pointer (some ⟨p, 0, none⟩), .string (tx r.name), .int .i64 (k : Int)] w (RetHd w p (headV m room used 0 true false) (.int .i64 9)) := by
  obtain ⟨d0, _⟩ := (h.2.2.1 r hr).cells
  have h2 : decide (r.dat.length < k) = false := by simp; omega
  go_enter Try.func68, Try.ntmps68
  go_wp2_with fail
  refine (find_some h hr hl).mono ?_
  rintro e w' ⟨rfl, rfl⟩
  go_wp2_with fail
  refine (turn_kill h).mono ?_
  rintro e w1 ⟨rfl, hH⟩
  go_wp2
  go_ret
  exact ⟨rfl, hH⟩
set_option maxRecDepth 100000 in
set_option maxHeartbeats 1000000 in
theorem cut_some {r : FR} (k u : Nat) (h : DskR w p m rs room (u : Int) left false armed) (hu : rsUp rs) (hr : r ∈ rs) (hl : r.name.length ≤ maxLen) (hl2 : 0 ≤ left ∧ left ≤ 9223372036854775807) (ht : tE armed left = 0) (hk : k ≤ r.dat.length) (hru : r.dat.length ≤ u) (hu2 : u ≤ 9223372036854775807)
    (hd : r.dat.length ≤ 1099511627776) :
    Calls Try.prog 68 #[.pointer (some ⟨p, 0, none⟩), .string (tx r.name), .int .i64 (k : Int)] w
      (RetFile w p m rs r (r.dat.take k) k room ((u - (r.dat.length - k) : Nat) : Int) (tL armed left) false armed (.int .i64 0)) := by
  obtain ⟨t1, t2⟩ := tE_done (dead := false) ht
  have hT := turn_zero h hl2
  rw [ht, t1, t2] at hT
  have HT := Lib.hid hT
  clear hT t1 t2 ht
  obtain ⟨d0, _⟩ := (h.2.2.1 r hr).cells
  have h2 : decide (r.dat.length < k) = false := by simp; omega
  go_enter Try.func68, Try.ntmps68
  go_wp2_with fail
  refine (find_some h hr hl).mono ?_
  rintro e w' ⟨rfl, rfl⟩
  go_wp2_with fail
  refine HT.out.mono ?_
  clear HT
  rintro e w1 ⟨rfl, hH⟩
  have hD1 := h.turn hH.1 hH.2
  go_wp2_with fail
  refine (shorten_any k u hD1 hu hr hk hru hu2 hd).mono ?_
  rintro e w2 ⟨rfl, r', hn, hd', hs, hD2, hF2, hB2⟩
  have hfin : RetFile w p m rs r (r.dat.take k) k room ((u - (r.dat.length - k) : Nat) : Int) (tL armed left) false armed (.int .i64 0) (.returned (.int .i64 0)) w2 := by
    refine ⟨rfl, r', hn, hd', hs, hD2, ?_, fun b hb => ?_⟩
    · have f1 : Fr w w1 (allB p m rs) := hH.1.mono (fun b hb => .inl (by rw [List.mem_singleton] at hb; rw [hb]; exact mem_head))
      exact f1.trans hF2 (fun b hb => .inl hb)
    · rcases hB2 b hb with h1 | h1
      · exact .inl h1
      · exact .inr (Nat.le_trans hH.1.size h1)
  have HFIN := Lib.hid hfin
  clear hfin hD1 hD2 hF2 hH hB2 hn hd' hs
  go_wp2
  go_ret
  exact HFIN.out
end
end Go.Proofs.Ytjpnfhfeabdhiaa
