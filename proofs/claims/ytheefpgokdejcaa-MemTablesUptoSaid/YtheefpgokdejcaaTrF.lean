/- The tree: the first entry that isn't ahead. No condition. -/
import Derived.Test.YtheefpgokdejcaaTrE
import Derived.Deep.LoopGhost
namespace Go.Proofs.Ytheefpgokdejcaa
open Go Go.RowKit

/-- The first entry of a tree that doesn't stand ahead of x; else f. -/
def firstT (x : En) : Tr → Option En → Option En
  | .nil, f => f
  | .node l e r, f => if lessE e x then firstT x r f else firstT x l (some e)
/-- 'The pointer F leads to this entry; or it is nil, and there is none.' -/
def FP (G : Nat → Prop) (w : World) : Option En → Option Addr → Prop
  | none, F => F = none
  | some e, F => ∃ p, F = some ⟨p, 0, none⟩ ∧ EB G w e p
theorem FP.below {G : Nat → Prop} {w w' : World} (hb : Below w.heap.size w w') : ∀ {o : Option En} {F : Option Addr}, FP G w o F → FP G w' o F
  | none, _, h => h
  | some _, _, ⟨p, h1, h2⟩ => ⟨p, h1, h2.below hb⟩
def RetFst (G : Nat → Prop) (w : World) (o : Option En) (e : Ending) (w' : World) : Prop := ∃ F, e = .returned (.pointer F) ∧ FP G w' o F ∧ Below w.heap.size w w'
theorem RetFst.out {G : Nat → Prop} {w : World} {o : Option En} {e : Ending} {w' : World} (h : RetFst G w o e w') : ∃ F, e = .returned (.pointer F) ∧ FP G w' o F ∧ Below w.heap.size w w' := h
set_option maxRecDepth 100000 in
set_option maxHeartbeats 8000000 in
theorem first_any {G : Nat → Prop} {w : World} {t : Tr} {A0 : Option Addr} {x : En} {v0 v1 v2 v3 : Value} (h : TrAt G w t A0) (hx : EV w x v0 v1 v2 v3) :
    Calls Try.prog 62 #[.pointer A0, .agg #[v0, v1, v2, v3]] w (RetFst G w (firstT x t none)) := by
  obtain ⟨K, kn, kc, V, vn, vc, rfl, rfl, rfl, rfl, _⟩ := hx.parts
  obtain ⟨U, hU⟩ : ∃ U, U = w.alloc (.cells #[.slice K kn kc, .int .u64 (x.seq : Int), .int .u8 (x.kind : Int), .slice V vn vc] 38) := ⟨_, rfl⟩
  have bU : Below w.heap.size w U := by rw [hU]; exact (Below.refl _ _).alloc (Nat.le_refl _) _
  have XU := Lib.hid (show Cl U w.heap.size #[.slice K kn kc, .int .u64 (x.seq : Int), .int .u8 (x.kind : Int), .slice V vn vc] 38 by rw [hU]; exact Cl.new _ _ _)
  have HX := Lib.hid (hx.below bU)
  have HT := Lib.hid (h.below bU)
  have BU := Lib.hid bU
  obtain ⟨o, ho⟩ : ∃ o, o = firstT x t none := ⟨_, rfl⟩
  rw [← ho]
  have HO := Lib.hid ho
  clear h hx bU ho
  go_enter Try.func62, Try.ntmps62
  go_upto_block 1 with fail
  rw [← hU]
  clear hU
  go_wp2_with fail
  go_loopg [0, 5] t.num (fun gk s0 s5 wr => ∃ (tk : Tr) (A : Option Addr) (f : Option En) (F : Option Addr), tk.num = gk ∧ s0 = .pointer A ∧ s5 = .pointer F ∧ TrAt G wr tk A ∧ FP G wr f F ∧ firstT x tk f = o ∧ Below U.heap.size U wr)
  case atStart => exact ⟨t, A0, none, none, rfl, rfl, rfl, HT.out, rfl, HO.out.symm, Below.refl _ _⟩
  case round =>
    obtain ⟨tk, A, f, F, hnum, rfl, rfl, htk, hfp, hfo, hB⟩ := hrel
    cases tk with
    | nil =>
      have hA : A = none := htk
      subst hA
      have hfo' : f = o := hfo
      subst hfo'
      have HF := Lib.hid hfp
      have HB := Lib.hid (belowT BU.out hB)
      clear htk hfp hfo hB hnum
      go_wp2
      go_ret
      exact ⟨F, rfl, HF.out, HB.out⟩
    | node l e r =>
      obtain ⟨b, rfl⟩ := htk.ptr
      obtain ⟨pe, pl, pr, n0, n1, n2, nlt, he, hl, hr⟩ := htk.cells
      obtain ⟨z0, z1, z2, z3, cz, ez⟩ := he
      have HXW := Lib.hid (HX.out.below hB)
      have HXC := Lib.hid (XU.out.below hB)
      have HSX : Hid (∀ wx, Below wr.heap.size wr wx → wx.cell? ⟨b, 0, none⟩ = some (.pointer (some ⟨pe, 0, none⟩)) ∧ wx.cell? ⟨b, 1, none⟩ = some (.pointer pl) ∧ wx.cell? ⟨b, 2, none⟩ = some (.pointer pr) ∧ wx.cell? ⟨w.heap.size, 0, none⟩ = some (.slice K kn kc) ∧ wx.cell? ⟨w.heap.size, 1, none⟩ = some (.int .u64 (x.seq : Int)) ∧ wx.cell? ⟨w.heap.size, 2, none⟩ = some (.int .u8 (x.kind : Int)) ∧ wx.cell? ⟨w.heap.size, 3, none⟩ = some (.slice V vn vc) ∧ wx.cell? ⟨pe, 0, none⟩ = some z0 ∧ wx.cell? ⟨pe, 1, none⟩ = some z1 ∧ wx.cell? ⟨pe, 2, none⟩ = some z2 ∧ wx.cell? ⟨pe, 3, none⟩ = some z3) := Lib.hid (fun wx h => by
        obtain ⟨c0, c1, c2, c3, _⟩ := (HXC.out.below h).c4
        obtain ⟨d0, d1, d2, d3, _⟩ := (cz.below h).c4
        exact ⟨(h.cell (p := ⟨b, 0, none⟩) nlt).trans n0, (h.cell (p := ⟨b, 1, none⟩) nlt).trans n1, (h.cell (p := ⟨b, 2, none⟩) nlt).trans n2, c0, c1, c2, c3, d0, d1, d2, d3⟩)
      have HL : Hid (∀ wx, Below wr.heap.size wr wx → Calls Try.prog 75 #[.agg #[z0, z1, z2, z3], .agg #[.slice K kn kc, .int .u64 (x.seq : Int), .int .u8 (x.kind : Int), .slice V vn vc]] wx (RetT wx (lessE e x))) := Lib.hid (fun wx h => memLess_any (ez.1.ev.below h) (HXW.out.below h))
      have HE : Hid (EB G wr e pe) := Lib.hid ⟨z0, z1, z2, z3, cz, ez⟩
      have HTL := Lib.hid hl
      have HTR := Lib.hid hr
      have HFP := Lib.hid hfp
      have HBB := Lib.hid hB
      obtain ⟨LE, hLE⟩ : ∃ LE, LE = lessE e x := ⟨_, rfl⟩
      rw [← hLE] at HL
      have HW : Hid (o = if LE = true then firstT x r f else firstT x l (some e)) := Lib.hid (by rw [hLE, ← hfo]; rfl)
      have hnn : l.num + 1 + r.num = gk := hnum
      have hB0 : Below wr.heap.size wr wr.drew := (Below.refl _ _).drew
      clear htk hfp hfo hB hnum cz ez hl hr n0 n1 n2 hLE HXW HXC
      go_upto_region 3 with (fail)
      go_cut [15] from 6 to 27 (fun s15 wx => s15 = .bool LE ∧ Below wr.heap.size wr wx)
      case first =>
        go_region_held3 (fun wx => wx.cell? ⟨b, 0, none⟩ = some (.pointer (some ⟨pe, 0, none⟩)) ∧ wx.cell? ⟨b, 1, none⟩ = some (.pointer pl) ∧ wx.cell? ⟨b, 2, none⟩ = some (.pointer pr) ∧ wx.cell? ⟨w.heap.size, 0, none⟩ = some (.slice K kn kc) ∧ wx.cell? ⟨w.heap.size, 1, none⟩ = some (.int .u64 (x.seq : Int)) ∧ wx.cell? ⟨w.heap.size, 2, none⟩ = some (.int .u8 (x.kind : Int)) ∧ wx.cell? ⟨w.heap.size, 3, none⟩ = some (.slice V vn vc) ∧ wx.cell? ⟨pe, 0, none⟩ = some z0 ∧ wx.cell? ⟨pe, 1, none⟩ = some z1 ∧ wx.cell? ⟨pe, 2, none⟩ = some z2 ∧ wx.cell? ⟨pe, 3, none⟩ = some z3) (first | assumption | exact HSX.out _ hB0)
          (first | (go_at_call 75; with_reducible refine (HL.out _ hB0).mono ?_; intro e1 w5 hq; obtain ⟨h1, b5⟩ := RetT.out hq; subst h1; have b5' := belowT hB0 b5; have hS5 := HSX.out _ b5'))
        all_goals
          have HB5 := Lib.hid b5'
          clear hS5 b5 b5'
          go_wp2_with fail
          go_meet
          exact ⟨rfl, HB5.out⟩
      case rest =>
        obtain ⟨rfl, hbc⟩ := hcut
        obtain ⟨n0, n1, n2, c0, c1, c2, c3, d0, d1, d2, d3⟩ := HSX.out _ hbc
        have BC := Lib.hid hbc
        clear hbc c0 c1 c2 c3 d0 d1 d2 d3
        cases LE with
        | true =>
          go_wp2_with fail
          go_roundg r.num
          case measure => omega
          case rel => exact ⟨r, pr, f, F, rfl, rfl, rfl, HTR.out.below BC.out, HFP.out.below BC.out, by rw [HW.out]; rfl, belowT HBB.out BC.out⟩
        | false =>
          go_wp2_with fail
          go_quiet (fail)
          have BN := Lib.hid (below_drewN BC.out nq)
          clear n0 n1 n2
          go_wp2
          go_roundg l.num
          case measure => omega
          case rel => exact ⟨l, pl, some e, _, rfl, rfl, rfl, HTL.out.below BN.out, ⟨pe, rfl, HE.out.below BN.out⟩, by rw [HW.out]; rfl, belowT HBB.out BN.out⟩
end Go.Proofs.Ytheefpgokdejcaa
