/- Manifest: the reader, where nothing is wrong. No condition but sizes. -/
import Derived.Test.YtlnpicfkcahdbaaMfI
import Derived.Test.YtlnpicfkcahdbaaGetU
import Derived.Test.YtlnpicfkcahdbaaGetT
import Derived.Test.YtlnpicfkcahdbaaMathF
import Derived.Test.YtlnpicfkcahdbaaParts
namespace Go.Proofs.Ytlnpicfkcahdbaa
open Go Go.RowKit

/-- 'The reader at p: these bytes, this place, nothing wrong.' -/
def RdMf (w : World) (p : Nat) (E : Option Addr) (en ec a : Nat) : Prop := Cl w p #[.slice E en ec, .int .i64 (a : Int), .int .i64 0] 185
theorem RdMf.below {w w' : World} {p : Nat} {E : Option Addr} {en ec a : Nat} (h : RdMf w p E en ec a) (hb : Below w.heap.size w w') : RdMf w' p E en ec a := Cl.below h hb
def RetMn (w : World) (p : Nat) (E : Option Addr) (en ec m k : Nat) (e : Ending) (w' : World) : Prop :=
  e = .returned (.int .u64 (m : Int)) ∧ RdMf w' p E en ec k ∧ w.grownBy w' (some p)
theorem RetMn.out {w : World} {p : Nat} {E : Option Addr} {en ec m k : Nat} {e : Ending} {w' : World} (h : RetMn w p E en ec m k e w') : e = .returned (.int .u64 (m : Int)) ∧ RdMf w' p E en ec k ∧ w.grownBy w' (some p) := h
theorem grown_setM (w : World) (p i : Nat) (v : Value) : w.grownBy (w.setCell ⟨p, i, none⟩ v) (some p) := by
  have h := (Below.refl p w).setCell (p := ⟨p, i, none⟩) (Nat.le_refl _) v
  refine ⟨h.os, h.tape, h.output, h.size, fun b _ hne => ?_⟩
  exact Below.heap_setCell w ⟨p, i, none⟩ v b (fun e => hne (by rw [e]))
theorem grown_drewM {w w' : World} {row : Option Nat} (h : w.grownBy w' row) (q : Nat) : w.grownBy (w'.drewN q) row := by
  obtain ⟨h1, h2, h3, h4, h5⟩ := h
  exact ⟨h1, h2, h3, h4, h5⟩
theorem grown_of_below {w w' : World} (h : Below w.heap.size w w') (row : Option Nat) : w.grownBy w' row := ⟨h.os, h.tape, h.output, h.size, fun b hb _ => h.block b hb⟩
section
variable {w : World} {p : Nat} {E : Option Addr} {en ec a : Nat} {xs : List UInt8}
set_option maxRecDepth 100000 in
set_option maxHeartbeats 4000000 in
theorem numberM_any {m k : Nat} (h : RdMf w p E en ec a) (hr : Rd w E en xs) (hn : en ≤ 1099511627776) (hc : en ≤ ec) (hg : getU xs (a : Int) = (m, (k : Int), 0)) :
    Calls Try.prog 118 #[.pointer (some ⟨p, 0, none⟩)] w (RetMn w p E en ec m k) := by
  have hcl : Cl w p #[.slice E en ec, .int .i64 (a : Int), .int .i64 0] 185 := h
  obtain ⟨c0, c1, c2, f0, f1, f2⟩ := hcl.c3
  have HG : Hid (∀ wx q, wx = w.drewN q → Calls Try.prog 162 #[.slice E en ec, .int .i64 (a : Int)] wx (fun e w' => e = .returned (.tuple #[.int .u64 (m : Int), .int .i64 (k : Int), .int .i64 0]) ∧ w' = wx)) := Lib.hid (fun wx q hq => by
    subst hq
    have hG := GetU_any E en ec xs (a : Int) (w.drewN q) (hr.drewN q) (by omega) hc
    rw [hg] at hG
    exact hG.mono (fun e w' h => ⟨h.1, h.2.symm⟩))
  have HCL := Lib.hid hcl
  clear h hr hg hcl
  go_enter Try.func118, Try.ntmps118
  go_wp2_with fail
  go_quiet ((go_at_call 162; exact Calls.quiet_of_same (HG.out _ _ rfl)))
  have hd := HCL.out.drewN nq
  obtain ⟨c0, c1, c2, f0, f1, f2⟩ := hd.c3
  have f3 : ((w.drewN nq).setCell ⟨p, 1, none⟩ (.int .i64 (k : Int))).frozen? ⟨p, 2, none⟩ = false := (hd.set 1 _).thaw 2
  have f4 : ((w.drewN nq).setCell ⟨p, 1, none⟩ (.int .i64 (k : Int))).cell? ⟨p, 2, none⟩ = some (.int .i64 0) := (hd.set 1 _).cell 2
  have HD := Lib.hid ((hd.set 1 (.int .i64 (k : Int))).set 2 (.int .i64 0))
  have HGR := Lib.hid (((grown_drewM (World.grownBy.refl w (some p)) nq).trans (grown_setM (w.drewN nq) p 1 (.int .i64 (k : Int)))).trans (grown_setM _ p 2 (.int .i64 0)))
  clear hd
  go_wp2_with fail
  go_ret
  exact ⟨rfl, HD.out, HGR.out⟩
def RetMt (w : World) (p : Nat) (E : Option Addr) (en ec : Nat) (v : List UInt8) (k : Nat) (e : Ending) (w' : World) : Prop :=
  ∃ C cn cc, e = .returned (.slice C cn cc) ∧ Own 5 w' w.heap.size C cn cc v ∧ RdMf w' p E en ec k ∧ w.grownBy w' (some p)
theorem RetMt.out {v : List UInt8} {k : Nat} {e : Ending} {w' : World} (h : RetMt w p E en ec v k e w') : ∃ C cn cc, e = .returned (.slice C cn cc) ∧ Own 5 w' w.heap.size C cn cc v ∧ RdMf w' p E en ec k ∧ w.grownBy w' (some p) := h
theorem RetT3.outM {base : Nat} {w : World} {g : List UInt8 × Int × Int} {e : Ending} {w' : World} (h : RetT3 base w g e w') : ∃ A n c, e = .returned (.tuple #[.slice A n c, .int .i64 g.2.1, .int .i64 g.2.2]) ∧ Own 5 w' base A n c g.1 ∧ Below base w w' := h
set_option maxRecDepth 100000 in
set_option maxHeartbeats 4000000 in
theorem textM_any {v : List UInt8} {k : Nat} (h : RdMf w p E en ec a) (hr : Rd w E en xs) (hn : en ≤ 1099511627776) (hg : getT xs (a : Int) = (v, (k : Int), 0)) :
    Calls Try.prog 173 #[.pointer (some ⟨p, 0, none⟩)] w (RetMt w p E en ec v k) := by
  have hcl : Cl w p #[.slice E en ec, .int .i64 (a : Int), .int .i64 0] 185 := h
  obtain ⟨c0, c1, c2, f0, f1, f2⟩ := hcl.c3
  have hB1 : Below w.heap.size w w.drew := (Below.refl _ _).drew
  have HG : Hid (∀ wx, Below w.heap.size w wx → Calls Try.prog 207 #[.slice E en ec, .int .i64 (a : Int)] wx (fun e w' => ∃ A n c, e = .returned (.tuple #[.slice A n c, .int .i64 (k : Int), .int .i64 0]) ∧ Own 5 w' wx.heap.size A n c v ∧ Below wx.heap.size wx w')) := Lib.hid (fun wx hb => by
    refine (GetOrdText_any E en ec xs (a : Int) wx (hr.below hb) (by omega)).mono ?_
    intro e w' hq
    have := hq.outM
    rw [hg] at this
    exact this)
  have HC : Hid (∀ wx, Below w.heap.size w wx → wx.cell? ⟨p, 0, none⟩ = some (.slice E en ec) ∧ wx.cell? ⟨p, 1, none⟩ = some (.int .i64 (a : Int))) := Lib.hid (fun wx hb => ⟨(hcl.below hb).cell 0, (hcl.below hb).cell 1⟩)
  have HCL := Lib.hid hcl
  have hpl : p < w.heap.size := hcl.lt
  clear h hr hg hcl
  go_enter Try.func173, Try.ntmps173
  go_wp2_with fail
  go_region_law (first | (go_simp; go_at_call 207; with_reducible refine (HG.out _ hB1).mono ?_; intro e wk hq; obtain ⟨C, cn, cc, h1, oC, bC⟩ := hq; subst h1; have bC' := belowT' hB1 bC; obtain ⟨q0, q1⟩ := HC.out _ bC'))
  all_goals
    have hd := HCL.out.below bC'
    obtain ⟨g0, g1, g2, e0, e1, e2⟩ := hd.c3
    have f3 : (wk.setCell ⟨p, 1, none⟩ (.int .i64 (k : Int))).frozen? ⟨p, 2, none⟩ = false := (hd.set 1 _).thaw 2
    have f4 : (wk.setCell ⟨p, 1, none⟩ (.int .i64 (k : Int))).cell? ⟨p, 2, none⟩ = some (.int .i64 0) := (hd.set 1 _).cell 2
    have HF : Hid (RetMt w p E en ec v k (.returned (.slice C cn cc)) ((wk.setCell ⟨p, 1, none⟩ (.int .i64 (k : Int))).setCell ⟨p, 2, none⟩ (.int .i64 0))) := Lib.hid ⟨C, cn, cc, rfl, (oC.set hpl 1 _).set hpl 2 _, (hd.set 1 _).set 2 _, ((grown_of_below bC' (some p)).trans (grown_setM wk p 1 (.int .i64 (k : Int)))).trans (grown_setM _ p 2 (.int .i64 0))⟩
    clear hd oC bC bC' q0 q1
    go_wp2_with fail
    go_ret
    exact HF.out
set_option maxRecDepth 100000 in
set_option maxHeartbeats 4000000 in
theorem moreM_any (h : RdMf w p E en ec a) : Calls Try.prog 172 #[.pointer (some ⟨p, 0, none⟩)] w (RetT w (decide (a < en))) := by
  have hcl : Cl w p #[.slice E en ec, .int .i64 (a : Int), .int .i64 0] 185 := h
  obtain ⟨c0, c1, c2, f0, f1, f2⟩ := hcl.c3
  obtain ⟨z, hz⟩ : ∃ z, z = decide (a < en) := ⟨_, rfl⟩
  have t1 : decide ((a : Int) < (en : Int)) = z := by rw [hz]; simp
  rw [← hz]
  have HZ := Lib.hid hz
  clear h hcl hz
  by_cases hlt : a < en
  · have HZT : Hid (z = true) := Lib.hid (by rw [HZ.out]; simpa using hlt)
    go_enter Try.func172, Try.ntmps172
    go_wp2_with fail
    go_quiet (fail)
    have HF := Lib.hid (below_drewN (Below.refl w.heap.size w) nq)
    go_wp2_with fail
    go_ret
    exact ⟨by rw [HZT.out]; rfl, HF.out⟩
  · have HZT : Hid (z = false) := Lib.hid (by rw [HZ.out]; simpa using hlt)
    go_enter Try.func172, Try.ntmps172
    go_wp2_with fail
    go_quiet (fail)
    have HF := Lib.hid (below_drewN (Below.refl w.heap.size w) nq)
    go_wp2_with fail
    go_ret
    exact ⟨by rw [HZT.out]; rfl, HF.out⟩
set_option maxRecDepth 100000 in
set_option maxHeartbeats 4000000 in
theorem endM_any (h : RdMf w p E en ec en) : Calls Try.prog 119 #[.pointer (some ⟨p, 0, none⟩)] w (RetNu w 0) := by
  have HM := Lib.hid (moreM_any h)
  rw [decide_eq_false (Nat.lt_irrefl en)] at HM
  have HH := Lib.hid h
  clear h
  go_enter Try.func119, Try.ntmps119
  go_wp2_with fail
  with_reducible refine HM.out.mono ?_
  intro e w2 hq
  obtain ⟨h1, b2⟩ := RetT.outD hq
  subst h1
  have hcl : Cl w2 p #[.slice E en ec, .int .i64 (en : Int), .int .i64 0] 185 := HH.out.below b2
  have c2 := hcl.cell 2
  have HB := Lib.hid b2
  clear hq hcl b2
  go_wp2_with fail
  go_ret
  exact ⟨rfl, HB.out⟩
end
end Go.Proofs.Ytlnpicfkcahdbaa
