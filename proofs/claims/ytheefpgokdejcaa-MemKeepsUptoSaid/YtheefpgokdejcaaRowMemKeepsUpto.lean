/- P7.4: a table keeps no memory of what it is handed, and its answers are memory of their own. No condition but sizes. -/
import Derived.Test.YtheefpgokdejcaaTrG
import Derived.Test.YtheefpgokdejcaaMathH
import Derived.Deep.QuietTactic
import Derived.BigQuiet
import Derived.Test.YtheefpgokdejcaaEnH
import Derived.Test.YtheefpgokdejcaaMathK
import Derived.Test.YtheefpgokdejcaaFamD
import Derived.Test.YtheefpgokdejcaaApartF
import Derived.Deep.RegionLaw
import Derived.Test.YtheefpgokdejcaaAwake7
import Derived.Test.YtheefpgokdejcaaRows
import Derived.Test.YtheefpgokdejcaaOpen
import Derived.ProofKit
import Derived.OpenShut
import Derived.ShutString
import Derived.ChangeOld
import Derived.SizedLaws
import Derived.JoinedCond
import Derived.Deep.CondSized
import Derived.Deep.Matrix
import Derived.Test.YtheefpgokdejcaaBulk
import Derived.Test.YtheefpgokdejcaaOpenE
namespace Go.Proofs.Ytheefpgokdejcaa
open Go Go.RowKit

/-- The entries of a tree with keys from xs on and below ys. -/
def betw (xs ys : List UInt8) : Tr → List En
  | .nil => []
  | .node l e r => (if 0 ≤ cmpB e.key xs then betw xs ys l else []) ++ (if 0 ≤ cmpB e.key xs ∧ (ys.length = 0 ∨ cmpB e.key ys < 0) then [e] else []) ++ (if ys.length = 0 ∨ cmpB e.key ys < 0 then betw xs ys r else [])
theorem betw_num (xs ys : List UInt8) : ∀ t : Tr, (betw xs ys t).length ≤ t.num
  | .nil => Nat.le_refl _
  | .node l e r => by
    have h1 := betw_num xs ys l
    have h2 := betw_num xs ys r
    simp only [betw, Tr.num, List.length_append]
    split <;> split <;> split <;> simp <;> omega
def RetBt (W : World) (es : List En) (e : Ending) (w' : World) : Prop := ∃ L k d, e = .returned (.slice L k d) ∧ RowE W W.heap.size L k d es w'
theorem RetBt.out {W : World} {es : List En} {e : Ending} {w' : World} (h : RetBt W es e w') : ∃ L k d, e = .returned (.slice L k d) ∧ RowE W W.heap.size L k d es w' := h
set_option maxRecDepth 100000 in
set_option maxHeartbeats 8000000 in
theorem between_any {G : Nat → Prop} {W : World} {F T : Option Addr} {fn fc tn tc : Nat} {xs ys : List UInt8} (hf : Rd W F fn xs) (ht : Rd W T tn ys) : ∀ (t : Tr) (A : Option Addr), TrAt G W t A → (∀ e ∈ t.list, SzE e) → ∀ (es : List En) (L : Option Addr) (k d : Nat) (wr : World), RowE W W.heap.size L k d es wr → k + t.num ≤ 1099511627776 →
    Calls Try.prog 64 #[.pointer A, .slice L k d, .slice F fn fc, .slice T tn tc] wr (RetBt W (es ++ betw xs ys t)) := by
  intro t
  induction t with
  | nil =>
    intro A hA _ es L k d wr hrow hnum
    have hA' : A = none := hA
    subst hA'
    have HR := Lib.hid hrow
    clear hrow hA
    go_enter Try.func64, Try.ntmps64
    go_wp2
    go_ret
    exact ⟨L, k, d, rfl, by rw [betw, List.append_nil]; exact HR.out⟩
  | node l e r ihl ihr =>
    intro A hA hs es L k d wr hrow hnum
    obtain ⟨b, rfl⟩ := hA.ptr
    obtain ⟨pe, pl, pr, n0, n1, n2, nlt, he, hl, hr⟩ := hA.cells
    obtain ⟨z0, z1, z2, z3, cz, ez⟩ := he
    obtain ⟨K, kn, kc, V, vn, vc, rfl, rfl, rfl, rfl, r0, r3, _⟩ := ez.1.ev.parts
    have hsz : SzE e := hs e (by simp [Tr.list])
    have hnm : l.num + 1 + r.num = (Tr.node l e r).num := rfl
    have HIL := Lib.hid (ihl pl hl (fun x hx => hs x (by simp [Tr.list, hx])))
    have HIR := Lib.hid (ihr pr hr (fun x hx => hs x (by simp [Tr.list, hx])))
    have HR := Lib.hid hrow
    have HSX : Hid (∀ wx, Below W.heap.size W wx → wx.cell? ⟨b, 0, none⟩ = some (.pointer (some ⟨pe, 0, none⟩)) ∧ wx.cell? ⟨b, 1, none⟩ = some (.pointer pl) ∧ wx.cell? ⟨b, 2, none⟩ = some (.pointer pr) ∧ wx.cell? ⟨pe, 0, none⟩ = some (.slice K kn kc) ∧ wx.cell? ⟨pe, 1, none⟩ = some (.int .u64 (e.seq : Int)) ∧ wx.cell? ⟨pe, 2, none⟩ = some (.int .u8 (e.kind : Int)) ∧ wx.cell? ⟨pe, 3, none⟩ = some (.slice V vn vc)) := Lib.hid (fun wx h => by
      obtain ⟨d0, d1, d2, d3, _⟩ := (cz.below h).c4
      exact ⟨(h.cell (p := ⟨b, 0, none⟩) nlt).trans n0, (h.cell (p := ⟨b, 1, none⟩) nlt).trans n1, (h.cell (p := ⟨b, 2, none⟩) nlt).trans n2, d0, d1, d2, d3⟩)
    obtain ⟨y1, hy1⟩ : ∃ y, cmpB e.key xs = y := ⟨_, rfl⟩
    obtain ⟨y2, hy2⟩ : ∃ y, cmpB e.key ys = y := ⟨_, rfl⟩
    have HC1 : Hid (∀ wx, Below W.heap.size W wx → Calls Try.prog 63 #[.slice K kn kc, .slice F fn fc] wx fun e' w' => e' = .returned (.int .i64 y1) ∧ wx = w') := Lib.hid (fun wx h => Cmp_is K F kn fn kc fc e.key xs y1 hy1 wx (r0.below h) (hf.below h))
    have HC2 : Hid (∀ wx, Below W.heap.size W wx → Calls Try.prog 63 #[.slice K kn kc, .slice T tn tc] wx fun e' w' => e' = .returned (.int .i64 y2) ∧ wx = w') := Lib.hid (fun wx h => Cmp_is K T kn tn kc tc e.key ys y2 hy2 wx (r0.below h) (ht.below h))
    have HOW : Hid (∀ wx, Below W.heap.size W wx → Calls Try.prog 57 #[.agg #[.slice K kn kc, .int .u64 (e.seq : Int), .int .u8 (e.kind : Int), .slice V vn vc]] wx (RetEn wx e)) := Lib.hid (fun wx h => own_any (ez.1.ev.below h) hsz)
    have hBT : betw xs ys (.node l e r) = (if 0 ≤ y1 then betw xs ys l else []) ++ (if 0 ≤ y1 ∧ (tn = 0 ∨ y2 < 0) then [e] else []) ++ (if tn = 0 ∨ y2 < 0 then betw xs ys r else []) := by rw [betw, hy1, hy2, ht.len]
    have HBT := Lib.hid hBT
    have HWF : Hid (U64 e.seq ∧ e.kind < 256) := Lib.hid ⟨ez.1.ev.2.2.1, ez.1.ev.2.2.2.1⟩
    have HBL := Lib.hid (betw_num xs ys l)
    have BW := Lib.hid (RowE.bel hrow)
    obtain ⟨e0, e1, e2, e3, e4, e5, e6⟩ := HSX.out wr BW.out
    have C1 := Lib.hid (HC1.out wr BW.out)
    have C2 := Lib.hid (HC2.out wr BW.out)
    clear ihl ihr hA n0 n1 n2 cz ez r0 r3 hl hr hy1 hy2 hBT hrow hs HC1 HC2
    go_enter Try.func64, Try.ntmps64
    by_cases hb : 0 ≤ y1
    · have tb : decide (0 ≤ y1) = true := by simpa using hb
      by_cases h0 : tn = 0
      · subst h0
        have HA : Hid ((0 : Nat) = 0 ∨ y2 < 0) := Lib.hid (.inl rfl)
        go_wp2_with fail
        with_reducible refine C1.out.mono ?_
        rintro e' w1 ⟨rfl, rfl⟩
        go_wp2_with fail
        with_reducible refine (HIL.out es L k d wr HR.out (by omega)).mono ?_
        intro e' w2 hq
        obtain ⟨L2, k2, d2, h1, hrow2⟩ := RetBt.out hq
        subst h1
        have HR2 := Lib.hid hrow2
        have hk2 : k2 ≤ k + l.num := by have q1 := RowE.len hrow2; have q2 := RowE.len HR.out; have q3 := HBL.out; rw [List.length_append] at q1; omega
        have BW2 := Lib.hid (RowE.bel hrow2)
        clear e0 e1 e2 e3 e4 e5 e6 hq hrow2
        obtain ⟨e0, e1, e2, e3, e4, e5, e6⟩ := HSX.out w2 BW2.out
        go_wp2_with fail
        with_reducible refine (HOW.out w2 BW2.out).mono ?_
        intro e' w3 hq
        obtain ⟨K3, kn3, kc3, V3, vn3, vc3, h1, o1, o2, b3, dj⟩ := hq
        subst h1
        obtain ⟨vs, q1, q2, q3, q4, q5, q6, q7⟩ := HR2.out
        have HFM := Lib.hid (fam_two o1 o2 dj)
        have Q7 := Lib.hid q7
        have s3 := b3.size
        have HEO : Hid (EO W.heap.size w3 e (.slice K3 kn3 kc3) (.int .u64 (e.seq : Int)) (.int .u8 (e.kind : Int)) (.slice V3 vn3 vc3)) := Lib.hid ⟨K3, kn3, kc3, V3, vn3, vc3, rfl, rfl, rfl, rfl, o1.mono q6, o2.mono q6, HWF.out⟩
        have HOF : Hid (OffW [.slice K3 kn3 kc3, .int .u64 (e.seq : Int), .int .u8 (e.kind : Int), .slice V3 vn3 vc3] (blk L2)) := Lib.hid (EO.off (base := w2.heap.size) (w := w3) (e := e) ⟨K3, kn3, kc3, V3, vn3, vc3, rfl, rfl, rfl, rfl, o1, o2, HWF.out⟩ (fun g hg => .inl (q1.lt g hg).2))
        have HB3 := Lib.hid b3
        have Q1 := Lib.hid q1
        have Q2 := Lib.hid q2
        have Q3 := Lib.hid q3
        have Q4 := Lib.hid q4
        have Q5 := Lib.hid q5
        have hcell : ∀ u ∈ [Value.slice K3 kn3 kc3, .int .u64 (e.seq : Int), .int .u8 (e.kind : Int), .slice V3 vn3 vc3], u.oneCell' = true := HEO.out.ev.cells
        have HCL := Lib.hid hcell
        clear o1 o2 b3 dj q1 q2 q3 q4 q5 q7 hcell e0 e1 e2 e3 e4 e5 e6
        go_wp2_with (at_builtin; refine wpList_app4t w3 rfl _ _ 27 rfl W.heap.size _ 64 Try.underlying27 info_ent rfl L2 k2 d2 vs rfl (Q1.out.below HB3.out) _ _ _ _ HCL.out w3.heap.size rfl rfl ?_ ?_ ?_ ?_)
        · omega
        · omega
        · omega
        intro L4 d4 w4 hG4 hg4 hb4
        have HR4 : Hid (RowE W W.heap.size L4 (k2 + 1) d4 (es ++ betw xs ys l ++ [e]) w4) := Lib.hid (rowE_snoc Q1.out Q2.out Q3.out Q4.out Q5.out q6 Q7.out HB3.out HEO.out HOF.out HFM.out hG4 hg4 hb4)
        have BW4 := Lib.hid (RowE.bel HR4.out)
        clear hG4 hg4 hb4
        obtain ⟨e0, e1, e2, e3, e4, e5, e6⟩ := HSX.out w4 BW4.out
        go_wp2_with fail
        with_reducible refine (HIR.out (es ++ betw xs ys l ++ [e]) L4 (k2 + 1) d4 w4 HR4.out (by omega)).mono ?_
        intro e' w5 hq
        obtain ⟨L5, k5, d5, h1, hrow5⟩ := RetBt.out hq
        subst h1
        have HR5 := Lib.hid hrow5
        clear e0 e1 e2 e3 e4 e5 e6 hq hrow5
        go_wp2
        go_ret
        exact ⟨L5, k5, d5, rfl, by rw [HBT.out, if_pos hb, if_pos ⟨hb, HA.out⟩, if_pos HA.out]; simpa using HR5.out⟩
      · have t0 : ((tn : Int) == 0) = false := by simp; omega
        by_cases h2 : y2 < 0
        · have HA : Hid (tn = 0 ∨ y2 < 0) := Lib.hid (.inr h2)
          have t2 : decide (y2 < 0) = true := by simpa using h2
          go_wp2_with fail
          with_reducible refine C1.out.mono ?_
          rintro e' w1 ⟨rfl, rfl⟩
          go_wp2_with fail
          with_reducible refine C2.out.mono ?_
          rintro e' w1 ⟨rfl, rfl⟩
          go_wp2_with fail
          with_reducible refine (HIL.out es L k d wr HR.out (by omega)).mono ?_
          intro e' w2 hq
          obtain ⟨L2, k2, d2, h1, hrow2⟩ := RetBt.out hq
          subst h1
          have HR2 := Lib.hid hrow2
          have hk2 : k2 ≤ k + l.num := by have q1 := RowE.len hrow2; have q2 := RowE.len HR.out; have q3 := HBL.out; rw [List.length_append] at q1; omega
          have BW2 := Lib.hid (RowE.bel hrow2)
          clear e0 e1 e2 e3 e4 e5 e6 hq hrow2
          obtain ⟨e0, e1, e2, e3, e4, e5, e6⟩ := HSX.out w2 BW2.out
          go_wp2_with fail
          with_reducible refine (HOW.out w2 BW2.out).mono ?_
          intro e' w3 hq
          obtain ⟨K3, kn3, kc3, V3, vn3, vc3, h1, o1, o2, b3, dj⟩ := hq
          subst h1
          obtain ⟨vs, q1, q2, q3, q4, q5, q6, q7⟩ := HR2.out
          have HFM := Lib.hid (fam_two o1 o2 dj)
          have Q7 := Lib.hid q7
          have s3 := b3.size
          have HEO : Hid (EO W.heap.size w3 e (.slice K3 kn3 kc3) (.int .u64 (e.seq : Int)) (.int .u8 (e.kind : Int)) (.slice V3 vn3 vc3)) := Lib.hid ⟨K3, kn3, kc3, V3, vn3, vc3, rfl, rfl, rfl, rfl, o1.mono q6, o2.mono q6, HWF.out⟩
          have HOF : Hid (OffW [.slice K3 kn3 kc3, .int .u64 (e.seq : Int), .int .u8 (e.kind : Int), .slice V3 vn3 vc3] (blk L2)) := Lib.hid (EO.off (base := w2.heap.size) (w := w3) (e := e) ⟨K3, kn3, kc3, V3, vn3, vc3, rfl, rfl, rfl, rfl, o1, o2, HWF.out⟩ (fun g hg => .inl (q1.lt g hg).2))
          have HB3 := Lib.hid b3
          have Q1 := Lib.hid q1
          have Q2 := Lib.hid q2
          have Q3 := Lib.hid q3
          have Q4 := Lib.hid q4
          have Q5 := Lib.hid q5
          have hcell : ∀ u ∈ [Value.slice K3 kn3 kc3, .int .u64 (e.seq : Int), .int .u8 (e.kind : Int), .slice V3 vn3 vc3], u.oneCell' = true := HEO.out.ev.cells
          have HCL := Lib.hid hcell
          clear o1 o2 b3 dj q1 q2 q3 q4 q5 q7 hcell e0 e1 e2 e3 e4 e5 e6
          go_wp2_with (at_builtin; refine wpList_app4t w3 rfl _ _ 27 rfl W.heap.size _ 64 Try.underlying27 info_ent rfl L2 k2 d2 vs rfl (Q1.out.below HB3.out) _ _ _ _ HCL.out w3.heap.size rfl rfl ?_ ?_ ?_ ?_)
          · omega
          · omega
          · omega
          intro L4 d4 w4 hG4 hg4 hb4
          have HR4 : Hid (RowE W W.heap.size L4 (k2 + 1) d4 (es ++ betw xs ys l ++ [e]) w4) := Lib.hid (rowE_snoc Q1.out Q2.out Q3.out Q4.out Q5.out q6 Q7.out HB3.out HEO.out HOF.out HFM.out hG4 hg4 hb4)
          have BW4 := Lib.hid (RowE.bel HR4.out)
          clear hG4 hg4 hb4
          obtain ⟨e0, e1, e2, e3, e4, e5, e6⟩ := HSX.out w4 BW4.out
          go_wp2_with fail
          with_reducible refine (HIR.out (es ++ betw xs ys l ++ [e]) L4 (k2 + 1) d4 w4 HR4.out (by omega)).mono ?_
          intro e' w5 hq
          obtain ⟨L5, k5, d5, h1, hrow5⟩ := RetBt.out hq
          subst h1
          have HR5 := Lib.hid hrow5
          clear e0 e1 e2 e3 e4 e5 e6 hq hrow5
          go_wp2
          go_ret
          exact ⟨L5, k5, d5, rfl, by rw [HBT.out, if_pos hb, if_pos ⟨hb, HA.out⟩, if_pos HA.out]; simpa using HR5.out⟩
        · have HA : Hid (¬ (tn = 0 ∨ y2 < 0)) := Lib.hid (fun h => h.elim h0 h2)
          have t2 : decide (y2 < 0) = false := by simpa using h2
          go_wp2_with fail
          with_reducible refine C1.out.mono ?_
          rintro e' w1 ⟨rfl, rfl⟩
          go_wp2_with fail
          with_reducible refine C2.out.mono ?_
          rintro e' w1 ⟨rfl, rfl⟩
          go_wp2_with fail
          with_reducible refine (HIL.out es L k d wr HR.out (by omega)).mono ?_
          intro e' w2 hq
          obtain ⟨L2, k2, d2, h1, hrow2⟩ := RetBt.out hq
          subst h1
          have HR2 := Lib.hid hrow2
          have hk2 : k2 ≤ k + l.num := by have q1 := RowE.len hrow2; have q2 := RowE.len HR.out; have q3 := HBL.out; rw [List.length_append] at q1; omega
          have BW2 := Lib.hid (RowE.bel hrow2)
          clear e0 e1 e2 e3 e4 e5 e6 hq hrow2
          obtain ⟨e0, e1, e2, e3, e4, e5, e6⟩ := HSX.out w2 BW2.out
          go_wp2
          go_ret
          exact ⟨L2, k2, d2, rfl, by rw [HBT.out, if_pos hb, if_neg (fun h => HA.out h.2), if_neg HA.out]; simpa using HR2.out⟩
    · have tb : decide (0 ≤ y1) = false := by simpa using hb
      have HNB : Hid (¬ 0 ≤ y1) := Lib.hid hb
      by_cases h0 : tn = 0
      · subst h0
        have HA : Hid ((0 : Nat) = 0 ∨ y2 < 0) := Lib.hid (.inl rfl)
        go_wp2_with fail
        with_reducible refine C1.out.mono ?_
        rintro e' w1 ⟨rfl, rfl⟩
        go_wp2_with fail
        with_reducible refine (HIR.out es L k d wr HR.out (by omega)).mono ?_
        intro e' w5 hq
        obtain ⟨L5, k5, d5, h1, hrow5⟩ := RetBt.out hq
        subst h1
        have HR5 := Lib.hid hrow5
        clear e0 e1 e2 e3 e4 e5 e6 hq hrow5
        go_wp2
        go_ret
        exact ⟨L5, k5, d5, rfl, by rw [HBT.out, if_neg (show ¬ 0 ≤ y1 by have := HNB.out; omega), if_neg (fun h => by have := HNB.out; have := h.1; omega), if_pos HA.out]; simpa using HR5.out⟩
      · have t0 : ((tn : Int) == 0) = false := by simp; omega
        by_cases h2 : y2 < 0
        · have HA : Hid (tn = 0 ∨ y2 < 0) := Lib.hid (.inr h2)
          have t2 : decide (y2 < 0) = true := by simpa using h2
          go_wp2_with fail
          with_reducible refine C1.out.mono ?_
          rintro e' w1 ⟨rfl, rfl⟩
          go_wp2_with fail
          with_reducible refine C2.out.mono ?_
          rintro e' w1 ⟨rfl, rfl⟩
          go_wp2_with fail
          with_reducible refine (HIR.out es L k d wr HR.out (by omega)).mono ?_
          intro e' w5 hq
          obtain ⟨L5, k5, d5, h1, hrow5⟩ := RetBt.out hq
          subst h1
          have HR5 := Lib.hid hrow5
          clear e0 e1 e2 e3 e4 e5 e6 hq hrow5
          go_wp2
          go_ret
          exact ⟨L5, k5, d5, rfl, by rw [HBT.out, if_neg (show ¬ 0 ≤ y1 by have := HNB.out; omega), if_neg (fun h => by have := HNB.out; have := h.1; omega), if_pos HA.out]; simpa using HR5.out⟩
        · have HA : Hid (¬ (tn = 0 ∨ y2 < 0)) := Lib.hid (fun h => h.elim h0 h2)
          have t2 : decide (y2 < 0) = false := by simpa using h2
          go_wp2_with fail
          with_reducible refine C1.out.mono ?_
          rintro e' w1 ⟨rfl, rfl⟩
          go_wp2_with fail
          with_reducible refine C2.out.mono ?_
          rintro e' w1 ⟨rfl, rfl⟩
          go_wp2
          go_ret
          exact ⟨L, k, d, rfl, by rw [HBT.out, if_neg (show ¬ 0 ≤ y1 by have := HNB.out; omega), if_neg (fun h => by have := HNB.out; have := h.1; omega), if_neg HA.out]; simpa using HR.out⟩
end Go.Proofs.Ytheefpgokdejcaa
namespace Go.Proofs.Ytheefpgokdejcaa
open Go Go.RowKit

def inR (xs ys : List UInt8) (e : En) : Bool := decide (0 ≤ cmpB e.key xs) && decide (ys.length = 0 ∨ cmpB e.key ys < 0)
theorem less_key {a b : En} {zs : List UInt8} (h : lessE a b = true) (k : cmpB b.key zs < 0) : cmpB a.key zs < 0 := by
  rcases lessE_iff.1 h with q | ⟨q, _⟩
  · exact cmpB_trans q k
  · rw [q]; exact k
theorem betw_list (xs ys : List UInt8) : ∀ {t : Tr}, SortL t.list → betw xs ys t = t.list.filter (inR xs ys)
  | .nil, _ => rfl
  | .node l e r, hs => by
    have hs' : SortL (l.list ++ e :: r.list) := hs
    obtain ⟨sl, sr, slr⟩ := List.pairwise_append.1 hs'
    obtain ⟨er, srr⟩ := List.pairwise_cons.1 sr
    rw [betw, Tr.list, List.filter_append, List.filter_cons, betw_list xs ys sl, betw_list xs ys srr]
    have hl : ¬ 0 ≤ cmpB e.key xs → l.list.filter (inR xs ys) = [] := fun h => by
      rw [List.filter_eq_nil_iff]
      intro y hy k
      have hk : cmpB y.key xs < 0 := less_key (slr y hy e (by simp)) (by omega)
      unfold inR at k
      simp at k
      omega
    have hr : ¬ (ys.length = 0 ∨ cmpB e.key ys < 0) → r.list.filter (inR xs ys) = [] := fun h => by
      rw [List.filter_eq_nil_iff]
      intro y hy k
      unfold inR at k
      rw [Bool.and_eq_true, decide_eq_true_eq, decide_eq_true_eq] at k
      rcases k.2 with q | q
      · exact h (.inl q)
      · exact h (.inr (less_key (er y hy) q))
    by_cases h1 : 0 ≤ cmpB e.key xs
    · by_cases h2 : ys.length = 0 ∨ cmpB e.key ys < 0
      · rw [if_pos h1, if_pos ⟨h1, h2⟩, if_pos h2, if_pos (by unfold inR; rw [decide_eq_true h1, decide_eq_true h2]; rfl)]
        simp
      · rw [if_pos h1, if_neg (fun h => h2 h.2), if_neg h2, if_neg (by unfold inR; rw [decide_eq_false h2]; simp), hr h2]
        simp
    · by_cases h2 : ys.length = 0 ∨ cmpB e.key ys < 0
      · rw [if_neg h1, if_neg (fun h => h1 h.1), if_pos h2, if_neg (by unfold inR; rw [decide_eq_false h1]; simp), hl h1]
        simp
      · rw [if_neg h1, if_neg (fun h => h1 h.1), if_neg h2, if_neg (by unfold inR; rw [decide_eq_false h1]; simp), hl h1, hr h2]
        simp
end Go.Proofs.Ytheefpgokdejcaa
namespace Go.Proofs.Ytheefpgokdejcaa
open Go Go.RowKit

set_option maxRecDepth 100000 in
set_option maxHeartbeats 4000000 in
theorem range_any {d : TypeId × List Value} {G : Nat → Prop} {w : World} {p : Nat} {t : Tr} {F T : Option Addr} {fn fc tn tc : Nat} {xs ys : List UInt8} (h : TB d G w p t) (hf : Rd w F fn xs) (ht : Rd w T tn ys) (hs : ∀ e ∈ t.list, SzE e) (hn : t.num ≤ 1099511627776) :
    Calls Try.prog 30 #[.pointer (some ⟨p, 0, none⟩), .slice F fn fc, .slice T tn tc] w (RetBt w (betw xs ys t)) := by
  obtain ⟨A, h1, h2, _⟩ := h
  obtain ⟨c0, c1, c2, _⟩ := h1.ct
  have HB : Hid (Calls Try.prog 64 #[.pointer A, .slice none 0 0, .slice F fn fc, .slice T tn tc] w (RetBt w (betw xs ys t))) := Lib.hid (by
    have := between_any (fc := fc) (tc := tc) hf ht t A h2 hs [] none 0 0 w (RowE.zero _ _ (Nat.le_refl _)) (by omega)
    simpa using this)
  clear h1 h2 hf ht hs
  go_enter Try.func30, Try.ntmps30
  go_wp2_with fail
  with_reducible refine HB.out.mono ?_
  intro e w2 hq
  obtain ⟨L, k, d, h1, hrow⟩ := RetBt.out hq
  subst h1
  have HR := Lib.hid hrow
  clear hq hrow HB
  go_wp2
  go_ret
  exact ⟨L, k, d, rfl, HR.out⟩
set_option maxRecDepth 100000 in
set_option maxHeartbeats 4000000 in
theorem refSize_any {w : World} {A : Option Addr} {n c : Nat} {es : List En} (h : REs w A n es) (hn : n ≤ 1099511627776) (hz : szL es ≤ 1099511627776) : Calls Try.prog 24 #[.slice A n c] w (RetNu w (szL es : Int)) := by
  have HL := Lib.hid h.len
  go_enter Try.func24, Try.ntmps24
  go_wp2
  go_loopw [3, 4] (fun s3 s4 wr => ∃ k q : Nat, k ≤ n ∧ s4 = .int .i64 (k : Int) ∧ s3 = .int .i64 (szL (es.take k) : Int) ∧ wr = w.drewN q) (fun _ s _ => n - (intOf s).toNat)
  case atStart => exact ⟨0, 0, Nat.zero_le _, rfl, rfl, rfl⟩
  case round =>
    obtain ⟨k, q, hk, rfl, rfl, hX⟩ := hrel
    have hR : REs wr A n es := by rw [hX]; exact h.drewN q
    have HX := Lib.hid hX
    have hst := szL_take es k
    have hst1 := szL_take es (k + 1)
    clear hX
    by_cases hlt : k < n
    · obtain ⟨b, off, rfl, hbl⟩ := hR.pos (by omega)
      obtain ⟨x, v0, v1, v2, v3, hx, m0, m1, m2, m3, hev⟩ := hR.at_ k hlt
      obtain ⟨K, kn, kc, V, vn, vc, rfl, rfl, rfl, rfl, r0, r3, _⟩ := hev.parts
      have hsn := szL_snoc hx
      have hwx : wE x = kn + vn := by unfold wE; rw [r0.len, r3.len]
      have HSN : Hid (szL (es.take (k + 1)) = szL (es.take k) + kn + vn) := Lib.hid (by omega)
      have E4 : Hid (wrap64 ((szL (es.take k) : Int) + (kn : Int)) = (szL (es.take k) : Int) + (kn : Int)) := Lib.hid (IntWalk.wrap64_in _ (by omega))
      have E5 : Hid (wrap64 ((szL (es.take k) : Int) + (kn : Int) + (vn : Int)) = (szL (es.take k) : Int) + (kn : Int) + (vn : Int)) := Lib.hid (IntWalk.wrap64_in _ (by omega))
      clear hx hev hR r0 r3 hsn hwx
      go_wp2
      go_quiet (fail)
      have BN : Hid (wr.drewN nq = w.drewN (q + nq)) := Lib.hid (by rw [HX.out, World.drewN_drewN])
      clear m0 m1 m2 m3
      go_wp2
      go_roundw
      case rel => exact ⟨k + 1, q + nq, by omega, by go_num, by simp [E4.out, E5.out, HSN.out], BN.out⟩
      case measure => simp [intOf]; omega
    · have htk := take_all HL.out hlt
      have HTK := Lib.hid htk
      clear htk hR hst hst1
      go_wp2
      go_ret
      exact ⟨by first | rfl | (rw [HTK.out]; rfl) | (rw [← HTK.out]; rfl), by rw [HX.out]; exact below_drewN (Below.refl _ _) q⟩
end Go.Proofs.Ytheefpgokdejcaa
namespace Go.Proofs.Ytheefpgokdejcaa
open Go Go.RowKit

/-- What a list that is picked out of another comes to. -/
def RetPick (w : World) (es : List En) (us : List Value) (e : Ending) (w' : World) : Prop :=
  ∃ L k d vs, e = .returned (.slice L k d) ∧ OwnE w' w.heap.size L k d vs ∧ EVs w' es vs ∧ es.length = k ∧ Below w.heap.size w w' ∧ ∀ u ∈ vs, u ∈ us
theorem RetPick.out {w : World} {es : List En} {us : List Value} {e : Ending} {w' : World} (h : RetPick w es us e w') : ∃ L k d vs, e = .returned (.slice L k d) ∧ OwnE w' w.heap.size L k d vs ∧ EVs w' es vs ∧ es.length = k ∧ Below w.heap.size w w' ∧ ∀ u ∈ vs, u ∈ us := h
theorem RetPick.res {w : World} {es : List En} {us : List Value} {e : Ending} {w' : World} (h : RetPick w es us e w') : ∃ L k d, e = .returned (.slice L k d) ∧ REs w' L k es ∧ k ≤ d ∧ Below w.heap.size w w' := by
  obtain ⟨L, k, d, vs, h1, h2, h3, h4, h5, _⟩ := h
  exact ⟨L, k, d, h1, REs.mk h3 h2.rd h4, h2.cap.1, h5⟩
/-- 'So far picked.' -/
def Pck (w : World) (us : List Value) (es : List En) (L : Option Addr) (k d : Nat) (wr : World) : Prop :=
  ∃ vs, OwnE wr w.heap.size L k d vs ∧ EVs w es vs ∧ es.length = k ∧ Below w.heap.size w wr ∧ ∀ u ∈ vs, u ∈ us
theorem Pck.zero (w : World) (us : List Value) : Pck w us [] none 0 0 w := ⟨[], OwnE.nil _ _, rfl, rfl, Below.refl _ _, fun u hu => by cases hu⟩
theorem Pck.below {w wr w' : World} {us : List Value} {es : List En} {L : Option Addr} {k d : Nat} (h : Pck w us es L k d wr) (hb : Below wr.heap.size wr w') : Pck w us es L k d w' := by
  obtain ⟨vs, h1, h2, h3, h4, h5⟩ := h
  exact ⟨vs, h1.below hb, h2, h3, belowT' h4 hb, h5⟩
theorem Pck.bel {w wr : World} {us : List Value} {es : List En} {L : Option Addr} {k d : Nat} (h : Pck w us es L k d wr) : Below w.heap.size w wr := by
  obtain ⟨vs, h1, h2, h3, h4, h5⟩ := h
  exact h4
theorem Pck.len {w wr : World} {us : List Value} {es : List En} {L : Option Addr} {k d : Nat} (h : Pck w us es L k d wr) : es.length = k := by
  obtain ⟨vs, h1, h2, h3, h4, h5⟩ := h
  exact h3
theorem Pck.ret {w wr : World} {us : List Value} {es : List En} {L : Option Addr} {k d : Nat} (h : Pck w us es L k d wr) : RetPick w es us (.returned (.slice L k d)) wr := by
  obtain ⟨vs, h1, h2, h3, h4, h5⟩ := h
  exact ⟨L, k, d, vs, rfl, h1, h2.below h4, h3, h4, h5⟩
theorem Pck.snoc {w w4 : World} {us vs : List Value} {es : List En} {L' : Option Addr} {k d' : Nat} {x : En} {v0 v1 v2 v3 : Value} (h2 : EVs w es vs) (h3 : es.length = k) (h5 : ∀ u ∈ vs, u ∈ us)
    (hx : EV w x v0 v1 v2 v3) (hm : ∀ u ∈ [v0, v1, v2, v3], u ∈ us) (o4 : OwnE w4 w.heap.size L' (k + 1) d' (vs ++ [v0, v1, v2, v3])) (b4 : Below w.heap.size w w4) : Pck w us (es ++ [x]) L' (k + 1) d' w4 :=
  ⟨vs ++ [v0, v1, v2, v3], o4, h2.app (EVs.one hx), by simp [h3], b4, fun u hu => by
    rcases List.mem_append.1 hu with h | h
    · exact h5 u h
    · exact hm u h⟩
theorem mem4 {w : World} {A : Option Addr} {n k b off : Nat} {es : List En} {ovs : List Value} (hv : EVs w es ovs) (hd : RdV w A (n * 4) ovs) (hl : es.length = n) (hA : A = some ⟨b, off, none⟩) (hk : k < n) :
    ∃ e v0 v1 v2 v3, es[k]? = some e ∧ w.cell? ⟨b, off + k * 4, none⟩ = some v0 ∧ w.cell? ⟨b, off + k * 4 + 1, none⟩ = some v1 ∧
      w.cell? ⟨b, off + k * 4 + 2, none⟩ = some v2 ∧ w.cell? ⟨b, off + k * 4 + 3, none⟩ = some v3 ∧ EV w e v0 v1 v2 v3 ∧ ∀ u ∈ [v0, v1, v2, v3], u ∈ ovs := by
  subst hA
  obtain ⟨b', off', e, hb, hc⟩ := hd.2 (by omega)
  injection e with e
  injection e with e1 e2
  subst e1 e2
  obtain ⟨x, hx⟩ : ∃ x, es[k]? = some x := ⟨_, List.getElem?_eq_getElem (by omega)⟩
  obtain ⟨v0, v1, v2, v3, e0, e1, e2, e3, g0⟩ := hv.at_ k hx
  refine ⟨x, v0, v1, v2, v3, hx, hc _ _ e0, ?_, ?_, ?_, g0, fun u hu => ?_⟩
  · rw [Nat.add_assoc]; exact hc _ _ e1
  · rw [Nat.add_assoc]; exact hc _ _ e2
  · rw [Nat.add_assoc]; exact hc _ _ e3
  · simp only [List.mem_cons, List.not_mem_nil, or_false] at hu
    rcases hu with rfl | rfl | rfl | rfl
    · exact List.mem_of_getElem? e0
    · exact List.mem_of_getElem? e1
    · exact List.mem_of_getElem? e2
    · exact List.mem_of_getElem? e3
theorem filter_snoc {es : List En} {k : Nat} {x : En} {p : En → Bool} (hx : es[k]? = some x) : (es.take (k + 1)).filter p = (es.take k).filter p ++ (if p x then [x] else []) := by
  rw [List.take_add_one, hx, List.filter_append]
  simp only [Option.toList, List.filter_cons, List.filter_nil]
set_option maxRecDepth 100000 in
set_option maxHeartbeats 8000000 in
theorem refRange_any {w : World} {A F T : Option Addr} {n c fn fc tn tc : Nat} {es : List En} {ovs : List Value} {xs ys : List UInt8} (hv : EVs w es ovs) (hd : RdV w A (n * 4) ovs) (hl : es.length = n) (hn : n ≤ 1099511627776) (hs : ∀ x ∈ es, SzE x) (hf : Rd w F fn xs) (ht : Rd w T tn ys) (hfn : fn ≤ maxLen) (htn : tn ≤ maxLen) :
    Calls Try.prog 31 #[.slice A n c, .slice F fn fc, .slice T tn tc] w (RetPick w (es.filter (inR xs ys)) ovs) := by
  have HV := Lib.hid hv
  have HD := Lib.hid hd
  have HL := Lib.hid hl
  have HS := Lib.hid hs
  have HF := Lib.hid hf
  have HT := Lib.hid ht
  clear hv hd hl hs hf ht
  go_enter Try.func31, Try.ntmps31
  go_wp2_with fail
  go_loopw [7, 8] (fun s7 s8 wr => ∃ (k m d : Nat) (L : Option Addr), k ≤ n ∧ s8 = .int .i64 (k : Int) ∧ s7 = .slice L m d ∧ Pck w ovs ((es.take k).filter (inR xs ys)) L m d wr) (fun _ s _ => n - (intOf s).toNat)
  case atStart => exact ⟨0, 0, 0, none, Nat.zero_le _, rfl, rfl, Pck.zero w ovs⟩
  case round =>
    obtain ⟨k, m, d, L, hk, rfl, rfl, hp⟩ := hrel
    have HP := Lib.hid hp
    have HB := Lib.hid hp.bel
    clear hp
    by_cases hlt : k < n
    · obtain ⟨b, off, hAb, hbl⟩ : ∃ b off, A = some ⟨b, off, none⟩ ∧ b < w.heap.size := HD.out.pos (by omega)
      obtain ⟨x, v0, v1, v2, v3, hx, c0, c1, c2, c3, hev, hmem⟩ := mem4 HV.out HD.out HL.out hAb hlt
      have HAB := Lib.hid hAb
      subst hAb
      have hsx := HS.out x (List.mem_of_getElem? hx)
      have HEV := Lib.hid hev
      have HMEM := Lib.hid hmem
      have HXK := Lib.hid hx
      have HCW : Hid (w.cell? ⟨b, off + k * 4, none⟩ = some v0 ∧ w.cell? ⟨b, off + k * 4 + 1, none⟩ = some v1 ∧ w.cell? ⟨b, off + k * 4 + 2, none⟩ = some v2 ∧ w.cell? ⟨b, off + k * 4 + 3, none⟩ = some v3) := Lib.hid ⟨c0, c1, c2, c3⟩
      obtain ⟨K, kn, kc, V, vn, vc, rfl, rfl, rfl, rfl, r0, _⟩ := hev.parts
      have hkn : kn ≤ maxLen := maxLen_e (by rw [← r0.len]; exact hsx.1)
      obtain ⟨z1, hz1⟩ : ∃ z, cmpB x.key xs = z := ⟨_, rfl⟩
      obtain ⟨z2, hz2⟩ : ∃ z, cmpB x.key ys = z := ⟨_, rfl⟩
      have HC1 : Hid (Calls Try.prog 65 #[.slice K kn kc, .slice F fn fc] wr (RetZ wr z1)) := Lib.hid (refCmp_is _ _ _ _ _ _ x.key xs z1 hz1 _ (r0.below HB.out) (HF.out.below HB.out) hkn hfn)
      have HC2 : Hid (∀ q, Calls Try.prog 65 #[.slice K kn kc, .slice T tn tc] (wr.drewN q) (RetZ (wr.drewN q) z2)) := Lib.hid (fun q => refCmp_is _ _ _ _ _ _ x.key ys z2 hz2 _ (((r0.below HB.out)).drewN q) ((HT.out.below HB.out).drewN q) hkn htn)
      have hyl := HT.out.len
      obtain ⟨zz, hzz⟩ : ∃ zz, zz = inR xs ys x := ⟨_, rfl⟩
      have HIR : Hid (zz = (decide (0 ≤ z1) && decide (tn = 0 ∨ z2 < 0))) := Lib.hid (by rw [hzz]; unfold inR; rw [hz1, hz2, hyl])
      have HFT : Hid ((es.take (k + 1)).filter (inR xs ys) = (es.take k).filter (inR xs ys) ++ (if zz then [x] else [])) := Lib.hid (by rw [hzz]; exact filter_snoc HXK.out)
      have hB := HB.out
      have d0 := (hB.cell (p := ⟨b, off + k * 4, none⟩) hbl).trans c0
      have d1 := (hB.cell (p := ⟨b, off + k * 4 + 1, none⟩) hbl).trans c1
      have d2 := (hB.cell (p := ⟨b, off + k * 4 + 2, none⟩) hbl).trans c2
      have d3 := (hB.cell (p := ⟨b, off + k * 4 + 3, none⟩) hbl).trans c3
      clear hx c0 c1 c2 c3 hev hmem r0 hz1 hz2 hyl hzz hB
      go_upto_region 5 with (fail)
      go_cut [37] from 9 to 38 (fun s37 wx => s37 = .bool zz ∧ ∃ q, wx = wr.drewN q)
      case first =>
        by_cases t1 : 0 ≤ z1
        · have h1 : decide (0 ≤ z1) = true := by simpa using t1
          by_cases t2 : tn = 0
          · have HZ : Hid (zz = true) := Lib.hid (by rw [HIR.out, h1]; simp [t2])
            have h2 : ((tn : Int) == 0) = true := by simpa using t2
            clear t2
            go_wp2_with fail
            with_reducible refine HC1.out.mono ?_
            rintro e w1 ⟨rfl, q, rfl⟩
            go_wp2_with fail
            go_meet
            exact ⟨by rw [HZ.out], _, rfl⟩
          · have h2 : ((tn : Int) == 0) = false := by simpa using t2
            go_wp2_with fail
            with_reducible refine HC1.out.mono ?_
            rintro e w1 ⟨rfl, q, rfl⟩
            go_wp2_with fail
            with_reducible refine (HC2.out q).mono ?_
            rintro e w1 ⟨rfl, q2, rfl⟩
            go_wp2_with fail
            go_meet
            exact ⟨by rw [HIR.out, h1]; simp [t2], q + q2, rfl⟩
        · have h1 : decide (0 ≤ z1) = false := by simpa using t1
          go_wp2_with fail
          with_reducible refine HC1.out.mono ?_
          rintro e w1 ⟨rfl, q, rfl⟩
          go_wp2_with fail
          go_meet
          exact ⟨by rw [HIR.out, h1]; rfl, q, rfl⟩
      case rest =>
        obtain ⟨rfl, q, rfl⟩ := hcut
        cases zz with
        | true =>
          have B1 : Below wr.heap.size wr (wr.drewN q) := below_drewN (Below.refl _ _) q
          have HP1 := Lib.hid (HP.out.below B1)
          obtain ⟨vs, o1, hev1, hlen1, hb1, hm1⟩ := HP1.out
          have O1 := Lib.hid o1
          have HE1 := Lib.hid hev1
          have HL1 := Lib.hid hlen1
          have HM1 := Lib.hid hm1
          have HB1 := Lib.hid hb1
          obtain ⟨W, hW⟩ : ∃ W, W = wr.drewN q := ⟨_, rfl⟩
          rw [← hW] at O1 HB1 ⊢
          have hmn : m ≤ n := by rw [← HL1.out]; exact Nat.le_trans (List.length_filter_le _ _) (by rw [List.length_take]; omega)
          have bl : Below W.heap.size W (W.alloc (.cells #[.slice K kn kc, .int .u64 (x.seq : Int), .int .u8 (x.kind : Int), .slice V vn vc] 38)) := (Below.refl _ _).alloc (Nat.le_refl _) _
          have O1' := Lib.hid (O1.out.below bl)
          have r2 := Lib.hid (rdv_of_cl (Cl.new W #[.slice K kn kc, .int .u64 (x.seq : Int), .int .u8 (x.kind : Int), .slice V vn vc] 38))
          have BL := Lib.hid bl
          have sW := HB1.out.size
          obtain ⟨e0, e1, e2, e3⟩ : W.cell? ⟨b, off + k * 4, none⟩ = some (.slice K kn kc) ∧ W.cell? ⟨b, off + k * 4 + 1, none⟩ = some (.int .u64 (x.seq : Int)) ∧ W.cell? ⟨b, off + k * 4 + 2, none⟩ = some (.int .u8 (x.kind : Int)) ∧ W.cell? ⟨b, off + k * 4 + 3, none⟩ = some (.slice V vn vc) := by rw [hW]; exact ⟨d0, d1, d2, d3⟩
          clear o1 hev1 hlen1 hb1 hm1 hW bl d0 d1 d2 d3 B1
          go_wp2_with (at_builtin; refine wpList_app4 (W.alloc (.cells #[.slice K kn kc, .int .u64 (x.seq : Int), .int .u8 (x.kind : Int), .slice V vn vc] 38)) rfl _ _ 27 rfl w.heap.size _ 64 Try.underlying27 info_ent rfl L m d vs rfl O1'.out (some ⟨W.heap.size, 0, none⟩) 1 1 [.slice K kn kc, .int .u64 (x.seq : Int), .int .u8 (x.kind : Int), .slice V vn vc] rfl r2.out HEV.out.cells ?_ ?_ ?_ ?_)
          · omega
          · omega
          intro A2 c2 w2 o2 _ b2
          have HP2 : Hid (Pck w ovs ((es.take (k + 1)).filter (inR xs ys)) A2 (m + 1) c2 w2) := Lib.hid (by
            rw [HFT.out]
            exact Pck.snoc HE1.out HL1.out HM1.out HEV.out HMEM.out o2 ((HB1.out.trans (BL.out.mono sW)).trans b2))
          clear o2 b2 e0 e1 e2 e3
          go_wp2_with fail
          go_roundw
          case rel => exact ⟨k + 1, m + 1, c2, A2, by omega, by go_num, rfl, HP2.out⟩
          case measure => simp [intOf]; omega
        | false =>
          have HP2 : Hid (Pck w ovs ((es.take (k + 1)).filter (inR xs ys)) L m d (wr.drewN q)) := Lib.hid (by
            rw [HFT.out]
            simpa using HP.out.below (below_drewN (Below.refl _ _) q))
          clear d0 d1 d2 d3
          go_wp2_with fail
          go_roundw
          case rel => exact ⟨k + 1, m, d, L, by omega, by go_num, rfl, HP2.out⟩
          case measure => simp [intOf]; omega
    · have htk := take_all HL.out hlt
      rw [htk] at HP
      clear htk
      go_wp2
      go_ret
      exact HP.out.ret
end Go.Proofs.Ytheefpgokdejcaa
namespace Go.Proofs.Ytheefpgokdejcaa
open Go Go.RowKit

/-- Blocks of other kinds are other blocks. -/
theorem row_ne {t1 t2 : TypeId} {s1 s2 : Nat} {w : World} {b1 b2 n c m d : Nat} {L A : Option Addr} {i j : Nat} {vs us : List Value} (h : w.ownsRow b1 t1 s1 (.slice L n c) i vs) (k : w.ownsRow b2 t2 s2 (.slice A m d) j us) (hne : t1 ≠ t2) : Dj L A := fun b e1 e2 => by
  rcases h.2 with ⟨h1, _⟩ | ⟨g, cap, cur, h1, _, hg, _⟩
  · injection h1 with h1
    rw [h1] at e1; cases e1
  · injection h1 with h1
    rw [h1] at e1
    injection e1 with e1
    rcases k.2 with ⟨k1, _⟩ | ⟨g2, cap2, cur2, k1, _, kg, _⟩
    · injection k1 with k1
      rw [k1] at e2; cases e2
    · injection k1 with k1
      rw [k1] at e2
      injection e2 with e2
      simp only at e1 e2
      subst e1 e2
      rw [hg] at kg
      injection kg with kg
      injection kg with _ kg
      exact hne kg
theorem ownV_ne {t : TypeId} {w : World} {b1 b2 n c m d : Nat} {L A : Option Addr} {vs : List Value} {xs : List UInt8} (h : OwnV t w b1 L n c vs) (k : Own 5 w b2 A m d xs) (hne : t ≠ 5) : Dj L A := row_ne h k hne
theorem cl_row {ty t : TypeId} {s : Nat} {w : World} {p b2 m d j : Nat} {A : Option Addr} {us : Array Value} {vs : List Value} (h : Cl w p us ty) (k : w.ownsRow b2 t s (.slice A m d) j vs) (hne : ty ≠ t) : blk A ≠ some p := fun e2 => by
  rcases k.2 with ⟨k1, _⟩ | ⟨g2, cap2, cur2, k1, _, kg, _⟩
  · injection k1 with k1
    rw [k1] at e2; cases e2
  · injection k1 with k1
    rw [k1] at e2
    injection e2 with e2
    simp only at e2
    subst e2
    unfold Cl at h
    rw [h] at kg
    injection kg with kg
    injection kg with _ kg
    exact hne kg
theorem cl_ne {ty : TypeId} {w : World} {p b2 m d : Nat} {A : Option Addr} {us : Array Value} {xs : List UInt8} (h : Cl w p us ty) (k : Own 5 w b2 A m d xs) (hne : ty ≠ 5) : blk A ≠ some p := cl_row h k hne
theorem Cl.grown {w w' : World} {p : Nat} {us : Array Value} {ty : TypeId} {row : Option Nat} (h : Cl w p us ty) (hg : w.grownBy w' row) (hne : row ≠ some p) : Cl w' p us ty := by
  obtain ⟨_, _, _, h4, h5⟩ := hg
  exact (h5 p h.lt (fun e => hne e.symm)).trans h
theorem rdPre2 {e : TypeId} {w : World} {base g n k : Nat} {xs : List UInt8} (h : Own e w base (some ⟨g, 0, none⟩) (n + 40) (n + 40) (xs ++ room n k)) (hx : xs.length = n) : Rd w (some ⟨g, 0, none⟩) n xs := by
  have := (h.prefix n (by omega) (by simp)).rd
  rw [List.take_left' hx] at this
  exact this
theorem ownV_box2 (w : World) (t : TypeId) (base : Nat) (vs : List Value) (n : Nat) (hl : vs.length = n) (hn : n ≤ 1024) (hb : base ≤ w.heap.size) (cs : Array Value) (hc : cs = vs.toArray) : OwnV t (w.alloc (.cells cs t)) base (some ⟨w.heap.size, 0, none⟩) n n vs := by
  subst hc
  refine ⟨by simp [hl], .inr ⟨w.heap.size, n, vs.toArray, rfl, hb, heap_alloc_new w _, Nat.le_refl _, by unfold maxLen; omega, by simp [hl], ?_⟩⟩
  simp only [Nat.mul_one]
  exact List.take_of_length_le (by simp [hl])
theorem mem_own2 {w : World} {base : Nat} {ps : List VB} (h : Fam w base ps) {A : Option Addr} {m c : Nat} {xs : List UInt8} (hp : (Value.slice A m c, xs) ∈ ps) : Own 5 w base A m c xs := by
  obtain ⟨A', m', c', e, ho⟩ := h.1 _ hp
  injection e with e1 e2 e3
  subst e1 e2 e3
  exact ho
section
variable {w w' : World} {base : Nat} {ps qs : List VB}
theorem Fam.off_cl (h : Fam w base ps) {p : Nat} {us : Array Value} {ty : TypeId} (hp : Cl w p us ty) (hne : ty ≠ 5) : OffF ps p := fun q hq e => by
  obtain ⟨A, m, c, e1, ho⟩ := h.1 q hq
  rw [e1, own_blk] at e
  exact cl_ne hp ho hne e
theorem Fam.off_row (h : Fam w base ps) {t : TypeId} {b1 n c : Nat} {L : Option Addr} {vs : List Value} (hl : OwnV t w b1 L n c vs) (hne : t ≠ 5) : ∀ b, blk L = some b → OffF ps b := fun b hb q hq e => by
  obtain ⟨A, m, d, e1, ho⟩ := h.1 q hq
  rw [e1, own_blk] at e
  exact ownV_ne hl ho hne b hb e
theorem Fam.perm (h : Fam w base ps) (hp : ps.Perm qs) : Fam w base qs :=
  ⟨fun p hq => h.1 p (hp.mem_iff.2 hq), h.2.perm hp (fun {_ _} hab => Ap.symm hab)⟩
theorem Fam.app {base' : Nat} (h : Fam w base ps) (hn : Fam w' base' qs) (hb : Below w.heap.size w w') (h1 : w.heap.size ≤ base') (h2 : base ≤ base') : Fam w' base (ps ++ qs) := by
  have h0 : Fam w base (ps ++ []) := by rw [List.append_nil]; exact h
  have := Fam.ins h0 hn hb h1 h2
  rw [List.append_nil] at this
  exact this
theorem OffF.app {p : Nat} (h : OffF ps p) (k : OffF qs p) : OffF (ps ++ qs) p := fun q hq => by
  rcases List.mem_append.1 hq with h1 | h1
  · exact h q h1
  · exact k q h1
end
section
variable {G H : Nat → Prop} {w w' : World}
theorem EG.reg {e : En} {v0 v1 v2 v3 : Value} (h : EG G w e v0 v1 v2 v3) (hs : ∀ b, b < w.heap.size → G b → H b) : EG H w e v0 v1 v2 v3 :=
  ⟨h.1, fun A m c g hv hg => hs g (h.1.lt hv hg).2 (h.2 A m c g hv hg)⟩
theorem TrAt.reg (hs : ∀ b, b < w.heap.size → G b → H b) : ∀ {t : Tr} {A : Option Addr}, TrAt G w t A → TrAt H w t A
  | .nil, _, h => h
  | .node _ _ _, _, ⟨b, pe, pl, pr, h1, h2, ⟨v0, v1, v2, v3, h3, h4⟩, h5, h6⟩ => ⟨b, pe, pl, pr, h1, h2, ⟨v0, v1, v2, v3, h3, h4.reg hs⟩, TrAt.reg hs h5, TrAt.reg hs h6⟩
theorem TB.reg {d : TypeId × List Value} {p : Nat} {t : Tr} (h : TB d G w p t) (hs : ∀ b, b < w.heap.size → G b → H b) : TB d H w p t := by
  obtain ⟨A, h1, h2, h3⟩ := h
  exact ⟨A, h1, TrAt.reg hs h2, h3⟩
/-- 'Blocks of this kind are no bytes and no slices of bytes.' -/
def okB (ty : TypeId) : Prop := ty ≠ 5 ∧ ty ≠ 35
/-- 'Good bytes stand, and whatever is no row of bytes or of slices of bytes.' -/
def FrB (G : Nat → Prop) (w w' : World) : Prop := ∀ b us ty, Cl w b us ty → (ty = 5 ∧ G b) ∨ okB ty → Cl w' b us ty
theorem own_good {b n c : Nat} {A : Option Addr} {xs : List UInt8} (h : Own 5 w b A n c xs) (hf : FrB G w w') (hg : ∀ k, blk A = some k → G k) : Own 5 w' b A n c xs := by
  refine ⟨h.1, ?_⟩
  rcases h.2 with h1 | ⟨g, cap, cur, h1, h2, h3, h4⟩
  · exact .inl h1
  · injection h1 with e1 e2 e3
    exact .inr ⟨g, cap, cur, by rw [e1, e2, e3], h2, hf g cur _ h3 (.inl ⟨rfl, hg g (by rw [e1]; rfl)⟩), h4⟩
theorem EG.fr {e : En} {v0 v1 v2 v3 : Value} (h : EG G w e v0 v1 v2 v3) (hf : FrB G w w') : EG G w' e v0 v1 v2 v3 := by
  obtain ⟨⟨K, kn, kc, V, vn, vc, rfl, rfl, rfl, rfl, o1, o2, u⟩, hg⟩ := h
  exact ⟨⟨K, kn, kc, V, vn, vc, rfl, rfl, rfl, rfl, own_good o1 hf (fun k hk => hg K kn kc k (by simp) hk), own_good o2 hf (fun k hk => hg V vn vc k (by simp) hk), u⟩, hg⟩
theorem okB_node : okB 124 := ⟨by decide, by decide⟩
theorem okB_ent : okB 38 := ⟨by decide, by decide⟩
theorem okB_tab : okB pl3.1 := ⟨(by decide : 55 ≠ 5), (by decide : 55 ≠ 35)⟩
theorem TrAt.fr (hf : FrB G w w') : ∀ {t : Tr} {A : Option Addr}, TrAt G w t A → TrAt G w' t A
  | .nil, _, h => h
  | .node _ _ _, _, ⟨b, pe, pl, pr, h1, h2, ⟨v0, v1, v2, v3, h3, h4⟩, h5, h6⟩ => ⟨b, pe, pl, pr, h1, hf _ _ _ h2 (.inr okB_node), ⟨v0, v1, v2, v3, hf _ _ _ h3 (.inr okB_ent), h4.fr hf⟩, TrAt.fr hf h5, TrAt.fr hf h6⟩
theorem TB.fr {d : TypeId × List Value} {p : Nat} {t : Tr} (h : TB d G w p t) (hd : okB d.1) (hf : FrB G w w') : TB d G w' p t := by
  obtain ⟨A, h1, h2, h3⟩ := h
  exact ⟨A, hf _ _ _ h1 (.inr hd), TrAt.fr hf h2, h3⟩
/-- Behind what writes over the lists alone. -/
theorem FrB.of_off {base : Nat} {ps : List VB} (hF : Fam w base ps) (h : ∀ b, b < w.heap.size → OffF ps b → w'.heap[b]? = w.heap[b]?) : FrB (OffF ps) w w' := fun b us ty hc hk => by
  rcases hk with ⟨_, hg⟩ | ⟨hk, _⟩
  · exact (h b hc.lt hg).trans hc
  · exact (h b hc.lt (hF.off_cl hc hk)).trans hc
/-- Behind what makes a row of slices longer. -/
theorem FrB.of_row {base n c : Nat} {L : Option Addr} {vs : List Value} (hl : OwnV 35 w base L n c vs) (hg : w.grownBy w' (blk L)) : FrB G w w' := fun b us ty hc hk => by
  refine hc.grown hg (cl_row hc hl ?_)
  rcases hk with ⟨h, _⟩ | ⟨_, h⟩
  · rw [h]; decide
  · exact h
end
/-- One entry more, behind all that are there. -/
theorem putZ_next {t : Tr} {x : En} (h1 : SortL (t.list ++ [x])) (h2 : okE x = true) : ∃ t' : Tr, putZ t [x] = (0, t') ∧ t'.list = t.list ++ [x] := by
  have hs : SortL t.list := (List.pairwise_append.1 h1).1
  have h3 := refIns_sort (p := t.list) (q := [x]) h1
  obtain ⟨k1, k2⟩ := insAll_ref [x] (t := t) hs
  cases hi : insAll t [x] with
  | none => have := k2 hi; rw [h3] at this; cases this
  | some t' =>
    obtain ⟨e1, _⟩ := k1 t' hi
    rw [h3] at e1
    injection e1 with e1
    refine ⟨t', ?_, e1.symm⟩
    unfold putZ
    rw [if_pos (checkE_ok (es := [x]) (fun y hy => by simp only [List.mem_singleton] at hy; subst hy; exact h2)), hi]
/-- One values more appended onto a row of one-cell values at a step of a region that draws its order. -/
theorem step_appV {P : Program} (w : World) {ops : Array Oper} {o : Oper} {a : Act} {K : Act → World → Prop} {Q : Exit → Act → World → Prop} {E : Prop} (hgd : o.guard = none) (s x : Operand) (tt : TypeId)
    (ho : o.op = .call { callee := .builtin .append, args := #[s, x], argTypes := #[tt, tt] })
    (base : Nat) (t : TypeId) (z : Value) (by_ : Nat) (ht : P.underlying tt = some (.slice t)) (hi : (P.info? t).map (fun i => (i.zero, i.size, i.bytes)) = some (some z, 1, by_)) (hz1 : z.cells.size = 1)
    (A : Option Addr) (n c : Nat) (vs : List Value) (hs : a.eval s = .slice A n c) (hown : OwnV t w base A n c vs)
    (ad : Addr) (m d : Nat) (ys : List Value) (hx : a.eval x = .slice (some ad) m d) (hr : RdV w (some ad) m ys) (hm : 0 < m) (h1 : ∀ u ∈ ys, u.oneCell' = true)
    (hn : n + m ≤ maxLen) (hby : (n + m) * by_ ≤ 140737488355328) (hbase : base ≤ w.heap.size)
    (h : ∀ A' c' w', OwnV t w' base A' (n + m) c' (vs ++ ys) → w.grownBy w' (blk A) → K (a.put o.dst (.slice A' (n + m) c')) w') :
    if Region.wanted o (yielded ops a.tmps) = true then Oper.wp P o a w K Q else E := by
  have hw : Region.wanted o (yielded ops a.tmps) = true := by simp [Region.wanted, hgd]
  rw [if_pos hw]
  obtain ⟨i, hi, hz, hsz, hby2⟩ := info_parts hi
  obtain ⟨b, off, e, _, hc⟩ := hr.2 hm
  injection e with e
  subst e
  refine wp_append_own w s x tt ho base t i z 1 by_ ht hi hz hsz hby2 hz1 (by decide) (.slice A n c) n vs hs hown ⟨b, off, none⟩ m d ys hx (by simp [hr.1]) (fun j u hj => by rw [Addr.add_lit]; exact hc j u hj) h1 hn hby hbase ?_
  intro v' w' k1 k2 _
  obtain ⟨A', c', rfl⟩ : ∃ A' c', v' = .slice A' (n + m) c' := by
    rcases k1.2 with ⟨h3, h4⟩ | ⟨g, cap, cur, h3, _⟩
    · exact ⟨none, 0, by rw [h3, h4]⟩
    · exact ⟨_, _, h3⟩
  rw [own_blk] at k2
  exact h A' c' w' k1 k2
/-- Two lists of pairs, a pair of each by turns. -/
def inter {α : Type} : List α → List α → List α
  | a :: b :: r, c :: d :: s => a :: b :: c :: d :: inter r s
  | _, _ => []
theorem four_of {vs : List Value} {k : Nat} (h : vs.length = (k + 1) * 4) : ∃ v0 v1 v2 v3 r, vs = v0 :: v1 :: v2 :: v3 :: r ∧ r.length = k * 4 := by
  match vs, h with
  | [], h => simp at h
  | [_], h => simp at h; omega
  | [_, _], h => simp at h; omega
  | [_, _, _], h => simp at h; omega
  | a :: b :: c :: d :: r, h => exact ⟨a, b, c, d, r, rfl, by simp only [List.length_cons] at h; omega⟩
theorem inter_perm : ∀ (es : List En) {vs us : List Value}, vs.length = es.length * 4 → us.length = es.length * 4 → (pairE es vs ++ pairE es us).Perm (inter (pairE es vs) (pairE es us))
  | [], vs, us, _, _ => by simp [pairE, inter]
  | e :: es, vs, us, h1, h2 => by
    obtain ⟨v0, v1, v2, v3, r, rfl, hr⟩ := four_of h1
    obtain ⟨u0, u1, u2, u3, s, rfl, hs⟩ := four_of h2
    have ih := inter_perm es (vs := r) (us := s) hr hs
    simp only [pairE, inter, List.cons_append]
    refine .cons _ (.cons _ ?_)
    refine List.Perm.trans ?_ (.cons _ (.cons _ ih))
    have p1 : (pairE es r ++ (u0, e.key) :: (u3, e.val) :: pairE es s).Perm ((u0, e.key) :: (pairE es r ++ (u3, e.val) :: pairE es s)) := List.perm_middle
    exact p1.trans (.cons _ List.perm_middle)
theorem inter_take : ∀ (es : List En) {vs us : List Value} (i : Nat) {v0 v3 u0 u3 : Value}, vs.length = es.length * 4 → us.length = es.length * 4 → vs[i * 4]? = some v0 → vs[i * 4 + 3]? = some v3 → us[i * 4]? = some u0 → us[i * 4 + 3]? = some u3 → i < es.length →
    ((inter (pairE es vs) (pairE es us)).take (4 * (i + 1))).map (·.1) = ((inter (pairE es vs) (pairE es us)).take (4 * i)).map (·.1) ++ [v0, v3, u0, u3]
  | [], _, _, i, _, _, _, _, _, _, _, _, _, _, hi => by simp at hi
  | e :: es, vs, us, i, v0, v3, u0, u3, hv, hu, h0, h3, k0, k3, hi => by
    obtain ⟨x0, x1, x2, x3, r, rfl, hr⟩ := four_of hv
    obtain ⟨y0, y1, y2, y3, s, rfl, hs⟩ := four_of hu
    cases i with
    | zero =>
      simp at h0 h3 k0 k3
      subst h0 h3 k0 k3
      simp [pairE, inter]
    | succ i =>
      simp only [List.length_cons] at hi
      have e0 : (i + 1) * 4 = i * 4 + 4 := by omega
      have e3 : (i + 1) * 4 + 3 = i * 4 + 3 + 4 := by omega
      rw [e0] at h0 k0
      rw [e3] at h3 k3
      have ih := inter_take es (vs := r) (us := s) i hr hs (by simpa using h0) (by simpa using h3) (by simpa using k0) (by simpa using k3) (by omega)
      have e4 : 4 * (i + 1 + 1) = 4 * (i + 1) + 4 := by omega
      have e5 : 4 * (i + 1) = 4 * i + 4 := by omega
      simp only [pairE, inter]
      rw [e4]
      simp only [List.take_succ_cons, List.map_cons]
      rw [ih, e5]
      simp only [List.take_succ_cons, List.map_cons, List.cons_append]
theorem pairE_len : ∀ (es : List En) {vs : List Value}, vs.length = es.length * 4 → (pairE es vs).length = es.length * 2
  | [], vs, h => by simp [pairE]
  | e :: es, vs, h => by
    obtain ⟨x0, x1, x2, x3, r, rfl, hr⟩ := four_of h
    have := pairE_len es (vs := r) hr
    simp only [pairE, List.length_cons]
    omega
theorem inter_all (es : List En) {vs us : List Value} (hv : vs.length = es.length * 4) (hu : us.length = es.length * 4) : (inter (pairE es vs) (pairE es us)).take (4 * es.length) = inter (pairE es vs) (pairE es us) := by
  have h := (inter_perm es hv hu).length_eq
  rw [List.length_append, pairE_len es hv, pairE_len es hu] at h
  exact List.take_of_length_le (by omega)
theorem pairE_sz : ∀ {es : List En} {vs : List Value} {q : VB}, q ∈ pairE es vs → ∃ e ∈ es, q.2 = e.key ∨ q.2 = e.val
  | e :: es, x0 :: x1 :: x2 :: x3 :: r, q, h => by
    unfold pairE at h
    simp only [List.mem_cons] at h
    rcases h with rfl | rfl | h
    · exact ⟨e, by simp, .inl rfl⟩
    · exact ⟨e, by simp, .inr rfl⟩
    · obtain ⟨x, hx, k⟩ := pairE_sz h
      exact ⟨x, by simp [hx], k⟩
end Go.Proofs.Ytheefpgokdejcaa
namespace Go.Proofs.Ytheefpgokdejcaa
open Go Go.RowKit

/-- 'So far sorted.' -/
def Spk (w : World) (us : List Value) (es : List En) (L : Option Addr) (k d : Nat) (wr : World) : Prop :=
  ∃ vs, OwnE wr w.heap.size L k d vs ∧ EVs wr es vs ∧ es.length = k ∧ Below w.heap.size w wr ∧ ∀ u ∈ vs, u ∈ us
section
variable {w wr w' : World} {us : List Value} {es : List En} {L : Option Addr} {k d : Nat}
theorem Spk.zero (w : World) (us : List Value) : Spk w us [] none 0 0 w := ⟨[], OwnE.nil _ _, rfl, rfl, Below.refl _ _, fun u hu => by cases hu⟩
theorem Spk.below (h : Spk w us es L k d wr) (hb : Below wr.heap.size wr w') : Spk w us es L k d w' := by
  obtain ⟨vs, h1, h2, h3, h4, h5⟩ := h
  exact ⟨vs, h1.below hb, h2.below hb, h3, belowT' h4 hb, h5⟩
theorem Spk.bel (h : Spk w us es L k d wr) : Below w.heap.size w wr := by
  obtain ⟨vs, h1, h2, h3, h4, h5⟩ := h
  exact h4
theorem Spk.res (h : Spk w us es L k d wr) : REs wr L k es := by
  obtain ⟨vs, h1, h2, h3, h4, h5⟩ := h
  exact REs.mk h2 h1.rd h3
theorem Spk.cap (h : Spk w us es L k d wr) : k ≤ d := by
  obtain ⟨vs, h1, h2, h3, h4, h5⟩ := h
  exact h1.cap.1
theorem Spk.ret (h : Spk w us es L k d wr) : RetPick w es us (.returned (.slice L k d)) wr := by
  obtain ⟨vs, h1, h2, h3, h4, h5⟩ := h
  exact ⟨L, k, d, vs, rfl, h1, h2, h3, h4, h5⟩
end
set_option maxRecDepth 100000 in
set_option maxHeartbeats 8000000 in
theorem sorted_any {w : World} {A : Option Addr} {n c : Nat} {es : List En} {ovs : List Value} (hv : EVs w es ovs) (hd : RdV w A (n * 4) ovs) (hl : es.length = n) (hn : n ≤ 1099511627776) (hs : ∀ x ∈ es, SzE x) :
    Calls Try.prog 32 #[.slice A n c] w (RetPick w (srt [] es) ovs) := by
  have HV := Lib.hid hv
  have HD := Lib.hid hd
  have HL := Lib.hid hl
  have HS := Lib.hid hs
  clear hv hd hl hs
  go_enter Try.func32, Try.ntmps32
  go_wp2_with fail
  go_loopw [3, 4] (fun s3 s4 wr => ∃ (k m d : Nat) (L : Option Addr), k ≤ n ∧ s4 = .int .i64 (k : Int) ∧ s3 = .slice L m d ∧ Spk w ovs (srt [] (es.take k)) L m d wr) (fun _ s _ => n - (intOf s).toNat)
  case atStart => exact ⟨0, 0, 0, none, Nat.zero_le _, rfl, rfl, Spk.zero w ovs⟩
  case round =>
    obtain ⟨k, m, d, L, hk, rfl, rfl, hp⟩ := hrel
    have HP := Lib.hid hp
    have HB := Lib.hid hp.bel
    clear hp
    by_cases hlt : k < n
    · obtain ⟨b, off, hAb, hbl⟩ : ∃ b off, A = some ⟨b, off, none⟩ ∧ b < w.heap.size := HD.out.pos (by omega)
      obtain ⟨x, v0, v1, v2, v3, hx, c0, c1, c2, c3, hev, hmem⟩ := mem4 HV.out HD.out HL.out hAb hlt
      subst hAb
      have hsx := HS.out x (List.mem_of_getElem? hx)
      have HEV := Lib.hid hev
      have HMEM := Lib.hid hmem
      have HXK := Lib.hid hx
      obtain ⟨K, kn, kc, V, vn, vc, rfl, rfl, rfl, rfl, r0, _⟩ := hev.parts
      obtain ⟨o, ho⟩ : ∃ o, o = srt [] (es.take k) := ⟨_, rfl⟩
      rw [← ho] at HP
      have hol : o.length ≤ n := by
        have := (srt_len (es.take k) []).1
        rw [← ho, List.length_take] at this
        simp only [List.length_nil] at this
        omega
      have hom : o.length = m := HP.out.res.len
      have HSO : Hid (∀ y ∈ o, SzE y) := Lib.hid (fun y hy => by
        rw [ho] at hy
        rcases srt_mem y hy with q | q
        · cases q
        · exact HS.out y (List.mem_of_mem_take q))
      have HFT : Hid (srt [] (es.take (k + 1)) = if okE x && !inL o x then insL o x else o) := Lib.hid (by
        rw [List.take_add_one, HXK.out]
        simp only [Option.toList]
        rw [srt_snoc, ← ho])
      have hB := HB.out
      have d0 := (hB.cell (p := ⟨b, off + k * 4, none⟩) hbl).trans c0
      have d1 := (hB.cell (p := ⟨b, off + k * 4 + 1, none⟩) hbl).trans c1
      have d2 := (hB.cell (p := ⟨b, off + k * 4 + 2, none⟩) hbl).trans c2
      have d3 := (hB.cell (p := ⟨b, off + k * 4 + 3, none⟩) hbl).trans c3
      have HSX : Hid (∀ wx, Below wr.heap.size wr wx → wx.cell? ⟨b, off + k * 4, none⟩ = some (.slice K kn kc) ∧ wx.cell? ⟨b, off + k * 4 + 1, none⟩ = some (.int .u64 (x.seq : Int)) ∧ wx.cell? ⟨b, off + k * 4 + 2, none⟩ = some (.int .u8 (x.kind : Int)) ∧ wx.cell? ⟨b, off + k * 4 + 3, none⟩ = some (.slice V vn vc)) := Lib.hid (fun wx h => by
        have hb2 : b < wr.heap.size := Nat.lt_of_lt_of_le hbl hB.size
        exact ⟨(h.cell (p := ⟨b, off + k * 4, none⟩) hb2).trans d0, (h.cell (p := ⟨b, off + k * 4 + 1, none⟩) hb2).trans d1, (h.cell (p := ⟨b, off + k * 4 + 2, none⟩) hb2).trans d2, (h.cell (p := ⟨b, off + k * 4 + 3, none⟩) hb2).trans d3⟩)
      obtain ⟨zc, hzc⟩ : ∃ z, z = checkE [x] := ⟨_, rfl⟩
      obtain ⟨zi, hzi⟩ : ∃ z, z = inL o x := ⟨_, rfl⟩
      have HOK : Hid (okE x = decide (zc = 0)) := Lib.hid (by rw [hzc]; rfl)
      have HZI := Lib.hid hzi
      obtain ⟨W, hW⟩ : ∃ W, W = wr.alloc (.cells #[.slice K kn kc, .int .u64 (x.seq : Int), .int .u8 (x.kind : Int), .slice V vn vc] 38) := ⟨_, rfl⟩
      have bW : Below wr.heap.size wr W := by rw [hW]; exact (Below.refl _ _).alloc (Nat.le_refl _) _
      have BW := Lib.hid bW
      have HEVr := Lib.hid (HEV.out.below hB)
      have HC : Hid (Calls Try.prog 59 #[.slice (some ⟨wr.heap.size, 0, none⟩) 1 1] W (RetNu W zc)) := Lib.hid (by
        rw [hzc]
        refine refCheck_any (REs.mk (EVs.one (HEVr.out.below bW)) ?_ rfl) (by omega) (fun y hy => by simp only [List.mem_singleton] at hy; subst hy; exact hsx)
        rw [hW]
        exact rdv_of_cl (Cl.new wr #[.slice K kn kc, .int .u64 (x.seq : Int), .int .u8 (x.kind : Int), .slice V vn vc] 38))
      have HI : Hid (∀ wx, Below wr.heap.size wr wx → Calls Try.prog 60 #[.slice L m d, .agg #[.slice K kn kc, .int .u64 (x.seq : Int), .int .u8 (x.kind : Int), .slice V vn vc]] wx (RetT wx zi)) := Lib.hid (fun wx h => by
        rw [hzi]
        exact In_any (HP.out.res.below h) (by omega) HSO.out (HEVr.out.below h) hsx)
      clear hx c0 c1 c2 c3 hev hmem r0 hB ho hzc hzi bW
      go_upto_region 5 with (fail)
      go_cut [26] from 5 to 27 (fun s26 wx => s26 = .bool (okE x && !inL o x) ∧ Below wr.heap.size wr wx)
      case first =>
        by_cases t1 : zc = 0
        · have h1 : (zc == 0) = true := by simpa using t1
          have hok : okE x = true := by rw [HOK.out]; simpa using t1
          have HOKT := Lib.hid hok
          clear t1 hok
          go_wp2_with fail
          rw [← hW]
          with_reducible refine HC.out.mono ?_
          rintro e w1 ⟨rfl, b1⟩
          have b1' := belowT' BW.out b1
          obtain ⟨e0, e1, e2, e3⟩ := HSX.out _ b1'
          have B1 := Lib.hid b1'
          clear b1 b1' d0 d1 d2 d3
          go_wp2_with fail
          with_reducible refine (HI.out _ B1.out).mono ?_
          intro e w2 hq
          obtain ⟨hh, b2⟩ := RetT.outD hq
          subst hh
          have B2 := Lib.hid (belowT' B1.out b2)
          clear hq b2 e0 e1 e2 e3
          go_wp2_with fail
          go_meet
          exact ⟨by rw [HOKT.out, ← HZI.out]; rfl, B2.out⟩
        · have h1 : (zc == 0) = false := by simpa using t1
          have hok : okE x = false := by rw [HOK.out]; simpa using t1
          have HOKF := Lib.hid hok
          clear t1 hok
          go_wp2_with fail
          rw [← hW]
          with_reducible refine HC.out.mono ?_
          rintro e w1 ⟨rfl, b1⟩
          have b1' := belowT' BW.out b1
          have B1 := Lib.hid b1'
          clear b1 b1' d0 d1 d2 d3
          go_wp2_with fail
          go_meet
          exact ⟨by rw [HOKF.out]; rfl, B1.out⟩
      case rest =>
        obtain ⟨rfl, hbc⟩ := hcut
        obtain ⟨zz, hzz⟩ : ∃ zz, zz = (okE x && !inL o x) := ⟨_, rfl⟩
        rw [← hzz] at HFT ⊢
        have BC := Lib.hid hbc
        have HPC := Lib.hid (HP.out.below hbc)
        have HEC := Lib.hid (HEVr.out.below hbc)
        obtain ⟨e0, e1, e2, e3⟩ := HSX.out _ hbc
        clear hbc hzz d0 d1 d2 d3 hW
        cases zz with
        | true =>
          obtain ⟨vs, o1, hev1, hlen1, hb1, hm1⟩ := HPC.out
          have HM1 := Lib.hid hm1
          have HB1 := Lib.hid hb1
          have HI2 : Hid (Calls Try.prog 61 #[.slice L m d, .agg #[.slice K kn kc, .int .u64 (x.seq : Int), .int .u8 (x.kind : Int), .slice V vn vc]] wc (RetIns wc (m + 1) (insL o x) ([.slice K kn kc, .int .u64 (x.seq : Int), .int .u8 (x.kind : Int), .slice V vn vc] ++ vs))) := Lib.hid (Insert_any hev1 o1.rd hlen1 o1.cap.1 (by omega) HSO.out HEC.out hsx)
          clear o1 hev1 hlen1 hb1 hm1
          go_wp2_with fail
          with_reducible refine HI2.out.mono ?_
          intro e w3 hq
          obtain ⟨L3, d3', us, h1, o3, ev3, b3, hmem⟩ := RetIns.out hq
          subst h1
          have sC := HB1.out.size
          have HP2 : Hid (Spk w ovs (srt [] (es.take (k + 1))) L3 (m + 1) d3' w3) := Lib.hid (by
            rw [HFT.out, if_pos trivial]
            exact ⟨us, o3.mono sC, ev3, by rw [insL_len, hom], belowT' HB1.out b3, fun u hu => by
              rcases List.mem_append.1 (hmem u hu) with h | h
              · exact HMEM.out u h
              · exact HM1.out u h⟩)
          clear hq o3 ev3 b3 hmem e0 e1 e2 e3
          go_wp2_with fail
          go_roundw
          case rel => exact ⟨k + 1, m + 1, d3', L3, by omega, by go_num, rfl, HP2.out⟩
          case measure => simp [intOf]; omega
        | false =>
          have HP2 : Hid (Spk w ovs (srt [] (es.take (k + 1))) L m d wc) := Lib.hid (by
            rw [HFT.out, if_neg (by simp)]
            exact HPC.out)
          clear e0 e1 e2 e3
          go_wp2_with fail
          go_roundw
          case rel => exact ⟨k + 1, m, d, L, by omega, by go_num, rfl, HP2.out⟩
          case measure => simp [intOf]; omega
    · have htk := take_all HL.out hlt
      rw [htk] at HP
      clear htk
      go_wp2
      go_ret
      exact HP.out.ret
end Go.Proofs.Ytheefpgokdejcaa
namespace Go.Proofs.Ytheefpgokdejcaa
open Go Go.RowKit

theorem size_of_tot4 {es : List En} (ht : totE es ≤ 1048576) : ∀ x ∈ es, SzE x := fun x hx => by
  have := totE_mem hx
  unfold wE at this
  exact ⟨by omega, by omega⟩
theorem szL_tot4 : ∀ es : List En, szL es ≤ totE es
  | [] => Nat.le_refl _
  | e :: t => by have := szL_tot4 t; unfold szL totE; omega
theorem RetPick.res4 {w w' : World} {es : List En} {us : List Value} {e : Ending} (h : RetPick w es us e w') : ∃ L k d, e = .returned (.slice L k d) ∧ REs w' L k es ∧ Below w.heap.size w w' := by
  obtain ⟨L, k, d, vs, h1, h2, h3, h4, h5, h6⟩ := h
  exact ⟨L, k, d, h1, REs.mk h3 h2.rd h4, h5⟩
theorem betw_all4 {t : Tr} (hs : SortL t.list) : betw [] [] t = t.list := by
  rw [betw_list [] [] hs, List.filter_eq_self]
  intro x _
  unfold inR
  have h : 0 ≤ cmpB x.key [] := by cases x.key <;> simp [cmpB]
  simp [h]
theorem long_ok {x : En} (h : okE x = true) : x.key.length ≤ 1024 ∧ x.val.length ≤ 65536 := by
  have := (okE_iff.1 h).1
  unfold longE at this
  simp at this
  omega
/-- What Get hands back: two slices that share nothing. -/
theorem RetGt.fam {w : World} {o : Option En} {e : Ending} {w' : World} (h : RetGt w o e w') : ∃ K kn kc V vn vc, ∃ (sq kd : Nat), ∃ b xs ys, e = .returned (.tuple #[.agg #[.slice K kn kc, .int .u64 (sq : Int), .int .u8 (kd : Int), .slice V vn vc], .bool b]) ∧ Fam w' w.heap.size [(.slice K kn kc, xs), (.slice V vn vc, ys)] ∧ Below w.heap.size w w' ∧ (∀ x, o = some x → xs = x.key ∧ ys = x.val) ∧ (o = none → xs = [] ∧ ys = []) := by
  rcases h with ⟨rfl, rfl, h⟩ | ⟨x, K, kn, kc, V, vn, vc, rfl, rfl, o1, o2, h, dj⟩
  · exact ⟨none, 0, 0, none, 0, 0, 0, 0, _, [], [], rfl, fam_two (Own.nil _ _ _) (Own.nil _ _ _) (fun b h => by cases h), h, (fun x h => by cases h), fun _ => ⟨rfl, rfl⟩⟩
  · exact ⟨K, kn, kc, V, vn, vc, x.seq, x.kind, _, x.key, x.val, rfl, fam_two o1 o2 dj, h, (fun y h => by injection h with h; subst h; exact ⟨rfl, rfl⟩), (fun h => by cases h)⟩
/-- What stands while lists are handed in. -/
def St4 (w2 : World) (M : Option Addr) (n md : Nat) (ps : List VB) (t : Tr) (wr : World) : Prop :=
  OwnV 35 wr w2.heap.size M n md (ps.map (·.1)) ∧ Fam wr w2.heap.size ps ∧ (∀ q ∈ ps, q.2.length ≤ 1073741824) ∧ TB pl3 (OffF ps) wr w2.heap.size t ∧ Below w2.heap.size w2 wr ∧ w2.heap.size < wr.heap.size
theorem ownE_kept {w w' : World} {base n c : Nat} {A : Option Addr} {vs : List Value} {row : Option Nat} (h : OwnE w base A n c vs) (hg : w.grownBy w' row) (hne : ∀ b, blk A = some b → row ≠ some b) : OwnE w' base A n c vs := by
  refine World.ownsRow.kept h hg ?_
  rw [own_blk]
  cases hb : blk A with
  | none => exact .inl rfl
  | some b => exact .inr (fun e => hne b hb e.symm)
/-- What stands while the answers are put behind. -/
def St5 (w2 : World) (M : Option Addr) (N md : Nat) (vals : List Value) (P : List VB) (t : Tr) (La Lb : Option Addr) (k da db ba bb g : Nat) (va vb : List Value) (bx : Array Value) (wr : World) : Prop :=
  OwnV 35 wr w2.heap.size M N md vals ∧ Fam wr w2.heap.size P ∧ TB pl3 (OffF P) wr w2.heap.size t ∧ Below w2.heap.size w2 wr ∧ OwnE wr ba La k da va ∧ OwnE wr bb Lb k db vb ∧ Cl wr g bx 38
theorem St5.grown {w2 wr w' : World} {M M' : Option Addr} {N md N' md' : Nat} {vals vals' : List Value} {P : List VB} {t : Tr} {La Lb : Option Addr} {k da db ba bb g : Nat} {va vb : List Value} {bx : Array Value} (h : St5 w2 M N md vals P t La Lb k da db ba bb g va vb bx wr)
    (hM : OwnV 35 w' w2.heap.size M' N' md' vals') (hg : wr.grownBy w' (blk M)) : St5 w2 M' N' md' vals' P t La Lb k da db ba bb g va vb bx w' := by
  obtain ⟨h1, h2, h3, h4, h5, h6, h7⟩ := h
  refine ⟨hM, h2.kept hg (fun b e => h2.off_row h1 (by decide) b e), h3.fr okB_tab (FrB.of_row h1 hg), h4.grown hg h4.size (fun k hk => (h1.lt k hk).1), ownE_kept h5 hg (fun b hb e => ?_), ownE_kept h6 hg (fun b hb e => ?_), h7.grown hg (fun e => cl_row h7 h1 (by decide) e)⟩
  · exact row_ne h1 h5 (by decide) b e hb
  · exact row_ne h1 h6 (by decide) b e hb
theorem St5.below {w2 wr w' : World} {M : Option Addr} {N md : Nat} {vals : List Value} {P : List VB} {t : Tr} {La Lb : Option Addr} {k da db ba bb g : Nat} {va vb : List Value} {bx : Array Value} (h : St5 w2 M N md vals P t La Lb k da db ba bb g va vb bx wr)
    (hb : Below wr.heap.size wr w') : St5 w2 M N md vals P t La Lb k da db ba bb g va vb bx w' := by
  obtain ⟨h1, h2, h3, h4, h5, h6, h7⟩ := h
  exact ⟨h1.below hb, h2.below hb, h3.below hb, h4.trans (hb.mono h4.size), h5.below hb, h6.below hb, h7.below hb⟩
theorem eos_of_fam {w0 w : World} {b0 base : Nat} : ∀ {es : List En} {vs : List Value}, EOs b0 w0 es vs → (∀ q ∈ pairE es vs, ∃ A m c, q.1 = .slice A m c ∧ Own 5 w base A m c q.2) → EOs base w es vs
  | [], _, h, _ => h
  | e :: es, _, h, hf => by
    obtain ⟨v0, v1, v2, v3, r, rfl, ⟨K, kn, kc, V, vn, vc, rfl, rfl, rfl, rfl, o1, o2, u⟩, h2⟩ := h
    obtain ⟨A, m, c, e1, p1⟩ := hf (.slice K kn kc, e.key) (by simp [pairE])
    obtain ⟨B, n, d, e2, p2⟩ := hf (.slice V vn vc, e.val) (by simp [pairE])
    have p1' : Own 5 w base K kn kc e.key := by
      have e1' : Value.slice K kn kc = Value.slice A m c := e1
      injection e1' with a1 a2 a3
      subst a1 a2 a3
      exact p1
    have p2' : Own 5 w base V vn vc e.val := by
      have e2' : Value.slice V vn vc = Value.slice B n d := e2
      injection e2' with a1 a2 a3
      subst a1 a2 a3
      exact p2
    exact ⟨_, _, _, _, r, rfl, ⟨K, kn, kc, V, vn, vc, rfl, rfl, rfl, rfl, p1', p2', u⟩, eos_of_fam h2 (fun q hq => hf q (by simp [pairE, hq]))⟩
set_option maxRecDepth 100000 in
set_option maxHeartbeats 16000000 in
theorem memKeeps_row (A : Option Addr) (n c : Nat) (es : List En) (B : Option Addr) (m d : Nat) (ks : List UInt8) (w : World) (hr : REs w A n es) (hc : n ≤ c) (ht : totE es ≤ 1048576) (hk : Rd w B m ks) (hmd : m ≤ d) (hd : d ≤ 1048576) (hnl : B = none → d = 0) :
    Calls Try.prog 5 #[.slice A n c, .slice B m d] w (RetT w true) := by
  have hsz := size_of_tot4 ht
  have hn : n ≤ 1048576 := by have := totE_len es; have := hr.len; omega
  obtain ⟨q, hq⟩ : ∃ q, q = min n 20 := ⟨_, rfl⟩
  have hqn : q ≤ n := by omega
  obtain ⟨us, hus, hrd⟩ := hr.takeV hqn
  have hln : (es.take q).length = q := by rw [List.length_take, hr.len]; omega
  obtain ⟨S, hS⟩ : ∃ S, S = srt [] (es.take q) := ⟨_, rfl⟩
  have hSP := srt_prop (xs := es.take q) (o := []) List.Pairwise.nil (fun x hx => by cases hx)
  have hSL := srt_len (es.take q) []
  have hSM : ∀ x ∈ S, SzE x := fun x hx => by
    rw [hS] at hx
    rcases srt_mem x hx with h | h
    · cases h
    · exact hsz x (List.mem_of_mem_take h)
  rw [← hS] at hSP hSL
  have hSn : S.length ≤ 20 := by rw [hln] at hSL; simp only [List.length_nil] at hSL; omega
  have hSz : szL S ≤ 1048576 := by
    have h1 := szL_take es q
    have h2 := szL_tot4 es
    have := hSL.2
    simp only [szL] at this
    omega
  have HUS := Lib.hid hus
  have HRD := Lib.hid hrd
  have HKS := Lib.hid hk
  have HNL := Lib.hid hnl
  have HSM := Lib.hid hSM
  have HSO := Lib.hid hSP.1
  have HOK := Lib.hid hSP.2
  have HS := Lib.hid hS
  have HSZ := Lib.hid (fun x (hx : x ∈ es.take q) => hsz x (List.mem_of_mem_take hx))
  have HLQ := Lib.hid hln
  have HF : Hid (∀ wx, Calls Try.prog 17 #[.slice A n c, .int .i64 20] wx fun e w' => e = .returned (.slice A q c) ∧ w' = wx) := Lib.hid (fun wx => by rw [hq]; exact few_any A n c 20 hc)
  clear hr hk ht hsz hus hrd hSP hSL hSM hS hln hq hnl
  go_enter Try.func5, Try.ntmps5
  go_wp2_with fail
  with_reducible refine (awake7_any w).mono ?_
  rintro e w1 ⟨rfl, b1⟩
  have B1 := Lib.hid b1
  have s1 := b1.size
  clear b1
  go_wp2_with fail
  with_reducible refine (HF.out _).mono ?_
  rintro e wX ⟨rfl, rfl⟩
  have HST : Hid (Calls Try.prog 32 #[.slice A q c] wX (RetPick wX S us)) := Lib.hid (by
    rw [HS.out]
    exact sorted_any (HUS.out.below B1.out) (HRD.out.below B1.out) HLQ.out (by omega) HSZ.out)
  go_wp2_with fail
  with_reducible refine HST.out.mono ?_
  intro e w2 hq
  obtain ⟨L, ln, lc, h1, hres, b2⟩ := RetPick.res4 hq
  subst h1
  have hlS : S.length = ln := hres.len
  have R2 := Lib.hid hres
  have B2 := Lib.hid (belowT B1.out b2)
  clear hq hres b2 HST
  go_wp2_with fail
  with_reducible refine (memNew_any (OffF []) w2).mono ?_
  rintro e w3 ⟨rfl, t3, b3⟩
  have s3 : w2.heap.size < w3.heap.size := by obtain ⟨_, h, _⟩ := t3; exact h.lt
  have HT3 : Hid (St4 w2 none 0 0 [] .nil w3) := Lib.hid ⟨OwnV.nil _ _ _, Fam.nil _ _, (fun q hq => by cases hq), t3, b3, s3⟩
  clear t3 b3
  go_wp2_with fail
  go_loopw [6, 26] (fun s6 s26 wr => ∃ (k md : Nat) (M : Option Addr) (ps : List VB) (t : Tr), k ≤ ln ∧ s26 = .int .i64 (k : Int) ∧ s6 = .slice M (2 * k) md ∧ St4 w2 M (2 * k) md ps t wr ∧ t.list = S.take k) (fun _ s _ => ln - (intOf s).toNat)
  case atStart => exact ⟨0, 0, none, [], .nil, Nat.zero_le _, rfl, rfl, HT3.out, rfl⟩
  case round =>
    obtain ⟨k, md, M, ps, t, hk, rfl, rfl, hst, htl⟩ := hrel
    have HST := Lib.hid hst
    have HTL := Lib.hid htl
    have HBr := Lib.hid hst.2.2.2.2.1
    have sr := hst.2.2.2.2.2
    clear hst htl
    by_cases hlt : k < ln
    · -- A0
      obtain ⟨b, off, hAb, hbl⟩ : ∃ b off, L = some ⟨b, off, none⟩ ∧ b < w2.heap.size := R2.out.pos (by omega)
      subst hAb
      obtain ⟨x, v0, v1, v2, v3, hx, d0, d1, d2, d3, hev⟩ := R2.out.at_ k hlt
      have hsx := HSM.out x (List.mem_of_getElem? hx)
      have hok := HOK.out x (List.mem_of_getElem? hx)
      have hlo := long_ok hok
      have HXK := Lib.hid hx
      obtain ⟨K, kn, kc, V, vn, vc, rfl, rfl, rfl, rfl, r0, r3, _, _, _, _, hu1, hu2⟩ := hev.parts
      have lkn := r0.len
      have lvn := r3.len
      have R0 := Lib.hid r0
      have R3 := Lib.hid r3
      have c0 := (HBr.out.cell (p := ⟨b, off + k * 4, none⟩) hbl).trans d0
      have c1 := (HBr.out.cell (p := ⟨b, off + k * 4 + 1, none⟩) hbl).trans d1
      have c2 := (HBr.out.cell (p := ⟨b, off + k * 4 + 2, none⟩) hbl).trans d2
      have c3 := (HBr.out.cell (p := ⟨b, off + k * 4 + 3, none⟩) hbl).trans d3
      obtain ⟨W1, hW1⟩ : ∃ W1, W1 = wr.alloc (.cells #[.slice K kn kc, .int .u64 (x.seq : Int), .int .u8 (x.kind : Int), .slice V vn vc] 38) := ⟨_, rfl⟩
      have bW1 : Below wr.heap.size wr W1 := by rw [hW1]; exact (Below.refl _ _).alloc (Nat.le_refl _) _
      have X1 := Lib.hid (show Cl W1 wr.heap.size #[.slice K kn kc, .int .u64 (x.seq : Int), .int .u8 (x.kind : Int), .slice V vn vc] 38 by rw [hW1]; exact Cl.new _ _ _)
      have BW1 := Lib.hid bW1
      have HB1 := Lib.hid (HBr.out.trans (bW1.mono HBr.out.size))
      have sW1 : W1.heap.size = wr.heap.size + 1 := by rw [hW1]; simp
      have HSP1 : Hid (Calls Try.prog 34 #[.slice K kn kc] W1 (RetSp W1 x.key kn)) := Lib.hid (Spare_any K kn kc x.key W1 (r0.below HB1.out) (by omega))
      clear hx hev r0 r3 d0 d1 d2 d3 bW1
      go_upto_region 9 with (fail)
      rw [← hW1]
      clear hW1 c0 c1 c2 c3
      obtain ⟨e0, e1, e2, e3, _⟩ := X1.out.c4
      go_wp2_with fail
      with_reducible refine HSP1.out.mono ?_
      rintro e w9 ⟨gK, rfl, oK, b9⟩
      have X9 := Lib.hid (X1.out.below b9)
      have OK9 := Lib.hid oK
      have BR9 := Lib.hid (belowT BW1.out b9)
      have HB9 := Lib.hid (HB1.out.trans (b9.mono HB1.out.size))
      have s9 := b9.size
      have HSP2 : Hid (Calls Try.prog 34 #[.slice V vn vc] w9 (RetSp w9 x.val vn)) := Lib.hid (Spare_any V vn vc x.val w9 (R3.out.below HB9.out) (by omega))
      clear oK b9 e0 e1 e2 e3 HSP1
      obtain ⟨e0, e1, e2, e3, _⟩ := X9.out.c4
      go_wp2_with fail
      with_reducible refine HSP2.out.mono ?_
      rintro e w10 ⟨gV, rfl, oV, b10⟩
      have X10 := Lib.hid (X9.out.below b10)
      have BR10 := Lib.hid (belowT BR9.out b10)
      have HB10 := Lib.hid (HB9.out.trans (b10.mono HB9.out.size))
      have s10 := b10.size
      obtain ⟨qs, hqs⟩ : ∃ qs : List VB, qs = [(.slice (some ⟨gK, 0, none⟩) (kn + 40) (kn + 40), x.key ++ room kn 40), (.slice (some ⟨gV, 0, none⟩) (vn + 40) (vn + 40), x.val ++ room vn 40)] := ⟨_, rfl⟩
      have fqs : Fam w10 W1.heap.size qs := by rw [hqs]; exact fam_two (OK9.out.below b10) (oV.mono s9) (Dj.old OK9.out oV (Nat.le_refl _))
      obtain ⟨hM, hF, hsm, hT, _, _⟩ := HST.out
      have F10 : Fam w10 w2.heap.size (ps ++ qs) := hF.app fqs BR10.out (by omega) (by omega)
      have T10 : TB pl3 (OffF (ps ++ qs)) w10 w2.heap.size t := (hT.reg (H := OffF (ps ++ qs)) (fun b hb h => h.app (fqs.off_old (by omega)))).below BR10.out
      obtain ⟨U, hU⟩ : ∃ U, U = w10.alloc (.cells #[.slice (some ⟨gK, 0, none⟩) kn (kn + 40), .int .u64 (x.seq : Int), .int .u8 (x.kind : Int), .slice (some ⟨gV, 0, none⟩) vn (vn + 40)] 38) := ⟨_, rfl⟩
      have bU : Below w10.heap.size w10 U := by rw [hU]; exact (Below.refl _ _).alloc (Nat.le_refl _) _
      have FU := Lib.hid (F10.below bU)
      have MU := Lib.hid ((hM.below BR10.out).below bU)
      have TU := Lib.hid (T10.below bU)
      have XU := Lib.hid (X10.out.below bU)
      have HBU := Lib.hid (HB10.out.trans (bU.mono HB10.out.size))
      have sU : U.heap.size = w10.heap.size + 1 := by rw [hU]; simp
      have rK : Rd U (some ⟨gK, 0, none⟩) kn x.key := rdPre2 (base := w2.heap.size) (k := 40) (mem_own2 FU.out (by rw [hqs]; simp)) lkn
      have rV : Rd U (some ⟨gV, 0, none⟩) vn x.val := rdPre2 (base := w2.heap.size) (k := 40) (mem_own2 FU.out (by rw [hqs]; simp)) lvn
      have evU : EV U x (.slice (some ⟨gK, 0, none⟩) kn (kn + 40)) (.int .u64 (x.seq : Int)) (.int .u8 (x.kind : Int)) (.slice (some ⟨gV, 0, none⟩) vn (vn + 40)) := ⟨rfl, rfl, hu1, hu2, ⟨_, kn, kn + 40, rfl, rK, by omega, fun h => by cases h⟩, ⟨_, vn, vn + 40, rfl, rV, by omega, fun h => by cases h⟩⟩
      have hes : REs U (some ⟨w10.heap.size, 0, none⟩) 1 [x] := by
        refine REs.mk (EVs.one evU) ?_ rfl
        rw [hU]
        exact rdv_of_cl (Cl.new w10 _ _)
      have hsk : t.list ++ [x] = S.take (k + 1) := by rw [HTL.out, List.take_add_one, HXK.out]; rfl
      have hso : SortL (t.list ++ [x]) := by rw [hsk]; exact List.Pairwise.sublist (List.take_sublist _ _) HSO.out
      obtain ⟨t', hput, htl'⟩ := putZ_next hso hok
      have htn : t.num ≤ 20 := by rw [num_list, HTL.out, List.length_take]; omega
      have htz : t.sz + szL [x] ≤ 1099511627776 := by
        have h1 := szL_take S (k + 1)
        rw [← hsk, szL_app] at h1
        show szL t.list + _ ≤ _
        omega
      have HPT : Hid (Calls Try.prog 19 #[.pointer (some ⟨w2.heap.size, 0, none⟩), .slice (some ⟨w10.heap.size, 0, none⟩) 1 1] U (RetPt pl3 (OffF (ps ++ qs)) U w2.heap.size (0, t'))) := Lib.hid (by
        rw [← hput]
        exact tabPut_any TU.out hes (by omega) (fun y hy => by simp only [List.mem_singleton] at hy; subst hy; exact hsx) (by omega) htz (fun b hb => FU.out.off_new hb))
      have HTL2 := Lib.hid (htl'.trans hsk)
      have HQS := Lib.hid hqs
      clear oV b10 e0 e1 e2 e3 HSP2 fqs F10 T10 bU rK rV evU hes hsk hso hput htl' hM hF hsm hT hqs
      obtain ⟨e0, e1, e2, e3, _⟩ := X10.out.c4
      go_wp2_with fail
      rw [← hU]
      clear hU
      with_reducible refine HPT.out.mono ?_
      rintro e w12 ⟨rfl, t12, g12⟩
      have T12 := Lib.hid t12
      obtain ⟨A12, hcl, _, _⟩ := TU.out
      have F12 := Lib.hid (FU.out.kept g12 (fun b e => by injection e with e; subst e; exact FU.out.off_cl hcl (by decide)))
      have M12 := Lib.hid (OwnV.kept MU.out g12 (fun b hb e => cl_row hcl MU.out (by decide) (by rw [hb]; exact e.symm)))
      have X12 := Lib.hid (XU.out.grown g12 (fun e => by injection e with e; omega))
      have HB12 := Lib.hid (HBU.out.grown g12 HBU.out.size (fun k hk => by injection hk with hk; omega))
      have s12 := g12.size
      have HK1 : Hid (Calls Try.prog 35 #[.slice (some ⟨gK, 0, none⟩) (kn + 40) (kn + 40), .slice K kn kc] w12 (RetB w12 true)) := Lib.hid (Kept_any _ _ kn (kn + 40) kc x.key w12 (mem_own2 (c := kn + 40) F12.out (by rw [HQS.out]; simp)).rd (R0.out.below HB12.out) (by omega))
      have HK2 : Hid (∀ q, Calls Try.prog 35 #[.slice (some ⟨gV, 0, none⟩) (vn + 40) (vn + 40), .slice V vn vc] (w12.drewN q) (RetB (w12.drewN q) true)) := Lib.hid (fun q => Kept_any _ _ vn (vn + 40) vc x.val (w12.drewN q) ((mem_own2 (c := vn + 40) F12.out (by rw [HQS.out]; simp)).rd.drewN q) ((R3.out.below HB12.out).drewN q) (by omega))
      clear t12 g12 hcl HPT e0 e1 e2 e3
      obtain ⟨e0, e1, e2, e3, _⟩ := X12.out.c4
      go_wp2_with fail
      with_reducible refine HK1.out.mono ?_
      rintro e wx ⟨rfl, q1, rfl⟩
      go_wp2_with fail
      with_reducible refine (HK2.out q1).mono ?_
      rintro e wx ⟨rfl, q2, rfl⟩
      obtain ⟨X, hX⟩ : ∃ X, X = (w12.drewN q1).drewN q2 := ⟨_, rfl⟩
      have bX : Below w12.heap.size w12 X := by rw [hX]; exact below_drewN (below_drewN (Below.refl _ _) _) _
      rw [← hX]
      have TX := Lib.hid (T12.out.below bX)
      have FX := Lib.hid (F12.out.below bX)
      have MX := Lib.hid (OwnV.below M12.out bX)
      have HBX := Lib.hid (HB12.out.trans (bX.mono HB12.out.size))
      have sX := bX.size
      have bY : Below X.heap.size X (X.alloc (.cells #[.slice (some ⟨gK, 0, none⟩) (kn + 40) (kn + 40), .slice (some ⟨gV, 0, none⟩) (vn + 40) (vn + 40)] 35)) := (Below.refl _ _).alloc (Nat.le_refl _) _
      have MY := Lib.hid (OwnV.below MX.out bY)
      have FY := Lib.hid (FX.out.below bY)
      have TY := Lib.hid (TX.out.below bY)
      have HBY := Lib.hid (HBX.out.trans (bY.mono HBX.out.size))
      have sY := bY.size
      have HBOX := Lib.hid (ownV_box2 X 35 X.heap.size [.slice (some ⟨gK, 0, none⟩) (kn + 40) (kn + 40), .slice (some ⟨gV, 0, none⟩) (vn + 40) (vn + 40)] 2 rfl (by omega) (Nat.le_refl _) _ rfl)
      clear hX bX e0 e1 e2 e3 HK1 HK2 bY
      go_wp2_with (at_builtin; refine wpList_appV (X.alloc (.cells #[.slice (some ⟨gK, 0, none⟩) (kn + 40) (kn + 40), .slice (some ⟨gV, 0, none⟩) (vn + 40) (vn + 40)] 35)) rfl _ _ 52 rfl w2.heap.size 35 _ 24 Try.underlying52 info_sl rfl M (2 * k) md (ps.map (·.1)) rfl MY.out (some ⟨X.heap.size, 0, none⟩) 2 2 [.slice (some ⟨gK, 0, none⟩) (kn + 40) (kn + 40), .slice (some ⟨gV, 0, none⟩) (vn + 40) (vn + 40)] rfl (OwnV.rd HBOX.out) (by intro u hu; simp only [List.mem_cons, List.not_mem_nil, or_false] at hu; rcases hu with rfl | rfl <;> rfl) ?_ ?_ ?_ ?_)
      · unfold maxLen; omega
      · omega
      · omega
      intro M' md' w14 hM14 hg14 _
      have HST' : Hid (St4 w2 M' (2 * (k + 1)) md' (ps ++ qs) t' w14) := Lib.hid (by
        refine ⟨?_, FY.out.kept hg14 (fun b e => FY.out.off_row MY.out (by decide) b e), fun q hq => ?_, TY.out.fr okB_tab (FrB.of_row MY.out hg14), HBY.out.grown hg14 HBY.out.size (fun k hk => (OwnV.lt MY.out k hk).1), by have := hg14.size; omega⟩
        · rw [List.map_append, HQS.out]
          exact hM14
        · rcases List.mem_append.1 hq with h | h
          · exact HST.out.2.2.1 q h
          · rw [HQS.out] at h
            simp only [List.mem_cons, List.not_mem_nil, or_false] at h
            rcases h with rfl | rfl
            · simp only [List.length_append, room_len]; omega
            · simp only [List.length_append, room_len]; omega)
      clear hM14 hg14
      go_wp2_with fail
      go_roundw
      case rel => exact ⟨k + 1, md', M', ps ++ qs, t', by omega, by go_num, rfl, HST'.out, HTL2.out⟩
      case measure => simp [intOf]; omega
      -- A1
    · obtain rfl : k = ln := by omega
      have htS : t.list = S := by rw [HTL.out, List.take_of_length_le (by omega)]
      have HTS := Lib.hid htS
      have hts : SortL t.list := by rw [htS]; exact HSO.out
      have HSR := Lib.hid hts
      have HTZ : Hid (∀ x ∈ t.list, SzE x) := Lib.hid (by rw [htS]; exact HSM.out)
      have htn : t.num = S.length := by rw [num_list, htS]
      have hSR : ∀ (G : Nat → Prop) (wx : World), TB pl3 G wx w2.heap.size t → Calls Try.prog 30 #[.pointer (some ⟨w2.heap.size, 0, none⟩), .slice none 0 0, .slice none 0 0] wx (RetBt wx S) := fun G wx h => by
        have := range_any (fc := 0) (tc := 0) h (Rd.nil wx none) (Rd.nil wx none) HTZ.out (by omega)
        rw [betw_all4 HSR.out, HTS.out] at this
        exact this
      have HRG := Lib.hid hSR
      obtain ⟨hM, hF, hsm, hT, _, _⟩ := HST.out
      have M0 := Lib.hid hM
      have F0 := Lib.hid hF
      have SM0 := Lib.hid hsm
      have T0 := Lib.hid hT
      have hpl : ps.length = 2 * k := by have := hM.len; simpa using this
      clear hSR hts htS hM hF hsm hT
      -- the two Ranges
      go_wp2_with fail
      with_reducible refine (HRG.out _ _ T0.out).mono ?_
      intro e wa hq
      obtain ⟨La, ka, da, h1, hrow⟩ := RetBt.out hq
      subst h1
      obtain ⟨va, oa, ea, _, hla, ba, _, fa⟩ := hrow
      obtain rfl : ka = k := by omega
      have OA := Lib.hid oa
      have BA := Lib.hid ba
      have EA := Lib.hid ea
      have FA := Lib.hid fa
      have MA := Lib.hid (OwnV.below M0.out ba)
      have TA := Lib.hid (T0.out.below ba)
      have HBA := Lib.hid (HBr.out.trans (ba.mono HBr.out.size))
      have F1 := Lib.hid (F0.out.app fa ba (Nat.le_refl _) (Nat.le_of_lt sr))
      have sa := ba.size
      clear hq oa ea fa ba
      go_wp2_with fail
      with_reducible refine (HRG.out _ _ TA.out).mono ?_
      intro e wb hq
      obtain ⟨Lb, kb, db, h1, hrow⟩ := RetBt.out hq
      subst h1
      obtain ⟨vb, ob, eb, _, hlb, bb, _, fb⟩ := hrow
      obtain rfl : kb = ka := by omega
      have OB := Lib.hid ob
      have BB := Lib.hid bb
      have EB_ := Lib.hid eb
      have FB := Lib.hid fb
      have MB := Lib.hid (OwnV.below MA.out bb)
      have TB_ := Lib.hid (TA.out.below bb)
      have HBB := Lib.hid (HBA.out.trans (bb.mono HBA.out.size))
      have F2 := Lib.hid (F1.out.app fb bb (Nat.le_refl _) (by omega))
      have OA2 := Lib.hid (OwnE.below OA.out bb)
      have EA2 := Lib.hid (EOs.below bb EA.out)
      have sb := bb.size
      clear hq ob eb fb bb
      -- Get
      have HGT : Hid (Calls Try.prog 25 #[.pointer (some ⟨w2.heap.size, 0, none⟩), .slice B m d, .int .u64 9223372036854775808] wb (RetGt wb (tabGet t ks 9223372036854775808))) := Lib.hid (tabGet_any (at_ := 9223372036854775808) TB_.out HTZ.out (HKS.out.below (B2.out.trans (HBB.out.mono B2.out.size))) hmd HNL.out (by unfold U64; omega))
      go_wp2_with fail
      with_reducible refine HGT.out.mono ?_
      intro e wc hq
      obtain ⟨K, kn, kc, V, vn, vc, sq, kd, bo, xs, ys, h1, fx, bc, hsome, hnone⟩ := RetGt.fam hq
      subst h1
      have hxs : xs.length ≤ 1024 ∧ ys.length ≤ 65536 := by
        cases ho : tabGet t ks 9223372036854775808 with
        | none =>
          obtain ⟨e1, e2⟩ := hnone ho
          rw [e1, e2]; simp
        | some x =>
          obtain ⟨e1, e2⟩ := hsome x ho
          rw [e1, e2]
          rw [tabGet_list HSR.out, HTS.out] at ho
          exact long_ok (HOK.out x (List.mem_of_find?_eq_some ho))
      have FX := Lib.hid fx
      have BC := Lib.hid bc
      have F3 := Lib.hid (F2.out.app fx bc (Nat.le_refl _) (by omega))
      have MC := Lib.hid (OwnV.below MB.out bc)
      have TC := Lib.hid (TB_.out.below bc)
      have HBC := Lib.hid (HBB.out.trans (bc.mono HBB.out.size))
      have OA3 := Lib.hid (OwnE.below OA2.out bc)
      have EA3 := Lib.hid (EOs.below bc EA2.out)
      have OB3 := Lib.hid (OwnE.below OB.out bc)
      have EB3 := Lib.hid (EOs.below bc EB_.out)
      have sc := bc.size
      clear hq fx bc hsome hnone HGT
      obtain ⟨W0, hW0⟩ : ∃ W0, W0 = wc.alloc (.cells #[.slice K kn kc, .int .u64 (sq : Int), .int .u8 (kd : Int), .slice V vn vc] 38) := ⟨_, rfl⟩
      have b0 : Below wc.heap.size wc W0 := by rw [hW0]; exact (Below.refl _ _).alloc (Nat.le_refl _) _
      have XX : Hid (Cl W0 wc.heap.size #[.slice K kn kc, .int .u64 (sq : Int), .int .u8 (kd : Int), .slice V vn vc] 38) := Lib.hid (by rw [hW0]; exact Cl.new _ _ _)
      obtain ⟨P, hP⟩ : ∃ P : List VB, P = ps ++ pairE S va ++ pairE S vb ++ [(.slice K kn kc, xs), (.slice V vn vc, ys)] := ⟨_, rfl⟩
      obtain ⟨I, hI⟩ : ∃ I : List VB, I = inter (pairE S va) (pairE S vb) := ⟨_, rfl⟩
      have HP := Lib.hid hP
      have HI := Lib.hid hI
      have F4 : Hid (Fam W0 w2.heap.size P) := Lib.hid (by rw [hP]; exact F3.out.below b0)
      have T4 : Hid (TB pl3 (OffF P) W0 w2.heap.size t) := Lib.hid (by
        rw [hP]
        have h1 := T0.out.reg (H := OffF (ps ++ pairE S va ++ pairE S vb ++ [(.slice K kn kc, xs), (.slice V vn vc, ys)])) (fun b hb h => ((h.app (FA.out.off_old hb)).app (FB.out.off_old (by omega))).app (FX.out.off_old (by omega)))
        exact ((((h1.below BA.out).below BB.out).below BC.out).below b0))
      have M4 := Lib.hid (OwnV.below MC.out b0)
      have B4 := Lib.hid (HBC.out.trans (b0.mono HBC.out.size))
      have OA4 := Lib.hid (OwnE.below OA3.out b0)
      have OB4 := Lib.hid (OwnE.below OB3.out b0)
      have lva : va.length = S.length * 4 := by have := OA4.out.rd.1; omega
      have lvb : vb.length = S.length * 4 := by have := OB4.out.rd.1; omega
      have s0 := b0.size
      have HSP : Hid (∀ q ∈ P, q.2.length ≤ 1073741824) := Lib.hid (fun q hq => by
        rw [hP] at hq
        simp only [List.mem_append, List.mem_cons, List.not_mem_nil, or_false] at hq
        rcases hq with ((h | h) | h) | h | h
        · exact SM0.out q h
        · obtain ⟨x, hx, hk⟩ := pairE_sz h
          have := long_ok (HOK.out x hx)
          rcases hk with e | e <;> (rw [e]; omega)
        · obtain ⟨x, hx, hk⟩ := pairE_sz h
          have := long_ok (HOK.out x hx)
          rcases hk with e | e <;> (rw [e]; omega)
        · rw [h]; simp only; omega
        · rw [h]; simp only; omega)
      clear hP hI b0
      go_upto_region 17 with (fail)
      rw [← hW0]
      clear hW0
      go_wp2_with fail
      obtain ⟨pA, OA5⟩ : ∃ pA, Hid (OwnE W0 pA La kb da va) := ⟨_, OA4⟩
      obtain ⟨pB, OB5⟩ : ∃ pB, Hid (OwnE W0 pB Lb kb db vb) := ⟨_, OB4⟩
      obtain ⟨g15, hg15⟩ : ∃ g, g = wc.heap.size := ⟨_, rfl⟩
      have H5 : Hid (St5 w2 M (2 * kb + 4 * 0) md (ps.map (·.1) ++ (I.take (4 * 0)).map (·.1)) P t La Lb kb da db pA pB g15 va vb #[.slice K kn kc, .int .u64 (sq : Int), .int .u8 (kd : Int), .slice V vn vc] W0) := Lib.hid ⟨by simpa using M4.out, F4.out, T4.out, B4.out, OA5.out, OB5.out, by rw [hg15]; exact XX.out⟩
      rw [← hg15]
      clear hg15
      go_loopw [6, 85] (fun s6 s85 wx => ∃ (i md' : Nat) (M' : Option Addr), i ≤ kb ∧ s85 = .int .i64 (i : Int) ∧ s6 = .slice M' (2 * kb + 4 * i) md' ∧ St5 w2 M' (2 * kb + 4 * i) md' (ps.map (·.1) ++ (I.take (4 * i)).map (·.1)) P t La Lb kb da db pA pB g15 va vb #[.slice K kn kc, .int .u64 (sq : Int), .int .u8 (kd : Int), .slice V vn vc] wx) (fun _ s _ => kb - (intOf s).toNat)
      case atStart => exact ⟨0, md, M, Nat.zero_le _, rfl, rfl, H5.out⟩
      case round =>
        obtain ⟨i, md', M', hi, rfl, rfl, h5⟩ := hrel
        have H5x := Lib.hid h5
        clear h5
        by_cases hlt : i < kb
        · -- A0
          obtain ⟨ga, ofa, hLa, hgl⟩ : ∃ b off, La = some ⟨b, off, none⟩ ∧ b < wr.heap.size := H5x.out.2.2.2.2.1.rd.pos (by omega)
          obtain ⟨gb, ofb, hLb, hgb⟩ : ∃ b off, Lb = some ⟨b, off, none⟩ ∧ b < wr.heap.size := H5x.out.2.2.2.2.2.1.rd.pos (by omega)
          subst hLa hLb
          obtain ⟨x, hx⟩ : ∃ x, S[i]? = some x := ⟨_, List.getElem?_eq_getElem (by omega)⟩
          obtain ⟨v0, v1, v2, v3, e0, e1, e2, e3, hev⟩ := EVs.at_ i EA3.out.evs hx
          obtain ⟨u0, u1, u2, u3, f0, f1, f2, f3, hew⟩ := EVs.at_ i EB3.out.evs hx
          obtain ⟨Ka, na, ca, Va, ma, oa, rfl, rfl, rfl, rfl, _⟩ := hev.parts
          obtain ⟨Kb, nb, cb, Vb, mb, ob, rfl, rfl, rfl, rfl, _⟩ := hew.parts
          have rda := H5x.out.2.2.2.2.1.rd
          have rdb := H5x.out.2.2.2.2.2.1.rd
          obtain ⟨ga', ofa', hq1, _, hca⟩ := rda.2 (by omega)
          injection hq1 with hq1
          injection hq1 with hq1 hq2
          subst hq1 hq2
          obtain ⟨gb', ofb', hq1, _, hcb⟩ := rdb.2 (by omega)
          injection hq1 with hq1
          injection hq1 with hq1 hq2
          subst hq1 hq2
          have c0 := hca _ _ e0
          have c3 := hca _ _ e3
          have d0 := hcb _ _ f0
          have d3 := hcb _ _ f3
          rw [← Nat.add_assoc] at c3 d3
          have HIT : Hid ((I.take (4 * (i + 1))).map (·.1) = (I.take (4 * i)).map (·.1) ++ [.slice Ka na ca, .slice Va ma oa, .slice Kb nb cb, .slice Vb mb ob]) := Lib.hid (by
            rw [HI.out]
            exact inter_take S i lva lvb e0 e3 f0 f3 (by omega))
          have bY : Below wr.heap.size wr (wr.drew.alloc (.cells #[.slice Ka na ca, .slice Va ma oa, .slice Kb nb cb, .slice Vb mb ob] 35)) := (Below.refl _ _).drew.alloc (Nat.le_refl _) _
          have H5Y := Lib.hid (H5x.out.below bY)
          have HBOX : Hid (RdV (wr.drew.alloc (.cells #[.slice Ka na ca, .slice Va ma oa, .slice Kb nb cb, .slice Vb mb ob] 35)) (some ⟨wr.heap.size, 0, none⟩) 4 [.slice Ka na ca, .slice Va ma oa, .slice Kb nb cb, .slice Vb mb ob]) := Lib.hid ((ownV_box2 wr.drew 35 wr.heap.size [.slice Ka na ca, .slice Va ma oa, .slice Kb nb cb, .slice Vb mb ob] 4 rfl (by omega) (Nat.le_refl _) _ rfl).rd)
          have hsY := H5Y.out.2.2.2.1.size
          clear hx e0 e1 e2 e3 hev f0 f1 f2 f3 hew rda rdb hca hcb bY
          go_upto_block 3 with fail
          go_cut [6, 17] from 87 to 111 (fun s6 s17 wx => ∃ (M2 : Option Addr) (md2 : Nat), s6 = .slice M2 (2 * kb + 4 * (i + 1)) md2 ∧ St5 w2 M2 (2 * kb + 4 * (i + 1)) md2 (ps.map (·.1) ++ (I.take (4 * (i + 1))).map (·.1)) P t (some ⟨ga, ofa, none⟩) (some ⟨gb, ofb, none⟩) kb da db pA pB g15 va vb #[.slice K kn kc, .int .u64 (sq : Int), .int .u8 (kd : Int), .slice V vn vc] wx)
          case first =>
            go_upto_region 20 with (fail)
            go_region_law (first | (refine step_appV _ rfl _ _ 52 rfl w2.heap.size 35 _ 24 Try.underlying52 info_sl rfl M' (2 * kb + 4 * i) md' _ (by simp [Act.eval]) H5Y.out.1 ⟨wr.heap.size, 0, none⟩ 4 4 [.slice Ka na ca, .slice Va ma oa, .slice Kb nb cb, .slice Vb mb ob] (by simp [Act.eval]) HBOX.out (by omega) (by intro u hu; simp only [List.mem_cons, List.not_mem_nil, or_false] at hu; rcases hu with rfl | rfl | rfl | rfl <;> rfl) (by unfold maxLen; omega) (by omega) hsY ?_; intro M2 md2 wz hMz hgz))
            all_goals
              have H5Z : Hid (St5 w2 M2 (2 * kb + 4 * (i + 1)) md2 (ps.map (·.1) ++ (I.take (4 * (i + 1))).map (·.1)) P t (some ⟨ga, ofa, none⟩) (some ⟨gb, ofb, none⟩) kb da db pA pB g15 va vb #[.slice K kn kc, .int .u64 (sq : Int), .int .u8 (kd : Int), .slice V vn vc] wz) := Lib.hid (by
                rw [HIT.out, ← List.append_assoc]
                exact H5Y.out.grown hMz hgz)
              clear hMz hgz c0 c3 d0 d3
              go_wp2_with fail
              go_meet
              exact ⟨M2, md2, rfl, H5Z.out⟩
          case rest =>
            obtain ⟨M2, md2, rfl, h5z⟩ := hcut
            have H5Z := Lib.hid h5z
            clear h5z c0 c3 d0 d3
            go_wp2_with fail
            go_roundw
            case rel => exact ⟨i + 1, md2, M2, by omega, by go_num, rfl, H5Z.out⟩
            case measure => simp [intOf]; omega
          -- A1
        · obtain rfl : i = kb := by omega
          have hIT : I.take (4 * i) = I := by
            rw [HI.out, ← hla]
            exact inter_all S lva lvb
          rw [hIT] at H5x
          have HSL : Hid (∀ wx, Below w2.heap.size w2 wx → ∀ L' n' c', REs wx L' n' S → Calls Try.prog 29 #[.slice L' n' c', .slice L i lc] wx (RetT wx true)) := Lib.hid (fun wx hb L' n' c' hr => by
            obtain rfl : n' = i := by have := hr.len; omega
            exact SameList_any hr (R2.out.below hb) (by omega) HSM.out)
          obtain ⟨hM, hF, hT, hB, hOA, hOB, hX⟩ := H5x.out
          have hra : REs wr La i S := REs.mk (EOs.evs (eos_of_fam (base := w2.heap.size) EA3.out (fun q hq => hF.1 q (by rw [HP.out]; simp [hq])))) hOA.rd (by omega)
          have HRA := Lib.hid hra
          have HX5 := Lib.hid hX
          have HB5 := Lib.hid hB
          have F5 : Hid (Fam wr w2.heap.size (ps ++ I ++ [(.slice K kn kc, xs), (.slice V vn vc, ys)])) := Lib.hid (hF.perm (by
            rw [HP.out, HI.out, List.append_assoc ps]
            exact ((inter_perm S lva lvb).append_left ps).append_right _))
          have SM5 : Hid (∀ q ∈ ps ++ I ++ [(.slice K kn kc, xs), (.slice V vn vc, ys)], q.2.length ≤ 1073741824) := Lib.hid (fun q hq => HSP.out q (by
            rw [HP.out]
            rw [HI.out] at hq
            simp only [List.mem_append] at hq ⊢
            rcases hq with (h | h) | h
            · exact .inl (.inl (.inl h))
            · rcases List.mem_append.1 ((inter_perm S lva lvb).mem_iff.2 h) with h | h
              · exact .inl (.inl (.inr h))
              · exact .inl (.inr h)
            · exact .inr h))
          have M5 := Lib.hid hM
          have T5 := Lib.hid hT
          have hlI : (ps.map (·.1) ++ I.map (·.1)).length = 2 * i + 4 * i := hM.len
          clear hM hF hT hB hOA hOB hX hra
          go_wp2_with fail
          with_reducible refine (HSL.out _ HB5.out _ _ _ HRA.out).mono ?_
          intro e w6 hq
          obtain ⟨h1, b6⟩ := RetT.outD hq
          subst h1
          have X6 := Lib.hid (HX5.out.below b6)
          have F6 := Lib.hid (F5.out.below b6)
          have T6 := Lib.hid (T5.out.below b6)
          have M6 := Lib.hid (OwnV.below M5.out b6)
          have B6 := Lib.hid b6
          have HB6 := Lib.hid (HB5.out.trans (b6.mono HB5.out.size))
          have hs6 := HB6.out.size
          obtain ⟨Z, hZ⟩ : ∃ Z, Z = w6.alloc (.cells #[.slice K kn kc, .slice V vn vc] 35) := ⟨_, rfl⟩
          have bZ : Below w6.heap.size w6 Z := by rw [hZ]; exact (Below.refl _ _).alloc (Nat.le_refl _) _
          have HBOX : Hid (RdV Z (some ⟨w6.heap.size, 0, none⟩) 2 [.slice K kn kc, .slice V vn vc]) := Lib.hid (by rw [hZ]; exact (ownV_box2 w6 35 w6.heap.size [.slice K kn kc, .slice V vn vc] 2 rfl (by omega) (Nat.le_refl _) _ rfl).rd)
          have FZ := Lib.hid (F6.out.below bZ)
          have TZ := Lib.hid (T6.out.below bZ)
          have MZ := Lib.hid (OwnV.below M6.out bZ)
          have HBZ := Lib.hid (HB6.out.trans (bZ.mono HB6.out.size))
          have BZ := Lib.hid (belowT B6.out bZ)
          have hsZ := HBZ.out.size
          have sZ : Z.heap.size = w6.heap.size + 1 := by rw [hZ]; simp
          obtain ⟨e0, e1, e2, e3, _⟩ := X6.out.c4
          clear hq b6 bZ
          go_wp2_with (at_builtin; rw [← hZ]; refine wpList_appG Z (by rfl) _ _ 52 rfl w2.heap.size 35 _ 24 Try.underlying52 info_sl rfl M' (2 * i + 4 * i) md' _ rfl MZ.out ⟨w6.heap.size, 0, none⟩ 2 2 [.slice K kn kc, .slice V vn vc] rfl HBOX.out (by intro u hu; simp only [List.mem_cons, List.not_mem_nil, or_false] at hu; rcases hu with rfl | rfl <;> rfl) ?_ ?_ ?_ ?_)
          · unfold maxLen; omega
          · omega
          · omega
          intro M2 md2 w7 hM7 hg7 _
          have hmap : ps.map (·.1) ++ (I.map (·.1) ++ [.slice K kn kc, .slice V vn vc]) = (ps ++ I ++ ([(.slice K kn kc, xs), (.slice V vn vc, ys)] : List VB)).map (·.1) := by simp
          rw [hmap] at hM7
          rw [← hZ] at hg7
          obtain ⟨P', hP'⟩ : ∃ P' : List VB, P' = ps ++ I ++ [(.slice K kn kc, xs), (.slice V vn vc, ys)] := ⟨_, rfl⟩
          rw [← hP'] at hM7
          have hFZ : Fam Z w2.heap.size P' := by rw [hP']; exact FZ.out
          have F7 : Fam w7 w2.heap.size P' := hFZ.kept hg7 (fun b e => hFZ.off_row MZ.out (by decide) b e)
          have hSM : ∀ q ∈ P', q.2.length ≤ 1073741824 := by rw [hP']; exact SM5.out
          have T7 : TB pl3 (OffF P') w7 w2.heap.size t := (TZ.out.fr okB_tab (FrB.of_row MZ.out hg7)).reg (fun b _ h q hq => h q (by
            rw [HP.out]
            rw [hP', HI.out] at hq
            simp only [List.mem_append] at hq ⊢
            rcases hq with (h | h) | h
            · exact .inl (.inl (.inl h))
            · rcases List.mem_append.1 ((inter_perm S lva lvb).mem_iff.2 h) with h | h
              · exact .inl (.inl (.inr h))
              · exact .inl (.inr h)
            · exact .inr h))
          have HB7 := HBZ.out.grown hg7 HBZ.out.size (fun k hk => (OwnV.lt MZ.out k hk).1)
          obtain ⟨Kl, hKl⟩ : ∃ Kl : List Nat, ∀ b, b ∈ Kl ↔ b < w7.heap.size ∧ OffF P' b := by
            classical
            exact ⟨(List.range w7.heap.size).filter (fun b => decide (OffF P' b)), fun b => by simp⟩
          have HKL := Lib.hid hKl
          have HAP : Hid (Calls Try.prog 36 #[.slice M2 (2 * i + 4 * i + 2) md2] w7 fun e w' => e = .returned (.bool true) ∧ Below w2.heap.size w7 w' ∧ Sm Kl w7 w') := Lib.hid (ApartF_any Kl M2 (2 * i + 4 * i + 2) md2 w2.heap.size (P'.map (·.1)) w7 hM7.rd (by omega) F7.pre (F7.small hSM) F7.dis (fun b hb i v hv => (F7.off_row hM7 (by decide) b hb).map i v hv) HB7.size (fun b hb => ((hKl b).1 hb).1) (fun b hb i v hv => ((hKl b).1 hb).2.map i v hv))
          have HF7 := Lib.hid F7
          have HT7 := Lib.hid T7
          have HBB7 := Lib.hid HB7
          clear hM7 hg7 hmap hP' hFZ F7 hSM T7 HB7 hKl
          go_wp2_with fail
          with_reducible refine HAP.out.mono ?_
          rintro e w8 ⟨rfl, b8, hsm⟩
          have T8 := Lib.hid (HT7.out.fr okB_tab (FrB.of_off HF7.out (fun b hb ho => (hsm b ((HKL.out b).2 ⟨hb, ho⟩)).2)))
          have HB8 := Lib.hid (HBB7.out.trans b8)
          clear b8 hsm HAP
          go_wp2_with fail
          with_reducible refine (HRG.out _ _ T8.out).mono ?_
          intro e w9 hq
          obtain ⟨Lz, kz, dz, h1, hrow⟩ := RetBt.out hq
          subst h1
          have hrz := Lib.hid hrow.rd
          have HB9 := Lib.hid (HB8.out.trans (hrow.bel.mono HB8.out.size))
          clear hq hrow
          go_wp2_with fail
          with_reducible refine (HSL.out _ HB9.out _ _ _ hrz.out).mono ?_
          intro e w10 hq
          obtain ⟨h1, b10⟩ := RetT.outD hq
          subst h1
          have HBF := Lib.hid (B2.out.trans ((HB9.out.trans (b10.mono HB9.out.size)).mono B2.out.size))
          clear hq b10
          go_wp2
          go_ret
          exact ⟨rfl, HBF.out⟩
end Go.Proofs.Ytheefpgokdejcaa
namespace Go.Proofs.Ytheefpgokdejcaa.memKeepsUptoRow
open Go Go.ChangeShapes Go.WideShapes Go.ChangeAt Go.RowKit Go.Deep
open Go.ChangeMaps (open_string shut_string)
set_option linter.unusedVariables false

theorem own : ownKnob Try.prog.godebug = none := by kernel_rfl
theorem laidOut : laidOutB Try.prog = true := by kernel_rfl

set_option maxRecDepth 100000 in
theorem contract (H : Type) (enc : TypeId × Value → H) (W : World) (base : Nat) (args : Array Value) (ds gs : List (DataW H)) (before : List MemPlace)
    (hval0 : ∀ (j : Nat) t v, Try.f5.params[j]? = some t → args[j]? = some v → Value.okWide Try.prog W .any base t v)
    (hW : DataW.Whole enc Try.prog Try.f5.params.toList Rows.memKeepsSpec.vars false W args.toList ds gs before)
    (hk : Rows.uptoSmall H (ds ++ gs) = true) :
    Calls Try.prog 5 args W fun e W' => ∃ v, e = .returned v ∧ Rows.memKeepsSpec.post enc Try.prog Try.f5 false true false false W args v W' := by
  have hval : ∀ (j : Nat) t v, Try.f5.params[j]? = some t → args[j]? = some v → Value.okWide Try.prog W .any base t v := hval0
  have hW' := hW
  obtain ⟨p, q, hA0, hV, rfl, hfz, hnd⟩ := hW
  have hA : DataW.TrodAll enc Try.prog W 0 (fun _ => true) true Try.f5.params.toList args.toList ds p := hA0
  rw [Try.params5] at hA hval
  obtain ⟨v0, vs0, d0, ds0, p0, q0, hargs, rfl, rfl, h0, r0⟩ := trodAll_cons hA
  obtain ⟨v1, vs1, d1, ds1, p1, q1, rfl, rfl, rfl, h1, r1⟩ := trodAll_cons r0
  obtain ⟨rfl, rfl, rfl⟩ := trodAll_nil r1
  obtain rfl : args = #[v0, v1] := by cases args; simp_all
  obtain ⟨rfl, rfl⟩ := trodVars_none hV
  have hb := bulkOf hk
  have sz0 : Rows.uptoBulk d0 ≤ 1048576 := Nat.le_trans (part_bulk (d := d0) (l := [d0, d1] ++ []) (by simp)) hb
  have sz1 : ∀ el sp, d1 = .slice el sp → Rows.uptoBulkAll el + Rows.uptoBulkAll sp + 1 ≤ 1048576 := fun el sp e => by
    have h1 := Nat.le_trans (part_bulk (d := d1) (l := [d0, d1] ++ []) (by simp)) hb
    rw [e] at h1
    simp only [Rows.uptoBulk] at h1
    omega
  obtain ⟨A0, len0, cap0, rfl⟩ := okWide_slice Try.underlying27 (hval 0 27 v0 rfl rfl)
  have k0 := h0
  have lt0 : ∀ x ∈ p0, x.block < W.heap.size := by obtain ⟨m, hm⟩ := k0; exact DataW.trod_lt m _ _ _ hm
  obtain ⟨al0, rd0, lc0, ta0⟩ : ∃ al0, REs W A0 len0 al0 ∧ len0 ≤ cap0 ∧ totE al0 ≤ 1048576 := by
    obtain ⟨fuel, hf⟩ := h0
    obtain ⟨al, h1, h2, h3⟩ := ents_of (len := len0) (cap := cap0) (A := A0) hf
    exact ⟨al, h1, h2, Nat.le_trans h3 sz0⟩
  obtain ⟨A1, len1, cap1, rfl⟩ := okWide_slice Try.underlying35 (hval 1 35 v1 rfl rfl)
  have k1 := h1
  have lt1 : ∀ x ∈ p1, x.block < W.heap.size := by obtain ⟨m, hm⟩ := k1; exact DataW.trod_lt m _ _ _ hm
  obtain ⟨xs1, rd1, lc1, cm1, nl1⟩ : ∃ xs, Rd W A1 len1 xs ∧ len1 ≤ cap1 ∧ cap1 ≤ 1048576 ∧ (A1 = none → cap1 = 0) := by
    obtain ⟨fuel, hf⟩ := h1
    rcases open_ints Try.underlying35 Try.underlying5 (by kernel_rfl) hf with ⟨hcs, _⟩ | ⟨x, l, c, zs, hcs, _, hl, hm, hz, hx, hcell, hwz⟩
    · simp [Value.cells] at hcs
      obtain ⟨rfl, rfl, rfl⟩ := hcs
      exact ⟨[], Rd.nil _ _, Nat.le_refl _, by omega, fun _ => rfl⟩
    · simp [Value.cells] at hcs
      obtain ⟨rfl, rfl, rfl⟩ := hcs
      simp only [Prod.mk.injEq] at hx
      have hz' : zs.length = cap1 := by simpa using hz
      have h2 := sz1 _ _ hx.1
      have h3 := length_le (lits (H := H) .u8 (zs.take len1))
      have h4 := length_le (lits (H := H) .u8 (zs.drop len1))
      simp only [lits, List.length_map, List.length_take, List.length_drop, hz'] at h2 h3 h4
      exact ⟨_, Rd.of_ints hl hz' hcell hwz, hl, by omega, fun h => by cases h⟩
  clear hA0 hval0
  refine (memKeeps_row A0 len0 cap0 al0 A1 len1 cap1 xs1 W rd0 lc0 ta0 rd1 lc1 cm1 nl1).mono fun e W' ⟨he, bel⟩ => ?_
  subst he
  exact ⟨_, rfl, _, _, _, [], _, [], hW', trodAll_mk1 (shut_bool Try.underlying4 _), (trodAll_cons_mk (Below.trod laidOut (by kernel_rfl) (of_decide_eq_true (by kernel_rfl)) k0 bel lt0) (trodAll_cons_mk (Below.trod laidOut (by kernel_rfl) (of_decide_eq_true (by kernel_rfl)) k1 bel lt1) trodAll_mk0)), rfl, bel.frame _, fun h => by cases h⟩

set_option maxRecDepth 100000 in
theorem lifted (os : Os) (started : os.Started) (H : Type) (enc : TypeId × Value → H) (F : Stop.Interp) :
    ReturnsInHanded {} Try.checked os 5 .any ((Rows.OpenSpec.upto Rows.memKeepsSpec).pre6 enc Try.prog Try.f5 Rows.memKeepsUptoRow.domain false) (((Rows.OpenSpec.upto Rows.memKeepsSpec).at F).post enc Try.prog Try.f5 false true false false) := by
  refine returnsInHanded_of_cond (C := Try.checked) (s := Rows.OpenSpec.upto Rows.memKeepsSpec) (k := Rows.uptoSmall) rfl own started (by kernel_rfl) Try.func5
    (OpenSpec.witness (enc := enc) (C := Try.checked) (s := Rows.OpenSpec.upto Rows.memKeepsSpec) (k := Rows.uptoSmall) rfl false ⟨#[], #[.slice none 0 0, .slice none 0 0], []⟩ 8 (by kernel_rfl) (by kernel_rfl) (by kernel_rfl)
      (x := ([.nil, .nil], [], [])) (by kernel_rfl) rfl (by kernel_rfl)) ?_
  intro W base args ds gs before hval hW _ hk _
  exact contract H enc W base args ds gs before hval hW hk

theorem over : Rows.memKeepsUptoRow.holds Try.pinned (Rows.OpenSpec.upto Rows.memKeepsSpec) :=
  OpenClaim.holds_of_cond 5 Try.f5 rfl rfl rfl rfl rfl rfl rfl ⟨rfl, rfl, rfl, rfl, rfl⟩ rfl rfl rfl rfl rfl (by kernel_rfl) Try.func5 (by kernel_rfl)
    (of_decide_eq_true (by kernel_rfl)) (by unfold Func.isWrapper; first | (rw [if_pos (by decide +kernel)]; kernel_rfl) | (rw [if_neg (by decide +kernel)]; exact ⟨rfl, rfl⟩))
    (fun os started H enc _ F => lifted os started H enc F)

/-- THE STATEMENT -/
theorem proved : Rows.MemKeepsUptoSaid := over
#print axioms proved
end Go.Proofs.Ytheefpgokdejcaa.memKeepsUptoRow
