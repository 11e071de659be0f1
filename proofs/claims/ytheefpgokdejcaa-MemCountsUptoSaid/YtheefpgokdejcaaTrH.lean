/- The tree: between. No condition but sizes. -/
import Derived.Test.YtheefpgokdejcaaTrG
namespace Go.Proofs.Ytheefpgokdejcaa
open Go Go.RowKit

/-- The entries of a tree with keys from xs on and below ys. -/
def betw (xs ys : List UInt8) : Tr → List En
  | .nil => []
  | .node l e r => (if 0 ≤ cmpB e.key xs then betw xs ys l else []) ++ (if 0 ≤ cmpB e.key xs ∧ (ys.length = 0 ∨ cmpB e.key ys < 0) then [e] else []) ++ (if ys.length = 0 ∨ cmpB e.key ys < 0 then betw xs ys r else [])
theorem betw_num (xs ys : List UInt8) : ∀ t : Tr, (betw xs ys t).length ≤ t.num
  | .nil => Nat.le_refl _
  | .node l e r => by
    have h1 := betw_num xs ys l
    have h2 := betw_num xs ys r
    simp only [betw, Tr.num, List.length_append]
    split <;> split <;> split <;> simp <;> omega
def RetBt (W : World) (es : List En) (e : Ending) (w' : World) : Prop := ∃ L k d, e = .returned (.slice L k d) ∧ RowE W W.heap.size L k d es w'
theorem RetBt.out {W : World} {es : List En} {e : Ending} {w' : World} (h : RetBt W es e w') : ∃ L k d, e = .returned (.slice L k d) ∧ RowE W W.heap.size L k d es w' := h
set_option maxRecDepth 100000 in
set_option maxHeartbeats 8000000 in
theorem between_any {G : Nat → Prop} {W : World} {F T : Option Addr} {fn fc tn tc : Nat} {xs ys : List UInt8} (hf : Rd W F fn xs) (ht : Rd W T tn ys) : ∀ (t : Tr) (A : Option Addr), TrAt G W t A → (∀ e ∈ t.list, SzE e) → ∀ (es : List En) (L : Option Addr) (k d : Nat) (wr : World), RowE W W.heap.size L k d es wr → k + t.num ≤ 1099511627776 →
    Calls Try.prog 64 #[.pointer A, .slice L k d, .slice F fn fc, .slice T tn tc] wr (RetBt W (es ++ betw xs ys t)) := by
  intro t
  induction t with
  | nil =>
    intro A hA _ es L k d wr hrow hnum
    have hA' : A = none := hA
    subst hA'
    have HR := Lib.hid hrow
    clear hrow hA
    go_enter Try.func64, Try.ntmps64
    go_wp2
    go_ret
    exact ⟨L, k, d, rfl, by rw [betw, List.append_nil]; exact HR.out⟩
  | node l e r ihl ihr =>
    intro A hA hs es L k d wr hrow hnum
    obtain ⟨b, rfl⟩ := hA.ptr
    obtain ⟨pe, pl, pr, n0, n1, n2, nlt, he, hl, hr⟩ := hA.cells
    obtain ⟨z0, z1, z2, z3, cz, ez⟩ := he
    obtain ⟨K, kn, kc, V, vn, vc, rfl, rfl, rfl, rfl, r0, r3, _⟩ := ez.1.ev.parts
    have hsz : SzE e := hs e (by simp [Tr.list])
    have hnm : l.num + 1 + r.num = (Tr.node l e r).num := rfl
    have HIL := Lib.hid (ihl pl hl (fun x hx => hs x (by simp [Tr.list, hx])))
    have HIR := Lib.hid (ihr pr hr (fun x hx => hs x (by simp [Tr.list, hx])))
    have HR := Lib.hid hrow
    have HSX : Hid (∀ wx, Below W.heap.size W wx → wx.cell? ⟨b, 0, none⟩ = some (.pointer (some ⟨pe, 0, none⟩)) ∧ wx.cell? ⟨b, 1, none⟩ = some (.pointer pl) ∧ wx.cell? ⟨b, 2, none⟩ = some (.pointer pr) ∧ wx.cell? ⟨pe, 0, none⟩ = some (.slice K kn kc) ∧ wx.cell? ⟨pe, 1, none⟩ = some (.int .u64 (e.seq : Int)) ∧ wx.cell? ⟨pe, 2, none⟩ = some (.int .u8 (e.kind : Int)) ∧ wx.cell? ⟨pe, 3, none⟩ = some (.slice V vn vc)) := Lib.hid (fun wx h => by
      obtain ⟨d0, d1, d2, d3, _⟩ := (cz.below h).c4
      exact ⟨(h.cell (p := ⟨b, 0, none⟩) nlt).trans n0, (h.cell (p := ⟨b, 1, none⟩) nlt).trans n1, (h.cell (p := ⟨b, 2, none⟩) nlt).trans n2, d0, d1, d2, d3⟩)
    obtain ⟨y1, hy1⟩ : ∃ y, cmpB e.key xs = y := ⟨_, rfl⟩
    obtain ⟨y2, hy2⟩ : ∃ y, cmpB e.key ys = y := ⟨_, rfl⟩
    have HC1 : Hid (∀ wx, Below W.heap.size W wx → Calls Try.prog 63 #[.slice K kn kc, .slice F fn fc] wx fun e' w' => e' = .returned (.int .i64 y1) ∧ wx = w') := Lib.hid (fun wx h => Cmp_is K F kn fn kc fc e.key xs y1 hy1 wx (r0.below h) (hf.below h))
    have HC2 : Hid (∀ wx, Below W.heap.size W wx → Calls Try.prog 63 #[.slice K kn kc, .slice T tn tc] wx fun e' w' => e' = .returned (.int .i64 y2) ∧ wx = w') := Lib.hid (fun wx h => Cmp_is K T kn tn kc tc e.key ys y2 hy2 wx (r0.below h) (ht.below h))
    have HOW : Hid (∀ wx, Below W.heap.size W wx → Calls Try.prog 57 #[.agg #[.slice K kn kc, .int .u64 (e.seq : Int), .int .u8 (e.kind : Int), .slice V vn vc]] wx (RetEn wx e)) := Lib.hid (fun wx h => own_any (ez.1.ev.below h) hsz)
    have hBT : betw xs ys (.node l e r) = (if 0 ≤ y1 then betw xs ys l else []) ++ (if 0 ≤ y1 ∧ (tn = 0 ∨ y2 < 0) then [e] else []) ++ (if tn = 0 ∨ y2 < 0 then betw xs ys r else []) := by rw [betw, hy1, hy2, ht.len]
    have HBT := Lib.hid hBT
    have HWF : Hid (U64 e.seq ∧ e.kind < 256) := Lib.hid ⟨ez.1.ev.2.2.1, ez.1.ev.2.2.2.1⟩
    have HBL := Lib.hid (betw_num xs ys l)
    have BW := Lib.hid (RowE.bel hrow)
    obtain ⟨e0, e1, e2, e3, e4, e5, e6⟩ := HSX.out wr BW.out
    have C1 := Lib.hid (HC1.out wr BW.out)
    have C2 := Lib.hid (HC2.out wr BW.out)
    clear ihl ihr hA n0 n1 n2 cz ez r0 r3 hl hr hy1 hy2 hBT hrow hs HC1 HC2
    go_enter Try.func64, Try.ntmps64
    by_cases hb : 0 ≤ y1
    · have tb : decide (0 ≤ y1) = true := by simpa using hb
      by_cases h0 : tn = 0
      · subst h0
        have HA : Hid ((0 : Nat) = 0 ∨ y2 < 0) := Lib.hid (.inl rfl)
        go_wp2_with fail
        with_reducible refine C1.out.mono ?_
        rintro e' w1 ⟨rfl, rfl⟩
        go_wp2_with fail
        with_reducible refine (HIL.out es L k d wr HR.out (by omega)).mono ?_
        intro e' w2 hq
        obtain ⟨L2, k2, d2, h1, hrow2⟩ := RetBt.out hq
        subst h1
        have HR2 := Lib.hid hrow2
        have hk2 : k2 ≤ k + l.num := by have q1 := RowE.len hrow2; have q2 := RowE.len HR.out; have q3 := HBL.out; rw [List.length_append] at q1; omega
        have BW2 := Lib.hid (RowE.bel hrow2)
        clear e0 e1 e2 e3 e4 e5 e6 hq hrow2
        obtain ⟨e0, e1, e2, e3, e4, e5, e6⟩ := HSX.out w2 BW2.out
        go_wp2_with fail
        with_reducible refine (HOW.out w2 BW2.out).mono ?_
        intro e' w3 hq
        obtain ⟨K3, kn3, kc3, V3, vn3, vc3, h1, o1, o2, b3⟩ := hq
        subst h1
        obtain ⟨vs, q1, q2, q3, q4, q5, q6⟩ := HR2.out
        have s3 := b3.size
        have HEO : Hid (EO W.heap.size w3 e (.slice K3 kn3 kc3) (.int .u64 (e.seq : Int)) (.int .u8 (e.kind : Int)) (.slice V3 vn3 vc3)) := Lib.hid ⟨K3, kn3, kc3, V3, vn3, vc3, rfl, rfl, rfl, rfl, o1.mono q6, o2.mono q6, HWF.out⟩
        have HOF : Hid (OffW [.slice K3 kn3 kc3, .int .u64 (e.seq : Int), .int .u8 (e.kind : Int), .slice V3 vn3 vc3] (blk L2)) := Lib.hid (EO.off (base := w2.heap.size) (w := w3) (e := e) ⟨K3, kn3, kc3, V3, vn3, vc3, rfl, rfl, rfl, rfl, o1, o2, HWF.out⟩ (fun g hg => .inl (q1.lt g hg).2))
        have HB3 := Lib.hid b3
        have Q1 := Lib.hid q1
        have Q2 := Lib.hid q2
        have Q3 := Lib.hid q3
        have Q4 := Lib.hid q4
        have Q5 := Lib.hid q5
        have hcell : ∀ u ∈ [Value.slice K3 kn3 kc3, .int .u64 (e.seq : Int), .int .u8 (e.kind : Int), .slice V3 vn3 vc3], u.oneCell' = true := HEO.out.ev.cells
        have HCL := Lib.hid hcell
        clear o1 o2 b3 q1 q2 q3 q4 q5 hcell e0 e1 e2 e3 e4 e5 e6
        go_wp2_with (at_builtin; refine wpList_app4t w3 rfl _ _ 27 rfl W.heap.size _ 64 Try.underlying27 info_ent rfl L2 k2 d2 vs rfl (Q1.out.below HB3.out) _ _ _ _ HCL.out w3.heap.size rfl rfl ?_ ?_ ?_ ?_)
        · omega
        · omega
        · omega
        intro L4 d4 w4 hG4 hg4 hb4
        have HR4 : Hid (RowE W W.heap.size L4 (k2 + 1) d4 (es ++ betw xs ys l ++ [e]) w4) := Lib.hid (rowE_snoc Q1.out Q2.out Q3.out Q4.out Q5.out q6 HB3.out HEO.out HOF.out hG4 hg4 hb4)
        have BW4 := Lib.hid (RowE.bel HR4.out)
        clear hG4 hg4 hb4
        obtain ⟨e0, e1, e2, e3, e4, e5, e6⟩ := HSX.out w4 BW4.out
        go_wp2_with fail
        with_reducible refine (HIR.out (es ++ betw xs ys l ++ [e]) L4 (k2 + 1) d4 w4 HR4.out (by omega)).mono ?_
        intro e' w5 hq
        obtain ⟨L5, k5, d5, h1, hrow5⟩ := RetBt.out hq
        subst h1
        have HR5 := Lib.hid hrow5
        clear e0 e1 e2 e3 e4 e5 e6 hq hrow5
        go_wp2
        go_ret
        exact ⟨L5, k5, d5, rfl, by rw [HBT.out, if_pos hb, if_pos ⟨hb, HA.out⟩, if_pos HA.out]; simpa using HR5.out⟩
      · have t0 : ((tn : Int) == 0) = false := by simp; omega
        by_cases h2 : y2 < 0
        · have HA : Hid (tn = 0 ∨ y2 < 0) := Lib.hid (.inr h2)
          have t2 : decide (y2 < 0) = true := by simpa using h2
          go_wp2_with fail
          with_reducible refine C1.out.mono ?_
          rintro e' w1 ⟨rfl, rfl⟩
          go_wp2_with fail
          with_reducible refine C2.out.mono ?_
          rintro e' w1 ⟨rfl, rfl⟩
          go_wp2_with fail
          with_reducible refine (HIL.out es L k d wr HR.out (by omega)).mono ?_
          intro e' w2 hq
          obtain ⟨L2, k2, d2, h1, hrow2⟩ := RetBt.out hq
          subst h1
          have HR2 := Lib.hid hrow2
          have hk2 : k2 ≤ k + l.num := by have q1 := RowE.len hrow2; have q2 := RowE.len HR.out; have q3 := HBL.out; rw [List.length_append] at q1; omega
          have BW2 := Lib.hid (RowE.bel hrow2)
          clear e0 e1 e2 e3 e4 e5 e6 hq hrow2
          obtain ⟨e0, e1, e2, e3, e4, e5, e6⟩ := HSX.out w2 BW2.out
          go_wp2_with fail
          with_reducible refine (HOW.out w2 BW2.out).mono ?_
          intro e' w3 hq
          obtain ⟨K3, kn3, kc3, V3, vn3, vc3, h1, o1, o2, b3⟩ := hq
          subst h1
          obtain ⟨vs, q1, q2, q3, q4, q5, q6⟩ := HR2.out
          have s3 := b3.size
          have HEO : Hid (EO W.heap.size w3 e (.slice K3 kn3 kc3) (.int .u64 (e.seq : Int)) (.int .u8 (e.kind : Int)) (.slice V3 vn3 vc3)) := Lib.hid ⟨K3, kn3, kc3, V3, vn3, vc3, rfl, rfl, rfl, rfl, o1.mono q6, o2.mono q6, HWF.out⟩
          have HOF : Hid (OffW [.slice K3 kn3 kc3, .int .u64 (e.seq : Int), .int .u8 (e.kind : Int), .slice V3 vn3 vc3] (blk L2)) := Lib.hid (EO.off (base := w2.heap.size) (w := w3) (e := e) ⟨K3, kn3, kc3, V3, vn3, vc3, rfl, rfl, rfl, rfl, o1, o2, HWF.out⟩ (fun g hg => .inl (q1.lt g hg).2))
          have HB3 := Lib.hid b3
          have Q1 := Lib.hid q1
          have Q2 := Lib.hid q2
          have Q3 := Lib.hid q3
          have Q4 := Lib.hid q4
          have Q5 := Lib.hid q5
          have hcell : ∀ u ∈ [Value.slice K3 kn3 kc3, .int .u64 (e.seq : Int), .int .u8 (e.kind : Int), .slice V3 vn3 vc3], u.oneCell' = true := HEO.out.ev.cells
          have HCL := Lib.hid hcell
          clear o1 o2 b3 q1 q2 q3 q4 q5 hcell e0 e1 e2 e3 e4 e5 e6
          go_wp2_with (at_builtin; refine wpList_app4t w3 rfl _ _ 27 rfl W.heap.size _ 64 Try.underlying27 info_ent rfl L2 k2 d2 vs rfl (Q1.out.below HB3.out) _ _ _ _ HCL.out w3.heap.size rfl rfl ?_ ?_ ?_ ?_)
          · omega
          · omega
          · omega
          intro L4 d4 w4 hG4 hg4 hb4
          have HR4 : Hid (RowE W W.heap.size L4 (k2 + 1) d4 (es ++ betw xs ys l ++ [e]) w4) := Lib.hid (rowE_snoc Q1.out Q2.out Q3.out Q4.out Q5.out q6 HB3.out HEO.out HOF.out hG4 hg4 hb4)
          have BW4 := Lib.hid (RowE.bel HR4.out)
          clear hG4 hg4 hb4
          obtain ⟨e0, e1, e2, e3, e4, e5, e6⟩ := HSX.out w4 BW4.out
          go_wp2_with fail
          with_reducible refine (HIR.out (es ++ betw xs ys l ++ [e]) L4 (k2 + 1) d4 w4 HR4.out (by omega)).mono ?_
          intro e' w5 hq
          obtain ⟨L5, k5, d5, h1, hrow5⟩ := RetBt.out hq
          subst h1
          have HR5 := Lib.hid hrow5
          clear e0 e1 e2 e3 e4 e5 e6 hq hrow5
          go_wp2
          go_ret
          exact ⟨L5, k5, d5, rfl, by rw [HBT.out, if_pos hb, if_pos ⟨hb, HA.out⟩, if_pos HA.out]; simpa using HR5.out⟩
        · have HA : Hid (¬ (tn = 0 ∨ y2 < 0)) := Lib.hid (fun h => h.elim h0 h2)
          have t2 : decide (y2 < 0) = false := by simpa using h2
          go_wp2_with fail
          with_reducible refine C1.out.mono ?_
          rintro e' w1 ⟨rfl, rfl⟩
          go_wp2_with fail
          with_reducible refine C2.out.mono ?_
          rintro e' w1 ⟨rfl, rfl⟩
          go_wp2_with fail
          with_reducible refine (HIL.out es L k d wr HR.out (by omega)).mono ?_
          intro e' w2 hq
          obtain ⟨L2, k2, d2, h1, hrow2⟩ := RetBt.out hq
          subst h1
          have HR2 := Lib.hid hrow2
          have hk2 : k2 ≤ k + l.num := by have q1 := RowE.len hrow2; have q2 := RowE.len HR.out; have q3 := HBL.out; rw [List.length_append] at q1; omega
          have BW2 := Lib.hid (RowE.bel hrow2)
          clear e0 e1 e2 e3 e4 e5 e6 hq hrow2
          obtain ⟨e0, e1, e2, e3, e4, e5, e6⟩ := HSX.out w2 BW2.out
          go_wp2
          go_ret
          exact ⟨L2, k2, d2, rfl, by rw [HBT.out, if_pos hb, if_neg (fun h => HA.out h.2), if_neg HA.out]; simpa using HR2.out⟩
    · have tb : decide (0 ≤ y1) = false := by simpa using hb
      have HNB : Hid (¬ 0 ≤ y1) := Lib.hid hb
      by_cases h0 : tn = 0
      · subst h0
        have HA : Hid ((0 : Nat) = 0 ∨ y2 < 0) := Lib.hid (.inl rfl)
        go_wp2_with fail
        with_reducible refine C1.out.mono ?_
        rintro e' w1 ⟨rfl, rfl⟩
        go_wp2_with fail
        with_reducible refine (HIR.out es L k d wr HR.out (by omega)).mono ?_
        intro e' w5 hq
        obtain ⟨L5, k5, d5, h1, hrow5⟩ := RetBt.out hq
        subst h1
        have HR5 := Lib.hid hrow5
        clear e0 e1 e2 e3 e4 e5 e6 hq hrow5
        go_wp2
        go_ret
        exact ⟨L5, k5, d5, rfl, by rw [HBT.out, if_neg (show ¬ 0 ≤ y1 by have := HNB.out; omega), if_neg (fun h => by have := HNB.out; have := h.1; omega), if_pos HA.out]; simpa using HR5.out⟩
      · have t0 : ((tn : Int) == 0) = false := by simp; omega
        by_cases h2 : y2 < 0
        · have HA : Hid (tn = 0 ∨ y2 < 0) := Lib.hid (.inr h2)
          have t2 : decide (y2 < 0) = true := by simpa using h2
          go_wp2_with fail
          with_reducible refine C1.out.mono ?_
          rintro e' w1 ⟨rfl, rfl⟩
          go_wp2_with fail
          with_reducible refine C2.out.mono ?_
          rintro e' w1 ⟨rfl, rfl⟩
          go_wp2_with fail
          with_reducible refine (HIR.out es L k d wr HR.out (by omega)).mono ?_
          intro e' w5 hq
          obtain ⟨L5, k5, d5, h1, hrow5⟩ := RetBt.out hq
          subst h1
          have HR5 := Lib.hid hrow5
          clear e0 e1 e2 e3 e4 e5 e6 hq hrow5
          go_wp2
          go_ret
          exact ⟨L5, k5, d5, rfl, by rw [HBT.out, if_neg (show ¬ 0 ≤ y1 by have := HNB.out; omega), if_neg (fun h => by have := HNB.out; have := h.1; omega), if_pos HA.out]; simpa using HR5.out⟩
        · have HA : Hid (¬ (tn = 0 ∨ y2 < 0)) := Lib.hid (fun h => h.elim h0 h2)
          have t2 : decide (y2 < 0) = false := by simpa using h2
          go_wp2_with fail
          with_reducible refine C1.out.mono ?_
          rintro e' w1 ⟨rfl, rfl⟩
          go_wp2_with fail
          with_reducible refine C2.out.mono ?_
          rintro e' w1 ⟨rfl, rfl⟩
          go_wp2
          go_ret
          exact ⟨L, k, d, rfl, by rw [HBT.out, if_neg (show ¬ 0 ≤ y1 by have := HNB.out; omega), if_neg (fun h => by have := HNB.out; have := h.1; omega), if_neg HA.out]; simpa using HR.out⟩
end Go.Proofs.Ytheefpgokdejcaa
