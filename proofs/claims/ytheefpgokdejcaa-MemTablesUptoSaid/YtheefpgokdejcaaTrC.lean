/- The tree with one entry more. No condition but sizes. -/
import Derived.Test.YtheefpgokdejcaaTrB
namespace Go.Proofs.Ytheefpgokdejcaa
open Go Go.RowKit

/-- The tree with x besides; none: it is there. -/
def withT (x : En) : Tr → Option Tr
  | .nil => some (.node .nil x .nil)
  | .node l e r => if lessE x e then (withT x l).map (fun t => balT t e r) else if lessE e x then (withT x r).map (fun t => balT l e t) else none
theorem withT_num {x : En} : ∀ {t t' : Tr}, withT x t = some t' → t'.num = t.num + 1
  | .nil, t', h => by
    unfold withT at h
    injection h with h
    rw [← h]; rfl
  | .node l e r, t', h => by
    unfold withT at h
    split at h
    · cases hw : withT x l with
      | none => rw [hw] at h; cases h
      | some l' =>
        rw [hw] at h
        injection h with h
        have := withT_num hw
        rw [← h]
        simp only [balT_num, Tr.num]
        omega
    · split at h
      · cases hw : withT x r with
        | none => rw [hw] at h; cases h
        | some r' =>
          rw [hw] at h
          injection h with h
          have := withT_num hw
          rw [← h]
          simp only [balT_num, Tr.num]
          omega
      · cases h
def RetWith (G : Nat → Prop) (w : World) (o : Option Tr) (e : Ending) (w' : World) : Prop :=
  (∃ t A, o = some t ∧ e = .returned (.tuple #[.pointer A, .bool false]) ∧ TrAt G w' t A ∧ Below w.heap.size w w') ∨ (o = none ∧ e = .returned (.tuple #[.pointer none, .bool true]) ∧ Below w.heap.size w w')
theorem RetWith.out {G : Nat → Prop} {w : World} {o : Option Tr} {e : Ending} {w' : World} (h : RetWith G w o e w') : (∃ t A, o = some t ∧ e = .returned (.tuple #[.pointer A, .bool false]) ∧ TrAt G w' t A ∧ Below w.heap.size w w') ∨ (o = none ∧ e = .returned (.tuple #[.pointer none, .bool true]) ∧ Below w.heap.size w w') := h
theorem RetT.out {w : World} {b : Bool} {e : Ending} {w' : World} (h : RetT w b e w') : e = .returned (.bool b) ∧ Below w.heap.size w w' := h
set_option maxRecDepth 100000 in
set_option maxHeartbeats 8000000 in
theorem with_any {G : Nat → Prop} (x : En) (px : Nat) : ∀ (t : Tr) (A : Option Addr) (w : World), TrAt G w t A → EB G w x px → t.num + 1 ≤ 1099511627776 →
    Calls Try.prog 58 #[.pointer A, .pointer (some ⟨px, 0, none⟩)] w (RetWith G w (withT x t)) := by
  intro t
  induction t with
  | nil =>
    intro A w h hx hn
    have hA : A = none := h
    subst hA
    have HJ : Hid (Calls Try.prog 85 #[.pointer none, .pointer (some ⟨px, 0, none⟩), .pointer none] w (RetTr G w (.node .nil x .nil))) := Lib.hid (join_any (l := .nil) (r := .nil) rfl rfl hx ⟨by simp [Tr.num], by simp [Tr.num]⟩)
    clear h hx
    go_enter Try.func58, Try.ntmps58
    go_wp2_with fail
    refine HJ.out.mono ?_
    intro e w1 hq
    obtain ⟨A1, h1, t1, b1⟩ := RetTr.out hq
    subst h1
    have T1 := Lib.hid t1
    have B1 := Lib.hid b1
    clear t1 b1 hq HJ
    go_wp2
    go_ret2
    exact .inl ⟨_, A1, rfl, rfl, T1.out, B1.out⟩
  | node l e r ihl ihr =>
    intro A w h hx hn
    obtain ⟨b, rfl⟩ := h.ptr
    obtain ⟨pe, pl, pr, n0, n1, n2, nlt, he, hl, hr⟩ := h.cells
    obtain ⟨x0, x1, x2, x3, cx, ex⟩ := hx
    obtain ⟨z0, z1, z2, z3, cz, ez⟩ := he
    have hnum : l.num + 1 + r.num + 1 ≤ 1099511627776 := hn
    have HSX : Hid (∀ wx, Below w.heap.size w wx → wx.cell? ⟨b, 0, none⟩ = some (.pointer (some ⟨pe, 0, none⟩)) ∧ wx.cell? ⟨b, 1, none⟩ = some (.pointer pl) ∧ wx.cell? ⟨b, 2, none⟩ = some (.pointer pr) ∧ wx.cell? ⟨px, 0, none⟩ = some x0 ∧ wx.cell? ⟨px, 1, none⟩ = some x1 ∧ wx.cell? ⟨px, 2, none⟩ = some x2 ∧ wx.cell? ⟨px, 3, none⟩ = some x3 ∧ wx.cell? ⟨pe, 0, none⟩ = some z0 ∧ wx.cell? ⟨pe, 1, none⟩ = some z1 ∧ wx.cell? ⟨pe, 2, none⟩ = some z2 ∧ wx.cell? ⟨pe, 3, none⟩ = some z3) := Lib.hid (fun wx h => by
      obtain ⟨c0, c1, c2, c3, _⟩ := (cx.below h).c4
      obtain ⟨d0, d1, d2, d3, _⟩ := (cz.below h).c4
      exact ⟨(h.cell (p := ⟨b, 0, none⟩) nlt).trans n0, (h.cell (p := ⟨b, 1, none⟩) nlt).trans n1, (h.cell (p := ⟨b, 2, none⟩) nlt).trans n2, c0, c1, c2, c3, d0, d1, d2, d3⟩)
    have HL1 : Hid (∀ wx, Below w.heap.size w wx → Calls Try.prog 75 #[.agg #[x0, x1, x2, x3], .agg #[z0, z1, z2, z3]] wx (RetT wx (lessE x e))) := Lib.hid (fun wx h => memLess_any (ex.1.ev.below h) (ez.1.ev.below h))
    have HL2 : Hid (∀ wx, Below w.heap.size w wx → Calls Try.prog 75 #[.agg #[z0, z1, z2, z3], .agg #[x0, x1, x2, x3]] wx (RetT wx (lessE e x))) := Lib.hid (fun wx h => memLess_any (ez.1.ev.below h) (ex.1.ev.below h))
    have HX : Hid (∀ wx, Below w.heap.size w wx → EB G wx x px) := Lib.hid (fun wx h => ⟨x0, x1, x2, x3, cx.below h, ex.below h⟩)
    have HE : Hid (∀ wx, Below w.heap.size w wx → EB G wx e pe) := Lib.hid (fun wx h => ⟨z0, z1, z2, z3, cz.below h, ez.below h⟩)
    have HWL : Hid (∀ wx, Below w.heap.size w wx → Calls Try.prog 58 #[.pointer pl, .pointer (some ⟨px, 0, none⟩)] wx (RetWith G wx (withT x l))) := Lib.hid (fun wx h => ihl pl wx (hl.below h) (HX.out wx h) (by omega))
    have HWR : Hid (∀ wx, Below w.heap.size w wx → Calls Try.prog 58 #[.pointer pr, .pointer (some ⟨px, 0, none⟩)] wx (RetWith G wx (withT x r))) := Lib.hid (fun wx h => ihr pr wx (hr.below h) (HX.out wx h) (by omega))
    have HTL := Lib.hid hl
    have HTR := Lib.hid hr
    clear ihl ihr h cx ex cz ez hl hr n0 n1 n2
    obtain ⟨LE, hLE⟩ : ∃ LE, LE = lessE x e := ⟨_, rfl⟩
    obtain ⟨GE, hGE⟩ : ∃ GE, GE = lessE e x := ⟨_, rfl⟩
    rw [← hLE] at HL1
    rw [← hGE] at HL2
    have HW : Hid (withT x (.node l e r) = if LE = true then (withT x l).map (fun t => balT t e r) else if GE = true then (withT x r).map (fun t => balT l e t) else none) := Lib.hid (by rw [hLE, hGE]; rfl)
    clear hLE hGE
    have hB0 : Below w.heap.size w w.drew := (Below.refl _ _).drew
    go_enter Try.func58, Try.ntmps58
    go_upto_region 3 with (fail)
    go_cut [14] (fun s14 wx => s14 = .bool LE ∧ Below w.heap.size w wx)
    case first =>
      go_region_held3 (fun wx => wx.cell? ⟨b, 0, none⟩ = some (.pointer (some ⟨pe, 0, none⟩)) ∧ wx.cell? ⟨b, 1, none⟩ = some (.pointer pl) ∧ wx.cell? ⟨b, 2, none⟩ = some (.pointer pr) ∧ wx.cell? ⟨px, 0, none⟩ = some x0 ∧ wx.cell? ⟨px, 1, none⟩ = some x1 ∧ wx.cell? ⟨px, 2, none⟩ = some x2 ∧ wx.cell? ⟨px, 3, none⟩ = some x3 ∧ wx.cell? ⟨pe, 0, none⟩ = some z0 ∧ wx.cell? ⟨pe, 1, none⟩ = some z1 ∧ wx.cell? ⟨pe, 2, none⟩ = some z2 ∧ wx.cell? ⟨pe, 3, none⟩ = some z3) (first | assumption | exact HSX.out _ hB0)
        (first | (go_at_call 75; with_reducible refine (HL1.out _ hB0).mono ?_; intro e1 w5 hq; obtain ⟨h1, b5⟩ := RetT.out hq; subst h1; have b5' := belowT hB0 b5; have hS5 := HSX.out _ b5'))
      all_goals
        have HB5 := Lib.hid b5'
        clear hS5 b5 b5'
        go_wp2_with fail
        go_meet
        exact ⟨rfl, HB5.out⟩
    case rest =>
      obtain ⟨rfl, hbc⟩ := hcut
      obtain ⟨n0, n1, n2, c0, c1, c2, c3, d0, d1, d2, d3⟩ := HSX.out _ hbc
      have BC := Lib.hid hbc
      clear hbc
      cases LE with
      | true =>
        clear c0 c1 c2 c3 d0 d1 d2 d3
        go_wp2_with fail
        with_reducible refine (HWL.out _ BC.out).mono ?_
        intro e1 w6 hq
        rcases RetWith.out hq with ⟨t', A6, ho, h1, t6, b6⟩ | ⟨ho, h1, b6⟩
        · subst h1
          have hnt := withT_num ho
          have HOO := Lib.hid ho
          have B6 := Lib.hid (belowT BC.out b6)
          have T6 := Lib.hid t6
          have hB6 : Below w6.heap.size w6 w6.drew := (Below.refl _ _).drew
          have HB : Hid (∀ wx, Below w6.heap.size w6 wx → Calls Try.prog 86 #[.pointer A6, .pointer (some ⟨pe, 0, none⟩), .pointer pr] wx (RetTr G wx (balT t' e r))) := Lib.hid (fun wx h => balance_any (T6.out.below h) (HTR.out.below (belowT B6.out h)) (HE.out wx (belowT B6.out h)) (by omega))
          clear n0 n1 n2 hq ho t6 b6
          go_upto_region 7 with (fail)
          go_region_held3 (fun wx => wx.cell? ⟨b, 0, none⟩ = some (.pointer (some ⟨pe, 0, none⟩)) ∧ wx.cell? ⟨b, 1, none⟩ = some (.pointer pl) ∧ wx.cell? ⟨b, 2, none⟩ = some (.pointer pr) ∧ wx.cell? ⟨px, 0, none⟩ = some x0 ∧ wx.cell? ⟨px, 1, none⟩ = some x1 ∧ wx.cell? ⟨px, 2, none⟩ = some x2 ∧ wx.cell? ⟨px, 3, none⟩ = some x3 ∧ wx.cell? ⟨pe, 0, none⟩ = some z0 ∧ wx.cell? ⟨pe, 1, none⟩ = some z1 ∧ wx.cell? ⟨pe, 2, none⟩ = some z2 ∧ wx.cell? ⟨pe, 3, none⟩ = some z3) (first | assumption | exact HSX.out _ B6.out.drew)
            (first | (go_at_call 86; with_reducible refine (HB.out _ hB6).mono ?_; intro e1 w8 hq; obtain ⟨A8, h18, t8, b8⟩ := RetTr.out hq; subst h18; have b8' := belowT hB6 b8; have hS8 := HSX.out _ (belowT B6.out b8')))
          all_goals
            have T8 := Lib.hid t8
            have B8 := Lib.hid (belowT B6.out b8')
            clear hS8 t8 b8 b8'
            go_wp2_with fail
            go_ret2
            exact .inl ⟨_, A8, by rw [HW.out]; simp [HOO.out], rfl, T8.out, B8.out⟩
        · subst h1
          have HOO := Lib.hid ho
          have B6 := Lib.hid (belowT BC.out b6)
          clear hq ho b6
          go_wp2_with fail
          go_ret2
          exact .inr ⟨by rw [HW.out]; simp [HOO.out], rfl, B6.out⟩
      | false =>
        have hBD : Below w.heap.size w wc.drew := BC.out.drew
        clear n0 n1 n2 c0 c1 c2 c3 d0 d1 d2 d3
        go_upto_region 8 with (fail)
        go_cut [45] (fun s45 wx => s45 = .bool GE ∧ Below w.heap.size w wx)
        case first =>
          go_region_held3 (fun wx => wx.cell? ⟨b, 0, none⟩ = some (.pointer (some ⟨pe, 0, none⟩)) ∧ wx.cell? ⟨b, 1, none⟩ = some (.pointer pl) ∧ wx.cell? ⟨b, 2, none⟩ = some (.pointer pr) ∧ wx.cell? ⟨px, 0, none⟩ = some x0 ∧ wx.cell? ⟨px, 1, none⟩ = some x1 ∧ wx.cell? ⟨px, 2, none⟩ = some x2 ∧ wx.cell? ⟨px, 3, none⟩ = some x3 ∧ wx.cell? ⟨pe, 0, none⟩ = some z0 ∧ wx.cell? ⟨pe, 1, none⟩ = some z1 ∧ wx.cell? ⟨pe, 2, none⟩ = some z2 ∧ wx.cell? ⟨pe, 3, none⟩ = some z3) (first | assumption | exact HSX.out _ hBD)
            (first | (go_at_call 75; with_reducible refine (HL2.out _ hBD).mono ?_; intro e1 w5 hq; obtain ⟨h1, b5⟩ := RetT.out hq; subst h1; have b5' := belowT hBD b5; have hS5 := HSX.out _ b5'))
          all_goals
            have HB5 := Lib.hid b5'
            clear hS5 b5 b5'
            go_wp2_with fail
            go_meet
            exact ⟨rfl, HB5.out⟩
        case rest =>
          obtain ⟨rfl, hbd⟩ := hcut
          have BC := Lib.hid hbd
          obtain ⟨n0, n1, n2, c0, c1, c2, c3, d0, d1, d2, d3⟩ := HSX.out _ hbd
          clear hbd hBD
          cases GE with
          | true =>
            clear c0 c1 c2 c3 d0 d1 d2 d3
            go_wp2_with fail
            with_reducible refine (HWR.out _ BC.out).mono ?_
            intro e1 w6 hq
            rcases RetWith.out hq with ⟨t', A6, ho, h1, t6, b6⟩ | ⟨ho, h1, b6⟩
            · subst h1
              have hnt := withT_num ho
              have HOO := Lib.hid ho
              have B6 := Lib.hid (belowT BC.out b6)
              have T6 := Lib.hid t6
              have hB6 : Below w6.heap.size w6 w6.drew := (Below.refl _ _).drew
              have HB : Hid (∀ wx, Below w6.heap.size w6 wx → Calls Try.prog 86 #[.pointer pl, .pointer (some ⟨pe, 0, none⟩), .pointer A6] wx (RetTr G wx (balT l e t'))) := Lib.hid (fun wx h => balance_any (HTL.out.below (belowT B6.out h)) (T6.out.below h) (HE.out wx (belowT B6.out h)) (by omega))
              clear n0 n1 n2 hq ho t6 b6
              go_upto_region 12 with (fail)
              go_region_held3 (fun wx => wx.cell? ⟨b, 0, none⟩ = some (.pointer (some ⟨pe, 0, none⟩)) ∧ wx.cell? ⟨b, 1, none⟩ = some (.pointer pl) ∧ wx.cell? ⟨b, 2, none⟩ = some (.pointer pr) ∧ wx.cell? ⟨px, 0, none⟩ = some x0 ∧ wx.cell? ⟨px, 1, none⟩ = some x1 ∧ wx.cell? ⟨px, 2, none⟩ = some x2 ∧ wx.cell? ⟨px, 3, none⟩ = some x3 ∧ wx.cell? ⟨pe, 0, none⟩ = some z0 ∧ wx.cell? ⟨pe, 1, none⟩ = some z1 ∧ wx.cell? ⟨pe, 2, none⟩ = some z2 ∧ wx.cell? ⟨pe, 3, none⟩ = some z3) (first | assumption | exact HSX.out _ B6.out.drew)
                (first | (go_at_call 86; with_reducible refine (HB.out _ hB6).mono ?_; intro e1 w8 hq; obtain ⟨A8, h18, t8, b8⟩ := RetTr.out hq; subst h18; have b8' := belowT hB6 b8; have hS8 := HSX.out _ (belowT B6.out b8')))
              all_goals
                have T8 := Lib.hid t8
                have B8 := Lib.hid (belowT B6.out b8')
                clear hS8 t8 b8 b8'
                go_wp2_with fail
                go_ret2
                exact .inl ⟨_, A8, by rw [HW.out]; simp [HOO.out], rfl, T8.out, B8.out⟩
            · subst h1
              have HOO := Lib.hid ho
              have B6 := Lib.hid (belowT BC.out b6)
              clear hq ho b6
              go_wp2_with fail
              go_ret2
              exact .inr ⟨by rw [HW.out]; simp [HOO.out], rfl, B6.out⟩
          | false =>
            go_wp2
            go_ret2
            exact .inr ⟨by rw [HW.out]; rfl, rfl, BC.out⟩
end Go.Proofs.Ytheefpgokdejcaa
