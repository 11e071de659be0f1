/- The tree of a table in memory: words, height, join, balance. No condition but sizes. -/
import Derived.Test.YtgigohfjioifaaaEnC
import Derived.Deep.RegionHeld3
import Derived.Deep.DeepCutAuto
import Derived.Deep.CutBlock
namespace Go.Proofs.Ytgigohfjioifaaa
open Go Go.RowKit

inductive Tr where
  | nil : Tr
  | node : Tr → En → Tr → Tr
def Tr.ht : Tr → Nat
  | .nil => 0
  | .node l _ r => 1 + max l.ht r.ht
def Tr.num : Tr → Nat
  | .nil => 0
  | .node l _ r => l.num + 1 + r.num
def Tr.list : Tr → List En
  | .nil => []
  | .node l e r => l.list ++ e :: r.list
theorem Tr.ht_num : ∀ t : Tr, t.ht ≤ t.num
  | .nil => Nat.le_refl _
  | .node l e r => by
    have := Tr.ht_num l
    have := Tr.ht_num r
    simp only [Tr.ht, Tr.num]
    omega
/-- 'These four values are the entry e; its bytes are the program's own and lie in good blocks.' -/
def EG (G : Nat → Prop) (w : World) (e : En) (v0 v1 v2 v3 : Value) : Prop :=
  EO 0 w e v0 v1 v2 v3 ∧ ∀ A m c g, Value.slice A m c ∈ [v0, v1, v2, v3] → blk A = some g → G g
/-- 'The entry e lies in the box at p.' -/
def EB (G : Nat → Prop) (w : World) (e : En) (p : Nat) : Prop := ∃ v0 v1 v2 v3, Cl w p #[v0, v1, v2, v3] 33 ∧ EG G w e v0 v1 v2 v3
/-- 'The pointer A leads to the tree t.' -/
def TrAt (G : Nat → Prop) (w : World) : Tr → Option Addr → Prop
  | .nil, A => A = none
  | .node l e r, A => ∃ b pe pl pr, A = some ⟨b, 0, none⟩ ∧ Cl w b #[.pointer (some ⟨pe, 0, none⟩), .pointer pl, .pointer pr, .int .i64 ((1 + max l.ht r.ht : Nat) : Int)] 145 ∧ EB G w e pe ∧ TrAt G w l pl ∧ TrAt G w r pr
section
variable {G : Nat → Prop} {w w' : World}
theorem EG.below {e : En} {v0 v1 v2 v3 : Value} (h : EG G w e v0 v1 v2 v3) (hb : Below w.heap.size w w') : EG G w' e v0 v1 v2 v3 := ⟨h.1.below hb, h.2⟩
theorem EB.below {e : En} {p : Nat} (h : EB G w e p) (hb : Below w.heap.size w w') : EB G w' e p := by
  obtain ⟨v0, v1, v2, v3, h1, h2⟩ := h
  exact ⟨v0, v1, v2, v3, h1.below hb, h2.below hb⟩
theorem TrAt.below (hb : Below w.heap.size w w') : ∀ {t : Tr} {A : Option Addr}, TrAt G w t A → TrAt G w' t A
  | .nil, _, h => h
  | .node _ _ _, _, ⟨b, pe, pl, pr, h1, h2, h3, h4, h5⟩ => ⟨b, pe, pl, pr, h1, h2.below hb, h3.below hb, TrAt.below hb h4, TrAt.below hb h5⟩
theorem belowT {w0 w1 w2 : World} (h : Below w0.heap.size w0 w1) (hb : Below w1.heap.size w1 w2) : Below w0.heap.size w0 w2 := h.trans (hb.mono h.size)
def RetTr (G : Nat → Prop) (w : World) (t : Tr) (e : Ending) (w' : World) : Prop := ∃ A, e = .returned (.pointer A) ∧ TrAt G w' t A ∧ Below w.heap.size w w'
theorem RetTr.out {t : Tr} {e : Ending} (h : RetTr G w t e w') : ∃ A, e = .returned (.pointer A) ∧ TrAt G w' t A ∧ Below w.heap.size w w' := h
theorem height_any {t : Tr} {A : Option Addr} (h : TrAt G w t A) : Calls Try.prog 130 #[.pointer A] w (RetNu w (t.ht : Int)) := by
  cases t with
  | nil =>
    have hA : A = none := h
    subst hA
    go_enter Try.func130, Try.ntmps130
    go_wp2
    go_ret
    exact ⟨rfl, Below.refl _ _⟩
  | node l e r =>
    obtain ⟨b, pe, pl, pr, rfl, h2, _⟩ := h
    obtain ⟨c0, c1, c2, c3, _⟩ := h2.c4
    go_enter Try.func130, Try.ntmps130
    go_wp2
    go_ret
    exact ⟨rfl, Below.refl _ _⟩
set_option maxHeartbeats 2000000 in
theorem join_any {l r : Tr} {e : En} {pl pr : Option Addr} {pe : Nat} (hl : TrAt G w l pl) (hr : TrAt G w r pr) (he : EB G w e pe) (hn : l.num ≤ 1099511627776 ∧ r.num ≤ 1099511627776) :
    Calls Try.prog 103 #[.pointer pl, .pointer (some ⟨pe, 0, none⟩), .pointer pr] w (RetTr G w (.node l e r)) := by
  have h1 := l.ht_num
  have h2 := r.ht_num
  have HL := Lib.hid hl
  have HR := Lib.hid hr
  have HE := Lib.hid he
  obtain ⟨a, ha⟩ : ∃ a, a = l.ht := ⟨_, rfl⟩
  obtain ⟨b, hb⟩ : ∃ b, b = r.ht := ⟨_, rfl⟩
  have HA := Lib.hid ha
  have HB := Lib.hid hb
  have la : a ≤ 1099511627776 := by omega
  have lb : b ≤ 1099511627776 := by omega
  have mx : max (a : Int) (b : Int) = ((max a b : Nat) : Int) := by omega
  have sm : IntKind.i64.wrap (1 + ((max a b : Nat) : Int)) = ((1 + max a b : Nat) : Int) := by rw [IntWalk.i64_in _ (by omega)]; omega
  clear hl hr he ha hb h1 h2
  go_enter Try.func103, Try.ntmps103
  go_wp2_with fail
  refine (height_any HL.out).mono ?_
  rintro e w1 ⟨rfl, b1⟩
  rw [← HA.out]
  have HR1 := Lib.hid (HR.out.below b1)
  have B1 := Lib.hid b1
  clear b1
  go_wp2_with fail
  refine (height_any HR1.out).mono ?_
  rintro e w2 ⟨rfl, b2⟩
  rw [← HB.out]
  have HR2 := Lib.hid (HR1.out.below b2)
  have HL2 := Lib.hid ((HL.out.below B1.out).below b2)
  have HE2 := Lib.hid ((HE.out.below B1.out).below b2)
  have B2 := Lib.hid (belowT B1.out b2)
  clear b2
  clear mx sm
  go_wp2
  all_goals
    first
      | (have ex : ((1 + max l.ht r.ht : Nat) : Int) = 1 + (a : Int) := by rw [← HA.out, ← HB.out]; omega
         have EX := Lib.hid ex
         clear ex
         go_ret
         refine ⟨_, rfl, ⟨_, pe, pl, pr, rfl, by rw [EX.out]; exact Cl.new _ _ _, HE2.out.below ((Below.refl _ _).alloc (Nat.le_refl _) _), HL2.out.below ((Below.refl _ _).alloc (Nat.le_refl _) _), HR2.out.below ((Below.refl _ _).alloc (Nat.le_refl _) _)⟩, B2.out.alloc B2.out.size _⟩)
      | (have ex : ((1 + max l.ht r.ht : Nat) : Int) = 1 + (b : Int) := by rw [← HA.out, ← HB.out]; omega
         have EX := Lib.hid ex
         clear ex
         go_ret
         refine ⟨_, rfl, ⟨_, pe, pl, pr, rfl, by rw [EX.out]; exact Cl.new _ _ _, HE2.out.below ((Below.refl _ _).alloc (Nat.le_refl _) _), HL2.out.below ((Below.refl _ _).alloc (Nat.le_refl _) _), HR2.out.below ((Below.refl _ _).alloc (Nat.le_refl _) _)⟩, B2.out.alloc B2.out.size _⟩)
/-- The tree of both sides, turned where one has two levels more. -/
def balT (l : Tr) (e : En) (r : Tr) : Tr :=
  if r.ht + 1 < l.ht then
    match l with
    | .nil => .node l e r
    | .node ll le lr => if lr.ht ≤ ll.ht then .node ll le (.node lr e r) else
      match lr with
      | .nil => .node l e r
      | .node a x b => .node (.node ll le a) x (.node b e r)
  else if l.ht + 1 < r.ht then
    match r with
    | .nil => .node l e r
    | .node rl re rr => if rl.ht ≤ rr.ht then .node (.node l e rl) re rr else
      match rl with
      | .nil => .node l e r
      | .node a x b => .node (.node l e a) x (.node b re rr)
  else .node l e r
theorem balT_list (l : Tr) (e : En) (r : Tr) : (balT l e r).list = l.list ++ e :: r.list := by
  unfold balT
  split
  · cases l with
    | nil => rfl
    | node ll le lr =>
      simp only
      split
      · simp [Tr.list]
      · cases lr with
        | nil => rfl
        | node a x b => simp [Tr.list]
  · split
    · cases r with
      | nil => rfl
      | node rl re rr =>
        simp only
        split
        · simp [Tr.list]
        · cases rl with
          | nil => rfl
          | node a x b => simp [Tr.list]
    · rfl
theorem Tr.num_list : ∀ t : Tr, t.num = t.list.length
  | .nil => rfl
  | .node l e r => by
    rw [Tr.num, Tr.list, List.length_append, List.length_cons, ← Tr.num_list l, ← Tr.num_list r]
    omega
theorem balT_num (l : Tr) (e : En) (r : Tr) : (balT l e r).num = l.num + 1 + r.num := by
  rw [Tr.num_list, balT_list, List.length_append, List.length_cons, ← Tr.num_list, ← Tr.num_list]
  omega
/-- A node's cells. -/
theorem TrAt.cells {l r : Tr} {e : En} {b : Nat} (h : TrAt G w (.node l e r) (some ⟨b, 0, none⟩)) : ∃ pe pl pr, w.cell? ⟨b, 0, none⟩ = some (.pointer (some ⟨pe, 0, none⟩)) ∧ w.cell? ⟨b, 1, none⟩ = some (.pointer pl) ∧ w.cell? ⟨b, 2, none⟩ = some (.pointer pr) ∧ b < w.heap.size ∧ EB G w e pe ∧ TrAt G w l pl ∧ TrAt G w r pr := by
  obtain ⟨b', pe, pl, pr, e1, h2, h3, h4, h5⟩ := h
  injection e1 with e1
  injection e1 with e1
  subst e1
  exact ⟨pe, pl, pr, h2.cell 0, h2.cell 1, h2.cell 2, h2.lt, h3, h4, h5⟩
theorem TrAt.ptr {l r : Tr} {e : En} {A : Option Addr} (h : TrAt G w (.node l e r) A) : ∃ b, A = some ⟨b, 0, none⟩ := by
  obtain ⟨b', _, _, _, e1, _⟩ := h
  exact ⟨b', e1⟩
set_option maxRecDepth 100000 in
set_option maxHeartbeats 8000000 in
theorem balance_any {l r : Tr} {e : En} {pl pr : Option Addr} {pe : Nat} (hl : TrAt G w l pl) (hr : TrAt G w r pr) (he : EB G w e pe) (hn : l.num + r.num ≤ 1099511627776) :
    Calls Try.prog 104 #[.pointer pl, .pointer (some ⟨pe, 0, none⟩), .pointer pr] w (RetTr G w (balT l e r)) := by
  have h1 := l.ht_num
  have h2 := r.ht_num
  have HL := Lib.hid hl
  have HR := Lib.hid hr
  have HE := Lib.hid he
  obtain ⟨a, ha⟩ : ∃ a, a = l.ht := ⟨_, rfl⟩
  obtain ⟨b, hb⟩ : ∃ b, b = r.ht := ⟨_, rfl⟩
  have HA := Lib.hid ha
  have HB := Lib.hid hb
  have la : a ≤ 1099511627776 := by omega
  have lb : b ≤ 1099511627776 := by omega
  have HHL : Hid (∀ wx, Below w.heap.size w wx → Calls Try.prog 130 #[.pointer pl] wx (RetNu wx (a : Int))) := Lib.hid (fun wx hb => by rw [HA.out]; exact height_any (HL.out.below hb))
  have HHR : Hid (∀ wx, Below w.heap.size w wx → Calls Try.prog 130 #[.pointer pr] wx (RetNu wx (b : Int))) := Lib.hid (fun wx hb => by rw [HB.out]; exact height_any (HR.out.below hb))
  clear hl hr he ha hb h1 h2
  go_enter Try.func104, Try.ntmps104
  go_wp2_with fail
  refine (HHL.out _ (Below.refl _ _)).mono ?_
  rintro e1 w1 ⟨rfl, b1⟩
  have B1 := Lib.hid b1
  clear b1
  go_wp2_with fail
  refine (HHR.out _ B1.out).mono ?_
  rintro e1 w2 ⟨rfl, b2⟩
  have B2 := Lib.hid (belowT B1.out b2)
  clear b2
  by_cases c1 : b + 1 < a
  · obtain ⟨wC, hwC⟩ : ∃ wC, wC = w2 := ⟨_, rfl⟩
    rw [← hwC] at B2 ⊢
    have BC := Lib.hid B2.out
    clear hwC
    cases l with
    | nil => exfalso; have := HA.out; simp [Tr.ht] at this; omega
    | node ll le lr =>
      obtain ⟨bl, rfl⟩ := HL.out.ptr
      obtain ⟨qe, ql, qr, k0, k1, k2, klt, xe, xl, xr⟩ := (HL.out.below BC.out).cells
      have XE := Lib.hid xe
      have XL := Lib.hid xl
      have XR := Lib.hid xr
      have hln := ll.ht_num
      have hrn := lr.ht_num
      have hnn : ll.num + 1 + lr.num + r.num ≤ 1099511627776 := hn
      obtain ⟨x, hx⟩ : ∃ x, x = ll.ht := ⟨_, rfl⟩
      obtain ⟨y, hy⟩ : ∃ y, y = lr.ht := ⟨_, rfl⟩
      have HX := Lib.hid hx
      have HY := Lib.hid hy
      have lx : x ≤ 1099511627776 := by omega
      have ly : y ≤ 1099511627776 := by omega
      have HRR := Lib.hid (HR.out.below BC.out)
      have HEE := Lib.hid (HE.out.below BC.out)
      have c0 := show Tr.ht r + 1 < Tr.ht (Tr.node ll le lr) by rw [← HA.out, ← HB.out]; exact c1
      have C0 := Lib.hid c0
      clear hx hy xe xl xr hln hrn c0
      have HO : Hid (∀ wx, Below wC.heap.size wC wx → Calls Try.prog 130 #[.pointer ql] wx (RetNu wx (x : Int))) := Lib.hid (fun wx hb => by rw [HX.out]; exact height_any (XL.out.below hb))
      have HI : Hid (∀ wx, Below wC.heap.size wC wx → Calls Try.prog 130 #[.pointer qr] wx (RetNu wx (y : Int))) := Lib.hid (fun wx hb => by rw [HY.out]; exact height_any (XR.out.below hb))
      go_wp2_with fail
      refine (HO.out _ (Below.refl _ _)).mono ?_
      rintro e1 w3 ⟨rfl, b3⟩
      have B3 := Lib.hid b3
      clear b3
      go_wp2_with fail
      refine (HI.out _ B3.out).mono ?_
      rintro e1 w4 ⟨rfl, b4⟩
      have b4' := belowT B3.out b4
      have B4 := Lib.hid b4'
      have k0' := (b4'.cell (p := ⟨bl, 0, none⟩) klt).trans k0
      have k1' := (b4'.cell (p := ⟨bl, 1, none⟩) klt).trans k1
      have k2' := (b4'.cell (p := ⟨bl, 2, none⟩) klt).trans k2
      have klt4 : bl < w4.heap.size := Nat.lt_of_lt_of_le klt b4'.size
      have XE := Lib.hid (XE.out.below b4')
      have XL := Lib.hid (XL.out.below b4')
      have XR := Lib.hid (XR.out.below b4')
      have HRR := Lib.hid (HRR.out.below b4')
      have HEE := Lib.hid (HEE.out.below b4')
      have BB4 := Lib.hid (belowT BC.out b4')
      clear b4 b4' k0 k1 k2
      by_cases c3 : y ≤ x
      · have c2' : lr.ht ≤ ll.ht := by rw [← HX.out, ← HY.out]; exact c3
        have HBAL : Hid (balT (Tr.node ll le lr) e r = (.node ll le (.node lr e r))) := Lib.hid (by
          have c0 := C0.out
          
          unfold balT; rw [if_pos c0]; simp only; rw [if_pos c2'])
        have HJ1 : Hid (∀ wx, Below w4.heap.size w4 wx → Calls Try.prog 103 #[.pointer qr, .pointer (some ⟨pe, 0, none⟩), .pointer pr] wx (RetTr G wx (.node lr e r))) := Lib.hid (fun wx hb => join_any (XR.out.below hb) (HRR.out.below hb) (HEE.out.below hb) ⟨by omega, by omega⟩)
        have HJ2 : Hid (∀ wx X, Below w4.heap.size w4 wx → TrAt G wx (.node lr e r) X → Calls Try.prog 103 #[.pointer ql, .pointer (some ⟨qe, 0, none⟩), .pointer X] wx (RetTr G wx (.node ll le (.node lr e r)))) := Lib.hid (fun wx X hb ht => join_any (XL.out.below hb) ht (XE.out.below hb) ⟨by omega, by simp only [Tr.num]; omega⟩)
        have HSX : Hid (∀ wx, Below w4.heap.size w4 wx → wx.cell? ⟨bl, 0, none⟩ = some (.pointer (some ⟨qe, 0, none⟩)) ∧ wx.cell? ⟨bl, 1, none⟩ = some (.pointer ql) ∧ wx.cell? ⟨bl, 2, none⟩ = some (.pointer qr)) := Lib.hid (fun wx h => ⟨(h.cell (p := ⟨bl, 0, none⟩) klt4).trans k0', (h.cell (p := ⟨bl, 1, none⟩) klt4).trans k1', (h.cell (p := ⟨bl, 2, none⟩) klt4).trans k2'⟩)
        have hB0 : Below w4.heap.size w4 w4.drew := (Below.refl _ _).drew
        clear c2'
        go_upto_region 4 with (fail)
        go_region_held3 (fun wx => wx.cell? ⟨bl, 0, none⟩ = some (.pointer (some ⟨qe, 0, none⟩)) ∧ wx.cell? ⟨bl, 1, none⟩ = some (.pointer ql) ∧ wx.cell? ⟨bl, 2, none⟩ = some (.pointer qr)) (first | assumption | exact HSX.out _ hB0)
          (first | (go_at_call 103; with_reducible refine (HJ1.out _ (by assumption)).mono ?_; intro e1 w8 hq; obtain ⟨A8, h18, t8, b8⟩ := RetTr.out hq; subst h18; have b8' := belowT (by assumption : Below w4.heap.size w4 _) b8; have hS8 := HSX.out _ b8') | (go_at_call 103; with_reducible refine (HJ2.out _ _ b8' t8).mono ?_; intro e1 w9 hq; obtain ⟨A9, h19, t9, b9⟩ := RetTr.out hq; subst h19; have b9' := belowT b8' b9; have hS9 := HSX.out _ b9'))
        all_goals
          have HFIN := Lib.hid t9
          have HBF := Lib.hid (belowT BB4.out b9')
          clear t8 b8 b8' hS8 t9 b9 b9' hS9
          go_wp2_with fail
          go_ret
          exact ⟨A9, rfl, by rw [HBAL.out]; exact HFIN.out, HBF.out⟩
      · cases lr with
        | nil => exfalso; have := HY.out; simp [Tr.ht] at this; omega
        | node ta ix tb =>
          obtain ⟨bi, rfl⟩ := XR.out.ptr
          obtain ⟨ie, ia, ib, i0, i1, i2, ilt, ye, yl, yr⟩ := (XR.out).cells
          have IE := Lib.hid ye
          have IA := Lib.hid yl
          have IB := Lib.hid yr
          clear ye yl yr
          simp only [Tr.num] at hnn
          have c2' : ¬ (Tr.node ta ix tb).ht ≤ ll.ht := by rw [← HX.out, ← HY.out]; exact c3
          have HBAL : Hid (balT (Tr.node ll le (Tr.node ta ix tb)) e r = (.node (.node ll le ta) ix (.node tb e r))) := Lib.hid (by
            have c0 := C0.out
            
            unfold balT; rw [if_pos c0]; simp only; rw [if_neg c2'])
          have HJ1 : Hid (∀ wx, Below w4.heap.size w4 wx → Calls Try.prog 103 #[.pointer ql, .pointer (some ⟨qe, 0, none⟩), .pointer ia] wx (RetTr G wx (.node ll le ta))) := Lib.hid (fun wx hb => join_any (XL.out.below hb) (IA.out.below hb) (XE.out.below hb) ⟨by omega, by omega⟩)
          have HJ2 : Hid (∀ wx, Below w4.heap.size w4 wx → Calls Try.prog 103 #[.pointer ib, .pointer (some ⟨pe, 0, none⟩), .pointer pr] wx (RetTr G wx (.node tb e r))) := Lib.hid (fun wx hb => join_any (IB.out.below hb) (HRR.out.below hb) (HEE.out.below hb) ⟨by omega, by omega⟩)
          have HJ3 : Hid (∀ wx X Z, Below w4.heap.size w4 wx → TrAt G wx (.node ll le ta) X → TrAt G wx (.node tb e r) Z → Calls Try.prog 103 #[.pointer X, .pointer (some ⟨ie, 0, none⟩), .pointer Z] wx (RetTr G wx (.node (.node ll le ta) ix (.node tb e r)))) := Lib.hid (fun wx X Z hb h1 h2 => join_any h1 h2 (IE.out.below hb) ⟨by simp only [Tr.num]; omega, by simp only [Tr.num]; omega⟩)
          have HSX : Hid (∀ wx, Below w4.heap.size w4 wx → wx.cell? ⟨bl, 0, none⟩ = some (.pointer (some ⟨qe, 0, none⟩)) ∧ wx.cell? ⟨bl, 1, none⟩ = some (.pointer ql) ∧ wx.cell? ⟨bl, 2, none⟩ = some (.pointer (some ⟨bi, 0, none⟩)) ∧ wx.cell? ⟨bi, 0, none⟩ = some (.pointer (some ⟨ie, 0, none⟩)) ∧ wx.cell? ⟨bi, 1, none⟩ = some (.pointer ia) ∧ wx.cell? ⟨bi, 2, none⟩ = some (.pointer ib)) := Lib.hid (fun wx h => ⟨(h.cell (p := ⟨bl, 0, none⟩) klt4).trans k0', (h.cell (p := ⟨bl, 1, none⟩) klt4).trans k1', (h.cell (p := ⟨bl, 2, none⟩) klt4).trans k2', (h.cell (p := ⟨bi, 0, none⟩) ilt).trans i0, (h.cell (p := ⟨bi, 1, none⟩) ilt).trans i1, (h.cell (p := ⟨bi, 2, none⟩) ilt).trans i2⟩)
          have hB0 : Below w4.heap.size w4 w4.drew := (Below.refl _ _).drew
          clear c2'
          go_upto_region 5 with (fail)
          go_region_held3 (fun wx => wx.cell? ⟨bl, 0, none⟩ = some (.pointer (some ⟨qe, 0, none⟩)) ∧ wx.cell? ⟨bl, 1, none⟩ = some (.pointer ql) ∧ wx.cell? ⟨bl, 2, none⟩ = some (.pointer (some ⟨bi, 0, none⟩)) ∧ wx.cell? ⟨bi, 0, none⟩ = some (.pointer (some ⟨ie, 0, none⟩)) ∧ wx.cell? ⟨bi, 1, none⟩ = some (.pointer ia) ∧ wx.cell? ⟨bi, 2, none⟩ = some (.pointer ib)) (first | assumption | exact HSX.out _ hB0)
            (first | (go_at_call 103; with_reducible refine (HJ3.out _ _ _ b9' (TrAt.below b9 t8) t9).mono ?_; intro e1 w10 hq; obtain ⟨A10, h110, t10, b10⟩ := RetTr.out hq; subst h110; have b10' := belowT b9' b10; have hS10 := HSX.out _ b10') | (go_at_call 103; with_reducible refine (HJ3.out _ _ _ b8' t8 (TrAt.below b8 t9)).mono ?_; intro e1 w10 hq; obtain ⟨A10, h110, t10, b10⟩ := RetTr.out hq; subst h110; have b10' := belowT b8' b10; have hS10 := HSX.out _ b10') | (go_at_call 103; with_reducible refine (HJ1.out _ (by assumption)).mono ?_; intro e1 w8 hq; obtain ⟨A8, h18, t8, b8⟩ := RetTr.out hq; subst h18; have b8' := belowT (by assumption : Below w4.heap.size w4 _) b8; have hS8 := HSX.out _ b8') | (go_at_call 103; with_reducible refine (HJ2.out _ (by assumption)).mono ?_; intro e1 w9 hq; obtain ⟨A9, h19, t9, b9⟩ := RetTr.out hq; subst h19; have b9' := belowT (by assumption : Below w4.heap.size w4 _) b9; have hS9 := HSX.out _ b9'))
          all_goals
            have HFIN := Lib.hid t10
            have HBF := Lib.hid (belowT BB4.out b10')
            clear t8 b8 b8' hS8 t9 b9 b9' hS9 t10 b10 b10' hS10
            go_wp2_with fail
            go_ret
            exact ⟨A10, rfl, by rw [HBAL.out]; exact HFIN.out, HBF.out⟩
  · have nc1 : decide ((b : Int) + 1 < (a : Int)) = false := by simp; omega
    go_wp2_with fail
    refine (HHR.out _ B2.out).mono ?_
    rintro e1 w5 ⟨rfl, b5⟩
    have B5 := Lib.hid (belowT B2.out b5)
    clear b5
    go_wp2_with fail
    refine (HHL.out _ B5.out).mono ?_
    rintro e1 w6 ⟨rfl, b6⟩
    have B6 := Lib.hid (belowT B5.out b6)
    clear b6
    by_cases c2 : a + 1 < b
    · obtain ⟨wC, hwC⟩ : ∃ wC, wC = w6 := ⟨_, rfl⟩
      rw [← hwC] at B6 ⊢
      have BC := Lib.hid B6.out
      clear hwC
      cases r with
      | nil => exfalso; have := HB.out; simp [Tr.ht] at this; omega
      | node rl re rr =>
        obtain ⟨bl, rfl⟩ := HR.out.ptr
        obtain ⟨qe, ql, qr, k0, k1, k2, klt, xe, xl, xr⟩ := (HR.out.below BC.out).cells
        have XE := Lib.hid xe
        have XL := Lib.hid xl
        have XR := Lib.hid xr
        have hln := rl.ht_num
        have hrn := rr.ht_num
        have hnn : l.num + (rl.num + 1 + rr.num) ≤ 1099511627776 := hn
        obtain ⟨x, hx⟩ : ∃ x, x = rr.ht := ⟨_, rfl⟩
        obtain ⟨y, hy⟩ : ∃ y, y = rl.ht := ⟨_, rfl⟩
        have HX := Lib.hid hx
        have HY := Lib.hid hy
        have lx : x ≤ 1099511627776 := by omega
        have ly : y ≤ 1099511627776 := by omega
        have HLL := Lib.hid (HL.out.below BC.out)
        have HEE := Lib.hid (HE.out.below BC.out)
        have c0 := show Tr.ht l + 1 < Tr.ht (Tr.node rl re rr) by rw [← HA.out, ← HB.out]; exact c2
        have C0 := Lib.hid c0
        clear hx hy xe xl xr hln hrn c0
        have HO : Hid (∀ wx, Below wC.heap.size wC wx → Calls Try.prog 130 #[.pointer qr] wx (RetNu wx (x : Int))) := Lib.hid (fun wx hb => by rw [HX.out]; exact height_any (XR.out.below hb))
        have HI : Hid (∀ wx, Below wC.heap.size wC wx → Calls Try.prog 130 #[.pointer ql] wx (RetNu wx (y : Int))) := Lib.hid (fun wx hb => by rw [HY.out]; exact height_any (XL.out.below hb))
        go_wp2_with fail
        refine (HO.out _ (Below.refl _ _)).mono ?_
        rintro e1 w3 ⟨rfl, b3⟩
        have B3 := Lib.hid b3
        clear b3
        go_wp2_with fail
        refine (HI.out _ B3.out).mono ?_
        rintro e1 w4 ⟨rfl, b4⟩
        have b4' := belowT B3.out b4
        have B4 := Lib.hid b4'
        have k0' := (b4'.cell (p := ⟨bl, 0, none⟩) klt).trans k0
        have k1' := (b4'.cell (p := ⟨bl, 1, none⟩) klt).trans k1
        have k2' := (b4'.cell (p := ⟨bl, 2, none⟩) klt).trans k2
        have klt4 : bl < w4.heap.size := Nat.lt_of_lt_of_le klt b4'.size
        have XE := Lib.hid (XE.out.below b4')
        have XL := Lib.hid (XL.out.below b4')
        have XR := Lib.hid (XR.out.below b4')
        have HLL := Lib.hid (HLL.out.below b4')
        have HEE := Lib.hid (HEE.out.below b4')
        have BB4 := Lib.hid (belowT BC.out b4')
        clear b4 b4' k0 k1 k2
        by_cases c3 : y ≤ x
        · have c2' : rl.ht ≤ rr.ht := by rw [← HX.out, ← HY.out]; exact c3
          have HBAL : Hid (balT l e (Tr.node rl re rr) = (.node (.node l e rl) re rr)) := Lib.hid (by
            have c0 := C0.out
            have c00 : ¬ (Tr.node rl re rr).ht + 1 < l.ht := by omega
            unfold balT; rw [if_neg c00, if_pos c0]; simp only; rw [if_pos c2'])
          have HJ1 : Hid (∀ wx, Below w4.heap.size w4 wx → Calls Try.prog 103 #[.pointer pl, .pointer (some ⟨pe, 0, none⟩), .pointer ql] wx (RetTr G wx (.node l e rl))) := Lib.hid (fun wx hb => join_any (HLL.out.below hb) (XL.out.below hb) (HEE.out.below hb) ⟨by omega, by omega⟩)
          have HJ2 : Hid (∀ wx X, Below w4.heap.size w4 wx → TrAt G wx (.node l e rl) X → Calls Try.prog 103 #[.pointer X, .pointer (some ⟨qe, 0, none⟩), .pointer qr] wx (RetTr G wx (.node (.node l e rl) re rr))) := Lib.hid (fun wx X hb ht => join_any ht (XR.out.below hb) (XE.out.below hb) ⟨by simp only [Tr.num]; omega, by omega⟩)
          have HSX : Hid (∀ wx, Below w4.heap.size w4 wx → wx.cell? ⟨bl, 0, none⟩ = some (.pointer (some ⟨qe, 0, none⟩)) ∧ wx.cell? ⟨bl, 1, none⟩ = some (.pointer ql) ∧ wx.cell? ⟨bl, 2, none⟩ = some (.pointer qr)) := Lib.hid (fun wx h => ⟨(h.cell (p := ⟨bl, 0, none⟩) klt4).trans k0', (h.cell (p := ⟨bl, 1, none⟩) klt4).trans k1', (h.cell (p := ⟨bl, 2, none⟩) klt4).trans k2'⟩)
          have hB0 : Below w4.heap.size w4 w4.drew := (Below.refl _ _).drew
          clear c2'
          go_upto_region 9 with (fail)
          go_region_held3 (fun wx => wx.cell? ⟨bl, 0, none⟩ = some (.pointer (some ⟨qe, 0, none⟩)) ∧ wx.cell? ⟨bl, 1, none⟩ = some (.pointer ql) ∧ wx.cell? ⟨bl, 2, none⟩ = some (.pointer qr)) (first | assumption | exact HSX.out _ hB0)
            (first | (go_at_call 103; with_reducible refine (HJ1.out _ (by assumption)).mono ?_; intro e1 w8 hq; obtain ⟨A8, h18, t8, b8⟩ := RetTr.out hq; subst h18; have b8' := belowT (by assumption : Below w4.heap.size w4 _) b8; have hS8 := HSX.out _ b8') | (go_at_call 103; with_reducible refine (HJ2.out _ _ b8' t8).mono ?_; intro e1 w9 hq; obtain ⟨A9, h19, t9, b9⟩ := RetTr.out hq; subst h19; have b9' := belowT b8' b9; have hS9 := HSX.out _ b9'))
          all_goals
            have HFIN := Lib.hid t9
            have HBF := Lib.hid (belowT BB4.out b9')
            clear t8 b8 b8' hS8 t9 b9 b9' hS9
            go_wp2_with fail
            go_ret
            exact ⟨A9, rfl, by rw [HBAL.out]; exact HFIN.out, HBF.out⟩
        · cases rl with
          | nil => exfalso; have := HY.out; simp [Tr.ht] at this; omega
          | node ta ix tb =>
            obtain ⟨bi, rfl⟩ := XL.out.ptr
            obtain ⟨ie, ia, ib, i0, i1, i2, ilt, ye, yl, yr⟩ := (XL.out).cells
            have IE := Lib.hid ye
            have IA := Lib.hid yl
            have IB := Lib.hid yr
            clear ye yl yr
            simp only [Tr.num] at hnn
            have c2' : ¬ (Tr.node ta ix tb).ht ≤ rr.ht := by rw [← HX.out, ← HY.out]; exact c3
            have HBAL : Hid (balT l e (Tr.node (Tr.node ta ix tb) re rr) = (.node (.node l e ta) ix (.node tb re rr))) := Lib.hid (by
              have c0 := C0.out
              have c00 : ¬ (Tr.node (Tr.node ta ix tb) re rr).ht + 1 < l.ht := by omega
              unfold balT; rw [if_neg c00, if_pos c0]; simp only; rw [if_neg c2'])
            have HJ1 : Hid (∀ wx, Below w4.heap.size w4 wx → Calls Try.prog 103 #[.pointer pl, .pointer (some ⟨pe, 0, none⟩), .pointer ia] wx (RetTr G wx (.node l e ta))) := Lib.hid (fun wx hb => join_any (HLL.out.below hb) (IA.out.below hb) (HEE.out.below hb) ⟨by omega, by omega⟩)
            have HJ2 : Hid (∀ wx, Below w4.heap.size w4 wx → Calls Try.prog 103 #[.pointer ib, .pointer (some ⟨qe, 0, none⟩), .pointer qr] wx (RetTr G wx (.node tb re rr))) := Lib.hid (fun wx hb => join_any (IB.out.below hb) (XR.out.below hb) (XE.out.below hb) ⟨by omega, by omega⟩)
            have HJ3 : Hid (∀ wx X Z, Below w4.heap.size w4 wx → TrAt G wx (.node l e ta) X → TrAt G wx (.node tb re rr) Z → Calls Try.prog 103 #[.pointer X, .pointer (some ⟨ie, 0, none⟩), .pointer Z] wx (RetTr G wx (.node (.node l e ta) ix (.node tb re rr)))) := Lib.hid (fun wx X Z hb h1 h2 => join_any h1 h2 (IE.out.below hb) ⟨by simp only [Tr.num]; omega, by simp only [Tr.num]; omega⟩)
            have HSX : Hid (∀ wx, Below w4.heap.size w4 wx → wx.cell? ⟨bl, 0, none⟩ = some (.pointer (some ⟨qe, 0, none⟩)) ∧ wx.cell? ⟨bl, 1, none⟩ = some (.pointer (some ⟨bi, 0, none⟩)) ∧ wx.cell? ⟨bl, 2, none⟩ = some (.pointer qr) ∧ wx.cell? ⟨bi, 0, none⟩ = some (.pointer (some ⟨ie, 0, none⟩)) ∧ wx.cell? ⟨bi, 1, none⟩ = some (.pointer ia) ∧ wx.cell? ⟨bi, 2, none⟩ = some (.pointer ib)) := Lib.hid (fun wx h => ⟨(h.cell (p := ⟨bl, 0, none⟩) klt4).trans k0', (h.cell (p := ⟨bl, 1, none⟩) klt4).trans k1', (h.cell (p := ⟨bl, 2, none⟩) klt4).trans k2', (h.cell (p := ⟨bi, 0, none⟩) ilt).trans i0, (h.cell (p := ⟨bi, 1, none⟩) ilt).trans i1, (h.cell (p := ⟨bi, 2, none⟩) ilt).trans i2⟩)
            have hB0 : Below w4.heap.size w4 w4.drew := (Below.refl _ _).drew
            clear c2'
            go_upto_region 10 with (fail)
            go_region_held3 (fun wx => wx.cell? ⟨bl, 0, none⟩ = some (.pointer (some ⟨qe, 0, none⟩)) ∧ wx.cell? ⟨bl, 1, none⟩ = some (.pointer (some ⟨bi, 0, none⟩)) ∧ wx.cell? ⟨bl, 2, none⟩ = some (.pointer qr) ∧ wx.cell? ⟨bi, 0, none⟩ = some (.pointer (some ⟨ie, 0, none⟩)) ∧ wx.cell? ⟨bi, 1, none⟩ = some (.pointer ia) ∧ wx.cell? ⟨bi, 2, none⟩ = some (.pointer ib)) (first | assumption | exact HSX.out _ hB0)
              (first | (go_at_call 103; with_reducible refine (HJ3.out _ _ _ b9' (TrAt.below b9 t8) t9).mono ?_; intro e1 w10 hq; obtain ⟨A10, h110, t10, b10⟩ := RetTr.out hq; subst h110; have b10' := belowT b9' b10; have hS10 := HSX.out _ b10') | (go_at_call 103; with_reducible refine (HJ3.out _ _ _ b8' t8 (TrAt.below b8 t9)).mono ?_; intro e1 w10 hq; obtain ⟨A10, h110, t10, b10⟩ := RetTr.out hq; subst h110; have b10' := belowT b8' b10; have hS10 := HSX.out _ b10') | (go_at_call 103; with_reducible refine (HJ1.out _ (by assumption)).mono ?_; intro e1 w8 hq; obtain ⟨A8, h18, t8, b8⟩ := RetTr.out hq; subst h18; have b8' := belowT (by assumption : Below w4.heap.size w4 _) b8; have hS8 := HSX.out _ b8') | (go_at_call 103; with_reducible refine (HJ2.out _ (by assumption)).mono ?_; intro e1 w9 hq; obtain ⟨A9, h19, t9, b9⟩ := RetTr.out hq; subst h19; have b9' := belowT (by assumption : Below w4.heap.size w4 _) b9; have hS9 := HSX.out _ b9'))
            all_goals
              have HFIN := Lib.hid t10
              have HBF := Lib.hid (belowT BB4.out b10')
              clear t8 b8 b8' hS8 t9 b9 b9' hS9 t10 b10 b10' hS10
              go_wp2_with fail
              go_ret
              exact ⟨A10, rfl, by rw [HBAL.out]; exact HFIN.out, HBF.out⟩
    · have HBAL : Hid (balT l e r = .node l e r) := Lib.hid (by unfold balT; rw [if_neg (by rw [← HA.out, ← HB.out]; exact c1), if_neg (by rw [← HA.out, ← HB.out]; exact c2)])
      have HJ : Hid (Calls Try.prog 103 #[.pointer pl, .pointer (some ⟨pe, 0, none⟩), .pointer pr] w6 (RetTr G w6 (.node l e r))) := Lib.hid (join_any (HL.out.below B6.out) (HR.out.below B6.out) (HE.out.below B6.out) ⟨by omega, by omega⟩)
      go_wp2_with fail
      refine HJ.out.mono ?_
      rintro e1 w7 ⟨A7, rfl, t7, b7⟩
      have HFIN := Lib.hid t7
      have HBF := Lib.hid (belowT B6.out b7)
      clear t7 b7
      go_wp2
      go_ret
      exact ⟨A7, rfl, by rw [HBAL.out]; exact HFIN.out, HBF.out⟩
end
end Go.Proofs.Ytgigohfjioifaaa
