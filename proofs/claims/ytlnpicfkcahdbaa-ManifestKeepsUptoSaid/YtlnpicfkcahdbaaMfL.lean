/- Manifest: decodeFile of what encodeFile made. No condition but sizes. -/
import Derived.Test.YtlnpicfkcahdbaaMfK
namespace Go.Proofs.Ytlnpicfkcahdbaa
open Go Go.RowKit

theorem RetNu.outA {w : World} {z : Int} {e : Ending} {w' : World} (h : RetNu w z e w') : e = .returned (.int .i64 z) ∧ Below w.heap.size w w' := h
def RetDf (w : World) (x : Mf) (e : Ending) (w' : World) : Prop := ∃ C cn cc D dn dc, e = .returned (.tuple #[.agg #[.slice C cn cc, .slice D dn dc, .int .i64 0, .int .i64 0, .int .u64 (x.num : Int), .int .i64 0], .int .i64 0]) ∧ Own 5 w' w.heap.size C cn cc x.lo ∧ Own 5 w' w.heap.size D dn dc x.hi ∧ Dj C D ∧ Below w.heap.size w w'
theorem RetDf.out {w : World} {x : Mf} {e : Ending} {w' : World} (h : RetDf w x e w') : ∃ C cn cc D dn dc, e = .returned (.tuple #[.agg #[.slice C cn cc, .slice D dn dc, .int .i64 0, .int .i64 0, .int .u64 (x.num : Int), .int .i64 0], .int .i64 0]) ∧ Own 5 w' w.heap.size C cn cc x.lo ∧ Own 5 w' w.heap.size D dn dc x.hi ∧ Dj C D ∧ Below w.heap.size w w' := h
theorem Own.grownM {e : TypeId} {w w' : World} {base n c p : Nat} {A : Option Addr} {xs : List UInt8} (h : Own e w base A n c xs) (hg : w.grownBy w' (some p)) (hp : p < base) : Own e w' base A n c xs :=
  h.fr (Fr.of_grown (bl := [p]) hg (fun b hb => by injection hb with hb; rw [hb]; simp)) (fun b hb hm => by rw [List.mem_singleton] at hm; have := (h.lt b hb).1; omega)
theorem Own.setM {e : TypeId} {w : World} {base n c p i : Nat} {v : Value} {A : Option Addr} {xs : List UInt8} (h : Own e w base A n c xs) (hp : p < base) : Own e (w.setCell ⟨p, i, none⟩ v) base A n c xs := h.set hp i v
set_option maxRecDepth 100000 in
set_option maxHeartbeats 16000000 in
theorem decodeFile_any {w : World} {E : Option Addr} {en ec : Nat} {x : Mf} (hr : Rd w E en (encF (nsF x) x)) (hn : en ≤ 16777216) (hc : en ≤ ec) (hx : x.num < B64) : Calls Try.prog 121 #[.slice E en ec] w (RetDf w x) := by
  obtain ⟨a, b, g1, g2, g3, g4, g5, g6⟩ := encF_at x hx
  rw [hr.len] at g6
  obtain ⟨W1, hW1⟩ : ∃ W1, W1 = w.alloc (.cells #[.slice none 0 0, .slice none 0 0, .int .i64 0, .int .i64 0, .int .u64 0, .int .i64 0] 113) := ⟨_, rfl⟩
  obtain ⟨p2, hp2⟩ : ∃ p, p = w.heap.size := ⟨_, rfl⟩
  have b1 : Below w.heap.size w W1 := by rw [hW1]; exact (Below.refl _ _).alloc (Nat.le_refl _) _
  have z2 : Cl W1 p2 #[.slice none 0 0, .slice none 0 0, .int .i64 0, .int .i64 0, .int .u64 0, .int .i64 0] 113 := by rw [hW1, hp2]; exact Cl.new _ _ _
  obtain ⟨W2, hW2⟩ : ∃ W2, W2 = W1.alloc (.cells #[.slice E en ec, .int .i64 0, .int .i64 0] 185) := ⟨_, rfl⟩
  obtain ⟨p4, hp4⟩ : ∃ p, p = W1.heap.size := ⟨_, rfl⟩
  have b2 : Below W1.heap.size W1 W2 := by rw [hW2]; exact (Below.refl _ _).alloc (Nat.le_refl _) _
  have z4 : RdMf W2 p4 E en ec 0 := by rw [hW2, hp4]; exact Cl.new _ _ _
  obtain ⟨u0, hu0⟩ : ∃ u, u = W2.alloc (.cells #[.slice none 0 0, .slice none 0 0, .int .i64 0, .int .i64 0, .int .u64 0, .int .i64 0] 113) := ⟨_, rfl⟩
  obtain ⟨p5, hp5⟩ : ∃ p, p = W2.heap.size := ⟨_, rfl⟩
  have b3 : Below W2.heap.size W2 u0 := by rw [hu0]; exact (Below.refl _ _).alloc (Nat.le_refl _) _
  have z5 : Cl u0 p5 #[.slice none 0 0, .slice none 0 0, .int .i64 0, .int .i64 0, .int .u64 0, .int .i64 0] 113 := by rw [hu0, hp5]; exact Cl.new _ _ _
  have HQ2 : Hid (p2 = w.heap.size) := Lib.hid hp2
  have HQ4 : Hid (p4 = p2 + 1) := Lib.hid (by rw [hp4, hW1, hp2]; simp)
  have HQ5 : Hid (p5 = p4 + 1) := Lib.hid (by rw [hp5, hp4, hW2]; simp)
  have HB0 : Hid (Below w.heap.size w u0) := Lib.hid (belowT' (belowT' b1 b2) b3)
  have HT0 : Hid (Cl u0 p2 #[.slice none 0 0, .slice none 0 0, .int .i64 0, .int .i64 0, .int .u64 0, .int .i64 0] 113) := Lib.hid ((z2.below b2).below b3)
  have HR0 : Hid (RdMf u0 p4 E en ec 0) := Lib.hid (z4.below b3)
  have HF0 : Hid (Cl u0 p5 #[.slice none 0 0, .slice none 0 0, .int .i64 0, .int .i64 0, .int .u64 0, .int .i64 0] 113) := Lib.hid z5
  have HW1 := Lib.hid hW1
  have HW2 := Lib.hid hW2
  have HU0 := Lib.hid hu0
  have HRR := Lib.hid hr
  have HG1 := Lib.hid g1
  have HG2 := Lib.hid g2
  have HG3 := Lib.hid g3
  have HG4 := Lib.hid g4
  have HG5 := Lib.hid g5
  have HG6 := Lib.hid g6
  obtain ⟨nm, hnm⟩ : ∃ n, n = x.num := ⟨_, rfl⟩
  have HNM := Lib.hid hnm
  rw [← hnm] at HG1
  clear hr g1 g2 g3 g4 g5 g6 hW1 hp2 b1 z2 hW2 hp4 b2 z4 hu0 hp5 b3 z5 hx hnm
  go_enter Try.func121, Try.ntmps121
  go_upto_region 3 with (fail)
  rw [← HW1.out, ← HQ2.out, ← HW2.out, ← HQ4.out, ← HU0.out, ← HQ5.out]
  have HN1 := Lib.hid (numberM_any HR0.out (HRR.out.below HB0.out) (by omega) hc HG1.out)
  go_wp2_with fail
  with_reducible refine HN1.out.mono ?_
  intro e v1 hq
  obtain ⟨h1, hrd, hgr⟩ := hq.out
  have h1 : e = .returned (.int .u64 ((nm : Nat) : Int)) := h1
  subst h1
  have zf := HF0.out.grownM hgr (by have := HQ5.out; omega)
  have zt := HT0.out.grownM hgr (by have := HQ4.out; omega)
  have hbv := below_grown HB0.out hgr HB0.out.size (by have := HQ4.out; have := HQ2.out; omega)
  have c0 : v1.cell? ⟨p5, 4, none⟩ = some (.int .u64 0) := zf.cell 4
  have f0 := zf.thaw 4
  obtain ⟨u1, hu1⟩ : ∃ u, u = v1.setCell ⟨p5, 4, none⟩ (.int .u64 (nm : Int)) := ⟨_, rfl⟩
  have HF1 : Hid (Cl u1 p5 #[.slice none 0 0, .slice none 0 0, .int .i64 0, .int .i64 0, .int .u64 (nm : Int), .int .i64 0] 113) := Lib.hid (by rw [hu1]; exact zf.set 4 _)
  have HT1 : Hid (Cl u1 p2 #[.slice none 0 0, .slice none 0 0, .int .i64 0, .int .i64 0, .int .u64 0, .int .i64 0] 113) := Lib.hid (by rw [hu1]; exact zt.off 4 _ (by have := HQ5.out; have := HQ4.out; omega))
  have HR1 : Hid (RdMf u1 p4 E en ec a) := Lib.hid (by rw [hu1]; exact Cl.off hrd 4 _ (by have := HQ5.out; omega))
  have HB1 : Hid (Below w.heap.size w u1) := Lib.hid (by rw [hu1]; exact below_set hbv 4 _ (by have := HQ5.out; have := HQ4.out; have := HQ2.out; omega))
  have HU1 := Lib.hid hu1
  clear hq hrd hgr zf zt hbv hu1
  go_upto_region 4 with (fail)
  rw [← HU1.out]
  clear c0 f0
  have HN2 := Lib.hid (numberM_any HR1.out (HRR.out.below HB1.out) (by omega) hc HG2.out)
  go_wp2_with fail
  with_reducible refine HN2.out.mono ?_
  intro e v2 hq
  obtain ⟨h1, hrd, hgr⟩ := hq.out
  have h1 : e = .returned (.int .u64 (0 : Int)) := h1
  subst h1
  have zf := HF1.out.grownM hgr (by have := HQ5.out; omega)
  have zt := HT1.out.grownM hgr (by have := HQ4.out; omega)
  have hbv := below_grown HB1.out hgr HB1.out.size (by have := HQ4.out; have := HQ2.out; omega)
  have c0 : v2.cell? ⟨p5, 5, none⟩ = some (.int .i64 0) := zf.cell 5
  have f0 := zf.thaw 5
  obtain ⟨u2, hu2⟩ : ∃ u, u = v2.setCell ⟨p5, 5, none⟩ (.int .i64 0) := ⟨_, rfl⟩
  have HF2 : Hid (Cl u2 p5 #[.slice none 0 0, .slice none 0 0, .int .i64 0, .int .i64 0, .int .u64 (nm : Int), .int .i64 0] 113) := Lib.hid (by rw [hu2]; exact zf.set 5 _)
  have HT2 : Hid (Cl u2 p2 #[.slice none 0 0, .slice none 0 0, .int .i64 0, .int .i64 0, .int .u64 0, .int .i64 0] 113) := Lib.hid (by rw [hu2]; exact zt.off 5 _ (by have := HQ5.out; have := HQ4.out; omega))
  have HR2 : Hid (RdMf u2 p4 E en ec (a + 1)) := Lib.hid (by rw [hu2]; exact Cl.off hrd 5 _ (by have := HQ5.out; omega))
  have HB2 : Hid (Below w.heap.size w u2) := Lib.hid (by rw [hu2]; exact below_set hbv 5 _ (by have := HQ5.out; have := HQ4.out; have := HQ2.out; omega))
  have HU2 := Lib.hid hu2
  clear hq hrd hgr zf zt hbv hu2
  go_upto_region 5 with (fail)
  rw [← HU2.out]
  clear c0 f0
  have HN3 := Lib.hid (numberM_any HR2.out (HRR.out.below HB2.out) (by omega) hc HG3.out)
  go_wp2_with fail
  with_reducible refine HN3.out.mono ?_
  intro e v3 hq
  obtain ⟨h1, hrd, hgr⟩ := hq.out
  have h1 : e = .returned (.int .u64 (0 : Int)) := h1
  subst h1
  have zf := HF2.out.grownM hgr (by have := HQ5.out; omega)
  have zt := HT2.out.grownM hgr (by have := HQ4.out; omega)
  have hbv := below_grown HB2.out hgr HB2.out.size (by have := HQ4.out; have := HQ2.out; omega)
  have c0 : v3.cell? ⟨p5, 2, none⟩ = some (.int .i64 0) := zf.cell 2
  have f0 := zf.thaw 2
  obtain ⟨u3, hu3⟩ : ∃ u, u = v3.setCell ⟨p5, 2, none⟩ (.int .i64 0) := ⟨_, rfl⟩
  have HF3 : Hid (Cl u3 p5 #[.slice none 0 0, .slice none 0 0, .int .i64 0, .int .i64 0, .int .u64 (nm : Int), .int .i64 0] 113) := Lib.hid (by rw [hu3]; exact zf.set 2 _)
  have HT3 : Hid (Cl u3 p2 #[.slice none 0 0, .slice none 0 0, .int .i64 0, .int .i64 0, .int .u64 0, .int .i64 0] 113) := Lib.hid (by rw [hu3]; exact zt.off 2 _ (by have := HQ5.out; have := HQ4.out; omega))
  have HR3 : Hid (RdMf u3 p4 E en ec (a + 2)) := Lib.hid (by rw [hu3]; exact Cl.off hrd 2 _ (by have := HQ5.out; omega))
  have HB3 : Hid (Below w.heap.size w u3) := Lib.hid (by rw [hu3]; exact below_set hbv 2 _ (by have := HQ5.out; have := HQ4.out; have := HQ2.out; omega))
  have HU3 := Lib.hid hu3
  clear hq hrd hgr zf zt hbv hu3
  go_upto_region 6 with (fail)
  rw [← HU3.out]
  clear c0 f0
  have HN4 := Lib.hid (numberM_any HR3.out (HRR.out.below HB3.out) (by omega) hc HG4.out)
  go_wp2_with fail
  with_reducible refine HN4.out.mono ?_
  intro e v4 hq
  obtain ⟨h1, hrd, hgr⟩ := hq.out
  have h1 : e = .returned (.int .u64 (0 : Int)) := h1
  subst h1
  have zf := HF3.out.grownM hgr (by have := HQ5.out; omega)
  have zt := HT3.out.grownM hgr (by have := HQ4.out; omega)
  have hbv := below_grown HB3.out hgr HB3.out.size (by have := HQ4.out; have := HQ2.out; omega)
  have c0 : v4.cell? ⟨p5, 3, none⟩ = some (.int .i64 0) := zf.cell 3
  have f0 := zf.thaw 3
  obtain ⟨u4, hu4⟩ : ∃ u, u = v4.setCell ⟨p5, 3, none⟩ (.int .i64 0) := ⟨_, rfl⟩
  have HF4 : Hid (Cl u4 p5 #[.slice none 0 0, .slice none 0 0, .int .i64 0, .int .i64 0, .int .u64 (nm : Int), .int .i64 0] 113) := Lib.hid (by rw [hu4]; exact zf.set 3 _)
  have HT4 : Hid (Cl u4 p2 #[.slice none 0 0, .slice none 0 0, .int .i64 0, .int .i64 0, .int .u64 0, .int .i64 0] 113) := Lib.hid (by rw [hu4]; exact zt.off 3 _ (by have := HQ5.out; have := HQ4.out; omega))
  have HR4 : Hid (RdMf u4 p4 E en ec (a + 3)) := Lib.hid (by rw [hu4]; exact Cl.off hrd 3 _ (by have := HQ5.out; omega))
  have HB4 : Hid (Below w.heap.size w u4) := Lib.hid (by rw [hu4]; exact below_set hbv 3 _ (by have := HQ5.out; have := HQ4.out; have := HQ2.out; omega))
  have HU4 := Lib.hid hu4
  clear hq hrd hgr zf zt hbv hu4
  go_upto_region 7 with (fail)
  rw [← HU4.out]
  clear c0 f0
  have HN5 := Lib.hid (textM_any HR4.out (HRR.out.below HB4.out) (by omega) HG5.out)
  go_wp2_with fail
  with_reducible refine HN5.out.mono ?_
  intro e v5 hq
  obtain ⟨C, cn, cc, h1, hown, hrd, hgr⟩ := hq.out
  subst h1
  have zf := HF4.out.grownM hgr (by have := HQ5.out; omega)
  have zt := HT4.out.grownM hgr (by have := HQ4.out; omega)
  have hbv := below_grown HB4.out hgr HB4.out.size (by have := HQ4.out; have := HQ2.out; omega)
  have hpl : p5 < u4.heap.size := HF4.out.lt
  have c0 : v5.cell? ⟨p5, 0, none⟩ = some (.slice none 0 0) := zf.cell 0
  have f0 := zf.thaw 0
  obtain ⟨u5, hu5⟩ : ∃ u, u = v5.setCell ⟨p5, 0, none⟩ (.slice C cn cc) := ⟨_, rfl⟩
  have HF5 : Hid (Cl u5 p5 #[.slice C cn cc, .slice none 0 0, .int .i64 0, .int .i64 0, .int .u64 (nm : Int), .int .i64 0] 113) := Lib.hid (by rw [hu5]; exact zf.set 0 _)
  have HT5 : Hid (Cl u5 p2 #[.slice none 0 0, .slice none 0 0, .int .i64 0, .int .i64 0, .int .u64 0, .int .i64 0] 113) := Lib.hid (by rw [hu5]; exact zt.off 0 _ (by have := HQ5.out; have := HQ4.out; omega))
  have HR5 : Hid (RdMf u5 p4 E en ec b) := Lib.hid (by rw [hu5]; exact Cl.off hrd 0 _ (by have := HQ5.out; omega))
  have HB5 : Hid (Below w.heap.size w u5) := Lib.hid (by rw [hu5]; exact below_set hbv 0 _ (by have := HQ5.out; have := HQ4.out; have := HQ2.out; omega))
  have HO5 : Hid (Own 5 u5 u4.heap.size C cn cc x.lo) := Lib.hid (by rw [hu5]; exact hown.setM hpl)
  have HU5 := Lib.hid hu5
  clear hq hrd hgr zf zt hbv hu5 hown hpl
  go_upto_region 8 with (fail)
  rw [← HU5.out]
  clear c0 f0
  have HN6 := Lib.hid (textM_any HR5.out (HRR.out.below HB5.out) (by omega) HG6.out)
  go_wp2_with fail
  with_reducible refine HN6.out.mono ?_
  intro e v6 hq
  obtain ⟨D, dn, dc, h1, hown, hrd, hgr⟩ := hq.out
  subst h1
  have zf := HF5.out.grownM hgr (by have := HQ5.out; omega)
  have zt := HT5.out.grownM hgr (by have := HQ4.out; omega)
  have hbv := below_grown HB5.out hgr HB5.out.size (by have := HQ4.out; have := HQ2.out; omega)
  have hpl : p5 < u5.heap.size := HF5.out.lt
  have c0 : v6.cell? ⟨p5, 1, none⟩ = some (.slice none 0 0) := zf.cell 1
  have f0 := zf.thaw 1
  obtain ⟨u6, hu6⟩ : ∃ u, u = v6.setCell ⟨p5, 1, none⟩ (.slice D dn dc) := ⟨_, rfl⟩
  have HF6 : Hid (Cl u6 p5 #[.slice C cn cc, .slice D dn dc, .int .i64 0, .int .i64 0, .int .u64 (nm : Int), .int .i64 0] 113) := Lib.hid (by rw [hu6]; exact zf.set 1 _)
  have HT6 : Hid (Cl u6 p2 #[.slice none 0 0, .slice none 0 0, .int .i64 0, .int .i64 0, .int .u64 0, .int .i64 0] 113) := Lib.hid (by rw [hu6]; exact zt.off 1 _ (by have := HQ5.out; have := HQ4.out; omega))
  have HR6 : Hid (RdMf u6 p4 E en ec en) := Lib.hid (by rw [hu6]; exact Cl.off hrd 1 _ (by have := HQ5.out; omega))
  have HB6 : Hid (Below w.heap.size w u6) := Lib.hid (by rw [hu6]; exact below_set hbv 1 _ (by have := HQ5.out; have := HQ4.out; have := HQ2.out; omega))
  have HO6 : Hid (Own 5 u6 u5.heap.size D dn dc x.hi) := Lib.hid (by rw [hu6]; exact hown.setM hpl)
  have HO5B : Hid (Own 5 u6 u4.heap.size C cn cc x.lo) := Lib.hid (by rw [hu6]; exact (HO5.out.grownM hgr (by have := HR4.out; have : p4 < u4.heap.size := Cl.lt this; exact this)).setM HF4.out.lt)
  have HU6 := Lib.hid hu6
  clear hq hrd hgr zf zt hbv hu6 hown hpl
  go_upto_region 9 with (fail)
  rw [← HU6.out]
  clear c0 f0
  have hB1 : Below u6.heap.size u6 u6.drew := (Below.refl _ _).drew
  have HEN : Hid (∀ wx, Below u6.heap.size u6 wx → Calls Try.prog 119 #[.pointer (some ⟨p4, 0, none⟩)] wx (RetNu wx 0)) := Lib.hid (fun wx hb => endM_any (HR6.out.below hb))
  have HLD : Hid (∀ wx, Below u6.heap.size u6 wx → wx.cell? ⟨p5, 0, none⟩ = some (.slice C cn cc) ∧ wx.cell? ⟨p5, 1, none⟩ = some (.slice D dn dc) ∧ wx.cell? ⟨p5, 2, none⟩ = some (.int .i64 0) ∧ wx.cell? ⟨p5, 3, none⟩ = some (.int .i64 0) ∧ wx.cell? ⟨p5, 4, none⟩ = some (.int .u64 (nm : Int)) ∧ wx.cell? ⟨p5, 5, none⟩ = some (.int .i64 0)) := Lib.hid (fun wx hb => ⟨(HF6.out.below hb).cell 0, (HF6.out.below hb).cell 1, (HF6.out.below hb).cell 2, (HF6.out.below hb).cell 3, (HF6.out.below hb).cell 4, (HF6.out.below hb).cell 5⟩)
  have HDJ : Hid (Dj C D) := Lib.hid (Dj.old HO5.out HO6.out (Nat.le_refl _))
  obtain ⟨m0, m1, m2, m3, m4, m5⟩ := HLD.out _ hB1
  go_region_law (first | (go_simp; go_at_call 119; with_reducible refine (HEN.out _ hB1).mono ?_; intro e wk hq; obtain ⟨h1, bk⟩ := hq.outA; subst h1; have bk' := belowT' hB1 bk; obtain ⟨q0, q1, q2, q3, q4, q5⟩ := HLD.out _ bk'; obtain ⟨d0, d1, d2, d3, d4, d5, d6, d7, d8, d9, d10, d11⟩ := (HT6.out.below bk').st6))
  all_goals
    obtain ⟨r0, r1, r2, r3, r4, r5⟩ := (HT6.out.below bk').fin6
    have HEND : Hid (∀ v0 v1 v2 v3 v4 v5 : Value, RetDf w x (.returned (.tuple #[.agg #[.slice C cn cc, .slice D dn dc, .int .i64 0, .int .i64 0, .int .u64 (nm : Int), .int .i64 0], .int .i64 0])) ((((((wk.setCell ⟨p2, 0, none⟩ v0).setCell ⟨p2, 1, none⟩ v1).setCell ⟨p2, 2, none⟩ v2).setCell ⟨p2, 3, none⟩ v3).setCell ⟨p2, 4, none⟩ v4).setCell ⟨p2, 5, none⟩ v5)) := Lib.hid (fun v0 v1 v2 v3 v4 v5 => by
      have e2 := HQ2.out
      have l4 : p2 < u4.heap.size := HT4.out.lt
      have l5 : p2 < u5.heap.size := HT5.out.lt
      have s4 := HB4.out.size
      have s5 := HB5.out.size
      have hb := belowT' HB6.out bk'
      have l : w.heap.size ≤ p2 := by omega
      refine ⟨C, cn, cc, D, dn, dc, by rw [HNM.out], ?_, ?_, HDJ.out, below_set (below_set (below_set (below_set (below_set (below_set hb 0 v0 l) 1 v1 l) 2 v2 l) 3 v3 l) 4 v4 l) 5 v5 l⟩
      · exact Own.mono ((((((HO5B.out.below bk').setM l4).setM l4).setM l4).setM l4).setM l4 |>.setM l4) s4
      · exact Own.mono ((((((HO6.out.below bk').setM l5).setM l5).setM l5).setM l5).setM l5 |>.setM l5) s5)
    clear bk bk' q0 q1 q2 q3 q4 q5 d0 d1 d2 d3 d4 d5 d6 d7 d8 d9 d10 d11
    go_wp2_with fail
    exact bodyPost_ret (v := .tuple #[.agg #[.slice C cn cc, .slice D dn dc, .int .i64 0, .int .i64 0, .int .u64 (nm : Int), .int .i64 0], .int .i64 0]) (by simp [results, Try.results121, go_sem, r0, r1, r2, r3, r4, r5]; try rfl) rfl (HEND.out _ _ _ _ _ _)
end Go.Proofs.Ytlnpicfkcahdbaa
