/- The table in memory: own, with, first. No condition but sizes. -/
import Derived.Test.YtheefpgokdejcaaTr
import Derived.Test.YtheefpgokdejcaaNext
import Derived.Deep.RegionLaw
namespace Go.Proofs.Ytheefpgokdejcaa
open Go Go.RowKit

theorem Made.out {base : Nat} {w w' : World} {xs : List UInt8} {e : Ending} (h : Made base w xs e w') : ∃ A n c, e = .returned (.slice A n c) ∧ Own 5 w' base A n c xs ∧ Below base w w' := h
section
variable {w : World} {a : En} {v0 v1 v2 v3 : Value}
set_option maxRecDepth 100000 in
set_option maxHeartbeats 4000000 in
theorem own_any (ha : EV w a v0 v1 v2 v3) (sa : SzE a) : Calls Try.prog 57 #[.agg #[v0, v1, v2, v3]] w (RetEn w a) := by
  obtain ⟨K, kn, kc, V, vn, vc, rfl, rfl, rfl, rfl, r0, r3, c0, c3, d0, d3, s1, s2⟩ := ha.parts
  have l1 := r0.len
  have l2 := r3.len
  have hk : kn ≤ 140737488355328 := by have := sa.1; omega
  have hv : vn ≤ 140737488355328 := by have := sa.2; omega
  have R0 := Lib.hid r0
  have R3 := Lib.hid r3
  have HD0 := Lib.hid d0
  have HD3 := Lib.hid d3
  clear ha r0 r3 d0 d3
  go_enter Try.func57, Try.ntmps57
  go_upto_region 1 with (fail)
  obtain ⟨W, hW⟩ : ∃ W, W = (w.alloc (.cells #[.slice K kn kc, .int .u64 (a.seq : Int), .int .u8 (a.kind : Int), .slice V vn vc] 38)).alloc (.cells #[.slice none 0 0, .int .u64 0, .int .u8 0, .slice none 0 0] 38) := ⟨_, rfl⟩
  rw [← hW]
  have bW : Below w.heap.size w W := by rw [hW]; exact ((Below.refl _ _).alloc (Nat.le_refl _) _).alloc (by simp) _
  have aW : Cl W w.heap.size #[.slice K kn kc, .int .u64 (a.seq : Int), .int .u8 (a.kind : Int), .slice V vn vc] 38 := by rw [hW]; exact (Cl.new _ _ _).alloc _
  have zW : Cl W (w.heap.size + 1) #[.slice none 0 0, .int .u64 0, .int .u8 0, .slice none 0 0] 38 := by rw [hW]; exact Cl.newg _ _ _ _ (by simp)
  have sW : w.heap.size + 2 ≤ W.heap.size := by rw [hW]; simp
  have HK : Hid (∀ wx, Below W.heap.size W wx → Calls Try.prog 83 #[.slice K kn kc] wx (Made wx.heap.size wx a.key)) := Lib.hid (fun wx hb => Clone_any K kn kc a.key wx ((R0.out.below bW).below hb) hk HD0.out)
  have HV : Hid (∀ wx, Below W.heap.size W wx → Calls Try.prog 83 #[.slice V vn vc] wx (Made wx.heap.size wx a.val)) := Lib.hid (fun wx hb => Clone_any V vn vc a.val wx ((R3.out.below bW).below hb) hv HD3.out)
  have ALC : Hid (∀ wx, Below W.heap.size W wx → Cl wx w.heap.size #[.slice K kn kc, .int .u64 (a.seq : Int), .int .u8 (a.kind : Int), .slice V vn vc] 38) := Lib.hid (fun wx hb => aW.below hb)
  have ZLC : Hid (∀ wx, Below W.heap.size W wx → Cl wx (w.heap.size + 1) #[.slice none 0 0, .int .u64 0, .int .u8 0, .slice none 0 0] 38) := Lib.hid (fun wx hb => zW.below hb)
  have BW := Lib.hid bW
  obtain ⟨e0, e1, e2, e3, y0, y1, y2, y3⟩ := aW.c4
  have hB0 : Below W.heap.size W W.drew := (Below.refl _ _).drew
  clear hW bW aW zW
  go_cut [] (fun wx => ∃ C cn cc D dn dc wy, Own 5 wy W.heap.size C cn cc a.key ∧ Own 5 wy W.heap.size D dn dc a.val ∧ Below W.heap.size W wy ∧ Dj C D ∧ wx = (wy.setCell ⟨w.heap.size, 0, none⟩ (.slice C cn cc)).setCell ⟨w.heap.size, 3, none⟩ (.slice D dn dc))
  case first =>
    go_region_law (first | (go_simp; go_at_call 83; with_reducible refine (HK.out _ (by assumption)).mono ?_; intro e wk hq; obtain ⟨C, cn, cc, h1, oC, bC⟩ := Made.out hq; subst h1; have bC' := belowT (by assumption : Below W.heap.size W _) bC; obtain ⟨p0, p1, p2, p3, p4, p5, p6, p7⟩ := (ALC.out _ bC').c4) | (go_simp; go_at_call 83; with_reducible refine (HV.out _ (by assumption)).mono ?_; intro e wv hq; obtain ⟨D, dn, dc, h2, oD, bD⟩ := Made.out hq; subst h2; have bD' := belowT (by assumption : Below W.heap.size W _) bD; obtain ⟨m0, m1, m2, m3, m4, m5, m6, m7⟩ := (ALC.out _ bD').c4))
    all_goals first
      | (have HDJ := Lib.hid (Dj.old oC oD (Nat.le_refl _))
         have HC1 := Lib.hid (oC.below bD)
         have HD1 := Lib.hid (oD.mono bC'.size)
         have HB1 := Lib.hid bD'
         clear oC oD bC bD bC' bD'
         go_wp2_with fail
         go_meet
         exact ⟨C, cn, cc, D, dn, dc, wv, HC1.out, HD1.out, HB1.out, HDJ.out, rfl⟩)
      | (have HDJ := Lib.hid (Dj.symm (Dj.old oD oC (Nat.le_refl _)))
         have HC1 := Lib.hid (oC.mono bD'.size)
         have HD1 := Lib.hid (oD.below bC)
         have HB1 := Lib.hid bC'
         clear oC oD bC bD bC' bD'
         go_wp2_with fail
         go_meet
         exact ⟨C, cn, cc, D, dn, dc, wk, HC1.out, HD1.out, HB1.out, HDJ.out, rfl⟩)
  case rest =>
    obtain ⟨C, cn, cc, D, dn, dc, wy, oC, oD, bY, hdj, hwc⟩ := hcut
    have A1 := ALC.out _ bY
    have Z1 := Lib.hid (ZLC.out _ bY)
    have sy := bY.size
    obtain ⟨Y, hY⟩ : ∃ Y, Y = wy.setCell ⟨w.heap.size, 0, none⟩ (.slice C cn cc) := ⟨_, rfl⟩
    rw [← hY] at hwc
    have aY : Cl Y w.heap.size #[.slice C cn cc, .int .u64 (a.seq : Int), .int .u8 (a.kind : Int), .slice V vn vc] 38 := by rw [hY]; exact A1.set 0 _
    have zY : Cl Y (w.heap.size + 1) #[.slice none 0 0, .int .u64 0, .int .u8 0, .slice none 0 0] 38 := by rw [hY]; exact Z1.out.off 0 _ (by omega)
    have bYY : Below w.heap.size w Y := by rw [hY]; exact below_set (BW.out.trans (bY.mono BW.out.size)) 0 _ (Nat.le_refl _)
    have oCY : Own 5 Y W.heap.size C cn cc a.key := by rw [hY]; exact oC.set (by omega) 0 _
    have oDY : Own 5 Y W.heap.size D dn dc a.val := by rw [hY]; exact oD.set (by omega) 0 _
    have aC : Cl wc w.heap.size #[.slice C cn cc, .int .u64 (a.seq : Int), .int .u8 (a.kind : Int), .slice D dn dc] 38 := by rw [hwc]; exact aY.set 3 _
    have zC : Cl wc (w.heap.size + 1) #[.slice none 0 0, .int .u64 0, .int .u8 0, .slice none 0 0] 38 := by rw [hwc]; exact zY.off 3 _ (by omega)
    have HFIN : Hid (∀ X, X = (((wc.setCell ⟨w.heap.size + 1, 0, none⟩ (.slice C cn cc)).setCell ⟨w.heap.size + 1, 1, none⟩ (.int .u64 (a.seq : Int))).setCell ⟨w.heap.size + 1, 2, none⟩ (.int .u8 (a.kind : Int))).setCell ⟨w.heap.size + 1, 3, none⟩ (.slice D dn dc) → Cl X (w.heap.size + 1) #[.slice C cn cc, .int .u64 (a.seq : Int), .int .u8 (a.kind : Int), .slice D dn dc] 38 ∧ RetEn w a (.returned (.agg #[.slice C cn cc, .int .u64 (a.seq : Int), .int .u8 (a.kind : Int), .slice D dn dc])) X) := Lib.hid (fun X hX => en_fin (x := a) (g := w.heap.size) zY rfl oCY oDY bYY (Nat.le_refl _) sW ⟨3, _, hwc⟩ hX hdj)
    clear hY hwc A1 aY zY bYY oCY oDY oC oD bY e0 e1 e2 e3 y0 y1 y2 y3
    obtain ⟨e0, e1, e2, e3, y0, y1, y2, y3⟩ := aC.c4
    obtain ⟨g0, g1, g2, g3, k0, k1, k2, k3⟩ := zC.c4
    clear aC zC
    go_wp2_with fail
    obtain ⟨X, hX⟩ : ∃ X, X = (((wc.setCell ⟨w.heap.size + 1, 0, none⟩ (.slice C cn cc)).setCell ⟨w.heap.size + 1, 1, none⟩ (.int .u64 (a.seq : Int))).setCell ⟨w.heap.size + 1, 2, none⟩ (.int .u8 (a.kind : Int))).setCell ⟨w.heap.size + 1, 3, none⟩ (.slice D dn dc) := ⟨_, rfl⟩
    obtain ⟨zX, hret⟩ := HFIN.out X hX
    rw [← hX]
    obtain ⟨x0, x1, x2, x3, _⟩ := zX.c4
    refine bodyPost_ret (v := .agg #[.slice C cn cc, .int .u64 (a.seq : Int), .int .u8 (a.kind : Int), .slice D dn dc]) (by simp [results, Try.results57, go_sem, x0, x1, x2, x3]; try rfl) rfl hret
end
end Go.Proofs.Ytheefpgokdejcaa
