/- TableAnswers: a table that was written and opened answers each key's version at any moment and all versions in order. The arguments hold together at most 1048576 values. -/
import Derived.Test.YtbgelbdnkbhffaaGreatTbD
import Derived.Test.YtbgelbdnkbhffaaGreatDskB
import Derived.Lib.AppendZeros
import Derived.Test.YtbgelbdnkbhffaaGreatEnC
import Derived.Test.YtbgelbdnkbhffaaGreatEnL
import Derived.Test.YtbgelbdnkbhffaaGreatRows
import Derived.Test.YtbgelbdnkbhffaaGreatOpen
import Derived.ProofKit
import Derived.OpenShut
import Derived.ShutString
import Derived.ChangeOld
import Derived.SizedLaws
import Derived.JoinedCond
import Derived.Deep.CondSized
import Derived.Deep.Matrix
import Derived.Test.YtbgelbdnkbhffaaGreatBulk
import Derived.Test.YtbgelbdnkbhffaaGreatOpenE
import Derived.Test.YtbgelbdnkbhffaaGreatOpenT
namespace Go.Proofs.YtbgelbdnkbhffaaGreat
open Go Go.RowKit

/-- Two keys of their own and two numbers. -/
def RetAb (w : World) (a b : List UInt8) (n fn : Nat) (e : Ending) (w' : World) : Prop :=
  ∃ K kn kc L ln lc, e = .returned (.agg #[.slice K kn kc, .slice L ln lc, .int .i64 (n : Int), .int .i64 (fn : Int)]) ∧ Own 5 w' w.heap.size K kn kc a ∧ Own 5 w' w.heap.size L ln lc b ∧ Below w.heap.size w w'
theorem below_put4 {B g : Nat} {w wk : World} (h : Below B w wk) (hg : B ≤ g) (a b c d : Value) : Below B w ((((wk.setCell ⟨g, 0, none⟩ a).setCell ⟨g, 1, none⟩ b).setCell ⟨g, 2, none⟩ c).setCell ⟨g, 3, none⟩ d) :=
  below_set (below_set (below_set (below_set h 0 _ hg) 1 _ hg) 2 _ hg) 3 _ hg
theorem own_put4 {e : TypeId} {w : World} {base n c g : Nat} {A : Option Addr} {xs : List UInt8} (h : Own e w base A n c xs) (hg : g < base) (p q r s : Value) : Own e ((((w.setCell ⟨g, 0, none⟩ p).setCell ⟨g, 1, none⟩ q).setCell ⟨g, 2, none⟩ r).setCell ⟨g, 3, none⟩ s) base A n c xs :=
  (((h.set hg 0 _).set hg 1 _).set hg 2 _).set hg 3 _

set_option maxRecDepth 100000 in
set_option maxHeartbeats 8000000 in
theorem about_any {w : World} {A F : Option Addr} {n c fn fc : Nat} {es : List En} {x y : En} (h : REs w A n es) (hn : 0 < n) (hn2 : n ≤ 1099511627776) (hx : es[0]? = some x) (hy : es[n - 1]? = some y) (sx : x.key.length ≤ 140737488355328) (sy : y.key.length ≤ 140737488355328) :
    Calls Tryz.prog 69 #[.slice A n c, .slice F fn fc] w (RetAb w x.key y.key n fn) := by
  obtain ⟨b, off, hAb, hbl⟩ := h.pos hn
  subst hAb
  obtain ⟨x', v0, v1, v2, v3, hx', c0, _, _, _, hev⟩ := h.at_ 0 hn
  obtain ⟨m, hm⟩ : ∃ m, m = n - 1 := ⟨_, rfl⟩
  rw [← hm] at hy
  obtain ⟨y', u0, u1, u2, u3, hy', e0, _, _, _, hew⟩ := h.at_ m (by omega)
  obtain rfl : x' = x := by rw [hx] at hx'; exact (Option.some.inj hx').symm
  obtain rfl : y' = y := by rw [hy] at hy'; exact (Option.some.inj hy').symm
  obtain ⟨K, kn, kc, _, _, _, rfl, _, _, _, r0, _, k0, _, d0, _⟩ := hev.parts
  obtain ⟨L, ln, lc, _, _, _, rfl, _, _, _, q0, _, l0, _, f0, _⟩ := hew.parts
  rw [show off + 0 * 4 = off by omega] at c0
  obtain ⟨W, hW⟩ : ∃ W, W = w.alloc (.cells #[.slice none 0 0, .slice none 0 0, .int .i64 0, .int .i64 0] 31) := ⟨_, rfl⟩
  obtain ⟨g, hg⟩ : ∃ g, g = w.heap.size := ⟨_, rfl⟩
  have bW : Below w.heap.size w W := by rw [hW]; exact (Below.refl _ _).alloc (Nat.le_refl _) _
  have zW : Cl W g #[.slice none 0 0, .slice none 0 0, .int .i64 0, .int .i64 0] 31 := by rw [hW, hg]; exact Cl.new _ _ _
  have sW : g < W.heap.size := zW.lt
  have hkn : kn ≤ 140737488355328 := by rw [← r0.len]; exact sx
  have hln : ln ≤ 140737488355328 := by rw [← q0.len]; exact sy
  have HK : Hid (∀ wx, Below W.heap.size W wx → Calls Tryz.prog 122 #[.slice K kn kc] wx (Made wx.heap.size wx x'.key)) := Lib.hid (fun wx hb => Clone_any K kn kc _ wx ((r0.below bW).below hb) hkn d0)
  have HV : Hid (∀ wx, Below W.heap.size W wx → Calls Tryz.prog 122 #[.slice L ln lc] wx (Made wx.heap.size wx y'.key)) := Lib.hid (fun wx hb => Clone_any L ln lc _ wx ((q0.below bW).below hb) hln f0)
  have HS0 : Hid (∀ wx, Below w.heap.size w wx → wx.cell? ⟨b, off, none⟩ = some (.slice K kn kc) ∧ wx.cell? ⟨b, off + m * 4, none⟩ = some (.slice L ln lc)) := Lib.hid (fun wx hb => ⟨(hb.cell (p := ⟨b, off, none⟩) hbl).trans c0, (hb.cell (p := ⟨b, off + m * 4, none⟩) hbl).trans e0⟩)
  have ZLC : Hid (∀ wx, Below W.heap.size W wx → Cl wx g #[.slice none 0 0, .slice none 0 0, .int .i64 0, .int .i64 0] 31) := Lib.hid (fun wx hb => zW.below hb)
  have BW := Lib.hid bW
  have HSX : Hid (∀ wx, Below W.heap.size W wx → wx.cell? ⟨b, off, none⟩ = some (.slice K kn kc) ∧ wx.cell? ⟨b, off + m * 4, none⟩ = some (.slice L ln lc)) := Lib.hid (fun wx hb => HS0.out wx (belowT bW hb))
  have HW := Lib.hid hW
  have HG := Lib.hid hg
  have hB0 : Below W.heap.size W W.drew := (Below.refl _ _).drew
  have hmw : IntKind.i64.wrap ((n : Int) - 1) = (m : Int) := by rw [IntWalk.i64_in _ (by omega)]; omega
  have hmn : m < n := by omega
  have HGW := Lib.hid (show w.heap.size ≤ g by omega)
  clear h hx hy hx' hy' c0 e0 hev hew r0 q0 d0 f0 hW hg bW zW hm sx sy
  go_enter Tryz.func69, Tryz.ntmps69
  go_upto_region 1 with (fail)
  rw [← HW.out, ← HG.out]
  go_upto_region 2 with (fail)
  go_region_held3 (fun wx => wx.cell? ⟨b, off, none⟩ = some (.slice K kn kc) ∧ wx.cell? ⟨b, off + m * 4, none⟩ = some (.slice L ln lc)) (first | assumption | exact HSX.out _ hB0 | exact HS0.out _ (below_put4 (BW.out.trans ((by assumption : Below W.heap.size W _).mono BW.out.size)) HGW.out _ _ _ _))
    (first | (go_at_call 122; with_reducible refine (HK.out _ (by assumption)).mono ?_; intro e wk hq; obtain ⟨C, cn, cc, h1, oC, bC⟩ := Made.out hq; subst h1; have bC' := belowT (by assumption : Below W.heap.size W _) bC; obtain ⟨p0, p1, p2, p3, p4, p5, p6, p7⟩ := (ZLC.out _ bC').c4; have hS1 := HSX.out _ bC')
           | (go_at_call 122; with_reducible refine (HV.out _ (by assumption)).mono ?_; intro e wv hq; obtain ⟨D, dn, dc, h1, oD, bD⟩ := Made.out hq; subst h1; have bD' := belowT (by assumption : Below W.heap.size W _) bD; obtain ⟨t0, t1, t2, t3, t4, t5, t6, t7⟩ := (ZLC.out _ bD').c4; have hS2 := HSX.out _ bD'))
  all_goals first
    | (have hg0 := HGW.out
       have hs1 : W.heap.size ≤ wk.heap.size := bC'.size
       have HCC : Hid (Own 5 wv W.heap.size C cn cc x'.key) := Lib.hid (oC.below bD)
       have HDD : Hid (Own 5 wv W.heap.size D dn dc y'.key) := Lib.hid (oD.mono hs1)
       have HBB : Hid (Below W.heap.size W wv) := Lib.hid bD'
       have HFIN : Hid (∀ X, X = ((((wv.setCell ⟨g, 0, none⟩ (.slice C cn cc)).setCell ⟨g, 1, none⟩ (.slice D dn dc)).setCell ⟨g, 2, none⟩ (.int .i64 (n : Int))).setCell ⟨g, 3, none⟩ (.int .i64 (fn : Int))) → Cl X g #[.slice C cn cc, .slice D dn dc, .int .i64 (n : Int), .int .i64 (fn : Int)] 31 ∧ RetAb w x'.key y'.key n fn (.returned (.agg #[.slice C cn cc, .slice D dn dc, .int .i64 (n : Int), .int .i64 (fn : Int)])) X) := Lib.hid (fun X hX => by
         rw [hX]
         exact ⟨(ZLC.out _ HBB.out).put4 rfl _ _ _ _, C, cn, cc, D, dn, dc, rfl, (own_put4 HCC.out sW _ _ _ _).mono (by have := BW.out.size; omega), (own_put4 HDD.out sW _ _ _ _).mono (by have := BW.out.size; omega), below_put4 (BW.out.trans (HBB.out.mono BW.out.size)) hg0 _ _ _ _⟩)
       clear oC bC bC' oD bD bD' p0 p1 p2 p3 p4 p5 p6 p7 t0 t1 t2 t3 t4 t5 t6 t7 hS1 hS2
       go_wp2_with fail
       obtain ⟨X, hX⟩ : ∃ X, X = ((((wv.setCell ⟨g, 0, none⟩ (.slice C cn cc)).setCell ⟨g, 1, none⟩ (.slice D dn dc)).setCell ⟨g, 2, none⟩ (.int .i64 (n : Int))).setCell ⟨g, 3, none⟩ (.int .i64 (fn : Int))) := ⟨_, rfl⟩
       obtain ⟨zX, hret⟩ := HFIN.out X hX
       rw [← hX]
       obtain ⟨x0, x1, x2, x3, _⟩ := zX.c4
       refine bodyPost_ret (v := .agg #[.slice C cn cc, .slice D dn dc, .int .i64 (n : Int), .int .i64 (fn : Int)]) (by simp [results, Tryz.results69, go_sem, x0, x1, x2, x3]; try rfl) rfl hret)
    | (have hg0 := HGW.out
       have hs1 : W.heap.size ≤ wv.heap.size := bD'.size
       have HCC : Hid (Own 5 wk W.heap.size C cn cc x'.key) := Lib.hid (oC.mono hs1)
       have HDD : Hid (Own 5 wk W.heap.size D dn dc y'.key) := Lib.hid (oD.below bC)
       have HBB : Hid (Below W.heap.size W wk) := Lib.hid bC'
       have HFIN : Hid (∀ X, X = ((((wk.setCell ⟨g, 0, none⟩ (.slice C cn cc)).setCell ⟨g, 1, none⟩ (.slice D dn dc)).setCell ⟨g, 2, none⟩ (.int .i64 (n : Int))).setCell ⟨g, 3, none⟩ (.int .i64 (fn : Int))) → Cl X g #[.slice C cn cc, .slice D dn dc, .int .i64 (n : Int), .int .i64 (fn : Int)] 31 ∧ RetAb w x'.key y'.key n fn (.returned (.agg #[.slice C cn cc, .slice D dn dc, .int .i64 (n : Int), .int .i64 (fn : Int)])) X) := Lib.hid (fun X hX => by
         rw [hX]
         exact ⟨(ZLC.out _ HBB.out).put4 rfl _ _ _ _, C, cn, cc, D, dn, dc, rfl, (own_put4 HCC.out sW _ _ _ _).mono (by have := BW.out.size; omega), (own_put4 HDD.out sW _ _ _ _).mono (by have := BW.out.size; omega), below_put4 (BW.out.trans (HBB.out.mono BW.out.size)) hg0 _ _ _ _⟩)
       clear oC bC bC' oD bD bD' p0 p1 p2 p3 p4 p5 p6 p7 t0 t1 t2 t3 t4 t5 t6 t7 hS1 hS2
       go_wp2_with fail
       obtain ⟨X, hX⟩ : ∃ X, X = ((((wk.setCell ⟨g, 0, none⟩ (.slice C cn cc)).setCell ⟨g, 1, none⟩ (.slice D dn dc)).setCell ⟨g, 2, none⟩ (.int .i64 (n : Int))).setCell ⟨g, 3, none⟩ (.int .i64 (fn : Int))) := ⟨_, rfl⟩
       obtain ⟨zX, hret⟩ := HFIN.out X hX
       rw [← hX]
       obtain ⟨x0, x1, x2, x3, _⟩ := zX.c4
       refine bodyPost_ret (v := .agg #[.slice C cn cc, .slice D dn dc, .int .i64 (n : Int), .int .i64 (fn : Int)]) (by simp [results, Tryz.results69, go_sem, x0, x1, x2, x3]; try rfl) rfl hret)
end Go.Proofs.YtbgelbdnkbhffaaGreat
namespace Go.Proofs.YtbgelbdnkbhffaaGreat
open Go Go.RowKit

theorem cutS_inv (size : Int) (es : List En) : ∀ i, i ≤ es.length → (cutS size es i).1.flatten = es.take (cutS size es i).2.1 ∧ (cutS size es i).2.1 ≤ i ∧ (cutS size es i).1.length ≤ (cutS size es i).2.1
  | 0, _ => ⟨rfl, Nat.le_refl _, Nat.le_refl _⟩
  | i + 1, h => by
    obtain ⟨h1, h2, h3⟩ := cutS_inv size es i (by omega)
    obtain ⟨x, hx⟩ : ∃ x, es[i]? = some x := ⟨_, List.getElem?_eq_getElem (by omega)⟩
    obtain ⟨g, b, s, hg⟩ : ∃ g b s, cutS size es i = (g, b, s) := ⟨_, _, _, rfl⟩
    rw [hg] at h1 h2 h3
    by_cases hs : size ≤ ((s + wE x : Nat) : Int)
    · rw [cutS_yes hg hx hs]
      simp only at h1 h2 h3 ⊢
      refine ⟨?_, Nat.le_refl _, by rw [List.length_append, List.length_singleton]; omega⟩
      rw [List.flatten_append, h1]
      simp only [List.flatten_cons, List.flatten_nil, List.append_nil]
      have : es.take b = (es.take (i + 1)).take b := by rw [List.take_take, Nat.min_eq_left (by omega)]
      rw [this, List.take_append_drop]
    · rw [cutS_no hg hx hs]
      exact ⟨h1, by simp only at h2 ⊢; omega, h3⟩
theorem grpE_flat (size : Int) (es : List En) : (grpE size es).flatten = es := by
  obtain ⟨h1, h2, _⟩ := cutS_inv size es es.length (Nat.le_refl _)
  unfold grpE
  split
  · rw [List.flatten_append, h1]
    simp
  · rw [h1, List.take_of_length_le (by omega)]
theorem grpE_len (size : Int) (es : List En) : (grpE size es).length ≤ es.length := by
  obtain ⟨h1, h2, h3⟩ := cutS_inv size es es.length (Nat.le_refl _)
  unfold grpE
  split
  · rw [List.length_append, List.length_singleton]; omega
  · omega
theorem grpE_keys (size : Int) (es : List En) : keysL (grpE size es) = es.map (·.key) := by unfold keysL; rw [grpE_flat]

/-- What Bytes answers: bytes and an error. -/
def bytesT (size : Int) (es : List En) : List UInt8 × Int :=
  if size < 1 then ([], 1) else if checkE es ≠ 0 then ([], checkE es) else if es.length = 0 ∨ ordE es = false then ([], 3) else sealT (grpE size es)
/-- What it tells of them. -/
def metaT (es : List En) (z : List UInt8 × Int) : List UInt8 × List UInt8 × Nat × Nat :=
  if z.2 ≠ 0 then ([], [], 0, 0) else ((es[0]?.map (·.key)).getD [], (es[es.length - 1]?.map (·.key)).getD [], es.length, z.1.length)
def RetBy (w : World) (z : List UInt8 × Int) (mt : List UInt8 × List UInt8 × Nat × Nat) (e : Ending) (w' : World) : Prop :=
  ∃ A c K kn kc L ln lc, e = .returned (.tuple #[.slice A z.1.length c, .agg #[.slice K kn kc, .slice L ln lc, .int .i64 (mt.2.2.1 : Int), .int .i64 (mt.2.2.2 : Int)], .int .i64 z.2]) ∧ Own 5 w' w.heap.size A z.1.length c z.1 ∧ Own 5 w' w.heap.size K kn kc mt.1 ∧ Own 5 w' w.heap.size L ln lc mt.2.1 ∧ Below w.heap.size w w'
theorem RetBy.no {w w' : World} {z : List UInt8 × Int} {es : List En} {k : Int} (hz : z = ([], k)) (hk : k ≠ 0) (hb : Below w.heap.size w w') : RetBy w z (metaT es z) (.returned (.tuple #[.slice none 0 0, .agg #[.slice none 0 0, .slice none 0 0, .int .i64 0, .int .i64 0], .int .i64 k])) w' := by
  subst hz
  unfold metaT
  rw [if_pos hk]
  exact ⟨none, 0, none, 0, 0, none, 0, 0, rfl, Own.nil _ _ _, Own.nil _ _ _, Own.nil _ _ _, hb⟩
/-- The error's end. -/
theorem by_fin {w wk : World} {g : Nat} {es : List En} {z : List UInt8 × Int} {k : Int} {us : Array Value} (hz : z = ([], k)) (hk : k ≠ 0) (zk : Cl wk g us 31) (hus : us.size = 4) (hg : w.heap.size ≤ g) (hb : Below w.heap.size w wk) :
    ∀ X, X = ((((wk.setCell ⟨g, 0, none⟩ (.slice none 0 0)).setCell ⟨g, 1, none⟩ (.slice none 0 0)).setCell ⟨g, 2, none⟩ (.int .i64 0)).setCell ⟨g, 3, none⟩ (.int .i64 0)) → Cl X g #[.slice none 0 0, .slice none 0 0, .int .i64 0, .int .i64 0] 31 ∧ RetBy w z (metaT es z) (.returned (.tuple #[.slice none 0 0, .agg #[.slice none 0 0, .slice none 0 0, .int .i64 0, .int .i64 0], .int .i64 k])) X := fun X hX => by
  rw [hX]
  exact ⟨zk.put4 hus _ _ _ _, RetBy.no hz hk (below_put4 hb hg _ _ _ _)⟩

set_option maxRecDepth 100000 in
set_option maxHeartbeats 16000000 in
theorem bytes_any {w : World} {A : Option Addr} {n c : Nat} {es : List En} (size : Int) (h : REs w A n es) (hn : n ≤ 200) (hc : n ≤ c) (ht : totE es ≤ 1099511627776) :
    Calls Tryz.prog 54 #[.int .i64 size, .slice A n c] w (RetBy w (bytesT size es) (metaT es (bytesT size es))) := by
  obtain ⟨W, hW⟩ : ∃ W, W = w.alloc (.cells #[.slice none 0 0, .slice none 0 0, .int .i64 0, .int .i64 0] 31) := ⟨_, rfl⟩
  obtain ⟨g, hg⟩ : ∃ g, g = w.heap.size := ⟨_, rfl⟩
  have bW : Below w.heap.size w W := by rw [hW]; exact (Below.refl _ _).alloc (Nat.le_refl _) _
  have zW : Cl W g #[.slice none 0 0, .slice none 0 0, .int .i64 0, .int .i64 0] 31 := by rw [hW, hg]; exact Cl.new _ _ _
  have ZLC : Hid (∀ wx, Below W.heap.size W wx → Cl wx g #[.slice none 0 0, .slice none 0 0, .int .i64 0, .int .i64 0] 31) := Lib.hid (fun wx hb => zW.below hb)
  have HGW := Lib.hid (show w.heap.size ≤ g by omega)
  have BW := Lib.hid bW
  have HW := Lib.hid hW
  have HG := Lib.hid hg
  have HR := Lib.hid h
  have HL := Lib.hid h.len
  have HT := Lib.hid ht
  have sW : g < W.heap.size := zW.lt
  obtain ⟨z, hz⟩ : ∃ z, z = bytesT size es := ⟨_, rfl⟩
  rw [← hz]
  have HZ := Lib.hid hz
  have HCK : Hid (Calls Tryz.prog 113 #[.slice A n c] W (RetNu W (checkE es))) := Lib.hid (memCheck_any (h.below bW) (by omega))
  clear h ht hW hg bW zW hz
  go_enter Tryz.func54, Tryz.ntmps54
  go_upto_region 1 with (fail)
  rw [← HW.out, ← HG.out]
  by_cases hs1 : size < 1
  · have HF := Lib.hid (by_fin (es := es) (z := z) (k := 1) (by rw [HZ.out]; unfold bytesT; rw [if_pos hs1]) (by decide) (ZLC.out W (Below.refl _ _)) rfl HGW.out BW.out)
    obtain ⟨y0, y1, y2, y3, f0, f1, f2, f3⟩ := (ZLC.out W (Below.refl _ _)).c4
    go_wp2_with fail
    obtain ⟨X, hX⟩ : ∃ X, X = ((((W.setCell ⟨g, 0, none⟩ (.slice none 0 0)).setCell ⟨g, 1, none⟩ (.slice none 0 0)).setCell ⟨g, 2, none⟩ (.int .i64 0)).setCell ⟨g, 3, none⟩ (.int .i64 0)) := ⟨_, rfl⟩
    obtain ⟨zX, hret⟩ := HF.out X hX
    rw [← hX]
    obtain ⟨x0, x1, x2, x3, _⟩ := zX.c4
    refine bodyPost_ret (v := .tuple #[.slice none 0 0, .agg #[.slice none 0 0, .slice none 0 0, .int .i64 0, .int .i64 0], .int .i64 1]) (by simp [results, Tryz.results54, go_sem, x0, x1, x2, x3]; try rfl) rfl hret
  · go_wp2_with fail
    with_reducible refine HCK.out.mono ?_
    rintro e w1 ⟨rfl, b1⟩
    have B1 := Lib.hid b1
    have BW1 := Lib.hid (BW.out.trans (b1.mono BW.out.size))
    clear b1 HCK
    obtain ⟨ck, hck⟩ : ∃ ck, ck = checkE es := ⟨_, rfl⟩
    have HCKE := Lib.hid hck
    rw [← hck]
    by_cases hc0 : ck = 0
    · have HR1 := Lib.hid (HR.out.below BW1.out)
      subst hc0
      by_cases hn0 : n = 0
      · have hZ3 : z = ([], 3) := by
          rw [HZ.out]
          unfold bytesT
          rw [if_neg (by omega), ← HCKE.out, if_neg (by simp), if_pos (.inl (by rw [HL.out]; exact hn0))]
        have HZ3 := Lib.hid hZ3
        clear hZ3 hck
        subst hn0
        have HF := Lib.hid (by_fin (es := es) (z := z) (k := 3) (HZ3.out) (by decide) (ZLC.out w1 B1.out) rfl HGW.out BW1.out)
        obtain ⟨y0, y1, y2, y3, f0, f1, f2, f3⟩ := (ZLC.out w1 B1.out).c4
        go_wp2_with fail
        obtain ⟨X, hX⟩ : ∃ X, X = ((((w1.setCell ⟨g, 0, none⟩ (.slice none 0 0)).setCell ⟨g, 1, none⟩ (.slice none 0 0)).setCell ⟨g, 2, none⟩ (.int .i64 0)).setCell ⟨g, 3, none⟩ (.int .i64 0)) := ⟨_, rfl⟩
        obtain ⟨zX, hret⟩ := HF.out X hX
        rw [← hX]
        obtain ⟨x0, x1, x2, x3, _⟩ := zX.c4
        refine bodyPost_ret (v := .tuple #[.slice none 0 0, .agg #[.slice none 0 0, .slice none 0 0, .int .i64 0, .int .i64 0], .int .i64 3]) (by simp [results, Tryz.results54, go_sem, x0, x1, x2, x3]; try rfl) rfl hret
      · have HIO := Lib.hid (tbInOrder_any (c := c) HR1.out (by omega))
        obtain ⟨oe, hoe⟩ : ∃ oe, oe = ordE es := ⟨_, rfl⟩
        rw [← hoe] at HIO
        have HOE := Lib.hid hoe
        clear hck hoe
        cases oe with
        | false =>
          have HZ3 : Hid (z = ([], 3)) := Lib.hid (by
            rw [HZ.out]
            unfold bytesT
            rw [if_neg (by omega), ← HCKE.out, if_neg (by simp), if_pos (.inr HOE.out.symm)])
          go_wp2_with fail
          with_reducible refine HIO.out.mono ?_
          intro e w2 hq
          obtain ⟨h1, b2⟩ := RetT.outD hq
          subst h1
          have B2 := Lib.hid (belowT' B1.out b2)
          have BW2 := Lib.hid (BW1.out.trans (b2.mono BW1.out.size))
          clear hq b2
          have HF := Lib.hid (by_fin (es := es) (z := z) (k := 3) (HZ3.out) (by decide) (ZLC.out w2 B2.out) rfl HGW.out BW2.out)
          obtain ⟨y0, y1, y2, y3, f0, f1, f2, f3⟩ := (ZLC.out w2 B2.out).c4
          go_wp2_with fail
          obtain ⟨X, hX⟩ : ∃ X, X = ((((w2.setCell ⟨g, 0, none⟩ (.slice none 0 0)).setCell ⟨g, 1, none⟩ (.slice none 0 0)).setCell ⟨g, 2, none⟩ (.int .i64 0)).setCell ⟨g, 3, none⟩ (.int .i64 0)) := ⟨_, rfl⟩
          obtain ⟨zX, hret⟩ := HF.out X hX
          rw [← hX]
          obtain ⟨x0, x1, x2, x3, _⟩ := zX.c4
          refine bodyPost_ret (v := .tuple #[.slice none 0 0, .agg #[.slice none 0 0, .slice none 0 0, .int .i64 0, .int .i64 0], .int .i64 3]) (by simp [results, Tryz.results54, go_sem, x0, x1, x2, x3]; try rfl) rfl hret
        | true =>
          go_wp2_with fail
          with_reducible refine HIO.out.mono ?_
          intro e w2 hq
          obtain ⟨h1, b2⟩ := RetT.outD hq
          subst h1
          have B2 := Lib.hid (belowT' B1.out b2)
          have BW2 := Lib.hid (BW1.out.trans (b2.mono BW1.out.size))
          clear hq b2
          have HCT := Lib.hid (tbCut_any (c := c) size (HR.out.below BW2.out) (by omega) hc HT.out)
          go_wp2_with fail
          with_reducible refine HCT.out.mono ?_
          intro e w3 hq
          obtain ⟨L, k, d, h1, r3, hkd, b3⟩ := RetLs.out hq
          subst h1
          have B3 := Lib.hid (belowT' B2.out b3)
          have BW3 := Lib.hid (BW2.out.trans (b3.mono BW2.out.size))
          have hk200 : k ≤ 200 := by
            have h1 := grpE_len size es
            rw [r3.1] at h1
            have := HL.out
            omega
          have hkeys := grpE_keys size es
          have HZS : Hid (z = sealT (grpE size es)) := Lib.hid (by
            rw [HZ.out]
            unfold bytesT
            rw [if_neg (by omega), ← HCKE.out, if_neg (by simp), if_neg (by rw [HL.out, ← HOE.out]; simp; exact hn0)])
          have HSL : Hid (Calls Tryz.prog 67 #[.slice L k d] w3 (RetBb w3 z)) := Lib.hid (by
            rw [HZS.out]
            refine seal_any r3 (by omega) ?_ ?_ ?_
            · rw [hkeys, List.length_map, HL.out]; omega
            · rw [hkeys, List.length_map, HL.out]; omega
            · rw [hkeys]
              intro x hx
              obtain ⟨y, hy, rfl⟩ := List.mem_map.1 hx
              have h1 := totE_mem hy
              have h2 := HT.out
              unfold wE at h1
              unfold maxLen
              omega)
          obtain ⟨zl, hzl⟩ : ∃ zl, zl = z.1.length := ⟨_, rfl⟩
          obtain ⟨zk, hzk⟩ : ∃ zk, zk = z.2 := ⟨_, rfl⟩
          have HZL := Lib.hid hzl
          have HZK := Lib.hid hzk
          clear hq r3 b3 hkeys hzl hzk
          go_wp2_with fail
          with_reducible refine HSL.out.mono ?_
          intro e w4 hq
          obtain ⟨F, fc, h1, o4, b4⟩ := hq
          rw [← HZL.out, ← HZK.out] at h1
          subst h1
          have B4 := Lib.hid (belowT' B3.out b4)
          have BW4 := Lib.hid (BW3.out.trans (b4.mono BW3.out.size))
          have O4 := Lib.hid (o4.mono B3.out.size)
          clear o4 b4
          by_cases hk0 : zk = 0
          · subst hk0
            have hle := HL.out
            obtain ⟨x, hx⟩ : ∃ x, es[0]? = some x := ⟨_, List.getElem?_eq_getElem (by omega)⟩
            obtain ⟨y, hy⟩ : ∃ y, es[n - 1]? = some y := ⟨_, List.getElem?_eq_getElem (by omega)⟩
            have hsx : ∀ u ∈ es, u.key.length ≤ 140737488355328 := fun u hu => by
              have h1 := totE_mem hu
              have h2 := HT.out
              unfold wE at h1
              omega
            have HAB := Lib.hid (about_any (F := F) (fn := zl) (fc := fc) (c := c) (HR.out.below BW4.out) (by omega) (by omega) hx hy (hsx x (List.mem_of_getElem? hx)) (hsx y (List.mem_of_getElem? hy)))
            have HMT : Hid (metaT es z = (x.key, y.key, n, zl)) := Lib.hid (by
              unfold metaT
              rw [if_neg (by rw [← HZK.out]; simp), hx, hle, hy, ← HZL.out]
              rfl)
            clear hle hx hy hsx
            go_wp2_with fail
            with_reducible refine HAB.out.mono ?_
            intro e w5 hq
            obtain ⟨K, kn, kc, L5, ln, lc, h1, o5, o6, b5⟩ := hq
            subst h1
            have B5 := Lib.hid (belowT' B4.out b5)
            have HFIN : Hid (∀ X, X = ((((w5.setCell ⟨g, 0, none⟩ (.slice K kn kc)).setCell ⟨g, 1, none⟩ (.slice L5 ln lc)).setCell ⟨g, 2, none⟩ (.int .i64 (n : Int))).setCell ⟨g, 3, none⟩ (.int .i64 (zl : Int))) → Cl X g #[.slice K kn kc, .slice L5 ln lc, .int .i64 (n : Int), .int .i64 (zl : Int)] 31 ∧ RetBy w z (metaT es z) (.returned (.tuple #[.slice F zl fc, .agg #[.slice K kn kc, .slice L5 ln lc, .int .i64 (n : Int), .int .i64 (zl : Int)], .int .i64 0])) X) := Lib.hid (fun X hX => by
              have hs4 := B4.out.size
              have hsw := BW.out.size
              rw [hX, HMT.out]
              refine ⟨(ZLC.out _ B5.out).put4 rfl _ _ _ _, F, fc, K, kn, kc, L5, ln, lc, ?_, ?_, ?_, ?_, ?_⟩
              · rw [← HZL.out, ← HZK.out]
              · exact (own_put4 (O4.out.below b5) sW _ _ _ _).mono hsw
              · exact (own_put4 (o5.mono hs4) sW _ _ _ _).mono hsw
              · exact (own_put4 (o6.mono hs4) sW _ _ _ _).mono hsw
              · exact below_put4 (BW.out.trans (B5.out.mono hsw)) HGW.out _ _ _ _)
            obtain ⟨y0, y1, y2, y3, f0, f1, f2, f3⟩ := (ZLC.out w5 B5.out).c4
            clear o5 o6 b5
            go_wp2_with fail
            obtain ⟨X, hX⟩ : ∃ X, X = ((((w5.setCell ⟨g, 0, none⟩ (.slice K kn kc)).setCell ⟨g, 1, none⟩ (.slice L5 ln lc)).setCell ⟨g, 2, none⟩ (.int .i64 (n : Int))).setCell ⟨g, 3, none⟩ (.int .i64 (zl : Int))) := ⟨_, rfl⟩
            obtain ⟨zX, hret⟩ := HFIN.out X hX
            rw [← hX]
            obtain ⟨x0, x1, x2, x3, _⟩ := zX.c4
            refine bodyPost_ret (v := .tuple #[.slice F zl fc, .agg #[.slice K kn kc, .slice L5 ln lc, .int .i64 (n : Int), .int .i64 (zl : Int)], .int .i64 0]) (by simp [results, Tryz.results54, go_sem, x0, x1, x2, x3]; try rfl) rfl hret
          · have HZ4 : Hid (z = ([], zk)) := Lib.hid (by
              have h1 := HZK.out
              rw [HZS.out] at h1
              have h2 : (sealT (grpE size es)).1 = [] := by
                unfold sealT at h1 ⊢
                split
                · rfl
                · next h3 =>
                  rw [if_neg h3] at h1
                  unfold sealG at h1 ⊢
                  split
                  · rfl
                  · next h4 => rw [if_neg h4] at h1; exact absurd h1 hk0
              rw [HZS.out, h1, ← h2])
            have HF := Lib.hid (by_fin (es := es) (z := z) (k := zk) (HZ4.out) (hk0) (ZLC.out w4 B4.out) rfl HGW.out BW4.out)
            obtain ⟨y0, y1, y2, y3, f0, f1, f2, f3⟩ := (ZLC.out w4 B4.out).c4
            go_wp2_with fail
            obtain ⟨X, hX⟩ : ∃ X, X = ((((w4.setCell ⟨g, 0, none⟩ (.slice none 0 0)).setCell ⟨g, 1, none⟩ (.slice none 0 0)).setCell ⟨g, 2, none⟩ (.int .i64 0)).setCell ⟨g, 3, none⟩ (.int .i64 0)) := ⟨_, rfl⟩
            obtain ⟨zX, hret⟩ := HF.out X hX
            rw [← hX]
            obtain ⟨x0, x1, x2, x3, _⟩ := zX.c4
            refine bodyPost_ret (v := .tuple #[.slice none 0 0, .agg #[.slice none 0 0, .slice none 0 0, .int .i64 0, .int .i64 0], .int .i64 zk]) (by simp [results, Tryz.results54, go_sem, x0, x1, x2, x3]; try rfl) rfl hret
    · have HZC : Hid (z = ([], ck)) := Lib.hid (by
        rw [HZ.out]
        unfold bytesT
        rw [if_neg (by omega), ← HCKE.out, if_pos hc0])
      clear hck
      have HF := Lib.hid (by_fin (es := es) (z := z) (k := ck) (HZC.out) (hc0) (ZLC.out w1 B1.out) rfl HGW.out BW1.out)
      obtain ⟨y0, y1, y2, y3, f0, f1, f2, f3⟩ := (ZLC.out w1 B1.out).c4
      go_wp2_with fail
      obtain ⟨X, hX⟩ : ∃ X, X = ((((w1.setCell ⟨g, 0, none⟩ (.slice none 0 0)).setCell ⟨g, 1, none⟩ (.slice none 0 0)).setCell ⟨g, 2, none⟩ (.int .i64 0)).setCell ⟨g, 3, none⟩ (.int .i64 0)) := ⟨_, rfl⟩
      obtain ⟨zX, hret⟩ := HF.out X hX
      rw [← hX]
      obtain ⟨x0, x1, x2, x3, _⟩ := zX.c4
      refine bodyPost_ret (v := .tuple #[.slice none 0 0, .agg #[.slice none 0 0, .slice none 0 0, .int .i64 0, .int .i64 0], .int .i64 ck]) (by simp [results, Tryz.results54, go_sem, x0, x1, x2, x3]; try rfl) rfl hret
end Go.Proofs.YtbgelbdnkbhffaaGreat
namespace Go.Proofs.YtbgelbdnkbhffaaGreat
open Go Go.RowKit

/-- The keys found so far. -/
def KyS (w0 : World) (kss : List (List UInt8)) (G : Option Addr) (m d : Nat) (wr : World) : Prop :=
  ∃ kvs, OwnV 29 wr w0.heap.size G m d kvs ∧ KyO w0 kss kvs ∧ Below w0.heap.size w0 wr
theorem KyS.bel {w0 wr : World} {kss : List (List UInt8)} {G : Option Addr} {m d : Nat} (h : KyS w0 kss G m d wr) : Below w0.heap.size w0 wr := by
  obtain ⟨_, _, _, h⟩ := h
  exact h
theorem KyS.below {w0 wr wx : World} {kss : List (List UInt8)} {G : Option Addr} {m d : Nat} (h : KyS w0 kss G m d wr) (hb : Below wr.heap.size wr wx) : KyS w0 kss G m d wx := by
  obtain ⟨kvs, h1, h2, h3⟩ := h
  exact ⟨kvs, h1.below hb, h2, h3.trans (hb.mono h3.size)⟩
theorem KyS.rdl {w0 wr : World} {kss : List (List UInt8)} {G : Option Addr} {m d : Nat} (h : KyS w0 kss G m d wr) : RdL wr G m kss := by
  obtain ⟨kvs, h1, h2, h3⟩ := h
  exact h1.rd.rdl (by rw [← h2.1, h1.len]) (fun i v x hv hx => (h2.2 i v x hv hx).below h3)
theorem KyS.len {w0 wr : World} {kss : List (List UInt8)} {G : Option Addr} {m d : Nat} (h : KyS w0 kss G m d wr) : kss.length = m := by
  obtain ⟨kvs, h1, h2, h3⟩ := h
  rw [← h2.1, h1.len]
theorem mapkey_at {es : List En} {k : Nat} {x : En} (h : es[k]? = some x) : (es.map (·.key))[k]? = some x.key := by rw [List.getElem?_map, h]; rfl

set_option maxRecDepth 100000 in
set_option maxHeartbeats 16000000 in
theorem refFilter_any {w : World} {A : Option Addr} {n c : Nat} {es : List En} (h : REs w A n es) (hn : n ≤ 20000) (hs : ∀ x ∈ es, x.key.length ≤ maxLen) :
    Calls Tryz.prog 60 #[.slice A n c] w (RetUn w (filterB 10 (compB (es.map (·.key))))) := by
  have HL := Lib.hid h.len
  have HR := Lib.hid h
  have HSZ := Lib.hid hs
  clear h hs
  go_enter Tryz.func60, Tryz.ntmps60
  go_wp2_with fail
  go_loopw [4, 5] (fun s4 s5 wr => ∃ (k m d : Nat) (G : Option Addr), k ≤ n ∧ m ≤ k ∧ s5 = .int .i64 (k : Int) ∧ s4 = .slice G m d ∧ KyS w (compN (es.map (·.key)) k) G m d wr) (fun _ s _ => n - (intOf s).toNat)
  case atStart => exact ⟨0, 0, 0, none, Nat.zero_le _, Nat.le_refl _, rfl, rfl, [], OwnV.nil _ _ _, ⟨rfl, fun i v x h => by simp at h⟩, Below.refl _ _⟩
  case round =>
    obtain ⟨k, m, d, G, hk, hmk, rfl, rfl, hS⟩ := hrel
    have HS := Lib.hid hS
    have HB := Lib.hid hS.bel
    clear hS
    by_cases hlt : k < n
    · obtain ⟨b, off, hAb, hbl⟩ := HR.out.pos (by omega)
      subst hAb
      obtain ⟨x, v0, v1, v2, v3, hx, c0, c1, c2, c3, hev⟩ := HR.out.at_ k hlt
      obtain ⟨K, kn, kc, V, vn, vc, rfl, rfl, rfl, rfl, r0, _, hkc, _, hkni, _⟩ := hev.parts
      have HEL : Hid (ElB w (.slice K kn kc) x.key) := Lib.hid ⟨K, kn, kc, rfl, r0, hkc, hkni⟩
      have hB := HB.out
      have d0 := (hB.cell (p := ⟨b, off + k * 4, none⟩) hbl).trans c0
      by_cases hk0 : k = 0
      · have HNEW : Hid (compN (es.map (·.key)) (k + 1) = compN (es.map (·.key)) k ++ [x.key]) := Lib.hid (compN_new (mapkey_at hx) (.inl hk0))
        have t1 : ((k : Int) == 0) = true := by rw [beq_iff_eq]; omega
        have t2 : (k : Int) = 0 := by omega
        have HK0 := Lib.hid hk0
        clear hx c0 c1 c2 c3 hev r0 hB hk0
        go_wp2_with fail
        go_quiet (fail)
        obtain ⟨wq, hwq⟩ : ∃ wq, wq = wr.drewN nq := ⟨_, rfl⟩
        rw [← hwq]
        have bq : Below wr.heap.size wr wq := by rw [hwq]; exact below_drewN (Below.refl _ _) nq
        obtain ⟨kvs, q1, q2, q3⟩ := HS.out
        obtain ⟨W1, hW1⟩ : ∃ W1, W1 = wq.alloc (.cells #[.slice K kn kc] 29) := ⟨_, rfl⟩
        have bW1 : Below wr.heap.size wr W1 := belowT bq (by rw [hW1]; exact (Below.refl _ _).alloc (Nat.le_refl _) _)
        have Q1 := Lib.hid (q1.below bW1)
        have Q2 := Lib.hid q2
        have Q3 := Lib.hid (q3.trans (bW1.mono q3.size))
        have HRD : Hid (RdV W1 (some ⟨wq.heap.size, 0, none⟩) 1 [.slice K kn kc]) := Lib.hid (by rw [hW1]; exact OwnV.rd (ownV_box2 wq 29 wq.heap.size [.slice K kn kc] 1 rfl (by omega) (Nat.le_refl _) _ rfl))
        have hone : ∀ u ∈ [Value.slice K kn kc], u.oneCell' = true := by intro u hu; rw [List.mem_singleton] at hu; rw [hu]; rfl
        have HON := Lib.hid hone
        have hcq := (bq.cell (p := ⟨b, off + k * 4, none⟩) (by have := HB.out.size; exact Nat.lt_of_lt_of_le hbl this)).trans d0
        have hcq2 : wq.cell? ⟨b, off, none⟩ = some (.slice K kn kc) := by
          rw [HK0.out, show off + 0 * 4 = off by omega] at hcq
          exact hcq
        have HW1 := Lib.hid hW1
        obtain ⟨u1, hu1⟩ : ∃ u1, u1 = wq.heap.size := ⟨_, rfl⟩
        rw [← hu1] at HRD
        have HU1 := Lib.hid hu1
        clear q1 q2 q3 hone hW1 bW1 hu1 hwq bq
        go_wp2_with (at_builtin; rw [← HW1.out, ← HU1.out]; refine wpList_appV W1 rfl _ _ 99 rfl w.heap.size 29 (.slice none 0 0) 24 Tryz.underlying99 info_sl rfl G m d kvs rfl Q1.out (some ⟨u1, 0, none⟩) 1 1 [.slice K kn kc] rfl HRD.out HON.out ?_ ?_ ?_ ?_)
        · unfold maxLen; omega
        · omega
        · exact Q3.out.size
        intro G' d' w3 o3 hg3 _
        have HS3 : Hid (KyS w (compN (es.map (·.key)) (k + 1)) G' (m + 1) d' w3) := Lib.hid (by
          rw [HNEW.out]
          exact ⟨_, o3, Q2.out.snoc HEL.out, Q3.out.grown hg3 Q3.out.size (fun k hk => (Q1.out.lt k hk).1)⟩)
        clear o3 hg3
        go_wp2_with fail
        go_roundw
        case rel => exact ⟨k + 1, m + 1, d', G', by omega, by omega, by first | go_num | (rw [HK0.out]; rfl), rfl, HS3.out⟩
        case measure => simp [intOf]; omega
      · obtain ⟨j, hk1⟩ : ∃ j, k = j + 1 := ⟨k - 1, by omega⟩
        obtain ⟨y, u0, u1, u2, u3, hy, e0, e1, e2, e3, hew⟩ := HR.out.at_ j (by omega)
        obtain ⟨L, ln, lc, M, mn, mc, rfl, rfl, rfl, rfl, q0, _⟩ := hew.parts
        have d1 := (hB.cell (p := ⟨b, off + j * 4, none⟩) hbl).trans e0
        obtain ⟨z, hz⟩ : ∃ z, z = eqB x.key y.key := ⟨_, rfl⟩
        have hsx := HSZ.out x (List.mem_of_getElem? hx)
        have hsy := HSZ.out y (List.mem_of_getElem? hy)
        have HE : Hid (∀ q, Calls Tryz.prog 16 #[.slice K kn kc, .slice L ln lc] (wr.drewN q) (RetB (wr.drewN q) z)) := Lib.hid (fun q => by rw [hz]; exact Equal_any K L kn ln kc lc x.key y.key _ ((r0.below hB).drewN q) ((q0.below hB).drewN q) (by rw [← r0.len]; exact hsx) (by rw [← q0.len]; exact hsy))
        have hkj : IntKind.i64.wrap ((k : Int) - 1) = (j : Int) := by rw [IntWalk.i64_in _ (by omega)]; omega
        have t1 : ((k : Int) == 0) = false := by rw [beq_eq_false_iff_ne]; omega
        have t2 : ¬ (k : Int) = 0 := by omega
        have hjn : j < n := by omega
        have HX := Lib.hid hx
        have HY := Lib.hid hy
        have HZ := Lib.hid hz
        have HK := Lib.hid hk1
        clear hx hy c0 c1 c2 c3 hev r0 e0 e1 e2 e3 hew q0 hz hsx hsy hk1 hk0
        cases z with
        | true =>
          have HOLD : Hid (compN (es.map (·.key)) (k + 1) = compN (es.map (·.key)) k) := Lib.hid (compN_old (mapkey_at HX.out) (by have := HK.out; omega) (by rw [show k - 1 = j by have := HK.out; omega]; exact mapkey_at HY.out) HZ.out.symm)
          clear hB
          go_wp2_with fail
          go_quiet ((go_at_call 16; with_reducible exact Calls.quiet_of (HE.out _)))
          have HS2 : Hid (KyS w (compN (es.map (·.key)) (k + 1)) G m d (wr.drewN nq)) := Lib.hid (by rw [HOLD.out]; exact HS.out.below (below_drewN (Below.refl _ _) nq))
          go_wp2_with fail
          go_roundw
          case rel => exact ⟨k + 1, m, d, G, by omega, by omega, by go_num, rfl, HS2.out⟩
          case measure => simp [intOf]; omega
        | false =>
          have HNEW : Hid (compN (es.map (·.key)) (k + 1) = compN (es.map (·.key)) k ++ [x.key]) := Lib.hid (compN_new (mapkey_at HX.out) (.inr ⟨y.key, by rw [show k - 1 = j by have := HK.out; omega]; exact mapkey_at HY.out, HZ.out.symm⟩))
          clear hB
          go_wp2_with fail
          go_quiet ((go_at_call 16; with_reducible exact Calls.quiet_of (HE.out _)))
          obtain ⟨wq, hwq⟩ : ∃ wq, wq = wr.drewN nq := ⟨_, rfl⟩
          rw [← hwq]
          have bq : Below wr.heap.size wr wq := by rw [hwq]; exact below_drewN (Below.refl _ _) nq
          obtain ⟨kvs, q1, q2, q3⟩ := HS.out
          obtain ⟨W1, hW1⟩ : ∃ W1, W1 = wq.alloc (.cells #[.slice K kn kc] 29) := ⟨_, rfl⟩
          have bW1 : Below wr.heap.size wr W1 := belowT bq (by rw [hW1]; exact (Below.refl _ _).alloc (Nat.le_refl _) _)
          have Q1 := Lib.hid (q1.below bW1)
          have Q2 := Lib.hid q2
          have Q3 := Lib.hid (q3.trans (bW1.mono q3.size))
          have HRD : Hid (RdV W1 (some ⟨wq.heap.size, 0, none⟩) 1 [.slice K kn kc]) := Lib.hid (by rw [hW1]; exact OwnV.rd (ownV_box2 wq 29 wq.heap.size [.slice K kn kc] 1 rfl (by omega) (Nat.le_refl _) _ rfl))
          have hone : ∀ u ∈ [Value.slice K kn kc], u.oneCell' = true := by intro u hu; rw [List.mem_singleton] at hu; rw [hu]; rfl
          have HON := Lib.hid hone
          have hcq := (bq.cell (p := ⟨b, off + k * 4, none⟩) (by have := HB.out.size; exact Nat.lt_of_lt_of_le hbl this)).trans d0
          have HW1 := Lib.hid hW1
          obtain ⟨u1, hu1⟩ : ∃ u1, u1 = wq.heap.size := ⟨_, rfl⟩
          rw [← hu1] at HRD
          have HU1 := Lib.hid hu1
          clear q1 q2 q3 hone hW1 bW1 hu1 hwq bq
          go_wp2_with (at_builtin; rw [← HW1.out, ← HU1.out]; refine wpList_appV W1 rfl _ _ 99 rfl w.heap.size 29 (.slice none 0 0) 24 Tryz.underlying99 info_sl rfl G m d kvs rfl Q1.out (some ⟨u1, 0, none⟩) 1 1 [.slice K kn kc] rfl HRD.out HON.out ?_ ?_ ?_ ?_)
          · unfold maxLen; omega
          · omega
          · exact Q3.out.size
          intro G' d' w3 o3 hg3 _
          have HS3 : Hid (KyS w (compN (es.map (·.key)) (k + 1)) G' (m + 1) d' w3) := Lib.hid (by
            rw [HNEW.out]
            exact ⟨_, o3, Q2.out.snoc HEL.out, Q3.out.grown hg3 Q3.out.size (fun k hk => (Q1.out.lt k hk).1)⟩)
          clear o3 hg3
          go_wp2_with fail
          go_roundw
          case rel => exact ⟨k + 1, m + 1, d', G', by omega, by omega, by go_num, rfl, HS3.out⟩
          case measure => simp [intOf]; omega
    · have hkn : k = n := by omega
      have hC : compN (es.map (·.key)) k = compB (es.map (·.key)) := by
        unfold compB
        rw [hkn, List.length_map, HL.out]
      have hS := HS.out
      rw [hC] at hS
      have HBD : Hid (Calls Tryz.prog 128 #[.int .i64 10, .slice G m d] wr (RetUn wr (filterB 10 (compB (es.map (·.key)))))) := Lib.hid (refBuild_gen G m d 10 wr (by omega) (by omega) (by omega) (by omega) _ hS.rdl (fun x hx => by
        obtain ⟨y, hy, rfl⟩ := List.mem_map.1 (compN_mem _ x hx)
        exact HSZ.out y hy))
      obtain ⟨fs, hfs⟩ : ∃ fs, fs = filterB 10 (compB (es.map (·.key))) := ⟨_, rfl⟩
      rw [← hfs] at HBD
      have HFS := Lib.hid hfs
      obtain ⟨fn, hfn⟩ : ∃ fn, fn = fs.length := ⟨_, rfl⟩
      have HFN := Lib.hid hfn
      clear hkn hC hS hfs hfn
      go_wp2_with fail
      with_reducible refine HBD.out.mono ?_
      intro e w1 hq
      obtain ⟨A1, c1, h1, o1, b1⟩ := hq
      have HF : Hid (RetUn w (filterB 10 (compB (es.map (·.key)))) (.returned (.tuple #[.slice A1 fn c1, .int .i64 0])) w1) := Lib.hid (by rw [← HFS.out]; exact ⟨A1, c1, by rw [HFN.out], o1.mono HB.out.size, HB.out.trans (b1.mono HB.out.size)⟩)
      rw [← HFN.out] at h1
      subst h1
      clear o1 b1
      go_wp2_with fail
      exact bodyPost_ret (v := .tuple #[.slice A1 fn c1, .int .i64 0]) (by simp [results, Tryz.f60, go_sem]; try rfl) rfl HF.out
end Go.Proofs.YtbgelbdnkbhffaaGreat
namespace Go.Proofs.YtbgelbdnkbhffaaGreat
open Go Go.RowKit

theorem flatE_snoc {ls : List (List En)} {k : Nat} {es : List En} (h : ls[k]? = some es) : (ls.take (k + 1)).flatten = (ls.take k).flatten ++ es := by
  rw [List.take_add_one, h]
  simp
theorem flatE_le (ls : List (List En)) (k : Nat) : (ls.take k).flatten.length ≤ ls.flatten.length := by
  conv => rhs; rw [← List.take_append_drop k ls]
  rw [List.flatten_append, List.length_append]
  omega
/-- Entries that can be read. -/
def RetEl (w : World) (es : List En) (e : Ending) (w' : World) : Prop := ∃ L m d, e = .returned (.slice L m d) ∧ REs w' L m es ∧ m ≤ d ∧ Below w.heap.size w w'
/-- Entries put behind one another so far. -/
def NwS (w0 : World) (L : Option Addr) (m d : Nat) (es : List En) (wr : World) : Prop :=
  ∃ vs, OwnE wr w0.heap.size L m d vs ∧ EVs w0 es vs ∧ es.length = m ∧ Below w0.heap.size w0 wr

set_option maxRecDepth 100000 in
set_option maxHeartbeats 4000000 in
theorem growNilE_any (n : Nat) (w : World) (hn : n ≤ 1099511627776) : Calls Tryz.prog 136 #[.slice none 0 0, .int .i64 (n : Int)] w fun e w' => ∃ A c, e = .returned (.slice A 0 c) ∧ OwnE w' w.heap.size A 0 c [] ∧ Below w.heap.size w w' := by
  obtain ⟨i0, hi0, z1, z2, z3⟩ := info_parts info_ent
  by_cases h0 : n = 0
  · subst h0
    go_enter Tryz.func136, Tryz.ntmps136
    go_wp2_with fail
    go_ret
    exact ⟨none, 0, rfl, OwnE.nil _ _, Below.refl _ _⟩
  · have hpos : 0 < n := by omega
    have hpi : ¬ ((n : Int) ≤ 0) := by omega
    have hpi2 : (0 : Int) < (n : Int) := by omega
    have hap := Lib.run_append_nil_zeros (P := Tryz.prog) w 22 3 22 49 i0 _ .i64 .i64 Tryz.underlying22 Tryz.underlying3 hi0 z1 n hpos (by rw [z2]; omega) (by omega) (by rw [z3]; omega)
    have hcap := grownCap_ge w n 0 49
    have hcm := grownCap_le_maxLen w n 0 49 (by unfold maxLen; omega)
    obtain ⟨cap, hcp⟩ : ∃ cap, cap = grownCap w n 0 49 := ⟨_, rfl⟩
    rw [← hcp] at hap hcap hcm
    obtain ⟨cells, hce⟩ : ∃ cells, cells = Builtin.zeroCells (Value.agg #[.slice none 0 0, .int .u64 0, .int .u8 0, .slice none 0 0]).cells n ++ Builtin.zeroCells (Value.agg #[.slice none 0 0, .int .u64 0, .int .u8 0, .slice none 0 0]).cells (cap - n) := ⟨_, rfl⟩
    rw [← hce] at hap
    have hcs : cells.size = cap * 4 := by
      rw [hce]
      simp [Builtin.zeroCells, Value.cells]
      omega
    have HAP := Lib.hid hap
    have HCS := Lib.hid hcs
    have hsl : ∀ w, (Instr.slice 22 (.slice (some ⟨w.heap.size, 0, none⟩) n cap) none (some (.int .i64 0)) none).run Tryz.prog w = .ok (.slice (some ⟨w.heap.size, 0, none⟩) 0 cap) w := fun w =>
      cut4_h (m := 0) Tryz.underlying22 elem4 size4 (some ⟨w.heap.size, 0, none⟩) (by omega) w
    clear hap hcs hce hcp
    go_enter Tryz.func136, Tryz.ntmps136
    go_wp2_with (at_builtin; refine Lib.wpList_append_run _ rfl _ _ _ _ rfl _ _ rfl rfl _ _ HAP.out ?_)
    go_wp2_with fail
    go_ret
    refine ⟨_, cap, rfl, ⟨rfl, .inr ⟨w.heap.size, cap, cells, rfl, Nat.le_refl _, ?_, Nat.zero_le _, hcm, HCS.out, by simp⟩⟩, ?_⟩
    · have := heap_alloc_new w.drew (.cells cells 49)
      exact this
    · exact (Below.refl _ _).drew.alloc (Nat.le_refl _) _
set_option maxRecDepth 100000 in
set_option maxHeartbeats 8000000 in
theorem concatE_any {w : World} {A : Option Addr} {n c : Nat} {ls : List (List En)} (hx : RLs w A n ls) (hn : n ≤ 1099511627776) (ht : ls.flatten.length ≤ 1099511627776) :
    Calls Tryz.prog 65 #[.slice A n c] w (RetEl w ls.flatten) := by
  have HXL := Lib.hid hx.1
  have HX := Lib.hid hx
  have HFT : Hid (∀ k, (ls.take k).flatten.length ≤ 1099511627776) := Lib.hid (fun k => by have := flatE_le ls k; omega)
  clear ht hx
  go_enter Tryz.func65, Tryz.ntmps65
  go_wp2_with fail
  go_loopw [3, 11] (fun s3 s11 wr => ∃ (k z : Nat), k ≤ n ∧ s11 = .int .i64 (k : Int) ∧ z = (ls.take k).flatten.length ∧ s3 = .int .i64 (z : Int) ∧ wr = w) (fun _ s _ => n - (intOf s).toNat)
  case atStart => exact ⟨0, 0, Nat.zero_le _, rfl, rfl, rfl, rfl⟩
  case round =>
    obtain ⟨k, z, hk, rfl, hz, rfl, rfl⟩ := hrel
    have hz2 : z ≤ 1099511627776 := by rw [hz]; exact HFT.out k
    have HZ := Lib.hid hz
    clear hz
    by_cases hlt : k < n
    · obtain ⟨b, off, hA, hbl⟩ := HX.out.pos (by omega)
      subst hA
      obtain ⟨es, B1, m1, c1, hxs, hv, hre, hmc⟩ := HX.out.at_ k hlt
      obtain ⟨z2, hz2'⟩ : ∃ z2, z2 = z + m1 := ⟨_, rfl⟩
      have hzz : z2 = (ls.take (k + 1)).flatten.length := by rw [flatE_snoc hxs, List.length_append, ← HZ.out, hre.len, hz2']
      have hz3 : z2 ≤ 1099511627776 := by rw [hzz]; exact HFT.out (k + 1)
      have e1 : IntKind.i64.wrap ((z : Int) + (m1 : Int)) = (z2 : Int) := by rw [IntWalk.i64_in _ (by omega)]; omega
      have hneg : ¬ (z2 : Int) < 0 := by omega
      have HZZ := Lib.hid hzz
      have HZ2 := Lib.hid hz2'
      clear hxs hre hzz hz2'
      go_wp2_with fail
      go_roundw
      case rel => exact ⟨k + 1, z2, by omega, by go_num, HZZ.out, by first | rfl | go_num | (rw [e1]), by first | trivial | rfl⟩
      case measure => simp [intOf]; omega
    · obtain rfl : k = n := by omega
      obtain ⟨w0, rfl⟩ : ∃ w0, w0 = wr := ⟨_, rfl⟩
      have HG := Lib.hid (growNilE_any z w0 (by omega))
      go_wp2_with fail
      with_reducible refine HG.out.mono ?_
      rintro e w1 ⟨G, gc, rfl, oG, bG⟩
      have HOG := Lib.hid (And.intro oG bG)
      clear oG bG HG
      go_wp2_with fail
      go_loopw [6, 27] (fun s6 s27 wx => ∃ (j m d : Nat) (L : Option Addr), j ≤ k ∧ s27 = .int .i64 (j : Int) ∧ s6 = .slice L m d ∧ NwS w0 L m d (ls.take j).flatten wx) (fun _ s _ => k - (intOf s).toNat)
      case atStart => exact ⟨0, 0, gc, G, Nat.zero_le _, rfl, rfl, [], HOG.out.1, rfl, rfl, HOG.out.2⟩
      case round =>
        obtain ⟨j, m, d, L, hj, rfl, rfl, hS⟩ := hrel
        obtain ⟨vs, o1, ev1, l1, b1⟩ := hS
        have hm2 : m ≤ 1099511627776 := by have := HFT.out j; omega
        have hsz := b1.size
        by_cases hjk : j < k
        · obtain ⟨b, off, hA, hbl⟩ := HX.out.pos (by omega)
          subst hA
          obtain ⟨es, B1, m1, c1, hxs, hv, hre, hmc⟩ := HX.out.at_ j hjk
          have hv2 : wr.cell? ⟨b, off + j, none⟩ = some (.slice B1 m1 c1) := (b1.cell (p := ⟨b, off + j, none⟩) hbl).trans hv
          obtain ⟨_, us, eu, ru⟩ := hre
          have hm1 : m1 ≤ 1099511627776 := by
            have h1 := HFT.out (j + 1)
            have h2 := (REs.mk eu ru (by assumption)).len
            rw [flatE_snoc hxs, List.length_append, h2] at h1
            omega
          have hel := (REs.mk eu ru (by assumption)).len
          have HFS := Lib.hid (flatE_snoc hxs)
          have HRU := Lib.hid (ru.below b1)
          have HON := Lib.hid eu.cells
          have HEU := Lib.hid eu
          have HEV := Lib.hid ev1
          have HL1 := Lib.hid l1
          have HLE := Lib.hid hel
          have BL := Lib.hid b1
          have O1 := Lib.hid o1
          clear hxs hv eu ru b1 o1 ev1 l1 hel
          go_wp2_with (at_builtin; refine wpList_app4 _ rfl _ _ 22 rfl w0.heap.size _ 64 Tryz.underlying22 info_ent rfl L m d vs rfl O1.out B1 m1 c1 us rfl HRU.out HON.out ?_ ?_ ?_ ?_)
          · omega
          · omega
          · exact hsz
          intro L2 d2 w3 o3 _ b3
          have H3 : Hid (NwS w0 L2 (m + m1) d2 (ls.take (j + 1)).flatten w3) := Lib.hid (by
            rw [HFS.out]
            exact ⟨_, o3, HEV.out.app HEU.out, by rw [List.length_append, HL1.out, HLE.out], BL.out.trans b3⟩)
          clear o3 b3
          go_wp2_with fail
          go_roundw
          case rel => exact ⟨j + 1, m + m1, d2, L2, by omega, by go_num, rfl, H3.out⟩
          case measure => simp [intOf]; omega
        · have hjk2 : ls.take j = ls := List.take_of_length_le (by have := HXL.out; omega)
          rw [hjk2] at ev1 l1
          have HF : Hid (RetEl w0 ls.flatten (.returned (.slice L m d)) wr) := Lib.hid ⟨L, m, d, rfl, REs.mk (ev1.below b1) o1.rd l1, o1.cap.1, b1⟩
          clear o1 ev1 l1 b1 hjk2
          go_wp2_with fail
          go_ret
          exact HF.out
end Go.Proofs.YtbgelbdnkbhffaaGreat
namespace Go.Proofs.YtbgelbdnkbhffaaGreat
open Go Go.RowKit

/-- The groups of a file's blocks, if all are blocks with entries. -/
def blksT (bs : List (List UInt8)) : List (List En) × Int := if bs.all (fun b => decide ((decB b).2 = 0) && decide ((decB b).1 ≠ [])) then (bs.map (fun b => (decB b).1), 0) else ([], 3)
/-- What unseal answers. -/
def unT (xs : List UInt8) : List (List En) × Int :=
  if (openG xs ((0 : Nat) : Int)).2.2 ≠ 0 then ([], (openG xs ((0 : Nat) : Int)).2.2)
  else if (parts (openG xs ((0 : Nat) : Int)).1).2 ≠ 0 then ([], 3)
  else match (parts (openG xs ((0 : Nat) : Int)).1).1 with
    | [p, _] => if (parts p).2 ≠ 0 then ([], 3) else blksT (parts p).1
    | _ => ([], 3)
/-- Groups in memory of their own. -/
def LsU (base : Nat) (w : World) : List (List En) → List Value → Prop
  | [], vs => vs = []
  | es :: ls, vs => ∃ B m c evs r, vs = .slice B m c :: r ∧ OwnE w base B m c evs ∧ EOs base w es evs ∧ es.length = m ∧ LsU base w ls r
theorem LsU.below {base : Nat} {w w' : World} (hb : Below w.heap.size w w') : ∀ {ls : List (List En)} {vs : List Value}, LsU base w ls vs → LsU base w' ls vs
  | [], _, h => h
  | _ :: _, _, ⟨B, m, c, evs, r, e, h1, h2, h3, h4⟩ => ⟨B, m, c, evs, r, e, h1.below hb, h2.below hb, h3, LsU.below hb h4⟩
theorem LsU.kept {base b1 n d : Nat} {w w' : World} {L : Option Addr} {us : List Value} (hl : OwnV 22 w b1 L n d us) (hg : w.grownBy w' (blk L)) : ∀ {ls : List (List En)} {vs : List Value}, LsU base w ls vs → LsU base w' ls vs
  | [], _, h => h
  | _ :: _, _, ⟨B, m, c, evs, r, e, h1, h2, h3, h4⟩ => by
    have hd := row_ne hl h1 (by decide)
    exact ⟨B, m, c, evs, r, e, ownE_kept h1 hg (fun b hb e => hd b e hb), h2.kept hg (eos_off hl (by decide) h2), h3, LsU.kept hl hg h4⟩
theorem LsU.snoc {base : Nat} {w : World} {es : List En} {B : Option Addr} {m c : Nat} {evs : List Value} (h1 : OwnE w base B m c evs) (h2 : EOs base w es evs) (h3 : es.length = m) : ∀ {ls : List (List En)} {vs : List Value}, LsU base w ls vs → LsU base w (ls ++ [es]) (vs ++ [.slice B m c])
  | [], _, h => by rw [h]; exact ⟨B, m, c, evs, [], rfl, h1, h2, h3, rfl⟩
  | _ :: _, _, ⟨B', m', c', evs', r, e, q1, q2, q3, q4⟩ => ⟨B', m', c', evs', _, by rw [e]; rfl, q1, q2, q3, LsU.snoc h1 h2 h3 q4⟩
theorem LsU.lsv {base : Nat} {w : World} : ∀ {ls : List (List En)} {vs : List Value}, LsU base w ls vs → LsV w ls vs
  | [], _, h => h
  | _ :: _, _, ⟨B, m, c, _, r, e, h1, h2, h3, h4⟩ => ⟨B, m, c, r, e, REs.mk h2.evs h1.rd h3, h1.cap.1, LsU.lsv h4⟩
/-- What stands in the loop over the blocks. -/
def UnS (w : World) (ls : List (List En)) (L : Option Addr) (k d : Nat) (wr : World) : Prop :=
  ∃ vs, OwnV 22 wr w.heap.size L k d vs ∧ LsU w.heap.size wr ls vs ∧ ls.length = k ∧ Below w.heap.size w wr
theorem UnS.bel {w wr : World} {ls : List (List En)} {L : Option Addr} {k d : Nat} (h : UnS w ls L k d wr) : Below w.heap.size w wr := by
  obtain ⟨vs, h1, h2, h3, h4⟩ := h
  exact h4
/-- Groups that can be read, and a kind. -/
def RetUs (w : World) (z : List (List En) × Int) (e : Ending) (w' : World) : Prop :=
  ∃ L k d, e = .returned (.tuple #[.slice L k d, .int .i64 z.2]) ∧ RLs w' L k z.1 ∧ k ≤ d ∧ Below w.heap.size w w'
theorem RetUs.no {w w' : World} {z : List (List En) × Int} {k : Int} (hz : z = ([], k)) (hb : Below w.heap.size w w') : RetUs w z (.returned (.tuple #[.slice none 0 0, .int .i64 k])) w' := by
  subst hz
  exact ⟨none, 0, 0, rfl, ⟨rfl, fun h => absurd h (by omega)⟩, Nat.le_refl _, hb⟩

set_option maxRecDepth 100000 in
set_option maxHeartbeats 16000000 in
theorem unseal_any (A : Option Addr) (n c : Nat) (xs : List UInt8) (w : World) (hx : Rd w A n xs) (hn : n ≤ 1099511627776) (hc : n ≤ c) (hnil : A = none → c = 0) :
    Calls Tryz.prog 64 #[.slice A n c] w (RetUs w (unT xs)) := by
  have HOP := Lib.hid (Open_any A n c ((0 : Nat) : Int) xs w hx hn hc hnil (by unfold I64; omega))
  have hin := (openG_in xs ((0 : Nat) : Int)).1
  obtain ⟨ins, hins⟩ : ∃ x, x = (openG xs ((0 : Nat) : Int)).1 := ⟨_, rfl⟩
  obtain ⟨nx, hnx⟩ : ∃ x, x = (openG xs ((0 : Nat) : Int)).2.1 := ⟨_, rfl⟩
  obtain ⟨ek, hek⟩ : ∃ x, x = (openG xs ((0 : Nat) : Int)).2.2 := ⟨_, rfl⟩
  have HOP2 : Hid (Calls Tryz.prog 134 #[.slice A n c, .int .i64 0] w (fun e w' => ∃ A n c, e = .returned (.tuple #[.slice A n c, .int .i64 nx, .int .i64 ek]) ∧ Own 5 w' w.heap.size A n c ins ∧ Below w.heap.size w w')) := Lib.hid (by
    have h1 := HOP.out
    refine h1.mono ?_
    rintro e w' ⟨A, n, c, h1, h2, h3⟩
    rw [hins, hnx, hek]
    exact ⟨A, n, c, h1, h2, h3⟩)
  rw [← hins] at hin
  have HIN := Lib.hid hin
  have HINS := Lib.hid hins
  have HEK := Lib.hid hek
  clear hx hins hnx hek hin HOP
  go_enter Tryz.func64, Tryz.ntmps64
  go_wp2_with fail
  with_reducible refine HOP2.out.mono ?_
  intro e w1 hq
  obtain ⟨A1, n1, c1, h1, o1, b1⟩ := hq
  subst h1
  by_cases hk0 : ek = 0
  · subst hk0
    have hn1 : n1 ≤ 1048576 := by rw [← o1.len]; exact HIN.out
    have HPA := Lib.hid (Parts_any A1 n1 c1 ins w1 o1.rd (by omega) o1.cap.1 (fun h => (o1.nil_of (by rw [h]; rfl)).2.2))
    have B1 := Lib.hid b1
    obtain ⟨ps, hps⟩ : ∃ x, x = (parts ins).1 := ⟨_, rfl⟩
    obtain ⟨pk, hpk⟩ : ∃ x, x = (parts ins).2 := ⟨_, rfl⟩
    have HPA2 : Hid (Calls Tryz.prog 96 #[.slice A1 n1 c1] w1 (fun e w' => ∃ A n c, e = .returned (.tuple #[.slice A n c, .int .i64 pk]) ∧ OwnL 29 w' w1.heap.size A n c ps ∧ Below w1.heap.size w1 w')) := Lib.hid (by
      have h1 := HPA.out
      refine h1.mono ?_
      rintro e w' ⟨A, n, c, h1, h2, h3⟩
      rw [hps, hpk]
      exact ⟨A, n, c, h1, h2, h3⟩)
    have HU : Hid (unT xs = if pk ≠ 0 then ([], 3) else match ps with
      | [p, _] => if (parts p).2 ≠ 0 then ([], 3) else blksT (parts p).1
      | _ => ([], 3)) := Lib.hid (by
      unfold unT
      rw [← HEK.out, if_neg (by simp), ← HINS.out, ← hps, ← hpk])
    have HPS := Lib.hid hps
    clear hps hpk o1 b1 HPA HOP2
    go_wp2_with fail
    with_reducible refine HPA2.out.mono ?_
    intro e w2 hq
    obtain ⟨A2, n2, c2, h1, o2, b2⟩ := hq
    subst h1
    have B2 := Lib.hid (B1.out.trans (b2.mono B1.out.size))
    have HO2 := Lib.hid o2
    have hln2 := o2.len
    by_cases hpk0 : pk = 0
    · subst hpk0
      by_cases hn2 : n2 = 2
      · subst hn2
        obtain ⟨p, q, hpq⟩ : ∃ p q, ps = [p, q] := by
          match ps, hln2 with
          | [p, q], _ => exact ⟨p, q, rfl⟩
        subst hpq
        have hrd2 := o2.rd
        obtain ⟨b, off, hAb, hbl⟩ := hrd2.pos (by omega)
        subst hAb
        obtain ⟨p', P1, pn, pc, hp', hv, rp, hpc, hpni⟩ := hrd2.at_ 0 (by omega)
        obtain rfl : p' = p := (Option.some.inj hp').symm
        rw [show off + 0 = off from rfl] at hv
        have hpl : p'.length ≤ 1048576 := Nat.le_trans (parts_len ins p' (by rw [← HPS.out]; simp)) HIN.out
        have hpn : pn ≤ 1048576 := by rw [← rp.len]; exact hpl
        have HP3 := Lib.hid (Parts_any P1 pn pc p' w2 rp (by omega) hpc hpni)
        obtain ⟨bs, hbs⟩ : ∃ x, x = (parts p').1 := ⟨_, rfl⟩
        obtain ⟨bk, hbk⟩ : ∃ x, x = (parts p').2 := ⟨_, rfl⟩
        have HP4 : Hid (Calls Tryz.prog 96 #[.slice P1 pn pc] w2 (fun e w' => ∃ A n c, e = .returned (.tuple #[.slice A n c, .int .i64 bk]) ∧ OwnL 29 w' w2.heap.size A n c bs ∧ Below w2.heap.size w2 w')) := Lib.hid (by
          have h1 := HP3.out
          refine h1.mono ?_
          rintro e w' ⟨A, n, c, h1, h2, h3⟩
          rw [hbs, hbk]
          exact ⟨A, n, c, h1, h2, h3⟩)
        have HU2 : Hid (unT xs = if bk ≠ 0 then ([], 3) else blksT bs) := Lib.hid (by
          rw [HU.out, if_neg (by simp), hbs, hbk])
        have hbc : bs.length ≤ 1048576 := by rw [hbs]; exact Nat.le_trans (parts_count p') hpl
        have hbl2 : ∀ x ∈ bs, x.length ≤ 1048576 := fun x hx => by
          rw [hbs] at hx
          exact Nat.le_trans (parts_len p' x hx) hpl
        have HBL2 := Lib.hid hbl2
        clear hln2 o2 b2 hrd2 hp' rp hpc hpni hpl hbs hbk HP3 hbl2
        go_wp2_with fail
        with_reducible refine HP4.out.mono ?_
        intro e w3 hq
        obtain ⟨A3, n3, c3, h1, o3, b3⟩ := hq
        subst h1
        have B3 := Lib.hid (B2.out.trans (b3.mono B2.out.size))
        by_cases hbk0 : bk = 0
        · subst hbk0
          have HU3 : Hid (unT xs = blksT bs) := Lib.hid (by rw [HU2.out, if_neg (by simp)])
          have HR3 := Lib.hid o3.rd
          have hn3 : n3 ≤ 1048576 := by rw [← o3.len]; exact hbc
          have HL3 := Lib.hid o3.len
          clear o3 b3 hbc hv
          go_wp2_with fail
          go_loopw [9, 46] (fun s9 s46 wr => ∃ (k d : Nat) (L : Option Addr), k ≤ n3 ∧ s46 = .int .i64 (k : Int) ∧ s9 = .slice L k d ∧ (∀ x ∈ bs.take k, (decB x).2 = 0 ∧ (decB x).1 ≠ []) ∧ UnS w3 ((bs.take k).map (fun b => (decB b).1)) L k d wr) (fun _ s _ => n3 - (intOf s).toNat)
          case atStart => exact ⟨0, 0, none, Nat.zero_le _, rfl, rfl, (fun x h => by simp at h), [], OwnV.nil _ _ _, rfl, rfl, Below.refl _ _⟩
          case round =>
            obtain ⟨k, d, L, hk, rfl, rfl, hok, hP⟩ := hrel
            have HP := Lib.hid hP
            have HB := Lib.hid hP.bel
            have HOK := Lib.hid hok
            clear hP hok
            by_cases hlt : k < n3
            · obtain ⟨b3, off3, hAb3, hbl3⟩ := HR3.out.pos (by omega)
              subst hAb3
              obtain ⟨x, X1, xn, xc, hx, hxv, rx, hxc, hxni⟩ := HR3.out.at_ k hlt
              have d0 := (HB.out.cell (p := ⟨b3, off3 + k, none⟩) hbl3).trans hxv
              have hxn : xn ≤ 1048576 := by rw [← rx.len]; exact HBL2.out x (List.mem_of_getElem? hx)
              have HDC := Lib.hid (decode_any X1 xn xc x wr (rx.below HB.out) (by omega) hxc hxni)
              have HX := Lib.hid hx
              obtain ⟨ee, hee⟩ : ∃ ee, ee = (decB x).1 := ⟨_, rfl⟩
              obtain ⟨ek, hek2⟩ : ∃ ek, ek = (decB x).2 := ⟨_, rfl⟩
              have HBAD : Hid (ek ≠ 0 ∨ ee = [] → unT xs = ([], 3)) := Lib.hid (fun h => by
                rw [HU3.out]
                unfold blksT
                refine if_neg (fun h2 => ?_)
                have h3 := List.all_eq_true.1 h2 x (List.mem_of_getElem? hx)
                simp only [Bool.and_eq_true, decide_eq_true_eq] at h3
                rw [← hee, ← hek2] at h3
                rcases h with h | h
                · exact h h3.1
                · exact h3.2 h)
              have HST : Hid (ek = 0 → ee ≠ [] → ∀ y ∈ bs.take (k + 1), (decB y).2 = 0 ∧ (decB y).1 ≠ []) := Lib.hid (fun h1 h2 y hy => by
                rw [List.take_add_one, hx] at hy
                rcases List.mem_append.1 hy with h | h
                · exact HOK.out y h
                · simp only [Option.toList_some, List.mem_singleton] at h
                  rw [h, ← hee, ← hek2]
                  exact ⟨h1, h2⟩)
              have HSN : Hid ((bs.take (k + 1)).map (fun b => (decB b).1) = (bs.take k).map (fun b => (decB b).1) ++ [ee]) := Lib.hid (by
                rw [List.take_add_one, hx, hee]
                simp)
              have HDC2 : Hid (Calls Tryz.prog 135 #[.slice X1 xn xc] wr (RetDc8 wr (ee, ek))) := Lib.hid (by rw [hee, hek2]; exact HDC.out)
              clear hx hxv rx hxc hxni HDC hee hek2
              go_wp2_with fail
              with_reducible refine HDC2.out.mono ?_
              intro e w4 hq
              rcases hq with ⟨he0, hk1, h1, b4⟩ | ⟨hk1, hlen, L4, d4, h1, hro⟩
              · simp only at h1 hk1
                subst h1
                have HF : Hid (RetUs w (unT xs) (.returned (.tuple #[.slice none 0 0, .int .i64 3])) w4) := Lib.hid (RetUs.no (HBAD.out (.inl hk1)) (B3.out.trans ((HB.out.trans (b4.mono HB.out.size)).mono B3.out.size)))
                clear b4 he0
                go_wp2_with fail
                exact bodyPost_ret (v := .tuple #[.slice none 0 0, .int .i64 3]) (by simp [results, Tryz.f64, go_sem]; try rfl) rfl HF.out
              · simp only at h1 hk1 hlen hro
                subst h1
                have b4 := hro.bel
                have BW4 := Lib.hid (B3.out.trans ((HB.out.trans (b4.mono HB.out.size)).mono B3.out.size))
                obtain ⟨m4, hm4⟩ : ∃ m4, m4 = ee.length := ⟨_, rfl⟩
                rw [← hm4] at hro hlen
                have HRO := Lib.hid hro
                have hmd := hro.cap.1
                have B4 := Lib.hid b4
                rw [← hm4]
                clear hro b4
                by_cases hm0 : m4 = 0
                · have HF : Hid (RetUs w (unT xs) (.returned (.tuple #[.slice none 0 0, .int .i64 3])) w4) := Lib.hid (RetUs.no (HBAD.out (.inr (List.eq_nil_of_length_eq_zero (by omega)))) BW4.out)
                  clear hm4
                  subst hm0
                  subst hk1
                  go_wp2_with fail
                  exact bodyPost_ret (v := .tuple #[.slice none 0 0, .int .i64 3]) (by simp [results, Tryz.f64, go_sem]; try rfl) rfl HF.out
                · have hee0 : ee ≠ [] := fun h => hm0 (by rw [hm4, h]; rfl)
                  have HOK2 := Lib.hid (HST.out hk1 hee0)
                  have t1 : ((m4 : Int) == 0) = false := by rw [beq_eq_false_iff_ne]; omega
                  have t2 : ¬ (m4 : Int) = 0 := by omega
                  subst hk1
                  obtain ⟨vs, q1, q2, q3, q4⟩ := HP.out
                  obtain ⟨W1, hW1⟩ : ∃ W1, W1 = w4.alloc (.cells #[.slice L4 m4 d4] 22) := ⟨_, rfl⟩
                  have bW1 : Below w4.heap.size w4 W1 := by rw [hW1]; exact (Below.refl _ _).alloc (Nat.le_refl _) _
                  have bwW : Below wr.heap.size wr W1 := belowT' B4.out bW1
                  have Q1 := Lib.hid (q1.below bwW)
                  have Q2 := Lib.hid (q2.below bwW)
                  have Q3 := Lib.hid q3
                  have Q4 := Lib.hid (q4.trans (bwW.mono q4.size))
                  obtain ⟨evs, g1, g2, _, g4, _, _, _⟩ := HRO.out
                  have G1 := Lib.hid ((g1.below bW1).mono (HB.out.size))
                  have G2 := Lib.hid ((g2.below bW1).mono (HB.out.size))
                  have G4 := Lib.hid g4
                  have HRD : Hid (RdV W1 (some ⟨w4.heap.size, 0, none⟩) 1 [.slice L4 m4 d4]) := Lib.hid (by rw [hW1]; exact OwnV.rd (ownV_box2 w4 22 w4.heap.size [.slice L4 m4 d4] 1 rfl (by omega) (Nat.le_refl _) _ rfl))
                  have hone : ∀ u ∈ [Value.slice L4 m4 d4], u.oneCell' = true := by intro u hu; rw [List.mem_singleton] at hu; rw [hu]; rfl
                  have HON := Lib.hid hone
                  have HW1 := Lib.hid hW1
                  obtain ⟨u1, hu1⟩ : ∃ u1, u1 = w4.heap.size := ⟨_, rfl⟩
                  rw [← hu1] at HRD
                  have HU1 := Lib.hid hu1
                  clear q1 q2 q3 q4 g1 g2 g4 hone hW1 bW1 bwW hu1 hm4 hee0 hm0
                  go_wp2_with (at_builtin; rw [← HW1.out, ← HU1.out]; refine wpList_appV W1 rfl _ _ 125 rfl w3.heap.size 22 (.slice none 0 0) 24 Tryz.underlying125 info_les rfl L k d vs rfl Q1.out (some ⟨u1, 0, none⟩) 1 1 [.slice L4 m4 d4] rfl HRD.out HON.out ?_ ?_ ?_ ?_)
                  · unfold maxLen; omega
                  · omega
                  · exact Q4.out.size
                  intro L5 d5 w5 o5 hg5 _
                  have HP5 : Hid (UnS w3 ((bs.take (k + 1)).map (fun b => (decB b).1)) L5 (k + 1) d5 w5) := Lib.hid (by
                    rw [HSN.out]
                    exact ⟨_, o5, (Q2.out.snoc G1.out G2.out G4.out).kept Q1.out hg5, by rw [List.length_append, Q3.out]; rfl, Q4.out.grown hg5 Q4.out.size (fun g hg => (OwnV.lt Q1.out g hg).1)⟩)
                  clear o5 hg5
                  go_wp2_with fail
                  go_roundw
                  case rel => exact ⟨k + 1, d5, L5, by omega, by go_num, rfl, HOK2.out, HP5.out⟩
                  case measure => simp [intOf]; omega
            · have HF : Hid (RetUs w (unT xs) (.returned (.tuple #[.slice L k d, .int .i64 0])) wr) := Lib.hid (by
                have hkt : bs.take k = bs := List.take_of_length_le (by rw [HL3.out]; omega)
                have h1 := HP.out
                have h2 := HOK.out
                rw [hkt] at h1 h2
                have hb : blksT bs = (bs.map (fun b => (decB b).1), 0) := by
                  unfold blksT
                  refine if_pos (List.all_eq_true.2 (fun x hx => ?_))
                  simp only [Bool.and_eq_true, decide_eq_true_eq]
                  exact h2 x hx
                obtain ⟨vs, q1, q2, q3, q4⟩ := h1
                rw [HU3.out, hb]
                exact ⟨L, k, d, rfl, LsV.rls q2.lsv q1.rd q3, q1.cap.1, B3.out.trans (q4.mono B3.out.size)⟩)
              go_wp2_with fail
              exact bodyPost_ret (v := .tuple #[.slice L k d, .int .i64 0]) (by simp [results, Tryz.f64, go_sem]; try rfl) rfl HF.out
        · have HF : Hid (RetUs w (unT xs) (.returned (.tuple #[.slice none 0 0, .int .i64 3])) w3) := Lib.hid (RetUs.no (by rw [HU2.out, if_pos hbk0]) B3.out)
          clear o3 b3 hbc hv
          go_wp2_with fail
          exact bodyPost_ret (v := .tuple #[.slice none 0 0, .int .i64 3]) (by simp [results, Tryz.f64, go_sem]; try rfl) rfl HF.out
      · have HF : Hid (RetUs w (unT xs) (.returned (.tuple #[.slice none 0 0, .int .i64 3])) w2) := Lib.hid (RetUs.no (by
          rw [HU.out, if_neg (by simp)]
          match ps, hln2 with
          | [], _ => rfl
          | [_], _ => rfl
          | [_, _], h => exact absurd h.symm hn2
          | _ :: _ :: _ :: _, _ => rfl) B2.out)
        have t1 : ((n2 : Int) == 2) = false := by rw [beq_eq_false_iff_ne]; omega
        have t2 : ¬ (n2 : Int) = 2 := by omega
        clear hln2 o2 b2
        go_wp2_with fail
        exact bodyPost_ret (v := .tuple #[.slice none 0 0, .int .i64 3]) (by simp [results, Tryz.f64, go_sem]; try rfl) rfl HF.out
    · have HF : Hid (RetUs w (unT xs) (.returned (.tuple #[.slice none 0 0, .int .i64 3])) w2) := Lib.hid (RetUs.no (by rw [HU.out, if_pos hpk0]) B2.out)
      clear hln2 o2 b2
      go_wp2_with fail
      exact bodyPost_ret (v := .tuple #[.slice none 0 0, .int .i64 3]) (by simp [results, Tryz.f64, go_sem]; try rfl) rfl HF.out
  · have HF : Hid (RetUs w (unT xs) (.returned (.tuple #[.slice none 0 0, .int .i64 ek])) w1) := Lib.hid (RetUs.no (by
      unfold unT
      rw [← HEK.out, if_pos hk0]) b1)
    clear o1 b1
    go_wp2_with fail
    exact bodyPost_ret (v := .tuple #[.slice none 0 0, .int .i64 ek]) (by simp [results, Tryz.f64, go_sem]; try rfl) rfl HF.out
end Go.Proofs.YtbgelbdnkbhffaaGreat
namespace Go.Proofs.YtbgelbdnkbhffaaGreat
open Go Go.RowKit

/-- The error of the first group that has one. -/
def rfE : List (List En) → Int
  | [] => 0
  | es :: t => if (buildE 4 es).2 ≠ 0 then (buildE 4 es).2 else rfE t
def refT (size : Int) (es : List En) : List UInt8 × Int :=
  if size < 1 then ([], 1) else if chk1 es ≠ 0 ∨ es.length = 0 then ([], if checkE es ≠ 0 then checkE es else 3) else if rfE (grpE size es) ≠ 0 then ([], rfE (grpE size es)) else sealG (frameB [frameB ((grpE size es).map b4E), filB (grpE size es)])
theorem rfE_at {g r : List (List En)} {es : List En} (hg : ∀ x ∈ g, (buildE 4 x).2 = 0) (hb : (buildE 4 es).2 ≠ 0) : rfE (g ++ es :: r) = (buildE 4 es).2 := by
  induction g with
  | nil => rw [List.nil_append, rfE, if_pos hb]
  | cons a t ih =>
    rw [List.cons_append, rfE, if_neg (fun h => h (hg a (List.mem_cons_self ..)))]
    exact ih (fun x hx => hg x (List.mem_cons_of_mem _ hx))
theorem rfE_ok {g : List (List En)} (hg : ∀ x ∈ g, (buildE 4 x).2 = 0) : rfE g = 0 := by
  induction g with
  | nil => rfl
  | cons a t ih =>
    rw [rfE, if_neg (fun h => h (hg a (List.mem_cons_self ..)))]
    exact ih (fun x hx => hg x (List.mem_cons_of_mem _ hx))
theorem cutS_pre (size : Int) (es : List En) (i : Nat) : ∀ j, i ≤ j → ∃ r, (cutS size es j).1 = (cutS size es i).1 ++ r
  | 0, h => by
    obtain rfl : i = 0 := by omega
    exact ⟨[], by rw [List.append_nil]⟩
  | j + 1, h => by
    by_cases e : i = j + 1
    · subst e
      exact ⟨[], by rw [List.append_nil]⟩
    · obtain ⟨r, hr⟩ := cutS_pre size es i j (by omega)
      rw [cutS]
      split
      · exact ⟨r, hr⟩
      · split
        · exact ⟨r ++ [(es.take (j + 1)).drop (cutS size es j).2.1], by simp only [hr, List.append_assoc]⟩
        · exact ⟨r, hr⟩
theorem grpE_pre (size : Int) (es : List En) (i : Nat) (h : i ≤ es.length) : ∃ r, grpE size es = (cutS size es i).1 ++ r := by
  obtain ⟨r, hr⟩ := cutS_pre size es i es.length h
  unfold grpE
  split
  · exact ⟨r ++ [es.drop (cutS size es es.length).2.1], by rw [hr, List.append_assoc]⟩
  · exact ⟨r, hr⟩
theorem grpE_last {size : Int} {es : List En} {k b s : Nat} {g : List (List En)} {x : En} (h : cutS size es k = (g, b, s)) (hx : es[k]? = some x) (hk : k + 1 = es.length) (hb : b ≤ k) : grpE size es = g ++ [(es.take (k + 1)).drop b] := by
  have ht : es.take (k + 1) = es := List.take_of_length_le (by omega)
  unfold grpE
  rw [← hk]
  by_cases hs : size ≤ ((s + wE x : Nat) : Int)
  · rw [cutS_yes h hx hs]
    exact if_neg (by simp)
  · rw [cutS_no h hx hs, ht]
    exact if_pos (show b < k + 1 by omega)

/-- What stands in the reference's loop. -/
def RfS (w0 : World) (B : Option Addr) (m d : Nat) (bss : List (List UInt8)) (L : Option Addr) (lm ld : Nat) (nes : List En) (wr : World) : Prop :=
  ∃ bvs vs, OwnV 29 wr w0.heap.size B m d bvs ∧ BlO w0.heap.size wr bss bvs ∧ OwnE wr w0.heap.size L lm ld vs ∧ EVs w0 nes vs ∧ nes.length = lm ∧ Below w0.heap.size w0 wr
section
variable {w0 wr wx : World} {B L : Option Addr} {m d lm ld : Nat} {bss : List (List UInt8)} {nes : List En}
theorem RfS.bel (h : RfS w0 B m d bss L lm ld nes wr) : Below w0.heap.size w0 wr := by
  obtain ⟨bvs, vs, h1, h2, h3, h4, h5, h6⟩ := h
  exact h6
theorem RfS.below (h : RfS w0 B m d bss L lm ld nes wr) (hb : Below wr.heap.size wr wx) : RfS w0 B m d bss L lm ld nes wx := by
  obtain ⟨bvs, vs, h1, h2, h3, h4, h5, h6⟩ := h
  exact ⟨bvs, vs, h1.below hb, h2.below hb, h3.below hb, h4, h5, h6.trans (hb.mono h6.size)⟩
theorem RfS.zero (w : World) : RfS w none 0 0 [] none 0 0 [] w :=
  ⟨[], [], OwnV.nil _ _ _, ⟨rfl, fun i v x h => by simp at h⟩, OwnE.nil _ _, rfl, rfl, Below.refl _ _⟩
theorem RfS.clear (h : RfS w0 B m d bss L lm ld nes wr) : RfS w0 B m d bss none 0 0 [] wr := by
  obtain ⟨bvs, vs, h1, h2, h3, h4, h5, h6⟩ := h
  exact ⟨bvs, [], h1, h2, OwnE.nil _ _, rfl, rfl, h6⟩
theorem RfS.res (h : RfS w0 B m d bss L lm ld nes wr) : REs wr L lm nes := by
  obtain ⟨bvs, vs, h1, h2, h3, h4, h5, h6⟩ := h
  exact REs.mk (h4.below h6) h3.rd h5
theorem RfS.len (h : RfS w0 B m d bss L lm ld nes wr) : bss.length = m := by
  obtain ⟨bvs, vs, h1, h2, h3, h4, h5, h6⟩ := h
  rw [← h2.1, h1.len]
theorem RfS.rdl (h : RfS w0 B m d bss L lm ld nes wr) : RdL wr B m bss := by
  obtain ⟨bvs, vs, h1, h2, h3, h4, h5, h6⟩ := h
  exact h2.rdl h1.rd
theorem BlO.keptE {base : Nat} {w w' : World} {bvs : List Value} (h : BlO base w bss bvs) {b1 n c : Nat} {vs : List Value} (hl : OwnE w b1 L n c vs) (hg : w.grownBy w' (blk L)) : BlO base w' bss bvs :=
  ⟨h.1, fun i v x hv hx => by
    obtain ⟨A, n, c, e, ho⟩ := h.2 i v x hv hx
    have hd := row_ne hl ho (by decide)
    exact ⟨A, n, c, e, ho.kept hg (fun b hb e => hd b e hb)⟩⟩
theorem RfS.addE {bvs vs : List Value} (h1 : OwnV 29 wr w0.heap.size B m d bvs) (h2 : BlO w0.heap.size wr bss bvs) (h3 : OwnE wr w0.heap.size L lm ld vs) (h4 : EVs w0 nes vs) (h5 : nes.length = lm) (h6 : Below w0.heap.size w0 wr)
    {x : En} {v0 v1 v2 v3 : Value} (hx : EV w0 x v0 v1 v2 v3) {L' : Option Addr} {ld' : Nat} (k1 : OwnE wx w0.heap.size L' (lm + 1) ld' (vs ++ [v0, v1, v2, v3])) (hg : wr.grownBy wx (blk L)) : RfS w0 B m d bss L' (lm + 1) ld' (nes ++ [x]) wx := by
  have hd := row_ne h3 h1 (by decide)
  exact ⟨bvs, _, h1.kept hg (fun b hb e => hd b e hb), h2.keptE h3 hg, k1, h4.app (EVs.one hx), by rw [List.length_append, h5]; rfl, h6.grown hg h6.size (fun k hk => (h3.lt k hk).1)⟩
theorem RfS.addB {bvs vs : List Value} (h1 : OwnV 29 wr w0.heap.size B m d bvs) (h2 : BlO w0.heap.size wr bss bvs) (h3 : OwnE wr w0.heap.size L lm ld vs) (h4 : EVs w0 nes vs) (h5 : nes.length = lm) (h6 : Below w0.heap.size w0 wr)
    {A : Option Addr} {n c : Nat} {x : List UInt8} (ho : Own 5 wr w0.heap.size A n c x) {B' : Option Addr} {m' d' : Nat} (k1 : OwnV 29 wx w0.heap.size B' m' d' (bvs ++ [.slice A n c])) (hg : wr.grownBy wx (blk B)) : RfS w0 B' m' d' (bss ++ [x]) L lm ld nes wx := by
  have hd := row_ne h1 h3 (by decide)
  exact ⟨_, vs, k1, (h2.snoc ho).kept h1 hg, ownE_kept h3 hg (fun b hb e => hd b e hb), h4, h5, h6.grown hg h6.size (fun k hk => (h1.lt k hk).1)⟩
end
end Go.Proofs.YtbgelbdnkbhffaaGreat
namespace Go.Proofs.YtbgelbdnkbhffaaGreat
open Go Go.RowKit

/-- What Open answers of a file's bytes. -/
def openT (xs : List UInt8) : List En × Int :=
  if (unT xs).2 ≠ 0 then ([], (unT xs).2)
  else if (unT xs).1.flatten.length = 0 ∨ ordE (unT xs).1.flatten = false then ([], 3)
  else if (sealT (unT xs).1).2 ≠ 0 ∨ eqB (sealT (unT xs).1).1 xs = false then ([], 3)
  else ((unT xs).1.flatten, 0)
/-- A table that was opened, or none and a kind. -/
def RetTb (w : World) (es : List En) (k : Int) (sz : Nat) (e : Ending) (w' : World) : Prop :=
  (k ≠ 0 ∧ e = .returned (.tuple #[.pointer none, .int .i64 k]) ∧ Below w.heap.size w w') ∨
  (k = 0 ∧ ∃ tb x y K kn kc F fl fc L m d, e = .returned (.tuple #[.pointer (some ⟨tb, 0, none⟩), .int .i64 0]) ∧ es[0]? = some x ∧ es[es.length - 1]? = some y ∧ Cl w' tb #[.slice K kn kc, .slice F fl fc, .int .i64 (es.length : Int), .int .i64 (sz : Int), .slice L m d] 43 ∧ Own 5 w' w.heap.size K kn kc x.key ∧ Own 5 w' w.heap.size F fl fc y.key ∧ REs w' L m es ∧ m ≤ d ∧ Below w.heap.size w w')

set_option maxRecDepth 100000 in
set_option maxHeartbeats 16000000 in
theorem open_any (p : Value) (nm : Value) {w : World} {xs : List UInt8} (hrd : Calls Tryz.prog 55 #[p, nm] w (RetRd w xs 0)) (hx : xs.length ≤ 1099511627776) (hcn : (unT xs).1.flatten.length ≤ 20000) (hcl : (unT xs).1.length ≤ 20000) (hck : ∀ x ∈ (unT xs).1.flatten, x.key.length ≤ 1099511627776) :
    Calls Tryz.prog 15 #[p, nm] w (RetTb w (openT xs).1 (openT xs).2 xs.length) := by
  have HRD := Lib.hid hrd
  have HX := Lib.hid hx
  have HCN := Lib.hid hcn
  have HCL := Lib.hid hcl
  have HCK := Lib.hid hck
  clear hrd hx hcn hcl hck
  go_enter Tryz.func15, Tryz.ntmps15
  go_wp2_with fail
  with_reducible refine HRD.out.mono ?_
  intro e w1 hq
  obtain ⟨A1, n1, c1, h1, o1, b1⟩ := hq
  subst h1
  have B1 := Lib.hid b1
  have HR1 := Lib.hid o1.rd
  have hln := o1.len
  have hn1 : n1 ≤ 1099511627776 := by rw [← hln]; exact HX.out
  have HUN := Lib.hid (unseal_any A1 n1 c1 xs w1 o1.rd hn1 o1.cap.1 (fun h => (o1.nil_of (by rw [h]; rfl)).2.2))
  have HLN := Lib.hid hln
  obtain ⟨ls, hls⟩ : ∃ x, x = (unT xs).1 := ⟨_, rfl⟩
  obtain ⟨uk, huk⟩ : ∃ x, x = (unT xs).2 := ⟨_, rfl⟩
  have HUN2 : Hid (Calls Tryz.prog 64 #[.slice A1 n1 c1] w1 (fun e w' => ∃ L k d, e = .returned (.tuple #[.slice L k d, .int .i64 uk]) ∧ RLs w' L k ls ∧ k ≤ d ∧ Below w1.heap.size w1 w')) := Lib.hid (by
    refine HUN.out.mono ?_
    rintro e w' ⟨L, k, d, h1, h2, h3, h4⟩
    rw [hls, huk]
    exact ⟨L, k, d, h1, h2, h3, h4⟩)
  have HOT : Hid (openT xs = if uk ≠ 0 then ([], uk) else if ls.flatten.length = 0 ∨ ordE ls.flatten = false then ([], 3) else if (sealT ls).2 ≠ 0 ∨ eqB (sealT ls).1 xs = false then ([], 3) else (ls.flatten, 0)) := Lib.hid (by
    rw [hls, huk]
    rfl)
  have HCN2 : Hid (ls.flatten.length ≤ 20000) := Lib.hid (by rw [hls]; exact HCN.out)
  have HCL2 : Hid (ls.length ≤ 20000) := Lib.hid (by rw [hls]; exact HCL.out)
  have HCK2 : Hid (∀ x ∈ ls.flatten, x.key.length ≤ 1099511627776) := Lib.hid (by rw [hls]; exact HCK.out)
  clear o1 b1 hls huk HUN hln HCN HCL HCK
  go_wp2_with fail
  with_reducible refine HUN2.out.mono ?_
  intro e w2 hq
  obtain ⟨L2, k2, d2, h1, r2, hkd2, b2⟩ := hq
  subst h1
  have B2 := Lib.hid (B1.out.trans (b2.mono B1.out.size))
  have BB2 := Lib.hid b2
  have HR2 := Lib.hid r2
  have hk2 : k2 ≤ 20000 := by rw [← r2.1]; exact HCL2.out
  clear b2 r2
  by_cases huk0 : uk = 0
  · subst huk0
    have HCC := Lib.hid (concatE_any (c := d2) HR2.out (by omega) (by have := HCN2.out; omega))
    obtain ⟨fl, hfl⟩ : ∃ x, x = ls.flatten := ⟨_, rfl⟩
    rw [← hfl] at HCC HOT HCN2 HCK2
    have HFL := Lib.hid hfl
    clear hfl
    go_wp2_with fail
    with_reducible refine HCC.out.mono ?_
    intro e w3 hq
    obtain ⟨L3, m3, d3, h1, r3, hmd3, b3⟩ := hq
    subst h1
    have B3 := Lib.hid (B2.out.trans (b3.mono B2.out.size))
    have BB3 := Lib.hid b3
    have HR3 := Lib.hid r3
    have hm3 : m3 ≤ 20000 := by rw [← r3.len]; exact HCN2.out
    have HL3 := Lib.hid r3.len
    clear b3 r3
    by_cases hm0 : m3 = 0
    · have HF : Hid (RetTb w (openT xs).1 (openT xs).2 xs.length (.returned (.tuple #[.pointer none, .int .i64 3])) w3) := Lib.hid (.inl (by
        rw [HOT.out, if_neg (by simp), if_pos (.inl (by rw [HL3.out]; exact hm0))]
        exact ⟨by decide, rfl, B3.out⟩))
      subst hm0
      go_wp2_with fail
      exact bodyPost_ret (v := .tuple #[.pointer none, .int .i64 3]) (by simp [results, Tryz.f15, go_sem]; try rfl) rfl HF.out
    · have HIO := Lib.hid (tbInOrder_any (c := d3) HR3.out (by omega))
      obtain ⟨oe, hoe⟩ : ∃ oe, oe = ordE fl := ⟨_, rfl⟩
      rw [← hoe] at HIO
      have HOE := Lib.hid hoe
      have tn : ((m3 : Int) == 0) = false := by rw [beq_eq_false_iff_ne]; omega
      clear hoe
      cases oe with
      | false =>
        go_wp2_with fail
        with_reducible refine HIO.out.mono ?_
        intro e w4 hq
        obtain ⟨h1, b4⟩ := RetT.outD hq
        subst h1
        have HF : Hid (RetTb w (openT xs).1 (openT xs).2 xs.length (.returned (.tuple #[.pointer none, .int .i64 3])) w4) := Lib.hid (.inl (by
          rw [HOT.out, if_neg (by simp), if_pos (.inr HOE.out.symm)]
          exact ⟨by decide, rfl, B3.out.trans (b4.mono B3.out.size)⟩))
        clear hq b4
        go_wp2_with fail
        exact bodyPost_ret (v := .tuple #[.pointer none, .int .i64 3]) (by simp [results, Tryz.f15, go_sem]; try rfl) rfl HF.out
      | true =>
        go_wp2_with fail
        with_reducible refine HIO.out.mono ?_
        intro e w4 hq
        obtain ⟨h1, b4⟩ := RetT.outD hq
        subst h1
        have B4 := Lib.hid (B3.out.trans (b4.mono B3.out.size))
        have BB4 := Lib.hid (BB3.out.trans (b4.mono BB3.out.size))
        have BB34 := Lib.hid b4
        have hkf : keysL ls = fl.map (·.key) := by unfold keysL; rw [HFL.out]
        have HSL := Lib.hid (seal_any (c := d2) (HR2.out.below BB4.out) hk2 (by rw [hkf, List.length_map, HL3.out]; omega) (by rw [hkf, List.length_map, HL3.out]; exact hm3) (fun x hx => by
          rw [hkf] at hx
          obtain ⟨y, hy, rfl⟩ := List.mem_map.1 hx
          have := HCK2.out y hy
          unfold maxLen
          omega))
        obtain ⟨sl, hsl⟩ : ∃ x, x = (sealT ls).1 := ⟨_, rfl⟩
        obtain ⟨sk, hsk⟩ : ∃ x, x = (sealT ls).2 := ⟨_, rfl⟩
        obtain ⟨sn, hsn⟩ : ∃ x, x = sl.length := ⟨_, rfl⟩
        have HSL2 : Hid (Calls Tryz.prog 67 #[.slice L2 k2 d2] w4 (fun e w' => ∃ A c, e = .returned (.tuple #[.slice A sn c, .int .i64 sk]) ∧ Own 5 w' w4.heap.size A sn c sl ∧ Below w4.heap.size w4 w')) := Lib.hid (by
          refine HSL.out.mono ?_
          rintro e w' ⟨A, c, h1, h2, h3⟩
          rw [hsn, hsl, hsk]
          exact ⟨A, c, h1, h2, h3⟩)
        rw [← hsl, ← hsk] at HOT
        clear hq b4 hkf HSL hsl hsk hsn
        go_wp2_with fail
        with_reducible refine HSL2.out.mono ?_
        intro e w5 hq
        obtain ⟨A5, c5, h1, o5, b5⟩ := hq
        subst h1
        have B5 := Lib.hid (B4.out.trans (b5.mono B4.out.size))
        by_cases hsk0 : sk = 0
        · subst hsk0
          have bb5 : Below w1.heap.size w1 w5 := BB2.out.trans ((BB4.out.trans (b5.mono BB4.out.size)).mono BB2.out.size)
          have HEQ := Lib.hid (mgEqual_any A5 A1 sn n1 c5 c1 sl xs w5 o5.rd (HR1.out.below bb5))
          obtain ⟨ez, hez⟩ : ∃ x, x = eqB sl xs := ⟨_, rfl⟩
          rw [← hez] at HEQ HOT
          clear o5 bb5 hez
          cases ez with
          | false =>
            have HF : Hid (RetTb w (openT xs).1 (openT xs).2 xs.length (.returned (.tuple #[.pointer none, .int .i64 3])) w5) := Lib.hid (.inl (by
              rw [HOT.out, if_neg (by simp), if_neg (by rw [HL3.out, ← HOE.out]; simp; exact hm0), if_pos (.inr rfl)]
              exact ⟨by decide, rfl, B5.out⟩))
            clear b5
            go_wp2_with fail
            with_reducible refine HEQ.out.mono ?_
            intro e w6 hq
            obtain ⟨h1, h2⟩ := hq
            subst h1
            rw [h2]
            clear h2
            go_wp2_with fail
            exact bodyPost_ret (v := .tuple #[.pointer none, .int .i64 3]) (by simp [results, Tryz.f15, go_sem]; try rfl) rfl HF.out
          | true =>
            have hle := HL3.out
            obtain ⟨x, hx⟩ : ∃ x, fl[0]? = some x := ⟨_, List.getElem?_eq_getElem (by omega)⟩
            obtain ⟨y, hy⟩ : ∃ y, fl[m3 - 1]? = some y := ⟨_, List.getElem?_eq_getElem (by omega)⟩
            have HR5 := Lib.hid (HR3.out.below (BB34.out.trans (b5.mono BB34.out.size)))
            have HAB := Lib.hid (about_any (F := A1) (fn := n1) (fc := c1) (c := d3) HR5.out (by omega) (by omega) hx hy (by have := HCK2.out x (List.mem_of_getElem? hx); omega) (by have := HCK2.out y (List.mem_of_getElem? hy); omega))
            have HXX := Lib.hid hx
            have HYY := Lib.hid hy
            have HO1 : Hid ((openT xs).1 = fl ∧ (openT xs).2 = 0) := Lib.hid (by
              rw [HOT.out, if_neg (by simp), if_neg (by rw [HL3.out, ← HOE.out]; simp; exact hm0), if_neg (by simp)]
              exact ⟨rfl, rfl⟩)
            clear hle hx hy b5
            go_wp2_with fail
            with_reducible refine HEQ.out.mono ?_
            intro e w6 hq
            obtain ⟨h1, h2⟩ := hq
            subst h1
            rw [h2]
            clear h2
            go_wp2_with fail
            with_reducible refine HAB.out.mono ?_
            intro e w7 hq
            obtain ⟨K, kn, kc, F, fn, fc, h1, o7, o8, b7⟩ := hq
            subst h1
            have HF : Hid (RetTb w (openT xs).1 (openT xs).2 xs.length (.returned (.tuple #[.pointer (some ⟨w7.heap.size, 0, none⟩), .int .i64 0])) (w7.alloc (.cells #[.slice K kn kc, .slice F fn fc, .int .i64 (m3 : Int), .int .i64 (n1 : Int), .slice L3 m3 d3] 43))) := Lib.hid (.inr (by
              have bA : Below w7.heap.size w7 (w7.alloc (.cells #[.slice K kn kc, .slice F fn fc, .int .i64 (m3 : Int), .int .i64 (n1 : Int), .slice L3 m3 d3] 43)) := (Below.refl _ _).alloc (Nat.le_refl _) _
              have hs := B5.out.size
              obtain ⟨q1, q2⟩ := HO1.out
              rw [q1, q2, HL3.out, HLN.out]
              refine ⟨rfl, w7.heap.size, x, y, K, kn, kc, F, fn, fc, L3, m3, d3, rfl, HXX.out, HYY.out, Cl.new _ _ _, (o7.below bA).mono hs, (o8.below bA).mono hs, (HR5.out.below b7).below bA, hmd3, B5.out.trans ((belowT b7 bA).mono hs)⟩))
            clear o7 o8 b7
            go_wp2_with fail
            exact bodyPost_ret (v := .tuple #[.pointer (some ⟨w7.heap.size, 0, none⟩), .int .i64 0]) (by simp [results, Tryz.f15, go_sem]; try rfl) rfl HF.out
        · have HF : Hid (RetTb w (openT xs).1 (openT xs).2 xs.length (.returned (.tuple #[.pointer none, .int .i64 3])) w5) := Lib.hid (.inl (by
            rw [HOT.out, if_neg (by simp), if_neg (by rw [HL3.out, ← HOE.out]; simp; exact hm0), if_pos (.inl hsk0)]
            exact ⟨by decide, rfl, B5.out⟩))
          clear o5 b5
          go_wp2_with fail
          exact bodyPost_ret (v := .tuple #[.pointer none, .int .i64 3]) (by simp [results, Tryz.f15, go_sem]; try rfl) rfl HF.out
  · have HF : Hid (RetTb w (openT xs).1 (openT xs).2 xs.length (.returned (.tuple #[.pointer none, .int .i64 uk])) w2) := Lib.hid (.inl (by
      rw [HOT.out, if_pos huk0]
      exact ⟨huk0, rfl, B2.out⟩))
    go_wp2_with fail
    exact bodyPost_ret (v := .tuple #[.pointer none, .int .i64 uk]) (by simp [results, Tryz.f15, go_sem]; try rfl) rfl HF.out
end Go.Proofs.YtbgelbdnkbhffaaGreat
namespace Go.Proofs.YtbgelbdnkbhffaaGreat
open Go Go.RowKit

theorem tot_max {M : Nat} : ∀ {l : List (List UInt8)}, (∀ x ∈ l, x.length ≤ M) → tot l ≤ l.length * (M + 1)
  | [], _ => Nat.zero_le _
  | x :: r, h => by
    have h1 := tot_max (l := r) (fun y hy => h y (List.mem_cons_of_mem _ hy))
    have h2 := h x (List.mem_cons_self ..)
    simp only [tot, List.length_cons, Nat.add_mul]
    omega
theorem frameB_len2 : ∀ l : List (List UInt8), tot l ≤ 268435456 → (frameB l).length ≤ tot l + 10 * l.length
  | [], _ => by simp [frameB]
  | x :: r, h => by
    simp only [tot] at h
    have h1 := frameB_len2 r (by omega)
    have h2 : (putU x.length).length ≤ 10 := putU_len64 x.length (by unfold B64; omega)
    simp only [frameB, tot, List.length_append, List.length_cons]
    omega
theorem b4_len (es : List En) : (b4E es).length ≤ 1048584 := by
  unfold b4E
  rcases buildE_cases 4 es with ⟨F, h1, h2⟩ | ⟨q, h1, _⟩
  · rw [h1, sealB_len]; omega
  · rw [h1]; simp
/-- Bytes and a kind. -/
def RetRy (w : World) (z : List UInt8 × Int) (e : Ending) (w' : World) : Prop :=
  ∃ A n c, e = .returned (.tuple #[.slice A n c, .int .i64 z.2]) ∧ Own 5 w' w.heap.size A n c z.1 ∧ Below w.heap.size w w'
theorem RetRy.no {w w' : World} {z : List UInt8 × Int} {k : Int} (hz : z = ([], k)) (hb : Below w.heap.size w w') : RetRy w z (.returned (.tuple #[.slice none 0 0, .int .i64 k])) w' := by
  subst hz
  exact ⟨none, 0, 0, rfl, Own.nil _ _ _, hb⟩

/-- What stands in the loop. -/
def RbR (w : World) (size : Int) (es : List En) (n : Nat) (s7 s8 s9 s10 : Value) (wr : World) : Prop := ∃ (k m d lm ld b s : Nat) (B L : Option Addr) (g : List (List En)), k ≤ n ∧ b ≤ k ∧ m ≤ k ∧ lm ≤ k ∧ s10 = .int .i64 (k : Int) ∧ s7 = .slice B m d ∧ s8 = .slice L lm ld ∧ s9 = .int .i64 (s : Int) ∧ s ≤ totE (es.take k) ∧ (∀ x ∈ g, (buildE 4 x).2 = 0) ∧ (∃ r, grpE size es = g ++ r) ∧ (k < n → cutS size es k = (g, b, s)) ∧ (k = n → g = grpE size es) ∧ RfS w B m d (g.map b4E) L lm ld ((es.take k).drop b) wr
set_option maxRecDepth 100000 in
set_option maxHeartbeats 32000000 in
theorem refBytes_any {w : World} {A : Option Addr} {n c : Nat} {es : List En} (size : Int) (h : REs w A n es) (hn : n ≤ 200) (hs : ∀ x ∈ es, SzE x) (ht : totE es ≤ 1099511627776) :
    Calls Tryz.prog 13 #[.int .i64 size, .slice A n c] w (RetRy w (refT size es)) := by
  have HL := Lib.hid h.len
  have HR := Lib.hid h
  have HSZ := Lib.hid hs
  have HT := Lib.hid ht
  have HCK : Hid (Calls Tryz.prog 51 #[.slice A n c] w (RetNu w (checkE es))) := Lib.hid (refCheck_any h (by omega) hs)
  clear h hs ht
  go_enter Tryz.func13, Tryz.ntmps13
  by_cases hs1 : size < 1
  · have HF : Hid (RetRy w (refT size es) (.returned (.tuple #[.slice none 0 0, .int .i64 1])) w) := Lib.hid (RetRy.no (by unfold refT; rw [if_pos hs1]) (Below.refl _ _))
    go_wp2_with fail
    exact bodyPost_ret (v := .tuple #[.slice none 0 0, .int .i64 1]) (by simp [results, Tryz.f13, go_sem]; try rfl) rfl HF.out
  · go_wp2_with fail
    with_reducible refine HCK.out.mono ?_
    rintro e w1 ⟨rfl, b1⟩
    have B1 := Lib.hid b1
    clear b1 HCK
    obtain ⟨ck, hck⟩ : ∃ ck, ck = checkE es := ⟨_, rfl⟩
    have HCKE := Lib.hid hck
    rw [← hck]
    clear hck
    by_cases hc0 : ck = 0
    · subst hc0
      by_cases hn0 : n = 0
      · have HF : Hid (RetRy w (refT size es) (.returned (.tuple #[.slice none 0 0, .int .i64 3])) w1) := Lib.hid (RetRy.no (by
          unfold refT
          rw [if_neg (by omega), if_pos (.inr (by rw [HL.out]; exact hn0)), ← HCKE.out]
          rfl) B1.out)
        subst hn0
        go_wp2_with fail
        exact bodyPost_ret (v := .tuple #[.slice none 0 0, .int .i64 3]) (by simp [results, Tryz.f13, go_sem]; try rfl) rfl HF.out
      · have tn : ((n : Int) == 0) = false := by rw [beq_eq_false_iff_ne]; omega
        have HIO := Lib.hid (ordered_any (c := c) (HR.out.below B1.out) (by omega) HSZ.out)
        obtain ⟨oe, hoe⟩ : ∃ oe, oe = ordE es := ⟨_, rfl⟩
        rw [← hoe] at HIO
        have HOE := Lib.hid hoe
        clear hoe
        cases oe with
        | false =>
          have hZ3 : refT size es = ([], 3) := by
            unfold refT
            rw [if_neg (by omega), if_pos (.inl (by unfold chk1; rw [← HCKE.out, ← HOE.out]; decide)), ← HCKE.out]
            rfl
          have HZ3 := Lib.hid hZ3
          clear hZ3
          go_wp2_with fail
          with_reducible refine HIO.out.mono ?_
          intro e w2 hq
          obtain ⟨h1, b2⟩ := RetT.outD hq
          subst h1
          have HF : Hid (RetRy w (refT size es) (.returned (.tuple #[.slice none 0 0, .int .i64 3])) w2) := Lib.hid (RetRy.no HZ3.out (belowT' B1.out b2))
          clear hq b2
          go_wp2_with fail
          exact bodyPost_ret (v := .tuple #[.slice none 0 0, .int .i64 3]) (by simp [results, Tryz.f13, go_sem]; try rfl) rfl HF.out
        | true =>
          have HRT : Hid (refT size es = if rfE (grpE size es) ≠ 0 then ([], rfE (grpE size es)) else sealG (frameB [frameB ((grpE size es).map b4E), filB (grpE size es)])) := Lib.hid (by
            unfold refT
            rw [if_neg (by omega), if_neg]
            rintro (h1 | h1)
            · exact h1 (by unfold chk1; rw [← HCKE.out, ← HOE.out]; rfl)
            · rw [HL.out] at h1; exact hn0 h1)
          go_wp2_with fail
          with_reducible refine HIO.out.mono ?_
          intro e w2 hq
          obtain ⟨h1, b2⟩ := RetT.outD hq
          subst h1
          have B2 := Lib.hid (belowT' B1.out b2)
          clear hq b2 HIO
          go_wp2_with fail
          go_loopw [7, 8, 9, 10] (fun s7 s8 s9 s10 wr => RbR w size es n s7 s8 s9 s10 wr) (fun _ _ _ s _ => n - (intOf s).toNat)
          case atStart => exact ⟨0, 0, 0, 0, 0, 0, 0, none, none, [], Nat.zero_le _, Nat.le_refl _, Nat.le_refl _, Nat.le_refl _, rfl, rfl, rfl, rfl, Nat.zero_le _, (fun x h => by cases h), ⟨_, rfl⟩, fun _ => rfl, fun h => absurd h.symm hn0, (RfS.zero w).below B2.out⟩
          case round =>
            obtain ⟨k, m, d, lm, ld, b, s, B, L, g, hk, hbk, hmk, hlk, rfl, rfl, rfl, rfl, hsT, hok, hpre, hC, hE, hS⟩ := hrel
            have HS := Lib.hid hS
            have HB := Lib.hid hS.bel
            have HOK := Lib.hid hok
            have HPRE := Lib.hid hpre
            have HST := Lib.hid hsT
            by_cases hlt : k < n
            · have HC := Lib.hid (hC hlt)
              clear hS hok hpre hsT hC hE
              obtain ⟨bb, off, hAb, hbl⟩ := HR.out.pos (by omega)
              subst hAb
              obtain ⟨x, v0, v1, v2, v3, hx, c0, c1, c2, c3, hev⟩ := HR.out.at_ k hlt
              have HEV := Lib.hid hev
              obtain ⟨K, kn, kc, V, vn, vc, rfl, rfl, rfl, rfl, hrk, hrv, _⟩ := hev.parts
              have hwE : wE x = kn + vn := by unfold wE; rw [hrk.len, hrv.len]
              have hTS := totE_snoc hx
              have hTL := totE_take es (k + 1)
              obtain ⟨s2, hs2⟩ : ∃ s2, s2 = s + wE x := ⟨_, rfl⟩
              have hs2T : s2 ≤ totE (es.take (k + 1)) := by have := HST.out; omega
              have hs2B : s2 ≤ 1099511627776 := by have := HT.out; omega
              have hw1 : IntKind.i64.wrap ((s : Int) + (kn : Int)) = (s : Int) + (kn : Int) := IntWalk.i64_in _ (by omega)
              have hw2 : IntKind.i64.wrap ((s : Int) + (kn : Int) + (vn : Int)) = (s2 : Int) := by rw [IntWalk.i64_in _ (by omega)]; omega
              have HX := Lib.hid hx
              have HS2 := Lib.hid hs2
              have HS2T := Lib.hid hs2T
              have HDR : Hid ((es.take (k + 1)).drop b = (es.take k).drop b ++ [x]) := Lib.hid (by
                rw [List.take_add_one, hx]
                have hl := HL.out
                rw [List.drop_append_of_le_length (by rw [List.length_take]; omega)]
                rfl)
              obtain ⟨W1, hW1⟩ : ∃ W1, W1 = wr.alloc (.cells #[.slice K kn kc, .int .u64 (x.seq : Int), .int .u8 (x.kind : Int), .slice V vn vc] 49) := ⟨_, rfl⟩
              have bW1 : Below wr.heap.size wr W1 := by rw [hW1]; exact (Below.refl _ _).alloc (Nat.le_refl _) _
              obtain ⟨bvs, vs, q1, q2, q3, q4, q5, q6⟩ := HS.out.below bW1
              have Q1 := Lib.hid q1
              have Q2 := Lib.hid q2
              have Q3 := Lib.hid q3
              have Q4 := Lib.hid q4
              have Q5 := Lib.hid q5
              have Q6 := Lib.hid q6
              have HRD : Hid (RdV W1 (some ⟨wr.heap.size, 0, none⟩) (1 * 4) [.slice K kn kc, .int .u64 (x.seq : Int), .int .u8 (x.kind : Int), .slice V vn vc]) := Lib.hid (by rw [hW1]; exact rdv_of_cl (Cl.new wr #[.slice K kn kc, .int .u64 (x.seq : Int), .int .u8 (x.kind : Int), .slice V vn vc] 49))
              have HON := Lib.hid hev.cells
              have HCELL : Hid (∀ wx, Below w.heap.size w wx → wx.cell? ⟨bb, off + k * 4, none⟩ = some (.slice K kn kc) ∧ wx.cell? ⟨bb, off + k * 4 + 1, none⟩ = some (.int .u64 (x.seq : Int)) ∧ wx.cell? ⟨bb, off + k * 4 + 2, none⟩ = some (.int .u8 (x.kind : Int)) ∧ wx.cell? ⟨bb, off + k * 4 + 3, none⟩ = some (.slice V vn vc)) := Lib.hid (fun wx h => ⟨(h.cell (p := ⟨bb, off + k * 4, none⟩) hbl).trans c0, (h.cell (p := ⟨bb, off + k * 4 + 1, none⟩) hbl).trans c1, (h.cell (p := ⟨bb, off + k * 4 + 2, none⟩) hbl).trans c2, (h.cell (p := ⟨bb, off + k * 4 + 3, none⟩) hbl).trans c3⟩)
              obtain ⟨d0, d1, d2, d3⟩ := HCELL.out _ HB.out
              have HW1 := Lib.hid hW1
              obtain ⟨u1, hu1⟩ : ∃ u1, u1 = wr.heap.size := ⟨_, rfl⟩
              rw [← hu1] at HRD
              have HU1 := Lib.hid hu1
              clear hx c0 c1 c2 c3 hev hrk hrv hwE hTS hTL hs2 hs2T bW1 q1 q2 q3 q4 q5 q6 hW1 hu1
              go_wp2_with (at_builtin; rw [← HW1.out, ← HU1.out]; refine wpList_app4 W1 rfl _ _ 22 rfl w.heap.size _ 64 Tryz.underlying22 info_ent rfl L lm ld vs rfl Q3.out (some ⟨u1, 0, none⟩) 1 1 [.slice K kn kc, .int .u64 (x.seq : Int), .int .u8 (x.kind : Int), .slice V vn vc] rfl HRD.out HON.out ?_ ?_ ?_ ?_)
              · omega
              · omega
              · exact Q6.out.size
              intro L' ld' w3 o3 hg3 _
              have HS3 : Hid (RfS w B m d (g.map b4E) L' (lm + 1) ld' ((es.take (k + 1)).drop b) w3) := Lib.hid (by
                rw [HDR.out]
                exact RfS.addE Q1.out Q2.out Q3.out Q4.out Q5.out Q6.out HEV.out o3 hg3)
              clear o3 hg3 d0 d1 d2 d3
              obtain ⟨d0, d1, d2, d3⟩ := HCELL.out _ HS3.out.bel
              go_wp2_with fail
              go_quiet (fail)
              obtain ⟨wq, hwq⟩ : ∃ wq, wq = w3.drewN nq := ⟨_, rfl⟩
              rw [← hwq]
              have bq : Below w3.heap.size w3 wq := by rw [hwq]; exact below_drewN (Below.refl _ _) nq
              have HSQ := Lib.hid (HS3.out.below bq)
              clear hwq bq d0 d1 d2 d3
              have hnw : IntKind.i64.wrap ((n : Int) - 1) = (n : Int) - 1 := IntWalk.i64_in _ (by omega)
              by_cases hge : size ≤ (s2 : Int)
              · have HFL : Hid ((∃ r, grpE size es = (g ++ [(es.take (k + 1)).drop b]) ++ r) ∧ (k + 1 < n → cutS size es (k + 1) = (g ++ [(es.take (k + 1)).drop b], k + 1, 0)) ∧ (k + 1 = n → g ++ [(es.take (k + 1)).drop b] = grpE size es)) := Lib.hid (by
                  have h1 := cutS_yes HC.out HX.out (by rw [← HS2.out]; exact hge)
                  have h2 := HL.out
                  refine ⟨?_, fun _ => h1, fun h => (grpE_last HC.out HX.out (by omega) hbk).symm⟩
                  obtain ⟨r, hr⟩ := grpE_pre size es (k + 1) (by omega)
                  rw [h1] at hr
                  exact ⟨r, hr⟩)
                clear hnw
                obtain ⟨ng, hng⟩ : ∃ ng, ng = (es.take (k + 1)).drop b := ⟨_, rfl⟩
                have HNG := Lib.hid hng
                have hnz : ∀ y ∈ ng, SzE y := fun y hy => HSZ.out y (List.mem_of_mem_take (List.mem_of_mem_drop (by rw [← hng]; exact hy)))
                obtain ⟨zk, hzk⟩ : ∃ zk, zk = (buildE 4 ng).2 := ⟨_, rfl⟩
                obtain ⟨zb, hzb⟩ : ∃ zb, zb = b4E ng := ⟨_, rfl⟩
                obtain ⟨bn, hbn⟩ : ∃ bn, bn = zb.length := ⟨_, rfl⟩
                have HB8 : Hid (Calls Tryz.prog 59 #[.int .i64 4, .slice L' (lm + 1) ld'] wq (fun e w' => ∃ A c, e = .returned (.tuple #[.slice A bn c, .int .i64 zk]) ∧ Own 5 w' wq.heap.size A bn c zb ∧ Below wq.heap.size wq w')) := Lib.hid (by
                  have h1 := HSQ.out.res
                  rw [← hng] at h1
                  refine (refBuild8_any h1 (by omega) hnz 4 (by omega) (by omega)).mono ?_
                  rintro e w' ⟨A, c, h1, h2, h3⟩
                  rw [hbn, hzb, hzk]
                  exact ⟨A, c, h1, h2, h3⟩)
                have HZK := Lib.hid hzk
                have HZB := Lib.hid hzb
                clear hng hnz hzk hzb hbn
                go_wp2_with fail
                with_reducible refine HB8.out.mono ?_
                intro e w4 hq
                obtain ⟨A4, c4, h1, o4, b4⟩ := hq
                subst h1
                by_cases hz0 : zk = 0
                · have HGOK : Hid (∀ y ∈ g ++ [ng], (buildE 4 y).2 = 0) := Lib.hid (fun y hy => by
                    rcases List.mem_append.1 hy with h | h
                    · exact HOK.out y h
                    · rw [List.mem_singleton] at h
                      rw [h, ← HZK.out, hz0])
                  subst hz0
                  obtain ⟨W2, hW2⟩ : ∃ W2, W2 = w4.alloc (.cells #[.slice A4 bn c4] 29) := ⟨_, rfl⟩
                  have bW2 : Below w4.heap.size w4 W2 := by rw [hW2]; exact (Below.refl _ _).alloc (Nat.le_refl _) _
                  have bq2 : Below wq.heap.size wq W2 := belowT b4 bW2
                  obtain ⟨bvs2, vs2, q1, q2, q3, q4, q5, q6⟩ := HSQ.out.below bq2
                  have P1 := Lib.hid q1
                  have P2 := Lib.hid q2
                  have P3 := Lib.hid q3
                  have P4 := Lib.hid q4
                  have P5 := Lib.hid q5
                  have P6 := Lib.hid q6
                  have O4 : Hid (Own 5 W2 w.heap.size A4 bn c4 zb) := Lib.hid ((o4.below bW2).mono HSQ.out.bel.size)
                  have HRD2 : Hid (RdV W2 (some ⟨w4.heap.size, 0, none⟩) 1 [.slice A4 bn c4]) := Lib.hid (by rw [hW2]; exact OwnV.rd (ownV_box2 w4 29 w4.heap.size [.slice A4 bn c4] 1 rfl (by omega) (Nat.le_refl _) _ rfl))
                  have hone : ∀ u ∈ [Value.slice A4 bn c4], u.oneCell' = true := by intro u hu; rw [List.mem_singleton] at hu; rw [hu]; rfl
                  have HON2 := Lib.hid hone
                  have HW2 := Lib.hid hW2
                  obtain ⟨u2, hu2⟩ : ∃ u2, u2 = w4.heap.size := ⟨_, rfl⟩
                  rw [← hu2] at HRD2
                  have HU2 := Lib.hid hu2
                  clear q1 q2 q3 q4 q5 q6 o4 b4 hone hW2 bW2 bq2 hu2
                  go_wp2_with (at_builtin; rw [← HW2.out, ← HU2.out]; refine wpList_appV W2 rfl _ _ 99 rfl w.heap.size 29 (.slice none 0 0) 24 Tryz.underlying99 info_sl rfl B m d bvs2 rfl P1.out (some ⟨u2, 0, none⟩) 1 1 [.slice A4 bn c4] rfl HRD2.out HON2.out ?_ ?_ ?_ ?_)
                  · unfold maxLen; omega
                  · omega
                  · exact P6.out.size
                  intro B' d' w5 o5 hg5 _
                  have HS5 : Hid (RfS w B' (m + 1) d' ((g ++ [ng]).map b4E) none 0 0 ((es.take (k + 1)).drop (k + 1)) w5) := Lib.hid (by
                    have h1 := RfS.addB P1.out P2.out P3.out P4.out P5.out P6.out O4.out o5 hg5
                    rw [HZB.out] at h1
                    rw [List.map_append, List.drop_of_length_le (by rw [List.length_take]; omega)]
                    exact h1.clear)
                  clear o5 hg5
                  have HFL2 := Lib.hid HFL.out.2
                  have HFL1 := Lib.hid HFL.out.1
                  go_wp2_with fail
                  go_roundw
                  case rel => exact ⟨k + 1, m + 1, d', 0, 0, k + 1, 0, B', none, g ++ [ng], by omega, Nat.le_refl _, by omega, by omega, by go_num, rfl, rfl, rfl, Nat.zero_le _, HGOK.out, by rw [HNG.out]; exact HFL1.out, fun h => by rw [HNG.out]; exact HFL2.out.1 h, fun h => by rw [HNG.out]; exact HFL2.out.2 h, HS5.out⟩
                  case measure => simp [intOf]; omega
                · have HF : Hid (RetRy w (refT size es) (.returned (.tuple #[.slice none 0 0, .int .i64 zk])) w4) := Lib.hid (RetRy.no (by
                    obtain ⟨r, hr⟩ := HFL.out.1
                    have h1 : rfE (grpE size es) = zk := by
                      rw [hr, List.append_assoc, ← HNG.out, HZK.out]
                      exact rfE_at HOK.out (by rw [← HZK.out]; exact hz0)
                    rw [HRT.out, h1, if_pos hz0]) (HSQ.out.bel.trans (b4.mono HSQ.out.bel.size)))
                  clear o4 b4
                  go_wp2_with fail
                  exact bodyPost_ret (v := .tuple #[.slice none 0 0, .int .i64 zk]) (by simp [results, Tryz.f13, go_sem]; try rfl) rfl HF.out
              · by_cases hlast : k + 1 = n
                · have HFL : Hid ((∃ r, grpE size es = (g ++ [(es.take (k + 1)).drop b]) ++ r) ∧ (k + 1 < n → cutS size es (k + 1) = (g ++ [(es.take (k + 1)).drop b], k + 1, 0)) ∧ (k + 1 = n → g ++ [(es.take (k + 1)).drop b] = grpE size es)) := Lib.hid (by
                    have h2 := HL.out
                    have h1 := grpE_last HC.out HX.out (by omega) hbk
                    exact ⟨⟨[], by rw [h1, List.append_nil]⟩, fun h => absurd h (by omega), fun _ => h1.symm⟩)
                  have t1 : ((k : Int) == (n : Int) - 1) = true := by rw [beq_iff_eq]; omega
                  have t2 : (k : Int) = (n : Int) - 1 := by omega
                  obtain ⟨ng, hng⟩ : ∃ ng, ng = (es.take (k + 1)).drop b := ⟨_, rfl⟩
                  have HNG := Lib.hid hng
                  have hnz : ∀ y ∈ ng, SzE y := fun y hy => HSZ.out y (List.mem_of_mem_take (List.mem_of_mem_drop (by rw [← hng]; exact hy)))
                  obtain ⟨zk, hzk⟩ : ∃ zk, zk = (buildE 4 ng).2 := ⟨_, rfl⟩
                  obtain ⟨zb, hzb⟩ : ∃ zb, zb = b4E ng := ⟨_, rfl⟩
                  obtain ⟨bn, hbn⟩ : ∃ bn, bn = zb.length := ⟨_, rfl⟩
                  have HB8 : Hid (Calls Tryz.prog 59 #[.int .i64 4, .slice L' (lm + 1) ld'] wq (fun e w' => ∃ A c, e = .returned (.tuple #[.slice A bn c, .int .i64 zk]) ∧ Own 5 w' wq.heap.size A bn c zb ∧ Below wq.heap.size wq w')) := Lib.hid (by
                    have h1 := HSQ.out.res
                    rw [← hng] at h1
                    refine (refBuild8_any h1 (by omega) hnz 4 (by omega) (by omega)).mono ?_
                    rintro e w' ⟨A, c, h1, h2, h3⟩
                    rw [hbn, hzb, hzk]
                    exact ⟨A, c, h1, h2, h3⟩)
                  have HZK := Lib.hid hzk
                  have HZB := Lib.hid hzb
                  clear hng hnz hzk hzb hbn
                  go_wp2_with fail
                  with_reducible refine HB8.out.mono ?_
                  intro e w4 hq
                  obtain ⟨A4, c4, h1, o4, b4⟩ := hq
                  subst h1
                  by_cases hz0 : zk = 0
                  · have HGOK : Hid (∀ y ∈ g ++ [ng], (buildE 4 y).2 = 0) := Lib.hid (fun y hy => by
                      rcases List.mem_append.1 hy with h | h
                      · exact HOK.out y h
                      · rw [List.mem_singleton] at h
                        rw [h, ← HZK.out, hz0])
                    subst hz0
                    obtain ⟨W2, hW2⟩ : ∃ W2, W2 = w4.alloc (.cells #[.slice A4 bn c4] 29) := ⟨_, rfl⟩
                    have bW2 : Below w4.heap.size w4 W2 := by rw [hW2]; exact (Below.refl _ _).alloc (Nat.le_refl _) _
                    have bq2 : Below wq.heap.size wq W2 := belowT b4 bW2
                    obtain ⟨bvs2, vs2, q1, q2, q3, q4, q5, q6⟩ := HSQ.out.below bq2
                    have P1 := Lib.hid q1
                    have P2 := Lib.hid q2
                    have P3 := Lib.hid q3
                    have P4 := Lib.hid q4
                    have P5 := Lib.hid q5
                    have P6 := Lib.hid q6
                    have O4 : Hid (Own 5 W2 w.heap.size A4 bn c4 zb) := Lib.hid ((o4.below bW2).mono HSQ.out.bel.size)
                    have HRD2 : Hid (RdV W2 (some ⟨w4.heap.size, 0, none⟩) 1 [.slice A4 bn c4]) := Lib.hid (by rw [hW2]; exact OwnV.rd (ownV_box2 w4 29 w4.heap.size [.slice A4 bn c4] 1 rfl (by omega) (Nat.le_refl _) _ rfl))
                    have hone : ∀ u ∈ [Value.slice A4 bn c4], u.oneCell' = true := by intro u hu; rw [List.mem_singleton] at hu; rw [hu]; rfl
                    have HON2 := Lib.hid hone
                    have HW2 := Lib.hid hW2
                    obtain ⟨u2, hu2⟩ : ∃ u2, u2 = w4.heap.size := ⟨_, rfl⟩
                    rw [← hu2] at HRD2
                    have HU2 := Lib.hid hu2
                    clear q1 q2 q3 q4 q5 q6 o4 b4 hone hW2 bW2 bq2 hu2
                    go_wp2_with (at_builtin; rw [← HW2.out, ← HU2.out]; refine wpList_appV W2 rfl _ _ 99 rfl w.heap.size 29 (.slice none 0 0) 24 Tryz.underlying99 info_sl rfl B m d bvs2 rfl P1.out (some ⟨u2, 0, none⟩) 1 1 [.slice A4 bn c4] rfl HRD2.out HON2.out ?_ ?_ ?_ ?_)
                    · unfold maxLen; omega
                    · omega
                    · exact P6.out.size
                    intro B' d' w5 o5 hg5 _
                    have HS5 : Hid (RfS w B' (m + 1) d' ((g ++ [ng]).map b4E) none 0 0 ((es.take (k + 1)).drop (k + 1)) w5) := Lib.hid (by
                      have h1 := RfS.addB P1.out P2.out P3.out P4.out P5.out P6.out O4.out o5 hg5
                      rw [HZB.out] at h1
                      rw [List.map_append, List.drop_of_length_le (by rw [List.length_take]; omega)]
                      exact h1.clear)
                    clear o5 hg5
                    have HFL2 := Lib.hid HFL.out.2
                    have HFL1 := Lib.hid HFL.out.1
                    go_wp2_with fail
                    go_roundw
                    case rel => exact ⟨k + 1, m + 1, d', 0, 0, k + 1, 0, B', none, g ++ [ng], by omega, Nat.le_refl _, by omega, by omega, by go_num, rfl, rfl, rfl, Nat.zero_le _, HGOK.out, by rw [HNG.out]; exact HFL1.out, fun h => by rw [HNG.out]; exact HFL2.out.1 h, fun h => by rw [HNG.out]; exact HFL2.out.2 h, HS5.out⟩
                    case measure => simp [intOf]; omega
                  · have HF : Hid (RetRy w (refT size es) (.returned (.tuple #[.slice none 0 0, .int .i64 zk])) w4) := Lib.hid (RetRy.no (by
                      obtain ⟨r, hr⟩ := HFL.out.1
                      have h1 : rfE (grpE size es) = zk := by
                        rw [hr, List.append_assoc, ← HNG.out, HZK.out]
                        exact rfE_at HOK.out (by rw [← HZK.out]; exact hz0)
                      rw [HRT.out, h1, if_pos hz0]) (HSQ.out.bel.trans (b4.mono HSQ.out.bel.size)))
                    clear o4 b4
                    go_wp2_with fail
                    exact bodyPost_ret (v := .tuple #[.slice none 0 0, .int .i64 zk]) (by simp [results, Tryz.f13, go_sem]; try rfl) rfl HF.out
                · have t1 : ((k : Int) == (n : Int) - 1) = false := by rw [beq_eq_false_iff_ne]; omega
                  have t2 : ¬ (k : Int) = (n : Int) - 1 := by omega
                  have HC2 : Hid (cutS size es (k + 1) = (g, b, s2)) := Lib.hid (by rw [HS2.out]; exact cutS_no HC.out HX.out (by rw [← HS2.out]; exact hge))
                  go_wp2_with fail
                  go_roundw
                  case rel => exact ⟨k + 1, m, d, lm + 1, ld', b, s2, B, L', g, by omega, by omega, by omega, by omega, by go_num, rfl, rfl, rfl, HS2T.out, HOK.out, HPRE.out, fun _ => HC2.out, fun h => absurd h hlast, HSQ.out⟩
                  case measure => simp [intOf]; omega
            · have hkn : k = n := by omega
              have hg := hE hkn
              have HG : Hid (g.map b4E = (grpE size es).map b4E) := Lib.hid (by rw [hg])
              have HRF : Hid (rfE (grpE size es) = 0) := Lib.hid (by rw [← hg]; exact rfE_ok hok)
              clear hS hok hpre hsT hC hE hg
              have hkeys : ∀ x ∈ es, x.key.length ≤ maxLen := fun x hx => by
                have := (HSZ.out x hx).1
                unfold maxLen
                omega
              have HFI := Lib.hid (refFilter_any (c := c) (HR.out.below HB.out) (by omega) hkeys)
              obtain ⟨fs, hfs⟩ : ∃ fs, fs = filterB 10 (compB (es.map (·.key))) := ⟨_, rfl⟩
              obtain ⟨fn, hfn⟩ : ∃ fn, fn = fs.length := ⟨_, rfl⟩
              have hfl : fs.length ≤ 2501 := by
                rw [hfs]
                refine filter_len (by omega) ?_
                have h1 := compN_len (es.map (·.key)) (es.map (·.key)).length
                have h2 := HL.out
                have h3 : (compB (es.map (·.key))).length ≤ (es.map (·.key)).length := h1
                rw [List.length_map] at h3
                omega
              rw [← hfs] at HFI
              have HFS : Hid (fs = filB (grpE size es)) := Lib.hid (by unfold filB; rw [grpE_keys]; exact hfs)
              have HFN := Lib.hid hfn
              have HFL := Lib.hid hfl
              clear hkeys hfs hfn hfl
              go_wp2_with fail
              with_reducible refine HFI.out.mono ?_
              intro e w3 hq
              obtain ⟨A3, c3, h1, o3, b3⟩ := hq
              rw [← HFN.out] at h1 o3
              subst h1
              have HB3 := Lib.hid (HB.out.trans (b3.mono HB.out.size))
              obtain ⟨bss, hbss⟩ : ∃ bss, bss = (grpE size es).map b4E := ⟨_, rfl⟩
              have hrd := (HS.out.below b3).rdl
              rw [HG.out, ← hbss] at hrd
              have hbl : bss.length ≤ 200 := by
                have h1 := grpE_len size es
                rw [HL.out] at h1
                rw [hbss, List.length_map]
                omega
              have hbt : tot bss ≤ 209717000 := by
                have h1 : tot bss ≤ bss.length * 1048585 := tot_max (fun x hx => by
                  rw [hbss] at hx
                  obtain ⟨y, _, rfl⟩ := List.mem_map.1 hx
                  exact b4_len y)
                have h2 := Nat.mul_le_mul_right 1048585 hbl
                omega
              have HFR := Lib.hid (refFrame_any B m d bss w3 hrd (by omega))
              obtain ⟨f1, hf1⟩ : ∃ f1, f1 = frameB bss := ⟨_, rfl⟩
              have hl1 : f1.length ≤ 209720000 := by
                have h1 := frameB_len2 bss (by omega)
                rw [← hf1] at h1
                omega
              rw [← hf1] at HFR
              have HF1 : Hid (f1 = frameB ((grpE size es).map b4E)) := Lib.hid (by rw [hf1, hbss])
              have HO3 := Lib.hid o3
              clear b3 o3 hrd hbt hf1 hbss
              go_wp2_with fail
              with_reducible refine HFR.out.mono ?_
              intro e w6 hq
              obtain ⟨A6, n6, c6, h1, o6, b6⟩ := hq
              subst h1
              obtain ⟨W6, hW6⟩ : ∃ W6, W6 = w6.alloc (.cells #[.slice A6 n6 c6, .slice A3 fn c3] 29) := ⟨_, rfl⟩
              have bW6 : Below w6.heap.size w6 W6 := by rw [hW6]; exact (Below.refl _ _).alloc (Nat.le_refl _) _
              have hrl : RdL W6 (some ⟨w6.heap.size, 0, none⟩) 2 [f1, fs] := by
                rw [hW6]
                exact rdl_box2 (elb_own o6) (elb_own (HO3.out.below b6))
              have ht2 : tot [f1, fs] ≤ 209730000 := by simp only [tot]; have := HFL.out; omega
              have HFR2 : Hid (Calls Tryz.prog 62 #[.slice (some ⟨w6.heap.size, 0, none⟩) 2 2] W6 (Made W6.heap.size W6 (frameB [f1, fs]))) := Lib.hid (refFrame_any _ 2 2 _ W6 hrl (by omega))
              have HB6 := Lib.hid (HB3.out.trans ((belowT b6 bW6).mono HB3.out.size))
              have HW6 := Lib.hid hW6
              obtain ⟨u6, hu6⟩ : ∃ u6, u6 = w6.heap.size := ⟨_, rfl⟩
              rw [← hu6] at HFR2
              have HU6 := Lib.hid hu6
              have hl2 : (frameB [f1, fs]).length ≤ 209740000 := by
                have h1 := frameB_len2 [f1, fs] (by omega)
                simp only [List.length_cons, List.length_nil] at h1
                omega
              have HL2 := Lib.hid hl2
              clear o6 b6 hW6 bW6 hrl ht2 hu6 hl2
              go_wp2_with fail
              rw [← HW6.out, ← HU6.out]
              with_reducible refine HFR2.out.mono ?_
              intro e w7 hq
              obtain ⟨A7, n7, c7, h1, o7, b7⟩ := hq
              subst h1
              obtain ⟨f2, hf2⟩ : ∃ f2, f2 = frameB [f1, fs] := ⟨_, rfl⟩
              rw [← hf2] at o7 HL2
              have hn7 : n7 ≤ 209740000 := by rw [← o7.len]; exact HL2.out
              obtain ⟨z, hz⟩ : ∃ z, z = refT size es := ⟨_, rfl⟩
              have hz2 : z = sealG f2 := by
                rw [hz, HRT.out, if_neg (by rw [HRF.out]; simp), ← HF1.out, ← HFS.out, ← hf2]
              have HSL : Hid (Calls Tryz.prog 61 #[.slice A7 n7 c7] w7 (RetSE w7.heap.size w7 z)) := Lib.hid (by
                rw [hz2]
                exact refSeal_any A7 n7 c7 f2 w7 o7.rd (by omega))
              have HB7 := Lib.hid (HB6.out.trans (b7.mono HB6.out.size))
              have HZ := Lib.hid hz
              obtain ⟨zk, hzk⟩ : ∃ zk, zk = z.2 := ⟨_, rfl⟩
              have HZK := Lib.hid hzk
              clear o7 b7 hf2 hz hz2 hzk
              go_wp2_with fail
              with_reducible refine HSL.out.mono ?_
              intro e w8 hq
              obtain ⟨A8, n8, c8, h1, o8, b8⟩ := hq
              rw [← HZK.out] at h1
              subst h1
              have HF : Hid (RetRy w (refT size es) (.returned (.tuple #[.slice A8 n8 c8, .int .i64 zk])) w8) := Lib.hid ⟨A8, n8, c8, by rw [← HZ.out, HZK.out], by rw [← HZ.out]; exact o8.mono HB7.out.size, HB7.out.trans (b8.mono HB7.out.size)⟩
              clear o8 b8
              go_wp2_with fail
              exact bodyPost_ret (v := .tuple #[.slice A8 n8 c8, .int .i64 zk]) (by simp [results, Tryz.f13, go_sem]; try rfl) rfl HF.out
    · have HF : Hid (RetRy w (refT size es) (.returned (.tuple #[.slice none 0 0, .int .i64 ck])) w1) := Lib.hid (RetRy.no (by
        unfold refT
        rw [if_neg (by omega), if_pos (.inl (by unfold chk1; rw [← HCKE.out, if_pos hc0]; exact hc0)), ← HCKE.out, if_pos hc0]) B1.out)
      go_wp2_with fail
      exact bodyPost_ret (v := .tuple #[.slice none 0 0, .int .i64 ck]) (by simp [results, Tryz.f13, go_sem]; try rfl) rfl HF.out
end Go.Proofs.YtbgelbdnkbhffaaGreat
namespace Go.Proofs.YtbgelbdnkbhffaaGreat
open Go Go.RowKit Go.Maps

section
variable {w w' : World} {p : Nat} {bl : List Nat} {room u : Nat} {fs : List FE}
theorem remove_live_none (x : List UInt8) (h : Live w p bl room u fs) (hx : ∀ f ∈ fs, f.1 ≠ x) (hl : x.length ≤ maxLen) :
    Calls Tryz.prog 123 #[.pointer (some ⟨p, 0, none⟩), .string (tx x)] w (RetNo w 6) := by
  obtain ⟨m, rs, h1, rfl, h3, h4⟩ := h
  exact remove_none x h1 (fun r hr e => hx r.val (by rw [← h3]; exact List.mem_map.2 ⟨r, hr, rfl⟩) e) hl
theorem read_live_none (x : List UInt8) (h : Live w p bl room u fs) (hx : ∀ f ∈ fs, f.1 ≠ x) (hl : x.length ≤ maxLen) :
    Calls Tryz.prog 55 #[.pointer (some ⟨p, 0, none⟩), .string (tx x)] w (RetRd w [] 6) := by
  obtain ⟨m, rs, h1, rfl, h3, h4⟩ := h
  exact read_none x h1 (fun r hr e => hx r.val (by rw [← h3]; exact List.mem_map.2 ⟨r, hr, rfl⟩) e) hl
theorem rename_live_one {a b ys : List UInt8} {s : Nat} (h : Live w p bl room u [(a, ys, s)]) (hab : a ≠ b) (hla : a.length ≤ 1099511627776) (hlb : b.length ≤ 1099511627776) (hu : u ≤ 9223372036854775807) :
    Calls Tryz.prog 125 #[.pointer (some ⟨p, 0, none⟩), .string (tx a), .string (tx b)] w (RetLv w p bl room u [(b, ys, s)] (.int .i64 0)) := by
  obtain ⟨m, rs, h1, rfl, h3, h4⟩ := h
  obtain ⟨r, hr, hv⟩ : ∃ r, rs = [r] ∧ r.val = (a, ys, s) := by
    match rs, h3 with
    | [r], h3 =>
      simp only [List.map_cons, List.map_nil, List.cons.injEq, and_true] at h3
      exact ⟨r, rfl, h3⟩
  subst hr
  have e1 : r.name = a := congrArg (·.1) hv
  have e2 : r.dat = ys := congrArg (·.2.1) hv
  have e3 : r.saf = s := congrArg (·.2.2) hv
  have hup : rsUp [r] := rsUp_of (by rw [h3]; exact h4)
  obtain ⟨l0, d0⟩ := lenR_none (x := b) (rs := [r]) (fun q hq => by rw [List.mem_singleton] at hq; rw [hq, e1]; exact hab)
  have hR := rename_some b u h1 hup (List.mem_singleton.2 rfl) (by rw [e1]; exact hla) hlb (by omega) (by simp [tE]) (by rw [e1]; exact hab) (by rw [l0]; omega) hu (by simp)
  rw [e1] at hR
  refine hR.mono ?_
  rintro e w' ⟨rfl, r', m', hn', hd', hs', hD', hF', hB'⟩
  have hdel : delR a (delR b [r]) = [] := by rw [d0, ← e1]; simp [delR]
  rw [l0, Nat.sub_zero] at hD'
  rw [hdel] at hD' hB'
  have hp1 : putR r' [] = [r'] := rfl
  rw [hp1] at hD' hB'
  have hva : r'.val = (b, ys, s) := by unfold FR.val; rw [hn', hd', hs', e2, e3]
  refine ⟨rfl, _, ⟨m', _, by simpa [tL] using hD', rfl, by rw [List.map_cons, List.map_nil, hva], List.pairwise_singleton _ _⟩, hF', hB'⟩
end
end Go.Proofs.YtbgelbdnkbhffaaGreat
namespace Go.Proofs.YtbgelbdnkbhffaaGreat
open Go Go.RowKit

/-- A place among entries. -/
def plT (key : List UInt8) (at_ : Nat) : En := ⟨key, at_, 0, []⟩
/-- Doesn't the i-th entry stand ahead of the place? -/
def nlT (es : List En) (pl : En) (i : Nat) : Bool := match es[i]? with
  | some x => !lessE x pl
  | none => true
theorem zero_evT (w : World) (key : List UInt8) (at_ : Nat) {K : Option Addr} {kn kc : Nat} (h : Rd w K kn key) (hc : kn ≤ kc) (hnil : K = none → kc = 0) (ha : U64 at_) : EV w (plT key at_) (.slice K kn kc) (.int .u64 (at_ : Int)) (.int .u8 0) (.slice none 0 0) :=
  ⟨rfl, rfl, ha, by unfold plT; simp, ⟨K, kn, kc, rfl, h, hc, hnil⟩, ⟨none, 0, 0, rfl, Rd.nil _ _, Nat.le_refl _, fun _ => rfl⟩⟩

set_option maxRecDepth 100000 in
set_option maxHeartbeats 4000000 in
theorem tbFindC_any {w : World} {L : Option Addr} {n d : Nat} {es : List En} {bx q pb : Nat} {pl : En} {k0 k1 k2 k3 v0 v1 v2 v3 : Value} (h : REs w L n es) (hl : Cl w bx #[.pointer (some ⟨q, 0, none⟩)] 39) (hq : Cl w q #[k0, k1, k2, k3, .slice L n d] 43) (hp : Cl w pb #[v0, v1, v2, v3] 49) (hv : EV w pl v0 v1 v2 v3) (i : Nat) (hi : i < n) :
    Calls Tryz.prog 142 #[.int .i64 (i : Int), .pointer (some ⟨bx, 0, none⟩), .pointer (some ⟨pb, 0, none⟩)] w (RetT w (nlT es pl i)) := by
  obtain ⟨b, off, rfl, hbl⟩ := h.pos (by omega)
  obtain ⟨x, u0, u1, u2, u3, hx, c0, c1, c2, c3, hev⟩ := h.at_ i hi
  have hn : nlT es pl i = !lessE x pl := by unfold nlT; rw [hx]
  have l0 := hl.c1.1
  have m0 : w.cell? ⟨q, 4, none⟩ = some (.slice (some ⟨b, off, none⟩) n d) := hq.cell 4
  obtain ⟨p0, p1, p2, p3, _⟩ := hp.c4
  have hpl := hp.lt
  have hll := hl.lt
  have hql := hq.lt
  have HL : Hid (∀ wx, Below w.heap.size w wx → Calls Tryz.prog 137 #[.agg #[u0, u1, u2, u3], .agg #[v0, v1, v2, v3]] wx (RetT wx (lessE x pl))) := Lib.hid (fun wx hb => memLess_any (hev.below hb) (hv.below hb))
  have HSX : Hid (∀ wx, Below w.heap.size w wx → wx.cell? ⟨bx, 0, none⟩ = some (.pointer (some ⟨q, 0, none⟩)) ∧ wx.cell? ⟨q, 4, none⟩ = some (.slice (some ⟨b, off, none⟩) n d) ∧ wx.cell? ⟨b, off + i * 4, none⟩ = some u0 ∧ wx.cell? ⟨b, off + i * 4 + 1, none⟩ = some u1 ∧ wx.cell? ⟨b, off + i * 4 + 2, none⟩ = some u2 ∧ wx.cell? ⟨b, off + i * 4 + 3, none⟩ = some u3 ∧ wx.cell? ⟨pb, 0, none⟩ = some v0 ∧ wx.cell? ⟨pb, 1, none⟩ = some v1 ∧ wx.cell? ⟨pb, 2, none⟩ = some v2 ∧ wx.cell? ⟨pb, 3, none⟩ = some v3) := Lib.hid (fun wx h =>
    ⟨(h.cell (p := ⟨bx, 0, none⟩) hll).trans l0, (h.cell (p := ⟨q, 4, none⟩) hql).trans m0, (h.cell (p := ⟨b, off + i * 4, none⟩) hbl).trans c0, (h.cell (p := ⟨b, off + i * 4 + 1, none⟩) hbl).trans c1, (h.cell (p := ⟨b, off + i * 4 + 2, none⟩) hbl).trans c2, (h.cell (p := ⟨b, off + i * 4 + 3, none⟩) hbl).trans c3,
      (h.cell (p := ⟨pb, 0, none⟩) hpl).trans p0, (h.cell (p := ⟨pb, 1, none⟩) hpl).trans p1, (h.cell (p := ⟨pb, 2, none⟩) hpl).trans p2, (h.cell (p := ⟨pb, 3, none⟩) hpl).trans p3⟩)
  have hB0 : Below w.heap.size w w.drew := (Below.refl _ _).drew
  obtain ⟨z, hz⟩ : ∃ z, z = lessE x pl := ⟨_, rfl⟩
  rw [← hz] at HL hn
  have HN := Lib.hid hn
  clear h hl hp hq hv hx hev hz hn hpl hll hql
  go_enter Tryz.func142, Tryz.ntmps142
  go_wp2_with fail
  go_region_held3 (fun wx => wx.cell? ⟨bx, 0, none⟩ = some (.pointer (some ⟨q, 0, none⟩)) ∧ wx.cell? ⟨q, 4, none⟩ = some (.slice (some ⟨b, off, none⟩) n d) ∧ wx.cell? ⟨b, off + i * 4, none⟩ = some u0 ∧ wx.cell? ⟨b, off + i * 4 + 1, none⟩ = some u1 ∧ wx.cell? ⟨b, off + i * 4 + 2, none⟩ = some u2 ∧ wx.cell? ⟨b, off + i * 4 + 3, none⟩ = some u3 ∧ wx.cell? ⟨pb, 0, none⟩ = some v0 ∧ wx.cell? ⟨pb, 1, none⟩ = some v1 ∧ wx.cell? ⟨pb, 2, none⟩ = some v2 ∧ wx.cell? ⟨pb, 3, none⟩ = some v3) (first | assumption | exact HSX.out _ hB0)
    (first | (go_at_call 137; with_reducible refine (HL.out _ (by assumption)).mono ?_; intro e1 wn hq; obtain ⟨h1, bn⟩ := RetT.outD hq; subst h1; have bn' := belowT' (by assumption : Below w.heap.size w _) bn; have hS1 := HSX.out _ bn'))
  all_goals
    have HBN := Lib.hid (by assumption : Below w.heap.size w wn)
    go_wp2_with fail
    go_ret
    exact ⟨by rw [HN.out]; rfl, HBN.out⟩
theorem plT_mono {es : List En} {pl : En} (hso : SortL es) {n : Nat} (hn : es.length = n) (a b : Nat) (hab : a ≤ b) (hb : b < n) (hpa : nlT es pl a = true) : nlT es pl b = true := by
  by_cases e : a = b
  · subst e; exact hpa
  · unfold nlT at hpa ⊢
    obtain ⟨xa, hxa⟩ : ∃ x, es[a]? = some x := ⟨_, List.getElem?_eq_getElem (by omega)⟩
    obtain ⟨xb, hxb⟩ : ∃ x, es[b]? = some x := ⟨_, List.getElem?_eq_getElem (by omega)⟩
    rw [hxa] at hpa
    rw [hxb]
    simp only [Bool.not_eq_true'] at hpa ⊢
    have hl : lessE xa xb = true := by
      have hs := List.pairwise_iff_getElem.1 hso a b (by omega) (by omega) (by omega)
      have e1 := (List.getElem?_eq_some_iff.1 hxa).2
      have e2 := (List.getElem?_eq_some_iff.1 hxb).2
      rw [e1, e2] at hs
      exact hs
    cases hq : lessE xb pl with
    | false => rfl
    | true =>
      have := lessE_trans hl hq
      rw [hpa] at this
      cases this
theorem RetSe.outT {w w' : World} {n : Nat} {p : Nat → Bool} {e : Ending} (h : RetSe w n p e w') : ∃ r : Nat, e = .returned (.int .i64 (r : Int)) ∧ r ≤ n ∧ (∀ t, t < r → p t = false) ∧ (∀ t, r ≤ t → t < n → p t = true) ∧ Below w.heap.size w w' := h
set_option maxRecDepth 100000 in
set_option maxHeartbeats 16000000 in
theorem tbFind_any {w : World} {q n c : Nat} {A K0 : Option Addr} {k0 kc0 at_ : Nat} {u0 u1 u2 u3 : Value} {es : List En} {key : List UInt8} (hq : Cl w q #[u0, u1, u2, u3, .slice A n c] 43) (h : REs w A n es) (hn : n ≤ 1099511627776) (hso : SortL es) (hk : Rd w K0 k0 key) (hkc : k0 ≤ kc0) (hkn : K0 = none → kc0 = 0) (ha : U64 at_) :
    Calls Tryz.prog 70 #[.pointer (some ⟨q, 0, none⟩), .slice K0 k0 kc0, .int .u64 (at_ : Int)] w (RetSe w n (nlT es (plT key at_))) := by
  obtain ⟨U, hU⟩ : ∃ U, U = w.alloc (.cells #[.pointer (some ⟨q, 0, none⟩)] 39) := ⟨_, rfl⟩
  have bU : Below w.heap.size w U := by rw [hU]; exact (Below.refl _ _).alloc (Nat.le_refl _) _
  have zU : Cl U w.heap.size #[.pointer (some ⟨q, 0, none⟩)] 39 := by rw [hU]; exact Cl.new _ _ _
  obtain ⟨W, hW⟩ : ∃ W, W = U.alloc (.cells #[.slice K0 k0 kc0, .int .u64 (at_ : Int), .int .u8 0, .slice none 0 0] 49) := ⟨_, rfl⟩
  obtain ⟨g4, hg4⟩ : ∃ g4, g4 = U.heap.size := ⟨_, rfl⟩
  have bW : Below U.heap.size U W := by rw [hW]; exact (Below.refl _ _).alloc (Nat.le_refl _) _
  have zW : Cl W g4 #[.slice K0 k0 kc0, .int .u64 (at_ : Int), .int .u8 0, .slice none 0 0] 49 := by rw [hW, hg4]; exact Cl.new _ _ _
  have bw : Below w.heap.size w W := belowT bU bW
  have hev := zero_evT W key at_ (hk.below bw) hkc hkn ha
  obtain ⟨pl, hpl⟩ : ∃ pl, pl = plT key at_ := ⟨_, rfl⟩
  rw [← hpl] at hev ⊢
  have uW := zU.below bW
  have qW := hq.below bw
  have rW := h.below bw
  have HSE : Hid (Calls Tryz.prog 141 #[.int .i64 (n : Int), .func (.func 142) #[] #[.pointer (some ⟨w.heap.size, 0, none⟩), .pointer (some ⟨g4, 0, none⟩)]] W (RetSe W n (nlT es pl))) := Lib.hid (search_any 142 #[.pointer (some ⟨w.heap.size, 0, none⟩), .pointer (some ⟨g4, 0, none⟩)] n (nlT es pl) W (fun args w => by first | rfl | kernel_rfl | simp [callFunc]) (by omega) (fun wx hb i hi => tbFindC_any (rW.below hb) (uW.below hb) (qW.below hb) (zW.below hb) (hev.below hb) i hi) (fun a b hab hb hpa => plT_mono hso h.len a b hab hb hpa))
  have l0 := uW.c1.1
  have l1 : W.cell? ⟨q, 4, none⟩ = some (.slice A n c) := qW.cell 4
  have HBW := Lib.hid bw
  have HU := Lib.hid hU
  have HW := Lib.hid hW
  have HG4 := Lib.hid hg4
  clear hq h hso hk hkn hU hW hg4 bU zU bW zW bw hev hpl uW qW rW
  go_enter Tryz.func70, Tryz.ntmps70
  go_upto_region 1 with (fail)
  rw [← HU.out]
  go_upto_region 2 with (fail)
  rw [← HW.out, ← HG4.out]
  go_wp2_with fail
  with_reducible refine HSE.out.mono ?_
  intro e w2 hq
  obtain ⟨r, h1, h2, h3, h4, b2⟩ := RetSe.outT hq
  subst h1
  have HF : Hid (RetSe w n (nlT es pl) (.returned (.int .i64 (r : Int))) w2) := Lib.hid ⟨r, rfl, h2, h3, h4, HBW.out.trans (b2.mono HBW.out.size)⟩
  clear hq h2 h3 h4 b2
  go_wp2_with fail
  exact bodyPost_ret (v := .int .i64 (r : Int)) (by simp [results, Tryz.f70, go_sem]; try rfl) rfl HF.out
set_option maxRecDepth 100000 in
set_option maxHeartbeats 16000000 in
theorem tbBegin_any {w : World} {q n c : Nat} {A K0 : Option Addr} {k0 kc0 : Nat} {u0 u1 u2 u3 : Value} {es : List En} {key : List UInt8} (hq : Cl w q #[u0, u1, u2, u3, .slice A n c] 43) (h : REs w A n es) (hn : n ≤ 1099511627776) (hso : SortL es) (hk : Rd w K0 k0 key) (hkc : k0 ≤ kc0) (hkn : K0 = none → kc0 = 0) :
    Calls Tryz.prog 73 #[.pointer (some ⟨q, 0, none⟩), .slice K0 k0 kc0] w (RetSe w n (nlT es (plT key 18446744073709551615))) := by
  obtain ⟨pl, hpl⟩ : ∃ pl, pl = plT key 18446744073709551615 := ⟨_, rfl⟩
  have HFI : Hid (Calls Tryz.prog 70 #[.pointer (some ⟨q, 0, none⟩), .slice K0 k0 kc0, .int .u64 18446744073709551615] w (RetSe w n (nlT es (plT key 18446744073709551615)))) := Lib.hid (tbFind_any hq h hn hso hk hkc hkn (at_ := 18446744073709551615) (by unfold U64; omega))
  rw [← hpl] at HFI ⊢
  clear hq h hso hk hkn hpl
  go_enter Tryz.func73, Tryz.ntmps73
  go_wp2_with fail
  with_reducible refine HFI.out.mono ?_
  intro e w2 hq
  have HQ := Lib.hid hq
  obtain ⟨r, h1, _⟩ := RetSe.outT hq
  subst h1
  clear hq
  go_wp2_with fail
  exact bodyPost_ret (v := .int .i64 (r : Int)) (by simp [results, Tryz.f73, go_sem]; try rfl) rfl HQ.out
section
variable {w : World} {a : En} {v0 v1 v2 v3 : Value}
set_option maxRecDepth 100000 in
set_option maxHeartbeats 4000000 in
theorem tbOwn_any (ha : EV w a v0 v1 v2 v3) (sa : SzE a) : Calls Tryz.prog 72 #[.agg #[v0, v1, v2, v3]] w (RetEn w a) := by
  obtain ⟨K, kn, kc, V, vn, vc, rfl, rfl, rfl, rfl, r0, r3, c0, c3, d0, d3, s1, s2⟩ := ha.parts
  have l1 := r0.len
  have l2 := r3.len
  have hk : kn ≤ 140737488355328 := by have := sa.1; omega
  have hv : vn ≤ 140737488355328 := by have := sa.2; omega
  have R0 := Lib.hid r0
  have R3 := Lib.hid r3
  have HD0 := Lib.hid d0
  have HD3 := Lib.hid d3
  clear ha r0 r3 d0 d3
  go_enter Tryz.func72, Tryz.ntmps72
  go_upto_region 1 with (fail)
  obtain ⟨W, hW⟩ : ∃ W, W = (w.alloc (.cells #[.slice K kn kc, .int .u64 (a.seq : Int), .int .u8 (a.kind : Int), .slice V vn vc] 49)).alloc (.cells #[.slice none 0 0, .int .u64 0, .int .u8 0, .slice none 0 0] 49) := ⟨_, rfl⟩
  rw [← hW]
  have bW : Below w.heap.size w W := by rw [hW]; exact ((Below.refl _ _).alloc (Nat.le_refl _) _).alloc (by simp) _
  have aW : Cl W w.heap.size #[.slice K kn kc, .int .u64 (a.seq : Int), .int .u8 (a.kind : Int), .slice V vn vc] 49 := by rw [hW]; exact (Cl.new _ _ _).alloc _
  have zW : Cl W (w.heap.size + 1) #[.slice none 0 0, .int .u64 0, .int .u8 0, .slice none 0 0] 49 := by rw [hW]; exact Cl.newg _ _ _ _ (by simp)
  have sW : w.heap.size + 2 ≤ W.heap.size := by rw [hW]; simp
  have HK : Hid (∀ wx, Below W.heap.size W wx → Calls Tryz.prog 122 #[.slice K kn kc] wx (Made wx.heap.size wx a.key)) := Lib.hid (fun wx hb => Clone_any K kn kc a.key wx ((R0.out.below bW).below hb) hk HD0.out)
  have HV : Hid (∀ wx, Below W.heap.size W wx → Calls Tryz.prog 122 #[.slice V vn vc] wx (Made wx.heap.size wx a.val)) := Lib.hid (fun wx hb => Clone_any V vn vc a.val wx ((R3.out.below bW).below hb) hv HD3.out)
  have ALC : Hid (∀ wx, Below W.heap.size W wx → Cl wx w.heap.size #[.slice K kn kc, .int .u64 (a.seq : Int), .int .u8 (a.kind : Int), .slice V vn vc] 49) := Lib.hid (fun wx hb => aW.below hb)
  have ZLC : Hid (∀ wx, Below W.heap.size W wx → Cl wx (w.heap.size + 1) #[.slice none 0 0, .int .u64 0, .int .u8 0, .slice none 0 0] 49) := Lib.hid (fun wx hb => zW.below hb)
  have BW := Lib.hid bW
  obtain ⟨e0, e1, e2, e3, y0, y1, y2, y3⟩ := aW.c4
  have hB0 : Below W.heap.size W W.drew := (Below.refl _ _).drew
  clear hW bW aW zW
  go_cut [] (fun wx => ∃ C cn cc D dn dc wy, Own 5 wy W.heap.size C cn cc a.key ∧ Own 5 wy W.heap.size D dn dc a.val ∧ Below W.heap.size W wy ∧ Dj C D ∧ wx = (wy.setCell ⟨w.heap.size, 0, none⟩ (.slice C cn cc)).setCell ⟨w.heap.size, 3, none⟩ (.slice D dn dc))
  case first =>
    go_region_law (first | (go_simp; go_at_call 122; with_reducible refine (HK.out _ (by assumption)).mono ?_; intro e wk hq; obtain ⟨C, cn, cc, h1, oC, bC⟩ := Made.out hq; subst h1; have bC' := belowT (by assumption : Below W.heap.size W _) bC; obtain ⟨p0, p1, p2, p3, p4, p5, p6, p7⟩ := (ALC.out _ bC').c4) | (go_simp; go_at_call 122; with_reducible refine (HV.out _ (by assumption)).mono ?_; intro e wv hq; obtain ⟨D, dn, dc, h2, oD, bD⟩ := Made.out hq; subst h2; have bD' := belowT (by assumption : Below W.heap.size W _) bD; obtain ⟨m0, m1, m2, m3, m4, m5, m6, m7⟩ := (ALC.out _ bD').c4))
    all_goals first
      | (have HDJ := Lib.hid (Dj.old oC oD (Nat.le_refl _))
         have HC1 := Lib.hid (oC.below bD)
         have HD1 := Lib.hid (oD.mono bC'.size)
         have HB1 := Lib.hid bD'
         clear oC oD bC bD bC' bD'
         go_wp2_with fail
         go_meet
         exact ⟨C, cn, cc, D, dn, dc, wv, HC1.out, HD1.out, HB1.out, HDJ.out, rfl⟩)
      | (have HDJ := Lib.hid (Dj.symm (Dj.old oD oC (Nat.le_refl _)))
         have HC1 := Lib.hid (oC.mono bD'.size)
         have HD1 := Lib.hid (oD.below bC)
         have HB1 := Lib.hid bC'
         clear oC oD bC bD bC' bD'
         go_wp2_with fail
         go_meet
         exact ⟨C, cn, cc, D, dn, dc, wk, HC1.out, HD1.out, HB1.out, HDJ.out, rfl⟩)
  case rest =>
    obtain ⟨C, cn, cc, D, dn, dc, wy, oC, oD, bY, hdj, hwc⟩ := hcut
    have A1 := ALC.out _ bY
    have Z1 := Lib.hid (ZLC.out _ bY)
    have sy := bY.size
    obtain ⟨Y, hY⟩ : ∃ Y, Y = wy.setCell ⟨w.heap.size, 0, none⟩ (.slice C cn cc) := ⟨_, rfl⟩
    rw [← hY] at hwc
    have aY : Cl Y w.heap.size #[.slice C cn cc, .int .u64 (a.seq : Int), .int .u8 (a.kind : Int), .slice V vn vc] 49 := by rw [hY]; exact A1.set 0 _
    have zY : Cl Y (w.heap.size + 1) #[.slice none 0 0, .int .u64 0, .int .u8 0, .slice none 0 0] 49 := by rw [hY]; exact Z1.out.off 0 _ (by omega)
    have bYY : Below w.heap.size w Y := by rw [hY]; exact below_set (BW.out.trans (bY.mono BW.out.size)) 0 _ (Nat.le_refl _)
    have oCY : Own 5 Y W.heap.size C cn cc a.key := by rw [hY]; exact oC.set (by omega) 0 _
    have oDY : Own 5 Y W.heap.size D dn dc a.val := by rw [hY]; exact oD.set (by omega) 0 _
    have aC : Cl wc w.heap.size #[.slice C cn cc, .int .u64 (a.seq : Int), .int .u8 (a.kind : Int), .slice D dn dc] 49 := by rw [hwc]; exact aY.set 3 _
    have zC : Cl wc (w.heap.size + 1) #[.slice none 0 0, .int .u64 0, .int .u8 0, .slice none 0 0] 49 := by rw [hwc]; exact zY.off 3 _ (by omega)
    have HFIN : Hid (∀ X, X = (((wc.setCell ⟨w.heap.size + 1, 0, none⟩ (.slice C cn cc)).setCell ⟨w.heap.size + 1, 1, none⟩ (.int .u64 (a.seq : Int))).setCell ⟨w.heap.size + 1, 2, none⟩ (.int .u8 (a.kind : Int))).setCell ⟨w.heap.size + 1, 3, none⟩ (.slice D dn dc) → Cl X (w.heap.size + 1) #[.slice C cn cc, .int .u64 (a.seq : Int), .int .u8 (a.kind : Int), .slice D dn dc] 49 ∧ RetEn w a (.returned (.agg #[.slice C cn cc, .int .u64 (a.seq : Int), .int .u8 (a.kind : Int), .slice D dn dc])) X) := Lib.hid (fun X hX => en_fin (x := a) (g := w.heap.size) zY rfl oCY oDY bYY (Nat.le_refl _) sW ⟨3, _, hwc⟩ hX hdj)
    clear hY hwc A1 aY zY bYY oCY oDY oC oD bY e0 e1 e2 e3 y0 y1 y2 y3
    obtain ⟨e0, e1, e2, e3, y0, y1, y2, y3⟩ := aC.c4
    obtain ⟨g0, g1, g2, g3, k0, k1, k2, k3⟩ := zC.c4
    clear aC zC
    go_wp2_with fail
    obtain ⟨X, hX⟩ : ∃ X, X = (((wc.setCell ⟨w.heap.size + 1, 0, none⟩ (.slice C cn cc)).setCell ⟨w.heap.size + 1, 1, none⟩ (.int .u64 (a.seq : Int))).setCell ⟨w.heap.size + 1, 2, none⟩ (.int .u8 (a.kind : Int))).setCell ⟨w.heap.size + 1, 3, none⟩ (.slice D dn dc) := ⟨_, rfl⟩
    obtain ⟨zX, hret⟩ := HFIN.out X hX
    rw [← hX]
    obtain ⟨x0, x1, x2, x3, _⟩ := zX.c4
    refine bodyPost_ret (v := .agg #[.slice C cn cc, .int .u64 (a.seq : Int), .int .u8 (a.kind : Int), .slice D dn dc]) (by simp [results, Tryz.results72, go_sem, x0, x1, x2, x3]; try rfl) rfl hret
end
end Go.Proofs.YtbgelbdnkbhffaaGreat
namespace Go.Proofs.YtbgelbdnkbhffaaGreat
open Go Go.RowKit Go.Maps

theorem putF_nilT (f : FE) : putF f [] = [f] := rfl
theorem putF_oneT {f g : FE} (e : g.1 = f.1) : putF f [g] = [f] := by simp only [putF]; rw [if_pos e]
theorem tname : tx [116] = { data := #[116] } := rfl
section
variable {w w' : World} {p : Nat} {bl : List Nat} {room u : Nat} {fs : List FE}
theorem Live.set (h : Live w p bl room u fs) {g : Nat} (hg : g ∉ bl) (i : Nat) (v : Value) : Live (w.setCell ⟨g, i, none⟩ v) p bl room u fs :=
  h.fr (Fr.set w g i v) (fun b hb hm => by rw [List.mem_singleton] at hm; exact hg (by rw [← hm]; exact hb))
theorem Live.put4 (h : Live w p bl room u fs) {g : Nat} (hg : g ∉ bl) (a b c d : Value) : Live ((((w.setCell ⟨g, 0, none⟩ a).setCell ⟨g, 1, none⟩ b).setCell ⟨g, 2, none⟩ c).setCell ⟨g, 3, none⟩ d) p bl room u fs :=
  (((h.set hg 0 a).set hg 1 b).set hg 2 c).set hg 3 d

set_option maxRecDepth 100000 in
set_option maxHeartbeats 8000000 in
theorem place_any {F : Option Addr} {fn fc : Nat} {ys : List UInt8} (h : Live w p bl room 0 []) (hF : Rd w F fn ys) (hFo : ∀ b, blk F = some b → b ∉ bl) (hf : fn ≤ room) (hR : room ≤ 9223372036854775807) (hn : fn ≤ 1099511627776) :
    Calls Tryz.prog 56 #[.pointer (some ⟨p, 0, none⟩), .string { data := #[116] }, .slice F fn fc] w (RetLv w p bl room fn [([116], ys, fn)] (.int .i64 0)) := by
  have hM : 1099511627776 ≤ maxLen := by unfold maxLen; omega
  have hcat : ({ data := #[116] } : ByteArray) ++ { data := #[46, 110, 101, 119] } = tx [116, 46, 110, 101, 119] := by rfl
  have HRM := Lib.hid (remove_live_none [116, 46, 110, 101, 119] h (fun f hf => by cases hf) (by simp; omega))
  have HAP := Lib.hid (append_live_new (c := fc) [116, 46, 110, 101, 119] F fn ys h (fun f hf => by cases hf) hF hFo (by omega) hR hn (by simp) (by simp))
  have HLN := Lib.hid hF.len
  have HM := Lib.hid hM
  obtain ⟨tl, htl⟩ : ∃ tl : List UInt8, tl = [116, 46, 110, 101, 119] := ⟨_, rfl⟩
  rw [← htl] at HRM HAP hcat
  have hln : tl.length ≤ 1099511627776 := by rw [htl]; simp
  have hne : tl ≠ [116] := by rw [htl]; decide
  have HLT := Lib.hid hln
  have HNE := Lib.hid hne
  obtain ⟨tm, htm⟩ : ∃ tm, tm = tx tl := ⟨_, rfl⟩
  rw [← htm] at HRM HAP hcat
  have HCAT := Lib.hid hcat
  have HTM := Lib.hid htm
  clear h hF hFo hM hcat htl hln hne htm
  go_enter Tryz.func56, Tryz.ntmps56
  go_wp2_with fail
  rw [HCAT.out]
  with_reducible refine HRM.out.mono ?_
  rintro e w1 ⟨h1, h2⟩
  subst h1
  rw [← h2]
  clear h2
  go_wp2_with fail
  with_reducible refine HAP.out.mono ?_
  intro e w2 hq
  obtain ⟨h1, bl2, hL2, hF2, hB2⟩ := hq
  subst h1
  rw [putF_nilT, Nat.zero_add] at hL2
  have HSY : Hid (Calls Tryz.prog 124 #[.pointer (some ⟨p, 0, none⟩), .string tm] w2 (RetLv w2 p bl2 room fn [(tl, ys, fn)] (.int .i64 0))) := Lib.hid (by
    have h1 := sync_live (f := (tl, ys, 0)) hL2 (List.mem_singleton.2 rfl) (by have := HM.out; have := HLT.out; simp; omega)
    rw [putF_oneT (by rfl)] at h1
    have h2 := HLN.out
    rw [HTM.out]
    simp only [h2] at h1
    exact h1)
  have HF2 := Lib.hid hF2
  have HB2 := Lib.hid hB2
  clear hL2 hF2 hB2
  go_wp2_with fail
  with_reducible refine HSY.out.mono ?_
  intro e w3 hq
  obtain ⟨h1, bl3, hL3, hF3, hB3⟩ := hq
  subst h1
  have HRN : Hid (Calls Tryz.prog 125 #[.pointer (some ⟨p, 0, none⟩), .string tm, .string { data := #[116] }] w3 (RetLv w3 p bl3 room fn [([116], ys, fn)] (.int .i64 0))) := Lib.hid (by
    rw [HTM.out, ← tname]
    exact rename_live_one hL3 HNE.out HLT.out (by simp) (by omega))
  have HF3 := Lib.hid (HF2.out.trans hF3 HB2.out)
  have HB3 : Hid (∀ b ∈ bl3, b ∈ bl ∨ w.heap.size ≤ b) := Lib.hid (fun b hb => by
    rcases hB3 b hb with h | h
    · exact HB2.out b h
    · exact .inr (Nat.le_trans HF2.out.size h))
  clear hL3 hF3 hB3
  go_wp2_with fail
  with_reducible refine HRN.out.mono ?_
  intro e w4 hq
  obtain ⟨h1, bl4, hL4, hF4, hB4⟩ := hq
  subst h1
  have HF : Hid (RetLv w p bl room fn [([116], ys, fn)] (.int .i64 0) (.returned (.int .i64 0)) w4) := Lib.hid ⟨rfl, bl4, hL4, HF3.out.trans hF4 HB3.out, fun b hb => by
    rcases hB4 b hb with h | h
    · exact HB3.out b h
    · exact .inr (Nat.le_trans HF3.out.size h)⟩
  clear hL4 hF4 hB4
  go_wp2_with fail
  go_ret
  exact HF.out
/-- Write's answer on an empty disk. -/
def RetWr (w : World) (p : Nat) (bl : List Nat) (room : Nat) (ys : List UInt8) (mt : List UInt8 × List UInt8 × Nat × Nat) (e : Ending) (w' : World) : Prop :=
  ∃ K kn kc L ln lc bl', e = .returned (.tuple #[.agg #[.slice K kn kc, .slice L ln lc, .int .i64 (mt.2.2.1 : Int), .int .i64 (mt.2.2.2 : Int)], .int .i64 0]) ∧ Own 5 w' w.heap.size K kn kc mt.1 ∧ Own 5 w' w.heap.size L ln lc mt.2.1 ∧ Live w' p bl' room ys.length [([116], ys, ys.length)] ∧ Fr w w' bl ∧ ∀ b ∈ bl', b ∈ bl ∨ w.heap.size ≤ b
theorem Fr.put4 {w0 w : World} {bl : List Nat} (h : Fr w0 w bl) {g : Nat} (hg : w0.heap.size ≤ g) (a b c d : Value) : Fr w0 ((((w.setCell ⟨g, 0, none⟩ a).setCell ⟨g, 1, none⟩ b).setCell ⟨g, 2, none⟩ c).setCell ⟨g, 3, none⟩ d) bl := by
  have hs : ∀ b ∈ [g], b ∈ bl ∨ w0.heap.size ≤ b := fun b hb => .inr (by rw [List.mem_singleton] at hb; omega)
  exact (((h.trans (Fr.set _ g 0 a) hs).trans (Fr.set _ g 1 b) hs).trans (Fr.set _ g 2 c) hs).trans (Fr.set _ g 3 d) hs
set_option maxRecDepth 100000 in
set_option maxHeartbeats 16000000 in
theorem write_any {A : Option Addr} {n c : Nat} {es : List En} {ys : List UInt8} (size : Int) (h : Live w p bl room 0 []) (hre : REs w A n es) (hn : n ≤ 200) (hc : n ≤ c) (ht : totE es ≤ 1099511627776) (hz : bytesT size es = (ys, 0)) (hr : ys.length ≤ room) (hR : room ≤ 1099511627776) :
    Calls Tryz.prog 11 #[.pointer (some ⟨p, 0, none⟩), .string { data := #[116] }, .int .i64 size, .slice A n c] w (RetWr w p bl room ys (metaT es (ys, 0))) := by
  obtain ⟨W, hW⟩ : ∃ W, W = w.alloc (.cells #[.slice none 0 0, .slice none 0 0, .int .i64 0, .int .i64 0] 31) := ⟨_, rfl⟩
  obtain ⟨g, hg⟩ : ∃ g, g = w.heap.size := ⟨_, rfl⟩
  have bW : Below w.heap.size w W := by rw [hW]; exact (Below.refl _ _).alloc (Nat.le_refl _) _
  have zW : Cl W g #[.slice none 0 0, .slice none 0 0, .int .i64 0, .int .i64 0] 31 := by rw [hW, hg]; exact Cl.new _ _ _
  have sW : g < W.heap.size := zW.lt
  have hBY := bytes_any (c := c) size (hre.below bW) hn hc ht
  rw [hz] at hBY
  obtain ⟨yn, hyn⟩ : ∃ x, x = ys.length := ⟨_, rfl⟩
  obtain ⟨mt, hmt⟩ : ∃ x, x = metaT es (ys, 0) := ⟨_, rfl⟩
  rw [← hmt] at hBY
  have HBY : Hid (Calls Tryz.prog 54 #[.int .i64 size, .slice A n c] W (fun e w' => ∃ A c K kn kc L ln lc, e = .returned (.tuple #[.slice A yn c, .agg #[.slice K kn kc, .slice L ln lc, .int .i64 (mt.2.2.1 : Int), .int .i64 (mt.2.2.2 : Int)], .int .i64 0]) ∧ Own 5 w' W.heap.size A yn c ys ∧ Own 5 w' W.heap.size K kn kc mt.1 ∧ Own 5 w' W.heap.size L ln lc mt.2.1 ∧ Below W.heap.size W w')) := Lib.hid (by
    refine hBY.mono ?_
    rintro e w' ⟨A, c, K, kn, kc, L, ln, lc, h1, h2, h3, h4, h5⟩
    rw [hyn]
    exact ⟨A, c, K, kn, kc, L, ln, lc, h1, h2, h3, h4, h5⟩)
  have hyr : yn ≤ room := by omega
  have HLV := Lib.hid (h.below bW)
  have HGB : Hid (∀ b ∈ bl, b < w.heap.size) := Lib.hid h.lt
  have HGW := Lib.hid (show w.heap.size ≤ g by omega)
  have BW := Lib.hid bW
  have HW := Lib.hid hW
  have HG := Lib.hid hg
  have HYN := Lib.hid hyn
  have HMT := Lib.hid hmt
  have ZLC : Hid (∀ wx, Below W.heap.size W wx → Cl wx g #[.slice none 0 0, .slice none 0 0, .int .i64 0, .int .i64 0] 31) := Lib.hid (fun wx hb => zW.below hb)
  clear h hre ht hz hr hBY hW hg bW zW hyn hmt
  go_enter Tryz.func11, Tryz.ntmps11
  go_upto_region 1 with (fail)
  rw [← HW.out, ← HG.out]
  go_wp2_with fail
  with_reducible refine HBY.out.mono ?_
  intro e w1 hq
  obtain ⟨F, fc, K, kn, kc, L, ln, lc, h1, o1, o2, o3, b1⟩ := hq
  subst h1
  obtain ⟨c1, hc1⟩ : ∃ x : Int, x = (mt.2.2.1 : Int) := ⟨_, rfl⟩
  obtain ⟨c2, hc2⟩ : ∃ x : Int, x = (mt.2.2.2 : Int) := ⟨_, rfl⟩
  rw [← hc1, ← hc2]
  obtain ⟨W1, hW1⟩ : ∃ W1, W1 = w1.alloc (.cells #[.slice K kn kc, .slice L ln lc, .int .i64 c1, .int .i64 c2] 31) := ⟨_, rfl⟩
  obtain ⟨g1, hg1⟩ : ∃ g1, g1 = w1.heap.size := ⟨_, rfl⟩
  have bW1 : Below w1.heap.size w1 W1 := by rw [hW1]; exact (Below.refl _ _).alloc (Nat.le_refl _) _
  have zW1 : Cl W1 g1 #[.slice K kn kc, .slice L ln lc, .int .i64 c1, .int .i64 c2] 31 := by rw [hW1, hg1]; exact Cl.new _ _ _
  have hb1 : Below W.heap.size W W1 := belowT' b1 bW1
  have hlv := HLV.out.below hb1
  have HRN := Lib.hid (read_live_none [116] hlv (fun f hf => by cases hf) (by simp; unfold maxLen; omega))
  have hs1 := b1.size
  have hsw := BW.out.size
  have O1 := Lib.hid (o1.below bW1)
  have O2 := Lib.hid (o2.below bW1)
  have O3 := Lib.hid (o3.below bW1)
  have HZ1 := Lib.hid zW1
  have HB1 := Lib.hid hb1
  have HL1 := Lib.hid hlv
  have HW1 := Lib.hid hW1
  have HG1 := Lib.hid hg1
  have HSG1 : Hid (W.heap.size ≤ g1) := Lib.hid (by omega)
  have HC1 := Lib.hid hc1
  have HC2 := Lib.hid hc2
  rw [tname] at HRN
  clear o1 o2 o3 b1 hb1 hlv bW1 zW1 hW1 hg1 hs1 hsw hc1 hc2
  go_upto_region 2 with (fail)
  rw [← HW1.out, ← HG1.out]
  go_wp2_with fail
  with_reducible refine HRN.out.mono ?_
  intro e w2 hq
  obtain ⟨A2, n2, k2, h1, o2, b2⟩ := hq
  subst h1
  have hne0 : ∀ b, blk F = some b → b ∉ bl := fun b hb hm => by
    have h1 := (O1.out.lt b hb).1
    have h2 := HGB.out b hm
    have h3 := BW.out.size
    omega
  have HPL := Lib.hid (place_any (fc := fc) (HL1.out.below b2) ((O1.out.rd).below b2) hne0 hyr (by omega) (by omega))
  have HB2 := Lib.hid b2
  clear o2 b2 hne0
  go_wp2_with fail
  with_reducible refine HPL.out.mono ?_
  intro e w3 hq
  obtain ⟨h1, bl', hL3, hF3, hB3⟩ := hq
  subst h1
  have ng1 : g1 ∉ bl := fun hm => by
    have h2 := HGB.out g1 hm
    have h1 := HSG1.out
    have h3 := BW.out.size
    omega
  have ng : g ∉ bl := fun hm => by
    have h2 := HGB.out g hm
    have h1 := HGW.out
    omega
  have hz1 : Cl w3 g1 #[.slice K kn kc, .slice L ln lc, .int .i64 c1, .int .i64 c2] 31 := by
    have h1 := HZ1.out.below HB2.out
    exact (hF3.block g1 h1.lt ng1).trans h1
  have hz0 : Cl w3 g #[.slice none 0 0, .slice none 0 0, .int .i64 0, .int .i64 0] 31 := by
    have h1 := (ZLC.out _ HB1.out).below HB2.out
    exact (hF3.block g h1.lt ng).trans h1
  have hFW : Fr w w3 bl := ((Fr.of_below (BW.out.trans ((HB1.out.trans (HB2.out.mono HB1.out.size)).mono BW.out.size)) bl).trans hF3 (fun b hb => .inl hb))
  have HFIN : Hid (∀ X, X = ((((w3.setCell ⟨g, 0, none⟩ (.slice K kn kc)).setCell ⟨g, 1, none⟩ (.slice L ln lc)).setCell ⟨g, 2, none⟩ (.int .i64 c1)).setCell ⟨g, 3, none⟩ (.int .i64 c2)) → Cl X g #[.slice K kn kc, .slice L ln lc, .int .i64 c1, .int .i64 c2] 31 ∧ RetWr w p bl room ys (metaT es (ys, 0)) (.returned (.tuple #[.agg #[.slice K kn kc, .slice L ln lc, .int .i64 c1, .int .i64 c2], .int .i64 0])) X) := Lib.hid (fun X hX => by
    have hsw := BW.out.size
    have hs1 := HB1.out.size
    have hs2 := HB2.out.size
    have far : ∀ {T : Option Addr} {t e : Nat} {xs : List UInt8}, Own 5 W1 W.heap.size T t e xs → Own 5 ((((w3.setCell ⟨g, 0, none⟩ (.slice K kn kc)).setCell ⟨g, 1, none⟩ (.slice L ln lc)).setCell ⟨g, 2, none⟩ (.int .i64 c1)).setCell ⟨g, 3, none⟩ (.int .i64 c2)) w.heap.size T t e xs := fun ho =>
      (own_put4 ((ho.below HB2.out).fr hF3 (fun b hb hm => by
        have h1 := (ho.lt b hb).1
        have h2 := HGB.out b hm
        omega)) sW _ _ _ _).mono hsw
    rw [hX]
    refine ⟨hz0.put4 rfl _ _ _ _, K, kn, kc, L, ln, lc, bl', ?_, ?_, ?_, ?_, hFW.put4 HGW.out _ _ _ _, ?_⟩
    · rw [← HMT.out, HC1.out, HC2.out]
    · rw [← HMT.out]; exact far O2.out
    · rw [← HMT.out]; exact far O3.out
    · rw [← HYN.out]
      exact hL3.put4 (fun hm => by
        rcases hB3 g hm with h | h
        · exact ng h
        · omega) _ _ _ _
    · intro b hb
      rcases hB3 b hb with h | h
      · exact .inl h
      · exact .inr (by omega))
  obtain ⟨a0, a1, a2, a3, _⟩ := hz1.c4
  obtain ⟨y0, y1, y2, y3, f0, f1, f2, f3⟩ := hz0.c4
  clear hz1 hz0 hFW hL3 hF3 hB3
  go_wp2_with fail
  obtain ⟨X, hX⟩ : ∃ X, X = ((((w3.setCell ⟨g, 0, none⟩ (.slice K kn kc)).setCell ⟨g, 1, none⟩ (.slice L ln lc)).setCell ⟨g, 2, none⟩ (.int .i64 c1)).setCell ⟨g, 3, none⟩ (.int .i64 c2)) := ⟨_, rfl⟩
  obtain ⟨zX, hret⟩ := HFIN.out X hX
  rw [← hX]
  obtain ⟨x0, x1, x2, x3, _⟩ := zX.c4
  refine bodyPost_ret (v := .tuple #[.agg #[.slice K kn kc, .slice L ln lc, .int .i64 c1, .int .i64 c2], .int .i64 0]) (by simp [results, Tryz.results11, go_sem, x0, x1, x2, x3]; try rfl) rfl hret
end
end Go.Proofs.YtbgelbdnkbhffaaGreat
namespace Go.Proofs.YtbgelbdnkbhffaaGreat
open Go Go.RowKit

theorem frame_mem : ∀ {l : List (List UInt8)} {x : List UInt8}, x ∈ l → x.length ≤ (frameB l).length
  | y :: t, x, h => by
    simp only [frameB, List.length_append]
    rcases List.mem_cons.1 h with rfl | h
    · omega
    · have := frame_mem h; omega
theorem slE_ok : ∀ {ls : List (List En)} {s : Nat}, slE ls s = 0 → ∀ es ∈ ls, (buildE 4 es).2 = 0
  | g :: t, s, h, es, hes => by
    rw [slE] at h
    split at h
    · next h1 => exact absurd h h1
    · next h1 =>
      have h2 : (buildE 4 g).2 = 0 := Decidable.not_not.1 h1
      split at h
      · exact absurd h (by decide)
      · rcases List.mem_cons.1 hes with rfl | h3
        · exact h2
        · exact slE_ok h es h3
theorem seal_parts {ls : List (List En)} (h : (sealT ls).2 = 0) : slE ls 0 = 0 ∧ (frameB [frameB (ls.map b4E), filB ls]).length ≤ 1048576 ∧ (sealT ls).1 = sealB (frameB [frameB (ls.map b4E), filB ls]) := by
  unfold sealT at h ⊢
  split at h
  · next h1 => exact absurd h h1
  · next h1 =>
    rw [if_neg h1]
    unfold sealG at h ⊢
    split at h
    · exact absurd h (by decide)
    · next h2 =>
      rw [if_neg h2]
      exact ⟨Decidable.not_not.1 h1, by omega, rfl⟩
/-- What was sealed is unsealed. -/
theorem un_seal {ls : List (List En)} (h : (sealT ls).2 = 0) (hw : ∀ es ∈ ls, es ≠ [] ∧ ∀ x ∈ es, U64 x.seq ∧ x.kind < 256) : unT (sealT ls).1 = (ls, 0) := by
  obtain ⟨h1, h2, h3⟩ := seal_parts h
  have hb := slE_ok h1
  have ho : openG (sealT ls).1 ((0 : Nat) : Int) = (frameB [frameB (ls.map b4E), filB ls], ((8 + (frameB [frameB (ls.map b4E), filB ls]).length : Nat) : Int), 0) := by
    rw [h3]
    exact openG_one _ h2
  have hl1 : (frameB (ls.map b4E)).length ≤ 1048576 := Nat.le_trans (frame_mem (by simp)) h2
  have hl2 : (filB ls).length ≤ 1048576 := Nat.le_trans (frame_mem (by simp)) h2
  have hp : parts (frameB [frameB (ls.map b4E), filB ls]) = ([frameB (ls.map b4E), filB ls], 0) := parts_frame _ (fun x hx => by
    unfold B64
    rcases List.mem_cons.1 hx with rfl | hx
    · omega
    · rw [List.mem_singleton] at hx
      subst hx
      omega)
  have hp2 : parts (frameB (ls.map b4E)) = (ls.map b4E, 0) := parts_frame _ (fun x hx => by
    have := frame_mem hx
    unfold B64
    omega)
  have hd : ∀ es ∈ ls, decB (b4E es) = (es, 0) := fun es he => dec_build (by omega) (hw es he).2 (hb es he)
  unfold unT
  rw [ho]
  simp only [hp]
  rw [if_neg (by simp), if_neg (by simp), hp2]
  simp only
  rw [if_neg (by simp)]
  unfold blksT
  rw [if_pos]
  · rw [List.map_map]
    refine congrArg (·, (0 : Int)) ?_
    conv => rhs; rw [← List.map_id ls]
    refine List.map_congr_left (fun es he => ?_)
    simp only [Function.comp_def, hd es he, id]
  · refine List.all_eq_true.2 (fun x hx => ?_)
    obtain ⟨es, he, rfl⟩ := List.mem_map.1 hx
    rw [hd es he]
    simp [(hw es he).1]
/-- What was sealed opens. -/
theorem open_seal {ls : List (List En)} (h : (sealT ls).2 = 0) (hw : ∀ es ∈ ls, es ≠ [] ∧ ∀ x ∈ es, U64 x.seq ∧ x.kind < 256) (hne : ls.flatten.length ≠ 0) (ho : ordE ls.flatten = true) : openT (sealT ls).1 = (ls.flatten, 0) := by
  unfold openT
  rw [un_seal h hw]
  rw [if_neg (by simp), if_neg (by simp only [not_or]; exact ⟨hne, by rw [ho]; simp⟩), if_neg]
  simp only [not_or]
  exact ⟨by rw [h]; simp, by rw [eqB_self]; simp⟩
theorem sum_frame : ∀ l : List (List UInt8), l.flatten.length ≤ (frameB l).length
  | [] => Nat.zero_le _
  | x :: t => by
    have := sum_frame t
    simp only [frameB, List.flatten_cons, List.length_append]
    omega
theorem sl_rf : ∀ (ls : List (List En)) (s : Nat), (∀ g ∈ ls, (buildE 4 g).2 = 0 ∨ (buildE 4 g).2 = 2) →
    (rfE ls = 0 ∧ slE ls s = 0) ∨ (rfE ls = 0 ∧ slE ls s = 2 ∧ 1048576 < s + (ls.map b4E).flatten.length) ∨ (rfE ls = 2 ∧ slE ls s = 2)
  | [], s, _ => .inl ⟨rfl, rfl⟩
  | g :: t, s, h => by
    have ih := sl_rf t (s + (b4E g).length) (fun x hx => h x (List.mem_cons_of_mem _ hx))
    rw [rfE, slE, List.map_cons, List.flatten_cons, List.length_append]
    rcases h g (List.mem_cons_self ..) with h1 | h1
    · rw [if_neg (fun h => h h1), if_neg (fun h => h h1)]
      by_cases hs : 1048576 < s + (b4E g).length
      · rw [if_pos hs]
        rcases ih with ⟨q1, _⟩ | ⟨q1, _⟩ | ⟨q1, _⟩
        · exact .inr (.inl ⟨q1, rfl, by omega⟩)
        · exact .inr (.inl ⟨q1, rfl, by omega⟩)
        · exact .inr (.inr ⟨q1, rfl⟩)
      · rw [if_neg hs]
        rcases ih with ⟨q1, q2⟩ | ⟨q1, q2, q3⟩ | ⟨q1, q2⟩
        · exact .inl ⟨q1, q2⟩
        · exact .inr (.inl ⟨q1, q2, by omega⟩)
        · exact .inr (.inr ⟨q1, q2⟩)
    · rw [if_pos (by rw [h1]; decide), if_pos (by rw [h1]; decide), h1]
      exact .inr (.inr ⟨rfl, rfl⟩)
theorem ok_check {es : List En} (h : checkE es = 0) : ∀ x ∈ es, okE x = true := fun x hx => by
  unfold checkE at h
  split at h
  · exact absurd h (by decide)
  · next h1 =>
    split at h
    · next h2 =>
      have h3 := List.all_eq_true.1 h2 x hx
      have h4 : longE x = false := by
        cases hl : longE x with
        | false => rfl
        | true => exact absurd (List.any_eq_true.2 ⟨x, hx, hl⟩) h1
      exact okE_iff.2 ⟨h4, h3⟩
    · exact absurd h (by decide)
theorem bytes_ref (size : Int) (es : List En) : bytesT size es = refT size es := by
  unfold bytesT refT
  by_cases h1 : size < 1
  · rw [if_pos h1, if_pos h1]
  · rw [if_neg h1, if_neg h1]
    by_cases h2 : checkE es = 0
    · rw [if_neg (fun h => h h2)]
      by_cases h3 : es.length = 0 ∨ ordE es = false
      · rw [if_pos h3, if_pos, if_neg (fun h => h h2)]
        rcases h3 with h3 | h3
        · exact .inr h3
        · refine .inl ?_
          unfold chk1
          rw [if_neg (fun h => h h2), h3]
          decide
      · simp only [not_or] at h3
        obtain ⟨h3, h4⟩ := h3
        have h5 : ordE es = true := by cases h : ordE es with
          | true => rfl
          | false => exact absurd h h4
        rw [if_neg (by simp only [not_or]; exact ⟨h3, h4⟩), if_neg]
        · have hok := ok_check h2
          have hso := ord_sort h5
          rw [← grpE_flat size es] at hso
          have hg : ∀ g ∈ grpE size es, (buildE 4 g).2 = 0 ∨ (buildE 4 g).2 = 2 := fun g hgm => by
            have hsg : SortL g := (List.pairwise_flatten.1 hso).1 g hgm
            have hokg : ∀ x ∈ g, okE x = true := fun x hx => hok x (by rw [← grpE_flat size es]; exact List.mem_flatten.2 ⟨g, hgm, hx⟩)
            rcases build_sorted (ev := 4) hsg hokg with h | h
            · exact .inl h
            · exact .inr (by rw [h])
          unfold sealT
          rcases sl_rf (grpE size es) 0 hg with ⟨q1, q2⟩ | ⟨q1, q2, q3⟩ | ⟨q1, q2⟩
          · rw [q1, q2]
          · rw [q1, q2, if_pos (by decide), if_neg (by simp)]
            have h6 := sum_frame ((grpE size es).map b4E)
            have h7 : (frameB ((grpE size es).map b4E)).length ≤ (frameB [frameB ((grpE size es).map b4E), filB (grpE size es)]).length := frame_mem (by simp)
            rw [sealG_long rfl (by omega)]
          · simp [q1, q2]
        · rintro (h | h)
          · refine h ?_
            unfold chk1
            rw [if_neg (fun h => h h2), h5]
            rfl
          · exact h3 h
    · rw [if_pos h2, if_pos, if_pos h2]
      refine .inl ?_
      unfold chk1
      rw [if_pos h2]
      exact h2
end Go.Proofs.YtbgelbdnkbhffaaGreat
namespace Go.Proofs.YtbgelbdnkbhffaaGreat
open Go Go.RowKit Go.Maps

def eA : En := ⟨[97], 1, 1, [120]⟩
theorem grp_eA : grpE 64 [eA] = [[eA]] := by decide
theorem full_eA : (fullB 4 [eA]).length ≤ 66800 := by
  have h1 : outB 4 [eA] 1 = outB 4 [eA] 0 ++ entB (shB 4 [eA] 0) eA := outB_step rfl
  have h2 := entB_len (s := shB 4 [eA] 0) (x := eA) (shB_le rfl) (by decide) (by decide) (by unfold U64 eA; decide)
  have h3 := rsB_len 4 [eA] 1
  have h0 : outB 4 [eA] 0 = [] := rfl
  unfold fullB
  show (outB 4 [eA] 1 ++ rsB 4 [eA] 1 ++ fourB ((rsB 4 [eA] 1).length / 4)).length ≤ 66800
  rw [List.length_append, List.length_append, h1, h0, List.nil_append, fourB_len]
  omega
theorem build_eA : (buildE 4 [eA]).2 = 0 := by
  have h := full_eA
  unfold buildE
  rw [if_neg (by decide), if_neg (by omega), if_pos (by decide)]
theorem b4_eA : (b4E [eA]).length ≤ 66808 := by
  have h := (buildE_ord build_eA).2.2.2
  unfold b4E
  first
    | rw [h.1, sealB_len]
    | rw [h, sealB_len]
  have := full_eA
  omega
theorem fil_eA : (filB [[eA]]).length ≤ 2501 := filter_len (by omega) (by decide)
theorem seal_eA : (sealT [[eA]]).2 = 0 ∧ (sealT [[eA]]).1.length ≤ 100000 := by
  have h1 := b4_eA
  have h2 := fil_eA
  have hs : slE [[eA]] 0 = 0 := by
    rw [slE, if_neg (fun h => h build_eA), if_neg (by omega)]
    rfl
  have ht1 : tot [b4E [eA]] ≤ 66810 := by simp only [tot]; omega
  have hf1 := frameB_len2 [b4E [eA]] (by omega)
  simp only [List.length_cons, List.length_nil] at hf1
  have ht2 : tot [frameB [b4E [eA]], filB [[eA]]] ≤ 70000 := by
    simp only [tot] at ht1 hf1 ⊢
    omega
  have hf2 := frameB_len2 [frameB [b4E [eA]], filB [[eA]]] (by omega)
  simp only [List.length_cons, List.length_nil] at hf2
  have hm : [[eA]].map b4E = [b4E [eA]] := rfl
  unfold sealT
  rw [hs, if_neg (by decide), hm, sealG_ok rfl (by omega)]
  exact ⟨rfl, by rw [sealB_len]; omega⟩
theorem bytes_eA : bytesT 64 [eA] = ((sealT [[eA]]).1, 0) := by
  have h : bytesT 64 [eA] = sealT [[eA]] := by
    unfold bytesT
    rw [if_neg (by decide), if_neg (by decide), if_neg (by decide), grp_eA]
  rw [h, ← seal_eA.1]
theorem open_eA : openT (sealT [[eA]]).1 = ([eA], 0) :=
  open_seal seal_eA.1 (fun es he => by
    rw [List.mem_singleton] at he
    subst he
    exact ⟨by simp, fun x hx => by
      rw [List.mem_singleton] at hx
      subst hx
      exact ⟨by unfold U64 eA; decide, by decide⟩⟩) (by decide) (by decide)
theorem un_eA : unT (sealT [[eA]]).1 = ([[eA]], 0) :=
  un_seal seal_eA.1 (fun es he => by
    rw [List.mem_singleton] at he
    subst he
    exact ⟨by simp, fun x hx => by
      rw [List.mem_singleton] at hx
      subst hx
      exact ⟨by unfold U64 eA; decide, by decide⟩⟩)
end Go.Proofs.YtbgelbdnkbhffaaGreat
namespace Go.Proofs.YtbgelbdnkbhffaaGreat
open Go Go.RowKit

end Go.Proofs.YtbgelbdnkbhffaaGreat
namespace Go.Proofs.YtbgelbdnkbhffaaGreat
open Go Go.RowKit Go.Maps

set_option maxRecDepth 100000 in
set_option maxHeartbeats 8000000 in
theorem awake10_any (w : World) : Calls Tryz.prog 7 #[] w (RetT w true) := by
  have kc := fun (w : World) (C : Array Value) (n c g : Nat) (hg : g = w.heap.size) => Joins.run_convert_bytes_const_at (P := Tryz.prog) w 29 5 C n c g hg Tryz.underlying29 Tryz.underlying5
  have HN : Hid (Calls Tryz.prog 10 #[.int .i64 1073741824] w (RetNw w 1073741824)) := Lib.hid (New_live 1073741824 w (by omega))
  go_enter Tryz.func7, Tryz.ntmps7
  go_wp2_with fail
  with_reducible refine HN.out.mono ?_
  rintro e w1 ⟨p, bl, rfl, hL1, hbl1, b1⟩
  clear HN
  go_wp2_with fail
  obtain ⟨W, hW⟩ : ∃ W, W = ((w1.alloc (.cells #[.int .u8 97] 5 (1, 2))).alloc (.cells #[.int .u8 120] 5 (1, 2))).alloc (.cells #[.slice (some ⟨w1.heap.size, 0, none⟩) 1 1, .int .u64 1, .int .u8 1, .slice (some ⟨w1.heap.size + 1, 0, none⟩) 1 1] 49) := ⟨_, rfl⟩
  rw [← hW]
  have bW : Below w1.heap.size w1 W := by rw [hW]; exact (((Below.refl _ _).alloc (Nat.le_refl _) _).alloc (by simp) _).alloc (by simp; omega) _
  have r1 : Rd W (some ⟨w1.heap.size, 0, none⟩) 1 [97] := by rw [hW]; exact ((Rd.cst8 w1 _ 1 [97] rfl _ rfl (1, 2) _ rfl).alloc _).alloc _
  have r2 : Rd W (some ⟨w1.heap.size + 1, 0, none⟩) 1 [120] := by rw [hW]; exact (Rd.cst8 _ _ 1 [120] rfl _ rfl (1, 2) _ (by simp)).alloc _
  have rV : RdV W (some ⟨w1.heap.size + 1 + 1, 0, none⟩) (1 * 4) [.slice (some ⟨w1.heap.size, 0, none⟩) 1 1, .int .u64 1, .int .u8 1, .slice (some ⟨w1.heap.size + 1, 0, none⟩) 1 1] := by rw [hW]; exact rdv_of_cl (Cl.newg _ _ _ _ (by simp))
  have hev : EV W eA (.slice (some ⟨w1.heap.size, 0, none⟩) 1 1) (.int .u64 1) (.int .u8 1) (.slice (some ⟨w1.heap.size + 1, 0, none⟩) 1 1) := ⟨rfl, rfl, by unfold eA U64; simp, by unfold eA; simp, ⟨_, 1, 1, rfl, r1, by omega, fun h => by cases h⟩, ⟨_, 1, 1, rfl, r2, by omega, fun h => by cases h⟩⟩
  have hes : REs W (some ⟨w1.heap.size + 1 + 1, 0, none⟩) 1 [eA] := REs.mk (EVs.one hev) rV rfl
  obtain ⟨ys, hys⟩ : ∃ ys, ys = (sealT [[eA]]).1 := ⟨_, rfl⟩
  have hyl : ys.length ≤ 100000 := by rw [hys]; exact seal_eA.2
  have hby : bytesT 64 [eA] = (ys, 0) := by rw [hys]; exact bytes_eA
  have hop : openT ys = ([eA], 0) := by rw [hys]; exact open_eA
  have hun : unT ys = ([[eA]], 0) := by rw [hys]; exact un_eA
  have HWR := Lib.hid (write_any (c := 1) 64 (hL1.below bW) hes (by omega) (by omega) (by decide) hby (by omega) (by omega))
  have HYL := Lib.hid hyl
  have HOP := Lib.hid hop
  have HUN := Lib.hid hun
  have BW := Lib.hid (b1.trans (bW.mono b1.size))
  have HBL := Lib.hid hbl1
  clear hL1 b1 bW hW r1 r2 rV hev hes hys hyl hby hop hun kc hbl1
  with_reducible refine HWR.out.mono ?_
  intro e w2 hq
  obtain ⟨K, kn, kc, L, ln, lc, bl', h1, o1, o2, hL2, hF2, hB2⟩ := hq
  have hm : metaT [eA] (ys, 0) = ([97], [97], 1, ys.length) := rfl
  rw [hm] at h1
  simp only at h1
  subst h1
  have B2 := Lib.hid (BW.out.trans (hF2.below HBL.out BW.out.size))
  obtain ⟨yn, hyn⟩ : ∃ yn : Int, yn = (ys.length : Int) := ⟨_, rfl⟩
  obtain ⟨W2, hW2⟩ : ∃ W2, W2 = w2.alloc (.cells #[.slice K kn kc, .slice L ln lc, .int .i64 1, .int .i64 yn] 31) := ⟨_, rfl⟩
  obtain ⟨g2, hg2⟩ : ∃ g2, g2 = w2.heap.size := ⟨_, rfl⟩
  have bW2 : Below w2.heap.size w2 W2 := by rw [hW2]; exact (Below.refl _ _).alloc (Nat.le_refl _) _
  have zW2 : Cl W2 g2 #[.slice K kn kc, .slice L ln lc, .int .i64 1, .int .i64 yn] 31 := by rw [hW2, hg2]; exact Cl.new _ _ _
  have HOT : Hid (Calls Tryz.prog 15 #[.pointer (some ⟨p, 0, none⟩), .string { data := #[116] }] W2 (RetTb W2 [eA] 0 ys.length)) := Lib.hid (by
    have h1 := open_any (.pointer (some ⟨p, 0, none⟩)) (.string { data := #[116] }) (xs := ys) (w := W2) (by
      have h2 := read_live (f := ([116], ys, ys.length)) (hL2.below bW2) (List.mem_singleton.2 rfl) (by unfold maxLen; simp) (by have := HYL.out; simp; omega)
      rw [← tname]
      exact h2) (by have := HYL.out; omega) (by rw [HUN.out]; decide) (by rw [HUN.out]; decide) (by
        rw [HUN.out]
        intro x hx
        rw [show ([[eA]], (0 : Int)).1.flatten = [eA] from rfl, List.mem_singleton] at hx
        rw [hx]
        decide)
    rw [HOP.out] at h1
    exact h1)
  have HZ2 := Lib.hid zW2
  have HW2 := Lib.hid hW2
  have HG2 := Lib.hid hg2
  have BW2 := Lib.hid (B2.out.trans (bW2.mono B2.out.size))
  rw [← hyn]
  clear o1 o2 hL2 hF2 hB2 hm bW2 zW2 hW2 hg2 hyn
  go_upto_region 3 with (fail)
  rw [← HW2.out, ← HG2.out]
  go_wp2_with fail
  with_reducible refine HOT.out.mono ?_
  rintro e w3 (⟨h1, _⟩ | ⟨_, tb, x, y, K3, kn3, kc3, F3, fn3, fc3, L3, m3, d3, h1, hx, hy, zt, o3, o4, r3, _, b3⟩)
  · exact absurd rfl h1
  · injection hx with hx
    subst hx
    subst h1
    have a2 : w3.cell? ⟨g2, 2, none⟩ = some (.int .i64 1) := (HZ2.out.below b3).cell 2
    have a0 : w3.cell? ⟨tb, 0, none⟩ = some (.slice K3 kn3 kc3) := zt.cell 0
    have a4 : w3.cell? ⟨tb, 2, none⟩ = some (.int .i64 1) := zt.cell 2
    have hk3 : 0 < kn3 := by rw [← o3.len]; decide
    have hcv := conv_rd (c := kc3) o3.rd hk3
    have hcmp : ((bsB [97]).toList == [97]) = true := by rw [ByteArray.toList_eq]; rfl
    have hcv2 : (convert 29 9 (.slice K3 kn3 kc3)).run Tryz.prog w3 = .ok (.string (bsB [97])) w3 := hcv
    have HF : Hid (RetT w true (.returned (.bool true)) w3) := Lib.hid ⟨rfl, BW2.out.trans (b3.mono BW2.out.size)⟩
    clear hcv hy zt o3 o4 r3 b3
    go_wp2_with fail
    go_ret
    exact HF.out
end Go.Proofs.YtbgelbdnkbhffaaGreat
namespace Go.Proofs.YtbgelbdnkbhffaaGreat
open Go Go.RowKit

end Go.Proofs.YtbgelbdnkbhffaaGreat
namespace Go.Proofs.YtbgelbdnkbhffaaGreat
open Go Go.RowKit

theorem few10_any {A : Option Addr} {n c : Nat} {m : Nat} (hc : n ≤ c) (w : World) : Calls Tryz.prog 9 #[.slice A n c, .int .i64 (m : Int)] w (fun e w' => e = .returned (.slice A (min n m) c) ∧ w' = w) := by
  by_cases h : m < n
  · have hm : min n m = m := by omega
    have hcl : ∀ w, (Instr.slice 22 (.slice A n c) none (some (.int .i64 (m : Int))) none).run Tryz.prog w = .ok (.slice A m c) w := fun w => cut4_h Tryz.underlying22 elem4 size4 A (by omega) w
    rw [hm]
    clear hm
    go_enter Tryz.func9, Tryz.ntmps9
    go_wp2_with fail
    go_ret
    exact ⟨rfl, rfl⟩
  · have hm : min n m = n := by omega
    rw [hm]
    clear hm
    go_enter Tryz.func9, Tryz.ntmps9
    go_wp2_with fail
    go_ret
    exact ⟨rfl, rfl⟩
theorem meta_ok {es : List En} {z : List UInt8 × Int} {x y : En} (h : z.2 = 0) (hx : es[0]? = some x) (hy : es[es.length - 1]? = some y) : metaT es z = (x.key, y.key, es.length, z.1.length) := by
  unfold metaT
  rw [if_neg (fun k => k h), hx, hy]
  rfl
end Go.Proofs.YtbgelbdnkbhffaaGreat
namespace Go.Proofs.YtbgelbdnkbhffaaGreat
open Go Go.RowKit

/-- Entries that can be read, and a kind. -/
def RetPs (w : World) (z : List En × Int) (e : Ending) (w' : World) : Prop :=
  ∃ L m d, e = .returned (.tuple #[.slice L m d, .int .i64 z.2]) ∧ REs w' L m z.1 ∧ m ≤ d ∧ Below w.heap.size w w'
theorem RetPs.no {w w' : World} {z : List En × Int} {k : Int} (hz : z = ([], k)) (hb : Below w.heap.size w w') : RetPs w z (.returned (.tuple #[.slice none 0 0, .int .i64 k])) w' := by
  subst hz
  exact ⟨none, 0, 0, rfl, REs.nil _ _, Nat.le_refl _, hb⟩
/-- Entries put behind one another so far, in memory of their own. -/
def PsS (w0 : World) (L : Option Addr) (m d : Nat) (es : List En) (wr : World) : Prop :=
  ∃ vs, OwnE wr w0.heap.size L m d vs ∧ EOs w0.heap.size wr es vs ∧ OffW vs (blk L) ∧ es.length = m ∧ Below w0.heap.size w0 wr
theorem PsS.bel {w0 wr : World} {L : Option Addr} {m d : Nat} {es : List En} (h : PsS w0 L m d es wr) : Below w0.heap.size w0 wr := by
  obtain ⟨_, _, _, _, _, h⟩ := h
  exact h
theorem PsS.below {w0 wr wx : World} {L : Option Addr} {m d : Nat} {es : List En} (h : PsS w0 L m d es wr) (hb : Below wr.heap.size wr wx) : PsS w0 L m d es wx := by
  obtain ⟨vs, h1, h2, h3, h4, h5⟩ := h
  exact ⟨vs, h1.below hb, h2.below hb, h3, h4, h5.trans (hb.mono h5.size)⟩
theorem PsS.res {w0 wr : World} {L : Option Addr} {m d : Nat} {es : List En} (h : PsS w0 L m d es wr) : REs wr L m es := by
  obtain ⟨vs, h1, h2, h3, h4, h5⟩ := h
  exact REs.mk h2.evs h1.rd h4
end Go.Proofs.YtbgelbdnkbhffaaGreat
namespace Go.Proofs.YtbgelbdnkbhffaaGreat
open Go Go.RowKit

/-- The least place that isn't ahead of a place. -/
def LeT (es : List En) (n : Nat) (pl : En) (r : Nat) : Prop := r ≤ n ∧ (∀ t, t < r → nlT es pl t = false) ∧ (∀ t, r ≤ t → t < n → nlT es pl t = true)
/-- What Range comes to: the entries between two places, in memory of their own. -/
def RetRn (w : World) (es : List En) (n : Nat) (fr up : List UInt8) (e : Ending) (w' : World) : Prop :=
  ∃ (r z : Nat) (L : Option Addr) (k d : Nat), LeT es n (plT fr 18446744073709551615) r ∧ (if up.length = 0 then z = n else LeT es n (plT up 18446744073709551615) z) ∧ e = .returned (.slice L k d) ∧ RowE w w.heap.size L k d ((es.take z).drop r) w'
theorem drop_take_snoc {es : List En} {r k : Nat} {x : En} (h : es[r + k]? = some x) : (es.drop r).take (k + 1) = (es.drop r).take k ++ [x] := by
  rw [List.take_add_one, List.getElem?_drop, h]
  rfl
theorem rn_end {es : List En} {r z : Nat} : (es.take z).drop r = (es.drop r).take (z - r) := by rw [List.drop_take]

section
variable {w w1 : World} {q n c : Nat} {A : Option Addr} {u0 u1 u2 u3 : Value} {es : List En}
set_option maxRecDepth 100000 in
set_option maxHeartbeats 16000000 in
theorem tbRange_any {F T : Option Addr} {fn fc tn tc : Nat} {xs ys : List UInt8} (hq : Cl w q #[u0, u1, u2, u3, .slice A n c] 43) (h : REs w A n es) (hn : n ≤ 2097152) (hso : SortL es) (hs : ∀ x ∈ es, SzE x) (hf : Rd w F fn xs) (hfc : fn ≤ fc) (hfn : F = none → fc = 0) (ht : Rd w T tn ys) (htc : tn ≤ tc) (htn : T = none → tc = 0) (htl : tn ≤ 1099511627776) :
    Calls Tryz.prog 23 #[.pointer (some ⟨q, 0, none⟩), .slice F fn fc, .slice T tn tc] w (RetRn w es n xs ys) := by
  have HL := Lib.hid h.len
  have HS := Lib.hid hs
  have HH := Lib.hid h
  have HQ := Lib.hid hq
  obtain ⟨pf, hpf⟩ : ∃ x, x = plT xs 18446744073709551615 := ⟨_, rfl⟩
  obtain ⟨pt, hpt⟩ : ∃ x, x = plT ys 18446744073709551615 := ⟨_, rfl⟩
  have HBF : Hid (∀ wx, Below w.heap.size w wx → Calls Tryz.prog 73 #[.pointer (some ⟨q, 0, none⟩), .slice F fn fc] wx (RetSe wx n (nlT es pf))) := Lib.hid (fun wx hb => by rw [hpf]; exact tbBegin_any (hq.below hb) (h.below hb) (by omega) hso (hf.below hb) hfc hfn)
  have HBT : Hid (∀ wx, Below w.heap.size w wx → Calls Tryz.prog 73 #[.pointer (some ⟨q, 0, none⟩), .slice T tn tc] wx (RetSe wx n (nlT es pt))) := Lib.hid (fun wx hb => by rw [hpt]; exact tbBegin_any (hq.below hb) (h.below hb) (by omega) hso (ht.below hb) htc htn)
  have HRT : Hid (∀ r z L k d e w', LeT es n pf r → (if tn = 0 then z = n else LeT es n pt z) → e = Ending.returned (.slice L k d) → RowE w w.heap.size L k d ((es.drop r).take (z - r)) w' → RetRn w es n xs ys e w') := Lib.hid (fun r z L k d e w' h1 h2 h3 h4 => by
    rw [hpf] at h1
    rw [hpt, ← ht.len] at h2
    exact ⟨r, z, L, k, d, h1, h2, h3, by rw [rn_end]; exact h4⟩)
  have l4 : w.cell? ⟨q, 4, none⟩ = some (.slice A n c) := hq.cell 4
  clear h hq hs hf hfn ht htn hpf hpt hso
  go_enter Tryz.func23, Tryz.ntmps23
  go_upto_if 17 with (fail)
  go_cut [7] (fun s7 wx => ∃ z : Nat, s7 = .int .i64 (z : Int) ∧ z ≤ n ∧ (if tn = 0 then z = n else LeT es n pt z) ∧ Below w.heap.size w wx)
  case first =>
    by_cases h0 : tn = 0
    · subst h0
      go_wp2_with fail
      go_meet
      exact ⟨n, rfl, Nat.le_refl _, by simp, Below.refl _ _⟩
    · have t1 : decide ((tn : Int) > 0) = true := by simp; omega
      go_wp2_with fail
      with_reducible refine (HBT.out _ (Below.refl _ _)).mono ?_
      intro e w1 hq
      obtain ⟨r, h1, h2, h3, h4, b1⟩ := RetSe.outT hq
      subst h1
      clear hq
      go_wp2_with fail
      go_meet
      exact ⟨r, rfl, h2, by rw [if_neg h0]; exact ⟨h2, h3, h4⟩, b1⟩
  case rest =>
    obtain ⟨z, rfl, hz, hzt, b1⟩ := hcut
    have HZT := Lib.hid hzt
    have HB1 := Lib.hid b1
    clear hzt b1
    go_wp2_with fail
    with_reducible refine (HBF.out _ HB1.out).mono ?_
    intro e w2 hq
    obtain ⟨r, h1, h2, h3, h4, b2⟩ := RetSe.outT hq
    subst h1
    have HLE : Hid (LeT es n pf r) := Lib.hid ⟨h2, h3, h4⟩
    have HB2 := Lib.hid (HB1.out.trans (b2.mono HB1.out.size))
    clear hq h3 h4 b2 l4
    go_wp2_with fail
    go_loopw [8, 9] (fun s8 s9 wr => ∃ (k i d : Nat) (L : Option Addr), i = r + k ∧ k ≤ z - r ∧ s9 = .int .i64 (i : Int) ∧ s8 = .slice L k d ∧ RowE w w.heap.size L k d ((es.drop r).take k) wr) (fun _ s _ => z - (intOf s).toNat)
    case atStart => exact ⟨0, r, 0, none, rfl, Nat.zero_le _, rfl, rfl, [], OwnE.nil _ _, rfl, OffW.nil _, rfl, HB2.out, HB2.out.size, Fam.nil _ _⟩
    case round =>
      obtain ⟨k, i, d, L, hik, hk, rfl, rfl, hrow⟩ := hrel
      have HR := Lib.hid hrow
      have sw := hrow.size
      have hbr := hrow.bel
      have HIK := Lib.hid hik
      by_cases hlt : i < z
      · have hin : i < n := by omega
        have hk1 : k + 1 ≤ z - r := by omega
        have hkn : k ≤ 2097152 := by omega
        have hR : REs wr A n es := HH.out.below hbr
        have m4 : wr.cell? ⟨q, 4, none⟩ = some (.slice A n c) := (HQ.out.below hbr).cell 4
        obtain ⟨b, off, rfl, hbl⟩ := hR.pos (by omega)
        obtain ⟨x, v0, v1, v2, v3, hx, m0, m1, m2, m3, hev⟩ := hR.at_ i hin
        have hsx := HS.out x (List.mem_of_getElem? hx)
        have hwf := hR.wf x (List.mem_of_getElem? hx)
        have HXK : Hid ((es.drop r).take (k + 1) = (es.drop r).take k ++ [x]) := Lib.hid (drop_take_snoc (by rw [← hik]; exact hx))
        obtain ⟨K, kn, kc, V, vn, vc, rfl, rfl, rfl, rfl, _⟩ := hev.parts
        have HEN := Lib.hid (tbOwn_any hev hsx)
        clear hrow hx hev hR hbr hik
        go_wp2_with fail
        with_reducible refine HEN.out.mono ?_
        rintro e w3 ⟨K2, kn2, kc2, V2, vn2, vc2, rfl, o1, o2, b2, dj⟩
        obtain ⟨vs, q1, q2, q3, q4, q5, q6, q7⟩ := HR.out
        have HFM := Lib.hid (fam_two o1 o2 dj)
        have Q7 := Lib.hid q7
        have s2 := b2.size
        have HEO : Hid (EO w.heap.size w3 x (.slice K2 kn2 kc2) (.int .u64 (x.seq : Int)) (.int .u8 (x.kind : Int)) (.slice V2 vn2 vc2)) := Lib.hid ⟨K2, kn2, kc2, V2, vn2, vc2, rfl, rfl, rfl, rfl, o1.mono q6, o2.mono q6, hwf⟩
        have HOF : Hid (OffW [.slice K2 kn2 kc2, .int .u64 (x.seq : Int), .int .u8 (x.kind : Int), .slice V2 vn2 vc2] (blk L)) := Lib.hid (EO.off (base := wr.heap.size) (w := w3) (e := x) ⟨K2, kn2, kc2, V2, vn2, vc2, rfl, rfl, rfl, rfl, o1, o2, hwf⟩ (fun g hg => .inl (q1.lt g hg).2))
        have H2 := Lib.hid b2
        have Q1 := Lib.hid q1
        have Q2 := Lib.hid q2
        have Q3 := Lib.hid q3
        have Q4 := Lib.hid q4
        have Q5 := Lib.hid q5
        have hcell : ∀ u ∈ [Value.slice K2 kn2 kc2, .int .u64 (x.seq : Int), .int .u8 (x.kind : Int), .slice V2 vn2 vc2], u.oneCell' = true := HEO.out.ev.cells
        have HCL := Lib.hid hcell
        have hI1 : IntKind.i64.wrap ((i : Int) + 1) = ((i + 1 : Nat) : Int) := by rw [IntWalk.i64_in _ (by omega)]; omega
        clear o1 o2 b2 q1 q2 q3 q4 q5 q7 dj hcell m0 m1 m2 m3 m4
        go_wp2_with (at_builtin; refine wpList_app4t w3 rfl _ _ 22 rfl w.heap.size _ 64 Tryz.underlying22 info_ent rfl L k d vs rfl (Q1.out.below H2.out) _ _ _ _ HCL.out w3.heap.size rfl rfl ?_ ?_ ?_ ?_)
        · omega
        · omega
        · omega
        intro L2 d2 w4 hG4 hg4 hb4
        have HQ2 : Hid (RowE w w.heap.size L2 (k + 1) d2 ((es.drop r).take (k + 1)) w4) := Lib.hid (by
          rw [HXK.out]
          exact rowE_snoc Q1.out Q2.out Q3.out Q4.out Q5.out q6 Q7.out H2.out HEO.out HOF.out HFM.out hG4 hg4 hb4)
        clear hG4 hg4 hb4
        go_wp2_with fail
        go_roundw
        case rel => exact ⟨k + 1, i + 1, d2, L2, by have := HIK.out; omega, hk1, by go_num, rfl, HQ2.out⟩
        case measure => simp [intOf]; omega
      · have hkz : k = z - r := by omega
        have HF : Hid (RetRn w es n xs ys (.returned (.slice L k d)) wr) := Lib.hid (HRT.out r z L k d _ _ HLE.out HZT.out rfl (by rw [← hkz]; exact HR.out))
        clear hrow hbr hik
        go_wp2_with fail
        exact bodyPost_ret (v := .slice L k d) (by simp [results, Tryz.f23, go_sem]; try rfl) rfl HF.out
end
end Go.Proofs.YtbgelbdnkbhffaaGreat
namespace Go.Proofs.YtbgelbdnkbhffaaGreat
open Go Go.RowKit

theorem find_place {es : List En} {r : Nat} {key : List UInt8} {at_ : Nat} (h : LeT es es.length (plT key at_) r) : es.find? (fun e => !lessE e ⟨key, at_, 0, []⟩) = es[r]? := by
  obtain ⟨h1, h2, h3⟩ := h
  have hno : (es.take r).find? (fun e => !lessE e ⟨key, at_, 0, []⟩) = none := by
    rw [List.find?_eq_none]
    intro x hx
    obtain ⟨i, hi⟩ := List.getElem?_of_mem hx
    have hil := (List.getElem?_eq_some_iff.1 hi).1
    rw [List.length_take] at hil
    rw [List.getElem?_take_of_lt (by omega)] at hi
    have h4 := h2 i (by omega)
    unfold nlT at h4
    rw [hi] at h4
    unfold plT at h4
    simp only at h4
    rw [h4]
    exact Bool.false_ne_true
  have e : es.find? (fun e => !lessE e ⟨key, at_, 0, []⟩) = (es.take r ++ es.drop r).find? (fun e => !lessE e ⟨key, at_, 0, []⟩) := by rw [List.take_append_drop]
  rw [e, List.find?_append, hno]
  cases hd : es[r]? with
  | none =>
    have : es.length ≤ r := List.getElem?_eq_none_iff.1 hd
    rw [List.drop_eq_nil_of_le this]
    rfl
  | some x =>
    obtain ⟨hl, hx⟩ := List.getElem?_eq_some_iff.1 hd
    rw [List.drop_eq_getElem_cons hl, hx]
    have h4 := h3 r (Nat.le_refl _) hl
    unfold nlT at h4
    rw [hd] at h4
    unfold plT at h4
    simp only at h4
    rw [List.find?_cons, h4]
    rfl
/-- What Get finds, by the place. -/
theorem get_place {es : List En} {r : Nat} {key : List UInt8} {at_ : Nat} (hso : SortL es) (h : LeT es es.length (plT key at_) r) : findL key at_ es = keyed key es[r]? := by
  rw [← keyed_find hso, find_place h]
theorem filter_between {α : Type} (p : α → Bool) : ∀ (es : List α) (r z : Nat), (∀ i x, es[i]? = some x → (p x = true ↔ r ≤ i ∧ i < z)) → es.filter p = (es.take z).drop r
  | [], r, z, _ => by simp
  | a :: t, r, z, h => by
    have ha := h 0 a rfl
    have ht : ∀ r' z', (∀ i, (r ≤ i + 1 ∧ i + 1 < z) ↔ (r' ≤ i ∧ i < z')) → t.filter p = (t.take z').drop r' := fun r' z' hh =>
      filter_between p t r' z' (fun i x hx => (h (i + 1) x (by simpa using hx)).trans (hh i))
    cases z with
    | zero =>
      have h0 : p a = false := by
        cases hp : p a with
        | false => rfl
        | true => have := ha.1 hp; omega
      rw [List.filter_cons, h0, List.take_zero, List.drop_nil]
      have := ht r 0 (fun i => by omega)
      simpa using this
    | succ z =>
      cases r with
      | zero =>
        have h1 : p a = true := ha.2 (by omega)
        rw [List.filter_cons, h1, List.take_succ_cons, List.drop_zero, ht 0 z (fun i => by omega), List.drop_zero]
        rfl
      | succ r =>
        have h0 : p a = false := by
          cases hp : p a with
          | false => rfl
          | true => have := ha.1 hp; omega
        rw [List.filter_cons, h0, List.take_succ_cons, List.drop_succ_cons]
        exact ht r z (fun i => by omega)
theorem less_max {x : En} {key : List UInt8} (h : U64 x.seq) : (!lessE x (plT key 18446744073709551615)) = decide (0 ≤ cmpB x.key key) := by
  unfold lessE plT
  unfold U64 at h
  simp only
  have h1 : decide (18446744073709551615 < x.seq) = false := by rw [decide_eq_false_iff_not]; omega
  rw [h1, Bool.and_false, Bool.or_false]
  by_cases h2 : cmpB x.key key < 0
  · rw [decide_eq_true h2, decide_eq_false (by omega)]; rfl
  · rw [decide_eq_false h2, decide_eq_true (by omega)]; rfl
theorem le_place {es : List En} {r : Nat} {key : List UInt8} (hw : ∀ x ∈ es, U64 x.seq) (h : LeT es es.length (plT key 18446744073709551615) r) {i : Nat} {x : En} (hx : es[i]? = some x) : 0 ≤ cmpB x.key key ↔ r ≤ i := by
  have hl := (List.getElem?_eq_some_iff.1 hx).1
  have h1 := less_max (key := key) (hw x (List.mem_of_getElem? hx))
  have e : nlT es (plT key 18446744073709551615) i = decide (0 ≤ cmpB x.key key) := by
    unfold nlT
    rw [hx]
    exact h1
  by_cases hr : r ≤ i
  · have := h.2.2 i hr hl
    rw [e, decide_eq_true_eq] at this
    exact ⟨fun _ => hr, fun _ => this⟩
  · have := h.2.1 i (by omega)
    rw [e, decide_eq_false_iff_not] at this
    exact ⟨fun k => absurd k this, fun k => absurd k hr⟩
/-- Range's answer is the reference's list. -/
theorem range_ref {w w' : World} {es : List En} {n : Nat} {fr up : List UInt8} {e : Ending} (h : RetRn w es n fr up e w') (hl : es.length = n) (hw : ∀ x ∈ es, U64 x.seq) : ∃ L k d, e = .returned (.slice L k d) ∧ RowE w w.heap.size L k d (es.filter (inR fr up)) w' := by
  obtain ⟨r, z, L, k, d, h1, h2, h3, h4⟩ := h
  subst hl
  refine ⟨L, k, d, h3, ?_⟩
  rw [filter_between (inR fr up) es r z (fun i x hx => ?_)]
  · exact h4
  · have hil := (List.getElem?_eq_some_iff.1 hx).1
    have e1 := le_place hw h1 hx
    unfold inR
    rw [Bool.and_eq_true, decide_eq_true_eq, decide_eq_true_eq, e1]
    by_cases h0 : up.length = 0
    · rw [if_pos h0] at h2
      subst h2
      exact ⟨fun k => ⟨k.1, hil⟩, fun k => ⟨k.1, .inl h0⟩⟩
    · rw [if_neg h0] at h2
      have e2 := le_place hw h2 hx
      constructor
      · rintro ⟨k1, k2⟩
        rcases k2 with k2 | k2
        · exact absurd k2 h0
        · exact ⟨k1, by
            rcases Nat.lt_or_ge i z with q | q
            · exact q
            · have := e2.2 q; omega⟩
      · rintro ⟨k1, k2⟩
        refine ⟨k1, .inr ?_⟩
        rcases Int.lt_or_le (cmpB x.key up) 0 with q | q
        · exact q
        · have := e2.1 q; omega
end Go.Proofs.YtbgelbdnkbhffaaGreat
namespace Go.Proofs.YtbgelbdnkbhffaaGreat
open Go Go.RowKit

theorem range_all {w w' : World} {es : List En} {n : Nat} {e : Ending} (h : RetRn w es n [] [] e w') (hl : es.length = n) (hw : ∀ x ∈ es, U64 x.seq) : ∃ L k d, e = .returned (.slice L k d) ∧ RowE w w.heap.size L k d es w' := by
  obtain ⟨r, z, L, k, d, h1, h2, h3, h4⟩ := h
  rw [if_pos (show ([] : List UInt8).length = 0 from rfl)] at h2
  have hr : r = 0 := by
    rcases Nat.eq_zero_or_pos r with h0 | h0
    · exact h0
    · have h5 := h1.2.1 0 h0
      have h6 := h1.1
      obtain ⟨x, hx⟩ : ∃ x, es[0]? = some x := ⟨_, List.getElem?_eq_getElem (by omega)⟩
      unfold nlT at h5
      rw [hx] at h5
      simp only [Bool.not_eq_false'] at h5
      rcases lessE_iff.1 h5 with h7 | ⟨_, h7⟩
      · exfalso
        unfold plT at h7
        cases hk : x.key with
        | nil => rw [hk] at h7; revert h7; decide
        | cons a t => rw [hk] at h7; revert h7; simp [cmpB]
      · have := hw x (List.mem_of_getElem? hx)
        unfold plT at h7
        unfold U64 at this
        simp only at h7
        omega
  subst hr
  rw [h2, List.drop_zero, List.take_of_length_le (by omega)] at h4
  exact ⟨L, k, d, h3, h4⟩
end Go.Proofs.YtbgelbdnkbhffaaGreat
namespace Go.Proofs.YtbgelbdnkbhffaaGreat
open Go Go.RowKit

theorem cutS_ne (size : Int) (es : List En) : ∀ i, i ≤ es.length → ∀ g ∈ (cutS size es i).1, g ≠ []
  | 0, _, g, h => by cases h
  | i + 1, h, g, hg => by
    obtain ⟨_, h2, _⟩ := cutS_inv size es i (by omega)
    obtain ⟨x, hx⟩ : ∃ x, es[i]? = some x := ⟨_, List.getElem?_eq_getElem (by omega)⟩
    obtain ⟨gs, b, s, hgs⟩ : ∃ gs b s, cutS size es i = (gs, b, s) := ⟨_, _, _, rfl⟩
    have ih := cutS_ne size es i (by omega)
    rw [hgs] at h2 ih
    by_cases hs : size ≤ ((s + wE x : Nat) : Int)
    · rw [cutS_yes hgs hx hs] at hg
      rcases List.mem_append.1 hg with hg | hg
      · exact ih g hg
      · rw [List.mem_singleton] at hg
        subst hg
        intro h0
        have := congrArg List.length h0
        rw [List.length_drop, List.length_take] at this
        simp only [List.length_nil] at this h2
        omega
    · rw [cutS_no hgs hx hs] at hg
      exact ih g hg
theorem grpE_ne (size : Int) (es : List En) : ∀ g ∈ grpE size es, g ≠ [] := fun g hg => by
  unfold grpE at hg
  split at hg
  · next h =>
    rcases List.mem_append.1 hg with hg | hg
    · exact cutS_ne size es _ (Nat.le_refl _) g hg
    · rw [List.mem_singleton] at hg
      subst hg
      intro h0
      have := congrArg List.length h0
      rw [List.length_drop] at this
      simp only [List.length_nil] at this
      omega
  · exact cutS_ne size es _ (Nat.le_refl _) g hg
theorem sealG_bad {xs : List UInt8} (h : (sealG xs).2 ≠ 0) : (sealG xs).1 = [] := by
  unfold sealG at h ⊢
  split
  · rfl
  · next h1 => rw [if_neg h1] at h; exact absurd rfl h
theorem sealT_bad {ls : List (List En)} (h : (sealT ls).2 ≠ 0) : (sealT ls).1 = [] := by
  unfold sealT at h ⊢
  split
  · rfl
  · next h1 => rw [if_neg h1] at h; exact sealG_bad h
theorem bytes_bad {size : Int} {es : List En} (h : (bytesT size es).2 ≠ 0) : (bytesT size es).1 = [] := by
  unfold bytesT at h ⊢
  split
  · rfl
  · next h1 =>
    rw [if_neg h1] at h
    split
    · rfl
    · next h2 =>
      rw [if_neg h2] at h
      split
      · rfl
      · next h3 => rw [if_neg h3] at h; exact sealT_bad h
theorem bytes_parts {size : Int} {es : List En} (h : (bytesT size es).2 = 0) : es.length ≠ 0 ∧ ordE es = true ∧ (sealT (grpE size es)).2 = 0 ∧ bytesT size es = sealT (grpE size es) := by
  unfold bytesT at h ⊢
  split at h
  · exact absurd h (by decide)
  · next h1 =>
    rw [if_neg h1]
    split at h
    · next h2 => exact absurd h h2
    · next h2 =>
      rw [if_neg h2]
      split at h
      · exact absurd h (by decide)
      · next h3 =>
        rw [if_neg h3]
        simp only [not_or, Bool.not_eq_false] at h3
        exact ⟨h3.1, h3.2, h, rfl⟩
/-- What was written is read. -/
theorem write_open {size : Int} {es : List En} {ys : List UInt8} (hz : bytesT size es = (ys, 0)) (hw : ∀ x ∈ es, U64 x.seq ∧ x.kind < 256) : openT ys = (es, 0) ∧ (unT ys).1.flatten = es ∧ (unT ys).1.length ≤ es.length ∧ ys.length ≤ 1048584 ∧ es.length ≠ 0 := by
  obtain ⟨h1, h2, h3, h4⟩ := bytes_parts (size := size) (es := es) (by rw [hz])
  have hf := grpE_flat size es
  have hg : ∀ g ∈ grpE size es, g ≠ [] ∧ ∀ x ∈ g, U64 x.seq ∧ x.kind < 256 := fun g hg => ⟨grpE_ne size es g hg, fun x hx => hw x (by rw [← hf]; exact List.mem_flatten.2 ⟨g, hg, hx⟩)⟩
  have hy : (sealT (grpE size es)).1 = ys := by rw [← h4, hz]
  obtain ⟨_, q2, q3⟩ := seal_parts h3
  have h5 := open_seal h3 hg (by rw [hf]; exact h1) (by rw [hf]; exact h2)
  have h6 := un_seal h3 hg
  rw [hy, hf] at h5
  rw [hy] at h6
  refine ⟨h5, by rw [h6]; exact hf, by rw [h6]; exact grpE_len size es, ?_, h1⟩
  rw [← hy, q3, sealB_len]
  omega
/-- May a table with these first and last keys have keys between? -/
def overB (x y fr up : List UInt8) : Bool := (decide (up.length = 0) || decide (cmpB x up < 0)) && decide (0 ≤ cmpB y fr)
theorem first_le {es : List En} (hso : SortL es) {x z : En} (hx : es[0]? = some x) (hz : z ∈ es) : z = x ∨ lessE x z = true := by
  cases es with
  | nil => cases hz
  | cons a t =>
    injection hx with hx
    subst hx
    rcases List.mem_cons.1 hz with h | h
    · exact .inl h
    · exact .inr ((List.pairwise_cons.1 hso).1 z h)
theorem last_ge {es : List En} (hso : SortL es) {y z : En} (hy : es[es.length - 1]? = some y) (hz : z ∈ es) : z = y ∨ lessE z y = true := by
  obtain ⟨i, hi⟩ := List.getElem?_of_mem hz
  obtain ⟨hl, he⟩ := List.getElem?_eq_some_iff.1 hi
  obtain ⟨hl2, he2⟩ := List.getElem?_eq_some_iff.1 hy
  by_cases h : i = es.length - 1
  · subst h
    exact .inl (by rw [← he, ← he2])
  · have := List.pairwise_iff_getElem.1 hso i (es.length - 1) hl hl2 (by omega)
    rw [he, he2] at this
    exact .inr this
theorem over_some {es : List En} (hso : SortL es) {x y : En} (hx : es[0]? = some x) (hy : es[es.length - 1]? = some y) {fr up : List UInt8} (h : (es.filter (inR fr up)).length ≠ 0) : overB x.key y.key fr up = true := by
  obtain ⟨z, hz⟩ : ∃ z, z ∈ es.filter (inR fr up) := by
    cases he : es.filter (inR fr up) with
    | nil => rw [he] at h; exact absurd rfl h
    | cons a t => exact ⟨a, by simp⟩
  obtain ⟨h1, h2⟩ := List.mem_filter.1 hz
  unfold inR at h2
  rw [Bool.and_eq_true, decide_eq_true_eq, decide_eq_true_eq] at h2
  unfold overB
  rw [Bool.and_eq_true, Bool.or_eq_true, decide_eq_true_eq, decide_eq_true_eq, decide_eq_true_eq]
  refine ⟨?_, ?_⟩
  · rcases h2.2 with k | k
    · exact .inl k
    · rcases first_le hso hx h1 with q | q
      · subst q; exact .inr k
      · exact .inr (less_key q k)
  · rcases last_ge hso hy h1 with q | q
    · subst q; exact h2.1
    · rcases Int.lt_or_le (cmpB y.key fr) 0 with k | k
      · have := less_key q k
        omega
      · exact k
end Go.Proofs.YtbgelbdnkbhffaaGreat
namespace Go.Proofs.YtbgelbdnkbhffaaGreat
open Go Go.RowKit Go.Maps

section
variable {w : World} {q n c : Nat} {A : Option Addr} {u0 u1 u2 u3 : Value} {es : List En}
set_option maxRecDepth 100000 in
set_option maxHeartbeats 16000000 in
theorem tbGet_any {L : Option Addr} {kn kc at_ : Nat} {key : List UInt8} (hq : Cl w q #[u0, u1, u2, u3, .slice A n c] 43) (h : REs w A n es) (hn : n ≤ 2097152) (hso : SortL es) (hs : ∀ x ∈ es, SzE x) (hr : Rd w L kn key) (hc : kn ≤ kc) (hd : L = none → kc = 0) (hat : U64 at_) :
    Calls Tryz.prog 17 #[.pointer (some ⟨q, 0, none⟩), .slice L kn kc, .int .u64 (at_ : Int)] w (RetGt w (findL key at_ es)) := by
  obtain ⟨U, hU⟩ : ∃ U, U = w.alloc (.cells #[.slice none 0 0, .int .u64 0, .int .u8 0, .slice none 0 0] 49) := ⟨_, rfl⟩
  have bU : Below w.heap.size w U := by rw [hU]; exact (Below.refl _ _).alloc (Nat.le_refl _) _
  have ZU := Lib.hid (show Cl U w.heap.size #[.slice none 0 0, .int .u64 0, .int .u8 0, .slice none 0 0] 49 by rw [hU]; exact Cl.new _ _ _)
  have HFI : Hid (Calls Tryz.prog 70 #[.pointer (some ⟨q, 0, none⟩), .slice L kn kc, .int .u64 (at_ : Int)] U (RetSe U n (nlT es (plT key at_)))) := Lib.hid (tbFind_any (hq.below bU) (h.below bU) (by omega) hso (hr.below bU) hc hd hat)
  obtain ⟨pl, hpl⟩ : ∃ pl, pl = plT key at_ := ⟨_, rfl⟩
  rw [← hpl] at HFI
  have BU := Lib.hid bU
  have HQ := Lib.hid (hq.below bU)
  have HE := Lib.hid (h.below bU)
  have HR := Lib.hid (hr.below bU)
  have HS := Lib.hid hs
  have HL := Lib.hid h.len
  have HGP : Hid (∀ r, LeT es n pl r → findL key at_ es = keyed key es[r]?) := Lib.hid (fun r hr => by
    rw [hpl, ← h.len] at hr
    exact get_place hso hr)
  have sU : w.heap.size < U.heap.size := by rw [hU]; simp
  have HU := Lib.hid hU
  clear hq h hso hs hr bU hU hpl hd hat
  go_enter Tryz.func17, Tryz.ntmps17
  go_upto_region 1 with (fail)
  rw [← HU.out]
  go_wp2_with fail
  with_reducible refine HFI.out.mono ?_
  intro e w1 hq
  obtain ⟨r, h1, h2, h3, h4, b1⟩ := RetSe.outT hq
  subst h1
  have HGR := Lib.hid (HGP.out r ⟨h2, h3, h4⟩)
  have B1 := Lib.hid (belowT BU.out b1)
  have Z1 := Lib.hid (ZU.out.below b1)
  have HR1 := Lib.hid (HR.out.below b1)
  have HE1 := HE.out.below b1
  have m4 : w1.cell? ⟨q, 4, none⟩ = some (.slice A n c) := (HQ.out.below b1).cell 4
  have s1 := b1.size
  clear hq h3 h4 b1
  by_cases hrn : r = n
  · have t1 : ((r : Int) == (n : Int)) = true := by rw [beq_iff_eq]; omega
    have HGN : Hid (findL key at_ es = none) := Lib.hid (by
      rw [HGR.out]
      have : es[r]? = none := List.getElem?_eq_none_iff.2 (by have := HL.out; omega)
      rw [this]; rfl)
    obtain ⟨g0, g1, g2, g3, k0, k1, k2, k3⟩ := Z1.out.c4
    clear HE1
    go_wp2_with fail
    obtain ⟨X, hX⟩ : ∃ X, X = ((((w1.setCell ⟨w.heap.size, 0, none⟩ (.slice none 0 0)).setCell ⟨w.heap.size, 1, none⟩ (.int .u64 0)).setCell ⟨w.heap.size, 2, none⟩ (.int .u8 0)).setCell ⟨w.heap.size, 3, none⟩ (.slice none 0 0)) := ⟨_, rfl⟩
    rw [← hX]
    have zX : Cl X w.heap.size #[.slice none 0 0, .int .u64 0, .int .u8 0, .slice none 0 0] 49 := by rw [hX]; exact Z1.out.put4 rfl _ _ _ _
    have bX : Below w.heap.size w X := by rw [hX]; exact below_set (below_set (below_set (below_set B1.out 0 _ (Nat.le_refl _)) 1 _ (Nat.le_refl _)) 2 _ (Nat.le_refl _)) 3 _ (Nat.le_refl _)
    obtain ⟨x0, x1, x2, x3, _⟩ := zX.c4
    refine bodyPost_ret (v := .tuple #[.agg #[.slice none 0 0, .int .u64 0, .int .u8 0, .slice none 0 0], .bool false]) (by simp [results, Tryz.results17, go_sem, x0, x1, x2, x3]; try rfl) rfl (.inl ⟨HGN.out, rfl, bX⟩)
  · have hrl : r < n := by omega
    have t1 : ((r : Int) == (n : Int)) = false := by rw [beq_eq_false_iff_ne]; omega
    obtain ⟨b, off, rfl, hbl⟩ := HE1.pos (by omega)
    obtain ⟨x, v0, v1, v2, v3, hx, c0, c1, c2, c3, hev⟩ := HE1.at_ r hrl
    have hsx := HS.out x (List.mem_of_getElem? hx)
    obtain ⟨K, en, ec, V, vn, vc, rfl, rfl, rfl, rfl, r0, r3, _⟩ := hev.parts
    have hlk : en ≤ maxLen := maxLen_e (by rw [← r0.len]; exact hsx.1)
    obtain ⟨z, hz⟩ : ∃ z, cmpB x.key key = z := ⟨_, rfl⟩
    have HC : Hid (Calls Tryz.prog 71 #[.slice K en ec, .slice L kn kc] w1 fun e w' => e = .returned (.int .i64 z) ∧ w1 = w') := Lib.hid (Cmp_is K L en kn ec kc x.key key z hz _ r0 HR1.out)
    have HW : Hid (Calls Tryz.prog 72 #[.agg #[.slice K en ec, .int .u64 (x.seq : Int), .int .u8 (x.kind : Int), .slice V vn vc]] w1 (RetEn w1 x)) := Lib.hid (tbOwn_any hev hsx)
    have HXR := Lib.hid hx
    by_cases h0 : z = 0
    · subst h0
      have HGK : Hid (findL key at_ es = some x) := Lib.hid (by rw [HGR.out, HXR.out]; show (if cmpB x.key key = 0 then some x else none) = some x; rw [if_pos hz])
      have tz : ((0 : Int) != 0) = false := rfl
      clear hz r0 r3 hev hx HE1 hsx
      go_wp2_with fail
      with_reducible refine HC.out.mono ?_
      rintro e w2 ⟨rfl, rfl⟩
      go_wp2_with fail
      with_reducible refine HW.out.mono ?_
      rintro e w3 ⟨K2, kn2, kc2, V2, vn2, vc2, rfl, o1, o2, b3, dj⟩
      have DJ := Lib.hid dj
      have Z3 := Lib.hid (Z1.out.below b3)
      have B3 := Lib.hid (belowT B1.out b3)
      have O1 := Lib.hid o1
      have O2 := Lib.hid o2
      obtain ⟨g0, g1, g2, g3, k0, k1, k2, k3⟩ := Z3.out.c4
      clear o1 o2 b3 dj c0 c1 c2 c3 m4
      go_wp2_with fail
      obtain ⟨X, hX⟩ : ∃ X, X = ((((w3.setCell ⟨w.heap.size, 0, none⟩ (.slice K2 kn2 kc2)).setCell ⟨w.heap.size, 1, none⟩ (.int .u64 (x.seq : Int))).setCell ⟨w.heap.size, 2, none⟩ (.int .u8 (x.kind : Int))).setCell ⟨w.heap.size, 3, none⟩ (.slice V2 vn2 vc2)) := ⟨_, rfl⟩
      have s3 : w.heap.size < w1.heap.size := by omega
      have O1X : Own 5 X w.heap.size K2 kn2 kc2 x.key := by rw [hX]; exact ((((O1.out.set s3 0 _).set s3 1 _).set s3 2 _).set s3 3 _).mono (Nat.le_of_lt s3)
      have O2X : Own 5 X w.heap.size V2 vn2 vc2 x.val := by rw [hX]; exact ((((O2.out.set s3 0 _).set s3 1 _).set s3 2 _).set s3 3 _).mono (Nat.le_of_lt s3)
      rw [← hX]
      have zX : Cl X w.heap.size #[.slice K2 kn2 kc2, .int .u64 (x.seq : Int), .int .u8 (x.kind : Int), .slice V2 vn2 vc2] 49 := by rw [hX]; exact Z3.out.put4 rfl _ _ _ _
      have bX : Below w.heap.size w X := by rw [hX]; exact below_set (below_set (below_set (below_set B3.out 0 _ (Nat.le_refl _)) 1 _ (Nat.le_refl _)) 2 _ (Nat.le_refl _)) 3 _ (Nat.le_refl _)
      obtain ⟨x0, x1, x2, x3, _⟩ := zX.c4
      refine bodyPost_ret (v := .tuple #[.agg #[.slice K2 kn2 kc2, .int .u64 (x.seq : Int), .int .u8 (x.kind : Int), .slice V2 vn2 vc2], .bool true]) (by simp [results, Tryz.results17, go_sem, x0, x1, x2, x3]; try rfl) rfl (.inr ⟨x, K2, kn2, kc2, V2, vn2, vc2, HGK.out, rfl, O1X, O2X, bX, DJ.out⟩)
    · have HGK : Hid (findL key at_ es = none) := Lib.hid (by rw [HGR.out, HXR.out]; show (if cmpB x.key key = 0 then some x else none) = none; rw [hz, if_neg h0])
      have tz : (z != 0) = true := by simpa using h0
      obtain ⟨g0, g1, g2, g3, k0, k1, k2, k3⟩ := Z1.out.c4
      clear hz r0 r3 hev hx HE1 hsx
      go_wp2_with fail
      with_reducible refine HC.out.mono ?_
      rintro e w2 ⟨rfl, rfl⟩
      go_wp2_with fail
      obtain ⟨X, hX⟩ : ∃ X, X = ((((w1.setCell ⟨w.heap.size, 0, none⟩ (.slice none 0 0)).setCell ⟨w.heap.size, 1, none⟩ (.int .u64 0)).setCell ⟨w.heap.size, 2, none⟩ (.int .u8 0)).setCell ⟨w.heap.size, 3, none⟩ (.slice none 0 0)) := ⟨_, rfl⟩
      rw [← hX]
      have zX : Cl X w.heap.size #[.slice none 0 0, .int .u64 0, .int .u8 0, .slice none 0 0] 49 := by rw [hX]; exact Z1.out.put4 rfl _ _ _ _
      have bX : Below w.heap.size w X := by rw [hX]; exact below_set (below_set (below_set (below_set B1.out 0 _ (Nat.le_refl _)) 1 _ (Nat.le_refl _)) 2 _ (Nat.le_refl _)) 3 _ (Nat.le_refl _)
      obtain ⟨x0, x1, x2, x3, _⟩ := zX.c4
      refine bodyPost_ret (v := .tuple #[.agg #[.slice none 0 0, .int .u64 0, .int .u8 0, .slice none 0 0], .bool false]) (by simp [results, Tryz.results17, go_sem, x0, x1, x2, x3]; try rfl) rfl (.inl ⟨HGK.out, rfl, bX⟩)
set_option maxRecDepth 100000 in
set_option maxHeartbeats 8000000 in
theorem tbOver_any {K F G T : Option Addr} {kn kc fn fc gn gc tn tc cnt : Nat} {u3 u4 : Value} {xs ys fr up : List UInt8} (hq : Cl w q #[.slice K kn kc, .slice F fn fc, .int .i64 (cnt : Int), u3, u4] 43) (hK : Rd w K kn xs) (hF : Rd w F fn ys) (hG : Rd w G gn fr) (hT : Rd w T tn up) :
    Calls Tryz.prog 25 #[.pointer (some ⟨q, 0, none⟩), .slice G gn gc, .slice T tn tc] w (fun e w' => e = .returned (.bool (decide (0 < cnt) && overB xs ys fr up)) ∧ w = w') := by
  obtain ⟨z1, hz1⟩ : ∃ z, cmpB xs up = z := ⟨_, rfl⟩
  obtain ⟨z2, hz2⟩ : ∃ z, cmpB ys fr = z := ⟨_, rfl⟩
  have HC1 := Lib.hid (Cmp_is K T kn tn kc tc xs up z1 hz1 w hK hT)
  have HC2 := Lib.hid (Cmp_is F G fn gn fc gc ys fr z2 hz2 w hF hG)
  have HO : Hid (overB xs ys fr up = ((decide (tn = 0) || decide (z1 < 0)) && decide (0 ≤ z2))) := Lib.hid (by unfold overB; rw [hz1, hz2, hT.len])
  have l0 : w.cell? ⟨q, 0, none⟩ = some (.slice K kn kc) := hq.cell 0
  have l1 : w.cell? ⟨q, 1, none⟩ = some (.slice F fn fc) := hq.cell 1
  have l2 : w.cell? ⟨q, 2, none⟩ = some (.int .i64 (cnt : Int)) := hq.cell 2
  clear hq hK hF hG hT hz1 hz2
  by_cases h0 : tn = 0
  · subst h0
    by_cases hc : 0 < cnt
    · have hd : decide ((cnt : Int) > 0) = true := by simp; omega
      have hd2 : decide ((0 : Int) < (cnt : Int)) = true := by simp; omega
      go_enter Tryz.func25, Tryz.ntmps25
      go_wp2_with fail
      with_reducible refine HC2.out.mono ?_
      rintro e w1 ⟨rfl, rfl⟩
      go_wp2_with fail
      go_ret
      exact ⟨by rw [HO.out]; simp [hc], rfl⟩
    · have hd : decide ((cnt : Int) > 0) = false := by simp; omega
      have hd2 : decide ((0 : Int) < (cnt : Int)) = false := by simp; omega
      go_enter Tryz.func25, Tryz.ntmps25
      go_wp2_with fail
      go_ret
      exact ⟨by simp, rfl⟩
  · have t1 : ((tn : Int) == 0) = false := by rw [beq_eq_false_iff_ne]; omega
    by_cases hc : 0 < cnt
    · have hd : decide ((cnt : Int) > 0) = true := by simp; omega
      have hd2 : decide ((0 : Int) < (cnt : Int)) = true := by simp; omega
      by_cases hz : z1 < 0
      · have te : decide (z1 < 0) = true := by simpa using hz
        go_enter Tryz.func25, Tryz.ntmps25
        go_wp2_with fail
        with_reducible refine HC1.out.mono ?_
        rintro e w1 ⟨rfl, rfl⟩
        go_wp2_with fail
        with_reducible refine HC2.out.mono ?_
        rintro e w1 ⟨rfl, rfl⟩
        go_wp2_with fail
        go_ret
        exact ⟨by rw [HO.out]; simp [hc, hz], rfl⟩
      · have te : decide (z1 < 0) = false := by simpa using hz
        go_enter Tryz.func25, Tryz.ntmps25
        go_wp2_with fail
        with_reducible refine HC1.out.mono ?_
        rintro e w1 ⟨rfl, rfl⟩
        go_wp2_with fail
        go_ret
        exact ⟨by rw [HO.out, te]; simp [h0], rfl⟩
    · have hd : decide ((cnt : Int) > 0) = false := by simp; omega
      have hd2 : decide ((0 : Int) < (cnt : Int)) = false := by simp; omega
      have te : ∃ tb, tb = decide (z1 < 0) := ⟨_, rfl⟩
      obtain ⟨tb, htb⟩ := te
      go_enter Tryz.func25, Tryz.ntmps25
      go_wp2_with fail
      with_reducible refine HC1.out.mono ?_
      rintro e w1 ⟨rfl, rfl⟩
      go_wp2_with fail
      go_ret
      exact ⟨by rw [decide_eq_false hc]; rfl, rfl⟩
end
/-- No table was written, and why. -/
def RetWe (w : World) (k : Int) (e : Ending) (w' : World) : Prop := e = .returned (.tuple #[.agg #[.slice none 0 0, .slice none 0 0, .int .i64 0, .int .i64 0], .int .i64 k]) ∧ Below w.heap.size w w'
theorem we_fin {w wk : World} {g : Nat} {k : Int} {us : Array Value} (zk : Cl wk g us 31) (hus : us.size = 4) (hg : w.heap.size ≤ g) (hb : Below w.heap.size w wk) :
    ∀ X, X = ((((wk.setCell ⟨g, 0, none⟩ (.slice none 0 0)).setCell ⟨g, 1, none⟩ (.slice none 0 0)).setCell ⟨g, 2, none⟩ (.int .i64 0)).setCell ⟨g, 3, none⟩ (.int .i64 0)) → Cl X g #[.slice none 0 0, .slice none 0 0, .int .i64 0, .int .i64 0] 31 ∧ RetWe w k (.returned (.tuple #[.agg #[.slice none 0 0, .slice none 0 0, .int .i64 0, .int .i64 0], .int .i64 k])) X := fun X hX => by
  rw [hX]
  exact ⟨zk.put4 hus _ _ _ _, rfl, below_put4 hb hg _ _ _ _⟩
section
variable {w : World}
set_option maxRecDepth 100000 in
set_option maxHeartbeats 16000000 in
/-- Write answers the error of Bytes, or that the name is there. -/
theorem write_no {A : Option Addr} {n c : Nat} {es : List En} {ys0 : List UInt8} (size : Int) (k : Int) (dp nm : Value) (hre : REs w A n es) (hn : n ≤ 200) (hc : n ≤ c) (ht : totE es ≤ 1099511627776)
    (hk : ((bytesT size es).2 = k ∧ k ≠ 0) ∨ ((bytesT size es).2 = 0 ∧ k = 7 ∧ ∀ wx, Below w.heap.size w wx → Calls Tryz.prog 55 #[dp, nm] wx (RetRd wx ys0 0))) :
    Calls Tryz.prog 11 #[dp, nm, .int .i64 size, .slice A n c] w (RetWe w k) := by
  obtain ⟨W, hW⟩ : ∃ W, W = w.alloc (.cells #[.slice none 0 0, .slice none 0 0, .int .i64 0, .int .i64 0] 31) := ⟨_, rfl⟩
  obtain ⟨g, hg⟩ : ∃ g, g = w.heap.size := ⟨_, rfl⟩
  have bW : Below w.heap.size w W := by rw [hW]; exact (Below.refl _ _).alloc (Nat.le_refl _) _
  have zW : Cl W g #[.slice none 0 0, .slice none 0 0, .int .i64 0, .int .i64 0] 31 := by rw [hW, hg]; exact Cl.new _ _ _
  have sW : g < W.heap.size := zW.lt
  obtain ⟨z, hz⟩ : ∃ z, z = bytesT size es := ⟨_, rfl⟩
  obtain ⟨yn, hyn⟩ : ∃ x, x = z.1.length := ⟨_, rfl⟩
  obtain ⟨zk, hzk⟩ : ∃ x, x = z.2 := ⟨_, rfl⟩
  obtain ⟨mt, hmt⟩ : ∃ x, x = metaT es z := ⟨_, rfl⟩
  have HBY : Hid (Calls Tryz.prog 54 #[.int .i64 size, .slice A n c] W (fun e w' => ∃ A c K kn kc L ln lc, e = .returned (.tuple #[.slice A yn c, .agg #[.slice K kn kc, .slice L ln lc, .int .i64 (mt.2.2.1 : Int), .int .i64 (mt.2.2.2 : Int)], .int .i64 zk]) ∧ Below W.heap.size W w')) := Lib.hid (by
    refine (bytes_any (c := c) size (hre.below bW) hn hc ht).mono ?_
    rintro e w' ⟨A, c, K, kn, kc, L, ln, lc, h1, h2, h3, h4, h5⟩
    rw [← hz, ← hmt] at h1
    rw [hyn, hzk]
    exact ⟨A, c, K, kn, kc, L, ln, lc, h1, h5⟩)
  have HGW := Lib.hid (show w.heap.size ≤ g by omega)
  have BW := Lib.hid bW
  have HW := Lib.hid hW
  have HG := Lib.hid hg
  have HK : Hid ((zk = k ∧ k ≠ 0) ∨ (zk = 0 ∧ k = 7 ∧ ∀ wx, Below w.heap.size w wx → Calls Tryz.prog 55 #[dp, nm] wx (RetRd wx ys0 0))) := Lib.hid (by rw [hzk, hz]; exact hk)
  have ZLC : Hid (∀ wx, Below W.heap.size W wx → Cl wx g #[.slice none 0 0, .slice none 0 0, .int .i64 0, .int .i64 0] 31) := Lib.hid (fun wx hb => zW.below hb)
  clear hre ht hk hW hg bW zW hz hyn hzk hmt
  go_enter Tryz.func11, Tryz.ntmps11
  go_upto_region 1 with (fail)
  rw [← HW.out, ← HG.out]
  go_wp2_with fail
  with_reducible refine HBY.out.mono ?_
  intro e w1 hq
  obtain ⟨F, fc, K, kn, kc, L, ln, lc, h1, b1⟩ := hq
  subst h1
  obtain ⟨c1, hc1⟩ : ∃ x : Int, x = (mt.2.2.1 : Int) := ⟨_, rfl⟩
  obtain ⟨c2, hc2⟩ : ∃ x : Int, x = (mt.2.2.2 : Int) := ⟨_, rfl⟩
  rw [← hc1, ← hc2]
  obtain ⟨W1, hW1⟩ : ∃ W1, W1 = w1.alloc (.cells #[.slice K kn kc, .slice L ln lc, .int .i64 c1, .int .i64 c2] 31) := ⟨_, rfl⟩
  obtain ⟨g1, hg1⟩ : ∃ g1, g1 = w1.heap.size := ⟨_, rfl⟩
  have bW1 : Below w1.heap.size w1 W1 := by rw [hW1]; exact (Below.refl _ _).alloc (Nat.le_refl _) _
  have hb1 : Below W.heap.size W W1 := belowT' b1 bW1
  have HB1 := Lib.hid hb1
  have HW1 := Lib.hid hW1
  have HG1 := Lib.hid hg1
  clear b1 hb1 bW1 hW1 hg1 hc1 hc2
  go_upto_region 2 with (fail)
  rw [← HW1.out, ← HG1.out]
  by_cases h0 : zk = 0
  · obtain ⟨h7, hrd⟩ : k = 7 ∧ ∀ wx, Below w.heap.size w wx → Calls Tryz.prog 55 #[dp, nm] wx (RetRd wx ys0 0) := by
      rcases HK.out with ⟨h1, h2⟩ | ⟨_, h1, h2⟩
      · exact absurd (h1 ▸ h0) h2
      · exact ⟨h1, h2⟩
    have HRN := Lib.hid (hrd W1 (BW.out.trans (HB1.out.mono BW.out.size)))
    subst h0 h7
    clear hrd
    go_wp2_with fail
    with_reducible refine HRN.out.mono ?_
    intro e w2 hq
    obtain ⟨A2, n2, k2, h1, o2, b2⟩ := hq
    subst h1
    have B2 : Below W.heap.size W w2 := belowT' HB1.out b2
    have HF := Lib.hid (we_fin (w := w) (k := 7) (ZLC.out _ B2) rfl HGW.out (BW.out.trans (B2.mono BW.out.size)))
    obtain ⟨y0, y1, y2, y3, f0, f1, f2, f3⟩ := (ZLC.out _ B2).c4
    clear o2 b2 B2
    go_wp2_with fail
    obtain ⟨X, hX⟩ : ∃ X, X = ((((w2.setCell ⟨g, 0, none⟩ (.slice none 0 0)).setCell ⟨g, 1, none⟩ (.slice none 0 0)).setCell ⟨g, 2, none⟩ (.int .i64 0)).setCell ⟨g, 3, none⟩ (.int .i64 0)) := ⟨_, rfl⟩
    obtain ⟨zX, hret⟩ := HF.out X hX
    rw [← hX]
    obtain ⟨x0, x1, x2, x3, _⟩ := zX.c4
    refine bodyPost_ret (v := .tuple #[.agg #[.slice none 0 0, .slice none 0 0, .int .i64 0, .int .i64 0], .int .i64 7]) (by simp [results, Tryz.results11, go_sem, x0, x1, x2, x3]; try rfl) rfl hret
  · obtain rfl : zk = k := by
      rcases HK.out with ⟨h1, h2⟩ | ⟨h1, _⟩
      · exact h1
      · exact absurd h1 h0
    have HF := Lib.hid (we_fin (w := w) (k := zk) (ZLC.out _ HB1.out) rfl HGW.out (BW.out.trans (HB1.out.mono BW.out.size)))
    obtain ⟨y0, y1, y2, y3, f0, f1, f2, f3⟩ := (ZLC.out _ HB1.out).c4
    go_wp2_with fail
    obtain ⟨X, hX⟩ : ∃ X, X = ((((W1.setCell ⟨g, 0, none⟩ (.slice none 0 0)).setCell ⟨g, 1, none⟩ (.slice none 0 0)).setCell ⟨g, 2, none⟩ (.int .i64 0)).setCell ⟨g, 3, none⟩ (.int .i64 0)) := ⟨_, rfl⟩
    obtain ⟨zX, hret⟩ := HF.out X hX
    rw [← hX]
    obtain ⟨x0, x1, x2, x3, _⟩ := zX.c4
    refine bodyPost_ret (v := .tuple #[.agg #[.slice none 0 0, .slice none 0 0, .int .i64 0, .int .i64 0], .int .i64 zk]) (by simp [results, Tryz.results11, go_sem, x0, x1, x2, x3]; try rfl) rfl hret
end
end Go.Proofs.YtbgelbdnkbhffaaGreat
namespace Go.Proofs.YtbgelbdnkbhffaaGreat
open Go Go.RowKit Go.Maps

/-- No file is listed of an empty disk. -/
theorem list_live_nil {w : World} {p : Nat} {bl : List Nat} {room u : Nat} (h : Live w p bl room u []) : Calls Tryz.prog 14 #[.pointer (some ⟨p, 0, none⟩), .string { data := #[] }] w (RetNm w []) := by
  obtain ⟨m, rs, h1, rfl, h3, h4⟩ := h
  have hrs : rs = [] := List.map_eq_nil_iff.1 h3
  subst hrs
  have := list_live [] h1 (by exact List.Pairwise.nil) (by simp) (fun r hr => by cases hr)
  exact this
theorem RetRow.outA {w : World} {es : List En} {e : Ending} {w' : World} (h : RetRow w es e w') : ∃ L n c, e = .returned (.slice L n c) ∧ RowE w w.heap.size L n c es w' := h
set_option maxRecDepth 100000 in
set_option maxHeartbeats 400000000 in
theorem tableAnswers_row (a : Int) (A : Option Addr) (n c : Nat) (es : List En) (B : Option Addr) (r dd : Nat) (ak : List AskP) (w : World) (_ : (Lit.int .i64 a).wf = true) (h : REs w A n es) (hnc : n ≤ c) (ht : totE es ≤ 1048576) (hk : RAk w B r ak) (_hrd : r ≤ dd) (hta : totAk ak ≤ 1048576) :
    Calls Tryz.prog 3 #[.int .i64 a, .slice A n c, .slice B r dd] w (RetT w true) := by
  have hwsz : ∀ x ∈ es, wE x ≤ 1048576 := fun x hx => by have := totE_mem hx; omega
  have hasz : ∀ a ∈ ak, a.key.length ≤ 1048576 ∧ a.to.length ≤ 1048576 := fun a ha => by
    have := totAk_mem ha
    unfold wAk at this
    omega
  have hrm : r ≤ 1048576 := by have := totAk_len ak; have := hk.1; omega
  obtain ⟨m, hm⟩ : ∃ m, m = min n 40 := ⟨_, rfl⟩
  obtain ⟨us, hev, hrv⟩ := h.takeV (m := m) (by omega)
  obtain ⟨fs, hfs⟩ : ∃ fs, fs = es.take m := ⟨_, rfl⟩
  rw [← hfs] at hev
  have hfl : fs.length = m := by rw [hfs, List.length_take, h.len]; omega
  have hfw : ∀ x ∈ fs, wE x ≤ 1048576 := fun x hx => hwsz x (by rw [hfs] at hx; exact List.mem_of_mem_take hx)
  have hfz : ∀ x ∈ fs, SzE x := fun x hx => by have := hfw x hx; unfold wE at this; exact ⟨by omega, by omega⟩
  have HEV := Lib.hid hev
  have HRV := Lib.hid hrv
  have HFL := Lib.hid hfl
  have HFZ := Lib.hid hfz
  have HAK := Lib.hid hk
  have HAZ := Lib.hid hasz
  have HFW : Hid (∀ w, Calls Tryz.prog 9 #[.slice A n c, .int .i64 40] w (fun e w' => e = .returned (.slice A m c) ∧ w' = w)) := Lib.hid (fun w => by rw [hm]; exact few10_any (m := 40) hnc w)
  have hm40 : m ≤ 40 := by omega
  obtain ⟨gs, hgs⟩ : ∃ gs, gs = srt [] fs := ⟨_, rfl⟩
  obtain ⟨hso, hgl, hgw, hgt⟩ := srt_all (k := 40) (by omega) hfw
  rw [← hgs] at hso hgl hgw hgt
  have hgz : ∀ x ∈ gs, SzE x := fun x hx => by have := hgw x hx; unfold wE at this; exact ⟨by omega, by omega⟩
  have HSO := Lib.hid hso
  have HGL := Lib.hid hgl
  have HGZ := Lib.hid hgz
  have HGW := Lib.hid hgw
  have HGT : Hid (totE gs ≤ 1099511627776) := Lib.hid (by omega)
  have HGS := Lib.hid hgs
  obtain ⟨s, hs⟩ : ∃ s, s = if a < 1 then (1 : Int) else a := ⟨_, rfl⟩
  clear h hwsz hasz hev hrv hfs hfl hfw hfz hm ht hgs hso hgl hgw hgt hgz hk hta
  go_enter Tryz.func3, Tryz.ntmps3
  go_wp2_with fail
  with_reducible refine (awake10_any _).mono ?_
  intro e w1 hq
  obtain ⟨h1, b1⟩ := RetT.outD hq
  subst h1
  have B1 := Lib.hid b1
  clear hq b1
  go_wp2_with fail
  with_reducible refine (HFW.out _).mono ?_
  intro e w2 hq
  obtain ⟨h1, h2⟩ := hq
  subst h1
  rw [h2]
  clear h2
  have HSR : Hid (Calls Tryz.prog 8 #[.slice A m c] w1 (RetPick w1 gs us)) := Lib.hid (by
    rw [HGS.out]
    exact sorted_any (HEV.out.below B1.out) (HRV.out.below B1.out) HFL.out (by omega) HFZ.out)
  go_wp2_with fail
  with_reducible refine HSR.out.mono ?_
  intro e w2 hq
  obtain ⟨L, k, d, h1, hrs, hkd, b2⟩ := RetPick.res hq
  subst h1
  have hk40 : k ≤ 40 := by rw [← hrs.len]; exact HGL.out
  have HL := Lib.hid hrs.len
  have HR2 := Lib.hid hrs
  have HWF := Lib.hid hrs.wf
  have B2 := Lib.hid (B1.out.trans (b2.mono B1.out.size))
  clear hq hrs b2 HSR
  have HS := Lib.hid hs
  clear hs
  go_upto_if 33 with (fail)
  go_cut [0] (fun v wx => v = .int .i64 s ∧ w2 = wx)
  case first =>
    by_cases h0 : a < 1
    · have t1 : decide (a < 1) = true := by simpa using h0
      have HE : Hid ((1 : Int) = s) := Lib.hid (by rw [HS.out, if_pos h0])
      go_wp2_with fail
      go_meet
      exact ⟨by rw [HE.out], rfl⟩
    · have t1 : decide (a < 1) = false := by simpa using h0
      have HE : Hid (a = s) := Lib.hid (by rw [HS.out, if_neg h0])
      go_wp2_with fail
      go_meet
      exact ⟨by rw [HE.out], rfl⟩
  case rest =>
    obtain ⟨rfl, rfl⟩ := hcut
    obtain ⟨z, hz⟩ : ∃ z, z = bytesT s gs := ⟨_, rfl⟩
    obtain ⟨zk, hzk⟩ : ∃ x, x = z.2 := ⟨_, rfl⟩
    obtain ⟨zl, hzl⟩ : ∃ x, x = z.1.length := ⟨_, rfl⟩
    have HZ := Lib.hid hz
    have HZK := Lib.hid hzk
    have HZL := Lib.hid hzl
    have HN : Hid (Calls Tryz.prog 10 #[.int .i64 1073741824] w2 (RetNw w2 1073741824)) := Lib.hid (New_live 1073741824 w2 (by omega))
    clear hz hzk hzl
    go_wp2_with fail
    with_reducible refine HN.out.mono ?_
    rintro e w3 ⟨p, bl, rfl, hL3, hbl3, b3⟩
    have B3 := Lib.hid (B2.out.trans (b3.mono B2.out.size))
    have HR3 := Lib.hid (HR2.out.below b3)
    have HB23 := Lib.hid b3
    have HL3 := Lib.hid hL3
    have HBL3 : Hid (∀ b ∈ bl, w2.heap.size ≤ b) := Lib.hid hbl3
    have HTW := Lib.hid (Twins_any (c := d) (HR2.out.below b3) (by omega) HGZ.out)
    clear HN hL3 hbl3 b3
    go_wp2_with fail
    with_reducible refine HTW.out.mono ?_
    rintro e w4 ⟨L4, k4, d4, rfl, hrow⟩
    obtain rfl : k4 = k := by have := hrow.len; have := HL.out; omega
    have B4 := Lib.hid (belowT' B3.out hrow.bel)
    have HR4 := Lib.hid hrow.rd
    have HL4 := Lib.hid (HL3.out.below hrow.bel)
    have HC4 := Lib.hid hrow.cap.1
    have B34 := Lib.hid hrow.bel
    clear hrow HTW
    by_cases hk0 : zk ≠ 0
    · as_aux_lemma =>
        have HWN := Lib.hid (write_no (ys0 := []) s zk (.pointer (some ⟨p, 0, none⟩)) (.string { data := #[116] }) HR4.out (by omega) HC4.out HGT.out (.inl ⟨by rw [← HZ.out, HZK.out], hk0⟩))
        go_wp2_with fail
        with_reducible refine HWN.out.mono ?_
        rintro e w5 ⟨h1, b5⟩
        subst h1
        obtain ⟨W5, hW5⟩ : ∃ W5, W5 = w5.alloc (.cells #[.slice none 0 0, .slice none 0 0, .int .i64 0, .int .i64 0] 31) := ⟨_, rfl⟩
        have bW5 : Below w5.heap.size w5 W5 := by rw [hW5]; exact (Below.refl _ _).alloc (Nat.le_refl _) _
        have B5 := Lib.hid (belowT' b5 bW5)
        have HRY : Hid (Calls Tryz.prog 13 #[.int .i64 s, .slice L k4 d] W5 (fun e w' => ∃ A n c, e = .returned (.tuple #[.slice A n c, .int .i64 zk]) ∧ Own 5 w' W5.heap.size A n c z.1 ∧ Below W5.heap.size W5 w')) := Lib.hid (by
          have h1 := refBytes_any (c := d) s ((HR3.out.below B34.out).below B5.out) (by omega) HGZ.out HGT.out
          rw [← bytes_ref, ← HZ.out] at h1
          refine h1.mono ?_
          rintro e w' ⟨A, n, c, h1, h2, h3⟩
          rw [HZK.out]
          exact ⟨A, n, c, h1, h2, h3⟩)
        have HW5 := Lib.hid hW5
        clear b5 bW5 hW5
        go_upto_region 8 with (fail)
        rw [← HW5.out]
        go_wp2_with fail
        with_reducible refine HRY.out.mono ?_
        intro e w6 hq
        obtain ⟨G, gn, gc, h1, o6, b6⟩ := hq
        subst h1
        have hgn : gn = 0 := by
          have h2 := bytes_bad (size := s) (es := gs) (by rw [← HZ.out, ← HZK.out]; exact hk0)
          rw [← HZ.out] at h2
          have := o6.len
          rw [h2] at this
          simpa using this.symm
        have tz : (zk != 0) = true := by simpa using hk0
        have B46 := Lib.hid (belowT' B5.out b6)
        have HLS := Lib.hid (list_live_nil (HL4.out.below B46.out))
        subst hgn
        clear o6 b6
        go_wp2_with fail
        with_reducible refine HLS.out.mono ?_
        rintro e w7 ⟨Q, qn, qc, h1, o7, b7⟩
        subst h1
        have hqn : qn = 0 := by have := o7.len; simpa using this.symm
        subst hqn
        have HF : Hid (RetT w true (.returned (.bool true)) w7) := Lib.hid ⟨rfl, belowT' (belowT' B4.out B46.out) b7⟩
        clear o7 b7
        go_wp2_with fail
        go_ret
        exact HF.out
    · replace hk0 : zk = 0 := Decidable.not_not.1 hk0
      obtain ⟨ys, hys⟩ : ∃ ys, ys = z.1 := ⟨_, rfl⟩
      have hbt : bytesT s gs = (ys, 0) := by rw [← HZ.out]; exact Prod.ext hys.symm (by rw [← HZK.out]; exact hk0)
      obtain ⟨hop, hun1, hun2, hyl, hgne⟩ := write_open hbt HWF.out
      have hle := HL.out
      obtain ⟨x, hx⟩ : ∃ x, gs[0]? = some x := ⟨_, List.getElem?_eq_getElem (by omega)⟩
      obtain ⟨y, hy⟩ : ∃ y, gs[gs.length - 1]? = some y := ⟨_, List.getElem?_eq_getElem (by omega)⟩
      have hmt : metaT gs (ys, 0) = (x.key, y.key, gs.length, ys.length) := meta_ok (z := (ys, 0)) rfl hx hy
      obtain ⟨yn, hyn⟩ : ∃ yn, yn = ys.length := ⟨_, rfl⟩
      rw [← hyn, hle] at hmt
      have HMT := Lib.hid hmt
      have HXX := Lib.hid hx
      have HYY : Hid (gs[k4 - 1]? = some y) := Lib.hid (by rw [← hle]; exact hy)
      have HXM := Lib.hid (List.mem_of_getElem? hx)
      have HYM := Lib.hid (List.mem_of_getElem? hy)
      have hkp : 0 < k4 := by omega
      obtain ⟨bL, offL, hLe, hbL⟩ := HR2.out.pos hkp
      subst hLe
      have HBL := Lib.hid hbL
      clear hbL
      have HYL : Hid (ys.length ≤ 1048584) := Lib.hid hyl
      have HYN := Lib.hid hyn
      have HBT := Lib.hid hbt
      have HWRT := Lib.hid (write_any (c := d4) s HL4.out HR4.out (by omega) HC4.out HGT.out hbt (by omega) (by omega))
      have HOP := Lib.hid hop
      have HUN1 := Lib.hid hun1
      have HUN2 := Lib.hid hun2
      subst hk0
      clear hys hbt hop hun1 hun2 hyl hle hx hy hmt hyn hgne
      go_wp2_with fail
      with_reducible refine HWRT.out.mono ?_
      intro e w5 hq
      obtain ⟨K, kn, kc, M, mn, mc, bl', h1, o1, o2, hL5, hF5, hB5⟩ := hq
      rw [HMT.out] at h1 o1 o2
      simp only at h1 o1 o2
      subst h1
      have hs3 := HB23.out.size
      have hs4 := B34.out.size
      have B25 : Below w2.heap.size w4 w5 := hF5.below HBL3.out (by omega)
      have HB25 : Hid (Below w2.heap.size w2 w5) := Lib.hid ((HB23.out.trans (B34.out.mono hs3)).trans B25)
      have HBW5 : Hid (Below w.heap.size w w5) := Lib.hid (B4.out.trans (B25.mono B2.out.size))
      obtain ⟨W5, hW5⟩ : ∃ W5, W5 = w5.alloc (.cells #[.slice K kn kc, .slice M mn mc, .int .i64 (k4 : Int), .int .i64 (yn : Int)] 31) := ⟨_, rfl⟩
      obtain ⟨g5, hg5⟩ : ∃ g5, g5 = w5.heap.size := ⟨_, rfl⟩
      have bW5 : Below w5.heap.size w5 W5 := by rw [hW5]; exact (Below.refl _ _).alloc (Nat.le_refl _) _
      have zW5 : Cl W5 g5 #[.slice K kn kc, .slice M mn mc, .int .i64 (k4 : Int), .int .i64 (yn : Int)] 31 := by rw [hW5, hg5]; exact Cl.new _ _ _
      have HBB5 := Lib.hid (bW5)
      have HZ5 := Lib.hid zW5
      have R5K := Lib.hid (o1.below bW5).rd
      have R5M := Lib.hid (o2.below bW5).rd
      have HLV5 := Lib.hid (hL5.below bW5)
      have HR5 := Lib.hid ((HR2.out.below HB25.out).below bW5)
      have HBW5' : Hid (Below w.heap.size w W5) := Lib.hid (belowT' HBW5.out bW5)
      have HRY : Hid (Calls Tryz.prog 13 #[.int .i64 s, .slice (some ⟨bL, offL, none⟩) k4 d] W5 (fun e w' => ∃ A n c, e = .returned (.tuple #[.slice A n c, .int .i64 0]) ∧ Below W5.heap.size W5 w')) := Lib.hid (by
        have h1 := refBytes_any (c := d) s HR5.out (by omega) HGZ.out HGT.out
        rw [← bytes_ref, ← HZ.out] at h1
        refine h1.mono ?_
        rintro e w' ⟨A, n, c, h1, h2, h3⟩
        have e1 : e = .returned (.tuple #[.slice A n c, .int .i64 0]) := by rw [h1, ← HZK.out]
        exact ⟨A, n, c, e1, h3⟩)
      have HW5 := Lib.hid hW5
      have HG5 := Lib.hid hg5
      clear o1 o2 hL5 hF5 hB5 B25 bW5 zW5 hW5 hg5 hs3 hs4 HWRT
      go_upto_region 8 with (fail)
      rw [← HW5.out, ← HG5.out]
      go_wp2_with fail
      with_reducible refine HRY.out.mono ?_
      intro e w6 hq
      obtain ⟨G, gn, gc, h1, b6⟩ := hq
      subst h1
      have B6 := Lib.hid b6
      have HOT : Hid (Calls Tryz.prog 15 #[.pointer (some ⟨p, 0, none⟩), .string { data := #[116] }] w6 (RetTb w6 gs 0 yn)) := Lib.hid (by
        have h1 := open_any (.pointer (some ⟨p, 0, none⟩)) (.string { data := #[116] }) (xs := ys) (w := w6) (by
          have h2 := read_live (f := ([116], ys, ys.length)) (HLV5.out.below b6) (List.mem_singleton.2 rfl) (by unfold maxLen; simp) (by have := HYL.out; simp; omega)
          exact h2) (by have := HYL.out; omega) (by rw [HUN1.out]; have := HGL.out; omega) (by have := HUN2.out; have := HGL.out; omega) (fun x hx => by rw [HUN1.out] at hx; exact (HGZ.out x hx).1)
        rw [HOP.out, ← HYN.out] at h1
        exact h1)
      clear b6 HRY
      go_wp2_with fail
      with_reducible refine HOT.out.mono ?_
      intro e w7 hq
      obtain ⟨_, tb, x', y', K3, kn3, kc3, F3, fn3, fc3, L3, m3, d3, h1, hx', hy', zt, o3, o4, r3, hmd3, b7⟩ : 0 = 0 ∧ ∃ tb x' y' K kn kc F fl fc L m d, e = .returned (.tuple #[.pointer (some ⟨tb, 0, none⟩), .int .i64 0]) ∧ gs[0]? = some x' ∧ gs[gs.length - 1]? = some y' ∧ Cl w7 tb #[.slice K kn kc, .slice F fl fc, .int .i64 (gs.length : Int), .int .i64 (yn : Int), .slice L m d] 43 ∧ Own 5 w7 w6.heap.size K kn kc x'.key ∧ Own 5 w7 w6.heap.size F fl fc y'.key ∧ REs w7 L m gs ∧ m ≤ d ∧ Below w6.heap.size w6 w7 := by
        rcases hq with ⟨h1, _⟩ | ⟨h1, h2⟩
        · exact absurd rfl h1
        · exact ⟨rfl, h2⟩
      subst h1
      obtain rfl : x' = x := Option.some.inj (hx'.symm.trans HXX.out)
      obtain rfl : y' = y := by
        rw [HL.out] at hy'
        exact Option.some.inj (hy'.symm.trans HYY.out)
      rw [HL.out] at zt
      obtain rfl : m3 = k4 := by have := r3.len; have := HL.out; omega
      have B57 : Below W5.heap.size W5 w7 := belowT' B6.out b7
      have hz5 := HZ5.out.below B57
      have q3 := o3.rd
      have q4 := o4.rd
      have q5 := R5K.out.below B57
      have q6 := R5M.out.below B57
      have hsx := (HGZ.out x' HXM.out).1
      have hsy := (HGZ.out y' HYM.out).1
      have hkn3 : kn3 ≤ maxLen := by rw [← q3.len]; unfold maxLen; omega
      have hfn3 : fn3 ≤ maxLen := by rw [← q4.len]; unfold maxLen; omega
      have hkn : kn ≤ maxLen := by rw [← q5.len]; unfold maxLen; omega
      have hmn : mn ≤ maxLen := by rw [← q6.len]; unfold maxLen; omega
      have HE1 : Hid (∀ q, Calls Tryz.prog 16 #[.slice K3 kn3 kc3, .slice K kn kc] (w7.drewN q) (RetB (w7.drewN q) true)) := Lib.hid (fun q => by
        have h1 := Equal_any K3 K kn3 kn kc3 kc x'.key x'.key _ (q3.drewN q) (q5.drewN q) hkn3 hkn
        rw [eqB_self] at h1
        exact h1)
      have HE2 : Hid (∀ q, Calls Tryz.prog 16 #[.slice F3 fn3 fc3, .slice M mn mc] (w7.drewN q) (RetB (w7.drewN q) true)) := Lib.hid (fun q => by
        have h1 := Equal_any F3 M fn3 mn fc3 mc y'.key y'.key _ (q4.drewN q) (q6.drewN q) hfn3 hmn
        rw [eqB_self] at h1
        exact h1)
      have HTB : Hid (∀ q wx, Below (w7.drewN q).heap.size (w7.drewN q) wx → Cl wx tb #[.slice K3 kn3 kc3, .slice F3 fn3 fc3, .int .i64 (m3 : Int), .int .i64 (yn : Int), .slice L3 m3 d3] 43 ∧ Rd wx K3 kn3 x'.key ∧ Rd wx F3 fn3 y'.key ∧ REs wx L3 m3 gs ∧ REs wx (some ⟨bL, offL, none⟩) m3 gs ∧ Below w.heap.size w wx ∧ Live wx p bl' 1073741824 ys.length [([116], ys, ys.length)]) := Lib.hid (fun q wx hb => by
        have hbb : Below w7.heap.size w7 wx := (below_drewN (Below.refl w7.heap.size w7) q).trans hb
        have h5x : Below W5.heap.size W5 wx := belowT' B57 hbb
        exact ⟨zt.below hbb, q3.below hbb, q4.below hbb, r3.below hbb, HR5.out.below h5x, belowT' HBW5'.out h5x, HLV5.out.below h5x⟩)
      obtain ⟨c0, c1, c2, c3, _⟩ := hz5.c4
      have a0 : w7.cell? ⟨tb, 0, none⟩ = some (.slice K3 kn3 kc3) := zt.cell 0
      have a1 : w7.cell? ⟨tb, 1, none⟩ = some (.slice F3 fn3 fc3) := zt.cell 1
      have a2 : w7.cell? ⟨tb, 2, none⟩ = some (.int .i64 (m3 : Int)) := zt.cell 2
      have a3 : w7.cell? ⟨tb, 3, none⟩ = some (.int .i64 (yn : Int)) := zt.cell 3
      clear hq hx' hy' zt o3 o4 r3 b7 B57 hz5 q3 q4 q5 q6 hsx hsy hkn3 hfn3 hkn hmn HOT
      go_wp2_with fail
      go_quiet (first | (go_at_call 16; with_reducible exact Calls.quiet_of (HE1.out _)) | (go_at_call 16; with_reducible exact Calls.quiet_of (HE2.out _)))
      obtain ⟨w8, hw8⟩ : ∃ w8, w8 = w7.drewN nq := ⟨_, rfl⟩
      have HT8 : Hid (∀ wx, Below w8.heap.size w8 wx → Cl wx tb #[.slice K3 kn3 kc3, .slice F3 fn3 fc3, .int .i64 (m3 : Int), .int .i64 (yn : Int), .slice L3 m3 d3] 43 ∧ Rd wx K3 kn3 x'.key ∧ Rd wx F3 fn3 y'.key ∧ REs wx L3 m3 gs ∧ REs wx (some ⟨bL, offL, none⟩) m3 gs ∧ Below w.heap.size w wx ∧ Live wx p bl' 1073741824 ys.length [([116], ys, ys.length)]) := Lib.hid (by rw [hw8]; exact HTB.out nq)
      rw [← hw8]
      clear hw8 c0 c1 c2 c3 a0 a1 a2 a3 HE1 HE2 HTB
      trace_state
      go_wp2_with fail
      go_loopw [124] (fun s124 wr => ∃ j : Nat, j ≤ r ∧ s124 = .int .i64 (j : Int) ∧ Below w8.heap.size w8 wr) (fun s _ => r - (intOf s).toNat)
      case atStart => exact ⟨0, Nat.zero_le _, rfl, Below.refl _ _⟩
      case round =>
        obtain ⟨j, hj, rfl, hst⟩ := hrel
        have HST := Lib.hid hst
        obtain ⟨_, _, _, _, _, hbw, _⟩ := HT8.out wr hst
        by_cases hltj : j < r
        · obtain ⟨b, off, hBe, hbl⟩ : ∃ b off, B = some ⟨b, off, none⟩ ∧ b < w.heap.size := HAK.out.pos (by omega)
          subst hBe
          obtain ⟨aq, v0, v1, ha, d0, d1, d2, ⟨E, en, ec, rfl, rE, hec, hen⟩, ⟨V, vn, vc, rfl, rV, hvc, hvn⟩, hat⟩ := HAK.out.at_ j (by omega)
          have c0 := (hbw.cell (p := ⟨b, off + j * 3, none⟩) hbl).trans d0
          have c1 := (hbw.cell (p := ⟨b, off + j * 3 + 1, none⟩) hbl).trans d1
          have c2 := (hbw.cell (p := ⟨b, off + j * 3 + 2, none⟩) hbl).trans d2
          have haz := HAZ.out aq (List.mem_of_getElem? ha)
          obtain ⟨ka, hka⟩ : ∃ ka, ka = aq.key := ⟨_, rfl⟩
          obtain ⟨ta, hta'⟩ : ∃ ta, ta = aq.to := ⟨_, rfl⟩
          obtain ⟨qa, hqa⟩ : ∃ qa, qa = aq.at_ := ⟨_, rfl⟩
          rw [← hka] at rE haz
          rw [← hta'] at rV haz
          rw [← hqa] at c2 hat
          have lE := rE.len
          have lV := rV.len
          obtain ⟨W1, hW1⟩ : ∃ W1, W1 = wr.alloc (.cells #[.slice E en ec, .slice V vn vc, .int .u64 (qa : Int)] 47) := ⟨_, rfl⟩
          have bW1 : Below wr.heap.size wr W1 := by rw [hW1]; exact (Below.refl _ _).alloc (Nat.le_refl _) _
          have xW1 : Cl W1 wr.heap.size #[.slice E en ec, .slice V vn vc, .int .u64 (qa : Int)] 47 := by rw [hW1]; exact Cl.new _ _ _
          have HX1 : Hid (∀ wx, Below W1.heap.size W1 wx → Cl wx wr.heap.size #[.slice E en ec, .slice V vn vc, .int .u64 (qa : Int)] 47) := Lib.hid (fun wx hb => xW1.below hb)
          have HB81 : Hid (Below w8.heap.size w8 W1) := Lib.hid (belowT' hst bW1)
          have T1 : Hid (∀ wx, Below W1.heap.size W1 wx → Cl wx tb #[.slice K3 kn3 kc3, .slice F3 fn3 fc3, .int .i64 (m3 : Int), .int .i64 (yn : Int), .slice L3 m3 d3] 43 ∧ Rd wx K3 kn3 x'.key ∧ Rd wx F3 fn3 y'.key ∧ REs wx L3 m3 gs ∧ REs wx (some ⟨bL, offL, none⟩) m3 gs ∧ Below w.heap.size w wx ∧ Live wx p bl' 1073741824 ys.length [([116], ys, ys.length)]) := Lib.hid (fun wx hb => HT8.out wx (belowT' HB81.out hb))
          have RE1 : Hid (∀ wx, Below W1.heap.size W1 wx → Rd wx E en ka) := Lib.hid (fun wx hb => rE.below (T1.out wx hb).2.2.2.2.2.1)
          have RV1 : Hid (∀ wx, Below W1.heap.size W1 wx → Rd wx V vn ta) := Lib.hid (fun wx hb => rV.below (T1.out wx hb).2.2.2.2.2.1)
          obtain ⟨o, ho⟩ : ∃ o, o = findL ka qa gs := ⟨_, rfl⟩
          have HO := Lib.hid ho
          have HOW : Hid (∀ x, o = some x → U64 x.seq ∧ x.kind < 256) := Lib.hid (fun x hx => HWF.out x (List.mem_of_find?_eq_some (ho ▸ hx)))
          have HC1 : Hid (∀ wx, Below W1.heap.size W1 wx → Calls Tryz.prog 18 #[.slice E en ec] wx (Made wx.heap.size wx ka)) := Lib.hid (fun wx hb => Copy_any E en ec ka wx (RE1.out wx hb) (by omega))
          have HC2 : Hid (∀ wx, Below W1.heap.size W1 wx → Calls Tryz.prog 18 #[.slice V vn vc] wx (Made wx.heap.size wx ta)) := Lib.hid (fun wx hb => Copy_any V vn vc ta wx (RV1.out wx hb) (by omega))
          have HGT : Hid (∀ wx C cn cc, Below W1.heap.size W1 wx → Ow wx C cn cc ka → Calls Tryz.prog 17 #[.pointer (some ⟨tb, 0, none⟩), .slice C cn cc, .int .u64 (qa : Int)] wx (RetGt wx o)) := Lib.hid (fun wx C cn cc hb hw => by
            obtain ⟨b0, hw⟩ := hw
            obtain ⟨q1, _, _, q2, _⟩ := T1.out wx hb
            rw [ho]
            exact tbGet_any q1 q2 (by omega) HSO.out HGZ.out hw.rd hw.cap.1 (fun h => (hw.nil_of (by rw [h]; rfl)).2.2) hat)
          obtain ⟨zz, hzz⟩ : ∃ zz, zz = o.isSome := ⟨_, rfl⟩
          obtain ⟨yy, hyy⟩ : ∃ yy, yy = o.getD zeE2 := ⟨_, rfl⟩
          have HZZ := Lib.hid hzz
          have HY := Lib.hid hyy
          have hyz : wE yy ≤ 2097152 := by rw [hyy, ho]; exact findL_sz2 (fun x hx => by have := HGW.out x hx; omega)
          have HYZ := Lib.hid (szE_of hyz)
          unfold wE at hyz
          have hB0 : Below W1.heap.size W1 W1.drew := (Below.refl _ _).drew
          clear hbw hst ha d0 d1 d2 rE rV hka hta' hqa bW1 xW1 ho hzz hyy
          go_upto_region 17 with (fail)
          rw [← hW1]
          clear hW1 c0 c1 c2
          obtain ⟨c0, c1, c2, _⟩ := (HX1.out _ (Below.refl _ _)).c3
          have hA0 : ∀ o, (W1.alloc o).cell? ⟨wr.heap.size, 0, none⟩ = some (.slice E en ec) ∧ (W1.alloc o).cell? ⟨wr.heap.size, 2, none⟩ = some (.int .u64 (qa : Int)) := fun o => by
            obtain ⟨q0, q1, q2, _⟩ := (HX1.out _ ((Below.refl _ _).alloc (Nat.le_refl _) o)).c3
            exact ⟨q0, q2⟩
          have hA1 := fun o => (hA0 o).1
          have hA2 := fun o => (hA0 o).2
          have hBA : Hid (∀ o, Below W1.heap.size W1 (W1.alloc o).drew) := Lib.hid (fun o => ((Below.refl _ _).alloc (Nat.le_refl _) o).drew)
          have hZ0 : Cl (W1.alloc (.cells #[.slice none 0 0, .int .u64 0, .int .u8 0, .slice none 0 0] 49)).drew W1.heap.size #[.slice none 0 0, .int .u64 0, .int .u8 0, .slice none 0 0] 49 := Cl.new W1 _ _
          have HZ0 := Lib.hid hZ0
          clear hA0 hZ0
          go_cut [16, 17] from 129 to 138 (fun s16 s17 wx => Bx W1 yy zz s16 s17 wx)
          case first =>
            as_aux_lemma =>
              go_region_law (first | (go_simp; go_at_call 18; with_reducible refine (HC1.out _ (by first | exact hB0 | exact hBA.out _)).mono ?_; intro e1 w4 hq; obtain ⟨C4, cn4, cc4, h4, o4, b4⟩ := Made.out hq; subst h4; have b4' : Below W1.heap.size W1 w4 := (by first | exact belowT hB0 b4 | exact belowT (hBA.out _) b4); have w4w := Ow.mk o4; have s4 := b4'.size; (try (have z4 := HZ0.out.below b4)); obtain ⟨p0, p1, p2, _⟩ := (HX1.out _ b4').c3; have pA := fun o => (HX1.out _ (b4'.alloc b4'.size o)).c3.1; have pB := fun o => (HX1.out _ (b4'.alloc b4'.size o)).c3.2.2.1) | (go_simp; go_at_call 17; with_reducible refine (HGT.out _ _ _ _ (by first | exact b4' | exact b4'.alloc b4'.size _) (by first | exact w4w | exact w4w.below ((Below.refl _ _).alloc (Nat.le_refl _) _))).mono ?_; intro e1 w5 hq; obtain ⟨C, cn, cc, D, dn, dc, h5, eo5, dj5, b5⟩ := RetGt.both hq HOW.out; subst h5; have b5' : Below W1.heap.size W1 w5 := (by first | exact belowT b4' b5 | exact belowT (b4'.alloc b4'.size _) b5); rw [← HY.out, ← HZZ.out]; rw [← HY.out] at eo5; (try (have z5 := (Cl.new w4 #[.slice none 0 0, .int .u64 0, .int .u8 0, .slice none 0 0] 49).below b5; obtain ⟨g0, g1, g2, g3, k0, k1, k2, k3⟩ := z5.c4)); (try (have z5 := z4.below b5; obtain ⟨g0, g1, g2, g3, k0, k1, k2, k3⟩ := z5.c4))))
              all_goals
                have HDJ := Lib.hid dj5
                have HEO := Lib.hid eo5
                have HB5 := Lib.hid b5'
                clear dj5 eo5 b5 b5' b4 p0 p1 p2 pA pB hA1 hA2
                go_wp2_with fail
                go_meet
                first
                  | exact Bx.new HB5.out (by first | exact s4 | (simp; omega)) HEO.out HDJ.out
                  | exact Bx.put HB5.out z5 rfl s4 (by simp) HEO.out HDJ.out rfl
                  | exact Bx.put HB5.out z5 rfl (Nat.le_refl _) z4.lt HEO.out HDJ.out rfl
            -- D1
          case rest =>
            obtain ⟨g16, base, C, cn, cc, D, dn, dc, rfl, rfl, bc, xc, eoc, djc, hbase⟩ := hcut
            have XC := Lib.hid xc
            have EOC := Lib.hid eoc
            have BC := Lib.hid bc
            have lC : cn ≤ 2097152 := by have := eoc.owns.1.len; omega
            have lD : dn ≤ 2097152 := by have := eoc.owns.2.len; omega
            have HRG : Hid (Calls Tryz.prog 19 #[.slice (some ⟨bL, offL, none⟩) m3 d, .slice E en ec, .int .u64 (qa : Int)] wc (RetGl wc o)) := Lib.hid (by
              rw [HO.out]
              exact refGet_any (T1.out wc bc).2.2.2.2.1 (by omega) HGZ.out (RE1.out wc bc) (by unfold maxLen; omega))
            obtain ⟨c0', c1', c2', _⟩ := (HX1.out _ bc).c3
            clear xc eoc djc bc c0 c1 c2 hA1 hA2
            go_wp2_with fail
            with_reducible refine HRG.out.mono ?_
            intro e wD hq
            obtain ⟨u0, u1, u2, u3, h1, hev, bD⟩ := RetGl.both hq
            subst h1
            rw [← HY.out] at hev
            rw [← HZZ.out]
            obtain ⟨X, xn, xc, F, fn, fc, rfl, rfl, rfl, rfl, _⟩ := hev.parts
            obtain ⟨W2, hW2⟩ : ∃ W2, W2 = wD.alloc (.cells #[.slice X xn xc, .int .u64 (yy.seq : Int), .int .u8 (yy.kind : Int), .slice F fn fc] 49) := ⟨_, rfl⟩
            have b2 : Below wD.heap.size wD W2 := by rw [hW2]; exact (Below.refl _ _).alloc (Nat.le_refl _) _
            have bc2 : Below wc.heap.size wc W2 := belowT bD b2
            have b12 : Below W1.heap.size W1 W2 := belowT BC.out bc2
            have yW : Cl W2 wD.heap.size #[.slice X xn xc, .int .u64 (yy.seq : Int), .int .u8 (yy.kind : Int), .slice F fn fc] 49 := by rw [hW2]; exact Cl.new _ _ _
            have HXC := Lib.hid (XC.out.below bc2)
            have HYW := Lib.hid yW
            have EO2 := Lib.hid (EOC.out.below bc2)
            have EV2 := Lib.hid (hev.below b2)
            have B12 := Lib.hid b12
            obtain ⟨FL, hFL⟩ : ∃ FL, FL = gs.filter (inR ka ta) := ⟨_, rfl⟩
            have HFL' := Lib.hid hFL
            have HRR : Hid (Calls Tryz.prog 20 #[.slice (some ⟨bL, offL, none⟩) m3 d, .slice E en ec, .slice V vn vc] W2 (RetRs W2 FL)) := Lib.hid (by
              obtain ⟨q1, ovs, q2, q3⟩ := (T1.out W2 b12).2.2.2.2.1
              refine (refRange_any (fc := ec) (tc := vc) q2 q3 q1 (by omega) HGZ.out (RE1.out _ b12) (RV1.out _ b12) (by unfold maxLen; omega) (by unfold maxLen; omega)).mono ?_
              intro e w' hq
              rw [hFL]
              obtain ⟨L', k', d', e1, e2, _, e3⟩ := RetPick.res hq
              exact ⟨L', k', d', e1, e2, e3⟩)
            obtain ⟨c0'', c1'', c2'', _⟩ := (HX1.out _ b12).c3
            have HW2 := Lib.hid hW2
            clear hq hev bD b2 bc2 b12 yW hFL HRG c0' c1' c2' hW2
            go_upto_region 19 with (fail)
            rw [← HW2.out]
            go_wp2_with fail
            with_reducible refine HRR.out.mono ?_
            intro e wS hq
            obtain ⟨LQ, kQ, dQ, h1, rQ, bS⟩ := RetRs.out hq
            subst h1
            have b1S : Below W1.heap.size W1 wS := belowT' B12.out bS
            have HB1S := Lib.hid b1S
            have HRQ : Hid (∀ wx, Below wS.heap.size wS wx → REs wx LQ kQ FL) := Lib.hid (fun wx hb => rQ.below hb)
            have hkq := rQ.len
            have HKQ := Lib.hid hkq
            have EO3 := Lib.hid (EO2.out.below bS)
            have EV3 := Lib.hid (EV2.out.below bS)
            have x3 := HXC.out.below bS
            have y3 := HYW.out.below bS
            have HFS : Hid (∀ x ∈ FL, SzE x) := Lib.hid (fun x hx => by rw [HFL'.out] at hx; exact HGZ.out x (List.mem_filter.1 hx).1)
            have hfl : FL.length ≤ gs.length := by rw [HFL'.out]; exact List.length_filter_le _ _
            have HFN : Hid (kQ ≤ 40) := Lib.hid (by have := HGL.out; omega)
            have HSM : Hid (∀ wx, Below wS.heap.size wS wx → Calls Tryz.prog 21 #[.agg #[.slice C cn cc, .int .u64 (yy.seq : Int), .int .u8 (yy.kind : Int), .slice D dn dc], .agg #[.slice X xn xc, .int .u64 (yy.seq : Int), .int .u8 (yy.kind : Int), .slice F fn fc]] wx (RetT wx true)) := Lib.hid (fun wx hb => Same_any (EO3.out.ev.below hb) (EV3.out.below hb) HYZ.out)
            have HD1 : Hid (∀ wx, Below wS.heap.size wS wx → Calls Tryz.prog 18 #[.slice E en ec] wx (Made wx.heap.size wx ka)) := Lib.hid (fun wx hb => HC1.out wx (belowT HB1S.out hb))
            have HD2 : Hid (∀ wx, Below wS.heap.size wS wx → Calls Tryz.prog 18 #[.slice V vn vc] wx (Made wx.heap.size wx ta)) := Lib.hid (fun wx hb => HC2.out wx (belowT HB1S.out hb))
            have HRN : Hid (∀ wx C' cn' cc' D' dn' dc', Below wS.heap.size wS wx → Ow wx C' cn' cc' ka → Ow wx D' dn' dc' ta → Calls Tryz.prog 23 #[.pointer (some ⟨tb, 0, none⟩), .slice C' cn' cc', .slice D' dn' dc'] wx (RetRow wx FL)) := Lib.hid (fun wx C' cn' cc' D' dn' dc' hb h1 h2 => by
              obtain ⟨q1, h1⟩ := h1
              obtain ⟨q2, h2⟩ := h2
              obtain ⟨t1, _, _, t2, _⟩ := T1.out wx (belowT HB1S.out hb)
              refine (tbRange_any t1 t2 (by omega) HSO.out HGZ.out h1.rd h1.cap.1 (fun h => (h1.nil_of (by rw [h]; rfl)).2.2) h2.rd h2.cap.1 (fun h => (h2.nil_of (by rw [h]; rfl)).2.2) (by have := h2.len; omega)).mono ?_
              intro e w' hq
              obtain ⟨L', k', d', e1, e2⟩ := range_ref hq HL.out (fun x hx => (HWF.out x hx).1)
              rw [← HFL'.out] at e2
              exact ⟨L', k', d', e1, e2⟩)
            have HSL : Hid (∀ wx L1 n1 c1, Below wS.heap.size wS wx → REs wx L1 n1 FL → Calls Tryz.prog 22 #[.slice L1 n1 c1, .slice LQ kQ dQ] wx (RetT wx true)) := Lib.hid (fun wx L1 n1 c1 hb h1 => by
              have e1 := h1.len
              have e2 := HKQ.out
              obtain rfl : n1 = kQ := by omega
              exact SameList_any h1 (HRQ.out wx hb) (by have := HFN.out; omega) HFS.out)
            have HSX : Hid (∀ wx, Below wS.heap.size wS wx → wx.cell? ⟨g16, 0, none⟩ = some (.slice C cn cc) ∧ wx.cell? ⟨g16, 1, none⟩ = some (.int .u64 (yy.seq : Int)) ∧ wx.cell? ⟨g16, 2, none⟩ = some (.int .u8 (yy.kind : Int)) ∧ wx.cell? ⟨g16, 3, none⟩ = some (.slice D dn dc) ∧ wx.cell? ⟨wD.heap.size, 0, none⟩ = some (.slice X xn xc) ∧ wx.cell? ⟨wD.heap.size, 1, none⟩ = some (.int .u64 (yy.seq : Int)) ∧ wx.cell? ⟨wD.heap.size, 2, none⟩ = some (.int .u8 (yy.kind : Int)) ∧ wx.cell? ⟨wD.heap.size, 3, none⟩ = some (.slice F fn fc) ∧ wx.cell? ⟨wr.heap.size, 0, none⟩ = some (.slice E en ec) ∧ wx.cell? ⟨wr.heap.size, 1, none⟩ = some (.slice V vn vc)) := Lib.hid (fun wx hb => by
              obtain ⟨q0, q1, _⟩ := (HX1.out wx (belowT HB1S.out hb)).c3
              obtain ⟨x0, x1, x2, x3, _⟩ := (x3.below hb).c4
              obtain ⟨y0, y1, y2, y3, _⟩ := (y3.below hb).c4
              exact ⟨x0, x1, x2, x3, y0, y1, y2, y3, q0, q1⟩)
            have tz : (zz != zz) = false := by simp
            have hB2 : Below wS.heap.size wS wS.drew := (Below.refl _ _).drew
            clear hq rQ bS b1S hkq x3 y3 hfl HRR c0'' c1'' c2''
            go_upto_region 20 with (fail)
            go_cut [174] from 153 to 175 (fun s174 wx => s174 = .bool false ∧ Below wS.heap.size wS wx)
            case first =>
              as_aux_lemma =>
                clear HZZ tz
                cases zz
                all_goals
                  go_region_held3 (fun wx => wx.cell? ⟨g16, 0, none⟩ = some (.slice C cn cc) ∧ wx.cell? ⟨g16, 1, none⟩ = some (.int .u64 (yy.seq : Int)) ∧ wx.cell? ⟨g16, 2, none⟩ = some (.int .u8 (yy.kind : Int)) ∧ wx.cell? ⟨g16, 3, none⟩ = some (.slice D dn dc) ∧ wx.cell? ⟨wD.heap.size, 0, none⟩ = some (.slice X xn xc) ∧ wx.cell? ⟨wD.heap.size, 1, none⟩ = some (.int .u64 (yy.seq : Int)) ∧ wx.cell? ⟨wD.heap.size, 2, none⟩ = some (.int .u8 (yy.kind : Int)) ∧ wx.cell? ⟨wD.heap.size, 3, none⟩ = some (.slice F fn fc) ∧ wx.cell? ⟨wr.heap.size, 0, none⟩ = some (.slice E en ec) ∧ wx.cell? ⟨wr.heap.size, 1, none⟩ = some (.slice V vn vc)) (first | assumption | exact HSX.out _ hB2)
                    (first | (go_at_call 21; with_reducible refine (HSM.out _ hB2).mono ?_; intro e1 wn hq; obtain ⟨h1, bn⟩ := RetT.outD hq; subst h1; have bn' := belowT hB2 bn; have hS1 := HSX.out _ bn') | (go_at_call 18; with_reducible refine (HD1.out _ (by assumption)).mono ?_; intro e1 wn hq; obtain ⟨C4, cn4, cc4, h4, o4, bn⟩ := Made.out hq; subst h4; have bn' := belowT (by assumption : Below wS.heap.size wS _) bn; have ow1 := Ow.mk o4; (try have ow2 := Ow.below (xs := ta) (by assumption) bn); have hS1 := HSX.out _ bn') | (go_at_call 18; with_reducible refine (HD2.out _ (by assumption)).mono ?_; intro e1 wn hq; obtain ⟨C5, cn5, cc5, h5, o5, bn⟩ := Made.out hq; subst h5; have bn' := belowT (by assumption : Below wS.heap.size wS _) bn; have ow2 := Ow.mk o5; (try have ow1 := Ow.below (xs := ka) (by assumption) bn); have hS1 := HSX.out _ bn') | (go_at_call 23; with_reducible refine (HRN.out _ _ _ _ _ _ _ (by assumption) (by assumption) (by assumption)).mono ?_; intro e1 wn hq; obtain ⟨LR, kR, dR, h6, hrow⟩ := RetRow.outA hq; subst h6; have bn := RowE.bel hrow; have bn' := belowT (by assumption : Below wS.heap.size wS _) bn; have rx := RowE.rd hrow; have hS1 := HSX.out _ bn') | (go_at_call 22; with_reducible refine (HSL.out _ _ _ _ (by assumption) (by assumption)).mono ?_; intro e1 wn hq; obtain ⟨h8, bn⟩ := RetT.outD hq; subst h8; have bn' := belowT (by assumption : Below wS.heap.size wS _) bn; have hS1 := HSX.out _ bn'))
                all_goals
                  have HBN := Lib.hid bn'
                  clear bn bn' hS1
                  go_wp2_with fail
                  go_meet
                  exact ⟨rfl, HBN.out⟩
              -- E1
            case rest =>
              obtain ⟨rfl, bX⟩ := hcut
              obtain ⟨wE, hwE⟩ : ∃ wE, wE = wc := ⟨_, rfl⟩
              rw [← hwE] at bX ⊢
              clear hwE
              have B1E : Below W1.heap.size W1 wE := belowT HB1S.out bX
              have HB1E := Lib.hid B1E
              obtain ⟨_, _, _, _, rL, _, _⟩ := T1.out wE B1E
              obtain ⟨xx, X0, X1, X2, X3, hxx, e0, _, _, _, hevx⟩ := rL.at_ 0 hkp
              obtain ⟨y2, Y0, Y1, Y2, Y3, hyy2, f0, _, _, _, hevy⟩ := rL.at_ (m3 - 1) (by omega)
              obtain rfl : x' = xx := Option.some.inj (HXX.out.symm.trans hxx)
              obtain rfl : y' = y2 := Option.some.inj (HYY.out.symm.trans hyy2)
              obtain ⟨P, pn, pc, _, _, _, rfl, _, _, _, rp, _⟩ := hevx.parts
              obtain ⟨Q, qn, qc, _, _, _, rfl, _, _, _, rq, _⟩ := hevy.parts
              rw [show offL + 0 * 4 = offL by omega] at e0
              obtain ⟨m1, hm1⟩ : ∃ m1, m1 = m3 - 1 := ⟨_, rfl⟩
              rw [← hm1] at f0
              have hw1 : IntKind.i64.wrap ((m3 : Int) - 1) = (m1 : Int) := by rw [IntWalk.i64_in _ (by omega)]; omega
              have hp1 : m1 < m3 := by omega
              obtain ⟨z1, hz1⟩ : ∃ z, cmpB x'.key ta = z := ⟨_, rfl⟩
              obtain ⟨z2, hz2⟩ : ∃ z, cmpB y'.key ka = z := ⟨_, rfl⟩
              obtain ⟨ov, hov⟩ : ∃ ov, ov = overB x'.key y'.key ka ta := ⟨_, rfl⟩
              have hsx := (HGZ.out x' HXM.out).1
              have hsy := (HGZ.out y' HYM.out).1
              have lp := rp.len
              have lq := rq.len
              have HQ1 : Hid (∀ q, Calls Tryz.prog 24 #[.slice P pn pc, .slice V vn vc] (wE.drewN q) (RetZ (wE.drewN q) z1)) := Lib.hid (fun q => refCmp_is P V pn vn pc vc x'.key ta z1 hz1 _ (rp.drewN q) ((RV1.out wE B1E).drewN q) (by unfold maxLen; omega) (by unfold maxLen; omega))
              have HQ2 : Hid (∀ q, Calls Tryz.prog 24 #[.slice Q qn qc, .slice E en ec] (wE.drewN q) (RetZ (wE.drewN q) z2)) := Lib.hid (fun q => refCmp_is Q E qn en qc ec y'.key ka z2 hz2 _ (rq.drewN q) ((RE1.out wE B1E).drewN q) (by unfold maxLen; omega) (by unfold maxLen; omega))
              have HOV : Hid (ov = ((decide (vn = 0) || decide (z1 < 0)) && decide (0 ≤ z2))) := Lib.hid (by rw [hov]; unfold overB; rw [hz1, hz2, lV])
              have HSOME : Hid (kQ ≠ 0 → ov = true) := Lib.hid (fun h => by
                rw [hov]
                exact over_some HSO.out HXX.out (by rw [HL.out]; exact HYY.out) (by rw [← HFL'.out]; have := HKQ.out; omega))
              have HOVR : Hid (∀ wx, Below wE.heap.size wE wx → Calls Tryz.prog 25 #[.pointer (some ⟨tb, 0, none⟩), .slice E en ec, .slice V vn vc] wx (fun e w' => e = .returned (.bool ov) ∧ wx = w')) := Lib.hid (fun wx hb => by
                have hb1 := belowT HB1E.out hb
                obtain ⟨t1, t2, t3, _⟩ := T1.out wx hb1
                have h1 := tbOver_any (gc := ec) (tc := vc) t1 t2 t3 (RE1.out wx hb1) (RV1.out wx hb1)
                rw [← hov, decide_eq_true hkp, Bool.true_and] at h1
                exact h1)
              obtain ⟨c0, c1, c2, _⟩ := (HX1.out wE B1E).c3
              clear rL hevx hevy hxx hyy2 rp rq hz1 hz2 hov hsx hsy lp lq hm1 B1E bX HSX HSM HD1 HD2 HRN HSL
              go_upto_region 22 with (fail)
              go_cut [21] from 175 to 202 (fun s21 wx => s21 = .bool ov ∧ Below wE.heap.size wE wx)
              case first =>
                as_aux_lemma =>
                  by_cases h0 : vn = 0
                  · have HA : Hid (decide (0 ≤ z2) = ov) := Lib.hid (by rw [HOV.out, decide_eq_true h0]; rfl)
                    have HA2 : Hid (decide (z2 ≥ 0) = ov) := Lib.hid HA.out
                    subst h0
                    go_quiet (first | (go_at_call 24; with_reducible exact Calls.quiet_of (HQ1.out _)) | (go_at_call 24; with_reducible exact Calls.quiet_of (HQ2.out _)))
                    have HBQ : Hid (Below wE.heap.size wE (wE.drewN nq)) := Lib.hid (below_drewN (Below.refl _ _) nq)
                    go_wp2_with fail
                    go_meet
                    exact ⟨by first | rw [HA.out] | rw [HA2.out], HBQ.out⟩
                  · have t1 : ((vn : Int) == 0) = false := by rw [beq_eq_false_iff_ne]; omega
                    by_cases hz : z1 < 0
                    · have te : decide (z1 < 0) = true := by simpa using hz
                      have HA : Hid (decide (0 ≤ z2) = ov) := Lib.hid (by rw [HOV.out, te, Bool.or_true]; rfl)
                      have HA2 : Hid (decide (z2 ≥ 0) = ov) := Lib.hid HA.out
                      go_quiet (first | (go_at_call 24; with_reducible exact Calls.quiet_of (HQ1.out _)) | (go_at_call 24; with_reducible exact Calls.quiet_of (HQ2.out _)))
                      have HBQ : Hid (Below wE.heap.size wE (wE.drewN nq)) := Lib.hid (below_drewN (Below.refl _ _) nq)
                      go_wp2_with fail
                      go_meet
                      exact ⟨by first | rw [HA.out] | rw [HA2.out], HBQ.out⟩
                    · have te : decide (z1 < 0) = false := by simpa using hz
                      have HA : Hid (false = ov) := Lib.hid (by rw [HOV.out, te, decide_eq_false h0]; rfl)
                      go_quiet (first | (go_at_call 24; with_reducible exact Calls.quiet_of (HQ1.out _)) | (go_at_call 24; with_reducible exact Calls.quiet_of (HQ2.out _)))
                      have HBQ : Hid (Below wE.heap.size wE (wE.drewN nq)) := Lib.hid (below_drewN (Below.refl _ _) nq)
                      go_wp2_with fail
                      go_meet
                      exact ⟨by rw [HA.out], HBQ.out⟩
                -- F1
              case rest =>
                obtain ⟨rfl, bY⟩ := hcut
                obtain ⟨wF, hwF⟩ : ∃ wF, wF = wc := ⟨_, rfl⟩
                rw [← hwF] at bY ⊢
                clear hwF
                have HO9 := Lib.hid (HOVR.out wF bY)
                obtain ⟨c0, c1, c2, _⟩ := (HX1.out wF (belowT HB1E.out bY)).c3
                have HB9 : Hid (Below w8.heap.size w8 wF) := Lib.hid (belowT' HB81.out (belowT HB1E.out bY))
                have tz2 : (ov != ov) = false := by simp
                clear bY
                by_cases hkq : kQ = 0
                · subst hkq
                  go_wp2_with fail
                  with_reducible refine HO9.out.mono ?_
                  rintro e w9 ⟨rfl, rfl⟩
                  go_wp2_with fail
                  go_roundw
                  case rel => exact ⟨j + 1, by omega, by go_num, HB9.out⟩
                  case measure => simp [intOf]; omega
                · have hot : ov = true := HSOME.out hkq
                  have tk : decide ((kQ : Int) > 0) = true := by simp; omega
                  have tk2 : decide ((0 : Int) < (kQ : Int)) = true := by simp; omega
                  subst hot
                  go_wp2_with fail
                  with_reducible refine HO9.out.mono ?_
                  rintro e w9 ⟨rfl, rfl⟩
                  go_wp2_with fail
                  go_roundw
                  case rel => exact ⟨j + 1, by omega, by go_num, HB9.out⟩
                  case measure => simp [intOf]; omega
        · as_aux_lemma =>
            clear hbw hst
            have HSTE := HST.out
            obtain ⟨_, _, _, _, _, hbw, _⟩ := HT8.out wr HSTE
            have HBR := Lib.hid hbw
            have HSW := Lib.hid HSTE
            clear HSTE hbw
            obtain ⟨W9, hW9⟩ : ∃ W9, W9 = wr.alloc (.cells #[.slice none 0 0, .slice none 0 0, .int .i64 0, .int .i64 0, .slice none 0 0] 43) := ⟨_, rfl⟩
            obtain ⟨g9, hg9⟩ : ∃ g9, g9 = wr.heap.size := ⟨_, rfl⟩
            have bW9 : Below wr.heap.size wr W9 := by rw [hW9]; exact (Below.refl _ _).alloc (Nat.le_refl _) _
            have zW9 : Cl W9 g9 #[.slice none 0 0, .slice none 0 0, .int .i64 0, .int .i64 0, .slice none 0 0] 43 := by rw [hW9, hg9]; exact Cl.new _ _ _
            have HZ9 := Lib.hid zW9
            have HB9 : Hid (Below w8.heap.size w8 W9) := Lib.hid (belowT' HSW.out bW9)
            have HG0 : Hid (Calls Tryz.prog 17 #[.pointer (some ⟨g9, 0, none⟩), .slice none 0 0, .int .u64 9] W9 (RetGt W9 none)) := Lib.hid (by
              have h1 := tbGet_any (n := 0) (A := none) (c := 0) (es := []) (L := none) (kn := 0) (kc := 0) (at_ := 9) (key := []) zW9 (REs.nil _ _) (by omega) List.Pairwise.nil (fun x hx => by cases hx) (Rd.nil _ _) (Nat.le_refl _) (fun _ => rfl) (by unfold U64; omega)
              exact h1)
            have HW9 := Lib.hid hW9
            have HG9 := Lib.hid hg9
            clear bW9 zW9 hW9 hg9
            go_upto_region 27 with (fail)
            rw [← HW9.out, ← HG9.out]
            go_wp2_with fail
            with_reducible refine HG0.out.mono ?_
            intro e wa hq
            obtain ⟨h1, ba⟩ : e = .returned (.tuple #[.agg #[.slice none 0 0, .int .u64 0, .int .u8 0, .slice none 0 0], .bool false]) ∧ Below W9.heap.size W9 wa := by
              rcases hq with ⟨_, h1, h2⟩ | ⟨_, _, _, _, _, _, _, h, _⟩
              · exact ⟨h1, h2⟩
              · cases h
            subst h1
            obtain ⟨Wa, hWa⟩ : ∃ Wa, Wa = wa.alloc (.cells #[.slice none 0 0, .int .u64 0, .int .u8 0, .slice none 0 0] 49) := ⟨_, rfl⟩
            have bWa : Below wa.heap.size wa Wa := by rw [hWa]; exact (Below.refl _ _).alloc (Nat.le_refl _) _
            have HBa : Hid (Below W9.heap.size W9 Wa) := Lib.hid (belowT' ba bWa)
            have HTWa := Lib.hid (Twins_any (c := d) (HT8.out Wa (belowT' HB9.out HBa.out)).2.2.2.2.1 (by omega) HGZ.out)
            have HWa := Lib.hid hWa
            clear hq ba bWa hWa HG0
            go_upto_region 28 with (fail)
            rw [← HWa.out]
            go_wp2_with fail
            with_reducible refine HTWa.out.mono ?_
            rintro e wb ⟨Lb, kb, db, rfl, hrow⟩
            have hkb : kb = m3 := by have := hrow.len; have := HL.out; omega
            have HBb : Hid (Below W9.heap.size W9 wb) := Lib.hid (belowT' HBa.out hrow.bel)
            have HWN : Hid (Calls Tryz.prog 11 #[.pointer (some ⟨p, 0, none⟩), .string { data := #[116] }, .int .i64 s, .slice Lb kb db] wb (RetWe wb 7)) := Lib.hid (write_no (ys0 := ys) s 7 (.pointer (some ⟨p, 0, none⟩)) (.string { data := #[116] }) hrow.rd (by omega) hrow.cap.1 HGT.out (.inr ⟨by rw [HBT.out], rfl, fun wx hb => by
              have h2 := read_live (f := ([116], ys, ys.length)) (HT8.out wx (belowT' (belowT' HB9.out HBb.out) hb)).2.2.2.2.2.2 (List.mem_singleton.2 rfl) (by unfold maxLen; simp) (by have := HYL.out; simp; omega)
              exact h2⟩))
            clear hrow hkb HTWa
            go_wp2_with fail
            with_reducible refine HWN.out.mono ?_
            rintro e wx ⟨h1, bx⟩
            subst h1
            obtain ⟨Wx, hWx⟩ : ∃ Wx, Wx = wx.alloc (.cells #[.slice none 0 0, .slice none 0 0, .int .i64 0, .int .i64 0] 31) := ⟨_, rfl⟩
            have bWx : Below wx.heap.size wx Wx := by rw [hWx]; exact (Below.refl _ _).alloc (Nat.le_refl _) _
            have HBx : Hid (Below W9.heap.size W9 Wx) := Lib.hid (belowT' (belowT' HBb.out bx) bWx)
            have HZR : Hid (Calls Tryz.prog 23 #[.pointer (some ⟨g9, 0, none⟩), .slice none 0 0, .slice none 0 0] Wx (RetRn Wx [] 0 [] [])) := Lib.hid (by
              have h1 := tbRange_any (n := 0) (A := none) (c := 0) (es := []) (HZ9.out.below HBx.out) (REs.nil _ _) (by omega) List.Pairwise.nil (fun x hx => by cases hx) (Rd.nil _ none) (Nat.le_refl 0) (fun _ => rfl) (Rd.nil _ none) (Nat.le_refl 0) (fun _ => rfl) (by omega)
              exact h1)
            have HWx := Lib.hid hWx
            clear bx bWx hWx HWN
            go_upto_region 29 with (fail)
            rw [← HWx.out]
            go_wp2_with fail
            with_reducible refine HZR.out.mono ?_
            intro e wd hq
            obtain ⟨Ld, kd, dd', h1, hrow⟩ := range_all hq rfl (fun x hx => by cases hx)
            have hkd : kd = 0 := by have := hrow.len; simpa using this.symm
            subst h1 hkd
            have HBd : Hid (Below W9.heap.size W9 wd) := Lib.hid (belowT' HBx.out hrow.bel)
            have HOZ : Hid (Calls Tryz.prog 25 #[.pointer (some ⟨g9, 0, none⟩), .slice none 0 0, .slice none 0 0] wd (fun e w' => e = .returned (.bool false) ∧ wd = w')) := Lib.hid (by
              have h1 := tbOver_any (cnt := 0) (gc := 0) (tc := 0) (HZ9.out.below HBd.out) (Rd.nil _ none) (Rd.nil _ none) (Rd.nil _ none) (Rd.nil _ none)
              exact h1)
            clear hq hrow HZR
            go_wp2_with fail
            with_reducible refine HOZ.out.mono ?_
            rintro e we ⟨rfl, rfl⟩
            obtain ⟨zt9, _, _, r39, _⟩ := HT8.out wd (belowT' HB9.out HBd.out)
            have HTR : Hid (Calls Tryz.prog 23 #[.pointer (some ⟨tb, 0, none⟩), .slice none 0 0, .slice none 0 0] wd (RetRn wd gs m3 [] [])) := Lib.hid (tbRange_any zt9 r39 (by omega) HSO.out HGZ.out (Rd.nil _ _) (Nat.le_refl _) (fun _ => rfl) (Rd.nil _ _) (Nat.le_refl _) (fun _ => rfl) (by omega))
            clear zt9 r39 HOZ
            go_wp2_with fail
            with_reducible refine HTR.out.mono ?_
            intro e wf hq
            obtain ⟨Lf, kf, df, h1, hrow⟩ := range_all hq HL.out (fun x hx => (HWF.out x hx).1)
            subst h1
            have hkf : kf = m3 := by have := hrow.len; have := HL.out; omega
            subst hkf
            have HBf : Hid (Below w8.heap.size w8 wf) := Lib.hid (belowT' (belowT' HB9.out HBd.out) hrow.bel)
            have HSLf := Lib.hid (SameList_any (c := df) (d := d) hrow.rd (HT8.out wf HBf.out).2.2.2.2.1 (by omega) HGZ.out)
            clear hq hrow HTR
            go_wp2_with fail
            with_reducible refine HSLf.out.mono ?_
            intro e wg hq
            obtain ⟨h1, bg⟩ := RetT.outD hq
            subst h1
            have HF : Hid (RetT w true (.returned (.bool true)) wg) := Lib.hid ⟨rfl, belowT' (HT8.out wf HBf.out).2.2.2.2.2.1 bg⟩
            clear hq bg
            go_wp2_with fail
            go_ret
            exact HF.out
end Go.Proofs.YtbgelbdnkbhffaaGreat
namespace Go.Proofs.YtbgelbdnkbhffaaGreat.tableAnswersUptoRow
open Go Go.ChangeShapes Go.WideShapes Go.ChangeAt Go.RowKit Go.Deep
open Go.ChangeMaps (open_string shut_string)
set_option linter.unusedVariables false

theorem own : ownKnob Tryz.prog.godebug = none := by kernel_rfl
theorem laidOut : laidOutB Tryz.prog = true := by kernel_rfl

set_option maxRecDepth 100000 in
theorem contract (H : Type) (enc : TypeId × Value → H) (W : World) (base : Nat) (args : Array Value) (ds gs : List (DataW H)) (before : List MemPlace)
    (hval0 : ∀ (j : Nat) t v, Tryz.f3.params[j]? = some t → args[j]? = some v → Value.okWide Tryz.prog W .any base t v)
    (hW : DataW.Whole enc Tryz.prog Tryz.f3.params.toList Rows.tableAnswersSpec.vars false W args.toList ds gs before)
    (hk : Rows.uptoSmall H (ds ++ gs) = true) :
    Calls Tryz.prog 3 args W fun e W' => ∃ v, e = .returned v ∧ Rows.tableAnswersSpec.post enc Tryz.prog Tryz.f3 false true false false W args v W' := by
  have hval : ∀ (j : Nat) t v, Tryz.f3.params[j]? = some t → args[j]? = some v → Value.okWide Tryz.prog W .any base t v := hval0
  have hW' := hW
  obtain ⟨p, q, hA0, hV, rfl, hfz, hnd⟩ := hW
  have hA : DataW.TrodAll enc Tryz.prog W 0 (fun _ => true) true Tryz.f3.params.toList args.toList ds p := hA0
  rw [Tryz.params3] at hA hval
  obtain ⟨v0, vs0, d0, ds0, p0, q0, hargs, rfl, rfl, h0, r0⟩ := trodAll_cons hA
  obtain ⟨v1, vs1, d1, ds1, p1, q1, rfl, rfl, rfl, h1, r1⟩ := trodAll_cons r0
  obtain ⟨v2, vs2, d2, ds2, p2, q2, rfl, rfl, rfl, h2, r2⟩ := trodAll_cons r1
  obtain ⟨rfl, rfl, rfl⟩ := trodAll_nil r2
  obtain rfl : args = #[v0, v1, v2] := by cases args; simp_all
  obtain ⟨rfl, rfl⟩ := trodVars_none hV
  have hb := bulkOf hk
  have sz1 : Rows.uptoBulk d1 ≤ 1048576 := Nat.le_trans (part_bulk (d := d1) (l := [d0, d1, d2] ++ []) (by simp)) hb
  have sz2 : Rows.uptoBulk d2 ≤ 1048576 := Nat.le_trans (part_bulk (d := d2) (l := [d0, d1, d2] ++ []) (by simp)) hb
  obtain ⟨a0, rfl, rfl, rfl, w0⟩ := open_int Tryz.underlying3 (hval 0 3 v0 rfl rfl) h0
  obtain ⟨A1, len1, cap1, rfl⟩ := okWide_slice Tryz.underlying22 (hval 1 22 v1 rfl rfl)
  have k1 := h1
  have lt1 : ∀ x ∈ p1, x.block < W.heap.size := by obtain ⟨m, hm⟩ := k1; exact DataW.trod_lt m _ _ _ hm
  obtain ⟨al1, rd1, lc1, ta1⟩ : ∃ al1, REs W A1 len1 al1 ∧ len1 ≤ cap1 ∧ totE al1 ≤ 1048576 := by
    obtain ⟨fuel, hf⟩ := h1
    obtain ⟨al, h1, h2, h3⟩ := ents_of (len := len1) (cap := cap1) (A := A1) hf
    exact ⟨al, h1, h2, by have h4 := sz1; have h5 : totE al ≤ Rows.uptoBulk d1 := h3; omega⟩
  obtain ⟨A2, len2, cap2, rfl⟩ := okWide_slice Tryz.underlying23 (hval 2 23 v2 rfl rfl)
  have k2 := h2
  have lt2 : ∀ x ∈ p2, x.block < W.heap.size := by obtain ⟨m, hm⟩ := k2; exact DataW.trod_lt m _ _ _ hm
  obtain ⟨al2, rd2, lc2, ta2⟩ : ∃ al2, RAk W A2 len2 al2 ∧ len2 ≤ cap2 ∧ totAk al2 ≤ 1048576 := by
    obtain ⟨fuel, hf⟩ := h2
    obtain ⟨al, h1, h2, h3⟩ := asks10_of (len := len2) (cap := cap2) (A := A2) hf
    exact ⟨al, h1, h2, by have h4 := sz2; have h5 : totAk al ≤ Rows.uptoBulk d2 := h3; omega⟩
  clear hA0 hval0
  refine (tableAnswers_row a0 A1 len1 cap1 al1 A2 len2 cap2 al2 W w0 rd1 lc1 ta1 rd2 lc2 ta2).mono fun e W' ⟨he, bel⟩ => ?_
  subst he
  exact ⟨_, rfl, _, _, _, [], _, [], hW', trodAll_mk1 (shut_bool Tryz.underlying4 _), (trodAll_cons_mk (shut_int Tryz.underlying3 w0) (trodAll_cons_mk (Below.trod laidOut (by kernel_rfl) (of_decide_eq_true (by kernel_rfl)) k1 bel lt1) (trodAll_cons_mk (Below.trod laidOut (by kernel_rfl) (of_decide_eq_true (by kernel_rfl)) k2 bel lt2) trodAll_mk0))), rfl, bel.frame _, fun h => by cases h⟩

set_option maxRecDepth 100000 in
theorem lifted (os : Os) (started : os.Started) (H : Type) (enc : TypeId × Value → H) (F : Stop.Interp) :
    ReturnsInHanded {} Tryz.checked os 3 .any ((Rows.OpenSpec.upto Rows.tableAnswersSpec).pre6 enc Tryz.prog Tryz.f3 Rows.tableAnswersUptoRow.domain false) (((Rows.OpenSpec.upto Rows.tableAnswersSpec).at F).post enc Tryz.prog Tryz.f3 false true false false) := by
  refine returnsInHanded_of_cond (C := Tryz.checked) (s := Rows.OpenSpec.upto Rows.tableAnswersSpec) (k := Rows.uptoSmall) rfl own started (by kernel_rfl) Tryz.func3
    (OpenSpec.witness (enc := enc) (C := Tryz.checked) (s := Rows.OpenSpec.upto Rows.tableAnswersSpec) (k := Rows.uptoSmall) rfl false ⟨#[], #[.int .i64 0, .slice none 0 0, .slice none 0 0], []⟩ 8 (by kernel_rfl) (by kernel_rfl) (by kernel_rfl)
      (x := ([.lit (.int .i64 0), .nil, .nil], [], [])) (by kernel_rfl) rfl (by kernel_rfl)) ?_
  intro W base args ds gs before hval hW _ hk _
  exact contract H enc W base args ds gs before hval hW hk

theorem over : Rows.tableAnswersUptoRow.holds Tryz.pinned (Rows.OpenSpec.upto Rows.tableAnswersSpec) :=
  OpenClaim.holds_of_cond 3 Tryz.f3 rfl rfl rfl rfl rfl rfl rfl ⟨rfl, rfl, rfl, rfl, rfl⟩ rfl rfl rfl rfl rfl (by kernel_rfl) Tryz.func3 (by kernel_rfl)
    (of_decide_eq_true (by kernel_rfl)) (by unfold Func.isWrapper; first | (rw [if_pos (by decide +kernel)]; kernel_rfl) | (rw [if_neg (by decide +kernel)]; exact ⟨rfl, rfl⟩))
    (fun os started H enc _ F => lifted os started H enc F)

/-- THE STATEMENT -/
theorem proved : Rows.TableAnswersUptoSaid := over
#print axioms proved
end Go.Proofs.YtbgelbdnkbhffaaGreat.tableAnswersUptoRow
