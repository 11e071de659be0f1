/- The reference over entries: Same, SameList of what reads alike; Size. No condition but sizes. -/
import Derived.Test.YtcclhkoggijkaaaEnB
import Derived.Deep.DeepCutAuto
import Derived.Deep.CutBlock
import Derived.Deep.RegionHeld3
namespace Go.Proofs.Ytcclhkoggijkaaa
open Go Go.RowKit

theorem belowT' {w0 w1 w2 : World} (h : Below w0.heap.size w0 w1) (hb : Below w1.heap.size w1 w2) : Below w0.heap.size w0 w2 := h.trans (hb.mono h.size)
section
variable {w : World} {a : En} {v0 v1 v2 v3 u0 u1 u2 u3 : Value}
set_option maxRecDepth 100000 in
set_option maxHeartbeats 4000000 in
theorem Same_any (ha : EV w a v0 v1 v2 v3) (hb : EV w a u0 u1 u2 u3) (sa : SzE a) :
    Calls Try.prog 32 #[.agg #[v0, v1, v2, v3], .agg #[u0, u1, u2, u3]] w (RetT w true) := by
  obtain ⟨K, kn, kc, V, vn, vc, rfl, rfl, rfl, rfl, r0, r3, _⟩ := ha.parts
  obtain ⟨K', kn', kc', V', vn', vc', rfl, rfl, rfl, rfl, r0', r3', _⟩ := hb.parts
  obtain ⟨W, hW⟩ : ∃ W, W = (w.alloc (.cells #[.slice K kn kc, .int .u64 (a.seq : Int), .int .u8 (a.kind : Int), .slice V vn vc] 37)).alloc (.cells #[.slice K' kn' kc', .int .u64 (a.seq : Int), .int .u8 (a.kind : Int), .slice V' vn' vc'] 37) := ⟨_, rfl⟩
  have bW : Below w.heap.size w W := by rw [hW]; exact ((Below.refl _ _).alloc (Nat.le_refl _) _).alloc (by simp) _
  have x1 : Cl W w.heap.size #[.slice K kn kc, .int .u64 (a.seq : Int), .int .u8 (a.kind : Int), .slice V vn vc] 37 := by rw [hW]; exact (Cl.new _ _ _).alloc _
  have x2 : Cl W (w.heap.size + 1) #[.slice K' kn' kc', .int .u64 (a.seq : Int), .int .u8 (a.kind : Int), .slice V' vn' vc'] 37 := by rw [hW]; exact Cl.newg _ _ _ _ (by simp)
  have hk : kn ≤ maxLen := maxLen_e (by rw [← r0.len]; exact sa.1)
  have hv : vn ≤ maxLen := maxLen_e (by rw [← r3.len]; exact sa.2)
  have hk' : kn' ≤ maxLen := maxLen_e (by rw [← r0'.len]; exact sa.1)
  have hv' : vn' ≤ maxLen := maxLen_e (by rw [← r3'.len]; exact sa.2)
  have HK : Hid (∀ wx, Below W.heap.size W wx → Calls Try.prog 14 #[.slice K kn kc, .slice K' kn' kc'] wx (fun e w' => e = .returned (.bool true) ∧ Below W.heap.size W w')) := Lib.hid (fun wx h => (Equal_any _ _ _ _ _ _ a.key a.key wx ((r0.below bW).below h) ((r0'.below bW).below h) hk hk').mono (by
    rintro e w' ⟨rfl, q, rfl⟩
    exact ⟨by rw [eqB_self], below_drewN h q⟩))
  have HV : Hid (∀ wx, Below W.heap.size W wx → Calls Try.prog 14 #[.slice V vn vc, .slice V' vn' vc'] wx (fun e w' => e = .returned (.bool true) ∧ Below W.heap.size W w')) := Lib.hid (fun wx h => (Equal_any _ _ _ _ _ _ a.val a.val wx ((r3.below bW).below h) ((r3'.below bW).below h) hv hv').mono (by
    rintro e w' ⟨rfl, q, rfl⟩
    exact ⟨by rw [eqB_self], below_drewN h q⟩))
  have X1 := Lib.hid x1
  have X2 := Lib.hid x2
  have BW := Lib.hid bW
  obtain ⟨c0, c1, c2, c3, _⟩ := x1.c4
  obtain ⟨d0, d1, d2, d3, _⟩ := x2.c4
  clear ha hb r0 r3 r0' r3' x1 x2 bW
  go_enter Try.func32, Try.ntmps32
  go_upto_region 1 with (fail)
  rw [← hW]
  clear hW
  go_wp2_with fail
  with_reducible refine (HK.out _ (Below.refl _ _)).mono ?_
  rintro e w1 ⟨rfl, b1⟩
  have B1 := Lib.hid b1
  clear c0 c1 c2 c3 d0 d1 d2 d3
  obtain ⟨c0, c1, c2, c3, _⟩ := (X1.out.below b1).c4
  obtain ⟨d0, d1, d2, d3, _⟩ := (X2.out.below b1).c4
  clear b1
  go_wp2_with fail
  with_reducible refine (HV.out _ B1.out).mono ?_
  rintro e w2 ⟨rfl, b2⟩
  have B2 := Lib.hid (belowT' BW.out b2)
  clear b2 c0 c1 c2 c3 d0 d1 d2 d3
  go_wp2
  go_ret
  exact ⟨rfl, B2.out⟩
end
theorem RetT.outD {w : World} {b : Bool} {e : Ending} {w' : World} (h : RetT w b e w') : e = .returned (.bool b) ∧ Below w.heap.size w w' := h
set_option maxRecDepth 100000 in
set_option maxHeartbeats 4000000 in
theorem SameList_any {w : World} {A B : Option Addr} {n c d : Nat} {es : List En} (h1 : REs w A n es) (h2 : REs w B n es) (hn : n ≤ 1099511627776) (hs : ∀ x ∈ es, SzE x) :
    Calls Try.prog 20 #[.slice A n c, .slice B n d] w (RetT w true) := by
  have H1 := Lib.hid h1
  have H2 := Lib.hid h2
  have HS := Lib.hid hs
  clear h1 h2 hs
  go_enter Try.func20, Try.ntmps20
  go_wp2
  go_loopw [5] (fun s5 wr => ∃ k : Nat, k ≤ n ∧ s5 = .int .i64 (k : Int) ∧ Below w.heap.size w wr) (fun s _ => n - (intOf s).toNat)
  case atStart => exact ⟨0, Nat.zero_le _, rfl, Below.refl _ _⟩
  case round =>
    obtain ⟨k, hk, rfl, hB⟩ := hrel
    have HB := Lib.hid hB
    clear hB
    by_cases hlt : k < n
    · have hR := H1.out.below HB.out
      have hQ := H2.out.below HB.out
      obtain ⟨b, off, hAb, hbl⟩ := hR.pos (by omega)
      subst hAb
      obtain ⟨g, oft, hBb, hgl⟩ := hQ.pos (by omega)
      subst hBb
      obtain ⟨x, v0, v1, v2, v3, hx, c0, c1, c2, c3, hev⟩ := hR.at_ k hlt
      obtain ⟨y, u0, u1, u2, u3, hy, d0, d1, d2, d3, hew⟩ := hQ.at_ k hlt
      have hxy : y = x := by rw [hx] at hy; injection hy with hy; exact hy.symm
      subst hxy
      have hsx := HS.out y (List.mem_of_getElem? hx)
      have HT : Hid (∀ wx, Below wr.heap.size wr wx → Calls Try.prog 32 #[.agg #[v0, v1, v2, v3], .agg #[u0, u1, u2, u3]] wx (RetT wx true)) := Lib.hid (fun wx h => Same_any (hev.below h) (hew.below h) hsx)
      have HSX : Hid (∀ wx, Below wr.heap.size wr wx → wx.cell? ⟨b, off + k * 4, none⟩ = some v0 ∧ wx.cell? ⟨b, off + k * 4 + 1, none⟩ = some v1 ∧ wx.cell? ⟨b, off + k * 4 + 2, none⟩ = some v2 ∧ wx.cell? ⟨b, off + k * 4 + 3, none⟩ = some v3 ∧ wx.cell? ⟨g, oft + k * 4, none⟩ = some u0 ∧ wx.cell? ⟨g, oft + k * 4 + 1, none⟩ = some u1 ∧ wx.cell? ⟨g, oft + k * 4 + 2, none⟩ = some u2 ∧ wx.cell? ⟨g, oft + k * 4 + 3, none⟩ = some u3) := Lib.hid (fun wx h => ⟨(h.cell hbl).trans c0, (h.cell hbl).trans c1, (h.cell hbl).trans c2, (h.cell hbl).trans c3, (h.cell hgl).trans d0, (h.cell hgl).trans d1, (h.cell hgl).trans d2, (h.cell hgl).trans d3⟩)
      have hB0 : Below wr.heap.size wr wr.drew := (Below.refl _ _).drew
      clear hR hQ hx hy c0 c1 c2 c3 d0 d1 d2 d3 hev hew
      go_upto_region 6 with (fail)
      go_cut [26] from 11 to 26 (fun s26 wx => s26 = .bool false ∧ Below wr.heap.size wr wx)
      case first =>
        go_region_held3 (fun wx => wx.cell? ⟨b, off + k * 4, none⟩ = some v0 ∧ wx.cell? ⟨b, off + k * 4 + 1, none⟩ = some v1 ∧ wx.cell? ⟨b, off + k * 4 + 2, none⟩ = some v2 ∧ wx.cell? ⟨b, off + k * 4 + 3, none⟩ = some v3 ∧ wx.cell? ⟨g, oft + k * 4, none⟩ = some u0 ∧ wx.cell? ⟨g, oft + k * 4 + 1, none⟩ = some u1 ∧ wx.cell? ⟨g, oft + k * 4 + 2, none⟩ = some u2 ∧ wx.cell? ⟨g, oft + k * 4 + 3, none⟩ = some u3) (first | assumption | exact HSX.out _ hB0)
          (first | (go_at_call 32; with_reducible refine (HT.out _ (by assumption)).mono ?_; intro e1 wn hq; obtain ⟨h1, bn⟩ := RetT.outD hq; subst h1; have bn' := belowT' (by assumption : Below wr.heap.size wr _) bn; have hS1 := HSX.out _ bn'))
        all_goals
          go_wp2_with fail
          go_meet
          exact ⟨rfl, by assumption⟩
      case rest =>
        obtain ⟨rfl, hbc⟩ := hcut
        have BC := Lib.hid (belowT' HB.out hbc)
        clear hbc hB0
        go_wp2_with fail
        go_roundw
        case rel => exact ⟨k + 1, by omega, by go_num, BC.out⟩
        case measure => simp [intOf]; omega
    · go_wp2
      go_ret
      exact ⟨rfl, HB.out⟩
end Go.Proofs.Ytcclhkoggijkaaa
