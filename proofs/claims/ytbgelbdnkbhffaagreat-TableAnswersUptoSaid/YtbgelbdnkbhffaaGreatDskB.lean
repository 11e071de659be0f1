/- The program's Append: onto a file that is there; a full disk; a dead one. -/
import Derived.Test.YtbgelbdnkbhffaaGreatEnB
import Derived.Deep.DeepCutAuto
import Derived.Deep.CutBlock
import Derived.Deep.RegionHeld3
import Derived.Test.YtbgelbdnkbhffaaGreatEnC
import Derived.Lib.AppendZeros
import Derived.Deep.QuietTactic
import Derived.BigQuiet
import Derived.IntWalk
import Derived.Deep.LoopGhost
import Derived.Test.YtbgelbdnkbhffaaGreatParts
import Derived.Test.YtbgelbdnkbhffaaGreatEnA
import Derived.RegionTactic
import Derived.BigRegion
import Derived.Deep.RegionLaw
import Derived.Test.YtbgelbdnkbhffaaGreatNext
import Derived.Test.YtbgelbdnkbhffaaGreatLib
import Derived.Laws.Cover3
import Derived.Deep.RegionWith
import Derived.Laws.BitsLemmas
import Derived.Test.YtbgelbdnkbhffaaGreatCl
namespace Go.Proofs.YtbgelbdnkbhffaaGreat
open Go Go.RowKit

theorem belowT' {w0 w1 w2 : World} (h : Below w0.heap.size w0 w1) (hb : Below w1.heap.size w1 w2) : Below w0.heap.size w0 w2 := h.trans (hb.mono h.size)
section
variable {w : World} {a : En} {v0 v1 v2 v3 u0 u1 u2 u3 : Value}
set_option maxRecDepth 100000 in
set_option maxHeartbeats 4000000 in
theorem Same_any (ha : EV w a v0 v1 v2 v3) (hb : EV w a u0 u1 u2 u3) (sa : SzE a) :
    Calls Tryz.prog 21 #[.agg #[v0, v1, v2, v3], .agg #[u0, u1, u2, u3]] w (RetT w true) := by
  obtain ⟨K, kn, kc, V, vn, vc, rfl, rfl, rfl, rfl, r0, r3, _⟩ := ha.parts
  obtain ⟨K', kn', kc', V', vn', vc', rfl, rfl, rfl, rfl, r0', r3', _⟩ := hb.parts
  obtain ⟨W, hW⟩ : ∃ W, W = (w.alloc (.cells #[.slice K kn kc, .int .u64 (a.seq : Int), .int .u8 (a.kind : Int), .slice V vn vc] 49)).alloc (.cells #[.slice K' kn' kc', .int .u64 (a.seq : Int), .int .u8 (a.kind : Int), .slice V' vn' vc'] 49) := ⟨_, rfl⟩
  have bW : Below w.heap.size w W := by rw [hW]; exact ((Below.refl _ _).alloc (Nat.le_refl _) _).alloc (by simp) _
  have x1 : Cl W w.heap.size #[.slice K kn kc, .int .u64 (a.seq : Int), .int .u8 (a.kind : Int), .slice V vn vc] 49 := by rw [hW]; exact (Cl.new _ _ _).alloc _
  have x2 : Cl W (w.heap.size + 1) #[.slice K' kn' kc', .int .u64 (a.seq : Int), .int .u8 (a.kind : Int), .slice V' vn' vc'] 49 := by rw [hW]; exact Cl.newg _ _ _ _ (by simp)
  have hk : kn ≤ maxLen := maxLen_e (by rw [← r0.len]; exact sa.1)
  have hv : vn ≤ maxLen := maxLen_e (by rw [← r3.len]; exact sa.2)
  have hk' : kn' ≤ maxLen := maxLen_e (by rw [← r0'.len]; exact sa.1)
  have hv' : vn' ≤ maxLen := maxLen_e (by rw [← r3'.len]; exact sa.2)
  have HK : Hid (∀ wx, Below W.heap.size W wx → Calls Tryz.prog 16 #[.slice K kn kc, .slice K' kn' kc'] wx (fun e w' => e = .returned (.bool true) ∧ Below W.heap.size W w')) := Lib.hid (fun wx h => (Equal_any _ _ _ _ _ _ a.key a.key wx ((r0.below bW).below h) ((r0'.below bW).below h) hk hk').mono (by
    rintro e w' ⟨rfl, q, rfl⟩
    exact ⟨by rw [eqB_self], below_drewN h q⟩))
  have HV : Hid (∀ wx, Below W.heap.size W wx → Calls Tryz.prog 16 #[.slice V vn vc, .slice V' vn' vc'] wx (fun e w' => e = .returned (.bool true) ∧ Below W.heap.size W w')) := Lib.hid (fun wx h => (Equal_any _ _ _ _ _ _ a.val a.val wx ((r3.below bW).below h) ((r3'.below bW).below h) hv hv').mono (by
    rintro e w' ⟨rfl, q, rfl⟩
    exact ⟨by rw [eqB_self], below_drewN h q⟩))
  have X1 := Lib.hid x1
  have X2 := Lib.hid x2
  have BW := Lib.hid bW
  obtain ⟨c0, c1, c2, c3, _⟩ := x1.c4
  obtain ⟨d0, d1, d2, d3, _⟩ := x2.c4
  clear ha hb r0 r3 r0' r3' x1 x2 bW
  go_enter Tryz.func21, Tryz.ntmps21
  go_upto_region 1 with (fail)
  rw [← hW]
  clear hW
  go_wp2_with fail
  with_reducible refine (HK.out _ (Below.refl _ _)).mono ?_
  rintro e w1 ⟨rfl, b1⟩
  have B1 := Lib.hid b1
  clear c0 c1 c2 c3 d0 d1 d2 d3
  obtain ⟨c0, c1, c2, c3, _⟩ := (X1.out.below b1).c4
  obtain ⟨d0, d1, d2, d3, _⟩ := (X2.out.below b1).c4
  clear b1
  go_wp2_with fail
  with_reducible refine (HV.out _ B1.out).mono ?_
  rintro e w2 ⟨rfl, b2⟩
  have B2 := Lib.hid (belowT' BW.out b2)
  clear b2 c0 c1 c2 c3 d0 d1 d2 d3
  go_wp2
  go_ret
  exact ⟨rfl, B2.out⟩
end
theorem RetT.outD {w : World} {b : Bool} {e : Ending} {w' : World} (h : RetT w b e w') : e = .returned (.bool b) ∧ Below w.heap.size w w' := h
set_option maxRecDepth 100000 in
set_option maxHeartbeats 4000000 in
theorem SameList_any {w : World} {A B : Option Addr} {n c d : Nat} {es : List En} (h1 : REs w A n es) (h2 : REs w B n es) (hn : n ≤ 1099511627776) (hs : ∀ x ∈ es, SzE x) :
    Calls Tryz.prog 22 #[.slice A n c, .slice B n d] w (RetT w true) := by
  have H1 := Lib.hid h1
  have H2 := Lib.hid h2
  have HS := Lib.hid hs
  clear h1 h2 hs
  go_enter Tryz.func22, Tryz.ntmps22
  go_wp2
  go_loopw [5] (fun s5 wr => ∃ k : Nat, k ≤ n ∧ s5 = .int .i64 (k : Int) ∧ Below w.heap.size w wr) (fun s _ => n - (intOf s).toNat)
  case atStart => exact ⟨0, Nat.zero_le _, rfl, Below.refl _ _⟩
  case round =>
    obtain ⟨k, hk, rfl, hB⟩ := hrel
    have HB := Lib.hid hB
    clear hB
    by_cases hlt : k < n
    · have hR := H1.out.below HB.out
      have hQ := H2.out.below HB.out
      obtain ⟨b, off, hAb, hbl⟩ := hR.pos (by omega)
      subst hAb
      obtain ⟨g, oft, hBb, hgl⟩ := hQ.pos (by omega)
      subst hBb
      obtain ⟨x, v0, v1, v2, v3, hx, c0, c1, c2, c3, hev⟩ := hR.at_ k hlt
      obtain ⟨y, u0, u1, u2, u3, hy, d0, d1, d2, d3, hew⟩ := hQ.at_ k hlt
      have hxy : y = x := by rw [hx] at hy; injection hy with hy; exact hy.symm
      subst hxy
      have hsx := HS.out y (List.mem_of_getElem? hx)
      have HT : Hid (∀ wx, Below wr.heap.size wr wx → Calls Tryz.prog 21 #[.agg #[v0, v1, v2, v3], .agg #[u0, u1, u2, u3]] wx (RetT wx true)) := Lib.hid (fun wx h => Same_any (hev.below h) (hew.below h) hsx)
      have HSX : Hid (∀ wx, Below wr.heap.size wr wx → wx.cell? ⟨b, off + k * 4, none⟩ = some v0 ∧ wx.cell? ⟨b, off + k * 4 + 1, none⟩ = some v1 ∧ wx.cell? ⟨b, off + k * 4 + 2, none⟩ = some v2 ∧ wx.cell? ⟨b, off + k * 4 + 3, none⟩ = some v3 ∧ wx.cell? ⟨g, oft + k * 4, none⟩ = some u0 ∧ wx.cell? ⟨g, oft + k * 4 + 1, none⟩ = some u1 ∧ wx.cell? ⟨g, oft + k * 4 + 2, none⟩ = some u2 ∧ wx.cell? ⟨g, oft + k * 4 + 3, none⟩ = some u3) := Lib.hid (fun wx h => ⟨(h.cell hbl).trans c0, (h.cell hbl).trans c1, (h.cell hbl).trans c2, (h.cell hbl).trans c3, (h.cell hgl).trans d0, (h.cell hgl).trans d1, (h.cell hgl).trans d2, (h.cell hgl).trans d3⟩)
      have hB0 : Below wr.heap.size wr wr.drew := (Below.refl _ _).drew
      clear hR hQ hx hy c0 c1 c2 c3 d0 d1 d2 d3 hev hew
      go_upto_region 6 with (fail)
      go_cut [26] from 11 to 26 (fun s26 wx => s26 = .bool false ∧ Below wr.heap.size wr wx)
      case first =>
        go_region_held3 (fun wx => wx.cell? ⟨b, off + k * 4, none⟩ = some v0 ∧ wx.cell? ⟨b, off + k * 4 + 1, none⟩ = some v1 ∧ wx.cell? ⟨b, off + k * 4 + 2, none⟩ = some v2 ∧ wx.cell? ⟨b, off + k * 4 + 3, none⟩ = some v3 ∧ wx.cell? ⟨g, oft + k * 4, none⟩ = some u0 ∧ wx.cell? ⟨g, oft + k * 4 + 1, none⟩ = some u1 ∧ wx.cell? ⟨g, oft + k * 4 + 2, none⟩ = some u2 ∧ wx.cell? ⟨g, oft + k * 4 + 3, none⟩ = some u3) (first | assumption | exact HSX.out _ hB0)
          (first | (go_at_call 21; with_reducible refine (HT.out _ (by assumption)).mono ?_; intro e1 wn hq; obtain ⟨h1, bn⟩ := RetT.outD hq; subst h1; have bn' := belowT' (by assumption : Below wr.heap.size wr _) bn; have hS1 := HSX.out _ bn'))
        all_goals
          go_wp2_with fail
          go_meet
          exact ⟨rfl, by assumption⟩
      case rest =>
        obtain ⟨rfl, hbc⟩ := hcut
        have BC := Lib.hid (belowT' HB.out hbc)
        clear hbc hB0
        go_wp2_with fail
        go_roundw
        case rel => exact ⟨k + 1, by omega, by go_num, BC.out⟩
        case measure => simp [intOf]; omega
    · go_wp2
      go_ret
      exact ⟨rfl, HB.out⟩
end Go.Proofs.YtbgelbdnkbhffaaGreat
namespace Go.Proofs.YtbgelbdnkbhffaaGreat
open Go Go.RowKit

theorem ClG.grown {w w' : World} {p : Nat} {us : Array Value} {ty : TypeId} {row : Option Nat} (h : Cl w p us ty) (hg : w.grownBy w' row) (hne : row ≠ some p) : Cl w' p us ty := by
  obtain ⟨_, _, _, h4, h5⟩ := hg
  exact (h5 p h.lt (fun e => hne e.symm)).trans h
/-- The bytes of an entry of whose key s are left out. -/
def entB (s : Nat) (x : En) : List UInt8 := putU s ++ (putU (x.key.length - s) ++ (putU x.seq ++ ([bt x.kind] ++ (putU x.val.length ++ (x.key.drop s ++ x.val)))))
/-- What stands between two appends: the entry's box, the row so far. -/
def AE (w0 U : World) (g : Nat) (cs : Array Value) (A Ai : Option Addr) (n c : Nat) (xs : List UInt8) (wi : World) : Prop :=
  Cl wi g cs 49 ∧ blk Ai ≠ some g ∧ Own 5 wi w0.heap.size Ai n c xs ∧ Grow U wi A Ai ∧ Below w0.heap.size w0 wi
section
variable {w0 U wi wj : World} {g n c n' c' : Nat} {cs : Array Value} {A Ai Aj : Option Addr} {xs ys : List UInt8}
theorem AE.below (h : AE w0 U g cs A Ai n c xs wi) (hb : Below wi.heap.size wi wj) : AE w0 U g cs A Ai n c xs wj := by
  obtain ⟨h1, h2, h3, h4, h5⟩ := h
  exact ⟨h1.below hb, h2, h3.below hb, h4.trans (Grow.of_below Ai hb), h5.trans (hb.mono h5.size)⟩
theorem AE.app (h : AE w0 U g cs A Ai n c xs wi) (ho : Own 5 wj w0.heap.size Aj n' c' ys) (hg : Grow wi wj Ai Aj) : AE w0 U g cs A Aj n' c' ys wj := by
  obtain ⟨h1, h2, h3, h4, h5⟩ := h
  refine ⟨ClG.grown h1 hg.1 h2, fun e => ?_, ho, h4.trans hg, h5.trans (hg.below h3 h5.size)⟩
  rcases hg.2 with e2 | e2
  · exact h2 (e2.symm.trans e)
  · have := e2 g e
    have := h1.lt
    omega
end
set_option maxRecDepth 100000 in
set_option maxHeartbeats 8000000 in
theorem appendEntry_any {w0 w : World} {x : En} {v0 v1 v2 v3 : Value} (hx : EV w0 x v0 v1 v2 v3) (sx : SzE x) (s : Nat) (hs : s ≤ x.key.length) (A : Option Addr) (n c : Nat) (xs : List UInt8) (ho : Own 5 w w0.heap.size A n c xs) (hb : Below w0.heap.size w0 w) (hn : n ≤ 1099511627776) :
    Calls Tryz.prog 218 #[.slice A n c, .int .i64 (s : Int), .agg #[v0, v1, v2, v3]] w (RetAp w0.heap.size w A n xs (entB s x)) := by
  obtain ⟨K, kn, kc, V, vn, vc, rfl, rfl, rfl, rfl, r0, r3, c0, c3, d0, d3, s1, s2⟩ := hx.parts
  have l1 := r0.len
  have l2 := r3.len
  have hkn : kn ≤ 1099511627776 := by have := sx.1; omega
  have hvn : vn ≤ 1099511627776 := by have := sx.2; omega
  have hskn : s ≤ kn := by omega
  obtain ⟨U, hU⟩ : ∃ U, U = w.alloc (.cells #[.slice K kn kc, .int .u64 (x.seq : Int), .int .u8 (x.kind : Int), .slice V vn vc] 49) := ⟨_, rfl⟩
  obtain ⟨g, hg⟩ : ∃ g, g = w.heap.size := ⟨_, rfl⟩
  have hsz := hb.size
  have A0 : AE w0 w g #[.slice K kn kc, .int .u64 (x.seq : Int), .int .u8 (x.kind : Int), .slice V vn vc] A A n c xs U := by
    have hbU : Below w.heap.size w U := by rw [hU]; exact (Below.refl _ _).alloc (Nat.le_refl _) _
    refine ⟨by rw [hU, hg]; exact Cl.new _ _ _, fun e => ?_, ho.below hbU, Grow.of_below A hbU, hb.trans (hbU.mono hsz)⟩
    have := (ho.lt g e).2
    omega
  obtain ⟨z, hz⟩ : ∃ z, z = kn - s := ⟨_, rfl⟩
  have r0b : ∀ wi : World, Below w0.heap.size w0 wi → Rd wi (cutA K s kc) z (x.key.drop s) := fun wi hwi => by
    have h := (r0.below hwi).cut hskn (Nat.le_refl kn) c0
    rw [List.take_of_length_le (by omega)] at h
    rw [hz]
    exact h
  have hsl : ∀ W : World, (Instr.slice 29 (.slice K kn kc) (some (.int .i64 (s : Int))) none none).run Tryz.prog W = .ok (.slice (cutA K s kc) z (kc - s)) W := by
    rw [hz]
    exact cut_l Tryz.underlying29 elem_bytes size_u8 K hskn
  have hzn : z ≤ 1099511627776 := by omega
  have hsn : s ≤ 1099511627776 := by omega
  have R0 := Lib.hid r0b
  have R3 := Lib.hid r3
  have HL2 := Lib.hid l2
  have hc := A0.1.c4
  rw [hg] at hc
  have hseq : x.seq < 18446744073709551616 := s1
  have hEB : entB s x = putU s ++ (putU z ++ (putU x.seq ++ ([bt x.kind] ++ (putU vn ++ (x.key.drop s ++ x.val))))) := by
    unfold entB
    rw [hz, l1, l2]
  have HE := Lib.hid hEB
  have hdl : (x.key.drop s).length = z := by rw [List.length_drop]; omega
  have HDL := Lib.hid hdl
  have p1 := putU_len64 s (show s < B64 by unfold B64; omega)
  have p2 := putU_len64 z (show z < B64 by unfold B64; omega)
  have p3 := putU_len64 x.seq (show x.seq < B64 from hseq)
  have p5 := putU_len64 vn (show vn < B64 by unfold B64; omega)
  have HA := Lib.hid A0
  clear hx r0 r3 l1 l2 A0 ho r0b hz hEB hdl hs sx hskn
  go_enter Tryz.func218, Tryz.ntmps218
  go_wp2_with fail
  rw [← hU]
  refine (PutU_any s _ (by unfold B64; omega)).mono ?_
  rintro e wa1 ⟨P1, m1, d1, rfl, oP1, bP1⟩
  obtain rfl : (putU s).length = m1 := oP1.len
  have HB1 := Lib.hid (HA.out.below bP1)
  have rP1 := oP1.rd
  clear oP1 bP1 HA hc
  go_wp2_with (at_builtin; refine wpList_appX _ rfl _ _ 29 rfl w0.heap.size 5 Tryz.underlying29 info_u8 A _ _ _ rfl HB1.out.2.2.1 P1 (putU s).length d1 (putU s) rfl rP1 ?_ ?_ ?_)
  · omega
  · exact HB1.out.2.2.2.2.size
  intro A1 c1 w1 o1 g1
  have HA1 := Lib.hid (HB1.out.app o1 g1)
  have hc := HA1.out.1.c4
  rw [hg] at hc
  clear o1 g1 HB1 rP1
  go_wp2_with fail
  refine (PutU_any z _ (by unfold B64; omega)).mono ?_
  rintro e wa2 ⟨P2, m2, d2, rfl, oP2, bP2⟩
  obtain rfl : (putU z).length = m2 := oP2.len
  have HB2 := Lib.hid (HA1.out.below bP2)
  have rP2 := oP2.rd
  clear oP2 bP2 HA1 hc
  go_wp2_with (at_builtin; refine wpList_appX _ rfl _ _ 29 rfl w0.heap.size 5 Tryz.underlying29 info_u8 A1 _ _ _ rfl HB2.out.2.2.1 P2 (putU z).length d2 (putU z) rfl rP2 ?_ ?_ ?_)
  · omega
  · exact HB2.out.2.2.2.2.size
  intro A2 c2 w2 o2 g2
  have HA2 := Lib.hid (HB2.out.app o2 g2)
  have hc := HA2.out.1.c4
  rw [hg] at hc
  clear o2 g2 HB2 rP2
  go_wp2_with fail
  refine (PutU_any x.seq _ (by unfold B64; omega)).mono ?_
  rintro e wa3 ⟨P3, m3, d3, rfl, oP3, bP3⟩
  obtain rfl : (putU x.seq).length = m3 := oP3.len
  have HB3 := Lib.hid (HA2.out.below bP3)
  have rP3 := oP3.rd
  clear oP3 bP3 HA2 hc
  go_wp2_with (at_builtin; refine wpList_appX _ rfl _ _ 29 rfl w0.heap.size 5 Tryz.underlying29 info_u8 A2 _ _ _ rfl HB3.out.2.2.1 P3 (putU x.seq).length d3 (putU x.seq) rfl rP3 ?_ ?_ ?_)
  · omega
  · exact HB3.out.2.2.2.2.size
  intro A3 c3 w3 o3 g3
  have HA3 := Lib.hid (HB3.out.app o3 g3)
  have hc := HA3.out.1.c4
  rw [hg] at hc
  clear o3 g3 HB3 rP3
  go_wp2_with (at_builtin; refine wpList_appX _ rfl _ _ 29 rfl w0.heap.size 5 Tryz.underlying29 info_u8 A3 _ _ _ rfl (HA3.out.2.2.1.alloc _) _ 1 1 [bt x.kind] rfl (Rd.one _ _ _ _ ?_) ?_ ?_ ?_)
  · rw [bt_nat _ (by omega)]
  · omega
  · have := HA3.out.2.2.2.2.size; simp; omega
  intro A4 c4 w4 o4 g4
  have HA4 := Lib.hid ((HA3.out.below ((Below.refl _ _).alloc (Nat.le_refl _) _)).app o4 g4)
  have hc := HA4.out.1.c4
  rw [hg] at hc
  clear o4 g4 HA3
  go_wp2_with fail
  refine (PutU_any vn _ (by unfold B64; omega)).mono ?_
  rintro e wa5 ⟨P5, m5, d5, rfl, oP5, bP5⟩
  obtain rfl : (putU vn).length = m5 := oP5.len
  have HB5 := Lib.hid (HA4.out.below bP5)
  have rP5 := oP5.rd
  clear oP5 bP5 HA4 hc
  go_wp2_with (at_builtin; refine wpList_appX _ rfl _ _ 29 rfl w0.heap.size 5 Tryz.underlying29 info_u8 A4 _ _ _ rfl HB5.out.2.2.1 P5 (putU vn).length d5 (putU vn) rfl rP5 ?_ ?_ ?_)
  · omega
  · exact HB5.out.2.2.2.2.size
  intro A5 c5 w5 o5 g5
  have HA5 := Lib.hid (HB5.out.app o5 g5)
  have hc := HA5.out.1.c4
  rw [hg] at hc
  clear o5 g5 HB5 rP5
  have rd6 := R0.out _ HA5.out.2.2.2.2
  go_wp2_with (at_builtin; refine wpList_appX _ rfl _ _ 29 rfl w0.heap.size 5 Tryz.underlying29 info_u8 A5 _ _ _ rfl HA5.out.2.2.1 (cutA K s kc) z (kc - s) (x.key.drop s) rfl rd6 ?_ ?_ ?_)
  · omega
  · exact HA5.out.2.2.2.2.size
  intro A6 c6 w6 o6 g6
  have HA6 := Lib.hid (HA5.out.app o6 g6)
  have hc := HA6.out.1.c4
  rw [hg] at hc
  have rd7 := R3.out.below HA6.out.2.2.2.2
  clear o6 g6 HA5 rd6
  go_wp2_with (at_builtin; refine wpList_appX _ rfl _ _ 29 rfl w0.heap.size 5 Tryz.underlying29 info_u8 A6 _ _ _ rfl HA6.out.2.2.1 V vn vc x.val rfl rd7 ?_ ?_ ?_)
  · omega
  · exact HA6.out.2.2.2.2.size
  intro A7 c7 w7 o7 g7
  have HA7 := Lib.hid (HA6.out.app o7 g7)
  clear o7 g7 HA6 rd7 hc
  go_wp2_with fail
  go_ret
  obtain ⟨_, _, o, gr, _⟩ := HA7.out
  have hl : (entB s x).length = (putU s).length + (putU z).length + (putU x.seq).length + 1 + (putU vn).length + z + vn := by
    rw [HE.out]
    simp only [List.length_append, List.length_cons, List.length_nil, HDL.out, HL2.out]
    omega
  have hn : n + (entB s x).length = (((((n + (putU s).length) + (putU z).length) + (putU x.seq).length) + 1) + (putU vn).length) + z + vn := by omega
  have hxs : xs ++ entB s x = (((((xs ++ putU s) ++ putU z) ++ putU x.seq) ++ [bt x.kind]) ++ putU vn) ++ x.key.drop s ++ x.val := by
    rw [HE.out]
    simp only [List.append_assoc]
  unfold RetAp
  rw [hn, hxs]
  simp only [List.append_assoc] at o ⊢
  exact ⟨A7, c7, rfl, o, gr⟩
end Go.Proofs.YtbgelbdnkbhffaaGreat
namespace Go.Proofs.YtbgelbdnkbhffaaGreat
open Go Go.RowKit

set_option maxRecDepth 100000 in
set_option maxHeartbeats 2000000 in
theorem growNil_any (n : Nat) (w : World) (hn : n ≤ 1099511627776) : Calls Tryz.prog 242 #[.slice none 0 0, .int .i64 (n : Int)] w fun e w' => ∃ A c, e = .returned (.slice A 0 c) ∧ Own 5 w' w.heap.size A 0 c [] ∧ Below w.heap.size w w' := by
  obtain ⟨i0, hi0, z1, z2, z3⟩ := info_parts info_u8
  by_cases h0 : n = 0
  · subst h0
    go_enter Tryz.func242, Tryz.ntmps242
    go_wp2_with fail
    go_ret
    exact ⟨none, 0, rfl, Own.nil _ _ _, Below.refl _ _⟩
  · have hpos : 0 < n := by omega
    have hpi : ¬ ((n : Int) ≤ 0) := by omega
    have hpi2 : (0 : Int) < (n : Int) := by omega
    have hap := Lib.run_append_nil_zeros (P := Tryz.prog) w 29 3 29 5 i0 (.int .u8 0) .i64 .i64 Tryz.underlying29 Tryz.underlying3 hi0 z1 n hpos (by rw [z2]; omega) (by omega) (by rw [z3]; omega)
    have hcap := grownCap_ge w n 0 5
    have hcm := grownCap_le_maxLen w n 0 5 (by unfold maxLen; omega)
    obtain ⟨cap, hcp⟩ : ∃ cap, cap = grownCap w n 0 5 := ⟨_, rfl⟩
    rw [← hcp] at hap hcap hcm
    obtain ⟨cells, hce⟩ : ∃ cells, cells = Builtin.zeroCells (Value.int .u8 0).cells n ++ Builtin.zeroCells (Value.int .u8 0).cells (cap - n) := ⟨_, rfl⟩
    rw [← hce] at hap
    have hcs : cells.size = cap := by
      rw [hce]
      simp [Builtin.zeroCells, Value.cells]
      omega
    have HAP := Lib.hid hap
    have HCS := Lib.hid hcs
    have hsl : ∀ w, (Instr.slice 29 (.slice (some ⟨w.heap.size, 0, none⟩) n cap) none (some (.int .i64 0)) none).run Tryz.prog w = .ok (.slice (some ⟨w.heap.size, 0, none⟩) 0 cap) w := fun w =>
      cut_h (m := 0) Tryz.underlying29 elem_bytes size_u8 (some ⟨w.heap.size, 0, none⟩) (by omega) w
    clear hap hcs hce hcp
    go_enter Tryz.func242, Tryz.ntmps242
    go_wp2_with (at_builtin; refine Lib.wpList_append_run _ rfl _ _ _ _ rfl _ _ rfl rfl _ _ HAP.out ?_)
    go_wp2_with fail
    go_ret
    refine ⟨_, cap, rfl, ⟨rfl, .inr ⟨w.heap.size, cap, cells, rfl, Nat.le_refl _, ?_, Nat.zero_le _, hcm, by rw [HCS.out, Nat.mul_one], by simp⟩⟩, ?_⟩
    · have := heap_alloc_new w.drew (.cells cells 5)
      exact this
    · exact (Below.refl _ _).drew.alloc (Nat.le_refl _) _
set_option maxRecDepth 100000 in
set_option maxHeartbeats 4000000 in
theorem Concat_any (A : Option Addr) (n c : Nat) (xss : List (List UInt8)) (w : World) (hx : RdL w A n xss) (ht : tot xss ≤ 268435456) :
    Calls Tryz.prog 237 #[.slice A n c] w (Made w.heap.size w xss.flatten) := by
  have HXL := Lib.hid hx.len
  have hnl := tot_len xss
  have hnn : n ≤ 268435456 := by have := hx.len; omega
  have hfl := flat_len xss
  have HT := Lib.hid ht
  have HX := Lib.hid hx
  have HFT : Hid (∀ k, (xss.take k).flatten.length ≤ 268435456) := Lib.hid (fun k => by have := flat_take_le xss k; omega)
  clear ht hx hnl hfl
  go_enter Tryz.func237, Tryz.ntmps237
  go_wp2_with fail
  go_loopw [3, 11] (fun s3 s11 wr => ∃ (k z : Nat), k ≤ n ∧ s11 = .int .i64 (k : Int) ∧ z = (xss.take k).flatten.length ∧ s3 = .int .i64 (z : Int) ∧ wr = w) (fun _ s _ => n - (intOf s).toNat)
  case atStart => exact ⟨0, 0, Nat.zero_le _, rfl, rfl, rfl, rfl⟩
  case round =>
    obtain ⟨k, z, hk, rfl, hz, rfl, rfl⟩ := hrel
    have hz2 : z ≤ 268435456 := by rw [hz]; exact HFT.out k
    have HZ := Lib.hid hz
    clear hz
    by_cases hlt : k < n
    · obtain ⟨b, off, hA, hbl, hel⟩ := HX.out.2 (by omega)
      subst hA
      obtain ⟨xs, hxs⟩ : ∃ xs, xss[k]? = some xs := ⟨_, List.getElem?_eq_getElem (by have := HXL.out; omega)⟩
      obtain ⟨v, hv, K, kn, kc, rfl, hrK, _⟩ := hel k xs hxs
      obtain ⟨z2, hz2'⟩ : ∃ z2, z2 = z + kn := ⟨_, rfl⟩
      have hzz : z2 = (xss.take (k + 1)).flatten.length := by rw [flat_snoc hxs, List.length_append, ← HZ.out, hrK.len, hz2']
      have hz3 : z2 ≤ 268435456 := by rw [hzz]; exact HFT.out (k + 1)
      have e1 : IntKind.i64.wrap ((z : Int) + (kn : Int)) = (z2 : Int) := by rw [IntWalk.i64_in _ (by omega)]; omega
      have hkn : kn ≤ 268435456 := by omega
      have HZZ := Lib.hid hzz
      have HZ2 := Lib.hid hz2'
      clear hel hxs hrK hzz hz2'
      go_wp2_with fail
      go_roundw
      case rel => exact ⟨k + 1, z2, by omega, by go_num, HZZ.out, by first | rfl | go_num | (rw [e1]), by first | trivial | rfl⟩
      case measure => simp [intOf]; omega
    · obtain rfl : k = n := by omega
      obtain ⟨w0, rfl⟩ : ∃ w0, w0 = wr := ⟨_, rfl⟩
      have HG := Lib.hid (growNil_any z w0 (by omega))
      go_wp2_with fail
      with_reducible refine HG.out.mono ?_
      rintro e w1 ⟨G, gc, rfl, oG, bG⟩
      have HOG := Lib.hid (And.intro oG bG)
      clear oG bG HG
      go_wp2_with fail
      go_loopw [6, 27] (fun s6 s27 wx => ∃ (j m d : Nat) (L : Option Addr), j ≤ k ∧ s27 = .int .i64 (j : Int) ∧ s6 = .slice L m d ∧ Own 5 wx w0.heap.size L m d (xss.take j).flatten ∧ Below w0.heap.size w0 wx) (fun _ s _ => k - (intOf s).toNat)
      case atStart => exact ⟨0, 0, gc, G, Nat.zero_le _, rfl, rfl, HOG.out.1, HOG.out.2⟩
      case round =>
        obtain ⟨j, m, d, L, hj, rfl, rfl, oL, bL⟩ := hrel
        have hml := oL.len
        have hm2 : m ≤ 268435456 := by have := HFT.out j; omega
        have hsz := bL.size
        by_cases hjk : j < k
        · obtain ⟨b, off, hA, hbl, hel⟩ := HX.out.2 (by omega)
          subst hA
          obtain ⟨xs, hxs⟩ : ∃ xs, xss[j]? = some xs := ⟨_, List.getElem?_eq_getElem (by have := HXL.out; omega)⟩
          obtain ⟨v, hv, K, kn, kc, rfl, hrK, _⟩ := hel j xs hxs
          have hv2 : wr.cell? ⟨b, off + j, none⟩ = some (.slice K kn kc) := (bL.cell (p := ⟨b, off + j, none⟩) hbl).trans hv
          have hrK2 := hrK.below bL
          have hkn : kn ≤ 268435456 := by
            have h1 := HFT.out (j + 1)
            rw [flat_snoc hxs, List.length_append, hrK.len] at h1
            omega
          have HFS := Lib.hid (flat_snoc hxs)
          have BL := Lib.hid bL
          clear hel hxs hrK hv bL hml
          go_wp2_with (at_builtin; refine wpList_app _ rfl _ _ 29 rfl w0.heap.size 5 Tryz.underlying29 info_u8 L m d _ rfl oL K kn kc xs rfl hrK2 ?_ ?_ ?_)
          · omega
          · exact hsz
          intro L2 d2 w3 o3 b3
          have H3 := Lib.hid (And.intro o3 (BL.out.trans b3))
          clear oL o3 b3 hrK2
          go_wp2_with fail
          go_roundw
          case rel => exact ⟨j + 1, m + kn, d2, L2, by omega, by go_num, rfl, by rw [HFS.out]; exact H3.out.1, H3.out.2⟩
          case measure => simp [intOf]; omega
        · obtain rfl : j = k := by omega
          rw [List.take_of_length_le (by have := HXL.out; omega)] at oL
          have HF := Lib.hid (And.intro oL bL)
          clear oL bL hml
          go_wp2_with fail
          go_ret
          exact ⟨L, m, d, rfl, HF.out.1, HF.out.2⟩
end Go.Proofs.YtbgelbdnkbhffaaGreat
namespace Go.Proofs.YtbgelbdnkbhffaaGreat
open Go Go.RowKit

/-- A filter of its own, or none. -/
def RetUn (w : World) (u : List UInt8) (e : Ending) (w' : World) : Prop := ∃ A c, e = .returned (.tuple #[.slice A u.length c, .int .i64 0]) ∧ Own 5 w' w.heap.size A u.length c u ∧ Below w.heap.size w w'
theorem setB_eq {fs : List UInt8} {b : Nat} : setB fs b = ((fs[b / 8]?.getD 0).toNat.testBit (b % 8)) := by
  unfold setB
  cases h : fs[b / 8]? with
  | none => simp
  | some x => simp [Nat.testBit_eq_decide_div_mod_eq]
end Go.Proofs.YtbgelbdnkbhffaaGreat
namespace Go.Proofs.YtbgelbdnkbhffaaGreat
open Go Go.RowKit

theorem cutA_none {A : Option Addr} {k c : Nat} (hnil : A = none → c = 0) (hk : k ≤ c) : cutA A k c = none → c - k = 0 := fun h => by
  unfold cutA at h
  split at h
  · have := hnil h; omega
  · cases A with
    | none => have := hnil rfl; omega
    | some a => cases h

set_option maxRecDepth 100000 in
set_option maxHeartbeats 2000000 in
theorem Open_any (A : Option Addr) (n c : Nat) (z : Int) (xs : List UInt8) (w : World) (hx : Rd w A n xs) (hn : n ≤ 1099511627776) (hcap : n ≤ c) (hnil : A = none → c = 0) (hz : I64 z) :
    Calls Tryz.prog 134 #[.slice A n c, .int .i64 z] w (RetO w.heap.size w (openG xs z)) := by
  have HL := Lib.hid hx.len
  by_cases hneg : z < 0
  · have G := Lib.hid (openG_arg (xs := xs) (.inl hneg))
    go_enter Tryz.func134, Tryz.ntmps134
    have h1 : decide (z < 0) = true := by simpa using hneg
    go_wp2
    go_ret3
    exact RetO_none G.out (Below.refl _ _)
  · have h1 : decide (z < 0) = false := by simpa using hneg
    by_cases hbig : (n : Int) < z
    · have G := Lib.hid (openG_arg (xs := xs) (.inr (by rw [HL.out]; exact hbig)))
      have h2 : decide ((n : Int) < z) = true := by simpa using hbig
      go_enter Tryz.func134, Tryz.ntmps134
      go_wp2
      go_ret3
      exact RetO_none G.out (Below.refl _ _)
    · obtain ⟨a, rfl⟩ : ∃ a : Nat, z = a := ⟨z.toNat, by omega⟩
      have han : a ≤ n := by omega
      have h2 : decide (n < a) = false := by simp; omega
      clear hbig hneg h1 hz
      have hsl : ∀ w, (Instr.slice 29 (.slice A n c) (some (.int .i64 (a : Int))) none none).run Tryz.prog w = .ok (.slice (cutA A a c) (n - a) (c - a)) w :=
        cut_l Tryz.underlying29 elem_bytes size_u8 A han
      have hr : Rd w (cutA A a c) (n - a) (xs.drop a) := by
        have h := hx.cut (k := a) (m := n) han (Nat.le_refl _) hcap
        rw [List.take_of_length_le (by rw [HL.out]; omega)] at h
        exact h
      have hRnil := cutA_none hnil (show a ≤ c by omega)
      obtain ⟨R, hR⟩ : ∃ R, R = cutA A a c := ⟨_, rfl⟩
      obtain ⟨N, hN⟩ : ∃ N, N = n - a := ⟨_, rfl⟩
      obtain ⟨K, hK⟩ : ∃ K, K = c - a := ⟨_, rfl⟩
      obtain ⟨rs, hrs⟩ : ∃ rs, rs = xs.drop a := ⟨_, rfl⟩
      rw [← hR, ← hN, ← hK] at hsl
      rw [← hR, ← hK] at hRnil
      rw [← hR, ← hN, ← hrs] at hr
      have hNK : N ≤ K := by omega
      have hNa : n = a + N := by omega
      have HRN := Lib.hid hRnil
      have HRS := Lib.hid hrs
      have HNA := Lib.hid hNa
      have hN40 : N ≤ 1099511627776 := by omega
      have ha40 : a ≤ 1099511627776 := by omega
      clear hnil hRnil hR hN hK hrs hNa hcap
      by_cases h8 : N < 8
      · have G := Lib.hid (openG_end (xs := xs) HL.out han (by have := HNA.out; omega))
        have h3 : decide (N < 8) = true := by simpa using h8
        go_enter Tryz.func134, Tryz.ntmps134
        go_wp2
        go_ret3
        exact RetO_none G.out (Below.refl _ _)
      · have h3 : decide (N < 8) = false := by simpa using h8
        have hs4 : ∀ w, (Instr.slice 29 (.slice R N K) (some (.int .i64 4)) none none).run Tryz.prog w = .ok (.slice (cutA R 4 K) (N - 4) (K - 4)) w :=
          cut_l Tryz.underlying29 elem_bytes size_u8 R (k := 4) (by omega)
        have hr4 : Rd w (cutA R 4 K) (N - 4) (rs.drop 4) := by
          have h := hr.cut (k := 4) (m := N) (by omega) (Nat.le_refl _) hNK
          rw [List.take_of_length_le (by rw [hr.len]; omega)] at h
          exact h
        have HG1 : Hid (∀ w', Rd w' R N rs → Calls Tryz.prog 179 #[.slice R N K] w' fun e w'' => e = .returned (.int .u32 (numK rs 4 : Int)) ∧ ∃ q, w'' = w'.drewN q) := Lib.hid (fun w' h => (getWord_any R N K rs w' h (by omega) hN40 hNK).mono fun _ _ h => h)
        have HG2 : Hid (∀ w', Rd w' (cutA R 4 K) (N - 4) (rs.drop 4) → Calls Tryz.prog 179 #[.slice (cutA R 4 K) (N - 4) (K - 4)] w' fun e w'' => e = .returned (.int .u32 (numK (rs.drop 4) 4 : Int)) ∧ ∃ q, w'' = w'.drewN q) := Lib.hid (fun w' h => (getWord_any _ _ _ _ w' h (by omega) (by omega) (by omega)).mono fun _ _ h => h)
        obtain ⟨R4, hR4⟩ : ∃ R4, R4 = cutA R 4 K := ⟨_, rfl⟩
        obtain ⟨N4, hN4⟩ : ∃ N4, N4 = N - 4 := ⟨_, rfl⟩
        obtain ⟨K4, hK4⟩ : ∃ K4, K4 = K - 4 := ⟨_, rfl⟩
        rw [← hR4, ← hN4, ← hK4] at hs4 HG2
        rw [← hR4, ← hN4] at hr4
        clear hR4 hN4 hK4
        obtain ⟨m, hm⟩ : ∃ m, m = numK rs 4 := ⟨_, rfl⟩
        obtain ⟨sm, hsm⟩ : ∃ sm, sm = numK (rs.drop 4) 4 := ⟨_, rfl⟩
        have hm32 : m < 4294967296 := by rw [hm]; exact numK_lt rs 4
        have hsm32 : sm < 4294967296 := by rw [hsm]; exact numK_lt _ 4
        rw [← hm] at HG1
        rw [← hsm] at HG2
        have Hm := Lib.hid hm
        have Hsm := Lib.hid hsm
        have HM : Hid (m = numK (xs.drop a) 4) := Lib.hid (by rw [hm, HRS.out])
        clear hm hsm
        go_enter Tryz.func134, Tryz.ntmps134
        go_wp2
        go_quiet ((first | (go_at_call 179; with_reducible exact Calls.quiet_of (HG1.out _ (hr.drewN _))) | (go_at_call 179; with_reducible exact Calls.quiet_of (HG2.out _ (hr4.drewN _)))))
        obtain ⟨W, hW⟩ : ∃ W, W = w.drewN nq := ⟨_, rfl⟩
        have hrW : Rd W R N rs := by rw [hW]; exact hr.drewN _
        have hb0 : Below w.heap.size w W := by rw [hW]; exact below_drewN (Below.refl _ _) _
        rw [← hW]
        clear hW HG1 HG2 hs4 hr4 hsl hr h2
        have hi0 : IntKind.i64.wrap (m : Int) = (m : Int) := IntWalk.i64_in _ (by omega)
        by_cases hsz : 1048576 < m
        · have G := Lib.hid (openG_size (xs := xs) HL.out (by have := HNA.out; omega) HM.out hsz)
          have h4 : decide (1048576 < m) = true := by simpa using hsz
          go_wp2
          go_ret3
          exact RetO_none G.out hb0
        · have h4 : decide (1048576 < m) = false := by simpa using hsz
          by_cases hcut : N < 8 + m
          · have G := Lib.hid (openG_cut (xs := xs) HL.out (by have := HNA.out; omega) HM.out hsz (by have := HNA.out; omega))
            have h5 : decide ((N : Int) < 8 + (m : Int)) = true := by simp; omega
            go_wp2
            go_ret3
            exact RetO_none G.out hb0
          · have h5 : decide ((N : Int) < 8 + (m : Int)) = false := by simp; omega
            have hsi : ∀ w, (Instr.slice 29 (.slice R N K) (some (.int .i64 8)) (some (.int .i64 (8 + (m : Int)))) none).run Tryz.prog w = .ok (.slice (cutA R 8 K) m (K - 8)) w := fun w => by
              have h := cut_lh Tryz.underlying29 elem_bytes size_u8 R (n := N) (cap := K) (k := 8) (m := 8 + m) (by omega) (by omega) w
              rw [Nat.add_sub_cancel_left] at h
              exact h
            have hsh : ∀ w, (Instr.slice 29 (.slice R N K) none (some (.int .i64 4)) none).run Tryz.prog w = .ok (.slice R 4 K) w :=
              cut_h Tryz.underlying29 elem_bytes size_u8 R (m := 4) (by omega)
            have hri : Rd W (cutA R 8 K) m ((rs.take (8 + m)).drop 8) := by
              have h := hrW.cut (k := 8) (m := 8 + m) (by omega) (by omega) hNK
              rw [Nat.add_sub_cancel_left] at h
              exact h
            have hrh : Rd W R 4 (rs.take 4) := by
              have h := hrW.cut (k := 0) (m := 4) (by omega) (by omega) hNK
              rw [List.drop_zero] at h
              have e : cutA R 0 K = R := by
                unfold cutA
                rw [if_neg (by omega)]
                cases R <;> simp [Addr.add]
              rw [e] at h
              exact h
            have hin : cutA R 8 K = none → K - 8 = 0 := cutA_none HRN.out (by omega)
            have hR0 : R = none → K = 0 := HRN.out
            obtain ⟨I, hI⟩ : ∃ I, I = cutA R 8 K := ⟨_, rfl⟩
            obtain ⟨KI, hKI⟩ : ∃ KI, KI = K - 8 := ⟨_, rfl⟩
            have hmKI : m ≤ KI := by omega
            obtain ⟨bd, hbd⟩ : ∃ bd, bd = (rs.take (8 + m)).drop 8 := ⟨_, rfl⟩
            rw [← hI, ← hKI] at hsi hin
            rw [← hI, ← hbd] at hri
            have hbl := hri.len
            have hhl := hrh.len
            have hrl := hrW.len
            have hwe := whole_eq Hm.out (by rw [hrl]; omega)
            have e1 : (xs.take (a + 8 + m)).drop (a + 8) = bd := by
              rw [hbd, HRS.out, List.drop_take, List.drop_take, List.drop_drop, show a + 8 + m - (a + 8) = m by omega, show 8 + m - 8 = m by omega]
            have e2 : (xs.take (a + 8 + m)).drop a = rs.take (8 + m) := by
              rw [HRS.out, List.drop_take, show a + 8 + m - a = 8 + m by omega]
            have G := Lib.hid (openG_whole (xs := xs) HL.out HM.out hsz (by have := HNA.out; omega))
            rw [e1, e2] at G
            rw [← hbd, ← Hsm.out] at hwe
            have hap : a + (8 + m) = a + 8 + m := by omega
            have HAP := Lib.hid hap
            obtain ⟨zc, hzc⟩ : ∃ zc, zc = crcB (rs.take 4 ++ bd) := ⟨_, rfl⟩
            have hfl : [rs.take 4, bd].flatten = rs.take 4 ++ bd := by simp
            have HZC : Hid (crcB [rs.take 4, bd].flatten = zc) := Lib.hid (by rw [hfl, hzc])
            rw [← hzc] at hwe
            have hRa : R ≠ none := fun e => by have := hR0 e; omega
            have hts : tot [rs.take 4, bd] ≤ 1099511627776 := by simp only [tot, hhl, hbl]; omega
            have hL2 : RdL (W.alloc (.cells #[.slice R 4 K, .slice I m KI] 29)) (some ⟨W.heap.size, 0, none⟩) 2 [rs.take 4, bd] :=
              rdl_two ⟨R, 4, K, rfl, hrh, by omega, fun e => absurd e hRa⟩ ⟨I, m, KI, rfl, hri, hmKI, hin⟩ _ rfl
            have HIN := Lib.hid hin
            have HL2 := Lib.hid hL2
            clear hI hKI hbd hzc hfl e1 e2 hrW hrh hRa hap hL2 hin
            go_wp2_with fail
            have HS := Sum_any (some ⟨W.heap.size, 0, none⟩) 2 2 [rs.take 4, bd] _ HL2.out hts
            rw [HZC.out] at HS
            refine HS.mono ?_
            clear HS
            rintro e w1 ⟨rfl, hb1⟩
            have hb1 : Below W.heap.size W w1 := ((Below.refl _ _).alloc (Nat.le_refl _) _).trans (hb1.mono (by simp))
            have hr1 := hri.below hb1
            have hbw1 := hb0.trans (hb1.mono hb0.size)
            by_cases hsum : zc = sm
            · have F := Lib.hid (G.out.trans (if_pos (hwe.2 hsum)))
              have hne : ((zc : Int) != (sm : Int)) = false := by rw [hsum]; simp
              go_wp2_with fail
              refine (Clone_any I m KI bd _ hr1 (by omega) HIN.out).mono ?_
              rintro e w2 ⟨B, bn, bc, rfl, oB, hb2⟩
              go_wp2
              go_ret3
              have hbn : bn = m := by rw [← oB.len, hbl]
              subst hbn
              refine ⟨B, bn, bc, by rw [F.out, ← HAP.out]; rfl, ?_, hbw1.trans (hb2.mono hbw1.size)⟩
              rw [F.out]
              exact oB.mono hbw1.size
            · have F := Lib.hid (G.out.trans (if_neg (fun h => hsum (hwe.1 h))))
              have hne : ((zc : Int) != (sm : Int)) = true := by simp; omega
              go_wp2
              go_ret3
              exact RetO_none F.out hbw1
end Go.Proofs.YtbgelbdnkbhffaaGreat
namespace Go.Proofs.YtbgelbdnkbhffaaGreat
open Go Go.RowKit Go.Maps

abbrev FE := List UInt8 × List UInt8 × Nat
def risingF (fs : List FE) : Prop := fs.Pairwise fun a b => a.1 < b.1
/-- The disk as plain data: files by rising names, room, armed with (-1: not), dead. -/
structure DS where
  fs : List FE
  room : Nat
  arm : Int
  dead : Bool

def Sp (a b : FR) : Prop := ∀ x ∈ a.bl, x ∉ b.bl
theorem Sp.symm {a b : FR} (h : Sp a b) : Sp b a := fun x h1 h2 => h x h2 h1
/-- 'No two blocks of the disk are the same.' -/
def SepR (p : Nat) (m : Option Nat) (rs : List FR) : Prop :=
  (∀ r ∈ rs, p ∉ r.bl ∧ (∀ b, m = some b → b ∉ r.bl) ∧ blk r.A ≠ some r.fb) ∧ (∀ b, m = some b → b ≠ p) ∧ rs.Pairwise Sp
def headV (m : Option Nat) (room used left : Int) (dead armed : Bool) : Array Value := #[.map m, .int .i64 room, .int .i64 used, .bool dead, .bool armed, .int .i64 left]
/-- The disk's blocks, written out. -/
def DskR (w : World) (p : Nat) (m : Option Nat) (rs : List FR) (room used left : Int) (dead armed : Bool) : Prop :=
  w.heap[p]? = some (.cells (headV m room used left dead armed) 115 (0, 0)) ∧ MapAt w m rs ∧ (∀ r ∈ rs, FileAt w r) ∧ SepR p m rs
section
variable {w w' : World} {p : Nat} {m : Option Nat} {rs : List FR} {room used left : Int} {dead armed : Bool} {bl : List Nat}
theorem DskR.head (h : DskR w p m rs room used left dead armed) : w.cell? ⟨p, 0, none⟩ = some (.map m) ∧ w.cell? ⟨p, 1, none⟩ = some (.int .i64 room) ∧ w.cell? ⟨p, 2, none⟩ = some (.int .i64 used) ∧ w.cell? ⟨p, 3, none⟩ = some (.bool dead) ∧ w.cell? ⟨p, 4, none⟩ = some (.bool armed) ∧ w.cell? ⟨p, 5, none⟩ = some (.int .i64 left) := by
  have hc := fun i => cell_of_row w p i _ _ _ h.1
  exact ⟨hc 0, hc 1, hc 2, hc 3, hc 4, hc 5⟩
theorem DskR.thaw (h : DskR w p m rs room used left dead armed) (i : Nat) : w.frozen? ⟨p, i, none⟩ = false := frozen_of_row w p i _ _ h.1
theorem FileAt.cells {r : FR} (h : FileAt w r) : w.cell? ⟨r.fb, 0, none⟩ = some (.slice r.A r.dat.length r.c) ∧ w.cell? ⟨r.fb, 1, none⟩ = some (.int .i64 (r.saf : Int)) := by
  have hc := fun i => cell_of_row w r.fb i _ _ _ h.1
  exact ⟨hc 0, hc 1⟩
theorem FileAt.thaw {r : FR} (h : FileAt w r) (i : Nat) : w.frozen? ⟨r.fb, i, none⟩ = false := frozen_of_row w r.fb i _ _ h.1
theorem DskR.lt (h : DskR w p m rs room used left dead armed) : ∀ b ∈ allB p m rs, b < w.heap.size := fun b hb => by
  simp only [allB, List.mem_cons, List.mem_append, Option.mem_toList, List.mem_flatMap] at hb
  rcases hb with rfl | hb | ⟨r, hr, hb⟩
  · exact (Array.getElem?_eq_some_iff.1 h.1).1
  · exact h.2.1.lt b hb
  · exact (h.2.2.1 r hr).lt b hb
theorem mem_head : p ∈ allB p m rs := by simp [allB]
theorem mem_map {b : Nat} (h : m = some b) : b ∈ allB p m rs := by simp [allB, h]
theorem mem_file {r : FR} (hr : r ∈ rs) {b : Nat} (hb : b ∈ r.bl) : b ∈ allB p m rs := by
  simp only [allB, List.mem_cons, List.mem_append, List.mem_flatMap]
  exact .inr (.inr ⟨r, hr, hb⟩)
theorem DskR.fr (h : DskR w p m rs room used left dead armed) (hf : Fr w w' bl) (ho : ∀ b ∈ allB p m rs, b ∉ bl) : DskR w' p m rs room used left dead armed :=
  ⟨(hf.block p (Array.getElem?_eq_some_iff.1 h.1).1 (ho p mem_head)).trans h.1, h.2.1.fr hf (fun b hb => ho b (mem_map hb)), fun r hr => (h.2.2.1 r hr).fr hf (fun b hb => ho b (mem_file hr hb)), h.2.2.2⟩
/-- The head turned. -/
theorem DskR.turn {room' used' left' : Int} {dead' armed' : Bool} (h : DskR w p m rs room used left dead armed) (hf : Fr w w' [p]) (hp : w'.heap[p]? = some (.cells (headV m room' used' left' dead' armed') 115 (0, 0))) :
    DskR w' p m rs room' used' left' dead' armed' := by
  obtain ⟨h1, h2, h3, h4⟩ := h
  refine ⟨hp, h2.fr hf (fun b hb hm => ?_), fun r hr => (h3 r hr).fr hf (fun b hb hm => ?_), h4⟩
  · rw [List.mem_singleton] at hm
    exact h4.2.1 b hb hm
  · rw [List.mem_singleton] at hm
    subst hm
    exact (h4.1 r hr).1 hb
end

theorem MapAt.look_some {w : World} {m : Option Nat} {rs : List FR} (h : MapAt w m rs) {r : FR} (hr : r ∈ rs) (hl : r.name.length ≤ maxLen) :
    (Instr.lookup 113 (.map m) (.string (tx r.name)) false).run Tryz.prog w = .ok (.pointer (some ⟨r.fb, 0, none⟩)) w := by
  rcases h with ⟨_, rfl⟩ | ⟨b, Dm, rfl, ho, hm⟩
  · cases hr
  · obtain ⟨v, ps, hrun, hv⟩ := ho.lookup (t := 113) (e := 133) lawN Tryz.underlying113 (zeroP w) ptrEl_none (keyN hl)
    rw [hm.2.2 r hr] at hv
    rw [ptrEl_at hv] at hrun
    exact hrun
theorem MapAt.look_none {w : World} {m : Option Nat} {rs : List FR} (h : MapAt w m rs) {x : List UInt8} (hx : ∀ r ∈ rs, r.name ≠ x) (hl : x.length ≤ maxLen) :
    (Instr.lookup 113 (.map m) (.string (tx x)) false).run Tryz.prog w = .ok (.pointer none) w := by
  rcases h with ⟨rfl, rfl⟩ | ⟨b, Dm, rfl, ho, hm⟩
  · exact Maps.look_nil false lawN Tryz.underlying113 (zeroP w) (keyN hl)
  · obtain ⟨v, ps, hrun, hv⟩ := ho.lookup (t := 113) (e := 133) lawN Tryz.underlying113 (zeroP w) ptrEl_none (keyN hl)
    have hn : has Dm (.string x) = false := by
      rw [hm.2.1, List.any_eq_false]
      intro r hr
      simpa using hx r hr
    rw [atKey_of_not_has hn] at hv
    rw [ptrEl_nil hv] at hrun
    exact hrun

set_option maxRecDepth 100000 in
set_option maxHeartbeats 1000000 in
theorem find_none {w : World} {p : Nat} {m : Option Nat} {rs : List FR} {room used left : Int} {armed : Bool} (x : List UInt8) (h : DskR w p m rs room used left false armed) (hx : ∀ r ∈ rs, r.name ≠ x) (hl : x.length ≤ maxLen) :
    Calls Tryz.prog 74 #[.pointer (some ⟨p, 0, none⟩), .string (tx x)] w fun e w' => e = .returned (.tuple #[.pointer none, .int .i64 6]) ∧ w = w' := by
  obtain ⟨c0, c1, c2, c3, c4, c5⟩ := h.head
  have hlk := h.2.1.look_none hx hl
  clear hx hl
  go_enter Tryz.func74, Tryz.ntmps74
  go_wp2
  go_ret2
  exact ⟨rfl, rfl⟩
set_option maxRecDepth 100000 in
set_option maxHeartbeats 1000000 in
theorem find_some {w : World} {p : Nat} {m : Option Nat} {rs : List FR} {room used left : Int} {armed : Bool} {r : FR} (h : DskR w p m rs room used left false armed) (hr : r ∈ rs) (hl : r.name.length ≤ maxLen) :
    Calls Tryz.prog 74 #[.pointer (some ⟨p, 0, none⟩), .string (tx r.name)] w fun e w' => e = .returned (.tuple #[.pointer (some ⟨r.fb, 0, none⟩), .int .i64 0]) ∧ w = w' := by
  obtain ⟨c0, c1, c2, c3, c4, c5⟩ := h.head
  have hlk := h.2.1.look_some hr hl
  clear hl
  go_enter Tryz.func74, Tryz.ntmps74
  go_wp2
  go_ret2
  exact ⟨rfl, rfl⟩
end Go.Proofs.YtbgelbdnkbhffaaGreat
namespace Go.Proofs.YtbgelbdnkbhffaaGreat
open Go Go.RowKit

/-- The same key and number. -/
def sameK (x e : En) : Bool := eqB x.key e.key && decide (x.seq = e.seq)
def inL (es : List En) (e : En) : Bool := es.any (fun x => sameK x e)
theorem inL_at {es : List En} {e x : En} {k : Nat} (hx : es[k]? = some x) (h : sameK x e = true) : inL es e = true := List.any_eq_true.2 ⟨x, List.mem_of_getElem? hx, h⟩
theorem inL_snoc {es : List En} {e x : En} {k : Nat} (hx : es[k]? = some x) (h : inL (es.take k) e = false) (hk : sameK x e = false) : inL (es.take (k + 1)) e = false := by
  rw [List.take_add_one, hx]
  unfold inL at h ⊢
  rw [List.any_append, h]
  simp [hk]
set_option maxRecDepth 100000 in
set_option maxHeartbeats 4000000 in
theorem In_any {w : World} {A : Option Addr} {n c : Nat} {es : List En} {e : En} {v0 v1 v2 v3 : Value} (h : REs w A n es) (hn : n ≤ 1099511627776) (hs : ∀ x ∈ es, SzE x) (he : EV w e v0 v1 v2 v3) (se : SzE e) :
    Calls Tryz.prog 52 #[.slice A n c, .agg #[v0, v1, v2, v3]] w (RetT w (inL es e)) := by
  obtain ⟨K, kn, kc, V, vn, vc, rfl, rfl, rfl, rfl, r0, _⟩ := he.parts
  obtain ⟨U, hU⟩ : ∃ U, U = w.alloc (.cells #[.slice K kn kc, .int .u64 (e.seq : Int), .int .u8 (e.kind : Int), .slice V vn vc] 49) := ⟨_, rfl⟩
  have bU : Below w.heap.size w U := by rw [hU]; exact (Below.refl _ _).alloc (Nat.le_refl _) _
  have XU := Lib.hid (show Cl U w.heap.size #[.slice K kn kc, .int .u64 (e.seq : Int), .int .u8 (e.kind : Int), .slice V vn vc] 49 by rw [hU]; exact Cl.new _ _ _)
  have hk : kn ≤ maxLen := maxLen_e (by rw [← r0.len]; exact se.1)
  have HK := Lib.hid (r0.below bU)
  have H1 := Lib.hid (h.below bU)
  have HLN := Lib.hid h.len
  have HS := Lib.hid hs
  have BU := Lib.hid bU
  clear h hs he r0 bU
  go_enter Tryz.func52, Tryz.ntmps52
  go_upto_block 1 with fail
  rw [← hU]
  clear hU
  go_wp2_with fail
  go_loopw [5] (fun s5 wr => ∃ k : Nat, k ≤ n ∧ s5 = .int .i64 (k : Int) ∧ inL (es.take k) e = false ∧ Below U.heap.size U wr) (fun s _ => n - (intOf s).toNat)
  case atStart => exact ⟨0, Nat.zero_le _, rfl, rfl, Below.refl _ _⟩
  case round =>
    obtain ⟨k, hk', rfl, hin, hB⟩ := hrel
    have HB := Lib.hid hB
    have HIN := Lib.hid hin
    have XR := Lib.hid (XU.out.below hB)
    have HKR := Lib.hid (HK.out.below hB)
    have hR := H1.out.below hB
    clear hB hin
    by_cases hlt : k < n
    · obtain ⟨b, off, hAb, hbl⟩ := hR.pos (by omega)
      subst hAb
      obtain ⟨x, u0, u1, u2, u3, hx, c0, c1, c2, c3, hev⟩ := hR.at_ k hlt
      obtain ⟨L, ln, lc, M, mn, mc, rfl, rfl, rfl, rfl, q0, _⟩ := hev.parts
      have hsx := HS.out x (List.mem_of_getElem? hx)
      have hln : ln ≤ maxLen := maxLen_e (by rw [← q0.len]; exact hsx.1)
      have HXK := Lib.hid hx
      obtain ⟨z, hz⟩ : ∃ z, z = eqB x.key e.key := ⟨_, rfl⟩
      have HE : Hid (∀ q, Calls Tryz.prog 16 #[.slice L ln lc, .slice K kn kc] (wr.drewN q) (RetB (wr.drewN q) z)) := Lib.hid (fun q => by rw [hz]; exact Equal_any _ _ _ _ _ _ x.key e.key _ (q0.drewN q) (HKR.out.drewN q) hln hk)
      have HSK : Hid (sameK x e = (z && decide (x.seq = e.seq))) := Lib.hid (by rw [hz]; rfl)
      obtain ⟨d0, d1, d2, d3, _⟩ := XR.out.c4
      clear hR hx hev q0 hz
      by_cases hsq : x.seq = e.seq
      · cases z with
        | true =>
          have HTR : Hid (inL es e = true) := Lib.hid (inL_at HXK.out (by rw [HSK.out]; simpa using hsq))
          go_wp2
          go_quiet ((go_at_call 16; with_reducible exact Calls.quiet_of (HE.out _)))
          have BN := Lib.hid (below_drewN (belowT' BU.out HB.out) nq)
          clear c0 c1 c2 c3 d0 d1 d2 d3
          go_wp2
          go_ret
          exact ⟨by rw [HTR.out]; rfl, BN.out⟩
        | false =>
          have HNX : Hid (inL (es.take (k + 1)) e = false) := Lib.hid (inL_snoc HXK.out HIN.out (by rw [HSK.out]; simp))
          go_wp2
          go_quiet ((go_at_call 16; with_reducible exact Calls.quiet_of (HE.out _)))
          have BN := Lib.hid (below_drewN HB.out nq)
          clear c0 c1 c2 c3 d0 d1 d2 d3
          go_wp2
          go_roundw
          case rel => exact ⟨k + 1, by omega, by go_num, HNX.out, BN.out⟩
          case measure => simp [intOf]; omega
      · cases z with
        | true =>
          have HNX : Hid (inL (es.take (k + 1)) e = false) := Lib.hid (inL_snoc HXK.out HIN.out (by rw [HSK.out]; simp; exact hsq))
          go_wp2
          go_quiet ((go_at_call 16; with_reducible exact Calls.quiet_of (HE.out _)))
          have BN := Lib.hid (below_drewN HB.out nq)
          clear c0 c1 c2 c3 d0 d1 d2 d3
          go_wp2
          go_roundw
          case rel => exact ⟨k + 1, by omega, by go_num, HNX.out, BN.out⟩
          case measure => simp [intOf]; omega
        | false =>
          have HNX : Hid (inL (es.take (k + 1)) e = false) := Lib.hid (inL_snoc HXK.out HIN.out (by rw [HSK.out]; simp))
          go_wp2
          go_quiet ((go_at_call 16; with_reducible exact Calls.quiet_of (HE.out _)))
          have BN := Lib.hid (below_drewN HB.out nq)
          clear c0 c1 c2 c3 d0 d1 d2 d3
          go_wp2
          go_roundw
          case rel => exact ⟨k + 1, by omega, by go_num, HNX.out, BN.out⟩
          case measure => simp [intOf]; omega
    · have htk : es.take k = es := List.take_of_length_le (by have := HLN.out; omega)
      have HFN : Hid (inL es e = false) := Lib.hid (by rw [← htk]; exact HIN.out)
      have BW := Lib.hid (belowT' BU.out HB.out)
      clear htk hR
      go_wp2
      go_ret
      exact ⟨by rw [HFN.out]; rfl, BW.out⟩
end Go.Proofs.YtbgelbdnkbhffaaGreat
namespace Go.Proofs.YtbgelbdnkbhffaaGreat
open Go Go.RowKit

/-- The least place at which p says yes. -/
def RetSe (w : World) (n : Nat) (p : Nat → Bool) (e : Ending) (w' : World) : Prop :=
  ∃ r : Nat, e = .returned (.int .i64 (r : Int)) ∧ r ≤ n ∧ (∀ t, t < r → p t = false) ∧ (∀ t, r ≤ t → t < n → p t = true) ∧ Below w.heap.size w w'
set_option maxRecDepth 100000 in
set_option maxHeartbeats 4000000 in
theorem search_any (g : Nat) (cb : Array Value) (n : Nat) (p : Nat → Bool) (w : World) (eg : ∀ args w, (callFunc g args).run Tryz.prog w = .ok (.enter g args) w) (hn : n ≤ 1099511627776)
    (hf : ∀ wx, Below w.heap.size w wx → ∀ i : Nat, i < n → Calls Tryz.prog g (#[.int .i64 (i : Int)] ++ cb) wx (RetT wx (p i)))
    (hmono : ∀ a b, a ≤ b → b < n → p a = true → p b = true) :
    Calls Tryz.prog 141 #[.int .i64 (n : Int), .func (.func g) #[] cb] w (RetSe w n p) := by
  have HF := Lib.hid hf
  have HM := Lib.hid hmono
  clear hf hmono
  go_enter Tryz.func141, Tryz.ntmps141
  go_wp2_with fail
  go_loopw [5, 6] (fun s5 s6 wr => ∃ lo hi : Nat, s5 = .int .i64 (lo : Int) ∧ s6 = .int .i64 (hi : Int) ∧ lo ≤ hi ∧ hi ≤ n ∧ (∀ t, t < lo → p t = false) ∧ (∀ t, hi ≤ t → t < n → p t = true) ∧ Below w.heap.size w wr) (fun s5 s6 _ => (intOf s6).toNat - (intOf s5).toNat)
  case atStart => exact ⟨0, n, rfl, rfl, Nat.zero_le _, Nat.le_refl _, fun t h => absurd h (Nat.not_lt_zero _), fun t h1 h2 => absurd h2 (by omega), Below.refl _ _⟩
  case round =>
    obtain ⟨lo, hi, rfl, rfl, h1, h2, h3, h4, hB⟩ := hrel
    have HB := Lib.hid hB
    have H3 := Lib.hid h3
    have H4 := Lib.hid h4
    clear hB h3 h4
    by_cases hlt : lo < hi
    · obtain ⟨m, hm⟩ : ∃ m, m = (lo + hi) / 2 := ⟨_, rfl⟩
      have e1 : ((lo : Int) + (hi : Int)) / 2 = (m : Int) := by omega
      have hmn : m < hi := by omega
      have hml : lo ≤ m := by omega
      have hc := HF.out wr HB.out m (by omega)
      cases hp : p m with
      | true =>
        rw [hp] at hc
        have HC := Lib.hid hc
        have HP := Lib.hid hp
        have HN : Hid (∀ t, m ≤ t → t < n → p t = true) := Lib.hid (fun t ht htn => HM.out m t ht htn HP.out)
        clear hc hp hm
        go_wp2_with fail
        with_reducible refine HC.out.mono ?_
        intro e w2 hq
        obtain ⟨he, b2⟩ := RetT.outD hq
        subst he
        have B2 := Lib.hid (HB.out.trans (b2.mono HB.out.size))
        clear hq b2
        go_wp2_with fail
        go_roundw
        case rel => exact ⟨lo, m, rfl, rfl, hml, by omega, H3.out, HN.out, B2.out⟩
        case measure => simp [intOf]; omega
      | false =>
        rw [hp] at hc
        have HC := Lib.hid hc
        have HP := Lib.hid hp
        have HN : Hid (∀ t, t < m + 1 → p t = false) := Lib.hid (fun t ht => by
          cases hq : p t with
          | false => rfl
          | true =>
            have := HM.out t m (by omega) (by omega) hq
            rw [HP.out] at this
            cases this)
        clear hc hp hm
        go_wp2_with fail
        with_reducible refine HC.out.mono ?_
        intro e w2 hq
        obtain ⟨he, b2⟩ := RetT.outD hq
        subst he
        have B2 := Lib.hid (HB.out.trans (b2.mono HB.out.size))
        clear hq b2
        go_wp2_with fail
        go_roundw
        case rel => exact ⟨m + 1, hi, by go_num, rfl, by omega, h2, HN.out, H4.out, B2.out⟩
        case measure => simp [intOf]; omega
    · obtain rfl : lo = hi := by omega
      go_wp2_with fail
      go_ret
      exact ⟨lo, rfl, h2, H3.out, H4.out, HB.out⟩
end Go.Proofs.YtbgelbdnkbhffaaGreat
namespace Go.Proofs.YtbgelbdnkbhffaaGreat
open Go Go.RowKit

inductive Tr where
  | nil : Tr
  | node : Tr → En → Tr → Tr
def Tr.ht : Tr → Nat
  | .nil => 0
  | .node l _ r => 1 + max l.ht r.ht
def Tr.num : Tr → Nat
  | .nil => 0
  | .node l _ r => l.num + 1 + r.num
def Tr.list : Tr → List En
  | .nil => []
  | .node l e r => l.list ++ e :: r.list
/-- 'These four values are the entry e; its bytes are the program's own and lie in good blocks.' -/
def EG (G : Nat → Prop) (w : World) (e : En) (v0 v1 v2 v3 : Value) : Prop :=
  EO 0 w e v0 v1 v2 v3 ∧ ∀ A m c g, Value.slice A m c ∈ [v0, v1, v2, v3] → blk A = some g → G g
/-- 'The entry e lies in the box at p.' -/
def EB (G : Nat → Prop) (w : World) (e : En) (p : Nat) : Prop := ∃ v0 v1 v2 v3, Cl w p #[v0, v1, v2, v3] 49 ∧ EG G w e v0 v1 v2 v3
/-- 'The pointer A leads to the tree t.' -/
def TrAt (G : Nat → Prop) (w : World) : Tr → Option Addr → Prop
  | .nil, A => A = none
  | .node l e r, A => ∃ b pe pl pr, A = some ⟨b, 0, none⟩ ∧ Cl w b #[.pointer (some ⟨pe, 0, none⟩), .pointer pl, .pointer pr, .int .i64 ((1 + max l.ht r.ht : Nat) : Int)] 228 ∧ EB G w e pe ∧ TrAt G w l pl ∧ TrAt G w r pr
section
variable {G : Nat → Prop} {w w' : World}
theorem EG.below {e : En} {v0 v1 v2 v3 : Value} (h : EG G w e v0 v1 v2 v3) (hb : Below w.heap.size w w') : EG G w' e v0 v1 v2 v3 := ⟨h.1.below hb, h.2⟩
theorem EB.below {e : En} {p : Nat} (h : EB G w e p) (hb : Below w.heap.size w w') : EB G w' e p := by
  obtain ⟨v0, v1, v2, v3, h1, h2⟩ := h
  exact ⟨v0, v1, v2, v3, h1.below hb, h2.below hb⟩
theorem TrAt.below (hb : Below w.heap.size w w') : ∀ {t : Tr} {A : Option Addr}, TrAt G w t A → TrAt G w' t A
  | .nil, _, h => h
  | .node _ _ _, _, ⟨b, pe, pl, pr, h1, h2, h3, h4, h5⟩ => ⟨b, pe, pl, pr, h1, h2.below hb, h3.below hb, TrAt.below hb h4, TrAt.below hb h5⟩
theorem belowT {w0 w1 w2 : World} (h : Below w0.heap.size w0 w1) (hb : Below w1.heap.size w1 w2) : Below w0.heap.size w0 w2 := h.trans (hb.mono h.size)
def RetTr (G : Nat → Prop) (w : World) (t : Tr) (e : Ending) (w' : World) : Prop := ∃ A, e = .returned (.pointer A) ∧ TrAt G w' t A ∧ Below w.heap.size w w'
theorem RetTr.out {t : Tr} {e : Ending} (h : RetTr G w t e w') : ∃ A, e = .returned (.pointer A) ∧ TrAt G w' t A ∧ Below w.heap.size w w' := h
/-- A node's cells. -/
theorem TrAt.cells {l r : Tr} {e : En} {b : Nat} (h : TrAt G w (.node l e r) (some ⟨b, 0, none⟩)) : ∃ pe pl pr, w.cell? ⟨b, 0, none⟩ = some (.pointer (some ⟨pe, 0, none⟩)) ∧ w.cell? ⟨b, 1, none⟩ = some (.pointer pl) ∧ w.cell? ⟨b, 2, none⟩ = some (.pointer pr) ∧ b < w.heap.size ∧ EB G w e pe ∧ TrAt G w l pl ∧ TrAt G w r pr := by
  obtain ⟨b', pe, pl, pr, e1, h2, h3, h4, h5⟩ := h
  injection e1 with e1
  injection e1 with e1
  subst e1
  exact ⟨pe, pl, pr, h2.cell 0, h2.cell 1, h2.cell 2, h2.lt, h3, h4, h5⟩
theorem TrAt.ptr {l r : Tr} {e : En} {A : Option Addr} (h : TrAt G w (.node l e r) A) : ∃ b, A = some ⟨b, 0, none⟩ := by
  obtain ⟨b', _, _, _, e1, _⟩ := h
  exact ⟨b', e1⟩
end
end Go.Proofs.YtbgelbdnkbhffaaGreat
namespace Go.Proofs.YtbgelbdnkbhffaaGreat
open Go Go.RowKit

/-- The next number, and where the reader is then. -/
def numR (xs : List UInt8) (s : Nat × Bool) : Nat × (Nat × Bool) :=
  if (getU xs (s.1 : Int)).2.2 = 0 then ((getU xs (s.1 : Int)).1, ((getU xs (s.1 : Int)).2.1.toNat, s.2)) else (0, (s.1, true))
/-- The next n bytes, and where the reader is then. -/
def takeR (xs : List UInt8) (n : Nat) (s : Nat × Bool) : List UInt8 × (Nat × Bool) :=
  if xs.length - s.1 < n then ([], (s.1, true)) else ((xs.drop s.1).take n, (s.1 + n, s.2))
theorem numR_le {xs : List UInt8} {s : Nat × Bool} (h : s.1 ≤ xs.length) : (numR xs s).2.1 ≤ xs.length ∧ (numR xs s).1 < B64 := by
  unfold numR
  split
  · rename_i e
    rcases hg : getU xs (s.1 : Int) with ⟨m, nx, e2⟩
    rw [hg] at e
    obtain ⟨k, rfl, h1, h2, h3⟩ := getU_err h hg e
    exact ⟨by simpa using h2, h3⟩
  · exact ⟨h, by unfold B64; omega⟩
theorem takeR_le {xs : List UInt8} {n : Nat} {s : Nat × Bool} (h : s.1 ≤ xs.length) : (takeR xs n s).2.1 ≤ xs.length ∧ (takeR xs n s).1.length ≤ n := by
  unfold takeR
  split
  · exact ⟨h, by simp⟩
  · simp only [List.length_take]
    exact ⟨by omega, by omega⟩
/-- 'The reader at p: these bytes, this place, bad or not.' -/
def Rdr (w : World) (p : Nat) (E : Option Addr) (en ec : Nat) (s : Nat × Bool) : Prop := Cl w p #[.slice E en ec, .int .i64 (s.1 : Int), .bool s.2] 269
def RetN (w : World) (p : Nat) (E : Option Addr) (en ec : Nat) (r : Nat × (Nat × Bool)) (e : Ending) (w' : World) : Prop :=
  e = .returned (.int .u64 (r.1 : Int)) ∧ Rdr w' p E en ec r.2 ∧ w.grownBy w' (some p)
theorem RetN.out {w : World} {p : Nat} {E : Option Addr} {en ec : Nat} {r : Nat × (Nat × Bool)} {e : Ending} {w' : World} (h : RetN w p E en ec r e w') : e = .returned (.int .u64 (r.1 : Int)) ∧ Rdr w' p E en ec r.2 ∧ w.grownBy w' (some p) := h
theorem grown_set1 (w : World) (p i : Nat) (v : Value) : w.grownBy (w.setCell ⟨p, i, none⟩ v) (some p) := by
  have h := (Below.refl p w).setCell (p := ⟨p, i, none⟩) (Nat.le_refl _) v
  refine ⟨h.os, h.tape, h.output, h.size, fun b _ hne => ?_⟩
  exact Below.heap_setCell w ⟨p, i, none⟩ v b (fun e => hne (by rw [e]))
theorem grown_drewN {w w' : World} {row : Option Nat} (h : w.grownBy w' row) (q : Nat) : w.grownBy (w'.drewN q) row := by
  obtain ⟨h1, h2, h3, h4, h5⟩ := h
  exact ⟨h1, h2, h3, h4, h5⟩
set_option maxRecDepth 100000 in
set_option maxHeartbeats 4000000 in
theorem number_any (w : World) (p : Nat) (E : Option Addr) (en ec : Nat) (xs : List UInt8) (a : Nat) (bd : Bool) (h : Rdr w p E en ec (a, bd)) (hr : Rd w E en xs) (ha : a ≤ en) (hn : en ≤ 1099511627776) (hc : en ≤ ec) :
    Calls Tryz.prog 235 #[.pointer (some ⟨p, 0, none⟩)] w (RetN w p E en ec (numR xs (a, bd))) := by
  have hcl : Cl w p #[.slice E en ec, .int .i64 (a : Int), .bool bd] 269 := h
  obtain ⟨c0, c1, c2, f0, f1, f2⟩ := hcl.c3
  rcases hg : getU xs (a : Int) with ⟨m, nx, ee⟩
  have HG : Hid (∀ wx q, wx = w.drewN q → Calls Tryz.prog 156 #[.slice E en ec, .int .i64 (a : Int)] wx (fun e w' => e = .returned (.tuple #[.int .u64 (m : Int), .int .i64 nx, .int .i64 ee]) ∧ w' = wx)) := Lib.hid (fun wx q hq => by
    subst hq
    have hG := GetU_any E en ec xs (a : Int) (w.drewN q) (hr.drewN q) (by omega) hc
    rw [hg] at hG
    exact hG.mono (fun e w' h => ⟨h.1, h.2.symm⟩))
  have HCL := Lib.hid hcl
  have hxl := hr.len
  by_cases he : ee = 0
  · obtain ⟨k, hk, h1, h2, h3⟩ := getU_err (by omega) hg he
    have hnum : numR xs (a, bd) = (m, (k, bd)) := by unfold numR; rw [hg, if_pos he, hk]; rfl
    subst he hk
    have HN := Lib.hid hnum
    clear h hr hg hcl hnum hxl
    go_enter Tryz.func235, Tryz.ntmps235
    go_wp2_with fail
    go_quiet ((go_at_call 156; exact Calls.quiet_of_same (HG.out _ _ rfl)))
    have hd := HCL.out.drewN nq
    obtain ⟨c0, c1, c2, f0, f1, f2⟩ := hd.c3
    have HD := Lib.hid (hd.set 1 (.int .i64 (k : Int)))
    have HGR := Lib.hid ((grown_drewN (World.grownBy.refl w (some p)) nq).trans (grown_set1 (w.drewN nq) p 1 (.int .i64 (k : Int))))
    clear hd
    go_wp2_with fail
    go_ret
    rw [HN.out]
    exact ⟨rfl, HD.out, HGR.out⟩
  · have hnum : numR xs (a, bd) = (0, (a, true)) := by unfold numR; rw [hg, if_neg he]
    have t1 : (ee == 0) = false := by simpa using he
    have HN := Lib.hid hnum
    clear h hr hg hcl hnum hxl
    go_enter Tryz.func235, Tryz.ntmps235
    go_wp2_with fail
    go_quiet ((go_at_call 156; exact Calls.quiet_of_same (HG.out _ _ rfl)))
    have hd := HCL.out.drewN nq
    obtain ⟨c0, c1, c2, f0, f1, f2⟩ := hd.c3
    have HD := Lib.hid (hd.set 2 (.bool true))
    have HGR := Lib.hid ((grown_drewN (World.grownBy.refl w (some p)) nq).trans (grown_set1 (w.drewN nq) p 2 (.bool true)))
    clear hd
    go_wp2_with fail
    go_ret
    rw [HN.out]
    exact ⟨rfl, HD.out, HGR.out⟩
/-- What take hands back: n bytes of what the reader reads, or none. -/
def RetT8 (w : World) (p : Nat) (E : Option Addr) (en ec : Nat) (xs : List UInt8) (r : List UInt8 × (Nat × Bool)) (e : Ending) (w' : World) : Prop :=
  ∃ B k d, e = .returned (.slice B k d) ∧ Rdr w' p E en ec r.2 ∧ w.grownBy w' (some p) ∧ k ≤ d ∧ (B = none → d = 0) ∧ r.1.length = k ∧ (∀ wx, Rd wx E en xs → Rd wx B k r.1) ∧ (blk B = none ∨ blk B = blk E)
set_option maxRecDepth 100000 in
set_option maxHeartbeats 4000000 in
theorem take_any (w : World) (p : Nat) (E : Option Addr) (en ec : Nat) (xs : List UInt8) (n a : Nat) (bd : Bool) (h : Rdr w p E en ec (a, bd)) (hl : xs.length = en) (ha : a ≤ en) (hn : en ≤ 1099511627776) (hc : en ≤ ec) (hnn : n < B64) (hnil : E = none → ec = 0) :
    Calls Tryz.prog 236 #[.pointer (some ⟨p, 0, none⟩), .int .u64 (n : Int)] w (RetT8 w p E en ec xs (takeR xs n (a, bd))) := by
  have hcl : Cl w p #[.slice E en ec, .int .i64 (a : Int), .bool bd] 269 := h
  obtain ⟨c0, c1, c2, f0, f1, f2⟩ := hcl.c3
  have HCL := Lib.hid hcl
  obtain ⟨z, hz⟩ : ∃ z, z = en - a := ⟨_, rfl⟩
  have e1 : IntKind.i64.wrap ((en : Int) - (a : Int)) = (z : Int) := by rw [IntWalk.i64_in _ (by omega)]; omega
  have e2 : IntKind.u64.wrap (z : Int) = (z : Int) := u64_nat z (by unfold B64; omega)
  unfold B64 at hnn
  have hz2 : z ≤ 1099511627776 := by omega
  by_cases hlt : z < n
  · have htk : takeR xs n (a, bd) = ([], (a, true)) := by unfold takeR; rw [if_pos (by simp only; omega)]
    have HT := Lib.hid htk
    clear h hcl htk hz
    go_enter Tryz.func236, Tryz.ntmps236
    go_wp2_with fail
    go_quiet (fail)
    have hd := HCL.out.drewN nq
    obtain ⟨c0, c1, c2, f0, f1, f2⟩ := hd.c3
    have HD := Lib.hid (hd.set 2 (.bool true))
    have HGR := Lib.hid ((grown_drewN (World.grownBy.refl w (some p)) nq).trans (grown_set1 (w.drewN nq) p 2 (.bool true)))
    clear hd
    go_wp2_with fail
    go_ret
    refine ⟨none, 0, 0, rfl, by rw [HT.out]; exact HD.out, HGR.out, Nat.le_refl _, fun _ => rfl, by rw [HT.out]; rfl, fun wx _ => by rw [HT.out]; exact Rd.nil _ _, .inl rfl⟩
  · obtain ⟨y, hy⟩ : ∃ y, y = a + n := ⟨_, rfl⟩
    have hye : y ≤ en := by omega
    have hay : a ≤ y := by omega
    have htk : takeR xs n (a, bd) = ((xs.drop a).take n, (y, bd)) := by unfold takeR; rw [if_neg (by simp only; omega), hy]
    have e3 : IntKind.i64.wrap (n : Int) = (n : Int) := IntWalk.i64_in _ (by omega)
    have e4 : IntKind.i64.wrap ((a : Int) + (n : Int)) = (y : Int) := by rw [IntWalk.i64_in _ (by omega)]; omega
    have hyn : y - a = n := by omega
    have hsl : ∀ W : World, (Instr.slice 29 (.slice E en ec) (some (.int .i64 (a : Int))) (some (.int .i64 (y : Int))) none).run Tryz.prog W = .ok (.slice (cutA E a ec) n (ec - a)) W := fun W => by
      have := cut_lh Tryz.underlying29 elem_bytes size_u8 E (n := en) (cap := ec) hay (by omega) W
      rw [hyn] at this
      exact this
    have hrd : ∀ wx, Rd wx E en xs → Rd wx (cutA E a ec) n ((xs.drop a).take n) := fun wx hw => by
      have := hw.cut hay hye hc
      rw [hyn, List.drop_take, hyn] at this
      exact this
    have hlen : ((xs.drop a).take n).length = n := by rw [List.length_take, List.length_drop]; omega
    have hcn : cutA E a ec = none → ec - a = 0 := fun hh => by
      unfold cutA at hh
      split at hh
      · omega
      · cases E with
        | none => have := hnil rfl; omega
        | some _ => cases hh
    have hblk : blk (cutA E a ec) = none ∨ blk (cutA E a ec) = blk E := by
      right
      unfold cutA
      split
      · rfl
      · cases E with
        | none => rfl
        | some ad =>
          simp only [Option.map_some, blk, Addr.add]
          split <;> rfl
    have hnd : n ≤ ec - a := by omega
    have HT := Lib.hid htk
    have HR := Lib.hid hrd
    have HLN := Lib.hid hlen
    have HCN := Lib.hid hcn
    have HBK := Lib.hid hblk
    have HDD := Lib.hid hnd
    clear h hcl htk hz hy hrd hlen hcn hblk hyn hnd
    go_enter Tryz.func236, Tryz.ntmps236
    go_wp2_with fail
    go_quiet (fail)
    have hd := HCL.out.drewN nq
    obtain ⟨c0, c1, c2, f0, f1, f2⟩ := hd.c3
    have hd2 := hd.set 1 (.int .i64 (y : Int))
    obtain ⟨W2, hW2⟩ : ∃ W2, W2 = (w.drewN nq).setCell ⟨p, 1, none⟩ (.int .i64 (y : Int)) := ⟨_, rfl⟩
    rw [← hW2] at hd2
    have hd3 : Cl W2 p #[.slice E en ec, .int .i64 (y : Int), .bool bd] 269 := hd2
    have HGR : Hid (w.grownBy W2 (some p)) := Lib.hid (by
      rw [hW2]
      exact (grown_drewN (World.grownBy.refl w (some p)) nq).trans (grown_set1 (w.drewN nq) p 1 (.int .i64 (y : Int))))
    have HW2 := Lib.hid hW2
    have HD := Lib.hid hd3
    clear hd hd2 hd3 hW2
    go_upto_region 6 with (fail)
    rw [← HW2.out]
    clear c0 c1 c2 f0 f1 f2
    obtain ⟨c0, c1, c2, f0, f1, f2⟩ := HD.out.c3
    go_quiet (fail)
    go_wp2_with fail
    go_ret
    exact ⟨cutA E a ec, n, ec - a, rfl, by rw [HT.out]; exact HD.out.drewN _, grown_drewN HGR.out _, HDD.out, HCN.out, by rw [HT.out]; exact HLN.out, fun wx hw => by rw [HT.out]; exact HR.out wx hw, HBK.out⟩
end Go.Proofs.YtbgelbdnkbhffaaGreat
namespace Go.Proofs.YtbgelbdnkbhffaaGreat
open Go Go.RowKit

theorem toNat_or {x y : Nat} (h1 : x < 256) (h2 : y < 256) : (UInt8.ofNat (x ||| y)).toNat = x ||| y := by
  have hor : x ||| y < 256 := Nat.or_lt_two_pow (n := 8) h1 h2
  generalize x ||| y = q at hor ⊢
  simp
  omega
theorem putB_self {fs : List UInt8} {b : Nat} (hl : b / 8 < fs.length) : setB (putB fs b) b = true := by
  rw [setB_eq]
  have hp : 2 ^ (b % 8) < 256 := Nat.lt_of_lt_of_le (Nat.pow_lt_pow_right (by omega) (Nat.mod_lt b (by omega))) (by decide)
  unfold putB
  rw [List.getElem?_set_self hl, Option.getD_some, toNat_or (UInt8.toNat_lt _) hp, Nat.testBit_or, Nat.testBit_two_pow_self, Bool.or_true]
theorem filter_len2 {p : Nat} {xss : List (List UInt8)} (hq : xss.length * p ≤ 200000) : (filterB p xss).length ≤ 25001 := by
  unfold filterB
  rw [buildB_len]
  split <;> omega
theorem filter_len {p : Nat} {xss : List (List UInt8)} (hp : p ≤ 100) (hx : xss.length ≤ 200) : (filterB p xss).length ≤ 2501 := by
  have hq : xss.length * p ≤ 20000 := Nat.mul_le_mul hx hp
  unfold filterB
  rw [buildB_len]
  split <;> omega
theorem RdL.first {w : World} {A : Option Addr} {n : Nat} {xss : List (List UInt8)} (h : RdL w A n xss) (k : Nat) : RdL w A (min n k) (xss.take k) := by
  refine ⟨by rw [List.length_take, h.1]; omega, fun h0 => ?_⟩
  obtain ⟨b, off, h1, h2, h3⟩ := h.2 (by omega)
  refine ⟨b, off, h1, h2, fun i xs hi => h3 i xs ?_⟩
  rw [List.getElem?_take] at hi
  split at hi
  · exact hi
  · cases hi
end Go.Proofs.YtbgelbdnkbhffaaGreat
namespace Go.Proofs.YtbgelbdnkbhffaaGreat
open Go Go.RowKit

end Go.Proofs.YtbgelbdnkbhffaaGreat
namespace Go.Proofs.YtbgelbdnkbhffaaGreat
open Go Go.RowKit Go.Maps

theorem Fr.set (w : World) (p i : Nat) (v : Value) : Fr w (w.setCell ⟨p, i, none⟩ v) [p] :=
  ⟨rfl, rfl, rfl, by simp, fun k _ hn => heap_setCell_other w ⟨p, i, none⟩ k v (by simpa using hn)⟩
/-- 'The head's block holds this now, and nothing else has turned.' -/
def Hd (w : World) (p : Nat) (vs : Array Value) (w' : World) : Prop := Fr w w' [p] ∧ w'.heap[p]? = some (.cells vs 115 (0, 0))
theorem Hd.refl {w : World} {p : Nat} {vs : Array Value} (h : w.heap[p]? = some (.cells vs 115 (0, 0))) : Hd w p vs w := ⟨Fr.refl _ _, h⟩
theorem Hd.set {w w' : World} {p : Nat} {vs : Array Value} (h : Hd w p vs w') (i : Nat) (v : Value) : Hd w p (vs.setIfInBounds i v) (w'.setCell ⟨p, i, none⟩ v) :=
  ⟨h.1.trans (Fr.set w' p i v) (fun _ hb => .inl hb), heap_setCell_same _ _ _ _ _ _ h.2⟩
theorem Hd.drew {w w' : World} {p : Nat} {vs : Array Value} (h : Hd w p vs w') : Hd w p vs w'.drew := ⟨⟨h.1.os, h.1.tape, h.1.output, h.1.size, h.1.block⟩, h.2⟩
def RetHd (w : World) (p : Nat) (vs : Array Value) (v : Value) (e : Ending) (w' : World) : Prop := e = .returned v ∧ Hd w p vs w'

section
variable {w : World} {p : Nat} {m : Option Nat} {rs : List FR} {room used left : Int} {dead armed : Bool}
set_option maxRecDepth 100000 in
set_option maxHeartbeats 1000000 in
theorem turn_err {e : Int} (he : e ≠ 0) :
    Calls Tryz.prog 76 #[.pointer (some ⟨p, 0, none⟩), .int .i64 e] w fun e' w' => e' = .returned (.int .i64 e) ∧ w = w' := by
  have h1 : (e != 0) = true := by simpa using he
  go_enter Tryz.func76, Tryz.ntmps76
  go_wp2
  go_ret
  exact ⟨rfl, rfl⟩
set_option maxRecDepth 100000 in
set_option maxHeartbeats 1000000 in
theorem turn_free (h : DskR w p m rs room used left dead false) :
    Calls Tryz.prog 76 #[.pointer (some ⟨p, 0, none⟩), .int .i64 0] w fun e' w' => e' = .returned (.int .i64 0) ∧ w = w' := by
  obtain ⟨c0, c1, c2, c3, c4, c5⟩ := h.head
  go_enter Tryz.func76, Tryz.ntmps76
  go_wp2
  go_ret
  exact ⟨rfl, rfl⟩
set_option maxRecDepth 100000 in
set_option maxHeartbeats 1000000 in
theorem turn_kill (h : DskR w p m rs room used 0 dead true) :
    Calls Tryz.prog 76 #[.pointer (some ⟨p, 0, none⟩), .int .i64 0] w (RetHd w p (headV m room used 0 true false) (.int .i64 9)) := by
  obtain ⟨c0, c1, c2, c3, c4, c5⟩ := h.head
  have f3 := h.thaw 3
  have f4 := h.thaw 4
  have HH := Lib.hid (((Hd.refl h.1).set 3 (.bool true)).set 4 (.bool false))
  go_enter Tryz.func76, Tryz.ntmps76
  go_wp2
  go_ret
  exact ⟨rfl, HH.out⟩
set_option maxRecDepth 100000 in
set_option maxHeartbeats 1000000 in
theorem turn_step (h : DskR w p m rs room used left dead true) (hl : 0 < left) (hl2 : left ≤ 9223372036854775807) :
    Calls Tryz.prog 76 #[.pointer (some ⟨p, 0, none⟩), .int .i64 0] w (RetHd w p (headV m room used (left - 1) dead true) (.int .i64 0)) := by
  obtain ⟨c0, c1, c2, c3, c4, c5⟩ := h.head
  have f5 := h.thaw 5
  have h1 : (left == 0) = false := by simp; omega
  have HH := Lib.hid ((Hd.refl h.1).set 5 (.int .i64 (left - 1)))
  go_enter Tryz.func76, Tryz.ntmps76
  go_wp2
  go_ret
  exact ⟨rfl, HH.out⟩
end

theorem DskR.init (w : World) (room : Int) : DskR (w.alloc (.cells (headV none room 0 0 false false) 115)) w.heap.size none [] room 0 0 false false :=
  ⟨heap_alloc_new _ _, .inl ⟨rfl, rfl⟩, (fun r hr => by cases hr), ⟨(fun r hr => by cases hr), (fun b hb => by cases hb), List.Pairwise.nil⟩⟩
end Go.Proofs.YtbgelbdnkbhffaaGreat
namespace Go.Proofs.YtbgelbdnkbhffaaGreat
open Go Go.RowKit

/-- Where an entry goes in, from the end. -/
def posI (es : List En) (e : En) : Nat → Nat
  | 0 => 0
  | k + 1 => match es[k]? with
    | some x => if lessE e x then posI es e k else k + 1
    | none => k + 1
theorem posI_le (es : List En) (e : En) : ∀ k, posI es e k ≤ k
  | 0 => Nat.le_refl _
  | k + 1 => by
    unfold posI
    split
    · split
      · exact Nat.le_succ_of_le (posI_le es e k)
      · exact Nat.le_refl _
    · exact Nat.le_refl _
theorem posI_at {es : List En} {e x : En} {k : Nat} (h0 : 0 < k) (hx : es[k - 1]? = some x) : posI es e k = if lessE e x then posI es e (k - 1) else k := by
  obtain ⟨j, rfl⟩ : ∃ j, k = j + 1 := ⟨k - 1, by omega⟩
  rw [Nat.add_sub_cancel] at hx ⊢
  rw [posI, hx]
def cutA4 (A : Option Addr) (k cap : Nat) : Option Addr := if cap = k then A else A.map (·.add (k * 4))
theorem cut4_l {P : Program} {t e : TypeId} (ht : P.underlying t = some (.slice e)) (he : P.elem t = e) (hs : ∀ w, (sizeOf e).run P w = .ok 4 w)
    (A : Option Addr) {n cap k : Nat} (hk : k ≤ n) (w : World) :
    (Instr.slice t (.slice A n cap) (some (.int .i64 (k : Int))) none none).run P w = .ok (.slice (cutA4 A k cap) (n - k) (cap - k)) w := by
  subst he
  rw [run_slice_l w t A n cap ht .i64 (k : Int) (by omega) (by omega)]
  simp only [hs, Result.andThen, sliced, Int.toNat_natCast, cutA4]
theorem rdv_cut4 {w : World} {A : Option Addr} {n k m cap : Nat} {vs : List Value} (h : RdV w A (n * 4) vs) (hk : k ≤ m) (hm : m ≤ n) (hc : n ≤ cap) : RdV w (cutA4 A k cap) ((m - k) * 4) ((vs.take (m * 4)).drop (k * 4)) := by
  unfold cutA4
  refine ⟨by rw [List.length_drop, List.length_take, h.1]; omega, fun hn => ?_⟩
  obtain ⟨b, off, rfl, hb, hcell⟩ := h.2 (by omega)
  rw [if_neg (by omega)]
  refine ⟨b, off + k * 4, ?_, hb, fun i x hx => ?_⟩
  · simp only [Option.map_some, Addr.add]
    split
    · next h0 => rw [h0]; rfl
    · rfl
  · rw [Nat.add_assoc]
    refine hcell (k * 4 + i) x ?_
    rw [List.getElem?_drop, List.getElem?_take] at hx
    split at hx
    · exact hx
    · cases hx
theorem REs.takeV {w : World} {A : Option Addr} {n m : Nat} {es : List En} (h : REs w A n es) (hm : m ≤ n) : ∃ us, EVs w (es.take m) us ∧ RdV w A (m * 4) us := by
  obtain ⟨h1, vs, h2, h3⟩ := h
  refine ⟨_, h2.take m, ?_⟩
  refine ⟨by rw [List.length_take, h3.1]; omega, fun hn => ?_⟩
  obtain ⟨b, off, rfl, hb, hc⟩ := h3.2 (by omega)
  refine ⟨b, off, rfl, hb, fun i x hx => hc i x ?_⟩
  rw [List.getElem?_take] at hx
  split at hx
  · exact hx
  · cases hx
theorem OwnE.mono {w : World} {base base' n c : Nat} {A : Option Addr} {vs : List Value} (h : OwnE w base A n c vs) (hb : base' ≤ base) : OwnE w base' A n c vs := by
  refine ⟨h.1, ?_⟩
  rcases h.2 with h1 | ⟨g, cap, cur, h1, h2, h3⟩
  · exact .inl h1
  · exact .inr ⟨g, cap, cur, h1, Nat.le_trans hb h2, h3⟩
theorem rdv_of_cl {w : World} {g : Nat} {v0 v1 v2 v3 : Value} {t : TypeId} (h : Cl w g #[v0, v1, v2, v3] t) : RdV w (some ⟨g, 0, none⟩) (1 * 4) [v0, v1, v2, v3] :=
  ⟨rfl, fun _ => ⟨g, 0, rfl, h.lt, fun i x hx => by rw [Nat.zero_add, h.cell i]; simpa using hx⟩⟩
def insL (es : List En) (e : En) : List En := es.take (posI es e es.length) ++ e :: es.drop (posI es e es.length)
theorem rdv_take4 {w : World} {A : Option Addr} {n m : Nat} {vs : List Value} (h : RdV w A (n * 4) vs) (hm : m ≤ n) : RdV w A (m * 4) (vs.take (m * 4)) := by
  refine ⟨by rw [List.length_take, h.1]; omega, fun hn => ?_⟩
  obtain ⟨b, off, rfl, hb, hc⟩ := h.2 (by omega)
  refine ⟨b, off, rfl, hb, fun i x hx => hc i x ?_⟩
  rw [List.getElem?_take] at hx
  split at hx
  · exact hx
  · cases hx
/-- What an insertion comes to: a row of the call's own, with the values that were handed in. -/
def RetIns (w : World) (n : Nat) (es : List En) (us : List Value) (e : Ending) (w' : World) : Prop :=
  ∃ L d vs, e = .returned (.slice L n d) ∧ OwnE w' w.heap.size L n d vs ∧ EVs w' es vs ∧ Below w.heap.size w w' ∧ ∀ u ∈ vs, u ∈ us
theorem RetIns.out {w : World} {n : Nat} {es : List En} {us : List Value} {e : Ending} {w' : World} (h : RetIns w n es us e w') : ∃ L d vs, e = .returned (.slice L n d) ∧ OwnE w' w.heap.size L n d vs ∧ EVs w' es vs ∧ Below w.heap.size w w' ∧ ∀ u ∈ vs, u ∈ us := h
set_option maxRecDepth 100000 in
set_option maxHeartbeats 8000000 in
theorem Insert_any {w : World} {A : Option Addr} {n c : Nat} {es : List En} {e : En} {ovs : List Value} {v0 v1 v2 v3 : Value} (hv : EVs w es ovs) (hd : RdV w A (n * 4) ovs) (hl : es.length = n) (hc : n ≤ c) (hn : n ≤ 1099511627776) (hs : ∀ x ∈ es, SzE x) (he : EV w e v0 v1 v2 v3) (se : SzE e) :
    Calls Tryz.prog 53 #[.slice A n c, .agg #[v0, v1, v2, v3]] w (RetIns w (n + 1) (insL es e) ([v0, v1, v2, v3] ++ ovs)) := by
  have h : REs w A n es := REs.mk hv hd hl
  obtain ⟨K, kn, kc, V, vn, vc, rfl, rfl, rfl, rfl, _⟩ := he.parts
  obtain ⟨U, hU⟩ : ∃ U, U = w.alloc (.cells #[.slice K kn kc, .int .u64 (e.seq : Int), .int .u8 (e.kind : Int), .slice V vn vc] 49) := ⟨_, rfl⟩
  have bU : Below w.heap.size w U := by rw [hU]; exact (Below.refl _ _).alloc (Nat.le_refl _) _
  have XU := Lib.hid (show Cl U w.heap.size #[.slice K kn kc, .int .u64 (e.seq : Int), .int .u8 (e.kind : Int), .slice V vn vc] 49 by rw [hU]; exact Cl.new _ _ _)
  have HE := Lib.hid (he.below bU)
  have H1 := Lib.hid (h.below bU)
  have HV := Lib.hid (hv.below bU)
  have HD := Lib.hid (hd.below bU)
  have HLN := Lib.hid h.len
  have HS := Lib.hid hs
  have BU := Lib.hid bU
  clear h hs he bU hv hd hl
  go_enter Tryz.func53, Tryz.ntmps53
  go_upto_region 1 with (fail)
  rw [← hU]
  clear hU
  go_wp2_with fail
  go_loopw [5] (fun s5 wr => ∃ k : Nat, k ≤ n ∧ s5 = .int .i64 (k : Int) ∧ posI es e k = posI es e n ∧ Below U.heap.size U wr) (fun s _ => (intOf s).toNat)
  case atStart => exact ⟨n, Nat.le_refl _, rfl, rfl, Below.refl _ _⟩
  case round =>
    obtain ⟨k, hk, rfl, hp, hB⟩ := hrel
    have HB := Lib.hid hB
    have HP := Lib.hid hp
    have XR := Lib.hid (XU.out.below hB)
    have HER := Lib.hid (HE.out.below hB)
    have hR := H1.out.below hB
    clear hB hp
    go_upto_region 2 with (fail)
    go_cut [19] from 9 to 21 (fun s19 wx => ∃ z, s19 = .bool z ∧ Below wr.heap.size wr wx ∧ (z = true → 0 < k ∧ posI es e k = posI es e (k - 1)) ∧ (z = false → posI es e k = k))
    case first =>
      by_cases h0 : 0 < k
      · obtain ⟨b, off, hAb, hbl⟩ := hR.pos (by omega)
        subst hAb
        obtain ⟨x, u0, u1, u2, u3, hx, c0, c1, c2, c3, hev⟩ := hR.at_ (k - 1) (by omega)
        have hsx := HS.out x (List.mem_of_getElem? hx)
        have HL : Hid (∀ wx, Below wr.heap.size wr wx → Calls Tryz.prog 120 #[.agg #[.slice K kn kc, .int .u64 (e.seq : Int), .int .u8 (e.kind : Int), .slice V vn vc], .agg #[u0, u1, u2, u3]] wx (RetT wx (lessE e x))) := Lib.hid (fun wx hb => refLess_any (HER.out.below hb) (hev.below hb) se hsx)
        have HSX : Hid (∀ wx, Below wr.heap.size wr wx → wx.cell? ⟨b, off + (k - 1) * 4, none⟩ = some u0 ∧ wx.cell? ⟨b, off + (k - 1) * 4 + 1, none⟩ = some u1 ∧ wx.cell? ⟨b, off + (k - 1) * 4 + 2, none⟩ = some u2 ∧ wx.cell? ⟨b, off + (k - 1) * 4 + 3, none⟩ = some u3 ∧ wx.cell? ⟨w.heap.size, 0, none⟩ = some (.slice K kn kc) ∧ wx.cell? ⟨w.heap.size, 1, none⟩ = some (.int .u64 (e.seq : Int)) ∧ wx.cell? ⟨w.heap.size, 2, none⟩ = some (.int .u8 (e.kind : Int)) ∧ wx.cell? ⟨w.heap.size, 3, none⟩ = some (.slice V vn vc)) := Lib.hid (fun wx h => by
          obtain ⟨d0, d1, d2, d3, _⟩ := (XR.out.below h).c4
          exact ⟨(h.cell hbl).trans c0, (h.cell hbl).trans c1, (h.cell hbl).trans c2, (h.cell hbl).trans c3, d0, d1, d2, d3⟩)
        have hB0 : Below wr.heap.size wr wr.drew := (Below.refl _ _).drew
        have hk1 : IntKind.i64.wrap ((k : Int) - 1) = ((k - 1 : Nat) : Int) := by rw [IntWalk.i64_in _ (by omega)]; omega
        have hk2 : k - 1 < n := by omega
        obtain ⟨d0, d1, d2, d3, _⟩ := XR.out.c4
        have HXK := Lib.hid hx
        clear hR hx hev
        go_region_law (first | (go_simp; go_at_call 120; with_reducible refine (HL.out _ (by assumption)).mono ?_; intro e1 wn hq; obtain ⟨h1, bn⟩ := RetT.outD hq; subst h1; have bn' := belowT' (by assumption : Below wr.heap.size wr _) bn; obtain ⟨p0, p1, p2, p3, p4, p5, p6, p7⟩ := HSX.out _ bn'))
        all_goals
          have hpz : posI es e k = if lessE e x then posI es e (k - 1) else k := posI_at h0 HXK.out
          have hf : (∃ z, Value.bool (lessE e x) = .bool z ∧ (z = true → 0 < k ∧ posI es e k = posI es e (k - 1)) ∧ (z = false → posI es e k = k)) := ⟨_, rfl, fun h => ⟨h0, by rw [hpz, if_pos h]⟩, fun h => by rw [hpz, h]; rfl⟩
          have HFF := Lib.hid hf
          clear hpz hf
          go_wp2_with fail
          go_meet
          obtain ⟨z, q1, q2, q3⟩ := HFF.out
          exact ⟨z, q1, by assumption, q2, q3⟩
      · have hk0 : k = 0 := by omega
        subst hk0
        clear hR h0
        go_quiet (fail)
        go_wp2
        go_meet
        exact ⟨false, rfl, below_drewN (Below.refl _ _) nq, (fun h => by cases h), fun _ => rfl⟩
    case rest =>
      obtain ⟨z, rfl, hbc, hz1, hz2⟩ := hcut
      have BC := Lib.hid (HB.out.trans (hbc.mono HB.out.size))
      cases z with
      | true =>
        obtain ⟨h0, hp⟩ := hz1 rfl
        have hk1 : IntKind.i64.wrap ((k : Int) - 1) = ((k - 1 : Nat) : Int) := by rw [IntWalk.i64_in _ (by omega)]; omega
        have HPP := Lib.hid hp
        clear hz1 hz2 hbc hp hR
        go_wp2_with fail
        go_roundw
        case rel => exact ⟨k - 1, by omega, by go_num, by rw [← HPP.out]; exact HP.out, BC.out⟩
        case measure => simp [intOf]; omega
      | false =>
        have hkp : k = posI es e es.length := by rw [HLN.out, ← HP.out]; exact (hz2 rfl).symm
        have HKP := Lib.hid hkp
        have sc := BC.out.size
        have hEV := HV.out.below BC.out
        have hDV := HD.out.below BC.out
        obtain ⟨us1, hu1⟩ : ∃ us1, us1 = ovs.take (k * 4) := ⟨_, rfl⟩
        obtain ⟨us2, hu2⟩ : ∃ us2, us2 = ovs.drop (k * 4) := ⟨_, rfl⟩
        have q1 : EVs wc (es.take k) us1 := by rw [hu1]; exact hEV.take k
        have q2 : RdV wc A (k * 4) us1 := by rw [hu1]; exact rdv_take4 hDV hk
        have q3 : EVs wc (es.drop k) us2 := by rw [hu2]; exact hEV.drop k
        have q4 : RdV wc (cutA4 A k c) ((n - k) * 4) us2 := by
          have := rdv_cut4 hDV hk (Nat.le_refl _) hc
          rw [List.take_of_length_le (by rw [hDV.1]; omega)] at this
          rw [hu2]; exact this
        have HMEM : Hid (∀ u, u ∈ us1 ∨ u ∈ us2 → u ∈ ovs) := Lib.hid (fun u h => by
          rcases h with h | h
          · rw [hu1] at h; exact List.mem_of_mem_take h
          · rw [hu2] at h; exact List.mem_of_mem_drop h)
        have Q1 := Lib.hid q1
        have Q2 := Lib.hid q2
        have Q3 := Lib.hid q3
        have Q4 := Lib.hid q4
        have HEC := Lib.hid (HER.out.below hbc)
        have XC := Lib.hid (XR.out.below hbc)
        have hcl : ∀ w, (Instr.slice 22 (.slice A n c) none (some (.int .i64 (k : Int))) none).run Tryz.prog w = .ok (.slice A k c) w := fun w => cut4_h Tryz.underlying22 elem4 size4 A (by omega) w
        have hcr : ∀ w, (Instr.slice 22 (.slice A n c) (some (.int .i64 (k : Int))) none none).run Tryz.prog w = .ok (.slice (cutA4 A k c) (n - k) (c - k)) w := fun w => cut4_l Tryz.underlying22 elem4 size4 A hk w
        clear hz1 hz2 hbc hkp hEV hDV q1 q2 q3 q4 hR hu1 hu2
        have b0 : Below wc.heap.size wc (wc.alloc (.cells #[] 49)) := (Below.refl _ _).alloc (Nat.le_refl _) _
        have r1 := Lib.hid (Q2.out.below b0)
        have o0 := Lib.hid (OwnE.zero wc)
        have B0 := Lib.hid b0
        clear b0
        go_wp2_with (at_builtin; refine wpList_app4 (wc.alloc (.cells #[] 49)) rfl _ _ 22 rfl wc.heap.size _ 64 Tryz.underlying22 info_ent rfl (some ⟨wc.heap.size, 0, none⟩) 0 0 [] rfl o0.out A k c us1 rfl r1.out Q1.out.cells ?_ ?_ ?_ ?_)
        · omega
        · omega
        · simp
        intro A1 c1 w1 o1 _ b1
        have O1 := Lib.hid o1
        have B1 := Lib.hid (B0.out.trans b1)
        have s1 := B1.out.size
        have X1 := Lib.hid (XC.out.base B1.out XC.out.lt)
        obtain ⟨d0, d1, d2, d3, _⟩ := X1.out.c4
        have bl : Below w1.heap.size w1 (w1.alloc (.cells #[.slice K kn kc, .int .u64 (e.seq : Int), .int .u8 (e.kind : Int), .slice V vn vc] 49)) := (Below.refl _ _).alloc (Nat.le_refl _) _
        have O1' := Lib.hid (O1.out.below bl)
        have r2 := Lib.hid (rdv_of_cl (Cl.new w1 #[.slice K kn kc, .int .u64 (e.seq : Int), .int .u8 (e.kind : Int), .slice V vn vc] 49))
        have BL := Lib.hid bl
        clear o1 b1 hcl bl
        go_wp2_with (at_builtin; refine wpList_app4 (w1.alloc (.cells #[.slice K kn kc, .int .u64 (e.seq : Int), .int .u8 (e.kind : Int), .slice V vn vc] 49)) rfl _ _ 22 rfl wc.heap.size _ 64 Tryz.underlying22 info_ent rfl A1 k c1 us1 rfl O1'.out (some ⟨w1.heap.size, 0, none⟩) 1 1 [.slice K kn kc, .int .u64 (e.seq : Int), .int .u8 (e.kind : Int), .slice V vn vc] rfl r2.out HEC.out.cells ?_ ?_ ?_ ?_)
        · omega
        · omega
        · simp; omega
        intro A2 c2 w2 o2 _ b2
        have O2 := Lib.hid o2
        have B2 := Lib.hid ((B1.out.trans (BL.out.mono s1)).trans b2)
        have s2 := B2.out.size
        have r3 := Lib.hid (Q4.out.below B2.out)
        clear o2 b2 d0 d1 d2 d3
        go_wp2_with (at_builtin; refine wpList_app4 w2 rfl _ _ 22 rfl wc.heap.size _ 64 Tryz.underlying22 info_ent rfl A2 (k + 1) c2 (us1 ++ [.slice K kn kc, .int .u64 (e.seq : Int), .int .u8 (e.kind : Int), .slice V vn vc]) rfl O2.out (cutA4 A k c) (n - k) (c - k) us2 rfl r3.out Q3.out.cells ?_ ?_ ?_ ?_)
        · omega
        · omega
        · omega
        intro A3 c3 w3 o3 _ b3
        have hkn : k + 1 + (n - k) = n + 1 := by omega
        rw [hkn] at o3
        have B3 := B2.out.trans b3
        have hev : EVs w3 (insL es e) (us1 ++ Value.slice K kn kc :: Value.int .u64 (e.seq : Int) :: Value.int .u8 (e.kind : Int) :: Value.slice V vn vc :: us2) := by
          have := ((Q1.out.app (EVs.one HEC.out)).app Q3.out).below B3
          rw [insL, ← HKP.out]
          simpa using this
        have HFIN : Hid (RetIns w (n + 1) (insL es e) ([.slice K kn kc, .int .u64 (e.seq : Int), .int .u8 (e.kind : Int), .slice V vn vc] ++ ovs) (.returned (.slice A3 (n + 1) c3)) w3) := Lib.hid ⟨A3, c3, _, rfl, OwnE.mono o3 (by have := BU.out.size; omega), hev, belowT' (BU.out.trans (BC.out.mono (by have := BU.out.size; omega))) B3, fun u hu => by
          have hm := HMEM.out u
          simp only [List.cons_append, List.nil_append, List.mem_append, List.mem_cons] at hu ⊢
          rcases hu with h | h | h | h | h | h
          · exact .inr (.inr (.inr (.inr (hm (.inl h)))))
          · exact .inl h
          · exact .inr (.inl h)
          · exact .inr (.inr (.inl h))
          · exact .inr (.inr (.inr (.inl h)))
          · exact .inr (.inr (.inr (.inr (hm (.inr h)))))⟩
        clear o3 b3 B3 hev hcr
        rw [hkn]
        go_wp2
        go_ret
        exact HFIN.out
end Go.Proofs.YtbgelbdnkbhffaaGreat
namespace Go.Proofs.YtbgelbdnkbhffaaGreat
open Go Go.RowKit

theorem cmpB_refl : ∀ xs : List UInt8, cmpB xs xs = 0
  | [] => rfl
  | x :: xs => by rw [cmpB_same, cmpB_refl xs]
theorem cmpB_trans : ∀ {xs ys zs : List UInt8}, cmpB xs ys < 0 → cmpB ys zs < 0 → cmpB xs zs < 0
  | [], [], _, h, _ => by simp [cmpB] at h
  | _ :: _, [], _, h, _ => by simp [cmpB] at h
  | [], _ :: _, [], _, h => by simp [cmpB] at h
  | [], _ :: _, _ :: _, _, _ => by simp [cmpB]
  | _ :: _, _ :: _, [], _, h => by simp [cmpB] at h
  | x :: xs, y :: ys, z :: zs, h, k => by
    rcases Nat.lt_trichotomy x.toNat y.toNat with q | q | q
    · rcases Nat.lt_trichotomy y.toNat z.toNat with r | r | r
      · rw [cmpB_lt _ _ (by omega)]; decide
      · rw [cmpB_lt _ _ (by omega)]; decide
      · rw [cmpB_gt _ _ r] at k; simp at k
    · rw [cmpB_eq _ _ q] at h
      rcases Nat.lt_trichotomy y.toNat z.toNat with r | r | r
      · rw [cmpB_lt _ _ (by omega)]; decide
      · rw [cmpB_eq _ _ r] at k
        rw [cmpB_eq _ _ (by omega)]
        exact cmpB_trans h k
      · rw [cmpB_gt _ _ r] at k; simp at k
    · rw [cmpB_gt _ _ q] at h; simp at h
theorem lessE_iff {a b : En} : lessE a b = true ↔ cmpB a.key b.key < 0 ∨ (a.key = b.key ∧ b.seq < a.seq) := by
  unfold lessE
  simp only [Bool.or_eq_true, Bool.and_eq_true, decide_eq_true_eq]
  constructor
  · rintro (h | ⟨h, k⟩)
    · exact .inl h
    · exact .inr ⟨cmpB_zero _ _ h, k⟩
  · rintro (h | ⟨h, k⟩)
    · exact .inl h
    · exact .inr ⟨by rw [h, cmpB_refl], k⟩
theorem sameK_iff {a b : En} : sameK a b = true ↔ a.key = b.key ∧ a.seq = b.seq := by
  unfold sameK eqB
  simp
theorem lessE_trans {a b c : En} (h : lessE a b = true) (k : lessE b c = true) : lessE a c = true := by
  rw [lessE_iff] at h k ⊢
  rcases h with h | ⟨h, h'⟩ <;> rcases k with k | ⟨k, k'⟩
  · exact .inl (cmpB_trans h k)
  · exact .inl (by rw [← k]; exact h)
  · exact .inl (by rw [h]; exact k)
  · exact .inr ⟨h.trans k, by omega⟩
theorem lessE_irr (a : En) : lessE a a = false := by
  cases h : lessE a a with
  | false => rfl
  | true =>
    rcases lessE_iff.1 h with h | ⟨_, h⟩
    · rw [cmpB_refl] at h; simp at h
    · omega
theorem lessE_asym {a b : En} (h : lessE a b = true) : lessE b a = false := by
  cases k : lessE b a with
  | false => rfl
  | true => have := lessE_trans h k; rw [lessE_irr] at this; cases this
theorem lessE_tri (a b : En) : lessE a b = true ∨ lessE b a = true ∨ sameK a b = true := by
  rcases Int.lt_trichotomy (cmpB a.key b.key) 0 with h | h | h
  · exact .inl (lessE_iff.2 (.inl h))
  · have hk := cmpB_zero _ _ h
    rcases Nat.lt_trichotomy a.seq b.seq with q | q | q
    · exact .inr (.inl (lessE_iff.2 (.inr ⟨hk.symm, q⟩)))
    · exact .inr (.inr (sameK_iff.2 ⟨hk, q⟩))
    · exact .inl (lessE_iff.2 (.inr ⟨hk, q⟩))
  · exact .inr (.inl (lessE_iff.2 (.inl (by rw [cmpB_swap]; omega))))
end Go.Proofs.YtbgelbdnkbhffaaGreat
namespace Go.Proofs.YtbgelbdnkbhffaaGreat
open Go Go.RowKit

theorem Made.out {base : Nat} {w w' : World} {xs : List UInt8} {e : Ending} (h : Made base w xs e w') : ∃ A n c, e = .returned (.slice A n c) ∧ Own 5 w' base A n c xs ∧ Below base w w' := h
section
variable {w : World} {a : En} {v0 v1 v2 v3 : Value}
end
end Go.Proofs.YtbgelbdnkbhffaaGreat
namespace Go.Proofs.YtbgelbdnkbhffaaGreat
open Go Go.RowKit

/-- How many first bytes both have alike. -/
def comB : List UInt8 → List UInt8 → Nat
  | x :: xs, y :: ys => if x = y then comB xs ys + 1 else 0
  | _, _ => 0
theorem comB_le : ∀ (xs ys : List UInt8), comB xs ys ≤ xs.length ∧ comB xs ys ≤ ys.length
  | [], _ => by simp [comB]
  | _ :: _, [] => by simp [comB]
  | x :: xs, y :: ys => by
    have := comB_le xs ys
    unfold comB
    split
    · simp only [List.length_cons]; omega
    · simp
theorem comB_lt : ∀ {xs ys : List UInt8} {i : Nat}, i < comB xs ys → ∃ b, xs[i]? = some b ∧ ys[i]? = some b
  | [], _, _, h => by simp [comB] at h
  | _ :: _, [], _, h => by simp [comB] at h
  | x :: xs, y :: ys, i, h => by
    unfold comB at h
    split at h
    · rename_i e
      subst e
      cases i with
      | zero => exact ⟨x, rfl, rfl⟩
      | succ j =>
        have := comB_lt (xs := xs) (ys := ys) (i := j) (by omega)
        simpa using this
    · omega
theorem comB_at : ∀ {xs ys : List UInt8} {i : Nat}, i = comB xs ys → i = xs.length ∨ i = ys.length ∨ ∃ a b, xs[i]? = some a ∧ ys[i]? = some b ∧ a ≠ b
  | [], _, _, h => .inl (by simpa [comB] using h)
  | _ :: _, [], _, h => .inr (.inl (by simpa [comB] using h))
  | x :: xs, y :: ys, i, h => by
    unfold comB at h
    split at h
    · rename_i e
      subst e
      obtain ⟨j, rfl⟩ : ∃ j, i = j + 1 := ⟨comB xs ys, h⟩
      rcases comB_at (xs := xs) (ys := ys) (i := j) (by omega) with h1 | h1 | ⟨a, b, h1, h2, h3⟩
      · exact .inl (by simp [h1])
      · exact .inr (.inl (by simp [h1]))
      · exact .inr (.inr ⟨a, b, by simpa using h1, by simpa using h2, h3⟩)
    · subst h
      exact .inr (.inr ⟨x, y, rfl, rfl, by assumption⟩)
def RetCo (w : World) (z : Nat) (e : Ending) (w' : World) : Prop := e = .returned (.int .i64 (z : Int)) ∧ ∃ q, w' = w.drewN q
set_option maxRecDepth 100000 in
set_option maxHeartbeats 4000000 in
theorem common_any (A B : Option Addr) (n m c d : Nat) (xs ys : List UInt8) (w : World) (hx : Rd w A n xs) (hy : Rd w B m ys) (hn : n ≤ 1099511627776) (hm : m ≤ 1099511627776) :
    Calls Tryz.prog 217 #[.slice A n c, .slice B m d] w (RetCo w (comB xs ys)) := by
  obtain ⟨K, hK⟩ : ∃ K, K = comB xs ys := ⟨_, rfl⟩
  rw [← hK]
  have hle := comB_le xs ys
  rw [← hK] at hle
  have hlx := hx.len
  have hly := hy.len
  have HK := Lib.hid hK
  have HX := Lib.hid hx
  have HY := Lib.hid hy
  clear hK hx hy
  go_enter Tryz.func217, Tryz.ntmps217
  go_wp2_with fail
  go_loopw [5] (fun vi wr => ∃ i q : Nat, vi = .int .i64 (i : Int) ∧ i ≤ K ∧ wr = w.drewN q) (fun vi _ => K - (intOf vi).toNat)
  case atStart => exact ⟨0, 0, rfl, Nat.zero_le _, rfl⟩
  case round =>
    obtain ⟨i, q, rfl, hi, rfl⟩ := hrel
    obtain ⟨W, hW⟩ : ∃ W, W = w.drewN q := ⟨_, rfl⟩
    by_cases hlt : i < K
    · obtain ⟨b, h1, h2⟩ := comB_lt (xs := xs) (ys := ys) (i := i) (by rw [← HK.out]; exact hlt)
      have hin : i < n := by omega
      have him : i < m := by omega
      obtain ⟨ba, oa, rfl, _⟩ := HX.out.pos (by omega)
      obtain ⟨bb, ob, rfl, _⟩ := HY.out.pos (by omega)
      obtain ⟨x, hx1, hx2, _⟩ := HX.out.at_ i hin
      obtain ⟨y, hy1, hy2, _⟩ := HY.out.at_ i him
      obtain rfl : x = y := by
        rw [h1] at hx1; rw [h2] at hy1
        rw [← Option.some.inj hx1, ← Option.some.inj hy1]
      have c1 : W.cell? ⟨ba, oa + i, none⟩ = some (.int .u8 (x.toNat : Int)) := by rw [hW]; exact hx2
      have c2 : W.cell? ⟨bb, ob + i, none⟩ = some (.int .u8 (x.toNat : Int)) := by rw [hW]; exact hy2
      rw [← hW]
      have HW := Lib.hid hW
      clear hW h1 h2 hx1 hx2 hy1 hy2
      go_wp2_with fail
      go_quiet (fail)
      rw [HW.out]
      go_wp2_with fail
      go_roundw
      case rel => exact ⟨i + 1, _, by go_num, by omega, rfl⟩
      case measure => simp [intOf]; omega
    · obtain rfl : i = K := by omega
      rcases comB_at (xs := xs) (ys := ys) (i := i) HK.out with h1 | h1 | ⟨a, b, h1, h2, h3⟩
      · have hin : ¬ i < n := by omega
        rw [← hW]
        have HW := Lib.hid hW
        clear hW
        go_wp2_with fail
        go_quiet (fail)
        rw [HW.out]
        go_wp2_with fail
        go_ret
        exact ⟨rfl, _, World.drewN_drewN _ _ _⟩
      · have him : ¬ i < m := by omega
        rw [← hW]
        have HW := Lib.hid hW
        have HH1 := Lib.hid (And.intro h1 (And.intro hlx hly))
        clear hW h1 hlx hly hle hi hlt
        by_cases hin : i < n
        · have d1 : decide (i < n) = true := by simpa using hin
          have d2 : decide (i < m) = false := by simpa using him
          have d3 : decide ((i : Int) < (m : Int)) = false := by simp; omega
          have d4 : decide (m ≤ i) = true := by simp; omega
          go_wp2_with fail
          go_quiet (fail)
          rw [HW.out]
          go_wp2_with fail
          go_ret
          exact ⟨rfl, _, World.drewN_drewN _ _ _⟩
        · have d1 : decide (i < n) = false := by simpa using hin
          have d4 : decide (n ≤ i) = true := by simp; omega
          go_wp2_with fail
          go_quiet (fail)
          rw [HW.out]
          go_wp2_with fail
          go_ret
          exact ⟨rfl, _, World.drewN_drewN _ _ _⟩
      · have hin : i < n := by have := (List.getElem?_eq_some_iff.1 h1).1; omega
        have him : i < m := by have := (List.getElem?_eq_some_iff.1 h2).1; omega
        obtain ⟨ba, oa, rfl, _⟩ := HX.out.pos (by omega)
        obtain ⟨bb, ob, rfl, _⟩ := HY.out.pos (by omega)
        obtain ⟨x, hx1, hx2, _⟩ := HX.out.at_ i hin
        obtain ⟨y, hy1, hy2, _⟩ := HY.out.at_ i him
        have hne : x.toNat ≠ y.toNat := fun e => h3 (by
          rw [h1] at hx1; rw [h2] at hy1
          rw [Option.some.inj hx1, Option.some.inj hy1]
          exact UInt8.toNat_inj.1 e)
        have t1 : ((x.toNat : Int) == (y.toNat : Int)) = false := by simp; omega
        have t2 : ¬ (x.toNat : Int) = (y.toNat : Int) := by omega
        have c1 : W.cell? ⟨ba, oa + i, none⟩ = some (.int .u8 (x.toNat : Int)) := by rw [hW]; exact hx2
        have c2 : W.cell? ⟨bb, ob + i, none⟩ = some (.int .u8 (y.toNat : Int)) := by rw [hW]; exact hy2
        rw [← hW]
        have HW := Lib.hid hW
        clear hW h1 h2 h3 hx1 hx2 hy1 hy2
        go_wp2_with fail
        go_quiet (fail)
        rw [HW.out]
        go_wp2_with fail
        go_ret
        exact ⟨rfl, _, World.drewN_drewN _ _ _⟩
/-- The first k pairs of neighbours stand in order. -/
def ordK (es : List En) : Nat → Bool
  | 0 => true
  | i + 1 => ordK es i && (match es[i]?, es[i + 1]? with
    | some a, some b => lessE a b
    | _, _ => true)
def ordE (es : List En) : Bool := ordK es (es.length - 1)
theorem ordK_step {es : List En} {i : Nat} {a b : En} (h1 : es[i]? = some a) (h2 : es[i + 1]? = some b) : ordK es (i + 1) = (ordK es i && lessE a b) := by rw [ordK, h1, h2]
theorem ordK_false {es : List En} {i : Nat} (h : ordK es i = false) : ∀ j, i ≤ j → ordK es j = false
  | 0, hj => by obtain rfl : i = 0 := by omega
                exact h
  | j + 1, hj => by
    by_cases e : i = j + 1
    · subst e; exact h
    · rw [ordK, ordK_false h j (by omega), Bool.false_and]
set_option maxRecDepth 100000 in
set_option maxHeartbeats 4000000 in
theorem inOrder8_any {w : World} {A : Option Addr} {n c : Nat} {es : List En} (h : REs w A n es) (hn : n ≤ 1099511627776) : Calls Tryz.prog 183 #[.slice A n c] w (RetT w (ordE es)) := by
  have HL := Lib.hid h.len
  have HR := Lib.hid h
  clear h
  go_enter Tryz.func183, Tryz.ntmps183
  go_wp2_with fail
  go_loopw [3] (fun s3 wr => ∃ i : Nat, (i < n ∨ i = 0) ∧ s3 = .int .i64 ((i + 1 : Nat) : Int) ∧ ordK es i = true ∧ Below w.heap.size w wr) (fun s _ => n + 1 - (intOf s).toNat)
  case atStart => exact ⟨0, .inr rfl, rfl, rfl, Below.refl _ _⟩
  case round =>
    obtain ⟨i, hi, rfl, ho, hB⟩ := hrel
    have HB := Lib.hid hB
    have HO := Lib.hid ho
    have hR := HR.out.below hB
    clear hB ho
    obtain ⟨k, hk⟩ : ∃ k, k = i + 1 := ⟨_, rfl⟩
    rw [← hk]
    by_cases hlt : k < n
    · obtain ⟨b, off, hAb, hbl⟩ := hR.pos (by omega)
      subst hAb
      obtain ⟨x, v0, v1, v2, v3, hx, c0, c1, c2, c3, hev⟩ := hR.at_ i (by omega)
      obtain ⟨y, u0, u1, u2, u3, hy, d0, d1, d2, d3, hew⟩ := hR.at_ k hlt
      have HL1 : Hid (∀ wx, Below wr.heap.size wr wx → Calls Tryz.prog 137 #[.agg #[v0, v1, v2, v3], .agg #[u0, u1, u2, u3]] wx (RetT wx (lessE x y))) := Lib.hid (fun wx hb => memLess_any (hev.below hb) (hew.below hb))
      have HSX : Hid (∀ wx, Below wr.heap.size wr wx → wx.cell? ⟨b, off + i * 4, none⟩ = some v0 ∧ wx.cell? ⟨b, off + i * 4 + 1, none⟩ = some v1 ∧ wx.cell? ⟨b, off + i * 4 + 2, none⟩ = some v2 ∧ wx.cell? ⟨b, off + i * 4 + 3, none⟩ = some v3 ∧ wx.cell? ⟨b, off + k * 4, none⟩ = some u0 ∧ wx.cell? ⟨b, off + k * 4 + 1, none⟩ = some u1 ∧ wx.cell? ⟨b, off + k * 4 + 2, none⟩ = some u2 ∧ wx.cell? ⟨b, off + k * 4 + 3, none⟩ = some u3) := Lib.hid (fun wx h =>
        ⟨(h.cell (p := ⟨b, off + i * 4, none⟩) hbl).trans c0, (h.cell (p := ⟨b, off + i * 4 + 1, none⟩) hbl).trans c1, (h.cell (p := ⟨b, off + i * 4 + 2, none⟩) hbl).trans c2, (h.cell (p := ⟨b, off + i * 4 + 3, none⟩) hbl).trans c3, (h.cell (p := ⟨b, off + k * 4, none⟩) hbl).trans d0, (h.cell (p := ⟨b, off + k * 4 + 1, none⟩) hbl).trans d1, (h.cell (p := ⟨b, off + k * 4 + 2, none⟩) hbl).trans d2, (h.cell (p := ⟨b, off + k * 4 + 3, none⟩) hbl).trans d3⟩)
      have hB0 : Below wr.heap.size wr wr.drew := (Below.refl _ _).drew
      have hk1 : IntKind.i64.wrap ((k : Int) - 1) = (i : Int) := by rw [IntWalk.i64_in _ (by omega)]; omega
      have hin : i < n := by omega
      have HST : Hid (ordK es k = (ordK es i && lessE x y)) := Lib.hid (by rw [hk]; exact ordK_step hx (by rw [← hk]; exact hy))
      have HKI := Lib.hid hk
      obtain ⟨z, hz⟩ : ∃ z, z = lessE x y := ⟨_, rfl⟩
      rw [← hz] at HL1 HST
      clear hR hx hev hy hew hz hk
      cases z with
      | true =>
        go_wp2_with fail
        go_region_held3 (fun wx => wx.cell? ⟨b, off + i * 4, none⟩ = some v0 ∧ wx.cell? ⟨b, off + i * 4 + 1, none⟩ = some v1 ∧ wx.cell? ⟨b, off + i * 4 + 2, none⟩ = some v2 ∧ wx.cell? ⟨b, off + i * 4 + 3, none⟩ = some v3 ∧ wx.cell? ⟨b, off + k * 4, none⟩ = some u0 ∧ wx.cell? ⟨b, off + k * 4 + 1, none⟩ = some u1 ∧ wx.cell? ⟨b, off + k * 4 + 2, none⟩ = some u2 ∧ wx.cell? ⟨b, off + k * 4 + 3, none⟩ = some u3) (first | assumption | exact HSX.out _ hB0)
          (first | (go_at_call 137; with_reducible refine (HL1.out _ (by assumption)).mono ?_; intro e1 wn hq; obtain ⟨h1, bn⟩ := RetT.outD hq; subst h1; have bn' := belowT' (by assumption : Below wr.heap.size wr _) bn; have hS1 := HSX.out _ bn'))
        all_goals
          have HBN : Hid (Below w.heap.size w _) := Lib.hid (HB.out.trans ((by assumption : Below wr.heap.size wr wn).mono HB.out.size))
          go_wp2_with fail
          go_roundw
          case rel => exact ⟨k, .inl hlt, by go_num, by rw [HST.out, HO.out]; rfl, HBN.out⟩
          case measure => simp [intOf]; omega
      | false =>
        go_wp2_with fail
        go_region_held3 (fun wx => wx.cell? ⟨b, off + i * 4, none⟩ = some v0 ∧ wx.cell? ⟨b, off + i * 4 + 1, none⟩ = some v1 ∧ wx.cell? ⟨b, off + i * 4 + 2, none⟩ = some v2 ∧ wx.cell? ⟨b, off + i * 4 + 3, none⟩ = some v3 ∧ wx.cell? ⟨b, off + k * 4, none⟩ = some u0 ∧ wx.cell? ⟨b, off + k * 4 + 1, none⟩ = some u1 ∧ wx.cell? ⟨b, off + k * 4 + 2, none⟩ = some u2 ∧ wx.cell? ⟨b, off + k * 4 + 3, none⟩ = some u3) (first | assumption | exact HSX.out _ hB0)
          (first | (go_at_call 137; with_reducible refine (HL1.out _ (by assumption)).mono ?_; intro e1 wn hq; obtain ⟨h1, bn⟩ := RetT.outD hq; subst h1; have bn' := belowT' (by assumption : Below wr.heap.size wr _) bn; have hS1 := HSX.out _ bn'))
        all_goals
          have HBN : Hid (Below w.heap.size w _) := Lib.hid (HB.out.trans ((by assumption : Below wr.heap.size wr wn).mono HB.out.size))
          have HFIN : Hid (ordE es = false) := Lib.hid (by
            have h1 := HST.out
            rw [Bool.and_false] at h1
            exact ordK_false h1 _ (by rw [HL.out]; omega))
          go_wp2_with fail
          go_ret
          exact ⟨by rw [HFIN.out]; rfl, HBN.out⟩
    · have HFIN : Hid (ordE es = true) := Lib.hid (by
        have h1 := HO.out
        unfold ordE
        rw [HL.out]
        obtain rfl : n - 1 = i := by omega
        exact h1)
      go_wp2_with fail
      go_ret
      exact ⟨by rw [HFIN.out]; rfl, HB.out⟩
end Go.Proofs.YtbgelbdnkbhffaaGreat
namespace Go.Proofs.YtbgelbdnkbhffaaGreat
open Go Go.RowKit

theorem Rd.keptG {w w' : World} {A : Option Addr} {n : Nat} {xs : List UInt8} {row : Option Nat} (h : Rd w A n xs) (hg : w.grownBy w' row) (hne : ∀ b, blk A = some b → row ≠ some b) : Rd w' A n xs := by
  refine ⟨h.1, fun hn => ?_⟩
  obtain ⟨b, off, e, hb, hc⟩ := h.2 hn
  refine ⟨b, off, e, Nat.lt_of_lt_of_le hb hg.size, fun i x hx => hg.cell (hc i x hx) (fun e2 => ?_)⟩
  subst e
  exact hne b rfl e2.symm
theorem numR_bad {xs : List UInt8} {s : Nat × Bool} (h : (numR xs s).2.2 = false) : s.2 = false := by
  unfold numR at h
  split at h
  · exact h
  · cases h
theorem takeR_bad {xs : List UInt8} {n : Nat} {s : Nat × Bool} (h : (takeR xs n s).2.2 = false) : s.2 = false ∧ (s.1 ≤ xs.length → n ≤ xs.length - s.1 ∧ (takeR xs n s).1.length = n) := by
  unfold takeR at h ⊢
  split at h
  · cases h
  · rename_i h2
    rw [if_neg h2]
    refine ⟨h, fun h3 => ⟨by omega, ?_⟩⟩
    simp only [List.length_take, List.length_drop]
    omega
/-- The seven pieces of an entry, one behind the other. -/
def e1R (xs : List UInt8) (a : Nat) := numR xs (a, false)
def e2R (xs : List UInt8) (a : Nat) := numR xs (e1R xs a).2
def e3R (xs : List UInt8) (a : Nat) := numR xs (e2R xs a).2
def e4R (xs : List UInt8) (a : Nat) := takeR xs 1 (e3R xs a).2
def e5R (xs : List UInt8) (a : Nat) := numR xs (e4R xs a).2
def e6R (xs : List UInt8) (a : Nat) := takeR xs (e2R xs a).1 (e5R xs a).2
def e7R (xs : List UInt8) (a : Nat) := takeR xs (e5R xs a).1 (e6R xs a).2
/-- Can't an entry be read? -/
def badR (xs ah : List UInt8) (a : Nat) : Bool := (e7R xs a).2.2 || decide (ah.length < (e1R xs a).1) || decide (1024 < (e1R xs a).1 + (e6R xs a).1.length)
/-- The entry that is read. -/
def entR (xs ah : List UInt8) (a : Nat) : En := ⟨ah.take (e1R xs a).1 ++ (e6R xs a).1, (e3R xs a).1, ((e4R xs a).1.headD 0).toNat, (e7R xs a).1⟩
/-- What entry hands back. -/
def RetE8 (w : World) (p : Nat) (E : Option Addr) (en ec : Nat) (xs ah : List UInt8) (a : Nat) (e : Ending) (w' : World) : Prop :=
  Rdr w' p E en ec (e7R xs a).2 ∧ w.grownBy w' (some p) ∧
  ((badR xs ah a = true ∧ e = .returned (.tuple #[.agg #[.slice none 0 0, .int .u64 0, .int .u8 0, .slice none 0 0], .bool false])) ∨
   (badR xs ah a = false ∧ ∃ K kn kc V vn vc, e = .returned (.tuple #[.agg #[.slice K kn kc, .int .u64 ((entR xs ah a).seq : Int), .int .u8 ((entR xs ah a).kind : Int), .slice V vn vc], .bool true]) ∧
     Own 5 w' w.heap.size K kn kc (entR xs ah a).key ∧ Own 5 w' w.heap.size V vn vc (entR xs ah a).val ∧ Dj K V))
theorem rdl_two8 {w : World} {t : TypeId} {v1 v2 : Value} {x1 x2 : List UInt8} (h1 : ElB w v1 x1) (h2 : ElB w v2 x2) (g : Nat) (hg : g = w.heap.size) : RdL (w.alloc (.cells #[v1, v2] t)) (some ⟨g, 0, none⟩) 2 [x1, x2] := by
  subst hg
  refine ⟨rfl, fun _ => ⟨w.heap.size, 0, rfl, by simp, fun i x hi => ?_⟩⟩
  match i, hi with
  | 0, hi =>
    injection hi with hi
    subst hi
    refine ⟨v1, ?_, h1.below ((Below.refl _ _).alloc (Nat.le_refl _) _)⟩
    rw [cell_of_row (w.alloc (.cells #[v1, v2] t)) w.heap.size (0 + 0) #[v1, v2] t (0, 0) (heap_alloc_new w _)]
    rfl
  | 1, hi =>
    injection hi with hi
    subst hi
    refine ⟨v2, ?_, h2.below ((Below.refl _ _).alloc (Nat.le_refl _) _)⟩
    rw [cell_of_row (w.alloc (.cells #[v1, v2] t)) w.heap.size (0 + 1) #[v1, v2] t (0, 0) (heap_alloc_new w _)]
    rfl
  | i + 2, hi => simp at hi
theorem Made.outM {base : Nat} {w w' : World} {xs : List UInt8} {e : Ending} (h : Made base w xs e w') : ∃ A n c, e = .returned (.slice A n c) ∧ Own 5 w' base A n c xs ∧ Below base w w' := h
theorem cut_hu {P : Program} {t e : TypeId} (ht : P.underlying t = some (.slice e)) (he : P.elem t = e) (hs : ∀ w, (sizeOf e).run P w = .ok 1 w)
    (A : Option Addr) {n cap m : Nat} (hm : m ≤ cap) (w : World) :
    (Instr.slice t (.slice A n cap) none (some (.int .u64 (m : Int))) none).run P w = .ok (.slice A m cap) w := by
  subst he
  rw [run_slice_h w t A n cap ht .u64 (m : Int) (by omega) (by omega)]
  simp only [hs, Result.andThen, sliced, Int.toNat_natCast, Nat.zero_mul, Nat.sub_zero]
  cases A <;> simp [Addr.add]
theorem e4_one {xs : List UInt8} {a : Nat} (ha : a ≤ xs.length) (h : (e7R xs a).2.2 = false) : (e4R xs a).1.length = 1 := by
  unfold e7R at h
  have h6 := (takeR_bad h).1
  unfold e6R at h6
  have h5 := (takeR_bad h6).1
  unfold e5R at h5
  have h4 := numR_bad h5
  have q1 := (numR_le (xs := xs) (s := (a, false)) ha).1
  have q2 := (numR_le (xs := xs) (s := (e1R xs a).2) (by unfold e1R; exact q1)).1
  have q3 := (numR_le (xs := xs) (s := (e2R xs a).2) (by unfold e2R; exact q2)).1
  unfold e4R at h4 ⊢
  exact ((takeR_bad h4).2 (by unfold e3R; exact q3)).2
/-- Four stores into the result's own box. -/
theorem e8_fin {w U w7 X : World} {p : Nat} {E : Option Addr} {en ec : Nat} {s : Nat × Bool} {q : Array Value} {a b c d : Value} (bU : Below w.heap.size w U) (g7 : U.grownBy w7 (some p)) (z7 : Cl w7 w.heap.size q 49) (hq : q.size = 4) (r7 : Rdr w7 p E en ec s) (hp : p < w.heap.size)
    (hX : X = (((w7.setCell ⟨w.heap.size, 0, none⟩ a).setCell ⟨w.heap.size, 1, none⟩ b).setCell ⟨w.heap.size, 2, none⟩ c).setCell ⟨w.heap.size, 3, none⟩ d) :
    Rdr X p E en ec s ∧ w.grownBy X (some p) ∧ Cl X w.heap.size #[a, b, c, d] 49 := by
  have hr7 : Cl w7 p _ 269 := r7
  refine ⟨?_, ?_, by rw [hX]; exact z7.put4 hq a b c d⟩
  · rw [hX]
    exact (((hr7.off 0 a (by omega)).off 1 b (by omega)).off 2 c (by omega)).off 3 d (by omega)
  · have h1 : w.grownBy U (some p) := ⟨bU.os, bU.tape, bU.output, bU.size, fun i hi _ => bU.block i hi⟩
    have h2 : w7.grownBy X (some w.heap.size) := by
      rw [hX]
      exact (((grown_set1 w7 _ 0 a).trans (grown_set1 _ _ 1 b)).trans (grown_set1 _ _ 2 c)).trans (grown_set1 _ _ 3 d)
    exact grown_then (h1.trans g7) h2 (fun j hj => by injection hj with hj; exact .inl (by omega))
/-- How a read entry is handed back. -/
theorem e8_ok {w U w7 w9 wc wn X : World} {p : Nat} {E : Option Addr} {en ec : Nat} {xs ah : List UInt8} {a : Nat} {K V : Option Addr} {kn kc vn vc sq kd : Nat} {q : Array Value} (bU : Below w.heap.size w U) (hU : w.heap.size < U.heap.size) (g7 : U.grownBy w7 (some p)) (z7 : Cl w7 w.heap.size q 49) (hq : q.size = 4) (r7 : Rdr w7 p E en ec (e7R xs a).2) (hp : p < w.heap.size)
    (b79 : Below w7.heap.size w7 w9) (oK : Own 5 w9 w7.heap.size K kn kc (entR xs ah a).key) (hc9 : w9.heap.size = wc.heap.size) (b9n : Below w9.heap.size w9 wn) (oV : Own 5 wn wc.heap.size V vn vc (entR xs ah a).val)
    (hbad : badR xs ah a = false) (hsq : (entR xs ah a).seq = sq) (hkd : (entR xs ah a).kind = kd)
    (hX : X = (((wn.setCell ⟨w.heap.size, 0, none⟩ (.slice K kn kc)).setCell ⟨w.heap.size, 1, none⟩ (.int .u64 (sq : Int))).setCell ⟨w.heap.size, 2, none⟩ (.int .u8 (kd : Int))).setCell ⟨w.heap.size, 3, none⟩ (.slice V vn vc)) :
    Cl X w.heap.size #[.slice K kn kc, .int .u64 (sq : Int), .int .u8 (kd : Int), .slice V vn vc] 49 ∧
    RetE8 w p E en ec xs ah a (.returned (.tuple #[.agg #[.slice K kn kc, .int .u64 (sq : Int), .int .u8 (kd : Int), .slice V vn vc], .bool true])) X := by
  have s7 := g7.size
  have s79 := b79.size
  have b7n : Below w7.heap.size w7 wn := b79.trans (b9n.mono s79)
  have gn : U.grownBy wn (some p) := g7.trans ⟨b7n.os, b7n.tape, b7n.output, b7n.size, fun i hi _ => b7n.block i hi⟩
  obtain ⟨q1, q2, q3⟩ := e8_fin bU gn (z7.below b7n) hq ((show Cl w7 p _ _ from r7).below b7n) hp hX
  have oK2 := oK.below b9n
  have oV2 := oV.mono (show w7.heap.size ≤ wc.heap.size by omega)
  have dj : Dj K V := Dj.old oK oV (by omega)
  refine ⟨q3, q1, q2, .inr ⟨hbad, K, kn, kc, V, vn, vc, by rw [hsq, hkd], ?_, ?_, dj⟩⟩
  · rw [hX]
    exact ((((oK2.set (by omega) 0 _).set (by omega) 1 _).set (by omega) 2 _).set (by omega) 3 _).mono (by omega)
  · rw [hX]
    exact ((((oV2.set (by omega) 0 _).set (by omega) 1 _).set (by omega) 2 _).set (by omega) 3 _).mono (by omega)
set_option maxRecDepth 100000 in
set_option maxHeartbeats 16000000 in
theorem entry_any (w : World) (p : Nat) (E : Option Addr) (en ec : Nat) (xs : List UInt8) (A : Option Addr) (an ac : Nat) (ah : List UInt8) (a : Nat) (h : Rdr w p E en ec (a, false)) (hr : Rd w E en xs) (hA : Rd w A an ah) (ha : a ≤ en) (hn : en ≤ 1099511627776) (hc : en ≤ ec) (hnil : E = none → ec = 0)
    (han : an ≤ 1048576) (hac : an ≤ ac) (hpe : blk E ≠ some p) (hpa : blk A ≠ some p) (hanil : A = none → ac = 0) :
    Calls Tryz.prog 215 #[.pointer (some ⟨p, 0, none⟩), .slice A an ac] w (RetE8 w p E en ec xs ah a) := by
  have hxl := hr.len
  obtain ⟨g, hg⟩ : ∃ g, g = w.heap.size := ⟨_, rfl⟩
  have hpg : p < g := by rw [hg]; exact (show Cl w p _ _ from h).lt
  obtain ⟨U, hU⟩ : ∃ U, U = w.alloc (.cells #[.slice none 0 0, .int .u64 0, .int .u8 0, .slice none 0 0] 49) := ⟨_, rfl⟩
  have bU : Below w.heap.size w U := by rw [hU]; exact (Below.refl _ _).alloc (Nat.le_refl _) _
  have hU1 : Rdr U p E en ec (a, false) := (show Cl w p _ _ from h).below bU
  have zU : Cl U g #[.slice none 0 0, .int .u64 0, .int .u8 0, .slice none 0 0] 49 := by rw [hU, hg]; exact Cl.new _ _ _
  -- what stands whenever the reader alone has changed
  have KE : Hid (∀ wx, U.grownBy wx (some p) → Rd wx E en xs ∧ Rd wx A an ah ∧ Cl wx g #[.slice none 0 0, .int .u64 0, .int .u8 0, .slice none 0 0] 49) := Lib.hid (fun wx hgx => ⟨(hr.below bU).keptG hgx (fun b hb e => hpe (by rw [hb]; exact e.symm)), (hA.below bU).keptG hgx (fun b hb e => hpa (by rw [hb]; exact e.symm)), ClG.grown zU hgx (fun e => by injection e with e; omega)⟩)
  have h1 : (e1R xs a).2.1 ≤ en ∧ (e1R xs a).1 < B64 := by have := numR_le (xs := xs) (s := (a, false)) (by simp only; omega); rw [← hxl]; exact this
  have h2 : (e2R xs a).2.1 ≤ en ∧ (e2R xs a).1 < B64 := by have := numR_le (xs := xs) (s := (e1R xs a).2) (by omega); rw [← hxl]; exact this
  have h3 : (e3R xs a).2.1 ≤ en ∧ (e3R xs a).1 < B64 := by have := numR_le (xs := xs) (s := (e2R xs a).2) (by omega); rw [← hxl]; exact this
  have h4 : (e4R xs a).2.1 ≤ en := by have := (takeR_le (xs := xs) (n := 1) (s := (e3R xs a).2) (by omega)).1; rw [← hxl]; exact this
  have h5 : (e5R xs a).2.1 ≤ en ∧ (e5R xs a).1 < B64 := by have := numR_le (xs := xs) (s := (e4R xs a).2) (by omega); rw [← hxl]; exact this
  have h6 : (e6R xs a).2.1 ≤ en := by have := (takeR_le (xs := xs) (n := (e2R xs a).1) (s := (e5R xs a).2) (by omega)).1; rw [← hxl]; exact this
  -- the calls, each from whatever the reader alone has changed
  have C1 : Hid (Calls Tryz.prog 235 #[.pointer (some ⟨p, 0, none⟩)] U (RetN U p E en ec (e1R xs a))) := Lib.hid (number_any U p E en ec xs a false hU1 (hr.below bU) ha hn hc)
  have C2 : Hid (∀ wx, U.grownBy wx (some p) → Rdr wx p E en ec (e1R xs a).2 → Calls Tryz.prog 235 #[.pointer (some ⟨p, 0, none⟩)] wx (RetN wx p E en ec (e2R xs a))) := Lib.hid (fun wx hw hc2 => number_any wx p E en ec xs _ _ hc2 (KE.out wx hw).1 h1.1 hn hc)
  have C3 : Hid (∀ wx, U.grownBy wx (some p) → Rdr wx p E en ec (e2R xs a).2 → Calls Tryz.prog 235 #[.pointer (some ⟨p, 0, none⟩)] wx (RetN wx p E en ec (e3R xs a))) := Lib.hid (fun wx hw hc2 => number_any wx p E en ec xs _ _ hc2 (KE.out wx hw).1 h2.1 hn hc)
  have C4 : Hid (∀ wx, U.grownBy wx (some p) → Rdr wx p E en ec (e3R xs a).2 → Calls Tryz.prog 236 #[.pointer (some ⟨p, 0, none⟩), .int .u64 1] wx (RetT8 wx p E en ec xs (e4R xs a))) := Lib.hid (fun wx hw hc2 => take_any wx p E en ec xs 1 _ _ hc2 hxl h3.1 hn hc (by unfold B64; omega) hnil)
  have C5 : Hid (∀ wx, U.grownBy wx (some p) → Rdr wx p E en ec (e4R xs a).2 → Calls Tryz.prog 235 #[.pointer (some ⟨p, 0, none⟩)] wx (RetN wx p E en ec (e5R xs a))) := Lib.hid (fun wx hw hc2 => number_any wx p E en ec xs _ _ hc2 (KE.out wx hw).1 h4 hn hc)
  have C6 : Hid (∀ wx, U.grownBy wx (some p) → Rdr wx p E en ec (e5R xs a).2 → Calls Tryz.prog 236 #[.pointer (some ⟨p, 0, none⟩), .int .u64 ((e2R xs a).1 : Int)] wx (RetT8 wx p E en ec xs (e6R xs a))) := Lib.hid (fun wx hw hc2 => take_any wx p E en ec xs _ _ _ hc2 hxl h5.1 hn hc h2.2 hnil)
  have C7 : Hid (∀ wx, U.grownBy wx (some p) → Rdr wx p E en ec (e6R xs a).2 → Calls Tryz.prog 236 #[.pointer (some ⟨p, 0, none⟩), .int .u64 ((e5R xs a).1 : Int)] wx (RetT8 wx p E en ec xs (e7R xs a))) := Lib.hid (fun wx hw hc2 => take_any wx p E en ec xs _ _ _ hc2 hxl h6 hn hc h5.2 hnil)
  have BU := Lib.hid bU
  have HU := Lib.hid hU
  have HG := Lib.hid hg
  have hsh := h1.2
  unfold B64 at hsh
  obtain ⟨sh, hshe⟩ : ∃ sh, sh = (e1R xs a).1 := ⟨_, rfl⟩
  obtain ⟨lf, hlfe⟩ : ∃ lf, lf = (e2R xs a).1 := ⟨_, rfl⟩
  obtain ⟨sq, hsqe⟩ : ∃ sq, sq = (e3R xs a).1 := ⟨_, rfl⟩
  obtain ⟨sz, hsze⟩ : ∃ sz, sz = (e5R xs a).1 := ⟨_, rfl⟩
  have HSH := Lib.hid hshe
  have HLF := Lib.hid hlfe
  have HSQ := Lib.hid hsqe
  have HSZ := Lib.hid hsze
  rw [← hshe] at hsh
  have HEB : Hid (∀ b, blk E = some b → 0 < en → b < w.heap.size) := Lib.hid (fun b hb hp => by
    obtain ⟨b', o', e, hb2⟩ := hr.pos hp
    rw [e] at hb
    injection hb with hb
    simp only at hb
    omega)
  clear h hr hA hU hU1 zU bU h1 h2 h3 h4 h5 h6 hg hshe hlfe hsqe hsze
  go_enter Tryz.func215, Tryz.ntmps215
  go_upto_region 1 with (fail)
  rw [← HU.out]
  go_wp2_with fail
  with_reducible refine C1.out.mono ?_
  intro e w1 hq
  obtain ⟨he, r1, g1⟩ := RetN.out hq
  subst he
  rw [← HSH.out]
  go_wp2_with fail
  with_reducible refine (C2.out _ g1 r1).mono ?_
  clear hq
  intro e w2 hq
  obtain ⟨he, r2, g2⟩ := RetN.out hq
  subst he
  rw [← HLF.out]
  have g2 := g1.trans g2
  clear hq r1 g1 C1 C2
  go_wp2_with fail
  with_reducible refine (C3.out _ g2 r2).mono ?_
  intro e w3 hq
  obtain ⟨he, r3, g3⟩ := RetN.out hq
  subst he
  rw [← HSQ.out]
  have g3 := g2.trans g3
  clear hq r2 g2 C3
  go_wp2_with fail
  with_reducible refine (C4.out _ g3 r3).mono ?_
  rintro e w4 ⟨B4, k4, d4, rfl, r4, g4, x41, x42, x43, x44, x45⟩
  have g4 := g3.trans g4
  have X4 := Lib.hid (And.intro x41 (And.intro x42 (And.intro x43 (And.intro x44 x45))))
  clear r3 g3 C4 x41 x42 x43 x44 x45
  go_wp2_with fail
  with_reducible refine (C5.out _ g4 r4).mono ?_
  intro e w5 hq
  obtain ⟨he, r5, g5⟩ := RetN.out hq
  subst he
  rw [← HSZ.out]
  have g5 := g4.trans g5
  clear hq r4 g4 C5
  rw [← HLF.out] at C6
  rw [← HSZ.out] at C7
  go_wp2_with fail
  with_reducible refine (C6.out _ g5 r5).mono ?_
  rintro e w6 ⟨B6, k6, d6, rfl, r6, g6, x61, x62, x63, x64, x65⟩
  have g6 := g5.trans g6
  have X6 := Lib.hid (And.intro x61 (And.intro x62 (And.intro x63 (And.intro x64 x65))))
  clear r5 g5 C6 x61 x62 x63 x64 x65
  go_wp2_with fail
  with_reducible refine (C7.out _ g6 r6).mono ?_
  rintro e w7 ⟨B7, k7, d7, rfl, r7, g7, x71, x72, x73, x74, x75⟩
  have g7 := g6.trans g7
  have X7 := Lib.hid (And.intro x71 (And.intro x72 (And.intro x73 (And.intro x74 x75))))
  clear r6 g6 C7 x71 x72 x73 x74 x75
  have hxl2 : ah.length = an := (KE.out U (World.grownBy.refl _ _)).2.1.len
  obtain ⟨bad, hbad⟩ : ∃ bad, bad = (e7R xs a).2.2 := ⟨_, rfl⟩
  have hc7 : Cl w7 p #[.slice E en ec, .int .i64 ((e7R xs a).2.1 : Int), .bool bad] 269 := by rw [hbad]; exact r7
  obtain ⟨c0, c1, c2, f0, f1, f2⟩ := hc7.c3
  have hk6 := X6.out.2.2.1
  have hk6b : k6 ≤ en := by
    have h1 := (takeR_le (xs := xs) (n := (e2R xs a).1) (s := (e5R xs a).2))
    rw [← hk6]
    unfold e6R
    unfold takeR
    split
    · simp
    · simp only [List.length_take, List.length_drop]; omega
  obtain ⟨_, _, z7⟩ := KE.out w7 g7
  rw [HG.out] at z7
  obtain ⟨zc0, zc1, zc2, zc3, zf0, zf1, zf2, zf3⟩ := z7.c4
  have R7 := Lib.hid r7
  have G7 := Lib.hid g7
  have Z7 := Lib.hid z7
  have HB := Lib.hid hbad
  have HK6 := Lib.hid hk6
  have HXL2 := Lib.hid hxl2
  have hgw : U.heap.size ≤ w7.heap.size := g7.size
  clear r7 g7 hc7 z7 hbad hk6 hxl2
  have hpw : p < w.heap.size := by have := HG.out; omega
  cases bad with
  | true =>
    have HBAD : Hid (badR xs ah a = true) := Lib.hid (by unfold badR; rw [← HB.out]; rfl)
    go_wp2_with fail
    obtain ⟨X, hX⟩ : ∃ X, X = (((w7.setCell ⟨w.heap.size, 0, none⟩ (.slice none 0 0)).setCell ⟨w.heap.size, 1, none⟩ (.int .u64 0)).setCell ⟨w.heap.size, 2, none⟩ (.int .u8 0)).setCell ⟨w.heap.size, 3, none⟩ (.slice none 0 0) := ⟨_, rfl⟩
    rw [← hX]
    obtain ⟨q1, q2, q3⟩ := e8_fin BU.out G7.out Z7.out rfl R7.out (by omega) hX
    obtain ⟨x0, x1, x2, x3, _⟩ := q3.c4
    refine bodyPost_ret (v := .tuple #[.agg #[.slice none 0 0, .int .u64 0, .int .u8 0, .slice none 0 0], .bool false]) (by simp [results, Tryz.results215, go_sem, x0, x1, x2, x3]; try rfl) rfl ⟨q1, q2, .inl ⟨HBAD.out, rfl⟩⟩
  | false =>
    by_cases hs : an < sh
    · have hs' : (an : Int) < (sh : Int) := by omega
      have HBAD : Hid (badR xs ah a = true) := Lib.hid (by
        unfold badR
        rw [← HB.out, HXL2.out, ← HSH.out]
        simp [hs])
      go_wp2_with fail
      obtain ⟨X, hX⟩ : ∃ X, X = (((w7.setCell ⟨w.heap.size, 0, none⟩ (.slice none 0 0)).setCell ⟨w.heap.size, 1, none⟩ (.int .u64 0)).setCell ⟨w.heap.size, 2, none⟩ (.int .u8 0)).setCell ⟨w.heap.size, 3, none⟩ (.slice none 0 0) := ⟨_, rfl⟩
      rw [← hX]
      obtain ⟨q1, q2, q3⟩ := e8_fin BU.out G7.out Z7.out rfl R7.out (by omega) hX
      obtain ⟨x0, x1, x2, x3, _⟩ := q3.c4
      refine bodyPost_ret (v := .tuple #[.agg #[.slice none 0 0, .int .u64 0, .int .u8 0, .slice none 0 0], .bool false]) (by simp [results, Tryz.results215, go_sem, x0, x1, x2, x3]; try rfl) rfl ⟨q1, q2, .inl ⟨HBAD.out, rfl⟩⟩
    · have hs' : ¬ (an : Int) < (sh : Int) := by omega
      have e1 : IntKind.i64.wrap (sh : Int) = (sh : Int) := IntWalk.i64_in _ (by omega)
      have e2 : IntKind.i64.wrap ((sh : Int) + (k6 : Int)) = (sh : Int) + (k6 : Int) := IntWalk.i64_in _ (by omega)
      by_cases hk : 1024 < sh + k6
      · have hk' : (1024 : Int) < (sh : Int) + (k6 : Int) := by omega
        have HBAD : Hid (badR xs ah a = true) := Lib.hid (by
          unfold badR
          rw [HK6.out, ← HSH.out]
          simp [hk])
        go_wp2_with fail
        obtain ⟨X, hX⟩ : ∃ X, X = (((w7.setCell ⟨w.heap.size, 0, none⟩ (.slice none 0 0)).setCell ⟨w.heap.size, 1, none⟩ (.int .u64 0)).setCell ⟨w.heap.size, 2, none⟩ (.int .u8 0)).setCell ⟨w.heap.size, 3, none⟩ (.slice none 0 0) := ⟨_, rfl⟩
        rw [← hX]
        obtain ⟨q1, q2, q3⟩ := e8_fin BU.out G7.out Z7.out rfl R7.out (by omega) hX
        obtain ⟨x0, x1, x2, x3, _⟩ := q3.c4
        refine bodyPost_ret (v := .tuple #[.agg #[.slice none 0 0, .int .u64 0, .int .u8 0, .slice none 0 0], .bool false]) (by simp [results, Tryz.results215, go_sem, x0, x1, x2, x3]; try rfl) rfl ⟨q1, q2, .inl ⟨HBAD.out, rfl⟩⟩
      · have hk' : ¬ (1024 : Int) < (sh : Int) + (k6 : Int) := by omega
        have HOK : Hid (badR xs ah a = false) := Lib.hid (by
          unfold badR
          rw [← HB.out, HXL2.out, HK6.out, ← HSH.out]
          simp [hs, hk])
        have hE7 := (KE.out w7 G7.out).1
        have hA7 := (KE.out w7 G7.out).2.1
        have hk4 : k4 = 1 := by
          rw [← X4.out.2.2.1]
          exact e4_one (by rw [(KE.out U (World.grownBy.refl _ _)).1.len]; exact ha) HB.out.symm
        subst hk4
        have r4 := X4.out.2.2.2.1 w7 hE7
        obtain ⟨b4, o4, rfl, hb4⟩ := r4.pos (by omega)
        have hb4w : b4 ≠ w.heap.size := by
          have h1 : blk E = some b4 := by
            rcases X4.out.2.2.2.2 with e | e
            · cases e
            · exact e.symm
          have h2 : 0 < en := by
            rcases Nat.eq_zero_or_pos en with e | e
            · have := (hE7.len.trans e)
              have h3 := X4.out.2.2.1
              unfold e4R takeR at h3
              rw [if_pos (by omega)] at h3
              cases h3
            · exact e
          have := HEB.out b4 h1 h2
          omega
        have hb4 : b4 < w7.heap.size := hb4
        obtain ⟨kd, hkd1, hkd2, _⟩ := r4.at_ 0 (by omega)
        have hkd2 : w7.cell? ⟨b4, o4, none⟩ = some (.int .u8 (kd.toNat : Int)) := hkd2
        have hkind : (entR xs ah a).kind = kd.toNat := by
          unfold entR
          simp only
          cases hq : (e4R xs a).1 with
          | nil => rw [hq] at hkd1; cases hkd1
          | cons y ys => rw [hq] at hkd1; injection hkd1 with hkd1; rw [hkd1]; rfl
        have r7v := X7.out.2.2.2.1 w7 hE7
        have hk7 : k7 ≤ en := by
          have h1 := (takeR_le (xs := xs) (n := (e5R xs a).1) (s := (e6R xs a).2))
          rw [← X7.out.2.2.1]
          have hlen := hE7.len
          unfold e7R takeR
          split
          · simp
          · simp only [List.length_take, List.length_drop]; omega
        have hsl : ∀ W : World, (Instr.slice 29 (.slice A an ac) none (some (.int .u64 (sh : Int))) none).run Tryz.prog W = .ok (.slice A sh ac) W :=
          cut_hu Tryz.underlying29 elem_bytes size_u8 A (by omega)
        have hCC := Concat_any (some ⟨w7.heap.size, 0, none⟩) 2 2 [ah.take sh, (e6R xs a).1] _ (rdl_two8 (w := w7) (t := 29) ⟨A, sh, ac, rfl, hA7.take (by omega), by omega, hanil⟩ ⟨B6, k6, d6, rfl, X6.out.2.2.2.1 w7 hE7, X6.out.1, X6.out.2.1⟩ _ rfl) (by
          simp only [tot, List.length_take, HK6.out, HXL2.out]
          omega)
        have hfl : [ah.take sh, (e6R xs a).1].flatten = (entR xs ah a).key := by
          unfold entR
          rw [← HSH.out]
          simp
        rw [hfl] at hCC
        have HCC := Lib.hid hCC
        have R4C := Lib.hid hkd2
        have HKD := Lib.hid hkind
        have R7V := Lib.hid r7v
        have hval : (entR xs ah a).val = (e7R xs a).1 := rfl
        rw [← hval] at R7V
        have hkn7 : k7 ≤ 140737488355328 := by omega
        clear hE7 hA7 r4 hkd1 hkd2 hkind r7v hCC hfl hval hk7 X4
        go_wp2_with fail
        with_reducible refine HCC.out.mono ?_
        intro e w9 hq
        obtain ⟨K, kn, kc, he, oK, b9⟩ := Made.outM hq
        subst he
        have b79 : Below w7.heap.size w7 w9 := ((Below.refl _ _).alloc (Nat.le_refl _) _).trans (b9.mono (by simp))
        have oK2 := oK.mono (show w7.heap.size ≤ _ by simp)
        have s79 := b79.size
        have HS : Hid (∀ wx, Below w9.heap.size w9 wx → wx.cell? ⟨b4, o4, none⟩ = some (.int .u8 (kd.toNat : Int)) ∧ wx.cell? ⟨w.heap.size, 0, none⟩ = some (.slice none 0 0) ∧ wx.cell? ⟨w.heap.size, 1, none⟩ = some (.int .u64 0) ∧ wx.cell? ⟨w.heap.size, 2, none⟩ = some (.int .u8 0) ∧ wx.cell? ⟨w.heap.size, 3, none⟩ = some (.slice none 0 0) ∧ wx.frozen? ⟨w.heap.size, 0, none⟩ = false ∧ wx.frozen? ⟨w.heap.size, 1, none⟩ = false ∧ wx.frozen? ⟨w.heap.size, 2, none⟩ = false ∧ wx.frozen? ⟨w.heap.size, 3, none⟩ = false) := Lib.hid (fun wx hb => by
          have hb7 : Below w7.heap.size w7 wx := b79.trans (hb.mono s79)
          obtain ⟨t0, t1, t2, t3, y0, y1, y2, y3⟩ := (Z7.out.below hb7).c4
          exact ⟨(hb7.cell (p := ⟨b4, o4, none⟩) hb4).trans R4C.out, t0, t1, t2, t3, y0, y1, y2, y3⟩)
        have HCL : Hid (∀ wx, Below w9.heap.size w9 wx → Calls Tryz.prog 122 #[.slice B7 k7 d7] wx (Made wx.heap.size wx (entR xs ah a).val)) := Lib.hid (fun wx hb => Clone_any B7 k7 d7 _ wx (R7V.out.below (b79.trans (hb.mono s79))) hkn7 X7.out.2.1)
        have hB0 : Below w9.heap.size w9 w9.drew := (Below.refl _ _).drew
        have HOK9 := Lib.hid (And.intro oK2 b79)
        clear hq oK b9 b79 oK2 HCC zc0 zc1 zc2 zc3 zf0 zf1 zf2 zf3 c0 c1 c2 f0 f1 f2
        obtain ⟨zc, zc0, zc1, zc2, zc3, zf0, zf1, zf2, zf3⟩ := HS.out w9 (Below.refl _ _)
        go_wp2_with fail
        have HK4 : Hid (∀ (wx : World) (a b c d : Value), wx.cell? ⟨b4, o4, none⟩ = some (.int .u8 (kd.toNat : Int)) → ((((wx.setCell ⟨w.heap.size, 0, none⟩ a).setCell ⟨w.heap.size, 1, none⟩ b).setCell ⟨w.heap.size, 2, none⟩ c).setCell ⟨w.heap.size, 3, none⟩ d).cell? ⟨b4, o4, none⟩ = some (.int .u8 (kd.toNat : Int))) := Lib.hid (fun wx a b c d h => by
          rw [cell_far _ _ _ _ hb4w, cell_far _ _ _ _ hb4w, cell_far _ _ _ _ hb4w, cell_far _ _ _ _ hb4w]
          exact h)
        go_region_held3 (fun wx => wx.cell? ⟨b4, o4, none⟩ = some (.int .u8 (kd.toNat : Int))) (first | with_reducible assumption | with_reducible exact (HS.out _ hB0).1 | with_reducible exact HK4.out _ _ _ _ _ yc)
          (first | (go_at_call 122; with_reducible refine (HCL.out _ (by assumption)).mono ?_; intro e1 wn hq; obtain ⟨V, vn, vc, h1, oV, bn⟩ := Made.outM hq; subst h1; have bn' := belowT' (by assumption : Below w9.heap.size w9 _) bn; have hS1 := HS.out _ bn'; obtain ⟨yc, yc0, yc1, yc2, yc3, yf0, yf1, yf2, yf3⟩ := hS1))
        all_goals
          have hUw : w.heap.size < U.heap.size := by rw [HU.out]; simp
          have hsq : (entR xs ah a).seq = sq := HSQ.out.symm
          obtain ⟨X, hX⟩ : ∃ X, X = (((wn.setCell ⟨w.heap.size, 0, none⟩ (.slice K kn kc)).setCell ⟨w.heap.size, 1, none⟩ (.int .u64 (sq : Int))).setCell ⟨w.heap.size, 2, none⟩ (.int .u8 (kd.toNat : Int))).setCell ⟨w.heap.size, 3, none⟩ (.slice V vn vc) := ⟨_, rfl⟩
          obtain ⟨q1, q2⟩ := e8_ok BU.out hUw G7.out Z7.out rfl R7.out (by omega) HOK9.out.2 HOK9.out.1 rfl bn' oV HOK.out hsq HKD.out hX
          obtain ⟨x0, x1, x2, x3, _⟩ := q1.c4
          have HQ2 := Lib.hid q2
          rw [← hX]
          clear hX q1 q2 hsq zc zc0 zc1 zc2 zc3 zf0 zf1 zf2 zf3 yc yc0 yc1 yc2 yc3 yf0 yf1 yf2 yf3
          go_wp2_with fail
          refine bodyPost_ret (v := .tuple #[.agg #[.slice K kn kc, .int .u64 (sq : Int), .int .u8 (kd.toNat : Int), .slice V vn vc], .bool true]) (by simp [results, Tryz.results215, go_sem, x0, x1, x2, x3]; try rfl) rfl HQ2.out
end Go.Proofs.YtbgelbdnkbhffaaGreat
namespace Go.Proofs.YtbgelbdnkbhffaaGreat
open Go Go.RowKit

theorem putB_only {fs : List UInt8} {b d : Nat} (hne : b ≠ d) : setB (putB fs b) d = setB fs d := by
  by_cases e : d / 8 = b / 8
  · by_cases hl : b / 8 < fs.length
    · have hp : 2 ^ (b % 8) < 256 := Nat.lt_of_lt_of_le (Nat.pow_lt_pow_right (by omega) (Nat.mod_lt b (by omega))) (by decide)
      have hm : b % 8 ≠ d % 8 := by omega
      rw [setB_eq, setB_eq]
      unfold putB
      rw [e, List.getElem?_set_self hl, Option.getD_some, toNat_or (UInt8.toNat_lt _) hp, Nat.testBit_or, Nat.testBit_two_pow_of_ne hm, Bool.or_false]
    · unfold putB
      rw [List.set_eq_of_length_le (by omega)]
  · rw [setB_eq, setB_eq, putB_off (fun e2 => e e2.symm)]
/-- One bit more among the bools. -/
def putO (bs : List Bool) (b : Nat) : List Bool := bs.set b true
/-- 'The bools are the filter's bits.' -/
def Bits (n : Nat) (fs : List UInt8) (bs : List Bool) : Prop := fs.length = n + 1 ∧ bs.length = 8 * n ∧ ∀ d, d < 8 * n → bs[d]? = some (setB fs d)
theorem Bits.put {n : Nat} {fs : List UInt8} {bs : List Bool} (h : Bits n fs bs) {b : Nat} (hb : b < 8 * n) : Bits n (putB fs b) (putO bs b) := by
  refine ⟨by rw [putB_len]; exact h.1, by rw [putO, List.length_set]; exact h.2.1, fun d hd => ?_⟩
  unfold putO
  by_cases e : b = d
  · subst e
    rw [List.getElem?_set_self (by rw [h.2.1]; exact hb), putB_self (by have := h.1; omega)]
  · rw [List.getElem?_set_ne e, putB_only e]
    exact h.2.2 d hd
theorem Bits.zero (n : Nat) (x : UInt8) : Bits n ((List.replicate (n + 1) 0).set n x) (List.replicate (8 * n) false) := by
  refine ⟨by simp, by simp, fun d hd => ?_⟩
  rw [List.getElem?_replicate, if_pos hd, setB_eq, List.getElem?_set_ne (by omega), List.getElem?_replicate, if_pos (by omega)]
  simp
/-- Eight bools as a number, from the highest. -/
def byteO (bs : List Bool) (i : Nat) : Nat → Nat
  | 0 => 0
  | k + 1 => 2 * byteO bs i k + (if bs[i + (7 - k)]?.getD false then 1 else 0)
theorem byteO_lt (bs : List Bool) (i : Nat) : ∀ k, byteO bs i k < 2 ^ k
  | 0 => by simp [byteO]
  | k + 1 => by
    have := byteO_lt bs i k
    unfold byteO
    rw [Nat.pow_succ]
    split <;> omega
theorem bit_if (a : Nat) : (if a % 2 = 1 then 1 else 0) = a % 2 := by split <;> omega
theorem Bits.byte {n : Nat} {fs : List UInt8} {bs : List Bool} (h : Bits n fs bs) {i : Nat} (hi : i < n) {x : UInt8} (hx : fs[i]? = some x) : byteO bs (8 * i) 8 = x.toNat := by
  have hb : ∀ j, j < 8 → bs[8 * i + j]?.getD false = decide (x.toNat / 2 ^ j % 2 = 1) := fun j hj => by
    rw [h.2.2 _ (by omega), Option.getD_some, setB]
    rw [show (8 * i + j) / 8 = i by omega, show (8 * i + j) % 8 = j by omega, hx]
  have h0 := hb 0 (by omega)
  have h1 := hb 1 (by omega)
  have h2 := hb 2 (by omega)
  have h3 := hb 3 (by omega)
  have h4 := hb 4 (by omega)
  have h5 := hb 5 (by omega)
  have h6 := hb 6 (by omega)
  have h7 := hb 7 (by omega)
  have hl := x.toNat_lt
  simp only [byteO, Nat.sub_zero, Nat.reduceSub, h0, h1, h2, h3, h4, h5, h6, h7, decide_eq_true_eq]
  simp only [bit_if, Nat.reducePow, Nat.div_one]
  omega
end Go.Proofs.YtbgelbdnkbhffaaGreat
namespace Go.Proofs.YtbgelbdnkbhffaaGreat
open Go Go.RowKit Go.Maps

theorem Dclone (s : ByteArray) (w : World) (hs : s.size ≤ 281474976710656) : Calls Tryz.prog 132 #[.string s] w fun e w' => e = .returned (.string s) ∧ Below w.heap.size w w' := by
  go_enter Tryz.func132, Tryz.ntmps132
  go_wp2_with fail
  refine (lib_stringslite_Clone s _ hs).mono ?_
  rintro e w' ⟨rfl, hb⟩
  go_wp2
  go_ret
  exact ⟨rfl, hb⟩
theorem eqlMap (m : Option Nat) (w : World) : (binOp .eql 113 (.map m) (.map none)).run Tryz.prog w = .ok (.bool m.isNone) w := by
  simp only [binOp]
  simp [run_equal_map_nil w 113 9 133 m Tryz.underlying113]

/-- A file put into its place. -/
def putR (r : FR) : List FR → List FR
  | [] => [r]
  | q :: t => if q.name = r.name then r :: t else if r.name < q.name then r :: q :: t else q :: putR r t
def putF (f : FE) : List FE → List FE
  | [] => [f]
  | q :: t => if q.1 = f.1 then f :: t else if f.1 < q.1 then f :: q :: t else q :: putF f t
theorem putR_val (r : FR) : ∀ rs : List FR, (putR r rs).map FR.val = putF r.val (rs.map FR.val)
  | [] => rfl
  | q :: t => by
    have ih := putR_val r t
    simp only [putR, putF, List.map_cons]
    show _ = if q.name = r.name then _ else if r.name < q.name then _ else _
    split
    · rfl
    · split
      · rfl
      · rw [List.map_cons, ih]
theorem putR_sub (r : FR) : ∀ (rs : List FR) (q : FR), q ∈ putR r rs → q = r ∨ q ∈ rs
  | [], q, h => by simp [putR] at h; exact .inl h
  | a :: t, q, h => by
    simp only [putR] at h
    split at h
    · rcases List.mem_cons.1 h with h | h
      · exact .inl h
      · exact .inr (List.mem_cons_of_mem _ h)
    · split at h
      · rcases List.mem_cons.1 h with h | h
        · exact .inl h
        · exact .inr h
      · rcases List.mem_cons.1 h with h | h
        · exact .inr (by rw [h]; exact List.mem_cons_self ..)
        · rcases putR_sub r t q h with h | h
          · exact .inl h
          · exact .inr (List.mem_cons_of_mem _ h)
theorem putF_sub (r : FE) : ∀ (rs : List FE) (q : FE), q ∈ putF r rs → q = r ∨ q ∈ rs
  | [], q, h => by simp [putF] at h; exact .inl h
  | a :: t, q, h => by
    simp only [putF] at h
    split at h
    · rcases List.mem_cons.1 h with h | h
      · exact .inl h
      · exact .inr (List.mem_cons_of_mem _ h)
    · split at h
      · rcases List.mem_cons.1 h with h | h
        · exact .inl h
        · exact .inr h
      · rcases List.mem_cons.1 h with h | h
        · exact .inr (by rw [h]; exact List.mem_cons_self ..)
        · rcases putF_sub r t q h with h | h
          · exact .inl h
          · exact .inr (List.mem_cons_of_mem _ h)
theorem nlt_trans {a b c : List UInt8} (h : a < b) (h2 : b < c) : a < c := List.lt_trans h h2
theorem nlt_irrefl (a : List UInt8) : ¬ a < a := List.lt_irrefl a
theorem nlt_ne {a b : List UInt8} (h : a < b) : a ≠ b := fun e => by subst e; exact nlt_irrefl a h
theorem nlt_tri {a b : List UInt8} (h : a ≠ b) (h2 : ¬ a < b) : b < a := by
  by_cases h3 : b < a
  · exact h3
  · exact absurd (List.le_antisymm (List.not_lt.1 h3) (List.not_lt.1 h2)) h
def rsUp (rs : List FR) : Prop := rs.Pairwise fun a b => a.name < b.name
theorem rsUp_of {rs : List FR} (h : risingF (rs.map FR.val)) : rsUp rs := by
  unfold risingF at h
  rw [List.pairwise_map] at h
  exact h
theorem putR_pair {r : FR} {S : FR → FR → Prop} (hs : ∀ a b, S a b → S b a) : ∀ {rs : List FR}, rs.Pairwise S → (∀ q ∈ rs, q.name ≠ r.name → S r q) → rsUp rs → (putR r rs).Pairwise S
  | [], _, _, _ => List.pairwise_singleton _ _
  | a :: t, hp, hr, hn => by
    unfold rsUp at hn
    rw [List.pairwise_cons] at hp hn
    simp only [putR]
    split
    · next e => exact List.pairwise_cons.2 ⟨fun q hq => hr q (List.mem_cons_of_mem _ hq) (fun e2 => nlt_ne (hn.1 q hq) (by rw [e, e2])), hp.2⟩
    · next e =>
      split
      · next e3 =>
        refine List.pairwise_cons.2 ⟨fun q hq => ?_, List.pairwise_cons.2 hp⟩
        rcases List.mem_cons.1 hq with h | h
        · rw [h]; exact hr a (List.mem_cons_self ..) e
        · exact hr q (List.mem_cons_of_mem _ h) (fun e2 => nlt_ne (nlt_trans e3 (hn.1 q h)) e2.symm)
      · refine List.pairwise_cons.2 ⟨fun q hq => ?_, putR_pair hs hp.2 (fun q hq => hr q (List.mem_cons_of_mem _ hq)) hn.2⟩
        rcases putR_sub r t q hq with h | h
        · rw [h]; exact hs _ _ (hr a (List.mem_cons_self ..) e)
        · exact hp.1 q h
theorem putR_len_new {r : FR} : ∀ {rs : List FR}, (∀ q ∈ rs, q.name ≠ r.name) → (putR r rs).length = rs.length + 1
  | [], _ => rfl
  | a :: t, h => by
    simp only [putR]
    rw [if_neg (h a (List.mem_cons_self ..))]
    split
    · rfl
    · rw [List.length_cons, putR_len_new (fun q hq => h q (List.mem_cons_of_mem _ hq)), List.length_cons]
theorem putR_any {r : FR} (x : List UInt8) : ∀ {rs : List FR}, (∀ q ∈ rs, q.name ≠ r.name) → (putR r rs).any (fun q => q.name == x) = (r.name == x || rs.any (fun q => q.name == x))
  | [], _ => by simp [putR]
  | a :: t, h => by
    simp only [putR]
    rw [if_neg (h a (List.mem_cons_self ..))]
    split
    · simp
    · rw [List.any_cons, putR_any x (fun q hq => h q (List.mem_cons_of_mem _ hq)), List.any_cons]
      cases (r.name == x) <;> cases (a.name == x) <;> simp
/-- The map with one more file. -/
theorem MR.put {Dm : DU} {rs : List FR} {r : FR} (h : MR Dm rs) (ht : Tidy Dm) (hn : ∀ q ∈ rs, q.name ≠ r.name) : MR (Dm.put (.string r.name) (.lit (.int .i64 (r.fb : Int)))) (putR r rs) := by
  have hk : WideAt.IsKeyLit (.string r.name) := trivial
  have hno : has Dm (.string r.name) = false := by
    rw [h.2.1, List.any_eq_false]
    intro q hq
    simpa using hn q hq
  refine ⟨?_, fun x => ?_, fun q hq z => ?_⟩
  · rw [size_put ht, hno, putR_len_new hn, h.1]; rfl
  · rw [putR_any x hn]
    by_cases e : r.name = x
    · subst e
      rw [has_put_same ht.isMap hk]
      simp
    · rw [has_put_other (by intro e2; injection e2 with e2; exact e e2.symm), h.2.1]
      simp [e]
  · rcases putR_sub r rs q hq with rfl | hq
    · exact atKey_put_same ht.isMap hk _ _
    · rw [atKey_put_other (by intro e2; injection e2 with e2; exact hn q hq e2)]
      exact h.2.2 q hq z
theorem putF_up {f : FE} : ∀ {fs : List FE}, risingF fs → risingF (putF f fs)
  | [], _ => List.pairwise_singleton _ _
  | a :: t, h => by
    have h0 := h
    unfold risingF at h
    rw [List.pairwise_cons] at h
    simp only [putF]
    split
    · next e => exact List.pairwise_cons.2 ⟨fun q hq => by rw [← e]; exact h.1 q hq, h.2⟩
    · next e =>
      split
      · next e3 =>
        refine List.pairwise_cons.2 ⟨fun q hq => ?_, h0⟩
        rcases List.mem_cons.1 hq with h4 | h4
        · rw [h4]; exact e3
        · exact nlt_trans e3 (h.1 q h4)
      · next e3 =>
        refine List.pairwise_cons.2 ⟨fun q hq => ?_, putF_up h.2⟩
        rcases putF_sub f t q hq with h4 | h4
        · rw [h4]; exact nlt_tri (fun e5 => e e5.symm) e3
        · exact h.1 q h4

/-- 'The disk's head says map b now; what was there else stands.' -/
def RetPut (w : World) (p : Nat) (m : Option Nat) (rs : List FR) (room used left : Int) (dead armed : Bool) (e : Ending) (w' : World) : Prop :=
  e = .returned (.tuple #[]) ∧ ∃ b Dm, w'.heap[p]? = some (.cells (headV (some b) room used left dead armed) 115 (0, 0)) ∧ w'.ownsMap Tryz.prog 9 ptrEl b rs.length Dm ∧ MR Dm rs ∧
    Fr w w' (p :: m.toList) ∧ ((m = some b) ∨ (w.heap.size ≤ b))

section
variable {w : World} {p : Nat} {m : Option Nat} {rs : List FR} {room used left : Int} {dead armed : Bool}
set_option maxRecDepth 100000 in
set_option maxHeartbeats 2000000 in
theorem put_some {b : Nat} {Dm : DU} (r : FR) (hp : w.heap[p]? = some (.cells (headV (some b) room used left dead armed) 115 (0, 0))) (ho : w.ownsMap Tryz.prog 9 ptrEl b rs.length Dm) (hm : MR Dm rs) (hpb : b ≠ p)
    (hn : ∀ q ∈ rs, q.name ≠ r.name) (hl : r.name.length ≤ 1099511627776) (hrs : rs.length ≤ 1099511627776) :
    Calls Tryz.prog 75 #[.pointer (some ⟨p, 0, none⟩), .string (tx r.name), .pointer (some ⟨r.fb, 0, none⟩)] w (RetPut w p (some b) (putR r rs) room used left dead armed) := by
  have c0 : w.cell? ⟨p, 0, none⟩ = some (.map (some b)) := cell_of_row w p 0 _ _ _ hp
  have hml : 1099511627776 < maxLen := by unfold maxLen; omega
  have hkey := keyN (x := r.name) (by omega)
  have heq := eqlMap
  have hsz : (tx r.name).size ≤ 281474976710656 := by rw [tx_size]; omega
  have hlt := ho.lt
  have HP := Lib.hid hp
  have HPL := Lib.hid (Array.getElem?_eq_some_iff.1 hp).1
  have HPB := Lib.hid hpb
  have HN := Lib.hid hn
  have HM := Lib.hid hm
  clear hp hpb hn hm
  have hS : w.cell? ⟨p, 0, none⟩ = some (.map (some b)) ∧ Below w.heap.size w w := ⟨c0, Below.refl _ _⟩
  have HU : Hid (∀ w2, Below w.heap.size w w2 → ∃ w3, (Instr.mapUpdate 113 (.map (some b)) (.string (tx r.name)) (.pointer (some ⟨r.fb, 0, none⟩))).run Tryz.prog w2 = .ok () w3 ∧ w3.cell? ⟨p, 0, none⟩ = some (.map (some b)) ∧ RetPut w p (some b) (putR r rs) room used left dead armed (.returned (.tuple #[])) w3) := Lib.hid (fun w2 hb => by
    have ho2 := ho.kept (w' := w2) (row := none) ⟨hb.os, hb.tape, hb.output, hb.size, fun k hk _ => hb.block k hk⟩ (by simp)
    obtain ⟨w3, hrun, h3, hg⟩ := ho2.update (t := 113) (e := 133) lawN Tryz.underlying113 (by omega) hkey (ptrEl_some r.fb)
    have hp3 : w3.heap[p]? = some (.cells (headV (some b) room used left dead armed) 115 (0, 0)) := by
      rw [hg.block p (Nat.lt_of_lt_of_le HPL.out hb.size) (fun e => HPB.out (by injection e with e; exact e.symm)), hb.block p HPL.out]
      exact HP.out
    refine ⟨w3, hrun, cell_of_row w3 p 0 _ _ _ hp3, rfl, b, _, hp3, by rw [putR_len_new HN.out]; exact h3, HM.out.put (ho.tidy lawN) HN.out, ?_, .inl rfl⟩
    · have f1 : Fr w w2 (p :: (some b).toList) := Fr.of_below hb _
      have f2 : Fr w2 w3 [b] := Fr.of_grown hg (fun k hk => by injection hk with hk; rw [hk]; exact List.mem_singleton.2 rfl)
      exact f1.trans f2 (fun k hk => .inl (by rw [List.mem_singleton] at hk; rw [hk]; simp)))
  clear ho hkey hml
  go_enter Tryz.func75, Tryz.ntmps75
  go_wp2
  go_region_held3 (fun w' => w'.cell? ⟨p, 0, none⟩ = some (.map (some b))) (first | assumption | exact hS.1 | exact hS2.1)
    (first | (go_at_call 132; refine (Dclone _ _ hsz).mono ?_; rintro e w2 ⟨rfl, hb2⟩; have hS2 := Cel.made (w := w.drew) (w0 := w) (v := .map (some b)) (p := ⟨p, 0, none⟩) ⟨hS.1, hS.2.drew⟩ hb2; obtain ⟨w3, hrun, hS3, hfin⟩ := HU.out _ hS2.2))
  go_end0
  exact hfin
set_option maxRecDepth 100000 in
set_option maxHeartbeats 2000000 in
theorem put_nil (r : FR) (hp : w.heap[p]? = some (.cells (headV none room used left dead armed) 115 (0, 0))) (hl : r.name.length ≤ 1099511627776) :
    Calls Tryz.prog 75 #[.pointer (some ⟨p, 0, none⟩), .string (tx r.name), .pointer (some ⟨r.fb, 0, none⟩)] w (RetPut w p none [r] room used left dead armed) := by
  have c0 : w.cell? ⟨p, 0, none⟩ = some (.map none) := cell_of_row w p 0 _ _ _ hp
  have f0 : w.frozen? ⟨p, 0, none⟩ = false := frozen_of_row w p 0 _ _ hp
  have hml : 1099511627776 < maxLen := by unfold maxLen; omega
  have hkey := keyN (x := r.name) (by omega)
  have heq := eqlMap
  have hmm := @run_makeMap Tryz.prog
  have hsz : (tx r.name).size ≤ 281474976710656 := by rw [tx_size]; omega
  have hpl := (Array.getElem?_eq_some_iff.1 hp).1
  obtain ⟨W, hW⟩ : ∃ W, W = (w.setCell ⟨p, 0, none⟩ (.map (some w.heap.size))).alloc (.map #[] 0) := ⟨_, rfl⟩
  have hsc : (w.setCell ⟨p, 0, none⟩ (.map (some w.heap.size))).heap.size = w.heap.size := by simp
  have hWp : W.heap[p]? = some (.cells (headV (some w.heap.size) room used left dead armed) 115 (0, 0)) := by
    rw [hW, heap_alloc_old _ _ (by rw [hsc]; exact hpl), heap_setCell_same _ _ _ _ _ _ hp]
    rfl
  have hWo : W.ownsMap Tryz.prog 9 ptrEl w.heap.size 0 (.map [] : DU) := by
    have h1 := World.ownsMap_made (w.setCell ⟨p, 0, none⟩ (.map (some w.heap.size))) Tryz.prog 9 ptrEl (H := Unit)
    rw [hsc] at h1
    rw [hW]
    exact h1
  have hWf : Fr w W [p] := by
    rw [hW]
    exact (Fr.set w p 0 _).trans (Fr.of_below ((Below.refl _ _).alloc (Nat.le_refl _) _) [p]) (fun k hk => .inl hk)
  have HWp := Lib.hid hWp
  have HWo := Lib.hid hWo
  have HWf := Lib.hid hWf
  have HPL := Lib.hid hpl
  have HW := Lib.hid hW
  have hS : W.cell? ⟨p, 0, none⟩ = some (.map (some w.heap.size)) ∧ Below W.heap.size W W := ⟨cell_of_row W p 0 _ _ _ hWp, Below.refl _ _⟩
  clear hp hWp hWo hWf hW hsc
  have HU : Hid (∀ w2, Below W.heap.size W w2 → ∃ w3, (Instr.mapUpdate 113 (.map (some w.heap.size)) (.string (tx r.name)) (.pointer (some ⟨r.fb, 0, none⟩))).run Tryz.prog w2 = .ok () w3 ∧ w3.cell? ⟨p, 0, none⟩ = some (.map (some w.heap.size)) ∧ RetPut w p none [r] room used left dead armed (.returned (.tuple #[])) w3) := Lib.hid (fun w2 hb => by
    have ho := HWo.out
    have ho2 := ho.kept (w' := w2) (row := none) ⟨hb.os, hb.tape, hb.output, hb.size, fun k hk _ => hb.block k hk⟩ (by simp)
    obtain ⟨w3, hrun, h3, hg⟩ := ho2.update (t := 113) (e := 133) lawN Tryz.underlying113 (by omega) hkey (ptrEl_some r.fb)
    have hpW : p < W.heap.size := (Array.getElem?_eq_some_iff.1 HWp.out).1
    have hp3 : w3.heap[p]? = some (.cells (headV (some w.heap.size) room used left dead armed) 115 (0, 0)) := by
      rw [hg.block p (Nat.lt_of_lt_of_le hpW hb.size) (fun e => by injection e with e; have := HPL.out; omega), hb.block p hpW]
      exact HWp.out
    refine ⟨w3, hrun, cell_of_row w3 p 0 _ _ _ hp3, rfl, w.heap.size, _, hp3, h3, MR.put (rs := []) ⟨rfl, fun x => rfl, fun q hq => by cases hq⟩ (ho.tidy lawN) (fun q hq => by cases hq), ?_, .inr (Nat.le_refl _)⟩
    · have f1 : Fr w w2 [p] := HWf.out.trans (Fr.of_below hb [p]) (fun k hk => .inl hk)
      have f2 : Fr w2 w3 [w.heap.size] := Fr.of_grown hg (fun k hk => by injection hk with hk; rw [hk]; exact List.mem_singleton.2 rfl)
      exact f1.trans f2 (fun k hk => .inr (by rw [List.mem_singleton] at hk; omega)))
  clear hkey hml
  go_enter Tryz.func75, Tryz.ntmps75
  go_wp2
  rw [← HW.out]
  go_region_held3 (fun w' => w'.cell? ⟨p, 0, none⟩ = some (.map (some w.heap.size))) (first | assumption | exact hS.1 | exact hS2.1)
    (first | (go_at_call 132; refine (Dclone _ _ hsz).mono ?_; rintro e w2 ⟨rfl, hb2⟩; have hS2 := Cel.made (w := W.drew) (w0 := W) (v := .map (some w.heap.size)) (p := ⟨p, 0, none⟩) ⟨hS.1, hS.2.drew⟩ hb2; obtain ⟨w3, hrun, hS3, hfin⟩ := HU.out _ hS2.2))
  go_end0
  exact hfin
end
end Go.Proofs.YtbgelbdnkbhffaaGreat
namespace Go.Proofs.YtbgelbdnkbhffaaGreat
open Go Go.RowKit

def szL : List En → Nat
  | [] => 0
  | e :: t => wE e + szL t
theorem szL_app : ∀ a b : List En, szL (a ++ b) = szL a + szL b
  | [], b => by simp [szL]
  | e :: t, b => by rw [List.cons_append, szL, szL, szL_app t b]; omega
def SortL (l : List En) : Prop := l.Pairwise (fun a b => lessE a b = true)
theorem posI_app {p q : List En} {x : En} (h1 : ∀ y ∈ p, lessE x y = false) (h2 : ∀ y ∈ q, lessE x y = true) : ∀ j, j ≤ q.length → posI (p ++ q) x (p.length + j) = p.length
  | 0, _ => by
    rw [Nat.add_zero]
    cases hp : p.length with
    | zero => rfl
    | succ m =>
      have hm : m < p.length := by omega
      have e : (p ++ q)[m]? = some (p[m]'hm) := by rw [List.getElem?_append_left hm, List.getElem?_eq_getElem hm]
      rw [posI, e]
      simp only
      rw [h1 _ (List.getElem_mem hm)]
      rfl
  | j + 1, h => by
    have hj : j < q.length := by omega
    have e : (p ++ q)[p.length + j]? = some (q[j]'hj) := by rw [List.getElem?_append_right (by omega), Nat.add_sub_cancel_left, List.getElem?_eq_getElem hj]
    rw [← Nat.add_assoc, posI, e]
    simp only
    rw [h2 _ (List.getElem_mem hj)]
    exact posI_app h1 h2 j (by omega)
theorem insL_app {p q : List En} {x : En} (h1 : ∀ y ∈ p, lessE x y = false) (h2 : ∀ y ∈ q, lessE x y = true) : insL (p ++ q) x = p ++ x :: q := by
  have h := posI_app h1 h2 q.length (Nat.le_refl _)
  unfold insL
  rw [List.length_append, h]
  simp
/-- What the reference's Get finds. -/
def findL (key : List UInt8) (at_ : Nat) (l : List En) : Option En := l.find? (fun y => eqB y.key key && decide (y.seq ≤ at_))
def inR (xs ys : List UInt8) (e : En) : Bool := decide (0 ≤ cmpB e.key xs) && decide (ys.length = 0 ∨ cmpB e.key ys < 0)
theorem less_key {a b : En} {zs : List UInt8} (h : lessE a b = true) (k : cmpB b.key zs < 0) : cmpB a.key zs < 0 := by
  rcases lessE_iff.1 h with q | ⟨q, _⟩
  · exact cmpB_trans q k
  · rw [q]; exact k
theorem insL_len (l : List En) (x : En) : (insL l x).length = l.length + 1 := by
  have := posI_le l x l.length
  unfold insL
  rw [List.length_append, List.length_cons, List.length_take, List.length_drop]
  omega
theorem split_of {x : En} : ∀ {o : List En}, SortL o → inL o x = false → ∃ p q, o = p ++ q ∧ (∀ y ∈ p, lessE y x = true) ∧ (∀ y ∈ q, lessE x y = true)
  | [], _, _ => ⟨[], [], rfl, (fun y hy => by cases hy), fun y hy => by cases hy⟩
  | a :: t, hs, hin => by
    obtain ⟨h1, h2⟩ := List.pairwise_cons.1 hs
    unfold inL at hin
    rw [List.any_cons, Bool.or_eq_false_iff] at hin
    rcases lessE_tri a x with h | h | h
    · obtain ⟨p, q, e, k1, k2⟩ := split_of h2 hin.2
      refine ⟨a :: p, q, by rw [e]; rfl, fun y hy => ?_, k2⟩
      rcases List.mem_cons.1 hy with rfl | hy
      · exact h
      · exact k1 y hy
    · refine ⟨[], a :: t, rfl, (fun y hy => by cases hy), fun y hy => ?_⟩
      rcases List.mem_cons.1 hy with rfl | hy
      · exact h
      · exact lessE_trans h (h1 y hy)
    · rw [h] at hin
      cases hin.1
theorem insL_sort {o : List En} {x : En} (hs : SortL o) (hin : inL o x = false) : SortL (insL o x) := by
  obtain ⟨p, q, e, h1, h2⟩ := split_of hs hin
  subst e
  rw [insL_app (fun y hy => lessE_asym (h1 y hy)) h2]
  obtain ⟨s1, s2, s3⟩ := List.pairwise_append.1 hs
  exact List.pairwise_append.2 ⟨s1, List.pairwise_cons.2 ⟨h2, s2⟩, fun a ha b hb => by
    rcases List.mem_cons.1 hb with rfl | hb
    · exact h1 a ha
    · exact s3 a ha b hb⟩
/-- In form, and not too long. -/
def okE (x : En) : Bool := decide (checkE [x] = 0)
theorem okE_iff {x : En} : okE x = true ↔ longE x = false ∧ formE x = true := by
  unfold okE checkE
  rw [decide_eq_true_eq]
  simp only [List.any_cons, List.any_nil, Bool.or_false, List.all_cons, List.all_nil, Bool.and_true]
  cases longE x <;> cases formE x <;> simp
/-- The reference's Sorted. -/
def srt : List En → List En → List En
  | o, [] => o
  | o, x :: xs => if okE x && !inL o x then srt (insL o x) xs else srt o xs
theorem srt_snoc : ∀ (o xs : List En) (x : En), srt o (xs ++ [x]) = if okE x && !inL (srt o xs) x then insL (srt o xs) x else srt o xs
  | o, [], x => by simp [srt]
  | o, y :: ys, x => by
    simp only [List.cons_append, srt]
    split
    · exact srt_snoc _ ys x
    · exact srt_snoc _ ys x
theorem srt_prop : ∀ {xs o : List En}, SortL o → (∀ x ∈ o, okE x = true) → SortL (srt o xs) ∧ (∀ x ∈ srt o xs, okE x = true)
  | [], o, h1, h2 => ⟨h1, h2⟩
  | x :: xs, o, h1, h2 => by
    unfold srt
    split
    · next h =>
      rw [Bool.and_eq_true, Bool.not_eq_true'] at h
      exact srt_prop (insL_sort h1 h.2) (fun y hy => by
        rcases insL_mem' hy with rfl | hy
        · exact h.1
        · exact h2 y hy)
    · exact srt_prop h1 h2
where
  insL_mem' {l : List En} {x y : En} (h : y ∈ insL l x) : y = x ∨ y ∈ l := by
    unfold insL at h
    rcases List.mem_append.1 h with h | h
    · exact .inr (List.mem_of_mem_take h)
    · rcases List.mem_cons.1 h with h | h
      · exact .inl h
      · exact .inr (List.mem_of_mem_drop h)
theorem szL_insL (l : List En) (x : En) : szL (insL l x) = szL l + wE x := by
  unfold insL
  have := szL_app (l.take (posI l x l.length)) (l.drop (posI l x l.length))
  rw [List.take_append_drop] at this
  rw [szL_app, szL]
  omega
theorem srt_len : ∀ (xs o : List En), (srt o xs).length ≤ o.length + xs.length ∧ szL (srt o xs) ≤ szL o + szL xs
  | [], o => ⟨by simp [srt], by simp [srt, szL]⟩
  | x :: xs, o => by
    unfold srt
    split
    · have := srt_len xs (insL o x)
      rw [insL_len, szL_insL] at this
      simp only [List.length_cons, szL]
      omega
    · have := srt_len xs o
      simp only [List.length_cons, szL]
      omega
theorem srt_mem : ∀ {xs o : List En}, ∀ x ∈ srt o xs, x ∈ o ∨ x ∈ xs
  | [], o, x, h => .inl h
  | y :: ys, o, x, h => by
    unfold srt at h
    split at h
    · rcases srt_mem x h with q | q
      · rcases srt_prop.insL_mem' q with q | q
        · exact .inr (by simp [q])
        · exact .inl q
      · exact .inr (by simp [q])
    · rcases srt_mem x h with q | q
      · exact .inl q
      · exact .inr (by simp [q])
end Go.Proofs.YtbgelbdnkbhffaaGreat
namespace Go.Proofs.YtbgelbdnkbhffaaGreat
open Go Go.RowKit

def RetWith (G : Nat → Prop) (w : World) (o : Option Tr) (e : Ending) (w' : World) : Prop :=
  (∃ t A, o = some t ∧ e = .returned (.tuple #[.pointer A, .bool false]) ∧ TrAt G w' t A ∧ Below w.heap.size w w') ∨ (o = none ∧ e = .returned (.tuple #[.pointer none, .bool true]) ∧ Below w.heap.size w w')
theorem RetWith.out {G : Nat → Prop} {w : World} {o : Option Tr} {e : Ending} {w' : World} (h : RetWith G w o e w') : (∃ t A, o = some t ∧ e = .returned (.tuple #[.pointer A, .bool false]) ∧ TrAt G w' t A ∧ Below w.heap.size w w') ∨ (o = none ∧ e = .returned (.tuple #[.pointer none, .bool true]) ∧ Below w.heap.size w w') := h
theorem RetT.out {w : World} {b : Bool} {e : Ending} {w' : World} (h : RetT w b e w') : e = .returned (.bool b) ∧ Below w.heap.size w w' := h
end Go.Proofs.YtbgelbdnkbhffaaGreat
namespace Go.Proofs.YtbgelbdnkbhffaaGreat
open Go Go.RowKit

/-- How many bytes of the i-th key are left out. -/
def shB (ev : Nat) (es : List En) (i : Nat) : Nat := if i % ev = 0 then 0 else match es[i - 1]?, es[i]? with
  | some a, some b => comB a.key b.key
  | _, _ => 0
/-- The bytes of the first i entries; the places of the restarts among them. -/
def outB (ev : Nat) (es : List En) : Nat → List UInt8
  | 0 => []
  | i + 1 => match es[i]? with
    | some x => outB ev es i ++ entB (shB ev es i) x
    | none => outB ev es i
def rsB (ev : Nat) (es : List En) : Nat → List UInt8
  | 0 => []
  | i + 1 => if i % ev = 0 then rsB ev es i ++ fourB (outB ev es i).length else rsB ev es i
def fullB (ev : Nat) (es : List En) : List UInt8 := outB ev es es.length ++ rsB ev es es.length ++ fourB ((rsB ev es es.length).length / 4)
theorem outB_step {ev i : Nat} {es : List En} {x : En} (h : es[i]? = some x) : outB ev es (i + 1) = outB ev es i ++ entB (shB ev es i) x := by rw [outB, h]
theorem rsB_len (ev : Nat) (es : List En) : ∀ i, (rsB ev es i).length ≤ 4 * i
  | 0 => by simp [rsB]
  | i + 1 => by
    have := rsB_len ev es i
    unfold rsB
    split
    · simp only [List.length_append, fourB_len]; omega
    · omega
theorem outB_mono (ev : Nat) (es : List En) (i : Nat) : ∀ j, i ≤ j → (outB ev es i).length ≤ (outB ev es j).length := by
  intro j
  induction j with
  | zero =>
    intro h
    obtain rfl : i = 0 := by omega
    exact Nat.le_refl _
  | succ j ih =>
    intro h
    by_cases e : i = j + 1
    · rw [e]; exact Nat.le_refl _
    · have h1 := ih (by omega)
      refine Nat.le_trans h1 ?_
      conv => rhs; unfold outB
      split
      · rw [List.length_append]; omega
      · exact Nat.le_refl _
theorem shB_le {ev i : Nat} {es : List En} {x : En} (h : es[i]? = some x) : shB ev es i ≤ x.key.length := by
  unfold shB
  rw [h]
  split
  · omega
  · split
    · rename_i a b h1 h2
      injection h2 with h2
      subst h2
      exact (comB_le _ _).2
    · omega
theorem entB_len {s : Nat} {x : En} (h0 : s ≤ x.key.length) (h1 : x.key.length ≤ 1024) (h2 : x.val.length ≤ 65536) (h3 : U64 x.seq) : (entB s x).length ≤ 66700 := by
  have p1 := putU_len64 s (show s < B64 by unfold B64; omega)
  have p2 := putU_len64 (x.key.length - s) (show x.key.length - s < B64 by unfold B64; omega)
  have p3 := putU_len64 x.seq (show x.seq < B64 from h3)
  have p5 := putU_len64 x.val.length (show x.val.length < B64 by unfold B64; omega)
  unfold entB
  simp only [List.length_append, List.length_cons, List.length_nil, List.length_drop]
  omega
theorem dj_none (B : Option Addr) : Dj none B := fun b h => by cases h
/-- The two rows that are made: the entries' bytes, the restarts' places. -/
def CS (w0 : World) (O : Option Addr) (oc : Nat) (out : List UInt8) (R : Option Addr) (rc : Nat) (rs : List UInt8) (wr : World) : Prop :=
  Own 5 wr w0.heap.size O out.length oc out ∧ Own 5 wr w0.heap.size R rs.length rc rs ∧ Dj O R ∧ Below w0.heap.size w0 wr
theorem CS.below {w0 wr wx : World} {O R : Option Addr} {oc rc : Nat} {out rs : List UInt8} (h : CS w0 O oc out R rc rs wr) (hb : Below wr.heap.size wr wx) : CS w0 O oc out R rc rs wx := by
  obtain ⟨h1, h2, h3, h4⟩ := h
  exact ⟨h1.below hb, h2.below hb, h3, h4.trans (hb.mono h4.size)⟩
theorem CS.left {w0 wr wx : World} {O R O' : Option Addr} {oc rc oc' : Nat} {out out' rs : List UInt8} (h : CS w0 O oc out R rc rs wr) (ho : Own 5 wx w0.heap.size O' out'.length oc' out') (hg : Grow wr wx O O') : CS w0 O' oc' out' R rc rs wx := by
  obtain ⟨h1, h2, h3, h4⟩ := h
  exact ⟨ho, hg.kept h2 h3, hg.dj h2 h3, h4.trans (hg.below h1 h4.size)⟩
theorem CS.right {w0 wr wx : World} {O R R' : Option Addr} {oc rc rc' : Nat} {out rs rs' : List UInt8} (h : CS w0 O oc out R rc rs wr) (ho : Own 5 wx w0.heap.size R' rs'.length rc' rs') (hg : Grow wr wx R R') : CS w0 O oc out R' rc' rs' wx := by
  obtain ⟨h1, h2, h3, h4⟩ := h
  exact ⟨hg.kept h1 h3.symm, ho, (hg.dj h1 h3.symm).symm, h4.trans (hg.below h2 h4.size)⟩
theorem ClG.off {w0 w w' : World} {g n c : Nat} {us : Array Value} {A A' : Option Addr} {xs : List UInt8} (h : Cl w g us 49) (ho : Own 5 w w0.heap.size A n c xs) (hne : 49 ≠ 5) (hg : Grow w w' A A') : Cl w' g us 49 :=
  ClG.grown h hg.1 (fun e2 => by
    rcases ho.2 with ⟨k1, _⟩ | ⟨g2, cap2, cur2, k1, _, kg, _⟩
    · injection k1 with k1
      rw [k1] at e2
      cases e2
    · injection k1 with k1
      rw [k1] at e2
      injection e2 with e2
      simp only at e2
      subst e2
      rw [h] at kg
      injection kg with kg
      injection kg with _ kg _
      exact hne kg)
/-- What contents hands back: all that is sealed, or more than a record may have. -/
def RetCt (ev : Nat) (es : List En) (w : World) (e : Ending) (w' : World) : Prop :=
  ∃ A c ys, e = .returned (.slice A ys.length c) ∧ Own 5 w' w.heap.size A ys.length c ys ∧ Below w.heap.size w w' ∧ ys.length ≤ 100000000 ∧ ((1048576 < ys.length ∧ ys.length ≤ (fullB ev es).length) ∨ ys = fullB ev es)
set_option maxRecDepth 100000 in
set_option maxHeartbeats 16000000 in
theorem contents_any {w : World} {A : Option Addr} {n c : Nat} {es : List En} (h : REs w A n es) (hn : n ≤ 16777216) (hs : ∀ x ∈ es, x.key.length ≤ 1024 ∧ x.val.length ≤ 65536) (ev : Nat) (he : 1 ≤ ev) (he2 : ev ≤ 9223372036854775807) :
    Calls Tryz.prog 182 #[.int .i64 (ev : Int), .slice A n c] w (RetCt ev es w) := by
  have HL := Lib.hid h.len
  have HR := Lib.hid h
  have HS := Lib.hid hs
  have HW := Lib.hid h.wf
  clear h hs
  go_enter Tryz.func182, Tryz.ntmps182
  go_wp2_with fail
  go_loopw [5, 6, 12] (fun s5 s6 s12 wr => ∃ (i on rn : Nat) (O R : Option Addr) (oc rc : Nat), i ≤ n ∧ s12 = .int .i64 (i : Int) ∧ on = (outB ev es i).length ∧ rn = (rsB ev es i).length ∧ s5 = .slice O on oc ∧ s6 = .slice R rn rc ∧ on ≤ 1048576 ∧ CS w O oc (outB ev es i) R rc (rsB ev es i) wr) (fun _ _ s _ => n - (intOf s).toNat)
  case atStart => exact ⟨0, 0, 0, none, none, 0, 0, Nat.zero_le _, rfl, rfl, rfl, rfl, rfl, by omega, Own.nil _ _ _, Own.nil _ _ _, dj_none _, Below.refl _ _⟩
  case round =>
    obtain ⟨i, on, rn, O, R, oc, rc, hi, rfl, hon, hrn, rfl, rfl, hol, hC⟩ := hrel
    have hrl := rsB_len ev es i
    have hrn4 : rn ≤ 4 * i := by omega
    have HON := Lib.hid hon
    have HRN := Lib.hid hrn
    have HC := Lib.hid hC
    have hbC := hC.2.2.2
    clear hon hrn hC hrl
    by_cases hlt : i < n
    · obtain ⟨b, off, hAb, hbl⟩ := HR.out.pos (by omega)
      subst hAb
      obtain ⟨x, v0, v1, v2, v3, hx, c0', c1', c2', c3', hev⟩ := HR.out.at_ i hlt
      have c0 := (hbC.cell (p := ⟨b, off + i * 4, none⟩) hbl).trans c0'
      have c1 := (hbC.cell (p := ⟨b, off + i * 4 + 1, none⟩) hbl).trans c1'
      have c2 := (hbC.cell (p := ⟨b, off + i * 4 + 2, none⟩) hbl).trans c2'
      have c3 := (hbC.cell (p := ⟨b, off + i * 4 + 3, none⟩) hbl).trans c3'
      have HXI := Lib.hid hx
      have HXS := Lib.hid (HS.out x (List.mem_of_getElem? hx))
      have HXW := Lib.hid (HW.out x (List.mem_of_getElem? hx)).1
      have HEV := Lib.hid hev
      obtain ⟨K, kn, kc, V, vn, vc, rfl, rfl, rfl, rfl, r0, r3, _⟩ := hev.parts
      have HR0 := Lib.hid r0
      obtain ⟨m, hm⟩ : ∃ m, m = i % ev := ⟨_, rfl⟩
      have e1 : ((i : Int) % (ev : Int)) = (m : Int) := by rw [hm]; push_cast; rfl
      have hml : m < 9223372036854775807 := by have := Nat.mod_lt i (show 0 < ev by omega); omega
      have HM := Lib.hid hm
      obtain ⟨sh, hsh⟩ : ∃ sh, sh = shB ev es i := ⟨_, rfl⟩
      have HSH := Lib.hid hsh
      obtain ⟨U, hU⟩ : ∃ U, U = wr.alloc (.cells #[.slice K kn kc, .int .u64 (x.seq : Int), .int .u8 (x.kind : Int), .slice V vn vc] 49) := ⟨_, rfl⟩
      obtain ⟨g, hg⟩ : ∃ g, g = wr.heap.size := ⟨_, rfl⟩
      have bU : Below wr.heap.size wr U := by rw [hU]; exact (Below.refl _ _).alloc (Nat.le_refl _) _
      have HCU := Lib.hid (HC.out.below bU)
      have kU : Cl U g #[.slice K kn kc, .int .u64 (x.seq : Int), .int .u8 (x.kind : Int), .slice V vn vc] 49 := by rw [hU, hg]; exact Cl.new _ _ _
      have HKU := Lib.hid kU
      have hwU : w.heap.size ≤ U.heap.size := HCU.out.2.2.2.size
      clear hx hev r0 r3 hm hsh bU kU c0' c1' c2' c3'
      go_upto_if 20 with (fail)
      rw [← hU, ← hg]
      have HU := Lib.hid hU
      have HG := Lib.hid hg
      clear hU hg
      obtain ⟨rs2, hrs2⟩ : ∃ rs2, rs2 = rsB ev es (i + 1) := ⟨_, rfl⟩
      obtain ⟨rn2, hrn2⟩ : ∃ rn2, rn2 = rs2.length := ⟨_, rfl⟩
      have HRS2 := Lib.hid hrs2
      have HRN2 := Lib.hid hrn2
      clear hrs2 hrn2
      go_cut [6, 9] from 17 to 34 (fun s6 s9 wx => ∃ (R' : Option Addr) (rc' : Nat), s6 = .slice R' rn2 rc' ∧ s9 = .int .i64 (sh : Int) ∧ CS w O oc (outB ev es i) R' rc' rs2 wx ∧ Cl wx g #[.slice K kn kc, .int .u64 (x.seq : Int), .int .u8 (x.kind : Int), .slice V vn vc] 49)
      case first =>
        by_cases hm0 : m = 0
        · subst hm0
          have hrs : rs2 = rsB ev es i ++ fourB on := by rw [HRS2.out, rsB, if_pos HM.out.symm, ← HON.out]
          have hsh0 : sh = 0 := by rw [HSH.out, shB, if_pos HM.out.symm]
          subst hsh0
          have hR' := HCU.out.2.1
          rw [← HRN.out] at hR'
          have HAW := Lib.hid (appendWord_any R rn rc (rsB ev es i) w.heap.size on U hR' hwU (by omega) (by omega))
          have HRS := Lib.hid hrs
          clear hrs hR'
          go_wp2_with fail
          with_reducible refine HAW.out.mono ?_
          rintro e wx ⟨R', rc', rfl, oR, gR⟩
          have hln : rn + (fourB on).length = rn2 := by rw [HRN2.out, HRS.out, List.length_append, ← HRN.out]
          rw [hln] at oR ⊢
          rw [← HRS.out] at oR
          have hcs : CS w O oc (outB ev es i) R' rc' rs2 wx := HCU.out.right (by rw [← HRN2.out]; exact oR) gR
          have hkx : Cl wx g #[.slice K kn kc, .int .u64 (x.seq : Int), .int .u8 (x.kind : Int), .slice V vn vc] 49 := ClG.off HKU.out HCU.out.2.1 (by decide) gR
          have HF := Lib.hid (And.intro hcs hkx)
          clear oR gR hcs hkx hln
          go_wp2_with fail
          go_meet
          case rel => exact ⟨R', rc', by first | rfl | simp, by first | rfl | simp, HF.out.1, HF.out.2⟩
        · have t1 : ((m : Int) == 0) = false := by simp; omega
          have hrs : rs2 = rsB ev es i := by rw [HRS2.out, rsB, if_neg (by rw [← HM.out]; exact hm0)]
          obtain ⟨j, hj⟩ : ∃ j, j = i - 1 := ⟨_, rfl⟩
          have hi0 : 0 < i := by
            rcases Nat.eq_zero_or_pos i with h0 | h0
            · exact absurd (by rw [HM.out, h0, Nat.zero_mod]) hm0
            · exact h0
          obtain ⟨y, u0, u1, u2, u3, hy, d0', d1', d2', d3', hew⟩ := HR.out.at_ j (by omega)
          obtain ⟨L, ln, lc, _, _, _, hu0, _, _, _, r0', _⟩ := hew.parts
          subst hu0
          have hsh2 : sh = comB y.key x.key := by
            rw [HSH.out, shB, if_neg (by rw [← HM.out]; exact hm0), ← hj, hy, HXI.out]
          have hsy := HS.out y (List.mem_of_getElem? hy)
          have hkn1 : kn ≤ 1099511627776 := by have := HXS.out.1; have := HR0.out.len; omega
          have hln1 : ln ≤ 1099511627776 := by have := r0'.len; omega
          have d0 : U.cell? ⟨b, off + j * 4, none⟩ = some (.slice L ln lc) := (HCU.out.2.2.2.cell (p := ⟨b, off + j * 4, none⟩) hbl).trans d0'
          have k0 := HKU.out.c4.1
          have e2 : IntKind.i64.wrap ((i : Int) - 1) = (j : Int) := by rw [IntWalk.i64_in _ (by omega)]; omega
          have hjn : j < n := by omega
          have HCM : Hid (∀ q, Calls Tryz.prog 217 #[.slice L ln lc, .slice K kn kc] (U.drewN q) (RetCo (U.drewN q) sh)) := Lib.hid (fun q => by
            rw [hsh2]
            exact common_any L K ln kn lc kc y.key x.key _ ((r0'.below HCU.out.2.2.2).drewN q) ((HR0.out.below HCU.out.2.2.2).drewN q) hln1 hkn1)
          have HRS := Lib.hid hrs
          have HJ := Lib.hid hj
          have hoi : off + j * 4 + 0 = off + j * 4 := rfl
          clear hrs hj hy d0' d1' d2' d3' hew r0' hsh2 hsy hoi
          go_wp2_with fail
          go_quiet ((go_at_call 217; with_reducible exact Calls.quiet_of (HCM.out _)))
          have hcs : CS w O oc (outB ev es i) R rc rs2 (U.drewN nq) := by
            rw [HRS.out]
            exact HCU.out.below (below_drewN (Below.refl _ _) nq)
          have HF := Lib.hid (And.intro hcs (HKU.out.drewN nq))
          have hln : rn = rn2 := by rw [HRN2.out, HRS.out, ← HRN.out]
          subst hln
          clear hcs
          go_wp2_with fail
          go_meet
          case rel => exact ⟨R, rc, by first | rfl | simp, by first | rfl | simp, HF.out.1, HF.out.2⟩
      case rest =>
        obtain ⟨R', rc', rfl, rfl, hcs, hkx⟩ := hcut
        have hO := hcs.1
        rw [← HON.out] at hO
        have hxe := entB_len (s := sh) (x := x) (by rw [HSH.out]; exact shB_le HXI.out) HXS.out.1 HXS.out.2 HXW.out
        have HAE := Lib.hid (appendEntry_any HEV.out ⟨by have := HXS.out.1; omega, by have := HXS.out.2; omega⟩ sh (by rw [HSH.out]; exact shB_le HXI.out) O on oc (outB ev es i) hO hcs.2.2.2 (by omega))
        have hstep : outB ev es (i + 1) = outB ev es i ++ entB sh x := by rw [outB_step HXI.out, HSH.out]
        obtain ⟨ol, hol2⟩ : ∃ ol, ol = on + (entB sh x).length := ⟨_, rfl⟩
        have holn : ol = (outB ev es (i + 1)).length := by rw [hstep, List.length_append, ← HON.out, hol2]
        have hob : ol ≤ 1200000 := by omega
        have HOL := Lib.hid hol2
        have HOLN := Lib.hid holn
        have HST := Lib.hid hstep
        have HCS := Lib.hid hcs
        obtain ⟨k0, k1, k2, k3, _⟩ := hkx.c4
        have HG2 := Lib.hid hkx
        clear hO hcs hkx hxe hstep hol2 holn
        go_wp2_with fail
        with_reducible refine HAE.out.mono ?_
        rintro e w3 ⟨O', oc', rfl, oO, gO⟩
        rw [← HOL.out] at oO ⊢
        rw [← HST.out] at oO
        have hc3 : CS w O' oc' (outB ev es (i + 1)) R' rc' rs2 w3 := HCS.out.left (by rw [← HOLN.out]; exact oO) gO
        have HC3 := Lib.hid hc3
        clear oO gO hc3
        by_cases hbig : 1048576 < ol
        · go_wp2_with fail
          go_ret
          have h1 := HC3.out.1
          have h2 := HOLN.out
          unfold RetCt
          refine ⟨O', oc', _, by rw [h2]; rfl, h1, HC3.out.2.2.2, by omega, .inl ⟨by omega, ?_⟩⟩
          unfold fullB
          rw [List.length_append, List.length_append]
          have := outB_mono ev es (i + 1) es.length (by rw [HL.out]; omega)
          omega
        · go_wp2_with fail
          go_roundw
          case rel => exact ⟨i + 1, ol, rn2, O', R', oc', rc', by omega, by go_num, HOLN.out, by rw [HRN2.out, HRS2.out], rfl, rfl, by omega, by rw [← HRS2.out]; exact HC3.out⟩
          case measure => simp [intOf]; omega
    · obtain rfl : i = n := by omega
      have hsw := hbC.size
      have hO := HC.out.1
      rw [← HON.out] at hO
      have hRd := HC.out.2.1.rd
      rw [← HRN.out] at hRd
      have hDj := HC.out.2.2.1
      have HR2 := Lib.hid HC.out.2.1
      clear hbC
      go_wp2_with (at_builtin; refine wpList_appX _ rfl _ _ 29 rfl w.heap.size 5 Tryz.underlying29 info_u8 O on oc _ rfl hO R rn rc (rsB ev es i) rfl hRd ?_ ?_ ?_)
      · omega
      · exact hsw
      intro O2 oc2 w2 o2 g2
      obtain ⟨q, hq⟩ : ∃ q, q = rn / 4 := ⟨_, rfl⟩
      have e3 : (rn : Int) / 4 = (q : Int) := by rw [hq]; omega
      have hb2 : Below w.heap.size w w2 := HC.out.2.2.2.trans (g2.below HC.out.1 hsw)
      have hq2 : q ≤ 16777216 := by omega
      have HAW := Lib.hid (appendWord_any O2 (on + rn) oc2 _ w.heap.size q w2 o2 hb2.size (by omega) (by omega))
      have HQ := Lib.hid hq
      have HO2 := Lib.hid o2
      have HB2 := Lib.hid hb2
      clear hO hRd hDj g2 hq o2 hb2
      go_wp2_with fail
      with_reducible refine HAW.out.mono ?_
      rintro e w3 ⟨O3, oc3, rfl, o3, g3⟩
      have hb3 : Below w.heap.size w w3 := HB2.out.trans (g3.below HO2.out HB2.out.size)
      have hfull : (outB ev es i ++ rsB ev es i) ++ fourB q = fullB ev es := by
        unfold fullB
        rw [HL.out, HQ.out, ← HRN.out]
      rw [hfull] at o3
      have hlen : on + rn + (fourB q).length = (fullB ev es).length := by
        rw [← hfull, List.length_append, List.length_append, ← HON.out, ← HRN.out]
      have hl2 : (fullB ev es).length ≤ 100000000 := by
        rw [← hlen, fourB_len]; omega
      rw [hlen] at o3 ⊢
      have HF := Lib.hid (And.intro o3 (And.intro hb3 hl2))
      clear o3 g3 hb3 hfull hlen hl2
      go_wp2_with fail
      go_ret
      exact ⟨O3, oc3, _, rfl, HF.out.1, HF.out.2.1, HF.out.2.2, .inr rfl⟩
end Go.Proofs.YtbgelbdnkbhffaaGreat
namespace Go.Proofs.YtbgelbdnkbhffaaGreat
open Go Go.RowKit

theorem or_byte64 {m : Nat} (b : UInt8) (h : m < 16777216) : bits .or .i64 ((m : Int) * 256) (b.toNat : Int) = ((m * 256 + b.toNat : Nat) : Int) := by
  have hb := b.toNat_lt
  have h1 := (bits_nat .i64 32 (by decide) (fun n h1 h2 => IntWalk.i64_in n (by simp at h2; omega)) (m * 256) b.toNat (by simp; omega) (by simp; omega)).2
  have h2 : m * 256 ||| b.toNat = m * 256 + b.toNat := by
    rw [Nat.mul_comm]
    exact (Nat.two_pow_add_eq_or_of_lt (i := 8) (by simpa using hb) m).symm
  rw [h2] at h1
  exact h1
set_option maxRecDepth 100000 in
set_option maxHeartbeats 1000000 in
theorem getWord8_any (A : Option Addr) (n c : Nat) (xs : List UInt8) (w : World) (hx : Rd w A n xs) (h4 : 4 ≤ n) (hn : n ≤ 1099511627776) (hnc : n ≤ c) :
    Calls Tryz.prog 214 #[.slice A n c] w (RetCo w (numK xs 4)) := by
  have hsl : ∀ w, (Instr.slice 29 (.slice A n c) none (some (.int .i64 4)) none).run Tryz.prog w = .ok (.slice A 4 c) w :=
    cut_h Tryz.underlying29 elem_bytes size_u8 A (m := 4) (by omega)
  go_enter Tryz.func214, Tryz.ntmps214
  go_wp2
  go_loopw [3, 9] (fun vm vi wr => ∃ m i q : Nat, vm = .int .i64 m ∧ vi = .int .i64 i ∧ i ≤ 4 ∧ m = numK xs i ∧ wr = w.drewN q) (fun _ vi _ => 4 - (intOf vi).toNat)
  case atStart => exact ⟨0, 0, 0, rfl, rfl, by omega, rfl, rfl⟩
  case round =>
    obtain ⟨m, i, q, rfl, rfl, hi, hm, rfl⟩ := hrel
    have hml := numK_lt xs i
    rw [← hm] at hml
    have Hm := Lib.hid hm
    clear hm
    by_cases hlt : i < 4
    · have hm3 : m < 16777216 := Nat.lt_of_lt_of_le hml (Nat.le_trans (Nat.pow_le_pow_right (by decide) (show i ≤ 3 by omega)) (by decide))
      clear hml
      obtain ⟨bf, off, rfl, _⟩ := hx.pos (by omega)
      obtain ⟨b, hb, hc, _⟩ := hx.at_ i (by omega)
      have hb8 := b.toNat_lt
      have e1 := or_byte64 b hm3
      have HR : Hid (m * 256 + b.toNat = numK xs (i + 1)) := Lib.hid (by rw [numK_take hb, Hm.out])
      clear hb
      obtain ⟨W, hW⟩ : ∃ W, W = w.drewN q := ⟨_, rfl⟩
      have c1 : W.cell? ⟨bf, off + i, none⟩ = some (.int .u8 (b.toNat : Int)) := by rw [hW]; exact hc
      rw [← hW]
      have HW := Lib.hid hW
      clear hW hc
      go_wp2
      go_roundw
      case rel => exact ⟨m * 256 + b.toNat, i + 1, q, by go_num, by go_num, by omega, HR.out, HW.out⟩
      case measure => simp [intOf]; omega
    · obtain rfl : i = 4 := by omega
      clear hml
      go_wp2
      go_ret
      exact ⟨by rw [Hm.out]; rfl, q, rfl⟩
/-- What is sealed, parted: the entries' bytes, the restarts' places. -/
def splitB (xs : List UInt8) : Option (List UInt8 × List UInt8) :=
  if xs.length < 4 then none else
    let k := numK (xs.drop (xs.length - 4)) 4
    if (xs.length - 4) / 4 < k then none else some (xs.take (xs.length - 4 - 4 * k), (xs.take (xs.length - 4)).drop (xs.length - 4 - 4 * k))
/-- What split hands back: two pieces of what came in, or none. -/
def RetSp8 (w : World) (A : Option Addr) (xs : List UInt8) (e : Ending) (w' : World) : Prop :=
  (∃ q, w' = w.drewN q) ∧ ((splitB xs = none ∧ e = .returned (.tuple #[.slice none 0 0, .slice none 0 0, .bool false])) ∨
  ∃ ys zs B1 n1 c1 B2 n2 c2, splitB xs = some (ys, zs) ∧ e = .returned (.tuple #[.slice B1 n1 c1, .slice B2 n2 c2, .bool true]) ∧ n1 ≤ c1 ∧ n2 ≤ c2 ∧ Rd w B1 n1 ys ∧ Rd w B2 n2 zs ∧ (B1 = none → c1 = 0) ∧ (B2 = none → c2 = 0) ∧ (blk B1 = none ∨ blk B1 = blk A) ∧ n1 + n2 + 4 = xs.length)
set_option maxRecDepth 100000 in
set_option maxHeartbeats 4000000 in
theorem split_any (A : Option Addr) (n c : Nat) (xs : List UInt8) (w : World) (hx : Rd w A n xs) (hn : n ≤ 1099511627776) (hnc : n ≤ c) (hnil : A = none → c = 0) :
    Calls Tryz.prog 213 #[.slice A n c] w (RetSp8 w A xs) := by
  have hxl := hx.len
  by_cases h4 : n < 4
  · have hs : splitB xs = none := by unfold splitB; rw [if_pos (by omega)]
    have e1 : IntKind.i64.wrap ((n : Int) - 4) = (n : Int) - 4 := IntWalk.i64_in _ (by omega)
    have t1 : (n : Int) - 4 < 0 := by omega
    have t2 : (n : Int) < 4 := by omega
    have HS := Lib.hid hs
    clear hx hs hxl
    go_enter Tryz.func213, Tryz.ntmps213
    go_wp2_with fail
    exact bodyPost_ret (v := .tuple #[.slice none 0 0, .slice none 0 0, .bool false]) (by simp [results, Tryz.f213, go_sem]; try rfl) rfl ⟨⟨0, rfl⟩, .inl ⟨HS.out, rfl⟩⟩
  · obtain ⟨m, hm⟩ : ∃ m, m = n - 4 := ⟨_, rfl⟩
    have e1 : IntKind.i64.wrap ((n : Int) - 4) = (m : Int) := by rw [IntWalk.i64_in _ (by omega)]; omega
    obtain ⟨k, hk⟩ : ∃ k, k = numK (xs.drop m) 4 := ⟨_, rfl⟩
    have hkl : k < 4294967296 := by rw [hk]; exact Nat.lt_of_lt_of_le (numK_lt _ 4) (by decide)
    have hsl : ∀ W : World, (Instr.slice 29 (.slice A n c) (some (.int .i64 (m : Int))) none none).run Tryz.prog W = .ok (.slice (cutA A m c) 4 (c - m)) W := fun W => by
      have := cut_l Tryz.underlying29 elem_bytes size_u8 A (n := n) (cap := c) (k := m) (by omega) W
      rw [show n - m = 4 by omega] at this
      exact this
    have hrd : Rd w (cutA A m c) 4 (xs.drop m) := by
      have := hx.cut (k := m) (m := n) (cap := c) (by omega) (Nat.le_refl _) hnc
      rw [List.take_of_length_le (by omega), show n - m = 4 by omega] at this
      exact this
    have HGW : Hid (Calls Tryz.prog 214 #[.slice (cutA A m c) 4 (c - m)] w (RetCo w k)) := Lib.hid (by
      rw [hk]
      exact getWord8_any _ 4 _ _ w hrd (by omega) (by omega) (by omega))
    have e2 : (m : Int) / 4 = ((m / 4 : Nat) : Int) := by omega
    obtain ⟨d, hd⟩ : ∃ d, d = m / 4 := ⟨_, rfl⟩
    have e3 : (m : Int) / 4 = (d : Int) := by omega
    by_cases hdk : d < k
    · have hs : splitB xs = none := by
        unfold splitB
        rw [if_neg (by omega), hxl, ← hm]
        simp only
        rw [← hk, ← hd, if_pos hdk]
      have HS := Lib.hid hs
      clear hx hs hxl hrd hm hk hd e2
      go_enter Tryz.func213, Tryz.ntmps213
      go_wp2_with fail
      with_reducible refine HGW.out.mono ?_
      rintro e w2 ⟨rfl, q, hq⟩
      go_wp2_with fail
      exact bodyPost_ret (v := .tuple #[.slice none 0 0, .slice none 0 0, .bool false]) (by simp [results, Tryz.f213, go_sem]; try rfl) rfl ⟨⟨q, by first | exact hq | rfl⟩, .inl ⟨HS.out, rfl⟩⟩
    · obtain ⟨b, hb⟩ : ∃ b, b = m - 4 * k := ⟨_, rfl⟩
      have e4 : IntKind.i64.wrap (4 * (k : Int)) = 4 * (k : Int) := IntWalk.i64_in _ (by omega)
      have e5 : IntKind.i64.wrap ((m : Int) - 4 * (k : Int)) = (b : Int) := by rw [IntWalk.i64_in _ (by omega)]; omega
      have hbm : b ≤ m := by omega
      have hmn : m ≤ n := by omega
      have hs : splitB xs = some (xs.take b, (xs.take m).drop b) := by
        unfold splitB
        rw [if_neg (by omega), hxl, ← hm]
        simp only
        rw [← hk, ← hd, if_neg hdk, ← hb]
      have s1 : ∀ W : World, (Instr.slice 29 (.slice A n c) none (some (.int .i64 (b : Int))) none).run Tryz.prog W = .ok (.slice A b c) W := cut_h Tryz.underlying29 elem_bytes size_u8 A (by omega)
      have s2 : ∀ W : World, (Instr.slice 29 (.slice A n c) (some (.int .i64 (b : Int))) (some (.int .i64 (m : Int))) none).run Tryz.prog W = .ok (.slice (cutA A b c) (m - b) (c - b)) W := cut_lh Tryz.underlying29 elem_bytes size_u8 A hbm (by omega)
      obtain ⟨z, hz⟩ : ∃ z, z = m - b := ⟨_, rfl⟩
      rw [← hz] at s2
      have hcn : cutA A b c = none → c - b = 0 := fun hh => by
        unfold cutA at hh
        split at hh
        · omega
        · cases A with
          | none => have := hnil rfl; omega
          | some _ => cases hh
      have hfin : ∀ q, RetSp8 w A xs (.returned (.tuple #[.slice A b c, .slice (cutA A b c) z (c - b), .bool true])) (w.drewN q) := fun q =>
        ⟨⟨q, rfl⟩, .inr ⟨xs.take b, (xs.take m).drop b, A, b, c, cutA A b c, z, c - b, hs, rfl, by omega, by omega, hx.take (by omega), by rw [hz]; exact hx.cut hbm hmn hnc, hnil, hcn, .inr rfl, by omega⟩⟩
      have HF := Lib.hid hfin
      clear hx hs hxl hrd hm hk hd e2 hb hcn hfin hz
      go_enter Tryz.func213, Tryz.ntmps213
      go_wp2_with fail
      with_reducible refine HGW.out.mono ?_
      rintro e w2 ⟨rfl, q, hq⟩
      have HQ := Lib.hid hq
      clear hq
      go_wp2_with fail
      go_quiet (fail)
      go_wp2_with fail
      refine bodyPost_ret (v := .tuple #[.slice A b c, .slice (cutA A b c) z (c - b), .bool true]) (by simp [results, Tryz.f213, go_sem]; try rfl) rfl ?_
      have := HF.out (q + nq)
      rw [← World.drewN_drewN, ← HQ.out] at this
      exact this
end Go.Proofs.YtbgelbdnkbhffaaGreat
namespace Go.Proofs.YtbgelbdnkbhffaaGreat
open Go Go.RowKit

/-- The cells of these bools. -/
def voB (bs : List Bool) : Array Value := (bs.map Value.bool).toArray
theorem voB_at {bs : List Bool} {i : Nat} {x : Bool} (h : bs[i]? = some x) : (voB bs)[i]? = some (.bool x) := by
  unfold voB
  simp [h]
theorem voB_set (bs : List Bool) (i : Nat) (x : Bool) : (voB bs).setIfInBounds i (.bool x) = voB (bs.set i x) := by
  unfold voB
  simp [List.map_set]
theorem voB_made (s : Nat) : madeCells (Value.bool false).cells s = voB (List.replicate s false) := by
  unfold madeCells voB
  apply Array.ext
  · simp
  · intro i h1 h2
    simp [Value.cells, Nat.mod_one]
theorem info_boB : (Tryz.prog.info? 4).map (fun i => (i.zero, i.size, i.bytes)) = some (some (.bool false), 1, 1) := by kernel_rfl
theorem make_bools (s : Nat) (hs : s ≤ 1048576) (w : World) : (Instr.makeSlice 213 (.int .i64 (s : Int)) (.int .i64 (s : Int))).run Tryz.prog w = .ok (.slice (some ⟨w.heap.size, 0, none⟩) s s) (w.alloc (.cells (voB (List.replicate s false)) 4)) := by
  obtain ⟨i, hi, hz, hsz, hby⟩ := info_parts info_boB
  have h := run_make (P := Tryz.prog) w 213 4 i (.bool false) Tryz.underlying213 hi hz .i64 .i64 (s : Int) (s : Int) (by omega) (by omega) (by rw [hby]; omega) (by omega)
  rw [hsz, Nat.mul_one, Int.toNat_natCast, voB_made] at h
  exact h
set_option maxRecDepth 100000 in
set_option maxHeartbeats 8000000 in
theorem refBuild_gen (A : Option Addr) (n c p0 : Nat) (w : World) (hp : 1 ≤ p0) (hp2 : p0 ≤ 100) (hn : n ≤ 20000) (hnp : n * p0 ≤ 200000) (xss : List (List UInt8)) (hx : RdL w A n xss) (hxl : ∀ xs ∈ xss, xs.length ≤ maxLen) :
    Calls Tryz.prog 128 #[.int .i64 (p0 : Int), .slice A n c] w (RetUn w (filterB p0 xss)) := by
  obtain ⟨q, hq⟩ : ∃ q, q = n * p0 := ⟨_, rfl⟩
  have hq2 : q ≤ 200000 := by rw [hq]; exact hnp
  obtain ⟨M, hM⟩ : ∃ M, M = if q < 64 then 64 else q := ⟨_, rfl⟩
  have hM2 : 64 ≤ M ∧ M ≤ 200000 := by rw [hM]; split <;> omega
  obtain ⟨t, ht⟩ : ∃ t, t = (M + 7) / 8 := ⟨_, rfl⟩
  have ht2 : 8 ≤ t ∧ t ≤ 25000 := by omega
  have e1 : IntKind.i64.wrap ((p0 : Int) * (n : Int)) = (q : Int) := by
    have : ((p0 : Int) * (n : Int)) = ((n * p0 : Nat) : Int) := by push_cast; exact Int.mul_comm _ _
    rw [IntWalk.i64_in _ (by omega), this, ← hq]
  obtain ⟨k0, hk0⟩ : ∃ k0, k0 = p0 * 69 / 100 := ⟨_, rfl⟩
  obtain ⟨k, hk⟩ : ∃ k, k = min (max k0 1) 30 := ⟨_, rfl⟩
  have hk2 : 1 ≤ k ∧ k ≤ 30 := by omega
  have HM := Lib.hid hM
  have HQ := Lib.hid hq
  have HK := Lib.hid hk
  have HK0 := Lib.hid hk0
  have HT := Lib.hid ht
  have HX := Lib.hid hx
  clear hM hq hk hk0 ht hx
  go_enter Tryz.func128, Tryz.ntmps128
  go_upto_if 26 with (fail)
  go_cut [6] from 21 to 26 (fun s6 wx => s6 = .int .i64 (M : Int) ∧ wx = w)
  case first =>
    by_cases h64 : q < 64
    · obtain rfl : M = 64 := by rw [HM.out, if_pos h64]
      go_wp2_with fail
      go_meet
      case rel => exact ⟨rfl, rfl⟩
    · obtain rfl : M = q := by rw [HM.out, if_neg h64]
      go_wp2_with fail
      go_meet
      case rel => exact ⟨rfl, rfl⟩
  case rest =>
    obtain ⟨rfl, hwc⟩ := hcut
    rw [hwc]
    clear hwc wc
    go_wp2_with fail
    go_loopw [6] (fun s6 wr => ∃ y : Nat, M ≤ y ∧ y ≤ 8 * t ∧ s6 = .int .i64 (y : Int) ∧ wr = w) (fun s _ => 8 * t - (intOf s).toNat)
    case atStart => exact ⟨M, Nat.le_refl _, by have := HT.out; omega, rfl, rfl⟩
    case round =>
      obtain ⟨y, hy1, hy2, rfl, rfl⟩ := hrel
      by_cases h8 : y % 8 = 0
      · have hyt : y = 8 * t := by have := HT.out; omega
        have HY := Lib.hid hyt
        have e2 : (y : Int) % 8 = 0 := by omega
        have e3 : (y : Int) / 8 = (t : Int) := by omega
        obtain ⟨t1, ht1⟩ : ∃ t1, t1 = t + 1 := ⟨_, rfl⟩
        have e4 : IntKind.i64.wrap ((t : Int) + 1) = (t1 : Int) := by rw [IntWalk.i64_in _ (by omega)]; omega
        have ht3 : t1 ≤ 25001 := by omega
        have HT1 := Lib.hid ht1
        have hyr : 64 ≤ y ∧ y ≤ 200000 := by omega
        clear hyt hy1 hy2 ht1
        go_upto_region 10 with (fail)
        obtain ⟨k1, hk1⟩ : ∃ k1, k1 = max k0 1 := ⟨_, rfl⟩
        have HK1 := Lib.hid hk1
        have e5 : IntKind.i64.wrap ((p0 : Int) * 69) = ((p0 * 69 : Nat) : Int) := by rw [IntWalk.i64_in _ (by omega)]; omega
        have e6 : ((p0 : Int) * 69) / 100 = (k0 : Int) := by have := HK0.out; omega
        clear hk1
        go_upto_if 40 with (fail)
        go_cut [7] from 36 to 40 (fun s7 wx => s7 = .int .i64 (k1 : Int) ∧ wx = wr)
        case first =>
          by_cases h1 : k0 < 1
          · obtain rfl : k1 = 1 := by have := HK1.out; omega
            go_wp2_with fail
            go_meet
            case rel => exact ⟨rfl, rfl⟩
          · obtain rfl : k1 = k0 := by have := HK1.out; omega
            go_wp2_with fail
            go_meet
            case rel => exact ⟨by rw [e6], rfl⟩
        case rest =>
          obtain ⟨rfl, hwc⟩ := hcut
          rw [hwc]
          clear hwc wc
          go_upto_if 42 with (fail)
          go_cut [7] from 36 to 42 (fun s7 wx => s7 = .int .i64 (k : Int) ∧ wx = wr)
          case first =>
            by_cases h1 : 30 < k1
            · obtain rfl : k = 30 := by have := HK1.out; have := HK.out; omega
              go_wp2_with fail
              go_meet
              case rel => exact ⟨rfl, rfl⟩
            · obtain rfl : k = k1 := by have := HK1.out; have := HK.out; omega
              go_wp2_with fail
              go_meet
              case rel => exact ⟨rfl, rfl⟩
          case rest =>
            obtain ⟨rfl, hwc⟩ := hcut
            rw [hwc]
            clear hwc wc
            have hmk := make_bools y (by omega)
            go_wp2_with fail
            obtain ⟨w0, rfl⟩ : ∃ w0, w0 = wr := ⟨_, rfl⟩
            obtain ⟨W, hW⟩ : ∃ W, W = w0.alloc (.cells (voB (List.replicate y false)) 4) := ⟨_, rfl⟩
            rw [← hW]
            have hW0 : Cl W w0.heap.size (voB (List.replicate (8 * t) false)) 4 ∧ Below w0.heap.size w0 W := by
              rw [hW, ← HY.out]
              exact ⟨Cl.new _ _ _, (Below.refl _ _).alloc (Nat.le_refl _) _⟩
            have HW0 := Lib.hid hW0
            have hb0 : Bits t (buildB (t + 1) k []) (List.replicate (8 * t) false) := by
              unfold buildB
              exact Bits.zero t _
            have HB0 := Lib.hid hb0
            clear hW0 hb0 hW hmk e1 e2 e3 e4 e5 e6
            go_loopw [9] (fun s9 wx => ∃ (i : Nat) (bs : List Bool), i ≤ n ∧ s9 = .int .i64 (i : Int) ∧ Bits t (buildB (t + 1) k (xss.take i)) bs ∧ Cl wx w0.heap.size (voB bs) 4 ∧ Below w0.heap.size w0 wx) (fun s _ => n - (intOf s).toNat)
            case atStart => exact ⟨0, _, Nat.zero_le _, rfl, by rw [List.take_zero]; exact HB0.out, HW0.out⟩
            case round =>
              obtain ⟨i, bs, hi, rfl, hbs, kC, bC⟩ := hrel
              have HBS := Lib.hid (And.intro hbs (And.intro kC bC))
              by_cases hin : i < n
              · obtain ⟨b, off, hA, hbl, hel⟩ := HX.out.2 (by omega)
                obtain ⟨key, hkey⟩ : ∃ key, xss[i]? = some key := ⟨_, List.getElem?_eq_getElem (by have := HX.out.1; omega)⟩
                obtain ⟨v, hv, K, kn, kc, rfl, hrK, _⟩ := hel i key hkey
                have hkn : kn ≤ maxLen := by
                  have h1 := hrK.len
                  have h2 := hxl key (List.mem_of_getElem? hkey)
                  omega
                subst hA
                have HV := Lib.hid hv
                have HRK := Lib.hid hrK
                have hsucc := buildB_succ (s := t + 1) (k := k) hkey
                have HSU := Lib.hid hsucc
                clear hbs kC bC hel hkey hv hrK hsucc
                obtain ⟨F, hF⟩ : ∃ F, F = buildB (t + 1) k (xss.take i) := ⟨_, rfl⟩
                rw [← hF] at HBS HSU
                clear hF
                go_wp2_with fail
                obtain ⟨w1, rfl⟩ : ∃ w1, w1 = wr := ⟨_, rfl⟩
                go_loopw [10] (fun s10 wx => ∃ (j : Nat) (cs : List Bool), j ≤ k ∧ s10 = .int .i64 (j : Int) ∧ Bits t (((List.range j).map (bitN key (8 * t))).foldl putB F) cs ∧ Cl wx w0.heap.size (voB cs) 4 ∧ Below w0.heap.size w0 wx) (fun s _ => k - (intOf s).toNat)
                case atStart => exact ⟨0, bs, Nat.zero_le _, rfl, HBS.out⟩
                case round =>
                  obtain ⟨j, cs, hj, rfl, hcs, kD, bD⟩ := hrel
                  by_cases hjk : j < k
                  · have HBI : Hid (Calls Tryz.prog 174 #[.slice K kn kc, .int .i64 (j : Int), .int .i64 (y : Int)] wr (RetBi wr (bitN key y j))) := Lib.hid (refBit_any K kn kc key j y wr (HRK.out.below bD) hkn (by omega) (by omega) (by omega))
                    have hz : bitN key y j < y := bitN_lt key (by omega) j
                    obtain ⟨z, hz2⟩ : ∃ z, z = bitN key y j := ⟨_, rfl⟩
                    rw [← hz2] at hz HBI
                    have hput : Bits t (((List.range (j + 1)).map (bitN key (8 * t))).foldl putB F) (putO cs z) := by
                      rw [List.range_succ, List.map_append, List.foldl_append]
                      have := hcs.put (b := z) (by have := HY.out; omega)
                      rw [hz2, HY.out] at this ⊢
                      exact this
                    have HPUT := Lib.hid hput
                    have hc1 : wr.cell? ⟨b, off + i, none⟩ = some (.slice K kn kc) := (bD.cell (p := ⟨b, off + i, none⟩) hbl).trans HV.out
                    have HKD := Lib.hid (And.intro kD bD)
                    clear hput hz2 hcs kD bD
                    go_wp2_with fail
                    with_reducible refine HBI.out.mono ?_
                    rintro e w2 ⟨rfl, q2, hq2⟩
                    have kE : Cl w2 w0.heap.size (voB cs) 4 := by rw [hq2]; exact HKD.out.1
                    have hth := kE.thaw z
                    have HKE := Lib.hid (kE.set z (.bool true))
                    have HBE : Hid (Below w0.heap.size w0 w2) := Lib.hid (by rw [hq2]; exact below_drewN HKD.out.2 q2)
                    obtain ⟨ob, hob⟩ : ∃ ob, cs[z]? = some ob := by
                      have h1 : (putO cs z).length = 8 * t := HPUT.out.2.1
                      have h2 : cs.length = 8 * t := by rw [← h1, putO, List.length_set]
                      exact ⟨_, List.getElem?_eq_getElem (by have := HY.out; omega)⟩
                    have hcz := (kE.cell z).trans (voB_at hob)
                    clear hq2 kE hob
                    go_wp2_with fail
                    refine ⟨⟨j + 1, putO cs z, by omega, by go_num, HPUT.out, by have h := HKE.out; rw [voB_set] at h; exact h, HBE.out.setCell (p := ⟨w0.heap.size, z, none⟩) (Nat.le_refl _) _⟩, ?_⟩
                    simp [intOf]; omega
                  · obtain rfl : j = k := by omega
                    have hfin : Bits t (buildB (t + 1) j (xss.take (i + 1))) cs := by rw [HSU.out]; exact hcs
                    have HF := Lib.hid (And.intro hfin (And.intro kD bD))
                    clear hfin hcs kD bD
                    go_wp2_with fail
                    go_roundw
                    case rel => exact ⟨i + 1, cs, by omega, by go_num, HF.out⟩
                    case measure => simp [intOf]; omega
              · obtain rfl : i = n := by omega
                clear hbs kC bC
                obtain ⟨F, hF⟩ : ∃ F, F = buildB (t + 1) k (xss.take i) := ⟨_, rfl⟩
                rw [← hF] at HBS
                have HF := Lib.hid hF
                have hFl : F.length = t + 1 := by rw [hF]; exact buildB_len _ _ _
                clear hF
                go_wp2_with fail
                obtain ⟨w1, rfl⟩ : ∃ w1, w1 = wr := ⟨_, rfl⟩
                go_loopw [11, 12] (fun s11 s12 wx => ∃ (r p : Nat) (O : Option Addr) (oc : Nat), r ≤ t ∧ p = 8 * r ∧ s12 = .int .i64 (p : Int) ∧ s11 = .slice O r oc ∧ Own 5 wx w1.heap.size O r oc (F.take r) ∧ Below w1.heap.size w1 wx) (fun _ s _ => 8 * t - (intOf s).toNat)
                case atStart => exact ⟨0, 0, none, 0, Nat.zero_le _, rfl, rfl, rfl, Own.nil _ _ _, Below.refl _ _⟩
                case round =>
                  obtain ⟨r, p, O, oc, hr, hp, rfl, rfl, oO, bO⟩ := hrel
                  have HPR := Lib.hid hp
                  clear hp
                  by_cases hrt : r < t
                  · have hpy : p < y := by have := HPR.out; have := HY.out; omega
                    have KS : Hid (Cl wr w0.heap.size (voB bs) 4) := Lib.hid (HBS.out.2.1.below bO)
                    have HO := Lib.hid (And.intro oO bO)
                    clear oO bO
                    obtain ⟨w2, rfl⟩ : ∃ w2, w2 = wr := ⟨_, rfl⟩
                    go_wp2_with fail
                    go_loopw [13, 14] (fun s13 s14 wx => ∃ (d : Nat) (j : Int) (bb : Nat), d ≤ 8 ∧ j = 7 - (d : Int) ∧ bb = byteO bs (8 * r) d ∧ s14 = .int .i64 j ∧ s13 = .int .i64 (bb : Int) ∧ wx = w2) (fun _ s _ => (intOf s + 1).toNat)
                    case atStart => exact ⟨0, 7, 0, by omega, by omega, rfl, rfl, rfl, by first | trivial | rfl⟩
                    case round =>
                      obtain ⟨d, j, bb, hd, hj, hbb, rfl, rfl, hXX⟩ := hrel
                      have hby := byteO_lt bs (8 * r) d
                      have h2d : 2 ^ d ≤ 256 := Nat.le_trans (Nat.pow_le_pow_right (by omega) hd) (by decide)
                      have hbl : bb < 256 := by omega
                      by_cases hd8 : d < 8
                      · obtain ⟨x, hxx⟩ : ∃ x, bs[8 * r + (7 - d)]? = some x := ⟨_, List.getElem?_eq_getElem (by have := HBS.out.1.2.1; omega)⟩
                        have hstep : byteO bs (8 * r) (d + 1) = 2 * byteO bs (8 * r) d + (if x then 1 else 0) := by
                          rw [byteO, hxx]
                          rfl
                        rw [← hbb] at hstep
                        obtain ⟨z, hz⟩ : ∃ z, z = p + (7 - d) := ⟨_, rfl⟩
                        have hzz : 8 * r + (7 - d) = z := by rw [hz, HPR.out]
                        rw [hzz] at hxx
                        have hcx : wr.cell? ⟨w0.heap.size, z, none⟩ = some (.bool x) := by rw [hXX]; exact (KS.out.cell z).trans (voB_at hxx)
                        obtain ⟨b2, hb2⟩ : ∃ b2, b2 = 2 * bb := ⟨_, rfl⟩
                        have f1 : IntKind.i64.wrap (2 * (bb : Int)) = (b2 : Int) := by rw [IntWalk.i64_in _ (by omega)]; omega
                        have f2 : IntKind.i64.wrap ((p : Int) + j) = (z : Int) := by rw [IntWalk.i64_in _ (by omega)]; omega
                        have f5 : (0 : Int) ≤ j := by omega
                        have f3 : IntKind.i64.wrap (j - 1) = j - 1 := by rw [IntWalk.i64_in _ (by omega)]
                        have hzy : z < y := by have := HY.out; have := HPR.out; omega
                        have hb3 : b2 < 512 := by omega
                        have HXX := Lib.hid hXX
                        have HST := Lib.hid hstep
                        have HB2 := Lib.hid hb2
                        have HJ := Lib.hid hj
                        clear hXX hstep hbb hby h2d hxx hz hzz hb2 hj
                        cases x with
                        | true =>
                          go_wp2_with fail
                          go_roundw
                          case rel => exact ⟨d + 1, j - 1, b2 + 1, by omega, by have := HJ.out; omega, by have h1 := HST.out; have h2 := HB2.out; rw [if_pos rfl] at h1; omega, by go_num, by go_num, HXX.out⟩
                          case measure => simp [intOf]; omega
                        | false =>
                          go_wp2_with fail
                          go_roundw
                          case rel => exact ⟨d + 1, j - 1, b2, by omega, by have := HJ.out; omega, by have h1 := HST.out; have h2 := HB2.out; simp only [Bool.false_eq_true, if_false] at h1; omega, by go_num, by go_num, HXX.out⟩
                          case measure => simp [intOf]; omega
                      · obtain rfl : d = 8 := by omega
                        obtain rfl : j = -1 := by omega
                        obtain ⟨x, hx⟩ : ∃ x, F[r]? = some x := ⟨_, List.getElem?_eq_getElem (by omega)⟩
                        have hbx : bb = x.toNat := by rw [hbb]; exact Bits.byte HBS.out.1 (by omega) hx
                        subst hbx
                        have htk : F.take (r + 1) = F.take r ++ [x] := take_snoc' F r x hx
                        have HTK := Lib.hid htk
                        have HWX := Lib.hid hXX
                        have f6 : IntKind.u8.wrap (x.toNat : Int) = (x.toNat : Int) := by rw [IntKind.wrap_u8]; omega
                        have oW : Own 5 wr w1.heap.size O r oc (F.take r) := by rw [hXX]; exact HO.out.1
                        have bW : Below w1.heap.size w1 wr := by rw [hXX]; exact HO.out.2
                        have hbs := bW.size
                        have BW := Lib.hid bW
                        clear hbb hby h2d hx htk hXX bW
                        go_wp2_with (at_builtin; refine wpList_app _ rfl _ _ 29 rfl w1.heap.size 5 Tryz.underlying29 info_u8 O r oc (F.take r) rfl (oW.alloc _) _ 1 1 [x] rfl (Rd.one _ _ _ _ rfl) ?_ ?_ ?_)
                        · omega
                        · simp; omega
                        intro A2 c2 w3 o3 b3
                        have b3' : Below w1.heap.size w1 w3 := (BW.out.alloc hbs _).trans b3
                        have H3 := Lib.hid (And.intro o3 b3')
                        clear oW o3 b3 b3'
                        go_wp2_with fail
                        go_roundw
                        case rel => exact ⟨r + 1, p + 8, A2, c2, by omega, by have := HPR.out; omega, by go_num, rfl, by rw [HTK.out]; exact H3.out.1, H3.out.2⟩
                        case measure => have := HPR.out; simp [intOf]; omega
                  · obtain rfl : r = t := by omega
                    have hpy : ¬ p < y := by have := HPR.out; have := HY.out; omega
                    have hFF : F = filterB p0 xss := by
                      have h1 := HF.out
                      have h2 := HX.out.1
                      rw [h1, List.take_of_length_le (by omega)]
                      unfold filterB
                      rw [h2, ← HQ.out, ← HM.out, ← HT.out, ← HK0.out, ← HK.out]
                    have hlast : F[r]? = some (UInt8.ofNat k) := by
                      have h := buildB_last (s := r + 1) (k := k) (by omega) (xss.take i)
                      rw [← HF.out] at h
                      exact h
                    have hall : F.take r ++ [bt k] = filterB p0 xss := by
                      rw [← hFF]
                      have h := take_snoc' F r _ hlast
                      rw [List.take_of_length_le (by omega)] at h
                      exact h.symm
                    have hlen : (filterB p0 xss).length = r + 1 := by rw [← hFF]; exact hFl
                    have f6 : IntKind.u8.wrap (k : Int) = (k : Int) := by rw [IntKind.wrap_u8]; omega
                    have hbs := bO.size
                    have BW := Lib.hid bO
                    have HALL := Lib.hid hall
                    have HLEN := Lib.hid hlen
                    have B1 := Lib.hid HBS.out.2.2
                    clear hFF hlast hall hlen bO
                    go_wp2_with (at_builtin; refine wpList_app _ rfl _ _ 29 rfl w1.heap.size 5 Tryz.underlying29 info_u8 O r oc (F.take r) rfl (oO.alloc _) _ 1 1 [bt k] rfl (Rd.one _ _ _ _ ?_) ?_ ?_ ?_)
                    · rw [bt_nat k (by omega)]
                    · omega
                    · simp; omega
                    intro A2 c2 w3 o3 b3
                    have b3' : Below w1.heap.size w1 w3 := (BW.out.alloc hbs _).trans b3
                    rw [HALL.out] at o3
                    have H3 := Lib.hid (And.intro o3 b3')
                    clear o3 b3 b3'
                    go_wp2_with fail
                    have s0 := B1.out.size
                    refine bodyPost_ret (v := .tuple #[.slice A2 (r + 1) c2, .int .i64 0]) (by simp [results, Tryz.f128, go_sem]; try rfl) rfl ?_
                    unfold RetUn
                    rw [HLEN.out]
                    exact ⟨A2, c2, rfl, H3.out.1.mono s0, B1.out.trans (H3.out.2.mono s0)⟩
      · have e2 : ¬ (y : Int) % 8 = 0 := by omega
        have e3 : IntKind.i64.wrap ((y : Int) + 1) = ((y + 1 : Nat) : Int) := by rw [IntWalk.i64_in _ (by omega)]; omega
        go_wp2_with fail
        go_roundw
        case rel => exact ⟨y + 1, by omega, by have := HT.out; omega, by go_num, by first | trivial | rfl⟩
        case measure => have := HT.out; simp [intOf]; omega
end Go.Proofs.YtbgelbdnkbhffaaGreat
namespace Go.Proofs.YtbgelbdnkbhffaaGreat
open Go Go.RowKit Go.Maps

theorem putR_sub2 {r : FR} : ∀ {rs : List FR}, rsUp rs → ∀ q, q ∈ putR r rs → q = r ∨ (q ∈ rs ∧ q.name ≠ r.name)
  | [], _, q, h => by simp [putR] at h; exact .inl h
  | a :: t, hu, q, h => by
    have hu0 := hu
    unfold rsUp at hu
    rw [List.pairwise_cons] at hu
    simp only [putR] at h
    split at h
    · next e =>
      rcases List.mem_cons.1 h with h | h
      · exact .inl h
      · exact .inr ⟨List.mem_cons_of_mem _ h, fun e2 => nlt_ne (hu.1 q h) (by rw [e, e2])⟩
    · next e =>
      split at h
      · next e3 =>
        rcases List.mem_cons.1 h with h | h
        · exact .inl h
        · refine .inr ⟨h, ?_⟩
          rcases List.mem_cons.1 h with h | h
          · rw [h]; exact e
          · exact fun e2 => nlt_ne (nlt_trans e3 (hu.1 q h)) e2.symm
      · rcases List.mem_cons.1 h with h | h
        · exact .inr ⟨by rw [h]; exact List.mem_cons_self .., by rw [h]; exact e⟩
        · rcases putR_sub2 hu.2 q h with h | ⟨h, h2⟩
          · exact .inl h
          · exact .inr ⟨List.mem_cons_of_mem _ h, h2⟩
theorem putR_len_old {r : FR} : ∀ {rs : List FR}, rsUp rs → (∃ q ∈ rs, q.name = r.name) → (putR r rs).length = rs.length
  | [], _, h => by obtain ⟨q, hq, _⟩ := h; cases hq
  | a :: t, hu, h => by
    unfold rsUp at hu
    rw [List.pairwise_cons] at hu
    simp only [putR]
    split
    · rfl
    · next e =>
      obtain ⟨q, hq, e2⟩ := h
      rcases List.mem_cons.1 hq with rfl | hq
      · exact absurd e2 e
      · rw [if_neg (fun e3 => nlt_ne (nlt_trans e3 (hu.1 q hq)) e2.symm), List.length_cons, putR_len_old hu.2 ⟨q, hq, e2⟩, List.length_cons]
theorem putR_any_old {r : FR} (x : List UInt8) : ∀ {rs : List FR}, rsUp rs → (∃ q ∈ rs, q.name = r.name) → (putR r rs).any (fun q => q.name == x) = rs.any (fun q => q.name == x)
  | [], _, h => by obtain ⟨q, hq, _⟩ := h; cases hq
  | a :: t, hu, h => by
    unfold rsUp at hu
    rw [List.pairwise_cons] at hu
    simp only [putR]
    split
    · next e => rw [List.any_cons, List.any_cons, e]
    · next e =>
      obtain ⟨q, hq, e2⟩ := h
      rcases List.mem_cons.1 hq with rfl | hq
      · exact absurd e2 e
      · rw [if_neg (fun e3 => nlt_ne (nlt_trans e3 (hu.1 q hq)) e2.symm), List.any_cons, putR_any_old x hu.2 ⟨q, hq, e2⟩, List.any_cons]
theorem MR.same {Dm : DU} {rs : List FR} {r r' : FR} (h : MR Dm rs) (hu : rsUp rs) (hr : r ∈ rs) (hn : r'.name = r.name) (hb : r'.fb = r.fb) : MR Dm (putR r' rs) := by
  refine ⟨?_, fun x => ?_, fun q hq z => ?_⟩
  · rw [putR_len_old hu ⟨r, hr, hn.symm⟩]; exact h.1
  · rw [putR_any_old x hu ⟨r, hr, hn.symm⟩]; exact h.2.1 x
  · rcases putR_sub2 hu q hq with rfl | ⟨hq, _⟩
    · rw [hn, hb]; exact h.2.2 r hr z
    · exact h.2.2 q hq z
theorem sp_of {rs : List FR} (hp : rs.Pairwise Sp) (hu : rsUp rs) {a b : FR} (ha : a ∈ rs) (hb : b ∈ rs) (e : a.name ≠ b.name) : Sp a b := by
  induction rs with
  | nil => cases ha
  | cons q t ih =>
    unfold rsUp at hu
    rw [List.pairwise_cons] at hp hu
    rcases List.mem_cons.1 ha with rfl | ha2
    · rcases List.mem_cons.1 hb with rfl | hb2
      · exact absurd rfl e
      · exact hp.1 b hb2
    · rcases List.mem_cons.1 hb with rfl | hb2
      · exact (hp.1 a ha2).symm
      · exact ih hp.2 hu.2 ha2 hb2

section
variable {w w' : World} {p : Nat} {m : Option Nat} {rs : List FR} {room used left : Int} {dead armed : Bool}
/-- A file turned. -/
theorem DskR.file (h : DskR w p m rs room used left dead armed) (hu : rsUp rs) {r r' : FR} (hr : r ∈ rs) (hn : r'.name = r.name) (hb : r'.fb = r.fb) (hf : Fr w w' r.bl) (hat : FileAt w' r') (hbl : ∀ b ∈ r'.bl, b ∈ r.bl ∨ w.heap.size ≤ b) (hne : blk r'.A ≠ some r'.fb) :
    DskR w' p m (putR r' rs) room used left dead armed := by
  have hlt := h.lt
  obtain ⟨h1, h2, h3, h4, h5, h6⟩ := h
  have hpl := (Array.getElem?_eq_some_iff.1 h1).1
  refine ⟨(hf.block p hpl (h4 r hr).1).trans h1, ?_, fun q hq => ?_, fun q hq => ?_, h5, ?_⟩
  · rcases h2 with ⟨rfl, rfl⟩ | ⟨b, Dm, rfl, ho, hm⟩
    · cases hr
    · refine .inr ⟨b, Dm, rfl, ?_, hm.same hu hr hn hb⟩
      rw [putR_len_old hu ⟨r, hr, hn.symm⟩]
      obtain ⟨es, clock, e1, e2⟩ := ho
      exact ⟨es, clock, (hf.block b (Array.getElem?_eq_some_iff.1 e1).1 ((h4 r hr).2.1 b rfl)).trans e1, e2⟩
  · rcases putR_sub2 hu q hq with rfl | ⟨hq, hqn⟩
    · exact hat
    · exact (h3 q hq).fr hf (fun b hb2 hb3 => sp_of h6 hu hq hr (by rw [← hn]; exact hqn) b hb2 hb3)
  · rcases putR_sub2 hu q hq with rfl | ⟨hq, hqn⟩
    · refine ⟨fun hm => ?_, fun b hb2 hm => ?_, hne⟩
      · rcases hbl _ hm with h7 | h7
        · exact (h4 r hr).1 h7
        · omega
      · rcases hbl _ hm with h7 | h7
        · exact (h4 r hr).2.1 b hb2 h7
        · have := h2.lt b hb2; omega
    · exact h4 q hq
  · refine putR_pair (fun a b => Sp.symm) h6 (fun q hq hqn x hx hxq => ?_) hu
    rcases hbl x hx with h7 | h7
    · exact sp_of h6 hu hr hq (fun e => hqn (by rw [hn, e])) x h7 hxq
    · have := hlt x (mem_file hq hxq); omega
theorem mem_putR {r' : FR} (hu : rsUp rs) {r : FR} (hr : r ∈ rs) (hbl : ∀ b ∈ r'.bl, b ∈ r.bl ∨ w.heap.size ≤ b) : ∀ b ∈ allB p m (putR r' rs), b ∈ allB p m rs ∨ w.heap.size ≤ b := fun b hb => by
  simp only [allB, List.mem_cons, List.mem_append, List.mem_flatMap] at hb
  rcases hb with rfl | hb | ⟨q, hq, hb⟩
  · exact .inl mem_head
  · exact .inl (by simp only [allB, List.mem_cons, List.mem_append]; exact .inr (.inl hb))
  · rcases putR_sub2 hu q hq with rfl | ⟨hq, _⟩
    · rcases hbl b hb with h | h
      · exact .inl (mem_file hr h)
      · exact .inr h
    · exact .inl (mem_file hq hb)

/-- What turn answers for OK, and what the head holds behind it. -/
def tE (armed : Bool) (left : Int) : Int := if armed = true ∧ left = 0 then 9 else 0
def tL (armed : Bool) (left : Int) : Int := if armed = true ∧ left ≠ 0 then left - 1 else left
def tD (dead armed : Bool) (left : Int) : Bool := if armed = true ∧ left = 0 then true else dead
def tA (armed : Bool) (left : Int) : Bool := if armed = true ∧ left = 0 then false else armed
theorem turn_zero (h : DskR w p m rs room used left dead armed) (hl : 0 ≤ left ∧ left ≤ 9223372036854775807) :
    Calls Tryz.prog 76 #[.pointer (some ⟨p, 0, none⟩), .int .i64 0] w (RetHd w p (headV m room used (tL armed left) (tD dead armed left) (tA armed left)) (.int .i64 (tE armed left))) := by
  cases armed with
  | false =>
    have e1 : tE false left = 0 := by simp [tE]
    have e2 : tL false left = left := by simp [tL]
    have e3 : tD dead false left = dead := by simp [tD]
    have e4 : tA false left = false := by simp [tA]
    rw [e1, e2, e3, e4]
    refine (turn_free h).mono ?_
    rintro e w' ⟨rfl, rfl⟩
    exact ⟨rfl, Hd.refl h.1⟩
  | true =>
    by_cases h0 : left = 0
    · subst h0
      have e1 : tE true 0 = 9 := by simp [tE]
      have e2 : tL true 0 = 0 := by simp [tL]
      have e3 : tD dead true 0 = true := by simp [tD]
      have e4 : tA true 0 = false := by simp [tA]
      rw [e1, e2, e3, e4]
      exact turn_kill h
    · have e1 : tE true left = 0 := by simp [tE, h0]
      have e2 : tL true left = left - 1 := by simp [tL, h0]
      have e3 : tD dead true left = dead := by simp [tD, h0]
      have e4 : tA true left = true := by simp [tA, h0]
      rw [e1, e2, e3, e4]
      exact turn_step h (by omega) hl.2
theorem Rd.toV {A : Option Addr} {n : Nat} {xs : List UInt8} (h : Rd w A n xs) : RdV w A n (xs.map cv) := by
  refine ⟨by rw [List.length_map]; exact h.1, fun hn => ?_⟩
  obtain ⟨b, off, h1, h2, h3⟩ := h.2 hn
  refine ⟨b, off, h1, h2, fun i v hv => ?_⟩
  rw [List.getElem?_map] at hv
  cases hx : xs[i]? with
  | none => rw [hx] at hv; cases hv
  | some x =>
    rw [hx] at hv
    injection hv with hv
    subst hv
    exact h3 i x hx
end
end Go.Proofs.YtbgelbdnkbhffaaGreat
namespace Go.Proofs.YtbgelbdnkbhffaaGreat
open Go Go.RowKit

/-- What the reference's Get answers: an entry's values as they lie in the list. -/
def RetGl (w : World) (o : Option En) (e : Ending) (w' : World) : Prop :=
  (o = none ∧ e = .returned (.tuple #[.agg #[.slice none 0 0, .int .u64 0, .int .u8 0, .slice none 0 0], .bool false]) ∧ Below w.heap.size w w') ∨
  ∃ x v0 v1 v2 v3, o = some x ∧ e = .returned (.tuple #[.agg #[v0, v1, v2, v3], .bool true]) ∧ EV w' x v0 v1 v2 v3 ∧ Below w.heap.size w w'
theorem findL_at {key : List UInt8} {at_ k : Nat} {es : List En} {x : En} (h : findL key at_ (es.take k) = none) (hx : es[k]? = some x) (hk : (eqB x.key key && decide (x.seq ≤ at_)) = true) : findL key at_ es = some x := by
  have hlt := (List.getElem?_eq_some_iff.1 hx).1
  have e : es = es.take k ++ x :: es.drop (k + 1) := by
    have hd : es.drop k = x :: es.drop (k + 1) := by rw [List.drop_eq_getElem_cons hlt, (List.getElem?_eq_some_iff.1 hx).2]
    rw [← hd, List.take_append_drop]
  unfold findL at h ⊢
  rw [e, List.find?_append, h, List.find?_cons, hk]
  rfl
theorem findL_snoc {key : List UInt8} {at_ k : Nat} {es : List En} {x : En} (h : findL key at_ (es.take k) = none) (hx : es[k]? = some x) (hk : (eqB x.key key && decide (x.seq ≤ at_)) = false) : findL key at_ (es.take (k + 1)) = none := by
  unfold findL at h ⊢
  rw [List.take_add_one, hx, List.find?_append, h]
  simp only [Option.toList, List.find?_cons, hk]
  rfl
set_option maxRecDepth 100000 in
set_option maxHeartbeats 4000000 in
theorem refGet_any {w : World} {A F : Option Addr} {n c fn fc at_ : Nat} {es : List En} {key : List UInt8} (h : REs w A n es) (hn : n ≤ 1099511627776) (hs : ∀ x ∈ es, SzE x) (hf : Rd w F fn key) (hfn : fn ≤ maxLen) :
    Calls Tryz.prog 19 #[.slice A n c, .slice F fn fc, .int .u64 (at_ : Int)] w (RetGl w (findL key at_ es)) := by
  obtain ⟨U, hU⟩ : ∃ U, U = w.alloc (.cells #[.slice none 0 0, .int .u64 0, .int .u8 0, .slice none 0 0] 49) := ⟨_, rfl⟩
  have bU : Below w.heap.size w U := by rw [hU]; exact (Below.refl _ _).alloc (Nat.le_refl _) _
  have ZU := Lib.hid (show Cl U w.heap.size #[.slice none 0 0, .int .u64 0, .int .u8 0, .slice none 0 0] 49 by rw [hU]; exact Cl.new _ _ _)
  have H1 := Lib.hid h
  have HF := Lib.hid (hf.below bU)
  have HLN := Lib.hid h.len
  have HS := Lib.hid hs
  have BU := Lib.hid bU
  clear h hs hf bU
  go_enter Tryz.func19, Tryz.ntmps19
  go_upto_region 1 with (fail)
  rw [← hU]
  clear hU
  go_wp2_with fail
  go_loopw [8] (fun s8 wr => ∃ k q : Nat, k ≤ n ∧ s8 = .int .i64 (k : Int) ∧ findL key at_ (es.take k) = none ∧ wr = U.drewN q) (fun s _ => n - (intOf s).toNat)
  case atStart => exact ⟨0, 0, Nat.zero_le _, rfl, rfl, rfl⟩
  case round =>
    obtain ⟨k, q, hk', rfl, hin, hX⟩ := hrel
    have hBr : Below U.heap.size U wr := by rw [hX]; exact below_drewN (Below.refl _ _) q
    have HBr := Lib.hid hBr
    have HX := Lib.hid hX
    have HIN := Lib.hid hin
    have HFR := Lib.hid (HF.out.below hBr)
    have ZR := Lib.hid (ZU.out.below hBr)
    have BWr := Lib.hid (belowT' BU.out hBr)
    have hR := H1.out.below BWr.out
    clear hX hin hBr
    by_cases hlt : k < n
    · obtain ⟨b, off, hAb, hbw⟩ := H1.out.pos (by omega)
      subst hAb
      obtain ⟨x, u0, u1, u2, u3, hx, c0', c1', c2', c3', hew⟩ := H1.out.at_ k hlt
      have hbl : b < wr.heap.size := Nat.lt_of_lt_of_le hbw BWr.out.size
      have c0 := (BWr.out.cell hbw).trans c0'
      have c1 := (BWr.out.cell hbw).trans c1'
      have c2 := (BWr.out.cell hbw).trans c2'
      have c3 := (BWr.out.cell hbw).trans c3'
      have hev := hew.below BWr.out
      obtain ⟨L, ln, lc, M, mn, mc, rfl, rfl, rfl, rfl, q0, _⟩ := hev.parts
      have hsx := HS.out x (List.mem_of_getElem? hx)
      have hln : ln ≤ maxLen := maxLen_e (by rw [← q0.len]; exact hsx.1)
      have HXK := Lib.hid hx
      have HEV := Lib.hid hew
      obtain ⟨z, hz⟩ : ∃ z, z = eqB x.key key := ⟨_, rfl⟩
      have HE : Hid (Calls Tryz.prog 16 #[.slice L ln lc, .slice F fn fc] wr (RetB wr z)) := Lib.hid (by rw [hz]; exact Equal_any _ _ _ _ _ _ x.key key _ q0 HFR.out hln hfn)
      have HSK : Hid ((eqB x.key key && decide (x.seq ≤ at_)) = (z && decide (x.seq ≤ at_))) := Lib.hid (by rw [hz])
      clear hR hx hev hew q0 hz c0' c1' c2' c3'
      cases z with
      | true =>
        by_cases hle : x.seq ≤ at_
        · have HFD : Hid (findL key at_ es = some x) := Lib.hid (findL_at HIN.out HXK.out (by rw [HSK.out]; simpa using hle))
          go_wp2_with fail
          with_reducible refine HE.out.mono ?_
          rintro e w1 ⟨rfl, q1, rfl⟩
          have b1 : Below wr.heap.size wr (wr.drewN q1) := below_drewN (Below.refl _ _) q1
          obtain ⟨w2, hw2⟩ : ∃ w2, w2 = wr.drewN q1 := ⟨_, rfl⟩
          rw [← hw2] at b1 ⊢
          have B2 := Lib.hid (belowT' BWr.out b1)
          have Z2 := Lib.hid (ZR.out.below b1)
          have d0 := (b1.cell hbl).trans c0
          have d1 := (b1.cell hbl).trans c1
          have d2 := (b1.cell hbl).trans c2
          have d3 := (b1.cell hbl).trans c3
          obtain ⟨g0, g1, g2, g3, k0, k1, k2, k3⟩ := Z2.out.c4
          clear c0 c1 c2 c3 b1 hw2
          go_wp2_with fail
          obtain ⟨X, hX⟩ : ∃ X, X = ((((w2.setCell ⟨w.heap.size, 0, none⟩ (.slice L ln lc)).setCell ⟨w.heap.size, 1, none⟩ (.int .u64 (x.seq : Int))).setCell ⟨w.heap.size, 2, none⟩ (.int .u8 (x.kind : Int))).setCell ⟨w.heap.size, 3, none⟩ (.slice M mn mc)) := ⟨_, rfl⟩
          rw [← hX]
          have zX : Cl X w.heap.size #[.slice L ln lc, .int .u64 (x.seq : Int), .int .u8 (x.kind : Int), .slice M mn mc] 49 := by rw [hX]; exact Z2.out.put4 rfl _ _ _ _
          have bX : Below w.heap.size w X := by rw [hX]; exact below_set (below_set (below_set (below_set B2.out 0 _ (Nat.le_refl _)) 1 _ (Nat.le_refl _)) 2 _ (Nat.le_refl _)) 3 _ (Nat.le_refl _)
          have EVX : EV X x (.slice L ln lc) (.int .u64 (x.seq : Int)) (.int .u8 (x.kind : Int)) (.slice M mn mc) := HEV.out.below bX
          obtain ⟨x0, x1, x2, x3, _⟩ := zX.c4
          refine bodyPost_ret (v := .tuple #[.agg #[.slice L ln lc, .int .u64 (x.seq : Int), .int .u8 (x.kind : Int), .slice M mn mc], .bool true]) (by simp [results, Tryz.results19, go_sem, x0, x1, x2, x3]; try rfl) rfl (.inr ⟨x, _, _, _, _, HFD.out, rfl, EVX, bX⟩)
        · have HNX : Hid (findL key at_ (es.take (k + 1)) = none) := Lib.hid (findL_snoc HIN.out HXK.out (by rw [HSK.out]; simpa using hle))
          have BN : Hid (∀ q1, wr.drewN q1 = U.drewN (q + q1)) := Lib.hid (fun q1 => by rw [HX.out, World.drewN_drewN])
          go_wp2_with fail
          with_reducible refine HE.out.mono ?_
          rintro e w1 ⟨rfl, q1, rfl⟩
          go_wp2_with fail
          go_roundw
          case rel => exact ⟨k + 1, q + q1, by omega, by go_num, HNX.out, BN.out q1⟩
          case measure => simp [intOf]; omega
      | false =>
        have HNX : Hid (findL key at_ (es.take (k + 1)) = none) := Lib.hid (findL_snoc HIN.out HXK.out (by rw [HSK.out]; rfl))
        have BN : Hid (∀ q1, wr.drewN q1 = U.drewN (q + q1)) := Lib.hid (fun q1 => by rw [HX.out, World.drewN_drewN])
        go_wp2_with fail
        with_reducible refine HE.out.mono ?_
        rintro e w1 ⟨rfl, q1, rfl⟩
        go_wp2_with fail
        go_roundw
        case rel => exact ⟨k + 1, q + q1, by omega, by go_num, HNX.out, BN.out q1⟩
        case measure => simp [intOf]; omega
    · have htk : es.take k = es := List.take_of_length_le (by have := HLN.out; omega)
      have HFD : Hid (findL key at_ es = none) := Lib.hid (by rw [← htk]; exact HIN.out)
      obtain ⟨g0, g1, g2, g3, k0, k1, k2, k3⟩ := ZR.out.c4
      clear htk hR
      go_wp2_with fail
      obtain ⟨X, hX⟩ : ∃ X, X = ((((wr.setCell ⟨w.heap.size, 0, none⟩ (.slice none 0 0)).setCell ⟨w.heap.size, 1, none⟩ (.int .u64 0)).setCell ⟨w.heap.size, 2, none⟩ (.int .u8 0)).setCell ⟨w.heap.size, 3, none⟩ (.slice none 0 0)) := ⟨_, rfl⟩
      rw [← hX]
      have zX : Cl X w.heap.size #[.slice none 0 0, .int .u64 0, .int .u8 0, .slice none 0 0] 49 := by rw [hX]; exact ZR.out.put4 rfl _ _ _ _
      have bX : Below w.heap.size w X := by rw [hX]; exact below_set (below_set (below_set (below_set BWr.out 0 _ (Nat.le_refl _)) 1 _ (Nat.le_refl _)) 2 _ (Nat.le_refl _)) 3 _ (Nat.le_refl _)
      obtain ⟨x0, x1, x2, x3, _⟩ := zX.c4
      refine bodyPost_ret (v := .tuple #[.agg #[.slice none 0 0, .int .u64 0, .int .u8 0, .slice none 0 0], .bool false]) (by simp [results, Tryz.results19, go_sem, x0, x1, x2, x3]; try rfl) rfl (.inl ⟨HFD.out, rfl, bX⟩)
end Go.Proofs.YtbgelbdnkbhffaaGreat
namespace Go.Proofs.YtbgelbdnkbhffaaGreat
open Go Go.RowKit

/-- 'All memory that these values name lies in good blocks.' -/
def GV (G : Nat → Prop) (vs : List Value) : Prop := ∀ A m c g, Value.slice A m c ∈ vs → 0 < m → blk A = some g → G g
/-- 'The slice of n entries at A reads as these, and its memory lies in good blocks.' -/
def RG (G : Nat → Prop) (w : World) (A : Option Addr) (n : Nat) (es : List En) : Prop :=
  es.length = n ∧ ∃ vs, EVs w es vs ∧ RdV w A (n * 4) vs ∧ GV G vs ∧ (0 < n → ∀ g, blk A = some g → G g)
/-- 'What is good and was there stands.' -/
def FrG (G : Nat → Prop) (w w' : World) : Prop := w.heap.size ≤ w'.heap.size ∧ ∀ b, b < w.heap.size → G b → w'.heap[b]? = w.heap[b]?
section
variable {G H : Nat → Prop} {w w' w2 : World} {A : Option Addr} {n : Nat} {es gs : List En} {vs us : List Value}
theorem GV.app (h1 : GV G vs) (h2 : GV G us) : GV G (vs ++ us) := fun A m c g hv => by
  rcases List.mem_append.1 hv with h | h
  · exact h1 A m c g h
  · exact h2 A m c g h
theorem GV.nil : GV G [] := fun A m c g hv => by cases hv
theorem GV.sub (h : GV G vs) (hs : ∀ u ∈ us, u ∈ vs) : GV G us := fun A m c g hv => h A m c g (hs _ hv)
theorem GV.mono (h : GV G vs) (hs : ∀ g, G g → H g) : GV H vs := fun A m c g hv h0 hb => hs g (h A m c g hv h0 hb)
theorem RG.res (h : RG G w A n es) : REs w A n es := by
  obtain ⟨h1, vs, h2, h3, _⟩ := h
  exact REs.mk h2 h3 h1
theorem RG.len (h : RG G w A n es) : es.length = n := h.1
theorem RG.nil (G : Nat → Prop) (w : World) (A : Option Addr) : RG G w A 0 [] := ⟨rfl, [], rfl, RdV.nil _ _, GV.nil, fun h => absurd h (by omega)⟩
theorem RG.below (h : RG G w A n es) (hb : Below w.heap.size w w') : RG G w' A n es := by
  obtain ⟨h1, vs, h2, h3, h4⟩ := h
  exact ⟨h1, vs, h2.below hb, h3.below hb, h4⟩
theorem FrG.refl (G : Nat → Prop) (w : World) : FrG G w w := ⟨Nat.le_refl _, fun _ _ _ => rfl⟩
theorem FrG.trans (h : FrG G w w') (k : FrG G w' w2) : FrG G w w2 := ⟨Nat.le_trans h.1 k.1, fun b hb hg => (k.2 b (Nat.lt_of_lt_of_le hb h.1) hg).trans (h.2 b hb hg)⟩
theorem FrG.of_below (h : Below w.heap.size w w') : FrG G w w' := ⟨h.size, fun b hb _ => h.block b hb⟩
theorem FrG.of_grown {row : Option Nat} (h : w.grownBy w' row) (hr : ∀ g, row = some g → ¬ G g) : FrG G w w' := by
  obtain ⟨_, _, _, h4, h5⟩ := h
  exact ⟨h4, fun b hb hg => h5 b hb (fun e => hr b e.symm hg)⟩
theorem cell_of_heap {p : Addr} (h : w'.heap[p.block]? = w.heap[p.block]?) : w'.cell? p = w.cell? p := by
  unfold World.cell?
  rw [h]
theorem rd_good {xs : List UInt8} (h : Rd w A n xs) (hg : 0 < n → ∀ g, blk A = some g → G g) (hf : FrG G w w') : Rd w' A n xs := by
  refine ⟨h.1, fun hn => ?_⟩
  obtain ⟨b, off, rfl, h2, h3⟩ := h.2 hn
  exact ⟨b, off, rfl, Nat.lt_of_lt_of_le h2 hf.1, fun i x hx => (cell_of_heap (p := ⟨b, off + i, none⟩) (hf.2 b h2 (hg hn b rfl))).trans (h3 i x hx)⟩
theorem rdv_good (h : RdV w A n vs) (hg : 0 < n → ∀ g, blk A = some g → G g) (hf : FrG G w w') : RdV w' A n vs := by
  refine ⟨h.1, fun hn => ?_⟩
  obtain ⟨b, off, rfl, h2, h3⟩ := h.2 hn
  exact ⟨b, off, rfl, Nat.lt_of_lt_of_le h2 hf.1, fun i x hx => (cell_of_heap (p := ⟨b, off + i, none⟩) (hf.2 b h2 (hg hn b rfl))).trans (h3 i x hx)⟩
theorem ev_good {e : En} {v0 v1 v2 v3 : Value} (h : EV w e v0 v1 v2 v3) (hg : GV G [v0, v1, v2, v3]) (hf : FrG G w w') : EV w' e v0 v1 v2 v3 := by
  obtain ⟨h1, h2, h3, h4, ⟨K, kn, kc, rfl, r0, c0, d0⟩, ⟨V, vn, vc, rfl, r3, c3, d3⟩⟩ := h
  exact ⟨h1, h2, h3, h4, ⟨K, kn, kc, rfl, rd_good r0 (fun h0 g hb => hg K kn kc g (by simp) h0 hb) hf, c0, d0⟩, ⟨V, vn, vc, rfl, rd_good r3 (fun h0 g hb => hg V vn vc g (by simp) h0 hb) hf, c3, d3⟩⟩
theorem evs_good (hf : FrG G w w') : ∀ {es : List En} {vs : List Value}, EVs w es vs → GV G vs → EVs w' es vs
  | [], _, h, _ => h
  | _ :: _, _, ⟨v0, v1, v2, v3, r, e, h1, h2⟩, hg => ⟨v0, v1, v2, v3, r, e, ev_good h1 (hg.sub (fun u hu => by rw [e]; simp only [List.mem_cons, List.not_mem_nil, or_false] at hu ⊢; rcases hu with h | h | h | h <;> simp [h])) hf, evs_good hf h2 (hg.sub (fun u hu => by rw [e]; simp [hu]))⟩
/-- Behind whatever leaves the good blocks. -/
theorem RG.good (h : RG G w A n es) (hf : FrG G w w') : RG G w' A n es := by
  obtain ⟨h1, vs, h2, h3, h4, h5⟩ := h
  exact ⟨h1, vs, evs_good hf h2 h4, rdv_good h3 (fun h0 => h5 (by omega)) hf, h4, h5⟩
theorem ev_mem {e : En} {v0 v1 v2 v3 : Value} (h : EV w e v0 v1 v2 v3) {B : Option Addr} {m c : Nat} (hv : Value.slice B m c ∈ [v0, v1, v2, v3]) (h0 : 0 < m) {g : Nat} (hb : blk B = some g) : g < w.heap.size := by
  obtain ⟨K, kn, kc, V, vn, vc, rfl, rfl, rfl, rfl, r0, r3, _⟩ := h.parts
  simp only [List.mem_cons, List.not_mem_nil, or_false] at hv
  rcases hv with e | e | e | e
  · injection e with e1 e2 e3
    subst e1 e2
    obtain ⟨b, off, rfl, hl⟩ := r0.pos h0
    injection hb with hb
    rw [← hb]; exact hl
  · cases e
  · cases e
  · injection e with e1 e2 e3
    subst e1 e2
    obtain ⟨b, off, rfl, hl⟩ := r3.pos h0
    injection hb with hb
    rw [← hb]; exact hl
theorem evs_lt : ∀ {es : List En} {vs : List Value}, EVs w es vs → GV (fun g => g < w.heap.size) vs
  | [], _, h => by rw [h]; exact GV.nil
  | _ :: _, _, ⟨v0, v1, v2, v3, r, e, h1, h2⟩ => by
    rw [e]
    exact GV.app (vs := [v0, v1, v2, v3]) (fun A m c g hv h0 hb => ev_mem h1 hv h0 hb) (evs_lt h2)
/-- What is read lies in blocks that are there. -/
theorem REs.lt (h : REs w A n es) : RG (fun g => g < w.heap.size) w A n es := by
  obtain ⟨h1, vs, h2, h3⟩ := h
  refine ⟨h1, vs, h2, h3, evs_lt h2, fun h0 g hb => ?_⟩
  obtain ⟨b, off, rfl, hl⟩ := h3.pos (by omega)
  injection hb with hb
  rw [← hb]; exact hl
theorem RG.mono (h : RG G w A n es) (hs : ∀ g, G g → H g) : RG H w A n es := by
  obtain ⟨h1, vs, h2, h3, h4, h5⟩ := h
  exact ⟨h1, vs, h2, h3, h4.mono hs, fun h0 g hb => hs g (h5 h0 g hb)⟩
theorem RG.at_ {b off : Nat} (h : RG G w (some ⟨b, off, none⟩) n es) (k : Nat) (hk : k < n) :
    ∃ e v0 v1 v2 v3, es[k]? = some e ∧ w.cell? ⟨b, off + k * 4, none⟩ = some v0 ∧ w.cell? ⟨b, off + k * 4 + 1, none⟩ = some v1 ∧
      w.cell? ⟨b, off + k * 4 + 2, none⟩ = some v2 ∧ w.cell? ⟨b, off + k * 4 + 3, none⟩ = some v3 ∧ EV w e v0 v1 v2 v3 ∧ GV G [v0, v1, v2, v3] := by
  obtain ⟨h1, vs, h2, h3, h4, _⟩ := h
  obtain ⟨b', off', e, hb, hc⟩ := h3.2 (by omega)
  injection e with e
  injection e with e1 e2
  subst e1 e2
  obtain ⟨x, hx⟩ : ∃ x, es[k]? = some x := ⟨_, List.getElem?_eq_getElem (by omega)⟩
  obtain ⟨v0, v1, v2, v3, e0, e1, e2, e3, g0⟩ := h2.at_ k hx
  refine ⟨x, v0, v1, v2, v3, hx, hc _ _ e0, ?_, ?_, ?_, g0, h4.sub (fun u hu => ?_)⟩
  · rw [Nat.add_assoc]; exact hc _ _ e1
  · rw [Nat.add_assoc]; exact hc _ _ e2
  · rw [Nat.add_assoc]; exact hc _ _ e3
  · simp only [List.mem_cons, List.not_mem_nil, or_false] at hu
    rcases hu with rfl | rfl | rfl | rfl
    · exact List.mem_of_getElem? e0
    · exact List.mem_of_getElem? e1
    · exact List.mem_of_getElem? e2
    · exact List.mem_of_getElem? e3
end
def RetPA (G : Nat → Prop) (w : World) (z : Int × List En) (e : Ending) (w' : World) : Prop :=
  ∃ L k d, e = .returned (.tuple #[.slice L k d, .int .i64 z.1]) ∧ RG G w' L k z.2 ∧ k ≤ d ∧ Below w.heap.size w w'
theorem RetPA.out {G : Nat → Prop} {w : World} {z : Int × List En} {e : Ending} {w' : World} (h : RetPA G w z e w') : ∃ L k d, e = .returned (.tuple #[.slice L k d, .int .i64 z.1]) ∧ RG G w' L k z.2 ∧ k ≤ d ∧ Below w.heap.size w w' := h
end Go.Proofs.YtbgelbdnkbhffaaGreat
namespace Go.Proofs.YtbgelbdnkbhffaaGreat
open Go Go.RowKit

/-- Blocks of other kinds are other blocks. -/
theorem row_ne {t1 t2 : TypeId} {s1 s2 : Nat} {w : World} {b1 b2 n c m d : Nat} {L A : Option Addr} {i j : Nat} {vs us : List Value} (h : w.ownsRow b1 t1 s1 (.slice L n c) i vs) (k : w.ownsRow b2 t2 s2 (.slice A m d) j us) (hne : t1 ≠ t2) : Dj L A := fun b e1 e2 => by
  rcases h.2 with ⟨h1, _⟩ | ⟨g, cap, cur, h1, _, hg, _⟩
  · injection h1 with h1
    rw [h1] at e1; cases e1
  · injection h1 with h1
    rw [h1] at e1
    injection e1 with e1
    rcases k.2 with ⟨k1, _⟩ | ⟨g2, cap2, cur2, k1, _, kg, _⟩
    · injection k1 with k1
      rw [k1] at e2; cases e2
    · injection k1 with k1
      rw [k1] at e2
      injection e2 with e2
      simp only at e1 e2
      subst e1 e2
      rw [hg] at kg
      injection kg with kg
      injection kg with _ kg
      exact hne kg
theorem ownV_ne {t : TypeId} {w : World} {b1 b2 n c m d : Nat} {L A : Option Addr} {vs : List Value} {xs : List UInt8} (h : OwnV t w b1 L n c vs) (k : Own 5 w b2 A m d xs) (hne : t ≠ 5) : Dj L A := row_ne h k hne
theorem Cl.grown {w w' : World} {p : Nat} {us : Array Value} {ty : TypeId} {row : Option Nat} (h : Cl w p us ty) (hg : w.grownBy w' row) (hne : row ≠ some p) : Cl w' p us ty := by
  obtain ⟨_, _, _, h4, h5⟩ := hg
  exact (h5 p h.lt (fun e => hne e.symm)).trans h
theorem ownV_box2 (w : World) (t : TypeId) (base : Nat) (vs : List Value) (n : Nat) (hl : vs.length = n) (hn : n ≤ 1024) (hb : base ≤ w.heap.size) (cs : Array Value) (hc : cs = vs.toArray) : OwnV t (w.alloc (.cells cs t)) base (some ⟨w.heap.size, 0, none⟩) n n vs := by
  subst hc
  refine ⟨by simp [hl], .inr ⟨w.heap.size, n, vs.toArray, rfl, hb, heap_alloc_new w _, Nat.le_refl _, by unfold maxLen; omega, by simp [hl], ?_⟩⟩
  simp only [Nat.mul_one]
  exact List.take_of_length_le (by simp [hl])
section
variable {w w' : World} {base : Nat} {ps qs : List VB}
theorem Fam.app {base' : Nat} (h : Fam w base ps) (hn : Fam w' base' qs) (hb : Below w.heap.size w w') (h1 : w.heap.size ≤ base') (h2 : base ≤ base') : Fam w' base (ps ++ qs) := by
  have h0 : Fam w base (ps ++ []) := by rw [List.append_nil]; exact h
  have := Fam.ins h0 hn hb h1 h2
  rw [List.append_nil] at this
  exact this
theorem OffF.app {p : Nat} (h : OffF ps p) (k : OffF qs p) : OffF (ps ++ qs) p := fun q hq => by
  rcases List.mem_append.1 hq with h1 | h1
  · exact h q h1
  · exact k q h1
end
theorem ownE_kept {w w' : World} {base n c : Nat} {A : Option Addr} {vs : List Value} {row : Option Nat} (h : OwnE w base A n c vs) (hg : w.grownBy w' row) (hne : ∀ b, blk A = some b → row ≠ some b) : OwnE w' base A n c vs := by
  refine World.ownsRow.kept h hg ?_
  rw [own_blk]
  cases hb : blk A with
  | none => exact .inl rfl
  | some b => exact .inr (fun e => hne b hb e.symm)
end Go.Proofs.YtbgelbdnkbhffaaGreat
namespace Go.Proofs.YtbgelbdnkbhffaaGreat
open Go Go.RowKit

/-- What a table answers. -/
def keyed (key : List UInt8) : Option En → Option En
  | none => none
  | some e => if cmpB e.key key = 0 then some e else none
theorem keyed_find {key : List UInt8} {at_ : Nat} : ∀ {l : List En}, SortL l → keyed key (l.find? (fun e => !lessE e ⟨key, at_, 0, []⟩)) = findL key at_ l
  | [], _ => rfl
  | y :: l, hs => by
    obtain ⟨hy, hl⟩ := List.pairwise_cons.1 hs
    unfold findL
    rw [List.find?_cons, List.find?_cons]
    cases h : lessE y ⟨key, at_, 0, []⟩ with
    | true =>
      have hno : (eqB y.key key && decide (y.seq ≤ at_)) = false := by
        rcases lessE_iff.1 h with q | ⟨_, q⟩
        · cases e : eqB y.key key with
          | false => rfl
          | true =>
            have e' : y.key = key := by simpa [eqB] using e
            simp only [e', cmpB_refl] at q
            omega
        · have : ¬ y.seq ≤ at_ := by simp only at q; omega
          simp [this]
      rw [hno]
      exact keyed_find hl
    | false =>
      show (if cmpB y.key key = 0 then some y else none) = _
      by_cases hk : cmpB y.key key = 0
      · have e' := cmpB_zero _ _ hk
        have hq : y.seq ≤ at_ := by
          apply Nat.le_of_not_lt
          intro q
          have : lessE y ⟨key, at_, 0, []⟩ = true := lessE_iff.2 (.inr ⟨e', q⟩)
          rw [h] at this
          cases this
        have hyes : (eqB y.key key && decide (y.seq ≤ at_)) = true := by simp [eqB, e', hq]
        rw [if_pos hk, hyes]
      · have hne : ∀ z : En, (z = y ∨ z ∈ l) → eqB z.key key = false := fun z hz => by
          cases e : eqB z.key key with
          | false => rfl
          | true =>
            have e' : z.key = key := by simpa [eqB] using e
            rcases hz with rfl | m
            · rw [e', cmpB_refl] at hk
              exact absurd rfl hk
            · rcases lessE_iff.1 (hy z m) with q | ⟨q, _⟩
              · rw [e'] at q
                have : lessE y ⟨key, at_, 0, []⟩ = true := lessE_iff.2 (.inl q)
                rw [h] at this
                cases this
              · rw [q, e', cmpB_refl] at hk
                exact absurd rfl hk
        rw [if_neg hk, hne y (.inl rfl)]
        symm
        simp only [Bool.false_and]
        rw [List.find?_eq_none]
        intro z hz
        rw [hne z (.inr hz)]
        simp
end Go.Proofs.YtbgelbdnkbhffaaGreat
namespace Go.Proofs.YtbgelbdnkbhffaaGreat
open Go Go.RowKit

set_option maxRecDepth 100000 in
set_option maxHeartbeats 4000000 in
theorem ordered_any {w : World} {A : Option Addr} {n c : Nat} {es : List En} (h : REs w A n es) (hn : n ≤ 1099511627776) (hs : ∀ x ∈ es, SzE x) : Calls Tryz.prog 58 #[.slice A n c] w (RetT w (ordE es)) := by
  have HL := Lib.hid h.len
  have HR := Lib.hid h
  have HSZ := Lib.hid hs
  clear h hs
  go_enter Tryz.func58, Tryz.ntmps58
  go_wp2_with fail
  go_loopw [3] (fun s3 wr => ∃ i : Nat, (i < n ∨ i = 0) ∧ s3 = .int .i64 ((i + 1 : Nat) : Int) ∧ ordK es i = true ∧ Below w.heap.size w wr) (fun s _ => n + 1 - (intOf s).toNat)
  case atStart => exact ⟨0, .inr rfl, rfl, rfl, Below.refl _ _⟩
  case round =>
    obtain ⟨i, hi, rfl, ho, hB⟩ := hrel
    have HB := Lib.hid hB
    have HO := Lib.hid ho
    have hR := HR.out.below hB
    clear hB ho
    obtain ⟨k, hk⟩ : ∃ k, k = i + 1 := ⟨_, rfl⟩
    rw [← hk]
    by_cases hlt : k < n
    · obtain ⟨b, off, hAb, hbl⟩ := hR.pos (by omega)
      subst hAb
      obtain ⟨x, v0, v1, v2, v3, hx, c0, c1, c2, c3, hev⟩ := hR.at_ i (by omega)
      obtain ⟨y, u0, u1, u2, u3, hy, d0, d1, d2, d3, hew⟩ := hR.at_ k hlt
      have HL1 : Hid (∀ wx, Below wr.heap.size wr wx → Calls Tryz.prog 120 #[.agg #[v0, v1, v2, v3], .agg #[u0, u1, u2, u3]] wx (RetT wx (lessE x y))) := Lib.hid (fun wx hb => refLess_any (hev.below hb) (hew.below hb) (HSZ.out x (List.mem_of_getElem? hx)) (HSZ.out y (List.mem_of_getElem? hy)))
      have HSX : Hid (∀ wx, Below wr.heap.size wr wx → wx.cell? ⟨b, off + i * 4, none⟩ = some v0 ∧ wx.cell? ⟨b, off + i * 4 + 1, none⟩ = some v1 ∧ wx.cell? ⟨b, off + i * 4 + 2, none⟩ = some v2 ∧ wx.cell? ⟨b, off + i * 4 + 3, none⟩ = some v3 ∧ wx.cell? ⟨b, off + k * 4, none⟩ = some u0 ∧ wx.cell? ⟨b, off + k * 4 + 1, none⟩ = some u1 ∧ wx.cell? ⟨b, off + k * 4 + 2, none⟩ = some u2 ∧ wx.cell? ⟨b, off + k * 4 + 3, none⟩ = some u3) := Lib.hid (fun wx h =>
        ⟨(h.cell (p := ⟨b, off + i * 4, none⟩) hbl).trans c0, (h.cell (p := ⟨b, off + i * 4 + 1, none⟩) hbl).trans c1, (h.cell (p := ⟨b, off + i * 4 + 2, none⟩) hbl).trans c2, (h.cell (p := ⟨b, off + i * 4 + 3, none⟩) hbl).trans c3, (h.cell (p := ⟨b, off + k * 4, none⟩) hbl).trans d0, (h.cell (p := ⟨b, off + k * 4 + 1, none⟩) hbl).trans d1, (h.cell (p := ⟨b, off + k * 4 + 2, none⟩) hbl).trans d2, (h.cell (p := ⟨b, off + k * 4 + 3, none⟩) hbl).trans d3⟩)
      have hB0 : Below wr.heap.size wr wr.drew := (Below.refl _ _).drew
      have hk1 : IntKind.i64.wrap ((k : Int) - 1) = (i : Int) := by rw [IntWalk.i64_in _ (by omega)]; omega
      have hin : i < n := by omega
      have HST : Hid (ordK es k = (ordK es i && lessE x y)) := Lib.hid (by rw [hk]; exact ordK_step hx (by rw [← hk]; exact hy))
      have HKI := Lib.hid hk
      obtain ⟨z, hz⟩ : ∃ z, z = lessE x y := ⟨_, rfl⟩
      rw [← hz] at HL1 HST
      clear hR hx hev hy hew hz hk
      cases z with
      | true =>
        go_wp2_with fail
        go_region_held3 (fun wx => wx.cell? ⟨b, off + i * 4, none⟩ = some v0 ∧ wx.cell? ⟨b, off + i * 4 + 1, none⟩ = some v1 ∧ wx.cell? ⟨b, off + i * 4 + 2, none⟩ = some v2 ∧ wx.cell? ⟨b, off + i * 4 + 3, none⟩ = some v3 ∧ wx.cell? ⟨b, off + k * 4, none⟩ = some u0 ∧ wx.cell? ⟨b, off + k * 4 + 1, none⟩ = some u1 ∧ wx.cell? ⟨b, off + k * 4 + 2, none⟩ = some u2 ∧ wx.cell? ⟨b, off + k * 4 + 3, none⟩ = some u3) (first | assumption | exact HSX.out _ hB0)
          (first | (go_at_call 120; with_reducible refine (HL1.out _ (by assumption)).mono ?_; intro e1 wn hq; obtain ⟨h1, bn⟩ := RetT.outD hq; subst h1; have bn' := belowT' (by assumption : Below wr.heap.size wr _) bn; have hS1 := HSX.out _ bn'))
        all_goals
          have HBN : Hid (Below w.heap.size w _) := Lib.hid (HB.out.trans ((by assumption : Below wr.heap.size wr wn).mono HB.out.size))
          go_wp2_with fail
          go_roundw
          case rel => exact ⟨k, .inl hlt, by go_num, by rw [HST.out, HO.out]; rfl, HBN.out⟩
          case measure => simp [intOf]; omega
      | false =>
        go_wp2_with fail
        go_region_held3 (fun wx => wx.cell? ⟨b, off + i * 4, none⟩ = some v0 ∧ wx.cell? ⟨b, off + i * 4 + 1, none⟩ = some v1 ∧ wx.cell? ⟨b, off + i * 4 + 2, none⟩ = some v2 ∧ wx.cell? ⟨b, off + i * 4 + 3, none⟩ = some v3 ∧ wx.cell? ⟨b, off + k * 4, none⟩ = some u0 ∧ wx.cell? ⟨b, off + k * 4 + 1, none⟩ = some u1 ∧ wx.cell? ⟨b, off + k * 4 + 2, none⟩ = some u2 ∧ wx.cell? ⟨b, off + k * 4 + 3, none⟩ = some u3) (first | assumption | exact HSX.out _ hB0)
          (first | (go_at_call 120; with_reducible refine (HL1.out _ (by assumption)).mono ?_; intro e1 wn hq; obtain ⟨h1, bn⟩ := RetT.outD hq; subst h1; have bn' := belowT' (by assumption : Below wr.heap.size wr _) bn; have hS1 := HSX.out _ bn'))
        all_goals
          have HBN : Hid (Below w.heap.size w _) := Lib.hid (HB.out.trans ((by assumption : Below wr.heap.size wr wn).mono HB.out.size))
          have HFIN : Hid (ordE es = false) := Lib.hid (by
            have h1 := HST.out
            rw [Bool.and_false] at h1
            exact ordK_false h1 _ (by rw [HL.out]; omega))
          go_wp2_with fail
          go_ret
          exact ⟨by rw [HFIN.out]; rfl, HBN.out⟩
    · have HFIN : Hid (ordE es = true) := Lib.hid (by
        have h1 := HO.out
        unfold ordE
        rw [HL.out]
        obtain rfl : n - 1 = i := by omega
        exact h1)
      go_wp2_with fail
      go_ret
      exact ⟨by rw [HFIN.out]; rfl, HB.out⟩
section
variable {w : World} {a : En} {v0 v1 v2 v3 : Value}
end
end Go.Proofs.YtbgelbdnkbhffaaGreat
namespace Go.Proofs.YtbgelbdnkbhffaaGreat
open Go Go.RowKit

theorem totE_le {M : Nat} : ∀ {es : List En}, (∀ x ∈ es, wE x ≤ M) → totE es ≤ es.length * (M + 1)
  | [], _ => by simp [totE]
  | x :: t, h => by
    have h1 := h x (by simp)
    have h2 := totE_le (es := t) (fun y hy => h y (by simp [hy]))
    rw [List.length_cons, Nat.add_mul]
    unfold totE
    omega
/-- What Sorted leaves of entries. -/
theorem srt_all {es : List En} {k : Nat} (hl : es.length ≤ k) (hs : ∀ x ∈ es, wE x ≤ 1048576) : SortL (srt [] es) ∧ (srt [] es).length ≤ k ∧ (∀ x ∈ srt [] es, wE x ≤ 1048576) ∧ totE (srt [] es) ≤ k * 1048577 := by
  have h1 := (srt_prop (xs := es) (o := []) List.Pairwise.nil (fun x hx => by cases hx)).1
  have h2 := (srt_len es []).1
  have h3 : ∀ x ∈ srt [] es, wE x ≤ 1048576 := fun x hx => by
    rcases srt_mem x hx with h | h
    · cases h
    · exact hs x h
  have h4 := totE_le h3
  have h5 : (srt [] es).length ≤ k := by rw [List.length_nil] at h2; omega
  exact ⟨h1, h5, h3, Nat.le_trans h4 (Nat.mul_le_mul h5 (Nat.le_refl _))⟩
end Go.Proofs.YtbgelbdnkbhffaaGreat
namespace Go.Proofs.YtbgelbdnkbhffaaGreat
open Go Go.RowKit

def Tr.sz (t : Tr) : Nat := szL t.list
/-- 'This type is none of those that a tree is made of.' -/
def okT (ty : TypeId) : Prop := ty ≠ 228 ∧ ty ≠ 49 ∧ ty ≠ 5
/-- 'The table at p is the tree t; what stands behind it in its block is d.' -/
def TB (d : TypeId × List Value) (G : Nat → Prop) (w : World) (p : Nat) (t : Tr) : Prop :=
  ∃ A, Cl w p (#[.pointer A, .int .i64 (t.num : Int), .int .i64 (t.sz : Int)] ++ d.2.toArray) d.1 ∧ TrAt G w t A ∧ okT d.1
section
variable {w : World} {p : Nat} {a b c : Value} {d : Array Value} {ty : TypeId}
end
theorem TB.below {d : TypeId × List Value} {G : Nat → Prop} {w w' : World} {p : Nat} {t : Tr} (h : TB d G w p t) (hb : Below w.heap.size w w') : TB d G w' p t := by
  obtain ⟨A, h1, h2, h3⟩ := h
  exact ⟨A, h1.below hb, h2.below hb, h3⟩
theorem grow_of_below {w w' : World} {row : Option Nat} (h : Below w.heap.size w w') : w.grownBy w' row := ⟨h.os, h.tape, h.output, h.size, fun k hk _ => h.block k hk⟩
theorem TrAt.set {G : Nat → Prop} {w : World} {p : Nat} {vs : Array Value} {ty : TypeId} (hp : Cl w p vs ty) (hty : okT ty) (i : Nat) (v : Value) : ∀ {t : Tr} {A : Option Addr}, TrAt G w t A → TrAt G (w.setCell ⟨p, i, none⟩ v) t A
  | .nil, _, h => h
  | .node _ _ _, _, ⟨k, pe, pl, pr, h1, h2, ⟨v0, v1, v2, v3, h3, h4, h4'⟩, h5, h6⟩ => by
    have n4 : ∀ {q : Nat} {us : Array Value} {t : TypeId}, Cl w q us t → ty ≠ t → p ≠ q := fun {q us t} h hne e => by
      subst e
      unfold Cl at h hp
      rw [hp] at h
      injection h with h
      injection h with _ h
      exact hne h
    have no : ∀ {n c' : Nat} {S : Option Addr} {xs : List UInt8}, Own 5 w 0 S n c' xs → Own 5 (w.setCell ⟨p, i, none⟩ v) 0 S n c' xs := fun {n c' S xs} h => by
      refine ⟨h.1, ?_⟩
      rcases h.2 with q1 | ⟨g, cap, cur, q1, q2, q3, q4⟩
      · exact .inl q1
      · refine .inr ⟨g, cap, cur, q1, q2, ?_, q4⟩
        rw [heap_setCell_other _ _ _ _ ?_]
        · exact q3
        · intro e
          simp only at e
          subst e
          unfold Cl at hp
          rw [hp] at q3
          injection q3 with q3
          injection q3 with _ q3
          exact hty.2.2 q3
    obtain ⟨K, kn, kc, V, vn, vc, r0, r1, r2, r3, o1, o2, u1, u2⟩ := h4
    exact ⟨k, pe, pl, pr, h1, h2.off i v (n4 h2 hty.1), ⟨v0, v1, v2, v3, h3.off i v (n4 h3 hty.2.1), ⟨K, kn, kc, V, vn, vc, r0, r1, r2, r3, no o1, no o2, u1, u2⟩, h4'⟩, TrAt.set hp hty i v h5, TrAt.set hp hty i v h6⟩
end Go.Proofs.YtbgelbdnkbhffaaGreat
namespace Go.Proofs.YtbgelbdnkbhffaaGreat
open Go Go.RowKit

theorem rdl_one8 {w : World} {t : TypeId} {v1 : Value} {x1 : List UInt8} (h1 : ElB w v1 x1) (g : Nat) (hg : g = w.heap.size) : RdL (w.alloc (.cells #[v1] t)) (some ⟨g, 0, none⟩) 1 [x1] := by
  subst hg
  refine ⟨rfl, fun _ => ⟨w.heap.size, 0, rfl, by simp, fun i x hi => ?_⟩⟩
  have hlt := (List.getElem?_eq_some_iff.1 hi).1
  obtain rfl : i = 0 := by simp at hlt; omega
  injection hi with hi
  subst hi
  refine ⟨v1, ?_, h1.below ((Below.refl _ _).alloc (Nat.le_refl _) _)⟩
  rw [cell_of_row (w.alloc (.cells #[v1] t)) w.heap.size (0 + 0) #[v1] t (0, 0) (heap_alloc_new w _)]
  rfl
/-- What Build answers where every is at least 1. -/
def buildE (ev : Nat) (es : List En) : List UInt8 × Int :=
  if es.any longE then ([], 2) else if 1048576 < (fullB ev es).length then ([], 2) else if es.all formE && ordE es then (sealB (fullB ev es), 0) else ([], 3)
/-- Bytes of the call's own, or none, and a kind. -/
def RetBb (w : World) (z : List UInt8 × Int) (e : Ending) (w' : World) : Prop :=
  ∃ A c, e = .returned (.tuple #[.slice A z.1.length c, .int .i64 z.2]) ∧ Own 5 w' w.heap.size A z.1.length c z.1 ∧ Below w.heap.size w w'
theorem RetBb.no {w w' : World} {z : List UInt8 × Int} {k : Int} (hz : z = ([], k)) (hb : Below w.heap.size w w') : RetBb w z (.returned (.tuple #[.slice none 0 0, .int .i64 k])) w' := by
  subst hz
  exact ⟨none, 0, rfl, Own.nil _ _ _, hb⟩
theorem longE_no {es : List En} (h : es.any longE = false) : ∀ x ∈ es, x.key.length ≤ 1024 ∧ x.val.length ≤ 65536 := fun x hx => by
  have := List.any_eq_false.1 h x hx
  unfold longE at this
  simp at this
  omega
set_option maxRecDepth 100000 in
set_option maxHeartbeats 8000000 in
theorem build8_any {w : World} {A : Option Addr} {n c : Nat} {es : List En} (h : REs w A n es) (hn : n ≤ 16777216) (ev : Nat) (he : 1 ≤ ev) (he2 : ev ≤ 9223372036854775807) :
    Calls Tryz.prog 138 #[.int .i64 (ev : Int), .slice A n c] w (RetBb w (buildE ev es)) := by
  have HM : Hid (Calls Tryz.prog 113 #[.slice A n c] w (RetNu w (checkE es))) := Lib.hid (memCheck_any h (by omega))
  have HR := Lib.hid h
  clear h
  cases hlo : es.any longE with
  | true =>
    have hc : checkE es = 2 := by rw [checkE, hlo]; rfl
    have hb : buildE ev es = ([], 2) := by rw [buildE, hlo]; rfl
    rw [hc] at HM
    have HB := Lib.hid hb
    clear hlo hc hb
    go_enter Tryz.func138, Tryz.ntmps138
    go_wp2_with fail
    with_reducible refine HM.out.mono ?_
    rintro e w1 ⟨rfl, b1⟩
    go_wp2_with fail
    exact bodyPost_ret (v := .tuple #[.slice none 0 0, .int .i64 2]) (by simp [results, Tryz.f138, go_sem]; try rfl) rfl (RetBb.no HB.out b1)
  | false =>
    have hsz := longE_no hlo
    have HCT : Hid (∀ wx, Below w.heap.size w wx → Calls Tryz.prog 182 #[.int .i64 (ev : Int), .slice A n c] wx (RetCt ev es wx)) := Lib.hid (fun wx hb => contents_any (HR.out.below hb) hn hsz ev he he2)
    have HIO : Hid (∀ wx, Below w.heap.size w wx → Calls Tryz.prog 183 #[.slice A n c] wx (RetT wx (ordE es))) := Lib.hid (fun wx hb => inOrder8_any (HR.out.below hb) (by omega))
    obtain ⟨F, hF⟩ : ∃ F, F = fullB ev es := ⟨_, rfl⟩
    have hbe : buildE ev es = if 1048576 < F.length then ([], 2) else if es.all formE && ordE es then (sealB F, 0) else ([], 3) := by rw [buildE, hlo, ← hF]; rfl
    obtain ⟨fo, hfo⟩ : ∃ fo, fo = es.all formE := ⟨_, rfl⟩
    obtain ⟨od, hod⟩ : ∃ od, od = ordE es := ⟨_, rfl⟩
    obtain ⟨z, hz⟩ : ∃ z : Int, z = if fo then 0 else 3 := ⟨_, rfl⟩
    have hck : checkE es = z := by rw [checkE, hlo, hz, hfo]; rfl
    rw [hck] at HM
    rw [← hod] at HIO hbe
    rw [← hfo] at hbe
    have hz2 : z = 0 ∨ z = 3 := by rw [hz]; cases fo <;> simp
    have tz : (z == 2) = false := by rcases hz2 with e | e <;> rw [e] <;> rfl
    have tz' : ¬ z = 2 := by omega
    have HBE := Lib.hid hbe
    have HF := Lib.hid hF
    have HZ := Lib.hid hz
    have HZ2 := Lib.hid hz2
    clear hlo hsz hF hbe hfo hod hz hck hz2
    go_enter Tryz.func138, Tryz.ntmps138
    go_wp2_with fail
    with_reducible refine HM.out.mono ?_
    rintro e w1 ⟨rfl, b1⟩
    have HCT1 := Lib.hid (HCT.out w1 b1)
    have B1 := Lib.hid b1
    clear b1
    go_wp2_with fail
    with_reducible refine HCT1.out.mono ?_
    rintro e w2 ⟨C, cc, ys, rfl, oC, b2, hyl, hys⟩
    rw [← HF.out] at hys
    have hcap := oC.cap
    have hcn : C = none → cc = 0 := fun h => by have := oC.nil_of (by rw [h]; rfl); exact this.2.2
    have hSE := Seal_any (some ⟨w2.heap.size, 0, none⟩) 1 1 [ys] _ (rdl_one8 (w := w2) (t := 29) ⟨C, ys.length, cc, rfl, oC.rd, hcap.1, hcn⟩ _ rfl) (by simp only [tot]; omega)
    rw [show [ys].flatten = ys by simp] at hSE
    have HSE := Lib.hid hSE
    have B2 := Lib.hid (B1.out.trans (b2.mono B1.out.size))
    have HYS := Lib.hid hys
    obtain ⟨yn, hyn⟩ : ∃ yn, yn = ys.length := ⟨_, rfl⟩
    rw [← hyn]
    rw [← hyn] at hyl HSE
    have HYN := Lib.hid hyn
    clear hSE oC b2 hcap hcn hys hyn
    by_cases hbig : 1048576 < yn
    · have hg : sealG ys = ([], 2) := sealG_long HYN.out.symm hbig
      have hb : buildE ev es = ([], 2) := by
        rw [HBE.out, if_pos]
        rcases HYS.out with ⟨_, h2⟩ | h2
        · have := HYN.out; omega
        · rw [← h2, ← HYN.out]; exact hbig
      rw [hg] at HSE
      have HB := Lib.hid hb
      clear hg hb
      go_wp2_with fail
      refine HSE.out.mono ?_
      rintro e w3 ⟨D, dn, dc, rfl, oD, b3⟩
      have B3 := Lib.hid (B2.out.trans (((Below.refl _ _).alloc (Nat.le_refl _) _ |>.trans (b3.mono (by simp))).mono B2.out.size))
      clear oD b3
      go_wp2_with fail
      exact bodyPost_ret (v := .tuple #[.slice none 0 0, .int .i64 2]) (by simp [results, Tryz.f138, go_sem]; try rfl) rfl (RetBb.no HB.out B3.out)
    · have hF2 : ys = F := by
        rcases HYS.out with ⟨h1, _⟩ | h2
        · have := HYN.out; omega
        · exact h2
      have hg : sealG ys = (sealB F, 0) := by rw [sealG_ok HYN.out.symm hbig, hF2]
      have hb : buildE ev es = if fo && od then (sealB F, 0) else ([], 3) := by rw [HBE.out, if_neg (by rw [← hF2, ← HYN.out]; exact hbig)]
      rw [hg] at HSE
      have HB := Lib.hid hb
      clear hg hb
      go_wp2_with fail
      refine HSE.out.mono ?_
      rintro e w3 ⟨D, dn, dc, rfl, oD, b3⟩
      have oD : Own 5 w3 w2.heap.size D dn dc (sealB F) := Own.mono oD (show w2.heap.size ≤ _ by simp)
      obtain rfl : (sealB F).length = dn := oD.len
      have HD := Lib.hid (oD.mono B2.out.size)
      have B3 := Lib.hid (B2.out.trans (((Below.refl _ _).alloc (Nat.le_refl _) _ |>.trans (b3.mono (by simp))).mono B2.out.size))
      clear oD b3
      cases fo with
      | false =>
        have e0 : z = 3 := HZ.out
        subst e0
        rw [Bool.false_and] at HB
        go_wp2_with fail
        exact bodyPost_ret (v := .tuple #[.slice none 0 0, .int .i64 3]) (by simp [results, Tryz.f138, go_sem]; try rfl) rfl (RetBb.no HB.out B3.out)
      | true =>
        have e0 : z = 0 := HZ.out
        subst e0
        rw [Bool.true_and] at HB
        have HIO3 := Lib.hid (HIO.out w3 B3.out)
        cases od with
        | true =>
          go_wp2_with fail
          with_reducible refine HIO3.out.mono ?_
          rintro e w4 ⟨rfl, b4⟩
          have hB := HB.out
          simp only [if_true] at hB
          have hfin : RetBb w (buildE ev es) (.returned (.tuple #[.slice D (sealB F).length dc, .int .i64 0])) w4 := by
            rw [hB]
            exact ⟨D, dc, rfl, HD.out.below b4, B3.out.trans (b4.mono B3.out.size)⟩
          have HFI := Lib.hid hfin
          clear hB hfin b4
          go_wp2_with fail
          exact bodyPost_ret (v := .tuple #[.slice D (sealB F).length dc, .int .i64 0]) (by simp [results, Tryz.f138, go_sem]; try rfl) rfl HFI.out
        | false =>
          go_wp2_with fail
          with_reducible refine HIO3.out.mono ?_
          rintro e w4 ⟨rfl, b4⟩
          have B4 := Lib.hid (B3.out.trans (b4.mono B3.out.size))
          have hB := HB.out
          simp only [Bool.false_eq_true, if_false] at hB
          have HBB := Lib.hid hB
          clear hB b4
          go_wp2_with fail
          exact bodyPost_ret (v := .tuple #[.slice none 0 0, .int .i64 3]) (by simp [results, Tryz.f138, go_sem]; try rfl) rfl (RetBb.no HBB.out B4.out)
theorem buildE_cases (ev : Nat) (es : List En) : (∃ F, buildE ev es = (sealB F, 0) ∧ F.length ≤ 1048576) ∨ (∃ k : Int, buildE ev es = ([], k) ∧ (k = 2 ∨ k = 3)) := by
  unfold buildE
  split
  · exact .inr ⟨2, rfl, .inl rfl⟩
  · split
    · exact .inr ⟨2, rfl, .inl rfl⟩
    · split
      · exact .inl ⟨_, rfl, by omega⟩
      · exact .inr ⟨3, rfl, .inr rfl⟩
end Go.Proofs.YtbgelbdnkbhffaaGreat
namespace Go.Proofs.YtbgelbdnkbhffaaGreat
open Go Go.RowKit

def lastK (es : List En) : List UInt8 := (es.getLast?.map (·.key)).getD []
/-- The entries from place a on, and the every. -/
def parR (xs : List UInt8) (sec : Int) : Nat → Nat → List En → Nat → Option (List En × Nat)
  | 0, _, _, _ => none
  | f + 1, a, es, ev => if xs.length ≤ a then some (es, ev) else
      if badR xs (lastK es) a then none
      else parR xs sec f (e7R xs a).2.1 (es ++ [entR xs (lastK es) a]) (if (a : Int) = sec then es.length else ev)
/-- What stands in a block: its entries and the every. -/
def parB (xs : List UInt8) : Option (List En × Nat) :=
  match splitB xs with
  | none => none
  | some (ys, zs) =>
    let sec : Int := if 8 ≤ zs.length then (numK (zs.drop 4) 4 : Int) else -1
    match parR ys sec (ys.length + 1) 0 [] 0 with
    | none => none
    | some (es, ev) => some (es, if sec < 0 then max es.length 1 else ev)
theorem numR_mono {xs : List UInt8} {s : Nat × Bool} (h : s.1 ≤ xs.length) : s.1 ≤ (numR xs s).2.1 ∧ ((numR xs s).2.2 = false → s.1 < (numR xs s).2.1) := by
  unfold numR
  split
  · rename_i e
    rcases hg : getU xs (s.1 : Int) with ⟨m, nx, e2⟩
    rw [hg] at e
    obtain ⟨k, rfl, h1, h2, h3⟩ := getU_err h hg e
    simp only [Int.toNat_natCast]
    exact ⟨by omega, fun _ => h1⟩
  · exact ⟨Nat.le_refl _, fun h => by cases h⟩
theorem takeR_mono {xs : List UInt8} {n : Nat} {s : Nat × Bool} : s.1 ≤ (takeR xs n s).2.1 := by
  unfold takeR
  split
  · exact Nat.le_refl _
  · simp only; omega
theorem badR_no {xs ah : List UInt8} {a : Nat} (h : badR xs ah a = false) : (e7R xs a).2.2 = false ∧ (e1R xs a).1 ≤ ah.length ∧ (e1R xs a).1 + (e6R xs a).1.length ≤ 1024 := by
  unfold badR at h
  simp only [Bool.or_eq_false_iff, decide_eq_false_iff_not] at h
  obtain ⟨⟨h1, h2⟩, h3⟩ := h
  exact ⟨h1, by omega, by omega⟩
theorem bad_chain {xs : List UInt8} {a : Nat} (h : (e7R xs a).2.2 = false) : (e6R xs a).2.2 = false ∧ (e5R xs a).2.2 = false ∧ (e4R xs a).2.2 = false ∧ (e3R xs a).2.2 = false ∧ (e2R xs a).2.2 = false ∧ (e1R xs a).2.2 = false := by
  unfold e7R at h
  have h6 := (takeR_bad h).1
  have h6' := h6
  unfold e6R at h6'
  have h5 := (takeR_bad h6').1
  have h5' := h5
  unfold e5R at h5'
  have h4 := numR_bad h5'
  have h4' := h4
  unfold e4R at h4'
  have h3 := (takeR_bad h4').1
  have h3' := h3
  unfold e3R at h3'
  have h2 := numR_bad h3'
  have h2' := h2
  unfold e2R at h2'
  exact ⟨h6, h5, h4, h3, h2, numR_bad h2'⟩
theorem e_le {xs : List UInt8} {a : Nat} (ha : a ≤ xs.length) : (e1R xs a).2.1 ≤ xs.length ∧ (e2R xs a).2.1 ≤ xs.length ∧ (e3R xs a).2.1 ≤ xs.length ∧ (e4R xs a).2.1 ≤ xs.length ∧ (e5R xs a).2.1 ≤ xs.length ∧ (e6R xs a).2.1 ≤ xs.length ∧ (e7R xs a).2.1 ≤ xs.length := by
  have q1 : (e1R xs a).2.1 ≤ xs.length := by unfold e1R; exact (numR_le ha).1
  have q2 : (e2R xs a).2.1 ≤ xs.length := by unfold e2R; exact (numR_le q1).1
  have q3 : (e3R xs a).2.1 ≤ xs.length := by unfold e3R; exact (numR_le q2).1
  have q4 : (e4R xs a).2.1 ≤ xs.length := by unfold e4R; exact (takeR_le q3).1
  have q5 : (e5R xs a).2.1 ≤ xs.length := by unfold e5R; exact (numR_le q4).1
  have q6 : (e6R xs a).2.1 ≤ xs.length := by unfold e6R; exact (takeR_le q5).1
  have q7 : (e7R xs a).2.1 ≤ xs.length := by unfold e7R; exact (takeR_le q6).1
  exact ⟨q1, q2, q3, q4, q5, q6, q7⟩
theorem e7_more {xs : List UInt8} {a : Nat} (ha : a ≤ xs.length) (h : (e7R xs a).2.2 = false) : a < (e7R xs a).2.1 := by
  obtain ⟨b6, b5, b4, b3, b2, b1⟩ := bad_chain h
  obtain ⟨l1, l2, l3, l4, l5, l6, l7⟩ := e_le ha
  have m1 : a < (e1R xs a).2.1 := by unfold e1R at b1 ⊢; exact (numR_mono ha).2 b1
  have m2 : (e1R xs a).2.1 ≤ (e2R xs a).2.1 := by unfold e2R; exact (numR_mono l1).1
  have m3 : (e2R xs a).2.1 ≤ (e3R xs a).2.1 := by unfold e3R; exact (numR_mono l2).1
  have m4 : (e3R xs a).2.1 ≤ (e4R xs a).2.1 := by unfold e4R; exact takeR_mono
  have m5 : (e4R xs a).2.1 ≤ (e5R xs a).2.1 := by unfold e5R; exact (numR_mono l4).1
  have m6 : (e5R xs a).2.1 ≤ (e6R xs a).2.1 := by unfold e6R; exact takeR_mono
  have m7 : (e6R xs a).2.1 ≤ (e7R xs a).2.1 := by unfold e7R; exact takeR_mono
  omega
theorem entR_key {xs ah : List UInt8} {a : Nat} (h : badR xs ah a = false) : (entR xs ah a).key.length ≤ 1024 := by
  obtain ⟨_, h2, h3⟩ := badR_no h
  unfold entR
  simp only [List.length_append, List.length_take]
  omega
theorem lastK_snoc (es : List En) (x : En) : lastK (es ++ [x]) = x.key := by
  unfold lastK
  simp
theorem fam_join {w : World} {base B : Nat} {ps qs : List VB} (h : Fam w base ps) (hlt : ∀ p ∈ ps, ∀ b, Value.ownBlock p.1 = some b → b < B) (hn : Fam w B qs) (hB : base ≤ B) : Fam w base (ps ++ qs) := by
  refine ⟨fun p hp => ?_, List.pairwise_append.2 ⟨h.2, hn.2, fun p hp q hq k e1 e2 => ?_⟩⟩
  · rcases List.mem_append.1 hp with hp | hp
    · exact h.1 p hp
    · obtain ⟨A, m, c, e, ho⟩ := hn.1 p hp
      exact ⟨A, m, c, e, ho.mono hB⟩
  · have k1 := hlt p hp k e1
    have k2 := (hn.lt hq e2).1
    omega
/-- 'A row of entries of the call's own, off the reader; all of it lies below B.' -/
def PR (base B p : Nat) (L : Option Addr) (i d : Nat) (es : List En) (w : World) (vs : List Value) : Prop :=
  OwnE w base L i d vs ∧ EOs base w es vs ∧ OffW vs (blk L) ∧ es.length = i ∧ Fam w base (pairE es vs) ∧ OffW vs (some p) ∧ blk L ≠ some p ∧
    (∀ A m c g, Value.slice A m c ∈ vs → blk A = some g → g < B) ∧ (∀ g, blk L = some g → g < B)
section
variable {base B p i d : Nat} {L : Option Addr} {es : List En} {w w' : World} {vs : List Value}
theorem PR.kept (h : PR base B p L i d es w vs) (hg : w.grownBy w' (some p)) : PR base B p L i d es w' vs := by
  obtain ⟨q1, q2, q3, q4, q5, q6, q7, q8, q9⟩ := h
  refine ⟨?_, EOs.kept hg q2 q6, q3, q4, q5.kept hg (fun b hb r hr e => ?_), q6, q7, q8, q9⟩
  · refine ⟨q1.1, ?_⟩
    rcases q1.2 with h1 | ⟨g, cap, cur, h1, h2, h3, h4⟩
    · exact .inl h1
    · refine .inr ⟨g, cap, cur, h1, h2, ?_, h4⟩
      have hne : some g ≠ some p := fun e => q7 (by injection h1 with h1; rw [h1]; exact e)
      obtain ⟨_, _, _, _, k5⟩ := hg
      have hlt : g < w.heap.size := (Array.getElem?_eq_some_iff.1 h3).1
      exact (k5 g hlt hne).trans h3
  · injection hb with hb
    subst hb
    obtain ⟨A, m, c, e1, _⟩ := q5.1 r hr
    rw [e1, own_blk] at e
    have := pairE_mem hr
    rw [e1] at this
    exact q6 p rfl A m c this e
theorem PR.below (h : PR base B p L i d es w vs) (hb : Below w.heap.size w w') : PR base B p L i d es w' vs := by
  obtain ⟨q1, q2, q3, q4, q5, q6, q7, q8, q9⟩ := h
  exact ⟨q1.below hb, q2.below hb, q3, q4, q5.below hb, q6, q7, q8, q9⟩
theorem PR.zero (base B p : Nat) (w : World) : PR base B p none 0 0 [] w [] := ⟨OwnE.nil _ _, rfl, OffW.nil _, rfl, Fam.nil _ _, OffW.nil _, (fun h => by cases h), (fun A m c g h => by cases h), (fun g h => by cases h)⟩
theorem PR.rd (h : PR base B p L i d es w vs) : REs w L i es := by
  obtain ⟨q1, q2, q3, q4, _⟩ := h
  exact REs.mk q2.evs q1.rd q4
theorem PR.row {W : World} (h : PR base B p L i d es w vs) (hb : Below base W w) (hs : base ≤ w.heap.size) : RowE W base L i d es w := by
  obtain ⟨q1, q2, q3, q4, q5, _⟩ := h
  exact ⟨vs, q1, q2, q3, q4, hb, hs, q5⟩
/-- One more. -/
theorem pr_add {w4 : World} {L' K V : Option Addr} {d' kn kc vn vc : Nat} {x : En} (h : PR base B p L i d es w vs) (oK : Own 5 w B K kn kc x.key) (oV : Own 5 w B V vn vc x.val) (dj : Dj K V) (hwf : U64 x.seq ∧ x.kind < 256) (hB : base ≤ B) (hp : p < B) (hBw : B ≤ w.heap.size)
    (h4 : OwnE w4 base L' (i + 1) d' (vs ++ [.slice K kn kc, .int .u64 (x.seq : Int), .int .u8 (x.kind : Int), .slice V vn vc])) (hg : w.grownBy w4 (blk L)) (hb : blk L' = blk L ∨ blk L' = some (w.heap.size + 1)) :
    PR base w4.heap.size p L' (i + 1) d' (es ++ [x]) w4 (vs ++ [.slice K kn kc, .int .u64 (x.seq : Int), .int .u8 (x.kind : Int), .slice V vn vc]) := by
  obtain ⟨q1, q2, q3, q4, q5, q6, q7, q8, q9⟩ := h
  have eo : EO base w x (.slice K kn kc) (.int .u64 (x.seq : Int)) (.int .u8 (x.kind : Int)) (.slice V vn vc) := ⟨K, kn, kc, V, vn, vc, rfl, rfl, rfl, rfl, oK.mono hB, oV.mono hB, hwf⟩
  have hge : ∀ A m c g, Value.slice A m c ∈ [Value.slice K kn kc, .int .u64 (x.seq : Int), .int .u8 (x.kind : Int), .slice V vn vc] → blk A = some g → B ≤ g ∧ g < w.heap.size := fun A m c g hv hgg => by
    simp only [List.mem_cons, List.not_mem_nil, or_false] at hv
    rcases hv with e | e | e | e
    · injection e with e1 e2 e3; subst e1; exact oK.lt g hgg
    · cases e
    · cases e
    · injection e with e1 e2 e3; subst e1; exact oV.lt g hgg
  have o1 : OffW [Value.slice K kn kc, .int .u64 (x.seq : Int), .int .u8 (x.kind : Int), .slice V vn vc] (blk L) := fun g hgg A m c hv e => by
    have h1 := hge A m c g hv e
    have h2 := q9 g hgg
    omega
  have hgs := hg.size
  have f1 : Fam w base (pairE es vs ++ [(.slice K kn kc, x.key), (.slice V vn vc, x.val)]) := fam_join q5 (fun r hr b e => by
    obtain ⟨A, m, c, e1, _⟩ := q5.1 r hr
    have := pairE_mem hr
    rw [e1] at this e
    rw [own_blk] at e
    exact q8 A m c b this e) (fam_two oK oV dj) hB
  refine ⟨h4, (EOs.kept hg q2 q3).app (EOs.one (eo.kept hg o1)), ?_, by simp [q4], ?_, ?_, ?_, ?_, ?_⟩
  · rcases hb with e | e
    · rw [e]; exact q3.app o1
    · rw [e]
      intro g hg2 C m c hv2 hv3
      injection hg2 with hg2
      rcases List.mem_append.1 hv2 with hq | hq
      · have := (EOs.lt q2 hq hv3).2
        omega
      · have := hge C m c g hq hv3
        omega
  · rw [pairE_app q2]
    refine f1.kept hg (fun b e r hr e2 => ?_)
    obtain ⟨A, m, c, e1, _⟩ := f1.1 r hr
    have hm : Value.slice A m c ∈ vs ++ [.slice K kn kc, .int .u64 (x.seq : Int), .int .u8 (x.kind : Int), .slice V vn vc] := by
      rw [← e1]
      rcases List.mem_append.1 hr with h | h
      · exact List.mem_append_left _ (pairE_mem h)
      · refine List.mem_append_right _ ?_
        simp only [List.mem_cons, List.not_mem_nil, or_false] at h
        rcases h with rfl | rfl
        · simp
        · simp
    rw [e1, own_blk] at e2
    exact (q3.app o1) b e A m c hm e2
  · exact q6.app (fun g hgg A m c hv e => by
      injection hgg with hgg
      have := hge A m c g hv e
      omega)
  · rcases hb with e | e
    · rw [e]; exact q7
    · rw [e]
      intro h
      injection h with h
      omega
  · intro A m c g hv e
    rcases List.mem_append.1 hv with hq | hq
    · have := (EOs.lt q2 hq e).2
      omega
    · have := hge A m c g hq e
      omega
  · intro g e
    exact (h4.lt g e).2
end
end Go.Proofs.YtbgelbdnkbhffaaGreat
namespace Go.Proofs.YtbgelbdnkbhffaaGreat
open Go Go.RowKit Go.Maps

/-- 'The disk with this file now; the number.' -/
def RetFile (w : World) (p : Nat) (m : Option Nat) (rs : List FR) (r : FR) (dat : List UInt8) (saf : Nat) (room used left : Int) (dead armed : Bool) (v : Value) (e : Ending) (w' : World) : Prop :=
  e = .returned v ∧ ∃ r' : FR, r'.name = r.name ∧ r'.dat = dat ∧ r'.saf = saf ∧ DskR w' p m (putR r' rs) room used left dead armed ∧ Fr w w' (allB p m rs) ∧ ∀ b ∈ allB p m (putR r' rs), b ∈ allB p m rs ∨ w.heap.size ≤ b

section
variable {w : World} {p : Nat} {m : Option Nat} {rs : List FR} {room used left : Int} {dead armed : Bool}
end
end Go.Proofs.YtbgelbdnkbhffaaGreat
