/- P7.1: MemChecks. No condition but sizes. -/
import Derived.Test.YtjpnfhfeabdhiaaAwake7
namespace Go.Proofs.Ytjpnfhfeabdhiaa
open Go Go.RowKit

theorem RetEn.out {w : World} {x : En} {e : Ending} {w' : World} (h : RetEn w x e w') : ∃ K kn kc V vn vc, e = .returned (.agg #[.slice K kn kc, .int .u64 (x.seq : Int), .int .u8 (x.kind : Int), .slice V vn vc]) ∧ Own 5 w' w.heap.size K kn kc x.key ∧ Own 5 w' w.heap.size V vn vc x.val ∧ Below w.heap.size w w' := h
/-- 'These slices are the entry e, of the call's own.' -/
def Twn (w : World) (e : En) (v0 v1 v2 v3 : Value) : Prop := EV w e v0 v1 v2 v3
theorem Twn.mk {w : World} {e : En} {K : Option Addr} {kn kc : Nat} {V : Option Addr} {vn vc b : Nat} (o1 : Own 5 w b K kn kc e.key) (o2 : Own 5 w b V vn vc e.val) (h : U64 e.seq ∧ e.kind < 256) : Twn w e (.slice K kn kc) (.int .u64 (e.seq : Int)) (.int .u8 (e.kind : Int)) (.slice V vn vc) :=
  EO.ev (base := b) ⟨K, kn, kc, V, vn, vc, rfl, rfl, rfl, rfl, o1, o2, h⟩
theorem Twn.below {w w' : World} {e : En} {v0 v1 v2 v3 : Value} (h : Twn w e v0 v1 v2 v3) (hb : Below w.heap.size w w') : Twn w' e v0 v1 v2 v3 := EV.below h hb
theorem Twn.less {w : World} {a b : En} {v0 v1 v2 v3 u0 u1 u2 u3 : Value} (ha : Twn w a v0 v1 v2 v3) (hb : Twn w b u0 u1 u2 u3) : Calls Try.prog 29 #[.agg #[v0, v1, v2, v3], .agg #[u0, u1, u2, u3]] w (RetT w (lessE a b)) := memLess_any ha hb
theorem size_of_tot {es : List En} (ht : totE es ≤ 1048576) : ∀ x ∈ es, SzE x := fun x hx => by
  have := totE_mem hx
  unfold wE at this
  exact ⟨by omega, by omega⟩
set_option maxRecDepth 100000 in
set_option maxHeartbeats 8000000 in
theorem memChecks_row (A : Option Addr) (n c : Nat) (es : List En) (w : World) (hr : REs w A n es) (hc : n ≤ c) (ht : totE es ≤ 1048576) :
    Calls Try.prog 5 #[.slice A n c] w (RetT w true) := by
  have hsz := size_of_tot ht
  have hn : n ≤ 1099511627776 := by
    have h1 : es.length ≤ totE es := by
      clear hr ht hsz
      induction es with
      | nil => exact Nat.zero_le _
      | cons e t ih => simp only [List.length_cons, totE]; omega
    have := hr.len
    omega
  have HR := Lib.hid hr
  have HS := Lib.hid hsz
  have HF : Hid (∀ wx, Calls Try.prog 28 #[.slice A n c, .int .i64 60] wx fun e w' => e = .returned (.slice A (min n 60) c) ∧ w' = wx) := Lib.hid (fun wx => few_any A n c 60 hc)
  obtain ⟨z, hz⟩ : ∃ z, z = checkE es := ⟨_, rfl⟩
  have HZ := Lib.hid hz
  have tz : (z != z) = false := by simp
  clear hr hsz ht hz
  go_enter Try.func5, Try.ntmps5
  go_wp2_with fail
  with_reducible refine (awake7_any w).mono ?_
  rintro e w1 ⟨rfl, b1⟩
  have B1 := Lib.hid b1
  clear b1
  go_wp2_with fail
  with_reducible refine (Twins_any (HR.out.below B1.out) hn HS.out).mono ?_
  intro e w2 hq
  obtain ⟨L, ln, lc, h1, hrow⟩ := hq
  subst h1
  have b2 := RowE.bel hrow
  have HL : Hid (Calls Try.prog 25 #[.slice L ln lc] w2 (RetNu w2 z)) := Lib.hid (by rw [HZ.out]; exact memCheck_any (RowE.rd hrow) (by have := RowE.len hrow; have := HR.out.len; omega))
  have B2 := Lib.hid (belowT B1.out b2)
  clear hrow b2
  go_wp2_with fail
  with_reducible refine HL.out.mono ?_
  rintro e w3 ⟨rfl, b3⟩
  have B3 := Lib.hid (belowT B2.out b3)
  have HC : Hid (Calls Try.prog 27 #[.slice A n c] w3 (RetNu w3 z)) := Lib.hid (by rw [HZ.out]; exact refCheck_any (HR.out.below B3.out) hn HS.out)
  clear b3 HL
  go_wp2_with fail
  with_reducible refine HC.out.mono ?_
  rintro e w4 ⟨rfl, b4⟩
  have B4 := Lib.hid (belowT B3.out b4)
  clear b4 HC
  go_wp2_with fail
  with_reducible refine (HF.out _).mono ?_
  rintro e w5 ⟨rfl, rfl⟩
  obtain ⟨q, hq⟩ : ∃ q, q = min n 60 := ⟨_, rfl⟩
  rw [← hq]
  have hqn : q ≤ n := by omega
  have hq60 : q ≤ 60 := by omega
  clear hq
  go_wp2_with fail
  go_loopw [19] (fun s19 wr => ∃ k : Nat, k ≤ q ∧ s19 = .int .i64 (k : Int) ∧ Below w.heap.size w wr) (fun s _ => q - (intOf s).toNat)
  case atStart => exact ⟨0, Nat.zero_le _, rfl, B4.out⟩
  case round =>
    obtain ⟨k, hk, rfl, hB⟩ := hrel
    have HB := Lib.hid hB
    clear hB
    by_cases hlt : k < q
    · obtain ⟨wo, hwo⟩ : ∃ wo : World, wo = wr := ⟨_, rfl⟩
      rw [← hwo] at HB
      rw [← hwo]
      clear hwo
      go_wp2_with fail
      go_loopw [24] (fun s24 wr => ∃ m : Nat, m ≤ q ∧ s24 = .int .i64 (m : Int) ∧ Below w.heap.size w wr) (fun s _ => q - (intOf s).toNat)
      case atStart => exact ⟨0, Nat.zero_le _, rfl, HB.out⟩
      case round =>
        obtain ⟨m, hm, rfl, hX⟩ := hrel
        have HX := Lib.hid hX
        clear hX
        by_cases hmt : m < q
        · have hR := HR.out.below HX.out
          obtain ⟨b, off, hAb, hbl⟩ := hR.pos (by omega)
          subst hAb
          obtain ⟨x, v0, v1, v2, v3, hx, c0, c1, c2, c3, hev⟩ := hR.at_ k (by omega)
          obtain ⟨y, u0, u1, u2', u3', hy, d0, d1, d2, d3, hew⟩ := hR.at_ m (by omega)
          have hsx := HS.out x (List.mem_of_getElem? hx)
          have hsy := HS.out y (List.mem_of_getElem? hy)
          have hwx := hR.wf x (List.mem_of_getElem? hx)
          have hwy := hR.wf y (List.mem_of_getElem? hy)
          have HV := Lib.hid hev
          have HU := Lib.hid hew
          have BR := hR
          have HT1 : Hid (∀ wx, Below wr.heap.size wr wx → Calls Try.prog 30 #[.agg #[v0, v1, v2, v3]] wx (RetEn wx x)) := Lib.hid (fun wx h => Twin_any (HV.out.below h) hsx)
          have HT2 : Hid (∀ wx, Below wr.heap.size wr wx → Calls Try.prog 30 #[.agg #[u0, u1, u2', u3']] wx (RetEn wx y)) := Lib.hid (fun wx h => Twin_any (HU.out.below h) hsy)
          have HL1 : Hid (∀ wx, Below wr.heap.size wr wx → Calls Try.prog 31 #[.agg #[v0, v1, v2, v3], .agg #[u0, u1, u2', u3']] wx (RetT wx (lessE x y))) := Lib.hid (fun wx h => refLess_any (HV.out.below h) (HU.out.below h) hsx hsy)
          have HSX : Hid (∀ wx, Below wr.heap.size wr wx → wx.cell? ⟨b, off + k * 4, none⟩ = some v0 ∧ wx.cell? ⟨b, off + k * 4 + 1, none⟩ = some v1 ∧ wx.cell? ⟨b, off + k * 4 + 2, none⟩ = some v2 ∧ wx.cell? ⟨b, off + k * 4 + 3, none⟩ = some v3 ∧ wx.cell? ⟨b, off + m * 4, none⟩ = some u0 ∧ wx.cell? ⟨b, off + m * 4 + 1, none⟩ = some u1 ∧ wx.cell? ⟨b, off + m * 4 + 2, none⟩ = some u2' ∧ wx.cell? ⟨b, off + m * 4 + 3, none⟩ = some u3') := Lib.hid (fun wx h => ⟨(h.cell hbl).trans c0, (h.cell hbl).trans c1, (h.cell hbl).trans c2, (h.cell hbl).trans c3, (h.cell hbl).trans d0, (h.cell hbl).trans d1, (h.cell hbl).trans d2, (h.cell hbl).trans d3⟩)
          have hB0 : Below wr.heap.size wr wr.drew := (Below.refl _ _).drew
          have tl : (lessE x y != lessE x y) = false := by simp
          clear hR BR hev hew hx hy c0 c1 c2 c3 d0 d1 d2 d3 tz
          go_upto_region 10 with (fail)
          go_cut [47] from 25 to 48 (fun s47 wx => s47 = .bool false ∧ Below wr.heap.size wr wx)
          case first =>
            go_region_held3 (fun wx => wx.cell? ⟨b, off + k * 4, none⟩ = some v0 ∧ wx.cell? ⟨b, off + k * 4 + 1, none⟩ = some v1 ∧ wx.cell? ⟨b, off + k * 4 + 2, none⟩ = some v2 ∧ wx.cell? ⟨b, off + k * 4 + 3, none⟩ = some v3 ∧ wx.cell? ⟨b, off + m * 4, none⟩ = some u0 ∧ wx.cell? ⟨b, off + m * 4 + 1, none⟩ = some u1 ∧ wx.cell? ⟨b, off + m * 4 + 2, none⟩ = some u2' ∧ wx.cell? ⟨b, off + m * 4 + 3, none⟩ = some u3') (first | assumption | exact HSX.out _ hB0)
              (first | (go_at_call 30; with_reducible refine (HT1.out _ (by assumption)).mono ?_; intro e1 wn hq; obtain ⟨K1, kn1, kc1, V1, vn1, vc1, h1, o1, o2, bn⟩ := RetEn.out hq; subst h1; have bn' := belowT (by assumption : Below wr.heap.size wr _) bn; have ex1 := Twn.mk o1 o2 hwx; (try have ey1 := Twn.below (e := y) (by assumption) bn); have hS1 := HSX.out _ bn') | (go_at_call 30; with_reducible refine (HT2.out _ (by assumption)).mono ?_; intro e1 wn hq; obtain ⟨K2, kn2, kc2, V2, vn2, vc2, h1, o1, o2, bn⟩ := RetEn.out hq; subst h1; have bn' := belowT (by assumption : Below wr.heap.size wr _) bn; have ey1 := Twn.mk o1 o2 hwy; (try have ex1 := Twn.below (e := x) (by assumption) bn); have hS1 := HSX.out _ bn') | (go_at_call 29; with_reducible refine (Twn.less (a := x) (b := y) (by assumption) (by assumption)).mono ?_; intro e1 wn hq; obtain ⟨h1, bn⟩ := RetT.out hq; subst h1; have bn' := belowT (by assumption : Below wr.heap.size wr _) bn; have hS1 := HSX.out _ bn') | (go_at_call 31; with_reducible refine (HL1.out _ (by assumption)).mono ?_; intro e1 wn hq; obtain ⟨h1, bn⟩ := RetT.out hq; subst h1; have bn' := belowT (by assumption : Below wr.heap.size wr _) bn; (try have ex1 := Twn.below (e := x) (by assumption) bn); (try have ey1 := Twn.below (e := y) (by assumption) bn); have hS1 := HSX.out _ bn'))
            all_goals
              go_wp2_with fail
              go_meet
              first | exact ⟨rfl, by assumption⟩ | exact ⟨congrArg Value.bool tl, by assumption⟩
          case rest =>
            obtain ⟨rfl, hbc⟩ := hcut
            have BC := Lib.hid (belowT HX.out hbc)
            clear hbc tl hB0
            go_wp2_with fail
            go_roundw
            case rel => exact ⟨m + 1, by omega, by go_num, BC.out⟩
            case measure => simp [intOf]; omega
        · go_wp2_with fail
          go_roundw
          case rel => exact ⟨k + 1, by omega, by go_num, HX.out⟩
          case measure => simp [intOf]; omega
    · clear tz
      go_wp2
      go_ret
      exact ⟨rfl, HB.out⟩
end Go.Proofs.Ytjpnfhfeabdhiaa
