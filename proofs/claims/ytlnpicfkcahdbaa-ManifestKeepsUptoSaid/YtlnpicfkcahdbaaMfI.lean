/- Manifest: Encode of an edit that adds one file. No condition but sizes. -/
import Derived.Test.YtlnpicfkcahdbaaMfH
namespace Go.Proofs.Ytlnpicfkcahdbaa
open Go Go.RowKit

def hdE (s : Nat) : List UInt8 := bt 0 :: putU s
/-- The parts of an edit that adds one file. -/
def psE (x : Mf) (s : Nat) : List (List UInt8) := [hdE s, [], encF (nsF x) x]
theorem encF_len (x : Mf) (hx : U64 x.num) : (encF (nsF x) x).length ≤ 44 + 2 * x.lo.length + 2 * x.hi.length := by
  have h3 := encNs_len (nsF x) (fun n hn => by
      simp only [nsF, List.mem_cons, List.not_mem_nil, or_false] at hn
      unfold U64 at hx; unfold B64
      rcases hn with h4 | h4 | h4 | h4 <;> omega)
  have h4 := ordT_len x.lo
  have h5 := ordT_len x.hi
  have h6 : (nsF x).length = 4 := rfl
  simp only [encF, List.length_append]
  omega
set_option maxRecDepth 100000 in
set_option maxHeartbeats 8000000 in
theorem encode_any {w : World} {A : Option Addr} {c s : Nat} {x : Mf} (h : RMf w A 1 [x]) (hc : x.cnt = 0) (hs : x.sz = 0) (hl : x.lv = 0) (h1 : x.lo.length ≤ 1048576) (h2 : x.hi.length ≤ 1048576) (hsb : s < B64) :
    Calls Try.prog 52 #[.agg #[.bool false, .slice A 1 c, .slice none 0 0, .int .u64 (s : Int)]] w (Made w.heap.size w (frameB (psE x s))) := by
  obtain ⟨b, off, hAb, hbl⟩ := h.pos (by omega)
  subst hAb
  obtain ⟨x', v0, v1, v2, v3, v4, v5, hx, m0, m1, m2, m3, m4, m5, hev⟩ := h.at_ 0 (by omega)
  obtain rfl : x = x' := by simpa using hx
  have HEV := Lib.hid hev
  obtain ⟨K, kn, kc, T, tn, tc, rfl, rfl, rfl, rfl, rfl, rfl, _⟩ := hev.parts
  simp only [Nat.zero_mul, Nat.add_zero] at m0 m1 m2 m3 m4 m5
  obtain ⟨W, hW⟩ : ∃ W, W = w.alloc (.cells #[.bool false, .slice (some ⟨b, off, none⟩) 1 c, .slice none 0 0, .int .u64 (s : Int)] 116) := ⟨_, rfl⟩
  obtain ⟨p, hp⟩ : ∃ p, p = w.heap.size := ⟨_, rfl⟩
  have bW : Below w.heap.size w W := by rw [hW]; exact (Below.refl _ _).alloc (Nat.le_refl _) _
  have zW : Cl W p #[.bool false, .slice (some ⟨b, off, none⟩) 1 c, .slice none 0 0, .int .u64 (s : Int)] 116 := by rw [hW, hp]; exact Cl.new _ _ _
  obtain ⟨V, hV⟩ : ∃ V, V = W.alloc (.cells #[.int .u8 0] 5) := ⟨_, rfl⟩
  obtain ⟨q, hq⟩ : ∃ q, q = W.heap.size := ⟨_, rfl⟩
  have bV : Below W.heap.size W V := by rw [hV]; exact (Below.refl _ _).alloc (Nat.le_refl _) _
  have zV : Cl V q #[.int .u8 0] 5 := by rw [hV, hq]; exact Cl.new _ _ _
  have HO0 : Hid (Own 5 V W.heap.size (some ⟨q, 0, none⟩) 1 1 [bt 0]) := Lib.hid ⟨rfl, .inr ⟨q, 1, #[.int .u8 0], rfl, by rw [hq]; exact Nat.le_refl _, zV, Nat.le_refl _, by unfold maxLen; omega, rfl, rfl⟩⟩
  have HCX : Hid (x.cnt = 0 ∧ x.sz = 0 ∧ x.lv = 0) := Lib.hid ⟨hc, hs, hl⟩
  have HH := Lib.hid h
  have HBL := Lib.hid hbl
  have HM : Hid (∀ wx, Below w.heap.size w wx → wx.cell? ⟨b, off, none⟩ = some (.slice K kn kc) ∧ wx.cell? ⟨b, off + 1, none⟩ = some (.slice T tn tc) ∧ wx.cell? ⟨b, off + 2, none⟩ = some (.int .i64 x.cnt) ∧ wx.cell? ⟨b, off + 3, none⟩ = some (.int .i64 x.sz) ∧ wx.cell? ⟨b, off + 4, none⟩ = some (.int .u64 (x.num : Int)) ∧ wx.cell? ⟨b, off + 5, none⟩ = some (.int .i64 x.lv)) := Lib.hid (fun wx hb => ⟨(hb.cell hbl).trans m0, (hb.cell hbl).trans m1, (hb.cell hbl).trans m2, (hb.cell hbl).trans m3, (hb.cell hbl).trans m4, (hb.cell hbl).trans m5⟩)
  have HZ := Lib.hid zW
  have HZV := Lib.hid zV
  have HBW := Lib.hid bW
  have HBV := Lib.hid bV
  have HW := Lib.hid hW
  have HP := Lib.hid hp
  have HV := Lib.hid hV
  have HQ := Lib.hid hq
  have HS1 := Lib.hid h1
  have HS2 := Lib.hid h2
  have HSB := Lib.hid hsb
  have k0 := zW.cell 0
  have k2 := (zW.below bV).cell 2
  have kk2 := (zW.below bV).cell 3
  have HPU := Lib.hid (PutU_any s V hsb)
  clear h hc hs hl h1 h2 hsb hx hev hbl m0 m1 m2 m3 m4 m5 hW hp bW zW hV hq bV zV k0
  have k0 := (HZ.out.below HBV.out).cell 0
  go_enter Try.func52, Try.ntmps52
  go_upto_region 1 with (fail)
  rw [← HW.out, ← HP.out]
  go_upto_region 2 with (fail)
  rw [← HV.out, ← HQ.out]
  go_wp2_with fail
  go_loopw [4, 18] (fun s4 s18 wr => s4 = .slice none 0 0 ∧ s18 = .int .i64 0 ∧ wr = V) (fun _ _ _ => 0)
  case atStart => exact ⟨rfl, rfl, rfl⟩
  case round =>
    obtain ⟨rfl, rfl, hwr⟩ := hrel
    rw [hwr]
    clear hwr wr
    go_wp2_with fail
    with_reducible refine HPU.out.mono ?_
    intro e w2 hq
    obtain ⟨C, cn, cc, h1, oC, bC⟩ := Made.outM hq
    subst h1
    have HO1 := Lib.hid (HO0.out.below bC)
    have hcl : cn ≤ 10 := by rw [← oC.len]; exact putU_len64 s HSB.out
    have HC := Lib.hid oC
    have HB2 := Lib.hid (belowT' HBV.out bC)
    clear hq k0 k2 kk2 oC bC
    go_wp2_with (at_builtin; refine wpList_app w2 rfl (.tmp 27) (.tmp 30) 22 rfl W.heap.size 5 Try.underlying22 info_u8 (some ⟨q, 0, none⟩) 1 1 _ rfl HO1.out C cn cc _ rfl HC.out.rd ?_ ?_ ?_)
    · omega
    · exact HB2.out.size
    intro L1 c1 w3 hO3 hb3
    obtain ⟨n1, hn1⟩ : ∃ n1, n1 = 1 + cn := ⟨_, rfl⟩
    rw [← hn1] at hO3 ⊢
    have HB3 := Lib.hid (HB2.out.trans hb3)
    obtain ⟨X, hX⟩ : ∃ X, X = w3.alloc (.cells #[.slice L1 n1 c1, .slice none 0 0] 22) := ⟨_, rfl⟩
    obtain ⟨r, hr⟩ : ∃ r, r = w3.heap.size := ⟨_, rfl⟩
    have bX : Below w3.heap.size w3 X := by rw [hX]; exact (Below.refl _ _).alloc (Nat.le_refl _) _
    have zX : Cl X r #[.slice L1 n1 c1, .slice none 0 0] 22 := by rw [hX, hr]; exact Cl.new _ _ _
    have HOL : Hid (OwnL 22 X W.heap.size (some ⟨r, 0, none⟩) 2 2 [hdE s, []]) := Lib.hid ⟨[.slice L1 n1 c1, .slice none 0 0], ⟨rfl, .inr ⟨r, 2, _, rfl, by rw [hr]; exact HB3.out.size, zX, Nat.le_refl _, by unfold maxLen; omega, rfl, rfl⟩⟩, rfl, fun i ys hy => by
      rcases i with _ | _ | i
      · simp only [List.getElem?_cons_zero, Option.some.injEq] at hy
        subst hy
        refine ⟨L1, n1, c1, rfl, (hO3.below bX).rd, hO3.cap.1, fun e => by subst e; exact hO3.nil_cap, fun b2 off2 e => ?_⟩
        subst e
        have h4 := (hO3.lt b2 rfl).2
        have h5 := bX.size
        exact ⟨by omega, fun e => by rw [own_blk] at e; injection e with e; simp only at e; omega⟩
      · simp only [List.getElem?_cons_succ, List.getElem?_cons_zero, Option.some.injEq] at hy
        subst hy
        exact ⟨none, 0, 0, rfl, Rd.nil _ _, Nat.le_refl _, fun _ => rfl, fun b2 off2 e => by cases e⟩
      · simp at hy⟩
    have HBX := Lib.hid (HB3.out.trans (bX.mono HB3.out.size))
    have HX := Lib.hid hX
    have HR := Lib.hid hr
    have k1 := (HZ.out.below HBX.out).cell 1
    clear hO3 hb3 hn1 hX hr bX zX
    go_upto_region 11 with (fail)
    rw [← HX.out, ← HR.out]
    go_wp2_with fail
    go_loopw [7, 37] (fun s7 s37 wr => (s37 = .int .i64 0 ∧ s7 = .slice (some ⟨r, 0, none⟩) 2 2 ∧ wr = X) ∨ (s37 = .int .i64 1 ∧ ∃ Q c, s7 = .slice Q 3 c ∧ OwnL 22 wr W.heap.size Q 3 c (psE x s) ∧ Below W.heap.size W wr)) (fun _ s _ => 1 - (intOf s).toNat)
    case atStart => exact .inl ⟨rfl, rfl, rfl⟩
    case round =>
      rcases hrel with ⟨rfl, rfl, hwr⟩ | ⟨rfl, Q, cq, rfl, hQ, hb⟩
      · rw [hwr]
        clear hwr wr k1
        obtain ⟨m0, m1, m2, m3, m4, m5⟩ := HM.out X (belowT' HBW.out HBX.out)
        obtain ⟨U, hU⟩ : ∃ U, U = X.alloc (.cells #[.slice K kn kc, .slice T tn tc, .int .i64 x.cnt, .int .i64 x.sz, .int .u64 (x.num : Int), .int .i64 x.lv] 113) := ⟨_, rfl⟩
        obtain ⟨g0, hg0⟩ : ∃ g0, g0 = X.heap.size := ⟨_, rfl⟩
        have bU : Below X.heap.size X U := by rw [hU]; exact (Below.refl _ _).alloc (Nat.le_refl _) _
        have zU : Cl U g0 #[.slice K kn kc, .slice T tn tc, .int .i64 x.cnt, .int .i64 x.sz, .int .u64 (x.num : Int), .int .i64 x.lv] 113 := by rw [hU, hg0]; exact Cl.new _ _ _
        have HUE := Lib.hid hU
        have HGE := Lib.hid hg0
        have HBU := Lib.hid (belowT' HBX.out bU)
        have HOU := Lib.hid (HOL.out.below bU)
        have HEF := Lib.hid (encodeFile_any (HEV.out.below (belowT' HBW.out (belowT' HBX.out bU))) HCX.out.1 HCX.out.2.1 HCX.out.2.2 (by have := HS1.out; omega) (by have := HS2.out; omega))
        go_upto_region 14 with (fail)
        rw [← HUE.out, ← HGE.out]
        have y0 := zU.cell 0
        have y1 := zU.cell 1
        have y2 := zU.cell 2
        have y3 := zU.cell 3
        have y4 := zU.cell 4
        have y5 := zU.cell 5
        clear m0 m1 m2 m3 m4 m5 hU hg0 bU zU
        go_wp2_with fail
        with_reducible refine HEF.out.mono ?_
        intro e w5 hq
        obtain ⟨D, dn, dc, h1, oD, bD⟩ := Made.outM hq
        subst h1
        have HO5 := Lib.hid (HOU.out.below bD)
        have HB5 := Lib.hid (belowT' HBU.out bD)
        have HAP : Hid (∀ b2 off2, D = some ⟨b2, off2, none⟩ → b2 < w5.heap.size ∧ Value.ownBlock (.slice (some ⟨r, 0, none⟩) 2 2) ≠ some b2) := Lib.hid (fun b2 off2 e => by
          subst e
          have h4 := oD.lt b2 rfl
          exact ⟨h4.2, fun e => by
            rw [own_blk] at e
            injection e with e
            simp only at e
            have h5 := HOL.out.rd
            obtain ⟨b3, off3, h6, h7, _⟩ := h5.2 (by omega)
            injection h6 with h6
            injection h6 with h6 h8
            have h9 := HBU.out.size
            have h10 : X.heap.size ≤ U.heap.size := by rw [HUE.out]; simp
            omega⟩)
        have HD := Lib.hid oD
        clear hq y0 y1 y2 y3 y4 y5 oD bD
        go_wp2_with (at_builtin; refine wpList_appL w5 rfl (.tmp 41) (.tmp 44) 50 rfl W.heap.size 22 Try.underlying50 info_sl (some ⟨r, 0, none⟩) 2 2 [hdE s, []] rfl HO5.out D dn dc _ HD.out.rd HD.out.cap.1 (fun h => by subst h; exact HD.out.nil_cap) HAP.out _ rfl rfl ?_ ?_ ?_)
        · omega
        · exact HB5.out.size
        intro Q2 c2 w6 hO6 hb6
        have HO6 := Lib.hid hO6
        have HB6 := Lib.hid ((HB5.out.alloc HB5.out.size _).trans hb6)
        clear hO6 hb6
        go_wp2_with fail
        go_roundw
        case rel => exact .inr ⟨rfl, Q2, c2, rfl, HO6.out, HB6.out⟩
        case measure => simp [intOf]
      · have HFR := Lib.hid (Frame_any Q 3 cq (psE x s) wr hQ.rd (by
          have h3 : U64 x.num := by obtain ⟨_, _, _, _, _, _, _, _, _, _, _, _, _, _, _, _, _, _, hu⟩ := HEV.out.parts; exact hu
          have h4 := encF_len x h3
          have h5 := HS1.out
          have h6 := HS2.out
          have h7 := putU_len64 s HSB.out
          simp only [psE, hdE, tot, List.length_cons, List.length_nil]
          omega))
        have HBR := Lib.hid hb
        clear hQ hb k1
        go_wp2_with fail
        with_reducible refine HFR.out.mono ?_
        intro e w7 hq
        obtain ⟨D, dn, dc, h1, oD, bD⟩ := Made.outM hq
        subst h1
        have hbw := belowT' HBW.out HBR.out
        have HF : Hid (Made w.heap.size w (frameB (psE x s)) (.returned (.slice D dn dc)) w7) := Lib.hid ⟨D, dn, dc, rfl, Own.mono oD hbw.size, belowT' hbw bD⟩
        clear hq oD bD hbw
        go_wp2_with fail
        go_ret
        exact HF.out
end Go.Proofs.Ytlnpicfkcahdbaa
