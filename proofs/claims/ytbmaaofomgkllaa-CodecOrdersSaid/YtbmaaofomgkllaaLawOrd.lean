/- CodecOrders: for every two numbers and every list of bytes the call returns true, and what was there stands. -/
import Derived.Test.YtbmaaofomgkllaaAwake
import Derived.Test.YtbmaaofomgkllaaOrdU
import Derived.Test.YtbmaaofomgkllaaCmp
import Derived.Test.YtbmaaofomgkllaaGetO
import Derived.Deep.RegionHeld3
import Derived.Deep.DeepCutAuto
namespace Go.Proofs.Ytbmaaofomgkllaa
open Go Go.RowKit

set_option maxRecDepth 100000 in
set_option maxHeartbeats 4000000 in
theorem codecOrders_any (n m : Nat) (B : Option Addr) (l d : Nat) (ys : List UInt8) (w : World) (hn : n < B64) (hm : m < B64) (hy : Rd w B l ys) (hld : l ≤ d) (hd : d ≤ 140737488351232) :
    Calls Try.prog 4 #[.int .u64 n, .int .u64 m, .slice B l d] w (RetT w true) := by
  have Hn := Lib.hid hn
  have Hm := Lib.hid hm
  have Hd := Lib.hid hd
  clear hn hm hd
  go_enter Try.func4, Try.ntmps4
  go_upto_region 2 with (fail)
  go_cut [30] (fun v w' => ∃ b : Bool, v = .bool b ∧ (b = true → 0 < l) ∧ w = w')
  case first =>
    by_cases h : 0 < l
    · obtain ⟨b, off, rfl, _⟩ := hy.pos h
      obtain ⟨x, hx1, hx2, hx3⟩ := hy.at_ 0 h
      simp only [Nat.add_zero] at hx2
      clear hx1
      go_wp2_with fail
      go_meet
      exact ⟨_, rfl, fun _ => h, rfl⟩
    · go_wp2_with fail
      go_meet
      exact ⟨_, rfl, fun h => by simp at h, rfl⟩
  case rest =>
    obtain ⟨b, rfl, hb, rfl⟩ := hcut
    go_upto_if 30 with (fail)
    go_cut [7] (fun v w' => ∃ t : Int, v = .int .i64 t ∧ -5 ≤ t ∧ t ≤ 250 ∧ w = w')
    case first =>
      cases b
      · go_wp2_with fail
        go_meet
        exact ⟨0, rfl, by omega, by omega, rfl⟩
      · have h := hb rfl
        clear hb
        obtain ⟨b, off, rfl, _⟩ := hy.pos h
        obtain ⟨x, hx1, hx2, hx3⟩ := hy.at_ 0 h
        simp only [Nat.add_zero] at hx2
        clear hx1
        go_wp2_with fail
        go_meet
        exact ⟨_, rfl, by omega, by omega, rfl⟩
    case rest =>
      obtain ⟨t, rfl, ht1, ht2, rfl⟩ := hcut
      go_wp2_with fail
      refine (awake_any _).mono ?_
      rintro e w1 ⟨rfl, hb1⟩
      go_wp2_with fail
      refine (OrdU_any n _ Hn.out).mono ?_
      rintro e w2 ⟨P, lp, cp, rfl, op, hb2⟩
      obtain rfl : 8 = lp := op.len
      go_wp2_with fail
      refine (OrdI_any (wrap64 (n : Int)) _ (wrap64_I64 _)).mono ?_
      rintro e w3 ⟨Q, lq, cq, rfl, oq, hb3⟩
      obtain rfl : 8 = lq := oq.len
      have rp := op.rd.below hb3
      have rq := oq.rd
      have hK3 := (hb1.trans (hb2.mono hb1.size)).trans (hb3.mono (by have := hb1.size; have := hb2.size; omega))
      have ry := ((hy.below hb1).below hb2).below hb3
      have hcp := op.cap
      have hcq := oq.cap
      clear hb1 hb2 hb3 op oq hy
      go_wp2_with fail
      refine (refOrdU_any n _ Hn.out).mono ?_
      rintro e w4 ⟨P2, lp2, cp2, rfl, op2, hb4⟩
      have hcp2 := op2.cap
      go_wp2_with fail
      refine (Equal_is _ _ _ _ _ _ (ordU n) (ordU n) true (eqB_self _) _ (rp.below hb4) op2.rd (by omega) (by omega)).mono ?_
      rintro e w5 ⟨rfl, q5, rfl⟩
      have hK5 := below_drewN (hK3.trans (hb4.mono hK3.size)) q5
      have rp5 := (rp.below hb4).drewN q5
      have rq5 := (rq.below hb4).drewN q5
      have ry5 := (ry.below hb4).drewN q5
      clear hK3 rp rq ry hb4 op2
      go_wp2_with fail
      refine (refOrdI_any (wrap64 (n : Int)) _ (wrap64_I64 _)).mono ?_
      rintro e w6 ⟨Q2, lq2, cq2, rfl, oq2, hb6⟩
      have hcq2 := oq2.cap
      go_wp2_with fail
      refine (Equal_is _ _ _ _ _ _ (ordU (up (wrap64 (n : Int)))) (ordU (up (wrap64 (n : Int)))) true (eqB_self _) _ (rq5.below hb6) oq2.rd (by omega) (by omega)).mono ?_
      rintro e w7 ⟨rfl, q7, rfl⟩
      have hK7 := below_drewN (hK5.trans (hb6.mono hK5.size)) q7
      have rp7 := (rp5.below hb6).drewN q7
      have rq7 := (rq5.below hb6).drewN q7
      have ry7 := (ry5.below hb6).drewN q7
      clear hK5 rp5 rq5 ry5 hb6 oq2
      go_wp2_with fail
      refine (OrdU_any m _ Hm.out).mono ?_
      rintro e w8 ⟨P3, lp3, cp3, rfl, op3, hb8⟩
      have hcp3 := op3.cap
      obtain ⟨z1, hz1⟩ : ∃ z1, cmpB (ordU n) (ordU m) = z1 := ⟨_, rfl⟩
      have hd1 : decide (z1 < 0) = decide (n < m) := by
        rw [← hz1, decide_eq_decide]
        exact ordU_lt n m Hn.out Hm.out
      go_wp2_with fail
      refine (refCmp_is _ _ _ _ _ _ (ordU n) (ordU m) z1 hz1 _ (rp7.below hb8) op3.rd (by omega) (by omega)).mono ?_
      rintro e w9 ⟨rfl, q9, rfl⟩
      have hK9 := below_drewN (hK7.trans (hb8.mono hK7.size)) q9
      have rq9 := (rq7.below hb8).drewN q9
      have ry9 := (ry7.below hb8).drewN q9
      clear hK7 rp7 rq7 ry7 hb8 op3
      go_wp2_with fail
      refine (OrdI_any (wrap64 (m : Int)) _ (wrap64_I64 _)).mono ?_
      rintro e w10 ⟨Q3, lq3, cq3, rfl, oq3, hb10⟩
      have hcq3 := oq3.cap
      obtain ⟨z2, hz2⟩ : ∃ z2, cmpB (ordU (up (wrap64 (n : Int)))) (ordU (up (wrap64 (m : Int)))) = z2 := ⟨_, rfl⟩
      have hd2 : decide (z2 < 0) = decide (wrap64 (n : Int) < wrap64 (m : Int)) := by
        rw [← hz2]
        exact ordI_lt (wrap64_I64 _) (wrap64_I64 _)
      go_wp2_with fail
      refine (refCmp_is _ _ _ _ _ _ _ _ z2 hz2 _ (rq9.below hb10) oq3.rd (by omega) (by omega)).mono ?_
      rintro e w11 ⟨rfl, q11, rfl⟩
      have hK := below_drewN (hK9.trans (hb10.mono hK9.size)) q11
      have ry := (ry9.below hb10).drewN q11
      obtain ⟨wr, hwr⟩ : ∃ wr, wr = w10.drewN q11 := ⟨_, rfl⟩
      rw [← hwr] at hK ry ⊢
      clear hwr hK9 rq9 ry9 hb10 oq3 hd1 hz1 hz2
      go_wp2_with fail
      clear hd2
      refine (Copy_any B l d ys _ ry (by have := Hd.out; omega)).mono ?_
      rintro e w12 ⟨C, lc, cc, rfl, oc, hb12⟩
      have hcc := oc.cap
      have hlc : lc = l := by rw [← oc.len, ry.len]
      subst hlc
      have hK12 := hK.trans (hb12.mono hK.size)
      have ry12 := ry.below hb12
      have hG := GetOrdU_any C lc cc ys t w12 oc.rd (by have := Hd.out; omega) (by omega)
      have hR := refGetOrdU_any B lc d ys t w12 ry12 (by have := Hd.out; omega)
      rcases hg : getO ys t with ⟨gm, gx, ge⟩
      rw [hg] at hG hR
      have HG := Lib.hid hG
      have HR := Lib.hid hR
      have Hg := Lib.hid hg
      clear hG hR hg hK ry hb12
      go_wp2_with fail
      refine HG.out.mono ?_
      rintro e w13 ⟨rfl, rfl⟩
      clear HG
      go_wp2_with fail
      refine HR.out.mono ?_
      rintro e w13 ⟨rfl, rfl⟩
      clear HR
      go_wp2_with fail
      refine (Copy_any B lc d ys _ ry12 (by have := Hd.out; omega)).mono ?_
      rintro e w14 ⟨C2, lc2, cc2, rfl, oc2, hb14⟩
      have hcc2 := oc2.cap
      have hlc : lc2 = lc := by rw [← oc2.len, ry12.len]
      subst hlc
      have hK14 := hK12.trans (hb14.mono hK12.size)
      have ry14 := ry12.below hb14
      have hG := GetOrdI_any C2 lc2 cc2 ys t w14 oc2.rd (by have := Hd.out; omega) (by omega)
      rw [Hg.out] at hG
      clear hK12 ry12 hb14 oc hcc hcq hcp hcq2 hcp2 hcp3 hcq3
      by_cases he : ge = 0
      · subst he
        obtain ⟨k, hk1, hk2, hkl, hput, hgm⟩ := getO_ok Hg.out rfl
        subst hk1 hk2
        rw [getOI, if_pos rfl] at hG
        have HG := Lib.hid hG
        have Hput := Lib.hid hput
        have Hgm := Lib.hid hgm
        clear hG hput hgm
        have hkl2 : k + 8 ≤ lc2 := by rw [← ry14.len]; exact hkl
        clear hkl
        have hsl : ∀ w, (Instr.slice 23 (.slice B lc2 d) (some (.int .i64 (k : Int))) (some (.int .i64 ((k : Int) + 8))) none).run Try.prog w = .ok (.slice (cutA B k d) 8 (d - k)) w := fun w => by
          have h := cut_lh Try.underlying23 elem_bytes size_u8 B (n := lc2) (cap := d) (k := k) (m := k + 8) (by omega) (by omega) w
          rw [Nat.add_sub_cancel_left] at h
          exact h
        have hcut : ∀ w', Rd w' B lc2 ys → Rd w' (cutA B k d) 8 (ordU gm) := fun w' h => by
          have h2 := h.cut (k := k) (m := k + 8) (by omega) hkl2 hld
          rw [Hput.out, Nat.add_sub_cancel_left] at h2
          exact h2
        have Hcut := Lib.hid hcut
        clear hcut
        go_wp2_with fail
        refine HG.out.mono ?_
        rintro e w15 ⟨rfl, rfl⟩
        clear HG
        go_wp2_with fail
        have hS : Kp w B lc2 ys w14 := ⟨ry14, hK14⟩
        go_region_held3 (fun w' => Kp w B lc2 ys w') (first | assumption | exact hS.drew) (first | (go_at_call 23; refine (OrdI_any (dn gm) _ (dn_i64 Hgm.out)).mono ?_; rintro e w8 ⟨A8, l8, c8, rfl, ho8, hb8⟩; have hS8 := Kp.made (by assumption) hb8; have hc8 := ho8.cap; rw [up_dn] at ho8) | (go_at_call 18; refine (Equal_is _ _ _ _ _ _ (ordU gm) (ordU gm) true (eqB_self _) _ ho8.rd (Hcut.out _ hS8.1) (by omega) (by unfold maxLen; omega)).mono ?_; rintro e w9 ⟨rfl, q9, rfl⟩; have hS9 := hS8.drewN q9))
        go_wp2
        go_ret
        refine ⟨rfl, Kp.bel (B := B) (n := lc2) (ys := ys) ?_⟩
        assumption
      · obtain ⟨rfl, rfl⟩ := getO_err Hg.out he
        rw [getOI, if_neg he] at hG
        have HG := Lib.hid hG
        clear hG
        have hbne : ((ge : Int) != 0) = true := by simpa using he
        have He := Lib.hid he
        clear he
        go_wp2_with fail
        refine HG.out.mono ?_
        rintro e w15 ⟨rfl, rfl⟩
        clear HG
        go_wp2
        go_ret
        exact ⟨rfl, hK14⟩

theorem codecOrders_row (n m : Nat) (B : Option Addr) (l d : Nat) (ys : List UInt8) (w : World) (hn : n < B64) (hm : m < B64) (hy : Rd w B l ys) (hld : l ≤ d) (hd : d ≤ 140737488351232) :
    Calls Try.prog 4 #[.int .u64 n, .int .u64 m, .slice B l d] w (RetT w true) :=
  codecOrders_any n m B l d ys w hn hm hy hld hd

end Go.Proofs.Ytbmaaofomgkllaa
