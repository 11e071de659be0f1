/- CodecTexts: for every two lists of bytes of at most 1048576 each and every place the call returns true, and what was there stands. -/
import Derived.Test.YtbmaaofomgkllaaAwake
import Derived.Test.YtbmaaofomgkllaaGetT
import Derived.Test.YtbmaaofomgkllaaCmp
namespace Go.Proofs.Ytbmaaofomgkllaa
open Go Go.RowKit

set_option maxRecDepth 100000 in
set_option maxHeartbeats 4000000 in
theorem codecTexts_row (A : Option Addr) (la ca : Nat) (xs : List UInt8) (B : Option Addr) (lb cb : Nat) (ys : List UInt8) (t : Int) (w : World)
    (hx : Rd w A la xs) (hla : la ≤ ca) (hca : ca ≤ 1048576) (hy : Rd w B lb ys) (hlb : lb ≤ cb) (hcb : cb ≤ 1048576) (_ht : (Lit.int .i64 t).wf = true) :
    Calls Try.prog 5 #[.slice A la ca, .slice B lb cb, .int .i64 t] w (RetT w true) := by
  have hm : 4194304 ≤ maxLen := by unfold maxLen; omega
  have Hm := Lib.hid hm
  clear hm
  go_enter Try.func5, Try.ntmps5
  go_wp2_with fail
  refine (awake_any _).mono ?_
  rintro e w1 ⟨rfl, hb1⟩
  have hx1 := hx.below hb1
  have hy1 := hy.below hb1
  go_wp2_with fail
  refine (Copy_any A la ca xs _ hx1 (by omega)).mono ?_
  rintro e w2 ⟨A2, l2, c2, rfl, o2, hb2⟩
  have hl2 : l2 = la := by rw [← o2.len, hx1.len]
  subst hl2
  go_wp2_with fail
  refine (OrdText_any A2 l2 c2 xs _ o2.rd (by omega)).mono ?_
  rintro e w3 ⟨P, lp, cp, rfl, op, hb3⟩
  have hcp := op.cap
  have hlp := op.len
  have hlp2 := ordT_len xs
  rw [hlp, hx.len] at hlp2
  have hg := getT_ordT0 xs
  rw [hlp] at hg
  have hG := GetOrdText_any P lp cp (ordT xs) 0 w3 op.rd (by omega)
  rw [hg] at hG
  have HG := Lib.hid hG
  clear hG hg
  have hK3 := (hb1.trans (hb2.mono hb1.size)).trans (hb3.mono (by have := hb1.size; have := hb2.size; omega))
  have hx3 := (hx1.below hb2).below hb3
  have hy3 := (hy1.below hb2).below hb3
  clear hb1 hb2 hb3 hx1 hy1 hx hy o2 hlp
  go_wp2_with fail
  refine HG.out.mono ?_
  clear HG
  rintro e w4 ⟨Q, lq, cq, rfl, oq, hb4⟩
  have hcq := oq.cap
  go_wp2_with fail
  refine (refOrdText_any A l2 ca xs _ (hx3.below hb4) (by omega)).mono ?_
  rintro e w5 ⟨R, lr, cr, rfl, or, hb5⟩
  have hcr := or.cap
  go_wp2_with fail
  refine (Equal_is _ _ _ _ _ _ (ordT xs) (ordT xs) true (eqB_self _) _ ((op.rd.below hb4).below hb5) or.rd (by omega) (by omega)).mono ?_
  rintro e w6 ⟨rfl, q6, rfl⟩
  go_wp2_with fail
  refine (Equal_is _ _ _ _ _ _ xs xs true (eqB_self _) _ ((oq.rd.below hb5).drewN q6) (((hx3.below hb4).below hb5).drewN q6) (by omega) (by have := Hm.out; omega)).mono ?_
  rintro e w7 ⟨rfl, q7, rfl⟩
  have hK7 := below_drewN (below_drewN ((hK3.trans (hb4.mono hK3.size)).trans (hb5.mono (by have := hK3.size; have := hb4.size; omega))) q6) q7
  have hy7 := (((hy3.below hb4).below hb5).drewN q6).drewN q7
  obtain ⟨wa, hwa⟩ : ∃ wa, wa = (w5.drewN q6).drewN q7 := ⟨_, rfl⟩
  rw [← hwa] at hK7 hy7 ⊢
  clear hwa hK3 hx3 hy3 hb4 hb5 op oq or hcp hcq hcr
  go_wp2_with fail
  refine (Copy_any B lb cb ys _ hy7 (by omega)).mono ?_
  rintro e w8 ⟨B2, l8, c8, rfl, o8, hb8⟩
  have hl8 : l8 = lb := by rw [← o8.len, hy7.len]
  subst hl8
  have hG := GetOrdText_any B2 l8 c8 ys t w8 o8.rd (by omega)
  have hlen := getT_len ys t
  rcases hg : getT ys t with ⟨v, nx, er⟩
  rw [hg] at hG hlen
  have HG := Lib.hid hG
  have Hg := Lib.hid hg
  rw [hy7.len] at hlen
  clear hG hg
  have hK8 := hK7.trans (hb8.mono hK7.size)
  have hy8 := hy7.below hb8
  clear hK7 hy7 hb8 o8
  go_wp2_with fail
  refine HG.out.mono ?_
  clear HG
  rintro e w9 ⟨C, lc, cc, rfl, oc, hb9⟩
  have hy9 := hy8.below hb9
  have hR := refGetOrdText_any B l8 cb ys t w9 hy9 (by omega)
  rw [Hg.out] at hR
  have HR := Lib.hid hR
  clear hR
  have hcc := oc.cap
  go_wp2_with fail
  refine HR.out.mono ?_
  clear HR
  rintro e w10 ⟨D, ld, cd, rfl, od, hb10⟩
  have hcd := od.cap
  have hK10 := (hK8.trans (hb9.mono hK8.size)).trans (hb10.mono (by have := hK8.size; have := hb9.size; omega))
  go_wp2_with fail
  refine (Equal_is _ _ _ _ _ _ v v true (eqB_self _) _ (oc.rd.below hb10) od.rd (by omega) (by omega)).mono ?_
  rintro e w11 ⟨rfl, q11, rfl⟩
  clear hK8 hy8 hy9 hb9 hb10 oc od
  go_wp2
  go_ret
  exact ⟨rfl, below_drewN hK10 q11⟩

end Go.Proofs.Ytbmaaofomgkllaa
