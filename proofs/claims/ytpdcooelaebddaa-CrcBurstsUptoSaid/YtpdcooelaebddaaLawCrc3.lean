/- CrcSeals: for every list of lists, every list of bytes and every place, of at most 1048576 values each, the call returns true, and what was there stands. -/
import Derived.Test.YtpdcooelaebddaaCrcA
import Derived.Deep.RegionHeld3
namespace Go.Proofs.Ytpdcooelaebddaa
open Go Go.RowKit

/-- What is sealed opens to what it was. -/
theorem openG_seal (ps : List UInt8) (h : ps.length ≤ 1048576) : openG (sealB ps) ((0 : Nat) : Int) = (ps, ((8 + ps.length : Nat) : Int), 0) := by
  have hl := sealB_len ps
  have hm : ps.length = numK ((sealB ps).drop 0) 4 := by
    rw [List.drop_zero, sealB, numK_fourB _ _ (by omega)]
  have h1 := openG_whole (a := 0) (n := 8 + ps.length) hl hm (by omega) (by omega)
  rw [h1, Nat.zero_add, List.take_of_length_le (by omega), List.drop_zero]
  have h2 : (sealB ps).drop (0 + 8) = ps := by
    unfold sealB
    rw [← List.append_assoc]
    exact List.drop_left' (by simp [fourB_len])
  rw [Nat.zero_add] at h2
  rw [h2, eqB_self, if_pos rfl]

theorem openG_len (xs : List UInt8) (z : Int) : (openG xs z).1.length ≤ xs.length := by
  unfold openG
  split
  · simp
  · split
    · simp
    · split
      · simp
      · split
        · simp
        · split
          · simp only [List.length_drop, List.length_take]; omega
          · simp

set_option maxRecDepth 100000 in
set_option maxHeartbeats 8000000 in
theorem crcSeals_row (A : Option Addr) (la ca : Nat) (xss : List (List UInt8)) (B : Option Addr) (lb cb : Nat) (ys : List UInt8) (z : Int) (w : World)
    (hx : RdL w A la xss) (hxt : tot xss ≤ 1048576) (hy : Rd w B lb ys) (hlb : lb ≤ cb) (hcb : cb ≤ 1048576) (hz : (Lit.int .i64 z).wf = true) :
    Calls Try.prog 4 #[.slice A la ca, .slice B lb cb, .int .i64 z] w (RetT w true) := by
  have hz : I64 z := by
    have : -9223372036854775808 ≤ z ∧ z ≤ 9223372036854775807 := by simpa [Lit.wf, IntKind.min, IntKind.max, IntKind.signed, IntKind.bits] using hz
    exact this
  have hM : 1099511627776 ≤ maxLen := by unfold maxLen; omega
  have HM := Lib.hid hM
  have ht1 : tot xss ≤ 268435456 := by omega
  have ht2 : tot xss ≤ 1099511627776 := by omega
  have hfl := flat_len xss
  obtain ⟨ps, hps⟩ : ∃ ps, ps = xss.flatten := ⟨_, rfl⟩
  rw [← hps] at hfl
  have hpl : ps.length ≤ 1048576 := by omega
  have hsg : sealG ps = (sealB ps, 0) := sealG_ok rfl (by omega)
  obtain ⟨sl, hsl⟩ : ∃ sl, sl = sealB ps := ⟨_, rfl⟩
  have hsll : sl.length = 8 + ps.length := by rw [hsl, sealB_len]
  have hog := openG_seal ps hpl
  rw [← hsl] at hog hsg
  obtain ⟨np, hnp⟩ : ∃ np, np = ps.length := ⟨_, rfl⟩
  rw [← hnp] at hsll hpl hfl hog
  have HPS := Lib.hid hps
  have HSG := Lib.hid hsg
  have HOG := Lib.hid hog
  have HSLL := Lib.hid hsll
  have HNP := Lib.hid hnp
  clear hM hps hsg hsl hog hsll hnp hfl
  go_enter Try.func4, Try.ntmps4
  go_wp2_with fail
  refine (awake3_any _).mono ?_
  rintro e w1 ⟨rfl, k1⟩
  have a1 := hx.below k1
  have b1 := hy.below k1
  go_wp2_with fail
  refine (Copies_any A la ca xss _ a1 ht1).mono ?_
  rintro e w2 ⟨C, lc, cc, rfl, oc, hb2⟩
  have k2 := k1.trans (hb2.mono k1.size)
  have a2 := a1.below hb2
  have b2 := b1.below hb2
  clear k1 a1 b1 hb2
  have hS := Seal_any C lc cc xss w2 oc.rd ht1
  rw [← HPS.out, HSG.out] at hS
  have HS := Lib.hid hS
  clear hS oc
  go_wp2_with fail
  refine HS.out.mono ?_
  clear HS
  rintro e w3 ⟨S, sn, sc, rfl, os0, hb3⟩
  have os : Own 5 w3 w2.heap.size S sn sc sl := os0
  obtain rfl : sn = 8 + np := by rw [← os.len, HSLL.out]
  have k3 := k2.trans (hb3.mono k2.size)
  have a3 := a2.below hb3
  have b3 := b2.below hb3
  have hsc := os.cap
  have hsnil : S = none → sc = 0 := fun h => by have := os.nil_of (by rw [h]; rfl); exact this.2.2
  have HSN := Lib.hid hsnil
  have rs3 := os.rd
  clear k2 a2 b2 hb3 os0 os hsnil
  go_wp2_with fail
  refine (join3_any A la ca xss _ a3 ht2).mono ?_
  rw [← HPS.out]
  rintro e w4 ⟨J, jn, jc, rfl, oj, hb4⟩
  obtain rfl : jn = np := by rw [← oj.len, HNP.out]
  have k4 := k3.trans (hb4.mono k3.size)
  have a4 := a3.below hb4
  have b4 := b3.below hb4
  have rs4 := rs3.below hb4
  clear k3 a3 b3 rs3 hb4
  have hF := refSeal_any J jn jc ps w4 oj.rd (by omega)
  rw [HSG.out] at hF
  have HF := Lib.hid hF
  clear hF oj
  go_wp2_with fail
  refine HF.out.mono ?_
  clear HF
  rintro e w5 ⟨U, un, uc, rfl, ou0, hb5⟩
  have ou : Own 5 w5 w4.heap.size U un uc sl := ou0
  obtain rfl : un = 8 + jn := by rw [← ou.len, HSLL.out]
  have k5 := k4.trans (hb5.mono k4.size)
  have a5 := a4.below hb5
  have b5 := b4.below hb5
  have rs5 := rs4.below hb5
  clear k4 a4 b4 rs4 hb5 ou0
  go_wp2_with fail
  refine (Equal_is _ _ _ _ _ _ sl sl true (eqB_self _) _ rs5 ou.rd (by have := HM.out; omega) (by have := HM.out; omega)).mono ?_
  rintro e w6 ⟨rfl, q6, hw6⟩
  have k6 : Below w.heap.size w w6 := by rw [hw6]; exact below_drewN k5 q6
  have a6 : RdL w6 A la xss := by rw [hw6]; exact a5.drewN q6
  have b6 : Rd w6 B lb ys := by rw [hw6]; exact b5.drewN q6
  have rs6 : Rd w6 S (8 + jn) sl := by rw [hw6]; exact rs5.drewN q6
  clear hw6 k5 a5 b5 rs5 ou
  have hO := Open_any S (8 + jn) sc ((0 : Nat) : Int) sl w6 rs6 (by omega) hsc.1 HSN.out (by unfold I64; omega)
  rw [HOG.out] at hO
  have HO := Lib.hid hO
  clear hO
  go_wp2_with fail
  refine HO.out.mono ?_
  clear HO
  rintro e w7 ⟨V, vn, vc, rfl, ov0, hb7⟩
  have ov : Own 5 w7 w6.heap.size V vn vc ps := ov0
  obtain rfl : vn = jn := by rw [← ov.len, HNP.out]
  have k7 := k6.trans (hb7.mono k6.size)
  have a7 := a6.below hb7
  have b7 := b6.below hb7
  have e1 : (((8 + vn : Nat) : Int) != (8 : Int) + (vn : Int)) = false := by simp
  clear k6 a6 b6 rs6 hb7 ov0
  go_wp2_with fail
  refine (join3_any A la ca xss _ a7 ht2).mono ?_
  rw [← HPS.out]
  rintro e w8 ⟨J2, jn2, jc2, rfl, oj2, hb8⟩
  obtain rfl : jn2 = vn := by rw [← oj2.len, HNP.out]
  have k8 := k7.trans (hb8.mono k7.size)
  have b8 := b7.below hb8
  have rv8 := ov.rd.below hb8
  clear k7 a7 b7 hb8 ov
  go_wp2_with fail
  refine (Equal_is _ _ _ _ _ _ ps ps true (eqB_self _) _ rv8 oj2.rd (by have := HM.out; omega) (by have := HM.out; omega)).mono ?_
  rintro e w9 ⟨rfl, q9, hw9⟩
  have k9 : Below w.heap.size w w9 := by rw [hw9]; exact below_drewN k8 q9
  have b9 : Rd w9 B lb ys := by rw [hw9]; exact b8.drewN q9
  clear hw9 k8 b8 rv8 oj2
  go_wp2_with fail
  refine (Copy_any B lb cb ys _ b9 (by omega)).mono ?_
  rintro e w10 ⟨Y, yn, yc, rfl, oy, hb10⟩
  obtain rfl : yn = lb := by rw [← oy.len, b9.len]
  have k10 := k9.trans (hb10.mono k9.size)
  have b10 := b9.below hb10
  have hyc := oy.cap
  have hynil : Y = none → yc = 0 := fun h => by have := oy.nil_of (by rw [h]; rfl); exact this.2.2
  have hO := Open_any Y yn yc z ys w10 oy.rd (by omega) hyc.1 hynil hz
  have hlo := openG_len ys z
  rcases hg : openG ys z with ⟨ob, onx, oe⟩
  rw [hg] at hO hlo
  have HO := Lib.hid hO
  have HG := Lib.hid hg
  have HYL := Lib.hid b10.len
  clear k9 b9 hb10 oy hO hg hynil
  go_wp2_with fail
  refine HO.out.mono ?_
  clear HO
  rintro e w11 ⟨O, on, oc, rfl, oo, hb11⟩
  have k11 := k10.trans (hb11.mono k10.size)
  have b11 := b10.below hb11
  have hR := refOpen_any B yn cb z ys w11 b11 (by omega) hlb hz
  rw [HG.out] at hR
  have HR := Lib.hid hR
  clear k10 b10 hb11 hR
  go_wp2_with fail
  refine HR.out.mono ?_
  clear HR
  rintro e w12 ⟨O2, on2, oc2, rfl, oo2, hb12⟩
  have k12 := k11.trans (hb12.mono k11.size)
  have ro := oo.rd.below hb12
  have l1 := oo.len
  have l2 := oo2.len
  have hon : on ≤ 1048576 ∧ on2 ≤ 1048576 := by
    have := HYL.out
    simp only at hlo l1 l2
    omega
  clear k11 b11 hb12 oo l1 l2 hlo
  go_wp2_with fail
  refine (Equal_is _ _ _ _ _ _ ob ob true (eqB_self _) _ ro oo2.rd (by have := HM.out; omega) (by have := HM.out; omega)).mono ?_
  rintro e w13 ⟨rfl, q13, rfl⟩
  go_wp2
  go_ret
  exact ⟨rfl, below_drewN k12 q13⟩
end Go.Proofs.Ytpdcooelaebddaa
