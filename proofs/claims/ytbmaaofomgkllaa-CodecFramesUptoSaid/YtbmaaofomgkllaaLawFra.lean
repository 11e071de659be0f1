/- CodecFrames: for every list of lists and every list of bytes that hold at most 1048576 values each the call returns true, and what was there stands. -/
import Derived.Test.YtbmaaofomgkllaaAwake
import Derived.Test.YtbmaaofomgkllaaParts
namespace Go.Proofs.Ytbmaaofomgkllaa
open Go Go.RowKit

theorem partsF_len {xs : List UInt8} : ∀ (f p : Nat) (acc : List (List UInt8)), (∀ x ∈ acc, (x : List UInt8).length ≤ xs.length) → ∀ x ∈ (partsF xs f p acc).1, (x : List UInt8).length ≤ xs.length
  | 0, p, acc, h => by
    rw [partsF]
    split
    · simp
    · exact h
  | f + 1, p, acc, h => by
    rw [partsF]
    split
    · split
      · simp
      · split
        · simp
        · refine partsF_len f _ _ fun x hx => ?_
          rcases List.mem_append.1 hx with e | e
          · exact h x e
          · rw [List.mem_singleton.1 e, List.length_take, List.length_drop]
            omega
    · exact h
theorem parts_len (xs : List UInt8) : ∀ x ∈ (parts xs).1, (x : List UInt8).length ≤ xs.length := partsF_len _ _ _ (by simp)

theorem partsF_count {xs : List UInt8} : ∀ (f p : Nat) (acc : List (List UInt8)), (partsF xs f p acc).1.length ≤ acc.length + f
  | 0, p, acc => by
    rw [partsF]
    split <;> simp
  | f + 1, p, acc => by
    rw [partsF]
    split
    · split
      · simp
      · split
        · simp
        · have := partsF_count (xs := xs) f ((getU xs p).2.1.toNat + (getU xs p).1) (acc ++ [(xs.drop (getU xs p).2.1.toNat).take (getU xs p).1])
          simp only [List.length_append, List.length_cons, List.length_nil] at this
          omega
    · simp only
      omega
theorem parts_count (xs : List UInt8) : (parts xs).1.length ≤ xs.length := by
  have := partsF_count (xs := xs) xs.length 0 []
  simpa [parts] using this

theorem mem_tot {xss : List (List UInt8)} {x : List UInt8} (h : x ∈ xss) : x.length + 1 ≤ tot xss := by
  obtain ⟨i, hi⟩ := List.getElem?_of_mem h
  exact tot_at hi

set_option maxRecDepth 100000 in
set_option maxHeartbeats 4000000 in
theorem codecFrames_row (A : Option Addr) (la ca : Nat) (xss : List (List UInt8)) (B : Option Addr) (lb cb : Nat) (ys : List UInt8) (w : World)
    (hx : RdL w A la xss) (hxt : tot xss ≤ 1048576) (hy : Rd w B lb ys) (hlb : lb ≤ cb) (hcb : cb ≤ 1048576) :
    Calls Try.prog 7 #[.slice A la ca, .slice B lb cb] w (RetT w true) := by
  have hm : 16777216 ≤ maxLen := by unfold maxLen; omega
  have Hm := Lib.hid hm
  clear hm
  have hla : la ≤ 1048576 := by have := tot_len xss; have := hx.len; omega
  go_enter Try.func7, Try.ntmps7
  go_wp2_with fail
  refine (awake_any _).mono ?_
  rintro e w1 ⟨rfl, hb1⟩
  have hx1 := hx.below hb1
  have hy1 := hy.below hb1
  go_wp2_with fail
  refine (Copies_any A la ca xss _ hx1 hxt).mono ?_
  rintro e w2 ⟨A2, l2, c2, rfl, o2, hb2⟩
  obtain rfl : l2 = la := by rw [← o2.len, hx1.len]
  go_wp2_with fail
  refine (Frame_any A2 l2 c2 xss _ o2.rd hxt).mono ?_
  rintro e w3 ⟨F, lf, cf, rfl, of, hb3⟩
  have hlf := of.len
  have hlf2 := frameB_len xss hxt
  have hcf := of.cap
  have hK3 := (hb1.trans (hb2.mono hb1.size)).trans (hb3.mono (by have := hb1.size; have := hb2.size; omega))
  have hx3 := (hx1.below hb2).below hb3
  have hy3 := (hy1.below hb2).below hb3
  clear hb1 hb2 hb3 hx1 hy1 hx hy o2
  have hp := parts_frame xss (fun x h => by have := mem_tot h; unfold B64; omega)
  have hP := Parts_any F lf cf (frameB xss) w3 of.rd (by omega) hcf.1 (fun h => by subst h; exact of.nil_cap)
  rw [hp] at hP
  have HP := Lib.hid hP
  clear hP hp
  go_wp2_with fail
  refine HP.out.mono ?_
  clear HP
  rintro e w4 ⟨Q, lq, cq, rfl, oq, hb4⟩
  obtain rfl : lq = l2 := by rw [← oq.len, hx3.len]
  go_wp2_with fail
  refine (refFrame_any A lq ca xss _ (hx3.below hb4) hxt).mono ?_
  rintro e w5 ⟨R, lr, cr, rfl, or, hb5⟩
  have hcr := or.cap
  go_wp2_with fail
  refine (Equal_is _ _ _ _ _ _ (frameB xss) (frameB xss) true (eqB_self _) _ ((of.rd.below hb4).below hb5) or.rd (by omega) (by omega)).mono ?_
  rintro e w6 ⟨rfl, q6, rfl⟩
  go_wp2_with fail
  refine (Equals_any Q A lq cq ca xss _ ((oq.rd.below hb5).drewN q6) (((hx3.below hb4).below hb5).drewN q6) (by omega) (fun x h => by have := mem_tot h; have := Hm.out; omega)).mono ?_
  rintro e w7 ⟨rfl, q7, rfl⟩
  have hK7 := below_drewN (below_drewN ((hK3.trans (hb4.mono hK3.size)).trans (hb5.mono (by have := hK3.size; have := hb4.size; omega))) q6) q7
  have hy7 := (((hy3.below hb4).below hb5).drewN q6).drewN q7
  obtain ⟨wa, hwa⟩ : ∃ wa, wa = (w5.drewN q6).drewN q7 := ⟨_, rfl⟩
  rw [← hwa] at hK7 hy7 ⊢
  clear hwa hK3 hx3 hy3 hb4 hb5 of oq or hcf hcr hlf hlf2
  go_wp2_with fail
  refine (Copy_any B lb cb ys _ hy7 (by omega)).mono ?_
  rintro e w8 ⟨B2, l8, c8, rfl, o8, hb8⟩
  obtain rfl : l8 = lb := by rw [← o8.len, hy7.len]
  have h8c := o8.cap
  have hP := Parts_any B2 l8 c8 ys w8 o8.rd (by omega) h8c.1 (fun h => by subst h; exact o8.nil_cap)
  have hlen := parts_len ys
  have hcnt := parts_count ys
  rcases hg : parts ys with ⟨v, er⟩
  rw [hg] at hP hlen hcnt
  rw [hy7.len] at hcnt
  have HP := Lib.hid hP
  have Hg := Lib.hid hg
  have Hlen := Lib.hid hlen
  clear hP hg hlen
  have hK8 := hK7.trans (hb8.mono hK7.size)
  have hy8 := hy7.below hb8
  clear hK7 hy7 hb8 o8 h8c
  go_wp2_with fail
  refine HP.out.mono ?_
  clear HP
  rintro e w9 ⟨C, lc, cc, rfl, oc, hb9⟩
  have hy9 := hy8.below hb9
  have hR := refParts_any B l8 cb ys w9 hy9 (by omega) hlb
  rw [Hg.out] at hR
  have HR := Lib.hid hR
  clear hR
  go_wp2_with fail
  refine HR.out.mono ?_
  clear HR
  rintro e w10 ⟨D, ld, cd, rfl, od, hb10⟩
  have hK10 := (hK8.trans (hb9.mono hK8.size)).trans (hb10.mono (by have := hK8.size; have := hb9.size; omega))
  obtain rfl : ld = lc := by rw [← od.len, oc.len]
  have hlc : ld ≤ 140737488355328 := by
    have := oc.len
    omega
  go_wp2_with fail
  refine (Equals_any C D ld cc cd v _ (oc.rd.below hb10) od.rd hlc (fun x h => by have := Hlen.out x h; rw [hy8.len] at this; have := Hm.out; omega)).mono ?_
  rintro e w11 ⟨rfl, q11, rfl⟩
  clear hK8 hy8 hy9 hb9 hb10 oc od
  go_wp2
  go_ret
  exact ⟨rfl, below_drewN hK10 q11⟩

end Go.Proofs.Ytbmaaofomgkllaa
