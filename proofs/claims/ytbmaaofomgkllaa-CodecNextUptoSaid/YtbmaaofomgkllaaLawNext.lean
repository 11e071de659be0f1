/- CodecNext: for every three lists of bytes, each at most 2^46 long, the call returns true, and what was there stands. -/
import Derived.Test.YtbmaaofomgkllaaAwake
import Derived.Test.YtbmaaofomgkllaaNext
import Derived.Test.YtbmaaofomgkllaaBcmp
import Derived.Deep.DeepCutAuto
namespace Go.Proofs.Ytbmaaofomgkllaa
open Go Go.RowKit

theorem nextB_ex : nextB [1, 255] = [2] := by decide +kernel
theorem nextB_len (xs : List UInt8) : (nextB xs).length ≤ xs.length := nextAt_len xs xs.length

set_option maxRecDepth 100000 in
set_option maxHeartbeats 4000000 in
theorem codecNext_any (A B C : Option Addr) (la lb lc ca cb cc : Nat) (xs ys zs : List UInt8) (w : World) (hx : Rd w A la xs) (hy : Rd w B lb ys) (hz : Rd w C lc zs)
    (hla : la ≤ ca) (_hlb : lb ≤ cb) (hlc : lc ≤ cc) (hca : ca ≤ 1048576) (hcb : lb ≤ 1048576) (_hcc : cc ≤ 1048576) :
    Calls Try.prog 8 #[.slice A la ca, .slice B lb cb, .slice C lc cc] w (RetT w true) := by
  have hm : 1048576 ≤ maxLen := by unfold maxLen; omega
  have Hm := Lib.hid hm
  clear hm
  go_enter Try.func8, Try.ntmps8
  go_wp2_with fail
  refine (awake_any _).mono ?_
  rintro e w1 ⟨rfl, hb1⟩
  go_wp2_with fail
  refine (Next_any _ 2 2 [1, 255] _ (Rd.lit _ _ 2 [1, 255] rfl _ rfl) (by omega) (by omega) (fun h => by cases h)).mono ?_
  rintro e w2 ⟨D, ld, cd, rfl, od, hb2⟩
  rw [nextB_ex] at od
  have hcd := od.cap
  go_wp2_with fail
  refine (Equal_is _ _ _ _ _ _ [2] [2] true (eqB_self _) _ (od.rd.alloc _) (Rd.lit _ _ 1 [2] rfl _ rfl) (by omega) (by have := Hm.out; omega)).mono ?_
  rintro e w3 ⟨rfl, q3, rfl⟩
  have hK3 : Below w.heap.size w ((w2.alloc (.cells #[cv 2] 5)).drewN q3) := by
    have h2 := (hb1.alloc hb1.size (.cells (([1, 255] : List UInt8).map cv).toArray 5)).trans (hb2.mono (by have := hb1.size; simp; omega))
    exact below_drewN (h2.alloc h2.size _) q3
  have hx3 := hx.below hK3
  have hy3 := hy.below hK3
  have hz3 := hz.below hK3
  clear hx hy hz hb1 hb2 od hcd
  go_wp2_with fail
  refine (Copy_any A la ca xs _ hx3 (by omega)).mono ?_
  rintro e w4 ⟨A4, l4, c4, rfl, o4, hb4⟩
  have hc4 := o4.cap
  have hl4 : l4 = la := by rw [← o4.len, hx3.len]
  subst hl4
  have hn4 : A4 = none → c4 = 0 := fun h => by subst h; exact o4.nil_cap
  go_wp2_with fail
  refine (Next_any A4 l4 c4 xs _ o4.rd (by omega) hc4.1 hn4).mono ?_
  clear hn4
  rintro e w5 ⟨N, ln, cn, rfl, on, hb5⟩
  have hcn := on.cap
  have hln := on.len
  have hln2 := nextB_len xs
  rw [hln, hx3.len] at hln2
  have hK5 := (hK3.trans (hb4.mono hK3.size)).trans (hb5.mono (by have := hK3.size; have := hb4.size; omega))
  have hx5 := (hx3.below hb4).below hb5
  have hy5 := (hy3.below hb4).below hb5
  have hz5 := (hz3.below hb4).below hb5
  clear hK3 hx3 hy3 hz3 hb4 hb5 o4 hc4
  go_wp2_with fail
  refine (refNext_any A l4 ca xs _ hx5 (by omega) (by omega)).mono ?_
  rintro e w6 ⟨M, lm, cm, rfl, om, hb6⟩
  have hcm := om.cap
  go_wp2_with fail
  refine (Equal_is _ _ _ _ _ _ (nextB xs) (nextB xs) true (eqB_self _) _ (on.rd.below hb6) om.rd (by omega) (by omega)).mono ?_
  rintro e w7 ⟨rfl, q7, rfl⟩
  have hK7 := below_drewN (hK5.trans (hb6.mono hK5.size)) q7
  have hx7 := (hx5.below hb6).drewN q7
  have hy7 := (hy5.below hb6).drewN q7
  have hz7 := (hz5.below hb6).drewN q7
  have hn7 := (on.rd.below hb6).drewN q7
  clear hK5 hx5 hy5 hz5 hb6 on om hcm
  go_wp2_with fail
  refine (Copy_any A l4 ca xs _ hx7 (by omega)).mono ?_
  rintro e w8 ⟨P, lp, cp, rfl, op, hb8⟩
  have hcp := op.cap
  have hlp : lp = l4 := by rw [← op.len, hx7.len]
  subst hlp
  have hs8 := hb8.size
  go_wp2_with (at_builtin; refine wpList_app _ rfl _ _ 23 rfl (w6.drewN q7).heap.size 5 Try.underlying23 info_u8 P lp cp xs rfl op B lb cb ys rfl (hy7.below hb8) ?_ ?_ ?_)
  · omega
  · exact hs8
  intro P2 cp2 w9 op9 hb9
  have hb79 : Below (w6.drewN q7).heap.size (w6.drewN q7) w9 := hb8.trans hb9
  have hc9 := op9.cap
  have hK9 := hK7.trans (hb79.mono hK7.size)
  have hx9 := hx7.below hb79
  have hz9 := hz7.below hb79
  have hn9 := hn7.below hb79
  have ho9 := op9.rd
  clear hK7 hx7 hy7 hz7 hn7 op hb8 hb9 hs8 hcp hb79 op9
  by_cases h0 : ln = 0
  · have hb0 : ((ln : Int) == 0) = true := by rw [beq_iff_eq]; omega
    clear h0
    go_wp2
    go_ret
    exact ⟨rfl, hK9⟩
  · have hb0 : ((ln : Int) == 0) = false := by rw [beq_eq_false_iff_ne]; omega
    have hne : nextB xs ≠ [] := fun h => by rw [h] at hln; simp at hln; omega
    obtain ⟨z1, hz1⟩ : ∃ z, cmpB (xs ++ ys) (nextB xs) = z := ⟨_, rfl⟩
    obtain ⟨z2, hz2⟩ : ∃ z, cmpB xs (nextB xs) = z := ⟨_, rfl⟩
    obtain ⟨z3, hz3⟩ : ∃ z, cmpB zs xs = z := ⟨_, rfl⟩
    obtain ⟨z4, hz4⟩ : ∃ z, cmpB zs (nextB xs) = z := ⟨_, rfl⟩
    have h1 : decide (z1 < 0) = true := by rw [← hz1, decide_eq_true_iff]; exact next_above xs ys hne
    have h2 : decide (z2 < 0) = true := by rw [← hz2, decide_eq_true_iff]; exact next_above' xs hne
    have h4 : Hid (¬ z3 < 0 → z4 < 0 → zs.take xs.length = xs ∧ xs.length ≤ zs.length) := Lib.hid (by
      rw [← hz3, ← hz4]
      exact next_between xs zs hne)
    have Z1 := Lib.hid hz1
    have Z2 := Lib.hid hz2
    have Z3 := Lib.hid hz3
    have Z4 := Lib.hid hz4
    have Hln := Lib.hid hln
    clear hz1 hz2 hz3 hz4 h0 hne hln
    have hlx := hx9.len
    have hlz := hz9.len
    go_upto_region 9 with (fail)
    go_cut [9] (fun v w' => ∃ (beg : Bool) (q : Nat), v = .bool beg ∧ (lp ≤ lc → zs.take lp = xs → beg = true) ∧ w' = w9.drewN q)
    case first =>
      by_cases hle : lp ≤ lc
      · have hd : decide (lp ≤ lc) = true := by simpa using hle
        go_wp2_with fail
        refine (Equal_any C A lp lp cc ca (zs.take lp) xs _ (hz9.take hle) hx9 (by have := Hm.out; omega) (by have := Hm.out; omega)).mono ?_
        rintro e w10 ⟨rfl, q10, rfl⟩
        go_wp2_with fail
        go_meet
        exact ⟨_, q10, rfl, fun _ h => by rw [h]; exact eqB_self _, rfl⟩
      · have hd : decide (lp ≤ lc) = false := by simpa using hle
        go_wp2_with fail
        go_meet
        exact ⟨_, 0, rfl, fun h => absurd h hle, by simp [World.drewN]⟩
    case rest =>
      obtain ⟨beg, q, rfl, hbeg, rfl⟩ := hcut
      have Hbeg := Lib.hid hbeg
      clear hbeg
      go_wp2_with fail
      refine (Cmp_is _ _ _ _ _ _ (xs ++ ys) (nextB xs) z1 Z1.out _ (ho9.drewN q) (hn9.drewN q)).mono ?_
      rintro e w11 ⟨rfl, rfl⟩
      go_wp2_with fail
      refine (Cmp_is _ _ _ _ _ _ xs (nextB xs) z2 Z2.out _ (hx9.drewN q) (hn9.drewN q)).mono ?_
      rintro e w12 ⟨rfl, rfl⟩
      go_wp2_with fail
      refine (Cmp_is _ _ _ _ _ _ zs xs z3 Z3.out _ (hz9.drewN q) (hx9.drewN q)).mono ?_
      rintro e w13 ⟨rfl, rfl⟩
      by_cases h3 : z3 < 0
      · have hd3 : decide (z3 < 0) = true := by simpa using h3
        go_wp2
        go_ret
        exact ⟨rfl, below_drewN hK9 q⟩
      · have hd3 : decide (z3 < 0) = false := by simpa using h3
        cases beg with
        | true =>
          go_wp2
          go_ret
          exact ⟨rfl, below_drewN hK9 q⟩
        | false =>
          have h5 : Hid (¬ z4 < 0) := Lib.hid (fun h => by
            obtain ⟨g1, g2⟩ := h4.out (by omega) (by omega)
            rw [hlx] at g1
            have := Hbeg.out (by rw [← hlx, ← hlz]; exact g2) g1
            cases this)
          have hd4 : decide (0 ≤ z4) = true := by have := h5.out; simp; omega
          clear Hbeg h4 hlx hlz
          go_wp2_with fail
          refine (Cmp_is _ _ _ _ _ _ zs (nextB xs) z4 Z4.out _ (hz9.drewN q) (hn9.drewN q)).mono ?_
          rintro e w14 ⟨rfl, rfl⟩
          go_wp2
          go_ret
          exact ⟨rfl, below_drewN hK9 q⟩

theorem codecNext_row (A : Option Addr) (la ca : Nat) (xs : List UInt8) (B : Option Addr) (lb cb : Nat) (ys : List UInt8) (C : Option Addr) (lc cc : Nat) (zs : List UInt8) (w : World)
    (hx : Rd w A la xs) (hla : la ≤ ca) (hca : ca ≤ 1048576) (hy : Rd w B lb ys) (hlb : lb ≤ cb) (hcb : cb ≤ 1048576) (hz : Rd w C lc zs) (hlc : lc ≤ cc) (hcc : cc ≤ 1048576) :
    Calls Try.prog 8 #[.slice A la ca, .slice B lb cb, .slice C lc cc] w (RetT w true) :=
  codecNext_any A B C la lb lc ca cb cc xs ys zs w hx hy hz hla hlb hlc hca (by omega) hcc

end Go.Proofs.Ytbmaaofomgkllaa
