/- CodecTuples: for every two tuples of lists of bytes that hold at most 1048576 values each the call returns true, and what was there stands. -/
import Derived.Test.YtbmaaofomgkllaaAwake
import Derived.Test.YtbmaaofomgkllaaLists
import Derived.Test.YtbmaaofomgkllaaMathL
import Derived.Test.YtbmaaofomgkllaaBcmp
import Derived.Deep.DeepCutAuto
namespace Go.Proofs.Ytbmaaofomgkllaa
open Go Go.RowKit

set_option maxRecDepth 100000 in
set_option maxHeartbeats 4000000 in
theorem codecTuples_row (A : Option Addr) (la ca : Nat) (xss : List (List UInt8)) (B : Option Addr) (lb cb : Nat) (yss : List (List UInt8)) (w : World)
    (hx : RdL w A la xss) (hxt : tot xss ≤ 1048576) (hy : RdL w B lb yss) (hyt : tot yss ≤ 1048576) :
    Calls Try.prog 6 #[.slice A la ca, .slice B lb cb] w (RetT w true) := by
  have hla : la ≤ 1048576 := by have := tot_len xss; have := hx.len; omega
  have hlb : lb ≤ 1048576 := by have := tot_len yss; have := hy.len; omega
  go_enter Try.func6, Try.ntmps6
  go_wp2_with fail
  refine (awake_any _).mono ?_
  rintro e w1 ⟨rfl, hb1⟩
  have hx1 := hx.below hb1
  have hy1 := hy.below hb1
  clear hx hy
  obtain ⟨base, hbase⟩ : ∃ b, b = w1.heap.size := ⟨_, rfl⟩
  have Hw := Lib.hid hbase
  clear hbase
  go_wp2_with fail
  go_loopw [5, 17] (fun v i wr => ∃ (P : Option Addr) (m d k : Nat), v = .slice P m d ∧ i = .int .i64 k ∧ k ≤ la ∧ Own 5 wr base P m d (tupT (xss.take k)) ∧ m ≤ 2 * tot (xss.take k) ∧ Below base w1 wr) (fun _ i _ => la - (intOf i).toNat)
  case atStart => exact ⟨none, 0, 0, 0, rfl, rfl, Nat.zero_le _, Own.nil _ _ _, Nat.zero_le _, Below.refl _ _⟩
  case round =>
    obtain ⟨P, m, d, k, rfl, rfl, hk, op, hm, hb⟩ := hrel
    have hbs := hb.size
    have hxr : RdL wr A la xss := hx1.below (by rw [← Hw.out]; exact hb)
    by_cases hlt : k < la
    · obtain ⟨b, off, rfl, _⟩ := hxr.pos (by omega)
      obtain ⟨x, X, nx, cx, hk1, hc, rx, hxc, _⟩ := hxr.at_ k hlt
      have hta := tot_at hk1
      have htk := tot_take xss k
      have S := Lib.hid (tupT_snoc hk1)
      have T := Lib.hid (tot_snoc hk1)
      have hxl := rx.len
      have hol := ordT_len x
      clear hk1
      go_wp2_with fail
      refine (Copy_any X nx cx x _ rx (by omega)).mono ?_
      rintro e w2 ⟨Y, ny, cy, rfl, oy, hb2⟩
      have hny := oy.len
      go_wp2_with fail
      refine (OrdText_any Y ny cy x _ oy.rd (by omega)).mono ?_
      rintro e w3 ⟨Z, nz, cz, rfl, oz, hb3⟩
      have hnz := oz.len
      have hs2 := hb2.size
      have hs3 := hb3.size
      have hbase : base ≤ wr.heap.size := by have := Hw.out; omega
      have hb13 := (hb.trans (hb2.mono hbase)).trans (hb3.mono (by omega))
      go_wp2_with (at_builtin; refine wpList_app _ rfl _ _ 23 rfl base 5 Try.underlying23 info_u8 P m d (tupT (xss.take k)) rfl ((op.below hb2).below hb3) Z nz cz (ordT x) rfl oz.rd ?_ ?_ ?_)
      · omega
      · omega
      intro P2 d2 w4 op2 hb4
      rw [← S.out] at op2
      go_wp2
      go_roundw
      case rel => exact ⟨P2, m + nz, d2, k + 1, rfl, by go_num, by omega, op2, by rw [T.out]; omega, hb13.trans hb4⟩
      case measure => simp [intOf]; omega
    · obtain rfl : k = la := by omega
      rw [List.take_of_length_le (by rw [hx1.len]; omega)] at op hm
      have hyr : RdL wr B lb yss := hy1.below (by rw [← Hw.out]; exact hb)
      have hbw : Below w.heap.size w wr := hb1.trans (hb.mono (by have := hb1.size; have := Hw.out; omega))
      clear hx1 hy1 hb1 hb hbs Hw
      obtain ⟨wp, hwp⟩ : ∃ wp, wp = wr := ⟨_, rfl⟩
      rw [← hwp] at op hxr hyr hbw ⊢
      clear hwp hlt hk
      have rp := op.rd
      clear op
      obtain ⟨base2, hbase2⟩ : ∃ b, b = wp.heap.size := ⟨_, rfl⟩
      have Hw := Lib.hid hbase2
      clear hbase2
      go_wp2_with fail
      go_loopw [6, 29] (fun v i wr => ∃ (Q : Option Addr) (m2 d2 k : Nat), v = .slice Q m2 d2 ∧ i = .int .i64 k ∧ k ≤ lb ∧ Own 5 wr base2 Q m2 d2 (tupT (yss.take k)) ∧ m2 ≤ 2 * tot (yss.take k) ∧ Below base2 wp wr) (fun _ i _ => lb - (intOf i).toNat)
      case atStart => exact ⟨none, 0, 0, 0, rfl, rfl, Nat.zero_le _, Own.nil _ _ _, Nat.zero_le _, Below.refl _ _⟩
      case round =>
        obtain ⟨Q, m2, d2, k2, rfl, rfl, hk, oq, hm2, hb⟩ := hrel
        have hbs := hb.size
        have hyq : RdL wr B lb yss := hyr.below (by rw [← Hw.out]; exact hb)
        by_cases hlt : k2 < lb
        · obtain ⟨b, off, rfl, _⟩ := hyq.pos (by omega)
          obtain ⟨x, X, nx, cx, hk1, hc, rx, hxc, _⟩ := hyq.at_ k2 hlt
          have hta := tot_at hk1
          have htk := tot_take yss k2
          have S := Lib.hid (tupT_snoc hk1)
          have T := Lib.hid (tot_snoc hk1)
          have hxl := rx.len
          have hol := ordT_len x
          clear hk1
          go_wp2_with fail
          refine (Copy_any X nx cx x _ rx (by omega)).mono ?_
          rintro e w2 ⟨Y, ny, cy, rfl, oy, hb2⟩
          have hny := oy.len
          go_wp2_with fail
          refine (OrdText_any Y ny cy x _ oy.rd (by omega)).mono ?_
          rintro e w3 ⟨Z, nz, cz, rfl, oz, hb3⟩
          have hnz := oz.len
          have hs2 := hb2.size
          have hs3 := hb3.size
          have hbase : base2 ≤ wr.heap.size := by have := Hw.out; omega
          have hb13 := (hb.trans (hb2.mono hbase)).trans (hb3.mono (by omega))
          go_wp2_with (at_builtin; refine wpList_app _ rfl _ _ 23 rfl base2 5 Try.underlying23 info_u8 Q m2 d2 (tupT (yss.take k2)) rfl ((oq.below hb2).below hb3) Z nz cz (ordT x) rfl oz.rd ?_ ?_ ?_)
          · omega
          · omega
          intro P2 d3 w4 op2 hb4
          rw [← S.out] at op2
          go_wp2
          go_roundw
          case rel => exact ⟨P2, m2 + nz, d3, k2 + 1, rfl, by go_num, by omega, op2, by rw [T.out]; omega, hb13.trans hb4⟩
          case measure => simp [intOf]; omega
        · obtain rfl : k2 = lb := by omega
          rw [List.take_of_length_le (by rw [hyr.len]; omega)] at oq hm2
          have hb' : Below wp.heap.size wp wr := by rw [← Hw.out]; exact hb
          have hxq : RdL wr A k xss := hxr.below hb'
          have rp2 := rp.below hb'
          have rq := oq.rd
          have hbw2 := hbw.trans (hb'.mono hbw.size)
          have hcm := Lib.hid (cmpB_tupT xss yss)
          clear hxr hyr hb hb' hbs Hw hbw oq rp hlt hk
          obtain ⟨wq, hwq⟩ : ∃ wq, wq = wr := ⟨_, rfl⟩
          rw [← hwq] at rp2 rq hxq hyq hbw2 ⊢
          clear hwq
          go_wp2_with fail
          go_loopw [11, 12] (fun v i wr => ∃ (z : Int) (j q : Nat), v = .int .i64 z ∧ i = .int .i64 j ∧ j ≤ k ∧ j ≤ k2 ∧ ((z = 0 ∧ tupC xss yss = tupC (xss.drop j) (yss.drop j)) ∨ (z ≠ 0 ∧ tupC xss yss = z)) ∧ wr = wq.drewN q) (fun _ i _ => k - (intOf i).toNat)
          case atStart => exact ⟨0, 0, 0, rfl, rfl, Nat.zero_le _, Nat.zero_le _, .inl ⟨rfl, rfl⟩, rfl⟩
          case round =>
            obtain ⟨z, j, q, rfl, rfl, hj1, hj2, hz, rfl⟩ := hrel
            by_cases hz0 : z = 0
            · subst hz0
              have R : Hid (tupC xss yss = tupC (xss.drop j) (yss.drop j)) := by
                rcases hz with ⟨_, h⟩ | ⟨h, _⟩
                · exact Lib.hid h
                · exact absurd rfl h
              clear hz
              by_cases hlt : j < k ∧ j < k2
              · obtain ⟨h1, h2⟩ := hlt
                obtain ⟨b, off, rfl, _⟩ := hxq.pos (by omega)
                obtain ⟨b2, off2, rfl, _⟩ := hyq.pos (by omega)
                obtain ⟨x, X, nx, cx, hkx, hcx, rx, hxc, _⟩ := hxq.at_ j h1
                obtain ⟨y, Y, ny, cy, hky, hcy, ry, hyc, _⟩ := hyq.at_ j h2
                have hnx := tot_at hkx
                have hny := tot_at hky
                have hxl := rx.len
                have hyl := ry.len
                have R2 : Hid (tupC xss yss = if cmpB x y = 0 then tupC (xss.drop (j + 1)) (yss.drop (j + 1)) else cmpB x y) := by
                  rw [R.out, drop_consL hkx, drop_consL hky]
                  exact Lib.hid tupC_cons
                have hd1 : decide (j < k) = true := by simpa using h1
                have hd2 : decide (j < k2) = true := by simpa using h2
                clear hkx hky R
                have hC : ∀ W : World, Rd W X nx x → Rd W Y ny y → Calls Try.prog 26 #[.slice X nx cx, .slice Y ny cy] W (RetZ W (cmpB x y)) := fun W g1 g2 =>
                  refCmp_any X Y nx ny cx cy x y W g1 g2 (by unfold maxLen; omega) (by unfold maxLen; omega)
                have HC := Lib.hid hC
                have hcx' : (wq.drewN q).cell? ⟨b, off + j, none⟩ = some (.slice X nx cx) := hcx
                have hcy' : (wq.drewN q).cell? ⟨b2, off2 + j, none⟩ = some (.slice Y ny cy) := hcy
                have rx' := rx.drewN q
                have ry' := ry.drewN q
                obtain ⟨wv, hwv⟩ : ∃ wv, wv = wq.drewN q := ⟨_, rfl⟩
                rw [← hwv] at hcx' hcy' rx' ry' ⊢
                have Hwv := Lib.hid hwv
                clear hC hcx hcy rx ry hwv
                go_wp2_with fail
                go_quiet ((go_at_call 26; exact Calls.quiet_of (HC.out _ (rx'.drewN _) (ry'.drewN _))))
                rw [Hwv.out, World.drewN_drewN]
                go_wp2
                go_roundw
                case rel =>
                  refine ⟨cmpB x y, j + 1, _, rfl, by go_num, by omega, by omega, ?_, rfl⟩
                  by_cases hc0 : cmpB x y = 0
                  · exact .inl ⟨hc0, by rw [R2.out, if_pos hc0]⟩
                  · exact .inr ⟨hc0, by rw [R2.out, if_neg hc0]⟩
                case measure => simp [intOf]; omega
              · by_cases hjk : j < k
                · have hjk2 : j = k2 := by omega
                  have W : Hid (tupC xss yss = 1) := by
                    rw [R.out, List.drop_of_length_le (l := yss) (by rw [hyq.len]; omega)]
                    obtain ⟨x, hx1⟩ : ∃ x, xss[j]? = some x := ⟨_, List.getElem?_eq_getElem (by rw [hxq.len]; exact hjk)⟩
                    rw [drop_consL hx1]
                    exact Lib.hid rfl
                  have d1 : decide (j < k) = true := by simpa using hjk
                  have d2 : decide (j < k2) = false := by simp; omega
                  have d3 : decide (k < k2) = false := by simp; omega
                  have d4 : decide (k2 < k) = true := by simp; omega
                  clear hlt hjk hjk2 R
                  go_wp2_with fail
                  refine (Cmp_is _ _ _ _ _ _ (tupT xss) (tupT yss) (1) (hcm.out.trans W.out) _ (rp2.drewN q) (rq.drewN q)).mono ?_
                  rintro e w11 ⟨rfl, rfl⟩
                  go_wp2_with fail
                  refine (Cmp_is _ _ _ _ _ _ (tupT yss) (tupT xss) (-1) (by rw [cmpB_swap, hcm.out, W.out]; try rfl) _ (rq.drewN q) (rp2.drewN q)).mono ?_
                  rintro e w12 ⟨rfl, rfl⟩
                  go_wp2
                  go_ret
                  exact ⟨rfl, below_drewN hbw2 q⟩
                · by_cases hkk : k < k2
                  · have W : Hid (tupC xss yss = -1) := by
                      rw [R.out, List.drop_of_length_le (l := xss) (by rw [hxq.len]; omega)]
                      obtain ⟨y, hy1⟩ : ∃ y, yss[j]? = some y := ⟨_, List.getElem?_eq_getElem (by rw [hyq.len]; omega)⟩
                      rw [drop_consL hy1]
                      exact Lib.hid rfl
                    have d1 : decide (j < k) = false := by simpa using hjk
                    have d3 : decide (k < k2) = true := by simpa using hkk
                    clear hlt hjk hkk R
                    go_wp2_with fail
                    refine (Cmp_is _ _ _ _ _ _ (tupT xss) (tupT yss) (-1) (hcm.out.trans W.out) _ (rp2.drewN q) (rq.drewN q)).mono ?_
                    rintro e w11 ⟨rfl, rfl⟩
                    go_wp2_with fail
                    refine (Cmp_is _ _ _ _ _ _ (tupT yss) (tupT xss) (1) (by rw [cmpB_swap, hcm.out, W.out]; try rfl) _ (rq.drewN q) (rp2.drewN q)).mono ?_
                    rintro e w12 ⟨rfl, rfl⟩
                    go_wp2
                    go_ret
                    exact ⟨rfl, below_drewN hbw2 q⟩
                  · have W : Hid (tupC xss yss = 0) := by
                      rw [R.out, List.drop_of_length_le (l := xss) (by rw [hxq.len]; omega), List.drop_of_length_le (l := yss) (by rw [hyq.len]; omega)]
                      exact Lib.hid rfl
                    have d1 : decide (j < k) = false := by simpa using hjk
                    have d3 : decide (k < k2) = false := by simpa using hkk
                    have d4 : decide (k2 < k) = false := by simp; omega
                    clear hlt hjk hkk R
                    go_wp2_with fail
                    refine (Cmp_is _ _ _ _ _ _ (tupT xss) (tupT yss) (0) (hcm.out.trans W.out) _ (rp2.drewN q) (rq.drewN q)).mono ?_
                    rintro e w11 ⟨rfl, rfl⟩
                    go_wp2_with fail
                    refine (Cmp_is _ _ _ _ _ _ (tupT yss) (tupT xss) (0) (by rw [cmpB_swap, hcm.out, W.out]; try rfl) _ (rq.drewN q) (rp2.drewN q)).mono ?_
                    rintro e w12 ⟨rfl, rfl⟩
                    go_wp2
                    go_ret
                    exact ⟨rfl, below_drewN hbw2 q⟩
            · have W : Hid (tupC xss yss = z) := by
                rcases hz with ⟨h, _⟩ | ⟨_, h⟩
                · exact absurd h hz0
                · exact Lib.hid h
              clear hz
              have hzr : z = -1 ∨ z = 1 := by
                have h := cmpB_range (tupT xss) (tupT yss)
                rw [hcm.out, W.out] at h
                omega
              clear hz0
              rcases hzr with rfl | rfl
              · have d0 : True := trivial
                go_wp2_with fail
                refine (Cmp_is _ _ _ _ _ _ (tupT xss) (tupT yss) (-1) (hcm.out.trans W.out) _ (rp2.drewN q) (rq.drewN q)).mono ?_
                rintro e w11 ⟨rfl, rfl⟩
                go_wp2_with fail
                refine (Cmp_is _ _ _ _ _ _ (tupT yss) (tupT xss) (1) (by rw [cmpB_swap, hcm.out, W.out]; try rfl) _ (rq.drewN q) (rp2.drewN q)).mono ?_
                rintro e w12 ⟨rfl, rfl⟩
                go_wp2
                go_ret
                exact ⟨rfl, below_drewN hbw2 q⟩
              · have d0 : True := trivial
                go_wp2_with fail
                refine (Cmp_is _ _ _ _ _ _ (tupT xss) (tupT yss) (1) (hcm.out.trans W.out) _ (rp2.drewN q) (rq.drewN q)).mono ?_
                rintro e w11 ⟨rfl, rfl⟩
                go_wp2_with fail
                refine (Cmp_is _ _ _ _ _ _ (tupT yss) (tupT xss) (-1) (by rw [cmpB_swap, hcm.out, W.out]; try rfl) _ (rq.drewN q) (rp2.drewN q)).mono ?_
                rintro e w12 ⟨rfl, rfl⟩
                go_wp2
                go_ret
                exact ⟨rfl, below_drewN hbw2 q⟩

end Go.Proofs.Ytbmaaofomgkllaa
