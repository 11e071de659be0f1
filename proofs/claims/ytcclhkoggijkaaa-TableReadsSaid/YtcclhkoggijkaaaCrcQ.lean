/- The reference's Open: the record at a place, in new memory, and the place behind it; or the kind of what is wrong. -/
import Derived.Test.YtcclhkoggijkaaaCrcO
import Derived.Test.YtcclhkoggijkaaaCmp
namespace Go.Proofs.Ytcclhkoggijkaaa
open Go Go.RowKit

set_option maxRecDepth 100000 in
set_option maxHeartbeats 8000000 in
theorem refOpen_any (A : Option Addr) (n c : Nat) (z : Int) (xs : List UInt8) (w : World) (hx : Rd w A n xs) (hn : n ≤ 1099511627776) (hcap : n ≤ c) (hz : I64 z) :
    Calls Try.prog 72 #[.slice A n c, .int .i64 z] w (RetO w.heap.size w (openG xs z)) := by
  have HL := Lib.hid hx.len
  by_cases hneg : z < 0
  · have G := Lib.hid (openG_arg (xs := xs) (.inl hneg))
    go_enter Try.func72, Try.ntmps72
    have h1 : decide (z < 0) = true := by simpa using hneg
    go_wp2
    go_ret3
    exact RetO_none G.out (Below.refl _ _)
  · have h1 : decide (z < 0) = false := by simpa using hneg
    by_cases hbig : (n : Int) < z
    · have G := Lib.hid (openG_arg (xs := xs) (.inr (by rw [HL.out]; exact hbig)))
      have h2 : decide ((n : Int) < z) = true := by simpa using hbig
      go_enter Try.func72, Try.ntmps72
      go_wp2
      go_ret3
      exact RetO_none G.out (Below.refl _ _)
    · obtain ⟨a, rfl⟩ : ∃ a : Nat, z = a := ⟨z.toNat, by omega⟩
      have han : a ≤ n := by omega
      have h2 : decide (n < a) = false := by simp; omega
      clear hbig hneg h1 hz
      go_enter Try.func72, Try.ntmps72
      by_cases hend : n < a + 8
      · have G := Lib.hid (openG_end HL.out han hend)
        have h3 : decide ((n : Int) - (a : Int) < 8) = true := by simp; omega
        go_wp2
        go_ret3
        exact RetO_none G.out (Below.refl _ _)
      · have h3 : decide ((n : Int) - (a : Int) < 8) = false := by simp; omega
        go_wp2
        go_loopw [7, 8] (fun vm vi wr => ∃ m i q : Nat, vm = .int .i64 m ∧ vi = .int .i64 i ∧ i ≤ 4 ∧ m = numK (xs.drop a) i ∧ wr = w.drewN q) (fun _ vi _ => 4 - (intOf vi).toNat)
        case atStart => exact ⟨0, 0, 0, rfl, rfl, by omega, rfl, rfl⟩
        case round =>
          obtain ⟨m, i, q, rfl, rfl, hi, hm, rfl⟩ := hrel
          have hml := numK_lt (xs.drop a) i
          rw [← hm] at hml
          by_cases hi4 : i < 4
          · have hm3 : m < 16777216 := Nat.lt_of_lt_of_le hml (Nat.le_trans (Nat.pow_le_pow_right (by decide) (show i ≤ 3 by omega)) (by decide))
            have Hm := Lib.hid hm
            clear hm hml
            obtain ⟨bf, off, rfl, _⟩ := hx.pos (by omega)
            obtain ⟨y, hy, hc, _⟩ := hx.at_ (a + i) (by omega)
            have Hy := Lib.hid hy
            clear hy
            obtain ⟨W, hW⟩ : ∃ W, W = w.drewN q := ⟨_, rfl⟩
            have c1 : W.cell? ⟨bf, off + (a + i), none⟩ = some (.int .u8 (y.toNat : Int)) := by rw [hW]; exact hc
            rw [← hW]
            have HW := Lib.hid hW
            clear hW hc
            go_wp2
            go_roundw
            case rel => exact ⟨m * 256 + y.toNat, i + 1, q, by go_num, by go_num, by omega, by rw [numK_succ Hy.out, ← Hm.out], HW.out⟩
            case measure => simp [intOf]; omega
          · obtain rfl : i = 4 := by omega
            have hm4 : m < 4294967296 := hml
            have Hm := Lib.hid hm
            clear hm hml
            by_cases hsz : 1048576 < m
            · have G := Lib.hid (openG_size HL.out (by omega) Hm.out hsz)
              have h4 : decide (1048576 < m) = true := by simpa using hsz
              go_wp2
              go_ret3
              exact RetO_none G.out (below_drewN (Below.refl _ _) _)
            · have h4 : decide (1048576 < m) = false := by simpa using hsz
              by_cases hcut : n < a + 8 + m
              · have G := Lib.hid (openG_cut HL.out (by omega) Hm.out hsz hcut)
                have h5 : decide ((n : Int) - (a : Int) - 8 < (m : Int)) = true := by simp; omega
                go_wp2
                go_ret3
                exact RetO_none G.out (below_drewN (Below.refl _ _) _)
              · have G := Lib.hid (openG_whole HL.out Hm.out hsz (by omega))
                have h5 : decide ((n : Int) - (a : Int) - 8 < (m : Int)) = false := by simp; omega
                have hs1 : ∀ w, (Instr.slice 25 (.slice A n c) (some (.int .i64 ((a : Int) + 8))) (some (.int .i64 ((a : Int) + 8 + (m : Int)))) none).run Try.prog w = .ok (.slice (cutA A (a + 8) c) m (c - (a + 8))) w := fun w => by
                  have h := cut_lh Try.underlying25 elem_bytes size_u8 A (n := n) (cap := c) (k := a + 8) (m := a + 8 + m) (by omega) (by omega) w
                  rw [Nat.add_sub_cancel_left] at h
                  exact h
                have hs2 : ∀ w, (Instr.slice 25 (.slice A n c) (some (.int .i64 (a : Int))) (some (.int .i64 ((a : Int) + 8 + (m : Int)))) none).run Try.prog w = .ok (.slice (cutA A a c) (8 + m) (c - a)) w := fun w => by
                  have h := cut_lh Try.underlying25 elem_bytes size_u8 A (n := n) (cap := c) (k := a) (m := a + 8 + m) (by omega) (by omega) w
                  rw [show a + 8 + m - a = 8 + m by omega] at h
                  exact h
                have hr1 : Rd (w.drewN q) (cutA A (a + 8) c) m ((xs.take (a + 8 + m)).drop (a + 8)) := by
                  have h := hx.cut (k := a + 8) (m := a + 8 + m) (by omega) (by omega) hcap
                  rw [Nat.add_sub_cancel_left] at h
                  exact h
                have hr2 : Rd (w.drewN q) (cutA A a c) (8 + m) ((xs.take (a + 8 + m)).drop a) := by
                  have h := hx.cut (k := a) (m := a + 8 + m) (by omega) (by omega) hcap
                  rw [show a + 8 + m - a = 8 + m by omega] at h
                  exact h
                obtain ⟨L, hL⟩ : ∃ L, L = 8 + m := ⟨_, rfl⟩
                rw [← hL] at hs2 hr2
                have hLm : L ≤ maxLen := by unfold maxLen; omega
                obtain ⟨A1, hA1⟩ : ∃ A1, A1 = cutA A (a + 8) c := ⟨_, rfl⟩
                obtain ⟨A2, hA2⟩ : ∃ A2, A2 = cutA A a c := ⟨_, rfl⟩
                obtain ⟨k1, hk1⟩ : ∃ k1, k1 = c - (a + 8) := ⟨_, rfl⟩
                obtain ⟨k2, hk2⟩ : ∃ k2, k2 = c - a := ⟨_, rfl⟩
                rw [← hA1] at hs1 hr1
                rw [← hA2] at hs2 hr2
                rw [← hk1] at hs1
                rw [← hk2] at hs2
                have hb0 : Below w.heap.size w (w.drewN q) := below_drewN (Below.refl _ _) _
                obtain ⟨W, hW⟩ : ∃ W, W = w.drewN q := ⟨_, rfl⟩
                rw [← hW] at hr1 hr2 hb0 ⊢
                obtain ⟨bd, hbd⟩ : ∃ bd, bd = (xs.take (a + 8 + m)).drop (a + 8) := ⟨_, rfl⟩
                obtain ⟨wh, hwh⟩ : ∃ wh, wh = (xs.take (a + 8 + m)).drop a := ⟨_, rfl⟩
                rw [← hbd, ← hwh] at G
                rw [← hbd] at hr1
                rw [← hwh] at hr2
                have hbl := hr1.len
                obtain ⟨sl, hsl⟩ : ∃ sl, sl = sealB bd := ⟨_, rfl⟩
                have hsll : sl.length = L := by rw [hsl, sealB_len, hbl, hL]
                have HG : Hid (sealG bd = (sl, 0)) := Lib.hid (by rw [sealG_ok (n := m) hbl hsz, hsl])
                rw [← hsl] at G
                have HSLL := Lib.hid hsll
                clear hW hA1 hA2 hk1 hk2 hbd hwh hsl hsll hx hL
                cases heq : eqB sl wh
                · have F := Lib.hid (G.out.trans (if_neg (by rw [heq]; decide)))
                  have HE := Lib.hid heq
                  clear heq G
                  go_wp2_with fail
                  refine (Copy_any A1 m k1 bd _ hr1 (by omega)).mono ?_
                  rintro e w1 ⟨C, cn, cc, rfl, hC, hb1⟩
                  obtain rfl : cn = m := by rw [← hC.len, hbl]
                  have hr2' := hr2.below hb1
                  go_wp2_with fail
                  have HS := refSeal_any C cn cc bd _ hC.rd (by omega)
                  rw [HG.out] at HS
                  refine HS.mono ?_
                  clear HS
                  rintro e w2 ⟨S, sn, sc, rfl, hS, hb2⟩
                  have hS2 : Own 5 w2 w1.heap.size S sn sc sl := hS
                  obtain rfl : sn = L := by rw [← hS2.len, HSLL.out]
                  have hr2'' := hr2'.below hb2
                  have hb3 : Below w.heap.size w w2 := hb0.trans ((hb1.trans (hb2.mono hb1.size)).mono hb0.size)
                  clear hS hr2' hr2 hb1 hb2 hb0 hC hr1
                  go_wp2_with fail
                  refine (Equal_is S A2 sn sn sc k2 sl wh false HE.out _ hS2.rd hr2'' hLm hLm).mono ?_
                  rintro e w3 ⟨rfl, p, rfl⟩
                  go_wp2
                  go_ret3
                  exact RetO_none F.out (below_drewN hb3 p)
                · have F := Lib.hid (G.out.trans (if_pos heq))
                  have HE := Lib.hid heq
                  clear heq G
                  go_wp2_with fail
                  refine (Copy_any A1 m k1 bd _ hr1 (by omega)).mono ?_
                  rintro e w1 ⟨C, cn, cc, rfl, hC, hb1⟩
                  obtain rfl : cn = m := by rw [← hC.len, hbl]
                  have hr2' := hr2.below hb1
                  go_wp2_with fail
                  have HS := refSeal_any C cn cc bd _ hC.rd (by omega)
                  rw [HG.out] at HS
                  refine HS.mono ?_
                  clear HS
                  rintro e w2 ⟨S, sn, sc, rfl, hS, hb2⟩
                  have hS2 : Own 5 w2 w1.heap.size S sn sc sl := hS
                  obtain rfl : sn = L := by rw [← hS2.len, HSLL.out]
                  have hr2'' := hr2'.below hb2
                  have hC2 := (hC.below hb2).mono hb0.size
                  have hb3 : Below w.heap.size w w2 := hb0.trans ((hb1.trans (hb2.mono hb1.size)).mono hb0.size)
                  clear hS hr2' hr2 hb1 hb2 hb0 hC hr1
                  go_wp2_with fail
                  refine (Equal_is S A2 sn sn sc k2 sl wh true HE.out _ hS2.rd hr2'' hLm hLm).mono ?_
                  rintro e w3 ⟨rfl, p, rfl⟩
                  go_wp2
                  go_ret3
                  refine ⟨C, cn, cc, by rw [F.out]; rfl, ?_, below_drewN hb3 p⟩
                  rw [F.out]
                  exact hC2.below (below_drewN (Below.refl _ _) p)
end Go.Proofs.Ytcclhkoggijkaaa
