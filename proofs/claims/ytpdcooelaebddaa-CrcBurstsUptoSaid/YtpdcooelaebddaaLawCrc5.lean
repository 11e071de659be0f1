/- CrcBursts: for every list of at most 1048576 bytes, every place and every burst the call returns true, and what was there stands. -/
import Derived.Test.YtpdcooelaebddaaLawCrc3
import Derived.Test.YtpdcooelaebddaaSpare
import Derived.RegionTactic
import Derived.BigRegion
namespace Go.Proofs.Ytpdcooelaebddaa
open Go Go.RowKit

/-- A change within 32 bits changes the register, from wherever it begins. -/
theorem regB_burst {b t : List UInt8} {y at' burst : Nat} (hl : t.length = b.length) (ha : at' ≤ 8 * b.length) (h0 : burst ≠ 0) (h32 : burst < 2 ^ 32)
    (hx : leB t = leB b ^^^ burst * 2 ^ at') : regB y t ≠ regB y b := by
  intro h1
  rw [regB_le, regB_le, hl, stps_xor, stps_xor, hx, stps_xor] at h1
  have h2 : stps (8 * b.length) (burst * 2 ^ at') = 0 := by
    have := congrArg (fun z => stps (8 * b.length) (leB b) ^^^ (stps (8 * b.length) y ^^^ z)) h1
    simp only [← Nat.xor_assoc, Nat.xor_self, Nat.zero_xor] at this
    exact this
  rw [show 8 * b.length = at' + (8 * b.length - at') by omega, stps_add, stps_pow] at h2
  exact h0 (stps_inj0 _ h32 h2)
theorem crcB_after {h b t : List UInt8} (hne : regB (regB 4294967295 h) t ≠ regB (regB 4294967295 h) b) : crcB (h ++ t) ≠ crcB (h ++ b) := by
  intro hc
  have ht := regB_lt t (regB_lt h (show 4294967295 < 2 ^ 32 by decide))
  have hb := regB_lt b (regB_lt h (show 4294967295 < 2 ^ 32 by decide))
  unfold crcB at hc
  rw [regB_app, regB_app] at hc
  omega
/-- The bits below k of a burst, laid on. -/
theorem burst_step {burst k a : Nat} (h : burst.testBit k = true) : burst % 2 ^ (k + 1) * 2 ^ a = (burst % 2 ^ k * 2 ^ a) ^^^ 2 ^ (a + k) := by
  rw [mod_pow_bit, if_pos h, Nat.mul_comm, mul_xor_pow, Nat.mul_comm (2 ^ a), ← Nat.pow_add]
theorem burst_same {burst k : Nat} (h : burst.testBit k = false) : burst % 2 ^ (k + 1) = burst % 2 ^ k := by
  rw [mod_pow_bit, if_neg (by rw [h]; decide), Nat.xor_zero]

theorem Own.spliced {e : TypeId} {w w' : World} {base base' g n c off : Nat} {xs zs : List UInt8} {cur : List Value} (h : Own e w base (some ⟨g, 0, none⟩) n c xs) (hc : w.heap[g]? = some (.cells cur.toArray e (0, 0)))
    (hf : off + zs.length ≤ n) (hb : base' ≤ g) (h' : w'.heap[g]? = some (.cells (splice cur off (zs.map cv)).toArray e (0, 0))) : Own e w' base' (some ⟨g, 0, none⟩) n c (splice xs off zs) := by
  have hl := h.len
  rcases h.2 with ⟨h1, _⟩ | ⟨g', cap, cur', h1, h2, h3, h4, h5, h6, h7⟩
  · injection h1 with h1; cases h1
  · injection h1 with h1 _ h8
    injection h1 with h1
    injection h1 with h1
    subst h1 h8
    rw [hc] at h3
    injection h3 with h3
    injection h3 with h3
    subst h3
    simp only [List.size_toArray, Nat.mul_one] at h6
    simp only [Nat.mul_one] at h7
    have hsl : (splice xs off zs).length = n := by rw [length_splice _ _ _ (by omega), hl]
    refine ⟨by simpa using hsl, .inr ⟨g, c, _, rfl, hb, h', h4, h5, by rw [List.size_toArray, length_splice _ _ _ (by rw [List.length_map]; omega)]; omega, ?_⟩⟩
    simp only [Nat.mul_one]
    apply List.ext_getElem?
    intro i
    have hcx : ∀ i, i < n → cur[i]? = (xs.map cv)[i]? := fun i hi => by
      rw [← h7, List.getElem?_take, if_pos hi]
    rw [List.getElem?_take]
    by_cases hi : i < n
    · rw [if_pos hi]
      unfold splice
      rw [List.map_append, List.map_append, List.map_take, List.map_drop]
      simp only [List.getElem?_append, List.length_take, List.length_map, List.getElem?_take, List.getElem?_drop]
      have e1 : min off cur.length = off := by omega
      have e2 : min off xs.length = off := by omega
      rw [e1, e2]
      by_cases c1 : i < off
      · rw [if_pos c1, if_pos c1, if_pos c1, if_pos c1, hcx i hi]
      · rw [if_neg c1, if_neg c1]
        by_cases c2 : i - off < zs.length
        · rw [if_pos c2, if_pos c2]
        · rw [if_neg c2, if_neg c2, hcx _ (by omega)]
    · rw [if_neg hi, List.getElem?_eq_none (by rw [List.length_map, hsl]; omega)]
theorem Own.cells {e : TypeId} {w : World} {base g n c : Nat} {xs : List UInt8} (h : Own e w base (some ⟨g, 0, none⟩) n c xs) : ∃ cur : List Value, w.heap[g]? = some (.cells cur.toArray e (0, 0)) ∧ cur.length = c := by
  rcases h.2 with ⟨h1, _⟩ | ⟨g', cap, cur, h1, h2, h3, h4, h5, h6, h7⟩
  · injection h1 with h1; cases h1
  · injection h1 with h1 _ h8
    injection h1 with h1
    injection h1 with h1
    subst h1 h8
    exact ⟨cur.toList, by simpa using h3, by simpa using h6⟩

theorem bit_off {u k : Nat} (hu : u < 4294967296) (h : u.testBit k = false) : (bits .and .u32 ((u : Int) / 2 ^ k) 1 == 1) = false := by
  have h1 : (u : Int) / 2 ^ k = ((u / 2 ^ k : Nat) : Int) := by
    rw [Int.natCast_ediv, Int.natCast_pow]; rfl
  have h2 : u / 2 ^ k < 4294967296 := Nat.lt_of_le_of_lt (Nat.div_le_self _ _) hu
  rw [h1, and1_u32 h2]
  rw [Nat.testBit_eq_decide_div_mod_eq, decide_eq_false_iff_not] at h
  rw [beq_eq_false_iff_ne]
  omega
theorem bit_on {u k : Nat} (hu : u < 4294967296) (h : u.testBit k = true) : (bits .and .u32 ((u : Int) / 2 ^ k) 1 == 1) = true := by
  have h1 : (u : Int) / 2 ^ k = ((u / 2 ^ k : Nat) : Int) := by
    rw [Int.natCast_ediv, Int.natCast_pow]; rfl
  have h2 : u / 2 ^ k < 4294967296 := Nat.lt_of_le_of_lt (Nat.div_le_self _ _) hu
  rw [h1, and1_u32 h2]
  rw [Nat.testBit_eq_decide_div_mod_eq, decide_eq_true_iff] at h
  rw [beq_iff_eq]
  omega
theorem u8_shl {j : Nat} (h : j < 8) : ∃ m : Nat, m = 2 ^ j ∧ m < 256 := ⟨_, rfl, Nat.lt_of_lt_of_le (Nat.pow_lt_pow_right (by decide) h) (by decide)⟩

theorem splice_tail {a b t : List UInt8} {k : Nat} (hk : a.length = k) (hl : t.length = b.length) : splice (a ++ b) k t = a ++ t := by
  unfold splice
  rw [List.take_left' hk, List.drop_eq_nil_of_le (by rw [List.length_append]; omega), List.append_nil]
/-- A record with another sum doesn't open. -/
theorem openG_bad {n c : Nat} {t : List UInt8} (hl : t.length = n) (hn : n ≤ 1048576) (hc : c < 4294967296) (hne : c ≠ crcB (fourB n ++ t)) : openG (fourB n ++ (fourB c ++ t)) ((0 : Nat) : Int) = ([], 0, 4) := by
  have hlen : (fourB n ++ (fourB c ++ t)).length = 8 + n := by simp only [List.length_append, fourB_len]; omega
  have hm : n = numK ((fourB n ++ (fourB c ++ t)).drop 0) 4 := by rw [List.drop_zero, numK_fourB _ _ (by omega)]
  rw [openG_whole (a := 0) (n := 8 + n) hlen hm (by omega) (by omega), Nat.zero_add, List.take_of_length_le (by omega), List.drop_zero]
  have h2 : (fourB n ++ (fourB c ++ t)).drop 8 = t := by
    rw [← List.append_assoc]
    exact List.drop_left' (by simp [fourB_len])
  rw [h2, if_neg]
  unfold eqB
  rw [beq_iff_eq, sealB, hl]
  intro h
  have h1 := List.append_cancel_right (List.append_cancel_left h)
  have h3 := numK_fourB c [] hc
  rw [← h1, numK_fourB _ _ (crcB_lt _)] at h3
  exact hne h3.symm

set_option maxRecDepth 100000 in
set_option maxHeartbeats 8000000 in
theorem crcBursts_row (B : Option Addr) (lb cb : Nat) (ys : List UInt8) (z : Int) (u : Nat) (w : World) (hy : Rd w B lb ys) (hlb : lb ≤ cb) (hcb : cb ≤ 1048576) (hz : I64 z) (hu : u < 4294967296) :
    Calls Try.prog 6 #[.slice B lb cb, .int .i64 z, .int .u32 u] w (RetT w true) := by
  have hM : 1099511627776 ≤ maxLen := by unfold maxLen; omega
  have HM := Lib.hid hM
  have HYL := Lib.hid hy.len
  unfold I64 at hz
  clear hM
  by_cases h5 : lb < 5
  · have h1 : decide (lb < 5) = true := by simpa using h5
    go_enter Try.func6, Try.ntmps6
    go_wp2_with fail
    refine (awake3_any _).mono ?_
    rintro e w1 ⟨rfl, hb1⟩
    go_wp2
    go_ret
    exact ⟨rfl, hb1⟩
  · have h1 : decide (lb < 5) = false := by simpa using h5
    by_cases hu0 : u = 0
    · subst hu0
      go_enter Try.func6, Try.ntmps6
      go_wp2_with fail
      refine (awake3_any _).mono ?_
      rintro e w1 ⟨rfl, hb1⟩
      go_wp2
      go_ret
      exact ⟨rfl, hb1⟩
    · have h2 : ((u : Int) == 0) = false := by simp; omega
      by_cases hz0 : z < 0
      · have h3 : decide (z < 0) = true := by simpa using hz0
        go_enter Try.func6, Try.ntmps6
        go_wp2_with fail
        refine (awake3_any _).mono ?_
        rintro e w1 ⟨rfl, hb1⟩
        go_wp2
        go_ret
        exact ⟨rfl, hb1⟩
      · have h3 : decide (z < 0) = false := by simpa using hz0
        by_cases hzb : 8 * ((lb : Int) - 4) - 8 < z
        · have h4 : decide (8 * ((lb : Int) - 4) - 8 < z) = true := by simpa using hzb
          go_enter Try.func6, Try.ntmps6
          go_wp2_with fail
          refine (awake3_any _).mono ?_
          rintro e w1 ⟨rfl, hb1⟩
          go_wp2
          go_ret
          exact ⟨rfl, hb1⟩
        · have h4 : decide (8 * ((lb : Int) - 4) - 8 < z) = false := by simpa using hzb
          obtain ⟨a, rfl⟩ : ∃ a : Nat, z = a := ⟨z.toNat, by omega⟩
          have ha : a + 40 ≤ 8 * lb := by omega
          clear hzb hz0 hz
          go_enter Try.func6, Try.ntmps6
          go_wp2_with fail
          refine (awake3_any _).mono ?_
          rintro e w1 ⟨rfl, k1⟩
          have b1 := hy.below k1
          go_wp2_with fail
          refine (Copy_any B lb cb ys _ b1 (by omega)).mono ?_
          rintro e w2 ⟨C, lc, cc, rfl, oc, hb2⟩
          obtain rfl : lc = lb := by rw [← oc.len, b1.len]
          obtain ⟨g, rfl, hg1, hg2⟩ := oc.form (by omega)
          have k2 := k1.trans (hb2.mono k1.size)
          have b2 := b1.below hb2
          have HOC := Lib.hid oc
          have K1 := Lib.hid k1
          have HB1 := Lib.hid b1
          clear k1 b1 oc
          go_wp2
          go_loopw [8] (fun vk wr => ∃ (k : Nat) (ts : List UInt8), vk = .int .i64 k ∧ k ≤ 32 ∧ Own 5 wr w1.heap.size (some ⟨g, 0, none⟩) lc cc ts ∧ leB ts = leB ys ^^^ (u % 2 ^ k) * 2 ^ a ∧ Below w1.heap.size w1 wr) (fun vk _ => 32 - (intOf vk).toNat)
          case atStart => exact ⟨0, ys, rfl, by omega, HOC.out, by rw [Nat.pow_zero, Nat.mod_one, Nat.zero_mul, Nat.xor_zero], hb2⟩
          case round =>
            clear HOC hb2
            obtain ⟨k, ts, rfl, hk, oT, hle, hbr⟩ := hrel
            have Hle := Lib.hid hle
            clear hle
            by_cases hk32 : k < 32
            · cases hbit : u.testBit k
              · have hb := bit_off hu (by rw [hbit])
                have HS : Hid (leB ts = leB ys ^^^ (u % 2 ^ (k + 1)) * 2 ^ a) := Lib.hid (by rw [Hle.out, burst_same hbit])
                have HT := Lib.hid oT
                clear oT hbit
                go_wp2
                go_roundw
                case rel => exact ⟨k + 1, ts, by go_num, by omega, HT.out, HS.out, hbr⟩
                case measure => simp [intOf]; omega
              · have hb := bit_on hu (by rw [hbit])
                obtain ⟨p, hp⟩ : ∃ p : Nat, p = a + k := ⟨_, rfl⟩
                obtain ⟨i, hi⟩ : ∃ i : Nat, i = p / 8 := ⟨_, rfl⟩
                obtain ⟨j, hj⟩ : ∃ j : Nat, j = p % 8 := ⟨_, rfl⟩
                obtain ⟨m, hm, hm8⟩ := u8_shl (show j < 8 by omega)
                have hil : i < lc := by omega
                obtain ⟨x, hx, hcx, _⟩ := oT.rd.at_ i hil
                rw [Nat.zero_add] at hcx
                have fz := oT.thawed i
                have hx8 := x.toNat_lt
                obtain ⟨d, hd⟩ : ∃ d : UInt8, d.toNat = x.toNat ^^^ m := ⟨UInt8.ofNat (x.toNat ^^^ m), by
                  have : x.toNat ^^^ m < 2 ^ 8 := Nat.xor_lt_two_pow hx8 hm8
                  rw [UInt8.toNat_ofNat']; omega⟩
                have e4 : bits .xor .u8 (x.toNat : Int) (m : Int) = (d.toNat : Int) := by rw [hd]; exact u8_xor_nat x.toNat m hx8 hm8
                have HS : Hid (leB (ts.set i d) = leB ys ^^^ (u % 2 ^ (k + 1)) * 2 ^ a) := Lib.hid (by
                  rw [leB_set ts i j x d hx (by rw [hd, hm]) (by omega), Hle.out, burst_step hbit, Nat.xor_assoc, show 8 * i + j = a + k by omega])
                have HT : Hid (∀ z : Int, z = (d.toNat : Int) → Own 5 (wr.setCell ⟨g, i, none⟩ (.int .u8 z)) w1.heap.size (some ⟨g, 0, none⟩) lc cc (ts.set i d)) := Lib.hid (fun z hz => oT.set_ i d z hz)
                have e0 : (a : Int) + (k : Int) = (p : Int) := by omega
                have e1 : (p : Int) / 8 = (i : Int) := by omega
                have e2 : (p : Int) % 8 = (j : Int) := by omega
                have e3 : (2 : Int) ^ j % 256 = (m : Int) := by
                  have : (2 : Int) ^ j = (m : Int) := by rw [hm]; exact (Int.natCast_pow 2 j).symm
                  omega
                have i0 : (0 : Int) ≤ (i : Int) := by omega
                have i1 : (i : Int) < (lc : Int) := by omega
                have HP := Lib.hid hp
                clear hp hi hj hm hd hx hbit oT
                go_wp2
                go_region
                go_wp2
                go_roundw
                case rel => exact ⟨k + 1, ts.set i d, by go_num, by omega, HT.out _ rfl, HS.out, (hbr.setCell hg1 _).drew⟩
                case measure => simp [intOf]; omega
            · obtain rfl : k = 32 := by omega
              have hlt : ts.length = ys.length := by rw [oT.len, HYL.out]
              have hle : leB ts = leB ys ^^^ u * 2 ^ a := by rw [Hle.out, Nat.mod_eq_of_lt (show u < 2 ^ 32 by omega)]
              have hne1 : crcB ts ≠ crcB ys := crcB_burst hlt (by rw [HYL.out]; omega) hu0 (by omega) hle
              have hne2 : crcB (fourB lc ++ ts) ≠ crcB (fourB lc ++ ys) := crcB_after (regB_burst hlt (by rw [HYL.out]; omega) hu0 (by omega) hle)
              have kr : Below w.heap.size w wr := K1.out.trans (hbr.mono K1.out.size)
              have br : Rd wr B lc ys := HB1.out.below hbr
              have rt := oT.rd
              have hoc := oT.cap
              have hT1 : tot [ts] ≤ 1099511627776 := by simp only [tot]; have := oT.len; omega
              have hY1 : tot [ys] ≤ 1099511627776 := by simp only [tot]; have := HYL.out; omega
              have hY2 : tot [ys] ≤ 268435456 := by simp only [tot]; have := HYL.out; omega
              have f1 : [ts].flatten = ts := by simp
              have f2 : [ys].flatten = ys := by simp
              obtain ⟨c1, hc1⟩ : ∃ c1, c1 = crcB ts := ⟨_, rfl⟩
              obtain ⟨c2, hc2⟩ : ∃ c2, c2 = crcB ys := ⟨_, rfl⟩
              rw [← hc1, ← hc2] at hne1
              have F1 : Hid (crcB [ts].flatten = c1) := Lib.hid (by rw [f1, hc1])
              have F2 : Hid (crcB [ys].flatten = c2) := Lib.hid (by rw [f2, hc2])
              have heq : ((c1 : Int) == (c2 : Int)) = false := by
                rw [beq_eq_false_iff_ne]
                omega
              have HN2 := Lib.hid hne2
              have HTL := Lib.hid oT.len
              clear f1 hc1 hc2 hlt hle Hle hne1 hne2 oT h1 h2 h3 h4 hbr b2
              go_wp2_with fail
              have hS := Sum_any (some ⟨wr.heap.size, 0, none⟩) 1 1 [ts] _ (rdl_one (w := wr) (t := 30) ⟨some ⟨g, 0, none⟩, lc, cc, rfl, rt, hoc.1, fun h => by cases h⟩ _ rfl) hT1
              rw [F1.out] at hS
              refine hS.mono ?_
              clear hS
              rintro e w3 ⟨rfl, hb3⟩
              have hb3 : Below wr.heap.size wr w3 := ((Below.refl _ _).alloc (Nat.le_refl _) _).trans (hb3.mono (by simp))
              have k3 := kr.trans (hb3.mono kr.size)
              have b3 := br.below hb3
              have rt3 := rt.below hb3
              clear kr br hb3 rt
              go_wp2_with fail
              refine (Copy_any B lc cb ys _ b3 (by omega)).mono ?_
              rintro e w4 ⟨D, ld, cd, rfl, od, hb4⟩
              obtain rfl : ld = lc := by rw [← od.len, b3.len]
              have hdc := od.cap
              have hdn : D = none → cd = 0 := fun h => by have := od.nil_of (by rw [h]; rfl); exact this.2.2
              have k4 := k3.trans (hb4.mono k3.size)
              have b4 := b3.below hb4
              have rt4 := rt3.below hb4
              clear k3 b3 rt3 hb4
              go_wp2_with fail
              have hS := Sum_any (some ⟨w4.heap.size, 0, none⟩) 1 1 [ys] _ (rdl_one (w := w4) (t := 30) ⟨D, ld, cd, rfl, od.rd, hdc.1, hdn⟩ _ rfl) hY1
              rw [F2.out] at hS
              refine hS.mono ?_
              clear hS hdn
              rintro e w5 ⟨rfl, hb5⟩
              have hb5 : Below w4.heap.size w4 w5 := ((Below.refl _ _).alloc (Nat.le_refl _) _).trans (hb5.mono (by simp))
              have k5 := k4.trans (hb5.mono k4.size)
              have b5 := b4.below hb5
              have rt5 := rt4.below hb5
              clear k4 b4 rt4 hb5 od
              have hBn : B = none → cb = 0 := fun h => by obtain ⟨_, _, h2, _⟩ := b5.pos (by omega); rw [h] at h2; cases h2
              have hsg : sealG [ys].flatten = (sealB ys, 0) := by rw [show [ys].flatten = ys by simp, sealG_ok HYL.out (by omega)]
              obtain ⟨sl, hsl⟩ : ∃ sl, sl = sealB ys := ⟨_, rfl⟩
              rw [← hsl] at hsg
              have HSG := Lib.hid hsg
              have HSL := Lib.hid hsl
              clear hsl hsg
              go_wp2_with fail
              have hS := Seal_any (some ⟨w5.heap.size, 0, none⟩) 1 1 [ys] _ (rdl_one (w := w5) (t := 30) ⟨B, ld, cb, rfl, b5, hlb, hBn⟩ _ rfl) hY2
              rw [HSG.out] at hS
              refine hS.mono ?_
              clear hS hBn
              rintro e w6 ⟨S, sn, sc, rfl, os0, hb6⟩
              have os : Own 5 w6 w5.heap.size S sn sc sl := Own.mono os0 (show w5.heap.size ≤ _ by simp)
              obtain rfl : sn = 8 + ld := by rw [← os.len, HSL.out, sealB_len, HYL.out]
              obtain ⟨gs, rfl, hgs1, hgs2⟩ := os.form (by omega)
              have hb6 : Below w5.heap.size w5 w6 := ((Below.refl _ _).alloc (Nat.le_refl _) _).trans (hb6.mono (by simp))
              have k6 := k5.trans (hb6.mono k5.size)
              have rt6 := rt5.below hb6
              have hsc := os.cap
              have hkz := k5.size
              obtain ⟨cur, hcur, hcl⟩ := os.cells
              have hs8 : ∀ w, (Instr.slice 30 (.slice (some ⟨gs, 0, none⟩) (8 + ld) sc) (some (.int .i64 8)) none none).run Try.prog w = .ok (.slice (some ⟨gs, 8, none⟩) ld (sc - 8)) w := fun w => by
                have h := cut_l Try.underlying30 elem_bytes size_u8 (some ⟨gs, 0, none⟩) (n := 8 + ld) (cap := sc) (k := 8) (by omega) w
                rw [Nat.add_sub_cancel_left] at h
                have e : cutA (some ⟨gs, 0, none⟩) 8 sc = some ⟨gs, 8, none⟩ := by unfold cutA; rw [if_neg (by omega)]; simp [Addr.add]
                rw [e] at h
                exact h
              have hszu : (Try.prog.info? 5).map (·.size) = some 1 := by kernel_rfl
              have HCUR := Lib.hid hcur
              have HOS := Lib.hid os
              have HCL := Lib.hid hcl
              clear os0 os hb6 k5 b5 rt5 hcur hcl
              go_wp2_with (with_reducible refine wpList_copy_splice rfl (.tmp 87) (.tmp 88) 30 30 rfl 5 Try.underlying30 hszu (some ⟨gs, 8, none⟩) (some ⟨g, 0, none⟩) ld (sc - 8) ld cc rfl rfl gs 8 _ 5 HCUR.out (ts.map cv) ?_ ?_ ?_ ?_ w.heap.size w k6 (by omega) ?_)
              · rw [List.length_map, HTL.out]
                show ld = min ld ld
                omega
              · intro _ j y hy
                obtain ⟨bt', off', e2, _, hc⟩ := rt6.2 (by omega)
                injection e2 with e2
                injection e2 with e2 e3
                subst e2 e3
                have := hc j y hy
                rw [Nat.zero_add] at this
                exact this
              · rw [List.length_map, HTL.out, HCL.out]; omega
              · exact cv_one ts
              intro w7 hw7 hb7
              have o7 : Own 5 w7 w.heap.size (some ⟨gs, 0, none⟩) (8 + ld) sc (splice sl 8 ts) := HOS.out.spliced HCUR.out (by rw [HTL.out]; omega) (by omega) hw7.out
              have hxs : splice sl 8 ts = fourB ld ++ (fourB (crcB (fourB ld ++ ys)) ++ ts) := by
                rw [HSL.out, sealB, HYL.out, ← List.append_assoc, splice_tail (by simp [fourB_len]) (by rw [HTL.out, HYL.out]), List.append_assoc]
              rw [hxs] at o7
              have hog := openG_bad (n := ld) (c := crcB (fourB ld ++ ys)) (t := ts) HTL.out (by omega) (crcB_lt _) (fun h => HN2.out h.symm)
              obtain ⟨xs, hx2⟩ : ∃ xs, xs = fourB ld ++ (fourB (crcB (fourB ld ++ ys)) ++ ts) := ⟨_, rfl⟩
              rw [← hx2] at hog o7
              have hO := Open_any (some ⟨gs, 0, none⟩) (8 + ld) sc ((0 : Nat) : Int) xs w7 o7.rd (by omega) hsc.1 (fun h => by cases h) (by unfold I64; omega)
              rw [hog] at hO
              have HO := Lib.hid hO
              clear hO hog hx2 hxs o7 hw7
              go_wp2_with fail
              refine HO.out.mono ?_
              clear HO
              rintro e w8 ⟨O, on, oc, rfl, oo, hb8⟩
              have hon : on = 0 := by have := oo.len; simp only [List.length_nil] at this; omega
              subst hon
              have k8 := hb7.trans (hb8.mono hb7.size)
              clear oo hb7 hb8
              go_wp2
              go_ret
              exact ⟨rfl, k8⟩

theorem crcBursts_all (B : Option Addr) (lb cb : Nat) (ys : List UInt8) (z u : Int) (w : World) (hy : Rd w B lb ys) (hlb : lb ≤ cb) (hcb : cb ≤ 1048576) (hz : (Lit.int .i64 z).wf = true) (hu : (Lit.int .u32 u).wf = true) :
    Calls Try.prog 6 #[.slice B lb cb, .int .i64 z, .int .u32 u] w (RetT w true) := by
  have h1 : -9223372036854775808 ≤ z ∧ z ≤ 9223372036854775807 := by simpa [Lit.wf, IntKind.min, IntKind.max, IntKind.signed, IntKind.bits] using hz
  have h2 : 0 ≤ u ∧ u ≤ 4294967295 := by simpa [Lit.wf, IntKind.min, IntKind.max, IntKind.signed, IntKind.bits] using hu
  obtain ⟨n, rfl⟩ : ∃ n : Nat, u = n := ⟨u.toNat, by omega⟩
  exact crcBursts_row B lb cb ys z n w hy hlb hcb h1 (by omega)
end Go.Proofs.Ytpdcooelaebddaa
