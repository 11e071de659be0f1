/- CaissonKeys: for every two texts and every list of numbers that hold at most 1048576 values each the call returns true, and what was there stands. -/
import Derived.Test.YtdcboeeblbakhaaMathC
import Derived.Test.YtdcboeeblbakhaaBcmp
import Derived.Test.YtdcboeeblbakhaaOrdU
import Derived.Test.YtdcboeeblbakhaaGetO
import Derived.Deep.DeepCutAuto
namespace Go.Proofs.Ytdcboeeblbakhaa
open Go Go.RowKit

theorem rn_ae : (rn ⟨#[195, 164]⟩).length = 1 := by decide +kernel
theorem ordU_1 : ordU 1 = [0, 0, 0, 0, 0, 0, 0, 1] := by decide +kernel
theorem i64_at {w : World} {A : Option Addr} {n : Nat} {js : List Int} (h : RdV w A n (js.map iv)) (hj : ∀ z ∈ js, -9223372036854775808 ≤ z ∧ z ≤ 9223372036854775807) (k : Nat) (hk : k < n) :
    ∃ b off z, A = some ⟨b, off, none⟩ ∧ w.cell? ⟨b, off + k, none⟩ = some (.int .i64 z) ∧ I64 z := by
  obtain ⟨b, off, rfl, _⟩ := h.pos (by omega)
  obtain ⟨v, h1, h2⟩ := h.at_ k hk
  rw [List.getElem?_map] at h1
  cases hx : js[k]? with
  | none => rw [hx] at h1; cases h1
  | some z =>
    rw [hx] at h1
    injection h1 with h1
    subst h1
    exact ⟨b, off, z, rfl, h2, hj z (List.mem_of_getElem? hx)⟩

theorem keyB_len (s : ByteArray) (h : s.size ≤ 1073741824) : (keyB s).length ≤ 17179869184 := by
  rw [keyB, List.length_append]
  have h1 := ordT_len (foldB s)
  have h2 := ordT_len s.data.toList
  have h3 := foldB_len s
  have h4 := (Lib.size_eq s).symm
  omega
theorem tri_is (a : ByteArray) (x : Int) (b : ByteArray) : keyB a ++ (ordU (up x) ++ ordT b.data.toList) = tri a x b := (List.append_assoc _ _ _).symm
theorem dn_up {x : Int} (h : I64 x) : dn (up x) = x := by
  unfold I64 at h
  unfold dn up
  omega

set_option maxRecDepth 100000 in
set_option maxHeartbeats 8000000 in
theorem caissonKeys_any (a b : ByteArray) (L : Option Addr) (ln lc : Nat) (js : List Int) (w : World) (ha : a.size ≤ 1073741824) (hb : b.size ≤ 1073741824) (hL : RdV w L ln (js.map iv)) (_hlc : ln ≤ lc) (_hc : lc ≤ 1073741824)
    (hj : ∀ z ∈ js, -9223372036854775808 ≤ z ∧ z ≤ 9223372036854775807) :
    Calls Try.prog 8 #[.string a, .string b, .slice L ln lc] w (RetT w true) := by
  have Hj := Lib.hid hj
  clear hj
  have hM : 1099511627776 ≤ maxLen := by unfold maxLen; omega
  have HM := Lib.hid hM
  clear hM
  go_enter Try.func8, Try.ntmps8
  go_wp2_with fail
  refine (OrdU_any 1 _ (by unfold B64; omega)).mono ?_
  rintro e w1 ⟨P, lp, cp, rfl, op, hb1⟩
  rw [ordU_1] at op
  obtain rfl : 8 = lp := op.len
  have hcp := op.cap
  go_wp2_with fail
  refine (Equal_any P _ 8 8 cp 8 [0, 0, 0, 0, 0, 0, 0, 1] [0, 0, 0, 0, 0, 0, 0, 1] _ (op.rd.alloc _) (Rd.lit _ _ 8 [0, 0, 0, 0, 0, 0, 0, 1] rfl _ rfl) (by unfold maxLen; omega) (by unfold maxLen; omega)).mono ?_
  rintro e w2 ⟨rfl, q, rfl⟩
  rw [eqB_self]
  go_wp2_with fail
  refine (Len_any _ _ (by decide)).mono ?_
  rintro e w3 ⟨rfl, hb3⟩
  rw [rn_ae]
  have k3 : Below w.heap.size w w3 := by
    have h1 := hb1.size
    have h2 := (below_drewN (hb1.alloc h1 (.cells #[.int .u8 0, .int .u8 0, .int .u8 0, .int .u8 0, .int .u8 0, .int .u8 0, .int .u8 0, .int .u8 1] 5)) q)
    exact h2.trans (hb3.mono h2.size)
  have rL := hL.below k3
  clear op hb1 hb3 hL hcp
  go_upto_if 29 with (fail)
  go_cut [7] (fun v w' => ∃ x : Int, v = .int .i64 x ∧ I64 x ∧ w3 = w')
  case first =>
    by_cases h0 : 0 < ln
    · obtain ⟨b1, off1, z, rfl, hz1, hz2⟩ := i64_at rL Hj.out 0 h0
      rw [Nat.add_zero] at hz1
      go_wp2_with fail
      go_meet
      exact ⟨z, rfl, hz2, rfl⟩
    · go_wp2_with fail
      go_meet
      exact ⟨0, rfl, by unfold I64; omega, rfl⟩
  case rest =>
    obtain ⟨x, rfl, hx, rfl⟩ := hcut
    go_upto_if 35 with (fail)
    go_cut [8] (fun v w' => ∃ x : Int, v = .int .i64 x ∧ I64 x ∧ w3 = w')
    case first =>
      by_cases h0 : 1 < ln
      · obtain ⟨b1, off1, z, rfl, hz1, hz2⟩ := i64_at rL Hj.out 1 h0
        go_wp2_with fail
        go_meet
        exact ⟨z, rfl, hz2, rfl⟩
      · go_wp2_with fail
        go_meet
        exact ⟨0, rfl, by unfold I64; omega, rfl⟩
    case rest =>
      obtain ⟨y, rfl, hy, rfl⟩ := hcut
      clear rL
      have s3 := k3.size
      go_wp2_with fail
      refine (Key_any a _ (by omega)).mono ?_
      rintro e w3a ⟨A3, n3, c3, rfl, o13, h13⟩
      have l13 : n3 ≤ 17179869184 := by rw [← o13.len]; exact keyB_len a (by omega)
      go_wp2_with fail
      refine (OrdI_any x _ hx).mono ?_
      rintro e w3b ⟨B3, m3, d3, rfl, o23, h23⟩
      obtain rfl : 8 = m3 := o23.len
      have s13 := h13.size
      have s23 := h23.size
      have kb3 := (k3.trans (h13.mono s3)).trans (h23.mono (by omega))
      have hb3 := h13.trans (h23.mono s13)
      go_wp2_with (at_builtin; refine wpList_app _ rfl _ _ 23 rfl w3.heap.size 5 Try.underlying23 info_u8 A3 n3 c3 (keyB a) rfl (o13.below h23) B3 8 d3 (ordU (up x)) rfl o23.rd ?_ ?_ ?_)
      · omega
      · omega
      intro E3 f3 w3c o33 h33
      have hc3 := hb3.trans h33
      have s33 := hc3.size
      have kc3 := kb3.trans (h33.mono s3)
      clear o13 o23 h13 h23 kb3 hb3 h33
      obtain ⟨g3, w3d, v3, r3, h43⟩ := conv_bytes b w3c
      go_wp2_with fail
      refine (OrdText_any _ _ g3 _ _ r3 (by omega)).mono ?_
      rintro e w3e ⟨G3, p3, q3, rfl, o43, h53⟩
      have l43 : p3 ≤ 2 * b.size + 2 := by
        have := ordT_len b.data.toList
        rw [o43.len, ← Lib.size_eq] at this
        exact this
      have s43 := h43.size
      have s53 := h53.size
      have o53 := (o33.below h43).below h53
      have he3 := (hc3.trans (h43.mono s33)).trans (h53.mono (by omega))
      have ke3 := (kc3.trans (h43.mono kc3.size)).trans (h53.mono (by have := kc3.size; omega))
      clear v3 r3 h43 o33 hc3 kc3 h53
      go_wp2_with (at_builtin; refine wpList_app _ rfl _ _ 23 rfl w3.heap.size 5 Try.underlying23 info_u8 E3 (n3 + 8) f3 _ rfl o53 G3 p3 q3 _ rfl o43.rd ?_ ?_ ?_)
      · omega
      · omega
      intro K cK w3f oK h63
      have hf3 := he3.trans h63
      have kf3 := ke3.trans (h63.mono s3)
      clear o53 o43 he3 ke3 h63
      obtain ⟨nK, hnK⟩ : ∃ n, n = n3 + 8 + p3 := ⟨_, rfl⟩
      rw [← hnK] at oK ⊢
      have lK : nK ≤ 34359738368 := by omega
      rw [tri_is] at oK
      clear hnK
      have k4 := kf3
      have rK := oK.rd
      have hKc := oK.cap
      obtain ⟨w4, hw4⟩ : ∃ w4, w4 = w3f := ⟨_, rfl⟩
      rw [← hw4] at k4 rK ⊢
      clear hw4 hf3 kf3 oK
      have s4 := k4.size
      go_wp2_with fail
      refine (Key_any b _ (by omega)).mono ?_
      rintro e w4a ⟨A4, n4, c4, rfl, o14, h14⟩
      have l14 : n4 ≤ 17179869184 := by rw [← o14.len]; exact keyB_len b (by omega)
      go_wp2_with fail
      refine (OrdI_any y _ hy).mono ?_
      rintro e w4b ⟨B4, m4, d4, rfl, o24, h24⟩
      obtain rfl : 8 = m4 := o24.len
      have s14 := h14.size
      have s24 := h24.size
      have kb4 := (k4.trans (h14.mono s4)).trans (h24.mono (by omega))
      have hb4 := h14.trans (h24.mono s14)
      go_wp2_with (at_builtin; refine wpList_app _ rfl _ _ 23 rfl w4.heap.size 5 Try.underlying23 info_u8 A4 n4 c4 (keyB b) rfl (o14.below h24) B4 8 d4 (ordU (up y)) rfl o24.rd ?_ ?_ ?_)
      · omega
      · omega
      intro E4 f4 w4c o34 h34
      have hc4 := hb4.trans h34
      have s34 := hc4.size
      have kc4 := kb4.trans (h34.mono s4)
      clear o14 o24 h14 h24 kb4 hb4 h34
      obtain ⟨g4, w4d, v4, r4, h44⟩ := conv_bytes a w4c
      go_wp2_with fail
      refine (OrdText_any _ _ g4 _ _ r4 (by omega)).mono ?_
      rintro e w4e ⟨G4, p4, q4, rfl, o44, h54⟩
      have l44 : p4 ≤ 2 * a.size + 2 := by
        have := ordT_len a.data.toList
        rw [o44.len, ← Lib.size_eq] at this
        exact this
      have s44 := h44.size
      have s54 := h54.size
      have o54 := (o34.below h44).below h54
      have he4 := (hc4.trans (h44.mono s34)).trans (h54.mono (by omega))
      have ke4 := (kc4.trans (h44.mono kc4.size)).trans (h54.mono (by have := kc4.size; omega))
      clear v4 r4 h44 o34 hc4 kc4 h54
      go_wp2_with (at_builtin; refine wpList_app _ rfl _ _ 23 rfl w4.heap.size 5 Try.underlying23 info_u8 E4 (n4 + 8) f4 _ rfl o54 G4 p4 q4 _ rfl o44.rd ?_ ?_ ?_)
      · omega
      · omega
      intro J cJ w4f oJ h64
      have hf4 := he4.trans h64
      have kf4 := ke4.trans (h64.mono s4)
      clear o54 o44 he4 ke4 h64
      obtain ⟨nJ, hnJ⟩ : ∃ n, n = n4 + 8 + p4 := ⟨_, rfl⟩
      rw [← hnJ] at oJ ⊢
      have lJ : nJ ≤ 34359738368 := by omega
      rw [tri_is] at oJ
      clear hnJ
      have rK5 := rK.below hf4
      have rJ := oJ.rd
      have k5 := kf4
      obtain ⟨w5, hw5⟩ : ∃ w5, w5 = w4f := ⟨_, rfl⟩
      rw [← hw5] at k5 rK5 rJ ⊢
      clear hw5 hf4 kf4 oJ rK
      have hnK : (tri a x b).length = nK := rK5.len
      have F1 := FromKey_any K nK cK (tri a x b) 0 w5 rK5 (by omega)
      rw [tri_1] at F1
      obtain ⟨pa, hpa⟩ : ∃ pa, (keyB a).length = pa := ⟨_, rfl⟩
      have F2 : ∀ w', Rd w' K nK (tri a x b) → Calls Try.prog 19 #[.slice K nK cK, .int .i64 (pa : Int)] w' (RetI w' (x, (pa : Int) + 8, 0)) := fun w' h => by
        have := GetOrdI_any K nK cK (tri a x b) (pa : Int) w' h (by omega) hKc.1
        rw [← hpa, tri_2 a x b hx, getOI, if_pos rfl] at this
        simp only [dn_up hx] at this
        rw [← hpa]
        exact this
      have F3 : ∀ w', Rd w' K nK (tri a x b) → Calls Try.prog 21 #[.slice K nK cK, .int .i64 ((pa : Int) + 8)] w' (RetT3 w'.heap.size w' (b.data.toList, (nK : Int), 0)) := fun w' h => by
        have := GetOrdText_any K nK cK (tri a x b) ((pa : Int) + 8) w' h (by omega)
        rw [← hpa, tri_3, hnK] at this
        rw [← hpa]
        exact this
      rw [hpa] at F1
      have HF1 := Lib.hid F1
      have HF2 := Lib.hid F2
      have HF3 := Lib.hid F3
      clear F1 F2 F3 hpa hnK
      go_wp2_with fail
      refine HF1.out.mono ?_
      rintro e w6 ⟨rfl, hb6⟩
      rw [bs_of]
      have k6 := k5.trans (hb6.mono k5.size)
      have rK6 := rK5.below hb6
      have rJ6 := rJ.below hb6
      clear hb6 k5 rK5 rJ HF1
      go_wp2_with fail
      refine (HF2.out _ rK6).mono ?_
      rintro e W ⟨rfl, rfl⟩
      clear HF2
      go_wp2_with fail
      refine (HF3.out _ rK6).mono ?_
      rintro e w7 ⟨D, nD, cD, rfl, oD, hb7⟩
      have k7 := k6.trans (hb7.mono k6.size)
      have rK7 := rK6.below hb7
      have rJ7 := rJ6.below hb7
      have hcv := conv_own oD
      rw [bs_of] at hcv
      clear hb7 k6 rK6 rJ6 HF3
      obtain ⟨c0, hc0⟩ : ∃ c0, cmpB (keyB a) (keyB b) = c0 := ⟨_, rfl⟩
      obtain ⟨z, hz⟩ : ∃ z, cmpB (tri a x b) (tri b y a) = z := ⟨_, rfl⟩
      have hz2 := hz
      rw [cmpB_tri a b x y hx hy, hc0] at hz2
      have HC0 := Lib.hid hc0
      have HZ := Lib.hid hz
      have HZ2 := Lib.hid hz2
      clear hc0 hz hz2
      obtain ⟨d, hd⟩ : ∃ d, (a.toList == b.toList) = d := ⟨_, rfl⟩
      have HD := Lib.hid (eqB_key a b d hd)
      go_wp2_with fail
      refine (Key_any a _ (by omega)).mono ?_
      rintro e w8 ⟨P8, n8, c8, rfl, o8, hb8⟩
      have k8 := k7.trans (hb8.mono k7.size)
      have rK8 := rK7.below hb8
      have rJ8 := rJ7.below hb8
      clear hb8 k7 rK7 rJ7 hcv oD
      go_wp2_with fail
      refine (Key_any b _ (by omega)).mono ?_
      rintro e w9 ⟨P9, n9, c9, rfl, o9, hb9⟩
      have k9 := k8.trans (hb9.mono k8.size)
      have rK9 := rK8.below hb9
      have rJ9 := rJ8.below hb9
      have r8 := o8.rd.below hb9
      clear hb9 k8 rK8 rJ8 o8
      go_wp2_with fail
      refine (Cmp_is _ _ _ _ _ _ _ _ _ HC0.out _ r8 o9.rd).mono ?_
      rintro e W ⟨rfl, rfl⟩
      clear r8 o9
      by_cases h0 : c0 = 0
      · subst h0
        rcases Int.lt_trichotomy x y with h1 | h1 | h1
        · have e1 : ((x : Int) == y) = false := by rw [beq_eq_false_iff_ne]; omega
          have HZ3 : Hid (cmpB (tri a x b) (tri b y a) = -1) := by
            rw [HZ.out, ← HZ2.out, if_pos rfl, if_neg (by omega), if_pos h1]; exact Lib.hid rfl
          go_wp2_with fail
          refine (Cmp_is _ _ _ _ _ _ _ _ _ HZ3.out _ rK9 rJ9).mono ?_
          rintro e W ⟨rfl, rfl⟩
          go_wp2_with fail
          refine (Key_any a _ (by omega)).mono ?_
          rintro e w10 ⟨P10, n10, c10, rfl, o10, hb10⟩
          have k10 := k9.trans (hb10.mono k9.size)
          have hc10 := o10.cap
          go_wp2_with fail
          refine (Key_any b _ (by omega)).mono ?_
          rintro e w11 ⟨P11, n11, c11, rfl, o11, hb11⟩
          have k11 := k10.trans (hb11.mono k10.size)
          have hc11 := o11.cap
          go_wp2_with fail
          refine (Equal_is _ _ _ _ _ _ _ _ d HD.out _ (o10.rd.below hb11) o11.rd (by omega) (by omega)).mono ?_
          rintro e w12 ⟨rfl, q12, rfl⟩
          go_wp2
          go_ret
          exact ⟨rfl, below_drewN k11 _⟩
        · subst h1
          have HZ3 := HZ
          have hz3 : cmpB b.data.toList a.data.toList = z := by
            have := HZ2.out
            rw [if_pos rfl, if_pos rfl] at this
            exact this
          have HZ4 := Lib.hid hz3
          clear hz3
          obtain ⟨ga, wa, va, ra, ha1⟩ := conv_bytes b w9
          obtain ⟨gb, wb, vb, rb, hb1⟩ := conv_bytes a wa
          have kb' := (k9.trans (ha1.mono k9.size)).trans (hb1.mono (by have := k9.size; have := ha1.size; omega))
          have rK' := (rK9.below ha1).below hb1
          have rJ' := (rJ9.below ha1).below hb1
          have ra' := ra.below hb1
          clear ra ha1 hb1 k9 rK9 rJ9
          go_wp2_with fail
          refine (refCmp_is _ _ _ _ _ _ _ _ z HZ4.out _ ra' rb (by have := HM.out; omega) (by have := HM.out; omega)).mono ?_
          rintro e w13 ⟨rfl, q13, rfl⟩
          have k9 := below_drewN kb' q13
          have rK9 := rK'.drewN q13
          have rJ9 := rJ'.drewN q13
          clear kb' rK' rJ' ra' rb va vb
          go_wp2_with fail
          refine (Cmp_is _ _ _ _ _ _ _ _ _ HZ3.out _ rK9 rJ9).mono ?_
          rintro e W ⟨rfl, rfl⟩
          go_wp2_with fail
          refine (Key_any a _ (by omega)).mono ?_
          rintro e w10 ⟨P10, n10, c10, rfl, o10, hb10⟩
          have k10 := k9.trans (hb10.mono k9.size)
          have hc10 := o10.cap
          go_wp2_with fail
          refine (Key_any b _ (by omega)).mono ?_
          rintro e w11 ⟨P11, n11, c11, rfl, o11, hb11⟩
          have k11 := k10.trans (hb11.mono k10.size)
          have hc11 := o11.cap
          go_wp2_with fail
          refine (Equal_is _ _ _ _ _ _ _ _ d HD.out _ (o10.rd.below hb11) o11.rd (by omega) (by omega)).mono ?_
          rintro e w12 ⟨rfl, q12, rfl⟩
          go_wp2
          go_ret
          exact ⟨rfl, below_drewN k11 _⟩
        · have e1 : ((x : Int) == y) = false := by rw [beq_eq_false_iff_ne]; omega
          have h2 : ¬ x < y := by omega
          have HZ3 : Hid (cmpB (tri a x b) (tri b y a) = 1) := by
            rw [HZ.out, ← HZ2.out, if_pos rfl, if_neg (by omega), if_neg h2]; exact Lib.hid rfl
          go_wp2_with fail
          refine (Cmp_is _ _ _ _ _ _ _ _ _ HZ3.out _ rK9 rJ9).mono ?_
          rintro e W ⟨rfl, rfl⟩
          go_wp2_with fail
          refine (Key_any a _ (by omega)).mono ?_
          rintro e w10 ⟨P10, n10, c10, rfl, o10, hb10⟩
          have k10 := k9.trans (hb10.mono k9.size)
          have hc10 := o10.cap
          go_wp2_with fail
          refine (Key_any b _ (by omega)).mono ?_
          rintro e w11 ⟨P11, n11, c11, rfl, o11, hb11⟩
          have k11 := k10.trans (hb11.mono k10.size)
          have hc11 := o11.cap
          go_wp2_with fail
          refine (Equal_is _ _ _ _ _ _ _ _ d HD.out _ (o10.rd.below hb11) o11.rd (by omega) (by omega)).mono ?_
          rintro e w12 ⟨rfl, q12, rfl⟩
          go_wp2
          go_ret
          exact ⟨rfl, below_drewN k11 _⟩
      · have e0 : ((c0 : Int) == 0) = false := by rw [beq_eq_false_iff_ne]; exact h0
        have HZ3 : Hid (cmpB (tri a x b) (tri b y a) = c0) := by
          rw [HZ.out, ← HZ2.out, if_neg h0]; exact Lib.hid rfl
        go_wp2_with fail
        refine (Cmp_is _ _ _ _ _ _ _ _ _ HZ3.out _ rK9 rJ9).mono ?_
        rintro e W ⟨rfl, rfl⟩
        go_wp2_with fail
        refine (Key_any a _ (by omega)).mono ?_
        rintro e w10 ⟨P10, n10, c10, rfl, o10, hb10⟩
        have k10 := k9.trans (hb10.mono k9.size)
        have hc10 := o10.cap
        go_wp2_with fail
        refine (Key_any b _ (by omega)).mono ?_
        rintro e w11 ⟨P11, n11, c11, rfl, o11, hb11⟩
        have k11 := k10.trans (hb11.mono k10.size)
        have hc11 := o11.cap
        go_wp2_with fail
        refine (Equal_is _ _ _ _ _ _ _ _ d HD.out _ (o10.rd.below hb11) o11.rd (by omega) (by omega)).mono ?_
        rintro e w12 ⟨rfl, q12, rfl⟩
        go_wp2
        go_ret
        exact ⟨rfl, below_drewN k11 _⟩

theorem caissonKeys_row (a b : ByteArray) (L : Option Addr) (ln lc : Nat) (js : List Int) (w : World) (_ha : a.size ≤ maxLen) (ha : a.size ≤ 1048576) (_hb : b.size ≤ maxLen) (hb : b.size ≤ 1048576) (hL : RdV w L ln (js.map iv)) (hlc : ln ≤ lc) (hc : lc ≤ 1048576)
    (hj : ∀ z ∈ js, -9223372036854775808 ≤ z ∧ z ≤ 9223372036854775807) :
    Calls Try.prog 8 #[.string a, .string b, .slice L ln lc] w (RetT w true) := caissonKeys_any a b L ln lc js w (by omega) (by omega) hL hlc (by omega) hj

end Go.Proofs.Ytdcboeeblbakhaa
