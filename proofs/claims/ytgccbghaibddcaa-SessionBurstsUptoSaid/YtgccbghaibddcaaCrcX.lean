/- The program's Open: the record at a place, in new memory, and the place behind it; or the kind of what is wrong. -/
import Derived.Test.YtgccbghaibddcaaCrcP
import Derived.Test.YtgccbghaibddcaaCrcV
import Derived.Deep.QuietTactic
import Derived.BigQuiet
import Derived.IntWalk
namespace Go.Proofs.Ytgccbghaibddcaa
open Go Go.RowKit

theorem cutA_none {A : Option Addr} {k c : Nat} (hnil : A = none → c = 0) (hk : k ≤ c) : cutA A k c = none → c - k = 0 := fun h => by
  unfold cutA at h
  split at h
  · have := hnil h; omega
  · cases A with
    | none => have := hnil rfl; omega
    | some a => cases h

set_option maxRecDepth 100000 in
set_option maxHeartbeats 2000000 in
theorem Open_any (A : Option Addr) (n c : Nat) (z : Int) (xs : List UInt8) (w : World) (hx : Rd w A n xs) (hn : n ≤ 1099511627776) (hcap : n ≤ c) (hnil : A = none → c = 0) (hz : I64 z) :
    Calls Try.prog 36 #[.slice A n c, .int .i64 z] w (RetO w.heap.size w (openG xs z)) := by
  have HL := Lib.hid hx.len
  by_cases hneg : z < 0
  · have G := Lib.hid (openG_arg (xs := xs) (.inl hneg))
    go_enter Try.func36, Try.ntmps36
    have h1 : decide (z < 0) = true := by simpa using hneg
    go_wp2
    go_ret3
    exact RetO_none G.out (Below.refl _ _)
  · have h1 : decide (z < 0) = false := by simpa using hneg
    by_cases hbig : (n : Int) < z
    · have G := Lib.hid (openG_arg (xs := xs) (.inr (by rw [HL.out]; exact hbig)))
      have h2 : decide ((n : Int) < z) = true := by simpa using hbig
      go_enter Try.func36, Try.ntmps36
      go_wp2
      go_ret3
      exact RetO_none G.out (Below.refl _ _)
    · obtain ⟨a, rfl⟩ : ∃ a : Nat, z = a := ⟨z.toNat, by omega⟩
      have han : a ≤ n := by omega
      have h2 : decide (n < a) = false := by simp; omega
      clear hbig hneg h1 hz
      have hsl : ∀ w, (Instr.slice 30 (.slice A n c) (some (.int .i64 (a : Int))) none none).run Try.prog w = .ok (.slice (cutA A a c) (n - a) (c - a)) w :=
        cut_l Try.underlying30 elem_bytes size_u8 A han
      have hr : Rd w (cutA A a c) (n - a) (xs.drop a) := by
        have h := hx.cut (k := a) (m := n) han (Nat.le_refl _) hcap
        rw [List.take_of_length_le (by rw [HL.out]; omega)] at h
        exact h
      have hRnil := cutA_none hnil (show a ≤ c by omega)
      obtain ⟨R, hR⟩ : ∃ R, R = cutA A a c := ⟨_, rfl⟩
      obtain ⟨N, hN⟩ : ∃ N, N = n - a := ⟨_, rfl⟩
      obtain ⟨K, hK⟩ : ∃ K, K = c - a := ⟨_, rfl⟩
      obtain ⟨rs, hrs⟩ : ∃ rs, rs = xs.drop a := ⟨_, rfl⟩
      rw [← hR, ← hN, ← hK] at hsl
      rw [← hR, ← hK] at hRnil
      rw [← hR, ← hN, ← hrs] at hr
      have hNK : N ≤ K := by omega
      have hNa : n = a + N := by omega
      have HRN := Lib.hid hRnil
      have HRS := Lib.hid hrs
      have HNA := Lib.hid hNa
      have hN40 : N ≤ 1099511627776 := by omega
      have ha40 : a ≤ 1099511627776 := by omega
      clear hnil hRnil hR hN hK hrs hNa hcap
      by_cases h8 : N < 8
      · have G := Lib.hid (openG_end (xs := xs) HL.out han (by have := HNA.out; omega))
        have h3 : decide (N < 8) = true := by simpa using h8
        go_enter Try.func36, Try.ntmps36
        go_wp2
        go_ret3
        exact RetO_none G.out (Below.refl _ _)
      · have h3 : decide (N < 8) = false := by simpa using h8
        have hs4 : ∀ w, (Instr.slice 30 (.slice R N K) (some (.int .i64 4)) none none).run Try.prog w = .ok (.slice (cutA R 4 K) (N - 4) (K - 4)) w :=
          cut_l Try.underlying30 elem_bytes size_u8 R (k := 4) (by omega)
        have hr4 : Rd w (cutA R 4 K) (N - 4) (rs.drop 4) := by
          have h := hr.cut (k := 4) (m := N) (by omega) (Nat.le_refl _) hNK
          rw [List.take_of_length_le (by rw [hr.len]; omega)] at h
          exact h
        have HG1 : Hid (∀ w', Rd w' R N rs → Calls Try.prog 70 #[.slice R N K] w' fun e w'' => e = .returned (.int .u32 (numK rs 4 : Int)) ∧ ∃ q, w'' = w'.drewN q) := Lib.hid (fun w' h => (getWord_any R N K rs w' h (by omega) hN40 hNK).mono fun _ _ h => h)
        have HG2 : Hid (∀ w', Rd w' (cutA R 4 K) (N - 4) (rs.drop 4) → Calls Try.prog 70 #[.slice (cutA R 4 K) (N - 4) (K - 4)] w' fun e w'' => e = .returned (.int .u32 (numK (rs.drop 4) 4 : Int)) ∧ ∃ q, w'' = w'.drewN q) := Lib.hid (fun w' h => (getWord_any _ _ _ _ w' h (by omega) (by omega) (by omega)).mono fun _ _ h => h)
        obtain ⟨R4, hR4⟩ : ∃ R4, R4 = cutA R 4 K := ⟨_, rfl⟩
        obtain ⟨N4, hN4⟩ : ∃ N4, N4 = N - 4 := ⟨_, rfl⟩
        obtain ⟨K4, hK4⟩ : ∃ K4, K4 = K - 4 := ⟨_, rfl⟩
        rw [← hR4, ← hN4, ← hK4] at hs4 HG2
        rw [← hR4, ← hN4] at hr4
        clear hR4 hN4 hK4
        obtain ⟨m, hm⟩ : ∃ m, m = numK rs 4 := ⟨_, rfl⟩
        obtain ⟨sm, hsm⟩ : ∃ sm, sm = numK (rs.drop 4) 4 := ⟨_, rfl⟩
        have hm32 : m < 4294967296 := by rw [hm]; exact numK_lt rs 4
        have hsm32 : sm < 4294967296 := by rw [hsm]; exact numK_lt _ 4
        rw [← hm] at HG1
        rw [← hsm] at HG2
        have Hm := Lib.hid hm
        have Hsm := Lib.hid hsm
        have HM : Hid (m = numK (xs.drop a) 4) := Lib.hid (by rw [hm, HRS.out])
        clear hm hsm
        go_enter Try.func36, Try.ntmps36
        go_wp2
        go_quiet ((first | (go_at_call 70; with_reducible exact Calls.quiet_of (HG1.out _ (hr.drewN _))) | (go_at_call 70; with_reducible exact Calls.quiet_of (HG2.out _ (hr4.drewN _)))))
        obtain ⟨W, hW⟩ : ∃ W, W = w.drewN nq := ⟨_, rfl⟩
        have hrW : Rd W R N rs := by rw [hW]; exact hr.drewN _
        have hb0 : Below w.heap.size w W := by rw [hW]; exact below_drewN (Below.refl _ _) _
        rw [← hW]
        clear hW HG1 HG2 hs4 hr4 hsl hr h2
        have hi0 : IntKind.i64.wrap (m : Int) = (m : Int) := IntWalk.i64_in _ (by omega)
        by_cases hsz : 1048576 < m
        · have G := Lib.hid (openG_size (xs := xs) HL.out (by have := HNA.out; omega) HM.out hsz)
          have h4 : decide (1048576 < m) = true := by simpa using hsz
          go_wp2
          go_ret3
          exact RetO_none G.out hb0
        · have h4 : decide (1048576 < m) = false := by simpa using hsz
          by_cases hcut : N < 8 + m
          · have G := Lib.hid (openG_cut (xs := xs) HL.out (by have := HNA.out; omega) HM.out hsz (by have := HNA.out; omega))
            have h5 : decide ((N : Int) < 8 + (m : Int)) = true := by simp; omega
            go_wp2
            go_ret3
            exact RetO_none G.out hb0
          · have h5 : decide ((N : Int) < 8 + (m : Int)) = false := by simp; omega
            have hsi : ∀ w, (Instr.slice 30 (.slice R N K) (some (.int .i64 8)) (some (.int .i64 (8 + (m : Int)))) none).run Try.prog w = .ok (.slice (cutA R 8 K) m (K - 8)) w := fun w => by
              have h := cut_lh Try.underlying30 elem_bytes size_u8 R (n := N) (cap := K) (k := 8) (m := 8 + m) (by omega) (by omega) w
              rw [Nat.add_sub_cancel_left] at h
              exact h
            have hsh : ∀ w, (Instr.slice 30 (.slice R N K) none (some (.int .i64 4)) none).run Try.prog w = .ok (.slice R 4 K) w :=
              cut_h Try.underlying30 elem_bytes size_u8 R (m := 4) (by omega)
            have hri : Rd W (cutA R 8 K) m ((rs.take (8 + m)).drop 8) := by
              have h := hrW.cut (k := 8) (m := 8 + m) (by omega) (by omega) hNK
              rw [Nat.add_sub_cancel_left] at h
              exact h
            have hrh : Rd W R 4 (rs.take 4) := by
              have h := hrW.cut (k := 0) (m := 4) (by omega) (by omega) hNK
              rw [List.drop_zero] at h
              have e : cutA R 0 K = R := by
                unfold cutA
                rw [if_neg (by omega)]
                cases R <;> simp [Addr.add]
              rw [e] at h
              exact h
            have hin : cutA R 8 K = none → K - 8 = 0 := cutA_none HRN.out (by omega)
            have hR0 : R = none → K = 0 := HRN.out
            obtain ⟨I, hI⟩ : ∃ I, I = cutA R 8 K := ⟨_, rfl⟩
            obtain ⟨KI, hKI⟩ : ∃ KI, KI = K - 8 := ⟨_, rfl⟩
            have hmKI : m ≤ KI := by omega
            obtain ⟨bd, hbd⟩ : ∃ bd, bd = (rs.take (8 + m)).drop 8 := ⟨_, rfl⟩
            rw [← hI, ← hKI] at hsi hin
            rw [← hI, ← hbd] at hri
            have hbl := hri.len
            have hhl := hrh.len
            have hrl := hrW.len
            have hwe := whole_eq Hm.out (by rw [hrl]; omega)
            have e1 : (xs.take (a + 8 + m)).drop (a + 8) = bd := by
              rw [hbd, HRS.out, List.drop_take, List.drop_take, List.drop_drop, show a + 8 + m - (a + 8) = m by omega, show 8 + m - 8 = m by omega]
            have e2 : (xs.take (a + 8 + m)).drop a = rs.take (8 + m) := by
              rw [HRS.out, List.drop_take, show a + 8 + m - a = 8 + m by omega]
            have G := Lib.hid (openG_whole (xs := xs) HL.out HM.out hsz (by have := HNA.out; omega))
            rw [e1, e2] at G
            rw [← hbd, ← Hsm.out] at hwe
            have hap : a + (8 + m) = a + 8 + m := by omega
            have HAP := Lib.hid hap
            obtain ⟨zc, hzc⟩ : ∃ zc, zc = crcB (rs.take 4 ++ bd) := ⟨_, rfl⟩
            have hfl : [rs.take 4, bd].flatten = rs.take 4 ++ bd := by simp
            have HZC : Hid (crcB [rs.take 4, bd].flatten = zc) := Lib.hid (by rw [hfl, hzc])
            rw [← hzc] at hwe
            have hRa : R ≠ none := fun e => by have := hR0 e; omega
            have hts : tot [rs.take 4, bd] ≤ 1099511627776 := by simp only [tot, hhl, hbl]; omega
            have hL2 : RdL (W.alloc (.cells #[.slice R 4 K, .slice I m KI] 30)) (some ⟨W.heap.size, 0, none⟩) 2 [rs.take 4, bd] :=
              rdl_two ⟨R, 4, K, rfl, hrh, by omega, fun e => absurd e hRa⟩ ⟨I, m, KI, rfl, hri, hmKI, hin⟩ _ rfl
            have HIN := Lib.hid hin
            have HL2 := Lib.hid hL2
            clear hI hKI hbd hzc hfl e1 e2 hrW hrh hRa hap hL2 hin
            go_wp2_with fail
            have HS := Sum_any (some ⟨W.heap.size, 0, none⟩) 2 2 [rs.take 4, bd] _ HL2.out hts
            rw [HZC.out] at HS
            refine HS.mono ?_
            clear HS
            rintro e w1 ⟨rfl, hb1⟩
            have hb1 : Below W.heap.size W w1 := ((Below.refl _ _).alloc (Nat.le_refl _) _).trans (hb1.mono (by simp))
            have hr1 := hri.below hb1
            have hbw1 := hb0.trans (hb1.mono hb0.size)
            by_cases hsum : zc = sm
            · have F := Lib.hid (G.out.trans (if_pos (hwe.2 hsum)))
              have hne : ((zc : Int) != (sm : Int)) = false := by rw [hsum]; simp
              go_wp2_with fail
              refine (Clone_any I m KI bd _ hr1 (by omega) HIN.out).mono ?_
              rintro e w2 ⟨B, bn, bc, rfl, oB, hb2⟩
              go_wp2
              go_ret3
              have hbn : bn = m := by rw [← oB.len, hbl]
              subst hbn
              refine ⟨B, bn, bc, by rw [F.out, ← HAP.out]; rfl, ?_, hbw1.trans (hb2.mono hbw1.size)⟩
              rw [F.out]
              exact oB.mono hbw1.size
            · have F := Lib.hid (G.out.trans (if_neg (fun h => hsum (hwe.1 h))))
              have hne : ((zc : Int) != (sm : Int)) = true := by simp; omega
              go_wp2
              go_ret3
              exact RetO_none F.out hbw1
end Go.Proofs.Ytgccbghaibddcaa
