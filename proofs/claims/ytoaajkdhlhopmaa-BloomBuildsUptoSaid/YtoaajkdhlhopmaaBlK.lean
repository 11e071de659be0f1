/- A filter: the reference's Build. No condition but sizes. -/
import Derived.Test.YtoaajkdhlhopmaaBlJ
namespace Go.Proofs.Ytoaajkdhlhopmaa
open Go Go.RowKit

/-- The cells of these bools. -/
def voB (bs : List Bool) : Array Value := (bs.map Value.bool).toArray
theorem voB_at {bs : List Bool} {i : Nat} {x : Bool} (h : bs[i]? = some x) : (voB bs)[i]? = some (.bool x) := by
  unfold voB
  simp [h]
theorem voB_set (bs : List Bool) (i : Nat) (x : Bool) : (voB bs).setIfInBounds i (.bool x) = voB (bs.set i x) := by
  unfold voB
  simp [List.map_set]
theorem voB_made (s : Nat) : madeCells (Value.bool false).cells s = voB (List.replicate s false) := by
  unfold madeCells voB
  apply Array.ext
  · simp
  · intro i h1 h2
    simp [Value.cells, Nat.mod_one]
theorem info_boB : (Try.prog.info? 4).map (fun i => (i.zero, i.size, i.bytes)) = some (some (.bool false), 1, 1) := by kernel_rfl
theorem make_bools (s : Nat) (hs : s ≤ 1048576) (w : World) : (Instr.makeSlice 113 (.int .i64 (s : Int)) (.int .i64 (s : Int))).run Try.prog w = .ok (.slice (some ⟨w.heap.size, 0, none⟩) s s) (w.alloc (.cells (voB (List.replicate s false)) 4)) := by
  obtain ⟨i, hi, hz, hsz, hby⟩ := info_parts info_boB
  have h := run_make (P := Try.prog) w 113 4 i (.bool false) Try.underlying113 hi hz .i64 .i64 (s : Int) (s : Int) (by omega) (by omega) (by rw [hby]; omega) (by omega)
  rw [hsz, Nat.mul_one, Int.toNat_natCast, voB_made] at h
  exact h
set_option maxRecDepth 100000 in
set_option maxHeartbeats 8000000 in
theorem refBuild_good (A : Option Addr) (n c p0 : Nat) (w : World) (hp : 1 ≤ p0) (hp2 : p0 ≤ 100) (hn : n ≤ 200) (xss : List (List UInt8)) (hx : RdL w A n xss) (hxl : ∀ xs ∈ xss, xs.length ≤ maxLen) :
    Calls Try.prog 37 #[.int .i64 (p0 : Int), .slice A n c] w (RetUn w (filterB p0 xss)) := by
  obtain ⟨q, hq⟩ : ∃ q, q = n * p0 := ⟨_, rfl⟩
  have hq2 : q ≤ 20000 := by rw [hq]; exact Nat.mul_le_mul hn hp2
  obtain ⟨M, hM⟩ : ∃ M, M = if q < 64 then 64 else q := ⟨_, rfl⟩
  have hM2 : 64 ≤ M ∧ M ≤ 20000 := by rw [hM]; split <;> omega
  obtain ⟨t, ht⟩ : ∃ t, t = (M + 7) / 8 := ⟨_, rfl⟩
  have ht2 : 8 ≤ t ∧ t ≤ 2500 := by omega
  have e1 : IntKind.i64.wrap ((p0 : Int) * (n : Int)) = (q : Int) := by
    have : ((p0 : Int) * (n : Int)) = ((n * p0 : Nat) : Int) := by push_cast; exact Int.mul_comm _ _
    rw [IntWalk.i64_in _ (by omega), this, ← hq]
  obtain ⟨k0, hk0⟩ : ∃ k0, k0 = p0 * 69 / 100 := ⟨_, rfl⟩
  obtain ⟨k, hk⟩ : ∃ k, k = min (max k0 1) 30 := ⟨_, rfl⟩
  have hk2 : 1 ≤ k ∧ k ≤ 30 := by omega
  have HM := Lib.hid hM
  have HQ := Lib.hid hq
  have HK := Lib.hid hk
  have HK0 := Lib.hid hk0
  have HT := Lib.hid ht
  have HX := Lib.hid hx
  clear hM hq hk hk0 ht hx
  go_enter Try.func37, Try.ntmps37
  go_upto_if 26 with (fail)
  go_cut [6] from 21 to 26 (fun s6 wx => s6 = .int .i64 (M : Int) ∧ wx = w)
  case first =>
    by_cases h64 : q < 64
    · obtain rfl : M = 64 := by rw [HM.out, if_pos h64]
      go_wp2_with fail
      go_meet
      case rel => exact ⟨rfl, rfl⟩
    · obtain rfl : M = q := by rw [HM.out, if_neg h64]
      go_wp2_with fail
      go_meet
      case rel => exact ⟨rfl, rfl⟩
  case rest =>
    obtain ⟨rfl, hwc⟩ := hcut
    rw [hwc]
    clear hwc wc
    go_wp2_with fail
    go_loopw [6] (fun s6 wr => ∃ y : Nat, M ≤ y ∧ y ≤ 8 * t ∧ s6 = .int .i64 (y : Int) ∧ wr = w) (fun s _ => 8 * t - (intOf s).toNat)
    case atStart => exact ⟨M, Nat.le_refl _, by have := HT.out; omega, rfl, rfl⟩
    case round =>
      obtain ⟨y, hy1, hy2, rfl, rfl⟩ := hrel
      by_cases h8 : y % 8 = 0
      · have hyt : y = 8 * t := by have := HT.out; omega
        have HY := Lib.hid hyt
        have e2 : (y : Int) % 8 = 0 := by omega
        have e3 : (y : Int) / 8 = (t : Int) := by omega
        obtain ⟨t1, ht1⟩ : ∃ t1, t1 = t + 1 := ⟨_, rfl⟩
        have e4 : IntKind.i64.wrap ((t : Int) + 1) = (t1 : Int) := by rw [IntWalk.i64_in _ (by omega)]; omega
        have ht3 : t1 ≤ 2501 := by omega
        have HT1 := Lib.hid ht1
        have hyr : 64 ≤ y ∧ y ≤ 20000 := by omega
        clear hyt hy1 hy2 ht1
        go_upto_region 10 with (fail)
        obtain ⟨k1, hk1⟩ : ∃ k1, k1 = max k0 1 := ⟨_, rfl⟩
        have HK1 := Lib.hid hk1
        have e5 : IntKind.i64.wrap ((p0 : Int) * 69) = ((p0 * 69 : Nat) : Int) := by rw [IntWalk.i64_in _ (by omega)]; omega
        have e6 : ((p0 : Int) * 69) / 100 = (k0 : Int) := by have := HK0.out; omega
        clear hk1
        go_upto_if 40 with (fail)
        go_cut [7] from 36 to 40 (fun s7 wx => s7 = .int .i64 (k1 : Int) ∧ wx = wr)
        case first =>
          by_cases h1 : k0 < 1
          · obtain rfl : k1 = 1 := by have := HK1.out; omega
            go_wp2_with fail
            go_meet
            case rel => exact ⟨rfl, rfl⟩
          · obtain rfl : k1 = k0 := by have := HK1.out; omega
            go_wp2_with fail
            go_meet
            case rel => exact ⟨by rw [e6], rfl⟩
        case rest =>
          obtain ⟨rfl, hwc⟩ := hcut
          rw [hwc]
          clear hwc wc
          go_upto_if 42 with (fail)
          go_cut [7] from 36 to 42 (fun s7 wx => s7 = .int .i64 (k : Int) ∧ wx = wr)
          case first =>
            by_cases h1 : 30 < k1
            · obtain rfl : k = 30 := by have := HK1.out; have := HK.out; omega
              go_wp2_with fail
              go_meet
              case rel => exact ⟨rfl, rfl⟩
            · obtain rfl : k = k1 := by have := HK1.out; have := HK.out; omega
              go_wp2_with fail
              go_meet
              case rel => exact ⟨rfl, rfl⟩
          case rest =>
            obtain ⟨rfl, hwc⟩ := hcut
            rw [hwc]
            clear hwc wc
            have hmk := make_bools y (by omega)
            go_wp2_with fail
            obtain ⟨w0, rfl⟩ : ∃ w0, w0 = wr := ⟨_, rfl⟩
            obtain ⟨W, hW⟩ : ∃ W, W = w0.alloc (.cells (voB (List.replicate y false)) 4) := ⟨_, rfl⟩
            rw [← hW]
            have hW0 : Cl W w0.heap.size (voB (List.replicate (8 * t) false)) 4 ∧ Below w0.heap.size w0 W := by
              rw [hW, ← HY.out]
              exact ⟨Cl.new _ _ _, (Below.refl _ _).alloc (Nat.le_refl _) _⟩
            have HW0 := Lib.hid hW0
            have hb0 : Bits t (buildB (t + 1) k []) (List.replicate (8 * t) false) := by
              unfold buildB
              exact Bits.zero t _
            have HB0 := Lib.hid hb0
            clear hW0 hb0 hW hmk e1 e2 e3 e4 e5 e6
            go_loopw [9] (fun s9 wx => ∃ (i : Nat) (bs : List Bool), i ≤ n ∧ s9 = .int .i64 (i : Int) ∧ Bits t (buildB (t + 1) k (xss.take i)) bs ∧ Cl wx w0.heap.size (voB bs) 4 ∧ Below w0.heap.size w0 wx) (fun s _ => n - (intOf s).toNat)
            case atStart => exact ⟨0, _, Nat.zero_le _, rfl, by rw [List.take_zero]; exact HB0.out, HW0.out⟩
            case round =>
              obtain ⟨i, bs, hi, rfl, hbs, kC, bC⟩ := hrel
              have HBS := Lib.hid (And.intro hbs (And.intro kC bC))
              by_cases hin : i < n
              · obtain ⟨b, off, hA, hbl, hel⟩ := HX.out.2 (by omega)
                obtain ⟨key, hkey⟩ : ∃ key, xss[i]? = some key := ⟨_, List.getElem?_eq_getElem (by have := HX.out.1; omega)⟩
                obtain ⟨v, hv, K, kn, kc, rfl, hrK, _⟩ := hel i key hkey
                have hkn : kn ≤ maxLen := by
                  have h1 := hrK.len
                  have h2 := hxl key (List.mem_of_getElem? hkey)
                  omega
                subst hA
                have HV := Lib.hid hv
                have HRK := Lib.hid hrK
                have hsucc := buildB_succ (s := t + 1) (k := k) hkey
                have HSU := Lib.hid hsucc
                clear hbs kC bC hel hkey hv hrK hsucc
                obtain ⟨F, hF⟩ : ∃ F, F = buildB (t + 1) k (xss.take i) := ⟨_, rfl⟩
                rw [← hF] at HBS HSU
                clear hF
                go_wp2_with fail
                obtain ⟨w1, rfl⟩ : ∃ w1, w1 = wr := ⟨_, rfl⟩
                go_loopw [10] (fun s10 wx => ∃ (j : Nat) (cs : List Bool), j ≤ k ∧ s10 = .int .i64 (j : Int) ∧ Bits t (((List.range j).map (bitN key (8 * t))).foldl putB F) cs ∧ Cl wx w0.heap.size (voB cs) 4 ∧ Below w0.heap.size w0 wx) (fun s _ => k - (intOf s).toNat)
                case atStart => exact ⟨0, bs, Nat.zero_le _, rfl, HBS.out⟩
                case round =>
                  obtain ⟨j, cs, hj, rfl, hcs, kD, bD⟩ := hrel
                  by_cases hjk : j < k
                  · have HBI : Hid (Calls Try.prog 76 #[.slice K kn kc, .int .i64 (j : Int), .int .i64 (y : Int)] wr (RetBi wr (bitN key y j))) := Lib.hid (refBit_any K kn kc key j y wr (HRK.out.below bD) hkn (by omega) (by omega) (by omega))
                    have hz : bitN key y j < y := bitN_lt key (by omega) j
                    obtain ⟨z, hz2⟩ : ∃ z, z = bitN key y j := ⟨_, rfl⟩
                    rw [← hz2] at hz HBI
                    have hput : Bits t (((List.range (j + 1)).map (bitN key (8 * t))).foldl putB F) (putO cs z) := by
                      rw [List.range_succ, List.map_append, List.foldl_append]
                      have := hcs.put (b := z) (by have := HY.out; omega)
                      rw [hz2, HY.out] at this ⊢
                      exact this
                    have HPUT := Lib.hid hput
                    have hc1 : wr.cell? ⟨b, off + i, none⟩ = some (.slice K kn kc) := (bD.cell (p := ⟨b, off + i, none⟩) hbl).trans HV.out
                    have HKD := Lib.hid (And.intro kD bD)
                    clear hput hz2 hcs kD bD
                    go_wp2_with fail
                    with_reducible refine HBI.out.mono ?_
                    rintro e w2 ⟨rfl, q2, hq2⟩
                    have kE : Cl w2 w0.heap.size (voB cs) 4 := by rw [hq2]; exact HKD.out.1
                    have hth := kE.thaw z
                    have HKE := Lib.hid (kE.set z (.bool true))
                    have HBE : Hid (Below w0.heap.size w0 w2) := Lib.hid (by rw [hq2]; exact below_drewN HKD.out.2 q2)
                    obtain ⟨ob, hob⟩ : ∃ ob, cs[z]? = some ob := by
                      have h1 : (putO cs z).length = 8 * t := HPUT.out.2.1
                      have h2 : cs.length = 8 * t := by rw [← h1, putO, List.length_set]
                      exact ⟨_, List.getElem?_eq_getElem (by have := HY.out; omega)⟩
                    have hcz := (kE.cell z).trans (voB_at hob)
                    clear hq2 kE hob
                    go_wp2_with fail
                    refine ⟨⟨j + 1, putO cs z, by omega, by go_num, HPUT.out, by have h := HKE.out; rw [voB_set] at h; exact h, HBE.out.setCell (p := ⟨w0.heap.size, z, none⟩) (Nat.le_refl _) _⟩, ?_⟩
                    simp [intOf]; omega
                  · obtain rfl : j = k := by omega
                    have hfin : Bits t (buildB (t + 1) j (xss.take (i + 1))) cs := by rw [HSU.out]; exact hcs
                    have HF := Lib.hid (And.intro hfin (And.intro kD bD))
                    clear hfin hcs kD bD
                    go_wp2_with fail
                    go_roundw
                    case rel => exact ⟨i + 1, cs, by omega, by go_num, HF.out⟩
                    case measure => simp [intOf]; omega
              · obtain rfl : i = n := by omega
                clear hbs kC bC
                obtain ⟨F, hF⟩ : ∃ F, F = buildB (t + 1) k (xss.take i) := ⟨_, rfl⟩
                rw [← hF] at HBS
                have HF := Lib.hid hF
                have hFl : F.length = t + 1 := by rw [hF]; exact buildB_len _ _ _
                clear hF
                go_wp2_with fail
                obtain ⟨w1, rfl⟩ : ∃ w1, w1 = wr := ⟨_, rfl⟩
                go_loopw [11, 12] (fun s11 s12 wx => ∃ (r p : Nat) (O : Option Addr) (oc : Nat), r ≤ t ∧ p = 8 * r ∧ s12 = .int .i64 (p : Int) ∧ s11 = .slice O r oc ∧ Own 5 wx w1.heap.size O r oc (F.take r) ∧ Below w1.heap.size w1 wx) (fun _ s _ => 8 * t - (intOf s).toNat)
                case atStart => exact ⟨0, 0, none, 0, Nat.zero_le _, rfl, rfl, rfl, Own.nil _ _ _, Below.refl _ _⟩
                case round =>
                  obtain ⟨r, p, O, oc, hr, hp, rfl, rfl, oO, bO⟩ := hrel
                  have HPR := Lib.hid hp
                  clear hp
                  by_cases hrt : r < t
                  · have hpy : p < y := by have := HPR.out; have := HY.out; omega
                    have KS : Hid (Cl wr w0.heap.size (voB bs) 4) := Lib.hid (HBS.out.2.1.below bO)
                    have HO := Lib.hid (And.intro oO bO)
                    clear oO bO
                    obtain ⟨w2, rfl⟩ : ∃ w2, w2 = wr := ⟨_, rfl⟩
                    go_wp2_with fail
                    go_loopw [13, 14] (fun s13 s14 wx => ∃ (d : Nat) (j : Int) (bb : Nat), d ≤ 8 ∧ j = 7 - (d : Int) ∧ bb = byteO bs (8 * r) d ∧ s14 = .int .i64 j ∧ s13 = .int .i64 (bb : Int) ∧ wx = w2) (fun _ s _ => (intOf s + 1).toNat)
                    case atStart => exact ⟨0, 7, 0, by omega, by omega, rfl, rfl, rfl, by first | trivial | rfl⟩
                    case round =>
                      obtain ⟨d, j, bb, hd, hj, hbb, rfl, rfl, hXX⟩ := hrel
                      have hby := byteO_lt bs (8 * r) d
                      have h2d : 2 ^ d ≤ 256 := Nat.le_trans (Nat.pow_le_pow_right (by omega) hd) (by decide)
                      have hbl : bb < 256 := by omega
                      by_cases hd8 : d < 8
                      · obtain ⟨x, hxx⟩ : ∃ x, bs[8 * r + (7 - d)]? = some x := ⟨_, List.getElem?_eq_getElem (by have := HBS.out.1.2.1; omega)⟩
                        have hstep : byteO bs (8 * r) (d + 1) = 2 * byteO bs (8 * r) d + (if x then 1 else 0) := by
                          rw [byteO, hxx]
                          rfl
                        rw [← hbb] at hstep
                        obtain ⟨z, hz⟩ : ∃ z, z = p + (7 - d) := ⟨_, rfl⟩
                        have hzz : 8 * r + (7 - d) = z := by rw [hz, HPR.out]
                        rw [hzz] at hxx
                        have hcx : wr.cell? ⟨w0.heap.size, z, none⟩ = some (.bool x) := by rw [hXX]; exact (KS.out.cell z).trans (voB_at hxx)
                        obtain ⟨b2, hb2⟩ : ∃ b2, b2 = 2 * bb := ⟨_, rfl⟩
                        have f1 : IntKind.i64.wrap (2 * (bb : Int)) = (b2 : Int) := by rw [IntWalk.i64_in _ (by omega)]; omega
                        have f2 : IntKind.i64.wrap ((p : Int) + j) = (z : Int) := by rw [IntWalk.i64_in _ (by omega)]; omega
                        have f5 : (0 : Int) ≤ j := by omega
                        have f3 : IntKind.i64.wrap (j - 1) = j - 1 := by rw [IntWalk.i64_in _ (by omega)]
                        have hzy : z < y := by have := HY.out; have := HPR.out; omega
                        have hb3 : b2 < 512 := by omega
                        have HXX := Lib.hid hXX
                        have HST := Lib.hid hstep
                        have HB2 := Lib.hid hb2
                        have HJ := Lib.hid hj
                        clear hXX hstep hbb hby h2d hxx hz hzz hb2 hj
                        cases x with
                        | true =>
                          go_wp2_with fail
                          go_roundw
                          case rel => exact ⟨d + 1, j - 1, b2 + 1, by omega, by have := HJ.out; omega, by have h1 := HST.out; have h2 := HB2.out; rw [if_pos rfl] at h1; omega, by go_num, by go_num, HXX.out⟩
                          case measure => simp [intOf]; omega
                        | false =>
                          go_wp2_with fail
                          go_roundw
                          case rel => exact ⟨d + 1, j - 1, b2, by omega, by have := HJ.out; omega, by have h1 := HST.out; have h2 := HB2.out; simp only [Bool.false_eq_true, if_false] at h1; omega, by go_num, by go_num, HXX.out⟩
                          case measure => simp [intOf]; omega
                      · obtain rfl : d = 8 := by omega
                        obtain rfl : j = -1 := by omega
                        obtain ⟨x, hx⟩ : ∃ x, F[r]? = some x := ⟨_, List.getElem?_eq_getElem (by omega)⟩
                        have hbx : bb = x.toNat := by rw [hbb]; exact Bits.byte HBS.out.1 (by omega) hx
                        subst hbx
                        have htk : F.take (r + 1) = F.take r ++ [x] := take_snoc' F r x hx
                        have HTK := Lib.hid htk
                        have HWX := Lib.hid hXX
                        have f6 : IntKind.u8.wrap (x.toNat : Int) = (x.toNat : Int) := by rw [IntKind.wrap_u8]; omega
                        have oW : Own 5 wr w1.heap.size O r oc (F.take r) := by rw [hXX]; exact HO.out.1
                        have bW : Below w1.heap.size w1 wr := by rw [hXX]; exact HO.out.2
                        have hbs := bW.size
                        have BW := Lib.hid bW
                        clear hbb hby h2d hx htk hXX bW
                        go_wp2_with (at_builtin; refine wpList_app _ rfl _ _ 22 rfl w1.heap.size 5 Try.underlying22 info_u8 O r oc (F.take r) rfl (oW.alloc _) _ 1 1 [x] rfl (Rd.one _ _ _ _ rfl) ?_ ?_ ?_)
                        · omega
                        · simp; omega
                        intro A2 c2 w3 o3 b3
                        have b3' : Below w1.heap.size w1 w3 := (BW.out.alloc hbs _).trans b3
                        have H3 := Lib.hid (And.intro o3 b3')
                        clear oW o3 b3 b3'
                        go_wp2_with fail
                        go_roundw
                        case rel => exact ⟨r + 1, p + 8, A2, c2, by omega, by have := HPR.out; omega, by go_num, rfl, by rw [HTK.out]; exact H3.out.1, H3.out.2⟩
                        case measure => have := HPR.out; simp [intOf]; omega
                  · obtain rfl : r = t := by omega
                    have hpy : ¬ p < y := by have := HPR.out; have := HY.out; omega
                    have hFF : F = filterB p0 xss := by
                      have h1 := HF.out
                      have h2 := HX.out.1
                      rw [h1, List.take_of_length_le (by omega)]
                      unfold filterB
                      rw [h2, ← HQ.out, ← HM.out, ← HT.out, ← HK0.out, ← HK.out]
                    have hlast : F[r]? = some (UInt8.ofNat k) := by
                      have h := buildB_last (s := r + 1) (k := k) (by omega) (xss.take i)
                      rw [← HF.out] at h
                      exact h
                    have hall : F.take r ++ [bt k] = filterB p0 xss := by
                      rw [← hFF]
                      have h := take_snoc' F r _ hlast
                      rw [List.take_of_length_le (by omega)] at h
                      exact h.symm
                    have hlen : (filterB p0 xss).length = r + 1 := by rw [← hFF]; exact hFl
                    have f6 : IntKind.u8.wrap (k : Int) = (k : Int) := by rw [IntKind.wrap_u8]; omega
                    have hbs := bO.size
                    have BW := Lib.hid bO
                    have HALL := Lib.hid hall
                    have HLEN := Lib.hid hlen
                    have B1 := Lib.hid HBS.out.2.2
                    clear hFF hlast hall hlen bO
                    go_wp2_with (at_builtin; refine wpList_app _ rfl _ _ 22 rfl w1.heap.size 5 Try.underlying22 info_u8 O r oc (F.take r) rfl (oO.alloc _) _ 1 1 [bt k] rfl (Rd.one _ _ _ _ ?_) ?_ ?_ ?_)
                    · rw [bt_nat k (by omega)]
                    · omega
                    · simp; omega
                    intro A2 c2 w3 o3 b3
                    have b3' : Below w1.heap.size w1 w3 := (BW.out.alloc hbs _).trans b3
                    rw [HALL.out] at o3
                    have H3 := Lib.hid (And.intro o3 b3')
                    clear o3 b3 b3'
                    go_wp2_with fail
                    have s0 := B1.out.size
                    refine bodyPost_ret (v := .tuple #[.slice A2 (r + 1) c2, .int .i64 0]) (by simp [results, Try.f37, go_sem]; try rfl) rfl ?_
                    unfold RetUn
                    rw [HLEN.out]
                    exact ⟨A2, c2, rfl, H3.out.1.mono s0, B1.out.trans (H3.out.2.mono s0)⟩
      · have e2 : ¬ (y : Int) % 8 = 0 := by omega
        have e3 : IntKind.i64.wrap ((y : Int) + 1) = ((y + 1 : Nat) : Int) := by rw [IntWalk.i64_in _ (by omega)]; omega
        go_wp2_with fail
        go_roundw
        case rel => exact ⟨y + 1, by omega, by have := HT.out; omega, by go_num, by first | trivial | rfl⟩
        case measure => have := HT.out; simp [intOf]; omega
end Go.Proofs.Ytoaajkdhlhopmaa
