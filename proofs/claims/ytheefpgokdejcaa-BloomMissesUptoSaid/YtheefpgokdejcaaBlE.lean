/- A filter's reference: a key's bit, May. No condition but sizes. -/
import Derived.Test.YtheefpgokdejcaaBlD
namespace Go.Proofs.Ytheefpgokdejcaa
open Go Go.RowKit

theorem sum_ref (h i : Nat) : IntKind.u64.wrap ((h : Int) % 4294967296 + IntKind.u64.wrap ((i : Int) * (stepN h : Int))) = (sumN h i : Int) := by
  rw [IntKind.wrap_u64, IntKind.wrap_u64]
  unfold sumN
  have h1 : ((i : Int) * (stepN h : Int)) = ((i * stepN h : Nat) : Int) := by push_cast; rfl
  rw [h1]
  generalize i * stepN h = a
  omega
theorem step_even {h : Nat} (hh : h < 18446744073709551616) (he : h / 4294967296 % 2 = 0) : IntKind.u64.wrap ((h : Int) / 4294967296 + 1) = (stepN h : Int) := by
  rw [IntKind.wrap_u64]
  unfold stepN
  omega
theorem step_odd {h : Nat} (he : ¬ h / 4294967296 % 2 = 0) : (h : Int) / 4294967296 = (stepN h : Int) := by
  unfold stepN
  omega
theorem bit_val {z i m : Nat} {c : Int} (hc : c = (stepN z : Int)) (hm : 0 < m) (hm2 : m < 9223372036854775808) : wrap64 ((IntKind.u64.wrap ((z : Int) % 4294967296 + IntKind.u64.wrap ((i : Int) * c))).tmod (m : Int)) = ((sumN z i % m : Nat) : Int) := by
  have hlt : sumN z i % m < m := Nat.mod_lt _ hm
  have h5 : ((sumN z i : Int) % (m : Int)) = ((sumN z i % m : Nat) : Int) := by push_cast; rfl
  rw [hc, sum_ref, Int.tmod_eq_emod_of_nonneg (by omega), h5]
  unfold wrap64
  omega
def RetBi (w : World) (z : Nat) (e : Ending) (w' : World) : Prop := e = .returned (.int .i64 (z : Int)) ∧ ∃ q, w' = w.drewN q
set_option maxRecDepth 100000 in
set_option maxHeartbeats 4000000 in
theorem refBit_any (A : Option Addr) (n c : Nat) (xs : List UInt8) (i m : Nat) (w : World) (h : Rd w A n xs) (hn : n ≤ maxLen) (hi : i ≤ 255) (hm : 0 < m) (hm2 : m < 9223372036854775808) :
    Calls Try.prog 81 #[.slice A n c, .int .i64 (i : Int), .int .i64 (m : Int)] w (RetBi w (bitN xs m i)) := by
  obtain ⟨z, hz⟩ : ∃ z, z = hashB xs := ⟨_, rfl⟩
  have hzl : z < 18446744073709551616 := by rw [hz]; exact hashB_lt _
  have HH : Hid (Calls Try.prog 46 #[.slice A n c] w (RetH w z)) := Lib.hid (by rw [hz]; exact refHash_any A n c xs w h hn)
  have e1 : IntKind.u64.wrap (i : Int) = (i : Int) := by rw [IntKind.wrap_u64]; omega
  have e2 : IntKind.u64.wrap (m : Int) = (m : Int) := by rw [IntKind.wrap_u64]; omega
  have e3 := sum_ref z i
  have hm0 : (m : Int) ≠ 0 := by omega
  have hb : bitN xs m i = sumN z i % m := by unfold bitN; rw [← hz]
  have hlt : sumN z i % m < m := Nat.mod_lt _ hm
  have e4 : IntKind.i64.wrap ((sumN z i : Int) % (m : Int)) = ((sumN z i % m : Nat) : Int) := by rw [IntWalk.i64_in _ (by omega)]; omega
  have HB := Lib.hid hb
  rw [HB.out]
  clear hb hz h hlt
  go_enter Try.func81, Try.ntmps81
  go_wp2_with fail
  with_reducible refine HH.out.mono ?_
  rintro e w' ⟨rfl, q, hq⟩
  go_wp2_with fail
  · rename_i hE
    have he : z / 4294967296 % 2 = 0 := by simp at hE; omega
    have hc : (z : Int) / 4294967296 + 1 = (stepN z : Int) := by unfold stepN; omega
    have hv := bit_val (i := i) hc hm hm2
    go_ret
    rw [hv]
    exact ⟨rfl, q, rfl⟩
  · rename_i hE
    have he : ¬ z / 4294967296 % 2 = 0 := by simp at hE; omega
    have hv := bit_val (i := i) (step_odd he) hm hm2
    go_ret
    rw [hv]
    exact ⟨rfl, q, rfl⟩
def RetRm (w : World) (z : Bool × Int) (e : Ending) (w' : World) : Prop := e = .returned (.tuple #[.bool z.1, .int .i64 z.2]) ∧ ∃ q, w' = w.drewN q
set_option maxRecDepth 100000 in
set_option maxHeartbeats 4000000 in
theorem refMay_any (A : Option Addr) (n c : Nat) (fs : List UInt8) (K : Option Addr) (kn kc : Nat) (key : List UInt8) (w : World) (h : Rd w A n fs) (hn : n ≤ 140737488351232) (hk : Rd w K kn key) (hkn : kn ≤ maxLen) :
    Calls Try.prog 52 #[.slice A n c, .slice K kn kc] w (RetRm w (mayB fs key)) := by
  unfold mayB
  rw [h.len]
  cases hg : goodB fs with
  | false =>
    have HIF : Hid (Calls Try.prog 54 #[.slice A n c] w (RetBo w false)) := Lib.hid (by rw [← hg]; exact good9_any A n c fs w h hn)
    clear h hk hg
    go_enter Try.func52, Try.ntmps52
    go_wp2_with fail
    with_reducible refine HIF.out.mono ?_
    rintro e w' ⟨rfl, rfl⟩
    go_wp2_with fail
    exact bodyPost_ret (v := .tuple #[.bool false, .int .i64 3]) (by simp [results, Try.f52, go_sem]; try rfl) rfl ⟨rfl, 0, rfl⟩
  | true =>
    have h2 : 2 ≤ n := by
      rcases Nat.lt_or_ge n 2 with h' | h'
      · rw [goodB_short (by have := h.len; omega)] at hg; cases hg
      · exact h'
    have HIF : Hid (Calls Try.prog 54 #[.slice A n c] w (RetBo w true)) := Lib.hid (by rw [← hg]; exact good9_any A n c fs w h hn)
    obtain ⟨b, off, rfl, hbl⟩ := h.pos (by omega)
    obtain ⟨x, hx1, hx2, hx3⟩ := h.at_ (n - 1) (by omega)
    have hnum : numB fs = x.toNat := by
      unfold numB
      rw [List.getLast?_eq_getElem?, h.len, hx1]
    have HCE : Hid (∀ i, i < n → ∃ y, fs[i]? = some y ∧ w.cell? ⟨b, off + i, none⟩ = some (.int .u8 (y.toNat : Int))) := Lib.hid fun i hi => by
      obtain ⟨y, e1, e2, _⟩ := h.at_ i hi
      exact ⟨y, e1, e2⟩
    obtain ⟨m, hm⟩ : ∃ m, m = 8 * (n - 1) := ⟨_, rfl⟩
    have hm0 : 0 < m := by omega
    have hx255 : x.toNat ≤ 255 := by omega
    have e1 : IntKind.i64.wrap ((n : Int) - 1) = ((n - 1 : Nat) : Int) := by rw [IntWalk.i64_in _ (by omega)]; omega
    have e2 : IntKind.i64.wrap (8 * ((n - 1 : Nat) : Int)) = (m : Int) := by rw [IntWalk.i64_in _ (by omega)]; omega
    have e3 : IntKind.i64.wrap (x.toNat : Int) = (x.toNat : Int) := by rw [IntWalk.i64_in _ (by omega)]
    have HX2 := Lib.hid hx2
    have HN := Lib.hid hnum
    have HK := Lib.hid hk
    rw [← hm]
    clear hg h hk hx1 hnum
    go_enter Try.func52, Try.ntmps52
    go_wp2_with fail
    with_reducible refine HIF.out.mono ?_
    rintro e w' ⟨rfl, rfl⟩
    go_wp2_with fail
    clear hx2 hx3
    go_loopw [7] (fun s7 wr => ∃ j q : Nat, j ≤ x.toNat ∧ s7 = .int .i64 (j : Int) ∧ (∀ i, i < j → setB fs (bitN key m i) = true) ∧ wr = w'.drewN q) (fun s _ => x.toNat - (intOf s).toNat)
    case atStart => exact ⟨0, 0, Nat.zero_le _, rfl, fun i hi => absurd hi (by omega), rfl⟩
    case round =>
      obtain ⟨j, q, hj, rfl, hall, hX⟩ := hrel
      have HX := Lib.hid hX
      have HALL := Lib.hid hall
      have hcx : wr.cell? ⟨b, off + (n - 1), none⟩ = some (.int .u8 (x.toNat : Int)) := by
        rw [hX]
        exact HX2.out
      by_cases hlt : j < x.toNat
      · have HBI : Hid (Calls Try.prog 81 #[.slice K kn kc, .int .i64 (j : Int), .int .i64 (m : Int)] wr (RetBi wr (bitN key m j))) := Lib.hid (refBit_any K kn kc key j m wr (by rw [hX]; exact HK.out.drewN q) hkn (by omega) hm0 (by omega))
        obtain ⟨y, hy⟩ : ∃ y, y = bitN key m j := ⟨_, rfl⟩
        have hym : y < m := by rw [hy]; exact bitN_lt key hm0 j
        have HY := Lib.hid hy
        rw [← hy] at HBI
        have hme : (m : Int) = 8 * ((n - 1 : Nat) : Int) := by omega
        rw [hme] at HBI
        obtain ⟨i, k, rfl, hk8⟩ : ∃ i k, y = 8 * i + k ∧ k < 8 := ⟨y / 8, y % 8, by omega, by omega⟩
        have hin : i < n := by omega
        obtain ⟨u, u1, u2⟩ := HCE.out i hin
        have hu := u.toNat_lt
        have hset : setB fs (8 * i + k) = decide (u.toNat / 2 ^ k % 2 = 1) := by
          unfold setB
          rw [show (8 * i + k) / 8 = i by omega, show (8 * i + k) % 8 = k by omega, u1]
        have hSS : setB fs (bitN key m j) = decide (u.toNat / 2 ^ k % 2 = 1) := by rw [HY.out] at hset; exact hset
        have HS := Lib.hid hSS
        clear hy hX hall hset hSS u1 hme
        go_wp2_with fail
        with_reducible refine HBI.out.mono ?_
        rintro e w2 ⟨rfl, q2, hq2⟩
        have cu : w2.cell? ⟨b, off + i, none⟩ = some (.int .u8 (u.toNat : Int)) := by
          rw [hq2, HX.out]
          exact u2
        have HQ := Lib.hid hq2
        have e4 : (8 * (i : Int) + (k : Int)) / 8 = (i : Int) := by omega
        have e5 : (8 * (i : Int) + (k : Int)) % 8 = (k : Int) := by omega
        have hdm : ((u.toNat : Int) / 2 ^ k).tmod 2 = ((u.toNat / 2 ^ k % 2 : Nat) : Int) := by
          have h6 : ((u.toNat : Int) / 2 ^ k) = ((u.toNat / 2 ^ k : Nat) : Int) := by push_cast; rfl
          rw [h6]
          generalize u.toNat / 2 ^ k = a
          rw [Int.tmod_eq_emod_of_nonneg (by omega)]
          omega
        have HDM := Lib.hid hdm
        clear hq2 u2 hcx hdm
        go_wp2_with fail
        · rename_i hb
          rw [HDM.out] at hb
          have hb1 : u.toNat / 2 ^ k % 2 = 0 := by generalize u.toNat / 2 ^ k = a at *; simp at hb; omega
          have hS : setB fs (bitN key m j) = false := by rw [HS.out]; simp [hb1]
          have hT : allB fs key m = false := by
            unfold allB
            rw [List.all_eq_false]
            exact ⟨j, List.mem_range.2 (by rw [HN.out]; exact hlt), by simpa using hS⟩
          refine bodyPost_ret (v := .tuple #[.bool false, .int .i64 0]) (by simp [results, Try.f52, go_sem]; try rfl) rfl ⟨?_, q + q2, by rw [HQ.out, HX.out, World.drewN_drewN]⟩
          rw [← hm, hT]
        · rename_i hb
          rw [HDM.out] at hb
          have hb1 : u.toNat / 2 ^ k % 2 = 1 := by generalize u.toNat / 2 ^ k = a at *; simp at hb; omega
          have hS : setB fs (bitN key m j) = true := by rw [HS.out]; simp [hb1]
          go_roundw
          case rel => exact ⟨j + 1, q + q2, by omega, by go_num, fun i hi => by
            by_cases e : i = j
            · subst e; exact hS
            · exact HALL.out i (by omega), by rw [HQ.out, HX.out, World.drewN_drewN]⟩
          case measure => simp [intOf]; omega
      · obtain rfl : j = x.toNat := by omega
        have hT : allB fs key m = true := by
          unfold allB
          rw [List.all_eq_true]
          intro i hi
          exact HALL.out i (by rw [HN.out] at hi; exact List.mem_range.1 hi)
        have HT := Lib.hid hT
        clear hall hX hT
        go_wp2_with fail
        refine bodyPost_ret (v := .tuple #[.bool true, .int .i64 0]) (by simp [results, Try.f52, go_sem]; try rfl) rfl ⟨?_, q, HX.out⟩
        rw [← hm, HT.out]
end Go.Proofs.Ytheefpgokdejcaa
