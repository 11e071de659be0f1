/- CrcAll: for every list of at most 1048576 bytes the call returns true, and what was there stands. -/
import Derived.Test.YtpdcooelaebddaaCrcA
namespace Go.Proofs.Ytpdcooelaebddaa
open Go Go.RowKit

theorem oaF_tot {xs : List UInt8} : ∀ (f p : Nat) (acc : List (List UInt8)), p ≤ xs.length → tot (oaF xs f p acc).1 ≤ tot acc + (xs.length - p) ∧ (oaF xs f p acc).2 ≤ xs.length
  | 0, p, acc, h => by rw [oaF]; exact ⟨by simp only; omega, h⟩
  | f + 1, p, acc, h => by
    rcases hg : openG xs (p : Int) with ⟨b, nx, e⟩
    by_cases he : e = 0
    · obtain ⟨k, rfl, h1, h2⟩ := openG_ok hg he
      subst he
      rw [oaF_next hg]
      have := oaF_tot (xs := xs) f k (acc ++ [b]) h2
      rw [tot_append] at this
      simp only [tot] at this
      exact ⟨by omega, this.2⟩
    · rw [oaF_stop hg he]
      exact ⟨by simp only; omega, h⟩
theorem openAll_tot (xs : List UInt8) : tot (openAllG xs).1 ≤ xs.length ∧ (openAllG xs).2 ≤ xs.length := by
  have := oaF_tot (xs := xs) (xs.length + 1) 0 [] (Nat.zero_le _)
  simpa [openAllG, tot] using this

set_option maxRecDepth 100000 in
set_option maxHeartbeats 4000000 in
theorem crcAll_row (B : Option Addr) (lb cb : Nat) (ys : List UInt8) (w : World) (hy : Rd w B lb ys) (hlb : lb ≤ cb) (hcb : cb ≤ 1048576) :
    Calls Try.prog 5 #[.slice B lb cb] w (RetT w true) := by
  have hM : 1099511627776 ≤ maxLen := by unfold maxLen; omega
  have HM := Lib.hid hM
  have HYL := Lib.hid hy.len
  clear hM
  go_enter Try.func5, Try.ntmps5
  go_wp2_with fail
  refine (awake3_any _).mono ?_
  rintro e w1 ⟨rfl, hb1⟩
  have hy1 := hy.below hb1
  go_wp2_with fail
  refine (Copy_any B lb cb ys _ hy1 (by omega)).mono ?_
  rintro e w2 ⟨C, lc, cc, rfl, oc, hb2⟩
  obtain rfl : lc = lb := by rw [← oc.len, hy1.len]
  have hcc := oc.cap
  have k2 := hb1.trans (hb2.mono hb1.size)
  have hy2 := hy1.below hb2
  have hA := OpenAll_any C lc cc ys w2 oc.rd (by omega) hcc.1 (fun h => by have := oc.nil_of (by rw [h]; rfl); exact this.2.2)
  have hT := openAll_tot ys
  rcases hg : openAllG ys with ⟨l, p⟩
  rw [hg] at hA hT
  have HA := Lib.hid hA
  have Hg := Lib.hid hg
  have HT := Lib.hid hT
  clear hA hg hT hb1 hb2 hy1
  go_wp2_with fail
  refine HA.out.mono ?_
  clear HA
  rintro e w3 ⟨P, np, cp, pp, rfl, rp, hpp⟩
  have hpp : pp.map (·.2) = l := hpp
  have hb3 := rp.bel
  have rP3 := rp.rd
  rw [hpp] at rP3
  have hy3 := hy2.below hb3
  have k3 := k2.trans (hb3.mono k2.size)
  have hnp := rp.len
  have hln : l.length = np := by rw [← hpp, List.length_map, hnp]
  have HLN := Lib.hid hln
  clear hpp hb3 rp hy2 k2 oc hnp hln
  have hR := refOpenAll_any B lc cb ys w3 hy3 (by omega) hlb
  rw [Hg.out] at hR
  have HR := Lib.hid hR
  clear hR
  go_wp2_with fail
  refine HR.out.mono ?_
  clear HR
  rintro e w4 ⟨Q, nq, cq, qq, rfl, rq, hqq⟩
  have hqq : qq.map (·.2) = l := hqq
  have hb4 := rq.bel
  have rQ4 := rq.rd
  rw [hqq] at rQ4
  have rP4 := rP3.below hb4
  have k4 := k3.trans (hb4.mono k3.size)
  obtain rfl : nq = np := by rw [← rq.len, ← HLN.out, ← hqq, List.length_map]
  clear hqq hb4 rq rP3 k3 hy3
  have hnl : nq ≤ 1048576 := by have := tot_len l; have := HT.out.1; have := HYL.out; have := HLN.out; omega
  go_wp2_with fail
  refine (Equals_any P Q nq cp cq l _ rP4 rQ4 (by omega) (fun x h => by
    obtain ⟨i, hi⟩ := List.getElem?_of_mem h
    have h1 := tot_at hi
    have h2 := HT.out.1
    have h3 := HYL.out
    have h4 := HM.out
    omega)).mono ?_
  rintro e w5 ⟨rfl, q, rfl⟩
  go_wp2
  go_ret
  exact ⟨rfl, below_drewN k4 q⟩
end Go.Proofs.Ytpdcooelaebddaa
