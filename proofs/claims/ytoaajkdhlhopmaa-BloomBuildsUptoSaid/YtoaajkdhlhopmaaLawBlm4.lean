/- BloomBuilds: the filter of any keys is, byte for byte, the document's. -/
import Derived.Test.YtoaajkdhlhopmaaBlK
namespace Go.Proofs.Ytoaajkdhlhopmaa
open Go Go.RowKit

theorem tot_memD {x : List UInt8} : ∀ {l : List (List UInt8)}, x ∈ l → x.length ≤ tot l
  | [], h => by cases h
  | y :: l, h => by
    rcases List.mem_cons.1 h with rfl | h
    · simp only [tot]; omega
    · have := tot_memD h
      simp only [tot]; omega
theorem refBuild_bad (A : Option Addr) (n c : Nat) (p : Int) (w : World) (hp : ¬ (1 ≤ p ∧ p ≤ 100)) :
    Calls Try.prog 37 #[.int .i64 p, .slice A n c] w (RetNo w 1) := by
  rcases Int.lt_or_le p 1 with h | h
  · go_enter Try.func37, Try.ntmps37
    go_wp2_with fail
    exact bodyPost_ret (v := .tuple #[.slice none 0 0, .int .i64 1]) (by simp [results, Try.f37, go_sem]; try rfl) rfl ⟨rfl, rfl⟩
  · have h2 : 100 < p := by omega
    go_enter Try.func37, Try.ntmps37
    go_wp2_with fail
    exact bodyPost_ret (v := .tuple #[.slice none 0 0, .int .i64 1]) (by simp [results, Try.f37, go_sem]; try rfl) rfl ⟨rfl, rfl⟩
set_option maxRecDepth 100000 in
set_option maxHeartbeats 8000000 in
theorem bloomBuilds_row (p : Int) (A : Option Addr) (n c : Nat) (xss : List (List UInt8)) (K : Option Addr) (kn kc : Nat) (key : List UInt8) (w : World) (_ : (Lit.int .i64 p).wf = true) (h : RdL w A n xss) (hnc : n ≤ c) (ht : tot xss ≤ 1048576) (hk : Rd w K kn key) (hkc : kn ≤ kc) (hkm : kc ≤ 1048576) :
    Calls Try.prog 7 #[.int .i64 p, .slice A n c, .slice K kn kc] w (RetT w true) := by
  obtain ⟨u, hu⟩ : ∃ u, u = min n 200 := ⟨_, rfl⟩
  obtain ⟨ys, hys⟩ : ∃ ys, ys = xss.take 200 := ⟨_, rfl⟩
  have hR : RdL w A u ys := by rw [hu, hys]; exact h.first 200
  have hty : tot ys ≤ 1048576 := by have := tot_take xss 200; rw [hys]; omega
  have hu2 : u ≤ 200 := by omega
  have HF : Hid (∀ wx, Calls Try.prog 36 #[.slice A n c, .int .i64 200] wx fun e w' => e = .returned (.slice A u c) ∧ w' = wx) := Lib.hid (fun wx => by rw [hu]; exact few9_any A n c 200 hnc wx)
  have hyl : ∀ xs ∈ ys, xs.length ≤ maxLen := fun xs hx => by
    have := tot_memD hx
    unfold maxLen
    omega
  have HYL := Lib.hid hyl
  have HR := Lib.hid hR
  have HK := Lib.hid hk
  have hkl : kn ≤ maxLen := by unfold maxLen; omega
  clear h hu hys ht hR hyl hk
  go_enter Try.func7, Try.ntmps7
  go_wp2_with fail
  refine (awake9_any _).mono ?_
  rintro e w1 ⟨rfl, b1⟩
  go_wp2_with fail
  refine (Copy_any K kn kc key _ (HK.out.below b1) (by omega)).mono ?_
  rintro e w2 ⟨C, m, d, rfl, o2, b2⟩
  obtain rfl : m = kn := by have := o2.len; have := HK.out.len; omega
  have r2 := o2.rd
  have HB2 : Hid (Below w.heap.size w w2) := Lib.hid (b1.trans (b2.mono b1.size))
  clear b1 b2 o2
  go_wp2_with fail
  refine (Hash_any C m d key _ r2 hkl).mono ?_
  rintro e w3 ⟨rfl, rfl⟩
  go_wp2_with fail
  refine (refHash_any K m kc key _ (HK.out.below HB2.out) hkl).mono ?_
  rintro e w4 ⟨rfl, q, hq⟩
  have HB4 : Hid (Below w.heap.size w w4) := Lib.hid (by rw [hq]; exact below_drewN HB2.out q)
  clear hq r2 HB2
  go_wp2_with fail
  with_reducible refine (HF.out _).mono ?_
  rintro e w4' ⟨rfl, rfl⟩
  go_wp2_with fail
  refine (Copies_any A u c ys _ (HR.out.below HB4.out) (by omega)).mono ?_
  rintro e w5 ⟨C5, m5, d5, rfl, o5, b5⟩
  obtain rfl : m5 = u := by have := o5.len; have := HR.out.1; omega
  have r5 := o5.rd
  have HB5 : Hid (Below w.heap.size w w5) := Lib.hid (HB4.out.trans (b5.mono HB4.out.size))
  clear b5 o5 HB4
  go_wp2_with fail
  by_cases hpp : 1 ≤ p ∧ p ≤ 100
  · obtain ⟨P, rfl⟩ : ∃ P : Nat, p = (P : Int) := ⟨p.toNat, by omega⟩
    have hyn : ys.length = m5 := HR.out.1
    refine (build_good C5 m5 d5 P _ (by omega) (by omega) hu2 ys r5 HYL.out).mono ?_
    rintro e w6 ⟨rfl, k6, b6⟩
    have HRB : Hid (∀ wx, Below w.heap.size w wx → Calls Try.prog 37 #[.int .i64 (P : Int), .slice A m5 c] wx (RetUn wx (filterB P ys))) := Lib.hid (fun wx hb => refBuild_good A m5 c P wx (by omega) (by omega) hu2 ys (HR.out.below hb) HYL.out)
    have hFl : (filterB P ys).length ≤ 2501 := filter_len (by omega) (by omega)
    obtain ⟨F, hF⟩ : ∃ F, F = filterB P ys := ⟨_, rfl⟩
    rw [← hF] at k6 HRB hFl ⊢
    have HRF := Lib.hid (vsB_rd k6)
    have HB6 : Hid (Below w.heap.size w w6) := Lib.hid (HB5.out.trans (b6.mono HB5.out.size))
    obtain ⟨g, hg⟩ : ∃ g, g = w5.heap.size := ⟨_, rfl⟩
    rw [← hg] at HRF ⊢
    clear hF k6 b6 r5 hg
    go_wp2_with fail
    with_reducible refine (HF.out _).mono ?_
    rintro e w7 ⟨rfl, rfl⟩
    go_wp2_with fail
    with_reducible refine (HRB.out _ HB6.out).mono ?_
    rintro e w8 ⟨D, dc, rfl, o8, b8⟩
    have r8 := o8.rd
    have r7 := HRF.out.below b8
    have HB8 : Hid (Below w.heap.size w w8) := Lib.hid (HB6.out.trans (b8.mono HB6.out.size))
    clear o8 b8
    go_wp2_with fail
    refine (Equal_any _ _ _ _ _ _ F F _ r7 r8 (by unfold maxLen; omega) (by unfold maxLen; omega)).mono ?_
    rintro e w9 ⟨rfl, q9, rfl⟩
    rw [eqB_self]
    go_wp2_with fail
    go_ret
    exact ⟨rfl, below_drewN HB8.out q9⟩
  · have HRB : Hid (∀ wx, Calls Try.prog 37 #[.int .i64 p, .slice A m5 c] wx (RetNo wx 1)) := Lib.hid (fun wx => refBuild_bad A m5 c p wx hpp)
    refine (build_bad C5 m5 d5 p _ hpp).mono ?_
    rintro e w6 ⟨rfl, rfl⟩
    go_wp2_with fail
    with_reducible refine (HF.out _).mono ?_
    rintro e w7 ⟨rfl, rfl⟩
    go_wp2_with fail
    with_reducible refine (HRB.out _).mono ?_
    rintro e w8 ⟨rfl, rfl⟩
    go_wp2_with fail
    refine (Equal_any _ _ _ _ _ _ [] [] _ (Rd.nil _ _) (Rd.nil _ _) (by unfold maxLen; omega) (by unfold maxLen; omega)).mono ?_
    rintro e w9 ⟨rfl, q9, rfl⟩
    rw [eqB_self]
    go_wp2_with fail
    go_ret
    exact ⟨rfl, below_drewN HB5.out q9⟩
end Go.Proofs.Ytoaajkdhlhopmaa
