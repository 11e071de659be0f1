/- BloomMisses: a key that was put into a filter is never told to be out. -/
import Derived.Test.YtheefpgokdejcaaBlI
namespace Go.Proofs.Ytheefpgokdejcaa
open Go Go.RowKit

theorem tot_memB {x : List UInt8} : ∀ {l : List (List UInt8)}, x ∈ l → x.length ≤ tot l
  | [], h => by cases h
  | y :: l, h => by
    rcases List.mem_cons.1 h with rfl | h
    · simp only [tot]; omega
    · have := tot_memB h
      simp only [tot]; omega
set_option maxRecDepth 100000 in
set_option maxHeartbeats 8000000 in
theorem bloomMisses_row (p : Int) (A : Option Addr) (n c : Nat) (xss : List (List UInt8)) (w : World) (_ : (Lit.int .i64 p).wf = true) (h : RdL w A n xss) (hnc : n ≤ c) (ht : tot xss ≤ 1048576) :
    Calls Try.prog 11 #[.int .i64 p, .slice A n c] w (RetT w true) := by
  obtain ⟨u, hu⟩ : ∃ u, u = min n 200 := ⟨_, rfl⟩
  obtain ⟨ys, hys⟩ : ∃ ys, ys = xss.take 200 := ⟨_, rfl⟩
  have hR : RdL w A u ys := by rw [hu, hys]; exact h.first 200
  have hty : tot ys ≤ 1048576 := by have := tot_take xss 200; rw [hys]; omega
  have hu2 : u ≤ 200 := by omega
  have HF : Hid (∀ wx, Calls Try.prog 49 #[.slice A n c, .int .i64 200] wx fun e w' => e = .returned (.slice A u c) ∧ w' = wx) := Lib.hid (fun wx => by rw [hu]; exact few9_any A n c 200 hnc wx)
  have hyl : ∀ xs ∈ ys, xs.length ≤ 1048576 := fun xs hx => by
    have := tot_memB hx
    omega
  have HYL := Lib.hid hyl
  have HR := Lib.hid hR
  clear h hu hys ht hR hyl
  go_enter Try.func11, Try.ntmps11
  go_wp2_with fail
  refine (awake9_any _).mono ?_
  rintro e w1 ⟨rfl, b1⟩
  go_wp2_with fail
  with_reducible refine (HF.out _).mono ?_
  rintro e w1' ⟨rfl, rfl⟩
  go_wp2_with fail
  refine (Copies_any A u c ys _ (HR.out.below b1) (by omega)).mono ?_
  rintro e w2 ⟨C, m, d, rfl, o2, b2⟩
  obtain rfl : m = u := by have := o2.len; have := HR.out.1; omega
  have r2 := o2.rd
  have HB2 : Hid (Below w.heap.size w w2) := Lib.hid (b1.trans (b2.mono b1.size))
  clear b1 b2 o2
  go_wp2_with fail
  by_cases hpp : 1 ≤ p ∧ p ≤ 100
  · obtain ⟨P, rfl⟩ : ∃ P : Nat, p = (P : Int) := ⟨p.toNat, by omega⟩
    have hyn : ys.length = m := HR.out.1
    refine (build_good C m d P _ (by omega) (by omega) hu2 ys r2 (fun xs hx => by have := HYL.out xs hx; unfold maxLen; omega)).mono ?_
    rintro e w3 ⟨rfl, k3, b3⟩
    obtain ⟨F, hF⟩ : ∃ F, F = filterB P ys := ⟨_, rfl⟩
    rw [← hF] at k3 ⊢
    have hFl : F.length ≤ 2501 := by rw [hF]; exact filter_len (by omega) (by omega)
    have HMY : Hid (∀ key ∈ ys, mayB F key = (true, 0)) := Lib.hid (fun key hk => by rw [hF]; exact filter_may hk)
    have HRF := Lib.hid (vsB_rd k3)
    have HB3 : Hid (Below w.heap.size w w3) := Lib.hid (HB2.out.trans (b3.mono HB2.out.size))
    have HR3 : Hid (RdL w3 A m ys) := Lib.hid (HR.out.below HB3.out)
    obtain ⟨g, hg⟩ : ∃ g, g = w2.heap.size := ⟨_, rfl⟩
    rw [← hg] at HRF ⊢
    clear hF k3 b3 r2 hg
    go_wp2_with fail
    go_loopw [32] (fun s32 wr => ∃ j : Nat, j ≤ m ∧ s32 = .int .i64 (j : Int) ∧ Below w3.heap.size w3 wr) (fun s _ => m - (intOf s).toNat)
    case atStart => exact ⟨0, Nat.zero_le _, rfl, Below.refl _ _⟩
    case round =>
      obtain ⟨j, hj, rfl, hB⟩ := hrel
      have BR := Lib.hid hB
      clear hB
      by_cases hlt : j < m
      · obtain ⟨b, off, rfl, hbl, hel⟩ := HR3.out.2 (by omega)
        obtain ⟨key, hkey⟩ : ∃ key, ys[j]? = some key := ⟨_, List.getElem?_eq_getElem (by omega)⟩
        obtain ⟨v, hv, K, kn, kc, rfl, hrK, _⟩ := hel j key hkey
        have hcv : wr.cell? ⟨b, off + j, none⟩ = some (.slice K kn kc) := (BR.out.cell (p := ⟨b, off + j, none⟩) hbl).trans hv
        have hkl : kn ≤ 1048576 := by have := HYL.out key (List.mem_of_getElem? hkey); have := hrK.len; omega
        have hmy := HMY.out key (List.mem_of_getElem? hkey)
        have HK : Hid (Rd wr K kn key) := Lib.hid (hrK.below BR.out)
        have HFR : Hid (Rd wr (some ⟨g, 0, none⟩) F.length F) := Lib.hid (HRF.out.below BR.out)
        have HMM := Lib.hid hmy
        clear hel hv hrK hmy
        go_wp2_with fail
        refine (Copy_any _ _ _ F _ HFR.out (by omega)).mono ?_
        rintro e v1 ⟨A1, n1, c1, rfl, o1, b1⟩
        have r1 := o1.rd
        obtain rfl : n1 = F.length := o1.len.symm
        clear o1
        go_wp2_with fail
        refine (Copy_any _ _ _ key _ (HK.out.below b1) (by omega)).mono ?_
        rintro e v2 ⟨A2, n2, c2, rfl, o2, b2⟩
        have r2 := o2.rd
        obtain rfl : n2 = kn := by have := o2.len; have := HK.out.len; omega
        clear o2
        go_wp2_with fail
        refine (may_any A1 _ c1 F A2 n2 c2 key _ (r1.below b2) (by omega) r2 (by unfold maxLen; omega)).mono ?_
        intro e v3 hq
        obtain ⟨he, b3⟩ := RetMy.out hq
        rw [HMM.out] at he
        subst he
        have BF : Hid (Below w3.heap.size w3 v3) := Lib.hid ((BR.out.trans (b1.mono BR.out.size)).trans ((b2.trans (b3.mono b2.size)).mono (by have := BR.out.size; have := b1.size; omega)))
        clear hq b1 b2 b3 r1 r2
        go_wp2_with fail
        go_roundw
        case rel => exact ⟨j + 1, by omega, by go_num, BF.out⟩
        case measure => simp [intOf]; omega
      · go_wp2_with fail
        go_ret
        exact ⟨rfl, HB3.out.trans (BR.out.mono HB3.out.size)⟩
  · refine (build_bad C m d p _ hpp).mono ?_
    rintro e w3 ⟨rfl, rfl⟩
    rcases Int.lt_or_le p 1 with h1 | h1
    · clear hpp
      go_wp2_with fail
      go_ret
      exact ⟨rfl, HB2.out⟩
    · have h2 : 100 < p := by omega
      clear hpp
      go_wp2_with fail
      go_ret
      exact ⟨rfl, HB2.out⟩
end Go.Proofs.Ytheefpgokdejcaa
