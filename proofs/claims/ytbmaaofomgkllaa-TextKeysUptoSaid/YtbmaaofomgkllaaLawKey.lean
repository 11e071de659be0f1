/- TextKeys: for every two texts and every list of bytes of at most 1048576 bytes each the call returns true, and what was there stands. -/
import Derived.Test.YtbmaaofomgkllaaKeyT
import Derived.Test.YtbmaaofomgkllaaBcmp
import Derived.Test.YtbmaaofomgkllaaMathL
namespace Go.Proofs.Ytbmaaofomgkllaa
open Go Go.RowKit

/-- The place that a list of bytes names. -/
def atOf : List UInt8 → Int
  | [] => 0
  | x :: _ => (x.toNat : Int) % 5 - 1
theorem fromK_len (xs : List UInt8) (t : Int) : (fromK xs t).1.length ≤ xs.length := by
  unfold fromK
  repeat' split
  all_goals first | (simp; done) | exact getT_len _ _
/-- How two keys compare. -/
def keyC (s t : ByteArray) : Int := if cmpB (foldB s) (foldB t) = 0 then cmpB s.data.toList t.data.toList else cmpB (foldB s) (foldB t)
theorem cmpB_key (s t : ByteArray) : cmpB (keyB s) (keyB t) = keyC s t := by
  unfold keyB keyC
  rw [cmpB_ordT]
  split
  · have h := cmpB_ordT s.data.toList t.data.toList [] []
    simp only [List.append_nil] at h
    rw [h]
    split
    · next h0 => rw [h0]; rfl
    · rfl
  · rfl

set_option maxRecDepth 100000 in
set_option maxHeartbeats 4000000 in
theorem textKeys_any (s t : ByteArray) (B : Option Addr) (lb cb : Nat) (ys : List UInt8) (w : World) (hs : s.size ≤ 1073741824) (ht : t.size ≤ 1073741824) (hy : Rd w B lb ys) (hlb : lb ≤ cb) (hcb : cb ≤ 1073741824) :
    Calls Try.prog 13 #[.string s, .string t, .slice B lb cb] w (RetT w true) := by
  rcases hg : fromK ys (atOf ys) with ⟨v, nx, er⟩
  have H1 : Hid (∀ (a : Int) (A : Option Addr) (n c : Nat) w', a = atOf ys → Rd w' A n ys → Calls Try.prog 59 #[.slice A n c, .int .i64 a] w' (RetS3 w' (v, nx, er))) := Lib.hid (fun a A n c w' h1 h2 => by
    rw [← hg, h1]
    exact FromKey_any A n c ys _ w' h2 (by have h3 := h2.len; have h4 := hy.len; omega))
  have H2 : Hid (∀ (a : Int) (A : Option Addr) (n c : Nat) w', a = atOf ys → Rd w' A n ys → Calls Try.prog 61 #[.slice A n c, .int .i64 a] w' (RetS3 w' (v, nx, er))) := Lib.hid (fun a A n c w' h1 h2 => by
    rw [← hg, h1]
    exact refFromKey_any A n c ys _ w' h2 (by have h3 := h2.len; have h4 := hy.len; omega))
  clear hg
  obtain ⟨FS, hFS⟩ : ∃ F, F = bs (foldB s) := ⟨_, rfl⟩
  obtain ⟨FT, hFT⟩ : ∃ F, F = bs (foldB t) := ⟨_, rfl⟩
  have hs4 := foldB_len s
  have ht4 := foldB_len t
  have hFSs : FS.size ≤ 4294967296 := by rw [hFS, bs_size]; omega
  have hFTs : FT.size ≤ 4294967296 := by rw [hFT, bs_size]; omega
  have H3 : Hid (∀ w, Calls Try.prog 57 #[.string s] w (RetSt w FS)) := Lib.hid (fun w => by rw [hFS]; exact refFold_any s w (by omega))
  have H4 : Hid (∀ w, Calls Try.prog 57 #[.string t] w (RetSt w FT)) := Lib.hid (fun w => by rw [hFT]; exact refFold_any t w (by omega))
  have hKC := cmpB_key s t
  have hkc : keyC s t = if cmpB FS.data.toList FT.data.toList = 0 then cmpB s.data.toList t.data.toList else cmpB FS.data.toList FT.data.toList := by rw [hFS, hFT, bs_list, bs_list]; rfl
  have HKC := Lib.hid hKC
  have HK2 := Lib.hid hkc
  have hM : 17179869184 ≤ maxLen := by unfold maxLen; omega
  have HM := Lib.hid hM
  clear hFS hFT hs4 ht4 hKC hkc hM
  obtain ⟨np, hnp⟩ : ∃ n, (keyB s).length = n := ⟨_, rfl⟩
  have hnps : np ≤ 17179869184 := by
    rw [← hnp, keyB, List.length_append]
    have h1 := ordT_len (foldB s)
    have h2 := ordT_len s.data.toList
    have h3 := foldB_len s
    have h4 := (Lib.size_eq s).symm
    omega
  have H5 : Hid (∀ (A : Option Addr) (n c : Nat) w', Rd w' A n (keyB s) → Calls Try.prog 59 #[.slice A n c, .int .i64 0] w' (RetS3 w' (s.data.toList, (np : Int), 0))) := Lib.hid (fun A n c w' h2 => by
    have := FromKey_any A n c (keyB s) 0 w' h2 (by have h3 := h2.len; omega)
    rw [fromK_key, hnp] at this
    exact this)
  have HNP := Lib.hid hnp
  clear hnp
  have go : ∀ a : Int, a = atOf ys → -1 ≤ a → a ≤ 4 → True := fun _ _ _ _ => trivial
  clear go
  by_cases h0 : 0 < lb
  case' pos =>
    obtain ⟨b, off, rfl, _⟩ := hy.pos h0
    obtain ⟨x, hx, hc, _⟩ := hy.at_ 0 h0
    obtain ⟨z, hz⟩ : ∃ z, z = (x.toNat : Int) := ⟨_, rfl⟩
    have HT : Hid (z % 5 - 1 = atOf ys) := by
      cases ys with
      | nil => simp at hx
      | cons y r =>
        simp only [List.getElem?_cons_zero, Option.some.injEq] at hx
        subst hx
        rw [hz]
        exact Lib.hid rfl
    have hz0 : 0 ≤ z := by omega
    have hz1 : z ≤ 255 := by have := UInt8.toNat_lt x; omega
    rw [← hz, Nat.add_zero] at hc
    have HX := Lib.hid hx
    clear hx hz
  case' neg =>
    obtain rfl : lb = 0 := by omega
    have HT : Hid (0 = atOf ys) := by
      have := hy.len
      cases ys with
      | nil => exact Lib.hid rfl
      | cons y r => simp at this
  all_goals
    go_enter Try.func13, Try.ntmps13
    go_wp2_with fail
    refine (awake2_any _).mono ?_
    rintro e w1 ⟨rfl, hb1⟩
    have y1 := hy.below hb1
    have k1 := hb1
    go_wp2_with fail
    refine (Key_any s _ (by omega)).mono ?_
    rintro e w2 ⟨P, np', cp, rfl, op, hb2⟩
    have hnpp : np' = np := by rw [← op.len]; exact HNP.out
    subst hnpp
    have hq1 := k1.size
    have k2 := k1.trans (hb2.mono hq1)
    have y2 := y1.below hb2
    clear hb1 k1 y1 hb2
    go_wp2_with fail
    refine (Key_any t _ (by omega)).mono ?_
    rintro e w3 ⟨Q, nq, cq, rfl, oq, hb3⟩
    have hq2 := k2.size
    have k3 := k2.trans (hb3.mono hq2)
    have y3 := y2.below hb3
    have rp3 := op.rd.below hb3
    have hcp := op.cap
    have hcq := oq.cap
    clear k2 y2 hb3 op
    go_wp2_with fail
    refine (H5.out _ _ _ _ rp3).mono ?_
    rintro e w4 ⟨rfl, hb4⟩
    rw [bs_of]
    have hq3 := k3.size
    have k4 := k3.trans (hb4.mono hq3)
    have y4 := y3.below hb4
    have rp4 := rp3.below hb4
    have rq4 := oq.rd.below hb4
    clear k3 y3 hb4 rp3 oq
    go_wp2_with fail
    refine (refKey_any s _ (by omega)).mono ?_
    rintro e w5 ⟨R, nr, cr, rfl, or5, hb5⟩
    have hcr := or5.cap
    have hq4 := k4.size
    have k5 := k4.trans (hb5.mono hq4)
    have y5 := y4.below hb5
    have rp5 := rp4.below hb5
    have rq5 := rq4.below hb5
    clear k4 y4 rp4 rq4 hb5
    go_wp2_with fail
    refine (Equal_is _ _ _ _ _ _ (keyB s) (keyB s) true (eqB_self _) _ rp5 or5.rd (by omega) (by omega)).mono ?_
    rintro e w6 ⟨rfl, q6, rfl⟩
    have k6 := below_drewN k5 q6
    have y6 := y5.drewN q6
    have rp6 := rp5.drewN q6
    have rq6 := rq5.drewN q6
    obtain ⟨W6, hW6⟩ : ∃ W, W = w5.drewN q6 := ⟨_, rfl⟩
    rw [← hW6] at k6 y6 rp6 rq6 ⊢
    clear hW6 k5 y5 rp5 rq5 or5 hcr
    go_wp2_with fail
    refine (H3.out _).mono ?_
    rintro e w7 ⟨rfl, hb7⟩
    have hq6 := k6.size
    have k7 := k6.trans (hb7.mono hq6)
    have y7 := y6.below hb7
    have rp7 := rp6.below hb7
    have rq7 := rq6.below hb7
    clear k6 y6 rp6 rq6 hb7
    obtain ⟨c8, w8, hc8, r8, hb8⟩ := conv_bytes FS w7
    have hq7 := k7.size
    have k8 := k7.trans (hb8.mono hq7)
    have y8 := y7.below hb8
    have rp8 := rp7.below hb8
    have rq8 := rq7.below hb8
    clear k7 y7 rp7 rq7 hb8
    go_wp2_with fail
    refine (H4.out _).mono ?_
    rintro e w9 ⟨rfl, hb9⟩
    have hq8 := k8.size
    have k9 := k8.trans (hb9.mono hq8)
    have y9 := y8.below hb9
    have rp9 := rp8.below hb9
    have rq9 := rq8.below hb9
    have r9 := r8.below hb9
    clear k8 y8 rp8 rq8 hb9 hc8 r8
    obtain ⟨c10, w10, hc10, s10, hb10⟩ := conv_bytes FT w9
    have hq9 := k9.size
    have k10 := k9.trans (hb10.mono hq9)
    have y10 := y9.below hb10
    have rp10 := rp9.below hb10
    have rq10 := rq9.below hb10
    have r10 := r9.below hb10
    clear k9 y9 rp9 rq9 hb10 r9
    obtain ⟨zc, hzc⟩ : ∃ zc, cmpB FS.data.toList FT.data.toList = zc := ⟨_, rfl⟩
    have HK3 : Hid (keyC s t = if zc = 0 then cmpB s.data.toList t.data.toList else zc) := by rw [← hzc]; exact HK2
    go_wp2_with fail
    refine (refCmp_is _ _ _ _ _ _ _ _ zc hzc _ r10 s10 (by have := HM.out; omega) (by have := HM.out; omega)).mono ?_
    rintro e w11 ⟨rfl, q11, rfl⟩
    have k11 := below_drewN k10 q11
    have y11 := y10.drewN q11
    have rp11 := rp10.drewN q11
    have rq11 := rq10.drewN q11
    obtain ⟨W11, hW11⟩ : ∃ W, W = w10.drewN q11 := ⟨_, rfl⟩
    rw [← hW11] at k11 y11 rp11 rq11 ⊢
    clear hW11 k10 y10 rp10 rq10 r10 s10 hc10 hzc
    by_cases hz : zc = 0
    case' pos =>
      subst hz
      obtain ⟨zd, hzd⟩ : ∃ zd, cmpB s.data.toList t.data.toList = zd := ⟨_, rfl⟩
      have HKK : Hid (cmpB (keyB s) (keyB t) = zd) := by rw [HKC.out, HK3.out, if_pos rfl]; exact Lib.hid hzd
      obtain ⟨c12, w12, hc12, r12, hb12⟩ := conv_bytes s W11
      obtain ⟨c13, w13, hc13, r13, hb13⟩ := conv_bytes t w12
      have hq12 := hb12.size
      have hq11 := k11.size
      have k13 := (k11.trans (hb12.mono hq11)).trans (hb13.mono (by omega))
      have y13 := (y11.below hb12).below hb13
      have rp13 := (rp11.below hb12).below hb13
      have rq13 := (rq11.below hb12).below hb13
      have r12' := r12.below hb13
      clear k11 y11 rp11 rq11 r12 hb12 hb13
      go_wp2_with fail
      refine (refCmp_is _ _ _ _ _ _ _ _ zd hzd _ r12' r13 (by have := HM.out; omega) (by have := HM.out; omega)).mono ?_
      rintro e w14 ⟨rfl, q14, rfl⟩
      have k14 := below_drewN k13 q14
      have y14 := y13.drewN q14
      have rp14 := rp13.drewN q14
      have rq14 := rq13.drewN q14
      obtain ⟨W14, hW14⟩ : ∃ W, W = w13.drewN q14 := ⟨_, rfl⟩
      rw [← hW14] at k14 y14 rp14 rq14 ⊢
      clear hW14 k13 y13 rp13 rq13 r12' r13 hc12 hc13 hzd
    case' neg =>
      have HKK : Hid (cmpB (keyB s) (keyB t) = zc) := by rw [HKC.out, HK3.out, if_neg hz]; exact Lib.hid rfl
      have hz1 : ((zc : Int) == 0) = false := by simpa using hz
      have k14 := k11
      have y14 := y11
      have rp14 := rp11
      have rq14 := rq11
      clear k11 y11 rp11 rq11
    all_goals
      go_wp2_with fail
      refine (Copy_any _ _ _ ys _ y14 (by omega)).mono ?_
      rintro e w15 ⟨C, lc, cc, rfl, oc, hb15⟩
      have hq14 := k14.size
      have k15 := k14.trans (hb15.mono hq14)
      have y15 := y14.below hb15
      have rp15 := rp14.below hb15
      have rq15 := rq14.below hb15
      clear k14 y14 rp14 rq14 hb15
      go_wp2_with fail
      refine (H1.out _ _ _ _ _ HT.out oc.rd).mono ?_
      rintro e w16 ⟨rfl, hb16⟩
      have hq15 := k15.size
      have k16 := k15.trans (hb16.mono hq15)
      have y16 := y15.below hb16
      have rp16 := rp15.below hb16
      have rq16 := rq15.below hb16
      clear k15 y15 rp15 rq15 hb16 oc
      go_wp2_with fail
      refine (H2.out _ _ _ _ _ HT.out y16).mono ?_
      rintro e w17 ⟨rfl, hb17⟩
      have hq16 := k16.size
      have k17 := k16.trans (hb17.mono hq16)
      have rp17 := rp16.below hb17
      have rq17 := rq16.below hb17
      clear k16 y16 rp16 rq16 hb17
      go_wp2_with fail
      refine (Cmp_is _ _ _ _ _ _ _ _ _ HKK.out _ rp17 rq17).mono ?_
      rintro e w18 ⟨rfl, rfl⟩
      go_wp2
      go_ret
      exact ⟨rfl, k17⟩

theorem textKeys_row (s t : ByteArray) (B : Option Addr) (lb cb : Nat) (ys : List UInt8) (w : World) (_hm : s.size ≤ maxLen) (hs : s.size ≤ 1048576) (_hm2 : t.size ≤ maxLen) (ht : t.size ≤ 1048576) (hy : Rd w B lb ys) (hlb : lb ≤ cb) (hcb : cb ≤ 1048576) :
    Calls Try.prog 13 #[.string s, .string t, .slice B lb cb] w (RetT w true) := textKeys_any s t B lb cb ys w (by omega) (by omega) hy hlb (by omega)

end Go.Proofs.Ytbmaaofomgkllaa
