/- text.Like tells what the relation of patterns says, for texts and patterns of at most 2000 bytes. -/
import Derived.Test.YtbmaaofomgkllaaMathM
import Derived.Test.YtbmaaofomgkllaaRunes
import Derived.Test.YtbmaaofomgkllaaAwake2
namespace Go.Proofs.Ytbmaaofomgkllaa
open Go Go.RowKit

def castI (l : List Nat) : List Int := l.map fun x : Nat => (x : Int)
theorem rune_at {w : World} {b off n : Nat} {H : List Nat} (h : RdV w (some ⟨b, off, none⟩) n (kvs (castI H))) (k : Nat) (hk : k < n) : ∃ c, H[k]? = some c ∧ w.cell? ⟨b, off + k, none⟩ = some (.int .i32 (c : Int)) := by
  obtain ⟨v, h1, h2⟩ := h.at_ k hk
  unfold kvs castI at h1
  rw [List.getElem?_map, List.getElem?_map] at h1
  cases hx : H[k]? with
  | none => rw [hx] at h1; cases h1
  | some c =>
    rw [hx] at h1
    injection h1 with h1
    subst h1
    exact ⟨c, rfl, h2⟩
/-- The two slots of the search's last %. -/
def Ost (o t : Int) : Option (Nat × Nat) → Prop
  | none => o = -1 ∧ t = 0
  | some (a, b) => o = (a : Int) ∧ t = (b : Int)
theorem Left.le {H W : List Nat} {i p o a : Nat} (h : Left H W i p (some (o, a))) : a ≤ i ∧ o ≤ p := by
  obtain ⟨_, L, h1, h2, _⟩ := h
  omega
theorem rz_fold (s : ByteArray) : rz (bs (foldB s)) = castI ((rs s).map low) := by
  unfold rz castI
  rw [rs_fold]
theorem int_ne {a b : Nat} (h : a ≠ b) : ((a : Int) == (b : Int)) = false := by
  rw [beq_eq_false_iff_ne]
  omega
theorem okc_95 (c : Nat) : okc 95 c = true := rfl
theorem okc_same (c : Nat) : okc c c = true := by simp [okc]
theorem okc_no {q c : Nat} (h1 : q ≠ 95) (h2 : q ≠ c) : okc q c = false := by simp [okc, h1, h2]

set_option maxRecDepth 100000 in
set_option maxHeartbeats 4000000 in
theorem Like_any (s pt : ByteArray) (w : World) (hs : s.size ≤ 2000) (hp : pt.size ≤ 2000) :
    Calls Try.prog 62 #[.string s, .string pt] w (RetT w (mt ((rs s).map low) ((rs pt).map low))) := by
  obtain ⟨H, hH⟩ : ∃ H, H = (rs s).map low := ⟨_, rfl⟩
  obtain ⟨P, hP⟩ : ∃ P, P = (rs pt).map low := ⟨_, rfl⟩
  have hHl : H.length ≤ s.size := by rw [hH, List.length_map, rs_len]; exact rn_len s
  have hPl : P.length ≤ pt.size := by rw [hP, List.length_map, rs_len]; exact rn_len pt
  obtain ⟨FS, hFS⟩ : ∃ F, F = bs (foldB s) := ⟨_, rfl⟩
  obtain ⟨FT, hFT⟩ : ∃ F, F = bs (foldB pt) := ⟨_, rfl⟩
  have hFSs : FS.size ≤ 8000 := by rw [hFS, bs_size]; have := foldB_len s; omega
  have hFTs : FT.size ≤ 8000 := by rw [hFT, bs_size]; have := foldB_len pt; omega
  have H1 : Hid (∀ w, Calls Try.prog 56 #[.string s] w (RetS w (foldB s))) := Lib.hid (fun w => Fold_any s w (by omega))
  have H2 : Hid (∀ w, Calls Try.prog 56 #[.string pt] w (RetS w (foldB pt))) := Lib.hid (fun w => Fold_any pt w (by omega))
  have H3 : Hid (∀ w, Calls Try.prog 48 #[.string FS] w (RetK w (castI H))) := Lib.hid (fun w => by rw [hH, ← rz_fold, ← hFS]; exact Runes_any FS w (by omega))
  have H4 : Hid (∀ w, Calls Try.prog 48 #[.string FT] w (RetK w (castI P))) := Lib.hid (fun w => by rw [hP, ← rz_fold, ← hFT]; exact Runes_any FT w (by omega))
  have H1' : Hid (∀ w, Calls Try.prog 56 #[.string s] w (RetSt w FS)) := Lib.hid (fun w => by rw [hFS]; exact H1.out w)
  have H2' : Hid (∀ w, Calls Try.prog 56 #[.string pt] w (RetSt w FT)) := Lib.hid (fun w => by rw [hFT]; exact H2.out w)
  rw [← hH, ← hP]
  clear hH hP hFS hFT H1 H2
  go_enter Try.func62, Try.ntmps62
  go_wp2_with fail
  refine (H1'.out _).mono ?_
  rintro e w1 ⟨rfl, hb1⟩
  go_wp2_with fail
  refine (H3.out _).mono ?_
  rintro e w2 ⟨A, n, ca, rfl, hA, hb2⟩
  go_wp2_with fail
  refine (H2'.out _).mono ?_
  rintro e w3 ⟨rfl, hb3⟩
  go_wp2_with fail
  refine (H4.out _).mono ?_
  rintro e w4 ⟨B, m, cb, rfl, hB, hb4⟩
  have hn : H.length = n := by have := hA.len; simpa [kvs, castI] using this
  have hm : P.length = m := by have := hB.len; simpa [kvs, castI] using this
  have rA := ((hA.rd).below hb3).below hb4
  have rB := hB.rd
  have k2 := hb1.trans (hb2.mono hb1.size)
  have k3 := k2.trans (hb3.mono k2.size)
  have k4 := k3.trans (hb4.mono k3.size)
  have hnn : n ≤ 2000 := by omega
  have hmm : m ≤ 2000 := by omega
  have HN := Lib.hid hn
  have HM := Lib.hid hm
  clear hA hB hb1 hb2 hb3 hb4 k2 k3 hn hm hHl hPl
  go_wp2_with fail
  go_loopw [7, 8, 9, 10] (fun vi vp vo vt wr => ∃ (i p q : Nat) (o t : Int) (st : Option (Nat × Nat)), vi = .int .i64 i ∧ vp = .int .i64 p ∧ vo = .int .i64 o ∧ vt = .int .i64 t ∧ Ost o t st ∧ Left H P i p st ∧ i ≤ n ∧ p ≤ m ∧ wr = w4.drewN q) (fun vi _ vo vt _ => (m + 1 - intOf vo).toNat * 100000000 + (n - intOf vt).toNat * 10000 + (n - intOf vi).toNat)
  case atStart => exact ⟨0, 0, 0, -1, 0, none, rfl, rfl, rfl, rfl, ⟨rfl, rfl⟩, Left.start _ _, Nat.zero_le _, Nat.zero_le _, rfl⟩
  case round =>
    obtain ⟨i, p, q, o, t, st, rfl, rfl, rfl, rfl, host, hL, hi, hp, rfl⟩ := hrel
    have HL := Lib.hid hL
    have hbo : -1 ≤ o ∧ o ≤ p ∧ 0 ≤ t ∧ t ≤ i := by
      cases st with
      | none => obtain ⟨rfl, rfl⟩ := host; omega
      | some x => obtain ⟨a, b⟩ := x; obtain ⟨rfl, rfl⟩ := host; have := hL.le; omega
    obtain ⟨ho1, ho2, ht1, ht2⟩ := hbo
    have HO := Lib.hid host
    clear hL host
    by_cases hlt : i < n
    · obtain ⟨b1, off1, rfl, _⟩ := rA.pos (by omega)
      obtain ⟨c, hc, hcc⟩ := rune_at rA i hlt
      have HC := Lib.hid hc
      clear hc
      have hd1 : decide (i < n) = true := by simpa using hlt
      by_cases hpm : p < m
      · obtain ⟨b2, off2, rfl, _⟩ := rB.pos (by omega)
        obtain ⟨x, hx, hxc⟩ := rune_at rB p hpm
        have HX := Lib.hid hx
        clear hx
        have hd2 : decide (p < m) = true := by simpa using hpm
        by_cases h37 : x = 37
        · subst h37
          have hxc' : w4.cell? ⟨b2, off2 + p, none⟩ = some (.int .i32 37) := hxc
          clear hxc
          go_wp2
          go_roundw
          case rel => exact ⟨i, p + 1, q, ((p + 1 : Nat) : Int), i, some (p + 1, i), rfl, by go_num, by go_num, rfl, ⟨rfl, rfl⟩, HL.out.star (by have := HN.out; omega) HX.out, hi, by omega, rfl⟩
          case measure => simp [intOf]; omega
        · have e37 : ((x : Int) == 37) = false := int_ne h37
          by_cases h95 : x = 95
          · subst h95
            have hxc' : w4.cell? ⟨b2, off2 + p, none⟩ = some (.int .i32 95) := hxc
            clear hxc
            go_wp2
            go_quiet (fail)
            go_wp2
            go_roundw
            case rel => exact ⟨i + 1, p + 1, _, o, t, st, by go_num, by go_num, rfl, rfl, HO.out, HL.out.one HC.out HX.out (by decide) (okc_95 c), by omega, by omega, rfl⟩
            case measure => simp [intOf]; omega
          · have e95 : ((x : Int) == 95) = false := int_ne h95
            by_cases hxc2 : x = c
            · subst hxc2
              go_wp2
              go_quiet (fail)
              go_wp2
              go_roundw
              case rel => exact ⟨i + 1, p + 1, _, o, t, st, by go_num, by go_num, rfl, rfl, HO.out, HL.out.one HC.out HX.out h37 (okc_same x), by omega, by omega, rfl⟩
              case measure => simp [intOf]; omega
            · have ec : ((x : Int) == (c : Int)) = false := int_ne hxc2
              have HF : Hid (Off P p c) := Lib.hid (.inr ⟨x, HX.out, h37, okc_no h95 hxc2⟩)
              clear hxc2 h37 h95
              cases st with
              | none =>
                obtain ⟨rfl, rfl⟩ := HO.out
                go_wp2
                go_quiet (fail)
                go_wp2
                go_ret
                rw [HL.out.no HC.out HF.out]
                exact ⟨rfl, below_drewN k4 _⟩
              | some y =>
                obtain ⟨a, b⟩ := y
                obtain ⟨rfl, rfl⟩ := HO.out
                have hge : decide ((0 : Int) ≤ (a : Int)) = true := by simp
                go_wp2
                go_quiet (fail)
                go_wp2
                go_roundw
                case rel => exact ⟨b + 1, a, _, a, ((b + 1 : Nat) : Int), some (a, b + 1), by go_num, rfl, rfl, by go_num, ⟨rfl, rfl⟩, HL.out.back HC.out HF.out, by omega, by omega, rfl⟩
                case measure => simp [intOf]; omega
      · have hd2 : decide (p < m) = false := by simpa using hpm
        have HF : Hid (Off P p c) := Lib.hid (.inl (by have := HM.out; omega))
        cases st with
        | none =>
          obtain ⟨rfl, rfl⟩ := HO.out
          go_wp2
          go_quiet (fail)
          go_wp2
          go_ret
          rw [HL.out.no HC.out HF.out]
          exact ⟨rfl, below_drewN k4 _⟩
        | some y =>
          obtain ⟨a, b⟩ := y
          obtain ⟨rfl, rfl⟩ := HO.out
          have hge : decide ((0 : Int) ≤ (a : Int)) = true := by simp
          go_wp2
          go_quiet (fail)
          go_wp2
          go_roundw
          case rel => exact ⟨b + 1, a, _, a, ((b + 1 : Nat) : Int), some (a, b + 1), by go_num, rfl, rfl, by go_num, ⟨rfl, rfl⟩, HL.out.back HC.out HF.out, by omega, by omega, rfl⟩
          case measure => simp [intOf]; omega
    · have hd1 : decide (i < n) = false := by simpa using hlt
      have HD : Hid (mt H P = mt [] (P.drop p)) := Lib.hid (HL.out.done (by have := HN.out; omega))
      obtain ⟨W, hW⟩ : ∃ W, W = w4.drewN q := ⟨_, rfl⟩
      have kW := below_drewN k4 q
      have rBW := rB.drewN q
      rw [← hW] at kW rBW ⊢
      clear hW rA rB k4 HL HO
      go_wp2
      go_loopw [8] (fun vp wr => ∃ p' q' : Nat, vp = .int .i64 p' ∧ p' ≤ m ∧ mt H P = mt [] (P.drop p') ∧ wr = W.drewN q') (fun vp _ => m - (intOf vp).toNat)
      case atStart => exact ⟨p, 0, rfl, hp, HD.out, rfl⟩
      case round =>
        obtain ⟨p', q', rfl, hp', hD, rfl⟩ := hrel
        have HD2 := Lib.hid hD
        clear hD HD
        by_cases hpm : p' < m
        · obtain ⟨b2, off2, rfl, _⟩ := rBW.pos (by omega)
          obtain ⟨x, hx, hxc⟩ := rune_at rBW p' hpm
          have HX := Lib.hid hx
          clear hx
          have hd2 : decide (p' < m) = true := by simpa using hpm
          by_cases h37 : x = 37
          · subst h37
            have hxc' : W.cell? ⟨b2, off2 + p', none⟩ = some (.int .i32 37) := hxc
            clear hxc
            go_wp2
            go_roundw
            case rel => exact ⟨p' + 1, _, by go_num, by omega, by rw [HD2.out, mt_strip HX.out], rfl⟩
            case measure => simp [intOf]; omega
          · have e37 : ((x : Int) == 37) = false := int_ne h37
            have epm : ((p' : Int) == (m : Int)) = false := int_ne (by omega)
            go_wp2
            go_ret
            rw [HD2.out, mt_stuck HX.out h37]
            exact ⟨rfl, below_drewN kW _⟩
        · obtain rfl : p' = m := by omega
          go_wp2
          go_ret
          rw [HD2.out, mt_over (by have := HM.out; omega)]
          exact ⟨rfl, below_drewN kW _⟩

end Go.Proofs.Ytbmaaofomgkllaa
