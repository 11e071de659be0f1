/- The reference's Words hands back the text's words in a row of its own. Texts of at most 2^32 bytes. -/
import Derived.Test.YtdcboeeblbakhaaWords
import Derived.Test.YtdcboeeblbakhaaPool
namespace Go.Proofs.Ytdcboeeblbakhaa
open Go Go.RowKit

theorem nat_at2 {w : World} {b off n : Nat} {s : ByteArray} (h : RdV w (some ⟨b, off, none⟩) n (runeVs (rn s))) (k : Nat) (hk : k < n) : ∃ c, (rs s)[k]? = some c ∧ VR c ∧ w.cell? ⟨b, off + k, none⟩ = some (.int .i64 (c : Int)) := by
  obtain ⟨v, h1, h2⟩ := h.at_ k hk
  unfold runeVs at h1
  rw [List.getElem?_map] at h1
  cases hx : (rn s)[k]? with
  | none => rw [hx] at h1; cases h1
  | some x =>
    rw [hx] at h1
    injection h1 with h1
    subst h1
    exact ⟨x.2, by simp [rs, hx], rs_valid s x.2 (List.mem_map.2 ⟨x, List.mem_of_getElem? hx, rfl⟩), h2⟩
theorem Own.form' {e : TypeId} {w : World} {base n c : Nat} {A : Option Addr} {xs : List UInt8} (h : Own e w base A n c xs) (hn : 0 < n) : ∃ g, A = some ⟨g, 0, none⟩ ∧ base ≤ g ∧ g < w.heap.size := by
  cases hb : blk A with
  | none => have := h.nil_of hb; omega
  | some b => exact ⟨b, h.at0 b hb, h.lt b hb⟩
/-- Another row stands when one grows, and they lie apart. -/
theorem alt_keep {e t : TypeId} {w0 w w' : World} {base n c m d : Nat} {A T : Option Addr} {vs : List Value} {xs : List UInt8} {T' : Option Addr} {d' : Nat} (ha : Alt w w' T d T' d') (hA : OwnV t w base A n c vs) (hT : Own e w base T m d xs)
    (hd : ∀ b, blk A = some b → blk T ≠ some b) (hb : Below base w0 w) (hbase : base ≤ w.heap.size) : OwnV t w' base A n c vs ∧ (∀ b, blk A = some b → blk T' ≠ some b) ∧ Below base w0 w' := by
  rcases ha with ⟨rfl, rfl, _, hg⟩ | ⟨hn, hg⟩
  · exact ⟨hA.kept hg (fun b h => hd b h), hd, hb.grown hg hbase (fun k hk => (hT.lt k hk).1)⟩
  · refine ⟨hA.kept hg (fun b _ => by simp), fun b h e => ?_, hb.grown hg hbase (fun k hk => by cases hk)⟩
    rw [hn] at e
    injection e with e
    have := hA.lt b h
    omega
/-- What is left: from rune k on, or nothing. -/
def Rest (s : ByteArray) (N k : Nat) (l : List (List UInt8)) (cur : List Nat) : Prop := (k ≤ N ∧ wds s = l ++ (wd ((rs s).drop k) cur).map fw) ∨ (k = N + 1 ∧ wds s = l)
theorem fw_snoc (cur : List Nat) (c : Nat) : fw (cur ++ [c]) = fw cur ++ putR (low c) := by
  unfold fw
  rw [List.map_append, encR_append]
  simp [encR]
theorem fw_len (cur : List Nat) : (fw cur).length ≤ 4 * cur.length := by
  have := (encR_len (cur.map low)).2
  rw [List.length_map] at this
  exact this

set_option maxRecDepth 100000 in
set_option maxHeartbeats 16000000 in
theorem refWords_any (s : ByteArray) (w : World) (hs : s.size ≤ 4294967296) : Calls Try.prog 35 #[.string s] w (RetWs w (wds s)) := by
  go_enter Try.func35, Try.ntmps35
  go_wp2_with fail
  refine (refRunes_any s _ (by omega)).mono ?_
  rintro e w2 ⟨A0, N, ca, B0, nb, cb, rfl, hA, _, hb2⟩
  have hN : (rs s).length = N := by have := hA.len; rw [rs_len]; simpa [runeVs] using this
  have hNs : N ≤ s.size := by rw [← hN, rs_len]; exact rn_len s
  have HN := Lib.hid hN
  have rA := hA.rd
  clear hA hN
  go_wp2
  go_loopw [5, 6, 7] (fun vo vn vi wr => ∃ (A : Option Addr) (n c : Nat) (T : Option Addr) (tn tc k : Nat) (l : List (List UInt8)) (cur : List Nat), vo = .slice A n c ∧ vn = .slice T tn tc ∧ vi = .int .i64 k ∧ OwnV 9 wr w2.heap.size A n c (svs l) ∧ Own 5 wr w2.heap.size T tn tc (fw cur) ∧ (∀ b, blk A = some b → blk T ≠ some b) ∧ Below w2.heap.size w2 wr ∧ Rest s N k l cur ∧ l.length ≤ k ∧ cur.length ≤ k) (fun _ _ vi _ => N + 1 - (intOf vi).toNat)
  case atStart => exact ⟨none, 0, 0, none, 0, 0, 0, [], [], rfl, rfl, rfl, OwnV.nil _ _ _, Own.nil _ _ _, fun b h => by simp [blk] at h, Below.refl _ _, .inl ⟨Nat.zero_le _, by simp [wds]⟩, Nat.le_refl _, Nat.le_refl _⟩
  case round =>
    obtain ⟨A, n, c, T, tn, tc, k, l, cur, rfl, rfl, rfl, hA, hT, hd, hb, hr, hlk, hck⟩ := hrel
    have hnl : n = l.length := by have := hA.len; simp [svs] at this; omega
    have htl : tn = (fw cur).length := hT.len.symm
    have htn : tn ≤ 4 * k := by have := fw_len cur; omega
    have hnk : n ≤ k := by omega
    have hbs := hb.size
    have HD := Lib.hid hd
    have HNL := Lib.hid hnl
    have HTL := Lib.hid htl
    clear hd hnl htl
    by_cases hkN : k ≤ N
    · have HR : Hid (wds s = l ++ (wd ((rs s).drop k) cur).map fw) := by
        rcases hr with ⟨_, h⟩ | ⟨h, _⟩
        · exact Lib.hid h
        · omega
      clear hr
      have hle : decide (k ≤ N) = true := by simpa using hkN
      -- what an end of a word does
      by_cases hlt : k < N
      · obtain ⟨b1, off1, rfl, _⟩ := rA.pos (by omega)
        obtain ⟨c0, hc0, hV, hcell⟩ := nat_at2 (rA.below hb) k hlt
        have HC := Lib.hid hc0
        have HDR : Hid ((rs s).drop k = c0 :: (rs s).drop (k + 1)) := Lib.hid (by
          obtain ⟨hk, e⟩ := List.getElem?_eq_some_iff.1 HC.out
          rw [List.drop_eq_getElem_cons hk, e])
        have HV := Lib.hid hV
        clear hc0 hV
        obtain ⟨r, hr⟩ : ∃ r : Int, r = (c0 : Int) := ⟨_, rfl⟩
        rw [← hr] at hcell
        have hlt1 : decide (k < N) = true := by simpa using hlt
        by_cases hin : inW c0 = true
        · obtain ⟨z, hz⟩ : ∃ z : Int, z = (low c0 : Nat) := ⟨_, rfl⟩
          have HLow : Hid (∀ W, Calls Try.prog 45 #[.int .i64 r] W fun e w' => e = .returned (.int .i64 z) ∧ W = w') := Lib.hid (fun W => by rw [hr, hz]; exact Low_any c0 W HV.out)
          have HPut : Hid (∀ W, Calls Try.prog 44 #[.int .i64 z] W (Made W.heap.size W (putR (low c0)))) := Lib.hid (fun W => by rw [hz]; exact Put_any (low c0) W (low_valid HV.out))
          have hin2 := (inW_iff c0).1 hin
          have HIN := Lib.hid hin
          rcases (show (97 ≤ r ∧ r ≤ 122) ∨ (65 ≤ r ∧ r ≤ 90) ∨ (48 ≤ r ∧ r ≤ 57) ∨ (192 ≤ r ∧ r ≤ 65532) ∨ 65534 ≤ r from by omega) with ⟨h, h'⟩ | ⟨h, h'⟩ | ⟨h, h'⟩ | ⟨h, h'⟩ | h
          all_goals
            have hne : ((r : Int) != 65533) = true := by simp; omega
            clear hr hz hin hin2
            go_wp2_with fail
            refine (HLow.out _).mono ?_
            rintro e W ⟨rfl, rfl⟩
            go_wp2_with fail
            refine (HPut.out _).mono ?_
            rintro e w7 ⟨P, lp, cp, rfl, op, hb7⟩
            have hlp : 0 < lp ∧ lp ≤ 4 := by have := putR_len (low c0); rw [op.len] at this; exact this
            obtain ⟨g, rfl, _, _⟩ := op.form' hlp.1
            have hA7 := hA.below hb7
            have hT7 := hT.below hb7
            have hs7 := hb7.size
            have hb7' := hb.trans (hb7.mono hbs)
            have rP := op.rd
            clear op hb7
            go_wp2_with (at_builtin; refine wpList_appT _ rfl _ _ 23 rfl w2.heap.size 5 Try.underlying23 info_u8 T tn tc (fw cur) rfl hT7 g 0 lp cp (putR (low c0)) rfl rP hlp.1 ?_ ?_ ?_)
            · omega
            · omega
            intro T2 tc2 w8 hT8 ha8
            rw [← fw_snoc] at hT8
            have H8 := Lib.hid (alt_keep ha8 hA7 hT7 HD.out hb7' (by omega))
            have HT8 := Lib.hid hT8
            clear hT8 ha8 hA7 hT7 hb7' rP
            go_wp2
            go_roundw
            case rel =>
              obtain ⟨e1, e2, e3⟩ := H8.out
              exact ⟨A, n, c, T2, tn + lp, tc2, k + 1, l, cur ++ [c0], rfl, rfl, by go_num, e1, HT8.out, e2, e3, .inl ⟨by omega, by rw [HR.out, HDR.out, wd_in HIN.out]⟩, by omega, by simp; omega⟩
            case measure => simp [intOf]; omega
        · have hin1 : inW c0 = false := by simpa using hin
          have hin2 : ¬ ((97 ≤ c0 ∧ c0 ≤ 122) ∨ (65 ≤ c0 ∧ c0 ≤ 90) ∨ (48 ≤ c0 ∧ c0 ≤ 57) ∨ (192 ≤ c0 ∧ c0 ≠ 65533)) := fun h => hin ((inW_iff c0).2 h)
          have HIN := Lib.hid hin1
          have hr0 : 0 ≤ r := by omega
          rcases (show r < 48 ∨ (58 ≤ r ∧ r ≤ 64) ∨ (91 ≤ r ∧ r ≤ 96) ∨ (123 ≤ r ∧ r ≤ 191) ∨ r = 65533 from by omega) with h | ⟨h, h'⟩ | ⟨h, h'⟩ | ⟨h, h'⟩ | h
          all_goals
            clear hr hin hin1 hin2
            try subst h
            rcases List.eq_nil_or_concat cur with hcur | ⟨_, _, hcur⟩
            · obtain rfl : cur = [] := hcur
              obtain rfl : tn = 0 := HTL.out
              go_wp2
              go_roundw
              case rel => exact ⟨A, n, c, T, 0, tc, k + 1, l, [], rfl, rfl, by go_num, hA, hT, HD.out, hb, .inl ⟨by omega, by rw [HR.out, HDR.out, wd_out0 HIN.out]⟩, by omega, by simp⟩
              case measure => simp [intOf]; omega
            · have hne : cur ≠ [] := by rw [hcur]; simp
              have HNE := Lib.hid hne
              have htp : 0 < tn := by rw [HTL.out]; exact fw_pos hne
              have htp1 : decide (0 < tn) = true := by simpa using htp
              have hcv := conv_own hT
              clear hcur hne
              go_wp2_with (at_builtin; refine wpList_app1 wr rfl _ _ 54 rfl w2.heap.size 9 _ _ Try.underlying54 info_str rfl A n c _ rfl hA (.string (bs (fw cur))) rfl wr.heap.size rfl rfl ?_ ?_ hbs ?_)
              · unfold maxLen; omega
              · omega
              intro A3 c3 w3 hA3 hg3 _
              have hb3 := hb.grown hg3 hbs (fun k hk => (hA.lt k hk).1)
              have HA3 := Lib.hid hA3
              clear hg3 hA hT hcv hA3 hb
              go_wp2
              go_roundw
              case rel => exact ⟨A3, n + 1, c3, none, 0, 0, k + 1, l ++ [fw cur], [], rfl, rfl, by go_num, by rw [svs_snoc]; exact HA3.out, Own.nil _ _ _, fun b _ h => by simp [blk] at h, hb3, .inl ⟨by omega, by rw [HR.out, HDR.out, wd_out1 HIN.out HNE.out, List.map_cons, List.append_assoc]; rfl⟩, by simp; omega, by simp⟩
              case measure => simp [intOf]; omega
      · obtain rfl : N = k := by omega
        have HE : Hid ((rs s).drop N = []) := Lib.hid (List.drop_eq_nil_of_le (by rw [HN.out]; omega))
        clear hlt hle hkN
        rcases List.eq_nil_or_concat cur with hcur | ⟨_, _, hcur⟩
        · obtain rfl : cur = [] := hcur
          obtain rfl : tn = 0 := HTL.out
          go_wp2
          go_roundw
          case rel => exact ⟨A, n, c, T, 0, tc, N + 1, l, [], rfl, rfl, by go_num, hA, hT, HD.out, hb, .inr ⟨rfl, by rw [HR.out, HE.out, wd_nil0]; simp⟩, by omega, by simp⟩
          case measure => (simp [intOf]; try omega)
        · have hne : cur ≠ [] := by rw [hcur]; simp
          have HNE := Lib.hid hne
          have htp : 0 < tn := by rw [HTL.out]; exact fw_pos hne
          have htp1 : decide (0 < tn) = true := by simpa using htp
          have hcv := conv_own hT
          clear hcur hne
          go_wp2_with (at_builtin; refine wpList_app1 wr rfl _ _ 54 rfl w2.heap.size 9 _ _ Try.underlying54 info_str rfl A n c _ rfl hA (.string (bs (fw cur))) rfl wr.heap.size rfl rfl ?_ ?_ hbs ?_)
          · unfold maxLen; omega
          · omega
          intro A3 c3 w3 hA3 hg3 _
          have hb3 := hb.grown hg3 hbs (fun k hk => (hA.lt k hk).1)
          have HA3 := Lib.hid hA3
          clear hg3 hA hT hcv hA3 hb
          go_wp2
          go_roundw
          case rel => exact ⟨A3, n + 1, c3, none, 0, 0, N + 1, l ++ [fw cur], [], rfl, rfl, by go_num, by rw [svs_snoc]; exact HA3.out, Own.nil _ _ _, fun b _ h => by simp [blk] at h, hb3, .inr ⟨rfl, by rw [HR.out, HE.out, wd_nil1 HNE.out]; rfl⟩, by simp; omega, by simp⟩
          case measure => (simp [intOf]; try omega)
    · have hle : decide (k ≤ N) = false := by simpa using hkN
      have HR : wds s = l := by
        rcases hr with ⟨h, _⟩ | ⟨_, h⟩
        · omega
        · exact h
      have HR := Lib.hid HR
      clear hr
      go_wp2
      go_ret
      refine ⟨A, n, c, rfl, ?_, hb2.trans (hb.mono hb2.size)⟩
      rw [HR.out]
      exact hA.mono hb2.size

end Go.Proofs.Ytdcboeeblbakhaa
