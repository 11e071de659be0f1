/- text.Words and the reference's Words hand back the text's words in a row of their own. Texts of at most 2^32 bytes. -/
import Derived.Test.YtdcboeeblbakhaaMathW
import Derived.Test.YtdcboeeblbakhaaRunes
namespace Go.Proofs.Ytdcboeeblbakhaa
open Go Go.RowKit

theorem info_str : (Try.prog.info? 9).map (fun i => (i.zero, i.size, i.bytes)) = some (some (.string ⟨#[]⟩), 1, 16) := by kernel_rfl
/-- 'It hands back a row of strings of its own.' -/
def RetWs (w : World) (l : List (List UInt8)) (e : Ending) (w' : World) : Prop := ∃ A n c, e = .returned (.slice A n c) ∧ OwnV 9 w' w.heap.size A n c (svs l) ∧ Below w.heap.size w w'

set_option maxRecDepth 100000 in
set_option maxHeartbeats 8000000 in
theorem inWord_int (r : Int) (d : Bool) (w : World) (h0 : 0 ≤ r) (h1 : r ≤ 1114111)
    (hd : d = true ↔ (97 ≤ r ∧ r ≤ 122) ∨ (65 ≤ r ∧ r ≤ 90) ∨ (48 ≤ r ∧ r ≤ 57) ∨ (192 ≤ r ∧ r ≠ 65533)) :
    Calls Try.prog 47 #[.int .i32 r] w fun e w' => e = .returned (.bool d) ∧ w = w' := by
  have Hd := Lib.hid hd
  clear hd
  have fin : ∀ z : Bool, (z = true ↔ d = true) → Ending.returned (.bool z) = .returned (.bool d) := fun z h => by rw [mt_eq' h]
  rcases (show r < 48 ∨ (48 ≤ r ∧ r ≤ 57) ∨ (58 ≤ r ∧ r ≤ 64) ∨ (65 ≤ r ∧ r ≤ 90) ∨ (91 ≤ r ∧ r ≤ 96) ∨ (97 ≤ r ∧ r ≤ 122) ∨ (123 ≤ r ∧ r ≤ 191) ∨ (192 ≤ r ∧ r ≤ 65532) ∨ r = 65533 ∨ 65534 ≤ r from by omega)
    with h | ⟨h, h'⟩ | ⟨h, h'⟩ | ⟨h, h'⟩ | ⟨h, h'⟩ | ⟨h, h'⟩ | ⟨h, h'⟩ | ⟨h, h'⟩ | h | h
  all_goals (try subst h)
  all_goals (try (have hne : ((r : Int) != 65533) = true := by simp; omega))
  all_goals
    go_enter Try.func47, Try.ntmps47
    go_wp2
    go_ret
    exact ⟨fin _ (by rw [Hd.out]; simp; try omega), rfl⟩
theorem inWord_any (c : Nat) (w : World) (hc : VR c) : Calls Try.prog 47 #[.int .i32 c] w fun e w' => e = .returned (.bool (inW c)) ∧ w = w' := by
  refine inWord_int (c : Int) (inW c) w (by omega) (by have := hc.1; omega) ?_
  rw [inW_iff]
  omega

/-- 'No word is under way, or one since place b.' -/
def Beg (s : ByteArray) (p : Nat) (v : Int) (cur : List Nat) : Prop := (v = -1 ∧ cur = []) ∨ ∃ b : Nat, v = (b : Int) ∧ cur ≠ [] ∧ Wd s b p cur

set_option maxRecDepth 100000 in
set_option maxHeartbeats 4000000 in
theorem Words_any (s : ByteArray) (w : World) (hs : s.size ≤ 4294967296) : Calls Try.prog 34 #[.string s] w (RetWs w (wds s)) := by
  have HFd : Hid (∀ (b p : Nat) (cur : List Nat) (w : World), Wd s b p cur → Calls Try.prog 25 #[.string (s.extract b p)] w (RetSt w (bs (fw cur)))) := Lib.hid (fun b p cur w h => by
    have h2 := Fold_any (s.extract b p) w (by have := h.2.1; simp; omega)
    rw [h.fold] at h2
    exact h2)
  go_enter Try.func34, Try.ntmps34
  go_wp2
  go_loopw [3, 4] (fun o v wr => ∃ (A : Option Addr) (n c p f : Nat) (b : Int) (l : List (List UInt8)) (cur : List Nat), o = .slice A n c ∧ v = .int .i64 b ∧ OwnV 9 wr (w.heap.size + 1) A n c (svs l) ∧ wr.heap[w.heap.size]? = some (.stringIter s p) ∧ Below w.heap.size w wr ∧ wds s = l ++ (wd ((rnF s f p).map (·.2)) cur).map fw ∧ s.size ≤ p + f ∧ l.length ≤ p ∧ Beg s p b cur ∧ p ≤ s.size) (fun _ _ wr => s.size - wr.iterPos w.heap.size)
  case atStart =>
    refine ⟨none, 0, 0, 0, s.size, -1, [], [], rfl, rfl, OwnV.nil _ _ _, ?_, below_iter (Below.refl _ w) (Nat.le_refl _) s 0, rfl, by omega, Nat.le_refl _, .inl ⟨rfl, rfl⟩, Nat.zero_le _⟩
    have := World.iter_heap w s 0
    simpa using this
  case round =>
    obtain ⟨A, n, c, p, f, b, l, cur, rfl, rfl, hA, hit, hbw, hl, hf, hlp, hbeg, hps⟩ := hrel
    have hsz : w.heap.size < wr.heap.size := (Array.getElem?_eq_some_iff.1 hit).1
    have hn : n = l.length := by have := hA.len; simp [svs] at this; omega
    have hnp : n ≤ p := by omega
    have Hl := Lib.hid hl
    have HN := Lib.hid hn
    clear hl hn
    by_cases hp : p < s.size
    · have hnx : ∀ ty, (Instr.next (.pointer (some ⟨w.heap.size, 0, none⟩)) true ty).run Try.prog wr = _ := fun ty => Lib.run_next_any_at wr w.heap.size s p ty hit hp
      obtain ⟨hV, hle⟩ := decode_valid s p hp
      have hwd := width_pos s p hp
      have hA2 := hA.iterAt (p' := p + (Utf8.decode s p).2) (g := w.heap.size) (s := s) (by omega)
      have hit2 := Lib.iterAt_heap wr w.heap.size s p (p + (Utf8.decode s p).2) hit
      have hbw2 := Lib.below_iterAt hbw (k := w.heap.size) (by omega) s (p + (Utf8.decode s p).2)
      have hsz2 : (wr.iterAt w.heap.size s (p + (Utf8.decode s p).2)).heap.size = wr.heap.size := Lib.iterAt_size _ _ _ _
      obtain ⟨f, rfl⟩ : ∃ g, f = g + 1 := ⟨f - 1, by omega⟩
      have R := Lib.hid (rnF_step (f := f) hp)
      have hIW : ∀ W, Calls Try.prog 47 #[.int .i32 (Utf8.decode s p).1] W fun e w' => e = .returned (.bool (inW (Utf8.decode s p).1)) ∧ W = w' := fun W => inWord_any _ W hV
      have hW1 : inW (Utf8.decode s p).1 = true → Wd s p (p + (Utf8.decode s p).2) [(Utf8.decode s p).1] := Wd.one hp
      have hW2 : ∀ b cur, Wd s b p cur → inW (Utf8.decode s p).1 = true → Wd s b (p + (Utf8.decode s p).2) (cur ++ [(Utf8.decode s p).1]) := fun b cur h1 h2 => h1.more hp h2
      have HW1 := Lib.hid hW1
      have HW2 := Lib.hid hW2
      have HA2 := Lib.hid hA2
      have Hit2 := Lib.hid hit2
      have Hit := Lib.hid hit
      have Hsz2 := Lib.hid hsz2
      have HB2 := Lib.hid hbw2
      have Hbeg := Lib.hid hbeg
      clear hA hit hA2 hit2 hsz2 hV hW1 hW2 hbw2 hbeg
      obtain ⟨c0, hc0⟩ : ∃ c0, (Utf8.decode s p).1 = c0 := ⟨_, rfl⟩
      rw [hc0] at hIW HW1 HW2 R
      cases hin : inW c0 with
      | true =>
        rw [hin] at hIW
        have HIW := Lib.hid hIW
        have HIN := Lib.hid hin
        clear hIW hin
        rcases Hbeg.out with ⟨rfl, rfl⟩ | ⟨b, rfl, hcur, hw⟩
        · go_wp2_with fail
          refine (HIW.out _).mono ?_
          rintro e W ⟨rfl, rfl⟩
          go_wp2
          go_roundw
          case rel => exact ⟨A, n, c, p + (Utf8.decode s p).2, f, p, l, [c0], rfl, rfl, HA2.out, Hit2.out, HB2.out, by rw [Hl.out, R.out, List.map_cons, wd_in HIN.out]; rfl, by omega, by omega, .inr ⟨p, rfl, by simp, HW1.out HIN.out⟩, hle⟩
          case measure => simp only [World.iterPos, Hit2.out, Hit.out]; omega
        · have hge : decide ((0 : Int) ≤ (b : Int)) = true := by simp
          have hlt : decide ((b : Int) < 0) = false := by simp
          go_wp2_with fail
          refine (HIW.out _).mono ?_
          rintro e W ⟨rfl, rfl⟩
          go_wp2_with fail
          refine (HIW.out _).mono ?_
          rintro e W ⟨rfl, rfl⟩
          go_wp2
          go_roundw
          case rel => exact ⟨A, n, c, p + (Utf8.decode s p).2, f, b, l, cur ++ [c0], rfl, rfl, HA2.out, Hit2.out, HB2.out, by rw [Hl.out, R.out, List.map_cons, wd_in HIN.out], by omega, by omega, .inr ⟨b, rfl, by simp, HW2.out b cur hw HIN.out⟩, hle⟩
          case measure => simp only [World.iterPos, Hit2.out, Hit.out]; omega
      | false =>
        rw [hin] at hIW
        have HIW := Lib.hid hIW
        have HIN := Lib.hid hin
        clear hIW hin
        rcases Hbeg.out with ⟨rfl, rfl⟩ | ⟨b, rfl, hcur, hw⟩
        · go_wp2_with fail
          refine (HIW.out _).mono ?_
          rintro e W ⟨rfl, rfl⟩
          go_wp2_with fail
          refine (HIW.out _).mono ?_
          rintro e W ⟨rfl, rfl⟩
          go_wp2
          go_roundw
          case rel => exact ⟨A, n, c, p + (Utf8.decode s p).2, f, -1, l, [], rfl, rfl, HA2.out, Hit2.out, HB2.out, by rw [Hl.out, R.out, List.map_cons, wd_out0 HIN.out], by omega, by omega, .inl ⟨rfl, rfl⟩, hle⟩
          case measure => simp only [World.iterPos, Hit2.out, Hit.out]; omega
        · have hbp : b ≤ p := hw.1
          have HWD := Lib.hid hw
          have HCUR := Lib.hid hcur
          clear hw hcur
          go_wp2_with fail
          refine (HIW.out _).mono ?_
          rintro e W ⟨rfl, rfl⟩
          go_wp2_with fail
          refine (HIW.out _).mono ?_
          rintro e W ⟨rfl, rfl⟩
          go_wp2_with fail
          refine (HFd.out b p cur _ HWD.out).mono ?_
          rintro e w9 ⟨rfl, hb9⟩
          have hA9 := HA2.out.below hb9
          have hs9 := hb9.size
          have hsz2 := Hsz2.out
          go_wp2_with (at_builtin; refine wpList_app1 w9 rfl _ _ 54 rfl (w.heap.size + 1) 9 _ _ Try.underlying54 info_str rfl A n c _ rfl hA9 (.string (bs (fw cur))) rfl w9.heap.size rfl rfl ?_ ?_ ?_ ?_)
          · unfold maxLen; omega
          · omega
          · omega
          intro A3 c3 w3 hA3 hg3 _
          have hne : blk A ≠ some w.heap.size := fun e => by have := (hA9.lt _ e).1; omega
          have hit3 : w3.heap[w.heap.size]? = some (.stringIter s (p + (Utf8.decode s p).2)) := (hg3.block w.heap.size (by omega) (fun e => hne e.symm)).trans ((hb9.block w.heap.size (by omega)).trans Hit2.out)
          have hb3 := (HB2.out.trans (hb9.mono (by omega))).grown hg3 (by omega) (fun k hk => by have := (hA9.lt k hk).1; omega)
          have Hit3 := Lib.hid hit3
          have HA3 := Lib.hid hA3
          clear hg3 hA9 hb9 hit3 hA3
          go_wp2
          go_roundw
          case rel => exact ⟨A3, n + 1, c3, p + (Utf8.decode s p).2, f, -1, l ++ [fw cur], [], rfl, rfl, by rw [svs_snoc]; exact HA3.out, Hit3.out, hb3, by rw [Hl.out, R.out, List.map_cons, wd_out1 HIN.out HCUR.out, List.map_cons, List.append_assoc]; rfl, by omega, by simp; have := HN.out; omega, .inl ⟨rfl, rfl⟩, hle⟩
          case measure => simp only [World.iterPos, Hit3.out, Hit.out]; omega
    · have hnx : ∀ ty, (Instr.next (.pointer (some ⟨w.heap.size, 0, none⟩)) true ty).run Try.prog wr = _ := fun ty => Lib.run_next_end_at wr w.heap.size s p ty hit hp
      have R := Lib.hid (rnF_end (f := f) hp)
      obtain rfl : p = s.size := by omega
      rcases hbeg with ⟨rfl, rfl⟩ | ⟨b, rfl, hcur, hw⟩
      · go_wp2
        go_ret
        refine ⟨A, n, c, rfl, ?_, hbw⟩
        rw [Hl.out, R.out, List.map_nil, wd_nil0, List.map_nil, List.append_nil]
        exact hA.mono (by omega)
      · have hbp : b ≤ s.size := hw.1
        have hge : decide ((0 : Int) ≤ (b : Int)) = true := by simp
        have HWD := Lib.hid hw
        have HCUR := Lib.hid hcur
        clear hw hcur hit
        go_wp2_with fail
        refine (HFd.out b s.size cur _ HWD.out).mono ?_
        rintro e w9 ⟨rfl, hb9⟩
        have hA9 := hA.below hb9
        have hs9 := hb9.size
        go_wp2_with (at_builtin; refine wpList_app1 w9 rfl _ _ 54 rfl (w.heap.size + 1) 9 _ _ Try.underlying54 info_str rfl A n c _ rfl hA9 (.string (bs (fw cur))) rfl w9.heap.size rfl rfl ?_ ?_ ?_ ?_)
        · unfold maxLen; omega
        · omega
        · omega
        intro A3 c3 w3 hA3 hg3 _
        have hb3 := (hbw.trans (hb9.mono (by omega))).grown hg3 (by omega) (fun k hk => by have := (hA9.lt k hk).1; omega)
        clear hg3 hA9 hb9
        go_wp2
        go_ret
        refine ⟨A3, n + 1, c3, rfl, ?_, hb3⟩
        rw [Hl.out, R.out, List.map_nil, wd_nil1 HCUR.out, List.map_cons, List.map_nil, svs_snoc]
        exact hA3.mono (by omega)

end Go.Proofs.Ytdcboeeblbakhaa
