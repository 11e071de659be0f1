/- The reference's Runes: the runes of a text and the places at which they begin, as rows of its own. Texts of at most 2^40 bytes. -/
import Derived.Test.YtdcboeeblbakhaaFirst4
import Derived.Test.YtdcboeeblbakhaaVal
namespace Go.Proofs.Ytdcboeeblbakhaa
open Go Go.RowKit

def runeVs (l : List (Nat × Nat)) : List Value := l.map fun x => iv (x.2 : Nat)
def placeVs (l : List (Nat × Nat)) : List Value := l.map fun x => iv (x.1 : Nat)
theorem runeVs_snoc (l : List (Nat × Nat)) (p c : Nat) : runeVs (l ++ [(p, c)]) = runeVs l ++ [iv (c : Nat)] := by simp [runeVs]
theorem placeVs_snoc (l : List (Nat × Nat)) (p c : Nat) : placeVs (l ++ [(p, c)]) = placeVs l ++ [iv (p : Nat)] := by simp [placeVs]

/-- 'Two rows of the call's own: the runes, and the places with the end.' -/
def RetRR (w : World) (s : ByteArray) (e : Ending) (w' : World) : Prop :=
  ∃ A n c B m d, e = .returned (.tuple #[.slice A n c, .slice B m d]) ∧ OwnV 3 w' w.heap.size A n c (runeVs (rn s)) ∧ OwnV 3 w' w.heap.size B m d (placeVs (rn s) ++ [iv s.size]) ∧ Below w.heap.size w w'

theorem rn_len (s : ByteArray) : (rn s).length ≤ s.size := by have := rnF_len s s.size 0; unfold rn; omega

set_option maxRecDepth 100000 in
set_option maxHeartbeats 1000000 in
theorem refRunes_any (s : ByteArray) (w : World) (hs : s.size ≤ 1099511627776) : Calls Try.prog 43 #[.string s] w (RetRR w s) := by
  go_enter Try.func43, Try.ntmps43
  go_wp2
  go_loopw [4, 5, 6] (fun o q v wr => ∃ (A : Option Addr) (n c : Nat) (B : Option Addr) (m d p f : Nat) (l : List (Nat × Nat)), o = .slice A n c ∧ q = .slice B m d ∧ v = .int .i64 p ∧ OwnV 3 wr w.heap.size A n c (runeVs l) ∧ OwnV 3 wr w.heap.size B m d (placeVs l) ∧ (∀ b, blk A = some b → blk B ≠ some b) ∧ Below w.heap.size w wr ∧ rn s = l ++ rnF s f p ∧ s.size ≤ p + f ∧ l.length ≤ p ∧ p ≤ s.size) (fun _ _ v _ => s.size - (intOf v).toNat)
  case atStart => exact ⟨none, 0, 0, none, 0, 0, 0, s.size, [], rfl, rfl, rfl, OwnV.nil _ _ _, OwnV.nil _ _ _, fun b h => by simp [blk] at h, Below.refl _ _, rfl, by omega, Nat.le_refl _, by omega⟩
  case round =>
    obtain ⟨A, n, c, B, m, d, p, f, l, rfl, rfl, rfl, hA, hB, hd, hb, hl, hf, hlp, hps⟩ := hrel
    have Hl := Lib.hid hl
    have Hd := Lib.hid hd
    clear hl hd
    by_cases hp : p < s.size
    · obtain ⟨hV, hle⟩ := decode_valid s p hp
      have hwd := width_pos s p hp
      obtain ⟨f, rfl⟩ : ∃ g, f = g + 1 := ⟨f - 1, by omega⟩
      have R := Lib.hid (rnF_step (f := f) hp)
      have hbs := hb.size
      have hnl : n ≤ p := by have := hA.len; simp [runeVs] at this; omega
      have hml : m ≤ p := by have := hB.len; simp [placeVs] at this; omega
      have HV := Lib.hid hV
      clear hV
      go_wp2_with fail
      refine (First_any s p _ hp (by omega)).mono ?_
      rintro e W ⟨rfl, rfl⟩
      go_wp2_with (at_builtin; refine wpList_app1 _ rfl _ _ 73 rfl w.heap.size 3 _ _ Try.underlying73 info_int rfl A n c _ rfl hA _ rfl _ rfl rfl ?_ ?_ hb.size ?_)
      · unfold maxLen; omega
      · omega
      intro A2 c2 w2 hA2 hg2 hk2
      have hB2 := hB.kept hg2 (fun b h1 h2 => Hd.out b h2 h1)
      have hb2 := hb.grown hg2 hb.size (fun k hk => (hA.lt k hk).1)
      have hd2 : ∀ b, blk A2 = some b → blk B ≠ some b := fun b h1 h2 => by
        rcases hk2 with h | h
        · rw [h] at h1; exact Hd.out b h1 h2
        · rw [h] at h1
          injection h1 with h1
          have := (hB.lt b h2).2
          omega
      clear hA hB
      go_wp2_with (at_builtin; refine wpList_app1 _ rfl _ _ 73 rfl w.heap.size 3 _ _ Try.underlying73 info_int rfl B m d _ rfl hB2 _ rfl _ rfl rfl ?_ ?_ hb2.size ?_)
      · unfold maxLen; omega
      · omega
      intro B2 d2 w3 hB3 hg3 hk3
      have hA3 := hA2.kept hg3 (fun b h1 h2 => hd2 b h1 h2)
      have hb3 := hb2.grown hg3 hb2.size (fun k hk => (hB2.lt k hk).1)
      have hd3 : ∀ b, blk A2 = some b → blk B2 ≠ some b := fun b h1 h2 => by
        rcases hk3 with h | h
        · rw [h] at h2; exact hd2 b h1 h2
        · rw [h] at h2
          injection h2 with h2
          have := (hA2.lt b h1).2
          omega
      have Hd3 := Lib.hid hd3
      clear hd3 hd2 hk2 hk3 hg2 hg3
      go_wp2
      go_roundw
      case rel =>
        refine ⟨A2, n + 1, c2, B2, m + 1, d2, p + (Utf8.decode s p).2, f, l ++ [(p, (Utf8.decode s p).1)], rfl, rfl, by go_num, ?_, ?_, Hd3.out, hb3, ?_, by omega, ?_, hle⟩
        · rw [runeVs_snoc]; exact hA3
        · rw [placeVs_snoc]; exact hB3
        · rw [Hl.out, R.out, List.append_assoc]; rfl
        · simp; omega
      case measure => simp [intOf]; omega
    · have R := Lib.hid (rnF_end (f := f) hp)
      have hbs := hb.size
      have hnl : n ≤ p := by have := hA.len; simp [runeVs] at this; omega
      have hml : m ≤ p := by have := hB.len; simp [placeVs] at this; omega
      go_wp2_with (at_builtin; refine wpList_app1 _ rfl _ _ 73 rfl w.heap.size 3 _ _ Try.underlying73 info_int rfl B m d _ rfl hB _ rfl _ rfl rfl ?_ ?_ hb.size ?_)
      · unfold maxLen; omega
      · omega
      intro B2 d2 w3 hB3 hg3 hk3
      have hA3 := hA.kept hg3 (fun b h1 h2 => Hd.out b h1 h2)
      have hb3 := hb.grown hg3 hb.size (fun k hk => (hB.lt k hk).1)
      clear hg3 hk3
      go_wp2
      go_ret2
      have e : rn s = l := by rw [Hl.out, R.out, List.append_nil]
      have el : n = (rn s).length := by rw [e]; have := hA.len; simpa [runeVs] using this.symm
      exact ⟨A, n, c, B2, m + 1, d2, rfl, by rw [e]; exact hA3, by rw [e]; exact hB3, hb3⟩

end Go.Proofs.Ytdcboeeblbakhaa
