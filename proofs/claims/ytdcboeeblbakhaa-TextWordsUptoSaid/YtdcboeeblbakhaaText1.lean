/- text.Len, text.Fold (for every string of at most 2^40 bytes) and the fixed fact of layer 2's statements. -/
import Derived.Test.YtdcboeeblbakhaaDec
import Derived.Test.YtdcboeeblbakhaaShelf
namespace Go.Proofs.Ytdcboeeblbakhaa
open Go Go.RowKit

theorem below_iter {B : Nat} {a w : World} (h : Below B a w) (hB : B ≤ w.heap.size) (s : ByteArray) (p : Nat) : Below B a (w.iter s p) := h.alloc hB _

def RetN (w : World) (n : Nat) (e : Ending) (w' : World) : Prop := e = .returned (.int .i64 n) ∧ Below w.heap.size w w'

set_option maxRecDepth 100000 in
theorem Len_any (s : ByteArray) (w : World) (hs : s.size ≤ 1099511627776) : Calls Try.prog 28 #[.string s] w (RetN w (rn s).length) := by
  go_enter Try.func28, Try.ntmps28
  go_wp2
  go_loopw [3] (fun v w' => ∃ p f k : Nat, v = .int .i64 k ∧ w' = w.iter s p ∧ s.size ≤ p + f ∧ (rn s).length = k + (rnF s f p).length ∧ k ≤ p) (fun _ w' => s.size - w'.iterPos w.heap.size)
  case atStart => exact ⟨0, s.size, 0, rfl, rfl, by omega, by rw [rn]; omega, Nat.le_refl _⟩
  case round =>
    obtain ⟨p, f, k, rfl, rfl, hf, hk, hkp⟩ := hrel
    have Hk := Lib.hid hk
    clear hk
    by_cases hp : p < s.size
    · have hnx : ∀ ty, (Instr.next (.pointer (some ⟨w.heap.size, 0, none⟩)) true ty).run Try.prog (w.iter s p) = _ := fun ty => run_next_any w s p ty hp
      have hwd := width_pos s p hp
      obtain ⟨f, rfl⟩ : ∃ g, f = g + 1 := ⟨f - 1, by omega⟩
      have R := Lib.hid (rnF_step (f := f) hp)
      go_wp2
      go_roundw
      case rel => exact ⟨p + (Utf8.decode s p).2, f, k + 1, by go_num, rfl, by omega, by rw [Hk.out, R.out, List.length_cons]; omega, by omega⟩
      case measure => simp; omega
    · have hnx : ∀ ty, (Instr.next (.pointer (some ⟨w.heap.size, 0, none⟩)) true ty).run Try.prog (w.iter s p) = _ := fun ty => run_next_end w s p ty hp
      have R := Lib.hid (rnF_end (f := f) hp)
      go_wp2
      go_ret
      exact ⟨by rw [Hk.out, R.out]; rfl, below_iter (Below.refl _ _) (Nat.le_refl _) _ _⟩

/-- A rune, folded. -/
def low (c : Nat) : Nat := if (65 ≤ c ∧ c ≤ 90) ∨ (192 ≤ c ∧ c ≤ 222 ∧ c ≠ 215) ∨ (913 ≤ c ∧ c ≤ 937 ∧ c ≠ 930) ∨ (1040 ≤ c ∧ c ≤ 1071) then c + 32 else c
theorem low_valid {c : Nat} (h : VR c) : VR (low c) := by
  unfold VR at *
  unfold low
  split <;> omega

set_option maxRecDepth 100000 in
set_option maxHeartbeats 4000000 in
theorem foldRune_int (r v : Int) (w : World) (h0 : 0 ≤ r) (h1 : r ≤ 1114111)
    (hv : (((65 ≤ r ∧ r ≤ 90) ∨ (192 ≤ r ∧ r ≤ 222 ∧ r ≠ 215) ∨ (913 ≤ r ∧ r ≤ 937 ∧ r ≠ 930) ∨ (1040 ≤ r ∧ r ≤ 1071)) ∧ v = r + 32) ∨ (¬ ((65 ≤ r ∧ r ≤ 90) ∨ (192 ≤ r ∧ r ≤ 222 ∧ r ≠ 215) ∨ (913 ≤ r ∧ r ≤ 937 ∧ r ≠ 930) ∨ (1040 ≤ r ∧ r ≤ 1071)) ∧ v = r)) :
    Calls Try.prog 40 #[.int .i32 r] w fun e w' => e = .returned (.int .i32 v) ∧ w = w' := by
  have Hv := Lib.hid hv
  clear hv
  have fin : ∀ z : Int, z = v → Ending.returned (.int .i32 z) = .returned (.int .i32 v) := fun z h => by rw [h]
  rcases (show r < 65 ∨ (65 ≤ r ∧ r ≤ 90) ∨ (91 ≤ r ∧ r ≤ 191) ∨ (192 ≤ r ∧ r ≤ 214) ∨ r = 215 ∨ (216 ≤ r ∧ r ≤ 222) ∨ (223 ≤ r ∧ r ≤ 912) ∨ (913 ≤ r ∧ r ≤ 929) ∨ r = 930 ∨ (931 ≤ r ∧ r ≤ 937) ∨ (938 ≤ r ∧ r ≤ 1039) ∨ (1040 ≤ r ∧ r ≤ 1071) ∨ 1072 ≤ r from by omega)
    with h | ⟨h, h'⟩ | ⟨h, h'⟩ | ⟨h, h'⟩ | h | ⟨h, h'⟩ | ⟨h, h'⟩ | ⟨h, h'⟩ | h | ⟨h, h'⟩ | ⟨h, h'⟩ | ⟨h, h'⟩ | h
  all_goals (try subst h)
  all_goals
    go_enter Try.func40, Try.ntmps40
    go_wp2
    go_ret
    exact ⟨fin _ (by have := Hv.out; omega), rfl⟩

theorem foldRune_any (c : Nat) (w : World) (hc : VR c) : Calls Try.prog 40 #[.int .i32 c] w fun e w' => e = .returned (.int .i32 (low c : Nat)) ∧ w = w' := by
  refine foldRune_int (c : Int) (low c : Nat) w (by omega) (by have := hc.1; omega) ?_
  unfold low
  split
  · left; omega
  · right; omega

/-- A text, folded: from place p on, f runes at most. -/
def foldF (s : ByteArray) : Nat → Nat → List UInt8
  | 0, _ => []
  | f + 1, p => if p < s.size then putR (low (Utf8.decode s p).1) ++ foldF s f (p + (Utf8.decode s p).2) else []
def foldB (s : ByteArray) : List UInt8 := foldF s s.size 0
theorem foldF_step {s : ByteArray} {f p : Nat} (h : p < s.size) : foldF s (f + 1) p = putR (low (Utf8.decode s p).1) ++ foldF s f (p + (Utf8.decode s p).2) := by rw [foldF, if_pos h]
theorem foldF_end {s : ByteArray} {f p : Nat} (h : ¬ p < s.size) : foldF s f p = [] := by
  cases f with
  | zero => rfl
  | succ f => rw [foldF, if_neg h]

def RetS (w : World) (l : List UInt8) (e : Ending) (w' : World) : Prop := e = .returned (.string ⟨l.toArray⟩) ∧ Below w.heap.size w w'

theorem Bld.alloc {w : World} {b B : Nat} {bs : List UInt8} (h : Bld w b B bs) (o : Obj) : Bld (w.alloc o) b B bs := by
  obtain ⟨q, A, n, k, h1, h2, h3⟩ := h
  exact ⟨q, A, n, k, (Below.heap_alloc w o b (Array.getElem?_eq_some_iff.1 h1).1).trans h1, h2, h3.alloc o⟩
theorem Bld.iterAt {w : World} {b B g p' : Nat} {s : ByteArray} {bs : List UInt8} (h : Bld w b B bs) (hb : g ≠ b) (hB : g < B) : Bld (w.iterAt g s p') b B bs := by
  obtain ⟨q, A, n, k, h1, h2, h3⟩ := h
  refine ⟨q, A, n, k, (Lib.iterAt_other w g b s p' (by omega)).trans h1, h2, h3.1, ?_⟩
  rcases h3.2 with h4 | ⟨r, cap, cur, h4, h5, h6, h7⟩
  · exact .inl h4
  · exact .inr ⟨r, cap, cur, h4, h5, (Lib.iterAt_other w g r s p' (by omega)).trans h6, h7⟩

set_option maxRecDepth 100000 in
set_option maxHeartbeats 1000000 in
theorem Fold_any (s : ByteArray) (w : World) (hs : s.size ≤ 1099511627776) : Calls Try.prog 25 #[.string s] w (RetS w (foldB s)) := by
  go_enter Try.func25, Try.ntmps25
  go_wp2
  go_loopw [] (fun wr => ∃ (p f : Nat) (acc : List UInt8), Bld wr w.heap.size (w.heap.size + 2) acc ∧ wr.heap[w.heap.size + 1]? = some (.stringIter s p) ∧ Below w.heap.size w wr ∧ acc ++ foldF s f p = foldB s ∧ s.size ≤ p + f ∧ acc.length ≤ 4 * p) (fun wr => s.size - wr.iterPos (w.heap.size + 1))
  case atStart =>
    refine ⟨0, s.size, [], (Bld.fresh w _ (by omega)).alloc _, ?_, below_iter ((Below.refl _ w).alloc (Nat.le_refl _) _) (by simp) s 0, rfl, by omega, by simp⟩
    have := World.iter_heap (w.alloc (.cells #[.pointer none, .slice none 0 0] 65)) s 0
    simpa using this
  case round =>
    obtain ⟨p, f, acc, hI, hit, hbw, hacc, hfu, hal⟩ := hrel
    have hsz : w.heap.size + 1 < wr.heap.size := (Array.getElem?_eq_some_iff.1 hit).1
    have Hacc := Lib.hid hacc
    clear hacc
    by_cases hp : p < s.size
    · have hnx : ∀ ty, (Instr.next (.pointer (some ⟨w.heap.size + 1, 0, none⟩)) true ty).run Try.prog wr = _ := fun ty => Lib.run_next_any_at wr (w.heap.size + 1) s p ty hit hp
      obtain ⟨hV, hle⟩ := decode_valid s p hp
      have hwd := width_pos s p hp
      have hI2 := hI.iterAt (p' := p + (Utf8.decode s p).2) (g := w.heap.size + 1) (s := s) (by omega) (by omega)
      have hit2 := Lib.iterAt_heap wr (w.heap.size + 1) s p (p + (Utf8.decode s p).2) hit
      have hbw2 := Lib.below_iterAt hbw (k := w.heap.size + 1) (by omega) s (p + (Utf8.decode s p).2)
      have hsz2 : (wr.iterAt (w.heap.size + 1) s (p + (Utf8.decode s p).2)).heap.size = wr.heap.size := Lib.iterAt_size _ _ _ _
      obtain ⟨f, rfl⟩ : ∃ g, f = g + 1 := ⟨f - 1, by omega⟩
      have R := Lib.hid (foldF_step (f := f) hp)
      have HI2 := Lib.hid hI2
      have Hit := Lib.hid hit
      have Hit2 := Lib.hid hit2
      have Hsz2 := Lib.hid hsz2
      have HV := Lib.hid hV
      clear hI hit hI2 hit2 hsz2 hV
      go_wp2_with fail
      refine (foldRune_any _ _ HV.out).mono ?_
      rintro e W ⟨rfl, rfl⟩
      go_wp2_with fail
      refine (WriteRune_any w.heap.size (w.heap.size + 2) (low (Utf8.decode s p).1) acc _ HI2.out (by omega) (by rw [Hsz2.out]; omega) (by omega) (low_valid HV.out)).mono ?_
      rintro e W1 ⟨kk, rfl, h1, fr⟩
      have hit3 : W1.heap[w.heap.size + 1]? = some (.stringIter s (p + (Utf8.decode s p).2)) := (fr.2.2.2.2 (w.heap.size + 1) (by omega) (by omega)).trans Hit2.out
      have hb1 := fr.below (by omega)
      go_wp2
      go_roundw
      case rel =>
        have hl4 := putR_len (low (Utf8.decode s p).1)
        refine ⟨p + (Utf8.decode s p).2, f, acc ++ putR (low (Utf8.decode s p).1), h1, hit3, hbw2.trans hb1, ?_, by omega, by simp; omega⟩
        rw [← Hacc.out, R.out, List.append_assoc]
      case measure =>
        simp only [World.iterPos, hit3, Hit.out]
        omega
    · have hnx : ∀ ty, (Instr.next (.pointer (some ⟨w.heap.size + 1, 0, none⟩)) true ty).run Try.prog wr = _ := fun ty => Lib.run_next_end_at wr (w.heap.size + 1) s p ty hit hp
      have R := Lib.hid (foldF_end (f := f) hp)
      go_wp2_with fail
      refine (lib_String w.heap.size w.heap.size acc _ (hI.lib (by omega)) (by omega)).mono ?_
      rintro e W1 ⟨rfl, b1⟩
      go_wp2
      go_ret
      have h := Hacc.out
      rw [R.out, List.append_nil] at h
      subst h
      exact ⟨rfl, hbw.trans b1⟩

end Go.Proofs.Ytdcboeeblbakhaa
