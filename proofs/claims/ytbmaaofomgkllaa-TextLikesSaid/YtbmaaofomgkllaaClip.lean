/- text.Clip: the first n runes of a text, with the bytes that they have in it. Texts of at most 2^40 bytes. -/
import Derived.Test.YtbmaaofomgkllaaText1
namespace Go.Proofs.Ytbmaaofomgkllaa
open Go Go.RowKit

/-- Where the first n runes of a text end. -/
def clipP (s : ByteArray) (n : Int) : Nat := match (rn s)[n.toNat]? with | some x => x.1 | none => s.size
def clipS (s : ByteArray) (n : Int) : ByteArray := s.extract 0 (clipP s n)
theorem clipP_at {s : ByteArray} {l r : List (Nat × Nat)} {p c : Nat} {n : Int} (h : rn s = l ++ (p, c) :: r) (hn : n.toNat = l.length) : clipP s n = p := by
  unfold clipP
  rw [h, hn, List.getElem?_append_right (Nat.le_refl _)]
  simp
theorem clipP_end {s : ByteArray} {n : Int} (hn : (rn s).length ≤ n.toNat) : clipP s n = s.size := by
  unfold clipP
  rw [List.getElem?_eq_none hn]
theorem extract_all (s : ByteArray) : s.extract 0 s.size = s := by simp

def RetSt (w : World) (t : ByteArray) (e : Ending) (w' : World) : Prop := e = .returned (.string t) ∧ Below w.heap.size w w'

theorem Clone_any (s : ByteArray) (w : World) (hs : s.size ≤ 281474976710656) : Calls Try.prog 71 #[.string s] w (RetSt w s) := by
  go_enter Try.func71, Try.ntmps71
  go_wp2_with fail
  refine (lib_Clone s _ hs).mono ?_
  rintro e w' ⟨rfl, hb⟩
  go_wp2
  go_ret
  exact ⟨rfl, hb⟩

theorem decode_in (s : ByteArray) (p : Nat) (h : p < s.size) : p + (Utf8.decode s p).2 ≤ s.size := (decode_valid s p h).2

set_option maxRecDepth 100000 in
set_option maxHeartbeats 1000000 in
theorem Clip_any (s : ByteArray) (n : Int) (w : World) (hs : s.size ≤ 1099511627776) (hn : -9223372036854775808 ≤ n ∧ n ≤ 9223372036854775807) :
    Calls Try.prog 55 #[.string s, .int .i64 n] w (RetSt w (clipS s n)) := by
  obtain ⟨hn1, hn2⟩ := hn
  go_enter Try.func55, Try.ntmps55
  go_wp2
  go_loopw [1] (fun v w' => ∃ (p f : Nat) (l : List (Nat × Nat)), v = .int .i64 (n - l.length) ∧ w' = w.iter s p ∧ s.size ≤ p + f ∧ rn s = l ++ rnF s f p ∧ l.length ≤ p ∧ (l.length : Int) ≤ max n 0 ∧ p ≤ s.size) (fun _ w' => s.size - w'.iterPos w.heap.size)
  case atStart => exact ⟨0, s.size, [], by simp, rfl, by omega, rfl, by simp, by simp; omega, by omega⟩
  case round =>
    obtain ⟨p, f, l, rfl, rfl, hf, hl, hlp, hln, hps⟩ := hrel
    have Hl := Lib.hid hl
    clear hl
    obtain ⟨j, hj⟩ : ∃ j, l.length = j := ⟨_, rfl⟩
    rw [hj] at hlp hln ⊢
    have Hj := Lib.hid hj
    clear hj
    have hbi : Below w.heap.size w (w.iter s p) := below_iter (Below.refl _ _) (Nat.le_refl _) s p
    by_cases hp : p < s.size
    · have hnx : ∀ ty, (Instr.next (.pointer (some ⟨w.heap.size, 0, none⟩)) true ty).run Try.prog (w.iter s p) = _ := fun ty => run_next_any w s p ty hp
      have hwd := width_pos s p hp
      have hin := decode_in s p hp
      obtain ⟨f, rfl⟩ : ∃ g, f = g + 1 := ⟨f - 1, by omega⟩
      have R := Lib.hid (rnF_step (f := f) hp)
      by_cases hz : n - j ≤ 0
      · have hc : Hid (clipP s n = p) := Lib.hid (clipP_at (Hl.out.trans (by rw [R.out])) (by have := Hj.out; omega))
        go_wp2_with fail
        refine (Clone_any _ _ ?_).mono ?_
        · rw [ByteArray.size_extract]; omega
        rintro e w' ⟨rfl, hb⟩
        go_wp2
        go_ret
        have hbi2 : Below w.heap.size w (w.iter s (p + (Utf8.decode s p).2)) := below_iter (Below.refl _ _) (Nat.le_refl _) s _
        exact ⟨by rw [clipS, hc.out]; rfl, hbi2.trans (hb.mono hbi2.size)⟩
      · go_wp2
        go_roundw
        case rel => exact ⟨p + (Utf8.decode s p).2, f, l ++ [(p, (Utf8.decode s p).1)], by have := Hj.out; simp; omega, rfl, by omega, by rw [Hl.out, R.out]; simp, by have := Hj.out; simp; omega, by have := Hj.out; simp; omega, hin⟩
        case measure => simp; omega
    · have hnx : ∀ ty, (Instr.next (.pointer (some ⟨w.heap.size, 0, none⟩)) true ty).run Try.prog (w.iter s p) = _ := fun ty => run_next_end w s p ty hp
      have R := Lib.hid (rnF_end (f := f) hp)
      have hc : Hid (clipP s n = s.size) := Lib.hid (clipP_end (by rw [Hl.out, R.out, List.append_nil, Hj.out]; omega))
      go_wp2_with fail
      refine (Clone_any _ _ (by omega)).mono ?_
      rintro e w' ⟨rfl, hb⟩
      go_wp2
      go_ret
      exact ⟨by rw [clipS, hc.out, extract_all]; rfl, hbi.trans (hb.mono hbi.size)⟩

end Go.Proofs.Ytbmaaofomgkllaa
