/- The first place of a text that isn't well-formed: text.Bad and the reference's Wrong tell the same. Texts of at most 2^40 bytes. -/
import Derived.Test.YtdcboeeblbakhaaText1
import Derived.Test.YtdcboeeblbakhaaFirst4
import Derived.Lib.TrimUEq
namespace Go.Proofs.Ytdcboeeblbakhaa
open Go Go.RowKit

/-- The first place from p on that isn't well-formed. -/
def wrF (s : ByteArray) : Nat → Nat → Option Nat
  | 0, _ => none
  | f + 1, p => if p < s.size then (if okD s p then wrF s f (p + (Utf8.decode s p).2) else some p) else none
def wr (s : ByteArray) : Option Nat := wrF s s.size 0
theorem wrF_good {s : ByteArray} {f p : Nat} (h : p < s.size) (h2 : okD s p = true) : wrF s (f + 1) p = wrF s f (p + (Utf8.decode s p).2) := by rw [wrF, if_pos h, if_pos h2]
theorem wrF_bad {s : ByteArray} {f p : Nat} (h : p < s.size) (h2 : okD s p = false) : wrF s (f + 1) p = some p := by rw [wrF, if_pos h, if_neg (by simp [h2])]
theorem wrF_end {s : ByteArray} {f p : Nat} (h : ¬ p < s.size) : wrF s f p = none := by
  cases f with
  | zero => rfl
  | succ f => rw [wrF, if_neg h]

set_option maxRecDepth 100000 in
theorem dN_rep {n a b c d : Nat} (_hn : 1 ≤ n) (ha : a < 256) (hb : b < 256) (_hc : c < 256) (_hd : d < 256) (h : (Lib.decodeN n a b c d).1 = 65533) :
    (Lib.decodeN n a b c d).2 = 1 ↔ ¬ (2 < n ∧ a = 239 ∧ b = 191 ∧ c = 189) := by
  unfold Lib.decodeN at h ⊢
  repeat' split at h
  all_goals simp only at h
  all_goals repeat' split
  all_goals first | omega | (refine ⟨fun _ h2 => ?_, fun h1 => ?_⟩ <;> first | rfl | (exfalso; omega) | (exfalso; apply h1; omega))

theorem beq_nat (k : UInt8) (x : UInt8) : (k == x) = decide (x.toNat = k.toNat) := by
  by_cases e : x.toNat = k.toNat
  · rw [show x = k from UInt8.toNat_inj.1 e]; simp
  · rw [decide_eq_false e, beq_eq_false_iff_ne]; intro e2; subst e2; exact e rfl
theorem prefix_at (l : List UInt8) : Lib.hasPrefix l [239, 191, 189] = decide (2 < l.length ∧ (l.getD 0 0).toNat = 239 ∧ (l.getD 1 0).toNat = 191 ∧ (l.getD 2 0).toNat = 189) := by
  match l with
  | [] => rfl
  | [a] => simp [Lib.hasPrefix, List.isPrefixOf]
  | [a, b] => simp [Lib.hasPrefix, List.isPrefixOf]
  | a :: b :: c :: r =>
    simp only [Lib.hasPrefix, List.isPrefixOf, beq_nat, List.length_cons, List.getD_cons_zero, List.getD_cons_succ, Bool.and_true]
    rw [Bool.eq_iff_iff]
    simp

theorem prefix_ok (s : ByteArray) (p : Nat) (hp : p < s.size) (h : (Utf8.decode s p).1 = 65533) : Lib.hasPrefix (s.data.toList.drop p) [239, 191, 189] = okD s p := by
  have hl : 1 ≤ (s.data.toList.drop p).length := by rw [List.length_drop, ← Lib.size_eq]; omega
  unfold okD
  rw [← Lib.decodeL_drop, Lib.decodeL_N] at h ⊢
  have k := dN_rep hl (UInt8.toNat_lt _) (UInt8.toNat_lt _) (UInt8.toNat_lt _) (UInt8.toNat_lt _) h
  rw [prefix_at, h]
  by_cases e : (Lib.decodeN (s.data.toList.drop p).length ((s.data.toList.drop p).getD 0 0).toNat ((s.data.toList.drop p).getD 1 0).toNat ((s.data.toList.drop p).getD 2 0).toNat ((s.data.toList.drop p).getD 3 0).toNat).2 = 1
  · rw [decide_eq_false (k.1 e), e]; rfl
  · rw [decide_eq_true (Decidable.not_not.1 (fun hh => e (k.2 hh))), decide_eq_false e]; rfl
theorem okD_not {s : ByteArray} {p : Nat} (h : (Utf8.decode s p).1 ≠ 65533) : okD s p = true := by
  unfold okD
  rw [decide_eq_false h]; rfl

/-- 'The place, and whether there is one.' -/
def wrV (o : Option Nat) : Value := .tuple #[.int .i64 ((o.getD 0 : Nat) : Int), .bool o.isSome]
def RetWr (w : World) (o : Option Nat) (e : Ending) (w' : World) : Prop := e = .returned (wrV o) ∧ Below w.heap.size w w'
def RetWr0 (w : World) (o : Option Nat) (e : Ending) (w' : World) : Prop := e = .returned (wrV o) ∧ w = w'
theorem slice_tail (s : ByteArray) (p : Nat) : (s.extract p s.size).data.toList = s.data.toList.drop p := by
  rw [Lib.extract_data]
  apply List.take_of_length_le
  rw [List.length_drop, ← Lib.size_eq]
  exact Nat.le_refl _

set_option maxRecDepth 100000 in
set_option maxHeartbeats 1000000 in
theorem Bad_any (s : ByteArray) (w : World) (hs : s.size ≤ 1099511627776) : Calls Try.prog 26 #[.string s] w (RetWr w (wr s)) := by
  go_enter Try.func26, Try.ntmps26
  go_wp2
  go_loopw [] (fun w' => ∃ p f : Nat, w' = w.iter s p ∧ s.size ≤ p + f ∧ wr s = wrF s f p ∧ p ≤ s.size) (fun w' => s.size - w'.iterPos w.heap.size)
  case atStart => exact ⟨0, s.size, rfl, by omega, rfl, by omega⟩
  case round =>
    obtain ⟨p, f, rfl, hf, hl, hps⟩ := hrel
    have Hl := Lib.hid hl
    clear hl
    have hbi : Hid (∀ q, Below w.heap.size w (w.iter s q)) := Lib.hid (fun q => below_iter (Below.refl _ _) (Nat.le_refl _) s q)
    by_cases hp : p < s.size
    · have hnx : ∀ ty, (Instr.next (.pointer (some ⟨w.heap.size, 0, none⟩)) true ty).run Try.prog (w.iter s p) = _ := fun ty => run_next_any w s p ty hp
      have hwd := width_pos s p hp
      have hin := (decode_valid s p hp).2
      obtain ⟨f, rfl⟩ : ∃ g, f = g + 1 := ⟨f - 1, by omega⟩
      by_cases hr : (Utf8.decode s p).1 = 65533
      · have hq : (((Utf8.decode s p).1 : Int) == 65533) = true := by rw [hr]; rfl
        have hx := prefix_ok s p hp hr
        rw [← slice_tail] at hx
        have HX := Lib.hid hx
        clear hx hr
        cases ho : okD s p with
        | true =>
          have R := Lib.hid (wrF_good (f := f) hp ho)
          have HO := Lib.hid ho
          clear ho
          go_wp2_with fail
          refine (lib_HasPrefix _ _ _).mono ?_
          rintro e w' ⟨rfl, rfl⟩
          rw [show Lib.hasPrefix (s.extract p s.size).data.toList (ByteArray.mk #[239, 191, 189]).data.toList = true from HX.out.trans HO.out]
          go_wp2
          go_roundw
          case rel => exact ⟨p + (Utf8.decode s p).2, f, rfl, by omega, by rw [Hl.out, R.out], hin⟩
          case measure => simp; omega
        | false =>
          have R := Lib.hid (wrF_bad (f := f) hp ho)
          have HO := Lib.hid ho
          clear ho
          go_wp2_with fail
          refine (lib_HasPrefix _ _ _).mono ?_
          rintro e w' ⟨rfl, rfl⟩
          rw [show Lib.hasPrefix (s.extract p s.size).data.toList (ByteArray.mk #[239, 191, 189]).data.toList = false from HX.out.trans HO.out]
          go_wp2
          go_ret2
          exact ⟨by rw [Hl.out, R.out]; rfl, hbi.out _⟩
      · have hq : (((Utf8.decode s p).1 : Int) == 65533) = false := by rw [beq_eq_false_iff_ne]; omega
        have R := Lib.hid (wrF_good (f := f) hp (okD_not hr))
        clear hr
        go_wp2
        go_roundw
        case rel => exact ⟨p + (Utf8.decode s p).2, f, rfl, by omega, by rw [Hl.out, R.out], hin⟩
        case measure => simp; omega
    · have hnx : ∀ ty, (Instr.next (.pointer (some ⟨w.heap.size, 0, none⟩)) true ty).run Try.prog (w.iter s p) = _ := fun ty => run_next_end w s p ty hp
      have R := Lib.hid (wrF_end (f := f) hp)
      go_wp2
      go_ret2
      exact ⟨by rw [Hl.out, R.out]; rfl, hbi.out _⟩

end Go.Proofs.Ytdcboeeblbakhaa
