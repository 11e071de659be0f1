/- codec.OrdText and the reference's OrdText return the list for a key in new memory; lists of which twice the length and two are at most 2^47. -/
import Derived.Test.YtlnpicfkcahdbaaMem
namespace Go.Proofs.Ytlnpicfkcahdbaa
open Go Go.RowKit

theorem byte_ne0 {x : UInt8} (h : x ≠ 0) : ((x.toNat : Int) == 0) = false := by
  rw [beq_eq_false_iff_ne]
  intro e
  exact h (UInt8.toNat_inj.1 (by simp; omega))

theorem own_two {e : TypeId} {w : World} {base m c : Nat} {A : Option Addr} {ys : List UInt8} {x y : UInt8} (h : Own e w base A (m + 1 + 1) c (ys ++ [x, y])) : Own e w base A (m + 2) c (ys ++ [x, y]) := h

set_option maxRecDepth 100000 in
theorem OrdText_any (A : Option Addr) (n c : Nat) (xs : List UInt8) (w : World) (hx : Rd w A n xs) (hn : 2 * n + 2 ≤ 140737488355328) :
    Calls Try.prog 171 #[.slice A n c] w (Made w.heap.size w (ordT xs)) := by
  obtain ⟨base, hbase⟩ : ∃ b, b = w.heap.size := ⟨_, rfl⟩
  rw [← hbase]
  have Hw : Hid (base = w.heap.size) := Lib.hid hbase
  clear hbase
  have Hn := Lib.hid hn
  clear hn
  have hn1 : n ≤ 70368744177664 := by have := Hn.out; omega
  go_enter Try.func171, Try.ntmps171
  go_wp2_with (refine wpList_mk _ rfl _ _ 22 rfl base 5 Try.underlying22 info_u8 _ (n + 2) rfl rfl ?_ ?_ ?_ ?_)
  · go_num
  · omega
  · exact Nat.le_of_eq Hw.out
  intro A1 w1 ho1 hb1
  rw [← Hw.out] at hb1
  go_wp2
  go_loopw [3, 12] (fun v i wr => ∃ (A' : Option Addr) (m d k : Nat), v = .slice A' m d ∧ i = .int .i64 k ∧ k ≤ n ∧ Own 5 wr base A' m d (esc (xs.take k)) ∧ Below base w wr) (fun _ i _ => n - (intOf i).toNat)
  case atStart => exact ⟨A1, 0, n + 2, 0, rfl, rfl, Nat.zero_le _, ho1, hb1⟩
  case round =>
    obtain ⟨A', m, d, k, rfl, rfl, hk, ho, hb⟩ := hrel
    have hbs := hb.size
    have hbase : base ≤ wr.heap.size := by have := Hw.out; omega
    have hm : m ≤ 2 * k := by have := ho.len; have := esc_take_len xs k; omega
    have hxr : Rd wr A n xs := hx.below (by rw [← Hw.out]; exact hb)
    by_cases hlt : k < n
    · obtain ⟨b, off, rfl, _⟩ := hxr.pos (by omega)
      obtain ⟨x, hx1, hx2, hx3⟩ := hxr.at_ k hlt
      have Hx := Lib.hid hx1
      clear hx1
      by_cases h0 : x = 0
      · subst h0
        go_wp2_with (at_builtin; refine wpList_app _ rfl (.tmp 16) (.tmp 18) 22 rfl base 5 Try.underlying22 info_u8 A' m d (esc (xs.take k)) rfl (ho.alloc _) _ 1 1 [0] rfl (Rd.one _ _ _ _ rfl) ?_ ?_ ?_)
        · have := Hn.out
          omega
        · simp; omega
        · intro A2 c2 w2 ho2 hb2
          have hb3 := (hb.alloc (by omega) _).trans hb2
          have hbs3 := hb2.size
          simp at hbs3
          go_wp2_with (at_builtin; refine wpList_app _ rfl (.tmp 22) (.tmp 23) 22 rfl base 5 Try.underlying22 info_u8 A2 (m + 1) c2 (esc (xs.take k) ++ [0]) rfl (ho2.alloc _) _ 1 1 [255] rfl (Rd.one _ _ _ _ rfl) ?_ ?_ ?_)
          · have := Hn.out
            omega
          · simp; omega
          · intro A3 c3 w3 ho3 hb4
            go_wp2
            go_roundw
            case rel => exact ⟨A3, m + 2, c3, k + 1, rfl, by go_num, by omega, by rw [esc_snoc xs k 0 Hx.out, esc_zero]; exact own_two ho3, (hb3.alloc (by omega) _).trans hb4⟩
            case measure => simp [intOf]; omega
      · have hne := byte_ne0 h0
        go_wp2_with (at_builtin; refine wpList_app _ rfl (.tmp 16) (.tmp 18) 22 rfl base 5 Try.underlying22 info_u8 A' m d (esc (xs.take k)) rfl (ho.alloc _) _ 1 1 [x] rfl (Rd.one _ _ _ _ rfl) ?_ ?_ ?_)
        · have := Hn.out
          omega
        · simp; omega
        · intro A2 c2 w2 ho2 hb2
          go_wp2
          go_roundw
          case rel => exact ⟨A2, m + 1, c2, k + 1, rfl, by go_num, by omega, by rw [esc_snoc xs k x Hx.out, esc_cons h0]; exact ho2, (hb.alloc (by omega) _).trans hb2⟩
          case measure => simp [intOf]; omega
    · go_wp2_with (at_builtin; refine wpList_app _ rfl _ _ 22 rfl base 5 Try.underlying22 info_u8 A' m d (esc (xs.take k)) rfl (ho.alloc _) _ 2 2 [0, 1] rfl (Rd.lit _ _ 2 [0, 1] rfl _ rfl) ?_ ?_ ?_)
      · have := Hn.out
        omega
      · simp; omega
      · intro A2 c2 w2 ho2 hb2
        go_wp2
        go_ret
        refine ⟨A2, m + 2, c2, rfl, ?_, (hb.alloc (by omega) _).trans hb2⟩
        rw [List.take_of_length_le (by have := hx.len; omega)] at ho2
        exact ho2

end Go.Proofs.Ytlnpicfkcahdbaa
