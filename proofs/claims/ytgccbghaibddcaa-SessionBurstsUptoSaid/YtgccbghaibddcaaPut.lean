/- codec.appendU, codec.PutU and the reference's PutU return the number in groups of seven bits, in new memory. -/
import Derived.Test.YtgccbghaibddcaaProg
import Derived.Handy
import Derived.Lib.Hide
import Derived.Test.YtgccbghaibddcaaBase
import Derived.Test.YtgccbghaibddcaaSpec
namespace Go.Proofs.Ytgccbghaibddcaa
open Go Go.RowKit

theorem info_u8 : (Try.prog.info? 5).map (fun i => (i.zero, i.size, i.bytes)) = some (some (.int .u8 0), 1, 1) := by kernel_rfl
theorem elem_bytes : Try.prog.elem 30 = 5 := by kernel_rfl
theorem size_u8 (w : World) : (sizeOf 5).run Try.prog w = .ok 1 w := by kernel_rfl

/-- 'It hands back a slice of its own, from block base on, that holds xs; what lay below base stands.' -/
def Made (base : Nat) (w : World) (xs : List UInt8) (e : Ending) (w' : World) : Prop :=
  ∃ A n c, e = .returned (.slice A n c) ∧ Own 5 w' base A n c xs ∧ Below base w w'

set_option maxRecDepth 100000 in
theorem appendU_any (A : Option Addr) (n c : Nat) (xs : List UInt8) (base j : Nat) (w : World) (hown : Own 5 w base A n c xs) (hbase : base ≤ w.heap.size)
    (hn : n ≤ 140737488355318) (hj : j < B64) :
    Calls Try.prog 103 #[.slice A n c, .int .u64 j] w (Made base w (xs ++ putU j)) := by
  have Hj := Lib.hid hj
  have Hn := Lib.hid hn
  clear hj hn
  go_enter Try.func103, Try.ntmps103
  go_wp2
  go_loopw [0, 1] (fun v t wr => ∃ (A' : Option Addr) (m d : Nat) (ys : List UInt8) (i : Nat), v = .slice A' m d ∧ t = .int .u64 i ∧ ys ++ putU i = xs ++ putU j ∧ Own 5 wr base A' m d ys ∧ Below base w wr) (fun _ t _ => (intOf t).toNat)
  case atStart => exact ⟨A, n, c, xs, j, rfl, rfl, rfl, hown, Below.refl _ _⟩
  case round =>
    obtain ⟨A', m, d, ys, i, rfl, rfl, hy, ho, hb⟩ := hrel
    have Hm : Hid (m + (putU i).length = n + (putU j).length) := by
      have := congrArg List.length hy
      simp only [List.length_append, ho.len, hown.len] at this
      exact Lib.hid this
    have Hy := Lib.hid hy
    clear hy
    have hbs := hb.size
    by_cases h : i < 128
    · go_wp2_with (at_builtin; refine wpList_app _ rfl _ _ 30 rfl base 5 Try.underlying30 info_u8 A' m d ys rfl (ho.alloc _) _ 1 1 [bt i] rfl (Rd.one _ _ _ _ ?_) ?_ ?_ ?_)
      · rw [bt_nat i (by omega)]
      · have h1 := Hm.out
        have h2 := Hn.out
        have h3 := putU_len64 j Hj.out
        have h4 := putU_pos i
        omega
      · simp; omega
      · intro A2 c2 w2 ho2 hb2
        go_wp2
        go_ret
        refine ⟨A2, m + 1, c2, rfl, ?_, ?_⟩
        · rw [← Hy.out, putU_small h]
          exact ho2
        · exact (hb.alloc (by omega) _).trans hb2
    · go_wp2_with (at_builtin; refine wpList_app _ rfl _ _ 30 rfl base 5 Try.underlying30 info_u8 A' m d ys rfl (ho.alloc _) _ 1 1 [bt (i % 128 + 128)] rfl (Rd.one _ _ _ _ ?_) ?_ ?_ ?_)
      · rw [bt_nat _ (by omega), u8_or128' _ (by omega) (by omega)]
        omega
      · have h1 := Hm.out
        have h2 := Hn.out
        have h3 := putU_len64 j Hj.out
        have h4 := putU_pos i
        omega
      · simp; omega
      · intro A2 c2 w2 ho2 hb2
        go_wp2
        go_roundw
        case rel => exact ⟨A2, m + 1, c2, ys ++ [bt (i % 128 + 128)], i / 128, rfl, by go_num, by rw [← Hy.out, putU_big h]; simp, ho2, (hb.alloc (by omega) _).trans hb2⟩
        case measure => simp [intOf]; omega

theorem PutU_any (j : Nat) (w : World) (hj : j < B64) : Calls Try.prog 62 #[.int .u64 j] w (Made w.heap.size w (putU j)) := by
  have Hj := Lib.hid hj
  clear hj
  go_enter Try.func62, Try.ntmps62
  go_wp2_with (go_at_call 103; refine (appendU_any none 0 0 [] w.heap.size j w (Own.nil _ _ _) (Nat.le_refl _) (by omega) Hj.out).mono ?_; rintro e w' ⟨A, n, c, rfl, ho, hb⟩)
  go_ret
  exact ⟨A, n, c, rfl, ho, hb⟩

end Go.Proofs.Ytgccbghaibddcaa
