/- bytes.Clone, codec.Next and the reference's Next return their lists in new memory. -/
import Derived.Test.YtbmaaofomgkllaaMem
import Derived.Test.YtbmaaofomgkllaaMathN
import Derived.Lib.SliceRun
namespace Go.Proofs.Ytbmaaofomgkllaa
open Go Go.RowKit

theorem Rd.take {w : World} {A : Option Addr} {n m : Nat} {xs : List UInt8} (h : Rd w A n xs) (hm : m ≤ n) : Rd w A m (xs.take m) := by
  refine ⟨by rw [List.length_take, h.1]; omega, fun hp => ?_⟩
  obtain ⟨b, off, h1, h2, h3⟩ := h.2 (by omega)
  refine ⟨b, off, h1, h2, fun i x hx => h3 i x ?_⟩
  rw [List.getElem?_take] at hx
  split at hx
  · exact hx
  · cases hx

theorem Rd.none_zero {w : World} {n : Nat} {xs : List UInt8} (h : Rd w none n xs) : n = 0 ∧ xs = [] := by
  rcases Nat.eq_zero_or_pos n with h0 | h0
  · exact ⟨h0, List.eq_nil_of_length_eq_zero (by rw [h.1, h0])⟩
  · obtain ⟨_, _, h1, _⟩ := h.2 h0
    cases h1

section
variable {e : TypeId} {w : World} {base n c : Nat} {A : Option Addr} {xs : List UInt8}
theorem Own.form (h : Own e w base A n c xs) (hn : 0 < n) : ∃ g, A = some ⟨g, 0, none⟩ ∧ base ≤ g ∧ g < w.heap.size := by
  rcases h.2 with ⟨_, h2⟩ | ⟨g, cap, cur, h1, hb, hg, _⟩
  · omega
  · injection h1 with h1 _ _
    exact ⟨g, h1, hb, (Array.getElem?_eq_some_iff.1 hg).1⟩
theorem Own.nil_cap (h : Own e w base none n c xs) : c = 0 := by
  rcases h.2 with ⟨h1, _⟩ | ⟨g, cap, cur, h1, _⟩
  · injection h1
  · injection h1 with h1
    cases h1
theorem Own.thawed {g : Nat} (h : Own e w base (some ⟨g, 0, none⟩) n c xs) (j : Nat) : w.frozen? ⟨g, j, none⟩ = false := World.ownsRow.frozenAt h j
theorem Own.set_ {g : Nat} (h : Own e w base (some ⟨g, 0, none⟩) n c xs) (j : Nat) (y : UInt8) (z : Int) (hz : z = (y.toNat : Int)) :
    Own e (w.setCell ⟨g, j, none⟩ (.int .u8 z)) base (some ⟨g, 0, none⟩) n c (xs.set j y) := by
  subst hz
  have := World.ownsRow.stored h j (cv y)
  unfold Own
  rw [List.map_set]
  exact this.1
end

theorem Clone_any (A : Option Addr) (n c : Nat) (xs : List UInt8) (w : World) (h : Rd w A n xs) (hn : n ≤ 140737488355328) (hnil : A = none → c = 0) :
    Calls Try.prog 67 #[.slice A n c] w (Made w.heap.size w xs) := by
  have Hn := Lib.hid hn
  clear hn
  have heq : ∀ (w : World) (a : Option Addr) (n c n' c' : Nat), (binOp .eql 23 (.slice a n c) (.slice none n' c')).run Try.prog w = .ok (.bool a.isNone) w := fun w a n c n' c' => Lib.run_eql_slice_nil w _ _ a n c n' c' Try.underlying23
  rcases A with _ | a
  · obtain ⟨rfl, rfl⟩ := h.none_zero
    obtain rfl := hnil rfl
    clear hnil
    go_enter Try.func67, Try.ntmps67
    go_wp2
    go_ret
    exact ⟨none, 0, 0, rfl, Own.nil _ _ _, Below.refl _ _⟩
  · clear hnil
    go_enter Try.func67, Try.ntmps67
    go_wp2_with (at_builtin; refine wpList_app _ rfl _ _ 23 rfl w.heap.size 5 Try.underlying23 info_u8 (some ⟨w.heap.size, 0, none⟩) 0 0 [] rfl (Own.lit0 _ _) (some a) n c xs rfl (h.alloc _) ?_ ?_ ?_)
    · have := Hn.out
      omega
    · simp
    · intro A2 c2 w2 ho2 hb2
      go_wp2
      go_ret
      exact ⟨A2, n, c2, rfl, by simpa using ho2, ((Below.refl _ _).alloc (Nat.le_refl _) _).trans hb2⟩

theorem take_set_at (xs : List UInt8) (j : Nat) (x y : UInt8) (hx : xs[j]? = some x) : (xs.take (j + 1)).set j y = xs.take j ++ [y] := by
  have hl : j < xs.length := (List.getElem?_eq_some_iff.1 hx).1
  rw [take_snoc' _ _ _ hx, List.set_append, if_neg (by rw [List.length_take]; omega)]
  have e : j - (xs.take j).length = 0 := by rw [List.length_take]; omega
  rw [e]
  rfl

set_option maxRecDepth 100000 in
set_option maxHeartbeats 1000000 in
theorem Next_any (A : Option Addr) (n c : Nat) (xs : List UInt8) (w : World) (h : Rd w A n xs) (hn : n ≤ 140737488355328) (hnc : n ≤ c) (hnil : A = none → c = 0) :
    Calls Try.prog 41 #[.slice A n c] w (Made w.heap.size w (nextB xs)) := by
  go_enter Try.func41, Try.ntmps41
  go_wp2
  go_loop [3] (fun v => ∃ k : Nat, v = .int .i64 k ∧ k ≤ n ∧ nextB xs = nextAt xs k) (fun v => (intOf v).toNat)
  case atStart => exact ⟨n, rfl, Nat.le_refl _, by rw [nextB, h.len]⟩
  case round =>
    obtain ⟨k, rfl, hk, he⟩ := hrel
    have He := Lib.hid he
    clear he
    by_cases h0 : k = 0
    · subst h0
      have R : Hid (nextB xs = []) := He
      go_wp2
      go_ret
      exact ⟨none, 0, 0, rfl, by rw [R.out]; exact Own.nil _ _ _, Below.refl _ _⟩
    · obtain ⟨j, rfl⟩ : ∃ j, k = j + 1 := ⟨k - 1, by omega⟩
      clear h0
      obtain ⟨b, off, rfl, _⟩ := h.pos (by omega)
      obtain ⟨x, hx1, hx2, hx3⟩ := h.at_ j (by omega)
      have e1 : ((j + 1 : Nat) : Int) - 1 = (j : Int) := by omega
      have hd0 : decide ((0 : Int) < ((j + 1 : Nat) : Int)) = true := by simp
      have hd1 : decide (0 < j + 1) = true := by simp
      by_cases h255 : x.toNat = 255
      · have R := Lib.hid (He.out.trans (nextAt_255 hx1 h255))
        have hb : ((x.toNat : Int) == 255) = true := by rw [beq_iff_eq]; omega
        clear hx1 h255 He
        go_wp2
        go_round
        case rel => exact ⟨j, rfl, by omega, R.out⟩
        case measure => simp [intOf]
      · have R := Lib.hid (He.out.trans (nextAt_up hx1 h255))
        have hb : ((x.toNat : Int) == 255) = false := by rw [beq_eq_false_iff_ne]; omega
        have hx4 : (x.toNat : Int) ≤ 254 := by omega
        have T := Lib.hid (take_set_at xs j x (bt (x.toNat + 1)) hx1)
        have hte : (xs.take (j + 1))[j]? = some x := by rw [List.getElem?_take, if_pos (by omega)]; exact hx1
        have Hte := Lib.hid hte
        clear h255 He hte
        have hcl := Clone_any (some ⟨b, off, none⟩) (j + 1) c (xs.take (j + 1)) w (h.take (by omega)) (by omega) (fun h => by cases h)
        have Hcl := Lib.hid hcl
        clear hcl hx1
        go_wp2_with fail
        refine Hcl.out.mono ?_
        rintro e w2 ⟨A2, n2, c2, rfl, ho, hb2⟩
        have hlen := ho.len
        rw [List.length_take, h.len, Nat.min_eq_left (by omega)] at hlen
        subst hlen
        obtain ⟨g, rfl, hg, _⟩ := ho.form (by omega)
        obtain ⟨x', hx5, hx6, _⟩ := ho.rd.at_ j (by omega)
        rw [Hte.out] at hx5
        injection hx5 with hx5
        subst hx5
        simp only [Nat.zero_add] at hx6
        have hfr := ho.thawed j
        have hset := Lib.hid (ho.set_ j (bt (x.toNat + 1)) ((x.toNat : Int) + 1) (by rw [bt_nat _ (by omega)]; omega))
        rw [T.out] at hset
        have hbs := Lib.hid (hb2.setCell (p := ⟨g, j, none⟩) hg (.int .u8 ((x.toNat : Int) + 1)))
        clear Hcl T Hte hx2 hg hb2
        go_wp2
        go_ret
        refine ⟨some ⟨g, 0, none⟩, j + 1, c2, rfl, ?_, hbs.out⟩
        rw [R.out]
        exact hset.out

set_option maxRecDepth 100000 in
set_option maxHeartbeats 1000000 in
theorem refNext_any (A : Option Addr) (n c : Nat) (xs : List UInt8) (w : World) (h : Rd w A n xs) (hn : n ≤ 140737488355328) (hnc : n ≤ c) :
    Calls Try.prog 42 #[.slice A n c] w (Made w.heap.size w (nextB xs)) := by
  go_enter Try.func42, Try.ntmps42
  go_wp2
  go_loop [3] (fun v => ∃ (k : Nat) (z : Int), v = .int .i64 z ∧ z = (k : Int) - 1 ∧ k ≤ n ∧ nextB xs = nextAt xs k) (fun v => (intOf v + 1).toNat)
  case atStart => exact ⟨n, _, rfl, by first | rfl | omega, Nat.le_refl _, by rw [nextB, h.len]⟩
  case round =>
    obtain ⟨k, z, rfl, hz, hk, he⟩ := hrel
    have He := Lib.hid he
    clear he
    by_cases h0 : k = 0
    · subst h0
      have R : Hid (nextB xs = []) := He
      obtain rfl : z = -1 := by omega
      clear hz
      go_wp2
      go_ret
      exact ⟨none, 0, 0, rfl, by rw [R.out]; exact Own.nil _ _ _, Below.refl _ _⟩
    · obtain ⟨j, rfl⟩ : ∃ j, k = j + 1 := ⟨k - 1, by omega⟩
      clear h0
      obtain rfl : z = (j : Int) := by omega
      clear hz
      obtain ⟨b, off, rfl, _⟩ := h.pos (by omega)
      obtain ⟨x, hx1, hx2, hx3⟩ := h.at_ j (by omega)
      by_cases h255 : x.toNat = 255
      · have R := Lib.hid (He.out.trans (nextAt_255 hx1 h255))
        have hb : decide ((x.toNat : Int) < 255) = false := by simp; omega
        clear hx1 h255 He
        go_wp2
        go_round
        case rel => exact ⟨j, _, rfl, rfl, by omega, R.out⟩
        case measure => simp [intOf]
      · have R := Lib.hid (He.out.trans (nextAt_up hx1 h255))
        have hx4 : (x.toNat : Int) ≤ 254 := by omega
        have hb : decide ((x.toNat : Int) < 255) = true := by simp; omega
        have T := Lib.hid (take_set_at xs j x (bt (x.toNat + 1)) hx1)
        have hte : (xs.take (j + 1))[j]? = some x := by rw [List.getElem?_take, if_pos (by omega)]; exact hx1
        have Hte := Lib.hid hte
        clear h255 He hte
        have hcl := Copy_any (some ⟨b, off, none⟩) (j + 1) c (xs.take (j + 1)) w (h.take (by omega)) (by omega)
        have Hcl := Lib.hid hcl
        have hsl : ∀ w, (Instr.slice 23 (.slice (some ⟨b, off, none⟩) n c) none (some (.int .i64 ((j : Int) + 1))) none).run Try.prog w = .ok (.slice (some ⟨b, off, none⟩) (j + 1) c) w :=
          fun w => cut_h Try.underlying23 elem_bytes size_u8 (some ⟨b, off, none⟩) (n := n) (cap := c) (m := j + 1) (by omega) w
        clear hcl hx1
        go_wp2_with fail
        refine Hcl.out.mono ?_
        rintro e w2 ⟨A2, n2, c2, rfl, ho, hb2⟩
        have hlen := ho.len
        rw [List.length_take, h.len, Nat.min_eq_left (by omega)] at hlen
        subst hlen
        obtain ⟨g, rfl, hg, _⟩ := ho.form (by omega)
        obtain ⟨x', hx5, hx6, _⟩ := ho.rd.at_ j (by omega)
        rw [Hte.out] at hx5
        injection hx5 with hx5
        subst hx5
        simp only [Nat.zero_add] at hx6
        have hfr := ho.thawed j
        have hset := Lib.hid (ho.set_ j (bt (x.toNat + 1)) ((x.toNat : Int) + 1) (by rw [bt_nat _ (by omega)]; omega))
        rw [T.out] at hset
        have hbs := Lib.hid (hb2.setCell (p := ⟨g, j, none⟩) hg (.int .u8 ((x.toNat : Int) + 1)))
        clear Hcl T Hte hx2 hg hb2
        go_wp2
        go_ret
        refine ⟨some ⟨g, 0, none⟩, j + 1, c2, rfl, ?_, hbs.out⟩
        rw [R.out]
        exact hset.out

end Go.Proofs.Ytbmaaofomgkllaa
