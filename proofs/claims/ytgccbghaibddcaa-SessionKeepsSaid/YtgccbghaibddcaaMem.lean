/- The reference's Copy and Equal: a copy in new memory; whether two slices read alike. -/
import Derived.Test.YtgccbghaibddcaaPut
import Derived.Deep.QuietTactic
import Derived.BigQuiet
namespace Go.Proofs.Ytgccbghaibddcaa
open Go Go.RowKit

theorem Own.lit0 (e : TypeId) (w : World) : Own e (w.alloc (.cells #[] e)) w.heap.size (some ⟨w.heap.size, 0, none⟩) 0 0 [] := by
  refine ⟨rfl, .inr ⟨w.heap.size, 0, #[], rfl, Nat.le_refl _, heap_alloc_new w _, Nat.le_refl _, by unfold maxLen; omega, rfl, rfl⟩⟩

/-- Do two lists read alike? -/
def eqB (xs ys : List UInt8) : Bool := xs == ys
theorem eqB_self (xs : List UInt8) : eqB xs xs = true := by simp [eqB]

def RetB (w : World) (b : Bool) (e : Ending) (w' : World) : Prop := e = .returned (.bool b) ∧ ∃ q, w' = w.drewN q

theorem take_snoc' (xs : List UInt8) (k : Nat) (x : UInt8) (h : xs[k]? = some x) : xs.take (k + 1) = xs.take k ++ [x] := by
  rw [List.take_add_one, h]; rfl

theorem eqB_ne_at (xs ys : List UInt8) (k : Nat) (x y : UInt8) (hx : xs[k]? = some x) (hy : ys[k]? = some y) (h : x ≠ y) : eqB xs ys = false := by
  unfold eqB
  rw [beq_eq_false_iff_ne]
  rintro rfl
  rw [hx] at hy
  injection hy with hy
  exact h hy
theorem eqB_ne_len (xs ys : List UInt8) (h : xs.length ≠ ys.length) : eqB xs ys = false := by
  unfold eqB
  rw [beq_eq_false_iff_ne]
  rintro rfl
  exact h rfl
theorem eqB_all (xs ys : List UInt8) (n k : Nat) (hk : ¬ k < n) (h : xs.take k = ys.take k) (hx : xs.length = n) (hy : ys.length = n) : eqB xs ys = true := by
  rw [List.take_of_length_le (by omega), List.take_of_length_le (by omega)] at h
  subst h
  exact eqB_self _

theorem Equal_any (A B : Option Addr) (n m c d : Nat) (xs ys : List UInt8) (w : World) (hx : Rd w A n xs) (hy : Rd w B m ys) (hn : n ≤ maxLen) (hm : m ≤ maxLen) :
    Calls Try.prog 20 #[.slice A n c, .slice B m d] w (RetB w (eqB xs ys)) := by
  unfold maxLen at hn hm
  by_cases hnm : n = m
  · subst hnm
    go_enter Try.func20, Try.ntmps20
    go_wp2
    go_loopw [5] (fun i wr => ∃ k q : Nat, k ≤ n ∧ i = .int .i64 k ∧ xs.take k = ys.take k ∧ wr = w.drewN q) (fun i _ => n - (intOf i).toNat)
    case atStart => exact ⟨0, 0, Nat.zero_le _, rfl, rfl, rfl⟩
    case round =>
      obtain ⟨k, q, hk, rfl, ht, rfl⟩ := hrel
      have Ht := Lib.hid ht
      clear ht
      by_cases hlt : k < n
      · obtain ⟨b, off, rfl, _⟩ := hx.pos (by omega)
        obtain ⟨b2, off2, rfl, _⟩ := hy.pos (by omega)
        obtain ⟨x, hx1, hx2, hx3⟩ := hx.at_ k hlt
        obtain ⟨y, hy1, hy2, hy3⟩ := hy.at_ k hlt
        have Hx := Lib.hid hx1
        have Hy := Lib.hid hy1
        clear hx1 hy1
        by_cases hxy : x = y
        · subst hxy
          go_wp2
          go_quiet (fail)
          go_wp2
          go_roundw
          case rel => exact ⟨k + 1, _, by omega, by go_num, by rw [take_snoc' _ _ _ Hx.out, take_snoc' _ _ _ Hy.out, Ht.out], rfl⟩
          case measure => simp [intOf]; omega
        · have hne : ((x.toNat : Int) == (y.toNat : Int)) = false := by
            rw [beq_eq_false_iff_ne]
            intro e
            exact hxy (UInt8.toNat_inj.1 (by omega))
          go_wp2
          go_quiet (fail)
          go_wp2
          go_ret
          exact ⟨by rw [eqB_ne_at xs ys k x y Hx.out Hy.out hxy]; rfl, _, World.drewN_drewN _ _ _⟩
      · go_wp2
        go_ret
        exact ⟨by rw [eqB_all xs ys n k hlt Ht.out hx.len hy.len]; rfl, _, rfl⟩
  · go_enter Try.func20, Try.ntmps20
    go_wp2
    go_ret
    exact ⟨by rw [eqB_ne_len xs ys (by rw [hx.len, hy.len]; exact hnm)]; rfl, 0, by simp [World.drewN]⟩

end Go.Proofs.Ytgccbghaibddcaa
