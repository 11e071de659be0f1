/- The reference's Cmp tells how two lists of bytes compare; it leaves memory alone. -/
import Derived.Test.YtikcehnlpfeafaaMem
import Derived.Test.YtikcehnlpfeafaaMathO
namespace Go.Proofs.Ytikcehnlpfeafaa
open Go Go.RowKit

def RetZ (w : World) (z : Int) (e : Ending) (w' : World) : Prop := e = .returned (.int .i64 z) ∧ ∃ q, w' = w.drewN q

theorem drewN3 (w : World) (a b c : Nat) : ((w.drewN a).drewN b).drewN c = w.drewN (a + b + c) := by rw [World.drewN_drewN, World.drewN_drewN, Nat.add_assoc]

theorem refCmp_any (A B : Option Addr) (n m c d : Nat) (xs ys : List UInt8) (w : World) (hx : Rd w A n xs) (hy : Rd w B m ys) (hn : n ≤ maxLen) (hm : m ≤ maxLen) :
    Calls Try.prog 92 #[.slice A n c, .slice B m d] w (RetZ w (cmpB xs ys)) := by
  unfold maxLen at hn hm
  go_enter Try.func92, Try.ntmps92
  go_wp2
  go_loopw [5] (fun i wr => ∃ k q : Nat, k ≤ n ∧ k ≤ m ∧ i = .int .i64 k ∧ cmpB xs ys = cmpB (xs.drop k) (ys.drop k) ∧ wr = w.drewN q) (fun i _ => n - (intOf i).toNat)
  case atStart => exact ⟨0, 0, Nat.zero_le _, Nat.zero_le _, rfl, rfl, rfl⟩
  case round =>
    obtain ⟨k, q, hk, hkm, rfl, ht, rfl⟩ := hrel
    have Ht := Lib.hid ht
    clear ht
    by_cases hlt : k < n
    · by_cases hlm : k < m
      · obtain ⟨b, off, rfl, _⟩ := hx.pos (by omega)
        obtain ⟨b2, off2, rfl, _⟩ := hy.pos (by omega)
        obtain ⟨x, hx1, hx2, hx3⟩ := hx.at_ k hlt
        obtain ⟨y, hy1, hy2, hy3⟩ := hy.at_ k hlm
        rw [drop_cons hx1, drop_cons hy1] at Ht
        clear hx1 hy1
        have hd : decide (k < m) = true := by simpa using hlm
        rcases Nat.lt_trichotomy x.toNat y.toNat with h | h | h
        · have R := Lib.hid (Ht.out.trans (cmpB_lt _ _ h))
          clear Ht
          have h' : (x.toNat : Int) < (y.toNat : Int) := by omega
          go_wp2
          go_quiet (fail)
          go_wp2
          go_ret
          exact ⟨by rw [R.out]; rfl, _, World.drewN_drewN _ _ _⟩
        · have R := Lib.hid (Ht.out.trans (cmpB_eq _ _ h))
          clear Ht
          have h1 : decide (x.toNat < y.toNat) = false := by simp; omega
          have h2 : decide (y.toNat < x.toNat) = false := by simp; omega
          clear h
          go_wp2
          go_quiet (fail)
          go_wp2
          go_quiet (fail)
          go_wp2
          go_roundw
          case rel => exact ⟨k + 1, _, by omega, by omega, by go_num, R.out, rfl⟩
          case measure => simp [intOf]; omega
        · have R := Lib.hid (Ht.out.trans (cmpB_gt _ _ h))
          clear Ht
          have h1 : decide (x.toNat < y.toNat) = false := by simp; omega
          have h2 : decide (y.toNat < x.toNat) = true := by simp; omega
          clear h
          go_wp2
          go_quiet (fail)
          go_wp2
          go_quiet (fail)
          go_wp2
          go_ret
          exact ⟨by rw [R.out]; rfl, _, drewN3 _ _ _ _⟩
      · have R : Hid (cmpB xs ys = 1) := by
          rw [Ht.out, List.drop_of_length_le (l := ys) (by rw [hy.len]; omega)]
          obtain ⟨x, hx1⟩ : ∃ x, xs[k]? = some x := ⟨_, List.getElem?_eq_getElem (by rw [hx.len]; exact hlt)⟩
          rw [drop_cons hx1]
          exact Lib.hid rfl
        have hd : decide (k < m) = false := by simpa using hlm
        have h1 : decide (n < m) = false := by simp; omega
        have h2 : decide (m < n) = true := by simp; omega
        clear Ht hlm
        go_wp2
        go_ret
        exact ⟨by rw [R.out]; rfl, _, rfl⟩
    · by_cases hnm : n < m
      · have R : Hid (cmpB xs ys = -1) := by
          rw [Ht.out, List.drop_of_length_le (l := xs) (by rw [hx.len]; omega)]
          obtain ⟨y, hy1⟩ : ∃ y, ys[k]? = some y := ⟨_, List.getElem?_eq_getElem (by rw [hy.len]; omega)⟩
          rw [drop_cons hy1]
          exact Lib.hid rfl
        go_wp2
        go_ret
        exact ⟨by rw [R.out]; rfl, _, rfl⟩
      · have R : Hid (cmpB xs ys = 0) := by
          rw [Ht.out, List.drop_of_length_le (l := xs) (by rw [hx.len]; omega), List.drop_of_length_le (l := ys) (by rw [hy.len]; omega)]
          exact Lib.hid rfl
        have h2 : ¬ m < n := by omega
        go_wp2
        go_ret
        exact ⟨by rw [R.out]; rfl, _, rfl⟩

theorem refCmp_is (A B : Option Addr) (n m c d : Nat) (xs ys : List UInt8) (z : Int) (hz : cmpB xs ys = z) (w : World) (hx : Rd w A n xs) (hy : Rd w B m ys) (hn : n ≤ maxLen) (hm : m ≤ maxLen) :
    Calls Try.prog 92 #[.slice A n c, .slice B m d] w (RetZ w z) := by
  subst hz
  exact refCmp_any A B n m c d xs ys w hx hy hn hm
end Go.Proofs.Ytikcehnlpfeafaa
