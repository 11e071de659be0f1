/- The reference's Equals is true of lists that read alike; codec.Parts and the reference's Parts return the parts of a frame in new memory, or the error. -/
import Derived.Test.YtfffcpbldjoemaaFrame
import Derived.Test.YtfffcpbldjoemaaGetU
import Derived.Test.YtfffcpbldjoemaaBcmp
namespace Go.Proofs.Ytfffcpbldjoemaa
open Go Go.RowKit

set_option maxRecDepth 100000 in
set_option maxHeartbeats 1000000 in
theorem Equals_any (A B : Option Addr) (n c d : Nat) (xss : List (List UInt8)) (w : World) (hx : RdL w A n xss) (hy : RdL w B n xss) (hn : n ≤ 140737488355328) (hl : ∀ x ∈ xss, (x : List UInt8).length ≤ maxLen) :
    Calls Try.prog 24 #[.slice A n c, .slice B n d] w (RetB w true) := by
  have Hl := Lib.hid hl
  clear hl
  go_enter Try.func24, Try.ntmps24
  go_wp2
  go_loopw [5] (fun i wr => ∃ k q : Nat, k ≤ n ∧ i = .int .i64 k ∧ wr = w.drewN q) (fun i _ => n - (intOf i).toNat)
  case atStart => exact ⟨0, 0, Nat.zero_le _, rfl, rfl⟩
  case round =>
    obtain ⟨k, q, hk, rfl, hwr⟩ := hrel
    have hxr : RdL wr A n xss := by rw [hwr]; exact hx.drewN q
    have hyr : RdL wr B n xss := by rw [hwr]; exact hy.drewN q
    have Hwr := Lib.hid hwr
    clear hwr
    by_cases hlt : k < n
    · obtain ⟨b, off, rfl, _⟩ := hxr.pos (by omega)
      obtain ⟨b2, off2, rfl, _⟩ := hyr.pos (by omega)
      obtain ⟨x, X, nx, cx, hkx, hcx, rx, hxc, _⟩ := hxr.at_ k hlt
      obtain ⟨y, Y, ny, cy, hky, hcy, ry, hyc, _⟩ := hyr.at_ k hlt
      obtain rfl : x = y := by rw [hkx] at hky; injection hky
      have hxm : nx ≤ maxLen := by rw [← rx.len]; exact Hl.out x (List.mem_of_getElem? hkx)
      have hym : ny ≤ maxLen := by rw [← ry.len]; exact Hl.out x (List.mem_of_getElem? hkx)
      clear hkx hky
      have hC : ∀ W : World, Rd W X nx x → Rd W Y ny x → Calls Try.prog 25 #[.slice X nx cx, .slice Y ny cy] W (RetB W true) := fun W g1 g2 =>
        Equal_is X Y nx ny cx cy x x true (eqB_self _) W g1 g2 hxm hym
      have HC := Lib.hid hC
      clear hC hxm hym
      go_wp2_with fail
      go_quiet ((go_at_call 25; exact Calls.quiet_of (HC.out _ (rx.drewN _) (ry.drewN _))))
      rw [Hwr.out, World.drewN_drewN]
      go_wp2
      go_roundw
      case rel => exact ⟨k + 1, _, by omega, by go_num, rfl⟩
      case measure => simp [intOf]; omega
    · go_wp2
      go_ret
      exact ⟨rfl, q, Hwr.out⟩

/-- 'It hands back a slice of slices of its own and an error's number; what lay below base stands.' -/
def RetP (base : Nat) (w : World) (g : List (List UInt8) × Int) (e : Ending) (w' : World) : Prop :=
  ∃ A n c, e = .returned (.tuple #[.slice A n c, .int .i64 g.2]) ∧ OwnL 30 w' base A n c g.1 ∧ Below base w w'
theorem retP_none {w w' : World} {base : Nat} {g : List (List UInt8) × Int} {e : Int} (hg : g = ([], e)) (hb : Below base w w') : RetP base w g (.returned (.tuple #[.slice none 0 0, .int .i64 e])) w' := by
  subst hg
  exact ⟨none, 0, 0, rfl, OwnL.nil _ _ _, hb⟩
theorem retP_some {w w' : World} {base n c : Nat} {A : Option Addr} {g : List (List UInt8) × Int} {v : List (List UInt8)} (hg : g = (v, 0)) (ho : OwnL 30 w' base A n c v) (hb : Below base w w') :
    RetP base w g (.returned (.tuple #[.slice A n c, .int .i64 0])) w' := by
  subst hg
  exact ⟨A, n, c, rfl, ho, hb⟩

theorem getU_err {xs : List UInt8} {p : Nat} (h : p ≤ xs.length) {m : Nat} {nx e : Int} (hg : getU xs p = (m, nx, e)) (he : e = 0) : ∃ k : Nat, nx = (k : Int) ∧ p < k ∧ k ≤ xs.length ∧ m < B64 := by
  subst he
  obtain ⟨k, k', h1, h2, h3, h4, h5, h6⟩ := getU_ok hg
  have hk : k = p := by omega
  subst hk
  refine ⟨k', h2, ?_, h4, h6⟩
  have := congrArg List.length h5
  rw [List.length_drop, List.length_take, Nat.min_eq_left h4] at this
  have := putU_pos m
  omega

end Go.Proofs.Ytfffcpbldjoemaa
