/- The fixed fact of layer 1's statements holds: awake returns true and changes nothing that was there. -/
import Derived.Test.YtdcboeeblbakhaaOrdT
import Derived.Test.YtdcboeeblbakhaaGetU
namespace Go.Proofs.Ytdcboeeblbakhaa
open Go Go.RowKit

/-- 'It hands back this bool, and what was there stands.' -/
def RetT (w : World) (b : Bool) (e : Ending) (w' : World) : Prop := e = .returned (.bool b) ∧ Below w.heap.size w w'

/-- 'The argument reads as it did, and what was there stands.' -/
def Kp (w0 : World) (B : Option Addr) (n : Nat) (ys : List UInt8) (w : World) : Prop := Rd w B n ys ∧ Below w0.heap.size w0 w
theorem Kp.made {w0 w w' : World} {B : Option Addr} {n : Nat} {ys : List UInt8} (h : Kp w0 B n ys w) (hb : Below w.heap.size w w') : Kp w0 B n ys w' := ⟨h.1.below hb, h.2.trans (hb.mono h.2.size)⟩
theorem Kp.drew {w0 w : World} {B : Option Addr} {n : Nat} {ys : List UInt8} (h : Kp w0 B n ys w) : Kp w0 B n ys w.drew := ⟨h.1.drew, h.2.drew⟩
theorem Kp.drewN {w0 w : World} {B : Option Addr} {n : Nat} {ys : List UInt8} (h : Kp w0 B n ys w) (q : Nat) : Kp w0 B n ys (w.drewN q) := ⟨h.1.drewN q, below_drewN h.2 q⟩

theorem Kp.bel {w0 w : World} {B : Option Addr} {n : Nat} {ys : List UInt8} (h : Kp w0 B n ys w) : Below w0.heap.size w0 w := h.2

theorem putU_300 : putU 300 = [172, 2] := by
  rw [putU_big (by omega), putU_small (by omega)]
  rfl

theorem awake_any (w : World) : Calls Try.prog 9 #[] w (RetT w true) := by
  go_enter Try.func9, Try.ntmps9
  go_wp2_with fail
  refine (PutU_any 300 _ (by unfold B64; omega)).mono ?_
  rintro e w1 ⟨A, n, c, rfl, ho, hb⟩
  rw [putU_300] at ho
  have hc := ho.cap
  go_wp2_with fail
  refine (Equal_any A _ n 2 c 2 [172, 2] [172, 2] _ (ho.rd.alloc _) (Rd.lit _ _ 2 [172, 2] rfl _ rfl) (by omega) (by unfold maxLen; omega)).mono ?_
  rintro e w2 ⟨rfl, q, rfl⟩
  rw [eqB_self]
  go_wp2_with fail
  refine (OrdText_any _ 2 2 [0, 7] _ (Rd.litg _ _ 2 [0, 7] rfl _ rfl _ (by simp)) (by omega)).mono ?_
  rintro e w3 ⟨A3, n3, c3, rfl, ho3, hb3⟩
  have hc3 := ho3.cap
  go_wp2_with fail
  refine (Equal_any A3 _ n3 5 c3 5 [0, 255, 7, 0, 1] [0, 255, 7, 0, 1] _ (ho3.rd.alloc _) (Rd.lit _ _ 5 [0, 255, 7, 0, 1] rfl _ rfl) (by omega) (by unfold maxLen; omega)).mono ?_
  rintro e w4 ⟨rfl, q4, rfl⟩
  rw [eqB_self]
  go_wp2
  go_ret
  refine ⟨rfl, ?_⟩
  have h1 := hb.size
  have h3 := hb3.size
  refine below_drewN (Below.alloc (Below.trans ((below_drewN (hb.alloc h1 _) q).alloc ?_ _) (hb3.mono ?_)) ?_ _) _
  · simp; omega
  · simp; omega
  · simp at h3; omega

end Go.Proofs.Ytdcboeeblbakhaa
