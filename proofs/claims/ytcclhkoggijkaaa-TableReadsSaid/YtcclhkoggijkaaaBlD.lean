/- A filter: May. No condition but sizes. -/
import Derived.Test.YtcclhkoggijkaaaBlC
namespace Go.Proofs.Ytcclhkoggijkaaa
open Go Go.RowKit Go.Shelf
attribute [local go_sem] Oper.semAt_some

/-- Is this bit of the filter set? -/
def setB (fs : List UInt8) (b : Nat) : Bool := match fs[b / 8]? with
  | some x => decide (x.toNat / 2 ^ (b % 8) % 2 = 1)
  | none => false
/-- How many hashes a filter has. -/
def numB (fs : List UInt8) : Nat := match fs.getLast? with
  | some x => x.toNat
  | none => 0
/-- Are all of the key's bits set? -/
def allBt (fs key : List UInt8) (m : Nat) : Bool := (List.range (numB fs)).all fun i => setB fs (bitN key m i)
def mayB (fs key : List UInt8) : Bool × Int := if goodB fs then (allBt fs key (8 * (fs.length - 1)), 0) else (false, 3)
theorem bit_and (x j : Nat) (hx : x < 256) (hj : j < 8) : bits .and .u8 (x : Int) ((2 ^ j : Nat) : Int) = if x / 2 ^ j % 2 = 1 then ((2 ^ j : Nat) : Int) else 0 := by
  have hp : 2 ^ j < 256 := Nat.lt_of_lt_of_le (Nat.pow_lt_pow_right (by omega) hj) (by decide)
  rw [u8_and_nat x (2 ^ j) hx hp]
  have h1 : x &&& 2 ^ j = if x.testBit j then 2 ^ j else 0 := by
    apply Nat.eq_of_testBit_eq
    intro i
    rw [Nat.testBit_and, Nat.testBit_two_pow]
    by_cases e : j = i
    · subst e
      cases h : x.testBit j <;> simp
    · cases h : x.testBit j <;> simp [e]
  rw [h1, Nat.testBit_eq_decide_div_mod_eq]
  by_cases h : x / 2 ^ j % 2 = 1
  · rw [if_pos h, if_pos (by simpa using h)]
  · rw [if_neg h, if_neg (by simpa using h)]
    rfl
def RetMy (w : World) (z : Bool × Int) (e : Ending) (w' : World) : Prop := e = .returned (.tuple #[.bool z.1, .int .i64 z.2]) ∧ Below w.heap.size w w'
theorem RetMy.out {w : World} {z : Bool × Int} {e : Ending} {w' : World} (h : RetMy w z e w') : e = .returned (.tuple #[.bool z.1, .int .i64 z.2]) ∧ Below w.heap.size w w' := h
end Go.Proofs.Ytcclhkoggijkaaa
