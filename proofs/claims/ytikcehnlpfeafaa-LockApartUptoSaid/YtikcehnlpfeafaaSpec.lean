/- What the functions of layer 1 come to, as plain functions on numbers and lists of bytes. No condition. -/
import Derived.WalkKit
namespace Go.Proofs.Ytikcehnlpfeafaa

/-- The byte of a number (the last eight bits), behind a name. -/
def bt (n : Nat) : UInt8 := UInt8.ofNat n
theorem bt_nat (i : Nat) (h : i < 256) : (bt i).toNat = i := by
  have : (UInt8.ofNat i).toNat = i % 256 := by simp [UInt8.toNat_ofNat']
  unfold bt
  omega
/-- A number read from a list of groups, i of them read already, 'acc' in all: the number, how many groups, the error. -/
def getL : List UInt8 → Nat → Nat → Nat × Nat × Nat
  | [], _, _ => (0, 0, 5)
  | c :: r, i, acc =>
    if (i = 9 ∧ 1 < c.toNat) ∨ (0 < i ∧ c.toNat = 0) then (0, 0, 3)
    else if c.toNat < 128 then (acc + c.toNat * 128 ^ i, i + 1, 0)
    else getL r (i + 1) (acc + (c.toNat % 128) * 128 ^ i)
/-- The number at a place: the number, the place behind it, the error. -/
def getU (xs : List UInt8) (t : Int) : Nat × Int × Int :=
  if t < 0 ∨ (xs.length : Int) < t then (0, 0, 1)
  else
    let g := getL (xs.drop t.toNat) 0 0
    (g.1, if g.2.2 = 0 then t + g.2.1 else 0, g.2.2)
theorem drop_cons {xs : List UInt8} {k : Nat} {x : UInt8} (h : xs[k]? = some x) : xs.drop k = x :: xs.drop (k + 1) := by
  obtain ⟨hk, rfl⟩ := List.getElem?_eq_some_iff.1 h
  exact List.drop_eq_getElem_cons hk

/-- A signed number as the unsigned one that stands at its place. -/
def up (z : Int) : Nat := (z + 9223372036854775808).toNat
end Go.Proofs.Ytikcehnlpfeafaa
