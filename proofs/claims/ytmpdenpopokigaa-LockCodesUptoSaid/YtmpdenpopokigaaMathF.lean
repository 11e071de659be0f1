/- Plain facts on framed parts: what is framed is read back as the same parts. No condition but that lengths are below 2^64. -/
import Derived.Test.YtmpdenpopokigaaMathU
import Derived.Test.YtmpdenpopokigaaLists
namespace Go.Proofs.Ytmpdenpopokigaa

/-- Each part with its length ahead. -/
def frameB : List (List UInt8) → List UInt8
  | [] => []
  | x :: r => putU x.length ++ (x ++ frameB r)
theorem frameB_append : ∀ a b : List (List UInt8), frameB (a ++ b) = frameB a ++ frameB b
  | [], b => rfl
  | x :: a, b => by simp only [List.cons_append, frameB, frameB_append a b, List.append_assoc]
theorem frameB_snoc {l : List (List UInt8)} {k : Nat} {x : List UInt8} (h : l[k]? = some x) : frameB (l.take (k + 1)) = frameB (l.take k) ++ (putU x.length ++ x) := by
  rw [List.take_add_one, h, frameB_append]
  simp [frameB]
/-- The parts from place p on, f of them at most; 'acc' are read already: the parts, the error. -/
def partsF (xs : List UInt8) : Nat → Nat → List (List UInt8) → List (List UInt8) × Int
  | 0, p, acc => if p < xs.length then ([], 5) else (acc, 0)
  | f + 1, p, acc =>
    if p < xs.length then
      if (getU xs p).2.2 ≠ 0 then ([], (getU xs p).2.2)
      else if (xs.length : Int) - (getU xs p).2.1 < ((getU xs p).1 : Int) then ([], 5)
      else partsF xs f ((getU xs p).2.1.toNat + (getU xs p).1) (acc ++ [(xs.drop (getU xs p).2.1.toNat).take (getU xs p).1])
    else (acc, 0)
def parts (xs : List UInt8) : List (List UInt8) × Int := partsF xs xs.length 0 []
theorem partsF_end {xs : List UInt8} {f p : Nat} {acc : List (List UInt8)} (h : ¬ p < xs.length) : partsF xs f p acc = (acc, 0) := by
  cases f <;> rw [partsF, if_neg h]
theorem partsF_err {xs : List UInt8} {f p m : Nat} {nx e : Int} {acc : List (List UInt8)} (h : p < xs.length) (hg : getU xs p = (m, nx, e)) (he : e ≠ 0) : partsF xs (f + 1) p acc = ([], e) := by
  rw [partsF, if_pos h, hg, if_pos he]
theorem partsF_short {xs : List UInt8} {f p m : Nat} {nx : Int} {acc : List (List UInt8)} (h : p < xs.length) (hg : getU xs p = (m, nx, 0)) (hs : (xs.length : Int) - nx < (m : Int)) : partsF xs (f + 1) p acc = ([], 5) := by
  rw [partsF, if_pos h, hg, if_neg (by simp), if_pos hs]
theorem partsF_next {xs : List UInt8} {f p m k : Nat} {acc : List (List UInt8)} (h : p < xs.length) (hg : getU xs p = (m, (k : Int), 0)) (hs : ¬ (xs.length : Int) - (k : Int) < (m : Int)) :
    partsF xs (f + 1) p acc = partsF xs f (k + m) (acc ++ [(xs.drop k).take m]) := by
  rw [partsF, if_pos h, hg, if_neg (by simp), if_neg hs]
  simp

theorem getU_at (pre r : List UInt8) (n : Nat) (h : n < B64) : getU (pre ++ (putU n ++ r)) (pre.length : Int) = (n, ((pre.length + (putU n).length : Nat) : Int), 0) := by
  have h1 := getL_putU 10 n (Nat.lt_of_lt_of_le h (by unfold B64; decide)) r 0 0 (by omega) (by omega) (by simpa using h) (fun h => absurd h (by omega))
  have h2 := getU_in (xs := pre ++ (putU n ++ r)) (k := pre.length) (by simp) (n := n) (j := (putU n).length) (e := 0) (by rw [List.drop_left]; simpa using h1)
  rw [h2]
  simp

theorem parts_frameF : ∀ (xss : List (List UInt8)) (pre : List UInt8) (f : Nat) (acc : List (List UInt8)), (∀ x ∈ xss, (x : List UInt8).length < B64) → (frameB xss).length ≤ f →
    partsF (pre ++ frameB xss) f pre.length acc = (acc ++ xss, 0)
  | [], pre, f, acc, _, _ => by
    rw [partsF_end (by simp [frameB])]
    simp
  | x :: r, pre, f, acc, hb, hf => by
    have hp := putU_pos x.length
    have hx := hb x (by simp)
    obtain ⟨f, rfl⟩ : ∃ g, f = g + 1 := ⟨f - 1, by simp only [frameB, List.length_append] at hf; omega⟩
    have hg : getU (pre ++ frameB (x :: r)) (pre.length : Int) = (x.length, ((pre.length + (putU x.length).length : Nat) : Int), 0) := getU_at pre (x ++ frameB r) x.length hx
    have e : pre ++ frameB (x :: r) = (pre ++ putU x.length) ++ (x ++ frameB r) := by simp [frameB]
    have hl : (pre ++ frameB (x :: r)).length = pre.length + (putU x.length).length + x.length + (frameB r).length := by
      rw [e]; simp; omega
    rw [partsF_next (by rw [hl]; omega) hg (by rw [hl]; omega)]
    have hd : ((pre ++ frameB (x :: r)).drop (pre.length + (putU x.length).length)).take x.length = x := by
      rw [e, ← List.length_append, List.drop_left, List.take_left]
    rw [hd]
    have e2 : pre ++ frameB (x :: r) = (pre ++ putU x.length ++ x) ++ frameB r := by simp [frameB]
    have e3 : pre.length + (putU x.length).length + x.length = (pre ++ putU x.length ++ x).length := by simp; omega
    rw [e2, e3, parts_frameF r _ f _ (fun y hy => hb y (by simp [hy])) (by simp only [frameB, List.length_append] at hf; omega)]
    simp

theorem parts_frame (xss : List (List UInt8)) (h : ∀ x ∈ xss, (x : List UInt8).length < B64) : parts (frameB xss) = (xss, 0) := by
  have := parts_frameF xss [] (frameB xss).length [] h (Nat.le_refl _)
  simpa [parts] using this

end Go.Proofs.Ytmpdenpopokigaa
