/- Plain facts on tuples of lists: their keys stand in the tuples' order. No condition. -/
import Derived.Test.YtbmaaofomgkllaaMathT
namespace Go.Proofs.Ytbmaaofomgkllaa

/-- The keys of the lists, one behind the other. -/
def tupT : List (List UInt8) → List UInt8
  | [] => []
  | x :: r => ordT x ++ tupT r
theorem tupT_append : ∀ a b : List (List UInt8), tupT (a ++ b) = tupT a ++ tupT b
  | [], b => rfl
  | x :: a, b => by simp only [List.cons_append, tupT, tupT_append a b, List.append_assoc]
theorem tupT_snoc {l : List (List UInt8)} {k : Nat} {x : List UInt8} (h : l[k]? = some x) : tupT (l.take (k + 1)) = tupT (l.take k) ++ ordT x := by
  rw [List.take_add_one, h, tupT_append]
  simp [tupT]

/-- How two tuples compare. -/
def tupC : List (List UInt8) → List (List UInt8) → Int
  | [], [] => 0
  | [], _ :: _ => -1
  | _ :: _, [] => 1
  | x :: xs, y :: ys => if cmpB x y = 0 then tupC xs ys else cmpB x y
theorem cmpB_tupT : ∀ a b : List (List UInt8), cmpB (tupT a) (tupT b) = tupC a b
  | [], [] => rfl
  | [], y :: ys => by
    show cmpB [] (ordT y ++ tupT ys) = -1
    cases h : ordT y with
    | nil => have := congrArg List.length h; simp [ordT] at this
    | cons z zs => rfl
  | x :: xs, [] => by
    show cmpB (ordT x ++ tupT xs) [] = 1
    cases h : ordT x with
    | nil => have := congrArg List.length h; simp [ordT] at this
    | cons z zs => rfl
  | x :: xs, y :: ys => by
    show cmpB (ordT x ++ tupT xs) (ordT y ++ tupT ys) = tupC (x :: xs) (y :: ys)
    rw [cmpB_ordT, tupC, cmpB_tupT xs ys]

theorem drop_consL {xs : List (List UInt8)} {k : Nat} {x : List UInt8} (h : xs[k]? = some x) : xs.drop k = x :: xs.drop (k + 1) := by
  obtain ⟨hk, rfl⟩ := List.getElem?_eq_some_iff.1 h
  exact List.drop_eq_getElem_cons hk
theorem tupC_cons {x y : List UInt8} {xs ys : List (List UInt8)} : tupC (x :: xs) (y :: ys) = if cmpB x y = 0 then tupC xs ys else cmpB x y := rfl

end Go.Proofs.Ytbmaaofomgkllaa
