/- From the rows' own words on lists of lists of entries, and on asks, to the words of the walks. No condition. -/
import Derived.Test.YtbgelbdnkbhffaaGreatOpenE
import Derived.Test.YtbgelbdnkbhffaaGreatEnL
namespace Go.Proofs.YtbgelbdnkbhffaaGreat
open Go Go.RowKit Go.Deep Go.ChangeShapes Go.WideShapes Go.ChangeAt

theorem totAk_bulk {H : Type} : ∀ (al : List AskP) (D : Nat → DataW H), (∀ i a, al[i]? = some a → wAk a + 1 ≤ Rows.uptoBulk (D i)) → totAk al ≤ Rows.uptoBulkAll ((List.range al.length).map D)
  | [], D, _ => by simp [totAk]
  | a :: t, D, h => by
    have h1 := h 0 a rfl
    have h2 := totAk_bulk t (fun i => D (i + 1)) (fun i b hb => h (i + 1) b (by simpa using hb))
    rw [List.length_cons, List.range_succ_eq_map, List.map_cons, List.map_map, totAk, Rows.uptoBulkAll]
    have e : (List.range t.length).map (D ∘ Nat.succ) = (List.range t.length).map (fun i => D (i + 1)) := rfl
    rw [e]
    omega
end Go.Proofs.YtbgelbdnkbhffaaGreat
