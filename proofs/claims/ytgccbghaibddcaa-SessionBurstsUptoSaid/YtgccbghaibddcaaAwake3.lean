/- The fixed fact of layer 3's statements holds; lists joined. -/
import Derived.Test.YtgccbghaibddcaaAwake
import Derived.Test.YtgccbghaibddcaaCrcU
import Derived.Test.YtgccbghaibddcaaFamC
import Derived.Lib.SmallJoins
namespace Go.Proofs.Ytgccbghaibddcaa
open Go Go.RowKit

theorem rdl_box {w : World} {t : TypeId} {vs : List Value} {xss : List (List UInt8)} {n : Nat} (hl : vs.length = n) (hx : xss.length = n) (h : ∀ (i : Nat) v x, vs[i]? = some v → xss[i]? = some x → ElB w v x) (cs : Array Value) (hc : cs = vs.toArray) :
    RdL (w.alloc (.cells cs t)) (some ⟨w.heap.size, 0, none⟩) n xss := by
  subst hc
  refine ⟨hx, fun _ => ⟨w.heap.size, 0, rfl, by simp, fun i x hi => ?_⟩⟩
  have hlt := (List.getElem?_eq_some_iff.1 hi).1
  obtain ⟨v, hv⟩ : ∃ v, vs[i]? = some v := ⟨_, List.getElem?_eq_getElem (by omega)⟩
  refine ⟨v, ?_, (h i v x hv hi).below ((Below.refl _ _).alloc (Nat.le_refl _) _)⟩
  rw [cell_of_row (w.alloc (.cells vs.toArray t)) w.heap.size (0 + i) vs.toArray t (0, 0) (heap_alloc_new w _)]
  simp [hv]
theorem rdl_two {w : World} {t : TypeId} {v1 v2 : Value} {x1 x2 : List UInt8} (h1 : ElB w v1 x1) (h2 : ElB w v2 x2) (g : Nat) (hg : g = w.heap.size) : RdL (w.alloc (.cells #[v1, v2] t)) (some ⟨g, 0, none⟩) 2 [x1, x2] := by
  subst hg
  refine rdl_box (vs := [v1, v2]) rfl rfl (fun i v x hv hx => ?_) _ rfl
  match i, hv, hx with
  | 0, hv, hx => simp at hv hx; subst hv hx; exact h1
  | 1, hv, hx => simp at hv hx; subst hv hx; exact h2
  | i + 2, hv, hx => simp at hv
end Go.Proofs.Ytgccbghaibddcaa
