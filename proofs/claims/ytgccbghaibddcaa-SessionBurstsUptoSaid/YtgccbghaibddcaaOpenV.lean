/- From the rows' own words on what came in to the words of the walks: a slice of numbers. No condition. -/
import Derived.Test.YtgccbghaibddcaaOpen
import Derived.Test.YtgccbghaibddcaaVal
namespace Go.Proofs.Ytgccbghaibddcaa
open Go Go.RowKit

theorem RdV.of_ints {w : World} {x : Addr} {len cap : Nat} {zs : List Int} {k : IntKind} (hl : len ≤ cap) (hz : zs.length = cap)
    (hcell : ∀ i, i < zs.length → w.cell? (x.add i) = some (.int k (zs.getD i 0))) : RdV w (some x) len ((zs.take len).map (Value.int k)) := by
  refine ⟨by simp; omega, fun hn => ?_⟩
  obtain ⟨b, off, spot⟩ := x
  have hc := hcell 0 (by omega)
  have hspot : spot = none := by simpa [Addr.add] using World.cell?_spot hc
  subst hspot
  refine ⟨b, off, rfl, World.block_lt_of_cell? w ⟨b, off, none⟩ (by simpa [Addr.add] using hc), fun i y hy => ?_⟩
  rw [List.getElem?_map, List.getElem?_take] at hy
  split at hy
  · next hi =>
    cases hzi : zs[i]? with
    | none => rw [hzi] at hy; cases hy
    | some z =>
      rw [hzi] at hy
      injection hy with hy
      subst hy
      have hil : i < zs.length := (List.getElem?_eq_some_iff.1 hzi).1
      have h := hcell i hil
      rw [List.getD_eq_getElem?_getD, hzi] at h
      simp only [Option.getD_some] at h
      have ea : (⟨b, off, none⟩ : Addr).add i = ⟨b, off + i, none⟩ := by
        unfold Addr.add
        split
        · next h0 => subst h0; rfl
        · rfl
      rw [← ea]
      exact h
  · cases hy
end Go.Proofs.Ytgccbghaibddcaa
