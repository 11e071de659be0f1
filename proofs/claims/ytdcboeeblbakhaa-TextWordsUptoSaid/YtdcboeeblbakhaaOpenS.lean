/- From the rows' own words on a list of texts that came in to the words of the walks. No condition. -/
import Derived.Test.YtdcboeeblbakhaaOpen
import Derived.Test.YtdcboeeblbakhaaCount
import Derived.Test.YtdcboeeblbakhaaBulk
import Derived.SliceStrings
namespace Go.Proofs.Ytdcboeeblbakhaa
open Go Go.RowKit Go.ChangeShapes Go.WideShapes Go.ChangeAt

theorem RdV.of_strs {w : World} {x : Addr} {len cap : Nat} {ss : List ByteArray} (hl : len ≤ cap) (hz : ss.length = cap)
    (hcell : ∀ i, i < ss.length → w.cell? (x.add i) = some (.string (ss.getD i ByteArray.empty))) : RdV w (some x) len (strVs (ss.take len)) := by
  refine ⟨by simp [strVs]; omega, fun hn => ?_⟩
  obtain ⟨b, off, spot⟩ := x
  have hc := hcell 0 (by omega)
  have hspot : spot = none := by simpa [Addr.add] using World.cell?_spot hc
  subst hspot
  refine ⟨b, off, rfl, World.block_lt_of_cell? w ⟨b, off, none⟩ (by simpa [Addr.add] using hc), fun i y hy => ?_⟩
  unfold strVs at hy
  rw [List.getElem?_map, List.getElem?_take] at hy
  split at hy
  · next hi =>
    cases hzi : ss[i]? with
    | none => rw [hzi] at hy; cases hy
    | some z =>
      rw [hzi] at hy
      injection hy with hy
      subst hy
      have h := hcell i (List.getElem?_eq_some_iff.1 hzi).1
      rw [List.getD_eq_getElem?_getD, hzi] at h
      simp only [Option.getD_some] at h
      have ea : (⟨b, off, none⟩ : Addr).add i = ⟨b, off + i, none⟩ := by
        unfold Addr.add
        split
        · next h0 => subst h0; rfl
        · rfl
      rw [← ea]
      exact h
  · cases hy
theorem strs_bulk {H : Type} : ∀ l : List ByteArray, totS l ≤ Rows.uptoBulkAll (strs (H := H) l)
  | [] => by simp [totS]
  | s :: r => by
    have := strs_bulk (H := H) r
    have h := Lib.size_eq s
    simp only [strs, List.map_cons, Rows.uptoBulkAll, Rows.uptoBulk, totS] at *
    omega

end Go.Proofs.Ytdcboeeblbakhaa
