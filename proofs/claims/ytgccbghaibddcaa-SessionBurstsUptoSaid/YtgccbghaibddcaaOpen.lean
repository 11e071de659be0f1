/- From the rows' own words on what came in to the words of the walks: a slice of bytes, a number. No condition. -/
import Derived.Test.YtgccbghaibddcaaMem
import Derived.Lib.Bytes
import Derived.OpenShut
namespace Go.Proofs.Ytgccbghaibddcaa
open Go Go.RowKit

theorem u8_of_wf {z : Int} (h : (Lit.int .u8 z).wf = true) : z = ((bt z.toNat).toNat : Int) := by
  have h1 : 0 ≤ z ∧ z ≤ 255 := by simpa [Lit.wf, IntKind.min, IntKind.max, IntKind.signed, IntKind.bits] using h
  rw [bt_nat _ (by omega)]
  omega

theorem nat_of_u64 {z : Int} (h : (Lit.int .u64 z).wf = true) : ∃ n : Nat, z = (n : Int) ∧ n < B64 := by
  have h1 : 0 ≤ z ∧ z ≤ 18446744073709551615 := by simpa [Lit.wf, IntKind.min, IntKind.max, IntKind.signed, IntKind.bits] using h
  refine ⟨z.toNat, by omega, ?_⟩
  unfold B64
  omega

theorem Rd.of_ints {w : World} {x : Addr} {len cap : Nat} {zs : List Int} (hl : len ≤ cap) (hz : zs.length = cap)
    (hcell : ∀ i, i < zs.length → w.cell? (x.add i) = some (.int .u8 (zs.getD i 0))) (hwz : ∀ n ∈ zs, (Lit.int .u8 n).wf = true) :
    Rd w (some x) len ((zs.take len).map fun z => bt z.toNat) := by
  refine ⟨by simp; omega, fun hn => ?_⟩
  obtain ⟨b, off, spot⟩ := x
  have hc := hcell 0 (by omega)
  have hspot : spot = none := by simpa [Addr.add] using World.cell?_spot hc
  subst hspot
  refine ⟨b, off, rfl, World.block_lt_of_cell? w ⟨b, off, none⟩ (by simpa [Addr.add] using hc), fun i y hy => ?_⟩
  rw [List.getElem?_map, List.getElem?_take] at hy
  split at hy
  · next hi =>
    cases hzi : zs[i]? with
    | none => rw [hzi] at hy; cases hy
    | some z =>
      rw [hzi] at hy
      injection hy with hy
      subst hy
      have hil : i < zs.length := (List.getElem?_eq_some_iff.1 hzi).1
      have h := hcell i hil
      rw [List.getD_eq_getElem?_getD, hzi] at h
      simp only [Option.getD_some] at h
      rw [← u8_of_wf (hwz z (List.mem_of_getElem? hzi))]
      have ea : (⟨b, off, none⟩ : Addr).add i = ⟨b, off + i, none⟩ := by
        unfold Addr.add
        split
        · next h0 => subst h0; rfl
        · rfl
      rw [← ea]
      exact h
  · cases hy

end Go.Proofs.Ytgccbghaibddcaa
