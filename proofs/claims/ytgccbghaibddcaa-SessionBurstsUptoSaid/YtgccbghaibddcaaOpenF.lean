/- From the rows' own words on a list of structs that came in to a struct's fields. No condition. -/
import Derived.Test.YtgccbghaibddcaaOpen
import Derived.Test.YtgccbghaibddcaaBulk
import Derived.Test.YtgccbghaibddcaaVal
import Derived.Deep.Slices
import Derived.Deep.Fields
import Derived.ChangeSame
namespace Go.Proofs.Ytgccbghaibddcaa
open Go Go.RowKit Go.Deep Go.ChangeShapes Go.WideShapes Go.ChangeAt

section
variable {H : Type} {enc : TypeId × Value → H} {P : Program} {w : World} {base : Nat} {spare : Nat → Bool} {held : Bool}
/-- One struct of a row: its fields' cells and readings. -/
theorem fields_at {e : TypeId} {fs : Array Field} {n : Nat} {cs : List Value} {a : Addr} {d : DataW H} {pl : List MemPlace} (he : P.underlying e = some (.struct fs)) (hone : oneCellFields P fs = true) (hC : P.cellsOf e = fs.size)
    (hc : w.cells? base a (P.cellsOf e) = some cs) (ht : DataW.trod enc P w base spare held n e cs = some (d, pl)) :
    ∃ (ys : List (DataW H × List MemPlace)) (m : Nat), d = .agg (ys.map (·.1)) ∧ ys.length = fs.size ∧
      ∀ (j : Nat) (f : Field), fs[j]? = some f → ∃ v y, w.cell? (a.add j) = some v ∧ ys[j]? = some y ∧ DataW.trod enc P w base spare held m f.type [v] = some y := by
  obtain ⟨ys, m, _, hd, hl, hyl, hf⟩ := DataW.trod_struct he ht
  rw [hC] at hc hl
  obtain ⟨_, hcl, hat⟩ := World.cells?_some hc
  injection hd with hd1 hd2
  refine ⟨ys, m, hd1, hyl, fun j f hj => ?_⟩
  have hjl : j < fs.size := (Array.getElem?_eq_some_iff.1 hj).1
  obtain ⟨ho, hk⟩ := hone_of hone j f hj
  have h1 := hf j f hj
  rw [ho, hk, List.drop_eq_getElem_cons (by omega), List.take_succ_cons, List.take_zero] at h1
  have hy : ys[j]? = some (ys[j]'(by omega)) := List.getElem?_eq_getElem (by omega)
  refine ⟨cs[j]'(by omega), ys[j]'(by omega), ?_, hy, h1.trans hy⟩
  rw [hat j hjl]
  exact List.getElem?_eq_getElem (by omega)
end
theorem addA (b off k : Nat) : (⟨b, off, none⟩ : Addr).add k = ⟨b, off + k, none⟩ := by
  unfold Addr.add
  split
  · next h0 => subst h0; rfl
  · rfl
/-- Bytes of a field: what they read as, and their bulk. -/
theorem bytes_field {H : Type} {enc : TypeId × Value → H} {w : World} {base m : Nat} {held : Bool} {v : Value} {y : DataW H × List MemPlace} (h : DataW.trod enc Try.prog w base (fun _ => true) held m 30 [v] = some y) :
    ∃ A n c xs, v = .slice A n c ∧ Rd w A n xs ∧ n ≤ c ∧ (A = none → c = 0) ∧ xs.length + 1 ≤ Rows.uptoBulk y.1 ∧ (0 < n → ∀ b, A.map (·.block) = some b → b < w.heap.size) := by
  rcases open_ints Try.underlying30 Try.underlying5 (by kernel_rfl) h with ⟨hcs, hy⟩ | ⟨x, l, c, zs, hcs, _, hl, hm, hz, hy, hcell, hwz⟩
  · simp at hcs
    subst hcs
    exact ⟨none, 0, 0, [], rfl, Rd.nil _ _, Nat.le_refl _, fun _ => rfl, by rw [hy]; exact bulk_pos _, fun h => absurd h (by omega)⟩
  · simp at hcs
    subst hcs
    have hz' : zs.length = c := by simpa using hz
    have hrd := Rd.of_ints hl hz' hcell hwz
    refine ⟨some x, l, c, _, rfl, hrd, hl, fun h => (by cases h), ?_, fun hn b hb => ?_⟩
    · have h3 := length_le (lits (H := H) .u8 (zs.take l))
      simp only [lits, List.length_map, List.length_take] at h3
      rw [hy]
      simp only [Rows.uptoBulk, List.length_map, List.length_take]
      simp only [lits]
      omega
    · obtain ⟨b', off, e, hb', _⟩ := hrd.2 hn
      rw [e] at hb
      injection hb with hb
      rw [← hb]
      exact hb'
theorem int_field {H : Type} {enc : TypeId × Value → H} {w : World} {base m : Nat} {held : Bool} {v : Value} {y : DataW H × List MemPlace} {t : TypeId} {k : IntKind} (ht : Try.prog.underlying t = some (.int k)) (h : DataW.trod enc Try.prog w base (fun _ => true) held m t [v] = some y) :
    ∃ z : Int, v = .int k z ∧ (Lit.int k z).wf = true := by
  obtain ⟨z, hcs, hy, hw⟩ := DataW.trod_int ht h
  simp at hcs
  subst hcs
  exact ⟨z, rfl, hw⟩
end Go.Proofs.Ytgccbghaibddcaa
