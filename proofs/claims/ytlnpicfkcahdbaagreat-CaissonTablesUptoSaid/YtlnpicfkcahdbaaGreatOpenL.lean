/- From the rows' own words on a list of lists of bytes that came in to the words of the walks. No condition. -/
import Derived.Test.YtlnpicfkcahdbaaGreatOpen
import Derived.Test.YtlnpicfkcahdbaaGreatLists
import Derived.Test.YtlnpicfkcahdbaaGreatBulk
import Derived.Deep.Matrix
namespace Go.Proofs.YtlnpicfkcahdbaaGreat
open Go Go.RowKit Go.Deep Go.ChangeShapes Go.WideShapes Go.ChangeAt

/-- The lists that were read. -/
def listsOf (len : Nat) (L : Nat → Nat) (Z : Nat → List Int) : List (List UInt8) := (List.range len).map fun r => ((Z r).take (L r)).map fun z => bt z.toNat

theorem RdL.of_rows {w : World} {a : Addr} {len cap : Nat} {A : Nat → Option Addr} {L C : Nat → Nat} {Z : Nat → List Int} (hl : len ≤ cap)
    (h : ∀ r, r < cap → w.cell? (a.add r) = some (.slice (A r) (L r) (C r)) ∧ L r ≤ C r ∧ C r ≤ maxLen ∧ (Z r).length = C r ∧ (∀ n ∈ Z r, (Lit.int .u8 n).wf = true) ∧ (A r = none → C r = 0) ∧
        ∀ a', A r = some a' → 0 ≤ a'.block ∧ ∀ c, c < C r → w.cell? (a'.add c) = some (.int .u8 ((Z r).getD c 0))) :
    RdL w (some a) len (listsOf len L Z) := by
  refine ⟨by simp [listsOf], fun hn => ?_⟩
  obtain ⟨b, off, spot⟩ := a
  have hc := (h 0 (by omega)).1
  have hspot : spot = none := by simpa [Addr.add] using World.cell?_spot hc
  subst hspot
  refine ⟨b, off, rfl, World.block_lt_of_cell? w ⟨b, off, none⟩ (by simpa [Addr.add] using hc), fun i xs hx => ?_⟩
  unfold listsOf at hx
  rw [List.getElem?_map] at hx
  have hi : i < len := by
    rcases Nat.lt_or_ge i len with g | g
    · exact g
    · rw [List.getElem?_eq_none (by simpa using g)] at hx; cases hx
  rw [List.getElem?_range hi] at hx
  injection hx with hx
  subst hx
  obtain ⟨h1, h2, _, h4, h5, h6, h7⟩ := h i (by omega)
  have ea : (⟨b, off, none⟩ : Addr).add i = ⟨b, off + i, none⟩ := by
    unfold Addr.add
    split
    · next h0 => subst h0; rfl
    · rfl
  rw [ea] at h1
  refine ⟨_, h1, A i, L i, C i, rfl, ?_, h2, h6⟩
  cases hA : A i with
  | none =>
    have h8 := h6 hA
    have h9 : L i = 0 := by omega
    show Rd w none (L i) (((Z i).take (L i)).map fun z => bt z.toNat)
    rw [h9]
    exact Rd.nil _ _
  | some a' => exact Rd.of_ints h2 h4 (fun c hc' => (h7 a' hA).2 c (by omega)) h5

theorem tot_bulk {H : Type} (f : Nat → List UInt8) (g : Nat → DataW H) : ∀ l : List Nat, (∀ r ∈ l, (f r).length + 1 ≤ Rows.uptoBulk (g r)) → tot (l.map f) ≤ Rows.uptoBulkAll (l.map g)
  | [], _ => by simp [tot]
  | x :: l, h => by
    have h1 := h x (by simp)
    have h2 := tot_bulk f g l (fun r hr => h r (by simp [hr]))
    simp only [List.map_cons, tot, Rows.uptoBulkAll]
    omega

theorem row_bulk {H : Type} (A : Option Addr) (L : Nat) (Z : List Int) (hL : L ≤ Z.length) (hA : A = none → L = 0) : ((Z.take L).map fun z => bt z.toNat).length + 1 ≤ Rows.uptoBulk (intRow (H := H) .u8 A L Z) := by
  rw [List.length_map, List.length_take, Nat.min_eq_left hL]
  cases A with
  | none =>
    rw [hA rfl]
    exact bulk_pos _
  | some a =>
    simp only [intRow, Rows.uptoBulk]
    have h := length_le (lits (H := H) .u8 (Z.take L))
    simp only [lits, List.length_map, List.length_take] at h
    have h2 : L ≤ Rows.uptoBulkAll (lits (H := H) .u8 (Z.take L)) := by
      simp only [lits]
      omega
    omega

end Go.Proofs.YtlnpicfkcahdbaaGreat
