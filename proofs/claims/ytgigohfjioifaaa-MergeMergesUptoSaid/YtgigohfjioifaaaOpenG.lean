/- From the rows' own words on lists of lists of entries, and on asks, to the words of the walks. No condition. -/
import Derived.Test.YtgigohfjioifaaaOpenE
import Derived.Test.YtgigohfjioifaaaEnL
namespace Go.Proofs.Ytgigohfjioifaaa
open Go Go.RowKit Go.Deep Go.ChangeShapes Go.WideShapes Go.ChangeAt

theorem totLs_bulk {H : Type} : ∀ (al : List (List En)) (D : Nat → DataW H), (∀ i a, al[i]? = some a → totE a + 1 ≤ Rows.uptoBulk (D i) + 1) → (∀ i, 1 ≤ Rows.uptoBulk (D i)) → totLs al ≤ Rows.uptoBulkAll ((List.range al.length).map D) + al.length
  | [], D, _, _ => by simp [totLs]
  | a :: t, D, h, h0 => by
    have h1 := h 0 a rfl
    have h2 := totLs_bulk t (fun i => D (i + 1)) (fun i b hb => h (i + 1) b (by simpa using hb)) (fun i => h0 (i + 1))
    rw [List.length_cons, List.range_succ_eq_map, List.map_cons, List.map_map, totLs, Rows.uptoBulkAll]
    have e : (List.range t.length).map (D ∘ Nat.succ) = (List.range t.length).map (fun i => D (i + 1)) := rfl
    rw [e]
    omega
theorem bulkAll_len {H : Type} (D : Nat → DataW H) (n : Nat) : n ≤ Rows.uptoBulkAll ((List.range n).map D) := by
  have := length_le (H := H) ((List.range n).map D)
  simpa using this
set_option maxRecDepth 100000 in
theorem lists_of {H : Type} {enc : TypeId × Value → H} {w : World} {base fuel : Nat} {held : Bool} {A : Option Addr} {len cap : Nat} {x : DataW H × List MemPlace} (h : DataW.trod enc Try.prog w base (fun _ => true) held fuel 41 [.slice A len cap] = some x) :
    ∃ al : List (List En), RLs w A len al ∧ len ≤ cap ∧ totLs al ≤ 2 * Rows.uptoBulk x.1 := by
  rcases open_slice1 Try.underlying41 (by kernel_rfl) h with ⟨hcs, hx⟩ | ⟨a, l, c, m, n, V, D, Pl, hcs, _, hl, hm, hmm, hx, hi⟩
  · simp at hcs
    obtain ⟨rfl, rfl, rfl⟩ := hcs
    exact ⟨[], ⟨rfl, fun h => absurd h (by omega)⟩, Nat.le_refl _, by simp [totLs]⟩
  · simp at hcs
    obtain ⟨rfl, rfl, rfl⟩ := hcs
    simp at hmm
    subst hmm
    have key : ∀ i, i < len → ∃ es : List En, (∃ B m c, w.cell? (a.add i) = some (.slice B m c) ∧ REs w B m es ∧ m ≤ c) ∧ totE es ≤ Rows.uptoBulk (D i) := by
      intro i hil
      obtain ⟨hc, ht⟩ := hi i (by omega)
      have hsl : ∃ B m c, V i = .slice B m c := by
        rcases open_slice Try.underlying25 ht with ⟨hcs, _⟩ | ⟨a', l', c', _, _, _, _, hcs, _⟩
        · simp at hcs; exact ⟨_, _, _, hcs⟩
        · simp at hcs; exact ⟨_, _, _, hcs⟩
      obtain ⟨B, m, c, hV⟩ := hsl
      rw [hV] at hc ht
      obtain ⟨es, h1, h2, h3⟩ := ents_of ht
      exact ⟨es, ⟨B, m, c, hc, h1, h2⟩, h3⟩
    obtain ⟨al, hal, hall⟩ := list_of len key
    refine ⟨al, ⟨hal, fun hn => ?_⟩, hl, ?_⟩
    · obtain ⟨b, off, spot⟩ := a
      obtain ⟨es, ⟨B, m, c, m0, _⟩, _⟩ := key 0 hn
      have hspot : spot = none := by
        have := World.cell?_spot m0
        simpa [Addr.add] using this
      subst hspot
      rw [addA] at m0
      refine ⟨b, off, rfl, World.block_lt_of_cell? w _ m0, fun i es hes => ?_⟩
      obtain ⟨⟨B, m, c, h1, h2, h3⟩, _⟩ := hall i es hes
      rw [addA] at h1
      exact ⟨B, m, c, h1, h2, h3⟩
    · have hb := totLs_bulk al D (fun i es hes => by have := (hall i es hes).2; omega) (fun i => bulk_pos _)
      have hq := bulkAll_len D al.length
      rw [hal] at hb hq
      rw [hx]
      simp only [Rows.uptoBulk]
      omega
theorem totAk_bulk {H : Type} : ∀ (al : List AskP) (D : Nat → DataW H), (∀ i a, al[i]? = some a → wAk a + 1 ≤ Rows.uptoBulk (D i)) → totAk al ≤ Rows.uptoBulkAll ((List.range al.length).map D)
  | [], D, _ => by simp [totAk]
  | a :: t, D, h => by
    have h1 := h 0 a rfl
    have h2 := totAk_bulk t (fun i => D (i + 1)) (fun i b hb => h (i + 1) b (by simpa using hb))
    rw [List.length_cons, List.range_succ_eq_map, List.map_cons, List.map_map, totAk, Rows.uptoBulkAll]
    have e : (List.range t.length).map (D ∘ Nat.succ) = (List.range t.length).map (fun i => D (i + 1)) := rfl
    rw [e]
    omega
end Go.Proofs.Ytgigohfjioifaaa
