/- From the rows' own words on a list of entries that came in to the words of the walks. No condition. -/
import Derived.Test.YtlnpicfkcahdbaaGreatOpenF
import Derived.Test.YtlnpicfkcahdbaaGreatEnB
namespace Go.Proofs.YtlnpicfkcahdbaaGreat
open Go Go.RowKit Go.Deep Go.ChangeShapes Go.WideShapes Go.ChangeAt

theorem REs.of_at {w : World} {b : Nat} : ∀ (es : List En) (off : Nat), (∀ k e, es[k]? = some e → ∃ v0 v1 v2 v3, w.cell? ⟨b, off + k * 4, none⟩ = some v0 ∧ w.cell? ⟨b, off + k * 4 + 1, none⟩ = some v1 ∧ w.cell? ⟨b, off + k * 4 + 2, none⟩ = some v2 ∧ w.cell? ⟨b, off + k * 4 + 3, none⟩ = some v3 ∧ EV w e v0 v1 v2 v3) →
    ∃ vs, EVs w es vs ∧ ∀ (i : Nat) v, vs[i]? = some v → w.cell? ⟨b, off + i, none⟩ = some v
  | [], off, _ => ⟨[], rfl, fun i v h => by simp at h⟩
  | e :: es, off, h => by
    obtain ⟨v0, v1, v2, v3, c0, c1, c2, c3, hev⟩ := h 0 e rfl
    obtain ⟨vs, h1, h2⟩ := REs.of_at es (off + 4) (fun k x hk => by
      obtain ⟨u0, u1, u2, u3, d0, d1, d2, d3, hew⟩ := h (k + 1) x (by simpa using hk)
      have e0 : off + (k + 1) * 4 = off + 4 + k * 4 := by omega
      rw [e0] at d0 d1 d2 d3
      exact ⟨u0, u1, u2, u3, d0, d1, d2, d3, hew⟩)
    refine ⟨v0 :: v1 :: v2 :: v3 :: vs, ⟨v0, v1, v2, v3, vs, rfl, hev, h1⟩, fun i v hi => ?_⟩
    match i, hi with
    | 0, hi => simp at hi; subst hi; simpa using c0
    | 1, hi => simp at hi; subst hi; simpa using c1
    | 2, hi => simp at hi; subst hi; simpa using c2
    | 3, hi => simp at hi; subst hi; simpa using c3
    | i + 4, hi =>
      have := h2 i v (by simpa using hi)
      rw [show off + (i + 4) = off + 4 + i by omega]
      exact this
theorem totE_bulk {H : Type} : ∀ (al : List En) (D : Nat → DataW H), (∀ i a, al[i]? = some a → wE a + 1 ≤ Rows.uptoBulk (D i)) → totE al ≤ Rows.uptoBulkAll ((List.range al.length).map D)
  | [], D, _ => by simp [totE]
  | a :: t, D, h => by
    have h1 := h 0 a rfl
    have h2 := totE_bulk t (fun i => D (i + 1)) (fun i b hb => h (i + 1) b (by simpa using hb))
    rw [List.length_cons, List.range_succ_eq_map, List.map_cons, List.map_map, totE, Rows.uptoBulkAll]
    have e : (List.range t.length).map (D ∘ Nat.succ) = (List.range t.length).map (fun i => D (i + 1)) := rfl
    rw [e]
    omega
theorem wf_u64 {z : Int} (h : (Lit.int .u64 z).wf = true) : z = (z.toNat : Int) ∧ U64 z.toNat := by
  unfold U64
  simp [Lit.wf] at h
  have h1 : IntKind.u64.min = 0 := rfl
  have h2 : IntKind.u64.max = 18446744073709551615 := rfl
  omega
theorem wf_u8 {z : Int} (h : (Lit.int .u8 z).wf = true) : z = (z.toNat : Int) ∧ z.toNat < 256 := by
  simp [Lit.wf] at h
  have h1 : IntKind.u8.min = 0 := rfl
  have h2 : IntKind.u8.max = 255 := rfl
  omega
set_option maxRecDepth 100000 in
theorem ents_of {H : Type} {enc : TypeId × Value → H} {w : World} {base fuel : Nat} {held : Bool} {A : Option Addr} {len cap : Nat} {x : DataW H × List MemPlace} (h : DataW.trod enc Tryz.prog w base (fun _ => true) held fuel 22 [.slice A len cap] = some x) :
    ∃ al : List En, REs w A len al ∧ len ≤ cap ∧ totE al ≤ Rows.uptoBulk x.1 := by
  have hone : oneCellFields Tryz.prog (match Tryz.prog.underlying 31 with | some (.struct fs) => fs | _ => #[]) = true := by kernel_rfl
  rcases open_slice Tryz.underlying22 h with ⟨hcs, hx⟩ | ⟨a, l, c, m, n, D, Pl, hcs, _, hl, hm, hmm, hx, hi⟩
  · simp at hcs
    obtain ⟨rfl, rfl, rfl⟩ := hcs
    exact ⟨[], REs.nil _ _, Nat.le_refl _, by simp [totE]⟩
  · simp at hcs
    obtain ⟨rfl, rfl, rfl⟩ := hcs
    simp at hmm
    subst hmm
    rw [Tryz.underlying31] at hone
    have key : ∀ i, i < len → ∃ ac : En, (∃ v0 v1 v2 v3, w.cell? ((a.add (i * Tryz.prog.cellsOf 31)).add 0) = some v0 ∧ w.cell? ((a.add (i * Tryz.prog.cellsOf 31)).add 1) = some v1 ∧ w.cell? ((a.add (i * Tryz.prog.cellsOf 31)).add 2) = some v2 ∧
        w.cell? ((a.add (i * Tryz.prog.cellsOf 31)).add 3) = some v3 ∧ EV w ac v0 v1 v2 v3) ∧ wE ac + 1 ≤ Rows.uptoBulk (D i) := by
      intro i hil
      obtain ⟨cs', hc', ht'⟩ := hi i (by omega)
      obtain ⟨ys, k, hD, hyl, hf⟩ := fields_at Tryz.underlying31 hone (by kernel_rfl) hc' ht'
      obtain ⟨v0, y0, m0, g0, t0⟩ := hf 0 _ rfl
      obtain ⟨v1, y1, m1, g1, t1⟩ := hf 1 _ rfl
      obtain ⟨v2, y2, m2, g2, t2⟩ := hf 2 _ rfl
      obtain ⟨v3, y3, m3, g3, t3⟩ := hf 3 _ rfl
      obtain ⟨S, sn, sc, xs, rfl, r0, q0, p0, u0, _⟩ := bytes_field t0
      obtain ⟨z1, rfl, w1⟩ := int_field Tryz.underlying29 t1
      obtain ⟨z2, rfl, w2⟩ := int_field Tryz.underlying5 t2
      obtain ⟨K, kn, kc, ks, rfl, r3, q3, p3, u3, _⟩ := bytes_field t3
      obtain ⟨e1, b1⟩ := wf_u64 w1
      obtain ⟨e2, b2⟩ := wf_u8 w2
      refine ⟨⟨xs, z1.toNat, z2.toNat, ks⟩, ⟨_, _, _, _, m0, m1, m2, m3, by rw [← e1], by rw [← e2], b1, b2, ⟨S, sn, sc, rfl, r0, q0, p0⟩, ⟨K, kn, kc, rfl, r3, q3, p3⟩⟩, ?_⟩
      have hys : ys = [y0, y1, y2, y3] := by
        have h6 : ys.length = 4 := hyl
        match ys, h6, g0, g1, g2, g3 with
        | [q0, q1, q2, q3], _, g0, g1, g2, g3 =>
          simp only [List.getElem?_cons_zero, List.getElem?_cons_succ, Option.some.injEq] at g0 g1 g2 g3
          rw [g0, g1, g2, g3]
      rw [hD, hys]
      simp only [List.map_cons, List.map_nil, Rows.uptoBulk, Rows.uptoBulkAll, wE]
      omega
    obtain ⟨al, hal, hall⟩ := list_of len key
    refine ⟨al, ?_, hl, ?_⟩
    · by_cases hn : 0 < len
      · obtain ⟨b, off, spot⟩ := a
        obtain ⟨ac, ⟨v0, v1, v2, v3, m0, _⟩, _⟩ := key 0 hn
        have hspot : spot = none := by
          have := World.cell?_spot m0
          simpa [Addr.add] using this
        subst hspot
        have hc4 : Tryz.prog.cellsOf 31 = 4 := by kernel_rfl
        rw [addA, addA] at m0
        have hbl := World.block_lt_of_cell? w _ m0
        obtain ⟨vs, h1, h2⟩ := REs.of_at (w := w) (b := b) al off (fun k ac hk => by
          obtain ⟨⟨v0, v1, v2, v3, m0, m1, m2, m3, hav⟩, _⟩ := hall k ac hk
          rw [addA, addA, hc4] at m0 m1 m2 m3
          exact ⟨v0, v1, v2, v3, m0, m1, m2, m3, hav⟩)
        exact REs.mk h1 ⟨by rw [h1.len, hal], fun _ => ⟨b, off, rfl, hbl, h2⟩⟩ hal
      · have h0 : len = 0 := by omega
        subst h0
        obtain rfl : al = [] := List.length_eq_zero_iff.1 hal
        exact REs.nil _ _
    · have hb := totE_bulk al D (fun i ac hi' => (hall i ac hi').2)
      rw [hal] at hb
      rw [hx]
      simp only [Rows.uptoBulk]
      omega
end Go.Proofs.YtlnpicfkcahdbaaGreat
