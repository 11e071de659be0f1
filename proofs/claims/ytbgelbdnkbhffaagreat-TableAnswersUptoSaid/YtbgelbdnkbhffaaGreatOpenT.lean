/- From the rows' own words on a table's asks to the words of the walks. No condition. -/
import Derived.Test.YtbgelbdnkbhffaaGreatOpenG
namespace Go.Proofs.YtbgelbdnkbhffaaGreat
open Go Go.RowKit Go.Deep Go.ChangeShapes Go.WideShapes Go.ChangeAt

set_option maxRecDepth 100000 in
theorem asks10_of {H : Type} {enc : TypeId × Value → H} {w : World} {base fuel : Nat} {held : Bool} {A : Option Addr} {len cap : Nat} {x : DataW H × List MemPlace} (h : DataW.trod enc Tryz.prog w base (fun _ => true) held fuel 23 [.slice A len cap] = some x) :
    ∃ al : List AskP, RAk w A len al ∧ len ≤ cap ∧ totAk al ≤ Rows.uptoBulk x.1 := by
  have hone : oneCellFields Tryz.prog (match Tryz.prog.underlying 47 with | some (.struct fs) => fs | _ => #[]) = true := by kernel_rfl
  rcases open_slice Tryz.underlying23 h with ⟨hcs, hx⟩ | ⟨a, l, c, m, n, D, Pl, hcs, _, hl, hm, hmm, hx, hi⟩
  · simp at hcs
    obtain ⟨rfl, rfl, rfl⟩ := hcs
    exact ⟨[], ⟨rfl, fun h => absurd h (by omega)⟩, Nat.le_refl _, by simp [totAk]⟩
  · simp at hcs
    obtain ⟨rfl, rfl, rfl⟩ := hcs
    simp at hmm
    subst hmm
    rw [Tryz.underlying47] at hone
    have key : ∀ i, i < len → ∃ ac : AskP, (∃ v0 v1, w.cell? ((a.add (i * Tryz.prog.cellsOf 47)).add 0) = some v0 ∧ w.cell? ((a.add (i * Tryz.prog.cellsOf 47)).add 1) = some v1 ∧
        w.cell? ((a.add (i * Tryz.prog.cellsOf 47)).add 2) = some (.int .u64 (ac.at_ : Int)) ∧ ElB w v0 ac.key ∧ ElB w v1 ac.to ∧ U64 ac.at_) ∧ wAk ac + 1 ≤ Rows.uptoBulk (D i) := by
      intro i hil
      obtain ⟨cs', hc', ht'⟩ := hi i (by omega)
      obtain ⟨ys, k, hD, hyl, hf⟩ := fields_at Tryz.underlying47 hone (by kernel_rfl) hc' ht'
      obtain ⟨v0, y0, m0, g0, t0⟩ := hf 0 _ rfl
      obtain ⟨v1, y1, m1, g1, t1⟩ := hf 1 _ rfl
      obtain ⟨v2, y2, m2, g2, t2⟩ := hf 2 _ rfl
      obtain ⟨S, sn, sc, xs, rfl, r0, q0, p0, u0, _⟩ := bytes_field t0
      obtain ⟨K, kn, kc, ks, rfl, r1, q1, p1, u1, _⟩ := bytes_field t1
      obtain ⟨z2, rfl, w2⟩ := int_field Tryz.underlying45 t2
      obtain ⟨e2, b2⟩ := wf_u64 w2
      refine ⟨⟨xs, ks, z2.toNat⟩, ⟨_, _, m0, m1, by rw [← e2]; exact m2, ⟨S, sn, sc, rfl, r0, q0, p0⟩, ⟨K, kn, kc, rfl, r1, q1, p1⟩, b2⟩, ?_⟩
      have hys : ys = [y0, y1, y2] := by
        have h6 : ys.length = 3 := hyl
        match ys, h6, g0, g1, g2 with
        | [q0, q1, q2], _, g0, g1, g2 =>
          simp only [List.getElem?_cons_zero, List.getElem?_cons_succ, Option.some.injEq] at g0 g1 g2
          rw [g0, g1, g2]
      rw [hD, hys]
      simp only [List.map_cons, List.map_nil, Rows.uptoBulk, Rows.uptoBulkAll, wAk]
      omega
    obtain ⟨al, hal, hall⟩ := list_of len key
    refine ⟨al, ⟨hal, fun hn => ?_⟩, hl, ?_⟩
    · obtain ⟨b, off, spot⟩ := a
      obtain ⟨ac, ⟨v0, v1, m0, _⟩, _⟩ := key 0 hn
      have hspot : spot = none := by
        have := World.cell?_spot m0
        simpa [Addr.add] using this
      subst hspot
      have hc3 : Tryz.prog.cellsOf 47 = 3 := by kernel_rfl
      rw [addA, addA] at m0
      refine ⟨b, off, rfl, World.block_lt_of_cell? w _ m0, fun i a ha => ?_⟩
      obtain ⟨⟨v0, v1, q0, q1, q2, q3⟩, _⟩ := hall i a ha
      rw [addA, addA, hc3] at q0 q1 q2
      exact ⟨v0, v1, q0, q1, q2, q3⟩
    · have hb := totAk_bulk al D (fun i ac hi' => (hall i ac hi').2)
      rw [hal] at hb
      rw [hx]
      simp only [Rows.uptoBulk]
      omega
end Go.Proofs.YtbgelbdnkbhffaaGreat
