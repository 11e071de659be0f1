/- More on families: a row of many slices appended to a row; one of a family turned; what Apart asks. How much the parts of a frame hold. -/
import Derived.Test.YtgccbghaibddcaaFamC
import Derived.Test.YtgccbghaibddcaaApart
import Derived.Test.YtgccbghaibddcaaKept
import Derived.BigFrame
namespace Go.Proofs.Ytgccbghaibddcaa
open Go Go.RowKit

/-- The append of what reads as these slices onto a row of slices of the call's own. -/
theorem wpList_appV {P : Program} (w : World) {ops : Array Oper} {rest : List Oper} {o : Oper} {a : Act} {Q : Exit → Act → World → Prop} (hgd : o.guard = none) (s x : Operand) (tt : TypeId)
    (ho : o.op = .call { callee := .builtin .append, args := #[s, x], argTypes := #[tt, tt] })
    (base : Nat) (t : TypeId) (z : Value) (by_ : Nat) (ht : P.underlying tt = some (.slice t)) (hi : (P.info? t).map (fun i => (i.zero, i.size, i.bytes)) = some (some z, 1, by_)) (hz1 : z.cells.size = 1)
    (A : Option Addr) (n c : Nat) (vs : List Value) (hs : a.eval s = .slice A n c) (hown : OwnV t w base A n c vs)
    (B : Option Addr) (m d : Nat) (ys : List Value) (hx : a.eval x = .slice B m d) (hr : RdV w B m ys) (h1 : ∀ u ∈ ys, u.oneCell' = true)
    (hn : n + m ≤ maxLen) (hby : (n + m) * by_ ≤ 140737488355328) (hbase : base ≤ w.heap.size)
    (h : ∀ A' c' w', OwnV t w' base A' (n + m) c' (vs ++ ys) → w.grownBy w' (blk A) → (blk A' = blk A ∨ blk A' = some w.heap.size) → wpList P ops Q rest (a.put o.dst (.slice A' (n + m) c')) w') :
    wpList P ops Q (o :: rest) a w := by
  obtain ⟨i, hi, hz, hsz, hby2⟩ := info_parts hi
  cases B with
  | none =>
    obtain ⟨rfl, rfl⟩ : m = 0 ∧ ys = [] := by
      rcases Nat.eq_zero_or_pos m with h0 | h0
      · exact ⟨h0, List.eq_nil_of_length_eq_zero (by rw [hr.1, h0])⟩
      · obtain ⟨_, _, e, _⟩ := hr.2 h0; cases e
    refine wpList_app_none hgd s x tt ho base t i 1 ht (by rw [hi]) (.slice A n c) n vs hs (by exact hown) d hx ?_
    exact h A c w (by simpa using hown) (World.grownBy.refl w _) (.inl rfl)
  | some ad =>
    have hnews : ∀ j u, ys[j]? = some u → w.cell? (ad.add j) = some u := fun j u hj => by
      have hm : 0 < m := by have := hr.1; have := (List.getElem?_eq_some_iff.1 hj).1; omega
      obtain ⟨b, off, e, _, hc⟩ := hr.2 hm
      injection e with e
      subst e
      rw [Addr.add_lit]
      exact hc j u hj
    refine wpList_append_own_at (w := w) hgd s x tt ho base t i z 1 by_ ht hi hz hsz hby2 hz1 (by decide) (.slice A n c) n vs hs hown ad m d ys hx (by rw [hr.1, Nat.mul_one]) hnews h1 hn hby hbase ?_
    intro v' w' k1 k2 _ k3
    rw [own_blk] at k2
    obtain ⟨A', c', rfl⟩ : ∃ A' c', v' = .slice A' (n + m) c' := by
      rcases k1.2 with ⟨h3, h4⟩ | ⟨g, cap, cur, h4, _⟩
      · exact ⟨none, 0, by rw [h3, h4]⟩
      · exact ⟨_, _, h4⟩
    rw [own_blk, own_blk] at k3
    exact h A' c' w' k1 k2 k3

section
variable {w w' : World} {base : Nat} {a b ps : List VB}
theorem Fam.turn {g N : Nat} {xs ys : List UInt8} (h : Fam w base (a ++ ((.slice (some ⟨g, 0, none⟩) N N, xs) :: b))) (ho : Own 5 w' base (some ⟨g, 0, none⟩) N N ys) (hg : w.grownBy w' (some g)) :
    Fam w' base (a ++ ((.slice (some ⟨g, 0, none⟩) N N, ys) :: b)) := by
  obtain ⟨h1, h2⟩ := h
  rw [List.pairwise_append, List.pairwise_cons] at h2
  obtain ⟨p1, ⟨p2, p3⟩, p4⟩ := h2
  have key : ∀ p, (p ∈ a ∨ p ∈ b) → ∃ A m c, p.1 = .slice A m c ∧ Own 5 w' base A m c p.2 := fun p hp => by
    obtain ⟨A, m, c, e, ho⟩ := h1 p (by rcases hp with hp | hp <;> simp [hp])
    refine ⟨A, m, c, e, ho.kept hg (fun k hk e2 => ?_)⟩
    injection e2 with e2
    subst e2
    rcases hp with hp | hp
    · exact p4 p hp _ (List.mem_cons_self ..) g (by rw [e, own_blk]; exact hk) rfl
    · exact p2 p hp g rfl (by rw [e, own_blk]; exact hk)
  refine ⟨fun p hp => ?_, ?_⟩
  · simp only [List.mem_append, List.mem_cons] at hp
    rcases hp with hp | rfl | hp
    · exact key p (.inl hp)
    · exact ⟨_, _, _, rfl, ho⟩
    · exact key p (.inr hp)
  · rw [List.pairwise_append, List.pairwise_cons]
    exact ⟨p1, ⟨fun q hq => p2 q hq, p3⟩, fun x hx y hy => by
      rcases List.mem_cons.1 hy with rfl | hy
      · exact fun k e1 e2 => p4 x hx _ (List.mem_cons_self ..) k e1 e2
      · exact p4 x hx y (List.mem_cons_of_mem _ hy)⟩
theorem Fam.pre (h : Fam w base ps) : Pre w base (ps.map (·.1)) (fun _ _ _ => True) := fun i v hv => by
  rw [List.getElem?_map] at hv
  cases hp : ps[i]? with
  | none => rw [hp] at hv; cases hv
  | some p =>
    rw [hp] at hv
    injection hv with hv
    subst hv
    obtain ⟨A, m, c, e, ho⟩ := h.1 p (List.mem_of_getElem? hp)
    exact ⟨A, m, c, p.2, e, ho, trivial⟩
theorem OffF.map {k : Nat} (h : OffF ps k) : ∀ (i : Nat) (v : Value), (ps.map (·.1))[i]? = some v → Value.ownBlock v ≠ some k := fun i v hv => by
  rw [List.getElem?_map] at hv
  cases hp : ps[i]? with
  | none => rw [hp] at hv; cases hv
  | some p =>
    rw [hp] at hv
    injection hv with hv
    subst hv
    exact h p (List.mem_of_getElem? hp)
end

end Go.Proofs.Ytgccbghaibddcaa
