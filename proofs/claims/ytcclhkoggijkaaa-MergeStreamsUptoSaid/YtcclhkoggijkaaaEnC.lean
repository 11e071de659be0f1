/- Entries that the call has made: a row of them, appended onto one by one; Twins. No condition but sizes. -/
import Derived.Test.YtcclhkoggijkaaaEnB
import Derived.Test.YtcclhkoggijkaaaFam
import Derived.Test.YtcclhkoggijkaaaPool
namespace Go.Proofs.Ytcclhkoggijkaaa
open Go Go.RowKit

/-- 'These four values are the entry e, whose bytes are the call's own.' -/
def EO (base : Nat) (w : World) (e : En) (v0 v1 v2 v3 : Value) : Prop :=
  ∃ K kn kc V vn vc, v0 = .slice K kn kc ∧ v1 = .int .u64 (e.seq : Int) ∧ v2 = .int .u8 (e.kind : Int) ∧ v3 = .slice V vn vc ∧ Own 5 w base K kn kc e.key ∧ Own 5 w base V vn vc e.val ∧ U64 e.seq ∧ e.kind < 256
def EOs (base : Nat) (w : World) : List En → List Value → Prop
  | [], vs => vs = []
  | e :: es, vs => ∃ v0 v1 v2 v3 r, vs = v0 :: v1 :: v2 :: v3 :: r ∧ EO base w e v0 v1 v2 v3 ∧ EOs base w es r
/-- 'None of these slices lies in that block.' -/
def OffW (vs : List Value) (b : Option Nat) : Prop := ∀ g, b = some g → ∀ A m c, Value.slice A m c ∈ vs → blk A ≠ some g
theorem OffW.app {a b : List Value} {o : Option Nat} (h1 : OffW a o) (h2 : OffW b o) : OffW (a ++ b) o := fun g hg A m c hv => by
  rcases List.mem_append.1 hv with h | h
  · exact h1 g hg A m c h
  · exact h2 g hg A m c h
theorem OffW.none (vs : List Value) : OffW vs none := fun g hg => by cases hg
theorem OffW.nil (o : Option Nat) : OffW [] o := fun g _ A m c h => by cases h
section
variable {base : Nat} {w w' : World} {e : En} {es : List En} {v0 v1 v2 v3 : Value} {vs : List Value}
theorem elb_own {n c : Nat} {A : Option Addr} {xs : List UInt8} (h : Own 5 w base A n c xs) : ElB w (.slice A n c) xs :=
  ⟨A, n, c, rfl, h.rd, h.cap.1, fun hA => (h.nil_of (by rw [hA]; rfl)).2.2⟩
theorem EO.ev (h : EO base w e v0 v1 v2 v3) : EV w e v0 v1 v2 v3 := by
  obtain ⟨K, kn, kc, V, vn, vc, rfl, rfl, rfl, rfl, h1, h2, h3, h4⟩ := h
  exact ⟨rfl, rfl, h3, h4, elb_own h1, elb_own h2⟩
theorem EO.below (h : EO base w e v0 v1 v2 v3) (hb : Below w.heap.size w w') : EO base w' e v0 v1 v2 v3 := by
  obtain ⟨K, kn, kc, V, vn, vc, h0, h1, h2, h3, h4, h5, h6⟩ := h
  exact ⟨K, kn, kc, V, vn, vc, h0, h1, h2, h3, h4.below hb, h5.below hb, h6⟩
theorem EO.mono {base' : Nat} (h : EO base w e v0 v1 v2 v3) (hb : base' ≤ base) : EO base' w e v0 v1 v2 v3 := by
  obtain ⟨K, kn, kc, V, vn, vc, h0, h1, h2, h3, h4, h5, h6⟩ := h
  exact ⟨K, kn, kc, V, vn, vc, h0, h1, h2, h3, h4.mono hb, h5.mono hb, h6⟩
theorem EO.kept {row : Option Nat} (h : EO base w e v0 v1 v2 v3) (hg : w.grownBy w' row) (ho : OffW [v0, v1, v2, v3] row) : EO base w' e v0 v1 v2 v3 := by
  obtain ⟨K, kn, kc, V, vn, vc, rfl, rfl, rfl, rfl, h4, h5, h6⟩ := h
  exact ⟨K, kn, kc, V, vn, vc, rfl, rfl, rfl, rfl, h4.kept hg (fun b hb he => ho b he K kn kc (by simp) hb), h5.kept hg (fun b hb he => ho b he V vn vc (by simp) hb), h6⟩
/-- The blocks of an entry's slices. -/
theorem EO.lt (h : EO base w e v0 v1 v2 v3) {A : Option Addr} {m c g : Nat} (hv : Value.slice A m c ∈ [v0, v1, v2, v3]) (hg : blk A = some g) : base ≤ g ∧ g < w.heap.size := by
  obtain ⟨K, kn, kc, V, vn, vc, rfl, rfl, rfl, rfl, h4, h5, h6⟩ := h
  simp only [List.mem_cons, List.not_mem_nil, or_false] at hv
  rcases hv with e | e | e | e
  · injection e with e1 e2 e3; subst e1; exact h4.lt g hg
  · cases e
  · cases e
  · injection e with e1 e2 e3; subst e1; exact h5.lt g hg
theorem EO.off (h : EO base w e v0 v1 v2 v3) {o : Option Nat} (ho : ∀ g, o = some g → g < base ∨ w.heap.size ≤ g) : OffW [v0, v1, v2, v3] o := fun g hg A m c hv he => by
  have h1 := h.lt hv he
  rcases ho g hg with h2 | h2 <;> omega
theorem EOs.evs : ∀ {es : List En} {vs : List Value}, EOs base w es vs → EVs w es vs
  | [], _, h => h
  | _ :: _, _, ⟨v0, v1, v2, v3, r, e, h1, h2⟩ => ⟨v0, v1, v2, v3, r, e, h1.ev, EOs.evs h2⟩
theorem EOs.below (hb : Below w.heap.size w w') : ∀ {es : List En} {vs : List Value}, EOs base w es vs → EOs base w' es vs
  | [], _, h => h
  | _ :: _, _, ⟨v0, v1, v2, v3, r, e, h1, h2⟩ => ⟨v0, v1, v2, v3, r, e, h1.below hb, EOs.below hb h2⟩
theorem EOs.mono {base' : Nat} (hb : base' ≤ base) : ∀ {es : List En} {vs : List Value}, EOs base w es vs → EOs base' w es vs
  | [], _, h => h
  | _ :: _, _, ⟨v0, v1, v2, v3, r, e, h1, h2⟩ => ⟨v0, v1, v2, v3, r, e, h1.mono hb, EOs.mono hb h2⟩
theorem EOs.app : ∀ {es gs : List En} {vs us : List Value}, EOs base w es vs → EOs base w gs us → EOs base w (es ++ gs) (vs ++ us)
  | [], _, _, _, h, h2 => by rw [h]; exact h2
  | _ :: _, _, _, _, ⟨v0, v1, v2, v3, r, e, h1, h2⟩, h3 => ⟨v0, v1, v2, v3, _, by rw [e]; rfl, h1, EOs.app h2 h3⟩
theorem EOs.one (h : EO base w e v0 v1 v2 v3) : EOs base w [e] [v0, v1, v2, v3] := ⟨v0, v1, v2, v3, [], rfl, h, rfl⟩
theorem EOs.kept {row : Option Nat} (hg : w.grownBy w' row) : ∀ {es : List En} {vs : List Value}, EOs base w es vs → OffW vs row → EOs base w' es vs
  | [], _, h, _ => h
  | _ :: _, _, ⟨v0, v1, v2, v3, r, e, h1, h2⟩, ho => ⟨v0, v1, v2, v3, r, e, h1.kept hg (fun g hg2 A m c hv => ho g hg2 A m c (by rw [e]; simp at hv ⊢; rcases hv with h | h | h | h <;> simp [h])), EOs.kept hg h2 (fun g hg2 A m c hv => ho g hg2 A m c (by rw [e]; simp [hv]))⟩
theorem EOs.lt : ∀ {es : List En} {vs : List Value}, EOs base w es vs → ∀ {A : Option Addr} {m c g : Nat}, Value.slice A m c ∈ vs → blk A = some g → base ≤ g ∧ g < w.heap.size
  | [], _, h, _, _, _, _, hv, _ => by rw [h] at hv; cases hv
  | _ :: _, _, ⟨v0, v1, v2, v3, r, e, h1, h2⟩, A, m, c, g, hv, hg => by
    rw [e] at hv
    have hv2 : Value.slice A m c ∈ [v0, v1, v2, v3] ∨ Value.slice A m c ∈ r := by
      simp only [List.mem_cons, List.not_mem_nil, or_false] at hv ⊢
      rcases hv with h | h | h | h | h
      · exact .inl (.inl h)
      · exact .inl (.inr (.inl h))
      · exact .inl (.inr (.inr (.inl h)))
      · exact .inl (.inr (.inr (.inr h)))
      · exact .inr h
    rcases hv2 with h | h
    · exact h1.lt h hg
    · exact EOs.lt h2 h hg
end
/-- 'A row of entries of the call's own.' -/
def OwnE (w : World) (base : Nat) (A : Option Addr) (n c : Nat) (vs : List Value) : Prop := w.ownsRow base 37 4 (.slice A n c) n vs
section
variable {w w' : World} {base n c : Nat} {A : Option Addr} {vs : List Value}
theorem OwnE.rd (h : OwnE w base A n c vs) : RdV w A (n * 4) vs := by
  refine ⟨by have := h.1; simpa [Nat.mul_comm] using this, fun hn => ?_⟩
  rcases h.2 with ⟨_, h2⟩ | ⟨g, cap, cur, h1, _, hg, _⟩
  · omega
  · injection h1 with h1
    subst h1
    refine ⟨g, 0, rfl, (Array.getElem?_eq_some_iff.1 hg).1, fun i x hx => ?_⟩
    have := World.ownsRow.cells h (g := g) rfl i _ hx
    simpa [Addr.add_lit] using this
theorem OwnE.cap (h : OwnE w base A n c vs) : n ≤ c ∧ c ≤ maxLen := by
  rcases h.2 with ⟨h1, h2⟩ | ⟨g, cap, cur, h1, _, _, h2, h3, _⟩
  · injection h1 with h1 h2 h3
    subst h2 h3
    unfold maxLen
    omega
  · injection h1 with _ _ h4
    subst h4
    exact ⟨h2, h3⟩
theorem OwnE.lt (h : OwnE w base A n c vs) (b : Nat) (hb : blk A = some b) : base ≤ b ∧ b < w.heap.size := World.ownsRow.lt h b (by rw [own_blk]; exact hb)
theorem OwnE.zero (w : World) : OwnE (w.alloc (.cells #[] 37)) w.heap.size (some ⟨w.heap.size, 0, none⟩) 0 0 [] :=
  ⟨rfl, .inr ⟨w.heap.size, 0, #[], rfl, Nat.le_refl _, heap_alloc_new w _, Nat.le_refl _, by unfold maxLen; omega, rfl, rfl⟩⟩
theorem OwnE.nil (w : World) (base : Nat) : OwnE w base none 0 0 [] := World.ownsRow_nil _ _ _ _
theorem OwnE.below (h : OwnE w base A n c vs) (hb : Below w.heap.size w w') : OwnE w' base A n c vs := by
  refine ⟨h.1, ?_⟩
  rcases h.2 with h1 | ⟨g, cap, cur, h1, h2, h3, h4⟩
  · exact .inl h1
  · exact .inr ⟨g, cap, cur, h1, h2, (hb.block g (Array.getElem?_eq_some_iff.1 h3).1).trans h3, h4⟩
theorem OwnE.nil_of (h : OwnE w base A n c vs) (hA : A = none) : c = 0 := by
  subst hA
  rcases h.2 with ⟨h1, _⟩ | ⟨g, cap, cur, h1, _⟩
  · injection h1
  · injection h1 with h1; cases h1
end
theorem info_ent : (Try.prog.info? 37).map (fun i => (i.zero, i.size, i.bytes)) = some (some (.agg #[.slice none 0 0, .int .u64 0, .int .u8 0, .slice none 0 0]), 4, 64) := by kernel_rfl
/-- Entries that are read, appended onto a row of the call's own. -/
theorem wpList_app4 {P : Program} (w : World) {ops : Array Oper} {rest : List Oper} {o : Oper} {a : Act} {Q : Exit → Act → World → Prop} (hgd : o.guard = none) (s x : Operand) (tt : TypeId)
    (ho : o.op = .call { callee := .builtin .append, args := #[s, x], argTypes := #[tt, tt] })
    (base : Nat) (z : Value) (by_ : Nat) (ht : P.underlying tt = some (.slice 37)) (hi : (P.info? 37).map (fun i => (i.zero, i.size, i.bytes)) = some (some z, 4, by_)) (hz1 : z.cells.size = 4)
    (A : Option Addr) (n c : Nat) (vs : List Value) (hs : a.eval s = .slice A n c) (hown : OwnE w base A n c vs)
    (B : Option Addr) (m d : Nat) (us : List Value) (hx : a.eval x = .slice B m d) (hr : RdV w B (m * 4) us) (hone : ∀ u ∈ us, u.oneCell' = true)
    (hn : n + m ≤ 2199023255552) (hby : by_ ≤ 64 := by omega) (hbase : base ≤ w.heap.size)
    (h : ∀ A' c' w', OwnE w' base A' (n + m) c' (vs ++ us) → w.grownBy w' (blk A) → Below base w w' → wpList P ops Q rest (a.put o.dst (.slice A' (n + m) c')) w') : wpList P ops Q (o :: rest) a w := by
  obtain ⟨i, hi, hz, hsz, hby2⟩ := info_parts hi
  have go : ∀ v' w', w'.ownsRow base 37 4 v' (n + m) (vs ++ us) → w.grownBy w' (Value.ownBlock (.slice A n c)) → wpList P ops Q rest (a.put o.dst v') w' := by
    intro v' w' h1 h2
    obtain ⟨A', c', rfl⟩ : ∃ A' c', v' = .slice A' (n + m) c' := by
      rcases h1.2 with ⟨h3, h4⟩ | ⟨g, cap, cur, h3, _⟩
      · exact ⟨none, 0, by rw [h3, h4]⟩
      · exact ⟨_, _, h3⟩
    exact h A' c' w' h1 (by rw [own_blk] at h2; exact h2) ((Below.refl _ _).grown h2 hbase (fun k hk => (World.ownsRow.lt hown k hk).1))
  rcases Nat.eq_zero_or_pos m with hm | hm
  · subst hm
    have hy : us = [] := List.eq_nil_of_length_eq_zero (by rw [hr.1])
    subst hy
    rcases B with _ | ad
    · exact wpList_app_none hgd s x tt ho base 37 i 4 ht hi (.slice A n c) n vs hs hown d hx (by simpa [OwnE] using go (.slice A n c) w (by simpa [OwnE] using hown) (World.grownBy.refl w _))
    · refine wpList_append_own w hgd s x tt ho base 37 i z 4 by_ ht hi hz hsz hby2 hz1 (by decide) (.slice A n c) n vs hs hown ad 0 d [] hx rfl (by simp) (by simp) (by unfold maxLen; omega) (Nat.le_trans (Nat.mul_le_mul_left _ hby) (by omega)) hbase ?_
      intro v' w' h1 h2 _
      exact go v' w' (by simpa using h1) h2
  · obtain ⟨b, off, rfl, _, hc⟩ := hr.2 (by omega)
    refine wpList_append_own w hgd s x tt ho base 37 i z 4 by_ ht hi hz hsz hby2 hz1 (by decide) (.slice A n c) n vs hs hown ⟨b, off, none⟩ m d us hx hr.1 (fun j u hj => by rw [Addr.add_lit]; exact hc j u hj) hone (by unfold maxLen; omega) (Nat.le_trans (Nat.mul_le_mul_left _ hby) (by omega)) hbase ?_
    intro v' w' h1 h2 _
    exact go v' w' h1 h2
/-- One entry more, out of a box of its own, appended onto a row of entries; whether the row stayed. -/
theorem wpList_app4t {P : Program} (w : World) {ops : Array Oper} {rest : List Oper} {o : Oper} {a : Act} {Q : Exit → Act → World → Prop} (hgd : o.guard = none) (s x : Operand) (tt : TypeId)
    (ho : o.op = .call { callee := .builtin .append, args := #[s, x], argTypes := #[tt, tt] })
    (base : Nat) (z : Value) (by_ : Nat) (ht : P.underlying tt = some (.slice 37)) (hi : (P.info? 37).map (fun i => (i.zero, i.size, i.bytes)) = some (some z, 4, by_)) (hz1 : z.cells.size = 4)
    (A : Option Addr) (n c : Nat) (vs : List Value) (hs : a.eval s = .slice A n c) (hown : OwnE w base A n c vs)
    (v0 v1 v2 v3 : Value) (hone : ∀ u ∈ [v0, v1, v2, v3], u.oneCell' = true) (g : Nat) (hg : g = w.heap.size) (hx : a.eval x = .slice (some ⟨g, 0, none⟩) 1 1)
    (hn : n ≤ 1099511627776) (hby : by_ ≤ 64 := by omega) (hbase : base ≤ w.heap.size)
    (h : ∀ A' c' w', OwnE w' base A' (n + 1) c' (vs ++ [v0, v1, v2, v3]) → w.grownBy w' (blk A) → (blk A' = blk A ∨ blk A' = some (w.heap.size + 1)) → wpList P ops Q rest (a.put o.dst (.slice A' (n + 1) c')) w') :
    wpList P ops Q (o :: rest) a (w.alloc (.cells #[v0, v1, v2, v3] 37)) := by
  subst hg
  obtain ⟨i, hi, hz, hsz, hby2⟩ := info_parts hi
  refine wpList_append_own_at (w := w.alloc (.cells #[v0, v1, v2, v3] 37)) hgd s x tt ho base 37 i z 4 by_ ht hi hz hsz hby2 hz1 (by decide) (.slice A n c) n vs hs (hown.below ((Below.refl _ _).alloc (Nat.le_refl _) _)) ⟨w.heap.size, 0, none⟩ 1 1 [v0, v1, v2, v3] hx rfl
    (fun j u hj => by rw [Addr.add_lit, (Cl.new w #[v0, v1, v2, v3] 37).cell (0 + j), Nat.zero_add]; simpa using hj) hone (by unfold maxLen; omega) (Nat.le_trans (Nat.mul_le_mul_left _ hby) (by omega)) (by simp; omega) ?_
  intro v' w' k1 k2 _ k3
  obtain ⟨A', c', rfl⟩ : ∃ A' c', v' = .slice A' (n + 1) c' := by
    rcases k1.2 with ⟨_, h4⟩ | ⟨g, cap, cur, h4, _⟩
    · omega
    · exact ⟨_, _, h4⟩
  rw [own_blk, own_blk] at k3
  rw [own_blk] at k2
  exact h A' c' w' k1 ((World.grownBy_alloc w _ _).trans k2) (by simpa using k3)

/-- The slices of entries, with what they hold. -/
def pairE : List En → List Value → List VB
  | e :: es, v0 :: _ :: _ :: v3 :: r => (v0, e.key) :: (v3, e.val) :: pairE es r
  | _, _ => []
theorem pairE_app {base : Nat} {w : World} {gs : List En} {us : List Value} : ∀ {es : List En} {vs : List Value}, EOs base w es vs → pairE (es ++ gs) (vs ++ us) = pairE es vs ++ pairE gs us
  | [], vs, h => by rw [h]; rfl
  | e :: es, vs, ⟨v0, v1, v2, v3, r, q, h1, h2⟩ => by
    rw [q]
    simp only [List.cons_append, pairE]
    rw [pairE_app h2]
theorem pairE_mem : ∀ {es : List En} {vs : List Value} {p : VB}, p ∈ pairE es vs → p.1 ∈ vs
  | e :: es, v0 :: v1 :: v2 :: v3 :: r, p, h => by
    unfold pairE at h
    simp only [List.mem_cons] at h ⊢
    rcases h with rfl | rfl | h
    · exact .inl rfl
    · exact .inr (.inr (.inr (.inl rfl)))
    · exact .inr (.inr (.inr (.inr (pairE_mem h))))
theorem fam_two {w : World} {base kn kc vn vc : Nat} {K V : Option Addr} {xs ys : List UInt8} (o1 : Own 5 w base K kn kc xs) (o2 : Own 5 w base V vn vc ys) (dj : Dj K V) : Fam w base [(.slice K kn kc, xs), (.slice V vn vc, ys)] := by
  refine ⟨fun p hp => ?_, List.pairwise_cons.2 ⟨fun q hq => ?_, List.pairwise_singleton _ _⟩⟩
  · simp only [List.mem_cons, List.not_mem_nil, or_false] at hp
    rcases hp with rfl | rfl
    · exact ⟨K, kn, kc, rfl, o1⟩
    · exact ⟨V, vn, vc, rfl, o2⟩
  · simp only [List.mem_singleton] at hq
    subst hq
    intro b h1 h2
    rw [own_blk] at h1 h2
    exact dj b h1 h2
/-- 'A row of entries that the call has made, their bytes its own; no two slices share memory.' -/
def RowE (W : World) (base : Nat) (L : Option Addr) (i d : Nat) (es : List En) (wr : World) : Prop :=
  ∃ vs, OwnE wr base L i d vs ∧ EOs base wr es vs ∧ OffW vs (blk L) ∧ es.length = i ∧ Below base W wr ∧ base ≤ wr.heap.size ∧ Fam wr base (pairE es vs)
section
variable {W wr w4 U : World} {base i d d' : Nat} {L L' : Option Addr} {es : List En} {e : En} {v0 v1 v2 v3 : Value} {vs : List Value}
theorem RowE.zero (W : World) (base : Nat) (hb : base ≤ W.heap.size) : RowE W base none 0 0 [] W := ⟨[], OwnE.nil _ _, rfl, OffW.nil _, rfl, Below.refl _ _, hb, Fam.nil _ _⟩
theorem RowE.below {w' : World} (h : RowE W base L i d es wr) (hb : Below wr.heap.size wr w') : RowE W base L i d es w' := by
  obtain ⟨vs, h1, h2, h3, h4, h5, h6, h7⟩ := h
  exact ⟨vs, h1.below hb, h2.below hb, h3, h4, h5.trans (hb.mono h6), Nat.le_trans h6 hb.size, h7.below hb⟩
theorem RowE.rd (h : RowE W base L i d es wr) : REs wr L i es := by
  obtain ⟨vs, h1, h2, h3, h4, h5⟩ := h
  exact REs.mk h2.evs h1.rd h4
theorem RowE.bel (h : RowE W base L i d es wr) : Below base W wr := by obtain ⟨vs, h1, h2, h3, h4, h5, h6, h7⟩ := h; exact h5
theorem RowE.size (h : RowE W base L i d es wr) : base ≤ wr.heap.size := by obtain ⟨vs, h1, h2, h3, h4, h5, h6, h7⟩ := h; exact h6
theorem RowE.cap (h : RowE W base L i d es wr) : i ≤ d ∧ d ≤ maxLen := by obtain ⟨vs, h1, _⟩ := h; exact h1.cap
theorem RowE.len (h : RowE W base L i d es wr) : es.length = i := by obtain ⟨vs, h1, h2, h3, h4, h5⟩ := h; exact h4
theorem RowE.lt (h : RowE W base L i d es wr) (b : Nat) (hb : blk L = some b) : base ≤ b ∧ b < wr.heap.size := by obtain ⟨vs, h1, _⟩ := h; exact h1.lt b hb
/-- One more. -/
theorem rowE_snoc (h1 : OwnE wr base L i d vs) (h2 : EOs base wr es vs) (h3 : OffW vs (blk L)) (hl : es.length = i) (hw : Below base W wr) (hs : base ≤ wr.heap.size) (h7 : Fam wr base (pairE es vs))
    (hU : Below wr.heap.size wr U) (hf : EO base U e v0 v1 v2 v3) (ho : OffW [v0, v1, v2, v3] (blk L)) (hfm : Fam U wr.heap.size [(v0, e.key), (v3, e.val)])
    (h4 : OwnE w4 base L' (i + 1) d' (vs ++ [v0, v1, v2, v3])) (hg : U.grownBy w4 (blk L)) (hb : blk L' = blk L ∨ blk L' = some (U.heap.size + 1)) : RowE W base L' (i + 1) d' (es ++ [e]) w4 := by
  have hus := hU.size
  have hgs := hg.size
  refine ⟨vs ++ [v0, v1, v2, v3], h4, (EOs.kept hg (h2.below hU) h3).app (EOs.one (hf.kept hg ho)), ?_, by simp [hl], (hw.trans (hU.mono hs)).grown hg (by omega) (fun k hk => (h1.lt k hk).1), by omega, ?_⟩
  · rcases hb with e | e
    · rw [e]
      exact h3.app ho
    · rw [e]
      intro g hg2 B m c hv2 hv3
      injection hg2 with hg2
      rcases List.mem_append.1 hv2 with hq | hq
      · have := EOs.lt h2 hq hv3
        omega
      · have := hf.lt hq hv3
        omega
  · rw [pairE_app h2]
    have k1 : Fam wr base (pairE es vs ++ []) := by rw [List.append_nil]; exact h7
    have k2 := Fam.ins k1 hfm hU (Nat.le_refl _) hs
    rw [List.append_nil] at k2
    refine k2.kept hg (fun b e p hp e2 => ?_)
    obtain ⟨A, m, c, q, _⟩ := k2.1 p hp
    have hm : Value.slice A m c ∈ vs ++ [v0, v1, v2, v3] := by
      rw [← q]
      rcases List.mem_append.1 hp with h | h
      · exact List.mem_append_left _ (pairE_mem h)
      · refine List.mem_append_right _ ?_
        simp only [List.mem_cons, List.not_mem_nil, or_false] at h
        rcases h with rfl | rfl
        · simp
        · simp
    rw [q, own_blk] at e2
    exact (h3.app ho) b e A m c hm e2
end
/-- What a list of entries that is made comes to. -/
def RetRow (w : World) (es : List En) (e : Ending) (w' : World) : Prop := ∃ L n c, e = .returned (.slice L n c) ∧ RowE w w.heap.size L n c es w'
section
variable {w : World} {A : Option Addr} {n c : Nat} {es : List En}
set_option maxRecDepth 100000 in
set_option maxHeartbeats 4000000 in
theorem Twins_any (h : REs w A n es) (hn : n ≤ 1099511627776) (hs : ∀ x ∈ es, SzE x) : Calls Try.prog 12 #[.slice A n c] w (RetRow w es) := by
  have HL := Lib.hid h.len
  have HS := Lib.hid hs
  clear hs
  go_enter Try.func12, Try.ntmps12
  go_wp2
  go_loopw [3, 4] (fun s3 s4 wr => ∃ (k d : Nat) (L : Option Addr), k ≤ n ∧ s4 = .int .i64 (k : Int) ∧ s3 = .slice L k d ∧ RowE w w.heap.size L k d (es.take k) wr) (fun _ s _ => n - (intOf s).toNat)
  case atStart => exact ⟨0, 0, none, Nat.zero_le _, rfl, rfl, RowE.zero _ _ (Nat.le_refl _)⟩
  case round =>
    obtain ⟨k, d, L, hk, rfl, rfl, hrow⟩ := hrel
    have HR := Lib.hid hrow
    have sw := hrow.size
    have hR : REs wr A n es := h.below hrow.bel
    clear hrow
    by_cases hlt : k < n
    · obtain ⟨b, off, rfl, hbl⟩ := hR.pos (by omega)
      obtain ⟨x, v0, v1, v2, v3, hx, m0, m1, m2, m3, hev⟩ := hR.at_ k hlt
      have HEV := Lib.hid hev
      have hsx := HS.out x (List.mem_of_getElem? hx)
      have hwf := hR.wf x (List.mem_of_getElem? hx)
      obtain ⟨K, kn, kc, V, vn, vc, rfl, rfl, rfl, rfl, _⟩ := hev.parts
      have HXK := Lib.hid hx
      clear hx hev hR
      go_wp2_with fail
      refine (Twin_any HEV.out hsx).mono ?_
      rintro e w2 ⟨K2, kn2, kc2, V2, vn2, vc2, rfl, o1, o2, b2, dj⟩
      obtain ⟨vs, q1, q2, q3, q4, q5, q6, q7⟩ := HR.out
      have HFM := Lib.hid (fam_two o1 o2 dj)
      have Q7 := Lib.hid q7
      have s2 := b2.size
      have HEO : Hid (EO w.heap.size w2 x (.slice K2 kn2 kc2) (.int .u64 (x.seq : Int)) (.int .u8 (x.kind : Int)) (.slice V2 vn2 vc2)) := Lib.hid ⟨K2, kn2, kc2, V2, vn2, vc2, rfl, rfl, rfl, rfl, o1.mono q6, o2.mono q6, hwf⟩
      have HOF : Hid (OffW [.slice K2 kn2 kc2, .int .u64 (x.seq : Int), .int .u8 (x.kind : Int), .slice V2 vn2 vc2] (blk L)) := Lib.hid (EO.off (base := wr.heap.size) (w := w2) (e := x) ⟨K2, kn2, kc2, V2, vn2, vc2, rfl, rfl, rfl, rfl, o1, o2, hwf⟩ (fun g hg => .inl (q1.lt g hg).2))
      have HB2 := Lib.hid b2
      have Q1 := Lib.hid q1
      have Q2 := Lib.hid q2
      have Q3 := Lib.hid q3
      have Q4 := Lib.hid q4
      have Q5 := Lib.hid q5
      have hcell : ∀ u ∈ [Value.slice K2 kn2 kc2, .int .u64 (x.seq : Int), .int .u8 (x.kind : Int), .slice V2 vn2 vc2], u.oneCell' = true := HEO.out.ev.cells
      have HCL := Lib.hid hcell
      clear o1 o2 b2 q1 q2 q3 q4 q5 q7 dj hcell m0 m1 m2 m3
      go_wp2_with (at_builtin; refine wpList_app4t w2 rfl _ _ 22 rfl w.heap.size _ 64 Try.underlying22 info_ent rfl L k d vs rfl (Q1.out.below HB2.out) _ _ _ _ HCL.out w2.heap.size rfl rfl ?_ ?_ ?_ ?_)
      · omega
      · omega
      · omega
      intro L2 d2 w4 hG4 hg4 hb4
      have HQ : Hid (RowE w w.heap.size L2 (k + 1) d2 (es.take (k + 1)) w4) := Lib.hid (by
        rw [List.take_add_one, HXK.out]
        exact rowE_snoc Q1.out Q2.out Q3.out Q4.out Q5.out q6 Q7.out HB2.out HEO.out HOF.out HFM.out hG4 hg4 hb4)
      clear hG4 hg4 hb4
      go_wp2
      go_roundw
      case rel => exact ⟨k + 1, d2, L2, by omega, by go_num, rfl, HQ.out⟩
      case measure => simp [intOf]; omega
    · obtain rfl : k = n := by omega
      have htk := take_all HL.out hlt
      rw [htk] at HR
      clear htk
      go_wp2
      go_ret
      exact ⟨L, k, d, rfl, HR.out⟩
end
end Go.Proofs.Ytcclhkoggijkaaa
