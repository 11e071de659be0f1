/- Lock: a row of ranges that a call makes; own. No condition but sizes. -/
import Derived.Test.YtmpdenpopokigaaLkB
namespace Go.Proofs.Ytmpdenpopokigaa
open Go Go.RowKit

/-- 'A row of ranges of the call's own.' -/
def OwnGr (w : World) (base : Nat) (A : Option Addr) (n c : Nat) (vs : List Value) : Prop := w.ownsRow base 97 3 (.slice A n c) n vs
section
variable {w w' : World} {base n c : Nat} {A : Option Addr} {vs : List Value}
theorem OwnGr.rd (h : OwnGr w base A n c vs) : RdV w A (n * 3) vs := by
  refine ⟨by have := h.1; simpa [Nat.mul_comm] using this, fun hn => ?_⟩
  rcases h.2 with ⟨_, h2⟩ | ⟨g, cap, cur, h1, _, hg, _⟩
  · omega
  · injection h1 with h1
    subst h1
    refine ⟨g, 0, rfl, (Array.getElem?_eq_some_iff.1 hg).1, fun i x hx => ?_⟩
    have := World.ownsRow.cells h (g := g) rfl i _ hx
    simpa [Addr.add_lit] using this
theorem OwnGr.cap (h : OwnGr w base A n c vs) : n ≤ c ∧ c ≤ maxLen := by
  rcases h.2 with ⟨h1, h2⟩ | ⟨g, cap, cur, h1, _, _, h2, h3, _⟩
  · injection h1 with h1 h2 h3
    subst h2 h3
    unfold maxLen
    omega
  · injection h1 with _ _ h4
    subst h4
    exact ⟨h2, h3⟩
theorem OwnGr.lt (h : OwnGr w base A n c vs) (b : Nat) (hb : blk A = some b) : base ≤ b ∧ b < w.heap.size := World.ownsRow.lt h b (by rw [own_blk]; exact hb)
theorem OwnGr.nil (w : World) (base : Nat) : OwnGr w base none 0 0 [] := World.ownsRow_nil _ _ _ _
theorem OwnGr.below (h : OwnGr w base A n c vs) (hb : Below w.heap.size w w') : OwnGr w' base A n c vs := by
  refine ⟨h.1, ?_⟩
  rcases h.2 with h1 | ⟨g, cap, cur, h1, h2, h3, h4⟩
  · exact .inl h1
  · exact .inr ⟨g, cap, cur, h1, h2, (hb.block g (Array.getElem?_eq_some_iff.1 h3).1).trans h3, h4⟩
theorem OwnGr.nil_of (h : OwnGr w base A n c vs) (hA : A = none) : c = 0 := by
  subst hA
  rcases h.2 with ⟨h1, _⟩ | ⟨g, cap, cur, h1, _⟩
  · injection h1
  · injection h1 with h1; cases h1
theorem OwnGr.mono {base' : Nat} (h : OwnGr w base A n c vs) (hb : base' ≤ base) : OwnGr w base' A n c vs := by
  refine ⟨h.1, ?_⟩
  rcases h.2 with h1 | ⟨g, cap, cur, h1, h2, h3⟩
  · exact .inl h1
  · exact .inr ⟨g, cap, cur, h1, by omega, h3⟩
theorem OwnGr.kept {row : Option Nat} (h : OwnGr w base A n c vs) (hg : w.grownBy w' row) (hne : ∀ b, blk A = some b → row ≠ some b) : OwnGr w' base A n c vs := by
  refine World.ownsRow.kept h hg ?_
  rw [own_blk]
  cases hb : blk A with
  | none => exact .inl rfl
  | some b => exact .inr (fun e => hne b hb e.symm)
theorem OwnGr.at0 (h : OwnGr w base A n c vs) (g : Nat) (hA : blk A = some g) : A = some ⟨g, 0, none⟩ := by
  rcases h.2 with ⟨h1, _⟩ | ⟨k, cap, cur, h1, _⟩
  · injection h1 with h1; rw [h1] at hA; cases hA
  · injection h1 with h1
    rw [h1] at hA ⊢
    injection hA with hA
    simp only at hA
    rw [hA]
end
theorem info_rg : (Try.prog.info? 97).map (fun i => (i.zero, i.size, i.bytes)) = some (some (.agg #[.slice none 0 0, .slice none 0 0, .bool false]), 3, 56) := by kernel_rfl
/-- Ranges appended at a step of a region that draws its order. -/
theorem wp_app3 {P : Program} (w : World) {o : Oper} {a : Act} {K : Act → World → Prop} {Q : Exit → Act → World → Prop} (s x : Operand) (tt : TypeId)
    (ho : o.op = .call { callee := .builtin .append, args := #[s, x], argTypes := #[tt, tt] })
    (base : Nat) (z : Value) (by_ : Nat) (ht : P.underlying tt = some (.slice 97)) (hi : (P.info? 97).map (fun i => (i.zero, i.size, i.bytes)) = some (some z, 3, by_)) (hz1 : z.cells.size = 3)
    (A : Option Addr) (n c : Nat) (vs : List Value) (hs : a.eval s = .slice A n c) (hown : OwnGr w base A n c vs)
    (ad : Addr) (m d : Nat) (ys : List Value) (hx : a.eval x = .slice (some ad) m d) (hr : RdV w (some ad) (m * 3) ys) (hm : 0 < m) (h1 : ∀ u ∈ ys, u.oneCell' = true)
    (hn : n + m ≤ maxLen) (hby : (n + m) * by_ ≤ 140737488355328) (hbase : base ≤ w.heap.size)
    (h : ∀ A' c' w', OwnGr w' base A' (n + m) c' (vs ++ ys) → w.grownBy w' (blk A) → K (a.put o.dst (.slice A' (n + m) c')) w') : o.wp P a w K Q := by
  obtain ⟨i, hi, hz, hsz, hby2⟩ := info_parts hi
  obtain ⟨b, off, e, _, hc⟩ := hr.2 (by omega)
  injection e with e
  subst e
  refine wp_append_own w s x tt ho base 97 i z 3 by_ ht hi hz hsz hby2 hz1 (by decide) (.slice A n c) n vs hs hown ⟨b, off, none⟩ m d ys hx hr.1 (fun j u hj => by rw [Addr.add_lit]; exact hc j u hj) h1 hn hby hbase ?_
  intro v' w' k1 k2 _
  obtain ⟨A', c', rfl⟩ : ∃ A' c', v' = .slice A' (n + m) c' := by
    rcases k1.2 with ⟨h3, h4⟩ | ⟨g, cap, cur, h3, _⟩
    · exact ⟨none, 0, by rw [h3, h4]⟩
    · exact ⟨_, _, h3⟩
  rw [own_blk] at k2
  exact h A' c' w' k1 k2
theorem step_app3 {P : Program} (w : World) {ops : Array Oper} {o : Oper} {a : Act} {K : Act → World → Prop} {Q : Exit → Act → World → Prop} {E : Prop} (hgd : o.guard = none) (s x : Operand) (tt : TypeId)
    (ho : o.op = .call { callee := .builtin .append, args := #[s, x], argTypes := #[tt, tt] })
    (base : Nat) (z : Value) (by_ : Nat) (ht : P.underlying tt = some (.slice 97)) (hi : (P.info? 97).map (fun i => (i.zero, i.size, i.bytes)) = some (some z, 3, by_)) (hz1 : z.cells.size = 3)
    (A : Option Addr) (n c : Nat) (vs : List Value) (hs : a.eval s = .slice A n c) (hown : OwnGr w base A n c vs)
    (ad : Addr) (m d : Nat) (ys : List Value) (hx : a.eval x = .slice (some ad) m d) (hr : RdV w (some ad) (m * 3) ys) (hm : 0 < m) (h1 : ∀ u ∈ ys, u.oneCell' = true)
    (hn : n + m ≤ maxLen) (hby : (n + m) * by_ ≤ 140737488355328) (hbase : base ≤ w.heap.size)
    (h : ∀ A' c' w', OwnGr w' base A' (n + m) c' (vs ++ ys) → w.grownBy w' (blk A) → K (a.put o.dst (.slice A' (n + m) c')) w') :
    if Region.wanted o (yielded ops a.tmps) = true then Oper.wp P o a w K Q else E := by
  have hw : Region.wanted o (yielded ops a.tmps) = true := by simp [Region.wanted, hgd]
  rw [if_pos hw]
  exact wp_app3 w s x tt ho base z by_ ht hi hz1 A n c vs hs hown ad m d ys hx hr hm h1 hn hby hbase h
/-- The same in plain code. -/
theorem wpList_app3 {P : Program} (w : World) {ops : Array Oper} {rest : List Oper} {o : Oper} {a : Act} {Q : Exit → Act → World → Prop} (hgd : o.guard = none) (s x : Operand) (tt : TypeId)
    (ho : o.op = .call { callee := .builtin .append, args := #[s, x], argTypes := #[tt, tt] })
    (base : Nat) (z : Value) (by_ : Nat) (ht : P.underlying tt = some (.slice 97)) (hi : (P.info? 97).map (fun i => (i.zero, i.size, i.bytes)) = some (some z, 3, by_)) (hz1 : z.cells.size = 3)
    (A : Option Addr) (n c : Nat) (vs : List Value) (hs : a.eval s = .slice A n c) (hown : OwnGr w base A n c vs)
    (ad : Addr) (m d : Nat) (ys : List Value) (hx : a.eval x = .slice (some ad) m d) (hr : RdV w (some ad) (m * 3) ys) (hm : 0 < m) (h1 : ∀ u ∈ ys, u.oneCell' = true)
    (hn : n + m ≤ maxLen) (hby : (n + m) * by_ ≤ 140737488355328) (hbase : base ≤ w.heap.size)
    (h : ∀ A' c' w', OwnGr w' base A' (n + m) c' (vs ++ ys) → w.grownBy w' (blk A) → (blk A' = blk A ∨ blk A' = some w.heap.size) → wpList P ops Q rest (a.put o.dst (.slice A' (n + m) c')) w') : wpList P ops Q (o :: rest) a w := by
  obtain ⟨i, hi, hz, hsz, hby2⟩ := info_parts hi
  obtain ⟨b, off, e, _, hc⟩ := hr.2 (by omega)
  injection e with e
  subst e
  refine wpList_append_own_at (w := w) hgd s x tt ho base 97 i z 3 by_ ht hi hz hsz hby2 hz1 (by decide) (.slice A n c) n vs hs hown ⟨b, off, none⟩ m d ys hx hr.1 (fun j u hj => by rw [Addr.add_lit]; exact hc j u hj) h1 hn hby hbase ?_
  intro v' w' k1 k2 _ k3
  obtain ⟨A', c', rfl⟩ : ∃ A' c', v' = .slice A' (n + m) c' := by
    rcases k1.2 with ⟨h3, h4⟩ | ⟨g, cap, cur, h3, _⟩
    · exact ⟨none, 0, by rw [h3, h4]⟩
    · exact ⟨_, _, h3⟩
  rw [own_blk] at k2
  rw [own_blk, own_blk] at k3
  exact h A' c' w' k1 k2 k3

theorem rdv_of_cl3 {w : World} {g : Nat} {v0 v1 v2 : Value} {t : TypeId} (h : Cl w g #[v0, v1, v2] t) : RdV w (some ⟨g, 0, none⟩) (1 * 3) [v0, v1, v2] :=
  ⟨rfl, fun _ => ⟨g, 0, rfl, h.lt, fun i x hx => by rw [Nat.zero_add, h.cell i]; simpa using hx⟩⟩
theorem Made.outL {base : Nat} {w w' : World} {xs : List UInt8} {e : Ending} (h : Made base w xs e w') : ∃ A n c, e = .returned (.slice A n c) ∧ Own 5 w' base A n c xs ∧ Below base w w' := h
/-- The values of ranges whose bytes are these slices, two for each. -/
def flatG : List Rg → List VB → List Value
  | r :: rs, p :: q :: ps => p.1 :: q.1 :: .bool r.ex :: flatG rs ps
  | _, _ => []
/-- The bytes of ranges. -/
def datG : List Rg → List (List UInt8)
  | [] => []
  | r :: rs => r.lo :: r.hi :: datG rs
theorem datG_app (rs gs : List Rg) : datG (rs ++ gs) = datG rs ++ datG gs := by
  induction rs with
  | nil => rfl
  | cons r rs ih => simp [datG, ih]
theorem datG_len (rs : List Rg) : (datG rs).length = rs.length * 2 := by
  induction rs with
  | nil => rfl
  | cons r rs ih => simp only [datG, List.length_cons, ih]; omega
theorem flatG_app {gs : List Rg} {qs : List VB} : ∀ {rs : List Rg} {ps : List VB}, ps.length = rs.length * 2 → flatG (rs ++ gs) (ps ++ qs) = flatG rs ps ++ flatG gs qs
  | [], [], _ => rfl
  | [], p :: ps, h => by simp at h
  | r :: rs, [], h => by simp at h
  | r :: rs, [p], h => by simp at h; omega
  | r :: rs, p :: q :: ps, h => by
    simp only [List.cons_append, flatG]
    rw [flatG_app (by simp only [List.length_cons] at h; omega)]
theorem grvs_of_fam {w : World} {base : Nat} : ∀ {rs : List Rg} {ps : List VB}, Fam w base ps → ps.map (·.2) = datG rs → GrVs w rs (flatG rs ps)
  | [], ps, _, _ => by cases ps <;> rfl
  | r :: rs, [], _, h => by simp [datG] at h
  | r :: rs, [p], _, h => by simp [datG] at h
  | r :: rs, p :: q :: ps, hf, h => by
    simp only [List.map_cons, datG, List.cons.injEq] at h
    obtain ⟨A, m, c, e1, ho⟩ := hf.1 p (by simp)
    obtain ⟨B, k, d, e2, ho2⟩ := hf.1 q (by simp)
    refine ⟨_, _, _, _, rfl, ⟨rfl, ?_, ?_⟩, grvs_of_fam (base := base) ⟨fun x hx => hf.1 x (by simp [hx]), (List.pairwise_cons.1 (List.pairwise_cons.1 hf.2).2).2⟩ h.2.2⟩
    · rw [e1, ← h.1]; exact elb_own ho
    · rw [e2, ← h.2.1]; exact elb_own ho2
/-- 'A row of ranges that the call has made, their bytes its own; no two share memory.' -/
def RowGr (W : World) (base : Nat) (L : Option Addr) (i d : Nat) (rs : List Rg) (ps : List VB) (wr : World) : Prop :=
  OwnGr wr base L i d (flatG rs ps) ∧ Fam wr base ps ∧ ps.map (·.2) = datG rs ∧ rs.length = i ∧ Below base W wr ∧ base ≤ wr.heap.size
section
variable {W wr w4 U : World} {base i d d' : Nat} {L L' : Option Addr} {rs : List Rg} {ps : List VB} {r : Rg}
theorem RowGr.zero (W : World) (base : Nat) (hb : base ≤ W.heap.size) : RowGr W base none 0 0 [] [] W := ⟨OwnGr.nil _ _, Fam.nil _ _, rfl, rfl, Below.refl _ _, hb⟩
theorem RowGr.own (h : RowGr W base L i d rs ps wr) : OwnGr wr base L i d (flatG rs ps) := h.1
theorem RowGr.fam (h : RowGr W base L i d rs ps wr) : Fam wr base ps := h.2.1
theorem RowGr.dat (h : RowGr W base L i d rs ps wr) : ps.map (·.2) = datG rs := h.2.2.1
theorem RowGr.len (h : RowGr W base L i d rs ps wr) : rs.length = i := h.2.2.2.1
theorem RowGr.bel (h : RowGr W base L i d rs ps wr) : Below base W wr := h.2.2.2.2.1
theorem RowGr.size (h : RowGr W base L i d rs ps wr) : base ≤ wr.heap.size := h.2.2.2.2.2
theorem RowGr.plen (h : RowGr W base L i d rs ps wr) : ps.length = rs.length * 2 := by have := congrArg List.length h.dat; rw [datG_len] at this; simpa using this
theorem RowGr.below {w' : World} (h : RowGr W base L i d rs ps wr) (hb : Below wr.heap.size wr w') : RowGr W base L i d rs ps w' := by
  obtain ⟨h1, h2, h3, h5, h6, h7⟩ := h
  exact ⟨h1.below hb, h2.below hb, h3, h5, h6.trans (hb.mono h7), Nat.le_trans h7 hb.size⟩
theorem RowGr.rd (h : RowGr W base L i d rs ps wr) : RGr wr L i rs := RGr.mk (grvs_of_fam h.fam h.dat) h.own.rd h.len
theorem RowGr.lower {w wx : World} (h : RowGr wx wx.heap.size L i d rs ps wr) (hb : Below w.heap.size w wx) : RowGr w w.heap.size L i d rs ps wr := by
  obtain ⟨h1, h2, h3, h5, h6, h7⟩ := h
  have hs := hb.size
  exact ⟨h1.mono hs, h2.mono hs, h3, h5, belowT' hb h6, by omega⟩
theorem fam_off_Gr {w : World} {b1 b2 n c : Nat} {A : Option Addr} {vs : List Value} {qs : List VB} (hf : Fam w b1 qs) (h : OwnGr w b2 A n c vs) : ∀ b, blk A = some b → OffF qs b := fun b hb q hq e => by
  obtain ⟨A', m, d, e1, ho⟩ := hf.1 q hq
  rw [e1, own_blk] at e
  exact row_ne h ho (by decide) b hb e
/-- One more. -/
theorem RowGr.snoc {qs : List VB} {vs us : List Value} (h : RowGr W base L i d rs ps wr) (hU : Below wr.heap.size wr U) (hf : Fam U wr.heap.size qs) (hd : qs.map (·.2) = [r.lo, r.hi]) (hus : us = flatG [r] qs) {V : World} (hV : Below U.heap.size U V)
    (h4 : OwnGr w4 base L' (i + 1) d' vs) (hvs : vs = flatG rs ps ++ us) (hg : V.grownBy w4 (blk L)) : RowGr W base L' (i + 1) d' (rs ++ [r]) (ps ++ qs) w4 := by
  subst hvs hus
  have hbU := hU.size
  have hbV := hV.size
  have hgs := hg.size
  have hz := h.size
  have hfm : Fam U base (ps ++ qs) := Fam.app h.fam hf hU (Nat.le_refl _) hz
  have hfv := hfm.below hV
  have hoV : OwnGr V base L i d (flatG rs ps) := (h.own.below hU).below hV
  refine ⟨?_, hfv.kept hg (fun b e => fam_off_Gr hfv hoV b e), ?_, by simp [h.len], ((h.bel.trans (hU.mono hz)).trans (hV.mono (by omega))).grown hg (by omega) (fun k hk => (h.own.lt k hk).1), by omega⟩
  · rw [flatG_app h.plen]
    exact h4
  · rw [List.map_append, datG_app, h.dat, hd]; rfl
end
/-- What a list of ranges that is made comes to. -/
def RetRg (w : World) (rs : List Rg) (e : Ending) (w' : World) : Prop := ∃ L n c ps, e = .returned (.slice L n c) ∧ RowGr w w.heap.size L n c rs ps w'
theorem RetRg.out {w : World} {rs : List Rg} {e : Ending} {w' : World} (h : RetRg w rs e w') : ∃ L n c ps, e = .returned (.slice L n c) ∧ RowGr w w.heap.size L n c rs ps w' := h
/-- Bytes that are not too many. -/
def SzG (rs : List Rg) : Prop := ∀ r ∈ rs, r.lo.length ≤ 1099511627776 ∧ r.hi.length ≤ 1099511627776
set_option maxRecDepth 100000 in
set_option maxHeartbeats 8000000 in
theorem ownR_any {w : World} {A : Option Addr} {n c : Nat} {rs : List Rg} (h : RGr w A n rs) (hn : n ≤ 1099511627776) (hs : SzG rs) : Calls Try.prog 105 #[.slice A n c] w (RetRg w rs) := by
  have HL := Lib.hid h.len
  have HS := Lib.hid hs
  have HH := Lib.hid h
  clear hs h
  go_enter Try.func105, Try.ntmps105
  go_wp2_with fail
  go_loopw [3, 8] (fun s3 s8 wr => ∃ (k d : Nat) (L : Option Addr), k ≤ n ∧ s8 = .int .i64 (k : Int) ∧ s3 = .slice L k d ∧ ∃ ps, RowGr w w.heap.size L k d (rs.take k) ps wr) (fun _ s _ => n - (intOf s).toNat)
  case atStart => exact ⟨0, 0, none, Nat.zero_le _, rfl, rfl, [], RowGr.zero _ _ (Nat.le_refl _)⟩
  case round =>
    obtain ⟨k, d, L, hk, rfl, rfl, ps, hrow⟩ := hrel
    have HR := Lib.hid hrow
    have hR : RGr wr A n rs := HH.out.below hrow.bel
    clear hrow
    by_cases hlt : k < n
    · obtain ⟨b, off, hAb, hbl⟩ := hR.pos (by omega)
      subst hAb
      obtain ⟨x, v0, v1, v2, hx, m0, m1, m2, hev⟩ := hR.at_ k hlt
      obtain ⟨sx1, sx2⟩ := HS.out x (List.mem_of_getElem? hx)
      obtain ⟨K, kn, kc, T, tn, tc, rfl, rfl, rfl, rk, rt, hkc, htc, hkd, htd⟩ := hev.parts
      have hlk := rk.len
      have hlt2 := rt.len
      obtain ⟨U, hU⟩ : ∃ U, U = wr.alloc (.cells #[.slice K kn kc, .slice T tn tc, .bool x.ex] 97) := ⟨_, rfl⟩
      obtain ⟨g0, hg0⟩ : ∃ g0, g0 = wr.heap.size := ⟨_, rfl⟩
      have bU : Below wr.heap.size wr U := by rw [hU]; exact (Below.refl _ _).alloc (Nat.le_refl _) _
      have zU : Cl U g0 #[.slice K kn kc, .slice T tn tc, .bool x.ex] 97 := by rw [hU, hg0]; exact Cl.new _ _ _
      have HCK : Hid (∀ wx, Below U.heap.size U wx → Calls Try.prog 126 #[.slice K kn kc] wx (Made wx.heap.size wx x.lo)) := Lib.hid (fun wx hb => Clone_any K kn kc x.lo wx ((rk.below bU).below hb) (by omega) hkd)
      have HCT : Hid (∀ wx, Below U.heap.size U wx → Calls Try.prog 126 #[.slice T tn tc] wx (Made wx.heap.size wx x.hi)) := Lib.hid (fun wx hb => Clone_any T tn tc x.hi wx ((rt.below bU).below hb) (by omega) htd)
      have HLD : Hid (∀ wx, Below U.heap.size U wx → wx.cell? ⟨g0, 0, none⟩ = some (.slice K kn kc) ∧ wx.cell? ⟨g0, 1, none⟩ = some (.slice T tn tc) ∧ wx.cell? ⟨g0, 2, none⟩ = some (.bool x.ex)) := Lib.hid (fun wx hb => ⟨(zU.below hb).cell 0, (zU.below hb).cell 1, (zU.below hb).cell 2⟩)
      have HRU := Lib.hid (HR.out.below bU)
      have HUE := Lib.hid hU
      have HGE := Lib.hid hg0
      have HX := Lib.hid hx
      have q0 : U.cell? ⟨g0, 0, none⟩ = some (.slice K kn kc) := zU.cell 0
      have q1 : U.cell? ⟨g0, 1, none⟩ = some (.slice T tn tc) := zU.cell 1
      have q2 : U.cell? ⟨g0, 2, none⟩ = some (.bool x.ex) := zU.cell 2
      have hB1 : Below U.heap.size U U.drew := (Below.refl _ _).drew
      clear hx hev hR rk rt bU zU hU hg0 sx1 sx2 hlk hlt2
      go_upto_region 5 with (fail)
      rw [← HUE.out, ← HGE.out]
      clear m0 m1 m2
      go_region_law (first | (go_simp; go_at_call 126; with_reducible refine (HCK.out _ (by first | exact hB1 | assumption)).mono ?_; intro e wk hq; obtain ⟨C, cn, cc, h1, oC, bC⟩ := Made.outL hq; subst h1; have bC' := belowT' (by first | exact hB1 | assumption : Below U.heap.size U _) bC; obtain ⟨p0, p1, p2⟩ := HLD.out _ bC') | (go_simp; go_at_call 126; with_reducible refine (HCT.out _ (by first | exact hB1 | assumption)).mono ?_; intro e wv hq; obtain ⟨D, dn, dc, h2, oD, bD⟩ := Made.outL hq; subst h2; have bD' := belowT' (by first | exact hB1 | assumption : Below U.heap.size U _) bD; obtain ⟨n0, n1, n2⟩ := HLD.out _ bD') | (refine step_app3 _ rfl (Operand.tmp 12) (Operand.tmp 22) 98 rfl w.heap.size _ 56 Try.underlying98 info_rg rfl L k d (flatG (rs.take k) ps) (by first | (simp [Act.eval]; done) | (simp [Act.eval, Act.put]; done) | rfl) (HRU.out.below (bD'.alloc bD'.size _)).own ⟨wv.heap.size, 0, none⟩ 1 1 [.slice C cn cc, .slice D dn dc, .bool x.ex] (by first | (simp [Act.eval]; done) | (simp [Act.eval, Act.put]; done) | rfl) (rdv_of_cl3 (Cl.new wv #[.slice C cn cc, .slice D dn dc, .bool x.ex] 97)) (by omega) (by simp [Value.oneCell']) (by unfold maxLen; omega) (by omega) (HRU.out.below (bD'.alloc bD'.size _)).size ?_; intro L2 d2 w6 hL hg) | (refine step_app3 _ rfl (Operand.tmp 12) (Operand.tmp 22) 98 rfl w.heap.size _ 56 Try.underlying98 info_rg rfl L k d (flatG (rs.take k) ps) (by first | (simp [Act.eval]; done) | (simp [Act.eval, Act.put]; done) | rfl) (HRU.out.below (bC'.alloc bC'.size _)).own ⟨wk.heap.size, 0, none⟩ 1 1 [.slice C cn cc, .slice D dn dc, .bool x.ex] (by first | (simp [Act.eval]; done) | (simp [Act.eval, Act.put]; done) | rfl) (rdv_of_cl3 (Cl.new wk #[.slice C cn cc, .slice D dn dc, .bool x.ex] 97)) (by omega) (by simp [Value.oneCell']) (by unfold maxLen; omega) (by omega) (HRU.out.below (bC'.alloc bC'.size _)).size ?_; intro L2 d2 w6 hL hg))
      all_goals first
        | (have hsz1 : U.heap.size ≤ wk.heap.size := bC'.size
           have HQ : Hid (∃ ps, RowGr w w.heap.size L2 (k + 1) d2 (rs.take (k + 1)) ps w6) := Lib.hid ⟨_, by
             rw [List.take_add_one, HX.out]
             exact RowGr.snoc (qs := [(.slice C cn cc, x.lo), (.slice D dn dc, x.hi)]) HRU.out bD' (fam_two ((oC.mono (show U.heap.size ≤ _ by first | exact Nat.le_refl _ | omega)).below bD) (oD.mono hsz1) (Dj.old oC oD (Nat.le_refl _))) rfl rfl ((Below.refl _ _).alloc (Nat.le_refl _) _) hL rfl hg⟩
           clear hL hg oC oD bC bD bC' bD' p0 p1 p2 n0 n1 n2 hsz1
           go_wp2_with fail
           go_roundw
           case rel => exact ⟨k + 1, d2, L2, by omega, by go_num, rfl, HQ.out⟩
           case measure => simp [intOf]; omega)
        | (have hsz1 : U.heap.size ≤ wv.heap.size := bD'.size
           have HQ : Hid (∃ ps, RowGr w w.heap.size L2 (k + 1) d2 (rs.take (k + 1)) ps w6) := Lib.hid ⟨_, by
             rw [List.take_add_one, HX.out]
             exact RowGr.snoc (qs := [(.slice C cn cc, x.lo), (.slice D dn dc, x.hi)]) HRU.out bC' (fam_two (oC.mono hsz1) ((oD.mono (show U.heap.size ≤ _ by first | exact Nat.le_refl _ | omega)).below bC) (Dj.symm (Dj.old oD oC (Nat.le_refl _)))) rfl rfl ((Below.refl _ _).alloc (Nat.le_refl _) _) hL rfl hg⟩
           clear hL hg oC oD bC bD bC' bD' p0 p1 p2 n0 n1 n2 hsz1
           go_wp2_with fail
           go_roundw
           case rel => exact ⟨k + 1, d2, L2, by omega, by go_num, rfl, HQ.out⟩
           case measure => simp [intOf]; omega)
    · obtain rfl : k = n := by omega
      have htk : rs.take k = rs := List.take_of_length_le (by rw [HL.out]; exact Nat.le_refl _)
      have HF : Hid (RetRg w rs (.returned (.slice L k d)) wr) := Lib.hid ⟨L, k, d, ps, rfl, by have := HR.out; rw [htk] at this; exact this⟩
      clear htk hR
      go_wp2_with fail
      go_ret
      exact HF.out
end Go.Proofs.Ytmpdenpopokigaa
