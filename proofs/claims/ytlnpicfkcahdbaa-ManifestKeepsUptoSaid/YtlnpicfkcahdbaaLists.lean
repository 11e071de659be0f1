/- Words for a list of lists of bytes in memory: read, and made by the call itself; appends onto it. No condition. -/
import Derived.Test.YtlnpicfkcahdbaaNext
namespace Go.Proofs.Ytlnpicfkcahdbaa
open Go Go.RowKit

/-- 'This value is a slice that reads as xs.' -/
def ElB (w : World) (v : Value) (xs : List UInt8) : Prop := ∃ A n c, v = .slice A n c ∧ Rd w A n xs ∧ n ≤ c ∧ (A = none → c = 0)

/-- 'The slice at A of length n reads as these lists.' -/
def RdL (w : World) (A : Option Addr) (n : Nat) (xss : List (List UInt8)) : Prop :=
  xss.length = n ∧ (0 < n → ∃ b off, A = some ⟨b, off, none⟩ ∧ b < w.heap.size ∧ ∀ (i : Nat) xs, xss[i]? = some xs → ∃ v, w.cell? ⟨b, off + i, none⟩ = some v ∧ ElB w v xs)

section
variable {w w' : World} {A : Option Addr} {n : Nat} {xss : List (List UInt8)}
theorem ElB.below {v : Value} {xs : List UInt8} (h : ElB w v xs) (hb : Below w.heap.size w w') : ElB w' v xs := by
  obtain ⟨A, n, c, h1, h2, h3⟩ := h
  exact ⟨A, n, c, h1, h2.below hb, h3⟩
theorem RdL.len (h : RdL w A n xss) : xss.length = n := h.1
theorem RdL.nil (w : World) (A : Option Addr) : RdL w A 0 [] := ⟨rfl, fun h => absurd h (by omega)⟩
theorem RdL.pos (h : RdL w A n xss) (hn : 0 < n) : ∃ b off, A = some ⟨b, off, none⟩ ∧ b < w.heap.size := by
  obtain ⟨b, off, h1, h2, _⟩ := h.2 hn
  exact ⟨b, off, h1, h2⟩
theorem RdL.at_ {b off : Nat} (h : RdL w (some ⟨b, off, none⟩) n xss) (k : Nat) (hk : k < n) :
    ∃ xs A' n' c', xss[k]? = some xs ∧ w.cell? ⟨b, off + k, none⟩ = some (.slice A' n' c') ∧ Rd w A' n' xs ∧ n' ≤ c' ∧ (A' = none → c' = 0) := by
  obtain ⟨b', off', h1, _, h3⟩ := h.2 (by omega)
  have hl : k < xss.length := by have := h.1; omega
  injection h1 with h1
  injection h1 with h1 h2
  subst h1 h2
  obtain ⟨v, hv, A', n', c', rfl, h4, h5, h6⟩ := h3 k _ (List.getElem?_eq_getElem hl)
  exact ⟨xss[k], A', n', c', List.getElem?_eq_getElem hl, hv, h4, h5, h6⟩
theorem RdL.below (h : RdL w A n xss) (hb : Below w.heap.size w w') : RdL w' A n xss := by
  refine ⟨h.1, fun hn => ?_⟩
  obtain ⟨b, off, h1, h2, h3⟩ := h.2 hn
  refine ⟨b, off, h1, Nat.lt_of_lt_of_le h2 hb.size, fun i x hx => ?_⟩
  obtain ⟨v, hv, he⟩ := h3 i x hx
  exact ⟨v, (hb.cell (p := ⟨b, off + i, none⟩) h2).trans hv, he.below hb⟩
theorem RdL.drewN (h : RdL w A n xss) (q : Nat) : RdL (w.drewN q) A n xss := h
end

/-- How much the lists hold: each list counts one more than its length. -/
def tot : List (List UInt8) → Nat
  | [] => 0
  | x :: r => x.length + 1 + tot r
theorem tot_append : ∀ a b : List (List UInt8), tot (a ++ b) = tot a + tot b
  | [], b => by simp [tot]
  | x :: a, b => by simp only [List.cons_append, tot, tot_append a b]; omega
theorem tot_take (l : List (List UInt8)) (k : Nat) : tot (l.take k) ≤ tot l := by
  have h := tot_append (l.take k) (l.drop k)
  rw [List.take_append_drop] at h
  omega
theorem tot_snoc {l : List (List UInt8)} {k : Nat} {x : List UInt8} (h : l[k]? = some x) : tot (l.take (k + 1)) = tot (l.take k) + x.length + 1 := by
  rw [List.take_add_one, h, tot_append]
  simp [tot]
  omega
theorem tot_at {l : List (List UInt8)} {k : Nat} {x : List UInt8} (h : l[k]? = some x) : x.length + 1 ≤ tot l := by
  have h1 := tot_snoc h
  have h2 := tot_take l (k + 1)
  omega
theorem tot_len : ∀ l : List (List UInt8), l.length ≤ tot l
  | [] => by simp
  | x :: r => by have := tot_len r; simp only [List.length_cons, tot]; omega

/-- 'The slice at A, of length n and capacity c, is the call's own row of slices (of element type t) that read as these lists; none of them lies in the row.' -/
def OwnL (t : TypeId) (w : World) (base : Nat) (A : Option Addr) (n c : Nat) (xss : List (List UInt8)) : Prop :=
  ∃ vs : List Value, w.ownsRow base t 1 (.slice A n c) n vs ∧ xss.length = n ∧ ∀ (i : Nat) xs, xss[i]? = some xs → ∃ A' n' c', vs[i]? = some (Value.slice A' n' c') ∧ Rd w A' n' xs ∧ n' ≤ c' ∧ (A' = none → c' = 0) ∧
    ∀ b off, A' = some ⟨b, off, none⟩ → b < w.heap.size ∧ Value.ownBlock (.slice A n c) ≠ some b

section
variable {t : TypeId} {w w' : World} {base n c : Nat} {A : Option Addr} {xss : List (List UInt8)}
theorem OwnL.len (h : OwnL t w base A n c xss) : xss.length = n := by obtain ⟨_, _, h, _⟩ := h; exact h
theorem OwnL.nil (t : TypeId) (w : World) (base : Nat) : OwnL t w base none 0 0 [] := ⟨[], World.ownsRow_nil _ _ _ _, rfl, fun i xs h => by simp at h⟩
theorem OwnL.cap (h : OwnL t w base A n c xss) : n ≤ c ∧ c ≤ maxLen := by
  obtain ⟨vs, h, _⟩ := h
  rcases h.2 with ⟨h1, h2⟩ | ⟨g, cap, cur, h1, _, _, h2, h3, _⟩
  · injection h1 with h1 h2 h3
    subst h2 h3
    unfold maxLen
    omega
  · injection h1 with _ _ h4
    subst h4
    exact ⟨h2, h3⟩
theorem OwnL.rd (h : OwnL t w base A n c xss) : RdL w A n xss := by
  obtain ⟨vs, h1, h2, h3⟩ := h
  refine ⟨h2, fun hn => ?_⟩
  rcases h1.2 with ⟨_, h4⟩ | ⟨g, cap, cur, h4, _, hg, _⟩
  · omega
  · injection h4 with h4
    subst h4
    refine ⟨g, 0, rfl, (Array.getElem?_eq_some_iff.1 hg).1, fun i xs hx => ?_⟩
    obtain ⟨A', n', c', hv, hr, hc, hn', _⟩ := h3 i xs hx
    have := World.ownsRow.cells h1 (g := g) rfl i _ hv
    exact ⟨_, by simpa [Addr.add_lit] using this, A', n', c', rfl, hr, hc, hn'⟩
theorem OwnL.below (h : OwnL t w base A n c xss) (hb : Below w.heap.size w w') : OwnL t w' base A n c xss := by
  obtain ⟨vs, h1, h2, h3⟩ := h
  refine ⟨vs, ⟨h1.1, ?_⟩, h2, fun i xs hx => ?_⟩
  · rcases h1.2 with h4 | ⟨g, cap, cur, h4, h5, h6, h7⟩
    · exact .inl h4
    · exact .inr ⟨g, cap, cur, h4, h5, (hb.block g (Array.getElem?_eq_some_iff.1 h6).1).trans h6, h7⟩
  · obtain ⟨A', n', c', hv, hr, hc, hn', ho⟩ := h3 i xs hx
    exact ⟨A', n', c', hv, hr.below hb, hc, hn', fun b off e => ⟨Nat.lt_of_lt_of_le (ho b off e).1 hb.size, (ho b off e).2⟩⟩
theorem OwnL.mono {base' : Nat} (h : OwnL t w base A n c xss) (hb : base' ≤ base) : OwnL t w base' A n c xss := by
  obtain ⟨vs, h1, h2⟩ := h
  refine ⟨vs, ⟨h1.1, ?_⟩, h2⟩
  rcases h1.2 with h4 | ⟨g, cap, cur, h4, h5, h6⟩
  · exact .inl h4
  · exact .inr ⟨g, cap, cur, h4, by omega, h6⟩
end

/-- One slice more, out of a box of its own, appended onto the row. -/
theorem wpList_appL {P : Program} (w : World) {ops : Array Oper} {rest : List Oper} {o : Oper} {a : Act} {Q : Exit → Act → World → Prop} (hgd : o.guard = none) (s x : Operand) (tt : TypeId)
    (ho : o.op = .call { callee := .builtin .append, args := #[s, x], argTypes := #[tt, tt] })
    (base : Nat) (t : TypeId) (ht : P.underlying tt = some (.slice t)) (hi : (P.info? t).map (fun i => (i.zero, i.size, i.bytes)) = some (some (.slice none 0 0), 1, 24))
    (A : Option Addr) (n c : Nat) (xss : List (List UInt8)) (hs : a.eval s = .slice A n c) (hown : OwnL t w base A n c xss)
    (B : Option Addr) (m d : Nat) (ys : List UInt8) (hr : Rd w B m ys) (hmd : m ≤ d) (hnil : B = none → d = 0) (hB : ∀ b off, B = some ⟨b, off, none⟩ → b < w.heap.size ∧ Value.ownBlock (.slice A n c) ≠ some b)
    (g : Nat) (hg : g = w.heap.size) (hx : a.eval x = .slice (some ⟨g, 0, none⟩) 1 1) (hn : n ≤ 4294967296) (hbase : base ≤ w.heap.size)
    (h : ∀ A' c' w', OwnL t w' base A' (n + 1) c' (xss ++ [ys]) → Below base (w.alloc (.cells #[.slice B m d] t)) w' → wpList P ops Q rest (a.put o.dst (.slice A' (n + 1) c')) w') :
    wpList P ops Q (o :: rest) a (w.alloc (.cells #[.slice B m d] t)) := by
  subst hg
  obtain ⟨i, hi, hz, hsz, hby⟩ := info_parts hi
  obtain ⟨vs, h1, h2, h3⟩ := hown
  obtain ⟨W, hW⟩ : ∃ W, W = w.alloc (.cells #[.slice B m d] t) := ⟨_, rfl⟩
  have hWs : W.heap.size = w.heap.size + 1 := by rw [hW]; simp
  have hbW : Below w.heap.size w W := by rw [hW]; exact (Below.refl _ _).alloc (Nat.le_refl _) _
  have hcell : W.cell? ⟨w.heap.size, 0, none⟩ = some (.slice B m d) := by
    rw [hW, cell_of_row (w.alloc (.cells #[.slice B m d] t)) w.heap.size 0 #[.slice B m d] t (0, 0) (heap_alloc_new w _)]
    rfl
  have h1W : W.ownsRow base t 1 (.slice A n c) n vs := by rw [hW]; exact h1.alloc _
  rw [← hW] at h ⊢
  refine wpList_plain hgd fun K hK => ?_
  obtain ⟨v', w', hrun, k1, k2, _, k3⟩ := run_append_own_at (P := P) W base tt o.type t i (.slice none 0 0) 1 24 ht hi hz hsz hby rfl (by decide) (.slice A n c) n vs h1W ⟨w.heap.size, 0, none⟩ 1 1 [.slice B m d] rfl
    (by
      intro j u hj
      match j, hj with
      | 0, hj => simp at hj; subst hj; simpa [Addr.add] using hcell)
    (by intro u hu; simp at hu; subst hu; rfl) (by unfold maxLen; omega) (by omega) (by omega)
  obtain ⟨A', c', rfl⟩ : ∃ A' c', v' = .slice A' (n + 1) c' := by
    rcases k1.2 with ⟨_, h4⟩ | ⟨g, cap, cur, h4, _⟩
    · omega
    · exact ⟨_, _, h4⟩
  have hrow : ∀ b, b < w.heap.size → Value.ownBlock (.slice A n c) ≠ some b → w'.heap[b]? = w.heap[b]? := fun b hb hne =>
    (k2.block b (by omega) (fun e => hne e.symm)).trans (hbW.block b hb)
  have hkeep : ∀ B' m' zs, Rd w B' m' zs → (∀ b off, B' = some ⟨b, off, none⟩ → b < w.heap.size ∧ Value.ownBlock (.slice A n c) ≠ some b) → Rd w' B' m' zs := by
    intro B' m' zs hz hq
    refine ⟨hz.1, fun hm => ?_⟩
    obtain ⟨b, off, e1, e2, e3⟩ := hz.2 hm
    refine ⟨b, off, e1, Nat.lt_of_lt_of_le (by omega) k2.size, fun j y hy => ?_⟩
    rw [← e3 j y hy]
    exact World.cell?_of_block (hrow b (hq b off e1).1 (hq b off e1).2)
  have hout : ∀ b, b < w.heap.size → Value.ownBlock (.slice A n c) ≠ some b → Value.ownBlock (.slice A' (n + 1) c') ≠ some b := fun b hb hne e => by
    rcases k3 with k3 | k3
    · rw [k3] at e; exact hne e
    · rw [k3] at e
      injection e with e
      omega
  have hl := h1.1
  have done : OwnL t w' base A' (n + 1) c' (xss ++ [ys]) := by
    refine ⟨vs ++ [.slice B m d], k1, by simp [h2], fun j zs hj => ?_⟩
    by_cases hjn : j < n
    · rw [List.getElem?_append_left (by omega)] at hj
      obtain ⟨B', m', d', e1, e2, e3, e4, e5⟩ := h3 j zs hj
      refine ⟨B', m', d', by rw [List.getElem?_append_left (by omega)]; exact e1, hkeep _ _ _ e2 e5, e3, e4, fun b off e => ⟨Nat.lt_of_lt_of_le (e5 b off e).1 (Nat.le_trans (by omega) k2.size), hout b (e5 b off e).1 (e5 b off e).2⟩⟩
    · rw [List.getElem?_append_right (by omega)] at hj
      have hj0 : j - xss.length = 0 := by
        have := (List.getElem?_eq_some_iff.1 hj).1
        simp at this
        omega
      rw [hj0] at hj
      injection hj with hj
      subst hj
      refine ⟨B, m, d, by rw [List.getElem?_append_right (by omega)]; simp [show j - vs.length = 0 from by omega], hkeep _ _ _ hr hB, hmd, hnil, fun b off e => ⟨Nat.lt_of_lt_of_le (hB b off e).1 (Nat.le_trans (by omega) k2.size), hout b (hB b off e).1 (hB b off e).2⟩⟩
  unfold Oper.wp execOp
  simp only [ho, resolve, invoke, builtin, Sem.run_bind, Sem.run_pure, Result.andThen_ok, List.map_toArray, List.map_cons, List.map_nil, hs, hx, hrun]
  exact hK _ _ (h A' c' w' done ((Below.refl _ _).grown k2 (by omega) (fun k hk => (World.ownsRow.lt h1W k hk).1)))

end Go.Proofs.Ytlnpicfkcahdbaa
