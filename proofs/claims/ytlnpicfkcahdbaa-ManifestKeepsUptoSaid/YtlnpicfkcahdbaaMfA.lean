/- Manifest: files in a row, read; a row of files of the call's own. No condition but sizes. -/
import Derived.Test.YtlnpicfkcahdbaaNext
import Derived.Test.YtlnpicfkcahdbaaInter
import Derived.Test.YtlnpicfkcahdbaaEnD
import Derived.Test.YtlnpicfkcahdbaaCmp
import Derived.Deep.RegionLaw
namespace Go.Proofs.Ytlnpicfkcahdbaa
open Go Go.RowKit

/-- A file of a manifest as plain data. -/
structure Mf where
  lo : List UInt8
  hi : List UInt8
  cnt : Int
  sz : Int
  num : Nat
  lv : Int
deriving DecidableEq
/-- 'These six values are the file f.' -/
def MfV (w : World) (f : Mf) (v0 v1 v2 v3 v4 v5 : Value) : Prop := v2 = .int .i64 f.cnt ∧ v3 = .int .i64 f.sz ∧ v4 = .int .u64 (f.num : Int) ∧ v5 = .int .i64 f.lv ∧ U64 f.num ∧ ElB w v0 f.lo ∧ ElB w v1 f.hi
def MfVs (w : World) : List Mf → List Value → Prop
  | [], vs => vs = []
  | r :: rs, vs => ∃ v0 v1 v2 v3 v4 v5 t, vs = v0 :: v1 :: v2 :: v3 :: v4 :: v5 :: t ∧ MfV w r v0 v1 v2 v3 v4 v5 ∧ MfVs w rs t
/-- 'The slice of n files at A reads as these.' -/
def RMf (w : World) (A : Option Addr) (n : Nat) (fs : List Mf) : Prop := fs.length = n ∧ ∃ vs, MfVs w fs vs ∧ RdV w A (n * 6) vs
section
variable {w w' : World}
theorem MfV.below {r : Mf} {v0 v1 v2 v3 v4 v5 : Value} (h : MfV w r v0 v1 v2 v3 v4 v5) (hb : Below w.heap.size w w') : MfV w' r v0 v1 v2 v3 v4 v5 := ⟨h.1, h.2.1, h.2.2.1, h.2.2.2.1, h.2.2.2.2.1, h.2.2.2.2.2.1.below hb, h.2.2.2.2.2.2.below hb⟩
theorem MfV.parts {r : Mf} {v0 v1 v2 v3 v4 v5 : Value} (h : MfV w r v0 v1 v2 v3 v4 v5) : ∃ K kn kc T tn tc, v0 = .slice K kn kc ∧ v1 = .slice T tn tc ∧ v2 = .int .i64 r.cnt ∧ v3 = .int .i64 r.sz ∧ v4 = .int .u64 (r.num : Int) ∧ v5 = .int .i64 r.lv ∧ Rd w K kn r.lo ∧ Rd w T tn r.hi ∧ kn ≤ kc ∧ tn ≤ tc ∧ (K = none → kc = 0) ∧ (T = none → tc = 0) ∧ U64 r.num := by
  obtain ⟨h1, h2, h3, h4, h5, ⟨K, kn, kc, e1, r1, c1, d1⟩, T, tn, tc, e2, r2, c2, d2⟩ := h
  exact ⟨K, kn, kc, T, tn, tc, e1, e2, h1, h2, h3, h4, r1, r2, c1, c2, d1, d2, h5⟩
theorem MfVs.below (hb : Below w.heap.size w w') : ∀ {rs : List Mf} {vs : List Value}, MfVs w rs vs → MfVs w' rs vs
  | [], _, h => h
  | _ :: _, _, ⟨v0, v1, v2, v3, v4, v5, t, e, h1, h2⟩ => ⟨v0, v1, v2, v3, v4, v5, t, e, h1.below hb, MfVs.below hb h2⟩
theorem MfVs.app : ∀ {rs gs : List Mf} {vs us : List Value}, MfVs w rs vs → MfVs w gs us → MfVs w (rs ++ gs) (vs ++ us)
  | [], _, _, _, h, h2 => by rw [h]; exact h2
  | _ :: _, _, _, _, ⟨v0, v1, v2, v3, v4, v5, t, e, h1, h2⟩, h3 => ⟨v0, v1, v2, v3, v4, v5, _, by rw [e]; rfl, h1, MfVs.app h2 h3⟩
theorem MfVs.one {r : Mf} {v0 v1 v2 v3 v4 v5 : Value} (h : MfV w r v0 v1 v2 v3 v4 v5) : MfVs w [r] [v0, v1, v2, v3, v4, v5] := ⟨v0, v1, v2, v3, v4, v5, [], rfl, h, rfl⟩
theorem MfVs.at_ : ∀ {rs : List Mf} {vs : List Value} (i : Nat) {r : Mf}, MfVs w rs vs → rs[i]? = some r → ∃ v0 v1 v2 v3 v4 v5, vs[i * 6]? = some v0 ∧ vs[i * 6 + 1]? = some v1 ∧ vs[i * 6 + 2]? = some v2 ∧ vs[i * 6 + 3]? = some v3 ∧ vs[i * 6 + 4]? = some v4 ∧ vs[i * 6 + 5]? = some v5 ∧ MfV w r v0 v1 v2 v3 v4 v5
  | [], _, i, r, _, h => by simp at h
  | g :: _, _, 0, r, ⟨v0, v1, v2, v3, v4, v5, t, q, h1, h2⟩, h => by
    simp only [List.getElem?_cons_zero, Option.some.injEq] at h
    subst h q
    exact ⟨v0, v1, v2, v3, v4, v5, rfl, rfl, rfl, rfl, rfl, rfl, h1⟩
  | _ :: _, _, i + 1, r, ⟨v0, v1, v2, v3, v4, v5, t, q, h1, h2⟩, h => by
    rw [List.getElem?_cons_succ] at h
    obtain ⟨a, b, c, d, e, f, e0, e1, e2, e3, e4, e5, e6⟩ := MfVs.at_ i h2 h
    subst q
    refine ⟨a, b, c, d, e, f, ?_, ?_, ?_, ?_, ?_, ?_, e6⟩
    · rw [show (i + 1) * 6 = i * 6 + 6 by omega]; exact e0
    · rw [show (i + 1) * 6 + 1 = i * 6 + 1 + 6 by omega]; exact e1
    · rw [show (i + 1) * 6 + 2 = i * 6 + 2 + 6 by omega]; exact e2
    · rw [show (i + 1) * 6 + 3 = i * 6 + 3 + 6 by omega]; exact e3
    · rw [show (i + 1) * 6 + 4 = i * 6 + 4 + 6 by omega]; exact e4
    · rw [show (i + 1) * 6 + 5 = i * 6 + 5 + 6 by omega]; exact e5
theorem RMf.below {A : Option Addr} {n : Nat} {rs : List Mf} (h : RMf w A n rs) (hb : Below w.heap.size w w') : RMf w' A n rs := by
  obtain ⟨h1, vs, h2, h3⟩ := h
  exact ⟨h1, vs, h2.below hb, h3.below hb⟩
theorem RMf.nil (w : World) (A : Option Addr) : RMf w A 0 [] := ⟨rfl, [], rfl, RdV.nil _ _⟩
theorem RMf.len {A : Option Addr} {n : Nat} {rs : List Mf} (h : RMf w A n rs) : rs.length = n := h.1
theorem RMf.mk {A : Option Addr} {n : Nat} {rs : List Mf} {vs : List Value} (h : MfVs w rs vs) (hr : RdV w A (n * 6) vs) (hn : rs.length = n) : RMf w A n rs := ⟨hn, vs, h, hr⟩
theorem RMf.pos {A : Option Addr} {n : Nat} {rs : List Mf} (h : RMf w A n rs) (hn : 0 < n) : ∃ b off, A = some ⟨b, off, none⟩ ∧ b < w.heap.size := by
  obtain ⟨h1, vs, h2, h3⟩ := h
  exact h3.pos (by omega)
/-- A file's cells. -/
theorem RMf.at_ {b off n : Nat} {rs : List Mf} (h : RMf w (some ⟨b, off, none⟩) n rs) (k : Nat) (hk : k < n) :
    ∃ r v0 v1 v2 v3 v4 v5, rs[k]? = some r ∧ w.cell? ⟨b, off + k * 6, none⟩ = some v0 ∧ w.cell? ⟨b, off + k * 6 + 1, none⟩ = some v1 ∧ w.cell? ⟨b, off + k * 6 + 2, none⟩ = some v2 ∧ w.cell? ⟨b, off + k * 6 + 3, none⟩ = some v3 ∧ w.cell? ⟨b, off + k * 6 + 4, none⟩ = some v4 ∧ w.cell? ⟨b, off + k * 6 + 5, none⟩ = some v5 ∧ MfV w r v0 v1 v2 v3 v4 v5 := by
  obtain ⟨h1, vs, h2, h3⟩ := h
  obtain ⟨b', off', e, hb, hc⟩ := h3.2 (by omega)
  injection e with e
  injection e with e1 e2
  subst e1 e2
  obtain ⟨x, hx⟩ : ∃ x, rs[k]? = some x := ⟨_, List.getElem?_eq_getElem (by omega)⟩
  obtain ⟨v0, v1, v2, v3, v4, v5, e0, e1, e2, e3, e4, e5, g0⟩ := h2.at_ k hx
  refine ⟨x, v0, v1, v2, v3, v4, v5, hx, hc _ _ e0, ?_, ?_, ?_, ?_, ?_, g0⟩
  · rw [Nat.add_assoc]; exact hc _ _ e1
  · rw [Nat.add_assoc]; exact hc _ _ e2
  · rw [Nat.add_assoc]; exact hc _ _ e3
  · rw [Nat.add_assoc]; exact hc _ _ e4
  · rw [Nat.add_assoc]; exact hc _ _ e5
end
/-- 'A row of files of the call's own.' -/
def OwnMf (w : World) (base : Nat) (A : Option Addr) (n c : Nat) (vs : List Value) : Prop := w.ownsRow base 113 6 (.slice A n c) n vs
section
variable {w w' : World} {base n c : Nat} {A : Option Addr} {vs : List Value}
theorem OwnMf.rd (h : OwnMf w base A n c vs) : RdV w A (n * 6) vs := by
  refine ⟨by have := h.1; simpa [Nat.mul_comm] using this, fun hn => ?_⟩
  rcases h.2 with ⟨_, h2⟩ | ⟨g, cap, cur, h1, _, hg, _⟩
  · omega
  · injection h1 with h1
    subst h1
    refine ⟨g, 0, rfl, (Array.getElem?_eq_some_iff.1 hg).1, fun i x hx => ?_⟩
    have := World.ownsRow.cells h (g := g) rfl i _ hx
    simpa [Addr.add_lit] using this
theorem OwnMf.cap (h : OwnMf w base A n c vs) : n ≤ c ∧ c ≤ maxLen := by
  rcases h.2 with ⟨h1, h2⟩ | ⟨g, cap, cur, h1, _, _, h2, h3, _⟩
  · injection h1 with h1 h2 h3
    subst h2 h3
    unfold maxLen
    omega
  · injection h1 with _ _ h4
    subst h4
    exact ⟨h2, h3⟩
theorem OwnMf.lt (h : OwnMf w base A n c vs) (b : Nat) (hb : blk A = some b) : base ≤ b ∧ b < w.heap.size := World.ownsRow.lt h b (by rw [own_blk]; exact hb)
theorem OwnMf.nil (w : World) (base : Nat) : OwnMf w base none 0 0 [] := World.ownsRow_nil _ _ _ _
theorem OwnMf.below (h : OwnMf w base A n c vs) (hb : Below w.heap.size w w') : OwnMf w' base A n c vs := by
  refine ⟨h.1, ?_⟩
  rcases h.2 with h1 | ⟨g, cap, cur, h1, h2, h3, h4⟩
  · exact .inl h1
  · exact .inr ⟨g, cap, cur, h1, h2, (hb.block g (Array.getElem?_eq_some_iff.1 h3).1).trans h3, h4⟩
theorem OwnMf.nil_of (h : OwnMf w base A n c vs) (hA : A = none) : c = 0 := by
  subst hA
  rcases h.2 with ⟨h1, _⟩ | ⟨g, cap, cur, h1, _⟩
  · injection h1
  · injection h1 with h1; cases h1
theorem OwnMf.mono {base' : Nat} (h : OwnMf w base A n c vs) (hb : base' ≤ base) : OwnMf w base' A n c vs := by
  refine ⟨h.1, ?_⟩
  rcases h.2 with h1 | ⟨g, cap, cur, h1, h2, h3⟩
  · exact .inl h1
  · exact .inr ⟨g, cap, cur, h1, by omega, h3⟩
theorem OwnMf.kept {row : Option Nat} (h : OwnMf w base A n c vs) (hg : w.grownBy w' row) (hne : ∀ b, blk A = some b → row ≠ some b) : OwnMf w' base A n c vs := by
  refine World.ownsRow.kept h hg ?_
  rw [own_blk]
  cases hb : blk A with
  | none => exact .inl rfl
  | some b => exact .inr (fun e => hne b hb e.symm)
theorem OwnMf.at0 (h : OwnMf w base A n c vs) (g : Nat) (hA : blk A = some g) : A = some ⟨g, 0, none⟩ := by
  rcases h.2 with ⟨h1, _⟩ | ⟨k, cap, cur, h1, _⟩
  · injection h1 with h1; rw [h1] at hA; cases hA
  · injection h1 with h1
    rw [h1] at hA ⊢
    injection hA with hA
    simp only at hA
    rw [hA]
end
theorem info_mf : (Try.prog.info? 113).map (fun i => (i.zero, i.size, i.bytes)) = some (some (.agg #[.slice none 0 0, .slice none 0 0, .int .i64 0, .int .i64 0, .int .u64 0, .int .i64 0]), 6, 80) := by kernel_rfl
/-- The same in plain code. -/
theorem wpList_app6 {P : Program} (w : World) {ops : Array Oper} {rest : List Oper} {o : Oper} {a : Act} {Q : Exit → Act → World → Prop} (hgd : o.guard = none) (s x : Operand) (tt : TypeId)
    (ho : o.op = .call { callee := .builtin .append, args := #[s, x], argTypes := #[tt, tt] })
    (base : Nat) (z : Value) (by_ : Nat) (ht : P.underlying tt = some (.slice 113)) (hi : (P.info? 113).map (fun i => (i.zero, i.size, i.bytes)) = some (some z, 6, by_)) (hz1 : z.cells.size = 6)
    (A : Option Addr) (n c : Nat) (vs : List Value) (hs : a.eval s = .slice A n c) (hown : OwnMf w base A n c vs)
    (ad : Addr) (m d : Nat) (ys : List Value) (hx : a.eval x = .slice (some ad) m d) (hr : RdV w (some ad) (m * 6) ys) (hm : 0 < m) (h1 : ∀ u ∈ ys, u.oneCell' = true)
    (hn : n + m ≤ maxLen) (hby : (n + m) * by_ ≤ 140737488355328) (hbase : base ≤ w.heap.size)
    (h : ∀ A' c' w', OwnMf w' base A' (n + m) c' (vs ++ ys) → w.grownBy w' (blk A) → (blk A' = blk A ∨ blk A' = some w.heap.size) → wpList P ops Q rest (a.put o.dst (.slice A' (n + m) c')) w') : wpList P ops Q (o :: rest) a w := by
  obtain ⟨i, hi, hz, hsz, hby2⟩ := info_parts hi
  obtain ⟨b, off, e, _, hc⟩ := hr.2 (by omega)
  injection e with e
  subst e
  refine wpList_append_own_at (w := w) hgd s x tt ho base 113 i z 6 by_ ht hi hz hsz hby2 hz1 (by decide) (.slice A n c) n vs hs hown ⟨b, off, none⟩ m d ys hx hr.1 (fun j u hj => by rw [Addr.add_lit]; exact hc j u hj) h1 hn hby hbase ?_
  intro v' w' k1 k2 _ k3
  obtain ⟨A', c', rfl⟩ : ∃ A' c', v' = .slice A' (n + m) c' := by
    rcases k1.2 with ⟨h3, h4⟩ | ⟨g, cap, cur, h3, _⟩
    · exact ⟨none, 0, by rw [h3, h4]⟩
    · exact ⟨_, _, h3⟩
  rw [own_blk] at k2
  rw [own_blk, own_blk] at k3
  exact h A' c' w' k1 k2 k3

theorem rdv_of_cl6 {w : World} {g : Nat} {v0 v1 v2 v3 v4 v5 : Value} {t : TypeId} (h : Cl w g #[v0, v1, v2, v3, v4, v5] t) : RdV w (some ⟨g, 0, none⟩) (1 * 6) [v0, v1, v2, v3, v4, v5] :=
  ⟨rfl, fun _ => ⟨g, 0, rfl, h.lt, fun i x hx => by rw [Nat.zero_add, h.cell i]; simpa using hx⟩⟩
end Go.Proofs.Ytlnpicfkcahdbaa
