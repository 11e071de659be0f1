/- A node keeps no memory of what it is handed, and its answers are memory of their own. Condition: the arguments hold at most 1048576 bytes in all. -/
import Derived.Test.YtlnpicfkcahdbaaMgA
import Derived.Laws.MakeOwn
import Derived.Test.YtlnpicfkcahdbaaNext
import Derived.Test.YtlnpicfkcahdbaaInter
import Derived.Test.YtlnpicfkcahdbaaEnD
import Derived.Deep.RegionLaw
import Derived.Test.YtlnpicfkcahdbaaEnL
import Derived.Test.YtlnpicfkcahdbaaEnB
import Derived.Test.YtlnpicfkcahdbaaFrW
import Derived.Deep.DeepCutAuto
import Derived.Deep.CutBlock
import Derived.IntWalk
import Derived.Laws.BytesArg
import Derived.Deep.QuietTactic
import Derived.BigQuiet
import Derived.Test.YtlnpicfkcahdbaaEnI
import Derived.Test.YtlnpicfkcahdbaaBits
import Derived.Handy
import Derived.Test.YtlnpicfkcahdbaaAwake
import Derived.Lib.SmallJoins
import Derived.Test.YtlnpicfkcahdbaaApartF
import Derived.Test.YtlnpicfkcahdbaaKept
import Derived.Test.YtlnpicfkcahdbaaRows
import Derived.Test.YtlnpicfkcahdbaaOpen
import Derived.ProofKit
import Derived.OpenShut
import Derived.ShutString
import Derived.ChangeOld
import Derived.SizedLaws
import Derived.JoinedCond
import Derived.Deep.CondSized
import Derived.Deep.Matrix
import Derived.Test.YtlnpicfkcahdbaaBulk
namespace Go.Proofs.Ytlnpicfkcahdbaa
open Go Go.RowKit

section
variable {w : World} {A : Option Addr} {n c : Nat} {es : List En}
end
end Go.Proofs.Ytlnpicfkcahdbaa
namespace Go.Proofs.Ytlnpicfkcahdbaa
open Go Go.RowKit

/-- A log's entry as plain data: its term and its bytes. -/
abbrev Le := Nat × List UInt8
/-- 'These two values are the entry e.' -/
def LV (w : World) (e : Le) (v0 v1 : Value) : Prop := v0 = .int .u64 (e.1 : Int) ∧ U64 e.1 ∧ ElB w v1 e.2
def LVs (w : World) : List Le → List Value → Prop
  | [], vs => vs = []
  | e :: es, vs => ∃ v0 v1 r, vs = v0 :: v1 :: r ∧ LV w e v0 v1 ∧ LVs w es r
/-- 'The slice of n entries at A reads as these.' -/
def RLg (w : World) (A : Option Addr) (n : Nat) (es : List Le) : Prop := es.length = n ∧ ∃ vs, LVs w es vs ∧ RdV w A (n * 2) vs
section
variable {w w' : World}
theorem LV.below {e : Le} {v0 v1 : Value} (h : LV w e v0 v1) (hb : Below w.heap.size w w') : LV w' e v0 v1 := ⟨h.1, h.2.1, h.2.2.below hb⟩
theorem LV.parts {e : Le} {v0 v1 : Value} (h : LV w e v0 v1) : ∃ K kn kc, v0 = .int .u64 (e.1 : Int) ∧ v1 = .slice K kn kc ∧ Rd w K kn e.2 ∧ kn ≤ kc ∧ (K = none → kc = 0) ∧ U64 e.1 := by
  obtain ⟨h1, h2, K, kn, kc, e1, r1, c1, d1⟩ := h
  exact ⟨K, kn, kc, h1, e1, r1, c1, d1, h2⟩
theorem LV.cells {e : Le} {v0 v1 : Value} (h : LV w e v0 v1) : ∀ u ∈ [v0, v1], u.oneCell' = true := by
  obtain ⟨K, kn, kc, rfl, rfl, _⟩ := h.parts
  intro u hu
  simp only [List.mem_cons, List.not_mem_nil, or_false] at hu
  rcases hu with rfl | rfl <;> rfl
theorem LVs.below (hb : Below w.heap.size w w') : ∀ {es : List Le} {vs : List Value}, LVs w es vs → LVs w' es vs
  | [], _, h => h
  | _ :: _, _, ⟨v0, v1, r, e, h1, h2⟩ => ⟨v0, v1, r, e, h1.below hb, LVs.below hb h2⟩
theorem LVs.len : ∀ {es : List Le} {vs : List Value}, LVs w es vs → vs.length = es.length * 2
  | [], _, h => by rw [h]; rfl
  | _ :: _, _, ⟨v0, v1, r, e, h1, h2⟩ => by
    have := LVs.len h2
    rw [e]
    simp only [List.length_cons]
    omega
theorem LVs.app : ∀ {es gs : List Le} {vs us : List Value}, LVs w es vs → LVs w gs us → LVs w (es ++ gs) (vs ++ us)
  | [], _, _, _, h, h2 => by rw [h]; exact h2
  | _ :: _, _, _, _, ⟨v0, v1, r, e, h1, h2⟩, h3 => ⟨v0, v1, _, by rw [e]; rfl, h1, LVs.app h2 h3⟩
theorem LVs.one {e : Le} {v0 v1 : Value} (h : LV w e v0 v1) : LVs w [e] [v0, v1] := ⟨v0, v1, [], rfl, h, rfl⟩
theorem LVs.drop : ∀ {es : List Le} {vs : List Value} (i : Nat), LVs w es vs → LVs w (es.drop i) (vs.drop (i * 2))
  | [], _, i, h => by rw [h]; simp [LVs]
  | _ :: _, _, 0, h => by simpa using h
  | _ :: _, _, i + 1, ⟨v0, v1, r, e, h1, h2⟩ => by
    have := LVs.drop i h2
    rw [e, show (i + 1) * 2 = i * 2 + 2 by omega]
    exact this
theorem LVs.take : ∀ {es : List Le} {vs : List Value} (i : Nat), LVs w es vs → LVs w (es.take i) (vs.take (i * 2))
  | [], _, i, h => by rw [h]; simp [LVs]
  | _ :: _, _, 0, _ => by simp [LVs]
  | _ :: _, _, i + 1, ⟨v0, v1, r, e, h1, h2⟩ => ⟨v0, v1, r.take (i * 2), by rw [e, show (i + 1) * 2 = i * 2 + 2 by omega]; rfl, h1, LVs.take i h2⟩
theorem LVs.at_ : ∀ {es : List Le} {vs : List Value} (i : Nat) {e : Le}, LVs w es vs → es[i]? = some e → ∃ v0 v1, vs[i * 2]? = some v0 ∧ vs[i * 2 + 1]? = some v1 ∧ LV w e v0 v1
  | [], _, i, e, _, h => by simp at h
  | g :: _, _, 0, e, ⟨v0, v1, r, q, h1, h2⟩, h => by
    simp only [List.getElem?_cons_zero, Option.some.injEq] at h
    subst h q
    exact ⟨v0, v1, rfl, rfl, h1⟩
  | _ :: _, _, i + 1, e, ⟨v0, v1, r, q, h1, h2⟩, h => by
    rw [List.getElem?_cons_succ] at h
    obtain ⟨a, b, e0, e1, e4⟩ := LVs.at_ i h2 h
    subst q
    refine ⟨a, b, ?_, ?_, e4⟩
    · rw [show (i + 1) * 2 = i * 2 + 2 by omega]; exact e0
    · rw [show (i + 1) * 2 + 1 = i * 2 + 1 + 2 by omega]; exact e1
theorem LVs.cells : ∀ {es : List Le} {vs : List Value}, LVs w es vs → ∀ u ∈ vs, u.oneCell' = true
  | [], _, h, u, hu => by rw [h] at hu; cases hu
  | _ :: _, _, ⟨v0, v1, r, e, h1, h2⟩, u, hu => by
    subst e
    have hc := h1.cells
    simp only [List.mem_cons] at hu
    rcases hu with rfl | rfl | hu
    · exact hc _ (by simp)
    · exact hc _ (by simp)
    · exact LVs.cells h2 u hu
theorem RLg.below {A : Option Addr} {n : Nat} {es : List Le} (h : RLg w A n es) (hb : Below w.heap.size w w') : RLg w' A n es := by
  obtain ⟨h1, vs, h2, h3⟩ := h
  exact ⟨h1, vs, h2.below hb, h3.below hb⟩
theorem RLg.nil (w : World) (A : Option Addr) : RLg w A 0 [] := ⟨rfl, [], rfl, RdV.nil _ _⟩
theorem RLg.len {A : Option Addr} {n : Nat} {es : List Le} (h : RLg w A n es) : es.length = n := h.1
theorem RLg.mk {A : Option Addr} {n : Nat} {es : List Le} {vs : List Value} (h : LVs w es vs) (hr : RdV w A (n * 2) vs) (hn : es.length = n) : RLg w A n es := ⟨hn, vs, h, hr⟩
theorem RLg.pos {A : Option Addr} {n : Nat} {es : List Le} (h : RLg w A n es) (hn : 0 < n) : ∃ b off, A = some ⟨b, off, none⟩ ∧ b < w.heap.size := by
  obtain ⟨h1, vs, h2, h3⟩ := h
  exact h3.pos (by omega)
/-- An entry's cells. -/
theorem RLg.at_ {b off n : Nat} {es : List Le} (h : RLg w (some ⟨b, off, none⟩) n es) (k : Nat) (hk : k < n) :
    ∃ e v0 v1, es[k]? = some e ∧ w.cell? ⟨b, off + k * 2, none⟩ = some v0 ∧ w.cell? ⟨b, off + k * 2 + 1, none⟩ = some v1 ∧ LV w e v0 v1 := by
  obtain ⟨h1, vs, h2, h3⟩ := h
  obtain ⟨b', off', e, hb, hc⟩ := h3.2 (by omega)
  injection e with e
  injection e with e1 e2
  subst e1 e2
  obtain ⟨x, hx⟩ : ∃ x, es[k]? = some x := ⟨_, List.getElem?_eq_getElem (by omega)⟩
  obtain ⟨v0, v1, e0, e1, g0⟩ := h2.at_ k hx
  refine ⟨x, v0, v1, hx, hc _ _ e0, ?_, g0⟩
  rw [Nat.add_assoc]; exact hc _ _ e1
/-- What stands behind the first k. -/
theorem RLg.drop {b off n : Nat} {es : List Le} (h : RLg w (some ⟨b, off, none⟩) n es) (k : Nat) (hk : k ≤ n) : RLg w (some ⟨b, off + k * 2, none⟩) (n - k) (es.drop k) := by
  obtain ⟨h1, vs, h2, h3⟩ := h
  refine ⟨by rw [List.length_drop, h1], vs.drop (k * 2), h2.drop k, by rw [List.length_drop, h3.1, Nat.sub_mul], fun hn => ?_⟩
  obtain ⟨b', off', e, hb, hc⟩ := h3.2 (by omega)
  injection e with e
  injection e with e1 e2
  subst e1 e2
  refine ⟨b, off + k * 2, rfl, hb, fun i v hv => ?_⟩
  rw [List.getElem?_drop] at hv
  have := hc _ _ hv
  rw [Nat.add_assoc]
  exact this
theorem RLg.take {A : Option Addr} {n : Nat} {es : List Le} (h : RLg w A n es) (k : Nat) (hk : k ≤ n) : RLg w A k (es.take k) := by
  obtain ⟨h1, vs, h2, h3⟩ := h
  refine ⟨by rw [List.length_take, h1]; omega, vs.take (k * 2), h2.take k, by rw [List.length_take, h3.1]; omega, fun hn => ?_⟩
  obtain ⟨b, off, e, hb, hc⟩ := h3.2 (by omega)
  refine ⟨b, off, e, hb, fun i v hv => hc i v ?_⟩
  rw [List.getElem?_take] at hv
  split at hv
  · exact hv
  · cases hv
theorem RLg.wf {A : Option Addr} {n : Nat} {es : List Le} (h : RLg w A n es) : ∀ e ∈ es, U64 e.1 := by
  obtain ⟨h1, vs, h2, _⟩ := h
  intro e he
  obtain ⟨i, hi⟩ := List.mem_iff_getElem?.1 he
  obtain ⟨_, _, _, _, g⟩ := h2.at_ i hi
  exact g.2.1
end

/-- 'A row of entries of the call's own.' -/
def OwnG (w : World) (base : Nat) (A : Option Addr) (n c : Nat) (vs : List Value) : Prop := w.ownsRow base 44 2 (.slice A n c) n vs
section
variable {w w' : World} {base n c : Nat} {A : Option Addr} {vs : List Value}
theorem OwnG.rd (h : OwnG w base A n c vs) : RdV w A (n * 2) vs := by
  refine ⟨by have := h.1; simpa [Nat.mul_comm] using this, fun hn => ?_⟩
  rcases h.2 with ⟨_, h2⟩ | ⟨g, cap, cur, h1, _, hg, _⟩
  · omega
  · injection h1 with h1
    subst h1
    refine ⟨g, 0, rfl, (Array.getElem?_eq_some_iff.1 hg).1, fun i x hx => ?_⟩
    have := World.ownsRow.cells h (g := g) rfl i _ hx
    simpa [Addr.add_lit] using this
theorem OwnG.cap (h : OwnG w base A n c vs) : n ≤ c ∧ c ≤ maxLen := by
  rcases h.2 with ⟨h1, h2⟩ | ⟨g, cap, cur, h1, _, _, h2, h3, _⟩
  · injection h1 with h1 h2 h3
    subst h2 h3
    unfold maxLen
    omega
  · injection h1 with _ _ h4
    subst h4
    exact ⟨h2, h3⟩
theorem OwnG.lt (h : OwnG w base A n c vs) (b : Nat) (hb : blk A = some b) : base ≤ b ∧ b < w.heap.size := World.ownsRow.lt h b (by rw [own_blk]; exact hb)
theorem OwnG.nil (w : World) (base : Nat) : OwnG w base none 0 0 [] := World.ownsRow_nil _ _ _ _
theorem OwnG.below (h : OwnG w base A n c vs) (hb : Below w.heap.size w w') : OwnG w' base A n c vs := by
  refine ⟨h.1, ?_⟩
  rcases h.2 with h1 | ⟨g, cap, cur, h1, h2, h3, h4⟩
  · exact .inl h1
  · exact .inr ⟨g, cap, cur, h1, h2, (hb.block g (Array.getElem?_eq_some_iff.1 h3).1).trans h3, h4⟩
theorem OwnG.nil_of (h : OwnG w base A n c vs) (hA : A = none) : c = 0 := by
  subst hA
  rcases h.2 with ⟨h1, _⟩ | ⟨g, cap, cur, h1, _⟩
  · injection h1
  · injection h1 with h1; cases h1
theorem OwnG.mono {base' : Nat} (h : OwnG w base A n c vs) (hb : base' ≤ base) : OwnG w base' A n c vs := by
  refine ⟨h.1, ?_⟩
  rcases h.2 with h1 | ⟨g, cap, cur, h1, h2, h3⟩
  · exact .inl h1
  · exact .inr ⟨g, cap, cur, h1, by omega, h3⟩
theorem OwnG.kept {row : Option Nat} (h : OwnG w base A n c vs) (hg : w.grownBy w' row) (hne : ∀ b, blk A = some b → row ≠ some b) : OwnG w' base A n c vs := by
  refine World.ownsRow.kept h hg ?_
  rw [own_blk]
  cases hb : blk A with
  | none => exact .inl rfl
  | some b => exact .inr (fun e => hne b hb e.symm)
theorem OwnG.at0 (h : OwnG w base A n c vs) (g : Nat) (hA : blk A = some g) : A = some ⟨g, 0, none⟩ := by
  rcases h.2 with ⟨h1, _⟩ | ⟨k, cap, cur, h1, _⟩
  · injection h1 with h1; rw [h1] at hA; cases hA
  · injection h1 with h1
    rw [h1] at hA ⊢
    injection hA with hA
    simp only at hA
    rw [hA]
end
theorem info_le : (Try.prog.info? 44).map (fun i => (i.zero, i.size, i.bytes)) = some (some (.agg #[.int .u64 0, .slice none 0 0]), 2, 32) := by kernel_rfl
/-- Entries appended at a step of a region that draws its order. -/
theorem wp_app2 {P : Program} (w : World) {o : Oper} {a : Act} {K : Act → World → Prop} {Q : Exit → Act → World → Prop} (s x : Operand) (tt : TypeId)
    (ho : o.op = .call { callee := .builtin .append, args := #[s, x], argTypes := #[tt, tt] })
    (base : Nat) (z : Value) (by_ : Nat) (ht : P.underlying tt = some (.slice 44)) (hi : (P.info? 44).map (fun i => (i.zero, i.size, i.bytes)) = some (some z, 2, by_)) (hz1 : z.cells.size = 2)
    (A : Option Addr) (n c : Nat) (vs : List Value) (hs : a.eval s = .slice A n c) (hown : OwnG w base A n c vs)
    (ad : Addr) (m d : Nat) (ys : List Value) (hx : a.eval x = .slice (some ad) m d) (hr : RdV w (some ad) (m * 2) ys) (hm : 0 < m) (h1 : ∀ u ∈ ys, u.oneCell' = true)
    (hn : n + m ≤ maxLen) (hby : (n + m) * by_ ≤ 140737488355328) (hbase : base ≤ w.heap.size)
    (h : ∀ A' c' w', OwnG w' base A' (n + m) c' (vs ++ ys) → w.grownBy w' (blk A) → K (a.put o.dst (.slice A' (n + m) c')) w') : o.wp P a w K Q := by
  obtain ⟨i, hi, hz, hsz, hby2⟩ := info_parts hi
  obtain ⟨b, off, e, _, hc⟩ := hr.2 (by omega)
  injection e with e
  subst e
  refine wp_append_own w s x tt ho base 44 i z 2 by_ ht hi hz hsz hby2 hz1 (by decide) (.slice A n c) n vs hs hown ⟨b, off, none⟩ m d ys hx hr.1 (fun j u hj => by rw [Addr.add_lit]; exact hc j u hj) h1 hn hby hbase ?_
  intro v' w' k1 k2 _
  obtain ⟨A', c', rfl⟩ : ∃ A' c', v' = .slice A' (n + m) c' := by
    rcases k1.2 with ⟨h3, h4⟩ | ⟨g, cap, cur, h3, _⟩
    · exact ⟨none, 0, by rw [h3, h4]⟩
    · exact ⟨_, _, h3⟩
  rw [own_blk] at k2
  exact h A' c' w' k1 k2
theorem step_app2 {P : Program} (w : World) {ops : Array Oper} {o : Oper} {a : Act} {K : Act → World → Prop} {Q : Exit → Act → World → Prop} {E : Prop} (hgd : o.guard = none) (s x : Operand) (tt : TypeId)
    (ho : o.op = .call { callee := .builtin .append, args := #[s, x], argTypes := #[tt, tt] })
    (base : Nat) (z : Value) (by_ : Nat) (ht : P.underlying tt = some (.slice 44)) (hi : (P.info? 44).map (fun i => (i.zero, i.size, i.bytes)) = some (some z, 2, by_)) (hz1 : z.cells.size = 2)
    (A : Option Addr) (n c : Nat) (vs : List Value) (hs : a.eval s = .slice A n c) (hown : OwnG w base A n c vs)
    (ad : Addr) (m d : Nat) (ys : List Value) (hx : a.eval x = .slice (some ad) m d) (hr : RdV w (some ad) (m * 2) ys) (hm : 0 < m) (h1 : ∀ u ∈ ys, u.oneCell' = true)
    (hn : n + m ≤ maxLen) (hby : (n + m) * by_ ≤ 140737488355328) (hbase : base ≤ w.heap.size)
    (h : ∀ A' c' w', OwnG w' base A' (n + m) c' (vs ++ ys) → w.grownBy w' (blk A) → K (a.put o.dst (.slice A' (n + m) c')) w') :
    if Region.wanted o (yielded ops a.tmps) = true then Oper.wp P o a w K Q else E := by
  have hw : Region.wanted o (yielded ops a.tmps) = true := by simp [Region.wanted, hgd]
  rw [if_pos hw]
  exact wp_app2 w s x tt ho base z by_ ht hi hz1 A n c vs hs hown ad m d ys hx hr hm h1 hn hby hbase h
/-- The same in plain code. -/
theorem wpList_app2 {P : Program} (w : World) {ops : Array Oper} {rest : List Oper} {o : Oper} {a : Act} {Q : Exit → Act → World → Prop} (hgd : o.guard = none) (s x : Operand) (tt : TypeId)
    (ho : o.op = .call { callee := .builtin .append, args := #[s, x], argTypes := #[tt, tt] })
    (base : Nat) (z : Value) (by_ : Nat) (ht : P.underlying tt = some (.slice 44)) (hi : (P.info? 44).map (fun i => (i.zero, i.size, i.bytes)) = some (some z, 2, by_)) (hz1 : z.cells.size = 2)
    (A : Option Addr) (n c : Nat) (vs : List Value) (hs : a.eval s = .slice A n c) (hown : OwnG w base A n c vs)
    (ad : Addr) (m d : Nat) (ys : List Value) (hx : a.eval x = .slice (some ad) m d) (hr : RdV w (some ad) (m * 2) ys) (hm : 0 < m) (h1 : ∀ u ∈ ys, u.oneCell' = true)
    (hn : n + m ≤ maxLen) (hby : (n + m) * by_ ≤ 140737488355328) (hbase : base ≤ w.heap.size)
    (h : ∀ A' c' w', OwnG w' base A' (n + m) c' (vs ++ ys) → w.grownBy w' (blk A) → (blk A' = blk A ∨ blk A' = some w.heap.size) → wpList P ops Q rest (a.put o.dst (.slice A' (n + m) c')) w') : wpList P ops Q (o :: rest) a w := by
  obtain ⟨i, hi, hz, hsz, hby2⟩ := info_parts hi
  obtain ⟨b, off, e, _, hc⟩ := hr.2 (by omega)
  injection e with e
  subst e
  refine wpList_append_own_at (w := w) hgd s x tt ho base 44 i z 2 by_ ht hi hz hsz hby2 hz1 (by decide) (.slice A n c) n vs hs hown ⟨b, off, none⟩ m d ys hx hr.1 (fun j u hj => by rw [Addr.add_lit]; exact hc j u hj) h1 hn hby hbase ?_
  intro v' w' k1 k2 _ k3
  obtain ⟨A', c', rfl⟩ : ∃ A' c', v' = .slice A' (n + m) c' := by
    rcases k1.2 with ⟨h3, h4⟩ | ⟨g, cap, cur, h3, _⟩
    · exact ⟨none, 0, by rw [h3, h4]⟩
    · exact ⟨_, _, h3⟩
  rw [own_blk] at k2
  rw [own_blk, own_blk] at k3
  exact h A' c' w' k1 k2 k3

theorem rdv_of_cl2 {w : World} {g : Nat} {v0 v1 : Value} {t : TypeId} (h : Cl w g #[v0, v1] t) : RdV w (some ⟨g, 0, none⟩) (1 * 2) [v0, v1] :=
  ⟨rfl, fun _ => ⟨g, 0, rfl, h.lt, fun i x hx => by rw [Nat.zero_add, h.cell i]; simpa using hx⟩⟩
/-- The values of entries whose bytes are these slices. -/
def flatL : List Le → List VB → List Value
  | e :: es, p :: ps => .int .u64 (e.1 : Int) :: p.1 :: flatL es ps
  | _, _ => []
theorem flatL_app {gs : List Le} {qs : List VB} : ∀ {es : List Le} {ps : List VB}, ps.length = es.length → flatL (es ++ gs) (ps ++ qs) = flatL es ps ++ flatL gs qs
  | [], [], _ => rfl
  | [], p :: ps, h => by simp at h
  | e :: es, [], h => by simp at h
  | e :: es, p :: ps, h => by
    simp only [List.cons_append, flatL]
    rw [flatL_app (by simpa using h)]
theorem lvs_of_fam {w : World} {base : Nat} : ∀ {es : List Le} {ps : List VB}, Fam w base ps → ps.map (·.2) = es.map (·.2) → (∀ e ∈ es, U64 e.1) → LVs w es (flatL es ps)
  | [], ps, _, _, _ => by cases ps <;> rfl
  | e :: es, [], _, h, _ => by simp at h
  | e :: es, p :: ps, hf, h, hu => by
    simp only [List.map_cons, List.cons.injEq] at h
    obtain ⟨A, m, c, e1, ho⟩ := hf.1 p (by simp)
    refine ⟨_, _, _, rfl, ⟨rfl, hu e (by simp), ?_⟩, lvs_of_fam (base := base) ⟨fun q hq => hf.1 q (by simp [hq]), (List.pairwise_cons.1 hf.2).2⟩ h.2 (fun x hx => hu x (by simp [hx]))⟩
    rw [e1, ← h.1]
    exact elb_own ho
/-- 'A row of entries that the call has made, their bytes its own; no two share memory.' -/
def RowL (W : World) (base : Nat) (L : Option Addr) (i d : Nat) (es : List Le) (ps : List VB) (wr : World) : Prop :=
  OwnG wr base L i d (flatL es ps) ∧ Fam wr base ps ∧ ps.map (·.2) = es.map (·.2) ∧ (∀ e ∈ es, U64 e.1) ∧ es.length = i ∧ Below base W wr ∧ base ≤ wr.heap.size
section
variable {W wr w4 U : World} {base i d d' : Nat} {L L' : Option Addr} {es : List Le} {ps : List VB} {e : Le}
theorem RowL.zero (W : World) (base : Nat) (hb : base ≤ W.heap.size) : RowL W base none 0 0 [] [] W := ⟨OwnG.nil _ _, Fam.nil _ _, rfl, (fun e h => by cases h), rfl, Below.refl _ _, hb⟩
theorem RowL.own (h : RowL W base L i d es ps wr) : OwnG wr base L i d (flatL es ps) := h.1
theorem RowL.fam (h : RowL W base L i d es ps wr) : Fam wr base ps := h.2.1
theorem RowL.dat (h : RowL W base L i d es ps wr) : ps.map (·.2) = es.map (·.2) := h.2.2.1
theorem RowL.wf (h : RowL W base L i d es ps wr) : ∀ e ∈ es, U64 e.1 := h.2.2.2.1
theorem RowL.len (h : RowL W base L i d es ps wr) : es.length = i := h.2.2.2.2.1
theorem RowL.bel (h : RowL W base L i d es ps wr) : Below base W wr := h.2.2.2.2.2.1
theorem RowL.size (h : RowL W base L i d es ps wr) : base ≤ wr.heap.size := h.2.2.2.2.2.2
theorem RowL.plen (h : RowL W base L i d es ps wr) : ps.length = es.length := by have := congrArg List.length h.dat; simpa using this
theorem RowL.below {w' : World} (h : RowL W base L i d es ps wr) (hb : Below wr.heap.size wr w') : RowL W base L i d es ps w' := by
  obtain ⟨h1, h2, h3, h4, h5, h6, h7⟩ := h
  exact ⟨h1.below hb, h2.below hb, h3, h4, h5, h6.trans (hb.mono h7), Nat.le_trans h7 hb.size⟩
theorem RowL.rd (h : RowL W base L i d es ps wr) : RLg wr L i es := RLg.mk (lvs_of_fam h.fam h.dat h.wf) h.own.rd h.len
theorem fam_off_G {w : World} {b1 b2 n c : Nat} {A : Option Addr} {vs : List Value} {qs : List VB} (hf : Fam w b1 qs) (h : OwnG w b2 A n c vs) : ∀ b, blk A = some b → OffF qs b := fun b hb q hq e => by
  obtain ⟨A', m, d, e1, ho⟩ := hf.1 q hq
  rw [e1, own_blk] at e
  exact row_ne h ho (by decide) b hb e
/-- One more. -/
theorem RowL.snoc {A : Option Addr} {m c : Nat} {vs : List Value} (h : RowL W base L i d es ps wr) (hU : Below wr.heap.size wr U) (hu : U64 e.1) (ho : Own 5 U wr.heap.size A m c e.2) {V : World} (hV : Below U.heap.size U V)
    (h4 : OwnG w4 base L' (i + 1) d' vs) (hvs : vs = flatL es ps ++ [.int .u64 (e.1 : Int), .slice A m c]) (hg : V.grownBy w4 (blk L)) : RowL W base L' (i + 1) d' (es ++ [e]) (ps ++ [(.slice A m c, e.2)]) w4 := by
  subst hvs
  have hbU := hU.size
  have hbV := hV.size
  have hgs := hg.size
  have hz := h.size
  have hfm : Fam U base (ps ++ [(.slice A m c, e.2)]) := Fam.app h.fam (Fam.one ho) hU (Nat.le_refl _) hz
  have hfv := hfm.below hV
  have hoV : OwnG V base L i d (flatL es ps) := (h.own.below hU).below hV
  refine ⟨?_, hfv.kept hg (fun b e => fam_off_G hfv hoV b e), ?_, ?_, by simp [h.len], ((h.bel.trans (hU.mono hz)).trans (hV.mono (by omega))).grown hg (by omega) (fun k hk => (h.own.lt k hk).1), by omega⟩
  · rw [flatL_app h.plen]
    exact h4
  · rw [List.map_append, List.map_append, h.dat]; rfl
  · intro x hx
    rcases List.mem_append.1 hx with q | q
    · exact h.wf x q
    · rw [List.mem_singleton] at q; rw [q]; exact hu
end
/-- What a list of entries that is made comes to. -/
def RetLg (w : World) (es : List Le) (e : Ending) (w' : World) : Prop := ∃ L n c ps, e = .returned (.slice L n c) ∧ RowL w w.heap.size L n c es ps w'
theorem RetLg.out {w : World} {es : List Le} {e : Ending} {w' : World} (h : RetLg w es e w') : ∃ L n c ps, e = .returned (.slice L n c) ∧ RowL w w.heap.size L n c es ps w' := h
theorem Made.outR {base : Nat} {w w' : World} {xs : List UInt8} {e : Ending} (h : Made base w xs e w') : ∃ A n c, e = .returned (.slice A n c) ∧ Own 5 w' base A n c xs ∧ Below base w w' := h
/-- Bytes that are not too many. -/
def SzL (es : List Le) : Prop := ∀ e ∈ es, e.2.length ≤ 1099511627776
set_option maxRecDepth 100000 in
set_option maxHeartbeats 4000000 in
theorem ownL_any {w : World} {A : Option Addr} {n c : Nat} {es : List Le} (h : RLg w A n es) (hn : n ≤ 1099511627776) (hs : SzL es) : Calls Try.prog 70 #[.slice A n c] w (RetLg w es) := by
  have HL := Lib.hid h.len
  have HS := Lib.hid hs
  have HH := Lib.hid h
  clear hs h
  go_enter Try.func70, Try.ntmps70
  go_wp2_with fail
  go_loopw [3, 8] (fun s3 s8 wr => ∃ (k d : Nat) (L : Option Addr), k ≤ n ∧ s8 = .int .i64 (k : Int) ∧ s3 = .slice L k d ∧ ∃ ps, RowL w w.heap.size L k d (es.take k) ps wr) (fun _ s _ => n - (intOf s).toNat)
  case atStart => exact ⟨0, 0, none, Nat.zero_le _, rfl, rfl, [], RowL.zero _ _ (Nat.le_refl _)⟩
  case round =>
    obtain ⟨k, d, L, hk, rfl, rfl, ps, hrow⟩ := hrel
    have HR := Lib.hid hrow
    have hR : RLg wr A n es := HH.out.below hrow.bel
    clear hrow
    by_cases hlt : k < n
    · obtain ⟨b, off, hAb, hbl⟩ := hR.pos (by omega)
      subst hAb
      obtain ⟨x, v0, v1, hx, m0, m1, hev⟩ := hR.at_ k hlt
      have hsx := HS.out x (List.mem_of_getElem? hx)
      obtain ⟨K, kn, kc, rfl, rfl, rk, hkc, hkd, hwf⟩ := hev.parts
      have hlk := rk.len
      obtain ⟨U, hU⟩ : ∃ U, U = wr.alloc (.cells #[.int .u64 (x.1 : Int), .slice K kn kc] 44) := ⟨_, rfl⟩
      obtain ⟨g0, hg0⟩ : ∃ g0, g0 = wr.heap.size := ⟨_, rfl⟩
      have bU : Below wr.heap.size wr U := by rw [hU]; exact (Below.refl _ _).alloc (Nat.le_refl _) _
      have zU : Cl U g0 #[.int .u64 (x.1 : Int), .slice K kn kc] 44 := by rw [hU, hg0]; exact Cl.new _ _ _
      have HCL : Hid (∀ wx, Below U.heap.size U wx → Calls Try.prog 136 #[.slice K kn kc] wx (Made wx.heap.size wx x.2)) := Lib.hid (fun wx hb => Clone_any K kn kc x.2 wx ((rk.below bU).below hb) (by omega) hkd)
      have HLD : Hid (∀ wx, Below U.heap.size U wx → wx.cell? ⟨g0, 0, none⟩ = some (.int .u64 (x.1 : Int)) ∧ wx.cell? ⟨g0, 1, none⟩ = some (.slice K kn kc)) := Lib.hid (fun wx hb => ⟨(zU.below hb).cell 0, (zU.below hb).cell 1⟩)
      have HRU := Lib.hid (HR.out.below bU)
      have HBU := Lib.hid bU
      have HUE := Lib.hid hU
      have HGE := Lib.hid hg0
      have HX := Lib.hid hx
      have HWF := Lib.hid hwf
      have q0 := zU.cell 0
      have q1 := zU.cell 1
      have hB0 : Below U.heap.size U U := Below.refl _ _
      have hB1 : Below U.heap.size U U.drew := (Below.refl _ _).drew
      clear hx hev hR rk bU zU hU hg0 hsx hlk
      go_upto_region 5 with (fail)
      rw [← HUE.out, ← HGE.out]
      clear m0 m1
      go_region_law (first | (go_simp; go_at_call 136; with_reducible refine (HCL.out _ hB1).mono ?_; intro e w4 hq; obtain ⟨C, cn, cc, h1, oc, b4⟩ := Made.outR hq; subst h1; have b5 := belowT' hB1 b4; obtain ⟨p0, p1⟩ := HLD.out _ b5) | (refine step_app2 _ rfl (Operand.tmp 12) (Operand.tmp 19) 31 rfl w.heap.size _ 32 Try.underlying31 info_le rfl L k d (flatL (es.take k) ps) (by first | (simp [Act.eval]; done) | (simp [Act.eval, Act.put]; done) | rfl) (HRU.out.below (b5.alloc b5.size _)).own ⟨w4.heap.size, 0, none⟩ 1 1 [.int .u64 (x.1 : Int), .slice C cn cc] (by first | (simp [Act.eval]; done) | (simp [Act.eval, Act.put]; done) | rfl) (rdv_of_cl2 (Cl.new w4 #[.int .u64 (x.1 : Int), .slice C cn cc] 44)) (by omega) (by simp [Value.oneCell']) (by unfold maxLen; omega) (by omega) (HRU.out.below (b5.alloc b5.size _)).size ?_; intro L2 d2 w6 hL hg))
      all_goals
        have HQ : Hid (∃ ps, RowL w w.heap.size L2 (k + 1) d2 (es.take (k + 1)) ps w6) := Lib.hid ⟨_, by
          rw [List.take_add_one, HX.out]
          exact RowL.snoc (HRU.out.below hB1) b4 HWF.out oc ((Below.refl _ _).alloc (Nat.le_refl _) _) hL rfl hg⟩
        clear hL hg oc p0 p1 b4 b5
        go_wp2_with fail
        go_roundw
        case rel => exact ⟨k + 1, d2, L2, by omega, by go_num, rfl, HQ.out⟩
        case measure => simp [intOf]; omega
    · obtain rfl : k = n := by omega
      have htk : es.take k = es := List.take_of_length_le (by rw [HL.out]; exact Nat.le_refl _)
      have HF : Hid (RetLg w es (.returned (.slice L k d)) wr) := Lib.hid ⟨L, k, d, ps, rfl, by have := HR.out; rw [htk] at this; exact this⟩
      clear htk hR
      go_wp2_with fail
      go_ret
      exact HF.out
end Go.Proofs.Ytlnpicfkcahdbaa
namespace Go.Proofs.Ytlnpicfkcahdbaa
open Go Go.RowKit

theorem RLs.below {w w' : World} {A : Option Addr} {n : Nat} {ls : List (List En)} (h : RLs w A n ls) (hb : Below w.heap.size w w') : RLs w' A n ls := by
  refine ⟨h.1, fun h0 => ?_⟩
  obtain ⟨b, off, e, hbl, hc⟩ := h.2 h0
  refine ⟨b, off, e, Nat.lt_of_lt_of_le hbl hb.size, fun i es hi => ?_⟩
  obtain ⟨B, m, c, h1, h2, h3⟩ := hc i es hi
  exact ⟨B, m, c, (hb.cell (p := ⟨b, off + i, none⟩) hbl).trans h1, h2.below hb, h3⟩
theorem RLs.len {w : World} {A : Option Addr} {n : Nat} {ls : List (List En)} (h : RLs w A n ls) : ls.length = n := h.1
section
variable {w : World} {A : Option Addr} {n c : Nat} {ls : List (List En)}
end
end Go.Proofs.Ytlnpicfkcahdbaa
namespace Go.Proofs.Ytlnpicfkcahdbaa
open Go Go.RowKit

/-- A node's fields. -/
structure Nd where
  term : Nat
  vote : Int
  base : Nat
  bt : Nat
  E : Value
  id : Int
  n : Int
  lim : Int
  role : Int
  lead : Int
  clock : Int
  commit : Nat
  R : Value
  votes : Nat
  x0 : Nat
  x1 : Nat
  x2 : Nat
  x3 : Nat
  x4 : Nat
  c0 : Nat
  c1 : Nat
  c2 : Nat
  c3 : Nat
  c4 : Nat
def ndC (x : Nd) : Array Value := #[.int .u64 (x.term : Int), .int .i64 x.vote, .int .u64 (x.base : Int), .int .u64 (x.bt : Int), x.E, .int .i64 x.id, .int .i64 x.n, .int .i64 x.lim, .int .i64 x.role, .int .i64 x.lead, .int .i64 x.clock, .int .u64 (x.commit : Int), x.R, .int .u64 (x.votes : Int), .int .u64 (x.x0 : Int), .int .u64 (x.x1 : Int), .int .u64 (x.x2 : Int), .int .u64 (x.x3 : Int), .int .u64 (x.x4 : Int), .int .u64 (x.c0 : Int), .int .u64 (x.c1 : Int), .int .u64 (x.c2 : Int), .int .u64 (x.c3 : Int), .int .u64 (x.c4 : Int)]
/-- 'Block p is this node.' -/
def NdAt (w : World) (p : Nat) (x : Nd) : Prop := Cl w p (ndC x) 48
section
variable {w w' : World} {p : Nat} {x : Nd}
theorem NdAt.below (h : NdAt w p x) (hb : Below w.heap.size w w') : NdAt w' p x := Cl.below h hb
theorem NdAt.grown {row : Option Nat} (h : NdAt w p x) (hg : w.grownBy w' row) (hne : row ≠ some p) : NdAt w' p x := Cl.grown h hg hne
theorem NdAt.fr {bl : List Nat} (h : NdAt w p x) (hf : Fr w w' bl) (hp : p ∉ bl) : NdAt w' p x := (hf.block p (Cl.lt h) hp).trans h
theorem NdAt.lt (h : NdAt w p x) : p < w.heap.size := Cl.lt h
theorem NdAt.thaw (h : NdAt w p x) (i : Nat) : w.frozen? ⟨p, i, none⟩ = false := Cl.thaw h i
theorem NdAt.k0 (h : NdAt w p x) : w.cell? ⟨p, 0, none⟩ = some (.int .u64 (x.term : Int)) := Cl.cell h 0
theorem NdAt.k1 (h : NdAt w p x) : w.cell? ⟨p, 1, none⟩ = some (.int .i64 x.vote) := Cl.cell h 1
theorem NdAt.k2 (h : NdAt w p x) : w.cell? ⟨p, 2, none⟩ = some (.int .u64 (x.base : Int)) := Cl.cell h 2
theorem NdAt.k3 (h : NdAt w p x) : w.cell? ⟨p, 3, none⟩ = some (.int .u64 (x.bt : Int)) := Cl.cell h 3
theorem NdAt.k4 (h : NdAt w p x) : w.cell? ⟨p, 4, none⟩ = some x.E := Cl.cell h 4
theorem NdAt.k5 (h : NdAt w p x) : w.cell? ⟨p, 5, none⟩ = some (.int .i64 x.id) := Cl.cell h 5
theorem NdAt.k6 (h : NdAt w p x) : w.cell? ⟨p, 6, none⟩ = some (.int .i64 x.n) := Cl.cell h 6
theorem NdAt.k7 (h : NdAt w p x) : w.cell? ⟨p, 7, none⟩ = some (.int .i64 x.lim) := Cl.cell h 7
theorem NdAt.k8 (h : NdAt w p x) : w.cell? ⟨p, 8, none⟩ = some (.int .i64 x.role) := Cl.cell h 8
theorem NdAt.k9 (h : NdAt w p x) : w.cell? ⟨p, 9, none⟩ = some (.int .i64 x.lead) := Cl.cell h 9
theorem NdAt.k10 (h : NdAt w p x) : w.cell? ⟨p, 10, none⟩ = some (.int .i64 x.clock) := Cl.cell h 10
theorem NdAt.k11 (h : NdAt w p x) : w.cell? ⟨p, 11, none⟩ = some (.int .u64 (x.commit : Int)) := Cl.cell h 11
theorem NdAt.k12 (h : NdAt w p x) : w.cell? ⟨p, 12, none⟩ = some x.R := Cl.cell h 12
theorem NdAt.s0 (h : NdAt w p x) (z : Nat) : NdAt (w.setCell ⟨p, 0, none⟩ (.int .u64 (z : Int))) p { x with term := z } := Cl.set h 0 _
theorem NdAt.s1 (h : NdAt w p x) (z : Int) : NdAt (w.setCell ⟨p, 1, none⟩ (.int .i64 z)) p { x with vote := z } := Cl.set h 1 _
theorem NdAt.s2 (h : NdAt w p x) (z : Nat) : NdAt (w.setCell ⟨p, 2, none⟩ (.int .u64 (z : Int))) p { x with base := z } := Cl.set h 2 _
theorem NdAt.s3 (h : NdAt w p x) (z : Nat) : NdAt (w.setCell ⟨p, 3, none⟩ (.int .u64 (z : Int))) p { x with bt := z } := Cl.set h 3 _
theorem NdAt.s4 (h : NdAt w p x) (v : Value) : NdAt (w.setCell ⟨p, 4, none⟩ v) p { x with E := v } := Cl.set h 4 _
theorem NdAt.s8 (h : NdAt w p x) (z : Int) : NdAt (w.setCell ⟨p, 8, none⟩ (.int .i64 z)) p { x with role := z } := Cl.set h 8 _
theorem NdAt.s9 (h : NdAt w p x) (z : Int) : NdAt (w.setCell ⟨p, 9, none⟩ (.int .i64 z)) p { x with lead := z } := Cl.set h 9 _
theorem NdAt.s10 (h : NdAt w p x) (z : Int) : NdAt (w.setCell ⟨p, 10, none⟩ (.int .i64 z)) p { x with clock := z } := Cl.set h 10 _
theorem NdAt.s11 (h : NdAt w p x) (z : Nat) : NdAt (w.setCell ⟨p, 11, none⟩ (.int .u64 (z : Int))) p { x with commit := z } := Cl.set h 11 _
theorem NdAt.s12 (h : NdAt w p x) (v : Value) : NdAt (w.setCell ⟨p, 12, none⟩ v) p { x with R := v } := Cl.set h 12 _
end
/-- A number of 64 bits comes back; draws alone. -/
def RetUq (w : World) (z : Nat) (e : Ending) (w' : World) : Prop := e = .returned (.int .u64 (z : Int)) ∧ ∃ q, w' = w.drewN q
theorem RetUq.out {w : World} {z : Nat} {e : Ending} {w' : World} (h : RetUq w z e w') : e = .returned (.int .u64 (z : Int)) ∧ ∃ q, w' = w.drewN q := h
/-- A number and whether it is one. -/
def RetUb (w : World) (o : Option Nat) (e : Ending) (w' : World) : Prop := e = .returned (.tuple #[.int .u64 ((o.getD 0 : Nat) : Int), .bool o.isSome]) ∧ ∃ q, w' = w.drewN q
theorem RetUb.out {w : World} {o : Option Nat} {e : Ending} {w' : World} (h : RetUb w o e w') : e = .returned (.tuple #[.int .u64 ((o.getD 0 : Nat) : Int), .bool o.isSome]) ∧ ∃ q, w' = w.drewN q := h
theorem wrapU (n : Nat) (h : n < 18446744073709551616) : IntKind.u64.wrap (n : Int) = (n : Int) := IntWalk.u64_in _ (by omega)
theorem wrapUa (a b : Nat) (h : a + b < 18446744073709551616) : IntKind.u64.wrap ((a : Int) + (b : Int)) = ((a + b : Nat) : Int) := by rw [IntWalk.u64_in _ (by omega)]; omega
section
variable {w : World} {p : Nat} {x : Nd} {A : Option Addr} {n c : Nat} {es : List Le}
set_option maxRecDepth 100000 in
set_option maxHeartbeats 4000000 in
theorem last_any (h : NdAt w p x) (hE : x.E = .slice A n c) (hn : n ≤ 1099511627776) (hb : x.base ≤ 4611686018427387904) : Calls Try.prog 24 #[.pointer (some ⟨p, 0, none⟩)] w (RetUq w (x.base + n)) := by
  obtain ⟨b, hbd⟩ : ∃ b, b = x.base := ⟨_, rfl⟩
  have c2 : w.cell? ⟨p, 2, none⟩ = some (.int .u64 (b : Int)) := by rw [hbd]; exact h.k2
  have c4 : w.cell? ⟨p, 4, none⟩ = some (.slice A n c) := by rw [← hE]; exact h.k4
  rw [← hbd] at hb ⊢
  have e1 := wrapU n (by omega)
  have e2 := wrapUa b n (by omega)
  clear h hE hbd
  go_enter Try.func24, Try.ntmps24
  go_wp2_with fail
  go_quiet (fail)
  go_wp2_with fail
  go_ret
  exact ⟨by rw [Int.natCast_add]; rfl, _, rfl⟩
/-- The place of an index among the entries. -/
theorem place_any (h : NdAt w p x) (i : Nat) (hi : x.base < i) (hj : i - x.base ≤ 1099511627777) (hb : i ≤ 9223372036854775807) : Calls Try.prog 75 #[.pointer (some ⟨p, 0, none⟩), .int .u64 (i : Int)] w (fun e w' => e = .returned (.int .i64 ((i - x.base - 1 : Nat) : Int)) ∧ w' = w) := by
  obtain ⟨b, hbd⟩ : ∃ b, b = x.base := ⟨_, rfl⟩
  have c2 : w.cell? ⟨p, 2, none⟩ = some (.int .u64 (b : Int)) := by rw [hbd]; exact h.k2
  rw [← hbd] at hi hj ⊢
  have e1 : IntKind.u64.wrap ((i : Int) - (b : Int)) = ((i - b : Nat) : Int) := by rw [IntWalk.u64_in _ (by omega)]; omega
  have e2 : IntKind.u64.wrap (((i - b : Nat) : Int) - 1) = ((i - b - 1 : Nat) : Int) := by rw [IntWalk.u64_in _ (by omega)]; omega
  have e3 : IntKind.i64.wrap ((i - b - 1 : Nat) : Int) = ((i - b - 1 : Nat) : Int) := IntWalk.i64_in _ (by omega)
  clear h hbd
  go_enter Try.func75, Try.ntmps75
  go_wp2_with fail
  go_ret
  exact ⟨rfl, rfl⟩
end
/-- The term at an index, if there is one. -/
def tmA (x : Nd) (es : List Le) (i : Nat) : Option Nat := if i < x.base ∨ x.base + es.length < i then none else if i = x.base then some x.bt else (es[i - x.base - 1]?).map (·.1)
section
variable {w : World} {p : Nat} {x : Nd} {A : Option Addr} {n c : Nat} {es : List Le}
set_option maxRecDepth 100000 in
set_option maxHeartbeats 4000000 in
theorem termAt_any (h : NdAt w p x) (hE : x.E = .slice A n c) (hr : RLg w A n es) (hn : n ≤ 1099511627776) (hb : x.base ≤ 4611686018427387904) (i : Nat) : Calls Try.prog 31 #[.pointer (some ⟨p, 0, none⟩), .int .u64 (i : Int)] w (RetUb w (tmA x es i)) := by
  have HLA := Lib.hid (last_any h hE hn hb)
  have HND := Lib.hid h
  have HR := Lib.hid hr
  have HL := Lib.hid hr.len
  obtain ⟨b, hbd⟩ : ∃ b, b = x.base := ⟨_, rfl⟩
  have c2 : w.cell? ⟨p, 2, none⟩ = some (.int .u64 (b : Int)) := by rw [hbd]; exact h.k2
  have c3 := h.k3
  have c4 : w.cell? ⟨p, 4, none⟩ = some (.slice A n c) := by rw [← hE]; exact h.k4
  rw [← hbd] at hb HLA
  have HT : Hid (tmA x es i = if i < b ∨ b + n < i then none else if i = b then some x.bt else (es[i - b - 1]?).map (·.1)) := Lib.hid (by unfold tmA; rw [HL.out, ← hbd])
  have HB := Lib.hid hbd
  have HE := Lib.hid hE
  clear h hr hE hbd
  by_cases h1 : i < b
  · have t1 : decide (i < b) = true := by simpa using h1
    have HF : Hid (RetUb w (tmA x es i) (.returned (.tuple #[.int .u64 0, .bool false])) w) := Lib.hid ⟨by rw [HT.out, if_pos (.inl h1)]; rfl, 0, rfl⟩
    go_enter Try.func31, Try.ntmps31
    go_wp2_with fail
    exact bodyPost_ret (v := .tuple #[.int .u64 0, .bool false]) (by simp [results, Try.f31, go_sem]; try rfl) rfl HF.out
  · have t1 : decide (i < b) = false := by simpa using h1
    by_cases h2 : b + n < i
    · have t2 : decide (b + n < i) = true := by simpa using h2
      have HF : Hid (∀ q, RetUb w (tmA x es i) (.returned (.tuple #[.int .u64 0, .bool false])) (w.drewN q)) := Lib.hid (fun q => ⟨by rw [HT.out, if_pos (.inr h2)]; rfl, q, rfl⟩)
      go_enter Try.func31, Try.ntmps31
      go_wp2_with fail
      with_reducible refine HLA.out.mono ?_
      intro e w1 hq
      obtain ⟨h3, q, h4⟩ := hq.out
      subst h3 h4
      go_wp2_with fail
      exact bodyPost_ret (v := .tuple #[.int .u64 0, .bool false]) (by simp [results, Try.f31, go_sem]; try rfl) rfl (HF.out q)
    · have t2 : decide (b + n < i) = false := by simpa using h2
      by_cases h3 : i = b
      · have t3 : ((i : Int) == (b : Int)) = true := by rw [beq_iff_eq]; omega
        have HF : Hid (∀ q, RetUb w (tmA x es i) (.returned (.tuple #[.int .u64 (x.bt : Int), .bool true])) (w.drewN q)) := Lib.hid (fun q => ⟨by rw [HT.out, if_neg (by omega), if_pos h3]; rfl, q, rfl⟩)
        go_enter Try.func31, Try.ntmps31
        clear h3
        go_wp2_with fail
        with_reducible refine HLA.out.mono ?_
        intro e w1 hq
        obtain ⟨h3, q, h4⟩ := hq.out
        subst h3 h4
        go_wp2_with fail
        exact bodyPost_ret (v := .tuple #[.int .u64 (x.bt : Int), .bool true]) (by simp [results, Try.f31, go_sem]; try rfl) rfl (HF.out q)
      · have t3 : ((i : Int) == (b : Int)) = false := by rw [beq_eq_false_iff_ne]; omega
        obtain ⟨bb, off, hA, _⟩ := HR.out.pos (by omega)
        subst hA
        obtain ⟨k, hk⟩ : ∃ k, k = i - b - 1 := ⟨_, rfl⟩
        have hkn : k < n := by omega
        obtain ⟨y, v0, v1, hy, m0, m1, hv⟩ := HR.out.at_ k hkn
        obtain ⟨K, kn, kc, rfl, rfl, _⟩ := hv.parts
        have HPL : Hid (∀ q, Calls Try.prog 75 #[.pointer (some ⟨p, 0, none⟩), .int .u64 (i : Int)] (w.drewN q) (fun e w' => e = .returned (.int .i64 (k : Int)) ∧ w' = w.drewN q)) := Lib.hid (fun q => by
          have := place_any (w := w.drewN q) (p := p) (x := x) HND.out i (by rw [← HB.out]; omega) (by rw [← HB.out]; omega) (by omega)
          rw [← HB.out, ← hk] at this
          exact this)
        have HF : Hid (∀ q, RetUb w (tmA x es i) (.returned (.tuple #[.int .u64 (y.1 : Int), .bool true])) (w.drewN q)) := Lib.hid (fun q => ⟨by rw [HT.out, if_neg (by omega), if_neg h3, ← hk, hy]; rfl, q, rfl⟩)
        clear hy hv hk
        go_enter Try.func31, Try.ntmps31
        clear h3
        go_wp2_with fail
        with_reducible refine HLA.out.mono ?_
        intro e w1 hq
        obtain ⟨h3, q, h4⟩ := hq.out
        subst h3 h4
        obtain ⟨W, hW⟩ : ∃ W, W = w.drewN q := ⟨_, rfl⟩
        have HP2 : Hid (∀ q2, Calls Try.prog 75 #[.pointer (some ⟨p, 0, none⟩), .int .u64 (i : Int)] (W.drewN q2) (fun e w' => e = .returned (.int .i64 (k : Int)) ∧ w' = W.drewN q2)) := Lib.hid (fun q2 => by rw [hW, World.drewN_drewN]; exact HPL.out _)
        have d2 : W.cell? ⟨p, 2, none⟩ = some (.int .u64 (b : Int)) := by rw [hW]; exact c2
        have d4 : W.cell? ⟨p, 4, none⟩ = some (.slice (some ⟨bb, off, none⟩) n c) := by rw [hW]; exact c4
        have l0 : W.cell? ⟨bb, off + k * 2, none⟩ = some (.int .u64 (y.1 : Int)) := by rw [hW]; exact m0
        have HFW : Hid (∀ q2, RetUb w (tmA x es i) (.returned (.tuple #[.int .u64 (y.1 : Int), .bool true])) (W.drewN q2)) := Lib.hid (fun q2 => by rw [hW, World.drewN_drewN]; exact HF.out _)
        rw [← hW]
        clear hW c2 c3 c4 m0 m1 hq
        go_wp2_with fail
        go_quiet ((go_at_call 75; with_reducible exact Calls.quiet_of_same (HP2.out _)))
        go_wp2_with fail
        exact bodyPost_ret (v := .tuple #[.int .u64 (y.1 : Int), .bool true]) (by simp [results, Try.f31, go_sem]; try rfl) rfl (HFW.out _)
/-- Has the log this term at this index? -/
theorem matches_any (h : NdAt w p x) (hE : x.E = .slice A n c) (hr : RLg w A n es) (hn : n ≤ 1099511627776) (hb : x.base ≤ 4611686018427387904) (i t : Nat) : Calls Try.prog 142 #[.pointer (some ⟨p, 0, none⟩), .int .u64 (i : Int), .int .u64 (t : Int)] w (fun e w' => e = .returned (.bool (decide (tmA x es i = some t))) ∧ ∃ q, w' = w.drewN q) := by
  have HT := Lib.hid (termAt_any h hE hr hn hb i)
  obtain ⟨o, ho⟩ : ∃ o, o = tmA x es i := ⟨_, rfl⟩
  rw [← ho] at HT ⊢
  clear h hr hE ho
  go_enter Try.func142, Try.ntmps142
  go_wp2_with fail
  with_reducible refine HT.out.mono ?_
  intro e w1 hq
  obtain ⟨h3, q, h4⟩ := hq.out
  subst h3 h4
  cases o with
  | none =>
    have HF : Hid (decide ((none : Option Nat) = some t) = false) := Lib.hid (by simp)
    simp only [Option.getD_none, Option.isSome_none]
    go_wp2_with fail
    go_ret
    exact ⟨by rw [HF.out]; rfl, q, rfl⟩
  | some z =>
    simp only [Option.getD_some, Option.isSome_some]
    by_cases hz : z = t
    · have tz : ((z : Int) == (t : Int)) = true := by rw [beq_iff_eq]; omega
      have HF2 : Hid (decide (some z = some t) = true) := Lib.hid (by simp [hz])
      clear hz
      go_wp2_with fail
      go_ret
      exact ⟨by rw [HF2.out]; rfl, q, rfl⟩
    · have tz : ((z : Int) == (t : Int)) = false := by rw [beq_eq_false_iff_ne]; omega
      have HF2 : Hid (decide (some z = some t) = false) := Lib.hid (by simp [hz])
      clear hz
      go_wp2_with fail
      go_ret
      exact ⟨by rw [HF2.out]; rfl, q, rfl⟩
end
end Go.Proofs.Ytlnpicfkcahdbaa
namespace Go.Proofs.Ytlnpicfkcahdbaa
open Go Go.RowKit

section
variable {w : World} {A : Option Addr} {n c : Nat} {es : List En}
end
end Go.Proofs.Ytlnpicfkcahdbaa
namespace Go.Proofs.Ytlnpicfkcahdbaa
open Go Go.RowKit

/-- A number as a value. -/
def uv (m : Nat) : Value := .int .u64 (m : Int)
/-- 'The slice of n numbers at A reads as these.' -/
def RdU (w : World) (A : Option Addr) (n : Nat) (ms : List Nat) : Prop := RdV w A n (ms.map uv) ∧ ∀ m ∈ ms, U64 m
theorem RdU.len {w : World} {A : Option Addr} {n : Nat} {ms : List Nat} (h : RdU w A n ms) : ms.length = n := by
  have := h.1.1
  simpa using this
theorem RdU.below {w w' : World} {A : Option Addr} {n : Nat} {ms : List Nat} (h : RdU w A n ms) (hb : Below w.heap.size w w') : RdU w' A n ms := ⟨h.1.below hb, h.2⟩
theorem RdU.drewN {w : World} {A : Option Addr} {n : Nat} {ms : List Nat} (h : RdU w A n ms) (q : Nat) : RdU (w.drewN q) A n ms := h.below (below_drewN (Below.refl _ _) q)
theorem RdU.at_ {w : World} {b off n : Nat} {ms : List Nat} (h : RdU w (some ⟨b, off, none⟩) n ms) (k : Nat) (hk : k < n) : ∃ m, ms[k]? = some m ∧ w.cell? ⟨b, off + k, none⟩ = some (.int .u64 (m : Int)) ∧ U64 m := by
  obtain ⟨v, h1, h2⟩ := h.1.at_ k hk
  rw [List.getElem?_map] at h1
  cases hm : ms[k]? with
  | none => rw [hm] at h1; cases h1
  | some m =>
    rw [hm] at h1
    injection h1 with h1
    exact ⟨m, rfl, by rw [h2, ← h1]; rfl, h.2 m (List.mem_of_getElem? hm)⟩
end Go.Proofs.Ytlnpicfkcahdbaa
namespace Go.Proofs.Ytlnpicfkcahdbaa
open Go Go.RowKit

end Go.Proofs.Ytlnpicfkcahdbaa
namespace Go.Proofs.Ytlnpicfkcahdbaa
open Go Go.RowKit

theorem info_u64m : (Try.prog.info? 28).map (fun i => (i.zero, i.size, i.bytes)) = some (some (.int .u64 0), 1, 8) := by kernel_rfl
theorem uv_one (ms : List Nat) : ∀ u ∈ ms.map uv, u.oneCell' = true := fun u hu => by
  obtain ⟨m, _, rfl⟩ := List.mem_map.1 hu
  rfl
def OwnU (w : World) (base : Nat) (A : Option Addr) (n c : Nat) (ms : List Nat) : Prop := OwnV 28 w base A n c (ms.map uv)
theorem OwnU.rd {w : World} {base : Nat} {A : Option Addr} {n c : Nat} {ms : List Nat} (h : OwnU w base A n c ms) (hu : ∀ m ∈ ms, U64 m) : RdU w A n ms := ⟨OwnV.rd h, hu⟩
/-- A row of numbers of the call's own. -/
def RetUs (w : World) (n : Nat) (ms : List Nat) (e : Ending) (w' : World) : Prop := ∃ C cc, e = .returned (.slice C n cc) ∧ OwnU w' w.heap.size C n cc ms ∧ Below w.heap.size w w'
set_option maxRecDepth 100000 in
set_option maxHeartbeats 4000000 in
theorem cloneU_any {w : World} {M : Option Addr} {mn mc : Nat} {ms : List Nat} (h : RdU w M mn ms) (hn : mn ≤ 1099511627776) : Calls Try.prog 179 #[.slice M mn mc] w (RetUs w mn ms) := by
  have heq : ∀ (w : World) (a : Option Addr) (n c n' c' : Nat), (binOp .eql 52 (.slice a n c) (.slice none n' c')).run Try.prog w = .ok (.bool a.isNone) w := fun w a n c n' c' => Lib.run_eql_slice_nil w _ _ a n c n' c' Try.underlying52
  cases M with
  | none =>
    have h0 : mn = 0 := by
      rcases Nat.eq_zero_or_pos mn with h1 | h1
      · exact h1
      · obtain ⟨b, off, hh, _⟩ := h.1.pos h1
        cases hh
    subst h0
    have hm : ms = [] := List.eq_nil_of_length_eq_zero h.len
    subst hm
    clear h hn
    go_enter Try.func179, Try.ntmps179
    go_wp2_with fail
    go_ret
    exact ⟨none, 0, rfl, OwnV.nil _ _ _, Below.refl _ _⟩
  | some a =>
    have HB0 : Below w.heap.size w (w.alloc (.cells #[] 28)) := (Below.refl _ _).alloc (Nat.le_refl _) _
    have HO : Hid (OwnV 28 (w.alloc (.cells #[] 28)) w.heap.size (some ⟨w.heap.size, 0, none⟩) 0 0 []) := Lib.hid ⟨rfl, .inr ⟨w.heap.size, 0, #[], rfl, Nat.le_refl _, heap_alloc_new w _, Nat.le_refl _, by unfold maxLen; omega, rfl, rfl⟩⟩
    have HR := Lib.hid (h.below HB0)
    have HB := Lib.hid HB0
    clear h HB0
    go_enter Try.func179, Try.ntmps179
    go_wp2_with (at_builtin; refine wpList_appV (w.alloc (.cells #[] 28)) rfl _ _ 52 rfl w.heap.size 28 (.int .u64 0) 8 Try.underlying52 info_u64m rfl (some ⟨w.heap.size, 0, none⟩) 0 0 [] rfl HO.out (some a) mn mc (ms.map uv) rfl HR.out.1 (uv_one ms) ?_ ?_ ?_ ?_)
    · unfold maxLen; omega
    · omega
    · simp
    intro C cc w2 hC hg _
    have HF : Hid (RetUs w mn ms (.returned (.slice C mn cc)) w2) := Lib.hid ⟨C, cc, rfl, by simpa [OwnU] using hC, (HB.out.grown hg HB.out.size (fun k hk => by simp [blk] at hk; omega))⟩
    clear hC hg
    go_wp2_with fail
    go_ret
    exact HF.out
set_option maxRecDepth 100000 in
set_option maxHeartbeats 4000000 in
theorem insSort1_any (A : Option Addr) (c : Nat) (w : World) : Calls Try.prog 225 #[.slice A 1 c, .int .i64 0, .int .i64 1] w (fun e w' => e = .returned (.tuple #[]) ∧ w' = w) := by
  go_enter Try.func225, Try.ntmps225
  go_wp2_with fail
  go_loopw [6] (fun s6 wr => s6 = .int .i64 1 ∧ wr = w) (fun _ _ => 0)
  case atStart => exact ⟨rfl, rfl⟩
  case round =>
    obtain ⟨rfl, rfl⟩ := hrel
    go_wp2_with fail
    go_end0
    exact ⟨rfl, rfl⟩
set_option maxRecDepth 100000 in
set_option maxHeartbeats 4000000 in
theorem pdq1_any (A : Option Addr) (c : Nat) (l : Int) (w : World) : Calls Try.prog 209 #[.slice A 1 c, .int .i64 0, .int .i64 1, .int .i64 l] w (fun e w' => e = .returned (.tuple #[]) ∧ w' = w) := by
  have HI := Lib.hid (insSort1_any A c w)
  go_enter Try.func209, Try.ntmps209
  go_wp2_with fail
  go_loopw [1, 2, 3, 8, 9] (fun s1 s2 s3 s8 s9 wr => s1 = .int .i64 0 ∧ s2 = .int .i64 1 ∧ wr = w) (fun _ _ _ _ _ _ => 0)
  case atStart => exact ⟨rfl, rfl, rfl⟩
  case round =>
    obtain ⟨rfl, rfl, rfl⟩ := hrel
    go_wp2_with fail
    with_reducible refine HI.out.mono ?_
    rintro e w1 ⟨rfl, rfl⟩
    go_wp2_with fail
    exact bodyPost_ret (v := .tuple #[]) (by simp [results, Try.f209, go_sem]; try rfl) rfl ⟨rfl, rfl⟩
set_option maxRecDepth 100000 in
set_option maxHeartbeats 4000000 in
theorem sort1_any (A : Option Addr) (c : Nat) (w : World) : Calls Try.prog 180 #[.slice A 1 c] w (fun e w' => e = .returned (.tuple #[]) ∧ w' = w) := by
  go_enter Try.func180, Try.ntmps180
  go_wp2_with fail
  with_reducible refine (bitsLen_any _ _ (by decide) (by decide)).mono ?_
  rintro e w1 ⟨rfl, rfl⟩
  go_wp2_with fail
  with_reducible refine (pdq1_any _ _ _ _).mono ?_
  rintro e w1 ⟨rfl, rfl⟩
  go_wp2_with fail
  go_end0
  exact ⟨rfl, rfl⟩
end Go.Proofs.Ytlnpicfkcahdbaa
namespace Go.Proofs.Ytlnpicfkcahdbaa
open Go Go.RowKit

theorem OwnG.fr {w w' : World} {bl : List Nat} {base n c : Nat} {A : Option Addr} {vs : List Value} (h : OwnG w base A n c vs) (hf : Fr w w' bl) (ho : ∀ b, blk A = some b → b ∉ bl) : OwnG w' base A n c vs := by
  refine ⟨h.1, ?_⟩
  rcases h.2 with h1 | ⟨g, cap, cur, h1, h2, h3, h4⟩
  · exact .inl h1
  · injection h1 with h1 h5 h6
    subst h1 h6
    exact .inr ⟨g, _, cur, rfl, h2, (hf.block g (Array.getElem?_eq_some_iff.1 h3).1 (ho g rfl)).trans h3, h4⟩
theorem Fam.fr {w w' : World} {bl : List Nat} {base : Nat} {ps : List VB} (h : Fam w base ps) (hf : Fr w w' bl) (ho : ∀ b ∈ bl, OffF ps b) : Fam w' base ps := by
  refine ⟨fun p hp => ?_, h.2⟩
  obtain ⟨A, m, c, e, hown⟩ := h.1 p hp
  exact ⟨A, m, c, e, hown.fr hf (fun b hb hm => ho b hm p hp (by rw [e, own_blk]; exact hb))⟩
/-- A node and its log: the entries' row is its own, their bytes lie apart. -/
def NdL (w : World) (p : Nat) (x : Nd) (A : Option Addr) (n c : Nat) (es : List Le) (ps : List VB) : Prop :=
  NdAt w p x ∧ x.R = .slice A n c ∧ x.E = .slice A n n ∧ OwnG w 0 A n c (flatL es ps) ∧ Fam w 0 ps ∧ ps.map (·.2) = es.map (·.2) ∧ (∀ e ∈ es, U64 e.1) ∧ es.length = n
section
variable {w w' : World} {p : Nat} {x x' : Nd} {A : Option Addr} {n c : Nat} {es : List Le} {ps : List VB}
theorem NdL.nd (h : NdL w p x A n c es ps) : NdAt w p x := h.1
theorem NdL.hR (h : NdL w p x A n c es ps) : x.R = .slice A n c := h.2.1
theorem NdL.hE (h : NdL w p x A n c es ps) : x.E = .slice A n n := h.2.2.1
theorem NdL.own (h : NdL w p x A n c es ps) : OwnG w 0 A n c (flatL es ps) := h.2.2.2.1
theorem NdL.fam (h : NdL w p x A n c es ps) : Fam w 0 ps := h.2.2.2.2.1
theorem NdL.dat (h : NdL w p x A n c es ps) : ps.map (·.2) = es.map (·.2) := h.2.2.2.2.2.1
theorem NdL.wf (h : NdL w p x A n c es ps) : ∀ e ∈ es, U64 e.1 := h.2.2.2.2.2.2.1
theorem NdL.len (h : NdL w p x A n c es ps) : es.length = n := h.2.2.2.2.2.2.2
theorem NdL.rd (h : NdL w p x A n c es ps) : RLg w A n es := RLg.mk (lvs_of_fam h.fam h.dat h.wf) h.own.rd h.len
theorem NdL.below (h : NdL w p x A n c es ps) (hb : Below w.heap.size w w') : NdL w' p x A n c es ps := by
  obtain ⟨h1, h2, h3, h4, h5, h6⟩ := h
  exact ⟨h1.below hb, h2, h3, h4.below hb, h5.below hb, h6⟩
theorem nd_ne_row (h : NdAt w p x) (ho : OwnG w 0 A n c (flatL es ps)) : blk A ≠ some p := cl_row h ho (by decide)
theorem nd_off (h : NdAt w p x) (hf : Fam w 0 ps) : OffF ps p := hf.off_cl h (by decide)
/-- The node's fields have turned, its row hasn't. -/
theorem NdL.turn (h : NdL w p x A n c es ps) (hf : Fr w w' [p]) (hx : NdAt w' p x') (hR : x'.R = x.R) (hE : x'.E = x.E) : NdL w' p x' A n c es ps := by
  obtain ⟨h1, h2, h3, h4, h5, h6⟩ := h
  refine ⟨hx, by rw [hR, h2], by rw [hE, h3], h4.fr hf (fun b hb hm => ?_), h5.fr hf (fun b hb => ?_), h6⟩
  · rw [List.mem_singleton] at hm
    subst hm
    exact nd_ne_row h1 h4 hb
  · rw [List.mem_singleton] at hb
    subst hb
    exact nd_off h1 h5
/-- Other blocks have turned. -/
theorem NdL.off {bl : List Nat} (h : NdL w p x A n c es ps) (hf : Fr w w' bl) (hp : p ∉ bl) (hA : ∀ b, blk A = some b → b ∉ bl) (ho : ∀ b ∈ bl, OffF ps b) : NdL w' p x A n c es ps := by
  obtain ⟨h1, h2, h3, h4, h5, h6⟩ := h
  exact ⟨h1.fr hf hp, h2, h3, h4.fr hf hA, h5.fr hf ho, h6⟩
theorem OwnG.lit {w : World} {base : Nat} {A : Option Addr} {n c : Nat} {vs : List Value} (h : OwnG w base A n c vs) : (A = none ∧ n = 0 ∧ c = 0) ∨ ∃ g, A = some ⟨g, 0, none⟩ := by
  rcases h.2 with ⟨h1, h2⟩ | ⟨g, cap, cur, h1, _⟩
  · injection h1 with a b c
    exact .inl ⟨a, b, c⟩
  · injection h1 with a
    exact .inr ⟨g, a⟩
end
section
variable {w : World} {p : Nat} {x : Nd} {A : Option Addr} {n c : Nat} {es : List Le} {ps : List VB}
set_option maxRecDepth 100000 in
set_option maxHeartbeats 4000000 in
theorem keep_any' (h : NdAt w p x) (hA : (A = none ∧ n = 0 ∧ c = 0) ∨ ∃ g, A = some ⟨g, 0, none⟩) (hnc : n ≤ c) (hc : c ≤ maxLen) : Calls Try.prog 69 #[.pointer (some ⟨p, 0, none⟩), .slice A n c] w (fun e w' => e = .returned (.tuple #[]) ∧ w' = (w.setCell ⟨p, 12, none⟩ (.slice A n c)).setCell ⟨p, 4, none⟩ (.slice A n n)) := by
  have k12 := h.k12
  have k4 := h.k4
  have y12 := h.thaw 12
  have y4 := h.thaw 4
  obtain ⟨R, hR⟩ : ∃ R, R = x.R := ⟨_, rfl⟩
  obtain ⟨E, hE⟩ : ∃ E, E = x.E := ⟨_, rfl⟩
  rw [← hR] at k12
  rw [← hE] at k4
  clear h hR hE
  unfold maxLen at hc
  rcases hA with ⟨rfl, rfl, rfl⟩ | ⟨g, rfl⟩
  · go_enter Try.func69, Try.ntmps69
    go_wp2_with fail
    go_end0
    exact ⟨rfl, rfl⟩
  · go_enter Try.func69, Try.ntmps69
    go_wp2_with fail
    go_end0
    exact ⟨rfl, rfl⟩
/-- What a call that turns a node comes to. -/
def RetNd (w : World) (p : Nat) (x : Nd) (es : List Le) (bl : List Nat) (v : Value) (ps : List VB) (e : Ending) (w' : World) : Prop :=
  e = .returned v ∧ ∃ A' n' c' qs, NdL w' p { x with R := .slice A' n' c', E := .slice A' n' n' } A' n' c' es (ps ++ qs) ∧ Fr w w' bl ∧ (∀ b, blk A' = some b → b ∈ bl ∨ w.heap.size ≤ b) ∧ (∀ b q, q ∈ qs → Value.ownBlock q.1 = some b → w.heap.size ≤ b)
theorem RetNd.out {w : World} {p : Nat} {x : Nd} {es : List Le} {bl : List Nat} {v : Value} {ps : List VB} {e : Ending} {w' : World} (h : RetNd w p x es bl v ps e w') :
    e = .returned v ∧ ∃ A' n' c' qs, NdL w' p { x with R := .slice A' n' c', E := .slice A' n' n' } A' n' c' es (ps ++ qs) ∧ Fr w w' bl ∧ (∀ b, blk A' = some b → b ∈ bl ∨ w.heap.size ≤ b) ∧ (∀ b q, q ∈ qs → Value.ownBlock q.1 = some b → w.heap.size ≤ b) := h
/-- What put comes to. -/
def RetPu (w : World) (p : Nat) (x : Nd) (A : Option Addr) (k : Nat) (es : List Le) (ps : List VB) (e : Ending) (w' : World) : Prop :=
  e = .returned (.tuple #[]) ∧ ∃ A' c', NdL w' p { x with R := .slice A' k c', E := .slice A' k k } A' k c' es ps ∧ Fr w w' (p :: (blk A).toList) ∧ (∀ b, blk A' = some b → b ∈ p :: (blk A).toList ∨ w.heap.size ≤ b)
theorem RetPu.out {w : World} {p : Nat} {x : Nd} {A : Option Addr} {k : Nat} {es : List Le} {ps : List VB} {e : Ending} {w' : World} (h : RetPu w p x A k es ps e w') :
    e = .returned (.tuple #[]) ∧ ∃ A' c', NdL w' p { x with R := .slice A' k c', E := .slice A' k k } A' k c' es ps ∧ Fr w w' (p :: (blk A).toList) ∧ (∀ b, blk A' = some b → b ∈ p :: (blk A).toList ∨ w.heap.size ≤ b) := h
set_option maxRecDepth 100000 in
set_option maxHeartbeats 4000000 in
/-- Entries at the end of the log. -/
theorem put_any {g m d : Nat} {gs : List Le} {qs : List VB} (h : NdL w p x A n c es ps) (hr : RdV w (some ⟨g, 0, none⟩) (m * 2) (flatL gs qs)) (hm : 0 < m) (hq : Fam w 0 (ps ++ qs)) (hqd : qs.map (·.2) = gs.map (·.2)) (hqu : ∀ e ∈ gs, U64 e.1) (hgl : gs.length = m) (hn : n + m ≤ 1099511627776) :
    Calls Try.prog 140 #[.pointer (some ⟨p, 0, none⟩), .slice (some ⟨g, 0, none⟩) m d] w (RetPu w p x A (n + m) (es ++ gs) (ps ++ qs)) := by
  have HH := Lib.hid h
  have k12 : w.cell? ⟨p, 12, none⟩ = some (.slice A n c) := by rw [← h.hR]; exact h.nd.k12
  have H1C : ∀ u ∈ flatL gs qs, u.oneCell' = true := (lvs_of_fam (base := 0) ⟨fun q hq2 => hq.1 q (by simp [hq2]), (List.pairwise_append.1 hq.2).2.1⟩ hqd hqu).cells
  have HR := Lib.hid hr
  have HQ := Lib.hid hq
  have HQD := Lib.hid hqd
  have HQU := Lib.hid hqu
  have HGL := Lib.hid hgl
  have H1 := Lib.hid H1C
  clear h hr hq hqd hqu hgl H1C
  go_enter Try.func140, Try.ntmps140
  go_wp2_with (at_builtin; refine wpList_app2 w rfl _ _ 31 rfl 0 _ 32 Try.underlying31 info_le rfl A n c (flatL es ps) rfl HH.out.own ⟨g, 0, none⟩ m d (flatL gs qs) rfl HR.out hm H1.out ?_ ?_ ?_ ?_)
  · unfold maxLen; omega
  · omega
  · omega
  intro A2 c2 w2 hG hg hk
  have hne := nd_ne_row HH.out.nd HH.out.own
  have hN2 : NdAt w2 p x := HH.out.nd.grown hg hne
  rw [← flatL_app (by have := congrArg List.length HH.out.dat; simpa using this)] at hG
  have hF2 : Fam w2 0 (ps ++ qs) := HQ.out.kept hg (fun b e => fam_off_G HQ.out HH.out.own b e)
  have hN4 := (hN2.s12 (.slice A2 (n + m) c2)).s4 (.slice A2 (n + m) (n + m))
  have hf4 : Fr w2 ((w2.setCell ⟨p, 12, none⟩ (.slice A2 (n + m) c2)).setCell ⟨p, 4, none⟩ (.slice A2 (n + m) (n + m))) [p] := (Fr.set w2 p 12 _).trans (Fr.set _ p 4 _) (fun b hb => .inl hb)
  have hA2 := cl_row hN2 hG (by decide)
  have HF : Hid (RetPu w p x A (n + m) (es ++ gs) (ps ++ qs) (.returned (.tuple #[])) ((w2.setCell ⟨p, 12, none⟩ (.slice A2 (n + m) c2)).setCell ⟨p, 4, none⟩ (.slice A2 (n + m) (n + m)))) := Lib.hid (by
    refine ⟨rfl, A2, c2, ⟨hN4, rfl, rfl, hG.fr hf4 (fun b hb hm => ?_), hF2.fr hf4 (fun b hb => ?_), ?_, ?_, ?_⟩, ?_, ?_⟩
    · rw [List.mem_singleton] at hm
      subst hm
      exact hA2 hb
    · rw [List.mem_singleton] at hb
      subst hb
      exact nd_off hN2 hF2
    · rw [List.map_append, List.map_append, HH.out.dat, HQD.out]
    · intro e he
      rcases List.mem_append.1 he with q | q
      · exact HH.out.wf e q
      · exact HQU.out e q
    · rw [List.length_append, HH.out.len, HGL.out]
    · exact (Fr.of_grown (bl := p :: (blk A).toList) hg (fun b hb => by simp [hb])).trans hf4 (fun b hb => .inl (by rw [List.mem_singleton] at hb; subst hb; simp))
    · intro b hb
      rcases hk with q | q
      · rw [q] at hb; exact .inl (by simp [hb])
      · rw [q] at hb; injection hb with hb; exact .inr (by omega))
  have HKP := Lib.hid (keep_any' (c := c2) hN2 hG.lit hG.cap.1 hG.cap.2)
  clear hne hN2 hG hF2 hN4 hf4 hA2 hg hk k12
  go_wp2_with fail
  with_reducible refine HKP.out.mono ?_
  rintro e w3 ⟨rfl, rfl⟩
  go_wp2_with fail
  go_end0
  exact HF.out
end
end Go.Proofs.Ytlnpicfkcahdbaa
namespace Go.Proofs.Ytlnpicfkcahdbaa
open Go Go.RowKit

/-- Nothing comes back, and nothing has happened. -/
def RetS0 (w : World) (e : Ending) (w' : World) : Prop := e = .returned (.slice none 0 0) ∧ w' = w
theorem RetS0.out {w : World} {e : Ending} {w' : World} (h : RetS0 w e w') : e = .returned (.slice none 0 0) ∧ w' = w := h
section
variable {w : World} {p : Nat} {x : Nd} {A : Option Addr} {n c : Nat} {es : List Le} {ps : List VB}
set_option maxRecDepth 100000 in
set_option maxHeartbeats 4000000 in
/-- Alone it has no others. -/
theorem others_one (h : NdAt w p x) (h5 : x.id = 0) (h6 : x.n = 1) (v : Value) : Calls Try.prog 71 #[.pointer (some ⟨p, 0, none⟩), v] w (RetS0 w) := by
  have k5 : w.cell? ⟨p, 5, none⟩ = some (.int .i64 0) := by rw [← h5]; exact h.k5
  have k6 : w.cell? ⟨p, 6, none⟩ = some (.int .i64 1) := by rw [← h6]; exact h.k6
  clear h h5 h6
  go_enter Try.func71, Try.ntmps71
  go_wp2_with fail
  go_loopw [5, 11] (fun s5 s11 wr => ∃ k : Nat, k ≤ 1 ∧ s5 = .slice none 0 0 ∧ s11 = .int .i64 (k : Int) ∧ wr = w) (fun _ s _ => 1 - (intOf s).toNat)
  case atStart => exact ⟨0, by omega, rfl, rfl, rfl⟩
  case round =>
    obtain ⟨k, hk, rfl, rfl, rfl⟩ := hrel
    by_cases h0 : k = 0
    · subst h0
      go_wp2_with fail
      go_roundw
      case rel => exact ⟨1, by omega, rfl, rfl, trivial⟩
      case measure => simp [intOf]
    · obtain rfl : k = 1 := by omega
      go_wp2_with fail
      go_ret
      exact ⟨rfl, rfl⟩
theorem RetUs.outR {w : World} {n : Nat} {ms : List Nat} {e : Ending} {w' : World} (h : RetUs w n ms e w') : ∃ C cc, e = .returned (.slice C n cc) ∧ OwnU w' w.heap.size C n cc ms ∧ Below w.heap.size w w' := h
/-- What agree comes to. -/
def RetAg (w : World) (p : Nat) (x : Nd) (A : Option Addr) (n c : Nat) (es : List Le) (ps : List VB) (e : Ending) (w' : World) : Prop :=
  e = .returned (.tuple #[]) ∧ NdL w' p { x with c0 := x.base + n, commit := x.base + n } A n c es ps ∧ Fr w w' [p]
theorem RetAg.out {w : World} {p : Nat} {x : Nd} {A : Option Addr} {n c : Nat} {es : List Le} {ps : List VB} {e : Ending} {w' : World} (h : RetAg w p x A n c es ps e w') : e = .returned (.tuple #[]) ∧ NdL w' p { x with c0 := x.base + n, commit := x.base + n } A n c es ps ∧ Fr w w' [p] := h
set_option maxRecDepth 100000 in
set_option maxHeartbeats 4000000 in
/-- Alone it agrees with itself. -/
theorem agree_one (h : NdL w p x A n c es ps) (h5 : x.id = 0) (h6 : x.n = 1) (hn : n ≤ 1099511627776) (hb : x.base ≤ 4611686018427387904) (hc : x.commit < x.base + n) (ht : tmA x es (x.base + n) = some x.term) :
    Calls Try.prog 141 #[.pointer (some ⟨p, 0, none⟩)] w (RetAg w p x A n c es ps) := by
  have HH := Lib.hid h
  obtain ⟨z, hz⟩ : ∃ z, z = x.base + n := ⟨_, rfl⟩
  have k5 : w.cell? ⟨p, 5, none⟩ = some (.int .i64 0) := by rw [← h5]; exact h.nd.k5
  have y19 := h.nd.thaw 19
  have k19 : w.cell? ⟨p, 19, none⟩ = some (.int .u64 (x.c0 : Int)) := Cl.cell h.nd 19
  have HLA : Hid (∀ wx, Below w.heap.size w wx → Calls Try.prog 24 #[.pointer (some ⟨p, 0, none⟩)] wx (RetUq wx z)) := Lib.hid (fun wx hb2 => by rw [hz]; exact last_any (h.nd.below hb2) h.hE hn hb)
  have hB1 : Below w.heap.size w w.drew := (Below.refl _ _).drew
  have HZ := Lib.hid hz
  have H5 := Lib.hid h5
  have H6 := Lib.hid h6
  have HT := Lib.hid ht
  have hzb : z < 9223372036854775808 := by omega
  rw [← hz] at hc
  clear h hz h5 h6 ht
  go_enter Try.func141, Try.ntmps141
  go_upto_region 0 with (fail)
  go_cut [] (fun wx => ∃ q, wx = (w.drewN q).setCell ⟨p, 19, none⟩ (.int .u64 (z : Int)))
  case first =>
    go_region_law (first | (go_simp; go_at_call 24; with_reducible refine (HLA.out _ hB1).mono ?_; intro e w1 hq; obtain ⟨h3, q, h4⟩ := hq.out; subst h3 h4))
    all_goals
      go_wp2_with fail
      go_meet
      exact ⟨_, rfl⟩
  case rest =>
    obtain ⟨q, hwc⟩ := hcut
    obtain ⟨w1, hw1⟩ : ∃ w1, w1 = wc := ⟨_, rfl⟩
    rw [← hw1]
    rw [← hw1] at hwc
    have hf1 : Fr w w1 [p] := by rw [hwc]; exact ((Fr.refl w [p]).drewN q).trans (Fr.set _ p 19 _) (fun b hb => .inl hb)
    have hx1 : NdAt w1 p { x with c0 := z } := by rw [hwc]; exact Cl.set (HH.out.nd) 19 _
    have hl1 : NdL w1 p { x with c0 := z } A n c es ps := HH.out.turn hf1 hx1 rfl rfl
    have HF1 := Lib.hid hf1
    have HL1 := Lib.hid hl1
    have j6 : w1.cell? ⟨p, 6, none⟩ = some (.int .i64 1) := by rw [← H6.out]; exact hx1.k6
    have j19 : w1.cell? ⟨p, 19, none⟩ = some (.int .u64 (z : Int)) := Cl.cell hx1 19
    have hru : RdU w1 (some ⟨p, 19, none⟩) 1 [z] := ⟨⟨rfl, fun _ => ⟨p, 19, rfl, hx1.lt, fun i v hv => by
      match i, hv with
      | 0, hv => injection hv with hv; subst hv; exact j19
      | i + 1, hv => cases hv⟩⟩, fun m hm => by rw [List.mem_singleton] at hm; rw [hm]; unfold U64; omega⟩
    have HCU : Hid (∀ wx, Below w1.heap.size w1 wx → Calls Try.prog 179 #[.slice (some ⟨p, 19, none⟩) 1 5] wx (RetUs wx 1 [z])) := Lib.hid (fun wx hb2 => cloneU_any (hru.below hb2) (by omega))
    have hB2 : Below w1.heap.size w1 w1.drew := (Below.refl _ _).drew
    clear hwc hw1 hf1 hx1 hl1 k5 y19 k19 HLA hB1 hru j19
    go_upto_region 1 with (fail)
    go_region_law (first | (go_simp; go_at_call 179; with_reducible refine (HCU.out _ hB2).mono ?_; intro e w2 hq; obtain ⟨C, cc, h3, oC, b2⟩ := hq.outR; subst h3))
    all_goals
      have bw2 : Below w1.heap.size w1 w2 := belowT' hB2 b2
      have hl2 := HL1.out.below bw2
      have HL2 := Lib.hid hl2
      have HF2 : Hid (Fr w w2 [p]) := Lib.hid (HF1.out.trans (Fr.of_below bw2 []) (fun b hb => by cases hb))
      obtain ⟨g, hg⟩ : ∃ g, C = some ⟨g, 0, none⟩ := by
        obtain ⟨g, off, h1, _⟩ := (OwnV.rd oC).pos (by omega)
        rcases oC.2 with ⟨_, h2⟩ | ⟨g2, cap, cur, h2, _⟩
        · omega
        · injection h2 with h2; exact ⟨g2, h2⟩
      subst hg
      have m6 : w2.cell? ⟨p, 6, none⟩ = some (.int .i64 1) := by rw [← H6.out]; exact hl2.nd.k6
      have mg : w2.cell? ⟨g, 0, none⟩ = some (.int .u64 (z : Int)) := by
        obtain ⟨v, hv, hc2⟩ := (OwnV.rd oC).at_ 0 (by omega)
        injection hv with hv
        subst hv
        exact hc2
      have m11 : w2.cell? ⟨p, 11, none⟩ = some (.int .u64 (x.commit : Int)) := hl2.nd.k11
      have y11 := hl2.nd.thaw 11
      have m0 : w2.cell? ⟨p, 0, none⟩ = some (.int .u64 (x.term : Int)) := hl2.nd.k0
      have tc : decide (x.commit < z) = true := by simpa using hc
      have HM := Lib.hid (matches_any hl2.nd hl2.hE hl2.rd hn hb z x.term)
      have HTM : Hid (decide (tmA { x with c0 := z } es z = some x.term) = true) := Lib.hid (by
        rw [decide_eq_true_eq]
        have h1 := HT.out
        rw [← HZ.out] at h1
        exact h1)
      have HS1 := Lib.hid (sort1_any (some ⟨g, 0, none⟩) cc w2)
      have HFIN : Hid (∀ q, RetAg w p x A n c es ps (.returned (.tuple #[])) ((w2.drewN q).setCell ⟨p, 11, none⟩ (.int .u64 (z : Int)))) := Lib.hid (fun q => by
        have k1 : Fr w2 ((w2.drewN q).setCell ⟨p, 11, none⟩ (.int .u64 (z : Int))) [p] := ((Fr.refl w2 [p]).drewN q).trans (Fr.set _ p 11 _) (fun b hb => .inl hb)
        have k2 : NdAt ((w2.drewN q).setCell ⟨p, 11, none⟩ (.int .u64 (z : Int))) p { x with c0 := z, commit := z } := Cl.set HL2.out.nd 11 _
        have k3 := HL2.out.turn k1 k2 rfl rfl
        rw [HZ.out] at k3 k1 ⊢
        exact ⟨rfl, k3, HF2.out.trans k1 (fun b hb => .inl hb)⟩)
      clear bw2 hl2 oC b2 hB2 hc HL1 HF1
      go_wp2_with fail
      with_reducible refine HS1.out.mono ?_
      rintro e w3 ⟨rfl, rfl⟩
      go_wp2_with fail
      with_reducible refine HM.out.mono ?_
      intro e w4 hq
      rw [HTM.out] at hq
      obtain ⟨h4, q, h5⟩ := hq
      subst h4 h5
      go_wp2_with fail
      go_end0
      exact HFIN.out q
end
end Go.Proofs.Ytlnpicfkcahdbaa
namespace Go.Proofs.Ytlnpicfkcahdbaa
open Go Go.RowKit

section
variable {w : World} {p : Nat} {x : Nd} {A : Option Addr} {n c : Nat} {es : List Le} {ps : List VB}
/-- An entry more, of one that is alone. -/
def RetEy (w : World) (p : Nat) (x : Nd) (A : Option Addr) (n : Nat) (es : List Le) (ps : List VB) (xs : List UInt8) (e : Ending) (w' : World) : Prop :=
  e = .returned (.slice none 0 0) ∧ ∃ A' c' V, NdL w' p { x with R := .slice A' (n + 1) c', E := .slice A' (n + 1) (n + 1), c0 := x.base + (n + 1), commit := x.base + (n + 1) } A' (n + 1) c' (es ++ [(x.term, xs)]) (ps ++ [(V, xs)]) ∧ Fr w w' (p :: (blk A).toList) ∧ (∀ b, blk A' = some b → b ∈ p :: (blk A).toList ∨ w.heap.size ≤ b) ∧ (∀ b, Value.ownBlock V = some b → w.heap.size ≤ b)
theorem RetEy.out {xs : List UInt8} {e : Ending} {w' : World} (h : RetEy w p x A n es ps xs e w') : e = .returned (.slice none 0 0) ∧ ∃ A' c' V, NdL w' p { x with R := .slice A' (n + 1) c', E := .slice A' (n + 1) (n + 1), c0 := x.base + (n + 1), commit := x.base + (n + 1) } A' (n + 1) c' (es ++ [(x.term, xs)]) (ps ++ [(V, xs)]) ∧ Fr w w' (p :: (blk A).toList) ∧ (∀ b, blk A' = some b → b ∈ p :: (blk A).toList ∨ w.heap.size ≤ b) ∧ (∀ b, Value.ownBlock V = some b → w.heap.size ≤ b) := h
set_option maxRecDepth 100000 in
set_option maxHeartbeats 4000000 in
theorem extend_one {D : Option Addr} {dn dc : Nat} {xs : List UInt8} (h : NdL w p x A n c es ps) (h5 : x.id = 0) (h6 : x.n = 1) (hn : n ≤ 1099511627775) (hb : x.base ≤ 4611686018427387904) (hc : x.commit ≤ x.base + n) (ht : U64 x.term)
    (hd : Rd w D dn xs) (hdn : dn ≤ 1099511627776) (hdc : D = none → dc = 0) :
    Calls Try.prog 74 #[.pointer (some ⟨p, 0, none⟩), .slice D dn dc] w (RetEy w p x A n es ps xs) := by
  have HH := Lib.hid h
  obtain ⟨tm, htm⟩ : ∃ tm, tm = x.term := ⟨_, rfl⟩
  have k0 : w.cell? ⟨p, 0, none⟩ = some (.int .u64 (tm : Int)) := by rw [htm]; exact h.nd.k0
  have HCL : Hid (∀ wx, Below w.heap.size w wx → Calls Try.prog 136 #[.slice D dn dc] wx (Made wx.heap.size wx xs)) := Lib.hid (fun wx hb2 => Clone_any D dn dc xs wx (hd.below hb2) (by omega) hdc)
  have HLD : Hid (∀ wx, Below w.heap.size w wx → wx.cell? ⟨p, 0, none⟩ = some (.int .u64 (tm : Int))) := Lib.hid (fun wx hb2 => by rw [htm]; exact (h.nd.below hb2).k0)
  have HPU : Hid (∀ (wx wy : World) (C : Option Addr) (cn cc : Nat), Below w.heap.size w wx → Own 5 wx w.heap.size C cn cc xs → wy = wx.alloc (.cells #[.int .u64 (tm : Int), .slice C cn cc] 44) → Calls Try.prog 140 #[.pointer (some ⟨p, 0, none⟩), .slice (some ⟨wx.heap.size, 0, none⟩) 1 1] wy (RetPu wy p x A (n + 1) (es ++ [(tm, xs)]) (ps ++ [(.slice C cn cc, xs)]))) := Lib.hid (fun wx wy C cn cc hb2 ho hy => by
    have b3 : Below wx.heap.size wx wy := by rw [hy]; exact (Below.refl _ _).alloc (Nat.le_refl _) _
    have b4 := belowT' hb2 b3
    have hf : Fam wy 0 (ps ++ [(.slice C cn cc, xs)]) := (Fam.app (h.fam) (Fam.one ho) hb2 (Nat.le_refl _) (Nat.zero_le _)).below b3
    refine put_any (gs := [(tm, xs)]) (qs := [(.slice C cn cc, xs)]) (h.below b4) ?_ (by omega) hf rfl (fun e he => ?_) rfl (by omega)
    · rw [hy]; exact rdv_of_cl2 (Cl.new wx _ _)
    · rw [List.mem_singleton] at he; rw [he, htm]; exact ht)
  have hB0 : Below w.heap.size w w.drew := (Below.refl _ _).drew
  have H5 := Lib.hid h5
  have H6 := Lib.hid h6
  have HT := Lib.hid htm
  have HC := Lib.hid hc
  clear h h5 h6 ht hd htm hc
  go_enter Try.func74, Try.ntmps74
  go_upto_region 1 with (fail)
  go_cut [] (fun wx => ∃ A' c' V, NdL wx p { x with R := .slice A' (n + 1) c', E := .slice A' (n + 1) (n + 1) } A' (n + 1) c' (es ++ [(tm, xs)]) (ps ++ [(V, xs)]) ∧ Fr w wx (p :: (blk A).toList) ∧ (∀ b, blk A' = some b → b ∈ p :: (blk A).toList ∨ w.heap.size ≤ b) ∧ (∀ b, Value.ownBlock V = some b → w.heap.size ≤ b))
  case first =>
    go_region_law (first | (go_simp; go_at_call 136; with_reducible refine (HCL.out _ hB0).mono ?_; intro e w1 hq; obtain ⟨C, cn, cc, h1, oC, b1⟩ := Made.outR hq; subst h1; have b1' := belowT' hB0 b1; have p0 := HLD.out _ b1') | (go_simp; go_at_call 140; with_reducible refine (HPU.out w1 _ C cn cc b1' (oC.mono hB0.size) rfl).mono ?_; intro e w2 hq; obtain ⟨h2, A2, c2, hN2, hf2, hA2⟩ := hq.out; subst h2))
    all_goals
      have HX : Hid (∃ A' c' V, NdL w2 p { x with R := .slice A' (n + 1) c', E := .slice A' (n + 1) (n + 1) } A' (n + 1) c' (es ++ [(tm, xs)]) (ps ++ [(V, xs)]) ∧ Fr w w2 (p :: (blk A).toList) ∧ (∀ b, blk A' = some b → b ∈ p :: (blk A).toList ∨ w.heap.size ≤ b) ∧ (∀ b, Value.ownBlock V = some b → w.heap.size ≤ b)) := Lib.hid ⟨A2, c2, .slice C cn cc, hN2, (Fr.of_below (b1'.trans (((Below.refl w1.heap.size w1).alloc (Nat.le_refl _) _).mono b1'.size)) _).trans hf2 (fun b hb => .inl hb), fun b hb => by
        rcases hA2 b hb with q | q
        · exact .inl q
        · have := b1'.size; simp at q; exact .inr (by omega), fun b hb => by
        rw [own_blk] at hb
        exact Nat.le_trans hB0.size (oC.lt b hb).1⟩
      clear hN2 hf2 hA2 oC b1 b1' p0
      go_wp2_with fail
      go_meet
      exact HX.out
  case rest =>
    obtain ⟨A2, c2, V, hN2, hf2, hA2, hV⟩ := hcut
    obtain ⟨w2, hw2⟩ : ∃ w2, w2 = wc := ⟨_, rfl⟩
    rw [← hw2] at hN2 hf2 ⊢
    have hag := agree_one hN2 H5.out H6.out (by omega) hb (by have := HC.out; show x.commit < x.base + (n + 1); omega) (by
      show tmA _ (es ++ [(tm, xs)]) (x.base + (n + 1)) = some x.term
      unfold tmA
      have hl := HH.out.len
      rw [if_neg (by simp only [List.length_append, List.length_singleton]; omega), if_neg (by show ¬ x.base + (n + 1) = x.base; omega)]
      rw [show x.base + (n + 1) - x.base - 1 = es.length by omega, List.getElem?_concat_length, HT.out]
      rfl)
    have HAG := Lib.hid hag
    have HN2 := Lib.hid hN2
    have HF2 := Lib.hid hf2
    have HA2 := Lib.hid hA2
    have HV := Lib.hid hV
    clear hw2 hN2 hf2 hA2 hV hag k0 hB0
    go_wp2_with fail
    with_reducible refine HAG.out.mono ?_
    intro e w3 hq
    obtain ⟨h3, hN3, hf3⟩ := hq.out
    subst h3
    have HO := Lib.hid (others_one hN3.nd H5.out H6.out (.func (.func 72) #[.pointer (some ⟨p, 0, none⟩)] #[]))
    have HFIN : Hid (RetEy w p x A n es ps xs (.returned (.slice none 0 0)) w3) := Lib.hid ⟨rfl, A2, c2, V, by have h9 := hN3; rw [HT.out] at h9; exact h9, HF2.out.trans hf3 (fun b hb => .inl (by rw [List.mem_singleton] at hb; simp [hb])), HA2.out, HV.out⟩
    clear hq hN3 hf3
    go_wp2_with fail
    with_reducible refine HO.out.mono ?_
    intro e w4 hq
    obtain ⟨h4, h5⟩ := hq.out
    subst h4 h5
    go_wp2_with fail
    go_ret
    exact HFIN.out
/-- A node that is alone has begun to lead. -/
def RetBg (w : World) (p : Nat) (x x' : Nd) (A : Option Addr) (n : Nat) (es : List Le) (ps : List VB) (e : Ending) (w' : World) : Prop :=
  e = .returned (.slice none 0 0) ∧ ∃ A' c' V, NdL w' p { x' with R := .slice A' (n + 1) c', E := .slice A' (n + 1) (n + 1), role := 3, lead := 0, x0 := x.base + n + 1, c0 := x.base + (n + 1), commit := x.base + (n + 1) } A' (n + 1) c' (es ++ [(x'.term, [])]) (ps ++ [(V, [])]) ∧ Fr w w' (p :: (blk A).toList) ∧ (∀ b, blk A' = some b → b ∈ p :: (blk A).toList ∨ w.heap.size ≤ b) ∧ (∀ b, Value.ownBlock V = some b → w.heap.size ≤ b)
/-- How far its loop has come. -/
def BgR (W : World) (p : Nat) (x : Nd) (A : Option Addr) (n c : Nat) (es : List Le) (ps : List VB) (z k : Nat) (wr : World) : Prop :=
  (k = 0 ∧ wr = W) ∨ (k = 1 ∧ NdL wr p { x with role := 3, lead := 0, x0 := z + 1, c0 := 0 } A n c es ps ∧ Fr W wr [p])
theorem RetBg.out {x' : Nd} {e : Ending} {w' : World} (h : RetBg w p x x' A n es ps e w') : e = .returned (.slice none 0 0) ∧ ∃ A' c' V, NdL w' p { x' with R := .slice A' (n + 1) c', E := .slice A' (n + 1) (n + 1), role := 3, lead := 0, x0 := x.base + n + 1, c0 := x.base + (n + 1), commit := x.base + (n + 1) } A' (n + 1) c' (es ++ [(x'.term, [])]) (ps ++ [(V, [])]) ∧ Fr w w' (p :: (blk A).toList) ∧ (∀ b, blk A' = some b → b ∈ p :: (blk A).toList ∨ w.heap.size ≤ b) ∧ (∀ b, Value.ownBlock V = some b → w.heap.size ≤ b) := h
set_option maxRecDepth 100000 in
set_option maxHeartbeats 4000000 in
theorem begin_one (h : NdL w p x A n c es ps) (h5 : x.id = 0) (h6 : x.n = 1) (hn : n ≤ 1099511627775) (hb : x.base ≤ 4611686018427387904) (hc : x.commit ≤ x.base + n) (ht : U64 x.term) :
    Calls Try.prog 147 #[.pointer (some ⟨p, 0, none⟩)] w (RetBg w p x x A n es ps) := by
  have HH := Lib.hid h
  have k5 : w.cell? ⟨p, 5, none⟩ = some (.int .i64 0) := by rw [← h5]; exact h.nd.k5
  have k6 : w.cell? ⟨p, 6, none⟩ = some (.int .i64 1) := by rw [← h6]; exact h.nd.k6
  have k8 := h.nd.k8
  have k9 := h.nd.k9
  have y8 := h.nd.thaw 8
  have y9 := h.nd.thaw 9
  have H5 := Lib.hid h5
  have H6 := Lib.hid h6
  have HT := Lib.hid ht
  have HC := Lib.hid hc
  obtain ⟨W, hW⟩ : ∃ W, W = (w.setCell ⟨p, 8, none⟩ (.int .i64 3)).setCell ⟨p, 9, none⟩ (.int .i64 0) := ⟨_, rfl⟩
  have hx : NdAt W p { x with role := 3, lead := 0 } := by rw [hW]; exact (h.nd.s8 3).s9 0
  have hf : Fr w W [p] := by rw [hW]; exact (Fr.set w p 8 _).trans (Fr.set _ p 9 _) (fun b hb => .inl hb)
  have hl := h.turn hf hx rfl rfl
  have HF := Lib.hid hf
  have HL := Lib.hid hl
  have HW := Lib.hid hW
  have j6 : W.cell? ⟨p, 6, none⟩ = some (.int .i64 1) := by rw [← h6]; exact hx.k6
  obtain ⟨z, hz⟩ : ∃ z, z = x.base + n := ⟨_, rfl⟩
  have HZ := Lib.hid hz
  have hzb : z < 9223372036854775808 := by omega
  clear h h5 h6 ht hc hW hx hf hl hz
  go_enter Try.func147, Try.ntmps147
  go_upto_block 3 with (fail)
  rw [← HW.out]
  have HLA : Hid (∀ wx, Below W.heap.size W wx → Calls Try.prog 24 #[.pointer (some ⟨p, 0, none⟩)] wx (RetUq wx z)) := Lib.hid (fun wx hb2 => by have q := last_any (HL.out.nd.below hb2) HL.out.hE (by omega) hb; rw [HZ.out]; exact q)
  have k14 : W.cell? ⟨p, 14, none⟩ = some (.int .u64 (x.x0 : Int)) := Cl.cell HL.out.nd 14
  have k19 : W.cell? ⟨p, 19, none⟩ = some (.int .u64 (x.c0 : Int)) := Cl.cell HL.out.nd 19
  have y14 := HL.out.nd.thaw 14
  have y19 := HL.out.nd.thaw 19
  have HST : Hid (∀ k wr, BgR W p x A n c es ps z k wr → (k = 0 ∧ wr = W) ∨ (k = 1 ∧ NdL wr p { x with role := 3, lead := 0, x0 := z + 1, c0 := 0 } A n c es ps ∧ Fr W wr [p])) := Lib.hid (fun k wr h => h)
  have HN1 : Hid (∀ wr : World, NdAt wr p { x with role := 3, lead := 0, x0 := z + 1, c0 := 0 } → Fr W wr [p] → BgR W p x A n c es ps z 1 wr) := Lib.hid (fun wr h1 h2 => .inr ⟨rfl, HL.out.turn h2 h1 rfl rfl, h2⟩)
  have HND : Hid (NdAt W p { x with role := 3, lead := 0 }) := Lib.hid HL.out.nd
  have e1 : IntKind.u64.wrap ((z : Int) + 1) = ((z + 1 : Nat) : Int) := by rw [IntWalk.u64_in _ (by omega)]; omega
  clear k5 k6 k8 k9 y8 y9
  go_wp2_with fail
  go_loopw [18] (fun s18 wr => ∃ k : Nat, k ≤ 1 ∧ s18 = .int .i64 (k : Int) ∧ BgR W p x A n c es ps z k wr) (fun s _ => 1 - (intOf s).toNat)
  case atStart => exact ⟨0, by omega, rfl, .inl ⟨rfl, rfl⟩⟩
  case round =>
    obtain ⟨k, hk, rfl, hR⟩ := hrel
    rcases HST.out k wr hR with ⟨rfl, rfl⟩ | ⟨rfl, hl1, hf1⟩
    · have hB0 : Below wr.heap.size wr wr.drew := (Below.refl _ _).drew
      clear hR
      go_upto_region 5 with (fail)
      go_region_law (first | (go_simp; go_at_call 24; with_reducible refine (HLA.out _ (by first | exact hB0 | assumption)).mono ?_; intro e w1 hq; obtain ⟨h3, q, h4⟩ := hq.out; subst h3 h4))
      all_goals
        have hx9 : NdAt (((wr.drewN (1 + q)).setCell ⟨p, 14, none⟩ (.int .u64 ((z : Int) + 1))).setCell ⟨p, 19, none⟩ (.int .u64 0)) p { x with role := 3, lead := 0, x0 := z + 1, c0 := 0 } := Cl.set (Cl.set (Cl.drewN HND.out (1 + q)) 14 _) 19 _
        have hf9 : Fr wr (((wr.drewN (1 + q)).setCell ⟨p, 14, none⟩ (.int .u64 ((z : Int) + 1))).setCell ⟨p, 19, none⟩ (.int .u64 0)) [p] := (((Fr.refl wr [p]).drewN (1 + q)).trans (Fr.set _ p 14 _) (fun b hb => .inl hb)).trans (Fr.set _ p 19 _) (fun b hb => .inl hb)
        have H9 := Lib.hid (HN1.out _ hx9 hf9)
        clear hx9 hf9
        go_wp2_with fail
        go_roundw
        case rel => exact ⟨1, by omega, rfl, H9.out⟩
        case measure => simp [intOf]
    · have hex := extend_one (D := none) (dn := 0) (dc := 0) (xs := []) hl1 H5.out H6.out hn hb HC.out HT.out (Rd.nil _ _) (by omega) (fun _ => rfl)
      have HEX := Lib.hid hex
      have HF1 := Lib.hid hf1
      clear hR hex hl1 hf1
      go_wp2_with fail
      with_reducible refine HEX.out.mono ?_
      intro e w2 hq
      obtain ⟨h2, A2, c2, V, hN2, hf2, hA2, hV⟩ := hq.out
      subst h2
      have s1 := HF1.out.size
      have s0 := HF.out.size
      have HFIN : Hid (RetBg w p x x A n es ps (.returned (.slice none 0 0)) w2) := Lib.hid ⟨rfl, A2, c2, V, by rw [← HZ.out]; have h9 := hN2; exact h9, (HF.out.trans HF1.out (fun b hb => .inl hb) |>.mono (fun b hb => .inl (by rw [List.mem_singleton] at hb; simp [hb]))).trans hf2 (fun b hb => .inl hb), fun b hb => by
        rcases hA2 b hb with q | q
        · exact .inl q
        · exact .inr (by omega), fun b hb => by have := hV b hb; omega⟩
      clear hq hN2 hf2 hA2 hV s1 s0
      go_wp2_with fail
      go_ret
      exact HFIN.out
end
end Go.Proofs.Ytlnpicfkcahdbaa
namespace Go.Proofs.Ytlnpicfkcahdbaa
open Go Go.RowKit

/-- What comes of it: nothing is sent, and this holds. -/
def RetPo (Q : World → Prop) (e : Ending) (w' : World) : Prop := e = .returned (.slice none 0 0) ∧ Q w'
theorem RetPo.out {Q : World → Prop} {e : Ending} {w' : World} (h : RetPo Q e w') : e = .returned (.slice none 0 0) ∧ Q w' := h
section
variable {w : World} {p : Nat} {x : Nd} {A : Option Addr} {n c : Nat} {es : List Le} {ps : List VB}
set_option maxRecDepth 100000 in
set_option maxHeartbeats 4000000 in
/-- Alone it goes on at once. -/
theorem poll_one {Q : World → Prop} (g : Nat) (eg : ∀ args w, (callFunc g args).run Try.prog w = .ok (.enter g args) w) (kind t : Int) (h : NdAt w p x) (h6 : x.n = 1)
    (hg : ∀ wx, Below w.heap.size w wx → Calls Try.prog g #[.pointer (some ⟨p, 0, none⟩)] wx (RetPo Q)) :
    Calls Try.prog 138 #[.pointer (some ⟨p, 0, none⟩), .int .i64 kind, .int .u64 t, .func (.func g) #[.pointer (some ⟨p, 0, none⟩)] #[]] w (RetPo Q) := by
  obtain ⟨W, hW⟩ : ∃ W, W = ((w.alloc (.cells #[.pointer (some ⟨p, 0, none⟩)] 24)).alloc (.cells #[.int .i64 kind] 3)).alloc (.cells #[.int .u64 t] 28) := ⟨_, rfl⟩
  have bW : Below w.heap.size w W := by rw [hW]; exact (((Below.refl _ _).alloc (Nat.le_refl _) _).alloc (by simp) _).alloc (by simp; omega) _
  have HG := Lib.hid (hg W bW)
  have k6 : W.cell? ⟨p, 6, none⟩ = some (.int .i64 1) := by rw [← h6]; exact (h.below bW).k6
  have k0 : W.cell? ⟨w.heap.size, 0, none⟩ = some (.pointer (some ⟨p, 0, none⟩)) := by
    rw [hW]
    exact (((Cl.new w #[.pointer (some ⟨p, 0, none⟩)] 24).alloc _).alloc _).cell 0
  have HW := Lib.hid hW
  clear hg h h6 bW hW
  go_enter Try.func138, Try.ntmps138
  go_upto_region 1 with (fail)
  rw [← HW.out]
  go_wp2_with fail
  with_reducible refine HG.out.mono ?_
  intro e w2 hq
  obtain ⟨h2, hQ⟩ := hq.out
  subst h2
  have HQ := Lib.hid hQ
  clear hq hQ
  go_wp2_with fail
  go_ret
  exact ⟨rfl, HQ.out⟩
theorem wrapT (t : Nat) (h : t < 18446744073709551615) : IntKind.u64.wrap ((t : Int) + 1) = ((t + 1 : Nat) : Int) := by rw [IntWalk.u64_in _ (by omega)]; omega
/-- Behind turns of the node's fields alone. -/
theorem RetBg.behind {wx w' : World} {x1 x2 : Nd} {e : Ending} (hf : Fr w wx [p]) (h : RetBg wx p x1 x2 A n es ps e w') (hb : x1.base = x.base) : RetBg w p x x2 A n es ps e w' := by
  obtain ⟨h1, A', c', V, h2, h3, h4, h5⟩ := h
  rw [hb] at h2
  have hs := hf.size
  exact ⟨h1, A', c', V, h2, (hf.mono (fun b hb => .inl (by rw [List.mem_singleton] at hb; simp [hb]))).trans h3 (fun b hb => .inl hb), fun b hb => by
    rcases h4 b hb with q | q
    · exact .inl q
    · exact .inr (by omega), fun b hb => by have := h5 b hb; omega⟩
set_option maxRecDepth 100000 in
set_option maxHeartbeats 4000000 in
theorem stand_one (h : NdL w p x A n c es ps) (h5 : x.id = 0) (h6 : x.n = 1) (hn : n ≤ 1099511627775) (hb : x.base ≤ 4611686018427387904) (hc : x.commit ≤ x.base + n) (ht : x.term < 4611686018427387904) :
    Calls Try.prog 139 #[.pointer (some ⟨p, 0, none⟩)] w (RetBg w p x { x with term := x.term + 1, vote := 0, clock := 0 } A n es ps) := by
  obtain ⟨tm, htm⟩ : ∃ tm, tm = x.term := ⟨_, rfl⟩
  have k0 : w.cell? ⟨p, 0, none⟩ = some (.int .u64 (tm : Int)) := by rw [htm]; exact h.nd.k0
  have k1 := h.nd.k1
  have k5 : w.cell? ⟨p, 5, none⟩ = some (.int .i64 0) := by rw [← h5]; exact h.nd.k5
  have k8 := h.nd.k8
  have k10 := h.nd.k10
  have y0 := h.nd.thaw 0
  have y1 := h.nd.thaw 1
  have y8 := h.nd.thaw 8
  have y10 := h.nd.thaw 10
  have e1 := wrapT tm (by omega)
  have HH := Lib.hid h
  have H5 := Lib.hid h5
  have H6 := Lib.hid h6
  have HT := Lib.hid htm
  have HC := Lib.hid hc
  clear h h5 h6 htm hc
  go_enter Try.func139, Try.ntmps139
  go_upto_region 2 with (fail)
  go_cut [] (fun wx => ∃ q, wx = ((((w.setCell ⟨p, 8, none⟩ (.int .i64 2)).setCell ⟨p, 10, none⟩ (.int .i64 0)).drewN q).setCell ⟨p, 0, none⟩ (.int .u64 ((tm + 1 : Nat) : Int))).setCell ⟨p, 1, none⟩ (.int .i64 0))
  case first =>
    go_region
    all_goals
      go_wp2_with fail
      go_meet
      exact ⟨_, rfl⟩
  case rest =>
    obtain ⟨q, hwc⟩ := hcut
    obtain ⟨w1, hw1⟩ : ∃ w1, w1 = wc := ⟨_, rfl⟩
    rw [← hw1] at hwc ⊢
    have hf1 : Fr w w1 [p] := by
      rw [hwc]
      exact (((((Fr.set w p 8 _).trans (Fr.set _ p 10 _) (fun b hb => .inl hb)).drewN q).trans (Fr.set _ p 0 _) (fun b hb => .inl hb)).trans (Fr.set _ p 1 _) (fun b hb => .inl hb))
    have hx1 : NdAt w1 p { x with role := 2, clock := 0, term := tm + 1, vote := 0 } := by
      rw [hwc]
      exact Cl.set (Cl.set (Cl.drewN (Cl.set (Cl.set HH.out.nd 8 _) 10 _) q) 0 _) 1 _
    have hl1 := HH.out.turn hf1 hx1 rfl rfl
    have j0 : w1.cell? ⟨p, 0, none⟩ = some (.int .u64 ((tm : Int) + 1)) := hx1.k0
    have HPO := Lib.hid (poll_one (w := w1) (p := p) (x := { x with role := 2, clock := 0, term := tm + 1, vote := 0 }) (Q := fun w' => RetBg w p x { x with term := x.term + 1, vote := 0, clock := 0 } A n es ps (.returned (.slice none 0 0)) w') 147 (fun _ _ => rfl) 3 ((tm : Int) + 1) hx1 H6.out (fun wx hb2 => by
      have h1 := begin_one (hl1.below hb2) H5.out H6.out hn hb HC.out (show U64 (tm + 1) by have := HT.out; unfold U64; omega)
      refine h1.mono (fun e w' hq => ?_)
      have hq2 := RetBg.behind (x := x) (x2 := { x with role := 2, clock := 0, term := tm + 1, vote := 0 }) (hf1.trans (Fr.of_below hb2 []) (fun b hb => by cases hb)) hq rfl
      obtain ⟨g1, g2⟩ := hq2
      subst g1
      exact ⟨rfl, rfl, by rw [HT.out] at g2; exact g2⟩))
    clear hwc hw1 hf1 hx1 hl1 k0 k1 k5 k8 k10 y0 y1 y8 y10
    go_wp2_with fail
    with_reducible refine HPO.out.mono ?_
    intro e w2 hq
    obtain ⟨h2, hQ⟩ := hq.out
    subst h2
    have HQ := Lib.hid hQ
    clear hq hQ
    go_wp2_with fail
    go_ret
    exact HQ.out
set_option maxRecDepth 100000 in
set_option maxHeartbeats 4000000 in
theorem ask_one (h : NdL w p x A n c es ps) (h5 : x.id = 0) (h6 : x.n = 1) (hn : n ≤ 1099511627775) (hb : x.base ≤ 4611686018427387904) (hc : x.commit ≤ x.base + n) (ht : x.term < 4611686018427387904) :
    Calls Try.prog 73 #[.pointer (some ⟨p, 0, none⟩)] w (RetBg w p x { x with term := x.term + 1, vote := 0, clock := 0 } A n es ps) := by
  obtain ⟨tm, htm⟩ : ∃ tm, tm = x.term := ⟨_, rfl⟩
  have k8 := h.nd.k8
  have k9 := h.nd.k9
  have y8 := h.nd.thaw 8
  have y9 := h.nd.thaw 9
  have e1 := wrapT tm (by omega)
  have hf1 : Fr w ((w.setCell ⟨p, 8, none⟩ (.int .i64 1)).setCell ⟨p, 9, none⟩ (.int .i64 (-1))) [p] := (Fr.set w p 8 _).trans (Fr.set _ p 9 _) (fun b hb => .inl hb)
  have hx1 : NdAt ((w.setCell ⟨p, 8, none⟩ (.int .i64 1)).setCell ⟨p, 9, none⟩ (.int .i64 (-1))) p { x with role := 1, lead := -1 } := (h.nd.s8 1).s9 (-1)
  obtain ⟨W, hW⟩ : ∃ W, W = (w.setCell ⟨p, 8, none⟩ (.int .i64 1)).setCell ⟨p, 9, none⟩ (.int .i64 (-1)) := ⟨_, rfl⟩
  rw [← hW] at hf1 hx1
  have hl1 := h.turn hf1 hx1 rfl rfl
  have k0 : W.cell? ⟨p, 0, none⟩ = some (.int .u64 (tm : Int)) := by rw [htm]; exact hx1.k0
  have HPO := Lib.hid (poll_one (w := W) (p := p) (x := { x with role := 1, lead := -1 }) (Q := fun w' => RetBg w p x { x with term := x.term + 1, vote := 0, clock := 0 } A n es ps (.returned (.slice none 0 0)) w') 139 (fun _ _ => rfl) 1 ((tm : Int) + 1) hx1 h6 (fun wx hb2 => by
      have h1 := stand_one (hl1.below hb2) h5 h6 hn hb hc ht
      refine h1.mono (fun e w' hq => ?_)
      have hq2 := RetBg.behind (x := x) (hf1.trans (Fr.of_below hb2 []) (fun b hb => by cases hb)) hq rfl
      obtain ⟨g1, g2⟩ := hq2
      subst g1
      exact ⟨rfl, rfl, g2⟩))
  have HW := Lib.hid hW
  clear h h5 h6 hc hf1 hx1 hl1 hW htm
  go_enter Try.func73, Try.ntmps73
  go_upto_region 2 with (fail)
  rw [← HW.out]
  clear k8 k9 y8 y9
  go_wp2_with fail
  with_reducible refine HPO.out.mono ?_
  intro e w2 hq
  obtain ⟨h2, hQ⟩ := hq.out
  subst h2
  have HQ := Lib.hid hQ
  clear hq hQ
  go_wp2_with fail
  go_ret
  exact HQ.out
/-- Its clock goes on. -/
theorem tick_wait (h : NdL w p x A n c es ps) (hr : x.role ≠ 3) (h5 : x.id = 0) (hk : 0 ≤ x.clock ∧ x.clock + 1 < x.lim ∧ x.lim ≤ 1000) :
    Calls Try.prog 15 #[.pointer (some ⟨p, 0, none⟩)] w (RetPo (fun w' => NdL w' p { x with clock := x.clock + 1 } A n c es ps ∧ Fr w w' [p])) := by
  obtain ⟨ck, hck⟩ : ∃ ck, ck = x.clock := ⟨_, rfl⟩
  obtain ⟨lm, hlm⟩ : ∃ lm, lm = x.lim := ⟨_, rfl⟩
  obtain ⟨rl, hrl⟩ : ∃ rl, rl = x.role := ⟨_, rfl⟩
  have k8 : w.cell? ⟨p, 8, none⟩ = some (.int .i64 rl) := by rw [hrl]; exact h.nd.k8
  have k10 : w.cell? ⟨p, 10, none⟩ = some (.int .i64 ck) := by rw [hck]; exact h.nd.k10
  have y10 := h.nd.thaw 10
  rw [← hck, ← hlm] at hk
  rw [← hrl] at hr
  obtain ⟨hk1, hk2, hk3⟩ := hk
  have t1 : (rl == 3) = false := by rw [beq_eq_false_iff_ne]; exact hr
  have e1 : IntKind.i64.wrap (ck + 1) = ck + 1 := IntWalk.i64_in _ (by omega)
  have hf1 : Fr w (w.setCell ⟨p, 10, none⟩ (.int .i64 (ck + 1))) [p] := Fr.set w p 10 _
  have hx1 : NdAt (w.setCell ⟨p, 10, none⟩ (.int .i64 (ck + 1))) p { x with clock := ck + 1 } := h.nd.s10 _
  obtain ⟨W, hW⟩ : ∃ W, W = w.setCell ⟨p, 10, none⟩ (.int .i64 (ck + 1)) := ⟨_, rfl⟩
  rw [← hW] at hf1 hx1
  have hl1 := h.turn hf1 hx1 rfl rfl
  have j10 : W.cell? ⟨p, 10, none⟩ = some (.int .i64 (ck + 1)) := hx1.k10
  have j7 : W.cell? ⟨p, 7, none⟩ = some (.int .i64 lm) := by rw [hlm]; exact hx1.k7
  have j5 : W.cell? ⟨p, 5, none⟩ = some (.int .i64 0) := by rw [← h5]; exact hx1.k5
  have t2 : decide (ck + 1 < lm) = true := by simpa using hk2
  have e2 : IntKind.i64.wrap (lm + 0) = lm := by rw [IntWalk.i64_in _ (by omega)]; omega
  have HF : Hid (∀ q, RetPo (fun w' => NdL w' p { x with clock := x.clock + 1 } A n c es ps ∧ Fr w w' [p]) (.returned (.slice none 0 0)) (W.drewN q)) := Lib.hid (fun q => ⟨rfl, by rw [← hck]; exact hl1.below (below_drewN (Below.refl _ _) q), hf1.drewN q⟩)
  have HW := Lib.hid hW
  have HHI := Lib.hid (And.intro hck (And.intro hlm hrl))
  clear h h5 hf1 hx1 hl1 hW hck hlm hrl hr
  go_enter Try.func15, Try.ntmps15
  go_upto_region 4 with (fail)
  rw [← HW.out]
  clear k8 k10 y10
  go_quiet (fail)
  go_wp2_with fail
  go_ret
  exact HF.out _
set_option maxRecDepth 100000 in
set_option maxHeartbeats 4000000 in
/-- Its clock is out: it leads. -/
theorem tick_lead (h : NdL w p x A n c es ps) (hr : x.role ≠ 3) (h5 : x.id = 0) (h6 : x.n = 1) (hk : 0 ≤ x.clock ∧ x.lim ≤ x.clock + 1 ∧ x.clock ≤ 1000 ∧ 0 ≤ x.lim) (hn : n ≤ 1099511627775) (hb : x.base ≤ 4611686018427387904) (hc : x.commit ≤ x.base + n) (ht : x.term < 4611686018427387904) :
    Calls Try.prog 15 #[.pointer (some ⟨p, 0, none⟩)] w (RetBg w p x { x with term := x.term + 1, vote := 0, clock := 0 } A n es ps) := by
  obtain ⟨ck, hck⟩ : ∃ ck, ck = x.clock := ⟨_, rfl⟩
  obtain ⟨lm, hlm⟩ : ∃ lm, lm = x.lim := ⟨_, rfl⟩
  obtain ⟨rl, hrl⟩ : ∃ rl, rl = x.role := ⟨_, rfl⟩
  obtain ⟨tm, htm⟩ : ∃ tm, tm = x.term := ⟨_, rfl⟩
  have k8 : w.cell? ⟨p, 8, none⟩ = some (.int .i64 rl) := by rw [hrl]; exact h.nd.k8
  have k10 : w.cell? ⟨p, 10, none⟩ = some (.int .i64 ck) := by rw [hck]; exact h.nd.k10
  have y10 := h.nd.thaw 10
  rw [← hck, ← hlm] at hk
  rw [← hrl] at hr
  obtain ⟨hk1, hk2, hk3, hk4⟩ := hk
  have t1 : (rl == 3) = false := by rw [beq_eq_false_iff_ne]; exact hr
  have e1 : IntKind.i64.wrap (ck + 1) = ck + 1 := IntWalk.i64_in _ (by omega)
  have hf1 : Fr w (w.setCell ⟨p, 10, none⟩ (.int .i64 (ck + 1))) [p] := Fr.set w p 10 _
  have hx1 : NdAt (w.setCell ⟨p, 10, none⟩ (.int .i64 (ck + 1))) p { x with clock := ck + 1 } := h.nd.s10 _
  obtain ⟨W, hW⟩ : ∃ W, W = w.setCell ⟨p, 10, none⟩ (.int .i64 (ck + 1)) := ⟨_, rfl⟩
  rw [← hW] at hf1 hx1
  have hl1 := h.turn hf1 hx1 rfl rfl
  have j10 : W.cell? ⟨p, 10, none⟩ = some (.int .i64 (ck + 1)) := hx1.k10
  have j7 : W.cell? ⟨p, 7, none⟩ = some (.int .i64 lm) := by rw [hlm]; exact hx1.k7
  have j5 : W.cell? ⟨p, 5, none⟩ = some (.int .i64 0) := by rw [← h5]; exact hx1.k5
  have t2 : decide (ck + 1 < lm) = false := by simpa using hk2
  have e2 : IntKind.i64.wrap (lm + 0) = lm := by rw [IntWalk.i64_in _ (by omega)]; omega
  have HF1 := Lib.hid hf1
  have HL1 := Lib.hid hl1
  have HW := Lib.hid hW
  have HCK := Lib.hid hck
  have HTM := Lib.hid htm
  have H5 := Lib.hid h5
  have H6 := Lib.hid h6
  have HC := Lib.hid hc
  have htb : tm < 4611686018427387904 := by omega
  clear h h5 h6 hf1 hx1 hl1 hW hck hlm hrl hr hc ht htm
  go_enter Try.func15, Try.ntmps15
  go_upto_region 4 with (fail)
  rw [← HW.out]
  clear k8 k10 y10
  go_quiet (fail)
  obtain ⟨V, hV⟩ : ∃ V, V = (W.drewN nq).setCell ⟨p, 10, none⟩ (.int .i64 0) := ⟨_, rfl⟩
  have y10 : (W.drewN nq).frozen? ⟨p, 10, none⟩ = false := HL1.out.nd.thaw 10
  have g10 : (W.drewN nq).cell? ⟨p, 10, none⟩ = some (.int .i64 (ck + 1)) := j10
  have hx2 : NdAt V p { x with clock := 0 } := by rw [hV]; exact Cl.set (Cl.drewN HL1.out.nd nq) 10 _
  have hf2 : Fr w V [p] := by rw [hV]; exact (HF1.out.drewN nq).trans (Fr.set _ p 10 _) (fun b hb => .inl hb)
  have hl2 := (HL1.out.below (below_drewN (Below.refl _ _) nq)).turn (x' := { x with clock := 0 }) (w' := V) (by rw [hV]; exact Fr.set _ p 10 _) hx2 rfl rfl
  have i0 : V.cell? ⟨p, 0, none⟩ = some (.int .u64 (tm : Int)) := by rw [HTM.out]; exact hx2.k0
  have t3 : ((tm : Int) == 4611686018427387904) = false := by rw [beq_eq_false_iff_ne]; omega
  have HAS := Lib.hid (ask_one hl2 H5.out H6.out hn hb HC.out (show x.term < 4611686018427387904 by rw [← HTM.out]; exact htb))
  have HV := Lib.hid hV
  have HF2 := Lib.hid hf2
  clear hV hx2 hf2 hl2 j10 j7 j5
  go_upto_region 7 with (fail)
  rw [← HV.out]
  clear y10 g10
  go_wp2_with fail
  with_reducible refine HAS.out.mono ?_
  intro e w2 hq
  have HQ := Lib.hid (RetBg.behind (x := x) HF2.out hq rfl)
  obtain ⟨h2, _⟩ := hq.out
  subst h2
  clear hq
  go_wp2_with fail
  go_ret
  exact HQ.out
end
end Go.Proofs.Ytlnpicfkcahdbaa
namespace Go.Proofs.Ytlnpicfkcahdbaa
open Go Go.RowKit

theorem RowL.lower {w wx wr : World} {L : Option Addr} {i d : Nat} {es : List Le} {ps : List VB} (h : RowL wx wx.heap.size L i d es ps wr) (hb : Below w.heap.size w wx) : RowL w w.heap.size L i d es ps wr := by
  obtain ⟨h1, h2, h3, h4, h5, h6, h7⟩ := h
  have hs := hb.size
  exact ⟨h1.mono hs, h2.mono hs, h3, h4, h5, belowT' hb h6, by omega⟩
set_option maxRecDepth 100000 in
theorem elem2r : Try.prog.elem 31 = 44 := by kernel_rfl
set_option maxRecDepth 100000 in
theorem size2r (w : World) : (sizeOf 44).run Try.prog w = .ok 2 w := by kernel_rfl
theorem cut2_l {g off n cap k : Nat} (hk : k ≤ n) (hc : cap ≠ k) (w : World) : (Instr.slice 31 (.slice (some ⟨g, off, none⟩) n cap) (some (.int .i64 (k : Int))) none none).run Try.prog w = .ok (.slice (some ⟨g, off + k * 2, none⟩) (n - k) (cap - k)) w := by
  rw [run_slice_l w 31 (some ⟨g, off, none⟩) n cap (show Try.prog.underlying 31 = some (.slice (Try.prog.elem 31)) by rw [elem2r]; exact Try.underlying31) .i64 (k : Int) (by omega) (by omega)]
  rw [elem2r]
  simp only [size2r, Result.andThen, sliced, Int.toNat_natCast, if_neg hc, Option.map_some]
  rw [Addr.add_lit]
/-- Do the terms rise, from least to most? -/
def risL (most : Nat) : Nat → List Le → Bool
  | _, [] => true
  | least, e :: es => decide (least ≤ e.1) && decide (e.1 ≤ most) && risL most e.1 es
section
variable {w : World} {p : Nat} {x : Nd} {A : Option Addr} {n c : Nat} {es : List Le} {ps : List VB}
/-- What Propose comes to. -/
def RetPr (w : World) (p : Nat) (x : Nd) (A : Option Addr) (n : Nat) (es : List Le) (ps : List VB) (xs : List UInt8) (e : Ending) (w' : World) : Prop :=
  e = .returned (.tuple #[.int .u64 ((x.base + (n + 1) : Nat) : Int), .slice none 0 0, .int .i64 0]) ∧ ∃ A' c' V, NdL w' p { x with R := .slice A' (n + 1) c', E := .slice A' (n + 1) (n + 1), c0 := x.base + (n + 1), commit := x.base + (n + 1) } A' (n + 1) c' (es ++ [(x.term, xs)]) (ps ++ [(V, xs)]) ∧ Fr w w' (p :: (blk A).toList) ∧ (∀ b, blk A' = some b → b ∈ p :: (blk A).toList ∨ w.heap.size ≤ b) ∧ (∀ b, Value.ownBlock V = some b → w.heap.size ≤ b)
theorem RetPr.out {xs : List UInt8} {e : Ending} {w' : World} (h : RetPr w p x A n es ps xs e w') : e = .returned (.tuple #[.int .u64 ((x.base + (n + 1) : Nat) : Int), .slice none 0 0, .int .i64 0]) ∧ ∃ A' c' V, NdL w' p { x with R := .slice A' (n + 1) c', E := .slice A' (n + 1) (n + 1), c0 := x.base + (n + 1), commit := x.base + (n + 1) } A' (n + 1) c' (es ++ [(x.term, xs)]) (ps ++ [(V, xs)]) ∧ Fr w w' (p :: (blk A).toList) ∧ (∀ b, blk A' = some b → b ∈ p :: (blk A).toList ∨ w.heap.size ≤ b) ∧ (∀ b, Value.ownBlock V = some b → w.heap.size ≤ b) := h
set_option maxRecDepth 100000 in
set_option maxHeartbeats 4000000 in
theorem propose_one {D : Option Addr} {dn dc : Nat} {xs : List UInt8} (h : NdL w p x A n c es ps) (hr : x.role = 3) (h5 : x.id = 0) (h6 : x.n = 1) (hn : n ≤ 1099511627775) (hb : x.base ≤ 4611686018427387904) (hc : x.commit ≤ x.base + n) (ht : U64 x.term)
    (hd : Rd w D dn xs) (hdn : dn ≤ 1099511627776) (hdc : D = none → dc = 0) :
    Calls Try.prog 17 #[.pointer (some ⟨p, 0, none⟩), .slice D dn dc] w (RetPr w p x A n es ps xs) := by
  have k8 : w.cell? ⟨p, 8, none⟩ = some (.int .i64 3) := by rw [← hr]; exact h.nd.k8
  have HE := Lib.hid (extend_one h h5 h6 hn hb hc ht hd hdn hdc)
  clear h h5 h6 hc ht hd hdc hr
  go_enter Try.func17, Try.ntmps17
  go_wp2_with fail
  with_reducible refine HE.out.mono ?_
  intro e w1 hq
  obtain ⟨h1, A', c', V, hN, hf, hA, hV⟩ := hq.out
  subst h1
  obtain ⟨z, hz⟩ : ∃ z, z = x.base + (n + 1) := ⟨_, rfl⟩
  have hla := last_any hN.nd hN.hE (by omega) hb
  have HLA : Hid (Calls Try.prog 24 #[.pointer (some ⟨p, 0, none⟩)] w1 (RetUq w1 z)) := Lib.hid (by rw [hz]; exact hla)
  have HFIN : Hid (∀ q, RetPr w p x A n es ps xs (.returned (.tuple #[.int .u64 (z : Int), .slice none 0 0, .int .i64 0])) (w1.drewN q)) := Lib.hid (fun q => by
    rw [hz]
    exact ⟨rfl, A', c', V, hN.below (below_drewN (Below.refl _ _) q), hf.drewN q, hA, hV⟩)
  clear hq hN hf hA hV hla hz k8
  go_wp2_with fail
  with_reducible refine HLA.out.mono ?_
  intro e w2 hq
  obtain ⟨h2, q, h3⟩ := hq.out
  subst h2 h3
  go_wp2_with fail
  exact bodyPost_ret (v := .tuple #[.int .u64 (z : Int), .slice none 0 0, .int .i64 0]) (by simp [results, Try.f17, go_sem]; try rfl) rfl (HFIN.out q)
set_option maxRecDepth 100000 in
set_option maxHeartbeats 4000000 in
/-- The entries from an index on. -/
theorem from_any' (h : NdAt w p x) (hE : x.E = .slice A n n) (hr : RLg w A n es) (hs : SzL es) (hn : n ≤ 1099511627776) (hb : x.base ≤ 4611686018427387904) (i : Nat) (hi : x.base < i) (hi2 : i ≤ x.base + n) :
    Calls Try.prog 20 #[.pointer (some ⟨p, 0, none⟩), .int .u64 (i : Int)] w (RetLg w (es.drop (i - x.base - 1))) := by
  obtain ⟨z, hz⟩ : ∃ z, z = x.base + n := ⟨_, rfl⟩
  obtain ⟨b, hbd⟩ : ∃ b, b = x.base := ⟨_, rfl⟩
  have HLA : Hid (Calls Try.prog 24 #[.pointer (some ⟨p, 0, none⟩)] w (RetUq w z)) := Lib.hid (by rw [hz]; exact last_any h hE hn hb)
  obtain ⟨g, off, hA, hgl⟩ := hr.pos (by omega)
  subst hA
  obtain ⟨k, hk⟩ : ∃ k, k = i - x.base - 1 := ⟨_, rfl⟩
  have hkn : k < n := by omega
  have HPL : Hid (∀ wx, Below w.heap.size w wx → Calls Try.prog 75 #[.pointer (some ⟨p, 0, none⟩), .int .u64 (i : Int)] wx (fun e w' => e = .returned (.int .i64 (k : Int)) ∧ w' = wx)) := Lib.hid (fun wx hb2 => by
    have := place_any (h.below hb2) i hi (by omega) (by omega)
    rw [← hk] at this
    exact this)
  have HOW : Hid (∀ wx, Below w.heap.size w wx → Calls Try.prog 70 #[.slice (some ⟨g, off + k * 2, none⟩) (n - k) (n - k)] wx (RetLg wx (es.drop k))) := Lib.hid (fun wx hb2 => ownL_any ((hr.drop k (by omega)).below hb2) (by omega) (fun e he => hs e (List.mem_of_mem_drop he)))
  have HND : Hid (∀ wx, Below w.heap.size w wx → wx.cell? ⟨p, 4, none⟩ = some (.slice (some ⟨g, off, none⟩) n n) ∧ wx.cell? ⟨p, 2, none⟩ = some (.int .u64 (b : Int))) := Lib.hid (fun wx hb2 => ⟨by rw [← hE]; exact (h.below hb2).k4, by rw [hbd]; exact (h.below hb2).k2⟩)
  rw [← hk]
  rw [← hbd] at hz hk hb hi hi2
  have e1 : IntKind.u64.wrap ((b : Int) + 1) = ((b + 1 : Nat) : Int) := wrapT b (by omega)
  have t1 : decide (z < i) = false := by simp; omega
  have e2 : max (i : Int) ((b : Int) + 1) = (i : Int) := by omega
  have hcut : ∀ w, (Instr.slice 31 (.slice (some ⟨g, off, none⟩) n n) (some (.int .i64 (k : Int))) none none).run Try.prog w = .ok (.slice (some ⟨g, off + k * 2, none⟩) (n - k) (n - k)) w := fun w => by
    exact cut2_l (by omega) (by omega) w
  have HK := Lib.hid hk
  clear h hE hr hs hk hbd hz
  go_enter Try.func20, Try.ntmps20
  go_wp2_with fail
  with_reducible refine HLA.out.mono ?_
  intro e w1 hq
  obtain ⟨h1, q, h2⟩ := hq.out
  subst h1 h2
  obtain ⟨W, hW⟩ : ∃ W, W = w.drewN q := ⟨_, rfl⟩
  rw [← hW]
  have bW : Below w.heap.size w W := by rw [hW]; exact below_drewN (Below.refl _ _) q
  have hB1 : Below w.heap.size w W.drew := bW.drew
  have hB2 : Below w.heap.size w W := bW
  obtain ⟨c4, c2⟩ := HND.out W bW
  have HBW := Lib.hid bW
  have hw2 : W.heap.size = w.heap.size := by rw [hW]; rfl
  have HWS := Lib.hid hw2
  clear hq bW hW hw2
  go_upto_region 3 with (fail)
  go_region_law (first | (go_simp; go_at_call 75; with_reducible refine (HPL.out _ hB1).mono ?_; intro e w1 hq; obtain ⟨h3, h4⟩ := hq; subst h3 h4) | (go_simp; go_at_call 70; with_reducible refine (HOW.out _ hB1).mono ?_; intro e w1 hq; obtain ⟨L, ln, lc, qs, h3, hrow⟩ := RetLg.out hq; subst h3))
  all_goals
    have HF : Hid (RetLg w (es.drop k) (.returned (.slice L ln lc)) w1) := Lib.hid ⟨L, ln, lc, qs, rfl, hrow.lower hB1⟩
    clear hrow
    go_wp2_with fail
    go_ret
    exact HF.out
theorem risL_step {most least : Nat} {e : Le} {es : List Le} {k : Nat} (h : es[k]? = some e) : risL most least (es.drop k) = (decide (least ≤ e.1) && decide (e.1 ≤ most) && risL most e.1 (es.drop (k + 1))) := by
  have hlt := (List.getElem?_eq_some_iff.1 h).1
  rw [List.drop_eq_getElem_cons hlt, (List.getElem?_eq_some_iff.1 h).2]
  rfl
set_option maxRecDepth 100000 in
set_option maxHeartbeats 4000000 in
theorem rising_any {E : Option Addr} {m d : Nat} (hr : RLg w E m es) (hm : m ≤ 1099511627776) (least most : Nat) :
    Calls Try.prog 135 #[.int .u64 (least : Int), .int .u64 (most : Int), .slice E m d] w (RetT w (risL most least es)) := by
  have HR := Lib.hid hr
  have HL := Lib.hid hr.len
  clear hr
  go_enter Try.func135, Try.ntmps135
  go_wp2_with fail
  go_loopw [0, 11] (fun s0 s11 wr => ∃ k l : Nat, k ≤ m ∧ s0 = .int .u64 (l : Int) ∧ s11 = .int .i64 (k : Int) ∧ risL most least es = risL most l (es.drop k) ∧ Below w.heap.size w wr) (fun _ s _ => m - (intOf s).toNat)
  case atStart => exact ⟨0, least, Nat.zero_le _, rfl, rfl, rfl, Below.refl _ _⟩
  case round =>
    obtain ⟨k, l, hk, rfl, rfl, hris, hB⟩ := hrel
    have HRI := Lib.hid hris
    have HB := Lib.hid hB
    clear hris hB
    by_cases hlt : k < m
    · have hR := HR.out.below HB.out
      obtain ⟨b, off, hAb, hbl⟩ := hR.pos (by omega)
      subst hAb
      obtain ⟨y, v0, v1, hx, m0, m1, hev⟩ := hR.at_ k hlt
      obtain ⟨K, kn, kc, rfl, rfl, _⟩ := hev.parts
      have bU : Below wr.heap.size wr (wr.alloc (.cells #[.int .u64 (y.1 : Int), .slice K kn kc] 44)) := (Below.refl _ _).alloc (Nat.le_refl _) _
      have HBU := Lib.hid (belowT' HB.out bU)
      have HST := Lib.hid (risL_step (most := most) (least := l) hx)
      clear hx hev hR bU
      by_cases h1 : y.1 < l
      · have t1 : decide (y.1 < l) = true := by simpa using h1
        have HF : Hid (risL most least es = false) := Lib.hid (by
          rw [HRI.out, HST.out]
          have : decide (l ≤ y.1) = false := by simp; omega
          rw [this]; rfl)
        clear h1
        go_wp2_with fail
        go_ret
        exact ⟨by rw [HF.out]; rfl, HBU.out⟩
      · have t1 : decide (y.1 < l) = false := by simpa using h1
        by_cases h2 : most < y.1
        · have t2 : decide (most < y.1) = true := by simpa using h2
          have HF : Hid (risL most least es = false) := Lib.hid (by
            rw [HRI.out, HST.out]
            have : decide (y.1 ≤ most) = false := by simp; omega
            rw [this, Bool.and_false]; rfl)
          clear h1 h2
          go_wp2_with fail
          go_ret
          exact ⟨by rw [HF.out]; rfl, HBU.out⟩
        · have t2 : decide (most < y.1) = false := by simpa using h2
          have HF : Hid (risL most least es = risL most y.1 (es.drop (k + 1))) := Lib.hid (by
            rw [HRI.out, HST.out]
            have q1 : decide (l ≤ y.1) = true := by simp; omega
            have q2 : decide (y.1 ≤ most) = true := by simp; omega
            rw [q1, q2]; rfl)
          clear h1 h2
          go_wp2_with fail
          go_roundw
          case rel => exact ⟨k + 1, y.1, by omega, rfl, by go_num, HF.out, HBU.out⟩
          case measure => simp [intOf]; omega
    · have HF : Hid (risL most least es = true) := Lib.hid (by
        rw [HRI.out, List.drop_of_length_le (by rw [HL.out]; omega)]; rfl)
      go_wp2_with fail
      go_ret
      exact ⟨by rw [HF.out]; rfl, HB.out⟩
set_option maxRecDepth 100000 in
set_option maxHeartbeats 4000000 in
/-- A state in form. -/
theorem inForm_yes {E : Option Addr} {m d : Nat} (hr : RLg w E m es) (hm : m ≤ 1099511627776) (nn vote : Int) (term base bt : Nat) (h1 : -1 ≤ vote) (h2 : vote < nn) (h3 : term ≤ 4611686018427387904) (h4 : base ≤ 4611686018427387904) (h5 : bt ≤ term) (h6 : risL term bt es = true) :
    Calls Try.prog 68 #[.int .i64 nn, .agg #[.int .u64 (term : Int), .int .i64 vote, .int .u64 (base : Int), .int .u64 (bt : Int), .slice E m d]] w (RetT w true) := by
  obtain ⟨W, hW⟩ : ∃ W, W = w.alloc (.cells #[.int .u64 (term : Int), .int .i64 vote, .int .u64 (base : Int), .int .u64 (bt : Int), .slice E m d] 33) := ⟨_, rfl⟩
  have bW : Below w.heap.size w W := by rw [hW]; exact (Below.refl _ _).alloc (Nat.le_refl _) _
  have HRI : Hid (Calls Try.prog 135 #[.int .u64 (bt : Int), .int .u64 (term : Int), .slice E m d] W (RetT W true)) := Lib.hid (by rw [← h6]; exact rising_any (hr.below bW) hm bt term)
  have zW : Cl W w.heap.size #[.int .u64 (term : Int), .int .i64 vote, .int .u64 (base : Int), .int .u64 (bt : Int), .slice E m d] 33 := by rw [hW]; exact Cl.new _ _ _
  have c0 : W.cell? ⟨w.heap.size, 0, none⟩ = some (.int .u64 (term : Int)) := zW.cell 0
  have c1 : W.cell? ⟨w.heap.size, 1, none⟩ = some (.int .i64 vote) := zW.cell 1
  have c2 : W.cell? ⟨w.heap.size, 2, none⟩ = some (.int .u64 (base : Int)) := zW.cell 2
  have c3 : W.cell? ⟨w.heap.size, 3, none⟩ = some (.int .u64 (bt : Int)) := zW.cell 3
  have c4 : W.cell? ⟨w.heap.size, 4, none⟩ = some (.slice E m d) := zW.cell 4
  have HW := Lib.hid hW
  have HB := Lib.hid bW
  have t1 : decide (-1 ≤ vote) = true := by simpa using h1
  have t2 : decide (vote < nn) = true := by simpa using h2
  have t3 : decide ((term : Int) ≤ 4611686018427387904) = true := by simp; omega
  have t4 : decide ((base : Int) ≤ 4611686018427387904) = true := by simp; omega
  have t5 : decide (bt ≤ term) = true := by simpa using h5
  clear hr hW bW zW h1 h2 h3 h4 h5 h6
  go_enter Try.func68, Try.ntmps68
  go_upto_region 1 with (fail)
  rw [← HW.out]
  go_wp2_with fail
  with_reducible refine HRI.out.mono ?_
  intro e w2 hq
  obtain ⟨h2, b2⟩ := RetT.outD hq
  subst h2
  have HB2 := Lib.hid (belowT' HB.out b2)
  clear hq b2
  go_wp2_with fail
  go_ret
  exact ⟨rfl, HB2.out⟩
end
end Go.Proofs.Ytlnpicfkcahdbaa
namespace Go.Proofs.Ytlnpicfkcahdbaa
open Go Go.RowKit

/-- What New comes to. -/
def RetNn (w : World) (x : Nd) (es : List Le) (e : Ending) (w' : World) : Prop :=
  ∃ p A n c ps, e = .returned (.tuple #[.pointer (some ⟨p, 0, none⟩), .int .i64 0]) ∧ w.heap.size ≤ p ∧ NdL w' p { x with R := .slice A n c, E := .slice A n n } A n c es ps ∧ (∀ b, blk A = some b → w.heap.size ≤ b) ∧ (∀ b q, q ∈ ps → Value.ownBlock q.1 = some b → w.heap.size ≤ b) ∧ Below w.heap.size w w'
theorem RetNn.out {w : World} {x : Nd} {es : List Le} {e : Ending} {w' : World} (h : RetNn w x es e w') : ∃ p A n c ps, e = .returned (.tuple #[.pointer (some ⟨p, 0, none⟩), .int .i64 0]) ∧ w.heap.size ≤ p ∧ NdL w' p { x with R := .slice A n c, E := .slice A n n } A n c es ps ∧ (∀ b, blk A = some b → w.heap.size ≤ b) ∧ (∀ b q, q ∈ ps → Value.ownBlock q.1 = some b → w.heap.size ≤ b) ∧ Below w.heap.size w w' := h
/-- A node that has just been made. -/
def nd0 (term : Nat) (vote : Int) (base bt : Nat) (id nn lim : Int) : Nd := ⟨term, vote, base, bt, .slice none 0 0, id, nn, lim, 0, -1, 0, base, .slice none 0 0, 0, 0, 0, 0, 0, 0, 0, 0, 0, 0, 0⟩
section
variable {w : World} {p : Nat} {x : Nd} {A : Option Addr} {n c : Nat} {es : List Le} {ps : List VB}
set_option maxRecDepth 100000 in
set_option maxHeartbeats 8000000 in
theorem new_yes {E : Option Addr} {m d : Nat} (hr : RLg w E m es) (hs : SzL es) (hm : m ≤ 1099511627776) (id nn lim vote : Int) (term base bt : Nat) (g1 : 1 ≤ nn) (g2 : nn ≤ 5) (g3 : 0 ≤ id) (g4 : id < nn) (g5 : 1 ≤ lim) (g6 : lim ≤ 1000)
    (h1 : -1 ≤ vote) (h2 : vote < nn) (h3 : term ≤ 4611686018427387904) (h4 : base ≤ 4611686018427387904) (h5 : bt ≤ term) (h6 : risL term bt es = true) :
    Calls Try.prog 14 #[.int .i64 id, .int .i64 nn, .int .i64 lim, .agg #[.int .u64 (term : Int), .int .i64 vote, .int .u64 (base : Int), .int .u64 (bt : Int), .slice E m d]] w (RetNn w (nd0 term vote base bt id nn lim) es) := by
  obtain ⟨W, hW⟩ : ∃ W, W = w.alloc (.cells #[.int .u64 (term : Int), .int .i64 vote, .int .u64 (base : Int), .int .u64 (bt : Int), .slice E m d] 33) := ⟨_, rfl⟩
  have bW : Below w.heap.size w W := by rw [hW]; exact (Below.refl _ _).alloc (Nat.le_refl _) _
  have HIF : Hid (Calls Try.prog 68 #[.int .i64 nn, .agg #[.int .u64 (term : Int), .int .i64 vote, .int .u64 (base : Int), .int .u64 (bt : Int), .slice E m d]] W (RetT W true)) := Lib.hid (inForm_yes (hr.below bW) hm nn vote term base bt h1 h2 h3 h4 h5 h6)
  have zW : Cl W w.heap.size #[.int .u64 (term : Int), .int .i64 vote, .int .u64 (base : Int), .int .u64 (bt : Int), .slice E m d] 33 := by rw [hW]; exact Cl.new _ _ _
  have c0 : W.cell? ⟨w.heap.size, 0, none⟩ = some (.int .u64 (term : Int)) := zW.cell 0
  have c1 : W.cell? ⟨w.heap.size, 1, none⟩ = some (.int .i64 vote) := zW.cell 1
  have c2 : W.cell? ⟨w.heap.size, 2, none⟩ = some (.int .u64 (base : Int)) := zW.cell 2
  have c3 : W.cell? ⟨w.heap.size, 3, none⟩ = some (.int .u64 (bt : Int)) := zW.cell 3
  have c4 : W.cell? ⟨w.heap.size, 4, none⟩ = some (.slice E m d) := zW.cell 4
  have HW := Lib.hid hW
  have HB := Lib.hid bW
  have HZ := Lib.hid zW
  have HR := Lib.hid hr
  have HS := Lib.hid hs
  have t1 : decide (nn < 1) = false := by simp; omega
  have t2 : decide (5 < nn) = false := by simp; omega
  have t3 : decide (id < 0) = false := by simp; omega
  have t4 : decide (nn ≤ id) = false := by simp; omega
  have t5 : decide (lim < 1) = false := by simp; omega
  have t6 : decide (1000 < lim) = false := by simp; omega
  clear hr hs hW bW zW g1 g2 g3 g4 g5 g6 h1 h2 h3 h4 h5 h6
  go_enter Try.func14, Try.ntmps14
  go_upto_region 1 with (fail)
  rw [← HW.out]
  go_wp2_with fail
  with_reducible refine HIF.out.mono ?_
  intro e w1 hq
  obtain ⟨h2, b1⟩ := RetT.outD hq
  subst h2
  obtain ⟨g0, hg0⟩ : ∃ g0, g0 = w.heap.size := ⟨_, rfl⟩
  have zW1 := HZ.out.below b1
  rw [← hg0] at zW1 c0 c1 c2 c3 c4 ⊢
  have d0 : w1.cell? ⟨g0, 0, none⟩ = some (.int .u64 (term : Int)) := zW1.cell 0
  have d1 : w1.cell? ⟨g0, 1, none⟩ = some (.int .i64 vote) := zW1.cell 1
  have d2 : w1.cell? ⟨g0, 2, none⟩ = some (.int .u64 (base : Int)) := zW1.cell 2
  have d3 : w1.cell? ⟨g0, 3, none⟩ = some (.int .u64 (bt : Int)) := zW1.cell 3
  have d4 : w1.cell? ⟨g0, 4, none⟩ = some (.slice E m d) := zW1.cell 4
  have HG := Lib.hid hg0
  have HB1 := Lib.hid (belowT' HB.out b1)
  clear hq b1 zW1 hg0 c0 c1 c2 c3 c4
  go_upto_region 6 with (fail)
  obtain ⟨V, hV⟩ : ∃ V, V = w1.alloc (.cells #[.int .u64 (term : Int), .int .i64 vote, .int .u64 (base : Int), .int .u64 (bt : Int), .slice E m d, .int .i64 id, .int .i64 nn, .int .i64 lim, .int .i64 0, .int .i64 (-1), .int .i64 0, .int .u64 (base : Int), .slice none 0 0, .int .u64 0, .int .u64 0, .int .u64 0, .int .u64 0, .int .u64 0, .int .u64 0, .int .u64 0, .int .u64 0, .int .u64 0, .int .u64 0, .int .u64 0] 48) := ⟨_, rfl⟩
  rw [← hV]
  obtain ⟨p, hp⟩ : ∃ p, p = w1.heap.size := ⟨_, rfl⟩
  rw [← hp]
  have hN : NdAt V p { nd0 term vote base bt id nn lim with E := .slice E m d } := by rw [hV, hp]; exact Cl.new _ _ _
  have bV : Below w1.heap.size w1 V := by rw [hV]; exact (Below.refl _ _).alloc (Nat.le_refl _) _
  have bV2 := belowT' HB1.out bV
  have d4' : V.cell? ⟨g0, 4, none⟩ = some (.slice E m d) := (bV.cell (p := ⟨g0, 4, none⟩) (cell_lt d4)).trans d4
  have HOW := Lib.hid (ownL_any (c := d) (HR.out.below bV2) hm HS.out)
  have HN := Lib.hid hN
  have HV := Lib.hid bV2
  have hps : w.heap.size ≤ p := by rw [hp]; exact HB1.out.size
  have hpV : p < V.heap.size := hN.lt
  clear hV hp hN bV bV2 d0 d1 d2 d3 d4
  go_wp2_with fail
  with_reducible refine HOW.out.mono ?_
  intro e w3 hq
  obtain ⟨L, k, dd, ps, h3, hrow⟩ := RetLg.out hq
  subst h3
  have hN3 := HN.out.below hrow.bel
  have HKP := Lib.hid (keep_any' hN3 hrow.own.lit hrow.own.cap.1 hrow.own.cap.2)
  have hN5 := (hN3.s12 (.slice L k dd)).s4 (.slice L k k)
  have hf5 : Fr w3 ((w3.setCell ⟨p, 12, none⟩ (.slice L k dd)).setCell ⟨p, 4, none⟩ (.slice L k k)) [p] := (Fr.set w3 p 12 _).trans (Fr.set _ p 4 _) (fun b hb => .inl hb)
  have HFIN : Hid (RetNn w (nd0 term vote base bt id nn lim) es (.returned (.tuple #[.pointer (some ⟨p, 0, none⟩), .int .i64 0])) ((w3.setCell ⟨p, 12, none⟩ (.slice L k dd)).setCell ⟨p, 4, none⟩ (.slice L k k))) := Lib.hid (by
    have hsV := HV.out.size
    refine ⟨p, L, k, dd, ps, rfl, hps, ⟨hN5, rfl, rfl, (hrow.own.mono (Nat.zero_le _)).fr hf5 (fun b hb hm => ?_), (hrow.fam.mono (Nat.zero_le _)).fr hf5 (fun b hb => ?_), hrow.dat, hrow.wf, hrow.len⟩, fun b hb => ?_, fun b q hq hb => ?_, ?_⟩
    · rw [List.mem_singleton] at hm
      subst hm
      have := (hrow.own.lt _ hb).1
      omega
    · rw [List.mem_singleton] at hb
      subst hb
      exact hrow.fam.off_old hpV
    · have := (hrow.own.lt b hb).1; omega
    · have := (hrow.fam.lt hq hb).1; omega
    · have h1 : Below w.heap.size w w3 := belowT' HV.out hrow.bel
      exact (h1.setCell hps _).setCell hps _)
  clear hq hrow hN3 hN5 hf5 d4' hps hpV
  go_wp2_with fail
  with_reducible refine HKP.out.mono ?_
  rintro e w4 ⟨rfl, rfl⟩
  go_wp2_with fail
  exact bodyPost_ret (v := .tuple #[.pointer (some ⟨p, 0, none⟩), .int .i64 0]) (by simp [results, Try.f14, go_sem]; try rfl) rfl HFIN.out
/-- What a node tells of itself. -/
theorem lead_any (h : NdAt w p x) : Calls Try.prog 66 #[.pointer (some ⟨p, 0, none⟩)] w (fun e w' => e = .returned (.int .i64 x.lead) ∧ w = w') := by
  have k := h.k9
  clear h
  go_enter Try.func66, Try.ntmps66
  go_wp2_with fail
  go_ret
  exact ⟨rfl, rfl⟩
theorem role_any (h : NdAt w p x) : Calls Try.prog 67 #[.pointer (some ⟨p, 0, none⟩)] w (fun e w' => e = .returned (.int .i64 x.role) ∧ w = w') := by
  have k := h.k8
  clear h
  go_enter Try.func67, Try.ntmps67
  go_wp2_with fail
  go_ret
  exact ⟨rfl, rfl⟩
theorem commit_any (h : NdAt w p x) : Calls Try.prog 25 #[.pointer (some ⟨p, 0, none⟩)] w (fun e w' => e = .returned (.int .u64 (x.commit : Int)) ∧ w = w') := by
  have k := h.k11
  clear h
  go_enter Try.func25, Try.ntmps25
  go_wp2_with fail
  go_ret
  exact ⟨rfl, rfl⟩
end
end Go.Proofs.Ytlnpicfkcahdbaa
namespace Go.Proofs.Ytlnpicfkcahdbaa
open Go Go.RowKit

/-- It leads, and agrees on two entries. -/
def AwP (w : World) (p : Nat) (bl : List Nat) (e : Ending) (w' : World) : Prop :=
  e = .returned (.tuple #[.int .u64 2, .slice none 0 0, .int .i64 0]) ∧ ∃ x A n c es ps, NdL w' p x A n c es ps ∧ x.role = 3 ∧ x.commit = 2 ∧ x.term = 1 ∧ Fr w w' bl
theorem AwP.out {w : World} {p : Nat} {bl : List Nat} {e : Ending} {w' : World} (h : AwP w p bl e w') : e = .returned (.tuple #[.int .u64 2, .slice none 0 0, .int .i64 0]) ∧ ∃ x A n c es ps, NdL w' p x A n c es ps ∧ x.role = 3 ∧ x.commit = 2 ∧ x.term = 1 ∧ Fr w w' bl := h
set_option maxRecDepth 100000 in
set_option maxHeartbeats 8000000 in
theorem awake17_any (w : World) : Calls Try.prog 13 #[] w (RetT w true) := by
  have HNW : Hid (Calls Try.prog 14 #[.int .i64 0, .int .i64 1, .int .i64 2, .agg #[.int .u64 0, .int .i64 (-1), .int .u64 0, .int .u64 0, .slice none 0 0]] w (RetNn w (nd0 0 (-1) 0 0 0 1 2) [])) := Lib.hid (new_yes (E := none) (m := 0) (d := 0) (RLg.nil w none) (fun e h => by cases h) (by omega) 0 1 2 (-1) 0 0 0 (by omega) (by omega) (by omega) (by omega) (by omega) (by omega) (by omega) (by omega) (by omega) (by omega) (by omega) rfl)
  go_enter Try.func13, Try.ntmps13
  go_wp2_with fail
  with_reducible refine HNW.out.mono ?_
  intro e w1 hq
  obtain ⟨p, A, n, c, ps, h1, hp, hN, hA, hps, hb1⟩ := hq.out
  subst h1
  obtain rfl : n = 0 := by have := hN.len; simpa using this.symm
  have HLD : Hid (Calls Try.prog 66 #[.pointer (some ⟨p, 0, none⟩)] w1 (fun e w' => e = .returned (.int .i64 (-1)) ∧ w1 = w')) := Lib.hid (lead_any hN.nd)
  have HT1 := Lib.hid (tick_wait hN (show (0 : Int) ≠ 3 by decide) rfl (show (0 : Int) ≤ 0 ∧ (0 : Int) + 1 < 2 ∧ (2 : Int) ≤ 1000 by decide))
  have HA := Lib.hid hA
  have HB1 := Lib.hid hb1
  clear hq hN hA hps hb1 HNW
  go_wp2_with fail
  with_reducible refine HLD.out.mono ?_
  rintro e w2 ⟨rfl, rfl⟩
  go_wp2_with fail
  with_reducible refine HT1.out.mono ?_
  intro e w2 hq
  obtain ⟨h2, hN2, hf2⟩ := hq.out
  subst h2
  have HT2 := Lib.hid (tick_lead hN2 (show (0 : Int) ≠ 3 by decide) rfl rfl (show (0 : Int) ≤ 0 + 1 ∧ (2 : Int) ≤ 0 + 1 + 1 ∧ (0 : Int) + 1 ≤ 1000 ∧ (0 : Int) ≤ 2 by decide) (by omega) (show (0 : Nat) ≤ 4611686018427387904 by omega) (show (0 : Nat) ≤ 0 + 0 by omega) (show (0 : Nat) < 4611686018427387904 by omega))
  have HB2 := Lib.hid (HB1.out.trans (hf2.below (base := w.heap.size) (fun b hb => by rw [List.mem_singleton] at hb; omega) HB1.out.size))
  clear hq hN2 hf2 HLD HT1
  go_wp2_with fail
  with_reducible refine HT2.out.mono ?_
  intro e w3 hq
  obtain ⟨h3, A3, c3, V, hN3, hf3, hA3, hV⟩ := hq.out
  subst h3
  have HN3 := Lib.hid hN3
  have HB3 := Lib.hid (HB2.out.trans (hf3.below (base := w.heap.size) (fun b hb => by
    rcases List.mem_cons.1 hb with q | q
    · omega
    · rw [Option.mem_toList] at q; exact HA.out b q) HB2.out.size))
  have hA4 : ∀ b, blk A3 = some b → w.heap.size ≤ b := fun b hb => by
    rcases hA3 b hb with q | q
    · rcases List.mem_cons.1 q with q | q
      · omega
      · rw [Option.mem_toList] at q; exact HA.out b q
    · have := HB2.out.size; omega
  have HA4 := Lib.hid hA4
  clear hq hN3 hf3 hA3 hV hA4 HT2
  have kc := fun (w : World) (C : Array Value) (n c g : Nat) (hg : g = w.heap.size) => Joins.run_convert_bytes_const_at (P := Try.prog) w 22 5 C n c g hg Try.underlying22 Try.underlying5
  obtain ⟨W, hW⟩ : ∃ W, W = w3.alloc (.cells #[.int .u8 120] 5 (1, 2)) := ⟨_, rfl⟩
  have bW : Below w3.heap.size w3 W := by rw [hW]; exact (Below.refl _ _).alloc (Nat.le_refl _) _
  have rW : Rd W (some ⟨w3.heap.size, 0, none⟩) 1 [120] := by
    rw [hW]
    refine ⟨rfl, fun _ => ⟨w3.heap.size, 0, rfl, by simp, fun i x hx => ?_⟩⟩
    rw [cell_of_row (w3.alloc (.cells #[.int .u8 120] 5 (1, 2))) w3.heap.size (0 + i) #[.int .u8 120] 5 (1, 2) (heap_alloc_new w3 _)]
    match i, hx with
    | 0, hx => injection hx with hx; subst hx; rfl
    | i + 1, hx => cases hx
  have HPR : Hid (Calls Try.prog 17 #[.pointer (some ⟨p, 0, none⟩), .slice (some ⟨w3.heap.size, 0, none⟩) 1 1] W (AwP W p (p :: (blk A3).toList))) := Lib.hid ((propose_one (HN3.out.below bW) rfl rfl rfl (by omega) (show (0 : Nat) ≤ 4611686018427387904 by omega) (show (0 : Nat) + (0 + 1) ≤ 0 + (0 + 1) by omega) (show U64 (0 + 1) by unfold U64; omega) rW (by omega) (fun h => by cases h)).mono (fun e w' hq => by
    obtain ⟨h1, A', c', V', hN, hf, _, _⟩ := hq.out
    exact ⟨h1, _, _, _, _, _, _, hN, rfl, rfl, rfl, hf⟩))
  have HW := Lib.hid hW
  have HB4 := Lib.hid (belowT' HB3.out bW)
  clear hW bW rW
  go_wp2_with fail
  rw [← HW.out]
  clear kc
  with_reducible refine HPR.out.mono ?_
  intro e w4 hq
  obtain ⟨h4, x4, A4, n4, c4, es4, ps4, hN4, hr4, hc4, ht4, hf4⟩ := hq.out
  subst h4
  have HRO : Hid (Calls Try.prog 67 #[.pointer (some ⟨p, 0, none⟩)] w4 (fun e w' => e = .returned (.int .i64 3) ∧ w4 = w')) := Lib.hid (by rw [← hr4]; exact role_any hN4.nd)
  have HCO : Hid (Calls Try.prog 25 #[.pointer (some ⟨p, 0, none⟩)] w4 (fun e w' => e = .returned (.int .u64 2) ∧ w4 = w')) := Lib.hid (by
    have h := commit_any hN4.nd
    rw [hc4] at h
    exact h)
  have k0 : w4.cell? ⟨p, 0, none⟩ = some (.int .u64 1) := by
    have h := hN4.nd.k0
    rw [ht4] at h
    exact h
  have HB5 := Lib.hid (HB4.out.trans (hf4.below (base := w.heap.size) (fun b hb => by
    rcases List.mem_cons.1 hb with q | q
    · omega
    · rw [Option.mem_toList] at q; exact HA4.out b q) HB4.out.size))
  clear hq hN4 hr4 hc4 ht4 hf4 HPR
  go_wp2_with fail
  with_reducible refine HRO.out.mono ?_
  rintro e w5 ⟨rfl, rfl⟩
  go_wp2_with fail
  with_reducible refine HCO.out.mono ?_
  rintro e w5 ⟨rfl, rfl⟩
  go_wp2_with fail
  go_ret
  exact ⟨rfl, HB5.out⟩
end Go.Proofs.Ytlnpicfkcahdbaa
namespace Go.Proofs.Ytlnpicfkcahdbaa
open Go Go.RowKit

theorem Fr.of_smR {K : List Nat} {w w' : World} {base : Nat} (hb : Below base w w') (h : Sm K w w') : Fr w w' ((List.range w.heap.size).filter (fun b => decide (b ∉ K))) :=
  ⟨hb.os, hb.tape, hb.output, hb.size, fun k hk hn => (h k (by
    by_cases hK : k ∈ K
    · exact hK
    · exact absurd (List.mem_filter.2 ⟨List.mem_range.2 hk, by simpa using hK⟩) hn)).2⟩
theorem sm_offR {K : List Nat} {w : World} {b : Nat} (h : b ∈ K) : b ∉ (List.range w.heap.size).filter (fun b => decide (b ∉ K)) := fun hm => by
  have := (List.mem_filter.1 hm).2
  simp at this
  exact this h
/-- All blocks of a node. -/
def ndB (p : Nat) (A : Option Addr) (ps : List VB) : List Nat := p :: ((blk A).toList ++ ps.flatMap (fun q => (Value.ownBlock q.1).toList))
theorem ndB_mem {p : Nat} {A : Option Addr} {ps : List VB} {b : Nat} (h : b ∈ ndB p A ps) : b = p ∨ blk A = some b ∨ ∃ q ∈ ps, Value.ownBlock q.1 = some b := by
  unfold ndB at h
  rcases List.mem_cons.1 h with h | h
  · exact .inl h
  · rcases List.mem_append.1 h with h | h
    · rw [Option.mem_toList] at h; exact .inr (.inl h)
    · obtain ⟨q, hq, h⟩ := List.mem_flatMap.1 h
      rw [Option.mem_toList] at h
      exact .inr (.inr ⟨q, hq, h⟩)
theorem NdL.blocks {w : World} {p : Nat} {x : Nd} {A : Option Addr} {n c : Nat} {es : List Le} {ps : List VB} (h : NdL w p x A n c es ps) : ∀ b ∈ ndB p A ps, b < w.heap.size := fun b hb => by
  rcases ndB_mem hb with rfl | hb | ⟨q, hq, hb⟩
  · exact h.nd.lt
  · exact (h.own.lt b hb).2
  · exact (h.fam.lt hq hb).2
theorem NdL.sm {w w' : World} {p : Nat} {x : Nd} {A : Option Addr} {n c base : Nat} {es : List Le} {ps : List VB} {K : List Nat} (h : NdL w p x A n c es ps) (hb : Below base w w') (hs : Sm K w w') (hK : ∀ b ∈ ndB p A ps, b ∈ K) : NdL w' p x A n c es ps :=
  h.off (Fr.of_smR hb hs) (sm_offR (hK p (by simp [ndB]))) (fun b hb => sm_offR (hK b (by simp [ndB, hb]))) (fun b hb q hq e => absurd hb (sm_offR (hK b (by
    unfold ndB
    refine List.mem_cons_of_mem _ (List.mem_append_right _ (List.mem_flatMap.2 ⟨q, hq, ?_⟩))
    rw [Option.mem_toList]; exact e))))
/-- A list of one entry, made by the call. -/
theorem RowL.one {W wr : World} {base : Nat} {L : Option Addr} {i d t : Nat} {xs : List UInt8} {ps : List VB} (h : RowL W base L i d [(t, xs)] ps wr) :
    ∃ g B m c, L = some ⟨g, 0, none⟩ ∧ i = 1 ∧ ps = [(.slice B m c, xs)] ∧ wr.cell? ⟨g, 0, none⟩ = some (.int .u64 (t : Int)) ∧ wr.cell? ⟨g, 1, none⟩ = some (.slice B m c) ∧ Own 5 wr base B m c xs ∧ base ≤ g ∧ g < wr.heap.size ∧ blk B ≠ some g := by
  have hl := h.len
  simp only [List.length_singleton] at hl
  subst hl
  have hd := h.dat
  have hpl := h.plen
  obtain ⟨⟨v, ys⟩, rfl⟩ : ∃ q, ps = [q] := by
    match ps, hpl with
    | [q], _ => exact ⟨q, rfl⟩
    | [], h => simp at h
    | _ :: _ :: _, h => simp at h
  simp only [List.map_cons, List.map_nil, List.cons.injEq, and_true] at hd
  subst hd
  obtain ⟨B, m, c, e1, ho⟩ := h.fam.1 _ (List.mem_singleton.2 rfl)
  simp only at e1 ho
  subst e1
  rcases h.own.lit with ⟨_, h0, _⟩ | ⟨g, hg⟩
  · omega
  subst hg
  have hr := h.own.rd
  obtain ⟨b, off, e2, hlt, hc⟩ := hr.2 (by omega)
  injection e2 with e2
  injection e2 with e3 e4
  subst e3 e4
  exact ⟨_, B, m, c, rfl, rfl, rfl, hc 0 _ rfl, hc 1 _ rfl, ho, (h.own.lt _ rfl).1, hlt, fun e => fam_off_G h.fam h.own _ rfl _ (List.mem_singleton.2 rfl) (by rw [own_blk]; exact e)⟩
set_option maxRecDepth 100000 in
set_option maxHeartbeats 16000000 in
theorem raftKeeps_row (A : Option Addr) (la ca : Nat) (xs : List UInt8) (w : World) (hx : Rd w A la xs) (hla : la ≤ ca) (hca : ca ≤ 1048576) :
    Calls Try.prog 3 #[.slice A la ca] w (RetT w true) := by
  have HXL := Lib.hid hx.len
  have HX := Lib.hid hx
  clear hx
  go_enter Try.func3, Try.ntmps3
  go_wp2_with fail
  with_reducible refine (awake17_any w).mono ?_
  intro e w1 hq
  obtain ⟨h1, k1⟩ := RetT.outD hq
  subst h1
  have HK1 := Lib.hid k1
  have HNW : Hid (Calls Try.prog 14 #[.int .i64 0, .int .i64 1, .int .i64 1, .agg #[.int .u64 0, .int .i64 (-1), .int .u64 0, .int .u64 0, .slice none 0 0]] w1 (RetNn w1 (nd0 0 (-1) 0 0 0 1 1) [])) := Lib.hid (new_yes (E := none) (m := 0) (d := 0) (RLg.nil w1 none) (fun e h => by cases h) (by omega) 0 1 1 (-1) 0 0 0 (by omega) (by omega) (by omega) (by omega) (by omega) (by omega) (by omega) (by omega) (by omega) (by omega) (by omega) rfl)
  clear hq k1
  go_wp2_with fail
  with_reducible refine HNW.out.mono ?_
  intro e w2 hq
  obtain ⟨p, A2, n, c2, ps, h2, hp, hN, hA, hps, hb2⟩ := hq.out
  subst h2
  obtain rfl : n = 0 := by have := hN.len; simpa using this.symm
  obtain rfl : ps = [] := by have := congrArg List.length hN.dat; exact List.eq_nil_of_length_eq_zero (by simpa using this)
  have HT := Lib.hid (tick_lead hN (show (0 : Int) ≠ 3 by decide) rfl rfl (show (0 : Int) ≤ 0 ∧ (1 : Int) ≤ 0 + 1 ∧ (0 : Int) ≤ 1000 ∧ (0 : Int) ≤ 1 by decide) (by omega) (show (0 : Nat) ≤ 4611686018427387904 by omega) (show (0 : Nat) ≤ 0 + 0 by omega) (show (0 : Nat) < 4611686018427387904 by omega))
  have HA := Lib.hid hA
  have HK2 := Lib.hid (belowT' HK1.out hb2)
  have s1 := HK1.out.size
  have s12 := hb2.size
  clear hq hN hA hps hb2 HNW
  go_wp2_with fail
  with_reducible refine HT.out.mono ?_
  intro e w3 hq
  obtain ⟨h3, A3, c3, V0, hN3, hf3, hA3, hV0⟩ := hq.out
  subst h3
  have s2 := HK2.out.size
  have HK3 := Lib.hid (HK2.out.trans (hf3.below (base := w.heap.size) (fun b hb => by
    rcases List.mem_cons.1 hb with q | q
    · omega
    · rw [Option.mem_toList] at q; have := HA.out b q; omega) HK2.out.size))
  have hA4 : ∀ b, blk A3 = some b → w1.heap.size ≤ b := fun b hb => by
    rcases hA3 b hb with q | q
    · rcases List.mem_cons.1 q with q | q
      · omega
      · rw [Option.mem_toList] at q; exact HA.out b q
    · omega
  have HA4 := Lib.hid hA4
  have HA5 := Lib.hid (fun b (hb : blk A3 = some b) => (hN3.own.lt b hb).2)
  have HV0 := Lib.hid (fun b (hb : Value.ownBlock V0 = some b) => (hN3.fam.lt (p := (V0, [])) (by simp) hb).2)
  have HN3 := Lib.hid hN3
  have hp3 := hN3.nd.lt
  clear hq hN3 hf3 hA3 hV0 hA4 HT HA
  go_wp2_with fail
  refine (Spare_any A la ca xs _ (HX.out.below HK3.out) (by omega)).mono ?_
  rintro e w4 ⟨gx, rfl, ox, hb4⟩
  have s4 := hb4.size
  have hgx := ox.lt gx rfl
  have hK4 := HK3.out.trans (hb4.mono HK3.out.size)
  have hN4 := HN3.out.below hb4
  have rx4 : Rd w4 (some ⟨gx, 0, none⟩) la xs := rdPre2 ox HXL.out
  have HPR := Lib.hid (propose_one hN4 rfl rfl rfl (by omega) (show (0 : Nat) ≤ 4611686018427387904 by omega) (show (0 : Nat) + (0 + 1) ≤ 0 + (0 + 1) by omega) (show U64 (0 + 1) by unfold U64; omega) rx4 (dc := la + 40) (by omega) (fun h => by cases h))
  have HK4 := Lib.hid hK4
  have HN4 := Lib.hid hN4
  have OX := Lib.hid ox
  have sk3 := HK3.out.size
  clear hK4 hN4 rx4 ox hb4
  go_wp2_with fail
  with_reducible refine HPR.out.mono ?_
  intro e w5 hq
  obtain ⟨h5, A5, c5, V1, hN5, hf5, hA5, hV1⟩ := hq.out
  subst h5
  have s5 := hf5.size
  have hcut5 : ∀ b ∈ p :: (blk A3).toList, w1.heap.size ≤ b ∧ b < w3.heap.size := fun b hb => by
    rcases List.mem_cons.1 hb with q | q
    · omega
    · rw [Option.mem_toList] at q; exact ⟨HA4.out b q, HA5.out b q⟩
  have ox5 := OX.out.fr hf5 (fun b hb hm => by
    have h1 : gx = b := Option.some.inj hb
    have := hcut5 b hm
    omega)
  have hK5 : Below w.heap.size w w5 := HK4.out.trans (hf5.below (fun b hb => by have := hcut5 b hb; have := HK1.out.size; omega) HK4.out.size)
  have hA6 : ∀ b, blk A5 = some b → (w1.heap.size ≤ b ∧ b < w3.heap.size) ∨ w4.heap.size ≤ b := fun b hb => by
    rcases hA5 b hb with q | q
    · exact .inl (hcut5 b q)
    · exact .inr q
  have HBL : Hid (∀ b ∈ ndB p A5 ([] ++ [(V0, [])] ++ [(V1, xs)]), b < w5.heap.size ∧ b ≠ gx) := Lib.hid (fun b hb => ⟨hN5.blocks b hb, fun e => by
    rcases ndB_mem hb with q | q | ⟨q, hq, e2⟩
    · omega
    · rcases hA6 b q with h | h <;> omega
    · simp only [List.nil_append, List.cons_append, List.mem_cons, List.not_mem_nil, or_false] at hq
      rcases hq with rfl | rfl
      · have := HV0.out _ e2; omega
      · have := hV1 _ e2; omega⟩)
  have HA6 := Lib.hid hA6
  have HV1 := Lib.hid hV1
  have HN5 := Lib.hid hN5
  have HK5 := Lib.hid hK5
  have OX5 := Lib.hid ox5
  clear hq hN5 hf5 hA5 hV1 hcut5 ox5 hK5 hA6 HPR OX HN4
  go_wp2_with fail
  refine (Kept_any (some ⟨gx, 0, none⟩) A la (la + 40) ca xs _ OX5.out.rd (HX.out.below HK5.out) (by omega)).mono ?_
  rintro e w6 ⟨rfl, q6, rfl⟩
  obtain ⟨w6, hw6⟩ : ∃ w6, w6 = w5.drewN q6 := ⟨_, rfl⟩
  have b6 : Below w5.heap.size w5 w6 := by rw [hw6]; exact below_drewN (Below.refl _ _) _
  have hN6 := HN5.out.below b6
  have hK6 := belowT' HK5.out b6
  have ox6 := OX5.out.below b6
  have s6 : w6.heap.size = w5.heap.size := by rw [hw6]; rfl
  have HS6 := Lib.hid s6
  rw [← hw6]
  clear hw6 s6 b6
  go_wp2_with fail
  refine (Over_any gx (la + 40) la w3.heap.size _ _ ox6 (by omega) (by omega)).mono ?_
  rintro e w7 ⟨rfl, us, ou, hg7⟩
  have hf7 : Fr w6 w7 [gx] := Fr.of_grown hg7 (fun b hb => by injection hb with hb; simp [hb])
  have hN7 := hN6.off hf7 (by rw [List.mem_singleton]; omega) (fun b hb hm => by
    rw [List.mem_singleton] at hm
    rcases HA6.out b hb with q | q <;> omega) (fun b hb q hq e2 => by
    rw [List.mem_singleton] at hb
    subst hb
    simp only [List.nil_append, List.cons_append, List.mem_cons, List.not_mem_nil, or_false] at hq
    rcases hq with rfl | rfl
    · have := HV0.out _ e2; omega
    · have := HV1.out _ e2; omega)
  have s7 := hf7.size
  have hK7 : Below w.heap.size w w7 := hK6.trans (hf7.below (fun b hb => by rw [List.mem_singleton] at hb; have := HK1.out.size; omega) hK6.size)
  have HN7 := Lib.hid hN7
  have HK7 := Lib.hid hK7
  have OU := Lib.hid ou
  have hul := ou.len
  have sw6 := HS6.out
  clear hN6 hK6 ox6 ou hg7 hf7 hN7 hK7 OX5 HN5
  have HFM : Hid (∀ wx, Below w7.heap.size w7 wx → Calls Try.prog 20 #[.pointer (some ⟨p, 0, none⟩), .int .u64 2] wx (RetLg wx [(1, xs)])) := Lib.hid (fun wx hb => by
    have h := HN7.out.below hb
    have h2 := from_any' h.nd h.hE h.rd (fun e he => by
      simp only [List.nil_append, List.cons_append, List.mem_cons, List.not_mem_nil, or_false] at he
      rcases he with rfl | rfl
      · simp
      · have := HXL.out; simp only; omega) (by omega) (show (0 : Nat) ≤ 4611686018427387904 by omega) 2 (show (0 : Nat) < 2 by omega) (show 2 ≤ 0 + (0 + 1 + 1) by omega)
    exact h2)
  have HF7 := Lib.hid (HFM.out w7 (Below.refl _ _))
  go_wp2_with fail
  with_reducible refine HF7.out.mono ?_
  intro e w8 hq
  obtain ⟨L1, n1, d1, qs1, h8, hrow1⟩ := RetLg.out hq
  subst h8
  obtain ⟨g1, B1, m1, e1, rfl, rfl, rfl, z10, z11, o1, hg1, hg1', hgb1⟩ := hrow1.one
  have hb8 := hrow1.bel
  have s8 := hb8.size
  have HF8 := Lib.hid (HFM.out w8 hb8)
  have HB8 := Lib.hid hb8
  have O1 := Lib.hid o1
  have HZ1 : Hid (∀ wx, Below w8.heap.size w8 wx → wx.cell? ⟨g1, 1, none⟩ = some (.slice B1 m1 e1)) := Lib.hid (fun wx hb => (hb.cell (p := ⟨g1, 1, none⟩) hg1').trans z11)
  clear hq hrow1 z10 z11 o1 hb8 HF7
  go_wp2_with fail
  with_reducible refine HF8.out.mono ?_
  intro e w9 hq
  obtain ⟨L2, n2, d2, qs2, h9, hrow2⟩ := RetLg.out hq
  subst h9
  obtain ⟨g2, B2, m2, e2, rfl, rfl, rfl, z20, z21, o2, hg2, hg2', hgb2⟩ := hrow2.one
  have hb9 := hrow2.bel
  have s9 := hb9.size
  have HB9 := Lib.hid (belowT' HB8.out hb9)
  have HB89 := Lib.hid hb9
  have O2 := Lib.hid o2
  have y11 := HZ1.out w9 hb9
  have HZ2 : Hid (∀ wx, Below w9.heap.size w9 wx → wx.cell? ⟨g1, 1, none⟩ = some (.slice B1 m1 e1) ∧ wx.cell? ⟨g2, 1, none⟩ = some (.slice B2 m2 e2)) := Lib.hid (fun wx hb => ⟨HZ1.out wx (belowT' hb9 hb), (hb.cell (p := ⟨g2, 1, none⟩) hg2').trans z21⟩)
  have o19 := O1.out.below hb9
  have HEQ := Lib.hid (Equal_any B1 A m1 la e1 ca xs xs w9 o19.rd (HX.out.below (belowT' HK7.out HB9.out)) (by have := o19.cap; omega) (by unfold maxLen; omega))
  have O19 := Lib.hid o19
  clear hq hrow2 z20 z21 o2 hb9 HF8 HZ1 o19
  go_wp2_with fail
  with_reducible refine HEQ.out.mono ?_
  intro e w10 hq
  rw [eqB_self] at hq
  obtain ⟨h10, q10, hw10⟩ := hq
  subst h10
  have b10 : Below w9.heap.size w9 w10 := by rw [hw10]; exact below_drewN (Below.refl _ _) _
  have s10 : w10.heap.size = w9.heap.size := by rw [hw10]; rfl
  have HB10 := Lib.hid (belowT' HB9.out b10)
  have HBA := Lib.hid b10
  have HZ3 := Lib.hid (fun wx (hb : Below w10.heap.size w10 wx) => HZ2.out wx (belowT' b10 hb))
  have hN10 := HN7.out.below HB10.out
  have c0 : w10.cell? ⟨p, 0, none⟩ = some (.int .u64 1) := hN10.nd.k0
  have c1 : w10.cell? ⟨p, 1, none⟩ = some (.int .i64 0) := hN10.nd.k1
  have c2' : w10.cell? ⟨p, 2, none⟩ = some (.int .u64 0) := hN10.nd.k2
  have c3' : w10.cell? ⟨p, 3, none⟩ = some (.int .u64 0) := hN10.nd.k3
  have c4 : w10.cell? ⟨p, 4, none⟩ = some (.slice A5 2 2) := hN10.nd.k4
  have HNM : Hid (Calls Try.prog 14 #[.int .i64 0, .int .i64 1, .int .i64 1, .agg #[.int .u64 1, .int .i64 0, .int .u64 0, .int .u64 0, .slice A5 2 2]] w10 (RetNn w10 (nd0 1 0 0 0 0 1 1) [(1, []), (1, xs)])) := Lib.hid (new_yes (E := A5) (m := 2) (d := 2) (show RLg w10 A5 2 [(1, []), (1, xs)] from hN10.rd) (fun e he => by
      simp only [List.mem_cons, List.not_mem_nil, or_false] at he
      rcases he with rfl | rfl
      · exact Nat.zero_le _
      · have := HXL.out; simp only; omega) (by omega) 0 1 1 0 1 0 0 (by omega) (by omega) (by omega) (by omega) (by omega) (by omega) (by omega) (by omega) (by omega) (by omega) (by omega) rfl)
  clear hw10 hN10 HEQ b10 y11
  go_wp2_with fail
  with_reducible refine HNM.out.mono ?_
  intro e w11 hq
  obtain ⟨pm, Am, nm, cm, psm, h11, hpm, hNm, hAm, hpsm, hb11⟩ := hq.out
  subst h11
  obtain rfl : nm = 2 := by have := hNm.len; simpa using this.symm
  have s11 := hb11.size
  have HNm := Lib.hid hNm
  have HBm : Hid (∀ b ∈ ndB pm Am psm, w10.heap.size ≤ b ∧ b < w11.heap.size) := Lib.hid (fun b hb => ⟨by
    rcases ndB_mem hb with rfl | q | ⟨q, hq, e2⟩
    · exact hpm
    · exact hAm b q
    · exact hpsm b q hq e2, hNm.blocks b hb⟩)
  have HB11 := Lib.hid (belowT' HB10.out hb11)
  obtain ⟨y1, y2⟩ := HZ3.out w11 hb11
  have HZ4 := Lib.hid (fun wx (hb : Below w11.heap.size w11 wx) => HZ3.out wx (belowT' hb11 hb))
  obtain ⟨Y, hY⟩ : ∃ Y, Y = (w11.alloc (.cells #[.slice (some ⟨gx, 0, none⟩) (la + 40) (la + 40), .slice B1 m1 e1, .slice B2 m2 e2] 22)).drew := ⟨_, rfl⟩
  have bY : Below w11.heap.size w11 Y := by rw [hY]; exact ((Below.refl _ _).alloc (Nat.le_refl _) _).drew
  have HAP : Hid (Calls Try.prog 22 #[.slice (some ⟨w11.heap.size, 0, none⟩) 3 3] Y (fun e w' => e = .returned (.bool true) ∧ Below w3.heap.size Y w' ∧ Sm ([g1, g2] ++ (ndB p A5 ([] ++ [(V0, [])] ++ [(V1, xs)]) ++ ndB pm Am psm)) Y w')) := Lib.hid (by
    have f0 : Fam w7 w3.heap.size ([(.slice (some ⟨gx, 0, none⟩) (la + 40) (la + 40), us)] ++ []) := Fam.one OU.out
    have f1 := Fam.ins f0 (Fam.one O1.out) HB8.out (Nat.le_refl _) (by omega)
    have f1' : Fam w8 w3.heap.size ([(.slice (some ⟨gx, 0, none⟩) (la + 40) (la + 40), us), (.slice B1 m1 e1, xs)] ++ []) := f1
    have f2 := Fam.ins f1' (Fam.one O2.out) HB89.out (Nat.le_refl _) (by omega)
    have b9Y : Below w9.heap.size w9 Y := belowT' (belowT' HBA.out hb11) bY
    have fY := f2.below b9Y
    have sY := bY.size
    have hlv : RdV Y (some ⟨w11.heap.size, 0, none⟩) 3 [.slice (some ⟨gx, 0, none⟩) (la + 40) (la + 40), .slice B1 m1 e1, .slice B2 m2 e2] := by
      rw [hY]
      exact (ownV_box2 w11 _ w11.heap.size _ 3 rfl (by omega) (Nat.le_refl _) _ rfl).rd
    refine ApartF_any ([g1, g2] ++ (ndB p A5 ([] ++ [(V0, [])] ++ [(V1, xs)]) ++ ndB pm Am psm)) (some ⟨w11.heap.size, 0, none⟩) 3 3 w3.heap.size [.slice (some ⟨gx, 0, none⟩) (la + 40) (la + 40), .slice B1 m1 e1, .slice B2 m2 e2] Y hlv (by omega) fY.pre (fY.small (M := 1073741824) (fun q hq => ?_)) fY.dis (fun b hb i v hv e2 => ?_) (by omega) (fun b hb => ?_) (fun b hb i v hv e2 => ?_)
    · have h1 := HXL.out
      simp only [List.cons_append, List.nil_append, List.mem_cons, List.not_mem_nil, or_false] at hq
      rcases hq with rfl | rfl | rfl <;> simp only <;> omega
    · have h1 : w11.heap.size = b := Option.some.inj hb
      have hm := List.mem_of_getElem? hv
      simp only [List.mem_cons, List.not_mem_nil, or_false] at hm
      rcases hm with rfl | rfl | rfl
      · rw [own_blk] at e2; have h2 : gx = b := Option.some.inj e2; omega
      · rw [own_blk] at e2; have := (O1.out.lt b e2).2; omega
      · rw [own_blk] at e2; have := (O2.out.lt b e2).2; omega
    · rcases List.mem_append.1 hb with q | q
      · simp only [List.mem_cons, List.not_mem_nil, or_false] at q
        omega
      · rcases List.mem_append.1 q with q | q
        · have := (HBL.out b q).1; omega
        · have := (HBm.out b q).2; omega
    · have hm := List.mem_of_getElem? hv
      simp only [List.mem_cons, List.not_mem_nil, or_false] at hm
      rcases List.mem_append.1 hb with q | q
      · simp only [List.mem_cons, List.not_mem_nil, or_false] at q
        rcases hm with rfl | rfl | rfl
        · rw [own_blk] at e2; have h2 : gx = b := Option.some.inj e2; omega
        · rw [own_blk] at e2
          rcases q with rfl | rfl
          · exact hgb1 e2
          · have := (O1.out.lt _ e2).2; omega
        · rw [own_blk] at e2
          rcases q with rfl | rfl
          · have := (O2.out.lt _ e2).1; omega
          · exact hgb2 e2
      rcases List.mem_append.1 q with q | q
      · have h1 := HBL.out b q
        rcases hm with rfl | rfl | rfl
        · rw [own_blk] at e2; have h2 : gx = b := Option.some.inj e2; omega
        · rw [own_blk] at e2; have := (O1.out.lt b e2).1; omega
        · rw [own_blk] at e2; have := (O2.out.lt b e2).1; omega
      · have h1 := HBm.out b q
        rcases hm with rfl | rfl | rfl
        · rw [own_blk] at e2; have h2 : gx = b := Option.some.inj e2; omega
        · rw [own_blk] at e2; have := (O1.out.lt b e2).2; omega
        · rw [own_blk] at e2; have := (O2.out.lt b e2).2; omega)
  have HZ5 : Hid (∀ wx, Sm ([g1, g2] ++ (ndB p A5 ([] ++ [(V0, [])] ++ [(V1, xs)]) ++ ndB pm Am psm)) Y wx → wx.cell? ⟨g1, 1, none⟩ = some (.slice B1 m1 e1) ∧ wx.cell? ⟨g2, 1, none⟩ = some (.slice B2 m2 e2)) := Lib.hid (fun wx hs => by
    obtain ⟨q1, q2⟩ := HZ4.out Y bY
    exact ⟨(World.cell?_of_block (a := ⟨g1, 1, none⟩) (hs g1 (by simp)).2).trans q1, (World.cell?_of_block (a := ⟨g2, 1, none⟩) (hs g2 (by simp)).2).trans q2⟩)
  have HY := Lib.hid hY
  have HBY := Lib.hid bY
  have hB0 : Below w11.heap.size w11 w11.drew := (Below.refl _ _).drew
  have z1 := (HZ4.out w11.drew hB0).1
  have z2 := (HZ4.out w11.drew hB0).2
  clear hq hNm hAm hpsm hb11 hY bY

  go_upto_region 16 with (fail)
  go_region_held3 (fun wx => wx.cell? ⟨g1, 1, none⟩ = some (.slice B1 m1 e1) ∧ wx.cell? ⟨g2, 1, none⟩ = some (.slice B2 m2 e2)) (first | assumption | exact HZ4.out _ hB0 | exact HZ4.out _ (hB0.alloc hB0.size _))
    (first | (go_at_call 22; rw [← HY.out]; with_reducible refine HAP.out.mono ?_; intro e w12 hq; obtain ⟨h12, b12, hs12⟩ := hq; subst h12; have hS1 := HZ5.out _ hs12))
  all_goals
    have hn13 := (HN7.out.below (belowT' HB11.out HBY.out)).sm b12 hs12 (fun b hb => List.mem_append_right _ (List.mem_append_left _ hb))
    have hm13 := (HNm.out.below HBY.out).sm b12 hs12 (fun b hb => List.mem_append_right _ (List.mem_append_right _ hb))
    have hk13 : Below w.heap.size w w12 := (belowT' (belowT' HK7.out HB11.out) HBY.out).trans (b12.mono (by have := HK3.out.size; omega))
    have HK13 := Lib.hid hk13
    have HM13 := Lib.hid hm13
    have HX13 := Lib.hid (HX.out.below hk13)
    have HFA : Hid (Calls Try.prog 20 #[.pointer (some ⟨p, 0, none⟩), .int .u64 2] w12 (RetLg w12 [(1, xs)])) := Lib.hid (by
      have h2 := from_any' hn13.nd hn13.hE hn13.rd (fun e he => by
        simp only [List.nil_append, List.cons_append, List.mem_cons, List.not_mem_nil, or_false] at he
        rcases he with rfl | rfl
        · exact Nat.zero_le _
        · have := HXL.out; simp only; omega) (by omega) (show (0 : Nat) ≤ 4611686018427387904 by omega) 2 (show (0 : Nat) < 2 by omega) (show 2 ≤ 0 + (0 + 1 + 1) by omega)
      exact h2)
    clear hn13 hm13 hk13 b12 hs12 hS1
    go_wp2_with fail
    with_reducible refine HFA.out.mono ?_
    intro e w13 hq
    obtain ⟨L3, n3, d3, qs3, h13, hrow3⟩ := RetLg.out hq
    subst h13
    obtain ⟨g3, B3, m3, e3, rfl, rfl, rfl, z30, z31, o3, hg3, hg3', _⟩ := hrow3.one
    have hb13 := hrow3.bel
    have HM14 := Lib.hid (HM13.out.below hb13)
    have HFB : Hid (Calls Try.prog 20 #[.pointer (some ⟨pm, 0, none⟩), .int .u64 2] w13 (RetLg w13 [(1, xs)])) := Lib.hid (by
      have hm := HM14.out
      have h2 := from_any' hm.nd hm.hE hm.rd (fun e he => by
        simp only [List.mem_cons, List.not_mem_nil, or_false] at he
        rcases he with rfl | rfl
        · exact Nat.zero_le _
        · have := HXL.out; simp only; omega) (by omega) (show (0 : Nat) ≤ 4611686018427387904 by omega) 2 (show (0 : Nat) < 2 by omega) (show 2 ≤ 0 + 2 by omega)
      exact h2)
    have HB13 := Lib.hid hb13
    have O3 := Lib.hid o3
    have HZ6 := Lib.hid z31
    clear hq hrow3 z30 z31 o3 hb13 HFA
    go_wp2_with fail
    with_reducible refine HFB.out.mono ?_
    intro e w14 hq
    obtain ⟨L4, n4, d4, qs4, h14, hrow4⟩ := RetLg.out hq
    subst h14
    obtain ⟨g4, B4, m4, e4, rfl, rfl, rfl, z40, z41, o4, hg4, hg4', _⟩ := hrow4.one
    have hb14 := hrow4.bel
    have hb34 := belowT' HB13.out hb14
    have hk14 := belowT' HK13.out hb34
    have x3 : w14.cell? ⟨g3, 1, none⟩ = some (.slice B3 m3 e3) := (hb14.cell (p := ⟨g3, 1, none⟩) hg3').trans HZ6.out
    have o3' := O3.out.below hb14
    have hlx := HXL.out
    have hl3 : m3 = la := by rw [← o3'.len]; exact hlx
    have hl4 : m4 = la := by rw [← o4.len]; exact hlx
    have HE3 := Lib.hid (Equal_any B3 A m3 la e3 ca xs xs w14 o3'.rd (HX13.out.below hb34) (by unfold maxLen; omega) (by unfold maxLen; omega))
    have HE4 : Hid (∀ q, Calls Try.prog 21 #[.slice B4 m4 e4, .slice A la ca] (w14.drewN q) (RetB (w14.drewN q) (eqB xs xs))) := Lib.hid (fun q => Equal_any B4 A m4 la e4 ca xs xs _ (o4.rd.drewN q) ((HX13.out.below hb34).drewN q) (by unfold maxLen; omega) (by unfold maxLen; omega))
    have HK14 := Lib.hid hk14
    have z41' : w14.cell? ⟨g4, 1, none⟩ = some (.slice B4 m4 e4) := z41
    clear hq hrow4 z40 z41 o4 hb14 hb34 hk14 o3' hlx HFB hl3 hl4
    go_wp2_with fail
    with_reducible refine HE3.out.mono ?_
    intro e w15 hq
    rw [eqB_self] at hq
    obtain ⟨h15, q15, hw15⟩ := hq
    subst h15
    obtain ⟨V, hV⟩ : ∃ V, V = w14.drewN q15 := ⟨_, rfl⟩
    have z4V : V.cell? ⟨g4, 1, none⟩ = some (.slice B4 m4 e4) := by rw [hV]; exact z41'
    have HE5 : Hid (Calls Try.prog 21 #[.slice B4 m4 e4, .slice A la ca] V (RetB V (eqB xs xs))) := Lib.hid (by rw [hV]; exact HE4.out q15)
    have HKV : Hid (Below w.heap.size w V) := Lib.hid (by rw [hV]; exact below_drewN HK14.out q15)
    rw [hw15, ← hV]
    clear hw15 hV z41' x3 HE4
    go_wp2_with fail
    with_reducible refine HE5.out.mono ?_
    intro e w16 hq
    rw [eqB_self] at hq
    obtain ⟨h16, q16, hw16⟩ := hq
    subst h16
    have HKF : Hid (Below w.heap.size w w16) := Lib.hid (by rw [hw16]; exact below_drewN HKV.out q16)
    clear hw16
    go_wp2_with fail
    go_ret
    exact ⟨rfl, HKF.out⟩
end Go.Proofs.Ytlnpicfkcahdbaa
namespace Go.Proofs.Ytlnpicfkcahdbaa.raftKeepsUptoRow
open Go Go.ChangeShapes Go.WideShapes Go.ChangeAt Go.RowKit Go.Deep
open Go.ChangeMaps (open_string shut_string)
set_option linter.unusedVariables false

theorem own : ownKnob Try.prog.godebug = none := by kernel_rfl
theorem laidOut : laidOutB Try.prog = true := by kernel_rfl

set_option maxRecDepth 100000 in
theorem contract (H : Type) (enc : TypeId × Value → H) (W : World) (base : Nat) (args : Array Value) (ds gs : List (DataW H)) (before : List MemPlace)
    (hval0 : ∀ (j : Nat) t v, Try.f3.params[j]? = some t → args[j]? = some v → Value.okWide Try.prog W .any base t v)
    (hW : DataW.Whole enc Try.prog Try.f3.params.toList Rows.raftKeepsSpec.vars false W args.toList ds gs before)
    (hk : Rows.uptoSmall H (ds ++ gs) = true) :
    Calls Try.prog 3 args W fun e W' => ∃ v, e = .returned v ∧ Rows.raftKeepsSpec.post enc Try.prog Try.f3 false true false false W args v W' := by
  have hval : ∀ (j : Nat) t v, Try.f3.params[j]? = some t → args[j]? = some v → Value.okWide Try.prog W .any base t v := hval0
  have hW' := hW
  obtain ⟨p, q, hA0, hV, rfl, hfz, hnd⟩ := hW
  have hA : DataW.TrodAll enc Try.prog W 0 (fun _ => true) true Try.f3.params.toList args.toList ds p := hA0
  rw [Try.params3] at hA hval
  obtain ⟨v0, vs0, d0, ds0, p0, q0, hargs, rfl, rfl, h0, r0⟩ := trodAll_cons hA
  obtain ⟨rfl, rfl, rfl⟩ := trodAll_nil r0
  obtain rfl : args = #[v0] := by cases args; simp_all
  obtain ⟨rfl, rfl⟩ := trodVars_none hV
  have hb := bulkOf hk
  have sz0 : ∀ el sp, d0 = .slice el sp → Rows.uptoBulkAll el + Rows.uptoBulkAll sp + 1 ≤ 1048576 := fun el sp e => by
    have h1 := Nat.le_trans (part_bulk (d := d0) (l := [d0] ++ []) (by simp)) hb
    rw [e] at h1
    simp only [Rows.uptoBulk] at h1
    omega
  obtain ⟨A0, len0, cap0, rfl⟩ := okWide_slice Try.underlying22 (hval 0 22 v0 rfl rfl)
  have k0 := h0
  have lt0 : ∀ x ∈ p0, x.block < W.heap.size := by obtain ⟨m, hm⟩ := k0; exact DataW.trod_lt m _ _ _ hm
  obtain ⟨xs0, rd0, lc0, cm0⟩ : ∃ xs, Rd W A0 len0 xs ∧ len0 ≤ cap0 ∧ cap0 ≤ 1048576 := by
    obtain ⟨fuel, hf⟩ := h0
    rcases open_ints Try.underlying22 Try.underlying5 (by kernel_rfl) hf with ⟨hcs, _⟩ | ⟨x, l, c, zs, hcs, _, hl, hm, hz, hx, hcell, hwz⟩
    · simp [Value.cells] at hcs
      obtain ⟨rfl, rfl, rfl⟩ := hcs
      exact ⟨[], Rd.nil _ _, Nat.le_refl _, by omega⟩
    · simp [Value.cells] at hcs
      obtain ⟨rfl, rfl, rfl⟩ := hcs
      simp only [Prod.mk.injEq] at hx
      have hz' : zs.length = cap0 := by simpa using hz
      have h2 := sz0 _ _ hx.1
      have h3 := length_le (lits (H := H) .u8 (zs.take len0))
      have h4 := length_le (lits (H := H) .u8 (zs.drop len0))
      simp only [lits, List.length_map, List.length_take, List.length_drop, hz'] at h2 h3 h4
      exact ⟨_, Rd.of_ints hl hz' hcell hwz, hl, by omega⟩
  clear hA0 hval0
  refine (raftKeeps_row A0 len0 cap0 xs0 W rd0 lc0 cm0).mono fun e W' ⟨he, bel⟩ => ?_
  subst he
  exact ⟨_, rfl, _, _, _, [], _, [], hW', trodAll_mk1 (shut_bool Try.underlying4 _), (trodAll_cons_mk (Below.trod laidOut (by kernel_rfl) (of_decide_eq_true (by kernel_rfl)) k0 bel lt0) trodAll_mk0), rfl, bel.frame _, fun h => by cases h⟩

set_option maxRecDepth 100000 in
theorem lifted (os : Os) (started : os.Started) (H : Type) (enc : TypeId × Value → H) (F : Stop.Interp) :
    ReturnsInHanded {} Try.checked os 3 .any ((Rows.OpenSpec.upto Rows.raftKeepsSpec).pre6 enc Try.prog Try.f3 Rows.raftKeepsUptoRow.domain false) (((Rows.OpenSpec.upto Rows.raftKeepsSpec).at F).post enc Try.prog Try.f3 false true false false) := by
  refine returnsInHanded_of_cond (C := Try.checked) (s := Rows.OpenSpec.upto Rows.raftKeepsSpec) (k := Rows.uptoSmall) rfl own started (by kernel_rfl) Try.func3
    (OpenSpec.witness (enc := enc) (C := Try.checked) (s := Rows.OpenSpec.upto Rows.raftKeepsSpec) (k := Rows.uptoSmall) rfl false ⟨#[], #[.slice none 0 0], []⟩ 8 (by kernel_rfl) (by kernel_rfl) (by kernel_rfl)
      (x := ([.nil], [], [])) (by kernel_rfl) rfl (by kernel_rfl)) ?_
  intro W base args ds gs before hval hW _ hk _
  exact contract H enc W base args ds gs before hval hW hk

theorem over : Rows.raftKeepsUptoRow.holds Try.pinned (Rows.OpenSpec.upto Rows.raftKeepsSpec) :=
  OpenClaim.holds_of_cond 3 Try.f3 rfl rfl rfl rfl rfl rfl rfl ⟨rfl, rfl, rfl, rfl, rfl⟩ rfl rfl rfl rfl rfl (by kernel_rfl) Try.func3 (by kernel_rfl)
    (of_decide_eq_true (by kernel_rfl)) (by unfold Func.isWrapper; first | (rw [if_pos (by decide +kernel)]; kernel_rfl) | (rw [if_neg (by decide +kernel)]; exact ⟨rfl, rfl⟩))
    (fun os started H enc _ F => lifted os started H enc F)

/-- THE STATEMENT -/
theorem proved : Rows.RaftKeepsUptoSaid := over
#print axioms proved
end Go.Proofs.Ytlnpicfkcahdbaa.raftKeepsUptoRow
