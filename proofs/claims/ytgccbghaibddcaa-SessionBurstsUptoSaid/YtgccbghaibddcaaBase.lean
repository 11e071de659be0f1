/- Words for memory that all walks of this seat use: a slice that reads as bytes, a row of the call's own, an append onto it. No condition. -/
import Derived.WalkKit
import Derived.Maps.AppendAt
import Derived.Laws.AppendOwnNone
import Derived.Deep.Draws
namespace Go.Proofs.Ytgccbghaibddcaa
open Go Go.RowKit

/-- The cell of a byte. -/
def cv (x : UInt8) : Value := .int .u8 (x.toNat : Int)

theorem cv_one (xs : List UInt8) : ∀ u ∈ xs.map cv, u.oneCell' = true := by
  intro u hu
  obtain ⟨x, _, rfl⟩ := List.mem_map.1 hu
  rfl

/-- 'The slice at A of length n reads as xs.' -/
def Rd (w : World) (A : Option Addr) (n : Nat) (xs : List UInt8) : Prop :=
  xs.length = n ∧ (0 < n → ∃ b off, A = some ⟨b, off, none⟩ ∧ b < w.heap.size ∧ ∀ i x, xs[i]? = some x → w.cell? ⟨b, off + i, none⟩ = some (.int .u8 (x.toNat : Int)))

theorem Rd.len {w : World} {A : Option Addr} {n : Nat} {xs : List UInt8} (h : Rd w A n xs) : xs.length = n := h.1

theorem Rd.nil (w : World) (A : Option Addr) : Rd w A 0 [] := ⟨rfl, fun h => absurd h (by omega)⟩

theorem Rd.pos {w : World} {A : Option Addr} {n : Nat} {xs : List UInt8} (h : Rd w A n xs) (hn : 0 < n) :
    ∃ b off, A = some ⟨b, off, none⟩ ∧ b < w.heap.size := by
  obtain ⟨b, off, h1, h2, _⟩ := h.2 hn
  exact ⟨b, off, h1, h2⟩

theorem Rd.at_ {w : World} {b off n : Nat} {xs : List UInt8} (h : Rd w (some ⟨b, off, none⟩) n xs) (k : Nat) (hk : k < n) :
    ∃ x, xs[k]? = some x ∧ w.cell? ⟨b, off + k, none⟩ = some (.int .u8 (x.toNat : Int)) ∧ (x.toNat : Int) ≤ 255 := by
  obtain ⟨b', off', h1, _, h3⟩ := h.2 (by omega)
  have hl : k < xs.length := by have := h.1; omega
  injection h1 with h1
  injection h1 with h1 h2
  subst h1 h2
  refine ⟨xs[k], List.getElem?_eq_getElem hl, h3 k _ (List.getElem?_eq_getElem hl), ?_⟩
  have := UInt8.toNat_lt xs[k]
  omega

theorem Rd.below {w w' : World} {A : Option Addr} {n : Nat} {xs : List UInt8} (h : Rd w A n xs) (hb : Below w.heap.size w w') : Rd w' A n xs := by
  refine ⟨h.1, fun hn => ?_⟩
  obtain ⟨b, off, h1, h2, h3⟩ := h.2 hn
  exact ⟨b, off, h1, Nat.lt_of_lt_of_le h2 hb.size, fun i x hx => (hb.cell (p := ⟨b, off + i, none⟩) h2).trans (h3 i x hx)⟩

/-- The same where only a base below the heap's size is kept, and the slice lies below it. -/
theorem Rd.base {w w' : World} {A : Option Addr} {n B : Nat} {xs : List UInt8} (h : Rd w A n xs) (hb : Below B w w') (hB : ∀ b off, A = some ⟨b, off, none⟩ → b < B) : Rd w' A n xs := by
  refine ⟨h.1, fun hn => ?_⟩
  obtain ⟨b, off, h1, h2, h3⟩ := h.2 hn
  exact ⟨b, off, h1, Nat.lt_of_lt_of_le h2 hb.size, fun i x hx => (hb.cell (p := ⟨b, off + i, none⟩) (hB b off h1)).trans (h3 i x hx)⟩

theorem Rd.drewN {w : World} {A : Option Addr} {n : Nat} {xs : List UInt8} (h : Rd w A n xs) (k : Nat) : Rd (w.drewN k) A n xs := h
theorem Rd.drew {w : World} {A : Option Addr} {n : Nat} {xs : List UInt8} (h : Rd w A n xs) : Rd w.drew A n xs := h

theorem below_drewN {B : Nat} {a w : World} (h : Below B a w) (n : Nat) : Below B a (w.drewN n) := ⟨h.os, h.tape, h.output, h.size, h.block⟩
theorem Rd.alloc {w : World} {A : Option Addr} {n : Nat} {xs : List UInt8} (h : Rd w A n xs) (o : Obj) : Rd (w.alloc o) A n xs :=
  h.below ((Below.refl _ _).alloc (Nat.le_refl _) o)

/-- The address of a cut, as the model has it. -/
def cutA (A : Option Addr) (k cap : Nat) : Option Addr := if cap = k then A else A.map (·.add k)

/-- A cut 's[k:m]' (the address as the model leaves it). -/
theorem Rd.cut {w : World} {A : Option Addr} {n k m cap : Nat} {xs : List UInt8} (h : Rd w A n xs) (hk : k ≤ m) (hm : m ≤ n) (hc : n ≤ cap) :
    Rd w (cutA A k cap) (m - k) ((xs.take m).drop k) := by
  unfold cutA
  refine ⟨by rw [List.length_drop, List.length_take, h.1]; omega, fun hn => ?_⟩
  obtain ⟨b, off, rfl, hb, hcell⟩ := h.2 (by omega)
  rw [if_neg (by omega)]
  refine ⟨b, off + k, ?_, hb, fun i x hx => ?_⟩
  · simp only [Option.map_some, Addr.add]
    split
    · next h0 => subst h0; rfl
    · rfl
  · rw [Nat.add_assoc]
    refine hcell (k + i) x ?_
    rw [List.getElem?_drop, List.getElem?_take] at hx
    split at hx
    · exact hx
    · cases hx

theorem cut_lh {P : Program} {t e : TypeId} (ht : P.underlying t = some (.slice e)) (he : P.elem t = e) (hs : ∀ w, (sizeOf e).run P w = .ok 1 w)
    (A : Option Addr) {n cap k m : Nat} (hk : k ≤ m) (hm : m ≤ cap) (w : World) :
    (Instr.slice t (.slice A n cap) (some (.int .i64 (k : Int))) (some (.int .i64 (m : Int))) none).run P w = .ok (.slice (cutA A k cap) (m - k) (cap - k)) w := by
  subst he
  rw [run_slice_lh w t A n cap ht .i64 .i64 (k : Int) (m : Int) (by omega) (by omega) (by omega)]
  simp only [hs, Result.andThen, sliced, Int.toNat_natCast, Nat.mul_one, cutA]

theorem cut_l {P : Program} {t e : TypeId} (ht : P.underlying t = some (.slice e)) (he : P.elem t = e) (hs : ∀ w, (sizeOf e).run P w = .ok 1 w)
    (A : Option Addr) {n cap k : Nat} (hk : k ≤ n) (w : World) :
    (Instr.slice t (.slice A n cap) (some (.int .i64 (k : Int))) none none).run P w = .ok (.slice (cutA A k cap) (n - k) (cap - k)) w := by
  subst he
  rw [run_slice_l w t A n cap ht .i64 (k : Int) (by omega) (by omega)]
  simp only [hs, Result.andThen, sliced, Int.toNat_natCast, Nat.mul_one, cutA]

theorem cut_h {P : Program} {t e : TypeId} (ht : P.underlying t = some (.slice e)) (he : P.elem t = e) (hs : ∀ w, (sizeOf e).run P w = .ok 1 w)
    (A : Option Addr) {n cap m : Nat} (hm : m ≤ cap) (w : World) :
    (Instr.slice t (.slice A n cap) none (some (.int .i64 (m : Int))) none).run P w = .ok (.slice A m cap) w := by
  subst he
  rw [run_slice_h w t A n cap ht .i64 (m : Int) (by omega) (by omega)]
  simp only [hs, Result.andThen, sliced, Int.toNat_natCast, Nat.zero_mul, Nat.sub_zero]
  cases A <;> simp [Addr.add]

/-- 'The slice at A, of length n and capacity c, is the call's own, and holds xs.' -/
def Own (e : TypeId) (w : World) (base : Nat) (A : Option Addr) (n c : Nat) (xs : List UInt8) : Prop := w.ownsRow base e 1 (.slice A n c) n (xs.map cv)

section
variable {e : TypeId} {w w' : World} {base n c : Nat} {A : Option Addr} {xs : List UInt8}
theorem Own.len (h : Own e w base A n c xs) : xs.length = n := by have := h.1; simpa using this
theorem Own.cap (h : Own e w base A n c xs) : n ≤ c ∧ c ≤ maxLen := by
  rcases h.2 with ⟨h1, h2⟩ | ⟨g, cap, cur, h1, _, _, h2, h3, _⟩
  · injection h1 with h1 h2 h3
    subst h2 h3
    unfold maxLen
    omega
  · injection h1 with _ _ h4
    subst h4
    exact ⟨h2, h3⟩
theorem Own.nil (e : TypeId) (w : World) (base : Nat) : Own e w base none 0 0 [] := World.ownsRow_nil _ _ _ _
theorem Own.rd (h : Own e w base A n c xs) : Rd w A n xs := by
  refine ⟨h.len, fun hn => ?_⟩
  have hc := h.cap
  rcases h.2 with ⟨_, h2⟩ | ⟨g, cap, cur, h1, _, hg, h2, _, _, ht⟩
  · omega
  · injection h1 with h1 _ h4
    subst h1
    refine ⟨g, 0, rfl, (Array.getElem?_eq_some_iff.1 hg).1, fun i x hx => ?_⟩
    have hr : (xs.map cv)[i]? = some (cv x) := by rw [List.getElem?_map, hx]; rfl
    have := World.ownsRow.cells h (g := g) rfl i _ hr
    simpa [Addr.add_lit, cv] using this
theorem Own.block (h : Own e w base A n c xs) (b off : Nat) (hA : A = some ⟨b, off, none⟩) : base ≤ b ∧ b < w.heap.size := by
  subst hA
  exact World.ownsRow.lt h b rfl
theorem Own.below (h : Own e w base A n c xs) (hb : Below w.heap.size w w') : Own e w' base A n c xs := by
  refine ⟨h.1, ?_⟩
  rcases h.2 with h1 | ⟨g, cap, cur, h1, h2, h3, h4⟩
  · exact .inl h1
  · exact .inr ⟨g, cap, cur, h1, h2, (hb.block g (Array.getElem?_eq_some_iff.1 h3).1).trans h3, h4⟩
theorem Own.mono {base' : Nat} (h : Own e w base A n c xs) (hb : base' ≤ base) : Own e w base' A n c xs := by
  refine ⟨h.1, ?_⟩
  rcases h.2 with h1 | ⟨g, cap, cur, h1, h2, h3⟩
  · exact .inl h1
  · exact .inr ⟨g, cap, cur, h1, by omega, h3⟩
theorem Own.alloc (h : Own e w base A n c xs) (o : Obj) : Own e (w.alloc o) base A n c xs := World.ownsRow.alloc h o
end

/-- A box with bytes, as a composite literal lays it. -/
theorem Rd.lit (w : World) (e : TypeId) (n : Nat) (xs : List UInt8) (hn : xs.length = n) (vs : Array Value) (hv : vs = (xs.map cv).toArray) :
    Rd (w.alloc (.cells vs e)) (some ⟨w.heap.size, 0, none⟩) n xs := by
  subst hv
  refine ⟨hn, fun _ => ⟨w.heap.size, 0, rfl, by simp, fun i x hx => ?_⟩⟩
  have h := cell_of_row (w.alloc (.cells (xs.map cv).toArray e)) w.heap.size (0 + i) (xs.map cv).toArray e (0, 0) (heap_alloc_new w _)
  rw [h]
  simp [hx, cv]

theorem Rd.one (w : World) (e : TypeId) (z : Int) (x : UInt8) (hz : z = (x.toNat : Int)) : Rd (w.alloc (.cells #[.int .u8 z] e)) (some ⟨w.heap.size, 0, none⟩) 1 [x] := by
  subst hz
  exact Rd.lit w e 1 [x] rfl _ rfl

/-- Nothing at a nil address appended, whatever capacity it names. -/
theorem wpList_app_none {P : Program} {w : World} {ops : Array Oper} {rest : List Oper} {o : Oper} {a : Act} {Q : Exit → Act → World → Prop} (hgd : o.guard = none) (s x : Operand) (t : TypeId)
    (ho : o.op = .call { callee := .builtin .append, args := #[s, x], argTypes := #[t, t] })
    (base : Nat) (e : TypeId) (i : TypeInfo) (size : Nat) (ht : P.underlying t = some (.slice e)) (hi : P.info? e = some i)
    (v : Value) (n : Nat) (xs : List Value) (hs : a.eval s = v) (hown : w.ownsRow base e size v n xs) (d : Nat) (hx : a.eval x = .slice none 0 d)
    (h : wpList P ops Q rest (a.put o.dst v) w) : wpList P ops Q (o :: rest) a w := by
  refine wpList_plain hgd fun K hK => ?_
  have hrun : (Builtin.append_ #[t, t] o.type #[v, .slice none 0 d]).run P w = .ok v w := by
    rcases hown.2 with ⟨rfl, _⟩ | ⟨g, cap, cur, rfl, _, _, hnc, _⟩
    · simp [Builtin.append_, run_underlying ht, sizeOf, typeInfo, hi, Builtin.lenOf, Builtin.firstCells]
    · simp [Builtin.append_, run_underlying ht, sizeOf, typeInfo, hi, Builtin.lenOf, Builtin.firstCells, hnc, storeCells]
  unfold Oper.wp execOp
  simp only [ho, resolve, invoke, builtin, Sem.run_bind, Sem.run_pure, Result.andThen_ok, List.map_toArray, List.map_cons, List.map_nil, hs, hx, hrun]
  exact hK _ _ h

/-- THE APPEND of what reads as ys onto a row of the call's own that holds xs. -/
theorem wpList_app {P : Program} (w : World) {ops : Array Oper} {rest : List Oper} {o : Oper} {a : Act} {Q : Exit → Act → World → Prop} (hgd : o.guard = none) (s x : Operand) (t : TypeId)
    (ho : o.op = .call { callee := .builtin .append, args := #[s, x], argTypes := #[t, t] })
    (base : Nat) (e : TypeId) (ht : P.underlying t = some (.slice e)) (hi : (P.info? e).map (fun i => (i.zero, i.size, i.bytes)) = some (some (.int .u8 0), 1, 1))
    (A : Option Addr) (n c : Nat) (xs : List UInt8) (hs : a.eval s = .slice A n c) (hown : Own e w base A n c xs)
    (B : Option Addr) (m d : Nat) (ys : List UInt8) (hx : a.eval x = .slice B m d) (hr : Rd w B m ys)
    (hbytes : n + m ≤ 140737488355328) (hbase : base ≤ w.heap.size)
    (h : ∀ A' c' w', Own e w' base A' (n + m) c' (xs ++ ys) → Below base w w' → wpList P ops Q rest (a.put o.dst (.slice A' (n + m) c')) w') : wpList P ops Q (o :: rest) a w := by
  obtain ⟨i, hi, hz, hsz, hby⟩ := info_parts hi
  have go : ∀ v' w', w'.ownsRow base e 1 v' (n + m) ((xs ++ ys).map cv) → w.grownBy w' (Value.ownBlock (.slice A n c)) → wpList P ops Q rest (a.put o.dst v') w' := by
    intro v' w' h1 h2
    obtain ⟨A', c', rfl⟩ : ∃ A' c', v' = .slice A' (n + m) c' := by
      rcases h1.2 with ⟨h3, h4⟩ | ⟨g, cap, cur, h3, _⟩
      · exact ⟨none, 0, by rw [h3, h4]⟩
      · exact ⟨_, _, h3⟩
    exact h A' c' w' h1 ((Below.refl _ _).grown h2 hbase (fun k hk => (World.ownsRow.lt hown k hk).1))
  rcases Nat.eq_zero_or_pos m with hm | hm
  · subst hm
    have hy : ys = [] := List.eq_nil_of_length_eq_zero hr.1
    subst hy
    rcases B with _ | ad
    · refine wpList_app_none hgd s x t ho base e i 1 ht hi (.slice A n c) n (xs.map cv) hs hown d hx ?_
      have ho := hown
      unfold Own at ho
      simpa using go (.slice A n c) w (by simpa using ho) (World.grownBy.refl w _)
    · refine wpList_append_own w hgd s x t ho base e i (.int .u8 0) 1 1 ht hi hz hsz hby rfl (by decide) (.slice A n c) n (xs.map cv) hs hown ad 0 d [] hx rfl (by simp) (by simp) (by have := hown.cap; omega) (by omega) hbase ?_
      intro v' w' h1 h2 _
      exact go v' w' (by simpa using h1) h2
  · obtain ⟨b, off, rfl, _, hc⟩ := hr.2 hm
    refine wpList_append_own w hgd s x t ho base e i (.int .u8 0) 1 1 ht hi hz hsz hby rfl (by decide) (.slice A n c) n (xs.map cv) hs hown ⟨b, off, none⟩ m d (ys.map cv) hx (by simp [hr.1]) ?_ (cv_one ys) (by unfold maxLen; omega) (by omega) hbase ?_
    · intro j u hj
      rw [List.getElem?_map] at hj
      cases hy : ys[j]? with
      | none => rw [hy] at hj; cases hj
      | some y =>
        rw [hy] at hj
        injection hj with hj
        subst hj
        rw [Addr.add_lit]
        exact hc j y hy
    · intro v' w' h1 h2 _
      exact go v' w' (by simpa using h1) h2

/-- 'make([]byte, 0, n)'. -/
theorem wpList_mk {P : Program} (w : World) {ops : Array Oper} {rest : List Oper} {o : Oper} {a : Act} {Q : Exit → Act → World → Prop} (hgd : o.guard = none) (l c : Operand) (t : TypeId)
    (ho : o.op = Op.makeSlice t l c) (base : Nat) (e : TypeId) (ht : P.underlying t = some (.slice e)) (hi : (P.info? e).map (fun i => (i.zero, i.size, i.bytes)) = some (some (.int .u8 0), 1, 1))
    (C : Int) (n : Nat) (hl : a.eval l = .int .i64 0) (hc : a.eval c = .int .i64 C) (hC : C = (n : Int)) (hn : n ≤ 281474976710656) (hbase : base ≤ w.heap.size)
    (h : ∀ A' w', Own e w' base A' 0 n [] → Below w.heap.size w w' → wpList P ops Q rest (a.put o.dst (.slice A' 0 n)) w') : wpList P ops Q (o :: rest) a w := by
  obtain ⟨i, hi, hz, hsz, hby⟩ := info_parts hi
  refine wpList_make_own w hgd l c t ho base e i (.int .u8 0) 1 ht hi hz hsz .i64 .i64 C n hl hc hC (by rw [hby]; omega) (by unfold maxLen; omega) hbase ?_
  intro w' h1 h2
  exact h _ w' h1 ((Below.refl _ _).grown h2 (Nat.le_refl _) (fun k hk => by cases hk))

end Go.Proofs.Ytgccbghaibddcaa
