/- Words for lists of bytes that share no memory: each is a class, and what is in a class holds the class's own marks. An append that tells where the row lies behind it. No condition. -/
import Derived.Test.YtgccbghaibddcaaVal
namespace Go.Proofs.Ytgccbghaibddcaa
open Go Go.RowKit

theorem cell_far (w : World) (g o : Nat) (v : Value) {b p : Nat} (h : b ≠ g) : (w.setCell ⟨g, o, none⟩ v).cell? ⟨b, p, none⟩ = w.cell? ⟨b, p, none⟩ := by
  have := Below.heap_setCell w ⟨g, o, none⟩ v b h
  simp only [World.cell?, this]

/-- What list i holds at place j. -/
def mk (i j : Nat) : UInt8 := bt (17 * i + 3 * j + 1)
def marks (i n : Nat) : List UInt8 := (List.range n).map (mk i)
theorem marks_at (i n j : Nat) (h : j < n) : (marks i n)[j]? = some (mk i j) := by simp [marks, h]
theorem marks_succ (i n : Nat) : marks i (n + 1) = marks i n ++ [mk i n] := by simp [marks, List.range_succ]
theorem marks_take (i n m : Nat) (h : m ≤ n) : (marks i n).take m = marks i m := by
  unfold marks
  rw [← List.map_take, List.take_range, Nat.min_eq_left h]
theorem marks_add (i n : Nat) : ∀ m, marks i (n + m) = marks i n ++ (List.range m).map (fun k => mk i (n + k))
  | 0 => by simp
  | m + 1 => by
    rw [← Nat.add_assoc, marks_succ, marks_add i n m, List.range_succ, List.map_append, List.append_assoc]
    rfl

section
variable {e : TypeId} {w w' : World} {base n c : Nat} {A : Option Addr} {xs : List UInt8}
theorem Own.kept {row : Option Nat} (h : Own e w base A n c xs) (hg : w.grownBy w' row) (hne : ∀ b, blk A = some b → row ≠ some b) : Own e w' base A n c xs := OwnV.kept h hg hne
theorem Own.lt (h : Own e w base A n c xs) (b : Nat) (hb : blk A = some b) : base ≤ b ∧ b < w.heap.size := OwnV.lt h b hb
theorem Own.at0 (h : Own e w base A n c xs) (b : Nat) (hb : blk A = some b) : A = some ⟨b, 0, none⟩ := by
  rcases h.2 with ⟨h1, _⟩ | ⟨g, cap, cur, h1, _⟩
  · injection h1 with h1
    subst h1
    cases hb
  · injection h1 with h1
    subst h1
    injection hb with hb
    simp only at hb
    rw [hb]
theorem Own.nil_of (h : Own e w base A n c xs) (hb : blk A = none) : A = none ∧ n = 0 ∧ c = 0 := by
  rcases h.2 with ⟨h1, h2⟩ | ⟨g, cap, cur, h1, _⟩
  · injection h1 with h1 h3 h4
    exact ⟨h1, h2, h4⟩
  · injection h1 with h1
    subst h1
    cases hb
theorem Own.prefix (h : Own e w base A n c xs) (m : Nat) (hm : m ≤ n) (hA : A ≠ none) : Own e w base A m c (xs.take m) := by
  have hl := h.len
  rcases h.2 with ⟨h1, _⟩ | ⟨g, cap, cur, h1, h2, h3, h4, h5, h6, h7⟩
  · injection h1 with h1
    exact absurd h1 hA
  · injection h1 with h1 _ h8
    subst h1 h8
    refine ⟨by simp; omega, .inr ⟨g, c, cur, rfl, h2, h3, by omega, h5, h6, ?_⟩⟩
    rw [List.map_take, ← h7, List.take_take, Nat.mul_one, Nat.mul_one, Nat.min_eq_left hm]
theorem Own.cap_eq {base' m d : Nat} {ys : List UInt8} (h : Own e w base A n c xs) (h' : Own e w base' A m d ys) (hA : A ≠ none) : c = d := by
  rcases h.2 with ⟨h1, _⟩ | ⟨g, cap, cur, h1, _, h3, _, _, h6, _⟩
  · injection h1 with h1; exact absurd h1 hA
  · rcases h'.2 with ⟨k1, _⟩ | ⟨g', cap', cur', k1, _, k3, _, _, k6, _⟩
    · injection k1 with k1; exact absurd k1 hA
    · injection h1 with h1 _ h8
      injection k1 with k1 _ k8
      rw [h1] at k1
      injection k1 with k1
      injection k1 with k1
      subst k1
      rw [h3] at k3
      injection k3 with k3
      injection k3 with k3
      subst k3
      omega
end

/-- 'There was room, and the row lies where it lay; or it lies in a new block, and all that was stands.' -/
def Alt (w w' : World) (A : Option Addr) (c : Nat) (A' : Option Addr) (c' : Nat) : Prop := (A' = A ∧ c' = c ∧ A ≠ none ∧ w.grownBy w' (blk A)) ∨ (blk A' = some w.heap.size ∧ w.grownBy w' none)

/-- The row in a new block: what the growing arm leaves. -/
theorem own_grown (w : World) (e : TypeId) (base n m old : Nat) (xs ys : List UInt8) (z : Value) (hz : z.cells.size = 1) (hx : xs.length = n) (hy : ys.length = m) (hm : n + m ≤ maxLen) (hbase : base ≤ w.heap.size) :
    Own e (w.drew.alloc (.cells ((xs.map cv).toArray ++ (ys.map cv).toArray ++ Builtin.zeroCells z.cells (grownCap w (n + m) old e - (n + m))) e)) base (some ⟨w.heap.size, 0, none⟩) (n + m) (grownCap w (n + m) old e) (xs ++ ys) := by
  have hge := grownCap_ge w (n + m) old e
  have hcm : grownCap w (n + m) old e ≤ maxLen := grownCap_le_maxLen w (n + m) old e hm
  refine ⟨by simp [hx, hy], .inr ⟨w.heap.size, _, _, rfl, hbase, heap_alloc_new w.drew _, hge, hcm, ?_, ?_⟩⟩
  · simp only [Array.size_append, List.size_toArray, size_zeroCells, hz, List.length_map, hx, hy]
    omega
  · simp only [Array.toList_append, List.map_append, Nat.mul_one]
    have hl : (xs.map cv ++ ys.map cv).length = n + m := by simp [hx, hy]
    rw [← hl]
    exact List.take_left

theorem run_append_tell {P : Program} (w : World) (t ty e : TypeId) (base : Nat) (ht : P.underlying t = some (.slice e)) (hi : (P.info? e).map (fun i => (i.zero, i.size, i.bytes)) = some (some (.int .u8 0), 1, 1))
    (A : Option Addr) (n c : Nat) (xs : List UInt8) (hown : Own e w base A n c xs) (b off : Nat) (m d : Nat) (ys : List UInt8) (hr : Rd w (some ⟨b, off, none⟩) m ys) (hm : 0 < m)
    (hbytes : n + m ≤ 140737488355328) (hbase : base ≤ w.heap.size) :
    ∃ A' c' w', (Builtin.append_ #[t, t] ty #[.slice A n c, .slice (some ⟨b, off, none⟩) m d]).run P w = .ok (.slice A' (n + m) c') w' ∧ Own e w' base A' (n + m) c' (xs ++ ys) ∧
      Alt w w' A c A' c' := by
  obtain ⟨i, hi, hz, hsz, hby⟩ := info_parts hi
  obtain ⟨b', off', hbo, _, hc⟩ := hr.2 hm
  injection hbo with hbo
  injection hbo with hb1 hb2
  subst hb1 hb2
  have hnews : ∀ j u, (ys.map cv)[j]? = some u → w.cell? ((⟨b, off, none⟩ : Addr).add j) = some u := by
    intro j u hj
    rw [List.getElem?_map] at hj
    cases hy : ys[j]? with
    | none => rw [hy] at hj; cases hj
    | some y =>
      rw [hy] at hj
      injection hj with hj
      subst hj
      rw [Addr.add_lit]
      exact hc j y hy
  have hyl : (ys.map cv).length = m * i.size := by rw [hsz, List.length_map, hr.1, Nat.mul_one]
  have hcap := hown.cap
  have hlen := hown.len
  have hM : n + m ≤ maxLen := by unfold maxLen; omega
  rcases hown.2 with ⟨h1, h2⟩ | ⟨g, cap, cur, h1, hbg, hg, hnc, hcm, hcs, htake⟩
  · injection h1 with h1 _ h3
    subst h1 h2 h3
    have hxe : xs = [] := List.eq_nil_of_length_eq_zero (by omega)
    subst hxe
    have hrun := run_append_nil (P := P) w t ty e i (.int .u8 0) ht hi hz ⟨b, off, none⟩ m d (ys.map cv) hyl hnews (by omega) (by unfold maxLen at *; omega) (by rw [hby]; omega)
    have ho := own_grown w e base 0 m 0 [] ys (.int .u8 0) rfl rfl hr.1 hM hbase
    rw [Nat.zero_add] at ho ⊢
    simp only [List.map_nil, List.nil_append, Array.empty_append] at ho
    exact ⟨_, _, _, hrun, by simpa using ho, Or.inr ⟨rfl, ⟨rfl, rfl, rfl, by simp, fun k hk _ => heap_alloc_old w.drew _ hk⟩⟩⟩
  · injection h1 with h1 _ h8
    subst h1 h8
    by_cases hroom : n + m ≤ c
    · have hown' : w.ownsRow base e i.size (.slice (some ⟨g, 0, none⟩) n c) n (xs.map cv) := by rw [hsz]; exact hown
      obtain ⟨w', hr1, h1, h2⟩ := run_append_fits (P := P) w base t ty e i i.size ht hi rfl g n c (xs.map cv) hown' ⟨b, off, none⟩ m d (ys.map cv) hyl hnews (cv_one ys) hroom
      refine ⟨_, _, _, hr1, ?_, Or.inl ⟨rfl, rfl, by simp, h2⟩⟩
      rw [hsz] at h1
      unfold Own
      rw [List.map_append]
      exact h1
    · have holds : ∀ j u, (xs.map cv)[j]? = some u → w.cell? ((⟨g, 0, none⟩ : Addr).add j) = some u := World.ownsRow.cells hown (g := g) rfl
      have hrun := run_append_grow (P := P) w t ty e i (.int .u8 0) ht hi hz ⟨g, 0, none⟩ n c (xs.map cv) (by rw [hsz, List.length_map, hlen, Nat.mul_one]) holds ⟨b, off, none⟩ m d (ys.map cv) hyl hnews (by omega) (by unfold maxLen at *; omega)
        (growslice_fits (by omega) (by rw [hby]; omega))
      exact ⟨_, _, _, hrun, own_grown w e base n m c xs ys (.int .u8 0) rfl hlen hr.1 hM hbase, Or.inr ⟨rfl, ⟨rfl, rfl, rfl, by simp, fun k hk _ => heap_alloc_old w.drew _ hk⟩⟩⟩

/-- THE APPEND of what reads as ys (one byte at least), and it tells: either there was room, and the row lies where it lay, or it lies in a new block and all that was stands. -/
theorem wpList_appT {P : Program} (w : World) {ops : Array Oper} {rest : List Oper} {o : Oper} {a : Act} {Q : Exit → Act → World → Prop} (hgd : o.guard = none) (s x : Operand) (t : TypeId)
    (ho : o.op = .call { callee := .builtin .append, args := #[s, x], argTypes := #[t, t] })
    (base : Nat) (e : TypeId) (ht : P.underlying t = some (.slice e)) (hi : (P.info? e).map (fun i => (i.zero, i.size, i.bytes)) = some (some (.int .u8 0), 1, 1))
    (A : Option Addr) (n c : Nat) (xs : List UInt8) (hs : a.eval s = .slice A n c) (hown : Own e w base A n c xs)
    (b off : Nat) (m d : Nat) (ys : List UInt8) (hx : a.eval x = .slice (some ⟨b, off, none⟩) m d) (hr : Rd w (some ⟨b, off, none⟩) m ys) (hm : 0 < m)
    (hbytes : n + m ≤ 140737488355328) (hbase : base ≤ w.heap.size)
    (h : ∀ A' c' w', Own e w' base A' (n + m) c' (xs ++ ys) → Alt w w' A c A' c' → wpList P ops Q rest (a.put o.dst (.slice A' (n + m) c')) w') : wpList P ops Q (o :: rest) a w := by
  refine wpList_plain hgd fun K hK => ?_
  obtain ⟨A', c', w', hrun, h1, h2⟩ := run_append_tell (P := P) w t o.type e base ht hi A n c xs hown b off m d ys hr hm hbytes hbase
  unfold Oper.wp execOp
  simp only [ho, resolve, invoke, builtin, Sem.run_bind, Sem.run_pure, Result.andThen_ok, List.map_toArray, List.map_cons, List.map_nil, hs, hx, hrun]
  exact hK _ _ (h A' c' w' h1 h2)

/-! ### the pool -/
/-- What lies in class i of the pool: list i itself, and whatever stands in the grown row at a place that is i when divided by n. -/
def Mem (n : Nat) (svs gvs : List Value) (i : Nat) (v : Value) : Prop := svs[i]? = some v ∨ ∃ k, gvs[k]? = some v ∧ k % n = i
/-- 'Each holds its class's marks, in a row of the call's own; what is of two classes shares no block.' -/
def Pool (e : TypeId) (w : World) (base : Nat) (M : Nat → Value → Prop) : Prop :=
  (∀ i v, M i v → ∃ A m c, v = .slice A m c ∧ Own e w base A m c (marks i m)) ∧
  ∀ i v i' v' b, M i v → M i' v' → Value.ownBlock v = some b → Value.ownBlock v' = some b → i = i'
/-- 'Nothing of the pool lies in this block.' -/
def Off (M : Nat → Value → Prop) (b : Nat) : Prop := ∀ i v, M i v → Value.ownBlock v ≠ some b

section
variable {e : TypeId} {w w' : World} {base : Nat} {M M' : Nat → Value → Prop}
theorem Pool.sub (h : Pool e w base M) (hs : ∀ i v, M' i v → M i v) : Pool e w base M' :=
  ⟨fun i v hv => h.1 i v (hs i v hv), fun i v i' v' b h1 h2 => h.2 i v i' v' b (hs i v h1) (hs i' v' h2)⟩
theorem Pool.lt (h : Pool e w base M) {i : Nat} {v : Value} (hv : M i v) {b : Nat} (hb : Value.ownBlock v = some b) : base ≤ b ∧ b < w.heap.size := by
  obtain ⟨A, m, c, rfl, ho⟩ := h.1 i v hv
  rw [own_blk] at hb
  exact ho.lt b hb
theorem Pool.off_new (h : Pool e w base M) {b : Nat} (hb : w.heap.size ≤ b) : Off M b := fun i v hv e => by
  have := h.lt hv e
  omega
theorem Pool.kept (h : Pool e w base M) {row : Option Nat} (hg : w.grownBy w' row) (ho : ∀ b, row = some b → Off M b) : Pool e w' base M := by
  refine ⟨fun i v hv => ?_, h.2⟩
  obtain ⟨A, m, c, rfl, hw⟩ := h.1 i v hv
  refine ⟨A, m, c, rfl, hw.kept hg (fun b hb hr => ho b hr i _ hv ?_)⟩
  rw [own_blk, hb]
theorem Pool.below (h : Pool e w base M) (hb : Below w.heap.size w w') : Pool e w' base M := by
  refine ⟨fun i v hv => ?_, h.2⟩
  obtain ⟨A, m, c, rfl, hw⟩ := h.1 i v hv
  exact ⟨A, m, c, rfl, hw.below hb⟩
theorem Pool.drewN (h : Pool e w base M) (q : Nat) : Pool e (w.drewN q) base M := h
/-- What is in the pool grows by an append: it stays in its class. -/
theorem Pool.app (h : Pool e w base M) {i m k c : Nat} {A : Option Addr} (hv : M i (.slice A m c)) {A' : Option Addr} {c' : Nat} (ho : Own e w' base A' (m + k) c' (marks i (m + k)))
    (ha : Alt w w' A c A' c')
    (hmax : ∀ A2 m2 c2, M i (.slice A2 m2 c2) → m2 ≤ m + k) : Pool e w' base (fun i' v' => M i' v' ∨ (i' = i ∧ v' = .slice A' (m + k) c')) := by
  obtain ⟨_, _, _, e0, hv0⟩ := h.1 i _ hv
  injection e0 with e1 e2 e3
  subst e1 e2 e3
  have hold : ∀ i' v, M i' v → ∃ A m c, v = .slice A m c ∧ Own e w' base A m c (marks i' m) := by
    intro i' v hM
    obtain ⟨A2, m2, c2, rfl, h2⟩ := h.1 i' v hM
    refine ⟨A2, m2, c2, rfl, ?_⟩
    rcases ha with ⟨rfl, rfl, hA, hg⟩ | ⟨_, hg⟩
    · by_cases hb : blk A2 = blk A'
      · cases hbl : blk A' with
        | none => exact absurd (hv0.nil_of hbl).1 hA
        | some b =>
          have hi : i' = i := h.2 i' _ i _ b hM hv (by rw [own_blk, hb, hbl]) (by rw [own_blk, hbl])
          subst hi
          have e1 := hv0.at0 b hbl
          have e2 := h2.at0 b (by rw [hb, hbl])
          have e3 : A2 = A' := by rw [e1, e2]
          subst e3
          have hc := hv0.cap_eq h2 hA
          subst hc
          have := ho.prefix m2 (hmax _ _ _ hM) hA
          rw [marks_take _ _ _ (hmax _ _ _ hM)] at this
          exact this
      · exact h2.kept hg (fun b hb2 hb3 => hb (by rw [hb2, hb3]))
    · exact h2.kept hg (fun b _ => by simp)
  have hnew : ∀ i' v b, M i' v → Value.ownBlock v = some b → blk A' = some b → i' = i := by
    intro i' v b hM hb hA'
    rcases ha with ⟨rfl, rfl, hA, hg⟩ | ⟨hn, hg⟩
    · exact h.2 i' v i _ b hM hv hb (by rw [own_blk]; exact hA')
    · have := h.lt hM hb
      rw [hn] at hA'
      injection hA' with hA'
      omega
  refine ⟨fun i' v hM => ?_, fun i1 v1 i2 v2 b h1 h2 hb1 hb2 => ?_⟩
  · rcases hM with hM | ⟨rfl, rfl⟩
    · exact hold i' v hM
    · exact ⟨A', m + k, c', rfl, ho⟩
  · rcases h1 with h1 | ⟨rfl, rfl⟩
    · rcases h2 with h2 | ⟨rfl, rfl⟩
      · exact h.2 i1 v1 i2 v2 b h1 h2 hb1 hb2
      · exact hnew i1 v1 b h1 hb1 (by rw [own_blk] at hb2; exact hb2)
    · rcases h2 with h2 | ⟨rfl, rfl⟩
      · exact (hnew i2 v2 b h2 hb2 (by rw [own_blk] at hb1; exact hb1)).symm
      · rfl
theorem Pool.app_off {b : Nat} (h : Off M b) {i m k c : Nat} {A : Option Addr} (hv : M i (.slice A m c)) {A' : Option Addr} {c' : Nat}
    (ha : Alt w w' A c A' c') (hb : b < w.heap.size) : Off (fun i' v' => M i' v' ∨ (i' = i ∧ v' = .slice A' (m + k) c')) b := by
  intro i' v hM hv2
  rcases hM with hM | ⟨rfl, rfl⟩
  · exact h i' v hM hv2
  · rw [own_blk] at hv2
    rcases ha with ⟨rfl, _⟩ | ⟨hn, _⟩
    · exact h _ _ hv (by rw [own_blk]; exact hv2)
    · rw [hn] at hv2
      injection hv2 with hv2
      omega
end

end Go.Proofs.Ytgccbghaibddcaa
