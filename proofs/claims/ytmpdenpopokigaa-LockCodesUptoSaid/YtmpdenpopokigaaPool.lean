/- Words for lists of bytes that share no memory: each is a class, and what is in a class holds the class's own marks. An append that tells where the row lies behind it. No condition. -/
import Derived.Test.YtmpdenpopokigaaVal
namespace Go.Proofs.Ytmpdenpopokigaa
open Go Go.RowKit

/-- What list i holds at place j. -/
def mk (i j : Nat) : UInt8 := bt (17 * i + 3 * j + 1)
def marks (i n : Nat) : List UInt8 := (List.range n).map (mk i)
theorem marks_take (i n m : Nat) (h : m ≤ n) : (marks i n).take m = marks i m := by
  unfold marks
  rw [← List.map_take, List.take_range, Nat.min_eq_left h]
section
variable {e : TypeId} {w w' : World} {base n c : Nat} {A : Option Addr} {xs : List UInt8}
theorem Own.kept {row : Option Nat} (h : Own e w base A n c xs) (hg : w.grownBy w' row) (hne : ∀ b, blk A = some b → row ≠ some b) : Own e w' base A n c xs := OwnV.kept h hg hne
theorem Own.lt (h : Own e w base A n c xs) (b : Nat) (hb : blk A = some b) : base ≤ b ∧ b < w.heap.size := OwnV.lt h b hb
theorem Own.at0 (h : Own e w base A n c xs) (b : Nat) (hb : blk A = some b) : A = some ⟨b, 0, none⟩ := by
  rcases h.2 with ⟨h1, _⟩ | ⟨g, cap, cur, h1, _⟩
  · injection h1 with h1
    subst h1
    cases hb
  · injection h1 with h1
    subst h1
    injection hb with hb
    simp only at hb
    rw [hb]
theorem Own.nil_of (h : Own e w base A n c xs) (hb : blk A = none) : A = none ∧ n = 0 ∧ c = 0 := by
  rcases h.2 with ⟨h1, h2⟩ | ⟨g, cap, cur, h1, _⟩
  · injection h1 with h1 h3 h4
    exact ⟨h1, h2, h4⟩
  · injection h1 with h1
    subst h1
    cases hb
theorem Own.prefix (h : Own e w base A n c xs) (m : Nat) (hm : m ≤ n) (hA : A ≠ none) : Own e w base A m c (xs.take m) := by
  have hl := h.len
  rcases h.2 with ⟨h1, _⟩ | ⟨g, cap, cur, h1, h2, h3, h4, h5, h6, h7⟩
  · injection h1 with h1
    exact absurd h1 hA
  · injection h1 with h1 _ h8
    subst h1 h8
    refine ⟨by simp; omega, .inr ⟨g, c, cur, rfl, h2, h3, by omega, h5, h6, ?_⟩⟩
    rw [List.map_take, ← h7, List.take_take, Nat.mul_one, Nat.mul_one, Nat.min_eq_left hm]
theorem Own.cap_eq {base' m d : Nat} {ys : List UInt8} (h : Own e w base A n c xs) (h' : Own e w base' A m d ys) (hA : A ≠ none) : c = d := by
  rcases h.2 with ⟨h1, _⟩ | ⟨g, cap, cur, h1, _, h3, _, _, h6, _⟩
  · injection h1 with h1; exact absurd h1 hA
  · rcases h'.2 with ⟨k1, _⟩ | ⟨g', cap', cur', k1, _, k3, _, _, k6, _⟩
    · injection k1 with k1; exact absurd k1 hA
    · injection h1 with h1 _ h8
      injection k1 with k1 _ k8
      rw [h1] at k1
      injection k1 with k1
      injection k1 with k1
      subst k1
      rw [h3] at k3
      injection k3 with k3
      injection k3 with k3
      subst k3
      omega
end

/-- 'There was room, and the row lies where it lay; or it lies in a new block, and all that was stands.' -/
def Alt (w w' : World) (A : Option Addr) (c : Nat) (A' : Option Addr) (c' : Nat) : Prop := (A' = A ∧ c' = c ∧ A ≠ none ∧ w.grownBy w' (blk A)) ∨ (blk A' = some w.heap.size ∧ w.grownBy w' none)

/-! ### the pool -/
/-- What lies in class i of the pool: list i itself, and whatever stands in the grown row at a place that is i when divided by n. -/
def Mem (n : Nat) (svs gvs : List Value) (i : Nat) (v : Value) : Prop := svs[i]? = some v ∨ ∃ k, gvs[k]? = some v ∧ k % n = i
/-- 'Each holds its class's marks, in a row of the call's own; what is of two classes shares no block.' -/
def Pool (e : TypeId) (w : World) (base : Nat) (M : Nat → Value → Prop) : Prop :=
  (∀ i v, M i v → ∃ A m c, v = .slice A m c ∧ Own e w base A m c (marks i m)) ∧
  ∀ i v i' v' b, M i v → M i' v' → Value.ownBlock v = some b → Value.ownBlock v' = some b → i = i'
/-- 'Nothing of the pool lies in this block.' -/
def Off (M : Nat → Value → Prop) (b : Nat) : Prop := ∀ i v, M i v → Value.ownBlock v ≠ some b

section
variable {e : TypeId} {w w' : World} {base : Nat} {M M' : Nat → Value → Prop}
theorem Pool.sub (h : Pool e w base M) (hs : ∀ i v, M' i v → M i v) : Pool e w base M' :=
  ⟨fun i v hv => h.1 i v (hs i v hv), fun i v i' v' b h1 h2 => h.2 i v i' v' b (hs i v h1) (hs i' v' h2)⟩
theorem Pool.lt (h : Pool e w base M) {i : Nat} {v : Value} (hv : M i v) {b : Nat} (hb : Value.ownBlock v = some b) : base ≤ b ∧ b < w.heap.size := by
  obtain ⟨A, m, c, rfl, ho⟩ := h.1 i v hv
  rw [own_blk] at hb
  exact ho.lt b hb
theorem Pool.off_new (h : Pool e w base M) {b : Nat} (hb : w.heap.size ≤ b) : Off M b := fun i v hv e => by
  have := h.lt hv e
  omega
theorem Pool.kept (h : Pool e w base M) {row : Option Nat} (hg : w.grownBy w' row) (ho : ∀ b, row = some b → Off M b) : Pool e w' base M := by
  refine ⟨fun i v hv => ?_, h.2⟩
  obtain ⟨A, m, c, rfl, hw⟩ := h.1 i v hv
  refine ⟨A, m, c, rfl, hw.kept hg (fun b hb hr => ho b hr i _ hv ?_)⟩
  rw [own_blk, hb]
theorem Pool.below (h : Pool e w base M) (hb : Below w.heap.size w w') : Pool e w' base M := by
  refine ⟨fun i v hv => ?_, h.2⟩
  obtain ⟨A, m, c, rfl, hw⟩ := h.1 i v hv
  exact ⟨A, m, c, rfl, hw.below hb⟩
theorem Pool.drewN (h : Pool e w base M) (q : Nat) : Pool e (w.drewN q) base M := h
/-- What is in the pool grows by an append: it stays in its class. -/
theorem Pool.app (h : Pool e w base M) {i m k c : Nat} {A : Option Addr} (hv : M i (.slice A m c)) {A' : Option Addr} {c' : Nat} (ho : Own e w' base A' (m + k) c' (marks i (m + k)))
    (ha : Alt w w' A c A' c')
    (hmax : ∀ A2 m2 c2, M i (.slice A2 m2 c2) → m2 ≤ m + k) : Pool e w' base (fun i' v' => M i' v' ∨ (i' = i ∧ v' = .slice A' (m + k) c')) := by
  obtain ⟨_, _, _, e0, hv0⟩ := h.1 i _ hv
  injection e0 with e1 e2 e3
  subst e1 e2 e3
  have hold : ∀ i' v, M i' v → ∃ A m c, v = .slice A m c ∧ Own e w' base A m c (marks i' m) := by
    intro i' v hM
    obtain ⟨A2, m2, c2, rfl, h2⟩ := h.1 i' v hM
    refine ⟨A2, m2, c2, rfl, ?_⟩
    rcases ha with ⟨rfl, rfl, hA, hg⟩ | ⟨_, hg⟩
    · by_cases hb : blk A2 = blk A'
      · cases hbl : blk A' with
        | none => exact absurd (hv0.nil_of hbl).1 hA
        | some b =>
          have hi : i' = i := h.2 i' _ i _ b hM hv (by rw [own_blk, hb, hbl]) (by rw [own_blk, hbl])
          subst hi
          have e1 := hv0.at0 b hbl
          have e2 := h2.at0 b (by rw [hb, hbl])
          have e3 : A2 = A' := by rw [e1, e2]
          subst e3
          have hc := hv0.cap_eq h2 hA
          subst hc
          have := ho.prefix m2 (hmax _ _ _ hM) hA
          rw [marks_take _ _ _ (hmax _ _ _ hM)] at this
          exact this
      · exact h2.kept hg (fun b hb2 hb3 => hb (by rw [hb2, hb3]))
    · exact h2.kept hg (fun b _ => by simp)
  have hnew : ∀ i' v b, M i' v → Value.ownBlock v = some b → blk A' = some b → i' = i := by
    intro i' v b hM hb hA'
    rcases ha with ⟨rfl, rfl, hA, hg⟩ | ⟨hn, hg⟩
    · exact h.2 i' v i _ b hM hv hb (by rw [own_blk]; exact hA')
    · have := h.lt hM hb
      rw [hn] at hA'
      injection hA' with hA'
      omega
  refine ⟨fun i' v hM => ?_, fun i1 v1 i2 v2 b h1 h2 hb1 hb2 => ?_⟩
  · rcases hM with hM | ⟨rfl, rfl⟩
    · exact hold i' v hM
    · exact ⟨A', m + k, c', rfl, ho⟩
  · rcases h1 with h1 | ⟨rfl, rfl⟩
    · rcases h2 with h2 | ⟨rfl, rfl⟩
      · exact h.2 i1 v1 i2 v2 b h1 h2 hb1 hb2
      · exact hnew i1 v1 b h1 hb1 (by rw [own_blk] at hb2; exact hb2)
    · rcases h2 with h2 | ⟨rfl, rfl⟩
      · exact (hnew i2 v2 b h2 hb2 (by rw [own_blk] at hb1; exact hb1)).symm
      · rfl
theorem Pool.app_off {b : Nat} (h : Off M b) {i m k c : Nat} {A : Option Addr} (hv : M i (.slice A m c)) {A' : Option Addr} {c' : Nat}
    (ha : Alt w w' A c A' c') (hb : b < w.heap.size) : Off (fun i' v' => M i' v' ∨ (i' = i ∧ v' = .slice A' (m + k) c')) b := by
  intro i' v hM hv2
  rcases hM with hM | ⟨rfl, rfl⟩
  · exact h i' v hM hv2
  · rw [own_blk] at hv2
    rcases ha with ⟨rfl, _⟩ | ⟨hn, _⟩
    · exact h _ _ hv (by rw [own_blk]; exact hv2)
    · rw [hn] at hv2
      injection hv2 with hv2
      omega
end

end Go.Proofs.Ytmpdenpopokigaa
