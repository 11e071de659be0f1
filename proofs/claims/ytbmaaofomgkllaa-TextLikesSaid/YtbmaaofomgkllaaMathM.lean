/- Patterns: which texts match (as a relation, and as a function); that it is the same from behind; what a greedy search keeps. No condition. -/
import Derived.WalkKit
namespace Go.Proofs.Ytbmaaofomgkllaa

/-- A sign of the pattern (no %) and a rune of the text agree. -/
def okc (q c : Nat) : Bool := decide (q = 95) || decide (q = c)

inductive Mt : List Nat → List Nat → Prop
  | nil : Mt [] []
  | skip {t p : List Nat} (h : Mt t p) : Mt t (37 :: p)
  | eat {t p : List Nat} (c : Nat) (h : Mt t (37 :: p)) : Mt (c :: t) (37 :: p)
  | one {t p : List Nat} (q c : Nat) (hq : q ≠ 37) (ho : okc q c = true) (h : Mt t p) : Mt (c :: t) (q :: p)

/-- The same, reckoned. -/
def mt : List Nat → List Nat → Bool
  | [], [] => true
  | _ :: _, [] => false
  | [], q :: p => decide (q = 37) && mt [] p
  | c :: t, q :: p => if q = 37 then mt (c :: t) p || mt t (q :: p) else okc q c && mt t p
termination_by t p => t.length + p.length

theorem mt_nil : mt [] [] = true := by rw [mt]
theorem mt_long (c : Nat) (t : List Nat) : mt (c :: t) [] = false := by rw [mt]
theorem mt_end (q : Nat) (p : List Nat) : mt [] (q :: p) = (decide (q = 37) && mt [] p) := by rw [mt]
theorem mt_cons (c : Nat) (t : List Nat) (q : Nat) (p : List Nat) : mt (c :: t) (q :: p) = if q = 37 then mt (c :: t) p || mt t (q :: p) else okc q c && mt t p := by rw [mt]

theorem mt_iff : ∀ (n : Nat) (t p : List Nat), t.length + p.length ≤ n → (mt t p = true ↔ Mt t p)
  | _, [], [], _ => by rw [mt_nil]; exact ⟨fun _ => .nil, fun _ => rfl⟩
  | _, c :: t, [], _ => by rw [mt_long]; exact ⟨(fun h => by cases h), (fun h => by cases h)⟩
  | 0, [], q :: p, h => by simp at h
  | 0, c :: t, q :: p, h => by simp at h
  | n + 1, [], q :: p, h => by
    rw [mt_end]
    simp only [List.length_nil, List.length_cons] at h
    have ih := mt_iff n [] p (by simp; omega)
    constructor
    · intro h1
      simp only [Bool.and_eq_true, decide_eq_true_eq] at h1
      obtain ⟨rfl, h2⟩ := h1
      exact .skip (ih.1 h2)
    · intro h1
      cases h1 with
      | skip h2 => simp [ih.2 h2]
  | n + 1, c :: t, q :: p, h => by
    rw [mt_cons]
    simp only [List.length_cons] at h
    have i1 := mt_iff n (c :: t) p (by simp; omega)
    have i2 := mt_iff n t (q :: p) (by simp; omega)
    have i3 := mt_iff n t p (by omega)
    by_cases hq : q = 37
    · subst hq
      rw [if_pos rfl, Bool.or_eq_true]
      constructor
      · rintro (h1 | h1)
        · exact .skip (i1.1 h1)
        · exact .eat c (i2.1 h1)
      · intro h1
        cases h1 with
        | skip h2 => exact .inl (i1.2 h2)
        | eat _ h2 => exact .inr (i2.2 h2)
        | one _ _ h2 _ _ => exact absurd rfl h2
    · rw [if_neg hq, Bool.and_eq_true]
      constructor
      · rintro ⟨h1, h2⟩
        exact .one q c hq h1 (i3.1 h2)
      · intro h1
        cases h1 with
        | skip h2 => exact absurd rfl hq
        | eat _ h2 => exact absurd rfl hq
        | one _ _ _ h3 h4 => exact ⟨h3, i3.2 h4⟩
theorem mt_true {t p : List Nat} : mt t p = true ↔ Mt t p := mt_iff _ t p (Nat.le_refl _)
theorem mt_eq {a b : Bool} (h : a = true ↔ b = true) : a = b := by
  cases a <;> cases b <;> simp_all

/-! ### from behind -/
theorem Mt.skipR {t p : List Nat} (h : Mt t p) : Mt t (p ++ [37]) := by
  induction h with
  | nil => exact .skip .nil
  | skip _ ih => exact .skip ih
  | eat c _ ih => exact .eat c ih
  | one q c hq ho _ ih => exact .one q c hq ho ih
theorem Mt.oneR {t p : List Nat} (q c : Nat) (hq : q ≠ 37) (ho : okc q c = true) (h : Mt t p) : Mt (t ++ [c]) (p ++ [q]) := by
  induction h with
  | nil => exact .one q c hq ho .nil
  | skip _ ih => exact .skip ih
  | eat c' _ ih => exact .eat c' ih
  | one q' c' hq' ho' _ ih => exact .one q' c' hq' ho' ih
theorem Mt.eatR_aux (c : Nat) {t P : List Nat} (h : Mt t P) : ∀ p, P = p ++ [37] → Mt (t ++ [c]) (p ++ [37]) := by
  induction h with
  | nil => intro p hp; cases p <;> simp at hp
  | @skip t P' h ih =>
    intro p hp
    cases p with
    | nil =>
      simp only [List.nil_append, List.cons.injEq, true_and] at hp
      subst hp
      cases h
      exact .eat c (.skip .nil)
    | cons q p' =>
      simp only [List.cons_append, List.cons.injEq] at hp
      obtain ⟨rfl, hp⟩ := hp
      exact .skip (ih p' hp)
  | @eat t P' c' h ih =>
    intro p hp
    have h1 := ih p hp
    cases p with
    | nil => exact .eat c' h1
    | cons q p' =>
      simp only [List.cons_append, List.cons.injEq] at hp
      obtain ⟨rfl, hp⟩ := hp
      exact .eat c' h1
  | @one t P' q c' hq ho h ih =>
    intro p hp
    cases p with
    | nil =>
      simp only [List.nil_append, List.cons.injEq] at hp
      exact absurd hp.1 hq
    | cons q' p' =>
      simp only [List.cons_append, List.cons.injEq] at hp
      obtain ⟨rfl, hp⟩ := hp
      exact .one _ c' hq ho (ih p' hp)
theorem Mt.rev {t p : List Nat} (h : Mt t p) : Mt t.reverse p.reverse := by
  induction h with
  | nil => exact .nil
  | skip _ ih => rw [List.reverse_cons]; exact ih.skipR
  | eat c _ ih =>
    rw [List.reverse_cons] at ih ⊢
    rw [List.reverse_cons]
    exact Mt.eatR_aux c ih _ rfl
  | one q c hq ho _ ih => rw [List.reverse_cons, List.reverse_cons]; exact ih.oneR q c hq ho
theorem mt_rev (t p : List Nat) : mt t.reverse p.reverse = mt t p := by
  refine mt_eq ⟨fun h => ?_, fun h => mt_true.2 (mt_true.1 h).rev⟩
  have := (mt_true.1 h).rev
  rw [List.reverse_reverse, List.reverse_reverse] at this
  exact mt_true.2 this

/-! ### the table -/
/-- Row i, column j: the first i runes and the first j signs. -/
def mij (T P : List Nat) (i j : Nat) : Bool := mt (T.take i).reverse (P.take j).reverse
theorem take_rev {L : List Nat} {j x : Nat} (h : L[j]? = some x) : (L.take (j + 1)).reverse = x :: (L.take j).reverse := by
  rw [List.take_add_one, h]
  simp
theorem mij_00 (T P : List Nat) : mij T P 0 0 = true := by simp [mij, mt_nil]
theorem mij_0s {T P : List Nat} {j q : Nat} (h : P[j]? = some q) : mij T P 0 (j + 1) = (mij T P 0 j && decide (q = 37)) := by
  unfold mij
  rw [take_rev h, List.take_zero, List.reverse_nil, mt_end, Bool.and_comm]
theorem mij_s0 {T P : List Nat} {i c : Nat} (h : T[i]? = some c) : mij T P (i + 1) 0 = false := by
  unfold mij
  rw [take_rev h, List.take_zero, List.reverse_nil, mt_long]
theorem mij_any {T P : List Nat} {i j c q : Nat} (h : T[i]? = some c) (h2 : P[j]? = some q) (hq : q = 37) : mij T P (i + 1) (j + 1) = (mij T P (i + 1) j || mij T P i (j + 1)) := by
  unfold mij
  rw [take_rev h, take_rev h2, mt_cons, if_pos hq]
theorem mij_one {T P : List Nat} {i j c q : Nat} (h : T[i]? = some c) (h2 : P[j]? = some q) (hq : q ≠ 37) : mij T P (i + 1) (j + 1) = (mij T P i j && okc q c) := by
  unfold mij
  rw [take_rev h, take_rev h2, mt_cons, if_neg hq, Bool.and_comm]
theorem mij_all (T P : List Nat) {n m : Nat} (hn : T.length = n) (hm : P.length = m) : mij T P n m = mt T P := by
  subst hn hm
  unfold mij
  rw [List.take_length, List.take_length, mt_rev]

/-! ### the greedy search -/
theorem Mt.star {t p : List Nat} : Mt t (37 :: p) ↔ ∃ k, k ≤ t.length ∧ Mt (t.drop k) p := by
  constructor
  · intro h
    generalize hP : 37 :: p = P at h
    induction h with
    | nil => cases hP
    | @skip t P' h _ =>
      injection hP with _ hP
      subst hP
      exact ⟨0, Nat.zero_le _, h⟩
    | @eat t P' c h ih =>
      obtain ⟨k, hk, hm⟩ := ih hP
      exact ⟨k + 1, by simp; omega, hm⟩
    | one q c hq _ _ _ =>
      injection hP with hP _
      exact absurd hP.symm hq
  · rintro ⟨k, hk, hm⟩
    induction k generalizing t with
    | zero => exact .skip hm
    | succ k ih =>
      cases t with
      | nil => simp at hk
      | cons c t => exact .eat c (ih (by simpa using hk) hm)

/-- 'From the text's place a on, L signs from place o on agree one by one, and none is %.' -/
def Seg (H W : List Nat) (a o L : Nat) : Prop := ∀ d, d < L → ∃ c q, H[a + d]? = some c ∧ W[o + d]? = some q ∧ q ≠ 37 ∧ okc q c = true
theorem Seg.zero (H W : List Nat) (a o : Nat) : Seg H W a o 0 := fun d h => absurd h (by omega)
theorem Seg.snoc {H W : List Nat} {a o L c q : Nat} (h : Seg H W a o L) (hc : H[a + L]? = some c) (hq : W[o + L]? = some q) (h37 : q ≠ 37) (ho : okc q c = true) : Seg H W a o (L + 1) := by
  intro d hd
  by_cases e : d = L
  · subst e; exact ⟨c, q, hc, hq, h37, ho⟩
  · exact h d (by omega)
theorem drop_nat {L : List Nat} {k x : Nat} (h : L[k]? = some x) : L.drop k = x :: L.drop (k + 1) := by
  obtain ⟨hk, rfl⟩ := List.getElem?_eq_some_iff.1 h
  exact List.drop_eq_getElem_cons hk
theorem Seg.iff {H W : List Nat} {a o : Nat} : ∀ {L : Nat}, Seg H W a o L → (Mt (H.drop a) (W.drop o) ↔ Mt (H.drop (a + L)) (W.drop (o + L)))
  | 0, _ => Iff.rfl
  | L + 1, h => by
    obtain ⟨c, q, h1, h2, h3, h4⟩ := h L (by omega)
    rw [Seg.iff (L := L) (fun d hd => h d (by omega)), drop_nat h1, drop_nat h2]
    constructor
    · intro hm
      cases hm with
      | skip _ => exact absurd rfl h3
      | eat _ _ => exact absurd rfl h3
      | one _ _ _ _ hm => exact hm
    · intro hm
      exact .one _ _ h3 h4 hm
/-- Signs that are no % want a rune each. -/
theorem Seg.need {H W : List Nat} {a o k : Nat} : ∀ {L : Nat}, Seg H W a o L → k ≤ H.length → Mt (H.drop k) (W.drop o) → k + L ≤ H.length ∧ Mt (H.drop (k + L)) (W.drop (o + L))
  | 0, _, hk, hm => ⟨hk, hm⟩
  | L + 1, h, hk, hm => by
    obtain ⟨c, q, h1, h2, h3, h4⟩ := h L (by omega)
    obtain ⟨g1, g2⟩ := Seg.need (L := L) (fun d hd => h d (by omega)) hk hm
    rw [drop_nat h2] at g2
    generalize hX : H.drop (k + L) = X at g2
    cases g2 with
    | skip _ => exact absurd rfl h3
    | eat _ _ => exact absurd rfl h3
    | @one t p q' c' _ _ hm2 =>
      have hl : k + L < H.length := by
        apply Nat.lt_of_not_le
        intro hle
        rw [List.drop_eq_nil_of_le hle] at hX
        cases hX
      refine ⟨by omega, ?_⟩
      have e : H.drop (k + (L + 1)) = t := by
        have := List.drop_eq_getElem_cons hl
        rw [hX] at this
        injection this with _ this
        rw [this]
        rfl
      rw [e]
      exact hm2

/-- What the search has left to find out. -/
def Left (H W : List Nat) (i p : Nat) : Option (Nat × Nat) → Prop
  | none => (Mt H W ↔ Mt (H.drop i) (W.drop p))
  | some (o, a) => (Mt H W ↔ ∃ k, a ≤ k ∧ k ≤ H.length ∧ Mt (H.drop k) (W.drop o)) ∧ ∃ L, i = a + L ∧ p = o + L ∧ Seg H W a o L

theorem Left.start (H W : List Nat) : Left H W 0 0 none := Iff.rfl
theorem Left.star {H W : List Nat} {i p : Nat} {s : Option (Nat × Nat)} (h : Left H W i p s) (hi : i ≤ H.length) (hp : W[p]? = some 37) : Left H W i (p + 1) (some (p + 1, i)) := by
  refine ⟨?_, 0, rfl, rfl, Seg.zero _ _ _ _⟩
  have e : Mt (H.drop i) (W.drop p) ↔ ∃ k, i ≤ k ∧ k ≤ H.length ∧ Mt (H.drop k) (W.drop (p + 1)) := by
    rw [drop_nat hp, Mt.star]
    constructor
    · rintro ⟨k, hk, hm⟩
      rw [List.length_drop] at hk
      rw [List.drop_drop] at hm
      exact ⟨i + k, by omega, by omega, hm⟩
    · rintro ⟨k, h1, h2, hm⟩
      refine ⟨k - i, by rw [List.length_drop]; omega, ?_⟩
      rw [List.drop_drop, show i + (k - i) = k by omega]
      exact hm
  cases s with
  | none => exact h.trans e
  | some x =>
    obtain ⟨o, a⟩ := x
    obtain ⟨h1, L, hL1, hL2, hs⟩ := h
    rw [h1, ← e]
    constructor
    · rintro ⟨k, g1, g2, hm⟩
      obtain ⟨g3, g4⟩ := hs.need g2 hm
      rw [← hL2] at g4
      rw [drop_nat hp, Mt.star] at g4 ⊢
      obtain ⟨j, hj, hm⟩ := g4
      rw [List.length_drop] at hj
      rw [List.drop_drop] at hm
      refine ⟨(k + L - i) + j, by rw [List.length_drop]; omega, ?_⟩
      rw [List.drop_drop, show i + (k + L - i + j) = k + L + j by omega]
      exact hm
    · intro hm
      refine ⟨a, Nat.le_refl _, by omega, ?_⟩
      rw [hs.iff, ← hL1, ← hL2]
      exact hm
theorem Left.one {H W : List Nat} {i p c q : Nat} {s : Option (Nat × Nat)} (h : Left H W i p s) (hc : H[i]? = some c) (hq : W[p]? = some q) (h37 : q ≠ 37) (ho : okc q c = true) : Left H W (i + 1) (p + 1) s := by
  cases s with
  | none =>
    refine Iff.trans h ?_
    have hs : Seg H W i p 1 := fun d hd => by
      obtain rfl : d = 0 := by omega
      exact ⟨c, q, hc, hq, h37, ho⟩
    exact hs.iff
  | some x =>
    obtain ⟨o, a⟩ := x
    obtain ⟨h1, L, hL1, hL2, hs⟩ := h
    subst hL1 hL2
    exact ⟨h1, L + 1, rfl, rfl, hs.snoc hc hq h37 ho⟩
/-- 'The rune at i and the sign at p don't agree.' -/
def Off (W : List Nat) (p c : Nat) : Prop := W.length ≤ p ∨ ∃ q, W[p]? = some q ∧ q ≠ 37 ∧ okc q c = false
theorem Off.not {H W : List Nat} {i p c : Nat} (h : Off W p c) (hc : H[i]? = some c) : ¬ Mt (H.drop i) (W.drop p) := by
  intro hm
  rw [drop_nat hc] at hm
  rcases h with h | ⟨q, h1, h2, h3⟩
  · rw [List.drop_eq_nil_of_le h] at hm
    cases hm
  · rw [drop_nat h1] at hm
    cases hm with
    | skip _ => exact h2 rfl
    | eat _ _ => exact h2 rfl
    | one _ _ _ h4 _ => rw [h3] at h4; cases h4
theorem Left.back {H W : List Nat} {i p c o a : Nat} (h : Left H W i p (some (o, a))) (hc : H[i]? = some c) (hoff : Off W p c) : Left H W (a + 1) o (some (o, a + 1)) := by
  obtain ⟨h1, L, hL1, hL2, hs⟩ := h
  refine ⟨?_, 0, rfl, rfl, Seg.zero _ _ _ _⟩
  rw [h1]
  constructor
  · rintro ⟨k, g1, g2, hm⟩
    refine ⟨k, ?_, g2, hm⟩
    apply Nat.lt_of_not_le
    intro hle
    obtain rfl : k = a := by omega
    rw [hs.iff, ← hL1, ← hL2] at hm
    exact hoff.not hc hm
  · rintro ⟨k, g1, g2, hm⟩
    exact ⟨k, by omega, g2, hm⟩
theorem Left.no {H W : List Nat} {i p c : Nat} (h : Left H W i p none) (hc : H[i]? = some c) (hoff : Off W p c) : mt H W = false := by
  cases hm : mt H W with
  | false => rfl
  | true => exact absurd (h.1 (mt_true.1 hm)) (hoff.not hc)
theorem Left.done {H W : List Nat} {i p : Nat} {s : Option (Nat × Nat)} (h : Left H W i p s) (hi : i = H.length) : mt H W = mt [] (W.drop p) := by
  have e : H.drop i = [] := List.drop_eq_nil_of_le (by omega)
  refine mt_eq ?_
  rw [mt_true, mt_true]
  cases s with
  | none =>
    have h' : Mt H W ↔ Mt (H.drop i) (W.drop p) := h
    rw [e] at h'
    exact h'
  | some x =>
    obtain ⟨o, a⟩ := x
    obtain ⟨h1, L, hL1, hL2, hs⟩ := h
    rw [h1]
    constructor
    · rintro ⟨k, g1, g2, hm⟩
      obtain ⟨g3, g4⟩ := hs.need g2 hm
      obtain rfl : k = a := by omega
      rw [← hL1, ← hL2, e] at g4
      exact g4
    · intro hm
      refine ⟨a, Nat.le_refl _, by omega, ?_⟩
      rw [hs.iff, ← hL1, ← hL2, e]
      exact hm
theorem mt_strip {W : List Nat} {p : Nat} (h : W[p]? = some 37) : mt [] (W.drop p) = mt [] (W.drop (p + 1)) := by
  rw [drop_nat h, mt_end]
  simp
theorem mt_stuck {W : List Nat} {p q : Nat} (h : W[p]? = some q) (hq : q ≠ 37) : mt [] (W.drop p) = false := by
  rw [drop_nat h, mt_end]
  simp [hq]
theorem mt_over {W : List Nat} {p : Nat} (h : W.length ≤ p) : mt [] (W.drop p) = true := by
  rw [List.drop_eq_nil_of_le h, mt_nil]
/-- A lone % matches all. -/
theorem mt_pct : ∀ t : List Nat, mt t [37] = true
  | [] => by rw [mt_end, mt_nil]; rfl
  | c :: t => by
    rw [mt_cons, if_pos rfl, mt_pct t]
    simp

end Go.Proofs.Ytbmaaofomgkllaa
