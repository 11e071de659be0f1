/- The reference's disk in memory: a row of files of three cells, read; the place of a name. No condition. -/
import Derived.Test.YtjpnfhfeabdhiaaDskH
import Derived.OwnWalk
import Derived.Handy
namespace Go.Proofs.Ytjpnfhfeabdhiaa
open Go Go.RowKit Go.Maps
variable {G : Nat → Prop}

/-- 'This slice, if there is anything in it, lies in a block that is good.' -/
def Gd (G : Nat → Prop) (S : Option Addr) (n : Nat) : Prop := 0 < n → ∀ b, blk S = some b → G b
theorem Gd.zero {G : Nat → Prop} {S : Option Addr} : Gd G S 0 := fun h => absurd h (by omega)
/-- 'These three values are the file f; its bytes lie in good blocks.' -/
def FV (G : Nat → Prop) (w : World) (f : FE) (v0 v1 v2 : Value) : Prop :=
  v0 = .string (tx f.1) ∧ f.2.2 ≤ f.2.1.length ∧ ∃ S sn sc T tn tc, v1 = .slice S sn sc ∧ v2 = .slice T tn tc ∧ Rd w S sn (f.2.1.take f.2.2) ∧ Rd w T tn (f.2.1.drop f.2.2) ∧ sn ≤ sc ∧ tn ≤ tc ∧ Gd G S sn ∧ Gd G T tn
def FVs (G : Nat → Prop) (w : World) : List FE → List Value → Prop
  | [], vs => vs = []
  | f :: fs, vs => ∃ v0 v1 v2 r, vs = v0 :: v1 :: v2 :: r ∧ FV G w f v0 v1 v2 ∧ FVs G w fs r
/-- 'The slice at A reads as these values, and lies in a good block.' -/
def RdW (G : Nat → Prop) (w : World) (A : Option Addr) (m : Nat) (vs : List Value) : Prop := RdV w A m vs ∧ Gd G A m
theorem RdW.below {G : Nat → Prop} {w w' : World} {A : Option Addr} {m : Nat} {vs : List Value} (h : RdW G w A m vs) (hb : Below w.heap.size w w') : RdW G w' A m vs := ⟨h.1.below hb, h.2⟩
theorem RdW.pos {G : Nat → Prop} {w : World} {A : Option Addr} {m : Nat} {vs : List Value} (h : RdW G w A m vs) (hm : 0 < m) : ∃ b off, A = some ⟨b, off, none⟩ ∧ b < w.heap.size := h.1.pos hm
/-- 'The slice of n files at A reads as these.' -/
def RFs (G : Nat → Prop) (w : World) (A : Option Addr) (n : Nat) (fs : List FE) : Prop := fs.length = n ∧ ∃ vs, FVs G w fs vs ∧ RdW G w A (n * 3) vs

section
variable {w w' : World}
theorem FV.below {f : FE} {v0 v1 v2 : Value} (h : FV G w f v0 v1 v2) (hb : Below w.heap.size w w') : FV G w' f v0 v1 v2 := by
  obtain ⟨h1, h2, S, sn, sc, T, tn, tc, h3, h4, h5, h6, h7⟩ := h
  exact ⟨h1, h2, S, sn, sc, T, tn, tc, h3, h4, h5.below hb, h6.below hb, h7⟩
theorem FVs.below (hb : Below w.heap.size w w') : ∀ {fs : List FE} {vs : List Value}, FVs G w fs vs → FVs G w' fs vs
  | [], _, h => h
  | _ :: _, _, ⟨v0, v1, v2, r, e, h1, h2⟩ => ⟨v0, v1, v2, r, e, h1.below hb, FVs.below hb h2⟩
theorem FVs.len : ∀ {fs : List FE} {vs : List Value}, FVs G w fs vs → vs.length = fs.length * 3
  | [], _, h => by rw [h]; rfl
  | _ :: _, _, ⟨v0, v1, v2, r, e, h1, h2⟩ => by
    have := FVs.len h2
    rw [e]
    simp only [List.length_cons]
    omega
theorem FVs.app : ∀ {fs gs : List FE} {vs us : List Value}, FVs G w fs vs → FVs G w gs us → FVs G w (fs ++ gs) (vs ++ us)
  | [], _, _, _, h, h2 => by rw [h]; exact h2
  | _ :: _, _, _, _, ⟨v0, v1, v2, r, e, h1, h2⟩, h3 => ⟨v0, v1, v2, _, by rw [e]; rfl, h1, FVs.app h2 h3⟩
theorem FVs.one {f : FE} {v0 v1 v2 : Value} (h : FV G w f v0 v1 v2) : FVs G w [f] [v0, v1, v2] := ⟨v0, v1, v2, [], rfl, h, rfl⟩
theorem FVs.take : ∀ {fs : List FE} {vs : List Value} (i : Nat), FVs G w fs vs → FVs G w (fs.take i) (vs.take (i * 3))
  | [], _, i, h => by rw [h]; simp [FVs]
  | _ :: _, _, 0, _ => by simp [FVs]
  | _ :: _, _, i + 1, ⟨v0, v1, v2, r, e, h1, h2⟩ => ⟨v0, v1, v2, r.take (i * 3), by rw [e, show (i + 1) * 3 = i * 3 + 3 by omega]; rfl, h1, FVs.take i h2⟩
theorem FVs.drop : ∀ {fs : List FE} {vs : List Value} (i : Nat), FVs G w fs vs → FVs G w (fs.drop i) (vs.drop (i * 3))
  | [], _, i, h => by rw [h]; simp [FVs]
  | _ :: _, _, 0, h => by simpa using h
  | _ :: _, _, i + 1, ⟨v0, v1, v2, r, e, h1, h2⟩ => by
    have := FVs.drop i h2
    rw [e, show (i + 1) * 3 = i * 3 + 3 by omega]
    exact this
theorem FVs.at_ : ∀ {fs : List FE} {vs : List Value} (i : Nat) {f : FE}, FVs G w fs vs → fs[i]? = some f → ∃ v0 v1 v2, vs[i * 3]? = some v0 ∧ vs[i * 3 + 1]? = some v1 ∧ vs[i * 3 + 2]? = some v2 ∧ FV G w f v0 v1 v2
  | [], _, i, f, _, h => by simp at h
  | g :: _, _, 0, f, ⟨v0, v1, v2, r, e, h1, h2⟩, h => by
    simp only [List.getElem?_cons_zero, Option.some.injEq] at h
    subst h e
    exact ⟨v0, v1, v2, rfl, rfl, rfl, h1⟩
  | _ :: _, _, i + 1, f, ⟨v0, v1, v2, r, e, h1, h2⟩, h => by
    rw [List.getElem?_cons_succ] at h
    obtain ⟨a, b, c, e0, e1, e2, e3⟩ := FVs.at_ i h2 h
    subst e
    refine ⟨a, b, c, ?_, ?_, ?_, e3⟩
    · rw [show (i + 1) * 3 = i * 3 + 3 by omega]; exact e0
    · rw [show (i + 1) * 3 + 1 = i * 3 + 1 + 3 by omega]; exact e1
    · rw [show (i + 1) * 3 + 2 = i * 3 + 2 + 3 by omega]; exact e2
theorem FVs.cells : ∀ {fs : List FE} {vs : List Value}, FVs G w fs vs → ∀ u ∈ vs, u.oneCell' = true
  | [], _, h, u, hu => by rw [h] at hu; cases hu
  | _ :: _, _, ⟨v0, v1, v2, r, e, ⟨e0, _, S, sn, sc, T, tn, tc, e1, e2, _⟩, h2⟩, u, hu => by
    subst e e0 e1 e2
    simp only [List.mem_cons] at hu
    rcases hu with rfl | rfl | rfl | hu
    · rfl
    · rfl
    · rfl
    · exact FVs.cells h2 u hu
theorem RFs.below {A : Option Addr} {n : Nat} {fs : List FE} (h : RFs G w A n fs) (hb : Below w.heap.size w w') : RFs G w' A n fs := by
  obtain ⟨h1, vs, h2, h3⟩ := h
  exact ⟨h1, vs, h2.below hb, h3.below hb⟩
theorem RFs.drewN {A : Option Addr} {n : Nat} {fs : List FE} (h : RFs G w A n fs) (q : Nat) : RFs G (w.drewN q) A n fs := h.below (below_drewN (Below.refl _ _) q)
theorem RFs.nil (w : World) (A : Option Addr) : RFs G w A 0 [] := ⟨rfl, [], rfl, RdV.nil _ _, fun h => absurd h (by omega)⟩
theorem RFs.len {A : Option Addr} {n : Nat} {fs : List FE} (h : RFs G w A n fs) : fs.length = n := h.1
/-- A file's cells. -/
theorem RFs.at_ {A : Option Addr} {n : Nat} {fs : List FE} (h : RFs G w A n fs) (k : Nat) (hk : k < n) :
    ∃ b off f S sn sc T tn tc, A = some ⟨b, off, none⟩ ∧ b < w.heap.size ∧ fs[k]? = some f ∧ f.2.2 ≤ f.2.1.length ∧ w.cell? ⟨b, off + k * 3, none⟩ = some (.string (tx f.1)) ∧ w.cell? ⟨b, off + (k * 3 + 1), none⟩ = some (.slice S sn sc) ∧
      w.cell? ⟨b, off + (k * 3 + 2), none⟩ = some (.slice T tn tc) ∧ Rd w S sn (f.2.1.take f.2.2) ∧ Rd w T tn (f.2.1.drop f.2.2) ∧ sn ≤ sc ∧ tn ≤ tc ∧ Gd G S sn ∧ Gd G T tn := by
  obtain ⟨h1, vs, h2, h3⟩ := h
  obtain ⟨b, off, rfl, hb, hc⟩ := h3.1.2 (by omega)
  obtain ⟨f, hf⟩ : ∃ f, fs[k]? = some f := ⟨_, List.getElem?_eq_getElem (by omega)⟩
  obtain ⟨v0, v1, v2, e0, e1, e2, g0, g1, S, sn, sc, T, tn, tc, g2, g3, g4, g5, g6, g7⟩ := h2.at_ k hf
  subst g0 g2 g3
  exact ⟨b, off, f, S, sn, sc, T, tn, tc, rfl, hb, hf, g1, hc _ _ e0, hc _ _ e1, hc _ _ e2, g4, g5, g6, g7⟩
end

/-- The place of a name. -/
def posF (x : List UInt8) : List FE → Nat
  | [] => 0
  | f :: t => if f.1 = x then 0 else if x < f.1 then 0 else posF x t + 1
theorem posF_le (x : List UInt8) : ∀ fs : List FE, posF x fs ≤ fs.length
  | [] => Nat.le_refl _
  | f :: t => by
    have := posF_le x t
    rw [posF, List.length_cons]
    split
    · omega
    · split <;> omega
def hasF (x : List UInt8) (fs : List FE) : Bool := (getF x fs).isSome
theorem getF_cons (x : List UInt8) (f : FE) (t : List FE) : getF x (f :: t) = if f.1 = x then some f.2 else getF x t := by
  by_cases h : f.1 = x
  · have e : (f :: t).find? (fun g => g.1 == x) = some f := by rw [List.find?_cons, show (f.1 == x) = true from by simpa using h]
    rw [if_pos h, getF, e]
    rfl
  · have e : (f :: t).find? (fun g => g.1 == x) = t.find? (fun g => g.1 == x) := by rw [List.find?_cons, show (f.1 == x) = false from by simpa using h]
    rw [if_neg h, getF, getF, e]
theorem getF_gt {x : List UInt8} {fs : List FE} (h : ∀ f ∈ fs, x < f.1) : getF x fs = none := getF_none_of (fun f hf e => nlt_ne (h f hf) e.symm)
theorem pos_spec {x : List UInt8} : ∀ {fs : List FE}, risingF fs → (∀ i f, i < posF x fs → fs[i]? = some f → f.1 ≠ x ∧ ¬ x < f.1) ∧
    (∀ f, fs[posF x fs]? = some f → (f.1 = x ∧ getF x fs = some f.2) ∨ (f.1 ≠ x ∧ x < f.1 ∧ getF x fs = none)) ∧ (fs[posF x fs]? = none → getF x fs = none)
  | [], _ => ⟨fun i f h => by simp [posF] at h, fun f h => by simp at h, fun _ => rfl⟩
  | g :: t, hu => by
    obtain ⟨h1, h2, h3⟩ := pos_spec (x := x) (risingF_tail hu)
    by_cases e : g.1 = x
    · have ep : posF x (g :: t) = 0 := by rw [posF, if_pos e]
      rw [ep]
      exact ⟨fun i f h => by omega, fun f h => .inl (by simp at h; subst h; exact ⟨e, by rw [getF_cons, if_pos e]⟩), fun h => by simp at h⟩
    · by_cases l : x < g.1
      · have ep : posF x (g :: t) = 0 := by rw [posF, if_neg e, if_pos l]
        have eg : getF x (g :: t) = none := by
          rw [getF_cons, if_neg e]
          exact getF_gt (fun f hf => nlt_trans l (risingF_head hu f hf))
        rw [ep]
        exact ⟨fun i f h => by omega, fun f h => .inr (by simp at h; subst h; exact ⟨e, l, eg⟩), fun h => by simp at h⟩
      · have ep : posF x (g :: t) = posF x t + 1 := by rw [posF, if_neg e, if_neg l]
        rw [ep, getF_cons, if_neg e]
        refine ⟨fun i f h hf => ?_, fun f hf => h2 f (by simpa using hf), fun hf => h3 (by simpa using hf)⟩
        cases i with
        | zero => simp at hf; subst hf; exact ⟨e, l⟩
        | succ i => exact h1 i f (by omega) (by simpa using hf)
theorem putF_pos (f : FE) : ∀ {fs : List FE}, risingF fs → putF f fs = fs.take (posF f.1 fs) ++ f :: fs.drop (if hasF f.1 fs then posF f.1 fs + 1 else posF f.1 fs)
  | [], _ => rfl
  | g :: t, hu => by
    by_cases e : g.1 = f.1
    · have ep : posF f.1 (g :: t) = 0 := by rw [posF, if_pos e]
      have eh : hasF f.1 (g :: t) = true := by rw [hasF, getF_cons, if_pos e]; rfl
      rw [putF_cons_eq e, ep, eh]
      simp
    · by_cases l : f.1 < g.1
      · have ep : posF f.1 (g :: t) = 0 := by rw [posF, if_neg e, if_pos l]
        have eh : hasF f.1 (g :: t) = false := by
          rw [hasF, getF_cons, if_neg e, getF_gt (fun q hq => nlt_trans l (risingF_head hu q hq))]
          rfl
        rw [putF_cons_lt e l, ep, eh]
        simp
      · have ep : posF f.1 (g :: t) = posF f.1 t + 1 := by rw [posF, if_neg e, if_neg l]
        have eh : hasF f.1 (g :: t) = hasF f.1 t := by rw [hasF, getF_cons, if_neg e]; rfl
        have ih := putF_pos f (risingF_tail hu)
        rw [putF_cons_gt e l, ep, eh, ih, List.take_succ_cons, List.cons_append]
        congr 2
        by_cases hh : hasF f.1 t = true
        · rw [if_pos hh, if_pos hh, List.drop_succ_cons]
        · rw [if_neg hh, if_neg hh, List.drop_succ_cons]
theorem delF_pos (x : List UInt8) : ∀ {fs : List FE}, risingF fs → hasF x fs = true → delF x fs = fs.take (posF x fs) ++ fs.drop (posF x fs + 1)
  | [], _, h => by simp [hasF, getF] at h
  | g :: t, hu, h => by
    by_cases e : g.1 = x
    · have ep : posF x (g :: t) = 0 := by rw [posF, if_pos e]
      have ed : delF x (g :: t) = t := by
        unfold delF
        rw [List.filter_cons_of_neg (by simpa using e)]
        exact delF_no (fun q hq e2 => nlt_ne (risingF_head hu q hq) (by rw [e, e2]))
      rw [ed, ep]
      simp
    · have h2 : hasF x t = true := by rw [hasF, getF_cons, if_neg e] at h; exact h
      have l : ¬ x < g.1 := fun l => by
        rw [hasF, getF_gt (fun q hq => nlt_trans l (risingF_head hu q hq))] at h2
        cases h2
      have ep : posF x (g :: t) = posF x t + 1 := by rw [posF, if_neg e, if_neg l]
      have ed : delF x (g :: t) = g :: delF x t := by
        unfold delF
        rw [List.filter_cons_of_pos (by simpa using e)]
      rw [ed, ep, delF_pos x (risingF_tail hu) h2, List.take_succ_cons, List.drop_succ_cons]
      rfl
end Go.Proofs.Ytjpnfhfeabdhiaa
