/- Lock: ranges in a row, read; what clashes. No condition but sizes. -/
import Derived.Test.YtmpdenpopokigaaNext
import Derived.Test.YtmpdenpopokigaaInter
import Derived.Test.YtmpdenpopokigaaEnD
import Derived.Test.YtmpdenpopokigaaCmp
import Derived.Deep.RegionLaw
namespace Go.Proofs.Ytmpdenpopokigaa
open Go Go.RowKit

/-- A range as plain data. -/
structure Rg where
  lo : List UInt8
  hi : List UInt8
  ex : Bool
deriving DecidableEq
/-- 'These three values are the range r.' -/
def GrV (w : World) (r : Rg) (v0 v1 v2 : Value) : Prop := v2 = .bool r.ex ∧ ElB w v0 r.lo ∧ ElB w v1 r.hi
def GrVs (w : World) : List Rg → List Value → Prop
  | [], vs => vs = []
  | r :: rs, vs => ∃ v0 v1 v2 t, vs = v0 :: v1 :: v2 :: t ∧ GrV w r v0 v1 v2 ∧ GrVs w rs t
/-- 'The slice of n ranges at A reads as these.' -/
def RGr (w : World) (A : Option Addr) (n : Nat) (rs : List Rg) : Prop := rs.length = n ∧ ∃ vs, GrVs w rs vs ∧ RdV w A (n * 3) vs
section
variable {w w' : World}
theorem GrV.below {r : Rg} {v0 v1 v2 : Value} (h : GrV w r v0 v1 v2) (hb : Below w.heap.size w w') : GrV w' r v0 v1 v2 := ⟨h.1, h.2.1.below hb, h.2.2.below hb⟩
theorem GrV.parts {r : Rg} {v0 v1 v2 : Value} (h : GrV w r v0 v1 v2) : ∃ K kn kc T tn tc, v0 = .slice K kn kc ∧ v1 = .slice T tn tc ∧ v2 = .bool r.ex ∧ Rd w K kn r.lo ∧ Rd w T tn r.hi ∧ kn ≤ kc ∧ tn ≤ tc ∧ (K = none → kc = 0) ∧ (T = none → tc = 0) := by
  obtain ⟨h1, ⟨K, kn, kc, e1, r1, c1, d1⟩, T, tn, tc, e2, r2, c2, d2⟩ := h
  exact ⟨K, kn, kc, T, tn, tc, e1, e2, h1, r1, r2, c1, c2, d1, d2⟩
theorem GrV.cells {r : Rg} {v0 v1 v2 : Value} (h : GrV w r v0 v1 v2) : ∀ u ∈ [v0, v1, v2], u.oneCell' = true := by
  obtain ⟨K, kn, kc, T, tn, tc, rfl, rfl, rfl, _⟩ := h.parts
  intro u hu
  simp only [List.mem_cons, List.not_mem_nil, or_false] at hu
  rcases hu with rfl | rfl | rfl <;> rfl
theorem GrVs.below (hb : Below w.heap.size w w') : ∀ {rs : List Rg} {vs : List Value}, GrVs w rs vs → GrVs w' rs vs
  | [], _, h => h
  | _ :: _, _, ⟨v0, v1, v2, t, e, h1, h2⟩ => ⟨v0, v1, v2, t, e, h1.below hb, GrVs.below hb h2⟩
theorem GrVs.app : ∀ {rs gs : List Rg} {vs us : List Value}, GrVs w rs vs → GrVs w gs us → GrVs w (rs ++ gs) (vs ++ us)
  | [], _, _, _, h, h2 => by rw [h]; exact h2
  | _ :: _, _, _, _, ⟨v0, v1, v2, t, e, h1, h2⟩, h3 => ⟨v0, v1, v2, _, by rw [e]; rfl, h1, GrVs.app h2 h3⟩
theorem GrVs.one {r : Rg} {v0 v1 v2 : Value} (h : GrV w r v0 v1 v2) : GrVs w [r] [v0, v1, v2] := ⟨v0, v1, v2, [], rfl, h, rfl⟩
theorem GrVs.at_ : ∀ {rs : List Rg} {vs : List Value} (i : Nat) {r : Rg}, GrVs w rs vs → rs[i]? = some r → ∃ v0 v1 v2, vs[i * 3]? = some v0 ∧ vs[i * 3 + 1]? = some v1 ∧ vs[i * 3 + 2]? = some v2 ∧ GrV w r v0 v1 v2
  | [], _, i, r, _, h => by simp at h
  | g :: _, _, 0, r, ⟨v0, v1, v2, t, q, h1, h2⟩, h => by
    simp only [List.getElem?_cons_zero, Option.some.injEq] at h
    subst h q
    exact ⟨v0, v1, v2, rfl, rfl, rfl, h1⟩
  | _ :: _, _, i + 1, r, ⟨v0, v1, v2, t, q, h1, h2⟩, h => by
    rw [List.getElem?_cons_succ] at h
    obtain ⟨a, b, c, e0, e1, e2, e4⟩ := GrVs.at_ i h2 h
    subst q
    refine ⟨a, b, c, ?_, ?_, ?_, e4⟩
    · rw [show (i + 1) * 3 = i * 3 + 3 by omega]; exact e0
    · rw [show (i + 1) * 3 + 1 = i * 3 + 1 + 3 by omega]; exact e1
    · rw [show (i + 1) * 3 + 2 = i * 3 + 2 + 3 by omega]; exact e2
theorem GrVs.cells : ∀ {rs : List Rg} {vs : List Value}, GrVs w rs vs → ∀ u ∈ vs, u.oneCell' = true
  | [], _, h, u, hu => by rw [h] at hu; cases hu
  | _ :: _, _, ⟨v0, v1, v2, t, e, h1, h2⟩, u, hu => by
    subst e
    have hc := h1.cells
    simp only [List.mem_cons] at hu
    rcases hu with rfl | rfl | rfl | hu
    · exact hc _ (by simp)
    · exact hc _ (by simp)
    · exact hc _ (by simp)
    · exact GrVs.cells h2 u hu
theorem RGr.below {A : Option Addr} {n : Nat} {rs : List Rg} (h : RGr w A n rs) (hb : Below w.heap.size w w') : RGr w' A n rs := by
  obtain ⟨h1, vs, h2, h3⟩ := h
  exact ⟨h1, vs, h2.below hb, h3.below hb⟩
theorem RGr.nil (w : World) (A : Option Addr) : RGr w A 0 [] := ⟨rfl, [], rfl, RdV.nil _ _⟩
theorem RGr.len {A : Option Addr} {n : Nat} {rs : List Rg} (h : RGr w A n rs) : rs.length = n := h.1
theorem RGr.mk {A : Option Addr} {n : Nat} {rs : List Rg} {vs : List Value} (h : GrVs w rs vs) (hr : RdV w A (n * 3) vs) (hn : rs.length = n) : RGr w A n rs := ⟨hn, vs, h, hr⟩
theorem RGr.pos {A : Option Addr} {n : Nat} {rs : List Rg} (h : RGr w A n rs) (hn : 0 < n) : ∃ b off, A = some ⟨b, off, none⟩ ∧ b < w.heap.size := by
  obtain ⟨h1, vs, h2, h3⟩ := h
  exact h3.pos (by omega)
/-- A range's cells. -/
theorem RGr.at_ {b off n : Nat} {rs : List Rg} (h : RGr w (some ⟨b, off, none⟩) n rs) (k : Nat) (hk : k < n) :
    ∃ r v0 v1 v2, rs[k]? = some r ∧ w.cell? ⟨b, off + k * 3, none⟩ = some v0 ∧ w.cell? ⟨b, off + k * 3 + 1, none⟩ = some v1 ∧ w.cell? ⟨b, off + k * 3 + 2, none⟩ = some v2 ∧ GrV w r v0 v1 v2 := by
  obtain ⟨h1, vs, h2, h3⟩ := h
  obtain ⟨b', off', e, hb, hc⟩ := h3.2 (by omega)
  injection e with e
  injection e with e1 e2
  subst e1 e2
  obtain ⟨x, hx⟩ : ∃ x, rs[k]? = some x := ⟨_, List.getElem?_eq_getElem (by omega)⟩
  obtain ⟨v0, v1, v2, e0, e1, e2, g0⟩ := h2.at_ k hx
  refine ⟨x, v0, v1, v2, hx, hc _ _ e0, ?_, ?_, g0⟩
  · rw [Nat.add_assoc]; exact hc _ _ e1
  · rw [Nat.add_assoc]; exact hc _ _ e2
end

/-- Is a key below a range's end? -/
def belB (key hi : List UInt8) : Bool := decide (hi.length = 0) || decide (cmpB key hi < 0)
def emptyR (r : Rg) : Bool := !belB r.lo r.hi
def longR (r : Rg) : Bool := decide (1024 < r.lo.length) || decide (1024 < r.hi.length)
def clash1 (a b : Rg) : Bool := (a.ex || b.ex) && belB a.lo b.hi && belB b.lo a.hi
def clashR (ps qs : List Rg) : Bool := ps.any fun a => qs.any fun b => clash1 a b
/-- The error of ranges that are asked for. -/
def checkR (rs : List Rg) : Int := if 64 < rs.length ∨ rs.any longR = true then 2 else if rs.any emptyR = true then 3 else 0
section
variable {w : World}
set_option maxRecDepth 100000 in
set_option maxHeartbeats 4000000 in
theorem below_any {K T : Option Addr} {kn kc tn tc : Nat} {xs ys : List UInt8} (hx : Rd w K kn xs) (hy : Rd w T tn ys) : Calls Try.prog 182 #[.slice K kn kc, .slice T tn tc] w (fun e w' => e = .returned (.bool (belB xs ys)) ∧ w = w') := by
  obtain ⟨z, hz⟩ : ∃ z, cmpB xs ys = z := ⟨_, rfl⟩
  have HC := Lib.hid (Cmp_is K T kn tn kc tc xs ys z hz w hx hy)
  have hl := hy.len
  by_cases h0 : tn = 0
  · have HF : Hid (belB xs ys = true) := Lib.hid (by unfold belB; simp [hl, h0])
    subst h0
    clear hx hy hz hl
    go_enter Try.func182, Try.ntmps182
    go_wp2_with fail
    go_ret
    exact ⟨by rw [HF.out]; rfl, rfl⟩
  · have t0 : ((tn : Int) == 0) = false := by rw [beq_eq_false_iff_ne]; omega
    by_cases h1 : z < 0
    · have t1 : decide (z < 0) = true := by simpa using h1
      have HF : Hid (belB xs ys = true) := Lib.hid (by unfold belB; rw [hz]; simp [h1])
      clear hx hy hz hl
      go_enter Try.func182, Try.ntmps182
      go_wp2_with fail
      with_reducible refine HC.out.mono ?_
      rintro e w1 ⟨rfl, rfl⟩
      go_wp2_with fail
      go_ret
      exact ⟨by rw [HF.out]; rfl, rfl⟩
    · have t1 : decide (z < 0) = false := by simpa using h1
      have HF : Hid (belB xs ys = false) := Lib.hid (by unfold belB; rw [hz]; simp [h1, hl, h0])
      clear hx hy hz hl
      go_enter Try.func182, Try.ntmps182
      go_wp2_with fail
      with_reducible refine HC.out.mono ?_
      rintro e w1 ⟨rfl, rfl⟩
      go_wp2_with fail
      go_ret
      exact ⟨by rw [HF.out]; rfl, rfl⟩
set_option maxRecDepth 100000 in
set_option maxHeartbeats 4000000 in
theorem empty_any {r : Rg} {v0 v1 v2 : Value} (h : GrV w r v0 v1 v2) : Calls Try.prog 146 #[.agg #[v0, v1, v2]] w (RetT w (emptyR r)) := by
  obtain ⟨K, kn, kc, T, tn, tc, rfl, rfl, rfl, r1, r2, _⟩ := h.parts
  obtain ⟨W, hW⟩ : ∃ W, W = w.alloc (.cells #[.slice K kn kc, .slice T tn tc, .bool r.ex] 97) := ⟨_, rfl⟩
  have bW : Below w.heap.size w W := by rw [hW]; exact (Below.refl _ _).alloc (Nat.le_refl _) _
  have zW : Cl W w.heap.size #[.slice K kn kc, .slice T tn tc, .bool r.ex] 97 := by rw [hW]; exact Cl.new _ _ _
  obtain ⟨c0, c1, c2, _⟩ := zW.c3
  obtain ⟨b, hb⟩ : ∃ b, b = belB r.lo r.hi := ⟨_, rfl⟩
  have HBL : Hid (Calls Try.prog 182 #[.slice K kn kc, .slice T tn tc] W (fun e w' => e = .returned (.bool b) ∧ W = w')) := Lib.hid (by rw [hb]; exact below_any (r1.below bW) (r2.below bW))
  have HB := Lib.hid bW
  have HW := Lib.hid hW
  have HE : Hid (emptyR r = !b) := Lib.hid (by rw [hb]; rfl)
  clear h r1 r2 bW zW hW hb
  go_enter Try.func146, Try.ntmps146
  go_upto_region 1 with (fail)
  rw [← HW.out]
  go_wp2_with fail
  with_reducible refine HBL.out.mono ?_
  rintro e w1 ⟨rfl, rfl⟩
  cases b <;>
  · go_wp2_with fail
    go_ret
    exact ⟨by rw [HE.out]; rfl, HB.out⟩
set_option maxRecDepth 100000 in
set_option maxHeartbeats 4000000 in
theorem long_any {r : Rg} {v0 v1 v2 : Value} (h : GrV w r v0 v1 v2) : Calls Try.prog 144 #[.agg #[v0, v1, v2]] w (RetT w (longR r)) := by
  obtain ⟨K, kn, kc, T, tn, tc, rfl, rfl, rfl, r1, r2, _⟩ := h.parts
  obtain ⟨W, hW⟩ : ∃ W, W = w.alloc (.cells #[.slice K kn kc, .slice T tn tc, .bool r.ex] 97) := ⟨_, rfl⟩
  have bW : Below w.heap.size w W := by rw [hW]; exact (Below.refl _ _).alloc (Nat.le_refl _) _
  have zW : Cl W w.heap.size #[.slice K kn kc, .slice T tn tc, .bool r.ex] 97 := by rw [hW]; exact Cl.new _ _ _
  obtain ⟨c0, c1, c2, _⟩ := zW.c3
  have HB := Lib.hid bW
  have HW := Lib.hid hW
  have hl1 := r1.len
  have hl2 := r2.len
  by_cases h1 : 1024 < kn
  · have t1 : decide ((1024 : Int) < (kn : Int)) = true := by simp; omega
    have HE : Hid (longR r = true) := Lib.hid (by unfold longR; simp; omega)
    clear h r1 r2 bW zW hW hl1 hl2 h1
    go_enter Try.func144, Try.ntmps144
    go_upto_region 1 with (fail)
    rw [← HW.out]
    go_wp2_with fail
    go_ret
    exact ⟨by rw [HE.out]; rfl, HB.out⟩
  · have t1 : decide ((1024 : Int) < (kn : Int)) = false := by simp; omega
    by_cases h2 : 1024 < tn
    · have t2 : decide ((1024 : Int) < (tn : Int)) = true := by simp; omega
      have HE : Hid (longR r = true) := Lib.hid (by unfold longR; simp; omega)
      clear h r1 r2 bW zW hW hl1 hl2 h1 h2
      go_enter Try.func144, Try.ntmps144
      go_upto_region 1 with (fail)
      rw [← HW.out]
      go_wp2_with fail
      go_ret
      exact ⟨by rw [HE.out]; rfl, HB.out⟩
    · have t2 : decide ((1024 : Int) < (tn : Int)) = false := by simp; omega
      have HE : Hid (longR r = false) := Lib.hid (by unfold longR; simp; omega)
      clear h r1 r2 bW zW hW hl1 hl2 h1 h2
      go_enter Try.func144, Try.ntmps144
      go_upto_region 1 with (fail)
      rw [← HW.out]
      go_wp2_with fail
      go_ret
      exact ⟨by rw [HE.out]; rfl, HB.out⟩
end
end Go.Proofs.Ytmpdenpopokigaa
