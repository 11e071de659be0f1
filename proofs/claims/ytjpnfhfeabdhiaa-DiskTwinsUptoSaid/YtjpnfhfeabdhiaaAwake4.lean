/- The fixed fact of layer 4's statements holds. -/
import Derived.Test.YtjpnfhfeabdhiaaDskV
import Derived.Test.YtjpnfhfeabdhiaaAwake
import Derived.Test.YtjpnfhfeabdhiaaFamD
namespace Go.Proofs.Ytjpnfhfeabdhiaa
open Go Go.RowKit Go.Maps

theorem RetLv.step {w0 w w' : World} {p : Nat} {bl : List Nat} {room u : Nat} {fs : List FE} {v : Value} {e : Ending} (h : RetLv w p bl room u fs v e w') (k : Below w0.heap.size w0 w) (hb : ∀ b ∈ bl, w0.heap.size ≤ b) :
    e = .returned v ∧ ∃ bl', Live w' p bl' room u fs ∧ Fr w w' bl ∧ (∀ b ∈ bl', b ∈ bl ∨ w.heap.size ≤ b) ∧ (∀ b ∈ bl', w0.heap.size ≤ b) ∧ Below w0.heap.size w0 w' := by
  obtain ⟨rfl, bl', h1, h2, h3⟩ := h
  have := k.size
  exact ⟨rfl, bl', h1, h2, h3, (fun b hb' => by rcases h3 b hb' with h | h; exact hb b h; omega), k.trans (h2.below hb k.size)⟩
theorem ownV_boxD (w : World) (t : TypeId) (base : Nat) (vs : List Value) (n : Nat) (hl : vs.length = n) (hn : n ≤ 1024) (hb : base ≤ w.heap.size) (cs : Array Value) (hc : cs = vs.toArray) (g : Nat) (hg : g = w.heap.size) : OwnV t (w.alloc (.cells cs t)) base (some ⟨g, 0, none⟩) n n vs := by
  subst hc hg
  refine ⟨by simp [hl], .inr ⟨w.heap.size, n, vs.toArray, rfl, hb, heap_alloc_new w _, Nat.le_refl _, by unfold maxLen; omega, by simp [hl], ?_⟩⟩
  simp only [Nat.mul_one]
  exact List.take_of_length_le (by simp [hl])
theorem putF_nil (f : FE) : putF f [] = [f] := rfl
theorem putF_one {f g : FE} (e : g.1 = f.1) : putF f [g] = [f] := by simp only [putF]; rw [if_pos e]
theorem crash_ex : (crP [2] [([97], [1, 2, 3, 4, 5], 2)]).1 = [([97], [1, 2, 3, 4], 4)] := by decide

set_option maxRecDepth 100000 in
set_option maxHeartbeats 4000000 in
theorem awake4_any (w : World) : Calls Try.prog 14 #[] w (RetT w true) := by
  have hM : 1099511627776 ≤ maxLen := by unfold maxLen; omega
  have HM := Lib.hid hM
  clear hM
  go_enter Try.func14, Try.ntmps14
  go_wp2_with fail
  refine (New_live 10 w (by omega)).mono ?_
  rintro e w1 ⟨p, bl, rfl, hL1, hbl1, k1⟩
  have s1 := k1.size
  have lt1 := hL1.lt
  go_wp2_with fail
  refine (append_live_new (w := w1.alloc _) [97] _ 2 2 [1, 2] (hL1.below ((Below.refl _ _).alloc (Nat.le_refl _) _)) (fun f hf => by cases hf) (Rd.lit _ _ 2 [1, 2] rfl _ rfl) (fun b hb hm => by injection hb with hb; have := lt1 b hm; simp only at hb; omega) (by omega) (by omega) (by omega) (by simp) (by simp)).mono ?_
  intro e w2 hr
  obtain ⟨rfl, bl2, hL2, hF2, hB2, hb2, k2⟩ := hr.step (w0 := w) (k1.alloc s1 _) hbl1
  rw [putF_nil] at hL2
  have s2 := k2.size
  clear hr hL1 lt1 hF2 hB2 k1
  go_wp2_with fail
  refine (sync_live (f := ([97], [1, 2], 0)) hL2 (by simp) (by have := HM.out; simp; omega)).mono ?_
  intro e w3 hr
  obtain ⟨rfl, bl3, hL3, hF3, hB3, hb3, k3⟩ := hr.step (w0 := w) k2 hb2
  rw [putF_one (f := (([97], [1, 2], 0).fst, ([97], [1, 2], 0).snd.fst, ([97], [1, 2], 0).snd.fst.length)) (g := ([97], [1, 2], 0)) rfl] at hL3
  replace hL3 : Live w3 p bl3 10 2 [([97], [1, 2], 2)] := hL3
  have s3 := k3.size
  have lt3 := hL3.lt
  clear hr hL2 hF3 hB3 k2
  go_wp2_with fail
  refine (append_live_old (w := w3.alloc _) (f := ([97], [1, 2], 2)) _ 3 3 [3, 4, 5] (hL3.below ((Below.refl _ _).alloc (Nat.le_refl _) _)) (by simp) (Rd.lit _ _ 3 [3, 4, 5] rfl _ rfl) (by omega) (by omega) (by omega) (by simp) (by have := HM.out; simp; omega)).mono ?_
  intro e w4 hr
  obtain ⟨rfl, bl4, hL4, hF4, hB4, hb4, k4⟩ := hr.step (w0 := w) (k3.alloc s3 _) hb3
  rw [putF_one (f := (([97], [1, 2], 2).fst, ([97], [1, 2], 2).snd.fst ++ [3, 4, 5], ([97], [1, 2], 2).snd.snd)) (g := ([97], [1, 2], 2)) rfl] at hL4
  replace hL4 : Live w4 p bl4 10 5 [([97], [1, 2, 3, 4, 5], 2)] := hL4
  have s4 := k4.size
  have lt4 := hL4.lt
  clear hr hL3 lt3 hF4 hB4 k3
  go_wp2_with fail
  refine (crash_live (w := w4.alloc _) _ 1 1 [2] (hL4.below ((Below.refl _ _).alloc (Nat.le_refl _) _)) rfl (by simp) (by simp) (by omega) (ownV_boxD w4 _ w4.heap.size (ivs [2]) 1 rfl (by omega) (Nat.le_refl _) _ rfl _ rfl).rd (fun _ b hb hm => by injection hb with hb; have := lt4 b hm; simp only at hb; omega) (by omega) (by intro z hz; simp at hz; subst hz; unfold I64; omega)).mono ?_
  intro e w5 hr
  obtain ⟨rfl, bl5, hL5, hF5, hB5, hb5, k5⟩ := hr.step (w0 := w) (k4.alloc s4 _) hb4
  have hL5 : Live w5 p bl5 10 (usedF (crP [2] [([97], [1, 2, 3, 4, 5], 2)]).1) (crP [2] [([97], [1, 2, 3, 4, 5], 2)]).1 := hL5
  rw [crash_ex] at hL5
  have s5 := k5.size
  clear hr hL4 lt4 hF5 hB5 k4
  go_wp2_with fail
  refine (read_live (f := ([97], [1, 2, 3, 4], 4)) hL5 (by simp) (by have := HM.out; simp; omega) (by simp)).mono ?_
  rintro e w6 ⟨A, n, c, rfl, ho, hb6⟩
  have k6 := k5.trans (hb6.mono s5)
  have s6 := k6.size
  have hn : n = 4 := by rw [← ho.len]; rfl
  subst hn
  go_wp2_with fail
  refine (Equal_any A _ 4 4 c 4 [1, 2, 3, 4] [1, 2, 3, 4] _ (ho.rd.alloc _) (Rd.lit _ _ 4 [1, 2, 3, 4] rfl _ rfl) (by have := HM.out; omega) (by have := HM.out; omega)).mono ?_
  rintro e w7 ⟨rfl, q, rfl⟩
  rw [eqB_self]
  go_wp2
  go_ret
  exact ⟨rfl, below_drewN (k6.alloc s6 _) _⟩
end Go.Proofs.Ytjpnfhfeabdhiaa
