/- What a crash leaves, as plain data. -/
import Derived.Test.YtjpnfhfeabdhiaaDskL
namespace Go.Proofs.Ytjpnfhfeabdhiaa
open Go Go.RowKit Go.Maps

def keepN (ks : List Int) (k t : Nat) : Nat := match ks[k % ks.length]? with | none => 0 | some z => z.toNat % (t + 1)
theorem keepN_le (ks : List Int) (k t : Nat) : keepN ks k t ≤ t := by
  unfold keepN
  split
  · omega
  · have := Nat.mod_lt (Int.toNat ‹Int›) (show 0 < t + 1 by omega); omega
theorem keepN_nil (k t : Nat) : keepN [] k t = 0 := by simp [keepN]
theorem keepN_at {ks : List Int} {k t : Nat} {z : Int} (h : ks[k % ks.length]? = some z) : keepN ks k t = z.toNat % (t + 1) := by rw [keepN, h]
def cutE (ks : List Int) (k : Nat) (f : FE) : FE :=
  (f.1, f.2.1.take (f.2.2 + keepN ks k (f.2.1.length - f.2.2)), f.2.2 + keepN ks k (f.2.1.length - f.2.2))
def crStep (ks : List Int) (acc : List FE × Nat) (f : FE) : List FE × Nat :=
  if f.2.1.length = f.2.2 then (acc.1 ++ [f], acc.2) else (acc.1 ++ [cutE ks acc.2 f], acc.2 + 1)
def crP (ks : List Int) (l : List FE) : List FE × Nat := l.foldl (crStep ks) ([], 0)
theorem crP_snoc (ks : List Int) (l : List FE) (f : FE) : crP ks (l ++ [f]) = crStep ks (crP ks l) f := by rw [crP, List.foldl_append]; rfl
theorem crP_take {ks : List Int} {l : List FE} {i : Nat} {f : FE} (h : l[i]? = some f) : crP ks (l.take (i + 1)) = crStep ks (crP ks (l.take i)) f := by
  rw [List.take_add_one, h]
  exact crP_snoc ks _ f
theorem crP_zero (ks : List Int) : crP ks [] = ([], 0) := rfl
theorem crStep_ok (ks : List Int) (acc : List FE × Nat) (f : FE) : (crStep ks acc f).2 ≤ acc.2 + 1 ∧ (crStep ks acc f).1.map (·.1) = acc.1.map (·.1) ++ [f.1] := by
  unfold crStep
  split
  · exact ⟨by simp only; omega, by rw [List.map_append]; rfl⟩
  · exact ⟨Nat.le_refl _, by rw [List.map_append]; rfl⟩
theorem crP_fold (ks : List Int) : ∀ (l : List FE) (acc : List FE × Nat), (l.foldl (crStep ks) acc).2 ≤ acc.2 + l.length ∧ (l.foldl (crStep ks) acc).1.map (·.1) = acc.1.map (·.1) ++ l.map (·.1)
  | [], acc => ⟨Nat.le_refl _, by simp⟩
  | f :: t, acc => by
    have h1 := crStep_ok ks acc f
    have h2 := crP_fold ks t (crStep ks acc f)
    rw [List.foldl_cons, List.length_cons]
    exact ⟨by omega, by rw [h2.2, h1.2, List.append_assoc]; rfl⟩
theorem crP_cnt (ks : List Int) (l : List FE) : (crP ks l).2 ≤ l.length := by
  have := (crP_fold ks l ([], 0)).1
  simpa [crP] using this
theorem crP_names (ks : List Int) (l : List FE) : (crP ks l).1.map (·.1) = l.map (·.1) := by
  have := (crP_fold ks l ([], 0)).2
  simpa [crP] using this
theorem usedF_app (a b : List FE) : usedF (a ++ b) = usedF a + usedF b := by simp [usedF]
theorem usedF_cons (f : FE) (t : List FE) : usedF (f :: t) = f.2.1.length + usedF t := by simp [usedF]
theorem usedF_nil : usedF [] = 0 := rfl
theorem usedF_mem {f : FE} : ∀ {l : List FE}, f ∈ l → f.2.1.length ≤ usedF l
  | [], h => by cases h
  | a :: t, h => by
    rw [usedF_cons]
    rcases List.mem_cons.1 h with rfl | h
    · omega
    · have := usedF_mem h; omega
theorem risingF_names {a b : List FE} (h : a.map (·.1) = b.map (·.1)) (hb : risingF b) : risingF a := by
  have h1 : (b.map (·.1)).Pairwise fun x y => x < y := by rw [List.pairwise_map]; exact hb
  rw [← h, List.pairwise_map] at h1
  exact h1
/-- A file put in where one of that name stands. -/
theorem putF_mid {f g : FE} (e : g.1 = f.1) : ∀ {L R : List FE}, risingF (L ++ f :: R) → putF g (L ++ f :: R) = L ++ g :: R
  | [], R, _ => by simp only [List.nil_append, putF]; rw [if_pos e.symm]
  | a :: L, R, h => by
    unfold risingF at h
    rw [List.cons_append, List.pairwise_cons] at h
    have h1 := h.1 f (by simp)
    simp only [List.cons_append, putF]
    rw [if_neg (by rw [e]; exact nlt_ne h1), if_neg (fun h2 => nlt_irrefl _ (nlt_trans h1 (by rw [← e]; exact h2))), putF_mid e h.2]
end Go.Proofs.Ytjpnfhfeabdhiaa
