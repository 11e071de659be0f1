/- The disk as plain data, whatever it is armed with: what each call makes of it. No condition. -/
import Derived.Test.YtjpnfhfeabdhiaaDskV
namespace Go.Proofs.Ytjpnfhfeabdhiaa
open Go Go.RowKit Go.Maps

/-- The file of a name: its bytes, and how many are safe. -/
def getF (x : List UInt8) (fs : List FE) : Option (List UInt8 × Nat) := (fs.find? fun f => f.1 == x).map (·.2)
theorem getF_mem {x : List UInt8} {fs : List FE} {g : List UInt8 × Nat} (h : getF x fs = some g) : (x, g) ∈ fs := by
  unfold getF at h
  cases e : fs.find? (fun f => f.1 == x) with
  | none => rw [e] at h; cases h
  | some f =>
    rw [e] at h
    injection h with h
    have h1 := List.mem_of_find?_eq_some e
    have h2 := List.find?_some e
    simp only [beq_iff_eq] at h2
    rw [← h, ← h2]
    exact h1
theorem getF_no {x : List UInt8} {fs : List FE} (h : getF x fs = none) : ∀ f ∈ fs, f.1 ≠ x := fun f hf e => by
  unfold getF at h
  rw [Option.map_eq_none_iff, List.find?_eq_none] at h
  exact h f hf (by simpa using e)
theorem up_nameF {fs : List FE} (hu : risingF fs) {a b : FE} (ha : a ∈ fs) (hb : b ∈ fs) (e : a.1 = b.1) : a = b := by
  unfold risingF at hu
  induction fs with
  | nil => cases ha
  | cons q t ih =>
    rw [List.pairwise_cons] at hu
    rcases List.mem_cons.1 ha with rfl | ha2
    · rcases List.mem_cons.1 hb with rfl | hb2
      · rfl
      · exact absurd e (nlt_ne (hu.1 b hb2))
    · rcases List.mem_cons.1 hb with rfl | hb2
      · exact absurd e.symm (nlt_ne (hu.1 a ha2))
      · exact ih hu.2 ha2 hb2
theorem getF_of {fs : List FE} (hu : risingF fs) {f : FE} (hf : f ∈ fs) : getF f.1 fs = some f.2 := by
  cases h : getF f.1 fs with
  | none => exact absurd rfl (getF_no h f hf)
  | some g =>
    have := up_nameF hu (getF_mem h) hf rfl
    rw [← this]
theorem getF_none_of {x : List UInt8} {fs : List FE} (h : ∀ f ∈ fs, f.1 ≠ x) : getF x fs = none := by
  cases hg : getF x fs with
  | none => rfl
  | some g => exact absurd rfl (h _ (getF_mem hg))
theorem risingF_tail {a : FE} {t : List FE} (h : risingF (a :: t)) : risingF t := by
  unfold risingF at h ⊢
  rw [List.pairwise_cons] at h
  exact h.2
theorem risingF_head {a : FE} {t : List FE} (h : risingF (a :: t)) : ∀ f ∈ t, a.1 < f.1 := by
  unfold risingF at h
  rw [List.pairwise_cons] at h
  exact h.1
theorem putF_cons_eq {f q : FE} {t : List FE} (h : q.1 = f.1) : putF f (q :: t) = f :: t := by rw [putF, if_pos h]
theorem putF_cons_lt {f q : FE} {t : List FE} (h : q.1 ≠ f.1) (h2 : f.1 < q.1) : putF f (q :: t) = f :: q :: t := by rw [putF, if_neg h, if_pos h2]
theorem putF_cons_gt {f q : FE} {t : List FE} (h : q.1 ≠ f.1) (h2 : ¬ f.1 < q.1) : putF f (q :: t) = q :: putF f t := by rw [putF, if_neg h, if_neg h2]
theorem usedF_put_new {f : FE} : ∀ {fs : List FE}, (∀ q ∈ fs, q.1 ≠ f.1) → usedF (putF f fs) = usedF fs + f.2.1.length
  | [], _ => by rw [putF, usedF_cons, usedF_nil]; omega
  | q :: t, h => by
    have h0 := h q (List.mem_cons_self ..)
    by_cases h1 : f.1 < q.1
    · rw [putF_cons_lt h0 h1, usedF_cons]; omega
    · rw [putF_cons_gt h0 h1, usedF_cons, usedF_cons, usedF_put_new (fun q hq => h q (List.mem_cons_of_mem _ hq))]; omega
theorem usedF_put_old {f g : FE} (e : g.1 = f.1) : ∀ {fs : List FE}, risingF fs → f ∈ fs → usedF (putF g fs) + f.2.1.length = usedF fs + g.2.1.length
  | [], _, h => by cases h
  | q :: t, hu, h => by
    rcases List.mem_cons.1 h with rfl | h
    · rw [putF_cons_eq e.symm, usedF_cons, usedF_cons]; omega
    · have h1 := risingF_head hu f h
      rw [putF_cons_gt (by rw [e]; exact nlt_ne h1) (fun h2 => nlt_irrefl _ (nlt_trans h1 (by rw [← e]; exact h2))), usedF_cons, usedF_cons]
      have := usedF_put_old e (risingF_tail hu) h
      omega
theorem delF_up {x : List UInt8} {fs : List FE} (h : risingF fs) : risingF (delF x fs) := List.Pairwise.filter _ h
theorem mem_delF {x : List UInt8} {fs : List FE} {q : FE} : q ∈ delF x fs ↔ q ∈ fs ∧ q.1 ≠ x := by simp [delF]
theorem delF_no {x : List UInt8} {fs : List FE} (h : ∀ f ∈ fs, f.1 ≠ x) : delF x fs = fs := by
  unfold delF
  rw [List.filter_eq_self]
  intro f hf
  simpa using h f hf
theorem usedF_del {f : FE} : ∀ {fs : List FE}, risingF fs → f ∈ fs → usedF (delF f.1 fs) + f.2.1.length = usedF fs
  | [], _, h => by cases h
  | q :: t, hu, h => by
    rcases List.mem_cons.1 h with rfl | h
    · have e : delF f.1 (f :: t) = t := by
        unfold delF
        rw [List.filter_cons_of_neg (by simp)]
        exact delF_no (fun q hq e => nlt_ne (risingF_head hu q hq) e.symm)
      rw [e, usedF_cons]; omega
    · have h1 := nlt_ne (risingF_head hu f h)
      have e : delF f.1 (q :: t) = q :: delF f.1 t := by
        unfold delF
        rw [List.filter_cons_of_pos (by simpa using h1)]
      rw [e, usedF_cons, usedF_cons]
      have := usedF_del (risingF_tail hu) h
      omega
/-- The length of a name's file. -/
def lenF (x : List UInt8) (fs : List FE) : Nat := match getF x fs with | none => 0 | some g => g.1.length
theorem lenF_some {x : List UInt8} {fs : List FE} {g : List UInt8 × Nat} (h : getF x fs = some g) : lenF x fs = g.1.length := by rw [lenF, h]
theorem lenF_none {x : List UInt8} {fs : List FE} (h : getF x fs = none) : lenF x fs = 0 := by rw [lenF, h]
theorem usedF_delx (x : List UInt8) {fs : List FE} (hu : risingF fs) : usedF (delF x fs) + lenF x fs = usedF fs := by
  cases h : getF x fs with
  | none => rw [lenF_none h, delF_no (getF_no h)]; rfl
  | some g =>
    rw [lenF_some h]
    exact usedF_del hu (getF_mem h)

def armN (a : Int) : Int := if 0 < a then a - 1 else a
def appF (x ys : List UInt8) (fs : List FE) : List FE := match getF x fs with | none => putF (x, ys, 0) fs | some g => putF (x, g.1 ++ ys, g.2) fs
def syncF (x : List UInt8) (fs : List FE) : List FE := match getF x fs with | none => fs | some g => putF (x, g.1, g.1.length) fs
def cutF (x : List UInt8) (k : Nat) (fs : List FE) : List FE := match getF x fs with | none => fs | some g => putF (x, g.1.take k, k) fs
def renF (x y : List UInt8) (fs : List FE) : List FE := if x = y then fs else match getF x fs with | none => fs | some g => putF (y, g.1, g.2) (delF x (delF y fs))
def noneE (x : List UInt8) (fs : List FE) : Int := if (getF x fs).isNone then 6 else 0
def cutE6 (x : List UInt8) (z : Int) (fs : List FE) : Int := match getF x fs with | none => if z < 0 then 1 else 6 | some g => if z < 0 ∨ (g.1.length : Int) < z then 1 else 0
/-- A call that would answer e, and make fs' of the files. -/
def doneD (D : DS) (e : Int) (fs' : List FE) : DS × Int :=
  if D.dead = true then (D, 9) else if e ≠ 0 then (D, e) else if D.arm = 0 then (⟨D.fs, D.room, D.arm, true⟩, 9) else (⟨fs', D.room, armN D.arm, D.dead⟩, 0)
def appendD (D : DS) (x ys : List UInt8) : DS × Int :=
  if D.dead = true then (D, 9) else if D.room < usedF D.fs + ys.length then (D, 8) else if D.arm = 0 then (⟨appF x ys D.fs, D.room, D.arm, true⟩, 9) else (⟨appF x ys D.fs, D.room, armN D.arm, D.dead⟩, 0)
def syncD (D : DS) (x : List UInt8) : DS × Int := doneD D (noneE x D.fs) (syncF x D.fs)
def removeD (D : DS) (x : List UInt8) : DS × Int := doneD D (noneE x D.fs) (delF x D.fs)
def cutD (D : DS) (x : List UInt8) (z : Int) : DS × Int := doneD D (cutE6 x z D.fs) (cutF x z.toNat D.fs)
def renameD (D : DS) (x y : List UInt8) : DS × Int := doneD D (noneE x D.fs) (renF x y D.fs)
def readD (D : DS) (x : List UInt8) : List UInt8 × Int := if D.dead = true then ([], 9) else match getF x D.fs with | none => ([], 6) | some g => (g.1, 0)
def listD (D : DS) (pre : List UInt8) : List (List UInt8) := if D.dead = true then [] else (D.fs.map (·.1)).filter fun x => Lib.hasPrefix x pre
def armD (D : DS) (n : Int) : DS := if D.dead = true then D else ⟨D.fs, D.room, if n < 0 then -1 else n, D.dead⟩
def crashD (D : DS) (ks : List Int) : DS := ⟨(crP ks D.fs).1, D.room, -1, false⟩

theorem appF_up {x ys : List UInt8} {fs : List FE} (h : risingF fs) : risingF (appF x ys fs) := by unfold appF; split <;> exact putF_up h
theorem syncF_up {x : List UInt8} {fs : List FE} (h : risingF fs) : risingF (syncF x fs) := by unfold syncF; split; exact h; exact putF_up h
theorem cutF_up {x : List UInt8} {k : Nat} {fs : List FE} (h : risingF fs) : risingF (cutF x k fs) := by unfold cutF; split; exact h; exact putF_up h
theorem renF_up {x y : List UInt8} {fs : List FE} (h : risingF fs) : risingF (renF x y fs) := by
  unfold renF; split
  · exact h
  · split
    · exact h
    · exact putF_up (delF_up (delF_up h))
theorem appF_used {x ys : List UInt8} {fs : List FE} (h : risingF fs) : usedF (appF x ys fs) = usedF fs + ys.length := by
  unfold appF
  split
  · next e => rw [usedF_put_new (getF_no e)]
  · next g e =>
    have := usedF_put_old (f := (x, g)) (g := (x, g.1 ++ ys, g.2)) rfl h (getF_mem e)
    simp only [List.length_append] at this
    omega
theorem syncF_used {x : List UInt8} {fs : List FE} (h : risingF fs) : usedF (syncF x fs) = usedF fs := by
  unfold syncF
  split
  · rfl
  · next g e =>
    have := usedF_put_old (f := (x, g)) (g := (x, g.1, g.1.length)) rfl h (getF_mem e)
    simp only at this
    omega
theorem cutF_used {x : List UInt8} {k : Nat} {fs : List FE} (h : risingF fs) {g : List UInt8 × Nat} (e : getF x fs = some g) (hk : k ≤ g.1.length) : usedF (cutF x k fs) + (g.1.length - k) = usedF fs := by
  have e2 : cutF x k fs = putF (x, g.1.take k, k) fs := by rw [cutF, e]
  rw [e2]
  have := usedF_put_old (f := (x, g)) (g := (x, g.1.take k, k)) rfl h (getF_mem e)
  simp only [List.length_take] at this
  omega
theorem getF_del_ne {x y : List UInt8} {fs : List FE} (h : x ≠ y) (hu : risingF fs) : getF x (delF y fs) = getF x fs := by
  cases e : getF x fs with
  | none => exact getF_none_of (fun f hf => getF_no e f (mem_delF.1 hf).1)
  | some g => exact getF_of (delF_up hu) (f := (x, g)) (mem_delF.2 ⟨getF_mem e, h⟩)
theorem renF_used {x y : List UInt8} {fs : List FE} (h : risingF fs) (hne : x ≠ y) {g : List UInt8 × Nat} (e : getF x fs = some g) : usedF (renF x y fs) + lenF y fs = usedF fs := by
  have e2 : renF x y fs = putF (y, g.1, g.2) (delF x (delF y fs)) := by rw [renF, if_neg hne, e]
  rw [e2, usedF_put_new (fun q hq => (mem_delF.1 (mem_delF.1 hq).1).2)]
  have h1 := usedF_delx y h
  have h2 := usedF_delx x (delF_up (x := y) h)
  rw [lenF_some (g := g) (by rw [getF_del_ne hne h, e])] at h2
  simp only
  omega
theorem lenF_le (x : List UInt8) (fs : List FE) : lenF x fs ≤ usedF fs := by
  cases h : getF x fs with
  | none => rw [lenF_none h]; omega
  | some g => rw [lenF_some h]; exact usedF_mem (getF_mem h)
theorem renF_used_le {x y : List UInt8} {fs : List FE} (h : risingF fs) : usedF (renF x y fs) ≤ usedF fs := by
  by_cases hne : x = y
  · rw [renF, if_pos hne]; omega
  · cases e : getF x fs with
    | none => rw [renF, if_neg hne, e]; exact Nat.le_refl _
    | some g => have := renF_used h hne e; omega
theorem lenR_val (x : List UInt8) (rs : List FR) (hu : rsUp rs) : lenR x rs = lenF x (rs.map FR.val) := by
  have hu2 : risingF (rs.map FR.val) := by
    unfold risingF
    rw [List.pairwise_map]
    exact hu
  by_cases hx : ∃ r ∈ rs, r.name = x
  · obtain ⟨r, hr, rfl⟩ := hx
    have h : getF r.name (rs.map FR.val) = some (r.dat, r.saf) := getF_of hu2 (f := r.val) (List.mem_map.2 ⟨r, hr, rfl⟩)
    rw [lenR_some hu hr, lenF_some h]
  · have h0 : ∀ r ∈ rs, r.name ≠ x := fun r hr e => hx ⟨r, hr, e⟩
    rw [(lenR_none h0).1, lenF_none (getF_none_of (fun f hf => by
      obtain ⟨r, hr, rfl⟩ := List.mem_map.1 hf
      exact h0 r hr))]
end Go.Proofs.Ytjpnfhfeabdhiaa
