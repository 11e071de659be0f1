/- The table's Put. No condition but sizes. -/
import Derived.Test.YtheefpgokdejcaaTrC
namespace Go.Proofs.Ytheefpgokdejcaa
open Go Go.RowKit

def szL : List En → Nat
  | [] => 0
  | e :: t => wE e + szL t
theorem szL_app : ∀ a b : List En, szL (a ++ b) = szL a + szL b
  | [], b => by simp [szL]
  | e :: t, b => by rw [List.cons_append, szL, szL, szL_app t b]; omega
def Tr.sz (t : Tr) : Nat := szL t.list
theorem balT_sz (l : Tr) (e : En) (r : Tr) : (balT l e r).sz = l.sz + wE e + r.sz := by
  unfold Tr.sz
  rw [balT_list, szL_app, szL]
  omega
theorem node_sz (l : Tr) (e : En) (r : Tr) : (Tr.node l e r).sz = l.sz + wE e + r.sz := by
  unfold Tr.sz
  rw [Tr.list, szL_app, szL]
  omega
theorem withT_sz {x : En} : ∀ {t t' : Tr}, withT x t = some t' → t'.sz = t.sz + wE x
  | .nil, t', h => by
    unfold withT at h
    injection h with h
    rw [← h]
    simp [Tr.sz, Tr.list, szL]
  | .node l e r, t', h => by
    unfold withT at h
    split at h
    · cases hw : withT x l with
      | none => rw [hw] at h; cases h
      | some l' =>
        rw [hw] at h
        injection h with h
        have := withT_sz hw
        rw [← h]
        simp only [balT_sz, node_sz]
        omega
    · split at h
      · cases hw : withT x r with
        | none => rw [hw] at h; cases h
        | some r' =>
          rw [hw] at h
          injection h with h
          have := withT_sz hw
          rw [← h]
          simp only [balT_sz, node_sz]
          omega
      · cases h
def insAll : Tr → List En → Option Tr
  | t, [] => some t
  | t, x :: xs => (withT x t).bind (fun t' => insAll t' xs)
theorem insAll_snoc : ∀ (t : Tr) (xs : List En) (x : En), insAll t (xs ++ [x]) = (insAll t xs).bind (withT x)
  | t, [], x => by simp [insAll]
  | t, y :: ys, x => by
    simp only [List.cons_append, insAll]
    cases withT y t with
    | none => rfl
    | some t' => exact insAll_snoc t' ys x
theorem insAll_none {t : Tr} {xs ys : List En} (h : insAll t xs = none) : insAll t (xs ++ ys) = none := by
  induction xs generalizing t with
  | nil => simp [insAll] at h
  | cons x xs ih =>
    simp only [List.cons_append, insAll] at h ⊢
    cases hw : withT x t with
    | none => rfl
    | some t' => rw [hw] at h; exact ih h
theorem insAll_num : ∀ {t t' : Tr} {xs : List En}, insAll t xs = some t' → t'.num = t.num + xs.length ∧ t'.sz = t.sz + szL xs
  | t, t', [], h => by simp [insAll] at h; subst h; simp [szL]
  | t, t', x :: xs, h => by
    simp only [insAll] at h
    cases hw : withT x t with
    | none => rw [hw] at h; cases h
    | some t1 =>
      rw [hw] at h
      have h1 := insAll_num (t := t1) h
      have h2 := withT_num hw
      have h3 := withT_sz hw
      simp only [List.length_cons, szL]
      omega
/-- 'This type is none of those that a tree is made of.' -/
def okT (ty : TypeId) : Prop := ty ≠ 124 ∧ ty ≠ 38 ∧ ty ≠ 5
/-- A table alone in its block. -/
def pl3 : TypeId × List Value := (55, [])
theorem okT_pl : okT pl3.1 := ⟨by decide, by decide, by decide⟩
/-- 'The table at p is the tree t; what stands behind it in its block is d.' -/
def TB (d : TypeId × List Value) (G : Nat → Prop) (w : World) (p : Nat) (t : Tr) : Prop :=
  ∃ A, Cl w p (#[.pointer A, .int .i64 (t.num : Int), .int .i64 (t.sz : Int)] ++ d.2.toArray) d.1 ∧ TrAt G w t A ∧ okT d.1
section
variable {w : World} {p : Nat} {a b c : Value} {d : Array Value} {ty : TypeId}
theorem Cl.ct (h : Cl w p (#[a, b, c] ++ d) ty) : w.cell? ⟨p, 0, none⟩ = some a ∧ w.cell? ⟨p, 1, none⟩ = some b ∧ w.cell? ⟨p, 2, none⟩ = some c ∧
    w.frozen? ⟨p, 0, none⟩ = false ∧ w.frozen? ⟨p, 1, none⟩ = false ∧ w.frozen? ⟨p, 2, none⟩ = false :=
  ⟨(h.cell 0).trans (Array.getElem?_append_left (by simp)), (h.cell 1).trans (Array.getElem?_append_left (by simp)), (h.cell 2).trans (Array.getElem?_append_left (by simp)), h.thaw 0, h.thaw 1, h.thaw 2⟩
theorem Cl.st0 (h : Cl w p (#[a, b, c] ++ d) ty) (v : Value) : Cl (w.setCell ⟨p, 0, none⟩ v) p (#[v, b, c] ++ d) ty := by
  have := h.set 0 v
  have e : (#[a, b, c] ++ d).setIfInBounds 0 v = #[v, b, c] ++ d := by
    apply Array.ext'
    simp
  rw [e] at this
  exact this
theorem Cl.st1 (h : Cl w p (#[a, b, c] ++ d) ty) (v : Value) : Cl (w.setCell ⟨p, 1, none⟩ v) p (#[a, v, c] ++ d) ty := by
  have := h.set 1 v
  have e : (#[a, b, c] ++ d).setIfInBounds 1 v = #[a, v, c] ++ d := by
    apply Array.ext'
    simp
  rw [e] at this
  exact this
theorem Cl.st2 (h : Cl w p (#[a, b, c] ++ d) ty) (v : Value) : Cl (w.setCell ⟨p, 2, none⟩ v) p (#[a, b, v] ++ d) ty := by
  have := h.set 2 v
  have e : (#[a, b, c] ++ d).setIfInBounds 2 v = #[a, b, v] ++ d := by
    apply Array.ext'
    simp
  rw [e] at this
  exact this
end
theorem TB.below {d : TypeId × List Value} {G : Nat → Prop} {w w' : World} {p : Nat} {t : Tr} (h : TB d G w p t) (hb : Below w.heap.size w w') : TB d G w' p t := by
  obtain ⟨A, h1, h2, h3⟩ := h
  exact ⟨A, h1.below hb, h2.below hb, h3⟩
theorem len_any {d : TypeId × List Value} {G : Nat → Prop} {w : World} {p : Nat} {t : Tr} (h : TB d G w p t) : Calls Try.prog 22 #[.pointer (some ⟨p, 0, none⟩)] w (RetNu w (t.num : Int)) := by
  obtain ⟨A, h1, _⟩ := h
  obtain ⟨c0, c1, c2, _⟩ := h1.ct
  go_enter Try.func22, Try.ntmps22
  go_wp2
  go_ret
  exact ⟨rfl, Below.refl _ _⟩
theorem size_any {d : TypeId × List Value} {G : Nat → Prop} {w : World} {p : Nat} {t : Tr} (h : TB d G w p t) : Calls Try.prog 23 #[.pointer (some ⟨p, 0, none⟩)] w (RetNu w (t.sz : Int)) := by
  obtain ⟨A, h1, _⟩ := h
  obtain ⟨c0, c1, c2, _⟩ := h1.ct
  go_enter Try.func23, Try.ntmps23
  go_wp2
  go_ret
  exact ⟨rfl, Below.refl _ _⟩
theorem memNew_any (G : Nat → Prop) (w : World) : Calls Try.prog 16 #[] w fun e w' => e = .returned (.pointer (some ⟨w.heap.size, 0, none⟩)) ∧ TB pl3 G w' w.heap.size .nil ∧ Below w.heap.size w w' := by
  go_enter Try.func16, Try.ntmps16
  go_wp2
  go_ret
  exact ⟨rfl, ⟨none, Cl.new _ _ _, rfl, okT_pl⟩, (Below.refl _ _).alloc (Nat.le_refl _) _⟩
/-- What a Put comes to: the table, and all else as it was. -/
def putZ (t : Tr) (es : List En) : Int × Tr := if checkE es = 0 then match insAll t es with | none => (7, t) | some t' => (0, t') else (checkE es, t)
def RetPt (d : TypeId × List Value) (G : Nat → Prop) (w : World) (p : Nat) (z : Int × Tr) (e : Ending) (w' : World) : Prop := e = .returned (.int .i64 z.1) ∧ TB d G w' p z.2 ∧ w.grownBy w' (some p)
theorem grow_of_below {w w' : World} {row : Option Nat} (h : Below w.heap.size w w') : w.grownBy w' row := ⟨h.os, h.tape, h.output, h.size, fun k hk _ => h.block k hk⟩
theorem TrAt.set {G : Nat → Prop} {w : World} {p : Nat} {vs : Array Value} {ty : TypeId} (hp : Cl w p vs ty) (hty : okT ty) (i : Nat) (v : Value) : ∀ {t : Tr} {A : Option Addr}, TrAt G w t A → TrAt G (w.setCell ⟨p, i, none⟩ v) t A
  | .nil, _, h => h
  | .node _ _ _, _, ⟨k, pe, pl, pr, h1, h2, ⟨v0, v1, v2, v3, h3, h4, h4'⟩, h5, h6⟩ => by
    have n4 : ∀ {q : Nat} {us : Array Value} {t : TypeId}, Cl w q us t → ty ≠ t → p ≠ q := fun {q us t} h hne e => by
      subst e
      unfold Cl at h hp
      rw [hp] at h
      injection h with h
      injection h with _ h
      exact hne h
    have no : ∀ {n c' : Nat} {S : Option Addr} {xs : List UInt8}, Own 5 w 0 S n c' xs → Own 5 (w.setCell ⟨p, i, none⟩ v) 0 S n c' xs := fun {n c' S xs} h => by
      refine ⟨h.1, ?_⟩
      rcases h.2 with q1 | ⟨g, cap, cur, q1, q2, q3, q4⟩
      · exact .inl q1
      · refine .inr ⟨g, cap, cur, q1, q2, ?_, q4⟩
        rw [heap_setCell_other _ _ _ _ ?_]
        · exact q3
        · intro e
          simp only at e
          subst e
          unfold Cl at hp
          rw [hp] at q3
          injection q3 with q3
          injection q3 with _ q3
          exact hty.2.2 q3
    obtain ⟨K, kn, kc, V, vn, vc, r0, r1, r2, r3, o1, o2, u1, u2⟩ := h4
    exact ⟨k, pe, pl, pr, h1, h2.off i v (n4 h2 hty.1), ⟨v0, v1, v2, v3, h3.off i v (n4 h3 hty.2.1), ⟨K, kn, kc, V, vn, vc, r0, r1, r2, r3, no o1, no o2, u1, u2⟩, h4'⟩, TrAt.set hp hty i v h5, TrAt.set hp hty i v h6⟩
end Go.Proofs.Ytheefpgokdejcaa
