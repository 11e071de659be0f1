/- P8.2, P8.3: any bytes are read as the one block that they are, and sought in, or refused with the right error. The arguments' bytes are at most 1048576 in all. -/
import Derived.Test.YtgigohfjioifaaaCl
import Derived.Test.YtgigohfjioifaaaEnC
import Derived.Test.YtgigohfjioifaaaEnG
import Derived.Test.YtgigohfjioifaaaFamD
import Derived.Deep.RegionLaw
import Derived.Test.YtgigohfjioifaaaCrcV
import Derived.Lib.SmallJoins
import Derived.Test.YtgigohfjioifaaaCrcX
import Derived.Laws.BytesArg
import Derived.Test.YtgigohfjioifaaaSrch
import Derived.Test.YtgigohfjioifaaaMathF
import Derived.Test.YtgigohfjioifaaaCrcS
import Derived.Test.YtgigohfjioifaaaEnB
import Derived.Test.YtgigohfjioifaaaGetU
import Derived.Test.YtgigohfjioifaaaStepA
import Derived.Test.YtgigohfjioifaaaCrcQ
import Derived.Test.YtgigohfjioifaaaRows
import Derived.Test.YtgigohfjioifaaaOpen
import Derived.ProofKit
import Derived.OpenShut
import Derived.ShutString
import Derived.ChangeOld
import Derived.SizedLaws
import Derived.JoinedCond
import Derived.Deep.CondSized
import Derived.Deep.Matrix
import Derived.Test.YtgigohfjioifaaaBulk
namespace Go.Proofs.Ytgigohfjioifaaa
open Go Go.RowKit

/-- Blocks of other kinds are other blocks. -/
theorem row_ne {t1 t2 : TypeId} {s1 s2 : Nat} {w : World} {b1 b2 n c m d : Nat} {L A : Option Addr} {i j : Nat} {vs us : List Value} (h : w.ownsRow b1 t1 s1 (.slice L n c) i vs) (k : w.ownsRow b2 t2 s2 (.slice A m d) j us) (hne : t1 ≠ t2) : Dj L A := fun b e1 e2 => by
  rcases h.2 with ⟨h1, _⟩ | ⟨g, cap, cur, h1, _, hg, _⟩
  · injection h1 with h1
    rw [h1] at e1; cases e1
  · injection h1 with h1
    rw [h1] at e1
    injection e1 with e1
    rcases k.2 with ⟨k1, _⟩ | ⟨g2, cap2, cur2, k1, _, kg, _⟩
    · injection k1 with k1
      rw [k1] at e2; cases e2
    · injection k1 with k1
      rw [k1] at e2
      injection e2 with e2
      simp only at e1 e2
      subst e1 e2
      rw [hg] at kg
      injection kg with kg
      injection kg with _ kg
      exact hne kg
theorem ownV_ne {t : TypeId} {w : World} {b1 b2 n c m d : Nat} {L A : Option Addr} {vs : List Value} {xs : List UInt8} (h : OwnV t w b1 L n c vs) (k : Own 5 w b2 A m d xs) (hne : t ≠ 5) : Dj L A := row_ne h k hne
theorem cl_row {ty t : TypeId} {s : Nat} {w : World} {p b2 m d j : Nat} {A : Option Addr} {us : Array Value} {vs : List Value} (h : Cl w p us ty) (k : w.ownsRow b2 t s (.slice A m d) j vs) (hne : ty ≠ t) : blk A ≠ some p := fun e2 => by
  rcases k.2 with ⟨k1, _⟩ | ⟨g2, cap2, cur2, k1, _, kg, _⟩
  · injection k1 with k1
    rw [k1] at e2; cases e2
  · injection k1 with k1
    rw [k1] at e2
    injection e2 with e2
    simp only at e2
    subst e2
    unfold Cl at h
    rw [h] at kg
    injection kg with kg
    injection kg with _ kg
    exact hne kg
theorem cl_ne {ty : TypeId} {w : World} {p b2 m d : Nat} {A : Option Addr} {us : Array Value} {xs : List UInt8} (h : Cl w p us ty) (k : Own 5 w b2 A m d xs) (hne : ty ≠ 5) : blk A ≠ some p := cl_row h k hne
theorem Cl.grown {w w' : World} {p : Nat} {us : Array Value} {ty : TypeId} {row : Option Nat} (h : Cl w p us ty) (hg : w.grownBy w' row) (hne : row ≠ some p) : Cl w' p us ty := by
  obtain ⟨_, _, _, h4, h5⟩ := hg
  exact (h5 p h.lt (fun e => hne e.symm)).trans h
theorem rdPre2 {e : TypeId} {w : World} {base g n k : Nat} {xs : List UInt8} (h : Own e w base (some ⟨g, 0, none⟩) (n + 40) (n + 40) (xs ++ room n k)) (hx : xs.length = n) : Rd w (some ⟨g, 0, none⟩) n xs := by
  have := (h.prefix n (by omega) (by simp)).rd
  rw [List.take_left' hx] at this
  exact this
theorem ownV_box2 (w : World) (t : TypeId) (base : Nat) (vs : List Value) (n : Nat) (hl : vs.length = n) (hn : n ≤ 1024) (hb : base ≤ w.heap.size) (cs : Array Value) (hc : cs = vs.toArray) : OwnV t (w.alloc (.cells cs t)) base (some ⟨w.heap.size, 0, none⟩) n n vs := by
  subst hc
  refine ⟨by simp [hl], .inr ⟨w.heap.size, n, vs.toArray, rfl, hb, heap_alloc_new w _, Nat.le_refl _, by unfold maxLen; omega, by simp [hl], ?_⟩⟩
  simp only [Nat.mul_one]
  exact List.take_of_length_le (by simp [hl])
theorem mem_own2 {w : World} {base : Nat} {ps : List VB} (h : Fam w base ps) {A : Option Addr} {m c : Nat} {xs : List UInt8} (hp : (Value.slice A m c, xs) ∈ ps) : Own 5 w base A m c xs := by
  obtain ⟨A', m', c', e, ho⟩ := h.1 _ hp
  injection e with e1 e2 e3
  subst e1 e2 e3
  exact ho
section
variable {w w' : World} {base : Nat} {ps qs : List VB}
theorem Fam.off_cl (h : Fam w base ps) {p : Nat} {us : Array Value} {ty : TypeId} (hp : Cl w p us ty) (hne : ty ≠ 5) : OffF ps p := fun q hq e => by
  obtain ⟨A, m, c, e1, ho⟩ := h.1 q hq
  rw [e1, own_blk] at e
  exact cl_ne hp ho hne e
theorem Fam.off_row (h : Fam w base ps) {t : TypeId} {b1 n c : Nat} {L : Option Addr} {vs : List Value} (hl : OwnV t w b1 L n c vs) (hne : t ≠ 5) : ∀ b, blk L = some b → OffF ps b := fun b hb q hq e => by
  obtain ⟨A, m, d, e1, ho⟩ := h.1 q hq
  rw [e1, own_blk] at e
  exact ownV_ne hl ho hne b hb e
theorem Fam.perm (h : Fam w base ps) (hp : ps.Perm qs) : Fam w base qs :=
  ⟨fun p hq => h.1 p (hp.mem_iff.2 hq), h.2.perm hp (fun {_ _} hab => Ap.symm hab)⟩
theorem Fam.app {base' : Nat} (h : Fam w base ps) (hn : Fam w' base' qs) (hb : Below w.heap.size w w') (h1 : w.heap.size ≤ base') (h2 : base ≤ base') : Fam w' base (ps ++ qs) := by
  have h0 : Fam w base (ps ++ []) := by rw [List.append_nil]; exact h
  have := Fam.ins h0 hn hb h1 h2
  rw [List.append_nil] at this
  exact this
theorem OffF.app {p : Nat} (h : OffF ps p) (k : OffF qs p) : OffF (ps ++ qs) p := fun q hq => by
  rcases List.mem_append.1 hq with h1 | h1
  · exact h q h1
  · exact k q h1
end
/-- One values more appended onto a row of one-cell values at a step of a region that draws its order. -/
theorem step_appV {P : Program} (w : World) {ops : Array Oper} {o : Oper} {a : Act} {K : Act → World → Prop} {Q : Exit → Act → World → Prop} {E : Prop} (hgd : o.guard = none) (s x : Operand) (tt : TypeId)
    (ho : o.op = .call { callee := .builtin .append, args := #[s, x], argTypes := #[tt, tt] })
    (base : Nat) (t : TypeId) (z : Value) (by_ : Nat) (ht : P.underlying tt = some (.slice t)) (hi : (P.info? t).map (fun i => (i.zero, i.size, i.bytes)) = some (some z, 1, by_)) (hz1 : z.cells.size = 1)
    (A : Option Addr) (n c : Nat) (vs : List Value) (hs : a.eval s = .slice A n c) (hown : OwnV t w base A n c vs)
    (ad : Addr) (m d : Nat) (ys : List Value) (hx : a.eval x = .slice (some ad) m d) (hr : RdV w (some ad) m ys) (hm : 0 < m) (h1 : ∀ u ∈ ys, u.oneCell' = true)
    (hn : n + m ≤ maxLen) (hby : (n + m) * by_ ≤ 140737488355328) (hbase : base ≤ w.heap.size)
    (h : ∀ A' c' w', OwnV t w' base A' (n + m) c' (vs ++ ys) → w.grownBy w' (blk A) → K (a.put o.dst (.slice A' (n + m) c')) w') :
    if Region.wanted o (yielded ops a.tmps) = true then Oper.wp P o a w K Q else E := by
  have hw : Region.wanted o (yielded ops a.tmps) = true := by simp [Region.wanted, hgd]
  rw [if_pos hw]
  obtain ⟨i, hi, hz, hsz, hby2⟩ := info_parts hi
  obtain ⟨b, off, e, _, hc⟩ := hr.2 hm
  injection e with e
  subst e
  refine wp_append_own w s x tt ho base t i z 1 by_ ht hi hz hsz hby2 hz1 (by decide) (.slice A n c) n vs hs hown ⟨b, off, none⟩ m d ys hx (by simp [hr.1]) (fun j u hj => by rw [Addr.add_lit]; exact hc j u hj) h1 hn hby hbase ?_
  intro v' w' k1 k2 _
  obtain ⟨A', c', rfl⟩ : ∃ A' c', v' = .slice A' (n + m) c' := by
    rcases k1.2 with ⟨h3, h4⟩ | ⟨g, cap, cur, h3, _⟩
    · exact ⟨none, 0, by rw [h3, h4]⟩
    · exact ⟨_, _, h3⟩
  rw [own_blk] at k2
  exact h A' c' w' k1 k2
/-- Two lists of pairs, a pair of each by turns. -/
def inter {α : Type} : List α → List α → List α
  | a :: b :: r, c :: d :: s => a :: b :: c :: d :: inter r s
  | _, _ => []
theorem four_of {vs : List Value} {k : Nat} (h : vs.length = (k + 1) * 4) : ∃ v0 v1 v2 v3 r, vs = v0 :: v1 :: v2 :: v3 :: r ∧ r.length = k * 4 := by
  match vs, h with
  | [], h => simp at h
  | [_], h => simp at h; omega
  | [_, _], h => simp at h; omega
  | [_, _, _], h => simp at h; omega
  | a :: b :: c :: d :: r, h => exact ⟨a, b, c, d, r, rfl, by simp only [List.length_cons] at h; omega⟩
theorem inter_perm : ∀ (es : List En) {vs us : List Value}, vs.length = es.length * 4 → us.length = es.length * 4 → (pairE es vs ++ pairE es us).Perm (inter (pairE es vs) (pairE es us))
  | [], vs, us, _, _ => by simp [pairE, inter]
  | e :: es, vs, us, h1, h2 => by
    obtain ⟨v0, v1, v2, v3, r, rfl, hr⟩ := four_of h1
    obtain ⟨u0, u1, u2, u3, s, rfl, hs⟩ := four_of h2
    have ih := inter_perm es (vs := r) (us := s) hr hs
    simp only [pairE, inter, List.cons_append]
    refine .cons _ (.cons _ ?_)
    refine List.Perm.trans ?_ (.cons _ (.cons _ ih))
    have p1 : (pairE es r ++ (u0, e.key) :: (u3, e.val) :: pairE es s).Perm ((u0, e.key) :: (pairE es r ++ (u3, e.val) :: pairE es s)) := List.perm_middle
    exact p1.trans (.cons _ List.perm_middle)
theorem inter_take : ∀ (es : List En) {vs us : List Value} (i : Nat) {v0 v3 u0 u3 : Value}, vs.length = es.length * 4 → us.length = es.length * 4 → vs[i * 4]? = some v0 → vs[i * 4 + 3]? = some v3 → us[i * 4]? = some u0 → us[i * 4 + 3]? = some u3 → i < es.length →
    ((inter (pairE es vs) (pairE es us)).take (4 * (i + 1))).map (·.1) = ((inter (pairE es vs) (pairE es us)).take (4 * i)).map (·.1) ++ [v0, v3, u0, u3]
  | [], _, _, i, _, _, _, _, _, _, _, _, _, _, hi => by simp at hi
  | e :: es, vs, us, i, v0, v3, u0, u3, hv, hu, h0, h3, k0, k3, hi => by
    obtain ⟨x0, x1, x2, x3, r, rfl, hr⟩ := four_of hv
    obtain ⟨y0, y1, y2, y3, s, rfl, hs⟩ := four_of hu
    cases i with
    | zero =>
      simp at h0 h3 k0 k3
      subst h0 h3 k0 k3
      simp [pairE, inter]
    | succ i =>
      simp only [List.length_cons] at hi
      have e0 : (i + 1) * 4 = i * 4 + 4 := by omega
      have e3 : (i + 1) * 4 + 3 = i * 4 + 3 + 4 := by omega
      rw [e0] at h0 k0
      rw [e3] at h3 k3
      have ih := inter_take es (vs := r) (us := s) i hr hs (by simpa using h0) (by simpa using h3) (by simpa using k0) (by simpa using k3) (by omega)
      have e4 : 4 * (i + 1 + 1) = 4 * (i + 1) + 4 := by omega
      have e5 : 4 * (i + 1) = 4 * i + 4 := by omega
      simp only [pairE, inter]
      rw [e4]
      simp only [List.take_succ_cons, List.map_cons]
      rw [ih, e5]
      simp only [List.take_succ_cons, List.map_cons, List.cons_append]
theorem pairE_len : ∀ (es : List En) {vs : List Value}, vs.length = es.length * 4 → (pairE es vs).length = es.length * 2
  | [], vs, h => by simp [pairE]
  | e :: es, vs, h => by
    obtain ⟨x0, x1, x2, x3, r, rfl, hr⟩ := four_of h
    have := pairE_len es (vs := r) hr
    simp only [pairE, List.length_cons]
    omega
theorem inter_all (es : List En) {vs us : List Value} (hv : vs.length = es.length * 4) (hu : us.length = es.length * 4) : (inter (pairE es vs) (pairE es us)).take (4 * es.length) = inter (pairE es vs) (pairE es us) := by
  have h := (inter_perm es hv hu).length_eq
  rw [List.length_append, pairE_len es hv, pairE_len es hu] at h
  exact List.take_of_length_le (by omega)
theorem pairE_sz : ∀ {es : List En} {vs : List Value} {q : VB}, q ∈ pairE es vs → ∃ e ∈ es, q.2 = e.key ∨ q.2 = e.val
  | e :: es, x0 :: x1 :: x2 :: x3 :: r, q, h => by
    unfold pairE at h
    simp only [List.mem_cons] at h
    rcases h with rfl | rfl | h
    · exact ⟨e, by simp, .inl rfl⟩
    · exact ⟨e, by simp, .inr rfl⟩
    · obtain ⟨x, hx, k⟩ := pairE_sz h
      exact ⟨x, by simp [hx], k⟩
theorem ownE_kept {w w' : World} {base n c : Nat} {A : Option Addr} {vs : List Value} {row : Option Nat} (h : OwnE w base A n c vs) (hg : w.grownBy w' row) (hne : ∀ b, blk A = some b → row ≠ some b) : OwnE w' base A n c vs := by
  refine World.ownsRow.kept h hg ?_
  rw [own_blk]
  cases hb : blk A with
  | none => exact .inl rfl
  | some b => exact .inr (fun e => hne b hb e.symm)
theorem eos_of_fam {w0 w : World} {b0 base : Nat} : ∀ {es : List En} {vs : List Value}, EOs b0 w0 es vs → (∀ q ∈ pairE es vs, ∃ A m c, q.1 = .slice A m c ∧ Own 5 w base A m c q.2) → EOs base w es vs
  | [], _, h, _ => h
  | e :: es, _, h, hf => by
    obtain ⟨v0, v1, v2, v3, r, rfl, ⟨K, kn, kc, V, vn, vc, rfl, rfl, rfl, rfl, o1, o2, u⟩, h2⟩ := h
    obtain ⟨A, m, c, e1, p1⟩ := hf (.slice K kn kc, e.key) (by simp [pairE])
    obtain ⟨B, n, d, e2, p2⟩ := hf (.slice V vn vc, e.val) (by simp [pairE])
    have p1' : Own 5 w base K kn kc e.key := by
      have e1' : Value.slice K kn kc = Value.slice A m c := e1
      injection e1' with a1 a2 a3
      subst a1 a2 a3
      exact p1
    have p2' : Own 5 w base V vn vc e.val := by
      have e2' : Value.slice V vn vc = Value.slice B n d := e2
      injection e2' with a1 a2 a3
      subst a1 a2 a3
      exact p2
    exact ⟨_, _, _, _, r, rfl, ⟨K, kn, kc, V, vn, vc, rfl, rfl, rfl, rfl, p1', p2', u⟩, eos_of_fam h2 (fun q hq => hf q (by simp [pairE, hq]))⟩
theorem long_ok {x : En} (h : okE x = true) : x.key.length ≤ 1024 ∧ x.val.length ≤ 65536 := by
  have := (okE_iff.1 h).1
  unfold longE at this
  simp at this
  omega
end Go.Proofs.Ytgigohfjioifaaa
namespace Go.Proofs.Ytgigohfjioifaaa
open Go Go.RowKit

theorem rdl_one8 {w : World} {t : TypeId} {v1 : Value} {x1 : List UInt8} (h1 : ElB w v1 x1) (g : Nat) (hg : g = w.heap.size) : RdL (w.alloc (.cells #[v1] t)) (some ⟨g, 0, none⟩) 1 [x1] := by
  subst hg
  refine ⟨rfl, fun _ => ⟨w.heap.size, 0, rfl, by simp, fun i x hi => ?_⟩⟩
  have hlt := (List.getElem?_eq_some_iff.1 hi).1
  obtain rfl : i = 0 := by simp at hlt; omega
  injection hi with hi
  subst hi
  refine ⟨v1, ?_, h1.below ((Below.refl _ _).alloc (Nat.le_refl _) _)⟩
  rw [cell_of_row (w.alloc (.cells #[v1] t)) w.heap.size (0 + 0) #[v1] t (0, 0) (heap_alloc_new w _)]
  rfl
/-- What Build answers where every is at least 1. -/
def buildE (ev : Nat) (es : List En) : List UInt8 × Int :=
  if es.any longE then ([], 2) else if 1048576 < (fullB ev es).length then ([], 2) else if es.all formE && ordE es then (sealB (fullB ev es), 0) else ([], 3)
/-- Bytes of the call's own, or none, and a kind. -/
def RetBb (w : World) (z : List UInt8 × Int) (e : Ending) (w' : World) : Prop :=
  ∃ A c, e = .returned (.tuple #[.slice A z.1.length c, .int .i64 z.2]) ∧ Own 5 w' w.heap.size A z.1.length c z.1 ∧ Below w.heap.size w w'
theorem RetBb.no {w w' : World} {z : List UInt8 × Int} {k : Int} (hz : z = ([], k)) (hb : Below w.heap.size w w') : RetBb w z (.returned (.tuple #[.slice none 0 0, .int .i64 k])) w' := by
  subst hz
  exact ⟨none, 0, rfl, Own.nil _ _ _, hb⟩
theorem longE_no {es : List En} (h : es.any longE = false) : ∀ x ∈ es, x.key.length ≤ 1024 ∧ x.val.length ≤ 65536 := fun x hx => by
  have := List.any_eq_false.1 h x hx
  unfold longE at this
  simp at this
  omega
set_option maxRecDepth 100000 in
set_option maxHeartbeats 8000000 in
theorem build8_any {w : World} {A : Option Addr} {n c : Nat} {es : List En} (h : REs w A n es) (hn : n ≤ 16777216) (ev : Nat) (he : 1 ≤ ev) (he2 : ev ≤ 9223372036854775807) :
    Calls Try.prog 42 #[.int .i64 (ev : Int), .slice A n c] w (RetBb w (buildE ev es)) := by
  have HM : Hid (Calls Try.prog 74 #[.slice A n c] w (RetNu w (checkE es))) := Lib.hid (memCheck_any h (by omega))
  have HR := Lib.hid h
  clear h
  cases hlo : es.any longE with
  | true =>
    have hc : checkE es = 2 := by rw [checkE, hlo]; rfl
    have hb : buildE ev es = ([], 2) := by rw [buildE, hlo]; rfl
    rw [hc] at HM
    have HB := Lib.hid hb
    clear hlo hc hb
    go_enter Try.func42, Try.ntmps42
    go_wp2_with fail
    with_reducible refine HM.out.mono ?_
    rintro e w1 ⟨rfl, b1⟩
    go_wp2_with fail
    exact bodyPost_ret (v := .tuple #[.slice none 0 0, .int .i64 2]) (by simp [results, Try.f42, go_sem]; try rfl) rfl (RetBb.no HB.out b1)
  | false =>
    have hsz := longE_no hlo
    have HCT : Hid (∀ wx, Below w.heap.size w wx → Calls Try.prog 78 #[.int .i64 (ev : Int), .slice A n c] wx (RetCt ev es wx)) := Lib.hid (fun wx hb => contents_any (HR.out.below hb) hn hsz ev he he2)
    have HIO : Hid (∀ wx, Below w.heap.size w wx → Calls Try.prog 79 #[.slice A n c] wx (RetT wx (ordE es))) := Lib.hid (fun wx hb => inOrder8_any (HR.out.below hb) (by omega))
    obtain ⟨F, hF⟩ : ∃ F, F = fullB ev es := ⟨_, rfl⟩
    have hbe : buildE ev es = if 1048576 < F.length then ([], 2) else if es.all formE && ordE es then (sealB F, 0) else ([], 3) := by rw [buildE, hlo, ← hF]; rfl
    obtain ⟨fo, hfo⟩ : ∃ fo, fo = es.all formE := ⟨_, rfl⟩
    obtain ⟨od, hod⟩ : ∃ od, od = ordE es := ⟨_, rfl⟩
    obtain ⟨z, hz⟩ : ∃ z : Int, z = if fo then 0 else 3 := ⟨_, rfl⟩
    have hck : checkE es = z := by rw [checkE, hlo, hz, hfo]; rfl
    rw [hck] at HM
    rw [← hod] at HIO hbe
    rw [← hfo] at hbe
    have hz2 : z = 0 ∨ z = 3 := by rw [hz]; cases fo <;> simp
    have tz : (z == 2) = false := by rcases hz2 with e | e <;> rw [e] <;> rfl
    have tz' : ¬ z = 2 := by omega
    have HBE := Lib.hid hbe
    have HF := Lib.hid hF
    have HZ := Lib.hid hz
    have HZ2 := Lib.hid hz2
    clear hlo hsz hF hbe hfo hod hz hck hz2
    go_enter Try.func42, Try.ntmps42
    go_wp2_with fail
    with_reducible refine HM.out.mono ?_
    rintro e w1 ⟨rfl, b1⟩
    have HCT1 := Lib.hid (HCT.out w1 b1)
    have B1 := Lib.hid b1
    clear b1
    go_wp2_with fail
    with_reducible refine HCT1.out.mono ?_
    rintro e w2 ⟨C, cc, ys, rfl, oC, b2, hyl, hys⟩
    rw [← HF.out] at hys
    have hcap := oC.cap
    have hcn : C = none → cc = 0 := fun h => by have := oC.nil_of (by rw [h]; rfl); exact this.2.2
    have hSE := Seal_any (some ⟨w2.heap.size, 0, none⟩) 1 1 [ys] _ (rdl_one8 (w := w2) (t := 22) ⟨C, ys.length, cc, rfl, oC.rd, hcap.1, hcn⟩ _ rfl) (by simp only [tot]; omega)
    rw [show [ys].flatten = ys by simp] at hSE
    have HSE := Lib.hid hSE
    have B2 := Lib.hid (B1.out.trans (b2.mono B1.out.size))
    have HYS := Lib.hid hys
    obtain ⟨yn, hyn⟩ : ∃ yn, yn = ys.length := ⟨_, rfl⟩
    rw [← hyn]
    rw [← hyn] at hyl HSE
    have HYN := Lib.hid hyn
    clear hSE oC b2 hcap hcn hys hyn
    by_cases hbig : 1048576 < yn
    · have hg : sealG ys = ([], 2) := sealG_long HYN.out.symm hbig
      have hb : buildE ev es = ([], 2) := by
        rw [HBE.out, if_pos]
        rcases HYS.out with ⟨_, h2⟩ | h2
        · have := HYN.out; omega
        · rw [← h2, ← HYN.out]; exact hbig
      rw [hg] at HSE
      have HB := Lib.hid hb
      clear hg hb
      go_wp2_with fail
      refine HSE.out.mono ?_
      rintro e w3 ⟨D, dn, dc, rfl, oD, b3⟩
      have B3 := Lib.hid (B2.out.trans (((Below.refl _ _).alloc (Nat.le_refl _) _ |>.trans (b3.mono (by simp))).mono B2.out.size))
      clear oD b3
      go_wp2_with fail
      exact bodyPost_ret (v := .tuple #[.slice none 0 0, .int .i64 2]) (by simp [results, Try.f42, go_sem]; try rfl) rfl (RetBb.no HB.out B3.out)
    · have hF2 : ys = F := by
        rcases HYS.out with ⟨h1, _⟩ | h2
        · have := HYN.out; omega
        · exact h2
      have hg : sealG ys = (sealB F, 0) := by rw [sealG_ok HYN.out.symm hbig, hF2]
      have hb : buildE ev es = if fo && od then (sealB F, 0) else ([], 3) := by rw [HBE.out, if_neg (by rw [← hF2, ← HYN.out]; exact hbig)]
      rw [hg] at HSE
      have HB := Lib.hid hb
      clear hg hb
      go_wp2_with fail
      refine HSE.out.mono ?_
      rintro e w3 ⟨D, dn, dc, rfl, oD, b3⟩
      have oD : Own 5 w3 w2.heap.size D dn dc (sealB F) := Own.mono oD (show w2.heap.size ≤ _ by simp)
      obtain rfl : (sealB F).length = dn := oD.len
      have HD := Lib.hid (oD.mono B2.out.size)
      have B3 := Lib.hid (B2.out.trans (((Below.refl _ _).alloc (Nat.le_refl _) _ |>.trans (b3.mono (by simp))).mono B2.out.size))
      clear oD b3
      cases fo with
      | false =>
        have e0 : z = 3 := HZ.out
        subst e0
        rw [Bool.false_and] at HB
        go_wp2_with fail
        exact bodyPost_ret (v := .tuple #[.slice none 0 0, .int .i64 3]) (by simp [results, Try.f42, go_sem]; try rfl) rfl (RetBb.no HB.out B3.out)
      | true =>
        have e0 : z = 0 := HZ.out
        subst e0
        rw [Bool.true_and] at HB
        have HIO3 := Lib.hid (HIO.out w3 B3.out)
        cases od with
        | true =>
          go_wp2_with fail
          with_reducible refine HIO3.out.mono ?_
          rintro e w4 ⟨rfl, b4⟩
          have hB := HB.out
          simp only [if_true] at hB
          have hfin : RetBb w (buildE ev es) (.returned (.tuple #[.slice D (sealB F).length dc, .int .i64 0])) w4 := by
            rw [hB]
            exact ⟨D, dc, rfl, HD.out.below b4, B3.out.trans (b4.mono B3.out.size)⟩
          have HFI := Lib.hid hfin
          clear hB hfin b4
          go_wp2_with fail
          exact bodyPost_ret (v := .tuple #[.slice D (sealB F).length dc, .int .i64 0]) (by simp [results, Try.f42, go_sem]; try rfl) rfl HFI.out
        | false =>
          go_wp2_with fail
          with_reducible refine HIO3.out.mono ?_
          rintro e w4 ⟨rfl, b4⟩
          have B4 := Lib.hid (B3.out.trans (b4.mono B3.out.size))
          have hB := HB.out
          simp only [Bool.false_eq_true, if_false] at hB
          have HBB := Lib.hid hB
          clear hB b4
          go_wp2_with fail
          exact bodyPost_ret (v := .tuple #[.slice none 0 0, .int .i64 3]) (by simp [results, Try.f42, go_sem]; try rfl) rfl (RetBb.no HBB.out B4.out)
theorem buildE_cases (ev : Nat) (es : List En) : (∃ F, buildE ev es = (sealB F, 0) ∧ F.length ≤ 1048576) ∨ (∃ k : Int, buildE ev es = ([], k) ∧ (k = 2 ∨ k = 3)) := by
  unfold buildE
  split
  · exact .inr ⟨2, rfl, .inl rfl⟩
  · split
    · exact .inr ⟨2, rfl, .inl rfl⟩
    · split
      · exact .inl ⟨_, rfl, by omega⟩
      · exact .inr ⟨3, rfl, .inr rfl⟩
end Go.Proofs.Ytgigohfjioifaaa
namespace Go.Proofs.Ytgigohfjioifaaa
open Go Go.RowKit

def lastK (es : List En) : List UInt8 := (es.getLast?.map (·.key)).getD []
/-- The entries from place a on, and the every. -/
def parR (xs : List UInt8) (sec : Int) : Nat → Nat → List En → Nat → Option (List En × Nat)
  | 0, _, _, _ => none
  | f + 1, a, es, ev => if xs.length ≤ a then some (es, ev) else
      if badR xs (lastK es) a then none
      else parR xs sec f (e7R xs a).2.1 (es ++ [entR xs (lastK es) a]) (if (a : Int) = sec then es.length else ev)
/-- What stands in a block: its entries and the every. -/
def parB (xs : List UInt8) : Option (List En × Nat) :=
  match splitB xs with
  | none => none
  | some (ys, zs) =>
    let sec : Int := if 8 ≤ zs.length then (numK (zs.drop 4) 4 : Int) else -1
    match parR ys sec (ys.length + 1) 0 [] 0 with
    | none => none
    | some (es, ev) => some (es, if sec < 0 then max es.length 1 else ev)
theorem numR_mono {xs : List UInt8} {s : Nat × Bool} (h : s.1 ≤ xs.length) : s.1 ≤ (numR xs s).2.1 ∧ ((numR xs s).2.2 = false → s.1 < (numR xs s).2.1) := by
  unfold numR
  split
  · rename_i e
    rcases hg : getU xs (s.1 : Int) with ⟨m, nx, e2⟩
    rw [hg] at e
    obtain ⟨k, rfl, h1, h2, h3⟩ := getU_err h hg e
    simp only [Int.toNat_natCast]
    exact ⟨by omega, fun _ => h1⟩
  · exact ⟨Nat.le_refl _, fun h => by cases h⟩
theorem takeR_mono {xs : List UInt8} {n : Nat} {s : Nat × Bool} : s.1 ≤ (takeR xs n s).2.1 := by
  unfold takeR
  split
  · exact Nat.le_refl _
  · simp only; omega
theorem badR_no {xs ah : List UInt8} {a : Nat} (h : badR xs ah a = false) : (e7R xs a).2.2 = false ∧ (e1R xs a).1 ≤ ah.length ∧ (e1R xs a).1 + (e6R xs a).1.length ≤ 1024 := by
  unfold badR at h
  simp only [Bool.or_eq_false_iff, decide_eq_false_iff_not] at h
  obtain ⟨⟨h1, h2⟩, h3⟩ := h
  exact ⟨h1, by omega, by omega⟩
theorem bad_chain {xs : List UInt8} {a : Nat} (h : (e7R xs a).2.2 = false) : (e6R xs a).2.2 = false ∧ (e5R xs a).2.2 = false ∧ (e4R xs a).2.2 = false ∧ (e3R xs a).2.2 = false ∧ (e2R xs a).2.2 = false ∧ (e1R xs a).2.2 = false := by
  unfold e7R at h
  have h6 := (takeR_bad h).1
  have h6' := h6
  unfold e6R at h6'
  have h5 := (takeR_bad h6').1
  have h5' := h5
  unfold e5R at h5'
  have h4 := numR_bad h5'
  have h4' := h4
  unfold e4R at h4'
  have h3 := (takeR_bad h4').1
  have h3' := h3
  unfold e3R at h3'
  have h2 := numR_bad h3'
  have h2' := h2
  unfold e2R at h2'
  exact ⟨h6, h5, h4, h3, h2, numR_bad h2'⟩
theorem e_le {xs : List UInt8} {a : Nat} (ha : a ≤ xs.length) : (e1R xs a).2.1 ≤ xs.length ∧ (e2R xs a).2.1 ≤ xs.length ∧ (e3R xs a).2.1 ≤ xs.length ∧ (e4R xs a).2.1 ≤ xs.length ∧ (e5R xs a).2.1 ≤ xs.length ∧ (e6R xs a).2.1 ≤ xs.length ∧ (e7R xs a).2.1 ≤ xs.length := by
  have q1 : (e1R xs a).2.1 ≤ xs.length := by unfold e1R; exact (numR_le ha).1
  have q2 : (e2R xs a).2.1 ≤ xs.length := by unfold e2R; exact (numR_le q1).1
  have q3 : (e3R xs a).2.1 ≤ xs.length := by unfold e3R; exact (numR_le q2).1
  have q4 : (e4R xs a).2.1 ≤ xs.length := by unfold e4R; exact (takeR_le q3).1
  have q5 : (e5R xs a).2.1 ≤ xs.length := by unfold e5R; exact (numR_le q4).1
  have q6 : (e6R xs a).2.1 ≤ xs.length := by unfold e6R; exact (takeR_le q5).1
  have q7 : (e7R xs a).2.1 ≤ xs.length := by unfold e7R; exact (takeR_le q6).1
  exact ⟨q1, q2, q3, q4, q5, q6, q7⟩
theorem e7_more {xs : List UInt8} {a : Nat} (ha : a ≤ xs.length) (h : (e7R xs a).2.2 = false) : a < (e7R xs a).2.1 := by
  obtain ⟨b6, b5, b4, b3, b2, b1⟩ := bad_chain h
  obtain ⟨l1, l2, l3, l4, l5, l6, l7⟩ := e_le ha
  have m1 : a < (e1R xs a).2.1 := by unfold e1R at b1 ⊢; exact (numR_mono ha).2 b1
  have m2 : (e1R xs a).2.1 ≤ (e2R xs a).2.1 := by unfold e2R; exact (numR_mono l1).1
  have m3 : (e2R xs a).2.1 ≤ (e3R xs a).2.1 := by unfold e3R; exact (numR_mono l2).1
  have m4 : (e3R xs a).2.1 ≤ (e4R xs a).2.1 := by unfold e4R; exact takeR_mono
  have m5 : (e4R xs a).2.1 ≤ (e5R xs a).2.1 := by unfold e5R; exact (numR_mono l4).1
  have m6 : (e5R xs a).2.1 ≤ (e6R xs a).2.1 := by unfold e6R; exact takeR_mono
  have m7 : (e6R xs a).2.1 ≤ (e7R xs a).2.1 := by unfold e7R; exact takeR_mono
  omega
theorem entR_key {xs ah : List UInt8} {a : Nat} (h : badR xs ah a = false) : (entR xs ah a).key.length ≤ 1024 := by
  obtain ⟨_, h2, h3⟩ := badR_no h
  unfold entR
  simp only [List.length_append, List.length_take]
  omega
theorem lastK_snoc (es : List En) (x : En) : lastK (es ++ [x]) = x.key := by
  unfold lastK
  simp
theorem fam_join {w : World} {base B : Nat} {ps qs : List VB} (h : Fam w base ps) (hlt : ∀ p ∈ ps, ∀ b, Value.ownBlock p.1 = some b → b < B) (hn : Fam w B qs) (hB : base ≤ B) : Fam w base (ps ++ qs) := by
  refine ⟨fun p hp => ?_, List.pairwise_append.2 ⟨h.2, hn.2, fun p hp q hq k e1 e2 => ?_⟩⟩
  · rcases List.mem_append.1 hp with hp | hp
    · exact h.1 p hp
    · obtain ⟨A, m, c, e, ho⟩ := hn.1 p hp
      exact ⟨A, m, c, e, ho.mono hB⟩
  · have k1 := hlt p hp k e1
    have k2 := (hn.lt hq e2).1
    omega
/-- 'A row of entries of the call's own, off the reader; all of it lies below B.' -/
def PR (base B p : Nat) (L : Option Addr) (i d : Nat) (es : List En) (w : World) (vs : List Value) : Prop :=
  OwnE w base L i d vs ∧ EOs base w es vs ∧ OffW vs (blk L) ∧ es.length = i ∧ Fam w base (pairE es vs) ∧ OffW vs (some p) ∧ blk L ≠ some p ∧
    (∀ A m c g, Value.slice A m c ∈ vs → blk A = some g → g < B) ∧ (∀ g, blk L = some g → g < B)
section
variable {base B p i d : Nat} {L : Option Addr} {es : List En} {w w' : World} {vs : List Value}
theorem PR.kept (h : PR base B p L i d es w vs) (hg : w.grownBy w' (some p)) : PR base B p L i d es w' vs := by
  obtain ⟨q1, q2, q3, q4, q5, q6, q7, q8, q9⟩ := h
  refine ⟨?_, EOs.kept hg q2 q6, q3, q4, q5.kept hg (fun b hb r hr e => ?_), q6, q7, q8, q9⟩
  · refine ⟨q1.1, ?_⟩
    rcases q1.2 with h1 | ⟨g, cap, cur, h1, h2, h3, h4⟩
    · exact .inl h1
    · refine .inr ⟨g, cap, cur, h1, h2, ?_, h4⟩
      have hne : some g ≠ some p := fun e => q7 (by injection h1 with h1; rw [h1]; exact e)
      obtain ⟨_, _, _, _, k5⟩ := hg
      have hlt : g < w.heap.size := (Array.getElem?_eq_some_iff.1 h3).1
      exact (k5 g hlt hne).trans h3
  · injection hb with hb
    subst hb
    obtain ⟨A, m, c, e1, _⟩ := q5.1 r hr
    rw [e1, own_blk] at e
    have := pairE_mem hr
    rw [e1] at this
    exact q6 p rfl A m c this e
theorem PR.below (h : PR base B p L i d es w vs) (hb : Below w.heap.size w w') : PR base B p L i d es w' vs := by
  obtain ⟨q1, q2, q3, q4, q5, q6, q7, q8, q9⟩ := h
  exact ⟨q1.below hb, q2.below hb, q3, q4, q5.below hb, q6, q7, q8, q9⟩
theorem PR.zero (base B p : Nat) (w : World) : PR base B p none 0 0 [] w [] := ⟨OwnE.nil _ _, rfl, OffW.nil _, rfl, Fam.nil _ _, OffW.nil _, (fun h => by cases h), (fun A m c g h => by cases h), (fun g h => by cases h)⟩
theorem PR.rd (h : PR base B p L i d es w vs) : REs w L i es := by
  obtain ⟨q1, q2, q3, q4, _⟩ := h
  exact REs.mk q2.evs q1.rd q4
theorem PR.row {W : World} (h : PR base B p L i d es w vs) (hb : Below base W w) (hs : base ≤ w.heap.size) : RowE W base L i d es w := by
  obtain ⟨q1, q2, q3, q4, q5, _⟩ := h
  exact ⟨vs, q1, q2, q3, q4, hb, hs, q5⟩
/-- One more. -/
theorem pr_add {w4 : World} {L' K V : Option Addr} {d' kn kc vn vc : Nat} {x : En} (h : PR base B p L i d es w vs) (oK : Own 5 w B K kn kc x.key) (oV : Own 5 w B V vn vc x.val) (dj : Dj K V) (hwf : U64 x.seq ∧ x.kind < 256) (hB : base ≤ B) (hp : p < B) (hBw : B ≤ w.heap.size)
    (h4 : OwnE w4 base L' (i + 1) d' (vs ++ [.slice K kn kc, .int .u64 (x.seq : Int), .int .u8 (x.kind : Int), .slice V vn vc])) (hg : w.grownBy w4 (blk L)) (hb : blk L' = blk L ∨ blk L' = some (w.heap.size + 1)) :
    PR base w4.heap.size p L' (i + 1) d' (es ++ [x]) w4 (vs ++ [.slice K kn kc, .int .u64 (x.seq : Int), .int .u8 (x.kind : Int), .slice V vn vc]) := by
  obtain ⟨q1, q2, q3, q4, q5, q6, q7, q8, q9⟩ := h
  have eo : EO base w x (.slice K kn kc) (.int .u64 (x.seq : Int)) (.int .u8 (x.kind : Int)) (.slice V vn vc) := ⟨K, kn, kc, V, vn, vc, rfl, rfl, rfl, rfl, oK.mono hB, oV.mono hB, hwf⟩
  have hge : ∀ A m c g, Value.slice A m c ∈ [Value.slice K kn kc, .int .u64 (x.seq : Int), .int .u8 (x.kind : Int), .slice V vn vc] → blk A = some g → B ≤ g ∧ g < w.heap.size := fun A m c g hv hgg => by
    simp only [List.mem_cons, List.not_mem_nil, or_false] at hv
    rcases hv with e | e | e | e
    · injection e with e1 e2 e3; subst e1; exact oK.lt g hgg
    · cases e
    · cases e
    · injection e with e1 e2 e3; subst e1; exact oV.lt g hgg
  have o1 : OffW [Value.slice K kn kc, .int .u64 (x.seq : Int), .int .u8 (x.kind : Int), .slice V vn vc] (blk L) := fun g hgg A m c hv e => by
    have h1 := hge A m c g hv e
    have h2 := q9 g hgg
    omega
  have hgs := hg.size
  have f1 : Fam w base (pairE es vs ++ [(.slice K kn kc, x.key), (.slice V vn vc, x.val)]) := fam_join q5 (fun r hr b e => by
    obtain ⟨A, m, c, e1, _⟩ := q5.1 r hr
    have := pairE_mem hr
    rw [e1] at this e
    rw [own_blk] at e
    exact q8 A m c b this e) (fam_two oK oV dj) hB
  refine ⟨h4, (EOs.kept hg q2 q3).app (EOs.one (eo.kept hg o1)), ?_, by simp [q4], ?_, ?_, ?_, ?_, ?_⟩
  · rcases hb with e | e
    · rw [e]; exact q3.app o1
    · rw [e]
      intro g hg2 C m c hv2 hv3
      injection hg2 with hg2
      rcases List.mem_append.1 hv2 with hq | hq
      · have := (EOs.lt q2 hq hv3).2
        omega
      · have := hge C m c g hq hv3
        omega
  · rw [pairE_app q2]
    refine f1.kept hg (fun b e r hr e2 => ?_)
    obtain ⟨A, m, c, e1, _⟩ := f1.1 r hr
    have hm : Value.slice A m c ∈ vs ++ [.slice K kn kc, .int .u64 (x.seq : Int), .int .u8 (x.kind : Int), .slice V vn vc] := by
      rw [← e1]
      rcases List.mem_append.1 hr with h | h
      · exact List.mem_append_left _ (pairE_mem h)
      · refine List.mem_append_right _ ?_
        simp only [List.mem_cons, List.not_mem_nil, or_false] at h
        rcases h with rfl | rfl
        · simp
        · simp
    rw [e1, own_blk] at e2
    exact (q3.app o1) b e A m c hm e2
  · exact q6.app (fun g hgg A m c hv e => by
      injection hgg with hgg
      have := hge A m c g hv e
      omega)
  · rcases hb with e | e
    · rw [e]; exact q7
    · rw [e]
      intro h
      injection h with h
      omega
  · intro A m c g hv e
    rcases List.mem_append.1 hv with hq | hq
    · have := (EOs.lt q2 hq e).2
      omega
    · have := hge A m c g hq e
      omega
  · intro g e
    exact (h4.lt g e).2
end
end Go.Proofs.Ytgigohfjioifaaa
namespace Go.Proofs.Ytgigohfjioifaaa
open Go Go.RowKit

theorem ownV_box8 (w : World) (t : TypeId) (base : Nat) (vs : List Value) (n : Nat) (hl : vs.length = n) (hn : n ≤ 1024) (hb : base ≤ w.heap.size) (cs : Array Value) (hc : cs = vs.toArray) (g : Nat) (hg : g = w.heap.size) : OwnV t (w.alloc (.cells cs t)) base (some ⟨g, 0, none⟩) n n vs := by
  subst hc hg
  refine ⟨by simp [hl], .inr ⟨w.heap.size, n, vs.toArray, rfl, hb, heap_alloc_new w _, Nat.le_refl _, by unfold maxLen; omega, by simp [hl], ?_⟩⟩
  simp only [Nat.mul_one]
  exact List.take_of_length_le (by simp [hl])
theorem Rd.cst8 (w : World) (e : TypeId) (n : Nat) (xs : List UInt8) (hn : xs.length = n) (vs : Array Value) (hv : vs = (xs.map cv).toArray) (fr : Nat × Nat) (g : Nat) (hg : g = w.heap.size) :
    Rd (w.alloc (.cells vs e fr)) (some ⟨g, 0, none⟩) n xs := by
  subst hv hg
  refine ⟨hn, fun _ => ⟨w.heap.size, 0, rfl, by simp, fun i x hx => ?_⟩⟩
  have h := cell_of_row (w.alloc (.cells (xs.map cv).toArray e fr)) w.heap.size (0 + i) (xs.map cv).toArray e fr (heap_alloc_new w _)
  rw [h]
  simp [hx, cv]

def e81 : En := ⟨[97, 98], 5, 1, [120]⟩
def e82 : En := ⟨[97, 98, 99], 7, 2, []⟩
theorem b8 : (buildE 2 [e81, e82]).2 = 0 ∧ (buildE 2 [e81, e82]).1.length = 30 ∧ (buildE 2 [e81, e82]).1[8]? = some 0 ∧ (buildE 2 [e81, e82]).1[9]? = some 2 ∧ (buildE 2 [e81, e82]).1[10]? = some 5 ∧ (buildE 2 [e81, e82]).1[16]? = some 2 ∧ (buildE 2 [e81, e82]).1[17]? = some 1 ∧ (buildE 2 [e81, e82]).1[18]? = some 7 := by decide +kernel
set_option maxRecDepth 100000 in
set_option maxHeartbeats 4000000 in
theorem awake8_any (w : World) : Calls Try.prog 11 #[] w (RetT w true) := by
  have kc := fun (w : World) (C : Array Value) (n c g : Nat) (hg : g = w.heap.size) => Joins.run_convert_bytes_const_at (P := Try.prog) w 22 5 C n c g hg Try.underlying22 Try.underlying5
  go_enter Try.func11, Try.ntmps11
  go_wp2_with fail
  obtain ⟨W, hW⟩ : ∃ W, W = (((w.alloc (.cells #[.int .u8 97, .int .u8 98] 5 (2, 3))).alloc (.cells #[.int .u8 120] 5 (1, 2))).alloc (.cells #[.int .u8 97, .int .u8 98, .int .u8 99] 5 (3, 4))).alloc (.cells #[.slice (some ⟨w.heap.size, 0, none⟩) 2 2, .int .u64 5, .int .u8 1, .slice (some ⟨w.heap.size + 1, 0, none⟩) 1 1, .slice (some ⟨w.heap.size + 1 + 1, 0, none⟩) 3 3, .int .u64 7, .int .u8 2, .slice none 0 0] 33) := ⟨_, rfl⟩
  rw [← hW]
  have bW : Below w.heap.size w W := by rw [hW]; exact ((((Below.refl _ _).alloc (Nat.le_refl _) _).alloc (by simp) _).alloc (by simp; omega) _).alloc (by simp; omega) _
  have r1 : Rd W (some ⟨w.heap.size, 0, none⟩) 2 [97, 98] := by rw [hW]; exact (((Rd.cst8 w _ 2 [97, 98] rfl _ rfl (2, 3) _ rfl).alloc _).alloc _).alloc _
  have r2 : Rd W (some ⟨w.heap.size + 1, 0, none⟩) 1 [120] := by rw [hW]; exact ((Rd.cst8 _ _ 1 [120] rfl _ rfl (1, 2) _ (by simp)).alloc _).alloc _
  have r3 : Rd W (some ⟨w.heap.size + 1 + 1, 0, none⟩) 3 [97, 98, 99] := by rw [hW]; exact (Rd.cst8 _ _ 3 [97, 98, 99] rfl _ rfl (3, 4) _ (by simp)).alloc _
  have rV : RdV W (some ⟨w.heap.size + 1 + 1 + 1, 0, none⟩) 8 [.slice (some ⟨w.heap.size, 0, none⟩) 2 2, .int .u64 5, .int .u8 1, .slice (some ⟨w.heap.size + 1, 0, none⟩) 1 1, .slice (some ⟨w.heap.size + 1 + 1, 0, none⟩) 3 3, .int .u64 7, .int .u8 2, .slice none 0 0] := by rw [hW]; exact (ownV_box8 _ _ 0 _ 8 rfl (by omega) (Nat.zero_le _) _ rfl _ (by simp)).rd
  have hev1 : EV W e81 (.slice (some ⟨w.heap.size, 0, none⟩) 2 2) (.int .u64 5) (.int .u8 1) (.slice (some ⟨w.heap.size + 1, 0, none⟩) 1 1) := ⟨rfl, rfl, by unfold e81 U64; simp, by unfold e81; simp, ⟨_, 2, 2, rfl, r1, by omega, fun h => by cases h⟩, ⟨_, 1, 1, rfl, r2, by omega, fun h => by cases h⟩⟩
  have hev2 : EV W e82 (.slice (some ⟨w.heap.size + 1 + 1, 0, none⟩) 3 3) (.int .u64 7) (.int .u8 2) (.slice none 0 0) := ⟨rfl, rfl, by unfold e82 U64; simp, by unfold e82; simp, ⟨_, 3, 3, rfl, r3, by omega, fun h => by cases h⟩, ⟨_, 0, 0, rfl, Rd.nil _ _, by omega, fun _ => rfl⟩⟩
  have hes : REs W (some ⟨w.heap.size + 1 + 1 + 1, 0, none⟩) 2 [e81, e82] := REs.mk (vs := [_, _, _, _] ++ [_, _, _, _]) (EVs.app (EVs.one hev1) (EVs.one hev2)) rV rfl
  have hbd : Calls Try.prog 42 #[.int .i64 2, .slice (some ⟨w.heap.size + 1 + 1 + 1, 0, none⟩) 2 2] W (RetBb W (buildE 2 [e81, e82])) := build8_any hes (by omega) 2 (by omega) (by omega)
  obtain ⟨q1, q2, f1, f2, f3, f4, f5, f6⟩ := b8
  obtain ⟨z, hz⟩ : ∃ z, z = (buildE 2 [e81, e82]).1 := ⟨_, rfl⟩
  have hbd2 : Calls Try.prog 42 #[.int .i64 2, .slice (some ⟨w.heap.size + 1 + 1 + 1, 0, none⟩) 2 2] W (fun e w' => ∃ A c, e = .returned (.tuple #[.slice A 30 c, .int .i64 0]) ∧ Rd w' A 30 z ∧ Below W.heap.size W w') := hbd.mono (by
    rintro e w' ⟨A, c, he, ho, hb⟩
    rw [q1, q2] at he
    rw [q2, ← hz] at ho
    exact ⟨A, c, he, ho.rd, hb⟩)
  rw [← hz] at f1 f2 f3 f4 f5 f6
  have HBD := Lib.hid hbd2
  have HF := Lib.hid (And.intro f1 (And.intro f2 (And.intro f3 (And.intro f4 (And.intro f5 f6)))))
  have BW := Lib.hid bW
  clear hbd hbd2 hW bW r1 r2 r3 rV hev1 hev2 hes q1 q2 f1 f2 f3 f4 f5 f6 hz kc
  with_reducible refine HBD.out.mono ?_
  rintro e w2 ⟨A, c, rfl, rd, b2⟩
  obtain ⟨b, off, rfl, _⟩ := rd.pos (by omega)
  have key : ∀ (i : Nat) (y : UInt8), i < 30 → z[i]? = some y → w2.cell? ⟨b, off + i, none⟩ = some (.int .u8 (y.toNat : Int)) := fun i y hi hy => by
    obtain ⟨x, hx, hc, _⟩ := rd.at_ i hi
    rw [hy] at hx
    injection hx with hx
    rw [hx]
    exact hc
  have g1 : w2.cell? ⟨b, off + 8, none⟩ = some (.int .u8 0) := key 8 0 (by omega) HF.out.1
  have g2 : w2.cell? ⟨b, off + 9, none⟩ = some (.int .u8 2) := key 9 2 (by omega) HF.out.2.1
  have g3 : w2.cell? ⟨b, off + 10, none⟩ = some (.int .u8 5) := key 10 5 (by omega) HF.out.2.2.1
  have g4 : w2.cell? ⟨b, off + 16, none⟩ = some (.int .u8 2) := key 16 2 (by omega) HF.out.2.2.2.1
  have g5 : w2.cell? ⟨b, off + 17, none⟩ = some (.int .u8 1) := key 17 1 (by omega) HF.out.2.2.2.2.1
  have g6 : w2.cell? ⟨b, off + 18, none⟩ = some (.int .u8 7) := key 18 7 (by omega) HF.out.2.2.2.2.2
  have B2 := Lib.hid (BW.out.trans (b2.mono BW.out.size))
  clear key rd b2
  go_wp2_with fail
  go_ret
  exact ⟨rfl, B2.out⟩
end Go.Proofs.Ytgigohfjioifaaa
namespace Go.Proofs.Ytgigohfjioifaaa
open Go Go.RowKit

def lenV : Value → Nat
  | .slice _ n _ => n
  | _ => 0
/-- What parse hands back: the entries, the every; or none. -/
def RetPa8 (w : World) (r : Option (List En × Nat)) (e : Ending) (w' : World) : Prop :=
  (r = none ∧ e = .returned (.tuple #[.slice none 0 0, .int .i64 0, .bool false]) ∧ Below w.heap.size w w') ∨
  ∃ es ev L d, r = some (es, ev) ∧ e = .returned (.tuple #[.slice L es.length d, .int .i64 (ev : Int), .bool true]) ∧ RowE w w.heap.size L es.length d es w' ∧ es.length ≤ 16777216 ∧ ev ≤ 16777216
/-- What stands at the head of parse's loop. -/
def PRel (w : World) (p : Nat) (E : Option Addr) (en ec : Nat) (ys : List UInt8) (sec : Int) (s10 s11 s12 : Value) (wr : World) : Prop :=
  ∃ (f a i d hn hc ev : Nat) (es : List En) (L H : Option Addr) (vs : List Value), s10 = .int .i64 (ev : Int) ∧ s11 = .slice L i d ∧ s12 = .slice H hn hc ∧
    parR ys sec (en + 1) 0 [] 0 = parR ys sec f a es ev ∧ a ≤ en ∧ en < a + f ∧ i ≤ a ∧ ev ≤ i ∧ Rdr wr p E en ec (a, false) ∧ PR w.heap.size wr.heap.size p L i d es wr vs ∧
    Rd wr H hn (lastK es) ∧ hn ≤ hc ∧ (H = none → hc = 0) ∧ blk H ≠ some p ∧ hn ≤ 1024 ∧ Below w.heap.size w wr
set_option maxRecDepth 100000 in
set_option maxHeartbeats 16000000 in
theorem parse_any (A : Option Addr) (n c : Nat) (xs : List UInt8) (w : World) (hx : Rd w A n xs) (hn : n ≤ 16777216) (hnc : n ≤ c) (hnil : A = none → c = 0) :
    Calls Try.prog 48 #[.slice A n c] w (RetPa8 w (parB xs)) := by
  have hxl := hx.len
  have HSP := Lib.hid (split_any A n c xs w hx (by omega) hnc hnil)
  cases hsb : splitB xs with
  | none =>
    have hp : parB xs = none := by unfold parB; rw [hsb]
    have HP := Lib.hid hp
    clear hp hx hxl
    go_enter Try.func48, Try.ntmps48
    go_wp2_with fail
    refine HSP.out.mono ?_
    rintro e w1 ⟨⟨q, hq⟩, ⟨_, rfl⟩ | ⟨ys, zs, B1, n1, c1, B2, n2, c2, h0, _⟩⟩
    · have HQ := Lib.hid hq
      clear hq
      go_wp2_with fail
      exact bodyPost_ret (v := .tuple #[.slice none 0 0, .int .i64 0, .bool false]) (by simp [results, Try.f48, go_sem]; try rfl) rfl (.inl ⟨HP.out, rfl, by rw [HQ.out]; exact below_drewN (Below.refl _ _) q⟩)
    · rw [hsb] at h0
      cases h0
  | some yz =>
    obtain ⟨ys, zs⟩ := yz
    obtain ⟨sec, hsec⟩ : ∃ sec : Int, sec = if 8 ≤ zs.length then (numK (zs.drop 4) 4 : Int) else -1 := ⟨_, rfl⟩
    have hp : parB xs = match parR ys sec (ys.length + 1) 0 [] 0 with
      | none => none
      | some (es, ev) => some (es, if sec < 0 then max es.length 1 else ev) := by
      unfold parB
      rw [hsb]
      simp only
      rw [← hsec]
      all_goals (cases parR ys sec (ys.length + 1) 0 [] 0 <;> rfl)
    have HP := Lib.hid hp
    have HSEC := Lib.hid hsec
    have HSB := Lib.hid hsb
    clear hp hsec hsb
    go_enter Try.func48, Try.ntmps48
    go_wp2_with fail
    refine HSP.out.mono ?_
    rintro e w1 ⟨⟨q, hq⟩, ⟨h0, _⟩ | ⟨ys', zs', E, en, ec, Z, zn, zc, h0, rfl, hec, hzc, rE, rZ, hEn, hZn, hEA, hlen⟩⟩
    · rw [HSB.out] at h0
      cases h0
    · rw [HSB.out] at h0
      injection h0 with h0
      injection h0 with h01 h02
      subst h01 h02
      have rE1 : Rd w1 E en ys := by rw [hq]; exact rE.drewN q
      have rZ1 : Rd w1 Z zn zs := by rw [hq]; exact rZ.drewN q
      have b1 : Below w.heap.size w w1 := by rw [hq]; exact below_drewN (Below.refl _ _) q
      have s1 : w1.heap.size = w.heap.size := by rw [hq]; rfl
      have hsz : sec = if 8 ≤ zn then (numK (zs.drop 4) 4 : Int) else -1 := by rw [HSEC.out, rZ.len]
      have HSZ := Lib.hid hsz
      have HRZ := Lib.hid rZ1
      have HRE := Lib.hid rE1
      have HB1 := Lib.hid b1
      have HREw := Lib.hid rE
      have hA0 : 0 < n := by have := hxl; omega
      have hpe : ∀ p, w.heap.size ≤ p → blk E ≠ some p := fun p hp e => by
        rcases hEA with e2 | e2
        · rw [e2] at e; cases e
        · obtain ⟨bA, oA, eA, hbA⟩ := hx.pos hA0
          rw [e2, eA] at e
          injection e with e
          simp only at e
          omega
      have HPE := Lib.hid hpe
      have HS1 := Lib.hid s1
      have hznn : zn ≤ 16777216 := by omega
      have henn : en ≤ 16777216 := by omega
      clear hq rE rZ rE1 rZ1 b1 s1 hsz HSP hx hpe hEA
      go_upto_if 25 with (fail)
      go_cut [8] from 15 to 29 (fun s8 wx => s8 = .int .i64 sec ∧ ∃ q, wx = w1.drewN q)
      case first =>
        by_cases h8 : 8 ≤ zn
        · have h8i : (8 : Int) ≤ (zn : Int) := by omega
          obtain ⟨k, hk⟩ : ∃ k, k = numK (zs.drop 4) 4 := ⟨_, rfl⟩
          have hse : sec = (k : Int) := by rw [HSZ.out, if_pos h8, hk]
          have hsl : ∀ W : World, (Instr.slice 22 (.slice Z zn zc) (some (.int .i64 4)) none none).run Try.prog W = .ok (.slice (cutA Z 4 zc) (zn - 4) (zc - 4)) W := cut_l (k := 4) Try.underlying22 elem_bytes size_u8 Z (by omega)
          have HGW : Hid (Calls Try.prog 87 #[.slice (cutA Z 4 zc) (zn - 4) (zc - 4)] w1 (RetCo w1 k)) := Lib.hid (by
            rw [hk]
            have h := HRZ.out.cut (k := 4) (m := zn) (cap := zc) (by omega) (Nat.le_refl _) hzc
            rw [List.take_of_length_le (by have := HRZ.out.len; omega)] at h
            exact getWord8_any _ _ _ _ w1 h (by omega) (by omega) (by omega))
          obtain ⟨zm, hzm⟩ : ∃ zm, zm = zn - 4 := ⟨_, rfl⟩
          rw [← hzm] at hsl HGW
          have HSE := Lib.hid hse
          clear hk hse hzm
          go_wp2_with fail
          with_reducible refine HGW.out.mono ?_
          rintro e w2 ⟨rfl, q2, hq2⟩
          have HQ2 := Lib.hid hq2
          clear hq2
          go_wp2_with fail
          go_meet
          case rel => exact ⟨by rw [HSE.out], q2, HQ2.out⟩
        · have h8i : ¬ (8 : Int) ≤ (zn : Int) := by omega
          have hse : sec = -1 := by rw [HSZ.out, if_neg h8]
          have HSE := Lib.hid hse
          clear hse
          go_wp2_with fail
          go_meet
          case rel => exact ⟨by rw [HSE.out], 0, rfl⟩
      case rest =>
        obtain ⟨rfl, q2, hq2⟩ := hcut
        have bc : Below w.heap.size w wc := by rw [hq2]; exact below_drewN HB1.out q2
        have sc : wc.heap.size = w.heap.size := by rw [hq2, ← HS1.out]; rfl
        have hyl : ys.length = en := HRE.out.len
        have HYL := Lib.hid hyl
        obtain ⟨W, hW⟩ : ∃ W, W = wc.alloc (.cells #[.slice E en ec, .int .i64 0, .bool false] 123) := ⟨_, rfl⟩
        obtain ⟨p, hpw⟩ : ∃ p, p = wc.heap.size := ⟨_, rfl⟩
        have hWr : Rdr W p E en ec (0, false) := by rw [hW, hpw]; exact Cl.new _ _ _
        have bW : Below w.heap.size w W := by rw [hW]; exact bc.alloc (by omega) _
        have sW : p < W.heap.size := by rw [hW, hpw]; simp
        have hpge : w.heap.size ≤ p := by omega
        have HWR := Lib.hid (And.intro hWr bW)
        have HSW := Lib.hid sW
        have HW := Lib.hid hW
        have HPW := Lib.hid hpw
        clear hq2 bc sc hyl hWr bW sW hW hpw
        go_upto_region 8 with (fail)
        rw [← HW.out, ← HPW.out]
        go_wp2_with fail
        go_loopw [10, 11, 12] (fun s10 s11 s12 wr => PRel w p E en ec ys sec s10 s11 s12 wr ∧ p < wr.heap.size) (fun _ s _ _ => en + 1 - lenV s)
        case atStart => exact ⟨⟨en + 1, 0, 0, 0, 0, 0, 0, [], none, none, [], rfl, rfl, rfl, rfl, Nat.zero_le _, by omega, Nat.le_refl _, Nat.le_refl _, HWR.out.1, PR.zero _ _ _ _, Rd.nil _ _, Nat.le_refl _, fun _ => rfl, (fun h => by cases h), by omega, HWR.out.2⟩, HSW.out⟩
        case round =>
          obtain ⟨⟨f, a, i, d, hn2, hc2, ev, es, L, H, vs, rfl, rfl, rfl, hpar, hae, haf, hia, hevi, hRd, hPR, hH, hHc, hHn, hHp, hH1, hB⟩, hpl⟩ := hrel
          have hcl : Cl wr p #[.slice E en ec, .int .i64 (a : Int), .bool false] 123 := hRd
          obtain ⟨c0, c1, c2, f0, f1, f2⟩ := hcl.c3
          have HPAR := Lib.hid hpar
          have HB := Lib.hid hB
          have HPR := Lib.hid hPR
          have HRD := Lib.hid hRd
          have HHR := Lib.hid hH
          clear hpar hB hPR hRd hcl hH
          by_cases hlt : a < en
          · obtain ⟨f', rfl⟩ : ∃ f', f = f' + 1 := ⟨f - 1, by omega⟩
            obtain ⟨ev2, hev2⟩ : ∃ ev2, ev2 = if (a : Int) = sec then i else ev := ⟨_, rfl⟩
            have hev2i : ev2 ≤ i := by rw [hev2]; split <;> omega
            have HEV2 := Lib.hid hev2
            have hil : es.length = i := HPR.out.2.2.2.1
            have HIL := Lib.hid hil
            clear hev2 hil
            go_upto_if 40 with (fail)
            go_cut [10] from 37 to 43 (fun s10 wx => s10 = .int .i64 (ev2 : Int) ∧ wx = wr)
            case first =>
              by_cases hs : (a : Int) = sec
              · have he : ev2 = i := by rw [HEV2.out, if_pos hs]
                have t1 : ((a : Int) == sec) = true := by simpa using hs
                subst he
                go_wp2_with fail
                go_meet
                case rel => exact ⟨rfl, rfl⟩
              · have he : ev2 = ev := by rw [HEV2.out, if_neg hs]
                have t1 : ((a : Int) == sec) = false := by simpa using hs
                subst he
                go_wp2_with fail
                go_meet
                case rel => exact ⟨rfl, rfl⟩
            case rest =>
              obtain ⟨rfl, hwc⟩ := hcut
              rw [hwc]
              clear hwc wc
              have HEN := Lib.hid (entry_any wr p E en ec ys H hn2 hc2 (lastK es) a HRD.out (HREw.out.below HB.out) HHR.out hae (by omega) hec hEn (by omega) hHc (HPE.out p hpge) hHp hHn)
              have hstep : parR ys sec (f' + 1) a es ev = if badR ys (lastK es) a then none else parR ys sec f' (e7R ys a).2.1 (es ++ [entR ys (lastK es) a]) ev2 := by
                rw [parR, if_neg (by rw [HYL.out]; omega), HEV2.out, HIL.out]
              have HST := Lib.hid hstep
              clear hstep
              go_wp2_with fail
              with_reducible refine HEN.out.mono ?_
              intro e w2 hq
              obtain ⟨r2, g2, hcase⟩ := hq
              rcases hcase with ⟨hbad, rfl⟩ | ⟨hbad, K, kn, kc, V, vn, vc, rfl, oK, oV, dj⟩
              · have hfin : parB xs = none := by
                  rw [HP.out, HYL.out, HPAR.out, HST.out, hbad]
                  rfl
                have hb2 : Below w.heap.size w w2 := HB.out.grown g2 HB.out.size (fun k hk => by injection hk with hk; omega)
                have HF := Lib.hid (And.intro hfin hb2)
                clear hbad r2 g2 hfin hb2
                go_wp2_with fail
                exact bodyPost_ret (v := .tuple #[.slice none 0 0, .int .i64 0, .bool false]) (by simp [results, Try.f48, go_sem]; try rfl) rfl (.inl ⟨HF.out.1, rfl, HF.out.2.alloc HF.out.2.size _⟩)
              · obtain ⟨x, hxe⟩ : ∃ x, x = entR ys (lastK es) a := ⟨_, rfl⟩
                rw [← hxe] at oK oV ⊢
                have hkl : x.key.length ≤ 1024 := by rw [hxe]; exact entR_key hbad
                have hwf : U64 x.seq ∧ x.kind < 256 := by
                  rw [hxe]
                  refine ⟨?_, ?_⟩
                  · have := (numR_le (xs := ys) (s := (e2R ys a).2) (e_le (by rw [HYL.out]; exact hae)).2.1).2
                    exact this
                  · exact UInt8.toNat_lt _
                have hpar2 : parR ys sec (en + 1) 0 [] 0 = parR ys sec f' (e7R ys a).2.1 (es ++ [x]) ev2 := by rw [HPAR.out, HST.out, hbad, hxe]; rfl
                have h7b := (badR_no hbad).1
                have h7l : (e7R ys a).2.1 ≤ en := by rw [← HYL.out]; exact (e_le (by rw [HYL.out]; exact hae)).2.2.2.2.2.2
                have h7m : a < (e7R ys a).2.1 := e7_more (by rw [HYL.out]; exact hae) h7b
                have hr2 : Rdr w2 p E en ec ((e7R ys a).2.1, false) := by
                  have := r2
                  unfold Rdr at this ⊢
                  rw [h7b] at this
                  exact this
                have s2 := g2.size
                have hb2 : Below w.heap.size w w2 := HB.out.grown g2 HB.out.size (fun k hk => by injection hk with hk; omega)
                have hPR2 := HPR.out.kept g2
                obtain ⟨U, hU⟩ : ∃ U, U = w2.alloc (.cells #[.slice K kn kc, .int .u64 (x.seq : Int), .int .u8 (x.kind : Int), .slice V vn vc] 33) := ⟨_, rfl⟩
                obtain ⟨g3, hg3⟩ : ∃ g3, g3 = w2.heap.size := ⟨_, rfl⟩
                have bU : Below w2.heap.size w2 U := by rw [hU]; exact (Below.refl _ _).alloc (Nat.le_refl _) _
                have kU : Cl U g3 #[.slice K kn kc, .int .u64 (x.seq : Int), .int .u8 (x.kind : Int), .slice V vn vc] 33 := by rw [hU, hg3]; exact Cl.new _ _ _
                have sU := bU.size
                have hPRU := hPR2.below bU
                have oKU := oK.below bU
                have oVU := oV.below bU
                have hRU : Rdr U p E en ec ((e7R ys a).2.1, false) := (show Cl w2 p _ _ from hr2).below bU
                have hBU : Below w.heap.size w U := hb2.trans (bU.mono (by have := HB.out.size; omega))
                have hcell : ∀ u ∈ [Value.slice K kn kc, .int .u64 (x.seq : Int), .int .u8 (x.kind : Int), .slice V vn vc], u.oneCell' = true := by
                  intro u hu
                  simp only [List.mem_cons, List.not_mem_nil, or_false] at hu
                  rcases hu with rfl | rfl | rfl | rfl <;> rfl
                have hwb : w.heap.size ≤ wr.heap.size := HB.out.size
                have hkcap := oK.cap
                have hknil : K = none → kc = 0 := fun h => by have := oK.nil_of (by rw [h]; rfl); exact this.2.2
                have hknl := oK.len
                obtain ⟨y0, y1, y2, y3, _⟩ := kU.c4
                have HU := Lib.hid hU
                have HG3 := Lib.hid hg3
                have HPU := Lib.hid hPRU
                have HO := Lib.hid (And.intro oKU (And.intro oVU dj))
                have HRU := Lib.hid (And.intro hRU hBU)
                have HKU := Lib.hid kU
                have HWF := Lib.hid hwf
                have HP2 := Lib.hid hpar2
                have HCE := Lib.hid hcell
                have HKN := Lib.hid hknil
                have HKL := Lib.hid hknl
                have hkn2 : kn ≤ 1024 := by omega
                have hkc2 : kn ≤ kc := hkcap.1
                have hUl : wr.heap.size ≤ U.heap.size := by omega
                have HX := Lib.hid hxe
                have HS2 := Lib.hid s2
                clear hxe hbad oK oV dj r2 g2 hr2 hb2 hPR2 bU kU hPRU oKU oVU hRU hBU hcell hU hwf hpar2 hknil hknl hkcap h7b hkl HEN HST c0 c1 c2 f0 f1 f2 s2 sU
                go_upto_if 49 with (fail)
                rw [← HU.out, ← HG3.out]
                clear hg3
                go_wp2_with (at_builtin; refine wpList_app4t U rfl _ _ 25 rfl w.heap.size _ 64 Try.underlying25 info_ent rfl L i d vs rfl HPU.out.1 _ _ _ _ HCE.out U.heap.size rfl rfl ?_ ?_ ?_ ?_)
                · omega
                · omega
                · omega
                intro L2 d2 w4 hG4 hg4 hb4
                have hPR4 := pr_add HPU.out HO.out.1 HO.out.2.1 HO.out.2.2 HWF.out hwb hpl hUl hG4 hg4 hb4
                have s4 := hg4.size
                have hLp : blk L ≠ some p := HPU.out.2.2.2.2.2.2.1
                have hLb : ∀ b, blk L = some b → b < wr.heap.size := HPU.out.2.2.2.2.2.2.2.2
                have hR4 : Rdr w4 p E en ec ((e7R ys a).2.1, false) := ClG.grown HRU.out.1 hg4 hLp
                have k4 : Cl w4 g3 #[.slice K kn kc, .int .u64 (x.seq : Int), .int .u8 (x.kind : Int), .slice V vn vc] 33 := ClG.grown HKU.out hg4 (fun e => by have := hLb g3 e; have := HG3.out; have := HS2.out; omega)
                have rK4 : Rd w4 K kn x.key := (HO.out.1.kept hg4 (fun b hb e => by have h1 := (HO.out.1.lt b hb).1; have h2 := hLb b e; omega)).rd
                have hB4 : Below w.heap.size w w4 := HRU.out.2.grown hg4 (by omega) (fun k hk => (HPU.out.1.lt k hk).1)
                have hKp : blk K ≠ some p := fun e => by have := (HO.out.1.lt p e).1; omega
                obtain ⟨z0, z1, z2, z3, _⟩ := k4.c4
                have HF := Lib.hid (And.intro hPR4 (And.intro hR4 (And.intro rK4 (And.intro hB4 hKp))))
                clear hPR4 hR4 k4 rK4 hB4 hKp hG4 hg4 hb4 y0 y1 y2 y3 hLp hLb
                go_wp2_with fail
                go_roundw
                case rel =>
                  refine ⟨⟨f', (e7R ys a).2.1, i + 1, d2, kn, kc, ev2, es ++ [x], L2, K, _, rfl, rfl, rfl, HP2.out, h7l, by omega, by omega, by omega, HF.out.2.1, HF.out.1, ?_, hkc2, HKN.out, HF.out.2.2.2.2, hkn2, HF.out.2.2.2.1⟩, by omega⟩
                  rw [lastK_snoc]
                  exact HF.out.2.2.1
                case measure => simp [lenV]; omega
          · obtain rfl : a = en := by omega
            have hil : es.length = i := HPR.out.2.2.2.1
            have hf : parR ys sec f a es ev = some (es, ev) := by
              obtain ⟨f', rfl⟩ : ∃ f', f = f' + 1 := ⟨f - 1, by omega⟩
              rw [parR, if_pos (by rw [HYL.out]; exact Nat.le_refl _)]
            have hpb : parB xs = some (es, if sec < 0 then max i 1 else ev) := by rw [HP.out, HYL.out, HPAR.out, hf]; simp only [hil]
            have hrow : RowE w w.heap.size L i d es wr := HPR.out.row HB.out HB.out.size
            have HPB := Lib.hid hpb
            have HROW := Lib.hid hrow
            have HIL := Lib.hid hil
            clear hil hf hpb hrow
            by_cases hs : sec < 0
            · obtain ⟨mx, hmx⟩ : ∃ mx, mx = max i 1 := ⟨_, rfl⟩
              have hb : parB xs = some (es, mx) := by rw [HPB.out, if_pos hs, hmx]
              have hmi : mx ≤ 16777216 := by omega
              have HBB := Lib.hid hb
              have HMX := Lib.hid hmx
              clear hb hmx
              by_cases hi1 : i < 1
              · obtain rfl : i = 0 := by omega
                have hm1 : mx = 1 := by have := HMX.out; omega
                subst hm1
                go_wp2_with fail
                refine bodyPost_ret (v := .tuple #[.slice L 0 d, .int .i64 1, .bool true]) (by simp [results, Try.f48, go_sem]; try rfl) rfl (.inr ⟨es, 1, L, d, HBB.out, by rw [HIL.out]; rfl, by rw [HIL.out]; exact HROW.out, by rw [HIL.out]; omega, hmi⟩)
              · have hm1 : mx = i := by have := HMX.out; omega
                subst hm1
                go_wp2_with fail
                refine bodyPost_ret (v := .tuple #[.slice L mx d, .int .i64 (mx : Int), .bool true]) (by simp [results, Try.f48, go_sem]; omega) rfl (.inr ⟨es, mx, L, d, HBB.out, by rw [HIL.out], by rw [HIL.out]; exact HROW.out, by rw [HIL.out]; omega, hmi⟩)
            · have hb : parB xs = some (es, ev) := by rw [HPB.out, if_neg hs]
              have HBB := Lib.hid hb
              clear hb
              go_wp2_with fail
              refine bodyPost_ret (v := .tuple #[.slice L i d, .int .i64 (ev : Int), .bool true]) (by simp [results, Try.f48, go_sem]; try rfl) rfl (.inr ⟨es, ev, L, d, HBB.out, by rw [HIL.out], by rw [HIL.out]; exact HROW.out, by rw [HIL.out]; omega, by omega⟩)
end Go.Proofs.Ytgigohfjioifaaa
namespace Go.Proofs.Ytgigohfjioifaaa
open Go Go.RowKit

def bsB (xs : List UInt8) : ByteArray := ⟨⟨xs⟩⟩
theorem conv_rd {w : World} {n c : Nat} {A : Option Addr} {xs : List UInt8} (h : Rd w A n xs) (hn : 0 < n) : (convert 22 9 (.slice A n c)).run Try.prog w = .ok (.string (bsB xs)) w := by
  obtain ⟨b, off, rfl, _⟩ := h.pos hn
  rw [run_convert_bytes_arg w 22 5 Try.underlying22 Try.underlying5 b off n c (xs.map fun x => (x.toNat : Int)) (by simpa using h.len) ?_ 9 Try.underlying9]
  · congr 2
    unfold strOfNums bsB
    congr 2
    rw [List.map_map]
    conv => rhs; rw [← List.map_id xs]
    apply List.map_congr_left
    intro x _
    simp
  · intro i hi
    obtain ⟨x, hx, hc, _⟩ := h.at_ i hi
    rw [hc]
    simp [List.getD, List.getElem?_map, hx]
set_option maxRecDepth 100000 in
theorem bytesEqual_any (A B : Option Addr) (n m c d : Nat) (xs ys : List UInt8) (w : World) (hx : Rd w A n xs) (hy : Rd w B m ys) (hn : 0 < n) (hm : 0 < m) :
    Calls Try.prog 49 #[.slice A n c, .slice B m d] w (fun e w' => e = .returned (.bool (eqB xs ys)) ∧ w' = w) := by
  have k1 := conv_rd (c := c) hx hn
  have k2 := conv_rd (c := d) hy hm
  have hb : ((bsB xs).toList == (bsB ys).toList) = eqB xs ys := by rw [ByteArray.toList_eq, ByteArray.toList_eq]; rfl
  have HB := Lib.hid hb
  clear hb
  go_enter Try.func49, Try.ntmps49
  go_wp2_with fail
  go_ret
  exact ⟨by rw [← HB.out]; rfl, rfl⟩
theorem build8_zero {w : World} {A : Option Addr} {n c : Nat} : Calls Try.prog 42 #[.int .i64 0, .slice A n c] w (RetBb w ([], 1)) := by
  go_enter Try.func42, Try.ntmps42
  go_wp2_with fail
  exact bodyPost_ret (v := .tuple #[.slice none 0 0, .int .i64 1]) (by simp [results, Try.f42, go_sem]; try rfl) rfl (RetBb.no rfl (Below.refl _ _))
/-- What Build answers. -/
def buildZ (ev : Nat) (es : List En) : List UInt8 × Int := if ev = 0 then ([], 1) else buildE ev es
theorem buildZ_any {w : World} {A : Option Addr} {n c : Nat} {es : List En} (h : REs w A n es) (hn : n ≤ 16777216) (ev : Nat) (he2 : ev ≤ 9223372036854775807) :
    Calls Try.prog 42 #[.int .i64 (ev : Int), .slice A n c] w (RetBb w (buildZ ev es)) := by
  unfold buildZ
  split
  · rename_i e
    subst e
    exact build8_zero
  · exact build8_any h hn ev (by omega) he2
theorem sealB_pos (xs : List UInt8) : 8 ≤ (sealB xs).length := by rw [sealB_len]; omega
theorem buildZ_ok {ev : Nat} {es : List En} (h : (buildZ ev es).2 = 0) : 8 ≤ (buildZ ev es).1.length := by
  unfold buildZ at h ⊢
  split at h
  · cases h
  · rename_i e
    rw [if_neg e]
    rcases buildE_cases ev es with ⟨F, hF, _⟩ | ⟨k, hk, hk2⟩
    · rw [hF]; exact sealB_pos F
    · rw [hk] at h
      simp only at h
      omega
/-- What Decode makes of a record that doesn't open. -/
theorem decode_shutM (A : Option Addr) (n c : Nat) (xs : List UInt8) (w : World) (h : Rd w A n xs) (hn : n ≤ 1099511627776) (hc : n ≤ c) (hnil : A = none → c = 0) (k : Int) (hk : openG xs ((0 : Nat) : Int) = ([], 0, k)) (hk0 : k ≠ 0) :
    Calls Try.prog 12 #[.slice A n c] w (fun e w' => e = .returned (.tuple #[.slice none 0 0, .int .i64 k]) ∧ Below w.heap.size w w') := by
  have hO := Open_any A n c ((0 : Nat) : Int) xs w h hn hc hnil (by unfold I64; omega)
  rw [hk] at hO
  have HO := Lib.hid hO
  have t1 : (k == 0) = false := by simp [hk0]
  clear hO hk h
  go_enter Try.func12, Try.ntmps12
  go_wp2_with fail
  refine HO.out.mono ?_
  rintro e w8 ⟨O, on, oc, rfl, oo, hb8⟩
  clear HO oo
  go_wp2_with fail
  exact bodyPost_ret (v := .tuple #[.slice none 0 0, .int .i64 k]) (by simp [results, Try.f12, go_sem]; try rfl) rfl ⟨rfl, hb8⟩
theorem openG_in (xs : List UInt8) (z : Int) : (openG xs z).1.length ≤ 1048576 ∧ ((openG xs z).2.2 ≠ 0 → (openG xs z).1 = [] ∧ (openG xs z).2.1 = 0) ∧ ((openG xs z).2.2 = 0 → 8 ≤ xs.length) := by
  unfold openG
  split
  · simp
  · split
    · simp
    · split
      · simp
      · split
        · simp
        · split
          · refine ⟨?_, fun h => absurd rfl h, fun _ => by omega⟩
            simp only [List.length_drop, List.length_take]
            omega
          · simp
/-- What Decode makes of what was read. -/
def decP (xs : List UInt8) : Option (List En × Nat) → List En × Int
  | none => ([], 3)
  | some (es, ev) => if (buildZ ev es).2 = 0 ∧ (buildZ ev es).1 = xs then (es, 0) else ([], 3)
/-- What Decode answers. -/
def decB (xs : List UInt8) : List En × Int :=
  match openG xs ((0 : Nat) : Int) with
  | (inside, _, k) => if k ≠ 0 then ([], k) else decP xs (parB inside)
def RetDc8 (w : World) (r : List En × Int) (e : Ending) (w' : World) : Prop :=
  (r.1 = [] ∧ r.2 ≠ 0 ∧ e = .returned (.tuple #[.slice none 0 0, .int .i64 r.2]) ∧ Below w.heap.size w w') ∨
  (r.2 = 0 ∧ r.1.length ≤ 16777216 ∧ ∃ L d, e = .returned (.tuple #[.slice L r.1.length d, .int .i64 0]) ∧ RowE w w.heap.size L r.1.length d r.1 w')
set_option maxRecDepth 100000 in
set_option maxHeartbeats 8000000 in
theorem decode_any (A : Option Addr) (n c : Nat) (xs : List UInt8) (w : World) (h : Rd w A n xs) (hn : n ≤ 1099511627776) (hc : n ≤ c) (hnil : A = none → c = 0) :
    Calls Try.prog 12 #[.slice A n c] w (RetDc8 w (decB xs)) := by
  rcases hog : openG xs ((0 : Nat) : Int) with ⟨ins, nx, k⟩
  have hin := openG_in xs ((0 : Nat) : Int)
  rw [hog] at hin
  obtain ⟨hil, hno, hx8⟩ := hin
  have hil : ins.length ≤ 1048576 := hil
  by_cases hk : k = 0
  · have hO := Open_any A n c ((0 : Nat) : Int) xs w h hn hc hnil (by unfold I64; omega)
    rw [hog] at hO
    subst hk
    have hx8 : 8 ≤ n := by have := hx8 rfl; have := h.len; omega
    have HO := Lib.hid hO
    have HX := Lib.hid h
    obtain ⟨pr, hpr⟩ : ∃ pr, pr = parB ins := ⟨_, rfl⟩
    have hdec : decB xs = decP xs pr := by
      unfold decB
      rw [hog]
      simp only
      rw [if_neg (by simp), ← hpr]
    have HD := Lib.hid hdec
    have HPR := Lib.hid hpr
    clear hO h hno hog hdec hpr
    go_enter Try.func12, Try.ntmps12
    go_wp2_with fail
    refine HO.out.mono ?_
    rintro e w1 ⟨I, im, ic, rfl, oI, b1⟩
    have hI0 : ins.length = im := oI.len
    have hIn : I = none → ic = 0 := fun hh => by have := oI.nil_of (by rw [hh]; rfl); exact this.2.2
    have HPA := Lib.hid (parse_any I im ic ins w1 oI.rd (by omega) oI.cap.1 hIn)
    rw [← HPR.out] at HPA
    have HB1 := Lib.hid b1
    clear oI b1 hIn HO
    go_wp2_with fail
    refine HPA.out.mono ?_
    rintro e w2 (⟨hpn, rfl, b2⟩ | ⟨es, ev, L, d, hps, rfl, hrow, hel, hev⟩)
    · have hd : decB xs = ([], 3) := by rw [HD.out, hpn]; rfl
      have HF := Lib.hid (And.intro hd (HB1.out.trans (b2.mono HB1.out.size)))
      clear hd b2
      go_wp2_with fail
      exact bodyPost_ret (v := .tuple #[.slice none 0 0, .int .i64 3]) (by simp [results, Try.f12, go_sem]; try rfl) rfl (.inl ⟨by rw [HF.out.1], by rw [HF.out.1]; simp, by rw [HF.out.1], HF.out.2⟩)
    · have hd : decB xs = if (buildZ ev es).2 = 0 ∧ (buildZ ev es).1 = xs then (es, 0) else ([], 3) := by rw [HD.out, hps]; rfl
      have hb2 : Below w.heap.size w w2 := HB1.out.trans (hrow.bel.mono HB1.out.size)
      have hBZ := buildZ_any (c := d) hrow.rd hel ev (by omega)
      obtain ⟨z, hz⟩ : ∃ z, z = buildZ ev es := ⟨_, rfl⟩
      have hzo : z.2 = 0 → 8 ≤ z.1.length := by rw [hz]; exact buildZ_ok
      rw [← hz] at hBZ hd
      have HBZ := Lib.hid hBZ
      have HROW := Lib.hid hrow
      have HB2 := Lib.hid hb2
      have HDD := Lib.hid hd
      obtain ⟨el, hel2⟩ : ∃ el, el = es.length := ⟨_, rfl⟩
      rw [← hel2] at HBZ hel ⊢
      have HEL := Lib.hid hel2
      clear hBZ hrow hb2 hd hz hel2
      go_wp2_with fail
      refine HBZ.out.mono ?_
      rintro e w3 ⟨G, gc, rfl, oG, b3⟩
      have hb3 : Below w.heap.size w w3 := HB2.out.trans (b3.mono HB2.out.size)
      have hno : ∀ w', Below w.heap.size w w' → decB xs = ([], 3) → RetDc8 w (decB xs) (.returned (.tuple #[.slice none 0 0, .int .i64 3])) w' := fun w' hb hd => .inl ⟨by rw [hd], by rw [hd]; simp, by rw [hd], hb⟩
      obtain ⟨zb, zk⟩ := z
      simp only at oG hzo ⊢
      by_cases hzk : zk = 0
      · subst hzk
        have hzl : 8 ≤ zb.length := hzo rfl
        have HEQ := Lib.hid (bytesEqual_any G A zb.length n gc c zb xs w3 oG.rd (HX.out.below hb3) (by omega) (by omega))
        have HB3 := Lib.hid hb3
        have HR3 := Lib.hid (HROW.out.below b3)
        have HNO := Lib.hid hno
        clear oG b3 hb3 hno
        obtain ⟨q, hq⟩ : ∃ q, q = eqB zb xs := ⟨_, rfl⟩
        rw [← hq] at HEQ
        have HQ := Lib.hid hq
        clear hq
        cases q with
        | true =>
          go_wp2_with fail
          with_reducible refine HEQ.out.mono ?_
          rintro e w4 ⟨rfl, rfl⟩
          have he : zb = xs := by
            have := HQ.out
            unfold eqB at this
            exact (beq_iff_eq.1 this.symm)
          have hd : decB xs = (es, 0) := by rw [HDD.out, if_pos ⟨by first | trivial | rfl, he⟩]
          have HF : Hid (RetDc8 w (decB xs) (.returned (.tuple #[.slice L el d, .int .i64 0])) w4) := Lib.hid (by
            rw [hd]
            refine .inr ⟨rfl, by rw [← HEL.out]; exact hel, L, d, by rw [← HEL.out], ?_⟩
            have hr := HR3.out
            have h1 : Below w.heap.size w w4 := HB3.out
            obtain ⟨vs, r1, r2, r3, r4, r5, r6, r7⟩ := hr
            have hs := HB1.out.size
            exact ⟨vs, OwnE.mono (show OwnE w4 w1.heap.size L es.length d vs from r1) hs, EOs.mono hs r2, r3, r4, h1, h1.size, r7.mono hs⟩)
          clear he hd
          go_wp2_with fail
          exact bodyPost_ret (v := .tuple #[.slice L el d, .int .i64 0]) (by simp [results, Try.f12, go_sem]; try rfl) rfl HF.out
        | false =>
          go_wp2_with fail
          with_reducible refine HEQ.out.mono ?_
          rintro e w4 ⟨rfl, rfl⟩
          have he : ¬ zb = xs := by
            have := HQ.out
            unfold eqB at this
            intro e2
            rw [e2] at this
            simp at this
          have hd : decB xs = ([], 3) := by rw [HDD.out, if_neg (fun h => he h.2)]
          have HF := Lib.hid (HNO.out _ HB3.out hd)
          clear he hd
          go_wp2_with fail
          exact bodyPost_ret (v := .tuple #[.slice none 0 0, .int .i64 3]) (by simp [results, Try.f12, go_sem]; try rfl) rfl HF.out
      · have hd : decB xs = ([], 3) := by rw [HDD.out, if_neg (fun h => hzk h.1)]
        have t1 : (zk == 0) = false := by simpa using hzk
        have HF := Lib.hid (hno _ hb3 hd)
        clear hd hno oG b3 hb3
        go_wp2_with fail
        exact bodyPost_ret (v := .tuple #[.slice none 0 0, .int .i64 3]) (by simp [results, Try.f12, go_sem]; try rfl) rfl HF.out
  · have hd : decB xs = ([], k) := by
      unfold decB
      rw [hog]
      simp only
      rw [if_pos hk]
    obtain ⟨hi0, hn0⟩ := hno hk
    have hi0 : ins = [] := hi0
    have hn0 : nx = 0 := hn0
    subst hi0 hn0
    rw [hd]
    refine (decode_shutM A n c xs w h hn hc hnil k hog hk).mono ?_
    rintro e w' ⟨rfl, hb⟩
    exact .inl ⟨rfl, hk, rfl, hb⟩
end Go.Proofs.Ytgigohfjioifaaa
namespace Go.Proofs.Ytgigohfjioifaaa
open Go Go.RowKit

/-- The place that is sought. -/
def plE (key : List UInt8) (at_ : Nat) : En := ⟨key, at_, 0, []⟩
/-- Doesn't the i-th entry stand ahead of the place? -/
def nlE (es : List En) (pl : En) (i : Nat) : Bool := match es[i]? with
  | some x => !lessE x pl
  | none => true
set_option maxRecDepth 100000 in
set_option maxHeartbeats 4000000 in
theorem seekC_any {w : World} {L : Option Addr} {n d : Nat} {es : List En} {bl pb : Nat} {pl : En} {v0 v1 v2 v3 : Value} (h : REs w L n es) (hl : Cl w bl #[.slice L n d] 25) (hp : Cl w pb #[v0, v1, v2, v3] 33) (hv : EV w pl v0 v1 v2 v3) (i : Nat) (hi : i < n) :
    Calls Try.prog 54 #[.int .i64 (i : Int), .pointer (some ⟨bl, 0, none⟩), .pointer (some ⟨pb, 0, none⟩)] w (RetT w (nlE es pl i)) := by
  obtain ⟨b, off, rfl, hbl⟩ := h.pos (by omega)
  obtain ⟨x, u0, u1, u2, u3, hx, c0, c1, c2, c3, hev⟩ := h.at_ i hi
  have hn : nlE es pl i = !lessE x pl := by unfold nlE; rw [hx]
  have l0 := hl.c1.1
  obtain ⟨p0, p1, p2, p3, _⟩ := hp.c4
  have hpl := hp.lt
  have hll := hl.lt
  have HL : Hid (∀ wx, Below w.heap.size w wx → Calls Try.prog 55 #[.agg #[u0, u1, u2, u3], .agg #[v0, v1, v2, v3]] wx (RetT wx (lessE x pl))) := Lib.hid (fun wx hb => memLess_any (hev.below hb) (hv.below hb))
  have HSX : Hid (∀ wx, Below w.heap.size w wx → wx.cell? ⟨bl, 0, none⟩ = some (.slice (some ⟨b, off, none⟩) n d) ∧ wx.cell? ⟨b, off + i * 4, none⟩ = some u0 ∧ wx.cell? ⟨b, off + i * 4 + 1, none⟩ = some u1 ∧ wx.cell? ⟨b, off + i * 4 + 2, none⟩ = some u2 ∧ wx.cell? ⟨b, off + i * 4 + 3, none⟩ = some u3 ∧ wx.cell? ⟨pb, 0, none⟩ = some v0 ∧ wx.cell? ⟨pb, 1, none⟩ = some v1 ∧ wx.cell? ⟨pb, 2, none⟩ = some v2 ∧ wx.cell? ⟨pb, 3, none⟩ = some v3) := Lib.hid (fun wx h =>
    ⟨(h.cell (p := ⟨bl, 0, none⟩) hll).trans l0, (h.cell (p := ⟨b, off + i * 4, none⟩) hbl).trans c0, (h.cell (p := ⟨b, off + i * 4 + 1, none⟩) hbl).trans c1, (h.cell (p := ⟨b, off + i * 4 + 2, none⟩) hbl).trans c2, (h.cell (p := ⟨b, off + i * 4 + 3, none⟩) hbl).trans c3,
      (h.cell (p := ⟨pb, 0, none⟩) hpl).trans p0, (h.cell (p := ⟨pb, 1, none⟩) hpl).trans p1, (h.cell (p := ⟨pb, 2, none⟩) hpl).trans p2, (h.cell (p := ⟨pb, 3, none⟩) hpl).trans p3⟩)
  have hB0 : Below w.heap.size w w.drew := (Below.refl _ _).drew
  obtain ⟨z, hz⟩ : ∃ z, z = lessE x pl := ⟨_, rfl⟩
  rw [← hz] at HL hn
  have HN := Lib.hid hn
  clear h hl hp hv hx hev hz hn hpl hll
  go_enter Try.func54, Try.ntmps54
  go_wp2_with fail
  go_region_held3 (fun wx => wx.cell? ⟨bl, 0, none⟩ = some (.slice (some ⟨b, off, none⟩) n d) ∧ wx.cell? ⟨b, off + i * 4, none⟩ = some u0 ∧ wx.cell? ⟨b, off + i * 4 + 1, none⟩ = some u1 ∧ wx.cell? ⟨b, off + i * 4 + 2, none⟩ = some u2 ∧ wx.cell? ⟨b, off + i * 4 + 3, none⟩ = some u3 ∧ wx.cell? ⟨pb, 0, none⟩ = some v0 ∧ wx.cell? ⟨pb, 1, none⟩ = some v1 ∧ wx.cell? ⟨pb, 2, none⟩ = some v2 ∧ wx.cell? ⟨pb, 3, none⟩ = some v3) (first | assumption | exact HSX.out _ hB0)
    (first | (go_at_call 55; with_reducible refine (HL.out _ (by assumption)).mono ?_; intro e1 wn hq; obtain ⟨h1, bn⟩ := RetT.outD hq; subst h1; have bn' := belowT' (by assumption : Below w.heap.size w _) bn; have hS1 := HSX.out _ bn'))
  all_goals
    have HBN := Lib.hid (by assumption : Below w.heap.size w wn)
    go_wp2_with fail
    go_ret
    exact ⟨by rw [HN.out]; rfl, HBN.out⟩
theorem ordK_at {es : List En} : ∀ {k : Nat}, ordK es k = true → ∀ i a b, i < k → es[i]? = some a → es[i + 1]? = some b → lessE a b = true
  | 0, _, i, _, _, h, _, _ => absurd h (by omega)
  | k + 1, h, i, a, b, hi, ha, hb => by
    rw [ordK, Bool.and_eq_true] at h
    by_cases e : i = k
    · subst e
      have := h.2
      rw [ha, hb] at this
      exact this
    · exact ordK_at h.1 i a b (by omega) ha hb
theorem ord_sort {es : List En} (h : ordE es = true) : SortL es := by
  have key : ∀ (j i : Nat) a b, i < j → es[i]? = some a → es[j]? = some b → lessE a b = true := by
    intro j
    induction j with
    | zero => intro i a b h; omega
    | succ j ih =>
      intro i a b hij ha hb
      have hlt : j + 1 < es.length := (List.getElem?_eq_some_iff.1 hb).1
      obtain ⟨c, hc⟩ : ∃ c, es[j]? = some c := ⟨_, List.getElem?_eq_getElem (by omega)⟩
      have h1 := ordK_at h j c b (by omega) hc hb
      by_cases e : i = j
      · subst e
        rw [hc] at ha
        injection ha with ha
        rw [← ha]
        exact h1
      · exact lessE_trans (ih i a c (by omega) ha hc) h1
  unfold SortL
  rw [List.pairwise_iff_getElem]
  intro i j hi hj hij
  exact key j i _ _ hij (List.getElem?_eq_getElem hi) (List.getElem?_eq_getElem hj)
theorem buildE_ord {ev : Nat} {es : List En} (h : (buildE ev es).2 = 0) : ordE es = true ∧ es.all formE = true ∧ es.any longE = false ∧ (buildE ev es).1 = sealB (fullB ev es) ∧ (fullB ev es).length ≤ 1048576 := by
  unfold buildE at h ⊢
  split at h
  · cases h
  · rename_i h1
    split at h
    · cases h
    · rename_i h2
      split at h
      · rename_i h3
        rw [if_neg h1, if_neg h2, if_pos h3]
        rw [Bool.and_eq_true] at h3
        exact ⟨h3.2, h3.1, by simpa using h1, rfl, by omega⟩
      · cases h
theorem dec_sort {xs : List UInt8} {es : List En} (h : decB xs = (es, 0)) : SortL es := by
  unfold decB at h
  rcases hog : openG xs ((0 : Nat) : Int) with ⟨ins, nx, k⟩
  rw [hog] at h
  simp only at h
  split at h
  · rename_i hk
    injection h with h1 h2
    exact absurd h2 hk
  · cases hp : parB ins with
    | none =>
      rw [hp] at h
      unfold decP at h
      injection h with h1 h2
      cases h2
    | some r =>
      obtain ⟨gs, ev⟩ := r
      rw [hp, show decP xs (some (gs, ev)) = if (buildZ ev gs).2 = 0 ∧ (buildZ ev gs).1 = xs then (gs, 0) else ([], 3) from rfl] at h
      split at h
      · rename_i hb
        injection h with h1 h2
        subst h1
        have h3 := hb.1
        unfold buildZ at h3
        split at h3
        · cases h3
        · exact ord_sort (buildE_ord h3).1
      · injection h with h1 h2
        cases h2
theorem EOs.at_ {base : Nat} {w : World} : ∀ {es : List En} {vs : List Value} (i : Nat) {x : En}, EOs base w es vs → es[i]? = some x → ∃ v0 v1 v2 v3, vs[i * 4]? = some v0 ∧ vs[i * 4 + 1]? = some v1 ∧ vs[i * 4 + 2]? = some v2 ∧ vs[i * 4 + 3]? = some v3 ∧ EO base w x v0 v1 v2 v3 ∧ (Fam w base (pairE es vs) → Fam w base [(v0, x.key), (v3, x.val)])
  | [], _, i, x, _, h => by simp at h
  | g :: es, _, 0, x, ⟨v0, v1, v2, v3, r, q, h1, h2⟩, h => by
    simp only [List.getElem?_cons_zero, Option.some.injEq] at h
    subst h q
    refine ⟨v0, v1, v2, v3, rfl, rfl, rfl, rfl, h1, fun hf => ?_⟩
    have : pairE (g :: es) (v0 :: v1 :: v2 :: v3 :: r) = [(v0, g.key), (v3, g.val)] ++ pairE es r := rfl
    rw [this] at hf
    exact hf.left
  | g :: es, _, i + 1, x, ⟨v0, v1, v2, v3, r, q, h1, h2⟩, h => by
    rw [List.getElem?_cons_succ] at h
    obtain ⟨a, b, c, d, e0, e1, e2, e3, e4, e5⟩ := EOs.at_ i h2 h
    subst q
    refine ⟨a, b, c, d, ?_, ?_, ?_, ?_, e4, fun hf => ?_⟩
    · rw [show (i + 1) * 4 = i * 4 + 4 by omega]; exact e0
    · rw [show (i + 1) * 4 + 1 = i * 4 + 1 + 4 by omega]; exact e1
    · rw [show (i + 1) * 4 + 2 = i * 4 + 2 + 4 by omega]; exact e2
    · rw [show (i + 1) * 4 + 3 = i * 4 + 3 + 4 by omega]; exact e3
    · have : pairE (g :: es) (v0 :: v1 :: v2 :: v3 :: r) = [(v0, g.key), (v3, g.val)] ++ pairE es r := rfl
      rw [this] at hf
      exact e5 hf.right
/-- What Seek hands back. -/
def RetSk8 (w : World) (r : List En × Int) (pl : En) (e : Ending) (w' : World) : Prop :=
  Below w.heap.size w w' ∧
  ((r.2 ≠ 0 ∧ e = .returned (.tuple #[.agg #[.slice none 0 0, .int .u64 0, .int .u8 0, .slice none 0 0], .bool false, .int .i64 r.2])) ∨
   (r.2 = 0 ∧ (∀ i, i < r.1.length → nlE r.1 pl i = false) ∧ e = .returned (.tuple #[.agg #[.slice none 0 0, .int .u64 0, .int .u8 0, .slice none 0 0], .bool false, .int .i64 0])) ∨
   (r.2 = 0 ∧ ∃ (i : Nat) (x : En), r.1[i]? = some x ∧ nlE r.1 pl i = true ∧ (∀ t, t < i → nlE r.1 pl t = false) ∧
     ∃ K kn kc V vn vc, e = .returned (.tuple #[.agg #[.slice K kn kc, .int .u64 (x.seq : Int), .int .u8 (x.kind : Int), .slice V vn vc], .bool true, .int .i64 0]) ∧ EO w.heap.size w' x (.slice K kn kc) (.int .u64 (x.seq : Int)) (.int .u8 (x.kind : Int)) (.slice V vn vc) ∧ Fam w' w.heap.size [(.slice K kn kc, x.key), (.slice V vn vc, x.val)]))
theorem zero_ev (w : World) (key : List UInt8) (at_ : Nat) {K : Option Addr} {kn kc : Nat} (h : Rd w K kn key) (hc : kn ≤ kc) (hnil : K = none → kc = 0) (ha : U64 at_) : EV w (plE key at_) (.slice K kn kc) (.int .u64 (at_ : Int)) (.int .u8 0) (.slice none 0 0) :=
  ⟨rfl, rfl, ha, by unfold plE; simp, ⟨K, kn, kc, rfl, h, hc, hnil⟩, ⟨none, 0, 0, rfl, Rd.nil _ _, Nat.le_refl _, fun _ => rfl⟩⟩
set_option maxRecDepth 100000 in
set_option maxHeartbeats 8000000 in
theorem seek_any (A : Option Addr) (n c : Nat) (xs : List UInt8) (K0 : Option Addr) (k0 kc0 : Nat) (key : List UInt8) (at_ : Nat) (w : World) (h : Rd w A n xs) (hn : n ≤ 1099511627776) (hc : n ≤ c) (hnil : A = none → c = 0)
    (hk : Rd w K0 k0 key) (hkc : k0 ≤ kc0) (hknil : K0 = none → kc0 = 0) (ha : U64 at_) :
    Calls Try.prog 15 #[.slice A n c, .slice K0 k0 kc0, .int .u64 (at_ : Int)] w (RetSk8 w (decB xs) (plE key at_)) := by
  obtain ⟨U, hU⟩ : ∃ U, U = w.alloc (.cells #[.slice none 0 0, .int .u64 0, .int .u8 0, .slice none 0 0] 33) := ⟨_, rfl⟩
  have bU : Below w.heap.size w U := by rw [hU]; exact (Below.refl _ _).alloc (Nat.le_refl _) _
  have zU : Cl U w.heap.size #[.slice none 0 0, .int .u64 0, .int .u8 0, .slice none 0 0] 33 := by rw [hU]; exact Cl.new _ _ _
  have HDC := Lib.hid (decode_any A n c xs U (h.below bU) hn hc hnil)
  rcases hr : decB xs with ⟨es, k⟩
  have HR := Lib.hid hr
  rw [hr] at HDC
  have HK := Lib.hid hk
  have HBU := Lib.hid bU
  have HZU := Lib.hid zU
  have HU := Lib.hid hU
  clear h hk bU zU hU hr
  go_enter Try.func15, Try.ntmps15
  go_upto_region 1 with (fail)
  rw [← HU.out]
  go_wp2_with fail
  refine HDC.out.mono ?_
  rintro e w1 (⟨he, hk0, rfl, b1⟩ | ⟨hk0, hel, L, d, rfl, hrow⟩)
  · simp only at he hk0
    obtain ⟨W, hW⟩ : ∃ W, W = w1.alloc (.cells #[.slice none 0 0] 25) := ⟨_, rfl⟩
    have bW : Below w1.heap.size w1 W := by rw [hW]; exact (Below.refl _ _).alloc (Nat.le_refl _) _
    have b1' : Below w.heap.size w W := HBU.out.trans ((b1.trans (bW.mono b1.size)).mono HBU.out.size)
    have z1 := (HZU.out.below b1).below bW
    have t1 : (k == 0) = false := by simpa using hk0
    obtain ⟨x0, x1, x2, x3, y0, y1, y2, y3⟩ := z1.c4
    have HF : Hid (∀ X, X = (((W.setCell ⟨w.heap.size, 0, none⟩ (.slice none 0 0)).setCell ⟨w.heap.size, 1, none⟩ (.int .u64 0)).setCell ⟨w.heap.size, 2, none⟩ (.int .u8 0)).setCell ⟨w.heap.size, 3, none⟩ (.slice none 0 0) → Cl X w.heap.size #[.slice none 0 0, .int .u64 0, .int .u8 0, .slice none 0 0] 33 ∧ Below w.heap.size w X) := Lib.hid (fun X hX => ⟨by rw [hX]; exact z1.put4 rfl _ _ _ _, by rw [hX]; exact (((b1'.setCell (p := ⟨w.heap.size, 0, none⟩) (Nat.le_refl _) _).setCell (p := ⟨w.heap.size, 1, none⟩) (Nat.le_refl _) _).setCell (p := ⟨w.heap.size, 2, none⟩) (Nat.le_refl _) _).setCell (p := ⟨w.heap.size, 3, none⟩) (Nat.le_refl _) _⟩)
    have HW := Lib.hid hW
    clear bW b1' z1 b1 hW
    go_upto_if 19 with (fail)
    rw [← HW.out]
    go_wp2_with fail
    obtain ⟨X, hX⟩ : ∃ X, X = (((W.setCell ⟨w.heap.size, 0, none⟩ (.slice none 0 0)).setCell ⟨w.heap.size, 1, none⟩ (.int .u64 0)).setCell ⟨w.heap.size, 2, none⟩ (.int .u8 0)).setCell ⟨w.heap.size, 3, none⟩ (.slice none 0 0) := ⟨_, rfl⟩
    rw [← hX]
    obtain ⟨zX, bX⟩ := HF.out X hX
    obtain ⟨x0, x1, x2, x3, _⟩ := zX.c4
    exact bodyPost_ret (v := .tuple #[.agg #[.slice none 0 0, .int .u64 0, .int .u8 0, .slice none 0 0], .bool false, .int .i64 k]) (by simp [results, Try.results15, go_sem, x0, x1, x2, x3]; try rfl) rfl ⟨bX, .inl ⟨hk0, rfl⟩⟩
  · simp only at hk0 hel hrow ⊢
    subst hk0
    have b1 : Below w.heap.size w w1 := HBU.out.trans (hrow.bel.mono HBU.out.size)
    have z1 : Cl w1 w.heap.size #[.slice none 0 0, .int .u64 0, .int .u8 0, .slice none 0 0] 33 := HZU.out.below hrow.bel
    obtain ⟨el, hle⟩ : ∃ el, el = es.length := ⟨_, rfl⟩
    rw [← hle] at hrow hel ⊢
    obtain ⟨W, hW⟩ : ∃ W, W = w1.alloc (.cells #[.slice L el d] 25) := ⟨_, rfl⟩
    obtain ⟨bl, hbl⟩ : ∃ bl, bl = w1.heap.size := ⟨_, rfl⟩
    have bW : Below w1.heap.size w1 W := by rw [hW]; exact (Below.refl _ _).alloc (Nat.le_refl _) _
    have kW : Cl W bl #[.slice L el d] 25 := by rw [hW, hbl]; exact Cl.new _ _ _
    obtain ⟨W2, hW2⟩ : ∃ W2, W2 = W.alloc (.cells #[.slice K0 k0 kc0, .int .u64 (at_ : Int), .int .u8 0, .slice none 0 0] 33) := ⟨_, rfl⟩
    obtain ⟨pb, hpb⟩ : ∃ pb, pb = W.heap.size := ⟨_, rfl⟩
    have bW2 : Below W.heap.size W W2 := by rw [hW2]; exact (Below.refl _ _).alloc (Nat.le_refl _) _
    have kP : Cl W2 pb #[.slice K0 k0 kc0, .int .u64 (at_ : Int), .int .u8 0, .slice none 0 0] 33 := by rw [hW2, hpb]; exact Cl.new _ _ _
    have b12 : Below w1.heap.size w1 W2 := bW.trans (bW2.mono bW.size)
    have bB : Below w.heap.size w W2 := b1.trans (b12.mono b1.size)
    have k2 := kW.below bW2
    have hrow2 := hrow.below b12
    have z2 := z1.below b12
    have HKW := Lib.hid (And.intro k2 kP)
    have hev := zero_ev W2 key at_ (HK.out.below bB) hkc hknil ha
    have hso := dec_sort HR.out
    have HSE : Hid (Calls Try.prog 53 #[.int .i64 (el : Int), .func (.func 54) #[] #[.pointer (some ⟨bl, 0, none⟩), .pointer (some ⟨pb, 0, none⟩)]] W2 (RetSe W2 el (nlE es (plE key at_)))) := Lib.hid (search_any 54 #[.pointer (some ⟨bl, 0, none⟩), .pointer (some ⟨pb, 0, none⟩)] el (nlE es (plE key at_)) W2 (fun args w => by first | rfl | kernel_rfl | simp [callFunc]) (by omega) (fun wx hb i hi => seekC_any (hrow2.rd.below hb) (k2.below hb) (kP.below hb) (hev.below hb) i hi) (fun a b hab hb hpa => by
      by_cases e : a = b
      · subst e; exact hpa
      · unfold nlE at hpa ⊢
        obtain ⟨xa, hxa⟩ : ∃ x, es[a]? = some x := ⟨_, List.getElem?_eq_getElem (by omega)⟩
        obtain ⟨xb, hxb⟩ : ∃ x, es[b]? = some x := ⟨_, List.getElem?_eq_getElem (by omega)⟩
        rw [hxa] at hpa
        rw [hxb]
        simp only [Bool.not_eq_true'] at hpa ⊢
        have hl : lessE xa xb = true := by
          have hs := List.pairwise_iff_getElem.1 hso a b (by omega) (by omega) (by omega)
          have e1 := (List.getElem?_eq_some_iff.1 hxa).2
          have e2 := (List.getElem?_eq_some_iff.1 hxb).2
          rw [e1, e2] at hs
          exact hs
        cases hq : lessE xb (plE key at_) with
        | false => rfl
        | true =>
          have := lessE_trans hl hq
          rw [hpa] at this
          cases this))
    have HROW := Lib.hid hrow2
    have HZ2 := Lib.hid z2
    have HB := Lib.hid bB
    have HLE := Lib.hid hle
    have HW := Lib.hid hW
    have HW2 := Lib.hid hW2
    have HBL := Lib.hid hbl
    have HPB := Lib.hid hpb
    clear hrow b1 z1 bW kW bW2 kP b12 bB k2 hrow2 z2 hev hso hle hW hW2 hbl hpb
    go_upto_if 19 with (fail)
    rw [← HW.out, ← HBL.out]
    go_upto_region 5 with (fail)
    rw [← HW2.out, ← HPB.out]
    obtain ⟨l0, _⟩ := HKW.out.1.c1
    go_wp2_with fail
    with_reducible refine HSE.out.mono ?_
    rintro e w3 ⟨r, rfl, hr1, hr2, hr3, b3⟩
    have hB3 : Below w.heap.size w w3 := HB.out.trans (b3.mono HB.out.size)
    have z3 := HZ2.out.below b3
    have l3 := HKW.out.1.below b3
    have hrow3 := HROW.out.below b3
    have hUw : w.heap.size < U.heap.size := by rw [HU.out]; simp
    obtain ⟨x0, x1, x2, x3, y0, y1, y2, y3⟩ := z3.c4
    by_cases hre : r = el
    · subst hre
      have HNO : Hid (∀ i, i < es.length → nlE es (plE key at_) i = false) := Lib.hid (fun i hi => hr2 i (by rw [HLE.out]; exact hi))
      have HF : Hid (∀ X, X = (((w3.setCell ⟨w.heap.size, 0, none⟩ (.slice none 0 0)).setCell ⟨w.heap.size, 1, none⟩ (.int .u64 0)).setCell ⟨w.heap.size, 2, none⟩ (.int .u8 0)).setCell ⟨w.heap.size, 3, none⟩ (.slice none 0 0) → Cl X w.heap.size #[.slice none 0 0, .int .u64 0, .int .u8 0, .slice none 0 0] 33 ∧ Below w.heap.size w X) := Lib.hid (fun X hX => ⟨by rw [hX]; exact z3.put4 rfl _ _ _ _, by rw [hX]; exact (((hB3.setCell (p := ⟨w.heap.size, 0, none⟩) (Nat.le_refl _) _).setCell (p := ⟨w.heap.size, 1, none⟩) (Nat.le_refl _) _).setCell (p := ⟨w.heap.size, 2, none⟩) (Nat.le_refl _) _).setCell (p := ⟨w.heap.size, 3, none⟩) (Nat.le_refl _) _⟩)
      obtain ⟨l0', _⟩ := l3.c1
      clear hB3 z3 l3 hrow3 hr2 hr3 b3
      go_wp2_with fail
      obtain ⟨X, hX⟩ : ∃ X, X = (((w3.setCell ⟨w.heap.size, 0, none⟩ (.slice none 0 0)).setCell ⟨w.heap.size, 1, none⟩ (.int .u64 0)).setCell ⟨w.heap.size, 2, none⟩ (.int .u8 0)).setCell ⟨w.heap.size, 3, none⟩ (.slice none 0 0) := ⟨_, rfl⟩
      rw [← hX]
      obtain ⟨zX, bX⟩ := HF.out X hX
      clear x0 x1 x2 x3 y0 y1 y2 y3
      obtain ⟨x0, x1, x2, x3, _⟩ := zX.c4
      exact bodyPost_ret (v := .tuple #[.agg #[.slice none 0 0, .int .u64 0, .int .u8 0, .slice none 0 0], .bool false, .int .i64 0]) (by simp [results, Try.results15, go_sem, x0, x1, x2, x3]; try rfl) rfl ⟨bX, .inr (.inl ⟨rfl, HNO.out, rfl⟩)⟩
    · have hrl : r < el := by omega
      obtain ⟨vs, q1, q2, q3, q4, q5, q6, q7⟩ := hrow3
      obtain ⟨x, hx⟩ : ∃ x, es[r]? = some x := ⟨_, List.getElem?_eq_getElem (by have := HLE.out; omega)⟩
      obtain ⟨v0, v1, v2, v3, e0, e1, e2, e3, heo, hfam⟩ := EOs.at_ r q2 hx
      have hfam := hfam q7
      obtain ⟨bb, off, hLa, hbb, hcc⟩ := q1.rd.2 (by omega)
      subst hLa
      have m0 : w3.cell? ⟨bb, off + r * 4, none⟩ = some v0 := hcc _ _ e0
      have m1 : w3.cell? ⟨bb, off + r * 4 + 1, none⟩ = some v1 := by rw [Nat.add_assoc]; exact hcc _ _ e1
      have m2 : w3.cell? ⟨bb, off + r * 4 + 2, none⟩ = some v2 := by rw [Nat.add_assoc]; exact hcc _ _ e2
      have m3 : w3.cell? ⟨bb, off + r * 4 + 3, none⟩ = some v3 := by rw [Nat.add_assoc]; exact hcc _ _ e3
      obtain ⟨K, kn, kc, V, vn, vc, rfl, rfl, rfl, rfl, _⟩ := heo.ev.parts
      have hoff : OffW [Value.slice K kn kc, .int .u64 (x.seq : Int), .int .u8 (x.kind : Int), .slice V vn vc] (some w.heap.size) := EO.off heo (fun g hg => by injection hg with hg; exact .inl (by omega))
      have hoff2 : OffF [(Value.slice K kn kc, x.key), (.slice V vn vc, x.val)] w.heap.size := hfam.off_old (by omega)
      have HF : Hid (∀ X, X = (((w3.setCell ⟨w.heap.size, 0, none⟩ (.slice K kn kc)).setCell ⟨w.heap.size, 1, none⟩ (.int .u64 (x.seq : Int))).setCell ⟨w.heap.size, 2, none⟩ (.int .u8 (x.kind : Int))).setCell ⟨w.heap.size, 3, none⟩ (.slice V vn vc) → Cl X w.heap.size #[.slice K kn kc, .int .u64 (x.seq : Int), .int .u8 (x.kind : Int), .slice V vn vc] 33 ∧ Below w.heap.size w X ∧ EO w.heap.size X x (.slice K kn kc) (.int .u64 (x.seq : Int)) (.int .u8 (x.kind : Int)) (.slice V vn vc) ∧ Fam X w.heap.size [(.slice K kn kc, x.key), (.slice V vn vc, x.val)]) := Lib.hid (fun X hX => by
        have hg : w3.grownBy X (some w.heap.size) := by
          rw [hX]
          exact (((grown_set1 w3 _ 0 _).trans (grown_set1 _ _ 1 _)).trans (grown_set1 _ _ 2 _)).trans (grown_set1 _ _ 3 _)
        refine ⟨by rw [hX]; exact z3.put4 rfl _ _ _ _, by rw [hX]; exact (((hB3.setCell (p := ⟨w.heap.size, 0, none⟩) (Nat.le_refl _) _).setCell (p := ⟨w.heap.size, 1, none⟩) (Nat.le_refl _) _).setCell (p := ⟨w.heap.size, 2, none⟩) (Nat.le_refl _) _).setCell (p := ⟨w.heap.size, 3, none⟩) (Nat.le_refl _) _, (heo.kept hg hoff).mono (Nat.le_of_lt hUw), (hfam.kept hg (fun b hb => by injection hb with hb; rw [← hb]; exact hoff2)).mono (Nat.le_of_lt hUw)⟩)
      have HX := Lib.hid (And.intro hx (And.intro (hr3 r (Nat.le_refl _) hrl) hr2))
      obtain ⟨l0', _⟩ := l3.c1
      clear hB3 z3 l3 hr2 hr3 b3 q1 q2 q3 q4 q5 q6 q7 hx heo hfam hcc hoff hoff2 e0 e1 e2 e3
      go_wp2_with fail
      obtain ⟨X, hX⟩ : ∃ X, X = (((w3.setCell ⟨w.heap.size, 0, none⟩ (.slice K kn kc)).setCell ⟨w.heap.size, 1, none⟩ (.int .u64 (x.seq : Int))).setCell ⟨w.heap.size, 2, none⟩ (.int .u8 (x.kind : Int))).setCell ⟨w.heap.size, 3, none⟩ (.slice V vn vc) := ⟨_, rfl⟩
      rw [← hX]
      obtain ⟨zX, bX, eX, fX⟩ := HF.out X hX
      clear x0 x1 x2 x3 y0 y1 y2 y3
      obtain ⟨x0, x1, x2, x3, _⟩ := zX.c4
      exact bodyPost_ret (v := .tuple #[.agg #[.slice K kn kc, .int .u64 (x.seq : Int), .int .u8 (x.kind : Int), .slice V vn vc], .bool true, .int .i64 0]) (by simp [results, Try.results15, go_sem, x0, x1, x2, x3]; try rfl) rfl ⟨bX, .inr (.inr ⟨rfl, r, x, HX.out.1, HX.out.2.1, HX.out.2.2, K, kn, kc, V, vn, vc, rfl, eX, fX⟩)⟩
end Go.Proofs.Ytgigohfjioifaaa
namespace Go.Proofs.Ytgigohfjioifaaa
open Go Go.RowKit

theorem openG_one (r : List UInt8) (hr : r.length ≤ 1048576) : openG (sealB r) ((0 : Nat) : Int) = (r, ((8 + r.length : Nat) : Int), 0) := by
  have hl := sealB_len r
  have hm : r.length = numK ((sealB r).drop 0) 4 := by
    rw [List.drop_zero, sealB, numK_fourB _ _ (by omega)]
  have h2 : (sealB r).take (0 + 8 + r.length) = sealB r := List.take_of_length_le (by omega)
  have h4 : (sealB r).drop (0 + 8) = r := by
    unfold sealB
    rw [← List.append_assoc]
    exact List.drop_left' (by simp only [List.length_append, fourB_len])
  rw [openG_whole (a := 0) (n := 8 + r.length) hl hm (by omega) (by omega), h2, h4, List.drop_zero, eqB_self, if_pos rfl, Nat.zero_add]
theorem numR_at {xs pre r : List UInt8} {n a : Nat} (hx : xs = pre ++ (putU n ++ r)) (ha : a = pre.length) (h : n < B64) : numR xs (a, false) = (n, (a + (putU n).length, false)) := by
  subst hx ha
  unfold numR
  rw [getU_at pre r n h, if_pos rfl]
  simp only [Int.toNat_natCast]
theorem takeR_at {xs pre ys r : List UInt8} {n a : Nat} (hx : xs = pre ++ (ys ++ r)) (ha : a = pre.length) (hn : n = ys.length) : takeR xs n (a, false) = (ys, (a + n, false)) := by
  subst hx ha hn
  unfold takeR
  simp only [List.length_append]
  rw [if_neg (by omega), List.drop_left' rfl, List.take_left' rfl]
theorem comB_take : ∀ (xs ys : List UInt8), xs.take (comB xs ys) = ys.take (comB xs ys)
  | [], _ => by simp [comB]
  | _ :: _, [] => by simp [comB]
  | x :: xs, y :: ys => by
    unfold comB
    split
    · rename_i e
      subst e
      rw [List.take_succ_cons, List.take_succ_cons, comB_take xs ys]
    · simp
/-- An entry that was written is read back. -/
theorem ent_at {xs pre R ah : List UInt8} {x : En} {s a : Nat} (hx : xs = pre ++ (entB s x ++ R)) (ha : a = pre.length) (hs : s ≤ x.key.length) (hk : x.key.length ≤ 1024) (hv : x.val.length ≤ 65536) (hq : U64 x.seq) (hd : x.kind < 256) (hah : ah.take s = x.key.take s) :
    badR xs ah a = false ∧ entR xs ah a = x ∧ (e7R xs a).2.1 = a + (entB s x).length := by
  have hx0 : xs = pre ++ (putU s ++ (putU (x.key.length - s) ++ (putU x.seq ++ ([bt x.kind] ++ (putU x.val.length ++ (x.key.drop s ++ (x.val ++ R))))))) := by
    rw [hx]
    unfold entB
    simp only [List.append_assoc]
  have h1 : e1R xs a = (s, (a + (putU s).length, false)) := numR_at hx0 ha (by unfold B64; omega)
  have h2 : e2R xs a = (x.key.length - s, (a + (putU s).length + (putU (x.key.length - s)).length, false)) := by
    unfold e2R
    rw [h1]
    exact numR_at (pre := pre ++ putU s) (r := putU x.seq ++ ([bt x.kind] ++ (putU x.val.length ++ (x.key.drop s ++ (x.val ++ R))))) (by rw [hx0]; simp only [List.append_assoc]) (by simp only [List.length_append, ha]) (by unfold B64; omega)
  have h3 : e3R xs a = (x.seq, (a + (putU s).length + (putU (x.key.length - s)).length + (putU x.seq).length, false)) := by
    unfold e3R
    rw [h2]
    exact numR_at (pre := pre ++ putU s ++ putU (x.key.length - s)) (r := [bt x.kind] ++ (putU x.val.length ++ (x.key.drop s ++ (x.val ++ R)))) (by rw [hx0]; simp only [List.append_assoc]) (by simp only [List.length_append, ha]) hq
  have h4 : e4R xs a = ([bt x.kind], (a + (putU s).length + (putU (x.key.length - s)).length + (putU x.seq).length + 1, false)) := by
    unfold e4R
    rw [h3]
    exact takeR_at (pre := pre ++ putU s ++ putU (x.key.length - s) ++ putU x.seq) (r := putU x.val.length ++ (x.key.drop s ++ (x.val ++ R))) (by rw [hx0]; simp only [List.append_assoc]) (by simp only [List.length_append, ha]) rfl
  have h5 : e5R xs a = (x.val.length, (a + (putU s).length + (putU (x.key.length - s)).length + (putU x.seq).length + 1 + (putU x.val.length).length, false)) := by
    unfold e5R
    rw [h4]
    exact numR_at (pre := pre ++ putU s ++ putU (x.key.length - s) ++ putU x.seq ++ [bt x.kind]) (r := x.key.drop s ++ (x.val ++ R)) (by rw [hx0]; simp only [List.append_assoc]) (by simp only [List.length_append, List.length_cons, List.length_nil, ha]) (by unfold B64; omega)
  have h6 : e6R xs a = (x.key.drop s, (a + (putU s).length + (putU (x.key.length - s)).length + (putU x.seq).length + 1 + (putU x.val.length).length + (x.key.length - s), false)) := by
    unfold e6R
    rw [h2, h5]
    exact takeR_at (pre := pre ++ putU s ++ putU (x.key.length - s) ++ putU x.seq ++ [bt x.kind] ++ putU x.val.length) (r := x.val ++ R) (by rw [hx0]; simp only [List.append_assoc]) (by simp only [List.length_append, List.length_cons, List.length_nil, ha]) (by simp)
  have h7 : e7R xs a = (x.val, (a + (putU s).length + (putU (x.key.length - s)).length + (putU x.seq).length + 1 + (putU x.val.length).length + (x.key.length - s) + x.val.length, false)) := by
    unfold e7R
    rw [h5, h6]
    exact takeR_at (pre := pre ++ putU s ++ putU (x.key.length - s) ++ putU x.seq ++ [bt x.kind] ++ putU x.val.length ++ x.key.drop s) (r := R) (by rw [hx0]; simp only [List.append_assoc]) (by simp only [List.length_append, List.length_cons, List.length_nil, List.length_drop, ha]) rfl
  have hahl : s ≤ ah.length := by
    have := congrArg List.length hah
    simp only [List.length_take] at this
    omega
  refine ⟨?_, ?_, ?_⟩
  · unfold badR
    rw [h7, h1, h6]
    simp only [List.length_drop, Bool.false_or, Bool.or_eq_false_iff, decide_eq_false_iff_not]
    omega
  · unfold entR
    rw [h1, h3, h4, h6, h7]
    simp only [List.headD_cons]
    rw [hah, List.take_append_drop, bt_nat _ hd]
  · rw [h7]
    simp only
    unfold entB
    simp only [List.length_append, List.length_cons, List.length_nil, List.length_drop]
    omega
theorem outB_pre (ev : Nat) (es : List En) (i : Nat) : ∀ j, i ≤ j → ∃ R, outB ev es j = outB ev es i ++ R := by
  intro j
  induction j with
  | zero => intro h; exact ⟨[], by rw [show i = 0 by omega]; simp⟩
  | succ j ih =>
    intro h
    by_cases e : i = j + 1
    · exact ⟨[], by rw [e]; simp⟩
    · obtain ⟨R, hR⟩ := ih (by omega)
      rw [outB]
      split
      · exact ⟨R ++ entB (shB ev es j) _, by rw [hR, List.append_assoc]⟩
      · exact ⟨R, hR⟩
theorem rsB_pre (ev : Nat) (es : List En) (i : Nat) : ∀ j, i ≤ j → ∃ R, rsB ev es j = rsB ev es i ++ R := by
  intro j
  induction j with
  | zero => intro h; exact ⟨[], by rw [show i = 0 by omega]; simp⟩
  | succ j ih =>
    intro h
    by_cases e : i = j + 1
    · exact ⟨[], by rw [e]; simp⟩
    · obtain ⟨R, hR⟩ := ih (by omega)
      rw [rsB]
      split
      · exact ⟨R ++ fourB _, by rw [hR, List.append_assoc]⟩
      · exact ⟨R, hR⟩
theorem rsB_mod (ev : Nat) (es : List En) : ∀ i, (rsB ev es i).length % 4 = 0
  | 0 => rfl
  | i + 1 => by
    have := rsB_mod ev es i
    unfold rsB
    split
    · rw [List.length_append, fourB_len]; omega
    · exact this
theorem rsB_one {ev : Nat} {es : List En} : ∀ {i : Nat}, 1 ≤ i → i ≤ ev → rsB ev es i = fourB 0
  | 0, h, _ => absurd h (by omega)
  | i + 1, _, h2 => by
    by_cases e : i = 0
    · subst e
      rw [rsB, if_pos (Nat.zero_mod _)]
      rfl
    · rw [rsB, if_neg (by rw [Nat.mod_eq_of_lt (by omega)]; exact e)]
      exact rsB_one (by omega) (by omega)
theorem entB_pos (s : Nat) (x : En) : 1 ≤ (entB s x).length := by
  have := putU_pos s
  unfold entB
  simp only [List.length_append]
  omega
theorem lastK_take {es : List En} {i : Nat} {y : En} (h : es[i]? = some y) : lastK (es.take (i + 1)) = y.key := by
  rw [List.take_add_one, h]
  exact lastK_snoc _ y
theorem sh_take {ev i : Nat} {es : List En} {x : En} (h : es[i]? = some x) : (lastK (es.take i)).take (shB ev es i) = x.key.take (shB ev es i) := by
  unfold shB
  split
  · simp
  · rename_i h0
    obtain ⟨j, rfl⟩ : ∃ j, i = j + 1 := ⟨i - 1, by
      rcases Nat.eq_zero_or_pos i with e | e
      · rw [e, Nat.zero_mod] at h0; exact absurd rfl h0
      · omega⟩
    obtain ⟨y, hy⟩ : ∃ y, es[j]? = some y := ⟨_, List.getElem?_eq_getElem (by have := (List.getElem?_eq_some_iff.1 h).1; omega)⟩
    rw [Nat.add_sub_cancel, hy, h, lastK_take hy]
    exact comB_take _ _
/-- Reading on from the i-th entry. -/
theorem par_from {ev : Nat} {es : List En} {sec : Int} (hz : ∀ x ∈ es, x.key.length ≤ 1024 ∧ x.val.length ≤ 65536) (hw : ∀ x ∈ es, U64 x.seq ∧ x.kind < 256) (g : Nat → Nat → Nat) (hg0 : ∀ c, g es.length c = c)
    (hg : ∀ i c, i < es.length → g i c = g (i + 1) (if ((outB ev es i).length : Int) = sec then i else c)) : ∀ (k i f c : Nat), i + k = es.length → k < f → parR (outB ev es es.length) sec f (outB ev es i).length (es.take i) c = some (es, g i c)
  | 0, i, f, c, hi, hf => by
    obtain ⟨f', rfl⟩ : ∃ f', f = f' + 1 := ⟨f - 1, by omega⟩
    obtain rfl : i = es.length := by omega
    rw [parR, if_pos (Nat.le_refl _), hg0, List.take_length]
  | k + 1, i, f, c, hi, hf => by
    obtain ⟨f', rfl⟩ : ∃ f', f = f' + 1 := ⟨f - 1, by omega⟩
    have hlt : i < es.length := by omega
    obtain ⟨x, hx⟩ : ∃ x, es[i]? = some x := ⟨_, List.getElem?_eq_getElem hlt⟩
    have hm := List.mem_of_getElem? hx
    obtain ⟨R, hR⟩ := outB_pre ev es (i + 1) es.length hlt
    rw [outB_step hx, List.append_assoc] at hR
    have hpos := entB_pos (shB ev es i) x
    obtain ⟨q1, q2, q3⟩ := ent_at (ah := lastK (es.take i)) hR rfl (shB_le hx) (hz x hm).1 (hz x hm).2 (hw x hm).1 (hw x hm).2 (sh_take hx)
    have hlen : (outB ev es i).length < (outB ev es es.length).length := by
      rw [hR]
      simp only [List.length_append]
      omega
    have hnx : (outB ev es i).length + (entB (shB ev es i) x).length = (outB ev es (i + 1)).length := by rw [outB_step hx, List.length_append]
    have htk : es.take i ++ [x] = es.take (i + 1) := by rw [List.take_add_one, hx]; rfl
    rw [parR, if_neg (by omega), q1, q2, q3, hnx, htk, List.length_take, Nat.min_eq_left (by omega)]
    simp only [Bool.false_eq_true, if_false]
    rw [par_from hz hw g hg0 hg k (i + 1) f' _ (by omega) (by omega), ← hg i c hlt]
theorem split_full {ev : Nat} {es : List En} (hF : (fullB ev es).length ≤ 1048576) : splitB (fullB ev es) = some (outB ev es es.length, rsB ev es es.length) := by
  have hm := rsB_mod ev es es.length
  obtain ⟨o, ho⟩ : ∃ o, o = outB ev es es.length := ⟨_, rfl⟩
  obtain ⟨r, hr⟩ : ∃ r, r = rsB ev es es.length := ⟨_, rfl⟩
  have hf : fullB ev es = o ++ r ++ fourB (r.length / 4) := by unfold fullB; rw [← ho, ← hr]
  rw [← hr] at hm
  rw [← ho, ← hr, hf]
  rw [hf] at hF
  have hl : (o ++ r ++ fourB (r.length / 4)).length = o.length + r.length + 4 := by simp only [List.length_append, fourB_len]
  have hd : (o ++ r ++ fourB (r.length / 4)).drop (o.length + r.length) = fourB (r.length / 4) := List.drop_left' (by simp)
  have hnk : numK (fourB (r.length / 4)) 4 = r.length / 4 := by
    have := numK_fourB (r.length / 4) [] (by omega)
    rw [List.append_nil] at this
    exact this
  unfold splitB
  rw [hl, if_neg (by omega), Nat.add_sub_cancel, hd, hnk]
  simp only
  rw [if_neg (by omega), show o.length + r.length - 4 * (r.length / 4) = o.length by omega]
  congr 2
  · rw [List.append_assoc]
    exact List.take_left' rfl
  · rw [show (o ++ r ++ fourB (r.length / 4)).take (o.length + r.length) = o ++ r from List.take_left' (by simp)]
    exact List.drop_left' rfl
theorem out_congr {ev ev2 : Nat} {es : List En} : ∀ {n : Nat}, (∀ i, i < n → (i % ev = 0 ↔ i % ev2 = 0)) → outB ev es n = outB ev2 es n ∧ rsB ev es n = rsB ev2 es n
  | 0, _ => ⟨rfl, rfl⟩
  | n + 1, h => by
    obtain ⟨h1, h2⟩ := out_congr (ev := ev) (ev2 := ev2) (es := es) (n := n) (fun i hi => h i (by omega))
    have hs : shB ev es n = shB ev2 es n := by
      unfold shB
      by_cases e : n % ev = 0
      · rw [if_pos e, if_pos ((h n (by omega)).1 e)]
      · rw [if_neg e, if_neg (fun e2 => e ((h n (by omega)).2 e2))]
    refine ⟨?_, ?_⟩
    · rw [outB, outB, h1, hs]
    · rw [rsB, rsB, h1, h2]
      by_cases e : n % ev = 0
      · rw [if_pos e, if_pos ((h n (by omega)).1 e)]
      · rw [if_neg e, if_neg (fun e2 => e ((h n (by omega)).2 e2))]
theorem build_congr {ev ev2 : Nat} {es : List En} (h : ∀ i, i < es.length → (i % ev = 0 ↔ i % ev2 = 0)) : buildE ev es = buildE ev2 es := by
  have hf : fullB ev es = fullB ev2 es := by
    obtain ⟨h1, h2⟩ := out_congr (ev := ev) (ev2 := ev2) (es := es) h
    unfold fullB
    rw [h1, h2]
  unfold buildE
  rw [hf]
/-- What was built is read. -/
theorem dec_build {ev : Nat} {es : List En} (he : 1 ≤ ev) (hw : ∀ x ∈ es, U64 x.seq ∧ x.kind < 256) (hb : (buildE ev es).2 = 0) : decB (buildE ev es).1 = (es, 0) := by
  obtain ⟨h1, h2, h3, h4, h5⟩ := buildE_ord hb
  have hz := longE_no h3
  rw [h4]
  unfold decB
  rw [openG_one _ h5]
  simp only
  rw [if_neg (by simp)]
  have hsp := split_full h5
  have hmn : ∀ i, i < es.length → (outB ev es i).length < (outB ev es (i + 1)).length := fun i hi => by
    obtain ⟨x, hx⟩ : ∃ x, es[i]? = some x := ⟨_, List.getElem?_eq_getElem hi⟩
    rw [outB_step hx, List.length_append]
    have := entB_pos (shB ev es i) x
    omega
  by_cases hev : ev < es.length
  · -- two restarts at least
    obtain ⟨R, hR⟩ := rsB_pre ev es (ev + 1) es.length hev
    rw [rsB, if_pos (Nat.mod_self ev), rsB_one he (Nat.le_refl _)] at hR
    have hrl : 8 ≤ (rsB ev es es.length).length := by
      rw [hR]
      simp only [List.length_append, fourB_len]
      omega
    have hol : (outB ev es ev).length ≤ 1048576 := by
      have := outB_mono ev es ev es.length (by omega)
      unfold fullB at h5
      simp only [List.length_append] at h5
      omega
    have hnk : numK ((rsB ev es es.length).drop 4) 4 = (outB ev es ev).length := by
      rw [hR, List.append_assoc, List.drop_left' (fourB_len 0)]
      exact numK_fourB _ _ (by omega)
    have hpb : parB (fullB ev es) = some (es, ev) := by
      unfold parB
      rw [hsp]
      simp only
      rw [if_pos hrl, hnk]
      have hmono : ∀ i, i < es.length → (((outB ev es i).length : Int) = ((outB ev es ev).length : Int) ↔ i = ev) := fun i hi => by
        constructor
        · intro h
          have h : (outB ev es i).length = (outB ev es ev).length := by omega
          rcases Nat.lt_trichotomy i ev with e | e | e
          · have a1 := hmn i hi
            have a2 := outB_mono ev es (i + 1) ev (by omega)
            omega
          · exact e
          · have a1 := hmn ev hev
            have a2 := outB_mono ev es (ev + 1) i (by omega)
            omega
        · intro h; rw [h]
      have hp := par_from (sec := ((outB ev es ev).length : Int)) hz hw (fun i c => if i ≤ ev then ev else c) (fun c => by show (if es.length ≤ ev then ev else c) = c; rw [if_neg (by omega)]) (fun i c hi => by
        show (if i ≤ ev then ev else c) = (if i + 1 ≤ ev then ev else (if ((outB ev es i).length : Int) = ((outB ev es ev).length : Int) then i else c))
        by_cases e : i = ev
        · rw [if_pos (by omega), if_neg (by omega), if_pos ((hmono i hi).2 e), e]
        · rw [if_neg (fun h => e ((hmono i hi).1 h))]
          by_cases e2 : i ≤ ev
          · rw [if_pos e2, if_pos (by omega)]
          · rw [if_neg e2, if_neg (by omega)]) es.length 0 ((outB ev es es.length).length + 1) 0 (by omega) (by
          have key : ∀ i, i ≤ es.length → i ≤ (outB ev es i).length := by
            intro i
            induction i with
            | zero => intro _; exact Nat.zero_le _
            | succ i ih => intro h; have := ih (by omega); have := hmn i (by omega); omega
          have := key es.length (Nat.le_refl _)
          omega)
      simp only [outB, List.length_nil, List.take_zero, Nat.zero_le, if_true] at hp
      rw [hp]
      simp only
      rw [if_neg (by omega)]
    rw [hpb, show decP (sealB (fullB ev es)) (some (es, ev)) = if (buildZ ev es).2 = 0 ∧ (buildZ ev es).1 = sealB (fullB ev es) then (es, 0) else ([], 3) from rfl]
    rw [show buildZ ev es = buildE ev es from if_neg (by omega), if_pos ⟨hb, h4⟩]
  · -- one restart alone
    have hrl : ¬ 8 ≤ (rsB ev es es.length).length := by
      rcases Nat.eq_zero_or_pos es.length with e | e
      · rw [e]; simp [rsB]
      · rw [rsB_one e (by omega)]
        rw [fourB_len]
        omega
    have hpb : parB (fullB ev es) = some (es, max es.length 1) := by
      unfold parB
      rw [hsp]
      simp only
      rw [if_neg hrl]
      have hp := par_from (sec := -1) hz hw (ev := ev) (fun _ c => c) (fun c => rfl) (fun i c hi => by
        show c = (if ((outB ev es i).length : Int) = -1 then i else c)
        rw [if_neg (by omega)]) es.length 0 ((outB ev es es.length).length + 1) 0 (by omega) (by
          have key : ∀ i, i ≤ es.length → i ≤ (outB ev es i).length := by
            intro i
            induction i with
            | zero => intro _; exact Nat.zero_le _
            | succ i ih => intro h; have := ih (by omega); have := hmn i (by omega); omega
          have := key es.length (Nat.le_refl _)
          omega)
      simp only [outB, List.length_nil, List.take_zero] at hp
      rw [hp]
      simp only
      rw [if_pos (by omega)]
    have hbe : buildE (max es.length 1) es = buildE ev es := build_congr (fun i hi => by
      have e1 : i % max es.length 1 = i := Nat.mod_eq_of_lt (by omega)
      have e2 : i % ev = i := Nat.mod_eq_of_lt (by omega)
      rw [e1, e2])
    rw [hpb, show decP (sealB (fullB ev es)) (some (es, max es.length 1)) = if (buildZ (max es.length 1) es).2 = 0 ∧ (buildZ (max es.length 1) es).1 = sealB (fullB ev es) then (es, 0) else ([], 3) from rfl]
    rw [show buildZ (max es.length 1) es = buildE (max es.length 1) es from if_neg (by omega), hbe, if_pos ⟨hb, h4⟩]
theorem ord_of_sort {es : List En} (h : SortL es) : ordE es = true := by
  have key : ∀ k, k < es.length ∨ k = 0 → ordK es k = true := by
    intro k
    induction k with
    | zero => intro _; rfl
    | succ k ih =>
      intro hk
      have hk : k + 1 < es.length := by omega
      obtain ⟨a, ha⟩ : ∃ a, es[k]? = some a := ⟨_, List.getElem?_eq_getElem (by omega)⟩
      obtain ⟨b, hb⟩ : ∃ b, es[k + 1]? = some b := ⟨_, List.getElem?_eq_getElem hk⟩
      have hs := List.pairwise_iff_getElem.1 h k (k + 1) (by omega) hk (by omega)
      rw [(List.getElem?_eq_some_iff.1 ha).2, (List.getElem?_eq_some_iff.1 hb).2] at hs
      rw [ordK_step ha hb, ih (.inl (by omega)), hs]
      rfl
  exact key _ (by omega)
/-- Of entries in order, each in form, Build answers the block, or that it is too long. -/
theorem build_sorted {ev : Nat} {es : List En} (hs : SortL es) (hok : ∀ x ∈ es, okE x = true) : (buildE ev es).2 = 0 ∨ buildE ev es = ([], 2) := by
  have h1 : es.any longE = false := by
    rw [List.any_eq_false]
    intro x hx
    rw [(okE_iff.1 (hok x hx)).1]
    simp
  have h2 : es.all formE = true := by
    rw [List.all_eq_true]
    intro x hx
    exact (okE_iff.1 (hok x hx)).2
  have h3 := ord_of_sort hs
  unfold buildE
  rw [h1, h2, h3]
  simp only [Bool.false_eq_true, if_false, Bool.and_self, if_true]
  split
  · exact .inr rfl
  · exact .inl rfl
end Go.Proofs.Ytgigohfjioifaaa
namespace Go.Proofs.Ytgigohfjioifaaa
open Go Go.RowKit

theorem find_at {es : List En} {pl x : En} : ∀ {i : Nat}, es[i]? = some x → nlE es pl i = true → (∀ t, t < i → nlE es pl t = false) → es.find? (fun e => !lessE e pl) = some x := by
  intro i hx hn hf
  have hlt := (List.getElem?_eq_some_iff.1 hx).1
  have hx2 := (List.getElem?_eq_some_iff.1 hx).2
  rw [List.find?_eq_some_iff_getElem]
  unfold nlE at hn
  rw [hx] at hn
  refine ⟨hn, i, hlt, hx2, fun j hj => ?_⟩
  have := hf j hj
  unfold nlE at this
  rw [List.getElem?_eq_getElem (by omega)] at this
  simpa using this
theorem find_no {es : List En} {pl : En} (hf : ∀ t, t < es.length → nlE es pl t = false) : es.find? (fun e => !lessE e pl) = none := by
  rw [List.find?_eq_none]
  intro x hx
  obtain ⟨i, hi⟩ := List.mem_iff_getElem?.1 hx
  have := hf i (List.getElem?_eq_some_iff.1 hi).1
  unfold nlE at this
  rw [hi] at this
  simpa using this
theorem find_at8 {p : En → Bool} {k : Nat} {es : List En} {x : En} (h : (es.take k).find? p = none) (hx : es[k]? = some x) (hk : p x = true) : es.find? p = some x := by
  have hlt := (List.getElem?_eq_some_iff.1 hx).1
  have e : es = es.take k ++ x :: es.drop (k + 1) := by
    have hd : es.drop k = x :: es.drop (k + 1) := by rw [List.drop_eq_getElem_cons hlt, (List.getElem?_eq_some_iff.1 hx).2]
    rw [← hd, List.take_append_drop]
  rw [e, List.find?_append, h, List.find?_cons, hk]
  rfl
theorem find_snoc8 {p : En → Bool} {k : Nat} {es : List En} {x : En} (h : (es.take k).find? p = none) (hx : es[k]? = some x) (hk : p x = false) : (es.take (k + 1)).find? p = none := by
  rw [List.take_add_one, hx, List.find?_append, h]
  simp only [Option.toList, List.find?_cons, hk]
  rfl
set_option maxRecDepth 100000 in
set_option maxHeartbeats 4000000 in
theorem refSeek8_any {w : World} {A F : Option Addr} {n c fn fc at_ : Nat} {es : List En} {key : List UInt8} (h : REs w A n es) (hn : n ≤ 1099511627776) (hs : ∀ x ∈ es, SzE x) (hf : Rd w F fn key) (hfn : fn ≤ 1099511627776) (hfc : fn ≤ fc) (hnil : F = none → fc = 0) (ha : U64 at_) :
    Calls Try.prog 17 #[.slice A n c, .slice F fn fc, .int .u64 (at_ : Int)] w (RetGl w (es.find? (fun e => !lessE e (plE key at_)))) := by
  obtain ⟨U, hU⟩ : ∃ U, U = w.alloc (.cells #[.slice none 0 0, .int .u64 0, .int .u8 0, .slice none 0 0] 33) := ⟨_, rfl⟩
  have bU : Below w.heap.size w U := by rw [hU]; exact (Below.refl _ _).alloc (Nat.le_refl _) _
  have ZU := Lib.hid (show Cl U w.heap.size #[.slice none 0 0, .int .u64 0, .int .u8 0, .slice none 0 0] 33 by rw [hU]; exact Cl.new _ _ _)
  obtain ⟨pr, hpr⟩ : ∃ pr : En → Bool, pr = fun e => !lessE e (plE key at_) := ⟨_, rfl⟩
  rw [← hpr]
  have H1 := Lib.hid h
  have HF := Lib.hid hf
  have HLN := Lib.hid h.len
  have HS := Lib.hid hs
  have BU := Lib.hid bU
  have HN := Lib.hid hnil
  have HPR := Lib.hid hpr
  have HSP : Hid (SzE (plE key at_)) := Lib.hid ⟨by have := hf.len; unfold plE; simp only; omega, by unfold plE; simp⟩
  clear h hs hf bU hnil hpr
  go_enter Try.func17, Try.ntmps17
  go_upto_region 1 with (fail)
  rw [← hU]
  clear hU
  go_wp2_with fail
  go_loopw [8] (fun s8 wr => ∃ k : Nat, k ≤ n ∧ s8 = .int .i64 (k : Int) ∧ (es.take k).find? pr = none ∧ Below U.heap.size U wr) (fun s _ => n - (intOf s).toNat)
  case atStart => exact ⟨0, Nat.zero_le _, rfl, rfl, Below.refl _ _⟩
  case round =>
    obtain ⟨k, hk', rfl, hin, hBr⟩ := hrel
    have HBr := Lib.hid hBr
    have HIN := Lib.hid hin
    have ZR := Lib.hid (ZU.out.below hBr)
    have BWr := Lib.hid (belowT' BU.out hBr)
    clear hin hBr
    by_cases hlt : k < n
    · obtain ⟨b, off, hAb, hbw⟩ := H1.out.pos (by omega)
      subst hAb
      obtain ⟨x, u0, u1, u2, u3, hx, c0', c1', c2', c3', hew⟩ := H1.out.at_ k hlt
      have hbl : b < wr.heap.size := Nat.lt_of_lt_of_le hbw BWr.out.size
      have c0 := (BWr.out.cell hbw).trans c0'
      have c1 := (BWr.out.cell hbw).trans c1'
      have c2 := (BWr.out.cell hbw).trans c2'
      have c3 := (BWr.out.cell hbw).trans c3'
      have hsx := HS.out x (List.mem_of_getElem? hx)
      have HXK := Lib.hid hx
      have HEV := Lib.hid hew
      obtain ⟨z, hz⟩ : ∃ z, z = lessE x (plE key at_) := ⟨_, rfl⟩
      have HL : Hid (Calls Try.prog 56 #[.agg #[u0, u1, u2, u3], .agg #[.slice F fn fc, .int .u64 (at_ : Int), .int .u8 0, .slice none 0 0]] wr (RetT wr z)) := Lib.hid (by
        rw [hz]
        exact refLess_any (hew.below BWr.out) (zero_ev wr key at_ (HF.out.below BWr.out) hfc HN.out ha) hsx HSP.out)
      have HPX : Hid (pr x = !z) := Lib.hid (by rw [HPR.out, hz])
      obtain ⟨L, ln, lc, M, mn, mc, rfl, rfl, rfl, rfl, _⟩ := hew.parts
      have HC : Hid (∀ wx, Below wr.heap.size wr wx → wx.cell? ⟨b, off + k * 4, none⟩ = some (.slice L ln lc) ∧ wx.cell? ⟨b, off + k * 4 + 1, none⟩ = some (.int .u64 (x.seq : Int)) ∧ wx.cell? ⟨b, off + k * 4 + 2, none⟩ = some (.int .u8 (x.kind : Int)) ∧ wx.cell? ⟨b, off + k * 4 + 3, none⟩ = some (.slice M mn mc)) := Lib.hid (fun wx hb => ⟨(hb.cell hbl).trans c0, (hb.cell hbl).trans c1, (hb.cell hbl).trans c2, (hb.cell hbl).trans c3⟩)
      clear hx hew hz c0' c1' c2' c3' hsx
      cases z with
      | false =>
        have HFD : Hid (es.find? pr = some x) := Lib.hid (find_at8 HIN.out HXK.out (by rw [HPX.out]; rfl))
        go_wp2_with fail
        with_reducible refine HL.out.mono ?_
        intro e w2 hq
        obtain ⟨h1, b1⟩ := RetT.outD hq
        subst h1
        have B2 := Lib.hid (belowT' BWr.out b1)
        have Z2 := Lib.hid (ZR.out.below b1)
        obtain ⟨d0, d1, d2, d3⟩ := HC.out _ b1
        obtain ⟨g0, g1, g2, g3, k0, k1, k2, k3⟩ := Z2.out.c4
        clear c0 c1 c2 c3 b1 hq
        go_wp2_with fail
        obtain ⟨X, hX⟩ : ∃ X, X = ((((w2.setCell ⟨w.heap.size, 0, none⟩ (.slice L ln lc)).setCell ⟨w.heap.size, 1, none⟩ (.int .u64 (x.seq : Int))).setCell ⟨w.heap.size, 2, none⟩ (.int .u8 (x.kind : Int))).setCell ⟨w.heap.size, 3, none⟩ (.slice M mn mc)) := ⟨_, rfl⟩
        rw [← hX]
        have zX : Cl X w.heap.size #[.slice L ln lc, .int .u64 (x.seq : Int), .int .u8 (x.kind : Int), .slice M mn mc] 33 := by rw [hX]; exact Z2.out.put4 rfl _ _ _ _
        have bX : Below w.heap.size w X := by rw [hX]; exact below_set (below_set (below_set (below_set B2.out 0 _ (Nat.le_refl _)) 1 _ (Nat.le_refl _)) 2 _ (Nat.le_refl _)) 3 _ (Nat.le_refl _)
        have EVX : EV X x (.slice L ln lc) (.int .u64 (x.seq : Int)) (.int .u8 (x.kind : Int)) (.slice M mn mc) := HEV.out.below bX
        obtain ⟨x0, x1, x2, x3, _⟩ := zX.c4
        refine bodyPost_ret (v := .tuple #[.agg #[.slice L ln lc, .int .u64 (x.seq : Int), .int .u8 (x.kind : Int), .slice M mn mc], .bool true]) (by simp [results, Try.results17, go_sem, x0, x1, x2, x3]; try rfl) rfl (.inr ⟨x, _, _, _, _, HFD.out, rfl, EVX, bX⟩)
      | true =>
        have HNX : Hid ((es.take (k + 1)).find? pr = none) := Lib.hid (find_snoc8 HIN.out HXK.out (by rw [HPX.out]; rfl))
        go_wp2_with fail
        with_reducible refine HL.out.mono ?_
        intro e w2 hq
        obtain ⟨h1, b1⟩ := RetT.outD hq
        subst h1
        have B2 := Lib.hid (HBr.out.trans (b1.mono HBr.out.size))
        clear hq b1
        go_wp2_with fail
        go_roundw
        case rel => exact ⟨k + 1, by omega, by go_num, HNX.out, B2.out⟩
        case measure => simp [intOf]; omega
    · have htk : es.take k = es := List.take_of_length_le (by have := HLN.out; omega)
      have HFD : Hid (es.find? pr = none) := Lib.hid (by rw [← htk]; exact HIN.out)
      obtain ⟨g0, g1, g2, g3, k0, k1, k2, k3⟩ := ZR.out.c4
      clear htk
      go_wp2_with fail
      obtain ⟨X, hX⟩ : ∃ X, X = ((((wr.setCell ⟨w.heap.size, 0, none⟩ (.slice none 0 0)).setCell ⟨w.heap.size, 1, none⟩ (.int .u64 0)).setCell ⟨w.heap.size, 2, none⟩ (.int .u8 0)).setCell ⟨w.heap.size, 3, none⟩ (.slice none 0 0)) := ⟨_, rfl⟩
      rw [← hX]
      have zX : Cl X w.heap.size #[.slice none 0 0, .int .u64 0, .int .u8 0, .slice none 0 0] 33 := by rw [hX]; exact ZR.out.put4 rfl _ _ _ _
      have bX : Below w.heap.size w X := by rw [hX]; exact below_set (below_set (below_set (below_set BWr.out 0 _ (Nat.le_refl _)) 1 _ (Nat.le_refl _)) 2 _ (Nat.le_refl _)) 3 _ (Nat.le_refl _)
      obtain ⟨x0, x1, x2, x3, _⟩ := zX.c4
      refine bodyPost_ret (v := .tuple #[.agg #[.slice none 0 0, .int .u64 0, .int .u8 0, .slice none 0 0], .bool false]) (by simp [results, Try.results17, go_sem, x0, x1, x2, x3]; try rfl) rfl (.inl ⟨HFD.out, rfl, bX⟩)
end Go.Proofs.Ytgigohfjioifaaa
namespace Go.Proofs.Ytgigohfjioifaaa
open Go Go.RowKit

theorem refFour8_any (n : Nat) (w : World) (hn : n < B64) : Calls Try.prog 92 #[.int .i64 n] w (MadeR w.heap.size w (fourB n)) := by
  have hw8 : IntKind.u64.wrap (n : Int) = (n : Int) := u64_nat n hn
  go_enter Try.func92, Try.ntmps92
  go_wp2_with fail
  refine (refOrdU_any n _ hn).mono ?_
  rintro e w' ⟨A, m, c, rfl, ho, hb⟩
  have hm : m = 8 := by rw [← ho.len]; rfl
  subst hm
  have hc8 := ho.cap.1
  have hr := ho.rd.cut (k := 4) (m := 8) (cap := c) (by omega) (by omega) (by omega)
  obtain ⟨g, rfl, hg, _⟩ := ho.form (by omega)
  rw [show cutA (some ⟨g, 0, none⟩) 4 c = some ⟨g, 4, none⟩ by unfold cutA; rw [if_neg (by omega)]; simp [Addr.add]] at hr
  have R := Lib.hid hr
  clear hr
  go_wp2
  go_ret
  refine ⟨_, _, _, rfl, R.out, ?_, hb⟩
  intro b off h
  injection h with h
  injection h with h
  omega
theorem CS.app8 {w0 wr wx : World} {O O' R : Option Addr} {n m oc rc oc' : Nat} {out ys rs : List UInt8} (h : CS w0 O oc out R rc rs wr) (hn : n = out.length) (ho : Own 5 wx w0.heap.size O' (n + m) oc' (out ++ ys)) (hm : ys.length = m) (hg : Grow wr wx O O') : CS w0 O' oc' (out ++ ys) R rc rs wx ∧ n + m = (out ++ ys).length := by
  have e : n + m = (out ++ ys).length := by rw [List.length_append, hn, hm]
  refine ⟨h.left (by rw [← e]; exact ho) hg, e⟩
/-- The kind that stands before entry k+1 is looked at. -/
def refE (es : List En) (k : Nat) : Int := if es.all formE && ordK es k then 0 else 3
theorem refE_check {es : List En} (h : es.any longE = false) : checkE es = refE es (0 - 1) := by
  rw [checkE, h, refE, ordK]
  simp
theorem refE_one {es : List En} : refE es 0 = refE es (0 - 1) := rfl
theorem refE_next {es : List En} {i : Nat} {a b : En} (h1 : es[i]? = some a) (h2 : es[i + 1]? = some b) : refE es (i + 1) = if lessE a b then refE es i else 3 := by
  rw [refE, ordK_step h1 h2, refE]
  cases lessE a b <;> simp
theorem outB_len {ev : Nat} {es : List En} (hs : ∀ x ∈ es, x.key.length ≤ 1024 ∧ x.val.length ≤ 65536) (hw : ∀ x ∈ es, U64 x.seq) : ∀ i, i ≤ es.length → (outB ev es i).length ≤ 66700 * i
  | 0, _ => by simp [outB]
  | i + 1, hi => by
    have ih := outB_len (ev := ev) hs hw i (by omega)
    have hx : es[i]? = some es[i] := List.getElem?_eq_getElem (by omega)
    rw [outB_step hx, List.length_append]
    have hm : es[i] ∈ es := List.getElem_mem (by omega)
    have := entB_len (s := shB ev es i) (x := es[i]) (shB_le (ev := ev) hx) (hs _ hm).1 (hs _ hm).2 (hw _ hm)
    omega
set_option maxRecDepth 100000 in
set_option maxHeartbeats 16000000 in
theorem refBuild8_any {w : World} {A : Option Addr} {n c : Nat} {es : List En} (h : REs w A n es) (hn : n ≤ 4194304) (hz : ∀ x ∈ es, SzE x) (ev : Nat) (he : 1 ≤ ev) (he2 : ev ≤ 9223372036854775807) :
    Calls Try.prog 52 #[.int .i64 (ev : Int), .slice A n c] w (RetBb w (buildE ev es)) := by
  have HM : Hid (Calls Try.prog 60 #[.slice A n c] w (RetNu w (checkE es))) := Lib.hid (refCheck_any h (by omega) hz)
  have HR := Lib.hid h
  have HL := Lib.hid h.len
  have HW := Lib.hid h.wf
  have HZ := Lib.hid hz
  clear h hz
  cases hlo : es.any longE with
  | true =>
    have hc : checkE es = 2 := by rw [checkE, hlo]; rfl
    have hb : buildE ev es = ([], 2) := by rw [buildE, hlo]; rfl
    rw [hc] at HM
    have HB := Lib.hid hb
    clear hlo hc hb
    go_enter Try.func52, Try.ntmps52
    go_wp2_with fail
    with_reducible refine HM.out.mono ?_
    rintro e w1 ⟨rfl, b1⟩
    go_wp2_with fail
    exact bodyPost_ret (v := .tuple #[.slice none 0 0, .int .i64 2]) (by simp [results, Try.f52, go_sem]; try rfl) rfl (RetBb.no HB.out b1)
  | false =>
    have HS := Lib.hid (longE_no hlo)
    obtain ⟨z0, hz0⟩ : ∃ z0, z0 = refE es (0 - 1) := ⟨_, rfl⟩
    have hz3 : z0 = 0 ∨ z0 = 3 := by rw [hz0, refE]; split <;> simp
    have hck : checkE es = z0 := by rw [refE_check hlo, hz0]
    rw [hck] at HM
    have HZ0 := Lib.hid hz0
    have HLO := Lib.hid hlo
    have ht2 : ((z0 : Int) == 2) = false := by rcases hz3 with h | h <;> (subst h; rfl)
    have ht3 : ¬ (z0 : Int) = 2 := by omega
    clear hlo hck hz0 hz3
    go_enter Try.func52, Try.ntmps52
    go_wp2_with fail
    with_reducible refine HM.out.mono ?_
    rintro e w1 ⟨rfl, b1⟩
    have HB1 := Lib.hid b1
    clear b1 HM
    go_wp2_with fail
    go_loopw [6, 7, 8, 9, 10] (fun s6 s7 s8 s9 s10 wr => ∃ (i on rn sn : Nat) (O R : Option Addr) (oc rc : Nat) (z : Int), i ≤ n ∧ s10 = .int .i64 (i : Int) ∧ on = (outB ev es i).length ∧ rn = (rsB ev es i).length ∧ 4 * sn = rn ∧ s6 = .int .i64 z ∧ z = refE es (i - 1) ∧ s7 = .slice O on oc ∧ s8 = .slice R rn rc ∧ s9 = .int .i64 (sn : Int) ∧ CS w O oc (outB ev es i) R rc (rsB ev es i) wr) (fun _ _ _ _ s _ => n - (intOf s).toNat)
    case atStart => exact ⟨0, 0, 0, 0, none, none, 0, 0, z0, Nat.zero_le _, rfl, rfl, rfl, rfl, rfl, HZ0.out, rfl, rfl, rfl, Own.nil _ _ _, Own.nil _ _ _, dj_none _, HB1.out⟩
    case round =>
      obtain ⟨i, on, rn, sn, O, R, oc, rc, z, hi, rfl, hon, hrn, hsn, rfl, hze, rfl, rfl, rfl, hC⟩ := hrel
      have hrl := rsB_len ev es i
      have hol := outB_len (ev := ev) HS.out (fun x hx => (HW.out x hx).1) i (by rw [HL.out]; exact hi)
      have hrn4 : rn ≤ 4 * i := by omega
      have hon4 : on ≤ 66700 * i := by omega
      have hsn4 : sn ≤ 16777216 := by omega
      have HON := Lib.hid hon
      have HRN := Lib.hid hrn
      have HSN := Lib.hid hsn
      have HZE := Lib.hid hze
      have HC := Lib.hid hC
      have hbC := hC.2.2.2
      clear hon hrn hC hrl hsn hze hol
      by_cases hlt : i < n
      · -- A0
        obtain ⟨b, off, hAb, hbl⟩ := HR.out.pos (by omega)
        subst hAb
        obtain ⟨x, v0, v1, v2, v3, hx, c0', c1', c2', c3', hev⟩ := HR.out.at_ i hlt
        have c0 := (hbC.cell (p := ⟨b, off + i * 4, none⟩) hbl).trans c0'
        have HXI := Lib.hid hx
        have HXS := Lib.hid (HS.out x (List.mem_of_getElem? hx))
        have HXW := Lib.hid (HW.out x (List.mem_of_getElem? hx))
        have HEV := Lib.hid hev
        obtain ⟨K, kn, kc, V, vn, vc, rfl, rfl, rfl, rfl, r0, r3, q0, q3, _⟩ := hev.parts
        have HR0 := Lib.hid r0
        have HR3 := Lib.hid r3
        obtain ⟨m, hm⟩ : ∃ m, m = i % ev := ⟨_, rfl⟩
        have e1 : ((i : Int) % (ev : Int)) = (m : Int) := by rw [hm]; push_cast; rfl
        have hml : m < 9223372036854775807 := by have := Nat.mod_lt i (show 0 < ev by omega); omega
        have HM := Lib.hid hm
        obtain ⟨sh, hsh⟩ : ∃ sh, sh = shB ev es i := ⟨_, rfl⟩
        have HSH := Lib.hid hsh
        have C1 := Lib.hid c1'
        have C2 := Lib.hid c2'
        have C3 := Lib.hid c3'
        have C0 := Lib.hid c0'
        clear hx hev r0 r3 hm hsh c0' c1' c2' c3'
        go_upto_if 32 with (fail)
        obtain ⟨rs2, hrs2⟩ : ∃ rs2, rs2 = rsB ev es (i + 1) := ⟨_, rfl⟩
        obtain ⟨rn2, hrn2⟩ : ∃ rn2, rn2 = rs2.length := ⟨_, rfl⟩
        have HRS2 := Lib.hid hrs2
        have HRN2 := Lib.hid hrn2
        clear hrs2 hrn2
        go_cut [8, 9, 11, 12, 13] from 29 to 73 (fun s8 s9 s11 s12 s13 wx => ∃ (R' : Option Addr) (rc' sn' : Nat), s8 = .slice R' rn2 rc' ∧ s9 = .int .i64 (sn' : Int) ∧ 4 * sn' = rn2 ∧ s11 = .int .i64 (sh : Int) ∧ CS w O oc (outB ev es i) R' rc' rs2 wx)
        case first =>
          by_cases hm0 : m = 0
          · subst hm0
            have hrs : rs2 = rsB ev es i ++ fourB on := by rw [HRS2.out, rsB, if_pos HM.out.symm, ← HON.out]
            have hsh0 : sh = 0 := by rw [HSH.out, shB, if_pos HM.out.symm]
            subst hsh0
            have hln : rn + 4 = rn2 := by rw [HRN2.out, hrs, List.length_append, ← HRN.out]; rfl
            have HRS := Lib.hid hrs
            have HLN := Lib.hid hln
            clear hrs hln
            go_wp2_with fail
            with_reducible refine (refFour8_any on wr (by unfold B64; omega)).mono ?_
            rintro e w2 ⟨F, fn, fc, rfl, hF, hFb, b2⟩
            have hfn : fn = 4 := by rw [← hF.len]; rfl
            subst hfn
            have HC2 := Lib.hid (HC.out.below b2)
            have hR2 := HC2.out.2.1
            rw [← HRN.out] at hR2
            have hsz2 := HC2.out.2.2.2.size
            clear hFb b2
            go_wp2_with (at_builtin; refine wpList_appX _ rfl _ _ 22 rfl w.heap.size 5 Try.underlying22 info_u8 R rn rc _ rfl hR2 F 4 fc (fourB on) rfl hF ?_ ?_ ?_)
            · omega
            · exact hsz2
            intro R' rc' w3 oR gR
            rw [HLN.out, ← HRS.out] at oR
            rw [HLN.out]
            have HF := Lib.hid (show CS w O oc (outB ev es i) R' rc' rs2 w3 from HC2.out.right (by rw [← HRN2.out]; exact oR) gR)
            clear oR gR hR2 hF
            go_wp2_with fail
            go_meet
            case rel => exact ⟨R', rc', sn + 1, by first | rfl | simp, by go_num, by have := HSN.out; have := HLN.out; omega, by first | rfl | simp, HF.out⟩
          · have t1 : ((m : Int) == 0) = false := by simp; omega
            have hrs : rs2 = rsB ev es i := by rw [HRS2.out, rsB, if_neg (by rw [← HM.out]; exact hm0)]
            obtain ⟨j, hj⟩ : ∃ j, j = i - 1 := ⟨_, rfl⟩
            have hi0 : 0 < i := by
              rcases Nat.eq_zero_or_pos i with h0 | h0
              · exact absurd (by rw [HM.out, h0, Nat.zero_mod]) hm0
              · exact h0
            obtain ⟨y, u0, u1, u2, u3, hy, d0', d1', d2', d3', hew⟩ := HR.out.at_ j (by omega)
            obtain ⟨L, ln, lc, _, _, _, hu0, _, _, _, r0', _⟩ := hew.parts
            subst hu0
            have hsh2 : sh = comB y.key x.key := by
              rw [HSH.out, shB, if_neg (by rw [← HM.out]; exact hm0), ← hj, hy, HXI.out]
            have hsy := HS.out y (List.mem_of_getElem? hy)
            have hkl := HR0.out.len
            have hll := r0'.len
            have hkn1 : kn ≤ 1099511627776 := by have := HXS.out.1; omega
            have hln1 : ln ≤ 1099511627776 := by omega
            have d0 : wr.cell? ⟨b, off + j * 4, none⟩ = some (.slice L ln lc) := (hbC.cell (p := ⟨b, off + j * 4, none⟩) hbl).trans d0'
            have e2 : IntKind.i64.wrap ((i : Int) - 1) = (j : Int) := by rw [IntWalk.i64_in _ (by omega)]; omega
            have hjn : j < n := by omega
            have HY := Lib.hid (r0'.below hbC)
            have HX := Lib.hid (HR0.out.below hbC)
            have HSH2 := Lib.hid hsh2
            have HRS := Lib.hid hrs
            have HJ := Lib.hid hj
            have hle := comB_le y.key x.key
            rw [← hsh2] at hle
            have hle2 : sh ≤ ln ∧ sh ≤ kn := by omega
            have hln : rn = rn2 := by rw [HRN2.out, hrs, ← HRN.out]
            have HLN := Lib.hid hln
            clear hrs hj hy d0' d1' d2' d3' hew r0' hsh2 hsy hle hln hkl hll
            have HSN2 : Hid (4 * sn = rn2) := Lib.hid (by have := HSN.out; have := HLN.out; omega)
            have HCD : Hid (∀ q1 q2, CS w O oc (outB ev es i) R rc rs2 ((wr.drewN q1).drewN q2)) := Lib.hid (fun q1 q2 => by
              rw [HRS.out]
              exact (HC.out.below (below_drewN (Below.refl _ _) q1)).below (below_drewN (Below.refl _ _) q2))
            obtain ⟨w0, rfl⟩ : ∃ w0, w0 = wr := ⟨_, rfl⟩
            go_wp2_with fail
            go_quiet (fail)
            obtain ⟨q0, hq0⟩ : ∃ q0 : Nat, q0 = nq := ⟨_, rfl⟩
            rw [← hq0]
            clear hq0
            go_wp2_with fail
            go_loopw [11] (fun vi wx => ∃ t q : Nat, vi = .int .i64 (t : Int) ∧ t ≤ sh ∧ wx = w0.drewN q) (fun vi _ => sh - (intOf vi).toNat)
            case atStart => exact ⟨0, q0, rfl, Nat.zero_le _, rfl⟩
            case round =>
              obtain ⟨t, q, rfl, ht, rfl⟩ := hrel
              obtain ⟨W, hW⟩ : ∃ W, W = w0.drewN q := ⟨_, rfl⟩
              by_cases htl : t < sh
              · obtain ⟨by_, h1, h2⟩ := comB_lt (xs := y.key) (ys := x.key) (i := t) (by rw [← HSH2.out]; exact htl)
                have hin : t < ln := by omega
                have him : t < kn := by omega
                obtain ⟨ba, oa, rfl, _⟩ := HY.out.pos (by omega)
                obtain ⟨bb, ob, rfl, _⟩ := HX.out.pos (by omega)
                obtain ⟨x1, hx1, hx2, _⟩ := HY.out.at_ t hin
                obtain ⟨y1, hy1, hy2, _⟩ := HX.out.at_ t him
                obtain rfl : x1 = y1 := by
                  rw [h1] at hx1; rw [h2] at hy1
                  rw [← Option.some.inj hx1, ← Option.some.inj hy1]
                have c1 : W.cell? ⟨ba, oa + t, none⟩ = some (.int .u8 (x1.toNat : Int)) := by rw [hW]; exact hx2
                have c2 : W.cell? ⟨bb, ob + t, none⟩ = some (.int .u8 (x1.toNat : Int)) := by rw [hW]; exact hy2
                rw [← hW]
                have HW2 := Lib.hid hW
                clear hW h1 h2 hx1 hx2 hy1 hy2
                go_wp2_with fail
                go_quiet (fail)
                rw [HW2.out]
                go_wp2_with fail
                go_roundw
                case rel => exact ⟨t + 1, _, by go_num, by omega, rfl⟩
                case measure => simp [intOf]; omega
              · obtain rfl : t = sh := by omega
                rcases comB_at (xs := y.key) (ys := x.key) (i := t) HSH2.out with h1 | h1 | ⟨a1, a2, h1, h2, h3⟩
                · have hin : ¬ t < ln := by have := HY.out.len; omega
                  rw [← hW]
                  have HW2 := Lib.hid hW
                  have d1 : decide (t < ln) = false := by simpa using hin
                  clear hW h1
                  go_wp2_with fail
                  go_quiet (fail)
                  rw [HW2.out]
                  go_wp2_with fail
                  go_meet
                  case rel => exact ⟨R, rc, sn, by rw [HLN.out], rfl, HSN2.out, rfl, HCD.out _ _⟩
                · have him : ¬ t < kn := by have := HX.out.len; omega
                  rw [← hW]
                  have HW2 := Lib.hid hW
                  clear hW h1 htl ht
                  by_cases hin : t < ln
                  · have d1 : decide (t < ln) = true := by simpa using hin
                    have d2 : decide (t < kn) = false := by simpa using him
                    have d3 : decide ((t : Int) < (kn : Int)) = false := by simp; omega
                    have d4 : decide (kn ≤ t) = true := by simp; omega
                    go_wp2_with fail
                    go_quiet (fail)
                    rw [HW2.out]
                    go_wp2_with fail
                    go_meet
                    case rel => exact ⟨R, rc, sn, by rw [HLN.out], rfl, HSN2.out, rfl, HCD.out _ _⟩
                  · have d1 : decide (t < ln) = false := by simpa using hin
                    have d4 : decide (ln ≤ t) = true := by simp; omega
                    go_wp2_with fail
                    go_quiet (fail)
                    rw [HW2.out]
                    go_wp2_with fail
                    go_meet
                    case rel => exact ⟨R, rc, sn, by rw [HLN.out], rfl, HSN2.out, rfl, HCD.out _ _⟩
                · have hin : t < ln := by have := (List.getElem?_eq_some_iff.1 h1).1; have := HY.out.len; omega
                  have him : t < kn := by have := (List.getElem?_eq_some_iff.1 h2).1; have := HX.out.len; omega
                  obtain ⟨ba, oa, rfl, _⟩ := HY.out.pos (by omega)
                  obtain ⟨bb, ob, rfl, _⟩ := HX.out.pos (by omega)
                  obtain ⟨x1, hx1, hx2, _⟩ := HY.out.at_ t hin
                  obtain ⟨y1, hy1, hy2, _⟩ := HX.out.at_ t him
                  have hne : x1.toNat ≠ y1.toNat := fun e => h3 (by
                    rw [h1] at hx1; rw [h2] at hy1
                    rw [Option.some.inj hx1, Option.some.inj hy1]
                    exact UInt8.toNat_inj.1 e)
                  have t1 : ((x1.toNat : Int) == (y1.toNat : Int)) = false := by simp; omega
                  have t2 : ¬ (x1.toNat : Int) = (y1.toNat : Int) := by omega
                  have c1 : W.cell? ⟨ba, oa + t, none⟩ = some (.int .u8 (x1.toNat : Int)) := by rw [hW]; exact hx2
                  have c2 : W.cell? ⟨bb, ob + t, none⟩ = some (.int .u8 (y1.toNat : Int)) := by rw [hW]; exact hy2
                  rw [← hW]
                  have HW2 := Lib.hid hW
                  clear hW h1 h2 h3 hx1 hx2 hy1 hy2
                  go_wp2_with fail
                  go_quiet (fail)
                  rw [HW2.out]
                  go_wp2_with fail
                  go_meet
                  case rel => exact ⟨R, rc, sn, by rw [HLN.out], rfl, HSN2.out, rfl, HCD.out _ _⟩
        case rest =>
          obtain ⟨R', rc', sn', rfl, rfl, hsn', rfl, hcs⟩ := hcut
          have HSN' := Lib.hid hsn'
          have HCS := Lib.hid hcs
          have hbX := hcs.2.2.2
          obtain ⟨z2, hz2⟩ : ∃ z2, z2 = refE es i := ⟨_, rfl⟩
          have HZ2 := Lib.hid hz2
          clear hcs hsn' hz2 c0
          obtain ⟨bz, hbz⟩ : ∃ bz : Bool, bz = true ∧ z2 = 3 ∧ 0 < i ∧ (∀ y, es[i - 1]? = some y → lessE y x = false) ∨ bz = false ∧ z2 = z ∧ (0 < i → ∀ y, es[i - 1]? = some y → lessE y x = true) := by
            by_cases hi0 : i = 0
            · exact ⟨false, .inr ⟨rfl, by rw [HZE.out, HZ2.out, hi0], fun h => by omega⟩⟩
            · obtain ⟨y, hy⟩ : ∃ y, es[i - 1]? = some y := ⟨_, List.getElem?_eq_getElem (by have := HL.out; omega)⟩
              obtain ⟨j, hj⟩ : ∃ j, i = j + 1 := ⟨i - 1, by omega⟩
              have hy2 : es[j]? = some y := by rw [← hy, hj]; rfl
              have h2 := refE_next hy2 (by rw [← hj]; exact HXI.out)
              rw [← hj] at h2
              have h3 : z = refE es j := by rw [HZE.out, hj]; rfl
              rw [← HZ2.out, ← h3] at h2
              cases hl : lessE y x with
              | true => exact ⟨false, .inr ⟨rfl, by rw [h2, hl]; rfl, fun _ y' hy' => by rw [hy] at hy'; injection hy' with hy'; rw [← hy']; exact hl⟩⟩
              | false => exact ⟨true, .inl ⟨rfl, by rw [h2, hl]; rfl, by omega, fun y' hy' => by rw [hy] at hy'; injection hy' with hy'; rw [← hy']; exact hl⟩⟩
          have HBZ := Lib.hid hbz
          clear hbz
          go_upto_if 88 with (fail)
          go_cut [88] from 74 to 87 (fun s88 wx => s88 = .bool bz ∧ CS w O oc (outB ev es i) R' rc' rs2 wx)
          case first =>
            by_cases hi0 : i = 0
            · have g1 : decide (0 < i) = false := by simp; omega
              have g2 : decide ((0 : Int) < (i : Int)) = false := by simp; omega
              have g3 : decide (i ≤ 0) = true := by simp; omega
              have g4 : ¬ 0 < i := by omega
              have hbf : bz = false := by
                rcases HBZ.out with ⟨_, _, h, _⟩ | ⟨h, _⟩
                · omega
                · exact h
              subst hbf
              have HCD : Hid (∀ q, CS w O oc (outB ev es i) R' rc' rs2 (wc.drewN q)) := Lib.hid (fun q => HCS.out.below (below_drewN (Below.refl _ _) q))
              clear hi0
              go_wp2_with fail
              go_quiet (fail)
              go_wp2_with fail
              go_meet
              case rel => exact ⟨rfl, HCD.out _⟩
            · obtain ⟨j, hj⟩ : ∃ j, j = i - 1 := ⟨_, rfl⟩
              obtain ⟨y, u0, u1, u2, u3, hy, d0', d1', d2', d3', hew⟩ := HR.out.at_ j (by omega)
              have g1 : decide (0 < i) = true := by simp; omega
              have g2 : decide ((0 : Int) < (i : Int)) = true := by simp; omega
              have g4 : 0 < i := by omega
              have e2 : IntKind.i64.wrap ((i : Int) - 1) = (j : Int) := by rw [IntWalk.i64_in _ (by omega)]; omega
              have hjn : j < n := by omega
              have HLS : Hid (∀ wx, Below wc.heap.size wc wx → Calls Try.prog 56 #[.agg #[u0, u1, u2, u3], .agg #[.slice K kn kc, .int .u64 (x.seq : Int), .int .u8 (x.kind : Int), .slice V vn vc]] wx (RetT wx (lessE y x))) := Lib.hid (fun wx hb => by
                have hw := hbX.trans (hb.mono hbX.size)
                exact refLess_any (hew.below hw) (HEV.out.below hw) (HZ.out y (List.mem_of_getElem? hy)) (HZ.out x (List.mem_of_getElem? HXI.out)))
              have HSX : Hid (∀ wx, Below wc.heap.size wc wx → wx.cell? ⟨b, off + j * 4, none⟩ = some u0 ∧ wx.cell? ⟨b, off + j * 4 + 1, none⟩ = some u1 ∧ wx.cell? ⟨b, off + j * 4 + 2, none⟩ = some u2 ∧ wx.cell? ⟨b, off + j * 4 + 3, none⟩ = some u3 ∧ wx.cell? ⟨b, off + i * 4, none⟩ = some (.slice K kn kc) ∧ wx.cell? ⟨b, off + i * 4 + 1, none⟩ = some (.int .u64 (x.seq : Int)) ∧ wx.cell? ⟨b, off + i * 4 + 2, none⟩ = some (.int .u8 (x.kind : Int)) ∧ wx.cell? ⟨b, off + i * 4 + 3, none⟩ = some (.slice V vn vc)) := Lib.hid (fun wx hb => by
                have h := hbX.trans (hb.mono hbX.size)
                exact ⟨(h.cell (p := ⟨b, off + j * 4, none⟩) hbl).trans d0', (h.cell (p := ⟨b, off + j * 4 + 1, none⟩) hbl).trans d1', (h.cell (p := ⟨b, off + j * 4 + 2, none⟩) hbl).trans d2', (h.cell (p := ⟨b, off + j * 4 + 3, none⟩) hbl).trans d3', (h.cell (p := ⟨b, off + i * 4, none⟩) hbl).trans C0.out, (h.cell (p := ⟨b, off + i * 4 + 1, none⟩) hbl).trans C1.out, (h.cell (p := ⟨b, off + i * 4 + 2, none⟩) hbl).trans C2.out, (h.cell (p := ⟨b, off + i * 4 + 3, none⟩) hbl).trans C3.out⟩)
              have hB0 : Below wc.heap.size wc wc.drew := (Below.refl _ _).drew
              obtain ⟨lz, hlz⟩ : ∃ lz, lz = lessE y x := ⟨_, rfl⟩
              have hbb : bz = !lz := by
                rw [hlz]
                rw [hj] at hy
                rcases HBZ.out with ⟨h, _, _, h4⟩ | ⟨h, _, h4⟩
                · rw [h, h4 y hy]; rfl
                · rw [h, h4 g4 y hy]; rfl
              subst hbb
              rw [← hlz] at HLS
              clear hj hi0 hy d0' d1' d2' d3' hew hlz
              cases lz with
              | true =>
                go_wp2_with fail
                go_region_held3 (fun wx => wx.cell? ⟨b, off + j * 4, none⟩ = some u0 ∧ wx.cell? ⟨b, off + j * 4 + 1, none⟩ = some u1 ∧ wx.cell? ⟨b, off + j * 4 + 2, none⟩ = some u2 ∧ wx.cell? ⟨b, off + j * 4 + 3, none⟩ = some u3 ∧ wx.cell? ⟨b, off + i * 4, none⟩ = some (.slice K kn kc) ∧ wx.cell? ⟨b, off + i * 4 + 1, none⟩ = some (.int .u64 (x.seq : Int)) ∧ wx.cell? ⟨b, off + i * 4 + 2, none⟩ = some (.int .u8 (x.kind : Int)) ∧ wx.cell? ⟨b, off + i * 4 + 3, none⟩ = some (.slice V vn vc)) (first | assumption | exact HSX.out _ hB0)
                  (first | (go_at_call 56; with_reducible refine (HLS.out _ (by assumption)).mono ?_; intro e1 wn hq; obtain ⟨h1, bn⟩ := RetT.outD hq; subst h1; have bn' := belowT' (by assumption : Below wc.heap.size wc _) bn; have hS1 := HSX.out _ bn'))
                all_goals
                  have HBN : Hid (CS w O oc (outB ev es i) R' rc' rs2 _) := Lib.hid (HCS.out.below (by assumption : Below wc.heap.size wc wn))
                  go_wp2_with fail
                  go_meet
                  case rel => exact ⟨rfl, HBN.out⟩
              | false =>
                go_wp2_with fail
                go_region_held3 (fun wx => wx.cell? ⟨b, off + j * 4, none⟩ = some u0 ∧ wx.cell? ⟨b, off + j * 4 + 1, none⟩ = some u1 ∧ wx.cell? ⟨b, off + j * 4 + 2, none⟩ = some u2 ∧ wx.cell? ⟨b, off + j * 4 + 3, none⟩ = some u3 ∧ wx.cell? ⟨b, off + i * 4, none⟩ = some (.slice K kn kc) ∧ wx.cell? ⟨b, off + i * 4 + 1, none⟩ = some (.int .u64 (x.seq : Int)) ∧ wx.cell? ⟨b, off + i * 4 + 2, none⟩ = some (.int .u8 (x.kind : Int)) ∧ wx.cell? ⟨b, off + i * 4 + 3, none⟩ = some (.slice V vn vc)) (first | assumption | exact HSX.out _ hB0)
                  (first | (go_at_call 56; with_reducible refine (HLS.out _ (by assumption)).mono ?_; intro e1 wn hq; obtain ⟨h1, bn⟩ := RetT.outD hq; subst h1; have bn' := belowT' (by assumption : Below wc.heap.size wc _) bn; have hS1 := HSX.out _ bn'))
                all_goals
                  have HBN : Hid (CS w O oc (outB ev es i) R' rc' rs2 _) := Lib.hid (HCS.out.below (by assumption : Below wc.heap.size wc wn))
                  go_wp2_with fail
                  go_meet
                  case rel => exact ⟨rfl, HBN.out⟩
          case rest =>
            obtain ⟨hbs, hcs⟩ := hcut
            subst hbs
            have hkl := HR0.out.len
            have hvl := HR3.out.len
            have hskn : sh ≤ kn := by have := shB_le (ev := ev) HXI.out; rw [← HSH.out] at this; omega
            have hkn1 : kn ≤ 1024 := by have := HXS.out.1; omega
            have hvn1 : vn ≤ 65536 := by have := HXS.out.2; omega
            have hseq : x.seq < B64 := HXW.out.1
            have hkd : x.kind < 256 := HXW.out.2
            obtain ⟨zk, hzk⟩ : ∃ zk, zk = kn - sh := ⟨_, rfl⟩
            have hzk1 : zk ≤ 1024 := by omega
            have e2 : IntKind.i64.wrap ((kn : Int) - (sh : Int)) = (zk : Int) := by rw [IntWalk.i64_in _ (by omega)]; omega
            have e2b : ((kn : Int) - (sh : Int)) = (zk : Int) := by omega
            have e4 : IntKind.u64.wrap (sh : Int) = (sh : Int) := u64_nat sh (by unfold B64; omega)
            have e5 : IntKind.u64.wrap (zk : Int) = (zk : Int) := u64_nat zk (by unfold B64; omega)
            have e6 : IntKind.u64.wrap (vn : Int) = (vn : Int) := u64_nat vn (by unfold B64; omega)
            have hsl : ∀ W : World, (Instr.slice 22 (.slice K kn kc) (some (.int .i64 (sh : Int))) none none).run Try.prog W = .ok (.slice (cutA K sh kc) zk (kc - sh)) W := by
              rw [hzk]
              exact cut_l Try.underlying22 elem_bytes size_u8 K hskn
            have HRK : Hid (∀ wi : World, Below w.heap.size w wi → Rd wi (cutA K sh kc) zk (x.key.drop sh)) := Lib.hid (fun wi hwi => by
              have h := (HR0.out.below hwi).cut hskn (Nat.le_refl kn) q0
              rw [List.take_of_length_le (by omega)] at h
              rw [hzk]
              exact h)
            have HCL : Hid (∀ wi : World, Below w.heap.size w wi → wi.cell? ⟨b, off + i * 4, none⟩ = some (.slice K kn kc) ∧ wi.cell? ⟨b, off + i * 4 + 1, none⟩ = some (.int .u64 (x.seq : Int)) ∧ wi.cell? ⟨b, off + i * 4 + 2, none⟩ = some (.int .u8 (x.kind : Int)) ∧ wi.cell? ⟨b, off + i * 4 + 3, none⟩ = some (.slice V vn vc)) := Lib.hid (fun wi h => ⟨(h.cell (p := ⟨b, off + i * 4, none⟩) hbl).trans C0.out, (h.cell (p := ⟨b, off + i * 4 + 1, none⟩) hbl).trans C1.out, (h.cell (p := ⟨b, off + i * 4 + 2, none⟩) hbl).trans C2.out, (h.cell (p := ⟨b, off + i * 4 + 3, none⟩) hbl).trans C3.out⟩)
            have HENT : Hid (outB ev es (i + 1) = outB ev es i ++ putU sh ++ putU zk ++ putU x.seq ++ [bt x.kind] ++ putU vn ++ x.key.drop sh ++ x.val) := Lib.hid (by
              rw [outB_step HXI.out, ← HSH.out]
              unfold entB
              rw [hkl, hvl, ← hzk]
              simp only [List.append_assoc])
            have HDL : Hid ((x.key.drop sh).length = zk) := Lib.hid (by rw [List.length_drop]; omega)
            have HVL := Lib.hid hvl
            have p1 := putU_len64 sh (show sh < B64 by unfold B64; omega)
            have p2 := putU_len64 zk (show zk < B64 by unfold B64; omega)
            have p3 := putU_len64 x.seq hseq
            have p5 := putU_len64 vn (show vn < B64 by unfold B64; omega)
            have HD0 := Lib.hid (And.intro hcs HON.out)
            obtain ⟨zf, hzf⟩ : ∃ zf, zf = z2 := ⟨_, rfl⟩
            have HZF := Lib.hid hzf
            clear hcs hkl hvl hzk hbX hbC hzf
            rcases HBZ.out with ⟨rfl, hzb, _⟩ | ⟨rfl, hzb, _⟩
            · have HZB := Lib.hid hzb
              clear hzb
              have kc1 := HCL.out _ HD0.out.1.2.2.2
              obtain ⟨k0, k1, k2, k3⟩ := kc1
              go_wp2_with fail
              refine (refPutU_any sh _ (by first | exact hseq | (unfold B64; omega))).mono ?_
              rintro e wa ⟨P1, m1, d1, rfl, oP, bP⟩
              obtain rfl : (putU sh).length = m1 := oP.len
              have HB1 := Lib.hid (HD0.out.1.below bP)
              have rP := oP.rd
              have ho := HB1.out.1
              rw [← HD0.out.2] at ho
              have hsz := HB1.out.2.2.2.size
              clear oP bP k0 k1 k2 k3
              go_wp2_with (at_builtin; refine wpList_appX _ rfl _ _ 22 rfl w.heap.size 5 Try.underlying22 info_u8 O _ _ _ rfl ho P1 (putU sh).length d1 (putU sh) rfl rP ?_ ?_ ?_)
              · omega
              · exact hsz
              intro A1 c1 wb o1 g1
              obtain ⟨u1, hu⟩ : ∃ u1 : List UInt8, u1 = outB ev es i ++ putU sh := ⟨_, rfl⟩
              have HU1 := Lib.hid hu
              have HD1 := Lib.hid (HB1.out.app8 HD0.out.2 o1 rfl g1)
              rw [← hu] at HD1
              clear hu
              clear o1 g1 ho rP hsz
              have kc2 := HCL.out _ HD1.out.1.2.2.2
              obtain ⟨k0, k1, k2, k3⟩ := kc2
              go_wp2_with fail
              refine (refPutU_any zk _ (by first | exact hseq | (unfold B64; omega))).mono ?_
              rintro e wa ⟨P2, m2, d2, rfl, oP, bP⟩
              obtain rfl : (putU zk).length = m2 := oP.len
              have HB2 := Lib.hid (HD1.out.1.below bP)
              have rP := oP.rd
              have ho := HB2.out.1
              rw [← HD1.out.2] at ho
              have hsz := HB2.out.2.2.2.size
              clear oP bP k0 k1 k2 k3
              go_wp2_with (at_builtin; refine wpList_appX _ rfl _ _ 22 rfl w.heap.size 5 Try.underlying22 info_u8 A1 _ _ _ rfl ho P2 (putU zk).length d2 (putU zk) rfl rP ?_ ?_ ?_)
              · omega
              · exact hsz
              intro A2 c2 wb o1 g1
              obtain ⟨u2, hu⟩ : ∃ u2 : List UInt8, u2 = u1 ++ putU zk := ⟨_, rfl⟩
              have HU2 := Lib.hid hu
              have HD2 := Lib.hid (HB2.out.app8 HD1.out.2 o1 rfl g1)
              rw [← hu] at HD2
              clear hu
              clear o1 g1 ho rP hsz
              have kc3 := HCL.out _ HD2.out.1.2.2.2
              obtain ⟨k0, k1, k2, k3⟩ := kc3
              go_wp2_with fail
              refine (refPutU_any x.seq _ (by first | exact hseq | (unfold B64; omega))).mono ?_
              rintro e wa ⟨P3, m3, d3, rfl, oP, bP⟩
              obtain rfl : (putU x.seq).length = m3 := oP.len
              have HB3 := Lib.hid (HD2.out.1.below bP)
              have rP := oP.rd
              have ho := HB3.out.1
              rw [← HD2.out.2] at ho
              have hsz := HB3.out.2.2.2.size
              clear oP bP k0 k1 k2 k3
              go_wp2_with (at_builtin; refine wpList_appX _ rfl _ _ 22 rfl w.heap.size 5 Try.underlying22 info_u8 A2 _ _ _ rfl ho P3 (putU x.seq).length d3 (putU x.seq) rfl rP ?_ ?_ ?_)
              · omega
              · exact hsz
              intro A3 c3 wb o1 g1
              obtain ⟨u3, hu⟩ : ∃ u3 : List UInt8, u3 = u2 ++ putU x.seq := ⟨_, rfl⟩
              have HU3 := Lib.hid hu
              have HD3 := Lib.hid (HB3.out.app8 HD2.out.2 o1 rfl g1)
              rw [← hu] at HD3
              clear hu
              clear o1 g1 ho rP hsz
              have kc4 := HCL.out _ HD3.out.1.2.2.2
              obtain ⟨k0, k1, k2, k3⟩ := kc4
              have ho := (HD3.out.1.below ((Below.refl _ _).alloc (Nat.le_refl _) (.cells #[.int .u8 (x.kind : Int)] 5))).1
              rw [← HD3.out.2] at ho
              have HB4 := Lib.hid (HD3.out.1.below ((Below.refl _ _).alloc (Nat.le_refl _) (.cells #[.int .u8 (x.kind : Int)] 5)))
              have hsz := HB4.out.2.2.2.size
              go_wp2_with (at_builtin; refine wpList_appX _ rfl _ _ 22 rfl w.heap.size 5 Try.underlying22 info_u8 A3 _ _ _ rfl ho _ 1 1 [bt x.kind] rfl (Rd.one _ _ _ _ ?_) ?_ ?_ ?_)
              · rw [bt_nat _ (by omega)]
              · omega
              · exact hsz
              intro A4 c4 wb o1 g1
              obtain ⟨u4, hu⟩ : ∃ u4 : List UInt8, u4 = u3 ++ [bt x.kind] := ⟨_, rfl⟩
              have HU4 := Lib.hid hu
              have HD4 := Lib.hid (HB4.out.app8 HD3.out.2 o1 rfl g1)
              rw [← hu] at HD4
              clear hu
              clear o1 g1 ho hsz k0 k1 k2 k3
              have kc5 := HCL.out _ HD4.out.1.2.2.2
              obtain ⟨k0, k1, k2, k3⟩ := kc5
              go_wp2_with fail
              refine (refPutU_any vn _ (by first | exact hseq | (unfold B64; omega))).mono ?_
              rintro e wa ⟨P5, m5, d5, rfl, oP, bP⟩
              obtain rfl : (putU vn).length = m5 := oP.len
              have HB5 := Lib.hid (HD4.out.1.below bP)
              have rP := oP.rd
              have ho := HB5.out.1
              rw [← HD4.out.2] at ho
              have hsz := HB5.out.2.2.2.size
              clear oP bP k0 k1 k2 k3
              go_wp2_with (at_builtin; refine wpList_appX _ rfl _ _ 22 rfl w.heap.size 5 Try.underlying22 info_u8 A4 _ _ _ rfl ho P5 (putU vn).length d5 (putU vn) rfl rP ?_ ?_ ?_)
              · omega
              · exact hsz
              intro A5 c5 wb o1 g1
              obtain ⟨u5, hu⟩ : ∃ u5 : List UInt8, u5 = u4 ++ putU vn := ⟨_, rfl⟩
              have HU5 := Lib.hid hu
              have HD5 := Lib.hid (HB5.out.app8 HD4.out.2 o1 rfl g1)
              rw [← hu] at HD5
              clear hu
              clear o1 g1 ho rP hsz
              have kc6 := HCL.out _ HD5.out.1.2.2.2
              obtain ⟨k0, k1, k2, k3⟩ := kc6
              have ho := HD5.out.1.1
              rw [← HD5.out.2] at ho
              have hsz := HD5.out.1.2.2.2.size
              have rP := HRK.out _ HD5.out.1.2.2.2
              go_wp2_with (at_builtin; refine wpList_appX _ rfl _ _ 22 rfl w.heap.size 5 Try.underlying22 info_u8 A5 _ _ _ rfl ho (cutA K sh kc) zk (kc - sh) (x.key.drop sh) rfl rP ?_ ?_ ?_)
              · omega
              · exact hsz
              intro A6 c6 wb o1 g1
              obtain ⟨u6, hu⟩ : ∃ u6 : List UInt8, u6 = u5 ++ (x.key.drop sh) := ⟨_, rfl⟩
              have HU6 := Lib.hid hu
              have HD6 := Lib.hid (HD5.out.1.app8 HD5.out.2 o1 HDL.out g1)
              rw [← hu] at HD6
              clear hu
              clear o1 g1 ho rP hsz k0 k1 k2 k3
              have kc7 := HCL.out _ HD6.out.1.2.2.2
              obtain ⟨k0, k1, k2, k3⟩ := kc7
              have ho := HD6.out.1.1
              rw [← HD6.out.2] at ho
              have hsz := HD6.out.1.2.2.2.size
              have rP := HR3.out.below HD6.out.1.2.2.2
              go_wp2_with (at_builtin; refine wpList_appX _ rfl _ _ 22 rfl w.heap.size 5 Try.underlying22 info_u8 A6 _ _ _ rfl ho V vn vc x.val rfl rP ?_ ?_ ?_)
              · omega
              · exact hsz
              intro A7 c7 wb o1 g1
              obtain ⟨u7, hu⟩ : ∃ u7 : List UInt8, u7 = u6 ++ x.val := ⟨_, rfl⟩
              have HU7 := Lib.hid hu
              have HD7 := Lib.hid (HD6.out.1.app8 HD6.out.2 o1 HVL.out g1)
              rw [← hu] at HD7
              clear hu
              clear o1 g1 ho rP hsz k0 k1 k2 k3
              have HU : u7 = outB ev es (i + 1) := by rw [HENT.out, HU7.out, HU6.out, HU5.out, HU4.out, HU3.out, HU2.out, HU1.out]
              have HFI := HD7
              rw [HU] at HFI
              clear HU
              go_wp2_with fail
              go_roundw
              case rel => exact ⟨i + 1, _, rn2, sn', A7, R', c7, rc', _, by omega, by go_num, HFI.out.2, by rw [HRN2.out, HRS2.out], HSN'.out, rfl, by rw [← HZB.out]; exact HZ2.out, rfl, rfl, rfl, by rw [← HRS2.out]; exact HFI.out.1⟩
              case measure => simp [intOf]; omega
            · have HZB := Lib.hid hzb
              clear hzb
              have kc1 := HCL.out _ HD0.out.1.2.2.2
              obtain ⟨k0, k1, k2, k3⟩ := kc1
              go_wp2_with fail
              refine (refPutU_any sh _ (by first | exact hseq | (unfold B64; omega))).mono ?_
              rintro e wa ⟨P1, m1, d1, rfl, oP, bP⟩
              obtain rfl : (putU sh).length = m1 := oP.len
              have HB1 := Lib.hid (HD0.out.1.below bP)
              have rP := oP.rd
              have ho := HB1.out.1
              rw [← HD0.out.2] at ho
              have hsz := HB1.out.2.2.2.size
              clear oP bP k0 k1 k2 k3
              go_wp2_with (at_builtin; refine wpList_appX _ rfl _ _ 22 rfl w.heap.size 5 Try.underlying22 info_u8 O _ _ _ rfl ho P1 (putU sh).length d1 (putU sh) rfl rP ?_ ?_ ?_)
              · omega
              · exact hsz
              intro A1 c1 wb o1 g1
              obtain ⟨u1, hu⟩ : ∃ u1 : List UInt8, u1 = outB ev es i ++ putU sh := ⟨_, rfl⟩
              have HU1 := Lib.hid hu
              have HD1 := Lib.hid (HB1.out.app8 HD0.out.2 o1 rfl g1)
              rw [← hu] at HD1
              clear hu
              clear o1 g1 ho rP hsz
              have kc2 := HCL.out _ HD1.out.1.2.2.2
              obtain ⟨k0, k1, k2, k3⟩ := kc2
              go_wp2_with fail
              refine (refPutU_any zk _ (by first | exact hseq | (unfold B64; omega))).mono ?_
              rintro e wa ⟨P2, m2, d2, rfl, oP, bP⟩
              obtain rfl : (putU zk).length = m2 := oP.len
              have HB2 := Lib.hid (HD1.out.1.below bP)
              have rP := oP.rd
              have ho := HB2.out.1
              rw [← HD1.out.2] at ho
              have hsz := HB2.out.2.2.2.size
              clear oP bP k0 k1 k2 k3
              go_wp2_with (at_builtin; refine wpList_appX _ rfl _ _ 22 rfl w.heap.size 5 Try.underlying22 info_u8 A1 _ _ _ rfl ho P2 (putU zk).length d2 (putU zk) rfl rP ?_ ?_ ?_)
              · omega
              · exact hsz
              intro A2 c2 wb o1 g1
              obtain ⟨u2, hu⟩ : ∃ u2 : List UInt8, u2 = u1 ++ putU zk := ⟨_, rfl⟩
              have HU2 := Lib.hid hu
              have HD2 := Lib.hid (HB2.out.app8 HD1.out.2 o1 rfl g1)
              rw [← hu] at HD2
              clear hu
              clear o1 g1 ho rP hsz
              have kc3 := HCL.out _ HD2.out.1.2.2.2
              obtain ⟨k0, k1, k2, k3⟩ := kc3
              go_wp2_with fail
              refine (refPutU_any x.seq _ (by first | exact hseq | (unfold B64; omega))).mono ?_
              rintro e wa ⟨P3, m3, d3, rfl, oP, bP⟩
              obtain rfl : (putU x.seq).length = m3 := oP.len
              have HB3 := Lib.hid (HD2.out.1.below bP)
              have rP := oP.rd
              have ho := HB3.out.1
              rw [← HD2.out.2] at ho
              have hsz := HB3.out.2.2.2.size
              clear oP bP k0 k1 k2 k3
              go_wp2_with (at_builtin; refine wpList_appX _ rfl _ _ 22 rfl w.heap.size 5 Try.underlying22 info_u8 A2 _ _ _ rfl ho P3 (putU x.seq).length d3 (putU x.seq) rfl rP ?_ ?_ ?_)
              · omega
              · exact hsz
              intro A3 c3 wb o1 g1
              obtain ⟨u3, hu⟩ : ∃ u3 : List UInt8, u3 = u2 ++ putU x.seq := ⟨_, rfl⟩
              have HU3 := Lib.hid hu
              have HD3 := Lib.hid (HB3.out.app8 HD2.out.2 o1 rfl g1)
              rw [← hu] at HD3
              clear hu
              clear o1 g1 ho rP hsz
              have kc4 := HCL.out _ HD3.out.1.2.2.2
              obtain ⟨k0, k1, k2, k3⟩ := kc4
              have ho := (HD3.out.1.below ((Below.refl _ _).alloc (Nat.le_refl _) (.cells #[.int .u8 (x.kind : Int)] 5))).1
              rw [← HD3.out.2] at ho
              have HB4 := Lib.hid (HD3.out.1.below ((Below.refl _ _).alloc (Nat.le_refl _) (.cells #[.int .u8 (x.kind : Int)] 5)))
              have hsz := HB4.out.2.2.2.size
              go_wp2_with (at_builtin; refine wpList_appX _ rfl _ _ 22 rfl w.heap.size 5 Try.underlying22 info_u8 A3 _ _ _ rfl ho _ 1 1 [bt x.kind] rfl (Rd.one _ _ _ _ ?_) ?_ ?_ ?_)
              · rw [bt_nat _ (by omega)]
              · omega
              · exact hsz
              intro A4 c4 wb o1 g1
              obtain ⟨u4, hu⟩ : ∃ u4 : List UInt8, u4 = u3 ++ [bt x.kind] := ⟨_, rfl⟩
              have HU4 := Lib.hid hu
              have HD4 := Lib.hid (HB4.out.app8 HD3.out.2 o1 rfl g1)
              rw [← hu] at HD4
              clear hu
              clear o1 g1 ho hsz k0 k1 k2 k3
              have kc5 := HCL.out _ HD4.out.1.2.2.2
              obtain ⟨k0, k1, k2, k3⟩ := kc5
              go_wp2_with fail
              refine (refPutU_any vn _ (by first | exact hseq | (unfold B64; omega))).mono ?_
              rintro e wa ⟨P5, m5, d5, rfl, oP, bP⟩
              obtain rfl : (putU vn).length = m5 := oP.len
              have HB5 := Lib.hid (HD4.out.1.below bP)
              have rP := oP.rd
              have ho := HB5.out.1
              rw [← HD4.out.2] at ho
              have hsz := HB5.out.2.2.2.size
              clear oP bP k0 k1 k2 k3
              go_wp2_with (at_builtin; refine wpList_appX _ rfl _ _ 22 rfl w.heap.size 5 Try.underlying22 info_u8 A4 _ _ _ rfl ho P5 (putU vn).length d5 (putU vn) rfl rP ?_ ?_ ?_)
              · omega
              · exact hsz
              intro A5 c5 wb o1 g1
              obtain ⟨u5, hu⟩ : ∃ u5 : List UInt8, u5 = u4 ++ putU vn := ⟨_, rfl⟩
              have HU5 := Lib.hid hu
              have HD5 := Lib.hid (HB5.out.app8 HD4.out.2 o1 rfl g1)
              rw [← hu] at HD5
              clear hu
              clear o1 g1 ho rP hsz
              have kc6 := HCL.out _ HD5.out.1.2.2.2
              obtain ⟨k0, k1, k2, k3⟩ := kc6
              have ho := HD5.out.1.1
              rw [← HD5.out.2] at ho
              have hsz := HD5.out.1.2.2.2.size
              have rP := HRK.out _ HD5.out.1.2.2.2
              go_wp2_with (at_builtin; refine wpList_appX _ rfl _ _ 22 rfl w.heap.size 5 Try.underlying22 info_u8 A5 _ _ _ rfl ho (cutA K sh kc) zk (kc - sh) (x.key.drop sh) rfl rP ?_ ?_ ?_)
              · omega
              · exact hsz
              intro A6 c6 wb o1 g1
              obtain ⟨u6, hu⟩ : ∃ u6 : List UInt8, u6 = u5 ++ (x.key.drop sh) := ⟨_, rfl⟩
              have HU6 := Lib.hid hu
              have HD6 := Lib.hid (HD5.out.1.app8 HD5.out.2 o1 HDL.out g1)
              rw [← hu] at HD6
              clear hu
              clear o1 g1 ho rP hsz k0 k1 k2 k3
              have kc7 := HCL.out _ HD6.out.1.2.2.2
              obtain ⟨k0, k1, k2, k3⟩ := kc7
              have ho := HD6.out.1.1
              rw [← HD6.out.2] at ho
              have hsz := HD6.out.1.2.2.2.size
              have rP := HR3.out.below HD6.out.1.2.2.2
              go_wp2_with (at_builtin; refine wpList_appX _ rfl _ _ 22 rfl w.heap.size 5 Try.underlying22 info_u8 A6 _ _ _ rfl ho V vn vc x.val rfl rP ?_ ?_ ?_)
              · omega
              · exact hsz
              intro A7 c7 wb o1 g1
              obtain ⟨u7, hu⟩ : ∃ u7 : List UInt8, u7 = u6 ++ x.val := ⟨_, rfl⟩
              have HU7 := Lib.hid hu
              have HD7 := Lib.hid (HD6.out.1.app8 HD6.out.2 o1 HVL.out g1)
              rw [← hu] at HD7
              clear hu
              clear o1 g1 ho rP hsz k0 k1 k2 k3
              have HU : u7 = outB ev es (i + 1) := by rw [HENT.out, HU7.out, HU6.out, HU5.out, HU4.out, HU3.out, HU2.out, HU1.out]
              have HFI := HD7
              rw [HU] at HFI
              clear HU
              go_wp2_with fail
              go_roundw
              case rel => exact ⟨i + 1, _, rn2, sn', A7, R', c7, rc', _, by omega, by go_num, HFI.out.2, by rw [HRN2.out, HRS2.out], HSN'.out, rfl, by rw [← HZB.out]; exact HZ2.out, rfl, rfl, rfl, by rw [← HRS2.out]; exact HFI.out.1⟩
              case measure => simp [intOf]; omega
        -- A1
      · obtain rfl : i = n := by omega
        have hsw := hbC.size
        have hO := HC.out.1
        rw [← HON.out] at hO
        have hRd := HC.out.2.1.rd
        rw [← HRN.out] at hRd
        obtain ⟨F, hF⟩ : ∃ F, F = fullB ev es := ⟨_, rfl⟩
        obtain ⟨gd, hgd⟩ : ∃ gd, gd = (es.all formE && ordE es) := ⟨_, rfl⟩
        have hbe : buildE ev es = if 1048576 < F.length then ([], 2) else if gd then (sealB F, 0) else ([], 3) := by rw [buildE, HLO.out, ← hF, hgd]; rfl
        have hzg : z = if gd then 0 else 3 := by rw [HZE.out, refE, hgd, ordE, HL.out]
        obtain ⟨u1, hu1⟩ : ∃ u1, u1 = outB ev es i ++ rsB ev es i := ⟨_, rfl⟩
        obtain ⟨n1, hn1⟩ : ∃ n1, n1 = on + rn := ⟨_, rfl⟩
        have hfull : u1 ++ fourB sn = F := by
          rw [hu1, hF, fullB, HL.out, ← HRN.out]
          have : rn / 4 = sn := by have := HSN.out; omega
          rw [this]
        have hlen : n1 + 4 = F.length := by
          rw [← hfull, List.length_append, hu1, List.length_append, ← HON.out, ← HRN.out, fourB_len]
          omega
        have hfl : n1 + 4 ≤ 1099511627776 := by omega
        have HU1 := Lib.hid hu1
        have HN1 := Lib.hid hn1
        have HFU := Lib.hid hfull
        have HLE := Lib.hid hlen
        have HBE := Lib.hid hbe
        have HZG := Lib.hid hzg
        have HB0 := Lib.hid hbC
        have hn1b : n1 ≤ 1099511627776 := by omega
        clear hbC hF hgd hbe hzg hu1 hn1 hfull hlen
        go_wp2_with (at_builtin; refine wpList_appX _ rfl _ _ 22 rfl w.heap.size 5 Try.underlying22 info_u8 O on oc _ rfl hO R rn rc (rsB ev es i) rfl hRd ?_ ?_ ?_)
        · omega
        · exact hsw
        intro O2 oc2 w2 o2 g2
        have hb2 : Below w.heap.size w w2 := HC.out.2.2.2.trans (g2.below HC.out.1 hsw)
        rw [← HU1.out, ← HN1.out] at o2
        rw [← HN1.out]
        have HO2 := Lib.hid o2
        have HB2 := Lib.hid hb2
        clear hO hRd g2 o2 hb2
        go_wp2_with fail
        with_reducible refine (refFour8_any sn w2 (by unfold B64; omega)).mono ?_
        rintro e w3 ⟨P, fn, fc, rfl, hP, _, b3⟩
        have hfn : fn = 4 := by rw [← hP.len]; rfl
        subst hfn
        have o3 := HO2.out.below b3
        have HB3 := Lib.hid (HB2.out.trans (b3.mono HB2.out.size))
        have hsz3 := HB3.out.size
        clear b3
        go_wp2_with (at_builtin; refine wpList_appX _ rfl _ _ 22 rfl w.heap.size 5 Try.underlying22 info_u8 O2 n1 oc2 _ rfl o3 P 4 fc (fourB sn) rfl hP ?_ ?_ ?_)
        · omega
        · exact hsz3
        intro O4 oc4 w4 o4 g4
        have hb4 : Below w.heap.size w w4 := HB3.out.trans (g4.below o3 hsz3)
        rw [HFU.out] at o4
        have HB4 := Lib.hid hb4
        have HSL : Hid (Calls Try.prog 89 #[.slice O4 (n1 + 4) oc4] w4 (RetSE w4.heap.size w4 (sealG F))) := Lib.hid (refSeal_any O4 (n1 + 4) oc4 F w4 o4.rd hfl)
        clear o3 hP o4 g4 hb4
        by_cases hbig : 1048576 < n1 + 4
        · have hbb : buildE ev es = ([], 2) := by rw [HBE.out, if_pos (by rw [← HLE.out]; exact hbig)]
          rw [sealG_long HLE.out.symm hbig] at HSL
          have HBB := Lib.hid hbb
          clear hbb
          go_wp2_with fail
          with_reducible refine HSL.out.mono ?_
          rintro e w5 ⟨Q, qn, qc, rfl, oQ, b5⟩
          have HB5 := Lib.hid (HB4.out.trans (b5.mono HB4.out.size))
          clear oQ b5
          go_wp2_with fail
          exact bodyPost_ret (v := .tuple #[.slice none 0 0, .int .i64 2]) (by simp [results, Try.f52, go_sem]; try rfl) rfl (RetBb.no HBB.out HB5.out)
        · rw [sealG_ok HLE.out.symm hbig] at HSL
          cases gd with
          | true =>
            have hbb : buildE ev es = (sealB F, 0) := by rw [HBE.out, if_neg (by rw [← HLE.out]; exact hbig)]; rfl
            have hz0 : z = 0 := HZG.out
            subst hz0
            have HBB := Lib.hid hbb
            clear hbb
            go_wp2_with fail
            with_reducible refine HSL.out.mono ?_
            rintro e w5 ⟨Q, qn, qc, rfl, oQ, b5⟩
            have HB5 := Lib.hid (HB4.out.trans (b5.mono HB4.out.size))
            have HOQ := Lib.hid (oQ.mono HB4.out.size)
            have hql : (sealB F).length = qn := oQ.len
            have HQL := Lib.hid hql
            clear oQ b5 hql
            go_wp2_with fail
            have hfin : RetBb w (buildE ev es) (.returned (.tuple #[.slice Q qn qc, .int .i64 0])) w5 := by
              refine ⟨Q, qc, ?_, ?_, HB5.out⟩
              · rw [HBB.out]
                simp only
                rw [HQL.out]
              · rw [HBB.out]
                simp only
                rw [HQL.out]
                exact HOQ.out
            exact bodyPost_ret (v := .tuple #[.slice Q qn qc, .int .i64 0]) (by simp [results, Try.f52, go_sem]; try rfl) rfl hfin
          | false =>
            have hbb : buildE ev es = ([], 3) := by rw [HBE.out, if_neg (by rw [← HLE.out]; exact hbig)]; rfl
            have hz0 : z = 3 := HZG.out
            subst hz0
            have HBB := Lib.hid hbb
            clear hbb
            go_wp2_with fail
            with_reducible refine HSL.out.mono ?_
            rintro e w5 ⟨Q, qn, qc, rfl, oQ, b5⟩
            have HB5 := Lib.hid (HB4.out.trans (b5.mono HB4.out.size))
            clear oQ b5
            go_wp2_with fail
            exact bodyPost_ret (v := .tuple #[.slice none 0 0, .int .i64 3]) (by simp [results, Try.f52, go_sem]; try rfl) rfl (RetBb.no HBB.out HB5.out)
end Go.Proofs.Ytgigohfjioifaaa
namespace Go.Proofs.Ytgigohfjioifaaa
open Go Go.RowKit

/-- A number as the reference's reader takes it, and the place behind it; -1: none. -/
def gN (xs : List UInt8) (t : Int) : Int × Int := if (getU xs t).2.2 = 0 ∧ (getU xs t).1 ≤ 1099511627776 then (((getU xs t).1 : Nat), (getU xs t).2.1) else (-1, t)
def RetGn (w : World) (g : Int × Int) (e : Ending) (w' : World) : Prop := e = .returned (.tuple #[.int .i64 g.1, .int .i64 g.2]) ∧ w' = w
set_option maxRecDepth 100000 in
theorem refGet8_any (A : Option Addr) (n c : Nat) (xs : List UInt8) (t : Int) (w : World) (hx : Rd w A n xs) (hn : n ≤ 1099511627776) :
    Calls Try.prog 90 #[.slice A n c, .int .i64 t] w (RetGn w (gN xs t)) := by
  have HG := Lib.hid (refGetU_any A n c xs t w hx (by omega))
  obtain ⟨m, nx, k, hg⟩ : ∃ m nx k, getU xs t = (m, nx, k) := ⟨_, _, _, rfl⟩
  rw [hg] at HG
  have hgn : gN xs t = if k = 0 ∧ m ≤ 1099511627776 then ((m : Int), nx) else (-1, t) := by rw [gN, hg]
  have HN := Lib.hid hgn
  clear hx hg hgn
  go_enter Try.func90, Try.ntmps90
  go_wp2_with fail
  with_reducible refine HG.out.mono ?_
  rintro e w1 ⟨rfl, rfl⟩
  by_cases hk : k = 0
  · subst hk
    by_cases hm : m ≤ 1099511627776
    · have d1 : decide (1099511627776 < m) = false := by simp; omega
      have d2 : decide ((1099511627776 : Int) < (m : Int)) = false := by simp; omega
      have e1 : IntKind.i64.wrap (m : Int) = (m : Int) := IntWalk.i64_in _ (by omega)
      have hr : gN xs t = ((m : Int), nx) := by rw [HN.out, if_pos ⟨rfl, hm⟩]
      have HRR := Lib.hid hr
      clear hr
      go_wp2_with fail
      exact bodyPost_ret (v := .tuple #[.int .i64 (m : Int), .int .i64 nx]) (by simp [results, Try.f90, go_sem]; try rfl) rfl ⟨by rw [HRR.out], rfl⟩
    · have d1 : decide (1099511627776 < m) = true := by simp; omega
      have d2 : decide ((1099511627776 : Int) < (m : Int)) = true := by simp; omega
      have hr : gN xs t = (-1, t) := by rw [HN.out, if_neg (fun h => hm h.2)]
      have HRR := Lib.hid hr
      clear hr
      go_wp2_with fail
      exact bodyPost_ret (v := .tuple #[.int .i64 (-1), .int .i64 t]) (by simp [results, Try.f90, go_sem]; try rfl) rfl ⟨by rw [HRR.out], rfl⟩
  · have d1 : ((k : Int) == 0) = false := by simpa using hk
    have hr : gN xs t = (-1, t) := by rw [HN.out, if_neg (fun h => hk h.1)]
    have HRR := Lib.hid hr
    clear hr
    go_wp2_with fail
    exact bodyPost_ret (v := .tuple #[.int .i64 (-1), .int .i64 t]) (by simp [results, Try.f90, go_sem]; try rfl) rfl ⟨by rw [HRR.out], rfl⟩
end Go.Proofs.Ytgigohfjioifaaa
namespace Go.Proofs.Ytgigohfjioifaaa
open Go Go.RowKit

/-- One round of the reference's reader: an entry, and the place behind it; none: it can't be read. -/
def rdS (xs key : List UInt8) (a : Int) : Option (En × Int) :=
  if (gN xs a).1 < 0 ∨ (gN xs (gN xs a).2).1 < 0 ∨ (getU xs (gN xs (gN xs a).2).2).2.2 ≠ 0 ∨ (xs.length : Int) ≤ (getU xs (gN xs (gN xs a).2).2).2.1 ∨ (key.length : Int) < (gN xs a).1 then none
  else if (gN xs ((getU xs (gN xs (gN xs a).2).2).2.1 + 1)).1 < 0 ∨ (xs.length : Int) - (gN xs ((getU xs (gN xs (gN xs a).2).2).2.1 + 1)).2 < (gN xs (gN xs a).2).1 ∨ (xs.length : Int) - (gN xs ((getU xs (gN xs (gN xs a).2).2).2.1 + 1)).2 - (gN xs (gN xs a).2).1 < (gN xs ((getU xs (gN xs (gN xs a).2).2).2.1 + 1)).1 then none
  else some (⟨key.take (gN xs a).1.toNat ++ (xs.drop (gN xs ((getU xs (gN xs (gN xs a).2).2).2.1 + 1)).2.toNat).take (gN xs (gN xs a).2).1.toNat, (getU xs (gN xs (gN xs a).2).2).1, (xs[(getU xs (gN xs (gN xs a).2).2).2.1.toNat]?.getD 0).toNat, (xs.drop ((gN xs ((getU xs (gN xs (gN xs a).2).2).2.1 + 1)).2 + (gN xs (gN xs a).2).1).toNat).take (gN xs ((getU xs (gN xs (gN xs a).2).2).2.1 + 1)).1.toNat⟩,
    (gN xs ((getU xs (gN xs (gN xs a).2).2).2.1 + 1)).2 + (gN xs (gN xs a).2).1 + (gN xs ((getU xs (gN xs (gN xs a).2).2).2.1 + 1)).1)
theorem rdS_eq {xs key : List UInt8} {a s r k q v p : Int} {m : Nat} {p1 p2 : Int} (h1 : gN xs a = (s, p1)) (h2 : gN xs p1 = (r, p2)) (h3 : getU xs p2 = (m, k, q)) (h4 : gN xs (k + 1) = (v, p)) :
    rdS xs key a = if s < 0 ∨ r < 0 ∨ q ≠ 0 ∨ (xs.length : Int) ≤ k ∨ (key.length : Int) < s then none
      else if v < 0 ∨ (xs.length : Int) - p < r ∨ (xs.length : Int) - p - r < v then none
      else some (⟨key.take s.toNat ++ (xs.drop p.toNat).take r.toNat, m, (xs[k.toNat]?.getD 0).toNat, (xs.drop (p + r).toNat).take v.toNat⟩, p + r + v) := by
  unfold rdS
  rw [h1, h2, h3, h4]
theorem gN_at {xs pre r : List UInt8} {n a : Nat} (hx : xs = pre ++ (putU n ++ r)) (ha : a = pre.length) (h : n ≤ 1099511627776) : gN xs (a : Int) = ((n : Int), ((a + (putU n).length : Nat) : Int)) := by
  subst hx ha
  unfold gN
  rw [getU_at pre r n (by unfold B64; omega)]
  simp only
  rw [if_pos ⟨trivial, h⟩]
/-- An entry that was written is read back. -/
theorem rd_at {xs pre R key : List UInt8} {x : En} {s a : Nat} (hx : xs = pre ++ (entB s x ++ R)) (ha : a = pre.length) (hs : s ≤ x.key.length) (hk : x.key.length ≤ 1024) (hv : x.val.length ≤ 65536) (hq : U64 x.seq) (hd : x.kind < 256) (hah : key.take s = x.key.take s) :
    rdS xs key (a : Int) = some (x, ((a + (entB s x).length : Nat) : Int)) := by
  have hx0 : xs = pre ++ (putU s ++ (putU (x.key.length - s) ++ (putU x.seq ++ ([bt x.kind] ++ (putU x.val.length ++ (x.key.drop s ++ (x.val ++ R))))))) := by
    rw [hx]
    unfold entB
    simp only [List.append_assoc]
  obtain ⟨b1, hb1⟩ : ∃ b1, b1 = a + (putU s).length := ⟨_, rfl⟩
  obtain ⟨b2, hb2⟩ : ∃ b2, b2 = b1 + (putU (x.key.length - s)).length := ⟨_, rfl⟩
  obtain ⟨b3, hb3⟩ : ∃ b3, b3 = b2 + (putU x.seq).length := ⟨_, rfl⟩
  obtain ⟨b5, hb5⟩ : ∃ b5, b5 = b3 + 1 + (putU x.val.length).length := ⟨_, rfl⟩
  have h1 : gN xs (a : Int) = ((s : Int), (b1 : Int)) := by
    rw [hb1]
    exact gN_at hx0 ha (by omega)
  have h2 : gN xs (b1 : Int) = (((x.key.length - s : Nat) : Int), (b2 : Int)) := by
    rw [hb2]
    exact gN_at (pre := pre ++ putU s) (r := putU x.seq ++ ([bt x.kind] ++ (putU x.val.length ++ (x.key.drop s ++ (x.val ++ R))))) (by rw [hx0]; simp only [List.append_assoc]) (by rw [hb1]; simp only [List.length_append, ha]) (by omega)
  have h3 : getU xs (b2 : Int) = (x.seq, (b3 : Int), 0) := by
    have e : xs = (pre ++ putU s ++ putU (x.key.length - s)) ++ (putU x.seq ++ ([bt x.kind] ++ (putU x.val.length ++ (x.key.drop s ++ (x.val ++ R))))) := by rw [hx0]; simp only [List.append_assoc]
    have hl : b2 = (pre ++ putU s ++ putU (x.key.length - s)).length := by rw [hb2, hb1]; simp only [List.length_append, ha]
    rw [hb3, hl, e]
    exact getU_at _ _ x.seq hq
  have h4 : gN xs ((b3 : Int) + 1) = (((x.val.length : Nat) : Int), (b5 : Int)) := by
    have e : ((b3 : Int) + 1) = ((b3 + 1 : Nat) : Int) := by omega
    rw [e, hb5]
    exact gN_at (pre := pre ++ putU s ++ putU (x.key.length - s) ++ putU x.seq ++ [bt x.kind]) (r := x.key.drop s ++ (x.val ++ R)) (by rw [hx0]; simp only [List.append_assoc]) (by rw [hb3, hb2, hb1]; simp only [List.length_append, List.length_cons, List.length_nil, ha]) (by omega)
  have hkl : s ≤ key.length := by
    have := congrArg List.length hah
    simp only [List.length_take] at this
    omega
  have hxl : xs.length = b5 + (x.key.length - s) + x.val.length + R.length := by
    rw [hx0, hb5, hb3, hb2, hb1, ha]
    simp only [List.length_append, List.length_cons, List.length_nil, List.length_drop]
    omega
  have e5 : xs = (pre ++ putU s ++ putU (x.key.length - s) ++ putU x.seq ++ [bt x.kind] ++ putU x.val.length) ++ (x.key.drop s ++ (x.val ++ R)) := by rw [hx0]; simp only [List.append_assoc]
  have l5 : (pre ++ putU s ++ putU (x.key.length - s) ++ putU x.seq ++ [bt x.kind] ++ putU x.val.length).length = b5 := by
    rw [hb5, hb3, hb2, hb1, ha]
    simp only [List.length_append, List.length_cons, List.length_nil]
  have d5 : xs.drop b5 = x.key.drop s ++ (x.val ++ R) := by rw [e5, ← l5, List.drop_left' rfl]
  have d6 : xs.drop (b5 + (x.key.length - s)) = x.val ++ R := by
    rw [← List.drop_drop, d5]
    exact List.drop_left' (by simp)
  have d3 : xs[b3]? = some (bt x.kind) := by
    have e3 : xs = (pre ++ putU s ++ putU (x.key.length - s) ++ putU x.seq) ++ (bt x.kind :: (putU x.val.length ++ (x.key.drop s ++ (x.val ++ R)))) := by rw [hx0]; simp
    have l3 : b3 = (pre ++ putU s ++ putU (x.key.length - s) ++ putU x.seq).length := by rw [hb3, hb2, hb1, ha]; simp only [List.length_append]
    rw [e3, l3, List.getElem?_append_right (Nat.le_refl _), Nat.sub_self]
    rfl
  rw [rdS_eq h1 h2 h3 h4, if_neg (by omega), if_neg (by omega)]
  have n1 : ((b5 : Int) + ((x.key.length - s : Nat) : Int)).toNat = b5 + (x.key.length - s) := by omega
  rw [n1]
  simp only [Int.toNat_natCast]
  rw [d5, d6, d3, hah]
  have t1 : (x.key.drop s ++ (x.val ++ R)).take (x.key.length - s) = x.key.drop s := List.take_left' (by simp)
  have t2 : (x.val ++ R).take x.val.length = x.val := List.take_left' rfl
  rw [t1, t2, List.take_append_drop]
  have t3 : ((some (bt x.kind)).getD 0).toNat = x.kind := bt_nat _ hd
  rw [t3]
  have t4 : a + (entB s x).length = b5 + (x.key.length - s) + x.val.length := by
    rw [hb5, hb3, hb2, hb1]
    unfold entB
    simp only [List.length_append, List.length_cons, List.length_nil, List.length_drop]
    omega
  rw [t4]
  simp only [Option.some.injEq, Prod.mk.injEq]
  exact ⟨trivial, by omega⟩
/-- The reference's reader from a place on: the entries and their places. -/
def rdL (xs : List UInt8) : Nat → Int → List UInt8 → List En → List Int → Option (List En × List Int)
  | 0, _, _, _, _ => none
  | f + 1, a, key, es, ps => if (xs.length : Int) ≤ a then some (es, ps) else
      match rdS xs key a with
      | none => none
      | some (x, b) => rdL xs f b x.key (es ++ [x]) (ps ++ [a])
/-- The places of the first i entries. -/
def plB (ev : Nat) (es : List En) (i : Nat) : List Int := (List.range i).map (fun j => ((outB ev es j).length : Int))
theorem plB_step (ev : Nat) (es : List En) (i : Nat) : plB ev es i ++ [((outB ev es i).length : Int)] = plB ev es (i + 1) := by
  unfold plB
  rw [List.range_succ, List.map_append]
  rfl
/-- Reading on from the i-th entry. -/
theorem rd_from {ev : Nat} {es : List En} (hz : ∀ x ∈ es, x.key.length ≤ 1024 ∧ x.val.length ≤ 65536) (hw : ∀ x ∈ es, U64 x.seq ∧ x.kind < 256) : ∀ (k i f : Nat), i + k = es.length → k < f → rdL (outB ev es es.length) f ((outB ev es i).length : Int) (lastK (es.take i)) (es.take i) (plB ev es i) = some (es, plB ev es es.length)
  | 0, i, f, hi, hf => by
    obtain ⟨f', rfl⟩ : ∃ f', f = f' + 1 := ⟨f - 1, by omega⟩
    obtain rfl : i = es.length := by omega
    rw [rdL, if_pos (Int.le_refl _), List.take_length]
  | k + 1, i, f, hi, hf => by
    obtain ⟨f', rfl⟩ : ∃ f', f = f' + 1 := ⟨f - 1, by omega⟩
    have hlt : i < es.length := by omega
    obtain ⟨x, hx⟩ : ∃ x, es[i]? = some x := ⟨_, List.getElem?_eq_getElem hlt⟩
    have hm := List.mem_of_getElem? hx
    obtain ⟨R, hR⟩ := outB_pre ev es (i + 1) es.length hlt
    rw [outB_step hx, List.append_assoc] at hR
    have hpos := entB_pos (shB ev es i) x
    have q1 := rd_at (key := lastK (es.take i)) hR rfl (shB_le hx) (hz x hm).1 (hz x hm).2 (hw x hm).1 (hw x hm).2 (sh_take hx)
    have hlen : (outB ev es i).length < (outB ev es es.length).length := by
      rw [hR]
      simp only [List.length_append]
      omega
    have hnx : (outB ev es i).length + (entB (shB ev es i) x).length = (outB ev es (i + 1)).length := by rw [outB_step hx, List.length_append]
    have htk : es.take i ++ [x] = es.take (i + 1) := by rw [List.take_add_one, hx]; rfl
    have hlk : x.key = lastK (es.take (i + 1)) := (lastK_take hx).symm
    rw [rdL, if_neg (by omega), q1]
    simp only
    rw [hnx, htk, hlk, plB_step]
    exact rd_from hz hw k (i + 1) f' (by omega) (by omega)
end Go.Proofs.Ytgigohfjioifaaa
namespace Go.Proofs.Ytgigohfjioifaaa
open Go Go.RowKit

theorem rdS_wf {xs key : List UInt8} {a b : Int} {x : En} (h : rdS xs key a = some (x, b)) : U64 x.seq ∧ x.kind < 256 := by
  obtain ⟨s, p1, h1⟩ : ∃ s p1, gN xs a = (s, p1) := ⟨_, _, rfl⟩
  obtain ⟨r, p2, h2⟩ : ∃ r p2, gN xs p1 = (r, p2) := ⟨_, _, rfl⟩
  obtain ⟨m, k, q, h3⟩ : ∃ m k q, getU xs p2 = (m, k, q) := ⟨_, _, _, rfl⟩
  obtain ⟨v, p, h4⟩ : ∃ v p, gN xs (k + 1) = (v, p) := ⟨_, _, rfl⟩
  rw [rdS_eq h1 h2 h3 h4] at h
  split at h
  · cases h
  · rename_i hg
    split at h
    · cases h
    · injection h with h
      injection h with h _
      subst h
      have hq : q = 0 := by
        rcases Int.decEq q 0 with h | h
        · exact absurd (.inr (.inr (.inl h))) hg
        · exact h
      subst hq
      obtain ⟨_, _, _, _, _, _, _, hm⟩ := getU_ok h3
      exact ⟨hm, UInt8.toNat_lt _⟩
theorem rdL_wf {xs : List UInt8} : ∀ (f : Nat) {a : Int} {key : List UInt8} {es es' : List En} {ps ps' : List Int}, (∀ x ∈ es, U64 x.seq ∧ x.kind < 256) → rdL xs f a key es ps = some (es', ps') → ∀ x ∈ es', U64 x.seq ∧ x.kind < 256
  | 0, _, _, _, _, _, _, _, h => by rw [rdL] at h; cases h
  | f + 1, a, key, es, es', ps, ps', hw, h => by
    rw [rdL] at h
    split at h
    · injection h with h
      injection h with h _
      rw [← h]
      exact hw
    · split at h
      · cases h
      · rename_i x b hx
        refine rdL_wf f (fun y hy => ?_) h
        rcases List.mem_append.1 hy with h1 | h1
        · exact hw y h1
        · rw [List.mem_singleton] at h1
          rw [h1]
          exact rdS_wf hx
/-- The last place below k at which z stands. -/
def lastAt (ps : List Int) (z : Int) (d : Nat) : Nat → Nat
  | 0 => d
  | k + 1 => if ps[k]? = some z then k else lastAt ps z d k
/-- The every that the reference takes. -/
def evD (es : List En) (ps : List Int) (zs : List UInt8) : Nat := if 8 ≤ zs.length then lastAt ps (numK (zs.drop 4) 4 : Int) es.length ps.length else es.length
/-- What the reference makes of what was read. -/
def finD (xs zs : List UInt8) : Option (List En × List Int) → List En × Int
  | none => ([], 3)
  | some (es, ps) => if es ≠ [] ∧ evD es ps zs = 0 then ([], 3) else if (buildE (if es = [] then 1 else evD es ps zs) es).2 = 0 ∧ (buildE (if es = [] then 1 else evD es ps zs) es).1 = xs then (es, 0) else ([], 3)
def bodyD (xs : List UInt8) : Option (List UInt8 × List UInt8) → List En × Int
  | none => ([], 3)
  | some (ys, zs) => finD xs zs (rdL ys (ys.length + 1) 0 [] [] [])
/-- What the reference's Decode answers. -/
def refD (xs : List UInt8) : List En × Int :=
  match openG xs ((0 : Nat) : Int) with
  | (body, nx, k) => if k ≠ 0 then ([], k) else if nx ≠ (xs.length : Int) then ([], 3) else bodyD xs (splitB body)
theorem finD_ok {xs zs : List UInt8} {o : Option (List En × List Int)} {es : List En} (hw : ∀ es' ps', o = some (es', ps') → ∀ x ∈ es', U64 x.seq ∧ x.kind < 256) (h : finD xs zs o = (es, 0)) : decB xs = (es, 0) := by
  cases o with
  | none => unfold finD at h; injection h with _ h; cases h
  | some z =>
    obtain ⟨es', ps⟩ := z
    unfold finD at h
    simp only at h
    split at h
    · injection h with _ h; cases h
    · rename_i h0
      obtain ⟨ev, hev0⟩ : ∃ ev, ev = (if es' = [] then 1 else evD es' ps zs) := ⟨_, rfl⟩
      rw [← hev0] at h
      split at h
      · rename_i hb
        injection h with h _
        subst h
        have hev : 1 ≤ ev := by
          rw [hev0]
          split
          · omega
          · rename_i hne
            rcases Nat.eq_zero_or_pos (evD es' ps zs) with h | h
            · exact absurd ⟨hne, h⟩ h0
            · exact h
        have := dec_build hev (hw es' ps rfl) hb.1
        rw [hb.2] at this
        exact this
      · injection h with _ h; cases h
theorem refD_ok {xs : List UInt8} {es : List En} (h : refD xs = (es, 0)) : decB xs = (es, 0) := by
  unfold refD at h
  rcases hog : openG xs ((0 : Nat) : Int) with ⟨body, nx, k⟩
  rw [hog] at h
  simp only at h
  split at h
  · rename_i hk
    injection h with _ h
    exact absurd h hk
  · split at h
    · injection h with _ h; cases h
    · cases hs : splitB body with
      | none => rw [hs] at h; unfold bodyD at h; injection h with _ h; cases h
      | some z =>
        obtain ⟨ys, zs⟩ := z
        rw [hs] at h
        unfold bodyD at h
        simp only at h
        exact finD_ok (fun es' ps' ho => rdL_wf _ (fun x hx => by cases hx) ho) h
theorem lastAt_one {ps : List Int} {z : Int} {d j : Nat} : ∀ (k : Nat), j < k → (∀ i, i < k → (ps[i]? = some z ↔ i = j)) → lastAt ps z d k = j
  | 0, h, _ => absurd h (by omega)
  | k + 1, h, hi => by
    rw [lastAt]
    by_cases e : k = j
    · rw [if_pos ((hi k (by omega)).2 e), e]
    · rw [if_neg (fun h2 => e ((hi k (by omega)).1 h2))]
      exact lastAt_one k (by omega) (fun i h3 => hi i (by omega))
theorem plB_at {ev : Nat} {es : List En} {n i : Nat} (h : i < n) : (plB ev es n)[i]? = some ((outB ev es i).length : Int) := by
  unfold plB
  rw [List.getElem?_map, List.getElem?_range h]
  rfl
/-- What was built, the reference takes. -/
theorem refD_build {ev : Nat} {es : List En} (he : 1 ≤ ev) (hw : ∀ x ∈ es, U64 x.seq ∧ x.kind < 256) (hb : (buildE ev es).2 = 0) : refD (buildE ev es).1 = (es, 0) := by
  obtain ⟨h1, h2, h3, h4, h5⟩ := buildE_ord hb
  have hz := longE_no h3
  have hmn : ∀ i, i < es.length → (outB ev es i).length < (outB ev es (i + 1)).length := fun i hi => by
    obtain ⟨x, hx⟩ : ∃ x, es[i]? = some x := ⟨_, List.getElem?_eq_getElem hi⟩
    rw [outB_step hx, List.length_append]
    have := entB_pos (shB ev es i) x
    omega
  have key : ∀ i, i ≤ es.length → i ≤ (outB ev es i).length := by
    intro i
    induction i with
    | zero => intro _; exact Nat.zero_le _
    | succ i ih => intro h; have := ih (by omega); have := hmn i (by omega); omega
  have hrd := rd_from (ev := ev) hz hw es.length 0 ((outB ev es es.length).length + 1) (by omega) (by have := key es.length (Nat.le_refl _); omega)
  have hrd2 : rdL (outB ev es es.length) ((outB ev es es.length).length + 1) 0 [] [] [] = some (es, plB ev es es.length) := hrd
  have hx : (buildE ev es).1 = sealB (fullB ev es) := h4
  rw [h4]
  unfold refD
  rw [openG_one _ h5]
  simp only
  rw [if_neg (by simp), if_neg (by rw [sealB_len]; simp), split_full h5]
  unfold bodyD
  simp only
  rw [hrd2]
  unfold finD
  simp only
  by_cases hne : es = []
  · have hbe : buildE 1 es = buildE ev es := build_congr (fun i hi => by rw [hne] at hi; simp at hi)
    rw [if_neg (fun h => h.1 hne), if_pos hne, hbe, if_pos ⟨hb, hx⟩]
  · have hlen : 0 < es.length := List.length_pos_iff.2 hne
    have hevd : ∃ e2, evD es (plB ev es es.length) (rsB ev es es.length) = e2 ∧ 1 ≤ e2 ∧ buildE e2 es = buildE ev es := by
      by_cases hev : ev < es.length
      · obtain ⟨R, hR⟩ := rsB_pre ev es (ev + 1) es.length hev
        rw [rsB, if_pos (Nat.mod_self ev), rsB_one he (Nat.le_refl _)] at hR
        have hrl : 8 ≤ (rsB ev es es.length).length := by
          rw [hR]
          simp only [List.length_append, fourB_len]
          omega
        have hol : (outB ev es ev).length ≤ 1048576 := by
          have := outB_mono ev es ev es.length (by omega)
          unfold fullB at h5
          simp only [List.length_append] at h5
          omega
        have hnk : numK ((rsB ev es es.length).drop 4) 4 = (outB ev es ev).length := by
          rw [hR, List.append_assoc, List.drop_left' (fourB_len 0)]
          exact numK_fourB _ _ (by omega)
        refine ⟨ev, ?_, he, rfl⟩
        unfold evD
        rw [if_pos hrl, hnk]
        have hpl : (plB ev es es.length).length = es.length := by unfold plB; simp
        rw [hpl]
        refine lastAt_one es.length hev (fun i hi => ?_)
        rw [plB_at hi]
        constructor
        · intro h
          have h : (outB ev es i).length = (outB ev es ev).length := by injection h with h; omega
          rcases Nat.lt_trichotomy i ev with e | e | e
          · have a1 := hmn i hi
            have a2 := outB_mono ev es (i + 1) ev (by omega)
            omega
          · exact e
          · have a1 := hmn ev hev
            have a2 := outB_mono ev es (ev + 1) i (by omega)
            omega
        · intro h; rw [h]
      · have hrl : ¬ 8 ≤ (rsB ev es es.length).length := by
          rw [rsB_one hlen (by omega), fourB_len]
          omega
        refine ⟨es.length, ?_, hlen, build_congr (fun i hi => ?_)⟩
        · unfold evD
          rw [if_neg hrl]
        · have e1 : i % es.length = i := Nat.mod_eq_of_lt hi
          have e2 : i % ev = i := Nat.mod_eq_of_lt (by omega)
          rw [e1, e2]
    obtain ⟨e2, q1, q2, q3⟩ := hevd
    rw [q1, if_neg (fun h => by omega), if_neg hne, q3, if_pos ⟨hb, hx⟩]
/-- What the program takes was built. -/
theorem decB_built {xs : List UInt8} {es : List En} (h : decB xs = (es, 0)) : ∃ ev, 1 ≤ ev ∧ buildE ev es = (xs, 0) := by
  unfold decB at h
  rcases hog : openG xs ((0 : Nat) : Int) with ⟨ins, nx, k⟩
  rw [hog] at h
  simp only at h
  split at h
  · rename_i hk
    injection h with h1 h2
    exact absurd h2 hk
  · cases hp : parB ins with
    | none =>
      rw [hp] at h
      unfold decP at h
      injection h with h1 h2
      cases h2
    | some z =>
      obtain ⟨es', ev⟩ := z
      rw [hp] at h
      unfold decP at h
      simp only at h
      split at h
      · rename_i hb
        injection h with h _
        subst h
        unfold buildZ at hb
        split at hb
        · cases hb.1
        · rename_i hev
          exact ⟨ev, by omega, Prod.ext hb.2 hb.1⟩
      · injection h with _ h; cases h
theorem decB_kinds {xs : List UInt8} : ((openG xs ((0 : Nat) : Int)).2.2 ≠ 0 ∧ decB xs = ([], (openG xs ((0 : Nat) : Int)).2.2)) ∨ ((openG xs ((0 : Nat) : Int)).2.2 = 0 ∧ (decB xs = ([], 3) ∨ ∃ es, decB xs = (es, 0))) := by
  unfold decB
  rcases openG xs ((0 : Nat) : Int) with ⟨ins, nx, k⟩
  simp only
  by_cases hk : k = 0
  · refine .inr ⟨hk, ?_⟩
    rw [if_neg (fun h => h hk)]
    cases parB ins with
    | none => exact .inl rfl
    | some z =>
      obtain ⟨es, ev⟩ := z
      unfold decP
      simp only
      split
      · exact .inr ⟨es, rfl⟩
      · exact .inl rfl
  · exact .inl ⟨hk, by rw [if_pos hk]⟩
theorem finD_kinds {xs zs : List UInt8} (o : Option (List En × List Int)) : finD xs zs o = ([], 3) ∨ ∃ es, finD xs zs o = (es, 0) := by
  cases o with
  | none => exact .inl rfl
  | some z =>
    obtain ⟨es, ps⟩ := z
    unfold finD
    simp only
    by_cases h1 : es ≠ [] ∧ evD es ps zs = 0
    · rw [if_pos h1]; exact .inl rfl
    · rw [if_neg h1]
      by_cases h2 : (buildE (if es = [] then 1 else evD es ps zs) es).2 = 0 ∧ (buildE (if es = [] then 1 else evD es ps zs) es).1 = xs
      · rw [if_pos h2]; exact .inr ⟨es, rfl⟩
      · rw [if_neg h2]; exact .inl rfl
theorem refD_kinds {xs : List UInt8} : ((openG xs ((0 : Nat) : Int)).2.2 ≠ 0 ∧ refD xs = ([], (openG xs ((0 : Nat) : Int)).2.2)) ∨ ((openG xs ((0 : Nat) : Int)).2.2 = 0 ∧ (refD xs = ([], 3) ∨ ∃ es, refD xs = (es, 0))) := by
  unfold refD
  rcases openG xs ((0 : Nat) : Int) with ⟨ins, nx, k⟩
  simp only
  by_cases hk : k = 0
  · refine .inr ⟨hk, ?_⟩
    rw [if_neg (fun h => h hk)]
    by_cases hn : nx ≠ (xs.length : Int)
    · rw [if_pos hn]; exact .inl rfl
    · rw [if_neg hn]
      cases splitB ins with
      | none => exact .inl rfl
      | some z =>
        obtain ⟨ys, zs⟩ := z
        exact finD_kinds _
  · exact .inl ⟨hk, by rw [if_pos hk]⟩
/-- The reference's Decode and the program's are one. -/
theorem refD_eq {xs : List UInt8} (hw : ∀ es, decB xs = (es, 0) → ∀ x ∈ es, U64 x.seq ∧ x.kind < 256) : refD xs = decB xs := by
  rcases decB_kinds (xs := xs) with ⟨h1, h2⟩ | ⟨h1, h2⟩
  · rcases refD_kinds (xs := xs) with ⟨_, k2⟩ | ⟨k1, _⟩
    · rw [h2, k2]
    · exact absurd k1 h1
  · rcases h2 with h2 | ⟨es, h2⟩
    · rcases refD_kinds (xs := xs) with ⟨k1, _⟩ | ⟨_, k2 | ⟨es, k2⟩⟩
      · exact absurd h1 k1
      · rw [h2, k2]
      · rw [k2, refD_ok k2]
    · obtain ⟨ev, he, hb⟩ := decB_built h2
      have h3 := refD_build he (hw es h2) (by rw [hb])
      rw [hb] at h3
      rw [h2]
      exact h3
end Go.Proofs.Ytgigohfjioifaaa
namespace Go.Proofs.Ytgigohfjioifaaa
open Go Go.RowKit

theorem Rd.take8 {w : World} {A : Option Addr} {n m : Nat} {xs : List UInt8} (h : Rd w A n xs) (hm : m ≤ n) : Rd w A m (xs.take m) := by
  refine ⟨by rw [List.length_take, h.1]; omega, fun h0 => ?_⟩
  obtain ⟨b, off, e, hb, hc⟩ := h.2 (by omega)
  refine ⟨b, off, e, hb, fun i x hi => hc i x ?_⟩
  rw [List.getElem?_take] at hi
  split at hi
  · exact hi
  · cases hi
/-- Where a number's end lies. -/
theorem gN_pos {xs : List UInt8} {a : Nat} {s p : Int} (ha : a ≤ xs.length) (h : gN xs (a : Int) = (s, p)) : ∃ b : Nat, p = (b : Int) ∧ a ≤ b ∧ b ≤ xs.length ∧ ((s = -1 ∧ b = a) ∨ ∃ t : Nat, s = (t : Int) ∧ t ≤ 1099511627776 ∧ a < b) := by
  unfold gN at h
  rcases hg : getU xs (a : Int) with ⟨m, nx, e⟩
  rw [hg] at h
  simp only at h
  split at h
  · rename_i hk
    injection h with h1 h2
    obtain ⟨k, hk1, hk2, hk3, _⟩ := getU_err ha hg hk.1
    exact ⟨k, by rw [← h2, hk1], by omega, hk3, .inr ⟨m, h1.symm, hk.2, hk2⟩⟩
  · injection h with h1 h2
    exact ⟨a, h2.symm, Nat.le_refl _, ha, .inl ⟨h1.symm, rfl⟩⟩
/-- The two rows that the reader makes. -/
def RR (w : World) (L P : Option Addr) (ln d pn pd : Nat) (es : List En) (vs : List Value) (ps : List Int) (wr : World) : Prop :=
  OwnE wr w.heap.size L ln d vs ∧ EOs w.heap.size wr es vs ∧ es.length = ln ∧ OwnV 3 wr w.heap.size P pn pd (ps.map (fun z => Value.int .i64 z)) ∧ ps.length = pn ∧ Below w.heap.size w wr
theorem RR.below {w wr wx : World} {L P : Option Addr} {ln d pn pd : Nat} {es : List En} {vs : List Value} {ps : List Int} (h : RR w L P ln d pn pd es vs ps wr) (hb : Below wr.heap.size wr wx) : RR w L P ln d pn pd es vs ps wx := by
  obtain ⟨h1, h2, h3, h4, h5, h6⟩ := h
  exact ⟨h1.below hb, h2.below hb, h3, h4.below hb, h5, h6.trans (hb.mono h6.size)⟩
/-- What read hands back. -/
def RetRd (w : World) (m : Nat) (o : Option (List En × List Int)) (e : Ending) (w' : World) : Prop :=
  (o = none ∧ e = .returned (.tuple #[.slice none 0 0, .slice none 0 0, .bool false]) ∧ Below w.heap.size w w') ∨
  ∃ es ps L P ln d pn pd vs, o = some (es, ps) ∧ e = .returned (.tuple #[.slice L ln d, .slice P pn pd, .bool true]) ∧ ln ≤ m ∧ pn ≤ m ∧ (∀ x ∈ es, SzE x) ∧ RR w L P ln d pn pd es vs ps w'
theorem rdL_no {xs key : List UInt8} {f a : Nat} {es : List En} {ps : List Int} (h : a < xs.length) (hr : rdS xs key (a : Int) = none) : rdL xs (f + 1) (a : Int) key es ps = none := by
  rw [rdL, if_neg (by omega), hr]
theorem rdL_some {xs key : List UInt8} {f a : Nat} {b : Int} {x : En} {es : List En} {ps : List Int} (h : a < xs.length) (hr : rdS xs key (a : Int) = some (x, b)) : rdL xs (f + 1) (a : Int) key es ps = rdL xs f b x.key (es ++ [x]) (ps ++ [(a : Int)]) := by
  rw [rdL, if_neg (by omega), hr]
theorem info_int8 : (Try.prog.info? 3).map (fun i => (i.zero, i.size, i.bytes)) = some (some (.int .i64 0), 1, 8) := by kernel_rfl
/-- Rows of other kinds lie in other blocks than an entry's bytes. -/
theorem eos_off {base : Nat} {w : World} {t : TypeId} {s b1 n c j : Nat} {L : Option Addr} {us : List Value} (k : w.ownsRow b1 t s (.slice L n c) j us) (hne : t ≠ 5) : ∀ {es : List En} {vs : List Value}, EOs base w es vs → OffW vs (blk L)
  | [], _, h => by rw [show _ = [] from h]; exact OffW.nil _
  | e :: es, vs, h => fun g hg A m d hv => by
    obtain ⟨v0, v1, v2, v3, r, rfl, ⟨K, kn, kc, V, vn, vc, rfl, rfl, rfl, rfl, o1, o2, _⟩, h2⟩ := h
    have ih := eos_off k hne h2 g hg A m d
    simp only [List.mem_cons] at hv
    rcases hv with e | e | e | e | e
    · injection e with e1 e2 e3
      rw [e1]
      exact fun h => row_ne k o1 hne g hg h
    · cases e
    · cases e
    · injection e with e1 e2 e3
      rw [e1]
      exact fun h => row_ne k o2 hne g hg h
    · exact ih e
theorem RR.place {w wr wx : World} {L P P' : Option Addr} {ln d pn pd pd' : Nat} {es : List En} {vs : List Value} {ps : List Int} {z : Int} (h : RR w L P ln d pn pd es vs ps wr) (hP : OwnV 3 wx w.heap.size P' (pn + 1) pd' (ps.map (fun z => Value.int .i64 z) ++ [.int .i64 z])) (hg : wr.grownBy wx (blk P)) : RR w L P' ln d (pn + 1) pd' es vs (ps ++ [z]) wx := by
  obtain ⟨h1, h2, h3, h4, h5, h6⟩ := h
  refine ⟨ownE_kept h1 hg (fun b hb e => row_ne h4 h1 (by decide) b e hb), EOs.kept hg h2 (eos_off h4 (by decide) h2), h3, by rw [List.map_append]; exact hP, by simp [h5], h6.grown hg h6.size (fun k hk => (OwnV.lt h4 k hk).1)⟩
theorem RR.key {w wr wx : World} {L P K : Option Addr} {ln d pn pd kn kc b : Nat} {es : List En} {vs : List Value} {ps : List Int} {key : List UInt8} (h : RR w L P ln d pn pd es vs ps wr) (hk : Own 5 wr b K kn kc key) (hg : wr.grownBy wx (blk P)) : Own 5 wx b K kn kc key := by
  obtain ⟨_, _, _, h4, _, _⟩ := h
  exact hk.kept hg (fun b hb e => row_ne h4 hk (by decide) b e hb)
/-- One entry more appended onto a row of entries, at a step of a region that draws its order. -/
theorem step_app4 {P : Program} (w : World) {ops : Array Oper} {o : Oper} {a : Act} {K : Act → World → Prop} {Q : Exit → Act → World → Prop} {E : Prop} (hgd : o.guard = none) (s x : Operand) (tt : TypeId)
    (ho : o.op = .call { callee := .builtin .append, args := #[s, x], argTypes := #[tt, tt] })
    (base : Nat) (z : Value) (by_ : Nat) (ht : P.underlying tt = some (.slice 33)) (hi : (P.info? 33).map (fun i => (i.zero, i.size, i.bytes)) = some (some z, 4, by_)) (hz1 : z.cells.size = 4)
    (A : Option Addr) (n c : Nat) (vs : List Value) (hs : a.eval s = .slice A n c) (hown : OwnE w base A n c vs)
    (ad : Addr) (m d : Nat) (ys : List Value) (hx : a.eval x = .slice (some ad) m d) (hr : RdV w (some ad) (m * 4) ys) (hm : 0 < m) (h1 : ∀ u ∈ ys, u.oneCell' = true)
    (hn : n + m ≤ maxLen) (hby : (n + m) * by_ ≤ 140737488355328) (hbase : base ≤ w.heap.size)
    (h : ∀ A' c' w', OwnE w' base A' (n + m) c' (vs ++ ys) → w.grownBy w' (blk A) → K (a.put o.dst (.slice A' (n + m) c')) w') :
    if Region.wanted o (yielded ops a.tmps) = true then Oper.wp P o a w K Q else E := by
  have hw : Region.wanted o (yielded ops a.tmps) = true := by simp [Region.wanted, hgd]
  rw [if_pos hw]
  obtain ⟨i, hi, hz, hsz, hby2⟩ := info_parts hi
  obtain ⟨b, off, e, _, hc⟩ := hr.2 (by omega)
  injection e with e
  subst e
  refine wp_append_own w s x tt ho base 33 i z 4 by_ ht hi hz hsz hby2 hz1 (by decide) (.slice A n c) n vs hs hown ⟨b, off, none⟩ m d ys hx hr.1 (fun j u hj => by rw [Addr.add_lit]; exact hc j u hj) h1 hn hby hbase ?_
  intro v' w' k1 k2 _
  obtain ⟨A', c', rfl⟩ : ∃ A' c', v' = .slice A' (n + m) c' := by
    rcases k1.2 with ⟨h3, h4⟩ | ⟨g, cap, cur, h3, _⟩
    · exact ⟨none, 0, by rw [h3, h4]⟩
    · exact ⟨_, _, h3⟩
  rw [own_blk] at k2
  exact h A' c' w' k1 k2
theorem EO.mk8 {base kn kc vn vc : Nat} {w : World} {K V : Option Addr} {x : En} (hK : Own 5 w base K kn kc x.key) (hV : Own 5 w base V vn vc x.val) (hu : U64 x.seq ∧ x.kind < 256) : EO base w x (.slice K kn kc) (.int .u64 (x.seq : Int)) (.int .u8 (x.kind : Int)) (.slice V vn vc) :=
  ⟨K, kn, kc, V, vn, vc, rfl, rfl, rfl, rfl, hK, hV, hu.1, hu.2⟩
theorem RR.entry {w wr wx : World} {L L' P K V : Option Addr} {ln d d' pn pd kn kc vn vc : Nat} {es : List En} {vs : List Value} {ps : List Int} {x : En} (h : RR w L P ln d pn pd es vs ps wr) (hK : Own 5 wr w.heap.size K kn kc x.key) (hV : Own 5 wr w.heap.size V vn vc x.val) (hu : U64 x.seq ∧ x.kind < 256)
    (hL : OwnE wx w.heap.size L' (ln + 1) d' (vs ++ [.slice K kn kc, .int .u64 (x.seq : Int), .int .u8 (x.kind : Int), .slice V vn vc])) (hg : wr.grownBy wx (blk L)) :
    RR w L' P (ln + 1) d' pn pd (es ++ [x]) (vs ++ [.slice K kn kc, .int .u64 (x.seq : Int), .int .u8 (x.kind : Int), .slice V vn vc]) ps wx := by
  obtain ⟨h1, h2, h3, h4, h5, h6⟩ := h
  have kK := hK.kept hg (fun b hb e => row_ne h1 hK (by decide) b e hb)
  have kV := hV.kept hg (fun b hb e => row_ne h1 hV (by decide) b e hb)
  refine ⟨hL, (EOs.kept hg h2 (eos_off h1 (by decide) h2)).app (EOs.one (EO.mk8 kK kV hu)), by simp [h3], ?_, h5, h6.grown hg h6.size (fun k hk => (OwnE.lt h1 k hk).1)⟩
  refine World.ownsRow.kept h4 hg ?_
  rw [own_blk]
  cases hb : blk P with
  | none => exact .inl rfl
  | some b => exact .inr (fun e => row_ne h1 h4 (by decide) b e.symm hb)
theorem RR.keyE {w wr wx : World} {L P K : Option Addr} {ln d pn pd kn kc b : Nat} {es : List En} {vs : List Value} {ps : List Int} {key : List UInt8} (h : RR w L P ln d pn pd es vs ps wr) (hk : Own 5 wr b K kn kc key) (hg : wr.grownBy wx (blk L)) : Own 5 wx b K kn kc key :=
  hk.kept hg (fun g hb e => row_ne h.1 hk (by decide) g e hb)
set_option maxRecDepth 100000 in
set_option maxHeartbeats 16000000 in
theorem refRead_any {w : World} {A : Option Addr} {n c : Nat} {xs : List UInt8} (h : Rd w A n xs) (hn : n ≤ 1073741824) (hc : n ≤ c) (hnil : A = none → c = 0) :
    Calls Try.prog 51 #[.slice A n c] w (RetRd w n (rdL xs (xs.length + 1) 0 [] [] [])) := by
  have hl := h.len
  obtain ⟨o, ho⟩ : ∃ o, o = rdL xs (xs.length + 1) 0 [] [] [] := ⟨_, rfl⟩
  rw [← ho]
  have HX := Lib.hid h
  have HL := Lib.hid hl
  have HO := Lib.hid ho
  have HNIL := Lib.hid hnil
  clear h hl ho hnil
  go_enter Try.func51, Try.ntmps51
  go_wp2_with fail
  go_loopw [5, 6, 7, 8] (fun s5 s6 s7 s8 wr => ∃ (a f ln d pn pd kn kc : Nat) (L P K : Option Addr) (es : List En) (vs : List Value) (ps : List Int) (key : List UInt8), a ≤ n ∧ s8 = .int .i64 (a : Int) ∧ s5 = .slice L ln d ∧ s6 = .slice P pn pd ∧ s7 = .slice K kn kc ∧ o = rdL xs f (a : Int) key es ps ∧ n < a + f ∧ ln ≤ a ∧ pn ≤ a ∧ kn ≤ a ∧ Own 5 wr w.heap.size K kn kc key ∧ RR w L P ln d pn pd es vs ps wr ∧ (∀ x ∈ es, SzE x)) (fun _ _ _ s _ => n - (intOf s).toNat)
  case atStart => exact ⟨0, xs.length + 1, 0, 0, 0, 0, 0, 0, none, none, none, [], [], [], [], Nat.zero_le _, rfl, rfl, rfl, rfl, HO.out, by have := HL.out; omega, Nat.le_refl _, Nat.le_refl _, Nat.zero_le _, Own.nil _ _ _, ⟨OwnE.nil _ _, rfl, rfl, OwnV.nil _ _ _, rfl, Below.refl _ _⟩, fun x hx => by cases hx⟩
  case round =>
    obtain ⟨a, f, ln, d, pn, pd, kn, kc, L, P, K, es, vs, ps, key, ha, rfl, rfl, rfl, rfl, hof, hf, hla, hpa, hkn, hK, hR, hSE⟩ := hrel
    have HSE := Lib.hid hSE
    clear hSE
    have HOF := Lib.hid hof
    have HK := Lib.hid hK
    have HR := Lib.hid hR
    clear hof hK hR
    by_cases hlt : a < n
    · -- A0
      have hnn : xs.length = n := HL.out
      obtain ⟨f', rfl⟩ : ∃ f', f = f' + 1 := ⟨f - 1, by omega⟩
      obtain ⟨s, p1, hg1⟩ : ∃ s p1, gN xs (a : Int) = (s, p1) := ⟨_, _, rfl⟩
      obtain ⟨b1, rfl, hb1, hb1n, hs⟩ := gN_pos (by omega) hg1
      obtain ⟨r, p2, hg2⟩ : ∃ r p2, gN xs (b1 : Int) = (r, p2) := ⟨_, _, rfl⟩
      obtain ⟨b2, rfl, hb2, hb2n, hr⟩ := gN_pos (by omega) hg2
      obtain ⟨m, k, q, hg3⟩ : ∃ m k q, getU xs (b2 : Int) = (m, k, q) := ⟨_, _, _, rfl⟩
      obtain ⟨v, p4, hg4⟩ : ∃ v p4, gN xs (k + 1) = (v, p4) := ⟨_, _, rfl⟩
      have HEQ := Lib.hid (rdS_eq (key := key) hg1 hg2 hg3 hg4)
      have HNO := Lib.hid (fun (hh : rdS xs key (a : Int) = none) => (HOF.out.trans (rdL_no (f := f') (es := es) (ps := ps) (by omega) hh)))
      have HC1 := Lib.hid (fun wx hx => refGet8_any A n c xs (a : Int) wx hx (by omega))
      have HC2 := Lib.hid (fun wx hx => refGet8_any A n c xs (b1 : Int) wx hx (by omega))
      have HC3 := Lib.hid (fun wx hx => refGetU_any A n c xs (b2 : Int) wx hx (by omega))
      rw [hg1] at HC1
      rw [hg2] at HC2
      rw [hg3] at HC3
      have HG3 := Lib.hid hg3
      have HG4 := Lib.hid hg4
      have HS := Lib.hid hs
      have HRR := Lib.hid hr
      have hpo := HR.out.2.2.2.1
      have hsz := HR.out.2.2.2.2.2.size
      have HHN := Lib.hid hnn
      clear hg1 hg2 hg3 hg4 hs hr hnn
      go_wp2_with (at_builtin; refine wpList_appV _ rfl _ _ 86 rfl w.heap.size 3 (.int .i64 0) 8 Try.underlying86 info_int8 rfl P pn pd _ rfl (OwnV.below hpo ((Below.refl _ _).alloc (Nat.le_refl _) _)) (some ⟨wr.heap.size, 0, none⟩) 1 1 [.int .i64 (a : Int)] rfl (OwnV.rd (ownV_box2 wr 3 wr.heap.size [.int .i64 (a : Int)] 1 rfl (by omega) (Nat.le_refl _) _ rfl)) (by intro u hu; rw [List.mem_singleton] at hu; rw [hu]; rfl) ?_ ?_ ?_ ?_)
      · unfold maxLen; omega
      · omega
      · simp; omega
      intro P' pd' w1 hP1 hgr _
      have hRa := HR.out.below ((Below.refl _ _).alloc (Nat.le_refl _) (.cells #[.int .i64 (a : Int)] 3))
      have hKa := HK.out.below ((Below.refl _ _).alloc (Nat.le_refl _) (.cells #[.int .i64 (a : Int)] 3))
      have HR1 := Lib.hid (hRa.place hP1 hgr)
      have HK1 := Lib.hid (hRa.key hKa hgr)
      have HX1 := Lib.hid (HX.out.below HR1.out.2.2.2.2.2)
      clear hP1 hgr hRa hKa hpo hsz HR HK
      go_wp2_with fail
      with_reducible refine (HC1.out _ HX1.out).mono ?_
      rintro e wx ⟨rfl, rfl⟩
      go_wp2_with fail
      with_reducible refine (HC2.out _ HX1.out).mono ?_
      rintro e wy ⟨rfl, rfl⟩
      go_wp2_with fail
      with_reducible refine (HC3.out _ HX1.out).mono ?_
      rintro e wz ⟨rfl, rfl⟩
      have hkl : key.length = kn := HK1.out.len
      have HKL := Lib.hid hkl
      clear hkl
      rcases HS.out with ⟨rfl, _⟩ | ⟨t, rfl, ht1, ht2⟩
      · have HNN := Lib.hid (HNO.out (by rw [HEQ.out, if_pos (.inl (by omega))]))
        go_wp2_with fail
        exact bodyPost_ret (v := .tuple #[.slice none 0 0, .slice none 0 0, .bool false]) (by simp [results, Try.f51, go_sem]; try rfl) rfl (.inl ⟨HNN.out, rfl, HR1.out.2.2.2.2.2⟩)
      · have e1 : ¬ (t : Int) < 0 := by omega
        rcases HRR.out with ⟨rfl, _⟩ | ⟨rr, rfl, hr1, hr2⟩
        · have HNN := Lib.hid (HNO.out (by rw [HEQ.out, if_pos (.inr (.inl (by omega)))]))
          go_wp2_with fail
          exact bodyPost_ret (v := .tuple #[.slice none 0 0, .slice none 0 0, .bool false]) (by simp [results, Try.f51, go_sem]; try rfl) rfl (.inl ⟨HNN.out, rfl, HR1.out.2.2.2.2.2⟩)
        · have e2 : ¬ (rr : Int) < 0 := by omega
          by_cases hq : q = 0
          · subst hq
            obtain ⟨kk, rfl, hk1, hk2, hm⟩ := getU_err (by have := HHN.out; omega) HG3.out rfl
            by_cases hkn2 : n ≤ kk
            · have d1 : decide (n ≤ kk) = true := by simpa using hkn2
              have HNN := Lib.hid (HNO.out (by rw [HEQ.out, if_pos (.inr (.inr (.inr (.inl (by have := HHN.out; omega)))))]))
              go_wp2_with fail
              exact bodyPost_ret (v := .tuple #[.slice none 0 0, .slice none 0 0, .bool false]) (by simp [results, Try.f51, go_sem]; try rfl) rfl (.inl ⟨HNN.out, rfl, HR1.out.2.2.2.2.2⟩)
            · have d1 : decide (n ≤ kk) = false := by simpa using hkn2
              by_cases hkey : kn < t
              · have d2 : decide (kn < t) = true := by simpa using hkey
                have HNN := Lib.hid (HNO.out (by rw [HEQ.out, if_pos (.inr (.inr (.inr (.inr (by have := HKL.out; omega)))))]))
                go_wp2_with fail
                exact bodyPost_ret (v := .tuple #[.slice none 0 0, .slice none 0 0, .bool false]) (by simp [results, Try.f51, go_sem]; try rfl) rfl (.inl ⟨HNN.out, rfl, HR1.out.2.2.2.2.2⟩)
              · have d2 : decide (kn < t) = false := by simpa using hkey
                have hg4 := HG4.out
                obtain ⟨j, hj⟩ : ∃ j, j = kk + 1 := ⟨_, rfl⟩
                have ej : ((kk : Int) + 1) = (j : Int) := by omega
                have ew : IntKind.i64.wrap ((kk : Int) + 1) = (j : Int) := by rw [IntWalk.i64_in _ (by omega)]; omega
                rw [ej] at hg4
                obtain ⟨b4, rfl, hb4, hb4n, hv⟩ := gN_pos (by have := HHN.out; omega) hg4
                have HC4 := Lib.hid (fun wx hx => refGet8_any A n c xs (j : Int) wx hx (by omega))
                rw [hg4] at HC4
                have HV := Lib.hid hv
                have hb4n' : b4 ≤ n := by have := HHN.out; omega
                have HJ := Lib.hid hj
                clear hg4 ej hj hv
                go_wp2_with fail
                with_reducible refine (HC4.out _ HX1.out).mono ?_
                rintro e wu ⟨rfl, rfl⟩
                obtain ⟨z1, hz1⟩ : ∃ z1, z1 = n - b4 := ⟨_, rfl⟩
                have ez : IntKind.i64.wrap ((n : Int) - (b4 : Int)) = (z1 : Int) := by rw [IntWalk.i64_in _ (by omega)]; omega
                have ez' : ((n : Int) - (b4 : Int)) = (z1 : Int) := by omega
                have HZ1 := Lib.hid hz1
                clear hz1
                rcases HV.out with ⟨rfl, _⟩ | ⟨tv, rfl, htv, hbj⟩
                · have HNN := Lib.hid (HNO.out (by rw [HEQ.out, if_neg (by have := HHN.out; have := HKL.out; omega), if_pos (.inl (by omega))]))
                  go_wp2_with fail
                  exact bodyPost_ret (v := .tuple #[.slice none 0 0, .slice none 0 0, .bool false]) (by simp [results, Try.f51, go_sem]; try rfl) rfl (.inl ⟨HNN.out, rfl, HR1.out.2.2.2.2.2⟩)
                · have e4 : ¬ (tv : Int) < 0 := by omega
                  by_cases hrz : z1 < rr
                  · have d3 : decide (z1 < rr) = true := by simpa using hrz
                    have HNN := Lib.hid (HNO.out (by rw [HEQ.out, if_neg (by have := HHN.out; have := HKL.out; omega), if_pos (.inr (.inl (by have := HHN.out; have := HZ1.out; omega)))]))
                    go_wp2_with fail
                    exact bodyPost_ret (v := .tuple #[.slice none 0 0, .slice none 0 0, .bool false]) (by simp [results, Try.f51, go_sem]; try rfl) rfl (.inl ⟨HNN.out, rfl, HR1.out.2.2.2.2.2⟩)
                  · have d3 : decide (z1 < rr) = false := by simpa using hrz
                    obtain ⟨z2, hz2⟩ : ∃ z2, z2 = z1 - rr := ⟨_, rfl⟩
                    have ey : IntKind.i64.wrap ((z1 : Int) - (rr : Int)) = (z2 : Int) := by rw [IntWalk.i64_in _ (by have := HZ1.out; omega)]; omega
                    have ey' : ((z1 : Int) - (rr : Int)) = (z2 : Int) := by omega
                    have HZ2 := Lib.hid hz2
                    clear hz2
                    by_cases hvz : z2 < tv
                    · have d4 : decide (z2 < tv) = true := by simpa using hvz
                      have HNN := Lib.hid (HNO.out (by rw [HEQ.out, if_neg (by have := HHN.out; have := HKL.out; omega), if_pos (.inr (.inr (by have := HHN.out; have := HZ1.out; have := HZ2.out; omega)))]))
                      go_wp2_with fail
                      exact bodyPost_ret (v := .tuple #[.slice none 0 0, .slice none 0 0, .bool false]) (by simp [results, Try.f51, go_sem]; try rfl) rfl (.inl ⟨HNN.out, rfl, HR1.out.2.2.2.2.2⟩)
                    · have d4 : decide (z2 < tv) = false := by simpa using hvz
                      have hcapK := HK1.out.cap.1
                      have htk : t ≤ kn := by omega
                      obtain ⟨x1, hx1⟩ : ∃ x1, x1 = b4 + rr := ⟨_, rfl⟩
                      have es1 : IntKind.i64.wrap ((b4 : Int) + (rr : Int)) = (x1 : Int) := by rw [IntWalk.i64_in _ (by omega)]; omega
                      have es1' : ((b4 : Int) + (rr : Int)) = (x1 : Int) := by omega
                      have es1w : IntKind.i64.wrap (x1 : Int) = (x1 : Int) := IntWalk.i64_in _ (by have := HZ1.out; omega)
                      have hx1n : x1 ≤ n := by have := HZ1.out; omega
                      have hxr : x1 - b4 = rr := by omega
                      have hsl1 : ∀ W : World, (Instr.slice 22 (.slice K kn kc) none (some (.int .i64 (t : Int))) none).run Try.prog W = .ok (.slice K t kc) W := cut_h Try.underlying22 elem_bytes size_u8 K (by omega)
                      have hsl2 : ∀ W : World, (Instr.slice 22 (.slice A n c) (some (.int .i64 (b4 : Int))) (some (.int .i64 (x1 : Int))) none).run Try.prog W = .ok (.slice (cutA A b4 c) rr (c - b4)) W := fun W => by
                        have := cut_lh (P := Try.prog) Try.underlying22 elem_bytes size_u8 A (n := n) (show b4 ≤ x1 by omega) (show x1 ≤ c by omega) W
                        rw [hxr] at this
                        exact this
                      have HKT : Hid (∀ wx, Below wu.heap.size wu wx → Rd wx K t (key.take t)) := Lib.hid (fun wx hb => (HK1.out.rd.take8 htk).below hb)
                      have HXR : Hid (∀ wx, Below wu.heap.size wu wx → Rd wx (cutA A b4 c) rr ((xs.drop b4).take rr)) := Lib.hid (fun wx hb => by
                        have h := (HX1.out.below hb).cut (k := b4) (m := x1) (cap := c) (by omega) (by omega) hc
                        rw [hxr, List.drop_take, hxr] at h
                        exact h)
                      have hB0 : Below wu.heap.size wu wu.drew := (Below.refl _ _).drew
                      have HCP : Hid (∀ wx, Below wu.heap.size wu wx → Calls Try.prog 13 #[.slice K t kc] wx (Made wx.heap.size wx (key.take t))) := Lib.hid (fun wx hb => Copy_any K t kc (key.take t) wx (HKT.out wx hb) (by omega))
                      have htl : (key.take t).length = t := by rw [List.length_take]; have := HKL.out; omega
                      have HTL := Lib.hid htl
                      have hbsz := HR1.out.2.2.2.2.2.size
                      have HHX := Lib.hid hx1
                      clear hcapK hx1 hxr htl
                      go_upto_region 15 with (fail)
                      go_cut [7] from 94 to 104 (fun s7 wx => ∃ K2 kc2, s7 = .slice K2 (t + rr) kc2 ∧ Own 5 wx w.heap.size K2 (t + rr) kc2 (key.take t ++ (xs.drop b4).take rr) ∧ Below wu.heap.size wu wx)
                      case first =>
                        go_region_law (first | (go_simp; go_at_call 13; with_reducible refine (HCP.out _ hB0).mono ?_; intro e w4 hq; obtain ⟨C, cn, cc, h1, oc, hb4c⟩ := Made.outM hq; subst h1; have hcn : cn = t := (oc.len.symm.trans HTL.out); subst hcn) | (refine step_app _ rfl _ _ 22 rfl wu.heap.size 5 Try.underlying22 info_u8 C cn cc _ (by first | (simp [Act.eval]; done) | (simp [Act.eval, Act.put]; done) | rfl) oc (cutA A b4 c) rr (c - b4) _ (by first | (simp [Act.eval]; done) | (simp [Act.eval, Act.put]; done) | rfl) (HXR.out _ (hB0.trans hb4c)) (by omega) hb4c.size ?_; intro C2 c2 w5 oc2 hb5))
                        all_goals
                          have HQ1 : Hid (Own 5 w5 w.heap.size C2 (cn + rr) c2 (key.take cn ++ (xs.drop b4).take rr)) := Lib.hid (oc2.mono (by omega))
                          have HQ2 : Hid (Below wu.heap.size wu w5) := Lib.hid ((hB0.trans hb4c).trans hb5)
                          clear oc oc2 hb4c hb5
                          go_wp2_with fail
                          go_meet
                          case rel => exact ⟨C2, c2, rfl, HQ1.out, HQ2.out⟩
                      case rest =>
                        obtain ⟨K2, kc2, rfl, oK2, bK2⟩ := hcut
                        have HK2 := Lib.hid oK2
                        have HBK := Lib.hid bK2
                        have HHT := Lib.hid ht1
                        have hkk : kk < n := by omega
                        obtain ⟨x2, hx2⟩ : ∃ x2, x2 = x1 + tv := ⟨_, rfl⟩
                        have hx2n : x2 ≤ n := by have := HZ1.out; have := HZ2.out; have := HHX.out; omega
                        have es2 : IntKind.i64.wrap ((x1 : Int) + (tv : Int)) = (x2 : Int) := by rw [IntWalk.i64_in _ (by omega)]; omega
                        have es2' : ((x1 : Int) + (tv : Int)) = (x2 : Int) := by omega
                        have es2w : IntKind.i64.wrap (x2 : Int) = (x2 : Int) := IntWalk.i64_in _ (by omega)
                        have hxt : x2 - x1 = tv := by omega
                        have hsl3 : ∀ W : World, (Instr.slice 22 (.slice A n c) (some (.int .i64 (x1 : Int))) (some (.int .i64 (x2 : Int))) none).run Try.prog W = .ok (.slice (cutA A x1 c) tv (c - x1)) W := fun W => by
                          have := cut_lh (P := Try.prog) Try.underlying22 elem_bytes size_u8 A (n := n) (show x1 ≤ x2 by omega) (show x2 ≤ c by omega) W
                          rw [hxt] at this
                          exact this
                        have HVR : Hid (∀ wx, Below wc.heap.size wc wx → Rd wx (cutA A x1 c) tv ((xs.drop x1).take tv)) := Lib.hid (fun wx hb => by
                          have h := ((HX1.out.below HBK.out).below hb).cut (k := x1) (m := x2) (cap := c) (by omega) hx2n hc
                          rw [hxt, List.drop_take, hxt] at h
                          exact h)
                        have HCV : Hid (∀ wx, Below wc.heap.size wc wx → Calls Try.prog 13 #[.slice (cutA A x1 c) tv (c - x1)] wx (Made wx.heap.size wx ((xs.drop x1).take tv))) := Lib.hid (fun wx hb => Copy_any (cutA A x1 c) tv (c - x1) _ wx (HVR.out wx hb) (by omega))
                        have HVL : Hid (((xs.drop x1).take tv).length = tv) := Lib.hid (by rw [List.length_take, List.length_drop]; have := HHN.out; omega)
                        obtain ⟨bb, off, hAb, hbl⟩ := HX1.out.pos (by omega)
                        subst hAb
                        obtain ⟨y, hy1, hy2, _⟩ := HX1.out.at_ kk hkk
                        have HY := Lib.hid hy1
                        have HLD : Hid (∀ wx, Below wu.heap.size wu wx → wx.cell? ⟨bb, off + kk, none⟩ = some (.int .u8 (y.toNat : Int))) := Lib.hid (fun wx hb => (hb.cell hbl).trans hy2)
                        obtain ⟨x, hx⟩ : ∃ x : En, x = ⟨key.take t ++ (xs.drop b4).take rr, m, y.toNat, (xs.drop x1).take tv⟩ := ⟨_, rfl⟩
                        have HE : Hid (∀ (wr2 wx : World) (L2 C : Option Addr) (d2 cc : Nat), RR w L P' ln d (pn + 1) pd' es vs (ps ++ [(a : Int)]) wr2 → Own 5 wr2 w.heap.size K2 (t + rr) kc2 (key.take t ++ (xs.drop b4).take rr) → Own 5 wr2 w.heap.size C tv cc ((xs.drop x1).take tv) →
                            OwnE wx w.heap.size L2 (ln + 1) d2 (vs ++ [.slice K2 (t + rr) kc2, .int .u64 (m : Int), .int .u8 (y.toNat : Int), .slice C tv cc]) → wr2.grownBy wx (blk L) →
                            RR w L2 P' (ln + 1) d2 (pn + 1) pd' (es ++ [x]) (vs ++ [.slice K2 (t + rr) kc2, .int .u64 (m : Int), .int .u8 (y.toNat : Int), .slice C tv cc]) (ps ++ [(a : Int)]) wx ∧ Own 5 wx w.heap.size K2 (t + rr) kc2 x.key) := Lib.hid (fun wr2 wx L2 C d2 cc h1 h2 h3 h4 h5 => by
                          rw [hx]
                          exact ⟨RR.entry (x := ⟨_, m, y.toNat, _⟩) h1 h2 h3 ⟨hm, UInt8.toNat_lt y⟩ h4 h5, RR.keyE h1 h2 h5⟩)
                        have HXX := Lib.hid hx
                        have HX2 := Lib.hid hx2
                        have hB1 : Below wc.heap.size wc wc.drew := (Below.refl _ _).drew
                        have q0 : wc.cell? ⟨bb, off + kk, none⟩ = some (.int .u8 (y.toNat : Int)) := HLD.out _ HBK.out
                        have HSZ := Lib.hid HBK.out.size
                        clear hy1 hy2 hx hx2 oK2 bK2 hxt ht1 hsl1 hsl2
                        go_upto_region 16 with (fail)
                        go_cut [5] from 105 to 125 (fun s5 wx => ∃ L2 d2 vs2, s5 = .slice L2 (ln + 1) d2 ∧ RR w L2 P' (ln + 1) d2 (pn + 1) pd' (es ++ [x]) vs2 (ps ++ [(a : Int)]) wx ∧ Own 5 wx w.heap.size K2 (t + rr) kc2 x.key)
                        case first =>
                          go_region_law (first | (go_simp; go_at_call 13; with_reducible refine (HCV.out _ hB1).mono ?_; intro e w4 hq; obtain ⟨C, cn, cc, h1, oc, hb4c⟩ := Made.outM hq; subst h1; have hcn : cn = tv := (oc.len.symm.trans HVL.out); subst hcn; have hbw := belowT' hB1 hb4c; have p0 := HLD.out _ (HBK.out.trans (hbw.mono HSZ.out))) | (refine step_app4 _ rfl _ _ 25 rfl w.heap.size _ 64 Try.underlying25 info_ent rfl L ln d vs (by first | (simp [Act.eval]; done) | (simp [Act.eval, Act.put]; done) | rfl) ((HR1.out.below HBK.out).below (hbw.alloc hbw.size _)).1 ⟨w4.heap.size, 0, none⟩ 1 1 [.slice K2 (t + rr) kc2, .int .u64 (m : Int), .int .u8 (y.toNat : Int), .slice C cn cc] (by first | (simp [Act.eval]; done) | (simp [Act.eval, Act.put]; done) | rfl) (rdv_of_cl (Cl.new w4 #[.slice K2 (t + rr) kc2, .int .u64 (m : Int), .int .u8 (y.toNat : Int), .slice C cn cc] 33)) (by omega) (by simp [Value.oneCell']) (by unfold maxLen; omega) (by omega) ((HR1.out.below HBK.out).below (hbw.alloc hbw.size _)).2.2.2.2.2.size ?_; intro L2 d2 w6 hL hg))
                          all_goals
                            have HQ := Lib.hid (HE.out _ _ _ _ _ _ ((HR1.out.below HBK.out).below (hbw.alloc hbw.size _)) ((HK2.out.below hbw).below ((Below.refl _ _).alloc (Nat.le_refl _) _)) ((oc.mono (by have := HR1.out.2.2.2.2.2.size; have := hbw.size; have := HSZ.out; have := hB1.size; omega)).below ((Below.refl _ _).alloc (Nat.le_refl _) _)) hL hg)
                            clear hL hg oc hb4c p0 hbw
                            go_wp2_with fail
                            go_meet
                            case rel => exact ⟨L2, d2, _, rfl, HQ.out.1, HQ.out.2⟩
                        case rest =>
                          obtain ⟨L2, d2, vs2, rfl, hR2, hK3⟩ := hcut
                          have HR3 := Lib.hid hR2
                          have HK3 := Lib.hid hK3
                          clear hR2 hK3
                          have hrd : rdS xs key (a : Int) = some (x, (x2 : Int)) := by
                            rw [HEQ.out, if_neg (by have := HHN.out; have := HKL.out; omega), if_neg (by have := HHN.out; have := HZ1.out; have := HZ2.out; omega), HXX.out]
                            have e1 : ((b4 : Int) + (rr : Int)).toNat = x1 := by omega
                            have e2 : (b4 : Int) + (rr : Int) + (tv : Int) = (x2 : Int) := by omega
                            rw [e1, e2]
                            simp only [Int.toNat_natCast]
                            rw [HY.out]
                            rfl
                          have HOK : Hid (o = rdL xs f' (x2 : Int) x.key (es ++ [x]) (ps ++ [(a : Int)])) := Lib.hid (HOF.out.trans (rdL_some (by have := HHN.out; omega) hrd))
                          clear hrd
                          go_wp2_with fail
                          go_roundw
                          case rel => exact ⟨x2, f', ln + 1, d2, pn + 1, pd', t + rr, kc2, L2, P', K2, es ++ [x], vs2, ps ++ [(a : Int)], x.key, hx2n, by go_num, rfl, rfl, rfl, HOK.out, by have := HX2.out; have := HHX.out; have := HJ.out; omega, by have := HX2.out; have := HHX.out; have := HJ.out; omega, by have := HX2.out; have := HHX.out; have := HJ.out; omega, by have := HX2.out; have := HHX.out; have := HJ.out; have := HHT.out; omega, HK3.out, HR3.out, fun z hz => by
                            rcases List.mem_append.1 hz with h1 | h1
                            · exact HSE.out z h1
                            · rw [List.mem_singleton] at h1
                              rw [h1, HXX.out]
                              refine ⟨?_, ?_⟩
                              · simp only [List.length_append, List.length_take, List.length_drop]; have := HHN.out; omega
                              · simp only [List.length_take, List.length_drop]; have := HHN.out; omega⟩
                          case measure => have := HX2.out; have := HHX.out; have := HJ.out; simp [intOf]; omega
          · have t1 : ((q : Int) == 0) = false := by simpa using hq
            have HNN := Lib.hid (HNO.out (by rw [HEQ.out, if_pos (.inr (.inr (.inl hq)))]))
            go_wp2_with fail
            exact bodyPost_ret (v := .tuple #[.slice none 0 0, .slice none 0 0, .bool false]) (by simp [results, Try.f51, go_sem]; try rfl) rfl (.inl ⟨HNN.out, rfl, HR1.out.2.2.2.2.2⟩)
      -- A1
    · obtain rfl : a = n := by omega
      obtain ⟨f', rfl⟩ : ∃ f', f = f' + 1 := ⟨f - 1, by omega⟩
      have hsm : o = some (es, ps) := by rw [HOF.out, rdL, if_pos (by have := HL.out; omega)]
      have HSM := Lib.hid hsm
      clear hsm
      go_wp2_with fail
      exact bodyPost_ret (v := .tuple #[.slice L ln d, .slice P pn pd, .bool true]) (by simp [results, Try.f51, go_sem]; try rfl) rfl (.inr ⟨es, ps, L, P, ln, d, pn, pd, vs, HSM.out, rfl, hla, hpa, HSE.out, HR.out⟩)
end Go.Proofs.Ytgigohfjioifaaa
namespace Go.Proofs.Ytgigohfjioifaaa
open Go Go.RowKit

/-- Entries that can be read, and a kind. -/
def RetDr (w : World) (r : List En × Int) (e : Ending) (w' : World) : Prop :=
  ∃ L ln d, e = .returned (.tuple #[.slice L ln d, .int .i64 r.2]) ∧ REs w' L ln r.1 ∧ ln ≤ d ∧ ln ≤ 1073741824 ∧ (∀ x ∈ r.1, SzE x) ∧ Below w.heap.size w w'
theorem RetDr.no {w w' : World} {r : List En × Int} {k : Int} (h : r = ([], k)) (hb : Below w.heap.size w w') : RetDr w r (.returned (.tuple #[.slice none 0 0, .int .i64 k])) w' := by
  subst h
  exact ⟨none, 0, 0, rfl, REs.nil _ _, Nat.le_refl _, by omega, (fun x hx => by cases hx), hb⟩
theorem lastAt_le (ps : List Int) (z : Int) (d : Nat) : ∀ k, lastAt ps z d k ≤ d ∨ lastAt ps z d k < k
  | 0 => .inl (Nat.le_refl _)
  | k + 1 => by
    rw [lastAt]
    split
    · exact .inr (by omega)
    · rcases lastAt_le ps z d k with h | h
      · exact .inl h
      · exact .inr (by omega)
/-- The second place, where there is one. -/
theorem evD_two {body : List UInt8} {es : List En} {ps : List Int} {bm K y : Nat} (hb : body.length = bm) (hK : 4 * K + 4 ≤ bm) (h2 : 2 ≤ K) (hy : y = bm - 4 * K) :
    evD es ps ((body.take (bm - 4)).drop (bm - 4 - 4 * K)) = lastAt ps (numK (body.drop y) 4 : Int) es.length ps.length := by
  have hl : ((body.take (bm - 4)).drop (bm - 4 - 4 * K)).length = 4 * K := by simp only [List.length_drop, List.length_take]; omega
  unfold evD
  rw [if_pos (by omega), List.drop_drop, show bm - 4 - 4 * K + 4 = y by omega, List.drop_take, numK_take4 _ _ (by omega)]
theorem evD_one {body : List UInt8} {es : List En} {ps : List Int} {bm K : Nat} (hb : body.length = bm) (hK : 4 * K + 4 ≤ bm) (h2 : ¬ 2 ≤ K) : evD es ps ((body.take (bm - 4)).drop (bm - 4 - 4 * K)) = es.length := by
  have hl : ((body.take (bm - 4)).drop (bm - 4 - 4 * K)).length = 4 * K := by simp only [List.length_drop, List.length_take]; omega
  unfold evD
  rw [if_neg (by omega)]
theorem finD_nil {xs zs : List UInt8} {ps : List Int} : finD xs zs (some ([], ps)) = if (buildE 1 []).2 = 0 ∧ (buildE 1 []).1 = xs then ([], 0) else ([], 3) := by
  unfold finD
  simp
theorem finD_zero {xs zs : List UInt8} {es : List En} {ps : List Int} (h : es ≠ []) (h0 : evD es ps zs = 0) : finD xs zs (some (es, ps)) = ([], 3) := by
  unfold finD
  simp only
  rw [if_pos ⟨h, h0⟩]
theorem finD_more {xs zs : List UInt8} {es : List En} {ps : List Int} {ev : Nat} (h : es ≠ []) (h0 : evD es ps zs = ev) (hev : ev ≠ 0) : finD xs zs (some (es, ps)) = if (buildE ev es).2 = 0 ∧ (buildE ev es).1 = xs then (es, 0) else ([], 3) := by
  unfold finD
  simp only
  rw [if_neg (fun k => hev (h0 ▸ k.2)), if_neg h, h0]
theorem places_at {w : World} {base n c b off : Nat} {ps : List Int} (h : OwnV 3 w base (some ⟨b, off, none⟩) n c (ps.map (fun z => Value.int .i64 z))) (k : Nat) (hk : k < n) : ∃ z, ps[k]? = some z ∧ w.cell? ⟨b, off + k, none⟩ = some (.int .i64 z) := by
  obtain ⟨v, h1, h2⟩ := h.rd.at_ k hk
  rw [List.getElem?_map] at h1
  cases hz : ps[k]? with
  | none => rw [hz] at h1; cases h1
  | some z =>
    rw [hz] at h1
    injection h1 with h1
    exact ⟨z, rfl, by rw [h2, ← h1]⟩
set_option maxRecDepth 100000 in
set_option maxHeartbeats 16000000 in
theorem refDecode8_any {w : World} {A : Option Addr} {n c : Nat} {xs : List UInt8} (h : Rd w A n xs) (hn : n ≤ 1048576) (hc : n ≤ c) :
    Calls Try.prog 14 #[.slice A n c] w (RetDr w (refD xs)) := by
  have hl := h.len
  rcases hog : openG xs ((0 : Nat) : Int) with ⟨body, nx, k⟩
  have hO : Calls Try.prog 50 #[.slice A n c, .int .i64 0] w (RetO w.heap.size w (openG xs ((0 : Nat) : Int))) := refOpen_any A n c ((0 : Nat) : Int) xs w h (by omega) hc (by unfold I64; omega)
  rw [hog] at hO
  have HO := Lib.hid hO
  have HX := Lib.hid h
  have HL := Lib.hid hl
  have HR : Hid (refD xs = if k ≠ 0 then ([], k) else if nx ≠ (xs.length : Int) then ([], 3) else bodyD xs (splitB body)) := Lib.hid (by unfold refD; rw [hog])
  by_cases hk : k = 0
  · subst hk
    obtain ⟨nk, rfl, hnk, hnl⟩ := openG_ok hog rfl
    have HR2 : Hid (refD xs = if (nk : Int) ≠ (xs.length : Int) then ([], 3) else bodyD xs (splitB body)) := Lib.hid (by rw [HR.out, if_neg (by simp)])
    obtain ⟨bm, hbm⟩ : ∃ bm, bm = body.length := ⟨_, rfl⟩
    have HBM := Lib.hid hbm
    have hbn : bm ≤ n := by omega
    have HNK := Lib.hid hnk
    clear hO h hl hog hbm hnk
    go_enter Try.func14, Try.ntmps14
    go_wp2_with fail
    with_reducible refine HO.out.mono ?_
    rintro e w1 ⟨B, bm', bc, rfl, oB, b1⟩
    have hbb : bm' = bm := by rw [HBM.out]; exact oB.len.symm
    subst hbb
    have HB1 := Lib.hid b1
    have HOB := Lib.hid oB
    have hbc := oB.cap.1
    clear oB b1
    by_cases hx : nk = n
    · subst hx
      by_cases h4 : bm' < 4
      · have hr : refD xs = ([], 3) := by
          rw [HR2.out, if_neg (by rw [HL.out]; simp)]
          unfold splitB
          rw [if_pos (by rw [← HBM.out]; exact h4)]
          rfl
        have HRR := Lib.hid hr
        clear hr
        go_wp2_with fail
        exact bodyPost_ret (v := .tuple #[.slice none 0 0, .int .i64 3]) (by simp [results, Try.f14, go_sem]; try rfl) rfl (RetDr.no HRR.out HB1.out)
      · have HR3 : Hid (refD xs = bodyD xs (splitB body)) := Lib.hid (by rw [HR2.out, if_neg (by rw [HL.out]; simp)])
        obtain ⟨g, off, rfl, hgl⟩ := HOB.out.rd.pos (by omega)
        obtain ⟨m, hm⟩ : ∃ m, m = bm' - 4 := ⟨_, rfl⟩
        have e1 : IntKind.i64.wrap ((bm' : Int) - 4) = (m : Int) := by rw [IntWalk.i64_in _ (by omega)]; omega
        have e1' : ((bm' : Int) - 4) = (m : Int) := by omega
        have HM := Lib.hid hm
        have hmb : bm' = m + 4 := by omega
        have HMB := Lib.hid hmb
        obtain ⟨K, hK⟩ : ∃ K, K = numK (body.drop m) 4 := ⟨_, rfl⟩
        have hKl : K < 4294967296 := by rw [hK]; exact Nat.lt_of_lt_of_le (numK_lt _ 4) (by decide)
        have HKK := Lib.hid hK
        clear hm hmb hK
        go_wp2_with fail
        go_loopw [7, 8] (fun s7 s8 wr => ∃ j i v q : Nat, j ≤ 4 ∧ i = m + j ∧ s7 = .int .i64 (v : Int) ∧ s8 = .int .i64 (i : Int) ∧ v = numK (body.drop m) j ∧ wr = w1.drewN q) (fun _ s _ => bm' - (intOf s).toNat)
        case atStart => exact ⟨0, m, 0, 0, by omega, by omega, rfl, rfl, rfl, rfl⟩
        case round =>
          obtain ⟨j, i, v, q, hj, hi, rfl, rfl, hv, rfl⟩ := hrel
          have hvl := numK_lt (body.drop m) j
          rw [← hv] at hvl
          have HV := Lib.hid hv
          have HI := Lib.hid hi
          obtain ⟨W, hW⟩ : ∃ W, W = w1.drewN q := ⟨_, rfl⟩
          rw [← hW]
          have HW := Lib.hid hW
          clear hv
          by_cases hlt : i < bm'
          · have hj3 : j ≤ 3 := by have := HMB.out; omega
            have hv3 : v < 16777216 := Nat.lt_of_lt_of_le hvl (Nat.le_trans (Nat.pow_le_pow_right (by decide) hj3) (by decide))
            obtain ⟨b, hb, hcell, _⟩ := HOB.out.rd.at_ i hlt
            have hb8 := b.toNat_lt
            have HRN : Hid (v * 256 + b.toNat = numK (body.drop m) (j + 1)) := Lib.hid (by rw [numK_take (b := b) (by rw [List.getElem?_drop, ← HI.out]; exact hb), HV.out])
            have c1 : W.cell? ⟨g, off + i, none⟩ = some (.int .u8 (b.toNat : Int)) := by rw [hW]; exact hcell
            clear hvl hi hb hcell hW
            go_wp2_with fail
            go_roundw
            case rel => exact ⟨j + 1, i + 1, v * 256 + b.toNat, q, by omega, by have := HI.out; omega, by go_num, by go_num, HRN.out, HW.out⟩
            case measure => simp [intOf]; omega
          · have hj4 : j = 4 := by have := HMB.out; omega
            subst hj4
            have hvK : v = K := by rw [HV.out, HKK.out]
            subst hvK
            have hBW : Below w1.heap.size w1 W := by rw [hW]; exact below_drewN (Below.refl _ _) q
            have HOW := Lib.hid (HOB.out.below hBW)
            have HBW := Lib.hid (HB1.out.trans (hBW.mono HB1.out.size))
            obtain ⟨f4, hf4⟩ : ∃ f4, f4 = 4 * v := ⟨_, rfl⟩
            have e2 : IntKind.i64.wrap (4 * (v : Int)) = (f4 : Int) := by rw [IntWalk.i64_in _ (by omega)]; omega
            have e2' : (4 * (v : Int)) = (f4 : Int) := by omega
            have e2w : IntKind.i64.wrap (f4 : Int) = (f4 : Int) := IntWalk.i64_in _ (by omega)
            have e3w : IntKind.i64.wrap ((f4 : Int) + 4) = (f4 : Int) + 4 := IntWalk.i64_in _ (by omega)
            have HF4 := Lib.hid hf4
            clear hvl hi hW hf4 hBW
            by_cases hbig : bm' < f4 + 4
            · have hr : refD xs = ([], 3) := by
                rw [HR3.out]
                unfold splitB
                rw [← HBM.out, ← HM.out, if_neg (by have := HMB.out; omega)]
                simp only
                rw [← HKK.out, if_pos (by have := HMB.out; have := HF4.out; omega)]
                rfl
              have HRR := Lib.hid hr
              have t1 : (bm' : Int) < (f4 : Int) + 4 := by omega
              clear hr
              go_wp2_with fail
              exact bodyPost_ret (v := .tuple #[.slice none 0 0, .int .i64 3]) (by simp [results, Try.f14, go_sem]; try rfl) rfl (RetDr.no HRR.out HBW.out)
            · have t1 : ¬ (bm' : Int) < (f4 : Int) + 4 := by omega
              obtain ⟨y, hy⟩ : ∃ y, y = m - f4 := ⟨_, rfl⟩
              have e5 : IntKind.i64.wrap ((m : Int) - (f4 : Int)) = (y : Int) := by rw [IntWalk.i64_in _ (by omega)]; have := HMB.out; omega
              have e5' : ((m : Int) - (f4 : Int)) = (y : Int) := by have := HMB.out; omega
              have e5w : IntKind.i64.wrap (y : Int) = (y : Int) := IntWalk.i64_in _ (by omega)
              have hyb : y ≤ bm' := by have := HMB.out; omega
              have hs : ∀ W : World, (Instr.slice 22 (.slice (some ⟨g, off, none⟩) bm' bc) none (some (.int .i64 (y : Int))) none).run Try.prog W = .ok (.slice (some ⟨g, off, none⟩) y bc) W := cut_h Try.underlying22 elem_bytes size_u8 _ (by omega)
              obtain ⟨o, ho⟩ : ∃ o, o = rdL (body.take y) ((body.take y).length + 1) 0 [] [] [] := ⟨_, rfl⟩
              obtain ⟨zs, hzs⟩ : ∃ zs, zs = (body.take (bm' - 4)).drop (bm' - 4 - 4 * v) := ⟨_, rfl⟩
              have HR4 : Hid (refD xs = finD xs zs o) := Lib.hid (by
                rw [HR3.out]
                unfold splitB
                rw [← HBM.out, ← HM.out, if_neg (by have := HMB.out; omega)]
                simp only
                rw [← HKK.out, if_neg (by have := HMB.out; have := HF4.out; omega)]
                unfold bodyD
                simp only
                rw [← HF4.out, ← hy, ho, hzs, ← HM.out, ← HF4.out, ← hy])
              have hRD := refRead_any (HOW.out.rd.take8 hyb) (by omega) (by omega : y ≤ bc) (fun hh => by cases hh)
              rw [← ho] at hRD
              have HRD := Lib.hid hRD
              have HY := Lib.hid hy
              have HZS := Lib.hid hzs
              clear hRD ho hy hzs
              go_wp2_with fail
              with_reducible refine HRD.out.mono ?_
              rintro e w2 (⟨hon, rfl, b2⟩ | ⟨es, ps, L, P, ln, d, pn, pd, vs, hos, rfl, hln, hpn, hSE, hRR⟩)
              · have hr : refD xs = ([], 3) := by rw [HR4.out, hon]; rfl
                have HRR := Lib.hid (And.intro hr (belowT' HBW.out b2))
                clear hr b2
                go_wp2_with fail
                exact bodyPost_ret (v := .tuple #[.slice none 0 0, .int .i64 3]) (by simp [results, Try.f14, go_sem]; try rfl) rfl (RetDr.no HRR.out.1 HRR.out.2)
              · have HRD2 := Lib.hid hRR
                have HSE := Lib.hid hSE
                have HR5 : Hid (refD xs = finD xs zs (some (es, ps))) := Lib.hid (by rw [HR4.out, hos])
                have HB2 := Lib.hid (belowT' HBW.out hRR.2.2.2.2.2)
                have hel := hRR.2.2.1
                have hpl := hRR.2.2.2.2.1
                have hld := (OwnE.cap hRR.1).1
                have HEL := Lib.hid hel
                have HPL := Lib.hid hpl
                clear hos hRR hSE hel hpl
                by_cases h0 : ln = 0
                · subst h0
                  have hes : es = [] := List.eq_nil_of_length_eq_zero HEL.out
                  subst hes
                  obtain ⟨zb, zk, hz⟩ : ∃ zb zk, buildE 1 [] = (zb, zk) := ⟨_, _, rfl⟩
                  have HBZ : Hid (Calls Try.prog 52 #[.int .i64 1, .slice none 0 0] w2 (RetBb w2 (zb, zk))) := Lib.hid (by
                    rw [← hz]
                    exact refBuild8_any (REs.nil w2 none) (by omega) (fun x hx => by cases hx) 1 (by omega) (by omega))
                  have HFD : Hid (refD xs = if zk = 0 ∧ zb = xs then ([], 0) else ([], 3)) := Lib.hid (by rw [HR5.out, finD_nil, hz])
                  have HCS : Hid (zk = 0 ∨ zb = []) := Lib.hid (by
                    rcases buildE_cases 1 [] with ⟨F, h1, _⟩ | ⟨k, h1, _⟩
                    · rw [hz] at h1; injection h1 with _ h1; exact .inl h1
                    · rw [hz] at h1; injection h1 with h1 _; exact .inr h1)
                  clear hz
                  go_wp2_with fail
                  with_reducible refine HBZ.out.mono ?_
                  rintro e w3 ⟨G, gc, rfl, oG, b3⟩
                  simp only at oG ⊢
                  have hb3 := belowT' HB2.out b3
                  have HB3 := Lib.hid hb3
                  have hzl := oG.cap
                  have HEQ := Lib.hid (Equal_any G A zb.length nk gc c zb xs w3 oG.rd (HX.out.below hb3) (by omega) (by unfold maxLen; omega))
                  obtain ⟨q, hq⟩ : ∃ q, q = eqB zb xs := ⟨_, rfl⟩
                  rw [← hq] at HEQ
                  have HQ := Lib.hid hq
                  clear hq oG b3 hb3 hzl
                  cases q with
                  | true =>
                    have he : zb = xs := by have := HQ.out; unfold eqB at this; exact (beq_iff_eq.1 this.symm)
                    have HRF : Hid (refD xs = ([], 0)) := Lib.hid (by
                      have hz0 : zk = 0 := by
                        rcases HCS.out with h | h
                        · exact h
                        · have h1 := HL.out
                          have h2 := HNK.out
                          rw [← he, h] at h1
                          simp only [List.length_nil] at h1
                          omega
                      rw [HFD.out, if_pos ⟨hz0, he⟩])
                    clear he
                    go_wp2_with fail
                    with_reducible refine HEQ.out.mono ?_
                    rintro e w4 ⟨rfl, hq4⟩
                    have HB4 : Hid (Below w.heap.size w w4) := Lib.hid (by obtain ⟨q4, rfl⟩ := hq4; exact below_drewN HB3.out q4)
                    clear hq4
                    go_wp2_with fail
                    exact bodyPost_ret (v := .tuple #[.slice none 0 0, .int .i64 0]) (by simp [results, Try.f14, go_sem]; try rfl) rfl (RetDr.no HRF.out HB4.out)
                  | false =>
                    have he : ¬ zb = xs := by have := HQ.out; unfold eqB at this; intro e2; rw [e2] at this; simp at this
                    have HRF : Hid (refD xs = ([], 3)) := Lib.hid (by rw [HFD.out, if_neg (fun h => he h.2)])
                    clear he
                    go_wp2_with fail
                    with_reducible refine HEQ.out.mono ?_
                    rintro e w4 ⟨rfl, hq4⟩
                    have HB4 : Hid (Below w.heap.size w w4) := Lib.hid (by obtain ⟨q4, rfl⟩ := hq4; exact below_drewN HB3.out q4)
                    clear hq4
                    go_wp2_with fail
                    exact bodyPost_ret (v := .tuple #[.slice none 0 0, .int .i64 3]) (by simp [results, Try.f14, go_sem]; try rfl) rfl (RetDr.no HRF.out HB4.out)
                · have HNE : Hid (es ≠ []) := Lib.hid (fun hh => by have := HEL.out; rw [hh] at this; simp at this; omega)
                  have t0 : ((ln : Int) == 0) = false := by rw [beq_eq_false_iff_ne]; omega
                  have HH0 := Lib.hid h0
                  clear h0
                  by_cases hv1 : 1 < v
                  · obtain ⟨yy, hyy⟩ : ∃ yy, yy = bm' - 4 * v := ⟨_, rfl⟩
                    have e6 : IntKind.i64.wrap ((bm' : Int) - (f4 : Int)) = (yy : Int) := by rw [IntWalk.i64_in _ (by omega)]; have := HF4.out; omega
                    have e6' : ((bm' : Int) - (f4 : Int)) = (yy : Int) := by have := HF4.out; omega
                    have e6w : IntKind.i64.wrap (yy : Int) = (yy : Int) := IntWalk.i64_in _ (by omega)
                    obtain ⟨y8, hy8⟩ : ∃ y8, y8 = yy + 4 := ⟨_, rfl⟩
                    have e7 : IntKind.i64.wrap ((yy : Int) + 4) = (y8 : Int) := by rw [IntWalk.i64_in _ (by omega)]; omega
                    have e7' : ((yy : Int) + 4) = (y8 : Int) := by omega
                    have e7w : IntKind.i64.wrap (y8 : Int) = (y8 : Int) := IntWalk.i64_in _ (by omega)
                    have hy8b : y8 ≤ bm' := by have := HF4.out; omega
                    obtain ⟨sec, hsec⟩ : ∃ sec, sec = numK (body.drop yy) 4 := ⟨_, rfl⟩
                    have HYY := Lib.hid hyy
                    have HY8 := Lib.hid hy8
                    have HSC := Lib.hid hsec
                    have HO2 := Lib.hid (HOW.out.rd.below HRD2.out.2.2.2.2.2)
                    clear hyy hy8 hsec
                    go_wp2_with fail
                    go_loopw [15, 17] (fun s15 s17 wr => ∃ j i v2 q : Nat, j ≤ 4 ∧ i = yy + j ∧ s15 = .int .i64 (v2 : Int) ∧ s17 = .int .i64 (i : Int) ∧ v2 = numK (body.drop yy) j ∧ wr = w2.drewN q) (fun _ s _ => y8 - (intOf s).toNat)
                    case atStart => exact ⟨0, yy, 0, 0, by omega, by omega, rfl, rfl, rfl, rfl⟩
                    case round =>
                      obtain ⟨j, i, v2, q, hj, hi, rfl, rfl, hv, rfl⟩ := hrel
                      have hvl := numK_lt (body.drop yy) j
                      rw [← hv] at hvl
                      have HV2 := Lib.hid hv
                      have HI2 := Lib.hid hi
                      obtain ⟨W2, hW⟩ : ∃ W2, W2 = w2.drewN q := ⟨_, rfl⟩
                      rw [← hW]
                      have HW2 := Lib.hid hW
                      clear hv
                      by_cases hlt : i < y8
                      · have hj3 : j ≤ 3 := by have := HY8.out; omega
                        have hv3 : v2 < 16777216 := Nat.lt_of_lt_of_le hvl (Nat.le_trans (Nat.pow_le_pow_right (by decide) hj3) (by decide))
                        obtain ⟨b, hb, hcell, _⟩ := HO2.out.at_ i (by omega)
                        have hb8 := b.toNat_lt
                        have HRN : Hid (v2 * 256 + b.toNat = numK (body.drop yy) (j + 1)) := Lib.hid (by rw [numK_take (b := b) (by rw [List.getElem?_drop, ← HI2.out]; exact hb), HV2.out])
                        have c1 : W2.cell? ⟨g, off + i, none⟩ = some (.int .u8 (b.toNat : Int)) := by rw [hW]; exact hcell
                        clear hvl hi hb hcell hW
                        go_wp2_with fail
                        go_roundw
                        case rel => exact ⟨j + 1, i + 1, v2 * 256 + b.toNat, q, by omega, by have := HI2.out; omega, by go_num, by go_num, HRN.out, HW2.out⟩
                        case measure => simp [intOf]; omega
                      · have hj4 : j = 4 := by have := HY8.out; omega
                        subst hj4
                        have hsv : v2 = sec := by rw [HV2.out, HSC.out]
                        have HSV := Lib.hid hsv
                        have hBW : Below w2.heap.size w2 W2 := by rw [hW]; exact below_drewN (Below.refl _ _) q
                        have HRDW := Lib.hid (HRD2.out.below hBW)
                        have HBW2 := Lib.hid (HB2.out.trans (hBW.mono HB2.out.size))
                        have hv2l : v2 < 4294967296 := Nat.lt_of_lt_of_le hvl (by decide)
                        clear hvl hi hW hBW hsv
                        go_wp2_with fail
                        go_loopw [14, 18] (fun s14 s18 wr => ∃ i ev q : Nat, i ≤ pn ∧ s14 = .int .i64 (ev : Int) ∧ s18 = .int .i64 (i : Int) ∧ ev = lastAt ps (v2 : Int) ln i ∧ wr = W2.drewN q) (fun _ s _ => pn - (intOf s).toNat)
                        case atStart => exact ⟨0, ln, 0, Nat.zero_le _, rfl, rfl, rfl, rfl⟩
                        case round =>
                          obtain ⟨i3, ev, q3, hi3, rfl, rfl, hev, rfl⟩ := hrel
                          have HEV0 := Lib.hid hev
                          obtain ⟨W3, hW3⟩ : ∃ W3, W3 = W2.drewN q3 := ⟨_, rfl⟩
                          rw [← hW3]
                          have HW3 := Lib.hid hW3
                          clear hev
                          by_cases hlt3 : i3 < pn
                          · obtain ⟨pb, po, hPb, _⟩ := HRDW.out.2.2.2.1.rd.pos (by omega)
                            subst hPb
                            obtain ⟨z, hz, hcz⟩ := places_at HRDW.out.2.2.2.1 i3 hlt3
                            have c3 : W3.cell? ⟨pb, po + i3, none⟩ = some (.int .i64 z) := by rw [hW3]; exact hcz
                            by_cases hzv : z = (v2 : Int)
                            · have HST : Hid (i3 = lastAt ps (v2 : Int) ln (i3 + 1)) := Lib.hid (by rw [lastAt, if_pos (by rw [hz, hzv])])
                              have tz : (z == (v2 : Int)) = true := by rw [beq_iff_eq]; exact hzv
                              clear hz hzv hcz hW3
                              go_wp2_with fail
                              go_roundw
                              case rel => exact ⟨i3 + 1, i3, q3, by omega, rfl, by go_num, HST.out, HW3.out⟩
                              case measure => simp [intOf]; omega
                            · have HST : Hid (ev = lastAt ps (v2 : Int) ln (i3 + 1)) := Lib.hid (by rw [lastAt, if_neg (by rw [hz]; intro hh; injection hh with hh; exact hzv hh), HEV0.out])
                              have tz : (z == (v2 : Int)) = false := by rw [beq_eq_false_iff_ne]; exact hzv
                              clear hz hzv hcz hW3
                              go_wp2_with fail
                              go_roundw
                              case rel => exact ⟨i3 + 1, ev, q3, by omega, rfl, by go_num, HST.out, HW3.out⟩
                              case measure => simp [intOf]; omega
                          · have hip : i3 = pn := by omega
                            subst hip
                            have HBW3 : Hid (Below w.heap.size w W3) := Lib.hid (by rw [hW3]; exact below_drewN HBW2.out q3)
                            have HLR : Hid (REs W3 L ln es) := Lib.hid (by
                              have h1 := HRDW.out
                              have h2 : REs W2 L ln es := REs.mk (EOs.evs h1.2.1) (OwnE.rd h1.1) h1.2.2.1
                              rw [hW3]
                              exact h2.drewN q3)
                            have HEV : Hid (evD es ps zs = ev) := Lib.hid (by rw [HZS.out, evD_two HBM.out.symm (by have := HF4.out; omega) (by omega) HYY.out, ← HSC.out, ← HSV.out, HEL.out, HPL.out]; exact HEV0.out.symm)
                            have hevb : ev ≤ 9223372036854775807 := by rw [HEV0.out]; rcases lastAt_le ps (v2 : Int) ln i3 with h | h <;> omega
                            clear hW3
                            by_cases hev0 : ev = 0
                            · subst hev0
                              have HRF : Hid (refD xs = ([], 3)) := Lib.hid (by rw [HR5.out, finD_zero HNE.out HEV.out])
                              clear hevb
                              go_wp2_with fail
                              exact bodyPost_ret (v := .tuple #[.slice none 0 0, .int .i64 3]) (by simp [results, Try.f14, go_sem]; try rfl) rfl (RetDr.no HRF.out HBW3.out)
                            · have hr0 : ¬ ev = 0 → refD xs = if (buildE ev es).2 = 0 ∧ (buildE ev es).1 = xs then (es, 0) else ([], 3) := fun h => by rw [HR5.out, finD_more HNE.out HEV.out h]
                              obtain ⟨zb, zk, hz⟩ : ∃ zb zk, buildE ev es = (zb, zk) := ⟨_, _, rfl⟩
                              have HBZ : Hid (Calls Try.prog 52 #[.int .i64 (ev : Int), .slice L ln d] W3 (RetBb W3 (zb, zk))) := Lib.hid (by
                                rw [← hz]
                                exact refBuild8_any HLR.out (by omega) HSE.out ev (by have := hev0; omega) hevb)
                              have HFD : Hid (refD xs = if zk = 0 ∧ zb = xs then (es, 0) else ([], 3)) := Lib.hid (by have := hr0 hev0; rw [hz] at this; exact this)
                              have te : ((ev : Int) == 0) = false := by rw [beq_eq_false_iff_ne]; have := hev0; omega
                              have HHV := Lib.hid hevb
                              clear hr0 hz hevb
                              go_wp2_with fail
                              with_reducible refine HBZ.out.mono ?_
                              rintro e w3 ⟨G, gc, rfl, oG, b3⟩
                              simp only at oG ⊢
                              have hb3 := belowT' HBW3.out b3
                              have HB3 := Lib.hid hb3
                              have HL3 := Lib.hid (HLR.out.below b3)
                              by_cases hzk : zk = 0
                              · subst hzk
                                have hzl := oG.cap
                                have HEQ := Lib.hid (Equal_any G A zb.length nk gc c zb xs w3 oG.rd (HX.out.below hb3) (by omega) (by unfold maxLen; omega))
                                obtain ⟨q, hq⟩ : ∃ q, q = eqB zb xs := ⟨_, rfl⟩
                                rw [← hq] at HEQ
                                have HQ := Lib.hid hq
                                clear hq oG b3 hb3 hzl
                                cases q with
                                | true =>
                                  have he : zb = xs := by have := HQ.out; unfold eqB at this; exact (beq_iff_eq.1 this.symm)
                                  have HRF : Hid (refD xs = (es, 0)) := Lib.hid (by rw [HFD.out, if_pos ⟨rfl, he⟩])
                                  clear he
                                  go_wp2_with fail
                                  with_reducible refine HEQ.out.mono ?_
                                  rintro e w4 ⟨rfl, hq4⟩
                                  have HF : Hid (RetDr w (refD xs) (.returned (.tuple #[.slice L ln d, .int .i64 0])) w4) := Lib.hid (by
                                    obtain ⟨q4, rfl⟩ := hq4
                                    rw [HRF.out]
                                    exact ⟨L, ln, d, rfl, HL3.out.drewN q4, hld, by omega, HSE.out, below_drewN HB3.out q4⟩)
                                  clear hq4
                                  go_wp2_with fail
                                  exact bodyPost_ret (v := .tuple #[.slice L ln d, .int .i64 0]) (by simp [results, Try.f14, go_sem]; try rfl) rfl HF.out
                                | false =>
                                  have he : ¬ zb = xs := by have := HQ.out; unfold eqB at this; intro e2; rw [e2] at this; simp at this
                                  have HRF : Hid (refD xs = ([], 3)) := Lib.hid (by rw [HFD.out, if_neg (fun h => he h.2)])
                                  clear he
                                  go_wp2_with fail
                                  with_reducible refine HEQ.out.mono ?_
                                  rintro e w4 ⟨rfl, hq4⟩
                                  have HB4 : Hid (Below w.heap.size w w4) := Lib.hid (by obtain ⟨q4, rfl⟩ := hq4; exact below_drewN HB3.out q4)
                                  clear hq4
                                  go_wp2_with fail
                                  exact bodyPost_ret (v := .tuple #[.slice none 0 0, .int .i64 3]) (by simp [results, Try.f14, go_sem]; try rfl) rfl (RetDr.no HRF.out HB4.out)
                              · have HRF : Hid (refD xs = ([], 3)) := Lib.hid (by rw [HFD.out, if_neg (fun h => hzk h.1)])
                                have tz : (zk == 0) = false := by simpa using hzk
                                clear oG b3 hb3
                                go_wp2_with fail
                                exact bodyPost_ret (v := .tuple #[.slice none 0 0, .int .i64 3]) (by simp [results, Try.f14, go_sem]; try rfl) rfl (RetDr.no HRF.out HB3.out)
                  · have HLR : Hid (REs w2 L ln es) := Lib.hid (REs.mk (EOs.evs HRD2.out.2.1) (OwnE.rd HRD2.out.1) HRD2.out.2.2.1)
                    have HEV : Hid (evD es ps zs = ln) := Lib.hid (by rw [HZS.out, evD_one HBM.out.symm (by have := HF4.out; omega) (by omega), HEL.out])
                    have hevb : ln ≤ 9223372036854775807 := by omega
                    have hr0 : ¬ ln = 0 → refD xs = if (buildE ln es).2 = 0 ∧ (buildE ln es).1 = xs then (es, 0) else ([], 3) := fun h => by rw [HR5.out, finD_more HNE.out HEV.out h]
                    obtain ⟨zb, zk, hz⟩ : ∃ zb zk, buildE ln es = (zb, zk) := ⟨_, _, rfl⟩
                    have HBZ : Hid (Calls Try.prog 52 #[.int .i64 (ln : Int), .slice L ln d] w2 (RetBb w2 (zb, zk))) := Lib.hid (by
                      rw [← hz]
                      exact refBuild8_any HLR.out (by omega) HSE.out ln (by have := HH0.out; omega) hevb)
                    have HFD : Hid (refD xs = if zk = 0 ∧ zb = xs then (es, 0) else ([], 3)) := Lib.hid (by have := hr0 HH0.out; rw [hz] at this; exact this)
                    have te : ((ln : Int) == 0) = false := by rw [beq_eq_false_iff_ne]; have := HH0.out; omega
                    have HHV := Lib.hid hevb
                    clear hr0 hz hevb
                    go_wp2_with fail
                    with_reducible refine HBZ.out.mono ?_
                    rintro e w3 ⟨G, gc, rfl, oG, b3⟩
                    simp only at oG ⊢
                    have hb3 := belowT' HB2.out b3
                    have HB3 := Lib.hid hb3
                    have HL3 := Lib.hid (HLR.out.below b3)
                    by_cases hzk : zk = 0
                    · subst hzk
                      have hzl := oG.cap
                      have HEQ := Lib.hid (Equal_any G A zb.length nk gc c zb xs w3 oG.rd (HX.out.below hb3) (by omega) (by unfold maxLen; omega))
                      obtain ⟨q, hq⟩ : ∃ q, q = eqB zb xs := ⟨_, rfl⟩
                      rw [← hq] at HEQ
                      have HQ := Lib.hid hq
                      clear hq oG b3 hb3 hzl
                      cases q with
                      | true =>
                        have he : zb = xs := by have := HQ.out; unfold eqB at this; exact (beq_iff_eq.1 this.symm)
                        have HRF : Hid (refD xs = (es, 0)) := Lib.hid (by rw [HFD.out, if_pos ⟨rfl, he⟩])
                        clear he
                        go_wp2_with fail
                        with_reducible refine HEQ.out.mono ?_
                        rintro e w4 ⟨rfl, hq4⟩
                        have HF : Hid (RetDr w (refD xs) (.returned (.tuple #[.slice L ln d, .int .i64 0])) w4) := Lib.hid (by
                          obtain ⟨q4, rfl⟩ := hq4
                          rw [HRF.out]
                          exact ⟨L, ln, d, rfl, HL3.out.drewN q4, hld, by omega, HSE.out, below_drewN HB3.out q4⟩)
                        clear hq4
                        go_wp2_with fail
                        exact bodyPost_ret (v := .tuple #[.slice L ln d, .int .i64 0]) (by simp [results, Try.f14, go_sem]; try rfl) rfl HF.out
                      | false =>
                        have he : ¬ zb = xs := by have := HQ.out; unfold eqB at this; intro e2; rw [e2] at this; simp at this
                        have HRF : Hid (refD xs = ([], 3)) := Lib.hid (by rw [HFD.out, if_neg (fun h => he h.2)])
                        clear he
                        go_wp2_with fail
                        with_reducible refine HEQ.out.mono ?_
                        rintro e w4 ⟨rfl, hq4⟩
                        have HB4 : Hid (Below w.heap.size w w4) := Lib.hid (by obtain ⟨q4, rfl⟩ := hq4; exact below_drewN HB3.out q4)
                        clear hq4
                        go_wp2_with fail
                        exact bodyPost_ret (v := .tuple #[.slice none 0 0, .int .i64 3]) (by simp [results, Try.f14, go_sem]; try rfl) rfl (RetDr.no HRF.out HB4.out)
                    · have HRF : Hid (refD xs = ([], 3)) := Lib.hid (by rw [HFD.out, if_neg (fun h => hzk h.1)])
                      have tz : (zk == 0) = false := by simpa using hzk
                      clear oG b3 hb3
                      go_wp2_with fail
                      exact bodyPost_ret (v := .tuple #[.slice none 0 0, .int .i64 3]) (by simp [results, Try.f14, go_sem]; try rfl) rfl (RetDr.no HRF.out HB3.out)
    · have hr : refD xs = ([], 3) := by rw [HR2.out, if_pos (by rw [HL.out]; omega)]
      have HRR := Lib.hid hr
      have t1 : ((nk : Int) == (n : Int)) = false := by rw [beq_eq_false_iff_ne]; omega
      clear hr
      go_wp2_with fail
      exact bodyPost_ret (v := .tuple #[.slice none 0 0, .int .i64 3]) (by simp [results, Try.f14, go_sem]; try rfl) rfl (RetDr.no HRR.out HB1.out)
  · have hr : refD xs = ([], k) := by rw [HR.out, if_pos hk]
    have HRR := Lib.hid hr
    have t1 : (k == 0) = false := by simpa using hk
    clear hO h hl hog hr
    go_enter Try.func14, Try.ntmps14
    go_wp2_with fail
    with_reducible refine HO.out.mono ?_
    rintro e w1 ⟨B, bm, bc, rfl, oB, b1⟩
    have HB1 := Lib.hid b1
    clear oB b1
    go_wp2_with fail
    exact bodyPost_ret (v := .tuple #[.slice none 0 0, .int .i64 k]) (by simp [results, Try.f14, go_sem]; try rfl) rfl (RetDr.no HRR.out HB1.out)
end Go.Proofs.Ytgigohfjioifaaa
namespace Go.Proofs.Ytgigohfjioifaaa
open Go Go.RowKit

theorem zero_ev4 (w : World) : EV w ⟨[], 0, 0, []⟩ (.slice none 0 0) (.int .u64 0) (.int .u8 0) (.slice none 0 0) := by
  have := zero_ev w (K := none) (kc := 0) [] 0 (Rd.nil _ _) (Nat.le_refl _) (fun _ => rfl) (by unfold U64; omega)
  exact this
set_option maxRecDepth 100000 in
set_option maxHeartbeats 16000000 in
theorem blockReads_row (A : Option Addr) (n c : Nat) (xs : List UInt8) (K0 : Option Addr) (k0 kc0 : Nat) (key : List UInt8) (a : Nat) (w : World) (h : Rd w A n xs) (hnc : n ≤ c) (_hcm : c ≤ 1048576) (hk : Rd w K0 k0 key) (hkc : k0 ≤ kc0) (hkm : kc0 ≤ 1048576) (hknil : K0 = none → kc0 = 0) (ha : U64 a) :
    Calls Try.prog 3 #[.slice A n c, .slice K0 k0 kc0, .int .u64 (a : Int)] w (RetT w true) := by
  have HX := Lib.hid h
  have HL := Lib.hid h.len
  have HK := Lib.hid hk
  have HKL := Lib.hid hk.len
  have HNK := Lib.hid hknil
  have HA := Lib.hid ha
  obtain ⟨r, hr⟩ : ∃ r, r = decB xs := ⟨_, rfl⟩
  have HR := Lib.hid hr
  clear h hk hknil ha hr
  go_enter Try.func3, Try.ntmps3
  go_wp2_with fail
  refine (awake8_any _).mono ?_
  rintro e w1 ⟨rfl, b1⟩
  have B1 := Lib.hid b1
  clear b1
  by_cases hbig : 20000 < n
  · go_wp2_with fail
    go_ret
    exact ⟨rfl, B1.out⟩
  · go_wp2_with fail
    with_reducible refine (Copy_any A n c xs w1 (HX.out.below B1.out) (by omega)).mono ?_
    rintro e w2 ⟨C, cn, cc, rfl, oC, b2⟩
    obtain rfl : cn = n := by have := oC.len; have := HL.out; omega
    have B2 := Lib.hid (belowT' B1.out b2)
    have hDC := decode_any C cn cc xs w2 oC.rd (by omega) oC.cap.1 (fun hh => by have := oC.nil_of (by rw [hh]; rfl); exact this.2.2)
    have HDC := Lib.hid hDC
    clear oC b2 hDC
    go_wp2_with fail
    with_reducible refine HDC.out.mono ?_
    intro e w3 hq
    have hrr : refD xs = r := by
      rw [HR.out]
      refine refD_eq (fun es hes x hx => ?_)
      rcases hq with ⟨_, h2, _, _⟩ | ⟨_, _, L, d, _, hrow⟩
      · rw [hes] at h2; exact absurd rfl h2
      · rw [hes] at hrow
        exact hrow.rd.wf x hx
    rw [← HR.out] at hq
    have HRD : Hid (∀ wx, Below w.heap.size w wx → Calls Try.prog 14 #[.slice A cn c] wx (RetDr wx r)) := Lib.hid (fun wx hb => by rw [← hrr]; exact refDecode8_any (HX.out.below hb) (by omega) hnc)
    have HSK : Hid (∀ wx (C2 K2 : Option Addr) (c2 d2 : Nat), Below w.heap.size w wx → Own 5 wx w.heap.size C2 cn c2 xs → Own 5 wx w.heap.size K2 k0 d2 key → Calls Try.prog 15 #[.slice C2 cn c2, .slice K2 k0 d2, .int .u64 (a : Int)] wx (RetSk8 wx r (plE key a))) := Lib.hid (fun wx C2 K2 c2 d2 hb o1 o2 => by
      rw [HR.out]
      exact seek_any C2 cn c2 xs K2 k0 d2 key a wx o1.rd (by omega) o1.cap.1 (fun hh => by have := o1.nil_of (by rw [hh]; rfl); exact this.2.2) o2.rd o2.cap.1 (fun hh => by have := o2.nil_of (by rw [hh]; rfl); exact this.2.2) HA.out)
    clear hrr HDC
    obtain ⟨es, k⟩ := r
    rcases hq with ⟨he, hk, rfl, b3⟩ | ⟨hk, hlen, L, d, rfl, hrow⟩
    · have he : es = [] := he
      subst he
      have hk : k ≠ 0 := hk
      have B3 := Lib.hid (belowT' B2.out b3)
      clear b3
      simp only
      go_wp2_with fail
      with_reducible refine (HRD.out w3 B3.out).mono ?_
      rintro e w4 ⟨L2, ln2, d2, rfl, hR2, hld2, hlb2, hsz2, b4⟩
      have B4 := Lib.hid (belowT' B3.out b4)
      have HR2 := Lib.hid hR2
      have HS2 := Lib.hid hsz2
      have H34 := Lib.hid b4
      obtain rfl : ln2 = 0 := by have := hR2.len; simp only at this; simp at this; omega
      clear hR2 hsz2 b4
      go_wp2_with fail
      with_reducible refine (Copy_any A cn c xs w4 (HX.out.below B4.out) (by omega)).mono ?_
      rintro e w5 ⟨C2, cn2, c2, rfl, oC2, b5⟩
      obtain rfl : cn2 = cn := by have := oC2.len; have := HL.out; omega
      have B5 := Lib.hid (belowT' B4.out b5)
      have HC2 := Lib.hid oC2
      have H45 := Lib.hid b5
      clear oC2 b5
      go_wp2_with fail
      with_reducible refine (Copy_any K0 k0 kc0 key w5 (HK.out.below B5.out) (by omega)).mono ?_
      rintro e w6 ⟨K2, kn2, k2, rfl, oK2, b6⟩
      obtain rfl : kn2 = k0 := by have := oK2.len; have := HKL.out; omega
      have B6 := Lib.hid (belowT' B5.out b6)
      have HSQ := Lib.hid (HSK.out w6 C2 K2 c2 k2 B6.out ((HC2.out.below b6).mono B4.out.size) (oK2.mono B5.out.size))
      have H46 := Lib.hid (belowT' H45.out b6)
      clear oK2 b6
      go_wp2_with fail
      with_reducible refine HSQ.out.mono ?_
      intro e w7 hq7
      obtain ⟨b7, hq7⟩ := hq7
      have B7 := Lib.hid (belowT' B6.out b7)
      have H47 := Lib.hid (belowT' H46.out b7)
      have H37 := Lib.hid (belowT' H34.out H47.out)
      rcases hq7 with ⟨_, rfl⟩ | ⟨h0, _⟩ | ⟨h0, _⟩
      rotate_left
      · exact absurd h0 hk
      · exact absurd h0 hk
      have hfd : ([] : List En).find? (fun e => !lessE e (plE key a)) = none := rfl
      obtain ⟨Y, hY⟩ : ∃ Y, Y = w7.alloc (.cells #[.slice none 0 0, .int .u64 0, .int .u8 0, .slice none 0 0] 33) := ⟨_, rfl⟩
      obtain ⟨g6, hg6⟩ : ∃ g6, g6 = w7.heap.size := ⟨_, rfl⟩
      have bY : Below w7.heap.size w7 Y := by rw [hY]; exact (Below.refl _ _).alloc (Nat.le_refl _) _
      have HKY := Lib.hid (show Cl Y g6 #[.slice none 0 0, .int .u64 0, .int .u8 0, .slice none 0 0] 33 by rw [hY, hg6]; exact Cl.new _ _ _)
      have BY := Lib.hid (belowT' B7.out bY)
      have HSM := Lib.hid (SameList_any (c := 0) (d := d2) ((REs.nil w3 none).below (belowT' H37.out bY)) (HR2.out.below (belowT' H47.out bY)) (by omega) HS2.out)
      have H4Y := Lib.hid (belowT' H47.out bY)
      have HY := Lib.hid hY
      have HG6 := Lib.hid hg6
      have HFD := Lib.hid hfd
      clear hY hg6 bY b7 hfd
      go_upto_region 8 with (fail)
      rw [← HY.out, ← HG6.out]
      go_wp2_with fail
      with_reducible refine HSM.out.mono ?_
      intro e w8 hq8
      obtain ⟨h8, b8⟩ := RetT.outD hq8
      subst h8
      have B8 := Lib.hid (belowT' BY.out b8)
      have hSK := refSeek8_any (c := d2) (at_ := a) ((HR2.out.below H4Y.out).below b8) (by omega) HS2.out (HK.out.below B8.out) (by omega) hkc HNK.out HA.out
      rw [HFD.out] at hSK
      have HSK2 := Lib.hid hSK
      have HKY8 := Lib.hid (HKY.out.below b8)
      clear hSK b8 hq8
      go_wp2_with fail
      with_reducible refine HSK2.out.mono ?_
      rintro e w9 (⟨_, rfl, b9⟩ | ⟨x9, v0, v1, v2, v3, h9, _⟩)
      rotate_left
      · cases h9
      obtain ⟨Z, hZ⟩ : ∃ Z, Z = w9.alloc (.cells #[.slice none 0 0, .int .u64 0, .int .u8 0, .slice none 0 0] 33) := ⟨_, rfl⟩
      obtain ⟨g7, hg7⟩ : ∃ g7, g7 = w9.heap.size := ⟨_, rfl⟩
      have bZ : Below w9.heap.size w9 Z := by rw [hZ]; exact (Below.refl _ _).alloc (Nat.le_refl _) _
      have kZ : Cl Z g7 #[.slice none 0 0, .int .u64 0, .int .u8 0, .slice none 0 0] 33 := by rw [hZ, hg7]; exact Cl.new _ _ _
      have kX := (HKY8.out.below b9).below bZ
      have BZ := Lib.hid (belowT' (belowT' B8.out b9) bZ)
      have HSE := Lib.hid (Same_any (zero_ev4 Z) (zero_ev4 Z) ⟨by simp, by simp⟩)
      have HZ := Lib.hid hZ
      have HG7 := Lib.hid hg7
      obtain ⟨x0, x1, x2, x3, _⟩ := kX.c4
      obtain ⟨y0, y1, y2, y3, _⟩ := kZ.c4
      clear hZ hg7 bZ kZ kX b9
      go_upto_region 11 with (fail)
      rw [← HZ.out, ← HG7.out]
      go_wp2_with fail
      with_reducible refine HSE.out.mono ?_
      intro e wa hqa
      obtain ⟨h10, ba⟩ := RetT.outD hqa
      subst h10
      have BA := Lib.hid (belowT' BZ.out ba)
      clear hqa ba x0 x1 x2 x3 y0 y1 y2 y3
      go_wp2_with fail
      go_ret
      exact ⟨rfl, BA.out⟩
    · have hk : k = 0 := hk
      subst hk
      have hlen : es.length ≤ 16777216 := hlen
      have B3 := Lib.hid (belowT' B2.out hrow.bel)
      have HRW := Lib.hid hrow.rd
      obtain ⟨ln, hln⟩ : ∃ ln, ln = es.length := ⟨_, rfl⟩
      simp only at HRW ⊢
      rw [← hln] at HRW hlen ⊢
      have HLN := Lib.hid hln
      clear hrow hln
      go_wp2_with fail
      with_reducible refine (HRD.out w3 B3.out).mono ?_
      rintro e w4 ⟨L2, ln2, d2, rfl, hR2, hld2, hlb2, hsz2, b4⟩
      have B4 := Lib.hid (belowT' B3.out b4)
      have HR2 := Lib.hid hR2
      have HS2 := Lib.hid hsz2
      have H34 := Lib.hid b4
      obtain rfl : ln2 = ln := by have := hR2.len; simp only at this; have := HLN.out; omega
      clear hR2 hsz2 b4
      go_wp2_with fail
      with_reducible refine (Copy_any A cn c xs w4 (HX.out.below B4.out) (by omega)).mono ?_
      rintro e w5 ⟨C2, cn2, c2, rfl, oC2, b5⟩
      obtain rfl : cn2 = cn := by have := oC2.len; have := HL.out; omega
      have B5 := Lib.hid (belowT' B4.out b5)
      have HC2 := Lib.hid oC2
      have H45 := Lib.hid b5
      clear oC2 b5
      go_wp2_with fail
      with_reducible refine (Copy_any K0 k0 kc0 key w5 (HK.out.below B5.out) (by omega)).mono ?_
      rintro e w6 ⟨K2, kn2, k2, rfl, oK2, b6⟩
      obtain rfl : kn2 = k0 := by have := oK2.len; have := HKL.out; omega
      have B6 := Lib.hid (belowT' B5.out b6)
      have HSQ := Lib.hid (HSK.out w6 C2 K2 c2 k2 B6.out ((HC2.out.below b6).mono B4.out.size) (oK2.mono B5.out.size))
      have H46 := Lib.hid (belowT' H45.out b6)
      clear oK2 b6
      go_wp2_with fail
      with_reducible refine HSQ.out.mono ?_
      intro e w7 hq7
      obtain ⟨b7, hq7⟩ := hq7
      have B7 := Lib.hid (belowT' B6.out b7)
      have H47 := Lib.hid (belowT' H46.out b7)
      have H37 := Lib.hid (belowT' H34.out H47.out)
      rcases hq7 with ⟨h0, _⟩ | ⟨_, hno, rfl⟩ | ⟨_, i, x, hx, hn1, hn2, K, kn, kc, V, vn, vc, rfl, heo, hfm⟩
      · exact absurd rfl h0
      · have hfd := find_no hno
        clear hno
        obtain ⟨Y, hY⟩ : ∃ Y, Y = w7.alloc (.cells #[.slice none 0 0, .int .u64 0, .int .u8 0, .slice none 0 0] 33) := ⟨_, rfl⟩
        obtain ⟨g6, hg6⟩ : ∃ g6, g6 = w7.heap.size := ⟨_, rfl⟩
        have bY : Below w7.heap.size w7 Y := by rw [hY]; exact (Below.refl _ _).alloc (Nat.le_refl _) _
        have HKY := Lib.hid (show Cl Y g6 #[.slice none 0 0, .int .u64 0, .int .u8 0, .slice none 0 0] 33 by rw [hY, hg6]; exact Cl.new _ _ _)
        have BY := Lib.hid (belowT' B7.out bY)
        have HSM := Lib.hid (SameList_any (c := d) (d := d2) ((HRW.out).below (belowT' H37.out bY)) (HR2.out.below (belowT' H47.out bY)) (by omega) HS2.out)
        have H4Y := Lib.hid (belowT' H47.out bY)
        have HY := Lib.hid hY
        have HG6 := Lib.hid hg6
        have HFD := Lib.hid hfd
        clear hY hg6 bY b7 hfd
        go_upto_region 8 with (fail)
        rw [← HY.out, ← HG6.out]
        go_wp2_with fail
        with_reducible refine HSM.out.mono ?_
        intro e w8 hq8
        obtain ⟨h8, b8⟩ := RetT.outD hq8
        subst h8
        have B8 := Lib.hid (belowT' BY.out b8)
        have hSK := refSeek8_any (c := d2) (at_ := a) ((HR2.out.below H4Y.out).below b8) (by omega) HS2.out (HK.out.below B8.out) (by omega) hkc HNK.out HA.out
        rw [HFD.out] at hSK
        have HSK2 := Lib.hid hSK
        have HKY8 := Lib.hid (HKY.out.below b8)
        clear hSK b8 hq8
        go_wp2_with fail
        with_reducible refine HSK2.out.mono ?_
        rintro e w9 (⟨_, rfl, b9⟩ | ⟨x9, v0, v1, v2, v3, h9, _⟩)
        rotate_left
        · cases h9
        obtain ⟨Z, hZ⟩ : ∃ Z, Z = w9.alloc (.cells #[.slice none 0 0, .int .u64 0, .int .u8 0, .slice none 0 0] 33) := ⟨_, rfl⟩
        obtain ⟨g7, hg7⟩ : ∃ g7, g7 = w9.heap.size := ⟨_, rfl⟩
        have bZ : Below w9.heap.size w9 Z := by rw [hZ]; exact (Below.refl _ _).alloc (Nat.le_refl _) _
        have kZ : Cl Z g7 #[.slice none 0 0, .int .u64 0, .int .u8 0, .slice none 0 0] 33 := by rw [hZ, hg7]; exact Cl.new _ _ _
        have kX := (HKY8.out.below b9).below bZ
        have BZ := Lib.hid (belowT' (belowT' B8.out b9) bZ)
        have HSE := Lib.hid (Same_any (zero_ev4 Z) (zero_ev4 Z) ⟨by simp, by simp⟩)
        have HZ := Lib.hid hZ
        have HG7 := Lib.hid hg7
        obtain ⟨x0, x1, x2, x3, _⟩ := kX.c4
        obtain ⟨y0, y1, y2, y3, _⟩ := kZ.c4
        clear hZ hg7 bZ kZ kX b9
        go_upto_region 11 with (fail)
        rw [← HZ.out, ← HG7.out]
        go_wp2_with fail
        with_reducible refine HSE.out.mono ?_
        intro e wa hqa
        obtain ⟨h10, ba⟩ := RetT.outD hqa
        subst h10
        have BA := Lib.hid (belowT' BZ.out ba)
        clear hqa ba x0 x1 x2 x3 y0 y1 y2 y3
        go_wp2_with fail
        go_ret
        exact ⟨rfl, BA.out⟩
      · have hfd := find_at hx hn1 hn2
        have hxz := HS2.out x (List.mem_of_getElem? hx)
        have hev : EV w7 x (.slice K kn kc) (.int .u64 (x.seq : Int)) (.int .u8 (x.kind : Int)) (.slice V vn vc) := heo.ev
        clear hx hn1 hn2 heo hfm
        obtain ⟨Y, hY⟩ : ∃ Y, Y = w7.alloc (.cells #[.slice K kn kc, .int .u64 (x.seq : Int), .int .u8 (x.kind : Int), .slice V vn vc] 33) := ⟨_, rfl⟩
        obtain ⟨g6, hg6⟩ : ∃ g6, g6 = w7.heap.size := ⟨_, rfl⟩
        have bY : Below w7.heap.size w7 Y := by rw [hY]; exact (Below.refl _ _).alloc (Nat.le_refl _) _
        have HKY := Lib.hid (show Cl Y g6 #[.slice K kn kc, .int .u64 (x.seq : Int), .int .u8 (x.kind : Int), .slice V vn vc] 33 by rw [hY, hg6]; exact Cl.new _ _ _)
        have BY := Lib.hid (belowT' B7.out bY)
        have HSM := Lib.hid (SameList_any (c := d) (d := d2) ((HRW.out).below (belowT' H37.out bY)) (HR2.out.below (belowT' H47.out bY)) (by omega) HS2.out)
        have HEV := Lib.hid (hev.below bY)
        have H4Y := Lib.hid (belowT' H47.out bY)
        have HY := Lib.hid hY
        have HG6 := Lib.hid hg6
        have HFD := Lib.hid hfd
        clear hY hg6 bY b7 hfd hev
        go_upto_region 8 with (fail)
        rw [← HY.out, ← HG6.out]
        go_wp2_with fail
        with_reducible refine HSM.out.mono ?_
        intro e w8 hq8
        obtain ⟨h8, b8⟩ := RetT.outD hq8
        subst h8
        have B8 := Lib.hid (belowT' BY.out b8)
        have hSK := refSeek8_any (c := d2) (at_ := a) ((HR2.out.below H4Y.out).below b8) (by omega) HS2.out (HK.out.below B8.out) (by omega) hkc HNK.out HA.out
        rw [HFD.out] at hSK
        have HSK2 := Lib.hid hSK
        have HKY8 := Lib.hid (HKY.out.below b8)
        have HEV8 := Lib.hid (HEV.out.below b8)
        clear hSK b8 hq8
        go_wp2_with fail
        with_reducible refine HSK2.out.mono ?_
        rintro e w9 (⟨h9, _⟩ | ⟨x9, v0, v1, v2, v3, h9, rfl, hev9, b9⟩)
        · cases h9
        · injection h9 with h9
          subst h9
          obtain ⟨K7, kn7, kc7, V7, vn7, vc7, rfl, rfl, rfl, rfl, _⟩ := hev9.parts
          obtain ⟨Z, hZ⟩ : ∃ Z, Z = w9.alloc (.cells #[.slice K7 kn7 kc7, .int .u64 (x.seq : Int), .int .u8 (x.kind : Int), .slice V7 vn7 vc7] 33) := ⟨_, rfl⟩
          obtain ⟨g7, hg7⟩ : ∃ g7, g7 = w9.heap.size := ⟨_, rfl⟩
          have bZ : Below w9.heap.size w9 Z := by rw [hZ]; exact (Below.refl _ _).alloc (Nat.le_refl _) _
          have kZ : Cl Z g7 #[.slice K7 kn7 kc7, .int .u64 (x.seq : Int), .int .u8 (x.kind : Int), .slice V7 vn7 vc7] 33 := by rw [hZ, hg7]; exact Cl.new _ _ _
          have kX := (HKY8.out.below b9).below bZ
          have BZ := Lib.hid (belowT' (belowT' B8.out b9) bZ)
          have HSE := Lib.hid (Same_any ((HEV8.out.below b9).below bZ) (hev9.below bZ) hxz)
          have HZ := Lib.hid hZ
          have HG7 := Lib.hid hg7
          obtain ⟨x0, x1, x2, x3, _⟩ := kX.c4
          obtain ⟨y0, y1, y2, y3, _⟩ := kZ.c4
          clear hZ hg7 bZ kZ kX b9 hev9
          go_upto_region 11 with (fail)
          rw [← HZ.out, ← HG7.out]
          go_wp2_with fail
          with_reducible refine HSE.out.mono ?_
          intro e wa hqa
          obtain ⟨h10, ba⟩ := RetT.outD hqa
          subst h10
          have BA := Lib.hid (belowT' BZ.out ba)
          clear hqa ba x0 x1 x2 x3 y0 y1 y2 y3
          go_wp2_with fail
          go_ret
          exact ⟨rfl, BA.out⟩
end Go.Proofs.Ytgigohfjioifaaa
namespace Go.Proofs.Ytgigohfjioifaaa.blockReadsUptoRow
open Go Go.ChangeShapes Go.WideShapes Go.ChangeAt Go.RowKit Go.Deep
open Go.ChangeMaps (open_string shut_string)
set_option linter.unusedVariables false

theorem own : ownKnob Try.prog.godebug = none := by kernel_rfl
theorem laidOut : laidOutB Try.prog = true := by kernel_rfl

set_option maxRecDepth 100000 in
theorem contract (H : Type) (enc : TypeId × Value → H) (W : World) (base : Nat) (args : Array Value) (ds gs : List (DataW H)) (before : List MemPlace)
    (hval0 : ∀ (j : Nat) t v, Try.f3.params[j]? = some t → args[j]? = some v → Value.okWide Try.prog W .any base t v)
    (hW : DataW.Whole enc Try.prog Try.f3.params.toList Rows.blockReadsSpec.vars false W args.toList ds gs before)
    (hk : Rows.uptoSmall H (ds ++ gs) = true) :
    Calls Try.prog 3 args W fun e W' => ∃ v, e = .returned v ∧ Rows.blockReadsSpec.post enc Try.prog Try.f3 false true false false W args v W' := by
  have hval : ∀ (j : Nat) t v, Try.f3.params[j]? = some t → args[j]? = some v → Value.okWide Try.prog W .any base t v := hval0
  have hW' := hW
  obtain ⟨p, q, hA0, hV, rfl, hfz, hnd⟩ := hW
  have hA : DataW.TrodAll enc Try.prog W 0 (fun _ => true) true Try.f3.params.toList args.toList ds p := hA0
  rw [Try.params3] at hA hval
  obtain ⟨v0, vs0, d0, ds0, p0, q0, hargs, rfl, rfl, h0, r0⟩ := trodAll_cons hA
  obtain ⟨v1, vs1, d1, ds1, p1, q1, rfl, rfl, rfl, h1, r1⟩ := trodAll_cons r0
  obtain ⟨v2, vs2, d2, ds2, p2, q2, rfl, rfl, rfl, h2, r2⟩ := trodAll_cons r1
  obtain ⟨rfl, rfl, rfl⟩ := trodAll_nil r2
  obtain rfl : args = #[v0, v1, v2] := by cases args; simp_all
  obtain ⟨rfl, rfl⟩ := trodVars_none hV
  have hb := bulkOf hk
  have sz0 : ∀ el sp, d0 = .slice el sp → Rows.uptoBulkAll el + Rows.uptoBulkAll sp + 1 ≤ 1048576 := fun el sp e => by
    have h1 := Nat.le_trans (part_bulk (d := d0) (l := [d0, d1, d2] ++ []) (by simp)) hb
    rw [e] at h1
    simp only [Rows.uptoBulk] at h1
    omega
  have sz1 : ∀ el sp, d1 = .slice el sp → Rows.uptoBulkAll el + Rows.uptoBulkAll sp + 1 ≤ 1048576 := fun el sp e => by
    have h1 := Nat.le_trans (part_bulk (d := d1) (l := [d0, d1, d2] ++ []) (by simp)) hb
    rw [e] at h1
    simp only [Rows.uptoBulk] at h1
    omega
  obtain ⟨A0, len0, cap0, rfl⟩ := okWide_slice Try.underlying22 (hval 0 22 v0 rfl rfl)
  have k0 := h0
  have lt0 : ∀ x ∈ p0, x.block < W.heap.size := by obtain ⟨m, hm⟩ := k0; exact DataW.trod_lt m _ _ _ hm
  obtain ⟨xs0, rd0, lc0, cm0⟩ : ∃ xs, Rd W A0 len0 xs ∧ len0 ≤ cap0 ∧ cap0 ≤ 1048576 := by
    obtain ⟨fuel, hf⟩ := h0
    rcases open_ints Try.underlying22 Try.underlying5 (by kernel_rfl) hf with ⟨hcs, _⟩ | ⟨x, l, c, zs, hcs, _, hl, hm, hz, hx, hcell, hwz⟩
    · simp [Value.cells] at hcs
      obtain ⟨rfl, rfl, rfl⟩ := hcs
      exact ⟨[], Rd.nil _ _, Nat.le_refl _, by omega⟩
    · simp [Value.cells] at hcs
      obtain ⟨rfl, rfl, rfl⟩ := hcs
      simp only [Prod.mk.injEq] at hx
      have hz' : zs.length = cap0 := by simpa using hz
      have h2 := sz0 _ _ hx.1
      have h3 := length_le (lits (H := H) .u8 (zs.take len0))
      have h4 := length_le (lits (H := H) .u8 (zs.drop len0))
      simp only [lits, List.length_map, List.length_take, List.length_drop, hz'] at h2 h3 h4
      exact ⟨_, Rd.of_ints hl hz' hcell hwz, hl, by omega⟩
  obtain ⟨A1, len1, cap1, rfl⟩ := okWide_slice Try.underlying22 (hval 1 22 v1 rfl rfl)
  have k1 := h1
  have lt1 : ∀ x ∈ p1, x.block < W.heap.size := by obtain ⟨m, hm⟩ := k1; exact DataW.trod_lt m _ _ _ hm
  obtain ⟨xs1, rd1, lc1, cm1, nl1⟩ : ∃ xs, Rd W A1 len1 xs ∧ len1 ≤ cap1 ∧ cap1 ≤ 1048576 ∧ (A1 = none → cap1 = 0) := by
    obtain ⟨fuel, hf⟩ := h1
    rcases open_ints Try.underlying22 Try.underlying5 (by kernel_rfl) hf with ⟨hcs, _⟩ | ⟨x, l, c, zs, hcs, _, hl, hm, hz, hx, hcell, hwz⟩
    · simp [Value.cells] at hcs
      obtain ⟨rfl, rfl, rfl⟩ := hcs
      exact ⟨[], Rd.nil _ _, Nat.le_refl _, by omega, fun _ => rfl⟩
    · simp [Value.cells] at hcs
      obtain ⟨rfl, rfl, rfl⟩ := hcs
      simp only [Prod.mk.injEq] at hx
      have hz' : zs.length = cap1 := by simpa using hz
      have h2 := sz1 _ _ hx.1
      have h3 := length_le (lits (H := H) .u8 (zs.take len1))
      have h4 := length_le (lits (H := H) .u8 (zs.drop len1))
      simp only [lits, List.length_map, List.length_take, List.length_drop, hz'] at h2 h3 h4
      exact ⟨_, Rd.of_ints hl hz' hcell hwz, hl, by omega, fun h => by cases h⟩
  obtain ⟨a2, rfl, rfl, rfl, w2⟩ := open_int Try.underlying23 (hval 2 23 v2 rfl rfl) h2
  have wf2 := w2
  obtain ⟨n2, rfl, hn2⟩ := nat_of_u64 wf2
  clear hA0 hval0
  refine (blockReads_row A0 len0 cap0 xs0 A1 len1 cap1 xs1 n2 W rd0 lc0 cm0 rd1 lc1 cm1 nl1 hn2).mono fun e W' ⟨he, bel⟩ => ?_
  subst he
  exact ⟨_, rfl, _, _, _, [], _, [], hW', trodAll_mk1 (shut_bool Try.underlying4 _), (trodAll_cons_mk (Below.trod laidOut (by kernel_rfl) (of_decide_eq_true (by kernel_rfl)) k0 bel lt0) (trodAll_cons_mk (Below.trod laidOut (by kernel_rfl) (of_decide_eq_true (by kernel_rfl)) k1 bel lt1) (trodAll_cons_mk (shut_int Try.underlying23 w2) trodAll_mk0))), rfl, bel.frame _, fun h => by cases h⟩

set_option maxRecDepth 100000 in
theorem lifted (os : Os) (started : os.Started) (H : Type) (enc : TypeId × Value → H) (F : Stop.Interp) :
    ReturnsInHanded {} Try.checked os 3 .any ((Rows.OpenSpec.upto Rows.blockReadsSpec).pre6 enc Try.prog Try.f3 Rows.blockReadsUptoRow.domain false) (((Rows.OpenSpec.upto Rows.blockReadsSpec).at F).post enc Try.prog Try.f3 false true false false) := by
  refine returnsInHanded_of_cond (C := Try.checked) (s := Rows.OpenSpec.upto Rows.blockReadsSpec) (k := Rows.uptoSmall) rfl own started (by kernel_rfl) Try.func3
    (OpenSpec.witness (enc := enc) (C := Try.checked) (s := Rows.OpenSpec.upto Rows.blockReadsSpec) (k := Rows.uptoSmall) rfl false ⟨#[], #[.slice none 0 0, .slice none 0 0, .int .u64 0], []⟩ 8 (by kernel_rfl) (by kernel_rfl) (by kernel_rfl)
      (x := ([.nil, .nil, .lit (.int .u64 0)], [], [])) (by kernel_rfl) rfl (by kernel_rfl)) ?_
  intro W base args ds gs before hval hW _ hk _
  exact contract H enc W base args ds gs before hval hW hk

theorem over : Rows.blockReadsUptoRow.holds Try.pinned (Rows.OpenSpec.upto Rows.blockReadsSpec) :=
  OpenClaim.holds_of_cond 3 Try.f3 rfl rfl rfl rfl rfl rfl rfl ⟨rfl, rfl, rfl, rfl, rfl⟩ rfl rfl rfl rfl rfl (by kernel_rfl) Try.func3 (by kernel_rfl)
    (of_decide_eq_true (by kernel_rfl)) (by unfold Func.isWrapper; first | (rw [if_pos (by decide +kernel)]; kernel_rfl) | (rw [if_neg (by decide +kernel)]; exact ⟨rfl, rfl⟩))
    (fun os started H enc _ F => lifted os started H enc F)

/-- THE STATEMENT -/
theorem proved : Rows.BlockReadsUptoSaid := over
#print axioms proved
end Go.Proofs.Ytgigohfjioifaaa.blockReadsUptoRow
