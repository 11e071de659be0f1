/- P11.5: no call of merge changes or keeps what it is handed, and all answers are memory of their own. The arguments' bytes and entries are at most 1048576 in all. -/
import Derived.Test.YtgigohfjioifaaaBkC
import Derived.Test.YtgigohfjioifaaaEnF
import Derived.Deep.DeepCutAuto
import Derived.Deep.CutBlock
import Derived.Test.YtgigohfjioifaaaEnE
import Derived.Test.YtgigohfjioifaaaCl
import Derived.Test.YtgigohfjioifaaaEnC
import Derived.Test.YtgigohfjioifaaaFamD
import Derived.Deep.RegionLaw
import Derived.Test.YtgigohfjioifaaaCrcV
import Derived.Laws.MakeOwn
import Derived.Lib.SmallJoins
import Derived.Test.YtgigohfjioifaaaEnL
import Derived.Test.YtgigohfjioifaaaEnB
import Derived.Laws.BytesArg
import Derived.Deep.QuietTactic
import Derived.BigQuiet
import Derived.Test.YtgigohfjioifaaaBits
import Derived.Test.YtgigohfjioifaaaRows
import Derived.Test.YtgigohfjioifaaaOpen
import Derived.ProofKit
import Derived.OpenShut
import Derived.ShutString
import Derived.ChangeOld
import Derived.SizedLaws
import Derived.JoinedCond
import Derived.Deep.CondSized
import Derived.Deep.Matrix
import Derived.Test.YtgigohfjioifaaaBulk
import Derived.Test.YtgigohfjioifaaaOpenE
namespace Go.Proofs.Ytgigohfjioifaaa
open Go Go.RowKit

def szL : List En → Nat
  | [] => 0
  | e :: t => wE e + szL t
theorem szL_app : ∀ a b : List En, szL (a ++ b) = szL a + szL b
  | [], b => by simp [szL]
  | e :: t, b => by rw [List.cons_append, szL, szL, szL_app t b]; omega
def SortL (l : List En) : Prop := l.Pairwise (fun a b => lessE a b = true)
theorem posI_app {p q : List En} {x : En} (h1 : ∀ y ∈ p, lessE x y = false) (h2 : ∀ y ∈ q, lessE x y = true) : ∀ j, j ≤ q.length → posI (p ++ q) x (p.length + j) = p.length
  | 0, _ => by
    rw [Nat.add_zero]
    cases hp : p.length with
    | zero => rfl
    | succ m =>
      have hm : m < p.length := by omega
      have e : (p ++ q)[m]? = some (p[m]'hm) := by rw [List.getElem?_append_left hm, List.getElem?_eq_getElem hm]
      rw [posI, e]
      simp only
      rw [h1 _ (List.getElem_mem hm)]
      rfl
  | j + 1, h => by
    have hj : j < q.length := by omega
    have e : (p ++ q)[p.length + j]? = some (q[j]'hj) := by rw [List.getElem?_append_right (by omega), Nat.add_sub_cancel_left, List.getElem?_eq_getElem hj]
    rw [← Nat.add_assoc, posI, e]
    simp only
    rw [h2 _ (List.getElem_mem hj)]
    exact posI_app h1 h2 j (by omega)
theorem insL_app {p q : List En} {x : En} (h1 : ∀ y ∈ p, lessE x y = false) (h2 : ∀ y ∈ q, lessE x y = true) : insL (p ++ q) x = p ++ x :: q := by
  have h := posI_app h1 h2 q.length (Nat.le_refl _)
  unfold insL
  rw [List.length_append, h]
  simp
/-- What the reference's Get finds. -/
def findL (key : List UInt8) (at_ : Nat) (l : List En) : Option En := l.find? (fun y => eqB y.key key && decide (y.seq ≤ at_))
def inR (xs ys : List UInt8) (e : En) : Bool := decide (0 ≤ cmpB e.key xs) && decide (ys.length = 0 ∨ cmpB e.key ys < 0)
theorem less_key {a b : En} {zs : List UInt8} (h : lessE a b = true) (k : cmpB b.key zs < 0) : cmpB a.key zs < 0 := by
  rcases lessE_iff.1 h with q | ⟨q, _⟩
  · exact cmpB_trans q k
  · rw [q]; exact k
/-- The reference's PutAll, of entries in form. -/
def refIns : List En → List En → Option (List En)
  | l, [] => some l
  | l, x :: xs => if inL l x then none else refIns (insL l x) xs
theorem insL_len (l : List En) (x : En) : (insL l x).length = l.length + 1 := by
  have := posI_le l x l.length
  unfold insL
  rw [List.length_append, List.length_cons, List.length_take, List.length_drop]
  omega
theorem split_of {x : En} : ∀ {o : List En}, SortL o → inL o x = false → ∃ p q, o = p ++ q ∧ (∀ y ∈ p, lessE y x = true) ∧ (∀ y ∈ q, lessE x y = true)
  | [], _, _ => ⟨[], [], rfl, (fun y hy => by cases hy), fun y hy => by cases hy⟩
  | a :: t, hs, hin => by
    obtain ⟨h1, h2⟩ := List.pairwise_cons.1 hs
    unfold inL at hin
    rw [List.any_cons, Bool.or_eq_false_iff] at hin
    rcases lessE_tri a x with h | h | h
    · obtain ⟨p, q, e, k1, k2⟩ := split_of h2 hin.2
      refine ⟨a :: p, q, by rw [e]; rfl, fun y hy => ?_, k2⟩
      rcases List.mem_cons.1 hy with rfl | hy
      · exact h
      · exact k1 y hy
    · refine ⟨[], a :: t, rfl, (fun y hy => by cases hy), fun y hy => ?_⟩
      rcases List.mem_cons.1 hy with rfl | hy
      · exact h
      · exact lessE_trans h (h1 y hy)
    · rw [h] at hin
      cases hin.1
theorem insL_sort {o : List En} {x : En} (hs : SortL o) (hin : inL o x = false) : SortL (insL o x) := by
  obtain ⟨p, q, e, h1, h2⟩ := split_of hs hin
  subst e
  rw [insL_app (fun y hy => lessE_asym (h1 y hy)) h2]
  obtain ⟨s1, s2, s3⟩ := List.pairwise_append.1 hs
  exact List.pairwise_append.2 ⟨s1, List.pairwise_cons.2 ⟨h2, s2⟩, fun a ha b hb => by
    rcases List.mem_cons.1 hb with rfl | hb
    · exact h1 a ha
    · exact s3 a ha b hb⟩
/-- Entries in order go in behind one another. -/
theorem refIns_sort : ∀ {q p : List En}, SortL (p ++ q) → refIns p q = some (p ++ q)
  | [], p, _ => by rw [List.append_nil]; rfl
  | x :: xs, p, hs => by
    have h1 : ∀ y ∈ p, lessE y x = true := fun y hy => (List.pairwise_append.1 hs).2.2 y hy x (by simp)
    have h2 : inL p x = false := by
      unfold inL
      rw [List.any_eq_false]
      intro y hy k
      have := (sameK_not k).1
      rw [h1 y hy] at this
      cases this
    have h3 : insL p x = p ++ [x] := by
      have := insL_app (p := p) (q := []) (x := x) (fun y hy => lessE_asym (h1 y hy)) (fun y hy => by cases hy)
      simpa using this
    rw [refIns, h2, if_neg (by simp), h3]
    have e : p ++ x :: xs = (p ++ [x]) ++ xs := by simp
    rw [e] at hs ⊢
    exact refIns_sort hs
/-- In form, and not too long. -/
def okE (x : En) : Bool := decide (checkE [x] = 0)
theorem okE_iff {x : En} : okE x = true ↔ longE x = false ∧ formE x = true := by
  unfold okE checkE
  rw [decide_eq_true_eq]
  simp only [List.any_cons, List.any_nil, Bool.or_false, List.all_cons, List.all_nil, Bool.and_true]
  cases longE x <;> cases formE x <;> simp
theorem checkE_ok {es : List En} (h : ∀ x ∈ es, okE x = true) : checkE es = 0 := by
  unfold checkE
  rw [if_neg, if_pos]
  · rw [List.all_eq_true]
    exact fun x hx => (okE_iff.1 (h x hx)).2
  · rw [List.any_eq_true]
    rintro ⟨x, hx, k⟩
    rw [(okE_iff.1 (h x hx)).1] at k
    cases k
/-- The reference's Sorted. -/
def srt : List En → List En → List En
  | o, [] => o
  | o, x :: xs => if okE x && !inL o x then srt (insL o x) xs else srt o xs
theorem srt_snoc : ∀ (o xs : List En) (x : En), srt o (xs ++ [x]) = if okE x && !inL (srt o xs) x then insL (srt o xs) x else srt o xs
  | o, [], x => by simp [srt]
  | o, y :: ys, x => by
    simp only [List.cons_append, srt]
    split
    · exact srt_snoc _ ys x
    · exact srt_snoc _ ys x
theorem srt_prop : ∀ {xs o : List En}, SortL o → (∀ x ∈ o, okE x = true) → SortL (srt o xs) ∧ (∀ x ∈ srt o xs, okE x = true)
  | [], o, h1, h2 => ⟨h1, h2⟩
  | x :: xs, o, h1, h2 => by
    unfold srt
    split
    · next h =>
      rw [Bool.and_eq_true, Bool.not_eq_true'] at h
      exact srt_prop (insL_sort h1 h.2) (fun y hy => by
        rcases insL_mem' hy with rfl | hy
        · exact h.1
        · exact h2 y hy)
    · exact srt_prop h1 h2
where
  insL_mem' {l : List En} {x y : En} (h : y ∈ insL l x) : y = x ∨ y ∈ l := by
    unfold insL at h
    rcases List.mem_append.1 h with h | h
    · exact .inr (List.mem_of_mem_take h)
    · rcases List.mem_cons.1 h with h | h
      · exact .inl h
      · exact .inr (List.mem_of_mem_drop h)
theorem szL_insL (l : List En) (x : En) : szL (insL l x) = szL l + wE x := by
  unfold insL
  have := szL_app (l.take (posI l x l.length)) (l.drop (posI l x l.length))
  rw [List.take_append_drop] at this
  rw [szL_app, szL]
  omega
theorem srt_len : ∀ (xs o : List En), (srt o xs).length ≤ o.length + xs.length ∧ szL (srt o xs) ≤ szL o + szL xs
  | [], o => ⟨by simp [srt], by simp [srt, szL]⟩
  | x :: xs, o => by
    unfold srt
    split
    · have := srt_len xs (insL o x)
      rw [insL_len, szL_insL] at this
      simp only [List.length_cons, szL]
      omega
    · have := srt_len xs o
      simp only [List.length_cons, szL]
      omega
theorem srt_mem : ∀ {xs o : List En}, ∀ x ∈ srt o xs, x ∈ o ∨ x ∈ xs
  | [], o, x, h => .inl h
  | y :: ys, o, x, h => by
    unfold srt at h
    split at h
    · rcases srt_mem x h with q | q
      · rcases srt_prop.insL_mem' q with q | q
        · exact .inr (by simp [q])
        · exact .inl q
      · exact .inr (by simp [q])
    · rcases srt_mem x h with q | q
      · exact .inl q
      · exact .inr (by simp [q])
end Go.Proofs.Ytgigohfjioifaaa
namespace Go.Proofs.Ytgigohfjioifaaa
open Go Go.RowKit

/-- How many bytes of the i-th key are left out. -/
def shB (ev : Nat) (es : List En) (i : Nat) : Nat := if i % ev = 0 then 0 else match es[i - 1]?, es[i]? with
  | some a, some b => comB a.key b.key
  | _, _ => 0
/-- The bytes of the first i entries; the places of the restarts among them. -/
def outB (ev : Nat) (es : List En) : Nat → List UInt8
  | 0 => []
  | i + 1 => match es[i]? with
    | some x => outB ev es i ++ entB (shB ev es i) x
    | none => outB ev es i
def rsB (ev : Nat) (es : List En) : Nat → List UInt8
  | 0 => []
  | i + 1 => if i % ev = 0 then rsB ev es i ++ fourB (outB ev es i).length else rsB ev es i
def fullB (ev : Nat) (es : List En) : List UInt8 := outB ev es es.length ++ rsB ev es es.length ++ fourB ((rsB ev es es.length).length / 4)
theorem outB_step {ev i : Nat} {es : List En} {x : En} (h : es[i]? = some x) : outB ev es (i + 1) = outB ev es i ++ entB (shB ev es i) x := by rw [outB, h]
theorem rsB_len (ev : Nat) (es : List En) : ∀ i, (rsB ev es i).length ≤ 4 * i
  | 0 => by simp [rsB]
  | i + 1 => by
    have := rsB_len ev es i
    unfold rsB
    split
    · simp only [List.length_append, fourB_len]; omega
    · omega
theorem outB_mono (ev : Nat) (es : List En) (i : Nat) : ∀ j, i ≤ j → (outB ev es i).length ≤ (outB ev es j).length := by
  intro j
  induction j with
  | zero =>
    intro h
    obtain rfl : i = 0 := by omega
    exact Nat.le_refl _
  | succ j ih =>
    intro h
    by_cases e : i = j + 1
    · rw [e]; exact Nat.le_refl _
    · have h1 := ih (by omega)
      refine Nat.le_trans h1 ?_
      conv => rhs; unfold outB
      split
      · rw [List.length_append]; omega
      · exact Nat.le_refl _
theorem shB_le {ev i : Nat} {es : List En} {x : En} (h : es[i]? = some x) : shB ev es i ≤ x.key.length := by
  unfold shB
  rw [h]
  split
  · omega
  · split
    · rename_i a b h1 h2
      injection h2 with h2
      subst h2
      exact (comB_le _ _).2
    · omega
theorem entB_len {s : Nat} {x : En} (h0 : s ≤ x.key.length) (h1 : x.key.length ≤ 1024) (h2 : x.val.length ≤ 65536) (h3 : U64 x.seq) : (entB s x).length ≤ 66700 := by
  have p1 := putU_len64 s (show s < B64 by unfold B64; omega)
  have p2 := putU_len64 (x.key.length - s) (show x.key.length - s < B64 by unfold B64; omega)
  have p3 := putU_len64 x.seq (show x.seq < B64 from h3)
  have p5 := putU_len64 x.val.length (show x.val.length < B64 by unfold B64; omega)
  unfold entB
  simp only [List.length_append, List.length_cons, List.length_nil, List.length_drop]
  omega
theorem dj_none (B : Option Addr) : Dj none B := fun b h => by cases h
/-- The two rows that are made: the entries' bytes, the restarts' places. -/
def CS (w0 : World) (O : Option Addr) (oc : Nat) (out : List UInt8) (R : Option Addr) (rc : Nat) (rs : List UInt8) (wr : World) : Prop :=
  Own 5 wr w0.heap.size O out.length oc out ∧ Own 5 wr w0.heap.size R rs.length rc rs ∧ Dj O R ∧ Below w0.heap.size w0 wr
theorem CS.below {w0 wr wx : World} {O R : Option Addr} {oc rc : Nat} {out rs : List UInt8} (h : CS w0 O oc out R rc rs wr) (hb : Below wr.heap.size wr wx) : CS w0 O oc out R rc rs wx := by
  obtain ⟨h1, h2, h3, h4⟩ := h
  exact ⟨h1.below hb, h2.below hb, h3, h4.trans (hb.mono h4.size)⟩
theorem CS.left {w0 wr wx : World} {O R O' : Option Addr} {oc rc oc' : Nat} {out out' rs : List UInt8} (h : CS w0 O oc out R rc rs wr) (ho : Own 5 wx w0.heap.size O' out'.length oc' out') (hg : Grow wr wx O O') : CS w0 O' oc' out' R rc rs wx := by
  obtain ⟨h1, h2, h3, h4⟩ := h
  exact ⟨ho, hg.kept h2 h3, hg.dj h2 h3, h4.trans (hg.below h1 h4.size)⟩
theorem CS.right {w0 wr wx : World} {O R R' : Option Addr} {oc rc rc' : Nat} {out rs rs' : List UInt8} (h : CS w0 O oc out R rc rs wr) (ho : Own 5 wx w0.heap.size R' rs'.length rc' rs') (hg : Grow wr wx R R') : CS w0 O oc out R' rc' rs' wx := by
  obtain ⟨h1, h2, h3, h4⟩ := h
  exact ⟨hg.kept h1 h3.symm, ho, (hg.dj h1 h3.symm).symm, h4.trans (hg.below h2 h4.size)⟩
theorem ClG.off {w0 w w' : World} {g n c : Nat} {us : Array Value} {A A' : Option Addr} {xs : List UInt8} (h : Cl w g us 33) (ho : Own 5 w w0.heap.size A n c xs) (hne : 33 ≠ 5) (hg : Grow w w' A A') : Cl w' g us 33 :=
  ClG.grown h hg.1 (fun e2 => by
    rcases ho.2 with ⟨k1, _⟩ | ⟨g2, cap2, cur2, k1, _, kg, _⟩
    · injection k1 with k1
      rw [k1] at e2
      cases e2
    · injection k1 with k1
      rw [k1] at e2
      injection e2 with e2
      simp only at e2
      subst e2
      rw [h] at kg
      injection kg with kg
      injection kg with _ kg _
      exact hne kg)
/-- What contents hands back: all that is sealed, or more than a record may have. -/
def RetCt (ev : Nat) (es : List En) (w : World) (e : Ending) (w' : World) : Prop :=
  ∃ A c ys, e = .returned (.slice A ys.length c) ∧ Own 5 w' w.heap.size A ys.length c ys ∧ Below w.heap.size w w' ∧ ys.length ≤ 100000000 ∧ ((1048576 < ys.length ∧ ys.length ≤ (fullB ev es).length) ∨ ys = fullB ev es)
set_option maxRecDepth 100000 in
set_option maxHeartbeats 16000000 in
theorem contents_any {w : World} {A : Option Addr} {n c : Nat} {es : List En} (h : REs w A n es) (hn : n ≤ 16777216) (hs : ∀ x ∈ es, x.key.length ≤ 1024 ∧ x.val.length ≤ 65536) (ev : Nat) (he : 1 ≤ ev) (he2 : ev ≤ 9223372036854775807) :
    Calls Try.prog 78 #[.int .i64 (ev : Int), .slice A n c] w (RetCt ev es w) := by
  have HL := Lib.hid h.len
  have HR := Lib.hid h
  have HS := Lib.hid hs
  have HW := Lib.hid h.wf
  clear h hs
  go_enter Try.func78, Try.ntmps78
  go_wp2_with fail
  go_loopw [5, 6, 12] (fun s5 s6 s12 wr => ∃ (i on rn : Nat) (O R : Option Addr) (oc rc : Nat), i ≤ n ∧ s12 = .int .i64 (i : Int) ∧ on = (outB ev es i).length ∧ rn = (rsB ev es i).length ∧ s5 = .slice O on oc ∧ s6 = .slice R rn rc ∧ on ≤ 1048576 ∧ CS w O oc (outB ev es i) R rc (rsB ev es i) wr) (fun _ _ s _ => n - (intOf s).toNat)
  case atStart => exact ⟨0, 0, 0, none, none, 0, 0, Nat.zero_le _, rfl, rfl, rfl, rfl, rfl, by omega, Own.nil _ _ _, Own.nil _ _ _, dj_none _, Below.refl _ _⟩
  case round =>
    obtain ⟨i, on, rn, O, R, oc, rc, hi, rfl, hon, hrn, rfl, rfl, hol, hC⟩ := hrel
    have hrl := rsB_len ev es i
    have hrn4 : rn ≤ 4 * i := by omega
    have HON := Lib.hid hon
    have HRN := Lib.hid hrn
    have HC := Lib.hid hC
    have hbC := hC.2.2.2
    clear hon hrn hC hrl
    by_cases hlt : i < n
    · obtain ⟨b, off, hAb, hbl⟩ := HR.out.pos (by omega)
      subst hAb
      obtain ⟨x, v0, v1, v2, v3, hx, c0', c1', c2', c3', hev⟩ := HR.out.at_ i hlt
      have c0 := (hbC.cell (p := ⟨b, off + i * 4, none⟩) hbl).trans c0'
      have c1 := (hbC.cell (p := ⟨b, off + i * 4 + 1, none⟩) hbl).trans c1'
      have c2 := (hbC.cell (p := ⟨b, off + i * 4 + 2, none⟩) hbl).trans c2'
      have c3 := (hbC.cell (p := ⟨b, off + i * 4 + 3, none⟩) hbl).trans c3'
      have HXI := Lib.hid hx
      have HXS := Lib.hid (HS.out x (List.mem_of_getElem? hx))
      have HXW := Lib.hid (HW.out x (List.mem_of_getElem? hx)).1
      have HEV := Lib.hid hev
      obtain ⟨K, kn, kc, V, vn, vc, rfl, rfl, rfl, rfl, r0, r3, _⟩ := hev.parts
      have HR0 := Lib.hid r0
      obtain ⟨m, hm⟩ : ∃ m, m = i % ev := ⟨_, rfl⟩
      have e1 : ((i : Int) % (ev : Int)) = (m : Int) := by rw [hm]; push_cast; rfl
      have hml : m < 9223372036854775807 := by have := Nat.mod_lt i (show 0 < ev by omega); omega
      have HM := Lib.hid hm
      obtain ⟨sh, hsh⟩ : ∃ sh, sh = shB ev es i := ⟨_, rfl⟩
      have HSH := Lib.hid hsh
      obtain ⟨U, hU⟩ : ∃ U, U = wr.alloc (.cells #[.slice K kn kc, .int .u64 (x.seq : Int), .int .u8 (x.kind : Int), .slice V vn vc] 33) := ⟨_, rfl⟩
      obtain ⟨g, hg⟩ : ∃ g, g = wr.heap.size := ⟨_, rfl⟩
      have bU : Below wr.heap.size wr U := by rw [hU]; exact (Below.refl _ _).alloc (Nat.le_refl _) _
      have HCU := Lib.hid (HC.out.below bU)
      have kU : Cl U g #[.slice K kn kc, .int .u64 (x.seq : Int), .int .u8 (x.kind : Int), .slice V vn vc] 33 := by rw [hU, hg]; exact Cl.new _ _ _
      have HKU := Lib.hid kU
      have hwU : w.heap.size ≤ U.heap.size := HCU.out.2.2.2.size
      clear hx hev r0 r3 hm hsh bU kU c0' c1' c2' c3'
      go_upto_if 20 with (fail)
      rw [← hU, ← hg]
      have HU := Lib.hid hU
      have HG := Lib.hid hg
      clear hU hg
      obtain ⟨rs2, hrs2⟩ : ∃ rs2, rs2 = rsB ev es (i + 1) := ⟨_, rfl⟩
      obtain ⟨rn2, hrn2⟩ : ∃ rn2, rn2 = rs2.length := ⟨_, rfl⟩
      have HRS2 := Lib.hid hrs2
      have HRN2 := Lib.hid hrn2
      clear hrs2 hrn2
      go_cut [6, 9] from 17 to 34 (fun s6 s9 wx => ∃ (R' : Option Addr) (rc' : Nat), s6 = .slice R' rn2 rc' ∧ s9 = .int .i64 (sh : Int) ∧ CS w O oc (outB ev es i) R' rc' rs2 wx ∧ Cl wx g #[.slice K kn kc, .int .u64 (x.seq : Int), .int .u8 (x.kind : Int), .slice V vn vc] 33)
      case first =>
        by_cases hm0 : m = 0
        · subst hm0
          have hrs : rs2 = rsB ev es i ++ fourB on := by rw [HRS2.out, rsB, if_pos HM.out.symm, ← HON.out]
          have hsh0 : sh = 0 := by rw [HSH.out, shB, if_pos HM.out.symm]
          subst hsh0
          have hR' := HCU.out.2.1
          rw [← HRN.out] at hR'
          have HAW := Lib.hid (appendWord_any R rn rc (rsB ev es i) w.heap.size on U hR' hwU (by omega) (by omega))
          have HRS := Lib.hid hrs
          clear hrs hR'
          go_wp2_with fail
          with_reducible refine HAW.out.mono ?_
          rintro e wx ⟨R', rc', rfl, oR, gR⟩
          have hln : rn + (fourB on).length = rn2 := by rw [HRN2.out, HRS.out, List.length_append, ← HRN.out]
          rw [hln] at oR ⊢
          rw [← HRS.out] at oR
          have hcs : CS w O oc (outB ev es i) R' rc' rs2 wx := HCU.out.right (by rw [← HRN2.out]; exact oR) gR
          have hkx : Cl wx g #[.slice K kn kc, .int .u64 (x.seq : Int), .int .u8 (x.kind : Int), .slice V vn vc] 33 := ClG.off HKU.out HCU.out.2.1 (by decide) gR
          have HF := Lib.hid (And.intro hcs hkx)
          clear oR gR hcs hkx hln
          go_wp2_with fail
          go_meet
          case rel => exact ⟨R', rc', by first | rfl | simp, by first | rfl | simp, HF.out.1, HF.out.2⟩
        · have t1 : ((m : Int) == 0) = false := by simp; omega
          have hrs : rs2 = rsB ev es i := by rw [HRS2.out, rsB, if_neg (by rw [← HM.out]; exact hm0)]
          obtain ⟨j, hj⟩ : ∃ j, j = i - 1 := ⟨_, rfl⟩
          have hi0 : 0 < i := by
            rcases Nat.eq_zero_or_pos i with h0 | h0
            · exact absurd (by rw [HM.out, h0, Nat.zero_mod]) hm0
            · exact h0
          obtain ⟨y, u0, u1, u2, u3, hy, d0', d1', d2', d3', hew⟩ := HR.out.at_ j (by omega)
          obtain ⟨L, ln, lc, _, _, _, hu0, _, _, _, r0', _⟩ := hew.parts
          subst hu0
          have hsh2 : sh = comB y.key x.key := by
            rw [HSH.out, shB, if_neg (by rw [← HM.out]; exact hm0), ← hj, hy, HXI.out]
          have hsy := HS.out y (List.mem_of_getElem? hy)
          have hkn1 : kn ≤ 1099511627776 := by have := HXS.out.1; have := HR0.out.len; omega
          have hln1 : ln ≤ 1099511627776 := by have := r0'.len; omega
          have d0 : U.cell? ⟨b, off + j * 4, none⟩ = some (.slice L ln lc) := (HCU.out.2.2.2.cell (p := ⟨b, off + j * 4, none⟩) hbl).trans d0'
          have k0 := HKU.out.c4.1
          have e2 : IntKind.i64.wrap ((i : Int) - 1) = (j : Int) := by rw [IntWalk.i64_in _ (by omega)]; omega
          have hjn : j < n := by omega
          have HCM : Hid (∀ q, Calls Try.prog 107 #[.slice L ln lc, .slice K kn kc] (U.drewN q) (RetCo (U.drewN q) sh)) := Lib.hid (fun q => by
            rw [hsh2]
            exact common_any L K ln kn lc kc y.key x.key _ ((r0'.below HCU.out.2.2.2).drewN q) ((HR0.out.below HCU.out.2.2.2).drewN q) hln1 hkn1)
          have HRS := Lib.hid hrs
          have HJ := Lib.hid hj
          have hoi : off + j * 4 + 0 = off + j * 4 := rfl
          clear hrs hj hy d0' d1' d2' d3' hew r0' hsh2 hsy hoi
          go_wp2_with fail
          go_quiet ((go_at_call 107; with_reducible exact Calls.quiet_of (HCM.out _)))
          have hcs : CS w O oc (outB ev es i) R rc rs2 (U.drewN nq) := by
            rw [HRS.out]
            exact HCU.out.below (below_drewN (Below.refl _ _) nq)
          have HF := Lib.hid (And.intro hcs (HKU.out.drewN nq))
          have hln : rn = rn2 := by rw [HRN2.out, HRS.out, ← HRN.out]
          subst hln
          clear hcs
          go_wp2_with fail
          go_meet
          case rel => exact ⟨R, rc, by first | rfl | simp, by first | rfl | simp, HF.out.1, HF.out.2⟩
      case rest =>
        obtain ⟨R', rc', rfl, rfl, hcs, hkx⟩ := hcut
        have hO := hcs.1
        rw [← HON.out] at hO
        have hxe := entB_len (s := sh) (x := x) (by rw [HSH.out]; exact shB_le HXI.out) HXS.out.1 HXS.out.2 HXW.out
        have HAE := Lib.hid (appendEntry_any HEV.out ⟨by have := HXS.out.1; omega, by have := HXS.out.2; omega⟩ sh (by rw [HSH.out]; exact shB_le HXI.out) O on oc (outB ev es i) hO hcs.2.2.2 (by omega))
        have hstep : outB ev es (i + 1) = outB ev es i ++ entB sh x := by rw [outB_step HXI.out, HSH.out]
        obtain ⟨ol, hol2⟩ : ∃ ol, ol = on + (entB sh x).length := ⟨_, rfl⟩
        have holn : ol = (outB ev es (i + 1)).length := by rw [hstep, List.length_append, ← HON.out, hol2]
        have hob : ol ≤ 1200000 := by omega
        have HOL := Lib.hid hol2
        have HOLN := Lib.hid holn
        have HST := Lib.hid hstep
        have HCS := Lib.hid hcs
        obtain ⟨k0, k1, k2, k3, _⟩ := hkx.c4
        have HG2 := Lib.hid hkx
        clear hO hcs hkx hxe hstep hol2 holn
        go_wp2_with fail
        with_reducible refine HAE.out.mono ?_
        rintro e w3 ⟨O', oc', rfl, oO, gO⟩
        rw [← HOL.out] at oO ⊢
        rw [← HST.out] at oO
        have hc3 : CS w O' oc' (outB ev es (i + 1)) R' rc' rs2 w3 := HCS.out.left (by rw [← HOLN.out]; exact oO) gO
        have HC3 := Lib.hid hc3
        clear oO gO hc3
        by_cases hbig : 1048576 < ol
        · go_wp2_with fail
          go_ret
          have h1 := HC3.out.1
          have h2 := HOLN.out
          unfold RetCt
          refine ⟨O', oc', _, by rw [h2]; rfl, h1, HC3.out.2.2.2, by omega, .inl ⟨by omega, ?_⟩⟩
          unfold fullB
          rw [List.length_append, List.length_append]
          have := outB_mono ev es (i + 1) es.length (by rw [HL.out]; omega)
          omega
        · go_wp2_with fail
          go_roundw
          case rel => exact ⟨i + 1, ol, rn2, O', R', oc', rc', by omega, by go_num, HOLN.out, by rw [HRN2.out, HRS2.out], rfl, rfl, by omega, by rw [← HRS2.out]; exact HC3.out⟩
          case measure => simp [intOf]; omega
    · obtain rfl : i = n := by omega
      have hsw := hbC.size
      have hO := HC.out.1
      rw [← HON.out] at hO
      have hRd := HC.out.2.1.rd
      rw [← HRN.out] at hRd
      have hDj := HC.out.2.2.1
      have HR2 := Lib.hid HC.out.2.1
      clear hbC
      go_wp2_with (at_builtin; refine wpList_appX _ rfl _ _ 22 rfl w.heap.size 5 Try.underlying22 info_u8 O on oc _ rfl hO R rn rc (rsB ev es i) rfl hRd ?_ ?_ ?_)
      · omega
      · exact hsw
      intro O2 oc2 w2 o2 g2
      obtain ⟨q, hq⟩ : ∃ q, q = rn / 4 := ⟨_, rfl⟩
      have e3 : (rn : Int) / 4 = (q : Int) := by rw [hq]; omega
      have hb2 : Below w.heap.size w w2 := HC.out.2.2.2.trans (g2.below HC.out.1 hsw)
      have hq2 : q ≤ 16777216 := by omega
      have HAW := Lib.hid (appendWord_any O2 (on + rn) oc2 _ w.heap.size q w2 o2 hb2.size (by omega) (by omega))
      have HQ := Lib.hid hq
      have HO2 := Lib.hid o2
      have HB2 := Lib.hid hb2
      clear hO hRd hDj g2 hq o2 hb2
      go_wp2_with fail
      with_reducible refine HAW.out.mono ?_
      rintro e w3 ⟨O3, oc3, rfl, o3, g3⟩
      have hb3 : Below w.heap.size w w3 := HB2.out.trans (g3.below HO2.out HB2.out.size)
      have hfull : (outB ev es i ++ rsB ev es i) ++ fourB q = fullB ev es := by
        unfold fullB
        rw [HL.out, HQ.out, ← HRN.out]
      rw [hfull] at o3
      have hlen : on + rn + (fourB q).length = (fullB ev es).length := by
        rw [← hfull, List.length_append, List.length_append, ← HON.out, ← HRN.out]
      have hl2 : (fullB ev es).length ≤ 100000000 := by
        rw [← hlen, fourB_len]; omega
      rw [hlen] at o3 ⊢
      have HF := Lib.hid (And.intro o3 (And.intro hb3 hl2))
      clear o3 g3 hb3 hfull hlen hl2
      go_wp2_with fail
      go_ret
      exact ⟨O3, oc3, _, rfl, HF.out.1, HF.out.2.1, HF.out.2.2, .inr rfl⟩
end Go.Proofs.Ytgigohfjioifaaa
namespace Go.Proofs.Ytgigohfjioifaaa
open Go Go.RowKit

/-- What the reference's Get answers: an entry's values as they lie in the list. -/
def RetGl (w : World) (o : Option En) (e : Ending) (w' : World) : Prop :=
  (o = none ∧ e = .returned (.tuple #[.agg #[.slice none 0 0, .int .u64 0, .int .u8 0, .slice none 0 0], .bool false]) ∧ Below w.heap.size w w') ∨
  ∃ x v0 v1 v2 v3, o = some x ∧ e = .returned (.tuple #[.agg #[v0, v1, v2, v3], .bool true]) ∧ EV w' x v0 v1 v2 v3 ∧ Below w.heap.size w w'
theorem findL_at {key : List UInt8} {at_ k : Nat} {es : List En} {x : En} (h : findL key at_ (es.take k) = none) (hx : es[k]? = some x) (hk : (eqB x.key key && decide (x.seq ≤ at_)) = true) : findL key at_ es = some x := by
  have hlt := (List.getElem?_eq_some_iff.1 hx).1
  have e : es = es.take k ++ x :: es.drop (k + 1) := by
    have hd : es.drop k = x :: es.drop (k + 1) := by rw [List.drop_eq_getElem_cons hlt, (List.getElem?_eq_some_iff.1 hx).2]
    rw [← hd, List.take_append_drop]
  unfold findL at h ⊢
  rw [e, List.find?_append, h, List.find?_cons, hk]
  rfl
theorem findL_snoc {key : List UInt8} {at_ k : Nat} {es : List En} {x : En} (h : findL key at_ (es.take k) = none) (hx : es[k]? = some x) (hk : (eqB x.key key && decide (x.seq ≤ at_)) = false) : findL key at_ (es.take (k + 1)) = none := by
  unfold findL at h ⊢
  rw [List.take_add_one, hx, List.find?_append, h]
  simp only [Option.toList, List.find?_cons, hk]
  rfl
set_option maxRecDepth 100000 in
set_option maxHeartbeats 4000000 in
theorem refGet_any {w : World} {A F : Option Addr} {n c fn fc at_ : Nat} {es : List En} {key : List UInt8} (h : REs w A n es) (hn : n ≤ 1099511627776) (hs : ∀ x ∈ es, SzE x) (hf : Rd w F fn key) (hfn : fn ≤ maxLen) :
    Calls Try.prog 66 #[.slice A n c, .slice F fn fc, .int .u64 (at_ : Int)] w (RetGl w (findL key at_ es)) := by
  obtain ⟨U, hU⟩ : ∃ U, U = w.alloc (.cells #[.slice none 0 0, .int .u64 0, .int .u8 0, .slice none 0 0] 33) := ⟨_, rfl⟩
  have bU : Below w.heap.size w U := by rw [hU]; exact (Below.refl _ _).alloc (Nat.le_refl _) _
  have ZU := Lib.hid (show Cl U w.heap.size #[.slice none 0 0, .int .u64 0, .int .u8 0, .slice none 0 0] 33 by rw [hU]; exact Cl.new _ _ _)
  have H1 := Lib.hid h
  have HF := Lib.hid (hf.below bU)
  have HLN := Lib.hid h.len
  have HS := Lib.hid hs
  have BU := Lib.hid bU
  clear h hs hf bU
  go_enter Try.func66, Try.ntmps66
  go_upto_region 1 with (fail)
  rw [← hU]
  clear hU
  go_wp2_with fail
  go_loopw [8] (fun s8 wr => ∃ k q : Nat, k ≤ n ∧ s8 = .int .i64 (k : Int) ∧ findL key at_ (es.take k) = none ∧ wr = U.drewN q) (fun s _ => n - (intOf s).toNat)
  case atStart => exact ⟨0, 0, Nat.zero_le _, rfl, rfl, rfl⟩
  case round =>
    obtain ⟨k, q, hk', rfl, hin, hX⟩ := hrel
    have hBr : Below U.heap.size U wr := by rw [hX]; exact below_drewN (Below.refl _ _) q
    have HBr := Lib.hid hBr
    have HX := Lib.hid hX
    have HIN := Lib.hid hin
    have HFR := Lib.hid (HF.out.below hBr)
    have ZR := Lib.hid (ZU.out.below hBr)
    have BWr := Lib.hid (belowT' BU.out hBr)
    have hR := H1.out.below BWr.out
    clear hX hin hBr
    by_cases hlt : k < n
    · obtain ⟨b, off, hAb, hbw⟩ := H1.out.pos (by omega)
      subst hAb
      obtain ⟨x, u0, u1, u2, u3, hx, c0', c1', c2', c3', hew⟩ := H1.out.at_ k hlt
      have hbl : b < wr.heap.size := Nat.lt_of_lt_of_le hbw BWr.out.size
      have c0 := (BWr.out.cell hbw).trans c0'
      have c1 := (BWr.out.cell hbw).trans c1'
      have c2 := (BWr.out.cell hbw).trans c2'
      have c3 := (BWr.out.cell hbw).trans c3'
      have hev := hew.below BWr.out
      obtain ⟨L, ln, lc, M, mn, mc, rfl, rfl, rfl, rfl, q0, _⟩ := hev.parts
      have hsx := HS.out x (List.mem_of_getElem? hx)
      have hln : ln ≤ maxLen := maxLen_e (by rw [← q0.len]; exact hsx.1)
      have HXK := Lib.hid hx
      have HEV := Lib.hid hew
      obtain ⟨z, hz⟩ : ∃ z, z = eqB x.key key := ⟨_, rfl⟩
      have HE : Hid (Calls Try.prog 46 #[.slice L ln lc, .slice F fn fc] wr (RetB wr z)) := Lib.hid (by rw [hz]; exact Equal_any _ _ _ _ _ _ x.key key _ q0 HFR.out hln hfn)
      have HSK : Hid ((eqB x.key key && decide (x.seq ≤ at_)) = (z && decide (x.seq ≤ at_))) := Lib.hid (by rw [hz])
      clear hR hx hev hew q0 hz c0' c1' c2' c3'
      cases z with
      | true =>
        by_cases hle : x.seq ≤ at_
        · have HFD : Hid (findL key at_ es = some x) := Lib.hid (findL_at HIN.out HXK.out (by rw [HSK.out]; simpa using hle))
          go_wp2_with fail
          with_reducible refine HE.out.mono ?_
          rintro e w1 ⟨rfl, q1, rfl⟩
          have b1 : Below wr.heap.size wr (wr.drewN q1) := below_drewN (Below.refl _ _) q1
          obtain ⟨w2, hw2⟩ : ∃ w2, w2 = wr.drewN q1 := ⟨_, rfl⟩
          rw [← hw2] at b1 ⊢
          have B2 := Lib.hid (belowT' BWr.out b1)
          have Z2 := Lib.hid (ZR.out.below b1)
          have d0 := (b1.cell hbl).trans c0
          have d1 := (b1.cell hbl).trans c1
          have d2 := (b1.cell hbl).trans c2
          have d3 := (b1.cell hbl).trans c3
          obtain ⟨g0, g1, g2, g3, k0, k1, k2, k3⟩ := Z2.out.c4
          clear c0 c1 c2 c3 b1 hw2
          go_wp2_with fail
          obtain ⟨X, hX⟩ : ∃ X, X = ((((w2.setCell ⟨w.heap.size, 0, none⟩ (.slice L ln lc)).setCell ⟨w.heap.size, 1, none⟩ (.int .u64 (x.seq : Int))).setCell ⟨w.heap.size, 2, none⟩ (.int .u8 (x.kind : Int))).setCell ⟨w.heap.size, 3, none⟩ (.slice M mn mc)) := ⟨_, rfl⟩
          rw [← hX]
          have zX : Cl X w.heap.size #[.slice L ln lc, .int .u64 (x.seq : Int), .int .u8 (x.kind : Int), .slice M mn mc] 33 := by rw [hX]; exact Z2.out.put4 rfl _ _ _ _
          have bX : Below w.heap.size w X := by rw [hX]; exact below_set (below_set (below_set (below_set B2.out 0 _ (Nat.le_refl _)) 1 _ (Nat.le_refl _)) 2 _ (Nat.le_refl _)) 3 _ (Nat.le_refl _)
          have EVX : EV X x (.slice L ln lc) (.int .u64 (x.seq : Int)) (.int .u8 (x.kind : Int)) (.slice M mn mc) := HEV.out.below bX
          obtain ⟨x0, x1, x2, x3, _⟩ := zX.c4
          refine bodyPost_ret (v := .tuple #[.agg #[.slice L ln lc, .int .u64 (x.seq : Int), .int .u8 (x.kind : Int), .slice M mn mc], .bool true]) (by simp [results, Try.results66, go_sem, x0, x1, x2, x3]; try rfl) rfl (.inr ⟨x, _, _, _, _, HFD.out, rfl, EVX, bX⟩)
        · have HNX : Hid (findL key at_ (es.take (k + 1)) = none) := Lib.hid (findL_snoc HIN.out HXK.out (by rw [HSK.out]; simpa using hle))
          have BN : Hid (∀ q1, wr.drewN q1 = U.drewN (q + q1)) := Lib.hid (fun q1 => by rw [HX.out, World.drewN_drewN])
          go_wp2_with fail
          with_reducible refine HE.out.mono ?_
          rintro e w1 ⟨rfl, q1, rfl⟩
          go_wp2_with fail
          go_roundw
          case rel => exact ⟨k + 1, q + q1, by omega, by go_num, HNX.out, BN.out q1⟩
          case measure => simp [intOf]; omega
      | false =>
        have HNX : Hid (findL key at_ (es.take (k + 1)) = none) := Lib.hid (findL_snoc HIN.out HXK.out (by rw [HSK.out]; rfl))
        have BN : Hid (∀ q1, wr.drewN q1 = U.drewN (q + q1)) := Lib.hid (fun q1 => by rw [HX.out, World.drewN_drewN])
        go_wp2_with fail
        with_reducible refine HE.out.mono ?_
        rintro e w1 ⟨rfl, q1, rfl⟩
        go_wp2_with fail
        go_roundw
        case rel => exact ⟨k + 1, q + q1, by omega, by go_num, HNX.out, BN.out q1⟩
        case measure => simp [intOf]; omega
    · have htk : es.take k = es := List.take_of_length_le (by have := HLN.out; omega)
      have HFD : Hid (findL key at_ es = none) := Lib.hid (by rw [← htk]; exact HIN.out)
      obtain ⟨g0, g1, g2, g3, k0, k1, k2, k3⟩ := ZR.out.c4
      clear htk hR
      go_wp2_with fail
      obtain ⟨X, hX⟩ : ∃ X, X = ((((wr.setCell ⟨w.heap.size, 0, none⟩ (.slice none 0 0)).setCell ⟨w.heap.size, 1, none⟩ (.int .u64 0)).setCell ⟨w.heap.size, 2, none⟩ (.int .u8 0)).setCell ⟨w.heap.size, 3, none⟩ (.slice none 0 0)) := ⟨_, rfl⟩
      rw [← hX]
      have zX : Cl X w.heap.size #[.slice none 0 0, .int .u64 0, .int .u8 0, .slice none 0 0] 33 := by rw [hX]; exact ZR.out.put4 rfl _ _ _ _
      have bX : Below w.heap.size w X := by rw [hX]; exact below_set (below_set (below_set (below_set BWr.out 0 _ (Nat.le_refl _)) 1 _ (Nat.le_refl _)) 2 _ (Nat.le_refl _)) 3 _ (Nat.le_refl _)
      obtain ⟨x0, x1, x2, x3, _⟩ := zX.c4
      refine bodyPost_ret (v := .tuple #[.agg #[.slice none 0 0, .int .u64 0, .int .u8 0, .slice none 0 0], .bool false]) (by simp [results, Try.results66, go_sem, x0, x1, x2, x3]; try rfl) rfl (.inl ⟨HFD.out, rfl, bX⟩)
end Go.Proofs.Ytgigohfjioifaaa
namespace Go.Proofs.Ytgigohfjioifaaa
open Go Go.RowKit

/-- 'All memory that these values name lies in good blocks.' -/
def GV (G : Nat → Prop) (vs : List Value) : Prop := ∀ A m c g, Value.slice A m c ∈ vs → 0 < m → blk A = some g → G g
/-- 'The slice of n entries at A reads as these, and its memory lies in good blocks.' -/
def RG (G : Nat → Prop) (w : World) (A : Option Addr) (n : Nat) (es : List En) : Prop :=
  es.length = n ∧ ∃ vs, EVs w es vs ∧ RdV w A (n * 4) vs ∧ GV G vs ∧ (0 < n → ∀ g, blk A = some g → G g)
/-- 'What is good and was there stands.' -/
def FrG (G : Nat → Prop) (w w' : World) : Prop := w.heap.size ≤ w'.heap.size ∧ ∀ b, b < w.heap.size → G b → w'.heap[b]? = w.heap[b]?
section
variable {G H : Nat → Prop} {w w' w2 : World} {A : Option Addr} {n : Nat} {es gs : List En} {vs us : List Value}
theorem GV.app (h1 : GV G vs) (h2 : GV G us) : GV G (vs ++ us) := fun A m c g hv => by
  rcases List.mem_append.1 hv with h | h
  · exact h1 A m c g h
  · exact h2 A m c g h
theorem GV.nil : GV G [] := fun A m c g hv => by cases hv
theorem GV.sub (h : GV G vs) (hs : ∀ u ∈ us, u ∈ vs) : GV G us := fun A m c g hv => h A m c g (hs _ hv)
theorem GV.mono (h : GV G vs) (hs : ∀ g, G g → H g) : GV H vs := fun A m c g hv h0 hb => hs g (h A m c g hv h0 hb)
theorem RG.res (h : RG G w A n es) : REs w A n es := by
  obtain ⟨h1, vs, h2, h3, _⟩ := h
  exact REs.mk h2 h3 h1
theorem RG.len (h : RG G w A n es) : es.length = n := h.1
theorem RG.nil (G : Nat → Prop) (w : World) (A : Option Addr) : RG G w A 0 [] := ⟨rfl, [], rfl, RdV.nil _ _, GV.nil, fun h => absurd h (by omega)⟩
theorem RG.below (h : RG G w A n es) (hb : Below w.heap.size w w') : RG G w' A n es := by
  obtain ⟨h1, vs, h2, h3, h4⟩ := h
  exact ⟨h1, vs, h2.below hb, h3.below hb, h4⟩
theorem FrG.refl (G : Nat → Prop) (w : World) : FrG G w w := ⟨Nat.le_refl _, fun _ _ _ => rfl⟩
theorem FrG.trans (h : FrG G w w') (k : FrG G w' w2) : FrG G w w2 := ⟨Nat.le_trans h.1 k.1, fun b hb hg => (k.2 b (Nat.lt_of_lt_of_le hb h.1) hg).trans (h.2 b hb hg)⟩
theorem FrG.of_below (h : Below w.heap.size w w') : FrG G w w' := ⟨h.size, fun b hb _ => h.block b hb⟩
theorem FrG.of_grown {row : Option Nat} (h : w.grownBy w' row) (hr : ∀ g, row = some g → ¬ G g) : FrG G w w' := by
  obtain ⟨_, _, _, h4, h5⟩ := h
  exact ⟨h4, fun b hb hg => h5 b hb (fun e => hr b e.symm hg)⟩
theorem cell_of_heap {p : Addr} (h : w'.heap[p.block]? = w.heap[p.block]?) : w'.cell? p = w.cell? p := by
  unfold World.cell?
  rw [h]
theorem rd_good {xs : List UInt8} (h : Rd w A n xs) (hg : 0 < n → ∀ g, blk A = some g → G g) (hf : FrG G w w') : Rd w' A n xs := by
  refine ⟨h.1, fun hn => ?_⟩
  obtain ⟨b, off, rfl, h2, h3⟩ := h.2 hn
  exact ⟨b, off, rfl, Nat.lt_of_lt_of_le h2 hf.1, fun i x hx => (cell_of_heap (p := ⟨b, off + i, none⟩) (hf.2 b h2 (hg hn b rfl))).trans (h3 i x hx)⟩
theorem rdv_good (h : RdV w A n vs) (hg : 0 < n → ∀ g, blk A = some g → G g) (hf : FrG G w w') : RdV w' A n vs := by
  refine ⟨h.1, fun hn => ?_⟩
  obtain ⟨b, off, rfl, h2, h3⟩ := h.2 hn
  exact ⟨b, off, rfl, Nat.lt_of_lt_of_le h2 hf.1, fun i x hx => (cell_of_heap (p := ⟨b, off + i, none⟩) (hf.2 b h2 (hg hn b rfl))).trans (h3 i x hx)⟩
theorem ev_good {e : En} {v0 v1 v2 v3 : Value} (h : EV w e v0 v1 v2 v3) (hg : GV G [v0, v1, v2, v3]) (hf : FrG G w w') : EV w' e v0 v1 v2 v3 := by
  obtain ⟨h1, h2, h3, h4, ⟨K, kn, kc, rfl, r0, c0, d0⟩, ⟨V, vn, vc, rfl, r3, c3, d3⟩⟩ := h
  exact ⟨h1, h2, h3, h4, ⟨K, kn, kc, rfl, rd_good r0 (fun h0 g hb => hg K kn kc g (by simp) h0 hb) hf, c0, d0⟩, ⟨V, vn, vc, rfl, rd_good r3 (fun h0 g hb => hg V vn vc g (by simp) h0 hb) hf, c3, d3⟩⟩
theorem evs_good (hf : FrG G w w') : ∀ {es : List En} {vs : List Value}, EVs w es vs → GV G vs → EVs w' es vs
  | [], _, h, _ => h
  | _ :: _, _, ⟨v0, v1, v2, v3, r, e, h1, h2⟩, hg => ⟨v0, v1, v2, v3, r, e, ev_good h1 (hg.sub (fun u hu => by rw [e]; simp only [List.mem_cons, List.not_mem_nil, or_false] at hu ⊢; rcases hu with h | h | h | h <;> simp [h])) hf, evs_good hf h2 (hg.sub (fun u hu => by rw [e]; simp [hu]))⟩
/-- Behind whatever leaves the good blocks. -/
theorem RG.good (h : RG G w A n es) (hf : FrG G w w') : RG G w' A n es := by
  obtain ⟨h1, vs, h2, h3, h4, h5⟩ := h
  exact ⟨h1, vs, evs_good hf h2 h4, rdv_good h3 (fun h0 => h5 (by omega)) hf, h4, h5⟩
theorem ev_mem {e : En} {v0 v1 v2 v3 : Value} (h : EV w e v0 v1 v2 v3) {B : Option Addr} {m c : Nat} (hv : Value.slice B m c ∈ [v0, v1, v2, v3]) (h0 : 0 < m) {g : Nat} (hb : blk B = some g) : g < w.heap.size := by
  obtain ⟨K, kn, kc, V, vn, vc, rfl, rfl, rfl, rfl, r0, r3, _⟩ := h.parts
  simp only [List.mem_cons, List.not_mem_nil, or_false] at hv
  rcases hv with e | e | e | e
  · injection e with e1 e2 e3
    subst e1 e2
    obtain ⟨b, off, rfl, hl⟩ := r0.pos h0
    injection hb with hb
    rw [← hb]; exact hl
  · cases e
  · cases e
  · injection e with e1 e2 e3
    subst e1 e2
    obtain ⟨b, off, rfl, hl⟩ := r3.pos h0
    injection hb with hb
    rw [← hb]; exact hl
theorem evs_lt : ∀ {es : List En} {vs : List Value}, EVs w es vs → GV (fun g => g < w.heap.size) vs
  | [], _, h => by rw [h]; exact GV.nil
  | _ :: _, _, ⟨v0, v1, v2, v3, r, e, h1, h2⟩ => by
    rw [e]
    exact GV.app (vs := [v0, v1, v2, v3]) (fun A m c g hv h0 hb => ev_mem h1 hv h0 hb) (evs_lt h2)
/-- What is read lies in blocks that are there. -/
theorem REs.lt (h : REs w A n es) : RG (fun g => g < w.heap.size) w A n es := by
  obtain ⟨h1, vs, h2, h3⟩ := h
  refine ⟨h1, vs, h2, h3, evs_lt h2, fun h0 g hb => ?_⟩
  obtain ⟨b, off, rfl, hl⟩ := h3.pos (by omega)
  injection hb with hb
  rw [← hb]; exact hl
theorem RG.mono (h : RG G w A n es) (hs : ∀ g, G g → H g) : RG H w A n es := by
  obtain ⟨h1, vs, h2, h3, h4, h5⟩ := h
  exact ⟨h1, vs, h2, h3, h4.mono hs, fun h0 g hb => hs g (h5 h0 g hb)⟩
theorem RG.at_ {b off : Nat} (h : RG G w (some ⟨b, off, none⟩) n es) (k : Nat) (hk : k < n) :
    ∃ e v0 v1 v2 v3, es[k]? = some e ∧ w.cell? ⟨b, off + k * 4, none⟩ = some v0 ∧ w.cell? ⟨b, off + k * 4 + 1, none⟩ = some v1 ∧
      w.cell? ⟨b, off + k * 4 + 2, none⟩ = some v2 ∧ w.cell? ⟨b, off + k * 4 + 3, none⟩ = some v3 ∧ EV w e v0 v1 v2 v3 ∧ GV G [v0, v1, v2, v3] := by
  obtain ⟨h1, vs, h2, h3, h4, _⟩ := h
  obtain ⟨b', off', e, hb, hc⟩ := h3.2 (by omega)
  injection e with e
  injection e with e1 e2
  subst e1 e2
  obtain ⟨x, hx⟩ : ∃ x, es[k]? = some x := ⟨_, List.getElem?_eq_getElem (by omega)⟩
  obtain ⟨v0, v1, v2, v3, e0, e1, e2, e3, g0⟩ := h2.at_ k hx
  refine ⟨x, v0, v1, v2, v3, hx, hc _ _ e0, ?_, ?_, ?_, g0, h4.sub (fun u hu => ?_)⟩
  · rw [Nat.add_assoc]; exact hc _ _ e1
  · rw [Nat.add_assoc]; exact hc _ _ e2
  · rw [Nat.add_assoc]; exact hc _ _ e3
  · simp only [List.mem_cons, List.not_mem_nil, or_false] at hu
    rcases hu with rfl | rfl | rfl | rfl
    · exact List.mem_of_getElem? e0
    · exact List.mem_of_getElem? e1
    · exact List.mem_of_getElem? e2
    · exact List.mem_of_getElem? e3
end
/-- What PutAll answers. -/
def refPut (l xs : List En) : Int × List En := if checkE xs = 0 then match refIns l xs with | none => (7, l) | some l' => (0, l') else (checkE xs, l)
theorem refIns_snoc : ∀ (l xs : List En) (x : En), refIns l (xs ++ [x]) = (refIns l xs).bind (fun o => if inL o x then none else some (insL o x))
  | l, [], x => by simp [refIns]
  | l, y :: ys, x => by
    simp only [List.cons_append, refIns]
    by_cases h : inL l y = true
    · rw [if_pos h, if_pos h]; rfl
    · rw [if_neg h, if_neg h]
      exact refIns_snoc _ ys x
theorem refIns_none {l xs ys : List En} (h : refIns l xs = none) : refIns l (xs ++ ys) = none := by
  induction xs generalizing l with
  | nil => simp [refIns] at h
  | cons x xs ih =>
    simp only [List.cons_append, refIns] at h ⊢
    split at h
    · next h1 => rw [if_pos h1]
    · next h1 => rw [if_neg h1]; exact ih h
theorem refIns_len : ∀ {l o xs : List En}, refIns l xs = some o → o.length = l.length + xs.length
  | l, o, [], h => by injection h with h; subst h; simp
  | l, o, x :: xs, h => by
    unfold refIns at h
    split at h
    · cases h
    · have := refIns_len h
      rw [insL_len] at this
      simp only [List.length_cons]
      omega
theorem insL_mem {l : List En} {x y : En} (h : y ∈ insL l x) : y = x ∨ y ∈ l := by
  unfold insL at h
  rcases List.mem_append.1 h with h | h
  · exact .inr (List.mem_of_mem_take h)
  · rcases List.mem_cons.1 h with h | h
    · exact .inl h
    · exact .inr (List.mem_of_mem_drop h)
theorem refIns_mem : ∀ {l o xs : List En}, refIns l xs = some o → ∀ y ∈ o, y ∈ l ∨ y ∈ xs
  | l, o, [], h, y, hy => by injection h with h; subst h; exact .inl hy
  | l, o, x :: xs, h, y, hy => by
    unfold refIns at h
    split at h
    · cases h
    · rcases refIns_mem h y hy with q | q
      · rcases insL_mem q with q | q
        · exact .inr (by simp [q])
        · exact .inl q
      · exact .inr (by simp [q])
def RetPA (G : Nat → Prop) (w : World) (z : Int × List En) (e : Ending) (w' : World) : Prop :=
  ∃ L k d, e = .returned (.tuple #[.slice L k d, .int .i64 z.1]) ∧ RG G w' L k z.2 ∧ k ≤ d ∧ Below w.heap.size w w'
theorem RetPA.out {G : Nat → Prop} {w : World} {z : Int × List En} {e : Ending} {w' : World} (h : RetPA G w z e w') : ∃ L k d, e = .returned (.tuple #[.slice L k d, .int .i64 z.1]) ∧ RG G w' L k z.2 ∧ k ≤ d ∧ Below w.heap.size w w' := h
theorem refPut_bad {l xs : List En} (h : checkE xs ≠ 0) : refPut l xs = (checkE xs, l) := by unfold refPut; rw [if_neg h]
theorem refPut_none {l xs : List En} (h : checkE xs = 0) (h2 : refIns l xs = none) : refPut l xs = (7, l) := by unfold refPut; rw [if_pos h, h2]
theorem refPut_some {l xs o : List En} (h : checkE xs = 0) (h2 : refIns l xs = some o) : refPut l xs = (0, o) := by unfold refPut; rw [if_pos h, h2]
end Go.Proofs.Ytgigohfjioifaaa
namespace Go.Proofs.Ytgigohfjioifaaa
open Go Go.RowKit

/-- Blocks of other kinds are other blocks. -/
theorem row_ne {t1 t2 : TypeId} {s1 s2 : Nat} {w : World} {b1 b2 n c m d : Nat} {L A : Option Addr} {i j : Nat} {vs us : List Value} (h : w.ownsRow b1 t1 s1 (.slice L n c) i vs) (k : w.ownsRow b2 t2 s2 (.slice A m d) j us) (hne : t1 ≠ t2) : Dj L A := fun b e1 e2 => by
  rcases h.2 with ⟨h1, _⟩ | ⟨g, cap, cur, h1, _, hg, _⟩
  · injection h1 with h1
    rw [h1] at e1; cases e1
  · injection h1 with h1
    rw [h1] at e1
    injection e1 with e1
    rcases k.2 with ⟨k1, _⟩ | ⟨g2, cap2, cur2, k1, _, kg, _⟩
    · injection k1 with k1
      rw [k1] at e2; cases e2
    · injection k1 with k1
      rw [k1] at e2
      injection e2 with e2
      simp only at e1 e2
      subst e1 e2
      rw [hg] at kg
      injection kg with kg
      injection kg with _ kg
      exact hne kg
theorem ownV_ne {t : TypeId} {w : World} {b1 b2 n c m d : Nat} {L A : Option Addr} {vs : List Value} {xs : List UInt8} (h : OwnV t w b1 L n c vs) (k : Own 5 w b2 A m d xs) (hne : t ≠ 5) : Dj L A := row_ne h k hne
theorem cl_row {ty t : TypeId} {s : Nat} {w : World} {p b2 m d j : Nat} {A : Option Addr} {us : Array Value} {vs : List Value} (h : Cl w p us ty) (k : w.ownsRow b2 t s (.slice A m d) j vs) (hne : ty ≠ t) : blk A ≠ some p := fun e2 => by
  rcases k.2 with ⟨k1, _⟩ | ⟨g2, cap2, cur2, k1, _, kg, _⟩
  · injection k1 with k1
    rw [k1] at e2; cases e2
  · injection k1 with k1
    rw [k1] at e2
    injection e2 with e2
    simp only at e2
    subst e2
    unfold Cl at h
    rw [h] at kg
    injection kg with kg
    injection kg with _ kg
    exact hne kg
theorem cl_ne {ty : TypeId} {w : World} {p b2 m d : Nat} {A : Option Addr} {us : Array Value} {xs : List UInt8} (h : Cl w p us ty) (k : Own 5 w b2 A m d xs) (hne : ty ≠ 5) : blk A ≠ some p := cl_row h k hne
theorem Cl.grown {w w' : World} {p : Nat} {us : Array Value} {ty : TypeId} {row : Option Nat} (h : Cl w p us ty) (hg : w.grownBy w' row) (hne : row ≠ some p) : Cl w' p us ty := by
  obtain ⟨_, _, _, h4, h5⟩ := hg
  exact (h5 p h.lt (fun e => hne e.symm)).trans h
theorem rdPre2 {e : TypeId} {w : World} {base g n k : Nat} {xs : List UInt8} (h : Own e w base (some ⟨g, 0, none⟩) (n + 40) (n + 40) (xs ++ room n k)) (hx : xs.length = n) : Rd w (some ⟨g, 0, none⟩) n xs := by
  have := (h.prefix n (by omega) (by simp)).rd
  rw [List.take_left' hx] at this
  exact this
theorem ownV_box2 (w : World) (t : TypeId) (base : Nat) (vs : List Value) (n : Nat) (hl : vs.length = n) (hn : n ≤ 1024) (hb : base ≤ w.heap.size) (cs : Array Value) (hc : cs = vs.toArray) : OwnV t (w.alloc (.cells cs t)) base (some ⟨w.heap.size, 0, none⟩) n n vs := by
  subst hc
  refine ⟨by simp [hl], .inr ⟨w.heap.size, n, vs.toArray, rfl, hb, heap_alloc_new w _, Nat.le_refl _, by unfold maxLen; omega, by simp [hl], ?_⟩⟩
  simp only [Nat.mul_one]
  exact List.take_of_length_le (by simp [hl])
theorem mem_own2 {w : World} {base : Nat} {ps : List VB} (h : Fam w base ps) {A : Option Addr} {m c : Nat} {xs : List UInt8} (hp : (Value.slice A m c, xs) ∈ ps) : Own 5 w base A m c xs := by
  obtain ⟨A', m', c', e, ho⟩ := h.1 _ hp
  injection e with e1 e2 e3
  subst e1 e2 e3
  exact ho
section
variable {w w' : World} {base : Nat} {ps qs : List VB}
theorem Fam.off_cl (h : Fam w base ps) {p : Nat} {us : Array Value} {ty : TypeId} (hp : Cl w p us ty) (hne : ty ≠ 5) : OffF ps p := fun q hq e => by
  obtain ⟨A, m, c, e1, ho⟩ := h.1 q hq
  rw [e1, own_blk] at e
  exact cl_ne hp ho hne e
theorem Fam.off_row (h : Fam w base ps) {t : TypeId} {b1 n c : Nat} {L : Option Addr} {vs : List Value} (hl : OwnV t w b1 L n c vs) (hne : t ≠ 5) : ∀ b, blk L = some b → OffF ps b := fun b hb q hq e => by
  obtain ⟨A, m, d, e1, ho⟩ := h.1 q hq
  rw [e1, own_blk] at e
  exact ownV_ne hl ho hne b hb e
theorem Fam.perm (h : Fam w base ps) (hp : ps.Perm qs) : Fam w base qs :=
  ⟨fun p hq => h.1 p (hp.mem_iff.2 hq), h.2.perm hp (fun {_ _} hab => Ap.symm hab)⟩
theorem Fam.app {base' : Nat} (h : Fam w base ps) (hn : Fam w' base' qs) (hb : Below w.heap.size w w') (h1 : w.heap.size ≤ base') (h2 : base ≤ base') : Fam w' base (ps ++ qs) := by
  have h0 : Fam w base (ps ++ []) := by rw [List.append_nil]; exact h
  have := Fam.ins h0 hn hb h1 h2
  rw [List.append_nil] at this
  exact this
theorem OffF.app {p : Nat} (h : OffF ps p) (k : OffF qs p) : OffF (ps ++ qs) p := fun q hq => by
  rcases List.mem_append.1 hq with h1 | h1
  · exact h q h1
  · exact k q h1
end
/-- One values more appended onto a row of one-cell values at a step of a region that draws its order. -/
theorem step_appV {P : Program} (w : World) {ops : Array Oper} {o : Oper} {a : Act} {K : Act → World → Prop} {Q : Exit → Act → World → Prop} {E : Prop} (hgd : o.guard = none) (s x : Operand) (tt : TypeId)
    (ho : o.op = .call { callee := .builtin .append, args := #[s, x], argTypes := #[tt, tt] })
    (base : Nat) (t : TypeId) (z : Value) (by_ : Nat) (ht : P.underlying tt = some (.slice t)) (hi : (P.info? t).map (fun i => (i.zero, i.size, i.bytes)) = some (some z, 1, by_)) (hz1 : z.cells.size = 1)
    (A : Option Addr) (n c : Nat) (vs : List Value) (hs : a.eval s = .slice A n c) (hown : OwnV t w base A n c vs)
    (ad : Addr) (m d : Nat) (ys : List Value) (hx : a.eval x = .slice (some ad) m d) (hr : RdV w (some ad) m ys) (hm : 0 < m) (h1 : ∀ u ∈ ys, u.oneCell' = true)
    (hn : n + m ≤ maxLen) (hby : (n + m) * by_ ≤ 140737488355328) (hbase : base ≤ w.heap.size)
    (h : ∀ A' c' w', OwnV t w' base A' (n + m) c' (vs ++ ys) → w.grownBy w' (blk A) → K (a.put o.dst (.slice A' (n + m) c')) w') :
    if Region.wanted o (yielded ops a.tmps) = true then Oper.wp P o a w K Q else E := by
  have hw : Region.wanted o (yielded ops a.tmps) = true := by simp [Region.wanted, hgd]
  rw [if_pos hw]
  obtain ⟨i, hi, hz, hsz, hby2⟩ := info_parts hi
  obtain ⟨b, off, e, _, hc⟩ := hr.2 hm
  injection e with e
  subst e
  refine wp_append_own w s x tt ho base t i z 1 by_ ht hi hz hsz hby2 hz1 (by decide) (.slice A n c) n vs hs hown ⟨b, off, none⟩ m d ys hx (by simp [hr.1]) (fun j u hj => by rw [Addr.add_lit]; exact hc j u hj) h1 hn hby hbase ?_
  intro v' w' k1 k2 _
  obtain ⟨A', c', rfl⟩ : ∃ A' c', v' = .slice A' (n + m) c' := by
    rcases k1.2 with ⟨h3, h4⟩ | ⟨g, cap, cur, h3, _⟩
    · exact ⟨none, 0, by rw [h3, h4]⟩
    · exact ⟨_, _, h3⟩
  rw [own_blk] at k2
  exact h A' c' w' k1 k2
/-- Two lists of pairs, a pair of each by turns. -/
def inter {α : Type} : List α → List α → List α
  | a :: b :: r, c :: d :: s => a :: b :: c :: d :: inter r s
  | _, _ => []
theorem four_of {vs : List Value} {k : Nat} (h : vs.length = (k + 1) * 4) : ∃ v0 v1 v2 v3 r, vs = v0 :: v1 :: v2 :: v3 :: r ∧ r.length = k * 4 := by
  match vs, h with
  | [], h => simp at h
  | [_], h => simp at h; omega
  | [_, _], h => simp at h; omega
  | [_, _, _], h => simp at h; omega
  | a :: b :: c :: d :: r, h => exact ⟨a, b, c, d, r, rfl, by simp only [List.length_cons] at h; omega⟩
theorem inter_perm : ∀ (es : List En) {vs us : List Value}, vs.length = es.length * 4 → us.length = es.length * 4 → (pairE es vs ++ pairE es us).Perm (inter (pairE es vs) (pairE es us))
  | [], vs, us, _, _ => by simp [pairE, inter]
  | e :: es, vs, us, h1, h2 => by
    obtain ⟨v0, v1, v2, v3, r, rfl, hr⟩ := four_of h1
    obtain ⟨u0, u1, u2, u3, s, rfl, hs⟩ := four_of h2
    have ih := inter_perm es (vs := r) (us := s) hr hs
    simp only [pairE, inter, List.cons_append]
    refine .cons _ (.cons _ ?_)
    refine List.Perm.trans ?_ (.cons _ (.cons _ ih))
    have p1 : (pairE es r ++ (u0, e.key) :: (u3, e.val) :: pairE es s).Perm ((u0, e.key) :: (pairE es r ++ (u3, e.val) :: pairE es s)) := List.perm_middle
    exact p1.trans (.cons _ List.perm_middle)
theorem inter_take : ∀ (es : List En) {vs us : List Value} (i : Nat) {v0 v3 u0 u3 : Value}, vs.length = es.length * 4 → us.length = es.length * 4 → vs[i * 4]? = some v0 → vs[i * 4 + 3]? = some v3 → us[i * 4]? = some u0 → us[i * 4 + 3]? = some u3 → i < es.length →
    ((inter (pairE es vs) (pairE es us)).take (4 * (i + 1))).map (·.1) = ((inter (pairE es vs) (pairE es us)).take (4 * i)).map (·.1) ++ [v0, v3, u0, u3]
  | [], _, _, i, _, _, _, _, _, _, _, _, _, _, hi => by simp at hi
  | e :: es, vs, us, i, v0, v3, u0, u3, hv, hu, h0, h3, k0, k3, hi => by
    obtain ⟨x0, x1, x2, x3, r, rfl, hr⟩ := four_of hv
    obtain ⟨y0, y1, y2, y3, s, rfl, hs⟩ := four_of hu
    cases i with
    | zero =>
      simp at h0 h3 k0 k3
      subst h0 h3 k0 k3
      simp [pairE, inter]
    | succ i =>
      simp only [List.length_cons] at hi
      have e0 : (i + 1) * 4 = i * 4 + 4 := by omega
      have e3 : (i + 1) * 4 + 3 = i * 4 + 3 + 4 := by omega
      rw [e0] at h0 k0
      rw [e3] at h3 k3
      have ih := inter_take es (vs := r) (us := s) i hr hs (by simpa using h0) (by simpa using h3) (by simpa using k0) (by simpa using k3) (by omega)
      have e4 : 4 * (i + 1 + 1) = 4 * (i + 1) + 4 := by omega
      have e5 : 4 * (i + 1) = 4 * i + 4 := by omega
      simp only [pairE, inter]
      rw [e4]
      simp only [List.take_succ_cons, List.map_cons]
      rw [ih, e5]
      simp only [List.take_succ_cons, List.map_cons, List.cons_append]
theorem pairE_len : ∀ (es : List En) {vs : List Value}, vs.length = es.length * 4 → (pairE es vs).length = es.length * 2
  | [], vs, h => by simp [pairE]
  | e :: es, vs, h => by
    obtain ⟨x0, x1, x2, x3, r, rfl, hr⟩ := four_of h
    have := pairE_len es (vs := r) hr
    simp only [pairE, List.length_cons]
    omega
theorem inter_all (es : List En) {vs us : List Value} (hv : vs.length = es.length * 4) (hu : us.length = es.length * 4) : (inter (pairE es vs) (pairE es us)).take (4 * es.length) = inter (pairE es vs) (pairE es us) := by
  have h := (inter_perm es hv hu).length_eq
  rw [List.length_append, pairE_len es hv, pairE_len es hu] at h
  exact List.take_of_length_le (by omega)
theorem pairE_sz : ∀ {es : List En} {vs : List Value} {q : VB}, q ∈ pairE es vs → ∃ e ∈ es, q.2 = e.key ∨ q.2 = e.val
  | e :: es, x0 :: x1 :: x2 :: x3 :: r, q, h => by
    unfold pairE at h
    simp only [List.mem_cons] at h
    rcases h with rfl | rfl | h
    · exact ⟨e, by simp, .inl rfl⟩
    · exact ⟨e, by simp, .inr rfl⟩
    · obtain ⟨x, hx, k⟩ := pairE_sz h
      exact ⟨x, by simp [hx], k⟩
theorem ownE_kept {w w' : World} {base n c : Nat} {A : Option Addr} {vs : List Value} {row : Option Nat} (h : OwnE w base A n c vs) (hg : w.grownBy w' row) (hne : ∀ b, blk A = some b → row ≠ some b) : OwnE w' base A n c vs := by
  refine World.ownsRow.kept h hg ?_
  rw [own_blk]
  cases hb : blk A with
  | none => exact .inl rfl
  | some b => exact .inr (fun e => hne b hb e.symm)
theorem eos_of_fam {w0 w : World} {b0 base : Nat} : ∀ {es : List En} {vs : List Value}, EOs b0 w0 es vs → (∀ q ∈ pairE es vs, ∃ A m c, q.1 = .slice A m c ∧ Own 5 w base A m c q.2) → EOs base w es vs
  | [], _, h, _ => h
  | e :: es, _, h, hf => by
    obtain ⟨v0, v1, v2, v3, r, rfl, ⟨K, kn, kc, V, vn, vc, rfl, rfl, rfl, rfl, o1, o2, u⟩, h2⟩ := h
    obtain ⟨A, m, c, e1, p1⟩ := hf (.slice K kn kc, e.key) (by simp [pairE])
    obtain ⟨B, n, d, e2, p2⟩ := hf (.slice V vn vc, e.val) (by simp [pairE])
    have p1' : Own 5 w base K kn kc e.key := by
      have e1' : Value.slice K kn kc = Value.slice A m c := e1
      injection e1' with a1 a2 a3
      subst a1 a2 a3
      exact p1
    have p2' : Own 5 w base V vn vc e.val := by
      have e2' : Value.slice V vn vc = Value.slice B n d := e2
      injection e2' with a1 a2 a3
      subst a1 a2 a3
      exact p2
    exact ⟨_, _, _, _, r, rfl, ⟨K, kn, kc, V, vn, vc, rfl, rfl, rfl, rfl, p1', p2', u⟩, eos_of_fam h2 (fun q hq => hf q (by simp [pairE, hq]))⟩
theorem long_ok {x : En} (h : okE x = true) : x.key.length ≤ 1024 ∧ x.val.length ≤ 65536 := by
  have := (okE_iff.1 h).1
  unfold longE at this
  simp at this
  omega
end Go.Proofs.Ytgigohfjioifaaa
namespace Go.Proofs.Ytgigohfjioifaaa
open Go Go.RowKit

set_option maxRecDepth 100000 in
set_option maxHeartbeats 4000000 in
theorem mgInOrder_any {w : World} {A : Option Addr} {n c : Nat} {es : List En} (h : REs w A n es) (hn : n ≤ 1099511627776) : Calls Try.prog 94 #[.slice A n c] w (RetT w (ordE es)) := by
  have HL := Lib.hid h.len
  have HR := Lib.hid h
  clear h
  go_enter Try.func94, Try.ntmps94
  go_wp2_with fail
  go_loopw [3] (fun s3 wr => ∃ i : Nat, (i < n ∨ i = 0) ∧ s3 = .int .i64 ((i + 1 : Nat) : Int) ∧ ordK es i = true ∧ Below w.heap.size w wr) (fun s _ => n + 1 - (intOf s).toNat)
  case atStart => exact ⟨0, .inr rfl, rfl, rfl, Below.refl _ _⟩
  case round =>
    obtain ⟨i, hi, rfl, ho, hB⟩ := hrel
    have HB := Lib.hid hB
    have HO := Lib.hid ho
    have hR := HR.out.below hB
    clear hB ho
    obtain ⟨k, hk⟩ : ∃ k, k = i + 1 := ⟨_, rfl⟩
    rw [← hk]
    by_cases hlt : k < n
    · obtain ⟨b, off, hAb, hbl⟩ := hR.pos (by omega)
      subst hAb
      obtain ⟨x, v0, v1, v2, v3, hx, c0, c1, c2, c3, hev⟩ := hR.at_ i (by omega)
      obtain ⟨y, u0, u1, u2, u3, hy, d0, d1, d2, d3, hew⟩ := hR.at_ k hlt
      have HL1 : Hid (∀ wx, Below wr.heap.size wr wx → Calls Try.prog 55 #[.agg #[v0, v1, v2, v3], .agg #[u0, u1, u2, u3]] wx (RetT wx (lessE x y))) := Lib.hid (fun wx hb => memLess_any (hev.below hb) (hew.below hb))
      have HSX : Hid (∀ wx, Below wr.heap.size wr wx → wx.cell? ⟨b, off + i * 4, none⟩ = some v0 ∧ wx.cell? ⟨b, off + i * 4 + 1, none⟩ = some v1 ∧ wx.cell? ⟨b, off + i * 4 + 2, none⟩ = some v2 ∧ wx.cell? ⟨b, off + i * 4 + 3, none⟩ = some v3 ∧ wx.cell? ⟨b, off + k * 4, none⟩ = some u0 ∧ wx.cell? ⟨b, off + k * 4 + 1, none⟩ = some u1 ∧ wx.cell? ⟨b, off + k * 4 + 2, none⟩ = some u2 ∧ wx.cell? ⟨b, off + k * 4 + 3, none⟩ = some u3) := Lib.hid (fun wx h =>
        ⟨(h.cell (p := ⟨b, off + i * 4, none⟩) hbl).trans c0, (h.cell (p := ⟨b, off + i * 4 + 1, none⟩) hbl).trans c1, (h.cell (p := ⟨b, off + i * 4 + 2, none⟩) hbl).trans c2, (h.cell (p := ⟨b, off + i * 4 + 3, none⟩) hbl).trans c3, (h.cell (p := ⟨b, off + k * 4, none⟩) hbl).trans d0, (h.cell (p := ⟨b, off + k * 4 + 1, none⟩) hbl).trans d1, (h.cell (p := ⟨b, off + k * 4 + 2, none⟩) hbl).trans d2, (h.cell (p := ⟨b, off + k * 4 + 3, none⟩) hbl).trans d3⟩)
      have hB0 : Below wr.heap.size wr wr.drew := (Below.refl _ _).drew
      have hk1 : IntKind.i64.wrap ((k : Int) - 1) = (i : Int) := by rw [IntWalk.i64_in _ (by omega)]; omega
      have hin : i < n := by omega
      have HST : Hid (ordK es k = (ordK es i && lessE x y)) := Lib.hid (by rw [hk]; exact ordK_step hx (by rw [← hk]; exact hy))
      have HKI := Lib.hid hk
      obtain ⟨z, hz⟩ : ∃ z, z = lessE x y := ⟨_, rfl⟩
      rw [← hz] at HL1 HST
      clear hR hx hev hy hew hz hk
      cases z with
      | true =>
        go_wp2_with fail
        go_region_held3 (fun wx => wx.cell? ⟨b, off + i * 4, none⟩ = some v0 ∧ wx.cell? ⟨b, off + i * 4 + 1, none⟩ = some v1 ∧ wx.cell? ⟨b, off + i * 4 + 2, none⟩ = some v2 ∧ wx.cell? ⟨b, off + i * 4 + 3, none⟩ = some v3 ∧ wx.cell? ⟨b, off + k * 4, none⟩ = some u0 ∧ wx.cell? ⟨b, off + k * 4 + 1, none⟩ = some u1 ∧ wx.cell? ⟨b, off + k * 4 + 2, none⟩ = some u2 ∧ wx.cell? ⟨b, off + k * 4 + 3, none⟩ = some u3) (first | assumption | exact HSX.out _ hB0)
          (first | (go_at_call 55; with_reducible refine (HL1.out _ (by assumption)).mono ?_; intro e1 wn hq; obtain ⟨h1, bn⟩ := RetT.outD hq; subst h1; have bn' := belowT' (by assumption : Below wr.heap.size wr _) bn; have hS1 := HSX.out _ bn'))
        all_goals
          have HBN : Hid (Below w.heap.size w _) := Lib.hid (HB.out.trans ((by assumption : Below wr.heap.size wr wn).mono HB.out.size))
          go_wp2_with fail
          go_roundw
          case rel => exact ⟨k, .inl hlt, by go_num, by rw [HST.out, HO.out]; rfl, HBN.out⟩
          case measure => simp [intOf]; omega
      | false =>
        go_wp2_with fail
        go_region_held3 (fun wx => wx.cell? ⟨b, off + i * 4, none⟩ = some v0 ∧ wx.cell? ⟨b, off + i * 4 + 1, none⟩ = some v1 ∧ wx.cell? ⟨b, off + i * 4 + 2, none⟩ = some v2 ∧ wx.cell? ⟨b, off + i * 4 + 3, none⟩ = some v3 ∧ wx.cell? ⟨b, off + k * 4, none⟩ = some u0 ∧ wx.cell? ⟨b, off + k * 4 + 1, none⟩ = some u1 ∧ wx.cell? ⟨b, off + k * 4 + 2, none⟩ = some u2 ∧ wx.cell? ⟨b, off + k * 4 + 3, none⟩ = some u3) (first | assumption | exact HSX.out _ hB0)
          (first | (go_at_call 55; with_reducible refine (HL1.out _ (by assumption)).mono ?_; intro e1 wn hq; obtain ⟨h1, bn⟩ := RetT.outD hq; subst h1; have bn' := belowT' (by assumption : Below wr.heap.size wr _) bn; have hS1 := HSX.out _ bn'))
        all_goals
          have HBN : Hid (Below w.heap.size w _) := Lib.hid (HB.out.trans ((by assumption : Below wr.heap.size wr wn).mono HB.out.size))
          have HFIN : Hid (ordE es = false) := Lib.hid (by
            have h1 := HST.out
            rw [Bool.and_false] at h1
            exact ordK_false h1 _ (by rw [HL.out]; omega))
          go_wp2_with fail
          go_ret
          exact ⟨by rw [HFIN.out]; rfl, HBN.out⟩
    · have HFIN : Hid (ordE es = true) := Lib.hid (by
        have h1 := HO.out
        unfold ordE
        rw [HL.out]
        obtain rfl : n - 1 = i := by omega
        exact h1)
      go_wp2_with fail
      go_ret
      exact ⟨by rw [HFIN.out]; rfl, HB.out⟩
set_option maxRecDepth 100000 in
set_option maxHeartbeats 4000000 in
theorem ordered_any {w : World} {A : Option Addr} {n c : Nat} {es : List En} (h : REs w A n es) (hn : n ≤ 1099511627776) (hs : ∀ x ∈ es, SzE x) : Calls Try.prog 61 #[.slice A n c] w (RetT w (ordE es)) := by
  have HL := Lib.hid h.len
  have HR := Lib.hid h
  have HSZ := Lib.hid hs
  clear h hs
  go_enter Try.func61, Try.ntmps61
  go_wp2_with fail
  go_loopw [3] (fun s3 wr => ∃ i : Nat, (i < n ∨ i = 0) ∧ s3 = .int .i64 ((i + 1 : Nat) : Int) ∧ ordK es i = true ∧ Below w.heap.size w wr) (fun s _ => n + 1 - (intOf s).toNat)
  case atStart => exact ⟨0, .inr rfl, rfl, rfl, Below.refl _ _⟩
  case round =>
    obtain ⟨i, hi, rfl, ho, hB⟩ := hrel
    have HB := Lib.hid hB
    have HO := Lib.hid ho
    have hR := HR.out.below hB
    clear hB ho
    obtain ⟨k, hk⟩ : ∃ k, k = i + 1 := ⟨_, rfl⟩
    rw [← hk]
    by_cases hlt : k < n
    · obtain ⟨b, off, hAb, hbl⟩ := hR.pos (by omega)
      subst hAb
      obtain ⟨x, v0, v1, v2, v3, hx, c0, c1, c2, c3, hev⟩ := hR.at_ i (by omega)
      obtain ⟨y, u0, u1, u2, u3, hy, d0, d1, d2, d3, hew⟩ := hR.at_ k hlt
      have HL1 : Hid (∀ wx, Below wr.heap.size wr wx → Calls Try.prog 56 #[.agg #[v0, v1, v2, v3], .agg #[u0, u1, u2, u3]] wx (RetT wx (lessE x y))) := Lib.hid (fun wx hb => refLess_any (hev.below hb) (hew.below hb) (HSZ.out x (List.mem_of_getElem? hx)) (HSZ.out y (List.mem_of_getElem? hy)))
      have HSX : Hid (∀ wx, Below wr.heap.size wr wx → wx.cell? ⟨b, off + i * 4, none⟩ = some v0 ∧ wx.cell? ⟨b, off + i * 4 + 1, none⟩ = some v1 ∧ wx.cell? ⟨b, off + i * 4 + 2, none⟩ = some v2 ∧ wx.cell? ⟨b, off + i * 4 + 3, none⟩ = some v3 ∧ wx.cell? ⟨b, off + k * 4, none⟩ = some u0 ∧ wx.cell? ⟨b, off + k * 4 + 1, none⟩ = some u1 ∧ wx.cell? ⟨b, off + k * 4 + 2, none⟩ = some u2 ∧ wx.cell? ⟨b, off + k * 4 + 3, none⟩ = some u3) := Lib.hid (fun wx h =>
        ⟨(h.cell (p := ⟨b, off + i * 4, none⟩) hbl).trans c0, (h.cell (p := ⟨b, off + i * 4 + 1, none⟩) hbl).trans c1, (h.cell (p := ⟨b, off + i * 4 + 2, none⟩) hbl).trans c2, (h.cell (p := ⟨b, off + i * 4 + 3, none⟩) hbl).trans c3, (h.cell (p := ⟨b, off + k * 4, none⟩) hbl).trans d0, (h.cell (p := ⟨b, off + k * 4 + 1, none⟩) hbl).trans d1, (h.cell (p := ⟨b, off + k * 4 + 2, none⟩) hbl).trans d2, (h.cell (p := ⟨b, off + k * 4 + 3, none⟩) hbl).trans d3⟩)
      have hB0 : Below wr.heap.size wr wr.drew := (Below.refl _ _).drew
      have hk1 : IntKind.i64.wrap ((k : Int) - 1) = (i : Int) := by rw [IntWalk.i64_in _ (by omega)]; omega
      have hin : i < n := by omega
      have HST : Hid (ordK es k = (ordK es i && lessE x y)) := Lib.hid (by rw [hk]; exact ordK_step hx (by rw [← hk]; exact hy))
      have HKI := Lib.hid hk
      obtain ⟨z, hz⟩ : ∃ z, z = lessE x y := ⟨_, rfl⟩
      rw [← hz] at HL1 HST
      clear hR hx hev hy hew hz hk
      cases z with
      | true =>
        go_wp2_with fail
        go_region_held3 (fun wx => wx.cell? ⟨b, off + i * 4, none⟩ = some v0 ∧ wx.cell? ⟨b, off + i * 4 + 1, none⟩ = some v1 ∧ wx.cell? ⟨b, off + i * 4 + 2, none⟩ = some v2 ∧ wx.cell? ⟨b, off + i * 4 + 3, none⟩ = some v3 ∧ wx.cell? ⟨b, off + k * 4, none⟩ = some u0 ∧ wx.cell? ⟨b, off + k * 4 + 1, none⟩ = some u1 ∧ wx.cell? ⟨b, off + k * 4 + 2, none⟩ = some u2 ∧ wx.cell? ⟨b, off + k * 4 + 3, none⟩ = some u3) (first | assumption | exact HSX.out _ hB0)
          (first | (go_at_call 56; with_reducible refine (HL1.out _ (by assumption)).mono ?_; intro e1 wn hq; obtain ⟨h1, bn⟩ := RetT.outD hq; subst h1; have bn' := belowT' (by assumption : Below wr.heap.size wr _) bn; have hS1 := HSX.out _ bn'))
        all_goals
          have HBN : Hid (Below w.heap.size w _) := Lib.hid (HB.out.trans ((by assumption : Below wr.heap.size wr wn).mono HB.out.size))
          go_wp2_with fail
          go_roundw
          case rel => exact ⟨k, .inl hlt, by go_num, by rw [HST.out, HO.out]; rfl, HBN.out⟩
          case measure => simp [intOf]; omega
      | false =>
        go_wp2_with fail
        go_region_held3 (fun wx => wx.cell? ⟨b, off + i * 4, none⟩ = some v0 ∧ wx.cell? ⟨b, off + i * 4 + 1, none⟩ = some v1 ∧ wx.cell? ⟨b, off + i * 4 + 2, none⟩ = some v2 ∧ wx.cell? ⟨b, off + i * 4 + 3, none⟩ = some v3 ∧ wx.cell? ⟨b, off + k * 4, none⟩ = some u0 ∧ wx.cell? ⟨b, off + k * 4 + 1, none⟩ = some u1 ∧ wx.cell? ⟨b, off + k * 4 + 2, none⟩ = some u2 ∧ wx.cell? ⟨b, off + k * 4 + 3, none⟩ = some u3) (first | assumption | exact HSX.out _ hB0)
          (first | (go_at_call 56; with_reducible refine (HL1.out _ (by assumption)).mono ?_; intro e1 wn hq; obtain ⟨h1, bn⟩ := RetT.outD hq; subst h1; have bn' := belowT' (by assumption : Below wr.heap.size wr _) bn; have hS1 := HSX.out _ bn'))
        all_goals
          have HBN : Hid (Below w.heap.size w _) := Lib.hid (HB.out.trans ((by assumption : Below wr.heap.size wr wn).mono HB.out.size))
          have HFIN : Hid (ordE es = false) := Lib.hid (by
            have h1 := HST.out
            rw [Bool.and_false] at h1
            exact ordK_false h1 _ (by rw [HL.out]; omega))
          go_wp2_with fail
          go_ret
          exact ⟨by rw [HFIN.out]; rfl, HBN.out⟩
    · have HFIN : Hid (ordE es = true) := Lib.hid (by
        have h1 := HO.out
        unfold ordE
        rw [HL.out]
        obtain rfl : n - 1 = i := by omega
        exact h1)
      go_wp2_with fail
      go_ret
      exact ⟨by rw [HFIN.out]; rfl, HB.out⟩
section
variable {w : World} {a : En} {v0 v1 v2 v3 : Value}
set_option maxRecDepth 100000 in
set_option maxHeartbeats 4000000 in
theorem mgEntry_any (ha : EV w a v0 v1 v2 v3) (sa : SzE a) : Calls Try.prog 95 #[.agg #[v0, v1, v2, v3]] w (RetEn w a) := by
  obtain ⟨K, kn, kc, V, vn, vc, rfl, rfl, rfl, rfl, r0, r3, c0, c3, d0, d3, s1, s2⟩ := ha.parts
  have l1 := r0.len
  have l2 := r3.len
  have hk : kn ≤ 140737488355328 := by have := sa.1; omega
  have hv : vn ≤ 140737488355328 := by have := sa.2; omega
  have R0 := Lib.hid r0
  have R3 := Lib.hid r3
  have HD0 := Lib.hid d0
  have HD3 := Lib.hid d3
  clear ha r0 r3 d0 d3
  go_enter Try.func95, Try.ntmps95
  go_upto_region 1 with (fail)
  obtain ⟨W, hW⟩ : ∃ W, W = (w.alloc (.cells #[.slice K kn kc, .int .u64 (a.seq : Int), .int .u8 (a.kind : Int), .slice V vn vc] 33)).alloc (.cells #[.slice none 0 0, .int .u64 0, .int .u8 0, .slice none 0 0] 33) := ⟨_, rfl⟩
  rw [← hW]
  have bW : Below w.heap.size w W := by rw [hW]; exact ((Below.refl _ _).alloc (Nat.le_refl _) _).alloc (by simp) _
  have aW : Cl W w.heap.size #[.slice K kn kc, .int .u64 (a.seq : Int), .int .u8 (a.kind : Int), .slice V vn vc] 33 := by rw [hW]; exact (Cl.new _ _ _).alloc _
  have zW : Cl W (w.heap.size + 1) #[.slice none 0 0, .int .u64 0, .int .u8 0, .slice none 0 0] 33 := by rw [hW]; exact Cl.newg _ _ _ _ (by simp)
  have sW : w.heap.size + 2 ≤ W.heap.size := by rw [hW]; simp
  have HK : Hid (∀ wx, Below W.heap.size W wx → Calls Try.prog 85 #[.slice K kn kc] wx (Made wx.heap.size wx a.key)) := Lib.hid (fun wx hb => Clone_any K kn kc a.key wx ((R0.out.below bW).below hb) hk HD0.out)
  have HV : Hid (∀ wx, Below W.heap.size W wx → Calls Try.prog 85 #[.slice V vn vc] wx (Made wx.heap.size wx a.val)) := Lib.hid (fun wx hb => Clone_any V vn vc a.val wx ((R3.out.below bW).below hb) hv HD3.out)
  have ALC : Hid (∀ wx, Below W.heap.size W wx → Cl wx w.heap.size #[.slice K kn kc, .int .u64 (a.seq : Int), .int .u8 (a.kind : Int), .slice V vn vc] 33) := Lib.hid (fun wx hb => aW.below hb)
  have ZLC : Hid (∀ wx, Below W.heap.size W wx → Cl wx (w.heap.size + 1) #[.slice none 0 0, .int .u64 0, .int .u8 0, .slice none 0 0] 33) := Lib.hid (fun wx hb => zW.below hb)
  have BW := Lib.hid bW
  obtain ⟨e0, e1, e2, e3, y0, y1, y2, y3⟩ := aW.c4
  have hB0 : Below W.heap.size W W.drew := (Below.refl _ _).drew
  clear hW bW aW zW
  go_cut [] (fun wx => ∃ C cn cc D dn dc wy, Own 5 wy W.heap.size C cn cc a.key ∧ Own 5 wy W.heap.size D dn dc a.val ∧ Below W.heap.size W wy ∧ Dj C D ∧ wx = (wy.setCell ⟨w.heap.size, 0, none⟩ (.slice C cn cc)).setCell ⟨w.heap.size, 3, none⟩ (.slice D dn dc))
  case first =>
    go_region_law (first | (go_simp; go_at_call 85; with_reducible refine (HK.out _ (by assumption)).mono ?_; intro e wk hq; obtain ⟨C, cn, cc, h1, oC, bC⟩ := Made.out hq; subst h1; have bC' := belowT (by assumption : Below W.heap.size W _) bC; obtain ⟨p0, p1, p2, p3, p4, p5, p6, p7⟩ := (ALC.out _ bC').c4) | (go_simp; go_at_call 85; with_reducible refine (HV.out _ (by assumption)).mono ?_; intro e wv hq; obtain ⟨D, dn, dc, h2, oD, bD⟩ := Made.out hq; subst h2; have bD' := belowT (by assumption : Below W.heap.size W _) bD; obtain ⟨m0, m1, m2, m3, m4, m5, m6, m7⟩ := (ALC.out _ bD').c4))
    all_goals first
      | (have HDJ := Lib.hid (Dj.old oC oD (Nat.le_refl _))
         have HC1 := Lib.hid (oC.below bD)
         have HD1 := Lib.hid (oD.mono bC'.size)
         have HB1 := Lib.hid bD'
         clear oC oD bC bD bC' bD'
         go_wp2_with fail
         go_meet
         exact ⟨C, cn, cc, D, dn, dc, wv, HC1.out, HD1.out, HB1.out, HDJ.out, rfl⟩)
      | (have HDJ := Lib.hid (Dj.symm (Dj.old oD oC (Nat.le_refl _)))
         have HC1 := Lib.hid (oC.mono bD'.size)
         have HD1 := Lib.hid (oD.below bC)
         have HB1 := Lib.hid bC'
         clear oC oD bC bD bC' bD'
         go_wp2_with fail
         go_meet
         exact ⟨C, cn, cc, D, dn, dc, wk, HC1.out, HD1.out, HB1.out, HDJ.out, rfl⟩)
  case rest =>
    obtain ⟨C, cn, cc, D, dn, dc, wy, oC, oD, bY, hdj, hwc⟩ := hcut
    have A1 := ALC.out _ bY
    have Z1 := Lib.hid (ZLC.out _ bY)
    have sy := bY.size
    obtain ⟨Y, hY⟩ : ∃ Y, Y = wy.setCell ⟨w.heap.size, 0, none⟩ (.slice C cn cc) := ⟨_, rfl⟩
    rw [← hY] at hwc
    have aY : Cl Y w.heap.size #[.slice C cn cc, .int .u64 (a.seq : Int), .int .u8 (a.kind : Int), .slice V vn vc] 33 := by rw [hY]; exact A1.set 0 _
    have zY : Cl Y (w.heap.size + 1) #[.slice none 0 0, .int .u64 0, .int .u8 0, .slice none 0 0] 33 := by rw [hY]; exact Z1.out.off 0 _ (by omega)
    have bYY : Below w.heap.size w Y := by rw [hY]; exact below_set (BW.out.trans (bY.mono BW.out.size)) 0 _ (Nat.le_refl _)
    have oCY : Own 5 Y W.heap.size C cn cc a.key := by rw [hY]; exact oC.set (by omega) 0 _
    have oDY : Own 5 Y W.heap.size D dn dc a.val := by rw [hY]; exact oD.set (by omega) 0 _
    have aC : Cl wc w.heap.size #[.slice C cn cc, .int .u64 (a.seq : Int), .int .u8 (a.kind : Int), .slice D dn dc] 33 := by rw [hwc]; exact aY.set 3 _
    have zC : Cl wc (w.heap.size + 1) #[.slice none 0 0, .int .u64 0, .int .u8 0, .slice none 0 0] 33 := by rw [hwc]; exact zY.off 3 _ (by omega)
    have HFIN : Hid (∀ X, X = (((wc.setCell ⟨w.heap.size + 1, 0, none⟩ (.slice C cn cc)).setCell ⟨w.heap.size + 1, 1, none⟩ (.int .u64 (a.seq : Int))).setCell ⟨w.heap.size + 1, 2, none⟩ (.int .u8 (a.kind : Int))).setCell ⟨w.heap.size + 1, 3, none⟩ (.slice D dn dc) → Cl X (w.heap.size + 1) #[.slice C cn cc, .int .u64 (a.seq : Int), .int .u8 (a.kind : Int), .slice D dn dc] 33 ∧ RetEn w a (.returned (.agg #[.slice C cn cc, .int .u64 (a.seq : Int), .int .u8 (a.kind : Int), .slice D dn dc])) X) := Lib.hid (fun X hX => en_fin (x := a) (g := w.heap.size) zY rfl oCY oDY bYY (Nat.le_refl _) sW ⟨3, _, hwc⟩ hX hdj)
    clear hY hwc A1 aY zY bYY oCY oDY oC oD bY e0 e1 e2 e3 y0 y1 y2 y3
    obtain ⟨e0, e1, e2, e3, y0, y1, y2, y3⟩ := aC.c4
    obtain ⟨g0, g1, g2, g3, k0, k1, k2, k3⟩ := zC.c4
    clear aC zC
    go_wp2_with fail
    obtain ⟨X, hX⟩ : ∃ X, X = (((wc.setCell ⟨w.heap.size + 1, 0, none⟩ (.slice C cn cc)).setCell ⟨w.heap.size + 1, 1, none⟩ (.int .u64 (a.seq : Int))).setCell ⟨w.heap.size + 1, 2, none⟩ (.int .u8 (a.kind : Int))).setCell ⟨w.heap.size + 1, 3, none⟩ (.slice D dn dc) := ⟨_, rfl⟩
    obtain ⟨zX, hret⟩ := HFIN.out X hX
    rw [← hX]
    obtain ⟨x0, x1, x2, x3, _⟩ := zX.c4
    refine bodyPost_ret (v := .agg #[.slice C cn cc, .int .u64 (a.seq : Int), .int .u8 (a.kind : Int), .slice D dn dc]) (by simp [results, Try.results95, go_sem, x0, x1, x2, x3]; try rfl) rfl hret
end
end Go.Proofs.Ytgigohfjioifaaa
namespace Go.Proofs.Ytgigohfjioifaaa
open Go Go.RowKit

theorem rdl_one8 {w : World} {t : TypeId} {v1 : Value} {x1 : List UInt8} (h1 : ElB w v1 x1) (g : Nat) (hg : g = w.heap.size) : RdL (w.alloc (.cells #[v1] t)) (some ⟨g, 0, none⟩) 1 [x1] := by
  subst hg
  refine ⟨rfl, fun _ => ⟨w.heap.size, 0, rfl, by simp, fun i x hi => ?_⟩⟩
  have hlt := (List.getElem?_eq_some_iff.1 hi).1
  obtain rfl : i = 0 := by simp at hlt; omega
  injection hi with hi
  subst hi
  refine ⟨v1, ?_, h1.below ((Below.refl _ _).alloc (Nat.le_refl _) _)⟩
  rw [cell_of_row (w.alloc (.cells #[v1] t)) w.heap.size (0 + 0) #[v1] t (0, 0) (heap_alloc_new w _)]
  rfl
/-- What Build answers where every is at least 1. -/
def buildE (ev : Nat) (es : List En) : List UInt8 × Int :=
  if es.any longE then ([], 2) else if 1048576 < (fullB ev es).length then ([], 2) else if es.all formE && ordE es then (sealB (fullB ev es), 0) else ([], 3)
/-- Bytes of the call's own, or none, and a kind. -/
def RetBb (w : World) (z : List UInt8 × Int) (e : Ending) (w' : World) : Prop :=
  ∃ A c, e = .returned (.tuple #[.slice A z.1.length c, .int .i64 z.2]) ∧ Own 5 w' w.heap.size A z.1.length c z.1 ∧ Below w.heap.size w w'
theorem RetBb.no {w w' : World} {z : List UInt8 × Int} {k : Int} (hz : z = ([], k)) (hb : Below w.heap.size w w') : RetBb w z (.returned (.tuple #[.slice none 0 0, .int .i64 k])) w' := by
  subst hz
  exact ⟨none, 0, rfl, Own.nil _ _ _, hb⟩
theorem longE_no {es : List En} (h : es.any longE = false) : ∀ x ∈ es, x.key.length ≤ 1024 ∧ x.val.length ≤ 65536 := fun x hx => by
  have := List.any_eq_false.1 h x hx
  unfold longE at this
  simp at this
  omega
set_option maxRecDepth 100000 in
set_option maxHeartbeats 8000000 in
theorem build8_any {w : World} {A : Option Addr} {n c : Nat} {es : List En} (h : REs w A n es) (hn : n ≤ 16777216) (ev : Nat) (he : 1 ≤ ev) (he2 : ev ≤ 9223372036854775807) :
    Calls Try.prog 42 #[.int .i64 (ev : Int), .slice A n c] w (RetBb w (buildE ev es)) := by
  have HM : Hid (Calls Try.prog 74 #[.slice A n c] w (RetNu w (checkE es))) := Lib.hid (memCheck_any h (by omega))
  have HR := Lib.hid h
  clear h
  cases hlo : es.any longE with
  | true =>
    have hc : checkE es = 2 := by rw [checkE, hlo]; rfl
    have hb : buildE ev es = ([], 2) := by rw [buildE, hlo]; rfl
    rw [hc] at HM
    have HB := Lib.hid hb
    clear hlo hc hb
    go_enter Try.func42, Try.ntmps42
    go_wp2_with fail
    with_reducible refine HM.out.mono ?_
    rintro e w1 ⟨rfl, b1⟩
    go_wp2_with fail
    exact bodyPost_ret (v := .tuple #[.slice none 0 0, .int .i64 2]) (by simp [results, Try.f42, go_sem]; try rfl) rfl (RetBb.no HB.out b1)
  | false =>
    have hsz := longE_no hlo
    have HCT : Hid (∀ wx, Below w.heap.size w wx → Calls Try.prog 78 #[.int .i64 (ev : Int), .slice A n c] wx (RetCt ev es wx)) := Lib.hid (fun wx hb => contents_any (HR.out.below hb) hn hsz ev he he2)
    have HIO : Hid (∀ wx, Below w.heap.size w wx → Calls Try.prog 79 #[.slice A n c] wx (RetT wx (ordE es))) := Lib.hid (fun wx hb => inOrder8_any (HR.out.below hb) (by omega))
    obtain ⟨F, hF⟩ : ∃ F, F = fullB ev es := ⟨_, rfl⟩
    have hbe : buildE ev es = if 1048576 < F.length then ([], 2) else if es.all formE && ordE es then (sealB F, 0) else ([], 3) := by rw [buildE, hlo, ← hF]; rfl
    obtain ⟨fo, hfo⟩ : ∃ fo, fo = es.all formE := ⟨_, rfl⟩
    obtain ⟨od, hod⟩ : ∃ od, od = ordE es := ⟨_, rfl⟩
    obtain ⟨z, hz⟩ : ∃ z : Int, z = if fo then 0 else 3 := ⟨_, rfl⟩
    have hck : checkE es = z := by rw [checkE, hlo, hz, hfo]; rfl
    rw [hck] at HM
    rw [← hod] at HIO hbe
    rw [← hfo] at hbe
    have hz2 : z = 0 ∨ z = 3 := by rw [hz]; cases fo <;> simp
    have tz : (z == 2) = false := by rcases hz2 with e | e <;> rw [e] <;> rfl
    have tz' : ¬ z = 2 := by omega
    have HBE := Lib.hid hbe
    have HF := Lib.hid hF
    have HZ := Lib.hid hz
    have HZ2 := Lib.hid hz2
    clear hlo hsz hF hbe hfo hod hz hck hz2
    go_enter Try.func42, Try.ntmps42
    go_wp2_with fail
    with_reducible refine HM.out.mono ?_
    rintro e w1 ⟨rfl, b1⟩
    have HCT1 := Lib.hid (HCT.out w1 b1)
    have B1 := Lib.hid b1
    clear b1
    go_wp2_with fail
    with_reducible refine HCT1.out.mono ?_
    rintro e w2 ⟨C, cc, ys, rfl, oC, b2, hyl, hys⟩
    rw [← HF.out] at hys
    have hcap := oC.cap
    have hcn : C = none → cc = 0 := fun h => by have := oC.nil_of (by rw [h]; rfl); exact this.2.2
    have hSE := Seal_any (some ⟨w2.heap.size, 0, none⟩) 1 1 [ys] _ (rdl_one8 (w := w2) (t := 22) ⟨C, ys.length, cc, rfl, oC.rd, hcap.1, hcn⟩ _ rfl) (by simp only [tot]; omega)
    rw [show [ys].flatten = ys by simp] at hSE
    have HSE := Lib.hid hSE
    have B2 := Lib.hid (B1.out.trans (b2.mono B1.out.size))
    have HYS := Lib.hid hys
    obtain ⟨yn, hyn⟩ : ∃ yn, yn = ys.length := ⟨_, rfl⟩
    rw [← hyn]
    rw [← hyn] at hyl HSE
    have HYN := Lib.hid hyn
    clear hSE oC b2 hcap hcn hys hyn
    by_cases hbig : 1048576 < yn
    · have hg : sealG ys = ([], 2) := sealG_long HYN.out.symm hbig
      have hb : buildE ev es = ([], 2) := by
        rw [HBE.out, if_pos]
        rcases HYS.out with ⟨_, h2⟩ | h2
        · have := HYN.out; omega
        · rw [← h2, ← HYN.out]; exact hbig
      rw [hg] at HSE
      have HB := Lib.hid hb
      clear hg hb
      go_wp2_with fail
      refine HSE.out.mono ?_
      rintro e w3 ⟨D, dn, dc, rfl, oD, b3⟩
      have B3 := Lib.hid (B2.out.trans (((Below.refl _ _).alloc (Nat.le_refl _) _ |>.trans (b3.mono (by simp))).mono B2.out.size))
      clear oD b3
      go_wp2_with fail
      exact bodyPost_ret (v := .tuple #[.slice none 0 0, .int .i64 2]) (by simp [results, Try.f42, go_sem]; try rfl) rfl (RetBb.no HB.out B3.out)
    · have hF2 : ys = F := by
        rcases HYS.out with ⟨h1, _⟩ | h2
        · have := HYN.out; omega
        · exact h2
      have hg : sealG ys = (sealB F, 0) := by rw [sealG_ok HYN.out.symm hbig, hF2]
      have hb : buildE ev es = if fo && od then (sealB F, 0) else ([], 3) := by rw [HBE.out, if_neg (by rw [← hF2, ← HYN.out]; exact hbig)]
      rw [hg] at HSE
      have HB := Lib.hid hb
      clear hg hb
      go_wp2_with fail
      refine HSE.out.mono ?_
      rintro e w3 ⟨D, dn, dc, rfl, oD, b3⟩
      have oD : Own 5 w3 w2.heap.size D dn dc (sealB F) := Own.mono oD (show w2.heap.size ≤ _ by simp)
      obtain rfl : (sealB F).length = dn := oD.len
      have HD := Lib.hid (oD.mono B2.out.size)
      have B3 := Lib.hid (B2.out.trans (((Below.refl _ _).alloc (Nat.le_refl _) _ |>.trans (b3.mono (by simp))).mono B2.out.size))
      clear oD b3
      cases fo with
      | false =>
        have e0 : z = 3 := HZ.out
        subst e0
        rw [Bool.false_and] at HB
        go_wp2_with fail
        exact bodyPost_ret (v := .tuple #[.slice none 0 0, .int .i64 3]) (by simp [results, Try.f42, go_sem]; try rfl) rfl (RetBb.no HB.out B3.out)
      | true =>
        have e0 : z = 0 := HZ.out
        subst e0
        rw [Bool.true_and] at HB
        have HIO3 := Lib.hid (HIO.out w3 B3.out)
        cases od with
        | true =>
          go_wp2_with fail
          with_reducible refine HIO3.out.mono ?_
          rintro e w4 ⟨rfl, b4⟩
          have hB := HB.out
          simp only [if_true] at hB
          have hfin : RetBb w (buildE ev es) (.returned (.tuple #[.slice D (sealB F).length dc, .int .i64 0])) w4 := by
            rw [hB]
            exact ⟨D, dc, rfl, HD.out.below b4, B3.out.trans (b4.mono B3.out.size)⟩
          have HFI := Lib.hid hfin
          clear hB hfin b4
          go_wp2_with fail
          exact bodyPost_ret (v := .tuple #[.slice D (sealB F).length dc, .int .i64 0]) (by simp [results, Try.f42, go_sem]; try rfl) rfl HFI.out
        | false =>
          go_wp2_with fail
          with_reducible refine HIO3.out.mono ?_
          rintro e w4 ⟨rfl, b4⟩
          have B4 := Lib.hid (B3.out.trans (b4.mono B3.out.size))
          have hB := HB.out
          simp only [Bool.false_eq_true, if_false] at hB
          have HBB := Lib.hid hB
          clear hB b4
          go_wp2_with fail
          exact bodyPost_ret (v := .tuple #[.slice none 0 0, .int .i64 3]) (by simp [results, Try.f42, go_sem]; try rfl) rfl (RetBb.no HBB.out B4.out)
theorem buildE_cases (ev : Nat) (es : List En) : (∃ F, buildE ev es = (sealB F, 0) ∧ F.length ≤ 1048576) ∨ (∃ k : Int, buildE ev es = ([], k) ∧ (k = 2 ∨ k = 3)) := by
  unfold buildE
  split
  · exact .inr ⟨2, rfl, .inl rfl⟩
  · split
    · exact .inr ⟨2, rfl, .inl rfl⟩
    · split
      · exact .inl ⟨_, rfl, by omega⟩
      · exact .inr ⟨3, rfl, .inr rfl⟩
end Go.Proofs.Ytgigohfjioifaaa
namespace Go.Proofs.Ytgigohfjioifaaa
open Go Go.RowKit

/-- What a list that is picked out of another comes to. -/
def RetPick (w : World) (es : List En) (us : List Value) (e : Ending) (w' : World) : Prop :=
  ∃ L k d vs, e = .returned (.slice L k d) ∧ OwnE w' w.heap.size L k d vs ∧ EVs w' es vs ∧ es.length = k ∧ Below w.heap.size w w' ∧ ∀ u ∈ vs, u ∈ us
theorem RetPick.out {w : World} {es : List En} {us : List Value} {e : Ending} {w' : World} (h : RetPick w es us e w') : ∃ L k d vs, e = .returned (.slice L k d) ∧ OwnE w' w.heap.size L k d vs ∧ EVs w' es vs ∧ es.length = k ∧ Below w.heap.size w w' ∧ ∀ u ∈ vs, u ∈ us := h
theorem RetPick.res {w : World} {es : List En} {us : List Value} {e : Ending} {w' : World} (h : RetPick w es us e w') : ∃ L k d, e = .returned (.slice L k d) ∧ REs w' L k es ∧ k ≤ d ∧ Below w.heap.size w w' := by
  obtain ⟨L, k, d, vs, h1, h2, h3, h4, h5, _⟩ := h
  exact ⟨L, k, d, h1, REs.mk h3 h2.rd h4, h2.cap.1, h5⟩
/-- 'So far picked.' -/
def Pck (w : World) (us : List Value) (es : List En) (L : Option Addr) (k d : Nat) (wr : World) : Prop :=
  ∃ vs, OwnE wr w.heap.size L k d vs ∧ EVs w es vs ∧ es.length = k ∧ Below w.heap.size w wr ∧ ∀ u ∈ vs, u ∈ us
theorem Pck.zero (w : World) (us : List Value) : Pck w us [] none 0 0 w := ⟨[], OwnE.nil _ _, rfl, rfl, Below.refl _ _, fun u hu => by cases hu⟩
theorem Pck.below {w wr w' : World} {us : List Value} {es : List En} {L : Option Addr} {k d : Nat} (h : Pck w us es L k d wr) (hb : Below wr.heap.size wr w') : Pck w us es L k d w' := by
  obtain ⟨vs, h1, h2, h3, h4, h5⟩ := h
  exact ⟨vs, h1.below hb, h2, h3, belowT' h4 hb, h5⟩
theorem Pck.bel {w wr : World} {us : List Value} {es : List En} {L : Option Addr} {k d : Nat} (h : Pck w us es L k d wr) : Below w.heap.size w wr := by
  obtain ⟨vs, h1, h2, h3, h4, h5⟩ := h
  exact h4
theorem Pck.len {w wr : World} {us : List Value} {es : List En} {L : Option Addr} {k d : Nat} (h : Pck w us es L k d wr) : es.length = k := by
  obtain ⟨vs, h1, h2, h3, h4, h5⟩ := h
  exact h3
theorem Pck.ret {w wr : World} {us : List Value} {es : List En} {L : Option Addr} {k d : Nat} (h : Pck w us es L k d wr) : RetPick w es us (.returned (.slice L k d)) wr := by
  obtain ⟨vs, h1, h2, h3, h4, h5⟩ := h
  exact ⟨L, k, d, vs, rfl, h1, h2.below h4, h3, h4, h5⟩
theorem Pck.snoc {w w4 : World} {us vs : List Value} {es : List En} {L' : Option Addr} {k d' : Nat} {x : En} {v0 v1 v2 v3 : Value} (h2 : EVs w es vs) (h3 : es.length = k) (h5 : ∀ u ∈ vs, u ∈ us)
    (hx : EV w x v0 v1 v2 v3) (hm : ∀ u ∈ [v0, v1, v2, v3], u ∈ us) (o4 : OwnE w4 w.heap.size L' (k + 1) d' (vs ++ [v0, v1, v2, v3])) (b4 : Below w.heap.size w w4) : Pck w us (es ++ [x]) L' (k + 1) d' w4 :=
  ⟨vs ++ [v0, v1, v2, v3], o4, h2.app (EVs.one hx), by simp [h3], b4, fun u hu => by
    rcases List.mem_append.1 hu with h | h
    · exact h5 u h
    · exact hm u h⟩
theorem mem4 {w : World} {A : Option Addr} {n k b off : Nat} {es : List En} {ovs : List Value} (hv : EVs w es ovs) (hd : RdV w A (n * 4) ovs) (hl : es.length = n) (hA : A = some ⟨b, off, none⟩) (hk : k < n) :
    ∃ e v0 v1 v2 v3, es[k]? = some e ∧ w.cell? ⟨b, off + k * 4, none⟩ = some v0 ∧ w.cell? ⟨b, off + k * 4 + 1, none⟩ = some v1 ∧
      w.cell? ⟨b, off + k * 4 + 2, none⟩ = some v2 ∧ w.cell? ⟨b, off + k * 4 + 3, none⟩ = some v3 ∧ EV w e v0 v1 v2 v3 ∧ ∀ u ∈ [v0, v1, v2, v3], u ∈ ovs := by
  subst hA
  obtain ⟨b', off', e, hb, hc⟩ := hd.2 (by omega)
  injection e with e
  injection e with e1 e2
  subst e1 e2
  obtain ⟨x, hx⟩ : ∃ x, es[k]? = some x := ⟨_, List.getElem?_eq_getElem (by omega)⟩
  obtain ⟨v0, v1, v2, v3, e0, e1, e2, e3, g0⟩ := hv.at_ k hx
  refine ⟨x, v0, v1, v2, v3, hx, hc _ _ e0, ?_, ?_, ?_, g0, fun u hu => ?_⟩
  · rw [Nat.add_assoc]; exact hc _ _ e1
  · rw [Nat.add_assoc]; exact hc _ _ e2
  · rw [Nat.add_assoc]; exact hc _ _ e3
  · simp only [List.mem_cons, List.not_mem_nil, or_false] at hu
    rcases hu with rfl | rfl | rfl | rfl
    · exact List.mem_of_getElem? e0
    · exact List.mem_of_getElem? e1
    · exact List.mem_of_getElem? e2
    · exact List.mem_of_getElem? e3
theorem filter_snoc {es : List En} {k : Nat} {x : En} {p : En → Bool} (hx : es[k]? = some x) : (es.take (k + 1)).filter p = (es.take k).filter p ++ (if p x then [x] else []) := by
  rw [List.take_add_one, hx, List.filter_append]
  simp only [Option.toList, List.filter_cons, List.filter_nil]
end Go.Proofs.Ytgigohfjioifaaa
namespace Go.Proofs.Ytgigohfjioifaaa
open Go Go.RowKit

section
variable {w : World} {A : Option Addr} {n c : Nat} {es : List En}
set_option maxRecDepth 100000 in
set_option maxHeartbeats 4000000 in
theorem mgOwn_any (h : REs w A n es) (hn : n ≤ 2097152) (hs : ∀ x ∈ es, SzE x) : Calls Try.prog 58 #[.slice A n c] w (RetRow w es) := by
  have HL := Lib.hid h.len
  have HS := Lib.hid hs
  obtain ⟨i, hi, hz, hsz, hby⟩ := info_parts info_ent
  obtain ⟨wm, hm1, hm2, hm3⟩ := run_make_own (P := Try.prog) (w := w) w.heap.size 25 33 i _ 4 Try.underlying25 hi hz hsz .i64 .i64 n (by rw [hby]; omega) (by unfold maxLen; omega) (Nat.le_refl _)
  have hbm : Below w.heap.size w wm := (Below.refl _ _).grown hm3 (Nat.le_refl _) (fun k hk => by cases hk)
  have HZ : Hid (RowE w w.heap.size (some ⟨w.heap.size, 0, none⟩) 0 n [] wm) := Lib.hid ⟨[], hm2, rfl, OffW.nil _, rfl, hbm, hbm.size, Fam.nil _ _⟩
  clear hs hm2 hm3 hbm hi hz hsz hby
  go_enter Try.func58, Try.ntmps58
  go_wp2_with fail
  go_loopw [3, 11] (fun s3 s11 wr => ∃ (k d : Nat) (L : Option Addr), k ≤ n ∧ s11 = .int .i64 (k : Int) ∧ s3 = .slice L k d ∧ RowE w w.heap.size L k d (es.take k) wr) (fun _ s _ => n - (intOf s).toNat)
  case atStart => exact ⟨0, n, _, Nat.zero_le _, rfl, rfl, HZ.out⟩
  case round =>
    obtain ⟨k, d, L, hk, rfl, rfl, hrow⟩ := hrel
    have HR := Lib.hid hrow
    have sw := hrow.size
    have hR : REs wr A n es := h.below hrow.bel
    clear hrow
    by_cases hlt : k < n
    · obtain ⟨b, off, rfl, hbl⟩ := hR.pos (by omega)
      obtain ⟨x, v0, v1, v2, v3, hx, m0, m1, m2, m3, hev⟩ := hR.at_ k hlt
      have hsx := HS.out x (List.mem_of_getElem? hx)
      have hwf := hR.wf x (List.mem_of_getElem? hx)
      obtain ⟨K, kn, kc, V, vn, vc, rfl, rfl, rfl, rfl, _⟩ := hev.parts
      have HXK := Lib.hid hx
      obtain ⟨U0, hU⟩ : ∃ U0, U0 = wr.alloc (.cells #[.slice K kn kc, .int .u64 (x.seq : Int), .int .u8 (x.kind : Int), .slice V vn vc] 33) := ⟨_, rfl⟩
      have bU : Below wr.heap.size wr U0 := by rw [hU]; exact (Below.refl _ _).alloc (Nat.le_refl _) _
      have HEN := Lib.hid (mgEntry_any (hev.below bU) hsx)
      have HRU := Lib.hid (HR.out.below bU)
      have HU := Lib.hid hU
      have su := bU.size
      have zU : Cl U0 wr.heap.size #[.slice K kn kc, .int .u64 (x.seq : Int), .int .u8 (x.kind : Int), .slice V vn vc] 33 := by rw [hU]; exact Cl.new _ _ _
      obtain ⟨z0, z1, z2, z3, _⟩ := zU.c4
      clear hx hev hR hU bU HR zU
      go_upto_region 5 with (fail)
      rw [← HU.out]
      go_wp2_with fail
      with_reducible refine HEN.out.mono ?_
      rintro e w2 ⟨K2, kn2, kc2, V2, vn2, vc2, rfl, o1, o2, b2, dj⟩
      obtain ⟨vs, q1, q2, q3, q4, q5, q6, q7⟩ := HRU.out
      have HFM := Lib.hid (fam_two o1 o2 dj)
      have Q7 := Lib.hid q7
      have s2 := b2.size
      have HEO : Hid (EO w.heap.size w2 x (.slice K2 kn2 kc2) (.int .u64 (x.seq : Int)) (.int .u8 (x.kind : Int)) (.slice V2 vn2 vc2)) := Lib.hid ⟨K2, kn2, kc2, V2, vn2, vc2, rfl, rfl, rfl, rfl, o1.mono q6, o2.mono q6, hwf⟩
      have HOF : Hid (OffW [.slice K2 kn2 kc2, .int .u64 (x.seq : Int), .int .u8 (x.kind : Int), .slice V2 vn2 vc2] (blk L)) := Lib.hid (EO.off (base := U0.heap.size) (w := w2) (e := x) ⟨K2, kn2, kc2, V2, vn2, vc2, rfl, rfl, rfl, rfl, o1, o2, hwf⟩ (fun g hg => .inl (q1.lt g hg).2))
      have HB2 := Lib.hid b2
      have Q1 := Lib.hid q1
      have Q2 := Lib.hid q2
      have Q3 := Lib.hid q3
      have Q4 := Lib.hid q4
      have Q5 := Lib.hid q5
      have hcell : ∀ u ∈ [Value.slice K2 kn2 kc2, .int .u64 (x.seq : Int), .int .u8 (x.kind : Int), .slice V2 vn2 vc2], u.oneCell' = true := HEO.out.ev.cells
      have HCL := Lib.hid hcell
      clear o1 o2 b2 q1 q2 q3 q4 q5 q7 dj hcell m0 m1 m2 m3 z0 z1 z2 z3
      go_wp2_with (at_builtin; refine wpList_app4t w2 rfl _ _ 25 rfl w.heap.size _ 64 Try.underlying25 info_ent rfl L k d vs rfl (Q1.out.below HB2.out) _ _ _ _ HCL.out w2.heap.size rfl rfl ?_ ?_ ?_ ?_)
      · omega
      · omega
      · omega
      intro L2 d2 w4 hG4 hg4 hb4
      have HQ : Hid (RowE w w.heap.size L2 (k + 1) d2 (es.take (k + 1)) w4) := Lib.hid (by
        rw [List.take_add_one, HXK.out]
        exact rowE_snoc Q1.out Q2.out Q3.out Q4.out Q5.out q6 Q7.out HB2.out HEO.out HOF.out HFM.out hG4 hg4 hb4)
      clear hG4 hg4 hb4
      go_wp2_with fail
      go_roundw
      case rel => exact ⟨k + 1, d2, L2, by omega, by go_num, rfl, HQ.out⟩
      case measure => simp [intOf]; omega
    · obtain rfl : k = n := by omega
      have htk := take_all HL.out hlt
      rw [htk] at HR
      clear htk
      go_wp2
      go_ret
      exact ⟨L, k, d, rfl, HR.out⟩
end
end Go.Proofs.Ytgigohfjioifaaa
namespace Go.Proofs.Ytgigohfjioifaaa
open Go Go.RowKit

/-- One entry more appended onto a row of entries, at a step of a region that draws its order. -/
theorem step_app4 {P : Program} (w : World) {ops : Array Oper} {o : Oper} {a : Act} {K : Act → World → Prop} {Q : Exit → Act → World → Prop} {E : Prop} (hgd : o.guard = none) (s x : Operand) (tt : TypeId)
    (ho : o.op = .call { callee := .builtin .append, args := #[s, x], argTypes := #[tt, tt] })
    (base : Nat) (z : Value) (by_ : Nat) (ht : P.underlying tt = some (.slice 33)) (hi : (P.info? 33).map (fun i => (i.zero, i.size, i.bytes)) = some (some z, 4, by_)) (hz1 : z.cells.size = 4)
    (A : Option Addr) (n c : Nat) (vs : List Value) (hs : a.eval s = .slice A n c) (hown : OwnE w base A n c vs)
    (ad : Addr) (m d : Nat) (ys : List Value) (hx : a.eval x = .slice (some ad) m d) (hr : RdV w (some ad) (m * 4) ys) (hm : 0 < m) (h1 : ∀ u ∈ ys, u.oneCell' = true)
    (hn : n + m ≤ maxLen) (hby : (n + m) * by_ ≤ 140737488355328) (hbase : base ≤ w.heap.size)
    (h : ∀ A' c' w', OwnE w' base A' (n + m) c' (vs ++ ys) → w.grownBy w' (blk A) → K (a.put o.dst (.slice A' (n + m) c')) w') :
    if Region.wanted o (yielded ops a.tmps) = true then Oper.wp P o a w K Q else E := by
  have hw : Region.wanted o (yielded ops a.tmps) = true := by simp [Region.wanted, hgd]
  rw [if_pos hw]
  obtain ⟨i, hi, hz, hsz, hby2⟩ := info_parts hi
  obtain ⟨b, off, e, _, hc⟩ := hr.2 (by omega)
  injection e with e
  subst e
  refine wp_append_own w s x tt ho base 33 i z 4 by_ ht hi hz hsz hby2 hz1 (by decide) (.slice A n c) n vs hs hown ⟨b, off, none⟩ m d ys hx hr.1 (fun j u hj => by rw [Addr.add_lit]; exact hc j u hj) h1 hn hby hbase ?_
  intro v' w' k1 k2 _
  obtain ⟨A', c', rfl⟩ : ∃ A' c', v' = .slice A' (n + m) c' := by
    rcases k1.2 with ⟨h3, h4⟩ | ⟨g, cap, cur, h3, _⟩
    · exact ⟨none, 0, by rw [h3, h4]⟩
    · exact ⟨_, _, h3⟩
  rw [own_blk] at k2
  exact h A' c' w' k1 k2
/-- Rows of other kinds lie in other blocks than an entry's bytes. -/
theorem eos_off {base : Nat} {w : World} {t : TypeId} {s b1 n c j : Nat} {L : Option Addr} {us : List Value} (k : w.ownsRow b1 t s (.slice L n c) j us) (hne : t ≠ 5) : ∀ {es : List En} {vs : List Value}, EOs base w es vs → OffW vs (blk L)
  | [], _, h => by rw [show _ = [] from h]; exact OffW.nil _
  | e :: es, vs, h => fun g hg A m d hv => by
    obtain ⟨v0, v1, v2, v3, r, rfl, ⟨K, kn, kc, V, vn, vc, rfl, rfl, rfl, rfl, o1, o2, _⟩, h2⟩ := h
    have ih := eos_off k hne h2 g hg A m d
    simp only [List.mem_cons] at hv
    rcases hv with e | e | e | e | e
    · injection e with e1 e2 e3
      rw [e1]
      exact fun h => row_ne k o1 hne g hg h
    · cases e
    · cases e
    · injection e with e1 e2 e3
      rw [e1]
      exact fun h => row_ne k o2 hne g hg h
    · exact ih e
end Go.Proofs.Ytgigohfjioifaaa
namespace Go.Proofs.Ytgigohfjioifaaa
open Go Go.RowKit

theorem ownV_box8 (w : World) (t : TypeId) (base : Nat) (vs : List Value) (n : Nat) (hl : vs.length = n) (hn : n ≤ 1024) (hb : base ≤ w.heap.size) (cs : Array Value) (hc : cs = vs.toArray) (g : Nat) (hg : g = w.heap.size) : OwnV t (w.alloc (.cells cs t)) base (some ⟨g, 0, none⟩) n n vs := by
  subst hc hg
  refine ⟨by simp [hl], .inr ⟨w.heap.size, n, vs.toArray, rfl, hb, heap_alloc_new w _, Nat.le_refl _, by unfold maxLen; omega, by simp [hl], ?_⟩⟩
  simp only [Nat.mul_one]
  exact List.take_of_length_le (by simp [hl])
theorem Rd.cst8 (w : World) (e : TypeId) (n : Nat) (xs : List UInt8) (hn : xs.length = n) (vs : Array Value) (hv : vs = (xs.map cv).toArray) (fr : Nat × Nat) (g : Nat) (hg : g = w.heap.size) :
    Rd (w.alloc (.cells vs e fr)) (some ⟨g, 0, none⟩) n xs := by
  subst hv hg
  refine ⟨hn, fun _ => ⟨w.heap.size, 0, rfl, by simp, fun i x hx => ?_⟩⟩
  have h := cell_of_row (w.alloc (.cells (xs.map cv).toArray e fr)) w.heap.size (0 + i) (xs.map cv).toArray e fr (heap_alloc_new w _)
  rw [h]
  simp [hx, cv]

def e81 : En := ⟨[97, 98], 5, 1, [120]⟩
def e82 : En := ⟨[97, 98, 99], 7, 2, []⟩
theorem b8 : (buildE 2 [e81, e82]).2 = 0 ∧ (buildE 2 [e81, e82]).1.length = 30 ∧ (buildE 2 [e81, e82]).1[8]? = some 0 ∧ (buildE 2 [e81, e82]).1[9]? = some 2 ∧ (buildE 2 [e81, e82]).1[10]? = some 5 ∧ (buildE 2 [e81, e82]).1[16]? = some 2 ∧ (buildE 2 [e81, e82]).1[17]? = some 1 ∧ (buildE 2 [e81, e82]).1[18]? = some 7 := by decide +kernel
set_option maxRecDepth 100000 in
set_option maxHeartbeats 4000000 in
theorem awake8_any (w : World) : Calls Try.prog 11 #[] w (RetT w true) := by
  have kc := fun (w : World) (C : Array Value) (n c g : Nat) (hg : g = w.heap.size) => Joins.run_convert_bytes_const_at (P := Try.prog) w 22 5 C n c g hg Try.underlying22 Try.underlying5
  go_enter Try.func11, Try.ntmps11
  go_wp2_with fail
  obtain ⟨W, hW⟩ : ∃ W, W = (((w.alloc (.cells #[.int .u8 97, .int .u8 98] 5 (2, 3))).alloc (.cells #[.int .u8 120] 5 (1, 2))).alloc (.cells #[.int .u8 97, .int .u8 98, .int .u8 99] 5 (3, 4))).alloc (.cells #[.slice (some ⟨w.heap.size, 0, none⟩) 2 2, .int .u64 5, .int .u8 1, .slice (some ⟨w.heap.size + 1, 0, none⟩) 1 1, .slice (some ⟨w.heap.size + 1 + 1, 0, none⟩) 3 3, .int .u64 7, .int .u8 2, .slice none 0 0] 33) := ⟨_, rfl⟩
  rw [← hW]
  have bW : Below w.heap.size w W := by rw [hW]; exact ((((Below.refl _ _).alloc (Nat.le_refl _) _).alloc (by simp) _).alloc (by simp; omega) _).alloc (by simp; omega) _
  have r1 : Rd W (some ⟨w.heap.size, 0, none⟩) 2 [97, 98] := by rw [hW]; exact (((Rd.cst8 w _ 2 [97, 98] rfl _ rfl (2, 3) _ rfl).alloc _).alloc _).alloc _
  have r2 : Rd W (some ⟨w.heap.size + 1, 0, none⟩) 1 [120] := by rw [hW]; exact ((Rd.cst8 _ _ 1 [120] rfl _ rfl (1, 2) _ (by simp)).alloc _).alloc _
  have r3 : Rd W (some ⟨w.heap.size + 1 + 1, 0, none⟩) 3 [97, 98, 99] := by rw [hW]; exact (Rd.cst8 _ _ 3 [97, 98, 99] rfl _ rfl (3, 4) _ (by simp)).alloc _
  have rV : RdV W (some ⟨w.heap.size + 1 + 1 + 1, 0, none⟩) 8 [.slice (some ⟨w.heap.size, 0, none⟩) 2 2, .int .u64 5, .int .u8 1, .slice (some ⟨w.heap.size + 1, 0, none⟩) 1 1, .slice (some ⟨w.heap.size + 1 + 1, 0, none⟩) 3 3, .int .u64 7, .int .u8 2, .slice none 0 0] := by rw [hW]; exact (ownV_box8 _ _ 0 _ 8 rfl (by omega) (Nat.zero_le _) _ rfl _ (by simp)).rd
  have hev1 : EV W e81 (.slice (some ⟨w.heap.size, 0, none⟩) 2 2) (.int .u64 5) (.int .u8 1) (.slice (some ⟨w.heap.size + 1, 0, none⟩) 1 1) := ⟨rfl, rfl, by unfold e81 U64; simp, by unfold e81; simp, ⟨_, 2, 2, rfl, r1, by omega, fun h => by cases h⟩, ⟨_, 1, 1, rfl, r2, by omega, fun h => by cases h⟩⟩
  have hev2 : EV W e82 (.slice (some ⟨w.heap.size + 1 + 1, 0, none⟩) 3 3) (.int .u64 7) (.int .u8 2) (.slice none 0 0) := ⟨rfl, rfl, by unfold e82 U64; simp, by unfold e82; simp, ⟨_, 3, 3, rfl, r3, by omega, fun h => by cases h⟩, ⟨_, 0, 0, rfl, Rd.nil _ _, by omega, fun _ => rfl⟩⟩
  have hes : REs W (some ⟨w.heap.size + 1 + 1 + 1, 0, none⟩) 2 [e81, e82] := REs.mk (vs := [_, _, _, _] ++ [_, _, _, _]) (EVs.app (EVs.one hev1) (EVs.one hev2)) rV rfl
  have hbd : Calls Try.prog 42 #[.int .i64 2, .slice (some ⟨w.heap.size + 1 + 1 + 1, 0, none⟩) 2 2] W (RetBb W (buildE 2 [e81, e82])) := build8_any hes (by omega) 2 (by omega) (by omega)
  obtain ⟨q1, q2, f1, f2, f3, f4, f5, f6⟩ := b8
  obtain ⟨z, hz⟩ : ∃ z, z = (buildE 2 [e81, e82]).1 := ⟨_, rfl⟩
  have hbd2 : Calls Try.prog 42 #[.int .i64 2, .slice (some ⟨w.heap.size + 1 + 1 + 1, 0, none⟩) 2 2] W (fun e w' => ∃ A c, e = .returned (.tuple #[.slice A 30 c, .int .i64 0]) ∧ Rd w' A 30 z ∧ Below W.heap.size W w') := hbd.mono (by
    rintro e w' ⟨A, c, he, ho, hb⟩
    rw [q1, q2] at he
    rw [q2, ← hz] at ho
    exact ⟨A, c, he, ho.rd, hb⟩)
  rw [← hz] at f1 f2 f3 f4 f5 f6
  have HBD := Lib.hid hbd2
  have HF := Lib.hid (And.intro f1 (And.intro f2 (And.intro f3 (And.intro f4 (And.intro f5 f6)))))
  have BW := Lib.hid bW
  clear hbd hbd2 hW bW r1 r2 r3 rV hev1 hev2 hes q1 q2 f1 f2 f3 f4 f5 f6 hz kc
  with_reducible refine HBD.out.mono ?_
  rintro e w2 ⟨A, c, rfl, rd, b2⟩
  obtain ⟨b, off, rfl, _⟩ := rd.pos (by omega)
  have key : ∀ (i : Nat) (y : UInt8), i < 30 → z[i]? = some y → w2.cell? ⟨b, off + i, none⟩ = some (.int .u8 (y.toNat : Int)) := fun i y hi hy => by
    obtain ⟨x, hx, hc, _⟩ := rd.at_ i hi
    rw [hy] at hx
    injection hx with hx
    rw [hx]
    exact hc
  have g1 : w2.cell? ⟨b, off + 8, none⟩ = some (.int .u8 0) := key 8 0 (by omega) HF.out.1
  have g2 : w2.cell? ⟨b, off + 9, none⟩ = some (.int .u8 2) := key 9 2 (by omega) HF.out.2.1
  have g3 : w2.cell? ⟨b, off + 10, none⟩ = some (.int .u8 5) := key 10 5 (by omega) HF.out.2.2.1
  have g4 : w2.cell? ⟨b, off + 16, none⟩ = some (.int .u8 2) := key 16 2 (by omega) HF.out.2.2.2.1
  have g5 : w2.cell? ⟨b, off + 17, none⟩ = some (.int .u8 1) := key 17 1 (by omega) HF.out.2.2.2.2.1
  have g6 : w2.cell? ⟨b, off + 18, none⟩ = some (.int .u8 7) := key 18 7 (by omega) HF.out.2.2.2.2.2
  have B2 := Lib.hid (BW.out.trans (b2.mono BW.out.size))
  clear key rd b2
  go_wp2_with fail
  go_ret
  exact ⟨rfl, B2.out⟩
end Go.Proofs.Ytgigohfjioifaaa
namespace Go.Proofs.Ytgigohfjioifaaa
open Go Go.RowKit

/-- 'So far sorted.' -/
def Spk (w : World) (us : List Value) (es : List En) (L : Option Addr) (k d : Nat) (wr : World) : Prop :=
  ∃ vs, OwnE wr w.heap.size L k d vs ∧ EVs wr es vs ∧ es.length = k ∧ Below w.heap.size w wr ∧ ∀ u ∈ vs, u ∈ us
section
variable {w wr w' : World} {us : List Value} {es : List En} {L : Option Addr} {k d : Nat}
theorem Spk.zero (w : World) (us : List Value) : Spk w us [] none 0 0 w := ⟨[], OwnE.nil _ _, rfl, rfl, Below.refl _ _, fun u hu => by cases hu⟩
theorem Spk.below (h : Spk w us es L k d wr) (hb : Below wr.heap.size wr w') : Spk w us es L k d w' := by
  obtain ⟨vs, h1, h2, h3, h4, h5⟩ := h
  exact ⟨vs, h1.below hb, h2.below hb, h3, belowT' h4 hb, h5⟩
theorem Spk.bel (h : Spk w us es L k d wr) : Below w.heap.size w wr := by
  obtain ⟨vs, h1, h2, h3, h4, h5⟩ := h
  exact h4
theorem Spk.res (h : Spk w us es L k d wr) : REs wr L k es := by
  obtain ⟨vs, h1, h2, h3, h4, h5⟩ := h
  exact REs.mk h2 h1.rd h3
theorem Spk.cap (h : Spk w us es L k d wr) : k ≤ d := by
  obtain ⟨vs, h1, h2, h3, h4, h5⟩ := h
  exact h1.cap.1
theorem Spk.ret (h : Spk w us es L k d wr) : RetPick w es us (.returned (.slice L k d)) wr := by
  obtain ⟨vs, h1, h2, h3, h4, h5⟩ := h
  exact ⟨L, k, d, vs, rfl, h1, h2, h3, h4, h5⟩
end
set_option maxRecDepth 100000 in
set_option maxHeartbeats 8000000 in
theorem sorted_any {w : World} {A : Option Addr} {n c : Nat} {es : List En} {ovs : List Value} (hv : EVs w es ovs) (hd : RdV w A (n * 4) ovs) (hl : es.length = n) (hn : n ≤ 1099511627776) (hs : ∀ x ∈ es, SzE x) :
    Calls Try.prog 31 #[.slice A n c] w (RetPick w (srt [] es) ovs) := by
  have HV := Lib.hid hv
  have HD := Lib.hid hd
  have HL := Lib.hid hl
  have HS := Lib.hid hs
  clear hv hd hl hs
  go_enter Try.func31, Try.ntmps31
  go_wp2_with fail
  go_loopw [3, 4] (fun s3 s4 wr => ∃ (k m d : Nat) (L : Option Addr), k ≤ n ∧ s4 = .int .i64 (k : Int) ∧ s3 = .slice L m d ∧ Spk w ovs (srt [] (es.take k)) L m d wr) (fun _ s _ => n - (intOf s).toNat)
  case atStart => exact ⟨0, 0, 0, none, Nat.zero_le _, rfl, rfl, Spk.zero w ovs⟩
  case round =>
    obtain ⟨k, m, d, L, hk, rfl, rfl, hp⟩ := hrel
    have HP := Lib.hid hp
    have HB := Lib.hid hp.bel
    clear hp
    by_cases hlt : k < n
    · obtain ⟨b, off, hAb, hbl⟩ : ∃ b off, A = some ⟨b, off, none⟩ ∧ b < w.heap.size := HD.out.pos (by omega)
      obtain ⟨x, v0, v1, v2, v3, hx, c0, c1, c2, c3, hev, hmem⟩ := mem4 HV.out HD.out HL.out hAb hlt
      subst hAb
      have hsx := HS.out x (List.mem_of_getElem? hx)
      have HEV := Lib.hid hev
      have HMEM := Lib.hid hmem
      have HXK := Lib.hid hx
      obtain ⟨K, kn, kc, V, vn, vc, rfl, rfl, rfl, rfl, r0, _⟩ := hev.parts
      obtain ⟨o, ho⟩ : ∃ o, o = srt [] (es.take k) := ⟨_, rfl⟩
      rw [← ho] at HP
      have hol : o.length ≤ n := by
        have := (srt_len (es.take k) []).1
        rw [← ho, List.length_take] at this
        simp only [List.length_nil] at this
        omega
      have hom : o.length = m := HP.out.res.len
      have HSO : Hid (∀ y ∈ o, SzE y) := Lib.hid (fun y hy => by
        rw [ho] at hy
        rcases srt_mem y hy with q | q
        · cases q
        · exact HS.out y (List.mem_of_mem_take q))
      have HFT : Hid (srt [] (es.take (k + 1)) = if okE x && !inL o x then insL o x else o) := Lib.hid (by
        rw [List.take_add_one, HXK.out]
        simp only [Option.toList]
        rw [srt_snoc, ← ho])
      have hB := HB.out
      have d0 := (hB.cell (p := ⟨b, off + k * 4, none⟩) hbl).trans c0
      have d1 := (hB.cell (p := ⟨b, off + k * 4 + 1, none⟩) hbl).trans c1
      have d2 := (hB.cell (p := ⟨b, off + k * 4 + 2, none⟩) hbl).trans c2
      have d3 := (hB.cell (p := ⟨b, off + k * 4 + 3, none⟩) hbl).trans c3
      have HSX : Hid (∀ wx, Below wr.heap.size wr wx → wx.cell? ⟨b, off + k * 4, none⟩ = some (.slice K kn kc) ∧ wx.cell? ⟨b, off + k * 4 + 1, none⟩ = some (.int .u64 (x.seq : Int)) ∧ wx.cell? ⟨b, off + k * 4 + 2, none⟩ = some (.int .u8 (x.kind : Int)) ∧ wx.cell? ⟨b, off + k * 4 + 3, none⟩ = some (.slice V vn vc)) := Lib.hid (fun wx h => by
        have hb2 : b < wr.heap.size := Nat.lt_of_lt_of_le hbl hB.size
        exact ⟨(h.cell (p := ⟨b, off + k * 4, none⟩) hb2).trans d0, (h.cell (p := ⟨b, off + k * 4 + 1, none⟩) hb2).trans d1, (h.cell (p := ⟨b, off + k * 4 + 2, none⟩) hb2).trans d2, (h.cell (p := ⟨b, off + k * 4 + 3, none⟩) hb2).trans d3⟩)
      obtain ⟨zc, hzc⟩ : ∃ z, z = checkE [x] := ⟨_, rfl⟩
      obtain ⟨zi, hzi⟩ : ∃ z, z = inL o x := ⟨_, rfl⟩
      have HOK : Hid (okE x = decide (zc = 0)) := Lib.hid (by rw [hzc]; rfl)
      have HZI := Lib.hid hzi
      obtain ⟨W, hW⟩ : ∃ W, W = wr.alloc (.cells #[.slice K kn kc, .int .u64 (x.seq : Int), .int .u8 (x.kind : Int), .slice V vn vc] 33) := ⟨_, rfl⟩
      have bW : Below wr.heap.size wr W := by rw [hW]; exact (Below.refl _ _).alloc (Nat.le_refl _) _
      have BW := Lib.hid bW
      have HEVr := Lib.hid (HEV.out.below hB)
      have HC : Hid (Calls Try.prog 60 #[.slice (some ⟨wr.heap.size, 0, none⟩) 1 1] W (RetNu W zc)) := Lib.hid (by
        rw [hzc]
        refine refCheck_any (REs.mk (EVs.one (HEVr.out.below bW)) ?_ rfl) (by omega) (fun y hy => by simp only [List.mem_singleton] at hy; subst hy; exact hsx)
        rw [hW]
        exact rdv_of_cl (Cl.new wr #[.slice K kn kc, .int .u64 (x.seq : Int), .int .u8 (x.kind : Int), .slice V vn vc] 33))
      have HI : Hid (∀ wx, Below wr.heap.size wr wx → Calls Try.prog 62 #[.slice L m d, .agg #[.slice K kn kc, .int .u64 (x.seq : Int), .int .u8 (x.kind : Int), .slice V vn vc]] wx (RetT wx zi)) := Lib.hid (fun wx h => by
        rw [hzi]
        exact In_any (HP.out.res.below h) (by omega) HSO.out (HEVr.out.below h) hsx)
      clear hx c0 c1 c2 c3 hev hmem r0 hB ho hzc hzi bW
      go_upto_region 5 with (fail)
      go_cut [26] from 5 to 27 (fun s26 wx => s26 = .bool (okE x && !inL o x) ∧ Below wr.heap.size wr wx)
      case first =>
        by_cases t1 : zc = 0
        · have h1 : (zc == 0) = true := by simpa using t1
          have hok : okE x = true := by rw [HOK.out]; simpa using t1
          have HOKT := Lib.hid hok
          clear t1 hok
          go_wp2_with fail
          rw [← hW]
          with_reducible refine HC.out.mono ?_
          rintro e w1 ⟨rfl, b1⟩
          have b1' := belowT' BW.out b1
          obtain ⟨e0, e1, e2, e3⟩ := HSX.out _ b1'
          have B1 := Lib.hid b1'
          clear b1 b1' d0 d1 d2 d3
          go_wp2_with fail
          with_reducible refine (HI.out _ B1.out).mono ?_
          intro e w2 hq
          obtain ⟨hh, b2⟩ := RetT.outD hq
          subst hh
          have B2 := Lib.hid (belowT' B1.out b2)
          clear hq b2 e0 e1 e2 e3
          go_wp2_with fail
          go_meet
          exact ⟨by rw [HOKT.out, ← HZI.out]; rfl, B2.out⟩
        · have h1 : (zc == 0) = false := by simpa using t1
          have hok : okE x = false := by rw [HOK.out]; simpa using t1
          have HOKF := Lib.hid hok
          clear t1 hok
          go_wp2_with fail
          rw [← hW]
          with_reducible refine HC.out.mono ?_
          rintro e w1 ⟨rfl, b1⟩
          have b1' := belowT' BW.out b1
          have B1 := Lib.hid b1'
          clear b1 b1' d0 d1 d2 d3
          go_wp2_with fail
          go_meet
          exact ⟨by rw [HOKF.out]; rfl, B1.out⟩
      case rest =>
        obtain ⟨rfl, hbc⟩ := hcut
        obtain ⟨zz, hzz⟩ : ∃ zz, zz = (okE x && !inL o x) := ⟨_, rfl⟩
        rw [← hzz] at HFT ⊢
        have BC := Lib.hid hbc
        have HPC := Lib.hid (HP.out.below hbc)
        have HEC := Lib.hid (HEVr.out.below hbc)
        obtain ⟨e0, e1, e2, e3⟩ := HSX.out _ hbc
        clear hbc hzz d0 d1 d2 d3 hW
        cases zz with
        | true =>
          obtain ⟨vs, o1, hev1, hlen1, hb1, hm1⟩ := HPC.out
          have HM1 := Lib.hid hm1
          have HB1 := Lib.hid hb1
          have HI2 : Hid (Calls Try.prog 63 #[.slice L m d, .agg #[.slice K kn kc, .int .u64 (x.seq : Int), .int .u8 (x.kind : Int), .slice V vn vc]] wc (RetIns wc (m + 1) (insL o x) ([.slice K kn kc, .int .u64 (x.seq : Int), .int .u8 (x.kind : Int), .slice V vn vc] ++ vs))) := Lib.hid (Insert_any hev1 o1.rd hlen1 o1.cap.1 (by omega) HSO.out HEC.out hsx)
          clear o1 hev1 hlen1 hb1 hm1
          go_wp2_with fail
          with_reducible refine HI2.out.mono ?_
          intro e w3 hq
          obtain ⟨L3, d3', us, h1, o3, ev3, b3, hmem⟩ := RetIns.out hq
          subst h1
          have sC := HB1.out.size
          have HP2 : Hid (Spk w ovs (srt [] (es.take (k + 1))) L3 (m + 1) d3' w3) := Lib.hid (by
            rw [HFT.out, if_pos trivial]
            exact ⟨us, o3.mono sC, ev3, by rw [insL_len, hom], belowT' HB1.out b3, fun u hu => by
              rcases List.mem_append.1 (hmem u hu) with h | h
              · exact HMEM.out u h
              · exact HM1.out u h⟩)
          clear hq o3 ev3 b3 hmem e0 e1 e2 e3
          go_wp2_with fail
          go_roundw
          case rel => exact ⟨k + 1, m + 1, d3', L3, by omega, by go_num, rfl, HP2.out⟩
          case measure => simp [intOf]; omega
        | false =>
          have HP2 : Hid (Spk w ovs (srt [] (es.take (k + 1))) L m d wc) := Lib.hid (by
            rw [HFT.out, if_neg (by simp)]
            exact HPC.out)
          clear e0 e1 e2 e3
          go_wp2_with fail
          go_roundw
          case rel => exact ⟨k + 1, m, d, L, by omega, by go_num, rfl, HP2.out⟩
          case measure => simp [intOf]; omega
    · have htk := take_all HL.out hlt
      rw [htk] at HP
      clear htk
      go_wp2
      go_ret
      exact HP.out.ret
end Go.Proofs.Ytgigohfjioifaaa
namespace Go.Proofs.Ytgigohfjioifaaa
open Go Go.RowKit

/-- The error of one list. -/
def chk1 (es : List En) : Int := if checkE es ≠ 0 then checkE es else if ordE es then 0 else 3
/-- The least of two errors. -/
def comb (a b : Int) : Int := if b ≠ 0 ∧ (a = 0 ∨ b < a) then b else a
/-- The least error of lists. -/
def chkL (ls : List (List En)) : Int := ls.foldl (fun a x => comb a (chk1 x)) 0
theorem checkE_kinds (es : List En) : checkE es = 0 ∨ checkE es = 2 ∨ checkE es = 3 := by
  unfold checkE
  split
  · exact .inr (.inl rfl)
  · split
    · exact .inl rfl
    · exact .inr (.inr rfl)
theorem chk1_kinds (es : List En) : chk1 es = 0 ∨ chk1 es = 2 ∨ chk1 es = 3 := by
  unfold chk1
  split
  · exact checkE_kinds es
  · split
    · exact .inl rfl
    · exact .inr (.inr rfl)
theorem comb_kinds {a b : Int} (ha : a = 0 ∨ a = 2 ∨ a = 3) (hb : b = 0 ∨ b = 2 ∨ b = 3) : comb a b = 0 ∨ comb a b = 2 ∨ comb a b = 3 := by
  unfold comb
  split
  · exact hb
  · exact ha
theorem comb_two {a : Int} (ha : a = 0 ∨ a = 2 ∨ a = 3) : comb a 2 = 2 := by
  rcases ha with rfl | rfl | rfl <;> rfl
theorem two_comb {b : Int} (hb : b = 0 ∨ b = 2 ∨ b = 3) : comb 2 b = 2 := by
  rcases hb with rfl | rfl | rfl <;> rfl
theorem foldl_two : ∀ ls : List (List En), ls.foldl (fun a x => comb a (chk1 x)) 2 = 2
  | [] => rfl
  | x :: t => by rw [List.foldl_cons, two_comb (chk1_kinds x)]; exact foldl_two t
theorem chkL_snoc {ls : List (List En)} {k : Nat} {x : List En} (h : ls[k]? = some x) : chkL (ls.take (k + 1)) = comb (chkL (ls.take k)) (chk1 x) := by
  unfold chkL
  rw [List.take_add_one, h, List.foldl_append]
  rfl
theorem foldl_kinds : ∀ (ls : List (List En)) {a : Int}, (a = 0 ∨ a = 2 ∨ a = 3) → (ls.foldl (fun a x => comb a (chk1 x)) a = 0 ∨ ls.foldl (fun a x => comb a (chk1 x)) a = 2 ∨ ls.foldl (fun a x => comb a (chk1 x)) a = 3)
  | [], _, h => h
  | x :: t, _, h => by rw [List.foldl_cons]; exact foldl_kinds t (comb_kinds h (chk1_kinds x))
theorem chkL_kinds (ls : List (List En)) : chkL ls = 0 ∨ chkL ls = 2 ∨ chkL ls = 3 := foldl_kinds ls (.inl rfl)
theorem chkL_two {ls : List (List En)} {k : Nat} {x : List En} (h : ls[k]? = some x) (hx : chk1 x = 2) : chkL ls = 2 := by
  have e : ls = ls.take (k + 1) ++ ls.drop (k + 1) := (List.take_append_drop _ _).symm
  have h2 : chkL (ls.take (k + 1)) = 2 := by rw [chkL_snoc h, hx]; exact comb_two (chkL_kinds _)
  have h3 : chkL ls = (ls.drop (k + 1)).foldl (fun a x => comb a (chk1 x)) (chkL (ls.take (k + 1))) := by
    unfold chkL
    rw [← List.foldl_append, List.take_append_drop]
  rw [h3, h2]
  exact foldl_two _
theorem chkL_one (es : List En) : chkL [es] = chk1 es := by
  show comb 0 (chk1 es) = chk1 es
  rcases chk1_kinds es with h | h | h <;> rw [h] <;> rfl
theorem RLs.below {w w' : World} {A : Option Addr} {n : Nat} {ls : List (List En)} (h : RLs w A n ls) (hb : Below w.heap.size w w') : RLs w' A n ls := by
  refine ⟨h.1, fun h0 => ?_⟩
  obtain ⟨b, off, e, hbl, hc⟩ := h.2 h0
  refine ⟨b, off, e, Nat.lt_of_lt_of_le hbl hb.size, fun i es hi => ?_⟩
  obtain ⟨B, m, c, h1, h2, h3⟩ := hc i es hi
  exact ⟨B, m, c, (hb.cell (p := ⟨b, off + i, none⟩) hbl).trans h1, h2.below hb, h3⟩
theorem RLs.len {w : World} {A : Option Addr} {n : Nat} {ls : List (List En)} (h : RLs w A n ls) : ls.length = n := h.1
section
variable {w : World} {A : Option Addr} {n c : Nat} {ls : List (List En)}
set_option maxRecDepth 100000 in
set_option maxHeartbeats 8000000 in
theorem mgCheck_any (h : RLs w A n ls) (hn : n ≤ 1099511627776) (hs : ∀ es ∈ ls, es.length ≤ 1099511627776) : Calls Try.prog 57 #[.slice A n c] w (RetNu w (chkL ls)) := by
  have HL := Lib.hid h.len
  have HS := Lib.hid hs
  have HR := Lib.hid h
  clear h hs
  go_enter Try.func57, Try.ntmps57
  go_wp2_with fail
  go_loopw [3, 9] (fun s3 s9 wr => ∃ (k : Nat) (z : Int), k ≤ n ∧ s9 = .int .i64 (k : Int) ∧ s3 = .int .i64 z ∧ (z = 0 ∨ z = 3) ∧ chkL (ls.take k) = z ∧ Below w.heap.size w wr) (fun _ s _ => n - (intOf s).toNat)
  case atStart => exact ⟨0, 0, Nat.zero_le _, rfl, rfl, .inl rfl, rfl, Below.refl _ _⟩
  case round =>
    obtain ⟨k, z, hk, rfl, rfl, hz, hc, hB⟩ := hrel
    have HB := Lib.hid hB
    have HC := Lib.hid hc
    have HZ := Lib.hid hz
    have hR := HR.out.below hB
    clear hB hc hz
    by_cases hlt : k < n
    · obtain ⟨b, off, hAb, hbl⟩ := hR.pos (by omega)
      subst hAb
      obtain ⟨es, B, m, d, hx, c0, hre, hmd⟩ := hR.at_ k hlt
      have hme : m ≤ 1099511627776 := by have := HS.out es (List.mem_of_getElem? hx); rw [← hre.len]; exact this
      have HXK := Lib.hid hx
      obtain ⟨e1, he1⟩ : ∃ e1, e1 = checkE es := ⟨_, rfl⟩
      have HM : Hid (Calls Try.prog 74 #[.slice B m d] wr (RetNu wr e1)) := Lib.hid (by rw [he1]; exact memCheck_any hre hme)
      obtain ⟨z1, hz1⟩ : ∃ z1, z1 = ordE es := ⟨_, rfl⟩
      have HO : Hid (∀ wx, Below wr.heap.size wr wx → Calls Try.prog 94 #[.slice B m d] wx (RetT wx z1)) := Lib.hid (fun wx hb => by rw [hz1]; exact mgInOrder_any (hre.below hb) hme)
      have hk1 := checkE_kinds es
      rw [← he1] at hk1
      have HST := Lib.hid (chkL_snoc hx)
      have H1 : Hid (chk1 es = if e1 ≠ 0 then e1 else if z1 then 0 else 3) := Lib.hid (by unfold chk1; rw [he1, hz1])
      have HTW := Lib.hid (fun hh => chkL_two hx hh)
      clear hR hx hre he1 hz1
      go_wp2_with fail
      with_reducible refine HM.out.mono ?_
      rintro e w1 ⟨rfl, b1⟩
      have B1 := Lib.hid (HB.out.trans (b1.mono HB.out.size))
      have H1B := Lib.hid b1
      clear b1
      rcases hk1 with rfl | rfl | rfl
      · have HOC := Lib.hid (HO.out _ H1B.out)
        cases z1 with
        | true =>
          have HC2 : Hid (chkL (ls.take (k + 1)) = z) := Lib.hid (by rw [HST.out, HC.out, H1.out]; rcases HZ.out with rfl | rfl <;> rfl)
          go_wp2_with fail
          with_reducible refine HOC.out.mono ?_
          intro e w2 hq
          obtain ⟨h2, b2⟩ := RetT.outD hq
          subst h2
          have B2 := Lib.hid (belowT' B1.out b2)
          clear hq b2
          go_wp2_with fail
          go_roundw
          case rel => exact ⟨k + 1, z, by omega, by go_num, rfl, HZ.out, HC2.out, B2.out⟩
          case measure => simp [intOf]; omega
        | false =>
          have HC2 : Hid (chkL (ls.take (k + 1)) = 3) := Lib.hid (by rw [HST.out, HC.out, H1.out]; rcases HZ.out with rfl | rfl <;> rfl)
          go_wp2_with fail
          with_reducible refine HOC.out.mono ?_
          intro e w2 hq
          obtain ⟨h2, b2⟩ := RetT.outD hq
          subst h2
          have B2 := Lib.hid (belowT' B1.out b2)
          clear hq b2
          go_wp2_with fail
          go_roundw
          case rel => exact ⟨k + 1, 3, by omega, by go_num, rfl, .inr rfl, HC2.out, B2.out⟩
          case measure => simp [intOf]; omega
      · have HF : Hid (chkL ls = 2) := Lib.hid (HTW.out (by rw [H1.out]; rfl))
        go_wp2_with fail
        go_ret
        exact ⟨by rw [HF.out]; rfl, B1.out⟩
      · have HC2 : Hid (chkL (ls.take (k + 1)) = 3) := Lib.hid (by rw [HST.out, HC.out, H1.out]; rcases HZ.out with rfl | rfl <;> rfl)
        go_wp2_with fail
        go_roundw
        case rel => exact ⟨k + 1, 3, by omega, by go_num, rfl, .inr rfl, HC2.out, B1.out⟩
        case measure => simp [intOf]; omega
    · have htk : ls.take k = ls := List.take_of_length_le (by have := HL.out; omega)
      rw [htk] at HC
      clear htk hR
      go_wp2_with fail
      go_ret
      exact ⟨by rw [HC.out]; rfl, HB.out⟩
set_option maxRecDepth 100000 in
set_option maxHeartbeats 8000000 in
theorem refCheck11_any (h : RLs w A n ls) (hn : n ≤ 1099511627776) (hs : ∀ es ∈ ls, es.length ≤ 1099511627776) (hz : ∀ es ∈ ls, ∀ x ∈ es, SzE x) : Calls Try.prog 23 #[.slice A n c] w (RetNu w (chkL ls)) := by
  have HL := Lib.hid h.len
  have HS := Lib.hid hs
  have HR := Lib.hid h
  have HZZ := Lib.hid hz
  clear h hs hz
  go_enter Try.func23, Try.ntmps23
  go_wp2_with fail
  go_loopw [3, 4] (fun s3 s4 wr => ∃ (k : Nat) (z : Int), k ≤ n ∧ s4 = .int .i64 (k : Int) ∧ s3 = .int .i64 z ∧ chkL (ls.take k) = z ∧ Below w.heap.size w wr) (fun _ s _ => n - (intOf s).toNat)
  case atStart => exact ⟨0, 0, Nat.zero_le _, rfl, rfl, rfl, Below.refl _ _⟩
  case round =>
    obtain ⟨k, z, hk, rfl, rfl, hc, hB⟩ := hrel
    have HB := Lib.hid hB
    have hz := chkL_kinds (ls.take k)
    rw [hc] at hz
    have HC := Lib.hid hc
    have hR := HR.out.below hB
    clear hB hc
    by_cases hlt : k < n
    · obtain ⟨b, off, hAb, hbl⟩ := hR.pos (by omega)
      subst hAb
      obtain ⟨es, B, m, d, hx, c0, hre, hmd⟩ := hR.at_ k hlt
      have hme : m ≤ 1099511627776 := by have := HS.out es (List.mem_of_getElem? hx); rw [← hre.len]; exact this
      have HXK := Lib.hid hx
      obtain ⟨e1, he1⟩ : ∃ e1, e1 = checkE es := ⟨_, rfl⟩
      have HM : Hid (Calls Try.prog 60 #[.slice B m d] wr (RetNu wr e1)) := Lib.hid (by rw [he1]; exact refCheck_any hre hme (HZZ.out es (List.mem_of_getElem? hx)))
      obtain ⟨z1, hz1⟩ : ∃ z1, z1 = ordE es := ⟨_, rfl⟩
      have HO : Hid (∀ wx, Below wr.heap.size wr wx → Calls Try.prog 61 #[.slice B m d] wx (RetT wx z1)) := Lib.hid (fun wx hb => by rw [hz1]; exact ordered_any (hre.below hb) hme (HZZ.out es (List.mem_of_getElem? hx)))
      have HC0 : Hid (∀ wx, Below wr.heap.size wr wx → wx.cell? ⟨b, off + k, none⟩ = some (.slice B m d)) := Lib.hid (fun wx hb => (hb.cell (p := ⟨b, off + k, none⟩) hbl).trans c0)
      have hk1 := checkE_kinds es
      rw [← he1] at hk1
      have HST := Lib.hid (chkL_snoc hx)
      have H1 : Hid (chk1 es = if e1 ≠ 0 then e1 else if z1 then 0 else 3) := Lib.hid (by unfold chk1; rw [he1, hz1])
      clear hR hx hre he1 hz1
      go_wp2_with fail
      with_reducible refine HM.out.mono ?_
      rintro e w1 ⟨rfl, b1⟩
      have B1 := Lib.hid (HB.out.trans (b1.mono HB.out.size))
      have H1B := Lib.hid b1
      have d0 := HC0.out _ b1
      clear b1 c0
      rcases hk1 with rfl | rfl | rfl
      · have HOC := Lib.hid (HO.out _ H1B.out)
        cases z1 with
        | true =>
          have HC2 : Hid (chkL (ls.take (k + 1)) = z) := Lib.hid (by rw [HST.out, HC.out, H1.out]; rcases hz with rfl | rfl | rfl <;> rfl)
          go_wp2_with fail
          with_reducible refine HOC.out.mono ?_
          intro e w2 hq
          obtain ⟨h2, b2⟩ := RetT.outD hq
          subst h2
          have B2 := Lib.hid (belowT' B1.out b2)
          clear hq b2 d0
          go_wp2_with fail
          go_roundw
          case rel => exact ⟨k + 1, z, by omega, by go_num, rfl, HC2.out, B2.out⟩
          case measure => simp [intOf]; omega
        | false =>
          go_wp2_with fail
          with_reducible refine HOC.out.mono ?_
          intro e w2 hq
          obtain ⟨h2, b2⟩ := RetT.outD hq
          subst h2
          have B2 := Lib.hid (belowT' B1.out b2)
          clear hq b2 d0
          have HC2 := HST.out
          rw [HC.out, H1.out] at HC2
          have HC3 := Lib.hid HC2
          clear HC2
          rcases hz with rfl | rfl | rfl
          all_goals
            go_wp2_with fail
            go_roundw
            case rel => exact ⟨k + 1, _, by omega, by go_num, rfl, HC3.out, B2.out⟩
            case measure => simp [intOf]; omega
      all_goals
        have HC2 := HST.out
        rw [HC.out, H1.out] at HC2
        have HC3 := Lib.hid HC2
        clear HC2 d0
        rcases hz with rfl | rfl | rfl
        all_goals
          go_wp2_with fail
          go_roundw
          case rel => exact ⟨k + 1, _, by omega, by go_num, rfl, HC3.out, B1.out⟩
          case measure => simp [intOf]; omega
    · have htk : ls.take k = ls := List.take_of_length_le (by have := HL.out; omega)
      rw [htk] at HC
      clear htk hR
      go_wp2_with fail
      go_ret
      exact ⟨by rw [HC.out]; rfl, HB.out⟩
end
end Go.Proofs.Ytgigohfjioifaaa
namespace Go.Proofs.Ytgigohfjioifaaa
open Go Go.RowKit

def bsM (xs : List UInt8) : ByteArray := ⟨⟨xs⟩⟩
theorem conv_any {w : World} {n c : Nat} {A : Option Addr} {xs : List UInt8} (h : Rd w A n xs) : (convert 22 9 (.slice A n c)).run Try.prog w = .ok (.string (bsM xs)) w := by
  rcases Nat.eq_zero_or_pos n with hn | hn
  · subst hn
    have hx : xs = [] := List.eq_nil_of_length_eq_zero h.1
    subst hx
    cases A with
    | none =>
      rw [run_convert_bytes_nil w 22 5 Try.underlying22 Try.underlying5 0 c 9 Try.underlying9]
      rfl
    | some a =>
      rw [run_convert_bytes_string w 22 9 5 (some a) 0 c Try.underlying22 Try.underlying5 Try.underlying9,
        run_bytesToString w a 0 c [] (run_loadCells_list (P := Try.prog) w a [] (fun j v hj => by simp at hj))]
      rfl
  · obtain ⟨b, off, rfl, _⟩ := h.pos hn
    rw [run_convert_bytes_arg w 22 5 Try.underlying22 Try.underlying5 b off n c (xs.map fun x => (x.toNat : Int)) (by simpa using h.len) ?_ 9 Try.underlying9]
    · congr 2
      unfold strOfNums bsM
      congr 2
      rw [List.map_map]
      conv => rhs; rw [← List.map_id xs]
      apply List.map_congr_left
      intro x _
      simp
    · intro i hi
      obtain ⟨x, hx, hc, _⟩ := h.at_ i hi
      rw [hc]
      simp [List.getD, List.getElem?_map, hx]
set_option maxRecDepth 100000 in
theorem mgEqual_any (A B : Option Addr) (n m c d : Nat) (xs ys : List UInt8) (w : World) (hx : Rd w A n xs) (hy : Rd w B m ys) :
    Calls Try.prog 49 #[.slice A n c, .slice B m d] w (fun e w' => e = .returned (.bool (eqB xs ys)) ∧ w' = w) := by
  have k1 := conv_any (c := c) hx
  have k2 := conv_any (c := d) hy
  have hb : ((bsM xs).toList == (bsM ys).toList) = eqB xs ys := by rw [ByteArray.toList_eq, ByteArray.toList_eq]; rfl
  have HB := Lib.hid hb
  clear hb hx hy
  go_enter Try.func49, Try.ntmps49
  go_wp2_with fail
  go_ret
  exact ⟨by rw [← HB.out]; rfl, rfl⟩
/-- The Seq of the next newer version of the i-th entry's key. -/
def newerE (es : List En) : Nat → Option Nat
  | 0 => none
  | j + 1 => match es[j]?, es[j + 1]? with
    | some a, some b => if eqB a.key b.key then some a.seq else none
    | _, _ => none
theorem newerE_at {es : List En} {j : Nat} {a b : En} (h1 : es[j]? = some a) (h2 : es[j + 1]? = some b) : newerE es (j + 1) = if eqB a.key b.key then some a.seq else none := by
  rw [newerE, h1, h2]
/-- What newer hands back. -/
def RetNw (w : World) (o : Option Nat) (e : Ending) (w' : World) : Prop := e = .returned (.tuple #[.int .u64 ((o.getD 0 : Nat) : Int), .bool o.isSome]) ∧ ∃ q, w' = w.drewN q
section
variable {w : World} {A : Option Addr} {n c : Nat} {es : List En}
set_option maxRecDepth 100000 in
set_option maxHeartbeats 4000000 in
theorem mgNewer_any (h : REs w A n es) (hn : n ≤ 1099511627776) (i : Nat) (hi : i < n) : Calls Try.prog 69 #[.slice A n c, .int .i64 (i : Int)] w (RetNw w (newerE es i)) := by
  cases i with
  | zero =>
    obtain ⟨b, off, rfl, hbl⟩ := h.pos (by omega)
    have HH := Lib.hid h
    clear h
    go_enter Try.func69, Try.ntmps69
    go_wp2_with fail
    go_quiet (fail)
    go_wp2_with fail
    exact bodyPost_ret (v := .tuple #[.int .u64 0, .bool false]) (by simp [results, Try.f69, go_sem]; try rfl) rfl ⟨rfl, _, rfl⟩
  | succ j =>
    obtain ⟨b, off, rfl, hbl⟩ := h.pos (by omega)
    obtain ⟨x, v0, v1, v2, v3, hx, c0, c1, c2, c3, hev⟩ := h.at_ j (by omega)
    obtain ⟨y, u0, u1, u2, u3, hy, d0, d1, d2, d3, hew⟩ := h.at_ (j + 1) hi
    obtain ⟨K, kn, kc, V, vn, vc, rfl, rfl, rfl, rfl, r0, _⟩ := hev.parts
    obtain ⟨L, ln, lc, M, mn, mc, rfl, rfl, rfl, rfl, q0, _⟩ := hew.parts
    obtain ⟨k, hk⟩ : ∃ k, k = j + 1 := ⟨_, rfl⟩
    have hnw := newerE_at hx hy
    rw [← hk] at hnw d0 d1 d2 d3 hi ⊢
    obtain ⟨z, hz⟩ : ∃ z, z = eqB x.key y.key := ⟨_, rfl⟩
    rw [← hz] at hnw
    have HE : Hid (∀ q, Calls Try.prog 49 #[.slice K kn kc, .slice L ln lc] (w.drewN q) (fun e w' => e = .returned (.bool z) ∧ w' = w.drewN q)) := Lib.hid (fun q => by rw [hz]; exact mgEqual_any _ _ _ _ _ _ _ _ _ (r0.drewN q) (q0.drewN q))
    have HN := Lib.hid hnw
    have t1 : ((k : Int) == 0) = false := by rw [beq_eq_false_iff_ne]; omega
    have hk1 : IntKind.i64.wrap ((k : Int) - 1) = (j : Int) := by rw [IntWalk.i64_in _ (by omega)]; omega
    have hjn : j < n := by omega
    clear h hx hy hev hew r0 q0 hz hnw hk
    cases z with
    | true =>
      go_enter Try.func69, Try.ntmps69
      go_wp2_with fail
      go_quiet ((go_at_call 49; with_reducible exact Calls.quiet_of_same (HE.out _)))
      go_wp2_with fail
      exact bodyPost_ret (v := .tuple #[.int .u64 (x.seq : Int), .bool true]) (by simp [results, Try.f69, go_sem]; try rfl) rfl ⟨by rw [HN.out]; rfl, _, rfl⟩
    | false =>
      go_enter Try.func69, Try.ntmps69
      go_wp2_with fail
      go_quiet ((go_at_call 49; with_reducible exact Calls.quiet_of_same (HE.out _)))
      go_wp2_with fail
      exact bodyPost_ret (v := .tuple #[.int .u64 0, .bool false]) (by simp [results, Try.f69, go_sem]; try rfl) rfl ⟨by rw [HN.out]; rfl, _, rfl⟩
end
end Go.Proofs.Ytgigohfjioifaaa
namespace Go.Proofs.Ytgigohfjioifaaa
open Go Go.RowKit

/-- A number as a value. -/
def uv (m : Nat) : Value := .int .u64 (m : Int)
/-- 'The slice of n numbers at A reads as these.' -/
def RdU (w : World) (A : Option Addr) (n : Nat) (ms : List Nat) : Prop := RdV w A n (ms.map uv) ∧ ∀ m ∈ ms, U64 m
theorem RdU.len {w : World} {A : Option Addr} {n : Nat} {ms : List Nat} (h : RdU w A n ms) : ms.length = n := by
  have := h.1.1
  simpa using this
theorem RdU.below {w w' : World} {A : Option Addr} {n : Nat} {ms : List Nat} (h : RdU w A n ms) (hb : Below w.heap.size w w') : RdU w' A n ms := ⟨h.1.below hb, h.2⟩
theorem RdU.drewN {w : World} {A : Option Addr} {n : Nat} {ms : List Nat} (h : RdU w A n ms) (q : Nat) : RdU (w.drewN q) A n ms := h.below (below_drewN (Below.refl _ _) q)
theorem RdU.at_ {w : World} {b off n : Nat} {ms : List Nat} (h : RdU w (some ⟨b, off, none⟩) n ms) (k : Nat) (hk : k < n) : ∃ m, ms[k]? = some m ∧ w.cell? ⟨b, off + k, none⟩ = some (.int .u64 (m : Int)) ∧ U64 m := by
  obtain ⟨v, h1, h2⟩ := h.1.at_ k hk
  rw [List.getElem?_map] at h1
  cases hm : ms[k]? with
  | none => rw [hm] at h1; cases h1
  | some m =>
    rw [hm] at h1
    injection h1 with h1
    exact ⟨m, rfl, by rw [h2, ← h1]; rfl, h.2 m (List.mem_of_getElem? hm)⟩
set_option maxRecDepth 100000 in
theorem isNaNc_any (x : Nat) (w : World) : Calls Try.prog 136 #[.int .u64 (x : Int)] w (fun e w' => e = .returned (.bool false) ∧ w' = w) := by
  go_enter Try.func136, Try.ntmps136
  go_wp2_with fail
  go_ret
  exact ⟨rfl, rfl⟩
set_option maxRecDepth 100000 in
theorem isNaNs_any (x : Nat) (w : World) : Calls Try.prog 118 #[.int .u64 (x : Int)] w (fun e w' => e = .returned (.bool false) ∧ w' = w) := by
  go_enter Try.func118, Try.ntmps118
  go_wp2_with fail
  go_ret
  exact ⟨rfl, rfl⟩
set_option maxRecDepth 100000 in
theorem lessU_any (x y : Nat) (w : World) : Calls Try.prog 117 #[.int .u64 (x : Int), .int .u64 (y : Int)] w (fun e w' => e = .returned (.bool (decide (x < y))) ∧ w' = w) := by
  go_enter Try.func117, Try.ntmps117
  by_cases hlt : x < y
  · go_wp2_with (first | (go_at_call 136; with_reducible refine (isNaNc_any _ _).mono ?_; rintro e wx ⟨rfl, rfl⟩))
    go_ret
    exact ⟨by simp [hlt], rfl⟩
  · go_wp2_with (first | (go_at_call 136; with_reducible refine (isNaNc_any _ _).mono ?_; rintro e wx ⟨rfl, rfl⟩))
    go_ret
    exact ⟨by simp [hlt], rfl⟩
/-- The least place whose number isn't below x. -/
def RetBs (w : World) (n : Nat) (ms : List Nat) (x : Nat) (e : Ending) (w' : World) : Prop :=
  ∃ (r : Nat) (f : Bool), e = .returned (.tuple #[.int .i64 (r : Int), .bool f]) ∧ r ≤ n ∧ (∀ t m, t < r → ms[t]? = some m → m < x) ∧ (∀ t m, r ≤ t → ms[t]? = some m → x ≤ m) ∧ ∃ q, w' = w.drewN q
theorem pw_at {ms : List Nat} (h : ms.Pairwise (· ≤ ·)) {i j a b : Nat} (hij : i ≤ j) (h1 : ms[i]? = some a) (h2 : ms[j]? = some b) : a ≤ b := by
  obtain ⟨l1, e1⟩ := List.getElem?_eq_some_iff.1 h1
  obtain ⟨l2, e2⟩ := List.getElem?_eq_some_iff.1 h2
  rcases Nat.eq_or_lt_of_le hij with e | e
  · subst e
    rw [h1] at h2
    injection h2 with h2
    omega
  · have := List.pairwise_iff_getElem.1 h i j l1 l2 e
    omega
set_option maxRecDepth 100000 in
set_option maxHeartbeats 8000000 in
theorem binS_any {w : World} {A : Option Addr} {n c : Nat} {ms : List Nat} (h : RdU w A n ms) (hn : n ≤ 1099511627776) (hp : ms.Pairwise (· ≤ ·)) (x : Nat) : Calls Try.prog 97 #[.slice A n c, .int .u64 (x : Int)] w (RetBs w n ms x) := by
  have HL := Lib.hid h.len
  have HP := Lib.hid hp
  have HH := Lib.hid h
  clear h hp
  go_enter Try.func97, Try.ntmps97
  go_wp2_with fail
  go_loopw [7, 8] (fun s7 s8 wr => ∃ lo hi q : Nat, s7 = .int .i64 (lo : Int) ∧ s8 = .int .i64 (hi : Int) ∧ lo ≤ hi ∧ hi ≤ n ∧ (∀ t m, t < lo → ms[t]? = some m → m < x) ∧ (∀ t m, hi ≤ t → ms[t]? = some m → x ≤ m) ∧ wr = w.drewN q) (fun s7 s8 _ => (intOf s8).toNat - (intOf s7).toNat)
  case atStart => exact ⟨0, n, 0, rfl, rfl, Nat.zero_le _, Nat.le_refl _, (fun t m h => absurd h (Nat.not_lt_zero _)), (fun t m h1 h2 => by have := (List.getElem?_eq_some_iff.1 h2).1; have := HL.out; omega), rfl⟩
  case round =>
    obtain ⟨lo, hi, q, rfl, rfl, h1, h2, h3, h4, rfl⟩ := hrel
    have H3 := Lib.hid h3
    have H4 := Lib.hid h4
    obtain ⟨W, hW⟩ : ∃ W, W = w.drewN q := ⟨_, rfl⟩
    rw [← hW]
    have HW := Lib.hid hW
    have HR : Hid (RdU W A n ms) := Lib.hid (by rw [hW]; exact HH.out.drewN q)
    clear h3 h4 hW
    by_cases hlt : lo < hi
    · obtain ⟨m, hm⟩ : ∃ m, m = (lo + hi) / 2 := ⟨_, rfl⟩
      have e1 : ((lo : Int) + (hi : Int)) / 2 = (m : Int) := by omega
      have hmn : m < hi := by omega
      have hml : lo ≤ m := by omega
      have hmN : m < n := by omega
      obtain ⟨b, off, hAb, _⟩ := HR.out.1.pos (by omega)
      subst hAb
      obtain ⟨y, hy, hcy, _⟩ := HR.out.at_ m (by omega)
      have HY := Lib.hid hy
      by_cases hyx : y < x
      · have HN : Hid (∀ t m', t < m + 1 → ms[t]? = some m' → m' < x) := Lib.hid (fun t m' ht hm' => by have := pw_at HP.out (by omega : t ≤ m) hm' HY.out; omega)
        clear hm hy
        go_wp2_with (first | (go_at_call 117; with_reducible refine (lessU_any _ _ _).mono ?_; rintro e wx ⟨rfl, rfl⟩))
        go_roundw
        case rel => exact ⟨m + 1, hi, q, by go_num, rfl, by omega, h2, HN.out, H4.out, HW.out⟩
        case measure => simp [intOf]; omega
      · have HN : Hid (∀ t m', m ≤ t → ms[t]? = some m' → x ≤ m') := Lib.hid (fun t m' ht hm' => by have := pw_at HP.out ht HY.out hm'; omega)
        clear hm hy
        go_wp2_with (first | (go_at_call 117; with_reducible refine (lessU_any _ _ _).mono ?_; rintro e wx ⟨rfl, rfl⟩))
        go_roundw
        case rel => exact ⟨lo, m, q, rfl, rfl, hml, by omega, H3.out, HN.out, HW.out⟩
        case measure => simp [intOf]; omega
    · obtain rfl : lo = hi := by omega
      have HF : Hid (∀ f : Bool, RetBs w n ms x (.returned (.tuple #[.int .i64 (lo : Int), .bool f])) W) := Lib.hid (fun f => ⟨lo, f, rfl, h2, H3.out, H4.out, q, HW.out⟩)
      by_cases hln : lo < n
      · obtain ⟨b, off, hAb, _⟩ := HR.out.1.pos (by omega)
        subst hAb
        obtain ⟨y, hy, hcy, _⟩ := HR.out.at_ lo hln
        by_cases hyx : y = x
        · have t1 : ((y : Int) == (x : Int)) = true := by rw [beq_iff_eq]; omega
          clear hy
          go_wp2_with (first | (go_at_call 118; with_reducible refine (isNaNs_any _ _).mono ?_; rintro e wx ⟨rfl, rfl⟩))
          exact bodyPost_ret (v := .tuple #[.int .i64 (lo : Int), .bool true]) (by simp [results, Try.f97, go_sem]; try rfl) rfl (HF.out true)
        · have t1 : ((y : Int) == (x : Int)) = false := by rw [beq_eq_false_iff_ne]; omega
          clear hy
          go_wp2_with (first | (go_at_call 118; with_reducible refine (isNaNs_any _ _).mono ?_; rintro e wx ⟨rfl, rfl⟩))
          exact bodyPost_ret (v := .tuple #[.int .i64 (lo : Int), .bool false]) (by simp [results, Try.f97, go_sem]; try rfl) rfl (HF.out false)
      · go_wp2_with fail
        exact bodyPost_ret (v := .tuple #[.int .i64 (lo : Int), .bool false]) (by simp [results, Try.f97, go_sem]; try rfl) rfl (HF.out false)
/-- Is the i-th entry its key's version at one of the moments? -/
def seenE (es : List En) (i : Nat) (ms : List Nat) : Bool :=
  match es[i]? with
  | none => false
  | some x => ms.any (fun m => decide (x.seq ≤ m) && (match newerE es i with
    | none => true
    | some u => decide (m < u)))
theorem seenE_at {es : List En} {i : Nat} {ms : List Nat} {x : En} (h : es[i]? = some x) : seenE es i ms = ms.any (fun m => decide (x.seq ≤ m) && (match newerE es i with
    | none => true
    | some u => decide (m < u))) := by unfold seenE; rw [h]
/-- What isSeen hands back. -/
def RetBq (w : World) (b : Bool) (e : Ending) (w' : World) : Prop := e = .returned (.bool b) ∧ ∃ q, w' = w.drewN q
set_option maxRecDepth 100000 in
set_option maxHeartbeats 8000000 in
theorem isSeen_any {w : World} {A M : Option Addr} {n c mn mc : Nat} {es : List En} {ms : List Nat} (h : REs w A n es) (hn : n ≤ 1099511627776) (i : Nat) (hi : i < n) (hm : RdU w M mn ms) (hmn : mn ≤ 1099511627776) (hp : ms.Pairwise (· ≤ ·)) :
    Calls Try.prog 64 #[.slice A n c, .int .i64 (i : Int), .slice M mn mc] w (RetBq w (seenE es i ms)) := by
  obtain ⟨b, off, rfl, hbl⟩ := h.pos (by omega)
  obtain ⟨x, v0, v1, v2, v3, hx, c0, c1, c2, c3, hev⟩ := h.at_ i hi
  obtain ⟨K, kn, kc, V, vn, vc, rfl, rfl, rfl, rfl, _⟩ := hev.parts
  have HB := Lib.hid (binS_any (c := mc) hm hmn hp x.seq)
  have HNW : Hid (∀ q, Calls Try.prog 69 #[.slice (some ⟨b, off, none⟩) n c, .int .i64 (i : Int)] (w.drewN q) (RetNw (w.drewN q) (newerE es i))) := Lib.hid (fun q => mgNewer_any (h.drewN q) hn i hi)
  have HSE := Lib.hid (seenE_at (ms := ms) hx)
  have HM := Lib.hid hm
  have HML := Lib.hid hm.len
  have HP := Lib.hid hp
  clear h hx hev hm hp
  go_enter Try.func64, Try.ntmps64
  go_wp2_with fail
  with_reducible refine HB.out.mono ?_
  rintro e w1 ⟨r, f, rfl, hr, hlo, hhi, q, hq⟩
  have HLO := Lib.hid hlo
  have HHI := Lib.hid hhi
  have HQ := Lib.hid hq
  clear hlo hhi hq
  by_cases hrn : r = mn
  · subst hrn
    have HF : Hid (seenE es i ms = false) := Lib.hid (by
      rw [HSE.out, List.any_eq_false]
      intro m hm
      obtain ⟨t, ht⟩ := List.mem_iff_getElem?.1 hm
      have := HLO.out t m (by have := (List.getElem?_eq_some_iff.1 ht).1; have := HML.out; omega) ht
      have : ¬ x.seq ≤ m := by omega
      simp [this])
    go_wp2_with fail
    go_ret
    exact ⟨by rw [HF.out]; rfl, q, HQ.out⟩
  · have t1 : ((r : Int) == (mn : Int)) = false := by rw [beq_eq_false_iff_ne]; omega
    have hrl : r < mn := by omega
    obtain ⟨o, ho⟩ : ∃ o, o = newerE es i := ⟨_, rfl⟩
    have hNW := HNW.out q
    rw [← ho, ← HQ.out] at hNW
    have HNW2 := Lib.hid hNW
    have HO := Lib.hid ho
    clear hNW ho
    obtain ⟨mb, mo, hMb, _⟩ := HM.out.1.pos (by omega)
    subst hMb
    obtain ⟨m1, hm1, hcm, _⟩ := (HM.out.drewN q).at_ r hrl
    have HM1 := Lib.hid hm1
    have hcm1 : w1.cell? ⟨mb, mo + r, none⟩ = some (.int .u64 (m1 : Int)) := by rw [HQ.out]; exact hcm
    clear hm1 hcm c0 c1 c2 c3
    have HCM : Hid (∀ q, (w1.drewN q).cell? ⟨mb, mo + r, none⟩ = some (.int .u64 (m1 : Int))) := Lib.hid (fun q => by rw [← hcm1]; exact (below_drewN (Below.refl w1.heap.size w1) q).cell (p := ⟨mb, mo + r, none⟩) (by
      obtain ⟨b', o', e1, e2, _⟩ := (HM.out.drewN 0).1.2 (by omega)
      injection e1 with e1
      injection e1 with e1 _
      subst e1
      rw [HQ.out]
      simpa using e2))
    have hsx : x.seq ≤ m1 := HHI.out r m1 (Nat.le_refl _) HM1.out
    have HSX := Lib.hid hsx
    go_wp2_with fail
    with_reducible refine HNW2.out.mono ?_
    rintro e w2 ⟨rfl, q2, hq2⟩
    have hcm2 : w2.cell? ⟨mb, mo + r, none⟩ = some (.int .u64 (m1 : Int)) := by rw [hq2]; exact HCM.out q2
    have HQ2 : Hid (∃ q', w2 = w.drewN q') := Lib.hid ⟨_, by rw [hq2, HQ.out, World.drewN_drewN]⟩
    clear hq2 hcm1 hsx
    cases o with
    | none =>
      have HF : Hid (seenE es i ms = true) := Lib.hid (by
        rw [HSE.out, ← HO.out, List.any_eq_true]
        exact ⟨m1, List.mem_of_getElem? HM1.out, by simp [HSX.out]⟩)
      go_wp2_with fail
      go_ret
      exact ⟨by rw [HF.out]; rfl, HQ2.out⟩
    | some u =>
      by_cases hmu : m1 < u
      · have HF : Hid (seenE es i ms = true) := Lib.hid (by
          rw [HSE.out, ← HO.out, List.any_eq_true]
          exact ⟨m1, List.mem_of_getElem? HM1.out, by simp [HSX.out, hmu]⟩)
        go_wp2_with fail
        go_ret
        exact ⟨by rw [HF.out]; rfl, HQ2.out⟩
      · have HF : Hid (seenE es i ms = false) := Lib.hid (by
          rw [HSE.out, ← HO.out, List.any_eq_false]
          intro m hm
          obtain ⟨t, ht⟩ := List.mem_iff_getElem?.1 hm
          rcases Nat.lt_or_ge t r with htr | htr
          · have := HLO.out t m htr ht
            have : ¬ x.seq ≤ m := by omega
            simp [this]
          · have := pw_at HP.out htr HM1.out ht
            have : ¬ m < u := by omega
            simp [this])
        go_wp2_with fail
        go_ret
        exact ⟨by rw [HF.out]; rfl, HQ2.out⟩
end Go.Proofs.Ytgigohfjioifaaa
namespace Go.Proofs.Ytgigohfjioifaaa
open Go Go.RowKit

/-- The entries of the places that p picks, of the first k. -/
def pkE (p : Nat → Bool) (es : List En) : Nat → List En
  | 0 => []
  | k + 1 => pkE p es k ++ (if p k then (es[k]?).toList else [])
theorem pkE_snoc {p : Nat → Bool} {es : List En} {k : Nat} {x : En} (h : es[k]? = some x) : pkE p es (k + 1) = pkE p es k ++ (if p k then [x] else []) := by rw [pkE, h]; rfl
theorem pkE_len (p : Nat → Bool) (es : List En) : ∀ k, (pkE p es k).length ≤ k
  | 0 => Nat.le_refl _
  | k + 1 => by
    have := pkE_len p es k
    rw [pkE, List.length_append]
    split
    · cases es[k]? <;> simp <;> omega
    · simp; omega
theorem pkE_mem {p : Nat → Bool} {es : List En} {x : En} : ∀ {k}, x ∈ pkE p es k → x ∈ es
  | k + 1, h => by
    rw [pkE] at h
    rcases List.mem_append.1 h with h | h
    · exact pkE_mem h
    · split at h
      · cases hk : es[k]? with
        | none => rw [hk] at h; cases h
        | some y =>
          rw [hk] at h
          have : x = y := by simpa using h
          rw [this]
          exact List.mem_of_getElem? hk
      · cases h
def visP (es : List En) (ms : List Nat) (i : Nat) : Bool := (match es[i]? with
  | some x => decide (x.kind = 1)
  | none => false) && seenE es i ms
theorem visP_at {es : List En} {ms : List Nat} {i : Nat} {x : En} (h : es[i]? = some x) : visP es ms i = (decide (x.kind = 1) && seenE es i ms) := by unfold visP; rw [h]
/-- Copies of entries, or an error. -/
def RetMg (w : World) (z : Int) (es : List En) (e : Ending) (w' : World) : Prop :=
  (z ≠ 0 ∧ e = .returned (.tuple #[.slice none 0 0, .int .i64 z]) ∧ Below w.heap.size w w') ∨
  (z = 0 ∧ ∃ L n c, e = .returned (.tuple #[.slice L n c, .int .i64 0]) ∧ RowE w w.heap.size L n c es w')
theorem RowE.lower {w wr w' : World} {L : Option Addr} {i d : Nat} {es : List En} (h : RowE wr wr.heap.size L i d es w') (hb : Below w.heap.size w wr) : RowE w w.heap.size L i d es w' := by
  obtain ⟨vs, r1, r2, r3, r4, r5, r6, r7⟩ := h
  have hs := hb.size
  have h1 := belowT' hb r5
  exact ⟨vs, OwnE.mono r1 hs, EOs.mono hs r2, r3, r4, h1, h1.size, r7.mono hs⟩
theorem RLs_one {w : World} {A : Option Addr} {n c : Nat} {es : List En} {t : TypeId} (h : REs w A n es) (hc : n ≤ c) : RLs (w.alloc (.cells #[.slice A n c] t)) (some ⟨w.heap.size, 0, none⟩) 1 [es] := by
  refine ⟨rfl, fun _ => ⟨w.heap.size, 0, rfl, by simp, fun i fs hi => ?_⟩⟩
  have hi0 : i = 0 := by have := (List.getElem?_eq_some_iff.1 hi).1; simp at this; exact this
  subst hi0
  injection hi with hi
  subst hi
  exact ⟨A, n, c, (Cl.new w #[.slice A n c] t).cell 0, h.below ((Below.refl _ _).alloc (Nat.le_refl _) _), hc⟩
theorem RdU_one (w : World) (m : Nat) (h : U64 m) (t : TypeId) : RdU (w.alloc (.cells #[.int .u64 (m : Int)] t)) (some ⟨w.heap.size, 0, none⟩) 1 [m] := by
  refine ⟨⟨rfl, fun _ => ⟨w.heap.size, 0, rfl, by simp, fun i v hi => ?_⟩⟩, fun k hk => by rw [List.mem_singleton] at hk; rw [hk]; exact h⟩
  have hi0 : i = 0 := by have := (List.getElem?_eq_some_iff.1 hi).1; simp at this; exact this
  subst hi0
  injection hi with hi
  subst hi
  exact (Cl.new w #[.int .u64 (m : Int)] t).cell 0
set_option maxRecDepth 100000 in
set_option maxHeartbeats 8000000 in
theorem visible_any {w : World} {A : Option Addr} {n c : Nat} {es : List En} (h : REs w A n es) (hn : n ≤ 2097152) (hc : n ≤ c) (hs : ∀ x ∈ es, SzE x) (a : Nat) (ha : U64 a) :
    Calls Try.prog 26 #[.slice A n c, .int .u64 (a : Int)] w (RetMg w (chk1 es) (pkE (visP es [a]) es n)) := by
  obtain ⟨W1, hW1⟩ : ∃ W1, W1 = w.alloc (.cells #[.slice A n c] 25) := ⟨_, rfl⟩
  have bW1 : Below w.heap.size w W1 := by rw [hW1]; exact (Below.refl _ _).alloc (Nat.le_refl _) _
  obtain ⟨z, hz⟩ : ∃ z, z = chk1 es := ⟨_, rfl⟩
  have HM : Hid (Calls Try.prog 57 #[.slice (some ⟨w.heap.size, 0, none⟩) 1 1] (w.alloc (.cells #[.slice A n c] 25)) (RetNu W1 z)) := Lib.hid (by
    rw [hz, ← chkL_one, hW1]
    exact mgCheck_any (RLs_one h hc) (by omega) (fun fs hf => by rw [List.mem_singleton] at hf; rw [hf, h.len]; omega))
  rw [← hz]
  have HL := Lib.hid h.len
  have HH := Lib.hid h
  have HS := Lib.hid hs
  have BW1 := Lib.hid bW1
  have HA := Lib.hid ha
  clear h hs bW1 hW1 hz ha
  go_enter Try.func26, Try.ntmps26
  go_wp2_with fail
  with_reducible refine HM.out.mono ?_
  rintro e w1 ⟨rfl, b1⟩
  have B1 := Lib.hid (belowT' BW1.out b1)
  clear b1 HM
  by_cases hz0 : z = 0
  · subst hz0
    obtain ⟨W0, hW0⟩ : ∃ W0, W0 = w1.alloc (.cells #[.int .u64 (a : Int)] 23) := ⟨_, rfl⟩
    have hm : RdU W0 (some ⟨w1.heap.size, 0, none⟩) 1 [a] := by rw [hW0]; exact RdU_one w1 a HA.out _
    have bW0 : Below w1.heap.size w1 W0 := by rw [hW0]; exact (Below.refl _ _).alloc (Nat.le_refl _) _
    have HM := Lib.hid hm
    have HW0 := Lib.hid hW0
    have B0 := Lib.hid (belowT' B1.out bW0)
    obtain ⟨_, ovs, hev, hrd⟩ := HH.out.below B0.out
    have HEV0 := Lib.hid hev
    have HRD0 := Lib.hid hrd
    have HR0 := Lib.hid (HH.out.below B0.out)
    clear hm hW0 bW0 hev hrd
    go_wp2_with fail
    go_loopw [8, 21] (fun s8 s21 wr => ∃ (k m d : Nat) (L : Option Addr), k ≤ n ∧ s21 = .int .i64 (k : Int) ∧ s8 = .slice L m d ∧ Pck W0 ovs (pkE (visP es [a]) es k) L m d wr) (fun _ s _ => n - (intOf s).toNat)
    case atStart => exact ⟨0, 0, 0, none, Nat.zero_le _, rfl, rfl, by rw [← HW0.out]; exact Pck.zero _ _⟩
    case round =>
      obtain ⟨k, m, d, L, hk, rfl, rfl, hP⟩ := hrel
      have HP := Lib.hid hP
      have HB := Lib.hid hP.bel
      clear hP
      by_cases hlt : k < n
      · obtain ⟨b, off, hAb, hbl⟩ := HR0.out.pos (by omega)
        subst hAb
        obtain ⟨x, v0, v1, v2, v3, hx, c0, c1, c2, c3, hev, hmem⟩ := mem4 HEV0.out HRD0.out HL.out rfl hlt
        obtain ⟨K, kn, kc, V, vn, vc, rfl, rfl, rfl, rfl, _⟩ := hev.parts
        have HXK := Lib.hid hx
        have HEV := Lib.hid hev
        have HMEM := Lib.hid hmem
        obtain ⟨U0, hU⟩ : ∃ U0, U0 = wr.alloc (.cells #[.slice K kn kc, .int .u64 (x.seq : Int), .int .u8 (x.kind : Int), .slice V vn vc] 33) := ⟨_, rfl⟩
        obtain ⟨g0, hg0⟩ : ∃ g0, g0 = wr.heap.size := ⟨_, rfl⟩
        have bU : Below wr.heap.size wr U0 := by rw [hU]; exact (Below.refl _ _).alloc (Nat.le_refl _) _
        have zU : Cl U0 g0 #[.slice K kn kc, .int .u64 (x.seq : Int), .int .u8 (x.kind : Int), .slice V vn vc] 33 := by rw [hU, hg0]; exact Cl.new _ _ _
        have ZU := Lib.hid zU
        obtain ⟨z0, z1, z2, z3, _⟩ := zU.c4
        have hB := HB.out
        have d0 := (hB.cell (p := ⟨b, off + k * 4, none⟩) hbl).trans c0
        have d1 := (hB.cell (p := ⟨b, off + k * 4 + 1, none⟩) hbl).trans c1
        have d2 := (hB.cell (p := ⟨b, off + k * 4 + 2, none⟩) hbl).trans c2
        have d3 := (hB.cell (p := ⟨b, off + k * 4 + 3, none⟩) hbl).trans c3
        have HU := Lib.hid hU
        have HG := Lib.hid hg0
        have HPU := Lib.hid (HP.out.below bU)
        have HSN := Lib.hid (isSeen_any (c := c) (mc := 1) (HR0.out.below (belowT' HB.out bU)) (by omega) k hlt (HM.out.below (belowT' HB.out bU)) (by omega) (List.pairwise_singleton _ _))
        have hpk := pkE_snoc (p := visP es [a]) hx
        rw [visP_at hx] at hpk
        have HPK := Lib.hid hpk
        obtain ⟨sn, hsn⟩ : ∃ sn, sn = seenE es k [a] := ⟨_, rfl⟩
        rw [← hsn] at HSN HPK
        have hmn : m ≤ n := by have := HP.out.len; have := pkE_len (visP es [a]) es k; omega
        clear hx c0 c1 c2 c3 hev hmem hU hg0 bU zU hB hsn hpk
        go_upto_region 9 with (fail)
        rw [← HU.out, ← HG.out]
        by_cases hkd : x.kind = 1
        · have t1 : ((x.kind : Int) == 1) = true := by rw [beq_iff_eq]; omega
          have hdk : decide (x.kind = 1) = true := by simpa using hkd
          rw [hdk] at HPK
          clear d0 d1 d2 d3 hkd hdk
          go_wp2_with fail
          with_reducible refine HSN.out.mono ?_
          rintro e w2 ⟨rfl, q, hq⟩
          have bq : Below U0.heap.size U0 w2 := by rw [hq]; exact below_drewN (Below.refl _ _) q
          have HP2 := Lib.hid (HPU.out.below bq)
          have ZQ := Lib.hid (ZU.out.below bq)
          clear hq bq z0 z1 z2 z3
          cases sn with
          | true =>
            obtain ⟨z0, z1, z2, z3, _⟩ := ZQ.out.c4
            obtain ⟨vs, o1, hev1, hlen1, hb1, hm1⟩ := HP2.out
            have O1 := Lib.hid o1
            have HE1 := Lib.hid hev1
            have HL1 := Lib.hid hlen1
            have HM1 := Lib.hid hm1
            have HB1 := Lib.hid hb1
            have bl : Below w2.heap.size w2 (w2.alloc (.cells #[.slice K kn kc, .int .u64 (x.seq : Int), .int .u8 (x.kind : Int), .slice V vn vc] 33)) := (Below.refl _ _).alloc (Nat.le_refl _) _
            have O1' := Lib.hid (O1.out.below bl)
            have r2 := Lib.hid (rdv_of_cl (Cl.new w2 #[.slice K kn kc, .int .u64 (x.seq : Int), .int .u8 (x.kind : Int), .slice V vn vc] 33))
            have BL := Lib.hid bl
            have sW := HB1.out.size
            clear o1 hev1 hlen1 hb1 hm1 bl
            go_wp2_with (at_builtin; refine wpList_app4 (w2.alloc (.cells #[.slice K kn kc, .int .u64 (x.seq : Int), .int .u8 (x.kind : Int), .slice V vn vc] 33)) rfl _ _ 25 rfl W0.heap.size _ 64 Try.underlying25 info_ent rfl L m d vs rfl O1'.out (some ⟨w2.heap.size, 0, none⟩) 1 1 [.slice K kn kc, .int .u64 (x.seq : Int), .int .u8 (x.kind : Int), .slice V vn vc] rfl r2.out HEV.out.cells ?_ ?_ ?_ ?_)
            · omega
            · omega
            · simp; omega
            intro A2 c2 w3 o2 _ b2
            have HP3 : Hid (Pck W0 ovs (pkE (visP es [a]) es (k + 1)) A2 (m + 1) c2 w3) := Lib.hid (by
              rw [HPK.out]
              exact Pck.snoc HE1.out HL1.out HM1.out HEV.out HMEM.out o2 ((HB1.out.trans (BL.out.mono sW)).trans b2))
            clear o2 b2 z0 z1 z2 z3
            go_wp2_with fail
            go_roundw
            case rel => exact ⟨k + 1, m + 1, c2, A2, by omega, by go_num, rfl, HP3.out⟩
            case measure => simp [intOf]; omega
          | false =>
            have HP3 : Hid (Pck W0 ovs (pkE (visP es [a]) es (k + 1)) L m d w2) := Lib.hid (by
              rw [HPK.out]
              simpa using HP2.out)
            go_wp2_with fail
            go_roundw
            case rel => exact ⟨k + 1, m, d, L, by omega, by go_num, rfl, HP3.out⟩
            case measure => simp [intOf]; omega
        · have t1 : ((x.kind : Int) == 1) = false := by rw [beq_eq_false_iff_ne]; omega
          have hdk : decide (x.kind = 1) = false := by simpa using hkd
          rw [hdk] at HPK
          have HP3 : Hid (Pck W0 ovs (pkE (visP es [a]) es (k + 1)) L m d U0) := Lib.hid (by
            rw [HPK.out]
            simpa using HPU.out)
          clear d0 d1 d2 d3 hkd hdk
          go_wp2_with fail
          go_roundw
          case rel => exact ⟨k + 1, m, d, L, by omega, by go_num, rfl, HP3.out⟩
          case measure => simp [intOf]; omega
      · obtain rfl : k = n := by omega
        obtain ⟨vs, o1, hev1, hlen1, hb1, hm1⟩ := HP.out
        have hml : m ≤ k := by rw [← hlen1]; exact pkE_len _ _ _
        have HOW := Lib.hid (mgOwn_any (c := d) (REs.mk (hev1.below hb1) o1.rd hlen1) (by omega) (fun y hy => HS.out y (pkE_mem hy)))
        have HBW := Lib.hid (belowT' B0.out hb1)
        clear o1 hev1 hlen1 hb1 hm1
        go_wp2_with fail
        with_reducible refine HOW.out.mono ?_
        rintro e w2 ⟨L2, n2, c2, rfl, hrow⟩
        have HF : Hid (RetMg w 0 (pkE (visP es [a]) es k) (.returned (.tuple #[.slice L2 n2 c2, .int .i64 0])) w2) := Lib.hid (.inr ⟨rfl, L2, n2, c2, rfl, hrow.lower HBW.out⟩)
        clear hrow
        go_wp2_with fail
        exact bodyPost_ret (v := .tuple #[.slice L2 n2 c2, .int .i64 0]) (by simp [results, Try.f26, go_sem]; try rfl) rfl HF.out
  · have t1 : (z == 0) = false := by rw [beq_eq_false_iff_ne]; exact hz0
    go_wp2_with fail
    exact bodyPost_ret (v := .tuple #[.slice none 0 0, .int .i64 z]) (by simp [results, Try.f26, go_sem]; try rfl) rfl (.inl ⟨hz0, rfl, B1.out⟩)
end Go.Proofs.Ytgigohfjioifaaa
namespace Go.Proofs.Ytgigohfjioifaaa
open Go Go.RowKit

theorem ordK_at2 {es : List En} : ∀ {k : Nat}, ordK es k = true → ∀ (i : Nat) a b, i < k → es[i]? = some a → es[i + 1]? = some b → lessE a b = true
  | k + 1, h, i, a, b, hi, ha, hb => by
    rw [ordK, Bool.and_eq_true] at h
    rcases Nat.lt_or_ge i k with h1 | h1
    · exact ordK_at2 h.1 i a b h1 ha hb
    · obtain rfl : i = k := by omega
      have h2 := h.2
      rw [ha, hb] at h2
      exact h2
theorem sort_of_ord {es : List En} (h : ordE es = true) : SortL es := by
  have key : ∀ (j i : Nat) a b, i < j → es[i]? = some a → es[j]? = some b → lessE a b = true := by
    intro j
    induction j with
    | zero => intro i a b h; omega
    | succ j ih =>
      intro i a b hij ha hb
      have hlt : j + 1 < es.length := (List.getElem?_eq_some_iff.1 hb).1
      obtain ⟨c, hc⟩ : ∃ c, es[j]? = some c := ⟨_, List.getElem?_eq_getElem (by omega)⟩
      have h1 := ordK_at2 h j c b (by omega) hc hb
      by_cases e : i = j
      · subst e
        rw [hc] at ha
        injection ha with ha
        rw [← ha]
        exact h1
      · exact lessE_trans (ih i a c (by omega) ha hc) h1
  unfold SortL
  rw [List.pairwise_iff_getElem]
  intro i j hi hj hij
  exact key j i _ _ hij (List.getElem?_eq_getElem hi) (List.getElem?_eq_getElem hj)
theorem ord_of_sort2 {es : List En} (h : SortL es) : ordE es = true := by
  have key : ∀ k, k ≤ es.length - 1 → ordK es k = true := by
    intro k
    induction k with
    | zero => intro _; rfl
    | succ k ih =>
      intro hk
      have ha : es[k]? = some (es[k]'(by omega)) := List.getElem?_eq_getElem (by omega)
      have hb : es[k + 1]? = some (es[k + 1]'(by omega)) := List.getElem?_eq_getElem (by omega)
      rw [ordK_step ha hb, ih (by omega), Bool.true_and]
      exact List.pairwise_iff_getElem.1 h k (k + 1) (by omega) (by omega) (by omega)
  exact key _ (Nat.le_refl _)
theorem sort_at {es : List En} (h : SortL es) {i j : Nat} {a b : En} (hij : i < j) (ha : es[i]? = some a) (hb : es[j]? = some b) : lessE a b = true := by
  obtain ⟨l1, e1⟩ := List.getElem?_eq_some_iff.1 ha
  obtain ⟨l2, e2⟩ := List.getElem?_eq_some_iff.1 hb
  have := List.pairwise_iff_getElem.1 h i j l1 l2 hij
  rw [e1, e2] at this
  exact this
theorem sort_uniq {es : List En} (h : SortL es) {i j : Nat} {a b : En} (ha : es[i]? = some a) (hb : es[j]? = some b) (hk : a.key = b.key) (hs : a.seq = b.seq) : i = j := by
  have hn := sameK_not (sameK_iff.2 ⟨hk, hs⟩)
  rcases Nat.lt_trichotomy i j with e | e | e
  · have := sort_at h e ha hb
    rw [hn.1] at this; cases this
  · exact e
  · have := sort_at h e hb ha
    rw [hn.2] at this; cases this
theorem less_seq {a b : En} (h : lessE a b = true) (hk : a.key = b.key) : b.seq < a.seq := by
  rcases lessE_iff.1 h with h | h
  · rw [hk, cmpB_refl] at h; omega
  · exact h.2
/-- No earlier entry has the key of one whose neighbour hasn't. -/
theorem sort_far {es : List En} (h : SortL es) {k j : Nat} {a x y : En} (ha : es[k]? = some a) (hx : es[k + 1]? = some x) (hne : a.key ≠ x.key) (hj : j ≤ k) (hy : es[j]? = some y) : y.key ≠ x.key := by
  have h1 : cmpB a.key x.key < 0 := by
    rcases lessE_iff.1 (sort_at h (Nat.lt_succ_self k) ha hx) with q | q
    · exact q
    · exact absurd q.1 hne
  rcases Nat.eq_or_lt_of_le hj with e | e
  · subst e
    rw [ha] at hy
    injection hy with hy
    rw [← hy]
    exact hne
  · intro hk
    rcases lessE_iff.1 (sort_at h e hy ha) with q | q
    · have := cmpB_trans q h1
      rw [hk, cmpB_refl] at this
      omega
    · rw [← q.1, hk] at h1
      rw [cmpB_refl] at h1
      omega
theorem seen_one {es : List En} {i a : Nat} {x : En} (h : SortL es) (hx : es[i]? = some x) : seenE es i [a] = true ↔ findL x.key a es = some x := by
  rw [seenE_at hx]
  simp only [List.any_cons, List.any_nil, Bool.or_false, Bool.and_eq_true, decide_eq_true_eq]
  unfold findL
  rw [List.find?_eq_some_iff_getElem]
  have hlt := (List.getElem?_eq_some_iff.1 hx).1
  have hxe := (List.getElem?_eq_some_iff.1 hx).2
  constructor
  · rintro ⟨h1, h2⟩
    refine ⟨by simp [eqB, h1], i, hlt, hxe, fun j hj => ?_⟩
    have hjy : es[j]? = some (es[j]'(by omega)) := List.getElem?_eq_getElem (by omega)
    cases i with
    | zero => omega
    | succ k =>
      have hka : es[k]? = some (es[k]'(by omega)) := List.getElem?_eq_getElem (by omega)
      rw [newerE_at hka hx] at h2
      by_cases hkk : (es[k]'(by omega)).key = x.key
      · have e1 : eqB (es[k]'(by omega)).key x.key = true := by simp [eqB, hkk]
        rw [e1, if_pos rfl] at h2
        simp only [decide_eq_true_eq] at h2
        by_cases hjk : (es[j]'(by omega)).key = x.key
        · have : (es[k]'(by omega)).seq ≤ (es[j]'(by omega)).seq := by
            rcases Nat.eq_or_lt_of_le (Nat.le_of_lt_succ hj) with e | e
            · subst e; exact Nat.le_refl _
            · exact Nat.le_of_lt (less_seq (sort_at h e hjy hka) (hjk.trans hkk.symm))
          have : ¬ (es[j]'(by omega)).seq ≤ a := by omega
          simp [this]
        · simp [eqB, hjk]
      · have := sort_far h hka hx hkk (Nat.le_of_lt_succ hj) hjy
        simp [eqB, this]
  · rintro ⟨h1, j, hj, he, hf⟩
    have hij : i = j := sort_uniq h hx (List.getElem?_eq_getElem hj) (by rw [he]) (by rw [he])
    subst hij
    rw [Bool.and_eq_true, decide_eq_true_eq] at h1
    refine ⟨h1.2, ?_⟩
    cases i with
    | zero => rfl
    | succ k =>
      have hka : es[k]? = some (es[k]'(by omega)) := List.getElem?_eq_getElem (by omega)
      rw [newerE_at hka hx]
      by_cases hkk : (es[k]'(by omega)).key = x.key
      · have e1 : eqB (es[k]'(by omega)).key x.key = true := by simp [eqB, hkk]
        rw [e1, if_pos rfl]
        have := hf k (Nat.lt_succ_self k)
        rw [e1] at this
        simp at this
        simpa using this
      · have e1 : eqB (es[k]'(by omega)).key x.key = false := by simp [eqB, hkk]
        rw [e1]
        rfl
/-- What the reference's Visible looks at. -/
def refP (es : List En) (a i : Nat) : Bool := match es[i]? with
  | none => false
  | some x => match findL x.key a es with
    | none => false
    | some v => decide (v.seq = x.seq) && decide (v.kind = 1)
theorem findL_in {es : List En} {key : List UInt8} {a : Nat} {v : En} (h : findL key a es = some v) : v ∈ es ∧ v.key = key ∧ v.seq ≤ a := by
  unfold findL at h
  have h1 := List.find?_some h
  rw [Bool.and_eq_true, decide_eq_true_eq] at h1
  exact ⟨List.mem_of_find?_eq_some h, by simpa [eqB] using h1.1, h1.2⟩
theorem vis_ref {es : List En} (h : SortL es) (a i : Nat) : visP es [a] i = refP es a i := by
  unfold visP refP
  cases hx : es[i]? with
  | none => rfl
  | some x =>
    simp only
    cases hs : seenE es i [a] with
    | true =>
      rw [(seen_one h hx).1 hs]
      simp
    | false =>
      rw [Bool.and_false]
      cases hf : findL x.key a es with
      | none => rfl
      | some v =>
        obtain ⟨hm, hk, _⟩ := findL_in hf
        simp only
        by_cases hq : v.seq = x.seq
        · obtain ⟨j, hj⟩ := List.mem_iff_getElem?.1 hm
          have := sort_uniq h hx hj hk.symm hq.symm
          subst this
          rw [hx] at hj
          injection hj with hj
          rw [← hj] at hf
          rw [(seen_one h hx).2 hf] at hs
          cases hs
        · simp [hq]
theorem pkE_congr {p q : Nat → Bool} (es : List En) : ∀ k, (∀ i, i < k → p i = q i) → pkE p es k = pkE q es k
  | 0, _ => rfl
  | k + 1, h => by rw [pkE, pkE, pkE_congr es k (fun i hi => h i (by omega)), h k (Nat.lt_succ_self k)]
theorem chk1_ok {es : List En} (h : chk1 es = 0) : SortL es ∧ checkE es = 0 := by
  unfold chk1 at h
  split at h
  · rename_i h1
    exact absurd h h1
  · rename_i h1
    split at h
    · rename_i h2
      exact ⟨sort_of_ord h2, by omega⟩
    · cases h
end Go.Proofs.Ytgigohfjioifaaa
namespace Go.Proofs.Ytgigohfjioifaaa
open Go Go.RowKit

theorem info_u64m : (Try.prog.info? 23).map (fun i => (i.zero, i.size, i.bytes)) = some (some (.int .u64 0), 1, 8) := by kernel_rfl
theorem uv_one (ms : List Nat) : ∀ u ∈ ms.map uv, u.oneCell' = true := fun u hu => by
  obtain ⟨m, _, rfl⟩ := List.mem_map.1 hu
  rfl
def OwnU (w : World) (base : Nat) (A : Option Addr) (n c : Nat) (ms : List Nat) : Prop := OwnV 23 w base A n c (ms.map uv)
theorem OwnU.rd {w : World} {base : Nat} {A : Option Addr} {n c : Nat} {ms : List Nat} (h : OwnU w base A n c ms) (hu : ∀ m ∈ ms, U64 m) : RdU w A n ms := ⟨OwnV.rd h, hu⟩
/-- A row of numbers of the call's own. -/
def RetUs (w : World) (n : Nat) (ms : List Nat) (e : Ending) (w' : World) : Prop := ∃ C cc, e = .returned (.slice C n cc) ∧ OwnU w' w.heap.size C n cc ms ∧ Below w.heap.size w w'
set_option maxRecDepth 100000 in
set_option maxHeartbeats 4000000 in
theorem cloneU_any {w : World} {M : Option Addr} {mn mc : Nat} {ms : List Nat} (h : RdU w M mn ms) (hn : mn ≤ 1099511627776) : Calls Try.prog 67 #[.slice M mn mc] w (RetUs w mn ms) := by
  have heq : ∀ (w : World) (a : Option Addr) (n c n' c' : Nat), (binOp .eql 52 (.slice a n c) (.slice none n' c')).run Try.prog w = .ok (.bool a.isNone) w := fun w a n c n' c' => Lib.run_eql_slice_nil w _ _ a n c n' c' Try.underlying52
  cases M with
  | none =>
    have h0 : mn = 0 := by
      rcases Nat.eq_zero_or_pos mn with h1 | h1
      · exact h1
      · obtain ⟨b, off, hh, _⟩ := h.1.pos h1
        cases hh
    subst h0
    have hm : ms = [] := List.eq_nil_of_length_eq_zero h.len
    subst hm
    clear h hn
    go_enter Try.func67, Try.ntmps67
    go_wp2_with fail
    go_ret
    exact ⟨none, 0, rfl, OwnV.nil _ _ _, Below.refl _ _⟩
  | some a =>
    have HB0 : Below w.heap.size w (w.alloc (.cells #[] 23)) := (Below.refl _ _).alloc (Nat.le_refl _) _
    have HO : Hid (OwnV 23 (w.alloc (.cells #[] 23)) w.heap.size (some ⟨w.heap.size, 0, none⟩) 0 0 []) := Lib.hid ⟨rfl, .inr ⟨w.heap.size, 0, #[], rfl, Nat.le_refl _, heap_alloc_new w _, Nat.le_refl _, by unfold maxLen; omega, rfl, rfl⟩⟩
    have HR := Lib.hid (h.below HB0)
    have HB := Lib.hid HB0
    clear h HB0
    go_enter Try.func67, Try.ntmps67
    go_wp2_with (at_builtin; refine wpList_appV (w.alloc (.cells #[] 23)) rfl _ _ 52 rfl w.heap.size 23 (.int .u64 0) 8 Try.underlying52 info_u64m rfl (some ⟨w.heap.size, 0, none⟩) 0 0 [] rfl HO.out (some a) mn mc (ms.map uv) rfl HR.out.1 (uv_one ms) ?_ ?_ ?_ ?_)
    · unfold maxLen; omega
    · omega
    · simp
    intro C cc w2 hC hg _
    have HF : Hid (RetUs w mn ms (.returned (.slice C mn cc)) w2) := Lib.hid ⟨C, cc, rfl, by simpa [OwnU] using hC, (HB.out.grown hg HB.out.size (fun k hk => by simp [blk] at hk; omega))⟩
    clear hC hg
    go_wp2_with fail
    go_ret
    exact HF.out
set_option maxRecDepth 100000 in
set_option maxHeartbeats 4000000 in
theorem insSort1_any (A : Option Addr) (c : Nat) (w : World) : Calls Try.prog 119 #[.slice A 1 c, .int .i64 0, .int .i64 1] w (fun e w' => e = .returned (.tuple #[]) ∧ w' = w) := by
  go_enter Try.func119, Try.ntmps119
  go_wp2_with fail
  go_loopw [6] (fun s6 wr => s6 = .int .i64 1 ∧ wr = w) (fun _ _ => 0)
  case atStart => exact ⟨rfl, rfl⟩
  case round =>
    obtain ⟨rfl, rfl⟩ := hrel
    go_wp2_with fail
    go_end0
    exact ⟨rfl, rfl⟩
set_option maxRecDepth 100000 in
set_option maxHeartbeats 4000000 in
theorem pdq1_any (A : Option Addr) (c : Nat) (l : Int) (w : World) : Calls Try.prog 98 #[.slice A 1 c, .int .i64 0, .int .i64 1, .int .i64 l] w (fun e w' => e = .returned (.tuple #[]) ∧ w' = w) := by
  have HI := Lib.hid (insSort1_any A c w)
  go_enter Try.func98, Try.ntmps98
  go_wp2_with fail
  go_loopw [1, 2, 3, 8, 9] (fun s1 s2 s3 s8 s9 wr => s1 = .int .i64 0 ∧ s2 = .int .i64 1 ∧ wr = w) (fun _ _ _ _ _ _ => 0)
  case atStart => exact ⟨rfl, rfl, rfl⟩
  case round =>
    obtain ⟨rfl, rfl, rfl⟩ := hrel
    go_wp2_with fail
    with_reducible refine HI.out.mono ?_
    rintro e w1 ⟨rfl, rfl⟩
    go_wp2_with fail
    exact bodyPost_ret (v := .tuple #[]) (by simp [results, Try.f98, go_sem]; try rfl) rfl ⟨rfl, rfl⟩
set_option maxRecDepth 100000 in
set_option maxHeartbeats 4000000 in
theorem sort1_any (A : Option Addr) (c : Nat) (w : World) : Calls Try.prog 68 #[.slice A 1 c] w (fun e w' => e = .returned (.tuple #[]) ∧ w' = w) := by
  go_enter Try.func68, Try.ntmps68
  go_wp2_with fail
  with_reducible refine (bitsLen_any _ _ (by decide) (by decide)).mono ?_
  rintro e w1 ⟨rfl, rfl⟩
  go_wp2_with fail
  with_reducible refine (pdq1_any _ _ _ _).mono ?_
  rintro e w1 ⟨rfl, rfl⟩
  go_wp2_with fail
  go_end0
  exact ⟨rfl, rfl⟩
/-- Behind which an entry is needed. -/
def keepP (es : List En) (ms : List Nat) (i : Nat) : Bool := !(newerE es i).isSome || seenE es i ms
/-- Is the first of these of the same key? -/
def hidB (r : List En) (x : En) : Bool := match r with
  | [] => false
  | y :: _ => eqB y.key x.key
/-- Without the Deletes that hide nothing. -/
def idleE : List En → List En
  | [] => []
  | x :: t => if decide (x.kind = 1) || hidB (idleE t) x then x :: idleE t else idleE t
theorem idleE_mem {x : En} : ∀ {es : List En}, x ∈ idleE es → x ∈ es
  | y :: t, h => by
    rw [idleE] at h
    split at h
    · rcases List.mem_cons.1 h with h | h
      · rw [h]; simp
      · exact List.mem_cons_of_mem _ (idleE_mem h)
    · exact List.mem_cons_of_mem _ (idleE_mem h)
theorem idleE_len : ∀ es : List En, (idleE es).length ≤ es.length
  | [] => Nat.le_refl _
  | y :: t => by
    have := idleE_len t
    rw [idleE]
    split <;> simp only [List.length_cons] <;> omega
/-- What is kept. -/
def keepE (es : List En) (bot : Bool) (ms : List Nat) : List En := if bot then idleE (pkE (keepP es ms) es es.length) else pkE (keepP es ms) es es.length
set_option maxRecDepth 100000 in
set_option maxHeartbeats 16000000 in
/-- Keep, where the moments' sort and the last pass are known. -/
theorem keep_any {w : World} {A M : Option Addr} {n c mn mc : Nat} {es : List En} {ms rs : List Nat} {bot : Bool} (h : REs w A n es) (hn : n ≤ 2097152) (hc : n ≤ c) (hs : ∀ x ∈ es, SzE x) (hm : RdU w M mn ms) (hmn : mn ≤ 1099511627776)
    (hrs : rs.Pairwise (· ≤ ·)) (hru : ∀ m ∈ rs, U64 m) (hrl : rs.length = mn) (hse : ∀ i, seenE es i rs = seenE es i ms)
    (hsort : ∀ wx base C cc, base ≤ wx.heap.size → OwnU wx base C mn cc ms → Calls Try.prog 68 #[.slice C mn cc] wx (fun e w' => e = .returned (.tuple #[]) ∧ OwnU w' base C mn cc rs ∧ Below base wx w'))
    (hidle : bot = true → ∀ wx L m d fs, REs wx L m fs → m ≤ n → m ≤ d → (∀ x ∈ fs, SzE x) → Calls Try.prog 70 #[.slice L m d] wx (fun e w' => ∃ L' m' d', e = .returned (.slice L' m' d') ∧ REs w' L' m' (idleE fs) ∧ m' ≤ d' ∧ Below wx.heap.size wx w')) :
    Calls Try.prog 29 #[.slice A n c, .bool bot, .slice M mn mc] w (RetMg w (chk1 es) (keepE es bot ms)) := by
  obtain ⟨W1, hW1⟩ : ∃ W1, W1 = w.alloc (.cells #[.slice A n c] 25) := ⟨_, rfl⟩
  have bW1 : Below w.heap.size w W1 := by rw [hW1]; exact (Below.refl _ _).alloc (Nat.le_refl _) _
  obtain ⟨z, hz⟩ : ∃ z, z = chk1 es := ⟨_, rfl⟩
  have HM : Hid (Calls Try.prog 57 #[.slice (some ⟨w.heap.size, 0, none⟩) 1 1] (w.alloc (.cells #[.slice A n c] 25)) (RetNu W1 z)) := Lib.hid (by
    rw [hz, ← chkL_one, hW1]
    exact mgCheck_any (RLs_one h hc) (by omega) (fun fs hf => by rw [List.mem_singleton] at hf; rw [hf, h.len]; omega))
  rw [← hz]
  have HL := Lib.hid h.len
  have HH := Lib.hid h
  have HS := Lib.hid hs
  have BW1 := Lib.hid bW1
  have HMM := Lib.hid hm
  have HRS := Lib.hid hrs
  have HRU := Lib.hid hru
  have HSE := Lib.hid hse
  have HSO := Lib.hid hsort
  have HID := Lib.hid hidle
  have HRL := Lib.hid hrl
  have HKE : Hid (keepE es bot ms = if bot then idleE (pkE (keepP es ms) es n) else pkE (keepP es ms) es n) := Lib.hid (by unfold keepE; rw [h.len])
  clear h hs bW1 hW1 hz hm hrs hru hse hsort hidle hrl
  go_enter Try.func29, Try.ntmps29
  go_wp2_with fail
  with_reducible refine HM.out.mono ?_
  rintro e w1 ⟨rfl, b1⟩
  have B1 := Lib.hid (belowT' BW1.out b1)
  clear b1 HM
  by_cases hz0 : z = 0
  · subst hz0
    go_wp2_with fail
    with_reducible refine (cloneU_any (HMM.out.below B1.out) hmn).mono ?_
    rintro e w2 ⟨C, cc, rfl, oC, b2⟩
    have B2 := Lib.hid (belowT' B1.out b2)
    have HSC := Lib.hid (HSO.out w2 w1.heap.size C cc b2.size oC)
    have S12 := Lib.hid b2.size
    clear oC b2
    go_wp2_with fail
    with_reducible refine HSC.out.mono ?_
    rintro e W0 ⟨rfl, oR, b3⟩
    have S1 := B1.out.size
    have hb0 : Below w.heap.size w W0 := B2.out.trans (b3.mono S1)
    have HM := Lib.hid (OwnU.rd oR HRU.out)
    have B0 := Lib.hid hb0
    obtain ⟨_, ovs, hev, hrd⟩ := HH.out.below hb0
    have HEV0 := Lib.hid hev
    have HRD0 := Lib.hid hrd
    have HR0 := Lib.hid (HH.out.below hb0)
    clear oR b3 hb0 hev hrd
    go_wp2_with fail
    go_loopw [10, 27] (fun s10 s27 wr => ∃ (k m d : Nat) (L : Option Addr), k ≤ n ∧ s27 = .int .i64 (k : Int) ∧ s10 = .slice L m d ∧ Pck W0 ovs (pkE (keepP es ms) es k) L m d wr) (fun _ s _ => n - (intOf s).toNat)
    case atStart => exact ⟨0, 0, 0, none, Nat.zero_le _, rfl, rfl, Pck.zero _ _⟩
    case round =>
      obtain ⟨k, m, d, L, hk, rfl, rfl, hP⟩ := hrel
      have HP := Lib.hid hP
      have HB := Lib.hid hP.bel
      clear hP
      by_cases hlt : k < n
      · obtain ⟨b, off, hAb, hbl⟩ := HR0.out.pos (by omega)
        subst hAb
        obtain ⟨x, v0, v1, v2, v3, hx, c0, c1, c2, c3, hev, hmem⟩ := mem4 HEV0.out HRD0.out HL.out rfl hlt
        obtain ⟨K, kn, kc, V, vn, vc, rfl, rfl, rfl, rfl, _⟩ := hev.parts
        have HXK := Lib.hid hx
        have HEV := Lib.hid hev
        have HMEM := Lib.hid hmem
        obtain ⟨U0, hU⟩ : ∃ U0, U0 = wr.alloc (.cells #[.slice K kn kc, .int .u64 (x.seq : Int), .int .u8 (x.kind : Int), .slice V vn vc] 33) := ⟨_, rfl⟩
        obtain ⟨g0, hg0⟩ : ∃ g0, g0 = wr.heap.size := ⟨_, rfl⟩
        have bU : Below wr.heap.size wr U0 := by rw [hU]; exact (Below.refl _ _).alloc (Nat.le_refl _) _
        have zU : Cl U0 g0 #[.slice K kn kc, .int .u64 (x.seq : Int), .int .u8 (x.kind : Int), .slice V vn vc] 33 := by rw [hU, hg0]; exact Cl.new _ _ _
        have ZU := Lib.hid zU
        have hB := HB.out
        have d0 := (hB.cell (p := ⟨b, off + k * 4, none⟩) hbl).trans c0
        have d1 := (hB.cell (p := ⟨b, off + k * 4 + 1, none⟩) hbl).trans c1
        have d2 := (hB.cell (p := ⟨b, off + k * 4 + 2, none⟩) hbl).trans c2
        have d3 := (hB.cell (p := ⟨b, off + k * 4 + 3, none⟩) hbl).trans c3
        have HU := Lib.hid hU
        have HG := Lib.hid hg0
        have HPU := Lib.hid (HP.out.below bU)
        obtain ⟨nw, hnw⟩ : ∃ nw, nw = newerE es k := ⟨_, rfl⟩
        obtain ⟨sn, hsn⟩ : ∃ sn, sn = seenE es k ms := ⟨_, rfl⟩
        have HSN : Hid (∀ wx, Below U0.heap.size U0 wx → Calls Try.prog 64 #[.slice (some ⟨b, off, none⟩) n c, .int .i64 (k : Int), .slice C mn cc] wx (RetBq wx sn)) := Lib.hid (fun wx hbx => by
          rw [hsn, ← HSE.out k]
          exact isSeen_any (HR0.out.below (belowT' (belowT' HB.out bU) hbx)) (by omega) k hlt (HM.out.below (belowT' (belowT' HB.out bU) hbx)) (by omega) HRS.out)
        have HNW : Hid (Calls Try.prog 69 #[.slice (some ⟨b, off, none⟩) n c, .int .i64 (k : Int)] U0 (RetNw U0 nw)) := Lib.hid (by rw [hnw]; exact mgNewer_any (HR0.out.below (belowT' HB.out bU)) (by omega) k hlt)
        have HPK : Hid (pkE (keepP es ms) es (k + 1) = pkE (keepP es ms) es k ++ (if !nw.isSome || sn then [x] else [])) := Lib.hid (by rw [pkE_snoc hx, hnw, hsn]; rfl)
        have hmn2 : m ≤ n := by have := HP.out.len; have := pkE_len (keepP es ms) es k; omega
        clear hx c0 c1 c2 c3 hev hmem hU hg0 bU zU hB hsn hnw
        go_upto_region 10 with (fail)
        rw [← HU.out, ← HG.out]
        clear d0 d1 d2 d3
        go_wp2_with fail
        with_reducible refine HNW.out.mono ?_
        rintro e w3 ⟨rfl, q3, hq3⟩
        have bq3 : Below U0.heap.size U0 w3 := by rw [hq3]; exact below_drewN (Below.refl _ _) q3
        have HQ3 := Lib.hid bq3
        clear hq3 bq3
        have HAPP : Hid (∀ w4, Below U0.heap.size U0 w4 → ∃ vs, OwnE w4 W0.heap.size L m d vs ∧ EVs W0 (pkE (keepP es ms) es k) vs ∧ (pkE (keepP es ms) es k).length = m ∧ Below W0.heap.size W0 w4 ∧ (∀ u ∈ vs, u ∈ ovs)) := Lib.hid (fun w4 hb => HPU.out.below hb)
        cases nw with
        | none =>
          obtain ⟨z0, z1, z2, z3, _⟩ := (ZU.out.below HQ3.out).c4
          obtain ⟨vs, o1, hev1, hlen1, hb1, hm1⟩ := HAPP.out w3 HQ3.out
          have O1 := Lib.hid o1
          have HE1 := Lib.hid hev1
          have HL1 := Lib.hid hlen1
          have HM1 := Lib.hid hm1
          have HB1 := Lib.hid hb1
          have bl : Below w3.heap.size w3 (w3.alloc (.cells #[.slice K kn kc, .int .u64 (x.seq : Int), .int .u8 (x.kind : Int), .slice V vn vc] 33)) := (Below.refl _ _).alloc (Nat.le_refl _) _
          have O1' := Lib.hid (O1.out.below bl)
          have r2 := Lib.hid (rdv_of_cl (Cl.new w3 #[.slice K kn kc, .int .u64 (x.seq : Int), .int .u8 (x.kind : Int), .slice V vn vc] 33))
          have BL := Lib.hid bl
          have sW := HB1.out.size
          clear o1 hev1 hlen1 hb1 hm1 bl
          go_wp2_with (at_builtin; refine wpList_app4 (w3.alloc (.cells #[.slice K kn kc, .int .u64 (x.seq : Int), .int .u8 (x.kind : Int), .slice V vn vc] 33)) rfl _ _ 25 rfl W0.heap.size _ 64 Try.underlying25 info_ent rfl L m d vs rfl O1'.out (some ⟨w3.heap.size, 0, none⟩) 1 1 [.slice K kn kc, .int .u64 (x.seq : Int), .int .u8 (x.kind : Int), .slice V vn vc] rfl r2.out HEV.out.cells ?_ ?_ ?_ ?_)
          · omega
          · omega
          · simp; omega
          intro A2 c2 w5 o2 _ b2
          have HP3 : Hid (Pck W0 ovs (pkE (keepP es ms) es (k + 1)) A2 (m + 1) c2 w5) := Lib.hid (by
            rw [HPK.out]
            exact Pck.snoc HE1.out HL1.out HM1.out HEV.out HMEM.out o2 ((HB1.out.trans (BL.out.mono sW)).trans b2))
          clear o2 b2 z0 z1 z2 z3
          go_wp2_with fail
          go_roundw
          case rel => exact ⟨k + 1, m + 1, c2, A2, by omega, by go_num, rfl, HP3.out⟩
          case measure => simp [intOf]; omega
        | some u =>
          have HSN3 := Lib.hid (HSN.out w3 HQ3.out)
          go_wp2_with fail
          with_reducible refine HSN3.out.mono ?_
          rintro e w4 ⟨rfl, q4, hq4⟩
          have bq4 : Below U0.heap.size U0 w4 := belowT' HQ3.out (by rw [hq4]; exact below_drewN (Below.refl _ _) q4)
          have HQ4 := Lib.hid bq4
          clear hq4 bq4
          cases sn with
          | true =>
            obtain ⟨z0, z1, z2, z3, _⟩ := (ZU.out.below HQ4.out).c4
            obtain ⟨vs, o1, hev1, hlen1, hb1, hm1⟩ := HAPP.out w4 HQ4.out
            have O1 := Lib.hid o1
            have HE1 := Lib.hid hev1
            have HL1 := Lib.hid hlen1
            have HM1 := Lib.hid hm1
            have HB1 := Lib.hid hb1
            have bl : Below w4.heap.size w4 (w4.alloc (.cells #[.slice K kn kc, .int .u64 (x.seq : Int), .int .u8 (x.kind : Int), .slice V vn vc] 33)) := (Below.refl _ _).alloc (Nat.le_refl _) _
            have O1' := Lib.hid (O1.out.below bl)
            have r2 := Lib.hid (rdv_of_cl (Cl.new w4 #[.slice K kn kc, .int .u64 (x.seq : Int), .int .u8 (x.kind : Int), .slice V vn vc] 33))
            have BL := Lib.hid bl
            have sW := HB1.out.size
            clear o1 hev1 hlen1 hb1 hm1 bl
            go_wp2_with (at_builtin; refine wpList_app4 (w4.alloc (.cells #[.slice K kn kc, .int .u64 (x.seq : Int), .int .u8 (x.kind : Int), .slice V vn vc] 33)) rfl _ _ 25 rfl W0.heap.size _ 64 Try.underlying25 info_ent rfl L m d vs rfl O1'.out (some ⟨w4.heap.size, 0, none⟩) 1 1 [.slice K kn kc, .int .u64 (x.seq : Int), .int .u8 (x.kind : Int), .slice V vn vc] rfl r2.out HEV.out.cells ?_ ?_ ?_ ?_)
            · omega
            · omega
            · simp; omega
            intro A2 c2 w5 o2 _ b2
            have HP3 : Hid (Pck W0 ovs (pkE (keepP es ms) es (k + 1)) A2 (m + 1) c2 w5) := Lib.hid (by
              rw [HPK.out]
              exact Pck.snoc HE1.out HL1.out HM1.out HEV.out HMEM.out o2 ((HB1.out.trans (BL.out.mono sW)).trans b2))
            clear o2 b2 z0 z1 z2 z3
            go_wp2_with fail
            go_roundw
            case rel => exact ⟨k + 1, m + 1, c2, A2, by omega, by go_num, rfl, HP3.out⟩
            case measure => simp [intOf]; omega
          | false =>
            have HP3 : Hid (Pck W0 ovs (pkE (keepP es ms) es (k + 1)) L m d w4) := Lib.hid (by
              rw [HPK.out]
              simpa using HPU.out.below HQ4.out)
            go_wp2_with fail
            go_roundw
            case rel => exact ⟨k + 1, m, d, L, by omega, by go_num, rfl, HP3.out⟩
            case measure => simp [intOf]; omega
      · obtain rfl : k = n := by omega
        obtain ⟨vs, o1, hev1, hlen1, hb1, hm1⟩ := HP.out
        have hml : m ≤ k := by rw [← hlen1]; exact pkE_len _ _ _
        have hre : REs wr L m (pkE (keepP es ms) es k) := REs.mk (hev1.below hb1) o1.rd hlen1
        have hmd := o1.cap.1
        have hsz : ∀ y ∈ pkE (keepP es ms) es k, SzE y := fun y hy => HS.out y (pkE_mem hy)
        have HBW := Lib.hid (belowT' B0.out hb1)
        have HRE := Lib.hid hre
        have HSZ := Lib.hid hsz
        clear o1 hev1 hlen1 hb1 hm1 hre hsz
        cases bot with
        | false =>
          have HOW := Lib.hid (mgOwn_any (c := d) HRE.out (by omega) HSZ.out)
          go_wp2_with fail
          with_reducible refine HOW.out.mono ?_
          rintro e w2 ⟨L2, n2, c2, rfl, hrow⟩
          have HF : Hid (RetMg w 0 (keepE es false ms) (.returned (.tuple #[.slice L2 n2 c2, .int .i64 0])) w2) := Lib.hid (.inr ⟨rfl, L2, n2, c2, rfl, by rw [HKE.out]; exact hrow.lower HBW.out⟩)
          clear hrow
          go_wp2_with fail
          exact bodyPost_ret (v := .tuple #[.slice L2 n2 c2, .int .i64 0]) (by simp [results, Try.f29, go_sem]; try rfl) rfl HF.out
        | true =>
          have HIW := Lib.hid (HID.out rfl wr L m d _ HRE.out hml hmd HSZ.out)
          go_wp2_with fail
          with_reducible refine HIW.out.mono ?_
          rintro e w6 ⟨L6, m6, d6, rfl, hr6, hd6, b6⟩
          have hm6 : m6 ≤ m := by
            have h1 := hr6.len
            have h2 := idleE_len (pkE (keepP es ms) es k)
            have h3 := HRE.out.len
            omega
          have HOW := Lib.hid (mgOwn_any (c := d6) hr6 (by omega) (fun y hy => HSZ.out y (idleE_mem hy)))
          have HB6 := Lib.hid (belowT' HBW.out b6)
          clear hr6 b6
          go_wp2_with fail
          with_reducible refine HOW.out.mono ?_
          rintro e w2 ⟨L2, n2, c2, rfl, hrow⟩
          have HF : Hid (RetMg w 0 (keepE es true ms) (.returned (.tuple #[.slice L2 n2 c2, .int .i64 0])) w2) := Lib.hid (.inr ⟨rfl, L2, n2, c2, rfl, by rw [HKE.out]; exact hrow.lower HB6.out⟩)
          clear hrow
          go_wp2_with fail
          exact bodyPost_ret (v := .tuple #[.slice L2 n2 c2, .int .i64 0]) (by simp [results, Try.f29, go_sem]; try rfl) rfl HF.out
  · have t1 : (z == 0) = false := by rw [beq_eq_false_iff_ne]; exact hz0
    go_wp2_with fail
    exact bodyPost_ret (v := .tuple #[.slice none 0 0, .int .i64 z]) (by simp [results, Try.f29, go_sem]; try rfl) rfl (.inl ⟨hz0, rfl, B1.out⟩)
end Go.Proofs.Ytgigohfjioifaaa
namespace Go.Proofs.Ytgigohfjioifaaa
open Go Go.RowKit

/-- Two lists in order as one; of two alike that of the first. -/
def mrg2 : List En → List En → List En
  | [], gs => gs
  | x :: es, [] => x :: es
  | x :: es, y :: gs => if lessE y x then y :: mrg2 (x :: es) gs else if lessE x y then x :: mrg2 es (y :: gs) else x :: mrg2 es gs
termination_by a b => a.length + b.length
theorem mrg2_nil (es : List En) : mrg2 es [] = es := by
  cases es <;> simp [mrg2]
theorem nil_mrg2 (gs : List En) : mrg2 [] gs = gs := by simp [mrg2]
theorem mrg2_cons (x y : En) (es gs : List En) : mrg2 (x :: es) (y :: gs) = if lessE y x then y :: mrg2 (x :: es) gs else if lessE x y then x :: mrg2 es (y :: gs) else x :: mrg2 es gs := by rw [mrg2]
theorem inL_iff {es : List En} {e : En} : inL es e = true ↔ ∃ x ∈ es, x.key = e.key ∧ x.seq = e.seq := by
  unfold inL
  rw [List.any_eq_true]
  exact ⟨fun ⟨x, h1, h2⟩ => ⟨x, h1, sameK_iff.1 h2⟩, fun ⟨x, h1, h2⟩ => ⟨x, h1, sameK_iff.2 h2⟩⟩
theorem inL_not {es : List En} {e : En} : inL es e = false ↔ ∀ x ∈ es, ¬ (x.key = e.key ∧ x.seq = e.seq) := by
  rw [← Bool.not_eq_true, inL_iff]
  exact ⟨fun h x hx hk => h ⟨x, hx, hk⟩, fun h ⟨x, hx, hk⟩ => h x hx hk⟩
theorem less_ne {a b : En} (h : lessE a b = true) : ¬ (a.key = b.key ∧ a.seq = b.seq) := fun hk => by
  have := (sameK_not (sameK_iff.2 hk)).1
  rw [h] at this
  cases this
theorem sort_head {x : En} {es : List En} (h : SortL (x :: es)) : ∀ y ∈ es, lessE x y = true := (List.pairwise_cons.1 h).1
theorem sort_tail {x : En} {es : List En} (h : SortL (x :: es)) : SortL es := (List.pairwise_cons.1 h).2
theorem mrg2_mem {z : En} : ∀ {es gs : List En}, SortL es → SortL gs → (z ∈ mrg2 es gs ↔ z ∈ es ∨ (z ∈ gs ∧ inL es z = false))
  | [], gs, _, _ => by
    rw [nil_mrg2]
    simp [inL]
  | x :: es, [], _, _ => by
    rw [mrg2_nil]
    simp
  | x :: es, y :: gs, h1, h2 => by
    have t1 := sort_tail h1
    have t2 := sort_tail h2
    rw [mrg2_cons]
    by_cases hyx : lessE y x = true
    · rw [if_pos hyx, List.mem_cons, mrg2_mem (es := x :: es) h1 t2]
      have hny : inL (x :: es) y = false := by
        rw [inL_not]
        intro v hv hk
        rcases List.mem_cons.1 hv with e | e
        · rw [e] at hk
          exact less_ne hyx ⟨hk.1.symm, hk.2.symm⟩
        · exact less_ne (lessE_trans hyx (sort_head h1 v e)) ⟨hk.1.symm, hk.2.symm⟩
      constructor
      · rintro (h | h | ⟨h, k⟩)
        · exact .inr ⟨by rw [h]; exact List.mem_cons_self, by rw [h]; exact hny⟩
        · exact .inl h
        · exact .inr ⟨List.mem_cons_of_mem _ h, k⟩
      · rintro (h | ⟨h, k⟩)
        · exact .inr (.inl h)
        · rcases List.mem_cons.1 h with h | h
          · exact .inl h
          · exact .inr (.inr ⟨h, k⟩)
    · rw [if_neg hyx]
      by_cases hxy : lessE x y = true
      · rw [if_pos hxy, List.mem_cons, mrg2_mem (gs := y :: gs) t1 h2]
        have hx : ∀ v ∈ y :: gs, ¬ (x.key = v.key ∧ x.seq = v.seq) := fun v hv => by
          rcases List.mem_cons.1 hv with e | e
          · rw [e]; exact less_ne hxy
          · exact less_ne (lessE_trans hxy (sort_head h2 v e))
        constructor
        · rintro (h | h | ⟨h, k⟩)
          · exact .inl (by rw [h]; exact List.mem_cons_self)
          · exact .inl (List.mem_cons_of_mem _ h)
          · refine .inr ⟨h, ?_⟩
            rw [inL_not] at k ⊢
            intro v hv
            rcases List.mem_cons.1 hv with e | e
            · rw [e]; exact hx z h
            · exact k v e
        · rintro (h | ⟨h, k⟩)
          · rcases List.mem_cons.1 h with h | h
            · exact .inl h
            · exact .inr (.inl h)
          · refine .inr (.inr ⟨h, ?_⟩)
            rw [inL_not] at k ⊢
            exact fun v hv => k v (List.mem_cons_of_mem _ hv)
      · have hs : x.key = y.key ∧ x.seq = y.seq := by
          rcases lessE_tri x y with h | h | h
          · exact absurd h hxy
          · exact absurd h hyx
          · exact sameK_iff.1 h
        rw [if_neg hxy, List.mem_cons, mrg2_mem t1 t2]
        have hx : ∀ v ∈ gs, ¬ (x.key = v.key ∧ x.seq = v.seq) := fun v hv hk =>
          less_ne (sort_head h2 v hv) ⟨hs.1.symm.trans hk.1, hs.2.symm.trans hk.2⟩
        constructor
        · rintro (h | h | ⟨h, k⟩)
          · exact .inl (by rw [h]; exact List.mem_cons_self)
          · exact .inl (List.mem_cons_of_mem _ h)
          · refine .inr ⟨List.mem_cons_of_mem _ h, ?_⟩
            rw [inL_not] at k ⊢
            intro v hv
            rcases List.mem_cons.1 hv with e | e
            · rw [e]; exact hx z h
            · exact k v e
        · rintro (h | ⟨h, k⟩)
          · rcases List.mem_cons.1 h with h | h
            · exact .inl h
            · exact .inr (.inl h)
          · rw [inL_not] at k
            rcases List.mem_cons.1 h with h | h
            · exact absurd (by rw [h]; exact hs) (k x List.mem_cons_self)
            · refine .inr (.inr ⟨h, ?_⟩)
              rw [inL_not]
              exact fun v hv => k v (List.mem_cons_of_mem _ hv)
termination_by es gs => es.length + gs.length
theorem mrg2_sort : ∀ {es gs : List En}, SortL es → SortL gs → SortL (mrg2 es gs)
  | [], gs, _, h => by rw [nil_mrg2]; exact h
  | x :: es, [], h, _ => by rw [mrg2_nil]; exact h
  | x :: es, y :: gs, h1, h2 => by
    have t1 := sort_tail h1
    have t2 := sort_tail h2
    rw [mrg2_cons]
    by_cases hyx : lessE y x = true
    · rw [if_pos hyx]
      refine List.pairwise_cons.2 ⟨fun v hv => ?_, mrg2_sort h1 t2⟩
      rcases (mrg2_mem h1 t2).1 hv with h | ⟨h, _⟩
      · rcases List.mem_cons.1 h with e | e
        · rw [e]; exact hyx
        · exact lessE_trans hyx (sort_head h1 v e)
      · exact sort_head h2 v h
    · rw [if_neg hyx]
      by_cases hxy : lessE x y = true
      · rw [if_pos hxy]
        refine List.pairwise_cons.2 ⟨fun v hv => ?_, mrg2_sort t1 h2⟩
        rcases (mrg2_mem t1 h2).1 hv with h | ⟨h, _⟩
        · exact sort_head h1 v h
        · rcases List.mem_cons.1 h with e | e
          · rw [e]; exact hxy
          · exact lessE_trans hxy (sort_head h2 v e)
      · rw [if_neg hxy]
        have hs : x.key = y.key ∧ x.seq = y.seq := by
          rcases lessE_tri x y with h | h | h
          · exact absurd h hxy
          · exact absurd h hyx
          · exact sameK_iff.1 h
        refine List.pairwise_cons.2 ⟨fun v hv => ?_, mrg2_sort t1 t2⟩
        rcases (mrg2_mem t1 t2).1 hv with h | ⟨h, _⟩
        · exact sort_head h1 v h
        · have := sort_head h2 v h
          rw [lessE_iff] at this ⊢
          rw [hs.1, hs.2]
          exact this
termination_by es gs => es.length + gs.length
theorem mrg2_len : ∀ (es gs : List En), (mrg2 es gs).length ≤ es.length + gs.length
  | [], gs => by rw [nil_mrg2]; simp
  | x :: es, [] => by rw [mrg2_nil]; simp
  | x :: es, y :: gs => by
    have h1 := mrg2_len (x :: es) gs
    have h2 := mrg2_len es (y :: gs)
    have h3 := mrg2_len es gs
    simp only [List.length_cons] at h1 h2
    rw [mrg2_cons]
    split
    · simp only [List.length_cons]; omega
    · split <;> simp only [List.length_cons] <;> omega
termination_by es gs => es.length + gs.length
theorem mrg2_from {z : En} : ∀ {es gs : List En}, z ∈ mrg2 es gs → z ∈ es ∨ z ∈ gs
  | [], gs, h => by rw [nil_mrg2] at h; exact .inr h
  | x :: es, [], h => by rw [mrg2_nil] at h; exact .inl h
  | x :: es, y :: gs, h => by
    rw [mrg2_cons] at h
    split at h
    · rcases List.mem_cons.1 h with h | h
      · exact .inr (by rw [h]; exact List.mem_cons_self)
      · rcases mrg2_from h with h | h
        · exact .inl h
        · exact .inr (List.mem_cons_of_mem _ h)
    · split at h
      · rcases List.mem_cons.1 h with h | h
        · exact .inl (by rw [h]; exact List.mem_cons_self)
        · rcases mrg2_from h with h | h
          · exact .inl (List.mem_cons_of_mem _ h)
          · exact .inr h
      · rcases List.mem_cons.1 h with h | h
        · exact .inl (by rw [h]; exact List.mem_cons_self)
        · rcases mrg2_from h with h | h
          · exact .inl (List.mem_cons_of_mem _ h)
          · exact .inr (List.mem_cons_of_mem _ h)
termination_by es gs => es.length + gs.length
/-- Lists in order are what they have. -/
theorem sort_ext : ∀ {es gs : List En}, SortL es → SortL gs → (∀ z, z ∈ es ↔ z ∈ gs) → es = gs
  | [], [], _, _, _ => rfl
  | [], y :: gs, _, _, h => by have := (h y).2 List.mem_cons_self; cases this
  | x :: es, [], _, _, h => by have := (h x).1 List.mem_cons_self; cases this
  | x :: es, y :: gs, h1, h2, h => by
    have hxy : x = y := by
      rcases List.mem_cons.1 ((h x).1 List.mem_cons_self) with e | e
      · exact e
      · rcases List.mem_cons.1 ((h y).2 List.mem_cons_self) with k | k
        · exact k.symm
        · have a1 := sort_head h2 x e
          have a2 := lessE_asym (sort_head h1 y k)
          rw [a1] at a2
          cases a2
    subst hxy
    have : es = gs := sort_ext (sort_tail h1) (sort_tail h2) (fun z => by
      have hz := h z
      have n1 : ∀ {l : List En}, SortL (x :: l) → z ∈ l → z ≠ x := fun hs hz he => by
        have := sort_head hs z hz
        rw [he, lessE_irr] at this
        cases this
      constructor
      · intro k
        rcases List.mem_cons.1 (hz.1 (List.mem_cons_of_mem _ k)) with e | e
        · exact absurd e (n1 h1 k)
        · exact e
      · intro k
        rcases List.mem_cons.1 (hz.2 (List.mem_cons_of_mem _ k)) with e | e
        · exact absurd e (n1 h2 k)
        · exact e)
    rw [this]
theorem inL_mrg2 {es gs : List En} (h1 : SortL es) (h2 : SortL gs) (z : En) : inL (mrg2 es gs) z = (inL es z || inL gs z) := by
  cases hb : (inL es z || inL gs z) with
  | true =>
    rw [inL_iff]
    by_cases he : inL es z = true
    · obtain ⟨x, hx, hk⟩ := inL_iff.1 he
      exact ⟨x, (mrg2_mem h1 h2).2 (.inl hx), hk⟩
    · rw [Bool.not_eq_true] at he
      rw [he, Bool.false_or] at hb
      obtain ⟨x, hx, hk⟩ := inL_iff.1 hb
      refine ⟨x, (mrg2_mem h1 h2).2 (.inr ⟨hx, ?_⟩), hk⟩
      rw [inL_not] at he ⊢
      exact fun v hv k => he v hv ⟨k.1.trans hk.1, k.2.trans hk.2⟩
  | false =>
    rw [Bool.or_eq_false_iff] at hb
    rw [inL_not]
    intro v hv
    rcases (mrg2_mem h1 h2).1 hv with h | ⟨h, _⟩
    · exact inL_not.1 hb.1 v h
    · exact inL_not.1 hb.2 v h
theorem mrg2_assoc {a b c : List En} (ha : SortL a) (hb : SortL b) (hc : SortL c) : mrg2 (mrg2 a b) c = mrg2 a (mrg2 b c) := by
  have hab := mrg2_sort ha hb
  have hbc := mrg2_sort hb hc
  refine sort_ext (mrg2_sort hab hc) (mrg2_sort ha hbc) (fun z => ?_)
  rw [mrg2_mem hab hc, mrg2_mem ha hbc, mrg2_mem ha hb, mrg2_mem hb hc, inL_mrg2 ha hb, Bool.or_eq_false_iff]
  constructor
  · rintro ((h | ⟨h, k⟩) | ⟨h, k1, k2⟩)
    · exact .inl h
    · exact .inr ⟨.inl h, k⟩
    · exact .inr ⟨.inr ⟨h, k2⟩, k1⟩
  · rintro (h | ⟨h | ⟨h, k⟩, k2⟩)
    · exact .inl (.inl h)
    · exact .inl (.inr ⟨h, k2⟩)
    · exact .inr ⟨h, k2, k⟩
theorem mrg2_self {a : List En} (h : SortL a) : mrg2 a a = a := by
  refine sort_ext (mrg2_sort h h) h (fun z => ?_)
  rw [mrg2_mem h h]
  constructor
  · rintro (k | ⟨k, _⟩) <;> exact k
  · exact .inl
/-- Entries put in one by one, those that aren't there. -/
def insA (o : List En) : List En → List En
  | [] => o
  | x :: xs => insA (if inL o x then o else insL o x) xs
theorem insL_mem2 {o : List En} {x z : En} (hs : SortL o) (hin : inL o x = false) : z ∈ insL o x ↔ z ∈ o ∨ z = x := by
  obtain ⟨p, q, e, h1, h2⟩ := split_of hs hin
  subst e
  rw [insL_app (fun y hy => lessE_asym (h1 y hy)) h2]
  simp only [List.mem_append, List.mem_cons]
  constructor
  · rintro (h | h | h)
    · exact .inl (.inl h)
    · exact .inr h
    · exact .inl (.inr h)
  · rintro ((h | h) | h)
    · exact .inl h
    · exact .inr (.inr h)
    · exact .inr (.inl h)
theorem insA_mrg2 : ∀ {xs o : List En}, SortL o → SortL xs → insA o xs = mrg2 o xs
  | [], o, _, _ => by rw [mrg2_nil]; rfl
  | x :: xs, o, ho, hx => by
    have tx := sort_tail hx
    rw [insA]
    have hone : SortL [x] := List.pairwise_singleton _ _
    have hstep : (if inL o x then o else insL o x) = mrg2 o [x] := by
      by_cases hi : inL o x = true
      · rw [if_pos hi]
        refine (sort_ext (mrg2_sort ho hone) ho (fun z => ?_)).symm
        rw [mrg2_mem ho hone, List.mem_singleton]
        constructor
        · rintro (h | ⟨h, k⟩)
          · exact h
          · rw [h, hi] at k; cases k
        · exact .inl
      · rw [if_neg hi]
        rw [Bool.not_eq_true] at hi
        refine sort_ext (insL_sort ho hi) (mrg2_sort ho hone) (fun z => ?_)
        rw [insL_mem2 ho hi, mrg2_mem ho hone, List.mem_singleton]
        constructor
        · rintro (h | h)
          · exact .inl h
          · exact .inr ⟨h, by rw [h]; exact hi⟩
        · rintro (h | ⟨h, _⟩)
          · exact .inl h
          · exact .inr h
    have hcat : mrg2 [x] xs = x :: xs := by
      refine sort_ext (mrg2_sort hone tx) hx (fun z => ?_)
      rw [mrg2_mem hone tx, List.mem_singleton, List.mem_cons]
      constructor
      · rintro (h | ⟨h, _⟩)
        · exact .inl h
        · exact .inr h
      · rintro (h | h)
        · exact .inl h
        · refine .inr ⟨h, ?_⟩
          rw [inL_not]
          intro v hv
          rw [List.mem_singleton] at hv
          rw [hv]
          exact less_ne (sort_head hx z h)
    rw [hstep, insA_mrg2 (mrg2_sort ho hone) tx, mrg2_assoc ho hone tx, hcat]
/-- What the reference's Merge makes. -/
def refM (ls : List (List En)) : List En := ls.foldl insA []
/-- What join makes. -/
def joinL : Nat → List (List En) → List En
  | 0, _ => []
  | f + 1, ls => match ls with
    | [] => []
    | [x] => x
    | _ => mrg2 (joinL f (ls.take (ls.length / 2))) (joinL f (ls.drop (ls.length / 2)))
def AllS (ls : List (List En)) : Prop := ∀ l ∈ ls, SortL l
theorem foldl_sort : ∀ {ls : List (List En)} {o : List En}, SortL o → AllS ls → SortL (ls.foldl mrg2 o)
  | [], _, h, _ => h
  | l :: ls, o, h, hs => by
    rw [List.foldl_cons]
    exact foldl_sort (mrg2_sort h (hs l List.mem_cons_self)) (fun x hx => hs x (List.mem_cons_of_mem _ hx))
theorem foldl_ins : ∀ {ls : List (List En)} {o : List En}, SortL o → AllS ls → ls.foldl insA o = ls.foldl mrg2 o
  | [], _, _, _ => rfl
  | l :: ls, o, h, hs => by
    have hl := hs l List.mem_cons_self
    rw [List.foldl_cons, List.foldl_cons, insA_mrg2 h hl]
    exact foldl_ins (mrg2_sort h hl) (fun x hx => hs x (List.mem_cons_of_mem _ hx))
theorem sort_nil : SortL [] := List.Pairwise.nil
theorem foldl_out : ∀ {ls : List (List En)} {o : List En}, SortL o → AllS ls → ls.foldl mrg2 o = mrg2 o (ls.foldl mrg2 [])
  | [], o, _, _ => by simp only [List.foldl_nil]; rw [mrg2_nil]
  | l :: ls, o, h, hs => by
    have hl := hs l List.mem_cons_self
    have ht : AllS ls := fun x hx => hs x (List.mem_cons_of_mem _ hx)
    rw [List.foldl_cons, List.foldl_cons, nil_mrg2, foldl_out (mrg2_sort h hl) ht, foldl_out hl ht, mrg2_assoc h hl (foldl_sort sort_nil ht)]
theorem joinL_eq : ∀ (f : Nat) {ls : List (List En)}, ls.length ≤ f → AllS ls → joinL f ls = ls.foldl mrg2 []
  | 0, ls, h, _ => by
    have : ls = [] := List.eq_nil_of_length_eq_zero (by omega)
    subst this
    rfl
  | f + 1, ls, h, hs => by
    match ls, h, hs with
    | [], _, _ => rfl
    | [x], _, _ => rw [joinL, List.foldl_cons, List.foldl_nil, nil_mrg2]
    | x :: y :: t, h, hs =>
      rw [joinL]
      · generalize hg : x :: y :: t = ls at h hs ⊢
        have h2 : 2 ≤ ls.length := by rw [← hg]; simp
        have s1 : AllS (ls.take (ls.length / 2)) := fun l hl => hs l (List.mem_of_mem_take hl)
        have s2 : AllS (ls.drop (ls.length / 2)) := fun l hl => hs l (List.mem_of_mem_drop hl)
        rw [joinL_eq f (by rw [List.length_take]; omega) s1, joinL_eq f (by rw [List.length_drop]; omega) s2, ← foldl_out (foldl_sort sort_nil s1) s2, ← List.foldl_append, List.take_append_drop]
      · intro h; cases h
      · intro z h; cases h
theorem joinL_ref {ls : List (List En)} (hs : AllS ls) : joinL ls.length ls = refM ls := by
  unfold refM
  rw [joinL_eq _ (Nat.le_refl _) hs, foldl_ins sort_nil hs]
end Go.Proofs.Ytgigohfjioifaaa
namespace Go.Proofs.Ytgigohfjioifaaa
open Go Go.RowKit

def e11 (s : Nat) : En := ⟨[107], s, 1, []⟩
theorem k11 : keepE [e11 9, e11 7, e11 5, e11 3] false [6] = [e11 9, e11 5] := by decide +kernel
theorem c11 : chk1 [e11 9, e11 7, e11 5, e11 3] = 0 := by decide +kernel
/-- Keep at one moment. -/
theorem keep1_any {w : World} {A M : Option Addr} {n c mc a : Nat} {es : List En} (h : REs w A n es) (hn : n ≤ 2097152) (hc : n ≤ c) (hs : ∀ x ∈ es, SzE x) (hm : RdU w M 1 [a]) :
    Calls Try.prog 29 #[.slice A n c, .bool false, .slice M 1 mc] w (RetMg w (chk1 es) (keepE es false [a])) :=
  keep_any h hn hc hs hm (by omega) (List.pairwise_singleton _ _) hm.2 rfl (fun _ => rfl)
    (fun wx base C cc hb ho => (sort1_any C cc wx).mono (by rintro e w' ⟨rfl, rfl⟩; exact ⟨rfl, ho, Below.refl _ _⟩)) (fun h => by cases h)
set_option maxRecDepth 100000 in
set_option maxHeartbeats 4000000 in
theorem awake11_any (w : World) : Calls Try.prog 19 #[] w (RetT w true) := by
  have kc := fun (w : World) (C : Array Value) (n c g : Nat) (hg : g = w.heap.size) => Joins.run_convert_bytes_const_at (P := Try.prog) w 22 5 C n c g hg Try.underlying22 Try.underlying5
  go_enter Try.func19, Try.ntmps19
  go_wp2_with fail
  obtain ⟨W, hW⟩ : ∃ W, W = ((w.alloc (.cells #[.int .u8 107] 5 (1, 2))).alloc (.cells #[.slice (some ⟨w.heap.size, 0, none⟩) 1 1, .int .u64 9, .int .u8 1, .slice none 0 0, .slice (some ⟨w.heap.size, 0, none⟩) 1 1, .int .u64 7, .int .u8 1, .slice none 0 0, .slice (some ⟨w.heap.size, 0, none⟩) 1 1, .int .u64 5, .int .u8 1, .slice none 0 0, .slice (some ⟨w.heap.size, 0, none⟩) 1 1, .int .u64 3, .int .u8 1, .slice none 0 0] 33)).alloc (.cells #[.int .u64 6] 23) := ⟨_, rfl⟩
  rw [← hW]
  have bW : Below w.heap.size w W := by rw [hW]; exact (((Below.refl _ _).alloc (Nat.le_refl _) _).alloc (by simp) _).alloc (by simp; omega) _
  have r1 : Rd W (some ⟨w.heap.size, 0, none⟩) 1 [107] := by rw [hW]; exact ((Rd.cst8 w _ 1 [107] rfl _ rfl (1, 2) _ rfl).alloc _).alloc _
  have rV : RdV W (some ⟨w.heap.size + 1, 0, none⟩) 16 [.slice (some ⟨w.heap.size, 0, none⟩) 1 1, .int .u64 9, .int .u8 1, .slice none 0 0, .slice (some ⟨w.heap.size, 0, none⟩) 1 1, .int .u64 7, .int .u8 1, .slice none 0 0, .slice (some ⟨w.heap.size, 0, none⟩) 1 1, .int .u64 5, .int .u8 1, .slice none 0 0, .slice (some ⟨w.heap.size, 0, none⟩) 1 1, .int .u64 3, .int .u8 1, .slice none 0 0] := by rw [hW]; exact ((ownV_box8 _ _ 0 _ 16 rfl (by omega) (Nat.zero_le _) _ rfl _ (by simp)).rd).below ((Below.refl _ _).alloc (Nat.le_refl _) _)
  have hev : ∀ s : Nat, s ≤ 9 → EV W (e11 s) (.slice (some ⟨w.heap.size, 0, none⟩) 1 1) (.int .u64 (s : Int)) (.int .u8 1) (.slice none 0 0) := fun s hs => ⟨rfl, rfl, by unfold e11 U64; simp; omega, by unfold e11; simp, ⟨_, 1, 1, rfl, r1, by omega, fun h => by cases h⟩, ⟨_, 0, 0, rfl, Rd.nil _ _, by omega, fun _ => rfl⟩⟩
  have hes : REs W (some ⟨w.heap.size + 1, 0, none⟩) 4 [e11 9, e11 7, e11 5, e11 3] := REs.mk (vs := [_, _, _, _] ++ ([_, _, _, _] ++ ([_, _, _, _] ++ [_, _, _, _]))) (EVs.app (EVs.one (hev 9 (by omega))) (EVs.app (EVs.one (hev 7 (by omega))) (EVs.app (EVs.one (hev 5 (by omega))) (EVs.one (hev 3 (by omega)))))) rV rfl
  have hm : RdU W (some ⟨w.heap.size + 1 + 1, 0, none⟩) 1 [6] := by
    rw [hW]
    have := RdU_one ((w.alloc (.cells #[.int .u8 107] 5 (1, 2))).alloc (.cells #[.slice (some ⟨w.heap.size, 0, none⟩) 1 1, .int .u64 9, .int .u8 1, .slice none 0 0, .slice (some ⟨w.heap.size, 0, none⟩) 1 1, .int .u64 7, .int .u8 1, .slice none 0 0, .slice (some ⟨w.heap.size, 0, none⟩) 1 1, .int .u64 5, .int .u8 1, .slice none 0 0, .slice (some ⟨w.heap.size, 0, none⟩) 1 1, .int .u64 3, .int .u8 1, .slice none 0 0] 33)) 6 (by unfold U64; omega) 23
    simpa using this
  have hK : Calls Try.prog 29 #[.slice (some ⟨w.heap.size + 1, 0, none⟩) 4 4, .bool false, .slice (some ⟨w.heap.size + 1 + 1, 0, none⟩) 1 1] W (RetMg W (chk1 [e11 9, e11 7, e11 5, e11 3]) (keepE [e11 9, e11 7, e11 5, e11 3] false [6])) := keep1_any hes (by omega) (by omega) (fun x hx => by
    simp only [List.mem_cons, List.not_mem_nil, or_false] at hx
    rcases hx with rfl | rfl | rfl | rfl <;> exact ⟨by unfold e11; simp, by unfold e11; simp⟩) hm
  rw [c11, k11] at hK
  have HK := Lib.hid hK
  have BW := Lib.hid bW
  clear hK hm hes hev rV r1 bW hW kc
  with_reducible refine HK.out.mono ?_
  rintro e w2 (⟨h0, _⟩ | ⟨_, L, n, c, rfl, hrow⟩)
  · exact absurd rfl h0
  · obtain rfl : n = 2 := hrow.len.symm
    have hr := hrow.rd
    obtain ⟨b, off, rfl, _⟩ := hr.pos (by omega)
    obtain ⟨x, v0, v1, v2, v3, hx, c0, c1, c2, c3, hev⟩ := hr.at_ 0 (by omega)
    obtain ⟨y, u0, u1, u2, u3, hy, d0, d1, d2, d3, hew⟩ := hr.at_ 1 (by omega)
    injection hx with hx
    injection hy with hy
    subst hx hy
    obtain ⟨K, kn, kc, V, vn, vc, rfl, rfl, rfl, rfl, _⟩ := hev.parts
    obtain ⟨K2, kn2, kc2, V2, vn2, vc2, rfl, rfl, rfl, rfl, _⟩ := hew.parts
    have g1 : w2.cell? ⟨b, off + 1, none⟩ = some (.int .u64 9) := by simpa [e11] using c1
    have g2 : w2.cell? ⟨b, off + 4 + 1, none⟩ = some (.int .u64 5) := by simpa [e11] using d1
    have B2 := Lib.hid (belowT' BW.out hrow.bel)
    clear hrow hr hev hew c0 c1 c2 c3 d0 d1 d2 d3
    go_wp2_with fail
    go_ret
    exact ⟨rfl, B2.out⟩
end Go.Proofs.Ytgigohfjioifaaa
namespace Go.Proofs.Ytgigohfjioifaaa
open Go Go.RowKit

set_option maxRecDepth 100000 in
set_option maxHeartbeats 4000000 in
theorem few11_any {A : Option Addr} {n c : Nat} {m : Nat} (hc : n ≤ c) (w : World) : Calls Try.prog 25 #[.slice A n c, .int .i64 (m : Int)] w (fun e w' => e = .returned (.slice A (min n m) c) ∧ w' = w) := by
  by_cases h : m < n
  · have hm : min n m = m := by omega
    have hcl : ∀ w, (Instr.slice 25 (.slice A n c) none (some (.int .i64 (m : Int))) none).run Try.prog w = .ok (.slice A m c) w := fun w => cut4_h Try.underlying25 elem4 size4 A (by omega) w
    rw [hm]
    clear hm
    go_enter Try.func25, Try.ntmps25
    go_wp2_with fail
    go_ret
    exact ⟨rfl, rfl⟩
  · have hm : min n m = n := by omega
    rw [hm]
    clear hm
    go_enter Try.func25, Try.ntmps25
    go_wp2_with fail
    go_ret
    exact ⟨rfl, rfl⟩
set_option maxRecDepth 100000 in
set_option maxHeartbeats 8000000 in
theorem refVisible_any {w : World} {A : Option Addr} {n c : Nat} {es : List En} {ovs : List Value} (hv : EVs w es ovs) (hd : RdV w A (n * 4) ovs) (hl : es.length = n) (hn : n ≤ 2097152) (hs : ∀ x ∈ es, SzE x) (a : Nat) (ha : U64 a) :
    Calls Try.prog 28 #[.slice A n c, .int .u64 (a : Int)] w (RetPick w (pkE (refP es a) es n) ovs) := by
  have HV := Lib.hid hv
  have HD := Lib.hid hd
  have HL := Lib.hid hl
  have HS := Lib.hid hs
  have HA := Lib.hid ha
  have HR0 := Lib.hid (REs.mk hv hd hl)
  clear hv hd hl hs ha
  go_enter Try.func28, Try.ntmps28
  go_wp2_with fail
  go_loopw [5, 6] (fun s5 s6 wr => ∃ (k m d : Nat) (L : Option Addr), k ≤ n ∧ s6 = .int .i64 (k : Int) ∧ s5 = .slice L m d ∧ Pck w ovs (pkE (refP es a) es k) L m d wr) (fun _ s _ => n - (intOf s).toNat)
  case atStart => exact ⟨0, 0, 0, none, Nat.zero_le _, rfl, rfl, Pck.zero _ _⟩
  case round =>
    obtain ⟨k, m, d, L, hk, rfl, rfl, hP⟩ := hrel
    have HP := Lib.hid hP
    have HB := Lib.hid hP.bel
    clear hP
    by_cases hlt : k < n
    · obtain ⟨b, off, hAb, hbl⟩ := HR0.out.pos (by omega)
      subst hAb
      obtain ⟨x, v0, v1, v2, v3, hx, c0, c1, c2, c3, hev, hmem⟩ := mem4 HV.out HD.out HL.out rfl hlt
      obtain ⟨K, kn, kc, V, vn, vc, rfl, rfl, rfl, rfl, r0, _⟩ := hev.parts
      have hsx := HS.out x (List.mem_of_getElem? hx)
      have hkn : kn ≤ maxLen := maxLen_e (by rw [← r0.len]; exact hsx.1)
      have HEV := Lib.hid hev
      have HMEM := Lib.hid hmem
      have HC : Hid (∀ wx, Below w.heap.size w wx → wx.cell? ⟨b, off + k * 4, none⟩ = some (.slice K kn kc) ∧ wx.cell? ⟨b, off + k * 4 + 1, none⟩ = some (.int .u64 (x.seq : Int)) ∧ wx.cell? ⟨b, off + k * 4 + 2, none⟩ = some (.int .u8 (x.kind : Int)) ∧ wx.cell? ⟨b, off + k * 4 + 3, none⟩ = some (.slice V vn vc)) := Lib.hid (fun wx hb => ⟨(hb.cell (p := ⟨b, off + k * 4, none⟩) hbl).trans c0, (hb.cell (p := ⟨b, off + k * 4 + 1, none⟩) hbl).trans c1, (hb.cell (p := ⟨b, off + k * 4 + 2, none⟩) hbl).trans c2, (hb.cell (p := ⟨b, off + k * 4 + 3, none⟩) hbl).trans c3⟩)
      have HGT := Lib.hid (refGet_any (c := c) (fc := kc) (at_ := a) (HR0.out.below HB.out) (by omega) HS.out (r0.below HB.out) hkn)
      have hpk : pkE (refP es a) es (k + 1) = pkE (refP es a) es k ++ (if (match findL x.key a es with
        | none => false
        | some v => decide (v.seq = x.seq) && decide (v.kind = 1)) then [x] else []) := by
        rw [pkE_snoc hx, show refP es a k = (match findL x.key a es with
          | none => false
          | some v => decide (v.seq = x.seq) && decide (v.kind = 1)) by unfold refP; rw [hx] <;> rfl]
      obtain ⟨fo, hfo⟩ : ∃ fo, fo = findL x.key a es := ⟨_, rfl⟩
      rw [← hfo] at HGT hpk
      have HPK := Lib.hid hpk
      have hmn : m ≤ n := by have := HP.out.len; have := pkE_len (refP es a) es k; omega
      obtain ⟨d0, d1, d2, d3⟩ := HC.out wr HB.out
      clear hx c0 c1 c2 c3 hev hmem r0 hsx hpk hfo
      go_wp2_with fail
      with_reducible refine HGT.out.mono ?_
      rintro e w2 (⟨rfl, rfl, b2⟩ | ⟨y, u0, u1, u2, u3, rfl, rfl, hew, b2⟩)
      · have hbA := b2.alloc b2.size (.cells #[.slice none 0 0, .int .u64 0, .int .u8 0, .slice none 0 0] 33)
        have HP3 : Hid (Pck w ovs (pkE (refP es a) es (k + 1)) L m d (w2.alloc (.cells #[.slice none 0 0, .int .u64 0, .int .u8 0, .slice none 0 0] 33))) := Lib.hid (by rw [HPK.out]; simpa using HP.out.below hbA)
        obtain ⟨W2, hW2⟩ : ∃ W2, W2 = w2.alloc (.cells #[.slice none 0 0, .int .u64 0, .int .u8 0, .slice none 0 0] 33) := ⟨_, rfl⟩
        rw [← hW2] at HP3
        have HW2 := Lib.hid hW2
        clear b2 hbA hW2 d0 d1 d2 d3
        go_upto_region 6 with (fail)
        rw [← HW2.out]
        go_wp2_with fail
        go_quiet (fail)
        have HP4 := Lib.hid (HP3.out.below (below_drewN (Below.refl _ _) nq))
        go_wp2_with fail
        go_roundw
        case rel => exact ⟨k + 1, m, d, L, by omega, by go_num, rfl, HP4.out⟩
        case measure => simp [intOf]; omega
      · obtain ⟨Q, qn, qc, R, rn, rc, rfl, rfl, rfl, rfl, _⟩ := hew.parts
        obtain ⟨W2, hW2⟩ : ∃ W2, W2 = w2.alloc (.cells #[.slice Q qn qc, .int .u64 (y.seq : Int), .int .u8 (y.kind : Int), .slice R rn rc] 33) := ⟨_, rfl⟩
        obtain ⟨g2, hg2⟩ : ∃ g2, g2 = w2.heap.size := ⟨_, rfl⟩
        have zW : Cl W2 g2 #[.slice Q qn qc, .int .u64 (y.seq : Int), .int .u8 (y.kind : Int), .slice R rn rc] 33 := by rw [hW2, hg2]; exact Cl.new _ _ _
        have bW2 : Below wr.heap.size wr W2 := by rw [hW2]; exact b2.alloc b2.size _
        have HBW := Lib.hid bW2
        have HP2 := Lib.hid (HP.out.below bW2)
        obtain ⟨z0, z1, z2, z3, _⟩ := zW.c4
        clear d0 d1 d2 d3
        obtain ⟨d0, d1, d2, d3⟩ := HC.out W2 (belowT' HB.out bW2)
        have HW2 := Lib.hid hW2
        have HG2 := Lib.hid hg2
        clear b2 hW2 hg2 zW bW2 hew
        obtain ⟨zz, hzz⟩ : ∃ zz, zz = (decide (y.seq = x.seq) && decide (y.kind = 1)) := ⟨_, rfl⟩
        have HPK2 : Hid (pkE (refP es a) es (k + 1) = pkE (refP es a) es k ++ (if zz then [x] else [])) := Lib.hid (by rw [HPK.out, hzz])
        go_upto_region 6 with (fail)
        rw [← HW2.out, ← HG2.out]
        by_cases hq : y.seq = x.seq
        · have t1 : ((y.seq : Int) == (x.seq : Int)) = true := by rw [beq_iff_eq]; omega
          by_cases hkd : y.kind = 1
          · have t2 : ((y.kind : Int) == 1) = true := by rw [beq_iff_eq]; omega
            have hz : zz = true := by rw [hzz]; simp [hq, hkd]
            subst hz
            clear hq hkd hzz
            go_wp2_with fail
            go_quiet (fail)
            obtain ⟨W3, hW3⟩ : ∃ W3, W3 = W2.drewN nq := ⟨_, rfl⟩
            rw [← hW3]
            have bW3 : Below W2.heap.size W2 W3 := by rw [hW3]; exact below_drewN (Below.refl _ _) nq
            have HP3 := Lib.hid (HP2.out.below bW3)
            clear d0 d1 d2 d3 z0 z1 z2 z3
            obtain ⟨d0, d1, d2, d3⟩ := HC.out W3 (belowT' (belowT' HB.out HBW.out) bW3)
            obtain ⟨vs, o1, hev1, hlen1, hb1, hm1⟩ := HP3.out
            have O1 := Lib.hid o1
            have HE1 := Lib.hid hev1
            have HL1 := Lib.hid hlen1
            have HM1 := Lib.hid hm1
            have HB1 := Lib.hid hb1
            have bl : Below W3.heap.size W3 (W3.alloc (.cells #[.slice K kn kc, .int .u64 (x.seq : Int), .int .u8 (x.kind : Int), .slice V vn vc] 33)) := (Below.refl _ _).alloc (Nat.le_refl _) _
            have O1' := Lib.hid (O1.out.below bl)
            have r2 := Lib.hid (rdv_of_cl (Cl.new W3 #[.slice K kn kc, .int .u64 (x.seq : Int), .int .u8 (x.kind : Int), .slice V vn vc] 33))
            have BL := Lib.hid bl
            have sW := HB1.out.size
            clear o1 hev1 hlen1 hb1 hm1 bl hW3 bW3
            go_wp2_with (at_builtin; refine wpList_app4 (W3.alloc (.cells #[.slice K kn kc, .int .u64 (x.seq : Int), .int .u8 (x.kind : Int), .slice V vn vc] 33)) rfl _ _ 25 rfl w.heap.size _ 64 Try.underlying25 info_ent rfl L m d vs rfl O1'.out (some ⟨W3.heap.size, 0, none⟩) 1 1 [.slice K kn kc, .int .u64 (x.seq : Int), .int .u8 (x.kind : Int), .slice V vn vc] rfl r2.out HEV.out.cells ?_ ?_ ?_ ?_)
            · omega
            · omega
            · simp; omega
            intro A2 c2 w3 o2 _ b2
            have HP4 : Hid (Pck w ovs (pkE (refP es a) es (k + 1)) A2 (m + 1) c2 w3) := Lib.hid (by
              rw [HPK2.out]
              exact Pck.snoc HE1.out HL1.out HM1.out HEV.out HMEM.out o2 ((HB1.out.trans (BL.out.mono sW)).trans b2))
            clear o2 b2 d0 d1 d2 d3
            go_wp2_with fail
            go_roundw
            case rel => exact ⟨k + 1, m + 1, c2, A2, by omega, by go_num, rfl, HP4.out⟩
            case measure => simp [intOf]; omega
          · have t2 : ((y.kind : Int) == 1) = false := by rw [beq_eq_false_iff_ne]; omega
            have hz : zz = false := by rw [hzz]; simp [hkd]
            subst hz
            clear hq hkd hzz
            go_wp2_with fail
            go_quiet (fail)
            have HP4 : Hid (Pck w ovs (pkE (refP es a) es (k + 1)) L m d (W2.drewN nq)) := Lib.hid (by rw [HPK2.out]; simpa using HP2.out.below (below_drewN (Below.refl _ _) nq))
            go_wp2_with fail
            go_roundw
            case rel => exact ⟨k + 1, m, d, L, by omega, by go_num, rfl, HP4.out⟩
            case measure => simp [intOf]; omega
        · have t1 : ((y.seq : Int) == (x.seq : Int)) = false := by rw [beq_eq_false_iff_ne]; omega
          have hz : zz = false := by rw [hzz]; simp [hq]
          subst hz
          clear hq hzz
          go_wp2_with fail
          go_quiet (fail)
          have HP4 : Hid (Pck w ovs (pkE (refP es a) es (k + 1)) L m d (W2.drewN nq)) := Lib.hid (by rw [HPK2.out]; simpa using HP2.out.below (below_drewN (Below.refl _ _) nq))
          go_wp2_with fail
          go_roundw
          case rel => exact ⟨k + 1, m, d, L, by omega, by go_num, rfl, HP4.out⟩
          case measure => simp [intOf]; omega
    · obtain rfl : k = n := by omega
      go_wp2_with fail
      go_ret
      exact HP.out.ret
end Go.Proofs.Ytgigohfjioifaaa
namespace Go.Proofs.Ytgigohfjioifaaa
open Go Go.RowKit

theorem REs.tail {w : World} {A : Option Addr} {n c : Nat} {x : En} {es : List En} (h : REs w A (n + 1) (x :: es)) (hc : n + 1 ≤ c) : REs w (cutA4 A 1 c) n es := by
  obtain ⟨hl, vs, hv, hd⟩ := h
  have h1 := hv.drop 1
  have h2 := rdv_cut4 (k := 1) (m := n + 1) (cap := c) hd (by omega) (Nat.le_refl _) hc
  rw [List.take_of_length_le (by rw [hd.1]; omega), Nat.add_sub_cancel] at h2
  exact ⟨by simpa using hl, _, by simpa using h1, by simpa using h2⟩
/-- Entries that can be read, and what was there stands. -/
def RetEs (w : World) (es : List En) (e : Ending) (w' : World) : Prop := ∃ L k d, e = .returned (.slice L k d) ∧ REs w' L k es ∧ k ≤ d ∧ Below w.heap.size w w'
/-- 'So far joined.' -/
def PkM (w : World) (es : List En) (L : Option Addr) (k d : Nat) (wr : World) : Prop :=
  ∃ vs, OwnE wr w.heap.size L k d vs ∧ EVs w es vs ∧ es.length = k ∧ Below w.heap.size w wr
theorem PkM.below {w wr w' : World} {es : List En} {L : Option Addr} {k d : Nat} (h : PkM w es L k d wr) (hb : Below wr.heap.size wr w') : PkM w es L k d w' := by
  obtain ⟨vs, h1, h2, h3, h4⟩ := h
  exact ⟨vs, h1.below hb, h2, h3, belowT' h4 hb⟩
theorem PkM.bel {w wr : World} {es : List En} {L : Option Addr} {k d : Nat} (h : PkM w es L k d wr) : Below w.heap.size w wr := by
  obtain ⟨vs, h1, h2, h3, h4⟩ := h
  exact h4
theorem PkM.len {w wr : World} {es : List En} {L : Option Addr} {k d : Nat} (h : PkM w es L k d wr) : es.length = k := by
  obtain ⟨vs, h1, h2, h3, h4⟩ := h
  exact h3
def lenV : Value → Nat
  | .slice _ n _ => n
  | _ => 0
set_option maxRecDepth 100000 in
set_option maxHeartbeats 16000000 in
theorem joinTwo_any {w : World} {A B : Option Addr} {n c m d : Nat} {es gs : List En} (h : REs w A n es) (hc : n ≤ c) (hg : REs w B m gs) (hd : m ≤ d) (hnm : n + m ≤ 2097152) :
    Calls Try.prog 96 #[.slice A n c, .slice B m d] w (RetEs w (mrg2 es gs)) := by
  obtain ⟨i, hi, hz, hsz, hby⟩ := info_parts info_ent
  obtain ⟨s, hs⟩ : ∃ s, s = n + m := ⟨_, rfl⟩
  have ew : IntKind.i64.wrap ((n : Int) + (m : Int)) = (s : Int) := by rw [IntWalk.i64_in _ (by omega)]; omega
  have ew' : ((n : Int) + (m : Int)) = (s : Int) := by omega
  have eww : IntKind.i64.wrap (s : Int) = (s : Int) := IntWalk.i64_in _ (by omega)
  obtain ⟨wm, hm1, hm2, hm3⟩ := run_make_own (P := Try.prog) (w := w) w.heap.size 25 33 i _ 4 Try.underlying25 hi hz hsz .i64 .i64 s (by rw [hby]; omega) (by unfold maxLen; omega) (Nat.le_refl _)
  have hbm : Below w.heap.size w wm := (Below.refl _ _).grown hm3 (Nat.le_refl _) (fun k hk => by cases hk)
  have HZ : Hid (PkM w [] (some ⟨w.heap.size, 0, none⟩) 0 s wm) := Lib.hid ⟨[], hm2, rfl, rfl, hbm⟩
  have HA := Lib.hid h
  have HG := Lib.hid hg
  have HS := Lib.hid hs
  clear h hg hm2 hm3 hbm hi hz hsz hby hs
  go_enter Try.func96, Try.ntmps96
  go_wp2_with fail
  go_loopw [0, 1, 5] (fun s0 s1 s5 wr => ∃ (A1 B1 O : Option Addr) (n1 c1 m1 d1 k e : Nat) (es1 gs1 out : List En), s0 = .slice A1 n1 c1 ∧ s1 = .slice B1 m1 d1 ∧ s5 = .slice O k e ∧ REs w A1 n1 es1 ∧ n1 ≤ c1 ∧ REs w B1 m1 gs1 ∧ m1 ≤ d1 ∧ PkM w out O k e wr ∧ out ++ mrg2 es1 gs1 = mrg2 es gs ∧ k + n1 + m1 ≤ 2097152) (fun s0 s1 _ _ => lenV s0 + lenV s1)
  case atStart => exact ⟨A, B, _, n, c, m, d, 0, s, es, gs, [], rfl, rfl, rfl, HA.out, hc, HG.out, hd, HZ.out, rfl, by omega⟩
  case round =>
    obtain ⟨A1, B1, O, n1, c1, m1, d1, k, e, es1, gs1, out, rfl, rfl, rfl, hr1, hc1, hr2, hd1, hP, hout, hsum⟩ := hrel
    have HR1 := Lib.hid hr1
    have HR2 := Lib.hid hr2
    have HP := Lib.hid hP
    have HB := Lib.hid hP.bel
    have HO := Lib.hid hout
    have HL1 := Lib.hid hr1.len
    have HL2 := Lib.hid hr2.len
    clear hr1 hr2 hP hout
    by_cases h1 : 0 < n1
    · by_cases h2 : 0 < m1
      · -- both have one
        obtain ⟨ba, oa, hAa, hba⟩ := HR1.out.pos h1
        subst hAa
        obtain ⟨bb, ob, hBb, hbb⟩ := HR2.out.pos h2
        subst hBb
        obtain ⟨x, v0, v1, v2, v3, hx, c0, c1', c2, c3, hev⟩ := HR1.out.at_ 0 h1
        obtain ⟨y, u0, u1, u2, u3, hy, q0, q1, q2, q3, hew⟩ := HR2.out.at_ 0 h2
        obtain ⟨K, kn, kc, V, vn, vc, rfl, rfl, rfl, rfl, _⟩ := hev.parts
        obtain ⟨P, pn, pc, Q, qn, qc, rfl, rfl, rfl, rfl, _⟩ := hew.parts
        obtain ⟨es2, rfl⟩ : ∃ es2, es1 = x :: es2 := by
          cases es1 with
          | nil => cases hx
          | cons a t => injection hx with hx; exact ⟨t, by rw [hx]⟩
        obtain ⟨gs2, rfl⟩ : ∃ gs2, gs1 = y :: gs2 := by
          cases gs1 with
          | nil => cases hy
          | cons a t => injection hy with hy; exact ⟨t, by rw [hy]⟩
        obtain ⟨n2, rfl⟩ : ∃ n2, n1 = n2 + 1 := ⟨n1 - 1, by omega⟩
        obtain ⟨m2, rfl⟩ : ∃ m2, m1 = m2 + 1 := ⟨m1 - 1, by omega⟩
        have HT1 := Lib.hid (HR1.out.tail hc1)
        have HT2 := Lib.hid (HR2.out.tail hd1)
        have hsA : ∀ W : World, (Instr.slice 25 (.slice (some ⟨ba, oa, none⟩) (n2 + 1) c1) (some (.int .i64 1)) none none).run Try.prog W = .ok (.slice (cutA4 (some ⟨ba, oa, none⟩) 1 c1) n2 (c1 - 1)) W := fun W => by
          have := cut4_l (P := Try.prog) Try.underlying25 elem4 size4 (some ⟨ba, oa, none⟩) (n := n2 + 1) (cap := c1) (k := 1) (by omega) W
          rw [Nat.add_sub_cancel] at this
          exact this
        have hsB : ∀ W : World, (Instr.slice 25 (.slice (some ⟨bb, ob, none⟩) (m2 + 1) d1) (some (.int .i64 1)) none none).run Try.prog W = .ok (.slice (cutA4 (some ⟨bb, ob, none⟩) 1 d1) m2 (d1 - 1)) W := fun W => by
          have := cut4_l (P := Try.prog) Try.underlying25 elem4 size4 (some ⟨bb, ob, none⟩) (n := m2 + 1) (cap := d1) (k := 1) (by omega) W
          rw [Nat.add_sub_cancel] at this
          exact this
        obtain ⟨A2, hA2⟩ : ∃ A2, A2 = cutA4 (some ⟨ba, oa, none⟩) 1 c1 := ⟨_, rfl⟩
        obtain ⟨B2, hB2⟩ : ∃ B2, B2 = cutA4 (some ⟨bb, ob, none⟩) 1 d1 := ⟨_, rfl⟩
        rw [← hA2] at HT1 hsA
        rw [← hB2] at HT2 hsB
        have HEV := Lib.hid hev
        have HEW := Lib.hid hew
        have HCX : Hid (∀ wx, Below w.heap.size w wx → wx.cell? ⟨ba, oa, none⟩ = some (.slice K kn kc) ∧ wx.cell? ⟨ba, oa + 1, none⟩ = some (.int .u64 (x.seq : Int)) ∧ wx.cell? ⟨ba, oa + 2, none⟩ = some (.int .u8 (x.kind : Int)) ∧ wx.cell? ⟨ba, oa + 3, none⟩ = some (.slice V vn vc) ∧ wx.cell? ⟨bb, ob, none⟩ = some (.slice P pn pc) ∧ wx.cell? ⟨bb, ob + 1, none⟩ = some (.int .u64 (y.seq : Int)) ∧ wx.cell? ⟨bb, ob + 2, none⟩ = some (.int .u8 (y.kind : Int)) ∧ wx.cell? ⟨bb, ob + 3, none⟩ = some (.slice Q qn qc)) := Lib.hid (fun wx hb => by
          simp only [Nat.zero_mul, Nat.add_zero] at c0 c1' c2 c3 q0 q1 q2 q3
          exact ⟨(hb.cell (p := ⟨ba, oa, none⟩) hba).trans c0, (hb.cell (p := ⟨ba, oa + 1, none⟩) hba).trans c1', (hb.cell (p := ⟨ba, oa + 2, none⟩) hba).trans c2, (hb.cell (p := ⟨ba, oa + 3, none⟩) hba).trans c3, (hb.cell (p := ⟨bb, ob, none⟩) hbb).trans q0, (hb.cell (p := ⟨bb, ob + 1, none⟩) hbb).trans q1, (hb.cell (p := ⟨bb, ob + 2, none⟩) hbb).trans q2, (hb.cell (p := ⟨bb, ob + 3, none⟩) hbb).trans q3⟩)
        obtain ⟨z1, hz1⟩ : ∃ z1, z1 = lessE y x := ⟨_, rfl⟩
        obtain ⟨z2, hz2⟩ : ∃ z2, z2 = lessE x y := ⟨_, rfl⟩
        have HLB : Hid (∀ wx, Below w.heap.size w wx → Calls Try.prog 55 #[.agg #[.slice P pn pc, .int .u64 (y.seq : Int), .int .u8 (y.kind : Int), .slice Q qn qc], .agg #[.slice K kn kc, .int .u64 (x.seq : Int), .int .u8 (x.kind : Int), .slice V vn vc]] wx (RetT wx z1)) := Lib.hid (fun wx hb => by rw [hz1]; exact memLess_any (hew.below hb) (hev.below hb))
        have HLA : Hid (∀ wx, Below w.heap.size w wx → Calls Try.prog 55 #[.agg #[.slice K kn kc, .int .u64 (x.seq : Int), .int .u8 (x.kind : Int), .slice V vn vc], .agg #[.slice P pn pc, .int .u64 (y.seq : Int), .int .u8 (y.kind : Int), .slice Q qn qc]] wx (RetT wx z2)) := Lib.hid (fun wx hb => by rw [hz2]; exact memLess_any (hev.below hb) (hew.below hb))
        have HO2 : Hid (out ++ (if z1 then y :: mrg2 (x :: es2) gs2 else if z2 then x :: mrg2 es2 (y :: gs2) else x :: mrg2 es2 gs2) = mrg2 es gs) := Lib.hid (by rw [hz1, hz2, ← mrg2_cons]; exact HO.out)
        clear hx hy hev hew c0 c1' c2 c3 q0 q1 q2 q3 hz1 hz2 hA2 hB2
        have hBw : Below w.heap.size w wr := HB.out
        have hB0 : Below w.heap.size w wr.drew := hBw.drew
        have hBd : Below wr.heap.size wr wr.drew := (Below.refl _ _).drew
        obtain ⟨f0, f1, f2, f3, f4, f5, f6, f7⟩ := HCX.out wr HB.out
        go_upto_region 3 with (fail)
        go_cut [26] from 20 to 26 (fun st wx => st = .bool z1 ∧ Below wr.heap.size wr wx)
        case first =>
          go_region_held3 (fun wx => wx.cell? ⟨ba, oa, none⟩ = some (.slice K kn kc) ∧ wx.cell? ⟨ba, oa + 1, none⟩ = some (.int .u64 (x.seq : Int)) ∧ wx.cell? ⟨ba, oa + 2, none⟩ = some (.int .u8 (x.kind : Int)) ∧ wx.cell? ⟨ba, oa + 3, none⟩ = some (.slice V vn vc) ∧ wx.cell? ⟨bb, ob, none⟩ = some (.slice P pn pc) ∧ wx.cell? ⟨bb, ob + 1, none⟩ = some (.int .u64 (y.seq : Int)) ∧ wx.cell? ⟨bb, ob + 2, none⟩ = some (.int .u8 (y.kind : Int)) ∧ wx.cell? ⟨bb, ob + 3, none⟩ = some (.slice Q qn qc)) (first | assumption | exact HCX.out _ hB0)
            (first | (go_at_call 55; with_reducible refine (HLB.out _ (by assumption)).mono ?_; intro e1 wn hq; obtain ⟨h1', bn⟩ := RetT.outD hq; subst h1'; have bq := belowT' (by assumption : Below wr.heap.size wr _) bn; have hS1 := HCX.out _ (Below.trans (by assumption : Below w.heap.size w wr) (bq.mono (Below.size (by assumption : Below w.heap.size w wr))))))
          all_goals
            have HBQ := Lib.hid (by assumption : Below wr.heap.size wr wn)
            clear f0 f1 f2 f3 f4 f5 f6 f7
            go_wp2_with fail
            go_meet
            case rel => exact ⟨rfl, HBQ.out⟩
        case rest =>
          obtain ⟨rfl, bq⟩ := hcut
          obtain ⟨wk, hwk⟩ : ∃ wk, wk = wc := ⟨_, rfl⟩
          rw [← hwk] at bq ⊢
          clear hwk
          have HBK := Lib.hid (HB.out.trans (bq.mono HB.out.size))
          have HPK := Lib.hid (HP.out.below bq)
          clear bq hBw hB0 hBd f0 f1 f2 f3 f4 f5 f6 f7
          cases z1 with
          | true =>
            have HO3 : Hid ((out ++ [y]) ++ mrg2 (x :: es2) gs2 = mrg2 es gs) := Lib.hid (by rw [List.append_assoc]; exact HO2.out)
            have HPW := Lib.hid HPK.out
            obtain ⟨vs, o1, hev1, hlen1, hb1⟩ := HPW.out
            have O1 := Lib.hid o1
            have HE1 := Lib.hid hev1
            have HL3 := Lib.hid hlen1
            have HB3 := Lib.hid hb1
            have hBe : Below wk.heap.size wk wk.drew := (Below.refl _ _).drew
            have HBe := Lib.hid hBe
            obtain ⟨f0, f1, f2, f3, f4, f5, f6, f7⟩ := HCX.out wk hb1
            clear o1 hev1 hlen1 hb1 hBe
            go_upto_region 4 with (fail)
            go_cut [1, 5] from 27 to 34 (fun sl s5 wx => ∃ O2 e2, sl = .slice B2 m2 (d1 - 1) ∧ s5 = .slice O2 (k + 1) e2 ∧ PkM w (out ++ [y]) O2 (k + 1) e2 wx)
            case first =>
              go_region_law (first | (refine step_app4 _ rfl _ _ 25 rfl w.heap.size _ 64 Try.underlying25 info_ent rfl O k e vs (by first | (simp [Act.eval]; done) | (simp [Act.eval, Act.put]; done) | rfl) (O1.out.below (HBe.out.alloc HBe.out.size _)) ⟨wk.drew.heap.size, 0, none⟩ 1 1 [.slice P pn pc, .int .u64 (y.seq : Int), .int .u8 (y.kind : Int), .slice Q qn qc] (by first | (simp [Act.eval]; done) | (simp [Act.eval, Act.put]; done) | rfl) (rdv_of_cl (Cl.new wk.drew #[.slice P pn pc, .int .u64 (y.seq : Int), .int .u8 (y.kind : Int), .slice Q qn qc] 33)) (by omega) HEW.out.cells (by unfold maxLen; omega) (by omega) (HB3.out.trans ((HBe.out.alloc HBe.out.size _).mono HB3.out.size)).size ?_; intro L2 d2 w6 hL hg))
              all_goals
                have HQ : Hid (PkM w (out ++ [y]) L2 (k + 1) d2 w6) := Lib.hid ⟨_, hL, HE1.out.app (EVs.one HEW.out), by rw [List.length_append, HL3.out]; rfl, (HB3.out.trans ((HBe.out.alloc HBe.out.size _).mono HB3.out.size)).grown hg (HB3.out.trans ((HBe.out.alloc HBe.out.size _).mono HB3.out.size)).size (fun g hgg => (OwnE.lt O1.out g hgg).1)⟩
                clear hL hg f0 f1 f2 f3 f4 f5 f6 f7
                go_wp2_with fail
                go_meet
                case rel => exact ⟨L2, d2, rfl, rfl, HQ.out⟩
            case rest =>
              obtain ⟨O2, e2, rfl, rfl, hP2⟩ := hcut
              have HP2 := Lib.hid hP2
              clear hP2
              go_wp2_with fail
              go_roundw
              case rel => exact ⟨some ⟨ba, oa, none⟩, B2, O2, n2 + 1, c1, m2, d1 - 1, k + 1, e2, x :: es2, gs2, out ++ [y], rfl, rfl, rfl, HR1.out, hc1, HT2.out, by omega, HP2.out, HO3.out, by omega⟩
              case measure => first | (simp [lenV]; done) | (simp [lenV]; omega)
          | false =>
            have hBw : Below w.heap.size w wk := HBK.out
            have hB0 : Below w.heap.size w wk.drew := hBw.drew
            have hBd : Below wk.heap.size wk wk.drew := (Below.refl _ _).drew
            obtain ⟨f0, f1, f2, f3, f4, f5, f6, f7⟩ := HCX.out wk HBK.out
            go_upto_region 5 with (fail)
            go_cut [42] from 35 to 42 (fun st wx => st = .bool (!z2) ∧ Below wk.heap.size wk wx)
            case first =>
              go_region_held3 (fun wx => wx.cell? ⟨ba, oa, none⟩ = some (.slice K kn kc) ∧ wx.cell? ⟨ba, oa + 1, none⟩ = some (.int .u64 (x.seq : Int)) ∧ wx.cell? ⟨ba, oa + 2, none⟩ = some (.int .u8 (x.kind : Int)) ∧ wx.cell? ⟨ba, oa + 3, none⟩ = some (.slice V vn vc) ∧ wx.cell? ⟨bb, ob, none⟩ = some (.slice P pn pc) ∧ wx.cell? ⟨bb, ob + 1, none⟩ = some (.int .u64 (y.seq : Int)) ∧ wx.cell? ⟨bb, ob + 2, none⟩ = some (.int .u8 (y.kind : Int)) ∧ wx.cell? ⟨bb, ob + 3, none⟩ = some (.slice Q qn qc)) (first | assumption | exact HCX.out _ hB0)
                (first | (go_at_call 55; with_reducible refine (HLA.out _ (by assumption)).mono ?_; intro e1 wn hq; obtain ⟨h1', bn⟩ := RetT.outD hq; subst h1'; have bq := belowT' (by assumption : Below wk.heap.size wk _) bn; have hS1 := HCX.out _ (Below.trans (by assumption : Below w.heap.size w wk) (bq.mono (Below.size (by assumption : Below w.heap.size w wk))))))
              all_goals
                have HBQ := Lib.hid (by assumption : Below wk.heap.size wk wn)
                clear f0 f1 f2 f3 f4 f5 f6 f7
                go_wp2_with fail
                go_meet
                case rel => exact ⟨by first | rfl | (cases z2 <;> rfl), HBQ.out⟩
            case rest =>
              obtain ⟨rfl, bq⟩ := hcut
              obtain ⟨wj, hwj⟩ : ∃ wj, wj = wc := ⟨_, rfl⟩
              rw [← hwj] at bq ⊢
              clear hwj
              have HPW := Lib.hid (HPK.out.below bq)
              clear bq hBw hB0 hBd f0 f1 f2 f3 f4 f5 f6 f7
              cases z2 with
              | true =>
                have HO3 : Hid ((out ++ [x]) ++ mrg2 es2 (y :: gs2) = mrg2 es gs) := Lib.hid (by rw [List.append_assoc]; exact HO2.out)
                obtain ⟨vs, o1, hev1, hlen1, hb1⟩ := HPW.out
                have O1 := Lib.hid o1
                have HE1 := Lib.hid hev1
                have HL3 := Lib.hid hlen1
                have HB3 := Lib.hid hb1
                have hBe : Below wj.heap.size wj wj.drew := (Below.refl _ _).drew
                have HBe := Lib.hid hBe
                obtain ⟨f0, f1, f2, f3, f4, f5, f6, f7⟩ := HCX.out wj hb1
                clear o1 hev1 hlen1 hb1 hBe
                go_upto_region 7 with (fail)
                go_region_law (first | (refine step_app4 _ rfl _ _ 25 rfl w.heap.size _ 64 Try.underlying25 info_ent rfl O k e vs (by first | (simp [Act.eval]; done) | (simp [Act.eval, Act.put]; done) | rfl) (O1.out.below (HBe.out.alloc HBe.out.size _)) ⟨wj.drew.heap.size, 0, none⟩ 1 1 [.slice K kn kc, .int .u64 (x.seq : Int), .int .u8 (x.kind : Int), .slice V vn vc] (by first | (simp [Act.eval]; done) | (simp [Act.eval, Act.put]; done) | rfl) (rdv_of_cl (Cl.new wj.drew #[.slice K kn kc, .int .u64 (x.seq : Int), .int .u8 (x.kind : Int), .slice V vn vc] 33)) (by omega) HEV.out.cells (by unfold maxLen; omega) (by omega) (HB3.out.trans ((HBe.out.alloc HBe.out.size _).mono HB3.out.size)).size ?_; intro L2 d2 w6 hL hg))
                all_goals
                  have HQ : Hid (PkM w (out ++ [x]) L2 (k + 1) d2 w6) := Lib.hid ⟨_, hL, HE1.out.app (EVs.one HEV.out), by rw [List.length_append, HL3.out]; rfl, (HB3.out.trans ((HBe.out.alloc HBe.out.size _).mono HB3.out.size)).grown hg (HB3.out.trans ((HBe.out.alloc HBe.out.size _).mono HB3.out.size)).size (fun g hgg => (OwnE.lt O1.out g hgg).1)⟩
                  clear hL hg f0 f1 f2 f3 f4 f5 f6 f7
                  go_wp2_with fail
                  exact ⟨⟨_, _, _, ⟨A2, some ⟨bb, ob, none⟩, L2, n2, c1 - 1, rfl, m2 + 1, d1, rfl, k + 1, d2, rfl, es2, HT1.out, by omega, y :: gs2, HR2.out, hd1, out ++ [x], HQ.out, HO3.out, by omega⟩, rfl, rfl, rfl⟩, by first | (simp [lenV]; done) | (simp [lenV]; omega)⟩
              | false =>
                have HO3 : Hid ((out ++ [x]) ++ mrg2 es2 gs2 = mrg2 es gs) := Lib.hid (by rw [List.append_assoc]; exact HO2.out)
                obtain ⟨vs, o1, hev1, hlen1, hb1⟩ := HPW.out
                have O1 := Lib.hid o1
                have HE1 := Lib.hid hev1
                have HL3 := Lib.hid hlen1
                have HB3 := Lib.hid hb1
                have hBe : Below wj.heap.size wj wj.drew := (Below.refl _ _).drew
                have HBe := Lib.hid hBe
                obtain ⟨f0, f1, f2, f3, f4, f5, f6, f7⟩ := HCX.out wj hb1
                clear o1 hev1 hlen1 hb1 hBe
                go_upto_region 7 with (fail)
                go_region_law (first | (refine step_app4 _ rfl _ _ 25 rfl w.heap.size _ 64 Try.underlying25 info_ent rfl O k e vs (by first | (simp [Act.eval]; done) | (simp [Act.eval, Act.put]; done) | rfl) (O1.out.below (HBe.out.alloc HBe.out.size _)) ⟨wj.drew.heap.size, 0, none⟩ 1 1 [.slice K kn kc, .int .u64 (x.seq : Int), .int .u8 (x.kind : Int), .slice V vn vc] (by first | (simp [Act.eval]; done) | (simp [Act.eval, Act.put]; done) | rfl) (rdv_of_cl (Cl.new wj.drew #[.slice K kn kc, .int .u64 (x.seq : Int), .int .u8 (x.kind : Int), .slice V vn vc] 33)) (by omega) HEV.out.cells (by unfold maxLen; omega) (by omega) (HB3.out.trans ((HBe.out.alloc HBe.out.size _).mono HB3.out.size)).size ?_; intro L2 d2 w6 hL hg))
                all_goals
                  have HQ : Hid (PkM w (out ++ [x]) L2 (k + 1) d2 w6) := Lib.hid ⟨_, hL, HE1.out.app (EVs.one HEV.out), by rw [List.length_append, HL3.out]; rfl, (HB3.out.trans ((HBe.out.alloc HBe.out.size _).mono HB3.out.size)).grown hg (HB3.out.trans ((HBe.out.alloc HBe.out.size _).mono HB3.out.size)).size (fun g hgg => (OwnE.lt O1.out g hgg).1)⟩
                  clear hL hg f0 f1 f2 f3 f4 f5 f6 f7
                  go_wp2_with fail
                  refine ⟨?_, ?_⟩
                  · (repeat apply Exists.intro)
                    exact ⟨⟨A2, B2, L2, n2, c1 - 1, m2, d1 - 1, k + 1, d2, es2, gs2, out ++ [x], rfl, rfl, rfl, HT1.out, by omega, HT2.out, by omega, HQ.out, HO3.out, by omega⟩, rfl⟩
                  · exact (show n2 + m2 < n2 + 1 + (m2 + 1) by omega)
      · have hm0 : m1 = 0 := by omega
        have hg0 : gs1 = [] := List.eq_nil_of_length_eq_zero (by rw [HL2.out]; exact hm0)
        have hfin : out ++ es1 ++ gs1 = mrg2 es gs := by
          rw [← HO.out]
          rw [hg0, mrg2_nil, List.append_nil]
        have HFIN := Lib.hid hfin
        obtain ⟨_, us1, hv1, hd1'⟩ := HR1.out
        obtain ⟨_, us2, hv2, hd2'⟩ := HR2.out
        have HV1 := Lib.hid hv1
        have HD1 := Lib.hid (hd1'.below HB.out)
        have HV2 := Lib.hid hv2
        have HD2 := Lib.hid hd2'
        obtain ⟨vs, o1, hev1, hlen1, hb1⟩ := HP.out
        have O1 := Lib.hid o1
        have HE1 := Lib.hid hev1
        have HL3 := Lib.hid hlen1
        have sB := hb1.size
        clear hfin hv1 hd1' hv2 hd2' o1 hev1 hlen1 hb1
        have dd1 : decide (0 < n1) = true := by simpa using h1
        have dd2 : decide (0 < m1) = false := by simpa using h2
        clear hm0 hg0 h1 h2
        go_wp2_with (at_builtin; refine wpList_app4 wr rfl _ _ 25 rfl w.heap.size _ 64 Try.underlying25 info_ent rfl O k e vs rfl O1.out A1 n1 c1 us1 rfl HD1.out HV1.out.cells ?_ ?_ ?_ ?_)
        · omega
        · omega
        · omega
        intro O2 e2 w2 o2 _ b2
        have HB2 := Lib.hid (HB.out.trans b2)
        have O2' := Lib.hid o2
        have sB2 := HB2.out.size
        have HD2' := Lib.hid (HD2.out.below HB2.out)
        clear o2 b2
        go_wp2_with (at_builtin; refine wpList_app4 w2 rfl _ _ 25 rfl w.heap.size _ 64 Try.underlying25 info_ent rfl O2 (k + n1) e2 (vs ++ us1) rfl O2'.out B1 m1 d1 us2 rfl HD2'.out HV2.out.cells ?_ ?_ ?_ ?_)
        · omega
        · omega
        · omega
        intro O3 e3 w3 o3 _ b3
        have HF : Hid (RetEs w (mrg2 es gs) (.returned (.slice O3 (k + n1 + m1) e3)) w3) := Lib.hid (by
          have hb := HB2.out.trans b3
          rw [← HFIN.out]
          exact ⟨O3, _, e3, rfl, REs.mk (((HE1.out.app HV1.out).app HV2.out).below hb) (by have h9 := o3.rd; simpa [List.append_assoc] using h9) (by rw [List.length_append, List.length_append, HL3.out, HL1.out, HL2.out]), o3.cap.1, hb⟩)
        clear o3 b3
        go_wp2_with fail
        go_ret
        exact HF.out
    · have hn0 : n1 = 0 := by omega
      have he0 : es1 = [] := List.eq_nil_of_length_eq_zero (by rw [HL1.out]; exact hn0)
      have hfin : out ++ es1 ++ gs1 = mrg2 es gs := by
        rw [← HO.out]
        rw [he0, nil_mrg2, List.append_nil]
      have HFIN := Lib.hid hfin
      obtain ⟨_, us1, hv1, hd1'⟩ := HR1.out
      obtain ⟨_, us2, hv2, hd2'⟩ := HR2.out
      have HV1 := Lib.hid hv1
      have HD1 := Lib.hid (hd1'.below HB.out)
      have HV2 := Lib.hid hv2
      have HD2 := Lib.hid hd2'
      obtain ⟨vs, o1, hev1, hlen1, hb1⟩ := HP.out
      have O1 := Lib.hid o1
      have HE1 := Lib.hid hev1
      have HL3 := Lib.hid hlen1
      have sB := hb1.size
      clear hfin hv1 hd1' hv2 hd2' o1 hev1 hlen1 hb1
      have dd1 : decide (0 < n1) = false := by simpa using h1
      clear hn0 he0 h1
      go_wp2_with (at_builtin; refine wpList_app4 wr rfl _ _ 25 rfl w.heap.size _ 64 Try.underlying25 info_ent rfl O k e vs rfl O1.out A1 n1 c1 us1 rfl HD1.out HV1.out.cells ?_ ?_ ?_ ?_)
      · omega
      · omega
      · omega
      intro O2 e2 w2 o2 _ b2
      have HB2 := Lib.hid (HB.out.trans b2)
      have O2' := Lib.hid o2
      have sB2 := HB2.out.size
      have HD2' := Lib.hid (HD2.out.below HB2.out)
      clear o2 b2
      go_wp2_with (at_builtin; refine wpList_app4 w2 rfl _ _ 25 rfl w.heap.size _ 64 Try.underlying25 info_ent rfl O2 (k + n1) e2 (vs ++ us1) rfl O2'.out B1 m1 d1 us2 rfl HD2'.out HV2.out.cells ?_ ?_ ?_ ?_)
      · omega
      · omega
      · omega
      intro O3 e3 w3 o3 _ b3
      have HF : Hid (RetEs w (mrg2 es gs) (.returned (.slice O3 (k + n1 + m1) e3)) w3) := Lib.hid (by
        have hb := HB2.out.trans b3
        rw [← HFIN.out]
        exact ⟨O3, _, e3, rfl, REs.mk (((HE1.out.app HV1.out).app HV2.out).below hb) (by have h9 := o3.rd; simpa [List.append_assoc] using h9) (by rw [List.length_append, List.length_append, HL3.out, HL1.out, HL2.out]), o3.cap.1, hb⟩)
      clear o3 b3
      go_wp2_with fail
      go_ret
      exact HF.out
end Go.Proofs.Ytgigohfjioifaaa
namespace Go.Proofs.Ytgigohfjioifaaa
open Go Go.RowKit

theorem elemL : Try.prog.elem 41 = 25 := by kernel_rfl
theorem sizeL (w : World) : (sizeOf 25).run Try.prog w = .ok 1 w := by kernel_rfl
def totLn : List (List En) → Nat
  | [] => 0
  | l :: t => l.length + totLn t
theorem totLn_app : ∀ a b : List (List En), totLn (a ++ b) = totLn a + totLn b
  | [], b => by simp [totLn]
  | l :: t, b => by rw [List.cons_append, totLn, totLn, totLn_app t b]; omega
theorem totLn_mem : ∀ {ls : List (List En)} {l : List En}, l ∈ ls → l.length ≤ totLn ls
  | x :: t, l, h => by
    rw [totLn]
    rcases List.mem_cons.1 h with h | h
    · rw [h]; omega
    · have := totLn_mem h; omega
theorem joinL_len : ∀ (f : Nat) (ls : List (List En)), (joinL f ls).length ≤ totLn ls
  | 0, ls => by simp [joinL]
  | f + 1, ls => by
    match ls with
    | [] => simp [joinL, totLn]
    | [x] => simp [joinL, totLn]
    | x :: y :: t =>
      rw [joinL]
      · have e : totLn (x :: y :: t) = totLn ((x :: y :: t).take ((x :: y :: t).length / 2)) + totLn ((x :: y :: t).drop ((x :: y :: t).length / 2)) := by rw [← totLn_app, List.take_append_drop]
        have h1 := joinL_len f ((x :: y :: t).take ((x :: y :: t).length / 2))
        have h2 := joinL_len f ((x :: y :: t).drop ((x :: y :: t).length / 2))
        have h3 := mrg2_len (joinL f ((x :: y :: t).take ((x :: y :: t).length / 2))) (joinL f ((x :: y :: t).drop ((x :: y :: t).length / 2)))
        omega
      · intro h; cases h
      · intro z h; cases h
theorem joinL_from {z : En} : ∀ (f : Nat) {ls : List (List En)}, z ∈ joinL f ls → ∃ l ∈ ls, z ∈ l
  | 0, ls, h => by simp [joinL] at h
  | f + 1, ls, h => by
    match ls, h with
    | [], h => simp [joinL] at h
    | [x], h => exact ⟨x, by simp, by simpa [joinL] using h⟩
    | x :: y :: t, h =>
      rw [joinL] at h
      · rcases mrg2_from h with h | h
        · obtain ⟨l, h1, h2⟩ := joinL_from f h
          exact ⟨l, List.mem_of_mem_take h1, h2⟩
        · obtain ⟨l, h1, h2⟩ := joinL_from f h
          exact ⟨l, List.mem_of_mem_drop h1, h2⟩
      · intro h; cases h
      · intro z h; cases h
theorem RLs.takeL {w : World} {A : Option Addr} {n k : Nat} {ls : List (List En)} (h : RLs w A n ls) (hk : k ≤ n) : RLs w A k (ls.take k) := by
  refine ⟨by rw [List.length_take, h.1]; omega, fun h0 => ?_⟩
  obtain ⟨b, off, e, hb, hc⟩ := h.2 (by omega)
  refine ⟨b, off, e, hb, fun i es hi => hc i es ?_⟩
  rw [List.getElem?_take] at hi
  split at hi
  · exact hi
  · cases hi
theorem RLs.dropL {w : World} {A : Option Addr} {n c k : Nat} {ls : List (List En)} (h : RLs w A n ls) (hk : k ≤ n) (hc : n ≤ c) : RLs w (cutA A k c) (n - k) (ls.drop k) := by
  refine ⟨by rw [List.length_drop, h.1], fun h0 => ?_⟩
  obtain ⟨b, off, rfl, hb, hcell⟩ := h.2 (by omega)
  refine ⟨b, off + k, ?_, hb, fun i es hi => ?_⟩
  · unfold cutA
    rw [if_neg (by omega)]
    simp [Addr.add]
  · rw [List.getElem?_drop] at hi
    have := hcell (k + i) es hi
    rw [← Nat.add_assoc] at this
    exact this
theorem RetEs.out {w w' : World} {es : List En} {e : Ending} (h : RetEs w es e w') : ∃ L k d, e = .returned (.slice L k d) ∧ REs w' L k es ∧ k ≤ d ∧ Below w.heap.size w w' := h
set_option maxRecDepth 100000 in
set_option maxHeartbeats 16000000 in
theorem mgJoin_any : ∀ (f : Nat) {w : World} {A : Option Addr} {n c : Nat} {ls : List (List En)}, RLs w A n ls → n ≤ c → n ≤ f → totLn ls ≤ 2097152 → n ≤ 1099511627776 → Calls Try.prog 59 #[.slice A n c] w (RetEs w (joinL f ls))
  | 0, w, A, n, c, ls, h, hc, hf, ht, hn => by
    obtain rfl : n = 0 := by omega
    have hl : ls = [] := List.eq_nil_of_length_eq_zero h.1
    subst hl
    clear h
    go_enter Try.func59, Try.ntmps59
    go_wp2_with fail
    go_ret
    exact ⟨none, 0, 0, rfl, REs.nil _ _, Nat.le_refl _, Below.refl _ _⟩
  | f + 1, w, A, n, c, ls, h, hc, hf, ht, hn => by
    match ls, h, ht with
    | [], h, ht =>
      obtain rfl : n = 0 := by have := h.1; simpa using this.symm
      clear h
      go_enter Try.func59, Try.ntmps59
      go_wp2_with fail
      go_ret
      exact ⟨none, 0, 0, rfl, REs.nil _ _, Nat.le_refl _, Below.refl _ _⟩
    | [x], h, ht =>
      obtain rfl : n = 1 := by have := h.1; simpa using this.symm
      obtain ⟨b, off, rfl, hb⟩ := h.pos (by omega)
      obtain ⟨es, B, m, d, hx, c0, hre, hmd⟩ := h.at_ 0 (by omega)
      obtain rfl : x = es := by simpa using hx
      have c0' : w.cell? ⟨b, off, none⟩ = some (.slice B m d) := c0
      have HR := Lib.hid hre
      clear h hx hre c0
      go_enter Try.func59, Try.ntmps59
      go_wp2_with fail
      go_ret
      exact ⟨B, m, d, by first | rfl | simp [joinL], HR.out, hmd, Below.refl _ _⟩
    | x :: y :: t, h, ht =>
      have hlen := h.1
      have hj : joinL (f + 1) (x :: y :: t) = mrg2 (joinL f ((x :: y :: t).take ((x :: y :: t).length / 2))) (joinL f ((x :: y :: t).drop ((x :: y :: t).length / 2))) := by
        rw [joinL]
        · intro h; cases h
        · intro z h; cases h
      obtain ⟨ls, hls⟩ : ∃ ls, ls = x :: y :: t := ⟨_, rfl⟩
      have h2 : 2 ≤ n := by rw [← hlen]; simp
      rw [← hls] at h ht hlen hj ⊢
      obtain ⟨hh, hhe⟩ : ∃ hh, hh = n / 2 := ⟨_, rfl⟩
      rw [hlen, ← hhe] at hj
      have eq1 : (n : Int) / 2 = (hh : Int) := by omega
      have htl : totLn (ls.take hh) + totLn (ls.drop hh) = totLn ls := by rw [← totLn_app, List.take_append_drop]
      have HT := Lib.hid htl
      have HJ := Lib.hid hj
      have hhn : hh ≤ n := by omega
      have hh1 : 1 ≤ hh := by omega
      have hhf : hh ≤ f := by omega
      have hhf2 : n - hh ≤ f := by omega
      obtain ⟨n2, hn2⟩ : ∃ n2, n2 = n - hh := ⟨_, rfl⟩
      have HN2 := Lib.hid hn2
      have hs1 : ∀ W : World, (Instr.slice 41 (.slice A n c) none (some (.int .i64 (hh : Int))) none).run Try.prog W = .ok (.slice A hh c) W := fun W => cut_h Try.underlying41 elemL sizeL A (by omega) W
      have hs2 : ∀ W : World, (Instr.slice 41 (.slice A n c) (some (.int .i64 (hh : Int))) none none).run Try.prog W = .ok (.slice (cutA A hh c) n2 (c - hh)) W := fun W => by rw [hn2]; exact cut_l Try.underlying41 elemL sizeL A hhn W
      have t0 : ((n : Int) == 0) = false := by rw [beq_eq_false_iff_ne]; omega
      have t1 : ((n : Int) == 1) = false := by rw [beq_eq_false_iff_ne]; omega
      have J1 : Hid (∀ wx, Below w.heap.size w wx → Calls Try.prog 59 #[.slice A hh c] wx (RetEs wx (joinL f (ls.take hh)))) := Lib.hid (fun wx hb => mgJoin_any f ((h.takeL hhn).below hb) (by omega) hhf (by omega) (by omega))
      have J2 : Hid (∀ wx, Below w.heap.size w wx → Calls Try.prog 59 #[.slice (cutA A hh c) n2 (c - hh)] wx (RetEs wx (joinL f (ls.drop hh)))) := Lib.hid (fun wx hb => by rw [hn2]; exact mgJoin_any f ((h.dropL hhn hc).below hb) (by omega) hhf2 (by omega) (by omega))
      have hB0 : Below w.heap.size w w.drew := (Below.refl _ _).drew
      clear h htl hls hlen hj hhe hn2
      go_enter Try.func59, Try.ntmps59
      go_upto_region 7 with (fail)
      have HLB : Hid (∀ k1 k2, (joinL f (ls.take hh)).length = k1 → (joinL f (ls.drop hh)).length = k2 → k1 + k2 ≤ 2097152) := Lib.hid (fun k1 k2 e1 e2 => by
        have h1 := joinL_len f (ls.take hh)
        have h2 := joinL_len f (ls.drop hh)
        have h3 := HT.out
        omega)
      go_region_law (first | (go_simp; go_at_call 59; with_reducible refine (J1.out _ (by assumption)).mono ?_; intro e1 wa hq1; obtain ⟨L1, k1, d1, h1, r1, kd1, b1⟩ := RetEs.out hq1; subst h1; have bw1 := belowT' (by assumption : Below w.heap.size w _) b1; (try (have r2' := r2.below b1))) | (go_simp; go_at_call 59; with_reducible refine (J2.out _ (by assumption)).mono ?_; intro e2 wb hq2; obtain ⟨L2, k2, d2, h2, r2, kd2, b2⟩ := RetEs.out hq2; subst h2; have bw2 := belowT' (by assumption : Below w.heap.size w _) b2; (try (have r1' := r1.below b2))) | (go_simp; go_at_call 96; with_reducible refine (joinTwo_any (by assumption) kd1 (by assumption) kd2 (HLB.out _ _ r1.len r2.len)).mono ?_; intro e3 wz hq3; obtain ⟨L3, k3, d3, h3, r3, kd3, b3⟩ := RetEs.out hq3; subst h3))
      all_goals
        have HF : Hid (RetEs w (joinL (f + 1) ls) (.returned (.slice L3 k3 d3)) wz) := Lib.hid (by
          rw [HJ.out]
          exact ⟨L3, k3, d3, rfl, r3, kd3, by first | exact belowT' bw2 b3 | exact belowT' bw1 b3⟩)
        clear r3 b3 r1 r2 b1 b2
        go_wp2_with fail
        go_ret
        exact HF.out
set_option maxRecDepth 100000 in
set_option maxHeartbeats 8000000 in
theorem merge_any {w : World} {A : Option Addr} {n c : Nat} {ls : List (List En)} (h : RLs w A n ls) (hc : n ≤ c) (hn : n ≤ 1099511627776) (ht : totLn ls ≤ 2097152) (hs : ∀ es ∈ ls, ∀ x ∈ es, SzE x) :
    Calls Try.prog 21 #[.slice A n c] w (RetMg w (chkL ls) (joinL n ls)) := by
  obtain ⟨z, hz⟩ : ∃ z, z = chkL ls := ⟨_, rfl⟩
  have HM : Hid (Calls Try.prog 57 #[.slice A n c] w (RetNu w z)) := Lib.hid (by rw [hz]; exact mgCheck_any h hn (fun es he => by have := totLn_mem he; omega))
  have HJ : Hid (∀ wx, Below w.heap.size w wx → Calls Try.prog 59 #[.slice A n c] wx (RetEs wx (joinL n ls))) := Lib.hid (fun wx hb => mgJoin_any n (h.below hb) hc (Nat.le_refl _) ht hn)
  have HS : Hid (∀ x ∈ joinL n ls, SzE x) := Lib.hid (fun x hx => by
    obtain ⟨l, h1, h2⟩ := joinL_from n hx
    exact hs l h1 x h2)
  have HL := Lib.hid (joinL_len n ls)
  rw [← hz]
  clear h hz hs
  go_enter Try.func21, Try.ntmps21
  go_wp2_with fail
  with_reducible refine HM.out.mono ?_
  rintro e w1 ⟨rfl, b1⟩
  have B1 := Lib.hid b1
  clear b1 HM
  by_cases hz0 : z = 0
  · subst hz0
    go_wp2_with fail
    with_reducible refine (HJ.out _ B1.out).mono ?_
    intro e w2 hq
    obtain ⟨L, k, d, he, hr, hkd, b2⟩ := RetEs.out hq
    subst he
    have hk : k ≤ 2097152 := by have h1 := hr.len; have h2 := HL.out; omega
    have HOW := Lib.hid (mgOwn_any (c := d) hr hk HS.out)
    have B2 := Lib.hid (belowT' B1.out b2)
    clear hr b2 hq
    go_wp2_with fail
    with_reducible refine HOW.out.mono ?_
    rintro e w3 ⟨L2, n2, c2, rfl, hrow⟩
    have HF : Hid (RetMg w 0 (joinL n ls) (.returned (.tuple #[.slice L2 n2 c2, .int .i64 0])) w3) := Lib.hid (.inr ⟨rfl, L2, n2, c2, rfl, hrow.lower B2.out⟩)
    clear hrow
    go_wp2_with fail
    exact bodyPost_ret (v := .tuple #[.slice L2 n2 c2, .int .i64 0]) (by simp [results, Try.f21, go_sem]; try rfl) rfl HF.out
  · have t1 : (z == 0) = false := by rw [beq_eq_false_iff_ne]; exact hz0
    go_wp2_with fail
    exact bodyPost_ret (v := .tuple #[.slice none 0 0, .int .i64 z]) (by simp [results, Try.f21, go_sem]; try rfl) rfl (.inl ⟨hz0, rfl, B1.out⟩)
end Go.Proofs.Ytgigohfjioifaaa
namespace Go.Proofs.Ytgigohfjioifaaa
open Go Go.RowKit

theorem info_slm : (Try.prog.info? 22).map (fun i => (i.zero, i.size, i.bytes)) = some (some (.slice none 0 0), 1, 24) := by kernel_rfl
theorem RLs_two {w : World} {A : Option Addr} {n c : Nat} {es : List En} {t : TypeId} (h : REs w A n es) (hc : n ≤ c) : RLs (w.alloc (.cells #[.slice A n c, .slice A n c] t)) (some ⟨w.heap.size, 0, none⟩) 2 [es, es] := by
  refine ⟨rfl, fun _ => ⟨w.heap.size, 0, rfl, by simp, fun i fs hi => ?_⟩⟩
  have hb := h.below ((Below.refl w.heap.size w).alloc (Nat.le_refl _) (.cells #[.slice A n c, .slice A n c] t))
  have hi2 : i < 2 := by have := (List.getElem?_eq_some_iff.1 hi).1; simpa using this
  match i, hi2 with
  | 0, _ =>
    injection hi with hi
    subst hi
    exact ⟨A, n, c, (Cl.new w #[.slice A n c, .slice A n c] t).cell 0, hb, hc⟩
  | 1, _ =>
    injection hi with hi
    subst hi
    exact ⟨A, n, c, (Cl.new w #[.slice A n c, .slice A n c] t).cell 1, hb, hc⟩
theorem pairE_take : ∀ (es : List En) {vs : List Value} (i : Nat) {v0 v3 : Value}, vs.length = es.length * 4 → vs[i * 4]? = some v0 → vs[i * 4 + 3]? = some v3 → i < es.length →
    ((pairE es vs).take (2 * (i + 1))).map (·.1) = ((pairE es vs).take (2 * i)).map (·.1) ++ [v0, v3]
  | [], _, i, _, _, _, _, _, h => by simp at h
  | e :: es, vs, i, v0, v3, hl, h0, h3, hi => by
    obtain ⟨x0, x1, x2, x3, r, rfl, hr⟩ := four_of hl
    cases i with
    | zero =>
      simp at h0 h3
      subst h0 h3
      simp [pairE]
    | succ i =>
      simp only [List.length_cons] at hi
      have e0 : (i + 1) * 4 = i * 4 + 4 := by omega
      have e3 : (i + 1) * 4 + 3 = i * 4 + 3 + 4 := by omega
      rw [e0] at h0
      rw [e3] at h3
      have ih := pairE_take es (vs := r) i hr (by simpa using h0) (by simpa using h3) (by omega)
      have e4 : 2 * (i + 1 + 1) = 2 * (i + 1) + 2 := by omega
      have e5 : 2 * (i + 1) = 2 * i + 2 := by omega
      simp only [pairE]
      rw [e4]
      simp only [List.take_succ_cons, List.map_cons]
      rw [ih, e5]
      simp only [List.take_succ_cons, List.map_cons, List.cons_append]
/-- What stands while the slices are put behind. -/
def StM (B : Nat) (w2 : World) (M : Option Addr) (N md : Nat) (vals : List Value) (P : List VB) (La : Option Addr) (k da : Nat) (va : List Value) (wr : World) : Prop :=
  OwnV 22 wr B M N md vals ∧ Fam wr B P ∧ Below B w2 wr ∧ OwnE wr B La k da va ∧ B ≤ wr.heap.size
theorem StM.grown {B : Nat} {w2 wr w' : World} {M M' : Option Addr} {N md N' md' : Nat} {vals vals' : List Value} {P : List VB} {La : Option Addr} {k da : Nat} {va : List Value} (h : StM B w2 M N md vals P La k da va wr)
    (hM : OwnV 22 w' B M' N' md' vals') (hg : wr.grownBy w' (blk M)) : StM B w2 M' N' md' vals' P La k da va w' := by
  obtain ⟨h1, h2, h4, h5, h7⟩ := h
  exact ⟨hM, h2.kept hg (fun b e => h2.off_row h1 (by decide) b e), h4.grown hg h7 (fun k hk => (h1.lt k hk).1), ownE_kept h5 hg (fun b hb e => row_ne h1 h5 (by decide) b e hb), by have := hg.size; omega⟩
theorem StM.below {B : Nat} {w2 wr w' : World} {M : Option Addr} {N md : Nat} {vals : List Value} {P : List VB} {La : Option Addr} {k da : Nat} {va : List Value} (h : StM B w2 M N md vals P La k da va wr)
    (hb : Below wr.heap.size wr w') : StM B w2 M N md vals P La k da va w' := by
  obtain ⟨h1, h2, h4, h5, h7⟩ := h
  exact ⟨h1.below hb, h2.below hb, h4.trans (hb.mono h7), h5.below hb, by have := hb.size; omega⟩
theorem fam_keep {w w' : World} {base : Nat} {A : Option Addr} {n c b0 : Nat} {vs : List Value} {ps : List VB} (h : Fam w base ps) (ho : OwnE w b0 A n c vs) (hg : w.grownBy w' (blk A)) : Fam w' base ps :=
  h.kept hg (fun b e q hq e2 => by
    obtain ⟨A', m', c', e1, ho2⟩ := h.1 q hq
    rw [e1, own_blk] at e2
    exact row_ne ho ho2 (by decide) b e e2)
theorem chk_two {es : List En} (h : chk1 es = 0) : chkL [es, es] = 0 := by
  show comb (comb 0 (chk1 es)) (chk1 es) = 0
  rw [h]
  rfl
theorem joinL_two {es : List En} (h : SortL es) : joinL 2 [es, es] = es := by
  rw [joinL_eq 2 (by simp) (fun l hl => by
    have : l = es := by simpa using hl
    rw [this]; exact h)]
  show mrg2 (mrg2 [] es) es = es
  rw [nil_mrg2]
  exact mrg2_self h
theorem chk1_of {es : List En} (h : SortL es) (hk : ∀ x ∈ es, okE x = true) : chk1 es = 0 := by
  unfold chk1
  rw [checkE_ok hk, if_neg (by simp), ord_of_sort2 h]
  rfl
set_option maxRecDepth 100000 in
set_option maxHeartbeats 16000000 in
theorem mergeMemory_row (A : Option Addr) (n c : Nat) (es : List En) (a : Nat) (w : World) (h : REs w A n es) (hnc : n ≤ c) (ht : totE es ≤ 1048576) (ha : U64 a) :
    Calls Try.prog 9 #[.slice A n c, .int .u64 (a : Int)] w (RetT w true) := by
  have hsz : ∀ x ∈ es, SzE x := fun x hx => by
    have := totE_mem hx
    unfold wE at this
    exact ⟨by omega, by omega⟩
  have hnn : n ≤ 1048576 := by have := totE_len es; have := h.len; omega
  obtain ⟨m, hm⟩ : ∃ m, m = min n 20 := ⟨_, rfl⟩
  obtain ⟨fs, hfs⟩ : ∃ fs, fs = es.take m := ⟨_, rfl⟩
  obtain ⟨us, hev, hrv⟩ := h.takeV (m := m) (by omega)
  rw [← hfs] at hev
  have hfl : fs.length = m := by rw [hfs, List.length_take, h.len]; omega
  have hfz : ∀ x ∈ fs, SzE x := fun x hx => hsz x (by rw [hfs] at hx; exact List.mem_of_mem_take hx)
  have HSO : Hid (∀ wx, Below w.heap.size w wx → Calls Try.prog 31 #[.slice A m c] wx (RetPick wx (srt [] fs) us)) := Lib.hid (fun wx hb => sorted_any (hev.below hb) (hrv.below hb) hfl (by omega) hfz)
  have hsl := (srt_len fs []).1
  obtain ⟨hss1, hss2⟩ := srt_prop (xs := fs) (o := []) List.Pairwise.nil (fun x hx => by cases hx)
  obtain ⟨ss, hss⟩ : ∃ ss, ss = srt [] fs := ⟨_, rfl⟩
  rw [← hss] at HSO hsl hss1 hss2
  have hsl2 : ss.length ≤ 20 := by simp at hsl; omega
  have HK := Lib.hid hss2
  have HSZ : Hid (∀ x ∈ ss, SzE x) := Lib.hid (fun x hx => by
    have := long_ok (hss2 x hx)
    exact ⟨by omega, by omega⟩)
  have HC1 := Lib.hid (chk1_of hss1 hss2)
  have HS1 := Lib.hid hss1
  have HFW : Hid (∀ w, Calls Try.prog 25 #[.slice A n c, .int .i64 20] w (fun e w' => e = .returned (.slice A m c) ∧ w' = w)) := Lib.hid (fun w => by rw [hm]; exact few11_any (m := 20) hnc w)
  have HA := Lib.hid ha
  have HSL := Lib.hid hsl2
  clear h hsz hev hrv hfs hfl hfz hm ht ha hss hss1 hss2 hsl hsl2 hnn
  go_enter Try.func9, Try.ntmps9
  go_wp2_with fail
  refine (awake11_any _).mono ?_
  rintro e w1 ⟨rfl, b1⟩
  have B1 := Lib.hid b1
  clear b1
  go_wp2_with fail
  with_reducible refine (HFW.out _).mono ?_
  intro e wq hq
  obtain ⟨he, hwq⟩ := hq
  subst he
  rw [hwq]
  clear hwq wq
  go_wp2_with fail
  with_reducible refine (HSO.out _ B1.out).mono ?_
  intro e w2 hq
  obtain ⟨L, k, d, he, hR, hkd, b2⟩ := hq.res
  subst he
  have B2 := Lib.hid (belowT' B1.out b2)
  have HR := Lib.hid hR
  have hk20 : k ≤ 20 := by have h1 := hR.len; have h2 := HSL.out; omega
  clear hq hR b2
  go_wp2_with fail
  with_reducible refine (Twins_any HR.out (by omega) HSZ.out).mono ?_
  rintro e w3 ⟨G, gn, gd, rfl, hrow⟩
  obtain rfl : gn = k := by have h1 := hrow.len; have h2 := HR.out.len; omega
  have HG := Lib.hid hrow
  have hgd := hrow.cap.1
  have HR3 := Lib.hid (HR.out.below hrow.bel)
  obtain ⟨W3, hW3⟩ : ∃ W3, W3 = w3.alloc (.cells #[.slice G gn gd, .slice G gn gd] 25) := ⟨_, rfl⟩
  have bW3 : Below w3.heap.size w3 W3 := by rw [hW3]; exact (Below.refl _ _).alloc (Nat.le_refl _) _
  have HMG : Hid (Calls Try.prog 21 #[.slice (some ⟨w3.heap.size, 0, none⟩) 2 2] (w3.alloc (.cells #[.slice G gn gd, .slice G gn gd] 25)) (RetMg W3 0 ss)) := Lib.hid (by
    have h2 := merge_any (c := 2) (RLs_two (t := 25) hrow.rd hgd) (by omega) (by omega) (by have := HSL.out; simp [totLn]; omega) (fun gs hg => by
      have : gs = ss := by simpa using hg
      rw [this]; exact HSZ.out)
    rw [chk_two HC1.out, joinL_two HS1.out] at h2
    rw [hW3]
    exact h2)
  have BW3 := Lib.hid bW3
  clear hrow hW3 bW3
  go_wp2_with fail
  with_reducible refine HMG.out.mono ?_
  rintro e w4 (⟨h0, _⟩ | ⟨_, A4, an, ad, rfl, hA4⟩)
  · exact absurd rfl h0
  obtain rfl : an = gn := by have h1 := hA4.len; have h2 := HR.out.len; omega
  have H34 := Lib.hid (belowT' BW3.out hA4.bel)
  have HA4 := Lib.hid hA4
  have HG4 := Lib.hid (HG.out.below H34.out)
  have HVS := Lib.hid (visible_any HG4.out.rd (by omega) hgd HSZ.out a HA.out)
  rw [HC1.out] at HVS
  clear hA4 HMG
  go_wp2_with fail
  with_reducible refine HVS.out.mono ?_
  rintro e w5 (⟨h0, _⟩ | ⟨_, A5, bn, bd, rfl, hA5⟩)
  · exact absurd rfl h0
  have H45 := Lib.hid hA5.bel
  have HA5 := Lib.hid hA5
  have hbn : bn ≤ 20 := by have h1 := hA5.len; have h2 := pkE_len (visP ss [a]) ss an; omega
  have HG5 := Lib.hid (HG4.out.below H45.out)
  obtain ⟨W5, hW5⟩ : ∃ W5, W5 = w5.alloc (.cells #[.int .u64 (a : Int)] 23) := ⟨_, rfl⟩
  have bW5 : Below w5.heap.size w5 W5 := by rw [hW5]; exact (Below.refl _ _).alloc (Nat.le_refl _) _
  have HKP : Hid (Calls Try.prog 29 #[.slice G an gd, .bool false, .slice (some ⟨w5.heap.size, 0, none⟩) 1 1] (w5.alloc (.cells #[.int .u64 (a : Int)] 23)) (RetMg W5 0 (keepE ss false [a]))) := Lib.hid (by
    have h2 := keep1_any (mc := 1) ((HG5.out.rd).below bW5) (by omega) hgd HSZ.out (by rw [hW5]; exact RdU_one w5 a HA.out _)
    rw [HC1.out] at h2
    rw [hW5] at h2 ⊢
    exact h2)
  have BW5 := Lib.hid bW5
  clear hA5 hW5 bW5 HVS
  go_wp2_with fail
  with_reducible refine HKP.out.mono ?_
  rintro e w6 (⟨h0, _⟩ | ⟨_, A6, cn, cd, rfl, hA6⟩)
  · exact absurd rfl h0
  have H56 := Lib.hid (belowT' BW5.out hA6.bel)
  have HA6 := Lib.hid hA6
  have hke : ∀ x ∈ keepE ss false [a], x ∈ ss := fun x hx => by unfold keepE at hx; rw [if_neg (by simp)] at hx; exact pkE_mem hx
  have hkl : (keepE ss false [a]).length ≤ 20 := by
    unfold keepE
    rw [if_neg (by simp)]
    have h1 := pkE_len (keepP ss [a]) ss ss.length
    have h2 := HSL.out
    omega
  have HKE := Lib.hid hke
  have hcn : cn ≤ 20 := by rw [← hA6.len]; exact hkl
  have HG6 := Lib.hid (HG5.out.below H56.out)
  have HR6 := Lib.hid (HR3.out.below (belowT' (belowT' H34.out H45.out) H56.out))
  have HA46 := Lib.hid (HA4.out.below (belowT' H45.out H56.out))
  have HA56 := Lib.hid (HA5.out.below H56.out)
  have HS6 := Lib.hid (SameList_any (c := gd) (d := d) HG6.out.rd HR6.out (by omega) HSZ.out)
  clear hA6 HKP hke hkl
  go_wp2_with fail
  with_reducible refine HS6.out.mono ?_
  intro e w7 hq
  obtain ⟨h7, b7⟩ := RetT.outD hq
  subst h7
  have H67 := Lib.hid b7
  have HS7 := Lib.hid (SameList_any (c := ad) (d := d) (HA46.out.rd.below b7) (HR6.out.below b7) (by omega) HSZ.out)
  clear hq b7 HS6
  go_wp2_with fail
  with_reducible refine HS7.out.mono ?_
  intro e w8 hq
  obtain ⟨h8, b8⟩ := RetT.outD hq
  subst h8
  have H68 := Lib.hid (belowT' H67.out b8)
  clear hq b8 HS7
  -- what there is now
  obtain ⟨bs, hbs⟩ : ∃ bs, bs = w2.heap.size := ⟨_, rfl⟩
  obtain ⟨vg, g1, g2, g3, g4, g5, g6, g7⟩ := HG.out
  obtain ⟨va, a1, a2, a3, a4, a5, a6, a7⟩ := HA4.out
  obtain ⟨vb, p1, p2, p3, p4, p5, p6, p7⟩ := HA5.out
  obtain ⟨vc, c1, c2, c3, c4, c5, c6, c7⟩ := HA6.out
  rw [← hbs] at g1 g2 g6 g7
  have s23 : bs ≤ w3.heap.size := g6
  have s3 := BW3.out.size
  have s34 := H34.out.size
  have s45 := H45.out.size
  have s5 := BW5.out.size
  have s56 := H56.out.size
  have s68 := H68.out.size
  have F2 := Fam.app g7 a7 H34.out s3 (by omega)
  have F3 := Fam.app F2 p7 H45.out (Nat.le_refl _) (by omega)
  have F4 := (Fam.app F3 c7 H56.out s5 (by omega)).below H68.out
  have b48 : Below w4.heap.size w4 w8 := belowT' (belowT' H45.out H56.out) H68.out
  have b58 : Below w5.heap.size w5 w8 := belowT' H56.out H68.out
  have b38 : Below w3.heap.size w3 w8 := belowT' H34.out b48
  have eG : EOs bs w8 ss vg := g2.below b38
  have eA : EOs bs w8 ss va := EOs.mono (by omega) (a2.below b48)
  have eB : EOs bs w8 (pkE (visP ss [a]) ss an) vb := EOs.mono (by omega) (p2.below b58)
  have eC : EOs bs w8 (keepE ss false [a]) vc := EOs.mono (by omega) (c2.below H68.out)
  have HEE := Lib.hid (((eG.app eA).app eB).app eC)
  have hpp : pairE (((ss ++ ss) ++ pkE (visP ss [a]) ss an) ++ keepE ss false [a]) (((vg ++ va) ++ vb) ++ vc) = ((pairE ss vg ++ pairE ss va) ++ pairE (pkE (visP ss [a]) ss an) vb) ++ pairE (keepE ss false [a]) vc := by
    rw [pairE_app ((eG.app eA).app eB), pairE_app (eG.app eA), pairE_app eG]
  rw [← hpp] at F4
  have hEl : ((((ss ++ ss) ++ pkE (visP ss [a]) ss an) ++ keepE ss false [a])).length = an + an + bn + cn := by
    rw [List.length_append, List.length_append, List.length_append, g4, p4, c4]
  have hEm : ∀ x ∈ (((ss ++ ss) ++ pkE (visP ss [a]) ss an) ++ keepE ss false [a]), x ∈ ss := fun x hx => by
    rcases List.mem_append.1 hx with hx | hx
    · rcases List.mem_append.1 hx with hx | hx
      · rcases List.mem_append.1 hx with hx | hx <;> exact hx
      · exact pkE_mem hx
    · exact HKE.out x hx
  obtain ⟨E, hE⟩ : ∃ E, E = (((ss ++ ss) ++ pkE (visP ss [a]) ss an) ++ keepE ss false [a]) := ⟨_, rfl⟩
  obtain ⟨VV, hVV⟩ : ∃ VV, VV = (((vg ++ va) ++ vb) ++ vc) := ⟨_, rfl⟩
  rw [← hE] at F4 HEE hEl hEm
  rw [← hVV] at F4 HEE
  have HSM : Hid (∀ q ∈ pairE E VV, q.2.length ≤ 1073741824) := Lib.hid (fun q hq => by
    obtain ⟨x, hx, hk⟩ := pairE_sz hq
    have := long_ok (HK.out x (hEm x hx))
    rcases hk with e | e <;> (rw [e]; omega))
  have HF4 := Lib.hid F4
  have HEL := Lib.hid hEl
  have HVV := Lib.hid hVV
  have RG := Lib.hid (g1.rd.below b38)
  have RA := Lib.hid (a1.rd.below b48)
  have RB := Lib.hid (p1.rd.below b58)
  have RC := Lib.hid (c1.rd.below H68.out)
  have EG := Lib.hid eG.evs.cells
  have EA := Lib.hid eA.evs.cells
  have EB := Lib.hid eB.evs.cells
  have EC := Lib.hid eC.evs.cells
  have hb28 : Below bs w2 w8 := by rw [hbs]; exact belowT' g5 b38
  have HB28 := Lib.hid hb28
  have HBS := Lib.hid hbs
  have hs8 : bs ≤ w8.heap.size := by omega
  have b0 : Below w8.heap.size w8 (w8.alloc (.cells #[] 33)) := (Below.refl _ _).alloc (Nat.le_refl _) _
  have O0 := Lib.hid (OwnE.zero w8)
  have HB0 := Lib.hid b0
  have R0 := Lib.hid (RG.out.below b0)
  clear g1 g2 g3 g4 g5 g6 g7 a1 a2 a3 a4 a5 a6 a7 p1 p2 p3 p4 p5 p6 p7 c1 c2 c3 c4 c5 c6 c7 F2 F3 F4 b48 b58 b38 eG eA eB eC hpp hEl hEm hE hVV hb28 hbs b0 s23 s3 s34 s45 s5 s56 s68
  go_wp2_with (at_builtin; refine wpList_app4 (w8.alloc (.cells #[] 33)) rfl _ _ 25 rfl w8.heap.size _ 64 Try.underlying25 info_ent rfl (some ⟨w8.heap.size, 0, none⟩) 0 0 [] rfl O0.out G an gd vg rfl R0.out EG.out ?_ ?_ ?_ ?_)
  · omega
  · omega
  · simp
  intro Q1 q1 x1 o1 _ b1
  have O1 := Lib.hid o1
  have HX1 := Lib.hid (HB0.out.trans b1)
  have R1 := Lib.hid (RA.out.below HX1.out)
  have s1 := HX1.out.size
  clear o1 b1
  go_wp2_with (at_builtin; refine wpList_app4 x1 rfl _ _ 25 rfl w8.heap.size _ 64 Try.underlying25 info_ent rfl Q1 an q1 vg rfl O1.out A4 an ad va rfl R1.out EA.out ?_ ?_ ?_ ?_)
  · omega
  · omega
  · exact s1
  intro Q2 q2 x2 o2 _ b2
  have O2 := Lib.hid o2
  have HX2 := Lib.hid (HX1.out.trans b2)
  have R2 := Lib.hid (RB.out.below HX2.out)
  have s2 := HX2.out.size
  clear o2 b2 s1
  go_wp2_with (at_builtin; refine wpList_app4 x2 rfl _ _ 25 rfl w8.heap.size _ 64 Try.underlying25 info_ent rfl Q2 (an + an) q2 (vg ++ va) rfl O2.out A5 bn bd vb rfl R2.out EB.out ?_ ?_ ?_ ?_)
  · omega
  · omega
  · exact s2
  intro Q3 q3 x3 o3 _ b3
  have O3 : Hid (OwnE x3 w8.heap.size Q3 (an + an + bn) q3 (vg ++ va ++ vb)) := Lib.hid (by simpa [List.append_assoc] using o3)
  have HX3 := Lib.hid (HX2.out.trans b3)
  have R3 := Lib.hid (RC.out.below HX3.out)
  have s3 := HX3.out.size
  clear o3 b3 s2
  go_wp2_with (at_builtin; refine wpList_app4 x3 rfl _ _ 25 rfl w8.heap.size _ 64 Try.underlying25 info_ent rfl Q3 (an + an + bn) q3 (vg ++ va ++ vb) rfl O3.out A6 cn cd vc rfl R3.out EC.out ?_ ?_ ?_ ?_)
  · omega
  · omega
  · exact s3
  intro R rc x4 o4 _ b4
  obtain ⟨tn, htn⟩ : ∃ tn, tn = an + an + bn + cn := ⟨_, rfl⟩
  have HX4 := Lib.hid (HX3.out.trans b4)
  have s4 := HX4.out.size
  have H0 : Hid (StM bs w2 none (2 * 0) 0 (((pairE E VV).take (2 * 0)).map (·.1)) (pairE E VV) R tn rc VV x4) := Lib.hid ⟨by simpa using OwnV.nil _ _ _, HF4.out.below HX4.out, HB28.out.trans (HX4.out.mono hs8), OwnE.mono (by rw [htn, HVV.out]; simpa [List.append_assoc] using o4) hs8, by omega⟩
  have HEL2 : Hid (E.length = tn) := Lib.hid (by rw [htn]; exact HEL.out)
  have HVL : Hid (VV.length = E.length * 4) := Lib.hid (by
    have h1 := H0.out.2.2.2.1.rd.1
    have h2 := HEL2.out
    rw [h1, h2])
  have ht80 : tn ≤ 80 := by omega
  rw [← htn]
  clear o4 b4 s3 htn
  go_wp2_with fail
  go_loopw [12, 62] (fun s12 s62 wr => ∃ (i md : Nat) (M : Option Addr), i ≤ tn ∧ s62 = .int .i64 (i : Int) ∧ s12 = .slice M (2 * i) md ∧ StM bs w2 M (2 * i) md (((pairE E VV).take (2 * i)).map (·.1)) (pairE E VV) R tn rc VV wr) (fun _ s _ => tn - (intOf s).toNat)
  case atStart => exact ⟨0, 0, none, Nat.zero_le _, rfl, rfl, H0.out⟩
  case round =>
    obtain ⟨i, md, M, hi, rfl, rfl, hS⟩ := hrel
    have HS := Lib.hid hS
    clear hS
    by_cases hlt : i < tn
    · obtain ⟨x, hx⟩ : ∃ x, E[i]? = some x := ⟨_, List.getElem?_eq_getElem (by have := HEL2.out; omega)⟩
      obtain ⟨v0, v1, v2, v3, e0, e1, e2, e3, hev⟩ := EVs.at_ i (EOs.evs HEE.out) hx
      obtain ⟨K, kn, kc, V, vn, vc2, rfl, rfl, rfl, rfl, _⟩ := hev.parts
      obtain ⟨gr, ofr, hR, _, hcl⟩ := HS.out.2.2.2.1.rd.2 (by omega)
      subst hR
      have d0 := hcl _ _ e0
      have d1 := hcl _ _ e1
      have d2 := hcl _ _ e2
      have d3 := hcl _ _ e3
      rw [← Nat.add_assoc] at d1 d2 d3
      have HIT := Lib.hid (pairE_take E i HVL.out e0 e3 (by have := HEL2.out; omega))
      obtain ⟨U0, hU⟩ : ∃ U0, U0 = wr.alloc (.cells #[.slice K kn kc, .int .u64 (x.seq : Int), .int .u8 (x.kind : Int), .slice V vn vc2] 33) := ⟨_, rfl⟩
      obtain ⟨g0, hg0⟩ : ∃ g0, g0 = wr.heap.size := ⟨_, rfl⟩
      have bU : Below wr.heap.size wr U0 := by rw [hU]; exact (Below.refl _ _).alloc (Nat.le_refl _) _
      have zU : Cl U0 g0 #[.slice K kn kc, .int .u64 (x.seq : Int), .int .u8 (x.kind : Int), .slice V vn vc2] 33 := by rw [hU, hg0]; exact Cl.new _ _ _
      obtain ⟨z0, z1, z2, z3, _⟩ := zU.c4
      have bY : Below wr.heap.size wr (U0.alloc (.cells #[.slice K kn kc, .slice V vn vc2] 22)) := bU.alloc bU.size _
      have HSY := Lib.hid (HS.out.below bY)
      have HBX := Lib.hid (OwnV.rd (ownV_box2 U0 22 U0.heap.size [.slice K kn kc, .slice V vn vc2] 2 rfl (by omega) (Nat.le_refl _) _ rfl))
      have hone : ∀ u ∈ [Value.slice K kn kc, .slice V vn vc2], u.oneCell' = true := by
        intro u hu
        simp only [List.mem_cons, List.not_mem_nil, or_false] at hu
        rcases hu with rfl | rfl <;> rfl
      have HON := Lib.hid hone
      have sY := HSY.out.2.2.2.2
      have HU := Lib.hid hU
      have HG0 := Lib.hid hg0
      clear hx e0 e1 e2 e3 hev hcl hU hg0 bU zU bY hone
      go_upto_region 14 with (fail)
      rw [← HU.out, ← HG0.out]
      clear d0 d1 d2 d3
      go_wp2_with (at_builtin; refine wpList_appV (U0.alloc (.cells #[.slice K kn kc, .slice V vn vc2] 22)) rfl _ _ 68 rfl bs 22 (.slice none 0 0) 24 Try.underlying68 info_slm rfl M (2 * i) md _ rfl HSY.out.1 (some ⟨U0.heap.size, 0, none⟩) 2 2 [.slice K kn kc, .slice V vn vc2] rfl HBX.out HON.out ?_ ?_ ?_ ?_)
      · unfold maxLen; omega
      · omega
      · simpa using sY
      intro M2 md2 wz hMz hgz _
      have hMz2 : OwnV 22 wz bs M2 (2 * i + 2) md2 (((pairE E VV).take (2 * (i + 1))).map (·.1)) := by rw [HIT.out, List.map_take]; exact hMz
      have HSZ2 := Lib.hid (HSY.out.grown hMz2 hgz)
      have hnum : 2 * i + 2 = 2 * (i + 1) := by omega
      have HNUM := Lib.hid hnum
      clear hMz hgz hMz2 hnum z0 z1 z2 z3
      go_wp2_with fail
      go_roundw
      case rel => exact ⟨i + 1, md2, M2, by omega, by go_num, by rw [← HNUM.out], by rw [← HNUM.out]; exact HSZ2.out⟩
      case measure => simp [intOf]; omega
    · obtain rfl : i = tn := by omega
      have hall : (pairE E VV).take (2 * i) = pairE E VV := List.take_of_length_le (by have h1 := pairE_len E HVL.out; have h2 := HEL2.out; omega)
      rw [hall] at HS
      obtain ⟨hM, hF, hB, _, hs⟩ := HS.out
      have HAP : Hid (Calls Try.prog 37 #[.slice M (2 * i) md] wr fun e w' => e = .returned (.bool true) ∧ Below bs wr w') := Lib.hid (Apart_any M (2 * i) md bs ((pairE E VV).map (·.1)) wr hM.rd (by omega) hF.pre (hF.small HSM.out) hF.dis (fun b hb i v hv => (hF.off_row hM (by decide) b hb).map i v hv) hs)
      have HB := Lib.hid hB
      clear hM hF hB hs hall
      go_wp2_with fail
      with_reducible refine HAP.out.mono ?_
      rintro e wf ⟨rfl, bf⟩
      have HFIN : Hid (Below w.heap.size w wf) := Lib.hid (by
        have h1 := HB.out.trans bf
        have hb := HBS.out
        have h2 := B2.out.size
        exact B2.out.trans (h1.mono (by omega)))
      clear bf HAP
      go_wp2
      go_ret
      exact ⟨rfl, HFIN.out⟩
end Go.Proofs.Ytgigohfjioifaaa
namespace Go.Proofs.Ytgigohfjioifaaa.mergeMemoryUptoRow
open Go Go.ChangeShapes Go.WideShapes Go.ChangeAt Go.RowKit Go.Deep
open Go.ChangeMaps (open_string shut_string)
set_option linter.unusedVariables false

theorem own : ownKnob Try.prog.godebug = none := by kernel_rfl
theorem laidOut : laidOutB Try.prog = true := by kernel_rfl

set_option maxRecDepth 100000 in
theorem contract (H : Type) (enc : TypeId × Value → H) (W : World) (base : Nat) (args : Array Value) (ds gs : List (DataW H)) (before : List MemPlace)
    (hval0 : ∀ (j : Nat) t v, Try.f9.params[j]? = some t → args[j]? = some v → Value.okWide Try.prog W .any base t v)
    (hW : DataW.Whole enc Try.prog Try.f9.params.toList Rows.mergeMemorySpec.vars false W args.toList ds gs before)
    (hk : Rows.uptoSmall H (ds ++ gs) = true) :
    Calls Try.prog 9 args W fun e W' => ∃ v, e = .returned v ∧ Rows.mergeMemorySpec.post enc Try.prog Try.f9 false true false false W args v W' := by
  have hval : ∀ (j : Nat) t v, Try.f9.params[j]? = some t → args[j]? = some v → Value.okWide Try.prog W .any base t v := hval0
  have hW' := hW
  obtain ⟨p, q, hA0, hV, rfl, hfz, hnd⟩ := hW
  have hA : DataW.TrodAll enc Try.prog W 0 (fun _ => true) true Try.f9.params.toList args.toList ds p := hA0
  rw [Try.params9] at hA hval
  obtain ⟨v0, vs0, d0, ds0, p0, q0, hargs, rfl, rfl, h0, r0⟩ := trodAll_cons hA
  obtain ⟨v1, vs1, d1, ds1, p1, q1, rfl, rfl, rfl, h1, r1⟩ := trodAll_cons r0
  obtain ⟨rfl, rfl, rfl⟩ := trodAll_nil r1
  obtain rfl : args = #[v0, v1] := by cases args; simp_all
  obtain ⟨rfl, rfl⟩ := trodVars_none hV
  have hb := bulkOf hk
  have sz0 : Rows.uptoBulk d0 ≤ 1048576 := Nat.le_trans (part_bulk (d := d0) (l := [d0, d1] ++ []) (by simp)) hb
  obtain ⟨A0, len0, cap0, rfl⟩ := okWide_slice Try.underlying25 (hval 0 25 v0 rfl rfl)
  have k0 := h0
  have lt0 : ∀ x ∈ p0, x.block < W.heap.size := by obtain ⟨m, hm⟩ := k0; exact DataW.trod_lt m _ _ _ hm
  obtain ⟨al0, rd0, lc0, ta0⟩ : ∃ al0, REs W A0 len0 al0 ∧ len0 ≤ cap0 ∧ totE al0 ≤ 1048576 := by
    obtain ⟨fuel, hf⟩ := h0
    obtain ⟨al, h1, h2, h3⟩ := ents_of (len := len0) (cap := cap0) (A := A0) hf
    exact ⟨al, h1, h2, by have h4 := sz0; have h5 : totE al ≤ Rows.uptoBulk d0 := h3; omega⟩
  obtain ⟨a1, rfl, rfl, rfl, w1⟩ := open_int Try.underlying23 (hval 1 23 v1 rfl rfl) h1
  have wf1 := w1
  obtain ⟨n1, rfl, hn1⟩ := nat_of_u64 wf1
  clear hA0 hval0
  refine (mergeMemory_row A0 len0 cap0 al0 n1 W rd0 lc0 ta0 hn1).mono fun e W' ⟨he, bel⟩ => ?_
  subst he
  exact ⟨_, rfl, _, _, _, [], _, [], hW', trodAll_mk1 (shut_bool Try.underlying4 _), (trodAll_cons_mk (Below.trod laidOut (by kernel_rfl) (of_decide_eq_true (by kernel_rfl)) k0 bel lt0) (trodAll_cons_mk (shut_int Try.underlying23 w1) trodAll_mk0)), rfl, bel.frame _, fun h => by cases h⟩

set_option maxRecDepth 100000 in
theorem lifted (os : Os) (started : os.Started) (H : Type) (enc : TypeId × Value → H) (F : Stop.Interp) :
    ReturnsInHanded {} Try.checked os 9 .any ((Rows.OpenSpec.upto Rows.mergeMemorySpec).pre6 enc Try.prog Try.f9 Rows.mergeMemoryUptoRow.domain false) (((Rows.OpenSpec.upto Rows.mergeMemorySpec).at F).post enc Try.prog Try.f9 false true false false) := by
  refine returnsInHanded_of_cond (C := Try.checked) (s := Rows.OpenSpec.upto Rows.mergeMemorySpec) (k := Rows.uptoSmall) rfl own started (by kernel_rfl) Try.func9
    (OpenSpec.witness (enc := enc) (C := Try.checked) (s := Rows.OpenSpec.upto Rows.mergeMemorySpec) (k := Rows.uptoSmall) rfl false ⟨#[], #[.slice none 0 0, .int .u64 0], []⟩ 8 (by kernel_rfl) (by kernel_rfl) (by kernel_rfl)
      (x := ([.nil, .lit (.int .u64 0)], [], [])) (by kernel_rfl) rfl (by kernel_rfl)) ?_
  intro W base args ds gs before hval hW _ hk _
  exact contract H enc W base args ds gs before hval hW hk

theorem over : Rows.mergeMemoryUptoRow.holds Try.pinned (Rows.OpenSpec.upto Rows.mergeMemorySpec) :=
  OpenClaim.holds_of_cond 9 Try.f9 rfl rfl rfl rfl rfl rfl rfl ⟨rfl, rfl, rfl, rfl, rfl⟩ rfl rfl rfl rfl rfl (by kernel_rfl) Try.func9 (by kernel_rfl)
    (of_decide_eq_true (by kernel_rfl)) (by unfold Func.isWrapper; first | (rw [if_pos (by decide +kernel)]; kernel_rfl) | (rw [if_neg (by decide +kernel)]; exact ⟨rfl, rfl⟩))
    (fun os started H enc _ F => lifted os started H enc F)

/-- THE STATEMENT -/
theorem proved : Rows.MergeMemoryUptoSaid := over
#print axioms proved
end Go.Proofs.Ytgigohfjioifaaa.mergeMemoryUptoRow
