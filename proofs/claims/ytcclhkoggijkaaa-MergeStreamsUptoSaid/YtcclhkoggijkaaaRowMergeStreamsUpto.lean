/- MergeStreams: a stream goes through all lists at once, in order, each version once, and never back. -/
import Derived.Test.YtcclhkoggijkaaaEnI
import Derived.Laws.MakeOwn
import Derived.Test.YtcclhkoggijkaaaEnC
import Derived.Deep.RegionLaw
import Derived.Lib.SmallJoins
import Derived.Test.YtcclhkoggijkaaaEnL
import Derived.Test.YtcclhkoggijkaaaEnB
import Derived.Deep.LoopGhost
import Derived.Laws.BytesArg
import Derived.Deep.QuietTactic
import Derived.BigQuiet
import Derived.Test.YtcclhkoggijkaaaBits
import Derived.Test.YtcclhkoggijkaaaFamD
import Derived.Test.YtcclhkoggijkaaaApartF
import Derived.Test.YtcclhkoggijkaaaSnk
import Derived.Test.YtcclhkoggijkaaaOver
import Derived.Test.YtcclhkoggijkaaaOpenF
import Derived.Test.YtcclhkoggijkaaaRows
import Derived.Test.YtcclhkoggijkaaaOpen
import Derived.ProofKit
import Derived.OpenShut
import Derived.ShutString
import Derived.ChangeOld
import Derived.SizedLaws
import Derived.JoinedCond
import Derived.Deep.CondSized
import Derived.Deep.Matrix
import Derived.Test.YtcclhkoggijkaaaBulk
namespace Go.Proofs.Ytcclhkoggijkaaa
open Go Go.RowKit

theorem withT_list {x : En} : ∀ {t t' : Tr}, SortL t.list → withT x t = some t' → ∃ p q, t.list = p ++ q ∧ t'.list = p ++ x :: q ∧ (∀ y ∈ p, lessE y x = true) ∧ (∀ y ∈ q, lessE x y = true)
  | .nil, t', _, h => by
    unfold withT at h
    injection h with h
    subst h
    exact ⟨[], [], rfl, rfl, (fun y hy => by cases hy), fun y hy => by cases hy⟩
  | .node l e r, t', hs, h => by
    have hs' : SortL (l.list ++ e :: r.list) := hs
    obtain ⟨sl, sr, slr⟩ := List.pairwise_append.1 hs'
    obtain ⟨er, srr⟩ := List.pairwise_cons.1 sr
    unfold withT at h
    split at h
    · next hx =>
      cases hw : withT x l with
      | none => rw [hw] at h; cases h
      | some l' =>
        rw [hw] at h
        injection h with h
        obtain ⟨p, q, e1, e2, h1, h2⟩ := withT_list sl hw
        subst h
        refine ⟨p, q ++ e :: r.list, by rw [Tr.list, e1, List.append_assoc], by rw [balT_list, e2]; simp, h1, fun y hy => ?_⟩
        rcases List.mem_append.1 hy with m | m
        · exact h2 y m
        · rcases List.mem_cons.1 m with rfl | m
          · exact hx
          · exact lessE_trans hx (er y m)
    · split at h
      · next hx =>
        cases hw : withT x r with
        | none => rw [hw] at h; cases h
        | some r' =>
          rw [hw] at h
          injection h with h
          obtain ⟨p, q, e1, e2, h1, h2⟩ := withT_list srr hw
          subst h
          refine ⟨l.list ++ e :: p, q, by rw [Tr.list, e1]; simp, by rw [balT_list, e2]; simp, fun y hy => ?_, h2⟩
          rcases List.mem_append.1 hy with m | m
          · exact lessE_trans (slr y m e (by simp)) hx
          · rcases List.mem_cons.1 m with rfl | m
            · exact hx
            · exact h1 y m
      · cases h
theorem withT_none {x : En} : ∀ {t : Tr}, withT x t = none → inL t.list x = true
  | .nil, h => by unfold withT at h; cases h
  | .node l e r, h => by
    unfold withT at h
    unfold inL
    rw [Tr.list, List.any_append, List.any_cons]
    split at h
    · cases hw : withT x l with
      | none => have := withT_none hw; unfold inL at this; rw [this]; rfl
      | some l' => rw [hw] at h; cases h
    · next h1 =>
      split at h
      · cases hw : withT x r with
        | none => have := withT_none hw; unfold inL at this; rw [this]; simp
        | some r' => rw [hw] at h; cases h
      · next h2 =>
        rcases lessE_tri e x with q | q | q
        · exact absurd q h2
        · exact absurd q h1
        · rw [q]; simp
/-- An insertion that goes well: the list's, and the entry wasn't there. -/
theorem withT_ins {x : En} {t t' : Tr} (hs : SortL t.list) (h : withT x t = some t') : t'.list = insL t.list x ∧ inL t.list x = false ∧ SortL t'.list := by
  obtain ⟨p, q, e1, e2, h1, h2⟩ := withT_list hs h
  have hp : ∀ y ∈ p, lessE x y = false := fun y hy => lessE_asym (h1 y hy)
  refine ⟨by rw [e1, e2, insL_app hp h2], ?_, ?_⟩
  · rw [e1]
    unfold inL
    rw [List.any_eq_false]
    intro y hy k
    obtain ⟨k1, k2⟩ := sameK_not k
    rcases List.mem_append.1 hy with m | m
    · rw [h1 y m] at k1; cases k1
    · rw [h2 y m] at k2; cases k2
  · rw [e2]
    rw [e1] at hs
    obtain ⟨s1, s2, s3⟩ := List.pairwise_append.1 hs
    refine List.pairwise_append.2 ⟨s1, List.pairwise_cons.2 ⟨h2, s2⟩, fun a ha b hb => ?_⟩
    rcases List.mem_cons.1 hb with rfl | m
    · exact h1 a ha
    · exact s3 a ha b m
end Go.Proofs.Ytcclhkoggijkaaa
namespace Go.Proofs.Ytcclhkoggijkaaa
open Go Go.RowKit

section
variable {w : World} {A : Option Addr} {n c : Nat} {es : List En}
set_option maxRecDepth 100000 in
set_option maxHeartbeats 4000000 in
theorem mgOwn_any (h : REs w A n es) (hn : n ≤ 2097152) (hs : ∀ x ∈ es, SzE x) : Calls Try.prog 136 #[.slice A n c] w (RetRow w es) := by
  have HL := Lib.hid h.len
  have HS := Lib.hid hs
  obtain ⟨i, hi, hz, hsz, hby⟩ := info_parts info_ent
  obtain ⟨wm, hm1, hm2, hm3⟩ := run_make_own (P := Try.prog) (w := w) w.heap.size 22 37 i _ 4 Try.underlying22 hi hz hsz .i64 .i64 n (by rw [hby]; omega) (by unfold maxLen; omega) (Nat.le_refl _)
  have hbm : Below w.heap.size w wm := (Below.refl _ _).grown hm3 (Nat.le_refl _) (fun k hk => by cases hk)
  have HZ : Hid (RowE w w.heap.size (some ⟨w.heap.size, 0, none⟩) 0 n [] wm) := Lib.hid ⟨[], hm2, rfl, OffW.nil _, rfl, hbm, hbm.size, Fam.nil _ _⟩
  clear hs hm2 hm3 hbm hi hz hsz hby
  go_enter Try.func136, Try.ntmps136
  go_wp2_with fail
  go_loopw [3, 11] (fun s3 s11 wr => ∃ (k d : Nat) (L : Option Addr), k ≤ n ∧ s11 = .int .i64 (k : Int) ∧ s3 = .slice L k d ∧ RowE w w.heap.size L k d (es.take k) wr) (fun _ s _ => n - (intOf s).toNat)
  case atStart => exact ⟨0, n, _, Nat.zero_le _, rfl, rfl, HZ.out⟩
  case round =>
    obtain ⟨k, d, L, hk, rfl, rfl, hrow⟩ := hrel
    have HR := Lib.hid hrow
    have sw := hrow.size
    have hR : REs wr A n es := h.below hrow.bel
    clear hrow
    by_cases hlt : k < n
    · obtain ⟨b, off, rfl, hbl⟩ := hR.pos (by omega)
      obtain ⟨x, v0, v1, v2, v3, hx, m0, m1, m2, m3, hev⟩ := hR.at_ k hlt
      have hsx := HS.out x (List.mem_of_getElem? hx)
      have hwf := hR.wf x (List.mem_of_getElem? hx)
      obtain ⟨K, kn, kc, V, vn, vc, rfl, rfl, rfl, rfl, _⟩ := hev.parts
      have HXK := Lib.hid hx
      obtain ⟨U0, hU⟩ : ∃ U0, U0 = wr.alloc (.cells #[.slice K kn kc, .int .u64 (x.seq : Int), .int .u8 (x.kind : Int), .slice V vn vc] 37) := ⟨_, rfl⟩
      have bU : Below wr.heap.size wr U0 := by rw [hU]; exact (Below.refl _ _).alloc (Nat.le_refl _) _
      have HEN := Lib.hid (mgEntry_any (hev.below bU) hsx)
      have HRU := Lib.hid (HR.out.below bU)
      have HU := Lib.hid hU
      have su := bU.size
      have zU : Cl U0 wr.heap.size #[.slice K kn kc, .int .u64 (x.seq : Int), .int .u8 (x.kind : Int), .slice V vn vc] 37 := by rw [hU]; exact Cl.new _ _ _
      obtain ⟨z0, z1, z2, z3, _⟩ := zU.c4
      clear hx hev hR hU bU HR zU
      go_upto_region 5 with (fail)
      rw [← HU.out]
      go_wp2_with fail
      with_reducible refine HEN.out.mono ?_
      rintro e w2 ⟨K2, kn2, kc2, V2, vn2, vc2, rfl, o1, o2, b2, dj⟩
      obtain ⟨vs, q1, q2, q3, q4, q5, q6, q7⟩ := HRU.out
      have HFM := Lib.hid (fam_two o1 o2 dj)
      have Q7 := Lib.hid q7
      have s2 := b2.size
      have HEO : Hid (EO w.heap.size w2 x (.slice K2 kn2 kc2) (.int .u64 (x.seq : Int)) (.int .u8 (x.kind : Int)) (.slice V2 vn2 vc2)) := Lib.hid ⟨K2, kn2, kc2, V2, vn2, vc2, rfl, rfl, rfl, rfl, o1.mono q6, o2.mono q6, hwf⟩
      have HOF : Hid (OffW [.slice K2 kn2 kc2, .int .u64 (x.seq : Int), .int .u8 (x.kind : Int), .slice V2 vn2 vc2] (blk L)) := Lib.hid (EO.off (base := U0.heap.size) (w := w2) (e := x) ⟨K2, kn2, kc2, V2, vn2, vc2, rfl, rfl, rfl, rfl, o1, o2, hwf⟩ (fun g hg => .inl (q1.lt g hg).2))
      have HB2 := Lib.hid b2
      have Q1 := Lib.hid q1
      have Q2 := Lib.hid q2
      have Q3 := Lib.hid q3
      have Q4 := Lib.hid q4
      have Q5 := Lib.hid q5
      have hcell : ∀ u ∈ [Value.slice K2 kn2 kc2, .int .u64 (x.seq : Int), .int .u8 (x.kind : Int), .slice V2 vn2 vc2], u.oneCell' = true := HEO.out.ev.cells
      have HCL := Lib.hid hcell
      clear o1 o2 b2 q1 q2 q3 q4 q5 q7 dj hcell m0 m1 m2 m3 z0 z1 z2 z3
      go_wp2_with (at_builtin; refine wpList_app4t w2 rfl _ _ 22 rfl w.heap.size _ 64 Try.underlying22 info_ent rfl L k d vs rfl (Q1.out.below HB2.out) _ _ _ _ HCL.out w2.heap.size rfl rfl ?_ ?_ ?_ ?_)
      · omega
      · omega
      · omega
      intro L2 d2 w4 hG4 hg4 hb4
      have HQ : Hid (RowE w w.heap.size L2 (k + 1) d2 (es.take (k + 1)) w4) := Lib.hid (by
        rw [List.take_add_one, HXK.out]
        exact rowE_snoc Q1.out Q2.out Q3.out Q4.out Q5.out q6 Q7.out HB2.out HEO.out HOF.out HFM.out hG4 hg4 hb4)
      clear hG4 hg4 hb4
      go_wp2_with fail
      go_roundw
      case rel => exact ⟨k + 1, d2, L2, by omega, by go_num, rfl, HQ.out⟩
      case measure => simp [intOf]; omega
    · obtain rfl : k = n := by omega
      have htk := take_all HL.out hlt
      rw [htk] at HR
      clear htk
      go_wp2
      go_ret
      exact ⟨L, k, d, rfl, HR.out⟩
end
end Go.Proofs.Ytcclhkoggijkaaa
namespace Go.Proofs.Ytcclhkoggijkaaa
open Go Go.RowKit

/-- One entry more appended onto a row of entries, at a step of a region that draws its order. -/
theorem step_app4 {P : Program} (w : World) {ops : Array Oper} {o : Oper} {a : Act} {K : Act → World → Prop} {Q : Exit → Act → World → Prop} {E : Prop} (hgd : o.guard = none) (s x : Operand) (tt : TypeId)
    (ho : o.op = .call { callee := .builtin .append, args := #[s, x], argTypes := #[tt, tt] })
    (base : Nat) (z : Value) (by_ : Nat) (ht : P.underlying tt = some (.slice 37)) (hi : (P.info? 37).map (fun i => (i.zero, i.size, i.bytes)) = some (some z, 4, by_)) (hz1 : z.cells.size = 4)
    (A : Option Addr) (n c : Nat) (vs : List Value) (hs : a.eval s = .slice A n c) (hown : OwnE w base A n c vs)
    (ad : Addr) (m d : Nat) (ys : List Value) (hx : a.eval x = .slice (some ad) m d) (hr : RdV w (some ad) (m * 4) ys) (hm : 0 < m) (h1 : ∀ u ∈ ys, u.oneCell' = true)
    (hn : n + m ≤ maxLen) (hby : (n + m) * by_ ≤ 140737488355328) (hbase : base ≤ w.heap.size)
    (h : ∀ A' c' w', OwnE w' base A' (n + m) c' (vs ++ ys) → w.grownBy w' (blk A) → K (a.put o.dst (.slice A' (n + m) c')) w') :
    if Region.wanted o (yielded ops a.tmps) = true then Oper.wp P o a w K Q else E := by
  have hw : Region.wanted o (yielded ops a.tmps) = true := by simp [Region.wanted, hgd]
  rw [if_pos hw]
  obtain ⟨i, hi, hz, hsz, hby2⟩ := info_parts hi
  obtain ⟨b, off, e, _, hc⟩ := hr.2 (by omega)
  injection e with e
  subst e
  refine wp_append_own w s x tt ho base 37 i z 4 by_ ht hi hz hsz hby2 hz1 (by decide) (.slice A n c) n vs hs hown ⟨b, off, none⟩ m d ys hx hr.1 (fun j u hj => by rw [Addr.add_lit]; exact hc j u hj) h1 hn hby hbase ?_
  intro v' w' k1 k2 _
  obtain ⟨A', c', rfl⟩ : ∃ A' c', v' = .slice A' (n + m) c' := by
    rcases k1.2 with ⟨h3, h4⟩ | ⟨g, cap, cur, h3, _⟩
    · exact ⟨none, 0, by rw [h3, h4]⟩
    · exact ⟨_, _, h3⟩
  rw [own_blk] at k2
  exact h A' c' w' k1 k2
/-- Rows of other kinds lie in other blocks than an entry's bytes. -/
theorem eos_off {base : Nat} {w : World} {t : TypeId} {s b1 n c j : Nat} {L : Option Addr} {us : List Value} (k : w.ownsRow b1 t s (.slice L n c) j us) (hne : t ≠ 5) : ∀ {es : List En} {vs : List Value}, EOs base w es vs → OffW vs (blk L)
  | [], _, h => by rw [show _ = [] from h]; exact OffW.nil _
  | e :: es, vs, h => fun g hg A m d hv => by
    obtain ⟨v0, v1, v2, v3, r, rfl, ⟨K, kn, kc, V, vn, vc, rfl, rfl, rfl, rfl, o1, o2, _⟩, h2⟩ := h
    have ih := eos_off k hne h2 g hg A m d
    simp only [List.mem_cons] at hv
    rcases hv with e | e | e | e | e
    · injection e with e1 e2 e3
      rw [e1]
      exact fun h => row_ne k o1 hne g hg h
    · cases e
    · cases e
    · injection e with e1 e2 e3
      rw [e1]
      exact fun h => row_ne k o2 hne g hg h
    · exact ih e
end Go.Proofs.Ytcclhkoggijkaaa
namespace Go.Proofs.Ytcclhkoggijkaaa
open Go Go.RowKit

theorem szL_take (es : List En) (k : Nat) : szL (es.take k) ≤ szL es := by
  have := szL_app (es.take k) (es.drop k)
  rw [List.take_append_drop] at this
  omega
theorem szL_snoc {es : List En} {k : Nat} {x : En} (h : es[k]? = some x) : szL (es.take (k + 1)) = szL (es.take k) + wE x := by
  rw [List.take_add_one, h, szL_app]
  simp [szL]
theorem grow_set {w w' : World} {row : Option Nat} (h : w.grownBy w' row) (p : Nat) (i : Nat) (v : Value) (hp : row = some p) : w.grownBy (World.setCell w' ⟨p, i, none⟩ v) row := by
  obtain ⟨h1, h2, h3, h4, h5⟩ := h
  have k := (Below.refl p w').setCell (p := ⟨p, i, none⟩) (Nat.le_refl _) v
  exact ⟨k.os.trans h1, k.tape.trans h2, k.output.trans h3, Nat.le_trans h4 k.size, fun b hb hne => by
    have hbp : b ≠ p := fun e => hne (by rw [e]; exact hp.symm)
    rw [heap_setCell_other _ _ _ _ hbp]
    exact h5 b hb hne⟩
end Go.Proofs.Ytcclhkoggijkaaa
namespace Go.Proofs.Ytcclhkoggijkaaa
open Go Go.RowKit

theorem ownV_box8 (w : World) (t : TypeId) (base : Nat) (vs : List Value) (n : Nat) (hl : vs.length = n) (hn : n ≤ 1024) (hb : base ≤ w.heap.size) (cs : Array Value) (hc : cs = vs.toArray) (g : Nat) (hg : g = w.heap.size) : OwnV t (w.alloc (.cells cs t)) base (some ⟨g, 0, none⟩) n n vs := by
  subst hc hg
  refine ⟨by simp [hl], .inr ⟨w.heap.size, n, vs.toArray, rfl, hb, heap_alloc_new w _, Nat.le_refl _, by unfold maxLen; omega, by simp [hl], ?_⟩⟩
  simp only [Nat.mul_one]
  exact List.take_of_length_le (by simp [hl])
theorem Rd.cst8 (w : World) (e : TypeId) (n : Nat) (xs : List UInt8) (hn : xs.length = n) (vs : Array Value) (hv : vs = (xs.map cv).toArray) (fr : Nat × Nat) (g : Nat) (hg : g = w.heap.size) :
    Rd (w.alloc (.cells vs e fr)) (some ⟨g, 0, none⟩) n xs := by
  subst hv hg
  refine ⟨hn, fun _ => ⟨w.heap.size, 0, rfl, by simp, fun i x hx => ?_⟩⟩
  have h := cell_of_row (w.alloc (.cells (xs.map cv).toArray e fr)) w.heap.size (0 + i) (xs.map cv).toArray e fr (heap_alloc_new w _)
  rw [h]
  simp [hx, cv]

def e81 : En := ⟨[97, 98], 5, 1, [120]⟩
def e82 : En := ⟨[97, 98, 99], 7, 2, []⟩
theorem b8 : (buildE 2 [e81, e82]).2 = 0 ∧ (buildE 2 [e81, e82]).1.length = 30 ∧ (buildE 2 [e81, e82]).1[8]? = some 0 ∧ (buildE 2 [e81, e82]).1[9]? = some 2 ∧ (buildE 2 [e81, e82]).1[10]? = some 5 ∧ (buildE 2 [e81, e82]).1[16]? = some 2 ∧ (buildE 2 [e81, e82]).1[17]? = some 1 ∧ (buildE 2 [e81, e82]).1[18]? = some 7 := by decide +kernel
end Go.Proofs.Ytcclhkoggijkaaa
namespace Go.Proofs.Ytcclhkoggijkaaa
open Go Go.RowKit

theorem insAll_ref : ∀ (xs : List En) {t : Tr}, SortL t.list → (∀ t', insAll t xs = some t' → refIns t.list xs = some t'.list ∧ SortL t'.list) ∧ (insAll t xs = none → refIns t.list xs = none)
  | [], t, hs => by
    refine ⟨fun t' h => ?_, fun h => ?_⟩
    · injection h with h
      subst h
      exact ⟨rfl, hs⟩
    · cases h
  | x :: xs, t, hs => by
    unfold insAll refIns
    cases hw : withT x t with
    | none =>
      refine ⟨fun t' h => (by cases h), fun _ => ?_⟩
      rw [withT_none hw]
      rfl
    | some t1 =>
      obtain ⟨e1, e2, e3⟩ := withT_ins hs hw
      obtain ⟨h1, h2⟩ := insAll_ref xs e3
      rw [e2, ← e1]
      exact ⟨fun t' h => h1 t' h, fun h => h2 h⟩
theorem num_list : ∀ t : Tr, t.num = t.list.length
  | .nil => rfl
  | .node l e r => by
    rw [Tr.num, Tr.list, List.length_append, List.length_cons, num_list l, num_list r]
    omega
theorem sortL_nil : SortL Tr.nil.list := List.Pairwise.nil
end Go.Proofs.Ytcclhkoggijkaaa
namespace Go.Proofs.Ytcclhkoggijkaaa
open Go Go.RowKit

/-- The error of one list. -/
def chk1 (es : List En) : Int := if checkE es ≠ 0 then checkE es else if ordE es then 0 else 3
/-- The least of two errors. -/
def comb (a b : Int) : Int := if b ≠ 0 ∧ (a = 0 ∨ b < a) then b else a
/-- The least error of lists. -/
def chkL (ls : List (List En)) : Int := ls.foldl (fun a x => comb a (chk1 x)) 0
theorem checkE_kinds (es : List En) : checkE es = 0 ∨ checkE es = 2 ∨ checkE es = 3 := by
  unfold checkE
  split
  · exact .inr (.inl rfl)
  · split
    · exact .inl rfl
    · exact .inr (.inr rfl)
theorem chk1_kinds (es : List En) : chk1 es = 0 ∨ chk1 es = 2 ∨ chk1 es = 3 := by
  unfold chk1
  split
  · exact checkE_kinds es
  · split
    · exact .inl rfl
    · exact .inr (.inr rfl)
theorem comb_kinds {a b : Int} (ha : a = 0 ∨ a = 2 ∨ a = 3) (hb : b = 0 ∨ b = 2 ∨ b = 3) : comb a b = 0 ∨ comb a b = 2 ∨ comb a b = 3 := by
  unfold comb
  split
  · exact hb
  · exact ha
theorem comb_two {a : Int} (ha : a = 0 ∨ a = 2 ∨ a = 3) : comb a 2 = 2 := by
  rcases ha with rfl | rfl | rfl <;> rfl
theorem two_comb {b : Int} (hb : b = 0 ∨ b = 2 ∨ b = 3) : comb 2 b = 2 := by
  rcases hb with rfl | rfl | rfl <;> rfl
theorem foldl_two : ∀ ls : List (List En), ls.foldl (fun a x => comb a (chk1 x)) 2 = 2
  | [] => rfl
  | x :: t => by rw [List.foldl_cons, two_comb (chk1_kinds x)]; exact foldl_two t
theorem chkL_snoc {ls : List (List En)} {k : Nat} {x : List En} (h : ls[k]? = some x) : chkL (ls.take (k + 1)) = comb (chkL (ls.take k)) (chk1 x) := by
  unfold chkL
  rw [List.take_add_one, h, List.foldl_append]
  rfl
theorem foldl_kinds : ∀ (ls : List (List En)) {a : Int}, (a = 0 ∨ a = 2 ∨ a = 3) → (ls.foldl (fun a x => comb a (chk1 x)) a = 0 ∨ ls.foldl (fun a x => comb a (chk1 x)) a = 2 ∨ ls.foldl (fun a x => comb a (chk1 x)) a = 3)
  | [], _, h => h
  | x :: t, _, h => by rw [List.foldl_cons]; exact foldl_kinds t (comb_kinds h (chk1_kinds x))
theorem chkL_kinds (ls : List (List En)) : chkL ls = 0 ∨ chkL ls = 2 ∨ chkL ls = 3 := foldl_kinds ls (.inl rfl)
theorem chkL_two {ls : List (List En)} {k : Nat} {x : List En} (h : ls[k]? = some x) (hx : chk1 x = 2) : chkL ls = 2 := by
  have e : ls = ls.take (k + 1) ++ ls.drop (k + 1) := (List.take_append_drop _ _).symm
  have h2 : chkL (ls.take (k + 1)) = 2 := by rw [chkL_snoc h, hx]; exact comb_two (chkL_kinds _)
  have h3 : chkL ls = (ls.drop (k + 1)).foldl (fun a x => comb a (chk1 x)) (chkL (ls.take (k + 1))) := by
    unfold chkL
    rw [← List.foldl_append, List.take_append_drop]
  rw [h3, h2]
  exact foldl_two _
theorem chkL_one (es : List En) : chkL [es] = chk1 es := by
  show comb 0 (chk1 es) = chk1 es
  rcases chk1_kinds es with h | h | h <;> rw [h] <;> rfl
theorem RLs.below {w w' : World} {A : Option Addr} {n : Nat} {ls : List (List En)} (h : RLs w A n ls) (hb : Below w.heap.size w w') : RLs w' A n ls := by
  refine ⟨h.1, fun h0 => ?_⟩
  obtain ⟨b, off, e, hbl, hc⟩ := h.2 h0
  refine ⟨b, off, e, Nat.lt_of_lt_of_le hbl hb.size, fun i es hi => ?_⟩
  obtain ⟨B, m, c, h1, h2, h3⟩ := hc i es hi
  exact ⟨B, m, c, (hb.cell (p := ⟨b, off + i, none⟩) hbl).trans h1, h2.below hb, h3⟩
theorem RLs.len {w : World} {A : Option Addr} {n : Nat} {ls : List (List En)} (h : RLs w A n ls) : ls.length = n := h.1
section
variable {w : World} {A : Option Addr} {n c : Nat} {ls : List (List En)}
set_option maxRecDepth 100000 in
set_option maxHeartbeats 8000000 in
theorem mgCheck_any (h : RLs w A n ls) (hn : n ≤ 1099511627776) (hs : ∀ es ∈ ls, es.length ≤ 1099511627776) : Calls Try.prog 130 #[.slice A n c] w (RetNu w (chkL ls)) := by
  have HL := Lib.hid h.len
  have HS := Lib.hid hs
  have HR := Lib.hid h
  clear h hs
  go_enter Try.func130, Try.ntmps130
  go_wp2_with fail
  go_loopw [3, 9] (fun s3 s9 wr => ∃ (k : Nat) (z : Int), k ≤ n ∧ s9 = .int .i64 (k : Int) ∧ s3 = .int .i64 z ∧ (z = 0 ∨ z = 3) ∧ chkL (ls.take k) = z ∧ Below w.heap.size w wr) (fun _ s _ => n - (intOf s).toNat)
  case atStart => exact ⟨0, 0, Nat.zero_le _, rfl, rfl, .inl rfl, rfl, Below.refl _ _⟩
  case round =>
    obtain ⟨k, z, hk, rfl, rfl, hz, hc, hB⟩ := hrel
    have HB := Lib.hid hB
    have HC := Lib.hid hc
    have HZ := Lib.hid hz
    have hR := HR.out.below hB
    clear hB hc hz
    by_cases hlt : k < n
    · obtain ⟨b, off, hAb, hbl⟩ := hR.pos (by omega)
      subst hAb
      obtain ⟨es, B, m, d, hx, c0, hre, hmd⟩ := hR.at_ k hlt
      have hme : m ≤ 1099511627776 := by have := HS.out es (List.mem_of_getElem? hx); rw [← hre.len]; exact this
      have HXK := Lib.hid hx
      obtain ⟨e1, he1⟩ : ∃ e1, e1 = checkE es := ⟨_, rfl⟩
      have HM : Hid (Calls Try.prog 53 #[.slice B m d] wr (RetNu wr e1)) := Lib.hid (by rw [he1]; exact memCheck_any hre hme)
      obtain ⟨z1, hz1⟩ : ∃ z1, z1 = ordE es := ⟨_, rfl⟩
      have HO : Hid (∀ wx, Below wr.heap.size wr wx → Calls Try.prog 165 #[.slice B m d] wx (RetT wx z1)) := Lib.hid (fun wx hb => by rw [hz1]; exact mgInOrder_any (hre.below hb) hme)
      have hk1 := checkE_kinds es
      rw [← he1] at hk1
      have HST := Lib.hid (chkL_snoc hx)
      have H1 : Hid (chk1 es = if e1 ≠ 0 then e1 else if z1 then 0 else 3) := Lib.hid (by unfold chk1; rw [he1, hz1])
      have HTW := Lib.hid (fun hh => chkL_two hx hh)
      clear hR hx hre he1 hz1
      go_wp2_with fail
      with_reducible refine HM.out.mono ?_
      rintro e w1 ⟨rfl, b1⟩
      have B1 := Lib.hid (HB.out.trans (b1.mono HB.out.size))
      have H1B := Lib.hid b1
      clear b1
      rcases hk1 with rfl | rfl | rfl
      · have HOC := Lib.hid (HO.out _ H1B.out)
        cases z1 with
        | true =>
          have HC2 : Hid (chkL (ls.take (k + 1)) = z) := Lib.hid (by rw [HST.out, HC.out, H1.out]; rcases HZ.out with rfl | rfl <;> rfl)
          go_wp2_with fail
          with_reducible refine HOC.out.mono ?_
          intro e w2 hq
          obtain ⟨h2, b2⟩ := RetT.outD hq
          subst h2
          have B2 := Lib.hid (belowT' B1.out b2)
          clear hq b2
          go_wp2_with fail
          go_roundw
          case rel => exact ⟨k + 1, z, by omega, by go_num, rfl, HZ.out, HC2.out, B2.out⟩
          case measure => simp [intOf]; omega
        | false =>
          have HC2 : Hid (chkL (ls.take (k + 1)) = 3) := Lib.hid (by rw [HST.out, HC.out, H1.out]; rcases HZ.out with rfl | rfl <;> rfl)
          go_wp2_with fail
          with_reducible refine HOC.out.mono ?_
          intro e w2 hq
          obtain ⟨h2, b2⟩ := RetT.outD hq
          subst h2
          have B2 := Lib.hid (belowT' B1.out b2)
          clear hq b2
          go_wp2_with fail
          go_roundw
          case rel => exact ⟨k + 1, 3, by omega, by go_num, rfl, .inr rfl, HC2.out, B2.out⟩
          case measure => simp [intOf]; omega
      · have HF : Hid (chkL ls = 2) := Lib.hid (HTW.out (by rw [H1.out]; rfl))
        go_wp2_with fail
        go_ret
        exact ⟨by rw [HF.out]; rfl, B1.out⟩
      · have HC2 : Hid (chkL (ls.take (k + 1)) = 3) := Lib.hid (by rw [HST.out, HC.out, H1.out]; rcases HZ.out with rfl | rfl <;> rfl)
        go_wp2_with fail
        go_roundw
        case rel => exact ⟨k + 1, 3, by omega, by go_num, rfl, .inr rfl, HC2.out, B1.out⟩
        case measure => simp [intOf]; omega
    · have htk : ls.take k = ls := List.take_of_length_le (by have := HL.out; omega)
      rw [htk] at HC
      clear htk hR
      go_wp2_with fail
      go_ret
      exact ⟨by rw [HC.out]; rfl, HB.out⟩
set_option maxRecDepth 100000 in
set_option maxHeartbeats 8000000 in
theorem refCheck11_any (h : RLs w A n ls) (hn : n ≤ 1099511627776) (hs : ∀ es ∈ ls, es.length ≤ 1099511627776) (hz : ∀ es ∈ ls, ∀ x ∈ es, SzE x) : Calls Try.prog 28 #[.slice A n c] w (RetNu w (chkL ls)) := by
  have HL := Lib.hid h.len
  have HS := Lib.hid hs
  have HR := Lib.hid h
  have HZZ := Lib.hid hz
  clear h hs hz
  go_enter Try.func28, Try.ntmps28
  go_wp2_with fail
  go_loopw [3, 4] (fun s3 s4 wr => ∃ (k : Nat) (z : Int), k ≤ n ∧ s4 = .int .i64 (k : Int) ∧ s3 = .int .i64 z ∧ chkL (ls.take k) = z ∧ Below w.heap.size w wr) (fun _ s _ => n - (intOf s).toNat)
  case atStart => exact ⟨0, 0, Nat.zero_le _, rfl, rfl, rfl, Below.refl _ _⟩
  case round =>
    obtain ⟨k, z, hk, rfl, rfl, hc, hB⟩ := hrel
    have HB := Lib.hid hB
    have hz := chkL_kinds (ls.take k)
    rw [hc] at hz
    have HC := Lib.hid hc
    have hR := HR.out.below hB
    clear hB hc
    by_cases hlt : k < n
    · obtain ⟨b, off, hAb, hbl⟩ := hR.pos (by omega)
      subst hAb
      obtain ⟨es, B, m, d, hx, c0, hre, hmd⟩ := hR.at_ k hlt
      have hme : m ≤ 1099511627776 := by have := HS.out es (List.mem_of_getElem? hx); rw [← hre.len]; exact this
      have HXK := Lib.hid hx
      obtain ⟨e1, he1⟩ : ∃ e1, e1 = checkE es := ⟨_, rfl⟩
      have HM : Hid (Calls Try.prog 59 #[.slice B m d] wr (RetNu wr e1)) := Lib.hid (by rw [he1]; exact refCheck_any hre hme (HZZ.out es (List.mem_of_getElem? hx)))
      obtain ⟨z1, hz1⟩ : ∃ z1, z1 = ordE es := ⟨_, rfl⟩
      have HO : Hid (∀ wx, Below wr.heap.size wr wx → Calls Try.prog 60 #[.slice B m d] wx (RetT wx z1)) := Lib.hid (fun wx hb => by rw [hz1]; exact ordered_any (hre.below hb) hme (HZZ.out es (List.mem_of_getElem? hx)))
      have HC0 : Hid (∀ wx, Below wr.heap.size wr wx → wx.cell? ⟨b, off + k, none⟩ = some (.slice B m d)) := Lib.hid (fun wx hb => (hb.cell (p := ⟨b, off + k, none⟩) hbl).trans c0)
      have hk1 := checkE_kinds es
      rw [← he1] at hk1
      have HST := Lib.hid (chkL_snoc hx)
      have H1 : Hid (chk1 es = if e1 ≠ 0 then e1 else if z1 then 0 else 3) := Lib.hid (by unfold chk1; rw [he1, hz1])
      clear hR hx hre he1 hz1
      go_wp2_with fail
      with_reducible refine HM.out.mono ?_
      rintro e w1 ⟨rfl, b1⟩
      have B1 := Lib.hid (HB.out.trans (b1.mono HB.out.size))
      have H1B := Lib.hid b1
      have d0 := HC0.out _ b1
      clear b1 c0
      rcases hk1 with rfl | rfl | rfl
      · have HOC := Lib.hid (HO.out _ H1B.out)
        cases z1 with
        | true =>
          have HC2 : Hid (chkL (ls.take (k + 1)) = z) := Lib.hid (by rw [HST.out, HC.out, H1.out]; rcases hz with rfl | rfl | rfl <;> rfl)
          go_wp2_with fail
          with_reducible refine HOC.out.mono ?_
          intro e w2 hq
          obtain ⟨h2, b2⟩ := RetT.outD hq
          subst h2
          have B2 := Lib.hid (belowT' B1.out b2)
          clear hq b2 d0
          go_wp2_with fail
          go_roundw
          case rel => exact ⟨k + 1, z, by omega, by go_num, rfl, HC2.out, B2.out⟩
          case measure => simp [intOf]; omega
        | false =>
          go_wp2_with fail
          with_reducible refine HOC.out.mono ?_
          intro e w2 hq
          obtain ⟨h2, b2⟩ := RetT.outD hq
          subst h2
          have B2 := Lib.hid (belowT' B1.out b2)
          clear hq b2 d0
          have HC2 := HST.out
          rw [HC.out, H1.out] at HC2
          have HC3 := Lib.hid HC2
          clear HC2
          rcases hz with rfl | rfl | rfl
          all_goals
            go_wp2_with fail
            go_roundw
            case rel => exact ⟨k + 1, _, by omega, by go_num, rfl, HC3.out, B2.out⟩
            case measure => simp [intOf]; omega
      all_goals
        have HC2 := HST.out
        rw [HC.out, H1.out] at HC2
        have HC3 := Lib.hid HC2
        clear HC2 d0
        rcases hz with rfl | rfl | rfl
        all_goals
          go_wp2_with fail
          go_roundw
          case rel => exact ⟨k + 1, _, by omega, by go_num, rfl, HC3.out, B1.out⟩
          case measure => simp [intOf]; omega
    · have htk : ls.take k = ls := List.take_of_length_le (by have := HL.out; omega)
      rw [htk] at HC
      clear htk hR
      go_wp2_with fail
      go_ret
      exact ⟨by rw [HC.out]; rfl, HB.out⟩
end
end Go.Proofs.Ytcclhkoggijkaaa
namespace Go.Proofs.Ytcclhkoggijkaaa
open Go Go.RowKit

/-- The first entry of a tree that doesn't stand ahead of x; else f. -/
def firstT (x : En) : Tr → Option En → Option En
  | .nil, f => f
  | .node l e r, f => if lessE e x then firstT x r f else firstT x l (some e)
/-- 'The pointer F leads to this entry; or it is nil, and there is none.' -/
def FP (G : Nat → Prop) (w : World) : Option En → Option Addr → Prop
  | none, F => F = none
  | some e, F => ∃ p, F = some ⟨p, 0, none⟩ ∧ EB G w e p
theorem FP.below {G : Nat → Prop} {w w' : World} (hb : Below w.heap.size w w') : ∀ {o : Option En} {F : Option Addr}, FP G w o F → FP G w' o F
  | none, _, h => h
  | some _, _, ⟨p, h1, h2⟩ => ⟨p, h1, h2.below hb⟩
def RetFst (G : Nat → Prop) (w : World) (o : Option En) (e : Ending) (w' : World) : Prop := ∃ F, e = .returned (.pointer F) ∧ FP G w' o F ∧ Below w.heap.size w w'
theorem RetFst.out {G : Nat → Prop} {w : World} {o : Option En} {e : Ending} {w' : World} (h : RetFst G w o e w') : ∃ F, e = .returned (.pointer F) ∧ FP G w' o F ∧ Below w.heap.size w w' := h
end Go.Proofs.Ytcclhkoggijkaaa
namespace Go.Proofs.Ytcclhkoggijkaaa
end Go.Proofs.Ytcclhkoggijkaaa
namespace Go.Proofs.Ytcclhkoggijkaaa
open Go Go.RowKit

def bsM (xs : List UInt8) : ByteArray := ⟨⟨xs⟩⟩
theorem conv_any {w : World} {n c : Nat} {A : Option Addr} {xs : List UInt8} (h : Rd w A n xs) : (convert 25 9 (.slice A n c)).run Try.prog w = .ok (.string (bsM xs)) w := by
  rcases Nat.eq_zero_or_pos n with hn | hn
  · subst hn
    have hx : xs = [] := List.eq_nil_of_length_eq_zero h.1
    subst hx
    cases A with
    | none =>
      rw [run_convert_bytes_nil w 25 5 Try.underlying25 Try.underlying5 0 c 9 Try.underlying9]
      rfl
    | some a =>
      rw [run_convert_bytes_string w 25 9 5 (some a) 0 c Try.underlying25 Try.underlying5 Try.underlying9,
        run_bytesToString w a 0 c [] (run_loadCells_list (P := Try.prog) w a [] (fun j v hj => by simp at hj))]
      rfl
  · obtain ⟨b, off, rfl, _⟩ := h.pos hn
    rw [run_convert_bytes_arg w 25 5 Try.underlying25 Try.underlying5 b off n c (xs.map fun x => (x.toNat : Int)) (by simpa using h.len) ?_ 9 Try.underlying9]
    · congr 2
      unfold strOfNums bsM
      congr 2
      rw [List.map_map]
      conv => rhs; rw [← List.map_id xs]
      apply List.map_congr_left
      intro x _
      simp
    · intro i hi
      obtain ⟨x, hx, hc, _⟩ := h.at_ i hi
      rw [hc]
      simp [List.getD, List.getElem?_map, hx]
set_option maxRecDepth 100000 in
theorem mgEqual_any (A B : Option Addr) (n m c d : Nat) (xs ys : List UInt8) (w : World) (hx : Rd w A n xs) (hy : Rd w B m ys) :
    Calls Try.prog 71 #[.slice A n c, .slice B m d] w (fun e w' => e = .returned (.bool (eqB xs ys)) ∧ w' = w) := by
  have k1 := conv_any (c := c) hx
  have k2 := conv_any (c := d) hy
  have hb : ((bsM xs).toList == (bsM ys).toList) = eqB xs ys := by rw [ByteArray.toList_eq, ByteArray.toList_eq]; rfl
  have HB := Lib.hid hb
  clear hb hx hy
  go_enter Try.func71, Try.ntmps71
  go_wp2_with fail
  go_ret
  exact ⟨by rw [← HB.out]; rfl, rfl⟩
/-- The Seq of the next newer version of the i-th entry's key. -/
def newerE (es : List En) : Nat → Option Nat
  | 0 => none
  | j + 1 => match es[j]?, es[j + 1]? with
    | some a, some b => if eqB a.key b.key then some a.seq else none
    | _, _ => none
theorem newerE_at {es : List En} {j : Nat} {a b : En} (h1 : es[j]? = some a) (h2 : es[j + 1]? = some b) : newerE es (j + 1) = if eqB a.key b.key then some a.seq else none := by
  rw [newerE, h1, h2]
/-- What newer hands back. -/
def RetNw (w : World) (o : Option Nat) (e : Ending) (w' : World) : Prop := e = .returned (.tuple #[.int .u64 ((o.getD 0 : Nat) : Int), .bool o.isSome]) ∧ ∃ q, w' = w.drewN q
section
variable {w : World} {A : Option Addr} {n c : Nat} {es : List En}
set_option maxRecDepth 100000 in
set_option maxHeartbeats 4000000 in
theorem mgNewer_any (h : REs w A n es) (hn : n ≤ 1099511627776) (i : Nat) (hi : i < n) : Calls Try.prog 133 #[.slice A n c, .int .i64 (i : Int)] w (RetNw w (newerE es i)) := by
  cases i with
  | zero =>
    obtain ⟨b, off, rfl, hbl⟩ := h.pos (by omega)
    have HH := Lib.hid h
    clear h
    go_enter Try.func133, Try.ntmps133
    go_wp2_with fail
    go_quiet (fail)
    go_wp2_with fail
    exact bodyPost_ret (v := .tuple #[.int .u64 0, .bool false]) (by simp [results, Try.f133, go_sem]; try rfl) rfl ⟨rfl, _, rfl⟩
  | succ j =>
    obtain ⟨b, off, rfl, hbl⟩ := h.pos (by omega)
    obtain ⟨x, v0, v1, v2, v3, hx, c0, c1, c2, c3, hev⟩ := h.at_ j (by omega)
    obtain ⟨y, u0, u1, u2, u3, hy, d0, d1, d2, d3, hew⟩ := h.at_ (j + 1) hi
    obtain ⟨K, kn, kc, V, vn, vc, rfl, rfl, rfl, rfl, r0, _⟩ := hev.parts
    obtain ⟨L, ln, lc, M, mn, mc, rfl, rfl, rfl, rfl, q0, _⟩ := hew.parts
    obtain ⟨k, hk⟩ : ∃ k, k = j + 1 := ⟨_, rfl⟩
    have hnw := newerE_at hx hy
    rw [← hk] at hnw d0 d1 d2 d3 hi ⊢
    obtain ⟨z, hz⟩ : ∃ z, z = eqB x.key y.key := ⟨_, rfl⟩
    rw [← hz] at hnw
    have HE : Hid (∀ q, Calls Try.prog 71 #[.slice K kn kc, .slice L ln lc] (w.drewN q) (fun e w' => e = .returned (.bool z) ∧ w' = w.drewN q)) := Lib.hid (fun q => by rw [hz]; exact mgEqual_any _ _ _ _ _ _ _ _ _ (r0.drewN q) (q0.drewN q))
    have HN := Lib.hid hnw
    have t1 : ((k : Int) == 0) = false := by rw [beq_eq_false_iff_ne]; omega
    have hk1 : IntKind.i64.wrap ((k : Int) - 1) = (j : Int) := by rw [IntWalk.i64_in _ (by omega)]; omega
    have hjn : j < n := by omega
    clear h hx hy hev hew r0 q0 hz hnw hk
    cases z with
    | true =>
      go_enter Try.func133, Try.ntmps133
      go_wp2_with fail
      go_quiet ((go_at_call 71; with_reducible exact Calls.quiet_of_same (HE.out _)))
      go_wp2_with fail
      exact bodyPost_ret (v := .tuple #[.int .u64 (x.seq : Int), .bool true]) (by simp [results, Try.f133, go_sem]; try rfl) rfl ⟨by rw [HN.out]; rfl, _, rfl⟩
    | false =>
      go_enter Try.func133, Try.ntmps133
      go_wp2_with fail
      go_quiet ((go_at_call 71; with_reducible exact Calls.quiet_of_same (HE.out _)))
      go_wp2_with fail
      exact bodyPost_ret (v := .tuple #[.int .u64 0, .bool false]) (by simp [results, Try.f133, go_sem]; try rfl) rfl ⟨by rw [HN.out]; rfl, _, rfl⟩
end
end Go.Proofs.Ytcclhkoggijkaaa
namespace Go.Proofs.Ytcclhkoggijkaaa
open Go Go.RowKit

theorem firstT_mem {x e : En} : ∀ {t : Tr} {f : Option En}, firstT x t f = some e → e ∈ t.list ∨ f = some e
  | .nil, f, h => .inr h
  | .node l y r, f, h => by
    unfold firstT at h
    split at h
    · rcases firstT_mem h with q | q
      · exact .inl (by simp [Tr.list, q])
      · exact .inr q
    · rcases firstT_mem h with q | q
      · exact .inl (by simp [Tr.list, q])
      · injection q with q
        exact .inl (by simp [Tr.list, q])
def tabGet (t : Tr) (key : List UInt8) (at_ : Nat) : Option En := keyed key (firstT ⟨key, at_, 0, []⟩ t none)
def RetGt (w : World) (o : Option En) (e : Ending) (w' : World) : Prop :=
  (o = none ∧ e = .returned (.tuple #[.agg #[.slice none 0 0, .int .u64 0, .int .u8 0, .slice none 0 0], .bool false]) ∧ Below w.heap.size w w') ∨
  ∃ x K kn kc V vn vc, o = some x ∧ e = .returned (.tuple #[.agg #[.slice K kn kc, .int .u64 (x.seq : Int), .int .u8 (x.kind : Int), .slice V vn vc], .bool true]) ∧ Own 5 w' w.heap.size K kn kc x.key ∧ Own 5 w' w.heap.size V vn vc x.val ∧ Below w.heap.size w w' ∧ Dj K V
end Go.Proofs.Ytcclhkoggijkaaa
namespace Go.Proofs.Ytcclhkoggijkaaa
open Go Go.RowKit

/-- A number as a value. -/
def uv (m : Nat) : Value := .int .u64 (m : Int)
/-- 'The slice of n numbers at A reads as these.' -/
def RdU (w : World) (A : Option Addr) (n : Nat) (ms : List Nat) : Prop := RdV w A n (ms.map uv) ∧ ∀ m ∈ ms, U64 m
theorem RdU.len {w : World} {A : Option Addr} {n : Nat} {ms : List Nat} (h : RdU w A n ms) : ms.length = n := by
  have := h.1.1
  simpa using this
theorem RdU.below {w w' : World} {A : Option Addr} {n : Nat} {ms : List Nat} (h : RdU w A n ms) (hb : Below w.heap.size w w') : RdU w' A n ms := ⟨h.1.below hb, h.2⟩
theorem RdU.drewN {w : World} {A : Option Addr} {n : Nat} {ms : List Nat} (h : RdU w A n ms) (q : Nat) : RdU (w.drewN q) A n ms := h.below (below_drewN (Below.refl _ _) q)
theorem RdU.at_ {w : World} {b off n : Nat} {ms : List Nat} (h : RdU w (some ⟨b, off, none⟩) n ms) (k : Nat) (hk : k < n) : ∃ m, ms[k]? = some m ∧ w.cell? ⟨b, off + k, none⟩ = some (.int .u64 (m : Int)) ∧ U64 m := by
  obtain ⟨v, h1, h2⟩ := h.1.at_ k hk
  rw [List.getElem?_map] at h1
  cases hm : ms[k]? with
  | none => rw [hm] at h1; cases h1
  | some m =>
    rw [hm] at h1
    injection h1 with h1
    exact ⟨m, rfl, by rw [h2, ← h1]; rfl, h.2 m (List.mem_of_getElem? hm)⟩
set_option maxRecDepth 100000 in
theorem isNaNc_any (x : Nat) (w : World) : Calls Try.prog 184 #[.int .u64 (x : Int)] w (fun e w' => e = .returned (.bool false) ∧ w' = w) := by
  go_enter Try.func184, Try.ntmps184
  go_wp2_with fail
  go_ret
  exact ⟨rfl, rfl⟩
set_option maxRecDepth 100000 in
theorem isNaNs_any (x : Nat) (w : World) : Calls Try.prog 207 #[.int .u64 (x : Int)] w (fun e w' => e = .returned (.bool false) ∧ w' = w) := by
  go_enter Try.func207, Try.ntmps207
  go_wp2_with fail
  go_ret
  exact ⟨rfl, rfl⟩
set_option maxRecDepth 100000 in
theorem lessU_any (x y : Nat) (w : World) : Calls Try.prog 204 #[.int .u64 (x : Int), .int .u64 (y : Int)] w (fun e w' => e = .returned (.bool (decide (x < y))) ∧ w' = w) := by
  go_enter Try.func204, Try.ntmps204
  by_cases hlt : x < y
  · go_wp2_with (first | (go_at_call 184; with_reducible refine (isNaNc_any _ _).mono ?_; rintro e wx ⟨rfl, rfl⟩))
    go_ret
    exact ⟨by simp [hlt], rfl⟩
  · go_wp2_with (first | (go_at_call 184; with_reducible refine (isNaNc_any _ _).mono ?_; rintro e wx ⟨rfl, rfl⟩))
    go_ret
    exact ⟨by simp [hlt], rfl⟩
/-- The least place whose number isn't below x. -/
def RetBs (w : World) (n : Nat) (ms : List Nat) (x : Nat) (e : Ending) (w' : World) : Prop :=
  ∃ (r : Nat) (f : Bool), e = .returned (.tuple #[.int .i64 (r : Int), .bool f]) ∧ r ≤ n ∧ (∀ t m, t < r → ms[t]? = some m → m < x) ∧ (∀ t m, r ≤ t → ms[t]? = some m → x ≤ m) ∧ ∃ q, w' = w.drewN q
theorem pw_at {ms : List Nat} (h : ms.Pairwise (· ≤ ·)) {i j a b : Nat} (hij : i ≤ j) (h1 : ms[i]? = some a) (h2 : ms[j]? = some b) : a ≤ b := by
  obtain ⟨l1, e1⟩ := List.getElem?_eq_some_iff.1 h1
  obtain ⟨l2, e2⟩ := List.getElem?_eq_some_iff.1 h2
  rcases Nat.eq_or_lt_of_le hij with e | e
  · subst e
    rw [h1] at h2
    injection h2 with h2
    omega
  · have := List.pairwise_iff_getElem.1 h i j l1 l2 e
    omega
set_option maxRecDepth 100000 in
set_option maxHeartbeats 8000000 in
theorem binS_any {w : World} {A : Option Addr} {n c : Nat} {ms : List Nat} (h : RdU w A n ms) (hn : n ≤ 1099511627776) (hp : ms.Pairwise (· ≤ ·)) (x : Nat) : Calls Try.prog 167 #[.slice A n c, .int .u64 (x : Int)] w (RetBs w n ms x) := by
  have HL := Lib.hid h.len
  have HP := Lib.hid hp
  have HH := Lib.hid h
  clear h hp
  go_enter Try.func167, Try.ntmps167
  go_wp2_with fail
  go_loopw [7, 8] (fun s7 s8 wr => ∃ lo hi q : Nat, s7 = .int .i64 (lo : Int) ∧ s8 = .int .i64 (hi : Int) ∧ lo ≤ hi ∧ hi ≤ n ∧ (∀ t m, t < lo → ms[t]? = some m → m < x) ∧ (∀ t m, hi ≤ t → ms[t]? = some m → x ≤ m) ∧ wr = w.drewN q) (fun s7 s8 _ => (intOf s8).toNat - (intOf s7).toNat)
  case atStart => exact ⟨0, n, 0, rfl, rfl, Nat.zero_le _, Nat.le_refl _, (fun t m h => absurd h (Nat.not_lt_zero _)), (fun t m h1 h2 => by have := (List.getElem?_eq_some_iff.1 h2).1; have := HL.out; omega), rfl⟩
  case round =>
    obtain ⟨lo, hi, q, rfl, rfl, h1, h2, h3, h4, rfl⟩ := hrel
    have H3 := Lib.hid h3
    have H4 := Lib.hid h4
    obtain ⟨W, hW⟩ : ∃ W, W = w.drewN q := ⟨_, rfl⟩
    rw [← hW]
    have HW := Lib.hid hW
    have HR : Hid (RdU W A n ms) := Lib.hid (by rw [hW]; exact HH.out.drewN q)
    clear h3 h4 hW
    by_cases hlt : lo < hi
    · obtain ⟨m, hm⟩ : ∃ m, m = (lo + hi) / 2 := ⟨_, rfl⟩
      have e1 : ((lo : Int) + (hi : Int)) / 2 = (m : Int) := by omega
      have hmn : m < hi := by omega
      have hml : lo ≤ m := by omega
      have hmN : m < n := by omega
      obtain ⟨b, off, hAb, _⟩ := HR.out.1.pos (by omega)
      subst hAb
      obtain ⟨y, hy, hcy, _⟩ := HR.out.at_ m (by omega)
      have HY := Lib.hid hy
      by_cases hyx : y < x
      · have HN : Hid (∀ t m', t < m + 1 → ms[t]? = some m' → m' < x) := Lib.hid (fun t m' ht hm' => by have := pw_at HP.out (by omega : t ≤ m) hm' HY.out; omega)
        clear hm hy
        go_wp2_with (first | (go_at_call 204; with_reducible refine (lessU_any _ _ _).mono ?_; rintro e wx ⟨rfl, rfl⟩))
        go_roundw
        case rel => exact ⟨m + 1, hi, q, by go_num, rfl, by omega, h2, HN.out, H4.out, HW.out⟩
        case measure => simp [intOf]; omega
      · have HN : Hid (∀ t m', m ≤ t → ms[t]? = some m' → x ≤ m') := Lib.hid (fun t m' ht hm' => by have := pw_at HP.out ht HY.out hm'; omega)
        clear hm hy
        go_wp2_with (first | (go_at_call 204; with_reducible refine (lessU_any _ _ _).mono ?_; rintro e wx ⟨rfl, rfl⟩))
        go_roundw
        case rel => exact ⟨lo, m, q, rfl, rfl, hml, by omega, H3.out, HN.out, HW.out⟩
        case measure => simp [intOf]; omega
    · obtain rfl : lo = hi := by omega
      have HF : Hid (∀ f : Bool, RetBs w n ms x (.returned (.tuple #[.int .i64 (lo : Int), .bool f])) W) := Lib.hid (fun f => ⟨lo, f, rfl, h2, H3.out, H4.out, q, HW.out⟩)
      by_cases hln : lo < n
      · obtain ⟨b, off, hAb, _⟩ := HR.out.1.pos (by omega)
        subst hAb
        obtain ⟨y, hy, hcy, _⟩ := HR.out.at_ lo hln
        by_cases hyx : y = x
        · have t1 : ((y : Int) == (x : Int)) = true := by rw [beq_iff_eq]; omega
          clear hy
          go_wp2_with (first | (go_at_call 207; with_reducible refine (isNaNs_any _ _).mono ?_; rintro e wx ⟨rfl, rfl⟩))
          exact bodyPost_ret (v := .tuple #[.int .i64 (lo : Int), .bool true]) (by simp [results, Try.f167, go_sem]; try rfl) rfl (HF.out true)
        · have t1 : ((y : Int) == (x : Int)) = false := by rw [beq_eq_false_iff_ne]; omega
          clear hy
          go_wp2_with (first | (go_at_call 207; with_reducible refine (isNaNs_any _ _).mono ?_; rintro e wx ⟨rfl, rfl⟩))
          exact bodyPost_ret (v := .tuple #[.int .i64 (lo : Int), .bool false]) (by simp [results, Try.f167, go_sem]; try rfl) rfl (HF.out false)
      · go_wp2_with fail
        exact bodyPost_ret (v := .tuple #[.int .i64 (lo : Int), .bool false]) (by simp [results, Try.f167, go_sem]; try rfl) rfl (HF.out false)
/-- Is the i-th entry its key's version at one of the moments? -/
def seenE (es : List En) (i : Nat) (ms : List Nat) : Bool :=
  match es[i]? with
  | none => false
  | some x => ms.any (fun m => decide (x.seq ≤ m) && (match newerE es i with
    | none => true
    | some u => decide (m < u)))
theorem seenE_at {es : List En} {i : Nat} {ms : List Nat} {x : En} (h : es[i]? = some x) : seenE es i ms = ms.any (fun m => decide (x.seq ≤ m) && (match newerE es i with
    | none => true
    | some u => decide (m < u))) := by unfold seenE; rw [h]
/-- What isSeen hands back. -/
def RetBq (w : World) (b : Bool) (e : Ending) (w' : World) : Prop := e = .returned (.bool b) ∧ ∃ q, w' = w.drewN q
set_option maxRecDepth 100000 in
set_option maxHeartbeats 8000000 in
theorem isSeen_any {w : World} {A M : Option Addr} {n c mn mc : Nat} {es : List En} {ms : List Nat} (h : REs w A n es) (hn : n ≤ 1099511627776) (i : Nat) (hi : i < n) (hm : RdU w M mn ms) (hmn : mn ≤ 1099511627776) (hp : ms.Pairwise (· ≤ ·)) :
    Calls Try.prog 134 #[.slice A n c, .int .i64 (i : Int), .slice M mn mc] w (RetBq w (seenE es i ms)) := by
  obtain ⟨b, off, rfl, hbl⟩ := h.pos (by omega)
  obtain ⟨x, v0, v1, v2, v3, hx, c0, c1, c2, c3, hev⟩ := h.at_ i hi
  obtain ⟨K, kn, kc, V, vn, vc, rfl, rfl, rfl, rfl, _⟩ := hev.parts
  have HB := Lib.hid (binS_any (c := mc) hm hmn hp x.seq)
  have HNW : Hid (∀ q, Calls Try.prog 133 #[.slice (some ⟨b, off, none⟩) n c, .int .i64 (i : Int)] (w.drewN q) (RetNw (w.drewN q) (newerE es i))) := Lib.hid (fun q => mgNewer_any (h.drewN q) hn i hi)
  have HSE := Lib.hid (seenE_at (ms := ms) hx)
  have HM := Lib.hid hm
  have HML := Lib.hid hm.len
  have HP := Lib.hid hp
  clear h hx hev hm hp
  go_enter Try.func134, Try.ntmps134
  go_wp2_with fail
  with_reducible refine HB.out.mono ?_
  rintro e w1 ⟨r, f, rfl, hr, hlo, hhi, q, hq⟩
  have HLO := Lib.hid hlo
  have HHI := Lib.hid hhi
  have HQ := Lib.hid hq
  clear hlo hhi hq
  by_cases hrn : r = mn
  · subst hrn
    have HF : Hid (seenE es i ms = false) := Lib.hid (by
      rw [HSE.out, List.any_eq_false]
      intro m hm
      obtain ⟨t, ht⟩ := List.mem_iff_getElem?.1 hm
      have := HLO.out t m (by have := (List.getElem?_eq_some_iff.1 ht).1; have := HML.out; omega) ht
      have : ¬ x.seq ≤ m := by omega
      simp [this])
    go_wp2_with fail
    go_ret
    exact ⟨by rw [HF.out]; rfl, q, HQ.out⟩
  · have t1 : ((r : Int) == (mn : Int)) = false := by rw [beq_eq_false_iff_ne]; omega
    have hrl : r < mn := by omega
    obtain ⟨o, ho⟩ : ∃ o, o = newerE es i := ⟨_, rfl⟩
    have hNW := HNW.out q
    rw [← ho, ← HQ.out] at hNW
    have HNW2 := Lib.hid hNW
    have HO := Lib.hid ho
    clear hNW ho
    obtain ⟨mb, mo, hMb, _⟩ := HM.out.1.pos (by omega)
    subst hMb
    obtain ⟨m1, hm1, hcm, _⟩ := (HM.out.drewN q).at_ r hrl
    have HM1 := Lib.hid hm1
    have hcm1 : w1.cell? ⟨mb, mo + r, none⟩ = some (.int .u64 (m1 : Int)) := by rw [HQ.out]; exact hcm
    clear hm1 hcm c0 c1 c2 c3
    have HCM : Hid (∀ q, (w1.drewN q).cell? ⟨mb, mo + r, none⟩ = some (.int .u64 (m1 : Int))) := Lib.hid (fun q => by rw [← hcm1]; exact (below_drewN (Below.refl w1.heap.size w1) q).cell (p := ⟨mb, mo + r, none⟩) (by
      obtain ⟨b', o', e1, e2, _⟩ := (HM.out.drewN 0).1.2 (by omega)
      injection e1 with e1
      injection e1 with e1 _
      subst e1
      rw [HQ.out]
      simpa using e2))
    have hsx : x.seq ≤ m1 := HHI.out r m1 (Nat.le_refl _) HM1.out
    have HSX := Lib.hid hsx
    go_wp2_with fail
    with_reducible refine HNW2.out.mono ?_
    rintro e w2 ⟨rfl, q2, hq2⟩
    have hcm2 : w2.cell? ⟨mb, mo + r, none⟩ = some (.int .u64 (m1 : Int)) := by rw [hq2]; exact HCM.out q2
    have HQ2 : Hid (∃ q', w2 = w.drewN q') := Lib.hid ⟨_, by rw [hq2, HQ.out, World.drewN_drewN]⟩
    clear hq2 hcm1 hsx
    cases o with
    | none =>
      have HF : Hid (seenE es i ms = true) := Lib.hid (by
        rw [HSE.out, ← HO.out, List.any_eq_true]
        exact ⟨m1, List.mem_of_getElem? HM1.out, by simp [HSX.out]⟩)
      go_wp2_with fail
      go_ret
      exact ⟨by rw [HF.out]; rfl, HQ2.out⟩
    | some u =>
      by_cases hmu : m1 < u
      · have HF : Hid (seenE es i ms = true) := Lib.hid (by
          rw [HSE.out, ← HO.out, List.any_eq_true]
          exact ⟨m1, List.mem_of_getElem? HM1.out, by simp [HSX.out, hmu]⟩)
        go_wp2_with fail
        go_ret
        exact ⟨by rw [HF.out]; rfl, HQ2.out⟩
      · have HF : Hid (seenE es i ms = false) := Lib.hid (by
          rw [HSE.out, ← HO.out, List.any_eq_false]
          intro m hm
          obtain ⟨t, ht⟩ := List.mem_iff_getElem?.1 hm
          rcases Nat.lt_or_ge t r with htr | htr
          · have := HLO.out t m htr ht
            have : ¬ x.seq ≤ m := by omega
            simp [this]
          · have := pw_at HP.out htr HM1.out ht
            have : ¬ m < u := by omega
            simp [this])
        go_wp2_with fail
        go_ret
        exact ⟨by rw [HF.out]; rfl, HQ2.out⟩
end Go.Proofs.Ytcclhkoggijkaaa
namespace Go.Proofs.Ytcclhkoggijkaaa
open Go Go.RowKit

/-- The entries of a tree with keys from xs on and below ys. -/
def betw (xs ys : List UInt8) : Tr → List En
  | .nil => []
  | .node l e r => (if 0 ≤ cmpB e.key xs then betw xs ys l else []) ++ (if 0 ≤ cmpB e.key xs ∧ (ys.length = 0 ∨ cmpB e.key ys < 0) then [e] else []) ++ (if ys.length = 0 ∨ cmpB e.key ys < 0 then betw xs ys r else [])
theorem betw_num (xs ys : List UInt8) : ∀ t : Tr, (betw xs ys t).length ≤ t.num
  | .nil => Nat.le_refl _
  | .node l e r => by
    have h1 := betw_num xs ys l
    have h2 := betw_num xs ys r
    simp only [betw, Tr.num, List.length_append]
    split <;> split <;> split <;> simp <;> omega
def RetBt (W : World) (es : List En) (e : Ending) (w' : World) : Prop := ∃ L k d, e = .returned (.slice L k d) ∧ RowE W W.heap.size L k d es w'
theorem RetBt.out {W : World} {es : List En} {e : Ending} {w' : World} (h : RetBt W es e w') : ∃ L k d, e = .returned (.slice L k d) ∧ RowE W W.heap.size L k d es w' := h
end Go.Proofs.Ytcclhkoggijkaaa
namespace Go.Proofs.Ytcclhkoggijkaaa
open Go Go.RowKit

/-- The entries of the places that p picks, of the first k. -/
def pkE (p : Nat → Bool) (es : List En) : Nat → List En
  | 0 => []
  | k + 1 => pkE p es k ++ (if p k then (es[k]?).toList else [])
theorem pkE_snoc {p : Nat → Bool} {es : List En} {k : Nat} {x : En} (h : es[k]? = some x) : pkE p es (k + 1) = pkE p es k ++ (if p k then [x] else []) := by rw [pkE, h]; rfl
theorem pkE_len (p : Nat → Bool) (es : List En) : ∀ k, (pkE p es k).length ≤ k
  | 0 => Nat.le_refl _
  | k + 1 => by
    have := pkE_len p es k
    rw [pkE, List.length_append]
    split
    · cases es[k]? <;> simp <;> omega
    · simp; omega
theorem pkE_mem {p : Nat → Bool} {es : List En} {x : En} : ∀ {k}, x ∈ pkE p es k → x ∈ es
  | k + 1, h => by
    rw [pkE] at h
    rcases List.mem_append.1 h with h | h
    · exact pkE_mem h
    · split at h
      · cases hk : es[k]? with
        | none => rw [hk] at h; cases h
        | some y =>
          rw [hk] at h
          have : x = y := by simpa using h
          rw [this]
          exact List.mem_of_getElem? hk
      · cases h
def visP (es : List En) (ms : List Nat) (i : Nat) : Bool := (match es[i]? with
  | some x => decide (x.kind = 1)
  | none => false) && seenE es i ms
theorem visP_at {es : List En} {ms : List Nat} {i : Nat} {x : En} (h : es[i]? = some x) : visP es ms i = (decide (x.kind = 1) && seenE es i ms) := by unfold visP; rw [h]
/-- Copies of entries, or an error. -/
def RetMg (w : World) (z : Int) (es : List En) (e : Ending) (w' : World) : Prop :=
  (z ≠ 0 ∧ e = .returned (.tuple #[.slice none 0 0, .int .i64 z]) ∧ Below w.heap.size w w') ∨
  (z = 0 ∧ ∃ L n c, e = .returned (.tuple #[.slice L n c, .int .i64 0]) ∧ RowE w w.heap.size L n c es w')
theorem RowE.lower {w wr w' : World} {L : Option Addr} {i d : Nat} {es : List En} (h : RowE wr wr.heap.size L i d es w') (hb : Below w.heap.size w wr) : RowE w w.heap.size L i d es w' := by
  obtain ⟨vs, r1, r2, r3, r4, r5, r6, r7⟩ := h
  have hs := hb.size
  have h1 := belowT' hb r5
  exact ⟨vs, OwnE.mono r1 hs, EOs.mono hs r2, r3, r4, h1, h1.size, r7.mono hs⟩
theorem RLs_one {w : World} {A : Option Addr} {n c : Nat} {es : List En} {t : TypeId} (h : REs w A n es) (hc : n ≤ c) : RLs (w.alloc (.cells #[.slice A n c] t)) (some ⟨w.heap.size, 0, none⟩) 1 [es] := by
  refine ⟨rfl, fun _ => ⟨w.heap.size, 0, rfl, by simp, fun i fs hi => ?_⟩⟩
  have hi0 : i = 0 := by have := (List.getElem?_eq_some_iff.1 hi).1; simp at this; exact this
  subst hi0
  injection hi with hi
  subst hi
  exact ⟨A, n, c, (Cl.new w #[.slice A n c] t).cell 0, h.below ((Below.refl _ _).alloc (Nat.le_refl _) _), hc⟩
theorem RdU_one (w : World) (m : Nat) (h : U64 m) (t : TypeId) : RdU (w.alloc (.cells #[.int .u64 (m : Int)] t)) (some ⟨w.heap.size, 0, none⟩) 1 [m] := by
  refine ⟨⟨rfl, fun _ => ⟨w.heap.size, 0, rfl, by simp, fun i v hi => ?_⟩⟩, fun k hk => by rw [List.mem_singleton] at hk; rw [hk]; exact h⟩
  have hi0 : i = 0 := by have := (List.getElem?_eq_some_iff.1 hi).1; simp at this; exact this
  subst hi0
  injection hi with hi
  subst hi
  exact (Cl.new w #[.int .u64 (m : Int)] t).cell 0
end Go.Proofs.Ytcclhkoggijkaaa
namespace Go.Proofs.Ytcclhkoggijkaaa
open Go Go.RowKit

end Go.Proofs.Ytcclhkoggijkaaa
namespace Go.Proofs.Ytcclhkoggijkaaa
open Go Go.RowKit

theorem ordK_at2 {es : List En} : ∀ {k : Nat}, ordK es k = true → ∀ (i : Nat) a b, i < k → es[i]? = some a → es[i + 1]? = some b → lessE a b = true
  | k + 1, h, i, a, b, hi, ha, hb => by
    rw [ordK, Bool.and_eq_true] at h
    rcases Nat.lt_or_ge i k with h1 | h1
    · exact ordK_at2 h.1 i a b h1 ha hb
    · obtain rfl : i = k := by omega
      have h2 := h.2
      rw [ha, hb] at h2
      exact h2
theorem sort_of_ord {es : List En} (h : ordE es = true) : SortL es := by
  have key : ∀ (j i : Nat) a b, i < j → es[i]? = some a → es[j]? = some b → lessE a b = true := by
    intro j
    induction j with
    | zero => intro i a b h; omega
    | succ j ih =>
      intro i a b hij ha hb
      have hlt : j + 1 < es.length := (List.getElem?_eq_some_iff.1 hb).1
      obtain ⟨c, hc⟩ : ∃ c, es[j]? = some c := ⟨_, List.getElem?_eq_getElem (by omega)⟩
      have h1 := ordK_at2 h j c b (by omega) hc hb
      by_cases e : i = j
      · subst e
        rw [hc] at ha
        injection ha with ha
        rw [← ha]
        exact h1
      · exact lessE_trans (ih i a c (by omega) ha hc) h1
  unfold SortL
  rw [List.pairwise_iff_getElem]
  intro i j hi hj hij
  exact key j i _ _ hij (List.getElem?_eq_getElem hi) (List.getElem?_eq_getElem hj)
theorem ord_of_sort2 {es : List En} (h : SortL es) : ordE es = true := by
  have key : ∀ k, k ≤ es.length - 1 → ordK es k = true := by
    intro k
    induction k with
    | zero => intro _; rfl
    | succ k ih =>
      intro hk
      have ha : es[k]? = some (es[k]'(by omega)) := List.getElem?_eq_getElem (by omega)
      have hb : es[k + 1]? = some (es[k + 1]'(by omega)) := List.getElem?_eq_getElem (by omega)
      rw [ordK_step ha hb, ih (by omega), Bool.true_and]
      exact List.pairwise_iff_getElem.1 h k (k + 1) (by omega) (by omega) (by omega)
  exact key _ (Nat.le_refl _)
theorem sort_at {es : List En} (h : SortL es) {i j : Nat} {a b : En} (hij : i < j) (ha : es[i]? = some a) (hb : es[j]? = some b) : lessE a b = true := by
  obtain ⟨l1, e1⟩ := List.getElem?_eq_some_iff.1 ha
  obtain ⟨l2, e2⟩ := List.getElem?_eq_some_iff.1 hb
  have := List.pairwise_iff_getElem.1 h i j l1 l2 hij
  rw [e1, e2] at this
  exact this
theorem sort_uniq {es : List En} (h : SortL es) {i j : Nat} {a b : En} (ha : es[i]? = some a) (hb : es[j]? = some b) (hk : a.key = b.key) (hs : a.seq = b.seq) : i = j := by
  have hn := sameK_not (sameK_iff.2 ⟨hk, hs⟩)
  rcases Nat.lt_trichotomy i j with e | e | e
  · have := sort_at h e ha hb
    rw [hn.1] at this; cases this
  · exact e
  · have := sort_at h e hb ha
    rw [hn.2] at this; cases this
theorem less_seq {a b : En} (h : lessE a b = true) (hk : a.key = b.key) : b.seq < a.seq := by
  rcases lessE_iff.1 h with h | h
  · rw [hk, cmpB_refl] at h; omega
  · exact h.2
/-- No earlier entry has the key of one whose neighbour hasn't. -/
theorem sort_far {es : List En} (h : SortL es) {k j : Nat} {a x y : En} (ha : es[k]? = some a) (hx : es[k + 1]? = some x) (hne : a.key ≠ x.key) (hj : j ≤ k) (hy : es[j]? = some y) : y.key ≠ x.key := by
  have h1 : cmpB a.key x.key < 0 := by
    rcases lessE_iff.1 (sort_at h (Nat.lt_succ_self k) ha hx) with q | q
    · exact q
    · exact absurd q.1 hne
  rcases Nat.eq_or_lt_of_le hj with e | e
  · subst e
    rw [ha] at hy
    injection hy with hy
    rw [← hy]
    exact hne
  · intro hk
    rcases lessE_iff.1 (sort_at h e hy ha) with q | q
    · have := cmpB_trans q h1
      rw [hk, cmpB_refl] at this
      omega
    · rw [← q.1, hk] at h1
      rw [cmpB_refl] at h1
      omega
theorem seen_one {es : List En} {i a : Nat} {x : En} (h : SortL es) (hx : es[i]? = some x) : seenE es i [a] = true ↔ findL x.key a es = some x := by
  rw [seenE_at hx]
  simp only [List.any_cons, List.any_nil, Bool.or_false, Bool.and_eq_true, decide_eq_true_eq]
  unfold findL
  rw [List.find?_eq_some_iff_getElem]
  have hlt := (List.getElem?_eq_some_iff.1 hx).1
  have hxe := (List.getElem?_eq_some_iff.1 hx).2
  constructor
  · rintro ⟨h1, h2⟩
    refine ⟨by simp [eqB, h1], i, hlt, hxe, fun j hj => ?_⟩
    have hjy : es[j]? = some (es[j]'(by omega)) := List.getElem?_eq_getElem (by omega)
    cases i with
    | zero => omega
    | succ k =>
      have hka : es[k]? = some (es[k]'(by omega)) := List.getElem?_eq_getElem (by omega)
      rw [newerE_at hka hx] at h2
      by_cases hkk : (es[k]'(by omega)).key = x.key
      · have e1 : eqB (es[k]'(by omega)).key x.key = true := by simp [eqB, hkk]
        rw [e1, if_pos rfl] at h2
        simp only [decide_eq_true_eq] at h2
        by_cases hjk : (es[j]'(by omega)).key = x.key
        · have : (es[k]'(by omega)).seq ≤ (es[j]'(by omega)).seq := by
            rcases Nat.eq_or_lt_of_le (Nat.le_of_lt_succ hj) with e | e
            · subst e; exact Nat.le_refl _
            · exact Nat.le_of_lt (less_seq (sort_at h e hjy hka) (hjk.trans hkk.symm))
          have : ¬ (es[j]'(by omega)).seq ≤ a := by omega
          simp [this]
        · simp [eqB, hjk]
      · have := sort_far h hka hx hkk (Nat.le_of_lt_succ hj) hjy
        simp [eqB, this]
  · rintro ⟨h1, j, hj, he, hf⟩
    have hij : i = j := sort_uniq h hx (List.getElem?_eq_getElem hj) (by rw [he]) (by rw [he])
    subst hij
    rw [Bool.and_eq_true, decide_eq_true_eq] at h1
    refine ⟨h1.2, ?_⟩
    cases i with
    | zero => rfl
    | succ k =>
      have hka : es[k]? = some (es[k]'(by omega)) := List.getElem?_eq_getElem (by omega)
      rw [newerE_at hka hx]
      by_cases hkk : (es[k]'(by omega)).key = x.key
      · have e1 : eqB (es[k]'(by omega)).key x.key = true := by simp [eqB, hkk]
        rw [e1, if_pos rfl]
        have := hf k (Nat.lt_succ_self k)
        rw [e1] at this
        simp at this
        simpa using this
      · have e1 : eqB (es[k]'(by omega)).key x.key = false := by simp [eqB, hkk]
        rw [e1]
        rfl
/-- What the reference's Visible looks at. -/
def refP (es : List En) (a i : Nat) : Bool := match es[i]? with
  | none => false
  | some x => match findL x.key a es with
    | none => false
    | some v => decide (v.seq = x.seq) && decide (v.kind = 1)
theorem findL_in {es : List En} {key : List UInt8} {a : Nat} {v : En} (h : findL key a es = some v) : v ∈ es ∧ v.key = key ∧ v.seq ≤ a := by
  unfold findL at h
  have h1 := List.find?_some h
  rw [Bool.and_eq_true, decide_eq_true_eq] at h1
  exact ⟨List.mem_of_find?_eq_some h, by simpa [eqB] using h1.1, h1.2⟩
theorem vis_ref {es : List En} (h : SortL es) (a i : Nat) : visP es [a] i = refP es a i := by
  unfold visP refP
  cases hx : es[i]? with
  | none => rfl
  | some x =>
    simp only
    cases hs : seenE es i [a] with
    | true =>
      rw [(seen_one h hx).1 hs]
      simp
    | false =>
      rw [Bool.and_false]
      cases hf : findL x.key a es with
      | none => rfl
      | some v =>
        obtain ⟨hm, hk, _⟩ := findL_in hf
        simp only
        by_cases hq : v.seq = x.seq
        · obtain ⟨j, hj⟩ := List.mem_iff_getElem?.1 hm
          have := sort_uniq h hx hj hk.symm hq.symm
          subst this
          rw [hx] at hj
          injection hj with hj
          rw [← hj] at hf
          rw [(seen_one h hx).2 hf] at hs
          cases hs
        · simp [hq]
theorem pkE_congr {p q : Nat → Bool} (es : List En) : ∀ k, (∀ i, i < k → p i = q i) → pkE p es k = pkE q es k
  | 0, _ => rfl
  | k + 1, h => by rw [pkE, pkE, pkE_congr es k (fun i hi => h i (by omega)), h k (Nat.lt_succ_self k)]
theorem chk1_ok {es : List En} (h : chk1 es = 0) : SortL es ∧ checkE es = 0 := by
  unfold chk1 at h
  split at h
  · rename_i h1
    exact absurd h h1
  · rename_i h1
    split at h
    · rename_i h2
      exact ⟨sort_of_ord h2, by omega⟩
    · cases h
end Go.Proofs.Ytcclhkoggijkaaa
namespace Go.Proofs.Ytcclhkoggijkaaa
open Go Go.RowKit

theorem info_u64m : (Try.prog.info? 35).map (fun i => (i.zero, i.size, i.bytes)) = some (some (.int .u64 0), 1, 8) := by kernel_rfl
theorem uv_one (ms : List Nat) : ∀ u ∈ ms.map uv, u.oneCell' = true := fun u hu => by
  obtain ⟨m, _, rfl⟩ := List.mem_map.1 hu
  rfl
def OwnU (w : World) (base : Nat) (A : Option Addr) (n c : Nat) (ms : List Nat) : Prop := OwnV 35 w base A n c (ms.map uv)
theorem OwnU.rd {w : World} {base : Nat} {A : Option Addr} {n c : Nat} {ms : List Nat} (h : OwnU w base A n c ms) (hu : ∀ m ∈ ms, U64 m) : RdU w A n ms := ⟨OwnV.rd h, hu⟩
/-- A row of numbers of the call's own. -/
def RetUs (w : World) (n : Nat) (ms : List Nat) (e : Ending) (w' : World) : Prop := ∃ C cc, e = .returned (.slice C n cc) ∧ OwnU w' w.heap.size C n cc ms ∧ Below w.heap.size w w'
set_option maxRecDepth 100000 in
set_option maxHeartbeats 4000000 in
theorem cloneU_any {w : World} {M : Option Addr} {mn mc : Nat} {ms : List Nat} (h : RdU w M mn ms) (hn : mn ≤ 1099511627776) : Calls Try.prog 131 #[.slice M mn mc] w (RetUs w mn ms) := by
  have heq : ∀ (w : World) (a : Option Addr) (n c n' c' : Nat), (binOp .eql 80 (.slice a n c) (.slice none n' c')).run Try.prog w = .ok (.bool a.isNone) w := fun w a n c n' c' => Lib.run_eql_slice_nil w _ _ a n c n' c' Try.underlying80
  cases M with
  | none =>
    have h0 : mn = 0 := by
      rcases Nat.eq_zero_or_pos mn with h1 | h1
      · exact h1
      · obtain ⟨b, off, hh, _⟩ := h.1.pos h1
        cases hh
    subst h0
    have hm : ms = [] := List.eq_nil_of_length_eq_zero h.len
    subst hm
    clear h hn
    go_enter Try.func131, Try.ntmps131
    go_wp2_with fail
    go_ret
    exact ⟨none, 0, rfl, OwnV.nil _ _ _, Below.refl _ _⟩
  | some a =>
    have HB0 : Below w.heap.size w (w.alloc (.cells #[] 35)) := (Below.refl _ _).alloc (Nat.le_refl _) _
    have HO : Hid (OwnV 35 (w.alloc (.cells #[] 35)) w.heap.size (some ⟨w.heap.size, 0, none⟩) 0 0 []) := Lib.hid ⟨rfl, .inr ⟨w.heap.size, 0, #[], rfl, Nat.le_refl _, heap_alloc_new w _, Nat.le_refl _, by unfold maxLen; omega, rfl, rfl⟩⟩
    have HR := Lib.hid (h.below HB0)
    have HB := Lib.hid HB0
    clear h HB0
    go_enter Try.func131, Try.ntmps131
    go_wp2_with (at_builtin; refine wpList_appV (w.alloc (.cells #[] 35)) rfl _ _ 80 rfl w.heap.size 35 (.int .u64 0) 8 Try.underlying80 info_u64m rfl (some ⟨w.heap.size, 0, none⟩) 0 0 [] rfl HO.out (some a) mn mc (ms.map uv) rfl HR.out.1 (uv_one ms) ?_ ?_ ?_ ?_)
    · unfold maxLen; omega
    · omega
    · simp
    intro C cc w2 hC hg _
    have HF : Hid (RetUs w mn ms (.returned (.slice C mn cc)) w2) := Lib.hid ⟨C, cc, rfl, by simpa [OwnU] using hC, (HB.out.grown hg HB.out.size (fun k hk => by simp [blk] at hk; omega))⟩
    clear hC hg
    go_wp2_with fail
    go_ret
    exact HF.out
set_option maxRecDepth 100000 in
set_option maxHeartbeats 4000000 in
theorem insSort1_any (A : Option Addr) (c : Nat) (w : World) : Calls Try.prog 198 #[.slice A 1 c, .int .i64 0, .int .i64 1] w (fun e w' => e = .returned (.tuple #[]) ∧ w' = w) := by
  go_enter Try.func198, Try.ntmps198
  go_wp2_with fail
  go_loopw [6] (fun s6 wr => s6 = .int .i64 1 ∧ wr = w) (fun _ _ => 0)
  case atStart => exact ⟨rfl, rfl⟩
  case round =>
    obtain ⟨rfl, rfl⟩ := hrel
    go_wp2_with fail
    go_end0
    exact ⟨rfl, rfl⟩
set_option maxRecDepth 100000 in
set_option maxHeartbeats 4000000 in
theorem pdq1_any (A : Option Addr) (c : Nat) (l : Int) (w : World) : Calls Try.prog 166 #[.slice A 1 c, .int .i64 0, .int .i64 1, .int .i64 l] w (fun e w' => e = .returned (.tuple #[]) ∧ w' = w) := by
  have HI := Lib.hid (insSort1_any A c w)
  go_enter Try.func166, Try.ntmps166
  go_wp2_with fail
  go_loopw [1, 2, 3, 8, 9] (fun s1 s2 s3 s8 s9 wr => s1 = .int .i64 0 ∧ s2 = .int .i64 1 ∧ wr = w) (fun _ _ _ _ _ _ => 0)
  case atStart => exact ⟨rfl, rfl, rfl⟩
  case round =>
    obtain ⟨rfl, rfl, rfl⟩ := hrel
    go_wp2_with fail
    with_reducible refine HI.out.mono ?_
    rintro e w1 ⟨rfl, rfl⟩
    go_wp2_with fail
    exact bodyPost_ret (v := .tuple #[]) (by simp [results, Try.f166, go_sem]; try rfl) rfl ⟨rfl, rfl⟩
set_option maxRecDepth 100000 in
set_option maxHeartbeats 4000000 in
theorem sort1_any (A : Option Addr) (c : Nat) (w : World) : Calls Try.prog 132 #[.slice A 1 c] w (fun e w' => e = .returned (.tuple #[]) ∧ w' = w) := by
  go_enter Try.func132, Try.ntmps132
  go_wp2_with fail
  with_reducible refine (bitsLen_any _ _ (by decide) (by decide)).mono ?_
  rintro e w1 ⟨rfl, rfl⟩
  go_wp2_with fail
  with_reducible refine (pdq1_any _ _ _ _).mono ?_
  rintro e w1 ⟨rfl, rfl⟩
  go_wp2_with fail
  go_end0
  exact ⟨rfl, rfl⟩
/-- Behind which an entry is needed. -/
def keepP (es : List En) (ms : List Nat) (i : Nat) : Bool := !(newerE es i).isSome || seenE es i ms
/-- Is the first of these of the same key? -/
def hidB (r : List En) (x : En) : Bool := match r with
  | [] => false
  | y :: _ => eqB y.key x.key
/-- Without the Deletes that hide nothing. -/
def idleE : List En → List En
  | [] => []
  | x :: t => if decide (x.kind = 1) || hidB (idleE t) x then x :: idleE t else idleE t
theorem idleE_mem {x : En} : ∀ {es : List En}, x ∈ idleE es → x ∈ es
  | y :: t, h => by
    rw [idleE] at h
    split at h
    · rcases List.mem_cons.1 h with h | h
      · rw [h]; simp
      · exact List.mem_cons_of_mem _ (idleE_mem h)
    · exact List.mem_cons_of_mem _ (idleE_mem h)
theorem idleE_len : ∀ es : List En, (idleE es).length ≤ es.length
  | [] => Nat.le_refl _
  | y :: t => by
    have := idleE_len t
    rw [idleE]
    split <;> simp only [List.length_cons] <;> omega
/-- What is kept. -/
def keepE (es : List En) (bot : Bool) (ms : List Nat) : List En := if bot then idleE (pkE (keepP es ms) es es.length) else pkE (keepP es ms) es es.length
set_option maxRecDepth 100000 in
set_option maxHeartbeats 16000000 in
/-- Keep, where the moments' sort and the last pass are known. -/
theorem keep_any {w : World} {A M : Option Addr} {n c mn mc : Nat} {es : List En} {ms rs : List Nat} {bot : Bool} (h : REs w A n es) (hn : n ≤ 2097152) (hc : n ≤ c) (hs : ∀ x ∈ es, SzE x) (hm : RdU w M mn ms) (hmn : mn ≤ 1099511627776)
    (hrs : rs.Pairwise (· ≤ ·)) (hru : ∀ m ∈ rs, U64 m) (hrl : rs.length = mn) (hse : ∀ i, seenE es i rs = seenE es i ms)
    (hsort : ∀ wx base C cc, base ≤ wx.heap.size → OwnU wx base C mn cc ms → Calls Try.prog 132 #[.slice C mn cc] wx (fun e w' => e = .returned (.tuple #[]) ∧ OwnU w' base C mn cc rs ∧ Below base wx w'))
    (hidle : bot = true → ∀ wx L m d fs, REs wx L m fs → m ≤ n → m ≤ d → (∀ x ∈ fs, SzE x) → Calls Try.prog 135 #[.slice L m d] wx (fun e w' => ∃ L' m' d', e = .returned (.slice L' m' d') ∧ REs w' L' m' (idleE fs) ∧ m' ≤ d' ∧ Below wx.heap.size wx w')) :
    Calls Try.prog 77 #[.slice A n c, .bool bot, .slice M mn mc] w (RetMg w (chk1 es) (keepE es bot ms)) := by
  obtain ⟨W1, hW1⟩ : ∃ W1, W1 = w.alloc (.cells #[.slice A n c] 22) := ⟨_, rfl⟩
  have bW1 : Below w.heap.size w W1 := by rw [hW1]; exact (Below.refl _ _).alloc (Nat.le_refl _) _
  obtain ⟨z, hz⟩ : ∃ z, z = chk1 es := ⟨_, rfl⟩
  have HM : Hid (Calls Try.prog 130 #[.slice (some ⟨w.heap.size, 0, none⟩) 1 1] (w.alloc (.cells #[.slice A n c] 22)) (RetNu W1 z)) := Lib.hid (by
    rw [hz, ← chkL_one, hW1]
    exact mgCheck_any (RLs_one h hc) (by omega) (fun fs hf => by rw [List.mem_singleton] at hf; rw [hf, h.len]; omega))
  rw [← hz]
  have HL := Lib.hid h.len
  have HH := Lib.hid h
  have HS := Lib.hid hs
  have BW1 := Lib.hid bW1
  have HMM := Lib.hid hm
  have HRS := Lib.hid hrs
  have HRU := Lib.hid hru
  have HSE := Lib.hid hse
  have HSO := Lib.hid hsort
  have HID := Lib.hid hidle
  have HRL := Lib.hid hrl
  have HKE : Hid (keepE es bot ms = if bot then idleE (pkE (keepP es ms) es n) else pkE (keepP es ms) es n) := Lib.hid (by unfold keepE; rw [h.len])
  clear h hs bW1 hW1 hz hm hrs hru hse hsort hidle hrl
  go_enter Try.func77, Try.ntmps77
  go_wp2_with fail
  with_reducible refine HM.out.mono ?_
  rintro e w1 ⟨rfl, b1⟩
  have B1 := Lib.hid (belowT' BW1.out b1)
  clear b1 HM
  by_cases hz0 : z = 0
  · subst hz0
    go_wp2_with fail
    with_reducible refine (cloneU_any (HMM.out.below B1.out) hmn).mono ?_
    rintro e w2 ⟨C, cc, rfl, oC, b2⟩
    have B2 := Lib.hid (belowT' B1.out b2)
    have HSC := Lib.hid (HSO.out w2 w1.heap.size C cc b2.size oC)
    have S12 := Lib.hid b2.size
    clear oC b2
    go_wp2_with fail
    with_reducible refine HSC.out.mono ?_
    rintro e W0 ⟨rfl, oR, b3⟩
    have S1 := B1.out.size
    have hb0 : Below w.heap.size w W0 := B2.out.trans (b3.mono S1)
    have HM := Lib.hid (OwnU.rd oR HRU.out)
    have B0 := Lib.hid hb0
    obtain ⟨_, ovs, hev, hrd⟩ := HH.out.below hb0
    have HEV0 := Lib.hid hev
    have HRD0 := Lib.hid hrd
    have HR0 := Lib.hid (HH.out.below hb0)
    clear oR b3 hb0 hev hrd
    go_wp2_with fail
    go_loopw [10, 27] (fun s10 s27 wr => ∃ (k m d : Nat) (L : Option Addr), k ≤ n ∧ s27 = .int .i64 (k : Int) ∧ s10 = .slice L m d ∧ Pck W0 ovs (pkE (keepP es ms) es k) L m d wr) (fun _ s _ => n - (intOf s).toNat)
    case atStart => exact ⟨0, 0, 0, none, Nat.zero_le _, rfl, rfl, Pck.zero _ _⟩
    case round =>
      obtain ⟨k, m, d, L, hk, rfl, rfl, hP⟩ := hrel
      have HP := Lib.hid hP
      have HB := Lib.hid hP.bel
      clear hP
      by_cases hlt : k < n
      · obtain ⟨b, off, hAb, hbl⟩ := HR0.out.pos (by omega)
        subst hAb
        obtain ⟨x, v0, v1, v2, v3, hx, c0, c1, c2, c3, hev, hmem⟩ := mem4 HEV0.out HRD0.out HL.out rfl hlt
        obtain ⟨K, kn, kc, V, vn, vc, rfl, rfl, rfl, rfl, _⟩ := hev.parts
        have HXK := Lib.hid hx
        have HEV := Lib.hid hev
        have HMEM := Lib.hid hmem
        obtain ⟨U0, hU⟩ : ∃ U0, U0 = wr.alloc (.cells #[.slice K kn kc, .int .u64 (x.seq : Int), .int .u8 (x.kind : Int), .slice V vn vc] 37) := ⟨_, rfl⟩
        obtain ⟨g0, hg0⟩ : ∃ g0, g0 = wr.heap.size := ⟨_, rfl⟩
        have bU : Below wr.heap.size wr U0 := by rw [hU]; exact (Below.refl _ _).alloc (Nat.le_refl _) _
        have zU : Cl U0 g0 #[.slice K kn kc, .int .u64 (x.seq : Int), .int .u8 (x.kind : Int), .slice V vn vc] 37 := by rw [hU, hg0]; exact Cl.new _ _ _
        have ZU := Lib.hid zU
        have hB := HB.out
        have d0 := (hB.cell (p := ⟨b, off + k * 4, none⟩) hbl).trans c0
        have d1 := (hB.cell (p := ⟨b, off + k * 4 + 1, none⟩) hbl).trans c1
        have d2 := (hB.cell (p := ⟨b, off + k * 4 + 2, none⟩) hbl).trans c2
        have d3 := (hB.cell (p := ⟨b, off + k * 4 + 3, none⟩) hbl).trans c3
        have HU := Lib.hid hU
        have HG := Lib.hid hg0
        have HPU := Lib.hid (HP.out.below bU)
        obtain ⟨nw, hnw⟩ : ∃ nw, nw = newerE es k := ⟨_, rfl⟩
        obtain ⟨sn, hsn⟩ : ∃ sn, sn = seenE es k ms := ⟨_, rfl⟩
        have HSN : Hid (∀ wx, Below U0.heap.size U0 wx → Calls Try.prog 134 #[.slice (some ⟨b, off, none⟩) n c, .int .i64 (k : Int), .slice C mn cc] wx (RetBq wx sn)) := Lib.hid (fun wx hbx => by
          rw [hsn, ← HSE.out k]
          exact isSeen_any (HR0.out.below (belowT' (belowT' HB.out bU) hbx)) (by omega) k hlt (HM.out.below (belowT' (belowT' HB.out bU) hbx)) (by omega) HRS.out)
        have HNW : Hid (Calls Try.prog 133 #[.slice (some ⟨b, off, none⟩) n c, .int .i64 (k : Int)] U0 (RetNw U0 nw)) := Lib.hid (by rw [hnw]; exact mgNewer_any (HR0.out.below (belowT' HB.out bU)) (by omega) k hlt)
        have HPK : Hid (pkE (keepP es ms) es (k + 1) = pkE (keepP es ms) es k ++ (if !nw.isSome || sn then [x] else [])) := Lib.hid (by rw [pkE_snoc hx, hnw, hsn]; rfl)
        have hmn2 : m ≤ n := by have := HP.out.len; have := pkE_len (keepP es ms) es k; omega
        clear hx c0 c1 c2 c3 hev hmem hU hg0 bU zU hB hsn hnw
        go_upto_region 10 with (fail)
        rw [← HU.out, ← HG.out]
        clear d0 d1 d2 d3
        go_wp2_with fail
        with_reducible refine HNW.out.mono ?_
        rintro e w3 ⟨rfl, q3, hq3⟩
        have bq3 : Below U0.heap.size U0 w3 := by rw [hq3]; exact below_drewN (Below.refl _ _) q3
        have HQ3 := Lib.hid bq3
        clear hq3 bq3
        have HAPP : Hid (∀ w4, Below U0.heap.size U0 w4 → ∃ vs, OwnE w4 W0.heap.size L m d vs ∧ EVs W0 (pkE (keepP es ms) es k) vs ∧ (pkE (keepP es ms) es k).length = m ∧ Below W0.heap.size W0 w4 ∧ (∀ u ∈ vs, u ∈ ovs)) := Lib.hid (fun w4 hb => HPU.out.below hb)
        cases nw with
        | none =>
          obtain ⟨z0, z1, z2, z3, _⟩ := (ZU.out.below HQ3.out).c4
          obtain ⟨vs, o1, hev1, hlen1, hb1, hm1⟩ := HAPP.out w3 HQ3.out
          have O1 := Lib.hid o1
          have HE1 := Lib.hid hev1
          have HL1 := Lib.hid hlen1
          have HM1 := Lib.hid hm1
          have HB1 := Lib.hid hb1
          have bl : Below w3.heap.size w3 (w3.alloc (.cells #[.slice K kn kc, .int .u64 (x.seq : Int), .int .u8 (x.kind : Int), .slice V vn vc] 37)) := (Below.refl _ _).alloc (Nat.le_refl _) _
          have O1' := Lib.hid (O1.out.below bl)
          have r2 := Lib.hid (rdv_of_cl (Cl.new w3 #[.slice K kn kc, .int .u64 (x.seq : Int), .int .u8 (x.kind : Int), .slice V vn vc] 37))
          have BL := Lib.hid bl
          have sW := HB1.out.size
          clear o1 hev1 hlen1 hb1 hm1 bl
          go_wp2_with (at_builtin; refine wpList_app4 (w3.alloc (.cells #[.slice K kn kc, .int .u64 (x.seq : Int), .int .u8 (x.kind : Int), .slice V vn vc] 37)) rfl _ _ 22 rfl W0.heap.size _ 64 Try.underlying22 info_ent rfl L m d vs rfl O1'.out (some ⟨w3.heap.size, 0, none⟩) 1 1 [.slice K kn kc, .int .u64 (x.seq : Int), .int .u8 (x.kind : Int), .slice V vn vc] rfl r2.out HEV.out.cells ?_ ?_ ?_ ?_)
          · omega
          · omega
          · simp; omega
          intro A2 c2 w5 o2 _ b2
          have HP3 : Hid (Pck W0 ovs (pkE (keepP es ms) es (k + 1)) A2 (m + 1) c2 w5) := Lib.hid (by
            rw [HPK.out]
            exact Pck.snoc HE1.out HL1.out HM1.out HEV.out HMEM.out o2 ((HB1.out.trans (BL.out.mono sW)).trans b2))
          clear o2 b2 z0 z1 z2 z3
          go_wp2_with fail
          go_roundw
          case rel => exact ⟨k + 1, m + 1, c2, A2, by omega, by go_num, rfl, HP3.out⟩
          case measure => simp [intOf]; omega
        | some u =>
          have HSN3 := Lib.hid (HSN.out w3 HQ3.out)
          go_wp2_with fail
          with_reducible refine HSN3.out.mono ?_
          rintro e w4 ⟨rfl, q4, hq4⟩
          have bq4 : Below U0.heap.size U0 w4 := belowT' HQ3.out (by rw [hq4]; exact below_drewN (Below.refl _ _) q4)
          have HQ4 := Lib.hid bq4
          clear hq4 bq4
          cases sn with
          | true =>
            obtain ⟨z0, z1, z2, z3, _⟩ := (ZU.out.below HQ4.out).c4
            obtain ⟨vs, o1, hev1, hlen1, hb1, hm1⟩ := HAPP.out w4 HQ4.out
            have O1 := Lib.hid o1
            have HE1 := Lib.hid hev1
            have HL1 := Lib.hid hlen1
            have HM1 := Lib.hid hm1
            have HB1 := Lib.hid hb1
            have bl : Below w4.heap.size w4 (w4.alloc (.cells #[.slice K kn kc, .int .u64 (x.seq : Int), .int .u8 (x.kind : Int), .slice V vn vc] 37)) := (Below.refl _ _).alloc (Nat.le_refl _) _
            have O1' := Lib.hid (O1.out.below bl)
            have r2 := Lib.hid (rdv_of_cl (Cl.new w4 #[.slice K kn kc, .int .u64 (x.seq : Int), .int .u8 (x.kind : Int), .slice V vn vc] 37))
            have BL := Lib.hid bl
            have sW := HB1.out.size
            clear o1 hev1 hlen1 hb1 hm1 bl
            go_wp2_with (at_builtin; refine wpList_app4 (w4.alloc (.cells #[.slice K kn kc, .int .u64 (x.seq : Int), .int .u8 (x.kind : Int), .slice V vn vc] 37)) rfl _ _ 22 rfl W0.heap.size _ 64 Try.underlying22 info_ent rfl L m d vs rfl O1'.out (some ⟨w4.heap.size, 0, none⟩) 1 1 [.slice K kn kc, .int .u64 (x.seq : Int), .int .u8 (x.kind : Int), .slice V vn vc] rfl r2.out HEV.out.cells ?_ ?_ ?_ ?_)
            · omega
            · omega
            · simp; omega
            intro A2 c2 w5 o2 _ b2
            have HP3 : Hid (Pck W0 ovs (pkE (keepP es ms) es (k + 1)) A2 (m + 1) c2 w5) := Lib.hid (by
              rw [HPK.out]
              exact Pck.snoc HE1.out HL1.out HM1.out HEV.out HMEM.out o2 ((HB1.out.trans (BL.out.mono sW)).trans b2))
            clear o2 b2 z0 z1 z2 z3
            go_wp2_with fail
            go_roundw
            case rel => exact ⟨k + 1, m + 1, c2, A2, by omega, by go_num, rfl, HP3.out⟩
            case measure => simp [intOf]; omega
          | false =>
            have HP3 : Hid (Pck W0 ovs (pkE (keepP es ms) es (k + 1)) L m d w4) := Lib.hid (by
              rw [HPK.out]
              simpa using HPU.out.below HQ4.out)
            go_wp2_with fail
            go_roundw
            case rel => exact ⟨k + 1, m, d, L, by omega, by go_num, rfl, HP3.out⟩
            case measure => simp [intOf]; omega
      · obtain rfl : k = n := by omega
        obtain ⟨vs, o1, hev1, hlen1, hb1, hm1⟩ := HP.out
        have hml : m ≤ k := by rw [← hlen1]; exact pkE_len _ _ _
        have hre : REs wr L m (pkE (keepP es ms) es k) := REs.mk (hev1.below hb1) o1.rd hlen1
        have hmd := o1.cap.1
        have hsz : ∀ y ∈ pkE (keepP es ms) es k, SzE y := fun y hy => HS.out y (pkE_mem hy)
        have HBW := Lib.hid (belowT' B0.out hb1)
        have HRE := Lib.hid hre
        have HSZ := Lib.hid hsz
        clear o1 hev1 hlen1 hb1 hm1 hre hsz
        cases bot with
        | false =>
          have HOW := Lib.hid (mgOwn_any (c := d) HRE.out (by omega) HSZ.out)
          go_wp2_with fail
          with_reducible refine HOW.out.mono ?_
          rintro e w2 ⟨L2, n2, c2, rfl, hrow⟩
          have HF : Hid (RetMg w 0 (keepE es false ms) (.returned (.tuple #[.slice L2 n2 c2, .int .i64 0])) w2) := Lib.hid (.inr ⟨rfl, L2, n2, c2, rfl, by rw [HKE.out]; exact hrow.lower HBW.out⟩)
          clear hrow
          go_wp2_with fail
          exact bodyPost_ret (v := .tuple #[.slice L2 n2 c2, .int .i64 0]) (by simp [results, Try.f77, go_sem]; try rfl) rfl HF.out
        | true =>
          have HIW := Lib.hid (HID.out rfl wr L m d _ HRE.out hml hmd HSZ.out)
          go_wp2_with fail
          with_reducible refine HIW.out.mono ?_
          rintro e w6 ⟨L6, m6, d6, rfl, hr6, hd6, b6⟩
          have hm6 : m6 ≤ m := by
            have h1 := hr6.len
            have h2 := idleE_len (pkE (keepP es ms) es k)
            have h3 := HRE.out.len
            omega
          have HOW := Lib.hid (mgOwn_any (c := d6) hr6 (by omega) (fun y hy => HSZ.out y (idleE_mem hy)))
          have HB6 := Lib.hid (belowT' HBW.out b6)
          clear hr6 b6
          go_wp2_with fail
          with_reducible refine HOW.out.mono ?_
          rintro e w2 ⟨L2, n2, c2, rfl, hrow⟩
          have HF : Hid (RetMg w 0 (keepE es true ms) (.returned (.tuple #[.slice L2 n2 c2, .int .i64 0])) w2) := Lib.hid (.inr ⟨rfl, L2, n2, c2, rfl, by rw [HKE.out]; exact hrow.lower HB6.out⟩)
          clear hrow
          go_wp2_with fail
          exact bodyPost_ret (v := .tuple #[.slice L2 n2 c2, .int .i64 0]) (by simp [results, Try.f77, go_sem]; try rfl) rfl HF.out
  · have t1 : (z == 0) = false := by rw [beq_eq_false_iff_ne]; exact hz0
    go_wp2_with fail
    exact bodyPost_ret (v := .tuple #[.slice none 0 0, .int .i64 z]) (by simp [results, Try.f77, go_sem]; try rfl) rfl (.inl ⟨hz0, rfl, B1.out⟩)
end Go.Proofs.Ytcclhkoggijkaaa
namespace Go.Proofs.Ytcclhkoggijkaaa
open Go Go.RowKit

section
variable {G H : Nat → Prop} {w w' : World}
theorem EG.reg {e : En} {v0 v1 v2 v3 : Value} (h : EG G w e v0 v1 v2 v3) (hs : ∀ b, b < w.heap.size → G b → H b) : EG H w e v0 v1 v2 v3 :=
  ⟨h.1, fun A m c g hv hg => hs g (h.1.lt hv hg).2 (h.2 A m c g hv hg)⟩
/-- 'Blocks of this kind are no bytes and no slices of bytes.' -/
def okB (ty : TypeId) : Prop := ty ≠ 5 ∧ ty ≠ 25
/-- 'Good bytes stand, and whatever is no row of bytes or of slices of bytes.' -/
def FrB (G : Nat → Prop) (w w' : World) : Prop := ∀ b us ty, Cl w b us ty → (ty = 5 ∧ G b) ∨ okB ty → Cl w' b us ty
theorem own_good {b n c : Nat} {A : Option Addr} {xs : List UInt8} (h : Own 5 w b A n c xs) (hf : FrB G w w') (hg : ∀ k, blk A = some k → G k) : Own 5 w' b A n c xs := by
  refine ⟨h.1, ?_⟩
  rcases h.2 with h1 | ⟨g, cap, cur, h1, h2, h3, h4⟩
  · exact .inl h1
  · injection h1 with e1 e2 e3
    exact .inr ⟨g, cap, cur, by rw [e1, e2, e3], h2, hf g cur _ h3 (.inl ⟨rfl, hg g (by rw [e1]; rfl)⟩), h4⟩
theorem EG.fr {e : En} {v0 v1 v2 v3 : Value} (h : EG G w e v0 v1 v2 v3) (hf : FrB G w w') : EG G w' e v0 v1 v2 v3 := by
  obtain ⟨⟨K, kn, kc, V, vn, vc, rfl, rfl, rfl, rfl, o1, o2, u⟩, hg⟩ := h
  exact ⟨⟨K, kn, kc, V, vn, vc, rfl, rfl, rfl, rfl, own_good o1 hf (fun k hk => hg K kn kc k (by simp) hk), own_good o2 hf (fun k hk => hg V vn vc k (by simp) hk), u⟩, hg⟩
theorem okB_ent : okB 37 := ⟨by decide, by decide⟩
/-- Behind what writes over the lists alone. -/
theorem FrB.of_off {base : Nat} {ps : List VB} (hF : Fam w base ps) (h : ∀ b, b < w.heap.size → OffF ps b → w'.heap[b]? = w.heap[b]?) : FrB (OffF ps) w w' := fun b us ty hc hk => by
  rcases hk with ⟨_, hg⟩ | ⟨hk, _⟩
  · exact (h b hc.lt hg).trans hc
  · exact (h b hc.lt (hF.off_cl hc hk)).trans hc
/-- Behind what makes a row of slices longer. -/
theorem FrB.of_row {base n c : Nat} {L : Option Addr} {vs : List Value} (hl : OwnV 25 w base L n c vs) (hg : w.grownBy w' (blk L)) : FrB G w w' := fun b us ty hc hk => by
  refine hc.grown hg (cl_row hc hl ?_)
  rcases hk with ⟨h, _⟩ | ⟨_, h⟩
  · rw [h]; decide
  · exact h
end
/-- One entry more, behind all that are there. -/
theorem putZ_next {t : Tr} {x : En} (h1 : SortL (t.list ++ [x])) (h2 : okE x = true) : ∃ t' : Tr, putZ t [x] = (0, t') ∧ t'.list = t.list ++ [x] := by
  have hs : SortL t.list := (List.pairwise_append.1 h1).1
  have h3 := refIns_sort (p := t.list) (q := [x]) h1
  obtain ⟨k1, k2⟩ := insAll_ref [x] (t := t) hs
  cases hi : insAll t [x] with
  | none => have := k2 hi; rw [h3] at this; cases this
  | some t' =>
    obtain ⟨e1, _⟩ := k1 t' hi
    rw [h3] at e1
    injection e1 with e1
    refine ⟨t', ?_, e1.symm⟩
    unfold putZ
    rw [if_pos (checkE_ok (es := [x]) (fun y hy => by simp only [List.mem_singleton] at hy; subst hy; exact h2)), hi]
end Go.Proofs.Ytcclhkoggijkaaa
namespace Go.Proofs.Ytcclhkoggijkaaa
open Go Go.RowKit

/-- Two lists in order as one; of two alike that of the first. -/
def mrg2 : List En → List En → List En
  | [], gs => gs
  | x :: es, [] => x :: es
  | x :: es, y :: gs => if lessE y x then y :: mrg2 (x :: es) gs else if lessE x y then x :: mrg2 es (y :: gs) else x :: mrg2 es gs
termination_by a b => a.length + b.length
theorem mrg2_nil (es : List En) : mrg2 es [] = es := by
  cases es <;> simp [mrg2]
theorem nil_mrg2 (gs : List En) : mrg2 [] gs = gs := by simp [mrg2]
theorem mrg2_cons (x y : En) (es gs : List En) : mrg2 (x :: es) (y :: gs) = if lessE y x then y :: mrg2 (x :: es) gs else if lessE x y then x :: mrg2 es (y :: gs) else x :: mrg2 es gs := by rw [mrg2]
theorem inL_iff {es : List En} {e : En} : inL es e = true ↔ ∃ x ∈ es, x.key = e.key ∧ x.seq = e.seq := by
  unfold inL
  rw [List.any_eq_true]
  exact ⟨fun ⟨x, h1, h2⟩ => ⟨x, h1, sameK_iff.1 h2⟩, fun ⟨x, h1, h2⟩ => ⟨x, h1, sameK_iff.2 h2⟩⟩
theorem inL_not {es : List En} {e : En} : inL es e = false ↔ ∀ x ∈ es, ¬ (x.key = e.key ∧ x.seq = e.seq) := by
  rw [← Bool.not_eq_true, inL_iff]
  exact ⟨fun h x hx hk => h ⟨x, hx, hk⟩, fun h ⟨x, hx, hk⟩ => h x hx hk⟩
theorem less_ne {a b : En} (h : lessE a b = true) : ¬ (a.key = b.key ∧ a.seq = b.seq) := fun hk => by
  have := (sameK_not (sameK_iff.2 hk)).1
  rw [h] at this
  cases this
theorem sort_head {x : En} {es : List En} (h : SortL (x :: es)) : ∀ y ∈ es, lessE x y = true := (List.pairwise_cons.1 h).1
theorem sort_tail {x : En} {es : List En} (h : SortL (x :: es)) : SortL es := (List.pairwise_cons.1 h).2
theorem mrg2_mem {z : En} : ∀ {es gs : List En}, SortL es → SortL gs → (z ∈ mrg2 es gs ↔ z ∈ es ∨ (z ∈ gs ∧ inL es z = false))
  | [], gs, _, _ => by
    rw [nil_mrg2]
    simp [inL]
  | x :: es, [], _, _ => by
    rw [mrg2_nil]
    simp
  | x :: es, y :: gs, h1, h2 => by
    have t1 := sort_tail h1
    have t2 := sort_tail h2
    rw [mrg2_cons]
    by_cases hyx : lessE y x = true
    · rw [if_pos hyx, List.mem_cons, mrg2_mem (es := x :: es) h1 t2]
      have hny : inL (x :: es) y = false := by
        rw [inL_not]
        intro v hv hk
        rcases List.mem_cons.1 hv with e | e
        · rw [e] at hk
          exact less_ne hyx ⟨hk.1.symm, hk.2.symm⟩
        · exact less_ne (lessE_trans hyx (sort_head h1 v e)) ⟨hk.1.symm, hk.2.symm⟩
      constructor
      · rintro (h | h | ⟨h, k⟩)
        · exact .inr ⟨by rw [h]; exact List.mem_cons_self, by rw [h]; exact hny⟩
        · exact .inl h
        · exact .inr ⟨List.mem_cons_of_mem _ h, k⟩
      · rintro (h | ⟨h, k⟩)
        · exact .inr (.inl h)
        · rcases List.mem_cons.1 h with h | h
          · exact .inl h
          · exact .inr (.inr ⟨h, k⟩)
    · rw [if_neg hyx]
      by_cases hxy : lessE x y = true
      · rw [if_pos hxy, List.mem_cons, mrg2_mem (gs := y :: gs) t1 h2]
        have hx : ∀ v ∈ y :: gs, ¬ (x.key = v.key ∧ x.seq = v.seq) := fun v hv => by
          rcases List.mem_cons.1 hv with e | e
          · rw [e]; exact less_ne hxy
          · exact less_ne (lessE_trans hxy (sort_head h2 v e))
        constructor
        · rintro (h | h | ⟨h, k⟩)
          · exact .inl (by rw [h]; exact List.mem_cons_self)
          · exact .inl (List.mem_cons_of_mem _ h)
          · refine .inr ⟨h, ?_⟩
            rw [inL_not] at k ⊢
            intro v hv
            rcases List.mem_cons.1 hv with e | e
            · rw [e]; exact hx z h
            · exact k v e
        · rintro (h | ⟨h, k⟩)
          · rcases List.mem_cons.1 h with h | h
            · exact .inl h
            · exact .inr (.inl h)
          · refine .inr (.inr ⟨h, ?_⟩)
            rw [inL_not] at k ⊢
            exact fun v hv => k v (List.mem_cons_of_mem _ hv)
      · have hs : x.key = y.key ∧ x.seq = y.seq := by
          rcases lessE_tri x y with h | h | h
          · exact absurd h hxy
          · exact absurd h hyx
          · exact sameK_iff.1 h
        rw [if_neg hxy, List.mem_cons, mrg2_mem t1 t2]
        have hx : ∀ v ∈ gs, ¬ (x.key = v.key ∧ x.seq = v.seq) := fun v hv hk =>
          less_ne (sort_head h2 v hv) ⟨hs.1.symm.trans hk.1, hs.2.symm.trans hk.2⟩
        constructor
        · rintro (h | h | ⟨h, k⟩)
          · exact .inl (by rw [h]; exact List.mem_cons_self)
          · exact .inl (List.mem_cons_of_mem _ h)
          · refine .inr ⟨List.mem_cons_of_mem _ h, ?_⟩
            rw [inL_not] at k ⊢
            intro v hv
            rcases List.mem_cons.1 hv with e | e
            · rw [e]; exact hx z h
            · exact k v e
        · rintro (h | ⟨h, k⟩)
          · rcases List.mem_cons.1 h with h | h
            · exact .inl h
            · exact .inr (.inl h)
          · rw [inL_not] at k
            rcases List.mem_cons.1 h with h | h
            · exact absurd (by rw [h]; exact hs) (k x List.mem_cons_self)
            · refine .inr (.inr ⟨h, ?_⟩)
              rw [inL_not]
              exact fun v hv => k v (List.mem_cons_of_mem _ hv)
termination_by es gs => es.length + gs.length
theorem mrg2_sort : ∀ {es gs : List En}, SortL es → SortL gs → SortL (mrg2 es gs)
  | [], gs, _, h => by rw [nil_mrg2]; exact h
  | x :: es, [], h, _ => by rw [mrg2_nil]; exact h
  | x :: es, y :: gs, h1, h2 => by
    have t1 := sort_tail h1
    have t2 := sort_tail h2
    rw [mrg2_cons]
    by_cases hyx : lessE y x = true
    · rw [if_pos hyx]
      refine List.pairwise_cons.2 ⟨fun v hv => ?_, mrg2_sort h1 t2⟩
      rcases (mrg2_mem h1 t2).1 hv with h | ⟨h, _⟩
      · rcases List.mem_cons.1 h with e | e
        · rw [e]; exact hyx
        · exact lessE_trans hyx (sort_head h1 v e)
      · exact sort_head h2 v h
    · rw [if_neg hyx]
      by_cases hxy : lessE x y = true
      · rw [if_pos hxy]
        refine List.pairwise_cons.2 ⟨fun v hv => ?_, mrg2_sort t1 h2⟩
        rcases (mrg2_mem t1 h2).1 hv with h | ⟨h, _⟩
        · exact sort_head h1 v h
        · rcases List.mem_cons.1 h with e | e
          · rw [e]; exact hxy
          · exact lessE_trans hxy (sort_head h2 v e)
      · rw [if_neg hxy]
        have hs : x.key = y.key ∧ x.seq = y.seq := by
          rcases lessE_tri x y with h | h | h
          · exact absurd h hxy
          · exact absurd h hyx
          · exact sameK_iff.1 h
        refine List.pairwise_cons.2 ⟨fun v hv => ?_, mrg2_sort t1 t2⟩
        rcases (mrg2_mem t1 t2).1 hv with h | ⟨h, _⟩
        · exact sort_head h1 v h
        · have := sort_head h2 v h
          rw [lessE_iff] at this ⊢
          rw [hs.1, hs.2]
          exact this
termination_by es gs => es.length + gs.length
theorem mrg2_len : ∀ (es gs : List En), (mrg2 es gs).length ≤ es.length + gs.length
  | [], gs => by rw [nil_mrg2]; simp
  | x :: es, [] => by rw [mrg2_nil]; simp
  | x :: es, y :: gs => by
    have h1 := mrg2_len (x :: es) gs
    have h2 := mrg2_len es (y :: gs)
    have h3 := mrg2_len es gs
    simp only [List.length_cons] at h1 h2
    rw [mrg2_cons]
    split
    · simp only [List.length_cons]; omega
    · split <;> simp only [List.length_cons] <;> omega
termination_by es gs => es.length + gs.length
theorem mrg2_from {z : En} : ∀ {es gs : List En}, z ∈ mrg2 es gs → z ∈ es ∨ z ∈ gs
  | [], gs, h => by rw [nil_mrg2] at h; exact .inr h
  | x :: es, [], h => by rw [mrg2_nil] at h; exact .inl h
  | x :: es, y :: gs, h => by
    rw [mrg2_cons] at h
    split at h
    · rcases List.mem_cons.1 h with h | h
      · exact .inr (by rw [h]; exact List.mem_cons_self)
      · rcases mrg2_from h with h | h
        · exact .inl h
        · exact .inr (List.mem_cons_of_mem _ h)
    · split at h
      · rcases List.mem_cons.1 h with h | h
        · exact .inl (by rw [h]; exact List.mem_cons_self)
        · rcases mrg2_from h with h | h
          · exact .inl (List.mem_cons_of_mem _ h)
          · exact .inr h
      · rcases List.mem_cons.1 h with h | h
        · exact .inl (by rw [h]; exact List.mem_cons_self)
        · rcases mrg2_from h with h | h
          · exact .inl (List.mem_cons_of_mem _ h)
          · exact .inr (List.mem_cons_of_mem _ h)
termination_by es gs => es.length + gs.length
/-- Lists in order are what they have. -/
theorem sort_ext : ∀ {es gs : List En}, SortL es → SortL gs → (∀ z, z ∈ es ↔ z ∈ gs) → es = gs
  | [], [], _, _, _ => rfl
  | [], y :: gs, _, _, h => by have := (h y).2 List.mem_cons_self; cases this
  | x :: es, [], _, _, h => by have := (h x).1 List.mem_cons_self; cases this
  | x :: es, y :: gs, h1, h2, h => by
    have hxy : x = y := by
      rcases List.mem_cons.1 ((h x).1 List.mem_cons_self) with e | e
      · exact e
      · rcases List.mem_cons.1 ((h y).2 List.mem_cons_self) with k | k
        · exact k.symm
        · have a1 := sort_head h2 x e
          have a2 := lessE_asym (sort_head h1 y k)
          rw [a1] at a2
          cases a2
    subst hxy
    have : es = gs := sort_ext (sort_tail h1) (sort_tail h2) (fun z => by
      have hz := h z
      have n1 : ∀ {l : List En}, SortL (x :: l) → z ∈ l → z ≠ x := fun hs hz he => by
        have := sort_head hs z hz
        rw [he, lessE_irr] at this
        cases this
      constructor
      · intro k
        rcases List.mem_cons.1 (hz.1 (List.mem_cons_of_mem _ k)) with e | e
        · exact absurd e (n1 h1 k)
        · exact e
      · intro k
        rcases List.mem_cons.1 (hz.2 (List.mem_cons_of_mem _ k)) with e | e
        · exact absurd e (n1 h2 k)
        · exact e)
    rw [this]
theorem inL_mrg2 {es gs : List En} (h1 : SortL es) (h2 : SortL gs) (z : En) : inL (mrg2 es gs) z = (inL es z || inL gs z) := by
  cases hb : (inL es z || inL gs z) with
  | true =>
    rw [inL_iff]
    by_cases he : inL es z = true
    · obtain ⟨x, hx, hk⟩ := inL_iff.1 he
      exact ⟨x, (mrg2_mem h1 h2).2 (.inl hx), hk⟩
    · rw [Bool.not_eq_true] at he
      rw [he, Bool.false_or] at hb
      obtain ⟨x, hx, hk⟩ := inL_iff.1 hb
      refine ⟨x, (mrg2_mem h1 h2).2 (.inr ⟨hx, ?_⟩), hk⟩
      rw [inL_not] at he ⊢
      exact fun v hv k => he v hv ⟨k.1.trans hk.1, k.2.trans hk.2⟩
  | false =>
    rw [Bool.or_eq_false_iff] at hb
    rw [inL_not]
    intro v hv
    rcases (mrg2_mem h1 h2).1 hv with h | ⟨h, _⟩
    · exact inL_not.1 hb.1 v h
    · exact inL_not.1 hb.2 v h
theorem mrg2_assoc {a b c : List En} (ha : SortL a) (hb : SortL b) (hc : SortL c) : mrg2 (mrg2 a b) c = mrg2 a (mrg2 b c) := by
  have hab := mrg2_sort ha hb
  have hbc := mrg2_sort hb hc
  refine sort_ext (mrg2_sort hab hc) (mrg2_sort ha hbc) (fun z => ?_)
  rw [mrg2_mem hab hc, mrg2_mem ha hbc, mrg2_mem ha hb, mrg2_mem hb hc, inL_mrg2 ha hb, Bool.or_eq_false_iff]
  constructor
  · rintro ((h | ⟨h, k⟩) | ⟨h, k1, k2⟩)
    · exact .inl h
    · exact .inr ⟨.inl h, k⟩
    · exact .inr ⟨.inr ⟨h, k2⟩, k1⟩
  · rintro (h | ⟨h | ⟨h, k⟩, k2⟩)
    · exact .inl (.inl h)
    · exact .inl (.inr ⟨h, k2⟩)
    · exact .inr ⟨h, k2, k⟩
theorem mrg2_self {a : List En} (h : SortL a) : mrg2 a a = a := by
  refine sort_ext (mrg2_sort h h) h (fun z => ?_)
  rw [mrg2_mem h h]
  constructor
  · rintro (k | ⟨k, _⟩) <;> exact k
  · exact .inl
/-- Entries put in one by one, those that aren't there. -/
def insA (o : List En) : List En → List En
  | [] => o
  | x :: xs => insA (if inL o x then o else insL o x) xs
theorem insL_mem2 {o : List En} {x z : En} (hs : SortL o) (hin : inL o x = false) : z ∈ insL o x ↔ z ∈ o ∨ z = x := by
  obtain ⟨p, q, e, h1, h2⟩ := split_of hs hin
  subst e
  rw [insL_app (fun y hy => lessE_asym (h1 y hy)) h2]
  simp only [List.mem_append, List.mem_cons]
  constructor
  · rintro (h | h | h)
    · exact .inl (.inl h)
    · exact .inr h
    · exact .inl (.inr h)
  · rintro ((h | h) | h)
    · exact .inl h
    · exact .inr (.inr h)
    · exact .inr (.inl h)
theorem insA_mrg2 : ∀ {xs o : List En}, SortL o → SortL xs → insA o xs = mrg2 o xs
  | [], o, _, _ => by rw [mrg2_nil]; rfl
  | x :: xs, o, ho, hx => by
    have tx := sort_tail hx
    rw [insA]
    have hone : SortL [x] := List.pairwise_singleton _ _
    have hstep : (if inL o x then o else insL o x) = mrg2 o [x] := by
      by_cases hi : inL o x = true
      · rw [if_pos hi]
        refine (sort_ext (mrg2_sort ho hone) ho (fun z => ?_)).symm
        rw [mrg2_mem ho hone, List.mem_singleton]
        constructor
        · rintro (h | ⟨h, k⟩)
          · exact h
          · rw [h, hi] at k; cases k
        · exact .inl
      · rw [if_neg hi]
        rw [Bool.not_eq_true] at hi
        refine sort_ext (insL_sort ho hi) (mrg2_sort ho hone) (fun z => ?_)
        rw [insL_mem2 ho hi, mrg2_mem ho hone, List.mem_singleton]
        constructor
        · rintro (h | h)
          · exact .inl h
          · exact .inr ⟨h, by rw [h]; exact hi⟩
        · rintro (h | ⟨h, _⟩)
          · exact .inl h
          · exact .inr h
    have hcat : mrg2 [x] xs = x :: xs := by
      refine sort_ext (mrg2_sort hone tx) hx (fun z => ?_)
      rw [mrg2_mem hone tx, List.mem_singleton, List.mem_cons]
      constructor
      · rintro (h | ⟨h, _⟩)
        · exact .inl h
        · exact .inr h
      · rintro (h | h)
        · exact .inl h
        · refine .inr ⟨h, ?_⟩
          rw [inL_not]
          intro v hv
          rw [List.mem_singleton] at hv
          rw [hv]
          exact less_ne (sort_head hx z h)
    rw [hstep, insA_mrg2 (mrg2_sort ho hone) tx, mrg2_assoc ho hone tx, hcat]
/-- What the reference's Merge makes. -/
def refM (ls : List (List En)) : List En := ls.foldl insA []
/-- What join makes. -/
def joinL : Nat → List (List En) → List En
  | 0, _ => []
  | f + 1, ls => match ls with
    | [] => []
    | [x] => x
    | _ => mrg2 (joinL f (ls.take (ls.length / 2))) (joinL f (ls.drop (ls.length / 2)))
def AllS (ls : List (List En)) : Prop := ∀ l ∈ ls, SortL l
theorem foldl_sort : ∀ {ls : List (List En)} {o : List En}, SortL o → AllS ls → SortL (ls.foldl mrg2 o)
  | [], _, h, _ => h
  | l :: ls, o, h, hs => by
    rw [List.foldl_cons]
    exact foldl_sort (mrg2_sort h (hs l List.mem_cons_self)) (fun x hx => hs x (List.mem_cons_of_mem _ hx))
theorem foldl_ins : ∀ {ls : List (List En)} {o : List En}, SortL o → AllS ls → ls.foldl insA o = ls.foldl mrg2 o
  | [], _, _, _ => rfl
  | l :: ls, o, h, hs => by
    have hl := hs l List.mem_cons_self
    rw [List.foldl_cons, List.foldl_cons, insA_mrg2 h hl]
    exact foldl_ins (mrg2_sort h hl) (fun x hx => hs x (List.mem_cons_of_mem _ hx))
theorem sort_nil : SortL [] := List.Pairwise.nil
theorem foldl_out : ∀ {ls : List (List En)} {o : List En}, SortL o → AllS ls → ls.foldl mrg2 o = mrg2 o (ls.foldl mrg2 [])
  | [], o, _, _ => by simp only [List.foldl_nil]; rw [mrg2_nil]
  | l :: ls, o, h, hs => by
    have hl := hs l List.mem_cons_self
    have ht : AllS ls := fun x hx => hs x (List.mem_cons_of_mem _ hx)
    rw [List.foldl_cons, List.foldl_cons, nil_mrg2, foldl_out (mrg2_sort h hl) ht, foldl_out hl ht, mrg2_assoc h hl (foldl_sort sort_nil ht)]
theorem joinL_eq : ∀ (f : Nat) {ls : List (List En)}, ls.length ≤ f → AllS ls → joinL f ls = ls.foldl mrg2 []
  | 0, ls, h, _ => by
    have : ls = [] := List.eq_nil_of_length_eq_zero (by omega)
    subst this
    rfl
  | f + 1, ls, h, hs => by
    match ls, h, hs with
    | [], _, _ => rfl
    | [x], _, _ => rw [joinL, List.foldl_cons, List.foldl_nil, nil_mrg2]
    | x :: y :: t, h, hs =>
      rw [joinL]
      · generalize hg : x :: y :: t = ls at h hs ⊢
        have h2 : 2 ≤ ls.length := by rw [← hg]; simp
        have s1 : AllS (ls.take (ls.length / 2)) := fun l hl => hs l (List.mem_of_mem_take hl)
        have s2 : AllS (ls.drop (ls.length / 2)) := fun l hl => hs l (List.mem_of_mem_drop hl)
        rw [joinL_eq f (by rw [List.length_take]; omega) s1, joinL_eq f (by rw [List.length_drop]; omega) s2, ← foldl_out (foldl_sort sort_nil s1) s2, ← List.foldl_append, List.take_append_drop]
      · intro h; cases h
      · intro z h; cases h
theorem joinL_ref {ls : List (List En)} (hs : AllS ls) : joinL ls.length ls = refM ls := by
  unfold refM
  rw [joinL_eq _ (Nat.le_refl _) hs, foldl_ins sort_nil hs]
end Go.Proofs.Ytcclhkoggijkaaa
namespace Go.Proofs.Ytcclhkoggijkaaa
open Go Go.RowKit

def e11 (s : Nat) : En := ⟨[107], s, 1, []⟩
theorem k11 : keepE [e11 9, e11 7, e11 5, e11 3] false [6] = [e11 9, e11 5] := by decide +kernel
theorem c11 : chk1 [e11 9, e11 7, e11 5, e11 3] = 0 := by decide +kernel
/-- Keep at one moment. -/
theorem keep1_any {w : World} {A M : Option Addr} {n c mc a : Nat} {es : List En} (h : REs w A n es) (hn : n ≤ 2097152) (hc : n ≤ c) (hs : ∀ x ∈ es, SzE x) (hm : RdU w M 1 [a]) :
    Calls Try.prog 77 #[.slice A n c, .bool false, .slice M 1 mc] w (RetMg w (chk1 es) (keepE es false [a])) :=
  keep_any h hn hc hs hm (by omega) (List.pairwise_singleton _ _) hm.2 rfl (fun _ => rfl)
    (fun wx base C cc hb ho => (sort1_any C cc wx).mono (by rintro e w' ⟨rfl, rfl⟩; exact ⟨rfl, ho, Below.refl _ _⟩)) (fun h => by cases h)
set_option maxRecDepth 100000 in
set_option maxHeartbeats 4000000 in
theorem awake11_any (w : World) : Calls Try.prog 22 #[] w (RetT w true) := by
  have kc := fun (w : World) (C : Array Value) (n c g : Nat) (hg : g = w.heap.size) => Joins.run_convert_bytes_const_at (P := Try.prog) w 25 5 C n c g hg Try.underlying25 Try.underlying5
  go_enter Try.func22, Try.ntmps22
  go_wp2_with fail
  obtain ⟨W, hW⟩ : ∃ W, W = ((w.alloc (.cells #[.int .u8 107] 5 (1, 2))).alloc (.cells #[.slice (some ⟨w.heap.size, 0, none⟩) 1 1, .int .u64 9, .int .u8 1, .slice none 0 0, .slice (some ⟨w.heap.size, 0, none⟩) 1 1, .int .u64 7, .int .u8 1, .slice none 0 0, .slice (some ⟨w.heap.size, 0, none⟩) 1 1, .int .u64 5, .int .u8 1, .slice none 0 0, .slice (some ⟨w.heap.size, 0, none⟩) 1 1, .int .u64 3, .int .u8 1, .slice none 0 0] 37)).alloc (.cells #[.int .u64 6] 35) := ⟨_, rfl⟩
  rw [← hW]
  have bW : Below w.heap.size w W := by rw [hW]; exact (((Below.refl _ _).alloc (Nat.le_refl _) _).alloc (by simp) _).alloc (by simp; omega) _
  have r1 : Rd W (some ⟨w.heap.size, 0, none⟩) 1 [107] := by rw [hW]; exact ((Rd.cst8 w _ 1 [107] rfl _ rfl (1, 2) _ rfl).alloc _).alloc _
  have rV : RdV W (some ⟨w.heap.size + 1, 0, none⟩) 16 [.slice (some ⟨w.heap.size, 0, none⟩) 1 1, .int .u64 9, .int .u8 1, .slice none 0 0, .slice (some ⟨w.heap.size, 0, none⟩) 1 1, .int .u64 7, .int .u8 1, .slice none 0 0, .slice (some ⟨w.heap.size, 0, none⟩) 1 1, .int .u64 5, .int .u8 1, .slice none 0 0, .slice (some ⟨w.heap.size, 0, none⟩) 1 1, .int .u64 3, .int .u8 1, .slice none 0 0] := by rw [hW]; exact ((ownV_box8 _ _ 0 _ 16 rfl (by omega) (Nat.zero_le _) _ rfl _ (by simp)).rd).below ((Below.refl _ _).alloc (Nat.le_refl _) _)
  have hev : ∀ s : Nat, s ≤ 9 → EV W (e11 s) (.slice (some ⟨w.heap.size, 0, none⟩) 1 1) (.int .u64 (s : Int)) (.int .u8 1) (.slice none 0 0) := fun s hs => ⟨rfl, rfl, by unfold e11 U64; simp; omega, by unfold e11; simp, ⟨_, 1, 1, rfl, r1, by omega, fun h => by cases h⟩, ⟨_, 0, 0, rfl, Rd.nil _ _, by omega, fun _ => rfl⟩⟩
  have hes : REs W (some ⟨w.heap.size + 1, 0, none⟩) 4 [e11 9, e11 7, e11 5, e11 3] := REs.mk (vs := [_, _, _, _] ++ ([_, _, _, _] ++ ([_, _, _, _] ++ [_, _, _, _]))) (EVs.app (EVs.one (hev 9 (by omega))) (EVs.app (EVs.one (hev 7 (by omega))) (EVs.app (EVs.one (hev 5 (by omega))) (EVs.one (hev 3 (by omega)))))) rV rfl
  have hm : RdU W (some ⟨w.heap.size + 1 + 1, 0, none⟩) 1 [6] := by
    rw [hW]
    have := RdU_one ((w.alloc (.cells #[.int .u8 107] 5 (1, 2))).alloc (.cells #[.slice (some ⟨w.heap.size, 0, none⟩) 1 1, .int .u64 9, .int .u8 1, .slice none 0 0, .slice (some ⟨w.heap.size, 0, none⟩) 1 1, .int .u64 7, .int .u8 1, .slice none 0 0, .slice (some ⟨w.heap.size, 0, none⟩) 1 1, .int .u64 5, .int .u8 1, .slice none 0 0, .slice (some ⟨w.heap.size, 0, none⟩) 1 1, .int .u64 3, .int .u8 1, .slice none 0 0] 37)) 6 (by unfold U64; omega) 35
    simpa using this
  have hK : Calls Try.prog 77 #[.slice (some ⟨w.heap.size + 1, 0, none⟩) 4 4, .bool false, .slice (some ⟨w.heap.size + 1 + 1, 0, none⟩) 1 1] W (RetMg W (chk1 [e11 9, e11 7, e11 5, e11 3]) (keepE [e11 9, e11 7, e11 5, e11 3] false [6])) := keep1_any hes (by omega) (by omega) (fun x hx => by
    simp only [List.mem_cons, List.not_mem_nil, or_false] at hx
    rcases hx with rfl | rfl | rfl | rfl <;> exact ⟨by unfold e11; simp, by unfold e11; simp⟩) hm
  rw [c11, k11] at hK
  have HK := Lib.hid hK
  have BW := Lib.hid bW
  clear hK hm hes hev rV r1 bW hW kc
  with_reducible refine HK.out.mono ?_
  rintro e w2 (⟨h0, _⟩ | ⟨_, L, n, c, rfl, hrow⟩)
  · exact absurd rfl h0
  · obtain rfl : n = 2 := hrow.len.symm
    have hr := hrow.rd
    obtain ⟨b, off, rfl, _⟩ := hr.pos (by omega)
    obtain ⟨x, v0, v1, v2, v3, hx, c0, c1, c2, c3, hev⟩ := hr.at_ 0 (by omega)
    obtain ⟨y, u0, u1, u2, u3, hy, d0, d1, d2, d3, hew⟩ := hr.at_ 1 (by omega)
    injection hx with hx
    injection hy with hy
    subst hx hy
    obtain ⟨K, kn, kc, V, vn, vc, rfl, rfl, rfl, rfl, _⟩ := hev.parts
    obtain ⟨K2, kn2, kc2, V2, vn2, vc2, rfl, rfl, rfl, rfl, _⟩ := hew.parts
    have g1 : w2.cell? ⟨b, off + 1, none⟩ = some (.int .u64 9) := by simpa [e11] using c1
    have g2 : w2.cell? ⟨b, off + 4 + 1, none⟩ = some (.int .u64 5) := by simpa [e11] using d1
    have B2 := Lib.hid (belowT' BW.out hrow.bel)
    clear hrow hr hev hew c0 c1 c2 c3 d0 d1 d2 d3
    go_wp2_with fail
    go_ret
    exact ⟨rfl, B2.out⟩
end Go.Proofs.Ytcclhkoggijkaaa
namespace Go.Proofs.Ytcclhkoggijkaaa
open Go Go.RowKit

set_option maxRecDepth 100000 in
set_option maxHeartbeats 4000000 in
theorem few11_any {A : Option Addr} {n c : Nat} {m : Nat} (hc : n ≤ c) (w : World) : Calls Try.prog 81 #[.slice A n c, .int .i64 (m : Int)] w (fun e w' => e = .returned (.slice A (min n m) c) ∧ w' = w) := by
  by_cases h : m < n
  · have hm : min n m = m := by omega
    have hcl : ∀ w, (Instr.slice 22 (.slice A n c) none (some (.int .i64 (m : Int))) none).run Try.prog w = .ok (.slice A m c) w := fun w => cut4_h Try.underlying22 elem4 size4 A (by omega) w
    rw [hm]
    clear hm
    go_enter Try.func81, Try.ntmps81
    go_wp2_with fail
    go_ret
    exact ⟨rfl, rfl⟩
  · have hm : min n m = n := by omega
    rw [hm]
    clear hm
    go_enter Try.func81, Try.ntmps81
    go_wp2_with fail
    go_ret
    exact ⟨rfl, rfl⟩
end Go.Proofs.Ytcclhkoggijkaaa
namespace Go.Proofs.Ytcclhkoggijkaaa
open Go Go.RowKit

theorem REs.tail {w : World} {A : Option Addr} {n c : Nat} {x : En} {es : List En} (h : REs w A (n + 1) (x :: es)) (hc : n + 1 ≤ c) : REs w (cutA4 A 1 c) n es := by
  obtain ⟨hl, vs, hv, hd⟩ := h
  have h1 := hv.drop 1
  have h2 := rdv_cut4 (k := 1) (m := n + 1) (cap := c) hd (by omega) (Nat.le_refl _) hc
  rw [List.take_of_length_le (by rw [hd.1]; omega), Nat.add_sub_cancel] at h2
  exact ⟨by simpa using hl, _, by simpa using h1, by simpa using h2⟩
/-- Entries that can be read, and what was there stands. -/
def RetEs (w : World) (es : List En) (e : Ending) (w' : World) : Prop := ∃ L k d, e = .returned (.slice L k d) ∧ REs w' L k es ∧ k ≤ d ∧ Below w.heap.size w w'
/-- 'So far joined.' -/
def PkM (w : World) (es : List En) (L : Option Addr) (k d : Nat) (wr : World) : Prop :=
  ∃ vs, OwnE wr w.heap.size L k d vs ∧ EVs w es vs ∧ es.length = k ∧ Below w.heap.size w wr
theorem PkM.below {w wr w' : World} {es : List En} {L : Option Addr} {k d : Nat} (h : PkM w es L k d wr) (hb : Below wr.heap.size wr w') : PkM w es L k d w' := by
  obtain ⟨vs, h1, h2, h3, h4⟩ := h
  exact ⟨vs, h1.below hb, h2, h3, belowT' h4 hb⟩
theorem PkM.bel {w wr : World} {es : List En} {L : Option Addr} {k d : Nat} (h : PkM w es L k d wr) : Below w.heap.size w wr := by
  obtain ⟨vs, h1, h2, h3, h4⟩ := h
  exact h4
theorem PkM.len {w wr : World} {es : List En} {L : Option Addr} {k d : Nat} (h : PkM w es L k d wr) : es.length = k := by
  obtain ⟨vs, h1, h2, h3, h4⟩ := h
  exact h3
def lenV : Value → Nat
  | .slice _ n _ => n
  | _ => 0
set_option maxRecDepth 100000 in
set_option maxHeartbeats 16000000 in
theorem joinTwo_any {w : World} {A B : Option Addr} {n c m d : Nat} {es gs : List En} (h : REs w A n es) (hc : n ≤ c) (hg : REs w B m gs) (hd : m ≤ d) (hnm : n + m ≤ 2097152) :
    Calls Try.prog 171 #[.slice A n c, .slice B m d] w (RetEs w (mrg2 es gs)) := by
  obtain ⟨i, hi, hz, hsz, hby⟩ := info_parts info_ent
  obtain ⟨s, hs⟩ : ∃ s, s = n + m := ⟨_, rfl⟩
  have ew : IntKind.i64.wrap ((n : Int) + (m : Int)) = (s : Int) := by rw [IntWalk.i64_in _ (by omega)]; omega
  have ew' : ((n : Int) + (m : Int)) = (s : Int) := by omega
  have eww : IntKind.i64.wrap (s : Int) = (s : Int) := IntWalk.i64_in _ (by omega)
  obtain ⟨wm, hm1, hm2, hm3⟩ := run_make_own (P := Try.prog) (w := w) w.heap.size 22 37 i _ 4 Try.underlying22 hi hz hsz .i64 .i64 s (by rw [hby]; omega) (by unfold maxLen; omega) (Nat.le_refl _)
  have hbm : Below w.heap.size w wm := (Below.refl _ _).grown hm3 (Nat.le_refl _) (fun k hk => by cases hk)
  have HZ : Hid (PkM w [] (some ⟨w.heap.size, 0, none⟩) 0 s wm) := Lib.hid ⟨[], hm2, rfl, rfl, hbm⟩
  have HA := Lib.hid h
  have HG := Lib.hid hg
  have HS := Lib.hid hs
  clear h hg hm2 hm3 hbm hi hz hsz hby hs
  go_enter Try.func171, Try.ntmps171
  go_wp2_with fail
  go_loopw [0, 1, 5] (fun s0 s1 s5 wr => ∃ (A1 B1 O : Option Addr) (n1 c1 m1 d1 k e : Nat) (es1 gs1 out : List En), s0 = .slice A1 n1 c1 ∧ s1 = .slice B1 m1 d1 ∧ s5 = .slice O k e ∧ REs w A1 n1 es1 ∧ n1 ≤ c1 ∧ REs w B1 m1 gs1 ∧ m1 ≤ d1 ∧ PkM w out O k e wr ∧ out ++ mrg2 es1 gs1 = mrg2 es gs ∧ k + n1 + m1 ≤ 2097152) (fun s0 s1 _ _ => lenV s0 + lenV s1)
  case atStart => exact ⟨A, B, _, n, c, m, d, 0, s, es, gs, [], rfl, rfl, rfl, HA.out, hc, HG.out, hd, HZ.out, rfl, by omega⟩
  case round =>
    obtain ⟨A1, B1, O, n1, c1, m1, d1, k, e, es1, gs1, out, rfl, rfl, rfl, hr1, hc1, hr2, hd1, hP, hout, hsum⟩ := hrel
    have HR1 := Lib.hid hr1
    have HR2 := Lib.hid hr2
    have HP := Lib.hid hP
    have HB := Lib.hid hP.bel
    have HO := Lib.hid hout
    have HL1 := Lib.hid hr1.len
    have HL2 := Lib.hid hr2.len
    clear hr1 hr2 hP hout
    by_cases h1 : 0 < n1
    · by_cases h2 : 0 < m1
      · -- both have one
        obtain ⟨ba, oa, hAa, hba⟩ := HR1.out.pos h1
        subst hAa
        obtain ⟨bb, ob, hBb, hbb⟩ := HR2.out.pos h2
        subst hBb
        obtain ⟨x, v0, v1, v2, v3, hx, c0, c1', c2, c3, hev⟩ := HR1.out.at_ 0 h1
        obtain ⟨y, u0, u1, u2, u3, hy, q0, q1, q2, q3, hew⟩ := HR2.out.at_ 0 h2
        obtain ⟨K, kn, kc, V, vn, vc, rfl, rfl, rfl, rfl, _⟩ := hev.parts
        obtain ⟨P, pn, pc, Q, qn, qc, rfl, rfl, rfl, rfl, _⟩ := hew.parts
        obtain ⟨es2, rfl⟩ : ∃ es2, es1 = x :: es2 := by
          cases es1 with
          | nil => cases hx
          | cons a t => injection hx with hx; exact ⟨t, by rw [hx]⟩
        obtain ⟨gs2, rfl⟩ : ∃ gs2, gs1 = y :: gs2 := by
          cases gs1 with
          | nil => cases hy
          | cons a t => injection hy with hy; exact ⟨t, by rw [hy]⟩
        obtain ⟨n2, rfl⟩ : ∃ n2, n1 = n2 + 1 := ⟨n1 - 1, by omega⟩
        obtain ⟨m2, rfl⟩ : ∃ m2, m1 = m2 + 1 := ⟨m1 - 1, by omega⟩
        have HT1 := Lib.hid (HR1.out.tail hc1)
        have HT2 := Lib.hid (HR2.out.tail hd1)
        have hsA : ∀ W : World, (Instr.slice 22 (.slice (some ⟨ba, oa, none⟩) (n2 + 1) c1) (some (.int .i64 1)) none none).run Try.prog W = .ok (.slice (cutA4 (some ⟨ba, oa, none⟩) 1 c1) n2 (c1 - 1)) W := fun W => by
          have := cut4_l (P := Try.prog) Try.underlying22 elem4 size4 (some ⟨ba, oa, none⟩) (n := n2 + 1) (cap := c1) (k := 1) (by omega) W
          rw [Nat.add_sub_cancel] at this
          exact this
        have hsB : ∀ W : World, (Instr.slice 22 (.slice (some ⟨bb, ob, none⟩) (m2 + 1) d1) (some (.int .i64 1)) none none).run Try.prog W = .ok (.slice (cutA4 (some ⟨bb, ob, none⟩) 1 d1) m2 (d1 - 1)) W := fun W => by
          have := cut4_l (P := Try.prog) Try.underlying22 elem4 size4 (some ⟨bb, ob, none⟩) (n := m2 + 1) (cap := d1) (k := 1) (by omega) W
          rw [Nat.add_sub_cancel] at this
          exact this
        obtain ⟨A2, hA2⟩ : ∃ A2, A2 = cutA4 (some ⟨ba, oa, none⟩) 1 c1 := ⟨_, rfl⟩
        obtain ⟨B2, hB2⟩ : ∃ B2, B2 = cutA4 (some ⟨bb, ob, none⟩) 1 d1 := ⟨_, rfl⟩
        rw [← hA2] at HT1 hsA
        rw [← hB2] at HT2 hsB
        have HEV := Lib.hid hev
        have HEW := Lib.hid hew
        have HCX : Hid (∀ wx, Below w.heap.size w wx → wx.cell? ⟨ba, oa, none⟩ = some (.slice K kn kc) ∧ wx.cell? ⟨ba, oa + 1, none⟩ = some (.int .u64 (x.seq : Int)) ∧ wx.cell? ⟨ba, oa + 2, none⟩ = some (.int .u8 (x.kind : Int)) ∧ wx.cell? ⟨ba, oa + 3, none⟩ = some (.slice V vn vc) ∧ wx.cell? ⟨bb, ob, none⟩ = some (.slice P pn pc) ∧ wx.cell? ⟨bb, ob + 1, none⟩ = some (.int .u64 (y.seq : Int)) ∧ wx.cell? ⟨bb, ob + 2, none⟩ = some (.int .u8 (y.kind : Int)) ∧ wx.cell? ⟨bb, ob + 3, none⟩ = some (.slice Q qn qc)) := Lib.hid (fun wx hb => by
          simp only [Nat.zero_mul, Nat.add_zero] at c0 c1' c2 c3 q0 q1 q2 q3
          exact ⟨(hb.cell (p := ⟨ba, oa, none⟩) hba).trans c0, (hb.cell (p := ⟨ba, oa + 1, none⟩) hba).trans c1', (hb.cell (p := ⟨ba, oa + 2, none⟩) hba).trans c2, (hb.cell (p := ⟨ba, oa + 3, none⟩) hba).trans c3, (hb.cell (p := ⟨bb, ob, none⟩) hbb).trans q0, (hb.cell (p := ⟨bb, ob + 1, none⟩) hbb).trans q1, (hb.cell (p := ⟨bb, ob + 2, none⟩) hbb).trans q2, (hb.cell (p := ⟨bb, ob + 3, none⟩) hbb).trans q3⟩)
        obtain ⟨z1, hz1⟩ : ∃ z1, z1 = lessE y x := ⟨_, rfl⟩
        obtain ⟨z2, hz2⟩ : ∃ z2, z2 = lessE x y := ⟨_, rfl⟩
        have HLB : Hid (∀ wx, Below w.heap.size w wx → Calls Try.prog 80 #[.agg #[.slice P pn pc, .int .u64 (y.seq : Int), .int .u8 (y.kind : Int), .slice Q qn qc], .agg #[.slice K kn kc, .int .u64 (x.seq : Int), .int .u8 (x.kind : Int), .slice V vn vc]] wx (RetT wx z1)) := Lib.hid (fun wx hb => by rw [hz1]; exact memLess_any (hew.below hb) (hev.below hb))
        have HLA : Hid (∀ wx, Below w.heap.size w wx → Calls Try.prog 80 #[.agg #[.slice K kn kc, .int .u64 (x.seq : Int), .int .u8 (x.kind : Int), .slice V vn vc], .agg #[.slice P pn pc, .int .u64 (y.seq : Int), .int .u8 (y.kind : Int), .slice Q qn qc]] wx (RetT wx z2)) := Lib.hid (fun wx hb => by rw [hz2]; exact memLess_any (hev.below hb) (hew.below hb))
        have HO2 : Hid (out ++ (if z1 then y :: mrg2 (x :: es2) gs2 else if z2 then x :: mrg2 es2 (y :: gs2) else x :: mrg2 es2 gs2) = mrg2 es gs) := Lib.hid (by rw [hz1, hz2, ← mrg2_cons]; exact HO.out)
        clear hx hy hev hew c0 c1' c2 c3 q0 q1 q2 q3 hz1 hz2 hA2 hB2
        have hBw : Below w.heap.size w wr := HB.out
        have hB0 : Below w.heap.size w wr.drew := hBw.drew
        have hBd : Below wr.heap.size wr wr.drew := (Below.refl _ _).drew
        obtain ⟨f0, f1, f2, f3, f4, f5, f6, f7⟩ := HCX.out wr HB.out
        go_upto_region 3 with (fail)
        go_cut [26] from 20 to 26 (fun st wx => st = .bool z1 ∧ Below wr.heap.size wr wx)
        case first =>
          go_region_held3 (fun wx => wx.cell? ⟨ba, oa, none⟩ = some (.slice K kn kc) ∧ wx.cell? ⟨ba, oa + 1, none⟩ = some (.int .u64 (x.seq : Int)) ∧ wx.cell? ⟨ba, oa + 2, none⟩ = some (.int .u8 (x.kind : Int)) ∧ wx.cell? ⟨ba, oa + 3, none⟩ = some (.slice V vn vc) ∧ wx.cell? ⟨bb, ob, none⟩ = some (.slice P pn pc) ∧ wx.cell? ⟨bb, ob + 1, none⟩ = some (.int .u64 (y.seq : Int)) ∧ wx.cell? ⟨bb, ob + 2, none⟩ = some (.int .u8 (y.kind : Int)) ∧ wx.cell? ⟨bb, ob + 3, none⟩ = some (.slice Q qn qc)) (first | assumption | exact HCX.out _ hB0)
            (first | (go_at_call 80; with_reducible refine (HLB.out _ (by assumption)).mono ?_; intro e1 wn hq; obtain ⟨h1', bn⟩ := RetT.outD hq; subst h1'; have bq := belowT' (by assumption : Below wr.heap.size wr _) bn; have hS1 := HCX.out _ (Below.trans (by assumption : Below w.heap.size w wr) (bq.mono (Below.size (by assumption : Below w.heap.size w wr))))))
          all_goals
            have HBQ := Lib.hid (by assumption : Below wr.heap.size wr wn)
            clear f0 f1 f2 f3 f4 f5 f6 f7
            go_wp2_with fail
            go_meet
            case rel => exact ⟨rfl, HBQ.out⟩
        case rest =>
          obtain ⟨rfl, bq⟩ := hcut
          obtain ⟨wk, hwk⟩ : ∃ wk, wk = wc := ⟨_, rfl⟩
          rw [← hwk] at bq ⊢
          clear hwk
          have HBK := Lib.hid (HB.out.trans (bq.mono HB.out.size))
          have HPK := Lib.hid (HP.out.below bq)
          clear bq hBw hB0 hBd f0 f1 f2 f3 f4 f5 f6 f7
          cases z1 with
          | true =>
            have HO3 : Hid ((out ++ [y]) ++ mrg2 (x :: es2) gs2 = mrg2 es gs) := Lib.hid (by rw [List.append_assoc]; exact HO2.out)
            have HPW := Lib.hid HPK.out
            obtain ⟨vs, o1, hev1, hlen1, hb1⟩ := HPW.out
            have O1 := Lib.hid o1
            have HE1 := Lib.hid hev1
            have HL3 := Lib.hid hlen1
            have HB3 := Lib.hid hb1
            have hBe : Below wk.heap.size wk wk.drew := (Below.refl _ _).drew
            have HBe := Lib.hid hBe
            obtain ⟨f0, f1, f2, f3, f4, f5, f6, f7⟩ := HCX.out wk hb1
            clear o1 hev1 hlen1 hb1 hBe
            go_upto_region 4 with (fail)
            go_cut [1, 5] from 27 to 34 (fun sl s5 wx => ∃ O2 e2, sl = .slice B2 m2 (d1 - 1) ∧ s5 = .slice O2 (k + 1) e2 ∧ PkM w (out ++ [y]) O2 (k + 1) e2 wx)
            case first =>
              go_region_law (first | (refine step_app4 _ rfl _ _ 22 rfl w.heap.size _ 64 Try.underlying22 info_ent rfl O k e vs (by first | (simp [Act.eval]; done) | (simp [Act.eval, Act.put]; done) | rfl) (O1.out.below (HBe.out.alloc HBe.out.size _)) ⟨wk.drew.heap.size, 0, none⟩ 1 1 [.slice P pn pc, .int .u64 (y.seq : Int), .int .u8 (y.kind : Int), .slice Q qn qc] (by first | (simp [Act.eval]; done) | (simp [Act.eval, Act.put]; done) | rfl) (rdv_of_cl (Cl.new wk.drew #[.slice P pn pc, .int .u64 (y.seq : Int), .int .u8 (y.kind : Int), .slice Q qn qc] 37)) (by omega) HEW.out.cells (by unfold maxLen; omega) (by omega) (HB3.out.trans ((HBe.out.alloc HBe.out.size _).mono HB3.out.size)).size ?_; intro L2 d2 w6 hL hg))
              all_goals
                have HQ : Hid (PkM w (out ++ [y]) L2 (k + 1) d2 w6) := Lib.hid ⟨_, hL, HE1.out.app (EVs.one HEW.out), by rw [List.length_append, HL3.out]; rfl, (HB3.out.trans ((HBe.out.alloc HBe.out.size _).mono HB3.out.size)).grown hg (HB3.out.trans ((HBe.out.alloc HBe.out.size _).mono HB3.out.size)).size (fun g hgg => (OwnE.lt O1.out g hgg).1)⟩
                clear hL hg f0 f1 f2 f3 f4 f5 f6 f7
                go_wp2_with fail
                go_meet
                case rel => exact ⟨L2, d2, rfl, rfl, HQ.out⟩
            case rest =>
              obtain ⟨O2, e2, rfl, rfl, hP2⟩ := hcut
              have HP2 := Lib.hid hP2
              clear hP2
              go_wp2_with fail
              go_roundw
              case rel => exact ⟨some ⟨ba, oa, none⟩, B2, O2, n2 + 1, c1, m2, d1 - 1, k + 1, e2, x :: es2, gs2, out ++ [y], rfl, rfl, rfl, HR1.out, hc1, HT2.out, by omega, HP2.out, HO3.out, by omega⟩
              case measure => first | (simp [lenV]; done) | (simp [lenV]; omega)
          | false =>
            have hBw : Below w.heap.size w wk := HBK.out
            have hB0 : Below w.heap.size w wk.drew := hBw.drew
            have hBd : Below wk.heap.size wk wk.drew := (Below.refl _ _).drew
            obtain ⟨f0, f1, f2, f3, f4, f5, f6, f7⟩ := HCX.out wk HBK.out
            go_upto_region 5 with (fail)
            go_cut [42] from 35 to 42 (fun st wx => st = .bool (!z2) ∧ Below wk.heap.size wk wx)
            case first =>
              go_region_held3 (fun wx => wx.cell? ⟨ba, oa, none⟩ = some (.slice K kn kc) ∧ wx.cell? ⟨ba, oa + 1, none⟩ = some (.int .u64 (x.seq : Int)) ∧ wx.cell? ⟨ba, oa + 2, none⟩ = some (.int .u8 (x.kind : Int)) ∧ wx.cell? ⟨ba, oa + 3, none⟩ = some (.slice V vn vc) ∧ wx.cell? ⟨bb, ob, none⟩ = some (.slice P pn pc) ∧ wx.cell? ⟨bb, ob + 1, none⟩ = some (.int .u64 (y.seq : Int)) ∧ wx.cell? ⟨bb, ob + 2, none⟩ = some (.int .u8 (y.kind : Int)) ∧ wx.cell? ⟨bb, ob + 3, none⟩ = some (.slice Q qn qc)) (first | assumption | exact HCX.out _ hB0)
                (first | (go_at_call 80; with_reducible refine (HLA.out _ (by assumption)).mono ?_; intro e1 wn hq; obtain ⟨h1', bn⟩ := RetT.outD hq; subst h1'; have bq := belowT' (by assumption : Below wk.heap.size wk _) bn; have hS1 := HCX.out _ (Below.trans (by assumption : Below w.heap.size w wk) (bq.mono (Below.size (by assumption : Below w.heap.size w wk))))))
              all_goals
                have HBQ := Lib.hid (by assumption : Below wk.heap.size wk wn)
                clear f0 f1 f2 f3 f4 f5 f6 f7
                go_wp2_with fail
                go_meet
                case rel => exact ⟨by first | rfl | (cases z2 <;> rfl), HBQ.out⟩
            case rest =>
              obtain ⟨rfl, bq⟩ := hcut
              obtain ⟨wj, hwj⟩ : ∃ wj, wj = wc := ⟨_, rfl⟩
              rw [← hwj] at bq ⊢
              clear hwj
              have HPW := Lib.hid (HPK.out.below bq)
              clear bq hBw hB0 hBd f0 f1 f2 f3 f4 f5 f6 f7
              cases z2 with
              | true =>
                have HO3 : Hid ((out ++ [x]) ++ mrg2 es2 (y :: gs2) = mrg2 es gs) := Lib.hid (by rw [List.append_assoc]; exact HO2.out)
                obtain ⟨vs, o1, hev1, hlen1, hb1⟩ := HPW.out
                have O1 := Lib.hid o1
                have HE1 := Lib.hid hev1
                have HL3 := Lib.hid hlen1
                have HB3 := Lib.hid hb1
                have hBe : Below wj.heap.size wj wj.drew := (Below.refl _ _).drew
                have HBe := Lib.hid hBe
                obtain ⟨f0, f1, f2, f3, f4, f5, f6, f7⟩ := HCX.out wj hb1
                clear o1 hev1 hlen1 hb1 hBe
                go_upto_region 7 with (fail)
                go_region_law (first | (refine step_app4 _ rfl _ _ 22 rfl w.heap.size _ 64 Try.underlying22 info_ent rfl O k e vs (by first | (simp [Act.eval]; done) | (simp [Act.eval, Act.put]; done) | rfl) (O1.out.below (HBe.out.alloc HBe.out.size _)) ⟨wj.drew.heap.size, 0, none⟩ 1 1 [.slice K kn kc, .int .u64 (x.seq : Int), .int .u8 (x.kind : Int), .slice V vn vc] (by first | (simp [Act.eval]; done) | (simp [Act.eval, Act.put]; done) | rfl) (rdv_of_cl (Cl.new wj.drew #[.slice K kn kc, .int .u64 (x.seq : Int), .int .u8 (x.kind : Int), .slice V vn vc] 37)) (by omega) HEV.out.cells (by unfold maxLen; omega) (by omega) (HB3.out.trans ((HBe.out.alloc HBe.out.size _).mono HB3.out.size)).size ?_; intro L2 d2 w6 hL hg))
                all_goals
                  have HQ : Hid (PkM w (out ++ [x]) L2 (k + 1) d2 w6) := Lib.hid ⟨_, hL, HE1.out.app (EVs.one HEV.out), by rw [List.length_append, HL3.out]; rfl, (HB3.out.trans ((HBe.out.alloc HBe.out.size _).mono HB3.out.size)).grown hg (HB3.out.trans ((HBe.out.alloc HBe.out.size _).mono HB3.out.size)).size (fun g hgg => (OwnE.lt O1.out g hgg).1)⟩
                  clear hL hg f0 f1 f2 f3 f4 f5 f6 f7
                  go_wp2_with fail
                  exact ⟨⟨_, _, _, ⟨A2, some ⟨bb, ob, none⟩, L2, n2, c1 - 1, rfl, m2 + 1, d1, rfl, k + 1, d2, rfl, es2, HT1.out, by omega, y :: gs2, HR2.out, hd1, out ++ [x], HQ.out, HO3.out, by omega⟩, rfl, rfl, rfl⟩, by first | (simp [lenV]; done) | (simp [lenV]; omega)⟩
              | false =>
                have HO3 : Hid ((out ++ [x]) ++ mrg2 es2 gs2 = mrg2 es gs) := Lib.hid (by rw [List.append_assoc]; exact HO2.out)
                obtain ⟨vs, o1, hev1, hlen1, hb1⟩ := HPW.out
                have O1 := Lib.hid o1
                have HE1 := Lib.hid hev1
                have HL3 := Lib.hid hlen1
                have HB3 := Lib.hid hb1
                have hBe : Below wj.heap.size wj wj.drew := (Below.refl _ _).drew
                have HBe := Lib.hid hBe
                obtain ⟨f0, f1, f2, f3, f4, f5, f6, f7⟩ := HCX.out wj hb1
                clear o1 hev1 hlen1 hb1 hBe
                go_upto_region 7 with (fail)
                go_region_law (first | (refine step_app4 _ rfl _ _ 22 rfl w.heap.size _ 64 Try.underlying22 info_ent rfl O k e vs (by first | (simp [Act.eval]; done) | (simp [Act.eval, Act.put]; done) | rfl) (O1.out.below (HBe.out.alloc HBe.out.size _)) ⟨wj.drew.heap.size, 0, none⟩ 1 1 [.slice K kn kc, .int .u64 (x.seq : Int), .int .u8 (x.kind : Int), .slice V vn vc] (by first | (simp [Act.eval]; done) | (simp [Act.eval, Act.put]; done) | rfl) (rdv_of_cl (Cl.new wj.drew #[.slice K kn kc, .int .u64 (x.seq : Int), .int .u8 (x.kind : Int), .slice V vn vc] 37)) (by omega) HEV.out.cells (by unfold maxLen; omega) (by omega) (HB3.out.trans ((HBe.out.alloc HBe.out.size _).mono HB3.out.size)).size ?_; intro L2 d2 w6 hL hg))
                all_goals
                  have HQ : Hid (PkM w (out ++ [x]) L2 (k + 1) d2 w6) := Lib.hid ⟨_, hL, HE1.out.app (EVs.one HEV.out), by rw [List.length_append, HL3.out]; rfl, (HB3.out.trans ((HBe.out.alloc HBe.out.size _).mono HB3.out.size)).grown hg (HB3.out.trans ((HBe.out.alloc HBe.out.size _).mono HB3.out.size)).size (fun g hgg => (OwnE.lt O1.out g hgg).1)⟩
                  clear hL hg f0 f1 f2 f3 f4 f5 f6 f7
                  go_wp2_with fail
                  refine ⟨?_, ?_⟩
                  · (repeat apply Exists.intro)
                    exact ⟨⟨A2, B2, L2, n2, c1 - 1, m2, d1 - 1, k + 1, d2, es2, gs2, out ++ [x], rfl, rfl, rfl, HT1.out, by omega, HT2.out, by omega, HQ.out, HO3.out, by omega⟩, rfl⟩
                  · exact (show n2 + m2 < n2 + 1 + (m2 + 1) by omega)
      · have hm0 : m1 = 0 := by omega
        have hg0 : gs1 = [] := List.eq_nil_of_length_eq_zero (by rw [HL2.out]; exact hm0)
        have hfin : out ++ es1 ++ gs1 = mrg2 es gs := by
          rw [← HO.out]
          rw [hg0, mrg2_nil, List.append_nil]
        have HFIN := Lib.hid hfin
        obtain ⟨_, us1, hv1, hd1'⟩ := HR1.out
        obtain ⟨_, us2, hv2, hd2'⟩ := HR2.out
        have HV1 := Lib.hid hv1
        have HD1 := Lib.hid (hd1'.below HB.out)
        have HV2 := Lib.hid hv2
        have HD2 := Lib.hid hd2'
        obtain ⟨vs, o1, hev1, hlen1, hb1⟩ := HP.out
        have O1 := Lib.hid o1
        have HE1 := Lib.hid hev1
        have HL3 := Lib.hid hlen1
        have sB := hb1.size
        clear hfin hv1 hd1' hv2 hd2' o1 hev1 hlen1 hb1
        have dd1 : decide (0 < n1) = true := by simpa using h1
        have dd2 : decide (0 < m1) = false := by simpa using h2
        clear hm0 hg0 h1 h2
        go_wp2_with (at_builtin; refine wpList_app4 wr rfl _ _ 22 rfl w.heap.size _ 64 Try.underlying22 info_ent rfl O k e vs rfl O1.out A1 n1 c1 us1 rfl HD1.out HV1.out.cells ?_ ?_ ?_ ?_)
        · omega
        · omega
        · omega
        intro O2 e2 w2 o2 _ b2
        have HB2 := Lib.hid (HB.out.trans b2)
        have O2' := Lib.hid o2
        have sB2 := HB2.out.size
        have HD2' := Lib.hid (HD2.out.below HB2.out)
        clear o2 b2
        go_wp2_with (at_builtin; refine wpList_app4 w2 rfl _ _ 22 rfl w.heap.size _ 64 Try.underlying22 info_ent rfl O2 (k + n1) e2 (vs ++ us1) rfl O2'.out B1 m1 d1 us2 rfl HD2'.out HV2.out.cells ?_ ?_ ?_ ?_)
        · omega
        · omega
        · omega
        intro O3 e3 w3 o3 _ b3
        have HF : Hid (RetEs w (mrg2 es gs) (.returned (.slice O3 (k + n1 + m1) e3)) w3) := Lib.hid (by
          have hb := HB2.out.trans b3
          rw [← HFIN.out]
          exact ⟨O3, _, e3, rfl, REs.mk (((HE1.out.app HV1.out).app HV2.out).below hb) (by have h9 := o3.rd; simpa [List.append_assoc] using h9) (by rw [List.length_append, List.length_append, HL3.out, HL1.out, HL2.out]), o3.cap.1, hb⟩)
        clear o3 b3
        go_wp2_with fail
        go_ret
        exact HF.out
    · have hn0 : n1 = 0 := by omega
      have he0 : es1 = [] := List.eq_nil_of_length_eq_zero (by rw [HL1.out]; exact hn0)
      have hfin : out ++ es1 ++ gs1 = mrg2 es gs := by
        rw [← HO.out]
        rw [he0, nil_mrg2, List.append_nil]
      have HFIN := Lib.hid hfin
      obtain ⟨_, us1, hv1, hd1'⟩ := HR1.out
      obtain ⟨_, us2, hv2, hd2'⟩ := HR2.out
      have HV1 := Lib.hid hv1
      have HD1 := Lib.hid (hd1'.below HB.out)
      have HV2 := Lib.hid hv2
      have HD2 := Lib.hid hd2'
      obtain ⟨vs, o1, hev1, hlen1, hb1⟩ := HP.out
      have O1 := Lib.hid o1
      have HE1 := Lib.hid hev1
      have HL3 := Lib.hid hlen1
      have sB := hb1.size
      clear hfin hv1 hd1' hv2 hd2' o1 hev1 hlen1 hb1
      have dd1 : decide (0 < n1) = false := by simpa using h1
      clear hn0 he0 h1
      go_wp2_with (at_builtin; refine wpList_app4 wr rfl _ _ 22 rfl w.heap.size _ 64 Try.underlying22 info_ent rfl O k e vs rfl O1.out A1 n1 c1 us1 rfl HD1.out HV1.out.cells ?_ ?_ ?_ ?_)
      · omega
      · omega
      · omega
      intro O2 e2 w2 o2 _ b2
      have HB2 := Lib.hid (HB.out.trans b2)
      have O2' := Lib.hid o2
      have sB2 := HB2.out.size
      have HD2' := Lib.hid (HD2.out.below HB2.out)
      clear o2 b2
      go_wp2_with (at_builtin; refine wpList_app4 w2 rfl _ _ 22 rfl w.heap.size _ 64 Try.underlying22 info_ent rfl O2 (k + n1) e2 (vs ++ us1) rfl O2'.out B1 m1 d1 us2 rfl HD2'.out HV2.out.cells ?_ ?_ ?_ ?_)
      · omega
      · omega
      · omega
      intro O3 e3 w3 o3 _ b3
      have HF : Hid (RetEs w (mrg2 es gs) (.returned (.slice O3 (k + n1 + m1) e3)) w3) := Lib.hid (by
        have hb := HB2.out.trans b3
        rw [← HFIN.out]
        exact ⟨O3, _, e3, rfl, REs.mk (((HE1.out.app HV1.out).app HV2.out).below hb) (by have h9 := o3.rd; simpa [List.append_assoc] using h9) (by rw [List.length_append, List.length_append, HL3.out, HL1.out, HL2.out]), o3.cap.1, hb⟩)
      clear o3 b3
      go_wp2_with fail
      go_ret
      exact HF.out
end Go.Proofs.Ytcclhkoggijkaaa
namespace Go.Proofs.Ytcclhkoggijkaaa
open Go Go.RowKit

theorem elemL : Try.prog.elem 53 = 22 := by kernel_rfl
theorem sizeL (w : World) : (sizeOf 22).run Try.prog w = .ok 1 w := by kernel_rfl
def totLn : List (List En) → Nat
  | [] => 0
  | l :: t => l.length + totLn t
theorem totLn_app : ∀ a b : List (List En), totLn (a ++ b) = totLn a + totLn b
  | [], b => by simp [totLn]
  | l :: t, b => by rw [List.cons_append, totLn, totLn, totLn_app t b]; omega
theorem totLn_mem : ∀ {ls : List (List En)} {l : List En}, l ∈ ls → l.length ≤ totLn ls
  | x :: t, l, h => by
    rw [totLn]
    rcases List.mem_cons.1 h with h | h
    · rw [h]; omega
    · have := totLn_mem h; omega
theorem joinL_len : ∀ (f : Nat) (ls : List (List En)), (joinL f ls).length ≤ totLn ls
  | 0, ls => by simp [joinL]
  | f + 1, ls => by
    match ls with
    | [] => simp [joinL, totLn]
    | [x] => simp [joinL, totLn]
    | x :: y :: t =>
      rw [joinL]
      · have e : totLn (x :: y :: t) = totLn ((x :: y :: t).take ((x :: y :: t).length / 2)) + totLn ((x :: y :: t).drop ((x :: y :: t).length / 2)) := by rw [← totLn_app, List.take_append_drop]
        have h1 := joinL_len f ((x :: y :: t).take ((x :: y :: t).length / 2))
        have h2 := joinL_len f ((x :: y :: t).drop ((x :: y :: t).length / 2))
        have h3 := mrg2_len (joinL f ((x :: y :: t).take ((x :: y :: t).length / 2))) (joinL f ((x :: y :: t).drop ((x :: y :: t).length / 2)))
        omega
      · intro h; cases h
      · intro z h; cases h
theorem joinL_from {z : En} : ∀ (f : Nat) {ls : List (List En)}, z ∈ joinL f ls → ∃ l ∈ ls, z ∈ l
  | 0, ls, h => by simp [joinL] at h
  | f + 1, ls, h => by
    match ls, h with
    | [], h => simp [joinL] at h
    | [x], h => exact ⟨x, by simp, by simpa [joinL] using h⟩
    | x :: y :: t, h =>
      rw [joinL] at h
      · rcases mrg2_from h with h | h
        · obtain ⟨l, h1, h2⟩ := joinL_from f h
          exact ⟨l, List.mem_of_mem_take h1, h2⟩
        · obtain ⟨l, h1, h2⟩ := joinL_from f h
          exact ⟨l, List.mem_of_mem_drop h1, h2⟩
      · intro h; cases h
      · intro z h; cases h
theorem RLs.takeL {w : World} {A : Option Addr} {n k : Nat} {ls : List (List En)} (h : RLs w A n ls) (hk : k ≤ n) : RLs w A k (ls.take k) := by
  refine ⟨by rw [List.length_take, h.1]; omega, fun h0 => ?_⟩
  obtain ⟨b, off, e, hb, hc⟩ := h.2 (by omega)
  refine ⟨b, off, e, hb, fun i es hi => hc i es ?_⟩
  rw [List.getElem?_take] at hi
  split at hi
  · exact hi
  · cases hi
theorem RLs.dropL {w : World} {A : Option Addr} {n c k : Nat} {ls : List (List En)} (h : RLs w A n ls) (hk : k ≤ n) (hc : n ≤ c) : RLs w (cutA A k c) (n - k) (ls.drop k) := by
  refine ⟨by rw [List.length_drop, h.1], fun h0 => ?_⟩
  obtain ⟨b, off, rfl, hb, hcell⟩ := h.2 (by omega)
  refine ⟨b, off + k, ?_, hb, fun i es hi => ?_⟩
  · unfold cutA
    rw [if_neg (by omega)]
    simp [Addr.add]
  · rw [List.getElem?_drop] at hi
    have := hcell (k + i) es hi
    rw [← Nat.add_assoc] at this
    exact this
theorem RetEs.out {w w' : World} {es : List En} {e : Ending} (h : RetEs w es e w') : ∃ L k d, e = .returned (.slice L k d) ∧ REs w' L k es ∧ k ≤ d ∧ Below w.heap.size w w' := h
set_option maxRecDepth 100000 in
set_option maxHeartbeats 16000000 in
theorem mgJoin_any : ∀ (f : Nat) {w : World} {A : Option Addr} {n c : Nat} {ls : List (List En)}, RLs w A n ls → n ≤ c → n ≤ f → totLn ls ≤ 2097152 → n ≤ 1099511627776 → Calls Try.prog 137 #[.slice A n c] w (RetEs w (joinL f ls))
  | 0, w, A, n, c, ls, h, hc, hf, ht, hn => by
    obtain rfl : n = 0 := by omega
    have hl : ls = [] := List.eq_nil_of_length_eq_zero h.1
    subst hl
    clear h
    go_enter Try.func137, Try.ntmps137
    go_wp2_with fail
    go_ret
    exact ⟨none, 0, 0, rfl, REs.nil _ _, Nat.le_refl _, Below.refl _ _⟩
  | f + 1, w, A, n, c, ls, h, hc, hf, ht, hn => by
    match ls, h, ht with
    | [], h, ht =>
      obtain rfl : n = 0 := by have := h.1; simpa using this.symm
      clear h
      go_enter Try.func137, Try.ntmps137
      go_wp2_with fail
      go_ret
      exact ⟨none, 0, 0, rfl, REs.nil _ _, Nat.le_refl _, Below.refl _ _⟩
    | [x], h, ht =>
      obtain rfl : n = 1 := by have := h.1; simpa using this.symm
      obtain ⟨b, off, rfl, hb⟩ := h.pos (by omega)
      obtain ⟨es, B, m, d, hx, c0, hre, hmd⟩ := h.at_ 0 (by omega)
      obtain rfl : x = es := by simpa using hx
      have c0' : w.cell? ⟨b, off, none⟩ = some (.slice B m d) := c0
      have HR := Lib.hid hre
      clear h hx hre c0
      go_enter Try.func137, Try.ntmps137
      go_wp2_with fail
      go_ret
      exact ⟨B, m, d, by first | rfl | simp [joinL], HR.out, hmd, Below.refl _ _⟩
    | x :: y :: t, h, ht =>
      have hlen := h.1
      have hj : joinL (f + 1) (x :: y :: t) = mrg2 (joinL f ((x :: y :: t).take ((x :: y :: t).length / 2))) (joinL f ((x :: y :: t).drop ((x :: y :: t).length / 2))) := by
        rw [joinL]
        · intro h; cases h
        · intro z h; cases h
      obtain ⟨ls, hls⟩ : ∃ ls, ls = x :: y :: t := ⟨_, rfl⟩
      have h2 : 2 ≤ n := by rw [← hlen]; simp
      rw [← hls] at h ht hlen hj ⊢
      obtain ⟨hh, hhe⟩ : ∃ hh, hh = n / 2 := ⟨_, rfl⟩
      rw [hlen, ← hhe] at hj
      have eq1 : (n : Int) / 2 = (hh : Int) := by omega
      have htl : totLn (ls.take hh) + totLn (ls.drop hh) = totLn ls := by rw [← totLn_app, List.take_append_drop]
      have HT := Lib.hid htl
      have HJ := Lib.hid hj
      have hhn : hh ≤ n := by omega
      have hh1 : 1 ≤ hh := by omega
      have hhf : hh ≤ f := by omega
      have hhf2 : n - hh ≤ f := by omega
      obtain ⟨n2, hn2⟩ : ∃ n2, n2 = n - hh := ⟨_, rfl⟩
      have HN2 := Lib.hid hn2
      have hs1 : ∀ W : World, (Instr.slice 53 (.slice A n c) none (some (.int .i64 (hh : Int))) none).run Try.prog W = .ok (.slice A hh c) W := fun W => cut_h Try.underlying53 elemL sizeL A (by omega) W
      have hs2 : ∀ W : World, (Instr.slice 53 (.slice A n c) (some (.int .i64 (hh : Int))) none none).run Try.prog W = .ok (.slice (cutA A hh c) n2 (c - hh)) W := fun W => by rw [hn2]; exact cut_l Try.underlying53 elemL sizeL A hhn W
      have t0 : ((n : Int) == 0) = false := by rw [beq_eq_false_iff_ne]; omega
      have t1 : ((n : Int) == 1) = false := by rw [beq_eq_false_iff_ne]; omega
      have J1 : Hid (∀ wx, Below w.heap.size w wx → Calls Try.prog 137 #[.slice A hh c] wx (RetEs wx (joinL f (ls.take hh)))) := Lib.hid (fun wx hb => mgJoin_any f ((h.takeL hhn).below hb) (by omega) hhf (by omega) (by omega))
      have J2 : Hid (∀ wx, Below w.heap.size w wx → Calls Try.prog 137 #[.slice (cutA A hh c) n2 (c - hh)] wx (RetEs wx (joinL f (ls.drop hh)))) := Lib.hid (fun wx hb => by rw [hn2]; exact mgJoin_any f ((h.dropL hhn hc).below hb) (by omega) hhf2 (by omega) (by omega))
      have hB0 : Below w.heap.size w w.drew := (Below.refl _ _).drew
      clear h htl hls hlen hj hhe hn2
      go_enter Try.func137, Try.ntmps137
      go_upto_region 7 with (fail)
      have HLB : Hid (∀ k1 k2, (joinL f (ls.take hh)).length = k1 → (joinL f (ls.drop hh)).length = k2 → k1 + k2 ≤ 2097152) := Lib.hid (fun k1 k2 e1 e2 => by
        have h1 := joinL_len f (ls.take hh)
        have h2 := joinL_len f (ls.drop hh)
        have h3 := HT.out
        omega)
      go_region_law (first | (go_simp; go_at_call 137; with_reducible refine (J1.out _ (by assumption)).mono ?_; intro e1 wa hq1; obtain ⟨L1, k1, d1, h1, r1, kd1, b1⟩ := RetEs.out hq1; subst h1; have bw1 := belowT' (by assumption : Below w.heap.size w _) b1; (try (have r2' := r2.below b1))) | (go_simp; go_at_call 137; with_reducible refine (J2.out _ (by assumption)).mono ?_; intro e2 wb hq2; obtain ⟨L2, k2, d2, h2, r2, kd2, b2⟩ := RetEs.out hq2; subst h2; have bw2 := belowT' (by assumption : Below w.heap.size w _) b2; (try (have r1' := r1.below b2))) | (go_simp; go_at_call 171; with_reducible refine (joinTwo_any (by assumption) kd1 (by assumption) kd2 (HLB.out _ _ r1.len r2.len)).mono ?_; intro e3 wz hq3; obtain ⟨L3, k3, d3, h3, r3, kd3, b3⟩ := RetEs.out hq3; subst h3))
      all_goals
        have HF : Hid (RetEs w (joinL (f + 1) ls) (.returned (.slice L3 k3 d3)) wz) := Lib.hid (by
          rw [HJ.out]
          exact ⟨L3, k3, d3, rfl, r3, kd3, by first | exact belowT' bw2 b3 | exact belowT' bw1 b3⟩)
        clear r3 b3 r1 r2 b1 b2
        go_wp2_with fail
        go_ret
        exact HF.out
set_option maxRecDepth 100000 in
set_option maxHeartbeats 8000000 in
theorem merge_any {w : World} {A : Option Addr} {n c : Nat} {ls : List (List En)} (h : RLs w A n ls) (hc : n ≤ c) (hn : n ≤ 1099511627776) (ht : totLn ls ≤ 2097152) (hs : ∀ es ∈ ls, ∀ x ∈ es, SzE x) :
    Calls Try.prog 82 #[.slice A n c] w (RetMg w (chkL ls) (joinL n ls)) := by
  obtain ⟨z, hz⟩ : ∃ z, z = chkL ls := ⟨_, rfl⟩
  have HM : Hid (Calls Try.prog 130 #[.slice A n c] w (RetNu w z)) := Lib.hid (by rw [hz]; exact mgCheck_any h hn (fun es he => by have := totLn_mem he; omega))
  have HJ : Hid (∀ wx, Below w.heap.size w wx → Calls Try.prog 137 #[.slice A n c] wx (RetEs wx (joinL n ls))) := Lib.hid (fun wx hb => mgJoin_any n (h.below hb) hc (Nat.le_refl _) ht hn)
  have HS : Hid (∀ x ∈ joinL n ls, SzE x) := Lib.hid (fun x hx => by
    obtain ⟨l, h1, h2⟩ := joinL_from n hx
    exact hs l h1 x h2)
  have HL := Lib.hid (joinL_len n ls)
  rw [← hz]
  clear h hz hs
  go_enter Try.func82, Try.ntmps82
  go_wp2_with fail
  with_reducible refine HM.out.mono ?_
  rintro e w1 ⟨rfl, b1⟩
  have B1 := Lib.hid b1
  clear b1 HM
  by_cases hz0 : z = 0
  · subst hz0
    go_wp2_with fail
    with_reducible refine (HJ.out _ B1.out).mono ?_
    intro e w2 hq
    obtain ⟨L, k, d, he, hr, hkd, b2⟩ := RetEs.out hq
    subst he
    have hk : k ≤ 2097152 := by have h1 := hr.len; have h2 := HL.out; omega
    have HOW := Lib.hid (mgOwn_any (c := d) hr hk HS.out)
    have B2 := Lib.hid (belowT' B1.out b2)
    clear hr b2 hq
    go_wp2_with fail
    with_reducible refine HOW.out.mono ?_
    rintro e w3 ⟨L2, n2, c2, rfl, hrow⟩
    have HF : Hid (RetMg w 0 (joinL n ls) (.returned (.tuple #[.slice L2 n2 c2, .int .i64 0])) w3) := Lib.hid (.inr ⟨rfl, L2, n2, c2, rfl, hrow.lower B2.out⟩)
    clear hrow
    go_wp2_with fail
    exact bodyPost_ret (v := .tuple #[.slice L2 n2 c2, .int .i64 0]) (by simp [results, Try.f82, go_sem]; try rfl) rfl HF.out
  · have t1 : (z == 0) = false := by rw [beq_eq_false_iff_ne]; exact hz0
    go_wp2_with fail
    exact bodyPost_ret (v := .tuple #[.slice none 0 0, .int .i64 z]) (by simp [results, Try.f82, go_sem]; try rfl) rfl (.inl ⟨hz0, rfl, B1.out⟩)
end Go.Proofs.Ytcclhkoggijkaaa
namespace Go.Proofs.Ytcclhkoggijkaaa
open Go Go.RowKit

theorem info_les : (Try.prog.info? 22).map (fun i => (i.zero, i.size, i.bytes)) = some (some (.slice none 0 0), 1, 24) := by kernel_rfl
/-- 'These slices read as these lists.' -/
def LsV (w : World) : List (List En) → List Value → Prop
  | [], vs => vs = []
  | es :: ls, vs => ∃ B m c r, vs = .slice B m c :: r ∧ REs w B m es ∧ m ≤ c ∧ LsV w ls r
theorem LsV.below {w w' : World} (hb : Below w.heap.size w w') : ∀ {ls : List (List En)} {vs : List Value}, LsV w ls vs → LsV w' ls vs
  | [], _, h => h
  | _ :: _, _, ⟨B, m, c, r, e, h1, h2, h3⟩ => ⟨B, m, c, r, e, h1.below hb, h2, LsV.below hb h3⟩
theorem LsV.snoc {w : World} {es : List En} {B : Option Addr} {m c : Nat} (hr : REs w B m es) (hc : m ≤ c) : ∀ {ls : List (List En)} {vs : List Value}, LsV w ls vs → LsV w (ls ++ [es]) (vs ++ [.slice B m c])
  | [], _, h => by rw [h]; exact ⟨B, m, c, [], rfl, hr, hc, rfl⟩
  | _ :: _, _, ⟨B', m', c', r, e, h1, h2, h3⟩ => ⟨B', m', c', _, by rw [e]; rfl, h1, h2, LsV.snoc hr hc h3⟩
theorem LsV.at_ {w : World} : ∀ {ls : List (List En)} {vs : List Value} (i : Nat) {es : List En}, LsV w ls vs → ls[i]? = some es → ∃ B m c, vs[i]? = some (.slice B m c) ∧ REs w B m es ∧ m ≤ c
  | [], _, i, _, _, h => by simp at h
  | _ :: _, _, 0, es, ⟨B, m, c, r, e, h1, h2, h3⟩, h => by
    injection h with h
    subst h
    exact ⟨B, m, c, by rw [e]; rfl, h1, h2⟩
  | _ :: _, _, i + 1, es, ⟨B, m, c, r, e, h1, h2, h3⟩, h => by
    obtain ⟨B', m', c', k1, k2, k3⟩ := LsV.at_ i h3 h
    exact ⟨B', m', c', by rw [e]; exact k1, k2, k3⟩
theorem LsV.rls {w : World} {A : Option Addr} {n : Nat} {ls : List (List En)} {vs : List Value} (h : LsV w ls vs) (hd : RdV w A n vs) (hl : ls.length = n) : RLs w A n ls := by
  refine ⟨hl, fun h0 => ?_⟩
  obtain ⟨b, off, e, hb, hc⟩ := hd.2 h0
  refine ⟨b, off, e, hb, fun i es hi => ?_⟩
  obtain ⟨B, m, c, k1, k2, k3⟩ := h.at_ i hi
  exact ⟨B, m, c, hc i _ k1, k2, k3⟩
/-- Lists that can be read. -/
def RetLs (w : World) (ls : List (List En)) (e : Ending) (w' : World) : Prop := ∃ L k d, e = .returned (.slice L k d) ∧ RLs w' L k ls ∧ k ≤ d ∧ Below w.heap.size w w'
theorem RetLs.out {w w' : World} {ls : List (List En)} {e : Ending} (h : RetLs w ls e w') : ∃ L k d, e = .returned (.slice L k d) ∧ RLs w' L k ls ∧ k ≤ d ∧ Below w.heap.size w w' := h
/-- 'So far made.' -/
def PkS (w : World) (ls : List (List En)) (L : Option Addr) (k d : Nat) (wr : World) : Prop :=
  ∃ vs, OwnV 22 wr w.heap.size L k d vs ∧ LsV w ls vs ∧ ls.length = k ∧ Below w.heap.size w wr
theorem PkS.bel {w wr : World} {ls : List (List En)} {L : Option Addr} {k d : Nat} (h : PkS w ls L k d wr) : Below w.heap.size w wr := by
  obtain ⟨vs, h1, h2, h3, h4⟩ := h
  exact h4
/-- At most six lists of at most 30. -/
def cutL (ls : List (List En)) : List (List En) := (ls.take 6).map (fun es => es.take 30)
theorem cutL_step {ls : List (List En)} {k : Nat} {es : List En} (h : ls[k]? = some es) : ((ls.take (k + 1)).map (fun es => es.take 30)) = (ls.take k).map (fun es => es.take 30) ++ [es.take 30] := by
  rw [List.take_add_one, h]
  simp
set_option maxRecDepth 100000 in
set_option maxHeartbeats 8000000 in
theorem some11_any {w : World} {A : Option Addr} {n c : Nat} {ls : List (List En)} (h : RLs w A n ls) (hn : n ≤ 1099511627776) : Calls Try.prog 25 #[.slice A n c] w (RetLs w (cutL ls)) := by
  have HL := Lib.hid h.1
  have HR := Lib.hid h
  clear h
  go_enter Try.func25, Try.ntmps25
  go_wp2_with fail
  go_loopw [3, 4] (fun s3 s4 wr => ∃ (k d : Nat) (L : Option Addr), k ≤ n ∧ k ≤ 6 ∧ s4 = .int .i64 (k : Int) ∧ s3 = .slice L k d ∧ PkS w ((ls.take k).map (fun es => es.take 30)) L k d wr) (fun _ s _ => 6 - (intOf s).toNat)
  case atStart => exact ⟨0, 0, none, Nat.zero_le _, Nat.zero_le _, rfl, rfl, [], OwnV.nil _ _ _, rfl, rfl, Below.refl _ _⟩
  case round =>
    obtain ⟨k, d, L, hk, hk6, rfl, rfl, hP⟩ := hrel
    have HP := Lib.hid hP
    have HB := Lib.hid hP.bel
    clear hP
    by_cases hlt : k < n
    · by_cases hl6 : k < 6
      · obtain ⟨b, off, hAb, hbl⟩ := HR.out.pos (by omega)
        subst hAb
        obtain ⟨es, B, m, d1, hx, c0, hre, hmd⟩ := HR.out.at_ k hlt
        have d0 := (HB.out.cell (p := ⟨b, off + k, none⟩) hbl).trans c0
        obtain ⟨mm, hmm⟩ : ∃ mm, mm = min m 30 := ⟨_, rfl⟩
        have HFW : Hid (∀ w, Calls Try.prog 81 #[.slice B m d1, .int .i64 30] w (fun e w' => e = .returned (.slice B mm d1) ∧ w' = w)) := Lib.hid (fun w => by rw [hmm]; exact few11_any (m := 30) hmd w)
        have HRT : Hid (REs w B mm (es.take 30)) := Lib.hid (by
          obtain ⟨us, q1, q2⟩ := hre.takeV (m := mm) (by omega)
          have e1 : es.take mm = es.take 30 := by
            have := hre.len
            rcases Nat.le_total m 30 with h | h
            · rw [List.take_of_length_le (by omega), List.take_of_length_le (by omega)]
            · rw [show mm = 30 by omega]
          rw [e1] at q1
          exact REs.mk q1 q2 (by rw [List.length_take, hre.len]; omega))
        have HST := Lib.hid (cutL_step hx)
        have hmd2 : mm ≤ d1 := by omega
        obtain ⟨vs, o1, hv1, hl1, hb1⟩ := HP.out
        have O1 := Lib.hid (OwnV.below o1 ((Below.refl _ _).alloc (Nat.le_refl _) (.cells #[.slice B mm d1] 22)))
        have HV1 := Lib.hid hv1
        have HL1 := Lib.hid hl1
        have sB := hb1.size
        have HBA := Lib.hid (hb1.alloc hb1.size (.cells #[.slice B mm d1] 22))
        have HRD := Lib.hid (OwnV.rd (ownV_box2 wr 22 wr.heap.size [.slice B mm d1] 1 rfl (by omega) (Nat.le_refl _) _ rfl))
        have hone : ∀ u ∈ [Value.slice B mm d1], u.oneCell' = true := by intro u hu; rw [List.mem_singleton] at hu; rw [hu]; rfl
        have HON := Lib.hid hone
        have hmm30 : mm ≤ 30 := by omega
        clear hx c0 hre o1 hv1 hl1 hb1 hone hmm
        go_wp2_with fail
        with_reducible refine (HFW.out _).mono ?_
        intro e wq hq
        obtain ⟨he, hwq⟩ := hq
        subst he
        rw [hwq]
        clear hwq
        go_wp2_with (at_builtin; refine wpList_appV (wr.alloc (.cells #[.slice B mm d1] 22)) rfl _ _ 53 rfl w.heap.size 22 (.slice none 0 0) 24 Try.underlying53 info_les rfl L k d vs rfl O1.out (some ⟨wr.heap.size, 0, none⟩) 1 1 [.slice B mm d1] rfl HRD.out HON.out ?_ ?_ ?_ ?_)
        · unfold maxLen; omega
        · omega
        · simp; omega
        intro L2 d2 w3 o2 hg2 _
        have HP3 : Hid (PkS w ((ls.take (k + 1)).map (fun es => es.take 30)) L2 (k + 1) d2 w3) := Lib.hid (by
          rw [HST.out]
          exact ⟨_, o2, LsV.snoc HRT.out hmd2 HV1.out, by rw [List.length_append, HL1.out]; rfl, HBA.out.grown hg2 HBA.out.size (fun g hg => (OwnV.lt O1.out g hg).1)⟩)
        clear o2 hg2 d0
        go_wp2_with fail
        go_roundw
        case rel => exact ⟨k + 1, d2, L2, by omega, by omega, by go_num, rfl, HP3.out⟩
        case measure => simp [intOf]; omega
      · have hk66 : k = 6 := by omega
        have hlt' : (k : Int) < (n : Int) := by omega
        have hF : (ls.take k).map (fun es => es.take 30) = cutL ls := by unfold cutL; rw [hk66]
        obtain ⟨vs, o1, hv1, hl1, hb1⟩ := HP.out
        have HF : Hid (RetLs w (cutL ls) (.returned (.slice L k d)) wr) := Lib.hid ⟨L, k, d, rfl, by rw [← hF]; exact LsV.rls (hv1.below hb1) o1.rd hl1, o1.cap.1, hb1⟩
        clear o1 hv1 hl1 hb1 hF hk66
        go_wp2_with fail
        go_ret
        exact HF.out
    · have hF : (ls.take k).map (fun es => es.take 30) = cutL ls := by
        unfold cutL
        have := HL.out
        rw [List.take_of_length_le (by omega), List.take_of_length_le (by omega)]
      obtain ⟨vs, o1, hv1, hl1, hb1⟩ := HP.out
      have HF : Hid (RetLs w (cutL ls) (.returned (.slice L k d)) wr) := Lib.hid ⟨L, k, d, rfl, by rw [← hF]; exact LsV.rls (hv1.below hb1) o1.rd hl1, o1.cap.1, hb1⟩
      clear o1 hv1 hl1 hb1 hF
      go_wp2_with fail
      go_ret
      exact HF.out
/-- 'These slices are lists of the call's own.' -/
def LsO (base : Nat) (w : World) : List (List En) → List Value → Prop
  | [], vs => vs = []
  | es :: ls, vs => ∃ B m c r us, vs = .slice B m c :: r ∧ OwnE w base B m c us ∧ EOs base w es us ∧ es.length = m ∧ LsO base w ls r
theorem LsO.below {base : Nat} {w w' : World} (hb : Below w.heap.size w w') : ∀ {ls : List (List En)} {vs : List Value}, LsO base w ls vs → LsO base w' ls vs
  | [], _, h => h
  | _ :: _, _, ⟨B, m, c, r, us, e, h1, h2, h3, h4⟩ => ⟨B, m, c, r, us, e, h1.below hb, h2.below hb, h3, LsO.below hb h4⟩
theorem LsO.kept {base b1 n c : Nat} {w w' : World} {L : Option Addr} {vs0 : List Value} (ho : OwnV 22 w b1 L n c vs0) (hg : w.grownBy w' (blk L)) : ∀ {ls : List (List En)} {vs : List Value}, LsO base w ls vs → LsO base w' ls vs
  | [], _, h => h
  | _ :: _, _, ⟨B, m, c, r, us, e, h1, h2, h3, h4⟩ => ⟨B, m, c, r, us, e, ownE_kept h1 hg (fun b hb e => row_ne ho h1 (by decide) b e hb), EOs.kept hg h2 (eos_off ho (by decide) h2), h3, LsO.kept ho hg h4⟩
theorem LsO.snoc {base : Nat} {w : World} {es : List En} {B : Option Addr} {m c : Nat} {us : List Value} (hr : OwnE w base B m c us) (he : EOs base w es us) (hl : es.length = m) : ∀ {ls : List (List En)} {vs : List Value}, LsO base w ls vs → LsO base w (ls ++ [es]) (vs ++ [.slice B m c])
  | [], _, h => by rw [h]; exact ⟨B, m, c, [], us, rfl, hr, he, hl, rfl⟩
  | _ :: _, _, ⟨B', m', c', r, us', e, h1, h2, h3, h4⟩ => ⟨B', m', c', _, us', by rw [e]; rfl, h1, h2, h3, LsO.snoc hr he hl h4⟩
theorem LsO.lsv {base : Nat} {w : World} : ∀ {ls : List (List En)} {vs : List Value}, LsO base w ls vs → LsV w ls vs
  | [], _, h => h
  | _ :: _, _, ⟨B, m, c, r, _, e, h1, h2, h3, h4⟩ => ⟨B, m, c, r, e, REs.mk h2.evs h1.rd h3, h1.cap.1, LsO.lsv h4⟩
set_option maxRecDepth 100000 in
set_option maxHeartbeats 8000000 in
theorem twins11_any {w : World} {A : Option Addr} {n c : Nat} {ls : List (List En)} (h : RLs w A n ls) (hn : n ≤ 1099511627776) (hm : ∀ es ∈ ls, es.length ≤ 1099511627776) (hs : ∀ es ∈ ls, ∀ x ∈ es, SzE x) : Calls Try.prog 26 #[.slice A n c] w (RetLs w ls) := by
  have HL := Lib.hid h.1
  have HR := Lib.hid h
  have HS := Lib.hid hs
  have HM := Lib.hid hm
  clear h hs hm
  go_enter Try.func26, Try.ntmps26
  go_wp2_with fail
  go_loopw [3, 8] (fun s3 s8 wr => ∃ (k d : Nat) (L : Option Addr) (vs : List Value), k ≤ n ∧ s8 = .int .i64 (k : Int) ∧ s3 = .slice L k d ∧ OwnV 22 wr w.heap.size L k d vs ∧ LsO w.heap.size wr (ls.take k) vs ∧ Below w.heap.size w wr) (fun _ s _ => n - (intOf s).toNat)
  case atStart => exact ⟨0, 0, none, [], Nat.zero_le _, rfl, rfl, OwnV.nil _ _ _, rfl, Below.refl _ _⟩
  case round =>
    obtain ⟨k, d, L, vs, hk, rfl, rfl, hO, hV, hB⟩ := hrel
    have HO := Lib.hid hO
    have HV := Lib.hid hV
    have HB := Lib.hid hB
    have sB := hB.size
    clear hO hV hB
    by_cases hlt : k < n
    · obtain ⟨b, off, hAb, hbl⟩ := HR.out.pos (by omega)
      subst hAb
      obtain ⟨es, B, m, d1, hx, c0, hre, hmd⟩ := HR.out.at_ k hlt
      have d0 := (HB.out.cell (p := ⟨b, off + k, none⟩) hbl).trans c0
      have hmem := List.mem_of_getElem? hx
      have HT := Lib.hid (Twins_any (c := d1) (hre.below HB.out) (by have := HM.out es hmem; rw [← hre.len]; exact this) (HS.out es hmem))
      have HST : Hid (ls.take (k + 1) = ls.take k ++ [es]) := Lib.hid (by rw [List.take_add_one, hx]; rfl)
      clear hx c0 hre hmem
      go_wp2_with fail
      with_reducible refine HT.out.mono ?_
      rintro e w2 ⟨T, tn, td, rfl, hrow⟩
      obtain ⟨us, r1, r2, r3, r4, r5, r6, r7⟩ := hrow
      have b2 : Below wr.heap.size wr w2 := r5
      have HBA := Lib.hid ((HB.out.trans (b2.mono sB)).alloc (HB.out.trans (b2.mono sB)).size (.cells #[.slice T tn td] 22))
      have HB2 : Hid (Below wr.heap.size wr (w2.alloc (.cells #[.slice T tn td] 22))) := Lib.hid (b2.alloc b2.size _)
      have ba : Below w2.heap.size w2 (w2.alloc (.cells #[.slice T tn td] 22)) := (Below.refl _ _).alloc (Nat.le_refl _) _
      have O1 := Lib.hid (OwnV.below HO.out HB2.out)
      have HV2 : Hid (LsO w.heap.size (w2.alloc (.cells #[.slice T tn td] 22)) (ls.take (k + 1)) (vs ++ [.slice T tn td])) := Lib.hid (by
        rw [HST.out]
        exact LsO.snoc (OwnE.mono (r1.below ba) sB) (EOs.mono sB (r2.below ba)) r4 (LsO.below HB2.out HV.out))
      have HRD := Lib.hid (OwnV.rd (ownV_box2 w2 22 w2.heap.size [.slice T tn td] 1 rfl (by omega) (Nat.le_refl _) _ rfl))
      have hone : ∀ u ∈ [Value.slice T tn td], u.oneCell' = true := by intro u hu; rw [List.mem_singleton] at hu; rw [hu]; rfl
      have HON := Lib.hid hone
      have s2 := HBA.out.size
      clear r1 r2 r3 r4 r5 r6 r7 b2 ba hone d0
      go_wp2_with (at_builtin; refine wpList_appV (w2.alloc (.cells #[.slice T tn td] 22)) rfl _ _ 53 rfl w.heap.size 22 (.slice none 0 0) 24 Try.underlying53 info_les rfl L k d vs rfl O1.out (some ⟨w2.heap.size, 0, none⟩) 1 1 [.slice T tn td] rfl HRD.out HON.out ?_ ?_ ?_ ?_)
      · unfold maxLen; omega
      · omega
      · exact s2
      intro L2 d2 w3 o2 hg2 _
      have HQ := Lib.hid (And.intro o2 (And.intro (LsO.kept O1.out hg2 HV2.out) (HBA.out.grown hg2 HBA.out.size (fun g hg => (OwnV.lt O1.out g hg).1))))
      clear o2 hg2
      go_wp2_with fail
      go_roundw
      case rel => exact ⟨k + 1, d2, L2, _, by omega, by go_num, rfl, HQ.out.1, HQ.out.2.1, HQ.out.2.2⟩
      case measure => simp [intOf]; omega
    · have htk : ls.take k = ls := List.take_of_length_le (by have := HL.out; omega)
      have HF : Hid (RetLs w ls (.returned (.slice L k d)) wr) := Lib.hid ⟨L, k, d, rfl, by rw [← htk]; exact LsV.rls (LsO.lsv HV.out) (OwnV.rd HO.out) (by rw [htk]; have := HL.out; omega), (OwnV.cap HO.out).1, HB.out⟩
      clear htk
      go_wp2_with fail
      go_ret
      exact HF.out
theorem insA_snoc : ∀ {xs o : List En} (x : En), insA o (xs ++ [x]) = (if inL (insA o xs) x then insA o xs else insL (insA o xs) x)
  | [], _, _ => rfl
  | y :: ys, o, x => by
    rw [List.cons_append, insA, insA]
    exact insA_snoc (xs := ys) x
theorem insA_from {z : En} : ∀ {xs o : List En}, z ∈ insA o xs → z ∈ o ∨ z ∈ xs
  | [], _, h => .inl h
  | y :: ys, o, h => by
    rw [insA] at h
    rcases insA_from h with h | h
    · split at h
      · exact .inl h
      · rcases insL_mem h with e | e
        · exact .inr (by rw [e]; exact List.mem_cons_self)
        · exact .inl e
    · exact .inr (List.mem_cons_of_mem _ h)
theorem insA_step {o es : List En} {j : Nat} {x : En} (h : es[j]? = some x) : insA o (es.take (j + 1)) = (if inL (insA o (es.take j)) x then insA o (es.take j) else insL (insA o (es.take j)) x) := by
  have e : es.take (j + 1) = es.take j ++ [x] := by rw [List.take_add_one, h]; rfl
  rw [e, insA_snoc]
def refK (ls : List (List En)) (k : Nat) : List En := (ls.take k).foldl insA []
theorem refK_step {ls : List (List En)} {k : Nat} {es : List En} (h : ls[k]? = some es) : refK ls (k + 1) = insA (refK ls k) es := by
  unfold refK
  rw [List.take_add_one, h, List.foldl_append]
  rfl
set_option maxRecDepth 100000 in
set_option maxHeartbeats 16000000 in
theorem refMerge11_any {w : World} {A : Option Addr} {n c : Nat} {ls : List (List En)} (h : RLs w A n ls) (hn : n ≤ 1099511627776) (hm : totLn ls ≤ 2097152) (hs : ∀ es ∈ ls, ∀ x ∈ es, SzE x) : Calls Try.prog 30 #[.slice A n c] w (RetEs w (refM ls)) := by
  have HL := Lib.hid h.1
  have HR := Lib.hid h
  have HS := Lib.hid hs
  have HT : Hid (∀ k es, ls[k]? = some es → totLn (ls.take (k + 1)) = totLn (ls.take k) + es.length ∧ totLn (ls.take (k + 1)) ≤ 2097152) := Lib.hid (fun k es hk => by
    have e : ls.take (k + 1) = ls.take k ++ [es] := by rw [List.take_add_one, hk]; rfl
    have h1 : totLn (ls.take (k + 1)) = totLn (ls.take k) + es.length := by rw [e, totLn_app]; simp [totLn]
    have h2 : totLn ls = totLn (ls.take (k + 1)) + totLn (ls.drop (k + 1)) := by rw [← totLn_app, List.take_append_drop]
    exact ⟨h1, by omega⟩)
  clear h hs hm
  go_enter Try.func30, Try.ntmps30
  go_wp2_with fail
  go_loopw [3, 4] (fun s3 s4 wr => ∃ (k m d : Nat) (L : Option Addr), k ≤ n ∧ s4 = .int .i64 (k : Int) ∧ s3 = .slice L m d ∧ REs wr L m (refK ls k) ∧ m ≤ d ∧ m ≤ totLn (ls.take k) ∧ (∀ x ∈ refK ls k, SzE x) ∧ Below w.heap.size w wr) (fun _ s _ => n - (intOf s).toNat)
  case atStart => exact ⟨0, 0, 0, none, Nat.zero_le _, rfl, rfl, REs.nil _ _, Nat.le_refl _, Nat.zero_le _, (fun x hx => by cases hx), Below.refl _ _⟩
  case round =>
    obtain ⟨k, m, d, L, hk, rfl, rfl, hO, hmd, hmt, hz, hB⟩ := hrel
    have HO := Lib.hid hO
    have HZ := Lib.hid hz
    have HB := Lib.hid hB
    clear hO hz hB
    by_cases hlt : k < n
    · obtain ⟨b, off, hAb, hbl⟩ := HR.out.pos (by omega)
      subst hAb
      obtain ⟨es, B, mm, d1, hx, c0, hre, hmd1⟩ := HR.out.at_ k hlt
      have hmem := List.mem_of_getElem? hx
      have HES := Lib.hid (HS.out es hmem)
      have HRE := Lib.hid hre
      have HEL := Lib.hid hre.len
      have HC0 : Hid (∀ wx, Below w.heap.size w wx → wx.cell? ⟨b, off + k, none⟩ = some (.slice B mm d1)) := Lib.hid (fun wx hb => (hb.cell (p := ⟨b, off + k, none⟩) hbl).trans c0)
      have HST := Lib.hid (refK_step hx)
      obtain ⟨ht1, ht2⟩ := HT.out k es hx
      obtain ⟨tk, htk⟩ : ∃ tk, tk = totLn (ls.take k) := ⟨_, rfl⟩
      rw [← htk] at ht1 hmt
      have hbound : tk + mm ≤ 2097152 := by have := HEL.out; omega
      have HTK : Hid (totLn (ls.take (k + 1)) = tk + mm) := Lib.hid (by have := HEL.out; omega)
      clear hx c0 hre hmem ht1 ht2 htk
      go_wp2_with fail
      go_loopw [3, 5] (fun s3 s5 wx => ∃ (j m2 d2 : Nat) (L2 : Option Addr), j ≤ mm ∧ s5 = .int .i64 (j : Int) ∧ s3 = .slice L2 m2 d2 ∧ REs wx L2 m2 (insA (refK ls k) (es.take j)) ∧ m2 ≤ d2 ∧ m2 ≤ tk + j ∧ (∀ x ∈ insA (refK ls k) (es.take j), SzE x) ∧ Below w.heap.size w wx) (fun _ s _ => mm - (intOf s).toNat)
      case atStart => exact ⟨0, m, d, L, Nat.zero_le _, rfl, rfl, HO.out, hmd, hmt, HZ.out, HB.out⟩
      case round =>
        obtain ⟨j, m2, d2, L2, hj, rfl, rfl, hO2, hmd2, hmt2, hz2, hB2⟩ := hrel
        have HO2 := Lib.hid hO2
        have HZ2 := Lib.hid hz2
        have HB2 := Lib.hid hB2
        have d0 := HC0.out wr hB2
        clear hO2 hz2 hB2
        by_cases hlj : j < mm
        · obtain ⟨bb, ob, hBb, hbb⟩ := HRE.out.pos (by omega)
          subst hBb
          obtain ⟨x, v0, v1, v2, v3, hx, c0, c1, c2, c3, hev⟩ := HRE.out.at_ j hlj
          obtain ⟨K, kn, kc, V, vn, vc, rfl, rfl, rfl, rfl, _⟩ := hev.parts
          have hsx := HES.out x (List.mem_of_getElem? hx)
          have HC : Hid (∀ wx, Below w.heap.size w wx → wx.cell? ⟨bb, ob + j * 4, none⟩ = some (.slice K kn kc) ∧ wx.cell? ⟨bb, ob + j * 4 + 1, none⟩ = some (.int .u64 (x.seq : Int)) ∧ wx.cell? ⟨bb, ob + j * 4 + 2, none⟩ = some (.int .u8 (x.kind : Int)) ∧ wx.cell? ⟨bb, ob + j * 4 + 3, none⟩ = some (.slice V vn vc)) := Lib.hid (fun wx hb => ⟨(hb.cell (p := ⟨bb, ob + j * 4, none⟩) hbb).trans c0, (hb.cell (p := ⟨bb, ob + j * 4 + 1, none⟩) hbb).trans c1, (hb.cell (p := ⟨bb, ob + j * 4 + 2, none⟩) hbb).trans c2, (hb.cell (p := ⟨bb, ob + j * 4 + 3, none⟩) hbb).trans c3⟩)
          obtain ⟨o2, ho2⟩ : ∃ o2, o2 = insA (refK ls k) (es.take j) := ⟨_, rfl⟩
          obtain ⟨z, hz⟩ : ∃ z, z = inL o2 x := ⟨_, rfl⟩
          have HIN : Hid (Calls Try.prog 83 #[.slice L2 m2 d2, .agg #[.slice K kn kc, .int .u64 (x.seq : Int), .int .u8 (x.kind : Int), .slice V vn vc]] wr (RetT wr z)) := Lib.hid (by rw [hz, ho2]; exact In_any HO2.out (by omega) HZ2.out (hev.below HB2.out) hsx)
          have HEV := Lib.hid hev
          have HSX := Lib.hid hsx
          have HS2 : Hid (insA (refK ls k) (es.take (j + 1)) = (if z then o2 else insL o2 x)) := Lib.hid (by rw [insA_step hx, ← ho2, ← hz])
          have HOO := Lib.hid ho2
          obtain ⟨f0, f1, f2, f3⟩ := HC.out wr HB2.out
          clear hx c0 c1 c2 c3 hev hsx ho2 hz
          go_wp2_with fail
          with_reducible refine HIN.out.mono ?_
          intro e w2 hq
          obtain ⟨h2, b2⟩ := RetT.outD hq
          subst h2
          have HB3 := Lib.hid (belowT' HB2.out b2)
          have HO3 : Hid (REs w2 L2 m2 o2) := Lib.hid (by rw [HOO.out]; exact HO2.out.below b2)
          have HZ3 : Hid (∀ y ∈ o2, SzE y) := Lib.hid (by rw [HOO.out]; exact HZ2.out)
          clear hq b2 d0 f0 f1 f2 f3
          have d0 := HC0.out w2 HB3.out
          obtain ⟨f0, f1, f2, f3⟩ := HC.out w2 HB3.out
          cases z with
          | true =>
            clear d0 f0 f1 f2 f3
            go_wp2_with fail
            go_roundw
            case rel => exact ⟨j + 1, m2, d2, L2, by omega, by go_num, rfl, by rw [HS2.out]; exact HO3.out, hmd2, by omega, by rw [HS2.out]; exact HZ3.out, HB3.out⟩
            case measure => simp [intOf]; omega
          | false =>
            obtain ⟨hl3, us3, hv3, hd3⟩ := HO3.out
            have HIS := Lib.hid (Insert_any hv3 hd3 hl3 hmd2 (by omega) HZ3.out (HEV.out.below HB3.out) HSX.out)
            clear hl3 hv3 hd3
            go_wp2_with fail
            with_reducible refine HIS.out.mono ?_
            intro e w4 hq
            obtain ⟨L4, d4, vs4, he4, o4, hv4, b4, _⟩ := RetIns.out hq
            subst he4
            have HQ : Hid (REs w4 L4 (m2 + 1) (insA (refK ls k) (es.take (j + 1))) ∧ m2 + 1 ≤ d4 ∧ (∀ y ∈ insA (refK ls k) (es.take (j + 1)), SzE y) ∧ Below w.heap.size w w4) := Lib.hid (by
              rw [HS2.out]
              refine ⟨REs.mk hv4 o4.rd (by rw [if_neg (by simp), insL_len, HO3.out.len]), o4.cap.1, fun y hy => ?_, belowT' HB3.out b4⟩
              rw [if_neg (by simp)] at hy
              rcases insL_mem hy with h | h
              · rw [h]; exact HSX.out
              · exact HZ3.out y h)
            clear hq o4 hv4 b4 d0 f0 f1 f2 f3
            go_wp2_with fail
            go_roundw
            case rel => exact ⟨j + 1, m2 + 1, d4, L4, by omega, by go_num, rfl, HQ.out.1, HQ.out.2.1, by omega, HQ.out.2.2.1, HQ.out.2.2.2⟩
            case measure => simp [intOf]; omega
        · have hjm : es.take j = es := List.take_of_length_le (by have := HEL.out; omega)
          have HQ : Hid (REs wr L2 m2 (refK ls (k + 1)) ∧ (∀ y ∈ refK ls (k + 1), SzE y)) := Lib.hid (by
            have h1 := HO2.out
            have h2 := HZ2.out
            rw [hjm] at h1 h2
            rw [HST.out]
            exact ⟨h1, h2⟩)
          clear hjm
          go_wp2_with fail
          go_roundw
          case rel => exact ⟨k + 1, m2, d2, L2, by omega, by go_num, rfl, HQ.out.1, hmd2, by have := HTK.out; omega, HQ.out.2, HB2.out⟩
          case measure => simp [intOf]; omega
    · have htk : ls.take k = ls := List.take_of_length_le (by have := HL.out; omega)
      have hF : refK ls k = refM ls := by unfold refK refM; rw [htk]
      have HF : Hid (RetEs w (refM ls) (.returned (.slice L m d)) wr) := Lib.hid ⟨L, m, d, rfl, by rw [← hF]; exact HO.out, hmd, HB.out⟩
      clear htk hF
      go_wp2_with fail
      go_ret
      exact HF.out
end Go.Proofs.Ytcclhkoggijkaaa
namespace Go.Proofs.Ytcclhkoggijkaaa
open Go Go.RowKit

/-- 'The numbers in these cells are the entries''. -/
def EF (es : List En) (us : List Value) : Prop := ∀ (i : Nat) (x : En), es[i]? = some x → us[i * 4 + 1]? = some (.int .u64 (x.seq : Int)) ∧ us[i * 4 + 2]? = some (.int .u8 (x.kind : Int))
theorem EOs.ef {base : Nat} {w : World} {es : List En} {us : List Value} (h : EOs base w es us) : EF es us := fun i x hx => by
  obtain ⟨v0, v1, v2, v3, _, h1, h2, _, hev⟩ := EVs.at_ i h.evs hx
  obtain ⟨_, _, _, _, _, _, _, e1, e2, _⟩ := hev.parts
  exact ⟨by rw [h1, e1], by rw [h2, e2]⟩
/-- 'These slices are lists of the call's own, one behind the other in memory; their bytes share no memory.' -/
def LsT (w : World) : Nat → Nat → List (List En) → List Value → Prop
  | lo, hi, [], vs => vs = [] ∧ lo ≤ hi
  | lo, hi, es :: ls, vs => ∃ B m c r us mid, vs = .slice B m c :: r ∧ OwnE w lo B m c us ∧ Fam w lo (pairE es us) ∧ (es.length = m ∧ EF es us) ∧ lo ≤ mid ∧ (∀ b, blk B = some b → b < mid) ∧ (∀ q ∈ pairE es us, ∀ b, Value.ownBlock q.1 = some b → b < mid) ∧ LsT w mid hi ls r
theorem LsT.le {w : World} : ∀ {ls : List (List En)} {lo hi : Nat} {vs : List Value}, LsT w lo hi ls vs → lo ≤ hi
  | [], _, _, _, h => h.2
  | _ :: _, _, _, _, ⟨_, _, _, _, _, _, _, _, _, _, h5, _, _, h8⟩ => Nat.le_trans h5 (LsT.le h8)
theorem LsT.up {w : World} : ∀ {ls : List (List En)} {lo hi hi' : Nat} {vs : List Value}, LsT w lo hi ls vs → hi ≤ hi' → LsT w lo hi' ls vs
  | [], _, _, _, _, h, k => ⟨h.1, Nat.le_trans h.2 k⟩
  | _ :: _, _, _, _, _, ⟨B, m, c, r, us, mid, h1, h2, h3, h4, h5, h6, h7, h8⟩, k => ⟨B, m, c, r, us, mid, h1, h2, h3, h4, h5, h6, h7, LsT.up h8 k⟩
theorem LsT.below {w w' : World} (hb : Below w.heap.size w w') : ∀ {ls : List (List En)} {lo hi : Nat} {vs : List Value}, LsT w lo hi ls vs → LsT w' lo hi ls vs
  | [], _, _, _, h => h
  | _ :: _, _, _, _, ⟨B, m, c, r, us, mid, h1, h2, h3, h4, h5, h6, h7, h8⟩ => ⟨B, m, c, r, us, mid, h1, h2.below hb, h3.below hb, h4, h5, h6, h7, LsT.below hb h8⟩
theorem LsT.grow {b1 n c : Nat} {w w' : World} {L : Option Addr} {vs0 : List Value} (ho : OwnV 22 w b1 L n c vs0) (hg : w.grownBy w' (blk L)) : ∀ {ls : List (List En)} {lo hi : Nat} {vs : List Value}, LsT w lo hi ls vs → LsT w' lo hi ls vs
  | [], _, _, _, h => h
  | _ :: _, _, _, _, ⟨B, m, c, r, us, mid, h1, h2, h3, h4, h5, h6, h7, h8⟩ => ⟨B, m, c, r, us, mid, h1, ownE_kept h2 hg (fun b hb e => row_ne ho h2 (by decide) b e hb), h3.kept hg (Fam.off_row h3 ho (by decide)), h4, h5, h6, h7, LsT.grow ho hg h8⟩
/-- A block below is written to. -/
theorem LsT.off {w w' : World} {row : Option Nat} (hg : w.grownBy w' row) : ∀ {ls : List (List En)} {lo hi : Nat} {vs : List Value}, (∀ b, row = some b → b < lo) → LsT w lo hi ls vs → LsT w' lo hi ls vs
  | [], _, _, _, _, h => h
  | _ :: _, lo, _, _, hr, ⟨B, m, c, r, us, mid, h1, h2, h3, h4, h5, h6, h7, h8⟩ => ⟨B, m, c, r, us, mid, h1, ownE_kept h2 hg (fun b hb e => by have h9 := (h2.lt b hb).1; have h10 := hr b e; omega), h3.kept hg (fun b hb => h3.off_old (hr b hb)), h4, h5, h6, h7, LsT.off hg (fun b hb => Nat.lt_of_lt_of_le (hr b hb) h5) h8⟩
theorem LsT.snoc {w : World} {es : List En} {B : Option Addr} {m c : Nat} {us : List Value} {hi3 : Nat} : ∀ {ls : List (List En)} {lo hi : Nat} {vs : List Value}, LsT w lo hi ls vs → OwnE w hi B m c us → Fam w hi (pairE es us) → es.length = m ∧ EF es us → hi ≤ hi3 → (∀ b, blk B = some b → b < hi3) → (∀ q ∈ pairE es us, ∀ b, Value.ownBlock q.1 = some b → b < hi3) → LsT w lo hi3 (ls ++ [es]) (vs ++ [.slice B m c])
  | [], lo, hi, vs, h, hr, hf, hl, hle, hb, hq => by
    rw [h.1]
    exact ⟨B, m, c, [], us, hi3, rfl, OwnE.mono hr h.2, hf.mono h.2, hl, Nat.le_trans h.2 hle, hb, hq, rfl, Nat.le_refl _⟩
  | _ :: _, _, _, _, ⟨B', m', c', r, us', mid, h1, h2, h3, h4, h5, h6, h7, h8⟩, hr, hf, hl, hle, hb, hq => ⟨B', m', c', _, us', mid, by rw [h1]; rfl, h2, h3, h4, h5, h6, h7, LsT.snoc h8 hr hf hl hle hb hq⟩
/-- Lists of the call's own, list by list. -/
def RetTw (w : World) (ls : List (List En)) (e : Ending) (w' : World) : Prop := ∃ L k d vs, e = .returned (.slice L k d) ∧ OwnV 22 w' w.heap.size L k d vs ∧ LsT w' w.heap.size w'.heap.size ls vs ∧ RLs w' L k ls ∧ Below w.heap.size w w'
theorem RetTw.out {w w' : World} {ls : List (List En)} {e : Ending} (h : RetTw w ls e w') : ∃ L k d vs, e = .returned (.slice L k d) ∧ OwnV 22 w' w.heap.size L k d vs ∧ LsT w' w.heap.size w'.heap.size ls vs ∧ RLs w' L k ls ∧ Below w.heap.size w w' := h
set_option maxRecDepth 100000 in
set_option maxHeartbeats 8000000 in
theorem twins11T_any {w : World} {A : Option Addr} {n c : Nat} {ls : List (List En)} (h : RLs w A n ls) (hn : n ≤ 1099511627776) (hm : ∀ es ∈ ls, es.length ≤ 1099511627776) (hs : ∀ es ∈ ls, ∀ x ∈ es, SzE x) : Calls Try.prog 26 #[.slice A n c] w (RetTw w ls) := by
  have HL := Lib.hid h.1
  have HR := Lib.hid h
  have HS := Lib.hid hs
  have HM := Lib.hid hm
  clear h hs hm
  go_enter Try.func26, Try.ntmps26
  go_wp2_with fail
  go_loopw [3, 8] (fun s3 s8 wr => ∃ (k d : Nat) (L : Option Addr) (vs : List Value), k ≤ n ∧ s8 = .int .i64 (k : Int) ∧ s3 = .slice L k d ∧ OwnV 22 wr w.heap.size L k d vs ∧ LsO w.heap.size wr (ls.take k) vs ∧ LsT wr w.heap.size wr.heap.size (ls.take k) vs ∧ Below w.heap.size w wr) (fun _ s _ => n - (intOf s).toNat)
  case atStart => exact ⟨0, 0, none, [], Nat.zero_le _, rfl, rfl, OwnV.nil _ _ _, rfl, ⟨rfl, Nat.le_refl _⟩, Below.refl _ _⟩
  case round =>
    obtain ⟨k, d, L, vs, hk, rfl, rfl, hO, hV, hT, hB⟩ := hrel
    have HTT := Lib.hid hT
    have HO := Lib.hid hO
    have HV := Lib.hid hV
    have HB := Lib.hid hB
    have sB := hB.size
    clear hO hV hT hB
    by_cases hlt : k < n
    · obtain ⟨b, off, hAb, hbl⟩ := HR.out.pos (by omega)
      subst hAb
      obtain ⟨es, B, m, d1, hx, c0, hre, hmd⟩ := HR.out.at_ k hlt
      have d0 := (HB.out.cell (p := ⟨b, off + k, none⟩) hbl).trans c0
      have hmem := List.mem_of_getElem? hx
      have HT := Lib.hid (Twins_any (c := d1) (hre.below HB.out) (by have := HM.out es hmem; rw [← hre.len]; exact this) (HS.out es hmem))
      have HST : Hid (ls.take (k + 1) = ls.take k ++ [es]) := Lib.hid (by rw [List.take_add_one, hx]; rfl)
      clear hx c0 hre hmem
      go_wp2_with fail
      with_reducible refine HT.out.mono ?_
      rintro e w2 ⟨T, tn, td, rfl, hrow⟩
      obtain ⟨us, r1, r2, r3, r4, r5, r6, r7⟩ := hrow
      have b2 : Below wr.heap.size wr w2 := r5
      have HBA := Lib.hid ((HB.out.trans (b2.mono sB)).alloc (HB.out.trans (b2.mono sB)).size (.cells #[.slice T tn td] 22))
      have HB2 : Hid (Below wr.heap.size wr (w2.alloc (.cells #[.slice T tn td] 22))) := Lib.hid (b2.alloc b2.size _)
      have ba : Below w2.heap.size w2 (w2.alloc (.cells #[.slice T tn td] 22)) := (Below.refl _ _).alloc (Nat.le_refl _) _
      have O1 := Lib.hid (OwnV.below HO.out HB2.out)
      have HV2 : Hid (LsO w.heap.size (w2.alloc (.cells #[.slice T tn td] 22)) (ls.take (k + 1)) (vs ++ [.slice T tn td])) := Lib.hid (by
        rw [HST.out]
        exact LsO.snoc (OwnE.mono (r1.below ba) sB) (EOs.mono sB (r2.below ba)) r4 (LsO.below HB2.out HV.out))
      have hlr : ∀ b, blk T = some b → b < (w2.alloc (.cells #[.slice T tn td] 22)).heap.size := fun b hb => by have := (r1.lt b hb).2; simp; omega
      have hlq : ∀ q ∈ pairE es us, ∀ b, Value.ownBlock q.1 = some b → b < (w2.alloc (.cells #[.slice T tn td] 22)).heap.size := fun q hq b hb => by have := (r7.lt hq hb).2; simp; omega
      have HT2 : Hid (LsT (w2.alloc (.cells #[.slice T tn td] 22)) w.heap.size (w2.alloc (.cells #[.slice T tn td] 22)).heap.size (ls.take (k + 1)) (vs ++ [.slice T tn td])) := Lib.hid (by
        rw [HST.out]
        exact LsT.snoc (LsT.below HB2.out HTT.out) (r1.below ba) (r7.below ba) ⟨r4, EOs.ef r2⟩ HB2.out.size hlr hlq)
      have HRD := Lib.hid (OwnV.rd (ownV_box2 w2 22 w2.heap.size [.slice T tn td] 1 rfl (by omega) (Nat.le_refl _) _ rfl))
      have hone : ∀ u ∈ [Value.slice T tn td], u.oneCell' = true := by intro u hu; rw [List.mem_singleton] at hu; rw [hu]; rfl
      have HON := Lib.hid hone
      have s2 := HBA.out.size
      clear r1 r2 r3 r4 r5 r6 r7 b2 ba hone d0 hlr hlq
      go_wp2_with (at_builtin; refine wpList_appV (w2.alloc (.cells #[.slice T tn td] 22)) rfl _ _ 53 rfl w.heap.size 22 (.slice none 0 0) 24 Try.underlying53 info_les rfl L k d vs rfl O1.out (some ⟨w2.heap.size, 0, none⟩) 1 1 [.slice T tn td] rfl HRD.out HON.out ?_ ?_ ?_ ?_)
      · unfold maxLen; omega
      · omega
      · exact s2
      intro L2 d2 w3 o2 hg2 _
      have HQ := Lib.hid (And.intro o2 (And.intro (LsO.kept O1.out hg2 HV2.out) (And.intro (LsT.up (LsT.grow O1.out hg2 HT2.out) (by obtain ⟨_, _, _, q, _⟩ := hg2; exact q)) (HBA.out.grown hg2 HBA.out.size (fun g hg => (OwnV.lt O1.out g hg).1)))))
      clear o2 hg2
      go_wp2_with fail
      go_roundw
      case rel => exact ⟨k + 1, d2, L2, _, by omega, by go_num, rfl, HQ.out.1, HQ.out.2.1, HQ.out.2.2.1, HQ.out.2.2.2⟩
      case measure => simp [intOf]; omega
    · have htk : ls.take k = ls := List.take_of_length_le (by have := HL.out; omega)
      have HF : Hid (RetTw w ls (.returned (.slice L k d)) wr) := Lib.hid ⟨L, k, d, vs, rfl, HO.out, by rw [← htk]; exact HTT.out, by rw [← htk]; exact LsV.rls (LsO.lsv HV.out) (OwnV.rd HO.out) (by rw [htk]; have := HL.out; omega), HB.out⟩
      clear htk
      go_wp2_with fail
      go_ret
      exact HF.out
/-- 'Reads as these; the bytes are good, the row is new.' -/
def PkG (P : Nat → Prop) (w : World) (es : List En) (L : Option Addr) (k : Nat) (wr : World) : Prop :=
  ∃ vs, EVs wr es vs ∧ RdV wr L (k * 4) vs ∧ es.length = k ∧ GV P vs ∧ (∀ b, blk L = some b → w.heap.size ≤ b)
theorem PkG.res {P : Nat → Prop} {w wr : World} {es : List En} {L : Option Addr} {k : Nat} (h : PkG P w es L k wr) : REs wr L k es := by
  obtain ⟨vs, h1, h2, h3, _⟩ := h
  exact REs.mk h1 h2 h3
theorem PkG.below {P : Nat → Prop} {w wr w' : World} {es : List En} {L : Option Addr} {k : Nat} (h : PkG P w es L k wr) (hb : Below wr.heap.size wr w') : PkG P w es L k w' := by
  obtain ⟨vs, h1, h2, h3, h4, h5⟩ := h
  exact ⟨vs, h1.below hb, h2.below hb, h3, h4, h5⟩
theorem PkG.nil (P : Nat → Prop) (w : World) : PkG P w [] none 0 w := ⟨[], rfl, RdV.nil _ _, rfl, GV.nil, fun b h => by cases h⟩
theorem PkG.rg {P : Nat → Prop} {w wr : World} {es : List En} {L : Option Addr} {k : Nat} (h : PkG P w es L k wr) : RG (fun b => P b ∨ w.heap.size ≤ b) wr L k es := by
  obtain ⟨vs, h1, h2, h3, h4, h5⟩ := h
  exact ⟨h3, vs, h1, h2, fun A m c g hv hm hb => .inl (h4 A m c g hv hm hb), fun _ g hb => .inr (h5 g hb)⟩
/-- 'These slices read as these lists, in good memory.' -/
def RLg (P : Nat → Prop) (w : World) (A : Option Addr) (n : Nat) (ls : List (List En)) : Prop :=
  ls.length = n ∧ (0 < n → ∃ b off, A = some ⟨b, off, none⟩ ∧ b < w.heap.size ∧ ∀ (i : Nat) es, ls[i]? = some es → ∃ B m c, w.cell? ⟨b, off + i, none⟩ = some (.slice B m c) ∧ RG P w B m es ∧ m ≤ c)
theorem RLg.of {w : World} {A : Option Addr} {n : Nat} {ls : List (List En)} (h : RLs w A n ls) : RLg (fun g => g < w.heap.size) w A n ls := ⟨h.1, fun hn => by
  obtain ⟨b, off, h1, h2, h3⟩ := h.2 hn
  refine ⟨b, off, h1, h2, fun i es hi => ?_⟩
  obtain ⟨B, m, c, h4, h5, h6⟩ := h3 i es hi
  exact ⟨B, m, c, h4, h5.lt, h6⟩⟩
theorem RLg.below {P : Nat → Prop} {w w' : World} {A : Option Addr} {n : Nat} {ls : List (List En)} (h : RLg P w A n ls) (hb : Below w.heap.size w w') : RLg P w' A n ls := ⟨h.1, fun hn => by
  obtain ⟨b, off, h1, h2, h3⟩ := h.2 hn
  refine ⟨b, off, h1, Nat.lt_of_lt_of_le h2 hb.size, fun i es hi => ?_⟩
  obtain ⟨B, m, c, h4, h5, h6⟩ := h3 i es hi
  exact ⟨B, m, c, (hb.cell (p := ⟨b, off + i, none⟩) h2).trans h4, h5.below hb, h6⟩⟩
theorem RLg.rls {P : Nat → Prop} {w : World} {A : Option Addr} {n : Nat} {ls : List (List En)} (h : RLg P w A n ls) : RLs w A n ls := ⟨h.1, fun hn => by
  obtain ⟨b, off, h1, h2, h3⟩ := h.2 hn
  refine ⟨b, off, h1, h2, fun i es hi => ?_⟩
  obtain ⟨B, m, c, h4, h5, h6⟩ := h3 i es hi
  exact ⟨B, m, c, h4, h5.res, h6⟩⟩
theorem RLg.at_ {P : Nat → Prop} {w : World} {b off n : Nat} {ls : List (List En)} (h : RLg P w (some ⟨b, off, none⟩) n ls) (k : Nat) (hk : k < n) : ∃ es B m c, ls[k]? = some es ∧ w.cell? ⟨b, off + k, none⟩ = some (.slice B m c) ∧ RG P w B m es ∧ m ≤ c := by
  obtain ⟨b', off', h1, _, h3⟩ := h.2 (by omega)
  have hl : k < ls.length := by have := h.1; omega
  injection h1 with h1
  injection h1 with h1 h2
  subst h1 h2
  obtain ⟨B, m, c, h4, h5, h6⟩ := h3 k _ (List.getElem?_eq_getElem hl)
  exact ⟨_, B, m, c, List.getElem?_eq_getElem hl, h4, h5, h6⟩
/-- Lists that can be read; the bytes are old, the row is new. -/
def RetEg (P : Nat → Prop) (w : World) (es : List En) (e : Ending) (w' : World) : Prop := ∃ L k d, e = .returned (.slice L k d) ∧ PkG P w es L k w' ∧ k ≤ d ∧ Below w.heap.size w w'
theorem RetEg.out {P : Nat → Prop} {w w' : World} {es : List En} {e : Ending} (h : RetEg P w es e w') : ∃ L k d, e = .returned (.slice L k d) ∧ PkG P w es L k w' ∧ k ≤ d ∧ Below w.heap.size w w' := h
set_option maxRecDepth 100000 in
set_option maxHeartbeats 16000000 in
theorem refMerge11G_any {w : World} {A : Option Addr} {n c : Nat} {ls : List (List En)} {P : Nat → Prop} (h : RLg P w A n ls) (hn : n ≤ 1099511627776) (hm : totLn ls ≤ 2097152) (hs : ∀ es ∈ ls, ∀ x ∈ es, SzE x) : Calls Try.prog 30 #[.slice A n c] w (RetEg P w (refM ls)) := by
  have HL := Lib.hid h.1
  have HR := Lib.hid h.rls
  have HRG := Lib.hid h
  have HS := Lib.hid hs
  have HT : Hid (∀ k es, ls[k]? = some es → totLn (ls.take (k + 1)) = totLn (ls.take k) + es.length ∧ totLn (ls.take (k + 1)) ≤ 2097152) := Lib.hid (fun k es hk => by
    have e : ls.take (k + 1) = ls.take k ++ [es] := by rw [List.take_add_one, hk]; rfl
    have h1 : totLn (ls.take (k + 1)) = totLn (ls.take k) + es.length := by rw [e, totLn_app]; simp [totLn]
    have h2 : totLn ls = totLn (ls.take (k + 1)) + totLn (ls.drop (k + 1)) := by rw [← totLn_app, List.take_append_drop]
    exact ⟨h1, by omega⟩)
  clear h hs hm
  go_enter Try.func30, Try.ntmps30
  go_wp2_with fail
  go_loopw [3, 4] (fun s3 s4 wr => ∃ (k m d : Nat) (L : Option Addr), k ≤ n ∧ s4 = .int .i64 (k : Int) ∧ s3 = .slice L m d ∧ PkG P w (refK ls k) L m wr ∧ m ≤ d ∧ m ≤ totLn (ls.take k) ∧ (∀ x ∈ refK ls k, SzE x) ∧ Below w.heap.size w wr) (fun _ s _ => n - (intOf s).toNat)
  case atStart => exact ⟨0, 0, 0, none, Nat.zero_le _, rfl, rfl, PkG.nil _ _, Nat.le_refl _, Nat.zero_le _, (fun x hx => by cases hx), Below.refl _ _⟩
  case round =>
    obtain ⟨k, m, d, L, hk, rfl, rfl, hO, hmd, hmt, hz, hB⟩ := hrel
    have HO := Lib.hid hO
    have HZ := Lib.hid hz
    have HB := Lib.hid hB
    clear hO hz hB
    by_cases hlt : k < n
    · obtain ⟨b, off, hAb, hbl⟩ := HR.out.pos (by omega)
      subst hAb
      obtain ⟨es, B, mm, d1, hx, c0, hre, hmd1⟩ := HRG.out.at_ k hlt
      have hmem := List.mem_of_getElem? hx
      have HES := Lib.hid (HS.out es hmem)
      have HRE := Lib.hid hre
      have HEL := Lib.hid hre.len
      have HC0 : Hid (∀ wx, Below w.heap.size w wx → wx.cell? ⟨b, off + k, none⟩ = some (.slice B mm d1)) := Lib.hid (fun wx hb => (hb.cell (p := ⟨b, off + k, none⟩) hbl).trans c0)
      have HST := Lib.hid (refK_step hx)
      obtain ⟨ht1, ht2⟩ := HT.out k es hx
      obtain ⟨tk, htk⟩ : ∃ tk, tk = totLn (ls.take k) := ⟨_, rfl⟩
      rw [← htk] at ht1 hmt
      have hbound : tk + mm ≤ 2097152 := by have := HEL.out; omega
      have HTK : Hid (totLn (ls.take (k + 1)) = tk + mm) := Lib.hid (by have := HEL.out; omega)
      clear hx c0 hre hmem ht1 ht2 htk
      go_wp2_with fail
      go_loopw [3, 5] (fun s3 s5 wx => ∃ (j m2 d2 : Nat) (L2 : Option Addr), j ≤ mm ∧ s5 = .int .i64 (j : Int) ∧ s3 = .slice L2 m2 d2 ∧ PkG P w (insA (refK ls k) (es.take j)) L2 m2 wx ∧ m2 ≤ d2 ∧ m2 ≤ tk + j ∧ (∀ x ∈ insA (refK ls k) (es.take j), SzE x) ∧ Below w.heap.size w wx) (fun _ s _ => mm - (intOf s).toNat)
      case atStart => exact ⟨0, m, d, L, Nat.zero_le _, rfl, rfl, HO.out, hmd, hmt, HZ.out, HB.out⟩
      case round =>
        obtain ⟨j, m2, d2, L2, hj, rfl, rfl, hO2, hmd2, hmt2, hz2, hB2⟩ := hrel
        have HO2 := Lib.hid hO2
        have HZ2 := Lib.hid hz2
        have HB2 := Lib.hid hB2
        have d0 := HC0.out wr hB2
        clear hO2 hz2 hB2
        by_cases hlj : j < mm
        · obtain ⟨bb, ob, hBb, hbb⟩ := HRE.out.res.pos (by omega)
          subst hBb
          obtain ⟨x, v0, v1, v2, v3, hx, c0, c1, c2, c3, hev, hgv⟩ := HRE.out.at_ j hlj
          have HGV := Lib.hid hgv
          obtain ⟨K, kn, kc, V, vn, vc, rfl, rfl, rfl, rfl, _⟩ := hev.parts
          have hsx := HES.out x (List.mem_of_getElem? hx)
          have HC : Hid (∀ wx, Below w.heap.size w wx → wx.cell? ⟨bb, ob + j * 4, none⟩ = some (.slice K kn kc) ∧ wx.cell? ⟨bb, ob + j * 4 + 1, none⟩ = some (.int .u64 (x.seq : Int)) ∧ wx.cell? ⟨bb, ob + j * 4 + 2, none⟩ = some (.int .u8 (x.kind : Int)) ∧ wx.cell? ⟨bb, ob + j * 4 + 3, none⟩ = some (.slice V vn vc)) := Lib.hid (fun wx hb => ⟨(hb.cell (p := ⟨bb, ob + j * 4, none⟩) hbb).trans c0, (hb.cell (p := ⟨bb, ob + j * 4 + 1, none⟩) hbb).trans c1, (hb.cell (p := ⟨bb, ob + j * 4 + 2, none⟩) hbb).trans c2, (hb.cell (p := ⟨bb, ob + j * 4 + 3, none⟩) hbb).trans c3⟩)
          obtain ⟨o2, ho2⟩ : ∃ o2, o2 = insA (refK ls k) (es.take j) := ⟨_, rfl⟩
          obtain ⟨z, hz⟩ : ∃ z, z = inL o2 x := ⟨_, rfl⟩
          have HIN : Hid (Calls Try.prog 83 #[.slice L2 m2 d2, .agg #[.slice K kn kc, .int .u64 (x.seq : Int), .int .u8 (x.kind : Int), .slice V vn vc]] wr (RetT wr z)) := Lib.hid (by rw [hz, ho2]; exact In_any HO2.out.res (by omega) HZ2.out (hev.below HB2.out) hsx)
          have HEV := Lib.hid hev
          have HSX := Lib.hid hsx
          have HS2 : Hid (insA (refK ls k) (es.take (j + 1)) = (if z then o2 else insL o2 x)) := Lib.hid (by rw [insA_step hx, ← ho2, ← hz])
          have HOO := Lib.hid ho2
          obtain ⟨f0, f1, f2, f3⟩ := HC.out wr HB2.out
          clear hx c0 c1 c2 c3 hev hgv hsx ho2 hz
          go_wp2_with fail
          with_reducible refine HIN.out.mono ?_
          intro e w2 hq
          obtain ⟨h2, b2⟩ := RetT.outD hq
          subst h2
          have HB3 := Lib.hid (belowT' HB2.out b2)
          have HO3 : Hid (PkG P w o2 L2 m2 w2) := Lib.hid (by rw [HOO.out]; exact HO2.out.below b2)
          have HZ3 : Hid (∀ y ∈ o2, SzE y) := Lib.hid (by rw [HOO.out]; exact HZ2.out)
          clear hq b2 d0 f0 f1 f2 f3
          have d0 := HC0.out w2 HB3.out
          obtain ⟨f0, f1, f2, f3⟩ := HC.out w2 HB3.out
          cases z with
          | true =>
            clear d0 f0 f1 f2 f3
            go_wp2_with fail
            go_roundw
            case rel => exact ⟨j + 1, m2, d2, L2, by omega, by go_num, rfl, by rw [HS2.out]; exact HO3.out, hmd2, by omega, by rw [HS2.out]; exact HZ3.out, HB3.out⟩
            case measure => simp [intOf]; omega
          | false =>
            obtain ⟨us3, hv3, hd3, hl3, hgv3, hrow3⟩ := HO3.out
            have HGV3 := Lib.hid hgv3
            have HIS := Lib.hid (Insert_any hv3 hd3 hl3 hmd2 (by omega) HZ3.out (HEV.out.below HB3.out) HSX.out)
            clear hl3 hv3 hd3 hgv3 hrow3
            go_wp2_with fail
            with_reducible refine HIS.out.mono ?_
            intro e w4 hq
            obtain ⟨L4, d4, vs4, he4, o4, hv4, b4, hsub4⟩ := RetIns.out hq
            subst he4
            have HQ : Hid (PkG P w (insA (refK ls k) (es.take (j + 1))) L4 (m2 + 1) w4 ∧ m2 + 1 ≤ d4 ∧ (∀ y ∈ insA (refK ls k) (es.take (j + 1)), SzE y) ∧ Below w.heap.size w w4) := Lib.hid (by
              rw [HS2.out]
              refine ⟨⟨vs4, hv4, o4.rd, by rw [if_neg (by simp), insL_len, HO3.out.res.len], fun A' m' c' g' hv' hm' hb' => (by
                rcases List.mem_append.1 (hsub4 _ hv') with q | q
                · exact HGV.out A' m' c' g' q hm' hb'
                · exact HGV3.out A' m' c' g' q hm' hb'), fun g' hg' => (by have := (o4.lt g' hg').1; have := HB3.out.size; omega)⟩, o4.cap.1, fun y hy => ?_, belowT' HB3.out b4⟩
              rw [if_neg (by simp)] at hy
              rcases insL_mem hy with h | h
              · rw [h]; exact HSX.out
              · exact HZ3.out y h)
            clear hq o4 hv4 b4 hsub4 d0 f0 f1 f2 f3
            go_wp2_with fail
            go_roundw
            case rel => exact ⟨j + 1, m2 + 1, d4, L4, by omega, by go_num, rfl, HQ.out.1, HQ.out.2.1, by omega, HQ.out.2.2.1, HQ.out.2.2.2⟩
            case measure => simp [intOf]; omega
        · have hjm : es.take j = es := List.take_of_length_le (by have := HEL.out; omega)
          have HQ : Hid (PkG P w (refK ls (k + 1)) L2 m2 wr ∧ (∀ y ∈ refK ls (k + 1), SzE y)) := Lib.hid (by
            have h1 := HO2.out
            have h2 := HZ2.out
            rw [hjm] at h1 h2
            rw [HST.out]
            exact ⟨h1, h2⟩)
          clear hjm
          go_wp2_with fail
          go_roundw
          case rel => exact ⟨k + 1, m2, d2, L2, by omega, by go_num, rfl, HQ.out.1, hmd2, by have := HTK.out; omega, HQ.out.2, HB2.out⟩
          case measure => simp [intOf]; omega
    · have htk : ls.take k = ls := List.take_of_length_le (by have := HL.out; omega)
      have hF : refK ls k = refM ls := by unfold refK refM; rw [htk]
      have HF : Hid (RetEg P w (refM ls) (.returned (.slice L m d)) wr) := Lib.hid ⟨L, m, d, rfl, by rw [← hF]; exact HO.out, hmd, HB.out⟩
      clear htk hF
      go_wp2_with fail
      go_ret
      exact HF.out
end Go.Proofs.Ytcclhkoggijkaaa
namespace Go.Proofs.Ytcclhkoggijkaaa
open Go Go.RowKit

theorem cutL_mem {ls : List (List En)} {es : List En} (h : es ∈ cutL ls) : es.length ≤ 30 ∧ ∃ l ∈ ls, ∀ x ∈ es, x ∈ l := by
  unfold cutL at h
  obtain ⟨l, h1, h2⟩ := List.mem_map.1 h
  refine ⟨by rw [← h2, List.length_take]; omega, l, List.mem_of_mem_take h1, fun x hx => ?_⟩
  rw [← h2] at hx
  exact List.mem_of_mem_take hx
theorem totLn_le : ∀ (ls : List (List En)), (∀ l ∈ ls, l.length ≤ 30) → totLn ls ≤ 30 * ls.length
  | [], _ => by simp [totLn]
  | l :: t, h => by
    have h1 := h l List.mem_cons_self
    have h2 := totLn_le t (fun x hx => h x (List.mem_cons_of_mem _ hx))
    rw [totLn, List.length_cons]
    omega
theorem cutL_tot (ls : List (List En)) : (cutL ls).length ≤ 6 ∧ totLn (cutL ls) ≤ 180 := by
  have h1 : (cutL ls).length ≤ 6 := by unfold cutL; rw [List.length_map, List.length_take]; omega
  have h2 := totLn_le (cutL ls) (fun l hl => (cutL_mem hl).1)
  exact ⟨h1, by omega⟩
theorem allS_of {ls : List (List En)} (h : chkL ls = 0) : AllS ls := by
  intro l hl
  obtain ⟨k, hk⟩ := List.mem_iff_getElem?.1 hl
  have key : ∀ (ls : List (List En)) (a : Int), ls.foldl (fun a x => comb a (chk1 x)) a = 0 → (a = 0 ∨ a = 2 ∨ a = 3) → a = 0 ∧ ∀ l ∈ ls, chk1 l = 0 := by
    intro ls
    induction ls with
    | nil => intro a h _; exact ⟨h, fun l hl => by cases hl⟩
    | cons x t ih =>
      intro a h ha
      rw [List.foldl_cons] at h
      obtain ⟨h1, h2⟩ := ih _ h (comb_kinds ha (chk1_kinds x))
      have h3 : a = 0 ∧ chk1 x = 0 := by
        rcases ha with rfl | rfl | rfl <;> rcases chk1_kinds x with e | e | e <;> rw [e] at h1 <;> first | (exact ⟨rfl, e⟩) | (exact absurd h1 (by decide))
      exact ⟨h3.1, fun l hl => by
        rcases List.mem_cons.1 hl with e | e
        · rw [e]; exact h3.2
        · exact h2 l e⟩
  exact (chk1_ok ((key ls 0 h (.inl rfl)).2 l hl)).1
end Go.Proofs.Ytcclhkoggijkaaa
namespace Go.Proofs.Ytcclhkoggijkaaa
open Go Go.RowKit

/-- What Open hands back. -/
def RetOp (w : World) (z : Int) (es : List En) (e : Ending) (w' : World) : Prop :=
  (z ≠ 0 ∧ e = .returned (.tuple #[.pointer none, .int .i64 z]) ∧ Below w.heap.size w w') ∨
  (z = 0 ∧ ∃ q L k d, e = .returned (.tuple #[.pointer (some ⟨q, 0, none⟩), .int .i64 0]) ∧ Cl w' q #[.slice L k d] 56 ∧ w.heap.size ≤ q ∧ RowE w w.heap.size L k d es w')
set_option maxRecDepth 100000 in
set_option maxHeartbeats 8000000 in
theorem mgOpen_any {w : World} {A : Option Addr} {n c : Nat} {ls : List (List En)} (h : RLs w A n ls) (hc : n ≤ c) (hn : n ≤ 1099511627776) (ht : totLn ls ≤ 2097152) (hs : ∀ es ∈ ls, ∀ x ∈ es, SzE x) :
    Calls Try.prog 27 #[.slice A n c] w (RetOp w (chkL ls) (joinL n ls)) := by
  have HM := Lib.hid (merge_any h hc hn ht hs)
  obtain ⟨z, hz⟩ : ∃ z, z = chkL ls := ⟨_, rfl⟩
  obtain ⟨jl, hjl⟩ : ∃ jl, jl = joinL n ls := ⟨_, rfl⟩
  rw [← hz, ← hjl] at HM
  rw [← hz, ← hjl]
  clear h hz hjl hs
  go_enter Try.func27, Try.ntmps27
  go_wp2_with fail
  with_reducible refine HM.out.mono ?_
  intro e w1 hq
  rcases hq with ⟨hz0, he, b1⟩ | ⟨hz0, L, k, d, he, hrow⟩
  · subst he
    have t1 : (z != 0) = true := by simpa using hz0
    have HF : Hid (RetOp w z jl (.returned (.tuple #[.pointer none, .int .i64 z])) w1) := Lib.hid (.inl ⟨hz0, rfl, b1⟩)
    clear b1
    go_wp2_with fail
    exact bodyPost_ret (v := .tuple #[.pointer none, .int .i64 z]) (by simp [results, Try.f27, go_sem]; try rfl) rfl HF.out
  · subst he
    subst hz0
    have ba : Below w1.heap.size w1 (w1.alloc (.cells #[.slice L k d] 56)) := (Below.refl _ _).alloc (Nat.le_refl _) _
    have HF : Hid (RetOp w 0 jl (.returned (.tuple #[.pointer (some ⟨w1.heap.size, 0, none⟩), .int .i64 0])) (w1.alloc (.cells #[.slice L k d] 56))) := Lib.hid (.inr ⟨rfl, w1.heap.size, L, k, d, rfl, Cl.new _ _ _, hrow.size, hrow.below ba⟩)
    clear hrow ba
    go_wp2_with fail
    exact bodyPost_ret (v := .tuple #[.pointer (some ⟨w1.heap.size, 0, none⟩), .int .i64 0]) (by simp [results, Try.f27, go_sem]; try rfl) rfl HF.out
theorem grow_new {w w' : World} {row : Option Nat} (h : w.grownBy w' row) (p : Nat) (i : Nat) (v : Value) (hp : w.heap.size ≤ p) : w.grownBy (World.setCell w' ⟨p, i, none⟩ v) row := by
  obtain ⟨h1, h2, h3, h4, h5⟩ := h
  have k := (Below.refl p w').setCell (p := ⟨p, i, none⟩) (Nat.le_refl _) v
  exact ⟨k.os.trans h1, k.tape.trans h2, k.output.trans h3, Nat.le_trans h4 k.size, fun b hb hne => by
    have hbp : b ≠ p := fun e => by omega
    rw [heap_setCell_other _ _ _ _ hbp]
    exact h5 b hb hne⟩
set_option maxRecDepth 100000 in
set_option maxHeartbeats 8000000 in
theorem mgNext_nil {w : World} {q : Nat} {A : Option Addr} {c : Nat} (hq : Cl w q #[.slice A 0 c] 56) :
    Calls Try.prog 23 #[.pointer (some ⟨q, 0, none⟩)] w (fun e w' => e = .returned (.tuple #[.agg #[.slice none 0 0, .int .u64 0, .int .u8 0, .slice none 0 0], .bool false]) ∧ Below w.heap.size w w') := by
  obtain ⟨U, hU⟩ : ∃ U, U = w.alloc (.cells #[.slice none 0 0, .int .u64 0, .int .u8 0, .slice none 0 0] 37) := ⟨_, rfl⟩
  have bU : Below w.heap.size w U := by rw [hU]; exact (Below.refl _ _).alloc (Nat.le_refl _) _
  have zU : Cl U w.heap.size #[.slice none 0 0, .int .u64 0, .int .u8 0, .slice none 0 0] 37 := by rw [hU]; exact Cl.new _ _ _
  obtain ⟨l0, _⟩ := (hq.below bU).c1
  have ZU := Lib.hid zU
  have BU := Lib.hid bU
  have HU := Lib.hid hU
  obtain ⟨y0, y1, y2, y3, k0, k1, k2, k3⟩ := zU.c4
  clear hU zU bU hq
  go_enter Try.func23, Try.ntmps23
  go_upto_region 1 with (fail)
  rw [← HU.out]
  go_wp2_with fail
  obtain ⟨X, hX⟩ : ∃ X, X = ((((U.setCell ⟨w.heap.size, 0, none⟩ (.slice none 0 0)).setCell ⟨w.heap.size, 1, none⟩ (.int .u64 0)).setCell ⟨w.heap.size, 2, none⟩ (.int .u8 0)).setCell ⟨w.heap.size, 3, none⟩ (.slice none 0 0)) := ⟨_, rfl⟩
  rw [← hX]
  have zX : Cl X w.heap.size #[.slice none 0 0, .int .u64 0, .int .u8 0, .slice none 0 0] 37 := by rw [hX]; exact ZU.out.put4 rfl _ _ _ _
  have bX : Below w.heap.size w X := by rw [hX]; exact below_set (below_set (below_set (below_set BU.out 0 _ (Nat.le_refl _)) 1 _ (Nat.le_refl _)) 2 _ (Nat.le_refl _)) 3 _ (Nat.le_refl _)
  obtain ⟨x0, x1, x2, x3, _⟩ := zX.c4
  exact bodyPost_ret (v := .tuple #[.agg #[.slice none 0 0, .int .u64 0, .int .u8 0, .slice none 0 0], .bool false]) (by simp [results, Try.results23, go_sem, x0, x1, x2, x3]; try rfl) rfl ⟨rfl, bX⟩
set_option maxRecDepth 100000 in
set_option maxHeartbeats 8000000 in
theorem mgNext_one {w : World} {q b off n c : Nat} {s1 s2 : Int} {K V : Option Addr} {kn kc vn vc : Nat} (hq : Cl w q #[.slice (some ⟨b, off, none⟩) (n + 1) c] 56) (hn : n ≤ 1099511627776) (hb : b < w.heap.size) (c0 : w.cell? ⟨b, off, none⟩ = some (.slice K kn kc)) (c1 : w.cell? ⟨b, off + 1, none⟩ = some (.int .u64 s1)) (c2 : w.cell? ⟨b, off + 2, none⟩ = some (.int .u8 s2)) (c3 : w.cell? ⟨b, off + 3, none⟩ = some (.slice V vn vc)) :
    Calls Try.prog 23 #[.pointer (some ⟨q, 0, none⟩)] w (fun e w' => e = .returned (.tuple #[.agg #[.slice K kn kc, .int .u64 s1, .int .u8 s2, .slice V vn vc], .bool true]) ∧ Cl w' q #[.slice (cutA4 (some ⟨b, off, none⟩) 1 c) n (c - 1)] 56 ∧ w.grownBy w' (some q)) := by
  obtain ⟨U, hU⟩ : ∃ U, U = w.alloc (.cells #[.slice none 0 0, .int .u64 0, .int .u8 0, .slice none 0 0] 37) := ⟨_, rfl⟩
  have bU : Below w.heap.size w U := by rw [hU]; exact (Below.refl _ _).alloc (Nat.le_refl _) _
  have zU : Cl U w.heap.size #[.slice none 0 0, .int .u64 0, .int .u8 0, .slice none 0 0] 37 := by rw [hU]; exact Cl.new _ _ _
  obtain ⟨W, hW⟩ : ∃ W, W = U.alloc (.cells #[.slice K kn kc, .int .u64 s1, .int .u8 s2, .slice V vn vc] 37) := ⟨_, rfl⟩
  obtain ⟨g4, hg4⟩ : ∃ g4, g4 = U.heap.size := ⟨_, rfl⟩
  have bW : Below U.heap.size U W := by rw [hW]; exact (Below.refl _ _).alloc (Nat.le_refl _) _
  have zW : Cl W g4 #[.slice K kn kc, .int .u64 s1, .int .u8 s2, .slice V vn vc] 37 := by rw [hW, hg4]; exact Cl.new _ _ _
  have bw : Below w.heap.size w W := belowT bU bW
  have hql := hq.lt
  have hwu : w.heap.size < U.heap.size := by rw [hU]; simp
  have hgq : q ≠ g4 := by omega
  have hwq : q ≠ w.heap.size := by omega
  have hwg : w.heap.size ≠ g4 := by omega
  obtain ⟨Y, hY⟩ : ∃ Y, Y = W.setCell ⟨q, 0, none⟩ (.slice (cutA4 (some ⟨b, off, none⟩) 1 c) n (c - 1)) := ⟨_, rfl⟩
  have qW := hq.below bw
  have qY : Cl Y q #[.slice (cutA4 (some ⟨b, off, none⟩) 1 c) n (c - 1)] 56 := by rw [hY]; exact qW.set 0 _
  have zY : Cl Y g4 #[.slice K kn kc, .int .u64 s1, .int .u8 s2, .slice V vn vc] 37 := by rw [hY]; exact zW.off 0 _ hgq
  have uY : Cl Y w.heap.size #[.slice none 0 0, .int .u64 0, .int .u8 0, .slice none 0 0] 37 := by rw [hY]; exact (zU.below bW).off 0 _ hwq
  have gY : w.grownBy Y (some q) := by rw [hY]; exact grow_set (grow_of_below bw) q 0 _ rfl
  have hcut : ∀ w, (Instr.slice 22 (.slice (some ⟨b, off, none⟩) (n + 1) c) (some (.int .i64 1)) none none).run Try.prog w = .ok (.slice (cutA4 (some ⟨b, off, none⟩) 1 c) n (c - 1)) w := fun w => by
    have := cut4_l (P := Try.prog) Try.underlying22 elem4 size4 (some ⟨b, off, none⟩) (n := n + 1) (cap := c) (k := 1) (by omega) w
    simpa using this
  obtain ⟨cA, hcA⟩ : ∃ cA, cA = cutA4 (some ⟨b, off, none⟩) 1 c := ⟨_, rfl⟩
  rw [← hcA] at hcut hY qY ⊢
  have QY := Lib.hid qY
  have UY := Lib.hid uY
  have GY := Lib.hid gY
  have HU := Lib.hid hU
  have HW := Lib.hid hW
  have HG4 := Lib.hid hg4
  have HY := Lib.hid hY
  have HWQ := Lib.hid hwq
  have HGQ := Lib.hid hgq
  have HWG := Lib.hid hwg
  obtain ⟨l0, _⟩ := (hq.below bU).c1
  obtain ⟨m0, m1⟩ := qW.c1
  have d0 := (bU.cell (p := ⟨b, off, none⟩) hb).trans c0
  have d1 := (bU.cell (p := ⟨b, off + 1, none⟩) hb).trans c1
  have d2 := (bU.cell (p := ⟨b, off + 2, none⟩) hb).trans c2
  have d3 := (bU.cell (p := ⟨b, off + 3, none⟩) hb).trans c3
  have ZY := Lib.hid zY
  have tn : (((n + 1 : Nat) : Int) == 0) = false := by rw [beq_eq_false_iff_ne]; omega
  clear hq c0 c1 c2 c3 hU hW hg4 bU zU bW zW bw qW qY zY uY gY hcA hwq hgq hwg hY
  go_enter Try.func23, Try.ntmps23
  go_upto_region 1 with (fail)
  rw [← HU.out]
  go_upto_region 4 with (fail)
  rw [← HW.out, ← HG4.out]
  clear l0 d0 d1 d2 d3
  go_upto_region 5 with (fail)
  rw [← HY.out]
  obtain ⟨x0, x1, x2, x3, _⟩ := ZY.out.c4
  obtain ⟨y0, y1, y2, y3, k0, k1, k2, k3⟩ := UY.out.c4
  clear m0 m1
  go_wp2_with fail
  obtain ⟨X, hX⟩ : ∃ X, X = ((((Y.setCell ⟨w.heap.size, 0, none⟩ (.slice K kn kc)).setCell ⟨w.heap.size, 1, none⟩ (.int .u64 s1)).setCell ⟨w.heap.size, 2, none⟩ (.int .u8 s2)).setCell ⟨w.heap.size, 3, none⟩ (.slice V vn vc)) := ⟨_, rfl⟩
  rw [← hX]
  have zX : Cl X w.heap.size #[.slice K kn kc, .int .u64 s1, .int .u8 s2, .slice V vn vc] 37 := by rw [hX]; exact UY.out.put4 rfl _ _ _ _
  have qX : Cl X q #[.slice cA n (c - 1)] 56 := by rw [hX]; exact (((QY.out.off 0 _ HWQ.out.symm).off 1 _ HWQ.out.symm).off 2 _ HWQ.out.symm).off 3 _ HWQ.out.symm
  have gX : w.grownBy X (some q) := by rw [hX]; exact grow_new (grow_new (grow_new (grow_new GY.out _ 0 _ (Nat.le_refl _)) _ 1 _ (Nat.le_refl _)) _ 2 _ (Nat.le_refl _)) _ 3 _ (Nat.le_refl _)
  obtain ⟨z0, z1, z2, z3, _⟩ := zX.c4
  exact bodyPost_ret (v := .tuple #[.agg #[.slice K kn kc, .int .u64 s1, .int .u8 s2, .slice V vn vc], .bool true]) (by simp [results, Try.results23, go_sem, z0, z1, z2, z3]; try rfl) rfl ⟨rfl, qX, gX⟩
end Go.Proofs.Ytcclhkoggijkaaa
namespace Go.Proofs.Ytcclhkoggijkaaa
open Go Go.RowKit

/-- A place among entries. -/
def plM (key : List UInt8) (at_ : Nat) : En := ⟨key, at_, 0, []⟩
/-- Doesn't the i-th entry stand ahead of the place? -/
def nlM (es : List En) (pl : En) (i : Nat) : Bool := match es[i]? with
  | some x => !lessE x pl
  | none => true
theorem zero_evM (w : World) (key : List UInt8) (at_ : Nat) {K : Option Addr} {kn kc : Nat} (h : Rd w K kn key) (hc : kn ≤ kc) (hnil : K = none → kc = 0) (ha : U64 at_) : EV w (plM key at_) (.slice K kn kc) (.int .u64 (at_ : Int)) (.int .u8 0) (.slice none 0 0) :=
  ⟨rfl, rfl, ha, by unfold plM; simp, ⟨K, kn, kc, rfl, h, hc, hnil⟩, ⟨none, 0, 0, rfl, Rd.nil _ _, Nat.le_refl _, fun _ => rfl⟩⟩

set_option maxRecDepth 100000 in
set_option maxHeartbeats 4000000 in
theorem mgSeekC_any {w : World} {L : Option Addr} {n d : Nat} {es : List En} {bx q pb : Nat} {pl : En} {v0 v1 v2 v3 : Value} (h : REs w L n es) (hl : Cl w bx #[.pointer (some ⟨q, 0, none⟩)] 61) (hq : Cl w q #[.slice L n d] 56) (hp : Cl w pb #[v0, v1, v2, v3] 37) (hv : EV w pl v0 v1 v2 v3) (i : Nat) (hi : i < n) :
    Calls Try.prog 79 #[.int .i64 (i : Int), .pointer (some ⟨bx, 0, none⟩), .pointer (some ⟨pb, 0, none⟩)] w (RetT w (nlM es pl i)) := by
  obtain ⟨b, off, rfl, hbl⟩ := h.pos (by omega)
  obtain ⟨x, u0, u1, u2, u3, hx, c0, c1, c2, c3, hev⟩ := h.at_ i hi
  have hn : nlM es pl i = !lessE x pl := by unfold nlM; rw [hx]
  have l0 := hl.c1.1
  have m0 := hq.c1.1
  obtain ⟨p0, p1, p2, p3, _⟩ := hp.c4
  have hpl := hp.lt
  have hll := hl.lt
  have hql := hq.lt
  have HL : Hid (∀ wx, Below w.heap.size w wx → Calls Try.prog 80 #[.agg #[u0, u1, u2, u3], .agg #[v0, v1, v2, v3]] wx (RetT wx (lessE x pl))) := Lib.hid (fun wx hb => memLess_any (hev.below hb) (hv.below hb))
  have HSX : Hid (∀ wx, Below w.heap.size w wx → wx.cell? ⟨bx, 0, none⟩ = some (.pointer (some ⟨q, 0, none⟩)) ∧ wx.cell? ⟨q, 0, none⟩ = some (.slice (some ⟨b, off, none⟩) n d) ∧ wx.cell? ⟨b, off + i * 4, none⟩ = some u0 ∧ wx.cell? ⟨b, off + i * 4 + 1, none⟩ = some u1 ∧ wx.cell? ⟨b, off + i * 4 + 2, none⟩ = some u2 ∧ wx.cell? ⟨b, off + i * 4 + 3, none⟩ = some u3 ∧ wx.cell? ⟨pb, 0, none⟩ = some v0 ∧ wx.cell? ⟨pb, 1, none⟩ = some v1 ∧ wx.cell? ⟨pb, 2, none⟩ = some v2 ∧ wx.cell? ⟨pb, 3, none⟩ = some v3) := Lib.hid (fun wx h =>
    ⟨(h.cell (p := ⟨bx, 0, none⟩) hll).trans l0, (h.cell (p := ⟨q, 0, none⟩) hql).trans m0, (h.cell (p := ⟨b, off + i * 4, none⟩) hbl).trans c0, (h.cell (p := ⟨b, off + i * 4 + 1, none⟩) hbl).trans c1, (h.cell (p := ⟨b, off + i * 4 + 2, none⟩) hbl).trans c2, (h.cell (p := ⟨b, off + i * 4 + 3, none⟩) hbl).trans c3,
      (h.cell (p := ⟨pb, 0, none⟩) hpl).trans p0, (h.cell (p := ⟨pb, 1, none⟩) hpl).trans p1, (h.cell (p := ⟨pb, 2, none⟩) hpl).trans p2, (h.cell (p := ⟨pb, 3, none⟩) hpl).trans p3⟩)
  have hB0 : Below w.heap.size w w.drew := (Below.refl _ _).drew
  obtain ⟨z, hz⟩ : ∃ z, z = lessE x pl := ⟨_, rfl⟩
  rw [← hz] at HL hn
  have HN := Lib.hid hn
  clear h hl hp hq hv hx hev hz hn hpl hll hql
  go_enter Try.func79, Try.ntmps79
  go_wp2_with fail
  go_region_held3 (fun wx => wx.cell? ⟨bx, 0, none⟩ = some (.pointer (some ⟨q, 0, none⟩)) ∧ wx.cell? ⟨q, 0, none⟩ = some (.slice (some ⟨b, off, none⟩) n d) ∧ wx.cell? ⟨b, off + i * 4, none⟩ = some u0 ∧ wx.cell? ⟨b, off + i * 4 + 1, none⟩ = some u1 ∧ wx.cell? ⟨b, off + i * 4 + 2, none⟩ = some u2 ∧ wx.cell? ⟨b, off + i * 4 + 3, none⟩ = some u3 ∧ wx.cell? ⟨pb, 0, none⟩ = some v0 ∧ wx.cell? ⟨pb, 1, none⟩ = some v1 ∧ wx.cell? ⟨pb, 2, none⟩ = some v2 ∧ wx.cell? ⟨pb, 3, none⟩ = some v3) (first | assumption | exact HSX.out _ hB0)
    (first | (go_at_call 80; with_reducible refine (HL.out _ (by assumption)).mono ?_; intro e1 wn hq; obtain ⟨h1, bn⟩ := RetT.outD hq; subst h1; have bn' := belowT' (by assumption : Below w.heap.size w _) bn; have hS1 := HSX.out _ bn'))
  all_goals
    have HBN := Lib.hid (by assumption : Below w.heap.size w wn)
    go_wp2_with fail
    go_ret
    exact ⟨by rw [HN.out]; rfl, HBN.out⟩
/-- What Seek comes to. -/
def RetSt (w : World) (q : Nat) (A : Option Addr) (n c : Nat) (es : List En) (pl : En) (e : Ending) (w' : World) : Prop :=
  e = .returned (.tuple #[]) ∧ ∃ r : Nat, r ≤ n ∧ (∀ t, t < r → nlM es pl t = false) ∧ (∀ t, r ≤ t → t < n → nlM es pl t = true) ∧ Cl w' q #[.slice (cutA4 A r c) (n - r) (c - r)] 56 ∧ w.grownBy w' (some q)
theorem RetSe.out {w w' : World} {n : Nat} {p : Nat → Bool} {e : Ending} (h : RetSe w n p e w') : ∃ r : Nat, e = .returned (.int .i64 (r : Int)) ∧ r ≤ n ∧ (∀ t, t < r → p t = false) ∧ (∀ t, r ≤ t → t < n → p t = true) ∧ Below w.heap.size w w' := h
end Go.Proofs.Ytcclhkoggijkaaa
namespace Go.Proofs.Ytcclhkoggijkaaa
open Go Go.RowKit

section
variable {G : Nat → Prop} {w w' : World}
theorem frb_trans {w2 : World} (h : FrB G w w') (k : FrB G w' w2) : FrB G w w2 := fun b us ty hc hk => k b us ty (h b us ty hc hk) hk
theorem frb_refl : FrB G w w := fun _ _ _ hc _ => hc
theorem frb_bytes {base n c : Nat} {A : Option Addr} {xs : List UInt8} (ho : Own 5 w base A n c xs) (hG : ∀ b, blk A = some b → ¬ G b) (hg : w.grownBy w' (blk A)) : FrB G w w' := fun b us ty hc hk => by
  refine hc.grown hg (fun e => ?_)
  rcases hk with ⟨_, h⟩ | ⟨h, _⟩
  · exact hG b e h
  · exact cl_row hc ho h e
theorem OwnE.frb {base n c : Nat} {A : Option Addr} {vs : List Value} (h : OwnE w base A n c vs) (hf : FrB G w w') : OwnE w' base A n c vs := by
  refine ⟨h.1, ?_⟩
  rcases h.2 with h1 | ⟨g, cap, cur, h1, h2, h3, h4⟩
  · exact .inl h1
  · exact .inr ⟨g, cap, cur, h1, h2, hf g cur _ h3 (.inr okB_ent), h4⟩
theorem Fam.frb {base : Nat} {ps : List VB} (h : Fam w base ps) (hf : FrB G w w') (hG : ∀ b, base ≤ b → G b) : Fam w' base ps :=
  ⟨fun p hp => by
    obtain ⟨A, m, c, e, ho⟩ := h.1 p hp
    exact ⟨A, m, c, e, own_good ho hf (fun k hk => hG k (ho.lt k hk).1)⟩, h.2⟩
end
theorem EF.drop {es : List En} {us : List Value} (h : EF es us) (i : Nat) : EF (es.drop i) (us.drop (i * 4)) := fun j x hx => by
  rw [List.getElem?_drop] at hx
  obtain ⟨h1, h2⟩ := h (i + j) x hx
  rw [List.getElem?_drop, List.getElem?_drop]
  exact ⟨by rw [← h1]; congr 1; omega, by rw [← h2]; congr 1; omega⟩
theorem pairE_dropL : ∀ (i : Nat) (es : List En) {vs : List Value}, vs.length = es.length * 4 → pairE (es.drop i) (vs.drop (i * 4)) = (pairE es vs).drop (2 * i)
  | 0, es, vs, _ => by simp
  | i + 1, [], vs, hl => by
    have : vs = [] := List.eq_nil_of_length_eq_zero (by simpa using hl)
    subst this
    simp [pairE]
  | i + 1, e :: es, vs, hl => by
    obtain ⟨v0, v1, v2, v3, r, rfl, hr⟩ := four_of (k := es.length) (by simpa using hl)
    have ih := pairE_dropL i es (vs := r) hr
    have e4 : (i + 1) * 4 = i * 4 + 1 + 1 + 1 + 1 := by omega
    have e2 : 2 * (i + 1) = 2 * i + 1 + 1 := by omega
    simp only [pairE]
    rw [e4, e2]
    simp only [List.drop_succ_cons]
    exact ih
theorem EVs.of_fam {w : World} {base : Nat} : ∀ {es : List En} {vs : List Value}, vs.length = es.length * 4 → EF es vs → Fam w base (pairE es vs) → (∀ x ∈ es, U64 x.seq ∧ x.kind < 256) → EVs w es vs
  | [], vs, hl, _, _, _ => List.eq_nil_of_length_eq_zero (by simpa using hl)
  | e :: es, vs, hl, hE, hf, hw => by
    obtain ⟨v0, v1, v2, v3, r, rfl, hr⟩ := four_of (k := es.length) (by simpa using hl)
    simp only [pairE] at hf
    obtain ⟨K, kn, kc, e0, o0⟩ := hf.1 (v0, e.key) (by simp)
    obtain ⟨V, vn, vc, e3, o3⟩ := hf.1 (v3, e.val) (by simp)
    obtain ⟨q1, q2⟩ := hE 0 e rfl
    simp only [Nat.zero_mul, Nat.zero_add, List.getElem?_cons_succ, List.getElem?_cons_zero, Option.some.injEq] at q1 q2
    have hw0 := hw e (by simp)
    have k1 := o0.cap
    have k3 := o3.cap
    refine ⟨v0, v1, v2, v3, r, rfl, ⟨q1, q2, hw0.1, hw0.2, ⟨K, kn, kc, e0, o0.rd, k1.1, fun h => ?_⟩, ⟨V, vn, vc, e3, o3.rd, k3.1, fun h => ?_⟩⟩, EVs.of_fam hr (fun i x hx => ?_) ⟨fun p hp => hf.1 p (by simp [hp]), (List.pairwise_cons.1 (List.pairwise_cons.1 hf.2).2).2⟩ (fun x hx => hw x (by simp [hx]))⟩
    · have := o0.nil_of (by rw [h]; rfl); exact this.2.2
    · have := o3.nil_of (by rw [h]; rfl); exact this.2.2
    · obtain ⟨p1, p2⟩ := hE (i + 1) x (by simpa using hx)
      have e4 : (i + 1) * 4 = i * 4 + 4 := by omega
      rw [e4] at p1 p2
      exact ⟨by simpa using p1, by simpa using p2⟩
/-- What is left of a list whose first entries may be written over. -/
theorem rest_res {w : World} {base N d i : Nat} {L A' : Option Addr} {EE : List En} {VV : List Value} (h1 : OwnE w base L N d VV) (hf : Fam w base ((pairE EE VV).drop (2 * i))) (hE : EF EE VV) (hw : ∀ x ∈ EE, U64 x.seq ∧ x.kind < 256) (hl : EE.length = N) (hi : i ≤ N) (hA : i < N → ∃ g, L = some ⟨g, 0, none⟩ ∧ A' = some ⟨g, i * 4, none⟩) : REs w A' (N - i) (EE.drop i) := by
  have hd := h1.rd
  have hvl : VV.length = EE.length * 4 := by rw [hd.1, hl]
  rw [← pairE_dropL i EE hvl] at hf
  refine REs.mk (EVs.of_fam (by rw [List.length_drop, List.length_drop, hvl]; omega) (hE.drop i) hf (fun x hx => hw x (List.mem_of_mem_drop hx))) ⟨by rw [List.length_drop, hd.1]; omega, fun hn => ?_⟩ (by rw [List.length_drop, hl])
  obtain ⟨g, e1, e2⟩ := hA (by omega)
  obtain ⟨b, off, e3, hb, hc⟩ := hd.2 (by omega)
  rw [e1] at e3
  injection e3 with e3
  injection e3 with e3 e4
  subst e3 e4
  refine ⟨g, i * 4, e2, hb, fun j x hj => ?_⟩
  rw [List.getElem?_drop] at hj
  have := hc _ x hj
  rw [Nat.zero_add] at this
  exact this
theorem blk_cutA4 (A : Option Addr) (k c : Nat) : blk (cutA4 A k c) = blk A := by
  unfold cutA4
  split
  · rfl
  · cases A with
    | none => rfl
    | some a =>
      simp only [Option.map_some]
      show some (a.add (k * 4)).block = some a.block
      unfold Addr.add
      split <;> rfl
theorem RG.tail {G : Nat → Prop} {w : World} {A : Option Addr} {n c : Nat} {x : En} {es : List En} (h : RG G w A (n + 1) (x :: es)) (hc : n + 1 ≤ c) : RG G w (cutA4 A 1 c) n es := by
  obtain ⟨hl, vs, hv, hd, hg, hr⟩ := h
  have h1 := hv.drop 1
  have h2 := rdv_cut4 (k := 1) (m := n + 1) (cap := c) hd (by omega) (Nat.le_refl _) hc
  rw [List.take_of_length_le (by rw [hd.1]; omega), Nat.add_sub_cancel] at h2
  exact ⟨by simpa using hl, _, by simpa using h1, by simpa using h2, fun A m c' g hm => hg A m c' g (List.mem_of_mem_drop hm), fun hn g hb => hr (by omega) g (by rw [blk_cutA4] at hb; exact hb)⟩
theorem cutA4_at {A : Option Addr} {g i k c n : Nat} (hA : 0 < n → A = some ⟨g, i * 4, none⟩) (hk : k < n) (hc : n ≤ c) : cutA4 A k c = some ⟨g, (i + k) * 4, none⟩ := by
  rw [hA (by omega)]
  unfold cutA4
  rw [if_neg (by omega)]
  simp only [Option.map_some]
  unfold Addr.add
  split
  · next h0 => rw [show (i + k) * 4 = i * 4 by omega]
  · rw [show (i + k) * 4 = i * 4 + k * 4 by omega]
end Go.Proofs.Ytcclhkoggijkaaa
namespace Go.Proofs.Ytcclhkoggijkaaa
open Go Go.RowKit

set_option maxRecDepth 100000 in
set_option maxHeartbeats 64000000 in
theorem mgSeek_any {w : World} {q n c : Nat} {A K0 : Option Addr} {k0 kc0 : Nat} {es : List En} {key : List UInt8} (hq : Cl w q #[.slice A n c] 56) (h : REs w A n es) (hn : n ≤ 1099511627776) (hso : SortL es) (hk : Rd w K0 k0 key) (hkc : k0 ≤ kc0) (hkn : K0 = none → kc0 = 0) :
    Calls Try.prog 24 #[.pointer (some ⟨q, 0, none⟩), .slice K0 k0 kc0] w (RetSt w q A n c es (plM key 18446744073709551615)) := by
  obtain ⟨U, hU⟩ : ∃ U, U = w.alloc (.cells #[.pointer (some ⟨q, 0, none⟩)] 61) := ⟨_, rfl⟩
  have bU : Below w.heap.size w U := by rw [hU]; exact (Below.refl _ _).alloc (Nat.le_refl _) _
  have zU : Cl U w.heap.size #[.pointer (some ⟨q, 0, none⟩)] 61 := by rw [hU]; exact Cl.new _ _ _
  obtain ⟨W, hW⟩ : ∃ W, W = U.alloc (.cells #[.slice K0 k0 kc0, .int .u64 18446744073709551615, .int .u8 0, .slice none 0 0] 37) := ⟨_, rfl⟩
  obtain ⟨g4, hg4⟩ : ∃ g4, g4 = U.heap.size := ⟨_, rfl⟩
  have bW : Below U.heap.size U W := by rw [hW]; exact (Below.refl _ _).alloc (Nat.le_refl _) _
  have zW : Cl W g4 #[.slice K0 k0 kc0, .int .u64 18446744073709551615, .int .u8 0, .slice none 0 0] 37 := by rw [hW, hg4]; exact Cl.new _ _ _
  have bw : Below w.heap.size w W := belowT bU bW
  have hev := zero_evM W key 18446744073709551615 (hk.below bw) hkc hkn (by unfold U64; omega)
  obtain ⟨pl, hpl⟩ : ∃ pl, pl = plM key 18446744073709551615 := ⟨_, rfl⟩
  rw [← hpl] at hev ⊢
  have uW := zU.below bW
  have qW := hq.below bw
  have rW := h.below bw
  have HSE : Hid (∀ wx, Below W.heap.size W wx → Calls Try.prog 78 #[.int .i64 (n : Int), .func (.func 79) #[] #[.pointer (some ⟨w.heap.size, 0, none⟩), .pointer (some ⟨g4, 0, none⟩)]] wx (RetSe wx n (nlM es pl))) := Lib.hid (fun wy hby => search_any 79 #[.pointer (some ⟨w.heap.size, 0, none⟩), .pointer (some ⟨g4, 0, none⟩)] n (nlM es pl) wy (fun args w => by first | rfl | kernel_rfl | simp [callFunc]) (by omega) (fun wx hb i hi => by
      have hb2 := belowT hby hb
      exact mgSeekC_any (rW.below hb2) (uW.below hb2) (qW.below hb2) (zW.below hb2) (hev.below hb2) i hi) (fun a b hab hb hpa => by
      by_cases e : a = b
      · subst e; exact hpa
      · unfold nlM at hpa ⊢
        have hl0 := h.len
        obtain ⟨xa, hxa⟩ : ∃ x, es[a]? = some x := ⟨_, List.getElem?_eq_getElem (by omega)⟩
        obtain ⟨xb, hxb⟩ : ∃ x, es[b]? = some x := ⟨_, List.getElem?_eq_getElem (by omega)⟩
        rw [hxa] at hpa
        rw [hxb]
        simp only [Bool.not_eq_true'] at hpa ⊢
        have hl : lessE xa xb = true := by
          have hs := List.pairwise_iff_getElem.1 hso a b (by omega) (by omega) (by omega)
          have e1 := (List.getElem?_eq_some_iff.1 hxa).2
          have e2 := (List.getElem?_eq_some_iff.1 hxb).2
          rw [e1, e2] at hs
          exact hs
        cases hq : lessE xb pl with
        | false => rfl
        | true =>
          have := lessE_trans hl hq
          rw [hpa] at this
          cases this))
  have HCL : Hid (∀ wx, Below W.heap.size W wx → wx.cell? ⟨w.heap.size, 0, none⟩ = some (.pointer (some ⟨q, 0, none⟩)) ∧ wx.cell? ⟨q, 0, none⟩ = some (.slice A n c) ∧ wx.frozen? ⟨q, 0, none⟩ = false) := Lib.hid (fun wx hb => ⟨(uW.below hb).c1.1, (qW.below hb).c1.1, (qW.below hb).c1.2⟩)
  have HCU : Hid (∀ r, r ≤ n → ∀ w, (Instr.slice 22 (.slice A n c) (some (.int .i64 (r : Int))) none none).run Try.prog w = .ok (.slice (cutA4 A r c) (n - r) (c - r)) w) := Lib.hid (fun r hr w => cut4_l (P := Try.prog) Try.underlying22 elem4 size4 A hr w)
  have HQW := Lib.hid qW
  have HQB : Hid (q ≠ w.heap.size) := Lib.hid (by have := hq.lt; omega)
  have HBW := Lib.hid bw
  have HU := Lib.hid hU
  have HW := Lib.hid hW
  have HG4 := Lib.hid hg4
  have hB0 : Below W.heap.size W W.drew := (Below.refl _ _).drew
  obtain ⟨l0, l1, l2⟩ := HCL.out _ hB0
  clear hq h hso hk hkn hU hW hg4 bU zU bW zW bw hev hpl uW qW rW
  go_enter Try.func24, Try.ntmps24
  go_upto_region 1 with (fail)
  rw [← HU.out]
  go_upto_region 2 with (fail)
  rw [← HW.out, ← HG4.out]
  refine AnyS.begin (S := fun wx => wx.cell? ⟨w.heap.size, 0, none⟩ = some (.pointer (some ⟨q, 0, none⟩)) ∧ wx.cell? ⟨q, 0, none⟩ = some (.slice A n c) ∧ wx.frozen? ⟨q, 0, none⟩ = false) 15 (by kernel_rfl) ⟨l0, l1, l2⟩ (fun hHeld => ?_)
  refine AnyS.take (i := 0) (oi := _) (d := some 7) (v := ?_) rfl rfl (by kernel_rfl) (fun _ _ _ h => h) (Or.inl ⟨by rfl, ?_⟩) (by assumption) ?_
  rotate_left 1
  · intro w hSw; obtain ⟨g0, g1, g2⟩ := hSw; go_simp <;> with_reducible rfl
  try simp only [Act.put, List.setIfInBounds_toArray, List.set_cons_zero, List.set_cons_succ]
  refine AnyS.take (i := 1) (oi := _) (d := some 8) (v := ?_) rfl rfl (by kernel_rfl) (fun _ _ _ h => h) (Or.inl ⟨by rfl, ?_⟩) (by assumption) ?_
  rotate_left 1
  · intro w hSw; obtain ⟨g0, g1, g2⟩ := hSw; go_simp <;> with_reducible rfl
  try simp only [Act.put, List.setIfInBounds_toArray, List.set_cons_zero, List.set_cons_succ]
  refine AnyS.take (i := 2) (oi := _) (d := some 9) (v := ?_) rfl rfl (by kernel_rfl) (fun _ _ _ h => h) (Or.inl ⟨by rfl, ?_⟩) (by assumption) ?_
  rotate_left 1
  · intro w hSw; obtain ⟨g0, g1, g2⟩ := hSw; go_simp <;> with_reducible rfl
  try simp only [Act.put, List.setIfInBounds_toArray, List.set_cons_zero, List.set_cons_succ]
  refine AnyS.take (i := 3) (oi := _) (d := some 10) (v := ?_) rfl rfl (by kernel_rfl) (fun _ _ _ h => h) (Or.inl ⟨by rfl, ?_⟩) (by assumption) ?_
  rotate_left 1
  · intro w hSw; obtain ⟨g0, g1, g2⟩ := hSw; go_simp <;> with_reducible rfl
  try simp only [Act.put, List.setIfInBounds_toArray, List.set_cons_zero, List.set_cons_succ]
  refine AnyS.take (i := 4) (oi := _) (d := some 11) (v := ?_) rfl rfl (by kernel_rfl) (fun _ _ _ h => h) (Or.inl ⟨by rfl, ?_⟩) (by assumption) ?_
  rotate_left 1
  · intro w hSw; obtain ⟨g0, g1, g2⟩ := hSw; go_simp <;> with_reducible rfl
  try simp only [Act.put, List.setIfInBounds_toArray, List.set_cons_zero, List.set_cons_succ]
  refine AnyS.take (i := 5) (oi := _) (d := some 12) (v := ?_) rfl rfl (by kernel_rfl) (fun _ _ _ h => h) (Or.inl ⟨by rfl, ?_⟩) (by assumption) ?_
  rotate_left 1
  · intro w hSw; obtain ⟨g0, g1, g2⟩ := hSw; go_simp <;> with_reducible rfl
  try simp only [Act.put, List.setIfInBounds_toArray, List.set_cons_zero, List.set_cons_succ]
  refine AnyS.take (i := 6) (oi := _) (d := some 13) (v := ?_) rfl rfl (by kernel_rfl) (fun _ _ _ h => h) (Or.inl ⟨by rfl, ?_⟩) (by assumption) ?_
  rotate_left 1
  · intro w hSw; obtain ⟨g0, g1, g2⟩ := hSw; go_simp <;> with_reducible rfl
  try simp only [Act.put, List.setIfInBounds_toArray, List.set_cons_zero, List.set_cons_succ]
  refine AnyS.take (i := 7) (oi := _) (d := some 14) (v := ?_) rfl rfl (by kernel_rfl) (fun _ _ _ h => h) (Or.inl ⟨by rfl, ?_⟩) (by assumption) ?_
  rotate_left 1
  · intro w hSw; obtain ⟨g0, g1, g2⟩ := hSw; go_simp <;> with_reducible rfl
  try simp only [Act.put, List.setIfInBounds_toArray, List.set_cons_zero, List.set_cons_succ]
  refine AnyS.take (i := 8) (oi := _) (d := some 15) (v := ?_) rfl rfl (by kernel_rfl) (fun _ _ _ h => h) (Or.inl ⟨by rfl, ?_⟩) (by assumption) ?_
  rotate_left 1
  · intro w hSw; obtain ⟨g0, g1, g2⟩ := hSw; go_simp <;> with_reducible rfl
  try simp only [Act.put, List.setIfInBounds_toArray, List.set_cons_zero, List.set_cons_succ]
  refine AnyS.take (i := 9) (oi := _) (d := some 16) (v := ?_) rfl rfl (by kernel_rfl) (fun _ _ _ h => h) (Or.inl ⟨by rfl, ?_⟩) (by assumption) ?_
  rotate_left 1
  · intro w hSw; obtain ⟨g0, g1, g2⟩ := hSw; go_simp <;> with_reducible rfl
  try simp only [Act.put, List.setIfInBounds_toArray, List.set_cons_zero, List.set_cons_succ]
  refine AnyS.take (i := 10) (oi := _) (d := some 17) (v := ?_) rfl rfl (by kernel_rfl) (fun _ _ _ h => h) (Or.inl ⟨by rfl, ?_⟩) (by assumption) ?_
  rotate_left 1
  · intro w hSw; obtain ⟨g0, g1, g2⟩ := hSw; go_simp <;> with_reducible rfl
  try simp only [Act.put, List.setIfInBounds_toArray, List.set_cons_zero, List.set_cons_succ]
  refine AnyS.one (i := 11) (o := _) rfl (by kernel_rfl) (by decide) (fun K hK => ?_)
  go_simp
  go_at_call 78
  with_reducible refine (HSE.out _ hB0).mono ?_
  intro e wk hq
  obtain ⟨r, h1, hr1, hr2, hr3, bk⟩ := RetSe.out hq
  subst h1
  have HR2 := Lib.hid hr2
  have HR3 := Lib.hid hr3
  have HBK := Lib.hid (belowT hB0 bk)
  clear hr2 hr3 bk hq
  obtain ⟨m0, m1, m2⟩ := HCL.out _ HBK.out
  have hct := HCU.out r hr1
  go_wp2_with fail
  refine hK.out _ _ ⟨m0, m1, m2⟩ (fun hHeld2 => ?_)
  clear hK K
  try simp only [Act.put, List.setIfInBounds_toArray, List.set_cons_zero, List.set_cons_succ]
  refine AnyS.take (i := 12) (oi := _) (d := some 19) (v := ?_) rfl rfl (by kernel_rfl) (fun _ _ _ h => h) (Or.inl ⟨by rfl, ?_⟩) (by assumption) ?_
  rotate_left 1
  · intro w hSw; obtain ⟨g0, g1, g2⟩ := hSw; go_simp <;> with_reducible rfl
  try simp only [Act.put, List.setIfInBounds_toArray, List.set_cons_zero, List.set_cons_succ]
  refine AnyS.take (i := 13) (oi := _) (d := some 20) (v := ?_) rfl rfl (by kernel_rfl) (fun _ _ _ h => h) (Or.inl ⟨by rfl, ?_⟩) (by assumption) ?_
  rotate_left 1
  · intro w hSw; obtain ⟨g0, g1, g2⟩ := hSw; go_simp <;> with_reducible rfl
  try simp only [Act.put, List.setIfInBounds_toArray, List.set_cons_zero, List.set_cons_succ]
  refine AnyS.take (i := 14) (oi := _) (d := some 21) (v := ?_) rfl rfl (by kernel_rfl) (fun _ _ _ h => h) (Or.inl ⟨by rfl, ?_⟩) (by assumption) ?_
  rotate_left 1
  · intro w hSw; obtain ⟨g0, g1, g2⟩ := hSw; go_simp <;> with_reducible rfl
  try simp only [Act.put, List.setIfInBounds_toArray, List.set_cons_zero, List.set_cons_succ]
  refine AnyS.last (o := _) rfl (by kernel_rfl) (by kernel_rfl) (fun K hK => ?_)
  go_simp
  refine hK.out _ _ ?_
  clear hK K
  try simp only [Act.put, List.setIfInBounds_toArray, List.set_cons_zero, List.set_cons_succ]
  all_goals
    have hY : Cl (wk.setCell ⟨q, 0, none⟩ (.slice (cutA4 A r c) (n - r) (c - r))) q #[.slice (cutA4 A r c) (n - r) (c - r)] 56 := (HQW.out.below HBK.out).set 0 _
    have gY : w.grownBy (wk.setCell ⟨q, 0, none⟩ (.slice (cutA4 A r c) (n - r) (c - r))) (some q) := grow_set (grow_of_below (belowT HBW.out HBK.out)) q 0 _ rfl
    have HY := Lib.hid hY
    have GY := Lib.hid gY
    clear hY gY
    go_end0
    exact ⟨rfl, r, hr1, HR2.out, HR3.out, HY.out, GY.out⟩
end Go.Proofs.Ytcclhkoggijkaaa
namespace Go.Proofs.Ytcclhkoggijkaaa
open Go Go.RowKit

/-- A Next or a Seek as plain data. -/
structure ActM where
  seek : Bool
  key : List UInt8
def totAm : List ActM → Nat
  | [] => 0
  | a :: t => a.key.length + 1 + totAm t
theorem totAm_mem : ∀ {al : List ActM} {a : ActM}, a ∈ al → a.key.length + 1 ≤ totAm al
  | _ :: t, e, h => by
    rcases List.mem_cons.1 h with rfl | h
    · simp only [totAm]; omega
    · have := totAm_mem h; simp only [totAm]; omega
theorem totAm_len : ∀ al : List ActM, al.length ≤ totAm al
  | [] => by simp [totAm]
  | a :: t => by have := totAm_len t; simp only [totAm, List.length_cons]; omega
/-- 'The slice of n acts at A reads as these.' -/
def RAm (w : World) (A : Option Addr) (n : Nat) (al : List ActM) : Prop :=
  al.length = n ∧ (0 < n → ∃ b off, A = some ⟨b, off, none⟩ ∧ b < w.heap.size ∧ ∀ (i : Nat) a, al[i]? = some a → ∃ v1, w.cell? ⟨b, off + i * 2, none⟩ = some (.bool a.seek) ∧ w.cell? ⟨b, off + i * 2 + 1, none⟩ = some v1 ∧ ElB w v1 a.key)
theorem RAm.pos {w : World} {A : Option Addr} {n : Nat} {al : List ActM} (h : RAm w A n al) (hn : 0 < n) : ∃ b off, A = some ⟨b, off, none⟩ ∧ b < w.heap.size := by
  obtain ⟨b, off, h1, h2, _⟩ := h.2 hn
  exact ⟨b, off, h1, h2⟩
theorem RAm.at_ {w : World} {b off n : Nat} {al : List ActM} (h : RAm w (some ⟨b, off, none⟩) n al) (k : Nat) (hk : k < n) : ∃ a v1, al[k]? = some a ∧ w.cell? ⟨b, off + k * 2, none⟩ = some (.bool a.seek) ∧ w.cell? ⟨b, off + k * 2 + 1, none⟩ = some v1 ∧ ElB w v1 a.key := by
  obtain ⟨b', off', h1, _, h3⟩ := h.2 (by omega)
  have hl : k < al.length := by have := h.1; omega
  injection h1 with h1
  injection h1 with h1 h2
  subst h1 h2
  obtain ⟨v1, h4⟩ := h3 k _ (List.getElem?_eq_getElem hl)
  exact ⟨_, v1, List.getElem?_eq_getElem hl, h4⟩
end Go.Proofs.Ytcclhkoggijkaaa
namespace Go.Proofs.Ytcclhkoggijkaaa
open Go Go.RowKit

theorem pairE_at (es : List En) {vs : List Value} (i : Nat) (hl : vs.length = es.length * 4) (hi : i < es.length) : ∃ x v0 v1 v2 v3, es[i]? = some x ∧ vs[i * 4]? = some v0 ∧ vs[i * 4 + 1]? = some v1 ∧ vs[i * 4 + 2]? = some v2 ∧ vs[i * 4 + 3]? = some v3 ∧ (pairE es vs).drop (2 * i) = (v0, x.key) :: (v3, x.val) :: (pairE es vs).drop (2 * (i + 1)) := by
  have h0 : i * 4 + 3 < vs.length := by omega
  refine ⟨es[i], vs[i * 4], vs[i * 4 + 1], vs[i * 4 + 2], vs[i * 4 + 3], List.getElem?_eq_getElem hi, List.getElem?_eq_getElem _, List.getElem?_eq_getElem _, List.getElem?_eq_getElem _, List.getElem?_eq_getElem _, ?_⟩
  rw [← pairE_dropL i es hl, ← pairE_dropL (i + 1) es hl]
  rw [List.drop_eq_getElem_cons hi, List.drop_eq_getElem_cons (show i * 4 < vs.length by omega), List.drop_eq_getElem_cons (show i * 4 + 1 < vs.length by omega), List.drop_eq_getElem_cons (show i * 4 + 1 + 1 < vs.length by omega), List.drop_eq_getElem_cons (show i * 4 + 1 + 1 + 1 < vs.length by omega)]
  rw [show (i + 1) * 4 = i * 4 + 1 + 1 + 1 + 1 by omega]
  rfl
theorem frb_below {G : Nat → Prop} {w w' : World} (h : Below w.heap.size w w') : FrB G w w' := fun _ _ _ hc _ => hc.below h
theorem fam_tail {w : World} {base : Nat} {p : VB} {ps : List VB} (h : Fam w base (p :: ps)) : Fam w base ps := ⟨fun q hq => h.1 q (by simp [hq]), (List.pairwise_cons.1 h.2).2⟩
theorem fam_head_off {w : World} {base : Nat} {p : VB} {ps : List VB} (h : Fam w base (p :: ps)) {b : Nat} (hb : Value.ownBlock p.1 = some b) : OffF ps b := fun q hq e => (List.pairwise_cons.1 h.2).1 q hq b hb e
/-- What stands while one list of twins is written over. -/
def StH (w4 w7 : World) (S2 lo mid : Nat) (L3 : Option Addr) (k3 d3 : Nat) (vs3 : List Value) (B : Option Addr) (m c : Nat) (us : List Value) (qs : List VB) (gs : List (List En)) (r : List Value) (wr : World) : Prop :=
  OwnV 22 wr w4.heap.size L3 k3 d3 vs3 ∧ OwnE wr lo B m c us ∧ Fam wr lo qs ∧ (∀ q ∈ qs, ∀ b, Value.ownBlock q.1 = some b → b < mid) ∧ LsT wr mid S2 gs r ∧ w4.heap.size ≤ lo ∧ Below w4.heap.size w4 wr ∧ FrB (fun b => S2 ≤ b) w7 wr
section
variable {w4 w7 wr w' : World} {S2 lo mid : Nat} {L3 : Option Addr} {k3 d3 : Nat} {vs3 : List Value} {B : Option Addr} {m c : Nat} {us : List Value} {qs : List VB} {gs : List (List En)} {r : List Value}
theorem StH.below (h : StH w4 w7 S2 lo mid L3 k3 d3 vs3 B m c us qs gs r wr) (hb : Below wr.heap.size wr w') : StH w4 w7 S2 lo mid L3 k3 d3 vs3 B m c us qs gs r w' := by
  obtain ⟨h1, h2, h3, h4, h5, h6, h7, h8⟩ := h
  exact ⟨h1.below hb, h2.below hb, h3.below hb, h4, h5.below hb, h6, h7.trans (hb.mono h7.size), frb_trans h8 (frb_below hb)⟩
theorem StH.own {K : Option Addr} {kn kc : Nat} {xs : List UInt8} (h : StH w4 w7 S2 lo mid L3 k3 d3 vs3 B m c us ((.slice K kn kc, xs) :: qs) gs r wr) : Own 5 wr lo K kn kc xs := mem_own2 h.2.2.1 (by simp)
theorem StH.step {K : Option Addr} {kn kc : Nat} {xs : List UInt8} (h : StH w4 w7 S2 lo mid L3 k3 d3 vs3 B m c us ((.slice K kn kc, xs) :: qs) gs r wr) (hg : wr.grownBy w' (blk K)) : StH w4 w7 S2 lo mid L3 k3 d3 vs3 B m c us qs gs r w' := by
  have ho := h.own
  obtain ⟨h1, h2, h3, h4, h5, h6, h7, h8⟩ := h
  have hlo : ∀ b, blk K = some b → lo ≤ b := fun b hb => (ho.lt b hb).1
  have hmid : ∀ b, blk K = some b → b < mid := fun b hb => h4 (.slice K kn kc, xs) (by simp) b (by rw [own_blk]; exact hb)
  have hle := h5.le
  exact ⟨h1.kept hg (fun b hb e => row_ne h1 ho (by decide) b hb e), ownE_kept h2 hg (fun b hb e => row_ne h2 ho (by decide) b hb e), (fam_tail h3).kept hg (fun b hb => fam_head_off h3 (by rw [own_blk]; exact hb)), fun q hq => h4 q (by simp [hq]), LsT.off hg hmid h5, h6, h7.grown hg h7.size (fun b hb => by have := hlo b hb; omega), frb_trans h8 (frb_bytes ho (fun b hb h => by have := hmid b hb; omega) hg)⟩
end
/-- What stands while a stream is asked: the stream at i, what is left of the plain list at l. -/
def StS (w4 : World) (S2 S3 q : Nat) (L : Option Addr) (N d : Nat) (VV : List Value) (EE : List En) (i : Nat) (A' : Option Addr) (c' : Nat) (qs : List VB) (l : Nat) (LA : Option Addr) (lc : Nat) (wr : World) : Prop :=
  Cl wr q #[.slice A' (N - i) c'] 56 ∧ N - i ≤ c' ∧ (i < N → ∃ g, L = some ⟨g, 0, none⟩ ∧ A' = some ⟨g, i * 4, none⟩) ∧ OwnE wr S2 L N d VV ∧ Fam wr S2 qs ∧ (∀ p ∈ qs, ∀ b, Value.ownBlock p.1 = some b → b < S3) ∧
  RG (fun b => b < w4.heap.size ∨ S3 ≤ b) wr LA (N - l) (EE.drop l) ∧ N - l ≤ lc ∧ Below w4.heap.size w4 wr ∧ (w4.heap.size ≤ S2 ∧ S2 ≤ q ∧ q < S3)
section
variable {w4 wr w' : World} {S2 S3 q : Nat} {L : Option Addr} {N d : Nat} {VV : List Value} {EE : List En} {i : Nat} {A' : Option Addr} {c' : Nat} {qs : List VB} {l : Nat} {LA : Option Addr} {lc : Nat}
theorem StS.below (h : StS w4 S2 S3 q L N d VV EE i A' c' qs l LA lc wr) (hb : Below wr.heap.size wr w') : StS w4 S2 S3 q L N d VV EE i A' c' qs l LA lc w' := by
  obtain ⟨h1, h2, h3, h4, h5, h6, h7, h8, h9, h10⟩ := h
  exact ⟨h1.below hb, h2, h3, h4.below hb, h5.below hb, h6, h7.below hb, h8, h9.trans (hb.mono h9.size), h10⟩
/-- The stream goes on. -/
theorem StS.turn {i' : Nat} {B' : Option Addr} {e' : Nat} (h : StS w4 S2 S3 q L N d VV EE i A' c' qs l LA lc wr) (hg : wr.grownBy w' (some q)) (hq : Cl w' q #[.slice B' (N - i') e'] 56) (hc : N - i' ≤ e') (hA : i' < N → ∃ g, L = some ⟨g, 0, none⟩ ∧ B' = some ⟨g, i' * 4, none⟩) : StS w4 S2 S3 q L N d VV EE i' B' e' qs l LA lc w' := by
  obtain ⟨h1, h2, h3, h4, h5, h6, h7, h8, h9, h10⟩ := h
  exact ⟨hq, hc, hA, ownE_kept h4 hg (fun b hb e => by injection e with e; subst e; exact cl_row h1 h4 (by decide) hb), h5.kept hg (fun b hb => by injection hb with hb; subst hb; exact h5.off_cl h1 (by decide)), h6, h7.good (FrG.of_grown hg (fun g e hh => by injection e with e; subst e; rcases hh with hh | hh <;> omega)), h8, h9.grown hg h9.size (fun b hb => by injection hb with hb; omega), h10⟩
theorem StS.own {K : Option Addr} {kn kc : Nat} {xs : List UInt8} (h : StS w4 S2 S3 q L N d VV EE i A' c' ((.slice K kn kc, xs) :: qs) l LA lc wr) : Own 5 wr S2 K kn kc xs := mem_own2 h.2.2.2.2.1 (by simp)
/-- An answer is written over. -/
theorem StS.over {K : Option Addr} {kn kc : Nat} {xs : List UInt8} (h : StS w4 S2 S3 q L N d VV EE i A' c' ((.slice K kn kc, xs) :: qs) l LA lc wr) (hg : wr.grownBy w' (blk K)) : StS w4 S2 S3 q L N d VV EE i A' c' qs l LA lc w' := by
  have ho := h.own
  obtain ⟨h1, h2, h3, h4, h5, h6, h7, h8, h9, h10⟩ := h
  have hlo : ∀ b, blk K = some b → S2 ≤ b := fun b hb => (ho.lt b hb).1
  have hmid : ∀ b, blk K = some b → b < S3 := fun b hb => h6 (.slice K kn kc, xs) (by simp) b (by rw [own_blk]; exact hb)
  exact ⟨h1.grown hg (cl_row h1 ho (by decide)), h2, h3, ownE_kept h4 hg (fun b hb e => row_ne h4 ho (by decide) b hb e), (fam_tail h5).kept hg (fun b hb => fam_head_off h5 (by rw [own_blk]; exact hb)), fun p hp => h6 p (by simp [hp]), h7.good (FrG.of_grown hg (fun g e hh => by have h11 := hlo g e; have h12 := hmid g e; rcases hh with hh | hh <;> omega)), h8, h9.grown hg h9.size (fun b hb => by have := hlo b hb; omega), h10⟩
theorem StS.drop (h : StS w4 S2 S3 q L N d VV EE i A' c' qs l LA lc wr) (k : Nat) : StS w4 S2 S3 q L N d VV EE i A' c' (qs.drop k) l LA lc wr := by
  obtain ⟨h1, h2, h3, h4, h5, h6, h7, h8, h9, h10⟩ := h
  refine ⟨h1, h2, h3, h4, ?_, fun p hp => h6 p (List.mem_of_mem_drop hp), h7, h8, h9, h10⟩
  rw [← List.take_append_drop k qs] at h5
  exact h5.right
/-- One entry of the plain list less. -/
theorem StS.cut (h : StS w4 S2 S3 q L N d VV EE i A' c' qs l LA lc wr) (hl : l < N) (hE : EE.length = N) : StS w4 S2 S3 q L N d VV EE i A' c' qs (l + 1) (cutA4 LA 1 lc) (lc - 1) wr := by
  obtain ⟨h1, h2, h3, h4, h5, h6, h7, h8, h9, h10⟩ := h
  refine ⟨h1, h2, h3, h4, h5, h6, ?_, by omega, h9, h10⟩
  have hlt : l < EE.length := by omega
  rw [List.drop_eq_getElem_cons hlt, show N - l = (N - (l + 1)) + 1 by omega] at h7
  exact h7.tail (by omega)
theorem StS.rest (h : StS w4 S2 S3 q L N d VV EE i A' c' ((pairE EE VV).drop (2 * i)) l LA lc wr) (hE : EF EE VV) (hw : ∀ x ∈ EE, U64 x.seq ∧ x.kind < 256) (hl : EE.length = N) (hi : i ≤ N) : REs wr A' (N - i) (EE.drop i) := by
  obtain ⟨h1, h2, h3, h4, h5, _⟩ := h
  exact rest_res h4 h5 hE hw hl hi h3
end
end Go.Proofs.Ytcclhkoggijkaaa
namespace Go.Proofs.Ytcclhkoggijkaaa
open Go Go.RowKit Go.Deep Go.ChangeShapes Go.WideShapes Go.ChangeAt

theorem bool_field {H : Type} {enc : TypeId × Value → H} {w : World} {base m : Nat} {held : Bool} {v : Value} {y : DataW H × List MemPlace} {t : TypeId} (ht : Try.prog.underlying t = some .bool) (h : DataW.trod enc Try.prog w base (fun _ => true) held m t [v] = some y) :
    ∃ z : Bool, v = .bool z := by
  obtain ⟨z, hcs, hy⟩ := DataW.trod_bool ht h
  simp at hcs
  exact ⟨z, hcs⟩
theorem totAm_bulk {H : Type} : ∀ (al : List ActM) (D : Nat → DataW H), (∀ i a, al[i]? = some a → a.key.length + 1 ≤ Rows.uptoBulk (D i)) → totAm al ≤ Rows.uptoBulkAll ((List.range al.length).map D)
  | [], D, _ => by simp [totAm]
  | a :: t, D, h => by
    have h1 := h 0 a rfl
    have h2 := totAm_bulk t (fun i => D (i + 1)) (fun i b hb => h (i + 1) b (by simpa using hb))
    rw [List.length_cons, List.range_succ_eq_map, List.map_cons, List.map_map, totAm, Rows.uptoBulkAll]
    have e : (List.range t.length).map (D ∘ Nat.succ) = (List.range t.length).map (fun i => D (i + 1)) := rfl
    rw [e]
    omega
set_option maxRecDepth 100000 in
theorem actsm_of {H : Type} {enc : TypeId × Value → H} {w : World} {base fuel : Nat} {held : Bool} {A : Option Addr} {len cap : Nat} {x : DataW H × List MemPlace} (h : DataW.trod enc Try.prog w base (fun _ => true) held fuel 54 [.slice A len cap] = some x) :
    ∃ al : List ActM, RAm w A len al ∧ len ≤ cap ∧ totAm al ≤ Rows.uptoBulk x.1 := by
  have hone : oneCellFields Try.prog (match Try.prog.underlying 67 with | some (.struct fs) => fs | _ => #[]) = true := by kernel_rfl
  rcases open_slice Try.underlying54 h with ⟨hcs, hx⟩ | ⟨a, l, c, m, n, D, Pl, hcs, _, hl, hm, hmm, hx, hi⟩
  · simp at hcs
    obtain ⟨rfl, rfl, rfl⟩ := hcs
    exact ⟨[], ⟨rfl, fun h => absurd h (by omega)⟩, Nat.le_refl _, by simp [totAm]⟩
  · simp at hcs
    obtain ⟨rfl, rfl, rfl⟩ := hcs
    simp at hmm
    subst hmm
    rw [Try.underlying67] at hone
    have key : ∀ i, i < len → ∃ ac : ActM, (∃ v1, w.cell? ((a.add (i * Try.prog.cellsOf 67)).add 0) = some (.bool ac.seek) ∧ w.cell? ((a.add (i * Try.prog.cellsOf 67)).add 1) = some v1 ∧ ElB w v1 ac.key) ∧ ac.key.length + 1 ≤ Rows.uptoBulk (D i) := by
      intro i hil
      obtain ⟨cs', hc', ht'⟩ := hi i (by omega)
      obtain ⟨ys, k, hD, hyl, hf⟩ := fields_at Try.underlying67 hone (by kernel_rfl) hc' ht'
      obtain ⟨v0, y0, m0, g0, t0⟩ := hf 0 _ rfl
      obtain ⟨v1, y1, m1, g1, t1⟩ := hf 1 _ rfl
      obtain ⟨z, rfl⟩ := bool_field Try.underlying4 t0
      obtain ⟨K, kn, kc, ks, rfl, r1, q1, p1, u1, _⟩ := bytes_field t1
      refine ⟨⟨z, ks⟩, ⟨_, m0, m1, ⟨K, kn, kc, rfl, r1, q1, p1⟩⟩, ?_⟩
      have hys : ys = [y0, y1] := by
        have h6 : ys.length = 2 := hyl
        match ys, h6, g0, g1 with
        | [q0, q1], _, g0, g1 =>
          simp only [List.getElem?_cons_zero, List.getElem?_cons_succ, Option.some.injEq] at g0 g1
          rw [g0, g1]
      rw [hD, hys]
      simp only [List.map_cons, List.map_nil, Rows.uptoBulk, Rows.uptoBulkAll]
      omega
    obtain ⟨al, hal, hall⟩ := list_of len key
    refine ⟨al, ⟨hal, fun hn => ?_⟩, hl, ?_⟩
    · obtain ⟨b, off, spot⟩ := a
      obtain ⟨ac, ⟨v1, m0, _⟩, _⟩ := key 0 hn
      have hspot : spot = none := by
        have := World.cell?_spot m0
        simpa [Addr.add] using this
      subst hspot
      have hc3 : Try.prog.cellsOf 67 = 2 := by kernel_rfl
      rw [addA, addA] at m0
      refine ⟨b, off, rfl, World.block_lt_of_cell? w _ m0, fun i a ha => ?_⟩
      obtain ⟨⟨v1, q0, q1, q2⟩, _⟩ := hall i a ha
      rw [addA, addA, hc3] at q0 q1
      exact ⟨v1, q0, q1, q2⟩
    · have hb := totAm_bulk al D (fun i ac hi' => (hall i ac hi').2)
      rw [hal] at hb
      rw [hx]
      simp only [Rows.uptoBulk]
      omega
end Go.Proofs.Ytcclhkoggijkaaa
namespace Go.Proofs.Ytcclhkoggijkaaa
open Go Go.RowKit

theorem nlM_lt {es : List En} {key : List UInt8} {t : Nat} {x : En} (h : es[t]? = some x) (hx : U64 x.seq) : (nlM es (plM key 18446744073709551615) t = false → cmpB x.key key < 0) ∧ (nlM es (plM key 18446744073709551615) t = true → ¬ cmpB x.key key < 0) := by
  have e : nlM es (plM key 18446744073709551615) t = !lessE x (plM key 18446744073709551615) := by unfold nlM; rw [h]
  rw [e]
  constructor
  · intro h1
    have h2 : lessE x (plM key 18446744073709551615) = true := by simpa using h1
    rcases lessE_iff.1 h2 with h3 | ⟨_, h3⟩
    · exact h3
    · unfold U64 at hx
      unfold plM at h3
      simp only at h3
      omega
  · intro h1 h3
    have h2 : lessE x (plM key 18446744073709551615) = true := lessE_iff.2 (.inl h3)
    rw [h2] at h1
    cases h1
theorem refM_sort {ls : List (List En)} (hs : AllS ls) : SortL (refM ls) := by
  unfold refM
  rw [foldl_ins sort_nil hs]
  exact foldl_sort sort_nil hs
theorem sortL_drop {es : List En} (h : SortL es) (i : Nat) : SortL (es.drop i) := by
  unfold SortL at h ⊢
  rw [← List.take_append_drop i es] at h
  exact (List.pairwise_append.1 h).2.1
set_option maxRecDepth 100000 in
set_option maxHeartbeats 32000000 in
theorem mergeStreams_row (A : Option Addr) (n c : Nat) (ls : List (List En)) (B : Option Addr) (m d : Nat) (al : List ActM) (w : World) (h : RLs w A n ls) (_hnc : n ≤ c) (ht : totLs ls ≤ 2097152) (hk : RAm w B m al) (_hmd : m ≤ d) (hta : totAm al ≤ 1048576) :
    Calls Try.prog 5 #[.slice A n c, .slice B m d] w (RetT w true) := by
  have hsz : ∀ l ∈ ls, ∀ x ∈ l, SzE x := fun l hl x hx => by
    have h1 := totLs_mem hl
    have h2 := totE_mem hx
    unfold wE at h2
    exact ⟨by omega, by omega⟩
  have hnn : n ≤ 1099511627776 := by have := totLs_len ls; have := h.1; omega
  obtain ⟨gs, hgs⟩ : ∃ gs, gs = cutL ls := ⟨_, rfl⟩
  obtain ⟨hg6, hgt⟩ := cutL_tot ls
  have hgz : ∀ l ∈ gs, ∀ x ∈ l, SzE x := fun l hl x hx => by
    rw [hgs] at hl
    obtain ⟨_, l2, h1, h2⟩ := cutL_mem hl
    exact hsz l2 h1 x (h2 x hx)
  have hgl : ∀ l ∈ gs, l.length ≤ 1099511627776 := fun l hl => by
    rw [hgs] at hl
    have := (cutL_mem hl).1
    omega
  have hmm : m ≤ 1048576 := by have := totAm_len al; have := hk.1; omega
  have hkz : ∀ a ∈ al, a.key.length ≤ 1048576 := fun a ha => by have := totAm_mem ha; omega
  have HSM : Hid (∀ wx, Below w.heap.size w wx → Calls Try.prog 25 #[.slice A n c] wx (RetLs wx gs)) := Lib.hid (fun wx hb => by rw [hgs]; exact some11_any (h.below hb) hnn)
  rw [← hgs] at hg6 hgt
  have HGZ := Lib.hid hgz
  have HGL := Lib.hid hgl
  have HKZ := Lib.hid hkz
  have HAM := Lib.hid hk
  clear h hsz hgs hgz hgl ht hnn hk hta hkz
  go_enter Try.func5, Try.ntmps5
  go_wp2_with fail
  refine (awake11_any _).mono ?_
  rintro e w1 ⟨rfl, b1⟩
  have B1 := Lib.hid b1
  have s1 := b1.size
  clear b1
  obtain ⟨U, hU⟩ : ∃ U, U = w1.alloc (.cells #[.slice none 0 0] 56) := ⟨_, rfl⟩
  obtain ⟨p5, hp5⟩ : ∃ p5, p5 = w1.heap.size := ⟨_, rfl⟩
  have bU : Below w1.heap.size w1 U := by rw [hU]; exact (Below.refl _ _).alloc (Nat.le_refl _) _
  have zU : Cl U p5 #[.slice none 0 0] 56 := by rw [hU, hp5]; exact Cl.new _ _ _
  have hp5w : w.heap.size ≤ p5 := by omega
  have BU := Lib.hid (B1.out.trans (bU.mono B1.out.size))
  have HN0 := Lib.hid (mgNext_nil zU)
  have ZU := Lib.hid zU
  have HU := Lib.hid hU
  have HP5 := Lib.hid hp5
  clear hU bU zU hp5
  go_upto_region 4 with (fail)
  rw [← HU.out, ← HP5.out]
  go_wp2_with fail
  with_reducible refine HN0.out.mono ?_
  rintro e w2 ⟨rfl, b2⟩
  have hw2 : U.heap.size ≤ w2.heap.size := b2.size
  have zU2 := ZU.out.below b2
  have by2 : Below w2.heap.size w2 ((w2.alloc (.cells #[.slice none 0 0, .int .u64 0, .int .u8 0, .slice none 0 0] 37)).alloc (.cells #[.int .u8 97] 5 (1, 2))) := ((Below.refl _ _).alloc (Nat.le_refl _) _).alloc (by simp) _
  have BY := Lib.hid (BU.out.trans ((b2.mono BU.out.size).trans (by2.mono (by have := BU.out.size; omega))))
  have hrd : Rd ((w2.alloc (.cells #[.slice none 0 0, .int .u64 0, .int .u8 0, .slice none 0 0] 37)).alloc (.cells #[.int .u8 97] 5 (1, 2))) (some ⟨w2.heap.size + 1, 0, none⟩) 1 [97] := by
    exact Rd.cst8 _ _ 1 [97] rfl _ rfl (1, 2) _ (by simp)
  have HS0 := Lib.hid (mgSeek_any (K0 := some ⟨w2.heap.size + 1, 0, none⟩) (k0 := 1) (kc0 := 1) (es := []) (key := [97]) (zU2.below by2) (REs.nil _ _) (by omega) List.Pairwise.nil hrd (Nat.le_refl _) (fun h => by cases h))
  clear b2 zU2 by2 hrd
  have kc := fun (w : World) (C : Array Value) (n c g : Nat) (hg : g = w.heap.size) => Joins.run_convert_bytes_const_at (P := Try.prog) w 25 5 C n c g hg Try.underlying25 Try.underlying5
  go_wp2_with fail
  clear kc
  with_reducible refine HS0.out.mono ?_
  rintro e w3 ⟨rfl, r0, _, _, _, _, g3⟩
  have B3 := Lib.hid (BY.out.grown g3 BY.out.size (fun b hb => by have h2 : p5 = b := Option.some.inj hb; omega))
  clear g3
  go_wp2_with fail
  with_reducible refine (HSM.out _ B3.out).mono ?_
  intro e w4 hq
  obtain ⟨L2, k2, d2, he, hr2, hkd2, b4⟩ := RetLs.out hq
  subst he
  have hk2 : k2 ≤ 6 := by have := hr2.1; omega
  have B4 := Lib.hid (B3.out.trans (b4.mono B3.out.size))
  have HR2 := Lib.hid hr2
  clear hq hr2 b4 B1 BU HN0 ZU HU HP5 BY HS0 B3 HSM
  go_wp2_with fail
  with_reducible refine (twins11T_any HR2.out (by omega) HGL.out HGZ.out).mono ?_
  intro e w5 hq
  obtain ⟨L3, k3, d3, vs3, he, o3, t3, hr3, b5⟩ := RetTw.out hq
  subst he
  obtain rfl : k3 = k2 := by have h1 := hr3.1; have h2 := HR2.out.1; omega
  have hkd3 := o3.cap.1
  have B5 := Lib.hid b5
  have O3 := Lib.hid o3
  have T3 := Lib.hid t3
  have HMG := Lib.hid (mgOpen_any hr3 hkd3 (by omega) (by omega) HGZ.out)
  clear hq hr3 b5 o3 t3
  go_wp2_with fail
  with_reducible refine HMG.out.mono ?_
  obtain ⟨z, hz⟩ : ∃ z, z = chkL gs := ⟨_, rfl⟩
  have HZ := Lib.hid hz
  rw [← hz]
  clear hz
  have HCK : Hid (∀ w6, Below w5.heap.size w5 w6 → Calls Try.prog 28 #[.slice L2 k3 d2] w6 (RetNu w6 z)) := Lib.hid (fun w6 hb => by
    rw [HZ.out]
    exact refCheck11_any (HR2.out.below (B5.out.trans (hb.mono B5.out.size))) (by omega) HGL.out HGZ.out)
  intro e w6 hq
  have hb6 : Below w5.heap.size w5 w6 := by
    rcases hq with ⟨_, _, hb⟩ | ⟨_, q, L4, n4, c4, _, _, _, hrow⟩
    · exact hb
    · exact hrow.bel
  have B6 := Lib.hid hb6
  have B46 := Lib.hid (B5.out.trans (hb6.mono B5.out.size))
  have HC6 := Lib.hid (HCK.out w6 hb6)
  clear hb6 HCK HMG
  rcases hq with ⟨hz0, he, _⟩ | ⟨hz0, q, L, N, dd, he, hcq, hqS, hrow⟩
  · subst he
    have t1 : (z != 0) = true := by simpa using hz0
    have t2 : (z != z) = false := by simp
    have t3 : (z == 0) = false := by rw [beq_eq_false_iff_ne]; exact hz0
    go_wp2_with fail
    with_reducible refine HC6.out.mono ?_
    rintro e w7 ⟨rfl, b7⟩
    have B7 := Lib.hid (B4.out.trans ((B46.out.trans (b7.mono B46.out.size)).mono B4.out.size))
    clear b7
    go_wp2_with fail
    go_ret
    exact ⟨rfl, B7.out⟩
  · subst he
    subst hz0
    have hjr : joinL k3 gs = refM gs := by
      have h1 := HR2.out.1
      rw [← h1]
      exact joinL_ref (allS_of HZ.out.symm)
    have hjl := joinL_len k3 gs
    have HJZ : Hid (∀ x ∈ refM gs, SzE x) := Lib.hid (fun x hx => by
      rw [← hjr] at hx
      obtain ⟨l, h1, h2⟩ := joinL_from k3 hx
      exact HGZ.out l h1 x h2)
    rw [hjr] at hrow hjl
    have HQ6 := Lib.hid hcq
    have HRW := Lib.hid hrow
    have HN := Lib.hid hrow.len
    have hN : N ≤ 180 := by have := hrow.len; omega
    have hqs6 : q < w6.heap.size := hcq.lt
    have HWF := Lib.hid hrow.rd.wf
    clear hrow hjr hcq hjl
    go_wp2_with fail
    with_reducible refine HC6.out.mono ?_
    rintro e w7 ⟨h7, b7⟩
    subst h7
    obtain ⟨VV, rO, rE, _, _, _, _, rF⟩ := HRW.out
    have O7 := Lib.hid (rO.below b7)
    have F7 := Lib.hid (rF.below b7)
    have HEF := Lib.hid rE.ef
    have HQ7 := Lib.hid (HQ6.out.below b7)
    have B7 := Lib.hid (B46.out.trans (b7.mono B46.out.size))
    have B57 := Lib.hid (B6.out.trans (b7.mono B6.out.size))
    have hfl : ∀ p ∈ pairE (refM gs) VV, ∀ b, Value.ownBlock p.1 = some b → b < w6.heap.size := fun p hp b hb => (rF.lt hp hb).2
    have HFL := Lib.hid hfl
    have s57 := B57.out.size
    have s67 : w6.heap.size ≤ w7.heap.size := b7.size
    have s56 := B6.out.size
    have s45 := B5.out.size
    have T7 := Lib.hid (T3.out.below B57.out)
    have O37 := Lib.hid (O3.out.below B57.out)
    obtain ⟨EE, hEE⟩ : ∃ EE, EE = refM gs := ⟨_, rfl⟩
    rw [← hEE] at HJZ HN HWF HFL HEF F7
    have HEE := Lib.hid hEE
    have HGSL := Lib.hid HR2.out.1
    clear b7 rO rE rF hfl hEE HQ6 HRW HC6 B6 B46 T3 O3
    go_wp2_with fail
    go_loopw [56] (fun s56 wr => ∃ i lo : Nat, i ≤ k3 ∧ s56 = .int .i64 (i : Int) ∧ OwnV 22 wr w4.heap.size L3 k3 d3 vs3 ∧ LsT wr lo w5.heap.size (gs.drop i) (vs3.drop i) ∧ w4.heap.size ≤ lo ∧ Below w4.heap.size w4 wr ∧ FrB (fun b => w5.heap.size ≤ b) w7 wr) (fun s _ => k3 - (intOf s).toNat)
    case atStart => exact ⟨0, w4.heap.size, Nat.zero_le _, rfl, O37.out, by simpa using T7.out, Nat.le_refl _, B7.out, frb_refl⟩
    case round =>
      obtain ⟨i, lo, hi, rfl, hO, hT, hlo, hB, hF⟩ := hrel
      have HO := Lib.hid hO
      have HT := Lib.hid hT
      have HB := Lib.hid hB
      have HF := Lib.hid hF
      clear hO hT hB hF
      by_cases hik : i < k3
      · obtain ⟨es, hes⟩ : ∃ es, gs[i]? = some es := ⟨_, List.getElem?_eq_getElem (by have := HGSL.out; omega)⟩
        have hgd : gs.drop i = es :: gs.drop (i + 1) := by
          have hlt := (List.getElem?_eq_some_iff.1 hes).1
          rw [List.drop_eq_getElem_cons hlt, (List.getElem?_eq_some_iff.1 hes).2]
        have hmem := List.mem_of_getElem? hes
        have hT := HT.out
        rw [hgd] at hT
        obtain ⟨B', m', c', r, us, mid, e1, h2, h3, h4, h5, h6, h7, h8⟩ := hT
        have hv3 : vs3[i]? = some (.slice B' m' c') := by
          have := congrArg (fun l => l[0]?) e1
          simpa using this
        have hr3 : vs3.drop (i + 1) = r := by
          have := congrArg List.tail e1
          simpa using this
        obtain ⟨b3, o3, hL3, hb3, hc3⟩ := HO.out.rd.2 (by omega)
        subst hL3
        have c0 := hc3 i _ hv3
        have hez := HGZ.out es hmem
        have hel : us.length = es.length * 4 := by have := h2.rd.1; rw [h4.1]; omega
        have hm30 : m' ≤ 1099511627776 := by have := HGL.out es hmem; rw [← h4.1]; exact this
        have HH : Hid (StH w4 w7 w5.heap.size lo mid (some ⟨b3, o3, none⟩) k3 d3 vs3 B' m' c' us ((pairE es us).drop (2 * 0)) (gs.drop (i + 1)) r wr) := Lib.hid ⟨HO.out, h2, by simpa using h3, by simpa using h7, h8, hlo, HB.out, HF.out⟩
        have HEL := Lib.hid hel
        have HESL := Lib.hid h4.1
        have HEFS := Lib.hid h4.2
        have HEZ := Lib.hid hez
        have HR3 := Lib.hid hr3
        have hlom : lo ≤ mid := h5
        clear hes hgd hmem e1 h2 h3 h4 h5 h6 h7 h8 hv3 hr3 hc3 hez hel hb3
        clear HT HO HB HF
        go_wp2_with fail
        clear c0
        go_loopw [62] (fun s62 wi => ∃ j : Nat, j ≤ m' ∧ s62 = .int .i64 (j : Int) ∧ StH w4 w7 w5.heap.size lo mid (some ⟨b3, o3, none⟩) k3 d3 vs3 B' m' c' us ((pairE es us).drop (2 * j)) (gs.drop (i + 1)) r wi) (fun s _ => m' - (intOf s).toNat)
        case atStart => exact ⟨0, Nat.zero_le _, rfl, HH.out⟩
        case round =>
          obtain ⟨j, hj, rfl, hH⟩ := hrel
          have HJ := Lib.hid hH
          clear hH HH
          by_cases hjm : j < m'
          · obtain ⟨x, v0, v1, v2, v3, hx, q0, q1, q2, q3, hpd⟩ := pairE_at es j HEL.out (by have := HESL.out; omega)
            have hH := HJ.out
            rw [hpd] at hH
            obtain ⟨K, kn, kc, ek, _⟩ := hH.2.2.1.1 (v0, x.key) (by simp)
            obtain ⟨V, vn, vc, ev, _⟩ := hH.2.2.1.1 (v3, x.val) (by simp)
            simp only at ek ev
            subst ek ev
            obtain ⟨f1, f2⟩ := HEFS.out j x hx
            rw [f1] at q1
            rw [f2] at q2
            injection q1 with q1
            injection q2 with q2
            subst q1 q2
            obtain ⟨b4, o4, hB4, hb4, hc4⟩ := hH.2.1.rd.2 (by omega)
            subst hB4
            have c0 := hc4 _ _ q0
            have c1 := hc4 _ _ f1
            have c2 := hc4 _ _ f2
            have c3 := hc4 _ _ q3
            rw [← Nat.add_assoc] at c1 c2 c3
            have hsx := HEZ.out x (List.mem_of_getElem? hx)
            have ok := hH.own
            have hkn : kn ≤ 1099511627776 := by have h1 := ok.len; have h2 := hsx.1; omega
            have ov : Own 5 wr lo V vn vc x.val := mem_own2 (fam_tail hH.2.2.1) (by simp)
            have hvn : vn ≤ 1099511627776 := by have h1 := ov.len; have h2 := hsx.2; omega
            obtain ⟨U, hU⟩ : ∃ U, U = wr.alloc (.cells #[.slice K kn kc, .int .u64 (x.seq : Int), .int .u8 (x.kind : Int), .slice V vn vc] 37) := ⟨_, rfl⟩
            obtain ⟨g15, hg15⟩ : ∃ g15, g15 = wr.heap.size := ⟨_, rfl⟩
            have bU : Below wr.heap.size wr U := by rw [hU]; exact (Below.refl _ _).alloc (Nat.le_refl _) _
            have zU : Cl U g15 #[.slice K kn kc, .int .u64 (x.seq : Int), .int .u8 (x.kind : Int), .slice V vn vc] 37 := by rw [hU, hg15]; exact Cl.new _ _ _
            have hHU := hH.below bU
            have HOV1 := Lib.hid (Over_own K kn kc lo x.key U hHU.own hkn)
            have HHU := Lib.hid hHU
            have ZU := Lib.hid zU
            have HU := Lib.hid hU
            have HG15 := Lib.hid hg15
            obtain ⟨x0, x1, x2, x3, _⟩ := zU.c4
            clear hx q0 f1 f2 q3 hpd hH hb4 hc4 hsx ok ov hU hg15 bU zU hHU
            go_upto_region 22 with (fail)
            rw [← HU.out, ← HG15.out]
            clear c0 c1 c2 c3
            go_wp2_with fail
            with_reducible refine HOV1.out.mono ?_
            rintro e w8 ⟨h8, g8⟩
            subst h8
            have HH8 := Lib.hid (HHU.out.step g8)
            have z8 := ZU.out.grown g8 (cl_row ZU.out HHU.out.own (by decide))
            have HOV2 := Lib.hid (Over_own V vn vc lo x.val w8 HH8.out.own hvn)
            clear g8 x0 x1 x2 x3 HOV1
            obtain ⟨x0, x1, x2, x3, _⟩ := z8.c4
            clear z8
            go_wp2_with fail
            with_reducible refine HOV2.out.mono ?_
            rintro e w9 ⟨h9, g9⟩
            subst h9
            have HH9 := Lib.hid (HH8.out.step g9)
            clear g9 x0 x1 x2 x3 HOV2
            go_wp2_with fail
            go_roundw
            case rel => exact ⟨j + 1, by omega, by go_num, HH9.out⟩
            case measure => simp [intOf]; omega
          · obtain rfl : j = m' := by omega
            obtain ⟨h1, h2, h3, h4, h5, h6, h7, h8⟩ := HJ.out
            have HQ := Lib.hid (And.intro h1 (And.intro h5 (And.intro h7 h8)))
            clear h1 h2 h3 h4 h5 h6 h7 h8
            go_wp2_with fail
            go_roundw
            case rel => exact ⟨i + 1, mid, by omega, by go_num, HQ.out.1, by rw [HR3.out]; exact HQ.out.2.1, by omega, HQ.out.2.2.1, HQ.out.2.2.2⟩
            case measure => simp [intOf]; omega
      · have HE : Hid (Below w4.heap.size w4 wr ∧ FrB (fun b => w5.heap.size ≤ b) w7 wr) := Lib.hid ⟨HB.out, HF.out⟩
        have hfr := HF.out
        have hcq : Cl wr q #[.slice L N dd] 56 := hfr q _ _ HQ7.out (.inr ⟨by decide, by decide⟩)
        have hoe : OwnE wr w5.heap.size L N dd VV := OwnE.frb O7.out hfr
        have hfm : Fam wr w5.heap.size (pairE EE VV) := Fam.frb F7.out hfr (fun b hb => hb)
        have HRM := Lib.hid (refMerge11G_any (c := d2) ((RLg.of HR2.out).below HB.out) (by omega) (by omega) HGZ.out)
        have HCQ := Lib.hid hcq
        have HOE := Lib.hid hoe
        have HFM := Lib.hid hfm
        have BE := Lib.hid HB.out
        clear hfr hcq hoe hfm HE HO HT HF HB O37 O7 F7 HQ7 T7 B7 B57
        go_wp2_with fail
        with_reducible refine HRM.out.mono ?_
        rw [← HEE.out]
        intro e wF hq
        obtain ⟨LR, kR, dR, he, hpk, hdR, bF⟩ := RetEg.out hq
        subst he
        obtain rfl : kR = N := by have h1 := hpk.res.len; have h2 := HN.out; omega
        have HS : Hid (StS w4 w5.heap.size wr.heap.size q L kR dd VV EE 0 L dd ((pairE EE VV).drop (2 * 0)) 0 LR dR wF) := Lib.hid (by
          have hb := BE.out
          refine ⟨by simpa using HCQ.out.below bF, by have := HOE.out.cap.1; omega, fun h0 => ?_, HOE.out.below bF, by simpa using HFM.out.below bF, fun p hp b hb => ?_, ?_, by omega, hb.trans (bF.mono hb.size), s45, hqS, HCQ.out.lt⟩
          · rcases HOE.out.2 with ⟨_, h1⟩ | ⟨g, cap, cur, h1, _⟩
            · omega
            · injection h1 with h1
              exact ⟨g, h1, by rw [h1]⟩
          · exact (HFM.out.lt (by simpa using hp) hb).2
          · simpa using hpk.rg)
        clear hq hpk hdR bF HRM HCQ HOE HFM BE
        have HSO : Hid (SortL EE) := Lib.hid (by rw [HEE.out]; exact refM_sort (allS_of HZ.out.symm))
        obtain ⟨S3, hS3⟩ : ∃ S3, S3 = wr.heap.size := ⟨_, rfl⟩
        rw [← hS3] at HS
        clear hS3
        go_wp2_with fail
        go_loopw [16, 78] (fun s16 s78 wr => ∃ (j i c' lc nl : Nat) (A' LA : Option Addr), j ≤ m ∧ i ≤ kR ∧ s78 = .int .i64 (j : Int) ∧ s16 = .slice LA nl lc ∧ nl = kR - i ∧ StS w4 w5.heap.size S3 q L kR dd VV EE i A' c' ((pairE EE VV).drop (2 * i)) i LA lc wr) (fun _ s _ => m - (intOf s).toNat)
        case atStart => exact ⟨0, 0, dd, dR, kR, L, LR, Nat.zero_le _, Nat.zero_le _, rfl, rfl, rfl, HS.out⟩
        case round =>
          obtain ⟨j, i, c', lc, nl, A', LA, hj, hi, rfl, rfl, hnl, hS⟩ := hrel
          have HNL := Lib.hid hnl
          have HS1 := Lib.hid hS
          have HW1 := Lib.hid (B4.out.trans (hS.2.2.2.2.2.2.2.2.1.mono B4.out.size))
          clear hS HS hnl
          by_cases hjm : j < m
          · obtain ⟨b5, off5, hBe, hb5⟩ := HAM.out.pos (by omega)
            subst hBe
            obtain ⟨a, v1, ha, c0, c1, hel⟩ := HAM.out.at_ j hjm
            obtain ⟨K0, k0, kc0, ev, r0, hkc, hkn⟩ := hel
            subst ev
            have d0 := (HW1.out.cell (p := ⟨b5, off5 + j * 2, none⟩) hb5).trans c0
            have d1 := (HW1.out.cell (p := ⟨b5, off5 + j * 2 + 1, none⟩) hb5).trans c1
            have hk0 : k0 ≤ 1048576 := by have h1 := r0.len; have h2 := HKZ.out a (List.mem_of_getElem? ha); omega
            obtain ⟨key, hkey⟩ : ∃ key, key = a.key := ⟨_, rfl⟩
            rw [← hkey] at r0
            obtain ⟨sk, hsk⟩ : ∃ sk, sk = a.seek := ⟨_, rfl⟩
            rw [← hsk] at d0
            obtain ⟨U, hU⟩ : ∃ U, U = wr.alloc (.cells #[.bool sk, .slice K0 k0 kc0] 67) := ⟨_, rfl⟩
            obtain ⟨g18, hg18⟩ : ∃ g18, g18 = wr.heap.size := ⟨_, rfl⟩
            have bU : Below wr.heap.size wr U := by rw [hU]; exact (Below.refl _ _).alloc (Nat.le_refl _) _
            have zU : Cl U g18 #[.bool sk, .slice K0 k0 kc0] 67 := by rw [hU, hg18]; exact Cl.new _ _ _
            have HSU := Lib.hid (HS1.out.below bU)
            have HR0 := Lib.hid r0
            have hqg : q ≠ g18 := by have := HS1.out.1.lt; omega
            have HQG := Lib.hid hqg
            have HRK := Lib.hid (r0.below (HW1.out.trans (bU.mono HW1.out.size)))
            have HKN := Lib.hid hkn
            have ZU := Lib.hid zU
            have HU := Lib.hid hU
            have HG18 := Lib.hid hg18
            clear ha c0 c1 hb5 hkey hsk r0 hkn hU hg18 bU zU HS1 hqg
            cases sk with
            | true =>
              have z0 : U.cell? ⟨g18, 0, none⟩ = some (.bool true) := ZU.out.cell 0
              have z1 : U.cell? ⟨g18, 1, none⟩ = some (.slice K0 k0 kc0) := ZU.out.cell 1
              have HCP := Lib.hid (Copy_any K0 k0 kc0 key U HRK.out (by omega))
              go_upto_region 30 with (fail)
              rw [← HU.out, ← HG18.out]
              clear d0 d1
              go_wp2_with fail
              with_reducible refine HCP.out.mono ?_
              rintro e w6 ⟨C, cn, cc, h6, oC, b6⟩
              subst h6
              have HS6 := HSU.out.below b6
              have hr6 := HS6.rest HEF.out HWF.out HN.out hi
              have hcap := oC.cap
              have HSK := Lib.hid (mgSeek_any HS6.1 hr6 (by omega) (sortL_drop HSO.out i) oC.rd hcap.1 (fun hh => by have := oC.nil_of (by rw [hh]; rfl); exact this.2.2))
              have HS6 := Lib.hid HS6
              have ZG6 := Lib.hid (ZU.out.below b6)
              clear oC b6 hr6 hcap z0 z1 HCP
              go_wp2_with fail
              with_reducible refine HSK.out.mono ?_
              rintro e w7' ⟨h7, r, hr, hr1, hr2, hq7, g7⟩
              subst h7
              have HS7 : Hid (StS w4 w5.heap.size S3 q L kR dd VV EE (i + r) (cutA4 A' r c') (c' - r) ((pairE EE VV).drop (2 * (i + r))) i LA lc w7') := Lib.hid (by
                have h1 := HS6.out.turn (i' := i + r) (B' := cutA4 A' r c') (e' := c' - r) g7 (by rw [← Nat.sub_sub]; exact hq7) (by have := HS6.out.2.1; omega) (fun h => by
                  obtain ⟨g, e1, e2⟩ := HS6.out.2.2.1 (by omega)
                  exact ⟨g, e1, cutA4_at (n := kR - i) (fun _ => e2) (by omega) HS6.out.2.1⟩)
                have h2 := h1.drop (2 * r)
                rw [List.drop_drop, show 2 * i + 2 * r = 2 * (i + r) by omega] at h2
                exact h2)
              have ZG7 := Lib.hid (ZG6.out.grown g7 (fun e => HQG.out (Option.some.inj e)))
              have HR1 := Lib.hid hr1
              have HR2' := Lib.hid hr2
              obtain ⟨A7, hA7⟩ : ∃ A7, A7 = cutA4 A' r c' := ⟨_, rfl⟩
              obtain ⟨c7, hc7⟩ : ∃ c7, c7 = c' - r := ⟨_, rfl⟩
              rw [← hA7, ← hc7] at HS7
              have hir : i + r ≤ kR := by omega
              have hnl0 : nl = kR - i := HNL.out
              have H0 : Hid (∃ l nl' lc' : Nat, ∃ LA' : Option Addr, i ≤ l ∧ l ≤ i + r ∧ (Value.slice LA nl lc = .slice LA' nl' lc') ∧ nl' = kR - l ∧ StS w4 w5.heap.size S3 q L kR dd VV EE (i + r) A7 c7 ((pairE EE VV).drop (2 * (i + r))) l LA' lc' w7' ∧ Below w7'.heap.size w7' w7') := Lib.hid ⟨i, nl, lc, LA, Nat.le_refl _, by omega, rfl, hnl0, HS7.out, Below.refl _ _⟩
              clear hr1 hr2 hq7 g7 hA7 hc7 HS6 HSU hnl0 HS7 HSK HNL
              go_wp2_with fail
              go_loopw [16] (fun s16 wr => ∃ (l nl' lc' : Nat) (LA' : Option Addr), i ≤ l ∧ l ≤ i + r ∧ s16 = .slice LA' nl' lc' ∧ nl' = kR - l ∧ StS w4 w5.heap.size S3 q L kR dd VV EE (i + r) A7 c7 ((pairE EE VV).drop (2 * (i + r))) l LA' lc' wr ∧ Below w7'.heap.size w7' wr) (fun s _ => lenV s)
              case atStart => exact H0.out
              case round =>
                obtain ⟨l, nl', lc', LA', hil, hlr, rfl, hnl, hS, hB⟩ := hrel
                have HNL := Lib.hid hnl
                have HSl := Lib.hid hS
                have HBl := Lib.hid hB
                have z1 : wr.cell? ⟨g18, 1, none⟩ = some (.slice K0 k0 kc0) := (ZG7.out.below hB).cell 1
                clear hnl hS hB H0
                by_cases hn0 : nl' = 0
                · subst hn0
                  have HF : Hid (i + r = kR ∧ l = i + r) := Lib.hid (by have := HNL.out; omega)
                  clear z1
                  go_wp2_with fail
                  go_quiet (fail)
                  have HQ : Hid (StS w4 w5.heap.size S3 q L kR dd VV EE (i + r) A7 c7 ((pairE EE VV).drop (2 * (i + r))) (i + r) LA' lc' (wr.drewN nq)) := Lib.hid (by
                    have h1 := HSl.out.below (below_drewN (Below.refl _ _) nq)
                    rw [HF.out.2] at h1
                    exact h1)
                  go_wp2_with fail
                  go_roundw
                  case rel => exact ⟨j + 1, i + r, c7, lc', 0, A7, LA', by omega, hir, by go_num, rfl, by have := HF.out; omega, HQ.out⟩
                  case measure => simp [intOf]; omega
                · have hpos : 0 < nl' := by omega
                  have tn : (0 : Int) < (nl' : Int) := by omega
                  have hlk : l < kR := by have := HNL.out; omega
                  have hnk : nl' = kR - l := HNL.out
                  have hRG := HSl.out.2.2.2.2.2.2.1
                  obtain ⟨b6, off6, hLe, hb6⟩ := hRG.res.pos (by omega)
                  subst hLe
                  obtain ⟨x, u0, u1, u2, u3, hx, e0, _, _, _, hev, _⟩ := hRG.at_ 0 (by omega)
                  rw [List.getElem?_drop, Nat.add_zero] at hx
                  have hxi : (EE.drop i)[l - i]? = some x := by rw [List.getElem?_drop, show i + (l - i) = l by omega]; exact hx
                  obtain ⟨Kx, kxn, kxc, Vx, vxn, vxc, rfl, rfl, rfl, rfl, rKx, _⟩ := hev.parts
                  have e0 : wr.cell? ⟨b6, off6, none⟩ = some (.slice Kx kxn kxc) := by simpa using e0
                  have hsx := HJZ.out x (List.mem_of_getElem? hx)
                  have hxq := (HWF.out x (List.mem_of_getElem? hx)).1
                  obtain ⟨zz, hzz⟩ : ∃ zz, cmpB x.key key = zz := ⟨_, rfl⟩
                  have rK0 : Rd wr K0 k0 key := HR0.out.below (B4.out.trans (HSl.out.2.2.2.2.2.2.2.2.1.mono B4.out.size))
                  have HCM : Hid (∀ qn, Calls Try.prog 31 #[.slice Kx kxn kxc, .slice K0 k0 kc0] (wr.drewN qn) (RetZ (wr.drewN qn) zz)) := Lib.hid (fun qn => refCmp_is Kx K0 kxn k0 kxc kc0 x.key key zz hzz _ (rKx.below (below_drewN (Below.refl _ _) qn)) (rK0.below (below_drewN (Below.refl _ _) qn)) (by have h1 := rKx.len; have h2 := hsx.1; unfold maxLen; omega) (by unfold maxLen; omega))
                  by_cases hlt : l < i + r
                  · have hz : zz < 0 := by rw [← hzz]; exact (nlM_lt hxi hxq).1 (HR1.out (l - i) (by omega))
                    have hcut : ∀ w, (Instr.slice 22 (.slice (some ⟨b6, off6, none⟩) nl' lc') (some (.int .i64 1)) none none).run Try.prog w = .ok (.slice (cutA4 (some ⟨b6, off6, none⟩) 1 lc') (nl' - 1) (lc' - 1)) w := fun w => by
                      have := cut4_l (P := Try.prog) Try.underlying22 elem4 size4 (some ⟨b6, off6, none⟩) (n := nl') (cap := lc') (k := 1) (by omega) w
                      simpa using this
                    obtain ⟨cA, hcA⟩ : ∃ cA, cA = cutA4 (some ⟨b6, off6, none⟩) 1 lc' := ⟨_, rfl⟩
                    rw [← hcA] at hcut
                    have HCA := Lib.hid hcA
                    clear hnk hRG hb6 hx hxi hev rKx hsx hxq hzz rK0 hcA hn0
                    go_wp2_with fail
                    go_quiet ((go_at_call 31; exact Calls.quiet_of (HCM.out _)))
                    have HQ : Hid (StS w4 w5.heap.size S3 q L kR dd VV EE (i + r) A7 c7 ((pairE EE VV).drop (2 * (i + r))) (l + 1) cA (lc' - 1) (wr.drewN nq)) := Lib.hid (by
                      have h1 := (HSl.out.cut hlk HN.out).below (below_drewN (Below.refl _ _) nq)
                      rw [HCA.out]
                      exact h1)
                    have HBq : Hid (Below w7'.heap.size w7' (wr.drewN nq)) := Lib.hid (below_drewN HBl.out nq)
                    clear e0 z1
                    go_wp2_with fail
                    go_roundw
                    case rel => exact ⟨l + 1, nl' - 1, lc' - 1, cA, by omega, by omega, rfl, by have := HNL.out; omega, HQ.out, HBq.out⟩
                    case measure => simp [lenV]; omega
                  · obtain rfl : l = i + r := by omega
                    have hz : ¬ zz < 0 := by rw [← hzz]; exact (nlM_lt hxi hxq).2 (HR2'.out (i + r - i) (by omega) (by omega))
                    have hzd : decide (zz < 0) = false := decide_eq_false hz
                    clear hnk hRG hb6 hx hxi hev rKx hsx hxq hzz rK0 hn0 hlt
                    go_wp2_with fail
                    go_quiet ((go_at_call 31; exact Calls.quiet_of (HCM.out _)))
                    have HQ : Hid (StS w4 w5.heap.size S3 q L kR dd VV EE (i + r) A7 c7 ((pairE EE VV).drop (2 * (i + r))) (i + r) (some ⟨b6, off6, none⟩) lc' (wr.drewN nq)) := Lib.hid (HSl.out.below (below_drewN (Below.refl _ _) nq))
                    clear e0 z1
                    go_wp2_with fail
                    go_roundw
                    case rel => exact ⟨j + 1, i + r, c7, lc', nl', A7, (some ⟨b6, off6, none⟩), by omega, hir, by go_num, rfl, HNL.out, HQ.out⟩
                    case measure => simp [intOf]; omega
            | false =>
              have z0 : U.cell? ⟨g18, 0, none⟩ = some (.bool false) := ZU.out.cell 0
              have hnl0 : nl = kR - i := HNL.out
              by_cases hik : i < kR
              · obtain ⟨x, w0, w1', w2', w3', hx, q0, q1, q2, q3, hpd⟩ := pairE_at EE (vs := VV) i (by have h1 : VV.length = kR * 4 := HSU.out.2.2.2.1.rd.1; have h2 : EE.length = kR := HN.out; omega) (by have h2 : EE.length = kR := HN.out; omega)
                have hS := HSU.out
                rw [hpd] at hS
                obtain ⟨K, kn, kc, ek, _⟩ := hS.2.2.2.2.1.1 (w0, x.key) (by simp)
                obtain ⟨V, vn, vc, ev, _⟩ := hS.2.2.2.2.1.1 (w3', x.val) (by simp)
                simp only at ek ev
                subst ek ev
                obtain ⟨f1, f2⟩ := HEF.out i x hx
                rw [f1] at q1
                rw [f2] at q2
                injection q1 with q1
                injection q2 with q2
                subst q1 q2
                obtain ⟨gL, eL, eA⟩ := hS.2.2.1 hik
                subst eA
                obtain ⟨bL, oL, hLe, hbL, hcL⟩ := hS.2.2.2.1.rd.2 (by omega)
                rw [eL] at hLe
                injection hLe with hLe
                injection hLe with e1 e2
                subst e1 e2
                have c0 := hcL _ _ q0
                have c1 := hcL _ _ f1
                have c2 := hcL _ _ f2
                have c3 := hcL _ _ q3
                rw [Nat.zero_add] at c0 c1 c2 c3
                obtain ⟨nn, hnn⟩ : ∃ nn, nn = kR - (i + 1) := ⟨_, rfl⟩
                have hq1 : Cl U q #[.slice (some ⟨gL, i * 4, none⟩) (nn + 1) c'] 56 := by
                  have := hS.1
                  rw [show kR - i = nn + 1 by omega] at this
                  exact this
                have HN1 := Lib.hid (mgNext_one hq1 (by omega) hbL c0 c1 c2 c3)
                have hxm := List.mem_of_getElem? hx
                have hxs := HJZ.out x hxm
                have hxw := HWF.out x hxm
                have HSV := Lib.hid hS
                have hlen1 : kR - i ≤ c' := hS.2.1
                obtain ⟨cA, hcA⟩ : ∃ cA, cA = cutA4 (some ⟨gL, i * 4, none⟩) 1 c' := ⟨_, rfl⟩
                rw [← hcA] at HN1
                have HCA : Hid (i + 1 < kR → cA = some ⟨gL, (i + 1) * 4, none⟩) := Lib.hid (fun h => by rw [hcA]; exact cutA4_at (n := kR - i) (fun _ => rfl) (by omega) hlen1)
                have HEL := Lib.hid eL
                have HX := Lib.hid hx
                have HNN := Lib.hid hnn
                have HXS := Lib.hid hxs
                have HXW := Lib.hid hxw
                clear hx q0 f1 f2 q3 hpd hS eL hbL hcL c0 c1 c2 c3 hnn hq1 hxm hxs hxw hcA HRK HR0 HKN ZU hnl0
                go_upto_region 30 with (fail)
                rw [← HU.out, ← HG18.out]
                clear d0 d1
                go_wp2_with fail
                with_reducible refine HN1.out.mono ?_
                rintro e w6 ⟨h6, hq6, g6⟩
                subst h6
                have hS6 := HSV.out.turn (i' := i + 1) g6 (by rw [← HNN.out]; exact hq6) (by omega) (fun h => ⟨gL, HEL.out, HCA.out h⟩)
                obtain ⟨Y, hY⟩ : ∃ Y, Y = w6.alloc (.cells #[.slice K kn kc, .int .u64 (x.seq : Int), .int .u8 (x.kind : Int), .slice V vn vc] 37) := ⟨_, rfl⟩
                obtain ⟨g19, hg19⟩ : ∃ g19, g19 = w6.heap.size := ⟨_, rfl⟩
                have bY : Below w6.heap.size w6 Y := by rw [hY]; exact (Below.refl _ _).alloc (Nat.le_refl _) _
                have zY : Cl Y g19 #[.slice K kn kc, .int .u64 (x.seq : Int), .int .u8 (x.kind : Int), .slice V vn vc] 37 := by rw [hY, hg19]; exact Cl.new _ _ _
                have hSY := hS6.below bY
                have oK := hSY.own
                have oV : Own 5 Y w5.heap.size V vn vc x.val := mem_own2 (fam_tail hSY.2.2.2.2.1) (by simp)
                have hkn2 : kn ≤ 1099511627776 := by have h1 := oK.len; have h2 := HXS.out.1; omega
                have hvn2 : vn ≤ 1099511627776 := by have h1 := oV.len; have h2 := HXS.out.2; omega
                have hevA : EV Y x (.slice K kn kc) (.int .u64 (x.seq : Int)) (.int .u8 (x.kind : Int)) (.slice V vn vc) := ⟨rfl, rfl, HXW.out.1, HXW.out.2, ⟨K, kn, kc, rfl, oK.rd, oK.cap.1, fun hh => by have := oK.nil_of (by rw [hh]; rfl); exact this.2.2⟩, ⟨V, vn, vc, rfl, oV.rd, oV.cap.1, fun hh => by have := oV.nil_of (by rw [hh]; rfl); exact this.2.2⟩⟩
                have hRG := hSY.2.2.2.2.2.2.1
                obtain ⟨b6, off6, hLe, hb6⟩ := hRG.res.pos (by omega)
                subst hLe
                obtain ⟨x2, u0, u1, u2, u3, hx2, e0, e1, e2, e3, hev2, _⟩ := hRG.at_ 0 (by omega)
                rw [List.getElem?_drop, Nat.add_zero, HX.out] at hx2
                injection hx2 with hx2
                subst hx2
                obtain ⟨K2, kn2, kc2, V2, vn2, vc2, rfl, rfl, rfl, rfl, _⟩ := hev2.parts
                rw [Nat.zero_mul, Nat.add_zero] at e0 e1 e2 e3
                have HSM : Hid (∀ wx, Below Y.heap.size Y wx → Calls Try.prog 32 #[.agg #[.slice K kn kc, .int .u64 (x.seq : Int), .int .u8 (x.kind : Int), .slice V vn vc], .agg #[.slice K2 kn2 kc2, .int .u64 (x.seq : Int), .int .u8 (x.kind : Int), .slice V2 vn2 vc2]] wx (RetT wx true)) := Lib.hid (fun wx hb => Same_any (hevA.below hb) (hev2.below hb) HXS.out)
                have HSX : Hid (∀ wx, Below Y.heap.size Y wx → wx.cell? ⟨g19, 0, none⟩ = some (.slice K kn kc) ∧ wx.cell? ⟨g19, 1, none⟩ = some (.int .u64 (x.seq : Int)) ∧ wx.cell? ⟨g19, 2, none⟩ = some (.int .u8 (x.kind : Int)) ∧ wx.cell? ⟨g19, 3, none⟩ = some (.slice V vn vc) ∧ wx.cell? ⟨b6, off6, none⟩ = some (.slice K2 kn2 kc2) ∧ wx.cell? ⟨b6, off6 + 1, none⟩ = some (.int .u64 (x.seq : Int)) ∧ wx.cell? ⟨b6, off6 + 2, none⟩ = some (.int .u8 (x.kind : Int)) ∧ wx.cell? ⟨b6, off6 + 3, none⟩ = some (.slice V2 vn2 vc2)) := Lib.hid (fun wx hb => by
                  obtain ⟨y0, y1, y2, y3, _⟩ := (zY.below hb).c4
                  exact ⟨y0, y1, y2, y3, (hb.cell (p := ⟨b6, off6, none⟩) hb6).trans e0, (hb.cell (p := ⟨b6, off6 + 1, none⟩) hb6).trans e1, (hb.cell (p := ⟨b6, off6 + 2, none⟩) hb6).trans e2, (hb.cell (p := ⟨b6, off6 + 3, none⟩) hb6).trans e3⟩)
                have HSY := Lib.hid hSY
                have ZY := Lib.hid zY
                have HY := Lib.hid hY
                have HG19 := Lib.hid hg19
                have hpos : 0 < nl := by have : nl = kR - i := HNL.out; omega
                have tn : (0 : Int) < (nl : Int) := by omega
                have hB0 : Below Y.heap.size Y Y.drew := (Below.refl _ _).drew
                have hcut : ∀ w, (Instr.slice 22 (.slice (some ⟨b6, off6, none⟩) nl lc) (some (.int .i64 1)) none none).run Try.prog w = .ok (.slice (cutA4 (some ⟨b6, off6, none⟩) 1 lc) (nl - 1) (lc - 1)) w := fun w => by
                  have := cut4_l (P := Try.prog) Try.underlying22 elem4 size4 (some ⟨b6, off6, none⟩) (n := nl) (cap := lc) (k := 1) (by omega) w
                  simpa using this
                obtain ⟨cB, hcB⟩ : ∃ cB, cB = cutA4 (some ⟨b6, off6, none⟩) 1 lc := ⟨_, rfl⟩
                rw [← hcB] at hcut
                have HCB := Lib.hid hcB
                have HCU := Lib.hid hcut
                clear hcB hS6 hq6 g6 hY hg19 bY zY hSY oK oV hevA hRG hb6 e0 e1 e2 e3 hev2 hcut z0
                go_upto_region 35 with (fail)
                rw [← HY.out, ← HG19.out]
                go_region_held3 (fun wx => wx.cell? ⟨g19, 0, none⟩ = some (.slice K kn kc) ∧ wx.cell? ⟨g19, 1, none⟩ = some (.int .u64 (x.seq : Int)) ∧ wx.cell? ⟨g19, 2, none⟩ = some (.int .u8 (x.kind : Int)) ∧ wx.cell? ⟨g19, 3, none⟩ = some (.slice V vn vc) ∧ wx.cell? ⟨b6, off6, none⟩ = some (.slice K2 kn2 kc2) ∧ wx.cell? ⟨b6, off6 + 1, none⟩ = some (.int .u64 (x.seq : Int)) ∧ wx.cell? ⟨b6, off6 + 2, none⟩ = some (.int .u8 (x.kind : Int)) ∧ wx.cell? ⟨b6, off6 + 3, none⟩ = some (.slice V2 vn2 vc2)) (first | assumption | exact HSX.out _ hB0)
                  (first | (go_at_call 32; with_reducible refine (HSM.out _ hB0).mono ?_; intro e1 wn hq; obtain ⟨h1, bn⟩ := RetT.outD hq; subst h1; have bn' := belowT hB0 bn; have hS1 := HSX.out _ bn'))
                all_goals
                  have HSN := Lib.hid (HSY.out.below bn')
                  have ZN := Lib.hid (ZY.out.below bn')
                  have HOV1 := Lib.hid (Over_own K kn kc w5.heap.size x.key wn HSN.out.own hkn2)
                  clear bn bn' hS1
                  obtain ⟨x0, x1, x2, x3, _⟩ := ZN.out.c4
                  go_wp2_with fail
                  with_reducible refine HOV1.out.mono ?_
                  rintro e w8 ⟨h8, g8⟩
                  subst h8
                  have HS8 := Lib.hid (HSN.out.over g8)
                  have z8 := ZN.out.grown g8 (cl_row ZN.out HSN.out.own (by decide))
                  have HOV2 := Lib.hid (Over_own V vn vc w5.heap.size x.val w8 HS8.out.own hvn2)
                  clear g8 x0 x1 x2 x3 HOV1
                  obtain ⟨x0, x1, x2, x3, _⟩ := z8.c4
                  clear z8
                  go_wp2_with fail
                  with_reducible refine HOV2.out.mono ?_
                  rintro e w9 ⟨h9, g9⟩
                  subst h9
                  have HS9 := Lib.hid ((HS8.out.over g9).cut hik HN.out)
                  have hcut := HCU.out
                  clear g9 x0 x1 x2 x3 HOV2
                  go_wp2_with fail
                  go_roundw
                  case rel => exact ⟨j + 1, i + 1, c' - 1, lc - 1, nl - 1, cA, cB, by omega, by omega, by go_num, rfl, by have : nl = kR - i := HNL.out; omega, by rw [HCB.out]; exact HS9.out⟩
                  case measure => simp [intOf]; omega
              · have hie : i = kR := by omega
                have hn0 : nl = 0 := by omega
                subst hn0
                have hq1 : Cl U q #[.slice A' 0 c'] 56 := by
                  have := HSU.out.1
                  rw [show kR - i = 0 by omega] at this
                  exact this
                have HN1 := Lib.hid (mgNext_nil hq1)
                have HIE := Lib.hid hie
                clear hq1 hie hnl0 hik
                go_upto_region 30 with (fail)
                rw [← HU.out, ← HG18.out]
                clear d0 d1
                go_wp2_with fail
                with_reducible refine HN1.out.mono ?_
                rintro e w6 ⟨h6, b6⟩
                subst h6
                obtain ⟨Y, hY⟩ : ∃ Y, Y = w6.alloc (.cells #[.slice none 0 0, .int .u64 0, .int .u8 0, .slice none 0 0] 37) := ⟨_, rfl⟩
                have bY : Below w6.heap.size w6 Y := by rw [hY]; exact (Below.refl _ _).alloc (Nat.le_refl _) _
                have HSY := Lib.hid ((HSU.out.below b6).below bY)
                have HY := Lib.hid hY
                clear z0 b6 bY hY HNL
                go_upto_region 35 with (fail)
                rw [← HY.out]
                go_quiet (fail)
                have HQ := Lib.hid (HSY.out.below (below_drewN (Below.refl _ _) nq))
                go_wp2_with fail
                go_roundw
                case rel => exact ⟨j + 1, i, c', lc, 0, A', LA, by omega, hi, by go_num, rfl, by have := HIE.out; omega, HQ.out⟩
                case measure => simp [intOf]; omega
          · have HF := Lib.hid HW1.out
            go_wp2_with fail
            go_ret
            exact ⟨rfl, HF.out⟩
end Go.Proofs.Ytcclhkoggijkaaa
namespace Go.Proofs.Ytcclhkoggijkaaa.mergeStreamsUptoRow
open Go Go.ChangeShapes Go.WideShapes Go.ChangeAt Go.RowKit Go.Deep
open Go.ChangeMaps (open_string shut_string)
set_option linter.unusedVariables false

theorem own : ownKnob Try.prog.godebug = none := by kernel_rfl
theorem laidOut : laidOutB Try.prog = true := by kernel_rfl

set_option maxRecDepth 100000 in
theorem contract (H : Type) (enc : TypeId × Value → H) (W : World) (base : Nat) (args : Array Value) (ds gs : List (DataW H)) (before : List MemPlace)
    (hval0 : ∀ (j : Nat) t v, Try.f5.params[j]? = some t → args[j]? = some v → Value.okWide Try.prog W .any base t v)
    (hW : DataW.Whole enc Try.prog Try.f5.params.toList Rows.mergeStreamsSpec.vars false W args.toList ds gs before)
    (hk : Rows.uptoSmall H (ds ++ gs) = true) :
    Calls Try.prog 5 args W fun e W' => ∃ v, e = .returned v ∧ Rows.mergeStreamsSpec.post enc Try.prog Try.f5 false true false false W args v W' := by
  have hval : ∀ (j : Nat) t v, Try.f5.params[j]? = some t → args[j]? = some v → Value.okWide Try.prog W .any base t v := hval0
  have hW' := hW
  obtain ⟨p, q, hA0, hV, rfl, hfz, hnd⟩ := hW
  have hA : DataW.TrodAll enc Try.prog W 0 (fun _ => true) true Try.f5.params.toList args.toList ds p := hA0
  rw [Try.params5] at hA hval
  obtain ⟨v0, vs0, d0, ds0, p0, q0, hargs, rfl, rfl, h0, r0⟩ := trodAll_cons hA
  obtain ⟨v1, vs1, d1, ds1, p1, q1, rfl, rfl, rfl, h1, r1⟩ := trodAll_cons r0
  obtain ⟨rfl, rfl, rfl⟩ := trodAll_nil r1
  obtain rfl : args = #[v0, v1] := by cases args; simp_all
  obtain ⟨rfl, rfl⟩ := trodVars_none hV
  have hb := bulkOf hk
  have sz0 : Rows.uptoBulk d0 ≤ 1048576 := Nat.le_trans (part_bulk (d := d0) (l := [d0, d1] ++ []) (by simp)) hb
  have sz1 : Rows.uptoBulk d1 ≤ 1048576 := Nat.le_trans (part_bulk (d := d1) (l := [d0, d1] ++ []) (by simp)) hb
  obtain ⟨A0, len0, cap0, rfl⟩ := okWide_slice Try.underlying53 (hval 0 53 v0 rfl rfl)
  have k0 := h0
  have lt0 : ∀ x ∈ p0, x.block < W.heap.size := by obtain ⟨m, hm⟩ := k0; exact DataW.trod_lt m _ _ _ hm
  obtain ⟨al0, rd0, lc0, ta0⟩ : ∃ al0, RLs W A0 len0 al0 ∧ len0 ≤ cap0 ∧ totLs al0 ≤ 2097152 := by
    obtain ⟨fuel, hf⟩ := h0
    obtain ⟨al, h1, h2, h3⟩ := lists_of (len := len0) (cap := cap0) (A := A0) hf
    exact ⟨al, h1, h2, by have h4 := sz0; have h5 : totLs al ≤ 2 * Rows.uptoBulk d0 := h3; omega⟩
  obtain ⟨A1, len1, cap1, rfl⟩ := okWide_slice Try.underlying54 (hval 1 54 v1 rfl rfl)
  have k1 := h1
  have lt1 : ∀ x ∈ p1, x.block < W.heap.size := by obtain ⟨m, hm⟩ := k1; exact DataW.trod_lt m _ _ _ hm
  obtain ⟨al1, rd1, lc1, ta1⟩ : ∃ al1, RAm W A1 len1 al1 ∧ len1 ≤ cap1 ∧ totAm al1 ≤ 1048576 := by
    obtain ⟨fuel, hf⟩ := h1
    obtain ⟨al, h1, h2, h3⟩ := actsm_of (len := len1) (cap := cap1) (A := A1) hf
    exact ⟨al, h1, h2, by have h4 := sz1; have h5 : totAm al ≤ Rows.uptoBulk d1 := h3; omega⟩
  clear hA0 hval0
  refine (mergeStreams_row A0 len0 cap0 al0 A1 len1 cap1 al1 W rd0 lc0 ta0 rd1 lc1 ta1).mono fun e W' ⟨he, bel⟩ => ?_
  subst he
  exact ⟨_, rfl, _, _, _, [], _, [], hW', trodAll_mk1 (shut_bool Try.underlying4 _), (trodAll_cons_mk (Below.trod laidOut (by kernel_rfl) (of_decide_eq_true (by kernel_rfl)) k0 bel lt0) (trodAll_cons_mk (Below.trod laidOut (by kernel_rfl) (of_decide_eq_true (by kernel_rfl)) k1 bel lt1) trodAll_mk0)), rfl, bel.frame _, fun h => by cases h⟩

set_option maxRecDepth 100000 in
theorem lifted (os : Os) (started : os.Started) (H : Type) (enc : TypeId × Value → H) (F : Stop.Interp) :
    ReturnsInHanded {} Try.checked os 5 .any ((Rows.OpenSpec.upto Rows.mergeStreamsSpec).pre6 enc Try.prog Try.f5 Rows.mergeStreamsUptoRow.domain false) (((Rows.OpenSpec.upto Rows.mergeStreamsSpec).at F).post enc Try.prog Try.f5 false true false false) := by
  refine returnsInHanded_of_cond (C := Try.checked) (s := Rows.OpenSpec.upto Rows.mergeStreamsSpec) (k := Rows.uptoSmall) rfl own started (by kernel_rfl) Try.func5
    (OpenSpec.witness (enc := enc) (C := Try.checked) (s := Rows.OpenSpec.upto Rows.mergeStreamsSpec) (k := Rows.uptoSmall) rfl false ⟨#[], #[.slice none 0 0, .slice none 0 0], []⟩ 8 (by kernel_rfl) (by kernel_rfl) (by kernel_rfl)
      (x := ([.nil, .nil], [], [])) (by kernel_rfl) rfl (by kernel_rfl)) ?_
  intro W base args ds gs before hval hW _ hk _
  exact contract H enc W base args ds gs before hval hW hk

theorem over : Rows.mergeStreamsUptoRow.holds Try.pinned (Rows.OpenSpec.upto Rows.mergeStreamsSpec) :=
  OpenClaim.holds_of_cond 5 Try.f5 rfl rfl rfl rfl rfl rfl rfl ⟨rfl, rfl, rfl, rfl, rfl⟩ rfl rfl rfl rfl rfl (by kernel_rfl) Try.func5 (by kernel_rfl)
    (of_decide_eq_true (by kernel_rfl)) (by unfold Func.isWrapper; first | (rw [if_pos (by decide +kernel)]; kernel_rfl) | (rw [if_neg (by decide +kernel)]; exact ⟨rfl, rfl⟩))
    (fun os started H enc _ F => lifted os started H enc F)

/-- THE STATEMENT -/
theorem proved : Rows.MergeStreamsUptoSaid := over
#print axioms proved
end Go.Proofs.Ytcclhkoggijkaaa.mergeStreamsUptoRow
