/- Lock: decode, of ranges. No condition but sizes. -/
import Derived.Test.YtmpdenpopokigaaLkK
import Derived.RangeFuncNested
import Derived.RangeFuncBound
import Derived.RangeFuncCalls
import Derived.RangeFuncLeaves
import Derived.Shelf.Abstract
import Derived.Shelf.RegionOpen
import Derived.WalkKit
import Derived.OwnWalkIn
import Derived.TacticsInMore
import Derived.LoopNIn
import Derived.LoopIn
import Derived.Test.YtmpdenpopokigaaLibO
import Derived.Deep.QuietTactic
import Derived.Test.YtmpdenpopokigaaOpenG
import Derived.Test.YtmpdenpopokigaaOpenF
import Derived.Test.YtmpdenpopokigaaMem
import Derived.Test.YtmpdenpopokigaaOpenE
import Derived.Lib.SliceRun
import Derived.Test.YtmpdenpopokigaaFrame
import Derived.Test.YtmpdenpopokigaaFamC
import Derived.Test.YtmpdenpopokigaaPut
import Derived.Deep.RegionHeld3
import Derived.Test.YtmpdenpopokigaaMathP
import Derived.Test.YtmpdenpopokigaaEnA
namespace Go.Proofs.Ytmpdenpopokigaa
open Go Go.RowKit

/-- 'The numbers in these cells are the entries''. -/
def EF (es : List En) (us : List Value) : Prop := ∀ (i : Nat) (x : En), es[i]? = some x → us[i * 4 + 1]? = some (.int .u64 (x.seq : Int)) ∧ us[i * 4 + 2]? = some (.int .u8 (x.kind : Int))
/-- 'These slices are lists of the call's own, one behind the other in memory; their bytes share no memory.' -/
def LsT (w : World) : Nat → Nat → List (List En) → List Value → Prop
  | lo, hi, [], vs => vs = [] ∧ lo ≤ hi
  | lo, hi, es :: ls, vs => ∃ B m c r us mid, vs = .slice B m c :: r ∧ OwnE w lo B m c us ∧ Fam w lo (pairE es us) ∧ (es.length = m ∧ EF es us) ∧ lo ≤ mid ∧ (∀ b, blk B = some b → b < mid) ∧ (∀ q ∈ pairE es us, ∀ b, Value.ownBlock q.1 = some b → b < mid) ∧ LsT w mid hi ls r
theorem LsT.le {w : World} : ∀ {ls : List (List En)} {lo hi : Nat} {vs : List Value}, LsT w lo hi ls vs → lo ≤ hi
  | [], _, _, _, h => h.2
  | _ :: _, _, _, _, ⟨_, _, _, _, _, _, _, _, _, _, h5, _, _, h8⟩ => Nat.le_trans h5 (LsT.le h8)
theorem LsT.up {w : World} : ∀ {ls : List (List En)} {lo hi hi' : Nat} {vs : List Value}, LsT w lo hi ls vs → hi ≤ hi' → LsT w lo hi' ls vs
  | [], _, _, _, _, h, k => ⟨h.1, Nat.le_trans h.2 k⟩
  | _ :: _, _, _, _, _, ⟨B, m, c, r, us, mid, h1, h2, h3, h4, h5, h6, h7, h8⟩, k => ⟨B, m, c, r, us, mid, h1, h2, h3, h4, h5, h6, h7, LsT.up h8 k⟩
theorem LsT.below {w w' : World} (hb : Below w.heap.size w w') : ∀ {ls : List (List En)} {lo hi : Nat} {vs : List Value}, LsT w lo hi ls vs → LsT w' lo hi ls vs
  | [], _, _, _, h => h
  | _ :: _, _, _, _, ⟨B, m, c, r, us, mid, h1, h2, h3, h4, h5, h6, h7, h8⟩ => ⟨B, m, c, r, us, mid, h1, h2.below hb, h3.below hb, h4, h5, h6, h7, LsT.below hb h8⟩
/-- A block below is written to. -/
theorem LsT.off {w w' : World} {row : Option Nat} (hg : w.grownBy w' row) : ∀ {ls : List (List En)} {lo hi : Nat} {vs : List Value}, (∀ b, row = some b → b < lo) → LsT w lo hi ls vs → LsT w' lo hi ls vs
  | [], _, _, _, _, h => h
  | _ :: _, lo, _, _, hr, ⟨B, m, c, r, us, mid, h1, h2, h3, h4, h5, h6, h7, h8⟩ => ⟨B, m, c, r, us, mid, h1, ownE_kept h2 hg (fun b hb e => by have h9 := (h2.lt b hb).1; have h10 := hr b e; omega), h3.kept hg (fun b hb => h3.off_old (hr b hb)), h4, h5, h6, h7, LsT.off hg (fun b hb => Nat.lt_of_lt_of_le (hr b hb) h5) h8⟩
theorem LsT.snoc {w : World} {es : List En} {B : Option Addr} {m c : Nat} {us : List Value} {hi3 : Nat} : ∀ {ls : List (List En)} {lo hi : Nat} {vs : List Value}, LsT w lo hi ls vs → OwnE w hi B m c us → Fam w hi (pairE es us) → es.length = m ∧ EF es us → hi ≤ hi3 → (∀ b, blk B = some b → b < hi3) → (∀ q ∈ pairE es us, ∀ b, Value.ownBlock q.1 = some b → b < hi3) → LsT w lo hi3 (ls ++ [es]) (vs ++ [.slice B m c])
  | [], lo, hi, vs, h, hr, hf, hl, hle, hb, hq => by
    rw [h.1]
    exact ⟨B, m, c, [], us, hi3, rfl, OwnE.mono hr h.2, hf.mono h.2, hl, Nat.le_trans h.2 hle, hb, hq, rfl, Nat.le_refl _⟩
  | _ :: _, _, _, _, ⟨B', m', c', r, us', mid, h1, h2, h3, h4, h5, h6, h7, h8⟩, hr, hf, hl, hle, hb, hq => ⟨B', m', c', _, us', mid, by rw [h1]; rfl, h2, h3, h4, h5, h6, h7, LsT.snoc h8 hr hf hl hle hb hq⟩
/-- Lists of the call's own, list by list. -/
def RetTw (w : World) (ls : List (List En)) (e : Ending) (w' : World) : Prop := ∃ L k d vs, e = .returned (.slice L k d) ∧ OwnV 22 w' w.heap.size L k d vs ∧ LsT w' w.heap.size w'.heap.size ls vs ∧ RLs w' L k ls ∧ Below w.heap.size w w'
theorem RetTw.out {w w' : World} {ls : List (List En)} {e : Ending} (h : RetTw w ls e w') : ∃ L k d vs, e = .returned (.slice L k d) ∧ OwnV 22 w' w.heap.size L k d vs ∧ LsT w' w.heap.size w'.heap.size ls vs ∧ RLs w' L k ls ∧ Below w.heap.size w w' := h
/-- 'Reads as these; the bytes are good, the row is new.' -/
def PkG (P : Nat → Prop) (w : World) (es : List En) (L : Option Addr) (k : Nat) (wr : World) : Prop :=
  ∃ vs, EVs wr es vs ∧ RdV wr L (k * 4) vs ∧ es.length = k ∧ GV P vs ∧ (∀ b, blk L = some b → w.heap.size ≤ b)
theorem PkG.below {P : Nat → Prop} {w wr w' : World} {es : List En} {L : Option Addr} {k : Nat} (h : PkG P w es L k wr) (hb : Below wr.heap.size wr w') : PkG P w es L k w' := by
  obtain ⟨vs, h1, h2, h3, h4, h5⟩ := h
  exact ⟨vs, h1.below hb, h2.below hb, h3, h4, h5⟩
theorem PkG.nil (P : Nat → Prop) (w : World) : PkG P w [] none 0 w := ⟨[], rfl, RdV.nil _ _, rfl, GV.nil, fun b h => by cases h⟩
/-- 'These slices read as these lists, in good memory.' -/
def RLg (P : Nat → Prop) (w : World) (A : Option Addr) (n : Nat) (ls : List (List En)) : Prop :=
  ls.length = n ∧ (0 < n → ∃ b off, A = some ⟨b, off, none⟩ ∧ b < w.heap.size ∧ ∀ (i : Nat) es, ls[i]? = some es → ∃ B m c, w.cell? ⟨b, off + i, none⟩ = some (.slice B m c) ∧ RG P w B m es ∧ m ≤ c)
theorem RLg.of {w : World} {A : Option Addr} {n : Nat} {ls : List (List En)} (h : RLs w A n ls) : RLg (fun g => g < w.heap.size) w A n ls := ⟨h.1, fun hn => by
  obtain ⟨b, off, h1, h2, h3⟩ := h.2 hn
  refine ⟨b, off, h1, h2, fun i es hi => ?_⟩
  obtain ⟨B, m, c, h4, h5, h6⟩ := h3 i es hi
  exact ⟨B, m, c, h4, h5.lt, h6⟩⟩
theorem RLg.below {P : Nat → Prop} {w w' : World} {A : Option Addr} {n : Nat} {ls : List (List En)} (h : RLg P w A n ls) (hb : Below w.heap.size w w') : RLg P w' A n ls := ⟨h.1, fun hn => by
  obtain ⟨b, off, h1, h2, h3⟩ := h.2 hn
  refine ⟨b, off, h1, Nat.lt_of_lt_of_le h2 hb.size, fun i es hi => ?_⟩
  obtain ⟨B, m, c, h4, h5, h6⟩ := h3 i es hi
  exact ⟨B, m, c, (hb.cell (p := ⟨b, off + i, none⟩) h2).trans h4, h5.below hb, h6⟩⟩
theorem RLg.at_ {P : Nat → Prop} {w : World} {b off n : Nat} {ls : List (List En)} (h : RLg P w (some ⟨b, off, none⟩) n ls) (k : Nat) (hk : k < n) : ∃ es B m c, ls[k]? = some es ∧ w.cell? ⟨b, off + k, none⟩ = some (.slice B m c) ∧ RG P w B m es ∧ m ≤ c := by
  obtain ⟨b', off', h1, _, h3⟩ := h.2 (by omega)
  have hl : k < ls.length := by have := h.1; omega
  injection h1 with h1
  injection h1 with h1 h2
  subst h1 h2
  obtain ⟨B, m, c, h4, h5, h6⟩ := h3 k _ (List.getElem?_eq_getElem hl)
  exact ⟨_, B, m, c, List.getElem?_eq_getElem hl, h4, h5, h6⟩
/-- Lists that can be read; the bytes are old, the row is new. -/
def RetEg (P : Nat → Prop) (w : World) (es : List En) (e : Ending) (w' : World) : Prop := ∃ L k d, e = .returned (.slice L k d) ∧ PkG P w es L k w' ∧ k ≤ d ∧ Below w.heap.size w w'
theorem RetEg.out {P : Nat → Prop} {w w' : World} {es : List En} {e : Ending} (h : RetEg P w es e w') : ∃ L k d, e = .returned (.slice L k d) ∧ PkG P w es L k w' ∧ k ≤ d ∧ Below w.heap.size w w' := h
end Go.Proofs.Ytmpdenpopokigaa
namespace Go.Proofs.Ytmpdenpopokigaa
open Go Go.RowKit Go.Shelf
attribute [local go_sem] Oper.semAt_some

/-- A place in a list, with what stands there. -/
abbrev Pl (os : List Ob) := { x : Nat × Ob // os[x.1]? = some x.2 }
/-- The last k places, the last one first. -/
def Bw (os : List Ob) (k : Nat) (ys : List (Pl os)) : Prop := ys.length = k ∧ ∀ (j : Nat) x, ys[j]? = some x → x.1.1 + j + 1 = os.length
theorem Bw.zero (os : List Ob) : Bw os 0 [] := ⟨rfl, fun j x h => by simp at h⟩
theorem Bw.succ {os : List Ob} {k : Nat} {ys : List (Pl os)} (h : Bw os k ys) (x : Pl os) (hx : x.1.1 + k + 1 = os.length) : Bw os (k + 1) (ys ++ [x]) := by
  refine ⟨by simp [h.1], fun j y hy => ?_⟩
  by_cases hj : j < k
  · rw [List.getElem?_append_left (by rw [h.1]; exact hj)] at hy
    exact h.2 j y hy
  · have hl := (List.getElem?_eq_some_iff.1 hy).1
    simp [h.1] at hl
    obtain rfl : j = k := by omega
    rw [List.getElem?_append_right (by rw [h.1]; exact Nat.le_refl _), h.1] at hy
    simp at hy
    subst hy
    exact hx
set_option maxRecDepth 100000 in
set_option maxHeartbeats 4000000 in
theorem bwd_in (F : Fence) (hF : F = Fence.wide) (fu : Nat) (hfu : 1 ≤ fu) (l bx n0 : Nat) (A : Option Addr) (n c : Nat) (os : List Ob) (hn : n ≤ 1099511627776) (J Jx : List (Pl os) → World → Prop)
    (hY : ∀ pre x W, J pre W → pre.length < n → YieldAt F (fu - 1) Try.prog l #[.int .i64 (x.1.1 : Int), .pointer (some ⟨x.1.2.b, 0, none⟩)] W fun e W' =>
      (e = .returned (.bool true) ∧ J (pre ++ [x]) W' ∧ Below n0 W W') ∨ (e = .returned (.bool false) ∧ Jx (pre ++ [x]) W'))
    (W : World) (h1 : W.cell? ⟨bx, 0, none⟩ = some (.slice A n c)) (hb : bx < n0) (hA : ∀ b, blk A = some b → b < n0) (hr : RdV W A n (os.map obP)) (h0 : J [] W) :
    CallsIn F fu Try.prog 207 #[.func (.yield l) #[] #[], .pointer (some ⟨bx, 0, none⟩)] W fun e W' => (∃ v, e = .returned v) ∧
      ((∃ ys, Bw os n ys ∧ J ys W') ∨ (∃ pre, (∃ k, k ≤ n ∧ Bw os k pre) ∧ Jx pre W')) := by
  subst hF
  have hl : os.length = n := by have := hr.len; simpa using this
  have HL := Lib.hid hl
  have HR := Lib.hid hr
  have HC : Hid (∀ wr, Below n0 W wr → wr.cell? ⟨bx, 0, none⟩ = some (.slice A n c)) := Lib.hid (fun wr hw => (hw.cell (p := ⟨bx, 0, none⟩) hb).trans h1)
  have HA := Lib.hid hA
  refine callsIn_of_wp Try.func207 rfl trivial ?_ rfl
  simp only [Try.ntmps207, List.size_toArray, List.length_cons, List.length_nil, Nat.reduceAdd, Nat.reduceSub, Array.replicate_succ, Array.replicate_zero, List.push_toArray, List.append_toArray, List.nil_append, List.cons_append]
  have e1 : IntKind.i64.wrap ((n : Int) - 1) = (n : Int) - 1 := IntWalk.i64_in _ (by omega)
  clear hr hl hA
  gi_wp2
  gi_loopw [3] (fun s3 wr => ∃ k : Nat, k ≤ n ∧ s3 = .int .i64 ((n : Int) - 1 - (k : Int)) ∧ (∃ pre, Bw os k pre ∧ J pre wr) ∧ Below n0 W wr) (fun s _ => (intOf s + 1).toNat)
  case atStart => exact ⟨0, Nat.zero_le _, by simp, ⟨[], Bw.zero _, h0⟩, Below.refl _ _⟩
  case round =>
    obtain ⟨k, hk, rfl, ⟨pre, hbw, hJ⟩, hst⟩ := hrel
    have HB := Lib.hid hst
    have HBW := Lib.hid hbw
    by_cases hlt : k < n
    · obtain ⟨m, hm⟩ : ∃ m : Nat, m + k + 1 = n := ⟨n - 1 - k, by omega⟩
      have ez : (n : Int) - 1 - (k : Int) = (m : Int) := by omega
      rw [ez]
      have hR : RdV wr A n (os.map obP) := ⟨HR.out.1, fun hp => by
        obtain ⟨b, off, e, hb1, hc⟩ := HR.out.2 hp
        refine ⟨b, off, e, Nat.lt_of_lt_of_le hb1 hst.size, fun i x hx => (hst.cell (p := ⟨b, off + i, none⟩) (HA.out b (by rw [e]; rfl))).trans (hc i x hx)⟩⟩
      obtain ⟨b, off, hAb, hbl⟩ := hR.pos (by omega)
      subst hAb
      obtain ⟨v, hv, c0⟩ := hR.at_ m (by omega)
      obtain ⟨o, ho⟩ : ∃ o, os[m]? = some o := ⟨_, List.getElem?_eq_getElem (by rw [HL.out]; omega)⟩
      obtain rfl : v = obP o := by rw [List.getElem?_map, ho] at hv; injection hv with hv; exact hv.symm
      unfold obP at c0
      have cb := HC.out wr hst
      obtain ⟨fn, tmps, assign, body, hy, hRy⟩ := hY pre ⟨(m, o), ho⟩ wr hJ (by rw [hbw.1]; exact hlt)
      have HBS : Hid (Bw os (k + 1) (pre ++ [⟨(m, o), ho⟩])) := Lib.hid (hbw.succ ⟨(m, o), ho⟩ (by rw [HL.out]; omega))
      have e2 : IntKind.i64.wrap ((m : Int) - 1) = (m : Int) - 1 := IntWalk.i64_in _ (by omega)
      have hmn : m < n := by omega
      obtain ⟨ob, hob⟩ : ∃ ob, ob = o.b := ⟨_, rfl⟩
      simp only [← hob] at c0 hRy
      clear hst hbw hv hR ez
      gi_wp2
      refine hRy.mono ?_
      rintro e W3 (⟨rfl, hJ3, hk3⟩ | ⟨rfl, hJx3⟩)
      · gi_wp2
        go_roundw
        case rel => exact ⟨k + 1, by omega, by (congr 1 <;> omega), ⟨_, HBS.out, hJ3⟩, HB.out.trans hk3⟩
        case measure => simp [intOf] <;> omega
      · gi_wp2
        refine bodyPost_ret (results_none rfl _ _ _) rfl ?_
        exact ⟨⟨_, rfl⟩, .inr ⟨_, ⟨k + 1, by omega, HBS.out⟩, hJx3⟩⟩
    · obtain rfl : k = n := by omega
      have ez : (k : Int) - 1 - (k : Int) = -1 := by omega
      rw [ez]
      gi_wp2
      go_end0
      exact ⟨⟨_, rfl⟩, .inl ⟨_, HBW.out, hJ⟩⟩
/-- The iterator's value. -/
theorem bwd_stops (fu : Nat) (hfu : 1 ≤ fu) (bx n0 : Nat) (A : Option Addr) (n c : Nat) (os : List Ob) (hn : n ≤ 1099511627776) (w : World) (h1 : w.cell? ⟨bx, 0, none⟩ = some (.slice A n c)) (hb : bx < n0) (hA : ∀ b, blk A = some b → b < n0) (hr : RdV w A n (os.map obP)) :
    SeqStopsK Fence.wide fu Try.prog 207 #[.pointer (some ⟨bx, 0, none⟩)] (fun x : Pl os => #[Value.int .i64 (x.1.1 : Int), .pointer (some ⟨x.1.2.b, 0, none⟩)]) (Below n0) (fun ys => Bw os n ys) (fun pre => ∃ k, k ≤ n ∧ Bw os k pre) n w := fun l J Jx W hW _ _ hY h0 => by
  refine (bwd_in Fence.wide rfl fu hfu l bx n0 A n c os hn J Jx hY W ((hW.cell (p := ⟨bx, 0, none⟩) (cell_lt h1)).trans h1) hb hA (hr.below hW) h0).mono ?_
  rintro e W' ⟨he, ⟨ys, hy, hj⟩ | ⟨pre, hp, hx⟩⟩
  · exact ⟨he, .inl ⟨_, hy, hj⟩⟩
  · exact ⟨he, .inr ⟨_, hp, hx⟩⟩
set_option maxRecDepth 100000 in
set_option maxHeartbeats 4000000 in
theorem backward_any (A : Option Addr) (n c : Nat) (w : World) : Calls Try.prog 189 #[.slice A n c] w fun e w' => e = .returned (.func (.func 207) #[] #[.pointer (some ⟨w.heap.size, 0, none⟩)]) ∧ w' = w.alloc (.cells #[.slice A n c] 89) := by
  go_enter Try.func189, Try.ntmps189
  go_wp2_with fail
  go_ret
  exact ⟨rfl, rfl⟩
end Go.Proofs.Ytmpdenpopokigaa
namespace Go.Proofs.Ytmpdenpopokigaa
open Go Go.RowKit

end Go.Proofs.Ytmpdenpopokigaa
namespace Go.Proofs.Ytmpdenpopokigaa
open Go Go.RowKit Go.Shelf
attribute [local go_sem] Oper.semAt_some

/-- Who waits for the one. -/
def stepB (a b : Ob) : Bool := wfO b a
/-- 'It waits in a circle with the newest one.' -/
def Both (os : List Ob) (f o : Ob) : Prop := Rch stepB os f o ∧ Rch wfO os f o
def VicP (os : List Ob) (f : Ob) : Option Ob → Prop
  | none => ∀ o ∈ os, ¬ Both os f o
  | some o => ∃ i : Nat, os[i]? = some o ∧ Both os f o ∧ ∀ (j : Nat) u, i < j → os[j]? = some u → ¬ Both os f u
def RetVic (w : World) (os : List Ob) (f : Ob) (e : Ending) (w' : World) : Prop := ∃ v, e = .returned (ptO v) ∧ VicP os f v ∧ Below w.heap.size w w'
theorem RetVic.out {w : World} {os : List Ob} {f : Ob} {e : Ending} {w' : World} (h : RetVic w os f e w') : ∃ v, e = .returned (ptO v) ∧ VicP os f v ∧ Below w.heap.size w w' := h
section
variable {w : World} {bs p : Nat} {OA : Option Addr} {oc turns : Nat} {os : List Ob} {f a b : Ob}
set_option maxRecDepth 100000 in
set_option maxHeartbeats 4000000 in
theorem victim1_any (ha : ObAt w bs a) (hb : ObAt w bs b) (sa : ObSz a) (sb : ObSz b) : Calls Try.prog 187 #[.pointer (some ⟨a.b, 0, none⟩), .pointer (some ⟨b.b, 0, none⟩)] w (RetT w (stepB a b)) := by
  have HC := Lib.hid (waitsFor_any hb ha sb sa)
  obtain ⟨z, hz⟩ : ∃ z, z = wfO b a := ⟨_, rfl⟩
  have HZ : Hid (stepB a b = z) := Lib.hid hz.symm
  rw [← hz] at HC
  obtain ⟨x, hx⟩ : ∃ x, x = a.b := ⟨_, rfl⟩
  obtain ⟨y, hy⟩ : ∃ y, y = b.b := ⟨_, rfl⟩
  rw [← hx, ← hy] at HC ⊢
  clear ha hb sa sb hz hx hy
  go_enter Try.func187, Try.ntmps187
  go_wp2_with fail
  with_reducible refine HC.out.mono ?_
  intro e w2 hq
  obtain ⟨h1, b2⟩ := RetT.outD hq
  subst h1
  have HB := Lib.hid b2
  clear hq b2
  go_wp2_with fail
  go_ret
  exact ⟨by rw [HZ.out]; rfl, HB.out⟩
set_option maxRecDepth 100000 in
set_option maxHeartbeats 4000000 in
theorem victim2_any (ha : ObAt w bs a) (hb : ObAt w bs b) (sa : ObSz a) (sb : ObSz b) : Calls Try.prog 188 #[.pointer (some ⟨a.b, 0, none⟩), .pointer (some ⟨b.b, 0, none⟩)] w (RetT w (wfO a b)) := by
  have HC := Lib.hid (waitsFor_any ha hb sa sb)
  obtain ⟨z, hz⟩ : ∃ z, z = wfO a b := ⟨_, rfl⟩
  rw [← hz] at HC ⊢
  obtain ⟨x, hx⟩ : ∃ x, x = a.b := ⟨_, rfl⟩
  obtain ⟨y, hy⟩ : ∃ y, y = b.b := ⟨_, rfl⟩
  rw [← hx, ← hy] at HC ⊢
  clear ha hb sa sb hz hx hy
  go_enter Try.func188, Try.ntmps188
  go_wp2_with fail
  with_reducible refine HC.out.mono ?_
  intro e w2 hq
  obtain ⟨h1, b2⟩ := RetT.outD hq
  subst h1
  have HB := Lib.hid b2
  clear hq b2
  go_wp2_with fail
  go_ret
  exact ⟨rfl, HB.out⟩
theorem any_b {l : List Ob} (hd : os.Pairwise ApO) (hs : ∀ x ∈ l, x ∈ os) {o : Ob} (ho : o ∈ os) : ((l.any fun u => decide (o.b = u.b)) = true) ↔ o ∈ l := by
  rw [List.any_eq_true]
  constructor
  · rintro ⟨u, hu, he⟩
    have := pw_inj hd ho (hs u hu) (by simpa using he)
    rw [this]; exact hu
  · intro h
    exact ⟨o, h, by simp⟩
theorem keeps_of_below {W W' : World} (h : Below W.heap.size W W') : KeepsOthers W W' := ⟨h.size, fun k _ hk _ => (h.block k (Array.getElem?_eq_some_iff.1 hk).1).trans hk⟩
set_option maxRecDepth 100000 in
set_option maxHeartbeats 16000000 in
theorem victim_any (h : TkAt w bs p OA oc turns os) (hn : os.length ≤ 1099511627776) (hf : ObAt w bs f) (sf : ObSz f) (su : ∀ u ∈ os, ObSz u) : Calls Try.prog 150 #[.pointer (some ⟨p, 0, none⟩), .pointer (some ⟨f.b, 0, none⟩)] w (RetVic w os f) := by
  obtain ⟨W, hW⟩ : ∃ W, W = w.alloc (.cells #[.pointer none] 157) := ⟨_, rfl⟩
  have bW : Below w.heap.size w W := by rw [hW]; exact (Below.refl _ _).alloc (Nat.le_refl _) _
  have z0 : Cl W w.heap.size #[.pointer none] 157 := by rw [hW]; exact Cl.new _ _ _
  have sW : W.heap.size = w.heap.size + 1 := by rw [hW]; simp
  have HR1 : Hid (Calls Try.prog 186 #[.pointer (some ⟨p, 0, none⟩), .pointer (some ⟨f.b, 0, none⟩), .func (.func 187) #[] #[]] W (RetRch stepB os f bs W)) := Lib.hid (reach_any 187 stepB (fun _ _ => rfl) (h.below bW) hn (hf.below bW) (fun wx hb a b ha hbo => victim1_any (by rcases ha with rfl | ha; exact (hf.below bW).below hb; exact ((h.obs a ha).below bW).below hb) (((h.obs b hbo).below bW).below hb) (by rcases ha with rfl | ha; exact sf; exact su a ha) (su b hbo)))
  have HR2 : Hid (∀ wx, Below w.heap.size w wx → Calls Try.prog 186 #[.pointer (some ⟨p, 0, none⟩), .pointer (some ⟨f.b, 0, none⟩), .func (.func 188) #[] #[]] wx (RetRch wfO os f bs wx)) := Lib.hid (fun wx hwx => reach_any 188 wfO (fun _ _ => rfl) (h.below hwx) hn (hf.below hwx) (fun wy hb a b ha hbo => victim2_any (by rcases ha with rfl | ha; exact (hf.below hwx).below hb; exact ((h.obs a ha).below hwx).below hb) (((h.obs b hbo).below hwx).below hb) (by rcases ha with rfl | ha; exact sf; exact su a ha) (su b hbo)))
  have HT := Lib.hid h
  have HW := Lib.hid hW
  have HBW := Lib.hid bW
  have HSW := Lib.hid sW
  obtain ⟨n, hn2⟩ : ∃ n, n = os.length := ⟨_, rfl⟩
  have HK : Hid (∀ wx, Below w.heap.size w wx → wx.cell? ⟨p, 0, none⟩ = some (.slice OA n oc)) := Lib.hid (fun wx hwx => by rw [hn2]; exact (h.below hwx).k0)
  have HN := Lib.hid hn2
  obtain ⟨fb, hfb⟩ : ∃ fb, fb = f.b := ⟨_, rfl⟩
  rw [← hfb] at HR1 HR2 ⊢
  rw [← hn2] at hn
  have z0' := z0.cell 0
  clear h hf sf su hW bW sW hn2 hfb
  refine (callsIn_wide (n := 5)).1 ?_
  refine callsIn_of_wp_marks Try.func150 rfl trivial ?_ rfl
  simp only [Try.ntmps150, List.size_toArray, List.length_cons, List.length_nil, Nat.reduceAdd, Nat.reduceSub, Array.replicate_succ, Array.replicate_zero, List.push_toArray, List.append_toArray, List.nil_append, List.cons_append]
  gi_wp2_with (first
    | (refine ⟨trivial, ?_⟩; gi_at_call 186; rw [← HW.out]; refine (callsIn_wide.2 HR1.out).mono ?_; intro e w1 hq1; obtain ⟨L1, n1, c1, out1, he1, hrob1, hn1, hch1, hin1, hb1⟩ := hq1.out; subst he1; have HQ1 := Lib.hid (And.intro hrob1 (And.intro hn1 (And.intro hch1 (And.intro hin1 hb1)))); clear hq1 hrob1 hn1 hch1 hin1 hb1)
    | (refine ⟨trivial, ?_⟩; gi_at_call 186; have HB1 := Lib.hid (belowT' (belowT' HBW.out HQ1.out.2.2.2.2) ((Below.refl _ _).alloc (Nat.le_refl _) (.cells #[.slice L1 n1 c1] 89))); refine (callsIn_wide.2 (HR2.out _ HB1.out)).mono ?_; intro e w4 hq4; obtain ⟨L2, n2, c2, out2, he2, hrob2, hn4, hch2, hin2, hb2⟩ := hq4.out; subst he2; have k0 := HK.out _ (belowT' (belowT' HB1.out hb2) ((Below.refl _ _).alloc (Nat.le_refl _) (.cells #[.slice L2 n2 c2] 89))); have HQ2 := Lib.hid (And.intro hrob2 (And.intro hn4 (And.intro hch2 (And.intro hin2 hb2)))); clear hq4 hrob2 hn4 hch2 hin2 hb2)
    | (refine ⟨trivial, ?_⟩; gi_at_call 189; refine (callsIn_wide.2 (backward_any OA n oc _)).mono ?_; rintro e w6 ⟨rfl, rfl⟩))
  obtain ⟨q1, q2, q3, q4, q5⟩ := HQ1.out
  obtain ⟨r1, r2, r3, r4, r5⟩ := HQ2.out
  obtain ⟨W6, hW6⟩ : ∃ W6, W6 = (w4.alloc (.cells #[.slice L2 n2 c2] 89)).alloc (.cells #[.slice OA n oc] 89) := ⟨_, rfl⟩
  have b46 : Below w4.heap.size w4 W6 := by rw [hW6]; exact ((Below.refl _ _).alloc (Nat.le_refl _) _).alloc (by simp) _
  have b1v : Below w1.heap.size w1 (w1.alloc (.cells #[.slice L1 n1 c1] 89)) := (Below.refl _ _).alloc (Nat.le_refl _) _
  have b16 : Below w1.heap.size w1 W6 := (belowT' b1v r5).trans (b46.mono (by have := b1v.size; have := r5.size; omega))
  have z0' := z0
  have y4 : Cl W6 w.heap.size #[.pointer none] 157 := (z0.below q5).below b16
  have y5 : Cl W6 w1.heap.size #[.slice L1 n1 c1] 89 := ((Cl.new w1 _ _).below r5).below b46
  have y6 : Cl W6 w4.heap.size #[.slice L2 n2 c2] 89 := by rw [hW6]; exact (Cl.new w4 _ _).alloc _
  have y7 : Cl W6 (w4.heap.size + 1) #[.slice OA n oc] 89 := by rw [hW6]; exact Cl.newg _ _ _ _ (by simp)
  have b6 : Below w.heap.size w W6 := belowT' (belowT' HBW.out q5) b16
  have s1 := q5.size
  have s2 := r5.size
  have s3 := b46.size
  have s4 := HSW.out
  have s5 := b1v.size
  have s6 : w.heap.size < W6.heap.size := y4.lt
  have rob1 : ROb W6 bs L1 n1 out1 := q1.below b16
  have rob2 : ROb W6 bs L2 n2 out2 := r1.below b46
  have HT6 := Lib.hid (HT.out.below b6)
  have HR61 := Lib.hid rob1
  have HR62 := Lib.hid rob2
  have HY4 := Lib.hid y4
  have HY5 := Lib.hid y5
  have HY6 := Lib.hid y6
  have HB6 := Lib.hid b6
  have HB1' : Hid (∀ o ∈ os, ((out1.any fun u => decide (o.b = u.b)) = true ↔ Rch stepB os f o)) := Lib.hid (fun o ho => (any_b HT.out.dis q4 ho).trans (q3 o))
  have HB2' : Hid (∀ o ∈ os, ((out2.any fun u => decide (o.b = u.b)) = true ↔ Rch wfO os f o)) := Lib.hid (fun o ho => (any_b HT.out.dis r4 ho).trans (r3 o))
  have hn1 : n1 ≤ 1099511627776 := by rw [HN.out] at hn; omega
  have hn2 : n2 ≤ 1099511627776 := by rw [HN.out] at hn; omega
  have cOA : ∀ b, blk OA = some b → b < W6.heap.size := fun b hb => (OwnV.lt HT6.out.row b hb).2
  have rOA : RdV W6 OA n (os.map obP) := by rw [HN.out]; exact HT6.out.row.rd
  rw [← hW6]
  refine wpIn_rangeFunc_ownF rfl (by omega) (gf := 207) (lb := #[.pointer (some ⟨w4.heap.size + 1, 0, none⟩)]) rfl trivial (enters_of Try.func207 (by kernel_rfl) rfl)
    (bwd_stops (5 - 1) (by omega) (w4.heap.size + 1) W6.heap.size OA n oc os hn W6 (y7.cell 0) y7.lt cOA rOA) (fun h k => Below.trans h k) (belowK_b (Nat.le_refl _)) (Below.refl _ _) (fun _ => rfl)
    (fun pre V => (∀ x ∈ pre, ¬ Both os f x.1.2) ∧ Below W6.heap.size W6 V)
    (fun cd pre V => (cd = .ret ∧ (∃ o, (∃ pre' x, pre = pre' ++ [x] ∧ x.1.2 = o ∧ ∀ y ∈ pre', ¬ Both os f y.1.2) ∧ Both os f o ∧ Cl V w.heap.size #[.pointer (some ⟨o.b, 0, none⟩)] 157)) ∧ Below w.heap.size w V)
    (OwnFrom.and (Go.Own.from (fun s A B row hs hg hr => hs) _) (ownFrom_below (Nat.le_refl _) (Nat.le_refl _)))
    (fun cd => OwnFrom.and (Go.Own.from (fun s A B row hs hg hr => by
      obtain ⟨h1, o, h2, h3, h4⟩ := hs
      exact ⟨h1, o, h2, h3, (grownBy_keeps_cells hg hr h4 rfl).trans h4⟩) _) (ownFrom_below (Nat.le_refl _) (by omega)))
    ⟨by simp, Below.refl _ _⟩
    (fun y => { tmps := #[.pointer (some ⟨p, 0, none⟩), .pointer (some ⟨fb, 0, none⟩), undef, undef, .pointer (some ⟨w.heap.size, 0, none⟩), .pointer (some ⟨w1.heap.size, 0, none⟩), .pointer (some ⟨w4.heap.size, 0, none⟩), undef, .pointer (some ⟨y.1.2.b, 0, none⟩), .pointer (some ⟨p, 0, none⟩), .pointer (some ⟨fb, 0, none⟩), .slice L1 n1 c1, .pointer (some ⟨p, 0, none⟩), .pointer (some ⟨fb, 0, none⟩), .slice L2 n2 c2, .pointer (some ⟨p, 0, none⟩), .pointer (some ⟨p, 0, none⟩), .pointer (some ⟨p, 0, none⟩), .slice OA n oc,
      .func (.func 207) #[] #[.pointer (some ⟨w4.heap.size + 1, 0, none⟩)], .int .i64 (y.1.1 : Int), .pointer (some ⟨y.1.2.b, 0, none⟩), undef, undef, undef, undef, undef, undef, undef, undef, undef], defers := [] }) ?assign ?body ?done ?stop
  case assign =>
    intro l y V K hK
    gi_wp2
    exact hK
  case body =>
    rintro l pre y V ⟨hp, hB⟩ _
    obtain ⟨⟨i, o⟩, hy⟩ := y
    have ho : o ∈ os := List.mem_of_getElem? hy
    have HBV := Lib.hid hB
    have HP := Lib.hid hp
    have hoV : ObAt V bs o := (HT6.out.obs o ho).below hB
    obtain ⟨z1, hz1⟩ : ∃ z1, z1 = (out1.any fun u => decide (o.b = u.b)) := ⟨_, rfl⟩
    obtain ⟨z2, hz2⟩ : ∃ z2, z2 = (out2.any fun u => decide (o.b = u.b)) := ⟨_, rfl⟩
    have e1 := HB1'.out o ho
    have e2 := HB2'.out o ho
    rw [← hz1] at e1
    rw [← hz2] at e2
    have HE1 := Lib.hid e1
    have HE2 := Lib.hid e2
    have HC1 : Hid (Calls Try.prog 190 #[.slice L1 n1 c1, .pointer (some ⟨o.b, 0, none⟩)] V (RetT V z1)) := Lib.hid (by rw [hz1]; exact containsP_any (HR61.out.below hB) hn1 hoV)
    have HC2 : Hid (∀ V2, Below V.heap.size V V2 → Calls Try.prog 190 #[.slice L2 n2 c2, .pointer (some ⟨o.b, 0, none⟩)] V2 (RetT V2 z2)) := Lib.hid (fun V2 h2 => by rw [hz2]; exact containsP_any (HR62.out.below (belowT' hB h2)) hn2 (hoV.below h2))
    have k5 : V.cell? ⟨w1.heap.size, 0, none⟩ = some (.slice L1 n1 c1) := (HY5.out.below hB).cell 0
    have HK6 : Hid (∀ V2, Below V.heap.size V V2 → V2.cell? ⟨w4.heap.size, 0, none⟩ = some (.slice L2 n2 c2)) := Lib.hid (fun V2 h2 => (HY6.out.below (belowT' hB h2)).cell 0)
    have HK4 : Hid (∀ V2, Below V.heap.size V V2 → Cl V2 w.heap.size #[.pointer none] 157) := Lib.hid (fun V2 h2 => HY4.out.below (belowT' hB h2))
    have HNO : Hid ((z1 && z2) = false → ∀ x ∈ pre ++ [⟨(i, o), hy⟩], ¬ Both os f x.1.2) := Lib.hid (fun hz x hx => by
      rcases List.mem_append.1 hx with hx | hx
      · exact HP.out x hx
      · obtain rfl := List.mem_singleton.1 hx
        intro hb
        have a1 := HE1.out.2 hb.1
        have a2 := HE2.out.2 hb.2
        rw [a1, a2] at hz
        cases hz)
    have HFIN : Hid (∀ V2, Below V.heap.size V V2 → (z1 && z2) = false → KeepsOthers V V2 ∧ Below W6.heap.size V V2 ∧ (∀ x ∈ pre ++ [⟨(i, o), hy⟩], ¬ Both os f x.1.2) ∧ Below W6.heap.size W6 V2) := Lib.hid (fun V2 h2 hz => ⟨keeps_of_below h2, h2.mono hB.size, HNO.out hz, belowT' hB h2⟩)
    have HYES : Hid (∀ V2, Below V.heap.size V V2 → z1 = true → z2 = true → KeepsOthers V (V2.setCell ⟨w.heap.size, 0, none⟩ (.pointer (some ⟨o.b, 0, none⟩))) ∧ (Code.ret = Code.ret ∧ (∃ o', (∃ pre' x, pre ++ [⟨(i, o), hy⟩] = pre' ++ [x] ∧ x.1.2 = o' ∧ ∀ y ∈ pre', ¬ Both os f y.1.2) ∧ Both os f o' ∧ Cl (V2.setCell ⟨w.heap.size, 0, none⟩ (.pointer (some ⟨o.b, 0, none⟩))) w.heap.size #[.pointer (some ⟨o'.b, 0, none⟩)] 157)) ∧ Below w.heap.size w (V2.setCell ⟨w.heap.size, 0, none⟩ (.pointer (some ⟨o.b, 0, none⟩)))) := Lib.hid (fun V2 h2 t1 t2 => ⟨(keeps_of_below h2).trans (KeepsOthers.setCell _ _ _), ⟨rfl, o, ⟨pre, ⟨(i, o), hy⟩, rfl, rfl, HP.out⟩, ⟨HE1.out.1 t1, HE2.out.1 t2⟩, (HK4.out V2 h2).set 0 _⟩, (belowT' (belowT' HB6.out hB) h2).setCell (by simp) _⟩)
    have c4 := (HK4.out V (Below.refl _ _)).c1
    obtain ⟨ob, hob⟩ : ∃ ob, ob = o.b := ⟨_, rfl⟩
    simp only [← hob] at HC1 HC2 HYES ⊢
    clear hp hB hoV hz1 hz2 e1 e2 hob c4
    have hdep : 1 ≤ 5 - 1 - 1 := by omega
    cases z1 with
    | false =>
      gi_wp2_with (first
        | (refine ⟨trivial, ?_⟩; gi_at_call 190; refine (CallsIn.inRound l (callsIn_wide.2 HC1.out)).mono ?_; intro e V2 hq; obtain ⟨hh1, hh2⟩ := RetT.outD hq; subst hh1; have HV2 := Lib.hid hh2; clear hq hh2)
        | (refine ⟨trivial, ?_⟩))
      exact HFIN.out V2 HV2.out rfl
    | true =>
      cases z2 with
      | false =>
        gi_wp2_with (first
          | (refine ⟨trivial, ?_⟩; gi_at_call 190; refine (CallsIn.inRound l (callsIn_wide.2 HC1.out)).mono ?_; intro e V2 hq; obtain ⟨hh1, hh2⟩ := RetT.outD hq; subst hh1; have k6 := HK6.out V2 hh2; have HC3 := Lib.hid (HC2.out V2 hh2); have HV2 := Lib.hid hh2; clear hq hh2)
          | (refine ⟨trivial, ?_⟩; gi_at_call 190; refine (CallsIn.inRound l (callsIn_wide.2 HC3.out)).mono ?_; intro e V3 hq; obtain ⟨hh1, hh2⟩ := RetT.outD hq; subst hh1; have HV3 := Lib.hid (belowT' HV2.out hh2); clear hq hh2))
        exact HFIN.out V3 HV3.out rfl
      | true =>
        gi_wp2_with (first
          | (refine ⟨trivial, ?_⟩; gi_at_call 190; refine (CallsIn.inRound l (callsIn_wide.2 HC1.out)).mono ?_; intro e V2 hq; obtain ⟨hh1, hh2⟩ := RetT.outD hq; subst hh1; have k6 := HK6.out V2 hh2; have HC3 := Lib.hid (HC2.out V2 hh2); have HV2 := Lib.hid hh2; clear hq hh2)
          | (refine ⟨trivial, ?_⟩; gi_at_call 190; refine (CallsIn.inRound l (callsIn_wide.2 HC3.out)).mono ?_; intro e V3 hq; obtain ⟨hh1, hh2⟩ := RetT.outD hq; subst hh1; have HV3 := Lib.hid (belowT' HV2.out hh2); obtain ⟨x4, f4⟩ := (HK4.out V3 HV3.out).c1; clear hq hh2))
        obtain ⟨u1, ⟨_, u2⟩, u3⟩ := HYES.out V3 HV3.out (by trivial) (by trivial)
        exact ⟨u1, ⟨rfl, u2⟩, u3⟩
  case done =>
    rintro D ys V hD hys ⟨hall, hB⟩ hK
    have z4 := HY4.out.below hB
    obtain ⟨x1, x2⟩ := z4.c1
    gi_wp2
    have hK' := (KeepsOthers.setCell V ⟨w.heap.size, 0, none⟩ (.pointer none)).same D _ hK rfl
    refine ⟨by simp, .inl ⟨_, _, rfl, run_takeDeferred hK', ?_⟩⟩
    have hc4 := cell_kept ((z4.set 0 (.pointer none)).cell 0) (grownBy_putObj' _ D (.deferred none)) (fun r e => by cases e; exact ⟨_, hK', rfl⟩)
    refine ⟨.pointer none, ?_, none, rfl, ?_, ((HB6.out.trans (hB.mono (by omega))).setCell (by simp) _).trans (belowK_b (w := w) (Nat.le_refl _) _ D _ _ (by omega) hK' rfl rfl)⟩
    · simp [results, Try.f150, go_sem, hc4]
    · intro o ho
      obtain ⟨i, hi, e⟩ := List.mem_iff_getElem.1 ho
      obtain ⟨x, hx⟩ : ∃ x, ys[os.length - 1 - i]? = some x := ⟨_, List.getElem?_eq_getElem (by rw [hys.1, HN.out]; omega)⟩
      have h1 := hys.2 _ x hx
      have h2 := x.2
      have h3 : x.1.1 = i := by omega
      rw [h3, List.getElem?_eq_getElem hi, e] at h2
      injection h2 with h2
      rw [h2]
      exact hall x (List.mem_of_getElem? hx)
  case stop =>
    rintro D cd pre V hD hpre ⟨⟨rfl, o, h2, h3, h4⟩, hB⟩ hK
    obtain ⟨x1, x2⟩ := h4.c1
    gi_wp2
    refine ⟨by simp, .inl ⟨_, _, rfl, run_takeDeferred hK, ?_⟩⟩
    have hc4 := cell_kept x1 (grownBy_putObj' _ D (.deferred none)) (fun r e => by cases e; exact ⟨_, hK, rfl⟩)
    refine ⟨.pointer (some ⟨o.b, 0, none⟩), ?_, some o, rfl, ?_, hB.trans (belowK_b (w := w) (Nat.le_refl _) V D _ _ (by omega) hK rfl rfl)⟩
    · simp [results, Try.f150, go_sem, hc4]
    · obtain ⟨pre', x, he, hxo, hno⟩ := h2
      obtain ⟨k, hk, hbw⟩ := hpre
      subst he
      have hl := hbw.1
      simp at hl
      have h5 := hbw.2 pre'.length x (by simp)
      have h6 := x.2
      rw [hxo] at h6
      refine ⟨x.1.1, h6, h3, fun j u hj hu => ?_⟩
      have hjl := (List.getElem?_eq_some_iff.1 hu).1
      obtain ⟨y, hy⟩ : ∃ y, pre'[os.length - 1 - j]? = some y := ⟨_, List.getElem?_eq_getElem (by omega)⟩
      have h7 := hbw.2 (os.length - 1 - j) y (by rw [List.getElem?_append_left (by omega)]; exact hy)
      have h8 := y.2
      have h9 : y.1.1 = j := by omega
      rw [h9, hu] at h8
      injection h8 with h8
      rw [h8]
      exact hno y (List.mem_of_getElem? hy)
end
end Go.Proofs.Ytmpdenpopokigaa
namespace Go.Proofs.Ytmpdenpopokigaa
open Go Go.RowKit

section
variable {G : Nat → Prop} {w w' : World}
end
theorem EF.drop {es : List En} {us : List Value} (h : EF es us) (i : Nat) : EF (es.drop i) (us.drop (i * 4)) := fun j x hx => by
  rw [List.getElem?_drop] at hx
  obtain ⟨h1, h2⟩ := h (i + j) x hx
  rw [List.getElem?_drop, List.getElem?_drop]
  exact ⟨by rw [← h1]; congr 1; omega, by rw [← h2]; congr 1; omega⟩
end Go.Proofs.Ytmpdenpopokigaa
namespace Go.Proofs.Ytmpdenpopokigaa
open Go Go.RowKit

/-- Those that wait in a circle with the one of this block give way, one by one. -/
inductive Broke (fb : Nat) (os0 : List Ob) : List (Nat × Nat) → List Ob → Prop
  | start : Broke fb os0 [] os0
  | step {out : List (Nat × Nat)} {os : List Ob} {f v : Ob} : Broke fb os0 out os → f ∈ os → f.b = fb → VicP os f (some v) → Broke fb os0 (out ++ [nmO v]) (updO os (giveO v))
def wcount (os : List Ob) : Nat := (os.filter fun o => decide (0 < o.turn)).length
theorem wcount_le (os : List Ob) (x : Ob) (hx : x.turn = 0) : wcount (updO os x) ≤ wcount os := by
  unfold wcount updO
  induction os with
  | nil => simp
  | cons u os ih =>
    rw [List.map_cons]
    by_cases hb : u.b = x.b
    · rw [if_pos hb, List.filter_cons_of_neg (by simp [hx])]
      by_cases hu : 0 < u.turn
      · rw [List.filter_cons_of_pos (by simpa using hu), List.length_cons]; omega
      · rw [List.filter_cons_of_neg (by simpa using hu)]; exact ih
    · rw [if_neg hb]
      by_cases hu : 0 < u.turn
      · rw [List.filter_cons_of_pos (by simpa using hu), List.filter_cons_of_pos (by simpa using hu), List.length_cons, List.length_cons]; omega
      · rw [List.filter_cons_of_neg (by simpa using hu), List.filter_cons_of_neg (by simpa using hu)]; exact ih
theorem wcount_lt (os : List Ob) (x v : Ob) (hx : x.turn = 0) (hv : v ∈ os) (hb : v.b = x.b) (ht : 0 < v.turn) : wcount (updO os x) + 1 ≤ wcount os := by
  induction os with
  | nil => cases hv
  | cons u os ih =>
    have hle := wcount_le os x hx
    have ih' : v ∈ os → wcount (updO os x) + 1 ≤ wcount os := ih
    unfold wcount updO at hle ih' ⊢
    rw [List.map_cons]
    rcases List.mem_cons.1 hv with rfl | hv2
    · rw [if_pos hb, List.filter_cons_of_neg (by simp [hx]), List.filter_cons_of_pos (by simpa using ht), List.length_cons]
      omega
    · have h1 := ih' hv2
      by_cases hub : u.b = x.b
      · rw [if_pos hub, List.filter_cons_of_neg (by simp [hx])]
        by_cases hu : 0 < u.turn
        · rw [List.filter_cons_of_pos (by simpa using hu), List.length_cons]; omega
        · rw [List.filter_cons_of_neg (by simpa using hu)]; omega
      · rw [if_neg hub]
        by_cases hu : 0 < u.turn
        · rw [List.filter_cons_of_pos (by simpa using hu), List.filter_cons_of_pos (by simpa using hu), List.length_cons, List.length_cons]; omega
        · rw [List.filter_cons_of_neg (by simpa using hu), List.filter_cons_of_neg (by simpa using hu)]; omega
theorem wfO_turn {o u : Ob} (h : wfO o u = true) : 0 < o.turn := by
  unfold wfO at h
  by_cases h0 : o.b = u.b ∨ o.turn = 0
  · rw [if_pos h0] at h; cases h
  · simp only [not_or] at h0; omega
theorem both_turn {os : List Ob} {f v : Ob} (h : Both os f v) : 0 < v.turn ∧ v ∈ os := by
  cases h.1 with
  | one hm h1 => exact ⟨wfO_turn h1, hm⟩
  | more _ hm h1 => exact ⟨wfO_turn h1, hm⟩
theorem give_sz {o : Ob} (h : ObSz o) : ObSz (giveO o) := ⟨h.1, Nat.zero_le _⟩
theorem updO_sz {os : List Ob} {x : Ob} (h : ∀ u ∈ os, ObSz u) (hx : ObSz x) : ∀ u ∈ updO os x, ObSz u := fun u hu => by
  rcases updO_mem hu with ⟨rfl, _⟩ | ⟨hu, _⟩
  · exact hx
  · exact h u hu
theorem tbl_give {p : Nat} {OA : Option Addr} {os : List Ob} {v : Ob} (hv : v ∈ os) : ∀ b ∈ tbl p OA (updO os (giveO v)), b ∈ tbl p OA os := fun b hb => by
  rcases mem_tbl.1 hb with h | h | ⟨u, hu, h⟩
  · exact mem_tbl.2 (.inl h)
  · exact mem_tbl.2 (.inr (.inl h))
  · rcases updO_mem hu with ⟨rfl, _⟩ | ⟨hu, _⟩
    · rcases h with h | h
      · exact mem_tbl.2 (.inr (.inr ⟨v, hv, .inl h⟩))
      · exact mem_tbl.2 (.inr (.inr ⟨v, hv, .inr (give_rows h)⟩))
    · exact mem_tbl.2 (.inr (.inr ⟨u, hu, h⟩))
/-- What is known ahead of each round, and behind the last. -/
def BrS (w : World) (bs p : Nat) (OA : Option Addr) (oc turns : Nat) (os0 : List Ob) (fb : Nat) (L : Option Addr) (d : Nat) (out : List (Nat × Nat)) (os : List Ob) (wr : World) : Prop :=
  OwnX wr w.heap.size L out.length d (flatX out) ∧ Broke fb os0 out os ∧ TkAt wr bs p OA oc turns os ∧ Fr w wr (tbl p OA os0) ∧ (∀ b ∈ tbl p OA os, b ∈ tbl p OA os0) ∧ out.length + wcount os ≤ wcount os0 ∧ (∃ f ∈ os, f.b = fb) ∧ (∀ u ∈ os, ObSz u)
theorem BrS.step {w : World} {bs p : Nat} {OA : Option Addr} {oc turns : Nat} {os0 : List Ob} {fb : Nat} {L L2 : Option Addr} {d d2 : Nat} {out : List (Nat × Nat)} {os : List Ob} {wr w2 w3 V w6 : World} {f v : Ob}
    (h : BrS w bs p OA oc turns os0 fb L d out os wr) (hTw : ∀ b ∈ tbl p OA os0, b < w.heap.size) (hf : f ∈ os) (hfb : f.b = fb) (hV : VicP os f (some v)) (hvm : v ∈ os) (hvt : 0 < v.turn) (hb : Below wr.heap.size wr w2) (hfr : Fr w2 w3 (v.b :: v.rows)) (hg : ObAt w3 bs (giveO v)) (hbV : Below w3.heap.size w3 V)
    (ho : OwnX w6 w.heap.size L2 (out.length + 1) d2 (flatX out ++ [.int .u64 (v.s : Int), .int .u64 (v.q : Int)])) (hgr : V.grownBy w6 (blk L)) :
    BrS w bs p OA oc turns os0 fb L2 d2 (out ++ [nmO v]) (updO os (giveO v)) w6 := by
  obtain ⟨a1, a2, a3, a4, a5, a6, a7, a8⟩ := h
  have hsub : ∀ b ∈ v.b :: v.rows, b ∈ tbl p OA os0 := fun b hb => a5 b (mem_tbl.2 (.inr (.inr ⟨v, hvm, by simpa using hb⟩)))
  have t2 : TkAt w2 bs p OA oc turns os := a3.below hb
  have t3 : TkAt w3 bs p OA oc turns (updO os (giveO v)) := t2.upd hvm hfr hg rfl (fun b hb => .inl (give_rows hb))
  have t6 : Fr w w6 (tbl p OA os0) := by
    have f1 : Fr w w3 (tbl p OA os0) := (a4.trans (Fr.of_below hb []) (fun b hb => by cases hb)).trans hfr (fun b hb => .inl (hsub b hb))
    have f2 := f1.trans (Fr.of_below hbV []) (fun b hb => by cases hb)
    refine f2.trans (Fr.of_grown (bl := (blk L).toList) hgr (fun b hb => by simp [hb])) (fun b hb => .inr ?_)
    simp only [Option.mem_toList] at hb
    exact (a1.lt b hb).1
  have tkV := t3.below hbV
  have hLt : ∀ b, blk L = some b → b ∉ tbl p OA (updO os (giveO v)) := fun b hb hm => by
    have := (a1.lt b hb).1
    have := hTw b (a5 b (tbl_give hvm b hm))
    omega
  have tk6 : TkAt w6 bs p OA oc turns (updO os (giveO v)) := by
    have fg : Fr V w6 (blk L).toList := Fr.of_grown hgr (fun b hb => by simp [hb])
    have hne : ∀ b ∈ tbl p OA (updO os (giveO v)), b ∉ (blk L).toList := fun b hm hb => hLt b (by simpa using hb) hm
    have hLO := (((a1.below hb).fr hfr (fun b hb hm => by
      have := (a1.lt b hb).1
      have := hTw b (hsub b hm)
      omega)).below hbV)
    have hnb : NoBy V (blk L).toList := NoBy.row hLO (by decide)
    obtain ⟨g1, g0, g2, g3, g4⟩ := tkV
    refine ⟨(fg.block p g1.lt (hne p (mem_tbl.2 (.inl rfl)))).trans g1, g0, g2.frK fg (fun b hb => hne b (mem_tbl.2 (.inr (.inl hb)))), fun u hu => (g3 u hu).fr fg (hne u.b (mem_tbl.2 (.inr (.inr ⟨u, hu, .inl rfl⟩)))) (fun k hk => hne k (mem_tbl.2 (.inr (.inr ⟨u, hu, .inr hk⟩)))) hnb, g4⟩
  refine ⟨?_, a2.step hf hfb hV, tk6, t6, fun b hm => a5 b (tbl_give hvm b hm), ?_, ?_, updO_sz a8 (give_sz (a8 v hvm))⟩
  · rw [flatX_app, List.length_append]; exact ho
  · have := wcount_lt os (giveO v) v rfl hvm rfl hvt
    simp only [List.length_append, List.length_cons, List.length_nil]
    omega
  · by_cases e : f.b = (giveO v).b
    · exact ⟨giveO v, mem_updO' hf e, by rw [← e]; exact hfb⟩
    · exact ⟨f, mem_updO hf e, hfb⟩
/-- What breakCircles comes to. -/
def RetBrk (w : World) (bs p : Nat) (OA : Option Addr) (oc turns : Nat) (os0 : List Ob) (fb : Nat) (e : Ending) (w' : World) : Prop := ∃ L d out os, e = .returned (.slice L out.length d) ∧ BrS w bs p OA oc turns os0 fb L d out os w' ∧ ∃ f ∈ os, f.b = fb ∧ VicP os f none
theorem RetBrk.out {w : World} {bs p : Nat} {OA : Option Addr} {oc turns : Nat} {os0 : List Ob} {fb : Nat} {e : Ending} {w' : World} (h : RetBrk w bs p OA oc turns os0 fb e w') : ∃ L d out os, e = .returned (.slice L out.length d) ∧ BrS w bs p OA oc turns os0 fb L d out os w' ∧ ∃ f ∈ os, f.b = fb ∧ VicP os f none := h
section
variable {w : World} {bs p : Nat} {OA : Option Addr} {oc turns : Nat} {os : List Ob} {f : Ob}
theorem BrS.belowV {w : World} {bs p : Nat} {OA : Option Addr} {oc turns : Nat} {os0 : List Ob} {fb : Nat} {L : Option Addr} {d : Nat} {out : List (Nat × Nat)} {os : List Ob} {wr V : World} (h : BrS w bs p OA oc turns os0 fb L d out os wr) (hb : Below wr.heap.size wr V) : BrS w bs p OA oc turns os0 fb L d out os V := by
  obtain ⟨a1, a2, a3, a4, a5, a6, a7, a8⟩ := h
  exact ⟨a1.below hb, a2, a3.below hb, a4.trans (Fr.of_below hb []) (fun b hb => by cases hb), a5, a6, a7, a8⟩
set_option maxRecDepth 100000 in
set_option maxHeartbeats 8000000 in
theorem break_any (h : TkAt w bs p OA oc turns os) (hn : os.length ≤ 1099511627776) (hf : f ∈ os) (su : ∀ u ∈ os, ObSz u) : Calls Try.prog 108 #[.pointer (some ⟨p, 0, none⟩), .pointer (some ⟨f.b, 0, none⟩)] w (RetBrk w bs p OA oc turns os f.b) := by
  obtain ⟨fb, hfb⟩ : ∃ fb, fb = f.b := ⟨_, rfl⟩
  rw [← hfb]
  have hst : BrS w bs p OA oc turns os fb none 0 [] os w := ⟨OwnX.nil _ _, .start, h, Fr.refl _ _, fun _ h => h, by simp, ⟨f, hf, hfb.symm⟩, su⟩
  have HST := Lib.hid hst
  have HTW : Hid (∀ b ∈ tbl p OA os, b < w.heap.size) := Lib.hid (fun b hb => (h.bl_ge b hb).2)
  have HWN : Hid (∀ os', wcount os' ≤ os'.length) := Lib.hid (fun os' => List.length_filter_le _ _)
  have HN := Lib.hid hn
  obtain ⟨wn, hwn⟩ : ∃ wn, wn = wcount os := ⟨_, rfl⟩
  have hwn2 : wn ≤ 1099511627776 := by have := HWN.out os; omega
  have HWE := Lib.hid hwn
  have HLEN : Hid (∀ out os', Broke fb os out os' → os'.length = os.length) := Lib.hid (fun out os' hb => by
    induction hb with
    | start => rfl
    | step _ _ _ _ ih => rw [updO_len]; exact ih)
  clear h hn hf su hst hwn hfb
  go_enter Try.func108, Try.ntmps108
  go_wp2_with fail
  go_loopw [5] (fun s5 wr => ∃ (L : Option Addr) (d k : Nat) (out : List (Nat × Nat)) (os' : List Ob), s5 = .slice L k d ∧ out.length = k ∧ BrS w bs p OA oc turns os fb L d out os' wr) (fun s5 _ => wn - lenK s5)
  case atStart => exact ⟨none, 0, 0, [], os, rfl, rfl, HST.out⟩
  case round =>
    obtain ⟨L, d, k, out, os', rfl, hk, hS⟩ := hrel
    have HS := Lib.hid hS
    obtain ⟨a1, a2, a3, a4, a5, a6, ⟨f', hf', hfb'⟩, a8⟩ := hS
    have hn' : os'.length ≤ 1099511627776 := by rw [HLEN.out _ _ a2]; exact HN.out
    have HV : Hid (Calls Try.prog 150 #[.pointer (some ⟨p, 0, none⟩), .pointer (some ⟨fb, 0, none⟩)] wr (RetVic wr os' f')) := Lib.hid (by rw [← hfb']; exact victim_any a3 hn' (a3.obs f' hf') (a8 f' hf') a8)
    have HK := Lib.hid hk
    have HA3 := Lib.hid a3
    have HA8 := Lib.hid a8
    have HF := Lib.hid (And.intro hf' hfb')
    have hkw : k + wcount os' ≤ wn := by rw [HWE.out, ← hk]; exact a6
    clear a1 a2 a3 a4 a5 a6 hf' hfb' a8 hn' hk
    go_wp2_with fail
    with_reducible refine HV.out.mono ?_
    intro e w2 hq
    obtain ⟨v, h1, hvp, b2⟩ := hq.out
    cases v with
    | none =>
      have h1' : e = .returned (.pointer none) := h1
      subst h1'
      have HFIN : Hid (RetBrk w bs p OA oc turns os fb (.returned (.slice L k d)) w2) := Lib.hid ⟨L, d, out, os', by rw [HK.out], HS.out.belowV b2, f', HF.out.1, HF.out.2, hvp⟩
      clear hq hvp b2 h1 HV
      go_wp2_with fail
      go_ret
      exact HFIN.out
    | some v =>
      have hvm : v ∈ os' := by obtain ⟨i, hi, _⟩ := hvp; exact List.mem_of_getElem? hi
      have hvt : 0 < v.turn := by obtain ⟨i, hi, hb, _⟩ := hvp; exact (both_turn hb).1
      have hv2 : ObAt w2 bs v := (HA3.out.obs v hvm).below b2
      have HG := Lib.hid (giveUp_any hv2)
      have HVP := Lib.hid hvp
      have HVM := Lib.hid (And.intro hvm hvt)
      have HB2 := Lib.hid b2
      obtain ⟨vb, hvb⟩ : ∃ vb, vb = v.b := ⟨_, rfl⟩
      have h1' : e = .returned (.pointer (some ⟨vb, 0, none⟩)) := by rw [hvb]; exact h1
      subst h1'
      have hwc : 0 < wcount os' := by
        have := wcount_lt os' (giveO v) v rfl hvm rfl hvt
        omega
      rw [← hvb] at HG
      have HVB := Lib.hid hvb
      clear hq hvp hvm hvt hv2 b2 h1 hvb HV
      go_wp2_with fail
      with_reducible refine HG.out.mono ?_
      intro e w3 hq
      obtain ⟨h1, hfr, hgv⟩ := hq.out
      subst h1
      have k0 : w3.cell? ⟨vb, 0, none⟩ = some (.int .u64 (v.s : Int)) := by rw [HVB.out]; exact hgv.k0
      have k1 : w3.cell? ⟨vb, 1, none⟩ = some (.int .u64 (v.q : Int)) := by rw [HVB.out]; exact hgv.k1
      have hL3 : OwnX w3 w.heap.size L k d (flatX out) := by
        have a1 := HS.out.1
        rw [HK.out] at a1
        refine (a1.below HB2.out).fr hfr (fun b hb hm => ?_)
        have := (a1.lt b hb).1
        have := HTW.out b (HS.out.2.2.2.2.1 b (mem_tbl.2 (.inr (.inr ⟨v, HVM.out.1, by simpa using hm⟩))))
        omega
      have hLV : OwnX (w3.alloc (.cells #[.int .u64 (v.s : Int), .int .u64 (v.q : Int)] 83)) w.heap.size L k d (flatX out) := hL3.below ((Below.refl _ _).alloc (Nat.le_refl _) _)
      have HLV := Lib.hid hLV
      have HSZ : Hid (w.heap.size ≤ w3.heap.size) := Lib.hid (by have s1 := HS.out.2.2.2.1.size; have s2 := HB2.out.size; have s3 := hfr.size; omega)
      have HFR := Lib.hid hfr
      have HGV := Lib.hid hgv
      clear hq hfr hgv hL3 hLV HG
      go_wp2_with (refine wpList_appY _ rfl (Operand.tmp 15) (Operand.tmp 20) 80 rfl w.heap.size _ 16 Try.underlying80 info_tx rfl L k d (flatX out) (by first | (simp [Act.eval]; done) | rfl) HLV.out ⟨w3.heap.size, 0, none⟩ 1 1 [.int .u64 (v.s : Int), .int .u64 (v.q : Int)] (by first | (simp [Act.eval]; done) | rfl) (rdv_of_cl2 (Cl.new w3 #[.int .u64 (v.s : Int), .int .u64 (v.q : Int)] 83)) (by omega) (by simp [Value.oneCell']) (by unfold maxLen; omega) (by omega) (by have := HSZ.out; simp; omega) ?_; intro L2 d2 w6 hL hg _)
      have HQ : Hid (BrS w bs p OA oc turns os fb L2 d2 (out ++ [nmO v]) (updO os' (giveO v)) w6 ∧ (out ++ [nmO v]).length = k + 1) := Lib.hid ⟨HS.out.step HTW.out HF.out.1 HF.out.2 HVP.out HVM.out.1 HVM.out.2 HB2.out HFR.out HGV.out ((Below.refl _ _).alloc (Nat.le_refl _) _) (by rw [HK.out]; exact hL) hg, by rw [List.length_append, HK.out]; rfl⟩
      clear hL hg
      go_wp2_with fail
      go_roundw
      case rel => exact ⟨L2, d2, k + 1, _, _, rfl, HQ.out.2, HQ.out.1⟩
      case measure => simp [lenK]; omega
end
end Go.Proofs.Ytmpdenpopokigaa
namespace Go.Proofs.Ytmpdenpopokigaa
open Go Go.RowKit

/-- A Next or a Seek as plain data. -/
structure ActM where
  seek : Bool
  key : List UInt8
/-- 'The slice of n acts at A reads as these.' -/
def RAm (w : World) (A : Option Addr) (n : Nat) (al : List ActM) : Prop :=
  al.length = n ∧ (0 < n → ∃ b off, A = some ⟨b, off, none⟩ ∧ b < w.heap.size ∧ ∀ (i : Nat) a, al[i]? = some a → ∃ v1, w.cell? ⟨b, off + i * 2, none⟩ = some (.bool a.seek) ∧ w.cell? ⟨b, off + i * 2 + 1, none⟩ = some v1 ∧ ElB w v1 a.key)
theorem RAm.pos {w : World} {A : Option Addr} {n : Nat} {al : List ActM} (h : RAm w A n al) (hn : 0 < n) : ∃ b off, A = some ⟨b, off, none⟩ ∧ b < w.heap.size := by
  obtain ⟨b, off, h1, h2, _⟩ := h.2 hn
  exact ⟨b, off, h1, h2⟩
theorem RAm.at_ {w : World} {b off n : Nat} {al : List ActM} (h : RAm w (some ⟨b, off, none⟩) n al) (k : Nat) (hk : k < n) : ∃ a v1, al[k]? = some a ∧ w.cell? ⟨b, off + k * 2, none⟩ = some (.bool a.seek) ∧ w.cell? ⟨b, off + k * 2 + 1, none⟩ = some v1 ∧ ElB w v1 a.key := by
  obtain ⟨b', off', h1, _, h3⟩ := h.2 (by omega)
  have hl : k < al.length := by have := h.1; omega
  injection h1 with h1
  injection h1 with h1 h2
  subst h1 h2
  obtain ⟨v1, h4⟩ := h3 k _ (List.getElem?_eq_getElem hl)
  exact ⟨_, v1, List.getElem?_eq_getElem hl, h4⟩
end Go.Proofs.Ytmpdenpopokigaa
namespace Go.Proofs.Ytmpdenpopokigaa
open Go Go.RowKit

section
open Go.Sort Go.Proofs
variable {α : Type} [Inhabited α]
theorem heap_sw (enc : α → Value) {w : World} {g n : Nat} {os : Array Obj} {cur : Array Value} {e : TypeId} {fr : Nat × Nat} (d : Array α) (hb : w.heap[g]? = some (.cells cur e fr)) : (sortWorld enc w g 0 n d os).heap[g]? = some (.cells (putCells enc 0 d cur) e fr) := by
  have hg : g < w.heap.size := (Array.getElem?_eq_some_iff.1 hb).1
  unfold sortWorld
  rw [heap_grow_old _ _ (by simpa using hg)]
  simp [putRow, mapBlock, Sort.ahead, Array.getElem?_modify, hb, onCells]
theorem grown_sw (enc : α → Value) {w : World} {g n : Nat} {os : Array Obj} (d : Array α) : w.grownBy (sortWorld enc w g 0 n d os) (some g) := by
  unfold sortWorld
  refine ⟨rfl, rfl, rfl, by simp, fun k hk hne => ?_⟩
  rw [heap_grow_old _ _ (by simpa using hk)]
  have hgk : g ≠ k := fun e => hne (by rw [e])
  simp [putRow, mapBlock, Sort.ahead, Array.getElem?_modify, hgk]
theorem holds_own (enc : α → Value) {w : World} {t : TypeId} {base g n c : Nat} {l : List α} (h : OwnV t w base (some ⟨g, 0, none⟩) n c (l.map enc)) : Holds enc w g 0 l.toArray := by
  rcases h.2 with ⟨h1, _⟩ | ⟨g', cap, cur, h1, hb, hg, h2, h3, h4, h5⟩
  · injection h1 with h1; cases h1
  · injection h1 with h1 _ h7
    injection h1 with h1
    injection h1 with h1
    subst h1 h7
    intro j hj
    have hj' : j < l.length := by simpa using hj
    refine ⟨?_, by simp [World.frozen?, hg]⟩
    have h6 : (l.map enc)[j]? = some (enc l[j]) := by simp [hj']
    rw [← h5, List.getElem?_take] at h6
    split at h6
    · simp only [World.cell?, hg, Nat.zero_add]
      simp only [Option.isSome_none, Bool.false_eq_true, if_false]
      rw [← Array.getElem?_toList, h6]
      simp [hj']
    · cases h6
theorem own_sw (enc : α → Value) {w : World} {t : TypeId} {base g n c q : Nat} {os : Array Obj} {l m : List α} (h : OwnV t w base (some ⟨g, 0, none⟩) n c (l.map enc)) (hm : m.length = n) : OwnV t (sortWorld enc w g 0 q m.toArray os) base (some ⟨g, 0, none⟩) n c (m.map enc) := by
  rcases h.2 with ⟨h1, _⟩ | ⟨g', cap, cur, h1, hb, hg, h2, h3, h4, h5⟩
  · injection h1 with h1; cases h1
  · injection h1 with h1 _ h7
    injection h1 with h1
    injection h1 with h1
    subst h1 h7
    refine ⟨by simp [hm], .inr ⟨g, c, _, rfl, hb, heap_sw enc _ hg, h2, h3, by simp [putCells, h4], ?_⟩⟩
    apply List.ext_getElem?
    intro j
    have hl : (m.map enc).length = m.length := by simp
    by_cases hj : j < m.length
    · rw [List.getElem?_take_of_lt (by omega), Array.getElem?_toList]
      simp [putCells, hj, show j < cur.size by omega]
    · rw [List.getElem?_take_eq_none (by omega), List.getElem?_eq_none (by simp; omega)]
end
/-- How two numbers stand. -/
def cmpN (x y : Nat) : Int := if x < y then -1 else if y < x then 1 else 0
set_option maxRecDepth 100000 in
set_option maxHeartbeats 4000000 in
theorem nanU_any (x : Nat) (w : World) : Calls Try.prog 177 #[.int .u64 (x : Int)] w (fun e w' => e = .returned (.bool false) ∧ w = w') := by
  go_enter Try.func177, Try.ntmps177
  go_wp2_with fail
  go_ret
  exact ⟨rfl, rfl⟩
set_option maxRecDepth 100000 in
set_option maxHeartbeats 4000000 in
theorem cmpU_any (x y : Nat) (w : World) : Calls Try.prog 125 #[.int .u64 (x : Int), .int .u64 (y : Int)] w (fun e w' => e = .returned (.int .i64 (cmpN x y)) ∧ w = w') := by
  have HX := Lib.hid (nanU_any x w)
  have HY := Lib.hid (nanU_any y w)
  by_cases h1 : x < y
  · have HF : Hid (cmpN x y = -1) := Lib.hid (by unfold cmpN; rw [if_pos h1])
    go_enter Try.func125, Try.ntmps125
    go_wp2_with fail
    with_reducible refine HX.out.mono ?_
    rintro e w1 ⟨rfl, rfl⟩
    go_wp2_with fail
    with_reducible refine HY.out.mono ?_
    rintro e w1 ⟨rfl, rfl⟩
    go_wp2_with fail
    go_ret
    exact ⟨by rw [HF.out]; rfl, rfl⟩
  · by_cases h2 : y < x
    · have HF : Hid (cmpN x y = 1) := Lib.hid (by unfold cmpN; rw [if_neg h1, if_pos h2])
      go_enter Try.func125, Try.ntmps125
      go_wp2_with fail
      with_reducible refine HX.out.mono ?_
      rintro e w1 ⟨rfl, rfl⟩
      go_wp2_with fail
      with_reducible refine HY.out.mono ?_
      rintro e w1 ⟨rfl, rfl⟩
      go_wp2_with fail
      go_ret
      exact ⟨by rw [HF.out]; rfl, rfl⟩
    · have HF : Hid (cmpN x y = 0) := Lib.hid (by unfold cmpN; rw [if_neg h1, if_neg h2])
      go_enter Try.func125, Try.ntmps125
      go_wp2_with fail
      with_reducible refine HX.out.mono ?_
      rintro e w1 ⟨rfl, rfl⟩
      go_wp2_with fail
      with_reducible refine HY.out.mono ?_
      rintro e w1 ⟨rfl, rfl⟩
      go_wp2_with fail
      go_ret
      exact ⟨by rw [HF.out]; rfl, rfl⟩
set_option maxRecDepth 100000 in
set_option maxHeartbeats 4000000 in
theorem queue1_any {w : World} {a b x y : Nat} (ha : w.cell? ⟨a, 4, none⟩ = some (.int .u64 (x : Int))) (hb : w.cell? ⟨b, 4, none⟩ = some (.int .u64 (y : Int))) :
    Calls Try.prog 142 #[.pointer (some ⟨a, 0, none⟩), .pointer (some ⟨b, 0, none⟩)] w (fun e w' => e = .returned (.int .i64 (cmpN x y)) ∧ ∃ q, w' = w.drewN q) := by
  have HC : Hid (∀ W, Calls Try.prog 125 #[.int .u64 (x : Int), .int .u64 (y : Int)] W (fun e w' => e = .returned (.int .i64 (cmpN x y)) ∧ ∃ q, w' = W.drewN q)) := Lib.hid (fun W => (cmpU_any x y W).mono (fun e w' h => ⟨h.1, 0, h.2.symm⟩))
  go_enter Try.func142, Try.ntmps142
  go_wp2_with fail
  go_quiet ((go_at_call 125; with_reducible exact Calls.quiet_of (HC.out _)))
  go_wp2_with fail
  go_ret
  exact ⟨rfl, _, rfl⟩
def posO (o : Ob) : Bool := decide (0 < o.turn)
/-- What queue comes to: those that wait, by their turns. -/
def RetQu (w : World) (bs : Nat) (os : List Ob) (e : Ending) (w' : World) : Prop := ∃ (L : Option Addr) (c : Nat) (l : List Ob), e = .returned (.slice L l.length c) ∧ OwnV 157 w' w.heap.size L l.length c (l.map obP) ∧ (∀ o ∈ l, ObAt w' bs o) ∧ l.Perm (os.filter posO) ∧ l.Pairwise (fun a b => a.turn ≤ b.turn) ∧ Below w.heap.size w w'
theorem RetQu.out {w : World} {bs : Nat} {os : List Ob} {e : Ending} {w' : World} (h : RetQu w bs os e w') : ∃ (L : Option Addr) (c : Nat) (l : List Ob), e = .returned (.slice L l.length c) ∧ OwnV 157 w' w.heap.size L l.length c (l.map obP) ∧ (∀ o ∈ l, ObAt w' bs o) ∧ l.Perm (os.filter posO) ∧ l.Pairwise (fun a b => a.turn ≤ b.turn) ∧ Below w.heap.size w w' := h
section
open Go.Sort Go.Proofs
set_option maxRecDepth 100000 in
set_option maxHeartbeats 4000000 in
/-- The sort, at a row of owners. -/
theorem sort_own {w : World} {bs base g c : Nat} {os l : List Ob} (hl : ∀ o ∈ l, o ∈ os) (hos : ∀ o ∈ os, ObAt w bs o) (hown : OwnV 157 w base (some ⟨g, 0, none⟩) l.length c (l.map obP)) (hne : l ≠ []) (hlen : l.length ≤ 1099511627776) :
    Calls Try.prog 141 #[.slice (some ⟨g, 0, none⟩) l.length c, .func (.func 142) #[] #[]] w
      (fun e w' => e = .returned (.tuple #[]) ∧ ∃ l' : List Ob, l'.Perm l ∧ l'.Pairwise (fun a b => a.turn ≤ b.turn) ∧ OwnV 157 w' base (some ⟨g, 0, none⟩) l.length c (l'.map obP) ∧ w.grownBy w' (some g)) := by
  obtain ⟨x0, hx0⟩ : ∃ x0, x0 ∈ l := by
    cases l with
    | nil => exact absurd rfl hne
    | cons x l => exact ⟨x, by simp⟩
  haveI : Inhabited { o : Ob // o ∈ os } := ⟨⟨x0, hl x0 hx0⟩⟩
  obtain ⟨la, hla⟩ : ∃ la : List { o : Ob // o ∈ os }, la = l.attach.map (fun x => ⟨x.1, hl x.1 x.2⟩) := ⟨_, rfl⟩
  have e1 : la.map (fun x => x.1) = l := by rw [hla, List.map_map]; simp [Function.comp_def]
  have e2 : la.map (fun x => obP x.1) = l.map obP := by rw [← e1, List.map_map]; rfl
  have e3 : la.length = l.length := by rw [← e1]; simp
  have hown' : OwnV 157 w base (some ⟨g, 0, none⟩) l.length c (la.map (fun x => obP x.1)) := by rw [e2]; exact hown
  have hH := holds_own (fun x : { o : Ob // o ∈ os } => obP x.1) hown'
  have hg : g < w.heap.size := (OwnV.lt hown g rfl).2
  have hne4 : ∀ o ∈ os, o.b ≠ g := fun o ho e => cl_row (hos o ho).cl hown (by decide) (by rw [e]; rfl)
  have hlt : ∀ x y : { o : Ob // o ∈ os }, ltOf (fun x y : { o : Ob // o ∈ os } => cmpN x.1.turn y.1.turn) x y = decide (x.1.turn < y.1.turn) := fun x y => by
    unfold ltOf cmpN
    by_cases h1 : x.1.turn < y.1.turn
    · simp [h1]
    · by_cases h2 : y.1.turn < x.1.turn
      · simp [h1, h2]
      · simp [h1, h2]
  have hO : SWO (ltOf (fun x y : { o : Ob // o ∈ os } => cmpN x.1.turn y.1.turn)) :=
    ⟨fun x => by rw [hlt]; simp, fun x y z h1 h2 => by rw [hlt] at *; simp at *; omega, fun x y z h1 h2 => by rw [hlt] at *; simp at *; omega⟩
  have hcmp : CmpReads Try.prog 142 #[] (fun x : { o : Ob // o ∈ os } => obP x.1) (fun x y => cmpN x.1.turn y.1.turn) g 0 la.toArray.size w := fun m oo dk hs x y => by
    have cell : ∀ z : { o : Ob // o ∈ os }, (sortWorld (fun x : { o : Ob // o ∈ os } => obP x.1) w g 0 m dk oo).cell? ⟨z.1.b, 4, none⟩ = some (.int .u64 (z.1.turn : Int)) := fun z => by
      have h1 := (grown_sw (fun x : { o : Ob // o ∈ os } => obP x.1) (w := w) (g := g) (n := m) (os := oo) dk).block z.1.b (hos z.1 z.2).lt (fun e => hne4 z.1 z.2 (by have h := Option.some.inj e; omega))
      have h2 : Cl (sortWorld (fun x : { o : Ob // o ∈ os } => obP x.1) w g 0 m dk oo) z.1.b _ _ := h1.trans (hos z.1 z.2).cl
      exact h2.cell 4
    exact queue1_any (cell x) (cell y)
  have key := lib_sortO (fun x : { o : Ob // o ∈ os } => obP x.1) (fun _ => rfl) (fun x y => cmpN x.1.turn y.1.turn) hO 142 #[] g 0 c la.toArray w (fun _ _ => rfl) hcmp.lays hH hg (by rw [show la.toArray.size = l.length by simp [e3]]; omega)
  have e4 : la.toArray.size = l.length := by simp [e3]
  rw [e4] at key
  refine key.mono ?_
  rintro e w' ⟨rfl, d', n, oo, hp, hs, rfl⟩
  have hpz : d'.size = l.length := by rw [hp.1, e4]
  have hpp : d'.toList.Perm la := by
    have a1 : d'.extract 0 l.length = d' := by rw [← hpz]; simp
    have a2 : la.toArray.extract 0 l.length = la.toArray := by rw [← e4]; simp
    have h1 := hp.2.2
    rw [a1, a2] at h1
    exact h1
  refine ⟨rfl, d'.toList.map (fun x => x.1), ?_, ?_, ?_, grown_sw _ d'⟩
  · have := hpp.map (fun x : { o : Ob // o ∈ os } => x.1)
    rwa [e1] at this
  · rw [List.pairwise_map, List.pairwise_iff_getElem]
    intro i j hi hj hij
    have hi' : i < d'.size := by simpa using hi
    have hj' : j < d'.size := by simpa using hj
    have h1 := hs i j (Nat.zero_le _) hij (by omega)
    rw [hlt, getElem!_pos d' i hi', getElem!_pos d' j hj'] at h1
    simp at h1
    simpa using h1
  · have := own_sw (fun x : { o : Ob // o ∈ os } => obP x.1) (q := n) (os := oo) (m := d'.toList) hown' (by simpa using hpz)
    rw [List.map_map]
    simpa [Function.comp_def] using this
end
section
variable {w : World} {bs p : Nat} {OA : Option Addr} {oc turns : Nat} {os : List Ob}
set_option maxRecDepth 100000 in
set_option maxHeartbeats 4000000 in
theorem queue_any (h : TkAt w bs p OA oc turns os) (hn : os.length ≤ 1099511627776) : Calls Try.prog 96 #[.pointer (some ⟨p, 0, none⟩)] w (RetQu w bs os) := by
  have HT := Lib.hid h
  have k0 := h.k0
  obtain ⟨n, hn2⟩ : ∃ n, n = os.length := ⟨_, rfl⟩
  rw [← hn2] at k0 hn
  have HN := Lib.hid hn2
  clear h hn2
  go_enter Try.func96, Try.ntmps96
  go_wp2_with fail
  go_loopw [3, 11] (fun s3 s11 wr => ∃ (k d m : Nat) (L : Option Addr), k ≤ n ∧ s11 = .int .i64 (k : Int) ∧ s3 = .slice L m d ∧ ((os.take k).filter posO).length = m ∧ m ≤ k ∧ OwnV 157 wr w.heap.size L m d (((os.take k).filter posO).map obP) ∧ Below w.heap.size w wr) (fun _ s _ => n - (intOf s).toNat)
  case atStart => exact ⟨0, 0, 0, none, Nat.zero_le _, rfl, rfl, rfl, Nat.le_refl _, OwnV.nil _ _ _, Below.refl _ _⟩
  case round =>
    obtain ⟨k, d, m, L, hk, rfl, rfl, hm, hmk, hrow, hbel⟩ := hrel
    have HR := Lib.hid hrow
    have HB := Lib.hid hbel
    have HM := Lib.hid hm
    by_cases hlt : k < n
    · have hT := HT.out.below hbel
      have hR := hT.rob
      obtain ⟨b, off, hAb, hbl⟩ := hR.1.pos (by rw [← HN.out]; omega)
      subst hAb
      obtain ⟨x, hx, m0, hob⟩ := hR.at_ k (by rw [← HN.out]; exact hlt)
      have k4 := hob.k4
      obtain ⟨xb, hxb⟩ : ∃ xb, xb = x.b := ⟨_, rfl⟩
      rw [← hxb] at k4 m0
      obtain ⟨tn, htn⟩ : ∃ tn, tn = x.turn := ⟨_, rfl⟩
      rw [← htn] at k4
      have HX := Lib.hid hx
      have HXB : Hid (obP x = .pointer (some ⟨xb, 0, none⟩)) := Lib.hid (by unfold obP; rw [hxb])
      have HTN := Lib.hid htn
      have HSZ := Lib.hid hbel.size
      clear hT hR hob hx hxb htn hrow hbel hm
      by_cases ht : tn = 0
      · have t1 : decide ((0 : Int) < (tn : Int)) = false := by simp; omega
        have HQ : Hid ((os.take (k + 1)).filter posO = (os.take k).filter posO) := Lib.hid (by rw [take_filter HX.out, show posO x = false by unfold posO; rw [← HTN.out]; simp; omega]; simp)
        go_wp2_with fail
        go_roundw
        case rel => exact ⟨k + 1, d, m, L, by omega, by go_num, rfl, by rw [HQ.out]; exact HM.out, by omega, by rw [HQ.out]; exact HR.out, HB.out⟩
        case measure => simp [intOf]; omega
      · have t1 : decide ((0 : Int) < (tn : Int)) = true := by simp; omega
        have hg0 : OwnV 157 (wr.alloc (.cells #[.pointer (some ⟨xb, 0, none⟩)] 157)) w.heap.size L m d (((os.take k).filter posO).map obP) := HR.out.below ((Below.refl _ _).alloc (Nat.le_refl _) _)
        have HG0 := Lib.hid hg0
        have HQ : Hid ((os.take (k + 1)).filter posO = (os.take k).filter posO ++ [x]) := Lib.hid (by rw [take_filter HX.out, show posO x = true by unfold posO; rw [← HTN.out]; simp; omega]; simp)
        clear hg0
        go_wp2_with (refine wpList_appV _ rfl (Operand.tmp 20) (Operand.tmp 22) 89 rfl w.heap.size 157 _ 8 Try.underlying89 info_po rfl L m d (((os.take k).filter posO).map obP) (by first | (simp [Act.eval]; done) | rfl) HG0.out (some ⟨wr.heap.size, 0, none⟩) 1 1 [.pointer (some ⟨xb, 0, none⟩)] (by first | (simp [Act.eval]; done) | rfl) ⟨rfl, fun _ => ⟨wr.heap.size, 0, rfl, by simp, fun i u hu => by rw [Nat.zero_add, (Cl.new wr #[.pointer (some ⟨xb, 0, none⟩)] 157).cell i]; simpa using hu⟩⟩ (by simp [Value.oneCell']) (by unfold maxLen; omega) (by omega) (by have := HSZ.out; simp; omega) ?_; intro L2 d2 w6 hL hg _)
        have HQ2 : Hid (OwnV 157 w6 w.heap.size L2 (m + 1) d2 (((os.take (k + 1)).filter posO).map obP) ∧ ((os.take (k + 1)).filter posO).length = m + 1 ∧ Below w.heap.size w w6) := Lib.hid ⟨by
          rw [HQ.out, List.map_append, show [x].map obP = [.pointer (some ⟨xb, 0, none⟩)] by rw [← HXB.out]; rfl]; exact hL, by rw [HQ.out, List.length_append, HM.out]; rfl, ((HB.out.alloc HB.out.size _)).grown hg (by have := HSZ.out; simp; omega) (fun j hj => (HR.out.lt j hj).1)⟩
        clear hL hg
        go_wp2_with fail
        go_roundw
        case rel => exact ⟨k + 1, d2, m + 1, L2, by omega, by go_num, rfl, HQ2.out.2.1, by omega, HQ2.out.1, HQ2.out.2.2⟩
        case measure => simp [intOf]; omega
    · obtain rfl : k = n := by omega
      have htk : os.take k = os := List.take_of_length_le (by rw [HN.out]; exact Nat.le_refl _)
      rw [htk] at hrow hm
      have hobs : ∀ o ∈ os, ObAt wr bs o := fun o ho => (HT.out.obs o ho).below hbel
      by_cases hm0 : m = 0
      · subst hm0
        have hnil : os.filter posO = [] := List.eq_nil_of_length_eq_zero hm
        have HS := Lib.hid (lib_sortO_none L d (.func (.func 142) #[] #[]) wr)
        have HF : Hid (RetQu w bs os (.returned (.slice L 0 d)) wr) := Lib.hid ⟨L, d, [], rfl, by rw [hnil] at hrow; exact hrow, fun o h => (by cases h), by rw [hnil], List.Pairwise.nil, hbel⟩
        clear hrow hbel hm htk hobs hnil
        go_wp2_with fail
        with_reducible refine HS.out.mono ?_
        rintro e w2 ⟨rfl, rfl⟩
        go_wp2_with fail
        go_ret
        exact HF.out
      · obtain ⟨g, hg⟩ : ∃ g, L = some ⟨g, 0, none⟩ := by
          rcases hrow.2 with ⟨_, h1⟩ | ⟨g, cap, cur, h1, _⟩
          · omega
          · injection h1 with h1; exact ⟨g, h1⟩
        subst hg
        have HS : Hid (Calls Try.prog 141 #[.slice (some ⟨g, 0, none⟩) m d, .func (.func 142) #[] #[]] wr
          (fun e w' => e = .returned (.tuple #[]) ∧ ∃ l' : List Ob, l'.Perm (os.filter posO) ∧ l'.Pairwise (fun a b => a.turn ≤ b.turn) ∧ OwnV 157 w' w.heap.size (some ⟨g, 0, none⟩) m d (l'.map obP) ∧ wr.grownBy w' (some g))) := Lib.hid (by
          have := sort_own (w := wr) (bs := bs) (base := w.heap.size) (g := g) (c := d) (os := os) (l := os.filter posO) (fun o ho => (List.mem_filter.1 ho).1) hobs (by rw [hm]; exact hrow) (by intro e; rw [e] at hm; exact hm0 hm.symm) (by omega)
          rw [hm] at this
          exact this)
        have HOB := Lib.hid hobs
        have HG := Lib.hid (OwnV.lt hrow g rfl)
        have HNE : Hid (∀ o ∈ os, o.b ≠ g) := Lib.hid (fun o ho e => cl_row (hobs o ho).cl hrow (by decide) (by rw [e]; rfl))
        have HNR : Hid (∀ o ∈ os, ∀ b ∈ o.rows, b ≠ g) := Lib.hid (fun o ho b hb e => by
          rcases mem_rows.1 hb with h1 | h1
          · obtain ⟨ps, h2, _⟩ := (hobs o ho).hR; exact row_ne h2 hrow (by decide) b h1 (by rw [e]; rfl)
          · obtain ⟨ps, h2, _⟩ := (hobs o ho).aR; exact row_ne h2 hrow (by decide) b h1 (by rw [e]; rfl))
        have HNB : Hid (NoBy wr [g]) := Lib.hid (fun b hb => NoBy.row (A := some ⟨g, 0, none⟩) hrow (by decide) b (by simpa [blk] using hb))
        clear hrow hbel hm htk hobs
        go_wp2_with fail
        with_reducible refine HS.out.mono ?_
        rintro e w2 ⟨rfl, l', hp, hpw, hown, hgr⟩
        have hl : l'.length = m := by have := hown.len; simpa using this
        have hfr : Fr wr w2 [g] := Fr.of_grown hgr (fun b hb => by injection hb with hb; simp [hb])
        have HF : Hid (RetQu w bs os (.returned (.slice (some ⟨g, 0, none⟩) m d)) w2) := Lib.hid ⟨some ⟨g, 0, none⟩, d, l', by rw [hl], by rw [hl]; exact hown, fun o ho => by
          have hmo : o ∈ os := (List.mem_filter.1 (hp.mem_iff.1 ho)).1
          exact (HOB.out o hmo).fr hfr (by simpa using HNE.out o hmo) (fun k hk => by simpa using HNR.out o hmo k hk) HNB.out, hp, hpw, HB.out.grown hgr HB.out.size (fun j hj => by injection hj with hj; have := HG.out.1; omega)⟩
        clear hp hpw hown hgr hl hfr
        go_wp2_with fail
        go_ret
        exact HF.out
end
end Go.Proofs.Ytmpdenpopokigaa
namespace Go.Proofs.Ytmpdenpopokigaa
open Go Go.RowKit Go.Deep Go.ChangeShapes Go.WideShapes Go.ChangeAt

theorem bool_field {H : Type} {enc : TypeId × Value → H} {w : World} {base m : Nat} {held : Bool} {v : Value} {y : DataW H × List MemPlace} {t : TypeId} (ht : Try.prog.underlying t = some .bool) (h : DataW.trod enc Try.prog w base (fun _ => true) held m t [v] = some y) :
    ∃ z : Bool, v = .bool z := by
  obtain ⟨z, hcs, hy⟩ := DataW.trod_bool ht h
  simp at hcs
  exact ⟨z, hcs⟩
end Go.Proofs.Ytmpdenpopokigaa
namespace Go.Proofs.Ytmpdenpopokigaa
open Go Go.RowKit

section
variable {w w' : World} {bs p : Nat} {OA : Option Addr} {oc turns : Nat} {os : List Ob}
theorem TkAt.fr {bl : List Nat} (h : TkAt w bs p OA oc turns os) (hf : Fr w w' bl) (hne : ∀ b ∈ tbl p OA os, b ∉ bl) (hn : NoBy w bl) : TkAt w' bs p OA oc turns os := by
  obtain ⟨g1, g0, g2, g3, g4⟩ := h
  exact ⟨(hf.block p g1.lt (hne p (mem_tbl.2 (.inl rfl)))).trans g1, g0, g2.frK hf (fun b hb => hne b (mem_tbl.2 (.inr (.inl hb)))), fun u hu => (g3 u hu).fr hf (hne u.b (mem_tbl.2 (.inr (.inr ⟨u, hu, .inl rfl⟩)))) (fun k hk => hne k (mem_tbl.2 (.inr (.inr ⟨u, hu, .inr hk⟩)))) hn, g4⟩
/-- A row of another type is none of the table's blocks. -/
theorem TkAt.off_row {base t s n m c : Nat} {A : Option Addr} {vs : List Value} (h : TkAt w bs p OA oc turns os) (ho : w.ownsRow base t s (.slice A n c) m vs) (h1 : 91 ≠ t) (h2 : 157 ≠ t) (h3 : 164 ≠ t) (h4 : 97 ≠ t) : ∀ b ∈ tbl p OA os, blk A ≠ some b := fun b hb e => by
  rcases mem_tbl.1 hb with rfl | hb | ⟨u, hu, hb⟩
  · exact cl_row h.cl ho h1 e
  · exact row_ne h.row ho h2 b hb e
  · rcases hb with rfl | hb
    · exact cl_row (h.obs u hu).cl ho h3 e
    · rcases mem_rows.1 hb with hb | hb
      · obtain ⟨ps, h5, _⟩ := (h.obs u hu).hR; exact row_ne h5 ho h4 b hb e
      · obtain ⟨ps, h5, _⟩ := (h.obs u hu).aR; exact row_ne h5 ho h4 b hb e
end
/-- Those in the queue that can go do, one by one. -/
inductive Mv (os0 : List Ob) : List Nat → List (Nat × Nat) → List Ob → Prop
  | start : Mv os0 [] [] os0
  | stay {l : List Nat} {out : List (Nat × Nat)} {os : List Ob} {c : Ob} : Mv os0 l out os → c ∈ os → os.any (wfO c) = true → Mv os0 (l ++ [c.b]) out os
  | go {l : List Nat} {out : List (Nat × Nat)} {os : List Ob} {c : Ob} {A : Option Addr} {d : Nat} : Mv os0 l out os → c ∈ os → os.any (wfO c) = false → Mv os0 (l ++ [c.b]) (out ++ [nmO c]) (updO os (takeO c A d))
theorem updO_bs (os : List Ob) (x : Ob) : (updO os x).map (·.b) = os.map (·.b) := by
  unfold updO
  rw [List.map_map]
  apply List.map_congr_left
  intro u _
  simp only [Function.comp]
  by_cases e : u.b = x.b
  · rw [if_pos e, e]
  · rw [if_neg e]
theorem Mv.bs {os0 os : List Ob} {l : List Nat} {out : List (Nat × Nat)} (h : Mv os0 l out os) : os.map (·.b) = os0.map (·.b) := by
  induction h with
  | start => rfl
  | stay _ _ _ ih => exact ih
  | go _ _ _ ih => rw [updO_bs]; exact ih
def SzO (o : Ob) : Prop := o.held.length + o.asked.length ≤ 1099511627776
theorem SzO.sz {o : Ob} (h : SzO o) : ObSz o := by unfold SzO at h; exact ⟨by omega, by omega⟩
theorem take_szO {o : Ob} {A : Option Addr} {d : Nat} (h : SzO o) : SzO (takeO o A d) := by
  unfold SzO takeO giveO midO at *
  simp only [List.length_append, List.length_nil]
  omega
theorem give_szO {o : Ob} (h : SzO o) : SzO (giveO o) := by
  unfold SzO giveO at *
  simp only [List.length_nil]
  omega
theorem updO_szO {os : List Ob} {x : Ob} (h : ∀ u ∈ os, SzO u) (hx : SzO x) : ∀ u ∈ updO os x, SzO u := fun u hu => by
  rcases updO_mem hu with ⟨rfl, _⟩ | ⟨hu, _⟩
  · exact hx
  · exact h u hu
/-- What is known ahead of each round, and behind the last. -/
def MvS (w : World) (bs p : Nat) (OA : Option Addr) (oc turns : Nat) (os0 : List Ob) (l : List Nat) (L : Option Addr) (d : Nat) (out : List (Nat × Nat)) (os : List Ob) (wr : World) : Prop :=
  OwnX wr w.heap.size L out.length d (flatX out) ∧ Mv os0 l out os ∧ TkAt wr bs p OA oc turns os ∧ Fr w wr (tbl p OA os0) ∧ (∀ b ∈ tbl p OA os, b ∈ tbl p OA os0 ∨ w.heap.size ≤ b) ∧ (∀ u ∈ os, SzO u) ∧ out.length ≤ l.length
section
variable {w wr w2 w3 V w6 : World} {bs p : Nat} {OA L L2 QA : Option Addr} {oc turns d d2 qn qc : Nat} {os0 os : List Ob} {l : List Nat} {out : List (Nat × Nat)} {c : Ob} {qs : List Ob}
theorem MvS.below (h : MvS w bs p OA oc turns os0 l L d out os wr) (hb : Below wr.heap.size wr w2) : MvS w bs p OA oc turns os0 l L d out os w2 := by
  obtain ⟨a1, a2, a3, a4, a5, a6, a7⟩ := h
  exact ⟨a1.below hb, a2, a3.below hb, a4.trans (Fr.of_below hb []) (fun b hb => by cases hb), a5, a6, a7⟩
theorem MvS.stay (h : MvS w bs p OA oc turns os0 l L d out os wr) (hc : c ∈ os) (hw : os.any (wfO c) = true) : MvS w bs p OA oc turns os0 (l ++ [c.b]) L d out os wr := by
  obtain ⟨a1, a2, a3, a4, a5, a6, a7⟩ := h
  exact ⟨a1, a2.stay hc hw, a3, a4, a5, a6, by rw [List.length_append]; omega⟩
/-- Behind take: the list of names, and the queue's row, stand. -/
theorem mv_mid (h : MvS w bs p OA oc turns os0 l L d out os w2) (hc : c ∈ os) (hfr : Fr w2 w3 (c.b :: c.rows)) : OwnX w3 w.heap.size L out.length d (flatX out) :=
  h.1.fr hfr (fun b hb hm => h.2.2.1.off_row h.1 (by decide) (by decide) (by decide) (by decide) b (mem_tbl.2 (.inr (.inr ⟨c, hc, by simpa using hm⟩))) hb)
theorem mv_q (h : TkAt w2 bs p OA oc turns os) (hc : c ∈ os) (hq : OwnV 157 w2 w.heap.size QA qn qc (qs.map obP)) (hfr : Fr w2 w3 (c.b :: c.rows)) : OwnV 157 w3 w.heap.size QA qn qc (qs.map obP) :=
  hq.frK hfr (fun b hb hm => by
    have ho := h.obs c hc
    rcases List.mem_cons.1 hm with e | hm
    · subst e; exact cl_row ho.cl hq (by decide) hb
    · rcases mem_rows.1 hm with e | e
      · obtain ⟨ps, h1, _⟩ := ho.hR; exact row_ne hq h1 (by decide) b hb e
      · obtain ⟨ps, h1, _⟩ := ho.aR; exact row_ne hq h1 (by decide) b hb e)
theorem MvS.go {A : Option Addr} {k : Nat} (h : MvS w bs p OA oc turns os0 l L d out os w2) (hc : c ∈ os) (hw : os.any (wfO c) = false) (hfr : Fr w2 w3 (c.b :: c.rows)) (hg : ObAt w3 bs (takeO c A k)) (hr : ∀ b ∈ (takeO c A k).rows, b ∈ c.rows ∨ w2.heap.size ≤ b) (hbV : Below w3.heap.size w3 V)
    (ho : OwnX w6 w.heap.size L2 (out.length + 1) d2 (flatX out ++ [.int .u64 (c.s : Int), .int .u64 (c.q : Int)])) (hgr : V.grownBy w6 (blk L)) :
    MvS w bs p OA oc turns os0 (l ++ [c.b]) L2 d2 (out ++ [nmO c]) (updO os (takeO c A k)) w6 := by
  have hL3 := mv_mid h hc hfr
  obtain ⟨a1, a2, a3, a4, a5, a6, a7⟩ := h
  have s2 := a4.size
  have hsub : ∀ b ∈ c.b :: c.rows, b ∈ tbl p OA os0 ∨ w.heap.size ≤ b := fun b hb => a5 b (mem_tbl.2 (.inr (.inr ⟨c, hc, by simpa using hb⟩)))
  have t3 : TkAt w3 bs p OA oc turns (updO os (takeO c A k)) := a3.upd hc hfr hg rfl hr
  have tV := t3.below hbV
  have hLV := hL3.below hbV
  have hoff := tV.off_row hLV (by decide) (by decide) (by decide) (by decide)
  have fg : Fr V w6 (blk L).toList := Fr.of_grown hgr (fun b hb => by simp [hb])
  have t6 : TkAt w6 bs p OA oc turns (updO os (takeO c A k)) := tV.fr fg (fun b hb hm => hoff b hb (by simpa using hm)) (NoBy.row hLV (by decide))
  have f6 : Fr w w6 (tbl p OA os0) := by
    have f1 : Fr w w3 (tbl p OA os0) := a4.trans hfr hsub
    have f2 := f1.trans (Fr.of_below hbV []) (fun b hb => by cases hb)
    refine f2.trans fg (fun b hb => .inr ?_)
    simp only [Option.mem_toList] at hb
    exact (a1.lt b hb).1
  refine ⟨?_, a2.go hc hw, t6, f6, fun b hm => ?_, updO_szO a6 (take_szO (a6 c hc)), by simp only [List.length_append, List.length_cons, List.length_nil]; omega⟩
  · rw [flatX_app, List.length_append]; exact ho
  · rcases tbl_upd (x := takeO c A k) (N := w2.heap.size) hc rfl hr b hm with h1 | h1
    · exact a5 b h1
    · exact .inr (by omega)
end
/-- What move comes to. -/
def RetMv (w : World) (bs p : Nat) (OA : Option Addr) (oc turns : Nat) (os0 : List Ob) (e : Ending) (w' : World) : Prop := ∃ (L : Option Addr) (d : Nat) (out : List (Nat × Nat)) (os lo : List Ob), e = .returned (.slice L out.length d) ∧ lo.Perm (os0.filter posO) ∧ lo.Pairwise (fun a b => a.turn ≤ b.turn) ∧ MvS w bs p OA oc turns os0 (lo.map (·.b)) L d out os w'
theorem RetMv.out {w : World} {bs p : Nat} {OA : Option Addr} {oc turns : Nat} {os0 : List Ob} {e : Ending} {w' : World} (h : RetMv w bs p OA oc turns os0 e w') : ∃ (L : Option Addr) (d : Nat) (out : List (Nat × Nat)) (os lo : List Ob), e = .returned (.slice L out.length d) ∧ lo.Perm (os0.filter posO) ∧ lo.Pairwise (fun a b => a.turn ≤ b.turn) ∧ MvS w bs p OA oc turns os0 (lo.map (·.b)) L d out os w' := h
section
variable {w : World} {bs p : Nat} {OA : Option Addr} {oc turns : Nat} {os : List Ob}
set_option maxRecDepth 100000 in
set_option maxHeartbeats 8000000 in
theorem move_any (h : TkAt w bs p OA oc turns os) (hn : os.length ≤ 1099511627776) (su : ∀ u ∈ os, SzO u) : Calls Try.prog 102 #[.pointer (some ⟨p, 0, none⟩)] w (RetMv w bs p OA oc turns os) := by
  have HQ := Lib.hid (queue_any h hn)
  have HT := Lib.hid h
  have HN := Lib.hid hn
  have HSU := Lib.hid su
  clear h hn su
  go_enter Try.func102, Try.ntmps102
  go_wp2_with fail
  with_reducible refine HQ.out.mono ?_
  intro e w1 hq
  obtain ⟨QA, qc, lo, h1, hrow, hobs, hperm, hpw, hbel⟩ := hq.out
  subst h1
  obtain ⟨n, hn⟩ : ∃ n, n = lo.length := ⟨_, rfl⟩
  rw [← hn] at hrow ⊢
  have hnn : n ≤ 1099511627776 := by
    rw [hn, hperm.length_eq]
    have h1 := List.length_filter_le posO os
    have h2 := HN.out
    omega
  have HST : Hid (MvS w bs p OA oc turns os ((lo.take 0).map (·.b)) none 0 [] os w1) := Lib.hid ⟨OwnX.nil _ _, by simpa using Mv.start, HT.out.below hbel, Fr.of_below hbel _, fun b hb => .inl hb, HSU.out, by simp⟩
  have HROW := Lib.hid hrow
  have HPER := Lib.hid (And.intro hperm hpw)
  have HNE := Lib.hid hn
  have HLM : Hid (∀ o ∈ lo, o ∈ os) := Lib.hid (fun o ho => (List.mem_filter.1 (hperm.mem_iff.1 ho)).1)
  have HB1 := Lib.hid hbel
  clear hq hrow hobs hperm hpw hbel hn HQ
  go_wp2_with fail
  go_loopw [3, 9] (fun s3 s9 wr => ∃ (k d m : Nat) (L : Option Addr) (out : List (Nat × Nat)) (os' : List Ob), k ≤ n ∧ s9 = .int .i64 (k : Int) ∧ s3 = .slice L m d ∧ out.length = m ∧ OwnV 157 wr w.heap.size QA n qc (lo.map obP) ∧ MvS w bs p OA oc turns os ((lo.take k).map (·.b)) L d out os' wr) (fun _ s _ => n - (intOf s).toNat)
  case atStart => exact ⟨0, 0, 0, none, [], os, Nat.zero_le _, rfl, rfl, rfl, HROW.out, HST.out⟩
  case round =>
    obtain ⟨k, d, m, L, out, os', hk, rfl, rfl, hm, hrow, hS⟩ := hrel
    have HS := Lib.hid hS
    have HR := Lib.hid hrow
    have HM := Lib.hid hm
    by_cases hlt : k < n
    · have hlk : k < lo.length := by rw [← HNE.out]; exact hlt
      obtain ⟨b, off, hAb, hbl⟩ := hrow.rd.pos (by omega)
      subst hAb
      obtain ⟨v, hv, m0⟩ := hrow.rd.at_ k hlt
      obtain ⟨x, hx⟩ : ∃ x, lo[k]? = some x := ⟨_, List.getElem?_eq_getElem hlk⟩
      obtain rfl : v = obP x := by rw [List.getElem?_map, hx] at hv; injection hv with hv; exact hv.symm
      obtain ⟨a1, a2, a3, a4, a5, a6, a7⟩ := hS
      have hxm : x.b ∈ os'.map (·.b) := by rw [a2.bs]; exact List.mem_map.2 ⟨x, HLM.out x (List.mem_of_getElem? hx), rfl⟩
      obtain ⟨c, hc, hcb⟩ := List.mem_map.1 hxm
      have hn' : os'.length ≤ 1099511627776 := by
        have h1 := congrArg List.length a2.bs
        simp only [List.length_map] at h1
        have h2 := HN.out
        omega
      obtain ⟨z, hz⟩ : ∃ z, z = os'.any (wfO c) := ⟨_, rfl⟩
      have HW : Hid (Calls Try.prog 106 #[.pointer (some ⟨p, 0, none⟩), .pointer (some ⟨c.b, 0, none⟩)] wr (RetT wr z)) := Lib.hid (by rw [hz]; exact waits_any a3 hn' (a3.obs c hc) (a6 c hc).sz (fun u hu => (a6 u hu).sz))
      have HTK : Hid (∀ w2, Below wr.heap.size wr w2 → Calls Try.prog 107 #[.pointer (some ⟨c.b, 0, none⟩)] w2 (RetTk w2 bs c)) := Lib.hid (fun w2 h2 => take_any16 ((a3.obs c hc).below h2) (by have := a3.ge; have := a3.cl.lt; have := h2.size; omega) (a6 c hc))
      have HZ := Lib.hid hz.symm
      have HC := Lib.hid hc
      have HTL : Hid ((lo.take (k + 1)).map (·.b) = (lo.take k).map (·.b) ++ [c.b]) := Lib.hid (by rw [List.take_add_one, hx, List.map_append]; simp [hcb])
      unfold obP at m0
      rw [← hcb] at m0
      obtain ⟨cb, hcb2⟩ : ∃ cb, cb = c.b := ⟨_, rfl⟩
      rw [← hcb2] at m0 HW HTK
      have HCB := Lib.hid hcb2
      clear hrow hm hv hx hxm hn' hz hcb2 hcb a1 a2 a3 a4 a5 a6 a7 hc hlk
      go_wp2_with fail
      with_reducible refine HW.out.mono ?_
      intro e w2 hq
      obtain ⟨h1, b2⟩ := RetT.outD hq
      subst h1
      cases z with
      | true =>
        have HQ : Hid (OwnV 157 w2 w.heap.size (some ⟨b, off, none⟩) n qc (lo.map obP) ∧ MvS w bs p OA oc turns os ((lo.take (k + 1)).map (·.b)) L d out os' w2) := Lib.hid ⟨HR.out.below b2, by rw [HTL.out]; exact (HS.out.below b2).stay HC.out HZ.out⟩
        clear hq b2 m0 HTK HW
        go_wp2_with fail
        go_roundw
        case rel => exact ⟨k + 1, d, m, L, out, os', by omega, by go_num, rfl, HM.out, HQ.out.1, HQ.out.2⟩
        case measure => simp [intOf]; omega
      | false =>
        have HT2 := Lib.hid (HTK.out w2 b2)
        have HB2 := Lib.hid b2
        clear hq b2 m0 HTK HW
        go_wp2_with fail
        with_reducible refine HT2.out.mono ?_
        intro e w3 hq
        obtain ⟨h1, hfr, A, dd, hg, hr⟩ := hq.out
        subst h1
        have hS2 := HS.out.below HB2.out
        have k0 : w3.cell? ⟨cb, 0, none⟩ = some (.int .u64 (c.s : Int)) := by rw [HCB.out]; exact hg.k0
        have k1 : w3.cell? ⟨cb, 1, none⟩ = some (.int .u64 (c.q : Int)) := by rw [HCB.out]; exact hg.k1
        have hLV : OwnX (w3.alloc (.cells #[.int .u64 (c.s : Int), .int .u64 (c.q : Int)] 83)) w.heap.size L m d (flatX out) := by
          have h5 := (mv_mid hS2 HC.out hfr).below ((Below.refl _ _).alloc (Nat.le_refl _) (.cells #[.int .u64 (c.s : Int), .int .u64 (c.q : Int)] 83))
          rw [HM.out] at h5
          exact h5
        have hqV := (mv_q hS2.2.2.1 HC.out (HR.out.below HB2.out) hfr).below ((Below.refl _ _).alloc (Nat.le_refl _) (.cells #[.int .u64 (c.s : Int), .int .u64 (c.q : Int)] 83))
        have HLV := Lib.hid hLV
        have HQV := Lib.hid hqV
        have HSZ : Hid (w.heap.size ≤ w3.heap.size) := Lib.hid (by have s1 := hS2.2.2.2.1.size; have s3 := hfr.size; omega)
        have hmk : m ≤ k := by
          have h1 := hS2.2.2.2.2.2.2
          rw [HM.out, List.length_map, List.length_take] at h1
          omega
        have HS2 := Lib.hid hS2
        have HFR := Lib.hid hfr
        have HG := Lib.hid hg
        have HRR := Lib.hid hr
        clear hq hfr hg hr hS2 hLV hqV HT2
        go_wp2_with (refine wpList_appY _ rfl (Operand.tmp 19) (Operand.tmp 24) 80 rfl w.heap.size _ 16 Try.underlying80 info_tx rfl L m d (flatX out) (by first | (simp [Act.eval]; done) | rfl) HLV.out ⟨w3.heap.size, 0, none⟩ 1 1 [.int .u64 (c.s : Int), .int .u64 (c.q : Int)] (by first | (simp [Act.eval]; done) | rfl) (rdv_of_cl2 (Cl.new w3 #[.int .u64 (c.s : Int), .int .u64 (c.q : Int)] 83)) (by omega) (by simp [Value.oneCell']) (by unfold maxLen; omega) (by omega) (by have := HSZ.out; simp; omega) ?_; intro L2 d2 w6 hL hgr _)
        have HQ : Hid (OwnV 157 w6 w.heap.size (some ⟨b, off, none⟩) n qc (lo.map obP) ∧ MvS w bs p OA oc turns os ((lo.take (k + 1)).map (·.b)) L2 d2 (out ++ [nmO c]) (updO os' (takeO c A dd)) w6 ∧ (out ++ [nmO c]).length = m + 1) := Lib.hid ⟨HQV.out.kept hgr (fun j hj e => row_ne HLV.out HQV.out (by decide) j e hj), by rw [HTL.out]; exact HS2.out.go HC.out HZ.out HFR.out HG.out HRR.out ((Below.refl _ _).alloc (Nat.le_refl _) _) (by rw [HM.out]; exact hL) hgr, by rw [List.length_append, HM.out]; rfl⟩
        clear hL hgr
        go_wp2_with fail
        go_roundw
        case rel => exact ⟨k + 1, d2, m + 1, L2, _, _, by omega, by go_num, rfl, HQ.out.2.2, HQ.out.1, HQ.out.2.1⟩
        case measure => simp [intOf]; omega
    · obtain rfl : k = n := by omega
      have htk : lo.take k = lo := List.take_of_length_le (by rw [HNE.out]; exact Nat.le_refl _)
      rw [htk] at hS
      have HF : Hid (RetMv w bs p OA oc turns os (.returned (.slice L m d)) wr) := Lib.hid ⟨L, d, out, os', lo, by rw [hm], HPER.out.1, HPER.out.2, hS⟩
      clear hrow hS hm htk
      go_wp2_with fail
      go_ret
      exact HF.out
end
end Go.Proofs.Ytmpdenpopokigaa
namespace Go.Proofs.Ytmpdenpopokigaa
open Go Go.RowKit
section
variable {w : World} {bs p : Nat} {OA : Option Addr} {oc turns : Nat} {os : List Ob}
def RetQX (w : World) (os : List Ob) (e : Ending) (w' : World) : Prop := ∃ (l : List Ob), l.Perm (os.filter posO) ∧ l.Pairwise (fun a b => a.turn ≤ b.turn) ∧ RetX w (l.map nmO) e w'
set_option maxRecDepth 100000 in
set_option maxHeartbeats 4000000 in
theorem queueX_any (h : TkAt w bs p OA oc turns os) (hn : os.length ≤ 1099511627776) : Calls Try.prog 43 #[.pointer (some ⟨p, 0, none⟩)] w (RetQX w os) := by
  have HQ := Lib.hid (queue_any h hn)
  have HN := Lib.hid hn
  clear h hn
  go_enter Try.func43, Try.ntmps43
  go_wp2_with fail
  with_reducible refine HQ.out.mono ?_
  intro e w2 hq
  obtain ⟨L, c2, l, h1, h2, h3, h4, h5, h6⟩ := hq.out
  obtain ⟨n2, hn2⟩ : ∃ n2, n2 = l.length := ⟨_, rfl⟩
  rw [← hn2] at h1
  subst h1
  have hl : l.length ≤ 1099511627776 := by
    rw [h4.length_eq]
    exact Nat.le_trans (List.length_filter_le _ _) HN.out
  have HNM : Hid (Calls Try.prog 99 #[.slice L n2 c2] w2 (RetX w2 (l.map nmO))) := Lib.hid (by rw [hn2]; exact names_any (bs := bs) ⟨h2.rd, h3⟩ hl)
  have HF := Lib.hid (And.intro h4 (And.intro h5 h6))
  clear hq h2 h3 h4 h5 h6 hl hn2
  go_wp2_with fail
  with_reducible refine HNM.out.mono ?_
  intro e w3 hq
  obtain ⟨L3, n3, c3, h1, h2, h3, h4⟩ := hq.out
  subst h1
  have HFF : Hid (RetQX w os (.returned (.slice L3 n3 c3)) w3) := Lib.hid ⟨l, HF.out.1, HF.out.2.1, L3, n3, c3, rfl, h2.mono HF.out.2.2.size, h3, belowT' HF.out.2.2 h4⟩
  clear hq h2 h3 h4
  go_wp2_with fail
  go_ret
  exact HFF.out
end
set_option maxRecDepth 100000 in
set_option maxHeartbeats 8000000 in
theorem twins_any {w : World} {A : Option Addr} {n c : Nat} {rs : List Rg} (h : RGr w A n rs) (hn : n ≤ 1099511627776) (hs : SzG rs) : Calls Try.prog 92 #[.slice A n c] w (RetRg w rs) := by
  have HL := Lib.hid h.len
  have HS := Lib.hid hs
  have HH := Lib.hid h
  clear hs h
  go_enter Try.func92, Try.ntmps92
  go_wp2_with fail
  go_loopw [3, 8] (fun s3 s8 wr => ∃ (k d : Nat) (L : Option Addr), k ≤ n ∧ s8 = .int .i64 (k : Int) ∧ s3 = .slice L k d ∧ ∃ ps, RowGr w w.heap.size L k d (rs.take k) ps wr) (fun _ s _ => n - (intOf s).toNat)
  case atStart => exact ⟨0, 0, none, Nat.zero_le _, rfl, rfl, [], RowGr.zero _ _ (Nat.le_refl _)⟩
  case round =>
    obtain ⟨k, d, L, hk, rfl, rfl, ps, hrow⟩ := hrel
    have HR := Lib.hid hrow
    have hR : RGr wr A n rs := HH.out.below hrow.bel
    clear hrow
    by_cases hlt : k < n
    · obtain ⟨b, off, hAb, hbl⟩ := hR.pos (by omega)
      subst hAb
      obtain ⟨x, v0, v1, v2, hx, m0, m1, m2, hev⟩ := hR.at_ k hlt
      obtain ⟨sx1, sx2⟩ := HS.out x (List.mem_of_getElem? hx)
      obtain ⟨K, kn, kc, T, tn, tc, rfl, rfl, rfl, rk, rt, hkc, htc, hkd, htd⟩ := hev.parts
      have hlk := rk.len
      have hlt2 := rt.len
      obtain ⟨U, hU⟩ : ∃ U, U = wr.alloc (.cells #[.slice K kn kc, .slice T tn tc, .bool x.ex] 97) := ⟨_, rfl⟩
      obtain ⟨g0, hg0⟩ : ∃ g0, g0 = wr.heap.size := ⟨_, rfl⟩
      have bU : Below wr.heap.size wr U := by rw [hU]; exact (Below.refl _ _).alloc (Nat.le_refl _) _
      have zU : Cl U g0 #[.slice K kn kc, .slice T tn tc, .bool x.ex] 97 := by rw [hU, hg0]; exact Cl.new _ _ _
      have HCK : Hid (∀ wx, Below U.heap.size U wx → Calls Try.prog 34 #[.slice K kn kc] wx (Made wx.heap.size wx x.lo)) := Lib.hid (fun wx hb => Copy_any K kn kc x.lo wx ((rk.below bU).below hb) (by omega))
      have HCT : Hid (∀ wx, Below U.heap.size U wx → Calls Try.prog 34 #[.slice T tn tc] wx (Made wx.heap.size wx x.hi)) := Lib.hid (fun wx hb => Copy_any T tn tc x.hi wx ((rt.below bU).below hb) (by omega))
      have HLD : Hid (∀ wx, Below U.heap.size U wx → wx.cell? ⟨g0, 0, none⟩ = some (.slice K kn kc) ∧ wx.cell? ⟨g0, 1, none⟩ = some (.slice T tn tc) ∧ wx.cell? ⟨g0, 2, none⟩ = some (.bool x.ex)) := Lib.hid (fun wx hb => ⟨(zU.below hb).cell 0, (zU.below hb).cell 1, (zU.below hb).cell 2⟩)
      have HRU := Lib.hid (HR.out.below bU)
      have HUE := Lib.hid hU
      have HGE := Lib.hid hg0
      have HX := Lib.hid hx
      have q0 : U.cell? ⟨g0, 0, none⟩ = some (.slice K kn kc) := zU.cell 0
      have q1 : U.cell? ⟨g0, 1, none⟩ = some (.slice T tn tc) := zU.cell 1
      have q2 : U.cell? ⟨g0, 2, none⟩ = some (.bool x.ex) := zU.cell 2
      have hB1 : Below U.heap.size U U.drew := (Below.refl _ _).drew
      clear hx hev hR rk rt bU zU hU hg0 sx1 sx2 hlk hlt2
      go_upto_region 5 with (fail)
      rw [← HUE.out, ← HGE.out]
      clear m0 m1 m2
      go_region_law (first | (go_simp; go_at_call 34; with_reducible refine (HCK.out _ (by first | exact hB1 | assumption)).mono ?_; intro e wk hq; obtain ⟨C, cn, cc, h1, oC, bC⟩ := Made.outL hq; subst h1; have bC' := belowT' (by first | exact hB1 | assumption : Below U.heap.size U _) bC; obtain ⟨p0, p1, p2⟩ := HLD.out _ bC') | (go_simp; go_at_call 34; with_reducible refine (HCT.out _ (by first | exact hB1 | assumption)).mono ?_; intro e wv hq; obtain ⟨D, dn, dc, h2, oD, bD⟩ := Made.outL hq; subst h2; have bD' := belowT' (by first | exact hB1 | assumption : Below U.heap.size U _) bD; obtain ⟨n0, n1, n2⟩ := HLD.out _ bD') | (refine step_app3 _ rfl (Operand.tmp 12) (Operand.tmp 22) 98 rfl w.heap.size _ 56 Try.underlying98 info_rg rfl L k d (flatG (rs.take k) ps) (by first | (simp [Act.eval]; done) | (simp [Act.eval, Act.put]; done) | rfl) (HRU.out.below (bD'.alloc bD'.size _)).own ⟨wv.heap.size, 0, none⟩ 1 1 [.slice C cn cc, .slice D dn dc, .bool x.ex] (by first | (simp [Act.eval]; done) | (simp [Act.eval, Act.put]; done) | rfl) (rdv_of_cl3 (Cl.new wv #[.slice C cn cc, .slice D dn dc, .bool x.ex] 97)) (by omega) (by simp [Value.oneCell']) (by unfold maxLen; omega) (by omega) (HRU.out.below (bD'.alloc bD'.size _)).size ?_; intro L2 d2 w6 hL hg) | (refine step_app3 _ rfl (Operand.tmp 12) (Operand.tmp 22) 98 rfl w.heap.size _ 56 Try.underlying98 info_rg rfl L k d (flatG (rs.take k) ps) (by first | (simp [Act.eval]; done) | (simp [Act.eval, Act.put]; done) | rfl) (HRU.out.below (bC'.alloc bC'.size _)).own ⟨wk.heap.size, 0, none⟩ 1 1 [.slice C cn cc, .slice D dn dc, .bool x.ex] (by first | (simp [Act.eval]; done) | (simp [Act.eval, Act.put]; done) | rfl) (rdv_of_cl3 (Cl.new wk #[.slice C cn cc, .slice D dn dc, .bool x.ex] 97)) (by omega) (by simp [Value.oneCell']) (by unfold maxLen; omega) (by omega) (HRU.out.below (bC'.alloc bC'.size _)).size ?_; intro L2 d2 w6 hL hg))
      all_goals first
        | (have hsz1 : U.heap.size ≤ wk.heap.size := bC'.size
           have HQ : Hid (∃ ps, RowGr w w.heap.size L2 (k + 1) d2 (rs.take (k + 1)) ps w6) := Lib.hid ⟨_, by
             rw [List.take_add_one, HX.out]
             exact RowGr.snoc (qs := [(.slice C cn cc, x.lo), (.slice D dn dc, x.hi)]) HRU.out bD' (fam_two ((oC.mono (show U.heap.size ≤ _ by first | exact Nat.le_refl _ | omega)).below bD) (oD.mono hsz1) (Dj.old oC oD (Nat.le_refl _))) rfl rfl ((Below.refl _ _).alloc (Nat.le_refl _) _) hL rfl hg⟩
           clear hL hg oC oD bC bD bC' bD' p0 p1 p2 n0 n1 n2 hsz1
           go_wp2_with fail
           go_roundw
           case rel => exact ⟨k + 1, d2, L2, by omega, by go_num, rfl, HQ.out⟩
           case measure => simp [intOf]; omega)
        | (have hsz1 : U.heap.size ≤ wv.heap.size := bD'.size
           have HQ : Hid (∃ ps, RowGr w w.heap.size L2 (k + 1) d2 (rs.take (k + 1)) ps w6) := Lib.hid ⟨_, by
             rw [List.take_add_one, HX.out]
             exact RowGr.snoc (qs := [(.slice C cn cc, x.lo), (.slice D dn dc, x.hi)]) HRU.out bC' (fam_two (oC.mono hsz1) ((oD.mono (show U.heap.size ≤ _ by first | exact Nat.le_refl _ | omega)).below bC) (Dj.symm (Dj.old oD oC (Nat.le_refl _)))) rfl rfl ((Below.refl _ _).alloc (Nat.le_refl _) _) hL rfl hg⟩
           clear hL hg oC oD bC bD bC' bD' p0 p1 p2 n0 n1 n2 hsz1
           go_wp2_with fail
           go_roundw
           case rel => exact ⟨k + 1, d2, L2, by omega, by go_num, rfl, HQ.out⟩
           case measure => simp [intOf]; omega)
    · obtain rfl : k = n := by omega
      have htk : rs.take k = rs := List.take_of_length_le (by rw [HL.out]; exact Nat.le_refl _)
      have HF : Hid (RetRg w rs (.returned (.slice L k d)) wr) := Lib.hid ⟨L, k, d, ps, rfl, by have := HR.out; rw [htk] at this; exact this⟩
      clear htk hR
      go_wp2_with fail
      go_ret
      exact HF.out
end Go.Proofs.Ytmpdenpopokigaa
namespace Go.Proofs.Ytmpdenpopokigaa
open Go Go.RowKit Go.Deep Go.ChangeShapes Go.WideShapes Go.ChangeAt

/-- Bytes and ranges, counted. -/
def totR : List Rg → Nat
  | [] => 0
  | r :: rs => r.lo.length + r.hi.length + 1 + totR rs
theorem totR_mem : ∀ {rs : List Rg} {r : Rg}, r ∈ rs → r.lo.length + r.hi.length ≤ totR rs
  | x :: rs, r, h => by
    rw [totR]
    rcases List.mem_cons.1 h with rfl | h
    · omega
    · have := totR_mem h; omega
theorem totR_len : ∀ (rs : List Rg), rs.length ≤ totR rs
  | [] => Nat.le_refl _
  | r :: rs => by rw [totR, List.length_cons]; have := totR_len rs; omega
theorem sz_totR {rs : List Rg} (h : totR rs ≤ 1048576) : SzG rs := fun r hr => by have := totR_mem hr; omega
theorem RGr.of_at {w : World} {b : Nat} : ∀ (rs : List Rg) (off : Nat), (∀ k r, rs[k]? = some r → ∃ v0 v1 v2, w.cell? ⟨b, off + k * 3, none⟩ = some v0 ∧ w.cell? ⟨b, off + k * 3 + 1, none⟩ = some v1 ∧ w.cell? ⟨b, off + k * 3 + 2, none⟩ = some v2 ∧ GrV w r v0 v1 v2) →
    ∃ vs, GrVs w rs vs ∧ vs.length = rs.length * 3 ∧ ∀ (i : Nat) v, vs[i]? = some v → w.cell? ⟨b, off + i, none⟩ = some v
  | [], off, _ => ⟨[], rfl, rfl, fun i v h => by simp at h⟩
  | e :: es, off, h => by
    obtain ⟨v0, v1, v2, c0, c1, c2, hev⟩ := h 0 e rfl
    obtain ⟨vs, h1, hl, h2⟩ := RGr.of_at es (off + 3) (fun k x hk => by
      obtain ⟨u0, u1, u2, d0, d1, d2, hew⟩ := h (k + 1) x (by simpa using hk)
      have e0 : off + (k + 1) * 3 = off + 3 + k * 3 := by omega
      rw [e0] at d0 d1 d2
      exact ⟨u0, u1, u2, d0, d1, d2, hew⟩)
    refine ⟨v0 :: v1 :: v2 :: vs, ⟨v0, v1, v2, vs, rfl, hev, h1⟩, by simp only [List.length_cons, hl]; omega, fun i v hi => ?_⟩
    match i, hi with
    | 0, hi => simp at hi; subst hi; simpa using c0
    | 1, hi => simp at hi; subst hi; simpa using c1
    | 2, hi => simp at hi; subst hi; simpa using c2
    | i + 3, hi =>
      have := h2 i v (by simpa using hi)
      rw [show off + (i + 3) = off + 3 + i by omega]
      exact this
theorem totR_bulk {H : Type} : ∀ (al : List Rg) (D : Nat → DataW H), (∀ i a, al[i]? = some a → a.lo.length + a.hi.length + 1 ≤ Rows.uptoBulk (D i)) → totR al ≤ Rows.uptoBulkAll ((List.range al.length).map D)
  | [], D, _ => by simp [totR]
  | a :: t, D, h => by
    have h1 := h 0 a rfl
    have h2 := totR_bulk t (fun i => D (i + 1)) (fun i b hb => h (i + 1) b (by simpa using hb))
    rw [List.length_cons, List.range_succ_eq_map, List.map_cons, List.map_map, totR, Rows.uptoBulkAll]
    have e : (List.range t.length).map (D ∘ Nat.succ) = (List.range t.length).map (fun i => D (i + 1)) := rfl
    rw [e]
    omega
set_option maxRecDepth 100000 in
theorem rngs_of {H : Type} {enc : TypeId × Value → H} {w : World} {base fuel : Nat} {held : Bool} {A : Option Addr} {len cap : Nat} {x : DataW H × List MemPlace} (h : DataW.trod enc Try.prog w base (fun _ => true) held fuel 98 [.slice A len cap] = some x) :
    ∃ al : List Rg, RGr w A len al ∧ len ≤ cap ∧ totR al ≤ Rows.uptoBulk x.1 := by
  have hone : oneCellFields Try.prog (match Try.prog.underlying 97 with | some (.struct fs) => fs | _ => #[]) = true := by kernel_rfl
  rcases open_slice Try.underlying98 h with ⟨hcs, hx⟩ | ⟨a, l, c, m, n, D, Pl, hcs, _, hl, hm, hmm, hx, hi⟩
  · simp at hcs
    obtain ⟨rfl, rfl, rfl⟩ := hcs
    exact ⟨[], RGr.nil _ _, Nat.le_refl _, by simp [totR]⟩
  · simp at hcs
    obtain ⟨rfl, rfl, rfl⟩ := hcs
    simp at hmm
    subst hmm
    rw [Try.underlying97] at hone
    have key : ∀ i, i < len → ∃ ac : Rg, (∃ v0 v1 v2, w.cell? ((a.add (i * Try.prog.cellsOf 97)).add 0) = some v0 ∧ w.cell? ((a.add (i * Try.prog.cellsOf 97)).add 1) = some v1 ∧ w.cell? ((a.add (i * Try.prog.cellsOf 97)).add 2) = some v2 ∧ GrV w ac v0 v1 v2) ∧ ac.lo.length + ac.hi.length + 1 ≤ Rows.uptoBulk (D i) := by
      intro i hil
      obtain ⟨cs', hc', ht'⟩ := hi i (by omega)
      obtain ⟨ys, k, hD, hyl, hf⟩ := fields_at Try.underlying97 hone (by kernel_rfl) hc' ht'
      obtain ⟨v0, y0, m0, g0, t0⟩ := hf 0 _ rfl
      obtain ⟨v1, y1, m1, g1, t1⟩ := hf 1 _ rfl
      obtain ⟨v2, y2, m2, g2, t2⟩ := hf 2 _ rfl
      obtain ⟨S, sn, sc, xs, rfl, r0, q0, p0, u0, _⟩ := bytes_field t0
      obtain ⟨K, kn, kc, ks, rfl, r3, q3, p3, u3, _⟩ := bytes_field t1
      obtain ⟨z, rfl⟩ := bool_field Try.underlying4 t2
      refine ⟨⟨xs, ks, z⟩, ⟨_, _, _, m0, m1, m2, rfl, ⟨S, sn, sc, rfl, r0, q0, p0⟩, ⟨K, kn, kc, rfl, r3, q3, p3⟩⟩, ?_⟩
      have hys : ys = [y0, y1, y2] := by
        have h6 : ys.length = 3 := hyl
        match ys, h6, g0, g1, g2 with
        | [q0, q1, q2], _, g0, g1, g2 =>
          simp only [List.getElem?_cons_zero, List.getElem?_cons_succ, Option.some.injEq] at g0 g1 g2
          rw [g0, g1, g2]
      rw [hD, hys]
      simp only [List.map_cons, List.map_nil, Rows.uptoBulk, Rows.uptoBulkAll]
      omega
    obtain ⟨al, hal, hall⟩ := list_of len key
    refine ⟨al, ?_, hl, ?_⟩
    · by_cases hn : 0 < len
      · obtain ⟨b, off, spot⟩ := a
        obtain ⟨ac, ⟨v0, v1, v2, m0, _⟩, _⟩ := key 0 hn
        have hspot : spot = none := by
          have := World.cell?_spot m0
          simpa [Addr.add] using this
        subst hspot
        have hc4 : Try.prog.cellsOf 97 = 3 := by kernel_rfl
        rw [addA, addA] at m0
        have hbl := World.block_lt_of_cell? w _ m0
        obtain ⟨vs, h1, hvl, h2⟩ := RGr.of_at (w := w) (b := b) al off (fun k ac hk => by
          obtain ⟨⟨v0, v1, v2, m0, m1, m2, hav⟩, _⟩ := hall k ac hk
          rw [addA, addA, hc4] at m0 m1 m2
          exact ⟨v0, v1, v2, m0, m1, m2, hav⟩)
        exact RGr.mk h1 ⟨by rw [hvl, hal], fun _ => ⟨b, off, rfl, hbl, h2⟩⟩ hal
      · have h0 : len = 0 := by omega
        subst h0
        obtain rfl : al = [] := List.length_eq_zero_iff.1 hal
        exact RGr.nil _ _
    · have hb := totR_bulk al D (fun i ac hi' => (hall i ac hi').2)
      rw [hal] at hb
      rw [hx]
      simp only [Rows.uptoBulk]
      omega
end Go.Proofs.Ytmpdenpopokigaa
namespace Go.Proofs.Ytmpdenpopokigaa
open Go Go.RowKit

theorem ixB_split (P : Ob → Bool) (os : List Ob) : (ixB P os = -1 ∧ os.filter (fun x => !P x) = os) ∨ ∃ (k : Nat) (o : Ob), ixB P os = (k : Int) ∧ os[k]? = some o ∧ (os.take (k + 1)).filter (fun x => !P x) = os.take k := by
  cases h : os.findIdx? P with
  | none =>
    refine .inl ⟨by unfold ixB; rw [h], ?_⟩
    rw [List.findIdx?_eq_none_iff] at h
    rw [List.filter_eq_self]
    intro x hx
    simpa using h x hx
  | some k =>
    have h1 := h
    rw [List.findIdx?_eq_some_iff_getElem] at h1
    obtain ⟨hk, hp, hj⟩ := h1
    refine .inr ⟨k, os[k], by unfold ixB; rw [h], List.getElem?_eq_getElem hk, ?_⟩
    rw [take_filter (List.getElem?_eq_getElem hk), hp]
    simp only [Bool.not_true, Bool.false_eq_true, if_false, List.append_nil]
    rw [List.filter_eq_self]
    intro x hx
    obtain ⟨i, hi, e⟩ := List.mem_iff_getElem.1 hx
    rw [List.length_take] at hi
    rw [List.getElem_take] at e
    have := hj i (by omega)
    rw [e] at this
    simpa using this
theorem cl_setCellsL {g : Nat} {t : TypeId} : ∀ (vs : List Value) (o : Nat) {w : World} {arr : Array Value}, Cl w g arr t → ∃ brr, Cl (w.setCells g o vs) g brr t ∧ brr.size = arr.size ∧ (∀ j, j < o → brr[j]? = arr[j]?) ∧ Fr w (w.setCells g o vs) [g]
  | [], _, w, arr, h => ⟨arr, h, rfl, fun _ _ => rfl, Fr.refl _ _⟩
  | v :: r, o, w, arr, h => by
    obtain ⟨brr, h1, h2, h3, h4⟩ := cl_setCellsL r (o + 1) (h.set o v)
    refine ⟨brr, h1, by rw [h2]; simp, fun j hj => ?_, (Fr.set w g o v).trans h4 (fun b hb => .inl hb)⟩
    rw [h3 j (by omega), Array.getElem?_setIfInBounds_ne (by omega)]
/-- The row while it is written over. -/
def DlS (w : World) (g c : Nat) (arr0 : Array Value) (os : List Ob) (P : Ob → Bool) (i j : Nat) (wr : World) : Prop := ∃ arr, Cl wr g arr 157 ∧ arr.size = c ∧ (∀ (t : Nat) (x : Ob), ((os.take j).filter (fun x => !P x))[t]? = some x → arr[t]? = some (obP x)) ∧ ((os.take j).filter (fun x => !P x)).length = i ∧ (∀ t, j ≤ t → arr[t]? = arr0[t]?) ∧ Fr w wr [g]
theorem DlS.below {w wr w2 : World} {g c i j : Nat} {arr0 : Array Value} {os : List Ob} {P : Ob → Bool} (h : DlS w g c arr0 os P i j wr) (hb : Below wr.heap.size wr w2) : DlS w g c arr0 os P i j w2 := by
  obtain ⟨arr, h1, h2, h3, h4, h5, h6⟩ := h
  exact ⟨arr, h1.below hb, h2, h3, h4, h5, h6.trans (Fr.of_below hb []) (fun b hb => by cases hb)⟩
theorem DlS.skip {w wr : World} {g c i j : Nat} {arr0 : Array Value} {os : List Ob} {P : Ob → Bool} {o : Ob} (h : DlS w g c arr0 os P i j wr) (ho : os[j]? = some o) (hp : P o = true) : DlS w g c arr0 os P i (j + 1) wr := by
  obtain ⟨arr, h1, h2, h3, h4, h5, h6⟩ := h
  have e : (os.take (j + 1)).filter (fun x => !P x) = (os.take j).filter (fun x => !P x) := by rw [take_filter ho, hp]; simp
  exact ⟨arr, h1, h2, by rw [e]; exact h3, by rw [e]; exact h4, fun t ht => h5 t (by omega), h6⟩
theorem DlS.put {w wr : World} {g c i j : Nat} {arr0 : Array Value} {os : List Ob} {P : Ob → Bool} {o : Ob} (h : DlS w g c arr0 os P i j wr) (ho : os[j]? = some o) (hp : P o = false) (hij : i < j) (hic : i < c) : DlS w g c arr0 os P (i + 1) (j + 1) (wr.setCell ⟨g, i, none⟩ (obP o)) := by
  obtain ⟨arr, h1, h2, h3, h4, h5, h6⟩ := h
  have e : (os.take (j + 1)).filter (fun x => !P x) = (os.take j).filter (fun x => !P x) ++ [o] := by rw [take_filter ho, hp]; simp
  refine ⟨_, h1.set i (obP o), by simpa using h2, ?_, by rw [e, List.length_append, h4]; rfl, fun t ht => ?_, h6.trans (Fr.set _ _ _ _) (fun b hb => .inl hb)⟩
  · rw [e]
    intro t x hx
    by_cases ht : t < i
    · rw [List.getElem?_append_left (by omega)] at hx
      rw [Array.getElem?_setIfInBounds_ne (by omega)]
      exact h3 t x hx
    · have htl := (List.getElem?_eq_some_iff.1 hx).1
      simp [h4] at htl
      obtain rfl : t = i := by omega
      rw [List.getElem?_append_right (by omega), h4] at hx
      simp at hx
      subst hx
      exact Array.getElem?_setIfInBounds_self_of_lt (by omega)
  · rw [Array.getElem?_setIfInBounds_ne (by omega)]
    exact h5 t (by omega)
/-- What DeleteFunc comes to. -/
def RetDel (w : World) (base : Nat) (A : Option Addr) (c : Nat) (os : List Ob) (P : Ob → Bool) (e : Ending) (w' : World) : Prop := e = .returned (.slice A (os.filter (fun x => !P x)).length c) ∧ OwnV 157 w' base A (os.filter (fun x => !P x)).length c ((os.filter (fun x => !P x)).map obP) ∧ Fr w w' (blk A).toList
theorem RetDel.out {w : World} {base : Nat} {A : Option Addr} {c : Nat} {os : List Ob} {P : Ob → Bool} {e : Ending} {w' : World} (h : RetDel w base A c os P e w') : e = .returned (.slice A (os.filter (fun x => !P x)).length c) ∧ OwnV 157 w' base A (os.filter (fun x => !P x)).length c ((os.filter (fun x => !P x)).map obP) ∧ Fr w w' (blk A).toList := h
section
variable {w : World} {bs base : Nat} {A : Option Addr} {n c : Nat} {os : List Ob}
set_option maxRecDepth 100000 in
set_option maxHeartbeats 8000000 in
theorem delete_any (f0 : Nat) (cb : Array Value) (P : Ob → Bool) (eg : ∀ args w, (callFunc f0 args).run Try.prog w = .ok (.enter f0 args) w) (hr : OwnV 157 w base A n c (os.map obP)) (hobs : ∀ o ∈ os, ObAt w bs o) (hn : n ≤ 1099511627776)
    (hf : ∀ wx, Fr w wx (blk A).toList → ∀ o, o ∈ os → Calls Try.prog f0 (#[.pointer (some ⟨o.b, 0, none⟩)] ++ cb) wx (RetT wx (P o))) :
    Calls Try.prog 100 #[.slice A n c, .func (.func f0) #[] cb] w (RetDel w base A c os P) := by
  have hln : os.length = n := by have := hr.len; simpa using this
  have hcap := hr.cap
  have HI : Hid (Calls Try.prog 143 #[.slice A n c, .func (.func f0) #[] cb] w (RetNu w (ixB P os))) := Lib.hid (indexO_any (c := c) f0 #[] cb P eg ⟨hr.rd, hobs⟩ hn (fun wx hb o ho => hf wx (Fr.of_below hb _) o ho))
  have HF := Lib.hid hf
  have HR := Lib.hid hr
  have HL := Lib.hid hln
  rcases ixB_split P os with ⟨hz, hfl⟩ | ⟨k, o, hz, ho, hfl⟩
  · rw [hz] at HI
    have HFIN : Hid (∀ w2, Below w.heap.size w w2 → RetDel w base A c os P (.returned (.slice A n c)) w2) := Lib.hid (fun w2 b2 => ⟨by rw [hfl, hln], by rw [hfl, hln]; exact HR.out.below b2, Fr.of_below b2 _⟩)
    clear hf hr hobs hz hfl hln
    go_enter Try.func100, Try.ntmps100
    go_wp2_with fail
    with_reducible refine HI.out.mono ?_
    intro e w2 hq
    obtain ⟨h1, b2⟩ : e = .returned (.int .i64 (-1)) ∧ Below w.heap.size w w2 := hq
    subst h1
    have HB := Lib.hid b2
    clear b2
    go_wp2_with fail
    go_ret
    exact HFIN.out w2 HB.out
  · rw [hz] at HI
    have hk : k < n := by rw [← hln]; exact (List.getElem?_eq_some_iff.1 ho).1
    obtain ⟨g, hg⟩ : ∃ g, A = some ⟨g, 0, none⟩ := by
      rcases hr.2 with ⟨_, h1⟩ | ⟨g, cap, cur, h1, _⟩
      · omega
      · injection h1 with h1; exact ⟨g, h1⟩
    subst hg
    obtain ⟨arr0, hcl, hsz, har⟩ : ∃ arr0, Cl w g arr0 157 ∧ arr0.size = c ∧ ∀ (t : Nat) (x : Ob), os[t]? = some x → arr0[t]? = some (obP x) := by
      rcases hr.2 with ⟨h1, _⟩ | ⟨g', cap, cur, h1, hb, hg, h2, h3, h4, h5⟩
      · injection h1 with h1; cases h1
      · injection h1 with h1 _ h7
        injection h1 with h1
        injection h1 with h1
        subst h1 h7
        refine ⟨cur, hg, by omega, fun t x hx => ?_⟩
        have h6 : (os.map obP)[t]? = some (obP x) := by rw [List.getElem?_map, hx]; rfl
        rw [← h5, List.getElem?_take] at h6
        split at h6
        · simpa using h6
        · cases h6
    have hbase := (OwnV.lt hr g rfl).1
    have HARR := Lib.hid har
    have HBASE := Lib.hid hbase
    have HST : Hid (∀ w2, Below w.heap.size w w2 → DlS w g c arr0 os P k (k + 1) w2) := Lib.hid (fun w2 b2 => ⟨arr0, hcl.below b2, hsz, (fun t x hx => by
      rw [hfl, List.getElem?_take] at hx
      split at hx
      · exact har t x hx
      · cases hx), by rw [hfl, List.length_take]; omega, fun _ _ => rfl, Fr.of_below b2 _⟩)
    clear hf hr hobs hz hfl hcl hsz har hbase ho
    go_enter Try.func100, Try.ntmps100
    go_wp2_with fail
    with_reducible refine HI.out.mono ?_
    intro e w2 hq
    obtain ⟨h1, b2⟩ : e = .returned (.int .i64 (k : Int)) ∧ Below w.heap.size w w2 := hq
    subst h1
    have HS0 := Lib.hid (HST.out w2 b2)
    have ek : ((k : Int) == -1) = false := by rw [beq_eq_false_iff_ne]; omega
    clear b2 HST HI
    go_wp2_with fail
    go_loopw [5, 6] (fun s5 s6 wr => ∃ i j : Nat, s5 = .int .i64 (i : Int) ∧ s6 = .int .i64 (j : Int) ∧ i < j ∧ j ≤ n ∧ DlS w g c arr0 os P i j wr) (fun _ s _ => n - (intOf s).toNat)
    case atStart => exact ⟨k, k + 1, rfl, by go_num, by omega, by omega, HS0.out⟩
    case round =>
      obtain ⟨i, j, rfl, rfl, hij, hjn, hS⟩ := hrel
      have HS := Lib.hid hS
      by_cases hlt : j < n
      · obtain ⟨o, ho⟩ : ∃ o, os[j]? = some o := ⟨_, List.getElem?_eq_getElem (by rw [HL.out]; exact hlt)⟩
        obtain ⟨arr, h1, h2, h3, h4, h5, h6⟩ := hS
        have cj : wr.cell? ⟨g, j, none⟩ = some (.pointer (some ⟨o.b, 0, none⟩)) := by rw [h1.cell, h5 j (Nat.le_refl _)]; exact HARR.out j o ho
        obtain ⟨z, hz⟩ : ∃ z, z = P o := ⟨_, rfl⟩
        have HC : Hid (Calls Try.prog f0 (#[.pointer (some ⟨o.b, 0, none⟩)] ++ cb) wr (RetT wr z)) := Lib.hid (by rw [hz]; exact HF.out wr h6 o (List.mem_of_getElem? ho))
        have HO := Lib.hid ho
        have HZ := Lib.hid hz.symm
        have HOP : Hid (obP o = .pointer (some ⟨o.b, 0, none⟩)) := Lib.hid rfl
        obtain ⟨ob, hob⟩ : ∃ ob, ob = o.b := ⟨_, rfl⟩
        rw [← hob] at cj HC HOP
        have hin : i < n := by omega
        have hic : i < c := by omega
        have HK : Hid (∀ w3, Below wr.heap.size wr w3 → w3.cell? ⟨g, i, none⟩ = some (arr[i]'(by omega)) ∧ w3.frozen? ⟨g, i, none⟩ = false) := Lib.hid (fun w3 hb => ⟨by rw [(h1.below hb).cell, Array.getElem?_eq_getElem (by omega)], (h1.below hb).thaw _⟩)
        obtain ⟨old, hold⟩ : ∃ old, old = arr[i]'(by omega) := ⟨_, rfl⟩
        rw [← hold] at HK
        clear ho hz hob hold h1 h2 h3 h4 h5 h6
        go_wp2_with fail
        with_reducible refine HC.out.mono ?_
        intro e w3 hq
        obtain ⟨h1, b3⟩ := RetT.outD hq
        subst h1
        cases z with
        | true =>
          have HQ := Lib.hid ((HS.out.below b3).skip HO.out HZ.out)
          clear hq b3 cj HC HK
          go_wp2_with fail
          go_roundw
          case rel => exact ⟨i, j + 1, rfl, by go_num, by omega, by omega, HQ.out⟩
          case measure => simp [intOf]; omega
        | false =>
          have HQ : Hid (DlS w g c arr0 os P (i + 1) (j + 1) (w3.setCell ⟨g, i, none⟩ (.pointer (some ⟨ob, 0, none⟩)))) := Lib.hid (by rw [← HOP.out]; exact (HS.out.below b3).put HO.out HZ.out hij hic)
          obtain ⟨k1, k2⟩ := HK.out w3 b3
          clear hq b3 cj HC HK
          go_wp2_with fail
          go_roundw
          case rel => exact ⟨i + 1, j + 1, by go_num, by go_num, by omega, by omega, HQ.out⟩
          case measure => simp [intOf]; omega
      · obtain rfl : j = n := by omega
        obtain ⟨arr, h1, h2, h3, h4, h5, h6⟩ := hS
        have hcl : ∀ ty, (Builtin.clear_ #[89] ty #[.slice (some ⟨g, i, none⟩) (j - i) (c - i)]).run Try.prog wr = .ok (.tuple #[]) (wr.setCells g i (List.replicate (j - i) (.pointer none))) :=
          fun ty => Lib.run_clear_slice wr _ _ ty _ Try.underlying89 Try.zeroValue157 rfl rfl g i _ _ (by omega) (fun j hj => by rw [h1.cell, Array.getElem?_eq_getElem (by omega)]; rfl) (fun j hj => h1.thaw _)
        have htk : os.take j = os := List.take_of_length_le (by rw [HL.out]; exact Nat.le_refl _)
        rw [htk] at h3 h4
        have HFIN : Hid (RetDel w base (some ⟨g, 0, none⟩) c os P (.returned (.slice (some ⟨g, 0, none⟩) i c)) (wr.setCells g i (List.replicate (j - i) (.pointer none)))) := Lib.hid (by
          obtain ⟨brr, q1, q2, q3, q4⟩ := cl_setCellsL (List.replicate (j - i) (.pointer none)) i h1
          refine ⟨by rw [h4], ?_, h6.trans q4 (fun b hb => .inl hb)⟩
          rw [h4]
          refine ⟨by simp [h4], .inr ⟨g, c, brr, rfl, HBASE.out, q1, by omega, hcap.2, by omega, ?_⟩⟩
          apply List.ext_getElem?
          intro t
          have hl : ((os.filter (fun x => !P x)).map obP).length = i := by simp [h4]
          by_cases ht : t < i
          · rw [List.getElem?_take_of_lt (by omega), Array.getElem?_toList, q3 t ht]
            obtain ⟨x, hx⟩ : ∃ x, (os.filter (fun x => !P x))[t]? = some x := ⟨_, List.getElem?_eq_getElem (by omega)⟩
            rw [h3 t x hx, List.getElem?_map, hx]
            rfl
          · rw [List.getElem?_take_eq_none (by omega), List.getElem?_eq_none (by omega)])
        have hl3 : i ≤ j := by omega
        have hl4 : i ≤ c := by omega
        clear h1 h2 h3 h4 h5 h6 htk
        go_wp2_with fail
        go_ret
        exact HFIN.out
end
/-- What a call that turns the table comes to: a list of names; the table behind it. -/
def RetGg (w : World) (bs p : Nat) (OA : Option Addr) (turns : Nat) (os0 : List Ob) (R : List (Nat × Nat) → List Ob → Prop) (e : Ending) (w' : World) : Prop := ∃ (L : Option Addr) (d : Nat) (out : List (Nat × Nat)) (OA' : Option Addr) (oc' : Nat) (os' : List Ob), e = .returned (.slice L out.length d) ∧ OwnX w' w.heap.size L out.length d (flatX out) ∧ TkAt w' bs p OA' oc' turns os' ∧ Fr w w' (tbl p OA os0) ∧ (∀ b ∈ tbl p OA' os', b ∈ tbl p OA os0 ∨ w.heap.size ≤ b) ∧ (∀ u ∈ os', SzO u) ∧ R out os'
theorem RetGg.out {w : World} {bs p : Nat} {OA : Option Addr} {turns : Nat} {os0 : List Ob} {R : List (Nat × Nat) → List Ob → Prop} {e : Ending} {w' : World} (h : RetGg w bs p OA turns os0 R e w') : ∃ (L : Option Addr) (d : Nat) (out : List (Nat × Nat)) (OA' : Option Addr) (oc' : Nat) (os' : List Ob), e = .returned (.slice L out.length d) ∧ OwnX w' w.heap.size L out.length d (flatX out) ∧ TkAt w' bs p OA' oc' turns os' ∧ Fr w w' (tbl p OA os0) ∧ (∀ b ∈ tbl p OA' os', b ∈ tbl p OA os0 ∨ w.heap.size ≤ b) ∧ (∀ u ∈ os', SzO u) ∧ R out os' := h
/-- Those that can go do. -/
def MvR (os1 : List Ob) (out : List (Nat × Nat)) (os' : List Ob) : Prop := ∃ lo : List Ob, lo.Perm (os1.filter posO) ∧ lo.Pairwise (fun a b => a.turn ≤ b.turn) ∧ Mv os1 (lo.map (·.b)) out os'
section
variable {w : World} {bs p : Nat} {OA : Option Addr} {oc turns : Nat} {os : List Ob}
set_option maxRecDepth 100000 in
set_option maxHeartbeats 4000000 in
theorem rel1_any {g s q : Nat} {o : Ob} (hg : Cl w g #[.int .u64 (s : Int), .int .u64 (q : Int)] 83) (ho : ObAt w bs o) : Calls Try.prog 101 #[.pointer (some ⟨o.b, 0, none⟩), .pointer (some ⟨g, 0, none⟩)] w (RetT w (isO s q o)) := by
  have c0 := hg.cell 0
  have c1 := hg.cell 1
  have d0 := ho.k0
  have d1 := ho.k1
  have heq := eqTxn (o.s : Int) (o.q : Int) (s : Int) (q : Int)
  obtain ⟨ob, hob⟩ : ∃ ob, ob = o.b := ⟨_, rfl⟩
  rw [← hob] at d0 d1 ⊢
  clear hg ho hob
  go_enter Try.func101, Try.ntmps101
  go_wp2_with fail
  go_quiet (fail)
  clear heq
  go_wp2_with fail
  go_ret
  exact ⟨rfl, below_drewN (Below.refl _ _) nq⟩
theorem tk_filter {w w2 : World} {m : Nat} (P : Ob → Bool) (h : TkAt w bs p OA oc turns os) (hm : (os.filter (fun x => !P x)).length = m) (ho : OwnV 157 w2 bs OA m oc ((os.filter (fun x => !P x)).map obP)) (hf : Fr w w2 (blk OA).toList) :
    TkAt (w2.setCell ⟨p, 0, none⟩ (.slice OA m oc)) bs p OA oc turns (os.filter (fun x => !P x)) ∧ Fr w (w2.setCell ⟨p, 0, none⟩ (.slice OA m oc)) (tbl p OA os) ∧ Cl w2 p #[.slice OA os.length oc, .int .u64 (turns : Int)] 91 := by
  have hpOA : p ∉ (blk OA).toList := fun hm => cl_row h.cl h.row (by decide) (by simpa using hm)
  have hcl2 : Cl w2 p #[.slice OA os.length oc, .int .u64 (turns : Int)] 91 := (hf.block p h.cl.lt hpOA).trans h.cl
  have f2 : Fr w2 (w2.setCell ⟨p, 0, none⟩ (.slice OA m oc)) [p] := Fr.set _ _ _ _
  have nb : NoBy w (blk OA).toList := NoBy.row h.row (by decide)
  refine ⟨⟨?_, h.ge, ?_, ?_, h.dis.filter _⟩, ?_, hcl2⟩
  · have := hcl2.set 0 (.slice OA m oc)
    rw [hm]
    exact this
  · rw [hm]
    exact ho.frK f2 (fun b hb hm2 => by
      obtain rfl : b = p := by simpa using hm2
      exact hpOA (by simpa using hb))
  · intro u hu
    have hu' := (List.mem_filter.1 hu).1
    have h1 := h.obs u hu'
    have h2 : ObAt w2 bs u := h1.fr hf (fun hm2 => h.ne_row h1 u.b (by simpa using hm2) (by simp)) (fun k hk hm2 => h.ne_row h1 k (by simpa using hm2) (by simp [hk])) nb
    refine h2.fr f2 (fun hm2 => ?_) (fun k hk hm2 => ?_) (NoBy.cl hcl2 (by decide))
    · have e : u.b = p := by simpa using hm2
      exact h.ne_ob h1 (by simp [e])
    · obtain rfl : k = p := by simpa using hm2
      exact h.ne_ob h1 (by simp [hk])
  · have f1 : Fr w w2 (tbl p OA os) := hf.mono (fun b hb => .inl (mem_tbl.2 (.inr (.inl (by simpa using hb)))))
    exact f1.trans f2 (fun b hb => .inl (mem_tbl.2 (.inl (by simpa using hb))))
theorem tbl_filter (P : Ob → Bool) : ∀ b ∈ tbl p OA (os.filter P), b ∈ tbl p OA os := fun b hb => by
  rcases mem_tbl.1 hb with h | h | ⟨u, hu, h⟩
  · exact mem_tbl.2 (.inl h)
  · exact mem_tbl.2 (.inr (.inl h))
  · exact mem_tbl.2 (.inr (.inr ⟨u, (List.mem_filter.1 hu).1, h⟩))
set_option maxRecDepth 100000 in
set_option maxHeartbeats 4000000 in
theorem release_any (h : TkAt w bs p OA oc turns os) (hn : os.length ≤ 1099511627776) (su : ∀ u ∈ os, SzO u) (s q : Nat) : Calls Try.prog 42 #[.pointer (some ⟨p, 0, none⟩), .agg #[.int .u64 (s : Int), .int .u64 (q : Int)]] w (RetGg w bs p OA turns os (MvR (os.filter fun o => !isO s q o))) := by
  obtain ⟨W, hW⟩ : ∃ W, W = w.alloc (.cells #[.int .u64 (s : Int), .int .u64 (q : Int)] 83) := ⟨_, rfl⟩
  have bW : Below w.heap.size w W := by rw [hW]; exact (Below.refl _ _).alloc (Nat.le_refl _) _
  have zW : Cl W w.heap.size #[.int .u64 (s : Int), .int .u64 (q : Int)] 83 := by rw [hW]; exact Cl.new _ _ _
  have hT := h.below bW
  have HD : Hid (Calls Try.prog 100 #[.slice OA os.length oc, .func (.func 101) #[] #[.pointer (some ⟨w.heap.size, 0, none⟩)]] W (RetDel W bs OA oc os (isO s q))) := Lib.hid (delete_any 101 #[.pointer (some ⟨w.heap.size, 0, none⟩)] (isO s q) (fun _ _ => rfl) hT.row hT.obs hn (fun wx hf o ho => by
    have h1 := hT.obs o ho
    have h2 : ObAt wx bs o := h1.fr hf (fun hm2 => hT.ne_row h1 o.b (by simpa using hm2) (by simp)) (fun k hk hm2 => hT.ne_row h1 k (by simpa using hm2) (by simp [hk])) (NoBy.row hT.row (by decide))
    have h3 : Cl wx w.heap.size #[.int .u64 (s : Int), .int .u64 (q : Int)] 83 := (hf.block _ zW.lt (fun hm2 => by
      have := (OwnV.lt h.row w.heap.size (by simpa using hm2)).2
      omega)).trans zW
    exact rel1_any h3 h2))
  have HT := Lib.hid hT
  have HW := Lib.hid hW
  have HB := Lib.hid bW
  have HN := Lib.hid hn
  have HSU := Lib.hid su
  obtain ⟨n, hn2⟩ : ∃ n, n = os.length := ⟨_, rfl⟩
  have k0 : W.cell? ⟨p, 0, none⟩ = some (.slice OA n oc) := by rw [hn2]; exact hT.k0
  rw [← hn2] at HD
  have HN2 := Lib.hid hn2
  clear h bW zW hT hn su hW hn2
  go_enter Try.func42, Try.ntmps42
  go_upto_region 1 with (fail)
  rw [← HW.out]
  go_wp2_with fail
  with_reducible refine HD.out.mono ?_
  intro e w2 hq
  obtain ⟨h1, hown, hfr⟩ := hq.out
  obtain ⟨m, hm⟩ : ∃ m, (os.filter fun o => !isO s q o).length = m := ⟨_, rfl⟩
  rw [hm] at h1 hown
  subst h1
  obtain ⟨t1, t2, t3⟩ := tk_filter (isO s q) HT.out hm hown hfr
  have kp := t3.cell 0
  have fp := t3.thaw 0
  have HMV : Hid (Calls Try.prog 102 #[.pointer (some ⟨p, 0, none⟩)] (w2.setCell ⟨p, 0, none⟩ (.slice OA m oc)) (RetMv (w2.setCell ⟨p, 0, none⟩ (.slice OA m oc)) bs p OA oc turns (os.filter fun o => !isO s q o))) := Lib.hid (move_any t1 (by have h1 := List.length_filter_le (fun o => !isO s q o) os; have h2 := HN.out; omega) (fun u hu => HSU.out u (List.mem_filter.1 hu).1))
  obtain ⟨w3, hw3⟩ : ∃ w3, w3 = w2.setCell ⟨p, 0, none⟩ (.slice OA m oc) := ⟨_, rfl⟩
  rw [← hw3] at HMV t2
  have HW3 := Lib.hid hw3
  have HT2 := Lib.hid t2
  clear hq hown hfr hm t1 t2 t3 hw3 HD
  go_wp2_with fail
  rw [← HW3.out]
  with_reducible refine HMV.out.mono ?_
  intro e w4 hq
  obtain ⟨L, d, out, os', lo, h1, hp, hpw, a1, a2, a3, a4, a5, a6, a7⟩ := hq.out
  subst h1
  have HF : Hid (RetGg w bs p OA turns os (MvR (os.filter fun o => !isO s q o)) (.returned (.slice L out.length d)) w4) := Lib.hid (by
    have s1 := HT2.out.size
    have s2 := HB.out.size
    refine ⟨L, d, out, OA, oc, os', rfl, a1.mono (by omega), a3, ?_, fun b hb => ?_, a6, lo, hp, hpw, a2⟩
    · have f1 : Fr w w3 (tbl p OA os) := (Fr.of_below HB.out (tbl p OA os)).trans HT2.out (fun b hb => .inl hb)
      exact f1.trans a4 (fun b hb => .inl (tbl_filter _ b hb))
    · rcases a5 b hb with h | h
      · exact .inl (tbl_filter _ b h)
      · exact .inr (by omega))
  clear hq hp hpw a1 a2 a3 a4 a5 a6 a7
  go_wp2_with fail
  go_ret
  exact HF.out
end
end Go.Proofs.Ytmpdenpopokigaa
namespace Go.Proofs.Ytmpdenpopokigaa
open Go Go.RowKit

/-- The owner who asks: found, or new. -/
def PutA (os : List Ob) (s q : Nat) (rs : List Rg) (t : Nat) (os1 : List Ob) (o1 : Ob) : Prop :=
  o1.asked = rs ∧ o1.turn = t ∧ ((∃ o, os.find? (isO s q) = some o ∧ o.turn = 0 ∧ (∃ A c, o1 = { o with aA := A, ac := c, asked := rs, turn := t }) ∧ os1 = updO os o1) ∨
  (os.find? (isO s q) = none ∧ o1.s = s ∧ o1.q = q ∧ o1.held = [] ∧ (∀ u ∈ os, u.b ≠ o1.b) ∧ os1 = os ++ [o1]))
/-- What Ask comes to, on plain data. -/
def AskR (os : List Ob) (turns s q : Nat) (rs : List Rg) (err st : Int) (vic gr : List (Nat × Nat)) (turns' : Nat) (os' : List Ob) : Prop :=
  (checkR rs ≠ 0 ∧ err = checkR rs ∧ st = 0 ∧ vic = [] ∧ gr = [] ∧ turns' = turns ∧ os' = os) ∨
  (checkR rs = 0 ∧ (∃ o, os.find? (isO s q) = some o ∧ 0 < o.turn) ∧ err = 7 ∧ st = 0 ∧ vic = [] ∧ gr = [] ∧ turns' = turns ∧ os' = os) ∨
  (checkR rs = 0 ∧ err = 0 ∧ turns' = turns + 1 ∧ ∃ os1 o1, PutA os s q rs (turns + 1) os1 o1 ∧ o1 ∈ os1 ∧
    ((os1.any (wfO o1) = false ∧ st = 1 ∧ vic = [] ∧ gr = [] ∧ ∃ A d, os' = updO os1 (takeO o1 A d)) ∨
     (os1.any (wfO o1) = true ∧ ∃ os2, Broke o1.b os1 vic os2 ∧ (∃ f ∈ os2, f.b = o1.b ∧ VicP os2 f none) ∧ MvR os2 gr os' ∧ ∃ oe ∈ os', oe.b = o1.b ∧ st = if (s, q) ∈ vic then 3 else if oe.turn = 0 then 1 else 2)))
def RetAsk (w : World) (bs p : Nat) (OA : Option Addr) (turns : Nat) (os : List Ob) (s q : Nat) (rs : List Rg) (e : Ending) (w' : World) : Prop := ∃ (st err : Int) (V G OA' : Option Addr) (vn vc gn gc oc' turns' : Nat) (vic gr : List (Nat × Nat)) (os' : List Ob),
  e = .returned (.tuple #[.agg #[.int .i64 st, .slice V vn vc, .slice G gn gc], .int .i64 err]) ∧ OwnX w' w.heap.size V vn vc (flatX vic) ∧ vic.length = vn ∧ OwnX w' w.heap.size G gn gc (flatX gr) ∧ gr.length = gn ∧
  TkAt w' bs p OA' oc' turns' os' ∧ Fr w w' (tbl p OA os) ∧ (∀ b ∈ tbl p OA' os', b ∈ tbl p OA os ∨ w.heap.size ≤ b) ∧ AskR os turns s q rs err st vic gr turns' os'
theorem RetAsk.out {w : World} {bs p : Nat} {OA : Option Addr} {turns : Nat} {os : List Ob} {s q : Nat} {rs : List Rg} {e : Ending} {w' : World} (h : RetAsk w bs p OA turns os s q rs e w') : ∃ (st err : Int) (V G OA' : Option Addr) (vn vc gn gc oc' turns' : Nat) (vic gr : List (Nat × Nat)) (os' : List Ob),
  e = .returned (.tuple #[.agg #[.int .i64 st, .slice V vn vc, .slice G gn gc], .int .i64 err]) ∧ OwnX w' w.heap.size V vn vc (flatX vic) ∧ vic.length = vn ∧ OwnX w' w.heap.size G gn gc (flatX gr) ∧ gr.length = gn ∧
  TkAt w' bs p OA' oc' turns' os' ∧ Fr w w' (tbl p OA os) ∧ (∀ b ∈ tbl p OA' os', b ∈ tbl p OA os ∨ w.heap.size ≤ b) ∧ AskR os turns s q rs err st vic gr turns' os' := h
def newO (b s q : Nat) : Ob := { b := b, s := s, q := q, hA := none, hc := 0, held := [], aA := none, ac := 0, asked := [], turn := 0 }
/-- The table with one owner more. -/
theorem tk_push {w w6 : World} {bs p : Nat} {OA OA1 : Option Addr} {oc oc1 turns s q : Nat} {os : List Ob} (h : TkAt w bs p OA oc turns os) (hbs : bs ≤ w.heap.size) {V : World} (hV : Below w.heap.size w V) (hz : Cl V w.heap.size #[.int .u64 (s : Int), .int .u64 (q : Int), .slice none 0 0, .slice none 0 0, .int .u64 0] 164)
    (hown : OwnV 157 w6 bs OA1 (os.length + 1) oc1 (os.map obP ++ [.pointer (some ⟨w.heap.size, 0, none⟩)])) (hg : V.grownBy w6 (blk OA)) (h3 : blk OA1 = blk OA ∨ blk OA1 = some V.heap.size) :
    TkAt (w6.setCell ⟨p, 0, none⟩ (.slice OA1 (os.length + 1) oc1)) bs p OA1 oc1 turns (os ++ [newO w.heap.size s q]) ∧ Fr w (w6.setCell ⟨p, 0, none⟩ (.slice OA1 (os.length + 1) oc1)) (tbl p OA os) ∧ (∀ b ∈ tbl p OA1 (os ++ [newO w.heap.size s q]), b ∈ tbl p OA os ∨ w.heap.size ≤ b) ∧ Cl w6 p #[.slice OA os.length oc, .int .u64 (turns : Int)] 91 := by
  have sV := hV.size
  have hT := h.below hV
  have hOlt : ∀ b, blk OA = some b → b < w.heap.size := fun b hb => (OwnV.lt h.row b hb).2
  have hf6 : Fr V w6 (blk OA).toList := Fr.of_grown hg (fun b hb => by simp [hb])
  have nb : NoBy V (blk OA).toList := NoBy.row hT.row (by decide)
  have hpOA : p ∉ (blk OA).toList := fun hm => cl_row h.cl h.row (by decide) (by simpa using hm)
  have hcl6 : Cl w6 p #[.slice OA os.length oc, .int .u64 (turns : Int)] 91 := (hf6.block p hT.cl.lt hpOA).trans hT.cl
  have hz6 : Cl w6 w.heap.size #[.int .u64 (s : Int), .int .u64 (q : Int), .slice none 0 0, .slice none 0 0, .int .u64 0] 164 := (hf6.block _ hz.lt (fun hm => by
    have := hOlt w.heap.size (by simpa using hm)
    omega)).trans hz
  have f7 : Fr w6 (w6.setCell ⟨p, 0, none⟩ (.slice OA1 (os.length + 1) oc1)) [p] := Fr.set _ _ _ _
  have hplt : p < w.heap.size := h.cl.lt
  have nb6 : NoBy w6 [p] := NoBy.cl hcl6 (by decide)
  refine ⟨⟨?_, h.ge, ?_, ?_, ?_⟩, ?_, ?_, hcl6⟩
  · have := hcl6.set 0 (.slice OA1 (os.length + 1) oc1)
    simpa using this
  · have e1 : (os ++ [newO w.heap.size s q]).map obP = os.map obP ++ [.pointer (some ⟨w.heap.size, 0, none⟩)] := by rw [List.map_append]; rfl
    have e2 : (os ++ [newO w.heap.size s q]).length = os.length + 1 := by simp
    rw [e1, e2]
    exact hown.frK f7 (fun b hb hm => by
      have e : b = p := by simpa using hm
      subst e
      exact cl_row hcl6 hown (by decide) hb)
  · intro u hu
    rcases List.mem_append.1 hu with hu | hu
    · have h1 := hT.obs u hu
      have h2 : ObAt w6 bs u := h1.fr hf6 (fun hm2 => hT.ne_row h1 u.b (by simpa using hm2) (by simp)) (fun k hk hm2 => hT.ne_row h1 k (by simpa using hm2) (by simp [hk])) nb
      refine h2.fr f7 (fun hm2 => ?_) (fun k hk hm2 => ?_) nb6
      · have e : u.b = p := by simpa using hm2
        exact hT.ne_ob h1 (by simp [e])
      · obtain rfl : k = p := by simpa using hm2
        exact hT.ne_ob h1 (by simp [hk])
    · obtain rfl := List.mem_singleton.1 hu
      refine ⟨(f7.block _ hz6.lt (by simp; omega)).trans hz6, hbs, RgAt.nil _ _, RgAt.nil _ _, ?_⟩
      show ([] ++ [] : List Nat).Nodup
      simp
  · rw [List.pairwise_append]
    refine ⟨h.dis, List.pairwise_singleton _ _, fun u hu v hv => ?_⟩
    obtain rfl := List.mem_singleton.1 hv
    refine ⟨?_, fun k _ hm => by cases hm⟩
    have := (h.obs u hu).lt
    show u.b ≠ w.heap.size
    omega
  · have f1 : Fr w w6 (tbl p OA os) := (Fr.of_below hV (tbl p OA os)).trans hf6 (fun b hb => .inl (mem_tbl.2 (.inr (.inl (by simpa using hb)))))
    exact f1.trans f7 (fun b hb => .inl (mem_tbl.2 (.inl (by simpa using hb))))
  · intro b hb
    rcases mem_tbl.1 hb with h1 | h1 | ⟨u, hu, h1⟩
    · exact .inl (mem_tbl.2 (.inl h1))
    · rcases h3 with h3 | h3
      · exact .inl (mem_tbl.2 (.inr (.inl (by rw [← h3]; exact h1))))
      · rw [h3] at h1
        injection h1 with h1
        exact .inr (by omega)
    · rcases List.mem_append.1 hu with hu | hu
      · exact .inl (mem_tbl.2 (.inr (.inr ⟨u, hu, h1⟩)))
      · obtain rfl := List.mem_singleton.1 hu
        rcases h1 with h1 | h1
        · exact .inr (by rw [h1]; exact Nat.le_refl _)
        · cases h1
theorem tk_turns {w : World} {bs p : Nat} {OA : Option Addr} {oc turns t2 : Nat} {os : List Ob} (h : TkAt w bs p OA oc turns os) : TkAt (w.setCell ⟨p, 1, none⟩ (.int .u64 (t2 : Int))) bs p OA oc t2 os := by
  have hf : Fr w (w.setCell ⟨p, 1, none⟩ (.int .u64 (t2 : Int))) [p] := Fr.set _ _ _ _
  have hpOA : p ∉ (blk OA).toList := fun hm => cl_row h.cl h.row (by decide) (by simpa using hm)
  refine ⟨h.cl.set 1 _, h.ge, h.row.frK hf (fun b hb hm => hpOA (by
    obtain rfl : b = p := by simpa using hm
    simpa using hb)), fun u hu => ?_, h.dis⟩
  have h1 := h.obs u hu
  refine h1.fr hf (fun hm2 => ?_) (fun k hk hm2 => ?_) (NoBy.cl h.cl (by decide))
  · have e : u.b = p := by simpa using hm2
    exact h.ne_ob h1 (by simp [e])
  · obtain rfl : k = p := by simpa using hm2
    exact h.ne_ob h1 (by simp [hk])
/-- An owner's wish is laid down. -/
def wishO (o : Ob) (A : Option Addr) (c : Nat) (rs : List Rg) (t : Nat) : Ob := { o with aA := A, ac := c, asked := rs, turn := t }
theorem tk_wish {w w6 : World} {bs p : Nat} {OA L : Option Addr} {oc turns n2 c2 t2 : Nat} {os : List Ob} {o : Ob} {rs : List Rg} {ps : List VB} (h : TkAt w bs p OA oc turns os) (ho : o ∈ os) (hbs : bs ≤ w.heap.size) (hrow : RowGr w w.heap.size L n2 c2 rs ps w6) :
    TkAt ((w6.setCell ⟨o.b, 3, none⟩ (.slice L n2 c2)).setCell ⟨o.b, 4, none⟩ (.int .u64 (t2 : Int))) bs p OA oc turns (updO os (wishO o L c2 rs t2)) ∧ Fr w ((w6.setCell ⟨o.b, 3, none⟩ (.slice L n2 c2)).setCell ⟨o.b, 4, none⟩ (.int .u64 (t2 : Int))) (tbl p OA os) ∧ (∀ b ∈ tbl p OA (updO os (wishO o L c2 rs t2)), b ∈ tbl p OA os ∨ w.heap.size ≤ b) := by
  have hb6 := hrow.bel
  have h6 := h.below hb6
  have ho6 := h6.obs o ho
  have hf : Fr w6 ((w6.setCell ⟨o.b, 3, none⟩ (.slice L n2 c2)).setCell ⟨o.b, 4, none⟩ (.int .u64 (t2 : Int))) [o.b] := (Fr.set _ _ _ _).trans (Fr.set _ _ _ _) (fun b hb => .inl hb)
  have hf2 : Fr w6 ((w6.setCell ⟨o.b, 3, none⟩ (.slice L n2 c2)).setCell ⟨o.b, 4, none⟩ (.int .u64 (t2 : Int))) (o.b :: o.rows) := hf.mono (fun b hb => .inl (by simp at hb; simp [hb]))
  have hnb : NoBy w6 [o.b] := NoBy.cl ho6.cl (by decide)
  have hLlt : ∀ b, blk L = some b → w.heap.size ≤ b := fun b hb => (hrow.own.lt b hb).1
  have hx : ObAt ((w6.setCell ⟨o.b, 3, none⟩ (.slice L n2 c2)).setCell ⟨o.b, 4, none⟩ (.int .u64 (t2 : Int))) bs (wishO o L c2 rs t2) := by
    refine ⟨?_, ho6.ge, ?_, ?_, ?_⟩
    · have := (ho6.cl.set 3 (.slice L n2 c2)).set 4 (.int .u64 (t2 : Int))
      rw [← hrow.len] at this ⊢
      exact this
    · refine ho6.hR.fr hf (fun b hb hm => ?_) hnb
      obtain rfl : b = o.b := by simpa using hm
      exact ho6.hR.ne_cl ho6.cl (by decide) hb
    · have hR : RgAt w6 bs L c2 rs := ⟨ps, by rw [hrow.len]; exact hrow.own.mono hbs, FamW.of hrow.fam hbs, hrow.dat⟩
      refine hR.fr hf (fun b hb hm => ?_) hnb
      obtain rfl : b = o.b := by simpa using hm
      have h1 := hLlt o.b hb
      have h2 := (h.obs o ho).lt
      omega
    · have h1 := ho6.nd
      unfold Ob.rows at h1 ⊢
      refine List.nodup_append.2 ⟨(List.nodup_append.1 h1).1, ?_, fun a ha b hb e => ?_⟩
      · cases hA : blk (wishO o L c2 rs t2).aA <;> simp
      · subst e
        simp only [Option.mem_toList] at ha hb
        have h2 := ((h.obs o ho).hR.lt a ha).2
        have h3 := hLlt a hb
        omega
  have hr : ∀ b ∈ (wishO o L c2 rs t2).rows, b ∈ o.rows ∨ w.heap.size ≤ b := fun b hb => by
    rcases mem_rows.1 hb with hb | hb
    · exact .inl (mem_rows.2 (.inl hb))
    · exact .inr (hLlt b hb)
  refine ⟨?_, ?_, tbl_upd (x := wishO o L c2 rs t2) ho rfl hr⟩
  · exact h.upd ho ((Fr.of_below hb6 (o.b :: o.rows)).trans hf2 (fun b hb => .inl hb)) hx rfl hr
  · exact (Fr.of_below hb6 (tbl p OA os)).trans hf (fun b hb => .inl (mem_tbl.2 (.inr (.inr ⟨o, ho, .inl (by simpa using hb)⟩))))
theorem Cl.st3L {w : World} {g : Nat} {a0 a1 a2 : Value} {t : TypeId} (h : Cl w g #[a0, a1, a2] t) (v0 v1 v2 : Value) : Cl (((w.setCell ⟨g, 0, none⟩ v0).setCell ⟨g, 1, none⟩ v1).setCell ⟨g, 2, none⟩ v2) g #[v0, v1, v2] t ∧ (w.setCell ⟨g, 0, none⟩ v0).cell? ⟨g, 1, none⟩ = some a1 ∧ (w.setCell ⟨g, 0, none⟩ v0).frozen? ⟨g, 1, none⟩ = false ∧ ((w.setCell ⟨g, 0, none⟩ v0).setCell ⟨g, 1, none⟩ v1).cell? ⟨g, 2, none⟩ = some a2 ∧ ((w.setCell ⟨g, 0, none⟩ v0).setCell ⟨g, 1, none⟩ v1).frozen? ⟨g, 2, none⟩ = false := by
  have h1 := h.set 0 v0
  have h2 := h1.set 1 v1
  exact ⟨h2.set 2 v2, h1.cell 1, h1.thaw 1, h2.cell 2, h2.thaw 2⟩
/-- What stands behind the wish. -/
def WshC (W : World) (bs p : Nat) (OA OA1 : Option Addr) (oc1 t2 : Nat) (os os1 : List Ob) (o0 : Ob) (rs : List Rg) (wx : World) : Prop := ∃ (L : Option Addr) (c2 : Nat), TkAt wx bs p OA1 oc1 t2 (updO os1 (wishO o0 L c2 rs t2)) ∧ Fr W wx (tbl p OA os) ∧ (∀ b ∈ tbl p OA1 (updO os1 (wishO o0 L c2 rs t2)), b ∈ tbl p OA os ∨ W.heap.size ≤ b)
theorem Broke.szO {fb : Nat} {os0 os : List Ob} {out : List (Nat × Nat)} (h : Broke fb os0 out os) (h0 : ∀ u ∈ os0, SzO u) : ∀ u ∈ os, SzO u := by
  induction h with
  | start => exact h0
  | step _ _ _ hv ih => exact updO_szO ih (give_szO (ih _ (by obtain ⟨i, hi, _⟩ := hv; exact List.mem_of_getElem? hi)))
theorem Broke.len {fb : Nat} {os0 os : List Ob} {out : List (Nat × Nat)} (h : Broke fb os0 out os) : os.length = os0.length := by
  induction h with
  | start => rfl
  | step _ _ _ _ ih => rw [updO_len]; exact ih
theorem ask_fin {w W w9 : World} {bs p : Nat} {OA OA' V G : Option Addr} {turns oc' turns' vn vc gn gc s q : Nat} {os os' : List Ob} {vic gr : List (Nat × Nat)} {rs : List Rg} {st err : Int} {a0 a1 a2 : Value} (hB : Below w.heap.size w W) (hsW : W.heap.size = w.heap.size + 2) (hTB : ∀ b ∈ tbl p OA os, b < w.heap.size)
    (hT : TkAt w9 bs p OA' oc' turns' os') (hF : Fr W w9 (tbl p OA os)) (hB9 : ∀ b ∈ tbl p OA' os', b ∈ tbl p OA os ∨ W.heap.size ≤ b) (zR : Cl w9 (w.heap.size + 1) #[a0, a1, a2] 93) (hV : OwnX w9 W.heap.size V vn vc (flatX vic)) (hvn : vic.length = vn) (hG : OwnX w9 W.heap.size G gn gc (flatX gr)) (hgn : gr.length = gn) (hA : AskR os turns s q rs err st vic gr turns' os') :
    RetAsk w bs p OA turns os s q rs (.returned (.tuple #[.agg #[.int .i64 st, .slice V vn vc, .slice G gn gc], .int .i64 err])) (((w9.setCell ⟨w.heap.size + 1, 0, none⟩ (.int .i64 st)).setCell ⟨w.heap.size + 1, 1, none⟩ (.slice V vn vc)).setCell ⟨w.heap.size + 1, 2, none⟩ (.slice G gn gc)) := by
  have hf : Fr w9 (((w9.setCell ⟨w.heap.size + 1, 0, none⟩ (.int .i64 st)).setCell ⟨w.heap.size + 1, 1, none⟩ (.slice V vn vc)).setCell ⟨w.heap.size + 1, 2, none⟩ (.slice G gn gc)) [w.heap.size + 1] := ((Fr.set _ _ _ _).trans (Fr.set _ _ _ _) (fun b hb => .inl hb)).trans (Fr.set _ _ _ _) (fun b hb => .inl hb)
  have hoff : ∀ {D : Option Addr} {dn dc : Nat} {vs : List Value}, OwnX w9 W.heap.size D dn dc vs → ∀ b, blk D = some b → b ∉ [w.heap.size + 1] := fun h b hb hm => by
    have h1 := (h.lt b hb).1
    have e : b = w.heap.size + 1 := by simpa using hm
    omega
  refine ⟨st, err, V, G, OA', vn, vc, gn, gc, oc', turns', vic, gr, os', rfl, (hV.fr hf (hoff hV)).mono hB.size, hvn, (hG.fr hf (hoff hG)).mono hB.size, hgn, hT.fr hf (fun b hb hm => ?_) (NoBy.cl zR (by decide)), ?_, fun b hb => (hB9 b hb).imp id (fun h => by have := hB.size; omega), hA⟩
  · have e : b = w.heap.size + 1 := by simpa using hm
    rcases hB9 b hb with h1 | h1
    · have := hTB b h1; omega
    · omega
  · refine ((Fr.of_below hB (tbl p OA os)).trans hF (fun b hb => .inl hb)).trans hf (fun b hb => .inr ?_)
    have e : b = w.heap.size + 1 := by simpa using hb
    omega
/-- The owner who asks, ahead of what it asks for. -/
def PreA (os : List Ob) (s q : Nat) (os1 : List Ob) (o0 : Ob) : Prop := o0 ∈ os1 ∧ o0.turn = 0 ∧ ((os.find? (isO s q) = some o0 ∧ os1 = os) ∨ (os.find? (isO s q) = none ∧ o0.s = s ∧ o0.q = q ∧ o0.held = [] ∧ o0.asked = [] ∧ (∀ u ∈ os, u.b ≠ o0.b) ∧ os1 = os ++ [o0]))
/-- What stands behind the switch. -/
def AskC (W : World) (bs p : Nat) (OA : Option Addr) (turns : Nat) (os : List Ob) (s q : Nat) (s9 : Value) (wx : World) : Prop := ∃ (o0 : Ob) (OA1 : Option Addr) (oc1 : Nat) (os1 : List Ob), s9 = .pointer (some ⟨o0.b, 0, none⟩) ∧ PreA os s q os1 o0 ∧ TkAt wx bs p OA1 oc1 turns os1 ∧ Fr W wx (tbl p OA os) ∧ (∀ b ∈ tbl p OA1 os1, b ∈ tbl p OA os ∨ W.heap.size ≤ b)
section
variable {w : World} {bs p : Nat} {OA : Option Addr} {oc turns : Nat} {os : List Ob}
set_option maxRecDepth 100000 in
set_option maxHeartbeats 16000000 in
theorem ask_any {A : Option Addr} {n c : Nat} {rs : List Rg} (h : TkAt w bs p OA oc turns os) (hn : os.length < 1099511627776) (hbs : bs ≤ w.heap.size) (ht : turns < 9223372036854775807) (su : ∀ u ∈ os, SzO u) (hsr : ∀ u ∈ os, u.held.length + n ≤ 1099511627776) (hrK : ∀ wx, Fr w wx (tbl p OA os) → RGr wx A n rs) (hrn : n ≤ 1099511627776) (hrs : SzG rs) (_hna : A = none → c = 0) (_hnc : n ≤ c) (s q : Nat) :
    Calls Try.prog 45 #[.pointer (some ⟨p, 0, none⟩), .agg #[.int .u64 (s : Int), .int .u64 (q : Int)], .slice A n c] w (RetAsk w bs p OA turns os s q rs) := by
  have hr : RGr w A n rs := hrK w (Fr.refl _ _)
  have HRK := Lib.hid hrK
  have HRN := Lib.hid hrn
  obtain ⟨W, hW⟩ : ∃ W, W = (w.alloc (.cells #[.int .u64 (s : Int), .int .u64 (q : Int)] 83)).alloc (.cells #[.int .i64 0, .slice none 0 0, .slice none 0 0] 93) := ⟨_, rfl⟩
  have bW : Below w.heap.size w W := by rw [hW]; exact ((Below.refl _ _).alloc (Nat.le_refl _) _).alloc (by simp) _
  have zT : Cl W w.heap.size #[.int .u64 (s : Int), .int .u64 (q : Int)] 83 := by rw [hW]; exact (Cl.new _ _ _).alloc _
  have zR : Cl W (w.heap.size + 1) #[.int .i64 0, .slice none 0 0, .slice none 0 0] 93 := by rw [hW]; exact Cl.newg _ _ _ _ (by simp)
  have sW : W.heap.size = w.heap.size + 2 := by rw [hW]; simp
  have hT := h.below bW
  have HCK := Lib.hid (check16_any (c := c) (hr.below bW) hrn)
  have HFI : Hid (∀ wx, Below W.heap.size W wx → Calls Try.prog 104 #[.pointer (some ⟨p, 0, none⟩), .agg #[.int .u64 (s : Int), .int .u64 (q : Int)]] wx (RetOb wx (os.find? (isO s q)))) := Lib.hid (fun wx hb => find_any16 (hT.below hb) (by omega) s q)
  have HT := Lib.hid hT
  have HW := Lib.hid hW
  have HB := Lib.hid bW
  have HSW := Lib.hid sW
  have HZR := Lib.hid zR
  have HZT := Lib.hid zT
  have HR := Lib.hid (hr.below bW)
  have HSU := Lib.hid su
  have HSR := Lib.hid hsr
  have HSG := Lib.hid hrs
  have HTB : Hid (∀ b ∈ tbl p OA os, b < w.heap.size) := Lib.hid (fun b hb => (h.bl_ge b hb).2)
  have HN := Lib.hid hn
  have HBS := Lib.hid hbs
  obtain ⟨ce, hce⟩ : ∃ ce, ce = checkR rs := ⟨_, rfl⟩
  rw [← hce] at HCK
  have HCE := Lib.hid hce
  have HSAME : Hid (∀ (err : Int) w2 (X : Array Value), Fr W w2 [w.heap.size + 1] → AskR os turns s q rs err 0 [] [] turns os → RetAsk w bs p OA turns os s q rs (.returned (.tuple #[.agg #[.int .i64 0, .slice none 0 0, .slice none 0 0], .int .i64 err])) w2) := Lib.hid (fun err w2 X hf ha => by
    refine ⟨0, err, none, none, OA, 0, 0, 0, 0, oc, turns, [], [], os, rfl, OwnX.nil _ _, rfl, OwnX.nil _ _, rfl, HT.out.fr hf (fun b hb hm => ?_) (NoBy.cl HZR.out (by decide)), ?_, fun b hb => .inl hb, ha⟩
    · have := HTB.out b hb
      have e : b = w.heap.size + 1 := by simpa using hm
      omega
    · exact (Fr.of_below HB.out (tbl p OA os)).trans hf (fun b hb => .inr (by have e : b = w.heap.size + 1 := by simpa using hb
                                                                              omega)))
  clear h hr hrK hrs su hsr hn hbs bW zT zR hT sW hW hce
  by_cases hc0 : ce = 0
  · have HC0 := Lib.hid hc0
    subst hc0
    by_cases hth : ∃ o, os.find? (isO s q) = some o ∧ 0 < o.turn
    · obtain ⟨o, hfo, hto⟩ := hth
      have hm := List.mem_of_find?_eq_some hfo
      obtain ⟨ob, hob⟩ : ∃ ob, ob = o.b := ⟨_, rfl⟩
      have HK4 : Hid (∀ wx, Below W.heap.size W wx → wx.cell? ⟨ob, 4, none⟩ = some (.int .u64 (o.turn : Int))) := Lib.hid (fun wx hb => by rw [hob]; exact ((HT.out.below hb).obs o hm).k4)
      obtain ⟨tn, htn⟩ : ∃ tn, tn = o.turn := ⟨_, rfl⟩
      have et : decide ((0 : Int) < (tn : Int)) = true := decide_eq_true (by omega)
      have et2 : (0 : Int) < (tn : Int) := by omega
      have et3 : 0 < tn := by omega
      rw [← htn] at HK4
      have HFI2 : Hid (∀ wx, Below W.heap.size W wx → Calls Try.prog 104 #[.pointer (some ⟨p, 0, none⟩), .agg #[.int .u64 (s : Int), .int .u64 (q : Int)]] wx (fun e w' => e = .returned (.pointer (some ⟨ob, 0, none⟩)) ∧ Below wx.heap.size wx w')) := Lib.hid (fun wx hb => by
        have h1 := HFI.out wx hb
        rw [hfo] at h1
        refine h1.mono (fun e w' hq => ?_)
        obtain ⟨h2, h3⟩ := hq.out
        exact ⟨by rw [h2, hob]; rfl, h3⟩)
      have HFO : Hid (∃ o, os.find? (isO s q) = some o ∧ 0 < o.turn) := Lib.hid ⟨o, hfo, hto⟩
      clear hfo hm hob HFI hto htn
      go_enter Try.func45, Try.ntmps45
      go_upto_region 1 with (fail)
      rw [← HW.out]
      go_wp2_with fail
      with_reducible refine HCK.out.mono ?_
      intro e w1 hq
      obtain ⟨h1, b1⟩ : e = .returned (.int .i64 0) ∧ Below W.heap.size W w1 := hq
      subst h1
      have HF1 := Lib.hid (HFI2.out w1 b1)
      have HB1 := Lib.hid b1
      have c0 : w1.cell? ⟨w.heap.size, 0, none⟩ = some (.int .u64 (s : Int)) := (HZT.out.below b1).cell 0
      have c1 : w1.cell? ⟨w.heap.size, 1, none⟩ = some (.int .u64 (q : Int)) := (HZT.out.below b1).cell 1
      clear b1
      go_wp2_with fail
      with_reducible refine HF1.out.mono ?_
      intro e w2 hq
      obtain ⟨h1, b2⟩ := hq
      subst h1
      have b2 := belowT' HB1.out b2
      have k4 := HK4.out w2 b2
      obtain ⟨y0, y1, y2, g0, g1, g2⟩ := (HZR.out.below b2).c3
      obtain ⟨x1, x2, x3, x4, x5⟩ := (HZR.out.below b2).st3L (.int .i64 0) (.slice none 0 0) (.slice none 0 0)
      have hc0 := x1.cell 0
      have hc1 := x1.cell 1
      have hc2 := x1.cell 2
      have HFIN := Lib.hid (HSAME.out 7 _ #[] ((((Fr.of_below b2 [w.heap.size + 1]).trans (Fr.set w2 (w.heap.size + 1) 0 (.int .i64 0)) (fun b hb => .inl hb)).trans (Fr.set _ (w.heap.size + 1) 1 (.slice none 0 0)) (fun b hb => .inl hb)).trans (Fr.set _ (w.heap.size + 1) 2 (.slice none 0 0)) (fun b hb => .inl hb)) (.inr (.inl ⟨HCE.out.symm, HFO.out, rfl, rfl, rfl, rfl, rfl, rfl⟩)))
      clear b2 x1 HFI2 HCK HSAME HF1
      as_aux_lemma =>
      go_wp2_with fail
      refine bodyPost_ret (v := .tuple #[.agg #[.int .i64 0, .slice none 0 0, .slice none 0 0], .int .i64 7]) (by simp [results, Try.f45, go_sem, hc0, hc1, hc2]) rfl ?_
      exact HFIN.out
    · have HTH := Lib.hid hth
      clear hth
      go_enter Try.func45, Try.ntmps45
      go_upto_region 1 with (fail)
      rw [← HW.out]
      go_wp2_with fail
      with_reducible refine HCK.out.mono ?_
      intro e w1 hq
      obtain ⟨h1, b1⟩ : e = .returned (.int .i64 0) ∧ Below W.heap.size W w1 := hq
      subst h1
      have HF1 := Lib.hid (HFI.out w1 b1)
      have HB1 := Lib.hid b1
      have c0 : w1.cell? ⟨w.heap.size, 0, none⟩ = some (.int .u64 (s : Int)) := (HZT.out.below b1).cell 0
      have c1 : w1.cell? ⟨w.heap.size, 1, none⟩ = some (.int .u64 (q : Int)) := (HZT.out.below b1).cell 1
      clear b1
      go_wp2_with fail
      with_reducible refine HF1.out.mono ?_
      intro e w2 hq
      obtain ⟨h1, b2⟩ := hq.out
      subst h1
      obtain ⟨pv, hpv⟩ : ∃ pv, pv = ptO (os.find? (isO s q)) := ⟨_, rfl⟩
      rw [← hpv]
      have HPV := Lib.hid hpv
      have HB2 := Lib.hid (belowT' HB1.out b2)
      clear hq b2 hpv c0 c1
      go_upto_block 0 with (fail)
      go_cut [9] from 20 to 41 (fun s9 wx => AskC W bs p OA turns os s q s9 wx)
      case first =>
        as_aux_lemma =>
        cases hf : os.find? (isO s q) with
        | none =>
          rw [hf] at HPV
          obtain rfl : pv = .pointer none := HPV.out
          have HFN := Lib.hid hf
          clear hf
          have hT2 := HT.out.below HB2.out
          have c0 : w2.cell? ⟨w.heap.size, 0, none⟩ = some (.int .u64 (s : Int)) := (HZT.out.below HB2.out).cell 0
          have c1 : w2.cell? ⟨w.heap.size, 1, none⟩ = some (.int .u64 (q : Int)) := (HZT.out.below HB2.out).cell 1
          obtain ⟨n0, hn0⟩ : ∃ n0, n0 = os.length := ⟨_, rfl⟩
          have hbU : Below w2.heap.size w2 (w2.alloc (.cells #[.int .u64 (s : Int), .int .u64 (q : Int), .slice none 0 0, .slice none 0 0, .int .u64 0] 164)) := (Below.refl _ _).alloc (Nat.le_refl _) _
          have hbV : Below w2.heap.size w2 ((w2.alloc (.cells #[.int .u64 (s : Int), .int .u64 (q : Int), .slice none 0 0, .slice none 0 0, .int .u64 0] 164)).alloc (.cells #[.pointer (some ⟨w2.heap.size, 0, none⟩)] 157)) := hbU.alloc (by simp) _
          have kp : (w2.alloc (.cells #[.int .u64 (s : Int), .int .u64 (q : Int), .slice none 0 0, .slice none 0 0, .int .u64 0] 164)).cell? ⟨p, 0, none⟩ = some (.slice OA n0 oc) := by rw [hn0]; exact (hT2.below hbU).k0
          have hrow : OwnV 157 ((w2.alloc (.cells #[.int .u64 (s : Int), .int .u64 (q : Int), .slice none 0 0, .slice none 0 0, .int .u64 0] 164)).alloc (.cells #[.pointer (some ⟨w2.heap.size, 0, none⟩)] 157)) bs OA n0 oc (os.map obP) := by rw [hn0]; exact (hT2.below hbV).row
          have hz : Cl ((w2.alloc (.cells #[.int .u64 (s : Int), .int .u64 (q : Int), .slice none 0 0, .slice none 0 0, .int .u64 0] 164)).alloc (.cells #[.pointer (some ⟨w2.heap.size, 0, none⟩)] 157)) w2.heap.size #[.int .u64 (s : Int), .int .u64 (q : Int), .slice none 0 0, .slice none 0 0, .int .u64 0] 164 := (Cl.new _ _ _).alloc _
          have hbs2 : bs ≤ w2.heap.size := by have := HBS.out; have := HB.out.size; have := HB2.out.size; omega
          have HROW := Lib.hid hrow
          have HPU : Hid (∀ OA1 oc1 w6, OwnV 157 w6 bs OA1 (n0 + 1) oc1 (os.map obP ++ [.pointer (some ⟨w2.heap.size, 0, none⟩)]) → ((w2.alloc (.cells #[.int .u64 (s : Int), .int .u64 (q : Int), .slice none 0 0, .slice none 0 0, .int .u64 0] 164)).alloc (.cells #[.pointer (some ⟨w2.heap.size, 0, none⟩)] 157)).grownBy w6 (blk OA) → (blk OA1 = blk OA ∨ blk OA1 = some ((w2.alloc (.cells #[.int .u64 (s : Int), .int .u64 (q : Int), .slice none 0 0, .slice none 0 0, .int .u64 0] 164)).alloc (.cells #[.pointer (some ⟨w2.heap.size, 0, none⟩)] 157)).heap.size) →
              TkAt (w6.setCell ⟨p, 0, none⟩ (.slice OA1 (n0 + 1) oc1)) bs p OA1 oc1 turns (os ++ [newO w2.heap.size s q]) ∧ Fr w2 (w6.setCell ⟨p, 0, none⟩ (.slice OA1 (n0 + 1) oc1)) (tbl p OA os) ∧ (∀ b ∈ tbl p OA1 (os ++ [newO w2.heap.size s q]), b ∈ tbl p OA os ∨ w2.heap.size ≤ b) ∧ w6.cell? ⟨p, 0, none⟩ = some (.slice OA n0 oc) ∧ w6.frozen? ⟨p, 0, none⟩ = false) := Lib.hid (fun OA1 oc1 w6 a1 a2 a3 => by
            rw [hn0] at a1 ⊢
            obtain ⟨r1, r2, r3, r4⟩ := tk_push hT2 hbs2 hbV hz a1 a2 a3
            exact ⟨r1, r2, r3, r4.cell 0, r4.thaw 0⟩)
          have HSZ2 : Hid (bs ≤ w2.heap.size ∧ n0 < 1099511627776 ∧ W.heap.size ≤ w2.heap.size) := Lib.hid ⟨hbs2, by rw [hn0]; exact HN.out, HB2.out.size⟩
          clear hT2 hbU hbV hrow hz hbs2 hn0
          go_wp2_with (refine wpList_appV _ rfl (Operand.tmp 30) (Operand.tmp 32) 89 rfl bs 157 _ 8 Try.underlying89 info_po rfl OA n0 oc (os.map obP) (by first | (simp [Act.eval]; done) | rfl) HROW.out (some ⟨w2.heap.size + 1, 0, none⟩) 1 1 [.pointer (some ⟨w2.heap.size, 0, none⟩)] (by first | (simp [Act.eval]; done) | rfl) ⟨rfl, fun _ => ⟨w2.heap.size + 1, 0, rfl, by simp, fun i u hu => by rw [Nat.zero_add, (Cl.newg _ #[.pointer (some ⟨w2.heap.size, 0, none⟩)] 157 (w2.heap.size + 1) (by simp)).cell i]; simpa using hu⟩⟩ (by simp [Value.oneCell']) (by have := HSZ2.out.2.1; unfold maxLen; omega) (by have := HSZ2.out.2.1; omega) (by have := HSZ2.out.1; simp; omega) ?_; intro OA1 oc1 w6 ho6 hg6 h36; obtain ⟨r1, r2, r3, r4, r5⟩ := HPU.out OA1 oc1 w6 ho6 hg6 h36)
          have HREL : Hid (AskC W bs p OA turns os s q (.pointer (some ⟨w2.heap.size, 0, none⟩)) (w6.setCell ⟨p, 0, none⟩ (.slice OA1 (n0 + 1) oc1))) := Lib.hid ⟨newO w2.heap.size s q, OA1, oc1, os ++ [newO w2.heap.size s q], rfl, ⟨by simp, rfl, .inr ⟨HFN.out, rfl, rfl, rfl, rfl, fun u hu e => by have h1 := HTB.out u.b (mem_tbl.2 (.inr (.inr ⟨u, hu, .inl rfl⟩))); have h2 := HSZ2.out.2.2; have h3 := HSW.out; rw [show (newO w2.heap.size s q).b = w2.heap.size from rfl] at e; omega, rfl⟩⟩, r1, (Fr.of_below HB2.out (tbl p OA os)).trans r2 (fun b hb => .inl hb), fun b hb => (r3 b hb).imp id (fun h => by have := HSZ2.out.2.2; omega)⟩
          clear ho6 hg6 h36 r1 r2 r3 r4 r5
          go_meet
          case rel => exact HREL.out
        | some o =>
          have hm : o ∈ os := List.mem_of_find?_eq_some hf
          have hto : o.turn = 0 := by
            rcases Nat.eq_zero_or_pos o.turn with h1 | h1
            · exact h1
            · exact absurd ⟨o, hf, h1⟩ HTH.out
          have hT2 := HT.out.below HB2.out
          have k4 := (hT2.obs o hm).k4
          rw [hto] at k4
          rw [hf] at HPV
          obtain ⟨ob, hob⟩ : ∃ ob, ob = o.b := ⟨_, rfl⟩
          obtain rfl : pv = .pointer (some ⟨ob, 0, none⟩) := by rw [hob]; exact HPV.out
          have HREL : Hid (AskC W bs p OA turns os s q (.pointer (some ⟨ob, 0, none⟩)) w2) := Lib.hid ⟨o, OA, oc, os, by rw [hob], ⟨hm, hto, .inl ⟨hf, rfl⟩⟩, hT2, Fr.of_below HB2.out _, fun b hb => .inl hb⟩
          rw [← hob] at k4
          clear hf hm hto hT2 hob
          go_wp2_with fail
          go_meet
          case rel => exact HREL.out
      case rest =>
        obtain ⟨o0, OA1, oc1, os1, rfl, hpre, hT1, hF1, hB1⟩ := hcut
        have hbc : bs ≤ wc.heap.size := by have := HBS.out; have := HB.out.size; have := hF1.size; omega
        have hlen1 : os1.length ≤ 1099511627776 := by
          have h1 := HN.out
          rcases hpre.2.2 with ⟨_, e⟩ | ⟨_, _, _, _, _, _, e⟩
          · rw [e]; omega
          · rw [e, List.length_append]; simp; omega
        have hsz1 : ∀ u ∈ os1, SzO u ∧ u.held.length + n ≤ 1099511627776 := fun u hu => by
          rcases hpre.2.2 with ⟨_, e⟩ | ⟨_, _, _, h0, h00, _, e⟩
          · rw [e] at hu; exact ⟨HSU.out u hu, HSR.out u hu⟩
          · rw [e] at hu
            rcases List.mem_append.1 hu with hu | hu
            · exact ⟨HSU.out u hu, HSR.out u hu⟩
            · have hnn := HRN.out
              rw [List.mem_singleton.1 hu]
              refine ⟨?_, ?_⟩
              · unfold SzO; rw [h0, h00]; simp
              · rw [h0]; simpa using hnn
        have kt := hT1.k1
        have ft := hT1.cl.thaw 1
        obtain ⟨t2, ht2⟩ : ∃ t2, t2 = turns + 1 := ⟨_, rfl⟩
        have et : IntKind.u64.wrap ((turns : Int) + 1) = (t2 : Int) := by rw [IntKind.wrap_u64]; omega
        have HT2 := Lib.hid ht2
        obtain ⟨w5, hw5⟩ : ∃ w5, w5 = wc.setCell ⟨p, 1, none⟩ (.int .u64 (t2 : Int)) := ⟨_, rfl⟩
        have hT5 : TkAt w5 bs p OA1 oc1 t2 os1 := by rw [hw5]; exact tk_turns hT1
        have hF5 : Fr W w5 (tbl p OA os) := by
          rw [hw5]
          refine hF1.trans (Fr.set wc p 1 _) (fun b hb => ?_)
          obtain rfl : b = p := by simpa using hb
          exact .inl (mem_tbl.2 (.inl rfl))
        have hbs5 : bs ≤ w5.heap.size := by rw [hw5]; simpa using hbc
        have hRC : RGr w5 A n rs := HRK.out w5 ((Fr.of_below HB.out (tbl p OA os)).trans hF5 (fun b hb => .inl hb))
        have ho0 := hT5.obs o0 hpre.1
        have HOWN : Hid (∀ wx, Below w5.heap.size w5 wx → Calls Try.prog 105 #[.slice A n c] wx (RetRg wx rs)) := Lib.hid (fun wx hb => ownR_any (hRC.below hb) hrn HSG.out)
        have HCE5 : Hid (∀ wx, Below w5.heap.size w5 wx → wx.cell? ⟨p, 1, none⟩ = some (.int .u64 (t2 : Int)) ∧ wx.cell? ⟨o0.b, 3, none⟩ = some (.slice o0.aA o0.asked.length o0.ac) ∧ wx.frozen? ⟨o0.b, 3, none⟩ = false ∧ wx.cell? ⟨o0.b, 4, none⟩ = some (.int .u64 (o0.turn : Int)) ∧ wx.frozen? ⟨o0.b, 4, none⟩ = false) := Lib.hid (fun wx hb => ⟨(hT5.below hb).k1, (ho0.below hb).k3, (ho0.below hb).cl.thaw 3, (ho0.below hb).k4, (ho0.below hb).cl.thaw 4⟩)
        have HW5 := Lib.hid hw5
        have HT5 := Lib.hid hT5
        have HF5 := Lib.hid hF5
        have HB1' := Lib.hid hB1
        have HPRE := Lib.hid hpre
        have HSZ1 := Lib.hid hsz1
        have HL1 := Lib.hid hlen1
        have HBS5 := Lib.hid hbs5
        have hD5 : Below w5.heap.size w5 w5.drew := (Below.refl _ _).drew
        obtain ⟨ob, hob⟩ : ∃ ob, ob = o0.b := ⟨_, rfl⟩
        rw [← hob] at HCE5 ⊢
        have HOB := Lib.hid hob
        obtain ⟨k1, k3, f3, k4, f4⟩ := HCE5.out w5.drew hD5
        clear hpre hT1 hF1 hB1 hbc hlen1 hsz1 hT5 hF5 hbs5 hRC ho0 hw5 hob ht2
        go_upto_region 11 with (fail)
        rw [← HW5.out]
        clear kt ft
        go_cut [57] from 50 to 61 (fun s57 wx => s57 = .int .u64 (t2 : Int) ∧ WshC W bs p OA OA1 oc1 t2 os os1 o0 rs wx)
        case first =>
          go_region_law (first | (go_simp; go_at_call 105; with_reducible refine (HOWN.out _ (by first | exact hD5 | assumption)).mono ?_; intro e w6 hq6; obtain ⟨L, n2, c2, ps, h6, hrow⟩ := hq6.out; subst h6; have hb6 := belowT' (by first | exact hD5 | assumption : Below w5.heap.size w5 _) hrow.bel; obtain ⟨l1, l3, m3, l4, m4⟩ := HCE5.out _ hb6))
          all_goals
            have HREL : Hid (WshC W bs p OA OA1 oc1 t2 os os1 o0 rs ((w6.setCell ⟨ob, 3, none⟩ (.slice L n2 c2)).setCell ⟨ob, 4, none⟩ (.int .u64 (t2 : Int)))) := Lib.hid (by
              have hrow5 : RowGr w5 w5.heap.size L n2 c2 rs ps w6 := by
                obtain ⟨r1, r2, r3, r4, r5, r6⟩ := hrow
                exact ⟨r1, r2, r3, r4, ⟨r5.os, r5.tape, r5.output, r5.size, r5.block⟩, r6⟩
              obtain ⟨r1, r2, r3⟩ := tk_wish (t2 := t2) HT5.out HPRE.out.1 HBS5.out hrow5
              rw [HOB.out]
              refine ⟨L, c2, r1, HF5.out.trans r2 (fun b hb => HB1'.out b hb), fun b hb => ?_⟩
              rcases r3 b hb with h1 | h1
              · exact HB1'.out b h1
              · exact .inr (by have := HF5.out.size; omega))
            clear hrow hq6 hb6 l1 l3 m3 l4 m4 k1 k3 f3 k4 f4
            go_wp2_with fail
            go_meet
            exact ⟨rfl, HREL.out⟩
        case rest =>
          obtain ⟨rfl, L, c2, hT7, hF7, hB7⟩ := hcut
          obtain ⟨o1, ho1⟩ : ∃ o1, o1 = wishO o0 L c2 rs t2 := ⟨_, rfl⟩
          rw [← ho1] at hT7 hB7
          obtain ⟨os2, hos2⟩ : ∃ os2, os2 = updO os1 o1 := ⟨_, rfl⟩
          rw [← hos2] at hT7 hB7
          have hb1 : o1.b = ob := by rw [ho1, HOB.out]; rfl
          have hm1 : o1 ∈ os2 := by rw [hos2]; exact mem_updO' HPRE.out.1 (by rw [hb1, HOB.out])
          have hlr : rs.length = n := HR.out.len
          have hsz1 : SzO o1 := by
            have h1 := (HSZ1.out o0 HPRE.out.1).2
            rw [ho1]
            unfold SzO wishO
            simp only
            omega
          have hsz2 : ∀ u ∈ os2, SzO u := by rw [hos2]; exact updO_szO (fun u hu => (HSZ1.out u hu).1) hsz1
          have hl2 : os2.length ≤ 1099511627776 := by rw [hos2, updO_len]; exact HL1.out
          have hRn : ∀ b ∈ tbl p OA os, b ≠ w.heap.size + 1 ∧ b ≠ w.heap.size := fun b hb => by have := HTB.out b hb; omega
          have hRn2 : ∀ b ∈ tbl p OA1 os2, b ≠ w.heap.size + 1 ∧ b ≠ w.heap.size := fun b hb => by
            rcases hB7 b hb with h1 | h1
            · exact hRn b h1
            · have := HSW.out; omega
          have zR7 : Cl wc (w.heap.size + 1) #[.int .i64 0, .slice none 0 0, .slice none 0 0] 93 := (hF7.block _ HZR.out.lt (fun hm => (hRn _ hm).1 rfl)).trans HZR.out
          have zT7 : Cl wc w.heap.size #[.int .u64 (s : Int), .int .u64 (q : Int)] 83 := (hF7.block _ HZT.out.lt (fun hm => (hRn _ hm).2 rfl)).trans HZT.out
          have hbs7 : bs ≤ wc.heap.size := by have := HBS.out; have := HB.out.size; have := hF7.size; omega
          have hPUT : PutA os s q rs (turns + 1) os2 o1 := by
            refine ⟨by rw [ho1]; rfl, by rw [ho1, ← HT2.out]; rfl, ?_⟩
            rcases HPRE.out.2.2 with ⟨e1, e2⟩ | ⟨e1, e2, e3, e4, e5, e7, e6⟩
            · exact .inl ⟨o0, e1, HPRE.out.2.1, ⟨L, c2, by rw [ho1, ← HT2.out]; rfl⟩, by rw [hos2, e2]⟩
            · refine .inr ⟨e1, by rw [ho1]; exact e2, by rw [ho1]; exact e3, by rw [ho1]; exact e4, fun u hu => by rw [hb1, HOB.out]; exact e7 u hu, ?_⟩
              rw [hos2, e6]
              have hbo : o1.b = o0.b := by rw [hb1, HOB.out]
              unfold updO
              rw [List.map_append]
              congr 1
              · have h1 : ∀ u ∈ os, (if u.b = o1.b then o1 else u) = u := fun u hu => if_neg (by rw [hbo]; exact e7 u hu)
                exact (List.map_congr_left h1).trans (List.map_id' _)
              · simp [hbo]
          obtain ⟨z, hz⟩ : ∃ z, z = os2.any (wfO o1) := ⟨_, rfl⟩
          have HWT : Hid (Calls Try.prog 106 #[.pointer (some ⟨p, 0, none⟩), .pointer (some ⟨ob, 0, none⟩)] wc (RetT wc z)) := Lib.hid (by rw [hz, ← hb1]; exact waits_any hT7 hl2 (hT7.obs o1 hm1) hsz1.sz (fun u hu => (hsz2 u hu).sz))
          have HTK : Hid (∀ w8, Below wc.heap.size wc w8 → Calls Try.prog 107 #[.pointer (some ⟨ob, 0, none⟩)] w8 (RetTk w8 bs o1)) := Lib.hid (fun w8 hb => by rw [← hb1]; exact take_any16 ((hT7.obs o1 hm1).below hb) (by have := hb.size; omega) hsz1)
          have HBK : Hid (∀ w8, Below wc.heap.size wc w8 → Calls Try.prog 108 #[.pointer (some ⟨p, 0, none⟩), .pointer (some ⟨ob, 0, none⟩)] w8 (RetBrk w8 bs p OA1 oc1 t2 os2 ob)) := Lib.hid (fun w8 hb => by rw [← hb1]; exact break_any (hT7.below hb) hl2 hm1 (fun u hu => (hsz2 u hu).sz))
          have HT7 := Lib.hid hT7
          have HF7 := Lib.hid hF7
          have HB7 := Lib.hid hB7
          have HZR7 := Lib.hid zR7
          have HZT7 := Lib.hid zT7
          have HPUT := Lib.hid hPUT
          have HM1 := Lib.hid hm1
          have HB1E := Lib.hid hb1
          have HSZ2 := Lib.hid hsz2
          have HL2 := Lib.hid hl2
          have HRN2 := Lib.hid hRn2
          have HZZ := Lib.hid hz.symm
          clear hT7 hF7 hB7 ho1 hos2 hb1 hm1 hlr hsz1 hsz2 hl2 hRn hRn2 zR7 zT7 hbs7 hPUT hz HFI HCK HOWN HCE5 k1 k3 f3 k4 f4
          cases z with
          | false =>
            go_wp2_with fail
            with_reducible refine HWT.out.mono ?_
            intro e w8 hq
            obtain ⟨h1, b8⟩ := RetT.outD hq
            subst h1
            have HTK8 := Lib.hid (HTK.out w8 b8)
            have HB8 := Lib.hid b8
            clear hq b8
            go_wp2_with fail
            with_reducible refine HTK8.out.mono ?_
            intro e w9 hq
            obtain ⟨h1, hfr, A9, d9, hg, hr9⟩ := hq.out
            subst h1
            have hT9 : TkAt w9 bs p OA1 oc1 t2 (updO os2 (takeO o1 A9 d9)) := (HT7.out.below HB8.out).upd HM1.out hfr hg rfl hr9
            have hsub : ∀ b ∈ o1.b :: o1.rows, b ∈ tbl p OA1 os2 := fun b hb => mem_tbl.2 (.inr (.inr ⟨o1, HM1.out, by simpa using hb⟩))
            have hF9 : Fr W w9 (tbl p OA os) := (HF7.out.trans (Fr.of_below HB8.out []) (fun b hb => by cases hb)).trans hfr (fun b hb => HB7.out b (hsub b hb))
            have hB9 : ∀ b ∈ tbl p OA1 (updO os2 (takeO o1 A9 d9)), b ∈ tbl p OA os ∨ W.heap.size ≤ b := fun b hb => by
              rcases tbl_upd (x := takeO o1 A9 d9) (N := w8.heap.size) HM1.out rfl hr9 b hb with h1 | h1
              · exact HB7.out b h1
              · exact .inr (by have := HF7.out.size; have := HB8.out.size; omega)
            have zR9 : Cl w9 (w.heap.size + 1) #[.int .i64 0, .slice none 0 0, .slice none 0 0] 93 := (hfr.block _ (HZR7.out.below HB8.out).lt (fun hm => (HRN2.out _ (hsub _ hm)).1 rfl)).trans (HZR7.out.below HB8.out)
            obtain ⟨y0, y1, y2, g0, g1, g2⟩ := zR9.c3
            obtain ⟨x1, x2, x3, x4, x5⟩ := zR9.st3L (.int .i64 1) (.slice none 0 0) (.slice none 0 0)
            have hc0 := x1.cell 0
            have hc1 := x1.cell 1
            have hc2 := x1.cell 2
            have HFIN : Hid (RetAsk w bs p OA turns os s q rs (.returned (.tuple #[.agg #[.int .i64 1, .slice none 0 0, .slice none 0 0], .int .i64 0])) (((w9.setCell ⟨w.heap.size + 1, 0, none⟩ (.int .i64 1)).setCell ⟨w.heap.size + 1, 1, none⟩ (.slice none 0 0)).setCell ⟨w.heap.size + 1, 2, none⟩ (.slice none 0 0))) :=
              Lib.hid (ask_fin (vic := []) (gr := []) HB.out HSW.out HTB.out hT9 hF9 hB9 zR9 (OwnX.nil _ _) rfl (OwnX.nil _ _) rfl (.inr (.inr ⟨HCE.out.symm, rfl, HT2.out, os2, o1, HPUT.out, HM1.out, .inl ⟨HZZ.out, rfl, rfl, rfl, A9, d9, rfl⟩⟩)))
            clear hq hfr hg hr9 hT9 hsub hF9 hB9 zR9 x1 HTK8
            as_aux_lemma =>
            go_wp2_with fail
            refine bodyPost_ret (v := .tuple #[.agg #[.int .i64 1, .slice none 0 0, .slice none 0 0], .int .i64 0]) (by simp [results, Try.f45, go_sem, hc0, hc1, hc2]) rfl ?_
            exact HFIN.out
          | true =>
            go_wp2_with fail
            with_reducible refine HWT.out.mono ?_
            intro e w8 hq
            obtain ⟨h1, b8⟩ := RetT.outD hq
            subst h1
            have HBK8 := Lib.hid (HBK.out w8 b8)
            have HB8 := Lib.hid b8
            clear hq b8
            go_wp2_with fail
            with_reducible refine HBK8.out.mono ?_
            intro e w9 hq
            obtain ⟨L9, d9, vic, os3, h1, hbr, f3, hf3, hfb3, hvic⟩ := hq.out
            obtain ⟨vn, hvn⟩ : ∃ vn, vic.length = vn := ⟨_, rfl⟩
            rw [hvn] at h1
            subst h1
            obtain ⟨a1, a2, a3, a4, a5, a6, a7, a8⟩ := hbr
            rw [hvn] at a1
            have s8 := HB8.out.size
            have s7 := HF7.out.size
            have hT8 := HT7.out.below HB8.out
            have hF9 : Fr W w9 (tbl p OA os) := (HF7.out.trans (Fr.of_below HB8.out []) (fun b hb => by cases hb)).trans a4 (fun b hb => HB7.out b hb)
            have hB9 : ∀ b ∈ tbl p OA1 os3, b ∈ tbl p OA os ∨ W.heap.size ≤ b := fun b hb => HB7.out b (a5 b hb)
            have hszO := a2.szO HSZ2.out
            have hl3 : os3.length ≤ 1099511627776 := by
              rw [a2.len]; exact HL2.out
            have zR9 : Cl w9 (w.heap.size + 1) #[.int .i64 0, .slice none 0 0, .slice none 0 0] 93 := (a4.block _ (HZR7.out.below HB8.out).lt (fun hm => (HRN2.out _ hm).1 rfl)).trans (HZR7.out.below HB8.out)
            have zT9 : Cl w9 w.heap.size #[.int .u64 (s : Int), .int .u64 (q : Int)] 83 := (a4.block _ (HZT7.out.below HB8.out).lt (fun hm => (HRN2.out _ hm).2 rfl)).trans (HZT7.out.below HB8.out)
            obtain ⟨g10, hg10⟩ : ∃ g10, g10 = w9.heap.size := ⟨_, rfl⟩
            obtain ⟨w10, hw10⟩ : ∃ w10, w10 = w9.alloc (.cells #[.int .i64 2, .slice L9 vn d9, .slice none 0 0] 93) := ⟨_, rfl⟩
            have b10 : Below w9.heap.size w9 w10 := by rw [hw10]; exact (Below.refl _ _).alloc (Nat.le_refl _) _
            have z10 : Cl w10 g10 #[.int .i64 2, .slice L9 vn d9, .slice none 0 0] 93 := by rw [hw10, hg10]; exact Cl.new _ _ _
            have s10 : w10.heap.size = g10 + 1 := by rw [hw10, hg10]; simp
            have hT10 := a3.below b10
            have HMV : Hid (Calls Try.prog 102 #[.pointer (some ⟨p, 0, none⟩)] w10 (RetMv w10 bs p OA1 oc1 t2 os3)) := Lib.hid (move_any hT10 hl3 hszO)
            have hlt9 : ∀ b ∈ tbl p OA1 os3, b < g10 := fun b hb => by rw [hg10]; exact (a3.bl_ge b hb).2
            have HT10 := Lib.hid hT10
            have HA1 := Lib.hid (a1.below b10)
            have HA2 := Lib.hid a2
            have HF9 := Lib.hid hF9
            have HB9 := Lib.hid hB9
            have HZR10 := Lib.hid (zR9.below b10)
            have HZT10 := Lib.hid (zT9.below b10)
            have HZ10 := Lib.hid z10
            have HB10 := Lib.hid b10
            have HLT9 := Lib.hid hlt9
            have HVN := Lib.hid hvn
            have HVIC : Hid (∃ f ∈ os3, f.b = ob ∧ VicP os3 f none) := Lib.hid ⟨f3, hf3, hfb3, hvic⟩
            have HS10 : Hid (w10.heap.size = g10 + 1 ∧ W.heap.size ≤ w8.heap.size ∧ w8.heap.size ≤ g10) := Lib.hid ⟨s10, by omega, by rw [hg10]; exact a4.size⟩
            have HW10 := Lib.hid hw10
            have HG10 := Lib.hid hg10
            have hvl : vn ≤ 1099511627776 := by
              have h1 := a6
              rw [hvn] at h1
              have h2 : wcount os2 ≤ os2.length := List.length_filter_le _ _
              have h3 := HL2.out
              omega
            clear hq hvn hf3 hfb3 hvic a1 a2 a3 a4 a5 a6 a7 a8 hT8 hF9 hB9 hszO hl3 zR9 zT9 b10 z10 s10 hT10 hlt9 hw10 hg10 HBK8 s8 s7
            go_wp2_with fail
            rw [← HW10.out, ← HG10.out]
            with_reducible refine HMV.out.mono ?_
            intro e w11 hq
            obtain ⟨L11, d11, gr, os4, lo, h1, hlp, hlpw, c1, c2, c3, c4, c5, c6, c7⟩ := hq.out
            obtain ⟨gn, hgn⟩ : ∃ gn, gr.length = gn := ⟨_, rfl⟩
            rw [hgn] at h1 c1
            subst h1
            have z11 : Cl w11 g10 #[.int .i64 2, .slice L9 vn d9, .slice none 0 0] 93 := (c4.block _ HZ10.out.lt (fun hm => by have := HLT9.out g10 hm; omega)).trans HZ10.out
            have hR9 : ∀ b ∈ tbl p OA1 os3, b ≠ w.heap.size + 1 ∧ b ≠ w.heap.size := fun b hb => by
              rcases HB9.out b hb with h1 | h1
              · have := HTB.out b h1; omega
              · have := HSW.out; omega
            have zR11 := (c4.block _ HZR10.out.lt (fun hm => (hR9 _ hm).1 rfl)).trans HZR10.out
            have zT11 := (c4.block _ HZT10.out.lt (fun hm => (hR9 _ hm).2 rfl)).trans HZT10.out
            have kT11 : Cl w11 w.heap.size #[.int .u64 (s : Int), .int .u64 (q : Int)] 83 := zT11
            have kR11 : Cl w11 (w.heap.size + 1) #[.int .i64 0, .slice none 0 0, .slice none 0 0] 93 := zR11
            have hV11 : OwnX w11 w8.heap.size L9 vn d9 (flatX vic) := HA1.out.fr c4 (fun b hb hm => HT10.out.off_row HA1.out (by decide) (by decide) (by decide) (by decide) b hm hb)
            obtain ⟨w12, hw12⟩ : ∃ w12, w12 = w11.setCell ⟨g10, 2, none⟩ (.slice L11 gn d11) := ⟨_, rfl⟩
            have f12 : Fr w11 w12 [g10] := by rw [hw12]; exact Fr.set _ _ _ _
            have z12 : Cl w12 g10 #[.int .i64 2, .slice L9 vn d9, .slice L11 gn d11] 93 := by rw [hw12]; exact z11.set 2 _
            have hB11 : ∀ b ∈ tbl p OA1 os4, b ≠ g10 ∧ (b ∈ tbl p OA os ∨ W.heap.size ≤ b) := fun b hb => by
              have h0 := HS10.out
              rcases c5 b hb with h1 | h1
              · have h2 := HLT9.out b h1
                exact ⟨by omega, HB9.out b h1⟩
              · exact ⟨by omega, .inr (by omega)⟩
            have hT12 : TkAt w12 bs p OA1 oc1 t2 os4 := c3.fr f12 (fun b hb hm => (hB11 b hb).1 (by simpa using hm)) (NoBy.cl z11 (by decide))
            have offR : ∀ {D : Option Addr} {base dn dc : Nat} {vs : List Value}, OwnX w11 base D dn dc vs → ∀ b, blk D = some b → b ∉ [g10] := fun h b hb hm => by
              obtain rfl : b = g10 := by simpa using hm
              exact cl_row z11 h (by decide) hb
            have hV12 := hV11.fr f12 (offR hV11)
            have hG12 := c1.fr f12 (offR c1)
            have hF12 : Fr W w12 (tbl p OA os) := by
              have h0 := HS10.out
              have q1 := (HF9.out.trans (Fr.of_below HB10.out []) (fun b hb => by cases hb)).trans c4 (fun b hb => HB9.out b hb)
              exact q1.trans f12 (fun b hb => .inr (by have e : b = g10 := (by simpa using hb); omega))
            have kR12 : Cl w12 (w.heap.size + 1) #[.int .i64 0, .slice none 0 0, .slice none 0 0] 93 := (f12.block _ kR11.lt (by have h0 := HS10.out; have h9 := HSW.out; simp; omega)).trans kR11
            have kT12 : Cl w12 w.heap.size #[.int .u64 (s : Int), .int .u64 (q : Int)] 83 := (f12.block _ kT11.lt (by have h0 := HS10.out; have h9 := HSW.out; simp; omega)).trans kT11
            obtain ⟨oe, hoe, hoeb⟩ : ∃ oe ∈ os4, oe.b = ob := by
              obtain ⟨f3, hf3, hfb3, _⟩ := HVIC.out
              have h1 : ob ∈ os4.map (·.b) := by rw [c2.bs]; exact List.mem_map.2 ⟨f3, hf3, hfb3⟩
              obtain ⟨oe, h2, h3⟩ := List.mem_map.1 h1
              exact ⟨oe, h2, h3⟩
            obtain ⟨zc, hzc⟩ : ∃ zc, zc = vic.any (isX s q) := ⟨_, rfl⟩
            have HCT : Hid (Calls Try.prog 109 #[.slice L9 vn d9, .agg #[.int .u64 (s : Int), .int .u64 (q : Int)]] w12 (RetT w12 zc)) := Lib.hid (by rw [hzc]; exact containsX_any (hV12.rtx HVN.out) hvl s q)
            have m2 : w11.cell? ⟨g10, 2, none⟩ = some (.slice none 0 0) := z11.cell 2
            have n2 : w11.frozen? ⟨g10, 2, none⟩ = false := z11.thaw 2
            have m1 : (w11.setCell ⟨g10, 2, none⟩ (.slice L11 gn d11)).cell? ⟨g10, 1, none⟩ = some (.slice L9 vn d9) := by rw [← hw12]; exact z12.cell 1
            have t0 : (w11.setCell ⟨g10, 2, none⟩ (.slice L11 gn d11)).cell? ⟨w.heap.size, 0, none⟩ = some (.int .u64 (s : Int)) := by rw [← hw12]; exact kT12.cell 0
            have t1 : (w11.setCell ⟨g10, 2, none⟩ (.slice L11 gn d11)).cell? ⟨w.heap.size, 1, none⟩ = some (.int .u64 (q : Int)) := by rw [← hw12]; exact kT12.cell 1
            have HASK : Hid (∀ st : Int, st = (if (s, q) ∈ vic then 3 else if oe.turn = 0 then 1 else 2) → AskR os turns s q rs 0 st vic gr t2 os4) := Lib.hid (fun st hst => .inr (.inr ⟨HCE.out.symm, rfl, HT2.out, os2, o1, HPUT.out, HM1.out, .inr ⟨HZZ.out, os3, by rw [HB1E.out]; exact HA2.out, by rw [HB1E.out]; exact HVIC.out, ⟨lo, hlp, hlpw, c2⟩, oe, hoe, by rw [hoeb, HB1E.out], hst⟩⟩))
            have hin : ((s, q) ∈ vic) ↔ zc = true := by
              rw [hzc, List.any_eq_true]
              constructor
              · intro h
                exact ⟨_, h, by unfold isX; simp⟩
              · rintro ⟨x, hx, he⟩
                unfold isX at he
                simp at he
                obtain ⟨x1, x2⟩ := x
                simp only at he
                have h1 : s = x1 := by omega
                have h2 : q = x2 := by omega
                rw [h1, h2]
                exact hx
            have HIN := Lib.hid hin
            have HT12 := Lib.hid hT12
            have HF12 := Lib.hid hF12
            have HB11 := Lib.hid hB11
            have HV12 := Lib.hid hV12
            have HG12 := Lib.hid hG12
            have HGN := Lib.hid hgn
            have HZ12 := Lib.hid z12
            have HKR := Lib.hid kR12
            have HOE := Lib.hid (And.intro hoe hoeb)
            have HW12 := Lib.hid hw12
            have hgs : w10.heap.size = g10 + 1 := HS10.out.1
            have HMID : Hid (∀ w13 (v0 : Value) (st : Int), Below w12.heap.size w12 w13 → st = (if (s, q) ∈ vic then 3 else if oe.turn = 0 then 1 else 2) → ∀ w14, (w14 = w13 ∨ ∃ v, w14 = w13.setCell ⟨g10, 0, none⟩ v) →
                Cl w14 (w.heap.size + 1) #[.int .i64 0, .slice none 0 0, .slice none 0 0] 93 ∧ RetAsk w bs p OA turns os s q rs (.returned (.tuple #[.agg #[.int .i64 st, .slice L9 vn d9, .slice L11 gn d11], .int .i64 0])) (((w14.setCell ⟨w.heap.size + 1, 0, none⟩ (.int .i64 st)).setCell ⟨w.heap.size + 1, 1, none⟩ (.slice L9 vn d9)).setCell ⟨w.heap.size + 1, 2, none⟩ (.slice L11 gn d11))) := Lib.hid (fun w13 v0 st hb13 hst w14 hw14 => by
              have h0 := HS10.out
              have h9 := HSW.out
              have hf14 : Fr w12 w14 [g10] := by
                rcases hw14 with rfl | ⟨v, rfl⟩
                · exact Fr.of_below hb13 _
                · exact (Fr.of_below hb13 [g10]).trans (Fr.set _ _ _ _) (fun b hb => .inl hb)
              have hnb : NoBy w12 [g10] := NoBy.cl HZ12.out (by decide)
              have offR : ∀ {D : Option Addr} {base dn dc : Nat} {vs : List Value}, OwnX w12 base D dn dc vs → ∀ b, blk D = some b → b ∉ [g10] := fun h b hb hm => by
                obtain rfl : b = g10 := by simpa using hm
                exact cl_row HZ12.out h (by decide) hb
              have kR14 : Cl w14 (w.heap.size + 1) #[.int .i64 0, .slice none 0 0, .slice none 0 0] 93 := (hf14.block _ HKR.out.lt (by simp; omega)).trans HKR.out
              refine ⟨kR14, ask_fin HB.out HSW.out HTB.out (HT12.out.fr hf14 (fun b hb hm => (HB11.out b hb).1 (by simpa using hm)) hnb) (HF12.out.trans hf14 (fun b hb => .inr (by have e : b = g10 := (by simpa using hb); omega))) (fun b hb => (HB11.out b hb).2) kR14 ((HV12.out.fr hf14 (offR HV12.out)).mono h0.2.1) HVN.out ((HG12.out.fr hf14 (offR HG12.out)).mono (by omega)) HGN.out (HASK.out st hst)⟩)
            clear hq hlp hlpw c1 c2 c3 c4 c5 c6 c7 hgn z11 hR9 zR11 zT11 kT11 kR11 hV11 f12 z12 hB11 hT12 offR hV12 hG12 hF12 kR12 kT12 hoe hoeb hzc hin hw12 hgs HMV
            go_wp2_with fail
            rw [← HW12.out]
            clear m2 n2 m1 t0 t1
            with_reducible refine HCT.out.mono ?_
            intro e w13 hq
            obtain ⟨h1, b13⟩ := RetT.outD hq
            subst h1
            have z13 : Cl w13 g10 #[.int .i64 2, .slice L9 vn d9, .slice L11 gn d11] 93 := HZ12.out.below b13
            cases zc with
            | true =>
              obtain ⟨kR, HFIN⟩ := HMID.out w13 (.int .i64 3) 3 b13 (by rw [if_pos (HIN.out.2 rfl)]) _ (.inr ⟨.int .i64 3, rfl⟩)
              have z14 := z13.set 0 (.int .i64 3)
              obtain ⟨q0, q1, q2, q3, q4, q5⟩ := z13.c3
              obtain ⟨r0, r1, r2, r3, r4, r5⟩ := Cl.c3 (a := .int .i64 3) (b := .slice L9 vn d9) (c := .slice L11 gn d11) z14
              obtain ⟨y0, y1, y2, g0, g1, g2⟩ := kR.c3
              obtain ⟨x1, x2, x3, x4, x5⟩ := kR.st3L (.int .i64 3) (.slice L9 vn d9) (.slice L11 gn d11)
              have hc0 := x1.cell 0
              have hc1 := x1.cell 1
              have hc2 := x1.cell 2
              have HFIN := Lib.hid HFIN
              clear hq b13 z13 z14 x1 kR
              as_aux_lemma =>
              go_wp2_with fail
              refine bodyPost_ret (v := .tuple #[.agg #[.int .i64 3, .slice L9 vn d9, .slice L11 gn d11], .int .i64 0]) (by simp [results, Try.f45, go_sem, hc0, hc1, hc2]) rfl ?_
              exact HFIN.out
            | false =>
              have k4 : w13.cell? ⟨ob, 4, none⟩ = some (.int .u64 (oe.turn : Int)) := by
                rw [← HOE.out.2]
                exact ((HT12.out.below b13).obs oe HOE.out.1).k4
              by_cases hoz : oe.turn = 0
              · obtain ⟨kR, HFIN⟩ := HMID.out w13 (.int .i64 1) 1 b13 (by rw [if_neg (fun h => by cases HIN.out.1 h), if_pos hoz]) _ (.inr ⟨.int .i64 1, rfl⟩)
                rw [hoz] at k4
                have k4 : w13.cell? ⟨ob, 4, none⟩ = some (.int .u64 0) := k4
                have z14 := z13.set 0 (.int .i64 1)
                obtain ⟨q0, q1, q2, q3, q4, q5⟩ := z13.c3
                obtain ⟨r0, r1, r2, r3, r4, r5⟩ := Cl.c3 (a := .int .i64 1) (b := .slice L9 vn d9) (c := .slice L11 gn d11) z14
                obtain ⟨y0, y1, y2, g0, g1, g2⟩ := kR.c3
                obtain ⟨x1, x2, x3, x4, x5⟩ := kR.st3L (.int .i64 1) (.slice L9 vn d9) (.slice L11 gn d11)
                have hc0 := x1.cell 0
                have hc1 := x1.cell 1
                have hc2 := x1.cell 2
                have HFIN := Lib.hid HFIN
                clear hq b13 z13 z14 x1 kR hoz
                as_aux_lemma =>
                go_wp2_with fail
                refine bodyPost_ret (v := .tuple #[.agg #[.int .i64 1, .slice L9 vn d9, .slice L11 gn d11], .int .i64 0]) (by simp [results, Try.f45, go_sem, hc0, hc1, hc2]) rfl ?_
                exact HFIN.out
              · obtain ⟨kR, HFIN⟩ := HMID.out w13 (.int .i64 2) 2 b13 (by rw [if_neg (fun h => by cases HIN.out.1 h), if_neg hoz]) w13 (.inl rfl)
                have et : ((oe.turn : Int) == 0) = false := beq_eq_false_iff_ne.2 (by omega)
                obtain ⟨q0, q1, q2, q3, q4, q5⟩ := z13.c3
                obtain ⟨y0, y1, y2, g0, g1, g2⟩ := kR.c3
                obtain ⟨x1, x2, x3, x4, x5⟩ := kR.st3L (.int .i64 2) (.slice L9 vn d9) (.slice L11 gn d11)
                have hc0 := x1.cell 0
                have hc1 := x1.cell 1
                have hc2 := x1.cell 2
                have HFIN := Lib.hid HFIN
                clear hq b13 z13 x1 kR hoz
                as_aux_lemma =>
                go_wp2_with fail
                refine bodyPost_ret (v := .tuple #[.agg #[.int .i64 2, .slice L9 vn d9, .slice L11 gn d11], .int .i64 0]) (by simp [results, Try.f45, go_sem, hc0, hc1, hc2]) rfl ?_
                exact HFIN.out
  · have HC0 := Lib.hid hc0
    have hce0 : (ce == 0) = false := beq_eq_false_iff_ne.2 hc0
    go_enter Try.func45, Try.ntmps45
    go_upto_region 1 with (fail)
    rw [← HW.out]
    go_wp2_with fail
    with_reducible refine HCK.out.mono ?_
    intro e w1 hq
    obtain ⟨h1, b1⟩ : e = .returned (.int .i64 ce) ∧ Below W.heap.size W w1 := hq
    subst h1
    obtain ⟨y0, y1, y2, g0, g1, g2⟩ := (HZR.out.below b1).c3
    obtain ⟨x1, x2, x3, x4, x5⟩ := (HZR.out.below b1).st3L (.int .i64 0) (.slice none 0 0) (.slice none 0 0)
    have hc0 := x1.cell 0
    have hc1 := x1.cell 1
    have hc2 := x1.cell 2
    have HFIN := Lib.hid (HSAME.out ce _ #[] ((((Fr.of_below b1 [w.heap.size + 1]).trans (Fr.set w1 (w.heap.size + 1) 0 (.int .i64 0)) (fun b hb => .inl hb)).trans (Fr.set _ (w.heap.size + 1) 1 (.slice none 0 0)) (fun b hb => .inl hb)).trans (Fr.set _ (w.heap.size + 1) 2 (.slice none 0 0)) (fun b hb => .inl hb)) (.inl ⟨by rw [← HCE.out]; exact HC0.out, HCE.out, rfl, rfl, rfl, rfl, rfl⟩))
    clear b1 x1 HFI HCK HSAME
    as_aux_lemma =>
    go_wp2_with fail
    refine bodyPost_ret (v := .tuple #[.agg #[.int .i64 0, .slice none 0 0, .slice none 0 0], .int .i64 ce]) (by simp [results, Try.f45, go_sem, hc0, hc1, hc2]) rfl ?_
    exact HFIN.out
end
end Go.Proofs.Ytmpdenpopokigaa
namespace Go.Proofs.Ytmpdenpopokigaa
open Go Go.RowKit
def GdR (r : Rg) : Prop := longR r = false ∧ emptyR r = false
def GdO (K : Nat) (u : Ob) : Prop := u.held.length + u.asked.length ≤ K ∧ (∀ r ∈ u.held, GdR r) ∧ ∀ r ∈ u.asked, GdR r
def Gd (K : Nat) (os : List Ob) : Prop := ∀ u ∈ os, GdO K u
theorem GdR.sz {r : Rg} (h : GdR r) : r.lo.length ≤ 1099511627776 ∧ r.hi.length ≤ 1099511627776 := by
  have h1 := h.1
  unfold longR at h1
  simp at h1
  omega
theorem checkR_ok {rs : List Rg} (h : checkR rs = 0) : rs.length ≤ 64 ∧ ∀ r ∈ rs, GdR r := by
  unfold checkR at h
  by_cases h1 : 64 < rs.length ∨ rs.any longR = true
  · rw [if_pos h1] at h; cases h
  · rw [if_neg h1] at h
    by_cases h2 : rs.any emptyR = true
    · rw [if_pos h2] at h; cases h
    · refine ⟨by omega, fun r hr => ⟨?_, ?_⟩⟩
      · cases hl : longR r with
        | false => rfl
        | true => exact absurd (.inr (List.any_eq_true.2 ⟨r, hr, hl⟩)) h1
      · cases hl : emptyR r with
        | false => rfl
        | true => exact absurd (List.any_eq_true.2 ⟨r, hr, hl⟩) h2
theorem GdO.give {K : Nat} {o : Ob} (h : GdO K o) : GdO K (giveO o) := ⟨by have := h.1; unfold giveO; simp; omega, h.2.1, fun r hr => by cases hr⟩
theorem GdO.take {K : Nat} {o : Ob} (h : GdO K o) (A : Option Addr) (d : Nat) : GdO K (takeO o A d) := by
  refine ⟨?_, ?_, fun r hr => by cases hr⟩
  · have := h.1
    unfold takeO midO giveO
    simp
    omega
  · intro r hr
    have hr : r ∈ o.held ++ o.asked := hr
    rcases List.mem_append.1 hr with h1 | h1
    · exact h.2.1 r h1
    · exact h.2.2 r h1
theorem GdO.mono {K J : Nat} {o : Ob} (h : GdO K o) (hk : K ≤ J) : GdO J o := ⟨Nat.le_trans h.1 hk, h.2⟩
theorem Gd.upd {K : Nat} {os : List Ob} {x : Ob} (h : Gd K os) (hx : GdO K x) : Gd K (updO os x) := fun u hu => by
  rcases updO_mem hu with ⟨rfl, _⟩ | ⟨h1, _⟩
  · exact hx
  · exact h u h1
theorem VicP.mem {os : List Ob} {f v : Ob} (h : VicP os f (some v)) : v ∈ os := by
  obtain ⟨i, hi, _⟩ := h
  exact List.mem_of_getElem? hi
theorem Broke.gd {K fb : Nat} {os0 os : List Ob} {out : List (Nat × Nat)} (h : Broke fb os0 out os) (h0 : Gd K os0) : Gd K os := by
  induction h with
  | start => exact h0
  | step _ _ _ hv ih => exact ih.upd (ih _ hv.mem).give
theorem Mv.gd {K : Nat} {os0 os : List Ob} {l : List Nat} {out : List (Nat × Nat)} (h : Mv os0 l out os) (h0 : Gd K os0) : Gd K os := by
  induction h with
  | start => exact h0
  | stay _ _ _ ih => exact ih
  | go _ hc _ ih => exact ih.upd ((ih _ hc).take _ _)
theorem Mv.len {os0 os : List Ob} {l : List Nat} {out : List (Nat × Nat)} (h : Mv os0 l out os) : os.length = os0.length := by
  have := congrArg List.length h.bs
  simpa using this
/-- A name tells the block. -/
def NmB (os : List Ob) : Prop := ∀ u ∈ os, ∀ v ∈ os, nmO u = nmO v → u.b = v.b
theorem NmB.upd {os : List Ob} {x c : Ob} (h : NmB os) (hc : c ∈ os) (hb : x.b = c.b) (hn : nmO x = nmO c) : NmB (updO os x) := by
  have pre : ∀ u ∈ updO os x, ∃ v ∈ os, v.b = u.b ∧ nmO v = nmO u := fun u hu => by
    rcases updO_mem hu with ⟨rfl, _⟩ | ⟨h1, _⟩
    · exact ⟨c, hc, hb.symm, hn.symm⟩
    · exact ⟨u, h1, rfl, rfl⟩
  intro u hu v hv e
  obtain ⟨u', hu', e1, e2⟩ := pre u hu
  obtain ⟨v', hv', e3, e4⟩ := pre v hv
  rw [← e1, ← e3]
  exact h u' hu' v' hv' (by rw [e2, e4, e])
theorem Broke.nmb {fb : Nat} {os0 os : List Ob} {out : List (Nat × Nat)} (h : Broke fb os0 out os) (h0 : NmB os0) : NmB os := by
  induction h with
  | start => exact h0
  | step _ _ _ hv ih => exact ih.upd hv.mem rfl rfl
theorem Mv.nmb {os0 os : List Ob} {l : List Nat} {out : List (Nat × Nat)} (h : Mv os0 l out os) (h0 : NmB os0) : NmB os := by
  induction h with
  | start => exact h0
  | stay _ _ _ ih => exact ih
  | go _ hc _ ih => exact ih.upd hc rfl rfl
theorem isO_iff {s q : Nat} {o : Ob} : isO s q o = true ↔ nmO o = (s, q) := by
  unfold isO nmO
  simp
  constructor
  · rintro ⟨h1, h2⟩; exact ⟨by omega, by omega⟩
  · rintro ⟨h1, h2⟩; exact ⟨by omega, by omega⟩
theorem find_nm {s q : Nat} {os : List Ob} {o : Ob} (h : os.find? (isO s q) = some o) : o ∈ os ∧ nmO o = (s, q) := ⟨List.mem_of_find?_eq_some h, isO_iff.1 (List.find?_some h)⟩
theorem find_no {s q : Nat} {os : List Ob} (h : os.find? (isO s q) = none) : ∀ u ∈ os, nmO u ≠ (s, q) := fun u hu e => by
  have := List.find?_eq_none.1 h u hu
  exact this (isO_iff.2 e)
theorem PutA.nmb {os os1 : List Ob} {s q t : Nat} {rs : List Rg} {o1 : Ob} (h : PutA os s q rs t os1 o1) (h0 : NmB os) : NmB os1 := by
  obtain ⟨_, _, ⟨o, hf, _, ⟨A, c, rfl⟩, rfl⟩ | ⟨hf, e1, e2, e3, e4, rfl⟩⟩ := h
  · exact h0.upd (find_nm hf).1 rfl rfl
  · have hn : nmO o1 = (s, q) := by unfold nmO; rw [e1, e2]
    intro u hu v hv e
    rcases List.mem_append.1 hu with h1 | h1 <;> rcases List.mem_append.1 hv with h2 | h2
    · exact h0 u h1 v h2 e
    · have e9 := List.mem_singleton.1 h2
      exact absurd (e.trans (by rw [e9]; exact hn)) (find_no hf u h1)
    · have e9 := List.mem_singleton.1 h1
      exact absurd (e.symm.trans (by rw [e9]; exact hn)) (find_no hf v h2)
    · rw [List.mem_singleton.1 h1, List.mem_singleton.1 h2]
theorem PutA.gd {K : Nat} {os os1 : List Ob} {s q t : Nat} {rs : List Rg} {o1 : Ob} (h : PutA os s q rs t os1 o1) (h0 : Gd K os) (hr : rs.length ≤ 64) (hg : ∀ r ∈ rs, GdR r) : Gd (K + 64) os1 := by
  have hm : Gd (K + 64) os := fun u hu => (h0 u hu).mono (by omega)
  obtain ⟨ea, _, ⟨o, hf, _, ⟨A, c, e1⟩, rfl⟩ | ⟨hf, e1, e2, e3, e4, rfl⟩⟩ := h
  · have ho := h0 o (find_nm hf).1
    refine hm.upd ?_
    subst e1
    refine ⟨?_, ho.2.1, hg⟩
    have := ho.1
    show o.held.length + rs.length ≤ K + 64
    omega
  · intro u hu
    rcases List.mem_append.1 hu with hu | hu
    · exact hm u hu
    · obtain rfl := List.mem_singleton.1 hu
      exact ⟨by rw [e3, ea]; simp; omega, (fun r hr => by rw [e3] at hr; cases hr), by rw [ea]; exact hg⟩
theorem PutA.len {os os1 : List Ob} {s q t : Nat} {rs : List Rg} {o1 : Ob} (h : PutA os s q rs t os1 o1) : os1.length ≤ os.length + 1 := by
  obtain ⟨_, _, ⟨o, hf, _, _, rfl⟩ | ⟨hf, e1, e2, e3, e4, rfl⟩⟩ := h
  · rw [updO_len]; omega
  · simp
theorem AskR.inv {K : Nat} {os os' : List Ob} {turns s q turns' : Nat} {rs : List Rg} {err st : Int} {vic gr : List (Nat × Nat)} (h : AskR os turns s q rs err st vic gr turns' os') (h0 : Gd K os) (hn : NmB os) : Gd (K + 64) os' ∧ NmB os' ∧ os'.length ≤ os.length + 1 ∧ turns' ≤ turns + 1 := by
  have hm : Gd (K + 64) os := fun u hu => (h0 u hu).mono (by omega)
  rcases h with ⟨_, _, _, _, _, rfl, rfl⟩ | ⟨_, _, _, _, _, _, rfl, rfl⟩ | ⟨hc, _, rfl, os1, o1, hp, hmm, h⟩
  · exact ⟨hm, hn, by omega, by omega⟩
  · exact ⟨hm, hn, by omega, by omega⟩
  · obtain ⟨c1, c2⟩ := checkR_ok hc
    have g1 := hp.gd h0 c1 c2
    have n1 := hp.nmb hn
    have l1 := hp.len
    rcases h with ⟨_, _, _, _, A, d, rfl⟩ | ⟨_, os2, hb, _, ⟨lo, _, _, hv⟩, _⟩
    · exact ⟨g1.upd ((g1 _ hmm).take _ _), n1.upd hmm rfl rfl, by rw [updO_len]; exact l1, by omega⟩
    · exact ⟨hv.gd (hb.gd g1), hv.nmb (hb.nmb n1), by rw [hv.len, hb.len]; exact l1, by omega⟩
theorem MvR.inv {K : Nat} {os os' : List Ob} {f : Ob → Bool} {gr : List (Nat × Nat)} (h : MvR (os.filter f) gr os') (h0 : Gd K os) (hn : NmB os) : Gd K os' ∧ NmB os' ∧ os'.length ≤ os.length := by
  obtain ⟨lo, _, _, hv⟩ := h
  have g1 : Gd K (os.filter f) := fun u hu => h0 u (List.mem_filter.1 hu).1
  have n1 : NmB (os.filter f) := fun u hu v hv e => hn u (List.mem_filter.1 hu).1 v (List.mem_filter.1 hv).1 e
  exact ⟨hv.gd g1, hv.nmb n1, by rw [hv.len]; exact List.length_filter_le _ _⟩
end Go.Proofs.Ytmpdenpopokigaa
namespace Go.Proofs.Ytmpdenpopokigaa
open Go Go.RowKit

theorem Made.outK {base : Nat} {w w' : World} {xs : List UInt8} {e : Ending} (h : Made base w xs e w') : ∃ A n c, e = .returned (.slice A n c) ∧ Own 5 w' base A n c xs ∧ Below base w w' := h
def exB (r : Rg) : List UInt8 := if r.ex then [1] else []
/-- A range's bytes. -/
def enc1 (r : Rg) : List UInt8 := frameB [r.lo, r.hi, exB r]
/-- Some ranges' bytes. -/
def encR (rs : List Rg) : List UInt8 := frameB (rs.map enc1)
theorem rdl_boxK {w : World} {t : TypeId} {vs : List Value} {xss : List (List UInt8)} {n : Nat} (hl : vs.length = n) (hx : xss.length = n) (h : ∀ (i : Nat) v x, vs[i]? = some v → xss[i]? = some x → ElB w v x) :
    RdL (w.alloc (.cells vs.toArray t)) (some ⟨w.heap.size, 0, none⟩) n xss := by
  refine ⟨hx, fun hn => ⟨w.heap.size, 0, rfl, by simp, fun i x hi => ?_⟩⟩
  have hlt := (List.getElem?_eq_some_iff.1 hi).1
  obtain ⟨v, hv⟩ : ∃ v, vs[i]? = some v := ⟨_, List.getElem?_eq_getElem (by omega)⟩
  refine ⟨v, ?_, (h i v x hv hi).below ((Below.refl _ _).alloc (Nat.le_refl _) _)⟩
  have hz : Cl (w.alloc (.cells vs.toArray t)) w.heap.size vs.toArray t := Cl.new _ _ _
  rw [Nat.zero_add, hz.cell i]
  simp [hv]
theorem rd_new1 (w : World) (x : UInt8) (t : TypeId) : Rd (w.alloc (.cells #[.int .u8 (x.toNat : Int)] t)) (some ⟨w.heap.size, 0, none⟩) 1 [x] := by
  refine ⟨rfl, fun _ => ⟨w.heap.size, 0, rfl, by simp, fun i y hi => ?_⟩⟩
  have hlt := (List.getElem?_eq_some_iff.1 hi).1
  obtain rfl : i = 0 := by simp at hlt; omega
  injection hi with hi
  subst hi
  exact (Cl.new w #[.int .u8 (x.toNat : Int)] t).cell 0
theorem rdl_three {w : World} {a b c : Value} {x y z : List UInt8} (h1 : ElB w a x) (h2 : ElB w b y) (h3 : ElB w c z) : RdL (w.alloc (.cells #[a, b, c] 36)) (some ⟨w.heap.size, 0, none⟩) 3 [x, y, z] := by
  refine rdl_boxK (vs := [a, b, c]) rfl rfl (fun i v q hv hq => ?_)
  match i, hv, hq with
  | 0, hv, hq => injection hv with hv; injection hq with hq; subst hv hq; exact h1
  | 1, hv, hq => injection hv with hv; injection hq with hq; subst hv hq; exact h2
  | 2, hv, hq => injection hv with hv; injection hq with hq; subst hv hq; exact h3
  | _ + 3, hv, _ => cases hv
section
variable {w : World} {A : Option Addr} {n c : Nat} {rs : List Rg}
set_option maxRecDepth 100000 in
set_option maxHeartbeats 8000000 in
theorem encode_any (h : RGr w A n rs) (hn : n ≤ 1048576) (hs : ∀ r ∈ rs, r.lo.length + r.hi.length ≤ 268435000) (ht : tot (rs.map enc1) ≤ 268435456) : Calls Try.prog 98 #[.slice A n c] w (Made w.heap.size w (encR rs)) := by
  have HH := Lib.hid h
  have HS := Lib.hid hs
  have HT := Lib.hid ht
  have HL := Lib.hid h.len
  clear h hs ht
  go_enter Try.func98, Try.ntmps98
  go_wp2_with fail
  go_loopw [3, 9] (fun s3 s9 wr => ∃ (k d : Nat) (P : Option Addr) (ps : List VB), k ≤ n ∧ s9 = .int .i64 (k : Int) ∧ s3 = .slice P k d ∧ ps.map (·.2) = (rs.take k).map enc1 ∧ RowF w w.heap.size P k d ps wr) (fun _ s _ => n - (intOf s).toNat)
  case atStart => exact ⟨0, 0, none, [], Nat.zero_le _, rfl, rfl, rfl, RowF.nil _ _⟩
  case round =>
    obtain ⟨k, d, P, ps, hk, rfl, rfl, hps, hrow⟩ := hrel
    have HR := Lib.hid hrow
    have HPS := Lib.hid hps
    clear hrow hps
    by_cases hlt : k < n
    · have hR := HH.out.below HR.out.bel
      obtain ⟨b, off, hAb, hbl⟩ := hR.pos (by omega)
      subst hAb
      obtain ⟨r, v0, v1, v2, hr, m0, m1, m2, hv⟩ := hR.at_ k hlt
      obtain ⟨K, kn, kc, T, tn, tc, rfl, rfl, rfl, r1, r2, k1, k2, k3, k4⟩ := hv.parts
      obtain ⟨ex, hex⟩ : ∃ ex, ex = r.ex := ⟨_, rfl⟩
      rw [← hex] at m2
      have e1 : ElB wr (.slice K kn kc) r.lo := ⟨K, kn, kc, rfl, r1, k1, k3⟩
      have e2 : ElB wr (.slice T tn tc) r.hi := ⟨T, tn, tc, rfl, r2, k2, k4⟩
      have hsr := HS.out r (List.mem_of_getElem? hr)
      have HSN : Hid ((rs.take (k + 1)).map enc1 = (rs.take k).map enc1 ++ [enc1 r]) := Lib.hid (by rw [List.take_add_one, hr, List.map_append]; rfl)
      have HTK : Hid (tot ((rs.take k).map enc1) ≤ 268435456) := Lib.hid (by
        have h1 := tot_take (rs.map enc1) k
        have h2 := HT.out
        rw [List.map_take]
        omega)
      have ht3 : tot [r.lo, r.hi, exB r] ≤ 268435456 := by
        have h1 : (exB r).length ≤ 1 := by unfold exB; cases r.ex <;> simp
        simp only [tot]
        omega
      obtain ⟨V, hV⟩ : ∃ V, V = wr.alloc (.cells #[.slice K kn kc, .slice T tn tc, .bool ex] 97) := ⟨_, rfl⟩
      have bV : Below wr.heap.size wr V := by rw [hV]; exact (Below.refl _ _).alloc (Nat.le_refl _) _
      have zV : Cl V wr.heap.size #[.slice K kn kc, .slice T tn tc, .bool ex] 97 := by rw [hV]; exact Cl.new _ _ _
      obtain ⟨g1, hg1⟩ : ∃ g1, g1 = wr.heap.size := ⟨_, rfl⟩
      rw [← hg1] at zV
      obtain ⟨c0, c1, c2, _⟩ := zV.c3
      have HV := Lib.hid hV
      have HG1 := Lib.hid hg1
      have HFIN : Hid (∀ (wx w6 : World) (Q P2 : Option Addr) (qn qc d2 : Nat), Below wr.heap.size wr wx → Own 5 w6 wx.heap.size Q qn qc (enc1 r) → Below wx.heap.size wx w6 → ∀ w7, OwnV 36 w7 w.heap.size P2 (k + 1) d2 (ps.map (·.1) ++ [.slice Q qn qc]) → w6.grownBy w7 (blk P) → (blk P2 = blk P ∨ blk P2 = some (w6.heap.size + 1)) →
          (ps ++ [((.slice Q qn qc : Value), enc1 r)]).map (·.2) = (rs.take (k + 1)).map enc1 ∧ RowF w w.heap.size P2 (k + 1) d2 (ps ++ [((.slice Q qn qc : Value), enc1 r)]) w7) := Lib.hid (fun wx w6 Q P2 qn qc d2 hx hq hb w7 ho hg hk => by
        have hbs := HR.out.bel.size
        have h1 := HR.out.below hx hbs
        refine ⟨by rw [List.map_append, HPS.out, HSN.out]; rfl, h1.snoc (Nat.le_trans hbs hx.size) hq hb ho hg hk⟩)
      have HROW : Hid (∀ wx w6, Below wr.heap.size wr wx → Below wx.heap.size wx w6 → OwnV 36 w6 w.heap.size P k d (ps.map (·.1)) ∧ w.heap.size ≤ w6.heap.size) := Lib.hid (fun wx w6 h1 h2 => ⟨(HR.out.own.below h1).below h2, Nat.le_trans HR.out.bel.size (Nat.le_trans h1.size h2.size)⟩)
      cases ex with
      | true =>
        have hE : exB r = [1] := by unfold exB; rw [← hex]; rfl
        obtain ⟨V2, hV2⟩ : ∃ V2, V2 = V.alloc (.cells #[.int .u8 1] 5) := ⟨_, rfl⟩
        have bV2 : Below V.heap.size V V2 := by rw [hV2]; exact (Below.refl _ _).alloc (Nat.le_refl _) _
        obtain ⟨g2, hg2⟩ : ∃ g2, g2 = V.heap.size := ⟨_, rfl⟩
        have e3 : ElB V2 (.slice (some ⟨g2, 0, none⟩) 1 1) (exB r) := ⟨_, _, _, rfl, by rw [hE, hg2, hV2]; exact rd_new1 V 1 _, Nat.le_refl _, fun h => by cases h⟩
        obtain ⟨V3, hV3⟩ : ∃ V3, V3 = V2.alloc (.cells #[.slice K kn kc, .slice T tn tc, .slice (some ⟨g2, 0, none⟩) 1 1] 36) := ⟨_, rfl⟩
        obtain ⟨g3, hg3⟩ : ∃ g3, g3 = V2.heap.size := ⟨_, rfl⟩
        have b12 := belowT' bV bV2
        have hrl : RdL V3 (some ⟨g3, 0, none⟩) 3 [r.lo, r.hi, exB r] := by rw [hV3, hg3]; exact rdl_three (e1.below b12) (e2.below b12) e3
        have bV3 : Below V2.heap.size V2 V3 := by rw [hV3]; exact (Below.refl _ _).alloc (Nat.le_refl _) _
        have HFR : Hid (Calls Try.prog 79 #[.slice (some ⟨g3, 0, none⟩) 3 3] V3 (Made V3.heap.size V3 (enc1 r))) := Lib.hid (Frame_any _ 3 3 _ V3 hrl ht3)
        have HB3 := Lib.hid (belowT' b12 bV3)
        have HV2 := Lib.hid hV2
        have HV3 := Lib.hid hV3
        have HG2 := Lib.hid hg2
        have HG3 := Lib.hid hg3
        have c0 := (zV.below bV2).cell 0
        have c1 := (zV.below bV2).cell 1
        clear hR hr hv r1 r2 k1 k2 k3 k4 hex e1 e2 hsr ht3 bV zV hV hg1 hE bV2 e3 b12 hrl bV3 hV2 hV3 hg2 hg3
        go_upto_region 6 with (fail)
        rw [← HV.out, ← HG1.out]
        clear m0 m1 m2
        go_upto_region 8 with (fail)
        rw [← HV2.out, ← HG2.out]
        go_wp2_with (fail)
        rw [← HV3.out, ← HG3.out]
        with_reducible refine HFR.out.mono ?_
        intro e w6 hq
        obtain ⟨Q, qn, qc, h1, oQ, b6⟩ := Made.outK hq
        subst h1
        obtain ⟨hrow6, hbase6⟩ := HROW.out _ _ HB3.out b6
        have HO6 := Lib.hid hrow6
        have HOQ := Lib.hid oQ
        have HB6 := Lib.hid b6
        have HBS6 := Lib.hid hbase6
        clear hq hrow6 oQ b6 hbase6 HFR
        go_wp2_with (at_builtin; refine wpList_app1 w6 rfl _ _ 101 rfl w.heap.size 36 _ _ Try.underlying101 info_sl rfl P k d (ps.map (·.1)) rfl HO6.out (.slice Q qn qc) rfl w6.heap.size rfl rfl ?_ ?_ ?_ ?_)
        · unfold maxLen; omega
        · omega
        · exact HBS6.out
        intro P2 d2 w7 ho hg hk2
        have HQ := Lib.hid (HFIN.out _ _ _ _ _ _ _ HB3.out HOQ.out HB6.out _ ho hg hk2)
        clear ho hg hk2
        go_wp2_with fail
        go_roundw
        case rel => exact ⟨k + 1, d2, P2, _, by omega, by go_num, rfl, HQ.out.1, HQ.out.2⟩
        case measure => simp [intOf]; omega
      | false =>
        have hE : exB r = [] := by unfold exB; rw [← hex]; rfl
        have e3 : ElB V (.slice none 0 0) (exB r) := ⟨_, _, _, rfl, by rw [hE]; exact Rd.nil _ _, Nat.le_refl _, fun _ => rfl⟩
        obtain ⟨V3, hV3⟩ : ∃ V3, V3 = V.alloc (.cells #[.slice K kn kc, .slice T tn tc, .slice none 0 0] 36) := ⟨_, rfl⟩
        obtain ⟨g3, hg3⟩ : ∃ g3, g3 = V.heap.size := ⟨_, rfl⟩
        have hrl : RdL V3 (some ⟨g3, 0, none⟩) 3 [r.lo, r.hi, exB r] := by rw [hV3, hg3]; exact rdl_three (e1.below bV) (e2.below bV) e3
        have bV3 : Below V.heap.size V V3 := by rw [hV3]; exact (Below.refl _ _).alloc (Nat.le_refl _) _
        have HFR : Hid (Calls Try.prog 79 #[.slice (some ⟨g3, 0, none⟩) 3 3] V3 (Made V3.heap.size V3 (enc1 r))) := Lib.hid (Frame_any _ 3 3 _ V3 hrl ht3)
        have HB3 := Lib.hid (belowT' bV bV3)
        have HV3 := Lib.hid hV3
        have HG3 := Lib.hid hg3
        clear hR hr hv r1 r2 k1 k2 k3 k4 hex e1 e2 hsr ht3 bV zV hV hg1 hE e3 hrl bV3 hV3 hg3
        go_upto_region 6 with (fail)
        rw [← HV.out, ← HG1.out]
        clear m0 m1 m2
        go_wp2_with fail
        rw [← HV3.out, ← HG3.out]
        with_reducible refine HFR.out.mono ?_
        intro e w6 hq
        obtain ⟨Q, qn, qc, h1, oQ, b6⟩ := Made.outK hq
        subst h1
        obtain ⟨hrow6, hbase6⟩ := HROW.out _ _ HB3.out b6
        have HO6 := Lib.hid hrow6
        have HOQ := Lib.hid oQ
        have HB6 := Lib.hid b6
        have HBS6 := Lib.hid hbase6
        clear hq hrow6 oQ b6 hbase6 HFR
        go_wp2_with (at_builtin; refine wpList_app1 w6 rfl _ _ 101 rfl w.heap.size 36 _ _ Try.underlying101 info_sl rfl P k d (ps.map (·.1)) rfl HO6.out (.slice Q qn qc) rfl w6.heap.size rfl rfl ?_ ?_ ?_ ?_)
        · unfold maxLen; omega
        · omega
        · exact HBS6.out
        intro P2 d2 w7 ho hg hk2
        have HQ := Lib.hid (HFIN.out _ _ _ _ _ _ _ HB3.out HOQ.out HB6.out _ ho hg hk2)
        clear ho hg hk2
        go_wp2_with fail
        go_roundw
        case rel => exact ⟨k + 1, d2, P2, _, by omega, by go_num, rfl, HQ.out.1, HQ.out.2⟩
        case measure => simp [intOf]; omega
    · obtain rfl : k = n := by omega
      have htk : rs.take k = rs := List.take_of_length_le (by rw [HL.out]; exact Nat.le_refl _)
      have HFR : Hid (Calls Try.prog 79 #[.slice P k d] wr (Made wr.heap.size wr (encR rs))) := Lib.hid (Frame_any P k d (rs.map enc1) wr (by
        have h1 := HR.out.rd
        rw [HPS.out, htk] at h1
        exact h1) HT.out)
      have HBW := Lib.hid HR.out.bel
      go_wp2_with fail
      with_reducible refine HFR.out.mono ?_
      intro e w6 hq
      obtain ⟨Q, qn, qc, h1, oQ, b6⟩ := Made.outK hq
      subst h1
      have HF : Hid (Made w.heap.size w (encR rs) (.returned (.slice Q qn qc)) w6) := Lib.hid ⟨Q, qn, qc, rfl, oQ.mono HBW.out.size, belowT' HBW.out b6⟩
      clear hq oQ b6
      go_wp2_with fail
      go_ret
      exact HF.out
end
end Go.Proofs.Ytmpdenpopokigaa
namespace Go.Proofs.Ytmpdenpopokigaa
open Go Go.RowKit
/-- What the asker may be, behind the breaking of circles and the moving. -/
def AsI (s q : Nat) (rs : List Rg) (ob : Nat) (vic : List (Nat × Nat)) (os : List Ob) : Prop :=
  (∀ u ∈ os, nmO u = (s, q) → u.b = ob) ∧ ∀ u ∈ os, u.b = ob → nmO u = (s, q) ∧ ((u.turn ≠ 0 ∧ u.held = [] ∧ u.asked = rs) ∨ (u.turn = 0 ∧ u.asked = [] ∧ (u.held = rs ∨ (s, q) ∈ vic)))
theorem AsI.give {s q ob : Nat} {rs : List Rg} {vic : List (Nat × Nat)} {os : List Ob} {v : Ob} (h : AsI s q rs ob vic os) (hv : v ∈ os) : AsI s q rs ob (vic ++ [nmO v]) (updO os (giveO v)) := by
  refine ⟨fun u hu e => ?_, fun u hu e => ?_⟩
  · rcases updO_mem hu with ⟨rfl, _⟩ | ⟨h1, _⟩
    · exact h.1 v hv e
    · exact h.1 u h1 e
  · rcases updO_mem hu with ⟨rfl, _⟩ | ⟨h1, _⟩
    · obtain ⟨e1, e2⟩ := h.2 v hv e
      refine ⟨e1, .inr ⟨rfl, rfl, .inr ?_⟩⟩
      rw [e1]; simp
    · obtain ⟨e1, e2⟩ := h.2 u h1 e
      refine ⟨e1, e2.imp id (fun h => ⟨h.1, h.2.1, h.2.2.imp id (fun h => List.mem_append_left _ h)⟩)⟩
theorem AsI.take {s q ob : Nat} {rs : List Rg} {vic : List (Nat × Nat)} {os : List Ob} {c : Ob} (h : AsI s q rs ob vic os) (hc : c ∈ os) (A : Option Addr) (d : Nat) : AsI s q rs ob vic (updO os (takeO c A d)) := by
  refine ⟨fun u hu e => ?_, fun u hu e => ?_⟩
  · rcases updO_mem hu with ⟨rfl, _⟩ | ⟨h1, _⟩
    · exact h.1 c hc e
    · exact h.1 u h1 e
  · rcases updO_mem hu with ⟨rfl, _⟩ | ⟨h1, _⟩
    · obtain ⟨e1, e2⟩ := h.2 c hc e
      refine ⟨e1, .inr ⟨rfl, rfl, ?_⟩⟩
      have hh : (takeO c A d).held = c.held ++ c.asked := rfl
      rw [hh]
      rcases e2 with ⟨_, e3, e4⟩ | ⟨_, e3, e4⟩
      · exact .inl (by rw [e3, e4]; rfl)
      · rw [e3, List.append_nil]; exact e4
    · exact h.2 u h1 e
/-- One holds what clashes. -/
def BlI (rs : List Rg) (ob ub : Nat) (os : List Ob) : Prop := ub ≠ ob ∧ (∃ u ∈ os, u.b = ub) ∧ (∀ u ∈ os, u.b = ub → clashR rs u.held = true) ∧ ∀ u ∈ os, u.b = ob → u.turn ≠ 0 ∧ u.asked = rs
theorem BlI.wf {rs : List Rg} {ob ub : Nat} {os : List Ob} {c : Ob} (h : BlI rs ob ub os) (hc : c ∈ os) (e : c.b = ob) : os.any (wfO c) = true := by
  obtain ⟨h1, ⟨u, hu, he⟩, h3, h4⟩ := h
  obtain ⟨e1, e2⟩ := h4 c hc e
  refine List.any_eq_true.2 ⟨u, hu, ?_⟩
  unfold wfO
  rw [if_neg (fun h => h.elim (fun h => h1 (by rw [← he, ← h, e])) e1), e2, h3 u hu he]
  rfl
end Go.Proofs.Ytmpdenpopokigaa
namespace Go.Proofs.Ytmpdenpopokigaa
open Go Go.RowKit

theorem frameB_lenK : ∀ l : List (List UInt8), tot l ≤ 268435456 → (frameB l).length ≤ tot l + 10 * l.length
  | [], _ => by simp [frameB]
  | x :: r, h => by
    simp only [tot] at h
    have h1 := frameB_lenK r (by omega)
    have h2 : (putU x.length).length ≤ 10 := putU_len64 x.length (by unfold B64; omega)
    simp only [frameB, tot, List.length_append, List.length_cons]
    omega
/-- A row of one more; where it lies. -/
theorem RowF.snocK {w0 w w' w2 : World} {base n c : Nat} {P : Option Addr} {ps : List VB} (h : RowF w0 base P n c ps w) (hbase : base ≤ w.heap.size) {A : Option Addr} {m d : Nat} {xs : List UInt8} (ho : Own 5 w2 w.heap.size A m d xs) (hb : Below w.heap.size w w2)
    {P' : Option Addr} {c' : Nat} (hr : OwnV 36 w' base P' (n + 1) c' (ps.map (·.1) ++ [.slice A m d])) (hg : w2.grownBy w' (blk P)) (hk : blk P' = blk P ∨ blk P' = some w2.heap.size) :
    RowF w0 base P' (n + 1) c' (ps ++ [(.slice A m d, xs)]) w' := by
  have hf : Fam w2 base (ps ++ ([(.slice A m d, xs)] ++ [])) := Fam.ins (by rw [List.append_nil]; exact h.fam) (Fam.one ho) hb (Nat.le_refl _) hbase
  rw [List.append_nil] at hf
  have hbs := hb.size
  have hoff : ∀ b, blk P = some b → OffF (ps ++ [(.slice A m d, xs)]) b := fun b e p hp => by
    simp only [List.mem_append, List.mem_singleton] at hp
    rcases hp with hp | rfl
    · exact h.2.2.1 b e p hp
    · intro e2
      rw [own_blk] at e2
      have h1 := ho.lt b e2
      have h2 := h.1.lt b e
      omega
  refine ⟨by rw [List.map_append]; exact hr, hf.kept hg hoff, fun b e => ?_, (h.bel.trans (hb.mono hbase)).grown hg (by omega) (fun k hk => (h.1.lt k hk).1)⟩
  rcases hk with hk | hk
  · exact hoff b (by rw [← hk]; exact e)
  · rw [hk] at e
    injection e with e
    exact hf.off_new (by omega)
theorem RowF.one {w : World} {base n c : Nat} {A : Option Addr} {xs : List UInt8} {w0 : World} (ho : Own 5 w base A n c xs) (hb : Below base w0 w) (hbase : base ≤ w.heap.size) :
    RowF w0 base (some ⟨w.heap.size, 0, none⟩) 1 1 [(.slice A n c, xs)] (w.alloc (.cells #[.slice A n c] 36)) := by
  refine ⟨ownV_box2 w 36 base [.slice A n c] 1 rfl (by omega) hbase _ rfl, (Fam.one ho).below ((Below.refl _ _).alloc (Nat.le_refl _) _), fun b e p hp => ?_, hb.alloc hbase _⟩
  have hp := List.mem_singleton.1 hp
  subst hp
  intro e2
  rw [own_blk] at e2
  have h1 := (ho.lt b e2).2
  have e : some w.heap.size = some b := e
  injection e with e
  omega
theorem wp_appVT {P : Program} (w : World) {o : Oper} {a : Act} {K : Act → World → Prop} {Q : Exit → Act → World → Prop} (s x : Operand) (tt : TypeId)
    (ho : o.op = .call { callee := .builtin .append, args := #[s, x], argTypes := #[tt, tt] })
    (base : Nat) (t : TypeId) (z : Value) (by_ : Nat) (ht : P.underlying tt = some (.slice t)) (hi : (P.info? t).map (fun i => (i.zero, i.size, i.bytes)) = some (some z, 1, by_)) (hz1 : z.cells.size = 1)
    (A : Option Addr) (n c : Nat) (vs : List Value) (hs : a.eval s = .slice A n c) (hown : OwnV t w base A n c vs)
    (g : Nat) (v : Value) (hx : a.eval x = .slice (some ⟨g, 0, none⟩) 1 1) (hr : w.cell? ⟨g, 0, none⟩ = some v) (h1 : v.oneCell' = true)
    (hn : n + 1 ≤ maxLen) (hby : (n + 1) * by_ ≤ 140737488355328) (hbase : base ≤ w.heap.size)
    (h : ∀ A' c' w', OwnV t w' base A' (n + 1) c' (vs ++ [v]) → w.grownBy w' (blk A) → (blk A' = blk A ∨ blk A' = some w.heap.size) → K (a.put o.dst (.slice A' (n + 1) c')) w') :
    Oper.wp P o a w K Q := by
  obtain ⟨i, hi, hz, hsz, hby2⟩ := info_parts hi
  obtain ⟨v', w', hrun, k1, k2, _, k3⟩ := run_append_own_at (P := P) w base tt o.type t i z 1 by_ ht hi hz hsz hby2 hz1 (by decide) (.slice A n c) n vs hown ⟨g, 0, none⟩ 1 1 [v] rfl (by
    intro j u hj
    have hj0 : j = 0 := by
      have := (List.getElem?_eq_some_iff.1 hj).1
      simp at this; omega
    subst hj0
    injection hj with hj
    subst hj
    rw [Addr.add_lit]
    exact hr) (by intro u hu; rw [List.mem_singleton.1 hu]; exact h1) hn hby hbase
  obtain ⟨A', c', rfl⟩ : ∃ A' c', v' = .slice A' (n + 1) c' := by
    rcases k1.2 with ⟨h3, h4⟩ | ⟨g, cap, cur, h3, _⟩
    · omega
    · exact ⟨_, _, h3⟩
  rw [own_blk] at k2
  rw [own_blk, own_blk] at k3
  unfold Oper.wp execOp
  simp only [ho, resolve, invoke, builtin, Sem.run_bind, Sem.run_pure, Result.andThen_ok, List.map_toArray, List.map_cons, List.map_nil, hs, hx, hrun]
  exact h A' c' w' k1 k2 k3
/-- An owner's bytes. -/
def psO (o : Ob) : List (List UInt8) := [putU o.s, putU o.q, encR o.held, encR o.asked]
def encO (o : Ob) : List UInt8 := frameB (psO o)
/-- The places of those that wait. -/
def plO (os : List Ob) (o : Ob) : Nat := (ixB (fun u => decide (o.b = u.b)) os).toNat
def lineB (os l : List Ob) : List UInt8 := l.flatMap fun o => putU (plO os o)
theorem lineB_snoc (os l : List Ob) (o : Ob) : lineB os (l ++ [o]) = lineB os l ++ putU (plO os o) := by simp [lineB]
theorem ix_mem {P : Ob → Bool} {os : List Ob} {o : Ob} (ho : o ∈ os) (hp : P o = true) : ∃ k : Nat, ixB P os = (k : Int) ∧ k < os.length := by
  rcases ixB_find P os with ⟨_, h⟩ | ⟨k, u, h1, h2, _⟩
  · rw [List.find?_eq_none] at h
    exact absurd hp (h o ho)
  · exact ⟨k, h1, (List.getElem?_eq_some_iff.1 h2).1⟩
theorem plO_eq {os : List Ob} {o : Ob} (ho : o ∈ os) : ixB (fun u => decide (o.b = u.b)) os = (plO os o : Int) ∧ plO os o < os.length := by
  obtain ⟨k, h1, h2⟩ := ix_mem (P := fun u => decide (o.b = u.b)) ho (by simp)
  unfold plO
  rw [h1]
  exact ⟨by simp, by simpa using h2⟩
theorem rdl_four {w : World} {a b c d : Value} {x y z u : List UInt8} (h1 : ElB w a x) (h2 : ElB w b y) (h3 : ElB w c z) (h4 : ElB w d u) : RdL (w.alloc (.cells #[a, b, c, d] 36)) (some ⟨w.heap.size, 0, none⟩) 4 [x, y, z, u] := by
  refine rdl_boxK (vs := [a, b, c, d]) rfl rfl (fun i v q hv hq => ?_)
  match i, hv, hq with
  | 0, hv, hq => injection hv with hv; injection hq with hq; subst hv hq; exact h1
  | 1, hv, hq => injection hv with hv; injection hq with hq; subst hv hq; exact h2
  | 2, hv, hq => injection hv with hv; injection hq with hq; subst hv hq; exact h3
  | 3, hv, hq => injection hv with hv; injection hq with hq; subst hv hq; exact h4
  | _ + 4, hv, _ => cases hv
/-- What is small enough to be written. -/
def SmR (rs : List Rg) : Prop := rs.length ≤ 1048576 ∧ (∀ r ∈ rs, r.lo.length + r.hi.length ≤ 268435000) ∧ tot (rs.map enc1) ≤ 268435456
def SmO (u : Ob) : Prop := u.s < B64 ∧ u.q < B64 ∧ SmR u.held ∧ SmR u.asked ∧ tot (psO u) ≤ 268435456
section
variable {w : World} {bs p : Nat} {OA : Option Addr} {oc turns : Nat} {os : List Ob}
set_option maxRecDepth 100000 in
set_option maxHeartbeats 16000000 in
theorem encodeT_any (h : TkAt w bs p OA oc turns os) (hn : os.length ≤ 1048576) (hs : ∀ u ∈ os, SmO u) (ht : ∀ l, l.Perm (os.filter posO) → tot (lineB os l :: os.map encO) ≤ 268435456) :
    Calls Try.prog 39 #[.pointer (some ⟨p, 0, none⟩)] w (fun e w' => ∃ l : List Ob, l.Perm (os.filter posO) ∧ l.Pairwise (fun a b => a.turn ≤ b.turn) ∧ Made w.heap.size w (frameB (lineB os l :: os.map encO)) e w') := by
  have HQ := Lib.hid (queue_any h (by omega))
  have HT := Lib.hid h
  have HS := Lib.hid hs
  have HTT := Lib.hid ht
  have HN := Lib.hid hn
  clear h hs ht
  go_enter Try.func39, Try.ntmps39
  go_wp2_with fail
  with_reducible refine HQ.out.mono ?_
  intro e w1 hq
  obtain ⟨QA, qc, l, h1, hrow, hobs, hperm, hpw, hbel⟩ := hq.out
  subst h1
  obtain ⟨qn, hqn⟩ : ∃ n, n = l.length := ⟨_, rfl⟩
  rw [← hqn] at hrow ⊢
  have hql : qn ≤ 1048576 := by
    rw [hqn, hperm.length_eq]
    have h1 := List.length_filter_le posO os
    omega
  have HROW := Lib.hid hrow
  have HP := Lib.hid (And.intro hperm hpw)
  have HTL := Lib.hid (HTT.out l hperm)
  have HLM : Hid (∀ o ∈ l, o ∈ os) := Lib.hid (fun o ho => (List.mem_filter.1 (hperm.mem_iff.1 ho)).1)
  have HB1 := Lib.hid hbel
  have HQN := Lib.hid hqn
  obtain ⟨n, hn2⟩ : ∃ n, n = os.length := ⟨_, rfl⟩
  have HN2 := Lib.hid hn2
  have HK : Hid (∀ wx, Below w1.heap.size w1 wx → wx.cell? ⟨p, 0, none⟩ = some (.slice OA n oc)) := Lib.hid (fun wx hb => by rw [hn2]; exact (HT.out.below (belowT' HB1.out hb)).k0)
  have hnn : n ≤ 1048576 := by omega
  have HLL : Hid (∀ k, (lineB os (l.take k)).length ≤ 268435456) := Lib.hid (fun k => by
    have h1 := HTL.out
    simp only [tot] at h1
    have h2 : (lineB os (l.take k)).length ≤ (lineB os l).length := by
      have h3 : lineB os l = lineB os (l.take k) ++ lineB os (l.drop k) := by
        unfold lineB
        rw [← List.flatMap_append, List.take_append_drop]
      rw [h3, List.length_append]; omega
    omega)
  clear hq hrow hobs hperm hpw hbel hqn HQ hn2
  go_wp2_with fail
  go_loopw [3, 12] (fun s3 s12 wr => ∃ (k m d : Nat) (L : Option Addr), k ≤ qn ∧ s12 = .int .i64 (k : Int) ∧ s3 = .slice L m d ∧ Own 5 wr w1.heap.size L m d (lineB os (l.take k)) ∧ Below w1.heap.size w1 wr) (fun _ s _ => qn - (intOf s).toNat)
  case atStart => exact ⟨0, 0, 0, none, Nat.zero_le _, rfl, rfl, Own.nil _ _ _, Below.refl _ _⟩
  case round =>
    obtain ⟨k, m, d, L, hk, rfl, rfl, hO, hB⟩ := hrel
    have HO := Lib.hid hO
    have HB := Lib.hid hB
    by_cases hlt : k < qn
    · have hR := HROW.out.below hB
      obtain ⟨b, off, hAb, hbl⟩ := hR.rd.pos (by omega)
      subst hAb
      obtain ⟨v, hv, m0⟩ := hR.rd.at_ k hlt
      obtain ⟨x, hx⟩ : ∃ x, l[k]? = some x := ⟨_, List.getElem?_eq_getElem (by rw [← HQN.out]; exact hlt)⟩
      obtain rfl : v = obP x := by rw [List.getElem?_map, hx] at hv; injection hv with hv; exact hv.symm
      have hxm := HLM.out x (List.mem_of_getElem? hx)
      obtain ⟨pe, pl⟩ := plO_eq hxm
      have hTr := HT.out.below (belowT' HB1.out hB)
      have HIX : Hid (Calls Try.prog 97 #[.slice OA n oc, .pointer (some ⟨x.b, 0, none⟩)] wr (RetNu wr ((plO os x : Nat) : Int))) := Lib.hid (by
        have := indexP_any (c := oc) hTr.rob (by omega) (hTr.obs x hxm)
        rw [pe, ← HN2.out] at this
        exact this)
      obtain ⟨pk, hpk⟩ : ∃ pk, pk = plO os x := ⟨_, rfl⟩
      rw [← hpk] at HIX pl
      have HPU : Hid (∀ wx, Calls Try.prog 77 #[.int .u64 (pk : Int)] wx (Made wx.heap.size wx (putU pk))) := Lib.hid (fun wx => PutU_any pk wx (by unfold B64; omega))
      have HSN : Hid (lineB os (l.take (k + 1)) = lineB os (l.take k) ++ putU pk) := Lib.hid (by rw [List.take_add_one, hx, hpk]; exact lineB_snoc _ _ _)
      unfold obP at m0
      obtain ⟨xb, hxb⟩ : ∃ xb, xb = x.b := ⟨_, rfl⟩
      rw [← hxb] at m0 HIX
      have k0 := HK.out wr hB
      have hpkn : pk < n := by rw [HN2.out]; exact pl
      clear hO hB hR hv hx hxm pe pl hTr hpk hxb
      go_wp2_with fail
      with_reducible refine HIX.out.mono ?_
      intro e w2 hq
      obtain ⟨h1, b2⟩ : e = .returned (.int .i64 (pk : Int)) ∧ Below wr.heap.size wr w2 := hq
      subst h1
      have HB2 := Lib.hid b2
      clear b2 k0 m0 HIX
      go_wp2_with fail
      with_reducible refine (HPU.out _).mono ?_
      intro e w3 hq
      obtain ⟨C, cn, cc, h1, oC, bC⟩ := Made.outK hq
      subst h1
      have HB3 := Lib.hid (belowT' HB2.out bC)
      have HO3 := Lib.hid (HO.out.below HB3.out)
      have HBW := Lib.hid (belowT' HB.out HB3.out)
      have HC := Lib.hid oC
      have hcn : cn ≤ 10 := by rw [← oC.len]; exact putU_len64 pk (by unfold B64; omega)
      have hml : m ≤ 268435456 := by rw [← HO.out.len]; exact HLL.out k
      clear hq oC bC
      go_wp2_with (at_builtin; refine wpList_app w3 rfl (.tmp 16) (.tmp 24) 36 rfl w1.heap.size 5 Try.underlying36 info_u8 L m d _ rfl HO3.out C cn cc _ rfl HC.out.rd ?_ ?_ ?_)
      · omega
      · exact HBW.out.size
      intro L2 d2 w4 hO4 hb4
      obtain ⟨m2, hm2⟩ : ∃ m2, m2 = m + cn := ⟨_, rfl⟩
      rw [← hm2] at hO4 ⊢
      have HQ : Hid (Own 5 w4 w1.heap.size L2 m2 d2 (lineB os (l.take (k + 1))) ∧ Below w1.heap.size w1 w4) := Lib.hid ⟨by rw [HSN.out]; exact hO4, HBW.out.trans hb4⟩
      clear hO4 hb4 hm2
      go_wp2_with fail
      go_roundw
      case rel => exact ⟨k + 1, m2, d2, L2, by omega, by go_num, rfl, HQ.out⟩
      case measure => simp [intOf]; omega
    · obtain rfl : k = qn := by omega
      have htk : l.take k = l := List.take_of_length_le (by rw [← HQN.out]; exact Nat.le_refl _)
      rw [htk] at hO
      have HOL := Lib.hid hO
      have k0 := HK.out wr hB
      obtain ⟨W, hW⟩ : ∃ W, W = wr.alloc (.cells #[.slice L m d] 36) := ⟨_, rfl⟩
      have bW : Below wr.heap.size wr W := by rw [hW]; exact (Below.refl _ _).alloc (Nat.le_refl _) _
      obtain ⟨g, hg⟩ : ∃ g, g = wr.heap.size := ⟨_, rfl⟩
      have k0 := HK.out W (belowT' hB bW)
      have HST : Hid (RowF w1 w1.heap.size (some ⟨g, 0, none⟩) 1 1 [(.slice L m d, lineB os l)] W) := Lib.hid (by rw [hW, hg]; exact RowF.one hO hB hB.size)
      have HW := Lib.hid hW
      have HG := Lib.hid hg
      clear hO hB htk bW hW hg
      go_upto_region 8 with (fail)
      rw [← HW.out, ← HG.out]
      go_wp2_with fail
      clear k0
      go_loopw [6, 34] (fun s6 s34 wr => ∃ (k d : Nat) (P : Option Addr) (ps : List VB), k ≤ n ∧ s34 = .int .i64 (k : Int) ∧ s6 = .slice P (k + 1) d ∧ ps.map (·.2) = lineB os l :: (os.take k).map encO ∧ RowF w1 w1.heap.size P (k + 1) d ps wr) (fun _ s _ => n - (intOf s).toNat)
      case atStart => exact ⟨0, 1, _, _, Nat.zero_le _, rfl, rfl, rfl, HST.out⟩
      case round =>
        obtain ⟨k, d, P, ps, hk, rfl, rfl, hps, hrow⟩ := hrel
        have HR := Lib.hid hrow
        have HPS := Lib.hid hps
        clear hrow hps
        by_cases hlt : k < n
        · have hTr := HT.out.below (belowT' HB1.out HR.out.bel)
          obtain ⟨b, off, hAb, hbl⟩ := hTr.rob.1.pos (by rw [← HN2.out]; omega)
          subst hAb
          obtain ⟨x, hx, m0, hox⟩ := hTr.rob.at_ k (by rw [← HN2.out]; exact hlt)
          have hxm := List.mem_of_getElem? hx
          obtain ⟨s1, s2, s3, s4, s5⟩ := HS.out x hxm
          have HSX : Hid (∀ wx, Below w1.heap.size w1 wx → ∃ o : Ob, o = x ∧ ObAt wx bs o) := Lib.hid (fun wx hb => ⟨x, rfl, (HT.out.below (belowT' HB1.out hb)).obs x hxm⟩)
          obtain ⟨xb, hxb⟩ : ∃ xb, xb = x.b := ⟨_, rfl⟩
          obtain ⟨xs, hxs⟩ : ∃ xs, xs = x.s := ⟨_, rfl⟩
          obtain ⟨xq, hxq⟩ : ∃ xq, xq = x.q := ⟨_, rfl⟩
          obtain ⟨hA, hhA⟩ : ∃ hA, hA = x.hA := ⟨_, rfl⟩
          obtain ⟨hn3, hhn⟩ : ∃ hn, hn = x.held.length := ⟨_, rfl⟩
          obtain ⟨hc, hhc⟩ : ∃ hc, hc = x.hc := ⟨_, rfl⟩
          obtain ⟨aA, haA⟩ : ∃ aA, aA = x.aA := ⟨_, rfl⟩
          obtain ⟨an, han⟩ : ∃ an, an = x.asked.length := ⟨_, rfl⟩
          obtain ⟨ac, hac⟩ : ∃ ac, ac = x.ac := ⟨_, rfl⟩
          rw [← hxb] at m0
          have HSC : Hid (∀ wx, Below w1.heap.size w1 wx → wx.cell? ⟨xb, 0, none⟩ = some (.int .u64 (xs : Int)) ∧ wx.cell? ⟨xb, 1, none⟩ = some (.int .u64 (xq : Int)) ∧ wx.cell? ⟨xb, 2, none⟩ = some (.slice hA hn3 hc) ∧ wx.cell? ⟨xb, 3, none⟩ = some (.slice aA an ac)) := Lib.hid (fun wx hb => by
            obtain ⟨o, rfl, ho⟩ := HSX.out wx hb
            rw [hxb, hxs, hxq, hhA, hhn, hhc, haA, han, hac]
            exact ⟨ho.k0, ho.k1, ho.k2, ho.k3⟩)
          have HP1 : Hid (∀ wx, Calls Try.prog 77 #[.int .u64 (xs : Int)] wx (Made wx.heap.size wx (putU xs))) := Lib.hid (fun wx => PutU_any xs wx (by rw [hxs]; exact s1))
          have HP2 : Hid (∀ wx, Calls Try.prog 77 #[.int .u64 (xq : Int)] wx (Made wx.heap.size wx (putU xq))) := Lib.hid (fun wx => PutU_any xq wx (by rw [hxq]; exact s2))
          have HE1 : Hid (∀ wx, Below w1.heap.size w1 wx → Calls Try.prog 98 #[.slice hA hn3 hc] wx (Made wx.heap.size wx (encR x.held))) := Lib.hid (fun wx hb => by
            obtain ⟨o, ho, hob⟩ := HSX.out wx hb
            subst ho
            rw [hhA, hhn, hhc]
            exact encode_any hob.hR.rd s3.1 s3.2.1 s3.2.2)
          have HE2 : Hid (∀ wx, Below w1.heap.size w1 wx → Calls Try.prog 98 #[.slice aA an ac] wx (Made wx.heap.size wx (encR x.asked))) := Lib.hid (fun wx hb => by
            obtain ⟨o, ho, hob⟩ := HSX.out wx hb
            subst ho
            rw [haA, han, hac]
            exact encode_any hob.aR.rd s4.1 s4.2.1 s4.2.2)
          have HFRX : Hid (∀ (x1 x2 x3 x4 : World) (A1 A2 A3 A4 : Option Addr) (n1 c1 n2 c2 n3 c3 n4 c4 z1 z2 z3 z4 : Nat), Own 5 x1 z1 A1 n1 c1 (putU xs) → Below x1.heap.size x1 x2 → Own 5 x2 z2 A2 n2 c2 (putU xq) → Below x2.heap.size x2 x3 → Own 5 x3 z3 A3 n3 c3 (encR x.held) → Below x3.heap.size x3 x4 → Own 5 x4 z4 A4 n4 c4 (encR x.asked) →
              Calls Try.prog 79 #[.slice (some ⟨x4.heap.size, 0, none⟩) 4 4] (x4.alloc (.cells #[.slice A1 n1 c1, .slice A2 n2 c2, .slice A3 n3 c3, .slice A4 n4 c4] 36)) (Made (x4.alloc (.cells #[.slice A1 n1 c1, .slice A2 n2 c2, .slice A3 n3 c3, .slice A4 n4 c4] 36)).heap.size (x4.alloc (.cells #[.slice A1 n1 c1, .slice A2 n2 c2, .slice A3 n3 c3, .slice A4 n4 c4] 36)) (encO x))) := Lib.hid (fun x1 x2 x3 x4 A1 A2 A3 A4 n1 c1 n2 c2 n3 c3 n4 c4 z1 z2 z3 z4 o1 b2 o2 b3 o3 b4 o4 => by
            have e1 := elb_own (o1.below (belowT' (belowT' b2 b3) b4))
            have e2 := elb_own (o2.below (belowT' b3 b4))
            have e3 := elb_own (o3.below b4)
            have e4 := elb_own o4
            rw [hxs] at e1
            rw [hxq] at e2
            exact Frame_any _ 4 4 (psO x) _ (rdl_four e1 e2 e3 e4) s5)
          have HSN : Hid ((os.take (k + 1)).map encO = (os.take k).map encO ++ [encO x]) := Lib.hid (by rw [List.take_add_one, hx, List.map_append]; rfl)
          have HOP : Hid (∀ wx, Below wr.heap.size wr wx → OwnV 36 wx w1.heap.size P (k + 1) d (ps.map (·.1)) ∧ w1.heap.size ≤ wx.heap.size) := Lib.hid (fun wx hb => ⟨HR.out.own.below hb, Nat.le_trans HR.out.bel.size hb.size⟩)
          have hD0 : Below wr.heap.size wr wr.drew := (Below.refl _ _).drew
          have hD1 : Below w1.heap.size w1 wr.drew := HR.out.bel.drew
          have hS0 := HSC.out _ hD1
          have k0 := HK.out wr HR.out.bel
          clear hTr hx hox hxm s1 s2 s3 s4 s5 hxb hxs hxq hhA hhn hhc haA han hac
          go_upto_region 11 with (fail)
          clear k0 m0
          go_region_held3 (fun wx => wx.cell? ⟨xb, 0, none⟩ = some (.int .u64 (xs : Int)) ∧ wx.cell? ⟨xb, 1, none⟩ = some (.int .u64 (xq : Int)) ∧ wx.cell? ⟨xb, 2, none⟩ = some (.slice hA hn3 hc) ∧ wx.cell? ⟨xb, 3, none⟩ = some (.slice aA an ac)) (first | assumption | exact HSC.out _ hD1)
            (first
              | (go_at_call 77; with_reducible refine (HP1.out _).mono ?_; intro e1 x1 hq1; obtain ⟨A1, n1, c1, h1, o1, b1⟩ := Made.outK hq1; subst h1; have d1 := belowT' (by assumption : Below wr.heap.size wr _) b1; have hS1 := HSC.out _ (belowT' HR.out.bel d1))
              | (go_at_call 77; with_reducible refine (HP2.out _).mono ?_; intro e2 x2 hq2; obtain ⟨A2, n2, c2, h2, o2, b2⟩ := Made.outK hq2; subst h2; have d2 := belowT' (by assumption : Below wr.heap.size wr _) b2; have hS2 := HSC.out _ (belowT' HR.out.bel d2))
              | (go_at_call 98; with_reducible refine (HE1.out _ (belowT' HR.out.bel (by assumption : Below wr.heap.size wr _))).mono ?_; intro e3 x3 hq3; obtain ⟨A3, n3, c3, h3, o3, b3⟩ := Made.outK hq3; subst h3; have d3 := belowT' (by assumption : Below wr.heap.size wr _) b3; have hS3 := HSC.out _ (belowT' HR.out.bel d3))
              | (go_at_call 98; with_reducible refine (HE2.out _ (belowT' HR.out.bel (by assumption : Below wr.heap.size wr _))).mono ?_; intro e4 x4 hq4; obtain ⟨A4, n4, c4, h4, o4, b4⟩ := Made.outK hq4; subst h4; have d4 := belowT' (by assumption : Below wr.heap.size wr _) b4; have hS4 := HSC.out _ (belowT' HR.out.bel d4); (try (have hS4b := HSC.out _ (belowT' HR.out.bel (belowT' d4 ((Below.refl _ _).alloc (Nat.le_refl _) (.cells #[.slice A1 n1 c1, .slice A2 n2 c2, .slice A3 n3 c3, .slice A4 n4 c4] 36)))))))
              | (go_at_call 79; with_reducible refine (HFRX.out _ _ _ _ _ _ _ _ _ _ _ _ _ _ _ _ _ _ _ _ o1 b2 o2 b3 o3 b4 o4).mono ?_; intro e5 x5 hq5; obtain ⟨A5, n5, c5, h5, o5, b5⟩ := Made.outK hq5; subst h5; have d5 := belowT' (belowT' d4 ((Below.refl _ _).alloc (Nat.le_refl _) _)) b5; have hS5 := HSC.out _ (belowT' HR.out.bel d5); have d6 := belowT' d5 ((Below.refl _ _).alloc (Nat.le_refl _) (.cells #[.slice A5 n5 c5] 36)); have hS6 := HSC.out _ (belowT' HR.out.bel d6))
              | (refine wp_appVT (x5.alloc (.cells #[.slice A5 n5 c5] 36)) (Operand.tmp 38) (Operand.tmp 63) 101 rfl w1.heap.size 36 _ 24 Try.underlying101 info_sl rfl P (k + 1) d (ps.map (·.1)) (by first | (simp [Act.eval]; done) | rfl) (HOP.out _ d6).1 x5.heap.size (.slice A5 n5 c5) (by first | (simp [Act.eval]; done) | rfl) ((Cl.new x5 #[.slice A5 n5 c5] 36).cell 0) rfl (by unfold maxLen; omega) (by omega) (HOP.out _ d6).2 ?_; intro P2 d2 w7 ho hg hk7; have hS7 := HSC.out w7 (HR.out.snocK (by have := HR.out.bel.size; omega) (o5.below ((Below.refl _ _).alloc (Nat.le_refl _) _) |>.mono (by have := d4.size; simp; omega)) d6 ho hg hk7).bel))
          all_goals
            have HQ : Hid ((ps ++ [((.slice A5 n5 c5 : Value), encO x)]).map (·.2) = lineB os l :: (os.take (k + 1)).map encO ∧ RowF w1 w1.heap.size P2 (k + 1 + 1) d2 (ps ++ [((.slice A5 n5 c5 : Value), encO x)]) w7) := Lib.hid ⟨by rw [List.map_append, HPS.out, HSN.out]; rfl, HR.out.snocK (by have := HR.out.bel.size; omega) (o5.below ((Below.refl _ _).alloc (Nat.le_refl _) _) |>.mono (by have := d4.size; simp; omega)) d6 ho hg hk7⟩
            clear hS7 ho hg hk7
            go_wp2_with fail
            go_roundw
            case rel => exact ⟨k + 1, d2, P2, _, by omega, by go_num, rfl, HQ.out⟩
            case measure => simp [intOf]; omega
        · obtain rfl : k = n := by omega
          have htk : os.take k = os := List.take_of_length_le (by rw [← HN2.out]; exact Nat.le_refl _)
          have HFR : Hid (Calls Try.prog 79 #[.slice P (k + 1) d] wr (Made wr.heap.size wr (frameB (lineB os l :: os.map encO)))) := Lib.hid (Frame_any P (k + 1) d (lineB os l :: os.map encO) wr (by
            have h1 := HR.out.rd
            rw [HPS.out, htk] at h1
            exact h1) HTL.out)
          have HBW := Lib.hid (belowT' HB1.out HR.out.bel)
          go_wp2_with fail
          with_reducible refine HFR.out.mono ?_
          intro e w6 hq
          obtain ⟨Q, qn, qc, h1, oQ, b6⟩ := Made.outK hq
          subst h1
          have HF : Hid (Made w.heap.size w (frameB (lineB os l :: os.map encO)) (.returned (.slice Q qn qc)) w6) := Lib.hid ⟨Q, qn, qc, rfl, oQ.mono HBW.out.size, belowT' HBW.out b6⟩
          clear hq oQ b6
          go_wp2_with fail
          go_ret
          exact ⟨l, HP.out.1, HP.out.2, HF.out⟩
end
end Go.Proofs.Ytmpdenpopokigaa
namespace Go.Proofs.Ytmpdenpopokigaa
open Go Go.RowKit

theorem Rch.first {R : Ob → Ob → Bool} {os : List Ob} {f x : Ob} (h : Rch R os f x) : ∃ y ∈ os, R f y = true := by
  induction h with
  | one hm h1 => exact ⟨_, hm, h1⟩
  | more _ _ _ ih => exact ih
theorem Rch.mem {R : Ob → Ob → Bool} {os : List Ob} {f x : Ob} (h : Rch R os f x) : x ∈ os := by
  cases h with
  | one hm _ => exact hm
  | more _ hm _ => exact hm
theorem Rch.trans {R : Ob → Ob → Bool} {os : List Ob} {f x y : Ob} (h : Rch R os f x) (k : Rch R os x y) : Rch R os f y := by
  induction k with
  | one hm h1 => exact .more h hm h1
  | more _ hm h1 ih => exact .more ih hm h1
theorem Rch.sub {R : Ob → Ob → Bool} {os os' : List Ob} {f x : Ob} (h : Rch R os f x) (hs : ∀ u ∈ os, u ∈ os') : Rch R os' f x := by
  induction h with
  | one hm h1 => exact .one (hs _ hm) h1
  | more _ hm h1 ih => exact .more ih (hs _ hm) h1
theorem Rch.rev {os : List Ob} {f x : Ob} (h : Rch wfO os f x) (hf : f ∈ os) : Rch stepB os x f := by
  induction h with
  | one hm h1 => exact .one hf h1
  | @more x y h0 hm h1 ih => exact Rch.trans (.one h0.mem h1) ih
/-- Nobody waits in a circle. -/
def Acy (os : List Ob) : Prop := ∀ u ∈ os, ¬ Rch wfO os u u
/-- A block tells its owner. -/
def Db (os : List Ob) : Prop := ∀ u ∈ os, ∀ v ∈ os, u.b = v.b → u = v
theorem Acy.sub {os os' : List Ob} (h : Acy os) (hs : ∀ u ∈ os', u ∈ os) : Acy os' := fun u hu hr => h u (hs u hu) (hr.sub hs)
theorem wf_idle {c : Ob} (h : c.turn = 0) (u : Ob) : wfO c u = false := by unfold wfO; rw [if_pos (.inr h)]
theorem acy_upd {os : List Ob} {x : Ob} (h : Acy os) (ht : x.turn = 0) : Acy (updO os x) := by
  have key : ∀ u y, Rch wfO (updO os x) u y → y = x ∨ Rch wfO os u y := by
    intro u y hr
    induction hr with
    | @one y hm h1 =>
      rcases updO_mem hm with ⟨e, _⟩ | ⟨h2, _⟩
      · exact .inl e
      · exact .inr (.one h2 h1)
    | @more y z _ hm h1 ih =>
      rcases ih with rfl | hr
      · rw [wf_idle ht] at h1; cases h1
      · rcases updO_mem hm with ⟨e, _⟩ | ⟨h2, _⟩
        · exact .inl e
        · exact .inr (.more hr h2 h1)
  intro u hu hr
  by_cases e : u = x
  · obtain ⟨y, _, h1⟩ := hr.first
    rw [e, wf_idle ht] at h1; cases h1
  · rcases updO_mem hu with ⟨e2, _⟩ | ⟨h2, _⟩
    · exact e e2
    · rcases key u u hr with e2 | h3
      · exact e e2
      · exact h u h2 h3
/-- All but one. -/
def OffO (fb : Nat) (os : List Ob) : List Ob := os.filter fun u => decide (u.b ≠ fb)
theorem mem_off {fb : Nat} {os : List Ob} {u : Ob} : u ∈ OffO fb os ↔ u ∈ os ∧ u.b ≠ fb := by
  unfold OffO
  rw [List.mem_filter]
  simp
theorem off_same {fb : Nat} {os : List Ob} {x : Ob} (hx : x.b = fb) : ∀ u ∈ OffO fb (updO os x), u ∈ OffO fb os := fun u hu => by
  obtain ⟨h1, h2⟩ := mem_off.1 hu
  rcases updO_mem h1 with ⟨e, _⟩ | ⟨h3, _⟩
  · exact absurd (by rw [e]; exact hx) h2
  · exact mem_off.2 ⟨h3, h2⟩
theorem off_upd {fb : Nat} {os : List Ob} {x : Ob} : ∀ u ∈ OffO fb (updO os x), u ∈ updO (OffO fb os) x := fun u hu => by
  obtain ⟨h1, h2⟩ := mem_off.1 hu
  rcases updO_mem h1 with ⟨e, v, hv, hb⟩ | ⟨h3, h4⟩
  · subst e
    exact mem_updO' (mem_off.2 ⟨hv, by rw [hb]; exact h2⟩) hb
  · exact mem_updO (mem_off.2 ⟨h3, h2⟩) h4
theorem acy_join {fb : Nat} {os : List Ob} (h : Acy (OffO fb os)) (hf : ∀ f ∈ os, f.b = fb → ¬ Rch wfO os f f) : Acy os := by
  have key : ∀ u x, u ∈ os → Rch wfO os u x → Rch wfO (OffO fb os) u x ∨ ∃ f ∈ os, f.b = fb ∧ (u = f ∨ Rch wfO os u f) ∧ (x = f ∨ Rch wfO os f x) := by
    intro u x hu hr
    induction hr with
    | @one x hm h1 =>
      by_cases e1 : u.b = fb
      · exact .inr ⟨u, hu, e1, .inl rfl, .inr (.one hm h1)⟩
      · by_cases e2 : x.b = fb
        · exact .inr ⟨x, hm, e2, .inr (.one hm h1), .inl rfl⟩
        · exact .inl (.one (mem_off.2 ⟨hm, e2⟩) h1)
    | @more x y h0 hm h1 ih =>
      rcases ih with ih | ⟨f, f1, f2, f3, f4⟩
      · by_cases e2 : y.b = fb
        · exact .inr ⟨y, hm, e2, .inr (.more h0 hm h1), .inl rfl⟩
        · exact .inl (.more ih (mem_off.2 ⟨hm, e2⟩) h1)
      · refine .inr ⟨f, f1, f2, f3, .inr ?_⟩
        rcases f4 with rfl | f4
        · exact .one hm h1
        · exact .more f4 hm h1
  intro u hu hr
  rcases key u u hu hr with h1 | ⟨f, f1, f2, f3, f4⟩
  · exact h u h1.mem h1
  · rcases f3 with rfl | f3
    · exact hf _ f1 f2 hr
    · rcases f4 with rfl | f4
      · exact hf _ f1 f2 hr
      · exact hf f f1 f2 (f4.trans f3)
theorem clash1_sym (a b : Rg) : clash1 a b = clash1 b a := by
  unfold clash1
  cases a.ex <;> cases b.ex <;> cases belB a.lo b.hi <;> cases belB b.lo a.hi <;> rfl
theorem clashR_sym (ps qs : List Rg) : clashR ps qs = clashR qs ps := by
  rw [Bool.eq_iff_iff]
  unfold clashR
  simp only [List.any_eq_true]
  constructor
  · rintro ⟨a, ha, b, hb, h⟩; exact ⟨b, hb, a, ha, by rw [clash1_sym]; exact h⟩
  · rintro ⟨a, ha, b, hb, h⟩; exact ⟨b, hb, a, ha, by rw [clash1_sym]; exact h⟩
theorem clashR_both (ps qs us : List Rg) : clashR ps (qs ++ us) = (clashR ps qs || clashR ps us) := by
  rw [Bool.eq_iff_iff]
  unfold clashR
  simp only [List.any_eq_true, Bool.or_eq_true, List.mem_append]
  constructor
  · rintro ⟨a, ha, b, hb | hb, h⟩
    · exact .inl ⟨a, ha, b, hb, h⟩
    · exact .inr ⟨a, ha, b, hb, h⟩
  · rintro (⟨a, ha, b, hb, h⟩ | ⟨a, ha, b, hb, h⟩)
    · exact ⟨a, ha, b, .inl hb, h⟩
    · exact ⟨a, ha, b, .inr hb, h⟩
theorem clashR_nil (ps : List Rg) : clashR ps [] = false := by
  unfold clashR
  rw [List.any_eq_false]
  intro a _
  simp
/-- What it means to wait for one. -/
theorem wfO_iff {o u : Ob} : wfO o u = true ↔ o.b ≠ u.b ∧ o.turn ≠ 0 ∧ (clashR o.asked u.held = true ∨ (0 < u.turn ∧ u.turn < o.turn ∧ clashR o.asked u.asked = true)) := by
  unfold wfO
  by_cases h : o.b = u.b ∨ o.turn = 0
  · rw [if_pos h]
    refine ⟨(fun h => by cases h), fun ⟨h1, h2, _⟩ => ?_⟩
    rcases h with h | h
    · exact absurd h h1
    · exact absurd h h2
  · rw [if_neg h]
    have h1 : o.b ≠ u.b := fun e => h (.inl e)
    have h2 : o.turn ≠ 0 := fun e => h (.inr e)
    simp only [Bool.or_eq_true, Bool.and_eq_true, decide_eq_true_eq, and_assoc]
    exact ⟨fun h => ⟨h1, h2, h⟩, fun h => h.2.2⟩
theorem any_wf {os : List Ob} {u : Ob} : os.any (wfO u) = true ↔ ∃ y ∈ os, wfO u y = true := List.any_eq_true
/-- What stands behind each step of a call. -/
structure IC (turns : Nat) (os : List Ob) : Prop where
  db : Db os
  at0 : ∀ u ∈ os, u.turn = 0 → u.asked = []
  hc : ∀ u ∈ os, ∀ v ∈ os, u.b ≠ v.b → clashR u.held v.held = false
  tu : ∀ u ∈ os, u.turn ≤ turns
  ti : ∀ u ∈ os, ∀ v ∈ os, u.turn ≠ 0 → u.turn = v.turn → u.b = v.b
/-- And behind each call: nobody waits in a circle, nor for nobody. -/
structure IL (turns : Nat) (os : List Ob) : Prop where
  ic : IC turns os
  acy : Acy os
  wt : ∀ u ∈ os, u.turn ≠ 0 → os.any (wfO u) = true
theorem Db.upd {os : List Ob} {x : Ob} (h : Db os) : Db (updO os x) := fun u hu v hv e => by
  rcases updO_mem hu with ⟨rfl, _⟩ | ⟨h1, h2⟩ <;> rcases updO_mem hv with ⟨e2, _⟩ | ⟨h3, h4⟩
  · exact e2.symm
  · exact absurd e.symm h4
  · rw [e2] at e; exact absurd e h2
  · exact h u h1 v h3 e
theorem IC.sub {turns : Nat} {os os' : List Ob} (h : IC turns os) (hs : ∀ u ∈ os', u ∈ os) : IC turns os' :=
  ⟨fun u hu v hv => h.db u (hs u hu) v (hs v hv), fun u hu => h.at0 u (hs u hu), fun u hu v hv => h.hc u (hs u hu) v (hs v hv), fun u hu => h.tu u (hs u hu), fun u hu v hv => h.ti u (hs u hu) v (hs v hv)⟩
theorem IC.upd {turns : Nat} {os : List Ob} {x : Ob} (h : IC turns os) (h0 : x.asked = []) (ht : x.turn = 0) (hc : ∀ v ∈ os, v.b ≠ x.b → clashR x.held v.held = false) : IC turns (updO os x) := by
  refine ⟨h.db.upd, fun u hu e => ?_, fun u hu v hv e => ?_, fun u hu => ?_, fun u hu v hv e1 e2 => ?_⟩
  · rcases updO_mem hu with ⟨rfl, _⟩ | ⟨h1, _⟩
    · exact h0
    · exact h.at0 u h1 e
  · rcases updO_mem hu with ⟨rfl, _⟩ | ⟨h1, h2⟩ <;> rcases updO_mem hv with ⟨e2, _⟩ | ⟨h3, h4⟩
    · exact absurd (by rw [e2]) e
    · exact hc v h3 h4
    · rw [e2, clashR_sym]; exact hc u h1 h2
    · exact h.hc u h1 v h3 e
  · rcases updO_mem hu with ⟨rfl, _⟩ | ⟨h1, _⟩
    · omega
    · exact h.tu u h1
  · rcases updO_mem hu with ⟨rfl, _⟩ | ⟨h1, h2⟩ <;> rcases updO_mem hv with ⟨e3, _⟩ | ⟨h3, h4⟩
    · exact absurd ht e1
    · exact absurd ht e1
    · rw [e3] at e2; omega
    · exact h.ti u h1 v h3 e1 e2
theorem IC.give {turns : Nat} {os : List Ob} {v : Ob} (h : IC turns os) (hv : v ∈ os) : IC turns (updO os (giveO v)) := h.upd rfl rfl (fun u hu e => h.hc v hv u hu (fun e2 => e (by rw [← e2]; rfl)))
theorem IC.take {turns : Nat} {os : List Ob} {c : Ob} (h : IC turns os) (hc : c ∈ os) (hw : os.any (wfO c) = false) (A : Option Addr) (d : Nat) : IC turns (updO os (takeO c A d)) := by
  refine h.upd rfl rfl (fun u hu e => ?_)
  have e : u.b ≠ c.b := e
  show clashR (c.held ++ c.asked) u.held = false
  rw [clashR_sym, clashR_both, clashR_sym u.held c.held, h.hc c hc u hu (fun e2 => e e2.symm), Bool.false_or, clashR_sym]
  by_cases ht : c.turn = 0
  · rw [h.at0 c hc ht]; rfl
  · have h1 := List.any_eq_false.1 hw u hu
    cases h2 : clashR c.asked u.held with
    | false => rfl
    | true => exact absurd (wfO_iff.2 ⟨fun e2 => e e2.symm, ht, .inl h2⟩) h1
theorem any_take {os : List Ob} {c u : Ob} (hd : Db os) (hc : c ∈ os) (hw : os.any (wfO u) = true) (A : Option Addr) (d : Nat) : (updO os (takeO c A d)).any (wfO u) = true := by
  obtain ⟨y, hy, h⟩ := any_wf.1 hw
  by_cases e : y.b = c.b
  · obtain rfl := hd y hy c hc e
    refine any_wf.2 ⟨takeO y A d, mem_updO' hy rfl, ?_⟩
    obtain ⟨h1, h2, h3⟩ := wfO_iff.1 h
    refine wfO_iff.2 ⟨h1, h2, .inl ?_⟩
    show clashR u.asked (y.held ++ y.asked) = true
    rw [clashR_both, Bool.or_eq_true]
    rcases h3 with h3 | ⟨_, _, h3⟩
    · exact .inl h3
    · exact .inr h3
  · exact any_wf.2 ⟨y, mem_updO hy e, h⟩
theorem Mv.il {turns : Nat} {os0 os : List Ob} {l : List Nat} {out : List (Nat × Nat)} (h : Mv os0 l out os) (h0 : IC turns os0) (ha : Acy os0) : IC turns os ∧ Acy os ∧ (∀ u ∈ os, u.turn ≠ 0 → u.b ∈ l → os.any (wfO u) = true) ∧ (∀ u ∈ os, u.turn ≠ 0 → u ∈ os0) := by
  induction h with
  | start => exact ⟨h0, ha, fun u _ _ h => (by cases h), fun u hu _ => hu⟩
  | @stay l out os c _ hc hw ih =>
    obtain ⟨i1, i2, i3, i4⟩ := ih
    refine ⟨i1, i2, fun u hu ht hb => ?_, i4⟩
    rcases List.mem_append.1 hb with hb | hb
    · exact i3 u hu ht hb
    · rw [i1.db u hu c hc (List.mem_singleton.1 hb)]; exact hw
  | @go l out os c A d _ hc hw ih =>
    obtain ⟨i1, i2, i3, i4⟩ := ih
    refine ⟨i1.take hc hw A d, acy_upd i2 rfl, fun u hu ht hb => ?_, fun u hu ht => ?_⟩
    · rcases updO_mem hu with ⟨rfl, _⟩ | ⟨h1, h2⟩
      · exact absurd rfl ht
      · have h2 : u.b ≠ c.b := h2
        rcases List.mem_append.1 hb with hb | hb
        · exact any_take i1.db hc (i3 u h1 ht hb) A d
        · exact absurd (List.mem_singleton.1 hb) h2
    · rcases updO_mem hu with ⟨rfl, _⟩ | ⟨h1, h2⟩
      · exact absurd rfl ht
      · exact i4 u h1 ht
theorem mvR_il {turns : Nat} {os os' : List Ob} {gr : List (Nat × Nat)} (h : MvR os gr os') (h0 : IC turns os) (ha : Acy os) : IL turns os' := by
  obtain ⟨lo, hp, _, hm⟩ := h
  obtain ⟨i1, i2, i3, i4⟩ := hm.il h0 ha
  refine ⟨i1, i2, fun u hu ht => i3 u hu ht ?_⟩
  have h1 : u ∈ lo := hp.mem_iff.2 (List.mem_filter.2 ⟨i4 u hu ht, by unfold posO; simp; omega⟩)
  exact List.mem_map.2 ⟨u, h1, rfl⟩
theorem IL.rel {turns : Nat} {os os' : List Ob} {f : Ob → Bool} {gr : List (Nat × Nat)} (h : IL turns os) (hm : MvR (os.filter f) gr os') : IL turns os' :=
  mvR_il hm (h.ic.sub fun _ hu => (List.mem_filter.1 hu).1) (h.acy.sub fun _ hu => (List.mem_filter.1 hu).1)
theorem Broke.il {turns fb : Nat} {os0 os : List Ob} {out : List (Nat × Nat)} (h : Broke fb os0 out os) (h0 : IC turns os0) (ha : Acy (OffO fb os0)) : IC turns os ∧ Acy (OffO fb os) := by
  induction h with
  | start => exact ⟨h0, ha⟩
  | step _ _ _ hv ih => exact ⟨ih.1.give hv.mem, (acy_upd ih.2 rfl).sub off_upd⟩
theorem PutA.il {turns s q : Nat} {rs : List Rg} {os os1 : List Ob} {o1 : Ob} (h : PutA os s q rs (turns + 1) os1 o1) (hi : IL turns os) :
    IC (turns + 1) os1 ∧ Acy (OffO o1.b os1) ∧ ∀ u ∈ os1, u.b ≠ o1.b → u.turn ≠ 0 → os1.any (wfO u) = true := by
  obtain ⟨ea, et, ⟨o, hf, ho, ⟨A, c, e1⟩, rfl⟩ | ⟨hf, e1, e2, e3, e4, rfl⟩⟩ := h
  · have hm := (find_nm hf).1
    have hb : o1.b = o.b := by rw [e1]
    have hh : o1.held = o.held := by rw [e1]
    refine ⟨⟨hi.ic.db.upd, fun u hu e => ?_, fun u hu v hv e => ?_, fun u hu => ?_, fun u hu v hv e1 e2 => ?_⟩, hi.acy.sub (fun u hu => ?_), fun u hu e ht => ?_⟩
    · rcases updO_mem hu with ⟨rfl, _⟩ | ⟨h1, _⟩
      · omega
      · exact hi.ic.at0 u h1 e
    · rcases updO_mem hu with ⟨rfl, _⟩ | ⟨h1, h2⟩ <;> rcases updO_mem hv with ⟨e2, _⟩ | ⟨h3, h4⟩
      · exact absurd (by rw [e2]) e
      · rw [hh]; exact hi.ic.hc o hm v h3 (by rw [← hb]; exact e)
      · rw [e2, hh]; exact hi.ic.hc u h1 o hm (by rw [← hb]; exact h2)
      · exact hi.ic.hc u h1 v h3 e
    · rcases updO_mem hu with ⟨rfl, _⟩ | ⟨h1, _⟩
      · omega
      · have := hi.ic.tu u h1; omega
    · rcases updO_mem hu with ⟨rfl, _⟩ | ⟨h1, h2⟩ <;> rcases updO_mem hv with ⟨e3, _⟩ | ⟨h3, h4⟩
      · rw [e3]
      · have := hi.ic.tu v h3; omega
      · have := hi.ic.tu u h1; rw [e3] at e2; omega
      · exact hi.ic.ti u h1 v h3 e1 e2
    · exact (mem_off.1 (off_same rfl u hu)).1
    · rcases updO_mem hu with ⟨rfl, _⟩ | ⟨h1, h2⟩
      · exact absurd rfl e
      · obtain ⟨y, hy, h⟩ := any_wf.1 (hi.wt u h1 ht)
        by_cases ey : y.b = o1.b
        · obtain rfl := hi.ic.db y hy o hm (by rw [ey, hb])
          refine any_wf.2 ⟨o1, mem_updO' hy ey, ?_⟩
          obtain ⟨k1, k2, k3⟩ := wfO_iff.1 h
          refine wfO_iff.2 ⟨by rw [hb]; exact k1, k2, .inl ?_⟩
          rw [hh]
          rcases k3 with k3 | ⟨k3, _⟩
          · exact k3
          · omega
        · exact any_wf.2 ⟨y, mem_updO hy ey, h⟩
  · have hc0 : ∀ (u : Ob), clashR u.held o1.held = false := fun u => by rw [e3]; exact clashR_nil _
    refine ⟨⟨fun u hu v hv e => ?_, fun u hu e => ?_, fun u hu v hv e => ?_, fun u hu => ?_, fun u hu v hv k1 k2 => ?_⟩, hi.acy.sub (fun u hu => ?_), fun u hu e ht => ?_⟩
    · rcases List.mem_append.1 hu with h1 | h1 <;> rcases List.mem_append.1 hv with h2 | h2
      · exact hi.ic.db u h1 v h2 e
      · rw [List.mem_singleton.1 h2] at e; exact absurd e (e4 u h1)
      · rw [List.mem_singleton.1 h1] at e; exact absurd e.symm (e4 v h2)
      · rw [List.mem_singleton.1 h1, List.mem_singleton.1 h2]
    · rcases List.mem_append.1 hu with h1 | h1
      · exact hi.ic.at0 u h1 e
      · rw [List.mem_singleton.1 h1] at e; omega
    · rcases List.mem_append.1 hu with h1 | h1 <;> rcases List.mem_append.1 hv with h2 | h2
      · exact hi.ic.hc u h1 v h2 e
      · rw [List.mem_singleton.1 h2]; exact hc0 u
      · rw [List.mem_singleton.1 h1, clashR_sym]; exact hc0 v
      · rw [List.mem_singleton.1 h1, List.mem_singleton.1 h2]; exact hc0 _
    · rcases List.mem_append.1 hu with h1 | h1
      · have := hi.ic.tu u h1; omega
      · rw [List.mem_singleton.1 h1]; omega
    · rcases List.mem_append.1 hu with h1 | h1 <;> rcases List.mem_append.1 hv with h2 | h2
      · exact hi.ic.ti u h1 v h2 k1 k2
      · have := hi.ic.tu u h1; rw [List.mem_singleton.1 h2] at k2; omega
      · have := hi.ic.tu v h2; rw [List.mem_singleton.1 h1] at k2; omega
      · rw [List.mem_singleton.1 h1, List.mem_singleton.1 h2]
    · obtain ⟨h1, h2⟩ := mem_off.1 hu
      rcases List.mem_append.1 h1 with h1 | h1
      · exact h1
      · exact absurd (by rw [List.mem_singleton.1 h1]) h2
    · rcases List.mem_append.1 hu with h1 | h1
      · obtain ⟨y, hy, h⟩ := any_wf.1 (hi.wt u h1 ht)
        exact any_wf.2 ⟨y, List.mem_append_left _ hy, h⟩
      · exact absurd (by rw [List.mem_singleton.1 h1]) e
theorem AskR.il {os os' : List Ob} {turns s q turns' : Nat} {rs : List Rg} {err st : Int} {vic gr : List (Nat × Nat)} (h : AskR os turns s q rs err st vic gr turns' os') (hi : IL turns os) : IL turns' os' := by
  rcases h with ⟨_, _, _, _, _, rfl, rfl⟩ | ⟨_, _, _, _, _, _, rfl, rfl⟩ | ⟨_, _, rfl, os1, o1, hp, hmm, h⟩
  · exact hi
  · exact hi
  · obtain ⟨p1, p2, p3⟩ := hp.il hi
    rcases h with ⟨hw, _, _, _, A, d, rfl⟩ | ⟨_, os2, hb, ⟨f, hf, hfb, hv⟩, hm, _⟩
    · have ha : Acy os1 := acy_join p2 (fun f hf e hr => by
        obtain rfl := p1.db f hf o1 hmm e
        obtain ⟨y, hy, h1⟩ := hr.first
        exact List.any_eq_false.1 hw y hy h1)
      refine ⟨p1.take hmm hw A d, acy_upd ha rfl, fun u hu ht => ?_⟩
      rcases updO_mem hu with ⟨rfl, _⟩ | ⟨h1, h2⟩
      · exact absurd rfl ht
      · exact any_take p1.db hmm (p3 u h1 h2 ht) A d
    · obtain ⟨b1, b2⟩ := hb.il p1 p2
      refine mvR_il hm b1 (acy_join b2 (fun g hg e hr => ?_))
      obtain rfl := b1.db g hg f hf (by rw [e, hfb])
      exact hv g hg ⟨hr.rev hg, hr⟩
theorem IL.nil (turns : Nat) : IL turns [] := ⟨⟨fun u hu => (by cases hu), fun u hu => (by cases hu), fun u hu => (by cases hu), fun u hu => (by cases hu), fun u hu => (by cases hu)⟩, fun u hu => (by cases hu), fun u hu => (by cases hu)⟩
theorem flt_lt {p q : Ob → Bool} : ∀ {l : List Ob}, (∀ x ∈ l, p x = true → q x = true) → ∀ y ∈ l, q y = true → p y = false → (l.filter p).length < (l.filter q).length
  | [], _, y, hy, _, _ => by cases hy
  | u :: l, h, y, hy, h1, h2 => by
    have hle : (l.filter p).length ≤ (l.filter q).length := by
      clear hy
      have h' : ∀ x ∈ l, p x = true → q x = true := fun x hx => h x (List.mem_cons_of_mem _ hx)
      clear h
      induction l with
      | nil => simp
      | cons v l ih =>
        have ih' := ih (fun x hx => h' x (List.mem_cons_of_mem _ hx))
        cases hp : p v
        · rw [List.filter_cons_of_neg (by simp [hp])]
          cases hq : q v
          · rw [List.filter_cons_of_neg (by simp [hq])]; exact ih'
          · rw [List.filter_cons_of_pos hq, List.length_cons]; omega
        · rw [List.filter_cons_of_pos hp, List.filter_cons_of_pos (h' v (by simp) hp), List.length_cons, List.length_cons]; omega
    rcases List.mem_cons.1 hy with rfl | hy2
    · rw [List.filter_cons_of_neg (by simp [h2]), List.filter_cons_of_pos h1, List.length_cons]; omega
    · have ih := flt_lt (fun x hx => h x (List.mem_cons_of_mem _ hx)) y hy2 h1 h2
      cases hp : p u
      · rw [List.filter_cons_of_neg (by simp [hp])]
        cases hq : q u
        · rw [List.filter_cons_of_neg (by simp [hq])]; exact ih
        · rw [List.filter_cons_of_pos hq, List.length_cons]; omega
      · rw [List.filter_cons_of_pos hp, List.filter_cons_of_pos (h u (by simp) hp), List.length_cons, List.length_cons]; omega
end Go.Proofs.Ytmpdenpopokigaa
namespace Go.Proofs.Ytmpdenpopokigaa
open Go Go.RowKit

/-- The errors of bytes that are none. -/
def Er (e : Int) : Prop := e = 3 ∨ e = 5
theorem getL_er : ∀ (ys : List UInt8) (i acc : Nat), (getL ys i acc).2.2 = 0 ∨ (getL ys i acc).2.2 = 3 ∨ (getL ys i acc).2.2 = 5
  | [], i, acc => by rw [getL_nil]; exact .inr (.inr rfl)
  | c :: r, i, acc => by
    by_cases h : (i = 9 ∧ 1 < c.toNat) ∨ (0 < i ∧ c.toNat = 0)
    · rw [getL_form r acc h]; exact .inr (.inl rfl)
    · by_cases h1 : c.toNat < 128
      · rw [getL_last r acc h h1]; exact .inl rfl
      · rw [getL_more r acc h h1]; exact getL_er r _ _
theorem getU_er {xs : List UInt8} {k : Nat} (h : k ≤ xs.length) : (getU xs (k : Int)).2.2 = 0 ∨ Er (getU xs (k : Int)).2.2 := by
  rcases hg : getL (xs.drop k) 0 0 with ⟨n, j, e⟩
  rw [getU_in h hg]
  have := getL_er (xs.drop k) 0 0
  rw [hg] at this
  rcases this with h | h | h
  · left; show (e : Int) = 0; simp at h; omega
  · right; left; show (e : Int) = 3; simp at h; omega
  · right; right; show (e : Int) = 5; simp at h; omega
theorem partsF_er {xs : List UInt8} : ∀ (f p : Nat) (acc : List (List UInt8)), (partsF xs f p acc).2 = 0 ∨ Er (partsF xs f p acc).2
  | 0, p, acc => by
    rw [partsF]
    split
    · exact .inr (.inr rfl)
    · exact .inl rfl
  | f + 1, p, acc => by
    rw [partsF]
    split
    · rename_i h
      split
      · rename_i h2
        rcases getU_er (Nat.le_of_lt h) with h3 | h3
        · exact absurd h3 h2
        · exact .inr h3
      · split
        · exact .inr (.inr rfl)
        · exact partsF_er f _ _
    · exact .inl rfl
theorem parts_er (xs : List UInt8) : (parts xs).2 = 0 ∨ Er (parts xs).2 := partsF_er _ _ _
/-- The parts, if they are so many. -/
def splitB (xs : List UInt8) (k : Nat) : List (List UInt8) × Int := if (parts xs).2 ≠ 0 then ([], (parts xs).2) else if (parts xs).1.length ≠ k then ([], 3) else ((parts xs).1, 0)
theorem splitB_er (xs : List UInt8) (k : Nat) : (splitB xs k).2 = 0 ∨ Er (splitB xs k).2 := by
  unfold splitB
  split
  · rename_i h
    rcases parts_er xs with h1 | h1
    · exact absurd h1 h
    · exact .inr h1
  · split
    · exact .inr (.inl rfl)
    · exact .inl rfl
theorem splitB_ok {xs : List UInt8} {k : Nat} (h : (splitB xs k).2 = 0) : parts xs = ((splitB xs k).1, 0) ∧ (splitB xs k).1.length = k := by
  unfold splitB at h ⊢
  by_cases h1 : (parts xs).2 ≠ 0
  · rw [if_pos h1] at h; exact absurd h h1
  · rw [if_neg h1] at h ⊢
    by_cases h2 : (parts xs).1.length ≠ k
    · rw [if_pos h2] at h; cases h
    · rw [if_neg h2] at h ⊢
      refine ⟨?_, by simpa using h2⟩
      have h3 : (parts xs).2 = 0 := by simpa using h1
      rw [← h3]
theorem splitB_of {xs : List UInt8} {ps : List (List UInt8)} (h : parts xs = (ps, 0)) : splitB xs ps.length = (ps, 0) := by
  unfold splitB
  rw [h]
  simp
theorem RetPF.out {base : Nat} {w : World} {g : List (List UInt8) × Int} {e : Ending} {w' : World} (h : RetPF base w g e w') : ∃ A n c ps, e = .returned (.tuple #[.slice A n c, .int .i64 g.2]) ∧ RowF w base A n c ps w' ∧ ps.map (·.2) = g.1 := h
section
variable {w : World} {A : Option Addr} {n c : Nat} {xs : List UInt8}
set_option maxRecDepth 100000 in
set_option maxHeartbeats 4000000 in
theorem split_any (h : Rd w A n xs) (hn : n ≤ 16777216) (hc : n ≤ c) (hnil : A = none → c = 0) (k : Nat) : Calls Try.prog 135 #[.slice A n c, .int .i64 (k : Int)] w (RetPF w.heap.size w (splitB xs k)) := by
  have HP := Lib.hid (PartsF_any A n c xs w h hn hc hnil)
  obtain ⟨ps0, e0, hpe⟩ : ∃ ps e, parts xs = (ps, e) := ⟨_, _, rfl⟩
  rw [hpe] at HP
  have HSP : Hid (splitB xs k = if e0 ≠ 0 then ([], e0) else if ps0.length ≠ k then ([], 3) else (ps0, 0)) := Lib.hid (by unfold splitB; rw [hpe])
  clear h hpe
  go_enter Try.func135, Try.ntmps135
  go_wp2_with fail
  with_reducible refine HP.out.mono ?_
  intro e w2 hq
  obtain ⟨Q, qn, qc, ps, h1, hrow, hps⟩ := hq.out
  subst h1
  have HR := Lib.hid hrow
  have HPS : Hid (ps.map (·.2) = ps0) := Lib.hid hps
  have HL : Hid (ps0.length = qn) := Lib.hid (by rw [← HPS.out, List.length_map]; exact hrow.len)
  clear hq hrow hps
  by_cases he : e0 = 0
  · subst he
    by_cases hk : qn = k
    · subst hk
      have HF : Hid (RetPF w.heap.size w (splitB xs qn) (.returned (.tuple #[.slice Q qn qc, .int .i64 0])) w2) := Lib.hid (by
        rw [HSP.out, if_neg (by simp), if_neg (by rw [HL.out]; simp)]
        exact ⟨Q, qn, qc, ps, rfl, HR.out, HPS.out⟩)
      go_wp2_with fail
      go_ret2
      exact HF.out
    · have tk : ((qn : Int) != (k : Int)) = true := by simp; omega
      have HF : Hid (RetPF w.heap.size w (splitB xs k) (.returned (.tuple #[.slice none 0 0, .int .i64 3])) w2) := Lib.hid (by
        rw [HSP.out, if_neg (by simp), if_pos (by rw [HL.out]; exact hk)]
        exact ⟨none, 0, 0, [], rfl, ⟨OwnV.nil _ _ _, Fam.nil _ _, (fun b h => by cases h), HR.out.bel⟩, rfl⟩)
      go_wp2_with fail
      go_ret2
      exact HF.out
  · have te : (e0 != 0) = true := by simpa using he
    have HF : Hid (RetPF w.heap.size w (splitB xs k) (.returned (.tuple #[.slice none 0 0, .int .i64 e0])) w2) := Lib.hid (by
      rw [HSP.out, if_pos he]
      exact ⟨none, 0, 0, [], rfl, ⟨OwnV.nil _ _ _, Fam.nil _ _, (fun b h => by cases h), HR.out.bel⟩, rfl⟩)
    go_wp2_with fail
    go_ret2
    exact HF.out
end
end Go.Proofs.Ytmpdenpopokigaa
namespace Go.Proofs.Ytmpdenpopokigaa
open Go Go.RowKit
structure Ac where
  kind : Int
  s : Nat
  q : Nat
  rs : List Rg
def AcV (w : World) (a : Ac) (v0 v1 v2 v3 : Value) : Prop := v0 = .int .i64 a.kind ∧ v1 = .int .u64 (a.s : Int) ∧ v2 = .int .u64 (a.q : Int) ∧ ∃ A n c, v3 = .slice A n c ∧ RGr w A n a.rs ∧ n ≤ 1048576 ∧ SzG a.rs
theorem AcV.below {w w' : World} {a : Ac} {v0 v1 v2 v3 : Value} (h : AcV w a v0 v1 v2 v3) (hb : Below w.heap.size w w') : AcV w' a v0 v1 v2 v3 := by
  obtain ⟨h1, h2, h3, A, n, c, h4, h5, h6, h7⟩ := h
  exact ⟨h1, h2, h3, A, n, c, h4, h5.below hb, h6, h7⟩
def RAc (w : World) (A : Option Addr) (n : Nat) (ac : List Ac) : Prop := n ≤ ac.length ∧ (0 < n → ∃ b off, A = some ⟨b, off, none⟩ ∧ b < w.heap.size ∧ ∀ (k : Nat) a, ac[k]? = some a → ∃ v0 v1 v2 v3, w.cell? ⟨b, off + k * 4, none⟩ = some v0 ∧ w.cell? ⟨b, off + k * 4 + 1, none⟩ = some v1 ∧ w.cell? ⟨b, off + k * 4 + 2, none⟩ = some v2 ∧ w.cell? ⟨b, off + k * 4 + 3, none⟩ = some v3 ∧ AcV w a v0 v1 v2 v3)
theorem RAc.below {w w' : World} {A : Option Addr} {n : Nat} {ac : List Ac} (h : RAc w A n ac) (hb : Below w.heap.size w w') : RAc w' A n ac := by
  refine ⟨h.1, fun hn => ?_⟩
  obtain ⟨b, off, e, hlt, hc⟩ := h.2 hn
  refine ⟨b, off, e, Nat.lt_of_lt_of_le hlt hb.size, fun k a ha => ?_⟩
  obtain ⟨v0, v1, v2, v3, c0, c1, c2, c3, hv⟩ := hc k a ha
  exact ⟨v0, v1, v2, v3, (hb.cell (p := ⟨b, off + k * 4, none⟩) hlt).trans c0, (hb.cell (p := ⟨b, off + k * 4 + 1, none⟩) hlt).trans c1, (hb.cell (p := ⟨b, off + k * 4 + 2, none⟩) hlt).trans c2, (hb.cell (p := ⟨b, off + k * 4 + 3, none⟩) hlt).trans c3, hv.below hb⟩
theorem elemA : Try.prog.elem 74 = 155 := by kernel_rfl
theorem sizeA (w : World) : (sizeOf 155).run Try.prog w = .ok 4 w := by kernel_rfl
theorem few16_any {A : Option Addr} {n c : Nat} {m : Nat} (hc : n ≤ c) (w : World) : Calls Try.prog 91 #[.slice A n c, .int .i64 (m : Int)] w (fun e w' => e = .returned (.slice A (min n m) c) ∧ w' = w) := by
  by_cases h : m < n
  · have hm : min n m = m := by omega
    have hcl : ∀ w, (Instr.slice 74 (.slice A n c) none (some (.int .i64 (m : Int))) none).run Try.prog w = .ok (.slice A m c) w := fun w => cut4_h Try.underlying74 elemA sizeA A (by omega) w
    rw [hm]
    clear hm
    go_enter Try.func91, Try.ntmps91
    go_wp2_with fail
    go_ret
    exact ⟨rfl, rfl⟩
  · have hm : min n m = n := by omega
    rw [hm]
    clear hm
    go_enter Try.func91, Try.ntmps91
    go_wp2_with fail
    go_ret
    exact ⟨rfl, rfl⟩
theorem OwnGr.fit {w : World} {base n c : Nat} {A : Option Addr} {vs : List Value} (h : OwnGr w base A n c vs) : n ≤ c ∧ (A = none → c = 0) := by
  rcases h.2 with ⟨h1, h2⟩ | ⟨g, cap, cur, h1, _, _, h2, _⟩
  · injection h1 with e1 e2 e3
    subst e1 e2 e3
    exact ⟨Nat.le_refl _, fun _ => rfl⟩
  · injection h1 with e1 e2 e3
    subst e1
    exact ⟨by omega, fun e => by cases e⟩
/-- What the calls keep. -/
def InvT (k : Nat) (turns : Nat) (os : List Ob) : Prop := Gd (64 * k) os ∧ NmB os ∧ os.length ≤ k ∧ turns ≤ k ∧ IL turns os
theorem InvT.szO {k turns : Nat} {os : List Ob} (h : InvT k turns os) (hk : k ≤ 1000) : ∀ u ∈ os, SzO u := fun u hu => by
  have := (h.1 u hu).1
  unfold SzO
  omega
/-- Ask, handed a row of twins. -/
theorem ask_row {W w6 : World} {bs p n2 c2 k : Nat} {OA L : Option Addr} {oc turns : Nat} {os : List Ob} {rs : List Rg} {ps : List VB} (h : TkAt W bs p OA oc turns os) (hrow : RowGr W W.heap.size L n2 c2 rs ps w6) (hbs : bs ≤ W.heap.size) (hi : InvT k turns os) (hk : k ≤ 1000) (hn2 : n2 ≤ 1048576) (hs : SzG rs) (s q : Nat) :
    Calls Try.prog 45 #[.pointer (some ⟨p, 0, none⟩), .agg #[.int .u64 (s : Int), .int .u64 (q : Int)], .slice L n2 c2] w6 (RetAsk w6 bs p OA turns os s q rs) := by
  have h6 := h.below hrow.bel
  obtain ⟨f1, f2⟩ := hrow.own.fit
  have hsz := hrow.bel.size
  refine ask_any h6 (by have := hi.2.2.1; omega) (by omega) (by have := hi.2.2.2.1; omega) (hi.szO hk) (fun u hu => by have := (hi.1 u hu).1; omega) (fun wx hf => ?_) (by omega) hs f2 f1 s q
  have hR : RgAt w6 bs L c2 rs := ⟨ps, by rw [hrow.len]; exact hrow.own.mono hbs, FamW.of hrow.fam hbs, hrow.dat⟩
  have h1 := (hR.fr hf (fun b hb hm => by
    have h2 := (hrow.own.lt b hb).1
    have h3 := (h.bl_ge b hm).2
    omega) h6.noBy).rd
  rw [hrow.len] at h1
  exact h1
def RetCl (w : World) (e : Ending) (w' : World) : Prop := ∃ (p : Nat) (OA : Option Addr) (oc turns : Nat) (os : List Ob), e = .returned (.pointer (some ⟨p, 0, none⟩)) ∧ TkAt w' w.heap.size p OA oc turns os ∧ InvT 40 turns os ∧ Below w.heap.size w w'
theorem RetCl.out {w : World} {e : Ending} {w' : World} (h : RetCl w e w') : ∃ (p : Nat) (OA : Option Addr) (oc turns : Nat) (os : List Ob), e = .returned (.pointer (some ⟨p, 0, none⟩)) ∧ TkAt w' w.heap.size p OA oc turns os ∧ InvT 40 turns os ∧ Below w.heap.size w w' := h
theorem InvT.mono {k j turns : Nat} {os : List Ob} (h : InvT k turns os) (hk : k ≤ j) : InvT j turns os := ⟨fun u hu => (h.1 u hu).mono (by omega), h.2.1, by have := h.2.2.1; omega, by have := h.2.2.2.1; omega, h.2.2.2.2⟩
theorem InvT.ask {k turns turns' s q : Nat} {os os' : List Ob} {rs : List Rg} {err st : Int} {vic gr : List (Nat × Nat)} (h : InvT k turns os) (ha : AskR os turns s q rs err st vic gr turns' os') : InvT (k + 1) turns' os' := by
  obtain ⟨a1, a2, a3, a4⟩ := ha.inv h.1 h.2.1
  exact ⟨by have e : 64 * (k + 1) = 64 * k + 64 := by omega
            rw [e]; exact a1, a2, by have := h.2.2.1; omega, by have := h.2.2.2.1; omega, ha.il h.2.2.2.2⟩
theorem InvT.rel {k turns : Nat} {os os' : List Ob} {f : Ob → Bool} {gr : List (Nat × Nat)} (h : InvT k turns os) (ha : MvR (os.filter f) gr os') : InvT k turns os' := by
  obtain ⟨a1, a2, a3⟩ := ha.inv h.1 h.2.1
  exact ⟨a1, a2, by have := h.2.2.1; omega, h.2.2.2.1, h.2.2.2.2.rel ha⟩
theorem tk_nil {w : World} : TkAt (w.alloc (.cells #[.slice none 0 0, .int .u64 0] 91)) w.heap.size w.heap.size none 0 0 [] := by
  refine ⟨Cl.new _ _ _, Nat.le_refl _, ⟨rfl, .inl ⟨rfl, rfl⟩⟩, (fun o ho => by cases ho), List.Pairwise.nil⟩
end Go.Proofs.Ytmpdenpopokigaa
namespace Go.Proofs.Ytmpdenpopokigaa
open Go Go.RowKit

/-- The range of bytes. -/
def mk3 (a b c : List UInt8) : Rg := ⟨a, b, decide (c = [1])⟩
def dec1 (p : List UInt8) : Option Rg := match (splitB p 3).1 with
  | [a, b, c] => if (c = [] ∨ c = [1]) ∧ checkR [mk3 a b c] = 0 then some (mk3 a b c) else none
  | _ => none
/-- 'These are the ranges of bytes, or what is wrong.' -/
def DecP (xs : List UInt8) (rs : List Rg) (e : Int) : Prop :=
  (e = 0 ∧ ∃ ps, parts xs = (ps, 0) ∧ ps.map dec1 = rs.map some) ∨ (rs = [] ∧ Er e ∧ ∀ (ps : List (List UInt8)) (rs' : List Rg), parts xs = (ps, 0) → ps.map dec1 ≠ rs'.map some)
def RetDr (w : World) (xs : List UInt8) (e : Ending) (w' : World) : Prop := ∃ L n c rs ee qs, e = .returned (.tuple #[.slice L n c, .int .i64 ee]) ∧ RowGr w w.heap.size L n c rs qs w' ∧ DecP xs rs ee
theorem RetDr.out {w : World} {xs : List UInt8} {e : Ending} {w' : World} (h : RetDr w xs e w') : ∃ L n c rs ee qs, e = .returned (.tuple #[.slice L n c, .int .i64 ee]) ∧ RowGr w w.heap.size L n c rs qs w' ∧ DecP xs rs ee := h
theorem RetDr.bad {w w' : World} {xs : List UInt8} {ee : Int} (hb : Below w.heap.size w w') (he : Er ee) (h : ∀ (ps : List (List UInt8)) (rs' : List Rg), parts xs = (ps, 0) → ps.map dec1 ≠ rs'.map some) : RetDr w xs (.returned (.tuple #[.slice none 0 0, .int .i64 ee])) w' :=
  ⟨none, 0, 0, [], ee, [], rfl, (RowGr.zero w w.heap.size (Nat.le_refl _)).below hb, .inr ⟨rfl, he, h⟩⟩
theorem some_at {ps : List (List UInt8)} {rs : List Rg} (h : ps.map dec1 = rs.map some) {p : List UInt8} (hp : p ∈ ps) : ∃ r, dec1 p = some r := by
  have h1 : dec1 p ∈ ps.map dec1 := List.mem_map.2 ⟨p, hp, rfl⟩
  rw [h] at h1
  obtain ⟨r, _, hr⟩ := List.mem_map.1 h1
  exact ⟨r, hr.symm⟩
theorem bad_at {xs : List UInt8} {P0 : List (List UInt8)} (hP : parts xs = (P0, 0)) {p : List UInt8} (hp : p ∈ P0) (hd : dec1 p = none) : ∀ (ps : List (List UInt8)) (rs' : List Rg), parts xs = (ps, 0) → ps.map dec1 ≠ rs'.map some := fun ps rs' h1 h2 => by
  rw [hP] at h1
  injection h1 with h1 _
  subst h1
  obtain ⟨r, hr⟩ := some_at h2 hp
  rw [hd] at hr
  cases hr
theorem dec1_err {p : List UInt8} (h : (splitB p 3).2 ≠ 0) : dec1 p = none := by
  have h1 : (splitB p 3).1 = [] := by
    unfold splitB at h ⊢
    split
    · rfl
    · rename_i h1
      rw [if_neg h1] at h
      split
      · rfl
      · rename_i h2
        rw [if_neg h2] at h
        exact absurd rfl h
  unfold dec1
  rw [h1]
theorem three_of {α : Type} {l : List α} (h : l.length = 3) : ∃ a b c, l = [a, b, c] := by
  match l, h with
  | [a, b, c], _ => exact ⟨a, b, c, rfl⟩
theorem cmp_one {c : List UInt8} : (cmpB c [1] == 0) = decide (c = [1]) := by
  by_cases h : c = [1]
  · subst h
    decide
  · rw [decide_eq_false h, beq_eq_false_iff_ne]
    intro e
    exact h (cmpB_zero _ _ e)
section
variable {w : World} {A : Option Addr} {n c : Nat} {xs : List UInt8}
set_option maxRecDepth 100000 in
set_option maxHeartbeats 16000000 in
theorem decodeR_any (h : Rd w A n xs) (hn : n ≤ 16777216) (hc : n ≤ c) (hnil : A = none → c = 0) : Calls Try.prog 136 #[.slice A n c] w (RetDr w xs) := by
  have HP := Lib.hid (PartsF_any A n c xs w h hn hc hnil)
  obtain ⟨P0, e0, hpe⟩ : ∃ ps e, parts xs = (ps, e) := ⟨_, _, rfl⟩
  rw [hpe] at HP
  have HPE := Lib.hid hpe
  have HER : Hid (e0 = 0 ∨ Er e0) := Lib.hid (by have := parts_er xs; rw [hpe] at this; exact this)
  have HPL : Hid (∀ p ∈ P0, p.length ≤ 16777216) := Lib.hid (fun p hp => by
    have h1 := parts_len xs p (by rw [hpe]; exact hp)
    have h2 := h.len
    omega)
  have HPC : Hid (P0.length ≤ 16777216) := Lib.hid (by
    have h1 : P0.length ≤ xs.length := by have := parts_count xs; rw [hpe] at this; exact this
    have h2 := h.len
    omega)
  clear h hpe
  go_enter Try.func136, Try.ntmps136
  go_wp2_with fail
  with_reducible refine HP.out.mono ?_
  intro e w2 hq
  obtain ⟨Q, qn, qc, pv, h1, hrow, hps⟩ := hq.out
  subst h1
  have HR := Lib.hid hrow
  have HPS : Hid (pv.map (·.2) = P0) := Lib.hid hps
  have HL : Hid (P0.length = qn) := Lib.hid (by rw [← HPS.out, List.length_map]; exact hrow.len)
  have hqn : qn ≤ 16777216 := by rw [← HL.out]; exact HPC.out
  clear hq hrow hps HP
  by_cases he : e0 = 0
  · subst he
    go_wp2_with fail
    go_loopw [6, 23] (fun s6 s23 wr => ∃ (k d : Nat) (L : Option Addr) (rs : List Rg) (qs : List VB), k ≤ qn ∧ s23 = .int .i64 (k : Int) ∧ s6 = .slice L k d ∧ (P0.take k).map dec1 = rs.map some ∧ RowGr w2 w2.heap.size L k d rs qs wr) (fun _ s _ => qn - (intOf s).toNat)
    case atStart => exact ⟨0, 0, none, [], [], Nat.zero_le _, rfl, rfl, rfl, RowGr.zero _ _ (Nat.le_refl _)⟩
    case round =>
      obtain ⟨k, d, L, rs, qs, hk, rfl, rfl, hds, hrw⟩ := hrel
      have HW := Lib.hid hrw
      have HDS := Lib.hid hds
      have HBW : Hid (Below w.heap.size w wr) := Lib.hid (HR.out.bel.trans (hrw.bel.mono HR.out.bel.size))
      clear hds
      by_cases hlt : k < qn
      · have hRd := HR.out.rd.below hrw.bel
        rw [HPS.out] at hRd
        obtain ⟨b, off, hAb, hbl⟩ := hRd.pos (by omega)
        subst hAb
        obtain ⟨p, B, bn, bc, hp, m0, rB, kB, nB⟩ := hRd.at_ k hlt
        have hpm := List.mem_of_getElem? hp
        have hpl := HPL.out p hpm
        have HSP : Hid (Calls Try.prog 135 #[.slice B bn bc, .int .i64 3] wr (RetPF wr.heap.size wr (splitB p 3))) := Lib.hid (split_any rB (by rw [← rB.len]; exact hpl) kB nB 3)
        have HPM := Lib.hid hpm
        have HPN : Hid ((P0.take (k + 1)).map dec1 = rs.map some ++ [dec1 p]) := Lib.hid (by rw [List.take_add_one, hp, List.map_append, HDS.out]; rfl)
        obtain ⟨S0, se, hse⟩ : ∃ s e, splitB p 3 = (s, e) := ⟨_, _, rfl⟩
        rw [hse] at HSP
        have HSE := Lib.hid hse
        clear hrw hRd hp rB kB nB hpm hse
        go_wp2_with fail
        with_reducible refine HSP.out.mono ?_
        intro e w3 hq
        obtain ⟨S, sn, sc, sv, h1, hrs, hsv⟩ := hq.out
        subst h1
        have HB3 := Lib.hid hrs.bel
        have HBW3 := Lib.hid (belowT' HBW.out hrs.bel)
        by_cases hs0 : se = 0
        · subst hs0
          have h3 := splitB_ok (xs := p) (k := 3) (by rw [HSE.out])
          rw [HSE.out] at h3
          obtain ⟨ca, cb, cc, rfl⟩ := three_of h3.2
          obtain ⟨v0, v1, v2, rfl⟩ : ∃ a b c, sv = [a, b, c] := three_of (by have := congrArg List.length hsv; simpa using this)
          obtain ⟨v0, x0⟩ := v0
          obtain ⟨v1, x1⟩ := v1
          obtain ⟨v2, x2⟩ := v2
          simp only [List.map_cons, List.map_nil, List.cons.injEq, and_true] at hsv
          obtain ⟨rfl, rfl, rfl⟩ := hsv
          have hsn : sn = 3 := by have := hrs.len; simpa using this.symm
          subst hsn
          obtain ⟨C0, n0, c0, e0v, o0⟩ := hrs.fam.1 (v0, x0) (by simp)
          obtain ⟨C1, n1, c1, e1v, o1⟩ := hrs.fam.1 (v1, x1) (by simp)
          obtain ⟨C2, n2, c2, e2v, o2⟩ := hrs.fam.1 (v2, x2) (by simp)
          simp only at e0v e1v e2v
          subst e0v e1v e2v
          have hrd := hrs.own.rd
          obtain ⟨sb, so, hS, hsb⟩ := hrd.pos (by omega)
          subst hS
          obtain ⟨_, hv0, y0⟩ := hrd.at_ 0 (by omega)
          obtain ⟨_, hv1, y1⟩ := hrd.at_ 1 (by omega)
          obtain ⟨_, hv2, y2⟩ := hrd.at_ 2 (by omega)
          injection hv0 with hv0
          injection hv1 with hv1
          injection hv2 with hv2
          subst hv0 hv1 hv2
          obtain ⟨W4, hW4⟩ : ∃ W4, W4 = w3.alloc (.cells #[.int .u8 1] 5) := ⟨_, rfl⟩
          have b34 : Below w3.heap.size w3 W4 := by rw [hW4]; exact (Below.refl _ _).alloc (Nat.le_refl _) _
          obtain ⟨g4, hg4⟩ : ∃ g4, g4 = w3.heap.size := ⟨_, rfl⟩
          obtain ⟨z, hz⟩ : ∃ z, cmpB x2 [1] = z := ⟨_, rfl⟩
          obtain ⟨ex, hex⟩ : ∃ ex, ex = decide (x2 = [1]) := ⟨_, rfl⟩
          have hzx : (z == 0) = ex := by rw [← hz, hex]; exact cmp_one
          have HCM : Hid (Calls Try.prog 65 #[.slice C2 n2 c2, .slice (some ⟨g4, 0, none⟩) 1 1] W4 fun e w' => e = .returned (.int .i64 z) ∧ W4 = w') := Lib.hid (Cmp_is C2 _ n2 1 c2 1 x2 [1] z hz W4 (o2.rd.below b34) (by rw [hg4, hW4]; exact rd_new1 w3 1 _))
          have HSC : Hid (∀ wx, Below W4.heap.size W4 wx → wx.cell? ⟨sb, so, none⟩ = some (.slice C0 n0 c0) ∧ wx.cell? ⟨sb, so + 1, none⟩ = some (.slice C1 n1 c1) ∧ wx.cell? ⟨sb, so + 2, none⟩ = some (.slice C2 n2 c2)) := Lib.hid (fun wx hb => by
            have hb3 := belowT' b34 hb
            exact ⟨(hb3.cell (p := ⟨sb, so, none⟩) hsb).trans y0, (hb3.cell (p := ⟨sb, so + 1, none⟩) hsb).trans y1, (hb3.cell (p := ⟨sb, so + 2, none⟩) hsb).trans y2⟩)
          have HX2 : Hid (ex = decide (x2 = [1])) := Lib.hid hex
          have HN2 : Hid (x2.length = n2) := Lib.hid o2.len
          have HFM : Hid (Fam W4 wr.heap.size [(.slice C0 n0 c0, x0), (.slice C1 n1 c1, x1)]) := Lib.hid (by
            have h1 := hrs.fam.below b34
            exact Fam.left (b := [(.slice C2 n2 c2, x2)]) h1)
          have HG4 := Lib.hid hg4
          have HW4 := Lib.hid hW4
          have HB4 := Lib.hid (belowT' hrs.bel b34)
          have HBW4 := Lib.hid (belowT' HBW3.out b34)
          clear hrs hrd o0 o1 o2 b34 hz hex hW4 hg4 h3 y0 y1
          go_wp2_with fail
          rw [← HW4.out, ← HG4.out]
          with_reducible refine HCM.out.mono ?_
          rintro e w5 ⟨rfl, rfl⟩
          clear y2
          obtain ⟨k0, k1, k2⟩ := HSC.out W4 (Below.refl _ _)
          go_upto_region 12 with (fail)
          clear hzx
          go_cut [12] from 41 to 48 (fun s12 wx => ∃ g : Nat, s12 = .pointer (some ⟨g, 0, none⟩) ∧ Cl wx g #[.slice C0 n0 c0, .slice C1 n1 c1, .bool ex] 97 ∧ Below W4.heap.size W4 wx)
          case first =>
            have hd : Below W4.heap.size W4 W4.drew := (Below.refl _ _).drew
            obtain ⟨l0, l1, _⟩ := HSC.out _ hd
            have m0 : ∀ o, (W4.alloc o).cell? ⟨sb, so, none⟩ = some (.slice C0 n0 c0) := fun o => (HSC.out _ ((Below.refl _ _).alloc (Nat.le_refl _) o)).1
            have m1 : ∀ o, (W4.alloc o).cell? ⟨sb, so + 1, none⟩ = some (.slice C1 n1 c1) := fun o => (HSC.out _ ((Below.refl _ _).alloc (Nat.le_refl _) o)).2.1
            go_region_law (fail)
            all_goals
              go_wp2_with fail
              go_meet
              exact ⟨W4.heap.size, rfl, Cl.new W4 _ _, ((Below.refl _ _).alloc (Nat.le_refl _) _).drew⟩
          case rest =>
            obtain ⟨g, rfl, zG, bG⟩ := hcut
            obtain ⟨r, hr⟩ : ∃ r, r = mk3 x0 x1 x2 := ⟨_, rfl⟩
            have hrx : r.ex = ex := by rw [hr, HX2.out]; rfl
            have HR1 : Hid (dec1 p = if (x2 = [] ∨ x2 = [1]) ∧ checkR [r] = 0 then some r else none) := Lib.hid (by unfold dec1; rw [HSE.out, hr])
            have HWK : Hid (∀ wx, Below wc.heap.size wc wx → wx.cell? ⟨g, 0, none⟩ = some (.slice C0 n0 c0) ∧ wx.cell? ⟨g, 1, none⟩ = some (.slice C1 n1 c1) ∧ wx.cell? ⟨g, 2, none⟩ = some (.bool ex)) := Lib.hid (fun wx hb => ⟨(zG.below hb).cell 0, (zG.below hb).cell 1, (zG.below hb).cell 2⟩)
            have HBWc := Lib.hid (belowT' HBW4.out bG)
            have HBc := Lib.hid (belowT' HB4.out bG)
            obtain ⟨W6, hW6⟩ : ∃ W6, W6 = wc.alloc (.cells #[.slice C0 n0 c0, .slice C1 n1 c1, .bool ex] 97) := ⟨_, rfl⟩
            have b6 : Below wc.heap.size wc W6 := by rw [hW6]; exact (Below.refl _ _).alloc (Nat.le_refl _) _
            obtain ⟨g6, hg6⟩ : ∃ g6, g6 = wc.heap.size := ⟨_, rfl⟩
            have hf6 : Fam W6 wr.heap.size [(.slice C0 n0 c0, x0), (.slice C1 n1 c1, x1)] := HFM.out.below (belowT' bG b6)
            have HCK : Hid (Calls Try.prog 103 #[.slice (some ⟨g6, 0, none⟩) 1 1] W6 (RetNu W6 (checkR [r]))) := Lib.hid (check16_any (RGr.mk (rs := [r]) (vs := [.slice C0 n0 c0, .slice C1 n1 c1, .bool ex]) (by
              have := grvs_of_fam (rs := [r]) hf6 (by rw [hr]; rfl)
              rw [← hrx]
              exact this) (by rw [hg6, hW6]; exact rdv_of_cl3 (Cl.new wc #[.slice C0 n0 c0, .slice C1 n1 c1, .bool ex] 97)) rfl) (by omega))
            obtain ⟨ck, hck⟩ : ∃ ck, ck = checkR [r] := ⟨_, rfl⟩
            rw [← hck] at HCK HR1
            have HW6 := Lib.hid hW6
            have HG6 := Lib.hid hg6
            have HB6 := Lib.hid b6
            have HF6 := Lib.hid hf6
            have HRR := Lib.hid (And.intro hr hrx)
            obtain ⟨k0, k1, k2⟩ := HSC.out wc bG
            obtain ⟨j0, j1, j2⟩ := HWK.out wc (Below.refl _ _)
            have hbad : Hid (dec1 p = none → ∀ wx, Below w.heap.size w wx → RetDr w xs (.returned (.tuple #[.slice none 0 0, .int .i64 3])) wx) := Lib.hid (fun hd wx hb => RetDr.bad hb (.inl rfl) (bad_at HPE.out HPM.out hd))
            clear zG bG hr hrx hW6 b6 hg6 hf6 hck HCM
            by_cases hx0 : n2 = 0 ∨ ex = true
            · have HXX : Hid (x2 = [] ∨ x2 = [1]) := Lib.hid (by
                rcases hx0 with h | h
                · left
                  exact List.eq_nil_of_length_eq_zero (by rw [HN2.out]; exact h)
                · right
                  rw [HX2.out] at h
                  simpa using h)
              go_upto_region 13 with (fail)
              go_cut [63] from 49 to 63 (fun s63 wx => s63 = .bool (ck != 0) ∧ Below W6.heap.size W6 wx)
              case first =>
                rcases hx0 with h | h
                · subst h
                  go_wp2_with fail
                  rw [← HW6.out, ← HG6.out]
                  with_reducible refine HCK.out.mono ?_
                  intro e w7 hq7
                  obtain ⟨h1, b7⟩ : e = .returned (.int .i64 ck) ∧ Below W6.heap.size W6 w7 := hq7
                  subst h1
                  go_wp2_with fail
                  go_meet
                  exact ⟨rfl, b7⟩
                · subst h
                  have hcase : n2 = 0 ∨ 0 < n2 := by omega
                  rcases hcase with h | h
                  · subst h
                    go_wp2_with fail
                    rw [← HW6.out, ← HG6.out]
                    with_reducible refine HCK.out.mono ?_
                    intro e w7 hq7
                    obtain ⟨h1, b7⟩ : e = .returned (.int .i64 ck) ∧ Below W6.heap.size W6 w7 := hq7
                    subst h1
                    go_wp2_with fail
                    go_meet
                    exact ⟨rfl, b7⟩
                  · go_wp2_with fail
                    rw [← HW6.out, ← HG6.out]
                    with_reducible refine HCK.out.mono ?_
                    intro e w7 hq7
                    obtain ⟨h1, b7⟩ : e = .returned (.int .i64 ck) ∧ Below W6.heap.size W6 w7 := hq7
                    subst h1
                    go_wp2_with fail
                    go_meet
                    exact ⟨rfl, b7⟩
              case rest =>
                obtain ⟨rfl, b7⟩ := hcut
                by_cases hc0 : ck = 0
                · subst hc0
                  obtain ⟨w7, hw7⟩ : ∃ w7, w7 = wc := ⟨_, rfl⟩
                  rw [← hw7] at b7
                  rw [← hw7]
                  have b17 := belowT' HB6.out b7
                  obtain ⟨j0, j1, j2⟩ := HWK.out w7 b17
                  have hrow7 := HW.out.below (belowT' HBc.out b17)
                  have HROW8 : Hid (RowGr w2 w2.heap.size L k d rs qs (w7.alloc (.cells #[.slice C0 n0 c0, .slice C1 n1 c1, .bool ex] 97))) := Lib.hid (hrow7.below ((Below.refl _ _).alloc (Nat.le_refl _) _))
                  have HDN : Hid ((P0.take (k + 1)).map dec1 = (rs ++ [r]).map some) := Lib.hid (by rw [HPN.out, HR1.out, if_pos ⟨HXX.out, rfl⟩, List.map_append]; rfl)
                  have HSNC : Hid (∀ L2 d2 w8, OwnGr w8 w2.heap.size L2 (k + 1) d2 (flatG rs qs ++ [.slice C0 n0 c0, .slice C1 n1 c1, .bool ex]) → (w7.alloc (.cells #[.slice C0 n0 c0, .slice C1 n1 c1, .bool ex] 97)).grownBy w8 (blk L) → RowGr w2 w2.heap.size L2 (k + 1) d2 (rs ++ [r]) (qs ++ [(.slice C0 n0 c0, x0), (.slice C1 n1 c1, x1)]) w8) := Lib.hid (fun L2 d2 w8 ho hg => by
                    refine RowGr.snoc (U := W6) (V := w7.alloc (.cells #[.slice C0 n0 c0, .slice C1 n1 c1, .bool ex] 97)) HW.out (belowT' HBc.out HB6.out) HF6.out (by rw [HRR.out.1]; rfl) rfl (belowT' b7 ((Below.refl _ _).alloc (Nat.le_refl _) _)) ho ?_ hg
                    rw [← HRR.out.2]
                    rfl)
                  clear b17 hrow7 b7 hw7 k0 k1 k2
                  go_wp2_with (refine wpList_app3 _ rfl (Operand.tmp 64) (Operand.tmp 66) 98 rfl w2.heap.size _ 56 Try.underlying98 info_rg rfl L k d (flatG rs qs) (by first | (simp [Act.eval]; done) | rfl) HROW8.out.own ⟨w7.heap.size, 0, none⟩ 1 1 [.slice C0 n0 c0, .slice C1 n1 c1, .bool ex] (by first | (simp [Act.eval]; done) | rfl) (rdv_of_cl3 (Cl.new w7 #[.slice C0 n0 c0, .slice C1 n1 c1, .bool ex] 97)) (by omega) (by simp [Value.oneCell']) (by unfold maxLen; omega) (by omega) HROW8.out.size ?_; intro L2 d2 w8 hL hg _)
                  have HQ := Lib.hid (HSNC.out L2 d2 w8 hL hg)
                  clear hL hg
                  go_wp2_with fail
                  go_roundw
                  case rel => exact ⟨k + 1, d2, L2, _, _, by omega, by go_num, rfl, HDN.out, HQ.out⟩
                  case measure => simp [intOf]; omega
                · have tk : (ck != 0) = true := by simpa using hc0
                  have HF := Lib.hid (hbad.out (by rw [HR1.out, if_neg (fun h => hc0 h.2)]) wc (belowT' HBWc.out (belowT' HB6.out b7)))
                  clear b7
                  go_wp2_with fail
                  go_ret2
                  exact HF.out
            · have hn0 : 0 < n2 := by omega
              have hex0 : ex = false := by
                cases ex with
                | false => rfl
                | true => exact absurd (.inr rfl) hx0
              have HF := Lib.hid (hbad.out (by
                rw [HR1.out, if_neg (fun h => ?_)]
                rcases h.1 with h1 | h1
                · have := HN2.out; rw [h1] at this; simp at this; omega
                · rw [HX2.out] at hex0
                  simp at hex0
                  exact hex0 h1) wc HBWc.out)
              subst hex0
              clear hx0
              go_wp2_with fail
              go_ret2
              exact HF.out
        · have ts : (se != 0) = true := by simpa using hs0
          have hd : dec1 p = none := dec1_err (by rw [HSE.out]; exact hs0)
          have hse : Er se := by
            have := splitB_er p 3
            rw [HSE.out] at this
            exact this.resolve_left hs0
          have HF : Hid (RetDr w xs (.returned (.tuple #[.slice none 0 0, .int .i64 se])) w3) := Lib.hid (RetDr.bad HBW3.out hse (bad_at HPE.out HPM.out hd))
          clear hsv hrs hd hse hs0
          go_wp2_with fail
          go_ret2
          exact HF.out
      · obtain rfl : k = qn := by omega
        have htk : P0.take k = P0 := List.take_of_length_le (by rw [HL.out]; exact Nat.le_refl _)
        have HF : Hid (RetDr w xs (.returned (.tuple #[.slice L k d, .int .i64 0])) wr) := Lib.hid ⟨L, k, d, rs, 0, qs, rfl, hrw.lower HR.out.bel, .inl ⟨rfl, P0, HPE.out, by rw [← HDS.out, htk]⟩⟩
        clear hrw htk
        go_wp2_with fail
        go_ret2
        exact HF.out
  · have te : (e0 != 0) = true := by simpa using he
    have HF : Hid (RetDr w xs (.returned (.tuple #[.slice none 0 0, .int .i64 e0])) w2) := Lib.hid (RetDr.bad HR.out.bel (HER.out.resolve_left he) (fun ps rs' h1 => by
      rw [HPE.out] at h1
      injection h1 with _ h1
      exact absurd h1 he))
    go_wp2_with fail
    go_ret2
    exact HF.out
end
end Go.Proofs.Ytmpdenpopokigaa
