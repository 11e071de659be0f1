/- LockCodes, as its row calls it. -/
import Derived.Test.YtmpdenpopokigaaLkDb
import Derived.Deep.Strs
import Derived.Test.YtmpdenpopokigaaGetU
import Derived.Test.YtmpdenpopokigaaLibD
import Derived.Test.YtmpdenpopokigaaSnk
import Derived.Lib.SmallJoins
namespace Go.Proofs.Ytmpdenpopokigaa
open Go Go.RowKit

def wtO (u : Ob) : Nat := u.held.length + u.asked.length
def sumR : List Ob → Nat
  | [] => 0
  | u :: os => wtO u + sumR os
def Nb (os : List Ob) : Prop := ∀ u ∈ os, u.s < B64 ∧ u.q < B64 ∧ u.asked.length ≤ 64
theorem sumR_app : ∀ (a b : List Ob), sumR (a ++ b) = sumR a + sumR b
  | [], b => by simp [sumR]
  | u :: a, b => by
    rw [List.cons_append, sumR, sumR, sumR_app a b]
    omega
theorem sumR_filter (f : Ob → Bool) : ∀ os : List Ob, sumR (os.filter f) ≤ sumR os
  | [] => Nat.le_refl _
  | u :: os => by
    have h := sumR_filter f os
    rw [List.filter_cons]
    by_cases hf : f u = true
    · rw [if_pos hf, sumR, sumR]; omega
    · rw [if_neg hf, sumR]; omega
theorem sumR_upd {x : Ob} : ∀ {os : List Ob}, (∀ u ∈ os, u.b = x.b → wtO x ≤ wtO u) → sumR (updO os x) ≤ sumR os
  | [], _ => Nat.le_refl _
  | u :: os, h => by
    have h1 := sumR_upd (x := x) (os := os) (fun v hv => h v (List.mem_cons_of_mem _ hv))
    have h2 := h u List.mem_cons_self
    have e : updO (u :: os) x = (if u.b = x.b then x else u) :: updO os x := rfl
    rw [e, sumR, sumR]
    by_cases hb : u.b = x.b
    · rw [if_pos hb]; have := h2 hb; omega
    · rw [if_neg hb]; omega
theorem updO_none {x : Ob} : ∀ {os : List Ob}, (∀ u ∈ os, u.b ≠ x.b) → updO os x = os
  | [], _ => rfl
  | u :: os, h => by
    have e : updO (u :: os) x = (if u.b = x.b then x else u) :: updO os x := rfl
    rw [e, if_neg (h u List.mem_cons_self), updO_none (fun v hv => h v (List.mem_cons_of_mem _ hv))]
theorem sumR_upd1 {x : Ob} {k : Nat} : ∀ {os : List Ob}, (os.map (·.b)).Nodup → (∀ u ∈ os, u.b = x.b → wtO x ≤ wtO u + k) → sumR (updO os x) ≤ sumR os + k
  | [], _, _ => Nat.zero_le _
  | u :: os, hn, h => by
    rw [List.map_cons, List.nodup_cons] at hn
    have e : updO (u :: os) x = (if u.b = x.b then x else u) :: updO os x := rfl
    rw [e, sumR, sumR]
    by_cases hb : u.b = x.b
    · rw [if_pos hb, updO_none (fun v hv e2 => hn.1 (List.mem_map.2 ⟨v, hv, by rw [e2, hb]⟩))]
      have := h u List.mem_cons_self hb
      omega
    · rw [if_neg hb]
      have := sumR_upd1 hn.2 (fun v hv => h v (List.mem_cons_of_mem _ hv))
      omega
theorem Nb.upd {os : List Ob} {x : Ob} (h : Nb os) (hx : x.s < B64 ∧ x.q < B64 ∧ x.asked.length ≤ 64) : Nb (updO os x) := fun u hu => by
  rcases updO_mem hu with ⟨rfl, _⟩ | ⟨hu, _⟩
  · exact hx
  · exact h u hu
theorem wt_give (v : Ob) : wtO (giveO v) ≤ wtO v := by
  show v.held.length + 0 ≤ _
  unfold wtO
  omega
theorem wt_take (v : Ob) (A : Option Addr) (d : Nat) : wtO (takeO v A d) = wtO v := by
  show (v.held ++ v.asked).length + 0 = _
  unfold wtO
  simp
theorem Mv.sb {os0 os : List Ob} {l : List Nat} {out : List (Nat × Nat)} (h : Mv os0 l out os) (hd : Db os0) (hn : Nb os0) : Db os ∧ Nb os ∧ sumR os ≤ sumR os0 := by
  induction h with
  | start => exact ⟨hd, hn, Nat.le_refl _⟩
  | stay _ _ _ ih => exact ih
  | @go l out os c A d _ hc _ ih =>
    obtain ⟨i1, i2, i3⟩ := ih
    refine ⟨i1.upd, i2.upd ⟨(i2 c hc).1, (i2 c hc).2.1, Nat.zero_le _⟩, Nat.le_trans (sumR_upd fun u hu e => ?_) i3⟩
    rw [i1 u hu c hc e, wt_take]
    exact Nat.le_refl _
theorem MvR.sb {os os' : List Ob} {gr : List (Nat × Nat)} (h : MvR os gr os') (hd : Db os) (hn : Nb os) : Nb os' ∧ sumR os' ≤ sumR os := by
  obtain ⟨lo, _, _, hm⟩ := h
  exact (hm.sb hd hn).2
theorem MvR.sbF {os os' : List Ob} {f : Ob → Bool} {gr : List (Nat × Nat)} (h : MvR (os.filter f) gr os') (hd : Db os) (hn : Nb os) : Nb os' ∧ sumR os' ≤ sumR os := by
  obtain ⟨h1, h2⟩ := h.sb (fun u hu v hv => hd u (List.mem_filter.1 hu).1 v (List.mem_filter.1 hv).1) (fun u hu => hn u (List.mem_filter.1 hu).1)
  exact ⟨h1, Nat.le_trans h2 (sumR_filter f os)⟩
theorem Broke.sb {fb : Nat} {os0 os : List Ob} {out : List (Nat × Nat)} (h : Broke fb os0 out os) (hd : Db os0) (hn : Nb os0) : Db os ∧ Nb os ∧ sumR os ≤ sumR os0 := by
  induction h with
  | start => exact ⟨hd, hn, Nat.le_refl _⟩
  | @step out os f v _ _ _ hv ih =>
    obtain ⟨i1, i2, i3⟩ := ih
    refine ⟨i1.upd, i2.upd ⟨(i2 v hv.mem).1, (i2 v hv.mem).2.1, Nat.zero_le _⟩, Nat.le_trans (sumR_upd fun u hu e => ?_) i3⟩
    rw [i1 u hu v hv.mem e]
    exact wt_give v
theorem PutA.sb {turns s q : Nat} {rs : List Rg} {os os1 : List Ob} {o1 : Ob} (h : PutA os s q rs (turns + 1) os1 o1) (hi : IL turns os) (hb : (os.map (·.b)).Nodup) (hn : Nb os) (hs : s < B64) (hq : q < B64) (hl : rs.length ≤ 64) : Nb os1 ∧ sumR os1 ≤ sumR os + rs.length := by
  obtain ⟨ea, _, ⟨o, hf, ho, ⟨A, c, e1⟩, rfl⟩ | ⟨_, e1, e2, e3, _, rfl⟩⟩ := h
  · have hm := (find_nm hf).1
    refine ⟨hn.upd (by rw [e1]; exact ⟨(hn o hm).1, (hn o hm).2.1, hl⟩), sumR_upd1 hb fun u hu e => ?_⟩
    have e2 : u = o := hi.ic.db u hu o hm (by rw [e, e1])
    rw [e2, e1]
    show o.held.length + rs.length ≤ wtO o + rs.length
    unfold wtO
    omega
  · refine ⟨fun u hu => ?_, ?_⟩
    · rcases List.mem_append.1 hu with hu | hu
      · exact hn u hu
      · rw [List.mem_singleton.1 hu, e1, e2, ea]; exact ⟨hs, hq, hl⟩
    · rw [sumR_app]
      have : sumR [o1] = rs.length := by
        show wtO o1 + 0 = _
        unfold wtO
        rw [ea, e3]
        simp
      omega
theorem checkR_len {rs : List Rg} (h : checkR rs = 0) : rs.length ≤ 64 := by
  unfold checkR at h
  by_cases h1 : 64 < rs.length ∨ rs.any longR = true
  · rw [if_pos h1] at h; cases h
  · omega
theorem AskR.sb {os os' : List Ob} {turns s q turns' : Nat} {rs : List Rg} {err st : Int} {vic gr : List (Nat × Nat)} (h : AskR os turns s q rs err st vic gr turns' os') (hi : IL turns os) (hb : (os.map (·.b)).Nodup) (hn : Nb os) (hs : s < B64) (hq : q < B64) : Nb os' ∧ sumR os' ≤ sumR os + 64 := by
  rcases h with ⟨_, _, _, _, _, _, rfl⟩ | ⟨_, _, _, _, _, _, _, rfl⟩ | ⟨hc, _, _, os1, o1, hp, hmm, h⟩
  · exact ⟨hn, Nat.le_add_right _ _⟩
  · exact ⟨hn, Nat.le_add_right _ _⟩
  · have hl := checkR_len hc
    obtain ⟨p1, p2⟩ := hp.sb hi hb hn hs hq hl
    have hd := (hp.il hi).1.db
    rcases h with ⟨_, _, _, _, A, d, rfl⟩ | ⟨_, os2, hbk, _, hm, _⟩
    · refine ⟨p1.upd ⟨(p1 o1 hmm).1, (p1 o1 hmm).2.1, Nat.zero_le _⟩, Nat.le_trans (sumR_upd fun u hu e => ?_) (Nat.le_trans p2 (by omega))⟩
      rw [hd u hu o1 hmm e, wt_take]
      exact Nat.le_refl _
    · obtain ⟨b1, b2, b3⟩ := hbk.sb hd p1
      obtain ⟨m1, m2⟩ := hm.sb b1 b2
      exact ⟨m1, by omega⟩
/-- What the calls keep besides. -/
def SB (k : Nat) (os : List Ob) : Prop := Nb os ∧ sumR os ≤ 64 * k
theorem SB.nil (k : Nat) : SB k [] := ⟨fun u hu => (by cases hu), Nat.zero_le _⟩
theorem SB.mono {k j : Nat} {os : List Ob} (h : SB k os) (hk : k ≤ j) : SB j os := ⟨h.1, by have := h.2; omega⟩
theorem SB.ask {k turns turns' s q : Nat} {os os' : List Ob} {rs : List Rg} {err st : Int} {vic gr : List (Nat × Nat)} (h : SB k os) (ha : AskR os turns s q rs err st vic gr turns' os') (hi : IL turns os) (hb : (os.map (·.b)).Nodup) (hs : s < B64) (hq : q < B64) : SB (k + 1) os' := by
  obtain ⟨h1, h2⟩ := ha.sb hi hb h.1 hs hq
  exact ⟨h1, by have := h.2; omega⟩
theorem SB.rel {k turns : Nat} {os os' : List Ob} {f : Ob → Bool} {gr : List (Nat × Nat)} (h : SB k os) (ha : MvR (os.filter f) gr os') (hi : IL turns os) : SB k os' := by
  obtain ⟨h1, h2⟩ := ha.sbF hi.ic.db h.1
  exact ⟨h1, Nat.le_trans h2 h.2⟩
theorem TkAt.nd {w : World} {bs p : Nat} {OA : Option Addr} {oc turns : Nat} {os : List Ob} (h : TkAt w bs p OA oc turns os) : (os.map (·.b)).Nodup := List.pairwise_map.2 (h.dis.imp fun h => h.1)
end Go.Proofs.Ytmpdenpopokigaa
namespace Go.Proofs.Ytmpdenpopokigaa
open Go Go.RowKit Go.Deep Go.ChangeShapes Go.WideShapes Go.ChangeAt

def AcV0 (w : World) (a : Ac) (v0 v1 v2 v3 : Value) : Prop := v0 = .int .i64 a.kind ∧ v1 = .int .u64 (a.s : Int) ∧ v2 = .int .u64 (a.q : Int) ∧ ∃ A n c, v3 = .slice A n c ∧ RGr w A n a.rs
theorem AcV0.up {w : World} {a : Ac} {v0 v1 v2 v3 : Value} (h : AcV0 w a v0 v1 v2 v3) (hb : totR a.rs ≤ 1048576) : AcV w a v0 v1 v2 v3 := by
  obtain ⟨h1, h2, h3, A, n, c, h4, h5⟩ := h
  exact ⟨h1, h2, h3, A, n, c, h4, h5, by have := totR_len a.rs; have := h5.len; omega, sz_totR hb⟩
def totC : List Ac → Nat
  | [] => 0
  | a :: al => totR a.rs + 1 + totC al
theorem totC_mem : ∀ {al : List Ac} {a : Ac}, a ∈ al → totR a.rs ≤ totC al
  | x :: al, a, h => by
    rw [totC]
    rcases List.mem_cons.1 h with rfl | h
    · omega
    · have := totC_mem h; omega
theorem totC_bulk {H : Type} : ∀ (al : List Ac) (D : Nat → DataW H), (∀ i a, al[i]? = some a → totR a.rs + 1 ≤ Rows.uptoBulk (D i)) → totC al ≤ Rows.uptoBulkAll ((List.range al.length).map D)
  | [], D, _ => by simp [totC]
  | a :: t, D, h => by
    have h1 := h 0 a rfl
    have h2 := totC_bulk t (fun i => D (i + 1)) (fun i b hb => h (i + 1) b (by simpa using hb))
    rw [List.length_cons, List.range_succ_eq_map, List.map_cons, List.map_map, totC, Rows.uptoBulkAll]
    have e : (List.range t.length).map (D ∘ Nat.succ) = (List.range t.length).map (fun i => D (i + 1)) := rfl
    rw [e]
    omega
end Go.Proofs.Ytmpdenpopokigaa
namespace Go.Proofs.Ytmpdenpopokigaa
open Go Go.RowKit

/-- The number of bytes. -/
def decN (x : List UInt8) : Option Nat := if (getU x 0).2.2 = 0 ∧ (getU x 0).2.1 = (x.length : Int) then some (getU x 0).1 else none
def OkR (xs : List UInt8) (rs : List Rg) : Prop := ∃ ps, parts xs = (ps, 0) ∧ ps.map dec1 = rs.map some
/-- 'These bytes are this owner's.' -/
def OkO (p : List UInt8) (s q : Nat) (hs ar : List Rg) : Prop := ∃ a b c d, splitB p 4 = ([a, b, c, d], 0) ∧ decN a = some s ∧ decN b = some q ∧ OkR c hs ∧ OkR d ar ∧ ar.length ≤ 64
def RetDo (w : World) (p : List UInt8) (e : Ending) (w' : World) : Prop :=
  (∃ o : Ob, e = .returned (.tuple #[.pointer (some ⟨o.b, 0, none⟩), .int .i64 0]) ∧ OkO p o.s o.q o.held o.asked ∧ o.turn = 0 ∧ ObAt w' w.heap.size o ∧ Below w.heap.size w w') ∨
  (∃ ee, e = .returned (.tuple #[.pointer none, .int .i64 ee]) ∧ Er ee ∧ (∀ s q hs ar, ¬ OkO p s q hs ar) ∧ Below w.heap.size w w')
theorem RetDo.bad {w w' : World} {p : List UInt8} {ee : Int} (hb : Below w.heap.size w w') (he : Er ee) (h : ∀ s q hs ar, ¬ OkO p s q hs ar) : RetDo w p (.returned (.tuple #[.pointer none, .int .i64 ee])) w' := .inr ⟨ee, rfl, he, h, hb⟩
theorem splitB_none {p : List UInt8} {k : Nat} (h : (splitB p k).2 ≠ 0) : (splitB p k).1 = [] := by
  unfold splitB at h ⊢
  split
  · rfl
  · rename_i h1
    rw [if_neg h1] at h
    split
    · rfl
    · rename_i h2
      rw [if_neg h2] at h
      exact absurd rfl h
theorem fourK {α : Type} {l : List α} (h : l.length = 4) : ∃ a b c d, l = [a, b, c, d] := by
  match l, h with
  | [a, b, c, d], _ => exact ⟨a, b, c, d, rfl⟩
/-- What the walk knows of its four parts. -/
theorem okO_four {p a b c d : List UInt8} (h : splitB p 4 = ([a, b, c, d], 0)) {s q : Nat} {hs ar : List Rg} (ho : OkO p s q hs ar) : decN a = some s ∧ decN b = some q ∧ OkR c hs ∧ OkR d ar ∧ ar.length ≤ 64 := by
  obtain ⟨a', b', c', d', h1, h2, h3, h4, h5, h6⟩ := ho
  rw [h] at h1
  injection h1 with h1 _
  injection h1 with e1 h1
  injection h1 with e2 h1
  injection h1 with e3 h1
  injection h1 with e4 _
  subst e1 e2 e3 e4
  exact ⟨h2, h3, h4, h5, h6⟩
theorem decP_okR {xs : List UInt8} {rs : List Rg} {e : Int} (h : DecP xs rs e) (he : e = 0) : OkR xs rs := by
  rcases h with ⟨_, h⟩ | ⟨_, h, _⟩
  · exact h
  · rw [he] at h; rcases h with h | h <;> cases h
theorem decP_er {xs : List UInt8} {rs : List Rg} {e : Int} (h : DecP xs rs e) (he : e ≠ 0) : Er e ∧ ∀ rs', ¬ OkR xs rs' := by
  rcases h with ⟨h, _⟩ | ⟨_, h, hn⟩
  · exact absurd h he
  · exact ⟨h, fun rs' ⟨ps, h1, h2⟩ => hn ps rs' h1 h2⟩
theorem rgAt_row {wx w' : World} {bs : Nat} {L : Option Addr} {n c : Nat} {rs : List Rg} {ps : List VB} (h : RowGr wx wx.heap.size L n c rs ps w') (hb : bs ≤ wx.heap.size) : RgAt w' bs L c rs := ⟨ps, by rw [h.len]; exact h.own.mono hb, FamW.of h.fam hb, h.dat⟩
theorem okR_sz {xs : List UInt8} {rs : List Rg} (h : OkR xs rs) : rs.length ≤ xs.length := by
  obtain ⟨ps, h1, h2⟩ := h
  have h3 := congrArg List.length h2
  simp only [List.length_map] at h3
  have h4 := parts_count xs
  rw [h1] at h4
  have h5 : ps.length ≤ xs.length := h4
  omega
section
variable {w : World} {A : Option Addr} {n c : Nat} {p : List UInt8}
set_option maxRecDepth 100000 in
set_option maxHeartbeats 16000000 in
theorem decodeOwner_any (h : Rd w A n p) (hn : n ≤ 16777216) (hc : n ≤ c) (hnil : A = none → c = 0) : Calls Try.prog 93 #[.slice A n c] w (RetDo w p) := by
  have HSP : Hid (Calls Try.prog 135 #[.slice A n c, .int .i64 4] w (RetPF w.heap.size w (splitB p 4))) := Lib.hid (split_any h hn hc hnil 4)
  obtain ⟨S0, se, hse⟩ : ∃ s e, splitB p 4 = (s, e) := ⟨_, _, rfl⟩
  rw [hse] at HSP
  have HSE := Lib.hid hse
  have HPL : Hid (p.length ≤ 16777216) := Lib.hid (by have := h.len; omega)
  clear h hse
  go_enter Try.func93, Try.ntmps93
  go_wp2_with fail
  with_reducible refine HSP.out.mono ?_
  intro e w3 hq
  obtain ⟨S, sn, sc, sv, h1, hrs, hsv⟩ := hq.out
  subst h1
  have HB3 := Lib.hid hrs.bel
  by_cases hs0 : se = 0
  · subst hs0
    have h3 := splitB_ok (xs := p) (k := 4) (by rw [HSE.out])
    rw [HSE.out] at h3
    obtain ⟨xa, xb, xc, xd, rfl⟩ := fourK h3.2
    have hpl : ∀ x ∈ [xa, xb, xc, xd], x.length ≤ 16777216 := fun x hx => by
      have := parts_len p x (by rw [h3.1]; exact hx)
      have := HPL.out
      omega
    have hsn : sn = 4 := by
      have h4 := hrs.len
      have h5 := congrArg List.length hsv
      simp at h5
      omega
    subst hsn
    have hrd := hrs.rd
    rw [show sv.map (·.2) = [xa, xb, xc, xd] from hsv] at hrd
    obtain ⟨sb, so, hS, hsb⟩ := hrd.pos (by omega)
    subst hS
    obtain ⟨_, C0, n0, c0, e0, y0, r0, q0, z0⟩ := hrd.at_ 0 (by omega)
    obtain ⟨_, C1, n1, c1, e1, y1, r1, q1, z1⟩ := hrd.at_ 1 (by omega)
    obtain ⟨_, C2, n2, c2, e2, y2, r2, q2, z2⟩ := hrd.at_ 2 (by omega)
    obtain ⟨_, C3, n3, c3, e3, y3, r3, q3, z3⟩ := hrd.at_ 3 (by omega)
    injection e0 with e0
    injection e1 with e1
    injection e2 with e2
    injection e3 with e3
    subst e0 e1 e2 e3
    have HG : Hid (∀ wx, Below w3.heap.size w3 wx → Calls Try.prog 130 #[.slice C0 n0 c0, .int .i64 0] wx (RetG wx (getU xa 0)) ∧ Calls Try.prog 130 #[.slice C1 n1 c1, .int .i64 0] wx (RetG wx (getU xb 0))) := Lib.hid (fun wx hb => ⟨GetU_any C0 n0 c0 xa 0 wx (r0.below hb) (by have := hpl xa (by simp); have := r0.len; omega) q0, GetU_any C1 n1 c1 xb 0 wx (r1.below hb) (by have := hpl xb (by simp); have := r1.len; omega) q1⟩)
    have HD : Hid (∀ wx, Below w3.heap.size w3 wx → Calls Try.prog 136 #[.slice C2 n2 c2] wx (RetDr wx xc) ∧ Calls Try.prog 136 #[.slice C3 n3 c3] wx (RetDr wx xd)) := Lib.hid (fun wx hb => ⟨decodeR_any (r2.below hb) (by have := hpl xc (by simp); have := r2.len; omega) q2 z2, decodeR_any (r3.below hb) (by have := hpl xd (by simp); have := r3.len; omega) q3 z3⟩)
    have HSC : Hid (∀ wx, Below w3.heap.size w3 wx → wx.cell? ⟨sb, so, none⟩ = some (.slice C0 n0 c0) ∧ wx.cell? ⟨sb, so + 1, none⟩ = some (.slice C1 n1 c1) ∧ wx.cell? ⟨sb, so + 2, none⟩ = some (.slice C2 n2 c2) ∧ wx.cell? ⟨sb, so + 3, none⟩ = some (.slice C3 n3 c3)) := Lib.hid (fun wx hb =>
      ⟨(hb.cell (p := ⟨sb, so, none⟩) hsb).trans y0, (hb.cell (p := ⟨sb, so + 1, none⟩) hsb).trans y1, (hb.cell (p := ⟨sb, so + 2, none⟩) hsb).trans y2, (hb.cell (p := ⟨sb, so + 3, none⟩) hsb).trans y3⟩)
    have HLA : Hid (xa.length = n0 ∧ xb.length = n1 ∧ xc.length ≤ 16777216 ∧ xd.length ≤ 16777216) := Lib.hid ⟨r0.len, r1.len, hpl xc (by simp), hpl xd (by simp)⟩
    have hn0 : n0 ≤ 16777216 := by rw [← r0.len]; exact hpl xa (by simp)
    have hn1 : n1 ≤ 16777216 := by rw [← r1.len]; exact hpl xb (by simp)
    have HBAD : Hid (∀ (ee : Int) (wx : World), Below w3.heap.size w3 wx → Er ee → (∀ s q hs ar, ¬ (decN xa = some s ∧ decN xb = some q ∧ OkR xc hs ∧ OkR xd ar ∧ ar.length ≤ 64)) → RetDo w p (.returned (.tuple #[.pointer none, .int .i64 ee])) wx) := Lib.hid (fun ee wx hb he hno => RetDo.bad (belowT' HB3.out hb) he (fun s q hs ar ho => hno s q hs ar (okO_four HSE.out ho)))
    clear hrs hsv hrd r0 r1 r2 r3 q0 q1 q2 q3 z0 z1 z2 z3 y0 y1 y2 y3 hpl h3
    obtain ⟨g, hg⟩ : ∃ g, g = w3.heap.size := ⟨_, rfl⟩
    obtain ⟨W, hW⟩ : ∃ W, W = w3.alloc (.cells #[.int .u64 0, .int .u64 0] 201) := ⟨_, rfl⟩
    have HZ0 : Hid (Cl W g #[.int .u64 ((0 : Nat) : Int), .int .u64 ((0 : Nat) : Int)] 201 ∧ Below w3.heap.size w3 W) := Lib.hid ⟨by rw [hW, hg]; exact Cl.new w3 #[.int .u64 0, .int .u64 0] 201, by rw [hW]; exact (Below.refl _ _).alloc (Nat.le_refl _) _⟩
    have HGS : Hid (w3.heap.size ≤ g) := Lib.hid (by omega)
    have HW := Lib.hid hW
    have HGE := Lib.hid hg
    clear hg hW
    go_wp2_with fail
    rw [← HW.out, ← HGE.out]
    go_loopw [21] (fun s21 wr => ∃ (i m0 m1 : Nat), i ≤ 2 ∧ s21 = .int .i64 (i : Int) ∧ (0 < i → decN xa = some m0) ∧ (1 < i → decN xb = some m1) ∧ Cl wr g #[.int .u64 (m0 : Int), .int .u64 (m1 : Int)] 201 ∧ Below w3.heap.size w3 wr) (fun s _ => 2 - (intOf s).toNat)
    case atStart => exact ⟨0, 0, 0, by omega, rfl, (fun h => by omega), (fun h => by omega), HZ0.out.1, HZ0.out.2⟩
    case round =>
      obtain ⟨i, m0, m1, hi, rfl, hm0, hm1, hz, hb⟩ := hrel
      have HM0 := Lib.hid hm0
      have HM1 := Lib.hid hm1
      have HZ := Lib.hid hz
      have HB := Lib.hid hb
      obtain ⟨k0, k1, k2, k3⟩ := HSC.out wr hb
      clear hm0 hm1
      have hcase : i = 0 ∨ i = 1 ∨ i = 2 := by omega
      rcases hcase with rfl | rfl | rfl
      · obtain ⟨v, nx, ee, hv⟩ : ∃ v nx ee, getU xa 0 = (v, nx, ee) := ⟨_, _, _, rfl⟩
        have HGU := Lib.hid (HG.out wr hb).1
        rw [hv] at HGU
        have HV := Lib.hid hv
        have her : Hid (ee = 0 ∨ Er ee) := Lib.hid (by have := getU_er (xs := xa) (k := 0) (Nat.zero_le _); rw [show ((0 : Nat) : Int) = 0 from rfl, hv] at this; exact this)
        have hnl : Hid (ee = 0 → nx ≤ (n0 : Int)) := Lib.hid (fun h => by
          subst h
          obtain ⟨k, k', _, h2, _, h4, _, _⟩ := getU_ok hv
          have := HLA.out.1
          omega)
        have hd0 := hz.cell 0
        have hf0 := hz.thaw 0
        have HST : Hid (Cl (wr.setCell ⟨g, 0, none⟩ (.int .u64 (v : Int))) g #[.int .u64 (v : Int), .int .u64 (m1 : Int)] 201 ∧ Below w3.heap.size w3 (wr.setCell ⟨g, 0, none⟩ (.int .u64 (v : Int)))) := Lib.hid ⟨hz.set 0 _, hb.setCell (p := ⟨g, 0, none⟩) HGS.out _⟩
        clear hz hb hv
        by_cases he : ee = 0
        · subst he
          by_cases hnx : nx < (n0 : Int)
          · have HF := Lib.hid (HBAD.out 3 wr HB.out (.inl rfl) (fun s q hs ar h => by
              have h1 := h.1
              unfold decN at h1
              rw [HV.out, if_neg (fun h2 => by have h3 := h2.2; have h4 := HLA.out.1; simp at h3; omega)] at h1
              cases h1))
            go_wp2_with fail
            with_reducible refine HGU.out.mono ?_
            rintro e w5 ⟨rfl, rfl⟩
            go_wp2_with fail
            go_ret2
            exact HF.out
          · have HDN : Hid (decN xa = some v) := Lib.hid (by
              have h1 := hnl.out rfl
              have h2 := HLA.out.1
              unfold decN
              rw [HV.out, if_pos ⟨rfl, by simp; omega⟩])
            go_wp2_with fail
            with_reducible refine HGU.out.mono ?_
            rintro e w5 ⟨rfl, rfl⟩
            go_wp2_with fail
            go_roundw
            case rel => exact ⟨1, v, m1, by omega, by go_num, (fun _ => HDN.out), (fun h => by omega), HST.out.1, HST.out.2⟩
            case measure => simp [intOf]
        · have te : (ee != 0) = true := by simpa using he
          have HF := Lib.hid (HBAD.out ee wr HB.out (her.out.resolve_left he) (fun s q hs ar h => by
            have h1 := h.1
            unfold decN at h1
            rw [HV.out, if_neg (fun h2 => he h2.1)] at h1
            cases h1))
          go_wp2_with fail
          with_reducible refine HGU.out.mono ?_
          rintro e w5 ⟨rfl, rfl⟩
          go_wp2_with fail
          go_ret2
          exact HF.out
      · obtain ⟨v, nx, ee, hv⟩ : ∃ v nx ee, getU xb 0 = (v, nx, ee) := ⟨_, _, _, rfl⟩
        have HGU := Lib.hid (HG.out wr hb).2
        rw [hv] at HGU
        have HV := Lib.hid hv
        have her : Hid (ee = 0 ∨ Er ee) := Lib.hid (by have := getU_er (xs := xb) (k := 0) (Nat.zero_le _); rw [show ((0 : Nat) : Int) = 0 from rfl, hv] at this; exact this)
        have hnl : Hid (ee = 0 → nx ≤ (n1 : Int)) := Lib.hid (fun h => by
          subst h
          obtain ⟨k, k', _, h2, _, h4, _, _⟩ := getU_ok hv
          have := HLA.out.2.1
          omega)
        have hd0 := hz.cell 1
        have hf0 := hz.thaw 1
        have HST : Hid (Cl (wr.setCell ⟨g, 1, none⟩ (.int .u64 (v : Int))) g #[.int .u64 (m0 : Int), .int .u64 (v : Int)] 201 ∧ Below w3.heap.size w3 (wr.setCell ⟨g, 1, none⟩ (.int .u64 (v : Int)))) := Lib.hid ⟨hz.set 1 _, hb.setCell (p := ⟨g, 1, none⟩) HGS.out _⟩
        clear hz hb hv
        by_cases he : ee = 0
        · subst he
          by_cases hnx : nx < (n1 : Int)
          · have HF := Lib.hid (HBAD.out 3 wr HB.out (.inl rfl) (fun s q hs ar h => by
              have h1 := h.2.1
              unfold decN at h1
              rw [HV.out, if_neg (fun h2 => by have h3 := h2.2; have h4 := HLA.out.2.1; simp at h3; omega)] at h1
              cases h1))
            go_wp2_with fail
            with_reducible refine HGU.out.mono ?_
            rintro e w5 ⟨rfl, rfl⟩
            go_wp2_with fail
            go_ret2
            exact HF.out
          · have HDN : Hid (decN xb = some v) := Lib.hid (by
              have h1 := hnl.out rfl
              have h2 := HLA.out.2.1
              unfold decN
              rw [HV.out, if_pos ⟨rfl, by simp; omega⟩])
            go_wp2_with fail
            with_reducible refine HGU.out.mono ?_
            rintro e w5 ⟨rfl, rfl⟩
            go_wp2_with fail
            go_roundw
            case rel => exact ⟨2, m0, v, by omega, by go_num, (fun _ => HM0.out (by omega)), (fun _ => HDN.out), HST.out.1, HST.out.2⟩
            case measure => simp [intOf]
        · have te : (ee != 0) = true := by simpa using he
          have HF := Lib.hid (HBAD.out ee wr HB.out (her.out.resolve_left he) (fun s q hs ar h => by
            have h1 := h.2.1
            unfold decN at h1
            rw [HV.out, if_neg (fun h2 => he h2.1)] at h1
            cases h1))
          go_wp2_with fail
          with_reducible refine HGU.out.mono ?_
          rintro e w5 ⟨rfl, rfl⟩
          go_wp2_with fail
          go_ret2
          exact HF.out
      · have HNN : Hid (decN xa = some m0 ∧ decN xb = some m1) := Lib.hid ⟨HM0.out (by omega), HM1.out (by omega)⟩
        have HDC := Lib.hid (HD.out wr hb).1
        clear hz hb
        go_wp2_with fail
        with_reducible refine HDC.out.mono ?_
        intro e w5 hq
        obtain ⟨L1, l1, d1, rs1, e1, qs1, h1, hr1, hd1⟩ := hq.out
        subst h1
        have HB5 := Lib.hid (belowT' HB.out hr1.bel)
        have HD1 := Lib.hid hd1
        have HR1 := Lib.hid hr1
        have HBW := Lib.hid hr1.bel
        have HL1 : Hid (rs1.length = l1) := Lib.hid hr1.len
        clear hq hr1 hd1 k0 k1 k2 k3
        by_cases he1 : e1 = 0
        · subst he1
          obtain ⟨k0, k1, k2, k3⟩ := HSC.out w5 HB5.out
          have HDC2 := Lib.hid (HD.out w5 HB5.out).2
          go_wp2_with fail
          with_reducible refine HDC2.out.mono ?_
          intro e w6 hq
          obtain ⟨L2, l2, d2, rs2, e2, qs2, h1, hr2, hd2⟩ := hq.out
          subst h1
          have HB6 := Lib.hid (belowT' HB5.out hr2.bel)
          have HD2 := Lib.hid hd2
          have HR2 := Lib.hid hr2
          have HL2 : Hid (rs2.length = l2) := Lib.hid hr2.len
          clear hq hr2 hd2 k0 k1 k2 k3
          by_cases he2 : e2 = 0
          · subst he2
            have HO2 := Lib.hid (decP_okR HD2.out rfl)
            by_cases hl : 64 < l2
            · have HF := Lib.hid (HBAD.out 3 w6 HB6.out (.inl rfl) (fun s q hs ar h => by
                have h1 := h.2.2.2.2
                obtain ⟨ps, h2, h3⟩ := h.2.2.2.1
                obtain ⟨ps', h4, h5⟩ := HO2.out
                rw [h2] at h4
                injection h4 with h4 _
                subst h4
                rw [h3] at h5
                have h6 := congrArg List.length h5
                simp only [List.length_map] at h6
                have := HL2.out
                omega))
              go_wp2_with fail
              go_ret2
              exact HF.out
            · have z6 := HZ.out.below (belowT' HBW.out HR2.out.bel)
              have c0 := z6.cell 0
              have c1 := z6.cell 1
              have HF : Hid (RetDo w p (.returned (.tuple #[.pointer (some ⟨w6.heap.size, 0, none⟩), .int .i64 0])) (w6.alloc (.cells #[.int .u64 (m0 : Int), .int .u64 (m1 : Int), .slice L1 l1 d1, .slice L2 l2 d2, .int .u64 0] 164))) := Lib.hid (by
                have hb6 : Below w6.heap.size w6 (w6.alloc (.cells #[.int .u64 (m0 : Int), .int .u64 (m1 : Int), .slice L1 l1 d1, .slice L2 l2 d2, .int .u64 0] 164)) := (Below.refl _ _).alloc (Nat.le_refl _) _
                have hs3 := HB3.out.size
                have hs4 := HB.out.size
                have hs5 := HB5.out.size
                have hs6 := HB6.out.size
                refine .inl ⟨⟨w6.heap.size, m0, m1, L1, d1, rs1, L2, d2, rs2, 0⟩, rfl, ⟨xa, xb, xc, xd, HSE.out, HNN.out.1, HNN.out.2, decP_okR HD1.out rfl, HO2.out, (show rs2.length ≤ 64 by have := HL2.out; omega)⟩, rfl, ⟨?_, (show w.heap.size ≤ w6.heap.size by omega), ?_, ?_, ?_⟩, belowT' (belowT' HB3.out HB6.out) hb6⟩
                · have := Cl.new w6 #[.int .u64 (m0 : Int), .int .u64 (m1 : Int), .slice L1 l1 d1, .slice L2 l2 d2, .int .u64 0] 164
                  have e0 : (Value.int .u64 0) = .int .u64 ((0 : Nat) : Int) := rfl
                  rw [← HL1.out, ← HL2.out] at this ⊢
                  rw [e0] at this ⊢
                  exact this
                · exact ((rgAt_row HR1.out (show w.heap.size ≤ wr.heap.size by omega)).below HR2.out.bel).below hb6
                · exact (rgAt_row HR2.out (show w.heap.size ≤ w5.heap.size by omega)).below hb6
                · unfold Ob.rows
                  rw [List.nodup_append]
                  refine ⟨by cases blk L1 <;> simp, by cases blk L2 <;> simp, fun a ha b hb e => ?_⟩
                  simp only [Option.mem_toList] at ha hb
                  have h1 := (HR1.out.own.lt a ha).2
                  have h2 := (HR2.out.own.lt b hb).1
                  omega)
              go_wp2_with fail
              go_ret2
              exact HF.out
          · have te : (e2 != 0) = true := by simpa using he2
            have hd := decP_er HD2.out he2
            have HF := Lib.hid (HBAD.out e2 w6 HB6.out hd.1 (fun s q hs ar h => hd.2 ar h.2.2.2.1))
            clear hd
            go_wp2_with fail
            go_ret2
            exact HF.out
        · have te : (e1 != 0) = true := by simpa using he1
          have hd := decP_er HD1.out he1
          have HF := Lib.hid (HBAD.out e1 w5 HB5.out hd.1 (fun s q hs ar h => hd.2 hs h.2.2.1))
          clear hd
          go_wp2_with fail
          go_ret2
          exact HF.out
  · have ts : (se != 0) = true := by simpa using hs0
    have hd := splitB_none (p := p) (k := 4) (by rw [HSE.out]; exact hs0)
    have hse : Er se := by
      have := splitB_er p 4
      rw [HSE.out] at this
      exact this.resolve_left hs0
    have HF : Hid (RetDo w p (.returned (.tuple #[.pointer none, .int .i64 se])) w3) := Lib.hid (RetDo.bad HB3.out hse (fun s q hs ar ⟨a, b, c, d, h1, _⟩ => by rw [h1] at hd; cases hd))
    clear hsv hrs hd hse hs0
    go_wp2_with fail
    go_ret2
    exact HF.out
end
end Go.Proofs.Ytmpdenpopokigaa
namespace Go.Proofs.Ytmpdenpopokigaa
open Go Go.RowKit

/-- An owner is given a turn. -/
def turnO (o : Ob) (t : Nat) : Ob := { o with turn := t }
theorem tk_turnO {w : World} {bs p : Nat} {OA : Option Addr} {oc turns t : Nat} {os : List Ob} {o : Ob} (h : TkAt w bs p OA oc turns os) (ho : o ∈ os) :
    TkAt (w.setCell ⟨o.b, 4, none⟩ (.int .u64 (t : Int))) bs p OA oc turns (updO os (turnO o t)) ∧ Fr w (w.setCell ⟨o.b, 4, none⟩ (.int .u64 (t : Int))) (tbl p OA os) := by
  have hoo := h.obs o ho
  have hf : Fr w (w.setCell ⟨o.b, 4, none⟩ (.int .u64 (t : Int))) [o.b] := Fr.set _ _ _ _
  have hnb : NoBy w [o.b] := NoBy.cl hoo.cl (by decide)
  have hx : ObAt (w.setCell ⟨o.b, 4, none⟩ (.int .u64 (t : Int))) bs (turnO o t) := by
    refine ⟨hoo.cl.set 4 _, hoo.ge, ?_, ?_, hoo.nd⟩
    · refine hoo.hR.fr hf (fun b hb hm => ?_) hnb
      obtain rfl : b = o.b := by simpa using hm
      exact hoo.hR.ne_cl hoo.cl (by decide) hb
    · refine hoo.aR.fr hf (fun b hb hm => ?_) hnb
      obtain rfl : b = o.b := by simpa using hm
      exact hoo.aR.ne_cl hoo.cl (by decide) hb
  exact ⟨h.upd ho (hf.mono (fun b hb => .inl (by simp at hb; simp [hb]))) hx rfl (fun b hb => .inl hb), hf.mono (fun b hb => .inl (mem_tbl.2 (.inr (.inr ⟨o, ho, .inl (by simpa using hb)⟩))))⟩
/-- Places written one behind the other. -/
def lnB (pl : List Nat) : List UInt8 := pl.flatMap putU
theorem lnB_snoc (pl : List Nat) (k : Nat) : lnB (pl ++ [k]) = lnB pl ++ putU k := by simp [lnB]
/-- Those at these places are given turns. -/
inductive Ln (os0 : List Ob) : List Nat → Nat → List Ob → Prop
  | start : Ln os0 [] 0 os0
  | put {pl : List Nat} {t k : Nat} {os : List Ob} {o : Ob} : Ln os0 pl t os → os[k]? = some o → o.turn = 0 → Ln os0 (pl ++ [k]) (t + 1) (updO os (turnO o (t + 1)))
theorem Ln.bs {os0 os : List Ob} {pl : List Nat} {t : Nat} (h : Ln os0 pl t os) : os.map (·.b) = os0.map (·.b) := by
  induction h with
  | start => rfl
  | put _ _ _ ih => rw [updO_bs]; exact ih
theorem Ln.len {os0 os : List Ob} {pl : List Nat} {t : Nat} (h : Ln os0 pl t os) : os.length = os0.length := by
  have := congrArg List.length h.bs
  simpa using this
theorem Ln.cnt {os0 os : List Ob} {pl : List Nat} {t : Nat} (h : Ln os0 pl t os) : t = pl.length := by
  induction h with
  | start => rfl
  | put _ _ _ ih => rw [List.length_append, ih]; rfl
theorem Ln.lt {os0 os : List Ob} {pl : List Nat} {t : Nat} (h : Ln os0 pl t os) : ∀ k ∈ pl, k < os0.length := by
  induction h with
  | start => intro k hk; cases hk
  | put h1 h2 _ ih =>
    intro k hk
    rcases List.mem_append.1 hk with hk | hk
    · exact ih k hk
    · rw [List.mem_singleton.1 hk]
      have := (List.getElem?_eq_some_iff.1 h2).1
      rw [h1.len] at this
      exact this
theorem Ln.tbl {os0 os : List Ob} {pl : List Nat} {t p : Nat} {OA : Option Addr} (h : Ln os0 pl t os) : ∀ b ∈ tbl p OA os, b ∈ tbl p OA os0 := by
  induction h with
  | start => exact fun b hb => hb
  | @put pl t k os o h1 h2 h3 ih =>
    intro b hb
    rcases mem_tbl.1 hb with hb | hb | ⟨u, hu, hb⟩
    · exact mem_tbl.2 (.inl hb)
    · exact mem_tbl.2 (.inr (.inl hb))
    · refine ih b (mem_tbl.2 (.inr (.inr ?_)))
      rcases updO_mem hu with ⟨rfl, _⟩ | ⟨hu, _⟩
      · exact ⟨o, List.mem_of_getElem? h2, hb⟩
      · exact ⟨u, hu, hb⟩
theorem updO_get {os : List Ob} {x u : Ob} {m : Nat} (h : (updO os x)[m]? = some u) : ∃ v, os[m]? = some v ∧ ((v.b = x.b ∧ u = x) ∨ (v.b ≠ x.b ∧ u = v)) := by
  unfold updO at h
  rw [List.getElem?_map] at h
  cases hv : os[m]? with
  | none => rw [hv] at h; cases h
  | some v =>
    rw [hv] at h
    injection h with h
    have h : (if v.b = x.b then x else v) = u := h
    refine ⟨v, rfl, ?_⟩
    by_cases e : v.b = x.b
    · rw [if_pos e] at h; exact .inl ⟨e, h.symm⟩
    · rw [if_neg e] at h; exact .inr ⟨e, h.symm⟩
theorem nd_get {os : List Ob} (hn : (os.map (·.b)).Nodup) {i j : Nat} {a c : Ob} (hi : os[i]? = some a) (hj : os[j]? = some c) (e : a.b = c.b) : i = j := by
  have h1 : (os.map (·.b))[i]? = some a.b := by rw [List.getElem?_map, hi]; rfl
  have h2 : (os.map (·.b))[j]? = some c.b := by rw [List.getElem?_map, hj]; rfl
  have hi' := (List.getElem?_eq_some_iff.1 h1).1
  exact (List.getElem?_inj hi' hn).1 (by rw [h1, h2, e])
theorem Ln.turned {os0 os : List Ob} {pl : List Nat} {t : Nat} (h : Ln os0 pl t os) (h0 : ∀ u ∈ os0, u.turn = 0) (hn : (os0.map (·.b)).Nodup) : ∀ m u, os[m]? = some u → u.turn ≠ 0 → m ∈ pl := by
  induction h with
  | start => exact fun m u hu ht => absurd (h0 u (List.mem_of_getElem? hu)) ht
  | @put pl t k os o h1 h2 h3 ih =>
    intro m u hu ht
    obtain ⟨v, hv, ⟨e, _⟩ | ⟨_, e⟩⟩ := updO_get hu
    · have : m = k := nd_get (by rw [h1.bs]; exact hn) hv h2 e
      rw [this]; simp
    · rw [e] at ht
      exact List.mem_append_left _ (ih m v hv ht)
theorem putU_ne (n : Nat) : putU n ≠ [] := fun h => by
  have := putU_pos n
  rw [h] at this
  simp at this
theorem putU_inj {a b : Nat} {x y : List UInt8} (ha : a < B64) (hb : b < B64) (h : putU a ++ x = putU b ++ y) : a = b ∧ x = y := by
  have h1 := getU_at [] x a ha
  have h2 := getU_at [] y b hb
  rw [List.nil_append] at h1 h2
  rw [h, h2] at h1
  injection h1 with h1 _
  subst h1
  exact ⟨rfl, List.append_cancel_left h⟩
theorem lnB_split : ∀ {pl pl' : List Nat} {r : List UInt8}, (∀ k ∈ pl, k < B64) → (∀ k ∈ pl', k < B64) → r ≠ [] → lnB pl ++ r = lnB pl' → ∃ k tl, pl' = pl ++ k :: tl ∧ r = putU k ++ lnB tl
  | [], pl', r, _, _, hr, h => by
    cases pl' with
    | nil => exact absurd h hr
    | cons k tl => exact ⟨k, tl, rfl, by simpa [lnB] using h⟩
  | a :: pl, pl', r, h1, h2, hr, h => by
    cases pl' with
    | nil =>
      simp [lnB] at h
      exact absurd h.1 (putU_ne a)
    | cons b tl =>
      have e : putU a ++ (lnB pl ++ r) = putU b ++ lnB tl := by simpa [lnB] using h
      obtain ⟨rfl, e2⟩ := putU_inj (h1 a (by simp)) (h2 b (by simp)) e
      obtain ⟨k, t2, h3, h4⟩ := lnB_split (fun k hk => h1 k (List.mem_cons_of_mem _ hk)) (fun k hk => h2 k (List.mem_cons_of_mem _ hk)) hr e2
      exact ⟨k, t2, by rw [h3]; rfl, h4⟩
/-- 'No places are written so.' -/
def LnNo (os : List Ob) (line : List UInt8) : Prop := ∀ pl', line = lnB pl' → pl'.Nodup → (∀ k ∈ pl', k < os.length) → False
theorem ln_bad {os : List Ob} {pl : List Nat} {line r : List UInt8} (hl : line = lnB pl ++ r) (hr : r ≠ []) (hB : os.length ≤ B64) (hp : ∀ k ∈ pl, k < os.length)
    (h : (getU line ((lnB pl).length : Int)).2.2 ≠ 0 ∨ os.length ≤ (getU line ((lnB pl).length : Int)).1 ∨ (getU line ((lnB pl).length : Int)).1 ∈ pl) : LnNo os line := fun pl' h1 h2 h3 => by
  rw [hl] at h1
  obtain ⟨k, tl, rfl, rfl⟩ := lnB_split (fun k hk => Nat.lt_of_lt_of_le (hp k hk) hB) (fun k hk => Nat.lt_of_lt_of_le (h3 k hk) hB) hr h1
  have hk := h3 k (by simp)
  have hg := getU_at (lnB pl) (lnB tl) k (Nat.lt_of_lt_of_le hk hB)
  rw [hl, hg] at h
  rcases h with h | h | h
  · exact h rfl
  · have h : os.length ≤ k := h; omega
  · have h : k ∈ pl := h
    exact (List.nodup_append.1 h2).2.2 k h k (by simp) rfl
theorem lnB_len : ∀ pl : List Nat, pl.length ≤ (lnB pl).length
  | [] => Nat.zero_le _
  | k :: pl => by
    have h1 := lnB_len pl
    have h2 := putU_pos k
    have h3 : lnB (k :: pl) = putU k ++ lnB pl := by simp [lnB]
    rw [h3, List.length_append, List.length_cons]
    omega
def RetLu (w : World) (bs p : Nat) (OA : Option Addr) (oc : Nat) (os : List Ob) (line : List UInt8) (e : Ending) (w' : World) : Prop := ∃ (ee : Int) (t : Nat) (os' : List Ob) (pl : List Nat), e = .returned (.int .i64 ee) ∧ TkAt w' bs p OA oc t os' ∧ Fr w w' (tbl p OA os) ∧ Ln os pl t os' ∧ ((ee = 0 ∧ line = lnB pl) ∨ (Er ee ∧ LnNo os line))
theorem RetLu.out {w : World} {bs p : Nat} {OA : Option Addr} {oc : Nat} {os : List Ob} {line : List UInt8} {e : Ending} {w' : World} (h : RetLu w bs p OA oc os line e w') : ∃ (ee : Int) (t : Nat) (os' : List Ob) (pl : List Nat), e = .returned (.int .i64 ee) ∧ TkAt w' bs p OA oc t os' ∧ Fr w w' (tbl p OA os) ∧ Ln os pl t os' ∧ ((ee = 0 ∧ line = lnB pl) ∨ (Er ee ∧ LnNo os line)) := h
section
variable {w : World} {bs p : Nat} {OA : Option Addr} {oc n c base : Nat} {os : List Ob} {A : Option Addr} {line : List UInt8}
set_option maxRecDepth 100000 in
set_option maxHeartbeats 16000000 in
theorem lineUp_any (h : TkAt w bs p OA oc 0 os) (hn : os.length ≤ 1099511627776) (h0 : ∀ u ∈ os, u.turn = 0) (hl : Own 5 w base A n c line) (hln : n ≤ 16777216) : Calls Try.prog 94 #[.pointer (some ⟨p, 0, none⟩), .slice A n c] w (RetLu w bs p OA oc os line) := by
  have HT := Lib.hid h
  have HN := Lib.hid hn
  have H0 := Lib.hid h0
  have HND : Hid ((os.map (·.b)).Nodup) := Lib.hid (by
    unfold List.Nodup
    rw [List.pairwise_map]
    exact h.dis.imp (fun h => h.1))
  have HLL : Hid (line.length = n) := Lib.hid hl.len
  have HLN : Hid (∀ wx, Fr w wx (tbl p OA os) → Own 5 wx base A n c line) := Lib.hid (fun wx hf => hl.fr hf (fun b hb hm => h.noBy b hm _ _ _ _ _ hl hb))
  have hnc := hl.cap.1
  have HB64 : Hid (os.length ≤ B64) := Lib.hid (by unfold B64; omega)
  obtain ⟨on, hon⟩ : ∃ on, on = os.length := ⟨_, rfl⟩
  have HON := Lib.hid hon
  have hon2 : on ≤ 1099511627776 := by omega
  clear h h0 hl hn hon
  go_enter Try.func94, Try.ntmps94
  go_wp2_with fail
  go_loopw [5] (fun s5 wr => ∃ (at_ t : Nat) (pl : List Nat) (os' : List Ob) (r : List UInt8), s5 = .int .i64 (at_ : Int) ∧ at_ ≤ n ∧ at_ = (lnB pl).length ∧ line = lnB pl ++ r ∧ Ln os pl t os' ∧ TkAt wr bs p OA oc t os' ∧ Fr w wr (tbl p OA os)) (fun s _ => n - (intOf s).toNat)
  case atStart => exact ⟨0, 0, [], os, line, rfl, Nat.zero_le _, rfl, rfl, .start, HT.out, Fr.refl _ _⟩
  case round =>
    obtain ⟨at_, t, pl, os', r, rfl, han, hat, hline, hLn, hT, hF⟩ := hrel
    have HL := Lib.hid hLn
    have HTr := Lib.hid hT
    have HF := Lib.hid hF
    have HLI := Lib.hid hline
    have HAT := Lib.hid hat
    have hol : os'.length = on := by rw [hLn.len, HON.out]
    have HOL := Lib.hid hol
    by_cases hlt : at_ < n
    · have hown := HLN.out wr hF
      have HG := Lib.hid (GetU_any A n c line (at_ : Int) wr hown.rd (by omega) hnc)
      obtain ⟨m, nx, ee, hg⟩ : ∃ m nx ee, getU line (at_ : Int) = (m, nx, ee) := ⟨_, _, _, rfl⟩
      rw [hg] at HG
      have HGE := Lib.hid hg
      have her : Hid (ee = 0 ∨ Er ee) := Lib.hid (by
        have := getU_er (xs := line) (k := at_) (by have := HLL.out; omega)
        rw [hg] at this
        exact this)
      have HRN : Hid (r ≠ []) := Lib.hid (fun e => by
        rw [e, List.append_nil] at hline
        have := HLL.out
        rw [hline, ← hat] at this
        omega)
      have HBAD : Hid (∀ (e3 : Int) (wx : World), Er e3 → (ee ≠ 0 ∨ os.length ≤ m ∨ m ∈ pl) → TkAt wx bs p OA oc t os' → Fr w wx (tbl p OA os) → RetLu w bs p OA oc os line (.returned (.int .i64 e3)) wx) := Lib.hid (fun e3 wx he hh ht hf => ⟨e3, t, os', pl, rfl, ht, hf, HL.out, .inr ⟨he, ln_bad HLI.out HRN.out HB64.out HL.out.lt (by rw [← HAT.out, HGE.out]; exact hh)⟩⟩)
      have k0 := hT.k0
      rw [hol] at k0
      clear hLn hline hat hol hown hg
      by_cases he : ee = 0
      · subst he
        obtain ⟨kk, kk', e1, e2, e3, e4, e5, e6⟩ := getU_ok HGE.out
        obtain rfl : kk = at_ := by omega
        subst e2
        have hpos : kk < kk' := by
          have := congrArg List.length e5
          rw [List.length_drop, List.length_take, Nat.min_eq_left e4] at this
          have := putU_pos m
          omega
        have hkn : kk' ≤ n := by have := HLL.out; omega
        have hmw : IntKind.u64.wrap (on : Int) = (on : Int) := by rw [IntKind.wrap_u64]; omega
        by_cases hm : on ≤ m
        · have HR := Lib.hid (HBAD.out 3 wr (.inl rfl) (.inr (.inl (by rw [← HON.out]; exact hm))) hT hF)
          clear hT hF
          go_wp2_with fail
          with_reducible refine HG.out.mono ?_
          rintro e w5 ⟨rfl, rfl⟩
          go_wp2_with fail
          go_ret
          exact HR.out
        · obtain ⟨b, off, hOA, hbl⟩ := hT.rob.1.pos (by rw [HOL.out]; omega)
          subst hOA
          obtain ⟨o, ho, c0, hob⟩ := hT.rob.at_ m (by rw [HOL.out]; omega)
          have hom := List.mem_of_getElem? ho
          have c4 := hob.k4
          by_cases ht : o.turn = 0
          · have htl : t ≤ 16777216 := by
              have h1 := HL.out.cnt
              have h2 := lnB_len pl
              have h3 := HAT.out
              omega
            obtain ⟨t2, ht2⟩ : ∃ t2, t2 = t + 1 := ⟨_, rfl⟩
            have et : IntKind.u64.wrap ((t : Int) + 1) = (t2 : Int) := by rw [IntKind.wrap_u64]; omega
            have k1 := hT.k1
            have f1 := hT.cl.thaw 1
            obtain ⟨W8, hW8⟩ : ∃ W8, W8 = wr.setCell ⟨p, 1, none⟩ (.int .u64 (t2 : Int)) := ⟨_, rfl⟩
            have hT8 : TkAt W8 bs p (some ⟨b, off, none⟩) oc t2 os' := by rw [hW8]; exact tk_turns hT
            have hF8 : Fr w W8 (tbl p (some ⟨b, off, none⟩) os) := by
              rw [hW8]
              refine hF.trans (Fr.set wr p 1 _) (fun b hb => ?_)
              obtain rfl : b = p := by simpa using hb
              exact .inl (mem_tbl.2 (.inl rfl))
            obtain ⟨hT9, hF9⟩ := tk_turnO (t := t2) hT8 hom
            have HQ : Hid (TkAt (W8.setCell ⟨o.b, 4, none⟩ (.int .u64 (t2 : Int))).drew bs p (some ⟨b, off, none⟩) oc t2 (updO os' (turnO o t2)) ∧ Fr w (W8.setCell ⟨o.b, 4, none⟩ (.int .u64 (t2 : Int))).drew (tbl p (some ⟨b, off, none⟩) os)) := Lib.hid ⟨hT9.below ((Below.refl _ _).drew), (hF8.trans hF9 (fun b hb => .inl (HL.out.tbl b hb))).trans (Fr.of_below ((Below.refl _ _).drew) []) (fun b hb => by cases hb)⟩
            have HLN2 : Hid (Ln os (pl ++ [m]) t2 (updO os' (turnO o t2))) := Lib.hid (by rw [ht2]; exact .put HL.out ho ht)
            have HLI2 : Hid (kk' = (lnB (pl ++ [m])).length ∧ ∃ r2, line = lnB (pl ++ [m]) ++ r2) := Lib.hid (by
              rw [lnB_snoc, List.length_append]
              have h5 := congrArg List.length e5
              rw [List.length_drop, List.length_take, Nat.min_eq_left e4] at h5
              have h6 := HAT.out
              refine ⟨by omega, line.drop kk', ?_⟩
              have h7 : line.take kk' = lnB pl ++ putU m := by
                rw [← e5]
                have h8 : (line.take kk').take kk = lnB pl := by
                  rw [List.take_take, Nat.min_eq_left (by omega), HLI.out, h6, List.take_left]
                rw [← h8, List.take_append_drop]
              rw [← h7, List.take_append_drop])
            have hd : Below W8.heap.size W8 W8.drew := (Below.refl _ _).drew
            have p0 := (hT8.below hd).k0
            rw [HOL.out] at p0
            have p1 := (hT8.below hd).k1
            obtain ⟨o', ho', q0, hob'⟩ := (hT8.below hd).rob.at_ m (by rw [HOL.out]; omega)
            obtain rfl : o' = o := by rw [ho] at ho'; injection ho' with ho'; exact ho'.symm
            have q4 := hob'.k4
            have g4 := hob'.cl.thaw 4
            rw [ht] at c4 q4
            obtain ⟨ob, hxb⟩ : ∃ ob, ob = o'.b := ⟨_, rfl⟩
            rw [← hxb] at c0 c4 q0 q4 g4
            have HXB := Lib.hid hxb
            have HW8 := Lib.hid hW8
            clear hT hF hT8 hF8 hT9 hF9 hob hob' ho ho' hom hW8 hxb ht2
            go_wp2_with fail
            with_reducible refine HG.out.mono ?_
            rintro e w5 ⟨rfl, rfl⟩
            go_upto_region 9 with (fail)
            rw [← HW8.out]
            have hml : m < on := by omega
            have hmi : (m : Int) < (on : Int) := by omega
            go_region_law (fail)
            all_goals
              rw [HXB.out]
              clear k0 k1 f1 c0 c4 p0 p1 q0 q4 g4
              go_wp2_with fail
              go_roundw
              case rel =>
                obtain ⟨q1, r2, q2⟩ := HLI2.out
                exact ⟨kk', t2, _, _, r2, rfl, by omega, q1, q2, HLN2.out, HQ.out.1, HQ.out.2⟩
              case measure => simp [intOf]; omega
          · have HR := Lib.hid (HBAD.out 3 wr (.inl rfl) (.inr (.inr (HL.out.turned H0.out HND.out m o ho ht))) hT hF)
            have hp : 0 < o.turn := by omega
            obtain ⟨ot, hot⟩ : ∃ ot, ot = o.turn := ⟨_, rfl⟩
            obtain ⟨ob, hxb⟩ : ∃ ob, ob = o.b := ⟨_, rfl⟩
            rw [← hot] at c4 hp
            rw [← hxb] at c0 c4
            clear hT hF hob ho hom ht hot hxb
            go_wp2_with fail
            with_reducible refine HG.out.mono ?_
            rintro e w5 ⟨rfl, rfl⟩
            go_wp2_with fail
            go_ret
            exact HR.out
      · have te : (ee != 0) = true := by simpa using he
        have HR := Lib.hid (HBAD.out ee wr (her.out.resolve_left he) (.inl he) hT hF)
        clear hT hF
        go_wp2_with fail
        with_reducible refine HG.out.mono ?_
        rintro e w5 ⟨rfl, rfl⟩
        go_wp2_with fail
        go_ret
        exact HR.out
    · have HR : Hid (RetLu w bs p OA oc os line (.returned (.int .i64 0)) wr) := Lib.hid ⟨0, t, os', pl, rfl, hT, hF, hLn, .inl ⟨rfl, by
        have h1 : at_ = n := by omega
        have h2 := congrArg List.length hline
        rw [List.length_append, HLL.out, ← hat] at h2
        have h3 : r = [] := List.eq_nil_of_length_eq_zero (by omega)
        rw [hline, h3, List.append_nil]⟩⟩
      clear hT hF
      go_wp2_with fail
      go_ret
      exact HR.out
end
end Go.Proofs.Ytmpdenpopokigaa
namespace Go.Proofs.Ytmpdenpopokigaa
open Go Go.RowKit

/-- Of one name, or in each other's way. -/
def sameO (o u : Ob) : Bool := (((u.s : Int) == (o.s : Int)) && ((u.q : Int) == (o.q : Int))) || clashR u.held o.held
section
variable {w : World} {bs bx : Nat} {o u : Ob}
set_option maxRecDepth 100000 in
set_option maxHeartbeats 8000000 in
theorem right1_any (hb : Cl w bx #[.pointer (some ⟨o.b, 0, none⟩)] 157) (ho : ObAt w bs o) (hu : ObAt w bs u) (so : ObSz o) (su : ObSz u) : Calls Try.prog 137 #[.pointer (some ⟨u.b, 0, none⟩), .pointer (some ⟨bx, 0, none⟩)] w (RetT w (sameO o u)) := by
  obtain ⟨ob, hob⟩ : ∃ ob, ob = o.b := ⟨_, rfl⟩
  obtain ⟨ub, hub⟩ : ∃ ub, ub = u.b := ⟨_, rfl⟩
  obtain ⟨on, hon⟩ : ∃ on, on = o.held.length := ⟨_, rfl⟩
  obtain ⟨un, hun⟩ : ∃ un, un = u.held.length := ⟨_, rfl⟩
  have HK : Hid (∀ wx, Below w.heap.size w wx → wx.cell? ⟨bx, 0, none⟩ = some (.pointer (some ⟨ob, 0, none⟩)) ∧ wx.cell? ⟨ob, 0, none⟩ = some (.int .u64 (o.s : Int)) ∧ wx.cell? ⟨ob, 1, none⟩ = some (.int .u64 (o.q : Int)) ∧ wx.cell? ⟨ob, 2, none⟩ = some (.slice o.hA on o.hc) ∧ wx.cell? ⟨ub, 0, none⟩ = some (.int .u64 (u.s : Int)) ∧ wx.cell? ⟨ub, 1, none⟩ = some (.int .u64 (u.q : Int)) ∧ wx.cell? ⟨ub, 2, none⟩ = some (.slice u.hA un u.hc)) := Lib.hid (fun wx h => by
    rw [hob, hub, hon, hun]
    exact ⟨(hb.below h).cell 0, (ho.below h).k0, (ho.below h).k1, (ho.below h).k2, (hu.below h).k0, (hu.below h).k1, (hu.below h).k2⟩)
  have HCL : Hid (∀ wx, Below w.heap.size w wx → Calls Try.prog 138 #[.slice u.hA un u.hc, .slice o.hA on o.hc] wx (RetT wx (clashR u.held o.held))) := Lib.hid (fun wx h => by
    rw [hon, hun]
    exact clash_any (hu.below h).hR.rd su.1 (ho.below h).hR.rd so.1)
  obtain ⟨z, hz⟩ : ∃ z, z = (((u.s : Int) == (o.s : Int)) && ((u.q : Int) == (o.q : Int))) := ⟨_, rfl⟩
  obtain ⟨cz, hcz⟩ : ∃ cz, cz = clashR u.held o.held := ⟨_, rfl⟩
  have heq := eqTxn (u.s : Int) (u.q : Int) (o.s : Int) (o.q : Int)
  rw [← hz] at heq
  rw [← hcz] at HCL
  have HZ : Hid (sameO o u = (z || cz)) := Lib.hid (by unfold sameO; rw [hz, hcz])
  rw [← hub]
  obtain ⟨k0, k1, k2, k3, k4, k5, k6⟩ := HK.out w (Below.refl _ _)
  clear hb ho hu so su hob hub hon hun hz hcz
  cases z with
  | true =>
    go_enter Try.func137, Try.ntmps137
    go_wp2_with fail
    go_quiet (fail)
    clear heq
    go_wp2_with fail
    go_ret
    exact ⟨by rw [HZ.out]; rfl, below_drewN (Below.refl _ _) nq⟩
  | false =>
    have hD0 : Below w.heap.size w w.drew := (Below.refl _ _).drew
    have hS0 := HK.out _ hD0
    go_enter Try.func137, Try.ntmps137
    go_wp2_with fail
    clear k0 k1 k2 k3 k4 k5 k6
    go_region_held3 (fun wx => wx.cell? ⟨bx, 0, none⟩ = some (.pointer (some ⟨ob, 0, none⟩)) ∧ wx.cell? ⟨ob, 0, none⟩ = some (.int .u64 (o.s : Int)) ∧ wx.cell? ⟨ob, 1, none⟩ = some (.int .u64 (o.q : Int)) ∧ wx.cell? ⟨ob, 2, none⟩ = some (.slice o.hA on o.hc) ∧ wx.cell? ⟨ub, 0, none⟩ = some (.int .u64 (u.s : Int)) ∧ wx.cell? ⟨ub, 1, none⟩ = some (.int .u64 (u.q : Int)) ∧ wx.cell? ⟨ub, 2, none⟩ = some (.slice u.hA un u.hc)) (first | assumption | exact HK.out _ hD0)
      (first | (go_at_call 138; with_reducible refine (HCL.out _ (by assumption)).mono ?_; intro e1 wn hq; obtain ⟨h1, bn⟩ := RetT.outD hq; subst h1; have bn' := belowT' (by assumption : Below w.heap.size w _) bn; have hS1 := HK.out _ bn'))
    all_goals
      have HBN := Lib.hid (by assumption : Below w.heap.size w wn)
      clear heq
      go_wp2_with fail
      go_ret
      exact ⟨by rw [HZ.out]; rfl, HBN.out⟩
end
end Go.Proofs.Ytmpdenpopokigaa
namespace Go.Proofs.Ytmpdenpopokigaa
open Go Go.RowKit

section
open Go.Sort Go.Proofs
variable {α : Type} [Inhabited α]
theorem heap_pr (enc : α → Value) {w : World} {g q : Nat} {cur : Array Value} {e : TypeId} {fr : Nat × Nat} (d : Array α) (hb : w.heap[g]? = some (.cells cur e fr)) : (putRow enc (Sort.ahead w q) g 0 d).heap[g]? = some (.cells (putCells enc 0 d cur) e fr) := by
  simp [putRow, mapBlock, Sort.ahead, Array.getElem?_modify, hb, onCells]
theorem fr_pr (enc : α → Value) {w : World} {g q : Nat} (d : Array α) : Fr w (putRow enc (Sort.ahead w q) g 0 d) [g] := by
  refine Fr.of_grown (row := some g) ⟨rfl, rfl, rfl, by simp [putRow, mapBlock, Sort.ahead], fun k hk hne => ?_⟩ (fun b hb => by simpa using hb.symm)
  have hgk : g ≠ k := fun e => hne (by rw [e])
  simp [putRow, mapBlock, Sort.ahead, Array.getElem?_modify, hgk]
theorem own_pr (enc : α → Value) {w : World} {t : TypeId} {base g n m c q : Nat} {l : List α} {k rest : List α} (h : OwnV t w base (some ⟨g, 0, none⟩) n c (l.map enc)) (hk : k.length = m) (hm : m + rest.length ≤ n) : OwnV t (putRow enc (Sort.ahead w q) g 0 (k ++ rest).toArray) base (some ⟨g, 0, none⟩) m c (k.map enc) := by
  rcases h.2 with ⟨h1, _⟩ | ⟨g', cap, cur, h1, hb, hg, h2, h3, h4, h5⟩
  · injection h1 with h1; cases h1
  · injection h1 with h1 _ h7
    injection h1 with h1
    injection h1 with h1
    subst h1 h7
    refine ⟨by simp [hk], .inr ⟨g, c, _, rfl, hb, heap_pr enc _ hg, by omega, h3, by simp [putCells, h4], ?_⟩⟩
    apply List.ext_getElem?
    intro j
    by_cases hj : j < m
    · rw [List.getElem?_take_of_lt (by omega), Array.getElem?_toList]
      have h6 : (k ++ rest)[j]? = k[j]? := List.getElem?_append_left (by omega)
      simp [putCells, show j < k.length + rest.length by omega, show j < cur.size by omega, show j < k.length by omega]
    · rw [List.getElem?_take_eq_none (by omega), List.getElem?_eq_none (by simp; omega)]
end
theorem ptO_one : Go.Proofs.OneCell ptO := fun _ => rfl
theorem zero_po (w : World) : (zeroValue 157).run Try.prog w = .ok (ptO none) w := by kernel_rfl
/-- What Delete of one comes to. -/
def RetD1 (w : World) (base : Nat) (A : Option Addr) (n c : Nat) (os : List Ob) (i : Nat) (e : Ending) (w' : World) : Prop := e = .returned (.slice A (n - 1) c) ∧ OwnV 157 w' base A (n - 1) c ((os.eraseIdx i).map obP) ∧ Fr w w' (blk A).toList
theorem RetD1.out {w : World} {base : Nat} {A : Option Addr} {n c : Nat} {os : List Ob} {i : Nat} {e : Ending} {w' : World} (h : RetD1 w base A n c os i e w') : e = .returned (.slice A (n - 1) c) ∧ OwnV 157 w' base A (n - 1) c ((os.eraseIdx i).map obP) ∧ Fr w w' (blk A).toList := h
theorem delete1_any {w : World} {base n c i : Nat} {A : Option Addr} {os : List Ob} (hr : OwnV 157 w base A n c (os.map obP)) (hi : i < n) : Calls Try.prog 183 #[.slice A n c, .int .i64 (i : Int), .int .i64 ((i + 1 : Nat) : Int)] w (RetD1 w base A n c os i) := by
  have hl : os.length = n := by have := hr.len; simpa using this
  have hcap := hr.cap
  obtain ⟨g, hA⟩ : ∃ g, A = some ⟨g, 0, none⟩ := by
    rcases hr.2 with ⟨h1, h2⟩ | ⟨g, cap, cur, h1, _⟩
    · omega
    · injection h1 with h1; exact ⟨g, h1⟩
  subst hA
  have he : (os.map some).map ptO = os.map obP := by rw [List.map_map]; rfl
  have hr' : OwnV 157 w base (some ⟨g, 0, none⟩) n c ((os.map some).map ptO) := by rw [he]; exact hr
  obtain ⟨i0, hi0, _, hsz, _⟩ := info_parts info_po
  have hd : (os.map some).toArray.size = n := by simp [hl]
  have h1 := lib_deleteO ptO ptO_one none zero_po i0 hi0 hsz g 0 c i (i + 1) (os.map some).toArray w (holds_own ptO hr') (by rw [hd]; exact hcap.1) (by have := hcap.2; unfold maxLen at this; omega) (by omega) (by rw [hd]; omega)
  rw [hd] at h1
  refine h1.mono ?_
  rintro e w' ⟨rfl, q, rfl⟩
  have hE : (os.map some).take i ++ (os.map some).drop (i + 1) = (os.eraseIdx i).map some := by
    rw [List.eraseIdx_eq_take_drop_succ, List.map_append, List.map_take, List.map_drop]
  have hLn : (os.eraseIdx i).length = n - 1 := by rw [List.length_eraseIdx, if_pos (by omega), hl]
  refine ⟨by rw [show i + 1 - i = 1 by omega], ?_, ?_⟩
  · have h3 := own_pr (q := q) (k := (os.eraseIdx i).map some) (rest := List.replicate (i + 1 - i) none) (m := n - 1) ptO hr' (by simp [hLn]) (by simp; omega)
    have he2 : ((os.eraseIdx i).map some).map ptO = (os.eraseIdx i).map obP := by rw [List.map_map]; rfl
    rw [he2] at h3
    have h4 : ((os.map some).toArray.toList.take i ++ (os.map some).toArray.toList.drop (i + 1) ++ List.replicate (i + 1 - i) none) = (os.eraseIdx i).map some ++ List.replicate (i + 1 - i) none := by rw [← hE]
    rw [h4]
    exact h3
  · exact fr_pr ptO _
end Go.Proofs.Ytmpdenpopokigaa
namespace Go.Proofs.Ytmpdenpopokigaa
open Go Go.RowKit

open Classical in
/-- Where nobody waits in a circle one waits for nobody. -/
theorem acy_sink {l : List Ob} (h : Acy l) (hne : l ≠ []) : ∃ u ∈ l, l.any (wfO u) = false := by
  apply Classical.byContradiction
  intro hno
  have hall : ∀ u ∈ l, l.any (wfO u) = true := fun u hu => by
    cases e : l.any (wfO u) with
    | true => rfl
    | false => exact absurd ⟨u, hu, e⟩ hno
  have key : ∀ n, ∀ u ∈ l, (l.filter fun x => decide (Rch wfO l u x)).length ≤ n → False := by
    intro n
    induction n with
    | zero =>
      intro u hu hl
      obtain ⟨y, hy, hw⟩ := any_wf.1 (hall u hu)
      have : y ∈ l.filter fun x => decide (Rch wfO l u x) := List.mem_filter.2 ⟨hy, by simpa using Rch.one hy hw⟩
      have := List.length_pos_of_mem this
      omega
    | succ n ih =>
      intro u hu hl
      obtain ⟨y, hy, hw⟩ := any_wf.1 (hall u hu)
      refine ih y hy ?_
      have h1 : Rch wfO l u y := .one hy hw
      have := flt_lt (p := fun x => decide (Rch wfO l y x)) (q := fun x => decide (Rch wfO l u x)) (l := l) (fun x _ hp => by
        have hp : Rch wfO l y x := by simpa using hp
        simpa using h1.trans hp) y hy (by simpa using h1) (by simpa using h y hy)
      omega
  obtain ⟨u, hu⟩ := List.exists_mem_of_ne_nil _ hne
  exact key _ u hu (Nat.le_refl _)
def mzK (s3 s4 : Value) : Nat := match s4 with
  | .bool true => lenK s3 + 1
  | _ => 0
def RetEz (w : World) (P : Prop) (e : Ending) (w' : World) : Prop := ∃ z, e = .returned (.bool z) ∧ (P → z = true) ∧ Below w.heap.size w w'
theorem RetEz.out {w : World} {P : Prop} {e : Ending} {w' : World} (h : RetEz w P e w') : ∃ z, e = .returned (.bool z) ∧ (P → z = true) ∧ Below w.heap.size w w' := h
/-- Those that are left. -/
def EzS (w : World) (os : List Ob) (LA : Option Addr) (m c : Nat) (left : List Ob) (wr : World) : Prop := OwnV 157 wr w.heap.size LA m c (left.map obP) ∧ left.length = m ∧ (∀ u ∈ left, u ∈ os) ∧ Below w.heap.size w wr
theorem EzS.below {w wr w2 : World} {os left : List Ob} {LA : Option Addr} {m c : Nat} (h : EzS w os LA m c left wr) (hb : Below wr.heap.size wr w2) : EzS w os LA m c left w2 := ⟨h.1.below hb, h.2.1, h.2.2.1, belowT' h.2.2.2 hb⟩
theorem EzS.del {w wr w2 : World} {os left : List Ob} {LA : Option Addr} {m c i : Nat} (h : EzS w os LA m c left wr) (hi : i < m) (ho : OwnV 157 w2 w.heap.size LA (m - 1) c ((left.eraseIdx i).map obP)) (hf : Fr wr w2 (blk LA).toList) : EzS w os LA (m - 1) c (left.eraseIdx i) w2 :=
  ⟨ho, by rw [List.length_eraseIdx, if_pos (by rw [h.2.1]; exact hi), h.2.1], fun u hu => h.2.2.1 u (List.mem_of_mem_eraseIdx hu), h.2.2.2.trans (hf.below (fun b hb => by
    simp only [Option.mem_toList] at hb
    exact (h.1.lt b hb).1) h.2.2.2.size)⟩
section
variable {w : World} {bs p : Nat} {OA : Option Addr} {oc turns : Nat} {os : List Ob}
set_option maxRecDepth 100000 in
set_option maxHeartbeats 16000000 in
theorem ends_any (h : TkAt w bs p OA oc turns os) (hn : os.length ≤ 1099511627776) (su : ∀ u ∈ os, ObSz u) : Calls Try.prog 140 #[.pointer (some ⟨p, 0, none⟩)] w (RetEz w (Acy os)) := by
  have HQ := Lib.hid (queue_any h hn)
  have HT := Lib.hid h
  have HSU := Lib.hid su
  have HN := Lib.hid hn
  clear h hn su
  go_enter Try.func140, Try.ntmps140
  go_wp2_with fail
  with_reducible refine HQ.out.mono ?_
  intro e w1 hq
  obtain ⟨QA, qc, l, h1, hrow, hobs, hperm, hpw, hbel⟩ := hq.out
  subst h1
  obtain ⟨n0, hn0⟩ : ∃ n, n = l.length := ⟨_, rfl⟩
  rw [← hn0] at hrow ⊢
  have HS0 : Hid (EzS w os QA n0 qc l w1) := Lib.hid ⟨hrow, hn0.symm, fun u hu => (List.mem_filter.1 (hperm.mem_iff.1 hu)).1, hbel⟩
  have hn0b : n0 ≤ 1099511627776 := by
    rw [hn0, hperm.length_eq]
    have h1 := List.length_filter_le posO os
    have h2 := HN.out
    omega
  clear hq hrow hobs hperm hpw hbel hn0 HQ
  go_wp2_with fail
  go_loopw [3, 4] (fun s3 s4 wr => ∃ (m c : Nat) (LA : Option Addr) (left : List Ob) (tk : Bool), s3 = .slice LA m c ∧ s4 = .bool tk ∧ m ≤ n0 ∧ EzS w os LA m c left wr ∧ (tk = false → ∀ u ∈ left, left.any (wfO u) = true)) (fun s3 s4 _ => mzK s3 s4)
  case atStart => exact ⟨n0, qc, QA, l, true, rfl, rfl, Nat.le_refl _, HS0.out, fun h => by cases h⟩
  case round =>
    obtain ⟨m, c, LA, left, tk, rfl, rfl, hm, hS, htk⟩ := hrel
    have HS := Lib.hid hS
    have HTK := Lib.hid htk
    clear hS htk
    cases tk with
    | false =>
      obtain ⟨z, hz⟩ : ∃ z, z = ((m : Int) == 0) := ⟨_, rfl⟩
      have HF : Hid (RetEz w (Acy os) (.returned (.bool ((m : Int) == 0))) wr) := Lib.hid ⟨_, rfl, (fun ha => by
        rw [beq_iff_eq]
        by_cases hm0 : m = 0
        · rw [hm0]; rfl
        · exfalso
          have hne : left ≠ [] := fun e => hm0 (by rw [← HS.out.2.1, e]; rfl)
          obtain ⟨u, hu, hw⟩ := acy_sink (ha.sub HS.out.2.2.1) hne
          rw [HTK.out rfl u hu] at hw
          cases hw), HS.out.2.2.2⟩
      go_wp2_with fail
      go_ret
      exact HF.out
    | true =>
      obtain ⟨m0, hm0⟩ : ∃ m0, m0 = m := ⟨_, rfl⟩
      have HM0 := Lib.hid hm0
      have HST : Hid (EzS w os LA m c left wr) := HS
      clear hm0
      go_wp2_with fail
      go_loopw [3, 4, 5] (fun s3 s4 s5 wr => ∃ (i m c : Nat) (LA : Option Addr) (left : List Ob) (tk : Bool), s3 = .slice LA m c ∧ s4 = .bool tk ∧ s5 = .int .i64 (i : Int) ∧ i ≤ m ∧ m ≤ m0 ∧ EzS w os LA m c left wr ∧ (tk = true → m < m0) ∧ (tk = false → ∀ u ∈ left.take i, left.any (wfO u) = true)) (fun s3 _ s5 _ => lenK s3 - (intOf s5).toNat)
      case atStart => exact ⟨0, m, c, LA, left, false, rfl, rfl, rfl, Nat.zero_le _, by rw [HM0.out]; exact Nat.le_refl _, HST.out, (fun h => by cases h), fun _ u hu => by simp at hu⟩
      case round =>
        obtain ⟨i, m2, c2, LA2, left2, tk, rfl, rfl, rfl, hi, hmm, hS2, ht1, ht2⟩ := hrel
        have HS2 := Lib.hid hS2
        have HT1 := Lib.hid ht1
        have HT2 := Lib.hid ht2
        have hm2 : m2 ≤ 1099511627776 := by have := HM0.out; omega
        clear ht1 ht2
        by_cases hlt : i < m2
        · obtain ⟨b, off, hAb, hbl⟩ := hS2.1.rd.pos (by omega)
          subst hAb
          obtain ⟨v, hv, m0c⟩ := hS2.1.rd.at_ i hlt
          obtain ⟨x, hx⟩ : ∃ x, left2[i]? = some x := ⟨_, List.getElem?_eq_getElem (by rw [hS2.2.1]; exact hlt)⟩
          obtain rfl : v = obP x := by rw [List.getElem?_map, hx] at hv; injection hv with hv; exact hv.symm
          have hxm := hS2.2.2.1 x (List.mem_of_getElem? hx)
          have hTr := HT.out.below hS2.2.2.2
          obtain ⟨z, hz⟩ : ∃ z, z = left2.any (wfO x) := ⟨_, rfl⟩
          have HCO : Hid (Calls Try.prog 139 #[.slice (some ⟨b, off, none⟩) m2 c2, .func (.func 148) #[.pointer (some ⟨x.b, 0, none⟩)] #[]] wr (RetT wr z)) := Lib.hid (by
            rw [hz]
            exact containsO_any (bs := bs) (c := c2) 148 #[.pointer (some ⟨x.b, 0, none⟩)] #[] (wfO x) (fun _ _ => rfl) ⟨hS2.1.rd, fun o ho => hTr.obs o (hS2.2.2.1 o ho)⟩ hm2 (fun wx hb o ho => waitsFor_any ((hTr.obs x hxm).below hb) ((hTr.obs o (hS2.2.2.1 o ho)).below hb) (HSU.out x hxm) (HSU.out o (hS2.2.2.1 o ho))))
          have HZ := Lib.hid hz.symm
          have HX := Lib.hid hx
          have HDL : Hid (∀ wx, Below wr.heap.size wr wx → Calls Try.prog 183 #[.slice (some ⟨b, off, none⟩) m2 c2, .int .i64 (i : Int), .int .i64 ((i : Int) + 1)] wx (RetD1 wx w.heap.size (some ⟨b, off, none⟩) m2 c2 left2 i)) := Lib.hid (fun wx hb => by
            have h := delete1_any (hS2.1.below hb) hlt
            rw [show ((i + 1 : Nat) : Int) = (i : Int) + 1 by omega] at h
            exact h)
          unfold obP at m0c
          obtain ⟨xb, hxb⟩ : ∃ xb, xb = x.b := ⟨_, rfl⟩
          rw [← hxb] at HCO m0c
          clear hS2 hv hx hxm hTr hz hxb
          go_wp2_with fail
          with_reducible refine HCO.out.mono ?_
          intro e w5 hq
          obtain ⟨h1, b5⟩ := RetT.outD hq
          subst h1
          have HS5 := Lib.hid (HS2.out.below b5)
          cases z with
          | true =>
            clear hq b5 m0c HCO HDL
            have HQ : Hid (tk = false → ∀ u ∈ left2.take (i + 1), left2.any (wfO u) = true) := Lib.hid (fun h u hu => by
              rw [List.take_add_one, HX.out] at hu
              rcases List.mem_append.1 hu with hu | hu
              · exact HT2.out h u hu
              · have e : u = x := by simpa using hu
                rw [e]; exact HZ.out)
            go_wp2_with fail
            go_roundw
            case rel => exact ⟨i + 1, m2, c2, _, left2, tk, rfl, rfl, by go_num, by omega, hmm, HS5.out, HT1.out, HQ.out⟩
            case measure => simp [intOf, lenK]; omega
          | false =>
            have HDC := Lib.hid (HDL.out w5 b5)
            clear hq b5 m0c HCO HDL
            go_wp2_with fail
            with_reducible refine HDC.out.mono ?_
            intro e w6 hq
            obtain ⟨h1, ho, hf⟩ := hq.out
            subst h1
            have HS6 : Hid (EzS w os (some ⟨b, off, none⟩) (m2 - 1) c2 (left2.eraseIdx i) w6) := Lib.hid (HS5.out.del hlt ho hf)
            clear hq ho hf
            go_wp2_with fail
            go_roundw
            case rel => exact ⟨i, m2 - 1, c2, _, _, true, rfl, rfl, rfl, by omega, by omega, HS6.out, (fun _ => by omega), fun h => by cases h⟩
            case measure => simp [intOf, lenK]; omega
        · obtain rfl : i = m2 := by omega
          have HQ : Hid (tk = false → ∀ u ∈ left2, left2.any (wfO u) = true) := Lib.hid (fun h u hu => HT2.out h u (by rw [List.take_of_length_le (by rw [hS2.2.1]; exact Nat.le_refl _)]; exact hu))
          clear hS2
          go_wp2_with fail
          go_roundw
          case rel => exact ⟨i, c2, LA2, left2, tk, rfl, rfl, by have := HM0.out; omega, HS2.out, HQ.out⟩
          case measure =>
            have h1 := HT1.out
            have h2 := HM0.out
            cases tk with
            | true => have := h1 rfl; simp [mzK, lenK]; omega
            | false => simp [mzK, lenK]
end
end Go.Proofs.Ytmpdenpopokigaa
namespace Go.Proofs.Ytmpdenpopokigaa
open Go Go.RowKit

theorem cut1_hK {P : Program} {t e : TypeId} (ht : P.underlying t = some (.slice e)) (he : P.elem t = e) (hs : ∀ w, (sizeOf e).run P w = .ok 1 w)
    (A : Option Addr) {n cap m : Nat} (hm : m ≤ cap) (w : World) :
    (Instr.slice t (.slice A n cap) none (some (.int .i64 (m : Int))) none).run P w = .ok (.slice A m cap) w := by
  subst he
  rw [run_slice_h w t A n cap ht .i64 (m : Int) (by omega) (by omega)]
  simp only [hs, Result.andThen, sliced, Int.toNat_natCast, Nat.zero_mul, Nat.sub_zero]
  cases A <;> simp [Addr.add]
theorem ROb.take {w : World} {bs n k : Nat} {A : Option Addr} {os : List Ob} (h : ROb w bs A n os) (hk : k ≤ n) : ROb w bs A k (os.take k) := by
  refine ⟨⟨?_, fun h0 => ?_⟩, fun o ho => h.2 o (List.mem_of_mem_take ho)⟩
  · have := h.len
    simp
    omega
  · obtain ⟨b, off, e, hb, hc⟩ := h.1.2 (by omega)
    refine ⟨b, off, e, hb, fun i v hv => hc i v ?_⟩
    rw [List.map_take] at hv
    by_cases hi : i < k
    · rwa [List.getElem?_take_of_lt hi] at hv
    · rw [List.getElem?_take_eq_none (by omega)] at hv; cases hv
/-- What is asked of a table that is read. -/
structure RgtP (os : List Ob) : Prop where
  iff : ∀ u ∈ os, (0 < u.asked.length ↔ 0 < u.turn)
  wt : ∀ u ∈ os, 0 < u.turn → os.any (wfO u) = true
  dis : ∀ (k : Nat) (o : Ob), os[k]? = some o → (os.take k).any (sameO o) = false
  acy : Acy os
section
variable {w : World} {bs p : Nat} {OA : Option Addr} {oc turns : Nat} {os : List Ob}
set_option maxRecDepth 100000 in
set_option maxHeartbeats 16000000 in
theorem right_any (h : TkAt w bs p OA oc turns os) (hn : os.length ≤ 1099511627776) (su : ∀ u ∈ os, ObSz u) : Calls Try.prog 95 #[.pointer (some ⟨p, 0, none⟩)] w (RetEz w (RgtP os)) := by
  have HT := Lib.hid h
  have HSU := Lib.hid su
  have HN := Lib.hid hn
  obtain ⟨n, hn2⟩ : ∃ n, n = os.length := ⟨_, rfl⟩
  have HN2 := Lib.hid hn2
  have hnn : n ≤ 1099511627776 := by omega
  have hoc : n ≤ oc := by rw [hn2]; exact h.row.cap.1
  have k0 : w.cell? ⟨p, 0, none⟩ = some (.slice OA n oc) := by rw [hn2]; exact h.k0
  have HK : Hid (∀ wx, Below w.heap.size w wx → wx.cell? ⟨p, 0, none⟩ = some (.slice OA n oc)) := Lib.hid (fun wx hb => by rw [hn2]; exact (h.below hb).k0)
  clear h su hn hn2
  go_enter Try.func95, Try.ntmps95
  go_wp2_with fail
  clear k0
  go_loopw [12] (fun s12 wr => ∃ k : Nat, k ≤ n ∧ s12 = .int .i64 (k : Int) ∧ Below w.heap.size w wr) (fun s _ => n - (intOf s).toNat)
  case atStart => exact ⟨0, Nat.zero_le _, rfl, Below.refl _ _⟩
  case round =>
    obtain ⟨k, hk, rfl, hB⟩ := hrel
    have HB := Lib.hid hB
    have hT := HT.out.below hB
    by_cases hlt : k < n
    · obtain ⟨b, off, hOA, hbl⟩ := hT.rob.1.pos (by rw [← HN2.out]; omega)
      subst hOA
      obtain ⟨o, ho, m0, hob⟩ := hT.rob.at_ k (by rw [← HN2.out]; exact hlt)
      have hom := List.mem_of_getElem? ho
      obtain ⟨ob, hxb⟩ : ∃ ob, ob = o.b := ⟨_, rfl⟩
      rw [← hxb] at m0
      obtain ⟨V, hV⟩ : ∃ V, V = wr.alloc (.cells #[.pointer (some ⟨ob, 0, none⟩)] 157) := ⟨_, rfl⟩
      have bV : Below wr.heap.size wr V := by rw [hV]; exact (Below.refl _ _).alloc (Nat.le_refl _) _
      have zV : Cl V wr.heap.size #[.pointer (some ⟨ob, 0, none⟩)] 157 := by rw [hV]; exact Cl.new _ _ _
      obtain ⟨g, hg⟩ : ∃ g, g = wr.heap.size := ⟨_, rfl⟩
      rw [← hg] at zV
      have HBV := Lib.hid (belowT' hB bV)
      obtain ⟨an, han⟩ : ∃ an, an = o.asked.length := ⟨_, rfl⟩
      obtain ⟨tn, htn⟩ : ∃ tn, tn = o.turn := ⟨_, rfl⟩
      have HSC : Hid (∀ wx, Below V.heap.size V wx → wx.cell? ⟨g, 0, none⟩ = some (.pointer (some ⟨ob, 0, none⟩)) ∧ wx.cell? ⟨ob, 3, none⟩ = some (.slice o.aA an o.ac) ∧ wx.cell? ⟨ob, 4, none⟩ = some (.int .u64 (tn : Int))) := Lib.hid (fun wx hb => by
        have h1 := (HT.out.below (belowT' HBV.out hb)).obs o hom
        rw [hxb, han, htn]
        refine ⟨?_, h1.k3, h1.k4⟩
        have := (zV.below hb).cell 0
        rwa [hxb] at this)
      obtain ⟨wz, hwz⟩ : ∃ wz, wz = os.any (wfO o) := ⟨_, rfl⟩
      obtain ⟨cz, hcz⟩ : ∃ cz, cz = (os.take k).any (sameO o) := ⟨_, rfl⟩
      have HWT : Hid (∀ wx, Below V.heap.size V wx → Calls Try.prog 106 #[.pointer (some ⟨p, 0, none⟩), .pointer (some ⟨ob, 0, none⟩)] wx (RetT wx wz)) := Lib.hid (fun wx hb => by
        have h1 := HT.out.below (belowT' HBV.out hb)
        rw [hwz, hxb]
        exact waits_any h1 HN.out (h1.obs o hom) (HSU.out o hom) HSU.out)
      have HCN : Hid (∀ wx, Below V.heap.size V wx → Calls Try.prog 139 #[.slice (some ⟨b, off, none⟩) k oc, .func (.func 137) #[] #[.pointer (some ⟨g, 0, none⟩)]] wx (RetT wx cz)) := Lib.hid (fun wx hb => by
        have h1 := HT.out.below (belowT' HBV.out hb)
        rw [hcz]
        exact containsO_any (bs := bs) (c := oc) 137 #[] #[.pointer (some ⟨g, 0, none⟩)] (sameO o) (fun _ _ => rfl) (h1.rob.take (by rw [← HN2.out]; exact hk)) (by omega) (fun wy hy u hu => by
          have hum := List.mem_of_mem_take hu
          exact right1_any (by have := (zV.below hb).below hy; rwa [hxb] at this) ((h1.obs o hom).below hy) ((h1.obs u hum).below hy) (HSU.out o hom) (HSU.out u hum)))
      have hsl : ∀ w, (Instr.slice 89 (.slice (some ⟨b, off, none⟩) n oc) none (some (.int .i64 (k : Int))) none).run Try.prog w = .ok (.slice (some ⟨b, off, none⟩) k oc) w := fun w => cut1_hK Try.underlying89 elem_ow size_ow _ (by omega) w
      have HBAD : Hid (¬ RgtP os → ∀ wx, Below V.heap.size V wx → RetEz w (RgtP os) (.returned (.bool false)) wx) := Lib.hid (fun hno wx hb => ⟨false, rfl, fun h => absurd h hno, belowT' HBV.out hb⟩)
      have HNO1 : Hid (RgtP os → (0 < an ↔ 0 < tn)) := Lib.hid (fun h => by rw [han, htn]; exact h.iff o hom)
      have HNO2 : Hid (RgtP os → 0 < tn → wz = true) := Lib.hid (fun h h0 => by rw [hwz]; exact h.wt o hom (by omega))
      have HNO3 : Hid (RgtP os → cz = false) := Lib.hid (fun h => by rw [hcz]; exact h.dis k o ho)
      have k0 := HK.out V HBV.out
      obtain ⟨s0, s1, s2⟩ := HSC.out V (Below.refl _ _)
      have HV := Lib.hid hV
      have HG := Lib.hid hg
      have hD0 : Below V.heap.size V V.drew := (Below.refl _ _).drew
      have hS0 := HSC.out _ hD0
      clear hB hT ho hob hom hxb bV zV hV hg han htn hwz hcz
      go_upto_region 4 with (fail)
      rw [← HV.out, ← HG.out]
      clear m0
      go_upto_region 6 with (fail)
      -- CASES
      rcases Nat.eq_zero_or_pos an with rfl | ha <;> rcases Nat.eq_zero_or_pos tn with rfl | ht
      · cases cz with
        | true =>
          refine AnyS.begin (S := fun wx => wx.cell? ⟨g, 0, none⟩ = some (.pointer (some ⟨ob, 0, none⟩)) ∧ wx.cell? ⟨ob, 3, none⟩ = some (.slice o.aA 0 o.ac) ∧ wx.cell? ⟨ob, 4, none⟩ = some (.int .u64 0)) 29 (by kernel_rfl) hS0 (fun hHeld => ?_)
          refine AnyS.take (i := 0) (oi := _) (d := some 24) (v := ?_) rfl rfl (by kernel_rfl) (fun _ _ _ h => h) (Or.inl ⟨by rfl, ?_⟩) (by assumption) ?_
          rotate_left 1
          · intro w hSw; obtain ⟨g0, g1, g2⟩ := hSw; go_simp <;> with_reducible rfl
          try simp only [Act.put, List.setIfInBounds_toArray, List.set_cons_zero, List.set_cons_succ]
          refine AnyS.take (i := 1) (oi := _) (d := some 25) (v := ?_) rfl rfl (by kernel_rfl) (fun _ _ _ h => h) (Or.inl ⟨by rfl, ?_⟩) (by assumption) ?_
          rotate_left 1
          · intro w hSw; obtain ⟨g0, g1, g2⟩ := hSw; go_simp <;> with_reducible rfl
          try simp only [Act.put, List.setIfInBounds_toArray, List.set_cons_zero, List.set_cons_succ]
          refine AnyS.take (i := 2) (oi := _) (d := some 26) (v := ?_) rfl rfl (by kernel_rfl) (fun _ _ _ h => h) (Or.inl ⟨by rfl, ?_⟩) (by assumption) ?_
          rotate_left 1
          · intro w hSw; obtain ⟨g0, g1, g2⟩ := hSw; go_simp <;> with_reducible rfl
          try simp only [Act.put, List.setIfInBounds_toArray, List.set_cons_zero, List.set_cons_succ]
          refine AnyS.take (i := 3) (oi := _) (d := some 27) (v := ?_) rfl rfl (by kernel_rfl) (fun _ _ _ h => h) (Or.inl ⟨by rfl, ?_⟩) (by assumption) ?_
          rotate_left 1
          · intro w hSw; obtain ⟨g0, g1, g2⟩ := hSw; go_simp <;> with_reducible rfl
          try simp only [Act.put, List.setIfInBounds_toArray, List.set_cons_zero, List.set_cons_succ]
          refine AnyS.take (i := 4) (oi := _) (d := some 28) (v := ?_) rfl rfl (by kernel_rfl) (fun _ _ _ h => h) (Or.inl ⟨by rfl, ?_⟩) (by assumption) ?_
          rotate_left 1
          · intro w hSw; obtain ⟨g0, g1, g2⟩ := hSw; go_simp <;> with_reducible rfl
          try simp only [Act.put, List.setIfInBounds_toArray, List.set_cons_zero, List.set_cons_succ]
          refine AnyS.take (i := 5) (oi := _) (d := some 29) (v := ?_) rfl rfl (by kernel_rfl) (fun _ _ _ h => h) (Or.inl ⟨by rfl, ?_⟩) (by assumption) ?_
          rotate_left 1
          · intro w hSw; obtain ⟨g0, g1, g2⟩ := hSw; go_simp <;> with_reducible rfl
          try simp only [Act.put, List.setIfInBounds_toArray, List.set_cons_zero, List.set_cons_succ]
          refine AnyS.take (i := 6) (oi := _) (d := some 30) (v := ?_) rfl rfl (by kernel_rfl) (fun _ _ _ h => h) (Or.inl ⟨by rfl, ?_⟩) (by assumption) ?_
          rotate_left 1
          · intro w hSw; obtain ⟨g0, g1, g2⟩ := hSw; go_simp <;> with_reducible rfl
          try simp only [Act.put, List.setIfInBounds_toArray, List.set_cons_zero, List.set_cons_succ]
          refine AnyS.take (i := 7) (oi := _) (d := some 31) (v := ?_) rfl rfl (by kernel_rfl) (fun _ _ _ h => h) (Or.inl ⟨by rfl, ?_⟩) (by assumption) ?_
          rotate_left 1
          · intro w hSw; obtain ⟨g0, g1, g2⟩ := hSw; go_simp <;> with_reducible rfl
          try simp only [Act.put, List.setIfInBounds_toArray, List.set_cons_zero, List.set_cons_succ]
          refine AnyS.take (i := 8) (oi := _) (d := some 32) (v := ?_) rfl rfl (by kernel_rfl) (fun _ _ _ h => h) (Or.inl ⟨by rfl, ?_⟩) (by assumption) ?_
          rotate_left 1
          · intro w hSw; obtain ⟨g0, g1, g2⟩ := hSw; go_simp <;> with_reducible rfl
          try simp only [Act.put, List.setIfInBounds_toArray, List.set_cons_zero, List.set_cons_succ]
          refine AnyS.take (i := 9) (oi := _) (d := some 33) (v := ?_) rfl rfl (by kernel_rfl) (fun _ _ _ h => h) (Or.inl ⟨by rfl, ?_⟩) (by assumption) ?_
          rotate_left 1
          · intro w hSw; obtain ⟨g0, g1, g2⟩ := hSw; go_simp <;> with_reducible rfl
          try simp only [Act.put, List.setIfInBounds_toArray, List.set_cons_zero, List.set_cons_succ]
          refine AnyS.take (i := 10) (oi := _) (d := some 34) (v := ?_) rfl rfl (by kernel_rfl) (fun _ _ _ h => h) (Or.inl ⟨by rfl, ?_⟩) (by assumption) ?_
          rotate_left 1
          · intro w hSw; obtain ⟨g0, g1, g2⟩ := hSw; go_simp <;> with_reducible rfl
          try simp only [Act.put, List.setIfInBounds_toArray, List.set_cons_zero, List.set_cons_succ]
          refine AnyS.take (i := 11) (oi := _) (d := some 35) (v := ?_) rfl rfl (by kernel_rfl) (fun _ _ _ h => h) (Or.inl ⟨by rfl, ?_⟩) (by assumption) ?_
          rotate_left 1
          · intro w hSw; obtain ⟨g0, g1, g2⟩ := hSw; go_simp <;> with_reducible rfl
          try simp only [Act.put, List.setIfInBounds_toArray, List.set_cons_zero, List.set_cons_succ]
          refine AnyS.take (i := 12) (oi := _) (d := some 36) (v := ?_) rfl rfl (by kernel_rfl) (fun _ _ _ h => h) (Or.inl ⟨by rfl, ?_⟩) (by assumption) ?_
          rotate_left 1
          · intro w hSw; obtain ⟨g0, g1, g2⟩ := hSw; go_simp <;> with_reducible rfl
          try simp only [Act.put, List.setIfInBounds_toArray, List.set_cons_zero, List.set_cons_succ]
          refine AnyS.take (i := 13) (oi := _) (d := some 37) (v := ?_) rfl rfl (by kernel_rfl) (fun _ _ _ h => h) (Or.inl ⟨by rfl, ?_⟩) (by assumption) ?_
          rotate_left 1
          · intro w hSw; obtain ⟨g0, g1, g2⟩ := hSw; go_simp <;> with_reducible rfl
          try simp only [Act.put, List.setIfInBounds_toArray, List.set_cons_zero, List.set_cons_succ]
          refine AnyS.take (i := 14) (oi := _) (d := some 38) (v := ?_) rfl rfl (by kernel_rfl) (fun _ _ _ h => h) (Or.inl ⟨by rfl, ?_⟩) (by assumption) ?_
          rotate_left 1
          · intro w hSw; obtain ⟨g0, g1, g2⟩ := hSw; go_simp <;> with_reducible rfl
          try simp only [Act.put, List.setIfInBounds_toArray, List.set_cons_zero, List.set_cons_succ]
          refine AnyS.take (i := 15) (oi := _) (d := some 39) (v := ?_) rfl rfl (by kernel_rfl) (fun _ _ _ h => h) (Or.inl ⟨by rfl, ?_⟩) (by assumption) ?_
          rotate_left 1
          · intro w hSw; obtain ⟨g0, g1, g2⟩ := hSw; go_simp <;> with_reducible rfl
          try simp only [Act.put, List.setIfInBounds_toArray, List.set_cons_zero, List.set_cons_succ]
          refine AnyS.take (i := 16) (oi := _) (d := some 40) (v := ?_) rfl rfl (by kernel_rfl) (fun _ _ _ h => h) (Or.inl ⟨by rfl, ?_⟩) (by assumption) ?_
          rotate_left 1
          · intro w hSw; obtain ⟨g0, g1, g2⟩ := hSw; go_simp <;> with_reducible rfl
          try simp only [Act.put, List.setIfInBounds_toArray, List.set_cons_zero, List.set_cons_succ]
          refine AnyS.take (i := 17) (oi := _) (d := some 41) (v := ?_) rfl rfl (by kernel_rfl) (fun _ _ _ h => h) (Or.inl ⟨by rfl, ?_⟩) (by assumption) ?_
          rotate_left 1
          · intro w hSw; obtain ⟨g0, g1, g2⟩ := hSw; go_simp <;> with_reducible rfl
          try simp only [Act.put, List.setIfInBounds_toArray, List.set_cons_zero, List.set_cons_succ]
          refine AnyS.take (i := 18) (oi := _) (d := some 42) (v := ?_) rfl rfl (by kernel_rfl) (fun _ _ _ h => h) (Or.inl ⟨by rfl, ?_⟩) (by assumption) ?_
          rotate_left 1
          · intro w hSw; obtain ⟨g0, g1, g2⟩ := hSw; go_simp <;> with_reducible rfl
          try simp only [Act.put, List.setIfInBounds_toArray, List.set_cons_zero, List.set_cons_succ]
          refine AnyS.take (i := 19) (oi := _) (d := some 43) (v := undef) rfl rfl (by kernel_rfl) (fun _ _ _ h => h) (Or.inr ⟨by rfl, rfl⟩) (by assumption) ?_
          try simp only [Act.put, List.setIfInBounds_toArray, List.set_cons_zero, List.set_cons_succ]
          refine AnyS.take (i := 20) (oi := _) (d := some 44) (v := undef) rfl rfl (by kernel_rfl) (fun _ _ _ h => h) (Or.inr ⟨by rfl, rfl⟩) (by assumption) ?_
          try simp only [Act.put, List.setIfInBounds_toArray, List.set_cons_zero, List.set_cons_succ]
          refine AnyS.take (i := 21) (oi := _) (d := some 45) (v := undef) rfl rfl (by kernel_rfl) (fun _ _ _ h => h) (Or.inr ⟨by rfl, rfl⟩) (by assumption) ?_
          try simp only [Act.put, List.setIfInBounds_toArray, List.set_cons_zero, List.set_cons_succ]
          refine AnyS.take (i := 22) (oi := _) (d := some 46) (v := undef) rfl rfl (by kernel_rfl) (fun _ _ _ h => h) (Or.inr ⟨by rfl, rfl⟩) (by assumption) ?_
          try simp only [Act.put, List.setIfInBounds_toArray, List.set_cons_zero, List.set_cons_succ]
          refine AnyS.take (i := 23) (oi := _) (d := some 47) (v := ?_) rfl rfl (by kernel_rfl) (fun _ _ _ h => h) (Or.inl ⟨by rfl, ?_⟩) (by assumption) ?_
          rotate_left 1
          · intro w hSw; obtain ⟨g0, g1, g2⟩ := hSw; go_simp <;> with_reducible rfl
          try simp only [Act.put, List.setIfInBounds_toArray, List.set_cons_zero, List.set_cons_succ]
          refine AnyS.take (i := 24) (oi := _) (d := some 48) (v := ?_) rfl rfl (by kernel_rfl) (fun _ _ _ h => h) (Or.inl ⟨by rfl, ?_⟩) (by assumption) ?_
          rotate_left 1
          · intro w hSw; obtain ⟨g0, g1, g2⟩ := hSw; go_simp <;> with_reducible rfl
          try simp only [Act.put, List.setIfInBounds_toArray, List.set_cons_zero, List.set_cons_succ]
          refine AnyS.take (i := 25) (oi := _) (d := some 49) (v := ?_) rfl rfl (by kernel_rfl) (fun _ _ _ h => h) (Or.inl ⟨by rfl, ?_⟩) (by assumption) ?_
          rotate_left 1
          · intro w hSw; obtain ⟨g0, g1, g2⟩ := hSw; go_simp <;> with_reducible rfl
          try simp only [Act.put, List.setIfInBounds_toArray, List.set_cons_zero, List.set_cons_succ]
          refine AnyS.take (i := 26) (oi := _) (d := some 50) (v := ?_) rfl rfl (by kernel_rfl) (fun _ _ _ h => h) (Or.inl ⟨by rfl, ?_⟩) (by assumption) ?_
          rotate_left 1
          · intro w hSw; obtain ⟨g0, g1, g2⟩ := hSw; go_simp <;> with_reducible rfl
          try simp only [Act.put, List.setIfInBounds_toArray, List.set_cons_zero, List.set_cons_succ]
          refine AnyS.take (i := 27) (oi := _) (d := some 51) (v := ?_) rfl rfl (by kernel_rfl) (fun _ _ _ h => h) (Or.inl ⟨by rfl, ?_⟩) (by assumption) ?_
          rotate_left 1
          · intro w hSw; obtain ⟨g0, g1, g2⟩ := hSw; go_simp <;> with_reducible rfl
          try simp only [Act.put, List.setIfInBounds_toArray, List.set_cons_zero, List.set_cons_succ]
          refine AnyS.one (i := 28) (o := _) rfl (by kernel_rfl) (by decide) (fun K hK => ?_)
          go_simp
          go_at_call 139
          with_reducible refine (HCN.out _ hD0).mono ?_
          intro eN xN hq
          obtain ⟨h1, bk⟩ := RetT.outD hq
          subst h1
          have HBKN := Lib.hid (belowT' hD0 bk)
          clear bk hq
          have hSN := HSC.out _ HBKN.out
          refine hK.out _ _ hSN (fun hHeld2 => ?_)
          clear hK K
          try simp only [Act.put, List.setIfInBounds_toArray, List.set_cons_zero, List.set_cons_succ]
          refine AnyS.last (o := _) rfl (by kernel_rfl) (by kernel_rfl) (fun K hK => ?_)
          go_simp
          refine hK.out _ _ ?_
          clear hK K
          try simp only [Act.put, List.setIfInBounds_toArray, List.set_cons_zero, List.set_cons_succ]
          have HF := Lib.hid (HBAD.out (fun h => by have h9 := HNO3.out h; cases h9) _ HBKN.out)
          go_wp2_with fail
          go_ret
          exact HF.out
        | false =>
          refine AnyS.begin (S := fun wx => wx.cell? ⟨g, 0, none⟩ = some (.pointer (some ⟨ob, 0, none⟩)) ∧ wx.cell? ⟨ob, 3, none⟩ = some (.slice o.aA 0 o.ac) ∧ wx.cell? ⟨ob, 4, none⟩ = some (.int .u64 0)) 29 (by kernel_rfl) hS0 (fun hHeld => ?_)
          refine AnyS.take (i := 0) (oi := _) (d := some 24) (v := ?_) rfl rfl (by kernel_rfl) (fun _ _ _ h => h) (Or.inl ⟨by rfl, ?_⟩) (by assumption) ?_
          rotate_left 1
          · intro w hSw; obtain ⟨g0, g1, g2⟩ := hSw; go_simp <;> with_reducible rfl
          try simp only [Act.put, List.setIfInBounds_toArray, List.set_cons_zero, List.set_cons_succ]
          refine AnyS.take (i := 1) (oi := _) (d := some 25) (v := ?_) rfl rfl (by kernel_rfl) (fun _ _ _ h => h) (Or.inl ⟨by rfl, ?_⟩) (by assumption) ?_
          rotate_left 1
          · intro w hSw; obtain ⟨g0, g1, g2⟩ := hSw; go_simp <;> with_reducible rfl
          try simp only [Act.put, List.setIfInBounds_toArray, List.set_cons_zero, List.set_cons_succ]
          refine AnyS.take (i := 2) (oi := _) (d := some 26) (v := ?_) rfl rfl (by kernel_rfl) (fun _ _ _ h => h) (Or.inl ⟨by rfl, ?_⟩) (by assumption) ?_
          rotate_left 1
          · intro w hSw; obtain ⟨g0, g1, g2⟩ := hSw; go_simp <;> with_reducible rfl
          try simp only [Act.put, List.setIfInBounds_toArray, List.set_cons_zero, List.set_cons_succ]
          refine AnyS.take (i := 3) (oi := _) (d := some 27) (v := ?_) rfl rfl (by kernel_rfl) (fun _ _ _ h => h) (Or.inl ⟨by rfl, ?_⟩) (by assumption) ?_
          rotate_left 1
          · intro w hSw; obtain ⟨g0, g1, g2⟩ := hSw; go_simp <;> with_reducible rfl
          try simp only [Act.put, List.setIfInBounds_toArray, List.set_cons_zero, List.set_cons_succ]
          refine AnyS.take (i := 4) (oi := _) (d := some 28) (v := ?_) rfl rfl (by kernel_rfl) (fun _ _ _ h => h) (Or.inl ⟨by rfl, ?_⟩) (by assumption) ?_
          rotate_left 1
          · intro w hSw; obtain ⟨g0, g1, g2⟩ := hSw; go_simp <;> with_reducible rfl
          try simp only [Act.put, List.setIfInBounds_toArray, List.set_cons_zero, List.set_cons_succ]
          refine AnyS.take (i := 5) (oi := _) (d := some 29) (v := ?_) rfl rfl (by kernel_rfl) (fun _ _ _ h => h) (Or.inl ⟨by rfl, ?_⟩) (by assumption) ?_
          rotate_left 1
          · intro w hSw; obtain ⟨g0, g1, g2⟩ := hSw; go_simp <;> with_reducible rfl
          try simp only [Act.put, List.setIfInBounds_toArray, List.set_cons_zero, List.set_cons_succ]
          refine AnyS.take (i := 6) (oi := _) (d := some 30) (v := ?_) rfl rfl (by kernel_rfl) (fun _ _ _ h => h) (Or.inl ⟨by rfl, ?_⟩) (by assumption) ?_
          rotate_left 1
          · intro w hSw; obtain ⟨g0, g1, g2⟩ := hSw; go_simp <;> with_reducible rfl
          try simp only [Act.put, List.setIfInBounds_toArray, List.set_cons_zero, List.set_cons_succ]
          refine AnyS.take (i := 7) (oi := _) (d := some 31) (v := ?_) rfl rfl (by kernel_rfl) (fun _ _ _ h => h) (Or.inl ⟨by rfl, ?_⟩) (by assumption) ?_
          rotate_left 1
          · intro w hSw; obtain ⟨g0, g1, g2⟩ := hSw; go_simp <;> with_reducible rfl
          try simp only [Act.put, List.setIfInBounds_toArray, List.set_cons_zero, List.set_cons_succ]
          refine AnyS.take (i := 8) (oi := _) (d := some 32) (v := ?_) rfl rfl (by kernel_rfl) (fun _ _ _ h => h) (Or.inl ⟨by rfl, ?_⟩) (by assumption) ?_
          rotate_left 1
          · intro w hSw; obtain ⟨g0, g1, g2⟩ := hSw; go_simp <;> with_reducible rfl
          try simp only [Act.put, List.setIfInBounds_toArray, List.set_cons_zero, List.set_cons_succ]
          refine AnyS.take (i := 9) (oi := _) (d := some 33) (v := ?_) rfl rfl (by kernel_rfl) (fun _ _ _ h => h) (Or.inl ⟨by rfl, ?_⟩) (by assumption) ?_
          rotate_left 1
          · intro w hSw; obtain ⟨g0, g1, g2⟩ := hSw; go_simp <;> with_reducible rfl
          try simp only [Act.put, List.setIfInBounds_toArray, List.set_cons_zero, List.set_cons_succ]
          refine AnyS.take (i := 10) (oi := _) (d := some 34) (v := ?_) rfl rfl (by kernel_rfl) (fun _ _ _ h => h) (Or.inl ⟨by rfl, ?_⟩) (by assumption) ?_
          rotate_left 1
          · intro w hSw; obtain ⟨g0, g1, g2⟩ := hSw; go_simp <;> with_reducible rfl
          try simp only [Act.put, List.setIfInBounds_toArray, List.set_cons_zero, List.set_cons_succ]
          refine AnyS.take (i := 11) (oi := _) (d := some 35) (v := ?_) rfl rfl (by kernel_rfl) (fun _ _ _ h => h) (Or.inl ⟨by rfl, ?_⟩) (by assumption) ?_
          rotate_left 1
          · intro w hSw; obtain ⟨g0, g1, g2⟩ := hSw; go_simp <;> with_reducible rfl
          try simp only [Act.put, List.setIfInBounds_toArray, List.set_cons_zero, List.set_cons_succ]
          refine AnyS.take (i := 12) (oi := _) (d := some 36) (v := ?_) rfl rfl (by kernel_rfl) (fun _ _ _ h => h) (Or.inl ⟨by rfl, ?_⟩) (by assumption) ?_
          rotate_left 1
          · intro w hSw; obtain ⟨g0, g1, g2⟩ := hSw; go_simp <;> with_reducible rfl
          try simp only [Act.put, List.setIfInBounds_toArray, List.set_cons_zero, List.set_cons_succ]
          refine AnyS.take (i := 13) (oi := _) (d := some 37) (v := ?_) rfl rfl (by kernel_rfl) (fun _ _ _ h => h) (Or.inl ⟨by rfl, ?_⟩) (by assumption) ?_
          rotate_left 1
          · intro w hSw; obtain ⟨g0, g1, g2⟩ := hSw; go_simp <;> with_reducible rfl
          try simp only [Act.put, List.setIfInBounds_toArray, List.set_cons_zero, List.set_cons_succ]
          refine AnyS.take (i := 14) (oi := _) (d := some 38) (v := ?_) rfl rfl (by kernel_rfl) (fun _ _ _ h => h) (Or.inl ⟨by rfl, ?_⟩) (by assumption) ?_
          rotate_left 1
          · intro w hSw; obtain ⟨g0, g1, g2⟩ := hSw; go_simp <;> with_reducible rfl
          try simp only [Act.put, List.setIfInBounds_toArray, List.set_cons_zero, List.set_cons_succ]
          refine AnyS.take (i := 15) (oi := _) (d := some 39) (v := ?_) rfl rfl (by kernel_rfl) (fun _ _ _ h => h) (Or.inl ⟨by rfl, ?_⟩) (by assumption) ?_
          rotate_left 1
          · intro w hSw; obtain ⟨g0, g1, g2⟩ := hSw; go_simp <;> with_reducible rfl
          try simp only [Act.put, List.setIfInBounds_toArray, List.set_cons_zero, List.set_cons_succ]
          refine AnyS.take (i := 16) (oi := _) (d := some 40) (v := ?_) rfl rfl (by kernel_rfl) (fun _ _ _ h => h) (Or.inl ⟨by rfl, ?_⟩) (by assumption) ?_
          rotate_left 1
          · intro w hSw; obtain ⟨g0, g1, g2⟩ := hSw; go_simp <;> with_reducible rfl
          try simp only [Act.put, List.setIfInBounds_toArray, List.set_cons_zero, List.set_cons_succ]
          refine AnyS.take (i := 17) (oi := _) (d := some 41) (v := ?_) rfl rfl (by kernel_rfl) (fun _ _ _ h => h) (Or.inl ⟨by rfl, ?_⟩) (by assumption) ?_
          rotate_left 1
          · intro w hSw; obtain ⟨g0, g1, g2⟩ := hSw; go_simp <;> with_reducible rfl
          try simp only [Act.put, List.setIfInBounds_toArray, List.set_cons_zero, List.set_cons_succ]
          refine AnyS.take (i := 18) (oi := _) (d := some 42) (v := ?_) rfl rfl (by kernel_rfl) (fun _ _ _ h => h) (Or.inl ⟨by rfl, ?_⟩) (by assumption) ?_
          rotate_left 1
          · intro w hSw; obtain ⟨g0, g1, g2⟩ := hSw; go_simp <;> with_reducible rfl
          try simp only [Act.put, List.setIfInBounds_toArray, List.set_cons_zero, List.set_cons_succ]
          refine AnyS.take (i := 19) (oi := _) (d := some 43) (v := undef) rfl rfl (by kernel_rfl) (fun _ _ _ h => h) (Or.inr ⟨by rfl, rfl⟩) (by assumption) ?_
          try simp only [Act.put, List.setIfInBounds_toArray, List.set_cons_zero, List.set_cons_succ]
          refine AnyS.take (i := 20) (oi := _) (d := some 44) (v := undef) rfl rfl (by kernel_rfl) (fun _ _ _ h => h) (Or.inr ⟨by rfl, rfl⟩) (by assumption) ?_
          try simp only [Act.put, List.setIfInBounds_toArray, List.set_cons_zero, List.set_cons_succ]
          refine AnyS.take (i := 21) (oi := _) (d := some 45) (v := undef) rfl rfl (by kernel_rfl) (fun _ _ _ h => h) (Or.inr ⟨by rfl, rfl⟩) (by assumption) ?_
          try simp only [Act.put, List.setIfInBounds_toArray, List.set_cons_zero, List.set_cons_succ]
          refine AnyS.take (i := 22) (oi := _) (d := some 46) (v := undef) rfl rfl (by kernel_rfl) (fun _ _ _ h => h) (Or.inr ⟨by rfl, rfl⟩) (by assumption) ?_
          try simp only [Act.put, List.setIfInBounds_toArray, List.set_cons_zero, List.set_cons_succ]
          refine AnyS.take (i := 23) (oi := _) (d := some 47) (v := ?_) rfl rfl (by kernel_rfl) (fun _ _ _ h => h) (Or.inl ⟨by rfl, ?_⟩) (by assumption) ?_
          rotate_left 1
          · intro w hSw; obtain ⟨g0, g1, g2⟩ := hSw; go_simp <;> with_reducible rfl
          try simp only [Act.put, List.setIfInBounds_toArray, List.set_cons_zero, List.set_cons_succ]
          refine AnyS.take (i := 24) (oi := _) (d := some 48) (v := ?_) rfl rfl (by kernel_rfl) (fun _ _ _ h => h) (Or.inl ⟨by rfl, ?_⟩) (by assumption) ?_
          rotate_left 1
          · intro w hSw; obtain ⟨g0, g1, g2⟩ := hSw; go_simp <;> with_reducible rfl
          try simp only [Act.put, List.setIfInBounds_toArray, List.set_cons_zero, List.set_cons_succ]
          refine AnyS.take (i := 25) (oi := _) (d := some 49) (v := ?_) rfl rfl (by kernel_rfl) (fun _ _ _ h => h) (Or.inl ⟨by rfl, ?_⟩) (by assumption) ?_
          rotate_left 1
          · intro w hSw; obtain ⟨g0, g1, g2⟩ := hSw; go_simp <;> with_reducible rfl
          try simp only [Act.put, List.setIfInBounds_toArray, List.set_cons_zero, List.set_cons_succ]
          refine AnyS.take (i := 26) (oi := _) (d := some 50) (v := ?_) rfl rfl (by kernel_rfl) (fun _ _ _ h => h) (Or.inl ⟨by rfl, ?_⟩) (by assumption) ?_
          rotate_left 1
          · intro w hSw; obtain ⟨g0, g1, g2⟩ := hSw; go_simp <;> with_reducible rfl
          try simp only [Act.put, List.setIfInBounds_toArray, List.set_cons_zero, List.set_cons_succ]
          refine AnyS.take (i := 27) (oi := _) (d := some 51) (v := ?_) rfl rfl (by kernel_rfl) (fun _ _ _ h => h) (Or.inl ⟨by rfl, ?_⟩) (by assumption) ?_
          rotate_left 1
          · intro w hSw; obtain ⟨g0, g1, g2⟩ := hSw; go_simp <;> with_reducible rfl
          try simp only [Act.put, List.setIfInBounds_toArray, List.set_cons_zero, List.set_cons_succ]
          refine AnyS.one (i := 28) (o := _) rfl (by kernel_rfl) (by decide) (fun K hK => ?_)
          go_simp
          go_at_call 139
          with_reducible refine (HCN.out _ hD0).mono ?_
          intro eN xN hq
          obtain ⟨h1, bk⟩ := RetT.outD hq
          subst h1
          have HBKN := Lib.hid (belowT' hD0 bk)
          clear bk hq
          have hSN := HSC.out _ HBKN.out
          refine hK.out _ _ hSN (fun hHeld2 => ?_)
          clear hK K
          try simp only [Act.put, List.setIfInBounds_toArray, List.set_cons_zero, List.set_cons_succ]
          refine AnyS.last (o := _) rfl (by kernel_rfl) (by kernel_rfl) (fun K hK => ?_)
          go_simp
          refine hK.out _ _ ?_
          clear hK K
          try simp only [Act.put, List.setIfInBounds_toArray, List.set_cons_zero, List.set_cons_succ]
          have HQ := Lib.hid (belowT' HBV.out HBKN.out)
          go_wp2_with fail
          go_roundw
          case rel => exact ⟨k + 1, by omega, by go_num, HQ.out⟩
          case measure => simp [intOf]; omega
      · have _ := ht
        refine AnyS.begin (S := fun wx => wx.cell? ⟨g, 0, none⟩ = some (.pointer (some ⟨ob, 0, none⟩)) ∧ wx.cell? ⟨ob, 3, none⟩ = some (.slice o.aA 0 o.ac) ∧ wx.cell? ⟨ob, 4, none⟩ = some (.int .u64 (tn : Int))) 29 (by kernel_rfl) hS0 (fun hHeld => ?_)
        refine AnyS.take (i := 0) (oi := _) (d := some 24) (v := ?_) rfl rfl (by kernel_rfl) (fun _ _ _ h => h) (Or.inl ⟨by rfl, ?_⟩) (by assumption) ?_
        rotate_left 1
        · intro w hSw; obtain ⟨g0, g1, g2⟩ := hSw; go_simp <;> with_reducible rfl
        try simp only [Act.put, List.setIfInBounds_toArray, List.set_cons_zero, List.set_cons_succ]
        refine AnyS.take (i := 1) (oi := _) (d := some 25) (v := ?_) rfl rfl (by kernel_rfl) (fun _ _ _ h => h) (Or.inl ⟨by rfl, ?_⟩) (by assumption) ?_
        rotate_left 1
        · intro w hSw; obtain ⟨g0, g1, g2⟩ := hSw; go_simp <;> with_reducible rfl
        try simp only [Act.put, List.setIfInBounds_toArray, List.set_cons_zero, List.set_cons_succ]
        refine AnyS.take (i := 2) (oi := _) (d := some 26) (v := ?_) rfl rfl (by kernel_rfl) (fun _ _ _ h => h) (Or.inl ⟨by rfl, ?_⟩) (by assumption) ?_
        rotate_left 1
        · intro w hSw; obtain ⟨g0, g1, g2⟩ := hSw; go_simp <;> with_reducible rfl
        try simp only [Act.put, List.setIfInBounds_toArray, List.set_cons_zero, List.set_cons_succ]
        refine AnyS.take (i := 3) (oi := _) (d := some 27) (v := ?_) rfl rfl (by kernel_rfl) (fun _ _ _ h => h) (Or.inl ⟨by rfl, ?_⟩) (by assumption) ?_
        rotate_left 1
        · intro w hSw; obtain ⟨g0, g1, g2⟩ := hSw; go_simp <;> with_reducible rfl
        try simp only [Act.put, List.setIfInBounds_toArray, List.set_cons_zero, List.set_cons_succ]
        refine AnyS.take (i := 4) (oi := _) (d := some 28) (v := ?_) rfl rfl (by kernel_rfl) (fun _ _ _ h => h) (Or.inl ⟨by rfl, ?_⟩) (by assumption) ?_
        rotate_left 1
        · intro w hSw; obtain ⟨g0, g1, g2⟩ := hSw; go_simp <;> with_reducible rfl
        try simp only [Act.put, List.setIfInBounds_toArray, List.set_cons_zero, List.set_cons_succ]
        refine AnyS.take (i := 5) (oi := _) (d := some 29) (v := ?_) rfl rfl (by kernel_rfl) (fun _ _ _ h => h) (Or.inl ⟨by rfl, ?_⟩) (by assumption) ?_
        rotate_left 1
        · intro w hSw; obtain ⟨g0, g1, g2⟩ := hSw; go_simp <;> with_reducible rfl
        try simp only [Act.put, List.setIfInBounds_toArray, List.set_cons_zero, List.set_cons_succ]
        refine AnyS.take (i := 6) (oi := _) (d := some 30) (v := ?_) rfl rfl (by kernel_rfl) (fun _ _ _ h => h) (Or.inl ⟨by rfl, ?_⟩) (by assumption) ?_
        rotate_left 1
        · intro w hSw; obtain ⟨g0, g1, g2⟩ := hSw; go_simp <;> with_reducible rfl
        try simp only [Act.put, List.setIfInBounds_toArray, List.set_cons_zero, List.set_cons_succ]
        refine AnyS.take (i := 7) (oi := _) (d := some 31) (v := ?_) rfl rfl (by kernel_rfl) (fun _ _ _ h => h) (Or.inl ⟨by rfl, ?_⟩) (by assumption) ?_
        rotate_left 1
        · intro w hSw; obtain ⟨g0, g1, g2⟩ := hSw; go_simp <;> with_reducible rfl
        try simp only [Act.put, List.setIfInBounds_toArray, List.set_cons_zero, List.set_cons_succ]
        refine AnyS.take (i := 8) (oi := _) (d := some 32) (v := ?_) rfl rfl (by kernel_rfl) (fun _ _ _ h => h) (Or.inl ⟨by rfl, ?_⟩) (by assumption) ?_
        rotate_left 1
        · intro w hSw; obtain ⟨g0, g1, g2⟩ := hSw; go_simp <;> with_reducible rfl
        try simp only [Act.put, List.setIfInBounds_toArray, List.set_cons_zero, List.set_cons_succ]
        refine AnyS.take (i := 9) (oi := _) (d := some 33) (v := ?_) rfl rfl (by kernel_rfl) (fun _ _ _ h => h) (Or.inl ⟨by rfl, ?_⟩) (by assumption) ?_
        rotate_left 1
        · intro w hSw; obtain ⟨g0, g1, g2⟩ := hSw; go_simp <;> with_reducible rfl
        try simp only [Act.put, List.setIfInBounds_toArray, List.set_cons_zero, List.set_cons_succ]
        refine AnyS.take (i := 10) (oi := _) (d := some 34) (v := ?_) rfl rfl (by kernel_rfl) (fun _ _ _ h => h) (Or.inl ⟨by rfl, ?_⟩) (by assumption) ?_
        rotate_left 1
        · intro w hSw; obtain ⟨g0, g1, g2⟩ := hSw; go_simp <;> with_reducible rfl
        try simp only [Act.put, List.setIfInBounds_toArray, List.set_cons_zero, List.set_cons_succ]
        refine AnyS.take (i := 11) (oi := _) (d := some 35) (v := ?_) rfl rfl (by kernel_rfl) (fun _ _ _ h => h) (Or.inl ⟨by rfl, ?_⟩) (by assumption) ?_
        rotate_left 1
        · intro w hSw; obtain ⟨g0, g1, g2⟩ := hSw; go_simp <;> with_reducible rfl
        try simp only [Act.put, List.setIfInBounds_toArray, List.set_cons_zero, List.set_cons_succ]
        refine AnyS.take (i := 12) (oi := _) (d := some 36) (v := ?_) rfl rfl (by kernel_rfl) (fun _ _ _ h => h) (Or.inl ⟨by rfl, ?_⟩) (by assumption) ?_
        rotate_left 1
        · intro w hSw; obtain ⟨g0, g1, g2⟩ := hSw; go_simp <;> with_reducible rfl
        try simp only [Act.put, List.setIfInBounds_toArray, List.set_cons_zero, List.set_cons_succ]
        refine AnyS.take (i := 13) (oi := _) (d := some 37) (v := undef) rfl rfl (by kernel_rfl) (fun _ _ _ h => h) (Or.inr ⟨by rfl, rfl⟩) (by assumption) ?_
        try simp only [Act.put, List.setIfInBounds_toArray, List.set_cons_zero, List.set_cons_succ]
        refine AnyS.take (i := 14) (oi := _) (d := some 38) (v := undef) rfl rfl (by kernel_rfl) (fun _ _ _ h => h) (Or.inr ⟨by rfl, rfl⟩) (by assumption) ?_
        try simp only [Act.put, List.setIfInBounds_toArray, List.set_cons_zero, List.set_cons_succ]
        refine AnyS.take (i := 15) (oi := _) (d := some 39) (v := undef) rfl rfl (by kernel_rfl) (fun _ _ _ h => h) (Or.inr ⟨by rfl, rfl⟩) (by assumption) ?_
        try simp only [Act.put, List.setIfInBounds_toArray, List.set_cons_zero, List.set_cons_succ]
        refine AnyS.take (i := 16) (oi := _) (d := some 40) (v := undef) rfl rfl (by kernel_rfl) (fun _ _ _ h => h) (Or.inr ⟨by rfl, rfl⟩) (by assumption) ?_
        try simp only [Act.put, List.setIfInBounds_toArray, List.set_cons_zero, List.set_cons_succ]
        refine AnyS.take (i := 17) (oi := _) (d := some 41) (v := undef) rfl rfl (by kernel_rfl) (fun _ _ _ h => h) (Or.inr ⟨by rfl, rfl⟩) (by assumption) ?_
        try simp only [Act.put, List.setIfInBounds_toArray, List.set_cons_zero, List.set_cons_succ]
        refine AnyS.take (i := 18) (oi := _) (d := some 42) (v := undef) rfl rfl (by kernel_rfl) (fun _ _ _ h => h) (Or.inr ⟨by rfl, rfl⟩) (by assumption) ?_
        try simp only [Act.put, List.setIfInBounds_toArray, List.set_cons_zero, List.set_cons_succ]
        refine AnyS.take (i := 19) (oi := _) (d := some 43) (v := undef) rfl rfl (by kernel_rfl) (fun _ _ _ h => h) (Or.inr ⟨by rfl, rfl⟩) (by assumption) ?_
        try simp only [Act.put, List.setIfInBounds_toArray, List.set_cons_zero, List.set_cons_succ]
        refine AnyS.take (i := 20) (oi := _) (d := some 44) (v := undef) rfl rfl (by kernel_rfl) (fun _ _ _ h => h) (Or.inr ⟨by rfl, rfl⟩) (by assumption) ?_
        try simp only [Act.put, List.setIfInBounds_toArray, List.set_cons_zero, List.set_cons_succ]
        refine AnyS.take (i := 21) (oi := _) (d := some 45) (v := undef) rfl rfl (by kernel_rfl) (fun _ _ _ h => h) (Or.inr ⟨by rfl, rfl⟩) (by assumption) ?_
        try simp only [Act.put, List.setIfInBounds_toArray, List.set_cons_zero, List.set_cons_succ]
        refine AnyS.take (i := 22) (oi := _) (d := some 46) (v := undef) rfl rfl (by kernel_rfl) (fun _ _ _ h => h) (Or.inr ⟨by rfl, rfl⟩) (by assumption) ?_
        try simp only [Act.put, List.setIfInBounds_toArray, List.set_cons_zero, List.set_cons_succ]
        refine AnyS.take (i := 23) (oi := _) (d := some 47) (v := undef) rfl rfl (by kernel_rfl) (fun _ _ _ h => h) (Or.inr ⟨by rfl, rfl⟩) (by assumption) ?_
        try simp only [Act.put, List.setIfInBounds_toArray, List.set_cons_zero, List.set_cons_succ]
        refine AnyS.take (i := 24) (oi := _) (d := some 48) (v := ?_) rfl rfl (by kernel_rfl) (fun _ _ _ h => h) (Or.inl ⟨by rfl, ?_⟩) (by assumption) ?_
        rotate_left 1
        · intro w hSw; obtain ⟨g0, g1, g2⟩ := hSw; go_simp <;> with_reducible rfl
        try simp only [Act.put, List.setIfInBounds_toArray, List.set_cons_zero, List.set_cons_succ]
        refine AnyS.take (i := 25) (oi := _) (d := some 49) (v := ?_) rfl rfl (by kernel_rfl) (fun _ _ _ h => h) (Or.inl ⟨by rfl, ?_⟩) (by assumption) ?_
        rotate_left 1
        · intro w hSw; obtain ⟨g0, g1, g2⟩ := hSw; go_simp <;> with_reducible rfl
        try simp only [Act.put, List.setIfInBounds_toArray, List.set_cons_zero, List.set_cons_succ]
        refine AnyS.take (i := 26) (oi := _) (d := some 50) (v := undef) rfl rfl (by kernel_rfl) (fun _ _ _ h => h) (Or.inr ⟨by rfl, rfl⟩) (by assumption) ?_
        try simp only [Act.put, List.setIfInBounds_toArray, List.set_cons_zero, List.set_cons_succ]
        refine AnyS.take (i := 27) (oi := _) (d := some 51) (v := undef) rfl rfl (by kernel_rfl) (fun _ _ _ h => h) (Or.inr ⟨by rfl, rfl⟩) (by assumption) ?_
        try simp only [Act.put, List.setIfInBounds_toArray, List.set_cons_zero, List.set_cons_succ]
        refine AnyS.take (i := 28) (oi := _) (d := some 52) (v := undef) rfl rfl (by kernel_rfl) (fun _ _ _ h => h) (Or.inr ⟨by rfl, rfl⟩) (by assumption) ?_
        try simp only [Act.put, List.setIfInBounds_toArray, List.set_cons_zero, List.set_cons_succ]
        refine AnyS.last (o := _) rfl (by kernel_rfl) (by kernel_rfl) (fun K hK => ?_)
        go_simp
        refine hK.out _ _ ?_
        clear hK K
        try simp only [Act.put, List.setIfInBounds_toArray, List.set_cons_zero, List.set_cons_succ]
        have HF := Lib.hid (HBAD.out (fun h => by have h9 := (HNO1.out h).2 ht; omega) _ hD0)
        go_wp2_with fail
        go_ret
        exact HF.out
      · have _ := ha
        refine AnyS.begin (S := fun wx => wx.cell? ⟨g, 0, none⟩ = some (.pointer (some ⟨ob, 0, none⟩)) ∧ wx.cell? ⟨ob, 3, none⟩ = some (.slice o.aA an o.ac) ∧ wx.cell? ⟨ob, 4, none⟩ = some (.int .u64 0)) 29 (by kernel_rfl) hS0 (fun hHeld => ?_)
        refine AnyS.take (i := 0) (oi := _) (d := some 24) (v := ?_) rfl rfl (by kernel_rfl) (fun _ _ _ h => h) (Or.inl ⟨by rfl, ?_⟩) (by assumption) ?_
        rotate_left 1
        · intro w hSw; obtain ⟨g0, g1, g2⟩ := hSw; go_simp <;> with_reducible rfl
        try simp only [Act.put, List.setIfInBounds_toArray, List.set_cons_zero, List.set_cons_succ]
        refine AnyS.take (i := 1) (oi := _) (d := some 25) (v := ?_) rfl rfl (by kernel_rfl) (fun _ _ _ h => h) (Or.inl ⟨by rfl, ?_⟩) (by assumption) ?_
        rotate_left 1
        · intro w hSw; obtain ⟨g0, g1, g2⟩ := hSw; go_simp <;> with_reducible rfl
        try simp only [Act.put, List.setIfInBounds_toArray, List.set_cons_zero, List.set_cons_succ]
        refine AnyS.take (i := 2) (oi := _) (d := some 26) (v := ?_) rfl rfl (by kernel_rfl) (fun _ _ _ h => h) (Or.inl ⟨by rfl, ?_⟩) (by assumption) ?_
        rotate_left 1
        · intro w hSw; obtain ⟨g0, g1, g2⟩ := hSw; go_simp <;> with_reducible rfl
        try simp only [Act.put, List.setIfInBounds_toArray, List.set_cons_zero, List.set_cons_succ]
        refine AnyS.take (i := 3) (oi := _) (d := some 27) (v := ?_) rfl rfl (by kernel_rfl) (fun _ _ _ h => h) (Or.inl ⟨by rfl, ?_⟩) (by assumption) ?_
        rotate_left 1
        · intro w hSw; obtain ⟨g0, g1, g2⟩ := hSw; go_simp <;> with_reducible rfl
        try simp only [Act.put, List.setIfInBounds_toArray, List.set_cons_zero, List.set_cons_succ]
        refine AnyS.take (i := 4) (oi := _) (d := some 28) (v := ?_) rfl rfl (by kernel_rfl) (fun _ _ _ h => h) (Or.inl ⟨by rfl, ?_⟩) (by assumption) ?_
        rotate_left 1
        · intro w hSw; obtain ⟨g0, g1, g2⟩ := hSw; go_simp <;> with_reducible rfl
        try simp only [Act.put, List.setIfInBounds_toArray, List.set_cons_zero, List.set_cons_succ]
        refine AnyS.take (i := 5) (oi := _) (d := some 29) (v := ?_) rfl rfl (by kernel_rfl) (fun _ _ _ h => h) (Or.inl ⟨by rfl, ?_⟩) (by assumption) ?_
        rotate_left 1
        · intro w hSw; obtain ⟨g0, g1, g2⟩ := hSw; go_simp <;> with_reducible rfl
        try simp only [Act.put, List.setIfInBounds_toArray, List.set_cons_zero, List.set_cons_succ]
        refine AnyS.take (i := 6) (oi := _) (d := some 30) (v := ?_) rfl rfl (by kernel_rfl) (fun _ _ _ h => h) (Or.inl ⟨by rfl, ?_⟩) (by assumption) ?_
        rotate_left 1
        · intro w hSw; obtain ⟨g0, g1, g2⟩ := hSw; go_simp <;> with_reducible rfl
        try simp only [Act.put, List.setIfInBounds_toArray, List.set_cons_zero, List.set_cons_succ]
        refine AnyS.take (i := 7) (oi := _) (d := some 31) (v := ?_) rfl rfl (by kernel_rfl) (fun _ _ _ h => h) (Or.inl ⟨by rfl, ?_⟩) (by assumption) ?_
        rotate_left 1
        · intro w hSw; obtain ⟨g0, g1, g2⟩ := hSw; go_simp <;> with_reducible rfl
        try simp only [Act.put, List.setIfInBounds_toArray, List.set_cons_zero, List.set_cons_succ]
        refine AnyS.take (i := 8) (oi := _) (d := some 32) (v := ?_) rfl rfl (by kernel_rfl) (fun _ _ _ h => h) (Or.inl ⟨by rfl, ?_⟩) (by assumption) ?_
        rotate_left 1
        · intro w hSw; obtain ⟨g0, g1, g2⟩ := hSw; go_simp <;> with_reducible rfl
        try simp only [Act.put, List.setIfInBounds_toArray, List.set_cons_zero, List.set_cons_succ]
        refine AnyS.take (i := 9) (oi := _) (d := some 33) (v := ?_) rfl rfl (by kernel_rfl) (fun _ _ _ h => h) (Or.inl ⟨by rfl, ?_⟩) (by assumption) ?_
        rotate_left 1
        · intro w hSw; obtain ⟨g0, g1, g2⟩ := hSw; go_simp <;> with_reducible rfl
        try simp only [Act.put, List.setIfInBounds_toArray, List.set_cons_zero, List.set_cons_succ]
        refine AnyS.take (i := 10) (oi := _) (d := some 34) (v := ?_) rfl rfl (by kernel_rfl) (fun _ _ _ h => h) (Or.inl ⟨by rfl, ?_⟩) (by assumption) ?_
        rotate_left 1
        · intro w hSw; obtain ⟨g0, g1, g2⟩ := hSw; go_simp <;> with_reducible rfl
        try simp only [Act.put, List.setIfInBounds_toArray, List.set_cons_zero, List.set_cons_succ]
        refine AnyS.take (i := 11) (oi := _) (d := some 35) (v := ?_) rfl rfl (by kernel_rfl) (fun _ _ _ h => h) (Or.inl ⟨by rfl, ?_⟩) (by assumption) ?_
        rotate_left 1
        · intro w hSw; obtain ⟨g0, g1, g2⟩ := hSw; go_simp <;> with_reducible rfl
        try simp only [Act.put, List.setIfInBounds_toArray, List.set_cons_zero, List.set_cons_succ]
        refine AnyS.take (i := 12) (oi := _) (d := some 36) (v := ?_) rfl rfl (by kernel_rfl) (fun _ _ _ h => h) (Or.inl ⟨by rfl, ?_⟩) (by assumption) ?_
        rotate_left 1
        · intro w hSw; obtain ⟨g0, g1, g2⟩ := hSw; go_simp <;> with_reducible rfl
        try simp only [Act.put, List.setIfInBounds_toArray, List.set_cons_zero, List.set_cons_succ]
        refine AnyS.take (i := 13) (oi := _) (d := some 37) (v := undef) rfl rfl (by kernel_rfl) (fun _ _ _ h => h) (Or.inr ⟨by rfl, rfl⟩) (by assumption) ?_
        try simp only [Act.put, List.setIfInBounds_toArray, List.set_cons_zero, List.set_cons_succ]
        refine AnyS.take (i := 14) (oi := _) (d := some 38) (v := undef) rfl rfl (by kernel_rfl) (fun _ _ _ h => h) (Or.inr ⟨by rfl, rfl⟩) (by assumption) ?_
        try simp only [Act.put, List.setIfInBounds_toArray, List.set_cons_zero, List.set_cons_succ]
        refine AnyS.take (i := 15) (oi := _) (d := some 39) (v := undef) rfl rfl (by kernel_rfl) (fun _ _ _ h => h) (Or.inr ⟨by rfl, rfl⟩) (by assumption) ?_
        try simp only [Act.put, List.setIfInBounds_toArray, List.set_cons_zero, List.set_cons_succ]
        refine AnyS.take (i := 16) (oi := _) (d := some 40) (v := undef) rfl rfl (by kernel_rfl) (fun _ _ _ h => h) (Or.inr ⟨by rfl, rfl⟩) (by assumption) ?_
        try simp only [Act.put, List.setIfInBounds_toArray, List.set_cons_zero, List.set_cons_succ]
        refine AnyS.take (i := 17) (oi := _) (d := some 41) (v := undef) rfl rfl (by kernel_rfl) (fun _ _ _ h => h) (Or.inr ⟨by rfl, rfl⟩) (by assumption) ?_
        try simp only [Act.put, List.setIfInBounds_toArray, List.set_cons_zero, List.set_cons_succ]
        refine AnyS.take (i := 18) (oi := _) (d := some 42) (v := undef) rfl rfl (by kernel_rfl) (fun _ _ _ h => h) (Or.inr ⟨by rfl, rfl⟩) (by assumption) ?_
        try simp only [Act.put, List.setIfInBounds_toArray, List.set_cons_zero, List.set_cons_succ]
        refine AnyS.take (i := 19) (oi := _) (d := some 43) (v := undef) rfl rfl (by kernel_rfl) (fun _ _ _ h => h) (Or.inr ⟨by rfl, rfl⟩) (by assumption) ?_
        try simp only [Act.put, List.setIfInBounds_toArray, List.set_cons_zero, List.set_cons_succ]
        refine AnyS.take (i := 20) (oi := _) (d := some 44) (v := undef) rfl rfl (by kernel_rfl) (fun _ _ _ h => h) (Or.inr ⟨by rfl, rfl⟩) (by assumption) ?_
        try simp only [Act.put, List.setIfInBounds_toArray, List.set_cons_zero, List.set_cons_succ]
        refine AnyS.take (i := 21) (oi := _) (d := some 45) (v := undef) rfl rfl (by kernel_rfl) (fun _ _ _ h => h) (Or.inr ⟨by rfl, rfl⟩) (by assumption) ?_
        try simp only [Act.put, List.setIfInBounds_toArray, List.set_cons_zero, List.set_cons_succ]
        refine AnyS.take (i := 22) (oi := _) (d := some 46) (v := undef) rfl rfl (by kernel_rfl) (fun _ _ _ h => h) (Or.inr ⟨by rfl, rfl⟩) (by assumption) ?_
        try simp only [Act.put, List.setIfInBounds_toArray, List.set_cons_zero, List.set_cons_succ]
        refine AnyS.take (i := 23) (oi := _) (d := some 47) (v := undef) rfl rfl (by kernel_rfl) (fun _ _ _ h => h) (Or.inr ⟨by rfl, rfl⟩) (by assumption) ?_
        try simp only [Act.put, List.setIfInBounds_toArray, List.set_cons_zero, List.set_cons_succ]
        refine AnyS.take (i := 24) (oi := _) (d := some 48) (v := ?_) rfl rfl (by kernel_rfl) (fun _ _ _ h => h) (Or.inl ⟨by rfl, ?_⟩) (by assumption) ?_
        rotate_left 1
        · intro w hSw; obtain ⟨g0, g1, g2⟩ := hSw; go_simp <;> with_reducible rfl
        try simp only [Act.put, List.setIfInBounds_toArray, List.set_cons_zero, List.set_cons_succ]
        refine AnyS.take (i := 25) (oi := _) (d := some 49) (v := ?_) rfl rfl (by kernel_rfl) (fun _ _ _ h => h) (Or.inl ⟨by rfl, ?_⟩) (by assumption) ?_
        rotate_left 1
        · intro w hSw; obtain ⟨g0, g1, g2⟩ := hSw; go_simp <;> with_reducible rfl
        try simp only [Act.put, List.setIfInBounds_toArray, List.set_cons_zero, List.set_cons_succ]
        refine AnyS.take (i := 26) (oi := _) (d := some 50) (v := undef) rfl rfl (by kernel_rfl) (fun _ _ _ h => h) (Or.inr ⟨by rfl, rfl⟩) (by assumption) ?_
        try simp only [Act.put, List.setIfInBounds_toArray, List.set_cons_zero, List.set_cons_succ]
        refine AnyS.take (i := 27) (oi := _) (d := some 51) (v := undef) rfl rfl (by kernel_rfl) (fun _ _ _ h => h) (Or.inr ⟨by rfl, rfl⟩) (by assumption) ?_
        try simp only [Act.put, List.setIfInBounds_toArray, List.set_cons_zero, List.set_cons_succ]
        refine AnyS.take (i := 28) (oi := _) (d := some 52) (v := undef) rfl rfl (by kernel_rfl) (fun _ _ _ h => h) (Or.inr ⟨by rfl, rfl⟩) (by assumption) ?_
        try simp only [Act.put, List.setIfInBounds_toArray, List.set_cons_zero, List.set_cons_succ]
        refine AnyS.last (o := _) rfl (by kernel_rfl) (by kernel_rfl) (fun K hK => ?_)
        go_simp
        refine hK.out _ _ ?_
        clear hK K
        try simp only [Act.put, List.setIfInBounds_toArray, List.set_cons_zero, List.set_cons_succ]
        have HF := Lib.hid (HBAD.out (fun h => by have h9 := (HNO1.out h).1 ha; omega) _ hD0)
        go_wp2_with fail
        go_ret
        exact HF.out
      · cases wz with
        | true =>
          cases cz with
          | true =>
            refine AnyS.begin (S := fun wx => wx.cell? ⟨g, 0, none⟩ = some (.pointer (some ⟨ob, 0, none⟩)) ∧ wx.cell? ⟨ob, 3, none⟩ = some (.slice o.aA an o.ac) ∧ wx.cell? ⟨ob, 4, none⟩ = some (.int .u64 (tn : Int))) 29 (by kernel_rfl) hS0 (fun hHeld => ?_)
            refine AnyS.take (i := 0) (oi := _) (d := some 24) (v := ?_) rfl rfl (by kernel_rfl) (fun _ _ _ h => h) (Or.inl ⟨by rfl, ?_⟩) (by assumption) ?_
            rotate_left 1
            · intro w hSw; obtain ⟨g0, g1, g2⟩ := hSw; go_simp <;> with_reducible rfl
            try simp only [Act.put, List.setIfInBounds_toArray, List.set_cons_zero, List.set_cons_succ]
            refine AnyS.take (i := 1) (oi := _) (d := some 25) (v := ?_) rfl rfl (by kernel_rfl) (fun _ _ _ h => h) (Or.inl ⟨by rfl, ?_⟩) (by assumption) ?_
            rotate_left 1
            · intro w hSw; obtain ⟨g0, g1, g2⟩ := hSw; go_simp <;> with_reducible rfl
            try simp only [Act.put, List.setIfInBounds_toArray, List.set_cons_zero, List.set_cons_succ]
            refine AnyS.take (i := 2) (oi := _) (d := some 26) (v := ?_) rfl rfl (by kernel_rfl) (fun _ _ _ h => h) (Or.inl ⟨by rfl, ?_⟩) (by assumption) ?_
            rotate_left 1
            · intro w hSw; obtain ⟨g0, g1, g2⟩ := hSw; go_simp <;> with_reducible rfl
            try simp only [Act.put, List.setIfInBounds_toArray, List.set_cons_zero, List.set_cons_succ]
            refine AnyS.take (i := 3) (oi := _) (d := some 27) (v := ?_) rfl rfl (by kernel_rfl) (fun _ _ _ h => h) (Or.inl ⟨by rfl, ?_⟩) (by assumption) ?_
            rotate_left 1
            · intro w hSw; obtain ⟨g0, g1, g2⟩ := hSw; go_simp <;> with_reducible rfl
            try simp only [Act.put, List.setIfInBounds_toArray, List.set_cons_zero, List.set_cons_succ]
            refine AnyS.take (i := 4) (oi := _) (d := some 28) (v := ?_) rfl rfl (by kernel_rfl) (fun _ _ _ h => h) (Or.inl ⟨by rfl, ?_⟩) (by assumption) ?_
            rotate_left 1
            · intro w hSw; obtain ⟨g0, g1, g2⟩ := hSw; go_simp <;> with_reducible rfl
            try simp only [Act.put, List.setIfInBounds_toArray, List.set_cons_zero, List.set_cons_succ]
            refine AnyS.take (i := 5) (oi := _) (d := some 29) (v := ?_) rfl rfl (by kernel_rfl) (fun _ _ _ h => h) (Or.inl ⟨by rfl, ?_⟩) (by assumption) ?_
            rotate_left 1
            · intro w hSw; obtain ⟨g0, g1, g2⟩ := hSw; go_simp <;> with_reducible rfl
            try simp only [Act.put, List.setIfInBounds_toArray, List.set_cons_zero, List.set_cons_succ]
            refine AnyS.take (i := 6) (oi := _) (d := some 30) (v := ?_) rfl rfl (by kernel_rfl) (fun _ _ _ h => h) (Or.inl ⟨by rfl, ?_⟩) (by assumption) ?_
            rotate_left 1
            · intro w hSw; obtain ⟨g0, g1, g2⟩ := hSw; go_simp <;> with_reducible rfl
            try simp only [Act.put, List.setIfInBounds_toArray, List.set_cons_zero, List.set_cons_succ]
            refine AnyS.take (i := 7) (oi := _) (d := some 31) (v := ?_) rfl rfl (by kernel_rfl) (fun _ _ _ h => h) (Or.inl ⟨by rfl, ?_⟩) (by assumption) ?_
            rotate_left 1
            · intro w hSw; obtain ⟨g0, g1, g2⟩ := hSw; go_simp <;> with_reducible rfl
            try simp only [Act.put, List.setIfInBounds_toArray, List.set_cons_zero, List.set_cons_succ]
            refine AnyS.take (i := 8) (oi := _) (d := some 32) (v := ?_) rfl rfl (by kernel_rfl) (fun _ _ _ h => h) (Or.inl ⟨by rfl, ?_⟩) (by assumption) ?_
            rotate_left 1
            · intro w hSw; obtain ⟨g0, g1, g2⟩ := hSw; go_simp <;> with_reducible rfl
            try simp only [Act.put, List.setIfInBounds_toArray, List.set_cons_zero, List.set_cons_succ]
            refine AnyS.take (i := 9) (oi := _) (d := some 33) (v := ?_) rfl rfl (by kernel_rfl) (fun _ _ _ h => h) (Or.inl ⟨by rfl, ?_⟩) (by assumption) ?_
            rotate_left 1
            · intro w hSw; obtain ⟨g0, g1, g2⟩ := hSw; go_simp <;> with_reducible rfl
            try simp only [Act.put, List.setIfInBounds_toArray, List.set_cons_zero, List.set_cons_succ]
            refine AnyS.take (i := 10) (oi := _) (d := some 34) (v := ?_) rfl rfl (by kernel_rfl) (fun _ _ _ h => h) (Or.inl ⟨by rfl, ?_⟩) (by assumption) ?_
            rotate_left 1
            · intro w hSw; obtain ⟨g0, g1, g2⟩ := hSw; go_simp <;> with_reducible rfl
            try simp only [Act.put, List.setIfInBounds_toArray, List.set_cons_zero, List.set_cons_succ]
            refine AnyS.take (i := 11) (oi := _) (d := some 35) (v := ?_) rfl rfl (by kernel_rfl) (fun _ _ _ h => h) (Or.inl ⟨by rfl, ?_⟩) (by assumption) ?_
            rotate_left 1
            · intro w hSw; obtain ⟨g0, g1, g2⟩ := hSw; go_simp <;> with_reducible rfl
            try simp only [Act.put, List.setIfInBounds_toArray, List.set_cons_zero, List.set_cons_succ]
            refine AnyS.take (i := 12) (oi := _) (d := some 36) (v := ?_) rfl rfl (by kernel_rfl) (fun _ _ _ h => h) (Or.inl ⟨by rfl, ?_⟩) (by assumption) ?_
            rotate_left 1
            · intro w hSw; obtain ⟨g0, g1, g2⟩ := hSw; go_simp <;> with_reducible rfl
            try simp only [Act.put, List.setIfInBounds_toArray, List.set_cons_zero, List.set_cons_succ]
            refine AnyS.take (i := 13) (oi := _) (d := some 37) (v := ?_) rfl rfl (by kernel_rfl) (fun _ _ _ h => h) (Or.inl ⟨by rfl, ?_⟩) (by assumption) ?_
            rotate_left 1
            · intro w hSw; obtain ⟨g0, g1, g2⟩ := hSw; go_simp <;> with_reducible rfl
            try simp only [Act.put, List.setIfInBounds_toArray, List.set_cons_zero, List.set_cons_succ]
            refine AnyS.take (i := 14) (oi := _) (d := some 38) (v := ?_) rfl rfl (by kernel_rfl) (fun _ _ _ h => h) (Or.inl ⟨by rfl, ?_⟩) (by assumption) ?_
            rotate_left 1
            · intro w hSw; obtain ⟨g0, g1, g2⟩ := hSw; go_simp <;> with_reducible rfl
            try simp only [Act.put, List.setIfInBounds_toArray, List.set_cons_zero, List.set_cons_succ]
            refine AnyS.take (i := 15) (oi := _) (d := some 39) (v := ?_) rfl rfl (by kernel_rfl) (fun _ _ _ h => h) (Or.inl ⟨by rfl, ?_⟩) (by assumption) ?_
            rotate_left 1
            · intro w hSw; obtain ⟨g0, g1, g2⟩ := hSw; go_simp <;> with_reducible rfl
            try simp only [Act.put, List.setIfInBounds_toArray, List.set_cons_zero, List.set_cons_succ]
            refine AnyS.take (i := 16) (oi := _) (d := some 40) (v := ?_) rfl rfl (by kernel_rfl) (fun _ _ _ h => h) (Or.inl ⟨by rfl, ?_⟩) (by assumption) ?_
            rotate_left 1
            · intro w hSw; obtain ⟨g0, g1, g2⟩ := hSw; go_simp <;> with_reducible rfl
            try simp only [Act.put, List.setIfInBounds_toArray, List.set_cons_zero, List.set_cons_succ]
            refine AnyS.take (i := 17) (oi := _) (d := some 41) (v := ?_) rfl rfl (by kernel_rfl) (fun _ _ _ h => h) (Or.inl ⟨by rfl, ?_⟩) (by assumption) ?_
            rotate_left 1
            · intro w hSw; obtain ⟨g0, g1, g2⟩ := hSw; go_simp <;> with_reducible rfl
            try simp only [Act.put, List.setIfInBounds_toArray, List.set_cons_zero, List.set_cons_succ]
            refine AnyS.take (i := 18) (oi := _) (d := some 42) (v := ?_) rfl rfl (by kernel_rfl) (fun _ _ _ h => h) (Or.inl ⟨by rfl, ?_⟩) (by assumption) ?_
            rotate_left 1
            · intro w hSw; obtain ⟨g0, g1, g2⟩ := hSw; go_simp <;> with_reducible rfl
            try simp only [Act.put, List.setIfInBounds_toArray, List.set_cons_zero, List.set_cons_succ]
            refine AnyS.take (i := 19) (oi := _) (d := some 43) (v := ?_) rfl rfl (by kernel_rfl) (fun _ _ _ h => h) (Or.inl ⟨by rfl, ?_⟩) (by assumption) ?_
            rotate_left 1
            · intro w hSw; obtain ⟨g0, g1, g2⟩ := hSw; go_simp <;> with_reducible rfl
            try simp only [Act.put, List.setIfInBounds_toArray, List.set_cons_zero, List.set_cons_succ]
            refine AnyS.take (i := 20) (oi := _) (d := some 44) (v := ?_) rfl rfl (by kernel_rfl) (fun _ _ _ h => h) (Or.inl ⟨by rfl, ?_⟩) (by assumption) ?_
            rotate_left 1
            · intro w hSw; obtain ⟨g0, g1, g2⟩ := hSw; go_simp <;> with_reducible rfl
            try simp only [Act.put, List.setIfInBounds_toArray, List.set_cons_zero, List.set_cons_succ]
            refine AnyS.one (i := 21) (o := _) rfl (by kernel_rfl) (by decide) (fun K hK => ?_)
            go_simp
            go_at_call 106
            with_reducible refine (HWT.out _ hD0).mono ?_
            intro eW xW hq
            obtain ⟨h1, bk⟩ := RetT.outD hq
            subst h1
            have HBKW := Lib.hid (belowT' hD0 bk)
            clear bk hq
            have hSW := HSC.out _ HBKW.out
            refine hK.out _ _ hSW (fun hHeld2 => ?_)
            clear hK K
            try simp only [Act.put, List.setIfInBounds_toArray, List.set_cons_zero, List.set_cons_succ]
            refine AnyS.take (i := 22) (oi := _) (d := some 46) (v := ?_) rfl rfl (by kernel_rfl) (fun _ _ _ h => h) (Or.inl ⟨by rfl, ?_⟩) (by assumption) ?_
            rotate_left 1
            · intro w hSw; obtain ⟨g0, g1, g2⟩ := hSw; go_simp <;> with_reducible rfl
            try simp only [Act.put, List.setIfInBounds_toArray, List.set_cons_zero, List.set_cons_succ]
            refine AnyS.take (i := 23) (oi := _) (d := some 47) (v := ?_) rfl rfl (by kernel_rfl) (fun _ _ _ h => h) (Or.inl ⟨by rfl, ?_⟩) (by assumption) ?_
            rotate_left 1
            · intro w hSw; obtain ⟨g0, g1, g2⟩ := hSw; go_simp <;> with_reducible rfl
            try simp only [Act.put, List.setIfInBounds_toArray, List.set_cons_zero, List.set_cons_succ]
            refine AnyS.take (i := 24) (oi := _) (d := some 48) (v := ?_) rfl rfl (by kernel_rfl) (fun _ _ _ h => h) (Or.inl ⟨by rfl, ?_⟩) (by assumption) ?_
            rotate_left 1
            · intro w hSw; obtain ⟨g0, g1, g2⟩ := hSw; go_simp <;> with_reducible rfl
            try simp only [Act.put, List.setIfInBounds_toArray, List.set_cons_zero, List.set_cons_succ]
            refine AnyS.take (i := 25) (oi := _) (d := some 49) (v := ?_) rfl rfl (by kernel_rfl) (fun _ _ _ h => h) (Or.inl ⟨by rfl, ?_⟩) (by assumption) ?_
            rotate_left 1
            · intro w hSw; obtain ⟨g0, g1, g2⟩ := hSw; go_simp <;> with_reducible rfl
            try simp only [Act.put, List.setIfInBounds_toArray, List.set_cons_zero, List.set_cons_succ]
            refine AnyS.take (i := 26) (oi := _) (d := some 50) (v := ?_) rfl rfl (by kernel_rfl) (fun _ _ _ h => h) (Or.inl ⟨by rfl, ?_⟩) (by assumption) ?_
            rotate_left 1
            · intro w hSw; obtain ⟨g0, g1, g2⟩ := hSw; go_simp <;> with_reducible rfl
            try simp only [Act.put, List.setIfInBounds_toArray, List.set_cons_zero, List.set_cons_succ]
            refine AnyS.take (i := 27) (oi := _) (d := some 51) (v := ?_) rfl rfl (by kernel_rfl) (fun _ _ _ h => h) (Or.inl ⟨by rfl, ?_⟩) (by assumption) ?_
            rotate_left 1
            · intro w hSw; obtain ⟨g0, g1, g2⟩ := hSw; go_simp <;> with_reducible rfl
            try simp only [Act.put, List.setIfInBounds_toArray, List.set_cons_zero, List.set_cons_succ]
            refine AnyS.one (i := 28) (o := _) rfl (by kernel_rfl) (by decide) (fun K hK => ?_)
            go_simp
            go_at_call 139
            with_reducible refine (HCN.out _ HBKW.out).mono ?_
            intro eN xN hq
            obtain ⟨h1, bk⟩ := RetT.outD hq
            subst h1
            have HBKN := Lib.hid (belowT' HBKW.out bk)
            clear bk hq
            have hSN := HSC.out _ HBKN.out
            refine hK.out _ _ hSN (fun hHeld2 => ?_)
            clear hK K
            try simp only [Act.put, List.setIfInBounds_toArray, List.set_cons_zero, List.set_cons_succ]
            refine AnyS.last (o := _) rfl (by kernel_rfl) (by kernel_rfl) (fun K hK => ?_)
            go_simp
            refine hK.out _ _ ?_
            clear hK K
            try simp only [Act.put, List.setIfInBounds_toArray, List.set_cons_zero, List.set_cons_succ]
            have HF := Lib.hid (HBAD.out (fun h => by have h9 := HNO3.out h; cases h9) _ HBKN.out)
            go_wp2_with fail
            go_ret
            exact HF.out
          | false =>
            refine AnyS.begin (S := fun wx => wx.cell? ⟨g, 0, none⟩ = some (.pointer (some ⟨ob, 0, none⟩)) ∧ wx.cell? ⟨ob, 3, none⟩ = some (.slice o.aA an o.ac) ∧ wx.cell? ⟨ob, 4, none⟩ = some (.int .u64 (tn : Int))) 29 (by kernel_rfl) hS0 (fun hHeld => ?_)
            refine AnyS.take (i := 0) (oi := _) (d := some 24) (v := ?_) rfl rfl (by kernel_rfl) (fun _ _ _ h => h) (Or.inl ⟨by rfl, ?_⟩) (by assumption) ?_
            rotate_left 1
            · intro w hSw; obtain ⟨g0, g1, g2⟩ := hSw; go_simp <;> with_reducible rfl
            try simp only [Act.put, List.setIfInBounds_toArray, List.set_cons_zero, List.set_cons_succ]
            refine AnyS.take (i := 1) (oi := _) (d := some 25) (v := ?_) rfl rfl (by kernel_rfl) (fun _ _ _ h => h) (Or.inl ⟨by rfl, ?_⟩) (by assumption) ?_
            rotate_left 1
            · intro w hSw; obtain ⟨g0, g1, g2⟩ := hSw; go_simp <;> with_reducible rfl
            try simp only [Act.put, List.setIfInBounds_toArray, List.set_cons_zero, List.set_cons_succ]
            refine AnyS.take (i := 2) (oi := _) (d := some 26) (v := ?_) rfl rfl (by kernel_rfl) (fun _ _ _ h => h) (Or.inl ⟨by rfl, ?_⟩) (by assumption) ?_
            rotate_left 1
            · intro w hSw; obtain ⟨g0, g1, g2⟩ := hSw; go_simp <;> with_reducible rfl
            try simp only [Act.put, List.setIfInBounds_toArray, List.set_cons_zero, List.set_cons_succ]
            refine AnyS.take (i := 3) (oi := _) (d := some 27) (v := ?_) rfl rfl (by kernel_rfl) (fun _ _ _ h => h) (Or.inl ⟨by rfl, ?_⟩) (by assumption) ?_
            rotate_left 1
            · intro w hSw; obtain ⟨g0, g1, g2⟩ := hSw; go_simp <;> with_reducible rfl
            try simp only [Act.put, List.setIfInBounds_toArray, List.set_cons_zero, List.set_cons_succ]
            refine AnyS.take (i := 4) (oi := _) (d := some 28) (v := ?_) rfl rfl (by kernel_rfl) (fun _ _ _ h => h) (Or.inl ⟨by rfl, ?_⟩) (by assumption) ?_
            rotate_left 1
            · intro w hSw; obtain ⟨g0, g1, g2⟩ := hSw; go_simp <;> with_reducible rfl
            try simp only [Act.put, List.setIfInBounds_toArray, List.set_cons_zero, List.set_cons_succ]
            refine AnyS.take (i := 5) (oi := _) (d := some 29) (v := ?_) rfl rfl (by kernel_rfl) (fun _ _ _ h => h) (Or.inl ⟨by rfl, ?_⟩) (by assumption) ?_
            rotate_left 1
            · intro w hSw; obtain ⟨g0, g1, g2⟩ := hSw; go_simp <;> with_reducible rfl
            try simp only [Act.put, List.setIfInBounds_toArray, List.set_cons_zero, List.set_cons_succ]
            refine AnyS.take (i := 6) (oi := _) (d := some 30) (v := ?_) rfl rfl (by kernel_rfl) (fun _ _ _ h => h) (Or.inl ⟨by rfl, ?_⟩) (by assumption) ?_
            rotate_left 1
            · intro w hSw; obtain ⟨g0, g1, g2⟩ := hSw; go_simp <;> with_reducible rfl
            try simp only [Act.put, List.setIfInBounds_toArray, List.set_cons_zero, List.set_cons_succ]
            refine AnyS.take (i := 7) (oi := _) (d := some 31) (v := ?_) rfl rfl (by kernel_rfl) (fun _ _ _ h => h) (Or.inl ⟨by rfl, ?_⟩) (by assumption) ?_
            rotate_left 1
            · intro w hSw; obtain ⟨g0, g1, g2⟩ := hSw; go_simp <;> with_reducible rfl
            try simp only [Act.put, List.setIfInBounds_toArray, List.set_cons_zero, List.set_cons_succ]
            refine AnyS.take (i := 8) (oi := _) (d := some 32) (v := ?_) rfl rfl (by kernel_rfl) (fun _ _ _ h => h) (Or.inl ⟨by rfl, ?_⟩) (by assumption) ?_
            rotate_left 1
            · intro w hSw; obtain ⟨g0, g1, g2⟩ := hSw; go_simp <;> with_reducible rfl
            try simp only [Act.put, List.setIfInBounds_toArray, List.set_cons_zero, List.set_cons_succ]
            refine AnyS.take (i := 9) (oi := _) (d := some 33) (v := ?_) rfl rfl (by kernel_rfl) (fun _ _ _ h => h) (Or.inl ⟨by rfl, ?_⟩) (by assumption) ?_
            rotate_left 1
            · intro w hSw; obtain ⟨g0, g1, g2⟩ := hSw; go_simp <;> with_reducible rfl
            try simp only [Act.put, List.setIfInBounds_toArray, List.set_cons_zero, List.set_cons_succ]
            refine AnyS.take (i := 10) (oi := _) (d := some 34) (v := ?_) rfl rfl (by kernel_rfl) (fun _ _ _ h => h) (Or.inl ⟨by rfl, ?_⟩) (by assumption) ?_
            rotate_left 1
            · intro w hSw; obtain ⟨g0, g1, g2⟩ := hSw; go_simp <;> with_reducible rfl
            try simp only [Act.put, List.setIfInBounds_toArray, List.set_cons_zero, List.set_cons_succ]
            refine AnyS.take (i := 11) (oi := _) (d := some 35) (v := ?_) rfl rfl (by kernel_rfl) (fun _ _ _ h => h) (Or.inl ⟨by rfl, ?_⟩) (by assumption) ?_
            rotate_left 1
            · intro w hSw; obtain ⟨g0, g1, g2⟩ := hSw; go_simp <;> with_reducible rfl
            try simp only [Act.put, List.setIfInBounds_toArray, List.set_cons_zero, List.set_cons_succ]
            refine AnyS.take (i := 12) (oi := _) (d := some 36) (v := ?_) rfl rfl (by kernel_rfl) (fun _ _ _ h => h) (Or.inl ⟨by rfl, ?_⟩) (by assumption) ?_
            rotate_left 1
            · intro w hSw; obtain ⟨g0, g1, g2⟩ := hSw; go_simp <;> with_reducible rfl
            try simp only [Act.put, List.setIfInBounds_toArray, List.set_cons_zero, List.set_cons_succ]
            refine AnyS.take (i := 13) (oi := _) (d := some 37) (v := ?_) rfl rfl (by kernel_rfl) (fun _ _ _ h => h) (Or.inl ⟨by rfl, ?_⟩) (by assumption) ?_
            rotate_left 1
            · intro w hSw; obtain ⟨g0, g1, g2⟩ := hSw; go_simp <;> with_reducible rfl
            try simp only [Act.put, List.setIfInBounds_toArray, List.set_cons_zero, List.set_cons_succ]
            refine AnyS.take (i := 14) (oi := _) (d := some 38) (v := ?_) rfl rfl (by kernel_rfl) (fun _ _ _ h => h) (Or.inl ⟨by rfl, ?_⟩) (by assumption) ?_
            rotate_left 1
            · intro w hSw; obtain ⟨g0, g1, g2⟩ := hSw; go_simp <;> with_reducible rfl
            try simp only [Act.put, List.setIfInBounds_toArray, List.set_cons_zero, List.set_cons_succ]
            refine AnyS.take (i := 15) (oi := _) (d := some 39) (v := ?_) rfl rfl (by kernel_rfl) (fun _ _ _ h => h) (Or.inl ⟨by rfl, ?_⟩) (by assumption) ?_
            rotate_left 1
            · intro w hSw; obtain ⟨g0, g1, g2⟩ := hSw; go_simp <;> with_reducible rfl
            try simp only [Act.put, List.setIfInBounds_toArray, List.set_cons_zero, List.set_cons_succ]
            refine AnyS.take (i := 16) (oi := _) (d := some 40) (v := ?_) rfl rfl (by kernel_rfl) (fun _ _ _ h => h) (Or.inl ⟨by rfl, ?_⟩) (by assumption) ?_
            rotate_left 1
            · intro w hSw; obtain ⟨g0, g1, g2⟩ := hSw; go_simp <;> with_reducible rfl
            try simp only [Act.put, List.setIfInBounds_toArray, List.set_cons_zero, List.set_cons_succ]
            refine AnyS.take (i := 17) (oi := _) (d := some 41) (v := ?_) rfl rfl (by kernel_rfl) (fun _ _ _ h => h) (Or.inl ⟨by rfl, ?_⟩) (by assumption) ?_
            rotate_left 1
            · intro w hSw; obtain ⟨g0, g1, g2⟩ := hSw; go_simp <;> with_reducible rfl
            try simp only [Act.put, List.setIfInBounds_toArray, List.set_cons_zero, List.set_cons_succ]
            refine AnyS.take (i := 18) (oi := _) (d := some 42) (v := ?_) rfl rfl (by kernel_rfl) (fun _ _ _ h => h) (Or.inl ⟨by rfl, ?_⟩) (by assumption) ?_
            rotate_left 1
            · intro w hSw; obtain ⟨g0, g1, g2⟩ := hSw; go_simp <;> with_reducible rfl
            try simp only [Act.put, List.setIfInBounds_toArray, List.set_cons_zero, List.set_cons_succ]
            refine AnyS.take (i := 19) (oi := _) (d := some 43) (v := ?_) rfl rfl (by kernel_rfl) (fun _ _ _ h => h) (Or.inl ⟨by rfl, ?_⟩) (by assumption) ?_
            rotate_left 1
            · intro w hSw; obtain ⟨g0, g1, g2⟩ := hSw; go_simp <;> with_reducible rfl
            try simp only [Act.put, List.setIfInBounds_toArray, List.set_cons_zero, List.set_cons_succ]
            refine AnyS.take (i := 20) (oi := _) (d := some 44) (v := ?_) rfl rfl (by kernel_rfl) (fun _ _ _ h => h) (Or.inl ⟨by rfl, ?_⟩) (by assumption) ?_
            rotate_left 1
            · intro w hSw; obtain ⟨g0, g1, g2⟩ := hSw; go_simp <;> with_reducible rfl
            try simp only [Act.put, List.setIfInBounds_toArray, List.set_cons_zero, List.set_cons_succ]
            refine AnyS.one (i := 21) (o := _) rfl (by kernel_rfl) (by decide) (fun K hK => ?_)
            go_simp
            go_at_call 106
            with_reducible refine (HWT.out _ hD0).mono ?_
            intro eW xW hq
            obtain ⟨h1, bk⟩ := RetT.outD hq
            subst h1
            have HBKW := Lib.hid (belowT' hD0 bk)
            clear bk hq
            have hSW := HSC.out _ HBKW.out
            refine hK.out _ _ hSW (fun hHeld2 => ?_)
            clear hK K
            try simp only [Act.put, List.setIfInBounds_toArray, List.set_cons_zero, List.set_cons_succ]
            refine AnyS.take (i := 22) (oi := _) (d := some 46) (v := ?_) rfl rfl (by kernel_rfl) (fun _ _ _ h => h) (Or.inl ⟨by rfl, ?_⟩) (by assumption) ?_
            rotate_left 1
            · intro w hSw; obtain ⟨g0, g1, g2⟩ := hSw; go_simp <;> with_reducible rfl
            try simp only [Act.put, List.setIfInBounds_toArray, List.set_cons_zero, List.set_cons_succ]
            refine AnyS.take (i := 23) (oi := _) (d := some 47) (v := ?_) rfl rfl (by kernel_rfl) (fun _ _ _ h => h) (Or.inl ⟨by rfl, ?_⟩) (by assumption) ?_
            rotate_left 1
            · intro w hSw; obtain ⟨g0, g1, g2⟩ := hSw; go_simp <;> with_reducible rfl
            try simp only [Act.put, List.setIfInBounds_toArray, List.set_cons_zero, List.set_cons_succ]
            refine AnyS.take (i := 24) (oi := _) (d := some 48) (v := ?_) rfl rfl (by kernel_rfl) (fun _ _ _ h => h) (Or.inl ⟨by rfl, ?_⟩) (by assumption) ?_
            rotate_left 1
            · intro w hSw; obtain ⟨g0, g1, g2⟩ := hSw; go_simp <;> with_reducible rfl
            try simp only [Act.put, List.setIfInBounds_toArray, List.set_cons_zero, List.set_cons_succ]
            refine AnyS.take (i := 25) (oi := _) (d := some 49) (v := ?_) rfl rfl (by kernel_rfl) (fun _ _ _ h => h) (Or.inl ⟨by rfl, ?_⟩) (by assumption) ?_
            rotate_left 1
            · intro w hSw; obtain ⟨g0, g1, g2⟩ := hSw; go_simp <;> with_reducible rfl
            try simp only [Act.put, List.setIfInBounds_toArray, List.set_cons_zero, List.set_cons_succ]
            refine AnyS.take (i := 26) (oi := _) (d := some 50) (v := ?_) rfl rfl (by kernel_rfl) (fun _ _ _ h => h) (Or.inl ⟨by rfl, ?_⟩) (by assumption) ?_
            rotate_left 1
            · intro w hSw; obtain ⟨g0, g1, g2⟩ := hSw; go_simp <;> with_reducible rfl
            try simp only [Act.put, List.setIfInBounds_toArray, List.set_cons_zero, List.set_cons_succ]
            refine AnyS.take (i := 27) (oi := _) (d := some 51) (v := ?_) rfl rfl (by kernel_rfl) (fun _ _ _ h => h) (Or.inl ⟨by rfl, ?_⟩) (by assumption) ?_
            rotate_left 1
            · intro w hSw; obtain ⟨g0, g1, g2⟩ := hSw; go_simp <;> with_reducible rfl
            try simp only [Act.put, List.setIfInBounds_toArray, List.set_cons_zero, List.set_cons_succ]
            refine AnyS.one (i := 28) (o := _) rfl (by kernel_rfl) (by decide) (fun K hK => ?_)
            go_simp
            go_at_call 139
            with_reducible refine (HCN.out _ HBKW.out).mono ?_
            intro eN xN hq
            obtain ⟨h1, bk⟩ := RetT.outD hq
            subst h1
            have HBKN := Lib.hid (belowT' HBKW.out bk)
            clear bk hq
            have hSN := HSC.out _ HBKN.out
            refine hK.out _ _ hSN (fun hHeld2 => ?_)
            clear hK K
            try simp only [Act.put, List.setIfInBounds_toArray, List.set_cons_zero, List.set_cons_succ]
            refine AnyS.last (o := _) rfl (by kernel_rfl) (by kernel_rfl) (fun K hK => ?_)
            go_simp
            refine hK.out _ _ ?_
            clear hK K
            try simp only [Act.put, List.setIfInBounds_toArray, List.set_cons_zero, List.set_cons_succ]
            have HQ := Lib.hid (belowT' HBV.out HBKN.out)
            go_wp2_with fail
            go_roundw
            case rel => exact ⟨k + 1, by omega, by go_num, HQ.out⟩
            case measure => simp [intOf]; omega
        | false =>
          refine AnyS.begin (S := fun wx => wx.cell? ⟨g, 0, none⟩ = some (.pointer (some ⟨ob, 0, none⟩)) ∧ wx.cell? ⟨ob, 3, none⟩ = some (.slice o.aA an o.ac) ∧ wx.cell? ⟨ob, 4, none⟩ = some (.int .u64 (tn : Int))) 29 (by kernel_rfl) hS0 (fun hHeld => ?_)
          refine AnyS.take (i := 0) (oi := _) (d := some 24) (v := ?_) rfl rfl (by kernel_rfl) (fun _ _ _ h => h) (Or.inl ⟨by rfl, ?_⟩) (by assumption) ?_
          rotate_left 1
          · intro w hSw; obtain ⟨g0, g1, g2⟩ := hSw; go_simp <;> with_reducible rfl
          try simp only [Act.put, List.setIfInBounds_toArray, List.set_cons_zero, List.set_cons_succ]
          refine AnyS.take (i := 1) (oi := _) (d := some 25) (v := ?_) rfl rfl (by kernel_rfl) (fun _ _ _ h => h) (Or.inl ⟨by rfl, ?_⟩) (by assumption) ?_
          rotate_left 1
          · intro w hSw; obtain ⟨g0, g1, g2⟩ := hSw; go_simp <;> with_reducible rfl
          try simp only [Act.put, List.setIfInBounds_toArray, List.set_cons_zero, List.set_cons_succ]
          refine AnyS.take (i := 2) (oi := _) (d := some 26) (v := ?_) rfl rfl (by kernel_rfl) (fun _ _ _ h => h) (Or.inl ⟨by rfl, ?_⟩) (by assumption) ?_
          rotate_left 1
          · intro w hSw; obtain ⟨g0, g1, g2⟩ := hSw; go_simp <;> with_reducible rfl
          try simp only [Act.put, List.setIfInBounds_toArray, List.set_cons_zero, List.set_cons_succ]
          refine AnyS.take (i := 3) (oi := _) (d := some 27) (v := ?_) rfl rfl (by kernel_rfl) (fun _ _ _ h => h) (Or.inl ⟨by rfl, ?_⟩) (by assumption) ?_
          rotate_left 1
          · intro w hSw; obtain ⟨g0, g1, g2⟩ := hSw; go_simp <;> with_reducible rfl
          try simp only [Act.put, List.setIfInBounds_toArray, List.set_cons_zero, List.set_cons_succ]
          refine AnyS.take (i := 4) (oi := _) (d := some 28) (v := ?_) rfl rfl (by kernel_rfl) (fun _ _ _ h => h) (Or.inl ⟨by rfl, ?_⟩) (by assumption) ?_
          rotate_left 1
          · intro w hSw; obtain ⟨g0, g1, g2⟩ := hSw; go_simp <;> with_reducible rfl
          try simp only [Act.put, List.setIfInBounds_toArray, List.set_cons_zero, List.set_cons_succ]
          refine AnyS.take (i := 5) (oi := _) (d := some 29) (v := ?_) rfl rfl (by kernel_rfl) (fun _ _ _ h => h) (Or.inl ⟨by rfl, ?_⟩) (by assumption) ?_
          rotate_left 1
          · intro w hSw; obtain ⟨g0, g1, g2⟩ := hSw; go_simp <;> with_reducible rfl
          try simp only [Act.put, List.setIfInBounds_toArray, List.set_cons_zero, List.set_cons_succ]
          refine AnyS.take (i := 6) (oi := _) (d := some 30) (v := ?_) rfl rfl (by kernel_rfl) (fun _ _ _ h => h) (Or.inl ⟨by rfl, ?_⟩) (by assumption) ?_
          rotate_left 1
          · intro w hSw; obtain ⟨g0, g1, g2⟩ := hSw; go_simp <;> with_reducible rfl
          try simp only [Act.put, List.setIfInBounds_toArray, List.set_cons_zero, List.set_cons_succ]
          refine AnyS.take (i := 7) (oi := _) (d := some 31) (v := ?_) rfl rfl (by kernel_rfl) (fun _ _ _ h => h) (Or.inl ⟨by rfl, ?_⟩) (by assumption) ?_
          rotate_left 1
          · intro w hSw; obtain ⟨g0, g1, g2⟩ := hSw; go_simp <;> with_reducible rfl
          try simp only [Act.put, List.setIfInBounds_toArray, List.set_cons_zero, List.set_cons_succ]
          refine AnyS.take (i := 8) (oi := _) (d := some 32) (v := ?_) rfl rfl (by kernel_rfl) (fun _ _ _ h => h) (Or.inl ⟨by rfl, ?_⟩) (by assumption) ?_
          rotate_left 1
          · intro w hSw; obtain ⟨g0, g1, g2⟩ := hSw; go_simp <;> with_reducible rfl
          try simp only [Act.put, List.setIfInBounds_toArray, List.set_cons_zero, List.set_cons_succ]
          refine AnyS.take (i := 9) (oi := _) (d := some 33) (v := ?_) rfl rfl (by kernel_rfl) (fun _ _ _ h => h) (Or.inl ⟨by rfl, ?_⟩) (by assumption) ?_
          rotate_left 1
          · intro w hSw; obtain ⟨g0, g1, g2⟩ := hSw; go_simp <;> with_reducible rfl
          try simp only [Act.put, List.setIfInBounds_toArray, List.set_cons_zero, List.set_cons_succ]
          refine AnyS.take (i := 10) (oi := _) (d := some 34) (v := ?_) rfl rfl (by kernel_rfl) (fun _ _ _ h => h) (Or.inl ⟨by rfl, ?_⟩) (by assumption) ?_
          rotate_left 1
          · intro w hSw; obtain ⟨g0, g1, g2⟩ := hSw; go_simp <;> with_reducible rfl
          try simp only [Act.put, List.setIfInBounds_toArray, List.set_cons_zero, List.set_cons_succ]
          refine AnyS.take (i := 11) (oi := _) (d := some 35) (v := ?_) rfl rfl (by kernel_rfl) (fun _ _ _ h => h) (Or.inl ⟨by rfl, ?_⟩) (by assumption) ?_
          rotate_left 1
          · intro w hSw; obtain ⟨g0, g1, g2⟩ := hSw; go_simp <;> with_reducible rfl
          try simp only [Act.put, List.setIfInBounds_toArray, List.set_cons_zero, List.set_cons_succ]
          refine AnyS.take (i := 12) (oi := _) (d := some 36) (v := ?_) rfl rfl (by kernel_rfl) (fun _ _ _ h => h) (Or.inl ⟨by rfl, ?_⟩) (by assumption) ?_
          rotate_left 1
          · intro w hSw; obtain ⟨g0, g1, g2⟩ := hSw; go_simp <;> with_reducible rfl
          try simp only [Act.put, List.setIfInBounds_toArray, List.set_cons_zero, List.set_cons_succ]
          refine AnyS.take (i := 13) (oi := _) (d := some 37) (v := ?_) rfl rfl (by kernel_rfl) (fun _ _ _ h => h) (Or.inl ⟨by rfl, ?_⟩) (by assumption) ?_
          rotate_left 1
          · intro w hSw; obtain ⟨g0, g1, g2⟩ := hSw; go_simp <;> with_reducible rfl
          try simp only [Act.put, List.setIfInBounds_toArray, List.set_cons_zero, List.set_cons_succ]
          refine AnyS.take (i := 14) (oi := _) (d := some 38) (v := ?_) rfl rfl (by kernel_rfl) (fun _ _ _ h => h) (Or.inl ⟨by rfl, ?_⟩) (by assumption) ?_
          rotate_left 1
          · intro w hSw; obtain ⟨g0, g1, g2⟩ := hSw; go_simp <;> with_reducible rfl
          try simp only [Act.put, List.setIfInBounds_toArray, List.set_cons_zero, List.set_cons_succ]
          refine AnyS.take (i := 15) (oi := _) (d := some 39) (v := ?_) rfl rfl (by kernel_rfl) (fun _ _ _ h => h) (Or.inl ⟨by rfl, ?_⟩) (by assumption) ?_
          rotate_left 1
          · intro w hSw; obtain ⟨g0, g1, g2⟩ := hSw; go_simp <;> with_reducible rfl
          try simp only [Act.put, List.setIfInBounds_toArray, List.set_cons_zero, List.set_cons_succ]
          refine AnyS.take (i := 16) (oi := _) (d := some 40) (v := ?_) rfl rfl (by kernel_rfl) (fun _ _ _ h => h) (Or.inl ⟨by rfl, ?_⟩) (by assumption) ?_
          rotate_left 1
          · intro w hSw; obtain ⟨g0, g1, g2⟩ := hSw; go_simp <;> with_reducible rfl
          try simp only [Act.put, List.setIfInBounds_toArray, List.set_cons_zero, List.set_cons_succ]
          refine AnyS.take (i := 17) (oi := _) (d := some 41) (v := ?_) rfl rfl (by kernel_rfl) (fun _ _ _ h => h) (Or.inl ⟨by rfl, ?_⟩) (by assumption) ?_
          rotate_left 1
          · intro w hSw; obtain ⟨g0, g1, g2⟩ := hSw; go_simp <;> with_reducible rfl
          try simp only [Act.put, List.setIfInBounds_toArray, List.set_cons_zero, List.set_cons_succ]
          refine AnyS.take (i := 18) (oi := _) (d := some 42) (v := ?_) rfl rfl (by kernel_rfl) (fun _ _ _ h => h) (Or.inl ⟨by rfl, ?_⟩) (by assumption) ?_
          rotate_left 1
          · intro w hSw; obtain ⟨g0, g1, g2⟩ := hSw; go_simp <;> with_reducible rfl
          try simp only [Act.put, List.setIfInBounds_toArray, List.set_cons_zero, List.set_cons_succ]
          refine AnyS.take (i := 19) (oi := _) (d := some 43) (v := ?_) rfl rfl (by kernel_rfl) (fun _ _ _ h => h) (Or.inl ⟨by rfl, ?_⟩) (by assumption) ?_
          rotate_left 1
          · intro w hSw; obtain ⟨g0, g1, g2⟩ := hSw; go_simp <;> with_reducible rfl
          try simp only [Act.put, List.setIfInBounds_toArray, List.set_cons_zero, List.set_cons_succ]
          refine AnyS.take (i := 20) (oi := _) (d := some 44) (v := ?_) rfl rfl (by kernel_rfl) (fun _ _ _ h => h) (Or.inl ⟨by rfl, ?_⟩) (by assumption) ?_
          rotate_left 1
          · intro w hSw; obtain ⟨g0, g1, g2⟩ := hSw; go_simp <;> with_reducible rfl
          try simp only [Act.put, List.setIfInBounds_toArray, List.set_cons_zero, List.set_cons_succ]
          refine AnyS.one (i := 21) (o := _) rfl (by kernel_rfl) (by decide) (fun K hK => ?_)
          go_simp
          go_at_call 106
          with_reducible refine (HWT.out _ hD0).mono ?_
          intro eW xW hq
          obtain ⟨h1, bk⟩ := RetT.outD hq
          subst h1
          have HBKW := Lib.hid (belowT' hD0 bk)
          clear bk hq
          have hSW := HSC.out _ HBKW.out
          refine hK.out _ _ hSW (fun hHeld2 => ?_)
          clear hK K
          try simp only [Act.put, List.setIfInBounds_toArray, List.set_cons_zero, List.set_cons_succ]
          refine AnyS.take (i := 22) (oi := _) (d := some 46) (v := ?_) rfl rfl (by kernel_rfl) (fun _ _ _ h => h) (Or.inl ⟨by rfl, ?_⟩) (by assumption) ?_
          rotate_left 1
          · intro w hSw; obtain ⟨g0, g1, g2⟩ := hSw; go_simp <;> with_reducible rfl
          try simp only [Act.put, List.setIfInBounds_toArray, List.set_cons_zero, List.set_cons_succ]
          refine AnyS.take (i := 23) (oi := _) (d := some 47) (v := ?_) rfl rfl (by kernel_rfl) (fun _ _ _ h => h) (Or.inl ⟨by rfl, ?_⟩) (by assumption) ?_
          rotate_left 1
          · intro w hSw; obtain ⟨g0, g1, g2⟩ := hSw; go_simp <;> with_reducible rfl
          try simp only [Act.put, List.setIfInBounds_toArray, List.set_cons_zero, List.set_cons_succ]
          refine AnyS.take (i := 24) (oi := _) (d := some 48) (v := ?_) rfl rfl (by kernel_rfl) (fun _ _ _ h => h) (Or.inl ⟨by rfl, ?_⟩) (by assumption) ?_
          rotate_left 1
          · intro w hSw; obtain ⟨g0, g1, g2⟩ := hSw; go_simp <;> with_reducible rfl
          try simp only [Act.put, List.setIfInBounds_toArray, List.set_cons_zero, List.set_cons_succ]
          refine AnyS.take (i := 25) (oi := _) (d := some 49) (v := ?_) rfl rfl (by kernel_rfl) (fun _ _ _ h => h) (Or.inl ⟨by rfl, ?_⟩) (by assumption) ?_
          rotate_left 1
          · intro w hSw; obtain ⟨g0, g1, g2⟩ := hSw; go_simp <;> with_reducible rfl
          try simp only [Act.put, List.setIfInBounds_toArray, List.set_cons_zero, List.set_cons_succ]
          refine AnyS.take (i := 26) (oi := _) (d := some 50) (v := undef) rfl rfl (by kernel_rfl) (fun _ _ _ h => h) (Or.inr ⟨by rfl, rfl⟩) (by assumption) ?_
          try simp only [Act.put, List.setIfInBounds_toArray, List.set_cons_zero, List.set_cons_succ]
          refine AnyS.take (i := 27) (oi := _) (d := some 51) (v := undef) rfl rfl (by kernel_rfl) (fun _ _ _ h => h) (Or.inr ⟨by rfl, rfl⟩) (by assumption) ?_
          try simp only [Act.put, List.setIfInBounds_toArray, List.set_cons_zero, List.set_cons_succ]
          refine AnyS.take (i := 28) (oi := _) (d := some 52) (v := undef) rfl rfl (by kernel_rfl) (fun _ _ _ h => h) (Or.inr ⟨by rfl, rfl⟩) (by assumption) ?_
          try simp only [Act.put, List.setIfInBounds_toArray, List.set_cons_zero, List.set_cons_succ]
          refine AnyS.last (o := _) rfl (by kernel_rfl) (by kernel_rfl) (fun K hK => ?_)
          go_simp
          refine hK.out _ _ ?_
          clear hK K
          try simp only [Act.put, List.setIfInBounds_toArray, List.set_cons_zero, List.set_cons_succ]
          have HF := Lib.hid (HBAD.out (fun h => by have h9 := HNO2.out h ht; cases h9) _ HBKW.out)
          go_wp2_with fail
          go_ret
          exact HF.out
    · have HE := Lib.hid (ends_any hT HN.out HSU.out)
      clear hB hT
      go_wp2_with fail
      with_reducible refine HE.out.mono ?_
      intro e w5 hq
      obtain ⟨z, h1, hz, b5⟩ := hq.out
      subst h1
      have HF : Hid (RetEz w (RgtP os) (.returned (.bool z)) w5) := Lib.hid ⟨z, rfl, fun h => hz h.acy, belowT' HB.out b5⟩
      clear hq hz b5
      go_wp2_with fail
      go_ret
      exact HF.out
end
end Go.Proofs.Ytmpdenpopokigaa
namespace Go.Proofs.Ytmpdenpopokigaa
open Go Go.RowKit

theorem elem_rb : Try.prog.elem 101 = 36 := by kernel_rfl
theorem size_rb (w : World) : (sizeOf 36).run Try.prog w = .ok 1 w := by kernel_rfl
theorem cutRB (A : Option Addr) {n c : Nat} (w : World) : (Instr.slice 101 (.slice A (n + 1) c) (some (.int .i64 1)) none none).run Try.prog w = .ok (.slice (cutA A 1 c) n (c - 1)) w := by
  have h := cut_l (P := Try.prog) Try.underlying101 elem_rb size_rb A (n := n + 1) (cap := c) (k := 1) (by omega) w
  simpa using h
/-- An owner as plain data. -/
structure Od where
  s : Nat
  q : Nat
  held : List Rg
  asked : List Rg
/-- 'These are that data's owners, who don't wait.' -/
def ConO (os : List Ob) (ds : List Od) : Prop := os.length = ds.length ∧ (∀ (i : Nat) o d, os[i]? = some o → ds[i]? = some d → o.s = d.s ∧ o.q = d.q ∧ o.held = d.held ∧ o.asked = d.asked) ∧ (∀ u ∈ os, u.turn = 0) ∧ (os.map (·.b)).Nodup
def AllO (ps : List (List UInt8)) (ds : List Od) : Prop := ps.length = ds.length ∧ ∀ (i : Nat) p d, ps[i]? = some p → ds[i]? = some d → OkO p d.s d.q d.held d.asked
/-- 'However they lie in memory, that is a table.' -/
def GoodT (ds : List Od) (pl : List Nat) : Prop := ∀ os0 t os, ConO os0 ds → Ln os0 pl t os → RgtP os
def OkT (b : List UInt8) (ds : List Od) (pl : List Nat) : Prop := ∃ p0 ps, parts b = (p0 :: ps, 0) ∧ AllO ps ds ∧ p0 = lnB pl ∧ pl.Nodup ∧ (∀ k ∈ pl, k < ds.length) ∧ GoodT ds pl
def RetDe (w : World) (b : List UInt8) (e : Ending) (w' : World) : Prop :=
  (∃ (bs p : Nat) (OA : Option Addr) (oc t : Nat) (os0 os : List Ob) (ds : List Od) (pl : List Nat) (p0 : List UInt8) (ps : List (List UInt8)), e = .returned (.tuple #[.pointer (some ⟨p, 0, none⟩), .int .i64 0]) ∧ w.heap.size ≤ bs ∧ TkAt w' bs p OA oc t os ∧ parts b = (p0 :: ps, 0) ∧ AllO ps ds ∧ ConO os0 ds ∧ p0 = lnB pl ∧ Ln os0 pl t os ∧ Below w.heap.size w w') ∨
  (∃ ee, e = .returned (.tuple #[.pointer none, .int .i64 ee]) ∧ Er ee ∧ (∀ ds pl, ¬ OkT b ds pl) ∧ Below w.heap.size w w')
theorem RetDe.bad {w w' : World} {b : List UInt8} {ee : Int} (hb : Below w.heap.size w w') (he : Er ee) (h : ∀ ds pl, ¬ OkT b ds pl) : RetDe w b (.returned (.tuple #[.pointer none, .int .i64 ee])) w' := .inr ⟨ee, rfl, he, h, hb⟩
/-- An owner that was made is put behind the others. -/
theorem tk_add {w w6 : World} {bs p : Nat} {OA OA1 : Option Addr} {oc oc1 turns : Nat} {os : List Ob} {o : Ob} (h : TkAt w bs p OA oc turns os) (hbs : bs ≤ w.heap.size) {V : World} (hV : Below w.heap.size w V) (ho : ObAt V w.heap.size o)
    (hown : OwnV 157 w6 bs OA1 (os.length + 1) oc1 (os.map obP ++ [obP o])) (hg : V.grownBy w6 (blk OA)) :
    TkAt (w6.setCell ⟨p, 0, none⟩ (.slice OA1 (os.length + 1) oc1)) bs p OA1 oc1 turns (os ++ [o]) ∧ Cl w6 p #[.slice OA os.length oc, .int .u64 (turns : Int)] 91 ∧ Fr V (w6.setCell ⟨p, 0, none⟩ (.slice OA1 (os.length + 1) oc1)) (p :: (blk OA).toList) := by
  have sV := hV.size
  have hT := h.below hV
  have hOlt : ∀ b, blk OA = some b → b < w.heap.size := fun b hb => (OwnV.lt h.row b hb).2
  have hf6 : Fr V w6 (blk OA).toList := Fr.of_grown hg (fun b hb => by simp [hb])
  have nb : NoBy V (blk OA).toList := NoBy.row hT.row (by decide)
  have hpOA : p ∉ (blk OA).toList := fun hm => cl_row h.cl h.row (by decide) (by simpa using hm)
  have hcl6 : Cl w6 p #[.slice OA os.length oc, .int .u64 (turns : Int)] 91 := (hf6.block p hT.cl.lt hpOA).trans hT.cl
  have f7 : Fr w6 (w6.setCell ⟨p, 0, none⟩ (.slice OA1 (os.length + 1) oc1)) [p] := Fr.set _ _ _ _
  have hplt : p < w.heap.size := h.cl.lt
  have nb6 : NoBy w6 [p] := NoBy.cl hcl6 (by decide)
  have hoff : ∀ b ∈ o.b :: o.rows, w.heap.size ≤ b := fun b hb => by
    rcases List.mem_cons.1 hb with e | hb
    · rw [e]; exact ho.ge
    · exact (ho.row_lt hb).1
  refine ⟨⟨?_, h.ge, ?_, ?_, ?_⟩, hcl6, (hf6.mono (fun b hb => .inl (List.mem_cons_of_mem _ hb))).trans f7 (fun b hb => .inl (by simp at hb; simp [hb]))⟩
  · have := hcl6.set 0 (.slice OA1 (os.length + 1) oc1)
    simpa using this
  · have e1 : (os ++ [o]).map obP = os.map obP ++ [obP o] := by rw [List.map_append]; rfl
    have e2 : (os ++ [o]).length = os.length + 1 := by simp
    rw [e1, e2]
    exact hown.frK f7 (fun b hb hm => by
      have e : b = p := by simpa using hm
      subst e
      exact cl_row hcl6 hown (by decide) hb)
  · intro u hu
    rcases List.mem_append.1 hu with hu | hu
    · have h1 := hT.obs u hu
      have h2 : ObAt w6 bs u := h1.fr hf6 (fun hm2 => hT.ne_row h1 u.b (by simpa using hm2) (by simp)) (fun k hk hm2 => hT.ne_row h1 k (by simpa using hm2) (by simp [hk])) nb
      refine h2.fr f7 (fun hm2 => ?_) (fun k hk hm2 => ?_) nb6
      · have e : u.b = p := by simpa using hm2
        exact hT.ne_ob h1 (by simp [e])
      · obtain rfl : k = p := by simpa using hm2
        exact hT.ne_ob h1 (by simp [hk])
    · obtain rfl := List.mem_singleton.1 hu
      have h0 : ObAt V bs u := ⟨ho.1, Nat.le_trans hbs ho.2.1, (by obtain ⟨ps, a, b, c⟩ := ho.hR; exact ⟨ps, a.mono hbs, (fun q hq => by obtain ⟨A, m, d, e, f⟩ := b q hq; exact ⟨A, m, d, e, f.mono hbs⟩), c⟩), (by obtain ⟨ps, a, b, c⟩ := ho.aR; exact ⟨ps, a.mono hbs, (fun q hq => by obtain ⟨A, m, d, e, f⟩ := b q hq; exact ⟨A, m, d, e, f.mono hbs⟩), c⟩), ho.nd⟩
      have h2 : ObAt w6 bs u := h0.fr hf6 (fun hm2 => by
        have h3 := hoff u.b (by simp)
        have h4 := hOlt u.b (by simpa using hm2)
        omega) (fun k hk hm2 => by
        have h3 := hoff k (by simp [hk])
        have h4 := hOlt k (by simpa using hm2)
        omega) nb
      refine h2.fr f7 (fun hm2 => ?_) (fun k hk hm2 => ?_) nb6
      · have h3 := hoff u.b (by simp)
        have e : u.b = p := by simpa using hm2
        omega
      · have h3 := hoff k (by simp [hk])
        have e : k = p := by simpa using hm2
        omega
  · rw [List.pairwise_append]
    refine ⟨h.dis, List.pairwise_singleton _ _, fun u hu v hv => ?_⟩
    obtain rfl := List.mem_singleton.1 hv
    have h1 := h.obs u hu
    refine ⟨fun e => ?_, fun k hk hm => ?_⟩
    · have := h1.lt; have := ho.ge; omega
    · have h3 := (h1.row_lt hk).2
      have h4 := hoff k (List.mem_cons_of_mem _ hm)
      omega
/-- What stands ahead of each owner. -/
def DeS (w2 : World) (ps : List (List UInt8)) (p : Nat) (k : Nat) (wr : World) : Prop := ∃ (OA : Option Addr) (oc : Nat) (os : List Ob) (ds : List Od), TkAt wr w2.heap.size p OA oc 0 os ∧ AllO (ps.take k) ds ∧ ConO os ds ∧ Below w2.heap.size w2 wr
theorem conO_add {os : List Ob} {ds : List Od} {o : Ob} (h : ConO os ds) (ht : o.turn = 0) (hb : ∀ u ∈ os, u.b ≠ o.b) : ConO (os ++ [o]) (ds ++ [⟨o.s, o.q, o.held, o.asked⟩]) := by
  obtain ⟨h1, h2, h3, h4⟩ := h
  refine ⟨by simp [h1], fun i u d hu hd => ?_, fun u hu => ?_, ?_⟩
  · by_cases hi : i < os.length
    · rw [List.getElem?_append_left hi] at hu
      rw [List.getElem?_append_left (by omega)] at hd
      exact h2 i u d hu hd
    · have h5 := (List.getElem?_eq_some_iff.1 hu).1
      simp at h5
      have e1 : i = os.length := by omega
      rw [e1, List.getElem?_append_right (Nat.le_refl _)] at hu
      rw [e1, List.getElem?_append_right (by omega)] at hd
      simp at hu
      rw [show os.length - ds.length = 0 by omega] at hd
      simp at hd
      subst hu hd
      exact ⟨rfl, rfl, rfl, rfl⟩
  · rcases List.mem_append.1 hu with hu | hu
    · exact h3 u hu
    · rw [List.mem_singleton.1 hu]; exact ht
  · rw [List.map_append, List.nodup_append]
    refine ⟨h4, by simp, fun a ha b hb2 e => ?_⟩
    obtain ⟨u, hu, rfl⟩ := List.mem_map.1 ha
    have hb2 : b = o.b := by simpa using hb2
    exact hb u hu (by rw [e, hb2])
theorem allO_add {ps : List (List UInt8)} {ds : List Od} {k : Nat} {x : List UInt8} {d : Od} (h : AllO (ps.take k) ds) (hx : ps[k]? = some x) (ho : OkO x d.s d.q d.held d.asked) : AllO (ps.take (k + 1)) (ds ++ [d]) := by
  have hk := (List.getElem?_eq_some_iff.1 hx).1
  have hl : (ps.take k).length = k := by rw [List.length_take]; omega
  rw [List.take_add_one, hx]
  refine ⟨by simp [h.1], fun i p e hp he => ?_⟩
  have hp : (ps.take k ++ [x])[i]? = some p := hp
  by_cases hi : i < k
  · rw [List.getElem?_append_left (by omega)] at hp
    rw [List.getElem?_append_left (by have := h.1; omega)] at he
    exact h.2 i p e hp he
  · have h5 := (List.getElem?_eq_some_iff.1 hp).1
    simp at h5
    have e1 : i = k := by omega
    subst e1
    rw [List.getElem?_append_right (by omega)] at hp
    rw [List.getElem?_append_right (by have := h.1; omega)] at he
    rw [hl, Nat.sub_self] at hp
    rw [show i - ds.length = 0 by have := h.1; omega] at he
    simp at hp he
    subst hp he
    exact ho
theorem DeS.add {w2 wr V w6 : World} {ps : List (List UInt8)} {p k oc oc1 : Nat} {OA OA1 : Option Addr} {os : List Ob} {ds : List Od} {x : List UInt8} {o : Ob} (hT : TkAt wr w2.heap.size p OA oc 0 os) (hA : AllO (ps.take k) ds) (hC : ConO os ds) (hB : Below w2.heap.size w2 wr)
    (hx : ps[k]? = some x) (ho : OkO x o.s o.q o.held o.asked) (ht : o.turn = 0) (hOb : ObAt V wr.heap.size o) (hV : Below wr.heap.size wr V)
    (hown : OwnV 157 w6 w2.heap.size OA1 (os.length + 1) oc1 (os.map obP ++ [obP o])) (hg : V.grownBy w6 (blk OA)) :
    Cl w6 p #[.slice OA os.length oc, .int .u64 0] 91 ∧ DeS w2 ps p (k + 1) (w6.setCell ⟨p, 0, none⟩ (.slice OA1 (os.length + 1) oc1)) := by
  have h1 := tk_add hT hB.size hV hOb hown hg
  refine ⟨h1.2.1, OA1, oc1, os ++ [o], ds ++ [⟨o.s, o.q, o.held, o.asked⟩], by simpa using h1.1, allO_add hA hx ho, conO_add hC ht (fun u hu e => ?_), ?_⟩
  · have h2 := (hT.obs u hu).lt
    have h3 := hOb.ge
    omega
  · have h2 := h1.2.2.below (base := w2.heap.size) (fun b hb => by
      rcases List.mem_cons.1 hb with e | hb
      · rw [e]; exact hT.ge
      · exact (hT.row.lt b (by simpa using hb)).1) (Nat.le_trans hB.size hV.size)
    exact (hB.trans (hV.mono hB.size)).trans h2
theorem okR_det {xs : List UInt8} {a b : List Rg} (h1 : OkR xs a) (h2 : OkR xs b) : a = b := by
  obtain ⟨ps, e1, m1⟩ := h1
  obtain ⟨qs, e2, m2⟩ := h2
  rw [e1] at e2
  injection e2 with e2
  subst e2
  rw [m1] at m2
  exact (List.map_inj_right (fun x y h => by injection h)).1 m2
theorem okO_det {x : List UInt8} {s q s' q' : Nat} {a b a' b' : List Rg} (h1 : OkO x s q a b) (h2 : OkO x s' q' a' b') : s = s' ∧ q = q' ∧ a = a' ∧ b = b' := by
  obtain ⟨u, v, c, d, e, k1, k2, k3, k4, _⟩ := h1
  obtain ⟨j1, j2, j3, j4, _⟩ := okO_four e h2
  rw [k1] at j1
  rw [k2] at j2
  injection j1 with j1
  injection j2 with j2
  exact ⟨j1, j2, okR_det k3 j3, okR_det k4 j4⟩
theorem allO_det {ps : List (List UInt8)} {ds es : List Od} (h1 : AllO ps ds) (h2 : AllO ps es) : ds = es := by
  apply List.ext_getElem?
  intro i
  by_cases hi : i < ps.length
  · have h3 : i < ds.length := by rw [← h1.1]; exact hi
    have h4 : i < es.length := by rw [← h2.1]; exact hi
    rw [List.getElem?_eq_getElem h3, List.getElem?_eq_getElem h4]
    have k1 := h1.2 i _ _ (List.getElem?_eq_getElem hi) (List.getElem?_eq_getElem h3)
    have k2 := h2.2 i _ _ (List.getElem?_eq_getElem hi) (List.getElem?_eq_getElem h4)
    obtain ⟨a, b, c, d⟩ := okO_det k1 k2
    generalize ds[i] = x at a b c d
    generalize es[i] = y at a b c d
    obtain ⟨x1, x2, x3, x4⟩ := x
    obtain ⟨y1, y2, y3, y4⟩ := y
    simp only at a b c d
    rw [a, b, c, d]
  · rw [List.getElem?_eq_none (by rw [← h1.1]; omega), List.getElem?_eq_none (by rw [← h2.1]; omega)]
theorem lnB_inj : ∀ {a b : List Nat}, (∀ k ∈ a, k < B64) → (∀ k ∈ b, k < B64) → lnB a = lnB b → a = b
  | [], [], _, _, _ => rfl
  | [], y :: t, _, _, h => by
    have h1 : lnB (y :: t) = putU y ++ lnB t := by simp [lnB]
    rw [h1] at h
    have h2 : putU y = [] := (List.append_eq_nil_iff.1 h.symm).1
    exact absurd h2 (putU_ne y)
  | y :: t, [], _, _, h => by
    have h1 : lnB (y :: t) = putU y ++ lnB t := by simp [lnB]
    rw [h1] at h
    have h2 : putU y = [] := (List.append_eq_nil_iff.1 h).1
    exact absurd h2 (putU_ne y)
  | x :: a, y :: b, ha, hb, h => by
    have h1 : lnB (y :: b) = putU y ++ lnB b := by simp [lnB]
    have h2 : lnB (x :: a) = putU x ++ lnB a := by simp [lnB]
    rw [h1, h2] at h
    obtain ⟨rfl, h3⟩ := putU_inj (ha x (by simp)) (hb y (by simp)) h
    rw [lnB_inj (fun k hk => ha k (List.mem_cons_of_mem _ hk)) (fun k hk => hb k (List.mem_cons_of_mem _ hk)) h3]
theorem okO_sz {x : List UInt8} {s q : Nat} {a b : List Rg} (h : OkO x s q a b) : a.length ≤ x.length ∧ b.length ≤ 64 := by
  obtain ⟨u, v, c, d, e, _, _, k3, _, k5⟩ := h
  have h1 := splitB_ok (xs := x) (k := 4) (by rw [e])
  rw [e] at h1
  have h2 := parts_len x c (by rw [h1.1]; simp)
  have h3 := okR_sz k3
  exact ⟨by omega, k5⟩
/-- A table that was read is small enough. -/
theorem conO_sz {ps : List (List UInt8)} {os os' : List Ob} {ds : List Od} {pl : List Nat} {t : Nat} (hp : ∀ p ∈ ps, p.length ≤ 16777216) (hA : AllO ps ds) (hC : ConO os ds) (hL : Ln os pl t os') : ∀ u ∈ os', ObSz u := by
  have h0 : ∀ u ∈ os, ObSz u := fun u hu => by
    obtain ⟨i, hi⟩ := List.getElem?_of_mem hu
    have h1 := (List.getElem?_eq_some_iff.1 hi).1
    have h2 : i < ds.length := by rw [← hC.1]; exact h1
    have h3 : i < ps.length := by rw [hA.1]; exact h2
    have h4 := hA.2 i _ _ (List.getElem?_eq_getElem h3) (List.getElem?_eq_getElem h2)
    obtain ⟨_, _, e1, e2⟩ := hC.2.1 i _ _ hi (List.getElem?_eq_getElem h2)
    have h5 := okO_sz h4
    have h6 := hp _ (List.getElem_mem h3)
    unfold ObSz
    rw [e1, e2]
    omega
  induction hL with
  | start => exact h0
  | @put pl t k os2 o h1 h2 h3 ih =>
    intro u hu
    rcases updO_mem hu with ⟨rfl, _⟩ | ⟨hu, _⟩
    · exact ih o (List.mem_of_getElem? h2)
    · exact ih u hu
/-- What was read, and isn't right, is no table. -/
theorem bad_right {b p0 : List UInt8} {ps : List (List UInt8)} {os os' : List Ob} {ds : List Od} {pl : List Nat} {t : Nat} (hP : parts b = (p0 :: ps, 0)) (hn : ps.length ≤ 16777216) (hA : AllO ps ds) (hC : ConO os ds) (he : p0 = lnB pl) (hL : Ln os pl t os') (hR : ¬ RgtP os') : ∀ ds pl, ¬ OkT b ds pl := fun ds2 pl2 ⟨q0, qs, h1, h2, h3, _, h5, h6⟩ => by
  rw [hP] at h1
  injection h1 with h1 _
  injection h1 with e1 e2
  subst e1 e2
  obtain rfl := allO_det hA h2
  have h7 : ∀ k ∈ pl, k < B64 := fun k hk => by
    have := hL.lt k hk
    have := hC.1
    have := hA.1
    unfold B64
    omega
  have h8 : ∀ k ∈ pl2, k < B64 := fun k hk => by
    have := h5 k hk
    have := hA.1
    unfold B64
    omega
  obtain rfl := lnB_inj h7 h8 (by rw [← he, h3])
  exact hR (h6 os t os' hC hL)
section
variable {w : World} {A : Option Addr} {n c : Nat} {b : List UInt8}
set_option maxRecDepth 100000 in
set_option maxHeartbeats 16000000 in
theorem decodeT_any (h : Rd w A n b) (hn : n ≤ 16777216) (hc : n ≤ c) (hnil : A = none → c = 0) : Calls Try.prog 38 #[.slice A n c] w (RetDe w b) := by
  have HP := Lib.hid (PartsF_any A n c b w h hn hc hnil)
  obtain ⟨P0, e0, hpe⟩ : ∃ ps e, parts b = (ps, e) := ⟨_, _, rfl⟩
  rw [hpe] at HP
  have HPE := Lib.hid hpe
  have HER : Hid (e0 = 0 ∨ Er e0) := Lib.hid (by have := parts_er b; rw [hpe] at this; exact this)
  have HPL : Hid (∀ p ∈ P0, p.length ≤ 16777216) := Lib.hid (fun p hp => by
    have h1 := parts_len b p (by rw [hpe]; exact hp)
    have h2 := h.len
    omega)
  have HPC : Hid (P0.length ≤ 16777216) := Lib.hid (by
    have h1 : P0.length ≤ b.length := by have := parts_count b; rw [hpe] at this; exact this
    have h2 := h.len
    omega)
  clear h hpe
  go_enter Try.func38, Try.ntmps38
  go_wp2_with fail
  with_reducible refine HP.out.mono ?_
  intro e w2 hq
  obtain ⟨Q, qn, qc, pv, h1, hrow, hps⟩ := hq.out
  subst h1
  have HR := Lib.hid hrow
  have HPS : Hid (pv.map (·.2) = P0) := Lib.hid hps
  have HL : Hid (P0.length = qn) := Lib.hid (by rw [← HPS.out, List.length_map]; exact hrow.len)
  have hqn : qn ≤ 16777216 := by rw [← HL.out]; exact HPC.out
  clear hq hrow hps HP
  by_cases he : e0 = 0
  · subst he
    by_cases hq0 : qn = 0
    · have HF : Hid (RetDe w b (.returned (.tuple #[.pointer none, .int .i64 5])) w2) := Lib.hid (RetDe.bad HR.out.bel (.inr rfl) (fun ds pl ⟨p0, ps, h1, _⟩ => by
        rw [HPE.out] at h1
        injection h1 with h1 _
        have := HL.out
        rw [h1] at this
        simp at this
        omega))
      subst hq0
      go_wp2_with fail
      go_ret2
      exact HF.out
    · obtain ⟨m, rfl⟩ : ∃ m, qn = m + 1 := ⟨qn - 1, by omega⟩
      obtain ⟨p0, ps, hP0⟩ : ∃ p0 ps, P0 = p0 :: ps := by
        cases hh : P0 with
        | nil => have := HL.out; rw [hh] at this; cases this
        | cons a l => exact ⟨a, l, rfl⟩
      have HP0 := Lib.hid hP0
      have HPM : Hid (ps.length = m) := Lib.hid (by have := HL.out; rw [hP0] at this; simpa using this)
      have hqc := HR.out.own.cap.1
      obtain ⟨rb, ro, hQ, hrb⟩ := HR.out.rd.pos (by omega)
      subst hQ
      obtain ⟨⟨v0, x0⟩, pr, rfl⟩ : ∃ a l, pv = a :: l := by
        cases hh : pv with
        | nil => have := HPS.out; rw [hh, hP0] at this; cases this
        | cons a l => exact ⟨a, l, rfl⟩
      have hfst : p0 = x0 := by have := HPS.out; rw [hP0] at this; simp at this; exact this.1.symm
      subst hfst
      obtain ⟨FA, fn, fc, e0v, hfo⟩ := HR.out.fam.1 (v0, p0) (by simp)
      simp only at e0v
      subst e0v
      obtain ⟨_, hv0, hf0⟩ := HR.out.own.rd.at_ 0 (by omega)
      injection hv0 with hv0
      subst hv0
      simp only [Nat.add_zero] at hf0
      have HRD : Hid (∀ wx, Below w2.heap.size w2 wx → ∀ k, k < m + 1 → ∃ x A' n' c', P0[k]? = some x ∧ wx.cell? ⟨rb, ro + k, none⟩ = some (.slice A' n' c') ∧ Rd wx A' n' x ∧ n' ≤ c' ∧ (A' = none → c' = 0)) := Lib.hid (fun wx hb k hk => by
        have h1 := HR.out.rd.below hb
        rw [HPS.out] at h1
        exact h1.at_ k hk)
      have hcut : ∀ w, (Instr.slice 101 (.slice (some ⟨rb, ro, none⟩) (m + 1) qc) (some (.int .i64 1)) none none).run Try.prog w = .ok (.slice (cutA (some ⟨rb, ro, none⟩) 1 qc) m (qc - 1)) w := fun w => cutRB _ w
      obtain ⟨CA, hCA⟩ : ∃ CA, CA = cutA (some ⟨rb, ro, none⟩) 1 qc := ⟨_, rfl⟩
      rw [← hCA] at hcut
      have HCA : Hid (0 < m → CA = some ⟨rb, ro + 1, none⟩) := Lib.hid (fun h0 => by rw [hCA]; unfold cutA; rw [if_neg (by omega)]; rfl)
      obtain ⟨p, hp⟩ : ∃ p, p = w2.heap.size := ⟨_, rfl⟩
      obtain ⟨W, hW⟩ : ∃ W, W = w2.alloc (.cells #[.slice none 0 0, .int .u64 0] 91) := ⟨_, rfl⟩
      have HS0 : Hid (DeS w2 ps p 0 W) := Lib.hid ⟨none, 0, [], [], by rw [hW, hp]; exact tk_nil, ⟨by simp, fun i p d hp => by simp at hp⟩, ⟨rfl, (fun i o d ho => by simp at ho), (fun u hu => by cases hu), List.nodup_nil⟩, by rw [hW]; exact (Below.refl _ _).alloc (Nat.le_refl _) _⟩
      have HW := Lib.hid hW
      have HPP := Lib.hid hp
      have HFST : Hid (∀ wx, Below w2.heap.size w2 wx → wx.cell? ⟨rb, ro, none⟩ = some (.slice FA fn fc) ∧ Own 5 wx w.heap.size FA fn fc p0) := Lib.hid (fun wx hb => ⟨(hb.cell (p := ⟨rb, ro, none⟩) hrb).trans hf0, hfo.below hb⟩)
      have HFL : Hid (fn ≤ 16777216) := Lib.hid (by rw [← hfo.len]; exact HPL.out p0 (by rw [hP0]; simp))
      clear hP0 hCA hp hW hq0 hf0 hfo
      have tm : (((m : Int) + 1) == 0) = false := by simp; omega
      go_wp2_with fail
      rw [← HW.out, ← HPP.out]
      clear hcut
      go_loopw [28] (fun s28 wr => ∃ k : Nat, k ≤ m ∧ s28 = .int .i64 (k : Int) ∧ DeS w2 ps p k wr) (fun s _ => m - (intOf s).toNat)
      case atStart => exact ⟨0, Nat.zero_le _, rfl, HS0.out⟩
      case round =>
        obtain ⟨k, hk, rfl, hS⟩ := hrel
        obtain ⟨OA, oc, os, ds, hT, hA, hC, hB⟩ := hS
        have HT := Lib.hid hT
        have HA := Lib.hid hA
        have HC := Lib.hid hC
        have HB := Lib.hid hB
        by_cases hlt : k < m
        · obtain ⟨x, A', n', c', hx, hcell, hrd, hnc, hnl⟩ := HRD.out wr HB.out (k + 1) (by omega)
          have hxl := HPL.out x (List.mem_of_getElem? hx)
          have hx2 : ps[k]? = some x := by rw [HP0.out] at hx; simpa using hx
          have HX2 := Lib.hid hx2
          have HDO := Lib.hid (decodeOwner_any hrd (by rw [← hrd.len]; exact hxl) hnc hnl)
          have hCA := HCA.out (by omega)
          subst hCA
          have hcell : wr.cell? ⟨rb, ro + 1 + k, none⟩ = some (.slice A' n' c') := by rw [← hcell]; congr 2; omega
          clear hx hx2 hrd hxl
          go_wp2_with fail
          with_reducible refine HDO.out.mono ?_
          intro e V hq
          rcases hq with ⟨o, h1, ho, ht, hob, hbv⟩ | ⟨ee, h1, hee, hno, hbv⟩
          · subst h1
            have hcl := hT.cl.below hbv
            have HROW := Lib.hid (hT.row.below hbv)
            have HBS := Lib.hid (Nat.le_trans HB.out.size hbv.size)
            have HADD : Hid (∀ OA1 oc1 w6, OwnV 157 w6 w2.heap.size OA1 (os.length + 1) oc1 (os.map obP ++ [obP o]) → V.grownBy w6 (blk OA) → Cl w6 p #[.slice OA os.length oc, .int .u64 0] 91 ∧ DeS w2 ps p (k + 1) (w6.setCell ⟨p, 0, none⟩ (.slice OA1 (os.length + 1) oc1))) := Lib.hid (fun OA1 oc1 w6 ho2 hg2 => DeS.add HT.out HA.out HC.out HB.out HX2.out ho ht hob hbv ho2 hg2)
            have HOL : Hid (os.length ≤ 16777216) := Lib.hid (by
              have e1 := HC.out.1
              have e2 := HA.out.1
              rw [List.length_take] at e2
              have e3 := HPM.out
              omega)
            obtain ⟨on, hon⟩ : ∃ on, on = os.length := ⟨_, rfl⟩
            rw [← hon] at hcl HROW HADD HOL
            have k0 : V.cell? ⟨p, 0, none⟩ = some (.slice OA on oc) := hcl.cell 0
            clear hob hbv hT hA hC hB hcell hcl ho ht hon
            go_wp2_with (at_builtin; refine wpList_app1 V rfl _ _ 89 rfl w2.heap.size 157 _ _ Try.underlying89 info_po rfl OA on oc (os.map obP) rfl HROW.out (.pointer (some ⟨o.b, 0, none⟩)) rfl V.heap.size rfl rfl ?_ ?_ ?_ ?_)
            · have := HOL.out; unfold maxLen; omega
            · have := HOL.out; omega
            · exact HBS.out
            intro OA1 oc1 w6 hown hg _
            obtain ⟨hcl6, hds⟩ := HADD.out OA1 oc1 w6 hown hg
            have HDS := Lib.hid hds
            clear hown hg hds
            have c6 : w6.cell? ⟨p, 0, none⟩ = some (.slice OA on oc) := hcl6.cell 0
            have n6 := hcl6.thaw 0
            clear hcl6
            go_wp2_with fail
            go_roundw
            case rel => exact ⟨k + 1, by omega, by go_num, HDS.out⟩
            case measure => simp [intOf]; omega
          · subst h1
            have te : (ee != 0) = true := by rcases hee with rfl | rfl <;> rfl
            have HF : Hid (RetDe w b (.returned (.tuple #[.pointer none, .int .i64 ee])) V) := Lib.hid (RetDe.bad (belowT' HR.out.bel (HB.out.trans (hbv.mono HB.out.size))) hee (fun ds2 pl2 ⟨q0, qs, g1, g2, _⟩ => by
              rw [HPE.out, HP0.out] at g1
              injection g1 with g1 _
              injection g1 with _ g1
              subst g1
              have g3 : k < ds2.length := by rw [← g2.1, HPM.out]; exact hlt
              exact hno _ _ _ _ (g2.2 k _ _ HX2.out (List.getElem?_eq_getElem g3))))
            clear hee hno hbv hcell hT hA hC hB
            go_wp2_with fail
            go_ret2
            exact HF.out
        · have e1 : k = m := by omega
          subst e1
          have hA2 : AllO ps ds := by rw [List.take_of_length_le (by rw [HPM.out]; exact Nat.le_refl _)] at hA; exact hA
          obtain ⟨hcell, h0wn⟩ := HFST.out wr HB.out
          have HOL : Hid (os.length ≤ 16777216) := Lib.hid (by
            have e1 := HC.out.1
            have e2 := hA2.1
            have e3 := HPM.out
            omega)
          have HLU := Lib.hid (lineUp_any hT (by have := HOL.out; omega) hC.2.2.1 h0wn HFL.out)
          have HA2 := Lib.hid hA2
          clear hT hA hC hB hA2 h0wn
          go_wp2_with fail
          with_reducible refine HLU.out.mono ?_
          intro e W3 hq
          obtain ⟨ee, t, os', pl, h1, hT3, hF3, hL3, hcase⟩ := hq.out
          subst h1
          have HT3 := Lib.hid hT3
          have HL3 := Lib.hid hL3
          have HB3 : Hid (Below w2.heap.size w2 W3) := Lib.hid (HB.out.trans (hF3.below (fun b hb => (HT.out.bl_ge b hb).1) HB.out.size))
          clear hT3 hL3 hF3 hq
          rcases hcase with ⟨rfl, hln⟩ | ⟨hee, hno⟩
          · have HLN := Lib.hid hln
            have HRG := Lib.hid (right_any HT3.out (by rw [HL3.out.len]; have := HOL.out; omega) (conO_sz (fun q hq => HPL.out q (by rw [HP0.out]; exact List.mem_cons_of_mem _ hq)) HA2.out HC.out HL3.out))
            clear hln
            go_wp2_with fail
            with_reducible refine HRG.out.mono ?_
            intro e W4 hq
            obtain ⟨z, h1, hz, hb4⟩ := hq.out
            subst h1
            have HB4 : Hid (Below w.heap.size w W4) := Lib.hid (belowT' HR.out.bel (HB3.out.trans (hb4.mono HB3.out.size)))
            cases z with
            | true =>
              have HF : Hid (RetDe w b (.returned (.tuple #[.pointer (some ⟨p, 0, none⟩), .int .i64 0])) W4) := Lib.hid (.inl ⟨w2.heap.size, p, OA, oc, t, os, os', ds, pl, p0, ps, rfl, HR.out.bel.size, HT3.out.below hb4, by rw [HPE.out, HP0.out], HA2.out, HC.out, HLN.out, HL3.out, HB4.out⟩)
              clear hb4 hz
              go_wp2_with fail
              go_ret2
              exact HF.out
            | false =>
              have HF : Hid (RetDe w b (.returned (.tuple #[.pointer none, .int .i64 3])) W4) := Lib.hid (RetDe.bad HB4.out (.inl rfl) (bad_right (by rw [HPE.out, HP0.out]) (by have := HPC.out; rw [HP0.out] at this; simp at this; omega) HA2.out HC.out HLN.out HL3.out (fun h => by cases hz h)))
              clear hb4 hz
              go_wp2_with fail
              go_ret2
              exact HF.out
          · have te : (ee != 0) = true := by rcases hee with rfl | rfl <;> rfl
            have HF : Hid (RetDe w b (.returned (.tuple #[.pointer none, .int .i64 ee])) W3) := Lib.hid (RetDe.bad (belowT' HR.out.bel HB3.out) hee (fun ds2 pl2 ⟨q0, qs, g1, g2, g3, g4, g5, _⟩ => by
              rw [HPE.out, HP0.out] at g1
              injection g1 with g1 _
              injection g1 with g0 g1
              subst g0 g1
              exact hno pl2 g3 g4 (fun k hk => by
                have a1 := g5 k hk
                have a2 := g2.1
                have a3 := HA2.out.1
                have a4 := HC.out.1
                omega)))
            clear hee hno
            go_wp2_with fail
            go_ret2
            exact HF.out
  · have te : (e0 != 0) = true := by simpa using he
    have HF : Hid (RetDe w b (.returned (.tuple #[.pointer none, .int .i64 e0])) w2) := Lib.hid (RetDe.bad HR.out.bel (HER.out.resolve_left he) (fun ds pl ⟨p0, ps, h1, _⟩ => by
      rw [HPE.out] at h1
      injection h1 with _ h1
      exact he h1))
    go_wp2_with fail
    go_ret2
    exact HF.out
end
end Go.Proofs.Ytmpdenpopokigaa
namespace Go.Proofs.Ytmpdenpopokigaa
open Go Go.RowKit

theorem rgt_of_il {turns : Nat} {os : List Ob} (h : IL turns os) (hn : NmB os) (hb : (os.map (·.b)).Nodup) : RgtP os := by
  refine ⟨fun u hu => ⟨fun h1 => ?_, fun h1 => ?_⟩, fun u hu h1 => h.wt u hu (by omega), fun k o ho => ?_, h.acy⟩
  · rcases Nat.eq_zero_or_pos u.turn with e | e
    · rw [h.ic.at0 u hu e] at h1; simp at h1
    · exact e
  · obtain ⟨y, _, hy⟩ := any_wf.1 (h.wt u hu (by omega))
    have h2 := (wfO_iff.1 hy).2.2
    cases ha : u.asked with
    | nil => rw [ha] at h2; rcases h2 with h2 | ⟨_, _, h2⟩ <;> simp [clashR] at h2
    | cons a l => simp
  · rw [List.any_eq_false]
    intro u hu
    have hu2 := List.mem_of_mem_take hu
    have ho2 := List.mem_of_getElem? ho
    have hne : u.b ≠ o.b := fun e => by
      obtain ⟨j, hj⟩ := List.getElem?_of_mem hu
      have hjk : j < k := by have := (List.getElem?_eq_some_iff.1 hj).1; rw [List.length_take] at this; omega
      rw [List.getElem?_take_of_lt hjk] at hj
      have := nd_get hb hj ho e
      omega
    have h1 : clashR u.held o.held = false := h.ic.hc u hu2 o ho2 hne
    have h2 : ¬ nmO u = nmO o := fun e => hne (hn u hu2 o ho2 e)
    unfold sameO
    rw [h1, Bool.or_false]
    intro h3
    simp only [Bool.and_eq_true, beq_iff_eq] at h3
    refine h2 ?_
    unfold nmO
    rw [show u.s = o.s by omega, show u.q = o.q by omega]
/-- The same data, in the same order; the queue too. -/
structure Sm2 (os os2 : List Ob) : Prop where
  len : os.length = os2.length
  dat : ∀ (i : Nat) a b, os[i]? = some a → os2[i]? = some b → a.s = b.s ∧ a.q = b.q ∧ a.held = b.held ∧ a.asked = b.asked
  tu : ∀ (i : Nat) a b, os[i]? = some a → os2[i]? = some b → (0 < a.turn ↔ 0 < b.turn)
  ord : ∀ (i j : Nat) a b c d, os[i]? = some a → os2[i]? = some b → os[j]? = some c → os2[j]? = some d → 0 < a.turn → 0 < c.turn → (a.turn < c.turn ↔ b.turn < d.turn)
  n1 : (os.map (·.b)).Nodup
  n2 : (os2.map (·.b)).Nodup
section
variable {os os2 : List Ob}
theorem Sm2.at_ (h : Sm2 os os2) {i : Nat} {b : Ob} (hb : os2[i]? = some b) : ∃ a, os[i]? = some a := by
  have h1 := (List.getElem?_eq_some_iff.1 hb).1
  have h2 := h.len
  exact ⟨_, List.getElem?_eq_getElem (by omega)⟩
theorem Sm2.to_ (h : Sm2 os os2) {i : Nat} {a : Ob} (ha : os[i]? = some a) : ∃ b, os2[i]? = some b := by
  have h1 := (List.getElem?_eq_some_iff.1 ha).1
  have h2 := h.len
  exact ⟨_, List.getElem?_eq_getElem (by omega)⟩
theorem Sm2.wf (h : Sm2 os os2) {i j : Nat} {a b c d : Ob} (ha : os[i]? = some a) (hb : os2[i]? = some b) (hc : os[j]? = some c) (hd : os2[j]? = some d) : wfO a c = wfO b d := by
  obtain ⟨_, _, e1, e2⟩ := h.dat i a b ha hb
  obtain ⟨_, _, e3, e4⟩ := h.dat j c d hc hd
  have t1 := h.tu i a b ha hb
  have t2 := h.tu j c d hc hd
  have t3 := h.ord j i c d a b hc hd ha hb
  have hb1 : a.b = c.b ↔ b.b = d.b := ⟨fun e => by
    obtain rfl := nd_get h.n1 ha hc e
    rw [hb] at hd
    injection hd with hd
    rw [hd], fun e => by
    obtain rfl := nd_get h.n2 hb hd e
    rw [ha] at hc
    injection hc with hc
    rw [hc]⟩
  rw [Bool.eq_iff_iff, wfO_iff, wfO_iff, e2, e3, e4]
  constructor
  · rintro ⟨k1, k2, k3⟩
    exact ⟨fun e => k1 (hb1.2 e), by omega, k3.imp id fun ⟨x, y, z⟩ => ⟨t2.1 x, (t3 x (by omega)).1 y, z⟩⟩
  · rintro ⟨k1, k2, k3⟩
    exact ⟨fun e => k1 (hb1.1 e), by omega, k3.imp id fun ⟨x, y, z⟩ => ⟨t2.2 x, (t3 (t2.2 x) (by omega)).2 y, z⟩⟩
theorem Sm2.rch (h : Sm2 os os2) {i : Nat} {a b y : Ob} (ha : os[i]? = some a) (hb : os2[i]? = some b) (hr : Rch wfO os2 b y) : ∃ (j : Nat) (c : Ob), os[j]? = some c ∧ os2[j]? = some y ∧ Rch wfO os a c := by
  induction hr with
  | one hm h1 =>
    obtain ⟨j, hj⟩ := List.getElem?_of_mem hm
    obtain ⟨c, hc⟩ := h.at_ hj
    exact ⟨j, c, hc, hj, .one (List.mem_of_getElem? hc) (by rw [h.wf ha hb hc hj]; exact h1)⟩
  | more _ hm h1 ih =>
    obtain ⟨j, c, hc, hj, r⟩ := ih
    obtain ⟨k, hk⟩ := List.getElem?_of_mem hm
    obtain ⟨d, hd⟩ := h.at_ hk
    exact ⟨k, d, hd, hk, .more r (List.mem_of_getElem? hd) (by rw [h.wf hc hj hd hk]; exact h1)⟩
theorem Sm2.rgt (h : Sm2 os os2) (hr : RgtP os) : RgtP os2 := by
  refine ⟨fun b hb => ?_, fun b hb ht => ?_, fun k b hb => ?_, fun b hb hc => ?_⟩
  · obtain ⟨i, hi⟩ := List.getElem?_of_mem hb
    obtain ⟨a, ha⟩ := h.at_ hi
    have h1 := hr.iff a (List.mem_of_getElem? ha)
    rw [(h.dat i a b ha hi).2.2.2] at h1
    exact h1.trans (h.tu i a b ha hi)
  · obtain ⟨i, hi⟩ := List.getElem?_of_mem hb
    obtain ⟨a, ha⟩ := h.at_ hi
    obtain ⟨y, hy, hw⟩ := any_wf.1 (hr.wt a (List.mem_of_getElem? ha) ((h.tu i a b ha hi).2 ht))
    obtain ⟨j, hj⟩ := List.getElem?_of_mem hy
    obtain ⟨d, hd⟩ := h.to_ hj
    exact any_wf.2 ⟨d, List.mem_of_getElem? hd, by rw [← h.wf ha hi hj hd]; exact hw⟩
  · obtain ⟨a, ha⟩ := h.at_ hb
    have h1 := hr.dis k a ha
    rw [List.any_eq_false] at h1 ⊢
    intro d hd
    obtain ⟨j, hj⟩ := List.getElem?_of_mem hd
    have hjk : j < k := by have := (List.getElem?_eq_some_iff.1 hj).1; rw [List.length_take] at this; omega
    rw [List.getElem?_take_of_lt hjk] at hj
    obtain ⟨c, hc⟩ := h.at_ hj
    have h2 := h1 c (List.mem_of_getElem? (i := j) (by rw [List.getElem?_take_of_lt hjk]; exact hc))
    obtain ⟨e1, e2, e3, _⟩ := h.dat k a b ha hb
    obtain ⟨e4, e5, e6, _⟩ := h.dat j c d hc hj
    unfold sameO at h2 ⊢
    rw [← e1, ← e2, ← e3, ← e4, ← e5, ← e6]
    exact h2
  · obtain ⟨i, hi⟩ := List.getElem?_of_mem hb
    obtain ⟨a, ha⟩ := h.at_ hi
    obtain ⟨j, c, h1, h2, h3⟩ := h.rch ha hi hc
    obtain rfl := nd_get h.n2 h2 hi rfl
    rw [ha] at h1
    injection h1 with h1
    subst h1
    exact hr.acy a (List.mem_of_getElem? ha) h3
end
theorem Ln.at_ {os0 os2 : List Ob} {pl : List Nat} {t : Nat} (h : Ln os0 pl t os2) (hn : (os0.map (·.b)).Nodup) (h0 : ∀ u ∈ os0, u.turn = 0) :
    (∀ (i : Nat) a b, os0[i]? = some a → os2[i]? = some b → a.s = b.s ∧ a.q = b.q ∧ a.held = b.held ∧ a.asked = b.asked) ∧ (∀ (i : Nat) b, os2[i]? = some b → (0 < b.turn ↔ i ∈ pl)) ∧ ∀ (i m : Nat) b, os2[i]? = some b → pl[m]? = some i → b.turn = m + 1 := by
  induction h with
  | start =>
    refine ⟨fun i a b ha hb => ?_, fun i b hb => ?_, fun i m b _ hm => by simp at hm⟩
    · rw [ha] at hb
      injection hb with hb
      subst hb
      exact ⟨rfl, rfl, rfl, rfl⟩
    · rw [h0 b (List.mem_of_getElem? hb)]
      simp
  | @put pl t k os o h1 h2 h3 ih =>
    obtain ⟨i1, i2, i3⟩ := ih
    have hnd : (os.map (·.b)).Nodup := by rw [h1.bs]; exact hn
    have hk : k ∉ pl := fun hk => by
      have := (i2 k o h2).2 hk
      omega
    have key : ∀ (i : Nat) u, (updO os (turnO o (t + 1)))[i]? = some u → (i = k ∧ u = turnO o (t + 1)) ∨ (i ≠ k ∧ os[i]? = some u) := fun i u hu => by
      obtain ⟨v, hv, h4⟩ := updO_get hu
      rcases h4 with ⟨e1, e2⟩ | ⟨e1, e2⟩
      · exact .inl ⟨nd_get hnd hv h2 e1, e2⟩
      · refine .inr ⟨fun e => ?_, by rw [e2]; exact hv⟩
        subst e
        rw [h2] at hv
        injection hv with hv
        subst hv
        exact e1 rfl
    refine ⟨fun i a b ha hb => ?_, fun i b hb => ?_, fun i m b hb hm => ?_⟩
    · rcases key i b hb with ⟨rfl, rfl⟩ | ⟨_, hb⟩
      · exact i1 i a o ha h2
      · exact i1 i a b ha hb
    · rcases key i b hb with ⟨rfl, rfl⟩ | ⟨hne, hb⟩
      · simp [turnO]
      · rw [i2 i b hb]
        simp [hne]
    · by_cases hml : m < pl.length
      · rw [List.getElem?_append_left hml] at hm
        rcases key i b hb with ⟨rfl, rfl⟩ | ⟨_, hb⟩
        · exact absurd (List.mem_of_getElem? hm) hk
        · exact i3 i m b hb hm
      · have hm2 := (List.getElem?_eq_some_iff.1 hm).1
        simp at hm2
        have e1 : m = pl.length := by omega
        subst e1
        simp at hm
        rcases key i b hb with ⟨_, rfl⟩ | ⟨hne, _⟩
        · show t + 1 = _
          rw [h1.cnt]
        · exact absurd hm.symm hne
theorem nd_of_bs {os : List Ob} (hb : (os.map (·.b)).Nodup) : os.Nodup := (List.pairwise_map.1 hb).imp fun {a b} h e => h (by rw [e])
theorem plO_at {os : List Ob} (hb : (os.map (·.b)).Nodup) {i : Nat} {o : Ob} (h : os[i]? = some o) : plO os o = i := by
  unfold plO
  rcases ixB_find (fun u => decide (o.b = u.b)) os with ⟨_, h1⟩ | ⟨k, u, h1, h2, h3⟩
  · rw [List.find?_eq_none] at h1
    exact absurd (decide_eq_true rfl) (h1 o (List.mem_of_getElem? h))
  · rw [h1]
    have h4 := List.find?_some h3
    exact nd_get hb h2 h (of_decide_eq_true h4).symm
/-- An owner's data. -/
def dO (o : Ob) : Od := ⟨o.s, o.q, o.held, o.asked⟩
theorem sm2_ln {os os0 os2 l : List Ob} {t turns : Nat} (hI : IL turns os) (hb : (os.map (·.b)).Nodup) (hC : ConO os0 (os.map dO)) (hp : l.Perm (os.filter posO)) (hs : l.Pairwise (fun a b => a.turn ≤ b.turn)) (hL : Ln os0 (l.map (plO os)) t os2) : Sm2 os os2 := by
  obtain ⟨L1, L2, L3⟩ := hL.at_ hC.2.2.2 hC.2.2.1
  have hlen : os.length = os2.length := by rw [hL.len, hC.1, List.length_map]
  have hml : ∀ (i : Nat) a, os[i]? = some a → 0 < a.turn → ∃ m : Nat, l[m]? = some a ∧ (l.map (plO os))[m]? = some i := fun i a ha ht => by
    have h1 : a ∈ l := hp.mem_iff.2 (List.mem_filter.2 ⟨List.mem_of_getElem? ha, by unfold posO; exact decide_eq_true ht⟩)
    obtain ⟨m, hm⟩ := List.getElem?_of_mem h1
    exact ⟨m, hm, by rw [List.getElem?_map, hm]; simp [plO_at hb ha]⟩
  refine ⟨hlen, fun i a b ha hb2 => ?_, fun i a b ha hb2 => ?_, fun i j a b c d ha hb2 hc hd ta tc => ?_, hb, by rw [hL.bs]; exact hC.2.2.2⟩
  · obtain ⟨c, hc⟩ : ∃ c, os0[i]? = some c := ⟨_, List.getElem?_eq_getElem (by have := (List.getElem?_eq_some_iff.1 hb2).1; rw [hL.len] at this; exact this)⟩
    obtain ⟨e1, e2, e3, e4⟩ := hC.2.1 i c (dO a) hc (by rw [List.getElem?_map, ha]; rfl)
    obtain ⟨f1, f2, f3, f4⟩ := L1 i c b hc hb2
    exact ⟨e1.symm.trans f1, e2.symm.trans f2, e3.symm.trans f3, e4.symm.trans f4⟩
  · rw [L2 i b hb2]
    constructor
    · intro ht
      obtain ⟨m, _, hm⟩ := hml i a ha ht
      exact List.mem_of_getElem? hm
    · intro hm
      obtain ⟨x, hx, e⟩ := List.mem_map.1 hm
      have hx2 := List.mem_filter.1 (hp.mem_iff.1 hx)
      obtain ⟨k, hk⟩ := List.getElem?_of_mem hx2.1
      rw [plO_at hb hk] at e
      subst e
      rw [ha] at hk
      injection hk with hk
      subst hk
      exact of_decide_eq_true hx2.2
  · obtain ⟨m, m1, m2⟩ := hml i a ha ta
    obtain ⟨n, n1, n2⟩ := hml j c hc tc
    have e1 := L3 i m b hb2 m2
    have e2 := L3 j n d hd n2
    have hle : ∀ {x y : Nat} {u v : Ob}, l[x]? = some u → l[y]? = some v → x < y → u.turn ≤ v.turn := fun {x y u v} hx hy hxy => by
      obtain ⟨x1, x2⟩ := List.getElem?_eq_some_iff.1 hx
      obtain ⟨y1, y2⟩ := List.getElem?_eq_some_iff.1 hy
      have := List.pairwise_iff_getElem.1 hs x y x1 y1 hxy
      rw [x2, y2] at this
      exact this
    constructor
    · intro hlt
      rcases Nat.lt_trichotomy m n with h | h | h
      · omega
      · subst h
        rw [m1] at n1
        injection n1 with n1
        subst n1
        omega
      · have := hle n1 m1 h
        omega
    · intro hlt
      have hmn : m < n := by omega
      have h1 := hle m1 n1 hmn
      refine Nat.lt_of_le_of_ne h1 fun e => ?_
      have h2 := hI.ic.ti a (List.mem_of_getElem? ha) c (List.mem_of_getElem? hc) (by omega) e
      obtain rfl := nd_get hb ha hc h2
      rw [hb2] at hd
      injection hd with hd
      subst hd
      omega
theorem dec1_enc1 {r : Rg} (h : checkR [r] = 0) (h1 : r.lo.length < B64) (h2 : r.hi.length < B64) : dec1 (enc1 r) = some r := by
  have he : exB r = [] ∨ exB r = [1] := by unfold exB; cases r.ex <;> simp
  have hp : parts (enc1 r) = ([r.lo, r.hi, exB r], 0) := parts_frame _ (fun x hx => by
    simp only [List.mem_cons, List.not_mem_nil, or_false] at hx
    rcases hx with rfl | rfl | rfl
    · exact h1
    · exact h2
    · rcases he with e | e <;> rw [e] <;> (unfold B64; simp))
  have hm : mk3 r.lo r.hi (exB r) = r := by
    obtain ⟨lo, hi, ex⟩ := r
    unfold mk3 exB
    cases ex <;> simp
  have hs := splitB_of hp
  have hs : splitB (enc1 r) 3 = ([r.lo, r.hi, exB r], 0) := hs
  unfold dec1
  rw [hs]
  simp only
  rw [hm, if_pos ⟨he, h⟩]
theorem okR_enc {rs : List Rg} (h : ∀ r ∈ rs, checkR [r] = 0 ∧ r.lo.length < B64 ∧ r.hi.length < B64 ∧ (enc1 r).length < B64) : OkR (encR rs) rs := by
  refine ⟨rs.map enc1, parts_frame _ (fun x hx => ?_), ?_⟩
  · obtain ⟨r, hr, rfl⟩ := List.mem_map.1 hx
    exact (h r hr).2.2.2
  · rw [List.map_map]
    exact List.map_congr_left (fun r hr => dec1_enc1 (h r hr).1 (h r hr).2.1 (h r hr).2.2.1)
theorem decN_put {n : Nat} (h : n < B64) : decN (putU n) = some n := by
  unfold decN
  rw [getU_putU n h]
  simp
/-- What is asked of an owner who is written down. -/
def WrO (u : Ob) : Prop := u.s < B64 ∧ u.q < B64 ∧ OkR (encR u.held) u.held ∧ OkR (encR u.asked) u.asked ∧ u.asked.length ≤ 64 ∧ (∀ x ∈ psO u, x.length < B64) ∧ (encO u).length < B64
theorem okO_enc {u : Ob} (h : WrO u) : OkO (encO u) u.s u.q u.held u.asked := by
  obtain ⟨h1, h2, h3, h4, h5, h6, _⟩ := h
  exact ⟨_, _, _, _, splitB_of (ps := psO u) (parts_frame _ h6), decN_put h1, decN_put h2, h3, h4, h5⟩
theorem okT_enc {os l : List Ob} {turns : Nat} (hI : IL turns os) (hn : NmB os) (hb : (os.map (·.b)).Nodup) (hp : l.Perm (os.filter posO)) (hs : l.Pairwise (fun a b => a.turn ≤ b.turn)) (hw : ∀ u ∈ os, WrO u) (hl : (lineB os l).length < B64) :
    OkT (frameB (lineB os l :: os.map encO)) (os.map dO) (l.map (plO os)) := by
  have hmem : ∀ u ∈ l, ∃ i : Nat, os[i]? = some u := fun u hu => List.getElem?_of_mem (List.mem_filter.1 (hp.mem_iff.1 hu)).1
  refine ⟨_, _, parts_frame _ (fun x hx => ?_), ⟨by simp, fun i p d h1 h2 => ?_⟩, ?_, ?_, fun k hk => ?_, fun os0 t os2 hC hL => (sm2_ln hI hb hC hp hs hL).rgt (rgt_of_il hI hn hb)⟩
  · rcases List.mem_cons.1 hx with rfl | hx
    · exact hl
    · obtain ⟨u, hu, rfl⟩ := List.mem_map.1 hx
      exact (hw u hu).2.2.2.2.2.2
  · rw [List.getElem?_map] at h1 h2
    cases hu : os[i]? with
    | none => rw [hu] at h1; cases h1
    | some u =>
      rw [hu] at h1 h2
      injection h1 with h1
      injection h2 with h2
      subst h1 h2
      exact okO_enc (hw u (List.mem_of_getElem? hu))
  · unfold lineB lnB
    rw [List.flatMap_map]
  · have hnd : l.Nodup := hp.nodup_iff.2 ((nd_of_bs hb).filter _)
    rw [List.Nodup, List.pairwise_map]
    refine hnd.imp_of_mem (fun {a b} ha hb2 hne e => hne ?_)
    obtain ⟨i, hi⟩ := hmem a ha
    obtain ⟨j, hj⟩ := hmem b hb2
    rw [plO_at hb hi, plO_at hb hj] at e
    subst e
    rw [hi] at hj
    injection hj
  · obtain ⟨u, hu, rfl⟩ := List.mem_map.1 hk
    obtain ⟨i, hi⟩ := hmem u hu
    rw [plO_at hb hi, List.length_map]
    exact (List.getElem?_eq_some_iff.1 hi).1
/-- What Decode answers of what Encode made. -/
theorem de_enc {w w' : World} {e : Ending} {os l : List Ob} {turns : Nat} (hI : IL turns os) (hn : NmB os) (hb : (os.map (·.b)).Nodup) (hp : l.Perm (os.filter posO)) (hs : l.Pairwise (fun a b => a.turn ≤ b.turn)) (hw : ∀ u ∈ os, WrO u) (hl : (lineB os l).length < B64) (hk : os.length ≤ 1048576)
    (h : RetDe w (frameB (lineB os l :: os.map encO)) e w') : ∃ (bs p : Nat) (OA : Option Addr) (oc t : Nat) (os2 : List Ob), e = .returned (.tuple #[.pointer (some ⟨p, 0, none⟩), .int .i64 0]) ∧ w.heap.size ≤ bs ∧ TkAt w' bs p OA oc t os2 ∧ Sm2 os os2 ∧ Below w.heap.size w w' := by
  have hok := okT_enc hI hn hb hp hs hw hl
  rcases h with ⟨bs, p, OA, oc, t, os0, os2, ds, pl, p0, ps, h1, h2, h3, h4, h5, h6, h7, h8, h9⟩ | ⟨_, _, _, h, _⟩
  · obtain ⟨q0, qs, g1, g2, g3, g4, g5, _⟩ := hok
    rw [h4] at g1
    injection g1 with g1 _
    injection g1 with ga gb
    subst ga gb
    obtain rfl := allO_det h5 g2
    have hln : (os.map dO).length ≤ B64 := by
      rw [List.length_map]
      unfold B64
      omega
    obtain rfl : pl = l.map (plO os) := lnB_inj (fun k hk => by have := h8.lt k hk; rw [h6.1] at this; omega) (fun k hk => by have := g5 k hk; omega) (h7.symm.trans g3)
    exact ⟨bs, p, OA, oc, t, os2, h1, h2, h3, sm2_ln hI hb h6 hp hs h8, h9⟩
  · exact absurd hok (h _ _)
end Go.Proofs.Ytmpdenpopokigaa
namespace Go.Proofs.Ytmpdenpopokigaa
open Go Go.RowKit

/-- Pairs of owners: the same data, the same order in the queue. -/
structure Zp (zs : List (Ob × Ob)) : Prop where
  dat : ∀ z ∈ zs, z.1.s = z.2.s ∧ z.1.q = z.2.q ∧ z.1.held = z.2.held ∧ z.1.asked = z.2.asked ∧ (0 < z.1.turn ↔ 0 < z.2.turn)
  ord : ∀ y ∈ zs, ∀ z ∈ zs, 0 < y.1.turn → 0 < z.1.turn → (y.1.turn < z.1.turn ↔ y.2.turn < z.2.turn)
  b1 : ∀ y ∈ zs, ∀ z ∈ zs, y.1.b = z.1.b → y = z
  b2 : ∀ y ∈ zs, ∀ z ∈ zs, y.2.b = z.2.b → y = z
/-- Two tables' owners are alike. -/
def Ak (os os2 : List Ob) : Prop := ∃ zs : List (Ob × Ob), os = zs.map (·.1) ∧ os2 = zs.map (·.2) ∧ Zp zs
theorem Sm2.ak {os os2 : List Ob} (h : Sm2 os os2) : Ak os os2 := by
  have hm : ∀ z ∈ os.zip os2, ∃ i : Nat, os[i]? = some z.1 ∧ os2[i]? = some z.2 := fun z hz => by
    obtain ⟨i, hi⟩ := List.getElem?_of_mem hz
    exact ⟨i, List.getElem?_zip_eq_some.1 hi⟩
  refine ⟨os.zip os2, (List.map_fst_zip (Nat.le_of_eq h.len)).symm, (List.map_snd_zip (Nat.le_of_eq h.len.symm)).symm, fun z hz => ?_, fun y hy z hz => ?_, fun y hy z hz e => ?_, fun y hy z hz e => ?_⟩
  · obtain ⟨i, h1, h2⟩ := hm z hz
    obtain ⟨e1, e2, e3, e4⟩ := h.dat i _ _ h1 h2
    exact ⟨e1, e2, e3, e4, h.tu i _ _ h1 h2⟩
  · obtain ⟨i, h1, h2⟩ := hm y hy
    obtain ⟨j, h3, h4⟩ := hm z hz
    exact h.ord i j _ _ _ _ h1 h2 h3 h4
  · obtain ⟨i, h1, h2⟩ := hm y hy
    obtain ⟨j, h3, h4⟩ := hm z hz
    obtain rfl := nd_get h.n1 h1 h3 e
    rw [h1] at h3
    rw [h2] at h4
    injection h3 with h3
    injection h4 with h4
    exact Prod.ext h3 h4
  · obtain ⟨i, h1, h2⟩ := hm y hy
    obtain ⟨j, h3, h4⟩ := hm z hz
    obtain rfl := nd_get h.n2 h2 h4 e
    rw [h1] at h3
    rw [h2] at h4
    injection h3 with h3
    injection h4 with h4
    exact Prod.ext h3 h4
theorem Zp.sub {zs zr : List (Ob × Ob)} (h : Zp zs) (hs : ∀ z ∈ zr, z ∈ zs) : Zp zr :=
  ⟨fun z hz => h.dat z (hs z hz), fun y hy z hz => h.ord y (hs y hy) z (hs z hz), fun y hy z hz => h.b1 y (hs y hy) z (hs z hz), fun y hy z hz => h.b2 y (hs y hy) z (hs z hz)⟩
theorem Zp.nm {zs : List (Ob × Ob)} (h : Zp zs) {z : Ob × Ob} (hz : z ∈ zs) : nmO z.1 = nmO z.2 := by
  obtain ⟨e1, e2, _⟩ := h.dat z hz
  unfold nmO
  rw [e1, e2]
theorem Zp.nms {zs : List (Ob × Ob)} (h : Zp zs) : (zs.map (·.1)).map nmO = (zs.map (·.2)).map nmO := by
  rw [List.map_map, List.map_map]
  exact List.map_congr_left fun z hz => h.nm hz
theorem Ak.nms {os os2 : List Ob} (h : Ak os os2) : os.map nmO = os2.map nmO := by
  obtain ⟨zs, rfl, rfl, hz⟩ := h
  exact hz.nms
theorem Ak.len {os os2 : List Ob} (h : Ak os os2) : os.length = os2.length := by
  obtain ⟨zs, rfl, rfl, _⟩ := h
  rw [List.length_map, List.length_map]
theorem Zp.wf {zs : List (Ob × Ob)} (h : Zp zs) {y z : Ob × Ob} (hy : y ∈ zs) (hz : z ∈ zs) : wfO y.1 z.1 = wfO y.2 z.2 := by
  obtain ⟨_, _, e1, e2, t1⟩ := h.dat y hy
  obtain ⟨_, _, e3, e4, t2⟩ := h.dat z hz
  have t3 := h.ord z hz y hy
  have hb : y.1.b = z.1.b ↔ y.2.b = z.2.b := ⟨fun e => by rw [h.b1 y hy z hz e], fun e => by rw [h.b2 y hy z hz e]⟩
  rw [Bool.eq_iff_iff, wfO_iff, wfO_iff, e2, e3, e4]
  constructor
  · rintro ⟨k1, k2, k3⟩
    exact ⟨fun e => k1 (hb.2 e), by omega, k3.imp id fun ⟨x, u, v⟩ => ⟨t2.1 x, (t3 x (by omega)).1 u, v⟩⟩
  · rintro ⟨k1, k2, k3⟩
    exact ⟨fun e => k1 (hb.1 e), by omega, k3.imp id fun ⟨x, u, v⟩ => ⟨t2.2 x, (t3 (t2.2 x) (by omega)).2 u, v⟩⟩
theorem Zp.any {zs : List (Ob × Ob)} (h : Zp zs) {y : Ob × Ob} (hy : y ∈ zs) : (zs.map (·.1)).any (wfO y.1) = (zs.map (·.2)).any (wfO y.2) := by
  rw [Bool.eq_iff_iff, any_wf, any_wf]
  constructor
  · rintro ⟨u, hu, hw⟩
    obtain ⟨z, hz, rfl⟩ := List.mem_map.1 hu
    exact ⟨z.2, List.mem_map.2 ⟨z, hz, rfl⟩, by rw [← h.wf hy hz]; exact hw⟩
  · rintro ⟨u, hu, hw⟩
    obtain ⟨z, hz, rfl⟩ := List.mem_map.1 hu
    exact ⟨z.1, List.mem_map.2 ⟨z, hz, rfl⟩, by rw [h.wf hy hz]; exact hw⟩
theorem Mv.nilK {os0 os : List Ob} {l : List Nat} {out : List (Nat × Nat)} (h : Mv os0 l out os) (hl : l = []) : out = [] ∧ os = os0 := by
  cases h with
  | start => exact ⟨rfl, rfl⟩
  | stay _ _ _ => simp at hl
  | go _ _ _ => simp at hl
theorem Mv.snocK {os0 os : List Ob} {l l1 : List Nat} {b : Nat} {out : List (Nat × Nat)} (h : Mv os0 l out os) (hl : l = l1 ++ [b]) :
    ∃ (o1 : List (Nat × Nat)) (os1 : List Ob) (c : Ob), Mv os0 l1 o1 os1 ∧ c ∈ os1 ∧ c.b = b ∧ ((os1.any (wfO c) = true ∧ out = o1 ∧ os = os1) ∨ (os1.any (wfO c) = false ∧ ∃ (A : Option Addr) (d : Nat), out = o1 ++ [nmO c] ∧ os = updO os1 (takeO c A d))) := by
  cases h with
  | start => simp at hl
  | @stay l out os c h1 h2 h3 =>
    obtain ⟨rfl, e⟩ := List.append_inj' hl rfl
    exact ⟨_, _, c, h1, h2, by simpa using e, .inl ⟨h3, rfl, rfl⟩⟩
  | @go l out os c A d h1 h2 h3 =>
    obtain ⟨rfl, e⟩ := List.append_inj' hl rfl
    exact ⟨_, _, c, h1, h2, by simpa using e, .inr ⟨h3, A, d, rfl, rfl⟩⟩
/-- A pair takes what it waited for. -/
theorem Zp.take {zs : List (Ob × Ob)} (h : Zp zs) {y : Ob × Ob} (hy : y ∈ zs) (A A2 : Option Addr) (d d2 : Nat) :
    ∃ zr : List (Ob × Ob), updO (zs.map (·.1)) (takeO y.1 A d) = zr.map (·.1) ∧ updO (zs.map (·.2)) (takeO y.2 A2 d2) = zr.map (·.2) ∧ Zp zr ∧ zr.map (fun z => (z.1.b, z.2.b)) = zs.map (fun z => (z.1.b, z.2.b)) := by
  have hmem : ∀ u ∈ zs.map (fun u => if u.1.b = y.1.b then (takeO y.1 A d, takeO y.2 A2 d2) else u), u = (takeO y.1 A d, takeO y.2 A2 d2) ∨ (u ∈ zs ∧ u.1.b ≠ y.1.b) := fun u hu => by
    obtain ⟨v, hv, e⟩ := List.mem_map.1 hu
    by_cases hb : v.1.b = y.1.b
    · rw [if_pos hb] at e
      exact .inl e.symm
    · rw [if_neg hb] at e
      subst e
      exact .inr ⟨hv, hb⟩
  obtain ⟨d1, d2', d3, d4, d5⟩ := h.dat y hy
  refine ⟨zs.map (fun u => if u.1.b = y.1.b then (takeO y.1 A d, takeO y.2 A2 d2) else u), ?_, ?_, ⟨fun z hz => ?_, fun u hu z hz => ?_, fun u hu z hz e => ?_, fun u hu z hz e => ?_⟩, ?_⟩
  · unfold updO
    rw [List.map_map, List.map_map]
    refine List.map_congr_left fun u _ => ?_
    by_cases hb : u.1.b = y.1.b
    · simp only [Function.comp, if_pos hb]
      exact if_pos hb
    · simp only [Function.comp, if_neg hb]
      exact if_neg hb
  · unfold updO
    rw [List.map_map, List.map_map]
    refine List.map_congr_left fun u hu => ?_
    by_cases hb : u.1.b = y.1.b
    · have hb2 : u.2.b = y.2.b := by rw [h.b1 u hu y hy hb]
      simp only [Function.comp, if_pos hb]
      exact if_pos hb2
    · have hb2 : ¬ u.2.b = y.2.b := fun e => hb (by rw [h.b2 u hu y hy e])
      simp only [Function.comp, if_neg hb]
      exact if_neg hb2
  · rcases hmem z hz with rfl | ⟨hz, _⟩
    · refine ⟨d1, d2', ?_, rfl, Iff.rfl⟩
      show y.1.held ++ y.1.asked = y.2.held ++ y.2.asked
      rw [d3, d4]
    · exact h.dat z hz
  · rcases hmem u hu with rfl | ⟨hu, _⟩
    · intro h1
      exact absurd h1 (Nat.lt_irrefl 0)
    · rcases hmem z hz with rfl | ⟨hz, _⟩
      · intro _ h1
        exact absurd h1 (Nat.lt_irrefl 0)
      · exact h.ord u hu z hz
  · rcases hmem u hu with rfl | ⟨hu, n1⟩ <;> rcases hmem z hz with rfl | ⟨hz, n2⟩
    · rfl
    · exact absurd e.symm n2
    · exact absurd e n1
    · exact h.b1 u hu z hz e
  · rcases hmem u hu with rfl | ⟨hu, n1⟩ <;> rcases hmem z hz with rfl | ⟨hz, n2⟩
    · rfl
    · exact absurd (by rw [h.b2 y hy z hz e]) n2
    · exact absurd (by rw [h.b2 u hu y hy e]) n1
    · exact h.b2 u hu z hz e
  · rw [List.map_map]
    refine List.map_congr_left fun u hu => ?_
    by_cases hb : u.1.b = y.1.b
    · simp only [Function.comp, if_pos hb]
      rw [h.b1 u hu y hy hb]
      rfl
    · simp only [Function.comp, if_neg hb]
theorem mv_pair {zs : List (Ob × Ob)} (hz : Zp zs) : ∀ (n : Nat) (zl : List (Ob × Ob)), zl.length = n → (∀ z ∈ zl, z ∈ zs) → ∀ (out out2 : List (Nat × Nat)) (os1 os2 : List Ob), Mv (zs.map (·.1)) (zl.map (·.1.b)) out os1 → Mv (zs.map (·.2)) (zl.map (·.2.b)) out2 os2 →
    out = out2 ∧ ∃ zr : List (Ob × Ob), os1 = zr.map (·.1) ∧ os2 = zr.map (·.2) ∧ Zp zr ∧ zr.map (fun z => (z.1.b, z.2.b)) = zs.map (fun z => (z.1.b, z.2.b))
  | 0, zl, hn, _, out, out2, os1, os2, h1, h2 => by
    obtain rfl := List.eq_nil_of_length_eq_zero hn
    obtain ⟨rfl, rfl⟩ := h1.nilK rfl
    obtain ⟨rfl, rfl⟩ := h2.nilK rfl
    exact ⟨rfl, zs, rfl, rfl, hz, rfl⟩
  | n + 1, zl, hn, hs, out, out2, os1, os2, h1, h2 => by
    rcases List.eq_nil_or_concat zl with rfl | ⟨zi, z, rfl⟩
    · simp at hn
    have hzs := hs z (by simp)
    obtain ⟨p1, q1, c1, a1, a2, a3, a4⟩ := h1.snocK (l1 := zi.map (·.1.b)) (b := z.1.b) (by simp)
    obtain ⟨p2, q2, c2, b1, b2, b3, b4⟩ := h2.snocK (l1 := zi.map (·.2.b)) (b := z.2.b) (by simp)
    obtain ⟨rfl, zr, rfl, rfl, hzr, hbl⟩ := mv_pair hz n zi (by simpa using hn) (fun u hu => hs u (by simp [hu])) p1 p2 q1 q2 a1 b1
    obtain ⟨y, hy, rfl⟩ := List.mem_map.1 a2
    obtain ⟨y2, hy2, rfl⟩ := List.mem_map.1 b2
    obtain ⟨x, hx, e⟩ : ∃ x ∈ zr, (x.1.b, x.2.b) = (z.1.b, z.2.b) := List.mem_map.1 (by rw [hbl]; exact List.mem_map.2 ⟨z, hzs, rfl⟩)
    injection e with e1 e2
    obtain rfl := hzr.b1 y hy x hx (a3.trans e1.symm)
    obtain rfl := hzr.b2 y2 hy2 y hy (b3.trans e2.symm)
    have hany := hzr.any hy
    rcases a4 with ⟨a4, rfl, rfl⟩ | ⟨a4, A, d, rfl, rfl⟩ <;> rcases b4 with ⟨b4, rfl, rfl⟩ | ⟨b4, A2, d2, rfl, rfl⟩
    · exact ⟨rfl, zr, rfl, rfl, hzr, hbl⟩
    · rw [a4, b4] at hany; cases hany
    · rw [a4, b4] at hany; cases hany
    · obtain ⟨zt, t1, t2, t3, t4⟩ := hzr.take hy A A2 d d2
      exact ⟨by rw [hzr.nm hy], zt, t1, t2, t3, t4.trans hbl⟩
/-- Those that wait, in the queue's order. -/
theorem Zp.queue {zs : List (Ob × Ob)} (h : Zp zs) (ti : ∀ y ∈ zs, ∀ z ∈ zs, 0 < y.1.turn → y.1.turn = z.1.turn → y = z) {lo lo2 : List Ob} (hp : lo.Perm ((zs.map (·.1)).filter posO)) (hs : lo.Pairwise (fun a b => a.turn ≤ b.turn))
    (hp2 : lo2.Perm ((zs.map (·.2)).filter posO)) (hs2 : lo2.Pairwise (fun a b => a.turn ≤ b.turn)) : ∃ zl : List (Ob × Ob), lo = zl.map (·.1) ∧ lo2 = zl.map (·.2) ∧ ∀ z ∈ zl, z ∈ zs := by
  have hZ : ∀ z ∈ zs.filter (fun z => posO z.1), z ∈ zs ∧ 0 < z.1.turn := fun z hz => by
    obtain ⟨h1, h2⟩ := List.mem_filter.1 hz
    exact ⟨h1, of_decide_eq_true h2⟩
  have e1 : (zs.map (·.1)).filter posO = (zs.filter (fun z => posO z.1)).map (·.1) := List.filter_map
  have e2 : (zs.map (·.2)).filter posO = (zs.filter (fun z => posO z.1)).map (·.2) := by
    rw [List.filter_map]
    congr 1
    refine List.filter_congr fun z hz => ?_
    show decide (0 < z.2.turn) = decide (0 < z.1.turn)
    have := (h.dat z hz).2.2.2.2
    rw [decide_eq_decide]
    exact this.symm
  rw [e1] at hp
  rw [e2] at hp2
  have hle : ∀ y ∈ zs.filter (fun z => posO z.1), ∀ z ∈ zs.filter (fun z => posO z.1), (y.1.turn ≤ z.1.turn ↔ y.2.turn ≤ z.2.turn) := fun y hy z hz => by
    have := h.ord z (hZ z hz).1 y (hZ y hy).1 (hZ z hz).2 (hZ y hy).2
    omega
  generalize zs.filter (fun z => posO z.1) = Z at hZ hp hp2 hle
  have m1 := List.mergeSort_perm Z (fun a b => decide (a.1.turn ≤ b.1.turn))
  have m2 := List.pairwise_mergeSort (le := fun a b : Ob × Ob => decide (a.1.turn ≤ b.1.turn)) (fun a b c h1 h2 => by simp at h1 h2 ⊢; omega) (fun a b => by simp; omega) Z
  generalize Z.mergeSort (fun a b => decide (a.1.turn ≤ b.1.turn)) = zl at m1 m2
  have hzl : ∀ z ∈ zl, z ∈ Z := fun z hz => m1.mem_iff.1 hz
  refine ⟨zl, ?_, ?_, fun z hz => (hZ z (hzl z hz)).1⟩
  · refine List.Perm.eq_of_pairwise (le := fun a b : Ob => a.turn ≤ b.turn) (fun a b ha hb h1 h2 => ?_) hs (List.pairwise_map.2 (m2.imp fun h => of_decide_eq_true h)) (hp.trans (m1.map _).symm)
    obtain ⟨y, hy, rfl⟩ := List.mem_map.1 (hp.mem_iff.1 ha)
    obtain ⟨z, hz, rfl⟩ := List.mem_map.1 hb
    rw [ti y (hZ y hy).1 z (hZ z (hzl z hz)).1 (hZ y hy).2 (by omega)]
  · refine List.Perm.eq_of_pairwise (le := fun a b : Ob => a.turn ≤ b.turn) (fun a b ha hb h1 h2 => ?_) hs2 (List.pairwise_map.2 (m2.imp_of_mem fun {a b} ha hb h => (hle a (hzl a ha) b (hzl b hb)).1 (of_decide_eq_true h))) (hp2.trans (m1.map _).symm)
    obtain ⟨y, hy, rfl⟩ := List.mem_map.1 (hp2.mem_iff.1 ha)
    obtain ⟨z, hz, rfl⟩ := List.mem_map.1 hb
    have h3 := (hle y hy z (hzl z hz)).2 h1
    have h4 := (hle z (hzl z hz) y hy).2 h2
    rw [ti y (hZ y hy).1 z (hZ z (hzl z hz)).1 (hZ y hy).2 (by omega)]
theorem Zp.ti {zs : List (Ob × Ob)} {turns : Nat} (h : Zp zs) (hI : IC turns (zs.map (·.1))) : ∀ y ∈ zs, ∀ z ∈ zs, 0 < y.1.turn → y.1.turn = z.1.turn → y = z := fun y hy z hz h0 e =>
  h.b1 y hy z hz (hI.ti y.1 (List.mem_map.2 ⟨y, hy, rfl⟩) z.1 (List.mem_map.2 ⟨z, hz, rfl⟩) (by omega) e)
/-- Queue answers alike. -/
theorem Ak.queue {os os2 lo lo2 : List Ob} {turns : Nat} (h : Ak os os2) (hI : IC turns os) (hp : lo.Perm (os.filter posO)) (hs : lo.Pairwise (fun a b => a.turn ≤ b.turn)) (hp2 : lo2.Perm (os2.filter posO)) (hs2 : lo2.Pairwise (fun a b => a.turn ≤ b.turn)) : lo.map nmO = lo2.map nmO := by
  obtain ⟨zs, rfl, rfl, hz⟩ := h
  obtain ⟨zl, rfl, rfl, hm⟩ := hz.queue (hz.ti hI) hp hs hp2 hs2
  exact (hz.sub hm).nms
theorem Ak.filter {os os2 : List Ob} (h : Ak os os2) (s q : Nat) : Ak (os.filter fun o => !isO s q o) (os2.filter fun o => !isO s q o) := by
  obtain ⟨zs, rfl, rfl, hz⟩ := h
  refine ⟨zs.filter fun z => !isO s q z.1, List.filter_map, ?_, hz.sub fun z hz => (List.mem_filter.1 hz).1⟩
  rw [List.filter_map]
  congr 1
  refine List.filter_congr fun z hz2 => ?_
  obtain ⟨e1, e2, _⟩ := hz.dat z hz2
  simp only [Function.comp]
  unfold isO
  rw [e1, e2]
/-- Release answers alike, and leaves what is alike. -/
theorem Ak.mvR {os os2 os' os2' : List Ob} {turns : Nat} {gr gr2 : List (Nat × Nat)} (h : Ak os os2) (hI : IC turns os) (h1 : MvR os gr os') (h2 : MvR os2 gr2 os2') : gr = gr2 ∧ Ak os' os2' := by
  obtain ⟨zs, rfl, rfl, hz⟩ := h
  obtain ⟨lo, p1, s1, m1⟩ := h1
  obtain ⟨lo2, p2, s2, m2⟩ := h2
  obtain ⟨zl, rfl, rfl, hm⟩ := hz.queue (hz.ti hI) p1 s1 p2 s2
  rw [List.map_map] at m1 m2
  obtain ⟨e, zr, r1, r2, r3, _⟩ := mv_pair hz zl.length zl rfl hm gr gr2 os' os2' m1 m2
  exact ⟨e, zr, r1, r2, r3⟩
end Go.Proofs.Ytmpdenpopokigaa
namespace Go.Proofs.Ytmpdenpopokigaa
open Go Go.RowKit

theorem gdr_len {r : Rg} (h : GdR r) : r.lo.length ≤ 1024 ∧ r.hi.length ≤ 1024 := by
  have h1 := h.1
  unfold longR at h1
  simp at h1
  omega
theorem gdr_check {r : Rg} (h : GdR r) : checkR [r] = 0 := by
  unfold checkR
  rw [if_neg (by simp [h.1]), if_neg (by simp [h.2])]
theorem enc1_lenG {r : Rg} (h : GdR r) : (enc1 r).length ≤ 2082 := by
  obtain ⟨h1, h2⟩ := gdr_len h
  have h3 : (exB r).length ≤ 1 := by unfold exB; cases r.ex <;> simp
  have h4 : tot [r.lo, r.hi, exB r] ≤ 2052 := by simp only [tot]; omega
  have h5 := frameB_lenK [r.lo, r.hi, exB r] (by omega)
  have h6 : [r.lo, r.hi, exB r].length = 3 := rfl
  unfold enc1
  omega
theorem encs_tot : ∀ {rs : List Rg}, (∀ r ∈ rs, GdR r) → tot (rs.map enc1) ≤ 2083 * rs.length
  | [], _ => Nat.le_refl _
  | r :: rs, h => by
    have h1 := enc1_lenG (h r List.mem_cons_self)
    have h2 := encs_tot (rs := rs) (fun x hx => h x (List.mem_cons_of_mem _ hx))
    simp only [List.map_cons, tot, List.length_cons]
    omega
theorem encR_len {rs : List Rg} (h : ∀ r ∈ rs, GdR r) (hn : rs.length ≤ 100000) : (encR rs).length ≤ 2093 * rs.length := by
  have h1 := encs_tot h
  have h2 := frameB_lenK (rs.map enc1) (by omega)
  rw [List.length_map] at h2
  unfold encR
  omega
theorem smR_of {rs : List Rg} (h : ∀ r ∈ rs, GdR r) (hn : rs.length ≤ 100000) : SmR rs := ⟨by omega, fun r hr => by have := gdr_len (h r hr); omega, by have := encs_tot h; omega⟩
theorem okR_of {rs : List Rg} (h : ∀ r ∈ rs, GdR r) : OkR (encR rs) rs := okR_enc fun r hr => by
  have h1 := gdr_len (h r hr)
  have h2 := enc1_lenG (h r hr)
  exact ⟨gdr_check (h r hr), by unfold B64; omega, by unfold B64; omega, by unfold B64; omega⟩
section
variable {K : Nat} {u : Ob}
theorem psO_tot (h : GdO K u) (hK : K ≤ 2560) (hs : u.s < B64) (hq : u.q < B64) : tot (psO u) ≤ 24 + 2093 * wtO u := by
  obtain ⟨h1, h2, h3⟩ := h
  have a1 := putU_len64 u.s hs
  have a2 := putU_len64 u.q hq
  have a3 := encR_len h2 (by omega)
  have a4 := encR_len h3 (by omega)
  unfold psO wtO
  simp only [tot]
  omega
theorem encO_len (h : GdO K u) (hK : K ≤ 2560) (hs : u.s < B64) (hq : u.q < B64) : (encO u).length ≤ 64 + 2093 * wtO u := by
  have h1 := psO_tot h hK hs hq
  have h2 := h.1
  have h3 := frameB_lenK (psO u) (by unfold wtO at h1; omega)
  have h4 : (psO u).length = 4 := rfl
  unfold encO
  omega
theorem smO_of (h : GdO K u) (hK : K ≤ 2560) (hs : u.s < B64) (hq : u.q < B64) : SmO u :=
  ⟨hs, hq, smR_of h.2.1 (by have := h.1; omega), smR_of h.2.2 (by have := h.1; omega), by have h1 := psO_tot h hK hs hq; have h2 := h.1; unfold wtO at h1; omega⟩
theorem wrO_of (h : GdO K u) (hK : K ≤ 2560) (hs : u.s < B64) (hq : u.q < B64) (ha : u.asked.length ≤ 64) : WrO u := by
  have h1 := psO_tot h hK hs hq
  have h2 := h.1
  have h3 := encO_len h hK hs hq
  refine ⟨hs, hq, okR_of h.2.1, okR_of h.2.2, ha, fun x hx => ?_, by unfold wtO at h3; unfold B64; omega⟩
  have h4 : x.length ≤ tot (psO u) := by
    unfold psO at hx ⊢
    simp only [tot]
    simp only [List.mem_cons, List.not_mem_nil, or_false] at hx
    rcases hx with rfl | rfl | rfl | rfl <;> omega
  unfold wtO at h1
  unfold B64
  omega
end
theorem encs_len : ∀ {os : List Ob} {K : Nat}, K ≤ 2560 → Gd K os → Nb os → tot (os.map encO) ≤ 65 * os.length + 2093 * sumR os
  | [], _, _, _, _ => Nat.le_refl _
  | u :: os, K, hK, h, hn => by
    have h1 := encO_len (h u List.mem_cons_self) hK (hn u List.mem_cons_self).1 (hn u List.mem_cons_self).2.1
    have h2 := encs_len (os := os) hK (fun x hx => h x (List.mem_cons_of_mem _ hx)) (fun x hx => hn x (List.mem_cons_of_mem _ hx))
    simp only [List.map_cons, tot, List.length_cons, sumR]
    omega
theorem lineB_len {os : List Ob} (hb : (os.map (·.b)).Nodup) (hB : os.length ≤ 1048576) : ∀ {l : List Ob}, (∀ u ∈ l, u ∈ os) → (lineB os l).length ≤ 10 * l.length
  | [], _ => Nat.le_refl _
  | u :: l, h => by
    have h1 := lineB_len hb hB (l := l) (fun x hx => h x (List.mem_cons_of_mem _ hx))
    obtain ⟨i, hi⟩ := List.getElem?_of_mem (h u List.mem_cons_self)
    have h2 := (List.getElem?_eq_some_iff.1 hi).1
    have h3 := putU_len64 (plO os u) (by rw [plO_at hb hi]; unfold B64; omega)
    have e : lineB os (u :: l) = putU (plO os u) ++ lineB os l := by simp [lineB]
    rw [e, List.length_append, List.length_cons]
    omega
section
variable {turns : Nat} {os l : List Ob}
theorem table_tot (hi : InvT 40 turns os) (hs : SB 40 os) (hb : (os.map (·.b)).Nodup) (hp : l.Perm (os.filter posO)) : tot (lineB os l :: os.map encO) ≤ 6000000 ∧ (lineB os l).length ≤ 400 := by
  have h1 := encs_len (K := 64 * 40) (by omega) hi.1 hs.1
  have h2 := hi.2.2.1
  have h3 := hs.2
  have h4 := lineB_len hb (by omega) (l := l) (fun u hu => (List.mem_filter.1 (hp.mem_iff.1 hu)).1)
  have h5 := hp.length_eq
  have h6 := List.length_filter_le posO os
  refine ⟨?_, by omega⟩
  simp only [tot]
  omega
theorem table_len (hi : InvT 40 turns os) (hs : SB 40 os) (hb : (os.map (·.b)).Nodup) (hp : l.Perm (os.filter posO)) : (frameB (lineB os l :: os.map encO)).length ≤ 16777216 := by
  have h1 := (table_tot hi hs hb hp).1
  have h2 := frameB_lenK (lineB os l :: os.map encO) (by omega)
  have h3 := hi.2.2.1
  rw [List.length_cons, List.length_map] at h2
  omega
theorem table_sm (hi : InvT 40 turns os) (hs : SB 40 os) : ∀ u ∈ os, SmO u := fun u hu => smO_of (hi.1 u hu) (by omega) (hs.1 u hu).1 (hs.1 u hu).2.1
theorem table_wr (hi : InvT 40 turns os) (hs : SB 40 os) : ∀ u ∈ os, WrO u := fun u hu => wrO_of (hi.1 u hu) (by omega) (hs.1 u hu).1 (hs.1 u hu).2.1 (hs.1 u hu).2.2
end
/-- Encode of such a table. -/
theorem enc_any {w : World} {bs p : Nat} {OA : Option Addr} {oc turns : Nat} {os : List Ob} (h : TkAt w bs p OA oc turns os) (hi : InvT 40 turns os) (hs : SB 40 os) : Calls Try.prog 39 #[.pointer (some ⟨p, 0, none⟩)] w (fun e w' => ∃ l : List Ob, l.Perm (os.filter posO) ∧ l.Pairwise (fun a b => a.turn ≤ b.turn) ∧ Made w.heap.size w (frameB (lineB os l :: os.map encO)) e w') :=
  encodeT_any h (by have := hi.2.2.1; omega) (table_sm hi hs) (fun l hl => by have := (table_tot hi hs h.nd hl).1; omega)
/-- Decode of its bytes. -/
theorem dec_any {w0 w : World} {bs p : Nat} {OA A : Option Addr} {oc turns n c : Nat} {os l : List Ob} (h : TkAt w0 bs p OA oc turns os) (hi : InvT 40 turns os) (hs : SB 40 os) (hp : l.Perm (os.filter posO)) (ho : l.Pairwise (fun a b => a.turn ≤ b.turn))
    (hr : Rd w A n (frameB (lineB os l :: os.map encO))) (hc : n ≤ c) (hnil : A = none → c = 0) :
    Calls Try.prog 38 #[.slice A n c] w (fun e w' => ∃ (bs2 p2 : Nat) (OA2 : Option Addr) (oc2 t2 : Nat) (os2 : List Ob), e = .returned (.tuple #[.pointer (some ⟨p2, 0, none⟩), .int .i64 0]) ∧ w.heap.size ≤ bs2 ∧ TkAt w' bs2 p2 OA2 oc2 t2 os2 ∧ Ak os os2 ∧ Below w.heap.size w w') := by
  have h1 := table_len hi hs h.nd hp
  have h2 := table_tot hi hs h.nd hp
  refine (decodeT_any hr (by rw [← hr.len]; exact h1) hc hnil).mono fun e w' hq => ?_
  obtain ⟨bs2, p2, OA2, oc2, t2, os2, e1, e2, e3, e4, e5⟩ := de_enc hi.2.2.2.2 hi.2.1 h.nd hp ho (table_wr hi hs) (by have := h2.2; unfold B64; omega) (by have := hi.2.2.1; omega) hq
  exact ⟨bs2, p2, OA2, oc2, t2, os2, e1, e2, e3, e4.ak, e5⟩
end Go.Proofs.Ytmpdenpopokigaa
namespace Go.Proofs.Ytmpdenpopokigaa
open Go Go.RowKit

def RAcB (w : World) (A : Option Addr) (n : Nat) (ac : List Ac) : Prop := RAc w A n ac ∧ ∀ a ∈ ac, a.s < B64 ∧ a.q < B64
theorem RAcB.below {w w' : World} {A : Option Addr} {n : Nat} {ac : List Ac} (h : RAcB w A n ac) (hb : Below w.heap.size w w') : RAcB w' A n ac := ⟨h.1.below hb, h.2⟩
def RetCl2 (w : World) (e : Ending) (w' : World) : Prop := ∃ (p : Nat) (OA : Option Addr) (oc turns : Nat) (os : List Ob), e = .returned (.pointer (some ⟨p, 0, none⟩)) ∧ TkAt w' w.heap.size p OA oc turns os ∧ InvT 40 turns os ∧ SB 40 os ∧ Below w.heap.size w w'
theorem RetCl2.out {w : World} {e : Ending} {w' : World} (h : RetCl2 w e w') : ∃ (p : Nat) (OA : Option Addr) (oc turns : Nat) (os : List Ob), e = .returned (.pointer (some ⟨p, 0, none⟩)) ∧ TkAt w' w.heap.size p OA oc turns os ∧ InvT 40 turns os ∧ SB 40 os ∧ Below w.heap.size w w' := h
set_option maxRecDepth 100000 in
set_option maxHeartbeats 8000000 in
theorem calls2_any {w : World} {A : Option Addr} {n c : Nat} {ac : List Ac} (hr : RAcB w A n ac) (hc : n ≤ c) : Calls Try.prog 37 #[.slice A n c] w (RetCl2 w) := by
  have HRB := Lib.hid hr.2
  have HR := Lib.hid hr.1
  obtain ⟨m, hm⟩ : ∃ m, m = min n 40 := ⟨_, rfl⟩
  have HFW : Hid (∀ wx, Calls Try.prog 91 #[.slice A n c, .int .i64 40] wx (fun e w' => e = .returned (.slice A m c) ∧ w' = wx)) := Lib.hid (fun wx => by rw [hm]; exact few16_any (m := 40) hc wx)
  have hm1 : m ≤ n := by omega
  have hm2 : m ≤ 40 := by omega
  have HT0 : Hid (TkAt (w.alloc (.cells #[.slice none 0 0, .int .u64 0] 91)) w.heap.size w.heap.size none 0 0 []) := Lib.hid tk_nil
  have HB0 : Hid (Below w.heap.size w (w.alloc (.cells #[.slice none 0 0, .int .u64 0] 91))) := Lib.hid ((Below.refl _ _).alloc (Nat.le_refl _) _)
  have HI0 : Hid (InvT 0 0 [] ∧ SB 0 []) := Lib.hid ⟨⟨(fun u hu => by cases hu), (fun u hu => by cases hu), Nat.le_refl _, Nat.le_refl _, IL.nil 0⟩, SB.nil 0⟩
  clear hr hm
  go_enter Try.func37, Try.ntmps37
  go_wp2_with fail
  with_reducible refine (HFW.out _).mono ?_
  rintro e w1 ⟨rfl, rfl⟩
  go_wp2_with fail
  obtain ⟨p, hp⟩ : ∃ p, p = w.heap.size := ⟨_, rfl⟩
  go_loopw [11] (fun s11 wr => ∃ (k : Nat) (OA : Option Addr) (oc turns : Nat) (os : List Ob), k ≤ m ∧ s11 = .int .i64 (k : Int) ∧ TkAt wr w.heap.size w.heap.size OA oc turns os ∧ (InvT k turns os ∧ SB k os) ∧ Below w.heap.size w wr) (fun s _ => m - (intOf s).toNat)
  case atStart => exact ⟨0, none, 0, 0, [], Nat.zero_le _, rfl, HT0.out, HI0.out, HB0.out⟩
  case round =>
    obtain ⟨k, OA, oc, turns, os, hk, rfl, hT, hI, hB⟩ := hrel
    have HT := Lib.hid hT
    have HI := Lib.hid hI.1
    have HSB := Lib.hid hI.2
    have HB := Lib.hid hB
    clear hT hI hB
    by_cases hlt : k < m
    · have hR := HR.out.below HB.out
      obtain ⟨b, off, hAb, hbl, hcs⟩ := hR.2 (by omega)
      subst hAb
      obtain ⟨a, ha⟩ : ∃ a, ac[k]? = some a := ⟨_, List.getElem?_eq_getElem (by have := hR.1; omega)⟩
      have HSQ := Lib.hid (HRB.out a (List.mem_of_getElem? ha))
      obtain ⟨v0, v1, v2, v3, m0, m1, m2, m3, hv⟩ := hcs k a ha
      obtain ⟨rfl, rfl, rfl, D, dn, dc, rfl, rD, hdn, hds⟩ := hv
      obtain ⟨U, hU⟩ : ∃ U, U = wr.alloc (.cells #[.int .i64 a.kind, .int .u64 (a.s : Int), .int .u64 (a.q : Int), .slice D dn dc] 155) := ⟨_, rfl⟩
      have bU : Below wr.heap.size wr U := by rw [hU]; exact (Below.refl _ _).alloc (Nat.le_refl _) _
      have zU : Cl U wr.heap.size #[.int .i64 a.kind, .int .u64 (a.s : Int), .int .u64 (a.q : Int), .slice D dn dc] 155 := by rw [hU]; exact Cl.new _ _ _
      obtain ⟨g0, hg0⟩ : ∃ g0, g0 = wr.heap.size := ⟨_, rfl⟩
      rw [← hg0] at zU
      obtain ⟨c0, c1, c2, c3, _⟩ := zU.c4
      have HU := Lib.hid hU
      have HG := Lib.hid hg0
      have HTU := Lib.hid (HT.out.below bU)
      have HBU := Lib.hid (belowT' HB.out bU)
      have hk40 : k ≤ 1000 := by omega
      have HFB : Hid (∀ {wx : World} {bl : List Nat}, Fr U wx bl → (∀ x ∈ bl, w.heap.size ≤ x) → Below w.heap.size w wx) := Lib.hid (fun hf hx => HBU.out.trans (hf.below hx HBU.out.size))
      by_cases hk2 : a.kind = 2
      · have t1 : (a.kind == 2) = true := by simpa using hk2
        have HRL := Lib.hid (release_any HTU.out (by have := HI.out.2.2.1; omega) (HI.out.szO hk40) a.s a.q)
        clear hR hcs ha bU zU hU hg0 rD hdn hds hk2
        go_upto_region 5 with (fail)
        rw [← HU.out, ← HG.out]
        clear m0 m1 m2 m3
        go_wp2_with fail
        with_reducible refine HRL.out.mono ?_
        intro e w5 hq
        obtain ⟨L5, d5, gr, OA5, oc5, os5, h1, h2, h3, h4, h5, h6⟩ := hq.out
        obtain ⟨gn, hgn⟩ : ∃ gn, gr.length = gn := ⟨_, rfl⟩
        rw [hgn] at h1
        subst h1
        have HQ := Lib.hid (And.intro h3 (And.intro (And.intro ((HI.out.rel h6.2).mono (Nat.le_succ k)) ((HSB.out.rel h6.2 HI.out.2.2.2.2).mono (Nat.le_succ k))) (HFB.out h4 (fun x hx => (HTU.out.bl_ge x hx).1))))
        clear hq h2 h3 h4 h5 h6 c0 c1 c2 c3
        go_wp2_with fail
        go_roundw
        case rel => exact ⟨k + 1, OA5, oc5, turns, os5, by omega, by go_num, HQ.out.1, HQ.out.2.1, HQ.out.2.2⟩
        case measure => simp [intOf]; omega
      · have t1 : (a.kind == 2) = false := by simpa using hk2
        have HTW : Hid (∀ wx, Below U.heap.size U wx → Calls Try.prog 92 #[.slice D dn dc] wx (RetRg wx a.rs)) := Lib.hid (fun wx hb => twins_any ((rD.below bU).below hb) (by omega) hds)
        have HAK : Hid (∀ wx L n2 c2 ps w6, Below U.heap.size U wx → RowGr wx wx.heap.size L n2 c2 a.rs ps w6 → Calls Try.prog 45 #[.pointer (some ⟨w.heap.size, 0, none⟩), .agg #[.int .u64 (a.s : Int), .int .u64 (a.q : Int)], .slice L n2 c2] w6 (RetAsk w6 w.heap.size w.heap.size OA turns os a.s a.q a.rs)) := Lib.hid (fun wx L n2 c2 ps w6 hb hrow => ask_row (HTU.out.below hb) hrow (by have h1 := HBU.out.size; have h2 := hb.size; omega) HI.out hk40 (by have h1 := hrow.len; have h2 := rD.len; omega) hds a.s a.q)
        have HCE : Hid (∀ wx, Below U.heap.size U wx → wx.cell? ⟨g0, 1, none⟩ = some (.int .u64 (a.s : Int)) ∧ wx.cell? ⟨g0, 2, none⟩ = some (.int .u64 (a.q : Int)) ∧ wx.cell? ⟨g0, 3, none⟩ = some (.slice D dn dc)) := Lib.hid (fun wx hb => ⟨(zU.below hb).cell 1, (zU.below hb).cell 2, (zU.below hb).cell 3⟩)
        have hB1 : Below U.heap.size U U.drew := (Below.refl _ _).drew
        clear hR hcs ha bU zU hU hg0 rD hdn hds hk2
        go_upto_region 5 with (fail)
        rw [← HU.out, ← HG.out]
        clear m0 m1 m2 m3
        go_upto_region 7 with (fail)
        go_region_law (first | (go_simp; go_at_call 92; with_reducible refine (HTW.out _ (by first | exact hB1 | assumption)).mono ?_; intro e w6 hq; obtain ⟨L, n2, c2, ps, h1, hrow⟩ := hq.out; subst h1; have hb6 := belowT' (by first | exact hB1 | assumption : Below U.heap.size U _) hrow.bel; obtain ⟨p1, p2, p3⟩ := HCE.out _ hb6; have HAK2 := Lib.hid (HAK.out _ _ _ _ _ _ (by first | exact hB1 | assumption) hrow)) | (go_simp; go_at_call 45; with_reducible refine HAK2.out.mono ?_; intro e w7 hq7; obtain ⟨st, err, V, G, OA7, vn, vc, gn, gc, oc7, turns7, vic, gr, os7, h1, h2, h3, h4, h5, h6, h7, h8, h9⟩ := hq7.out; subst h1))
        all_goals
          have HQ := Lib.hid (And.intro h6 (And.intro (And.intro (HI.out.ask h9) (HSB.out.ask h9 HI.out.2.2.2.2 HTU.out.nd HSQ.out.1 HSQ.out.2)) (HFB.out ((Fr.of_below hb6 (tbl w.heap.size OA os)).trans h7 (fun b hb => .inl hb)) (fun x hx => (HTU.out.bl_ge x hx).1))))
          clear hq hq7 h2 h3 h4 h5 h6 h7 h8 h9 hrow hb6 p1 p2 p3 HAK2
          go_wp2_with fail
          go_roundw
          case rel => exact ⟨k + 1, OA7, oc7, turns7, os7, by omega, by go_num, HQ.out.1, HQ.out.2.1, HQ.out.2.2⟩
          case measure => simp [intOf]; omega
    · obtain rfl : k = m := by omega
      have HF : Hid (RetCl2 w (.returned (.pointer (some ⟨w.heap.size, 0, none⟩))) wr) := Lib.hid ⟨w.heap.size, OA, oc, turns, os, rfl, HT.out, HI.out.mono hm2, HSB.out.mono hm2, HB.out⟩
      go_wp2_with fail
      go_ret
      exact HF.out
end Go.Proofs.Ytmpdenpopokigaa
namespace Go.Proofs.Ytmpdenpopokigaa
open Go Go.RowKit Go.Deep Go.ChangeShapes Go.WideShapes Go.ChangeAt

theorem txn_cellsB {H : Type} {enc : TypeId × Value → H} {w : World} {base m : Nat} {held : Bool} {v0 v1 : Value} {y : DataW H × List MemPlace} (h : DataW.trod enc Try.prog w base (fun _ => true) held m 83 [v0, v1] = some y) :
    ∃ s q : Nat, v0 = .int .u64 (s : Int) ∧ v1 = .int .u64 (q : Int) ∧ U64 s ∧ U64 q := by
  obtain ⟨y0, y1, n, _, _, h0, h1⟩ := trod_struct2 Try.underlying83 h
  have hc : Try.prog.cellsOf 35 = 1 := by kernel_rfl
  obtain ⟨z0, rfl, w0⟩ := int_field (v := v0) Try.underlying35 (by simpa [hc] using h0)
  obtain ⟨z1, rfl, w1⟩ := int_field (v := v1) Try.underlying35 (by simpa [hc] using h1)
  exact ⟨z0.toNat, z1.toNat, by rw [← (wf_u64 w0).1], by rw [← (wf_u64 w1).1], (wf_u64 w0).2, (wf_u64 w1).2⟩
set_option maxRecDepth 100000 in
theorem acts16b_of {H : Type} {enc : TypeId × Value → H} {w : World} {base fuel : Nat} {held : Bool} {A : Option Addr} {len cap : Nat} {x : DataW H × List MemPlace} (h : DataW.trod enc Try.prog w base (fun _ => true) held fuel 74 [.slice A len cap] = some x) (hb : Rows.uptoBulk x.1 ≤ 1048576) :
    ∃ al : List Ac, RAcB w A len al ∧ len ≤ cap := by
  rcases open_slice Try.underlying74 h with ⟨hcs, hx⟩ | ⟨a, l, c, m, n, D, Pl, hcs, _, hl, hm, hmm, hx, hi⟩
  · simp at hcs
    obtain ⟨rfl, rfl, rfl⟩ := hcs
    exact ⟨[], ⟨⟨Nat.le_refl _, fun h => absurd h (by omega)⟩, fun a ha => by cases ha⟩, Nat.le_refl _⟩
  · simp at hcs
    obtain ⟨rfl, rfl, rfl⟩ := hcs
    simp at hmm
    subst hmm
    have hc4 : Try.prog.cellsOf 155 = 4 := by kernel_rfl
    have hci : Try.prog.cellsOf 3 = 1 := by kernel_rfl
    have hct : Try.prog.cellsOf 83 = 2 := by kernel_rfl
    have hcr : Try.prog.cellsOf 98 = 1 := by kernel_rfl
    have key : ∀ i, i < len → ∃ ac : Ac, (∃ v0 v1 v2 v3, w.cell? ((a.add (i * 4)).add 0) = some v0 ∧ w.cell? ((a.add (i * 4)).add 1) = some v1 ∧ w.cell? ((a.add (i * 4)).add 2) = some v2 ∧ w.cell? ((a.add (i * 4)).add 3) = some v3 ∧ AcV0 w ac v0 v1 v2 v3) ∧ (U64 ac.s ∧ U64 ac.q) ∧ totR ac.rs + 1 ≤ Rows.uptoBulk (D i) := by
      intro i hil
      obtain ⟨cs', hc', ht'⟩ := hi i (by omega)
      obtain ⟨y0, y1, y2, k, hD, hcl, t0, t1, t2⟩ := trod_struct3 Try.underlying155 ht'
      obtain ⟨_, _, hat⟩ := World.cells?_some hc'
      rw [hc4] at hcl hat
      match cs', hcl, hat, t0, t1, t2 with
      | [v0, v1, v2, v3], _, hat, t0, t1, t2 =>
        obtain ⟨z0, rfl, w0⟩ := int_field (v := v0) Try.underlying3 (by simpa [hci] using t0)
        obtain ⟨s, q, rfl, rfl, us, uq⟩ := txn_cellsB (v0 := v1) (v1 := v2) (by simpa [hct] using t1)
        have t2 : DataW.trod enc Try.prog w base (fun _ => true) held k 98 [v3] = some y2 := by simpa [hcr] using t2
        obtain ⟨B, bn, bc, rfl⟩ : ∃ B bn bc, v3 = .slice B bn bc := by
          rcases open_slice Try.underlying98 t2 with ⟨hcs, _⟩ | ⟨a, l, c, m, n, D, Pl, hcs, _⟩
          · simp at hcs; exact ⟨_, _, _, hcs⟩
          · simp at hcs; exact ⟨_, _, _, hcs⟩
        obtain ⟨rs, r1, _, r3⟩ := rngs_of t2
        refine ⟨⟨z0, s, q, rs⟩, ⟨_, _, _, _, by rw [hat 0 (by omega)]; rfl, by rw [hat 1 (by omega)]; rfl, by rw [hat 2 (by omega)]; rfl, by rw [hat 3 (by omega)]; rfl, rfl, rfl, rfl, B, bn, bc, rfl, r1⟩, ⟨us, uq⟩, ?_⟩
        injection hD with hD1 hD2
        rw [hD1]
        simp only [Rows.uptoBulk, Rows.uptoBulkAll]
        omega
    obtain ⟨al, hal, hall⟩ := list_of len key
    have hbk := totC_bulk al D (fun i ac hi' => (hall i ac hi').2.2)
    have htot : totC al ≤ 1048576 := by
      rw [hal] at hbk
      rw [hx] at hb
      simp only [Rows.uptoBulk] at hb
      omega
    refine ⟨al, ⟨⟨by omega, fun hn => ?_⟩, fun x hx => ?_⟩, hl⟩
    rotate_left
    · obtain ⟨i, hi2⟩ := List.getElem?_of_mem hx
      exact (hall i x hi2).2.1
    obtain ⟨b, off, spot⟩ := a
    obtain ⟨ac, ⟨v0, v1, v2, v3, m0, _⟩, _⟩ := key 0 hn
    have hspot : spot = none := by
      have := World.cell?_spot m0
      simpa [Addr.add] using this
    subst hspot
    rw [addA, addA] at m0
    have hbl := World.block_lt_of_cell? w _ m0
    refine ⟨b, off, rfl, hbl, fun k ac hk => ?_⟩
    obtain ⟨⟨v0, v1, v2, v3, m0, m1, m2, m3, hav⟩, _⟩ := hall k ac hk
    rw [addA, addA] at m0 m1 m2 m3
    exact ⟨v0, v1, v2, v3, m0, m1, m2, m3, hav.up (Nat.le_trans (totC_mem (List.mem_of_getElem? hk)) htot)⟩
end Go.Proofs.Ytmpdenpopokigaa
namespace Go.Proofs.Ytmpdenpopokigaa
open Go Go.RowKit
def rA : Rg := ⟨[97], [98], true⟩
theorem rA_ok : checkR [rA] = 0 := by decide
theorem rA_cl : clashR [rA] [rA] = true := by decide
theorem wf_self (o : Ob) : wfO o o = false := by unfold wfO; rw [if_pos (.inl rfl)]
theorem ask1_plain {err st : Int} {vic gr : List (Nat × Nat)} {turns' : Nat} {os' : List Ob} (h : AskR [] 0 1 0 [rA] err st vic gr turns' os') : err = 0 ∧ st = 1 ∧ turns' = 1 ∧ ∃ x, os' = [x] ∧ x.s = 1 ∧ x.q = 0 ∧ x.held = [rA] ∧ x.asked = [] ∧ x.turn = 0 := by
  rcases h with ⟨h, _⟩ | ⟨_, ⟨o, h, _⟩, _⟩ | ⟨_, rfl, rfl, os1, o1, hp, hmm, h⟩
  · exact absurd rA_ok h
  · cases h
  · obtain ⟨ea, et, ⟨o, h1, _⟩ | ⟨_, e1, e2, e3, e4, rfl⟩⟩ := hp
    · cases h1
    · rcases h with ⟨_, rfl, _, _, A, d, rfl⟩ | ⟨hany, _⟩
      · refine ⟨rfl, rfl, rfl, takeO o1 A d, ?_, e1, e2, ?_, rfl, rfl⟩
        · unfold updO
          simp [show (takeO o1 A d).b = o1.b from rfl]
        · show o1.held ++ o1.asked = [rA]
          rw [e3, ea]; rfl
      · simp [wf_self] at hany
theorem Mv.nil {os0 os : List Ob} {out : List (Nat × Nat)} (h : Mv os0 [] out os) : out = [] ∧ os = os0 := by
  generalize hl : ([] : List Nat) = l at h
  cases h with
  | start => exact ⟨rfl, rfl⟩
  | stay _ _ _ => simp at hl
  | go _ _ _ => simp at hl
theorem Mv.one {os0 os : List Ob} {b : Nat} {out : List (Nat × Nat)} (h : Mv os0 [b] out os) : ∃ c ∈ os0, c.b = b ∧ ((out = [] ∧ os = os0 ∧ os0.any (wfO c) = true) ∨ (os0.any (wfO c) = false ∧ out = [nmO c])) := by
  generalize hl : ([b] : List Nat) = l at h
  cases h with
  | start => cases hl
  | @stay l out os c h1 h2 h3 =>
    have e : l = [] ∧ c.b = b := by
      cases l with
      | nil => simp at hl; exact ⟨rfl, hl.symm⟩
      | cons a l => simp at hl
    obtain ⟨rfl, rfl⟩ := e
    obtain ⟨rfl, rfl⟩ := h1.nil
    exact ⟨c, h2, rfl, .inl ⟨rfl, rfl, h3⟩⟩
  | @go l out os c A d h1 h2 h3 =>
    have e : l = [] ∧ c.b = b := by
      cases l with
      | nil => simp at hl; exact ⟨rfl, hl.symm⟩
      | cons a l => simp at hl
    obtain ⟨rfl, rfl⟩ := e
    obtain ⟨rfl, rfl⟩ := h1.nil
    exact ⟨c, h2, rfl, .inr ⟨h3, rfl⟩⟩
theorem rch_dead {R : Ob → Ob → Bool} {os : List Ob} {f v : Ob} (h : Rch R os f v) (h0 : ∀ u ∈ os, R f u = false) : False := by
  induction h with
  | one hx hr => rw [h0 _ hx] at hr; cases hr
  | more _ _ _ ih => exact ih
theorem Broke.none {fb : Nat} {os0 os : List Ob} {out : List (Nat × Nat)} (h : Broke fb os0 out os) (h0 : ∀ f ∈ os0, f.b = fb → ∀ u ∈ os0, stepB f u = false) : out = [] ∧ os = os0 := by
  induction h with
  | start => exact ⟨rfl, rfl⟩
  | step _ hf he hv ih =>
    obtain ⟨rfl, rfl⟩ := ih
    obtain ⟨i, _, hb, _⟩ := hv
    exact absurd hb.1 (fun h => rch_dead h (h0 _ hf he))
theorem ask2_plain {x : Ob} (hxs : x.s = 1) (hxh : x.held = [rA]) (_hxa : x.asked = []) (hxt : x.turn = 0) {err st : Int} {vic gr : List (Nat × Nat)} {turns' : Nat} {os' : List Ob} (h : AskR [x] 1 2 0 [rA] err st vic gr turns' os') : err = 0 ∧ st = 2 ∧ turns' = 2 ∧ ∃ y, os' = [x, y] ∧ y.s = 2 ∧ y.q = 0 ∧ y.held = [] ∧ y.asked = [rA] ∧ y.turn = 2 ∧ x.b ≠ y.b := by
  have hfn : [x].find? (isO 2 0) = none := by simp [isO, hxs]
  rcases h with ⟨h, _⟩ | ⟨_, ⟨o, h, _⟩, _⟩ | ⟨_, rfl, rfl, os1, o1, hp, hmm, h⟩
  · exact absurd rA_ok h
  · rw [hfn] at h; cases h
  · obtain ⟨ea, et, ⟨o, h1, _⟩ | ⟨_, e1, e2, e3, e4, rfl⟩⟩ := hp
    · rw [hfn] at h1; cases h1
    · have hne := e4 x (by simp)
      have hw : wfO o1 x = true := by
        unfold wfO
        rw [if_neg (fun h => h.elim (fun h => hne h.symm) (fun h => by rw [et] at h; cases h)), ea, hxh, rA_cl]; rfl
      have hx0 : ∀ u, wfO x u = false := fun u => by unfold wfO; rw [if_pos (.inr hxt)]
      rcases h with ⟨hany, _⟩ | ⟨_, os2, hbr, _, ⟨lo, hlo, _, hmv⟩, oe, hoe, hoeb, rfl⟩
      · simp [hw] at hany
      · have hb := hbr.none (fun f hf hfb u hu => by
          unfold stepB
          rcases List.mem_append.1 hf with hf | hf
          · rw [List.mem_singleton.1 hf] at hfb; exact absurd hfb hne
          · rw [List.mem_singleton.1 hf]
            rcases List.mem_append.1 hu with hu | hu
            · rw [List.mem_singleton.1 hu]; exact hx0 _
            · rw [List.mem_singleton.1 hu]; exact wf_self _)
        obtain ⟨rfl, rfl⟩ := hb
        have hfl : ([x] ++ [o1]).filter posO = [o1] := by simp [posO, hxt, et]
        rw [hfl] at hlo
        rw [List.perm_singleton.1 hlo] at hmv
        obtain ⟨c, hc, hcb, hcs⟩ := Mv.one hmv
        have hco : c = o1 := by
          rcases List.mem_append.1 hc with hc | hc
          · rw [List.mem_singleton.1 hc] at hcb; exact absurd hcb hne
          · exact List.mem_singleton.1 hc
        subst hco
        rcases hcs with ⟨_, rfl, _⟩ | ⟨h1, _⟩
        · have hoo : oe = c := by
            rcases List.mem_append.1 hoe with h | h
            · rw [List.mem_singleton.1 h] at hoeb; exact absurd hoeb hne
            · exact List.mem_singleton.1 h
          refine ⟨rfl, ?_, rfl, c, rfl, e1, e2, e3, ea, et, hne⟩
          rw [if_neg (by simp), hoo, if_neg (by rw [et]; decide)]
        · simp [hw] at h1
theorem rel_plain {x y : Ob} (hxs : x.s = 1) (hxq : x.q = 0) (hys : y.s = 2) (hyt : y.turn = 2) {gr : List (Nat × Nat)} {os' : List Ob} (h : MvR ([x, y].filter fun o => !isO 1 0 o) gr os') : gr.length = 1 := by
  have e : ([x, y].filter fun o => !isO 1 0 o) = [y] := by simp [isO, hxs, hxq, hys]
  rw [e] at h
  obtain ⟨lo, hlo, _, hmv⟩ := h
  have hfl : [y].filter posO = [y] := by simp [posO, hyt]
  rw [hfl] at hlo
  rw [List.perm_singleton.1 hlo] at hmv
  obtain ⟨c, hc, _, hcs⟩ := Mv.one hmv
  rw [List.mem_singleton.1 hc] at hcs
  rcases hcs with ⟨_, _, h1⟩ | ⟨_, rfl⟩
  · simp [wf_self] at h1
  · rfl
theorem Rd.cst16 (w : World) (e : TypeId) (n : Nat) (xs : List UInt8) (hn : xs.length = n) (vs : Array Value) (hv : vs = (xs.map cv).toArray) (fr : Nat × Nat) (g : Nat) (hg : g = w.heap.size) :
    Rd (w.alloc (.cells vs e fr)) (some ⟨g, 0, none⟩) n xs := by
  subst hv hg
  refine ⟨hn, fun _ => ⟨w.heap.size, 0, rfl, by simp, fun i x hx => ?_⟩⟩
  have h := cell_of_row (w.alloc (.cells (xs.map cv).toArray e fr)) w.heap.size (0 + i) (xs.map cv).toArray e fr (heap_alloc_new w _)
  rw [h]
  simp [hx, cv]
theorem rA_rd {wx : World} {ga gb gr : Nat} (ha : Rd wx (some ⟨ga, 0, none⟩) 1 [97]) (hb : Rd wx (some ⟨gb, 0, none⟩) 1 [98]) (hr : Cl wx gr #[.slice (some ⟨ga, 0, none⟩) 1 1, .slice (some ⟨gb, 0, none⟩) 1 1, .bool true] 97) : RGr wx (some ⟨gr, 0, none⟩) 1 [rA] :=
  RGr.mk (GrVs.one ⟨rfl, ⟨_, 1, 1, rfl, ha, Nat.le_refl _, fun h => by cases h⟩, ⟨_, 1, 1, rfl, hb, Nat.le_refl _, fun h => by cases h⟩⟩) (rdv_of_cl3 hr) rfl
theorem sz_rA : SzG [rA] := fun r hr => by
  rw [List.mem_singleton.1 hr]
  unfold rA
  simp
set_option maxRecDepth 100000 in
set_option maxHeartbeats 8000000 in
theorem awake16_any (w : World) : Calls Try.prog 36 #[] w (RetT w true) := by
  have kc := fun (w : World) (C : Array Value) (n c g : Nat) (hg : g = w.heap.size) => Joins.run_convert_bytes_const_at (P := Try.prog) w 36 5 C n c g hg Try.underlying36 Try.underlying5
  obtain ⟨p, hp⟩ : ∃ p, p = w.heap.size := ⟨_, rfl⟩
  obtain ⟨W5, hW5⟩ : ∃ W5, W5 = (((((w.alloc (.cells #[.slice none 0 0, .int .u64 0] 91)).alloc (.cells #[.int .u8 97] 5 (1, 2))).alloc (.cells #[.int .u8 98] 5 (1, 2))).alloc (.cells #[.slice (some ⟨w.heap.size + 1, 0, none⟩) 1 1, .slice (some ⟨w.heap.size + 1 + 1, 0, none⟩) 1 1, .bool true] 97)).alloc (.cells #[.slice (some ⟨w.heap.size + 1, 0, none⟩) 1 1, .slice (some ⟨w.heap.size + 1 + 1, 0, none⟩) 1 1, .bool true] 97)) := ⟨_, rfl⟩
  have s5 : W5.heap.size = p + 5 := by rw [hW5, hp]; simp
  have b5 : Below p w W5 := by rw [hW5, hp]; exact ((((Below.refl _ _).alloc (Nat.le_refl _) _).alloc (by simp) _).alloc (by simp <;> omega) _).alloc (by simp <;> omega) _ |>.alloc (by simp <;> omega) _
  have hT5 : TkAt W5 p p none 0 0 [] := by
    rw [hW5, hp]
    exact tk_nil.below (((((Below.refl _ _).alloc (Nat.le_refl _) _).alloc (by simp) _).alloc (by simp <;> omega) _).alloc (by simp <;> omega) _)
  have ra5 : Rd W5 (some ⟨p + 1, 0, none⟩) 1 [97] := by
    rw [hW5, hp]
    exact (((Rd.cst16 _ _ 1 [97] rfl _ rfl (1, 2) _ (by simp)).alloc _).alloc _).alloc _
  have rb5 : Rd W5 (some ⟨p + 1 + 1, 0, none⟩) 1 [98] := by
    rw [hW5, hp]
    exact ((Rd.cst16 _ _ 1 [98] rfl _ rfl (1, 2) _ (by simp)).alloc _).alloc _
  have z3 : Cl W5 (p + 1 + 1 + 1) #[.slice (some ⟨p + 1, 0, none⟩) 1 1, .slice (some ⟨p + 1 + 1, 0, none⟩) 1 1, .bool true] 97 := by
    rw [hW5, hp]
    exact (Cl.newg _ _ _ _ (by simp)).alloc _
  have z4 : Cl W5 (p + 1 + 1 + 1 + 1) #[.slice (some ⟨p + 1, 0, none⟩) 1 1, .slice (some ⟨p + 1 + 1, 0, none⟩) 1 1, .bool true] 97 := by
    rw [hW5, hp]
    exact Cl.newg _ _ _ _ (by simp)
  have ht0 : ∀ b ∈ tbl p none [], b = p := fun b hb => by
    rcases mem_tbl.1 hb with h | h | ⟨u, hu, _⟩
    · exact h
    · cases h
    · cases hu
  have hno : ∀ k, p < k → k ∉ tbl p none [] := fun k hk hm => by have := ht0 k hm; omega
  have HK1 : Hid (∀ wx, Fr W5 wx (tbl p none []) → Rd wx (some ⟨p + 1, 0, none⟩) 1 [97] ∧ Rd wx (some ⟨p + 1 + 1, 0, none⟩) 1 [98] ∧ Cl wx (p + 1 + 1 + 1) #[.slice (some ⟨p + 1, 0, none⟩) 1 1, .slice (some ⟨p + 1 + 1, 0, none⟩) 1 1, .bool true] 97 ∧ Cl wx (p + 1 + 1 + 1 + 1) #[.slice (some ⟨p + 1, 0, none⟩) 1 1, .slice (some ⟨p + 1 + 1, 0, none⟩) 1 1, .bool true] 97) := Lib.hid (fun wx hf =>
    ⟨ra5.fr hf (fun b hb => by have hb : some (p + 1) = some b := hb; injection hb with hb; exact hno b (by omega)), rb5.fr hf (fun b hb => by have hb : some (p + 1 + 1) = some b := hb; injection hb with hb; exact hno b (by omega)), (hf.block _ z3.lt (hno _ (by omega))).trans z3, (hf.block _ z4.lt (hno _ (by omega))).trans z4⟩)
  have HA1 : Hid (Calls Try.prog 45 #[.pointer (some ⟨p, 0, none⟩), .agg #[.int .u64 1, .int .u64 0], .slice (some ⟨p + 1 + 1 + 1 + 1, 0, none⟩) 1 1] W5 (RetAsk W5 p p none 0 [] 1 0 [rA])) := Lib.hid (by
    have := ask_any (A := some ⟨p + 1 + 1 + 1 + 1, 0, none⟩) (n := 1) (c := 1) (rs := [rA]) hT5 (by simp) (by omega) (by omega) (fun u hu => by cases hu) (fun u hu => by cases hu) (fun wx hf => by obtain ⟨q1, q2, _, q4⟩ := HK1.out wx hf; exact rA_rd q1 q2 q4) (by omega) sz_rA (fun h => by cases h) (Nat.le_refl _) 1 0
    simpa using this)
  have HW5 := Lib.hid hW5
  have HS5 := Lib.hid s5
  have HB5 := Lib.hid b5
  have HP := Lib.hid hp
  have HT5 := Lib.hid hT5
  clear hW5 s5 b5 hT5 ra5 rb5 z3 z4 hno ht0
  go_enter Try.func36, Try.ntmps36
  go_wp2_with fail
  rw [← HW5.out]
  rw [← HP.out]
  clear kc
  with_reducible refine HA1.out.mono ?_
  intro e w6 hq
  obtain ⟨st, err, V, G, OA6, vn, vc, gn, gc, oc6, turns6, vic, gr, os6, h1, h2, h3, h4, h5, h6, h7, h8, h9⟩ := hq.out
  obtain ⟨rfl, rfl, rfl, x, rfl, hxs, hxq, hxh, hxa, hxt⟩ := ask1_plain h9
  subst h1
  obtain ⟨q1, q2, q3, q4⟩ := HK1.out w6 h7
  have s6 := h7.size
  obtain ⟨g6, hg6⟩ : ∃ g6, g6 = w6.heap.size := ⟨_, rfl⟩
  obtain ⟨X, hX⟩ : ∃ X, X = (w6.alloc (.cells #[.int .i64 1, .slice V vn vc, .slice G gn gc] 93)).alloc (.cells #[.slice (some ⟨p + 1, 0, none⟩) 1 1, .slice (some ⟨p + 1 + 1, 0, none⟩) 1 1, .bool true] 97) := ⟨_, rfl⟩
  have bX : Below w6.heap.size w6 X := by rw [hX]; exact ((Below.refl _ _).alloc (Nat.le_refl _) _).alloc (by simp) _
  have sX : X.heap.size = g6 + 2 := by rw [hX, hg6]; simp
  have zX : Cl X g6 #[.int .i64 1, .slice V vn vc, .slice G gn gc] 93 := by rw [hX, hg6]; exact (Cl.new _ _ _).alloc _
  have zY : Cl X (g6 + 1) #[.slice (some ⟨p + 1, 0, none⟩) 1 1, .slice (some ⟨p + 1 + 1, 0, none⟩) 1 1, .bool true] 97 := by rw [hX, hg6]; exact Cl.newg _ _ _ _ (by simp)
  have hTX := h6.below bX
  have q1X := q1.below bX
  have q2X := q2.below bX
  have hbl : ∀ b ∈ tbl p OA6 [x], b ≠ p + 1 ∧ b ≠ p + 1 + 1 ∧ b < g6 := fun b hb => by
    have h0 := (h6.bl_ge b hb).2
    rcases h8 b hb with h | h
    · have h2 : b = p := by
        rcases mem_tbl.1 h with h | h | ⟨u, hu, _⟩
        · exact h
        · cases h
        · cases hu
      omega
    · have := HS5.out; omega
  have HA2 : Hid (Calls Try.prog 45 #[.pointer (some ⟨p, 0, none⟩), .agg #[.int .u64 2, .int .u64 0], .slice (some ⟨g6 + 1, 0, none⟩) 1 1] X (RetAsk X p p OA6 1 [x] 2 0 [rA])) := Lib.hid (by
    have := ask_any (A := some ⟨g6 + 1, 0, none⟩) (n := 1) (c := 1) (rs := [rA]) hTX (by simp) (by have := HS5.out; omega) (by omega) (fun u hu => by rw [List.mem_singleton.1 hu]; unfold SzO; rw [hxh, hxa]; simp) (fun u hu => by rw [List.mem_singleton.1 hu, hxh]; simp) (fun wx hf => rA_rd (q1X.fr hf (fun b hb hm => by have hb : some (p + 1) = some b := hb; injection hb with hb; exact (hbl b hm).1 hb.symm)) (q2X.fr hf (fun b hb hm => by have hb : some (p + 1 + 1) = some b := hb; injection hb with hb; exact (hbl b hm).2.1 hb.symm)) ((hf.block _ zY.lt (fun hm => by have := (hbl _ hm).2.2; omega)).trans zY)) (by omega) sz_rA (fun h => by cases h) (Nat.le_refl _) 2 0
    simpa using this)
  obtain ⟨c0, c1, c2, _⟩ := q3.c3
  have lt3 : p + 1 + 1 + 1 < w6.heap.size := by have := HS5.out; omega
  have HX := Lib.hid hX
  have HG6 := Lib.hid hg6
  have HBX := Lib.hid (HB5.out.trans ((h7.below (base := p) (fun b hb => by
      rcases mem_tbl.1 hb with h | h | ⟨u, hu, _⟩
      · omega
      · cases h
      · cases hu) (by have := HS5.out; omega)).trans (bX.mono (by have := HS5.out; omega))))
  have HZX := Lib.hid zX
  have HBL := Lib.hid hbl
  have HTX := Lib.hid hTX
  have HSX := Lib.hid sX
  have HXX := Lib.hid (And.intro hxs (And.intro hxq (And.intro hxh (And.intro hxa hxt))))
  clear hq h2 h3 h4 h5 h6 h7 h8 h9 q1 q2 q3 q4 s6 hg6 hX bX sX zX zY hTX q1X q2X hbl hxs hxq hxh hxa hxt HA1
  rw [hp] at c0 c1 c2 lt3
  go_wp2_with fail
  rw [← HP.out, ← HG6.out, ← HX.out]
  clear c0 c1 c2 lt3
  with_reducible refine HA2.out.mono ?_
  intro e w8 hq
  obtain ⟨st, err, V2, G2, OA8, vn2, vc2, gn2, gc2, oc8, turns8, vic2, gr2, os8, h1, h2, h3, h4, h5, h6, h7, h8, h9⟩ := hq.out
  obtain ⟨rfl, rfl, rfl, y, rfl, hys, hyq, hyh, hya, hyt, hne⟩ := ask2_plain HXX.out.1 HXX.out.2.2.1 HXX.out.2.2.2.1 HXX.out.2.2.2.2 h9
  subst h1
  have z8 : Cl w8 g6 #[.int .i64 1, .slice V vn vc, .slice G gn gc] 93 := (h7.block _ HZX.out.lt (fun hm => by have := (HBL.out _ hm).2.2; omega)).trans HZX.out
  have d0 : w8.cell? ⟨g6, 0, none⟩ = some (.int .i64 1) := z8.cell 0
  have dlt := z8.lt
  have bZ : Below w8.heap.size w8 (w8.alloc (.cells #[.int .i64 2, .slice V2 vn2 vc2, .slice G2 gn2 gc2] 93)) := (Below.refl _ _).alloc (Nat.le_refl _) _
  have HRL : Hid (Calls Try.prog 42 #[.pointer (some ⟨p, 0, none⟩), .agg #[.int .u64 1, .int .u64 0]] (w8.alloc (.cells #[.int .i64 2, .slice V2 vn2 vc2, .slice G2 gn2 gc2] 93)) (RetGg (w8.alloc (.cells #[.int .i64 2, .slice V2 vn2 vc2, .slice G2 gn2 gc2] 93)) p p OA8 2 [x, y] (MvR ([x, y].filter fun o => !isO 1 0 o)))) := Lib.hid (by
    have := release_any (h6.below bZ) (by simp) (fun u hu => by
      unfold SzO
      rcases List.mem_cons.1 hu with rfl | hu
      · rw [HXX.out.2.2.1, HXX.out.2.2.2.1]; simp
      · rw [List.mem_singleton.1 hu, hyh, hya]; simp) 1 0
    simpa using this)
  have HB8 : Hid (Below p w (w8.alloc (.cells #[.int .i64 2, .slice V2 vn2 vc2, .slice G2 gn2 gc2] 93)) ∧ ∀ b ∈ tbl p OA8 [x, y], p ≤ b) := Lib.hid ⟨HBX.out.trans ((h7.below (base := p) (fun b hb => (HTX.out.bl_ge b hb).1) (by have := HSX.out; have := HS5.out; have := HBX.out.size; have := HP.out; omega)).trans (bZ.mono (by have := h7.size; have := HBX.out.size; have := HP.out; omega))), fun b hb => (h6.bl_ge b hb).1⟩
  have HYY := Lib.hid (And.intro hys hyt)
  clear hq h2 h3 h4 h5 h6 h7 h8 h9 z8 bZ hys hyq hyh hya hyt hne HA2
  go_wp2_with fail
  (try rw [← HP.out])
  with_reducible refine HRL.out.mono ?_
  intro e w9 hq
  obtain ⟨L5, d5, gr, OA5, oc5, os5, h1, h2, h3, h4, h5, h6⟩ := hq.out
  have hg1 := rel_plain HXX.out.1 HXX.out.2.1 HYY.out.1 HYY.out.2 h6.2
  rw [hg1] at h1
  subst h1
  have HF : Hid (Below w.heap.size w w9) := Lib.hid (by
    rw [← HP.out]
    exact HB8.out.1.trans (h4.below HB8.out.2 (by have := HB8.out.1.size; have := HP.out; omega)))
  clear hq h2 h3 h4 h5 h6 hg1 d0 dlt
  go_wp2_with fail
  go_ret
  exact ⟨rfl, HF.out⟩
end Go.Proofs.Ytmpdenpopokigaa
namespace Go.Proofs.Ytmpdenpopokigaa
open Go Go.RowKit
section
variable {w w' : World} {bs bs2 p p2 : Nat} {OA OA2 : Option Addr} {oc oc2 t t2 : Nat} {os os2 : List Ob}
theorem TkAt.frB {bl : List Nat} (h : TkAt w bs p OA oc t os) (hf : Fr w w' bl) (hd : ∀ b ∈ tbl p OA os, b ∉ bl) (hn : NoBy w bl) : TkAt w' bs p OA oc t os := by
  obtain ⟨h1, h0, h2, h3, h4⟩ := h
  refine ⟨(hf.block p h1.lt (hd p (mem_tbl.2 (.inl rfl)))).trans h1, h0, h2.frK hf (fun b hb => hd b (mem_tbl.2 (.inr (.inl hb)))), fun o ho => ?_, h4⟩
  exact (h3 o ho).fr hf (hd o.b (mem_tbl.2 (.inr (.inr ⟨o, ho, .inl rfl⟩)))) (fun k hk => hd k (mem_tbl.2 (.inr (.inr ⟨o, ho, .inr hk⟩)))) hn
/-- Two tables that share no memory. -/
def Two (w : World) (bs bs2 p p2 : Nat) (OA OA2 : Option Addr) (oc oc2 t t2 : Nat) (os os2 : List Ob) : Prop := TkAt w bs p OA oc t os ∧ TkAt w bs2 p2 OA2 oc2 t2 os2 ∧ ∀ b ∈ tbl p OA os, b ∉ tbl p2 OA2 os2
theorem Two.below (h : Two w bs bs2 p p2 OA OA2 oc oc2 t t2 os os2) (hb : Below w.heap.size w w') : Two w' bs bs2 p p2 OA OA2 oc oc2 t t2 os os2 := ⟨h.1.below hb, h.2.1.below hb, h.2.2⟩
theorem Two.tL (h : Two w bs bs2 p p2 OA OA2 oc oc2 t t2 os os2) : TkAt w bs p OA oc t os := h.1
theorem Two.tR (h : Two w bs bs2 p p2 OA OA2 oc oc2 t t2 os os2) : TkAt w bs2 p2 OA2 oc2 t2 os2 := h.2.1
theorem InvT.icK {k : Nat} (h : InvT k t os) : IC t os := h.2.2.2.2.ic
/-- One of them is turned. -/
theorem Two.left {OA3 : Option Addr} {oc3 t3 : Nat} {os3 : List Ob} (h : Two w bs bs2 p p2 OA OA2 oc oc2 t t2 os os2) (h1 : TkAt w' bs p OA3 oc3 t3 os3) (hf : Fr w w' (tbl p OA os)) (hn : ∀ b ∈ tbl p OA3 os3, b ∈ tbl p OA os ∨ w.heap.size ≤ b) : Two w' bs bs2 p p2 OA3 OA2 oc3 oc2 t3 t2 os3 os2 := by
  refine ⟨h1, h.2.1.frB hf (fun b hb hm => h.2.2 b hm hb) h.1.noBy, fun b hb hm => ?_⟩
  rcases hn b hb with h2 | h2
  · exact h.2.2 b h2 hm
  · have := (h.2.1.bl_ge b hm).2
    omega
theorem Two.right {OA3 : Option Addr} {oc3 t3 : Nat} {os3 : List Ob} (h : Two w bs bs2 p p2 OA OA2 oc oc2 t t2 os os2) (h1 : TkAt w' bs2 p2 OA3 oc3 t3 os3) (hf : Fr w w' (tbl p2 OA2 os2)) (hn : ∀ b ∈ tbl p2 OA3 os3, b ∈ tbl p2 OA2 os2 ∨ w.heap.size ≤ b) : Two w' bs bs2 p p2 OA OA3 oc oc3 t t3 os os3 := by
  refine ⟨h.1.frB hf (fun b hb hm => h.2.2 b hb hm) h.2.1.noBy, h1, fun b hb hm => ?_⟩
  rcases hn b hm with h2 | h2
  · exact h.2.2 b hb h2
  · have := (h.1.bl_ge b hb).2
    omega
/-- A table made behind another one. -/
theorem Two.new {w0 : World} (h0 : TkAt w0 bs p OA oc t os) (hb : Below w0.heap.size w0 w) (h1 : TkAt w bs2 p2 OA2 oc2 t2 os2) (hs : w0.heap.size ≤ bs2) : Two w bs bs2 p p2 OA OA2 oc oc2 t t2 os os2 :=
  ⟨h0.below hb, h1, fun b hm hm2 => by
    have a1 := (h0.bl_ge b hm).2
    have a2 := (h1.bl_ge b hm2).1
    omega⟩
end
theorem Mv.nmsK {os0 os : List Ob} {l : List Nat} {out : List (Nat × Nat)} (h : Mv os0 l out os) (hd : Db os0) : os.map nmO = os0.map nmO ∧ Db os := by
  induction h with
  | start => exact ⟨rfl, hd⟩
  | stay _ _ _ ih => exact ih
  | @go l out os c A d _ hc _ ih =>
    obtain ⟨i1, i2⟩ := ih
    refine ⟨?_, i2.upd⟩
    rw [← i1]
    unfold updO
    rw [List.map_map]
    refine List.map_congr_left fun u hu => ?_
    by_cases hb : u.b = c.b
    · have e : u = c := i2 u hu c hc hb
      subst e
      show nmO (if u.b = u.b then takeO u A d else u) = nmO u
      rw [if_pos rfl]
      rfl
    · show nmO (if u.b = c.b then takeO c A d else u) = nmO u
      rw [if_neg hb]
/-- Behind Release of a name, that name is gone, and none has come. -/
theorem rel_names {os os' : List Ob} {gr ns : List (Nat × Nat)} {s q : Nat} (hd : Db os) (hm : MvR (os.filter fun o => !isO s q o) gr os') (h : ∀ u ∈ os, nmO u ∈ (s, q) :: ns) : ∀ u ∈ os', nmO u ∈ ns := fun u hu => by
  obtain ⟨lo, _, _, hv⟩ := hm
  have h1 := (hv.nmsK (fun u hu v hv => hd u (List.mem_filter.1 hu).1 v (List.mem_filter.1 hv).1)).1
  have h2 : nmO u ∈ (os.filter fun o => !isO s q o).map nmO := by rw [← h1]; exact List.mem_map.2 ⟨u, hu, rfl⟩
  obtain ⟨v, hv2, e⟩ := List.mem_map.1 h2
  obtain ⟨h3, h4⟩ := List.mem_filter.1 hv2
  rcases List.mem_cons.1 (h v h3) with h5 | h5
  · unfold nmO at h5
    injection h5 with e1 e2
    unfold isO at h4
    rw [e1, e2] at h4
    simp at h4
  · rw [← e]; exact h5
theorem Ak.szO {os os2 : List Ob} (h : Ak os os2) (hs : ∀ u ∈ os, SzO u) : ∀ u ∈ os2, SzO u := fun u hu => by
  obtain ⟨zs, rfl, rfl, hz⟩ := h
  obtain ⟨z, hzm, rfl⟩ := List.mem_map.1 hu
  have h1 := hs z.1 (List.mem_map.2 ⟨z, hzm, rfl⟩)
  obtain ⟨_, _, e1, e2, _⟩ := hz.dat z hzm
  unfold SzO at h1 ⊢
  rw [← e1, ← e2]
  exact h1
theorem Mv.outN {os0 os : List Ob} {l : List Nat} {out : List (Nat × Nat)} (h : Mv os0 l out os) : out.length ≤ l.length := by
  induction h with
  | start => exact Nat.le_refl _
  | stay _ _ _ ih => rw [List.length_append]; omega
  | go _ _ _ ih => rw [List.length_append, List.length_append, List.length_singleton, List.length_singleton]; omega
theorem MvR.outN {os os' : List Ob} {gr : List (Nat × Nat)} (h : MvR os gr os') : gr.length ≤ os.length := by
  obtain ⟨lo, hp, _, hm⟩ := h
  have h1 := hm.outN
  have h2 := hp.length_eq
  have h3 := List.length_filter_le posO os
  rw [List.length_map] at h1
  omega
theorem RetQX.outK {w : World} {os : List Ob} {e : Ending} {w' : World} (h : RetQX w os e w') : ∃ (l : List Ob), l.Perm (os.filter posO) ∧ l.Pairwise (fun a b => a.turn ≤ b.turn) ∧ RetX w (l.map nmO) e w' := h
section
variable {w : World} {A B : Option Addr} {n c d : Nat} {xs : List (Nat × Nat)}
set_option maxRecDepth 100000 in
set_option maxHeartbeats 8000000 in
theorem sameTx_T (hr : RTx w A n xs) (hq : RTx w B n xs) (hn : n ≤ 1099511627776) : Calls Try.prog 41 #[.slice A n c, .slice B n d] w (RetT w true) := by
  have HR := Lib.hid hr
  have HQ := Lib.hid hq
  clear hr hq
  go_enter Try.func41, Try.ntmps41
  go_wp2_with fail
  go_loopw [5] (fun s5 wr => ∃ k : Nat, k ≤ n ∧ s5 = .int .i64 (k : Int) ∧ Below w.heap.size w wr) (fun s _ => n - (intOf s).toNat)
  case atStart => exact ⟨0, Nat.zero_le _, rfl, Below.refl _ _⟩
  case round =>
    obtain ⟨k, hk, rfl, hB⟩ := hrel
    have HB := Lib.hid hB
    clear hB
    by_cases hlt : k < n
    · have hR := HR.out.below HB.out
      have hQ := HQ.out.below HB.out
      obtain ⟨b, off, x, hA, hx, m0, m1⟩ := hR.at_ k hlt
      subst hA
      obtain ⟨b2, off2, y, hB2, hy, p0, p1⟩ := hQ.at_ k hlt
      subst hB2
      obtain rfl : x = y := by rw [hx] at hy; exact Option.some.inj hy
      have he := eqTxn (x.1 : Int) (x.2 : Int) (x.1 : Int) (x.2 : Int)
      obtain ⟨xs1, hx1⟩ : ∃ z, z = x.1 := ⟨_, rfl⟩
      obtain ⟨xs2, hx2⟩ : ∃ z, z = x.2 := ⟨_, rfl⟩
      rw [← hx1, ← hx2] at he
      rw [← hx1] at m0 p0
      rw [← hx2] at m1 p1
      clear hR hQ hx hy hx1 hx2
      go_upto_region 6 with (fail)
      go_quiet (fail)
      clear m0 m1 p0 p1
      go_wp2_with fail
      go_roundw
      case rel => exact ⟨k + 1, by omega, by go_num, below_drewN HB.out nq⟩
      case measure => simp [intOf]; omega
    · obtain rfl : k = n := by omega
      go_wp2_with fail
      go_ret
      exact ⟨rfl, HB.out⟩
end
end Go.Proofs.Ytmpdenpopokigaa
namespace Go.Proofs.Ytmpdenpopokigaa
open Go Go.RowKit
theorem Own.fitL {w : World} {base n c : Nat} {A : Option Addr} {xs : List UInt8} (h : Own 5 w base A n c xs) : n ≤ c ∧ (A = none → c = 0) := by
  rcases h.2 with ⟨h1, h2⟩ | ⟨g, cap, cur, h1, _, _, h2, _⟩
  · injection h1 with e1 e2 e3
    subst e1 e2 e3
    exact ⟨Nat.le_refl _, fun _ => rfl⟩
  · injection h1 with e1 e2 e3
    subst e1
    exact ⟨by omega, fun e => by cases e⟩
/-- What stands ahead of each name. -/
def LcS (w : World) (bs bs2 p p2 t t2 : Nat) (X : Option Addr) (xn xc : Nat) (ns : List (Nat × Nat)) (k : Nat) (wr : World) : Prop := ∃ (OA OA2 : Option Addr) (oc oc2 : Nat) (os os2 : List Ob), Two wr bs bs2 p p2 OA OA2 oc oc2 t t2 os os2 ∧ InvT 40 t os ∧ Ak os os2 ∧ (∀ u ∈ os, nmO u ∈ ns.drop k) ∧ OwnX wr w.heap.size X xn xc (flatX ns) ∧ Below w.heap.size w wr
section
variable {w : World} {A B : Option Addr} {n c bn bc : Nat} {ac : List Ac} {bb : List UInt8}
set_option maxRecDepth 100000 in
set_option maxHeartbeats 32000000 in
theorem lockCodes_any (ha : RAcB w A n ac) (hc : n ≤ c) (hr : Rd w B bn bb) (hbn : bn ≤ 16777216) : Calls Try.prog 7 #[.slice A n c, .slice B bn bc] w (RetT w true) := by
  have HAW := Lib.hid (awake16_any w)
  have HAC := Lib.hid ha
  have HRB := Lib.hid hr
  clear ha hr
  go_enter Try.func7, Try.ntmps7
  go_wp2_with fail
  with_reducible refine HAW.out.mono ?_
  intro e w1 hq
  obtain ⟨h1, b1⟩ := RetT.outD hq
  subst h1
  have HCL := Lib.hid (calls2_any (HAC.out.below b1) hc)
  have HB1 := Lib.hid b1
  clear hq b1 HAW
  go_wp2_with fail
  with_reducible refine HCL.out.mono ?_
  intro e w3 hq
  obtain ⟨p, OA, oc, t, os, h1, hT, hI, hS, b3⟩ := hq.out
  subst h1
  obtain ⟨bs, hbs⟩ : ∃ bs, bs = w1.heap.size := ⟨_, rfl⟩
  rw [← hbs] at hT
  have HBSW : Hid (w.heap.size ≤ bs) := Lib.hid (by rw [hbs]; exact HB1.out.size)
  have HEN := Lib.hid (enc_any hT hI hS)
  have HB3 := Lib.hid (belowT' HB1.out b3)
  have HT := Lib.hid hT
  have HI := Lib.hid hI
  have HS := Lib.hid hS
  clear hq hT hI hS b3 hbs HCL
  go_wp2_with fail
  with_reducible refine HEN.out.mono ?_
  intro e w4 hq
  obtain ⟨l, hlp, hlo, hm⟩ := hq
  obtain ⟨E, en, ec, h1, oE, b4⟩ := Made.outK hm
  subst h1
  obtain ⟨f1, f2⟩ := oE.fitL
  have HDE := Lib.hid (dec_any (c := ec) HT.out HI.out HS.out hlp hlo oE.rd f1 f2)
  have HB4 := Lib.hid b4
  clear hlp hlo hm oE b4 f1 f2 HEN
  go_wp2_with fail
  with_reducible refine HDE.out.mono ?_
  intro e w5 hq
  obtain ⟨bs2, p2, OA2, oc2, t2, os2, h1, g1, hT2, hA2, b5⟩ := hq
  subst h1
  have HTW : Hid (Two w5 bs bs2 p p2 OA OA2 oc oc2 t t2 os os2) := Lib.hid (Two.new HT.out (belowT' HB4.out b5) hT2 (Nat.le_trans HB4.out.size g1))
  have HAK := Lib.hid hA2
  have HB5 := Lib.hid (belowT' HB3.out (belowT' HB4.out b5))
  have HBS2 : Hid (w.heap.size ≤ bs2) := Lib.hid (Nat.le_trans HB3.out.size (Nat.le_trans HB4.out.size g1))
  have HCP := Lib.hid (Copy_any B bn bc bb w5 (HRB.out.below HB5.out) (by omega))
  clear g1 hT2 hA2 b5 HDE
  go_wp2_with fail
  with_reducible refine HCP.out.mono ?_
  intro e w6 hq
  obtain ⟨C, cn, cc, h1, oC, b6⟩ := Made.outK hq
  subst h1
  obtain ⟨f1, f2⟩ := oC.fitL
  have HDX := Lib.hid (decodeT_any (c := cc) oC.rd (by rw [← oC.len, HRB.out.len]; exact hbn) f1 f2)
  have HB6 := Lib.hid b6
  clear hq oC b6 f1 f2 HCP
  go_wp2_with fail
  with_reducible refine HDX.out.mono ?_
  intro e w7 hq
  have hbe : Below w6.heap.size w6 w7 := by
    rcases hq with ⟨_, _, _, _, _, _, _, _, _, _, _, _, _, _, _, _, _, _, _, h⟩ | ⟨_, _, _, _, h⟩ <;> exact h
  have HTW7 := Lib.hid (HTW.out.below (belowT' HB6.out hbe))
  have HB7 := Lib.hid (belowT' HB5.out (belowT' HB6.out hbe))
  have HAL := Lib.hid (all_any16 HTW7.out.1 (by have := HI.out.2.2.1; omega))
  clear hbe HDX
  have hcase : (∃ q, e = .returned (.tuple #[.pointer (some ⟨q, 0, none⟩), .int .i64 0])) ∨ e = .returned (.tuple #[.pointer none, .int .i64 3]) ∨ e = .returned (.tuple #[.pointer none, .int .i64 5]) := by
    rcases hq with ⟨_, q, _, _, _, _, _, _, _, _, _, h, _⟩ | ⟨ee, h, hee, _, _⟩
    · exact .inl ⟨q, h⟩
    · rcases hee with rfl | rfl
      · exact .inr (.inl h)
      · exact .inr (.inr h)
  clear hq
  rcases hcase with ⟨q, rfl⟩ | rfl | rfl
  all_goals
    go_wp2_with fail
    with_reducible refine HAL.out.mono ?_
    intro e w8 hq
    obtain ⟨X, xn, xc, h1, oX, hxl, b8⟩ := hq.out
    subst h1
    have HXL := Lib.hid hxl
    have hxn : xn ≤ 1000 := by have := HI.out.2.2.1; rw [← hxl, List.length_map]; omega
    have HST : Hid (LcS w bs bs2 p p2 t t2 X xn xc (os.map nmO) 0 w8) := Lib.hid ⟨OA, OA2, oc, oc2, os, os2, HTW7.out.below b8, HI.out, HAK.out, fun u hu => by rw [List.drop_zero]; exact List.mem_map.2 ⟨u, hu, rfl⟩, oX.mono HB7.out.size, belowT' HB7.out b8⟩
    obtain ⟨ns, hns⟩ : ∃ ns, ns = os.map nmO := ⟨_, rfl⟩
    rw [← hns] at HST HXL
    clear hq oX hxl b8 HAL hns
    go_wp2_with fail
    go_loopw [56] (fun s56 wr => ∃ k : Nat, k ≤ xn ∧ s56 = .int .i64 (k : Int) ∧ LcS w bs bs2 p p2 t t2 X xn xc ns k wr) (fun s _ => xn - (intOf s).toNat)
    case atStart => exact ⟨0, Nat.zero_le _, rfl, HST.out⟩
    case round =>
      obtain ⟨k, hk, rfl, OA', OA2', oc', oc2', os', os2', hTW, hI', hA', hN', hX', hB'⟩ := hrel
      have hle : os'.length ≤ 40 := hI'.2.2.1
      have HTW' := Lib.hid hTW
      have HI' := Lib.hid hI'
      have HAK' := Lib.hid hA'
      have HNM := Lib.hid hN'
      have HB' := Lib.hid hB'
      by_cases hlt : k < xn
      · obtain ⟨b, off, x, hXa, hx, m0, m1⟩ := (hX'.rtx HXL.out).at_ k hlt
        subst hXa
        obtain ⟨us, hus⟩ : ∃ us, us = x.1 := ⟨_, rfl⟩
        obtain ⟨uq, huq⟩ : ∃ uq, uq = x.2 := ⟨_, rfl⟩
        rw [← hus] at m0
        rw [← huq] at m1
        have HDR : Hid (ns.drop k = (us, uq) :: ns.drop (k + 1)) := Lib.hid (by
          obtain ⟨h1, h2⟩ := List.getElem?_eq_some_iff.1 hx
          rw [List.drop_eq_getElem_cons h1, h2, hus, huq])
        obtain ⟨U, hU⟩ : ∃ U, U = wr.alloc (.cells #[.int .u64 (us : Int), .int .u64 (uq : Int)] 83) := ⟨_, rfl⟩
        have bU : Below wr.heap.size wr U := by rw [hU]; exact (Below.refl _ _).alloc (Nat.le_refl _) _
        have zU : Cl U wr.heap.size #[.int .u64 (us : Int), .int .u64 (uq : Int)] 83 := by rw [hU]; exact Cl.new _ _ _
        obtain ⟨g0, hg0⟩ : ∃ g0, g0 = wr.heap.size := ⟨_, rfl⟩
        have HG0 : Hid (g0 ∉ tbl p OA' os' ∧ g0 ∉ tbl p2 OA2' os2') := Lib.hid ⟨fun hm => by have := (hTW.1.bl_ge g0 hm).2; omega, fun hm => by have := (hTW.2.1.bl_ge g0 hm).2; omega⟩
        rw [← hg0] at zU
        have HTU := Lib.hid (hTW.below bU)
        have HBU := Lib.hid (belowT' hB' bU)
        have HXU := Lib.hid (hX'.below bU)
        have HZU := Lib.hid zU
        have HU := Lib.hid hU
        have HG := Lib.hid hg0
        have HR1 : Hid (∀ wx, Below U.heap.size U wx → Calls Try.prog 42 #[.pointer (some ⟨p, 0, none⟩), .agg #[.int .u64 (us : Int), .int .u64 (uq : Int)]] wx (RetGg wx bs p OA' t os' (MvR (os'.filter fun o => !isO us uq o)))) := Lib.hid (fun wx hb => release_any (HTU.out.below hb).1 (by omega) (HI'.out.szO (by omega)) us uq)
        have HR2 : Hid (∀ wx, TkAt wx bs2 p2 OA2' oc2' t2 os2' → Calls Try.prog 42 #[.pointer (some ⟨p2, 0, none⟩), .agg #[.int .u64 (us : Int), .int .u64 (uq : Int)]] wx (RetGg wx bs2 p2 OA2' t2 os2' (MvR (os2'.filter fun o => !isO us uq o)))) := Lib.hid (fun wx h => release_any h (by have := HAK'.out.len; omega) (HAK'.out.szO (HI'.out.szO (by omega))) us uq)
        have HF1 : Hid (∀ wx wA OA5 oc5 os5, Below U.heap.size U wx → TkAt wA bs p OA5 oc5 t os5 → Fr wx wA (tbl p OA' os') → (∀ b ∈ tbl p OA5 os5, b ∈ tbl p OA' os' ∨ wx.heap.size ≤ b) → Two wA bs bs2 p p2 OA5 OA2' oc5 oc2' t t2 os5 os2' ∧ OwnX wA w.heap.size (some ⟨b, off, none⟩) xn xc (flatX ns) ∧ Below w.heap.size w wA ∧ wA.cell? ⟨g0, 0, none⟩ = some (.int .u64 (us : Int)) ∧ wA.cell? ⟨g0, 1, none⟩ = some (.int .u64 (uq : Int))) := Lib.hid (fun wx wA OA5 oc5 os5 hb h3 h4 h5 => by
          have hT := HTU.out.below hb
          have hX := HXU.out.below hb
          have hz := HZU.out.below hb
          have hzA : Cl wA g0 #[.int .u64 (us : Int), .int .u64 (uq : Int)] 83 := (h4.block g0 hz.lt HG0.out.1).trans hz
          have hB := belowT' HBU.out hb
          exact ⟨hT.left h3 h4 h5, hX.fr h4 (fun b hb2 hm => hT.1.off_row hX (by decide) (by decide) (by decide) (by decide) b hm hb2), hB.trans (h4.below (fun x hx => Nat.le_trans HBSW.out (hT.1.bl_ge x hx).1) hB.size), hzA.cell 0, hzA.cell 1⟩)
        have HF2 : Hid (∀ wA wB OA5 oc5 os5 OA6 oc6 os6, Two wA bs bs2 p p2 OA5 OA2' oc5 oc2' t t2 os5 os2' → OwnX wA w.heap.size (some ⟨b, off, none⟩) xn xc (flatX ns) → Below w.heap.size w wA → TkAt wB bs2 p2 OA6 oc6 t2 os6 → Fr wA wB (tbl p2 OA2' os2') → (∀ b ∈ tbl p2 OA6 os6, b ∈ tbl p2 OA2' os2' ∨ wA.heap.size ≤ b) → Two wB bs bs2 p p2 OA5 OA6 oc5 oc6 t t2 os5 os6 ∧ OwnX wB w.heap.size (some ⟨b, off, none⟩) xn xc (flatX ns) ∧ Below w.heap.size w wB ∧ (∀ base L n d xs, OwnX wA base L n d (flatX xs) → OwnX wB base L n d (flatX xs))) := Lib.hid (fun wA wB OA5 oc5 os5 OA6 oc6 os6 hT hX hB h3 h4 h5 => by
          have kp : ∀ base L n d xs, OwnX wA base L n d (flatX xs) → OwnX wB base L n d (flatX xs) := fun base L n d xs h => h.fr h4 (fun b hb2 hm => hT.2.1.off_row h (by decide) (by decide) (by decide) (by decide) b hm hb2)
          exact ⟨hT.right h3 h4 h5, kp _ _ _ _ _ hX, hB.trans (h4.below (fun x hx => Nat.le_trans HBS2.out (hT.2.1.bl_ge x hx).1) hB.size), kp⟩)
        have HSM : Hid (∀ gr gr2 os5 os6, MvR (os'.filter fun o => !isO us uq o) gr os5 → MvR (os2'.filter fun o => !isO us uq o) gr2 os6 → gr = gr2 ∧ Ak os5 os6) := Lib.hid (fun gr gr2 os5 os6 h1 h2 => (HAK'.out.filter us uq).mvR (HI'.out.2.2.2.2.ic.sub fun _ hu => (List.mem_filter.1 hu).1) h1 h2)
        have HGL : Hid (∀ gr os5, MvR (os'.filter fun o => !isO us uq o) gr os5 → gr.length ≤ 1099511627776) := Lib.hid (fun gr os5 h => by
          have h1 := h.outN
          have h2 := List.length_filter_le (fun o => !isO us uq o) os'
          omega)
        have HL5 : Hid (∀ gr os5, MvR (os'.filter fun o => !isO us uq o) gr os5 → os5.length ≤ 1099511627776) := Lib.hid (fun gr os5 h => by
          have := (HI'.out.rel h).2.2.1
          omega)
        have HL6 : Hid (∀ os5 os6, Ak os5 os6 → os5.length ≤ 1099511627776 → os6.length ≤ 1099511627776) := Lib.hid (fun os5 os6 h h1 => by rw [← h.len]; exact h1)
        have HN1 : Hid (∀ (os5 : List Ob) (k : Nat), os5.length ≤ 1099511627776 → (os5.map nmO).length = k → k ≤ 1099511627776) := Lib.hid (fun os5 k h1 h2 => by rw [← h2, List.length_map]; exact h1)
        have HM1 : Hid (∀ (la os5 : List Ob) (k : Nat), la.Perm (os5.filter posO) → os5.length ≤ 1099511627776 → (la.map nmO).length = k → k ≤ 1099511627776) := Lib.hid (fun la os5 k h1 h2 h3 => by
          rw [← h3, List.length_map, h1.length_eq]
          exact Nat.le_trans (List.length_filter_le _ _) h2)
        have HNX : Hid (∀ gr os5, MvR (os'.filter fun o => !isO us uq o) gr os5 → ∀ u ∈ os5, nmO u ∈ ns.drop (k + 1)) := Lib.hid (fun gr os5 h => rel_names HI'.out.2.2.2.2.ic.db h (by rw [← HDR.out]; exact HNM.out))
        have c0 := zU.cell 0
        have c1 := zU.cell 1
        have hB0 : Below U.heap.size U U := Below.refl _ _
        have hB1 : Below U.heap.size U U.drew := (Below.refl _ _).drew
        clear hTW hI' hA' hN' hX' hB' hx hus huq bU zU hU hg0
        go_upto_region 14 with (fail)
        rw [← HU.out, ← HG.out]
        clear m0 m1
        go_cut [83] from 60 to 83 (fun s83 wz => s83 = .bool false ∧ LcS w bs bs2 p p2 t t2 (some ⟨b, off, none⟩) xn xc ns (k + 1) wz)
        case first =>
          go_region_law (first | (go_simp; go_at_call 42; with_reducible refine (HR1.out _ (by first | exact hB1 | exact hB0 | assumption)).mono ?_; intro e wA hq; obtain ⟨L5, d5, gr, OA5, oc5, os5, h1, g2, g3, g4, g5, g6, g7⟩ := hq.out; obtain ⟨gn, hgn⟩ : ∃ gn, gr.length = gn := ⟨_, rfl⟩; rw [hgn] at h1 g2; subst h1; obtain ⟨tA, xA, bA, k0, k1⟩ := HF1.out _ _ _ _ _ (by first | exact hB1 | exact hB0 | assumption) g3 g4 g5; have hI5 := HI'.out.rel g7; have hgl := HGL.out _ _ g7; rw [hgn] at hgl; have hl5 := HL5.out _ _ g7; have tA2 := tA.tR) | (go_simp; go_at_call 42; with_reducible refine (HR2.out _ tA2).mono ?_; intro e wB hq2; obtain ⟨L6, d6, gr2, OA6, oc6, os6, h2, j2, j3, j4, j5, j6, j7⟩ := hq2.out; obtain ⟨eG, aK⟩ := HSM.out _ _ _ _ g7 j7; rw [← eG, hgn] at h2 j2; subst h2; obtain ⟨tB, xB, bB, kp⟩ := HF2.out _ _ _ _ _ _ _ _ tA xA bA j3 j4 j5; have r5 := (kp _ _ _ _ _ g2).rtx hgn; have r6 := j2.rtx hgn; have hl6 := HL6.out _ _ aK hl5) | (go_simp; go_at_call 41; with_reducible refine (sameTx_T r5 r6 hgl).mono ?_; intro e wC hq3; obtain ⟨h3, bC⟩ := RetT.outD hq3; subst h3; have tC := tB.below bC; have xC := xB.below bC; have bC2 := belowT' bB bC; have tC1 := tC.tL) | (go_simp; go_at_call 40; with_reducible refine (all_any16 tC1 hl5).mono ?_; intro e wD hq4; obtain ⟨X1, n1, c1, h4, o1, l1, bD⟩ := hq4.out; subst h4; have tD := tC.below bD; have xD := xC.below bD; have bD2 := belowT' bC2 bD; have tD2 := tD.tR) | (go_simp; go_at_call 40; with_reducible refine (all_any16 tD2 hl6).mono ?_; intro e wE hq5; obtain ⟨X2, n2, c2, h5, o2, l2, bE⟩ := hq5.out; rw [← aK.nms] at o2 l2; obtain rfl : n2 = n1 := l2.symm.trans l1; subst h5; have r1 := (o1.below bE).rtx l1; have r2 := o2.rtx l2; have tE := tD.below bE; have xE := xD.below bE; have bE2 := belowT' bD2 bE; have hn1 := HN1.out _ _ hl5 l1) | (go_simp; go_at_call 41; with_reducible refine (sameTx_T r1 r2 hn1).mono ?_; intro e wF hq6; obtain ⟨h6, bF⟩ := RetT.outD hq6; subst h6; have tF := tE.below bF; have xF := xE.below bF; have bF2 := belowT' bE2 bF; have tF1 := tF.tL) | (go_simp; go_at_call 43; with_reducible refine (queueX_any tF1 hl5).mono ?_; intro e wG hq7; obtain ⟨la, hpa, hsa, hxa⟩ := hq7.outK; obtain ⟨Y1, m1, e1, h7, v1, l3, bG⟩ := hxa.out; subst h7; have tG := tF.below bG; have xG := xF.below bG; have bG2 := belowT' bF2 bG; have tG2 := tG.tR) | (go_simp; go_at_call 43; with_reducible refine (queueX_any tG2 hl6).mono ?_; intro e wH hq8; obtain ⟨lb, hpb, hsb, hxb⟩ := hq8.outK; obtain ⟨Y2, m2, e2, h8, v2, l4, bH⟩ := hxb.out; rw [← aK.queue hI5.icK hpa hsa hpb hsb] at v2 l4; obtain rfl : m2 = m1 := l4.symm.trans l3; subst h8; have r3 := (v1.below bH).rtx l3; have r4 := v2.rtx l4; have tH := tG.below bH; have xH := xG.below bH; have bH2 := belowT' bG2 bH; have hm1 := HM1.out _ _ _ hpa hl5 l3) | (go_simp; go_at_call 41; with_reducible refine (sameTx_T r3 r4 hm1).mono ?_; intro e wI hq9; obtain ⟨h9, bI⟩ := RetT.outD hq9; subst h9; have tI := tH.below bI; have xI := xH.below bI; have bI2 := belowT' bH2 bI))
          all_goals
            go_wp2_with fail
            go_meet
            exact ⟨rfl, OA5, OA6, oc5, oc6, os5, os6, tI, hI5, aK, HNX.out _ _ g7, xI, bI2⟩
        obtain ⟨rfl, hst⟩ := hcut
        have HSN := Lib.hid hst
        clear hst
        go_wp2_with fail
        go_roundw
        case rel => exact ⟨k + 1, by omega, by go_num, HSN.out⟩
        case measure => simp [intOf]; omega
      · have HE : Hid (os2'.length = 0) := Lib.hid (by
          have h1 : os' = [] := by
            cases os' with
            | nil => rfl
            | cons u l =>
              have h2 := hN' u List.mem_cons_self
              rw [List.drop_eq_nil_of_le (by rw [HXL.out]; omega)] at h2
              cases h2
          rw [← hA'.len, h1]
          rfl)
        have HAL := Lib.hid (all_any16 hTW.2.1 (by have := HE.out; omega))
        clear hTW hI' hA' hN' hX' hB'
        go_wp2_with fail
        with_reducible refine HAL.out.mono ?_
        intro e w9 hq
        obtain ⟨Z, zn, zc, h1, _, hzl, b9⟩ := hq.out
        subst h1
        obtain rfl : zn = 0 := by rw [← hzl, List.length_map]; exact HE.out
        have HF : Hid (RetT w true (.returned (.bool true)) w9) := Lib.hid ⟨rfl, belowT' HB'.out b9⟩
        clear hq hzl b9 HAL
        go_wp2_with fail
        go_ret
        exact HF.out
end
end Go.Proofs.Ytmpdenpopokigaa
namespace Go.Proofs.Ytmpdenpopokigaa
open Go Go.RowKit
theorem lockCodes_row (A : Option Addr) (n c : Nat) (ac : List Ac) (B : Option Addr) (bn bc : Nat) (bb : List UInt8) (w : World) (ha : RAcB w A n ac) (hc : n ≤ c) (hr : Rd w B bn bb) (h1 : bn ≤ bc) (h2 : bc ≤ 1048576) :
    Calls Try.prog 7 #[.slice A n c, .slice B bn bc] w (fun e w' => e = .returned (.bool true) ∧ Below w.heap.size w w') :=
  (lockCodes_any ha hc hr (by omega)).mono (fun _ _ h => RetT.outD h)
end Go.Proofs.Ytmpdenpopokigaa
