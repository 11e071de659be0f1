/- Lock: take, waits. No condition but sizes. -/
import Derived.Test.YtmpdenpopokigaaLkV
import Derived.Test.YtmpdenpopokigaaLkE
import Derived.Maps.AppendAt
namespace Go.Proofs.Ytmpdenpopokigaa
open Go Go.RowKit
section
variable {w : World} {A B : Option Addr} {n m c d : Nat} {rs qs : List Rg}
end
end Go.Proofs.Ytmpdenpopokigaa
namespace Go.Proofs.Ytmpdenpopokigaa
open Go Go.RowKit

theorem pw_inj {os : List Ob} (h : os.Pairwise ApO) {a c : Ob} (ha : a ∈ os) (hc : c ∈ os) (hb : a.b = c.b) : a = c := by
  induction os with
  | nil => cases ha
  | cons o os ih =>
    have h1 := List.pairwise_cons.1 h
    rcases List.mem_cons.1 ha with rfl | ha2
    · rcases List.mem_cons.1 hc with rfl | hc2
      · rfl
      · exact absurd hb (h1.1 c hc2).1
    · rcases List.mem_cons.1 hc with rfl | hc2
      · exact absurd hb.symm (h1.1 a ha2).1
      · exact ih h1.2 ha2 hc2
theorem pw_ap {os : List Ob} (h : os.Pairwise ApO) {a c : Ob} (ha : a ∈ os) (hc : c ∈ os) (hb : a.b ≠ c.b) : ApO a c := by
  induction os with
  | nil => cases ha
  | cons o os ih =>
    have h1 := List.pairwise_cons.1 h
    rcases List.mem_cons.1 ha with rfl | ha2
    · rcases List.mem_cons.1 hc with rfl | hc2
      · exact absurd rfl hb
      · exact h1.1 c hc2
    · rcases List.mem_cons.1 hc with rfl | hc2
      · have := h1.1 a ha2
        exact ⟨fun e => this.1 e.symm, fun k hk hk2 => this.2 k hk2 hk⟩
      · exact ih h1.2 ha2 hc2
/-- One owner is another one. -/
def updO (os : List Ob) (x : Ob) : List Ob := os.map fun u => if u.b = x.b then x else u
theorem updO_len (os : List Ob) (x : Ob) : (updO os x).length = os.length := by unfold updO; simp
theorem updO_mem {os : List Ob} {x u : Ob} (h : u ∈ updO os x) : (u = x ∧ ∃ v ∈ os, v.b = x.b) ∨ (u ∈ os ∧ u.b ≠ x.b) := by
  unfold updO at h
  obtain ⟨v, hv, e⟩ := List.mem_map.1 h
  by_cases hb : v.b = x.b
  · rw [if_pos hb] at e; exact .inl ⟨e.symm, v, hv, hb⟩
  · rw [if_neg hb] at e; subst e; exact .inr ⟨hv, hb⟩
theorem mem_updO {os : List Ob} {x u : Ob} (h : u ∈ os) (hb : u.b ≠ x.b) : u ∈ updO os x := List.mem_map.2 ⟨u, h, if_neg hb⟩
theorem mem_updO' {os : List Ob} {x u : Ob} (h : u ∈ os) (hb : u.b = x.b) : x ∈ updO os x := List.mem_map.2 ⟨u, h, if_pos hb⟩
/-- The table's blocks. -/
def tbl (p : Nat) (OA : Option Addr) (os : List Ob) : List Nat := p :: ((blk OA).toList ++ os.flatMap fun o => o.b :: o.rows)
theorem mem_tbl {p b : Nat} {OA : Option Addr} {os : List Ob} : b ∈ tbl p OA os ↔ b = p ∨ blk OA = some b ∨ ∃ o ∈ os, b = o.b ∨ b ∈ o.rows := by
  unfold tbl
  simp only [List.mem_cons, List.mem_append, Option.mem_toList, List.mem_flatMap]
theorem mem_rows {o : Ob} {b : Nat} : b ∈ o.rows ↔ blk o.hA = some b ∨ blk o.aA = some b := by
  unfold Ob.rows
  simp only [List.mem_append, Option.mem_toList]
section
variable {w w' : World} {bs p : Nat} {OA : Option Addr} {oc turns : Nat} {os : List Ob} {o x : Ob}
theorem ObAt.noBy (h : ObAt w bs o) : NoBy w (o.b :: o.rows) := by
  have h1 : NoBy w ([o.b] ++ ((blk o.hA).toList ++ (blk o.aA).toList)) := (NoBy.cl h.cl (by decide)).app (h.hR.noBy.app h.aR.noBy)
  exact h1
theorem ObAt.row_lt (h : ObAt w bs o) {b : Nat} (hb : b ∈ o.rows) : bs ≤ b ∧ b < w.heap.size := by
  rcases mem_rows.1 hb with hb | hb
  · exact h.hR.lt b hb
  · exact h.aR.lt b hb
theorem ObAt.row_ne {q : Nat} {us : Array Value} {ty : TypeId} (h : ObAt w bs o) (hp : Cl w q us ty) (hne : ty ≠ 97) : q ∉ o.rows := fun hm => by
  rcases mem_rows.1 hm with hb | hb
  · exact h.hR.ne_cl hp hne hb
  · exact h.aR.ne_cl hp hne hb
theorem ObAt.fr {bl : List Nat} (h : ObAt w bs o) (hf : Fr w w' bl) (h1 : o.b ∉ bl) (h2 : ∀ k ∈ o.rows, k ∉ bl) (hn : NoBy w bl) : ObAt w' bs o :=
  ⟨(hf.block _ h.lt h1).trans h.cl, h.ge, h.hR.fr hf (fun b hb => h2 b (mem_rows.2 (.inl hb))) hn, h.aR.fr hf (fun b hb => h2 b (mem_rows.2 (.inr hb))) hn, h.nd⟩
theorem cl_typ {q : Nat} {us vs : Array Value} {t1 t2 : TypeId} (h : Cl w q us t1) (k : Cl w q vs t2) : t1 = t2 := by
  unfold Cl at h k
  rw [h] at k
  injection k with k
  injection k
theorem OwnV.frK {e : TypeId} {base n c : Nat} {A : Option Addr} {vs : List Value} {bl : List Nat} (h : OwnV e w base A n c vs) (hf : Fr w w' bl) (ho : ∀ b, blk A = some b → b ∉ bl) : OwnV e w' base A n c vs := by
  refine ⟨h.1, ?_⟩
  rcases h.2 with h1 | ⟨g, cap, cur, h1, h2, h3, h4⟩
  · exact .inl h1
  · injection h1 with h1 h5 h6
    subst h1 h6
    exact .inr ⟨g, _, cur, rfl, h2, (hf.block g (Array.getElem?_eq_some_iff.1 h3).1 (ho g rfl)).trans h3, h4⟩
theorem TkAt.ne_ob (h : TkAt w bs p OA oc turns os) (ho : ObAt w bs o) : p ∉ o.b :: o.rows := fun hm => by
  rcases List.mem_cons.1 hm with e | hm
  · subst e; exact absurd (cl_typ h.cl ho.cl) (by decide)
  · exact ho.row_ne h.cl (by decide) hm
theorem TkAt.ne_row (h : TkAt w bs p OA oc turns os) (ho : ObAt w bs o) (b : Nat) (hb : blk OA = some b) : b ∉ o.b :: o.rows := fun hm => by
  rcases List.mem_cons.1 hm with e | hm
  · subst e; exact cl_row ho.cl h.row (by decide) hb
  · rcases mem_rows.1 hm with e | e
    · obtain ⟨ps, h1, _⟩ := ho.hR; exact Go.Proofs.Ytmpdenpopokigaa.row_ne h.row h1 (by decide) b hb e
    · obtain ⟨ps, h1, _⟩ := ho.aR; exact Go.Proofs.Ytmpdenpopokigaa.row_ne h.row h1 (by decide) b hb e
theorem TkAt.noBy (h : TkAt w bs p OA oc turns os) : NoBy w (tbl p OA os) := fun b hb base A m c xs ho e => by
  rcases mem_tbl.1 hb with rfl | hb | ⟨u, hu, hb⟩
  · exact NoBy.cl h.cl (by decide) b (by simp) _ _ _ _ _ ho e
  · exact NoBy.row h.row (by decide) b (by simpa using hb) _ _ _ _ _ ho e
  · exact (h.obs u hu).noBy b (by simpa using hb) _ _ _ _ _ ho e
theorem TkAt.bl_ge (h : TkAt w bs p OA oc turns os) : ∀ b ∈ tbl p OA os, bs ≤ b ∧ b < w.heap.size := fun b hb => by
  rcases mem_tbl.1 hb with rfl | hb | ⟨u, hu, hb⟩
  · exact ⟨h.ge, h.cl.lt⟩
  · exact OwnV.lt h.row b hb
  · rcases hb with rfl | hb
    · exact ⟨(h.obs u hu).ge, (h.obs u hu).lt⟩
    · exact (h.obs u hu).row_lt hb
theorem updO_ptr : (updO os x).map obP = os.map obP := by
  unfold updO
  rw [List.map_map]
  apply List.map_congr_left
  intro u hu
  simp only [Function.comp]
  by_cases e : u.b = x.b
  · rw [if_pos e]; unfold obP; rw [e]
  · rw [if_neg e]
/-- One owner has turned, in its blocks and new ones. -/
theorem TkAt.upd (h : TkAt w bs p OA oc turns os) (ho : o ∈ os) (hf : Fr w w' (o.b :: o.rows)) (hx : ObAt w' bs x) (hb : x.b = o.b) (hr : ∀ b ∈ x.rows, b ∈ o.rows ∨ w.heap.size ≤ b) : TkAt w' bs p OA oc turns (updO os x) := by
  have hoo := h.obs o ho
  refine ⟨?_, h.ge, ?_, ?_, ?_⟩
  · rw [updO_len]; exact (hf.block p h.cl.lt (h.ne_ob hoo)).trans h.cl
  · rw [updO_len, updO_ptr]
    exact h.row.frK hf (fun b hb => h.ne_row hoo b hb)
  · intro u hu
    rcases updO_mem hu with ⟨rfl, _⟩ | ⟨hu, hne⟩
    · exact hx
    · have hau := pw_ap h.dis hu ho (by rw [← hb]; exact hne)
      refine (h.obs u hu).fr hf ?_ ?_ hoo.noBy
      · intro hm
        rcases List.mem_cons.1 hm with e | hm
        · exact hau.1 e
        · exact hoo.row_ne (h.obs u hu).cl (by decide) hm
      · intro k hk hm
        rcases List.mem_cons.1 hm with e | hm
        · subst e; exact (h.obs u hu).row_ne hoo.cl (by decide) hk
        · exact hau.2 k hk hm
  · unfold updO
    rw [List.pairwise_map]
    refine List.Pairwise.imp_of_mem ?_ h.dis
    intro a c ha hc hap
    have fix : ∀ u ∈ os, u.b ≠ x.b → ApO u x := fun u hu hne => by
      have hau := pw_ap h.dis hu ho (by rw [← hb]; exact hne)
      refine ⟨hne, fun k hk hm => ?_⟩
      rcases hr k hm with h1 | h1
      · exact hau.2 k hk h1
      · have := (h.obs u hu).row_lt hk; omega
    by_cases ea : a.b = x.b
    · by_cases ec : c.b = x.b
      · exact absurd (ea.trans ec.symm) hap.1
      · rw [if_pos ea, if_neg ec]
        have := fix c hc ec
        exact ⟨fun e => this.1 e.symm, fun k hk hm => this.2 k hm hk⟩
    · by_cases ec : c.b = x.b
      · rw [if_neg ea, if_pos ec]; exact fix a ha ea
      · rw [if_neg ea, if_neg ec]; exact hap
/-- What the blocks are behind that. -/
theorem tbl_upd (ho : o ∈ os) (hb : x.b = o.b) {N : Nat} (hr : ∀ b ∈ x.rows, b ∈ o.rows ∨ N ≤ b) : ∀ b ∈ tbl p OA (updO os x), b ∈ tbl p OA os ∨ N ≤ b := fun b hm => by
  rcases mem_tbl.1 hm with h | h | ⟨u, hu, h⟩
  · exact .inl (mem_tbl.2 (.inl h))
  · exact .inl (mem_tbl.2 (.inr (.inl h)))
  · rcases updO_mem hu with ⟨rfl, _⟩ | ⟨hu, _⟩
    · rcases h with h | h
      · exact .inl (mem_tbl.2 (.inr (.inr ⟨o, ho, .inl (by rw [h, hb])⟩)))
      · rcases hr b h with h | h
        · exact .inl (mem_tbl.2 (.inr (.inr ⟨o, ho, .inr h⟩)))
        · exact .inr h
    · exact .inl (mem_tbl.2 (.inr (.inr ⟨u, hu, h⟩)))
end
/-- It waits no more. -/
def giveO (o : Ob) : Ob := { o with aA := none, ac := 0, asked := [], turn := 0 }
def RetGv (w : World) (bs : Nat) (o x : Ob) (e : Ending) (w' : World) : Prop := e = .returned (.tuple #[]) ∧ Fr w w' (o.b :: o.rows) ∧ ObAt w' bs x
theorem RetGv.out {w : World} {bs : Nat} {o x : Ob} {e : Ending} {w' : World} (h : RetGv w bs o x e w') : e = .returned (.tuple #[]) ∧ Fr w w' (o.b :: o.rows) ∧ ObAt w' bs x := h
section
variable {w : World} {bs : Nat} {o : Ob}
set_option maxRecDepth 100000 in
set_option maxHeartbeats 4000000 in
theorem giveUp_any (ho : ObAt w bs o) : Calls Try.prog 149 #[.pointer (some ⟨o.b, 0, none⟩)] w (RetGv w bs o (giveO o)) := by
  have hF : Hid (RetGv w bs o (giveO o) (.returned (.tuple #[])) ((w.setCell ⟨o.b, 3, none⟩ (.slice none 0 0)).setCell ⟨o.b, 4, none⟩ (.int .u64 0))) := Lib.hid (by
    have hf : Fr w ((w.setCell ⟨o.b, 3, none⟩ (.slice none 0 0)).setCell ⟨o.b, 4, none⟩ (.int .u64 0)) [o.b] := (Fr.set _ _ _ _).trans (Fr.set _ _ _ _) (fun b hb => .inl hb)
    refine ⟨rfl, hf.mono (fun b hb => .inl (by simp at hb; simp [hb])), (ho.cl.set 3 _).set 4 _, ho.ge, ?_, RgAt.nil _ _, ?_⟩
    · refine ho.hR.fr hf ?_ (NoBy.cl ho.cl (by decide))
      intro b hb hm
      obtain rfl : b = o.b := by simpa using hm
      exact ho.hR.ne_cl ho.cl (by decide) hb
    · have := ho.nd
      unfold Ob.rows at this ⊢
      rw [show (blk (giveO o).aA).toList = [] from rfl, List.append_nil]
      exact (List.nodup_append.1 this).1)
  have c3 := ho.k3
  have c4 := ho.k4
  have f3 := ho.cl.thaw 3
  have f4 := ho.cl.thaw 4
  obtain ⟨ob, hob⟩ : ∃ ob, ob = o.b := ⟨_, rfl⟩
  rw [← hob] at c3 c4 f3 f4 ⊢
  have HOB := Lib.hid hob
  clear ho hob
  go_enter Try.func149, Try.ntmps149
  go_wp2_with fail
  go_end0
  rw [HOB.out]
  exact hF.out
end
end Go.Proofs.Ytmpdenpopokigaa
namespace Go.Proofs.Ytmpdenpopokigaa
open Go Go.RowKit

/-- Ranges appended at a step of a region that draws its order; where the row lies. -/
theorem step_app3T {P : Program} (w : World) {ops : Array Oper} {o : Oper} {a : Act} {K : Act → World → Prop} {Q : Exit → Act → World → Prop} {E : Prop} (hgd : o.guard = none) (s x : Operand) (tt : TypeId)
    (ho : o.op = .call { callee := .builtin .append, args := #[s, x], argTypes := #[tt, tt] })
    (base : Nat) (z : Value) (by_ : Nat) (ht : P.underlying tt = some (.slice 97)) (hi : (P.info? 97).map (fun i => (i.zero, i.size, i.bytes)) = some (some z, 3, by_)) (hz1 : z.cells.size = 3)
    (A : Option Addr) (n c : Nat) (vs : List Value) (hs : a.eval s = .slice A n c) (hown : OwnGr w base A n c vs)
    (B : Option Addr) (m d : Nat) (ys : List Value) (hx : a.eval x = .slice B m d) (hr : RdV w B (m * 3) ys) (hB : B = none → m = 0) (h1 : ∀ u ∈ ys, u.oneCell' = true)
    (hn : n + m ≤ maxLen) (hby : (n + m) * by_ ≤ 140737488355328) (hbase : base ≤ w.heap.size)
    (h : ∀ A' c' w', OwnGr w' base A' (n + m) c' (vs ++ ys) → w.grownBy w' (blk A) → (blk A' = blk A ∨ blk A' = some w.heap.size) → K (a.put o.dst (.slice A' (n + m) c')) w') :
    if Region.wanted o (yielded ops a.tmps) = true then Oper.wp P o a w K Q else E := by
  have hw : Region.wanted o (yielded ops a.tmps) = true := by simp [Region.wanted, hgd]
  rw [if_pos hw]
  obtain ⟨i, hi, hz, hsz, hby2⟩ := info_parts hi
  cases B with
  | none =>
    obtain rfl := hB rfl
    have hy : ys = [] := List.eq_nil_of_length_eq_zero (by simpa using hr.1)
    subst hy
    have hrun : (Builtin.append_ #[tt, tt] o.type #[.slice A n c, .slice none 0 d]).run P w = .ok (.slice A n c) w := by
      rcases hown.2 with ⟨h3, _⟩ | ⟨g, cap, cur, h3, _, _, hnc, _⟩
      · rw [h3]; simp [Builtin.append_, run_underlying ht, sizeOf, typeInfo, hi, Builtin.lenOf, Builtin.firstCells]
      · rw [h3]; simp [Builtin.append_, run_underlying ht, sizeOf, typeInfo, hi, Builtin.lenOf, Builtin.firstCells, hnc, storeCells]
    unfold Oper.wp execOp
    simp only [ho, resolve, invoke, builtin, Sem.run_bind, Sem.run_pure, Result.andThen_ok, List.map_toArray, List.map_cons, List.map_nil, hs, hx, hrun]
    exact h A c w (by simpa using hown) (World.grownBy.refl w _) (.inl rfl)
  | some ad =>
    obtain ⟨v', w', hrun, k1, k2, _, k3⟩ := run_append_own_at (P := P) w base tt o.type 97 i z 3 by_ ht hi hz hsz hby2 hz1 (by decide) (.slice A n c) n vs hown ad m d ys hr.1 (by
      intro j u hj
      have hm : 0 < m * 3 := by
        have := (List.getElem?_eq_some_iff.1 hj).1
        rw [hr.1] at this
        omega
      obtain ⟨b, off, e, _, hc⟩ := hr.2 hm
      injection e with e
      subst e
      rw [Addr.add_lit]
      exact hc j u hj) h1 hn hby hbase
    obtain ⟨A', c', rfl⟩ : ∃ A' c', v' = .slice A' (n + m) c' := by
      rcases k1.2 with ⟨h3, h4⟩ | ⟨g, cap, cur, h3, _⟩
      · exact ⟨none, 0, by rw [h3, h4]⟩
      · exact ⟨_, _, h3⟩
    rw [own_blk] at k2
    rw [own_blk, own_blk] at k3
    unfold Oper.wp execOp
    simp only [ho, resolve, invoke, builtin, Sem.run_bind, Sem.run_pure, Result.andThen_ok, List.map_toArray, List.map_cons, List.map_nil, hs, hx, hrun]
    exact h A' c' w' k1 k2 k3
/-- It holds what it waited for, too. -/
def midO (o : Ob) (A : Option Addr) (c : Nat) : Ob := { o with hA := A, hc := c, held := o.held ++ o.asked }
def takeO (o : Ob) (A : Option Addr) (c : Nat) : Ob := giveO (midO o A c)
section
variable {w w6 : World} {bs : Nat} {o : Ob}
theorem OwnGr.none_of {w : World} {base n c : Nat} {A : Option Addr} {vs : List Value} (h : OwnGr w base A n c vs) (hA : A = none) : n = 0 := by
  subst hA
  rcases h.2 with ⟨_, h1⟩ | ⟨g, cap, cur, h1, _⟩
  · exact h1
  · injection h1 with h1; cases h1
theorem take_mid (ho : ObAt w bs o) {A' : Option Addr} {c' : Nat} {ps qs : List VB} (hps : FamW w bs ps) (hqs : FamW w bs qs) (hpd : ps.map (·.2) = datG o.held) (hqd : qs.map (·.2) = datG o.asked)
    (h1 : OwnGr w6 bs A' (o.held.length + o.asked.length) c' (flatG o.held ps ++ flatG o.asked qs)) (hg : w.grownBy w6 (blk o.hA)) (h3 : blk A' = blk o.hA ∨ blk A' = some w.heap.size) :
    ObAt (w6.setCell ⟨o.b, 2, none⟩ (.slice A' (o.held.length + o.asked.length) c')) bs (midO o A' c') ∧ Fr w (w6.setCell ⟨o.b, 2, none⟩ (.slice A' (o.held.length + o.asked.length) c')) (o.b :: o.rows) ∧ (∀ b ∈ (midO o A' c').rows, b ∈ o.rows ∨ w.heap.size ≤ b) := by
  have hob : ∀ b, blk o.hA = some b → o.b ≠ b := fun b hb e => ho.hR.ne_cl ho.cl (by decide) (by rw [hb, e])
  have hoa : ∀ b, blk o.aA = some b → o.b ≠ b := fun b hb e => ho.aR.ne_cl ho.cl (by decide) (by rw [hb, e])
  have hf6 : Fr w w6 (blk o.hA).toList := Fr.of_grown hg (fun b hb => by simp [hb])
  have z6 : Cl w6 o.b #[.int .u64 (o.s : Int), .int .u64 (o.q : Int), .slice o.hA o.held.length o.hc, .slice o.aA o.asked.length o.ac, .int .u64 (o.turn : Int)] 164 := ho.cl.grown hg (fun e => hob o.b e rfl)
  have hne' : blk A' ≠ some o.b := fun e => cl_row z6 h1 (by decide) e
  have hnd := ho.nd
  unfold Ob.rows at hnd
  have had : ∀ b, blk o.aA = some b → blk o.hA ≠ some b := fun b hb e => by
    have h5 := (List.nodup_append.1 hnd).2.2
    exact h5 b (by simp only [Option.mem_toList]; exact e) b (by simp only [Option.mem_toList]; exact hb) rfl
  have haN : ∀ b, blk o.aA = some b → blk A' ≠ some b := fun b hb e => by
    rcases h3 with h3 | h3
    · exact had b hb (by rw [← h3, e])
    · rw [e] at h3
      injection h3 with h3
      have := (ho.aR.lt b hb).2
      omega
  have hfs : Fr w6 (w6.setCell ⟨o.b, 2, none⟩ (.slice A' (o.held.length + o.asked.length) c')) [o.b] := Fr.set _ _ _ _
  have ny6 : NoBy w6 [o.b] := NoBy.cl z6 (by decide)
  have hrow6 : FamW w6 bs (ps ++ qs) := (hps.app hqs).fr hf6 ho.hR.noBy
  have ha6 : RgAt w6 bs o.aA o.ac o.asked := ho.aR.fr hf6 (fun b hb hm => had b hb (by simpa using hm)) ho.hR.noBy
  have hpl : ps.length = o.held.length * 2 := by have := congrArg List.length hpd; rw [datG_len] at this; simpa using this
  have hh6 : RgAt w6 bs A' c' (o.held ++ o.asked) := ⟨ps ++ qs, by rw [flatG_app hpl, List.length_append]; exact h1, hrow6, by rw [List.map_append, hpd, hqd, datG_app]⟩
  refine ⟨⟨?_, ho.ge, ?_, ?_, ?_⟩, ?_, ?_⟩
  · have := z6.set 2 (.slice A' (o.held.length + o.asked.length) c')
    unfold midO
    rw [List.length_append]
    exact this
  · refine hh6.fr hfs (fun b hb hm => ?_) ny6
    obtain rfl : b = o.b := by simpa using hm
    exact hne' hb
  · refine ha6.fr hfs (fun b hb hm => ?_) ny6
    obtain rfl : b = o.b := by simpa using hm
    exact hoa o.b hb rfl
  · unfold Ob.rows
    refine List.nodup_append.2 ⟨?_, ?_, ?_⟩
    · cases hA : blk (midO o A' c').hA <;> simp
    · exact (List.nodup_append.1 hnd).2.1
    · intro a ha b hb e
      subst e
      simp only [Option.mem_toList] at ha hb
      exact haN a hb ha
  · have f1 : Fr w w6 (o.b :: o.rows) := hf6.mono (fun b hb => .inl (List.mem_cons.2 (.inr (mem_rows.2 (.inl (by simpa using hb))))))
    exact f1.trans hfs (fun b hb => .inl (by simp at hb; simp [hb]))
  · intro b hb
    rcases mem_rows.1 hb with hb | hb
    · rcases h3 with h3 | h3
      · exact .inl (mem_rows.2 (.inl (by rw [← h3]; exact hb)))
      · refine .inr ?_
        have hb' : blk A' = some b := hb
        rw [h3] at hb'
        injection hb' with hb'
        omega
    · exact .inl (mem_rows.2 (.inr hb))
/-- What take comes to. -/
def RetTk (w : World) (bs : Nat) (o : Ob) (e : Ending) (w' : World) : Prop := e = .returned (.tuple #[]) ∧ Fr w w' (o.b :: o.rows) ∧ ∃ A c, ObAt w' bs (takeO o A c) ∧ ∀ b ∈ (takeO o A c).rows, b ∈ o.rows ∨ w.heap.size ≤ b
theorem RetTk.out {w w' : World} {bs : Nat} {o : Ob} {e : Ending} (h : RetTk w bs o e w') : e = .returned (.tuple #[]) ∧ Fr w w' (o.b :: o.rows) ∧ ∃ A c, ObAt w' bs (takeO o A c) ∧ ∀ b ∈ (takeO o A c).rows, b ∈ o.rows ∨ w.heap.size ≤ b := h
theorem give_rows {x : Ob} {b : Nat} (h : b ∈ (giveO x).rows) : b ∈ x.rows := by
  rcases mem_rows.1 h with h | h
  · exact mem_rows.2 (.inl h)
  · cases h
set_option maxRecDepth 100000 in
set_option maxHeartbeats 4000000 in
theorem take_any16 (ho : ObAt w bs o) (hbs : bs ≤ w.heap.size) (hz : o.held.length + o.asked.length ≤ 1099511627776) : Calls Try.prog 107 #[.pointer (some ⟨o.b, 0, none⟩)] w (RetTk w bs o) := by
  have hD : ObAt w.drew bs o := ho.below ((Below.refl _ _).drew)
  have HOD := Lib.hid hD
  obtain ⟨ps, h1, h2, h3⟩ := hD.hR
  obtain ⟨qs, k1, k2, k3⟩ := hD.aR
  have HM : Hid (∀ A' c' w6, OwnGr w6 bs A' (o.held.length + o.asked.length) c' (flatG o.held ps ++ flatG o.asked qs) → w.drew.grownBy w6 (blk o.hA) → (blk A' = blk o.hA ∨ blk A' = some w.drew.heap.size) →
      ObAt (w6.setCell ⟨o.b, 2, none⟩ (.slice A' (o.held.length + o.asked.length) c')) bs (midO o A' c') ∧ Fr w.drew (w6.setCell ⟨o.b, 2, none⟩ (.slice A' (o.held.length + o.asked.length) c')) (o.b :: o.rows) ∧ (∀ b ∈ (midO o A' c').rows, b ∈ o.rows ∨ w.drew.heap.size ≤ b)) :=
    Lib.hid (fun A' c' w6 a1 a2 a3 => take_mid HOD.out h2 k2 h3 k3 a1 a2 a3)
  have HC : Hid (∀ w6, w.drew.grownBy w6 (blk o.hA) → w6.cell? ⟨o.b, 2, none⟩ = some (.slice o.hA o.held.length o.hc) ∧ w6.frozen? ⟨o.b, 2, none⟩ = false) := Lib.hid (fun w6 hg => by
    have z6 := HOD.out.cl.grown hg (fun e => HOD.out.hR.ne_cl HOD.out.cl (by decide) e)
    exact ⟨z6.cell 2, z6.thaw 2⟩)
  have l2 : w.drew.cell? ⟨o.b, 2, none⟩ = some (.slice o.hA o.held.length o.hc) := hD.k2
  have l3 : w.drew.cell? ⟨o.b, 3, none⟩ = some (.slice o.aA o.asked.length o.ac) := hD.k3
  have H1 := Lib.hid h1
  have HR1 := Lib.hid k1.rd
  have HR2 : Hid (o.aA = none → o.asked.length = 0) := Lib.hid (fun e => k1.none_of e)
  have HR3 : Hid (∀ u ∈ flatG o.asked qs, u.oneCell' = true) := Lib.hid (grvs_of_famW k2 k3).cells
  have HBS : Hid (bs ≤ w.drew.heap.size) := Lib.hid hbs
  obtain ⟨ob, hob⟩ : ∃ ob, ob = o.b := ⟨_, rfl⟩
  obtain ⟨n, hn⟩ : ∃ n, n = o.held.length := ⟨_, rfl⟩
  obtain ⟨m, hm⟩ : ∃ m, m = o.asked.length := ⟨_, rfl⟩
  rw [← hn, ← hm] at HM hz
  rw [← hn] at l2 HC H1
  rw [← hm] at l3 HR1 HR2
  rw [← hob] at l2 l3 HC HM ⊢
  have HOB := Lib.hid hob
  clear ho hD h1 h2 h3 k1 k2 k3 hob hn hm hbs
  go_enter Try.func107, Try.ntmps107
  go_upto_region 0 with (fail)
  go_region_law (refine step_app3T _ rfl (Operand.tmp 6) (Operand.tmp 10) 98 rfl bs _ 56 Try.underlying98 info_rg rfl o.hA n o.hc (flatG o.held ps) (by first | (simp [Act.eval]; done) | (simp [Act.eval, Act.put]; done) | rfl) H1.out o.aA m o.ac (flatG o.asked qs) (by first | (simp [Act.eval]; done) | (simp [Act.eval, Act.put]; done) | rfl) HR1.out HR2.out HR3.out (by unfold maxLen; omega) (by omega) HBS.out ?_; intro A' c' w6 hw1 hw2 hw3; obtain ⟨s2, s3⟩ := HC.out w6 hw2)
  all_goals
    obtain ⟨y1, y2, y3⟩ := HM.out A' c' w6 hw1 hw2 hw3
    obtain ⟨w7, hw7⟩ : ∃ w7, w7 = w6.setCell ⟨ob, 2, none⟩ (.slice A' (n + m) c') := ⟨_, rfl⟩
    rw [← hw7] at y1 y2
    have HW7 := Lib.hid hw7
    have HGU := Lib.hid (giveUp_any y1)
    have HY2 := Lib.hid y2
    have HY3 := Lib.hid y3
    have HMB : Hid ((midO o A' c').b = ob) := Lib.hid HOB.out.symm
    rw [HMB.out] at HGU
    clear y1 y2 y3 hw7 hw1 hw2 hw3 s2 s3 l2 l3
    try rw [← HW7.out]
    go_wp2_with fail
    with_reducible refine HGU.out.mono ?_
    intro e w8 hq
    obtain ⟨g1, g2, g3⟩ := hq.out
    subst g1
    have HF : Hid (RetTk w bs o (.returned (.tuple #[])) w8) := Lib.hid (by
      refine ⟨rfl, ?_, A', c', g3, fun b hb => HY3.out b (give_rows hb)⟩
      have t1 : Fr w.drew w8 (o.b :: o.rows) := by
        have y2 := HY2.out
        rw [HOB.out] at y2
        exact y2.trans g2 (fun b hb => by
          rcases List.mem_cons.1 hb with hb | hb
          · exact .inl (by rw [hb]; exact List.mem_cons_self)
          · rcases HY3.out b hb with h | h
            · exact .inl (List.mem_cons.2 (.inr h))
            · exact .inr h)
      exact ⟨t1.os, t1.tape, t1.output, t1.size, t1.block⟩)
    clear hq g2 g3
    go_wp2_with fail
    go_end0
    exact HF.out
end
end Go.Proofs.Ytmpdenpopokigaa
