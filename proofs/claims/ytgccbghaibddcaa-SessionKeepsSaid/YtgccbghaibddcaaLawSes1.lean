/- SessionKeeps: for every list of bytes the call returns true: packets and clients keep no memory of what they are handed, and answers are memory of their own. -/
import Derived.Test.YtgccbghaibddcaaEnE
import Derived.Test.YtgccbghaibddcaaCrcA
import Derived.Test.YtgccbghaibddcaaEnF
import Derived.Test.YtgccbghaibddcaaCl
import Derived.Test.YtgccbghaibddcaaEnC
import Derived.Test.YtgccbghaibddcaaFamD
import Derived.Deep.RegionLaw
import Derived.Test.YtgccbghaibddcaaPut
import Derived.Test.YtgccbghaibddcaaCrcX
import Derived.Test.YtgccbghaibddcaaFrW
import Derived.Test.YtgccbghaibddcaaStepW
import Derived.Deep.DeepCutAuto
import Derived.Deep.CutBlock
import Derived.Laws.Rows
import Derived.Great.BuildSlice
import Derived.Test.YtgccbghaibddcaaGetU
import Derived.Test.YtgccbghaibddcaaMathF
import Derived.RegionTactic
import Derived.Laws.StructEq
import Derived.Test.YtgccbghaibddcaaApartF
import Derived.Test.YtgccbghaibddcaaKept
namespace Go.Proofs.Ytgccbghaibddcaa
open Go Go.RowKit

end Go.Proofs.Ytgccbghaibddcaa
namespace Go.Proofs.Ytgccbghaibddcaa
open Go Go.RowKit

theorem openG_at (A r R : List UInt8) (hr : r.length ≤ 1048576) : openG (A ++ (sealB r ++ R)) ((A.length : Nat) : Int) = (r, ((A.length + 8 + r.length : Nat) : Int), 0) := by
  have hl := sealB_len r
  have hlen : (A ++ (sealB r ++ R)).length = A.length + (8 + r.length + R.length) := by simp only [List.length_append, hl]
  have hd : (A ++ (sealB r ++ R)).drop A.length = sealB r ++ R := List.drop_left' rfl
  have hm : r.length = numK ((A ++ (sealB r ++ R)).drop A.length) 4 := by
    rw [hd, sealB, List.append_assoc, numK_fourB _ _ (by omega)]
  have h2 : (A ++ (sealB r ++ R)).take (A.length + 8 + r.length) = A ++ sealB r := by
    rw [← List.append_assoc]
    exact List.take_left' (by simp only [List.length_append, hl]; omega)
  have h3 : (A ++ sealB r).drop A.length = sealB r := List.drop_left' rfl
  have h4 : (A ++ sealB r).drop (A.length + 8) = r := by
    unfold sealB
    rw [← List.append_assoc, ← List.append_assoc]
    exact List.drop_left' (by simp only [List.length_append, fourB_len])
  rw [openG_whole (a := A.length) hlen hm (by omega) (by omega), h2, h3, h4, eqB_self, if_pos rfl]
end Go.Proofs.Ytgccbghaibddcaa
namespace Go.Proofs.Ytgccbghaibddcaa
open Go Go.RowKit

end Go.Proofs.Ytgccbghaibddcaa
namespace Go.Proofs.Ytgccbghaibddcaa
open Go Go.RowKit

theorem cl_row {ty t : TypeId} {s : Nat} {w : World} {p b2 m d j : Nat} {A : Option Addr} {us : Array Value} {vs : List Value} (h : Cl w p us ty) (k : w.ownsRow b2 t s (.slice A m d) j vs) (hne : ty ≠ t) : blk A ≠ some p := fun e2 => by
  rcases k.2 with ⟨k1, _⟩ | ⟨g2, cap2, cur2, k1, _, kg, _⟩
  · injection k1 with k1
    rw [k1] at e2; cases e2
  · injection k1 with k1
    rw [k1] at e2
    injection e2 with e2
    simp only at e2
    subst e2
    unfold Cl at h
    rw [h] at kg
    injection kg with kg
    injection kg with _ kg
    exact hne kg
theorem Cl.grown {w w' : World} {p : Nat} {us : Array Value} {ty : TypeId} {row : Option Nat} (h : Cl w p us ty) (hg : w.grownBy w' row) (hne : row ≠ some p) : Cl w' p us ty := by
  obtain ⟨_, _, _, h4, h5⟩ := hg
  exact (h5 p h.lt (fun e => hne e.symm)).trans h
theorem rdPre2 {e : TypeId} {w : World} {base g n k : Nat} {xs : List UInt8} (h : Own e w base (some ⟨g, 0, none⟩) (n + 40) (n + 40) (xs ++ room n k)) (hx : xs.length = n) : Rd w (some ⟨g, 0, none⟩) n xs := by
  have := (h.prefix n (by omega) (by simp)).rd
  rw [List.take_left' hx] at this
  exact this
theorem ownV_box2 (w : World) (t : TypeId) (base : Nat) (vs : List Value) (n : Nat) (hl : vs.length = n) (hn : n ≤ 1024) (hb : base ≤ w.heap.size) (cs : Array Value) (hc : cs = vs.toArray) : OwnV t (w.alloc (.cells cs t)) base (some ⟨w.heap.size, 0, none⟩) n n vs := by
  subst hc
  refine ⟨by simp [hl], .inr ⟨w.heap.size, n, vs.toArray, rfl, hb, heap_alloc_new w _, Nat.le_refl _, by unfold maxLen; omega, by simp [hl], ?_⟩⟩
  simp only [Nat.mul_one]
  exact List.take_of_length_le (by simp [hl])
section
variable {w w' : World} {base : Nat} {ps qs : List VB}
theorem Fam.app {base' : Nat} (h : Fam w base ps) (hn : Fam w' base' qs) (hb : Below w.heap.size w w') (h1 : w.heap.size ≤ base') (h2 : base ≤ base') : Fam w' base (ps ++ qs) := by
  have h0 : Fam w base (ps ++ []) := by rw [List.append_nil]; exact h
  have := Fam.ins h0 hn hb h1 h2
  rw [List.append_nil] at this
  exact this
theorem OffF.app {p : Nat} (h : OffF ps p) (k : OffF qs p) : OffF (ps ++ qs) p := fun q hq => by
  rcases List.mem_append.1 hq with h1 | h1
  · exact h q h1
  · exact k q h1
end
end Go.Proofs.Ytgccbghaibddcaa
namespace Go.Proofs.Ytgccbghaibddcaa
open Go Go.RowKit

theorem Made.outS {base : Nat} {w w' : World} {xs : List UInt8} {e : Ending} (h : Made base w xs e w') : ∃ A n c, e = .returned (.slice A n c) ∧ Own 5 w' base A n c xs ∧ Below base w w' := h
theorem Rd.vS {w : World} {B : Option Addr} {m : Nat} {ys : List UInt8} (h : Rd w B m ys) : RdV w B m (ys.map cv) := by
  refine ⟨by simp [h.1], fun hm => ?_⟩
  obtain ⟨b, off, e, hb, hc⟩ := h.2 hm
  refine ⟨b, off, e, hb, fun i v hv => ?_⟩
  rw [List.getElem?_map] at hv
  cases hy : ys[i]? with
  | none => rw [hy] at hv; cases hv
  | some y =>
    rw [hy] at hv
    injection hv with hv
    subst hv
    exact hc i y hy
/-- A hand's own memory turns; what else is known whole stays. -/
def Puts (base o : Nat) (w w' : World) : Prop := Below base w w' ∧ ∀ g vs t, Cl w g vs t → t ≠ 5 → g ≠ o → Cl w' g vs t
section
variable {base o : Nat} {w w' w2 : World}
theorem Puts.refl (base o : Nat) (w : World) : Puts base o w w := ⟨Below.refl _ _, fun _ _ _ h _ _ => h⟩
theorem Puts.trans (h : Puts base o w w') (h2 : Puts base o w' w2) : Puts base o w w2 := ⟨h.1.trans h2.1, fun g vs t h3 h4 h5 => h2.2 g vs t (h.2 g vs t h3 h4 h5) h4 h5⟩
theorem Puts.of_below (h : Below w.heap.size w w') (hb : base ≤ w.heap.size) : Puts base o w w' := ⟨h.mono hb, fun _ _ _ h3 _ _ => h3.below h⟩
theorem Puts.bel (h : Puts base o w w') : Below base w w' := h.1
theorem Puts.cl (h : Puts base o w w') {g : Nat} {vs : Array Value} {t : TypeId} (h3 : Cl w g vs t) (h4 : t ≠ 5) (h5 : g ≠ o) : Cl w' g vs t := h.2 g vs t h3 h4 h5
end
theorem cl_cl {w : World} {p g : Nat} {us vs : Array Value} {t ty : TypeId} (h : Cl w p us t) (k : Cl w g vs ty) (hne : t ≠ ty) : p ≠ g := fun e => by
  subst e
  unfold Cl at h k
  rw [h] at k
  injection k with k
  injection k with _ k _
  exact hne k
/-- The bytes so far, in o; the two closures' cells. -/
def HandP (w : World) (base o o1 c3 : Nat) (xs : List UInt8) : Prop := ∃ A n c, Cl w o #[.slice A n c] 30 ∧ Cl w o1 #[.pointer (some ⟨o, 0, none⟩)] 110 ∧
  Cl w c3 #[.func (.func 61) #[] #[.pointer (some ⟨o1, 0, none⟩)]] 169 ∧ Own 5 w base A n c xs
section
variable {w w' : World} {base o o1 c3 : Nat} {xs : List UInt8}
theorem HandP.below (h : HandP w base o o1 c3 xs) (hb : Below w.heap.size w w') : HandP w' base o o1 c3 xs := by
  obtain ⟨A, n, c, h1, h2, h3, h4⟩ := h
  exact ⟨A, n, c, h1.below hb, h2.below hb, h3.below hb, h4.below hb⟩
theorem HandP.k1 (h : HandP w base o o1 c3 xs) : w.cell? ⟨o1, 0, none⟩ = some (.pointer (some ⟨o, 0, none⟩)) := by
  obtain ⟨_, _, _, _, h2, _⟩ := h
  exact h2.cell 0
theorem HandP.k3 (h : HandP w base o o1 c3 xs) : w.cell? ⟨c3, 0, none⟩ = some (.func (.func 61) #[] #[.pointer (some ⟨o1, 0, none⟩)]) := by
  obtain ⟨_, _, _, _, _, h3, _⟩ := h
  exact h3.cell 0
/-- What is put behind. -/
theorem HandP.grow {w3 : World} {A L : Option Addr} {n c n2 c2 : Nat} {ys : List UInt8} (z0 : Cl w o #[.slice A n c] 30) (z1 : Cl w o1 #[.pointer (some ⟨o, 0, none⟩)] 110) (z3 : Cl w c3 #[.func (.func 61) #[] #[.pointer (some ⟨o1, 0, none⟩)]] 169)
    (hO : Own 5 w base A n c xs) (hbase : base ≤ w.heap.size) (hbo : base ≤ o) (hO3 : Own 5 w3 base L n2 c2 ys) (hg : w.grownBy w3 (blk A)) : Cl w3 o #[.slice A n c] 30 ∧ w3.cell? ⟨o1, 0, none⟩ = some (.pointer (some ⟨o, 0, none⟩)) ∧ HandP (w3.setCell ⟨o, 0, none⟩ (.slice L n2 c2)) base o o1 c3 ys ∧ Puts base o w (w3.setCell ⟨o, 0, none⟩ (.slice L n2 c2)) := by
  have e0 : Cl w3 o #[.slice A n c] 30 := z0.grown hg (cl_row z0 hO (by decide))
  have e1 := z1.grown hg (cl_row z1 hO (by decide))
  have e3 := z3.grown hg (cl_row z3 hO (by decide))
  have n1 : o ≠ o1 := cl_cl z0 z1 (by decide)
  have n3 : o ≠ c3 := cl_cl z0 z3 (by decide)
  have f : Fr w3 (w3.setCell ⟨o, 0, none⟩ (.slice L n2 c2)) [o] := Fr.set _ _ _ _
  have b1 : Below base w w3 := (Below.refl base w).grown hg hbase (fun k hk => (hO.lt k hk).1)
  have b2 : Below base w3 (w3.setCell ⟨o, 0, none⟩ (.slice L n2 c2)) := f.below (fun b hb => by rw [List.mem_singleton] at hb; omega) (Nat.le_trans hbase b1.size)
  refine ⟨e0, e1.cell 0, ⟨L, n2, c2, ?_, e1.off 0 _ n1, e3.off 0 _ n3, hO3.fr f (fun b hb hm => ?_)⟩, b1.trans b2, fun g vs t h3 h4 h5 => ?_⟩
  · have := e0.set 0 (.slice L n2 c2)
    simpa using this
  · rw [List.mem_singleton] at hm
    subst hm
    exact cl_row e0 hO3 (by decide) hb
  · exact (h3.grown hg (cl_row h3 hO h4)).off 0 _ (fun e => h5 e.symm)
end
/-- What a put comes to. -/
def RetPu (w : World) (base o o1 c3 : Nat) (ys : List UInt8) (e : Ending) (w' : World) : Prop := e = .returned (.tuple #[]) ∧ HandP w' base o o1 c3 ys ∧ Puts base o w w'
theorem RetPu.out {w : World} {base o o1 c3 : Nat} {ys : List UInt8} {e : Ending} {w' : World} (h : RetPu w base o o1 c3 ys e w') : e = .returned (.tuple #[]) ∧ HandP w' base o o1 c3 ys ∧ Puts base o w w' := h
section
variable {w : World} {base o o1 c3 : Nat} {xs : List UInt8}
set_option maxRecDepth 100000 in
set_option maxHeartbeats 4000000 in
theorem put1_any (h : HandP w base o o1 c3 xs) (hbase : base ≤ w.heap.size) (hbo : base ≤ o) (j : Nat) (hj : j < B64) (hl : xs.length ≤ 1073741824) : Calls Try.prog 61 #[.int .u64 (j : Int), .pointer (some ⟨o1, 0, none⟩)] w (RetPu w base o o1 c3 (xs ++ putU j)) := by
  obtain ⟨A, n, c, z0, z1, z3, hO⟩ := h
  have hnl : n ≤ 1073741824 := by rw [← hO.len]; exact hl
  have hpl := putU_len64 j hj
  have hB1 : Below w.heap.size w w.drew := (Below.refl _ _).drew
  have HPU : Hid (∀ wx, Calls Try.prog 62 #[.int .u64 (j : Int)] wx (Made wx.heap.size wx (putU j))) := Lib.hid (fun wx => PutU_any j wx hj)
  have HW : Hid (∀ wx, Below w.heap.size w wx → wx.cell? ⟨o, 0, none⟩ = some (.slice A n c) ∧ wx.cell? ⟨o1, 0, none⟩ = some (.pointer (some ⟨o, 0, none⟩)) ∧ Own 5 wx base A n c xs ∧ base ≤ wx.heap.size) := Lib.hid (fun wx hb => ⟨(z0.below hb).cell 0, (z1.below hb).cell 0, hO.below hb, Nat.le_trans hbase hb.size⟩)
  have HG : Hid (∀ wx w3 L n2 c2 ys, Below w.heap.size w wx → Own 5 w3 base L n2 c2 ys → wx.grownBy w3 (blk A) → Cl w3 o #[.slice A n c] 30 ∧ w3.cell? ⟨o1, 0, none⟩ = some (.pointer (some ⟨o, 0, none⟩)) ∧ HandP (w3.setCell ⟨o, 0, none⟩ (.slice L n2 c2)) base o o1 c3 ys ∧ Puts base o w (w3.setCell ⟨o, 0, none⟩ (.slice L n2 c2))) := Lib.hid (fun wx w3 L n2 c2 ys hb h3 hg => by
    obtain ⟨a1, a0, a2, a3⟩ := HandP.grow (z0.below hb) (z1.below hb) (z3.below hb) (hO.below hb) (Nat.le_trans hbase hb.size) hbo h3 hg
    exact ⟨a1, a0, a2, (Puts.of_below hb hbase).trans a3⟩)
  have q0 := (HW.out _ hB1).1
  have q1 := (HW.out _ hB1).2.1
  clear z0 z1 z3 hO hl
  go_enter Try.func61, Try.ntmps61
  go_region_law (first
    | (go_simp; go_at_call 62; with_reducible refine (HPU.out _).mono ?_; intro e w2 hq; obtain ⟨C, cn, cc, h1, oC, b2⟩ := Made.outS hq; subst h1; have hb2 := belowT' hB1 b2; obtain ⟨p0, p1, hO2, hs2⟩ := HW.out w2 hb2; have hcn := oC.len)
    | (refine step_appW _ rfl _ _ 30 rfl base 5 (.int .u8 0) 1 Try.underlying30 info_u8 rfl A n c (xs.map cv) (by simp [Act.eval]) hO2 C cn cc ((putU j).map cv) (by simp [Act.eval]) oC.rd.vS (by intro u hu; obtain ⟨x, _, rfl⟩ := List.mem_map.1 hu; rfl) (by unfold maxLen; omega) (by omega) hs2 ?_; intro L c5 w3 hO3 hg3; have hO4 : Own 5 w3 base L (n + cn) c5 (xs ++ putU j) := (by unfold Own; rw [List.map_append]; exact hO3); obtain ⟨t0, tk, tH, tP⟩ := HG.out w2 w3 L (n + cn) c5 _ hb2 hO4 hg3; have s0 := t0.cell 0; have s1 := t0.thaw 0))
  all_goals
    go_end0
    exact ⟨rfl, tH, tP⟩
end
end Go.Proofs.Ytgccbghaibddcaa
namespace Go.Proofs.Ytgccbghaibddcaa
open Go Go.RowKit
section
variable {w : World} {base o o1 c3 : Nat} {xs : List UInt8}
set_option maxRecDepth 100000 in
set_option maxHeartbeats 4000000 in
theorem put2_any (h : HandP w base o o1 c3 xs) (hbase : base ≤ w.heap.size) (hbo : base ≤ o) (pb pi : Nat) (v : Int) (u : Nat) (hP : w.cell? ⟨pb, pi, none⟩ = some (.int .i64 v)) (hu : IntKind.u64.wrap v = (u : Int)) (hub : u < B64) (hl : xs.length ≤ 1073741824) :
    Calls Try.prog 63 #[.pointer (some ⟨pb, pi, none⟩), .pointer (some ⟨c3, 0, none⟩)] w (RetPu w base o o1 c3 (xs ++ putU u)) := by
  have HC : Hid (Calls Try.prog 61 #[.int .u64 (u : Int), .pointer (some ⟨o1, 0, none⟩)] w.drew (RetPu w.drew base o o1 c3 (xs ++ putU u))) := Lib.hid (put1_any (h.below (Below.refl _ _).drew) hbase hbo u hub hl)
  have HD : Hid (Puts base o w w.drew) := Lib.hid (Puts.of_below (Below.refl _ _).drew hbase)
  have k3 : w.drew.cell? ⟨c3, 0, none⟩ = some (.func (.func 61) #[] #[.pointer (some ⟨o1, 0, none⟩)]) := h.k3
  have kp : w.drew.cell? ⟨pb, pi, none⟩ = some (.int .i64 v) := hP
  clear h hP
  go_enter Try.func63, Try.ntmps63
  go_region_law (first | (go_simp; go_at_call 61; with_reducible refine HC.out.mono ?_; intro e w2 hq; obtain ⟨h1, h2, h3⟩ := hq.out; subst h1))
  all_goals
    go_end0
    exact ⟨rfl, h2, HD.out.trans h3⟩
set_option maxRecDepth 100000 in
set_option maxHeartbeats 4000000 in
theorem put3_any (h : HandP w base o o1 c3 xs) (hbase : base ≤ w.heap.size) (hbo : base ≤ o) (pb pi : Nat) (u : Nat) (hP : w.cell? ⟨pb, pi, none⟩ = some (.int .u64 (u : Int))) (hub : u < B64) (hl : xs.length ≤ 1073741824) :
    Calls Try.prog 64 #[.pointer (some ⟨pb, pi, none⟩), .pointer (some ⟨c3, 0, none⟩)] w (RetPu w base o o1 c3 (xs ++ putU u)) := by
  have HC : Hid (Calls Try.prog 61 #[.int .u64 (u : Int), .pointer (some ⟨o1, 0, none⟩)] w.drew (RetPu w.drew base o o1 c3 (xs ++ putU u))) := Lib.hid (put1_any (h.below (Below.refl _ _).drew) hbase hbo u hub hl)
  have HD : Hid (Puts base o w w.drew) := Lib.hid (Puts.of_below (Below.refl _ _).drew hbase)
  have k3 : w.drew.cell? ⟨c3, 0, none⟩ = some (.func (.func 61) #[] #[.pointer (some ⟨o1, 0, none⟩)]) := h.k3
  have kp : w.drew.cell? ⟨pb, pi, none⟩ = some (.int .u64 (u : Int)) := hP
  clear h hP
  go_enter Try.func64, Try.ntmps64
  go_region_law (first | (go_simp; go_at_call 61; with_reducible refine HC.out.mono ?_; intro e w2 hq; obtain ⟨h1, h2, h3⟩ := hq.out; subst h1))
  all_goals
    go_end0
    exact ⟨rfl, h2, HD.out.trans h3⟩
set_option maxRecDepth 100000 in
set_option maxHeartbeats 4000000 in
/-- Bytes: their length, then they themselves. They lie ahead of the hand's own memory. -/
theorem put5_any (h : HandP w base o o1 c3 xs) (hbase : base ≤ w.heap.size) (hbo : base ≤ o) (pb pi : Nat) (pvs : Array Value) (pt : TypeId) (hpc : Cl w pb pvs pt) (hpt : pt ≠ 5) (hpo : pb ≠ o) (D : Option Addr) (dn dc : Nat) (ds : List UInt8) (hpi : pvs[pi]? = some (.slice D dn dc)) (hrB : ∀ w', Below base w w' → Rd w' D dn ds) (hdn : dn ≤ 1073741824) (hl : xs.length ≤ 1000000000) :
    Calls Try.prog 66 #[.pointer (some ⟨pb, pi, none⟩), .pointer (some ⟨c3, 0, none⟩), .pointer (some ⟨o1, 0, none⟩)] w (RetPu w base o o1 c3 (xs ++ putU dn ++ ds)) := by
  have hub : dn < B64 := by unfold B64; omega
  have HC : Hid (Calls Try.prog 61 #[.int .u64 (dn : Int), .pointer (some ⟨o1, 0, none⟩)] w.drew (RetPu w.drew base o o1 c3 (xs ++ putU dn))) := Lib.hid (put1_any (h.below (Below.refl _ _).drew) hbase hbo dn hub (by omega))
  have HD : Hid (Puts base o w w.drew) := Lib.hid (Puts.of_below (Below.refl _ _).drew hbase)
  have hpl := putU_len64 dn hub
  have k3 : w.drew.cell? ⟨c3, 0, none⟩ = some (.func (.func 61) #[] #[.pointer (some ⟨o1, 0, none⟩)]) := h.k3
  have kp : w.drew.cell? ⟨pb, pi, none⟩ = some (.slice D dn dc) := (hpc.cell pi).trans hpi
  have HPC := Lib.hid hpc
  have HPI := Lib.hid hpi
  have HRB := Lib.hid hrB
  have hw1 : IntKind.u64.wrap (dn : Int) = (dn : Int) := by rw [IntKind.wrap_u64]; unfold B64 at hub; omega
  clear h hpc hpi hrB
  go_enter Try.func66, Try.ntmps66
  go_upto_region 0 with (fail)
  go_cut [10] from 4 to 10 (fun s10 wx => HandP wx base o o1 c3 (xs ++ putU dn) ∧ Puts base o w wx)
  case first =>
    go_region_law (first | (go_simp; go_at_call 61; with_reducible refine HC.out.mono ?_; intro e w2 hq; obtain ⟨h1, h2, h3⟩ := hq.out; subst h1))
    all_goals
      go_wp2_with fail
      go_meet
      exact ⟨h2, HD.out.trans h3⟩
  obtain ⟨hH, hPt⟩ := hcut
  obtain ⟨A, n, c, z0, z1, z3, hO⟩ := hH
  have hnl : n ≤ 1000000010 := by rw [← hO.len, List.length_append]; omega
  have hbw : base ≤ wc.heap.size := Nat.le_trans hbase hPt.bel.size
  have hB1 : Below wc.heap.size wc wc.drew := (Below.refl _ _).drew
  have hO2 : Own 5 wc.drew base A n c (xs ++ putU dn) := hO.below hB1
  have hrd : Rd wc.drew D dn ds := HRB.out _ (hPt.bel.trans (hB1.mono hbw))
  have q0 : wc.drew.cell? ⟨o, 0, none⟩ = some (.slice A n c) := z0.cell 0
  have q1 : wc.drew.cell? ⟨o1, 0, none⟩ = some (.pointer (some ⟨o, 0, none⟩)) := z1.cell 0
  have qd : wc.drew.cell? ⟨pb, pi, none⟩ = some (.slice D dn dc) := ((hPt.cl HPC.out hpt hpo).cell pi).trans HPI.out
  have HG : Hid (∀ w3 L n2 c2 ys, Own 5 w3 base L n2 c2 ys → wc.drew.grownBy w3 (blk A) → Cl w3 o #[.slice A n c] 30 ∧ w3.cell? ⟨o1, 0, none⟩ = some (.pointer (some ⟨o, 0, none⟩)) ∧ HandP (w3.setCell ⟨o, 0, none⟩ (.slice L n2 c2)) base o o1 c3 ys ∧ Puts base o w (w3.setCell ⟨o, 0, none⟩ (.slice L n2 c2))) := Lib.hid (fun w3 L n2 c2 ys h3 hg => by
    obtain ⟨a1, a0, a2, a3⟩ := HandP.grow (z0.below hB1) (z1.below hB1) (z3.below hB1) (hO.below hB1) hbw hbo h3 hg
    exact ⟨a1, a0, a2, hPt.trans ((Puts.of_below hB1 hbw).trans a3)⟩)
  clear z0 z1 z3 hO hPt HC HD k3 kp HPC HPI HRB
  go_upto_region 1 with (fail)
  go_region_law (first
    | (refine step_appW _ rfl _ _ 30 rfl base 5 (.int .u8 0) 1 Try.underlying30 info_u8 rfl A n c ((xs ++ putU dn).map cv) (by simp [Act.eval]) hO2 D dn dc (ds.map cv) (by simp [Act.eval]) hrd.vS (by intro u hu; obtain ⟨x, _, rfl⟩ := List.mem_map.1 hu; rfl) (by unfold maxLen; omega) (by omega) hbw ?_; intro L c5 w3 hO3 hg3; have hO4 : Own 5 w3 base L (n + dn) c5 (xs ++ putU dn ++ ds) := (by unfold Own; rw [List.map_append]; exact hO3); obtain ⟨t0, tk, tH, tP⟩ := HG.out w3 L (n + dn) c5 _ hO4 hg3; have s0 := t0.cell 0; have s1 := t0.thaw 0))
  all_goals
    go_end0
    exact ⟨rfl, tH, tP⟩
end
end Go.Proofs.Ytgccbghaibddcaa
namespace Go.Proofs.Ytgccbghaibddcaa
open Go Go.RowKit
/-- The hand that puts, as a value. -/
def handPA (c3 o1 : Nat) : Array Value := #[.func (.func 63) #[] #[.pointer (some ⟨c3, 0, none⟩)], .func (.func 64) #[] #[.pointer (some ⟨c3, 0, none⟩)], .func (.func 65) #[] #[.pointer (some ⟨c3, 0, none⟩)],
  .func (.func 66) #[] #[.pointer (some ⟨c3, 0, none⟩), .pointer (some ⟨o1, 0, none⟩)], .func (.func 67) #[] #[.pointer (some ⟨o1, 0, none⟩)]]
theorem size_hand : (Try.prog.info? 108).map (·.size) = some 5 := by kernel_rfl
set_option maxRecDepth 100000 in
set_option maxHeartbeats 4000000 in
theorem putting_any {w : World} {base o : Nat} {A : Option Addr} {n c : Nat} {xs : List UInt8} (h : Cl w o #[.slice A n c] 30) (hO : Own 5 w base A n c xs) : Calls Try.prog 34 #[.pointer (some ⟨o, 0, none⟩)] w (fun e w' => ∃ o1 c3, e = .returned (.agg (handPA c3 o1)) ∧ HandP w' base o o1 c3 xs ∧ Below w.heap.size w w' ∧ w.heap.size ≤ o1 ∧ w.heap.size ≤ c3) := by
  obtain ⟨V, hV⟩ : ∃ V, V = (((w.alloc (.cells #[.pointer (some ⟨o, 0, none⟩)] 110)).alloc (.cells (handPA (w.heap.size + 1 + 1) w.heap.size) 108)).alloc (.cells #[.func (.func 61) #[] #[.pointer (some ⟨w.heap.size, 0, none⟩)]] 169)) := ⟨_, rfl⟩
  have bV : Below w.heap.size w V := by rw [hV]; exact (((Below.refl _ _).alloc (Nat.le_refl _) _).alloc (by simp) _).alloc (by simp; omega) _
  have z1 : Cl V w.heap.size #[.pointer (some ⟨o, 0, none⟩)] 110 := by rw [hV]; exact ((Cl.new _ _ _).alloc _).alloc _
  have z2 : Cl V (w.heap.size + 1) (handPA (w.heap.size + 1 + 1) w.heap.size) 108 := by rw [hV]; exact (Cl.newg _ _ _ _ (by simp)).alloc _
  have z3 : Cl V (w.heap.size + 1 + 1) #[.func (.func 61) #[] #[.pointer (some ⟨w.heap.size, 0, none⟩)]] 169 := by rw [hV]; exact Cl.newg _ _ _ _ (by simp)
  have HF : Hid (HandP V base o w.heap.size (w.heap.size + 1 + 1) xs ∧ Below w.heap.size w V) := Lib.hid ⟨⟨A, n, c, h.below bV, z1, z3, hO.below bV⟩, bV⟩
  have Z2 := Lib.hid z2
  have HV := Lib.hid hV
  obtain ⟨y0, y1⟩ := (Cl.newg ((w.alloc (.cells #[.pointer (some ⟨o, 0, none⟩)] 110)).alloc (.cells #[.nilFunc, .nilFunc, .nilFunc, .nilFunc, .nilFunc] 108)) #[.nilFunc] 169 (w.heap.size + 1 + 1) (by simp)).c1
  have hsf := fun (a : Addr) (f : Fn) (b c : Array Value) (w : World) => run_store Try.prog w a (.func f b c) .plain rfl
  clear h hO z1 z2 z3 bV hV
  go_enter Try.func34, Try.ntmps34
  go_wp2_with fail
  have HV' := HV.out
  unfold handPA at HV'
  rw [← HV']
  exact bodyPost_ret (v := .agg (handPA (w.heap.size + 1 + 1) w.heap.size)) (results_cell_row rfl _ _ (w.heap.size + 1) 108 (handPA (w.heap.size + 1 + 1) w.heap.size) (0, 0) _ rfl Z2.out Try.underlying108 rfl size_hand) rfl ⟨w.heap.size, w.heap.size + 1 + 1, rfl, HF.out.1, HF.out.2, Nat.le_refl _, by omega⟩
end Go.Proofs.Ytgccbghaibddcaa
namespace Go.Proofs.Ytgccbghaibddcaa
open Go Go.RowKit

theorem blk_cutS {A : Option Addr} {k c b : Nat} (h : blk (cutA A k c) = some b) : blk A = some b := by
  unfold cutA at h
  split at h
  · exact h
  · cases A with
    | none => simp [blk] at h
    | some a =>
      simp only [Option.map_some, Addr.add] at h
      split at h <;> exact h
theorem cut_hS {P : Program} {t e : TypeId} (ht : P.underlying t = some (.slice e)) (he : P.elem t = e) (hs : ∀ w, (sizeOf e).run P w = .ok 1 w)
    (A : Option Addr) {n cap m : Nat} (hm : m ≤ cap) (w : World) :
    (Instr.slice t (.slice A n cap) none (some (.int .u64 (m : Int))) none).run P w = .ok (.slice A m cap) w := by
  subst he
  rw [run_slice_h w t A n cap ht .u64 (m : Int) (by omega) (by omega)]
  simp only [hs, Result.andThen, sliced, Int.toNat_natCast, Nat.zero_mul, Nat.sub_zero]
  cases A <;> simp [Addr.add]
theorem cut_lS {P : Program} {t e : TypeId} (ht : P.underlying t = some (.slice e)) (he : P.elem t = e) (hs : ∀ w, (sizeOf e).run P w = .ok 1 w)
    (A : Option Addr) {n cap k : Nat} (hk : k ≤ n) (w : World) :
    (Instr.slice t (.slice A n cap) (some (.int .u64 (k : Int))) none none).run P w = .ok (.slice (cutA A k cap) (n - k) (cap - k)) w := by
  subst he
  rw [run_slice_l w t A n cap ht .u64 (k : Int) (by omega) (by omega)]
  simp only [hs, Result.andThen, sliced, Int.toNat_natCast, Nat.mul_one, cutA]
/-- What is left, in bb; the error so far, in wr; the closure's cell. The bytes lie in block gi. -/
def HandT (w : World) (gi bb wr c5 : Nat) (e : Int) (rest : List UInt8) : Prop := ∃ B n c, Cl w bb #[.slice B n c] 30 ∧ Cl w wr #[.int .i64 e] 38 ∧
  Cl w c5 #[.func (.func 71) #[] #[.pointer (some ⟨wr, 0, none⟩), .pointer (some ⟨bb, 0, none⟩)]] 178 ∧ Rd w B n rest ∧ n ≤ c ∧ (B = none → c = 0) ∧ ∀ b, blk B = some b → b = gi
section
variable {w w' : World} {gi bb wr c5 : Nat} {e : Int} {rest : List UInt8}
theorem HandT.below (h : HandT w gi bb wr c5 e rest) (hb : Below w.heap.size w w') : HandT w' gi bb wr c5 e rest := by
  obtain ⟨B, n, c, h1, h2, h3, h4, h5⟩ := h
  exact ⟨B, n, c, h1.below hb, h2.below hb, h3.below hb, h4.below hb, h5⟩
theorem HandT.k5 (h : HandT w gi bb wr c5 e rest) : w.cell? ⟨c5, 0, none⟩ = some (.func (.func 71) #[] #[.pointer (some ⟨wr, 0, none⟩), .pointer (some ⟨bb, 0, none⟩)]) := by
  obtain ⟨_, _, _, _, _, h3, _⟩ := h
  exact h3.cell 0
/-- A block that is none of its own turns. -/
theorem HandT.fr {bl : List Nat} (h : HandT w gi bb wr c5 e rest) (hf : Fr w w' bl) (h1 : bb ∉ bl) (h2 : wr ∉ bl) (h3 : c5 ∉ bl) (h4 : gi ∉ bl) : HandT w' gi bb wr c5 e rest := by
  obtain ⟨B, n, c, z1, z2, z3, hr, hc, hn, hg⟩ := h
  exact ⟨B, n, c, (hf.block _ z1.lt h1).trans z1, (hf.block _ z2.lt h2).trans z2, (hf.block _ z3.lt h3).trans z3, hr.fr hf (fun b hb hm => h4 (by rw [← hg b hb]; exact hm)), hc, hn, hg⟩
/-- It goes on by k bytes. -/
theorem HandT.go {B : Option Addr} {n c k : Nat} {e2 : Int} (z1 : Cl w bb #[.slice B n c] 30) (z2 : Cl w wr #[.int .i64 e] 38) (z3 : Cl w c5 #[.func (.func 71) #[] #[.pointer (some ⟨wr, 0, none⟩), .pointer (some ⟨bb, 0, none⟩)]] 178) (hr : Rd w B n rest) (hc : n ≤ c) (hn : B = none → c = 0) (hg : ∀ b, blk B = some b → b = gi) (hk : k ≤ n) (g1 : gi ≠ bb) (g2 : gi ≠ wr) :
    HandT ((w.setCell ⟨bb, 0, none⟩ (.slice (cutA B k c) (n - k) (c - k))).setCell ⟨wr, 0, none⟩ (.int .i64 e2)) gi bb wr c5 e2 (rest.drop k) ∧ Fr w ((w.setCell ⟨bb, 0, none⟩ (.slice (cutA B k c) (n - k) (c - k))).setCell ⟨wr, 0, none⟩ (.int .i64 e2)) [bb, wr] ∧
    (w.setCell ⟨bb, 0, none⟩ (.slice (cutA B k c) (n - k) (c - k))).cell? ⟨wr, 0, none⟩ = some (.int .i64 e) ∧ (w.setCell ⟨bb, 0, none⟩ (.slice (cutA B k c) (n - k) (c - k))).frozen? ⟨wr, 0, none⟩ = false := by
  have n1 : bb ≠ wr := cl_cl z1 z2 (by decide)
  have n2 : bb ≠ c5 := cl_cl z1 z3 (by decide)
  have n3 : wr ≠ c5 := cl_cl z2 z3 (by decide)
  have f1 : Fr w (w.setCell ⟨bb, 0, none⟩ (.slice (cutA B k c) (n - k) (c - k))) [bb] := Fr.set _ _ _ _
  have y1 : Cl (w.setCell ⟨bb, 0, none⟩ (.slice (cutA B k c) (n - k) (c - k))) bb #[.slice (cutA B k c) (n - k) (c - k)] 30 := by simpa using z1.set 0 (.slice (cutA B k c) (n - k) (c - k))
  have y2 := z2.off 0 (.slice (cutA B k c) (n - k) (c - k)) n1
  have y3 := z3.off 0 (.slice (cutA B k c) (n - k) (c - k)) n2
  have f2 : Fr (w.setCell ⟨bb, 0, none⟩ (.slice (cutA B k c) (n - k) (c - k))) ((w.setCell ⟨bb, 0, none⟩ (.slice (cutA B k c) (n - k) (c - k))).setCell ⟨wr, 0, none⟩ (.int .i64 e2)) [wr] := Fr.set _ _ _ _
  have fA : Fr w ((w.setCell ⟨bb, 0, none⟩ (.slice (cutA B k c) (n - k) (c - k))).setCell ⟨wr, 0, none⟩ (.int .i64 e2)) [bb, wr] := (f1.mono (fun b hb => .inl (by simp at hb; simp [hb]))).trans f2 (fun b hb => .inl (by simp at hb; simp [hb]))
  have hr2 := hr.cut hk (Nat.le_refl n) hc
  rw [List.take_of_length_le (by rw [hr.len]; omega)] at hr2
  refine ⟨⟨cutA B k c, n - k, c - k, y1.off 0 _ (fun h => n1 h.symm), ?_, y3.off 0 _ n3, hr2.fr fA (fun b hb hm => ?_), by omega, cutA_none hn (by omega), fun b hb => hg b (blk_cutS hb)⟩, fA, y2.cell 0, y2.thaw 0⟩
  · simpa using y2.set 0 (.int .i64 e2)
  · have h1 := hg b (blk_cutS hb)
    simp only [List.mem_cons, List.not_mem_nil, or_false] at hm
    rcases hm with h2 | h2 <;> omega
end
def RetTk (w : World) (gi bb wr c5 u : Nat) (rest : List UInt8) (e : Ending) (w' : World) : Prop := e = .returned (.int .u64 (u : Int)) ∧ HandT w' gi bb wr c5 0 rest ∧ Fr w w' [bb, wr]
theorem RetTk.out {w : World} {gi bb wr c5 u : Nat} {rest : List UInt8} {e : Ending} {w' : World} (h : RetTk w gi bb wr c5 u rest e w') : e = .returned (.int .u64 (u : Int)) ∧ HandT w' gi bb wr c5 0 rest ∧ Fr w w' [bb, wr] := h
section
variable {w : World} {gi bb wr c5 : Nat}
set_option maxRecDepth 100000 in
set_option maxHeartbeats 4000000 in
theorem take1_any (u : Nat) (r : List UInt8) (h : HandT w gi bb wr c5 0 (putU u ++ r)) (hu : u < B64) (hl : r.length ≤ 1073741824) (g1 : gi ≠ bb) (g2 : gi ≠ wr) : Calls Try.prog 71 #[.pointer (some ⟨wr, 0, none⟩), .pointer (some ⟨bb, 0, none⟩)] w (RetTk w gi bb wr c5 u r) := by
  obtain ⟨B, n, c, z1, z2, z3, hr, hc, hn, hg⟩ := h
  have hpl := putU_len64 u hu
  have hlen := hr.len
  rw [List.length_append] at hlen
  have hG := getU_at [] r u hu
  obtain ⟨k, hk⟩ : ∃ k, k = (putU u).length := ⟨_, rfl⟩
  simp only [List.nil_append, List.length_nil, Nat.zero_add] at hG
  rw [← hk] at hG hlen hpl
  have HGU : Hid (Calls Try.prog 72 #[.slice B n c, .int .i64 0] w (fun e w' => e = .returned (.tuple #[.int .u64 (u : Int), .int .i64 (k : Int), .int .i64 0]) ∧ w = w')) := Lib.hid (by
    refine (GetU_any B n c _ 0 w hr (by omega) hc).mono fun e w' hq => ?_
    obtain ⟨h1, h2⟩ := hq
    have hG2 : getU (putU u ++ r) 0 = (u, (k : Int), 0) := hG
    rw [hG2] at h1
    exact ⟨h1, h2⟩)
  have hsl : ∀ w, (Instr.slice 30 (.slice B n c) (some (.int .i64 (k : Int))) none none).run Try.prog w = .ok (.slice (cutA B k c) (n - k) (c - k)) w := cut_l Try.underlying30 elem_bytes size_u8 B (by omega)
  obtain ⟨a1, a2, a3, a4⟩ := HandT.go (e2 := 0) z1 z2 z3 hr hc hn hg (by omega : k ≤ n) g1 g2
  have hd : (putU u ++ r).drop k = r := by rw [hk, List.drop_left]
  rw [hd] at a1
  have HA := Lib.hid (And.intro a1 a2)
  have k1 : w.cell? ⟨bb, 0, none⟩ = some (.slice B n c) := z1.cell 0
  have k1t := z1.thaw 0
  have k2 : w.cell? ⟨wr, 0, none⟩ = some (.int .i64 0) := z2.cell 0
  obtain ⟨B2, hB2⟩ : ∃ B2, B2 = cutA B k c := ⟨_, rfl⟩
  obtain ⟨n2, hn2⟩ : ∃ n2, n2 = n - k := ⟨_, rfl⟩
  obtain ⟨c2, hc2⟩ : ∃ c2, c2 = c - k := ⟨_, rfl⟩
  rw [← hB2, ← hn2, ← hc2] at a3 a4 hsl HA
  clear z1 z2 z3 hr hc hn hg hG hk hd a1 a2 hB2 hn2 hc2 hlen
  go_enter Try.func71, Try.ntmps71
  go_wp2_with fail
  with_reducible refine HGU.out.mono ?_
  rintro e w2 ⟨rfl, rfl⟩
  go_wp2_with fail
  go_ret
  exact ⟨rfl, HA.out.1, HA.out.2⟩
end
end Go.Proofs.Ytgccbghaibddcaa
namespace Go.Proofs.Ytgccbghaibddcaa
open Go Go.RowKit
/-- A packet whose other fields are zero: its kind, To, Txn and Data. -/
def pkC (kd tn : Int) (s q : Nat) (D : Value) : Array Value := #[.int .i64 kd, .int .i64 0, .int .i64 tn, .int .i64 0, .int .i64 0, .int .i64 0, .int .i64 0, .int .u64 (s : Int), .int .u64 (q : Int), .int .i64 0,
  .int .i64 0, .int .i64 0, .int .i64 0, .int .u64 0, .int .u64 0, .int .u64 0, .int .u64 0, .slice none 0 0, .bool false, .slice none 0 0,
  .int .i64 0, .int .i64 0, .int .u64 0, .slice none 0 0, .bool false, .int .u64 0, .slice none 0 0, .slice none 0 0, D]
section
variable {w : World} {base o o1 c3 : Nat} {xs : List UInt8}
set_option maxRecDepth 100000 in
set_option maxHeartbeats 4000000 in
theorem txnP_any (h : HandP w base o o1 c3 xs) (hbase : base ≤ w.heap.size) (hbo : base ≤ o) (pb pi : Nat) (pvs : Array Value) (pt : TypeId) (hpc : Cl w pb pvs pt) (hpt : pt ≠ 5) (hpo : pb ≠ o) (s q : Nat) (h0 : pvs[pi]? = some (.int .u64 (s : Int))) (h1 : pvs[pi + 1]? = some (.int .u64 (q : Int))) (hs : s < B64) (hq : q < B64) (hl : xs.length ≤ 1000000000) :
    Calls Try.prog 58 #[.agg (handPA c3 o1), .pointer (some ⟨pb, pi, none⟩)] w (RetPu w base o o1 c3 (xs ++ putU s ++ putU q)) := by
  obtain ⟨W, hW⟩ : ∃ W, W = w.alloc (.cells (handPA c3 o1) 108) := ⟨_, rfl⟩
  obtain ⟨g, hg⟩ : ∃ g, g = w.heap.size := ⟨_, rfl⟩
  have bW : Below w.heap.size w W := by rw [hW]; exact (Below.refl _ _).alloc (Nat.le_refl _) _
  have bW1 : Below w.heap.size w W.drew := bW.drew
  have zW : Cl W g (handPA c3 o1) 108 := by rw [hW, hg]; exact Cl.new _ _ _
  have hgo : g ≠ o := by obtain ⟨A, n, c, z0, _⟩ := h; have := z0.lt; omega
  have hpl := putU_len64 s hs
  have k1 : W.drew.cell? ⟨g, 1, none⟩ = some (.func (.func 64) #[] #[.pointer (some ⟨c3, 0, none⟩)]) := zW.cell 1
  have hbW : base ≤ W.drew.heap.size := Nat.le_trans hbase bW1.size
  have HC : Hid (Calls Try.prog 64 #[.pointer (some ⟨pb, pi, none⟩), .pointer (some ⟨c3, 0, none⟩)] W.drew (RetPu W.drew base o o1 c3 (xs ++ putU s))) := Lib.hid (put3_any (h.below bW1) hbW hbo pb pi s (((hpc.below bW1).cell pi).trans h0) hs (by omega))
  have HD : Hid (Puts base o w W.drew) := Lib.hid (Puts.of_below bW1 hbase)
  have HZ : Hid (Cl W.drew g (handPA c3 o1) 108) := Lib.hid zW
  have HP : Hid (Cl W.drew pb pvs pt) := Lib.hid (hpc.below bW1)
  have H1 := Lib.hid h1
  have HW := Lib.hid hW
  have HG := Lib.hid hg
  clear h hpc h0 h1 hW hg bW bW1 zW
  unfold handPA at HW
  unfold handPA
  go_enter Try.func58, Try.ntmps58
  go_upto_region 1 with (fail)
  rw [← HW.out, ← HG.out]
  go_cut [9] from 4 to 9 (fun s9 wx => HandP wx base o o1 c3 (xs ++ putU s) ∧ Puts base o W.drew wx)
  case first =>
    go_region_law (first | (go_simp; go_at_call 64; with_reducible refine HC.out.mono ?_; intro e w2 hq2; obtain ⟨e1, e2, e3⟩ := hq2.out; subst e1))
    all_goals
      go_wp2_with fail
      go_meet
      exact ⟨e2, e3⟩
  obtain ⟨hH, hPt⟩ := hcut
  have zc := hPt.cl HZ.out (by decide) hgo
  have pc := hPt.cl HP.out hpt hpo
  have k1c : wc.drew.cell? ⟨g, 1, none⟩ = some (.func (.func 64) #[] #[.pointer (some ⟨c3, 0, none⟩)]) := zc.cell 1
  have hB1 : Below wc.heap.size wc wc.drew := (Below.refl _ _).drew
  have hbw : base ≤ wc.heap.size := Nat.le_trans hbW hPt.bel.size
  have HC2 : Hid (Calls Try.prog 64 #[.pointer (some ⟨pb, pi + 1, none⟩), .pointer (some ⟨c3, 0, none⟩)] wc.drew (RetPu wc.drew base o o1 c3 (xs ++ putU s ++ putU q))) := Lib.hid (put3_any (hH.below hB1) hbw hbo pb (pi + 1) q (((pc.below hB1).cell (pi + 1)).trans H1.out) hq (by rw [List.length_append]; omega))
  have HD2 : Hid (Puts base o w wc.drew) := Lib.hid ((HD.out.trans hPt).trans (Puts.of_below hB1 hbw))
  clear hH hPt zc pc HC k1
  go_upto_region 2 with (fail)
  go_region_law (first | (go_simp; go_at_call 64; with_reducible refine HC2.out.mono ?_; intro e w2 hq2; obtain ⟨e1, e2, e3⟩ := hq2.out; subst e1))
  all_goals
    go_end0
    exact ⟨rfl, e2, HD2.out.trans e3⟩
/-- A stage of the way. -/
def StP (base o o1 c3 g pb : Nat) (pvs : Array Value) (w0 : World) (ys : List UInt8) (wx : World) : Prop := HandP wx base o o1 c3 ys ∧ Puts base o w0 wx ∧ Cl wx g (handPA c3 o1) 108 ∧ Cl wx pb pvs 47 ∧ base ≤ wx.heap.size
theorem StP.step {g pb : Nat} {pvs : Array Value} {w0 wx wy : World} {ys zs : List UInt8} {e : Ending} (h : StP base o o1 c3 g pb pvs w0 ys wx) (hg : g ≠ o) (hp : pb ≠ o) (hr : RetPu wx.drew base o o1 c3 zs e wy) : e = .returned (.tuple #[]) ∧ StP base o o1 c3 g pb pvs w0 zs wy := by
  obtain ⟨h1, h2, h3, h4, h5⟩ := h
  obtain ⟨r1, r2, r3⟩ := hr
  exact ⟨r1, r2, h2.trans ((Puts.of_below (Below.refl _ _).drew h5).trans r3), r3.cl (show Cl wx.drew _ _ _ from h3) (by decide) hg, r3.cl (show Cl wx.drew _ _ _ from h4) (by decide) hp, Nat.le_trans h5 r3.bel.size⟩
theorem StP.cells {g pb : Nat} {pvs : Array Value} {w0 wx : World} {ys : List UInt8} (h : StP base o o1 c3 g pb pvs w0 ys wx) : (∀ i, wx.drew.cell? ⟨g, i, none⟩ = (handPA c3 o1)[i]?) ∧ (∀ i, wx.drew.cell? ⟨pb, i, none⟩ = pvs[i]?) ∧ (∀ i, wx.cell? ⟨g, i, none⟩ = (handPA c3 o1)[i]?) ∧ (∀ i, wx.cell? ⟨pb, i, none⟩ = pvs[i]?) := ⟨h.2.2.1.cell, h.2.2.2.1.cell, h.2.2.1.cell, h.2.2.2.1.cell⟩
set_option maxRecDepth 100000 in
set_option maxHeartbeats 8000000 in
theorem partsC_any (h : HandP w base o o1 c3 xs) (hbase : base ≤ w.heap.size) (hbo : base ≤ o) (pb : Nat) (tn : Int) (tu s q : Nat) (D : Option Addr) (dn dc : Nat) (ds : List UInt8) (hpc : Cl w pb (pkC 4 tn s q (.slice D dn dc)) 47) (hpo : pb ≠ o) (ht : IntKind.u64.wrap tn = (tu : Int)) (htu : tu < B64) (hs : s < B64) (hq : q < B64)
    (hrB : ∀ w', Below base w w' → Rd w' D dn ds) (hdn : dn ≤ 1073741824) (hl : xs.length ≤ 100000000) :
    Calls Try.prog 33 #[.pointer (some ⟨pb, 0, none⟩), .agg (handPA c3 o1)] w (RetPu w base o o1 c3 (xs ++ putU 4 ++ putU tu ++ putU s ++ putU q ++ putU dn ++ ds)) := by
  obtain ⟨W, hW⟩ : ∃ W, W = w.alloc (.cells (handPA c3 o1) 108) := ⟨_, rfl⟩
  obtain ⟨g, hg⟩ : ∃ g, g = w.heap.size := ⟨_, rfl⟩
  have bW : Below w.heap.size w W := by rw [hW]; exact (Below.refl _ _).alloc (Nat.le_refl _) _
  have zW : Cl W g (handPA c3 o1) 108 := by rw [hW, hg]; exact Cl.new _ _ _
  have hgo : g ≠ o := by obtain ⟨A, n, c, z0, _⟩ := h; have := z0.lt; omega
  have p1 := putU_len64 4 (by unfold B64; omega)
  have p2 := putU_len64 tu htu
  have p3 := putU_len64 s hs
  have p4 := putU_len64 q hq
  have S0 : Hid (StP base o o1 c3 g pb (pkC 4 tn s q (.slice D dn dc)) w xs W) := Lib.hid ⟨h.below bW, Puts.of_below bW hbase, zW, hpc.below bW, Nat.le_trans hbase bW.size⟩
  have HRB := Lib.hid hrB
  have HW := Lib.hid hW
  have HG := Lib.hid hg
  have k1 : W.drew.cell? ⟨g, 0, none⟩ = some (.func (.func 63) #[] #[.pointer (some ⟨c3, 0, none⟩)]) := S0.out.cells.1 0
  clear h hpc hW hg bW zW hrB
  unfold handPA at HW
  unfold handPA
  go_enter Try.func33, Try.ntmps33
  go_upto_region 1 with (fail)
  rw [← HW.out, ← HG.out]
  have HC : Hid (Calls Try.prog 63 #[.pointer (some ⟨pb, 0, none⟩), .pointer (some ⟨c3, 0, none⟩)] W.drew (RetPu W.drew base o o1 c3 (xs ++ putU 4))) := Lib.hid (put2_any (S0.out.1.below (Below.refl _ _).drew) S0.out.2.2.2.2 hbo pb 0 4 4 (S0.out.cells.2.1 0) (by decide) (by unfold B64; omega) (by omega))
  go_cut [9] from 4 to 9 (fun s9 wx => StP base o o1 c3 g pb (pkC 4 tn s q (.slice D dn dc)) w (xs ++ putU 4) wx)
  case first =>
    go_region_law (first | (go_simp; go_at_call 63; with_reducible refine HC.out.mono ?_; intro e w2 hq2; obtain ⟨e1, e2⟩ := S0.out.step hgo hpo hq2; subst e1))
    all_goals
      go_wp2_with fail
      go_meet
      exact e2
  have S1 := Lib.hid hcut
  have j0 : wc.cell? ⟨pb, 0, none⟩ = some (.int .i64 4) := S1.out.cells.2.2.2 0
  clear hcut HC k1
  go_upto_region 16 with (fail)
  have k1 : wc.drew.cell? ⟨g, 0, none⟩ = some (.func (.func 63) #[] #[.pointer (some ⟨c3, 0, none⟩)]) := S1.out.cells.1 0
  have HC : Hid (Calls Try.prog 63 #[.pointer (some ⟨pb, 2, none⟩), .pointer (some ⟨c3, 0, none⟩)] wc.drew (RetPu wc.drew base o o1 c3 (xs ++ putU 4 ++ putU tu))) := Lib.hid (put2_any (S1.out.1.below (Below.refl _ _).drew) S1.out.2.2.2.2 hbo pb 2 tn tu (S1.out.cells.2.1 2) ht htu (by rw [List.length_append]; omega))
  obtain ⟨w1, hw1⟩ : ∃ w1, w1 = wc := ⟨_, rfl⟩
  rw [← hw1] at S1 HC k1 j0 ⊢
  clear hw1
  go_cut [106] from 101 to 106 (fun s106 wx => StP base o o1 c3 g pb (pkC 4 tn s q (.slice D dn dc)) w (xs ++ putU 4 ++ putU tu) wx)
  case first =>
    go_region_law (first | (go_simp; go_at_call 63; with_reducible refine HC.out.mono ?_; intro e w2 hq2; obtain ⟨e1, e2⟩ := S1.out.step hgo hpo hq2; subst e1))
    all_goals
      go_wp2_with fail
      go_meet
      exact e2
  have S2 := Lib.hid hcut
  clear hcut HC k1 j0 S1
  have HF : Hid (∀ e w2, RetPu wc.drew base o o1 c3 (xs ++ putU 4 ++ putU tu ++ putU s ++ putU q) e w2 → e = .returned (.tuple #[]) ∧ StP base o o1 c3 g pb (pkC 4 tn s q (.slice D dn dc)) w (xs ++ putU 4 ++ putU tu ++ putU s ++ putU q) w2) := Lib.hid (fun e w2 hr => S2.out.step hgo hpo hr)
  have y0 : wc.drew.cell? ⟨g, 0, none⟩ = some (.func (.func 63) #[] #[.pointer (some ⟨c3, 0, none⟩)]) := S2.out.cells.1 0
  have y1 : wc.drew.cell? ⟨g, 1, none⟩ = some (.func (.func 64) #[] #[.pointer (some ⟨c3, 0, none⟩)]) := S2.out.cells.1 1
  have y2 : wc.drew.cell? ⟨g, 2, none⟩ = some (.func (.func 65) #[] #[.pointer (some ⟨c3, 0, none⟩)]) := S2.out.cells.1 2
  have y3 : wc.drew.cell? ⟨g, 3, none⟩ = some (.func (.func 66) #[] #[.pointer (some ⟨c3, 0, none⟩), .pointer (some ⟨o1, 0, none⟩)]) := S2.out.cells.1 3
  have y4 : wc.drew.cell? ⟨g, 4, none⟩ = some (.func (.func 67) #[] #[.pointer (some ⟨o1, 0, none⟩)]) := S2.out.cells.1 4
  have HT : Hid (Calls Try.prog 58 #[.agg (handPA c3 o1), .pointer (some ⟨pb, 7, none⟩)] wc.drew (RetPu wc.drew base o o1 c3 (xs ++ putU 4 ++ putU tu ++ putU s ++ putU q))) := Lib.hid (txnP_any (S2.out.1.below (Below.refl _ _).drew) S2.out.2.2.2.2 hbo pb 7 (pkC 4 tn s q (.slice D dn dc)) 47 S2.out.2.2.2.1 (by decide) hpo s q rfl rfl hs hq (by simp only [List.length_append]; omega))
  unfold handPA at HT
  obtain ⟨w3, hw3⟩ : ∃ w3, w3 = wc := ⟨_, rfl⟩
  rw [← hw3] at S2 HT HF y0 y1 y2 y3 y4 ⊢
  clear hw3
  go_upto_region 17 with (fail)
  go_cut [111] from 107 to 111 (fun s111 wx => StP base o o1 c3 g pb (pkC 4 tn s q (.slice D dn dc)) w (xs ++ putU 4 ++ putU tu ++ putU s ++ putU q) wx)
  case first =>
    go_region_law (first | (go_simp; go_at_call 58; with_reducible refine HT.out.mono ?_; intro e w2 hq2; obtain ⟨e1, e2⟩ := HF.out _ _ hq2; subst e1))
    all_goals
      go_wp2_with fail
      go_meet
      exact e2
  have S3 := Lib.hid hcut
  clear hcut HT HF y0 y1 y2 y3 y4 S2
  have k3 : wc.drew.cell? ⟨g, 3, none⟩ = some (.func (.func 66) #[] #[.pointer (some ⟨c3, 0, none⟩), .pointer (some ⟨o1, 0, none⟩)]) := S3.out.cells.1 3
  have HB : Hid (Below base w wc.drew) := Lib.hid (S3.out.2.1.bel.trans ((Below.refl wc.heap.size wc).drew.mono S3.out.2.2.2.2))
  have HC : Hid (Calls Try.prog 66 #[.pointer (some ⟨pb, 28, none⟩), .pointer (some ⟨c3, 0, none⟩), .pointer (some ⟨o1, 0, none⟩)] wc.drew (RetPu wc.drew base o o1 c3 (xs ++ putU 4 ++ putU tu ++ putU s ++ putU q ++ putU dn ++ ds))) := Lib.hid (put5_any (S3.out.1.below (Below.refl _ _).drew) S3.out.2.2.2.2 hbo pb 28 (pkC 4 tn s q (.slice D dn dc)) 47 S3.out.2.2.2.1 (by decide) hpo D dn dc ds rfl (fun w' hb => HRB.out w' (HB.out.trans hb)) hdn (by simp only [List.length_append]; omega))
  have HF : Hid (∀ e w2, RetPu wc.drew base o o1 c3 (xs ++ putU 4 ++ putU tu ++ putU s ++ putU q ++ putU dn ++ ds) e w2 → e = .returned (.tuple #[]) ∧ RetPu w base o o1 c3 (xs ++ putU 4 ++ putU tu ++ putU s ++ putU q ++ putU dn ++ ds) (.returned (.tuple #[])) w2) := Lib.hid (fun e w2 hr => by
    obtain ⟨e1, e2⟩ := S3.out.step hgo hpo hr
    exact ⟨e1, rfl, e2.1, e2.2.1⟩)
  obtain ⟨w4, hw4⟩ : ∃ w4, w4 = wc := ⟨_, rfl⟩
  rw [← hw4] at S3 HC HF k3 HB ⊢
  clear hw4
  obtain ⟨zs, hzs⟩ : ∃ zs, zs = xs ++ putU 4 ++ putU tu ++ putU s ++ putU q ++ putU dn ++ ds := ⟨_, rfl⟩
  have HZS := Lib.hid hzs
  rw [← hzs] at HC HF
  clear hzs
  go_upto_region 18 with (fail)
  go_region_law (first | (go_simp; go_at_call 66; with_reducible refine HC.out.mono ?_; intro e w2 hq2; obtain ⟨e1, e2⟩ := HF.out _ _ hq2; subst e1))
  all_goals
    go_wp2_with fail
    go_end0
    rw [← HZS.out]
    exact e2
end
end Go.Proofs.Ytgccbghaibddcaa
namespace Go.Proofs.Ytgccbghaibddcaa
open Go Go.RowKit
def RetTf (w : World) (gi bb wr c5 pb : Nat) (pvs : Array Value) (r : List UInt8) (e : Ending) (w' : World) : Prop := e = .returned (.tuple #[]) ∧ HandT w' gi bb wr c5 0 r ∧ Cl w' pb pvs 47 ∧ Fr w w' [bb, wr, pb]
theorem RetTf.out {w : World} {gi bb wr c5 pb : Nat} {pvs : Array Value} {r : List UInt8} {e : Ending} {w' : World} (h : RetTf w gi bb wr c5 pb pvs r e w') : e = .returned (.tuple #[]) ∧ HandT w' gi bb wr c5 0 r ∧ Cl w' pb pvs 47 ∧ Fr w w' [bb, wr, pb] := h
section
variable {w : World} {gi bb wr c5 pb : Nat} {pvs : Array Value}
theorem HandT.ne {rest : List UInt8} (h : HandT w gi bb wr c5 0 rest) (hpc : Cl w pb pvs 47) : pb ≠ bb ∧ pb ≠ wr ∧ pb ≠ c5 := by
  obtain ⟨B, n, c, z1, z2, z3, _⟩ := h
  exact ⟨cl_cl hpc z1 (by decide), cl_cl hpc z2 (by decide), cl_cl hpc z3 (by decide)⟩
/-- What is stored behind a take. -/
theorem tf_store {w2 : World} {r : List UInt8} {pi : Nat} {v : Value} (hT : HandT w2 gi bb wr c5 0 r) (hf : Fr w w2 [bb, wr]) (hpc : Cl w2 pb pvs 47) (hg : gi ≠ pb) : RetTf w gi bb wr c5 pb (pvs.setIfInBounds pi v) r (.returned (.tuple #[])) (w2.setCell ⟨pb, pi, none⟩ v) := by
  obtain ⟨n1, n2, n3⟩ := hT.ne hpc
  have f2 : Fr w2 (w2.setCell ⟨pb, pi, none⟩ v) [pb] := Fr.set _ _ _ _
  refine ⟨rfl, hT.fr f2 (by simpa using n1.symm) (by simpa using n2.symm) (by simpa using n3.symm) (by simpa using hg), hpc.set pi v, ?_⟩
  exact (hf.mono (fun b hb => .inl (by simp at hb; rcases hb with h | h <;> simp [h]))).trans f2 (fun b hb => .inl (by simp at hb; simp [hb]))
set_option maxRecDepth 100000 in
set_option maxHeartbeats 4000000 in
theorem take2_any (pi u : Nat) (v : Int) (r : List UInt8) (h : HandT w gi bb wr c5 0 (putU u ++ r)) (hu : u < B64) (hl : r.length ≤ 1073741824) (hpc : Cl w pb pvs 47) (hpi : pi < pvs.size) (hv : IntKind.i64.wrap (u : Int) = v) (g1 : gi ≠ bb) (g2 : gi ≠ wr) (g3 : gi ≠ pb) :
    Calls Try.prog 73 #[.pointer (some ⟨pb, pi, none⟩), .pointer (some ⟨c5, 0, none⟩)] w (RetTf w gi bb wr c5 pb (pvs.setIfInBounds pi (.int .i64 v)) r) := by
  have HT := Lib.hid (take1_any u r h hu hl g1 g2)
  have k5 := h.k5
  obtain ⟨n1, n2, n3⟩ := h.ne hpc
  have HP : Hid (∀ w2, Fr w w2 [bb, wr] → Cl w2 pb pvs 47) := Lib.hid (fun w2 hf => (hf.block _ hpc.lt (by simp; omega)).trans hpc)
  obtain ⟨old, hold⟩ : ∃ old, pvs[pi]? = some old := ⟨_, Array.getElem?_eq_getElem hpi⟩
  have HO := Lib.hid hold
  clear h hpc hpi hold
  go_enter Try.func73, Try.ntmps73
  go_wp2_with fail
  with_reducible refine HT.out.mono ?_
  intro e w2 hq
  obtain ⟨h1, hT, hf⟩ := hq.out
  subst h1
  have hp2 := HP.out w2 hf
  have c0 : w2.cell? ⟨pb, pi, none⟩ = some old := (hp2.cell pi).trans HO.out
  have c1 := hp2.thaw pi
  have HF := Lib.hid (tf_store (pi := pi) (v := .int .i64 v) hT hf hp2 g3)
  clear hq hT hf hp2
  go_wp2_with fail
  go_end0
  exact HF.out
set_option maxRecDepth 100000 in
set_option maxHeartbeats 4000000 in
theorem take3_any (pi u : Nat) (r : List UInt8) (h : HandT w gi bb wr c5 0 (putU u ++ r)) (hu : u < B64) (hl : r.length ≤ 1073741824) (hpc : Cl w pb pvs 47) (hpi : pi < pvs.size) (g1 : gi ≠ bb) (g2 : gi ≠ wr) (g3 : gi ≠ pb) :
    Calls Try.prog 74 #[.pointer (some ⟨pb, pi, none⟩), .pointer (some ⟨c5, 0, none⟩)] w (RetTf w gi bb wr c5 pb (pvs.setIfInBounds pi (.int .u64 (u : Int))) r) := by
  have HT := Lib.hid (take1_any u r h hu hl g1 g2)
  have k5 := h.k5
  obtain ⟨n1, n2, n3⟩ := h.ne hpc
  have HP : Hid (∀ w2, Fr w w2 [bb, wr] → Cl w2 pb pvs 47) := Lib.hid (fun w2 hf => (hf.block _ hpc.lt (by simp; omega)).trans hpc)
  obtain ⟨old, hold⟩ : ∃ old, pvs[pi]? = some old := ⟨_, Array.getElem?_eq_getElem hpi⟩
  have HO := Lib.hid hold
  clear h hpc hpi hold
  go_enter Try.func74, Try.ntmps74
  go_wp2_with fail
  with_reducible refine HT.out.mono ?_
  intro e w2 hq
  obtain ⟨h1, hT, hf⟩ := hq.out
  subst h1
  have hp2 := HP.out w2 hf
  have c0 : w2.cell? ⟨pb, pi, none⟩ = some old := (hp2.cell pi).trans HO.out
  have c1 := hp2.thaw pi
  have HF := Lib.hid (tf_store (pi := pi) (v := .int .u64 (u : Int)) hT hf hp2 g3)
  clear hq hT hf hp2
  go_wp2_with fail
  go_end0
  exact HF.out
/-- Bytes, the last of all: they are memory of the hand's own. -/
def RetTb (w : World) (gi bb wr c5 pb : Nat) (pvs : Array Value) (pi : Nat) (ds : List UInt8) (e : Ending) (w' : World) : Prop := e = .returned (.tuple #[]) ∧ ∃ D dn dc, Own 5 w' w.heap.size D dn dc ds ∧ HandT w' gi bb wr c5 0 [] ∧ Cl w' pb (pvs.setIfInBounds pi (.slice D dn dc)) 47 ∧ Fr w w' [bb, wr, pb]
theorem RetTb.out {w : World} {gi bb wr c5 pb : Nat} {pvs : Array Value} {pi : Nat} {ds : List UInt8} {e : Ending} {w' : World} (h : RetTb w gi bb wr c5 pb pvs pi ds e w') : e = .returned (.tuple #[]) ∧ ∃ D dn dc, Own 5 w' w.heap.size D dn dc ds ∧ HandT w' gi bb wr c5 0 [] ∧ Cl w' pb (pvs.setIfInBounds pi (.slice D dn dc)) 47 ∧ Fr w w' [bb, wr, pb] := h
set_option maxRecDepth 100000 in
set_option maxHeartbeats 4000000 in
theorem take5_any (pi : Nat) (ds : List UInt8) (h : HandT w gi bb wr c5 0 (putU ds.length ++ ds)) (hl : ds.length ≤ 1048576) (hpc : Cl w pb pvs 47) (hpi : pi < pvs.size) (g1 : gi ≠ bb) (g2 : gi ≠ wr) (g3 : gi ≠ pb) :
    Calls Try.prog 76 #[.pointer (some ⟨pb, pi, none⟩), .pointer (some ⟨c5, 0, none⟩), .pointer (some ⟨bb, 0, none⟩), .pointer (some ⟨wr, 0, none⟩)] w (RetTb w gi bb wr c5 pb pvs pi ds) := by
  have HT := Lib.hid (take1_any ds.length ds h (by unfold B64; omega) (by omega) g1 g2)
  have k5 := h.k5
  obtain ⟨n1, n2', n3⟩ := h.ne hpc
  have HP : Hid (∀ w2, Fr w w2 [bb, wr] → Cl w2 pb pvs 47) := Lib.hid (fun w2 hf => (hf.block _ hpc.lt (by simp; omega)).trans hpc)
  obtain ⟨old, hold⟩ : ∃ old, pvs[pi]? = some old := ⟨_, Array.getElem?_eq_getElem hpi⟩
  have HO := Lib.hid hold
  obtain ⟨m, hm⟩ : ∃ m, m = ds.length := ⟨_, rfl⟩
  have HM := Lib.hid hm
  rw [← hm] at HT hl
  clear h hpc hpi hold hm
  go_enter Try.func76, Try.ntmps76
  go_wp2_with fail
  with_reducible refine HT.out.mono ?_
  intro e w2 hq
  obtain ⟨h1, hT, hf⟩ := hq.out
  subst h1
  obtain ⟨B, n, c, z1, z2, z3, hr, hc, hn, hg⟩ := hT
  obtain rfl : n = m := by rw [HM.out]; exact hr.len.symm
  have hp2 := HP.out w2 hf
  have hlw : w.heap.size ≤ w2.heap.size := hf.size
  have k1 : w2.cell? ⟨bb, 0, none⟩ = some (.slice B n c) := z1.cell 0
  have hw1 : IntKind.u64.wrap (n : Int) = (n : Int) := by rw [IntKind.wrap_u64]; omega
  have t1 : decide ((n : Int) < (n : Int)) = false := by simp
  have hsl : ∀ w, (Instr.slice 30 (.slice B n c) none (some (.int .u64 (n : Int))) none).run Try.prog w = .ok (.slice B n c) w := cut_hS Try.underlying30 elem_bytes size_u8 B hc
  obtain ⟨B2, hB2⟩ : ∃ B2, B2 = cutA B n c := ⟨_, rfl⟩
  obtain ⟨n2, hn2⟩ : ∃ n2, n2 = n - n := ⟨_, rfl⟩
  obtain ⟨c2, hc2⟩ : ∃ c2, c2 = c - n := ⟨_, rfl⟩
  have hsl2 : ∀ w, (Instr.slice 30 (.slice B n c) (some (.int .u64 (n : Int))) none none).run Try.prog w = .ok (.slice B2 n2 c2) w := by
    rw [hB2, hn2, hc2]
    exact cut_lS Try.underlying30 elem_bytes size_u8 B (Nat.le_refl n)
  have HG : Hid (∀ w3 D dc, Own 5 w3 w2.heap.size D n dc ds → Below w2.heap.size w2 w3 → w3.cell? ⟨pb, pi, none⟩ = some old ∧ w3.frozen? ⟨pb, pi, none⟩ = false ∧ (w3.setCell ⟨pb, pi, none⟩ (.slice D n dc)).cell? ⟨bb, 0, none⟩ = some (.slice B n c) ∧ (w3.setCell ⟨pb, pi, none⟩ (.slice D n dc)).frozen? ⟨bb, 0, none⟩ = false ∧
      RetTb w gi bb wr c5 pb pvs pi ds (.returned (.tuple #[])) ((w3.setCell ⟨pb, pi, none⟩ (.slice D n dc)).setCell ⟨bb, 0, none⟩ (.slice B2 n2 c2))) := Lib.hid (fun w3 D dc oD b3 => by
    have P3 := hp2.below b3
    have y1 := (z1.below b3).off pi (.slice D n dc) n1
    have y2 := (z2.below b3).off pi (.slice D n dc) n2'
    have y3 := (z3.below b3).off pi (.slice D n dc) n3
    have m1 : bb ≠ wr := cl_cl z1 z2 (by decide)
    have m2 : bb ≠ c5 := cl_cl z1 z3 (by decide)
    have f3 : Fr w3 (w3.setCell ⟨pb, pi, none⟩ (.slice D n dc)) [pb] := Fr.set _ _ _ _
    have f4 : Fr (w3.setCell ⟨pb, pi, none⟩ (.slice D n dc)) ((w3.setCell ⟨pb, pi, none⟩ (.slice D n dc)).setCell ⟨bb, 0, none⟩ (.slice B2 n2 c2)) [bb] := Fr.set _ _ _ _
    have fA : Fr w ((w3.setCell ⟨pb, pi, none⟩ (.slice D n dc)).setCell ⟨bb, 0, none⟩ (.slice B2 n2 c2)) [bb, wr, pb] :=
      (((hf.mono (fun b hb => .inl (by simp at hb; rcases hb with h | h <;> simp [h]))).trans (Fr.of_below b3 [bb, wr, pb]) (fun b hb => .inl hb)).trans f3 (fun b hb => .inl (by simp at hb; simp [hb]))).trans f4 (fun b hb => .inl (by simp at hb; simp [hb]))
    refine ⟨(P3.cell pi).trans HO.out, P3.thaw pi, y1.cell 0, y1.thaw 0, rfl, D, n, dc, ?_, ⟨B2, n2, c2, ?_, y2.off 0 _ m1, y3.off 0 _ m2, ?_, by omega, ?_, ?_⟩, (P3.set pi _).off 0 _ n1.symm, fA⟩
    · have o1 : Own 5 w3 w.heap.size D n dc ds := oD.mono hlw
      have o2 := o1.fr f3 (fun b hb hm => by
        rw [List.mem_singleton] at hm
        subst hm
        exact cl_row P3 o1 (by decide) hb)
      exact o2.fr f4 (fun b hb hm => by
        rw [List.mem_singleton] at hm
        subst hm
        exact cl_row y1 o2 (by decide) hb)
    · simpa using y1.set 0 (.slice B2 n2 c2)
    · have : n2 = 0 := by omega
      rw [this]
      exact Rd.nil _ _
    · rw [hB2, hc2]
      exact cutA_none hn (by omega)
    · intro b hb
      rw [hB2] at hb
      exact hg b (blk_cutS hb))
  have HR := Lib.hid hr
  clear hq z1 z2 z3 hr hc hn hg hf hp2 hB2 hn2 hc2 hlw
  go_wp2_with (at_builtin; refine wpList_app _ rfl _ _ 30 rfl w2.heap.size 5 Try.underlying30 info_u8 none 0 0 [] rfl (Own.nil _ _ _) B n c ds rfl HR.out ?_ ?_ ?_)
  · omega
  · exact Nat.le_refl _
  intro D dc w3 oD b3
  obtain ⟨c0, c1, d0, d1, hfin⟩ := HG.out w3 D dc oD b3
  have HF := Lib.hid hfin
  clear oD b3 hfin HG HR
  go_wp2_with fail
  go_end0
  exact HF.out
end
end Go.Proofs.Ytgccbghaibddcaa
namespace Go.Proofs.Ytgccbghaibddcaa
open Go Go.RowKit
set_option maxRecDepth 100000 in
set_option maxHeartbeats 4000000 in
/-- A writer's number. -/
theorem wnum_any {w : World} {p base : Nat} {A : Option Addr} {n c : Nat} {xs : List UInt8} (z : Cl w p #[.slice A n c] 139) (hO : Own 5 w base A n c xs) (hbase : base ≤ w.heap.size) (hbp : base ≤ p) (v : Int) (u : Nat) (hu : IntKind.u64.wrap v = (u : Int)) (hub : u < B64) (hl : xs.length ≤ 1073741824) :
    Calls Try.prog 46 #[.pointer (some ⟨p, 0, none⟩), .int .i64 v] w (fun e w' => e = .returned (.tuple #[]) ∧ ∃ A2 n2 c2, Cl w' p #[.slice A2 n2 c2] 139 ∧ Own 5 w' base A2 n2 c2 (xs ++ putU u) ∧ Puts base p w w') := by
  have hnl : n ≤ 1073741824 := by rw [← hO.len]; exact hl
  have hpl := putU_len64 u hub
  have hB1 : Below w.heap.size w w.drew := (Below.refl _ _).drew
  have HPU : Hid (∀ wx, Calls Try.prog 62 #[.int .u64 (u : Int)] wx (Made wx.heap.size wx (putU u))) := Lib.hid (fun wx => PutU_any u wx hub)
  have HW : Hid (∀ wx, Below w.heap.size w wx → wx.cell? ⟨p, 0, none⟩ = some (.slice A n c) ∧ Own 5 wx base A n c xs ∧ base ≤ wx.heap.size) := Lib.hid (fun wx hb => ⟨(z.below hb).cell 0, hO.below hb, Nat.le_trans hbase hb.size⟩)
  have HG : Hid (∀ wx w3 L n2 c2 ys, Below w.heap.size w wx → Own 5 w3 base L n2 c2 ys → wx.grownBy w3 (blk A) → Cl w3 p #[.slice A n c] 139 ∧ Cl (w3.setCell ⟨p, 0, none⟩ (.slice L n2 c2)) p #[.slice L n2 c2] 139 ∧ Own 5 (w3.setCell ⟨p, 0, none⟩ (.slice L n2 c2)) base L n2 c2 ys ∧ Puts base p w (w3.setCell ⟨p, 0, none⟩ (.slice L n2 c2))) := Lib.hid (fun wx w3 L n2 c2 ys hb h3 hg => by
    have e0 := (z.below hb).grown hg (cl_row (z.below hb) (hO.below hb) (by decide))
    have f : Fr w3 (w3.setCell ⟨p, 0, none⟩ (.slice L n2 c2)) [p] := Fr.set _ _ _ _
    have b1 : Below base w w3 := (hb.mono hbase).grown hg (Nat.le_trans hbase hb.size) (fun k hk => (hO.lt k hk).1)
    have b2 : Below base w3 (w3.setCell ⟨p, 0, none⟩ (.slice L n2 c2)) := f.below (fun b hb => by rw [List.mem_singleton] at hb; omega) (Nat.le_trans hbase b1.size)
    refine ⟨e0, by simpa using e0.set 0 (.slice L n2 c2), h3.fr f (fun b hb hm => ?_), b1.trans b2, fun g vs t k3 k4 k5 => ?_⟩
    · rw [List.mem_singleton] at hm
      subst hm
      exact cl_row e0 h3 (by decide) hb
    · exact ((k3.below hb).grown hg (cl_row (k3.below hb) (hO.below hb) k4)).off 0 _ (fun e => k5 e.symm))
  have q0 := (HW.out _ hB1).1
  clear z hO hl
  go_enter Try.func46, Try.ntmps46
  go_region_law (first
    | (go_simp; go_at_call 62; with_reducible refine (HPU.out _).mono ?_; intro e w2 hq; obtain ⟨C, cn, cc, h1, oC, b2⟩ := Made.outS hq; subst h1; have hb2 := belowT' hB1 b2; obtain ⟨p0, hO2, hs2⟩ := HW.out w2 hb2; have hcn := oC.len)
    | (refine step_appW _ rfl _ _ 30 rfl base 5 (.int .u8 0) 1 Try.underlying30 info_u8 rfl A n c (xs.map cv) (by simp [Act.eval]) hO2 C cn cc ((putU u).map cv) (by simp [Act.eval]) oC.rd.vS (by intro u hu; obtain ⟨x, _, rfl⟩ := List.mem_map.1 hu; rfl) (by unfold maxLen; omega) (by omega) hs2 ?_; intro L c5 w3 hO3 hg3; have hO4 : Own 5 w3 base L (n + cn) c5 (xs ++ putU u) := (by unfold Own; rw [List.map_append]; exact hO3); obtain ⟨t0, tA, tB, tP⟩ := HG.out w2 w3 L (n + cn) c5 _ hb2 hO4 hg3; have s0 := t0.cell 0; have s1 := t0.thaw 0))
  all_goals
    go_end0
    exact ⟨rfl, L, n + cn, c5, tA, tB, tP⟩
set_option maxRecDepth 100000 in
set_option maxHeartbeats 4000000 in
theorem encNil_any (w : World) : Calls Try.prog 18 #[.slice none 0 0] w (Made w.heap.size w (putU 0)) := by
  obtain ⟨U, hU⟩ : ∃ U, U = w.alloc (.cells #[.slice none 0 0] 139) := ⟨_, rfl⟩
  obtain ⟨p, hp⟩ : ∃ p, p = w.heap.size := ⟨_, rfl⟩
  have bU : Below w.heap.size w U := by rw [hU]; exact (Below.refl _ _).alloc (Nat.le_refl _) _
  have zU : Cl U p #[.slice none 0 0] 139 := by rw [hU, hp]; exact Cl.new _ _ _
  have HN : Hid (∀ f, Calls Try.prog 43 #[.pointer (some ⟨p, 0, none⟩), .slice none 0 0, f] U (fun e w' => e = .returned (.tuple #[]) ∧ ∃ A2 n2 c2, Cl w' p #[.slice A2 n2 c2] 139 ∧ Own 5 w' p A2 n2 c2 (putU 0) ∧ Puts p p U w')) := Lib.hid (fun f => by
    have HW := Lib.hid (wnum_any (base := p) (xs := []) zU (Own.nil _ _ _) (by have := zU.lt; omega) (Nat.le_refl p) 0 0 (by decide) (by unfold B64; omega) (Nat.zero_le _))
    clear hU hp bU zU
    go_enter Try.func43, Try.ntmps43
    go_wp2_with fail
    with_reducible refine HW.out.mono ?_
    rintro e w2 ⟨rfl, h2⟩
    have H2 := Lib.hid h2
    clear h2 HW
    go_wp2_with fail
    go_loopw [14] (fun s14 wr => s14 = .int .i64 0 ∧ wr = w2) (fun _ _ => 0)
    case atStart => exact ⟨rfl, rfl⟩
    case round =>
      obtain ⟨rfl, rfl⟩ := hrel
      go_wp2_with fail
      go_end0
      exact ⟨rfl, by simpa using H2.out⟩)
  have HU := Lib.hid hU
  have HP := Lib.hid hp
  have BU := Lib.hid bU
  clear hU hp bU zU
  go_enter Try.func18, Try.ntmps18
  go_wp2_with fail
  rw [← HU.out, ← HP.out]
  with_reducible refine (HN.out _).mono ?_
  rintro e w2 ⟨rfl, A, n, c, z2, o2, p2⟩
  have k0 : w2.cell? ⟨p, 0, none⟩ = some (.slice A n c) := z2.cell 0
  have HF : Hid (Made w.heap.size w (putU 0) (.returned (.slice A n c)) w2) := Lib.hid (by
    have h1 := HP.out
    have h2 := p2.bel
    rw [h1] at h2 o2
    exact ⟨A, n, c, rfl, o2, BU.out.trans h2⟩)
  clear z2 o2 p2 HN
  go_wp2_with fail
  go_ret
  exact HF.out
end Go.Proofs.Ytgccbghaibddcaa
namespace Go.Proofs.Ytgccbghaibddcaa
open Go Go.RowKit
set_option maxRecDepth 100000 in
theorem isKind_any (k : Int) (w : World) : Calls Try.prog 32 #[.int .i64 k] w (fun e w' => e = .returned (.bool (decide (1 ≤ k) && decide (k ≤ 5))) ∧ w' = w) := by
  obtain ⟨z, hz⟩ : ∃ z, z = (decide (1 ≤ k) && decide (k ≤ 5)) := ⟨_, rfl⟩
  rw [← hz]
  by_cases h1 : 1 ≤ k
  · by_cases h2 : k ≤ 5
    · rw [decide_eq_true h1, decide_eq_true h2] at hz
      subst hz
      go_enter Try.func32, Try.ntmps32
      go_wp2_with fail
      go_ret
      exact ⟨rfl, rfl⟩
    · rw [decide_eq_true h1, decide_eq_false h2] at hz
      subst hz
      go_enter Try.func32, Try.ntmps32
      go_wp2_with fail
      go_ret
      exact ⟨rfl, rfl⟩
  · rw [decide_eq_false h1] at hz
    subst hz
    go_enter Try.func32, Try.ntmps32
    go_wp2_with fail
    go_ret
    exact ⟨rfl, rfl⟩
/-- What is in a Call. -/
def inC (tu s q : Nat) (ds : List UInt8) : List UInt8 := [] ++ putU 4 ++ putU tu ++ putU s ++ putU q ++ putU ds.length ++ ds
theorem inC_len (tu s q : Nat) (ds : List UInt8) (h1 : tu < B64) (h2 : s < B64) (h3 : q < B64) (h4 : ds.length ≤ 1048576) : (inC tu s q ds).length ≤ 50 + ds.length := by
  have p1 := putU_len64 4 (by unfold B64; omega)
  have p2 := putU_len64 tu h1
  have p3 := putU_len64 s h2
  have p4 := putU_len64 q h3
  have p5 := putU_len64 ds.length (by unfold B64; omega)
  unfold inC
  simp only [List.length_append, List.length_nil]
  omega
set_option maxRecDepth 100000 in
set_option maxHeartbeats 8000000 in
theorem bytesC_any {w : World} (tn : Int) (tu s q : Nat) (D : Option Addr) (dn dc : Nat) (ds : List UInt8) (hr : Rd w D dn ds) (ht : IntKind.u64.wrap tn = (tu : Int)) (htu : tu < B64) (hs : s < B64) (hq : q < B64) (hdn : dn ≤ 1048576) :
    Calls Try.prog 9 #[.agg (pkC 4 tn s q (.slice D dn dc))] w (RetSE w.heap.size w (sealG (inC tu s q ds))) := by
  obtain ⟨U, hU⟩ : ∃ U, U = (w.alloc (.cells (pkC 4 tn s q (.slice D dn dc)) 47)).alloc (.cells #[.slice none 0 0] 30) := ⟨_, rfl⟩
  obtain ⟨b, hb⟩ : ∃ b, b = w.heap.size := ⟨_, rfl⟩
  have bU : Below b w U := by rw [hU, hb]; exact ((Below.refl _ _).alloc (Nat.le_refl _) _).alloc (by simp) _
  have zP : Cl U b (pkC 4 tn s q (.slice D dn dc)) 47 := by rw [hU, hb]; exact (Cl.new _ _ _).alloc _
  have zO : Cl U (b + 1) #[.slice none 0 0] 30 := by rw [hU, hb]; exact Cl.newg _ _ _ _ (by simp)
  have sU : U.heap.size = b + 2 := by rw [hU, hb]; simp
  have HPU : Hid (Calls Try.prog 34 #[.pointer (some ⟨b + 1, 0, none⟩)] U (fun e w' => ∃ o1 c3, e = .returned (.agg (handPA c3 o1)) ∧ HandP w' b (b + 1) o1 c3 [] ∧ Below U.heap.size U w' ∧ U.heap.size ≤ o1 ∧ U.heap.size ≤ c3)) := Lib.hid (putting_any zO (Own.nil _ _ _))
  have HK : Hid (∀ wx, Calls Try.prog 32 #[.int .i64 4] wx (fun e w' => e = .returned (.bool true) ∧ w' = wx)) := Lib.hid (fun wx => isKind_any 4 wx)
  have HR : Hid (∀ wx, Below b w wx → Rd wx D dn ds) := Lib.hid (fun wx hx => by rw [hb] at hx; exact hr.below hx)
  have HL := Lib.hid hr.len
  have HU := Lib.hid hU
  have HB := Lib.hid hb
  have HBU := Lib.hid bU
  have ZP := Lib.hid zP
  have SU := Lib.hid sU
  have hdn2 : dn ≤ 1073741824 := by omega
  clear hr hU hb bU zP zO sU
  unfold pkC at HU
  unfold pkC
  go_enter Try.func9, Try.ntmps9
  go_wp2_with fail
  with_reducible refine (HK.out _).mono ?_
  rintro e w2 ⟨rfl, rfl⟩
  go_wp2_with fail
  rw [← HU.out, ← HB.out]
  with_reducible refine HPU.out.mono ?_
  rintro e w3 ⟨o1, c3, rfl, hH, b3, ho1, hc3⟩
  have hbw3 : b ≤ w3.heap.size := by have := b3.size; have := SU.out; omega
  have HBW := Lib.hid ((HBU.out).trans (b3.mono (by have := SU.out; omega)))
  have HPT : Hid (Calls Try.prog 33 #[.pointer (some ⟨b, 0, none⟩), .agg (handPA c3 o1)] w3 (RetPu w3 b (b + 1) o1 c3 (inC tu s q ds))) := Lib.hid (by
    have := partsC_any hH hbw3 (by omega) b tn tu s q D dn dc ds (ZP.out.below b3) (by omega) ht htu hs hq (fun w' hw => HR.out w' (HBW.out.trans hw)) hdn2 (by simp)
    unfold inC
    rw [HL.out]
    exact this)
  clear hH b3 ho1 hc3 HPU
  go_wp2_with fail
  with_reducible refine HPT.out.mono ?_
  intro e w4 hq4
  obtain ⟨e1, hH, hPt⟩ := hq4.out
  subst e1
  obtain ⟨A, n, c, z0, _, _, hO⟩ := hH
  have hlen := hO.len
  have hil := inC_len tu s q ds htu hs hq (by rw [HL.out]; exact hdn)
  have hll := HL.out
  obtain ⟨X, hX⟩ : ∃ X, X = w4.alloc (.cells #[.slice A n c] 30) := ⟨_, rfl⟩
  have bX : Below w4.heap.size w4 X := by rw [hX]; exact (Below.refl _ _).alloc (Nat.le_refl _) _
  have hOX := hO.below bX
  have hRX : RdL X (some ⟨w4.heap.size, 0, none⟩) 1 [inC tu s q ds] := by
    have zX : Cl X w4.heap.size #[.slice A n c] 30 := by rw [hX]; exact Cl.new _ _ _
    refine ⟨rfl, fun _ => ⟨w4.heap.size, 0, rfl, zX.lt, fun i x hx => ?_⟩⟩
    match i, hx with
    | 0, hx =>
      injection hx with hx
      subst hx
      exact ⟨_, zX.cell 0, A, n, c, rfl, hOX.rd, hOX.cap.1, fun h => (hOX.nil_of (by rw [h]; rfl)).2.2⟩
    | i + 1, hx => simp at hx
  have HSL : Hid (Calls Try.prog 35 #[.slice (some ⟨w4.heap.size, 0, none⟩) 1 1] X (RetSE X.heap.size X (sealG (inC tu s q ds)))) := Lib.hid (by
    have := Seal_any (some ⟨w4.heap.size, 0, none⟩) 1 1 [inC tu s q ds] X hRX (by simp only [tot]; omega)
    simpa using this)
  have c0 : w4.cell? ⟨b + 1, 0, none⟩ = some (.slice A n c) := z0.cell 0
  have HBX : Hid (Below b w X ∧ b ≤ X.heap.size) := Lib.hid (by
    have h1 := hPt.bel
    have h2 := h1.size
    have h3 := bX.size
    exact ⟨(HBW.out.trans h1).trans (bX.mono (by omega)), by omega⟩)
  have HXE := Lib.hid hX
  clear z0 hO hPt hlen hil hll hX bX hOX hRX hbw3 HPT
  go_wp2_with fail
  rw [← HXE.out]
  with_reducible refine HSL.out.mono ?_
  intro e w5 hq5
  obtain ⟨E, en, ec, h1, oE, b5⟩ := hq5
  subst h1
  have HF : Hid (RetSE w.heap.size w (sealG (inC tu s q ds)) (.returned (.tuple #[.slice E en ec, .int .i64 (sealG (inC tu s q ds)).2])) w5) := Lib.hid (by
    rw [← HB.out]
    exact ⟨E, en, ec, rfl, oE.mono HBX.out.2, HBX.out.1.trans (b5.mono HBX.out.2)⟩)
  obtain ⟨ee, hee⟩ : ∃ ee, ee = (sealG (inC tu s q ds)).2 := ⟨_, rfl⟩
  rw [← hee] at HF ⊢
  clear hq4 oE b5 hee
  go_wp2_with fail
  go_ret2
  exact HF.out
end Go.Proofs.Ytgccbghaibddcaa
namespace Go.Proofs.Ytgccbghaibddcaa
open Go Go.RowKit
/-- The hand that takes, as a value. -/
def handTA (c5 wr bb : Nat) : Array Value := #[.func (.func 73) #[] #[.pointer (some ⟨c5, 0, none⟩)], .func (.func 74) #[] #[.pointer (some ⟨c5, 0, none⟩)], .func (.func 75) #[] #[.pointer (some ⟨c5, 0, none⟩), .pointer (some ⟨wr, 0, none⟩)],
  .func (.func 76) #[] #[.pointer (some ⟨c5, 0, none⟩), .pointer (some ⟨bb, 0, none⟩), .pointer (some ⟨wr, 0, none⟩)], .func (.func 77) #[] #[.pointer (some ⟨wr, 0, none⟩)]]
def fnDone (wr bb : Nat) : Value := .func (.func 78) #[] #[.pointer (some ⟨wr, 0, none⟩), .pointer (some ⟨bb, 0, none⟩)]
set_option maxRecDepth 100000 in
set_option maxHeartbeats 8000000 in
theorem taking_any {w : World} {gi : Nat} {B : Option Addr} {n c : Nat} {xs : List UInt8} (hr : Rd w B n xs) (hc : n ≤ c) (hn : B = none → c = 0) (hg : ∀ b, blk B = some b → b = gi) : Calls Try.prog 37 #[.slice B n c] w (fun e w' => ∃ bb wr c5, e = .returned (.tuple #[.agg (handTA c5 wr bb), fnDone wr bb]) ∧ HandT w' gi bb wr c5 0 xs ∧ Below w.heap.size w w' ∧ w.heap.size ≤ bb ∧ w.heap.size ≤ wr ∧ w.heap.size ≤ c5) := by
  obtain ⟨V, hV⟩ : ∃ V, V = ((((w.alloc (.cells #[.slice B n c] 30)).alloc (.cells (handTA (w.heap.size + 1 + 1 + 1) (w.heap.size + 1 + 1) w.heap.size) 108)).alloc (.cells #[.int .i64 0] 38)).alloc (.cells #[.func (.func 71) #[] #[.pointer (some ⟨w.heap.size + 1 + 1, 0, none⟩), .pointer (some ⟨w.heap.size, 0, none⟩)]] 178)) := ⟨_, rfl⟩
  have bV : Below w.heap.size w V := by rw [hV]; exact ((((Below.refl _ _).alloc (Nat.le_refl _) _).alloc (by simp) _).alloc (by simp; omega) _).alloc (by simp; omega) _
  have z1 : Cl V w.heap.size #[.slice B n c] 30 := by rw [hV]; exact (((Cl.new _ _ _).alloc _).alloc _).alloc _
  have z2 : Cl V (w.heap.size + 1) (handTA (w.heap.size + 1 + 1 + 1) (w.heap.size + 1 + 1) w.heap.size) 108 := by rw [hV]; exact ((Cl.newg _ _ _ _ (by simp)).alloc _).alloc _
  have z3 : Cl V (w.heap.size + 1 + 1) #[.int .i64 0] 38 := by rw [hV]; exact (Cl.newg _ _ _ _ (by simp)).alloc _
  have z4 : Cl V (w.heap.size + 1 + 1 + 1) #[.func (.func 71) #[] #[.pointer (some ⟨w.heap.size + 1 + 1, 0, none⟩), .pointer (some ⟨w.heap.size, 0, none⟩)]] 178 := by rw [hV]; exact Cl.newg _ _ _ _ (by simp)
  have HF : Hid (HandT V gi w.heap.size (w.heap.size + 1 + 1) (w.heap.size + 1 + 1 + 1) 0 xs ∧ Below w.heap.size w V) := Lib.hid ⟨⟨B, n, c, z1, z3, z4, hr.below bV, hc, hn, hg⟩, bV⟩
  have HV := Lib.hid hV
  have hsf := fun (a : Addr) (f : Fn) (b c : Array Value) (w : World) => run_store Try.prog w a (.func f b c) .plain rfl
  have HZ := Lib.hid z2
  clear hr hn hg z1 z2 z3 z4 bV hV
  go_enter Try.func37, Try.ntmps37
  go_wp2_with fail
  have HV' := HV.out
  unfold handTA at HV'
  rw [← HV']
  have x0 : V.cell? ⟨w.heap.size + 1, 0, none⟩ = some (.func (.func 73) #[] #[.pointer (some ⟨w.heap.size + 1 + 1 + 1, 0, none⟩)]) := HZ.out.cell 0
  have x1 : V.cell? ⟨w.heap.size + 1, 1, none⟩ = some (.func (.func 74) #[] #[.pointer (some ⟨w.heap.size + 1 + 1 + 1, 0, none⟩)]) := HZ.out.cell 1
  have x2 : V.cell? ⟨w.heap.size + 1, 2, none⟩ = some (.func (.func 75) #[] #[.pointer (some ⟨w.heap.size + 1 + 1 + 1, 0, none⟩), .pointer (some ⟨w.heap.size + 1 + 1, 0, none⟩)]) := HZ.out.cell 2
  have x3 : V.cell? ⟨w.heap.size + 1, 3, none⟩ = some (.func (.func 76) #[] #[.pointer (some ⟨w.heap.size + 1 + 1 + 1, 0, none⟩), .pointer (some ⟨w.heap.size, 0, none⟩), .pointer (some ⟨w.heap.size + 1 + 1, 0, none⟩)]) := HZ.out.cell 3
  have x4 : V.cell? ⟨w.heap.size + 1, 4, none⟩ = some (.func (.func 77) #[] #[.pointer (some ⟨w.heap.size + 1 + 1, 0, none⟩)]) := HZ.out.cell 4
  exact bodyPost_ret (v := .tuple #[.agg (handTA (w.heap.size + 1 + 1 + 1) (w.heap.size + 1 + 1) w.heap.size), fnDone (w.heap.size + 1 + 1) w.heap.size]) (by simp [results, Try.f37, go_sem, x0, x1, x2, x3, x4]; exact ⟨rfl, rfl⟩) rfl ⟨w.heap.size, w.heap.size + 1 + 1, w.heap.size + 1 + 1 + 1, rfl, HF.out.1, HF.out.2, Nat.le_refl _, by omega, by omega⟩
set_option maxRecDepth 100000 in
set_option maxHeartbeats 4000000 in
/-- Nothing is wrong, and nothing is left. -/
theorem take7_any {w : World} {gi bb wr c5 : Nat} (h : HandT w gi bb wr c5 0 []) : Calls Try.prog 78 #[.pointer (some ⟨wr, 0, none⟩), .pointer (some ⟨bb, 0, none⟩)] w (fun e w' => e = .returned (.int .i64 0) ∧ w' = w) := by
  obtain ⟨B, n, c, z1, z2, z3, hr, _⟩ := h
  obtain rfl : n = 0 := by have := hr.len; simpa using this.symm
  have k1 : w.cell? ⟨bb, 0, none⟩ = some (.slice B 0 c) := z1.cell 0
  have k2 : w.cell? ⟨wr, 0, none⟩ = some (.int .i64 0) := z2.cell 0
  clear z1 z2 z3 hr
  go_enter Try.func78, Try.ntmps78
  go_wp2_with fail
  go_ret
  exact ⟨rfl, rfl⟩
end Go.Proofs.Ytgccbghaibddcaa
namespace Go.Proofs.Ytgccbghaibddcaa
open Go Go.RowKit
/-- A stage of the way. -/
def StT (gi bb wr c5 g pb : Nat) (w0 : World) (pvs : Array Value) (r : List UInt8) (wx : World) : Prop := HandT wx gi bb wr c5 0 r ∧ Cl wx g (handTA c5 wr bb) 108 ∧ Cl wx pb pvs 47 ∧ Fr w0 wx [bb, wr, pb]
section
variable {gi bb wr c5 g pb : Nat} {w0 wx wy : World} {pvs pvs2 : Array Value} {r r2 : List UInt8}
theorem StT.neg (h : StT gi bb wr c5 g pb w0 pvs r wx) : g ∉ [bb, wr, pb] := by
  obtain ⟨⟨B, n, c, z1, z2, z3, _⟩, h2, h3, _⟩ := h
  have a1 := cl_cl h2 z1 (by decide)
  have a2 := cl_cl h2 z2 (by decide)
  have a3 := cl_cl h2 h3 (by decide)
  simp [a1, a2, a3]
theorem StT.fr {wz : World} (h : StT gi bb wr c5 g pb w0 pvs r wx) (hb : Below wx.heap.size wx wy) (hf : Fr wy wz [bb, wr, pb]) (hT : HandT wz gi bb wr c5 0 r2) (hp : Cl wz pb pvs2 47) : StT gi bb wr c5 g pb w0 pvs2 r2 wz :=
  ⟨hT, (hf.block _ (h.2.1.below hb).lt h.neg).trans (h.2.1.below hb), hp, (h.2.2.2.trans (Fr.of_below hb _) (fun _ hb => .inl hb)).trans hf (fun _ hb => .inl hb)⟩
theorem StT.step {e : Ending} (h : StT gi bb wr c5 g pb w0 pvs r wx) (hr : RetTf wx.drew gi bb wr c5 pb pvs2 r2 e wy) : e = .returned (.tuple #[]) ∧ StT gi bb wr c5 g pb w0 pvs2 r2 wy := by
  obtain ⟨r1, r2, r3, r4⟩ := hr
  exact ⟨r1, h.fr (Below.refl _ _).drew r4 r2 r3⟩
end
section
variable {w : World} {gi bb wr c5 pb : Nat} {pvs : Array Value}
set_option maxRecDepth 100000 in
set_option maxHeartbeats 8000000 in
theorem txnT_any (pi s q : Nat) (r : List UInt8) (h : HandT w gi bb wr c5 0 (putU s ++ (putU q ++ r))) (hs : s < B64) (hq : q < B64) (hl : r.length ≤ 100000000) (hpc : Cl w pb pvs 47) (hpi : pi + 1 < pvs.size) (g1 : gi ≠ bb) (g2 : gi ≠ wr) (g3 : gi ≠ pb) :
    Calls Try.prog 58 #[.agg (handTA c5 wr bb), .pointer (some ⟨pb, pi, none⟩)] w (RetTf w gi bb wr c5 pb ((pvs.setIfInBounds pi (.int .u64 (s : Int))).setIfInBounds (pi + 1) (.int .u64 (q : Int))) r) := by
  obtain ⟨us, hus⟩ : ∃ us, us = (pvs.setIfInBounds pi (.int .u64 (s : Int))).setIfInBounds (pi + 1) (.int .u64 (q : Int)) := ⟨_, rfl⟩
  rw [← hus]
  have HUS := Lib.hid hus
  clear hus
  obtain ⟨W, hW⟩ : ∃ W, W = w.alloc (.cells (handTA c5 wr bb) 108) := ⟨_, rfl⟩
  obtain ⟨g, hg⟩ : ∃ g, g = w.heap.size := ⟨_, rfl⟩
  have bW : Below w.heap.size w W := by rw [hW]; exact (Below.refl _ _).alloc (Nat.le_refl _) _
  have zW : Cl W g (handTA c5 wr bb) 108 := by rw [hW, hg]; exact Cl.new _ _ _
  have hpl := putU_len64 q hq
  have S0 : Hid (StT gi bb wr c5 g pb w pvs (putU s ++ (putU q ++ r)) W) := Lib.hid ⟨h.below bW, zW, hpc.below bW, Fr.of_below bW _⟩
  have HC : Hid (Calls Try.prog 74 #[.pointer (some ⟨pb, pi, none⟩), .pointer (some ⟨c5, 0, none⟩)] W.drew (RetTf W.drew gi bb wr c5 pb (pvs.setIfInBounds pi (.int .u64 (s : Int))) (putU q ++ r))) := Lib.hid (take3_any pi s (putU q ++ r) (S0.out.1.below (Below.refl _ _).drew) hs (by rw [List.length_append]; omega) (S0.out.2.2.1.below (Below.refl _ _).drew) (by omega) g1 g2 g3)
  have k1 : W.drew.cell? ⟨g, 1, none⟩ = some (.func (.func 74) #[] #[.pointer (some ⟨c5, 0, none⟩)]) := zW.cell 1
  have HW := Lib.hid hW
  have HG := Lib.hid hg
  have HPI := Lib.hid hpi
  clear h hpc hW hg bW zW hpi
  unfold handTA at HW
  unfold handTA
  go_enter Try.func58, Try.ntmps58
  go_upto_region 1 with (fail)
  rw [← HW.out, ← HG.out]
  go_cut [9] from 4 to 9 (fun s9 wx => StT gi bb wr c5 g pb w (pvs.setIfInBounds pi (.int .u64 (s : Int))) (putU q ++ r) wx)
  case first =>
    go_region_law (first | (go_simp; go_at_call 74; with_reducible refine HC.out.mono ?_; intro e w2 hq2; obtain ⟨e1, e2⟩ := S0.out.step hq2; subst e1))
    all_goals
      go_wp2_with fail
      go_meet
      exact e2
  have S1 := Lib.hid hcut
  clear hcut HC k1
  have k1c : wc.drew.cell? ⟨g, 1, none⟩ = some (.func (.func 74) #[] #[.pointer (some ⟨c5, 0, none⟩)]) := S1.out.2.1.cell 1
  have HC2 : Hid (Calls Try.prog 74 #[.pointer (some ⟨pb, pi + 1, none⟩), .pointer (some ⟨c5, 0, none⟩)] wc.drew (RetTf wc.drew gi bb wr c5 pb us r)) := Lib.hid (by
    rw [HUS.out]
    exact take3_any (pi + 1) q r (S1.out.1.below (Below.refl _ _).drew) hq (by omega) (S1.out.2.2.1.below (Below.refl _ _).drew) (by have := HPI.out; simpa using this) g1 g2 g3)
  obtain ⟨w3, hw3⟩ : ∃ w3, w3 = wc := ⟨_, rfl⟩
  rw [← hw3] at S1 HC2 k1c ⊢
  clear hw3
  go_upto_region 2 with (fail)
  go_region_law (first | (go_simp; go_at_call 74; with_reducible refine HC2.out.mono ?_; intro e w2 hq2; obtain ⟨e1, e2⟩ := S1.out.step hq2; subst e1))
  all_goals
    go_end0
    exact ⟨rfl, e2.1, e2.2.2.1, e2.2.2.2⟩
end
end Go.Proofs.Ytgccbghaibddcaa
namespace Go.Proofs.Ytgccbghaibddcaa
open Go Go.RowKit
/-- No packet yet. -/
def pkZ : Array Value := pkC 0 0 0 0 (.slice none 0 0)
def RetTp (w : World) (gi bb wr c5 pb : Nat) (tn : Int) (s q : Nat) (ds : List UInt8) (e : Ending) (w' : World) : Prop := e = .returned (.tuple #[]) ∧ ∃ D dn dc, Own 5 w' w.heap.size D dn dc ds ∧ HandT w' gi bb wr c5 0 [] ∧ Cl w' pb (pkC 4 tn s q (.slice D dn dc)) 47 ∧ Fr w w' [bb, wr, pb]
theorem RetTp.out {w : World} {gi bb wr c5 pb : Nat} {tn : Int} {s q : Nat} {ds : List UInt8} {e : Ending} {w' : World} (h : RetTp w gi bb wr c5 pb tn s q ds e w') : e = .returned (.tuple #[]) ∧ ∃ D dn dc, Own 5 w' w.heap.size D dn dc ds ∧ HandT w' gi bb wr c5 0 [] ∧ Cl w' pb (pkC 4 tn s q (.slice D dn dc)) 47 ∧ Fr w w' [bb, wr, pb] := h
section
variable {w : World} {gi bb wr c5 pb : Nat}
set_option maxRecDepth 100000 in
set_option maxHeartbeats 8000000 in
theorem partsT_any (tn : Int) (tu s q : Nat) (ds : List UInt8) (h : HandT w gi bb wr c5 0 (putU 4 ++ (putU tu ++ (putU s ++ (putU q ++ (putU ds.length ++ ds)))))) (ht : IntKind.i64.wrap (tu : Int) = tn) (htu : tu < B64) (hs : s < B64) (hq : q < B64) (hl : ds.length ≤ 1048576) (hpc : Cl w pb pkZ 47) (g1 : gi ≠ bb) (g2 : gi ≠ wr) (g3 : gi ≠ pb) :
    Calls Try.prog 33 #[.pointer (some ⟨pb, 0, none⟩), .agg (handTA c5 wr bb)] w (RetTp w gi bb wr c5 pb tn s q ds) := by
  obtain ⟨W, hW⟩ : ∃ W, W = w.alloc (.cells (handTA c5 wr bb) 108) := ⟨_, rfl⟩
  obtain ⟨g, hg⟩ : ∃ g, g = w.heap.size := ⟨_, rfl⟩
  have bW : Below w.heap.size w W := by rw [hW]; exact (Below.refl _ _).alloc (Nat.le_refl _) _
  have zW : Cl W g (handTA c5 wr bb) 108 := by rw [hW, hg]; exact Cl.new _ _ _
  have p2 := putU_len64 tu htu
  have p3 := putU_len64 s hs
  have p4 := putU_len64 q hq
  have p5 := putU_len64 ds.length (by unfold B64; omega)
  obtain ⟨r5, hr5⟩ : ∃ r5, r5 = putU ds.length ++ ds := ⟨_, rfl⟩
  obtain ⟨r3, hr3⟩ : ∃ r3, r3 = putU s ++ (putU q ++ r5) := ⟨_, rfl⟩
  obtain ⟨r2, hr2⟩ : ∃ r2, r2 = putU tu ++ r3 := ⟨_, rfl⟩
  rw [← hr5, ← hr3, ← hr2] at h
  have l5 : r5.length ≤ 1048586 := by rw [hr5, List.length_append]; omega
  have l3 : r3.length ≤ 1048606 := by rw [hr3]; simp only [List.length_append]; omega
  have l2 : r2.length ≤ 1048616 := by rw [hr2]; simp only [List.length_append]; omega
  have S0 : Hid (StT gi bb wr c5 g pb w pkZ (putU 4 ++ r2) W) := Lib.hid ⟨h.below bW, zW, hpc.below bW, Fr.of_below bW _⟩
  have HC : Hid (Calls Try.prog 73 #[.pointer (some ⟨pb, 0, none⟩), .pointer (some ⟨c5, 0, none⟩)] W.drew (RetTf W.drew gi bb wr c5 pb (pkC 4 0 0 0 (.slice none 0 0)) r2)) := Lib.hid (take2_any (pvs := pkZ) 0 4 4 r2 (S0.out.1.below (Below.refl _ _).drew) (by unfold B64; omega) (by omega) (S0.out.2.2.1.below (Below.refl _ _).drew) (by decide) (by decide) g1 g2 g3)
  have k1 : W.drew.cell? ⟨g, 0, none⟩ = some (.func (.func 73) #[] #[.pointer (some ⟨c5, 0, none⟩)]) := zW.cell 0
  have HW := Lib.hid hW
  have HG := Lib.hid hg
  have HR5 := Lib.hid hr5
  have HR3 := Lib.hid hr3
  have HR2 := Lib.hid hr2
  have sW : w.heap.size ≤ W.heap.size := bW.size
  clear h hpc hW hg bW zW hr5 hr3 hr2 p2 p3 p4 p5
  unfold handTA at HW
  unfold handTA
  go_enter Try.func33, Try.ntmps33
  go_upto_region 1 with (fail)
  rw [← HW.out, ← HG.out]
  go_cut [9] from 4 to 9 (fun s9 wx => StT gi bb wr c5 g pb w (pkC 4 0 0 0 (.slice none 0 0)) r2 wx)
  case first =>
    go_region_law (first | (go_simp; go_at_call 73; with_reducible refine HC.out.mono ?_; intro e w2 hq2; obtain ⟨e1, e2⟩ := S0.out.step hq2; subst e1))
    all_goals
      go_wp2_with fail
      go_meet
      exact e2
  have S1 := Lib.hid hcut
  have j0 : wc.cell? ⟨pb, 0, none⟩ = some (.int .i64 4) := S1.out.2.2.1.cell 0
  clear hcut HC k1 S0
  go_upto_region 16 with (fail)
  have k1 : wc.drew.cell? ⟨g, 0, none⟩ = some (.func (.func 73) #[] #[.pointer (some ⟨c5, 0, none⟩)]) := S1.out.2.1.cell 0
  have HC : Hid (Calls Try.prog 73 #[.pointer (some ⟨pb, 2, none⟩), .pointer (some ⟨c5, 0, none⟩)] wc.drew (RetTf wc.drew gi bb wr c5 pb (pkC 4 tn 0 0 (.slice none 0 0)) r3)) := Lib.hid (take2_any (pvs := pkC 4 0 0 0 (.slice none 0 0)) 2 tu tn r3 (by rw [← HR2.out]; exact S1.out.1.below (Below.refl _ _).drew) htu (by omega) (S1.out.2.2.1.below (Below.refl _ _).drew) (by decide) ht g1 g2 g3)
  obtain ⟨w1, hw1⟩ : ∃ w1, w1 = wc := ⟨_, rfl⟩
  rw [← hw1] at S1 HC k1 j0 ⊢
  clear hw1
  go_cut [106] from 101 to 106 (fun s106 wx => StT gi bb wr c5 g pb w (pkC 4 tn 0 0 (.slice none 0 0)) r3 wx)
  case first =>
    go_region_law (first | (go_simp; go_at_call 73; with_reducible refine HC.out.mono ?_; intro e w2 hq2; obtain ⟨e1, e2⟩ := S1.out.step hq2; subst e1))
    all_goals
      go_wp2_with fail
      go_meet
      exact e2
  have S2 := Lib.hid hcut
  clear hcut HC k1 j0 S1
  have y0 : wc.drew.cell? ⟨g, 0, none⟩ = some (.func (.func 73) #[] #[.pointer (some ⟨c5, 0, none⟩)]) := S2.out.2.1.cell 0
  have y1 : wc.drew.cell? ⟨g, 1, none⟩ = some (.func (.func 74) #[] #[.pointer (some ⟨c5, 0, none⟩)]) := S2.out.2.1.cell 1
  have y2 : wc.drew.cell? ⟨g, 2, none⟩ = some (.func (.func 75) #[] #[.pointer (some ⟨c5, 0, none⟩), .pointer (some ⟨wr, 0, none⟩)]) := S2.out.2.1.cell 2
  have y3 : wc.drew.cell? ⟨g, 3, none⟩ = some (.func (.func 76) #[] #[.pointer (some ⟨c5, 0, none⟩), .pointer (some ⟨bb, 0, none⟩), .pointer (some ⟨wr, 0, none⟩)]) := S2.out.2.1.cell 3
  have y4 : wc.drew.cell? ⟨g, 4, none⟩ = some (.func (.func 77) #[] #[.pointer (some ⟨wr, 0, none⟩)]) := S2.out.2.1.cell 4
  have HT : Hid (Calls Try.prog 58 #[.agg (handTA c5 wr bb), .pointer (some ⟨pb, 7, none⟩)] wc.drew (RetTf wc.drew gi bb wr c5 pb (pkC 4 tn s q (.slice none 0 0)) r5)) := Lib.hid (txnT_any (pvs := pkC 4 tn 0 0 (.slice none 0 0)) 7 s q r5 (by rw [← HR3.out]; exact S2.out.1.below (Below.refl _ _).drew) hs hq (by omega) (S2.out.2.2.1.below (Below.refl _ _).drew) (by show 8 < 29; omega) g1 g2 g3)
  unfold handTA at HT
  obtain ⟨w3, hw3⟩ : ∃ w3, w3 = wc := ⟨_, rfl⟩
  rw [← hw3] at S2 HT y0 y1 y2 y3 y4 ⊢
  clear hw3
  go_upto_region 17 with (fail)
  go_cut [111] from 107 to 111 (fun s111 wx => StT gi bb wr c5 g pb w (pkC 4 tn s q (.slice none 0 0)) r5 wx)
  case first =>
    go_region_law (first | (go_simp; go_at_call 58; with_reducible refine HT.out.mono ?_; intro e w2 hq2; obtain ⟨e1, e2⟩ := S2.out.step hq2; subst e1))
    all_goals
      go_wp2_with fail
      go_meet
      exact e2
  have S3 := Lib.hid hcut
  clear hcut HT y0 y1 y2 y3 y4 S2
  have k3 : wc.drew.cell? ⟨g, 3, none⟩ = some (.func (.func 76) #[] #[.pointer (some ⟨c5, 0, none⟩), .pointer (some ⟨bb, 0, none⟩), .pointer (some ⟨wr, 0, none⟩)]) := S3.out.2.1.cell 3
  have HC : Hid (Calls Try.prog 76 #[.pointer (some ⟨pb, 28, none⟩), .pointer (some ⟨c5, 0, none⟩), .pointer (some ⟨bb, 0, none⟩), .pointer (some ⟨wr, 0, none⟩)] wc.drew (RetTb wc.drew gi bb wr c5 pb (pkC 4 tn s q (.slice none 0 0)) 28 ds)) := Lib.hid (take5_any (pvs := pkC 4 tn s q (.slice none 0 0)) 28 ds (by rw [← HR5.out]; exact S3.out.1.below (Below.refl _ _).drew) hl (S3.out.2.2.1.below (Below.refl _ _).drew) (by show 28 < 29; omega) g1 g2 g3)
  have HF : Hid (∀ e w2, RetTb wc.drew gi bb wr c5 pb (pkC 4 tn s q (.slice none 0 0)) 28 ds e w2 → e = .returned (.tuple #[]) ∧ RetTp w gi bb wr c5 pb tn s q ds (.returned (.tuple #[])) w2) := Lib.hid (fun e w2 hr => by
    obtain ⟨e1, D, dn, dc, o1, o2, o3, o4⟩ := hr.out
    have h1 := S3.out.fr (Below.refl _ _).drew o4 o2 o3
    have h2 := S3.out.2.2.2.size
    exact ⟨e1, rfl, D, dn, dc, o1.mono h2, o2, o3, h1.2.2.2⟩)
  obtain ⟨w4, hw4⟩ : ∃ w4, w4 = wc := ⟨_, rfl⟩
  rw [← hw4] at S3 HC HF k3 ⊢
  clear hw4
  go_upto_region 18 with (fail)
  go_region_law (first | (go_simp; go_at_call 76; with_reducible refine HC.out.mono ?_; intro e w2 hq2; obtain ⟨e1, e2⟩ := HF.out _ _ hq2; subst e1))
  all_goals
    go_wp2_with fail
    go_end0
    exact e2
end
end Go.Proofs.Ytgccbghaibddcaa
namespace Go.Proofs.Ytgccbghaibddcaa
open Go Go.RowKit
theorem Fr.setRow {w : World} (g : Nat) (cs : Array Value) : Fr w (w.setRow g cs) [g] := ⟨setRow_os _ _ _, setRow_tape _ _ _, setRow_output _ _ _, by rw [setRow_size]; exact Nat.le_refl _, fun k _ hn => setRow_other _ _ _ _ (fun e => hn (by simp [e]))⟩
theorem openG_seal1 (r : List UInt8) (hr : r.length ≤ 1048576) : openG (sealB r) 0 = (r, ((8 + r.length : Nat) : Int), 0) := by
  have h := openG_at [] r [] hr
  simpa using h
theorem inC_rest (tu s q : Nat) (ds : List UInt8) : inC tu s q ds = putU 4 ++ (putU tu ++ (putU s ++ (putU q ++ (putU ds.length ++ ds)))) := by
  unfold inC
  simp only [List.nil_append, List.append_assoc]
/-- The same, as the walk spells it. -/
def pkZL : Array Value := #[.int .i64 0, .int .i64 0, .int .i64 0, .int .i64 0, .int .i64 0, .int .i64 0, .int .i64 0, .int .u64 0, .int .u64 0, .int .i64 0, .int .i64 0, .int .i64 0, .int .i64 0, .int .u64 0, .int .u64 0, .int .u64 0, .int .u64 0, .slice none 0 0, .bool false, .slice none 0 0, .int .i64 0, .int .i64 0, .int .u64 0, .slice none 0 0, .bool false, .int .u64 0, .slice none 0 0, .slice none 0 0, .slice none 0 0]
theorem pkZ_lit : pkZ = pkZL := rfl
theorem size_pkC {kd tn : Int} {s q : Nat} {D : Value} : (Try.prog.info? 47).map (·.size) = some (pkC kd tn s q D).size := by show _ = some 29; kernel_rfl
theorem pk_one {kd tn : Int} {s q : Nat} {D : Option Addr} {dn dc : Nat} : (pkC kd tn s q (.slice D dn dc)).all (·.oneCell') = true := by simp [pkC, Value.oneCell']
theorem run_sc {w : World} {g : Nat} {t : TypeId} {old cells : Array Value} (hg : Cl w g old t) (ho : old.size = cells.size) (h1 : cells.all (·.oneCell') = true) : (storeCells ⟨g, 0, none⟩ cells.toList).run Try.prog w = .ok () (w.setRow g cells) := by
  have := run_storeCells_from (P := Try.prog) g t cells.toList 0 old w hg (by simp; omega) (fun v hv => (Array.all_eq_true_iff_forall_mem.1 h1) v (by simpa using hv))
  simpa using this
theorem results_cellT {fn : Func} {p q : Tmp} {ty : TypeId} (h : fn.results = #[.cell p ty, .tmp q]) (tmps : Array Value) (w : World) (g : Nat) (cs : Array Value)
    (hp : tmps.getD p undef = .pointer (some ⟨g, 0, none⟩)) (hl : (loadVar ty ⟨g, 0, none⟩).run Try.prog w = .ok (.agg cs) w) (v : Value) (hq : tmps.getD q undef = v) :
    (results fn tmps).run Try.prog w = .ok (.tuple #[.agg cs, v]) w := by
  have hp' : tmps[p]?.getD undef = .pointer (some ⟨g, 0, none⟩) := by simpa using hp
  have hq' : tmps[q]?.getD undef = v := by simpa using hq
  simp [results, h, hp', hq', asAddr, hl]
def RetRc (w : World) (tn : Int) (s q : Nat) (ds : List UInt8) (e : Ending) (w' : World) : Prop := ∃ D dn dc, e = .returned (.tuple #[.agg (pkC 4 tn s q (.slice D dn dc)), .int .i64 0]) ∧ Own 5 w' w.heap.size D dn dc ds ∧ Below w.heap.size w w'
set_option maxRecDepth 100000 in
set_option maxHeartbeats 8000000 in
theorem readC_any {w : World} (S : Option Addr) (sn sc : Nat) (tn : Int) (tu s q : Nat) (ds : List UInt8) (hr : Rd w S sn (sealB (inC tu s q ds))) (hc : sn ≤ sc) (hn : S = none → sc = 0) (ht : IntKind.i64.wrap (tu : Int) = tn) (htu : tu < B64) (hs : s < B64) (hq : q < B64) (hl : ds.length ≤ 100000) :
    Calls Try.prog 11 #[.slice S sn sc] w (RetRc w tn s q ds) := by
  have hil := inC_len tu s q ds htu hs hq (by omega)
  have hsl : sn = 8 + (inC tu s q ds).length := by rw [← hr.len, sealB_len]
  obtain ⟨U, hU⟩ : ∃ U, U = w.alloc (.cells pkZ 47) := ⟨_, rfl⟩
  obtain ⟨rb, hrb⟩ : ∃ rb, rb = w.heap.size := ⟨_, rfl⟩
  have bU : Below w.heap.size w U := by rw [hU]; exact (Below.refl _ _).alloc (Nat.le_refl _) _
  have zR : Cl U rb pkZ 47 := by rw [hU, hrb]; exact Cl.new _ _ _
  have HOP : Hid (Calls Try.prog 36 #[.slice S sn sc, .int .i64 0] U (fun e w' => ∃ g A n c, e = .returned (.tuple #[.slice A n c, .int .i64 (sn : Int), .int .i64 0]) ∧ Own 5 w' U.heap.size A n c (inC tu s q ds) ∧ blk A = some g ∧ Below U.heap.size U w')) := Lib.hid (by
    refine (Open_any S sn sc 0 (sealB (inC tu s q ds)) U (hr.below bU) (by omega) hc hn (by unfold I64; omega)).mono fun e w' hq => ?_
    obtain ⟨A, n, c, h1, h2, h3⟩ := hq
    rw [openG_seal1 _ (by omega)] at h1 h2
    have hlen := h2.len
    have hpos := putU_pos 4
    have hin : 0 < (inC tu s q ds).length := by rw [inC_rest, List.length_append]; omega
    obtain ⟨b, off, e2, _⟩ := h2.rd.2 (by simp only at hlen; omega)
    refine ⟨b, A, n, c, ?_, h2, by rw [e2]; rfl, h3⟩
    rw [h1, hsl])
  have HK : Hid (∀ wx, Calls Try.prog 32 #[.int .i64 4] wx (fun e w' => e = .returned (.bool true) ∧ w' = wx)) := Lib.hid (fun wx => isKind_any 4 wx)
  have HU := Lib.hid hU
  have HRB := Lib.hid hrb
  have BU := Lib.hid bU
  have ZR := Lib.hid zR
  have SU := Lib.hid zR.lt
  clear hr hn hU hrb bU zR hil hsl
  rw [pkZ_lit] at HU
  unfold pkZL at HU
  go_enter Try.func11, Try.ntmps11
  go_wp2_with fail
  rw [← HU.out, ← HRB.out]
  with_reducible refine HOP.out.mono ?_
  rintro e w2 ⟨gi, A, n, c, rfl, oA, hgi, b2⟩
  have hgl := oA.lt gi hgi
  have HTK : Hid (Calls Try.prog 37 #[.slice A n c] w2 (fun e w' => ∃ bb wr c5, e = .returned (.tuple #[.agg (handTA c5 wr bb), fnDone wr bb]) ∧ HandT w' gi bb wr c5 0 (inC tu s q ds) ∧ Below w2.heap.size w2 w' ∧ w2.heap.size ≤ bb ∧ w2.heap.size ≤ wr ∧ w2.heap.size ≤ c5)) := Lib.hid (taking_any oA.rd oA.cap.1 (fun h => (oA.nil_of (by rw [h]; rfl)).2.2) (fun b hb => by rw [hgi] at hb; injection hb with hb; exact hb.symm))
  have Z2 := Lib.hid (ZR.out.below b2)
  have B2 := Lib.hid (belowT' BU.out b2)
  have HGL := Lib.hid hgl
  have HB2 := Lib.hid b2
  clear oA b2 hgl hgi HOP
  go_wp2_with fail
  with_reducible refine HTK.out.mono ?_
  rintro e w3 ⟨bb, wr, c5, rfl, hT, b3, l1, l2, l3⟩
  obtain ⟨X, hX⟩ : ∃ X, X = (w3.alloc (.cells (handTA c5 wr bb) 108)).alloc (.cells pkZ 47) := ⟨_, rfl⟩
  obtain ⟨pb, hpb⟩ : ∃ pb, pb = w3.heap.size + 1 := ⟨_, rfl⟩
  have bX : Below w3.heap.size w3 X := by rw [hX]; exact ((Below.refl _ _).alloc (Nat.le_refl _) _).alloc (by simp) _
  have zP : Cl X pb pkZ 47 := by rw [hX, hpb]; exact Cl.newg _ _ _ _ (by simp)
  have s3 := b3.size
  have s2 := HGL.out
  have HPT : Hid (Calls Try.prog 33 #[.pointer (some ⟨pb, 0, none⟩), .agg (handTA c5 wr bb)] X (RetTp X gi bb wr c5 pb tn s q ds)) := Lib.hid (partsT_any tn tu s q ds (by rw [← inC_rest]; exact hT.below bX) ht htu hs hq (by omega) zP (by omega) (by omega) (by omega))
  have ZX := Lib.hid (((Z2.out.below b3).below bX))
  have BX := Lib.hid (belowT' (belowT' B2.out b3) bX)
  have HXE := Lib.hid hX
  have HPB := Lib.hid hpb
  have HLT : Hid (rb < bb ∧ rb < wr ∧ rb < pb ∧ rb < X.heap.size ∧ w.heap.size ≤ bb ∧ w.heap.size ≤ wr ∧ w.heap.size ≤ pb) := Lib.hid (by have h1 := SU.out; have h2 := HB2.out.size; have h3 := bX.size; have h4 := HRB.out; omega)
  have hsf := fun (a : Addr) (f : Fn) (b c : Array Value) (w : World) => run_store Try.prog w a (.func f b c) .plain rfl
  clear hT b3 l1 l2 l3 hX hpb bX zP s3 s2 HTK
  rw [pkZ_lit] at HXE
  unfold handTA pkZL at HXE
  unfold handTA at HPT ⊢
  unfold fnDone
  go_wp2_with fail
  rw [← HXE.out, ← HPB.out]
  with_reducible refine HPT.out.mono ?_
  intro e w6 hq6
  obtain ⟨e1, D, dn, dc, oD, hT6, zP6, hf6⟩ := hq6.out
  subst e1
  have HDN := Lib.hid (take7_any hT6)
  obtain ⟨l1, l2, l3, l4, l5, l6, l7⟩ := HLT.out
  have zR6 : Cl w6 rb pkZ 47 := (hf6.block _ ZX.out.lt (by simp; omega)).trans ZX.out
  have k0 : w6.cell? ⟨pb, 0, none⟩ = some (.int .i64 4) := zP6.cell 0
  have HB6 : Hid (Below w.heap.size w w6) := Lib.hid (BX.out.trans (hf6.below (fun b hb => by simp only [List.mem_cons, List.not_mem_nil, or_false] at hb; omega) (by have := BX.out.size; omega)))
  have HF : Hid (RetRc w tn s q ds (.returned (.tuple #[.agg (pkC 4 tn s q (.slice D dn dc)), .int .i64 0])) (w6.setRow rb (pkC 4 tn s q (.slice D dn dc)))) := Lib.hid ⟨D, dn, dc, rfl, by
    refine (oD.fr (Fr.setRow rb _) (fun b hb hm => ?_)).mono BX.out.size
    rw [List.mem_singleton] at hm
    have := (oD.lt b hb).1
    omega, below_setRow HB6.out (by have := HRB.out; omega) _⟩
  have ZP6 := Lib.hid zP6
  have ZR6 := Lib.hid zR6
  clear hq6 oD hT6 zP6 hf6 zR6 l1 l2 l3 l4 l5 l6 l7 hsf
  go_wp2_with fail
  with_reducible refine HDN.out.mono ?_
  rintro e w7 ⟨rfl, rfl⟩
  go_wp2_with fail
  with_reducible refine (HK.out _).mono ?_
  rintro e w8 ⟨rfl, rfl⟩
  have hst := run_sc (cells := pkC 4 tn s q (.slice D dn dc)) ZR6.out rfl pk_one
  obtain ⟨pc, hpc⟩ : ∃ pc, pc = pkC 4 tn s q (.slice D dn dc) := ⟨_, rfl⟩
  rw [← hpc] at hst HF ZP6
  have hsz : pc.size = 29 := by rw [hpc]; rfl
  have size_pc : (Try.prog.info? 47).map (·.size) = some pc.size := by rw [hpc]; exact size_pkC
  have HZN : Hid (Cl (w8.setRow rb pc) rb pc 47) := Lib.hid (setRow_heap _ _ _ _ _ _ ZR6.out)
  have HSZ := Lib.hid size_pc
  clear hpc
  go_wp2_with (first
    | (refine wpList_load_row rfl _ _ rfl pb rfl 47 pc (0, 0) _ ZP6.out Try.underlying47 rfl size_pc ?_))
  exact bodyPost_ret (v := .tuple #[.agg pc, .int .i64 0]) (results_cellT rfl _ _ rb pc rfl (run_loadVar_row _ rb 47 47 pc (0, 0) _ HZN.out Try.underlying47 rfl HSZ.out) _ rfl) rfl HF.out
end Go.Proofs.Ytgccbghaibddcaa
namespace Go.Proofs.Ytgccbghaibddcaa
open Go Go.RowKit
def clA (id : Nat) (o : Bool) (s q : Nat) (R : Value) : Array Value := #[.int .u64 (id : Int), .bool o, .int .u64 (s : Int), .int .u64 (q : Int), R, .slice none 0 0]
set_option maxRecDepth 100000 in
theorem newS_any (id : Nat) (w : World) : Calls Try.prog 15 #[.int .u64 (id : Int)] w (fun e w' => e = .returned (.pointer (some ⟨w.heap.size, 0, none⟩)) ∧ Cl w' w.heap.size (clA id false 0 0 (.slice none 0 0)) 124 ∧ Below w.heap.size w w') := by
  have HF : Hid (Cl (w.alloc (.cells #[.int .u64 (id : Int), .bool false, .int .u64 0, .int .u64 0, .slice none 0 0, .slice none 0 0] 124)) w.heap.size (clA id false 0 0 (.slice none 0 0)) 124) := Lib.hid (Cl.new _ _ _)
  have HB : Hid (Below w.heap.size w (w.alloc (.cells #[.int .u64 (id : Int), .bool false, .int .u64 0, .int .u64 0, .slice none 0 0, .slice none 0 0] 124))) := Lib.hid ((Below.refl _ _).alloc (Nat.le_refl _) _)
  go_enter Try.func15, Try.ntmps15
  go_wp2_with fail
  go_ret
  exact ⟨rfl, HF.out, HB.out⟩
def RetAs (w : World) (p id : Nat) (e : Ending) (w' : World) : Prop := e = .returned (.tuple #[.agg #[.int .u64 (id : Int), .int .u64 1], .int .i64 0]) ∧ ∃ R rn rc, Cl w' p (clA id true id 1 (.slice R rn rc)) 124 ∧ Own 5 w' w.heap.size R rn rc (putU 0) ∧ Fr w w' [p]
set_option maxRecDepth 100000 in
set_option maxHeartbeats 8000000 in
theorem ask1S_any {w : World} {p id : Nat} (z : Cl w p (clA id false 0 0 (.slice none 0 0)) 124) : Calls Try.prog 16 #[.pointer (some ⟨p, 0, none⟩), .slice none 0 0] w (RetAs w p id) := by
  obtain ⟨U, hU⟩ : ∃ U, U = w.alloc (.cells #[.int .u64 0, .int .u64 0] 24) := ⟨_, rfl⟩
  obtain ⟨g, hg⟩ : ∃ g, g = w.heap.size := ⟨_, rfl⟩
  have bU : Below w.heap.size w U := by rw [hU]; exact (Below.refl _ _).alloc (Nat.le_refl _) _
  have zg : Cl U g #[.int .u64 0, .int .u64 0] 24 := by rw [hU, hg]; exact Cl.new _ _ _
  have hpg : p < g := by rw [hg]; exact z.lt
  have zU := z.below bU
  have HEN := Lib.hid (encNil_any U)
  have c1 : U.cell? ⟨p, 1, none⟩ = some (.bool false) := zU.cell 1
  have HU := Lib.hid hU
  have HG := Lib.hid hg
  have BU := Lib.hid bU
  have ZU := Lib.hid zU
  have ZG := Lib.hid zg
  clear z hU hg bU zU zg
  go_enter Try.func16, Try.ntmps16
  go_upto_region 1 with (fail)
  rw [← HU.out, ← HG.out]
  go_wp2_with fail
  with_reducible refine HEN.out.mono ?_
  intro e w2 hq
  obtain ⟨R, rn, rc, h1, oR, b2⟩ := hq
  subst h1
  have hrn : rn ≤ 10 := by have h1 := oR.len; have h2 := putU_len64 0 (by unfold B64; omega); omega
  have z2 := ZU.out.below b2
  obtain ⟨V, hV⟩ : ∃ V, V = (w2.setCell ⟨p, 1, none⟩ (.bool true)).setCell ⟨p, 4, none⟩ (.slice R rn rc) := ⟨_, rfl⟩
  have d1 : w2.cell? ⟨p, 1, none⟩ = some (.bool false) := z2.cell 1
  have d1t := z2.thaw 1
  have z3 : Cl (w2.setCell ⟨p, 1, none⟩ (.bool true)) p #[.int .u64 (id : Int), .bool true, .int .u64 0, .int .u64 0, .slice none 0 0, .slice none 0 0] 124 := z2.set 1 (.bool true)
  have d4 : (w2.setCell ⟨p, 1, none⟩ (.bool true)).cell? ⟨p, 4, none⟩ = some (.slice none 0 0) := z3.cell 4
  have d4t := z3.thaw 4
  have zV : Cl V p #[.int .u64 (id : Int), .bool true, .int .u64 0, .int .u64 0, .slice R rn rc, .slice none 0 0] 124 := by rw [hV]; exact z3.set 4 (.slice R rn rc)
  have HV := Lib.hid hV
  have ZV := Lib.hid zV
  have t1 : decide (8000 < (rn : Int)) = false := by simp; omega
  obtain ⟨X, hX⟩ : ∃ X, X = ((V.setCell ⟨p, 2, none⟩ (.int .u64 (id : Int))).setCell ⟨p, 3, none⟩ (.int .u64 1)).drew := ⟨_, rfl⟩
  have v0 : V.drew.cell? ⟨p, 0, none⟩ = some (.int .u64 (id : Int)) := zV.cell 0
  have v2 : V.drew.cell? ⟨p, 2, none⟩ = some (.int .u64 0) := zV.cell 2
  have v2t : V.drew.frozen? ⟨p, 2, none⟩ = false := zV.thaw 2
  have v5 : V.drew.cell? ⟨p, 5, none⟩ = some (.slice none 0 0) := zV.cell 5
  have y1 : Cl (V.setCell ⟨p, 2, none⟩ (.int .u64 (id : Int))) p #[.int .u64 (id : Int), .bool true, .int .u64 (id : Int), .int .u64 0, .slice R rn rc, .slice none 0 0] 124 := zV.set 2 (.int .u64 (id : Int))
  have v3 : V.cell? ⟨p, 3, none⟩ = some (.int .u64 0) := zV.cell 3
  have v3t := zV.thaw 3
  have zX : Cl X p #[.int .u64 (id : Int), .bool true, .int .u64 (id : Int), .int .u64 1, .slice R rn rc, .slice none 0 0] 124 := by rw [hX]; exact (y1.set 3 (.int .u64 1)).drewN 1
  have gX : Cl X g #[.int .u64 0, .int .u64 0] 24 := by
    rw [hX, hV]
    exact (((((show Cl w2 g _ _ from ZG.out.below b2).off 1 (.bool true) (by omega)).off 4 (.slice R rn rc) (by omega)).off 2 (.int .u64 (id : Int)) (by omega)).off 3 (.int .u64 1) (by omega)).drewN 1
  have fX : Fr w2 X [p] := by
    rw [hX, hV]
    exact ((((Fr.set w2 p 1 (.bool true)).trans (Fr.set _ p 4 (.slice R rn rc)) (fun _ hb => .inl hb)).trans (Fr.set _ p 2 (.int .u64 (id : Int))) (fun _ hb => .inl hb)).trans (Fr.set _ p 3 (.int .u64 1)) (fun _ hb => .inl hb)).trans (Fr.of_below (Below.refl _ _).drew [p]) (fun _ hb => .inl hb)
  have oX : Own 5 X U.heap.size R rn rc (putU 0) := oR.fr fX (fun b hb hm => by
    rw [List.mem_singleton] at hm
    subst hm
    exact cl_row z2 oR (by decide) hb)
  have HX := Lib.hid hX
  have ZX := Lib.hid zX
  have GX := Lib.hid gX
  have FX := Lib.hid fX
  have OX := Lib.hid oX
  have B2 := Lib.hid b2
  clear oR b2 z2 hV z3 zV hX y1 zX gX fX oX
  go_upto_region 7 with (fail)
  rw [← HV.out]
  clear d1 d1t d4 d4t c1
  go_region
  all_goals
    rw [← HX.out]
    clear v0 v2 v2t v5 v3 v3t
    have x2 : X.cell? ⟨p, 2, none⟩ = some (.int .u64 (id : Int)) := ZX.out.cell 2
    have x3 : X.cell? ⟨p, 3, none⟩ = some (.int .u64 1) := ZX.out.cell 3
    have g0 : X.cell? ⟨g, 0, none⟩ = some (.int .u64 0) := GX.out.cell 0
    have g0t := GX.out.thaw 0
    have g1 : X.cell? ⟨g, 1, none⟩ = some (.int .u64 0) := GX.out.cell 1
    have g1t := GX.out.thaw 1
    obtain ⟨Y, hY⟩ : ∃ Y, Y = (X.setCell ⟨g, 0, none⟩ (.int .u64 (id : Int))).setCell ⟨g, 1, none⟩ (.int .u64 1) := ⟨_, rfl⟩
    have zY : Cl Y g #[.int .u64 (id : Int), .int .u64 1] 24 := by rw [hY]; exact (GX.out.set 0 (.int .u64 (id : Int))).set 1 (.int .u64 1)
    have HZY := Lib.hid zY
    have HF : Hid (RetAs w p id (.returned (.tuple #[.agg #[.int .u64 (id : Int), .int .u64 1], .int .i64 0])) Y) := Lib.hid (by
      have fY : Fr X Y [g] := by rw [hY]; exact (Fr.set X g 0 (.int .u64 (id : Int))).trans (Fr.set _ g 1 (.int .u64 1)) (fun _ hb => .inl hb)
      have hgU : g < U.heap.size := ZG.out.lt
      refine ⟨rfl, R, rn, rc, ?_, ?_, ?_⟩
      · rw [hY]
        exact (ZX.out.off 0 (.int .u64 (id : Int)) (by omega)).off 1 (.int .u64 1) (by omega)
      · refine (OX.out.fr fY (fun b hb hm => ?_)).mono BU.out.size
        rw [List.mem_singleton] at hm
        have := (OX.out.lt b hb).1
        omega
      · have f1 := ((Fr.of_below BU.out [p]).trans (Fr.of_below B2.out [p]) (fun _ hb => .inl hb)).trans FX.out (fun _ hb => .inl hb)
        exact f1.trans fY (fun b hb => .inr (by rw [List.mem_singleton] at hb; have := HG.out; omega)))
    have HYE := Lib.hid hY
    clear zY hY
    go_wp2_with fail
    rw [← HYE.out]
    exact bodyPost_ret (v := .tuple #[.agg #[.int .u64 (id : Int), .int .u64 1], .int .i64 0]) (results_cellT rfl _ _ g #[.int .u64 (id : Int), .int .u64 1] rfl (run_loadVar_row _ g 24 24 #[.int .u64 (id : Int), .int .u64 1] (0, 0) _ HZY.out Try.underlying24 rfl rfl) _ rfl) rfl HF.out
set_option maxRecDepth 100000 in
set_option maxHeartbeats 8000000 in
/-- Asked again, it is busy. -/
theorem ask2S_any {w : World} {p id : Nat} {s q : Nat} {R : Value} (z : Cl w p (clA id true s q R) 124) : Calls Try.prog 16 #[.pointer (some ⟨p, 0, none⟩), .slice none 0 0] w (fun e w' => e = .returned (.tuple #[.agg #[.int .u64 0, .int .u64 0], .int .i64 12]) ∧ Below w.heap.size w w') := by
  obtain ⟨U, hU⟩ : ∃ U, U = w.alloc (.cells #[.int .u64 0, .int .u64 0] 24) := ⟨_, rfl⟩
  obtain ⟨g, hg⟩ : ∃ g, g = w.heap.size := ⟨_, rfl⟩
  have bU : Below w.heap.size w U := by rw [hU]; exact (Below.refl _ _).alloc (Nat.le_refl _) _
  have zg : Cl U g #[.int .u64 0, .int .u64 0] 24 := by rw [hU, hg]; exact Cl.new _ _ _
  have c1 : U.cell? ⟨p, 1, none⟩ = some (.bool true) := (z.below bU).cell 1
  have g0 : U.cell? ⟨g, 0, none⟩ = some (.int .u64 0) := zg.cell 0
  have g0t := zg.thaw 0
  have g1 : U.cell? ⟨g, 1, none⟩ = some (.int .u64 0) := zg.cell 1
  have g1t := zg.thaw 1
  obtain ⟨Y, hY⟩ : ∃ Y, Y = (U.setCell ⟨g, 0, none⟩ (.int .u64 0)).setCell ⟨g, 1, none⟩ (.int .u64 0) := ⟨_, rfl⟩
  have HZY : Hid (Cl Y g #[.int .u64 0, .int .u64 0] 24) := Lib.hid (by rw [hY]; exact (zg.set 0 (.int .u64 0)).set 1 (.int .u64 0))
  have HF : Hid (Below w.heap.size w Y) := Lib.hid (by
    rw [hY]
    exact (bU.trans ((Fr.set U g 0 (.int .u64 0)).below (fun b hb => by rw [List.mem_singleton] at hb; omega) bU.size)).trans ((Fr.set _ g 1 (.int .u64 0)).below (fun b hb => by rw [List.mem_singleton] at hb; omega) (by simpa using bU.size)))
  have HU := Lib.hid hU
  have HG := Lib.hid hg
  have HYE := Lib.hid hY
  clear z hU hg bU zg hY
  go_enter Try.func16, Try.ntmps16
  go_upto_region 1 with (fail)
  rw [← HU.out, ← HG.out]
  go_wp2_with fail
  rw [← HYE.out]
  exact bodyPost_ret (v := .tuple #[.agg #[.int .u64 0, .int .u64 0], .int .i64 12]) (results_cellT rfl _ _ g #[.int .u64 0, .int .u64 0] rfl (run_loadVar_row _ g 24 24 #[.int .u64 0, .int .u64 0] (0, 0) _ HZY.out Try.underlying24 rfl rfl) _ rfl) rfl ⟨rfl, HF.out⟩
end Go.Proofs.Ytgccbghaibddcaa
namespace Go.Proofs.Ytgccbghaibddcaa
open Go Go.RowKit
theorem pkC_lit {tn : Int} {s q : Nat} {D : Option Addr} {dn dc : Nat} : (#[.int .i64 4, .int .i64 0, .int .i64 tn, .int .i64 0, .int .i64 0, .int .i64 0, .int .i64 0, .int .u64 (s : Int), .int .u64 (q : Int), .int .i64 0, .int .i64 0, .int .i64 0, .int .i64 0, .int .u64 0, .int .u64 0, .int .u64 0, .int .u64 0, .slice none 0 0, .bool false, .slice none 0 0, .int .i64 0, .int .i64 0, .int .u64 0, .slice none 0 0, .bool false, .int .u64 0, .slice none 0 0, .slice none 0 0, .slice D dn dc] : Array Value) = pkC 4 tn s q (.slice D dn dc) := rfl
theorem pkC_size {kd tn : Int} {s q : Nat} {D : Value} : (pkC kd tn s q D).size = 29 := rfl
theorem pkC_old {kd tn : Int} {s q : Nat} {D : Value} : pkZL.size = (pkC kd tn s q D).size := rfl
set_option maxRecDepth 100000 in
set_option maxHeartbeats 16000000 in
theorem callS_any {w : World} {p id s q : Nat} (tn : Int) {R : Option Addr} {rn rc : Nat} {rs : List UInt8} (z : Cl w p (clA id true s q (.slice R rn rc)) 124) (hr : Rd w R rn rs) (hn : R = none → rc = 0) (hrn : rn ≤ 1048576) :
    Calls Try.prog 19 #[.pointer (some ⟨p, 0, none⟩), .int .i64 tn] w (fun e w' => ∃ D dn dc, e = .returned (.tuple #[.agg (pkC 4 tn s q (.slice D dn dc)), .bool true]) ∧ Own 5 w' w.heap.size D dn dc rs ∧ Below w.heap.size w w') := by
  obtain ⟨U, hU⟩ : ∃ U, U = w.alloc (.cells pkZL 47) := ⟨_, rfl⟩
  obtain ⟨g, hg⟩ : ∃ g, g = w.heap.size := ⟨_, rfl⟩
  have bU : Below w.heap.size w U := by rw [hU]; exact (Below.refl _ _).alloc (Nat.le_refl _) _
  have zg : Cl U g pkZL 47 := by rw [hU, hg]; exact Cl.new _ _ _
  have zU := z.below bU
  have hB1 : Below U.heap.size U U.drew := (Below.refl _ _).drew
  have HCL : Hid (Calls Try.prog 45 #[.slice R rn rc] U.drew (Made U.drew.heap.size U.drew rs)) := Lib.hid (Clone_any R rn rc rs _ ((hr.below bU).drew) (by omega) hn)
  have HZ : Hid (∀ wx, Below U.heap.size U wx → Cl wx g pkZL 47 ∧ wx.cell? ⟨p, 2, none⟩ = some (.int .u64 (s : Int)) ∧ wx.cell? ⟨p, 3, none⟩ = some (.int .u64 (q : Int))) := Lib.hid (fun wx hb => ⟨zg.below hb, (zU.below hb).cell 2, (zU.below hb).cell 3⟩)
  have HF : Hid (∀ D dn dc w2, Own 5 w2 U.drew.heap.size D dn dc rs → Below U.heap.size U w2 → Own 5 (w2.setRow g (pkC 4 tn s q (.slice D dn dc))) w.heap.size D dn dc rs ∧ Below w.heap.size w (w2.setRow g (pkC 4 tn s q (.slice D dn dc)))) := Lib.hid (fun D dn dc w2 o b => by
    have hgl : g < U.heap.size := zg.lt
    refine ⟨(o.fr (Fr.setRow g _) (fun b hb hm => ?_)).mono (show w.heap.size ≤ U.heap.size from bU.size), (belowT' bU b).trans ((Fr.setRow g _).below (fun b hb => ?_) (belowT' bU b).size)⟩
    · rw [List.mem_singleton] at hm
      have h1 := (o.lt b hb).1
      have h2 : U.drew.heap.size = U.heap.size := rfl
      omega
    · rw [List.mem_singleton] at hb
      omega)
  have c1 : U.cell? ⟨p, 1, none⟩ = some (.bool true) := zU.cell 1
  have c2 : U.drew.cell? ⟨p, 2, none⟩ = some (.int .u64 (s : Int)) := zU.cell 2
  have c3 : U.drew.cell? ⟨p, 3, none⟩ = some (.int .u64 (q : Int)) := zU.cell 3
  have c4 : U.drew.cell? ⟨p, 4, none⟩ = some (.slice R rn rc) := zU.cell 4
  have HU := Lib.hid hU
  have HG := Lib.hid hg
  clear z hr hn hU hg bU zg zU
  unfold pkZL at HU
  go_enter Try.func19, Try.ntmps19
  go_upto_region 1 with (fail)
  rw [← HU.out, ← HG.out]
  go_upto_region 3 with (fail)
  go_region_law (first | (go_simp; go_at_call 45; with_reducible refine HCL.out.mono ?_; intro e w2 hq; obtain ⟨D, dn, dc, h1, oD, b2⟩ := Made.outS hq; subst h1; have hb2 := belowT' hB1 b2; obtain ⟨hz, e2, e3⟩ := HZ.out w2 hb2; have hpc : (#[.int .i64 4, .int .i64 0, .int .i64 tn, .int .i64 0, .int .i64 0, .int .i64 0, .int .i64 0, .int .u64 (s : Int), .int .u64 (q : Int), .int .i64 0, .int .i64 0, .int .i64 0, .int .i64 0, .int .u64 0, .int .u64 0, .int .u64 0, .int .u64 0, .slice none 0 0, .bool false, .slice none 0 0, .int .i64 0, .int .i64 0, .int .u64 0, .slice none 0 0, .bool false, .int .u64 0, .slice none 0 0, .slice none 0 0, .slice D dn dc] : Array Value) = pkC 4 tn s q (.slice D dn dc) := pkC_lit; have hsz : (pkC 4 tn s q (.slice D dn dc)).size = 29 := pkC_size; have hst := run_sc (cells := pkC 4 tn s q (.slice D dn dc)) hz pkC_old pk_one))
  all_goals
    have HZN : Hid (Cl (w2.setRow g (pkC 4 tn s q (.slice D dn dc))) g (pkC 4 tn s q (.slice D dn dc)) 47) := Lib.hid (setRow_heap _ _ _ _ _ _ hz)
    have HFF := Lib.hid (HF.out D dn dc w2 oD hb2)
    clear hpc hsz hst hz e2 e3 oD hb2 b2 hq c1 c2 c3 c4
    go_wp2_with fail
    exact bodyPost_ret (v := .tuple #[.agg (pkC 4 tn s q (.slice D dn dc)), .bool true]) (results_cellT rfl _ _ g (pkC 4 tn s q (.slice D dn dc)) rfl (run_loadVar_row _ g 47 47 (pkC 4 tn s q (.slice D dn dc)) (0, 0) _ HZN.out Try.underlying47 rfl size_pkC) _ rfl) rfl ⟨D, dn, dc, rfl, HFF.out.1, HFF.out.2⟩
end Go.Proofs.Ytgccbghaibddcaa
namespace Go.Proofs.Ytgccbghaibddcaa
open Go Go.RowKit
/-- A packet that is kept in a variable. -/
theorem run_scN {w : World} {g : Nat} {cells : Array Value} (hg : g = w.heap.size) (ho : 29 = cells.size) (h1 : cells.all (·.oneCell') = true) : (storeCells ⟨g, 0, none⟩ cells.toList).run Try.prog (w.alloc (.cells #[.int .i64 0, .int .i64 0, .int .i64 0, .int .i64 0, .int .i64 0, .int .i64 0, .int .i64 0, .int .u64 0, .int .u64 0, .int .i64 0, .int .i64 0, .int .i64 0, .int .i64 0, .int .u64 0, .int .u64 0, .int .u64 0, .int .u64 0, .slice none 0 0, .bool false, .slice none 0 0, .int .i64 0, .int .i64 0, .int .u64 0, .slice none 0 0, .bool false, .int .u64 0, .slice none 0 0, .slice none 0 0, .slice none 0 0] 47)) = .ok () ((w.alloc (.cells #[.int .i64 0, .int .i64 0, .int .i64 0, .int .i64 0, .int .i64 0, .int .i64 0, .int .i64 0, .int .u64 0, .int .u64 0, .int .i64 0, .int .i64 0, .int .i64 0, .int .i64 0, .int .u64 0, .int .u64 0, .int .u64 0, .int .u64 0, .slice none 0 0, .bool false, .slice none 0 0, .int .i64 0, .int .i64 0, .int .u64 0, .slice none 0 0, .bool false, .int .u64 0, .slice none 0 0, .slice none 0 0, .slice none 0 0] 47)).setRow g cells) :=
  run_sc (show Cl _ _ _ 47 from Cl.newg _ _ _ _ hg) ho h1
theorem below_pk {w : World} {g : Nat} {cells : Array Value} (hg : g = w.heap.size) : Below w.heap.size w ((w.alloc (.cells #[.int .i64 0, .int .i64 0, .int .i64 0, .int .i64 0, .int .i64 0, .int .i64 0, .int .i64 0, .int .u64 0, .int .u64 0, .int .i64 0, .int .i64 0, .int .i64 0, .int .i64 0, .int .u64 0, .int .u64 0, .int .u64 0, .int .u64 0, .slice none 0 0, .bool false, .slice none 0 0, .int .i64 0, .int .i64 0, .int .u64 0, .slice none 0 0, .bool false, .int .u64 0, .slice none 0 0, .slice none 0 0, .slice none 0 0] 47)).setRow g cells) ∧ Cl ((w.alloc (.cells #[.int .i64 0, .int .i64 0, .int .i64 0, .int .i64 0, .int .i64 0, .int .i64 0, .int .i64 0, .int .u64 0, .int .u64 0, .int .i64 0, .int .i64 0, .int .i64 0, .int .i64 0, .int .u64 0, .int .u64 0, .int .u64 0, .int .u64 0, .slice none 0 0, .bool false, .slice none 0 0, .int .i64 0, .int .i64 0, .int .u64 0, .slice none 0 0, .bool false, .int .u64 0, .slice none 0 0, .slice none 0 0, .slice none 0 0] 47)).setRow g cells) g cells 47 ∧ ((w.alloc (.cells #[.int .i64 0, .int .i64 0, .int .i64 0, .int .i64 0, .int .i64 0, .int .i64 0, .int .i64 0, .int .u64 0, .int .u64 0, .int .i64 0, .int .i64 0, .int .i64 0, .int .i64 0, .int .u64 0, .int .u64 0, .int .u64 0, .int .u64 0, .slice none 0 0, .bool false, .slice none 0 0, .int .i64 0, .int .i64 0, .int .u64 0, .slice none 0 0, .bool false, .int .u64 0, .slice none 0 0, .slice none 0 0, .slice none 0 0] 47)).setRow g cells).heap.size = w.heap.size + 1 :=
  ⟨below_setRow ((Below.refl _ _).alloc (Nat.le_refl _) _) (by omega) _, setRow_heap _ _ _ _ _ _ (show Cl _ _ _ 47 from Cl.newg _ _ _ _ hg), by rw [setRow_size]; simp⟩
set_option maxRecDepth 100000 in
theorem eqTxnS (a b c d : Int) (w : World) : (binOp .eql 24 (.agg #[.int .u64 a, .int .u64 b]) (.agg #[.int .u64 c, .int .u64 d])).run Try.prog w = .ok (.bool (a == c && b == d)) w := by
  have hS : Try.prog.underlying 24 = some (.struct (Try.prog.fieldsOf 24)) := by kernel_rfl
  have hp : Try.prog.stoodInHeld 24 = false := by kernel_rfl
  have u := Try.underlying22
  rw [run_eql_struct, show (10000 : Nat) = 9999 + 1 from rfl, run_equalIn_agg w 9999 24 _ _ hS hp]
  simp only [Program.fieldsOf, Try.underlying24]
  go_simp
  by_cases h1 : a = c <;> by_cases h2 : b = d <;> simp [h1, h2]
set_option maxRecDepth 100000 in
set_option maxHeartbeats 16000000 in
theorem awake24_any (w : World) : Calls Try.prog 7 #[] w (fun e w' => e = .returned (.bool true) ∧ Below w.heap.size w w') := by
  have HNW : Hid (Calls Try.prog 15 #[.int .u64 7] w (fun e w' => e = .returned (.pointer (some ⟨w.heap.size, 0, none⟩)) ∧ Cl w' w.heap.size (clA 7 false 0 0 (.slice none 0 0)) 124 ∧ Below w.heap.size w w')) := Lib.hid (newS_any 7 w)
  obtain ⟨p, hp⟩ : ∃ p, p = w.heap.size := ⟨_, rfl⟩
  rw [← hp] at HNW
  have HP := Lib.hid hp
  rw [← hp]
  go_enter Try.func7, Try.ntmps7
  go_wp2_with fail
  with_reducible refine HNW.out.mono ?_
  rintro e w1 ⟨rfl, z1, b1⟩
  have HA : Hid (Calls Try.prog 16 #[.pointer (some ⟨p, 0, none⟩), .slice none 0 0] w1 (RetAs w1 p 7)) := Lib.hid (ask1S_any z1)
  have B1 := Lib.hid b1
  have P1 : Hid (p < w1.heap.size) := Lib.hid z1.lt
  clear z1 b1 HNW hp
  go_wp2_with fail
  with_reducible refine HA.out.mono ?_
  intro e w2 hq
  obtain ⟨h1, R, rn, rc, z2, oR, f2⟩ := hq
  have h1' : e = .returned (.tuple #[.agg #[.int .u64 7, .int .u64 1], .int .i64 0]) := h1
  subst h1'
  obtain ⟨X, hX⟩ : ∃ X, X = w2.alloc (.cells #[.int .u64 7, .int .u64 1] 24) := ⟨_, rfl⟩
  obtain ⟨gx, hgx⟩ : ∃ gx, gx = w2.heap.size := ⟨_, rfl⟩
  have bX : Below w2.heap.size w2 X := by rw [hX]; exact (Below.refl _ _).alloc (Nat.le_refl _) _
  have zX : Cl X gx #[.int .u64 7, .int .u64 1] 24 := by rw [hX, hgx]; exact Cl.new _ _ _
  have HA2 := Lib.hid (ask2S_any (z2.below bX))
  have s1 := B1.out.size
  have s2 := f2.size
  have hpw := HP.out
  have bf2 : Below w.heap.size w1 w2 := f2.below (fun b hb => by rw [List.mem_singleton] at hb; omega) (by omega)
  have BX : Hid (Below w.heap.size w X) := Lib.hid ((Below.trans (show Below w.heap.size w w1 from (by have h := B1.out; rw [hpw] at h; exact h)) bf2).trans (bX.mono (by omega)))
  have ZX := Lib.hid zX
  have Z2 := Lib.hid (z2.below bX)
  have OR := Lib.hid (oR.below bX)
  have HXE := Lib.hid hX
  have HGX := Lib.hid hgx
  clear h1 z2 oR f2 hX hgx bX zX HA bf2 s1 s2 hpw
  go_wp2_with fail
  rw [← HXE.out, ← HGX.out]
  with_reducible refine HA2.out.mono ?_
  rintro e w3 ⟨rfl, b3⟩
  obtain ⟨V, hV⟩ : ∃ V, V = w3.alloc (.cells #[.int .u64 0, .int .u64 0] 24) := ⟨_, rfl⟩
  have bV : Below w3.heap.size w3 V := by rw [hV]; exact (Below.refl _ _).alloc (Nat.le_refl _) _
  have b3V := belowT' b3 bV
  have HCA := Lib.hid (callS_any (s := 7) (q := 1) 2 (Z2.out.below b3V) (OR.out.below b3V).rd (fun h => (OR.out.nil_of (by rw [h]; rfl)).2.2) (by have h1 := OR.out.len; have h2 := putU_len64 0 (by unfold B64; omega); omega))
  have BV := Lib.hid (BX.out.trans (b3V.mono BX.out.size))
  have ZV := Lib.hid (ZX.out.below b3V)
  have HVE := Lib.hid hV
  clear b3 hV bV b3V HA2
  go_wp2_with fail
  rw [← HVE.out]
  with_reducible refine HCA.out.mono ?_
  rintro e w4 ⟨D, dn, dc, rfl, oD, b4⟩
  obtain ⟨gk, hgk⟩ : ∃ gk, gk = w4.heap.size := ⟨_, rfl⟩
  have hst := run_scN (w := w4) (g := gk) (cells := pkC 4 2 7 1 (.slice D dn dc)) hgk pkC_size.symm pk_one
  have hsz : (pkC 4 2 7 1 (.slice D dn dc)).size = 29 := rfl
  obtain ⟨k1, k2, k3⟩ := below_pk (w := w4) (cells := pkC 4 2 7 1 (.slice D dn dc)) hgk
  obtain ⟨Y, hY⟩ : ∃ Y, Y = (w4.alloc (.cells #[.int .i64 0, .int .i64 0, .int .i64 0, .int .i64 0, .int .i64 0, .int .i64 0, .int .i64 0, .int .u64 0, .int .u64 0, .int .i64 0, .int .i64 0, .int .i64 0, .int .i64 0, .int .u64 0, .int .u64 0, .int .u64 0, .int .u64 0, .slice none 0 0, .bool false, .slice none 0 0, .int .i64 0, .int .i64 0, .int .u64 0, .slice none 0 0, .bool false, .int .u64 0, .slice none 0 0, .slice none 0 0, .slice none 0 0] 47)).setRow gk (pkC 4 2 7 1 (.slice D dn dc)) := ⟨_, rfl⟩
  rw [← hY] at hst k1 k2 k3
  have y0 : Y.cell? ⟨gk, 0, none⟩ = some (.int .i64 4) := k2.cell 0
  have y2 : Y.cell? ⟨gk, 2, none⟩ = some (.int .i64 2) := k2.cell 2
  have y7 : Y.cell? ⟨gk, 7, none⟩ = some (.int .u64 7) := k2.cell 7
  have y8 : Y.cell? ⟨gk, 8, none⟩ = some (.int .u64 1) := k2.cell 8
  have zz := ZV.out.below (belowT' b4 k1)
  have x0 : Y.cell? ⟨gx, 0, none⟩ = some (.int .u64 7) := zz.cell 0
  have x1 : Y.cell? ⟨gx, 1, none⟩ = some (.int .u64 1) := zz.cell 1
  have heq := eqTxnS 7 1 7 1
  have HF := Lib.hid (BV.out.trans ((belowT' b4 k1).mono BV.out.size))
  rw [hgk] at hst y0 y2 y7 y8
  have HGK := Lib.hid hgk
  clear oD b4 k1 k2 k3 hY zz hgk HCA
  go_wp2_with fail
  go_ret
  exact ⟨rfl, by rw [HP.out]; exact HF.out⟩
end Go.Proofs.Ytgccbghaibddcaa
namespace Go.Proofs.Ytgccbghaibddcaa
open Go Go.RowKit
theorem pkC_zero {D : Value} : (#[.int .i64 4, .int .i64 0, .int .i64 0, .int .i64 0, .int .i64 0, .int .i64 0, .int .i64 0, .int .u64 0, .int .u64 0, .int .i64 0, .int .i64 0, .int .i64 0, .int .i64 0, .int .u64 0, .int .u64 0, .int .u64 0, .int .u64 0, .slice none 0 0, .bool false, .slice none 0 0, .int .i64 0, .int .i64 0, .int .u64 0, .slice none 0 0, .bool false, .int .u64 0, .slice none 0 0, .slice none 0 0, D] : Array Value) = pkC 4 0 0 0 D := rfl
theorem RetRc.out {w : World} {tn : Int} {s q : Nat} {ds : List UInt8} {e : Ending} {w' : World} (h : RetRc w tn s q ds e w') : ∃ D dn dc, e = .returned (.tuple #[.agg (pkC 4 tn s q (.slice D dn dc)), .int .i64 0]) ∧ Own 5 w' w.heap.size D dn dc ds ∧ Below w.heap.size w w' := h
set_option maxRecDepth 100000 in
set_option maxHeartbeats 32000000 in
theorem sessionKeeps_any (A : Option Addr) (la ca : Nat) (xs : List UInt8) (w : World) (hx : Rd w A la xs) (_hla : la ≤ ca) (_hca : ca ≤ 140737488351232) :
    Calls Try.prog 6 #[.slice A la ca] w (RetT w true) := by
  have HXL := Lib.hid hx.len
  have HX := Lib.hid hx
  have HAW := Lib.hid (awake24_any w)
  clear hx
  go_enter Try.func6, Try.ntmps6
  go_wp2_with fail
  with_reducible refine HAW.out.mono ?_
  rintro e w1 ⟨rfl, k1⟩
  have HK1 := Lib.hid k1
  clear k1 HAW
  by_cases hbig : 2000 < la
  · have t1 : decide (2000 < (la : Int)) = true := by simp; omega
    go_wp2_with fail
    go_ret
    exact ⟨rfl, HK1.out⟩
  have t1 : decide (2000 < (la : Int)) = false := by simp; omega
  go_wp2_with fail
  refine (Spare_any A la ca xs _ (HX.out.below HK1.out) (by omega)).mono ?_
  rintro e w2 ⟨gx, rfl, ox, hb2⟩
  have HB2 := Lib.hid hb2
  have HK2 := Lib.hid (belowT' HK1.out hb2)
  have OX := Lib.hid ox
  obtain ⟨g5, hg5⟩ : ∃ g5, g5 = w2.heap.size := ⟨_, rfl⟩
  obtain ⟨X, hX⟩ : ∃ X, X = (w2.alloc (.cells #[.int .i64 0, .int .i64 0, .int .i64 0, .int .i64 0, .int .i64 0, .int .i64 0, .int .i64 0, .int .u64 0, .int .u64 0, .int .i64 0, .int .i64 0, .int .i64 0, .int .i64 0, .int .u64 0, .int .u64 0, .int .u64 0, .int .u64 0, .slice none 0 0, .bool false, .slice none 0 0, .int .i64 0, .int .i64 0, .int .u64 0, .slice none 0 0, .bool false, .int .u64 0, .slice none 0 0, .slice none 0 0, .slice none 0 0] 47)).setRow g5 (pkC 4 0 0 0 (.slice (some ⟨gx, 0, none⟩) la (la + 40))) := ⟨_, rfl⟩
  have hpc : (#[.int .i64 4, .int .i64 0, .int .i64 0, .int .i64 0, .int .i64 0, .int .i64 0, .int .i64 0, .int .u64 0, .int .u64 0, .int .i64 0, .int .i64 0, .int .i64 0, .int .i64 0, .int .u64 0, .int .u64 0, .int .u64 0, .int .u64 0, .slice none 0 0, .bool false, .slice none 0 0, .int .i64 0, .int .i64 0, .int .u64 0, .slice none 0 0, .bool false, .int .u64 0, .slice none 0 0, .slice none 0 0, .slice (some ⟨gx, 0, none⟩) la (la + 40)] : Array Value) = pkC 4 0 0 0 (.slice (some ⟨gx, 0, none⟩) la (la + 40)) := pkC_zero
  have hsz : (pkC 4 0 0 0 (.slice (some ⟨gx, 0, none⟩) la (la + 40))).size = 29 := pkC_size
  have hst := run_scN (w := w2) (g := g5) (cells := pkC 4 0 0 0 (.slice (some ⟨gx, 0, none⟩) la (la + 40))) hg5 pkC_size.symm pk_one
  obtain ⟨bX, zX, sX⟩ := below_pk (w := w2) (g := g5) (cells := pkC 4 0 0 0 (.slice (some ⟨gx, 0, none⟩) la (la + 40))) hg5
  rw [← hX] at hst bX zX sX
  have HBY := Lib.hid (bytesC_any (w := X) 0 0 0 0 (some ⟨gx, 0, none⟩) la (la + 40) xs (rdPre2 (ox.below bX) HXL.out) (by decide) (by unfold B64; omega) (by unfold B64; omega) (by unfold B64; omega) (by omega))
  have HBX := Lib.hid bX
  have ZX := Lib.hid zX
  have HG5 := Lib.hid hg5
  rw [hg5] at hst zX
  have ZX' := Lib.hid zX
  clear ox hb2 hX bX zX sX hg5
  go_wp2_with (refine wpList_load_row rfl _ _ rfl w2.heap.size rfl 47 (pkC 4 0 0 0 (.slice (some ⟨gx, 0, none⟩) la (la + 40))) (0, 0) _ ZX'.out Try.underlying47 rfl size_pkC ?_)
  have hil := inC_len 0 0 0 xs (by unfold B64; omega) (by unfold B64; omega) (by unfold B64; omega) (by have := HXL.out; omega)
  have hlx := HXL.out
  have hsg : sealG (inC 0 0 0 xs) = (sealB (inC 0 0 0 xs), 0) := sealG_ok rfl (by omega)
  with_reducible refine HBY.out.mono ?_
  intro e w3 hq3
  obtain ⟨E, en, ec, h1, oE, b3⟩ := hq3
  rw [hsg] at h1 oE
  have h1' : e = .returned (.tuple #[.slice E en ec, .int .i64 0]) := h1
  subst h1'
  obtain ⟨bb, hbb⟩ : ∃ bb, bb = sealB (inC 0 0 0 xs) := ⟨_, rfl⟩
  have oE2 : Own 5 w3 X.heap.size E en ec bb := by rw [hbb]; exact oE
  have hen : en ≤ 2058 := by
    have h2 := oE2.len
    rw [hbb, sealB_len] at h2
    omega
  have HBB := Lib.hid hbb
  have OE := Lib.hid oE2
  have B3 := Lib.hid b3
  clear h1 oE oE2 b3 hbb hsg hil hpc hsz hst HBY ZX'
  go_wp2_with fail
  refine (Spare_any E en ec bb w3 OE.out.rd (by omega)).mono ?_
  rintro e w4 ⟨gs, rfl, os, hb4⟩
  have B4 := Lib.hid hb4
  have OS := Lib.hid os
  have hrd : Rd w4 (some ⟨gs, 0, none⟩) en (sealB (inC 0 0 0 xs)) := by
    rw [← HBB.out]
    exact rdPre2 os OE.out.len
  have HR1 : Hid (∀ wx, Below w4.heap.size w4 wx → Calls Try.prog 11 #[.slice (some ⟨gs, 0, none⟩) en (en + 40)] wx (RetRc wx 0 0 0 xs)) := Lib.hid (fun wx hb => readC_any (some ⟨gs, 0, none⟩) en (en + 40) 0 0 0 0 xs (hrd.below hb) (by omega) (fun h => by cases h) (by decide) (by unfold B64; omega) (by unfold B64; omega) (by unfold B64; omega) (by omega))
  have HRA := Lib.hid (HR1.out w4 (Below.refl _ _))
  clear os hb4 hrd
  go_wp2_with fail
  with_reducible refine HRA.out.mono ?_
  intro e w5 hq5
  obtain ⟨D1, n1, c1, h1, o1, b5⟩ := hq5.out
  subst h1
  have O1 := Lib.hid o1
  have B5 := Lib.hid b5
  obtain ⟨g10, hg10⟩ : ∃ g10, g10 = w5.heap.size := ⟨_, rfl⟩
  obtain ⟨X5, hX5⟩ : ∃ X5, X5 = (w5.alloc (.cells #[.int .i64 0, .int .i64 0, .int .i64 0, .int .i64 0, .int .i64 0, .int .i64 0, .int .i64 0, .int .u64 0, .int .u64 0, .int .i64 0, .int .i64 0, .int .i64 0, .int .i64 0, .int .u64 0, .int .u64 0, .int .u64 0, .int .u64 0, .slice none 0 0, .bool false, .slice none 0 0, .int .i64 0, .int .i64 0, .int .u64 0, .slice none 0 0, .bool false, .int .u64 0, .slice none 0 0, .slice none 0 0, .slice none 0 0] 47)).setRow g10 (pkC 4 0 0 0 (.slice D1 n1 c1)) := ⟨_, rfl⟩
  have hsz : (pkC 4 0 0 0 (.slice D1 n1 c1)).size = 29 := pkC_size
  have hst := run_scN (w := w5) (g := g10) (cells := pkC 4 0 0 0 (.slice D1 n1 c1)) hg10 pkC_size.symm pk_one
  obtain ⟨bX5, zX5, sX5⟩ := below_pk (w := w5) (g := g10) (cells := pkC 4 0 0 0 (.slice D1 n1 c1)) hg10
  rw [← hX5] at hst bX5 zX5 sX5
  rw [hg10] at hst
  have BX5 := Lib.hid bX5
  have ZX5 := Lib.hid zX5
  have Gg10 := Lib.hid hg10
  have HRB := Lib.hid (HR1.out X5 (belowT' b5 bX5))
  clear hq5 o1 b5 bX5 zX5 sX5 hX5 hg10 HRA
  go_wp2_with fail
  with_reducible refine HRB.out.mono ?_
  intro e w6 hq6
  obtain ⟨D2, n2, c2, h1, o2, b6⟩ := hq6.out
  subst h1
  clear hsz hst
  have O2 := Lib.hid o2
  have B6 := Lib.hid b6
  obtain ⟨g12, hg12⟩ : ∃ g12, g12 = w6.heap.size := ⟨_, rfl⟩
  obtain ⟨X6, hX6⟩ : ∃ X6, X6 = (w6.alloc (.cells #[.int .i64 0, .int .i64 0, .int .i64 0, .int .i64 0, .int .i64 0, .int .i64 0, .int .i64 0, .int .u64 0, .int .u64 0, .int .i64 0, .int .i64 0, .int .i64 0, .int .i64 0, .int .u64 0, .int .u64 0, .int .u64 0, .int .u64 0, .slice none 0 0, .bool false, .slice none 0 0, .int .i64 0, .int .i64 0, .int .u64 0, .slice none 0 0, .bool false, .int .u64 0, .slice none 0 0, .slice none 0 0, .slice none 0 0] 47)).setRow g12 (pkC 4 0 0 0 (.slice D2 n2 c2)) := ⟨_, rfl⟩
  have hsz : (pkC 4 0 0 0 (.slice D2 n2 c2)).size = 29 := pkC_size
  have hst := run_scN (w := w6) (g := g12) (cells := pkC 4 0 0 0 (.slice D2 n2 c2)) hg12 pkC_size.symm pk_one
  obtain ⟨bX6, zX6, sX6⟩ := below_pk (w := w6) (g := g12) (cells := pkC 4 0 0 0 (.slice D2 n2 c2)) hg12
  rw [← hX6] at hst bX6 zX6 sX6
  rw [hg12] at hst
  have BX6 := Lib.hid bX6
  have ZX6 := Lib.hid zX6
  have Gg12 := Lib.hid hg12
  have B46 := Lib.hid (belowT' (belowT' (belowT' B5.out BX5.out) b6) bX6)
  have B26 := Lib.hid (belowT' (belowT' (belowT' HBX.out B3.out) B4.out) B46.out)
  have HKA := Lib.hid (Kept_any (some ⟨gx, 0, none⟩) A la (la + 40) ca xs X6 (OX.out.below B26.out).rd (HX.out.below (belowT' HK2.out B26.out)) (by omega))
  have HKB : Hid (∀ q, Calls Try.prog 28 #[.slice (some ⟨gs, 0, none⟩) (en + 40) (en + 40), .slice E en ec] (X6.drewN q) (RetB (X6.drewN q) true)) := Lib.hid (fun q => Kept_any (some ⟨gs, 0, none⟩) E en (en + 40) ec bb (X6.drewN q) ((OS.out.below B46.out).rd.drewN q) ((OE.out.below (belowT' B4.out B46.out)).rd.drewN q) (by omega))
  clear hq6 o2 b6 bX6 zX6 sX6 hX6 hg12 HRB
  go_wp2_with fail
  with_reducible refine HKA.out.mono ?_
  intro e w7 hq7
  obtain ⟨h1, q1, h7⟩ := hq7
  subst h1 h7
  clear hsz hst
  go_wp2_with fail
  with_reducible refine (HKB.out q1).mono ?_
  intro e w7 hq7
  obtain ⟨h1, q2, h7⟩ := hq7
  subst h1
  have b7 : Below X6.heap.size X6 w7 := by rw [h7]; exact below_drewN (below_drewN (Below.refl _ _) _) _
  have B7 := Lib.hid b7
  have HNW : Hid (Calls Try.prog 15 #[.int .u64 1] w7 (fun e w' => e = .returned (.pointer (some ⟨w7.heap.size, 0, none⟩)) ∧ Cl w' w7.heap.size (clA 1 false 0 0 (.slice none 0 0)) 124 ∧ Below w7.heap.size w7 w')) := Lib.hid (newS_any 1 w7)
  obtain ⟨p, hp⟩ : ∃ p, p = w7.heap.size := ⟨_, rfl⟩
  have HP := Lib.hid hp
  rw [← hp] at HNW
  clear h7 b7 HKA HKB hp
  go_wp2_with fail
  with_reducible refine HNW.out.mono ?_
  rintro e w8 ⟨rfl, z8, b8⟩
  have HA : Hid (Calls Try.prog 16 #[.pointer (some ⟨p, 0, none⟩), .slice none 0 0] w8 (RetAs w8 p 1)) := Lib.hid (ask1S_any z8)
  have B8 := Lib.hid b8
  clear z8 b8 HNW
  go_wp2_with fail
  with_reducible refine HA.out.mono ?_
  intro e w9 hq9
  obtain ⟨h1, R, rn, rc, z9, oR, f9⟩ := hq9
  subst h1
  have s8 := B8.out.size
  have hpw := HP.out
  have B79 : Hid (Below w7.heap.size w7 w9) := Lib.hid (Below.trans (show Below w7.heap.size w7 w8 from (by have h := B8.out; rw [hpw] at h; exact h)) (f9.below (fun b hb => by rw [List.mem_singleton] at hb; omega) (by omega)))
  have HCA : Hid (∀ wx, Below w9.heap.size w9 wx → Calls Try.prog 19 #[.pointer (some ⟨p, 0, none⟩), .int .i64 1] wx (fun e w' => ∃ D dn dc, e = .returned (.tuple #[.agg (pkC 4 1 1 1 (.slice D dn dc)), .bool true]) ∧ Own 5 w' wx.heap.size D dn dc (putU 0) ∧ Below wx.heap.size wx w')) := Lib.hid (fun wx hb => callS_any (s := 1) (q := 1) 1 (z9.below hb) (oR.below hb).rd (fun h => (oR.nil_of (by rw [h]; rfl)).2.2) (by have h1 := oR.len; have h2 := putU_len64 0 (by unfold B64; omega); omega))
  have HC1 := Lib.hid (HCA.out w9 (Below.refl _ _))
  clear z9 oR f9 s8 hpw HA
  go_wp2_with fail
  with_reducible refine HC1.out.mono ?_
  rintro e w10 ⟨D3, n3, c3, rfl, o3, b10⟩
  have O3 := Lib.hid o3
  have B10 := Lib.hid b10
  obtain ⟨g15, hg15⟩ : ∃ g15, g15 = w10.heap.size := ⟨_, rfl⟩
  obtain ⟨X10, hX10⟩ : ∃ X10, X10 = (w10.alloc (.cells #[.int .i64 0, .int .i64 0, .int .i64 0, .int .i64 0, .int .i64 0, .int .i64 0, .int .i64 0, .int .u64 0, .int .u64 0, .int .i64 0, .int .i64 0, .int .i64 0, .int .i64 0, .int .u64 0, .int .u64 0, .int .u64 0, .int .u64 0, .slice none 0 0, .bool false, .slice none 0 0, .int .i64 0, .int .i64 0, .int .u64 0, .slice none 0 0, .bool false, .int .u64 0, .slice none 0 0, .slice none 0 0, .slice none 0 0] 47)).setRow g15 (pkC 4 1 1 1 (.slice D3 n3 c3)) := ⟨_, rfl⟩
  have hsz : (pkC 4 1 1 1 (.slice D3 n3 c3)).size = 29 := pkC_size
  have hst := run_scN (w := w10) (g := g15) (cells := pkC 4 1 1 1 (.slice D3 n3 c3)) hg15 pkC_size.symm pk_one
  obtain ⟨bX10, zX10, sX10⟩ := below_pk (w := w10) (g := g15) (cells := pkC 4 1 1 1 (.slice D3 n3 c3)) hg15
  rw [← hX10] at hst bX10 zX10 sX10
  rw [hg15] at hst
  have BX10 := Lib.hid bX10
  have ZX10 := Lib.hid zX10
  have Gg15 := Lib.hid hg15
  have HC2 := Lib.hid (HCA.out X10 (belowT' b10 bX10))
  clear o3 b10 bX10 zX10 sX10 hX10 hg15 HC1
  go_wp2_with fail
  with_reducible refine HC2.out.mono ?_
  rintro e w11 ⟨D4, n4, c4, rfl, o4, b11⟩
  clear hsz hst
  have O4 := Lib.hid o4
  have B11 := Lib.hid b11
  obtain ⟨g17, hg17⟩ : ∃ g17, g17 = w11.heap.size := ⟨_, rfl⟩
  obtain ⟨X11, hX11⟩ : ∃ X11, X11 = (w11.alloc (.cells #[.int .i64 0, .int .i64 0, .int .i64 0, .int .i64 0, .int .i64 0, .int .i64 0, .int .i64 0, .int .u64 0, .int .u64 0, .int .i64 0, .int .i64 0, .int .i64 0, .int .i64 0, .int .u64 0, .int .u64 0, .int .u64 0, .int .u64 0, .slice none 0 0, .bool false, .slice none 0 0, .int .i64 0, .int .i64 0, .int .u64 0, .slice none 0 0, .bool false, .int .u64 0, .slice none 0 0, .slice none 0 0, .slice none 0 0] 47)).setRow g17 (pkC 4 1 1 1 (.slice D4 n4 c4)) := ⟨_, rfl⟩
  have hsz : (pkC 4 1 1 1 (.slice D4 n4 c4)).size = 29 := pkC_size
  have hst := run_scN (w := w11) (g := g17) (cells := pkC 4 1 1 1 (.slice D4 n4 c4)) hg17 pkC_size.symm pk_one
  obtain ⟨bX11, zX11, sX11⟩ := below_pk (w := w11) (g := g17) (cells := pkC 4 1 1 1 (.slice D4 n4 c4)) hg17
  rw [← hX11] at hst bX11 zX11 sX11
  rw [hg17] at hst
  have BX11 := Lib.hid bX11
  have ZX11 := Lib.hid zX11
  have Gg17 := Lib.hid hg17
  have b9X : Below w10.heap.size w10 X11 := belowT' (belowT' BX10.out b11) bX11
  have b6X : Below X6.heap.size X6 X11 := belowT' (belowT' (belowT' B7.out B79.out) B10.out) b9X
  have b5X : Below X5.heap.size X5 X11 := belowT' (belowT' B6.out BX6.out) b6X
  have zA := (ZX5.out.below b5X)
  have zB := (ZX6.out.below b6X)
  have zC := (ZX10.out.below (belowT' b11 bX11))
  have HC28 : Hid (∀ q, (X11.drewN q).cell? ⟨w5.heap.size, 28, none⟩ = some (.slice D1 n1 c1) ∧ (X11.drewN q).cell? ⟨w6.heap.size, 28, none⟩ = some (.slice D2 n2 c2) ∧ (X11.drewN q).cell? ⟨w10.heap.size, 28, none⟩ = some (.slice D3 n3 c3) ∧ (X11.drewN q).cell? ⟨w11.heap.size, 28, none⟩ = some (.slice D4 n4 c4)) := Lib.hid (fun q => by
    rw [← Gg10.out, ← Gg12.out, ← Gg15.out, ← Gg17.out]
    exact ⟨zA.cell 28, zB.cell 28, zC.cell 28, zX11.cell 28⟩)
  have HB6X := Lib.hid b6X
  have HB5X := Lib.hid b5X
  have HBL := Lib.hid (belowT' (belowT' HK2.out B26.out) b6X)
  have o1X := O1.out.below (belowT' BX5.out b5X)
  have l1 : n1 = la := by rw [← o1X.len]; exact HXL.out
  have HEQ := Lib.hid (Equal_any D1 A n1 la c1 ca xs xs X11 o1X.rd (HX.out.below HBL.out) (by unfold maxLen; omega) (by unfold maxLen; omega))
  have e0 := (HC28.out 0).1
  have e0' : X11.cell? ⟨w5.heap.size, 28, none⟩ = some (.slice D1 n1 c1) := e0
  have HB9X := Lib.hid b9X
  rw [l1] at HEQ HC28 O1 e0'
  have l2 : n2 = la := by rw [← O2.out.len]; exact HXL.out
  have hp0 := putU_len64 0 (by unfold B64; omega)
  have HN : Hid (n2 ≤ 2000 ∧ n3 ≤ 10 ∧ n4 ≤ 10) := Lib.hid (by
    have h3 := O3.out.len
    have h4 := O4.out.len
    omega)
  clear b9X b6X b5X zA zB zC o4 b11 bX11 zX11 sX11 hX11 hg17 HC2 o1X e0 l1 l2 hp0 HCA
  go_wp2_with fail
  with_reducible refine HEQ.out.mono ?_
  intro e w12 hq
  rw [eqB_self] at hq
  obtain ⟨h12, q12, hw12⟩ := hq
  subst h12
  obtain ⟨d1, d2, d3, d4⟩ := HC28.out q12
  obtain ⟨Zq, hZq⟩ : ∃ Zq, Zq = X11.drewN q12 := ⟨_, rfl⟩
  have bZ : Below X11.heap.size X11 Zq := by rw [hZq]; exact below_drewN (Below.refl _ _) _
  rw [← hZq] at d1 d2 d3 d4 hw12
  obtain ⟨svs, hsv⟩ : ∃ svs : List Value, svs = [.slice (some ⟨gx, 0, none⟩) (la + 40) (la + 40), .slice (some ⟨gs, 0, none⟩) (en + 40) (en + 40), .slice E en ec, .slice D1 la c1, .slice D2 n2 c2, .slice D3 n3 c3, .slice D4 n4 c4] := ⟨_, rfl⟩
  obtain ⟨Y, hY⟩ : ∃ Y, Y = Zq.alloc (.cells #[.slice (some ⟨gx, 0, none⟩) (la + 40) (la + 40), .slice (some ⟨gs, 0, none⟩) (en + 40) (en + 40), .slice E en ec, .slice D1 la c1, .slice D2 n2 c2, .slice D3 n3 c3, .slice D4 n4 c4] 30) := ⟨_, rfl⟩
  have bY : Below Zq.heap.size Zq Y := by rw [hY]; exact (Below.refl _ _).alloc (Nat.le_refl _) _
  have sZ := bZ.size
  have sY := bY.size
  have HAP : Hid (Calls Try.prog 29 #[.slice (some ⟨Zq.heap.size, 0, none⟩) 7 7] Y (fun e w' => e = .returned (.bool true) ∧ Below w1.heap.size Y w' ∧ Sm [] Y w')) := Lib.hid (by
    have u2 := HBX.out.size
    have u3 := B3.out.size
    have u4 := B4.out.size
    have u5 := B5.out.size
    have u6 := BX5.out.size
    have u7 := B6.out.size
    have u8 := BX6.out.size
    have u9 := B7.out.size
    have u10 := B79.out.size
    have u11 := B10.out.size
    have u12 := BX10.out.size
    have u13 := B11.out.size
    have u14 := BX11.out.size
    have u1 := HB2.out.size
    have f0 : Fam w2 w1.heap.size ([(.slice (some ⟨gx, 0, none⟩) (la + 40) (la + 40), xs ++ room la 40)] ++ []) := by rw [List.append_nil]; exact Fam.one OX.out
    have f1 := Fam.app (Fam.one OX.out) (Fam.one OE.out) (belowT' HBX.out B3.out) (show w2.heap.size ≤ X.heap.size from u2) (by omega)
    have f2 := Fam.ins f1 (Fam.one OS.out) B4.out (Nat.le_refl _) (by omega)
    have f3 := Fam.app f2 (Fam.one O1.out) B5.out (Nat.le_refl _) (by omega)
    have f4 := Fam.app (f3.below BX5.out) (Fam.one O2.out) B6.out (Nat.le_refl _) (by omega)
    have f5 := Fam.app (((f4.below BX6.out).below B7.out).below B79.out) (Fam.one O3.out) B10.out (Nat.le_refl _) (by omega)
    have f6 := Fam.app (f5.below BX10.out) (Fam.one O4.out) B11.out (Nat.le_refl _) (by omega)
    have fY : Fam Y w1.heap.size ([(.slice (some ⟨gx, 0, none⟩) (la + 40) (la + 40), xs ++ room la 40)] ++ ([(.slice (some ⟨gs, 0, none⟩) (en + 40) (en + 40), bb ++ room en 40)] ++ [(.slice E en ec, bb)]) ++ [(.slice D1 la c1, xs)] ++ [(.slice D2 n2 c2, xs)] ++ [(.slice D3 n3 c3, putU 0)] ++ [(.slice D4 n4 c4, putU 0)] : List VB) := ((f6.below BX11.out).below bZ).below bY
    have hmap : ([(.slice (some ⟨gx, 0, none⟩) (la + 40) (la + 40), xs ++ room la 40)] ++ ([(.slice (some ⟨gs, 0, none⟩) (en + 40) (en + 40), bb ++ room en 40)] ++ [(.slice E en ec, bb)]) ++ [(.slice D1 la c1, xs)] ++ [(.slice D2 n2 c2, xs)] ++ [(.slice D3 n3 c3, putU 0)] ++ [(.slice D4 n4 c4, putU 0)] : List VB).map (·.1) = svs := by rw [hsv]; rfl
    have hlv : RdV Y (some ⟨Zq.heap.size, 0, none⟩) 7 svs := by
      rw [hY, hsv]
      exact (ownV_box2 Zq _ Zq.heap.size _ 7 rfl (by omega) (Nat.le_refl _) _ rfl).rd
    have hlt : ∀ q ∈ ([(.slice (some ⟨gx, 0, none⟩) (la + 40) (la + 40), xs ++ room la 40)] ++ ([(.slice (some ⟨gs, 0, none⟩) (en + 40) (en + 40), bb ++ room en 40)] ++ [(.slice E en ec, bb)]) ++ [(.slice D1 la c1, xs)] ++ [(.slice D2 n2 c2, xs)] ++ [(.slice D3 n3 c3, putU 0)] ++ [(.slice D4 n4 c4, putU 0)] : List VB), ∀ b, Value.ownBlock q.1 = some b → b < Zq.heap.size := fun q hq b hb => (((f6.below BX11.out).below bZ).lt hq hb).2
    have hsm : ∀ q ∈ ([(.slice (some ⟨gx, 0, none⟩) (la + 40) (la + 40), xs ++ room la 40)] ++ ([(.slice (some ⟨gs, 0, none⟩) (en + 40) (en + 40), bb ++ room en 40)] ++ [(.slice E en ec, bb)]) ++ [(.slice D1 la c1, xs)] ++ [(.slice D2 n2 c2, xs)] ++ [(.slice D3 n3 c3, putU 0)] ++ [(.slice D4 n4 c4, putU 0)] : List VB), q.2.length ≤ 1073741824 := fun q hq => by
      have h1 := HXL.out
      have h2 := OE.out.len
      have h3 := putU_len64 0 (by unfold B64; omega)
      simp only [List.cons_append, List.nil_append, List.mem_cons, List.not_mem_nil, or_false] at hq
      rcases hq with rfl | rfl | rfl | rfl | rfl | rfl | rfl <;> simp only [List.length_append, room_len] <;> omega
    refine ApartF_any [] (some ⟨Zq.heap.size, 0, none⟩) 7 7 w1.heap.size svs Y hlv (by omega) (by rw [← hmap]; exact fY.pre) (by rw [← hmap]; exact fY.small hsm) (by rw [← hmap]; exact fY.dis) (fun b hb i v hv e2 => ?_) (by omega) (fun b hb => by cases hb) (fun b hb => by cases hb)
    have h1 : Zq.heap.size = b := Option.some.inj hb
    rw [← hmap] at hv
    obtain ⟨q, hq, rfl⟩ := List.mem_map.1 (List.mem_of_getElem? hv)
    have := hlt q hq b e2
    omega)
  have HYE := Lib.hid hY
  have HBY2 := Lib.hid (belowT' (belowT' HBL.out bZ) bY)
  have HS1 := Lib.hid HK1.out.size
  rw [hw12]
  clear hsv hY bY sZ sY bZ hZq hw12
  go_wp2_with fail
  rw [← HYE.out]
  with_reducible refine HAP.out.mono ?_
  rintro e w13 ⟨rfl, b13, _⟩
  have HF := Lib.hid (HBY2.out.trans (b13.mono HS1.out))
  clear b13 HAP
  go_wp2_with fail
  go_ret
  exact ⟨rfl, HF.out⟩
end Go.Proofs.Ytgccbghaibddcaa
