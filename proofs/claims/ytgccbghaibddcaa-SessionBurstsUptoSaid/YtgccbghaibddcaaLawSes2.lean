/- SessionBursts: for every form, place and burst the call returns true: an Ask's bytes with a change of bits within 32 bits of one another aren't read. -/
import Derived.Test.YtgccbghaibddcaaEnE
import Derived.Test.YtgccbghaibddcaaEnC
import Derived.Deep.RegionLaw
import Derived.Test.YtgccbghaibddcaaCrcA
import Derived.Test.YtgccbghaibddcaaCl
import Derived.Test.YtgccbghaibddcaaFamD
import Derived.Test.YtgccbghaibddcaaPut
import Derived.Test.YtgccbghaibddcaaCrcX
import Derived.Test.YtgccbghaibddcaaFrW
import Derived.Test.YtgccbghaibddcaaStepW
import Derived.Deep.DeepCutAuto
import Derived.Deep.CutBlock
import Derived.Laws.Rows
import Derived.Great.BuildSlice
import Derived.Test.YtgccbghaibddcaaGetU
import Derived.Test.YtgccbghaibddcaaMathF
import Derived.Test.YtgccbghaibddcaaEnB
import Derived.Test.YtgccbghaibddcaaOpenF
import Derived.Test.YtgccbghaibddcaaOpenV
import Derived.Test.YtgccbghaibddcaaSpare
import Derived.Laws.BitsAllLaws
import Derived.RegionTactic
import Derived.BigRegion
import Derived.Laws.StructEq
import Derived.Deep.RegionHeld3
namespace Go.Proofs.Ytgccbghaibddcaa
open Go Go.RowKit

end Go.Proofs.Ytgccbghaibddcaa
namespace Go.Proofs.Ytgccbghaibddcaa
open Go Go.RowKit

end Go.Proofs.Ytgccbghaibddcaa
namespace Go.Proofs.Ytgccbghaibddcaa
open Go Go.RowKit

end Go.Proofs.Ytgccbghaibddcaa
namespace Go.Proofs.Ytgccbghaibddcaa
open Go Go.RowKit

end Go.Proofs.Ytgccbghaibddcaa
namespace Go.Proofs.Ytgccbghaibddcaa
open Go Go.RowKit

/-- Blocks of other kinds are other blocks. -/
theorem row_ne {t1 t2 : TypeId} {s1 s2 : Nat} {w : World} {b1 b2 n c m d : Nat} {L A : Option Addr} {i j : Nat} {vs us : List Value} (h : w.ownsRow b1 t1 s1 (.slice L n c) i vs) (k : w.ownsRow b2 t2 s2 (.slice A m d) j us) (hne : t1 ≠ t2) : Dj L A := fun b e1 e2 => by
  rcases h.2 with ⟨h1, _⟩ | ⟨g, cap, cur, h1, _, hg, _⟩
  · injection h1 with h1
    rw [h1] at e1; cases e1
  · injection h1 with h1
    rw [h1] at e1
    injection e1 with e1
    rcases k.2 with ⟨k1, _⟩ | ⟨g2, cap2, cur2, k1, _, kg, _⟩
    · injection k1 with k1
      rw [k1] at e2; cases e2
    · injection k1 with k1
      rw [k1] at e2
      injection e2 with e2
      simp only at e1 e2
      subst e1 e2
      rw [hg] at kg
      injection kg with kg
      injection kg with _ kg
      exact hne kg
theorem cl_row {ty t : TypeId} {s : Nat} {w : World} {p b2 m d j : Nat} {A : Option Addr} {us : Array Value} {vs : List Value} (h : Cl w p us ty) (k : w.ownsRow b2 t s (.slice A m d) j vs) (hne : ty ≠ t) : blk A ≠ some p := fun e2 => by
  rcases k.2 with ⟨k1, _⟩ | ⟨g2, cap2, cur2, k1, _, kg, _⟩
  · injection k1 with k1
    rw [k1] at e2; cases e2
  · injection k1 with k1
    rw [k1] at e2
    injection e2 with e2
    simp only at e2
    subst e2
    unfold Cl at h
    rw [h] at kg
    injection kg with kg
    injection kg with _ kg
    exact hne kg
theorem cl_ne {ty : TypeId} {w : World} {p b2 m d : Nat} {A : Option Addr} {us : Array Value} {xs : List UInt8} (h : Cl w p us ty) (k : Own 5 w b2 A m d xs) (hne : ty ≠ 5) : blk A ≠ some p := cl_row h k hne
theorem Cl.grown {w w' : World} {p : Nat} {us : Array Value} {ty : TypeId} {row : Option Nat} (h : Cl w p us ty) (hg : w.grownBy w' row) (hne : row ≠ some p) : Cl w' p us ty := by
  obtain ⟨_, _, _, h4, h5⟩ := hg
  exact (h5 p h.lt (fun e => hne e.symm)).trans h
section
variable {w w' : World} {base : Nat} {ps qs : List VB}
end
end Go.Proofs.Ytgccbghaibddcaa
namespace Go.Proofs.Ytgccbghaibddcaa
open Go Go.RowKit

theorem Made.outS {base : Nat} {w w' : World} {xs : List UInt8} {e : Ending} (h : Made base w xs e w') : ∃ A n c, e = .returned (.slice A n c) ∧ Own 5 w' base A n c xs ∧ Below base w w' := h
theorem Rd.vS {w : World} {B : Option Addr} {m : Nat} {ys : List UInt8} (h : Rd w B m ys) : RdV w B m (ys.map cv) := by
  refine ⟨by simp [h.1], fun hm => ?_⟩
  obtain ⟨b, off, e, hb, hc⟩ := h.2 hm
  refine ⟨b, off, e, hb, fun i v hv => ?_⟩
  rw [List.getElem?_map] at hv
  cases hy : ys[i]? with
  | none => rw [hy] at hv; cases hv
  | some y =>
    rw [hy] at hv
    injection hv with hv
    subst hv
    exact hc i y hy
/-- A hand's own memory turns; what else is known whole stays. -/
def Puts (base o : Nat) (w w' : World) : Prop := Below base w w' ∧ ∀ g vs t, Cl w g vs t → t ≠ 5 → g ≠ o → Cl w' g vs t
section
variable {base o : Nat} {w w' w2 : World}
theorem Puts.refl (base o : Nat) (w : World) : Puts base o w w := ⟨Below.refl _ _, fun _ _ _ h _ _ => h⟩
theorem Puts.trans (h : Puts base o w w') (h2 : Puts base o w' w2) : Puts base o w w2 := ⟨h.1.trans h2.1, fun g vs t h3 h4 h5 => h2.2 g vs t (h.2 g vs t h3 h4 h5) h4 h5⟩
theorem Puts.of_below (h : Below w.heap.size w w') (hb : base ≤ w.heap.size) : Puts base o w w' := ⟨h.mono hb, fun _ _ _ h3 _ _ => h3.below h⟩
theorem Puts.bel (h : Puts base o w w') : Below base w w' := h.1
theorem Puts.cl (h : Puts base o w w') {g : Nat} {vs : Array Value} {t : TypeId} (h3 : Cl w g vs t) (h4 : t ≠ 5) (h5 : g ≠ o) : Cl w' g vs t := h.2 g vs t h3 h4 h5
end
theorem cl_cl {w : World} {p g : Nat} {us vs : Array Value} {t ty : TypeId} (h : Cl w p us t) (k : Cl w g vs ty) (hne : t ≠ ty) : p ≠ g := fun e => by
  subst e
  unfold Cl at h k
  rw [h] at k
  injection k with k
  injection k with _ k _
  exact hne k
/-- The bytes so far, in o; the two closures' cells. -/
def HandP (w : World) (base o o1 c3 : Nat) (xs : List UInt8) : Prop := ∃ A n c, Cl w o #[.slice A n c] 30 ∧ Cl w o1 #[.pointer (some ⟨o, 0, none⟩)] 110 ∧
  Cl w c3 #[.func (.func 61) #[] #[.pointer (some ⟨o1, 0, none⟩)]] 169 ∧ Own 5 w base A n c xs
section
variable {w w' : World} {base o o1 c3 : Nat} {xs : List UInt8}
theorem HandP.below (h : HandP w base o o1 c3 xs) (hb : Below w.heap.size w w') : HandP w' base o o1 c3 xs := by
  obtain ⟨A, n, c, h1, h2, h3, h4⟩ := h
  exact ⟨A, n, c, h1.below hb, h2.below hb, h3.below hb, h4.below hb⟩
theorem HandP.k1 (h : HandP w base o o1 c3 xs) : w.cell? ⟨o1, 0, none⟩ = some (.pointer (some ⟨o, 0, none⟩)) := by
  obtain ⟨_, _, _, _, h2, _⟩ := h
  exact h2.cell 0
theorem HandP.k3 (h : HandP w base o o1 c3 xs) : w.cell? ⟨c3, 0, none⟩ = some (.func (.func 61) #[] #[.pointer (some ⟨o1, 0, none⟩)]) := by
  obtain ⟨_, _, _, _, _, h3, _⟩ := h
  exact h3.cell 0
/-- What is put behind. -/
theorem HandP.grow {w3 : World} {A L : Option Addr} {n c n2 c2 : Nat} {ys : List UInt8} (z0 : Cl w o #[.slice A n c] 30) (z1 : Cl w o1 #[.pointer (some ⟨o, 0, none⟩)] 110) (z3 : Cl w c3 #[.func (.func 61) #[] #[.pointer (some ⟨o1, 0, none⟩)]] 169)
    (hO : Own 5 w base A n c xs) (hbase : base ≤ w.heap.size) (hbo : base ≤ o) (hO3 : Own 5 w3 base L n2 c2 ys) (hg : w.grownBy w3 (blk A)) : Cl w3 o #[.slice A n c] 30 ∧ w3.cell? ⟨o1, 0, none⟩ = some (.pointer (some ⟨o, 0, none⟩)) ∧ HandP (w3.setCell ⟨o, 0, none⟩ (.slice L n2 c2)) base o o1 c3 ys ∧ Puts base o w (w3.setCell ⟨o, 0, none⟩ (.slice L n2 c2)) := by
  have e0 : Cl w3 o #[.slice A n c] 30 := z0.grown hg (cl_row z0 hO (by decide))
  have e1 := z1.grown hg (cl_row z1 hO (by decide))
  have e3 := z3.grown hg (cl_row z3 hO (by decide))
  have n1 : o ≠ o1 := cl_cl z0 z1 (by decide)
  have n3 : o ≠ c3 := cl_cl z0 z3 (by decide)
  have f : Fr w3 (w3.setCell ⟨o, 0, none⟩ (.slice L n2 c2)) [o] := Fr.set _ _ _ _
  have b1 : Below base w w3 := (Below.refl base w).grown hg hbase (fun k hk => (hO.lt k hk).1)
  have b2 : Below base w3 (w3.setCell ⟨o, 0, none⟩ (.slice L n2 c2)) := f.below (fun b hb => by rw [List.mem_singleton] at hb; omega) (Nat.le_trans hbase b1.size)
  refine ⟨e0, e1.cell 0, ⟨L, n2, c2, ?_, e1.off 0 _ n1, e3.off 0 _ n3, hO3.fr f (fun b hb hm => ?_)⟩, b1.trans b2, fun g vs t h3 h4 h5 => ?_⟩
  · have := e0.set 0 (.slice L n2 c2)
    simpa using this
  · rw [List.mem_singleton] at hm
    subst hm
    exact cl_row e0 hO3 (by decide) hb
  · exact (h3.grown hg (cl_row h3 hO h4)).off 0 _ (fun e => h5 e.symm)
end
/-- What a put comes to. -/
def RetPu (w : World) (base o o1 c3 : Nat) (ys : List UInt8) (e : Ending) (w' : World) : Prop := e = .returned (.tuple #[]) ∧ HandP w' base o o1 c3 ys ∧ Puts base o w w'
theorem RetPu.out {w : World} {base o o1 c3 : Nat} {ys : List UInt8} {e : Ending} {w' : World} (h : RetPu w base o o1 c3 ys e w') : e = .returned (.tuple #[]) ∧ HandP w' base o o1 c3 ys ∧ Puts base o w w' := h
section
variable {w : World} {base o o1 c3 : Nat} {xs : List UInt8}
set_option maxRecDepth 100000 in
set_option maxHeartbeats 4000000 in
theorem put1_any (h : HandP w base o o1 c3 xs) (hbase : base ≤ w.heap.size) (hbo : base ≤ o) (j : Nat) (hj : j < B64) (hl : xs.length ≤ 1073741824) : Calls Try.prog 61 #[.int .u64 (j : Int), .pointer (some ⟨o1, 0, none⟩)] w (RetPu w base o o1 c3 (xs ++ putU j)) := by
  obtain ⟨A, n, c, z0, z1, z3, hO⟩ := h
  have hnl : n ≤ 1073741824 := by rw [← hO.len]; exact hl
  have hpl := putU_len64 j hj
  have hB1 : Below w.heap.size w w.drew := (Below.refl _ _).drew
  have HPU : Hid (∀ wx, Calls Try.prog 62 #[.int .u64 (j : Int)] wx (Made wx.heap.size wx (putU j))) := Lib.hid (fun wx => PutU_any j wx hj)
  have HW : Hid (∀ wx, Below w.heap.size w wx → wx.cell? ⟨o, 0, none⟩ = some (.slice A n c) ∧ wx.cell? ⟨o1, 0, none⟩ = some (.pointer (some ⟨o, 0, none⟩)) ∧ Own 5 wx base A n c xs ∧ base ≤ wx.heap.size) := Lib.hid (fun wx hb => ⟨(z0.below hb).cell 0, (z1.below hb).cell 0, hO.below hb, Nat.le_trans hbase hb.size⟩)
  have HG : Hid (∀ wx w3 L n2 c2 ys, Below w.heap.size w wx → Own 5 w3 base L n2 c2 ys → wx.grownBy w3 (blk A) → Cl w3 o #[.slice A n c] 30 ∧ w3.cell? ⟨o1, 0, none⟩ = some (.pointer (some ⟨o, 0, none⟩)) ∧ HandP (w3.setCell ⟨o, 0, none⟩ (.slice L n2 c2)) base o o1 c3 ys ∧ Puts base o w (w3.setCell ⟨o, 0, none⟩ (.slice L n2 c2))) := Lib.hid (fun wx w3 L n2 c2 ys hb h3 hg => by
    obtain ⟨a1, a0, a2, a3⟩ := HandP.grow (z0.below hb) (z1.below hb) (z3.below hb) (hO.below hb) (Nat.le_trans hbase hb.size) hbo h3 hg
    exact ⟨a1, a0, a2, (Puts.of_below hb hbase).trans a3⟩)
  have q0 := (HW.out _ hB1).1
  have q1 := (HW.out _ hB1).2.1
  clear z0 z1 z3 hO hl
  go_enter Try.func61, Try.ntmps61
  go_region_law (first
    | (go_simp; go_at_call 62; with_reducible refine (HPU.out _).mono ?_; intro e w2 hq; obtain ⟨C, cn, cc, h1, oC, b2⟩ := Made.outS hq; subst h1; have hb2 := belowT' hB1 b2; obtain ⟨p0, p1, hO2, hs2⟩ := HW.out w2 hb2; have hcn := oC.len)
    | (refine step_appW _ rfl _ _ 30 rfl base 5 (.int .u8 0) 1 Try.underlying30 info_u8 rfl A n c (xs.map cv) (by simp [Act.eval]) hO2 C cn cc ((putU j).map cv) (by simp [Act.eval]) oC.rd.vS (by intro u hu; obtain ⟨x, _, rfl⟩ := List.mem_map.1 hu; rfl) (by unfold maxLen; omega) (by omega) hs2 ?_; intro L c5 w3 hO3 hg3; have hO4 : Own 5 w3 base L (n + cn) c5 (xs ++ putU j) := (by unfold Own; rw [List.map_append]; exact hO3); obtain ⟨t0, tk, tH, tP⟩ := HG.out w2 w3 L (n + cn) c5 _ hb2 hO4 hg3; have s0 := t0.cell 0; have s1 := t0.thaw 0))
  all_goals
    go_end0
    exact ⟨rfl, tH, tP⟩
end
end Go.Proofs.Ytgccbghaibddcaa
namespace Go.Proofs.Ytgccbghaibddcaa
open Go Go.RowKit
section
variable {w : World} {base o o1 c3 : Nat} {xs : List UInt8}
set_option maxRecDepth 100000 in
set_option maxHeartbeats 4000000 in
theorem put2_any (h : HandP w base o o1 c3 xs) (hbase : base ≤ w.heap.size) (hbo : base ≤ o) (pb pi : Nat) (v : Int) (u : Nat) (hP : w.cell? ⟨pb, pi, none⟩ = some (.int .i64 v)) (hu : IntKind.u64.wrap v = (u : Int)) (hub : u < B64) (hl : xs.length ≤ 1073741824) :
    Calls Try.prog 63 #[.pointer (some ⟨pb, pi, none⟩), .pointer (some ⟨c3, 0, none⟩)] w (RetPu w base o o1 c3 (xs ++ putU u)) := by
  have HC : Hid (Calls Try.prog 61 #[.int .u64 (u : Int), .pointer (some ⟨o1, 0, none⟩)] w.drew (RetPu w.drew base o o1 c3 (xs ++ putU u))) := Lib.hid (put1_any (h.below (Below.refl _ _).drew) hbase hbo u hub hl)
  have HD : Hid (Puts base o w w.drew) := Lib.hid (Puts.of_below (Below.refl _ _).drew hbase)
  have k3 : w.drew.cell? ⟨c3, 0, none⟩ = some (.func (.func 61) #[] #[.pointer (some ⟨o1, 0, none⟩)]) := h.k3
  have kp : w.drew.cell? ⟨pb, pi, none⟩ = some (.int .i64 v) := hP
  clear h hP
  go_enter Try.func63, Try.ntmps63
  go_region_law (first | (go_simp; go_at_call 61; with_reducible refine HC.out.mono ?_; intro e w2 hq; obtain ⟨h1, h2, h3⟩ := hq.out; subst h1))
  all_goals
    go_end0
    exact ⟨rfl, h2, HD.out.trans h3⟩
set_option maxRecDepth 100000 in
set_option maxHeartbeats 4000000 in
theorem put3_any (h : HandP w base o o1 c3 xs) (hbase : base ≤ w.heap.size) (hbo : base ≤ o) (pb pi : Nat) (u : Nat) (hP : w.cell? ⟨pb, pi, none⟩ = some (.int .u64 (u : Int))) (hub : u < B64) (hl : xs.length ≤ 1073741824) :
    Calls Try.prog 64 #[.pointer (some ⟨pb, pi, none⟩), .pointer (some ⟨c3, 0, none⟩)] w (RetPu w base o o1 c3 (xs ++ putU u)) := by
  have HC : Hid (Calls Try.prog 61 #[.int .u64 (u : Int), .pointer (some ⟨o1, 0, none⟩)] w.drew (RetPu w.drew base o o1 c3 (xs ++ putU u))) := Lib.hid (put1_any (h.below (Below.refl _ _).drew) hbase hbo u hub hl)
  have HD : Hid (Puts base o w w.drew) := Lib.hid (Puts.of_below (Below.refl _ _).drew hbase)
  have k3 : w.drew.cell? ⟨c3, 0, none⟩ = some (.func (.func 61) #[] #[.pointer (some ⟨o1, 0, none⟩)]) := h.k3
  have kp : w.drew.cell? ⟨pb, pi, none⟩ = some (.int .u64 (u : Int)) := hP
  clear h hP
  go_enter Try.func64, Try.ntmps64
  go_region_law (first | (go_simp; go_at_call 61; with_reducible refine HC.out.mono ?_; intro e w2 hq; obtain ⟨h1, h2, h3⟩ := hq.out; subst h1))
  all_goals
    go_end0
    exact ⟨rfl, h2, HD.out.trans h3⟩
set_option maxRecDepth 100000 in
set_option maxHeartbeats 4000000 in
/-- Bytes: their length, then they themselves. They lie ahead of the hand's own memory. -/
theorem put5_any (h : HandP w base o o1 c3 xs) (hbase : base ≤ w.heap.size) (hbo : base ≤ o) (pb pi : Nat) (pvs : Array Value) (pt : TypeId) (hpc : Cl w pb pvs pt) (hpt : pt ≠ 5) (hpo : pb ≠ o) (D : Option Addr) (dn dc : Nat) (ds : List UInt8) (hpi : pvs[pi]? = some (.slice D dn dc)) (hrB : ∀ w', Below base w w' → Rd w' D dn ds) (hdn : dn ≤ 1073741824) (hl : xs.length ≤ 1000000000) :
    Calls Try.prog 66 #[.pointer (some ⟨pb, pi, none⟩), .pointer (some ⟨c3, 0, none⟩), .pointer (some ⟨o1, 0, none⟩)] w (RetPu w base o o1 c3 (xs ++ putU dn ++ ds)) := by
  have hub : dn < B64 := by unfold B64; omega
  have HC : Hid (Calls Try.prog 61 #[.int .u64 (dn : Int), .pointer (some ⟨o1, 0, none⟩)] w.drew (RetPu w.drew base o o1 c3 (xs ++ putU dn))) := Lib.hid (put1_any (h.below (Below.refl _ _).drew) hbase hbo dn hub (by omega))
  have HD : Hid (Puts base o w w.drew) := Lib.hid (Puts.of_below (Below.refl _ _).drew hbase)
  have hpl := putU_len64 dn hub
  have k3 : w.drew.cell? ⟨c3, 0, none⟩ = some (.func (.func 61) #[] #[.pointer (some ⟨o1, 0, none⟩)]) := h.k3
  have kp : w.drew.cell? ⟨pb, pi, none⟩ = some (.slice D dn dc) := (hpc.cell pi).trans hpi
  have HPC := Lib.hid hpc
  have HPI := Lib.hid hpi
  have HRB := Lib.hid hrB
  have hw1 : IntKind.u64.wrap (dn : Int) = (dn : Int) := by rw [IntKind.wrap_u64]; unfold B64 at hub; omega
  clear h hpc hpi hrB
  go_enter Try.func66, Try.ntmps66
  go_upto_region 0 with (fail)
  go_cut [10] from 4 to 10 (fun s10 wx => HandP wx base o o1 c3 (xs ++ putU dn) ∧ Puts base o w wx)
  case first =>
    go_region_law (first | (go_simp; go_at_call 61; with_reducible refine HC.out.mono ?_; intro e w2 hq; obtain ⟨h1, h2, h3⟩ := hq.out; subst h1))
    all_goals
      go_wp2_with fail
      go_meet
      exact ⟨h2, HD.out.trans h3⟩
  obtain ⟨hH, hPt⟩ := hcut
  obtain ⟨A, n, c, z0, z1, z3, hO⟩ := hH
  have hnl : n ≤ 1000000010 := by rw [← hO.len, List.length_append]; omega
  have hbw : base ≤ wc.heap.size := Nat.le_trans hbase hPt.bel.size
  have hB1 : Below wc.heap.size wc wc.drew := (Below.refl _ _).drew
  have hO2 : Own 5 wc.drew base A n c (xs ++ putU dn) := hO.below hB1
  have hrd : Rd wc.drew D dn ds := HRB.out _ (hPt.bel.trans (hB1.mono hbw))
  have q0 : wc.drew.cell? ⟨o, 0, none⟩ = some (.slice A n c) := z0.cell 0
  have q1 : wc.drew.cell? ⟨o1, 0, none⟩ = some (.pointer (some ⟨o, 0, none⟩)) := z1.cell 0
  have qd : wc.drew.cell? ⟨pb, pi, none⟩ = some (.slice D dn dc) := ((hPt.cl HPC.out hpt hpo).cell pi).trans HPI.out
  have HG : Hid (∀ w3 L n2 c2 ys, Own 5 w3 base L n2 c2 ys → wc.drew.grownBy w3 (blk A) → Cl w3 o #[.slice A n c] 30 ∧ w3.cell? ⟨o1, 0, none⟩ = some (.pointer (some ⟨o, 0, none⟩)) ∧ HandP (w3.setCell ⟨o, 0, none⟩ (.slice L n2 c2)) base o o1 c3 ys ∧ Puts base o w (w3.setCell ⟨o, 0, none⟩ (.slice L n2 c2))) := Lib.hid (fun w3 L n2 c2 ys h3 hg => by
    obtain ⟨a1, a0, a2, a3⟩ := HandP.grow (z0.below hB1) (z1.below hB1) (z3.below hB1) (hO.below hB1) hbw hbo h3 hg
    exact ⟨a1, a0, a2, hPt.trans ((Puts.of_below hB1 hbw).trans a3)⟩)
  clear z0 z1 z3 hO hPt HC HD k3 kp HPC HPI HRB
  go_upto_region 1 with (fail)
  go_region_law (first
    | (refine step_appW _ rfl _ _ 30 rfl base 5 (.int .u8 0) 1 Try.underlying30 info_u8 rfl A n c ((xs ++ putU dn).map cv) (by simp [Act.eval]) hO2 D dn dc (ds.map cv) (by simp [Act.eval]) hrd.vS (by intro u hu; obtain ⟨x, _, rfl⟩ := List.mem_map.1 hu; rfl) (by unfold maxLen; omega) (by omega) hbw ?_; intro L c5 w3 hO3 hg3; have hO4 : Own 5 w3 base L (n + dn) c5 (xs ++ putU dn ++ ds) := (by unfold Own; rw [List.map_append]; exact hO3); obtain ⟨t0, tk, tH, tP⟩ := HG.out w3 L (n + dn) c5 _ hO4 hg3; have s0 := t0.cell 0; have s1 := t0.thaw 0))
  all_goals
    go_end0
    exact ⟨rfl, tH, tP⟩
end
end Go.Proofs.Ytgccbghaibddcaa
namespace Go.Proofs.Ytgccbghaibddcaa
open Go Go.RowKit
/-- The hand that puts, as a value. -/
def handPA (c3 o1 : Nat) : Array Value := #[.func (.func 63) #[] #[.pointer (some ⟨c3, 0, none⟩)], .func (.func 64) #[] #[.pointer (some ⟨c3, 0, none⟩)], .func (.func 65) #[] #[.pointer (some ⟨c3, 0, none⟩)],
  .func (.func 66) #[] #[.pointer (some ⟨c3, 0, none⟩), .pointer (some ⟨o1, 0, none⟩)], .func (.func 67) #[] #[.pointer (some ⟨o1, 0, none⟩)]]
theorem size_hand : (Try.prog.info? 108).map (·.size) = some 5 := by kernel_rfl
set_option maxRecDepth 100000 in
set_option maxHeartbeats 4000000 in
theorem putting_any {w : World} {base o : Nat} {A : Option Addr} {n c : Nat} {xs : List UInt8} (h : Cl w o #[.slice A n c] 30) (hO : Own 5 w base A n c xs) : Calls Try.prog 34 #[.pointer (some ⟨o, 0, none⟩)] w (fun e w' => ∃ o1 c3, e = .returned (.agg (handPA c3 o1)) ∧ HandP w' base o o1 c3 xs ∧ Below w.heap.size w w' ∧ w.heap.size ≤ o1 ∧ w.heap.size ≤ c3) := by
  obtain ⟨V, hV⟩ : ∃ V, V = (((w.alloc (.cells #[.pointer (some ⟨o, 0, none⟩)] 110)).alloc (.cells (handPA (w.heap.size + 1 + 1) w.heap.size) 108)).alloc (.cells #[.func (.func 61) #[] #[.pointer (some ⟨w.heap.size, 0, none⟩)]] 169)) := ⟨_, rfl⟩
  have bV : Below w.heap.size w V := by rw [hV]; exact (((Below.refl _ _).alloc (Nat.le_refl _) _).alloc (by simp) _).alloc (by simp; omega) _
  have z1 : Cl V w.heap.size #[.pointer (some ⟨o, 0, none⟩)] 110 := by rw [hV]; exact ((Cl.new _ _ _).alloc _).alloc _
  have z2 : Cl V (w.heap.size + 1) (handPA (w.heap.size + 1 + 1) w.heap.size) 108 := by rw [hV]; exact (Cl.newg _ _ _ _ (by simp)).alloc _
  have z3 : Cl V (w.heap.size + 1 + 1) #[.func (.func 61) #[] #[.pointer (some ⟨w.heap.size, 0, none⟩)]] 169 := by rw [hV]; exact Cl.newg _ _ _ _ (by simp)
  have HF : Hid (HandP V base o w.heap.size (w.heap.size + 1 + 1) xs ∧ Below w.heap.size w V) := Lib.hid ⟨⟨A, n, c, h.below bV, z1, z3, hO.below bV⟩, bV⟩
  have Z2 := Lib.hid z2
  have HV := Lib.hid hV
  obtain ⟨y0, y1⟩ := (Cl.newg ((w.alloc (.cells #[.pointer (some ⟨o, 0, none⟩)] 110)).alloc (.cells #[.nilFunc, .nilFunc, .nilFunc, .nilFunc, .nilFunc] 108)) #[.nilFunc] 169 (w.heap.size + 1 + 1) (by simp)).c1
  have hsf := fun (a : Addr) (f : Fn) (b c : Array Value) (w : World) => run_store Try.prog w a (.func f b c) .plain rfl
  clear h hO z1 z2 z3 bV hV
  go_enter Try.func34, Try.ntmps34
  go_wp2_with fail
  have HV' := HV.out
  unfold handPA at HV'
  rw [← HV']
  exact bodyPost_ret (v := .agg (handPA (w.heap.size + 1 + 1) w.heap.size)) (results_cell_row rfl _ _ (w.heap.size + 1) 108 (handPA (w.heap.size + 1 + 1) w.heap.size) (0, 0) _ rfl Z2.out Try.underlying108 rfl size_hand) rfl ⟨w.heap.size, w.heap.size + 1 + 1, rfl, HF.out.1, HF.out.2, Nat.le_refl _, by omega⟩
end Go.Proofs.Ytgccbghaibddcaa
namespace Go.Proofs.Ytgccbghaibddcaa
open Go Go.RowKit

theorem blk_cutS {A : Option Addr} {k c b : Nat} (h : blk (cutA A k c) = some b) : blk A = some b := by
  unfold cutA at h
  split at h
  · exact h
  · cases A with
    | none => simp [blk] at h
    | some a =>
      simp only [Option.map_some, Addr.add] at h
      split at h <;> exact h
/-- What is left, in bb; the error so far, in wr; the closure's cell. The bytes lie in block gi. -/
def HandT (w : World) (gi bb wr c5 : Nat) (e : Int) (rest : List UInt8) : Prop := ∃ B n c, Cl w bb #[.slice B n c] 30 ∧ Cl w wr #[.int .i64 e] 38 ∧
  Cl w c5 #[.func (.func 71) #[] #[.pointer (some ⟨wr, 0, none⟩), .pointer (some ⟨bb, 0, none⟩)]] 178 ∧ Rd w B n rest ∧ n ≤ c ∧ (B = none → c = 0) ∧ ∀ b, blk B = some b → b = gi
section
variable {w w' : World} {gi bb wr c5 : Nat} {e : Int} {rest : List UInt8}
theorem HandT.below (h : HandT w gi bb wr c5 e rest) (hb : Below w.heap.size w w') : HandT w' gi bb wr c5 e rest := by
  obtain ⟨B, n, c, h1, h2, h3, h4, h5⟩ := h
  exact ⟨B, n, c, h1.below hb, h2.below hb, h3.below hb, h4.below hb, h5⟩
theorem HandT.k5 (h : HandT w gi bb wr c5 e rest) : w.cell? ⟨c5, 0, none⟩ = some (.func (.func 71) #[] #[.pointer (some ⟨wr, 0, none⟩), .pointer (some ⟨bb, 0, none⟩)]) := by
  obtain ⟨_, _, _, _, _, h3, _⟩ := h
  exact h3.cell 0
/-- A block that is none of its own turns. -/
theorem HandT.fr {bl : List Nat} (h : HandT w gi bb wr c5 e rest) (hf : Fr w w' bl) (h1 : bb ∉ bl) (h2 : wr ∉ bl) (h3 : c5 ∉ bl) (h4 : gi ∉ bl) : HandT w' gi bb wr c5 e rest := by
  obtain ⟨B, n, c, z1, z2, z3, hr, hc, hn, hg⟩ := h
  exact ⟨B, n, c, (hf.block _ z1.lt h1).trans z1, (hf.block _ z2.lt h2).trans z2, (hf.block _ z3.lt h3).trans z3, hr.fr hf (fun b hb hm => h4 (by rw [← hg b hb]; exact hm)), hc, hn, hg⟩
/-- It goes on by k bytes. -/
theorem HandT.go {B : Option Addr} {n c k : Nat} {e2 : Int} (z1 : Cl w bb #[.slice B n c] 30) (z2 : Cl w wr #[.int .i64 e] 38) (z3 : Cl w c5 #[.func (.func 71) #[] #[.pointer (some ⟨wr, 0, none⟩), .pointer (some ⟨bb, 0, none⟩)]] 178) (hr : Rd w B n rest) (hc : n ≤ c) (hn : B = none → c = 0) (hg : ∀ b, blk B = some b → b = gi) (hk : k ≤ n) (g1 : gi ≠ bb) (g2 : gi ≠ wr) :
    HandT ((w.setCell ⟨bb, 0, none⟩ (.slice (cutA B k c) (n - k) (c - k))).setCell ⟨wr, 0, none⟩ (.int .i64 e2)) gi bb wr c5 e2 (rest.drop k) ∧ Fr w ((w.setCell ⟨bb, 0, none⟩ (.slice (cutA B k c) (n - k) (c - k))).setCell ⟨wr, 0, none⟩ (.int .i64 e2)) [bb, wr] ∧
    (w.setCell ⟨bb, 0, none⟩ (.slice (cutA B k c) (n - k) (c - k))).cell? ⟨wr, 0, none⟩ = some (.int .i64 e) ∧ (w.setCell ⟨bb, 0, none⟩ (.slice (cutA B k c) (n - k) (c - k))).frozen? ⟨wr, 0, none⟩ = false := by
  have n1 : bb ≠ wr := cl_cl z1 z2 (by decide)
  have n2 : bb ≠ c5 := cl_cl z1 z3 (by decide)
  have n3 : wr ≠ c5 := cl_cl z2 z3 (by decide)
  have f1 : Fr w (w.setCell ⟨bb, 0, none⟩ (.slice (cutA B k c) (n - k) (c - k))) [bb] := Fr.set _ _ _ _
  have y1 : Cl (w.setCell ⟨bb, 0, none⟩ (.slice (cutA B k c) (n - k) (c - k))) bb #[.slice (cutA B k c) (n - k) (c - k)] 30 := by simpa using z1.set 0 (.slice (cutA B k c) (n - k) (c - k))
  have y2 := z2.off 0 (.slice (cutA B k c) (n - k) (c - k)) n1
  have y3 := z3.off 0 (.slice (cutA B k c) (n - k) (c - k)) n2
  have f2 : Fr (w.setCell ⟨bb, 0, none⟩ (.slice (cutA B k c) (n - k) (c - k))) ((w.setCell ⟨bb, 0, none⟩ (.slice (cutA B k c) (n - k) (c - k))).setCell ⟨wr, 0, none⟩ (.int .i64 e2)) [wr] := Fr.set _ _ _ _
  have fA : Fr w ((w.setCell ⟨bb, 0, none⟩ (.slice (cutA B k c) (n - k) (c - k))).setCell ⟨wr, 0, none⟩ (.int .i64 e2)) [bb, wr] := (f1.mono (fun b hb => .inl (by simp at hb; simp [hb]))).trans f2 (fun b hb => .inl (by simp at hb; simp [hb]))
  have hr2 := hr.cut hk (Nat.le_refl n) hc
  rw [List.take_of_length_le (by rw [hr.len]; omega)] at hr2
  refine ⟨⟨cutA B k c, n - k, c - k, y1.off 0 _ (fun h => n1 h.symm), ?_, y3.off 0 _ n3, hr2.fr fA (fun b hb hm => ?_), by omega, cutA_none hn (by omega), fun b hb => hg b (blk_cutS hb)⟩, fA, y2.cell 0, y2.thaw 0⟩
  · simpa using y2.set 0 (.int .i64 e2)
  · have h1 := hg b (blk_cutS hb)
    simp only [List.mem_cons, List.not_mem_nil, or_false] at hm
    rcases hm with h2 | h2 <;> omega
end
def RetTk (w : World) (gi bb wr c5 u : Nat) (rest : List UInt8) (e : Ending) (w' : World) : Prop := e = .returned (.int .u64 (u : Int)) ∧ HandT w' gi bb wr c5 0 rest ∧ Fr w w' [bb, wr]
theorem RetTk.out {w : World} {gi bb wr c5 u : Nat} {rest : List UInt8} {e : Ending} {w' : World} (h : RetTk w gi bb wr c5 u rest e w') : e = .returned (.int .u64 (u : Int)) ∧ HandT w' gi bb wr c5 0 rest ∧ Fr w w' [bb, wr] := h
section
variable {w : World} {gi bb wr c5 : Nat}
end
end Go.Proofs.Ytgccbghaibddcaa
namespace Go.Proofs.Ytgccbghaibddcaa
open Go Go.RowKit
/-- A packet whose other fields are zero: its kind, To, Txn and Data. -/
def pkC (kd tn : Int) (s q : Nat) (D : Value) : Array Value := #[.int .i64 kd, .int .i64 0, .int .i64 tn, .int .i64 0, .int .i64 0, .int .i64 0, .int .i64 0, .int .u64 (s : Int), .int .u64 (q : Int), .int .i64 0,
  .int .i64 0, .int .i64 0, .int .i64 0, .int .u64 0, .int .u64 0, .int .u64 0, .int .u64 0, .slice none 0 0, .bool false, .slice none 0 0,
  .int .i64 0, .int .i64 0, .int .u64 0, .slice none 0 0, .bool false, .int .u64 0, .slice none 0 0, .slice none 0 0, D]
section
variable {w : World} {base o o1 c3 : Nat} {xs : List UInt8}
set_option maxRecDepth 100000 in
set_option maxHeartbeats 4000000 in
theorem txnP_any (h : HandP w base o o1 c3 xs) (hbase : base ≤ w.heap.size) (hbo : base ≤ o) (pb pi : Nat) (pvs : Array Value) (pt : TypeId) (hpc : Cl w pb pvs pt) (hpt : pt ≠ 5) (hpo : pb ≠ o) (s q : Nat) (h0 : pvs[pi]? = some (.int .u64 (s : Int))) (h1 : pvs[pi + 1]? = some (.int .u64 (q : Int))) (hs : s < B64) (hq : q < B64) (hl : xs.length ≤ 1000000000) :
    Calls Try.prog 58 #[.agg (handPA c3 o1), .pointer (some ⟨pb, pi, none⟩)] w (RetPu w base o o1 c3 (xs ++ putU s ++ putU q)) := by
  obtain ⟨W, hW⟩ : ∃ W, W = w.alloc (.cells (handPA c3 o1) 108) := ⟨_, rfl⟩
  obtain ⟨g, hg⟩ : ∃ g, g = w.heap.size := ⟨_, rfl⟩
  have bW : Below w.heap.size w W := by rw [hW]; exact (Below.refl _ _).alloc (Nat.le_refl _) _
  have bW1 : Below w.heap.size w W.drew := bW.drew
  have zW : Cl W g (handPA c3 o1) 108 := by rw [hW, hg]; exact Cl.new _ _ _
  have hgo : g ≠ o := by obtain ⟨A, n, c, z0, _⟩ := h; have := z0.lt; omega
  have hpl := putU_len64 s hs
  have k1 : W.drew.cell? ⟨g, 1, none⟩ = some (.func (.func 64) #[] #[.pointer (some ⟨c3, 0, none⟩)]) := zW.cell 1
  have hbW : base ≤ W.drew.heap.size := Nat.le_trans hbase bW1.size
  have HC : Hid (Calls Try.prog 64 #[.pointer (some ⟨pb, pi, none⟩), .pointer (some ⟨c3, 0, none⟩)] W.drew (RetPu W.drew base o o1 c3 (xs ++ putU s))) := Lib.hid (put3_any (h.below bW1) hbW hbo pb pi s (((hpc.below bW1).cell pi).trans h0) hs (by omega))
  have HD : Hid (Puts base o w W.drew) := Lib.hid (Puts.of_below bW1 hbase)
  have HZ : Hid (Cl W.drew g (handPA c3 o1) 108) := Lib.hid zW
  have HP : Hid (Cl W.drew pb pvs pt) := Lib.hid (hpc.below bW1)
  have H1 := Lib.hid h1
  have HW := Lib.hid hW
  have HG := Lib.hid hg
  clear h hpc h0 h1 hW hg bW bW1 zW
  unfold handPA at HW
  unfold handPA
  go_enter Try.func58, Try.ntmps58
  go_upto_region 1 with (fail)
  rw [← HW.out, ← HG.out]
  go_cut [9] from 4 to 9 (fun s9 wx => HandP wx base o o1 c3 (xs ++ putU s) ∧ Puts base o W.drew wx)
  case first =>
    go_region_law (first | (go_simp; go_at_call 64; with_reducible refine HC.out.mono ?_; intro e w2 hq2; obtain ⟨e1, e2, e3⟩ := hq2.out; subst e1))
    all_goals
      go_wp2_with fail
      go_meet
      exact ⟨e2, e3⟩
  obtain ⟨hH, hPt⟩ := hcut
  have zc := hPt.cl HZ.out (by decide) hgo
  have pc := hPt.cl HP.out hpt hpo
  have k1c : wc.drew.cell? ⟨g, 1, none⟩ = some (.func (.func 64) #[] #[.pointer (some ⟨c3, 0, none⟩)]) := zc.cell 1
  have hB1 : Below wc.heap.size wc wc.drew := (Below.refl _ _).drew
  have hbw : base ≤ wc.heap.size := Nat.le_trans hbW hPt.bel.size
  have HC2 : Hid (Calls Try.prog 64 #[.pointer (some ⟨pb, pi + 1, none⟩), .pointer (some ⟨c3, 0, none⟩)] wc.drew (RetPu wc.drew base o o1 c3 (xs ++ putU s ++ putU q))) := Lib.hid (put3_any (hH.below hB1) hbw hbo pb (pi + 1) q (((pc.below hB1).cell (pi + 1)).trans H1.out) hq (by rw [List.length_append]; omega))
  have HD2 : Hid (Puts base o w wc.drew) := Lib.hid ((HD.out.trans hPt).trans (Puts.of_below hB1 hbw))
  clear hH hPt zc pc HC k1
  go_upto_region 2 with (fail)
  go_region_law (first | (go_simp; go_at_call 64; with_reducible refine HC2.out.mono ?_; intro e w2 hq2; obtain ⟨e1, e2, e3⟩ := hq2.out; subst e1))
  all_goals
    go_end0
    exact ⟨rfl, e2, HD2.out.trans e3⟩
/-- A stage of the way. -/
def StP (base o o1 c3 g pb : Nat) (pvs : Array Value) (w0 : World) (ys : List UInt8) (wx : World) : Prop := HandP wx base o o1 c3 ys ∧ Puts base o w0 wx ∧ Cl wx g (handPA c3 o1) 108 ∧ Cl wx pb pvs 47 ∧ base ≤ wx.heap.size
theorem StP.step {g pb : Nat} {pvs : Array Value} {w0 wx wy : World} {ys zs : List UInt8} {e : Ending} (h : StP base o o1 c3 g pb pvs w0 ys wx) (hg : g ≠ o) (hp : pb ≠ o) (hr : RetPu wx.drew base o o1 c3 zs e wy) : e = .returned (.tuple #[]) ∧ StP base o o1 c3 g pb pvs w0 zs wy := by
  obtain ⟨h1, h2, h3, h4, h5⟩ := h
  obtain ⟨r1, r2, r3⟩ := hr
  exact ⟨r1, r2, h2.trans ((Puts.of_below (Below.refl _ _).drew h5).trans r3), r3.cl (show Cl wx.drew _ _ _ from h3) (by decide) hg, r3.cl (show Cl wx.drew _ _ _ from h4) (by decide) hp, Nat.le_trans h5 r3.bel.size⟩
theorem StP.cells {g pb : Nat} {pvs : Array Value} {w0 wx : World} {ys : List UInt8} (h : StP base o o1 c3 g pb pvs w0 ys wx) : (∀ i, wx.drew.cell? ⟨g, i, none⟩ = (handPA c3 o1)[i]?) ∧ (∀ i, wx.drew.cell? ⟨pb, i, none⟩ = pvs[i]?) ∧ (∀ i, wx.cell? ⟨g, i, none⟩ = (handPA c3 o1)[i]?) ∧ (∀ i, wx.cell? ⟨pb, i, none⟩ = pvs[i]?) := ⟨h.2.2.1.cell, h.2.2.2.1.cell, h.2.2.1.cell, h.2.2.2.1.cell⟩
end
end Go.Proofs.Ytgccbghaibddcaa
namespace Go.Proofs.Ytgccbghaibddcaa
open Go Go.RowKit
def RetTf (w : World) (gi bb wr c5 pb : Nat) (pvs : Array Value) (r : List UInt8) (e : Ending) (w' : World) : Prop := e = .returned (.tuple #[]) ∧ HandT w' gi bb wr c5 0 r ∧ Cl w' pb pvs 47 ∧ Fr w w' [bb, wr, pb]
theorem RetTf.out {w : World} {gi bb wr c5 pb : Nat} {pvs : Array Value} {r : List UInt8} {e : Ending} {w' : World} (h : RetTf w gi bb wr c5 pb pvs r e w') : e = .returned (.tuple #[]) ∧ HandT w' gi bb wr c5 0 r ∧ Cl w' pb pvs 47 ∧ Fr w w' [bb, wr, pb] := h
section
variable {w : World} {gi bb wr c5 pb : Nat} {pvs : Array Value}
/-- Bytes, the last of all: they are memory of the hand's own. -/
def RetTb (w : World) (gi bb wr c5 pb : Nat) (pvs : Array Value) (pi : Nat) (ds : List UInt8) (e : Ending) (w' : World) : Prop := e = .returned (.tuple #[]) ∧ ∃ D dn dc, Own 5 w' w.heap.size D dn dc ds ∧ HandT w' gi bb wr c5 0 [] ∧ Cl w' pb (pvs.setIfInBounds pi (.slice D dn dc)) 47 ∧ Fr w w' [bb, wr, pb]
theorem RetTb.out {w : World} {gi bb wr c5 pb : Nat} {pvs : Array Value} {pi : Nat} {ds : List UInt8} {e : Ending} {w' : World} (h : RetTb w gi bb wr c5 pb pvs pi ds e w') : e = .returned (.tuple #[]) ∧ ∃ D dn dc, Own 5 w' w.heap.size D dn dc ds ∧ HandT w' gi bb wr c5 0 [] ∧ Cl w' pb (pvs.setIfInBounds pi (.slice D dn dc)) 47 ∧ Fr w w' [bb, wr, pb] := h
end
end Go.Proofs.Ytgccbghaibddcaa
namespace Go.Proofs.Ytgccbghaibddcaa
open Go Go.RowKit
set_option maxRecDepth 100000 in
theorem isKind_any (k : Int) (w : World) : Calls Try.prog 32 #[.int .i64 k] w (fun e w' => e = .returned (.bool (decide (1 ≤ k) && decide (k ≤ 5))) ∧ w' = w) := by
  obtain ⟨z, hz⟩ : ∃ z, z = (decide (1 ≤ k) && decide (k ≤ 5)) := ⟨_, rfl⟩
  rw [← hz]
  by_cases h1 : 1 ≤ k
  · by_cases h2 : k ≤ 5
    · rw [decide_eq_true h1, decide_eq_true h2] at hz
      subst hz
      go_enter Try.func32, Try.ntmps32
      go_wp2_with fail
      go_ret
      exact ⟨rfl, rfl⟩
    · rw [decide_eq_true h1, decide_eq_false h2] at hz
      subst hz
      go_enter Try.func32, Try.ntmps32
      go_wp2_with fail
      go_ret
      exact ⟨rfl, rfl⟩
  · rw [decide_eq_false h1] at hz
    subst hz
    go_enter Try.func32, Try.ntmps32
    go_wp2_with fail
    go_ret
    exact ⟨rfl, rfl⟩
end Go.Proofs.Ytgccbghaibddcaa
namespace Go.Proofs.Ytgccbghaibddcaa
open Go Go.RowKit
/-- The hand that takes, as a value. -/
def handTA (c5 wr bb : Nat) : Array Value := #[.func (.func 73) #[] #[.pointer (some ⟨c5, 0, none⟩)], .func (.func 74) #[] #[.pointer (some ⟨c5, 0, none⟩)], .func (.func 75) #[] #[.pointer (some ⟨c5, 0, none⟩), .pointer (some ⟨wr, 0, none⟩)],
  .func (.func 76) #[] #[.pointer (some ⟨c5, 0, none⟩), .pointer (some ⟨bb, 0, none⟩), .pointer (some ⟨wr, 0, none⟩)], .func (.func 77) #[] #[.pointer (some ⟨wr, 0, none⟩)]]
end Go.Proofs.Ytgccbghaibddcaa
namespace Go.Proofs.Ytgccbghaibddcaa
open Go Go.RowKit
/-- A stage of the way. -/
def StT (gi bb wr c5 g pb : Nat) (w0 : World) (pvs : Array Value) (r : List UInt8) (wx : World) : Prop := HandT wx gi bb wr c5 0 r ∧ Cl wx g (handTA c5 wr bb) 108 ∧ Cl wx pb pvs 47 ∧ Fr w0 wx [bb, wr, pb]
section
variable {gi bb wr c5 g pb : Nat} {w0 wx wy : World} {pvs pvs2 : Array Value} {r r2 : List UInt8}
theorem StT.neg (h : StT gi bb wr c5 g pb w0 pvs r wx) : g ∉ [bb, wr, pb] := by
  obtain ⟨⟨B, n, c, z1, z2, z3, _⟩, h2, h3, _⟩ := h
  have a1 := cl_cl h2 z1 (by decide)
  have a2 := cl_cl h2 z2 (by decide)
  have a3 := cl_cl h2 h3 (by decide)
  simp [a1, a2, a3]
theorem StT.fr {wz : World} (h : StT gi bb wr c5 g pb w0 pvs r wx) (hb : Below wx.heap.size wx wy) (hf : Fr wy wz [bb, wr, pb]) (hT : HandT wz gi bb wr c5 0 r2) (hp : Cl wz pb pvs2 47) : StT gi bb wr c5 g pb w0 pvs2 r2 wz :=
  ⟨hT, (hf.block _ (h.2.1.below hb).lt h.neg).trans (h.2.1.below hb), hp, (h.2.2.2.trans (Fr.of_below hb _) (fun _ hb => .inl hb)).trans hf (fun _ hb => .inl hb)⟩
theorem StT.step {e : Ending} (h : StT gi bb wr c5 g pb w0 pvs r wx) (hr : RetTf wx.drew gi bb wr c5 pb pvs2 r2 e wy) : e = .returned (.tuple #[]) ∧ StT gi bb wr c5 g pb w0 pvs2 r2 wy := by
  obtain ⟨r1, r2, r3, r4⟩ := hr
  exact ⟨r1, h.fr (Below.refl _ _).drew r4 r2 r3⟩
end
section
variable {w : World} {gi bb wr c5 pb : Nat} {pvs : Array Value}
end
end Go.Proofs.Ytgccbghaibddcaa
namespace Go.Proofs.Ytgccbghaibddcaa
open Go Go.RowKit
def RetTp (w : World) (gi bb wr c5 pb : Nat) (tn : Int) (s q : Nat) (ds : List UInt8) (e : Ending) (w' : World) : Prop := e = .returned (.tuple #[]) ∧ ∃ D dn dc, Own 5 w' w.heap.size D dn dc ds ∧ HandT w' gi bb wr c5 0 [] ∧ Cl w' pb (pkC 4 tn s q (.slice D dn dc)) 47 ∧ Fr w w' [bb, wr, pb]
theorem RetTp.out {w : World} {gi bb wr c5 pb : Nat} {tn : Int} {s q : Nat} {ds : List UInt8} {e : Ending} {w' : World} (h : RetTp w gi bb wr c5 pb tn s q ds e w') : e = .returned (.tuple #[]) ∧ ∃ D dn dc, Own 5 w' w.heap.size D dn dc ds ∧ HandT w' gi bb wr c5 0 [] ∧ Cl w' pb (pkC 4 tn s q (.slice D dn dc)) 47 ∧ Fr w w' [bb, wr, pb] := h
section
variable {w : World} {gi bb wr c5 pb : Nat}
end
end Go.Proofs.Ytgccbghaibddcaa
namespace Go.Proofs.Ytgccbghaibddcaa
open Go Go.RowKit
theorem Fr.setRow {w : World} (g : Nat) (cs : Array Value) : Fr w (w.setRow g cs) [g] := ⟨setRow_os _ _ _, setRow_tape _ _ _, setRow_output _ _ _, by rw [setRow_size]; exact Nat.le_refl _, fun k _ hn => setRow_other _ _ _ _ (fun e => hn (by simp [e]))⟩
/-- The same, as the walk spells it. -/
def pkZL : Array Value := #[.int .i64 0, .int .i64 0, .int .i64 0, .int .i64 0, .int .i64 0, .int .i64 0, .int .i64 0, .int .u64 0, .int .u64 0, .int .i64 0, .int .i64 0, .int .i64 0, .int .i64 0, .int .u64 0, .int .u64 0, .int .u64 0, .int .u64 0, .slice none 0 0, .bool false, .slice none 0 0, .int .i64 0, .int .i64 0, .int .u64 0, .slice none 0 0, .bool false, .int .u64 0, .slice none 0 0, .slice none 0 0, .slice none 0 0]
theorem size_pkC {kd tn : Int} {s q : Nat} {D : Value} : (Try.prog.info? 47).map (·.size) = some (pkC kd tn s q D).size := by show _ = some 29; kernel_rfl
theorem pk_one {kd tn : Int} {s q : Nat} {D : Option Addr} {dn dc : Nat} : (pkC kd tn s q (.slice D dn dc)).all (·.oneCell') = true := by simp [pkC, Value.oneCell']
theorem run_sc {w : World} {g : Nat} {t : TypeId} {old cells : Array Value} (hg : Cl w g old t) (ho : old.size = cells.size) (h1 : cells.all (·.oneCell') = true) : (storeCells ⟨g, 0, none⟩ cells.toList).run Try.prog w = .ok () (w.setRow g cells) := by
  have := run_storeCells_from (P := Try.prog) g t cells.toList 0 old w hg (by simp; omega) (fun v hv => (Array.all_eq_true_iff_forall_mem.1 h1) v (by simpa using hv))
  simpa using this
theorem results_cellT {fn : Func} {p q : Tmp} {ty : TypeId} (h : fn.results = #[.cell p ty, .tmp q]) (tmps : Array Value) (w : World) (g : Nat) (cs : Array Value)
    (hp : tmps.getD p undef = .pointer (some ⟨g, 0, none⟩)) (hl : (loadVar ty ⟨g, 0, none⟩).run Try.prog w = .ok (.agg cs) w) (v : Value) (hq : tmps.getD q undef = v) :
    (results fn tmps).run Try.prog w = .ok (.tuple #[.agg cs, v]) w := by
  have hp' : tmps[p]?.getD undef = .pointer (some ⟨g, 0, none⟩) := by simpa using hp
  have hq' : tmps[q]?.getD undef = v := by simpa using hq
  simp [results, h, hp', hq', asAddr, hl]
end Go.Proofs.Ytgccbghaibddcaa
namespace Go.Proofs.Ytgccbghaibddcaa
open Go Go.RowKit
theorem pkZ_one : pkZL.all (·.oneCell') = true := by simp [pkZL, Value.oneCell']
theorem size_pkZ : (Try.prog.info? 47).map (·.size) = some pkZL.size := by show _ = some 29; kernel_rfl
theorem pkZL_lit : (#[.int .i64 0, .int .i64 0, .int .i64 0, .int .i64 0, .int .i64 0, .int .i64 0, .int .i64 0, .int .u64 0, .int .u64 0, .int .i64 0, .int .i64 0, .int .i64 0, .int .i64 0, .int .u64 0, .int .u64 0, .int .u64 0, .int .u64 0, .slice none 0 0, .bool false, .slice none 0 0, .int .i64 0, .int .i64 0, .int .u64 0, .slice none 0 0, .bool false, .int .u64 0, .slice none 0 0, .slice none 0 0, .slice none 0 0] : Array Value) = pkZL := rfl
set_option maxRecDepth 100000 in
set_option maxHeartbeats 8000000 in
/-- What opens with bytes behind it, or doesn't open, is no packet. -/
theorem readX_any {w : World} (S : Option Addr) (sn sc : Nat) (ys b : List UInt8) (nx k kk : Int) (hr : Rd w S sn ys) (hc : sn ≤ sc) (hn : S = none → sc = 0) (hl : sn ≤ 1099511627776) (ho : openG ys 0 = (b, nx, k)) (hk : (k ≠ 0 ∧ kk = k) ∨ (k = 0 ∧ nx < (sn : Int) ∧ kk = 3)) :
    Calls Try.prog 11 #[.slice S sn sc] w (fun e w' => e = .returned (.tuple #[.agg pkZL, .int .i64 kk]) ∧ Below w.heap.size w w') := by
  obtain ⟨U, hU⟩ : ∃ U, U = w.alloc (.cells pkZL 47) := ⟨_, rfl⟩
  obtain ⟨rb, hrb⟩ : ∃ rb, rb = w.heap.size := ⟨_, rfl⟩
  have bU : Below w.heap.size w U := by rw [hU]; exact (Below.refl _ _).alloc (Nat.le_refl _) _
  have zR : Cl U rb pkZL 47 := by rw [hU, hrb]; exact Cl.new _ _ _
  have HOP : Hid (Calls Try.prog 36 #[.slice S sn sc, .int .i64 0] U (RetO U.heap.size U (b, nx, k))) := Lib.hid (by
    have := Open_any S sn sc 0 ys U (hr.below bU) hl hc hn (by unfold I64; omega)
    rw [ho] at this
    exact this)
  have HU := Lib.hid hU
  have HRB := Lib.hid hrb
  have BU := Lib.hid bU
  have ZR := Lib.hid zR
  have HK := Lib.hid hk
  clear hr hn hU hrb bU zR hk ho hc hl
  unfold pkZL at HU
  go_enter Try.func11, Try.ntmps11
  go_wp2_with fail
  rw [← HU.out, ← HRB.out]
  with_reducible refine HOP.out.mono ?_
  rintro e w2 ⟨A, n, c, rfl, oA, b2⟩
  have hz := ZR.out.below b2
  have hpc := pkZL_lit
  have hsz : pkZL.size = 29 := rfl
  have hst := run_sc (cells := pkZL) hz rfl pkZ_one
  have HZN : Hid (Cl (w2.setRow rb pkZL) rb pkZL 47) := Lib.hid (setRow_heap _ _ _ _ _ _ hz)
  have HF : Hid (Below w.heap.size w (w2.setRow rb pkZL)) := Lib.hid (below_setRow (belowT' BU.out b2) (by have := HRB.out; omega) _)
  clear hz oA b2 HOP
  rcases HK.out with ⟨hk, rfl⟩ | ⟨rfl, hlt, rfl⟩
  · have t1 : (kk == 0) = false := by simpa using hk
    go_wp2_with fail
    exact bodyPost_ret (v := .tuple #[.agg pkZL, .int .i64 kk]) (results_cellT rfl _ _ rb pkZL rfl (run_loadVar_row _ rb 47 47 pkZL (0, 0) _ HZN.out Try.underlying47 rfl size_pkZ) _ rfl) rfl ⟨rfl, HF.out⟩
  · have t1 : decide (nx < (sn : Int)) = true := by simpa using hlt
    go_wp2_with fail
    exact bodyPost_ret (v := .tuple #[.agg pkZL, .int .i64 3]) (results_cellT rfl _ _ rb pkZL rfl (run_loadVar_row _ rb 47 47 pkZL (0, 0) _ HZN.out Try.underlying47 rfl size_pkZ) _ rfl) rfl ⟨rfl, HF.out⟩
end Go.Proofs.Ytgccbghaibddcaa
namespace Go.Proofs.Ytgccbghaibddcaa
open Go Go.RowKit
/-- 'A row of the call's own, sz cells an element.' -/
def OwnS (t : TypeId) (sz : Nat) (w : World) (base : Nat) (A : Option Addr) (n c : Nat) (vs : List Value) : Prop := w.ownsRow base t sz (.slice A n c) n vs
section
variable {t : TypeId} {sz : Nat} {w w' : World} {base n c : Nat} {A : Option Addr} {vs : List Value}
theorem OwnS.lt (h : OwnS t sz w base A n c vs) (b : Nat) (hb : blk A = some b) : base ≤ b ∧ b < w.heap.size := World.ownsRow.lt h b (by rw [own_blk]; exact hb)
theorem OwnS.nil (t : TypeId) (sz : Nat) (w : World) (base : Nat) : OwnS t sz w base none 0 0 [] := World.ownsRow_nil _ _ _ _
theorem OwnS.below (h : OwnS t sz w base A n c vs) (hb : Below w.heap.size w w') : OwnS t sz w' base A n c vs := by
  refine ⟨h.1, ?_⟩
  rcases h.2 with h1 | ⟨g, cap, cur, h1, h2, h3, h4⟩
  · exact .inl h1
  · exact .inr ⟨g, cap, cur, h1, h2, (hb.block g (Array.getElem?_eq_some_iff.1 h3).1).trans h3, h4⟩
theorem OwnS.fr {bl : List Nat} (h : OwnS t sz w base A n c vs) (hf : Fr w w' bl) (ho : ∀ b, blk A = some b → b ∉ bl) : OwnS t sz w' base A n c vs := by
  refine ⟨h.1, ?_⟩
  rcases h.2 with h1 | ⟨g, cap, cur, h1, h2, h3, h4⟩
  · exact .inl h1
  · injection h1 with h1 h5 h6
    subst h1 h6
    exact .inr ⟨g, _, cur, rfl, h2, (hf.block g (Array.getElem?_eq_some_iff.1 h3).1 (ho g rfl)).trans h3, h4⟩
end
theorem wp_appS {P : Program} (w : World) {o : Oper} {a : Act} {K : Act → World → Prop} {Q : Exit → Act → World → Prop} (s x : Operand) (tt : TypeId)
    (ho : o.op = .call { callee := .builtin .append, args := #[s, x], argTypes := #[tt, tt] })
    (t : TypeId) (sz : Nat) (hsz0 : 0 < sz) (base : Nat) (z : Value) (by_ : Nat) (ht : P.underlying tt = some (.slice t)) (hi : (P.info? t).map (fun i => (i.zero, i.size, i.bytes)) = some (some z, sz, by_)) (hz1 : z.cells.size = sz)
    (A : Option Addr) (n c : Nat) (vs : List Value) (hs : a.eval s = .slice A n c) (hown : OwnS t sz w base A n c vs)
    (ad : Addr) (m d : Nat) (ys : List Value) (hx : a.eval x = .slice (some ad) m d) (hr : RdV w (some ad) (m * sz) ys) (hm : 0 < m) (h1 : ∀ u ∈ ys, u.oneCell' = true)
    (hn : n + m ≤ maxLen) (hby : (n + m) * by_ ≤ 140737488355328) (hbase : base ≤ w.heap.size)
    (h : ∀ A' c' w', OwnS t sz w' base A' (n + m) c' (vs ++ ys) → w.grownBy w' (blk A) → K (a.put o.dst (.slice A' (n + m) c')) w') : o.wp P a w K Q := by
  obtain ⟨i, hi, hz, hsz, hby2⟩ := info_parts hi
  obtain ⟨b, off, e, _, hc⟩ := hr.2 (Nat.mul_pos hm hsz0)
  injection e with e
  subst e
  refine wp_append_own w s x tt ho base t i z sz by_ ht hi hz hsz hby2 hz1 hsz0 (.slice A n c) n vs hs hown ⟨b, off, none⟩ m d ys hx hr.1 (fun j u hj => by rw [Addr.add_lit]; exact hc j u hj) h1 hn hby hbase ?_
  intro v' w' k1 k2 _
  obtain ⟨A', c', rfl⟩ : ∃ A' c', v' = .slice A' (n + m) c' := by
    rcases k1.2 with ⟨h3, h4⟩ | ⟨g, cap, cur, h3, _⟩
    · exact ⟨none, 0, by rw [h3, h4]⟩
    · exact ⟨_, _, h3⟩
  rw [own_blk] at k2
  exact h A' c' w' k1 k2
theorem step_appS {P : Program} (w : World) {ops : Array Oper} {o : Oper} {a : Act} {K : Act → World → Prop} {Q : Exit → Act → World → Prop} {E : Prop} (hgd : o.guard = none) (s x : Operand) (tt : TypeId)
    (ho : o.op = .call { callee := .builtin .append, args := #[s, x], argTypes := #[tt, tt] })
    (t : TypeId) (sz : Nat) (hsz0 : 0 < sz) (base : Nat) (z : Value) (by_ : Nat) (ht : P.underlying tt = some (.slice t)) (hi : (P.info? t).map (fun i => (i.zero, i.size, i.bytes)) = some (some z, sz, by_)) (hz1 : z.cells.size = sz)
    (A : Option Addr) (n c : Nat) (vs : List Value) (hs : a.eval s = .slice A n c) (hown : OwnS t sz w base A n c vs)
    (ad : Addr) (m d : Nat) (ys : List Value) (hx : a.eval x = .slice (some ad) m d) (hr : RdV w (some ad) (m * sz) ys) (hm : 0 < m) (h1 : ∀ u ∈ ys, u.oneCell' = true)
    (hn : n + m ≤ maxLen) (hby : (n + m) * by_ ≤ 140737488355328) (hbase : base ≤ w.heap.size)
    (h : ∀ A' c' w', OwnS t sz w' base A' (n + m) c' (vs ++ ys) → w.grownBy w' (blk A) → K (a.put o.dst (.slice A' (n + m) c')) w') :
    if Region.wanted o (yielded ops a.tmps) = true then Oper.wp P o a w K Q else E := by
  have hw : Region.wanted o (yielded ops a.tmps) = true := by simp [Region.wanted, hgd]
  rw [if_pos hw]
  exact wp_appS w s x tt ho t sz hsz0 base z by_ ht hi hz1 A n c vs hs hown ad m d ys hx hr hm h1 hn hby hbase h
theorem wpList_appS {P : Program} (w : World) {ops : Array Oper} {rest : List Oper} {o : Oper} {a : Act} {Q : Exit → Act → World → Prop} (hgd : o.guard = none) (s x : Operand) (tt : TypeId)
    (ho : o.op = .call { callee := .builtin .append, args := #[s, x], argTypes := #[tt, tt] })
    (t : TypeId) (sz : Nat) (hsz0 : 0 < sz) (base : Nat) (z : Value) (by_ : Nat) (ht : P.underlying tt = some (.slice t)) (hi : (P.info? t).map (fun i => (i.zero, i.size, i.bytes)) = some (some z, sz, by_)) (hz1 : z.cells.size = sz)
    (A : Option Addr) (n c : Nat) (vs : List Value) (hs : a.eval s = .slice A n c) (hown : OwnS t sz w base A n c vs)
    (ad : Addr) (m d : Nat) (ys : List Value) (hx : a.eval x = .slice (some ad) m d) (hr : RdV w (some ad) (m * sz) ys) (hm : 0 < m) (h1 : ∀ u ∈ ys, u.oneCell' = true)
    (hn : n + m ≤ maxLen) (hby : (n + m) * by_ ≤ 140737488355328) (hbase : base ≤ w.heap.size)
    (h : ∀ A' c' w', OwnS t sz w' base A' (n + m) c' (vs ++ ys) → w.grownBy w' (blk A) → wpList P ops Q rest (a.put o.dst (.slice A' (n + m) c')) w') : wpList P ops Q (o :: rest) a w :=
  wpList_plain hgd fun _ hK => wp_appS w s x tt ho t sz hsz0 base z by_ ht hi hz1 A n c vs hs hown ad m d ys hx hr hm h1 hn hby hbase (fun A' c' w' h2 h3 => hK _ _ (h A' c' w' h2 h3))
theorem rdvS_of_cl {w : World} {g k : Nat} {vs : List Value} {t : TypeId} (h : Cl w g vs.toArray t) (hk : vs.length = k) : RdV w (some ⟨g, 0, none⟩) k vs :=
  ⟨hk, fun _ => ⟨g, 0, rfl, h.lt, fun i x hx => by rw [Nat.zero_add, h.cell i]; simpa using hx⟩⟩
/-- A message, as the law makes it. -/
def msA (k f t : Int) (tm ix lt cm : Nat) (ok : Bool) (E : Value) : Array Value := #[.int .i64 k, .int .i64 f, .int .i64 t, .int .u64 (tm : Int), .int .u64 (ix : Int), .int .u64 (lt : Int), .int .u64 (cm : Int), E, .bool ok, .slice none 0 0]
def msZ : Array Value := #[.int .i64 0, .int .i64 0, .int .i64 0, .int .u64 0, .int .u64 0, .int .u64 0, .int .u64 0, .slice none 0 0, .bool false, .slice none 0 0]
theorem size_ms {k f t : Int} {tm ix lt cm : Nat} {ok : Bool} {E : Value} : (Try.prog.info? 41).map (·.size) = some (msA k f t tm ix lt cm ok E).size := by show _ = some 10; kernel_rfl
theorem ms_one {k f t : Int} {tm ix lt cm : Nat} {ok : Bool} {L : Option Addr} {n c : Nat} : (msA k f t tm ix lt cm ok (.slice L n c)).all (·.oneCell') = true := by simp [msA, Value.oneCell']
theorem info_en : (Try.prog.info? 180).map (fun i => (i.zero, i.size, i.bytes)) = some (some (.agg #[.int .u64 0, .slice none 0 0]), 2, 32) := by kernel_rfl
def RetMs (w : World) (k f t : Int) (tm ix lt cm : Nat) (ok : Bool) (e : Ending) (w' : World) : Prop := ∃ L n c, e = .returned (.agg (msA k f t tm ix lt cm ok (.slice L n c))) ∧ Below w.heap.size w w'
set_option maxRecDepth 100000 in
set_option maxHeartbeats 8000000 in
theorem msg_any {w : World} (k f t : Int) (tm ix lt cm : Nat) (T : Option Addr) (tn tc : Nat) (ok : Bool) (ts : List Nat) (hT : RdV w T tn (ts.map fun (x : Nat) => Value.int .u64 (x : Int))) (htn : tn ≤ 100000) :
    Calls Try.prog 55 #[.agg #[.int .i64 k, .int .i64 f, .int .i64 t, .int .u64 (tm : Int), .int .u64 (ix : Int), .int .u64 (lt : Int), .int .u64 (cm : Int), .slice T tn tc, .bool ok]] w (RetMs w k f t tm ix lt cm ok) := by
  obtain ⟨U, hU⟩ : ∃ U, U = (((w.alloc (.cells #[.int .i64 k, .int .i64 f, .int .i64 t, .int .u64 (tm : Int), .int .u64 (ix : Int), .int .u64 (lt : Int), .int .u64 (cm : Int), .slice T tn tc, .bool ok] 27)).alloc (.cells msZ 41)).alloc (.cells (msA k f t tm ix lt cm ok (.slice none 0 0)) 41)) := ⟨_, rfl⟩
  obtain ⟨g1, hg1⟩ : ∃ g1, g1 = w.heap.size := ⟨_, rfl⟩
  have bU : Below w.heap.size w U := by rw [hU]; exact (((Below.refl _ _).alloc (Nat.le_refl _) _).alloc (by simp) _).alloc (by simp; omega) _
  have z1 : Cl U g1 #[.int .i64 k, .int .i64 f, .int .i64 t, .int .u64 (tm : Int), .int .u64 (ix : Int), .int .u64 (lt : Int), .int .u64 (cm : Int), .slice T tn tc, .bool ok] 27 := by rw [hU, hg1]; exact ((Cl.new _ _ _).alloc _).alloc _
  have z2 : Cl U (g1 + 1) msZ 41 := by rw [hU, hg1]; exact (Cl.newg _ _ _ _ (by simp)).alloc _
  have z3 : Cl U (g1 + 1 + 1) (msA k f t tm ix lt cm ok (.slice none 0 0)) 41 := by rw [hU, hg1]; exact Cl.newg _ _ _ _ (by simp)
  have HT : Hid (∀ wx, Below w.heap.size w wx → RdV wx T tn (ts.map fun (x : Nat) => Value.int .u64 (x : Int))) := Lib.hid (fun wx hb => hT.below hb)
  have k7 : U.cell? ⟨g1, 7, none⟩ = some (.slice T tn tc) := z1.cell 7
  have HU := Lib.hid hU
  have HG := Lib.hid hg1
  have BU := Lib.hid bU
  have Z2 := Lib.hid z2
  have Z3 := Lib.hid z3
  clear hT hU bU z1 z2 z3 hg1
  unfold msA msZ at HU
  go_enter Try.func55, Try.ntmps55
  go_upto_region 2 with (fail)
  rw [← HU.out, ← HG.out]
  go_wp2_with fail
  go_loopw [4, 5, 26] (fun s4 s5 s26 wr => ∃ (j c : Nat) (L : Option Addr) (vs : List Value), j ≤ tn ∧ s26 = .int .i64 (j : Int) ∧ OwnS 180 2 wr w.heap.size L j c vs ∧ Cl wr (g1 + 1 + 1) (msA k f t tm ix lt cm ok (.slice L j c)) 41 ∧ Cl wr (g1 + 1) msZ 41 ∧ Below w.heap.size w wr) (fun _ _ s _ => tn - (intOf s).toNat)
  case atStart => exact ⟨0, 0, none, [], Nat.zero_le _, rfl, OwnS.nil _ _ _ _, Z3.out, Z2.out, BU.out⟩
  case round =>
    obtain ⟨j, c, L, vs, hj, rfl, hO, hz3, hz2, hB⟩ := hrel
    have HO := Lib.hid hO
    have HZ3 := Lib.hid hz3
    have HZ2 := Lib.hid hz2
    have HB := Lib.hid hB
    have hRT := HT.out wr hB
    have hgw : w.heap.size ≤ g1 := by rw [HG.out]; exact Nat.le_refl _
    by_cases hlt : j < tn
    · obtain ⟨b, off, hTb, hbl⟩ := hRT.pos (by omega)
      subst hTb
      obtain ⟨v, hv, kc⟩ := hRT.at_ j hlt
      obtain ⟨x, hx⟩ : ∃ x, ts[j]? = some x := by
        rw [List.getElem?_map] at hv
        cases hx : ts[j]? with
        | none => rw [hx] at hv; cases hv
        | some x => exact ⟨x, rfl⟩
      obtain rfl : v = .int .u64 (x : Int) := by rw [List.getElem?_map, hx] at hv; injection hv with hv; exact hv.symm
      have e7 : wr.cell? ⟨g1 + 1 + 1, 7, none⟩ = some (.slice L j c) := hz3.cell 7
      obtain ⟨V, hV⟩ : ∃ V, V = (wr.alloc (.cells #[.int .u8 ((j : Int) % 256), .int .u8 7] 5)).alloc (.cells #[.int .u64 (x : Int), .slice (some ⟨wr.heap.size, 0, none⟩) 2 2] 180) := ⟨_, rfl⟩
      have bV : Below wr.heap.size wr V := by rw [hV]; exact ((Below.refl _ _).alloc (Nat.le_refl _) _).alloc (by simp) _
      have zV : Cl V (wr.heap.size + 1) [.int .u64 (x : Int), .slice (some ⟨wr.heap.size, 0, none⟩) 2 2].toArray 180 := by rw [hV]; exact Cl.newg _ _ _ _ (by simp)
      have hRV := rdvS_of_cl (k := 1 * 2) zV rfl
      have hOV := hO.below bV
      have hbw : w.heap.size ≤ V.heap.size := Nat.le_trans hB.size bV.size
      have HST : Hid (∀ L2 c2 w4 us, OwnS 180 2 w4 w.heap.size L2 (j + 1) c2 us → V.grownBy w4 (blk L) → w4.cell? ⟨g1 + 1 + 1, 7, none⟩ = some (.slice L j c) ∧ w4.frozen? ⟨g1 + 1 + 1, 7, none⟩ = false ∧ OwnS 180 2 (w4.setCell ⟨g1 + 1 + 1, 7, none⟩ (.slice L2 (j + 1) c2)) w.heap.size L2 (j + 1) c2 us ∧ Cl (w4.setCell ⟨g1 + 1 + 1, 7, none⟩ (.slice L2 (j + 1) c2)) (g1 + 1 + 1) (msA k f t tm ix lt cm ok (.slice L2 (j + 1) c2)) 41 ∧ Cl (w4.setCell ⟨g1 + 1 + 1, 7, none⟩ (.slice L2 (j + 1) c2)) (g1 + 1) msZ 41 ∧ Below w.heap.size w (w4.setCell ⟨g1 + 1 + 1, 7, none⟩ (.slice L2 (j + 1) c2))) := Lib.hid (fun L2 c2 w4 us o4 hg => by
        have y3 := (hz3.below bV).grown hg (cl_row (hz3.below bV) hOV (by decide))
        have y2 := (hz2.below bV).grown hg (cl_row (hz2.below bV) hOV (by decide))
        have fs : Fr w4 (w4.setCell ⟨g1 + 1 + 1, 7, none⟩ (.slice L2 (j + 1) c2)) [g1 + 1 + 1] := Fr.set _ _ _ _
        have b4 : Below w.heap.size w w4 := (belowT' hB bV).grown hg hbw (fun k hk => (hOV.lt k hk).1)
        refine ⟨y3.cell 7, y3.thaw 7, o4.fr fs (fun b hb hm => ?_), y3.set 7 (.slice L2 (j + 1) c2), y2.off 7 _ (by omega), b4.trans (fs.below (fun b hb => by rw [List.mem_singleton] at hb; omega) b4.size)⟩
        rw [List.mem_singleton] at hm
        subst hm
        exact cl_row y3 o4 (by decide) hb)
      have HV := Lib.hid hV
      have HRV := Lib.hid hRV
      have HOV := Lib.hid hOV
      clear hO hz3 hz2 hB hRT hv hx hV bV zV hRV hOV hbl hgw
      go_upto_region 5 with (fail)
      go_wp2_with (at_builtin; rw [← HV.out]; refine wpList_appS _ rfl _ _ 39 rfl 180 2 (by decide) w.heap.size _ 32 Try.underlying39 info_en rfl L j c vs rfl HOV.out ⟨wr.heap.size + 1, 0, none⟩ 1 1 [.int .u64 (x : Int), .slice (some ⟨wr.heap.size, 0, none⟩) 2 2] rfl HRV.out (by omega) (by intro u hu; simp only [List.mem_cons, List.not_mem_nil, or_false] at hu; rcases hu with rfl | rfl <;> rfl) (by unfold maxLen; omega) (by omega) hbw ?_)
      intro L2 c2 w4 o4 hg4
      obtain ⟨f0, f1, f2, f3, f4, f5⟩ := HST.out L2 c2 w4 _ o4 hg4
      have HQ := Lib.hid (And.intro f2 (And.intro f3 (And.intro f4 f5)))
      clear o4 hg4 f2 f3 f4 f5 HST e7 kc
      go_wp2_with fail
      go_roundw
      case rel => exact ⟨j + 1, c2, L2, _, by omega, by go_num, HQ.out.1, HQ.out.2.1, HQ.out.2.2.1, HQ.out.2.2.2⟩
      case measure => simp [intOf]; omega
    · obtain rfl : j = tn := by omega
      obtain ⟨ms, hms⟩ : ∃ ms, ms = msA k f t tm ix lt cm ok (.slice L j c) := ⟨_, rfl⟩
      have hst := run_sc (cells := msA k f t tm ix lt cm ok (.slice L j c)) hz2 rfl ms_one
      have hsz : ms.size = 10 := by rw [hms]; rfl
      have size_m : (Try.prog.info? 41).map (·.size) = some ms.size := by rw [hms]; exact size_ms
      rw [← hms] at hst hz3
      have HZN : Hid (Cl (wr.setRow (g1 + 1) ms) (g1 + 1) ms 41) := Lib.hid (setRow_heap _ _ _ _ _ _ hz2)
      have HF : Hid (RetMs w k f t tm ix lt cm ok (.returned (.agg ms)) (wr.setRow (g1 + 1) ms)) := Lib.hid ⟨L, j, c, by rw [hms], below_setRow hB (by omega) _⟩
      have HZ3 := Lib.hid hz3
      have HSZ := Lib.hid size_m
      clear hms hO hz3 hz2 hB hRT
      go_wp2_with (first
        | (refine wpList_load_row rfl _ _ rfl (g1 + 1 + 1) rfl 41 ms (0, 0) _ HZ3.out Try.underlying41 rfl size_m ?_))
      exact bodyPost_ret (v := .agg ms) (results_cell_row rfl _ _ (g1 + 1) 41 ms (0, 0) _ rfl HZN.out Try.underlying41 rfl HSZ.out) rfl HF.out
end Go.Proofs.Ytgccbghaibddcaa
namespace Go.Proofs.Ytgccbghaibddcaa
open Go Go.RowKit
/-- 'n elements of sz cells, the first two of each slices of bytes.' -/
def RSt (sz : Nat) (w : World) (A : Option Addr) (n : Nat) : Prop := ∃ vs, RdV w A (n * sz) vs ∧ ∀ k, k < n → ∃ K kn kc V vn vc xs ys, vs[k * sz]? = some (.slice K kn kc) ∧ vs[k * sz + 1]? = some (.slice V vn vc) ∧ Rd w K kn xs ∧ Rd w V vn ys ∧ kn ≤ 1099511627776 ∧ vn ≤ 1099511627776 ∧ (sz = 3 → ∃ g, vs[k * sz + 2]? = some (.bool g))
theorem RSt.below {sz : Nat} {w w' : World} {A : Option Addr} {n : Nat} (h : RSt sz w A n) (hb : Below w.heap.size w w') : RSt sz w' A n := by
  obtain ⟨vs, h1, h2⟩ := h
  refine ⟨vs, h1.below hb, fun k hk => ?_⟩
  obtain ⟨K, kn, kc, V, vn, vc, xs, ys, e1, e2, r1, r2, e3⟩ := h2 k hk
  exact ⟨K, kn, kc, V, vn, vc, xs, ys, e1, e2, r1.below hb, r2.below hb, e3⟩
theorem RSt.pos {sz : Nat} {w : World} {A : Option Addr} {n : Nat} (h : RSt sz w A n) (hs : 0 < sz) (hn : 0 < n) : ∃ b off, A = some ⟨b, off, none⟩ ∧ b < w.heap.size := by
  obtain ⟨vs, h1, h2⟩ := h
  exact h1.pos (Nat.mul_pos hn hs)
theorem RSt.at_ {sz : Nat} {w : World} {b off n : Nat} (h : RSt sz w (some ⟨b, off, none⟩) n) (hs : 2 ≤ sz) (k : Nat) (hk : k < n) : ∃ K kn kc V vn vc xs ys, w.cell? ⟨b, off + k * sz, none⟩ = some (.slice K kn kc) ∧ w.cell? ⟨b, off + k * sz + 1, none⟩ = some (.slice V vn vc) ∧ Rd w K kn xs ∧ Rd w V vn ys ∧ kn ≤ 1099511627776 ∧ vn ≤ 1099511627776 ∧ (sz = 3 → ∃ g, w.cell? ⟨b, off + k * sz + 2, none⟩ = some (.bool g)) := by
  obtain ⟨vs, h1, h2⟩ := h
  obtain ⟨K, kn, kc, V, vn, vc, xs, ys, e1, e2, r1, r2, l1, l2, e3⟩ := h2 k hk
  obtain ⟨b', off', e, hb, hc⟩ := h1.2 (Nat.mul_pos (by omega) (by omega))
  injection e with e
  injection e with e4 e5
  subst e4 e5
  refine ⟨K, kn, kc, V, vn, vc, xs, ys, hc _ _ e1, ?_, r1, r2, l1, l2, fun h3 => ?_⟩
  · have := hc _ _ e2
    rwa [← Nat.add_assoc] at this
  · obtain ⟨g, hg⟩ := e3 h3
    have := hc _ _ hg
    exact ⟨g, by rwa [← Nat.add_assoc] at this⟩
theorem Made.outT {base : Nat} {w w' : World} {xs : List UInt8} {e : Ending} (h : Made base w xs e w') : ∃ A n c, e = .returned (.slice A n c) ∧ Below base w w' := by
  obtain ⟨A, n, c, h1, _, h2⟩ := h
  exact ⟨A, n, c, h1, h2⟩
theorem info_wr : (Try.prog.info? 156).map (fun i => (i.zero, i.size, i.bytes)) = some (some (.agg #[.slice none 0 0, .slice none 0 0, .bool false]), 3, 56) := by kernel_rfl
def RetTw (w : World) (n : Nat) (e : Ending) (w' : World) : Prop := ∃ L c, e = .returned (.slice L n c) ∧ Below w.heap.size w w'
set_option maxRecDepth 100000 in
set_option maxHeartbeats 8000000 in
theorem twinsW_any {w : World} {A : Option Addr} {n c : Nat} (h : RSt 3 w A n) (hn : n ≤ 1099511627776) : Calls Try.prog 31 #[.slice A n c] w (RetTw w n) := by
  have HH := Lib.hid h
  clear h
  go_enter Try.func31, Try.ntmps31
  go_wp2_with fail
  go_loopw [3, 4] (fun s3 s4 wr => ∃ (k d : Nat) (L : Option Addr) (vs : List Value), k ≤ n ∧ s4 = .int .i64 (k : Int) ∧ s3 = .slice L k d ∧ OwnS 156 3 wr w.heap.size L k d vs ∧ Below w.heap.size w wr) (fun _ s _ => n - (intOf s).toNat)
  case atStart => exact ⟨0, 0, none, [], Nat.zero_le _, rfl, rfl, OwnS.nil _ _ _ _, Below.refl _ _⟩
  case round =>
    obtain ⟨k, d, L, vs, hk, rfl, rfl, hO, hB⟩ := hrel
    have HO := Lib.hid hO
    have HB := Lib.hid hB
    have hR : RSt 3 wr A n := HH.out.below hB
    clear hO
    by_cases hlt : k < n
    · obtain ⟨b, off, hAb, hbl⟩ := hR.pos (by omega) (by omega)
      subst hAb
      obtain ⟨K, kn, kc, T, tn, tc, xs, ys, m0, m1, rk, rt, lk, lt, m2⟩ := hR.at_ (by omega) k hlt
      obtain ⟨gn, m2⟩ := m2 rfl
      have HCK : Hid (∀ wx, Below wr.heap.size wr wx → Calls Try.prog 14 #[.slice K kn kc] wx (Made wx.heap.size wx xs)) := Lib.hid (fun wx hb => Copy_any K kn kc xs wx (rk.below hb) (by omega))
      have HCT : Hid (∀ wx, Below wr.heap.size wr wx → Calls Try.prog 14 #[.slice T tn tc] wx (Made wx.heap.size wx ys)) := Lib.hid (fun wx hb => Copy_any T tn tc ys wx (rt.below hb) (by omega))
      have HLD : Hid (∀ wx, Below wr.heap.size wr wx → wx.cell? ⟨b, off + k * 3, none⟩ = some (.slice K kn kc) ∧ wx.cell? ⟨b, off + k * 3 + 1, none⟩ = some (.slice T tn tc) ∧ wx.cell? ⟨b, off + k * 3 + 2, none⟩ = some (.bool gn)) := Lib.hid (fun wx hb => by
        have hc : ∀ i v, wr.cell? ⟨b, i, none⟩ = some v → wx.cell? ⟨b, i, none⟩ = some v := fun i v hv => by rw [← hv]; exact hb.cell hbl
        exact ⟨hc _ _ m0, hc _ _ m1, hc _ _ m2⟩)
      have HNX : Hid (∀ (wx w6 : World) (L2 : Option Addr) (d2 : Nat) us, Below wr.heap.size wr wx → OwnS 156 3 w6 w.heap.size L2 (k + 1) d2 us → wx.grownBy w6 (blk L) → Below w.heap.size w w6) := Lib.hid (fun wx w6 L2 d2 us hb _ hg => (belowT' HB.out hb).grown hg (Nat.le_trans HB.out.size hb.size) (fun k hk => ((HO.out.below hb).lt k hk).1))
      have HOW : Hid (∀ wx, Below wr.heap.size wr wx → OwnS 156 3 wx w.heap.size L k d vs ∧ w.heap.size ≤ wx.heap.size) := Lib.hid (fun wx hb => ⟨HO.out.below hb, Nat.le_trans HB.out.size hb.size⟩)
      have hB1 : Below wr.heap.size wr wr.drew := (Below.refl _ _).drew
      clear hR rk rt hB
      go_upto_region 5 with (fail)
      go_region_law (first | (go_simp; go_at_call 14; with_reducible refine (HCK.out _ (by first | exact hB1 | assumption)).mono ?_; intro e wk hq; obtain ⟨C, cn, cc, h1, bC⟩ := Made.outT hq; subst h1; have bC' := belowT' (by first | exact hB1 | assumption : Below wr.heap.size wr _) bC; obtain ⟨p0, p1, p2⟩ := HLD.out _ bC') | (go_simp; go_at_call 14; with_reducible refine (HCT.out _ (by first | exact hB1 | assumption)).mono ?_; intro e wv hq; obtain ⟨D, dn, dc, h2, bD⟩ := Made.outT hq; subst h2; have bD' := belowT' (by first | exact hB1 | assumption : Below wr.heap.size wr _) bD; obtain ⟨n0, n1, n2⟩ := HLD.out _ bD') | (refine step_appS _ rfl (Operand.tmp 11) (Operand.tmp 30) 29 rfl 156 3 (by decide) w.heap.size _ 56 Try.underlying29 info_wr rfl L k d vs (by first | (simp [Act.eval]; done) | (simp [Act.eval, Act.put]; done) | rfl) (HOW.out _ (bD'.alloc bD'.size _)).1 ⟨wv.heap.size, 0, none⟩ 1 1 [.slice C cn cc, .slice D dn dc, .bool gn] (by first | (simp [Act.eval]; done) | (simp [Act.eval, Act.put]; done) | rfl) (rdvS_of_cl (k := 1 * 3) (Cl.new wv [.slice C cn cc, .slice D dn dc, .bool gn].toArray 156) rfl) (by omega) (by simp [Value.oneCell']) (by unfold maxLen; omega) (by omega) (HOW.out _ (bD'.alloc bD'.size _)).2 ?_; intro L2 d2 w6 hL hg) | (refine step_appS _ rfl (Operand.tmp 11) (Operand.tmp 30) 29 rfl 156 3 (by decide) w.heap.size _ 56 Try.underlying29 info_wr rfl L k d vs (by first | (simp [Act.eval]; done) | (simp [Act.eval, Act.put]; done) | rfl) (HOW.out _ (bC'.alloc bC'.size _)).1 ⟨wk.heap.size, 0, none⟩ 1 1 [.slice C cn cc, .slice D dn dc, .bool gn] (by first | (simp [Act.eval]; done) | (simp [Act.eval, Act.put]; done) | rfl) (rdvS_of_cl (k := 1 * 3) (Cl.new wk [.slice C cn cc, .slice D dn dc, .bool gn].toArray 156) rfl) (by omega) (by simp [Value.oneCell']) (by unfold maxLen; omega) (by omega) (HOW.out _ (bC'.alloc bC'.size _)).2 ?_; intro L2 d2 w6 hL hg))
      all_goals first
        | (have HQ : Hid (OwnS 156 3 w6 w.heap.size L2 (k + 1) d2 (vs ++ [.slice C cn cc, .slice D dn dc, .bool gn]) ∧ Below w.heap.size w w6) := Lib.hid ⟨hL, HNX.out _ _ _ _ _ (bD'.alloc bD'.size _) hL hg⟩
           clear hL hg bC bD bC' bD' p0 p1 p2 n0 n1 n2 m0 m1 m2
           go_wp2_with fail
           go_roundw
           case rel => exact ⟨k + 1, d2, L2, _, by omega, by go_num, rfl, HQ.out.1, HQ.out.2⟩
           case measure => simp [intOf]; omega)
        | (have HQ : Hid (OwnS 156 3 w6 w.heap.size L2 (k + 1) d2 (vs ++ [.slice C cn cc, .slice D dn dc, .bool gn]) ∧ Below w.heap.size w w6) := Lib.hid ⟨hL, HNX.out _ _ _ _ _ (bC'.alloc bC'.size _) hL hg⟩
           clear hL hg bC bD bC' bD' p0 p1 p2 n0 n1 n2 m0 m1 m2
           go_wp2_with fail
           go_roundw
           case rel => exact ⟨k + 1, d2, L2, _, by omega, by go_num, rfl, HQ.out.1, HQ.out.2⟩
           case measure => simp [intOf]; omega)
    · obtain rfl : k = n := by omega
      have HF : Hid (RetTw w k (.returned (.slice L k d)) wr) := Lib.hid ⟨L, d, rfl, HB.out⟩
      clear hR hB
      go_wp2_with fail
      go_ret
      exact HF.out
end Go.Proofs.Ytgccbghaibddcaa
namespace Go.Proofs.Ytgccbghaibddcaa
open Go Go.RowKit
/-- A note's cells. -/
def ntA (k f t : Int) (tm ix lt cm : Nat) (T : Option Addr) (tn tc : Nat) (ok : Bool) : Array Value := #[.int .i64 k, .int .i64 f, .int .i64 t, .int .u64 (tm : Int), .int .u64 (ix : Int), .int .u64 (lt : Int), .int .u64 (cm : Int), .slice T tn tc, .bool ok]
theorem size_nt {k f t : Int} {tm ix lt cm : Nat} {T : Option Addr} {tn tc : Nat} {ok : Bool} : (Try.prog.info? 27).map (·.size) = some (ntA k f t tm ix lt cm T tn tc ok).size := by show _ = some 9; kernel_rfl
set_option maxRecDepth 100000 in
set_option maxHeartbeats 8000000 in
theorem message_any {w : World} (k f t : Int) (tm ix lt cm : Nat) (T : Option Addr) (tn tc : Nat) (ok : Bool) (ts : List Nat) (hT : RdV w T tn (ts.map fun (x : Nat) => Value.int .u64 (x : Int))) (htn : tn ≤ 100000) :
    Calls Try.prog 30 #[.agg (ntA k f t tm ix lt cm T tn tc ok)] w (RetMs w k f t tm ix lt cm ok) := by
  obtain ⟨U, hU⟩ : ∃ U, U = (w.alloc (.cells (ntA k f t tm ix lt cm T tn tc ok) 27)).alloc (.cells msZ 41) := ⟨_, rfl⟩
  obtain ⟨g1, hg1⟩ : ∃ g1, g1 = w.heap.size := ⟨_, rfl⟩
  have bU : Below w.heap.size w U := by rw [hU]; exact ((Below.refl _ _).alloc (Nat.le_refl _) _).alloc (by simp) _
  have z1 : Cl U g1 (ntA k f t tm ix lt cm T tn tc ok) 27 := by rw [hU, hg1]; exact (Cl.new _ _ _).alloc _
  have z2 : Cl U (g1 + 1) msZ 41 := by rw [hU, hg1]; exact Cl.newg _ _ _ _ (by simp)
  have HMS : Hid (Calls Try.prog 55 #[.agg (ntA k f t tm ix lt cm T tn tc ok)] U (RetMs U k f t tm ix lt cm ok)) := Lib.hid (msg_any k f t tm ix lt cm T tn tc ok ts (hT.below bU) htn)
  have HG := Lib.hid hg1
  have BU := Lib.hid bU
  have Z1 := Lib.hid z1
  have Z2 := Lib.hid z2
  obtain ⟨nt, hnt⟩ : ∃ nt, nt = ntA k f t tm ix lt cm T tn tc ok := ⟨_, rfl⟩
  have size_n : (Try.prog.info? 27).map (·.size) = some nt.size := by rw [hnt]; exact size_nt
  have hsz : nt.size = 9 := by rw [hnt]; rfl
  rw [← hnt] at HMS Z1 hU ⊢
  have HU := Lib.hid hU
  clear hT hU bU z1 z2 hg1 hnt
  unfold msZ at HU
  go_enter Try.func30, Try.ntmps30
  go_upto_region 1 with (fail)
  rw [← HU.out, ← HG.out]
  go_wp2_with (first
    | (refine wpList_load_row rfl _ _ rfl g1 rfl 27 nt (0, 0) _ Z1.out Try.underlying27 rfl size_n ?_))
  with_reducible refine HMS.out.mono ?_
  rintro e w2 ⟨L, n, c, rfl, b2⟩
  have z2 : Cl w2 (g1 + 1) msZ 41 := Z2.out.below b2
  obtain ⟨ms, hms⟩ : ∃ ms, ms = msA k f t tm ix lt cm ok (.slice L n c) := ⟨_, rfl⟩
  have hst := run_sc (cells := msA k f t tm ix lt cm ok (.slice L n c)) z2 rfl ms_one
  have hsz2 : ms.size = 10 := by rw [hms]; rfl
  have size_m : (Try.prog.info? 41).map (·.size) = some ms.size := by rw [hms]; exact size_ms
  have hgl : w.heap.size ≤ g1 := by rw [HG.out]; exact Nat.le_refl _
  have HF : Hid (RetMs w k f t tm ix lt cm ok (.returned (.agg ms)) (w2.setRow (g1 + 1) ms)) := Lib.hid ⟨L, n, c, by rw [hms], below_setRow (belowT' BU.out b2) (by omega) _⟩
  rw [← hms] at hst ⊢
  have HZN : Hid (Cl (w2.setRow (g1 + 1) ms) (g1 + 1) ms 41) := Lib.hid (setRow_heap _ _ _ _ _ _ z2)
  have HSZ := Lib.hid size_m
  clear hms z2 b2 hgl HMS
  go_wp2_with fail
  exact bodyPost_ret (v := .agg ms) (results_cell_row rfl _ _ (g1 + 1) 41 ms (0, 0) _ rfl HZN.out Try.underlying41 rfl HSZ.out) rfl HF.out
end Go.Proofs.Ytgccbghaibddcaa
namespace Go.Proofs.Ytgccbghaibddcaa
open Go Go.RowKit
theorem Made.outV {base : Nat} {w w' : World} {xs : List UInt8} {e : Ending} (h : Made base w xs e w') : ∃ A n c, e = .returned (.slice A n c) ∧ Own 5 w' base A n c xs ∧ Below base w w' := h
theorem RetMs.out {w w' : World} {k f t : Int} {tm ix lt cm : Nat} {ok : Bool} {e : Ending} (h : RetMs w k f t tm ix lt cm ok e w') : ∃ L n c, e = .returned (.agg #[.int .i64 k, .int .i64 f, .int .i64 t, .int .u64 (tm : Int), .int .u64 (ix : Int), .int .u64 (lt : Int), .int .u64 (cm : Int), .slice L n c, .bool ok, .slice none 0 0]) ∧ Below w.heap.size w w' := h
/-- A form's cells. -/
def fmC (i0 i1 i2 i3 i4 i5 i6 i7 : Int) (s q : Nat) (k f t : Int) (tm ix lt cm : Nat) (T : Option Addr) (tn tc : Nat) (ok : Bool) (re rs : Int) (rt : Nat) (P : Option Addr) (pn pc : Nat) (a b : Nat) (cmt : Bool) (ct : Nat) (W : Option Addr) (wn wc : Nat) (R : Option Addr) (rn rc : Nat) (D : Option Addr) (dn dc : Nat) : Array Value :=
  #[.int .i64 i0, .int .i64 i1, .int .i64 i2, .int .i64 i3, .int .i64 i4, .int .i64 i5, .int .i64 i6, .int .i64 i7, .int .u64 (s : Int), .int .u64 (q : Int), .int .i64 k, .int .i64 f, .int .i64 t, .int .u64 (tm : Int), .int .u64 (ix : Int), .int .u64 (lt : Int), .int .u64 (cm : Int), .slice T tn tc, .bool ok, .int .i64 re, .int .i64 rs, .int .u64 (rt : Int), .slice P pn pc, .int .u64 (a : Int), .int .u64 (b : Int), .bool cmt, .int .u64 (ct : Int), .slice W wn wc, .slice R rn rc, .slice D dn dc]
/-- A packet of a form, before its result. -/
def pkX (i0 i1 i2 i3 i4 i5 i6 i7 : Int) (s q : Nat) (k f t : Int) (tm ix lt cm : Nat) (ok : Bool) (L : Option Addr) (n c : Nat) (C : Option Addr) (cn cc : Nat) : Array Value := #[.int .i64 i0, .int .i64 i1, .int .i64 i2, .int .i64 i3, .int .i64 i4, .int .i64 i5, .int .i64 i6, .int .u64 (s : Int), .int .u64 (q : Int), .int .i64 i7, .int .i64 k, .int .i64 f, .int .i64 t, .int .u64 (tm : Int), .int .u64 (ix : Int), .int .u64 (lt : Int), .int .u64 (cm : Int), .slice L n c, .bool ok, .slice none 0 0, .int .i64 0, .int .i64 0, .int .u64 0, .slice none 0 0, .bool false, .int .u64 0, .slice none 0 0, .slice none 0 0, .slice C cn cc]
theorem pkX_size {i0 i1 i2 i3 i4 i5 i6 i7 : Int} {s q : Nat} {k f t : Int} {tm ix lt cm : Nat} {ok : Bool} {L : Option Addr} {n c : Nat} {C : Option Addr} {cn cc : Nat} : (pkX i0 i1 i2 i3 i4 i5 i6 i7 s q k f t tm ix lt cm ok L n c C cn cc).size = 29 := rfl
theorem pkX_one {i0 i1 i2 i3 i4 i5 i6 i7 : Int} {s q : Nat} {k f t : Int} {tm ix lt cm : Nat} {ok : Bool} {L : Option Addr} {n c : Nat} {C : Option Addr} {cn cc : Nat} : (pkX i0 i1 i2 i3 i4 i5 i6 i7 s q k f t tm ix lt cm ok L n c C cn cc).all (·.oneCell') = true := by simp [pkX, Value.oneCell']
theorem run_storeMid (g : Nat) (t : TypeId) (off : Nat) : ∀ (vs : List Value) (i : Nat) (cur : Array Value) (w : World), w.heap[g]? = some (.cells cur t (0, 0)) → off + i + vs.length ≤ cur.size → (∀ v ∈ vs, v.oneCell' = true) →
    ∃ w', (storeCells ⟨g, off, none⟩ vs i).run Try.prog w = .ok () w' ∧ ∃ cs : Array Value, Cl w' g cs t ∧ cs.size = cur.size ∧ (∀ k, k < off + i ∨ off + i + vs.length ≤ k → cs[k]? = cur[k]?) ∧ (∀ k, k < vs.length → cs[off + i + k]? = vs[k]?) ∧ Fr w w' [g]
  | [], i, cur, w, hg, hl, _ => ⟨w, rfl, cur, hg, rfl, fun _ _ => rfl, fun k hk => absurd hk (Nat.not_lt_zero _), Fr.refl _ _⟩
  | v :: rest, i, cur, w, hg, hl, h1 => by
    have hi : off + i < cur.size := by simp at hl; omega
    have hadd : (⟨g, off, none⟩ : Addr).add i = ⟨g, off + i, none⟩ := by unfold Addr.add; split <;> simp_all
    have hz : Cl w g cur t := hg
    have hst : (store ((⟨g, off, none⟩ : Addr).add i) v).run Try.prog w = .ok () (w.setCell ⟨g, off + i, none⟩ v) := by
      rw [hadd, run_store Try.prog w _ v _ (h1 v (by simp)), hz.cell (off + i)]
      simp [hz.thaw (off + i), hi]
    obtain ⟨w', k1, cs, k2, k3, k4, k6, k5⟩ := run_storeMid g t off rest (i + 1) (cur.setIfInBounds (off + i) v) (w.setCell ⟨g, off + i, none⟩ v) (hz.set (off + i) v) (by simp at hl ⊢; omega) (fun x hx => h1 x (by simp [hx]))
    refine ⟨w', ?_, cs, k2, by rw [k3]; simp, fun k hk => ?_, fun k hk => ?_, (Fr.set _ _ _ _).trans k5 (fun b hb => .inl hb)⟩
    · simp only [storeCells, Sem.run_bind, hst, Result.andThen_ok]
      exact k1
    · simp only [List.length_cons] at hk
      rw [k4 k (by omega)]
      simp [show off + i ≠ k by omega]
    · cases k with
      | zero =>
        rw [Nat.add_zero, k4 (off + i) (by omega)]
        simp [hi]
      | succ k =>
        have := k6 k (by simp only [List.length_cons] at hk; omega)
        rw [show off + i + (k + 1) = off + (i + 1) + k by omega, this]
        simp
/-- 'A packet that is this form's but for its result.' -/
def PkH (i0 i1 i2 i3 i4 i5 i6 i7 : Int) (s q : Nat) (k f t : Int) (tm ix lt cm : Nat) (ok : Bool) (L : Option Addr) (n c : Nat) (C : Option Addr) (cn cc : Nat) (pvs : Array Value) : Prop := pvs.size = 29 ∧ (∀ j, j < 20 ∨ 28 ≤ j → pvs[j]? = (pkX i0 i1 i2 i3 i4 i5 i6 i7 s q k f t tm ix lt cm ok L n c C cn cc)[j]?) ∧ (∀ (j : Nat) v, pvs[j]? = some v → v.oneCell' = true)
end Go.Proofs.Ytgccbghaibddcaa
namespace Go.Proofs.Ytgccbghaibddcaa
open Go Go.RowKit Go.Deep Go.ChangeShapes Go.WideShapes Go.ChangeAt
theorem RSt.of_cells {sz len b off : Nat} {w : World} (h2 : 2 ≤ sz) (h3 : sz ≤ 3) (h : ∀ k, k < len → ∃ K kn kc V vn vc xs ys, w.cell? ⟨b, off + k * sz, none⟩ = some (.slice K kn kc) ∧ w.cell? ⟨b, off + k * sz + 1, none⟩ = some (.slice V vn vc) ∧ Rd w K kn xs ∧ Rd w V vn ys ∧ kn ≤ 1099511627776 ∧ vn ≤ 1099511627776 ∧ (sz = 3 → ∃ g, w.cell? ⟨b, off + k * sz + 2, none⟩ = some (.bool g))) : RSt sz w (some ⟨b, off, none⟩) len := by
  have hex : ∀ i, i < len * sz → ∃ v, w.cell? ⟨b, off + i, none⟩ = some v := fun i hi => by
    have hk : i / sz < len := Nat.div_lt_of_lt_mul (by rw [Nat.mul_comm]; exact hi)
    have hj : i % sz < sz := Nat.mod_lt _ (by omega)
    have he : i = i / sz * sz + i % sz := by rw [Nat.mul_comm]; exact (Nat.div_add_mod i sz).symm
    obtain ⟨K, kn, kc, V, vn, vc, xs, ys, c0, c1, _, _, _, _, c2⟩ := h _ hk
    obtain ⟨j, hjj⟩ : ∃ j, j = i % sz := ⟨_, rfl⟩
    obtain ⟨kk, hkk⟩ : ∃ kk, kk = i / sz * sz := ⟨_, rfl⟩
    rw [← hkk] at c0 c1 c2 he
    rw [← hjj] at hj he
    rw [he]
    match j, hj with
    | 0, _ => exact ⟨_, c0⟩
    | 1, _ => exact ⟨_, c1⟩
    | 2, hj =>
      obtain ⟨g, hg⟩ := c2 (by omega)
      exact ⟨_, hg⟩
    | (j + 3), hj => omega
  have hat : ∀ i v, w.cell? ⟨b, off + i, none⟩ = some v → i < len * sz → ((List.range (len * sz)).map fun i => (w.cell? ⟨b, off + i, none⟩).getD undef)[i]? = some v := fun i v hv hi => by
    rw [List.getElem?_map, List.getElem?_range hi, Option.map_some, hv]
    rfl
  refine ⟨(List.range (len * sz)).map fun i => (w.cell? ⟨b, off + i, none⟩).getD undef, ⟨by simp, fun hpos => ?_⟩, fun k hk => ?_⟩
  · obtain ⟨v, hv⟩ := hex 0 hpos
    refine ⟨b, off, rfl, World.block_lt_of_cell? w _ hv, fun i x hx => ?_⟩
    have hi : i < len * sz := by
      have := (List.getElem?_eq_some_iff.1 hx).1
      simpa using this
    obtain ⟨u, hu⟩ := hex i hi
    rw [hat i u hu hi] at hx
    rw [hu, hx]
  · have hkz : k * sz + sz ≤ len * sz := by
      have := Nat.mul_le_mul_right sz (show k + 1 ≤ len by omega)
      rw [Nat.succ_mul] at this
      exact this
    obtain ⟨K, kn, kc, V, vn, vc, xs, ys, c0, c1, r0, r1, l0, l1, c2⟩ := h k hk
    refine ⟨K, kn, kc, V, vn, vc, xs, ys, hat _ _ c0 (by omega), hat _ _ c1 (by omega), r0, r1, l0, l1, fun h => ?_⟩
    obtain ⟨g, hg⟩ := c2 h
    exact ⟨g, hat _ _ hg (by omega)⟩
theorem bool_fieldY {H : Type} {enc : TypeId × Value → H} {w : World} {base m : Nat} {held : Bool} {v : Value} {y : DataW H × List MemPlace} {t : TypeId} (ht : Try.prog.underlying t = some .bool) (h : DataW.trod enc Try.prog w base (fun _ => true) held m t [v] = some y) :
    ∃ z : Bool, v = .bool z := by
  obtain ⟨z, hcs, hy⟩ := DataW.trod_bool ht h
  simp at hcs
  exact ⟨z, hcs⟩
set_option maxRecDepth 100000 in
theorem pairs_of {H : Type} {enc : TypeId × Value → H} {w : World} {base fuel : Nat} {held : Bool} {v : Value} {x : DataW H × List MemPlace} (h : DataW.trod enc Try.prog w base (fun _ => true) held fuel 28 [v] = some x) (hb : Rows.uptoBulk x.1 ≤ 1048576) :
    ∃ A n c, v = .slice A n c ∧ RSt 2 w A n ∧ n ≤ 1048576 := by
  have hone : oneCellFields Try.prog (match Try.prog.underlying 100 with | some (.struct fs) => fs | _ => #[]) = true := by kernel_rfl
  rcases open_slice Try.underlying28 h with ⟨hcs, hx⟩ | ⟨a, l, c, m, n, D, Pl, hcs, _, hl, hm, hmm, hx, hi⟩
  · simp at hcs
    subst hcs
    exact ⟨none, 0, 0, rfl, ⟨[], RdV.nil _ _, fun k hk => absurd hk (Nat.not_lt_zero _)⟩, Nat.zero_le _⟩
  · simp at hcs
    subst hcs
    simp at hmm
    subst hmm
    rw [Try.underlying100] at hone
    have hc2 : Try.prog.cellsOf 100 = 2 := by kernel_rfl
    rw [hx] at hb
    simp only [Rows.uptoBulk] at hb
    have hll := length_le ((List.range l).map D)
    simp only [List.length_map, List.length_range] at hll
    have key : ∀ i, i < l → ∃ K kn kc V vn vc xs ys, w.cell? ((a.add (i * 2)).add 0) = some (.slice K kn kc) ∧ w.cell? ((a.add (i * 2)).add 1) = some (.slice V vn vc) ∧ Rd w K kn xs ∧ Rd w V vn ys ∧ kn ≤ 1099511627776 ∧ vn ≤ 1099511627776 := by
      intro i hil
      obtain ⟨cs', hc', ht'⟩ := hi i (by omega)
      obtain ⟨ys, k, hD, hyl, hf⟩ := fields_at Try.underlying100 hone (by kernel_rfl) hc' ht'
      obtain ⟨v0, y0, m0, g0, t0⟩ := hf 0 _ rfl
      obtain ⟨v1, y1, m1, g1, t1⟩ := hf 1 _ rfl
      obtain ⟨S, sn, sc, xs, rfl, r0, q0, p0, u0, _⟩ := bytes_field t0
      obtain ⟨K, kn, kc, ks, rfl, r3, q3, p3, u3, _⟩ := bytes_field t1
      rw [hc2] at m0 m1
      have hDb : Rows.uptoBulk (D i) ≤ 1048576 := by
        have := part_bulk (d := D i) (l := (List.range l).map D) (List.mem_map.2 ⟨i, List.mem_range.2 hil, rfl⟩)
        omega
      have hys : ys = [y0, y1] := by
        have h6 : ys.length = 2 := hyl
        match ys, h6, g0, g1 with
        | [q0, q1], _, g0, g1 =>
          simp only [List.getElem?_cons_zero, List.getElem?_cons_succ, Option.some.injEq] at g0 g1
          rw [g0, g1]
      rw [hD, hys] at hDb
      simp only [List.map_cons, List.map_nil, Rows.uptoBulk, Rows.uptoBulkAll] at hDb
      have e0 := r0.len
      have e3 := r3.len
      exact ⟨S, sn, sc, K, kn, kc, xs, ks, m0, m1, r0, r3, by omega, by omega⟩
    refine ⟨some a, l, _, rfl, ?_, by omega⟩
    by_cases hn : 0 < l
    · obtain ⟨b, off, spot⟩ := a
      obtain ⟨_, _, _, _, _, _, _, _, m0, _⟩ := key 0 hn
      have hspot : spot = none := by
        have := World.cell?_spot m0
        simpa [Addr.add] using this
      subst hspot
      exact RSt.of_cells (by omega) (by omega) fun k hk => by
        obtain ⟨S, sn, sc, K, kn, kc, xs, ks, m0, m1, r0, r3, l0, l1⟩ := key k hk
        rw [addA, addA] at m0 m1
        exact ⟨S, sn, sc, K, kn, kc, xs, ks, m0, m1, r0, r3, l0, l1, fun h => absurd h (by decide)⟩
    · have h0 : l = 0 := by omega
      subst h0
      exact ⟨[], RdV.nil _ _, fun k hk => absurd hk (Nat.not_lt_zero _)⟩
set_option maxRecDepth 100000 in
theorem writes_of {H : Type} {enc : TypeId × Value → H} {w : World} {base fuel : Nat} {held : Bool} {v : Value} {x : DataW H × List MemPlace} (h : DataW.trod enc Try.prog w base (fun _ => true) held fuel 29 [v] = some x) (hb : Rows.uptoBulk x.1 ≤ 1048576) :
    ∃ A n c, v = .slice A n c ∧ RSt 3 w A n ∧ n ≤ 1048576 := by
  have hone : oneCellFields Try.prog (match Try.prog.underlying 156 with | some (.struct fs) => fs | _ => #[]) = true := by kernel_rfl
  rcases open_slice Try.underlying29 h with ⟨hcs, hx⟩ | ⟨a, l, c, m, n, D, Pl, hcs, _, hl, hm, hmm, hx, hi⟩
  · simp at hcs
    subst hcs
    exact ⟨none, 0, 0, rfl, ⟨[], RdV.nil _ _, fun k hk => absurd hk (Nat.not_lt_zero _)⟩, Nat.zero_le _⟩
  · simp at hcs
    subst hcs
    simp at hmm
    subst hmm
    rw [Try.underlying156] at hone
    have hc3 : Try.prog.cellsOf 156 = 3 := by kernel_rfl
    rw [hx] at hb
    simp only [Rows.uptoBulk] at hb
    have hll := length_le ((List.range l).map D)
    simp only [List.length_map, List.length_range] at hll
    have key : ∀ i, i < l → ∃ K kn kc V vn vc xs ys, w.cell? ((a.add (i * 3)).add 0) = some (.slice K kn kc) ∧ w.cell? ((a.add (i * 3)).add 1) = some (.slice V vn vc) ∧ Rd w K kn xs ∧ Rd w V vn ys ∧ kn ≤ 1099511627776 ∧ vn ≤ 1099511627776 ∧ ∃ gg, w.cell? ((a.add (i * 3)).add 2) = some (.bool gg) := by
      intro i hil
      obtain ⟨cs', hc', ht'⟩ := hi i (by omega)
      obtain ⟨ys, k, hD, hyl, hf⟩ := fields_at Try.underlying156 hone (by kernel_rfl) hc' ht'
      obtain ⟨v0, y0, m0, g0, t0⟩ := hf 0 _ rfl
      obtain ⟨v1, y1, m1, g1, t1⟩ := hf 1 _ rfl
      obtain ⟨v2, y2, m2, g2, t2⟩ := hf 2 _ rfl
      obtain ⟨zb, rfl⟩ := bool_fieldY Try.underlying4 t2
      obtain ⟨S, sn, sc, xs, rfl, r0, q0, p0, u0, _⟩ := bytes_field t0
      obtain ⟨K, kn, kc, ks, rfl, r3, q3, p3, u3, _⟩ := bytes_field t1
      rw [hc3] at m0 m1 m2
      have hDb : Rows.uptoBulk (D i) ≤ 1048576 := by
        have := part_bulk (d := D i) (l := (List.range l).map D) (List.mem_map.2 ⟨i, List.mem_range.2 hil, rfl⟩)
        omega
      have hys : ys = [y0, y1, y2] := by
        have h6 : ys.length = 3 := hyl
        match ys, h6, g0, g1, g2 with
        | [q0, q1, q2], _, g0, g1, g2 =>
          simp only [List.getElem?_cons_zero, List.getElem?_cons_succ, Option.some.injEq] at g0 g1 g2
          rw [g0, g1, g2]
      rw [hD, hys] at hDb
      simp only [List.map_cons, List.map_nil, Rows.uptoBulk, Rows.uptoBulkAll] at hDb
      have e0 := r0.len
      have e3 := r3.len
      exact ⟨S, sn, sc, K, kn, kc, xs, ks, m0, m1, r0, r3, by omega, by omega, zb, m2⟩
    refine ⟨some a, l, _, rfl, ?_, by omega⟩
    by_cases hn : 0 < l
    · obtain ⟨b, off, spot⟩ := a
      obtain ⟨_, _, _, _, _, _, _, _, m0, _⟩ := key 0 hn
      have hspot : spot = none := by
        have := World.cell?_spot m0
        simpa [Addr.add] using this
      subst hspot
      exact RSt.of_cells (by omega) (by omega) fun k hk => by
        obtain ⟨S, sn, sc, K, kn, kc, xs, ks, m0, m1, r0, r3, l0, l1, gg, m2⟩ := key k hk
        rw [addA, addA] at m0 m1 m2
        exact ⟨S, sn, sc, K, kn, kc, xs, ks, m0, m1, r0, r3, l0, l1, fun _ => ⟨gg, m2⟩⟩
    · have h0 : l = 0 := by omega
      subst h0
      exact ⟨[], RdV.nil _ _, fun k hk => absurd hk (Nat.not_lt_zero _)⟩
set_option maxRecDepth 100000 in
theorem terms_of {H : Type} {enc : TypeId × Value → H} {w : World} {base fuel : Nat} {held : Bool} {v : Value} {x : DataW H × List MemPlace} (h : DataW.trod enc Try.prog w base (fun _ => true) held fuel 25 [v] = some x) (hb : Rows.uptoBulk x.1 ≤ 1048576) :
    ∃ A n c, ∃ ts : List Nat, v = .slice A n c ∧ RdV w A n (ts.map fun (x : Nat) => Value.int .u64 (x : Int)) ∧ n ≤ 1048576 := by
  rcases open_ints Try.underlying25 Try.underlying22 (by kernel_rfl) h with ⟨hcs, hy⟩ | ⟨x, l, c, zs, hcs, _, hl, hm, hz, hy, hcell, hwz⟩
  · simp at hcs
    subst hcs
    exact ⟨none, 0, 0, [], rfl, RdV.nil _ _, Nat.zero_le _⟩
  · simp at hcs
    subst hcs
    have hz' : zs.length = c := by simpa using hz
    have hr := RdV.of_ints hl hz' hcell
    refine ⟨some x, l, c, (zs.take l).map Int.toNat, rfl, ?_, ?_⟩
    · have e : ((zs.take l).map Int.toNat).map (fun (x : Nat) => Value.int .u64 (x : Int)) = (zs.take l).map (Value.int .u64) := by
        rw [List.map_map]
        apply List.map_congr_left
        intro z hm
        obtain ⟨n, rfl, _⟩ := nat_of_u64 (hwz z (List.mem_of_mem_take hm))
        rfl
      rw [e]
      exact hr
    · rw [hy] at hb
      have h3 := length_le (lits (H := H) .u64 (zs.take l))
      simp only [Rows.uptoBulk] at hb
      simp only [lits, List.length_map, List.length_take, hz'] at h3 hb
      omega
theorem len30 {l : List Value} (h : l.length = 30) : ∃ v0 v1 v2 v3 v4 v5 v6 v7 v8 v9 v10 v11 v12 v13 v14 v15 v16 v17 v18 v19 v20 v21 v22 v23 v24 v25 v26 v27 v28 v29, l = [v0, v1, v2, v3, v4, v5, v6, v7, v8, v9, v10, v11, v12, v13, v14, v15, v16, v17, v18, v19, v20, v21, v22, v23, v24, v25, v26, v27, v28, v29] := by
  have hg : ∀ i, (hi : i < 30) → l[i]? = some (l[i]'(by omega)) := fun i hi => List.getElem?_eq_getElem (by omega)
  refine ⟨l[0], l[1], l[2], l[3], l[4], l[5], l[6], l[7], l[8], l[9], l[10], l[11], l[12], l[13], l[14], l[15], l[16], l[17], l[18], l[19], l[20], l[21], l[22], l[23], l[24], l[25], l[26], l[27], l[28], l[29], ?_⟩
  apply List.ext_getElem?
  intro i
  by_cases hi : i < 30
  · rw [hg i hi]
    match i, hi with
    | 0, _ | 1, _ | 2, _ | 3, _ | 4, _ | 5, _ | 6, _ | 7, _ | 8, _ | 9, _ | 10, _ | 11, _ | 12, _ | 13, _ | 14, _ | 15, _ | 16, _ | 17, _ | 18, _ | 19, _ | 20, _ | 21, _ | 22, _ | 23, _ | 24, _ | 25, _ | 26, _ | 27, _ | 28, _ | 29, _ => rfl
    | (i + 30), hi => omega
  · rw [List.getElem?_eq_none (by omega), List.getElem?_eq_none (by simp; omega)]
theorem part_agg {H : Type} {ys : List (DataW H × List MemPlace)} {y : DataW H × List MemPlace} {j : Nat} (h : ys[j]? = some y) : Rows.uptoBulk y.1 ≤ Rows.uptoBulk (.agg (ys.map (·.1))) := by
  have := part_bulk (d := y.1) (l := ys.map (·.1)) (List.mem_map.2 ⟨y, List.mem_of_getElem? h, rfl⟩)
  simp only [Rows.uptoBulk]
  omega
/-- A struct's fields. -/
theorem fields_of {H : Type} {enc : TypeId × Value → H} {w : World} {base m : Nat} {held : Bool} {e : TypeId} {fs : Array Field} {cs : List Value} {y : DataW H × List MemPlace} (he : Try.prog.underlying e = some (.struct fs)) (h : DataW.trod enc Try.prog w base (fun _ => true) held m e cs = some y) (hb : Rows.uptoBulk y.1 ≤ 1048576) :
    cs.length = Try.prog.cellsOf e ∧ ∃ n, ∀ (j : Nat) (f : Field), fs[j]? = some f → ∃ z, DataW.trod enc Try.prog w base (fun _ => true) held n f.type ((cs.drop f.offset).take (Try.prog.cellsOf f.type)) = some z ∧ Rows.uptoBulk z.1 ≤ 1048576 := by
  obtain ⟨ys, n, _, rfl, hl, hyl, hf⟩ := DataW.trod_struct he h
  refine ⟨hl, n, fun j f hj => ?_⟩
  have h1 := hf j f hj
  have hjl : j < fs.size := (Array.getElem?_eq_some_iff.1 hj).1
  have h2 : ys[j]? = some (ys[j]'(by omega)) := List.getElem?_eq_getElem (by omega)
  exact ⟨_, h1.trans h2, Nat.le_trans (part_agg h2) hb⟩
theorem u64_f {H : Type} {enc : TypeId × Value → H} {w : World} {base m : Nat} {held : Bool} {v : Value} {y : DataW H × List MemPlace} (h : DataW.trod enc Try.prog w base (fun _ => true) held m 22 [v] = some y) : ∃ n : Nat, v = .int .u64 (n : Int) ∧ n < B64 := by
  obtain ⟨z, rfl, hw⟩ := int_field Try.underlying22 h
  obtain ⟨n, rfl, hn⟩ := nat_of_u64 hw
  exact ⟨n, rfl, hn⟩
set_option maxRecDepth 100000 in
theorem txnY {H : Type} {enc : TypeId × Value → H} {w : World} {base m : Nat} {held : Bool} {v0 v1 : Value} {y : DataW H × List MemPlace} (h : DataW.trod enc Try.prog w base (fun _ => true) held m 24 [v0, v1] = some y) (hb : Rows.uptoBulk y.1 ≤ 1048576) : ∃ s q : Nat, v0 = .int .u64 (s : Int) ∧ v1 = .int .u64 (q : Int) ∧ s < B64 ∧ q < B64 := by
  have hc : Try.prog.cellsOf 22 = 1 := by kernel_rfl
  obtain ⟨_, n, hf⟩ := fields_of Try.underlying24 h hb
  obtain ⟨z0, h0, _⟩ := hf 0 _ rfl
  obtain ⟨z1, h1, _⟩ := hf 1 _ rfl
  obtain ⟨s, rfl, hs⟩ := u64_f (v := v0) (by simpa [hc] using h0)
  obtain ⟨q, rfl, hq⟩ := u64_f (v := v1) (by simpa [hc] using h1)
  exact ⟨s, q, rfl, rfl, hs, hq⟩
set_option maxRecDepth 100000 in
theorem noteY {H : Type} {enc : TypeId × Value → H} {w : World} {base m : Nat} {held : Bool} {v0 v1 v2 v3 v4 v5 v6 v7 v8 : Value} {y : DataW H × List MemPlace} (h : DataW.trod enc Try.prog w base (fun _ => true) held m 27 [v0, v1, v2, v3, v4, v5, v6, v7, v8] = some y) (hb : Rows.uptoBulk y.1 ≤ 1048576) :
    ∃ (k f t : Int) (tm ix lt cm : Nat) (T : Option Addr) (tn tc : Nat) (ok : Bool) (ts : List Nat), [v0, v1, v2, v3, v4, v5, v6, v7, v8] = (ntA k f t tm ix lt cm T tn tc ok).toList ∧ RdV w T tn (ts.map fun (x : Nat) => Value.int .u64 (x : Int)) ∧ tn ≤ 1048576 := by
  have hu : Try.prog.cellsOf 22 = 1 := by kernel_rfl
  have hi : Try.prog.cellsOf 3 = 1 := by kernel_rfl
  have hbo : Try.prog.cellsOf 4 = 1 := by kernel_rfl
  have hsl : Try.prog.cellsOf 25 = 1 := by kernel_rfl
  obtain ⟨_, n, hf⟩ := fields_of Try.underlying27 h hb
  obtain ⟨z0, h0, _⟩ := hf 0 _ rfl
  obtain ⟨z1, h1, _⟩ := hf 1 _ rfl
  obtain ⟨z2, h2, _⟩ := hf 2 _ rfl
  obtain ⟨z3, h3, _⟩ := hf 3 _ rfl
  obtain ⟨z4, h4, _⟩ := hf 4 _ rfl
  obtain ⟨z5, h5, _⟩ := hf 5 _ rfl
  obtain ⟨z6, h6, _⟩ := hf 6 _ rfl
  obtain ⟨z7, h7, b7⟩ := hf 7 _ rfl
  obtain ⟨z8, h8, _⟩ := hf 8 _ rfl
  obtain ⟨k, rfl, _⟩ := int_field (v := v0) Try.underlying3 (by simpa [hi] using h0)
  obtain ⟨f, rfl, _⟩ := int_field (v := v1) Try.underlying3 (by simpa [hi] using h1)
  obtain ⟨t, rfl, _⟩ := int_field (v := v2) Try.underlying3 (by simpa [hi] using h2)
  obtain ⟨tm, rfl, _⟩ := u64_f (v := v3) (by simpa [hu] using h3)
  obtain ⟨ix, rfl, _⟩ := u64_f (v := v4) (by simpa [hu] using h4)
  obtain ⟨lt, rfl, _⟩ := u64_f (v := v5) (by simpa [hu] using h5)
  obtain ⟨cm, rfl, _⟩ := u64_f (v := v6) (by simpa [hu] using h6)
  obtain ⟨T, tn, tc, ts, rfl, r7, l7⟩ := terms_of (v := v7) (by simpa [hsl] using h7) b7
  obtain ⟨ok, rfl⟩ := bool_fieldY (v := v8) Try.underlying4 (by simpa [hbo] using h8)
  exact ⟨k, f, t, tm, ix, lt, cm, T, tn, tc, ok, ts, rfl, r7, l7⟩
set_option maxRecDepth 100000 in
theorem recY {H : Type} {enc : TypeId × Value → H} {w : World} {base m : Nat} {held : Bool} {v0 v1 v2 v3 v4 v5 : Value} {y : DataW H × List MemPlace} (h : DataW.trod enc Try.prog w base (fun _ => true) held m 32 [v0, v1, v2, v3, v4, v5] = some y) (hb : Rows.uptoBulk y.1 ≤ 1048576) :
    ∃ (a b : Nat) (cmt : Bool) (ct : Nat) (W : Option Addr) (wn we : Nat) (R : Option Addr) (rn rc : Nat) (rr : List UInt8), [v0, v1, v2, v3, v4, v5] = [.int .u64 (a : Int), .int .u64 (b : Int), .bool cmt, .int .u64 (ct : Int), .slice W wn we, .slice R rn rc] ∧ RSt 3 w W wn ∧ wn ≤ 1048576 ∧ Rd w R rn rr ∧ rn ≤ 1048576 := by
  have hu : Try.prog.cellsOf 22 = 1 := by kernel_rfl
  have ht : Try.prog.cellsOf 24 = 2 := by kernel_rfl
  have hbo : Try.prog.cellsOf 4 = 1 := by kernel_rfl
  have hw : Try.prog.cellsOf 29 = 1 := by kernel_rfl
  have hs : Try.prog.cellsOf 30 = 1 := by kernel_rfl
  obtain ⟨_, n, hf⟩ := fields_of Try.underlying32 h hb
  obtain ⟨z0, h0, b0⟩ := hf 0 _ rfl
  obtain ⟨z1, h1, _⟩ := hf 1 _ rfl
  obtain ⟨z2, h2, _⟩ := hf 2 _ rfl
  obtain ⟨z3, h3, b3⟩ := hf 3 _ rfl
  obtain ⟨z4, h4, b4⟩ := hf 4 _ rfl
  obtain ⟨a, b, rfl, rfl, _, _⟩ := txnY (v0 := v0) (v1 := v1) (by simpa [ht] using h0) b0
  obtain ⟨cmt, rfl⟩ := bool_fieldY (v := v2) Try.underlying4 (by simpa [hbo] using h1)
  obtain ⟨ct, rfl, _⟩ := u64_f (v := v3) (by simpa [hu] using h2)
  obtain ⟨W, wn, we, rfl, r3, l3⟩ := writes_of (v := v4) (by simpa [hw] using h3) b3
  obtain ⟨R, rn, rc, rr, rfl, r4, _, _, u4, _⟩ := bytes_field (v := v5) (by simpa [hs] using h4)
  exact ⟨a, b, cmt, ct, W, wn, we, R, rn, rc, rr, rfl, r3, l3, r4, by have := r4.len; omega⟩
set_option maxRecDepth 100000 in
theorem resY {H : Type} {enc : TypeId × Value → H} {w : World} {base m : Nat} {held : Bool} {v0 v1 v2 v3 v4 v5 v6 v7 v8 v9 : Value} {y : DataW H × List MemPlace} (h : DataW.trod enc Try.prog w base (fun _ => true) held m 34 [v0, v1, v2, v3, v4, v5, v6, v7, v8, v9] = some y) (hb : Rows.uptoBulk y.1 ≤ 1048576) :
    ∃ (re rs : Int) (rt : Nat) (P : Option Addr) (pn pc : Nat) (a b : Nat) (cmt : Bool) (ct : Nat) (W : Option Addr) (wn we : Nat) (R : Option Addr) (rn rc : Nat) (rr : List UInt8), [v0, v1, v2, v3, v4, v5, v6, v7, v8, v9] = [.int .i64 re, .int .i64 rs, .int .u64 (rt : Int), .slice P pn pc, .int .u64 (a : Int), .int .u64 (b : Int), .bool cmt, .int .u64 (ct : Int), .slice W wn we, .slice R rn rc] ∧ RSt 2 w P pn ∧ pn ≤ 1048576 ∧ RSt 3 w W wn ∧ wn ≤ 1048576 ∧ Rd w R rn rr ∧ rn ≤ 1048576 := by
  have hu : Try.prog.cellsOf 22 = 1 := by kernel_rfl
  have hi : Try.prog.cellsOf 3 = 1 := by kernel_rfl
  have hp : Try.prog.cellsOf 28 = 1 := by kernel_rfl
  have hr : Try.prog.cellsOf 32 = 6 := by kernel_rfl
  obtain ⟨_, n, hf⟩ := fields_of Try.underlying34 h hb
  obtain ⟨z0, h0, _⟩ := hf 0 _ rfl
  obtain ⟨z1, h1, _⟩ := hf 1 _ rfl
  obtain ⟨z2, h2, _⟩ := hf 2 _ rfl
  obtain ⟨z3, h3, b3⟩ := hf 3 _ rfl
  obtain ⟨z4, h4, b4⟩ := hf 4 _ rfl
  obtain ⟨re, rfl, _⟩ := int_field (v := v0) Try.underlying3 (by simpa [hi] using h0)
  obtain ⟨rs, rfl, _⟩ := int_field (v := v1) Try.underlying3 (by simpa [hi] using h1)
  obtain ⟨rt, rfl, _⟩ := u64_f (v := v2) (by simpa [hu] using h2)
  obtain ⟨P, pn, pc, rfl, r3, l3⟩ := pairs_of (v := v3) (by simpa [hp] using h3) b3
  obtain ⟨a, b, cmt, ct, W, wn, we, R, rn, rc, rr, e, r4, l4, r5, l5⟩ := recY (v0 := v4) (v1 := v5) (v2 := v6) (v3 := v7) (v4 := v8) (v5 := v9) (by simpa [hr] using h4) b4
  exact ⟨re, rs, rt, P, pn, pc, a, b, cmt, ct, W, wn, we, R, rn, rc, rr, by rw [e], r3, l3, r4, l4, r5, l5⟩
set_option maxRecDepth 100000 in
theorem form_agg {H : Type} {enc : TypeId × Value → H} {w : World} {base m : Nat} {held : Bool} {cs : Array Value} {y : DataW H × List MemPlace} (h : DataW.trod enc Try.prog w base (fun _ => true) held m 36 (Value.cells (.agg cs)).toList = some y) (hb : Rows.uptoBulk y.1 ≤ 1048576) :
    ∃ (i0 i1 i2 i3 i4 i5 i6 i7 : Int) (s q : Nat) (k f t : Int) (tm ix lt cm : Nat) (T : Option Addr) (tn tc : Nat) (ok : Bool) (re rs : Int) (rt : Nat) (P : Option Addr) (pn pc : Nat) (a b : Nat) (cmt : Bool) (ct : Nat) (W : Option Addr) (wn we : Nat) (R : Option Addr) (rn rc : Nat) (D : Option Addr) (dn dc : Nat) (ts : List Nat) (rr ds : List UInt8),
      cs = fmC i0 i1 i2 i3 i4 i5 i6 i7 s q k f t tm ix lt cm T tn tc ok re rs rt P pn pc a b cmt ct W wn we R rn rc D dn dc ∧ RdV w T tn (ts.map fun (x : Nat) => Value.int .u64 (x : Int)) ∧ tn ≤ 1048576 ∧ Rd w R rn rr ∧ rn ≤ 1048576 ∧ RSt 3 w W wn ∧ wn ≤ 1048576 ∧ RSt 2 w P pn ∧ pn ≤ 1048576 ∧ Rd w D dn ds ∧ dn ≤ 1048576 ∧ s < B64 ∧ q < B64 := by
  have hi : Try.prog.cellsOf 3 = 1 := by kernel_rfl
  have ht : Try.prog.cellsOf 24 = 2 := by kernel_rfl
  have hn : Try.prog.cellsOf 27 = 9 := by kernel_rfl
  have hr : Try.prog.cellsOf 34 = 10 := by kernel_rfl
  have hs : Try.prog.cellsOf 30 = 1 := by kernel_rfl
  have hc : Try.prog.cellsOf 36 = 30 := by kernel_rfl
  obtain ⟨hl, n, hf⟩ := fields_of Try.underlying36 h hb
  rw [hc] at hl
  obtain ⟨l⟩ := cs
  have e : (Value.cells (.agg ⟨l⟩)).toList = l := by simp [Value.cells]
  rw [e] at hl hf
  clear h e
  obtain ⟨v0, v1, v2, v3, v4, v5, v6, v7, v8, v9, v10, v11, v12, v13, v14, v15, v16, v17, v18, v19, v20, v21, v22, v23, v24, v25, v26, v27, v28, v29, rfl⟩ := len30 hl
  obtain ⟨z0, h0, _⟩ := hf 0 _ rfl
  obtain ⟨z1, h1, _⟩ := hf 1 _ rfl
  obtain ⟨z2, h2, _⟩ := hf 2 _ rfl
  obtain ⟨z3, h3, _⟩ := hf 3 _ rfl
  obtain ⟨z4, h4, _⟩ := hf 4 _ rfl
  obtain ⟨z5, h5, _⟩ := hf 5 _ rfl
  obtain ⟨z6, h6, _⟩ := hf 6 _ rfl
  obtain ⟨z7, h7, _⟩ := hf 7 _ rfl
  obtain ⟨z8, h8, b8⟩ := hf 8 _ rfl
  obtain ⟨z9, h9, b9⟩ := hf 9 _ rfl
  obtain ⟨z10, h10, b10⟩ := hf 10 _ rfl
  obtain ⟨z11, h11, b11⟩ := hf 11 _ rfl
  obtain ⟨i0, rfl, _⟩ := int_field (v := v0) Try.underlying3 (by simpa [hi] using h0)
  obtain ⟨i1, rfl, _⟩ := int_field (v := v1) Try.underlying3 (by simpa [hi] using h1)
  obtain ⟨i2, rfl, _⟩ := int_field (v := v2) Try.underlying3 (by simpa [hi] using h2)
  obtain ⟨i3, rfl, _⟩ := int_field (v := v3) Try.underlying3 (by simpa [hi] using h3)
  obtain ⟨i4, rfl, _⟩ := int_field (v := v4) Try.underlying3 (by simpa [hi] using h4)
  obtain ⟨i5, rfl, _⟩ := int_field (v := v5) Try.underlying3 (by simpa [hi] using h5)
  obtain ⟨i6, rfl, _⟩ := int_field (v := v6) Try.underlying3 (by simpa [hi] using h6)
  obtain ⟨i7, rfl, _⟩ := int_field (v := v7) Try.underlying3 (by simpa [hi] using h7)
  obtain ⟨s, q, rfl, rfl, hs2, hq2⟩ := txnY (v0 := v8) (v1 := v9) (by simpa [ht] using h8) b8
  obtain ⟨k, f, t, tm, ix, lt, cm, T, tn, tc, ok, ts, e9, r9, l9⟩ := noteY (v0 := v10) (v1 := v11) (v2 := v12) (v3 := v13) (v4 := v14) (v5 := v15) (v6 := v16) (v7 := v17) (v8 := v18) (by simpa [hn] using h9) b9
  obtain ⟨re, rs, rt, P, pn, pc, a, b, cmt, ct, W, wn, we, R, rn, rc, rr, e10, r10, l10, r11, l11, r12, l12⟩ := resY (v0 := v19) (v1 := v20) (v2 := v21) (v3 := v22) (v4 := v23) (v5 := v24) (v6 := v25) (v7 := v26) (v8 := v27) (v9 := v28) (by simpa [hr] using h10) b10
  obtain ⟨D, dn, dc, ds, rfl, r13, _, _, u13, _⟩ := bytes_field (v := v29) (by simpa [hs] using h11)
  simp only [ntA, List.cons.injEq] at e9
  simp only [List.cons.injEq] at e10
  obtain ⟨rfl, rfl, rfl, rfl, rfl, rfl, rfl, rfl, rfl, _⟩ := e9
  obtain ⟨rfl, rfl, rfl, rfl, rfl, rfl, rfl, rfl, rfl, rfl, _⟩ := e10
  exact ⟨i0, i1, i2, i3, i4, i5, i6, i7, s, q, k, f, t, tm, ix, lt, cm, T, tn, tc, ok, re, rs, rt, P, pn, pc, a, b, cmt, ct, W, wn, we, R, rn, rc, D, dn, dc, ts, rr, ds, rfl, r9, l9, r12, l12, r11, l11, r10, l10, r13, by have := r13.len; omega, hs2, hq2⟩
end Go.Proofs.Ytgccbghaibddcaa
namespace Go.Proofs.Ytgccbghaibddcaa
open Go Go.RowKit

/-- A change within 32 bits changes the register, from wherever it begins. -/
theorem regB_burst {b t : List UInt8} {y at' burst : Nat} (hl : t.length = b.length) (ha : at' ≤ 8 * b.length) (h0 : burst ≠ 0) (h32 : burst < 2 ^ 32)
    (hx : leB t = leB b ^^^ burst * 2 ^ at') : regB y t ≠ regB y b := by
  intro h1
  rw [regB_le, regB_le, hl, stps_xor, stps_xor, hx, stps_xor] at h1
  have h2 : stps (8 * b.length) (burst * 2 ^ at') = 0 := by
    have := congrArg (fun z => stps (8 * b.length) (leB b) ^^^ (stps (8 * b.length) y ^^^ z)) h1
    simp only [← Nat.xor_assoc, Nat.xor_self, Nat.zero_xor] at this
    exact this
  rw [show 8 * b.length = at' + (8 * b.length - at') by omega, stps_add, stps_pow] at h2
  exact h0 (stps_inj0 _ h32 h2)
theorem crcB_after {h b t : List UInt8} (hne : regB (regB 4294967295 h) t ≠ regB (regB 4294967295 h) b) : crcB (h ++ t) ≠ crcB (h ++ b) := by
  intro hc
  have ht := regB_lt t (regB_lt h (show 4294967295 < 2 ^ 32 by decide))
  have hb := regB_lt b (regB_lt h (show 4294967295 < 2 ^ 32 by decide))
  unfold crcB at hc
  rw [regB_app, regB_app] at hc
  omega
/-- The bits below k of a burst, laid on. -/
theorem burst_step {burst k a : Nat} (h : burst.testBit k = true) : burst % 2 ^ (k + 1) * 2 ^ a = (burst % 2 ^ k * 2 ^ a) ^^^ 2 ^ (a + k) := by
  rw [mod_pow_bit, if_pos h, Nat.mul_comm, mul_xor_pow, Nat.mul_comm (2 ^ a), ← Nat.pow_add]
theorem burst_same {burst k : Nat} (h : burst.testBit k = false) : burst % 2 ^ (k + 1) = burst % 2 ^ k := by
  rw [mod_pow_bit, if_neg (by rw [h]; decide), Nat.xor_zero]

theorem Own.cells {e : TypeId} {w : World} {base g n c : Nat} {xs : List UInt8} (h : Own e w base (some ⟨g, 0, none⟩) n c xs) : ∃ cur : List Value, w.heap[g]? = some (.cells cur.toArray e (0, 0)) ∧ cur.length = c := by
  rcases h.2 with ⟨h1, _⟩ | ⟨g', cap, cur, h1, h2, h3, h4, h5, h6, h7⟩
  · injection h1 with h1; cases h1
  · injection h1 with h1 _ h8
    injection h1 with h1
    injection h1 with h1
    subst h1 h8
    exact ⟨cur.toList, by simpa using h3, by simpa using h6⟩

theorem bit_off {u k : Nat} (hu : u < 4294967296) (h : u.testBit k = false) : (bits .and .u32 ((u : Int) / 2 ^ k) 1 == 1) = false := by
  have h1 : (u : Int) / 2 ^ k = ((u / 2 ^ k : Nat) : Int) := by
    rw [Int.natCast_ediv, Int.natCast_pow]; rfl
  have h2 : u / 2 ^ k < 4294967296 := Nat.lt_of_le_of_lt (Nat.div_le_self _ _) hu
  rw [h1, and1_u32 h2]
  rw [Nat.testBit_eq_decide_div_mod_eq, decide_eq_false_iff_not] at h
  rw [beq_eq_false_iff_ne]
  omega
theorem bit_on {u k : Nat} (hu : u < 4294967296) (h : u.testBit k = true) : (bits .and .u32 ((u : Int) / 2 ^ k) 1 == 1) = true := by
  have h1 : (u : Int) / 2 ^ k = ((u / 2 ^ k : Nat) : Int) := by
    rw [Int.natCast_ediv, Int.natCast_pow]; rfl
  have h2 : u / 2 ^ k < 4294967296 := Nat.lt_of_le_of_lt (Nat.div_le_self _ _) hu
  rw [h1, and1_u32 h2]
  rw [Nat.testBit_eq_decide_div_mod_eq, decide_eq_true_iff] at h
  rw [beq_iff_eq]
  omega
theorem u8_shl {j : Nat} (h : j < 8) : ∃ m : Nat, m = 2 ^ j ∧ m < 256 := ⟨_, rfl, Nat.lt_of_lt_of_le (Nat.pow_lt_pow_right (by decide) h) (by decide)⟩

/-- A record with another sum doesn't open. -/
theorem openG_bad {n c : Nat} {t : List UInt8} (hl : t.length = n) (hn : n ≤ 1048576) (hc : c < 4294967296) (hne : c ≠ crcB (fourB n ++ t)) : openG (fourB n ++ (fourB c ++ t)) ((0 : Nat) : Int) = ([], 0, 4) := by
  have hlen : (fourB n ++ (fourB c ++ t)).length = 8 + n := by simp only [List.length_append, fourB_len]; omega
  have hm : n = numK ((fourB n ++ (fourB c ++ t)).drop 0) 4 := by rw [List.drop_zero, numK_fourB _ _ (by omega)]
  rw [openG_whole (a := 0) (n := 8 + n) hlen hm (by omega) (by omega), Nat.zero_add, List.take_of_length_le (by omega), List.drop_zero]
  have h2 : (fourB n ++ (fourB c ++ t)).drop 8 = t := by
    rw [← List.append_assoc]
    exact List.drop_left' (by simp [fourB_len])
  rw [h2, if_neg]
  unfold eqB
  rw [beq_iff_eq, sealB, hl]
  intro h
  have h1 := List.append_cancel_right (List.append_cancel_left h)
  have h3 := numK_fourB c [] hc
  rw [← h1, numK_fourB _ _ (crcB_lt _)] at h3
  exact hne h3.symm

end Go.Proofs.Ytgccbghaibddcaa
namespace Go.Proofs.Ytgccbghaibddcaa
open Go Go.RowKit
set_option maxRecDepth 100000 in
set_option maxHeartbeats 4000000 in
/-- A writer's number. -/
theorem wnum_any {w : World} {p base : Nat} {A : Option Addr} {n c : Nat} {xs : List UInt8} (z : Cl w p #[.slice A n c] 139) (hO : Own 5 w base A n c xs) (hbase : base ≤ w.heap.size) (hbp : base ≤ p) (v : Int) (u : Nat) (hu : IntKind.u64.wrap v = (u : Int)) (hub : u < B64) (hl : xs.length ≤ 1073741824) :
    Calls Try.prog 46 #[.pointer (some ⟨p, 0, none⟩), .int .i64 v] w (fun e w' => e = .returned (.tuple #[]) ∧ ∃ A2 n2 c2, Cl w' p #[.slice A2 n2 c2] 139 ∧ Own 5 w' base A2 n2 c2 (xs ++ putU u) ∧ Puts base p w w') := by
  have hnl : n ≤ 1073741824 := by rw [← hO.len]; exact hl
  have hpl := putU_len64 u hub
  have hB1 : Below w.heap.size w w.drew := (Below.refl _ _).drew
  have HPU : Hid (∀ wx, Calls Try.prog 62 #[.int .u64 (u : Int)] wx (Made wx.heap.size wx (putU u))) := Lib.hid (fun wx => PutU_any u wx hub)
  have HW : Hid (∀ wx, Below w.heap.size w wx → wx.cell? ⟨p, 0, none⟩ = some (.slice A n c) ∧ Own 5 wx base A n c xs ∧ base ≤ wx.heap.size) := Lib.hid (fun wx hb => ⟨(z.below hb).cell 0, hO.below hb, Nat.le_trans hbase hb.size⟩)
  have HG : Hid (∀ wx w3 L n2 c2 ys, Below w.heap.size w wx → Own 5 w3 base L n2 c2 ys → wx.grownBy w3 (blk A) → Cl w3 p #[.slice A n c] 139 ∧ Cl (w3.setCell ⟨p, 0, none⟩ (.slice L n2 c2)) p #[.slice L n2 c2] 139 ∧ Own 5 (w3.setCell ⟨p, 0, none⟩ (.slice L n2 c2)) base L n2 c2 ys ∧ Puts base p w (w3.setCell ⟨p, 0, none⟩ (.slice L n2 c2))) := Lib.hid (fun wx w3 L n2 c2 ys hb h3 hg => by
    have e0 := (z.below hb).grown hg (cl_row (z.below hb) (hO.below hb) (by decide))
    have f : Fr w3 (w3.setCell ⟨p, 0, none⟩ (.slice L n2 c2)) [p] := Fr.set _ _ _ _
    have b1 : Below base w w3 := (hb.mono hbase).grown hg (Nat.le_trans hbase hb.size) (fun k hk => (hO.lt k hk).1)
    have b2 : Below base w3 (w3.setCell ⟨p, 0, none⟩ (.slice L n2 c2)) := f.below (fun b hb => by rw [List.mem_singleton] at hb; omega) (Nat.le_trans hbase b1.size)
    refine ⟨e0, by simpa using e0.set 0 (.slice L n2 c2), h3.fr f (fun b hb hm => ?_), b1.trans b2, fun g vs t k3 k4 k5 => ?_⟩
    · rw [List.mem_singleton] at hm
      subst hm
      exact cl_row e0 h3 (by decide) hb
    · exact ((k3.below hb).grown hg (cl_row (k3.below hb) (hO.below hb) k4)).off 0 _ (fun e => k5 e.symm))
  have q0 := (HW.out _ hB1).1
  clear z hO hl
  go_enter Try.func46, Try.ntmps46
  go_region_law (first
    | (go_simp; go_at_call 62; with_reducible refine (HPU.out _).mono ?_; intro e w2 hq; obtain ⟨C, cn, cc, h1, oC, b2⟩ := Made.outS hq; subst h1; have hb2 := belowT' hB1 b2; obtain ⟨p0, hO2, hs2⟩ := HW.out w2 hb2; have hcn := oC.len)
    | (refine step_appW _ rfl _ _ 30 rfl base 5 (.int .u8 0) 1 Try.underlying30 info_u8 rfl A n c (xs.map cv) (by simp [Act.eval]) hO2 C cn cc ((putU u).map cv) (by simp [Act.eval]) oC.rd.vS (by intro u hu; obtain ⟨x, _, rfl⟩ := List.mem_map.1 hu; rfl) (by unfold maxLen; omega) (by omega) hs2 ?_; intro L c5 w3 hO3 hg3; have hO4 : Own 5 w3 base L (n + cn) c5 (xs ++ putU u) := (by unfold Own; rw [List.map_append]; exact hO3); obtain ⟨t0, tA, tB, tP⟩ := HG.out w2 w3 L (n + cn) c5 _ hb2 hO4 hg3; have s0 := t0.cell 0; have s1 := t0.thaw 0))
  all_goals
    go_end0
    exact ⟨rfl, L, n + cn, c5, tA, tB, tP⟩
set_option maxRecDepth 100000 in
set_option maxHeartbeats 4000000 in
theorem encNil_any (w : World) : Calls Try.prog 18 #[.slice none 0 0] w (Made w.heap.size w (putU 0)) := by
  obtain ⟨U, hU⟩ : ∃ U, U = w.alloc (.cells #[.slice none 0 0] 139) := ⟨_, rfl⟩
  obtain ⟨p, hp⟩ : ∃ p, p = w.heap.size := ⟨_, rfl⟩
  have bU : Below w.heap.size w U := by rw [hU]; exact (Below.refl _ _).alloc (Nat.le_refl _) _
  have zU : Cl U p #[.slice none 0 0] 139 := by rw [hU, hp]; exact Cl.new _ _ _
  have HN : Hid (∀ f, Calls Try.prog 43 #[.pointer (some ⟨p, 0, none⟩), .slice none 0 0, f] U (fun e w' => e = .returned (.tuple #[]) ∧ ∃ A2 n2 c2, Cl w' p #[.slice A2 n2 c2] 139 ∧ Own 5 w' p A2 n2 c2 (putU 0) ∧ Puts p p U w')) := Lib.hid (fun f => by
    have HW := Lib.hid (wnum_any (base := p) (xs := []) zU (Own.nil _ _ _) (by have := zU.lt; omega) (Nat.le_refl p) 0 0 (by decide) (by unfold B64; omega) (Nat.zero_le _))
    clear hU hp bU zU
    go_enter Try.func43, Try.ntmps43
    go_wp2_with fail
    with_reducible refine HW.out.mono ?_
    rintro e w2 ⟨rfl, h2⟩
    have H2 := Lib.hid h2
    clear h2 HW
    go_wp2_with fail
    go_loopw [14] (fun s14 wr => s14 = .int .i64 0 ∧ wr = w2) (fun _ _ => 0)
    case atStart => exact ⟨rfl, rfl⟩
    case round =>
      obtain ⟨rfl, rfl⟩ := hrel
      go_wp2_with fail
      go_end0
      exact ⟨rfl, by simpa using H2.out⟩)
  have HU := Lib.hid hU
  have HP := Lib.hid hp
  have BU := Lib.hid bU
  clear hU hp bU zU
  go_enter Try.func18, Try.ntmps18
  go_wp2_with fail
  rw [← HU.out, ← HP.out]
  with_reducible refine (HN.out _).mono ?_
  rintro e w2 ⟨rfl, A, n, c, z2, o2, p2⟩
  have k0 : w2.cell? ⟨p, 0, none⟩ = some (.slice A n c) := z2.cell 0
  have HF : Hid (Made w.heap.size w (putU 0) (.returned (.slice A n c)) w2) := Lib.hid (by
    have h1 := HP.out
    have h2 := p2.bel
    rw [h1] at h2 o2
    exact ⟨A, n, c, rfl, o2, BU.out.trans h2⟩)
  clear z2 o2 p2 HN
  go_wp2_with fail
  go_ret
  exact HF.out
end Go.Proofs.Ytgccbghaibddcaa
namespace Go.Proofs.Ytgccbghaibddcaa
open Go Go.RowKit
def encUs (us : List Nat) : List UInt8 := us.flatMap putU
theorem encUs_len : ∀ (us : List Nat), (∀ u ∈ us, u < B64) → (encUs us).length ≤ 10 * us.length
  | [], _ => by simp [encUs]
  | u :: us, h => by
    have h1 := encUs_len us (fun m hm => h m (by simp [hm]))
    have h2 := putU_len64 u (h u (by simp))
    simp only [encUs, List.flatMap_cons, List.length_append, List.length_cons] at h1 ⊢
    omega
theorem encUs_snoc (us : List Nat) (u : Nat) : encUs (us ++ [u]) = encUs us ++ putU u := by simp [encUs]
/-- Cells that hold ints, and what they are as numbers without a sign. -/
def NumsAt (pvs : Array Value) (is us : List Nat) : Prop := is.length = us.length ∧ ∀ k i u : Nat, is[k]? = some i → us[k]? = some u → u < B64 ∧ ∃ v : Int, pvs[i]? = some (.int .i64 v) ∧ IntKind.u64.wrap v = (u : Int)
theorem StP.stepN {g pb : Nat} {base o o1 c3 : Nat} {pvs : Array Value} {w0 wx wy : World} {ys zs : List UInt8} {e : Ending} (h : StP base o o1 c3 g pb pvs w0 ys wx) (hg : g ≠ o) (hp : pb ≠ o) (hr : RetPu wx base o o1 c3 zs e wy) : e = .returned (.tuple #[]) ∧ StP base o o1 c3 g pb pvs w0 zs wy := by
  obtain ⟨h1, h2, h3, h4, h5⟩ := h
  obtain ⟨r1, r2, r3⟩ := hr
  exact ⟨r1, r2, h2.trans r3, r3.cl h3 (by decide) hg, r3.cl h4 (by decide) hp, Nat.le_trans h5 r3.bel.size⟩
section
variable {w : World} {base o o1 c3 : Nat} {xs : List UInt8}
set_option maxRecDepth 100000 in
set_option maxHeartbeats 8000000 in
theorem numsP_any (h : HandP w base o o1 c3 xs) (hbase : base ≤ w.heap.size) (hbo : base ≤ o) (pb : Nat) (pvs : Array Value) (hpc : Cl w pb pvs 47) (hpo : pb ≠ o) (is us : List Nat) (hn : NumsAt pvs is us) (hus : us.length ≤ 100) (L : Nat) (lc : Nat) (hL : Cl w L (is.map fun i => Value.pointer (some ⟨pb, i, none⟩)).toArray 158) (hLo : L ≠ o) (hl : xs.length ≤ 100000000) :
    Calls Try.prog 56 #[.agg (handPA c3 o1), .slice (some ⟨L, 0, none⟩) us.length lc] w (RetPu w base o o1 c3 (xs ++ encUs us)) := by
  obtain ⟨n, hnn⟩ : ∃ n, n = us.length := ⟨_, rfl⟩
  rw [← hnn]
  obtain ⟨W, hW⟩ : ∃ W, W = w.alloc (.cells (handPA c3 o1) 108) := ⟨_, rfl⟩
  obtain ⟨g, hg⟩ : ∃ g, g = w.heap.size := ⟨_, rfl⟩
  have bW : Below w.heap.size w W := by rw [hW]; exact (Below.refl _ _).alloc (Nat.le_refl _) _
  have zW : Cl W g (handPA c3 o1) 108 := by rw [hW, hg]; exact Cl.new _ _ _
  have hgo : g ≠ o := by obtain ⟨A, n, c, z0, _⟩ := h; have := z0.lt; omega
  have S0 : Hid (StP base o o1 c3 g pb pvs w xs W) := Lib.hid ⟨h.below bW, Puts.of_below bW hbase, zW, hpc.below bW, Nat.le_trans hbase bW.size⟩
  have HL : Hid (∀ wx, Puts base o w wx → Cl wx L (is.map fun i => Value.pointer (some ⟨pb, i, none⟩)).toArray 158) := Lib.hid (fun wx hp => hp.cl hL (by decide) hLo)
  have HNN := Lib.hid hnn
  have HN := Lib.hid hn
  have HUB : Hid (∀ k, (encUs (us.take k)).length ≤ 1000) := Lib.hid (fun k => by
    have h1 := encUs_len (us.take k) (fun u hu => by
      obtain ⟨j, hj⟩ := List.getElem?_of_mem (List.mem_of_mem_take hu)
      obtain ⟨i, hi⟩ : ∃ i, is[j]? = some i := ⟨_, List.getElem?_eq_getElem (by rw [hn.1]; exact (List.getElem?_eq_some_iff.1 hj).1)⟩
      exact (hn.2 j i u hi hj).1)
    have h2 : (us.take k).length ≤ 100 := by rw [List.length_take]; omega
    omega)
  have HW := Lib.hid hW
  have HG := Lib.hid hg
  have hn100 : n ≤ 100 := by omega
  clear h hpc hn hL hW hg bW zW hnn hus
  unfold handPA at HW
  unfold handPA
  go_enter Try.func56, Try.ntmps56
  go_upto_region 1 with (fail)
  rw [← HW.out, ← HG.out]
  go_wp2_with fail
  go_loopw [8] (fun s8 wr => ∃ k : Nat, k ≤ n ∧ s8 = .int .i64 (k : Int) ∧ StP base o o1 c3 g pb pvs w (xs ++ encUs (us.take k)) wr) (fun s _ => n - (intOf s).toNat)
  case atStart => exact ⟨0, Nat.zero_le _, rfl, by simpa [encUs] using S0.out⟩
  case round =>
    obtain ⟨k, hk, rfl, hS⟩ := hrel
    have HS := Lib.hid hS
    by_cases hlt : k < n
    · obtain ⟨u, hu⟩ : ∃ u, us[k]? = some u := ⟨_, List.getElem?_eq_getElem (by rw [← HNN.out]; exact hlt)⟩
      obtain ⟨i, hi⟩ : ∃ i, is[k]? = some i := ⟨_, List.getElem?_eq_getElem (by rw [HN.out.1, ← HNN.out]; exact hlt)⟩
      obtain ⟨hub, v, hv, hw⟩ := HN.out.2 k i u hi hu
      have kL : wr.cell? ⟨L, k, none⟩ = some (.pointer (some ⟨pb, i, none⟩)) := by
        rw [(HL.out wr hS.2.1).cell k]
        simp [hi]
      have k0 : wr.cell? ⟨g, 0, none⟩ = some (.func (.func 63) #[] #[.pointer (some ⟨c3, 0, none⟩)]) := hS.2.2.1.cell 0
      have HC := Lib.hid (put2_any hS.1 hS.2.2.2.2 hbo pb i v u ((hS.2.2.2.1.cell i).trans hv) hw hub (by rw [List.length_append]; have := HUB.out k; omega))
      have HE : Hid (xs ++ encUs (us.take k) ++ putU u = xs ++ encUs (us.take (k + 1))) := Lib.hid (by rw [List.take_add_one, hu]; simp [encUs_snoc])
      clear hS hu hi hv hw hub
      go_wp2_with fail
      with_reducible refine HC.out.mono ?_
      intro e w2 hq2
      obtain ⟨e1, e2⟩ := HS.out.stepN hgo hpo hq2
      subst e1
      rw [HE.out] at e2
      have HS2 := Lib.hid e2
      clear e2 hq2 HC kL k0 HE
      go_wp2_with fail
      go_roundw
      case rel => exact ⟨k + 1, by omega, by go_num, HS2.out⟩
      case measure => simp [intOf]; omega
    · obtain rfl : k = n := by omega
      have HF : Hid (RetPu w base o o1 c3 (xs ++ encUs us) (.returned (.tuple #[])) wr) := Lib.hid ⟨rfl, by
        have h1 := hS.1
        rw [List.take_of_length_le (by rw [← HNN.out]; exact Nat.le_refl _)] at h1
        exact h1, hS.2.1⟩
      clear hS
      go_wp2_with fail
      go_end0
      exact HF.out
/-- An Ask's fields, in the packet's cells. -/
structure AskC (pvs : Array Value) (us : List Nat) (s q : Nat) (D : Option Addr) (dn dc : Nat) : Prop where
  size : pvs.size = 29
  kind : pvs[0]? = some (.int .i64 2)
  nums : NumsAt pvs [1, 2, 3, 4] us
  txs : pvs[7]? = some (.int .u64 (s : Int))
  txq : pvs[8]? = some (.int .u64 (q : Int))
  data : pvs[28]? = some (.slice D dn dc)
  sb : s < B64
  qb : q < B64
def inA (us : List Nat) (s q : Nat) (ds : List UInt8) : List UInt8 := [] ++ putU 2 ++ encUs us ++ putU s ++ putU q ++ putU ds.length ++ ds
set_option maxRecDepth 100000 in
set_option maxHeartbeats 8000000 in
theorem partsA_any (h : HandP w base o o1 c3 []) (hbase : base ≤ w.heap.size) (hbo : base ≤ o) (pb : Nat) (pvs : Array Value) (us : List Nat) (s q : Nat) (D : Option Addr) (dn dc : Nat) (ds : List UInt8) (hA : AskC pvs us s q D dn dc) (hpc : Cl w pb pvs 47) (hpo : pb ≠ o)
    (hrB : ∀ w', Below base w w' → Rd w' D dn ds) (hdn : dn ≤ 1048576) :
    Calls Try.prog 33 #[.pointer (some ⟨pb, 0, none⟩), .agg (handPA c3 o1)] w (RetPu w base o o1 c3 ([] ++ putU 2 ++ encUs us ++ putU s ++ putU q ++ putU dn ++ ds)) := by
  obtain ⟨W, hW⟩ : ∃ W, W = w.alloc (.cells (handPA c3 o1) 108) := ⟨_, rfl⟩
  obtain ⟨g, hg⟩ : ∃ g, g = w.heap.size := ⟨_, rfl⟩
  have bW : Below w.heap.size w W := by rw [hW]; exact (Below.refl _ _).alloc (Nat.le_refl _) _
  have zW : Cl W g (handPA c3 o1) 108 := by rw [hW, hg]; exact Cl.new _ _ _
  have hgo : g ≠ o := by obtain ⟨A, n, c, z0, _⟩ := h; have := z0.lt; omega
  have hol : o < w.heap.size := by obtain ⟨A, n, c, z0, _⟩ := h; exact z0.lt
  have HA := Lib.hid hA
  have hul : us.length = 4 := hA.nums.1.symm
  have p1 := putU_len64 2 (by unfold B64; omega)
  have p3 := putU_len64 s hA.sb
  have p4 := putU_len64 q hA.qb
  have p2 : (encUs us).length ≤ 40 := by
    have h1 := encUs_len us (fun u hu => by
      obtain ⟨j, hj⟩ := List.getElem?_of_mem hu
      obtain ⟨i, hi⟩ : ∃ i, [1, 2, 3, 4][j]? = some i := ⟨_, List.getElem?_eq_getElem (by rw [hA.nums.1]; exact (List.getElem?_eq_some_iff.1 hj).1)⟩
      exact (hA.nums.2 j i u hi hj).1)
    omega
  have S0 : Hid (StP base o o1 c3 g pb pvs w [] W) := Lib.hid ⟨h.below bW, Puts.of_below bW hbase, zW, hpc.below bW, Nat.le_trans hbase bW.size⟩
  have HRB := Lib.hid hrB
  have HW := Lib.hid hW
  have HG := Lib.hid hg
  have HOL := Lib.hid hol
  have k1 : W.drew.cell? ⟨g, 0, none⟩ = some (.func (.func 63) #[] #[.pointer (some ⟨c3, 0, none⟩)]) := S0.out.cells.1 0
  clear h hpc hW hg bW zW hrB hA hol
  unfold handPA at HW
  unfold handPA
  go_enter Try.func33, Try.ntmps33
  go_upto_region 1 with (fail)
  rw [← HW.out, ← HG.out]
  have HC : Hid (Calls Try.prog 63 #[.pointer (some ⟨pb, 0, none⟩), .pointer (some ⟨c3, 0, none⟩)] W.drew (RetPu W.drew base o o1 c3 ([] ++ putU 2))) := Lib.hid (put2_any (S0.out.1.below (Below.refl _ _).drew) S0.out.2.2.2.2 hbo pb 0 2 2 ((S0.out.cells.2.1 0).trans HA.out.kind) (by decide) (by unfold B64; omega) (by simp))
  go_cut [9] from 4 to 9 (fun s9 wx => StP base o o1 c3 g pb pvs w ([] ++ putU 2) wx)
  case first =>
    go_region_law (first | (go_simp; go_at_call 63; with_reducible refine HC.out.mono ?_; intro e w2 hq2; obtain ⟨e1, e2⟩ := S0.out.step hgo hpo hq2; subst e1))
    all_goals
      go_wp2_with fail
      go_meet
      exact e2
  have S1 := Lib.hid hcut
  have j0 : wc.cell? ⟨pb, 0, none⟩ = some (.int .i64 2) := (S1.out.cells.2.2.2 0).trans HA.out.kind
  clear hcut HC k1
  go_upto_region 7 with (fail)
  have y0 : wc.drew.cell? ⟨g, 0, none⟩ = some (.func (.func 63) #[] #[.pointer (some ⟨c3, 0, none⟩)]) := S1.out.cells.1 0
  have y1 : wc.drew.cell? ⟨g, 1, none⟩ = some (.func (.func 64) #[] #[.pointer (some ⟨c3, 0, none⟩)]) := S1.out.cells.1 1
  have y2 : wc.drew.cell? ⟨g, 2, none⟩ = some (.func (.func 65) #[] #[.pointer (some ⟨c3, 0, none⟩)]) := S1.out.cells.1 2
  have y3 : wc.drew.cell? ⟨g, 3, none⟩ = some (.func (.func 66) #[] #[.pointer (some ⟨c3, 0, none⟩), .pointer (some ⟨o1, 0, none⟩)]) := S1.out.cells.1 3
  have y4 : wc.drew.cell? ⟨g, 4, none⟩ = some (.func (.func 67) #[] #[.pointer (some ⟨o1, 0, none⟩)]) := S1.out.cells.1 4
  obtain ⟨V, hV⟩ : ∃ V, V = (wc.alloc (.cells #[.pointer (some ⟨pb, 1, none⟩), .pointer (some ⟨pb, 2, none⟩), .pointer (some ⟨pb, 3, none⟩), .pointer (some ⟨pb, 4, none⟩)] 158)).drew := ⟨_, rfl⟩
  have bV : Below wc.heap.size wc V := by rw [hV]; exact ((Below.refl _ _).alloc (Nat.le_refl _) _).drew
  have HT : Hid (Calls Try.prog 56 #[.agg (handPA c3 o1), .slice (some ⟨wc.heap.size, 0, none⟩) 4 4] V (RetPu V base o o1 c3 ([] ++ putU 2 ++ encUs us))) := Lib.hid (by
    have h1 := S1.out.2.1.bel.size
    have hLc : Cl V wc.heap.size ([1, 2, 3, 4].map fun i => Value.pointer (some ⟨pb, i, none⟩)).toArray 158 := by rw [hV]; exact (Cl.new wc _ _).drewN 1
    have := numsP_any (S1.out.1.below bV) (Nat.le_trans S1.out.2.2.2.2 bV.size) hbo pb pvs (S1.out.2.2.2.1.below bV) hpo [1, 2, 3, 4] us HA.out.nums (by omega) wc.heap.size 4 hLc (by have := HOL.out; omega) (by simp only [List.length_append, List.length_nil]; omega)
    rw [hul] at this
    exact this)
  have HST : Hid (∀ e w2, RetPu V base o o1 c3 ([] ++ putU 2 ++ encUs us) e w2 → e = .returned (.tuple #[]) ∧ StP base o o1 c3 g pb pvs w ([] ++ putU 2 ++ encUs us) w2) := Lib.hid (fun e w2 hr => StP.stepN (⟨S1.out.1.below bV, S1.out.2.1.trans (Puts.of_below bV S1.out.2.2.2.2), S1.out.2.2.1.below bV, S1.out.2.2.2.1.below bV, Nat.le_trans S1.out.2.2.2.2 bV.size⟩ : StP base o o1 c3 g pb pvs w ([] ++ putU 2) V) hgo hpo hr)
  have zz := S1.out.2.2.1.below bV
  have v0 : V.cell? ⟨g, 0, none⟩ = some (.func (.func 63) #[] #[.pointer (some ⟨c3, 0, none⟩)]) := zz.cell 0
  have v1 : V.cell? ⟨g, 1, none⟩ = some (.func (.func 64) #[] #[.pointer (some ⟨c3, 0, none⟩)]) := zz.cell 1
  have v2 : V.cell? ⟨g, 2, none⟩ = some (.func (.func 65) #[] #[.pointer (some ⟨c3, 0, none⟩)]) := zz.cell 2
  have v3 : V.cell? ⟨g, 3, none⟩ = some (.func (.func 66) #[] #[.pointer (some ⟨c3, 0, none⟩), .pointer (some ⟨o1, 0, none⟩)]) := zz.cell 3
  have v4 : V.cell? ⟨g, 4, none⟩ = some (.func (.func 67) #[] #[.pointer (some ⟨o1, 0, none⟩)]) := zz.cell 4
  rw [hV] at v0 v1 v2 v3 v4
  have HVE := Lib.hid hV
  unfold handPA at HT
  clear zz bV hV
  obtain ⟨w3, hw3⟩ : ∃ w3, w3 = wc := ⟨_, rfl⟩
  rw [← hw3] at S1 HT y0 y1 y2 y3 y4 v0 v1 v2 v3 v4 HVE j0 ⊢
  clear hw3
  go_cut [49] from 35 to 49 (fun s49 wx => StP base o o1 c3 g pb pvs w ([] ++ putU 2 ++ encUs us) wx)
  case first =>
    go_region_law (first | (go_simp; go_at_call 56; rw [← HVE.out]; with_reducible refine HT.out.mono ?_; intro e w2 hq2; obtain ⟨e1, e2⟩ := HST.out _ _ hq2; subst e1))
    all_goals
      go_wp2_with fail
      go_meet
      exact e2
  have S2 := Lib.hid hcut
  clear hcut HT HST y0 y1 y2 y3 y4 v0 v1 v2 v3 v4 HVE S1 j0
  have HF : Hid (∀ e w2, RetPu wc.drew base o o1 c3 ([] ++ putU 2 ++ encUs us ++ putU s ++ putU q) e w2 → e = .returned (.tuple #[]) ∧ StP base o o1 c3 g pb pvs w ([] ++ putU 2 ++ encUs us ++ putU s ++ putU q) w2) := Lib.hid (fun e w2 hr => S2.out.step hgo hpo hr)
  have y0 : wc.drew.cell? ⟨g, 0, none⟩ = some (.func (.func 63) #[] #[.pointer (some ⟨c3, 0, none⟩)]) := S2.out.cells.1 0
  have y1 : wc.drew.cell? ⟨g, 1, none⟩ = some (.func (.func 64) #[] #[.pointer (some ⟨c3, 0, none⟩)]) := S2.out.cells.1 1
  have y2 : wc.drew.cell? ⟨g, 2, none⟩ = some (.func (.func 65) #[] #[.pointer (some ⟨c3, 0, none⟩)]) := S2.out.cells.1 2
  have y3 : wc.drew.cell? ⟨g, 3, none⟩ = some (.func (.func 66) #[] #[.pointer (some ⟨c3, 0, none⟩), .pointer (some ⟨o1, 0, none⟩)]) := S2.out.cells.1 3
  have y4 : wc.drew.cell? ⟨g, 4, none⟩ = some (.func (.func 67) #[] #[.pointer (some ⟨o1, 0, none⟩)]) := S2.out.cells.1 4
  have HT : Hid (Calls Try.prog 58 #[.agg (handPA c3 o1), .pointer (some ⟨pb, 7, none⟩)] wc.drew (RetPu wc.drew base o o1 c3 ([] ++ putU 2 ++ encUs us ++ putU s ++ putU q))) := Lib.hid (txnP_any (S2.out.1.below (Below.refl _ _).drew) S2.out.2.2.2.2 hbo pb 7 pvs 47 S2.out.2.2.2.1 (by decide) hpo s q HA.out.txs HA.out.txq HA.out.sb HA.out.qb (by simp only [List.length_append, List.length_nil]; omega))
  unfold handPA at HT
  obtain ⟨w3, hw3⟩ : ∃ w3, w3 = wc := ⟨_, rfl⟩
  rw [← hw3] at S2 HT HF y0 y1 y2 y3 y4 ⊢
  clear hw3
  go_upto_region 8 with (fail)
  go_cut [54] from 50 to 54 (fun s54 wx => StP base o o1 c3 g pb pvs w ([] ++ putU 2 ++ encUs us ++ putU s ++ putU q) wx)
  case first =>
    go_region_law (first | (go_simp; go_at_call 58; with_reducible refine HT.out.mono ?_; intro e w2 hq2; obtain ⟨e1, e2⟩ := HF.out _ _ hq2; subst e1))
    all_goals
      go_wp2_with fail
      go_meet
      exact e2
  have S3 := Lib.hid hcut
  clear hcut HT HF y0 y1 y2 y3 y4 S2
  have k3 : wc.drew.cell? ⟨g, 3, none⟩ = some (.func (.func 66) #[] #[.pointer (some ⟨c3, 0, none⟩), .pointer (some ⟨o1, 0, none⟩)]) := S3.out.cells.1 3
  have HB : Hid (Below base w wc.drew) := Lib.hid (S3.out.2.1.bel.trans ((Below.refl wc.heap.size wc).drew.mono S3.out.2.2.2.2))
  have HC : Hid (Calls Try.prog 66 #[.pointer (some ⟨pb, 28, none⟩), .pointer (some ⟨c3, 0, none⟩), .pointer (some ⟨o1, 0, none⟩)] wc.drew (RetPu wc.drew base o o1 c3 ([] ++ putU 2 ++ encUs us ++ putU s ++ putU q ++ putU dn ++ ds))) := Lib.hid (put5_any (S3.out.1.below (Below.refl _ _).drew) S3.out.2.2.2.2 hbo pb 28 pvs 47 S3.out.2.2.2.1 (by decide) hpo D dn dc ds HA.out.data (fun w' hb => HRB.out w' (HB.out.trans hb)) (by omega) (by simp only [List.length_append, List.length_nil]; omega))
  have HF : Hid (∀ e w2, RetPu wc.drew base o o1 c3 ([] ++ putU 2 ++ encUs us ++ putU s ++ putU q ++ putU dn ++ ds) e w2 → e = .returned (.tuple #[]) ∧ RetPu w base o o1 c3 ([] ++ putU 2 ++ encUs us ++ putU s ++ putU q ++ putU dn ++ ds) (.returned (.tuple #[])) w2) := Lib.hid (fun e w2 hr => by
    obtain ⟨e1, e2⟩ := S3.out.step hgo hpo hr
    exact ⟨e1, rfl, e2.1, e2.2.1⟩)
  obtain ⟨w4, hw4⟩ : ∃ w4, w4 = wc := ⟨_, rfl⟩
  rw [← hw4] at S3 HC HF k3 HB ⊢
  clear hw4
  obtain ⟨zs, hzs⟩ : ∃ zs, zs = [] ++ putU 2 ++ encUs us ++ putU s ++ putU q ++ putU dn ++ ds := ⟨_, rfl⟩
  have HZS := Lib.hid hzs
  rw [← hzs] at HC HF
  clear hzs
  go_upto_region 9 with (fail)
  go_region_law (first | (go_simp; go_at_call 66; with_reducible refine HC.out.mono ?_; intro e w2 hq2; obtain ⟨e1, e2⟩ := HF.out _ _ hq2; subst e1))
  all_goals
    go_wp2_with fail
    go_end0
    have e3 := e2
    rw [HZS.out] at e3
    simpa using e3
end
end Go.Proofs.Ytgccbghaibddcaa
namespace Go.Proofs.Ytgccbghaibddcaa
open Go Go.RowKit
theorem inA_len {pvs : Array Value} {us : List Nat} {s q : Nat} {D : Option Addr} {dn dc : Nat} (hA : AskC pvs us s q D dn dc) (ds : List UInt8) (h4 : ds.length ≤ 1048576) : (inA us s q ds).length ≤ 80 + ds.length := by
  have p1 := putU_len64 2 (by unfold B64; omega)
  have p3 := putU_len64 s hA.sb
  have p4 := putU_len64 q hA.qb
  have p5 := putU_len64 ds.length (by unfold B64; omega)
  have hul : us.length = 4 := hA.nums.1.symm
  have p2 : (encUs us).length ≤ 40 := by
    have h1 := encUs_len us (fun u hu => by
      obtain ⟨j, hj⟩ := List.getElem?_of_mem hu
      obtain ⟨i, hi⟩ : ∃ i, [1, 2, 3, 4][j]? = some i := ⟨_, List.getElem?_eq_getElem (by rw [hA.nums.1]; exact (List.getElem?_eq_some_iff.1 hj).1)⟩
      exact (hA.nums.2 j i u hi hj).1)
    omega
  unfold inA
  simp only [List.length_append, List.length_nil]
  omega
set_option maxRecDepth 100000 in
set_option maxHeartbeats 8000000 in
theorem bytesA_any {w : World} (pvs : Array Value) (us : List Nat) (s q : Nat) (D : Option Addr) (dn dc : Nat) (ds : List UInt8) (hA : AskC pvs us s q D dn dc) (hr : Rd w D dn ds) (hdn : dn ≤ 1048576) :
    Calls Try.prog 9 #[.agg pvs] w (RetSE w.heap.size w (sealG (inA us s q ds))) := by
  obtain ⟨U, hU⟩ : ∃ U, U = (w.alloc (.cells pvs 47)).alloc (.cells #[.slice none 0 0] 30) := ⟨_, rfl⟩
  obtain ⟨b, hb⟩ : ∃ b, b = w.heap.size := ⟨_, rfl⟩
  have bU : Below b w U := by rw [hU, hb]; exact ((Below.refl _ _).alloc (Nat.le_refl _) _).alloc (by simp) _
  have zP : Cl U b pvs 47 := by rw [hU, hb]; exact (Cl.new _ _ _).alloc _
  have zO : Cl U (b + 1) #[.slice none 0 0] 30 := by rw [hU, hb]; exact Cl.newg _ _ _ _ (by simp)
  have sU : U.heap.size = b + 2 := by rw [hU, hb]; simp
  have HPU : Hid (Calls Try.prog 34 #[.pointer (some ⟨b + 1, 0, none⟩)] U (fun e w' => ∃ o1 c3, e = .returned (.agg (handPA c3 o1)) ∧ HandP w' b (b + 1) o1 c3 [] ∧ Below U.heap.size U w' ∧ U.heap.size ≤ o1 ∧ U.heap.size ≤ c3)) := Lib.hid (putting_any zO (Own.nil _ _ _))
  have HK : Hid (∀ wx, Calls Try.prog 32 #[.int .i64 2] wx (fun e w' => e = .returned (.bool true) ∧ w' = wx)) := Lib.hid (fun wx => isKind_any 2 wx)
  have HR : Hid (∀ wx, Below b w wx → Rd wx D dn ds) := Lib.hid (fun wx hx => by rw [hb] at hx; exact hr.below hx)
  have HL := Lib.hid hr.len
  have HU := Lib.hid hU
  have HB := Lib.hid hb
  have HBU := Lib.hid bU
  have ZP := Lib.hid zP
  have SU := Lib.hid sU
  have hdn2 : dn ≤ 1073741824 := by omega
  clear hr hU hb bU zP zO sU
  have HA := Lib.hid hA
  have hk0 : pvs[0]? = some (.int .i64 2) := hA.kind
  clear hA
  go_enter Try.func9, Try.ntmps9
  go_wp2_with fail
  with_reducible refine (HK.out _).mono ?_
  rintro e w2 ⟨rfl, rfl⟩
  go_wp2_with fail
  rw [← HU.out, ← HB.out]
  with_reducible refine HPU.out.mono ?_
  rintro e w3 ⟨o1, c3, rfl, hH, b3, ho1, hc3⟩
  have hbw3 : b ≤ w3.heap.size := by have := b3.size; have := SU.out; omega
  have HBW := Lib.hid ((HBU.out).trans (b3.mono (by have := SU.out; omega)))
  have HPT : Hid (Calls Try.prog 33 #[.pointer (some ⟨b, 0, none⟩), .agg (handPA c3 o1)] w3 (RetPu w3 b (b + 1) o1 c3 (inA us s q ds))) := Lib.hid (by
    have := partsA_any hH hbw3 (by omega) b pvs us s q D dn dc ds HA.out (ZP.out.below b3) (by omega) (fun w' hw => HR.out w' (HBW.out.trans hw)) hdn
    unfold inA
    rw [HL.out]
    exact this)
  clear hH b3 ho1 hc3 HPU
  go_wp2_with fail
  with_reducible refine HPT.out.mono ?_
  intro e w4 hq4
  obtain ⟨e1, hH, hPt⟩ := hq4.out
  subst e1
  obtain ⟨A, n, c, z0, _, _, hO⟩ := hH
  have hlen := hO.len
  have hil := inA_len HA.out ds (by rw [HL.out]; exact hdn)
  have hll := HL.out
  obtain ⟨X, hX⟩ : ∃ X, X = w4.alloc (.cells #[.slice A n c] 30) := ⟨_, rfl⟩
  have bX : Below w4.heap.size w4 X := by rw [hX]; exact (Below.refl _ _).alloc (Nat.le_refl _) _
  have hOX := hO.below bX
  have hRX : RdL X (some ⟨w4.heap.size, 0, none⟩) 1 [inA us s q ds] := by
    have zX : Cl X w4.heap.size #[.slice A n c] 30 := by rw [hX]; exact Cl.new _ _ _
    refine ⟨rfl, fun _ => ⟨w4.heap.size, 0, rfl, zX.lt, fun i x hx => ?_⟩⟩
    match i, hx with
    | 0, hx =>
      injection hx with hx
      subst hx
      exact ⟨_, zX.cell 0, A, n, c, rfl, hOX.rd, hOX.cap.1, fun h => (hOX.nil_of (by rw [h]; rfl)).2.2⟩
    | i + 1, hx => simp at hx
  have HSL : Hid (Calls Try.prog 35 #[.slice (some ⟨w4.heap.size, 0, none⟩) 1 1] X (RetSE X.heap.size X (sealG (inA us s q ds)))) := Lib.hid (by
    have := Seal_any (some ⟨w4.heap.size, 0, none⟩) 1 1 [inA us s q ds] X hRX (by simp only [tot]; omega)
    simpa using this)
  have c0 : w4.cell? ⟨b + 1, 0, none⟩ = some (.slice A n c) := z0.cell 0
  have HBX : Hid (Below b w X ∧ b ≤ X.heap.size) := Lib.hid (by
    have h1 := hPt.bel
    have h2 := h1.size
    have h3 := bX.size
    exact ⟨(HBW.out.trans h1).trans (bX.mono (by omega)), by omega⟩)
  have HXE := Lib.hid hX
  clear z0 hO hPt hlen hil hll hX bX hOX hRX hbw3 HPT
  go_wp2_with fail
  rw [← HXE.out]
  with_reducible refine HSL.out.mono ?_
  intro e w5 hq5
  obtain ⟨E, en, ec, h1, oE, b5⟩ := hq5
  subst h1
  have HF : Hid (RetSE w.heap.size w (sealG (inA us s q ds)) (.returned (.tuple #[.slice E en ec, .int .i64 (sealG (inA us s q ds)).2])) w5) := Lib.hid (by
    rw [← HB.out]
    exact ⟨E, en, ec, rfl, oE.mono HBX.out.2, HBX.out.1.trans (b5.mono HBX.out.2)⟩)
  obtain ⟨ee, hee⟩ : ∃ ee, ee = (sealG (inA us s q ds)).2 := ⟨_, rfl⟩
  rw [← hee] at HF ⊢
  clear hq4 oE b5 hee
  go_wp2_with fail
  go_ret2
  exact HF.out
end Go.Proofs.Ytgccbghaibddcaa
namespace Go.Proofs.Ytgccbghaibddcaa
open Go Go.RowKit
def clA (id : Nat) (o : Bool) (s q : Nat) (R : Value) : Array Value := #[.int .u64 (id : Int), .bool o, .int .u64 (s : Int), .int .u64 (q : Int), R, .slice none 0 0]
set_option maxRecDepth 100000 in
theorem newS_any (id : Nat) (w : World) : Calls Try.prog 15 #[.int .u64 (id : Int)] w (fun e w' => e = .returned (.pointer (some ⟨w.heap.size, 0, none⟩)) ∧ Cl w' w.heap.size (clA id false 0 0 (.slice none 0 0)) 124 ∧ Below w.heap.size w w') := by
  have HF : Hid (Cl (w.alloc (.cells #[.int .u64 (id : Int), .bool false, .int .u64 0, .int .u64 0, .slice none 0 0, .slice none 0 0] 124)) w.heap.size (clA id false 0 0 (.slice none 0 0)) 124) := Lib.hid (Cl.new _ _ _)
  have HB : Hid (Below w.heap.size w (w.alloc (.cells #[.int .u64 (id : Int), .bool false, .int .u64 0, .int .u64 0, .slice none 0 0, .slice none 0 0] 124))) := Lib.hid ((Below.refl _ _).alloc (Nat.le_refl _) _)
  go_enter Try.func15, Try.ntmps15
  go_wp2_with fail
  go_ret
  exact ⟨rfl, HF.out, HB.out⟩
def RetAs (w : World) (p id : Nat) (e : Ending) (w' : World) : Prop := e = .returned (.tuple #[.agg #[.int .u64 (id : Int), .int .u64 1], .int .i64 0]) ∧ ∃ R rn rc, Cl w' p (clA id true id 1 (.slice R rn rc)) 124 ∧ Own 5 w' w.heap.size R rn rc (putU 0) ∧ Fr w w' [p]
set_option maxRecDepth 100000 in
set_option maxHeartbeats 8000000 in
theorem ask1S_any {w : World} {p id : Nat} (z : Cl w p (clA id false 0 0 (.slice none 0 0)) 124) : Calls Try.prog 16 #[.pointer (some ⟨p, 0, none⟩), .slice none 0 0] w (RetAs w p id) := by
  obtain ⟨U, hU⟩ : ∃ U, U = w.alloc (.cells #[.int .u64 0, .int .u64 0] 24) := ⟨_, rfl⟩
  obtain ⟨g, hg⟩ : ∃ g, g = w.heap.size := ⟨_, rfl⟩
  have bU : Below w.heap.size w U := by rw [hU]; exact (Below.refl _ _).alloc (Nat.le_refl _) _
  have zg : Cl U g #[.int .u64 0, .int .u64 0] 24 := by rw [hU, hg]; exact Cl.new _ _ _
  have hpg : p < g := by rw [hg]; exact z.lt
  have zU := z.below bU
  have HEN := Lib.hid (encNil_any U)
  have c1 : U.cell? ⟨p, 1, none⟩ = some (.bool false) := zU.cell 1
  have HU := Lib.hid hU
  have HG := Lib.hid hg
  have BU := Lib.hid bU
  have ZU := Lib.hid zU
  have ZG := Lib.hid zg
  clear z hU hg bU zU zg
  go_enter Try.func16, Try.ntmps16
  go_upto_region 1 with (fail)
  rw [← HU.out, ← HG.out]
  go_wp2_with fail
  with_reducible refine HEN.out.mono ?_
  intro e w2 hq
  obtain ⟨R, rn, rc, h1, oR, b2⟩ := hq
  subst h1
  have hrn : rn ≤ 10 := by have h1 := oR.len; have h2 := putU_len64 0 (by unfold B64; omega); omega
  have z2 := ZU.out.below b2
  obtain ⟨V, hV⟩ : ∃ V, V = (w2.setCell ⟨p, 1, none⟩ (.bool true)).setCell ⟨p, 4, none⟩ (.slice R rn rc) := ⟨_, rfl⟩
  have d1 : w2.cell? ⟨p, 1, none⟩ = some (.bool false) := z2.cell 1
  have d1t := z2.thaw 1
  have z3 : Cl (w2.setCell ⟨p, 1, none⟩ (.bool true)) p #[.int .u64 (id : Int), .bool true, .int .u64 0, .int .u64 0, .slice none 0 0, .slice none 0 0] 124 := z2.set 1 (.bool true)
  have d4 : (w2.setCell ⟨p, 1, none⟩ (.bool true)).cell? ⟨p, 4, none⟩ = some (.slice none 0 0) := z3.cell 4
  have d4t := z3.thaw 4
  have zV : Cl V p #[.int .u64 (id : Int), .bool true, .int .u64 0, .int .u64 0, .slice R rn rc, .slice none 0 0] 124 := by rw [hV]; exact z3.set 4 (.slice R rn rc)
  have HV := Lib.hid hV
  have ZV := Lib.hid zV
  have t1 : decide (8000 < (rn : Int)) = false := by simp; omega
  obtain ⟨X, hX⟩ : ∃ X, X = ((V.setCell ⟨p, 2, none⟩ (.int .u64 (id : Int))).setCell ⟨p, 3, none⟩ (.int .u64 1)).drew := ⟨_, rfl⟩
  have v0 : V.drew.cell? ⟨p, 0, none⟩ = some (.int .u64 (id : Int)) := zV.cell 0
  have v2 : V.drew.cell? ⟨p, 2, none⟩ = some (.int .u64 0) := zV.cell 2
  have v2t : V.drew.frozen? ⟨p, 2, none⟩ = false := zV.thaw 2
  have v5 : V.drew.cell? ⟨p, 5, none⟩ = some (.slice none 0 0) := zV.cell 5
  have y1 : Cl (V.setCell ⟨p, 2, none⟩ (.int .u64 (id : Int))) p #[.int .u64 (id : Int), .bool true, .int .u64 (id : Int), .int .u64 0, .slice R rn rc, .slice none 0 0] 124 := zV.set 2 (.int .u64 (id : Int))
  have v3 : V.cell? ⟨p, 3, none⟩ = some (.int .u64 0) := zV.cell 3
  have v3t := zV.thaw 3
  have zX : Cl X p #[.int .u64 (id : Int), .bool true, .int .u64 (id : Int), .int .u64 1, .slice R rn rc, .slice none 0 0] 124 := by rw [hX]; exact (y1.set 3 (.int .u64 1)).drewN 1
  have gX : Cl X g #[.int .u64 0, .int .u64 0] 24 := by
    rw [hX, hV]
    exact (((((show Cl w2 g _ _ from ZG.out.below b2).off 1 (.bool true) (by omega)).off 4 (.slice R rn rc) (by omega)).off 2 (.int .u64 (id : Int)) (by omega)).off 3 (.int .u64 1) (by omega)).drewN 1
  have fX : Fr w2 X [p] := by
    rw [hX, hV]
    exact ((((Fr.set w2 p 1 (.bool true)).trans (Fr.set _ p 4 (.slice R rn rc)) (fun _ hb => .inl hb)).trans (Fr.set _ p 2 (.int .u64 (id : Int))) (fun _ hb => .inl hb)).trans (Fr.set _ p 3 (.int .u64 1)) (fun _ hb => .inl hb)).trans (Fr.of_below (Below.refl _ _).drew [p]) (fun _ hb => .inl hb)
  have oX : Own 5 X U.heap.size R rn rc (putU 0) := oR.fr fX (fun b hb hm => by
    rw [List.mem_singleton] at hm
    subst hm
    exact cl_row z2 oR (by decide) hb)
  have HX := Lib.hid hX
  have ZX := Lib.hid zX
  have GX := Lib.hid gX
  have FX := Lib.hid fX
  have OX := Lib.hid oX
  have B2 := Lib.hid b2
  clear oR b2 z2 hV z3 zV hX y1 zX gX fX oX
  go_upto_region 7 with (fail)
  rw [← HV.out]
  clear d1 d1t d4 d4t c1
  go_region
  all_goals
    rw [← HX.out]
    clear v0 v2 v2t v5 v3 v3t
    have x2 : X.cell? ⟨p, 2, none⟩ = some (.int .u64 (id : Int)) := ZX.out.cell 2
    have x3 : X.cell? ⟨p, 3, none⟩ = some (.int .u64 1) := ZX.out.cell 3
    have g0 : X.cell? ⟨g, 0, none⟩ = some (.int .u64 0) := GX.out.cell 0
    have g0t := GX.out.thaw 0
    have g1 : X.cell? ⟨g, 1, none⟩ = some (.int .u64 0) := GX.out.cell 1
    have g1t := GX.out.thaw 1
    obtain ⟨Y, hY⟩ : ∃ Y, Y = (X.setCell ⟨g, 0, none⟩ (.int .u64 (id : Int))).setCell ⟨g, 1, none⟩ (.int .u64 1) := ⟨_, rfl⟩
    have zY : Cl Y g #[.int .u64 (id : Int), .int .u64 1] 24 := by rw [hY]; exact (GX.out.set 0 (.int .u64 (id : Int))).set 1 (.int .u64 1)
    have HZY := Lib.hid zY
    have HF : Hid (RetAs w p id (.returned (.tuple #[.agg #[.int .u64 (id : Int), .int .u64 1], .int .i64 0])) Y) := Lib.hid (by
      have fY : Fr X Y [g] := by rw [hY]; exact (Fr.set X g 0 (.int .u64 (id : Int))).trans (Fr.set _ g 1 (.int .u64 1)) (fun _ hb => .inl hb)
      have hgU : g < U.heap.size := ZG.out.lt
      refine ⟨rfl, R, rn, rc, ?_, ?_, ?_⟩
      · rw [hY]
        exact (ZX.out.off 0 (.int .u64 (id : Int)) (by omega)).off 1 (.int .u64 1) (by omega)
      · refine (OX.out.fr fY (fun b hb hm => ?_)).mono BU.out.size
        rw [List.mem_singleton] at hm
        have := (OX.out.lt b hb).1
        omega
      · have f1 := ((Fr.of_below BU.out [p]).trans (Fr.of_below B2.out [p]) (fun _ hb => .inl hb)).trans FX.out (fun _ hb => .inl hb)
        exact f1.trans fY (fun b hb => .inr (by rw [List.mem_singleton] at hb; have := HG.out; omega)))
    have HYE := Lib.hid hY
    clear zY hY
    go_wp2_with fail
    rw [← HYE.out]
    exact bodyPost_ret (v := .tuple #[.agg #[.int .u64 (id : Int), .int .u64 1], .int .i64 0]) (results_cellT rfl _ _ g #[.int .u64 (id : Int), .int .u64 1] rfl (run_loadVar_row _ g 24 24 #[.int .u64 (id : Int), .int .u64 1] (0, 0) _ HZY.out Try.underlying24 rfl rfl) _ rfl) rfl HF.out
set_option maxRecDepth 100000 in
set_option maxHeartbeats 8000000 in
/-- Asked again, it is busy. -/
theorem ask2S_any {w : World} {p id : Nat} {s q : Nat} {R : Value} (z : Cl w p (clA id true s q R) 124) : Calls Try.prog 16 #[.pointer (some ⟨p, 0, none⟩), .slice none 0 0] w (fun e w' => e = .returned (.tuple #[.agg #[.int .u64 0, .int .u64 0], .int .i64 12]) ∧ Below w.heap.size w w') := by
  obtain ⟨U, hU⟩ : ∃ U, U = w.alloc (.cells #[.int .u64 0, .int .u64 0] 24) := ⟨_, rfl⟩
  obtain ⟨g, hg⟩ : ∃ g, g = w.heap.size := ⟨_, rfl⟩
  have bU : Below w.heap.size w U := by rw [hU]; exact (Below.refl _ _).alloc (Nat.le_refl _) _
  have zg : Cl U g #[.int .u64 0, .int .u64 0] 24 := by rw [hU, hg]; exact Cl.new _ _ _
  have c1 : U.cell? ⟨p, 1, none⟩ = some (.bool true) := (z.below bU).cell 1
  have g0 : U.cell? ⟨g, 0, none⟩ = some (.int .u64 0) := zg.cell 0
  have g0t := zg.thaw 0
  have g1 : U.cell? ⟨g, 1, none⟩ = some (.int .u64 0) := zg.cell 1
  have g1t := zg.thaw 1
  obtain ⟨Y, hY⟩ : ∃ Y, Y = (U.setCell ⟨g, 0, none⟩ (.int .u64 0)).setCell ⟨g, 1, none⟩ (.int .u64 0) := ⟨_, rfl⟩
  have HZY : Hid (Cl Y g #[.int .u64 0, .int .u64 0] 24) := Lib.hid (by rw [hY]; exact (zg.set 0 (.int .u64 0)).set 1 (.int .u64 0))
  have HF : Hid (Below w.heap.size w Y) := Lib.hid (by
    rw [hY]
    exact (bU.trans ((Fr.set U g 0 (.int .u64 0)).below (fun b hb => by rw [List.mem_singleton] at hb; omega) bU.size)).trans ((Fr.set _ g 1 (.int .u64 0)).below (fun b hb => by rw [List.mem_singleton] at hb; omega) (by simpa using bU.size)))
  have HU := Lib.hid hU
  have HG := Lib.hid hg
  have HYE := Lib.hid hY
  clear z hU hg bU zg hY
  go_enter Try.func16, Try.ntmps16
  go_upto_region 1 with (fail)
  rw [← HU.out, ← HG.out]
  go_wp2_with fail
  rw [← HYE.out]
  exact bodyPost_ret (v := .tuple #[.agg #[.int .u64 0, .int .u64 0], .int .i64 12]) (results_cellT rfl _ _ g #[.int .u64 0, .int .u64 0] rfl (run_loadVar_row _ g 24 24 #[.int .u64 0, .int .u64 0] (0, 0) _ HZY.out Try.underlying24 rfl rfl) _ rfl) rfl ⟨rfl, HF.out⟩
end Go.Proofs.Ytgccbghaibddcaa
namespace Go.Proofs.Ytgccbghaibddcaa
open Go Go.RowKit
theorem pkC_lit {tn : Int} {s q : Nat} {D : Option Addr} {dn dc : Nat} : (#[.int .i64 4, .int .i64 0, .int .i64 tn, .int .i64 0, .int .i64 0, .int .i64 0, .int .i64 0, .int .u64 (s : Int), .int .u64 (q : Int), .int .i64 0, .int .i64 0, .int .i64 0, .int .i64 0, .int .u64 0, .int .u64 0, .int .u64 0, .int .u64 0, .slice none 0 0, .bool false, .slice none 0 0, .int .i64 0, .int .i64 0, .int .u64 0, .slice none 0 0, .bool false, .int .u64 0, .slice none 0 0, .slice none 0 0, .slice D dn dc] : Array Value) = pkC 4 tn s q (.slice D dn dc) := rfl
theorem pkC_size {kd tn : Int} {s q : Nat} {D : Value} : (pkC kd tn s q D).size = 29 := rfl
theorem pkC_old {kd tn : Int} {s q : Nat} {D : Value} : pkZL.size = (pkC kd tn s q D).size := rfl
set_option maxRecDepth 100000 in
set_option maxHeartbeats 16000000 in
theorem callS_any {w : World} {p id s q : Nat} (tn : Int) {R : Option Addr} {rn rc : Nat} {rs : List UInt8} (z : Cl w p (clA id true s q (.slice R rn rc)) 124) (hr : Rd w R rn rs) (hn : R = none → rc = 0) (hrn : rn ≤ 1048576) :
    Calls Try.prog 19 #[.pointer (some ⟨p, 0, none⟩), .int .i64 tn] w (fun e w' => ∃ D dn dc, e = .returned (.tuple #[.agg (pkC 4 tn s q (.slice D dn dc)), .bool true]) ∧ Own 5 w' w.heap.size D dn dc rs ∧ Below w.heap.size w w') := by
  obtain ⟨U, hU⟩ : ∃ U, U = w.alloc (.cells pkZL 47) := ⟨_, rfl⟩
  obtain ⟨g, hg⟩ : ∃ g, g = w.heap.size := ⟨_, rfl⟩
  have bU : Below w.heap.size w U := by rw [hU]; exact (Below.refl _ _).alloc (Nat.le_refl _) _
  have zg : Cl U g pkZL 47 := by rw [hU, hg]; exact Cl.new _ _ _
  have zU := z.below bU
  have hB1 : Below U.heap.size U U.drew := (Below.refl _ _).drew
  have HCL : Hid (Calls Try.prog 45 #[.slice R rn rc] U.drew (Made U.drew.heap.size U.drew rs)) := Lib.hid (Clone_any R rn rc rs _ ((hr.below bU).drew) (by omega) hn)
  have HZ : Hid (∀ wx, Below U.heap.size U wx → Cl wx g pkZL 47 ∧ wx.cell? ⟨p, 2, none⟩ = some (.int .u64 (s : Int)) ∧ wx.cell? ⟨p, 3, none⟩ = some (.int .u64 (q : Int))) := Lib.hid (fun wx hb => ⟨zg.below hb, (zU.below hb).cell 2, (zU.below hb).cell 3⟩)
  have HF : Hid (∀ D dn dc w2, Own 5 w2 U.drew.heap.size D dn dc rs → Below U.heap.size U w2 → Own 5 (w2.setRow g (pkC 4 tn s q (.slice D dn dc))) w.heap.size D dn dc rs ∧ Below w.heap.size w (w2.setRow g (pkC 4 tn s q (.slice D dn dc)))) := Lib.hid (fun D dn dc w2 o b => by
    have hgl : g < U.heap.size := zg.lt
    refine ⟨(o.fr (Fr.setRow g _) (fun b hb hm => ?_)).mono (show w.heap.size ≤ U.heap.size from bU.size), (belowT' bU b).trans ((Fr.setRow g _).below (fun b hb => ?_) (belowT' bU b).size)⟩
    · rw [List.mem_singleton] at hm
      have h1 := (o.lt b hb).1
      have h2 : U.drew.heap.size = U.heap.size := rfl
      omega
    · rw [List.mem_singleton] at hb
      omega)
  have c1 : U.cell? ⟨p, 1, none⟩ = some (.bool true) := zU.cell 1
  have c2 : U.drew.cell? ⟨p, 2, none⟩ = some (.int .u64 (s : Int)) := zU.cell 2
  have c3 : U.drew.cell? ⟨p, 3, none⟩ = some (.int .u64 (q : Int)) := zU.cell 3
  have c4 : U.drew.cell? ⟨p, 4, none⟩ = some (.slice R rn rc) := zU.cell 4
  have HU := Lib.hid hU
  have HG := Lib.hid hg
  clear z hr hn hU hg bU zg zU
  unfold pkZL at HU
  go_enter Try.func19, Try.ntmps19
  go_upto_region 1 with (fail)
  rw [← HU.out, ← HG.out]
  go_upto_region 3 with (fail)
  go_region_law (first | (go_simp; go_at_call 45; with_reducible refine HCL.out.mono ?_; intro e w2 hq; obtain ⟨D, dn, dc, h1, oD, b2⟩ := Made.outS hq; subst h1; have hb2 := belowT' hB1 b2; obtain ⟨hz, e2, e3⟩ := HZ.out w2 hb2; have hpc : (#[.int .i64 4, .int .i64 0, .int .i64 tn, .int .i64 0, .int .i64 0, .int .i64 0, .int .i64 0, .int .u64 (s : Int), .int .u64 (q : Int), .int .i64 0, .int .i64 0, .int .i64 0, .int .i64 0, .int .u64 0, .int .u64 0, .int .u64 0, .int .u64 0, .slice none 0 0, .bool false, .slice none 0 0, .int .i64 0, .int .i64 0, .int .u64 0, .slice none 0 0, .bool false, .int .u64 0, .slice none 0 0, .slice none 0 0, .slice D dn dc] : Array Value) = pkC 4 tn s q (.slice D dn dc) := pkC_lit; have hsz : (pkC 4 tn s q (.slice D dn dc)).size = 29 := pkC_size; have hst := run_sc (cells := pkC 4 tn s q (.slice D dn dc)) hz pkC_old pk_one))
  all_goals
    have HZN : Hid (Cl (w2.setRow g (pkC 4 tn s q (.slice D dn dc))) g (pkC 4 tn s q (.slice D dn dc)) 47) := Lib.hid (setRow_heap _ _ _ _ _ _ hz)
    have HFF := Lib.hid (HF.out D dn dc w2 oD hb2)
    clear hpc hsz hst hz e2 e3 oD hb2 b2 hq c1 c2 c3 c4
    go_wp2_with fail
    exact bodyPost_ret (v := .tuple #[.agg (pkC 4 tn s q (.slice D dn dc)), .bool true]) (results_cellT rfl _ _ g (pkC 4 tn s q (.slice D dn dc)) rfl (run_loadVar_row _ g 47 47 (pkC 4 tn s q (.slice D dn dc)) (0, 0) _ HZN.out Try.underlying47 rfl size_pkC) _ rfl) rfl ⟨D, dn, dc, rfl, HFF.out.1, HFF.out.2⟩
end Go.Proofs.Ytgccbghaibddcaa
namespace Go.Proofs.Ytgccbghaibddcaa
open Go Go.RowKit
/-- A packet that is kept in a variable. -/
theorem run_scN {w : World} {g : Nat} {cells : Array Value} (hg : g = w.heap.size) (ho : 29 = cells.size) (h1 : cells.all (·.oneCell') = true) : (storeCells ⟨g, 0, none⟩ cells.toList).run Try.prog (w.alloc (.cells #[.int .i64 0, .int .i64 0, .int .i64 0, .int .i64 0, .int .i64 0, .int .i64 0, .int .i64 0, .int .u64 0, .int .u64 0, .int .i64 0, .int .i64 0, .int .i64 0, .int .i64 0, .int .u64 0, .int .u64 0, .int .u64 0, .int .u64 0, .slice none 0 0, .bool false, .slice none 0 0, .int .i64 0, .int .i64 0, .int .u64 0, .slice none 0 0, .bool false, .int .u64 0, .slice none 0 0, .slice none 0 0, .slice none 0 0] 47)) = .ok () ((w.alloc (.cells #[.int .i64 0, .int .i64 0, .int .i64 0, .int .i64 0, .int .i64 0, .int .i64 0, .int .i64 0, .int .u64 0, .int .u64 0, .int .i64 0, .int .i64 0, .int .i64 0, .int .i64 0, .int .u64 0, .int .u64 0, .int .u64 0, .int .u64 0, .slice none 0 0, .bool false, .slice none 0 0, .int .i64 0, .int .i64 0, .int .u64 0, .slice none 0 0, .bool false, .int .u64 0, .slice none 0 0, .slice none 0 0, .slice none 0 0] 47)).setRow g cells) :=
  run_sc (show Cl _ _ _ 47 from Cl.newg _ _ _ _ hg) ho h1
theorem below_pk {w : World} {g : Nat} {cells : Array Value} (hg : g = w.heap.size) : Below w.heap.size w ((w.alloc (.cells #[.int .i64 0, .int .i64 0, .int .i64 0, .int .i64 0, .int .i64 0, .int .i64 0, .int .i64 0, .int .u64 0, .int .u64 0, .int .i64 0, .int .i64 0, .int .i64 0, .int .i64 0, .int .u64 0, .int .u64 0, .int .u64 0, .int .u64 0, .slice none 0 0, .bool false, .slice none 0 0, .int .i64 0, .int .i64 0, .int .u64 0, .slice none 0 0, .bool false, .int .u64 0, .slice none 0 0, .slice none 0 0, .slice none 0 0] 47)).setRow g cells) ∧ Cl ((w.alloc (.cells #[.int .i64 0, .int .i64 0, .int .i64 0, .int .i64 0, .int .i64 0, .int .i64 0, .int .i64 0, .int .u64 0, .int .u64 0, .int .i64 0, .int .i64 0, .int .i64 0, .int .i64 0, .int .u64 0, .int .u64 0, .int .u64 0, .int .u64 0, .slice none 0 0, .bool false, .slice none 0 0, .int .i64 0, .int .i64 0, .int .u64 0, .slice none 0 0, .bool false, .int .u64 0, .slice none 0 0, .slice none 0 0, .slice none 0 0] 47)).setRow g cells) g cells 47 ∧ ((w.alloc (.cells #[.int .i64 0, .int .i64 0, .int .i64 0, .int .i64 0, .int .i64 0, .int .i64 0, .int .i64 0, .int .u64 0, .int .u64 0, .int .i64 0, .int .i64 0, .int .i64 0, .int .i64 0, .int .u64 0, .int .u64 0, .int .u64 0, .int .u64 0, .slice none 0 0, .bool false, .slice none 0 0, .int .i64 0, .int .i64 0, .int .u64 0, .slice none 0 0, .bool false, .int .u64 0, .slice none 0 0, .slice none 0 0, .slice none 0 0] 47)).setRow g cells).heap.size = w.heap.size + 1 :=
  ⟨below_setRow ((Below.refl _ _).alloc (Nat.le_refl _) _) (by omega) _, setRow_heap _ _ _ _ _ _ (show Cl _ _ _ 47 from Cl.newg _ _ _ _ hg), by rw [setRow_size]; simp⟩
set_option maxRecDepth 100000 in
theorem eqTxnS (a b c d : Int) (w : World) : (binOp .eql 24 (.agg #[.int .u64 a, .int .u64 b]) (.agg #[.int .u64 c, .int .u64 d])).run Try.prog w = .ok (.bool (a == c && b == d)) w := by
  have hS : Try.prog.underlying 24 = some (.struct (Try.prog.fieldsOf 24)) := by kernel_rfl
  have hp : Try.prog.stoodInHeld 24 = false := by kernel_rfl
  have u := Try.underlying22
  rw [run_eql_struct, show (10000 : Nat) = 9999 + 1 from rfl, run_equalIn_agg w 9999 24 _ _ hS hp]
  simp only [Program.fieldsOf, Try.underlying24]
  go_simp
  by_cases h1 : a = c <;> by_cases h2 : b = d <;> simp [h1, h2]
set_option maxRecDepth 100000 in
set_option maxHeartbeats 16000000 in
theorem awake24_any (w : World) : Calls Try.prog 7 #[] w (fun e w' => e = .returned (.bool true) ∧ Below w.heap.size w w') := by
  have HNW : Hid (Calls Try.prog 15 #[.int .u64 7] w (fun e w' => e = .returned (.pointer (some ⟨w.heap.size, 0, none⟩)) ∧ Cl w' w.heap.size (clA 7 false 0 0 (.slice none 0 0)) 124 ∧ Below w.heap.size w w')) := Lib.hid (newS_any 7 w)
  obtain ⟨p, hp⟩ : ∃ p, p = w.heap.size := ⟨_, rfl⟩
  rw [← hp] at HNW
  have HP := Lib.hid hp
  rw [← hp]
  go_enter Try.func7, Try.ntmps7
  go_wp2_with fail
  with_reducible refine HNW.out.mono ?_
  rintro e w1 ⟨rfl, z1, b1⟩
  have HA : Hid (Calls Try.prog 16 #[.pointer (some ⟨p, 0, none⟩), .slice none 0 0] w1 (RetAs w1 p 7)) := Lib.hid (ask1S_any z1)
  have B1 := Lib.hid b1
  have P1 : Hid (p < w1.heap.size) := Lib.hid z1.lt
  clear z1 b1 HNW hp
  go_wp2_with fail
  with_reducible refine HA.out.mono ?_
  intro e w2 hq
  obtain ⟨h1, R, rn, rc, z2, oR, f2⟩ := hq
  have h1' : e = .returned (.tuple #[.agg #[.int .u64 7, .int .u64 1], .int .i64 0]) := h1
  subst h1'
  obtain ⟨X, hX⟩ : ∃ X, X = w2.alloc (.cells #[.int .u64 7, .int .u64 1] 24) := ⟨_, rfl⟩
  obtain ⟨gx, hgx⟩ : ∃ gx, gx = w2.heap.size := ⟨_, rfl⟩
  have bX : Below w2.heap.size w2 X := by rw [hX]; exact (Below.refl _ _).alloc (Nat.le_refl _) _
  have zX : Cl X gx #[.int .u64 7, .int .u64 1] 24 := by rw [hX, hgx]; exact Cl.new _ _ _
  have HA2 := Lib.hid (ask2S_any (z2.below bX))
  have s1 := B1.out.size
  have s2 := f2.size
  have hpw := HP.out
  have bf2 : Below w.heap.size w1 w2 := f2.below (fun b hb => by rw [List.mem_singleton] at hb; omega) (by omega)
  have BX : Hid (Below w.heap.size w X) := Lib.hid ((Below.trans (show Below w.heap.size w w1 from (by have h := B1.out; rw [hpw] at h; exact h)) bf2).trans (bX.mono (by omega)))
  have ZX := Lib.hid zX
  have Z2 := Lib.hid (z2.below bX)
  have OR := Lib.hid (oR.below bX)
  have HXE := Lib.hid hX
  have HGX := Lib.hid hgx
  clear h1 z2 oR f2 hX hgx bX zX HA bf2 s1 s2 hpw
  go_wp2_with fail
  rw [← HXE.out, ← HGX.out]
  with_reducible refine HA2.out.mono ?_
  rintro e w3 ⟨rfl, b3⟩
  obtain ⟨V, hV⟩ : ∃ V, V = w3.alloc (.cells #[.int .u64 0, .int .u64 0] 24) := ⟨_, rfl⟩
  have bV : Below w3.heap.size w3 V := by rw [hV]; exact (Below.refl _ _).alloc (Nat.le_refl _) _
  have b3V := belowT' b3 bV
  have HCA := Lib.hid (callS_any (s := 7) (q := 1) 2 (Z2.out.below b3V) (OR.out.below b3V).rd (fun h => (OR.out.nil_of (by rw [h]; rfl)).2.2) (by have h1 := OR.out.len; have h2 := putU_len64 0 (by unfold B64; omega); omega))
  have BV := Lib.hid (BX.out.trans (b3V.mono BX.out.size))
  have ZV := Lib.hid (ZX.out.below b3V)
  have HVE := Lib.hid hV
  clear b3 hV bV b3V HA2
  go_wp2_with fail
  rw [← HVE.out]
  with_reducible refine HCA.out.mono ?_
  rintro e w4 ⟨D, dn, dc, rfl, oD, b4⟩
  obtain ⟨gk, hgk⟩ : ∃ gk, gk = w4.heap.size := ⟨_, rfl⟩
  have hst := run_scN (w := w4) (g := gk) (cells := pkC 4 2 7 1 (.slice D dn dc)) hgk pkC_size.symm pk_one
  have hsz : (pkC 4 2 7 1 (.slice D dn dc)).size = 29 := rfl
  obtain ⟨k1, k2, k3⟩ := below_pk (w := w4) (cells := pkC 4 2 7 1 (.slice D dn dc)) hgk
  obtain ⟨Y, hY⟩ : ∃ Y, Y = (w4.alloc (.cells #[.int .i64 0, .int .i64 0, .int .i64 0, .int .i64 0, .int .i64 0, .int .i64 0, .int .i64 0, .int .u64 0, .int .u64 0, .int .i64 0, .int .i64 0, .int .i64 0, .int .i64 0, .int .u64 0, .int .u64 0, .int .u64 0, .int .u64 0, .slice none 0 0, .bool false, .slice none 0 0, .int .i64 0, .int .i64 0, .int .u64 0, .slice none 0 0, .bool false, .int .u64 0, .slice none 0 0, .slice none 0 0, .slice none 0 0] 47)).setRow gk (pkC 4 2 7 1 (.slice D dn dc)) := ⟨_, rfl⟩
  rw [← hY] at hst k1 k2 k3
  have y0 : Y.cell? ⟨gk, 0, none⟩ = some (.int .i64 4) := k2.cell 0
  have y2 : Y.cell? ⟨gk, 2, none⟩ = some (.int .i64 2) := k2.cell 2
  have y7 : Y.cell? ⟨gk, 7, none⟩ = some (.int .u64 7) := k2.cell 7
  have y8 : Y.cell? ⟨gk, 8, none⟩ = some (.int .u64 1) := k2.cell 8
  have zz := ZV.out.below (belowT' b4 k1)
  have x0 : Y.cell? ⟨gx, 0, none⟩ = some (.int .u64 7) := zz.cell 0
  have x1 : Y.cell? ⟨gx, 1, none⟩ = some (.int .u64 1) := zz.cell 1
  have heq := eqTxnS 7 1 7 1
  have HF := Lib.hid (BV.out.trans ((belowT' b4 k1).mono BV.out.size))
  rw [hgk] at hst y0 y2 y7 y8
  have HGK := Lib.hid hgk
  clear oD b4 k1 k2 k3 hY zz hgk HCA
  go_wp2_with fail
  go_ret
  exact ⟨rfl, by rw [HP.out]; exact HF.out⟩
end Go.Proofs.Ytgccbghaibddcaa
namespace Go.Proofs.Ytgccbghaibddcaa
open Go Go.RowKit
/-- 'The packet in block p has these pairs so far; beside it stand the copied bytes.' -/
structure PkSt (U : World) (p : Nat) (PK : Array Value → Prop) (C : Option Addr) (cn cc : Nat) (ds : List UInt8) (wr : World) (j c : Nat) (A : Option Addr) (pvs : Array Value) (vs : List Value) : Prop where
  cl : Cl wr p pvs 47
  pk : PK pvs
  at_ : pvs[23]? = some (.slice A j c)
  own : OwnS 100 2 wr U.heap.size A j c vs
  data : Own 5 wr U.heap.size C cn cc ds
  bel : Below U.heap.size U wr
section
variable {U : World} {p : Nat} {PK : Array Value → Prop} {C : Option Addr} {cn cc : Nat} {ds : List UInt8} {wr wx w6 : World} {j c c2 : Nat} {A L2 : Option Addr} {pvs : Array Value} {vs us : List Value}
theorem PkSt.below (h : PkSt U p PK C cn cc ds wr j c A pvs vs) (hb : Below wr.heap.size wr wx) : PkSt U p PK C cn cc ds wx j c A pvs vs := ⟨h.cl.below hb, h.pk, h.at_, h.own.below hb, h.data.below hb, belowT' h.bel hb⟩
theorem PkSt.cell (h : PkSt U p PK C cn cc ds wr j c A pvs vs) : wr.cell? ⟨p, 23, none⟩ = some (.slice A j c) := (h.cl.cell 23).trans h.at_
theorem PkSt.step (h : PkSt U p PK C cn cc ds wx j c A pvs vs) (hp : U.heap.size ≤ p) (hne : blk C ≠ some p) (hPK : ∀ pvs v, PK pvs → v.oneCell' = true → PK (pvs.setIfInBounds 23 v)) (o6 : OwnS 100 2 w6 U.heap.size L2 (j + 1) c2 us) (hg : wx.grownBy w6 (blk A)) :
    w6.cell? ⟨p, 23, none⟩ = some (.slice A j c) ∧ w6.frozen? ⟨p, 23, none⟩ = false ∧ PkSt U p PK C cn cc ds (w6.setCell ⟨p, 23, none⟩ (.slice L2 (j + 1) c2)) (j + 1) c2 L2 (pvs.setIfInBounds 23 (.slice L2 (j + 1) c2)) us := by
  have z6 := h.cl.grown hg (cl_row h.cl h.own (by decide))
  have hbC : ∀ b, blk C = some b → blk A ≠ some b := row_ne h.data h.own (by decide)
  have d6 : Own 5 w6 U.heap.size C cn cc ds := by
    cases hA : blk A with
    | none => exact h.data.fr (Fr.of_grown (bl := []) hg (fun b hb => by rw [hA] at hb; cases hb)) (fun b _ hm => by cases hm)
    | some k => exact h.data.fr (Fr.of_grown (bl := [k]) hg (fun b hb => by rw [hA] at hb; injection hb with hb; rw [hb]; simp)) (fun b hb hm => by
        rw [List.mem_singleton] at hm
        exact hbC b hb (by rw [hA, hm]))
  have fs : Fr w6 (w6.setCell ⟨p, 23, none⟩ (.slice L2 (j + 1) c2)) [p] := Fr.set _ _ _ _
  have b6 : Below U.heap.size U w6 := h.bel.grown hg h.bel.size (fun k hk => (h.own.lt k hk).1)
  have hsz : 23 < pvs.size := by
    have := h.at_
    exact (Array.getElem?_eq_some_iff.1 this).1
  refine ⟨(z6.cell 23).trans h.at_, z6.thaw 23, z6.set 23 _, hPK _ _ h.pk rfl, by simp [hsz], o6.fr fs (fun b hb hm => ?_), d6.fr fs (fun b hb hm => ?_), b6.trans (fs.below (fun b hb => by rw [List.mem_singleton] at hb; omega) b6.size)⟩
  · rw [List.mem_singleton] at hm
    subst hm
    exact cl_row z6 o6 (by decide) hb
  · rw [List.mem_singleton] at hm
    exact hne (by rw [hb, hm])
end
theorem info_pr : (Try.prog.info? 100).map (fun i => (i.zero, i.size, i.bytes)) = some (some (.agg #[.slice none 0 0, .slice none 0 0]), 2, 48) := by kernel_rfl
end Go.Proofs.Ytgccbghaibddcaa
namespace Go.Proofs.Ytgccbghaibddcaa
open Go Go.RowKit
/-- A number without a sign. -/
def wN (i : Int) : Nat := (i % 18446744073709551616).toNat
theorem wN_lt (i : Int) : wN i < B64 := by unfold wN B64; omega
theorem wN_wrap (i : Int) : IntKind.u64.wrap i = (wN i : Int) := by
  have h : IntKind.u64.wrap i = i % 18446744073709551616 := rfl
  rw [h]
  unfold wN
  omega
theorem askC_of {i1 i2 i3 i4 i5 i6 i7 : Int} {s q : Nat} {k f t : Int} {tm ix lt cm : Nat} {ok : Bool} {L : Option Addr} {n c : Nat} {C : Option Addr} {cn cc : Nat} {pvs : Array Value} (h : PkH 2 i1 i2 i3 i4 i5 i6 i7 s q k f t tm ix lt cm ok L n c C cn cc pvs) (hs : s < B64) (hq : q < B64) : AskC pvs [wN i1, wN i2, wN i3, wN i4] s q C cn cc := by
  obtain ⟨h1, h2, _⟩ := h
  refine ⟨h1, (h2 0 (.inl (by decide))).trans rfl, ⟨rfl, fun k i u hi hu => ?_⟩, (h2 7 (.inl (by decide))).trans rfl, (h2 8 (.inl (by decide))).trans rfl, (h2 28 (.inr (by decide))).trans rfl, hs, hq⟩
  match k with
  | 0 => injection hi with hi; injection hu with hu; subst hi hu; exact ⟨wN_lt _, i1, (h2 1 (.inl (by decide))).trans rfl, wN_wrap _⟩
  | 1 => injection hi with hi; injection hu with hu; subst hi hu; exact ⟨wN_lt _, i2, (h2 2 (.inl (by decide))).trans rfl, wN_wrap _⟩
  | 2 => injection hi with hi; injection hu with hu; subst hi hu; exact ⟨wN_lt _, i3, (h2 3 (.inl (by decide))).trans rfl, wN_wrap _⟩
  | 3 => injection hi with hi; injection hu with hu; subst hi hu; exact ⟨wN_lt _, i4, (h2 4 (.inl (by decide))).trans rfl, wN_wrap _⟩
  | (k + 4) => cases hi
theorem size_fm {i0 i1 i2 i3 i4 i5 i6 i7 : Int} {s q : Nat} {k f t : Int} {tm ix lt cm : Nat} {T : Option Addr} {tn tc : Nat} {ok : Bool} {re rs : Int} {rt : Nat} {P : Option Addr} {pn pc : Nat} {a b : Nat} {cmt : Bool} {ct : Nat} {W : Option Addr} {wn we : Nat} {R : Option Addr} {rn rc : Nat} {D : Option Addr} {dn dc : Nat} : (Try.prog.info? 36).map (·.size) = some (fmC i0 i1 i2 i3 i4 i5 i6 i7 s q k f t tm ix lt cm T tn tc ok re rs rt P pn pc a b cmt ct W wn we R rn rc D dn dc).size := by show _ = some 30; kernel_rfl
end Go.Proofs.Ytgccbghaibddcaa
namespace Go.Proofs.Ytgccbghaibddcaa
open Go Go.RowKit
theorem PkH.set23 {i0 i1 i2 i3 i4 i5 i6 i7 : Int} {s q : Nat} {k f t : Int} {tm ix lt cm : Nat} {ok : Bool} {L : Option Addr} {n c : Nat} {C : Option Addr} {cn cc : Nat} {pvs : Array Value} {v : Value} (h : PkH i0 i1 i2 i3 i4 i5 i6 i7 s q k f t tm ix lt cm ok L n c C cn cc pvs) (h1 : v.oneCell' = true) : PkH i0 i1 i2 i3 i4 i5 i6 i7 s q k f t tm ix lt cm ok L n c C cn cc (pvs.setIfInBounds 23 v) := by
  obtain ⟨h2, h3, h4⟩ := h
  refine ⟨by simpa using h2, fun j hj => ?_, fun j u hu => ?_⟩
  · rw [← h3 j hj]
    simp [show 23 ≠ j by omega]
  · by_cases hj : 23 = j
    · subst hj
      have hlt : 23 < pvs.size := by omega
      have : v = u := by simpa [hlt] using hu
      rw [← this]
      exact h1
    · exact h4 j u (by simpa [hj] using hu)
def RetPkt (w : World) (i0 i1 i2 i3 i4 i5 i6 i7 : Int) (s q : Nat) (k f t : Int) (tm ix lt cm : Nat) (ok : Bool) (ds : List UInt8) (e : Ending) (w' : World) : Prop := ∃ pvs L n c C cn cc, e = .returned (.agg pvs) ∧ PkH i0 i1 i2 i3 i4 i5 i6 i7 s q k f t tm ix lt cm ok L n c C cn cc pvs ∧ Own 5 w' w.heap.size C cn cc ds ∧ Below w.heap.size w w'
theorem RetTw.out {w w' : World} {n : Nat} {e : Ending} (h : RetTw w n e w') : ∃ L c, e = .returned (.slice L n c) ∧ Below w.heap.size w w' := h
set_option maxRecDepth 100000 in
set_option maxHeartbeats 8000000 in
theorem packet_any {w : World} (i0 i1 i2 i3 i4 i5 i6 i7 : Int) (s q : Nat) (k f t : Int) (tm ix lt cm : Nat) (T : Option Addr) (tn tc : Nat) (ok : Bool) (re rs : Int) (rt : Nat) (P : Option Addr) (pn pc : Nat) (a b : Nat) (cmt : Bool) (ct : Nat) (W : Option Addr) (wn we : Nat) (R : Option Addr) (rn rc : Nat) (D : Option Addr) (dn dc : Nat)
    (ts : List Nat) (hT : RdV w T tn (ts.map fun (x : Nat) => Value.int .u64 (x : Int))) (htn : tn ≤ 100000) (rr ds : List UInt8) (hR : Rd w R rn rr) (hrn : rn ≤ 1099511627776) (hW : RSt 3 w W wn) (hwn : wn ≤ 1099511627776) (hP : RSt 2 w P pn) (hpn : pn ≤ 1048576) (hD : Rd w D dn ds) (hdn : dn ≤ 1099511627776) :
    Calls Try.prog 8 #[.agg (fmC i0 i1 i2 i3 i4 i5 i6 i7 s q k f t tm ix lt cm T tn tc ok re rs rt P pn pc a b cmt ct W wn we R rn rc D dn dc)] w (RetPkt w i0 i1 i2 i3 i4 i5 i6 i7 s q k f t tm ix lt cm ok ds) := by
  obtain ⟨fs, hfs⟩ : ∃ fs, fs = fmC i0 i1 i2 i3 i4 i5 i6 i7 s q k f t tm ix lt cm T tn tc ok re rs rt P pn pc a b cmt ct W wn we R rn rc D dn dc := ⟨_, rfl⟩
  obtain ⟨U, hU⟩ : ∃ U, U = (w.alloc (.cells fs 36)).alloc (.cells pkZL 47) := ⟨_, rfl⟩
  obtain ⟨g, hg⟩ : ∃ g, g = w.heap.size := ⟨_, rfl⟩
  have bU : Below w.heap.size w U := by rw [hU]; exact ((Below.refl _ _).alloc (Nat.le_refl _) _).alloc (by simp) _
  have z : Cl U g (fmC i0 i1 i2 i3 i4 i5 i6 i7 s q k f t tm ix lt cm T tn tc ok re rs rt P pn pc a b cmt ct W wn we R rn rc D dn dc) 36 := by rw [hU, hg, ← hfs]; exact (Cl.new _ _ _).alloc _
  have zR : Cl U (g + 1) pkZL 47 := by rw [hU, hg]; exact Cl.newg _ _ _ _ (by simp)
  have HLD : Hid (∀ wx, Below U.heap.size U wx → wx.cell? ⟨g, 0, none⟩ = some (.int .i64 i0) ∧ wx.cell? ⟨g, 1, none⟩ = some (.int .i64 i1) ∧ wx.cell? ⟨g, 2, none⟩ = some (.int .i64 i2) ∧ wx.cell? ⟨g, 3, none⟩ = some (.int .i64 i3) ∧ wx.cell? ⟨g, 4, none⟩ = some (.int .i64 i4) ∧ wx.cell? ⟨g, 5, none⟩ = some (.int .i64 i5) ∧ wx.cell? ⟨g, 6, none⟩ = some (.int .i64 i6) ∧ wx.cell? ⟨g, 7, none⟩ = some (.int .i64 i7) ∧ wx.cell? ⟨g, 8, none⟩ = some (.int .u64 (s : Int)) ∧ wx.cell? ⟨g, 9, none⟩ = some (.int .u64 (q : Int)) ∧ wx.cell? ⟨g, 10, none⟩ = some (.int .i64 k) ∧ wx.cell? ⟨g, 11, none⟩ = some (.int .i64 f) ∧ wx.cell? ⟨g, 12, none⟩ = some (.int .i64 t) ∧ wx.cell? ⟨g, 13, none⟩ = some (.int .u64 (tm : Int)) ∧ wx.cell? ⟨g, 14, none⟩ = some (.int .u64 (ix : Int)) ∧ wx.cell? ⟨g, 15, none⟩ = some (.int .u64 (lt : Int)) ∧ wx.cell? ⟨g, 16, none⟩ = some (.int .u64 (cm : Int)) ∧ wx.cell? ⟨g, 17, none⟩ = some (.slice T tn tc) ∧ wx.cell? ⟨g, 18, none⟩ = some (.bool ok) ∧ wx.cell? ⟨g, 29, none⟩ = some (.slice D dn dc)) := Lib.hid (fun wx hb => ⟨(z.below hb).cell 0, (z.below hb).cell 1, (z.below hb).cell 2, (z.below hb).cell 3, (z.below hb).cell 4, (z.below hb).cell 5, (z.below hb).cell 6, (z.below hb).cell 7, (z.below hb).cell 8, (z.below hb).cell 9, (z.below hb).cell 10, (z.below hb).cell 11, (z.below hb).cell 12, (z.below hb).cell 13, (z.below hb).cell 14, (z.below hb).cell 15, (z.below hb).cell 16, (z.below hb).cell 17, (z.below hb).cell 18, (z.below hb).cell 29⟩)
  have HMS : Hid (∀ wx, Below U.heap.size U wx → Calls Try.prog 30 #[.agg (ntA k f t tm ix lt cm T tn tc ok)] wx (RetMs wx k f t tm ix lt cm ok)) := Lib.hid (fun wx hb => message_any k f t tm ix lt cm T tn tc ok ts ((hT.below bU).below hb) htn)
  have HCD : Hid (∀ wx, Below U.heap.size U wx → Calls Try.prog 14 #[.slice D dn dc] wx (Made wx.heap.size wx ds)) := Lib.hid (fun wx hb => Copy_any D dn dc ds wx ((hD.below bU).below hb) (by omega))
  have HFN : Hid (∀ (wx : World) (p : Nat) (L : Option Addr) (n c : Nat) (C : Option Addr) (cn cc : Nat), Below U.heap.size U wx → U.heap.size ≤ p → Cl wx p pkZL 47 → Own 5 wx U.heap.size C cn cc ds → Cl (wx.setRow p (pkX i0 i1 i2 i3 i4 i5 i6 i7 s q k f t tm ix lt cm ok L n c C cn cc)) p (pkX i0 i1 i2 i3 i4 i5 i6 i7 s q k f t tm ix lt cm ok L n c C cn cc) 47 ∧ Own 5 (wx.setRow p (pkX i0 i1 i2 i3 i4 i5 i6 i7 s q k f t tm ix lt cm ok L n c C cn cc)) U.heap.size C cn cc ds ∧ blk C ≠ some p ∧ Below U.heap.size U (wx.setRow p (pkX i0 i1 i2 i3 i4 i5 i6 i7 s q k f t tm ix lt cm ok L n c C cn cc))) := Lib.hid (fun wx p L n c C cn cc hb hp hz ho => by
    have hne := cl_ne hz ho (by decide)
    refine ⟨setRow_heap _ _ _ _ _ _ hz, ho.fr (Fr.setRow p _) (fun b hb2 hm => ?_), hne, below_setRow hb hp _⟩
    rw [List.mem_singleton] at hm
    exact hne (by rw [hb2, hm]))
  have HPX : Hid (∀ (L : Option Addr) (n c : Nat) (C : Option Addr) (cn cc : Nat), (#[.int .i64 i0, .int .i64 i1, .int .i64 i2, .int .i64 i3, .int .i64 i4, .int .i64 i5, .int .i64 i6, .int .u64 (s : Int), .int .u64 (q : Int), .int .i64 i7, .int .i64 k, .int .i64 f, .int .i64 t, .int .u64 (tm : Int), .int .u64 (ix : Int), .int .u64 (lt : Int), .int .u64 (cm : Int), .slice L n c, .bool ok, .slice none 0 0, .int .i64 0, .int .i64 0, .int .u64 0, .slice none 0 0, .bool false, .int .u64 0, .slice none 0 0, .slice none 0 0, .slice C cn cc] : Array Value) = pkX i0 i1 i2 i3 i4 i5 i6 i7 s q k f t tm ix lt cm ok L n c C cn cc) := Lib.hid (fun _ _ _ _ _ _ => rfl)
  have HL2 : Hid (∀ wx, Below U.heap.size U wx → wx.cell? ⟨g, 19, none⟩ = some (.int .i64 re) ∧ wx.cell? ⟨g, 20, none⟩ = some (.int .i64 rs) ∧ wx.cell? ⟨g, 21, none⟩ = some (.int .u64 (rt : Int)) ∧ wx.cell? ⟨g, 25, none⟩ = some (.bool cmt) ∧ wx.cell? ⟨g, 26, none⟩ = some (.int .u64 (ct : Int)) ∧ wx.cell? ⟨g, 27, none⟩ = some (.slice W wn we) ∧ wx.cell? ⟨g, 28, none⟩ = some (.slice R rn rc)) := Lib.hid (fun wx hb => ⟨(z.below hb).cell 19, (z.below hb).cell 20, (z.below hb).cell 21, (z.below hb).cell 25, (z.below hb).cell 26, (z.below hb).cell 27, (z.below hb).cell 28⟩)
  have HCR : Hid (∀ wx, Below U.heap.size U wx → Calls Try.prog 14 #[.slice R rn rc] wx (Made wx.heap.size wx rr)) := Lib.hid (fun wx hb => Copy_any R rn rc rr wx ((hR.below bU).below hb) (by omega))
  have HTW : Hid (∀ wx, Below U.heap.size U wx → Calls Try.prog 31 #[.slice W wn we] wx (RetTw wx wn)) := Lib.hid (fun wx hb => twinsW_any ((hW.below bU).below hb) (by omega))
  have HPZ : Hid (Cl U (g + 1) pkZL 47) := Lib.hid zR
  have HPR : Hid (∀ wx, Below U.heap.size U wx → RSt 2 wx P pn ∧ wx.cell? ⟨g, 22, none⟩ = some (.slice P pn pc)) := Lib.hid (fun wx hb => ⟨(hP.below bU).below hb, (z.below hb).cell 22⟩)
  have HU := Lib.hid hU
  have HG := Lib.hid hg
  have BU := Lib.hid bU
  rw [← hfs]
  have hsz : fs.size = 30 := by rw [hfs]; rfl
  clear hU hg bU z zR hfs hT hR hD hW hP
  unfold pkZL at HU
  go_enter Try.func8, Try.ntmps8
  go_upto_region 1 with (fail)
  rw [← HU.out, ← HG.out]
  go_cut [3] from 6 to 30 (fun s3 wx => ∃ p L n c C cn cc, s3 = .pointer (some ⟨p, 0, none⟩) ∧ U.heap.size ≤ p ∧ Cl wx p (pkX i0 i1 i2 i3 i4 i5 i6 i7 s q k f t tm ix lt cm ok L n c C cn cc) 47 ∧ Own 5 wx U.heap.size C cn cc ds ∧ blk C ≠ some p ∧ Below U.heap.size U wx)
  case first =>
    unfold ntA at HMS
    have hcl : ∀ wx : World, Cl (wx.alloc (.cells #[.int .i64 0, .int .i64 0, .int .i64 0, .int .i64 0, .int .i64 0, .int .i64 0, .int .i64 0, .int .u64 0, .int .u64 0, .int .i64 0, .int .i64 0, .int .i64 0, .int .i64 0, .int .u64 0, .int .u64 0, .int .u64 0, .int .u64 0, .slice none 0 0, .bool false, .slice none 0 0, .int .i64 0, .int .i64 0, .int .u64 0, .slice none 0 0, .bool false, .int .u64 0, .slice none 0 0, .slice none 0 0, .slice none 0 0] 47)) wx.heap.size pkZL 47 := fun wx => Cl.new _ _ _
    have hst : ∀ (wx : World) (p : Nat) (L : Option Addr) (n c : Nat) (C : Option Addr) (cn cc : Nat), Cl wx p pkZL 47 → (storeCells ⟨p, 0, none⟩ (pkX i0 i1 i2 i3 i4 i5 i6 i7 s q k f t tm ix lt cm ok L n c C cn cc).toList).run Try.prog wx = .ok () (wx.setRow p (pkX i0 i1 i2 i3 i4 i5 i6 i7 s q k f t tm ix lt cm ok L n c C cn cc)) := fun wx p L n c C cn cc hc => run_sc hc rfl pkX_one
    have hps : ∀ (L : Option Addr) (n c : Nat) (C : Option Addr) (cn cc : Nat), (pkX i0 i1 i2 i3 i4 i5 i6 i7 s q k f t tm ix lt cm ok L n c C cn cc).size = 29 := fun _ _ _ _ _ _ => rfl
    have hB1 : Below U.heap.size U U.drew := (Below.refl _ _).drew
    obtain ⟨q0, q1, q2, q3, q4, q5, q6, q7, q8, q9, q10, q11, q12, q13, q14, q15, q16, q17, q18, q29⟩ := HLD.out _ (Below.refl _ _)
    go_region_held3 (fun wx => wx.cell? ⟨g, 0, none⟩ = some (.int .i64 i0) ∧ wx.cell? ⟨g, 1, none⟩ = some (.int .i64 i1) ∧ wx.cell? ⟨g, 2, none⟩ = some (.int .i64 i2) ∧ wx.cell? ⟨g, 3, none⟩ = some (.int .i64 i3) ∧ wx.cell? ⟨g, 4, none⟩ = some (.int .i64 i4) ∧ wx.cell? ⟨g, 5, none⟩ = some (.int .i64 i5) ∧ wx.cell? ⟨g, 6, none⟩ = some (.int .i64 i6) ∧ wx.cell? ⟨g, 7, none⟩ = some (.int .i64 i7) ∧ wx.cell? ⟨g, 8, none⟩ = some (.int .u64 (s : Int)) ∧ wx.cell? ⟨g, 9, none⟩ = some (.int .u64 (q : Int)) ∧ wx.cell? ⟨g, 10, none⟩ = some (.int .i64 k) ∧ wx.cell? ⟨g, 11, none⟩ = some (.int .i64 f) ∧ wx.cell? ⟨g, 12, none⟩ = some (.int .i64 t) ∧ wx.cell? ⟨g, 13, none⟩ = some (.int .u64 (tm : Int)) ∧ wx.cell? ⟨g, 14, none⟩ = some (.int .u64 (ix : Int)) ∧ wx.cell? ⟨g, 15, none⟩ = some (.int .u64 (lt : Int)) ∧ wx.cell? ⟨g, 16, none⟩ = some (.int .u64 (cm : Int)) ∧ wx.cell? ⟨g, 17, none⟩ = some (.slice T tn tc) ∧ wx.cell? ⟨g, 18, none⟩ = some (.bool ok) ∧ wx.cell? ⟨g, 29, none⟩ = some (.slice D dn dc)) (first | assumption | exact HLD.out _ hB1 | exact HLD.out _ (hB1.alloc hB1.size _) | exact HLD.out _ ((Below.refl _ _).alloc (Nat.le_refl _) _).drew | exact HLD.out _ (bC'.alloc bC'.size _) | exact HLD.out _ (bD'.alloc bD'.size _) | exact HLD.out _ (below_setRow bD' bC'.size _) | exact HLD.out _ (below_setRow bD' (Nat.le_refl _) _) | exact HLD.out _ (below_setRow (bD'.alloc bD'.size _) bD'.size _))
      (first
        | (go_at_call 30
           with_reducible refine (HMS.out _ (by first | exact hB1 | exact hB1.alloc hB1.size _ | exact ((Below.refl _ _).alloc (Nat.le_refl _) _).drew)).mono ?_
           intro e wk hq
           obtain ⟨L, n, c, h1, bC⟩ := RetMs.out hq
           subst h1
           have bC' := belowT' (by first | exact hB1 | exact hB1.alloc hB1.size _ | exact ((Below.refl _ _).alloc (Nat.le_refl _) _).drew : Below U.heap.size U _) bC
           have hS1 := HLD.out _ bC'
           try have zc := (hcl U).below (belowT' (Below.refl _ _).drew bC))
        | (go_at_call 14
           with_reducible refine (HCD.out _ (by first | exact bC' | exact bC'.alloc bC'.size _)).mono ?_
           intro e wv hq
           obtain ⟨C, cn, cc, h2, oD, bD⟩ := Made.outV hq
           subst h2
           have bD' := belowT' (by first | exact bC' | exact bC'.alloc bC'.size _ : Below U.heap.size U _) bD
           have hS2 := HLD.out _ bD'
           have hpx := HPX.out L n c C cn cc
           first
             | (have zd := (hcl _).below bD)
             | (have zd := zc.below bD)
             | skip))
    all_goals first
      | (have HQ := Lib.hid (HFN.out wv wk.heap.size L n c C cn cc bD' bC'.size zd (oD.mono (bC'.alloc bC'.size _).size))
         have HLE := Lib.hid bC'.size)
      | (have HQ := Lib.hid (HFN.out wv U.heap.size L n c C cn cc bD' (Nat.le_refl _) zd (oD.mono bC'.size))
         have HLE : Hid (U.heap.size ≤ U.heap.size) := Lib.hid (Nat.le_refl _))
      | (have HQ := Lib.hid (HFN.out (wv.alloc (.cells #[.int .i64 0, .int .i64 0, .int .i64 0, .int .i64 0, .int .i64 0, .int .i64 0, .int .i64 0, .int .u64 0, .int .u64 0, .int .i64 0, .int .i64 0, .int .i64 0, .int .i64 0, .int .u64 0, .int .u64 0, .int .u64 0, .int .u64 0, .slice none 0 0, .bool false, .slice none 0 0, .int .i64 0, .int .i64 0, .int .u64 0, .slice none 0 0, .bool false, .int .u64 0, .slice none 0 0, .slice none 0 0, .slice none 0 0] 47)) wv.heap.size L n c C cn cc (bD'.alloc bD'.size _) bD'.size (hcl wv) ((oD.mono bC'.size).below ((Below.refl _ _).alloc (Nat.le_refl _) _)))
         have HLE := Lib.hid bD'.size)
    all_goals
      clear hcl hst hps hpx hS1 hS2 bC bC' oD bD bD'
      go_wp2_with fail
      go_meet
      case rel => exact ⟨_, L, n, c, C, cn, cc, rfl, HLE.out, HQ.out.1, HQ.out.2.1, HQ.out.2.2.1, HQ.out.2.2.2⟩
  case rest =>
    obtain ⟨p, L, n, c, C, cn, cc, rfl, hp, hz, hO, hne, hB⟩ := hcut
    have HP := Lib.hid hp
    have HZ := Lib.hid hz
    have HO := Lib.hid hO
    have HNE := Lib.hid hne
    have HB := Lib.hid hB
    have hB1 : Below U.heap.size U wc.drew := hB.drew
    obtain ⟨q19, q20, q21, q25, q26, q27, q28⟩ := HL2.out _ hB
    clear hp hz hO hne hB
    go_upto_region 2 with (fail)
    go_region_held3 (fun wx => wx.cell? ⟨g, 19, none⟩ = some (.int .i64 re) ∧ wx.cell? ⟨g, 20, none⟩ = some (.int .i64 rs) ∧ wx.cell? ⟨g, 21, none⟩ = some (.int .u64 (rt : Int)) ∧ wx.cell? ⟨g, 25, none⟩ = some (.bool cmt) ∧ wx.cell? ⟨g, 26, none⟩ = some (.int .u64 (ct : Int)) ∧ wx.cell? ⟨g, 27, none⟩ = some (.slice W wn we) ∧ wx.cell? ⟨g, 28, none⟩ = some (.slice R rn rc)) (first | assumption | exact HL2.out _ hB1)
      (first
        | (go_at_call 14
           with_reducible refine (HCR.out _ hB1).mono ?_
           intro e wk hq
           obtain ⟨CR, rn2, rc2, h1, bC⟩ := Made.outT hq
           subst h1
           have bC' := belowT' hB1 bC
           have hS1 := HL2.out _ bC'
           obtain ⟨p19, p20, p21, p25, p26, p27, p28⟩ := HL2.out _ bC')
        | (go_at_call 31
           with_reducible refine (HTW.out _ bC').mono ?_
           intro e wv hq
           obtain ⟨TW, tc2, h1, bD⟩ := RetTw.out hq
           subst h1
           have bD' := belowT' bC' bD
           have hS2 := HL2.out _ bD'
           obtain ⟨n19, n20, n21, n25, n26, n27, n28⟩ := HL2.out _ bD'
           obtain ⟨rz, hrz⟩ : ∃ rz : Array Value, (#[.int .i64 re, .int .i64 rs, .int .u64 (rt : Int), .slice none 0 0, .bool cmt, .int .u64 (ct : Int), .slice TW wn tc2, .slice CR rn2 rc2] : Array Value) = rz := ⟨_, rfl⟩
           have hrs : rz.size = 8 := by rw [← hrz]; rfl
           obtain ⟨w7, hst, cs, z7, hcs, ho7, hi7, f7⟩ := run_storeMid p 47 20 rz.toList 0 (pkX i0 i1 i2 i3 i4 i5 i6 i7 s q k f t tm ix lt cm ok L n c C cn cc) wv (((show Cl wc.drew p (pkX i0 i1 i2 i3 i4 i5 i6 i7 s q k f t tm ix lt cm ok L n c C cn cc) 47 from HZ.out).below bC).below bD) (by rw [pkX_size, Array.length_toList, hrs]; decide) (by rw [← hrz]; simp [Value.oneCell'])
           have b7 : Below U.heap.size U w7 := bD'.trans (f7.below (fun b hb => by rw [List.mem_singleton] at hb; rw [hb]; exact HP.out) bD'.size)
           have hS3 := HL2.out _ b7))
    have hpk : PkH i0 i1 i2 i3 i4 i5 i6 i7 s q k f t tm ix lt cm ok L n c C cn cc cs := ⟨hcs, fun j hj => ho7 j (by rw [Array.length_toList, hrs]; omega), fun j v hv => by
      by_cases hj : j < 20 ∨ 28 ≤ j
      · rw [ho7 j (by rw [Array.length_toList, hrs]; omega)] at hv
        exact (Array.all_eq_true_iff_forall_mem.1 pkX_one) v (Array.mem_of_getElem? hv)
      · have := hi7 (j - 20) (by rw [Array.length_toList, hrs]; omega)
        rw [show 20 + 0 + (j - 20) = j by omega, hv, ← hrz] at this
        have hm := List.mem_of_getElem? this.symm
        simp only [List.mem_cons, List.not_mem_nil, or_false] at hm
        rcases hm with rfl | rfl | rfl | rfl | rfl | rfl | rfl | rfl <;> rfl⟩
    have h23 : cs[23]? = some (.slice none 0 0) := by
      have := hi7 3 (by rw [Array.length_toList, hrs]; decide)
      rw [← hrz] at this
      exact this
    have o7 : Own 5 w7 U.heap.size C cn cc ds := ((show Own 5 wc.drew U.heap.size C cn cc ds from HO.out).below (bC.trans (bD.mono bC.size))).fr f7 (fun b hb hm => by
      rw [List.mem_singleton] at hm
      exact HNE.out (by rw [hb, hm]))
    have HS0 : Hid (PkSt U p (PkH i0 i1 i2 i3 i4 i5 i6 i7 s q k f t tm ix lt cm ok L n c C cn cc) C cn cc ds w7 0 0 none cs []) := Lib.hid ⟨z7, hpk, h23, OwnS.nil _ _ _ _, o7, b7⟩
    have k22 := (HPR.out _ b7).2
    clear hS1 hS2 hS3 bC bC' bD bD' hst z7 hcs ho7 hi7 f7 b7 hrz hrs hpk h23 o7 p19 p20 p21 p25 p26 p27 p28 n19 n20 n21 n25 n26 n27 n28 q19 q20 q21 q25 q26 q27 q28 hB1
    obtain ⟨PK, hPK⟩ : ∃ PK, PK = PkH i0 i1 i2 i3 i4 i5 i6 i7 s q k f t tm ix lt cm ok L n c C cn cc := ⟨_, rfl⟩
    rw [← hPK] at HS0
    have HPK : Hid (∀ pvs v, PK pvs → v.oneCell' = true → PK (pvs.setIfInBounds 23 v)) := Lib.hid (by rw [hPK]; exact fun pvs v h1 h2 => h1.set23 h2)
    have HPE := Lib.hid hPK
    clear hPK
    go_wp2_with fail
    go_loopw [65] (fun s65 wr => ∃ (j d : Nat) (A : Option Addr) (pvs : Array Value) (vs : List Value), j ≤ pn ∧ s65 = .int .i64 (j : Int) ∧ PkSt U p PK C cn cc ds wr j d A pvs vs) (fun s _ => pn - (intOf s).toNat)
    case atStart => exact ⟨0, 0, none, cs, [], Nat.zero_le _, rfl, HS0.out⟩
    case round =>
      obtain ⟨j, d, A, pvs, vs, hj, rfl, hS⟩ := hrel
      have HS := Lib.hid hS
      obtain ⟨hR, _⟩ := HPR.out wr hS.bel
      clear hS
      by_cases hlt : j < pn
      · obtain ⟨b0, off, hAb, hbl⟩ := hR.pos (by omega) (by omega)
        subst hAb
        obtain ⟨X1, xn, xc, Y1, yn, yc, xs, ys, m0, m1, rk, rt1, lk, lt1, _⟩ := hR.at_ (by omega) j hlt
        obtain ⟨V, hV⟩ : ∃ V, V = wr.alloc (.cells #[.slice X1 xn xc, .slice Y1 yn yc] 100) := ⟨_, rfl⟩
        obtain ⟨gv, hgv⟩ : ∃ gv, gv = wr.heap.size := ⟨_, rfl⟩
        have bV : Below wr.heap.size wr V := by rw [hV]; exact (Below.refl _ _).alloc (Nat.le_refl _) _
        have zV : Cl V gv #[.slice X1 xn xc, .slice Y1 yn yc] 100 := by rw [hV, hgv]; exact Cl.new _ _ _
        have HCK : Hid (∀ wx, Below V.heap.size V wx → Calls Try.prog 14 #[.slice X1 xn xc] wx (Made wx.heap.size wx xs)) := Lib.hid (fun wx hb => Copy_any X1 xn xc xs wx ((rk.below bV).below hb) (by omega))
        have HCT : Hid (∀ wx, Below V.heap.size V wx → Calls Try.prog 14 #[.slice Y1 yn yc] wx (Made wx.heap.size wx ys)) := Lib.hid (fun wx hb => Copy_any Y1 yn yc ys wx ((rt1.below bV).below hb) (by omega))
        have HSV := Lib.hid (HS.out.below bV)
        have HLD : Hid (∀ wx, Below V.heap.size V wx → wx.cell? ⟨gv, 0, none⟩ = some (.slice X1 xn xc) ∧ wx.cell? ⟨gv, 1, none⟩ = some (.slice Y1 yn yc) ∧ wx.cell? ⟨p, 23, none⟩ = some (.slice A j d)) := Lib.hid (fun wx hb => ⟨(zV.below hb).cell 0, (zV.below hb).cell 1, (HSV.out.below hb).cell⟩)
        have HOW : Hid (∀ wx, Below V.heap.size V wx → OwnS 100 2 wx U.heap.size A j d vs ∧ U.heap.size ≤ wx.heap.size) := Lib.hid (fun wx hb => ⟨(HSV.out.below hb).own, (HSV.out.below hb).bel.size⟩)
        have HNX : Hid (∀ (wx w6 : World) (L2 : Option Addr) (d2 : Nat) us, Below V.heap.size V wx → OwnS 100 2 w6 U.heap.size L2 (j + 1) d2 us → wx.grownBy w6 (blk A) → w6.cell? ⟨p, 23, none⟩ = some (.slice A j d) ∧ w6.frozen? ⟨p, 23, none⟩ = false ∧ PkSt U p PK C cn cc ds (w6.setCell ⟨p, 23, none⟩ (.slice L2 (j + 1) d2)) (j + 1) d2 L2 (pvs.setIfInBounds 23 (.slice L2 (j + 1) d2)) us) := Lib.hid (fun wx w6 L2 d2 us hb o6 hg => (HSV.out.below hb).step HP.out HNE.out HPK.out o6 hg)
        have hB1 : Below V.heap.size V V.drew := (Below.refl _ _).drew
        obtain ⟨r0, r1, r2⟩ := HLD.out V (Below.refl _ _)
        have HVE := Lib.hid hV
        have HGV := Lib.hid hgv
        clear hR rk rt1 hV hgv bV zV
        go_upto_region 6 with (fail)
        rw [← HVE.out, ← HGV.out]
        clear m0 m1
        go_region_law (first | (go_simp; go_at_call 14; with_reducible refine (HCK.out _ (by first | exact hB1 | assumption)).mono ?_; intro e wk hq; obtain ⟨C1, cn1, cc1, h1, bC⟩ := Made.outT hq; subst h1; have bC' := belowT' (by first | exact hB1 | assumption : Below V.heap.size V _) bC; obtain ⟨p0, p1, p2⟩ := HLD.out _ bC') | (go_simp; go_at_call 14; with_reducible refine (HCT.out _ (by first | exact hB1 | assumption)).mono ?_; intro e wv hq; obtain ⟨C2, cn2, cc2, h2, bD⟩ := Made.outT hq; subst h2; have bD' := belowT' (by first | exact hB1 | assumption : Below V.heap.size V _) bD; obtain ⟨n0, n1, n2⟩ := HLD.out _ bD'; have n3 := (HLD.out _ (bD'.alloc bD'.size (.cells #[.slice C1 cn1 cc1, .slice C2 cn2 cc2] 100))).2.2) | (refine step_appS _ rfl (Operand.tmp 71) (Operand.tmp 79) 28 rfl 100 2 (by decide) U.heap.size _ 48 Try.underlying28 info_pr rfl A j d vs (by first | (simp [Act.eval]; done) | (simp [Act.eval, Act.put]; done) | rfl) (HOW.out _ (bD'.alloc bD'.size _)).1 ⟨wv.heap.size, 0, none⟩ 1 1 [.slice C1 cn1 cc1, .slice C2 cn2 cc2] (by first | (simp [Act.eval]; done) | (simp [Act.eval, Act.put]; done) | rfl) (rdvS_of_cl (k := 1 * 2) (Cl.new wv [.slice C1 cn1 cc1, .slice C2 cn2 cc2].toArray 100) rfl) (by omega) (by simp [Value.oneCell']) (by unfold maxLen; omega) (by omega) (HOW.out _ (bD'.alloc bD'.size _)).2 ?_; intro L2 d2 w6 hL hg; obtain ⟨y0, y1, hS6⟩ := HNX.out _ _ _ _ _ (bD'.alloc bD'.size _) hL hg) | (refine step_appS _ rfl (Operand.tmp 71) (Operand.tmp 79) 28 rfl 100 2 (by decide) U.heap.size _ 48 Try.underlying28 info_pr rfl A j d vs (by first | (simp [Act.eval]; done) | (simp [Act.eval, Act.put]; done) | rfl) (HOW.out _ (bC'.alloc bC'.size _)).1 ⟨wk.heap.size, 0, none⟩ 1 1 [.slice C1 cn1 cc1, .slice C2 cn2 cc2] (by first | (simp [Act.eval]; done) | (simp [Act.eval, Act.put]; done) | rfl) (rdvS_of_cl (k := 1 * 2) (Cl.new wk [.slice C1 cn1 cc1, .slice C2 cn2 cc2].toArray 100) rfl) (by omega) (by simp [Value.oneCell']) (by unfold maxLen; omega) (by omega) (HOW.out _ (bC'.alloc bC'.size _)).2 ?_; intro L2 d2 w6 hL hg; obtain ⟨y0, y1, hS6⟩ := HNX.out _ _ _ _ _ (bC'.alloc bC'.size _) hL hg))
        all_goals
          have HQ := Lib.hid hS6
          clear hL hg bC bD bC' bD' p0 p1 p2 n0 n1 n2 n3 r0 r1 r2 y0 y1 hS6
          go_wp2_with fail
          go_roundw
          case rel => exact ⟨j + 1, d2, L2, _, _, by omega, by go_num, HQ.out⟩
          case measure => simp [intOf]; omega
      · obtain rfl : j = pn := by omega
        have hpk := HS.out.pk
        have hzr : Cl wr (g + 1) pkZL 47 := HPZ.out.below HS.out.bel
        rw [HPE.out] at hpk
        have hsz2 : pvs.size = 29 := hpk.1
        have h1c : pvs.all (·.oneCell') = true := by
          rw [Array.all_eq_true_iff_forall_mem]
          intro v hv
          obtain ⟨x, hx⟩ := Array.getElem?_of_mem hv
          exact hpk.2.2 x v hx
        have size_p : (Try.prog.info? 47).map (·.size) = some pvs.size := by rw [hsz2]; exact size_pkZ
        have hst := run_sc (cells := pvs) hzr (by rw [hsz2]; rfl) h1c
        have hgw : w.heap.size ≤ g := by rw [HG.out]; exact Nat.le_refl _
        have HSZ := Lib.hid size_p
        have HZN : Hid (Cl (wr.setRow (g + 1) pvs) (g + 1) pvs 47) := Lib.hid (setRow_heap _ _ _ _ _ _ hzr)
        have HF : Hid (RetPkt w i0 i1 i2 i3 i4 i5 i6 i7 s q k f t tm ix lt cm ok ds (.returned (.agg pvs)) (wr.setRow (g + 1) pvs)) := Lib.hid ⟨pvs, L, n, c, C, cn, cc, rfl, hpk, by
          refine (HS.out.data.fr (Fr.setRow (g + 1) _) (fun b hb hm => ?_)).mono BU.out.size
          rw [List.mem_singleton] at hm
          have h1 := (HS.out.data.lt b hb).1
          have h2 := HPZ.out.lt
          omega, below_setRow (BU.out.trans (HS.out.bel.mono BU.out.size)) (by omega) _⟩
        clear hR hpk hzr h1c hgw
        go_wp2_with (first
          | (refine wpList_load_row rfl _ _ rfl p rfl 47 pvs (0, 0) _ HS.out.cl Try.underlying47 rfl size_p ?_))
        exact bodyPost_ret (v := .agg pvs) (results_cell_row rfl _ _ (g + 1) 47 pvs (0, 0) _ rfl HZN.out Try.underlying47 rfl HSZ.out) rfl HF.out
end Go.Proofs.Ytgccbghaibddcaa
namespace Go.Proofs.Ytgccbghaibddcaa
open Go Go.RowKit
theorem openG_three (ys : List UInt8) : (openG ys 0).2.2 ≠ 0 ∨ ((openG ys 0).2.2 = 0 ∧ (openG ys 0).2.1 < (ys.length : Int)) ∨ sealB (openG ys 0).1 = ys := by
  unfold openG
  split
  · exact .inl (by decide)
  · split
    · exact .inl (by decide)
    · split
      · exact .inl (by decide)
      · split
        · exact .inl (by decide)
        · split
          · next h1 h2 he =>
            right
            simp only [Int.toNat_zero, List.drop_zero, Nat.zero_add] at *
            by_cases hl : 8 + numK ys 4 < ys.length
            · exact .inl ⟨trivial, by omega⟩
            · right
              unfold eqB at he
              have he2 := eq_of_beq he
              rw [he2]
              exact List.take_of_length_le (by omega)
          · exact .inl (by decide)
/-- What a record with another beginning opens to is nothing. -/
theorem openG_head {F ys : List UInt8} (hd : ys.drop 8 = F) (hne : ys ≠ sealB F) : ∃ b nx k kk, openG ys 0 = (b, nx, k) ∧ kk ≠ 0 ∧ ((k ≠ 0 ∧ kk = k) ∨ (k = 0 ∧ nx < (ys.length : Int) ∧ kk = 3)) := by
  refine ⟨(openG ys 0).1, (openG ys 0).2.1, (openG ys 0).2.2, ?_⟩
  rcases openG_three ys with h | ⟨h, h2⟩ | h
  · exact ⟨_, rfl, h, .inl ⟨h, rfl⟩⟩
  · exact ⟨3, rfl, by decide, .inr ⟨h, h2, rfl⟩⟩
  · exfalso
    apply hne
    have h8 : ∀ r : List UInt8, (sealB r).drop 8 = r := fun r => by
      have : sealB r = (fourB r.length ++ fourB (crcB (fourB r.length ++ r))) ++ r := by rw [sealB, List.append_assoc]
      rw [this]
      exact List.drop_left' (by simp [fourB_len])
    have h3 : (openG ys 0).1 = F := by rw [← h8 (openG ys 0).1, h, hd]
    rw [← h, h3]
end Go.Proofs.Ytgccbghaibddcaa
namespace Go.Proofs.Ytgccbghaibddcaa
open Go Go.RowKit
theorem RetPkt.out {w : World} {i0 i1 i2 i3 i4 i5 i6 i7 : Int} {s q : Nat} {k f t : Int} {tm ix lt cm : Nat} {ok : Bool} {ds : List UInt8} {e : Ending} {w' : World} (h : RetPkt w i0 i1 i2 i3 i4 i5 i6 i7 s q k f t tm ix lt cm ok ds e w') : ∃ pvs L n c C cn cc, e = .returned (.agg pvs) ∧ PkH i0 i1 i2 i3 i4 i5 i6 i7 s q k f t tm ix lt cm ok L n c C cn cc pvs ∧ Own 5 w' w.heap.size C cn cc ds ∧ Below w.heap.size w w' := h
theorem RetSE.out {base : Nat} {w w' : World} {g : List UInt8 × Int} {e : Ending} (h : RetSE base w g e w') : ∃ A n c, e = .returned (.tuple #[.slice A n c, .int .i64 g.2]) ∧ Own 5 w' base A n c g.1 ∧ Below base w w' := h
theorem set_ahead {pre ts : List UInt8} {i : Nat} (d : UInt8) (h : i < pre.length) : (pre ++ ts).set i d = pre.set i d ++ ts := List.set_append_left _ _ h
set_option maxRecDepth 100000 in
set_option maxHeartbeats 16000000 in
theorem sessionBursts_nat {w : World} (i0 i1 i2 i3 i4 i5 i6 i7 : Int) (s q : Nat) (k f t : Int) (tm ix lt cm : Nat) (T : Option Addr) (tn tc : Nat) (ok : Bool) (re rs : Int) (rt : Nat) (P : Option Addr) (pn pc : Nat) (a b : Nat) (cmt : Bool) (ct : Nat) (W : Option Addr) (wn we : Nat) (R : Option Addr) (rn rc : Nat) (D : Option Addr) (dn dc : Nat)
    (ts : List Nat) (hT : RdV w T tn (ts.map fun (x : Nat) => Value.int .u64 (x : Int))) (htn : tn ≤ 1048576) (rr ds : List UInt8) (hR : Rd w R rn rr) (hrn : rn ≤ 1048576) (hW : RSt 3 w W wn) (hwn : wn ≤ 1048576) (hP : RSt 2 w P pn) (hpn : pn ≤ 1048576) (hD : Rd w D dn ds) (hdn : dn ≤ 1048576) (hs : s < B64) (hq : q < B64) (z : Int) (hz : I64 z) (u : Nat) (hu : u < 4294967296) :
    Calls Try.prog 4 #[.agg (fmC i0 i1 i2 i3 i4 i5 i6 i7 s q k f t tm ix lt cm T tn tc ok re rs rt P pn pc a b cmt ct W wn we R rn rc D dn dc), .int .i64 z, .int .u32 u] w (RetT w true) := by
  unfold I64 at hz
  obtain ⟨fs, hfs⟩ : ∃ fs, fs = fmC i0 i1 i2 i3 i4 i5 i6 i7 s q k f t tm ix lt cm T tn tc ok re rs rt P pn pc a b cmt ct W wn we R rn rc D dn dc := ⟨_, rfl⟩
  obtain ⟨g, hg⟩ : ∃ g, g = w.heap.size := ⟨_, rfl⟩
  obtain ⟨W1, hW1⟩ : ∃ W1, W1 = w.alloc (.cells fs 36) := ⟨_, rfl⟩
  have bW : Below w.heap.size w W1 := by rw [hW1]; exact (Below.refl _ _).alloc (Nat.le_refl _) _
  have zW : Cl W1 g (fmC i0 i1 i2 i3 i4 i5 i6 i7 s q k f t tm ix lt cm T tn tc ok re rs rt P pn pc a b cmt ct W wn we R rn rc D dn dc) 36 := by rw [hW1, hg, ← hfs]; exact Cl.new _ _ _
  have HAW := Lib.hid (awake24_any W1)
  have HT : Hid (∀ wx, Below w.heap.size w wx → RdV wx T tn (ts.map fun (x : Nat) => Value.int .u64 (x : Int)) ∧ Rd wx R rn rr ∧ RSt 3 wx W wn ∧ RSt 2 wx P pn ∧ Rd wx D dn ds) := Lib.hid (fun wx hb => ⟨hT.below hb, hR.below hb, hW.below hb, hP.below hb, hD.below hb⟩)
  have HDL := Lib.hid hD.len
  have BW := Lib.hid bW
  have ZW := Lib.hid zW
  have HW1 := Lib.hid hW1
  have HG := Lib.hid hg
  rw [← hfs]
  have hsz : fs.size = 30 := by rw [hfs]; rfl
  clear hT hR hW hP hD bW zW hW1 hg hfs
  go_enter Try.func4, Try.ntmps4
  go_wp2_with fail
  rw [← HW1.out, ← HG.out]
  with_reducible refine HAW.out.mono ?_
  rintro e w1 ⟨rfl, k1⟩
  have z1 := ZW.out.below k1
  have c29 : w1.cell? ⟨g, 29, none⟩ = some (.slice D dn dc) := z1.cell 29
  have c17 : w1.cell? ⟨g, 17, none⟩ = some (.slice T tn tc) := z1.cell 17
  have c0 : w1.cell? ⟨g, 0, none⟩ = some (.int .i64 i0) := z1.cell 0
  have f0 : w1.frozen? ⟨g, 0, none⟩ = false := z1.thaw 0
  have K1 := Lib.hid (belowT' BW.out k1)
  have Z1 := Lib.hid z1
  clear k1 z1 HAW
  by_cases hd200 : 200 < dn
  · have t1 : decide (200 < (dn : Int)) = true := by simp; omega
    go_wp2_with fail
    go_ret
    exact ⟨rfl, K1.out⟩
  have t1 : decide (200 < (dn : Int)) = false := by simp; omega
  by_cases ht10 : 10 < tn
  · have t2 : decide (10 < (tn : Int)) = true := by simp; omega
    go_wp2_with fail
    go_ret
    exact ⟨rfl, K1.out⟩
  have t2 : decide (10 < (tn : Int)) = false := by simp; omega
  obtain ⟨X, hX⟩ : ∃ X, X = w1.setCell ⟨g, 0, none⟩ (.int .i64 2) := ⟨_, rfl⟩
  obtain ⟨f2, hf2⟩ : ∃ f2, f2 = fmC 2 i1 i2 i3 i4 i5 i6 i7 s q k f t tm ix lt cm T tn tc ok re rs rt P pn pc a b cmt ct W wn we R rn rc D dn dc := ⟨_, rfl⟩
  have zX : Cl X g f2 36 := by rw [hX, hf2]; exact Z1.out.set 0 (.int .i64 2)
  have bX : Below w.heap.size w X := by rw [hX]; exact K1.out.setCell (by rw [HG.out]; exact Nat.le_refl _) _
  have size_f : (Try.prog.info? 36).map (·.size) = some f2.size := by rw [hf2]; exact size_fm
  obtain ⟨r1, r2, r3, r4, r5⟩ := HT.out X bX
  have HPK : Hid (Calls Try.prog 8 #[.agg f2] X (RetPkt X 2 i1 i2 i3 i4 i5 i6 i7 s q k f t tm ix lt cm ok ds)) := Lib.hid (by rw [hf2]; exact packet_any 2 i1 i2 i3 i4 i5 i6 i7 s q k f t tm ix lt cm T tn tc ok re rs rt P pn pc a b cmt ct W wn we R rn rc D dn dc ts r1 (by omega) rr ds r2 (by omega) r3 (by omega) r4 (by omega) r5 (by omega))
  have HX := Lib.hid hX
  have BX := Lib.hid bX
  have ZX := Lib.hid zX
  clear hX zX bX hf2 r1 r2 r3 r4 r5
  go_upto_region 6 with (fail)
  rw [← HX.out]
  go_wp2_with (first
    | (refine wpList_load_row rfl _ _ rfl g rfl 36 f2 (0, 0) _ ZX.out Try.underlying36 rfl size_f ?_))
  with_reducible refine HPK.out.mono ?_
  intro e w2 hq2
  obtain ⟨pvs, L, n, c, C, cn, cc, h1, hpk, oC, b2⟩ := RetPkt.out hq2
  subst h1
  have hA := askC_of hpk hs hq
  have hcl := oC.len
  have hdl := HDL.out
  obtain ⟨F, hF⟩ : ∃ F, F = inA [wN i1, wN i2, wN i3, wN i4] s q ds := ⟨_, rfl⟩
  obtain ⟨fl, hfl⟩ : ∃ fl, fl = F.length := ⟨_, rfl⟩
  have hfl2 : fl ≤ 1000 := by have := inA_len hA ds (by omega); rw [← hF] at this; omega
  have HBY : Hid (Calls Try.prog 9 #[.agg pvs] w2 (RetSE w2.heap.size w2 (sealB F, 0))) := Lib.hid (by
    have h := bytesA_any pvs _ s q C cn cc ds hA oC.rd (by omega)
    rw [← hF, sealG_ok (n := fl) hfl.symm (by omega)] at h
    exact h)
  have B2 := Lib.hid (belowT' BX.out b2)
  have HFL := Lib.hid hfl
  clear hq2 hpk oC b2 hA hcl hdl hF hfl HPK
  go_wp2_with fail
  with_reducible refine HBY.out.mono ?_
  intro e w3 hq3
  obtain ⟨S, bn, sc, h1, oS, b3⟩ := RetSE.out hq3
  have h1' : e = .returned (.tuple #[.slice S bn sc, .int .i64 0]) := h1
  clear h1
  subst h1'
  have oS : Own 5 w3 w2.heap.size S bn sc (sealB F) := oS
  have hbl : (sealB F).length = 8 + fl := by rw [sealB_len, HFL.out]
  have hbn : bn = 8 + fl := by rw [← oS.len]; exact hbl
  have B3 := Lib.hid (belowT' B2.out b3)
  have B23 := Lib.hid b3
  have HO := Lib.hid oS
  have HBN := Lib.hid hbn
  have hbnl : bn ≤ 1008 := by omega
  clear hq3 oS b3 hbl hbn HBY c29 c17 c0 f0
  by_cases hu0 : u = 0
  · subst hu0
    go_wp2_with fail
    go_ret
    exact ⟨rfl, B3.out⟩
  have u1 : ((u : Int) == 0) = false := by simp; omega
  have u2 : ¬ (u : Int) = 0 := by omega
  by_cases hz0 : z < 0
  · have z1 : decide (z < 0) = true := by simpa using hz0
    go_wp2_with fail
    go_ret
    exact ⟨rfl, B3.out⟩
  have hbn8 : IntKind.i64.wrap (8 * (bn : Int)) = 8 * (bn : Int) := by rw [IntWalk.i64_in _ (by omega)]
  have hbn9 : IntKind.i64.wrap (8 * (bn : Int) - 32) = 8 * (bn : Int) - 32 := by rw [IntWalk.i64_in _ (by omega)]
  by_cases hzb : 8 * (bn : Int) - 32 < z
  · go_wp2_with fail
    go_ret
    exact ⟨rfl, B3.out⟩
  obtain ⟨gS, rfl, hg1, hg2⟩ := HO.out.form (by have := HBN.out; omega)
  have HG1 := Lib.hid hg1
  have hpkz : pkZL.size = 29 := rfl
  obtain ⟨pre, hpre⟩ : ∃ pre, pre = fourB fl ++ fourB (crcB (fourB fl ++ F)) := ⟨_, rfl⟩
  have hpl : pre.length = 8 := by rw [hpre]; simp [fourB_len]
  have hS : sealB F = pre ++ F := by rw [hpre, sealB, HFL.out, List.append_assoc]
  have HPR := Lib.hid hpre
  have HS := Lib.hid hS
  have HPL := Lib.hid hpl
  clear hpre hS hg1 hg2
  by_cases hz64 : z < 64
  · obtain ⟨p, rfl⟩ : ∃ p : Nat, z = (p : Int) := ⟨z.toNat, by omega⟩
    obtain ⟨i, hi⟩ : ∃ i : Nat, i = p / 8 := ⟨_, rfl⟩
    obtain ⟨j, hj⟩ : ∃ j : Nat, j = p % 8 := ⟨_, rfl⟩
    obtain ⟨m2, hm2, hm8⟩ := u8_shl (show j < 8 by omega)
    have hi8 : i < 8 := by omega
    have hil : i < bn := by have := HBN.out; omega
    obtain ⟨x, hx, hcx, _⟩ := HO.out.rd.at_ i hil
    rw [Nat.zero_add] at hcx
    have fz := HO.out.thawed i
    have hx8 := x.toNat_lt
    obtain ⟨d, hd⟩ : ∃ d : UInt8, d.toNat = x.toNat ^^^ m2 := ⟨UInt8.ofNat (x.toNat ^^^ m2), by
      have : x.toNat ^^^ m2 < 2 ^ 8 := Nat.xor_lt_two_pow hx8 hm8
      rw [UInt8.toNat_ofNat']; omega⟩
    have e4 : bits .xor .u8 (x.toNat : Int) (m2 : Int) = (d.toNat : Int) := by rw [hd]; exact u8_xor_nat x.toNat m2 hx8 hm8
    have hdx : d ≠ x := fun h => by
      rw [h] at hd
      have h2 : x.toNat ^^^ (x.toNat ^^^ m2) = 0 := by rw [← hd, Nat.xor_self]
      rw [← Nat.xor_assoc, Nat.xor_self, Nat.zero_xor, hm2] at h2
      exact absurd h2 (Nat.ne_of_gt (Nat.two_pow_pos j))
    have hys : (sealB F).set i d ≠ sealB F := fun h => by
      have h3 : ((sealB F).set i d)[i]? = some d := by
        rw [List.getElem?_set_self (by have := (List.getElem?_eq_some_iff.1 hx).1; exact this)]
      rw [h, hx] at h3
      injection h3 with h3
      exact hdx h3.symm
    have hyd : ((sealB F).set i d).drop 8 = F := by
      rw [HS.out, set_ahead d (by rw [hpl]; exact hi8)]
      exact List.drop_left' (by rw [List.length_set]; exact hpl)
    obtain ⟨bb, nx, kd, kk, ho, hk0, hkk⟩ := openG_head hyd hys
    have hyl : ((sealB F).set i d).length = bn := by rw [List.length_set, HO.out.len]
    rw [hyl] at hkk
    have hoc := HO.out.cap
    have HRX : Hid (∀ z' : Int, z' = (d.toNat : Int) → Calls Try.prog 11 #[.slice (some ⟨gS, 0, none⟩) bn sc] ((w3.setCell ⟨gS, i, none⟩ (.int .u8 z')).drew) (fun e w' => e = .returned (.tuple #[.agg pkZL, .int .i64 kk]) ∧ Below w.heap.size w w')) := Lib.hid (fun z' hz' => by
      have o4 := HO.out.set_ i d z' hz'
      have bS : Below w.heap.size w ((w3.setCell ⟨gS, i, none⟩ (.int .u8 z')).drew) := (B3.out.setCell (p := ⟨gS, i, none⟩) (Nat.le_trans B2.out.size HG1.out) _).drew
      refine (readX_any (some ⟨gS, 0, none⟩) bn sc ((sealB F).set i d) bb nx kd kk o4.rd.drew hoc.1 (fun h => by cases h) (by omega) ho hkk).mono fun e w' h => ⟨h.1, belowT' bS h.2⟩)
    have k1 : (kk == 0) = false := by simpa using hk0
    have k2 : (kk != 0) = true := by simpa using hk0
    have e1 : (p : Int) / 8 = (i : Int) := by omega
    have e2 : (p : Int) % 8 = (j : Int) := by omega
    have e3 : (2 : Int) ^ j % 256 = (m2 : Int) := by
      have : (2 : Int) ^ j = (m2 : Int) := by rw [hm2]; exact (Int.natCast_pow 2 j).symm
      omega
    have y0 : (0 : Int) ≤ (i : Int) := by omega
    have y1 : (i : Int) < (bn : Int) := by omega
    clear hi hj hm2 hd hx hdx hys hyd ho hkk hyl hoc
    go_wp2_with fail
    go_region
    go_wp2_with fail
    with_reducible refine (HRX.out _ rfl).mono ?_
    rintro e w5 ⟨rfl, b5⟩
    have hst := run_scN (w := w5) (g := w5.heap.size) (cells := pkZL) rfl rfl pkZ_one
    obtain ⟨bX5, zX5, _⟩ := below_pk (w := w5) (g := w5.heap.size) (cells := pkZL) rfl
    obtain ⟨X5, hX5⟩ : ∃ X5, X5 = (w5.alloc (.cells #[.int .i64 0, .int .i64 0, .int .i64 0, .int .i64 0, .int .i64 0, .int .i64 0, .int .i64 0, .int .u64 0, .int .u64 0, .int .i64 0, .int .i64 0, .int .i64 0, .int .i64 0, .int .u64 0, .int .u64 0, .int .u64 0, .int .u64 0, .slice none 0 0, .bool false, .slice none 0 0, .int .i64 0, .int .i64 0, .int .u64 0, .slice none 0 0, .bool false, .int .u64 0, .slice none 0 0, .slice none 0 0, .slice none 0 0] 47)).setRow w5.heap.size pkZL := ⟨_, rfl⟩
    rw [← hX5] at hst bX5 zX5
    have x0 : X5.cell? ⟨w5.heap.size, 0, none⟩ = some (.int .i64 0) := zX5.cell 0
    have HB5 := Lib.hid (belowT' b5 bX5)
    clear b5 bX5 zX5 hX5
    go_wp2_with fail
    go_ret
    exact ⟨rfl, HB5.out⟩
  · obtain ⟨a1, rfl⟩ : ∃ a1 : Nat, z = ((a1 + 64 : Nat) : Int) := ⟨(z - 64).toNat, by omega⟩
    have ha : a1 + 32 ≤ 8 * fl := by have := HBN.out; omega
    obtain ⟨az, haz⟩ : ∃ az, az = a1 + 64 := ⟨_, rfl⟩
    rw [← haz] at hz0 hzb hz64 hz ⊢
    have HAZ := Lib.hid haz
    have o3 : Own 5 w3 w2.heap.size (some ⟨gS, 0, none⟩) bn sc (pre ++ F) := by rw [← HS.out]; exact HO.out
    have HO3 := Lib.hid o3
    have hz65 : ¬ (az : Int) < 64 := hz64
    clear o3 haz
    go_wp2_with fail
    go_loopw [11] (fun vk wr => ∃ (k : Nat) (ts : List UInt8), vk = .int .i64 (k : Int) ∧ k ≤ 32 ∧ ts.length = fl ∧ Own 5 wr w2.heap.size (some ⟨gS, 0, none⟩) bn sc (pre ++ ts) ∧ leB ts = leB F ^^^ (u % 2 ^ k) * 2 ^ a1 ∧ Below w2.heap.size w2 wr) (fun vk _ => 32 - (intOf vk).toNat)
    case atStart => exact ⟨0, F, rfl, by omega, HFL.out.symm, HO3.out, by rw [Nat.pow_zero, Nat.mod_one, Nat.zero_mul, Nat.xor_zero], B23.out⟩
    case round =>
      clear HO3
      obtain ⟨k, ts, rfl, hk, htl, oT, hle, hbr⟩ := hrel
      have Hle := Lib.hid hle
      have HTL := Lib.hid htl
      have HBR := Lib.hid hbr
      clear hle htl hbr
      by_cases hk32 : k < 32
      · cases hbit : u.testBit k
        · have hb := bit_off hu (by rw [hbit])
          have HSS : Hid (leB ts = leB F ^^^ (u % 2 ^ (k + 1)) * 2 ^ a1) := Lib.hid (by rw [Hle.out, burst_same hbit])
          have HT := Lib.hid oT
          clear oT hbit
          go_wp2_with fail
          go_roundw
          case rel => exact ⟨k + 1, ts, by go_num, by omega, HTL.out, HT.out, HSS.out, HBR.out⟩
          case measure => simp [intOf]; omega
        · have hb := bit_on hu (by rw [hbit])
          obtain ⟨p, hp⟩ : ∃ p : Nat, p = az + k := ⟨_, rfl⟩
          obtain ⟨i, hi⟩ : ∃ i : Nat, i = p / 8 := ⟨_, rfl⟩
          obtain ⟨j, hj⟩ : ∃ j : Nat, j = p % 8 := ⟨_, rfl⟩
          obtain ⟨qq, hqq⟩ : ∃ qq : Nat, i = qq + 8 := ⟨i - 8, by have := HAZ.out; omega⟩
          obtain ⟨m2, hm2, hm8⟩ := u8_shl (show j < 8 by omega)
          have hil : i < bn := by have := HAZ.out; have := HBN.out; omega
          have hqf : qq < fl := by have := HAZ.out; omega
          obtain ⟨x, hx, hcx, _⟩ := oT.rd.at_ i hil
          have hx2 : ts[qq]? = some x := by
            rw [List.getElem?_append_right (by have := HPL.out; omega), HPL.out, hqq, Nat.add_sub_cancel] at hx
            exact hx
          rw [Nat.zero_add] at hcx
          have fz := oT.thawed i
          have hx8 := x.toNat_lt
          obtain ⟨d, hd⟩ : ∃ d : UInt8, d.toNat = x.toNat ^^^ m2 := ⟨UInt8.ofNat (x.toNat ^^^ m2), by
            have : x.toNat ^^^ m2 < 2 ^ 8 := Nat.xor_lt_two_pow hx8 hm8
            rw [UInt8.toNat_ofNat']; omega⟩
          have e4 : bits .xor .u8 (x.toNat : Int) (m2 : Int) = (d.toNat : Int) := by rw [hd]; exact u8_xor_nat x.toNat m2 hx8 hm8
          have HSS : Hid (leB (ts.set qq d) = leB F ^^^ (u % 2 ^ (k + 1)) * 2 ^ a1) := Lib.hid (by
            rw [leB_set ts qq j x d hx2 (by rw [hd, hm2]) (by omega), Hle.out, burst_step hbit, Nat.xor_assoc, show 8 * qq + j = a1 + k by have := HAZ.out; omega])
          have HT : Hid (∀ z : Int, z = (d.toNat : Int) → Own 5 (wr.setCell ⟨gS, i, none⟩ (.int .u8 z)) w2.heap.size (some ⟨gS, 0, none⟩) bn sc (pre ++ ts.set qq d)) := Lib.hid (fun z hz => by
            have h := oT.set_ i d z hz
            rw [hqq, List.set_append_right _ _ (by have := HPL.out; omega), HPL.out, Nat.add_sub_cancel, ← hqq] at h
            exact h)
          have HTL2 : Hid ((ts.set qq d).length = fl) := Lib.hid (by rw [List.length_set]; exact HTL.out)
          have e0 : (az : Int) + (k : Int) = (p : Int) := by omega
          have e1 : (p : Int) / 8 = (i : Int) := by omega
          have e2 : (p : Int) % 8 = (j : Int) := by omega
          have e3 : (2 : Int) ^ j % 256 = (m2 : Int) := by
            have : (2 : Int) ^ j = (m2 : Int) := by rw [hm2]; exact (Int.natCast_pow 2 j).symm
            omega
          have y0 : (0 : Int) ≤ (i : Int) := by omega
          have y1 : (i : Int) < (bn : Int) := by omega
          have hpb : p < 8388672 := by omega
          have hgw : w2.heap.size ≤ gS := HG1.out
          have HP := Lib.hid hp
          clear hp hi hj hqq hm2 hd hx hx2 hbit oT
          go_wp2_with fail
          go_region
          go_wp2_with fail
          go_roundw
          case rel => exact ⟨k + 1, ts.set qq d, by go_num, by omega, HTL2.out, HT.out _ rfl, HSS.out, (HBR.out.setCell (p := ⟨gS, i, none⟩) hgw _).drew⟩
          case measure => simp [intOf]; omega
      · obtain rfl : k = 32 := by omega
        have hlt : ts.length = F.length := by rw [HTL.out, HFL.out]
        have hle : leB ts = leB F ^^^ u * 2 ^ a1 := by rw [Hle.out, Nat.mod_eq_of_lt (show u < 2 ^ 32 by omega)]
        have hne : crcB (fourB fl ++ ts) ≠ crcB (fourB fl ++ F) := crcB_after (regB_burst hlt (by have := HFL.out; omega) hu0 (by omega) hle)
        have hog := openG_bad (n := fl) (c := crcB (fourB fl ++ F)) (t := ts) HTL.out (by omega) (crcB_lt _) (fun h => hne h.symm)
        have hxs : pre ++ ts = fourB fl ++ (fourB (crcB (fourB fl ++ F)) ++ ts) := by rw [HPR.out, List.append_assoc]
        rw [← hxs] at hog
        have hoc := oT.cap
        have HDS := Lib.hid (readX_any (some ⟨gS, 0, none⟩) bn sc (pre ++ ts) [] 0 4 4 oT.rd hoc.1 (fun h => by cases h) (by omega) hog (.inl ⟨by decide, rfl⟩))
        have BR := Lib.hid (belowT' B2.out HBR.out)
        clear hlt hle hne hog hxs hoc oT
        go_wp2_with fail
        with_reducible refine HDS.out.mono ?_
        rintro e w5 ⟨rfl, b5⟩
        have hst := run_scN (w := w5) (g := w5.heap.size) (cells := pkZL) rfl rfl pkZ_one
        obtain ⟨bX5, zX5, _⟩ := below_pk (w := w5) (g := w5.heap.size) (cells := pkZL) rfl
        obtain ⟨X5, hX5⟩ : ∃ X5, X5 = (w5.alloc (.cells #[.int .i64 0, .int .i64 0, .int .i64 0, .int .i64 0, .int .i64 0, .int .i64 0, .int .i64 0, .int .u64 0, .int .u64 0, .int .i64 0, .int .i64 0, .int .i64 0, .int .i64 0, .int .u64 0, .int .u64 0, .int .u64 0, .int .u64 0, .slice none 0 0, .bool false, .slice none 0 0, .int .i64 0, .int .i64 0, .int .u64 0, .slice none 0 0, .bool false, .int .u64 0, .slice none 0 0, .slice none 0 0, .slice none 0 0] 47)).setRow w5.heap.size pkZL := ⟨_, rfl⟩
        rw [← hX5] at hst bX5 zX5
        have x0 : X5.cell? ⟨w5.heap.size, 0, none⟩ = some (.int .i64 0) := zX5.cell 0
        have HB5 := Lib.hid (belowT' (belowT' BR.out b5) bX5)
        clear b5 bX5 zX5 hX5
        go_wp2_with fail
        go_ret
        exact ⟨rfl, HB5.out⟩
theorem sessionBursts_row (i0 i1 i2 i3 i4 i5 i6 i7 : Int) (s q : Nat) (k f t : Int) (tm ix lt cm : Nat) (T : Option Addr) (tn tc : Nat) (ok : Bool) (re rs : Int) (rt : Nat) (P : Option Addr) (pn pc : Nat) (a b : Nat) (cmt : Bool) (ct : Nat) (W : Option Addr) (wn we : Nat) (R : Option Addr) (rn rc : Nat) (D : Option Addr) (dn dc : Nat)
    (ts : List Nat) (rr ds : List UInt8) (z u : Int) (w : World) (hT : RdV w T tn (ts.map fun (x : Nat) => Value.int .u64 (x : Int))) (htn : tn ≤ 1048576) (hR : Rd w R rn rr) (hrn : rn ≤ 1048576) (hW : RSt 3 w W wn) (hwn : wn ≤ 1048576) (hP : RSt 2 w P pn) (hpn : pn ≤ 1048576) (hD : Rd w D dn ds) (hdn : dn ≤ 1048576) (hs : s < B64) (hq : q < B64) (hz : (Lit.int .i64 z).wf = true) (hu : (Lit.int .u32 u).wf = true) :
    Calls Try.prog 4 #[.agg (fmC i0 i1 i2 i3 i4 i5 i6 i7 s q k f t tm ix lt cm T tn tc ok re rs rt P pn pc a b cmt ct W wn we R rn rc D dn dc), .int .i64 z, .int .u32 u] w (RetT w true) := by
  have h1 : -9223372036854775808 ≤ z ∧ z ≤ 9223372036854775807 := by simpa [Lit.wf, IntKind.min, IntKind.max, IntKind.signed, IntKind.bits] using hz
  have h2 : 0 ≤ u ∧ u ≤ 4294967295 := by simpa [Lit.wf, IntKind.min, IntKind.max, IntKind.signed, IntKind.bits] using hu
  obtain ⟨n, rfl⟩ : ∃ n : Nat, u = n := ⟨u.toNat, by omega⟩
  exact sessionBursts_nat i0 i1 i2 i3 i4 i5 i6 i7 s q k f t tm ix lt cm T tn tc ok re rs rt P pn pc a b cmt ct W wn we R rn rc D dn dc ts hT htn rr ds hR hrn hW hwn hP hpn hD hdn hs hq z h1 n (by omega)
end Go.Proofs.Ytgccbghaibddcaa
