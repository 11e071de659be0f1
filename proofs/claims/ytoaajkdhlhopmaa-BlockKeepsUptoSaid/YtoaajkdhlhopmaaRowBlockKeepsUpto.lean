/- P8.5: no call of block changes or keeps what it is handed, and all answers are memory of their own. -/
import Derived.Test.YtoaajkdhlhopmaaBkG
import Derived.Test.YtoaajkdhlhopmaaParts
import Derived.Deep.DeepCutAuto
import Derived.Deep.CutBlock
import Derived.Test.YtoaajkdhlhopmaaEnE
import Derived.Test.YtoaajkdhlhopmaaEnC
import Derived.Deep.RegionLaw
import Derived.Test.YtoaajkdhlhopmaaBkB
import Derived.Test.YtoaajkdhlhopmaaNext
import Derived.Test.YtoaajkdhlhopmaaEnD
import Derived.Deep.RegionHeld3
import Derived.Test.YtoaajkdhlhopmaaCrcW
import Derived.Laws.BitsLemmas
import Derived.Test.YtoaajkdhlhopmaaCl
import Derived.Test.YtoaajkdhlhopmaaFamD
import Derived.Test.YtoaajkdhlhopmaaCrcV
import Derived.Lib.SmallJoins
import Derived.Test.YtoaajkdhlhopmaaCrcX
import Derived.Laws.BytesArg
import Derived.Test.YtoaajkdhlhopmaaSrch
import Derived.Test.YtoaajkdhlhopmaaMathF
import Derived.Test.YtoaajkdhlhopmaaSpare
import Derived.Test.YtoaajkdhlhopmaaKept
import Derived.Test.YtoaajkdhlhopmaaRows
import Derived.Test.YtoaajkdhlhopmaaOpen
import Derived.ProofKit
import Derived.OpenShut
import Derived.ShutString
import Derived.ChangeOld
import Derived.SizedLaws
import Derived.JoinedCond
import Derived.Deep.CondSized
import Derived.Deep.Matrix
import Derived.Test.YtoaajkdhlhopmaaBulk
import Derived.Test.YtoaajkdhlhopmaaOpenE
namespace Go.Proofs.Ytoaajkdhlhopmaa
open Go Go.RowKit

/-- The next number, and where the reader is then. -/
def numR (xs : List UInt8) (s : Nat × Bool) : Nat × (Nat × Bool) :=
  if (getU xs (s.1 : Int)).2.2 = 0 then ((getU xs (s.1 : Int)).1, ((getU xs (s.1 : Int)).2.1.toNat, s.2)) else (0, (s.1, true))
/-- The next n bytes, and where the reader is then. -/
def takeR (xs : List UInt8) (n : Nat) (s : Nat × Bool) : List UInt8 × (Nat × Bool) :=
  if xs.length - s.1 < n then ([], (s.1, true)) else ((xs.drop s.1).take n, (s.1 + n, s.2))
theorem numR_le {xs : List UInt8} {s : Nat × Bool} (h : s.1 ≤ xs.length) : (numR xs s).2.1 ≤ xs.length ∧ (numR xs s).1 < B64 := by
  unfold numR
  split
  · rename_i e
    rcases hg : getU xs (s.1 : Int) with ⟨m, nx, e2⟩
    rw [hg] at e
    obtain ⟨k, rfl, h1, h2, h3⟩ := getU_err h hg e
    exact ⟨by simpa using h2, h3⟩
  · exact ⟨h, by unfold B64; omega⟩
theorem takeR_le {xs : List UInt8} {n : Nat} {s : Nat × Bool} (h : s.1 ≤ xs.length) : (takeR xs n s).2.1 ≤ xs.length ∧ (takeR xs n s).1.length ≤ n := by
  unfold takeR
  split
  · exact ⟨h, by simp⟩
  · simp only [List.length_take]
    exact ⟨by omega, by omega⟩
/-- 'The reader at p: these bytes, this place, bad or not.' -/
def Rdr (w : World) (p : Nat) (E : Option Addr) (en ec : Nat) (s : Nat × Bool) : Prop := Cl w p #[.slice E en ec, .int .i64 (s.1 : Int), .bool s.2] 129
def RetN (w : World) (p : Nat) (E : Option Addr) (en ec : Nat) (r : Nat × (Nat × Bool)) (e : Ending) (w' : World) : Prop :=
  e = .returned (.int .u64 (r.1 : Int)) ∧ Rdr w' p E en ec r.2 ∧ w.grownBy w' (some p)
theorem RetN.out {w : World} {p : Nat} {E : Option Addr} {en ec : Nat} {r : Nat × (Nat × Bool)} {e : Ending} {w' : World} (h : RetN w p E en ec r e w') : e = .returned (.int .u64 (r.1 : Int)) ∧ Rdr w' p E en ec r.2 ∧ w.grownBy w' (some p) := h
theorem grown_set1 (w : World) (p i : Nat) (v : Value) : w.grownBy (w.setCell ⟨p, i, none⟩ v) (some p) := by
  have h := (Below.refl p w).setCell (p := ⟨p, i, none⟩) (Nat.le_refl _) v
  refine ⟨h.os, h.tape, h.output, h.size, fun b _ hne => ?_⟩
  exact Below.heap_setCell w ⟨p, i, none⟩ v b (fun e => hne (by rw [e]))
theorem grown_drewN {w w' : World} {row : Option Nat} (h : w.grownBy w' row) (q : Nat) : w.grownBy (w'.drewN q) row := by
  obtain ⟨h1, h2, h3, h4, h5⟩ := h
  exact ⟨h1, h2, h3, h4, h5⟩
set_option maxRecDepth 100000 in
set_option maxHeartbeats 4000000 in
theorem number_any (w : World) (p : Nat) (E : Option Addr) (en ec : Nat) (xs : List UInt8) (a : Nat) (bd : Bool) (h : Rdr w p E en ec (a, bd)) (hr : Rd w E en xs) (ha : a ≤ en) (hn : en ≤ 1099511627776) (hc : en ≤ ec) :
    Calls Try.prog 116 #[.pointer (some ⟨p, 0, none⟩)] w (RetN w p E en ec (numR xs (a, bd))) := by
  have hcl : Cl w p #[.slice E en ec, .int .i64 (a : Int), .bool bd] 129 := h
  obtain ⟨c0, c1, c2, f0, f1, f2⟩ := hcl.c3
  rcases hg : getU xs (a : Int) with ⟨m, nx, ee⟩
  have HG : Hid (∀ wx q, wx = w.drewN q → Calls Try.prog 138 #[.slice E en ec, .int .i64 (a : Int)] wx (fun e w' => e = .returned (.tuple #[.int .u64 (m : Int), .int .i64 nx, .int .i64 ee]) ∧ w' = wx)) := Lib.hid (fun wx q hq => by
    subst hq
    have hG := GetU_any E en ec xs (a : Int) (w.drewN q) (hr.drewN q) (by omega) hc
    rw [hg] at hG
    exact hG.mono (fun e w' h => ⟨h.1, h.2.symm⟩))
  have HCL := Lib.hid hcl
  have hxl := hr.len
  by_cases he : ee = 0
  · obtain ⟨k, hk, h1, h2, h3⟩ := getU_err (by omega) hg he
    have hnum : numR xs (a, bd) = (m, (k, bd)) := by unfold numR; rw [hg, if_pos he, hk]; rfl
    subst he hk
    have HN := Lib.hid hnum
    clear h hr hg hcl hnum hxl
    go_enter Try.func116, Try.ntmps116
    go_wp2_with fail
    go_quiet ((go_at_call 138; exact Calls.quiet_of_same (HG.out _ _ rfl)))
    have hd := HCL.out.drewN nq
    obtain ⟨c0, c1, c2, f0, f1, f2⟩ := hd.c3
    have HD := Lib.hid (hd.set 1 (.int .i64 (k : Int)))
    have HGR := Lib.hid ((grown_drewN (World.grownBy.refl w (some p)) nq).trans (grown_set1 (w.drewN nq) p 1 (.int .i64 (k : Int))))
    clear hd
    go_wp2_with fail
    go_ret
    rw [HN.out]
    exact ⟨rfl, HD.out, HGR.out⟩
  · have hnum : numR xs (a, bd) = (0, (a, true)) := by unfold numR; rw [hg, if_neg he]
    have t1 : (ee == 0) = false := by simpa using he
    have HN := Lib.hid hnum
    clear h hr hg hcl hnum hxl
    go_enter Try.func116, Try.ntmps116
    go_wp2_with fail
    go_quiet ((go_at_call 138; exact Calls.quiet_of_same (HG.out _ _ rfl)))
    have hd := HCL.out.drewN nq
    obtain ⟨c0, c1, c2, f0, f1, f2⟩ := hd.c3
    have HD := Lib.hid (hd.set 2 (.bool true))
    have HGR := Lib.hid ((grown_drewN (World.grownBy.refl w (some p)) nq).trans (grown_set1 (w.drewN nq) p 2 (.bool true)))
    clear hd
    go_wp2_with fail
    go_ret
    rw [HN.out]
    exact ⟨rfl, HD.out, HGR.out⟩
/-- What take hands back: n bytes of what the reader reads, or none. -/
def RetT8 (w : World) (p : Nat) (E : Option Addr) (en ec : Nat) (xs : List UInt8) (r : List UInt8 × (Nat × Bool)) (e : Ending) (w' : World) : Prop :=
  ∃ B k d, e = .returned (.slice B k d) ∧ Rdr w' p E en ec r.2 ∧ w.grownBy w' (some p) ∧ k ≤ d ∧ (B = none → d = 0) ∧ r.1.length = k ∧ (∀ wx, Rd wx E en xs → Rd wx B k r.1) ∧ (blk B = none ∨ blk B = blk E)
set_option maxRecDepth 100000 in
set_option maxHeartbeats 4000000 in
theorem take_any (w : World) (p : Nat) (E : Option Addr) (en ec : Nat) (xs : List UInt8) (n a : Nat) (bd : Bool) (h : Rdr w p E en ec (a, bd)) (hl : xs.length = en) (ha : a ≤ en) (hn : en ≤ 1099511627776) (hc : en ≤ ec) (hnn : n < B64) (hnil : E = none → ec = 0) :
    Calls Try.prog 117 #[.pointer (some ⟨p, 0, none⟩), .int .u64 (n : Int)] w (RetT8 w p E en ec xs (takeR xs n (a, bd))) := by
  have hcl : Cl w p #[.slice E en ec, .int .i64 (a : Int), .bool bd] 129 := h
  obtain ⟨c0, c1, c2, f0, f1, f2⟩ := hcl.c3
  have HCL := Lib.hid hcl
  obtain ⟨z, hz⟩ : ∃ z, z = en - a := ⟨_, rfl⟩
  have e1 : IntKind.i64.wrap ((en : Int) - (a : Int)) = (z : Int) := by rw [IntWalk.i64_in _ (by omega)]; omega
  have e2 : IntKind.u64.wrap (z : Int) = (z : Int) := u64_nat z (by unfold B64; omega)
  unfold B64 at hnn
  have hz2 : z ≤ 1099511627776 := by omega
  by_cases hlt : z < n
  · have htk : takeR xs n (a, bd) = ([], (a, true)) := by unfold takeR; rw [if_pos (by simp only; omega)]
    have HT := Lib.hid htk
    clear h hcl htk hz
    go_enter Try.func117, Try.ntmps117
    go_wp2_with fail
    go_quiet (fail)
    have hd := HCL.out.drewN nq
    obtain ⟨c0, c1, c2, f0, f1, f2⟩ := hd.c3
    have HD := Lib.hid (hd.set 2 (.bool true))
    have HGR := Lib.hid ((grown_drewN (World.grownBy.refl w (some p)) nq).trans (grown_set1 (w.drewN nq) p 2 (.bool true)))
    clear hd
    go_wp2_with fail
    go_ret
    refine ⟨none, 0, 0, rfl, by rw [HT.out]; exact HD.out, HGR.out, Nat.le_refl _, fun _ => rfl, by rw [HT.out]; rfl, fun wx _ => by rw [HT.out]; exact Rd.nil _ _, .inl rfl⟩
  · obtain ⟨y, hy⟩ : ∃ y, y = a + n := ⟨_, rfl⟩
    have hye : y ≤ en := by omega
    have hay : a ≤ y := by omega
    have htk : takeR xs n (a, bd) = ((xs.drop a).take n, (y, bd)) := by unfold takeR; rw [if_neg (by simp only; omega), hy]
    have e3 : IntKind.i64.wrap (n : Int) = (n : Int) := IntWalk.i64_in _ (by omega)
    have e4 : IntKind.i64.wrap ((a : Int) + (n : Int)) = (y : Int) := by rw [IntWalk.i64_in _ (by omega)]; omega
    have hyn : y - a = n := by omega
    have hsl : ∀ W : World, (Instr.slice 22 (.slice E en ec) (some (.int .i64 (a : Int))) (some (.int .i64 (y : Int))) none).run Try.prog W = .ok (.slice (cutA E a ec) n (ec - a)) W := fun W => by
      have := cut_lh Try.underlying22 elem_bytes size_u8 E (n := en) (cap := ec) hay (by omega) W
      rw [hyn] at this
      exact this
    have hrd : ∀ wx, Rd wx E en xs → Rd wx (cutA E a ec) n ((xs.drop a).take n) := fun wx hw => by
      have := hw.cut hay hye hc
      rw [hyn, List.drop_take, hyn] at this
      exact this
    have hlen : ((xs.drop a).take n).length = n := by rw [List.length_take, List.length_drop]; omega
    have hcn : cutA E a ec = none → ec - a = 0 := fun hh => by
      unfold cutA at hh
      split at hh
      · omega
      · cases E with
        | none => have := hnil rfl; omega
        | some _ => cases hh
    have hblk : blk (cutA E a ec) = none ∨ blk (cutA E a ec) = blk E := by
      right
      unfold cutA
      split
      · rfl
      · cases E with
        | none => rfl
        | some ad =>
          simp only [Option.map_some, blk, Addr.add]
          split <;> rfl
    have hnd : n ≤ ec - a := by omega
    have HT := Lib.hid htk
    have HR := Lib.hid hrd
    have HLN := Lib.hid hlen
    have HCN := Lib.hid hcn
    have HBK := Lib.hid hblk
    have HDD := Lib.hid hnd
    clear h hcl htk hz hy hrd hlen hcn hblk hyn hnd
    go_enter Try.func117, Try.ntmps117
    go_wp2_with fail
    go_quiet (fail)
    have hd := HCL.out.drewN nq
    obtain ⟨c0, c1, c2, f0, f1, f2⟩ := hd.c3
    have hd2 := hd.set 1 (.int .i64 (y : Int))
    obtain ⟨W2, hW2⟩ : ∃ W2, W2 = (w.drewN nq).setCell ⟨p, 1, none⟩ (.int .i64 (y : Int)) := ⟨_, rfl⟩
    rw [← hW2] at hd2
    have hd3 : Cl W2 p #[.slice E en ec, .int .i64 (y : Int), .bool bd] 129 := hd2
    have HGR : Hid (w.grownBy W2 (some p)) := Lib.hid (by
      rw [hW2]
      exact (grown_drewN (World.grownBy.refl w (some p)) nq).trans (grown_set1 (w.drewN nq) p 1 (.int .i64 (y : Int))))
    have HW2 := Lib.hid hW2
    have HD := Lib.hid hd3
    clear hd hd2 hd3 hW2
    go_upto_region 6 with (fail)
    rw [← HW2.out]
    clear c0 c1 c2 f0 f1 f2
    obtain ⟨c0, c1, c2, f0, f1, f2⟩ := HD.out.c3
    go_quiet (fail)
    go_wp2_with fail
    go_ret
    exact ⟨cutA E a ec, n, ec - a, rfl, by rw [HT.out]; exact HD.out.drewN _, grown_drewN HGR.out _, HDD.out, HCN.out, by rw [HT.out]; exact HLN.out, fun wx hw => by rw [HT.out]; exact HR.out wx hw, HBK.out⟩
end Go.Proofs.Ytoaajkdhlhopmaa
namespace Go.Proofs.Ytoaajkdhlhopmaa
open Go Go.RowKit

/-- Where an entry goes in, from the end. -/
def posI (es : List En) (e : En) : Nat → Nat
  | 0 => 0
  | k + 1 => match es[k]? with
    | some x => if lessE e x then posI es e k else k + 1
    | none => k + 1
theorem posI_le (es : List En) (e : En) : ∀ k, posI es e k ≤ k
  | 0 => Nat.le_refl _
  | k + 1 => by
    unfold posI
    split
    · split
      · exact Nat.le_succ_of_le (posI_le es e k)
      · exact Nat.le_refl _
    · exact Nat.le_refl _
theorem posI_at {es : List En} {e x : En} {k : Nat} (h0 : 0 < k) (hx : es[k - 1]? = some x) : posI es e k = if lessE e x then posI es e (k - 1) else k := by
  obtain ⟨j, rfl⟩ : ∃ j, k = j + 1 := ⟨k - 1, by omega⟩
  rw [Nat.add_sub_cancel] at hx ⊢
  rw [posI, hx]
def cutA4 (A : Option Addr) (k cap : Nat) : Option Addr := if cap = k then A else A.map (·.add (k * 4))
theorem cut4_l {P : Program} {t e : TypeId} (ht : P.underlying t = some (.slice e)) (he : P.elem t = e) (hs : ∀ w, (sizeOf e).run P w = .ok 4 w)
    (A : Option Addr) {n cap k : Nat} (hk : k ≤ n) (w : World) :
    (Instr.slice t (.slice A n cap) (some (.int .i64 (k : Int))) none none).run P w = .ok (.slice (cutA4 A k cap) (n - k) (cap - k)) w := by
  subst he
  rw [run_slice_l w t A n cap ht .i64 (k : Int) (by omega) (by omega)]
  simp only [hs, Result.andThen, sliced, Int.toNat_natCast, cutA4]
theorem rdv_cut4 {w : World} {A : Option Addr} {n k m cap : Nat} {vs : List Value} (h : RdV w A (n * 4) vs) (hk : k ≤ m) (hm : m ≤ n) (hc : n ≤ cap) : RdV w (cutA4 A k cap) ((m - k) * 4) ((vs.take (m * 4)).drop (k * 4)) := by
  unfold cutA4
  refine ⟨by rw [List.length_drop, List.length_take, h.1]; omega, fun hn => ?_⟩
  obtain ⟨b, off, rfl, hb, hcell⟩ := h.2 (by omega)
  rw [if_neg (by omega)]
  refine ⟨b, off + k * 4, ?_, hb, fun i x hx => ?_⟩
  · simp only [Option.map_some, Addr.add]
    split
    · next h0 => rw [h0]; rfl
    · rfl
  · rw [Nat.add_assoc]
    refine hcell (k * 4 + i) x ?_
    rw [List.getElem?_drop, List.getElem?_take] at hx
    split at hx
    · exact hx
    · cases hx
theorem REs.takeV {w : World} {A : Option Addr} {n m : Nat} {es : List En} (h : REs w A n es) (hm : m ≤ n) : ∃ us, EVs w (es.take m) us ∧ RdV w A (m * 4) us := by
  obtain ⟨h1, vs, h2, h3⟩ := h
  refine ⟨_, h2.take m, ?_⟩
  refine ⟨by rw [List.length_take, h3.1]; omega, fun hn => ?_⟩
  obtain ⟨b, off, rfl, hb, hc⟩ := h3.2 (by omega)
  refine ⟨b, off, rfl, hb, fun i x hx => hc i x ?_⟩
  rw [List.getElem?_take] at hx
  split at hx
  · exact hx
  · cases hx
theorem REs.dropV {w : World} {A : Option Addr} {n k cap : Nat} {es : List En} (h : REs w A n es) (hk : k ≤ n) (hc : n ≤ cap) : ∃ us, EVs w (es.drop k) us ∧ RdV w (cutA4 A k cap) ((n - k) * 4) us := by
  obtain ⟨h1, vs, h2, h3⟩ := h
  refine ⟨_, h2.drop k, ?_⟩
  have := rdv_cut4 h3 hk (Nat.le_refl _) hc
  rw [List.take_of_length_le (by rw [h3.1]; omega)] at this
  exact this
theorem OwnE.mono {w : World} {base base' n c : Nat} {A : Option Addr} {vs : List Value} (h : OwnE w base A n c vs) (hb : base' ≤ base) : OwnE w base' A n c vs := by
  refine ⟨h.1, ?_⟩
  rcases h.2 with h1 | ⟨g, cap, cur, h1, h2, h3⟩
  · exact .inl h1
  · exact .inr ⟨g, cap, cur, h1, Nat.le_trans hb h2, h3⟩
theorem rdv_of_cl {w : World} {g : Nat} {v0 v1 v2 v3 : Value} {t : TypeId} (h : Cl w g #[v0, v1, v2, v3] t) : RdV w (some ⟨g, 0, none⟩) (1 * 4) [v0, v1, v2, v3] :=
  ⟨rfl, fun _ => ⟨g, 0, rfl, h.lt, fun i x hx => by rw [Nat.zero_add, h.cell i]; simpa using hx⟩⟩
def insL (es : List En) (e : En) : List En := es.take (posI es e es.length) ++ e :: es.drop (posI es e es.length)
theorem rdv_take4 {w : World} {A : Option Addr} {n m : Nat} {vs : List Value} (h : RdV w A (n * 4) vs) (hm : m ≤ n) : RdV w A (m * 4) (vs.take (m * 4)) := by
  refine ⟨by rw [List.length_take, h.1]; omega, fun hn => ?_⟩
  obtain ⟨b, off, rfl, hb, hc⟩ := h.2 (by omega)
  refine ⟨b, off, rfl, hb, fun i x hx => hc i x ?_⟩
  rw [List.getElem?_take] at hx
  split at hx
  · exact hx
  · cases hx
/-- What an insertion comes to: a row of the call's own, with the values that were handed in. -/
def RetIns (w : World) (n : Nat) (es : List En) (us : List Value) (e : Ending) (w' : World) : Prop :=
  ∃ L d vs, e = .returned (.slice L n d) ∧ OwnE w' w.heap.size L n d vs ∧ EVs w' es vs ∧ Below w.heap.size w w' ∧ ∀ u ∈ vs, u ∈ us
theorem RetIns.out {w : World} {n : Nat} {es : List En} {us : List Value} {e : Ending} {w' : World} (h : RetIns w n es us e w') : ∃ L d vs, e = .returned (.slice L n d) ∧ OwnE w' w.heap.size L n d vs ∧ EVs w' es vs ∧ Below w.heap.size w w' ∧ ∀ u ∈ vs, u ∈ us := h
set_option maxRecDepth 100000 in
set_option maxHeartbeats 8000000 in
theorem Insert_any {w : World} {A : Option Addr} {n c : Nat} {es : List En} {e : En} {ovs : List Value} {v0 v1 v2 v3 : Value} (hv : EVs w es ovs) (hd : RdV w A (n * 4) ovs) (hl : es.length = n) (hc : n ≤ c) (hn : n ≤ 1099511627776) (hs : ∀ x ∈ es, SzE x) (he : EV w e v0 v1 v2 v3) (se : SzE e) :
    Calls Try.prog 68 #[.slice A n c, .agg #[v0, v1, v2, v3]] w (RetIns w (n + 1) (insL es e) ([v0, v1, v2, v3] ++ ovs)) := by
  have h : REs w A n es := REs.mk hv hd hl
  obtain ⟨K, kn, kc, V, vn, vc, rfl, rfl, rfl, rfl, _⟩ := he.parts
  obtain ⟨U, hU⟩ : ∃ U, U = w.alloc (.cells #[.slice K kn kc, .int .u64 (e.seq : Int), .int .u8 (e.kind : Int), .slice V vn vc] 33) := ⟨_, rfl⟩
  have bU : Below w.heap.size w U := by rw [hU]; exact (Below.refl _ _).alloc (Nat.le_refl _) _
  have XU := Lib.hid (show Cl U w.heap.size #[.slice K kn kc, .int .u64 (e.seq : Int), .int .u8 (e.kind : Int), .slice V vn vc] 33 by rw [hU]; exact Cl.new _ _ _)
  have HE := Lib.hid (he.below bU)
  have H1 := Lib.hid (h.below bU)
  have HV := Lib.hid (hv.below bU)
  have HD := Lib.hid (hd.below bU)
  have HLN := Lib.hid h.len
  have HS := Lib.hid hs
  have BU := Lib.hid bU
  clear h hs he bU hv hd hl
  go_enter Try.func68, Try.ntmps68
  go_upto_region 1 with (fail)
  rw [← hU]
  clear hU
  go_wp2_with fail
  go_loopw [5] (fun s5 wr => ∃ k : Nat, k ≤ n ∧ s5 = .int .i64 (k : Int) ∧ posI es e k = posI es e n ∧ Below U.heap.size U wr) (fun s _ => (intOf s).toNat)
  case atStart => exact ⟨n, Nat.le_refl _, rfl, rfl, Below.refl _ _⟩
  case round =>
    obtain ⟨k, hk, rfl, hp, hB⟩ := hrel
    have HB := Lib.hid hB
    have HP := Lib.hid hp
    have XR := Lib.hid (XU.out.below hB)
    have HER := Lib.hid (HE.out.below hB)
    have hR := H1.out.below hB
    clear hB hp
    go_upto_region 2 with (fail)
    go_cut [19] from 9 to 21 (fun s19 wx => ∃ z, s19 = .bool z ∧ Below wr.heap.size wr wx ∧ (z = true → 0 < k ∧ posI es e k = posI es e (k - 1)) ∧ (z = false → posI es e k = k))
    case first =>
      by_cases h0 : 0 < k
      · obtain ⟨b, off, hAb, hbl⟩ := hR.pos (by omega)
        subst hAb
        obtain ⟨x, u0, u1, u2, u3, hx, c0, c1, c2, c3, hev⟩ := hR.at_ (k - 1) (by omega)
        have hsx := HS.out x (List.mem_of_getElem? hx)
        have HL : Hid (∀ wx, Below wr.heap.size wr wx → Calls Try.prog 65 #[.agg #[.slice K kn kc, .int .u64 (e.seq : Int), .int .u8 (e.kind : Int), .slice V vn vc], .agg #[u0, u1, u2, u3]] wx (RetT wx (lessE e x))) := Lib.hid (fun wx hb => refLess_any (HER.out.below hb) (hev.below hb) se hsx)
        have HSX : Hid (∀ wx, Below wr.heap.size wr wx → wx.cell? ⟨b, off + (k - 1) * 4, none⟩ = some u0 ∧ wx.cell? ⟨b, off + (k - 1) * 4 + 1, none⟩ = some u1 ∧ wx.cell? ⟨b, off + (k - 1) * 4 + 2, none⟩ = some u2 ∧ wx.cell? ⟨b, off + (k - 1) * 4 + 3, none⟩ = some u3 ∧ wx.cell? ⟨w.heap.size, 0, none⟩ = some (.slice K kn kc) ∧ wx.cell? ⟨w.heap.size, 1, none⟩ = some (.int .u64 (e.seq : Int)) ∧ wx.cell? ⟨w.heap.size, 2, none⟩ = some (.int .u8 (e.kind : Int)) ∧ wx.cell? ⟨w.heap.size, 3, none⟩ = some (.slice V vn vc)) := Lib.hid (fun wx h => by
          obtain ⟨d0, d1, d2, d3, _⟩ := (XR.out.below h).c4
          exact ⟨(h.cell hbl).trans c0, (h.cell hbl).trans c1, (h.cell hbl).trans c2, (h.cell hbl).trans c3, d0, d1, d2, d3⟩)
        have hB0 : Below wr.heap.size wr wr.drew := (Below.refl _ _).drew
        have hk1 : IntKind.i64.wrap ((k : Int) - 1) = ((k - 1 : Nat) : Int) := by rw [IntWalk.i64_in _ (by omega)]; omega
        have hk2 : k - 1 < n := by omega
        obtain ⟨d0, d1, d2, d3, _⟩ := XR.out.c4
        have HXK := Lib.hid hx
        clear hR hx hev
        go_region_law (first | (go_simp; go_at_call 65; with_reducible refine (HL.out _ (by assumption)).mono ?_; intro e1 wn hq; obtain ⟨h1, bn⟩ := RetT.outD hq; subst h1; have bn' := belowT' (by assumption : Below wr.heap.size wr _) bn; obtain ⟨p0, p1, p2, p3, p4, p5, p6, p7⟩ := HSX.out _ bn'))
        all_goals
          have hpz : posI es e k = if lessE e x then posI es e (k - 1) else k := posI_at h0 HXK.out
          have hf : (∃ z, Value.bool (lessE e x) = .bool z ∧ (z = true → 0 < k ∧ posI es e k = posI es e (k - 1)) ∧ (z = false → posI es e k = k)) := ⟨_, rfl, fun h => ⟨h0, by rw [hpz, if_pos h]⟩, fun h => by rw [hpz, h]; rfl⟩
          have HFF := Lib.hid hf
          clear hpz hf
          go_wp2_with fail
          go_meet
          obtain ⟨z, q1, q2, q3⟩ := HFF.out
          exact ⟨z, q1, by assumption, q2, q3⟩
      · have hk0 : k = 0 := by omega
        subst hk0
        clear hR h0
        go_quiet (fail)
        go_wp2
        go_meet
        exact ⟨false, rfl, below_drewN (Below.refl _ _) nq, (fun h => by cases h), fun _ => rfl⟩
    case rest =>
      obtain ⟨z, rfl, hbc, hz1, hz2⟩ := hcut
      have BC := Lib.hid (HB.out.trans (hbc.mono HB.out.size))
      cases z with
      | true =>
        obtain ⟨h0, hp⟩ := hz1 rfl
        have hk1 : IntKind.i64.wrap ((k : Int) - 1) = ((k - 1 : Nat) : Int) := by rw [IntWalk.i64_in _ (by omega)]; omega
        have HPP := Lib.hid hp
        clear hz1 hz2 hbc hp hR
        go_wp2_with fail
        go_roundw
        case rel => exact ⟨k - 1, by omega, by go_num, by rw [← HPP.out]; exact HP.out, BC.out⟩
        case measure => simp [intOf]; omega
      | false =>
        have hkp : k = posI es e es.length := by rw [HLN.out, ← HP.out]; exact (hz2 rfl).symm
        have HKP := Lib.hid hkp
        have sc := BC.out.size
        have hEV := HV.out.below BC.out
        have hDV := HD.out.below BC.out
        obtain ⟨us1, hu1⟩ : ∃ us1, us1 = ovs.take (k * 4) := ⟨_, rfl⟩
        obtain ⟨us2, hu2⟩ : ∃ us2, us2 = ovs.drop (k * 4) := ⟨_, rfl⟩
        have q1 : EVs wc (es.take k) us1 := by rw [hu1]; exact hEV.take k
        have q2 : RdV wc A (k * 4) us1 := by rw [hu1]; exact rdv_take4 hDV hk
        have q3 : EVs wc (es.drop k) us2 := by rw [hu2]; exact hEV.drop k
        have q4 : RdV wc (cutA4 A k c) ((n - k) * 4) us2 := by
          have := rdv_cut4 hDV hk (Nat.le_refl _) hc
          rw [List.take_of_length_le (by rw [hDV.1]; omega)] at this
          rw [hu2]; exact this
        have HMEM : Hid (∀ u, u ∈ us1 ∨ u ∈ us2 → u ∈ ovs) := Lib.hid (fun u h => by
          rcases h with h | h
          · rw [hu1] at h; exact List.mem_of_mem_take h
          · rw [hu2] at h; exact List.mem_of_mem_drop h)
        have Q1 := Lib.hid q1
        have Q2 := Lib.hid q2
        have Q3 := Lib.hid q3
        have Q4 := Lib.hid q4
        have HEC := Lib.hid (HER.out.below hbc)
        have XC := Lib.hid (XR.out.below hbc)
        have hcl : ∀ w, (Instr.slice 25 (.slice A n c) none (some (.int .i64 (k : Int))) none).run Try.prog w = .ok (.slice A k c) w := fun w => cut4_h Try.underlying25 elem4 size4 A (by omega) w
        have hcr : ∀ w, (Instr.slice 25 (.slice A n c) (some (.int .i64 (k : Int))) none none).run Try.prog w = .ok (.slice (cutA4 A k c) (n - k) (c - k)) w := fun w => cut4_l Try.underlying25 elem4 size4 A hk w
        clear hz1 hz2 hbc hkp hEV hDV q1 q2 q3 q4 hR hu1 hu2
        have b0 : Below wc.heap.size wc (wc.alloc (.cells #[] 33)) := (Below.refl _ _).alloc (Nat.le_refl _) _
        have r1 := Lib.hid (Q2.out.below b0)
        have o0 := Lib.hid (OwnE.zero wc)
        have B0 := Lib.hid b0
        clear b0
        go_wp2_with (at_builtin; refine wpList_app4 (wc.alloc (.cells #[] 33)) rfl _ _ 25 rfl wc.heap.size _ 64 Try.underlying25 info_ent rfl (some ⟨wc.heap.size, 0, none⟩) 0 0 [] rfl o0.out A k c us1 rfl r1.out Q1.out.cells ?_ ?_ ?_ ?_)
        · omega
        · omega
        · simp
        intro A1 c1 w1 o1 _ b1
        have O1 := Lib.hid o1
        have B1 := Lib.hid (B0.out.trans b1)
        have s1 := B1.out.size
        have X1 := Lib.hid (XC.out.base B1.out XC.out.lt)
        obtain ⟨d0, d1, d2, d3, _⟩ := X1.out.c4
        have bl : Below w1.heap.size w1 (w1.alloc (.cells #[.slice K kn kc, .int .u64 (e.seq : Int), .int .u8 (e.kind : Int), .slice V vn vc] 33)) := (Below.refl _ _).alloc (Nat.le_refl _) _
        have O1' := Lib.hid (O1.out.below bl)
        have r2 := Lib.hid (rdv_of_cl (Cl.new w1 #[.slice K kn kc, .int .u64 (e.seq : Int), .int .u8 (e.kind : Int), .slice V vn vc] 33))
        have BL := Lib.hid bl
        clear o1 b1 hcl bl
        go_wp2_with (at_builtin; refine wpList_app4 (w1.alloc (.cells #[.slice K kn kc, .int .u64 (e.seq : Int), .int .u8 (e.kind : Int), .slice V vn vc] 33)) rfl _ _ 25 rfl wc.heap.size _ 64 Try.underlying25 info_ent rfl A1 k c1 us1 rfl O1'.out (some ⟨w1.heap.size, 0, none⟩) 1 1 [.slice K kn kc, .int .u64 (e.seq : Int), .int .u8 (e.kind : Int), .slice V vn vc] rfl r2.out HEC.out.cells ?_ ?_ ?_ ?_)
        · omega
        · omega
        · simp; omega
        intro A2 c2 w2 o2 _ b2
        have O2 := Lib.hid o2
        have B2 := Lib.hid ((B1.out.trans (BL.out.mono s1)).trans b2)
        have s2 := B2.out.size
        have r3 := Lib.hid (Q4.out.below B2.out)
        clear o2 b2 d0 d1 d2 d3
        go_wp2_with (at_builtin; refine wpList_app4 w2 rfl _ _ 25 rfl wc.heap.size _ 64 Try.underlying25 info_ent rfl A2 (k + 1) c2 (us1 ++ [.slice K kn kc, .int .u64 (e.seq : Int), .int .u8 (e.kind : Int), .slice V vn vc]) rfl O2.out (cutA4 A k c) (n - k) (c - k) us2 rfl r3.out Q3.out.cells ?_ ?_ ?_ ?_)
        · omega
        · omega
        · omega
        intro A3 c3 w3 o3 _ b3
        have hkn : k + 1 + (n - k) = n + 1 := by omega
        rw [hkn] at o3
        have B3 := B2.out.trans b3
        have hev : EVs w3 (insL es e) (us1 ++ Value.slice K kn kc :: Value.int .u64 (e.seq : Int) :: Value.int .u8 (e.kind : Int) :: Value.slice V vn vc :: us2) := by
          have := ((Q1.out.app (EVs.one HEC.out)).app Q3.out).below B3
          rw [insL, ← HKP.out]
          simpa using this
        have HFIN : Hid (RetIns w (n + 1) (insL es e) ([.slice K kn kc, .int .u64 (e.seq : Int), .int .u8 (e.kind : Int), .slice V vn vc] ++ ovs) (.returned (.slice A3 (n + 1) c3)) w3) := Lib.hid ⟨A3, c3, _, rfl, OwnE.mono o3 (by have := BU.out.size; omega), hev, belowT' (BU.out.trans (BC.out.mono (by have := BU.out.size; omega))) B3, fun u hu => by
          have hm := HMEM.out u
          simp only [List.cons_append, List.nil_append, List.mem_append, List.mem_cons] at hu ⊢
          rcases hu with h | h | h | h | h | h
          · exact .inr (.inr (.inr (.inr (hm (.inl h)))))
          · exact .inl h
          · exact .inr (.inl h)
          · exact .inr (.inr (.inl h))
          · exact .inr (.inr (.inr (.inl h)))
          · exact .inr (.inr (.inr (.inr (hm (.inr h)))))⟩
        clear o3 b3 B3 hev hcr
        rw [hkn]
        go_wp2
        go_ret
        exact HFIN.out
end Go.Proofs.Ytoaajkdhlhopmaa
namespace Go.Proofs.Ytoaajkdhlhopmaa
open Go Go.RowKit

theorem cmpB_refl : ∀ xs : List UInt8, cmpB xs xs = 0
  | [] => rfl
  | x :: xs => by rw [cmpB_same, cmpB_refl xs]
theorem cmpB_trans : ∀ {xs ys zs : List UInt8}, cmpB xs ys < 0 → cmpB ys zs < 0 → cmpB xs zs < 0
  | [], [], _, h, _ => by simp [cmpB] at h
  | _ :: _, [], _, h, _ => by simp [cmpB] at h
  | [], _ :: _, [], _, h => by simp [cmpB] at h
  | [], _ :: _, _ :: _, _, _ => by simp [cmpB]
  | _ :: _, _ :: _, [], _, h => by simp [cmpB] at h
  | x :: xs, y :: ys, z :: zs, h, k => by
    rcases Nat.lt_trichotomy x.toNat y.toNat with q | q | q
    · rcases Nat.lt_trichotomy y.toNat z.toNat with r | r | r
      · rw [cmpB_lt _ _ (by omega)]; decide
      · rw [cmpB_lt _ _ (by omega)]; decide
      · rw [cmpB_gt _ _ r] at k; simp at k
    · rw [cmpB_eq _ _ q] at h
      rcases Nat.lt_trichotomy y.toNat z.toNat with r | r | r
      · rw [cmpB_lt _ _ (by omega)]; decide
      · rw [cmpB_eq _ _ r] at k
        rw [cmpB_eq _ _ (by omega)]
        exact cmpB_trans h k
      · rw [cmpB_gt _ _ r] at k; simp at k
    · rw [cmpB_gt _ _ q] at h; simp at h
theorem lessE_iff {a b : En} : lessE a b = true ↔ cmpB a.key b.key < 0 ∨ (a.key = b.key ∧ b.seq < a.seq) := by
  unfold lessE
  simp only [Bool.or_eq_true, Bool.and_eq_true, decide_eq_true_eq]
  constructor
  · rintro (h | ⟨h, k⟩)
    · exact .inl h
    · exact .inr ⟨cmpB_zero _ _ h, k⟩
  · rintro (h | ⟨h, k⟩)
    · exact .inl h
    · exact .inr ⟨by rw [h, cmpB_refl], k⟩
theorem sameK_iff {a b : En} : sameK a b = true ↔ a.key = b.key ∧ a.seq = b.seq := by
  unfold sameK eqB
  simp
theorem lessE_trans {a b c : En} (h : lessE a b = true) (k : lessE b c = true) : lessE a c = true := by
  rw [lessE_iff] at h k ⊢
  rcases h with h | ⟨h, h'⟩ <;> rcases k with k | ⟨k, k'⟩
  · exact .inl (cmpB_trans h k)
  · exact .inl (by rw [← k]; exact h)
  · exact .inl (by rw [h]; exact k)
  · exact .inr ⟨h.trans k, by omega⟩
theorem lessE_irr (a : En) : lessE a a = false := by
  cases h : lessE a a with
  | false => rfl
  | true =>
    rcases lessE_iff.1 h with h | ⟨_, h⟩
    · rw [cmpB_refl] at h; simp at h
    · omega
theorem lessE_asym {a b : En} (h : lessE a b = true) : lessE b a = false := by
  cases k : lessE b a with
  | false => rfl
  | true => have := lessE_trans h k; rw [lessE_irr] at this; cases this
theorem lessE_tri (a b : En) : lessE a b = true ∨ lessE b a = true ∨ sameK a b = true := by
  rcases Int.lt_trichotomy (cmpB a.key b.key) 0 with h | h | h
  · exact .inl (lessE_iff.2 (.inl h))
  · have hk := cmpB_zero _ _ h
    rcases Nat.lt_trichotomy a.seq b.seq with q | q | q
    · exact .inr (.inl (lessE_iff.2 (.inr ⟨hk.symm, q⟩)))
    · exact .inr (.inr (sameK_iff.2 ⟨hk, q⟩))
    · exact .inl (lessE_iff.2 (.inr ⟨hk, q⟩))
  · exact .inr (.inl (lessE_iff.2 (.inl (by rw [cmpB_swap]; omega))))
theorem sameK_not {a b : En} (h : sameK a b = true) : lessE a b = false ∧ lessE b a = false := by
  obtain ⟨h1, h2⟩ := sameK_iff.1 h
  have key : ∀ {x y : En}, x.key = y.key → x.seq = y.seq → lessE x y = false := fun {x y} e1 e2 => by
    cases k : lessE x y with
    | false => rfl
    | true =>
      rcases lessE_iff.1 k with q | ⟨_, q⟩
      · rw [e1, cmpB_refl] at q; simp at q
      · omega
  exact ⟨key h1 h2, key h1.symm h2.symm⟩
end Go.Proofs.Ytoaajkdhlhopmaa
namespace Go.Proofs.Ytoaajkdhlhopmaa
open Go Go.RowKit

/-- How many first bytes both have alike. -/
def comB : List UInt8 → List UInt8 → Nat
  | x :: xs, y :: ys => if x = y then comB xs ys + 1 else 0
  | _, _ => 0
theorem comB_le : ∀ (xs ys : List UInt8), comB xs ys ≤ xs.length ∧ comB xs ys ≤ ys.length
  | [], _ => by simp [comB]
  | _ :: _, [] => by simp [comB]
  | x :: xs, y :: ys => by
    have := comB_le xs ys
    unfold comB
    split
    · simp only [List.length_cons]; omega
    · simp
theorem comB_lt : ∀ {xs ys : List UInt8} {i : Nat}, i < comB xs ys → ∃ b, xs[i]? = some b ∧ ys[i]? = some b
  | [], _, _, h => by simp [comB] at h
  | _ :: _, [], _, h => by simp [comB] at h
  | x :: xs, y :: ys, i, h => by
    unfold comB at h
    split at h
    · rename_i e
      subst e
      cases i with
      | zero => exact ⟨x, rfl, rfl⟩
      | succ j =>
        have := comB_lt (xs := xs) (ys := ys) (i := j) (by omega)
        simpa using this
    · omega
theorem comB_at : ∀ {xs ys : List UInt8} {i : Nat}, i = comB xs ys → i = xs.length ∨ i = ys.length ∨ ∃ a b, xs[i]? = some a ∧ ys[i]? = some b ∧ a ≠ b
  | [], _, _, h => .inl (by simpa [comB] using h)
  | _ :: _, [], _, h => .inr (.inl (by simpa [comB] using h))
  | x :: xs, y :: ys, i, h => by
    unfold comB at h
    split at h
    · rename_i e
      subst e
      obtain ⟨j, rfl⟩ : ∃ j, i = j + 1 := ⟨comB xs ys, h⟩
      rcases comB_at (xs := xs) (ys := ys) (i := j) (by omega) with h1 | h1 | ⟨a, b, h1, h2, h3⟩
      · exact .inl (by simp [h1])
      · exact .inr (.inl (by simp [h1]))
      · exact .inr (.inr ⟨a, b, by simpa using h1, by simpa using h2, h3⟩)
    · subst h
      exact .inr (.inr ⟨x, y, rfl, rfl, by assumption⟩)
def RetCo (w : World) (z : Nat) (e : Ending) (w' : World) : Prop := e = .returned (.int .i64 (z : Int)) ∧ ∃ q, w' = w.drewN q
set_option maxRecDepth 100000 in
set_option maxHeartbeats 4000000 in
theorem common_any (A B : Option Addr) (n m c d : Nat) (xs ys : List UInt8) (w : World) (hx : Rd w A n xs) (hy : Rd w B m ys) (hn : n ≤ 1099511627776) (hm : m ≤ 1099511627776) :
    Calls Try.prog 104 #[.slice A n c, .slice B m d] w (RetCo w (comB xs ys)) := by
  obtain ⟨K, hK⟩ : ∃ K, K = comB xs ys := ⟨_, rfl⟩
  rw [← hK]
  have hle := comB_le xs ys
  rw [← hK] at hle
  have hlx := hx.len
  have hly := hy.len
  have HK := Lib.hid hK
  have HX := Lib.hid hx
  have HY := Lib.hid hy
  clear hK hx hy
  go_enter Try.func104, Try.ntmps104
  go_wp2_with fail
  go_loopw [5] (fun vi wr => ∃ i q : Nat, vi = .int .i64 (i : Int) ∧ i ≤ K ∧ wr = w.drewN q) (fun vi _ => K - (intOf vi).toNat)
  case atStart => exact ⟨0, 0, rfl, Nat.zero_le _, rfl⟩
  case round =>
    obtain ⟨i, q, rfl, hi, rfl⟩ := hrel
    obtain ⟨W, hW⟩ : ∃ W, W = w.drewN q := ⟨_, rfl⟩
    by_cases hlt : i < K
    · obtain ⟨b, h1, h2⟩ := comB_lt (xs := xs) (ys := ys) (i := i) (by rw [← HK.out]; exact hlt)
      have hin : i < n := by omega
      have him : i < m := by omega
      obtain ⟨ba, oa, rfl, _⟩ := HX.out.pos (by omega)
      obtain ⟨bb, ob, rfl, _⟩ := HY.out.pos (by omega)
      obtain ⟨x, hx1, hx2, _⟩ := HX.out.at_ i hin
      obtain ⟨y, hy1, hy2, _⟩ := HY.out.at_ i him
      obtain rfl : x = y := by
        rw [h1] at hx1; rw [h2] at hy1
        rw [← Option.some.inj hx1, ← Option.some.inj hy1]
      have c1 : W.cell? ⟨ba, oa + i, none⟩ = some (.int .u8 (x.toNat : Int)) := by rw [hW]; exact hx2
      have c2 : W.cell? ⟨bb, ob + i, none⟩ = some (.int .u8 (x.toNat : Int)) := by rw [hW]; exact hy2
      rw [← hW]
      have HW := Lib.hid hW
      clear hW h1 h2 hx1 hx2 hy1 hy2
      go_wp2_with fail
      go_quiet (fail)
      rw [HW.out]
      go_wp2_with fail
      go_roundw
      case rel => exact ⟨i + 1, _, by go_num, by omega, rfl⟩
      case measure => simp [intOf]; omega
    · obtain rfl : i = K := by omega
      rcases comB_at (xs := xs) (ys := ys) (i := i) HK.out with h1 | h1 | ⟨a, b, h1, h2, h3⟩
      · have hin : ¬ i < n := by omega
        rw [← hW]
        have HW := Lib.hid hW
        clear hW
        go_wp2_with fail
        go_quiet (fail)
        rw [HW.out]
        go_wp2_with fail
        go_ret
        exact ⟨rfl, _, World.drewN_drewN _ _ _⟩
      · have him : ¬ i < m := by omega
        rw [← hW]
        have HW := Lib.hid hW
        have HH1 := Lib.hid (And.intro h1 (And.intro hlx hly))
        clear hW h1 hlx hly hle hi hlt
        by_cases hin : i < n
        · have d1 : decide (i < n) = true := by simpa using hin
          have d2 : decide (i < m) = false := by simpa using him
          have d3 : decide ((i : Int) < (m : Int)) = false := by simp; omega
          have d4 : decide (m ≤ i) = true := by simp; omega
          go_wp2_with fail
          go_quiet (fail)
          rw [HW.out]
          go_wp2_with fail
          go_ret
          exact ⟨rfl, _, World.drewN_drewN _ _ _⟩
        · have d1 : decide (i < n) = false := by simpa using hin
          have d4 : decide (n ≤ i) = true := by simp; omega
          go_wp2_with fail
          go_quiet (fail)
          rw [HW.out]
          go_wp2_with fail
          go_ret
          exact ⟨rfl, _, World.drewN_drewN _ _ _⟩
      · have hin : i < n := by have := (List.getElem?_eq_some_iff.1 h1).1; omega
        have him : i < m := by have := (List.getElem?_eq_some_iff.1 h2).1; omega
        obtain ⟨ba, oa, rfl, _⟩ := HX.out.pos (by omega)
        obtain ⟨bb, ob, rfl, _⟩ := HY.out.pos (by omega)
        obtain ⟨x, hx1, hx2, _⟩ := HX.out.at_ i hin
        obtain ⟨y, hy1, hy2, _⟩ := HY.out.at_ i him
        have hne : x.toNat ≠ y.toNat := fun e => h3 (by
          rw [h1] at hx1; rw [h2] at hy1
          rw [Option.some.inj hx1, Option.some.inj hy1]
          exact UInt8.toNat_inj.1 e)
        have t1 : ((x.toNat : Int) == (y.toNat : Int)) = false := by simp; omega
        have t2 : ¬ (x.toNat : Int) = (y.toNat : Int) := by omega
        have c1 : W.cell? ⟨ba, oa + i, none⟩ = some (.int .u8 (x.toNat : Int)) := by rw [hW]; exact hx2
        have c2 : W.cell? ⟨bb, ob + i, none⟩ = some (.int .u8 (y.toNat : Int)) := by rw [hW]; exact hy2
        rw [← hW]
        have HW := Lib.hid hW
        clear hW h1 h2 h3 hx1 hx2 hy1 hy2
        go_wp2_with fail
        go_quiet (fail)
        rw [HW.out]
        go_wp2_with fail
        go_ret
        exact ⟨rfl, _, World.drewN_drewN _ _ _⟩
/-- The first k pairs of neighbours stand in order. -/
def ordK (es : List En) : Nat → Bool
  | 0 => true
  | i + 1 => ordK es i && (match es[i]?, es[i + 1]? with
    | some a, some b => lessE a b
    | _, _ => true)
def ordE (es : List En) : Bool := ordK es (es.length - 1)
theorem ordK_step {es : List En} {i : Nat} {a b : En} (h1 : es[i]? = some a) (h2 : es[i + 1]? = some b) : ordK es (i + 1) = (ordK es i && lessE a b) := by rw [ordK, h1, h2]
theorem ordK_false {es : List En} {i : Nat} (h : ordK es i = false) : ∀ j, i ≤ j → ordK es j = false
  | 0, hj => by obtain rfl : i = 0 := by omega
                exact h
  | j + 1, hj => by
    by_cases e : i = j + 1
    · subst e; exact h
    · rw [ordK, ordK_false h j (by omega), Bool.false_and]
set_option maxRecDepth 100000 in
set_option maxHeartbeats 4000000 in
theorem inOrder8_any {w : World} {A : Option Addr} {n c : Nat} {es : List En} (h : REs w A n es) (hn : n ≤ 1099511627776) : Calls Try.prog 72 #[.slice A n c] w (RetT w (ordE es)) := by
  have HL := Lib.hid h.len
  have HR := Lib.hid h
  clear h
  go_enter Try.func72, Try.ntmps72
  go_wp2_with fail
  go_loopw [3] (fun s3 wr => ∃ i : Nat, (i < n ∨ i = 0) ∧ s3 = .int .i64 ((i + 1 : Nat) : Int) ∧ ordK es i = true ∧ Below w.heap.size w wr) (fun s _ => n + 1 - (intOf s).toNat)
  case atStart => exact ⟨0, .inr rfl, rfl, rfl, Below.refl _ _⟩
  case round =>
    obtain ⟨i, hi, rfl, ho, hB⟩ := hrel
    have HB := Lib.hid hB
    have HO := Lib.hid ho
    have hR := HR.out.below hB
    clear hB ho
    obtain ⟨k, hk⟩ : ∃ k, k = i + 1 := ⟨_, rfl⟩
    rw [← hk]
    by_cases hlt : k < n
    · obtain ⟨b, off, hAb, hbl⟩ := hR.pos (by omega)
      subst hAb
      obtain ⟨x, v0, v1, v2, v3, hx, c0, c1, c2, c3, hev⟩ := hR.at_ i (by omega)
      obtain ⟨y, u0, u1, u2, u3, hy, d0, d1, d2, d3, hew⟩ := hR.at_ k hlt
      have HL1 : Hid (∀ wx, Below wr.heap.size wr wx → Calls Try.prog 64 #[.agg #[v0, v1, v2, v3], .agg #[u0, u1, u2, u3]] wx (RetT wx (lessE x y))) := Lib.hid (fun wx hb => memLess_any (hev.below hb) (hew.below hb))
      have HSX : Hid (∀ wx, Below wr.heap.size wr wx → wx.cell? ⟨b, off + i * 4, none⟩ = some v0 ∧ wx.cell? ⟨b, off + i * 4 + 1, none⟩ = some v1 ∧ wx.cell? ⟨b, off + i * 4 + 2, none⟩ = some v2 ∧ wx.cell? ⟨b, off + i * 4 + 3, none⟩ = some v3 ∧ wx.cell? ⟨b, off + k * 4, none⟩ = some u0 ∧ wx.cell? ⟨b, off + k * 4 + 1, none⟩ = some u1 ∧ wx.cell? ⟨b, off + k * 4 + 2, none⟩ = some u2 ∧ wx.cell? ⟨b, off + k * 4 + 3, none⟩ = some u3) := Lib.hid (fun wx h =>
        ⟨(h.cell (p := ⟨b, off + i * 4, none⟩) hbl).trans c0, (h.cell (p := ⟨b, off + i * 4 + 1, none⟩) hbl).trans c1, (h.cell (p := ⟨b, off + i * 4 + 2, none⟩) hbl).trans c2, (h.cell (p := ⟨b, off + i * 4 + 3, none⟩) hbl).trans c3, (h.cell (p := ⟨b, off + k * 4, none⟩) hbl).trans d0, (h.cell (p := ⟨b, off + k * 4 + 1, none⟩) hbl).trans d1, (h.cell (p := ⟨b, off + k * 4 + 2, none⟩) hbl).trans d2, (h.cell (p := ⟨b, off + k * 4 + 3, none⟩) hbl).trans d3⟩)
      have hB0 : Below wr.heap.size wr wr.drew := (Below.refl _ _).drew
      have hk1 : IntKind.i64.wrap ((k : Int) - 1) = (i : Int) := by rw [IntWalk.i64_in _ (by omega)]; omega
      have hin : i < n := by omega
      have HST : Hid (ordK es k = (ordK es i && lessE x y)) := Lib.hid (by rw [hk]; exact ordK_step hx (by rw [← hk]; exact hy))
      have HKI := Lib.hid hk
      obtain ⟨z, hz⟩ : ∃ z, z = lessE x y := ⟨_, rfl⟩
      rw [← hz] at HL1 HST
      clear hR hx hev hy hew hz hk
      cases z with
      | true =>
        go_wp2_with fail
        go_region_held3 (fun wx => wx.cell? ⟨b, off + i * 4, none⟩ = some v0 ∧ wx.cell? ⟨b, off + i * 4 + 1, none⟩ = some v1 ∧ wx.cell? ⟨b, off + i * 4 + 2, none⟩ = some v2 ∧ wx.cell? ⟨b, off + i * 4 + 3, none⟩ = some v3 ∧ wx.cell? ⟨b, off + k * 4, none⟩ = some u0 ∧ wx.cell? ⟨b, off + k * 4 + 1, none⟩ = some u1 ∧ wx.cell? ⟨b, off + k * 4 + 2, none⟩ = some u2 ∧ wx.cell? ⟨b, off + k * 4 + 3, none⟩ = some u3) (first | assumption | exact HSX.out _ hB0)
          (first | (go_at_call 64; with_reducible refine (HL1.out _ (by assumption)).mono ?_; intro e1 wn hq; obtain ⟨h1, bn⟩ := RetT.outD hq; subst h1; have bn' := belowT' (by assumption : Below wr.heap.size wr _) bn; have hS1 := HSX.out _ bn'))
        all_goals
          have HBN : Hid (Below w.heap.size w _) := Lib.hid (HB.out.trans ((by assumption : Below wr.heap.size wr wn).mono HB.out.size))
          go_wp2_with fail
          go_roundw
          case rel => exact ⟨k, .inl hlt, by go_num, by rw [HST.out, HO.out]; rfl, HBN.out⟩
          case measure => simp [intOf]; omega
      | false =>
        go_wp2_with fail
        go_region_held3 (fun wx => wx.cell? ⟨b, off + i * 4, none⟩ = some v0 ∧ wx.cell? ⟨b, off + i * 4 + 1, none⟩ = some v1 ∧ wx.cell? ⟨b, off + i * 4 + 2, none⟩ = some v2 ∧ wx.cell? ⟨b, off + i * 4 + 3, none⟩ = some v3 ∧ wx.cell? ⟨b, off + k * 4, none⟩ = some u0 ∧ wx.cell? ⟨b, off + k * 4 + 1, none⟩ = some u1 ∧ wx.cell? ⟨b, off + k * 4 + 2, none⟩ = some u2 ∧ wx.cell? ⟨b, off + k * 4 + 3, none⟩ = some u3) (first | assumption | exact HSX.out _ hB0)
          (first | (go_at_call 64; with_reducible refine (HL1.out _ (by assumption)).mono ?_; intro e1 wn hq; obtain ⟨h1, bn⟩ := RetT.outD hq; subst h1; have bn' := belowT' (by assumption : Below wr.heap.size wr _) bn; have hS1 := HSX.out _ bn'))
        all_goals
          have HBN : Hid (Below w.heap.size w _) := Lib.hid (HB.out.trans ((by assumption : Below wr.heap.size wr wn).mono HB.out.size))
          have HFIN : Hid (ordE es = false) := Lib.hid (by
            have h1 := HST.out
            rw [Bool.and_false] at h1
            exact ordK_false h1 _ (by rw [HL.out]; omega))
          go_wp2_with fail
          go_ret
          exact ⟨by rw [HFIN.out]; rfl, HBN.out⟩
    · have HFIN : Hid (ordE es = true) := Lib.hid (by
        have h1 := HO.out
        unfold ordE
        rw [HL.out]
        obtain rfl : n - 1 = i := by omega
        exact h1)
      go_wp2_with fail
      go_ret
      exact ⟨by rw [HFIN.out]; rfl, HB.out⟩
end Go.Proofs.Ytoaajkdhlhopmaa
namespace Go.Proofs.Ytoaajkdhlhopmaa
open Go Go.RowKit

theorem Rd.keptG {w w' : World} {A : Option Addr} {n : Nat} {xs : List UInt8} {row : Option Nat} (h : Rd w A n xs) (hg : w.grownBy w' row) (hne : ∀ b, blk A = some b → row ≠ some b) : Rd w' A n xs := by
  refine ⟨h.1, fun hn => ?_⟩
  obtain ⟨b, off, e, hb, hc⟩ := h.2 hn
  refine ⟨b, off, e, Nat.lt_of_lt_of_le hb hg.size, fun i x hx => hg.cell (hc i x hx) (fun e2 => ?_)⟩
  subst e
  exact hne b rfl e2.symm
theorem numR_bad {xs : List UInt8} {s : Nat × Bool} (h : (numR xs s).2.2 = false) : s.2 = false := by
  unfold numR at h
  split at h
  · exact h
  · cases h
theorem takeR_bad {xs : List UInt8} {n : Nat} {s : Nat × Bool} (h : (takeR xs n s).2.2 = false) : s.2 = false ∧ (s.1 ≤ xs.length → n ≤ xs.length - s.1 ∧ (takeR xs n s).1.length = n) := by
  unfold takeR at h ⊢
  split at h
  · cases h
  · rename_i h2
    rw [if_neg h2]
    refine ⟨h, fun h3 => ⟨by omega, ?_⟩⟩
    simp only [List.length_take, List.length_drop]
    omega
/-- The seven pieces of an entry, one behind the other. -/
def e1R (xs : List UInt8) (a : Nat) := numR xs (a, false)
def e2R (xs : List UInt8) (a : Nat) := numR xs (e1R xs a).2
def e3R (xs : List UInt8) (a : Nat) := numR xs (e2R xs a).2
def e4R (xs : List UInt8) (a : Nat) := takeR xs 1 (e3R xs a).2
def e5R (xs : List UInt8) (a : Nat) := numR xs (e4R xs a).2
def e6R (xs : List UInt8) (a : Nat) := takeR xs (e2R xs a).1 (e5R xs a).2
def e7R (xs : List UInt8) (a : Nat) := takeR xs (e5R xs a).1 (e6R xs a).2
/-- Can't an entry be read? -/
def badR (xs ah : List UInt8) (a : Nat) : Bool := (e7R xs a).2.2 || decide (ah.length < (e1R xs a).1) || decide (1024 < (e1R xs a).1 + (e6R xs a).1.length)
/-- The entry that is read. -/
def entR (xs ah : List UInt8) (a : Nat) : En := ⟨ah.take (e1R xs a).1 ++ (e6R xs a).1, (e3R xs a).1, ((e4R xs a).1.headD 0).toNat, (e7R xs a).1⟩
/-- What entry hands back. -/
def RetE8 (w : World) (p : Nat) (E : Option Addr) (en ec : Nat) (xs ah : List UInt8) (a : Nat) (e : Ending) (w' : World) : Prop :=
  Rdr w' p E en ec (e7R xs a).2 ∧ w.grownBy w' (some p) ∧
  ((badR xs ah a = true ∧ e = .returned (.tuple #[.agg #[.slice none 0 0, .int .u64 0, .int .u8 0, .slice none 0 0], .bool false])) ∨
   (badR xs ah a = false ∧ ∃ K kn kc V vn vc, e = .returned (.tuple #[.agg #[.slice K kn kc, .int .u64 ((entR xs ah a).seq : Int), .int .u8 ((entR xs ah a).kind : Int), .slice V vn vc], .bool true]) ∧
     Own 5 w' w.heap.size K kn kc (entR xs ah a).key ∧ Own 5 w' w.heap.size V vn vc (entR xs ah a).val ∧ Dj K V))
theorem rdl_two8 {w : World} {t : TypeId} {v1 v2 : Value} {x1 x2 : List UInt8} (h1 : ElB w v1 x1) (h2 : ElB w v2 x2) (g : Nat) (hg : g = w.heap.size) : RdL (w.alloc (.cells #[v1, v2] t)) (some ⟨g, 0, none⟩) 2 [x1, x2] := by
  subst hg
  refine ⟨rfl, fun _ => ⟨w.heap.size, 0, rfl, by simp, fun i x hi => ?_⟩⟩
  match i, hi with
  | 0, hi =>
    injection hi with hi
    subst hi
    refine ⟨v1, ?_, h1.below ((Below.refl _ _).alloc (Nat.le_refl _) _)⟩
    rw [cell_of_row (w.alloc (.cells #[v1, v2] t)) w.heap.size (0 + 0) #[v1, v2] t (0, 0) (heap_alloc_new w _)]
    rfl
  | 1, hi =>
    injection hi with hi
    subst hi
    refine ⟨v2, ?_, h2.below ((Below.refl _ _).alloc (Nat.le_refl _) _)⟩
    rw [cell_of_row (w.alloc (.cells #[v1, v2] t)) w.heap.size (0 + 1) #[v1, v2] t (0, 0) (heap_alloc_new w _)]
    rfl
  | i + 2, hi => simp at hi
theorem Made.outM {base : Nat} {w w' : World} {xs : List UInt8} {e : Ending} (h : Made base w xs e w') : ∃ A n c, e = .returned (.slice A n c) ∧ Own 5 w' base A n c xs ∧ Below base w w' := h
theorem cut_hu {P : Program} {t e : TypeId} (ht : P.underlying t = some (.slice e)) (he : P.elem t = e) (hs : ∀ w, (sizeOf e).run P w = .ok 1 w)
    (A : Option Addr) {n cap m : Nat} (hm : m ≤ cap) (w : World) :
    (Instr.slice t (.slice A n cap) none (some (.int .u64 (m : Int))) none).run P w = .ok (.slice A m cap) w := by
  subst he
  rw [run_slice_h w t A n cap ht .u64 (m : Int) (by omega) (by omega)]
  simp only [hs, Result.andThen, sliced, Int.toNat_natCast, Nat.zero_mul, Nat.sub_zero]
  cases A <;> simp [Addr.add]
theorem e4_one {xs : List UInt8} {a : Nat} (ha : a ≤ xs.length) (h : (e7R xs a).2.2 = false) : (e4R xs a).1.length = 1 := by
  unfold e7R at h
  have h6 := (takeR_bad h).1
  unfold e6R at h6
  have h5 := (takeR_bad h6).1
  unfold e5R at h5
  have h4 := numR_bad h5
  have q1 := (numR_le (xs := xs) (s := (a, false)) ha).1
  have q2 := (numR_le (xs := xs) (s := (e1R xs a).2) (by unfold e1R; exact q1)).1
  have q3 := (numR_le (xs := xs) (s := (e2R xs a).2) (by unfold e2R; exact q2)).1
  unfold e4R at h4 ⊢
  exact ((takeR_bad h4).2 (by unfold e3R; exact q3)).2
/-- Four stores into the result's own box. -/
theorem e8_fin {w U w7 X : World} {p : Nat} {E : Option Addr} {en ec : Nat} {s : Nat × Bool} {q : Array Value} {a b c d : Value} (bU : Below w.heap.size w U) (g7 : U.grownBy w7 (some p)) (z7 : Cl w7 w.heap.size q 33) (hq : q.size = 4) (r7 : Rdr w7 p E en ec s) (hp : p < w.heap.size)
    (hX : X = (((w7.setCell ⟨w.heap.size, 0, none⟩ a).setCell ⟨w.heap.size, 1, none⟩ b).setCell ⟨w.heap.size, 2, none⟩ c).setCell ⟨w.heap.size, 3, none⟩ d) :
    Rdr X p E en ec s ∧ w.grownBy X (some p) ∧ Cl X w.heap.size #[a, b, c, d] 33 := by
  have hr7 : Cl w7 p _ 129 := r7
  refine ⟨?_, ?_, by rw [hX]; exact z7.put4 hq a b c d⟩
  · rw [hX]
    exact (((hr7.off 0 a (by omega)).off 1 b (by omega)).off 2 c (by omega)).off 3 d (by omega)
  · have h1 : w.grownBy U (some p) := ⟨bU.os, bU.tape, bU.output, bU.size, fun i hi _ => bU.block i hi⟩
    have h2 : w7.grownBy X (some w.heap.size) := by
      rw [hX]
      exact (((grown_set1 w7 _ 0 a).trans (grown_set1 _ _ 1 b)).trans (grown_set1 _ _ 2 c)).trans (grown_set1 _ _ 3 d)
    exact grown_then (h1.trans g7) h2 (fun j hj => by injection hj with hj; exact .inl (by omega))
/-- How a read entry is handed back. -/
theorem e8_ok {w U w7 w9 wc wn X : World} {p : Nat} {E : Option Addr} {en ec : Nat} {xs ah : List UInt8} {a : Nat} {K V : Option Addr} {kn kc vn vc sq kd : Nat} {q : Array Value} (bU : Below w.heap.size w U) (hU : w.heap.size < U.heap.size) (g7 : U.grownBy w7 (some p)) (z7 : Cl w7 w.heap.size q 33) (hq : q.size = 4) (r7 : Rdr w7 p E en ec (e7R xs a).2) (hp : p < w.heap.size)
    (b79 : Below w7.heap.size w7 w9) (oK : Own 5 w9 w7.heap.size K kn kc (entR xs ah a).key) (hc9 : w9.heap.size = wc.heap.size) (b9n : Below w9.heap.size w9 wn) (oV : Own 5 wn wc.heap.size V vn vc (entR xs ah a).val)
    (hbad : badR xs ah a = false) (hsq : (entR xs ah a).seq = sq) (hkd : (entR xs ah a).kind = kd)
    (hX : X = (((wn.setCell ⟨w.heap.size, 0, none⟩ (.slice K kn kc)).setCell ⟨w.heap.size, 1, none⟩ (.int .u64 (sq : Int))).setCell ⟨w.heap.size, 2, none⟩ (.int .u8 (kd : Int))).setCell ⟨w.heap.size, 3, none⟩ (.slice V vn vc)) :
    Cl X w.heap.size #[.slice K kn kc, .int .u64 (sq : Int), .int .u8 (kd : Int), .slice V vn vc] 33 ∧
    RetE8 w p E en ec xs ah a (.returned (.tuple #[.agg #[.slice K kn kc, .int .u64 (sq : Int), .int .u8 (kd : Int), .slice V vn vc], .bool true])) X := by
  have s7 := g7.size
  have s79 := b79.size
  have b7n : Below w7.heap.size w7 wn := b79.trans (b9n.mono s79)
  have gn : U.grownBy wn (some p) := g7.trans ⟨b7n.os, b7n.tape, b7n.output, b7n.size, fun i hi _ => b7n.block i hi⟩
  obtain ⟨q1, q2, q3⟩ := e8_fin bU gn (z7.below b7n) hq ((show Cl w7 p _ _ from r7).below b7n) hp hX
  have oK2 := oK.below b9n
  have oV2 := oV.mono (show w7.heap.size ≤ wc.heap.size by omega)
  have dj : Dj K V := Dj.old oK oV (by omega)
  refine ⟨q3, q1, q2, .inr ⟨hbad, K, kn, kc, V, vn, vc, by rw [hsq, hkd], ?_, ?_, dj⟩⟩
  · rw [hX]
    exact ((((oK2.set (by omega) 0 _).set (by omega) 1 _).set (by omega) 2 _).set (by omega) 3 _).mono (by omega)
  · rw [hX]
    exact ((((oV2.set (by omega) 0 _).set (by omega) 1 _).set (by omega) 2 _).set (by omega) 3 _).mono (by omega)
set_option maxRecDepth 100000 in
set_option maxHeartbeats 16000000 in
theorem entry_any (w : World) (p : Nat) (E : Option Addr) (en ec : Nat) (xs : List UInt8) (A : Option Addr) (an ac : Nat) (ah : List UInt8) (a : Nat) (h : Rdr w p E en ec (a, false)) (hr : Rd w E en xs) (hA : Rd w A an ah) (ha : a ≤ en) (hn : en ≤ 1099511627776) (hc : en ≤ ec) (hnil : E = none → ec = 0)
    (han : an ≤ 1048576) (hac : an ≤ ac) (hpe : blk E ≠ some p) (hpa : blk A ≠ some p) (hanil : A = none → ac = 0) :
    Calls Try.prog 94 #[.pointer (some ⟨p, 0, none⟩), .slice A an ac] w (RetE8 w p E en ec xs ah a) := by
  have hxl := hr.len
  obtain ⟨g, hg⟩ : ∃ g, g = w.heap.size := ⟨_, rfl⟩
  have hpg : p < g := by rw [hg]; exact (show Cl w p _ _ from h).lt
  obtain ⟨U, hU⟩ : ∃ U, U = w.alloc (.cells #[.slice none 0 0, .int .u64 0, .int .u8 0, .slice none 0 0] 33) := ⟨_, rfl⟩
  have bU : Below w.heap.size w U := by rw [hU]; exact (Below.refl _ _).alloc (Nat.le_refl _) _
  have hU1 : Rdr U p E en ec (a, false) := (show Cl w p _ _ from h).below bU
  have zU : Cl U g #[.slice none 0 0, .int .u64 0, .int .u8 0, .slice none 0 0] 33 := by rw [hU, hg]; exact Cl.new _ _ _
  -- what stands whenever the reader alone has changed
  have KE : Hid (∀ wx, U.grownBy wx (some p) → Rd wx E en xs ∧ Rd wx A an ah ∧ Cl wx g #[.slice none 0 0, .int .u64 0, .int .u8 0, .slice none 0 0] 33) := Lib.hid (fun wx hgx => ⟨(hr.below bU).keptG hgx (fun b hb e => hpe (by rw [hb]; exact e.symm)), (hA.below bU).keptG hgx (fun b hb e => hpa (by rw [hb]; exact e.symm)), ClG.grown zU hgx (fun e => by injection e with e; omega)⟩)
  have h1 : (e1R xs a).2.1 ≤ en ∧ (e1R xs a).1 < B64 := by have := numR_le (xs := xs) (s := (a, false)) (by simp only; omega); rw [← hxl]; exact this
  have h2 : (e2R xs a).2.1 ≤ en ∧ (e2R xs a).1 < B64 := by have := numR_le (xs := xs) (s := (e1R xs a).2) (by omega); rw [← hxl]; exact this
  have h3 : (e3R xs a).2.1 ≤ en ∧ (e3R xs a).1 < B64 := by have := numR_le (xs := xs) (s := (e2R xs a).2) (by omega); rw [← hxl]; exact this
  have h4 : (e4R xs a).2.1 ≤ en := by have := (takeR_le (xs := xs) (n := 1) (s := (e3R xs a).2) (by omega)).1; rw [← hxl]; exact this
  have h5 : (e5R xs a).2.1 ≤ en ∧ (e5R xs a).1 < B64 := by have := numR_le (xs := xs) (s := (e4R xs a).2) (by omega); rw [← hxl]; exact this
  have h6 : (e6R xs a).2.1 ≤ en := by have := (takeR_le (xs := xs) (n := (e2R xs a).1) (s := (e5R xs a).2) (by omega)).1; rw [← hxl]; exact this
  -- the calls, each from whatever the reader alone has changed
  have C1 : Hid (Calls Try.prog 116 #[.pointer (some ⟨p, 0, none⟩)] U (RetN U p E en ec (e1R xs a))) := Lib.hid (number_any U p E en ec xs a false hU1 (hr.below bU) ha hn hc)
  have C2 : Hid (∀ wx, U.grownBy wx (some p) → Rdr wx p E en ec (e1R xs a).2 → Calls Try.prog 116 #[.pointer (some ⟨p, 0, none⟩)] wx (RetN wx p E en ec (e2R xs a))) := Lib.hid (fun wx hw hc2 => number_any wx p E en ec xs _ _ hc2 (KE.out wx hw).1 h1.1 hn hc)
  have C3 : Hid (∀ wx, U.grownBy wx (some p) → Rdr wx p E en ec (e2R xs a).2 → Calls Try.prog 116 #[.pointer (some ⟨p, 0, none⟩)] wx (RetN wx p E en ec (e3R xs a))) := Lib.hid (fun wx hw hc2 => number_any wx p E en ec xs _ _ hc2 (KE.out wx hw).1 h2.1 hn hc)
  have C4 : Hid (∀ wx, U.grownBy wx (some p) → Rdr wx p E en ec (e3R xs a).2 → Calls Try.prog 117 #[.pointer (some ⟨p, 0, none⟩), .int .u64 1] wx (RetT8 wx p E en ec xs (e4R xs a))) := Lib.hid (fun wx hw hc2 => take_any wx p E en ec xs 1 _ _ hc2 hxl h3.1 hn hc (by unfold B64; omega) hnil)
  have C5 : Hid (∀ wx, U.grownBy wx (some p) → Rdr wx p E en ec (e4R xs a).2 → Calls Try.prog 116 #[.pointer (some ⟨p, 0, none⟩)] wx (RetN wx p E en ec (e5R xs a))) := Lib.hid (fun wx hw hc2 => number_any wx p E en ec xs _ _ hc2 (KE.out wx hw).1 h4 hn hc)
  have C6 : Hid (∀ wx, U.grownBy wx (some p) → Rdr wx p E en ec (e5R xs a).2 → Calls Try.prog 117 #[.pointer (some ⟨p, 0, none⟩), .int .u64 ((e2R xs a).1 : Int)] wx (RetT8 wx p E en ec xs (e6R xs a))) := Lib.hid (fun wx hw hc2 => take_any wx p E en ec xs _ _ _ hc2 hxl h5.1 hn hc h2.2 hnil)
  have C7 : Hid (∀ wx, U.grownBy wx (some p) → Rdr wx p E en ec (e6R xs a).2 → Calls Try.prog 117 #[.pointer (some ⟨p, 0, none⟩), .int .u64 ((e5R xs a).1 : Int)] wx (RetT8 wx p E en ec xs (e7R xs a))) := Lib.hid (fun wx hw hc2 => take_any wx p E en ec xs _ _ _ hc2 hxl h6 hn hc h5.2 hnil)
  have BU := Lib.hid bU
  have HU := Lib.hid hU
  have HG := Lib.hid hg
  have hsh := h1.2
  unfold B64 at hsh
  obtain ⟨sh, hshe⟩ : ∃ sh, sh = (e1R xs a).1 := ⟨_, rfl⟩
  obtain ⟨lf, hlfe⟩ : ∃ lf, lf = (e2R xs a).1 := ⟨_, rfl⟩
  obtain ⟨sq, hsqe⟩ : ∃ sq, sq = (e3R xs a).1 := ⟨_, rfl⟩
  obtain ⟨sz, hsze⟩ : ∃ sz, sz = (e5R xs a).1 := ⟨_, rfl⟩
  have HSH := Lib.hid hshe
  have HLF := Lib.hid hlfe
  have HSQ := Lib.hid hsqe
  have HSZ := Lib.hid hsze
  rw [← hshe] at hsh
  have HEB : Hid (∀ b, blk E = some b → 0 < en → b < w.heap.size) := Lib.hid (fun b hb hp => by
    obtain ⟨b', o', e, hb2⟩ := hr.pos hp
    rw [e] at hb
    injection hb with hb
    simp only at hb
    omega)
  clear h hr hA hU hU1 zU bU h1 h2 h3 h4 h5 h6 hg hshe hlfe hsqe hsze
  go_enter Try.func94, Try.ntmps94
  go_upto_region 1 with (fail)
  rw [← HU.out]
  go_wp2_with fail
  with_reducible refine C1.out.mono ?_
  intro e w1 hq
  obtain ⟨he, r1, g1⟩ := RetN.out hq
  subst he
  rw [← HSH.out]
  go_wp2_with fail
  with_reducible refine (C2.out _ g1 r1).mono ?_
  clear hq
  intro e w2 hq
  obtain ⟨he, r2, g2⟩ := RetN.out hq
  subst he
  rw [← HLF.out]
  have g2 := g1.trans g2
  clear hq r1 g1 C1 C2
  go_wp2_with fail
  with_reducible refine (C3.out _ g2 r2).mono ?_
  intro e w3 hq
  obtain ⟨he, r3, g3⟩ := RetN.out hq
  subst he
  rw [← HSQ.out]
  have g3 := g2.trans g3
  clear hq r2 g2 C3
  go_wp2_with fail
  with_reducible refine (C4.out _ g3 r3).mono ?_
  rintro e w4 ⟨B4, k4, d4, rfl, r4, g4, x41, x42, x43, x44, x45⟩
  have g4 := g3.trans g4
  have X4 := Lib.hid (And.intro x41 (And.intro x42 (And.intro x43 (And.intro x44 x45))))
  clear r3 g3 C4 x41 x42 x43 x44 x45
  go_wp2_with fail
  with_reducible refine (C5.out _ g4 r4).mono ?_
  intro e w5 hq
  obtain ⟨he, r5, g5⟩ := RetN.out hq
  subst he
  rw [← HSZ.out]
  have g5 := g4.trans g5
  clear hq r4 g4 C5
  rw [← HLF.out] at C6
  rw [← HSZ.out] at C7
  go_wp2_with fail
  with_reducible refine (C6.out _ g5 r5).mono ?_
  rintro e w6 ⟨B6, k6, d6, rfl, r6, g6, x61, x62, x63, x64, x65⟩
  have g6 := g5.trans g6
  have X6 := Lib.hid (And.intro x61 (And.intro x62 (And.intro x63 (And.intro x64 x65))))
  clear r5 g5 C6 x61 x62 x63 x64 x65
  go_wp2_with fail
  with_reducible refine (C7.out _ g6 r6).mono ?_
  rintro e w7 ⟨B7, k7, d7, rfl, r7, g7, x71, x72, x73, x74, x75⟩
  have g7 := g6.trans g7
  have X7 := Lib.hid (And.intro x71 (And.intro x72 (And.intro x73 (And.intro x74 x75))))
  clear r6 g6 C7 x71 x72 x73 x74 x75
  have hxl2 : ah.length = an := (KE.out U (World.grownBy.refl _ _)).2.1.len
  obtain ⟨bad, hbad⟩ : ∃ bad, bad = (e7R xs a).2.2 := ⟨_, rfl⟩
  have hc7 : Cl w7 p #[.slice E en ec, .int .i64 ((e7R xs a).2.1 : Int), .bool bad] 129 := by rw [hbad]; exact r7
  obtain ⟨c0, c1, c2, f0, f1, f2⟩ := hc7.c3
  have hk6 := X6.out.2.2.1
  have hk6b : k6 ≤ en := by
    have h1 := (takeR_le (xs := xs) (n := (e2R xs a).1) (s := (e5R xs a).2))
    rw [← hk6]
    unfold e6R
    unfold takeR
    split
    · simp
    · simp only [List.length_take, List.length_drop]; omega
  obtain ⟨_, _, z7⟩ := KE.out w7 g7
  rw [HG.out] at z7
  obtain ⟨zc0, zc1, zc2, zc3, zf0, zf1, zf2, zf3⟩ := z7.c4
  have R7 := Lib.hid r7
  have G7 := Lib.hid g7
  have Z7 := Lib.hid z7
  have HB := Lib.hid hbad
  have HK6 := Lib.hid hk6
  have HXL2 := Lib.hid hxl2
  have hgw : U.heap.size ≤ w7.heap.size := g7.size
  clear r7 g7 hc7 z7 hbad hk6 hxl2
  have hpw : p < w.heap.size := by have := HG.out; omega
  cases bad with
  | true =>
    have HBAD : Hid (badR xs ah a = true) := Lib.hid (by unfold badR; rw [← HB.out]; rfl)
    go_wp2_with fail
    obtain ⟨X, hX⟩ : ∃ X, X = (((w7.setCell ⟨w.heap.size, 0, none⟩ (.slice none 0 0)).setCell ⟨w.heap.size, 1, none⟩ (.int .u64 0)).setCell ⟨w.heap.size, 2, none⟩ (.int .u8 0)).setCell ⟨w.heap.size, 3, none⟩ (.slice none 0 0) := ⟨_, rfl⟩
    rw [← hX]
    obtain ⟨q1, q2, q3⟩ := e8_fin BU.out G7.out Z7.out rfl R7.out (by omega) hX
    obtain ⟨x0, x1, x2, x3, _⟩ := q3.c4
    refine bodyPost_ret (v := .tuple #[.agg #[.slice none 0 0, .int .u64 0, .int .u8 0, .slice none 0 0], .bool false]) (by simp [results, Try.results94, go_sem, x0, x1, x2, x3]; try rfl) rfl ⟨q1, q2, .inl ⟨HBAD.out, rfl⟩⟩
  | false =>
    by_cases hs : an < sh
    · have hs' : (an : Int) < (sh : Int) := by omega
      have HBAD : Hid (badR xs ah a = true) := Lib.hid (by
        unfold badR
        rw [← HB.out, HXL2.out, ← HSH.out]
        simp [hs])
      go_wp2_with fail
      obtain ⟨X, hX⟩ : ∃ X, X = (((w7.setCell ⟨w.heap.size, 0, none⟩ (.slice none 0 0)).setCell ⟨w.heap.size, 1, none⟩ (.int .u64 0)).setCell ⟨w.heap.size, 2, none⟩ (.int .u8 0)).setCell ⟨w.heap.size, 3, none⟩ (.slice none 0 0) := ⟨_, rfl⟩
      rw [← hX]
      obtain ⟨q1, q2, q3⟩ := e8_fin BU.out G7.out Z7.out rfl R7.out (by omega) hX
      obtain ⟨x0, x1, x2, x3, _⟩ := q3.c4
      refine bodyPost_ret (v := .tuple #[.agg #[.slice none 0 0, .int .u64 0, .int .u8 0, .slice none 0 0], .bool false]) (by simp [results, Try.results94, go_sem, x0, x1, x2, x3]; try rfl) rfl ⟨q1, q2, .inl ⟨HBAD.out, rfl⟩⟩
    · have hs' : ¬ (an : Int) < (sh : Int) := by omega
      have e1 : IntKind.i64.wrap (sh : Int) = (sh : Int) := IntWalk.i64_in _ (by omega)
      have e2 : IntKind.i64.wrap ((sh : Int) + (k6 : Int)) = (sh : Int) + (k6 : Int) := IntWalk.i64_in _ (by omega)
      by_cases hk : 1024 < sh + k6
      · have hk' : (1024 : Int) < (sh : Int) + (k6 : Int) := by omega
        have HBAD : Hid (badR xs ah a = true) := Lib.hid (by
          unfold badR
          rw [HK6.out, ← HSH.out]
          simp [hk])
        go_wp2_with fail
        obtain ⟨X, hX⟩ : ∃ X, X = (((w7.setCell ⟨w.heap.size, 0, none⟩ (.slice none 0 0)).setCell ⟨w.heap.size, 1, none⟩ (.int .u64 0)).setCell ⟨w.heap.size, 2, none⟩ (.int .u8 0)).setCell ⟨w.heap.size, 3, none⟩ (.slice none 0 0) := ⟨_, rfl⟩
        rw [← hX]
        obtain ⟨q1, q2, q3⟩ := e8_fin BU.out G7.out Z7.out rfl R7.out (by omega) hX
        obtain ⟨x0, x1, x2, x3, _⟩ := q3.c4
        refine bodyPost_ret (v := .tuple #[.agg #[.slice none 0 0, .int .u64 0, .int .u8 0, .slice none 0 0], .bool false]) (by simp [results, Try.results94, go_sem, x0, x1, x2, x3]; try rfl) rfl ⟨q1, q2, .inl ⟨HBAD.out, rfl⟩⟩
      · have hk' : ¬ (1024 : Int) < (sh : Int) + (k6 : Int) := by omega
        have HOK : Hid (badR xs ah a = false) := Lib.hid (by
          unfold badR
          rw [← HB.out, HXL2.out, HK6.out, ← HSH.out]
          simp [hs, hk])
        have hE7 := (KE.out w7 G7.out).1
        have hA7 := (KE.out w7 G7.out).2.1
        have hk4 : k4 = 1 := by
          rw [← X4.out.2.2.1]
          exact e4_one (by rw [(KE.out U (World.grownBy.refl _ _)).1.len]; exact ha) HB.out.symm
        subst hk4
        have r4 := X4.out.2.2.2.1 w7 hE7
        obtain ⟨b4, o4, rfl, hb4⟩ := r4.pos (by omega)
        have hb4w : b4 ≠ w.heap.size := by
          have h1 : blk E = some b4 := by
            rcases X4.out.2.2.2.2 with e | e
            · cases e
            · exact e.symm
          have h2 : 0 < en := by
            rcases Nat.eq_zero_or_pos en with e | e
            · have := (hE7.len.trans e)
              have h3 := X4.out.2.2.1
              unfold e4R takeR at h3
              rw [if_pos (by omega)] at h3
              cases h3
            · exact e
          have := HEB.out b4 h1 h2
          omega
        have hb4 : b4 < w7.heap.size := hb4
        obtain ⟨kd, hkd1, hkd2, _⟩ := r4.at_ 0 (by omega)
        have hkd2 : w7.cell? ⟨b4, o4, none⟩ = some (.int .u8 (kd.toNat : Int)) := hkd2
        have hkind : (entR xs ah a).kind = kd.toNat := by
          unfold entR
          simp only
          cases hq : (e4R xs a).1 with
          | nil => rw [hq] at hkd1; cases hkd1
          | cons y ys => rw [hq] at hkd1; injection hkd1 with hkd1; rw [hkd1]; rfl
        have r7v := X7.out.2.2.2.1 w7 hE7
        have hk7 : k7 ≤ en := by
          have h1 := (takeR_le (xs := xs) (n := (e5R xs a).1) (s := (e6R xs a).2))
          rw [← X7.out.2.2.1]
          have hlen := hE7.len
          unfold e7R takeR
          split
          · simp
          · simp only [List.length_take, List.length_drop]; omega
        have hsl : ∀ W : World, (Instr.slice 22 (.slice A an ac) none (some (.int .u64 (sh : Int))) none).run Try.prog W = .ok (.slice A sh ac) W :=
          cut_hu Try.underlying22 elem_bytes size_u8 A (by omega)
        have hCC := Concat_any (some ⟨w7.heap.size, 0, none⟩) 2 2 [ah.take sh, (e6R xs a).1] _ (rdl_two8 (w := w7) (t := 22) ⟨A, sh, ac, rfl, hA7.take (by omega), by omega, hanil⟩ ⟨B6, k6, d6, rfl, X6.out.2.2.2.1 w7 hE7, X6.out.1, X6.out.2.1⟩ _ rfl) (by
          simp only [tot, List.length_take, HK6.out, HXL2.out]
          omega)
        have hfl : [ah.take sh, (e6R xs a).1].flatten = (entR xs ah a).key := by
          unfold entR
          rw [← HSH.out]
          simp
        rw [hfl] at hCC
        have HCC := Lib.hid hCC
        have R4C := Lib.hid hkd2
        have HKD := Lib.hid hkind
        have R7V := Lib.hid r7v
        have hval : (entR xs ah a).val = (e7R xs a).1 := rfl
        rw [← hval] at R7V
        have hkn7 : k7 ≤ 140737488355328 := by omega
        clear hE7 hA7 r4 hkd1 hkd2 hkind r7v hCC hfl hval hk7 X4
        go_wp2_with fail
        with_reducible refine HCC.out.mono ?_
        intro e w9 hq
        obtain ⟨K, kn, kc, he, oK, b9⟩ := Made.outM hq
        subst he
        have b79 : Below w7.heap.size w7 w9 := ((Below.refl _ _).alloc (Nat.le_refl _) _).trans (b9.mono (by simp))
        have oK2 := oK.mono (show w7.heap.size ≤ _ by simp)
        have s79 := b79.size
        have HS : Hid (∀ wx, Below w9.heap.size w9 wx → wx.cell? ⟨b4, o4, none⟩ = some (.int .u8 (kd.toNat : Int)) ∧ wx.cell? ⟨w.heap.size, 0, none⟩ = some (.slice none 0 0) ∧ wx.cell? ⟨w.heap.size, 1, none⟩ = some (.int .u64 0) ∧ wx.cell? ⟨w.heap.size, 2, none⟩ = some (.int .u8 0) ∧ wx.cell? ⟨w.heap.size, 3, none⟩ = some (.slice none 0 0) ∧ wx.frozen? ⟨w.heap.size, 0, none⟩ = false ∧ wx.frozen? ⟨w.heap.size, 1, none⟩ = false ∧ wx.frozen? ⟨w.heap.size, 2, none⟩ = false ∧ wx.frozen? ⟨w.heap.size, 3, none⟩ = false) := Lib.hid (fun wx hb => by
          have hb7 : Below w7.heap.size w7 wx := b79.trans (hb.mono s79)
          obtain ⟨t0, t1, t2, t3, y0, y1, y2, y3⟩ := (Z7.out.below hb7).c4
          exact ⟨(hb7.cell (p := ⟨b4, o4, none⟩) hb4).trans R4C.out, t0, t1, t2, t3, y0, y1, y2, y3⟩)
        have HCL : Hid (∀ wx, Below w9.heap.size w9 wx → Calls Try.prog 78 #[.slice B7 k7 d7] wx (Made wx.heap.size wx (entR xs ah a).val)) := Lib.hid (fun wx hb => Clone_any B7 k7 d7 _ wx (R7V.out.below (b79.trans (hb.mono s79))) hkn7 X7.out.2.1)
        have hB0 : Below w9.heap.size w9 w9.drew := (Below.refl _ _).drew
        have HOK9 := Lib.hid (And.intro oK2 b79)
        clear hq oK b9 b79 oK2 HCC zc0 zc1 zc2 zc3 zf0 zf1 zf2 zf3 c0 c1 c2 f0 f1 f2
        obtain ⟨zc, zc0, zc1, zc2, zc3, zf0, zf1, zf2, zf3⟩ := HS.out w9 (Below.refl _ _)
        go_wp2_with fail
        have HK4 : Hid (∀ (wx : World) (a b c d : Value), wx.cell? ⟨b4, o4, none⟩ = some (.int .u8 (kd.toNat : Int)) → ((((wx.setCell ⟨w.heap.size, 0, none⟩ a).setCell ⟨w.heap.size, 1, none⟩ b).setCell ⟨w.heap.size, 2, none⟩ c).setCell ⟨w.heap.size, 3, none⟩ d).cell? ⟨b4, o4, none⟩ = some (.int .u8 (kd.toNat : Int))) := Lib.hid (fun wx a b c d h => by
          rw [cell_far _ _ _ _ hb4w, cell_far _ _ _ _ hb4w, cell_far _ _ _ _ hb4w, cell_far _ _ _ _ hb4w]
          exact h)
        go_region_held3 (fun wx => wx.cell? ⟨b4, o4, none⟩ = some (.int .u8 (kd.toNat : Int))) (first | with_reducible assumption | with_reducible exact (HS.out _ hB0).1 | with_reducible exact HK4.out _ _ _ _ _ yc)
          (first | (go_at_call 78; with_reducible refine (HCL.out _ (by assumption)).mono ?_; intro e1 wn hq; obtain ⟨V, vn, vc, h1, oV, bn⟩ := Made.outM hq; subst h1; have bn' := belowT' (by assumption : Below w9.heap.size w9 _) bn; have hS1 := HS.out _ bn'; obtain ⟨yc, yc0, yc1, yc2, yc3, yf0, yf1, yf2, yf3⟩ := hS1))
        all_goals
          have hUw : w.heap.size < U.heap.size := by rw [HU.out]; simp
          have hsq : (entR xs ah a).seq = sq := HSQ.out.symm
          obtain ⟨X, hX⟩ : ∃ X, X = (((wn.setCell ⟨w.heap.size, 0, none⟩ (.slice K kn kc)).setCell ⟨w.heap.size, 1, none⟩ (.int .u64 (sq : Int))).setCell ⟨w.heap.size, 2, none⟩ (.int .u8 (kd.toNat : Int))).setCell ⟨w.heap.size, 3, none⟩ (.slice V vn vc) := ⟨_, rfl⟩
          obtain ⟨q1, q2⟩ := e8_ok BU.out hUw G7.out Z7.out rfl R7.out (by omega) HOK9.out.2 HOK9.out.1 rfl bn' oV HOK.out hsq HKD.out hX
          obtain ⟨x0, x1, x2, x3, _⟩ := q1.c4
          have HQ2 := Lib.hid q2
          rw [← hX]
          clear hX q1 q2 hsq zc zc0 zc1 zc2 zc3 zf0 zf1 zf2 zf3 yc yc0 yc1 yc2 yc3 yf0 yf1 yf2 yf3
          go_wp2_with fail
          refine bodyPost_ret (v := .tuple #[.agg #[.slice K kn kc, .int .u64 (sq : Int), .int .u8 (kd.toNat : Int), .slice V vn vc], .bool true]) (by simp [results, Try.results94, go_sem, x0, x1, x2, x3]; try rfl) rfl HQ2.out
end Go.Proofs.Ytoaajkdhlhopmaa
namespace Go.Proofs.Ytoaajkdhlhopmaa
open Go Go.RowKit

def szL : List En → Nat
  | [] => 0
  | e :: t => wE e + szL t
theorem szL_app : ∀ a b : List En, szL (a ++ b) = szL a + szL b
  | [], b => by simp [szL]
  | e :: t, b => by rw [List.cons_append, szL, szL, szL_app t b]; omega
def SortL (l : List En) : Prop := l.Pairwise (fun a b => lessE a b = true)
theorem posI_app {p q : List En} {x : En} (h1 : ∀ y ∈ p, lessE x y = false) (h2 : ∀ y ∈ q, lessE x y = true) : ∀ j, j ≤ q.length → posI (p ++ q) x (p.length + j) = p.length
  | 0, _ => by
    rw [Nat.add_zero]
    cases hp : p.length with
    | zero => rfl
    | succ m =>
      have hm : m < p.length := by omega
      have e : (p ++ q)[m]? = some (p[m]'hm) := by rw [List.getElem?_append_left hm, List.getElem?_eq_getElem hm]
      rw [posI, e]
      simp only
      rw [h1 _ (List.getElem_mem hm)]
      rfl
  | j + 1, h => by
    have hj : j < q.length := by omega
    have e : (p ++ q)[p.length + j]? = some (q[j]'hj) := by rw [List.getElem?_append_right (by omega), Nat.add_sub_cancel_left, List.getElem?_eq_getElem hj]
    rw [← Nat.add_assoc, posI, e]
    simp only
    rw [h2 _ (List.getElem_mem hj)]
    exact posI_app h1 h2 j (by omega)
theorem insL_app {p q : List En} {x : En} (h1 : ∀ y ∈ p, lessE x y = false) (h2 : ∀ y ∈ q, lessE x y = true) : insL (p ++ q) x = p ++ x :: q := by
  have h := posI_app h1 h2 q.length (Nat.le_refl _)
  unfold insL
  rw [List.length_append, h]
  simp
/-- What the reference's Get finds. -/
def findL (key : List UInt8) (at_ : Nat) (l : List En) : Option En := l.find? (fun y => eqB y.key key && decide (y.seq ≤ at_))
def inR (xs ys : List UInt8) (e : En) : Bool := decide (0 ≤ cmpB e.key xs) && decide (ys.length = 0 ∨ cmpB e.key ys < 0)
theorem less_key {a b : En} {zs : List UInt8} (h : lessE a b = true) (k : cmpB b.key zs < 0) : cmpB a.key zs < 0 := by
  rcases lessE_iff.1 h with q | ⟨q, _⟩
  · exact cmpB_trans q k
  · rw [q]; exact k
/-- The reference's PutAll, of entries in form. -/
def refIns : List En → List En → Option (List En)
  | l, [] => some l
  | l, x :: xs => if inL l x then none else refIns (insL l x) xs
theorem insL_len (l : List En) (x : En) : (insL l x).length = l.length + 1 := by
  have := posI_le l x l.length
  unfold insL
  rw [List.length_append, List.length_cons, List.length_take, List.length_drop]
  omega
theorem split_of {x : En} : ∀ {o : List En}, SortL o → inL o x = false → ∃ p q, o = p ++ q ∧ (∀ y ∈ p, lessE y x = true) ∧ (∀ y ∈ q, lessE x y = true)
  | [], _, _ => ⟨[], [], rfl, (fun y hy => by cases hy), fun y hy => by cases hy⟩
  | a :: t, hs, hin => by
    obtain ⟨h1, h2⟩ := List.pairwise_cons.1 hs
    unfold inL at hin
    rw [List.any_cons, Bool.or_eq_false_iff] at hin
    rcases lessE_tri a x with h | h | h
    · obtain ⟨p, q, e, k1, k2⟩ := split_of h2 hin.2
      refine ⟨a :: p, q, by rw [e]; rfl, fun y hy => ?_, k2⟩
      rcases List.mem_cons.1 hy with rfl | hy
      · exact h
      · exact k1 y hy
    · refine ⟨[], a :: t, rfl, (fun y hy => by cases hy), fun y hy => ?_⟩
      rcases List.mem_cons.1 hy with rfl | hy
      · exact h
      · exact lessE_trans h (h1 y hy)
    · rw [h] at hin
      cases hin.1
theorem insL_sort {o : List En} {x : En} (hs : SortL o) (hin : inL o x = false) : SortL (insL o x) := by
  obtain ⟨p, q, e, h1, h2⟩ := split_of hs hin
  subst e
  rw [insL_app (fun y hy => lessE_asym (h1 y hy)) h2]
  obtain ⟨s1, s2, s3⟩ := List.pairwise_append.1 hs
  exact List.pairwise_append.2 ⟨s1, List.pairwise_cons.2 ⟨h2, s2⟩, fun a ha b hb => by
    rcases List.mem_cons.1 hb with rfl | hb
    · exact h1 a ha
    · exact s3 a ha b hb⟩
/-- Entries in order go in behind one another. -/
theorem refIns_sort : ∀ {q p : List En}, SortL (p ++ q) → refIns p q = some (p ++ q)
  | [], p, _ => by rw [List.append_nil]; rfl
  | x :: xs, p, hs => by
    have h1 : ∀ y ∈ p, lessE y x = true := fun y hy => (List.pairwise_append.1 hs).2.2 y hy x (by simp)
    have h2 : inL p x = false := by
      unfold inL
      rw [List.any_eq_false]
      intro y hy k
      have := (sameK_not k).1
      rw [h1 y hy] at this
      cases this
    have h3 : insL p x = p ++ [x] := by
      have := insL_app (p := p) (q := []) (x := x) (fun y hy => lessE_asym (h1 y hy)) (fun y hy => by cases hy)
      simpa using this
    rw [refIns, h2, if_neg (by simp), h3]
    have e : p ++ x :: xs = (p ++ [x]) ++ xs := by simp
    rw [e] at hs ⊢
    exact refIns_sort hs
/-- In form, and not too long. -/
def okE (x : En) : Bool := decide (checkE [x] = 0)
theorem okE_iff {x : En} : okE x = true ↔ longE x = false ∧ formE x = true := by
  unfold okE checkE
  rw [decide_eq_true_eq]
  simp only [List.any_cons, List.any_nil, Bool.or_false, List.all_cons, List.all_nil, Bool.and_true]
  cases longE x <;> cases formE x <;> simp
theorem checkE_ok {es : List En} (h : ∀ x ∈ es, okE x = true) : checkE es = 0 := by
  unfold checkE
  rw [if_neg, if_pos]
  · rw [List.all_eq_true]
    exact fun x hx => (okE_iff.1 (h x hx)).2
  · rw [List.any_eq_true]
    rintro ⟨x, hx, k⟩
    rw [(okE_iff.1 (h x hx)).1] at k
    cases k
/-- The reference's Sorted. -/
def srt : List En → List En → List En
  | o, [] => o
  | o, x :: xs => if okE x && !inL o x then srt (insL o x) xs else srt o xs
theorem srt_snoc : ∀ (o xs : List En) (x : En), srt o (xs ++ [x]) = if okE x && !inL (srt o xs) x then insL (srt o xs) x else srt o xs
  | o, [], x => by simp [srt]
  | o, y :: ys, x => by
    simp only [List.cons_append, srt]
    split
    · exact srt_snoc _ ys x
    · exact srt_snoc _ ys x
theorem srt_prop : ∀ {xs o : List En}, SortL o → (∀ x ∈ o, okE x = true) → SortL (srt o xs) ∧ (∀ x ∈ srt o xs, okE x = true)
  | [], o, h1, h2 => ⟨h1, h2⟩
  | x :: xs, o, h1, h2 => by
    unfold srt
    split
    · next h =>
      rw [Bool.and_eq_true, Bool.not_eq_true'] at h
      exact srt_prop (insL_sort h1 h.2) (fun y hy => by
        rcases insL_mem' hy with rfl | hy
        · exact h.1
        · exact h2 y hy)
    · exact srt_prop h1 h2
where
  insL_mem' {l : List En} {x y : En} (h : y ∈ insL l x) : y = x ∨ y ∈ l := by
    unfold insL at h
    rcases List.mem_append.1 h with h | h
    · exact .inr (List.mem_of_mem_take h)
    · rcases List.mem_cons.1 h with h | h
      · exact .inl h
      · exact .inr (List.mem_of_mem_drop h)
theorem szL_insL (l : List En) (x : En) : szL (insL l x) = szL l + wE x := by
  unfold insL
  have := szL_app (l.take (posI l x l.length)) (l.drop (posI l x l.length))
  rw [List.take_append_drop] at this
  rw [szL_app, szL]
  omega
theorem srt_len : ∀ (xs o : List En), (srt o xs).length ≤ o.length + xs.length ∧ szL (srt o xs) ≤ szL o + szL xs
  | [], o => ⟨by simp [srt], by simp [srt, szL]⟩
  | x :: xs, o => by
    unfold srt
    split
    · have := srt_len xs (insL o x)
      rw [insL_len, szL_insL] at this
      simp only [List.length_cons, szL]
      omega
    · have := srt_len xs o
      simp only [List.length_cons, szL]
      omega
theorem srt_mem : ∀ {xs o : List En}, ∀ x ∈ srt o xs, x ∈ o ∨ x ∈ xs
  | [], o, x, h => .inl h
  | y :: ys, o, x, h => by
    unfold srt at h
    split at h
    · rcases srt_mem x h with q | q
      · rcases srt_prop.insL_mem' q with q | q
        · exact .inr (by simp [q])
        · exact .inl q
      · exact .inr (by simp [q])
    · rcases srt_mem x h with q | q
      · exact .inl q
      · exact .inr (by simp [q])
end Go.Proofs.Ytoaajkdhlhopmaa
namespace Go.Proofs.Ytoaajkdhlhopmaa
open Go Go.RowKit

/-- How many bytes of the i-th key are left out. -/
def shB (ev : Nat) (es : List En) (i : Nat) : Nat := if i % ev = 0 then 0 else match es[i - 1]?, es[i]? with
  | some a, some b => comB a.key b.key
  | _, _ => 0
/-- The bytes of the first i entries; the places of the restarts among them. -/
def outB (ev : Nat) (es : List En) : Nat → List UInt8
  | 0 => []
  | i + 1 => match es[i]? with
    | some x => outB ev es i ++ entB (shB ev es i) x
    | none => outB ev es i
def rsB (ev : Nat) (es : List En) : Nat → List UInt8
  | 0 => []
  | i + 1 => if i % ev = 0 then rsB ev es i ++ fourB (outB ev es i).length else rsB ev es i
def fullB (ev : Nat) (es : List En) : List UInt8 := outB ev es es.length ++ rsB ev es es.length ++ fourB ((rsB ev es es.length).length / 4)
theorem outB_step {ev i : Nat} {es : List En} {x : En} (h : es[i]? = some x) : outB ev es (i + 1) = outB ev es i ++ entB (shB ev es i) x := by rw [outB, h]
theorem rsB_len (ev : Nat) (es : List En) : ∀ i, (rsB ev es i).length ≤ 4 * i
  | 0 => by simp [rsB]
  | i + 1 => by
    have := rsB_len ev es i
    unfold rsB
    split
    · simp only [List.length_append, fourB_len]; omega
    · omega
theorem outB_mono (ev : Nat) (es : List En) (i : Nat) : ∀ j, i ≤ j → (outB ev es i).length ≤ (outB ev es j).length := by
  intro j
  induction j with
  | zero =>
    intro h
    obtain rfl : i = 0 := by omega
    exact Nat.le_refl _
  | succ j ih =>
    intro h
    by_cases e : i = j + 1
    · rw [e]; exact Nat.le_refl _
    · have h1 := ih (by omega)
      refine Nat.le_trans h1 ?_
      conv => rhs; unfold outB
      split
      · rw [List.length_append]; omega
      · exact Nat.le_refl _
theorem shB_le {ev i : Nat} {es : List En} {x : En} (h : es[i]? = some x) : shB ev es i ≤ x.key.length := by
  unfold shB
  rw [h]
  split
  · omega
  · split
    · rename_i a b h1 h2
      injection h2 with h2
      subst h2
      exact (comB_le _ _).2
    · omega
theorem entB_len {s : Nat} {x : En} (h0 : s ≤ x.key.length) (h1 : x.key.length ≤ 1024) (h2 : x.val.length ≤ 65536) (h3 : U64 x.seq) : (entB s x).length ≤ 66700 := by
  have p1 := putU_len64 s (show s < B64 by unfold B64; omega)
  have p2 := putU_len64 (x.key.length - s) (show x.key.length - s < B64 by unfold B64; omega)
  have p3 := putU_len64 x.seq (show x.seq < B64 from h3)
  have p5 := putU_len64 x.val.length (show x.val.length < B64 by unfold B64; omega)
  unfold entB
  simp only [List.length_append, List.length_cons, List.length_nil, List.length_drop]
  omega
theorem dj_none (B : Option Addr) : Dj none B := fun b h => by cases h
/-- The two rows that are made: the entries' bytes, the restarts' places. -/
def CS (w0 : World) (O : Option Addr) (oc : Nat) (out : List UInt8) (R : Option Addr) (rc : Nat) (rs : List UInt8) (wr : World) : Prop :=
  Own 5 wr w0.heap.size O out.length oc out ∧ Own 5 wr w0.heap.size R rs.length rc rs ∧ Dj O R ∧ Below w0.heap.size w0 wr
theorem CS.below {w0 wr wx : World} {O R : Option Addr} {oc rc : Nat} {out rs : List UInt8} (h : CS w0 O oc out R rc rs wr) (hb : Below wr.heap.size wr wx) : CS w0 O oc out R rc rs wx := by
  obtain ⟨h1, h2, h3, h4⟩ := h
  exact ⟨h1.below hb, h2.below hb, h3, h4.trans (hb.mono h4.size)⟩
theorem CS.left {w0 wr wx : World} {O R O' : Option Addr} {oc rc oc' : Nat} {out out' rs : List UInt8} (h : CS w0 O oc out R rc rs wr) (ho : Own 5 wx w0.heap.size O' out'.length oc' out') (hg : Grow wr wx O O') : CS w0 O' oc' out' R rc rs wx := by
  obtain ⟨h1, h2, h3, h4⟩ := h
  exact ⟨ho, hg.kept h2 h3, hg.dj h2 h3, h4.trans (hg.below h1 h4.size)⟩
theorem CS.right {w0 wr wx : World} {O R R' : Option Addr} {oc rc rc' : Nat} {out rs rs' : List UInt8} (h : CS w0 O oc out R rc rs wr) (ho : Own 5 wx w0.heap.size R' rs'.length rc' rs') (hg : Grow wr wx R R') : CS w0 O oc out R' rc' rs' wx := by
  obtain ⟨h1, h2, h3, h4⟩ := h
  exact ⟨hg.kept h1 h3.symm, ho, (hg.dj h1 h3.symm).symm, h4.trans (hg.below h2 h4.size)⟩
theorem ClG.off {w0 w w' : World} {g n c : Nat} {us : Array Value} {A A' : Option Addr} {xs : List UInt8} (h : Cl w g us 33) (ho : Own 5 w w0.heap.size A n c xs) (hne : 33 ≠ 5) (hg : Grow w w' A A') : Cl w' g us 33 :=
  ClG.grown h hg.1 (fun e2 => by
    rcases ho.2 with ⟨k1, _⟩ | ⟨g2, cap2, cur2, k1, _, kg, _⟩
    · injection k1 with k1
      rw [k1] at e2
      cases e2
    · injection k1 with k1
      rw [k1] at e2
      injection e2 with e2
      simp only at e2
      subst e2
      rw [h] at kg
      injection kg with kg
      injection kg with _ kg _
      exact hne kg)
/-- What contents hands back: all that is sealed, or more than a record may have. -/
def RetCt (ev : Nat) (es : List En) (w : World) (e : Ending) (w' : World) : Prop :=
  ∃ A c ys, e = .returned (.slice A ys.length c) ∧ Own 5 w' w.heap.size A ys.length c ys ∧ Below w.heap.size w w' ∧ ys.length ≤ 100000000 ∧ ((1048576 < ys.length ∧ ys.length ≤ (fullB ev es).length) ∨ ys = fullB ev es)
set_option maxRecDepth 100000 in
set_option maxHeartbeats 16000000 in
theorem contents_any {w : World} {A : Option Addr} {n c : Nat} {es : List En} (h : REs w A n es) (hn : n ≤ 16777216) (hs : ∀ x ∈ es, x.key.length ≤ 1024 ∧ x.val.length ≤ 65536) (ev : Nat) (he : 1 ≤ ev) (he2 : ev ≤ 9223372036854775807) :
    Calls Try.prog 71 #[.int .i64 (ev : Int), .slice A n c] w (RetCt ev es w) := by
  have HL := Lib.hid h.len
  have HR := Lib.hid h
  have HS := Lib.hid hs
  have HW := Lib.hid h.wf
  clear h hs
  go_enter Try.func71, Try.ntmps71
  go_wp2_with fail
  go_loopw [5, 6, 12] (fun s5 s6 s12 wr => ∃ (i on rn : Nat) (O R : Option Addr) (oc rc : Nat), i ≤ n ∧ s12 = .int .i64 (i : Int) ∧ on = (outB ev es i).length ∧ rn = (rsB ev es i).length ∧ s5 = .slice O on oc ∧ s6 = .slice R rn rc ∧ on ≤ 1048576 ∧ CS w O oc (outB ev es i) R rc (rsB ev es i) wr) (fun _ _ s _ => n - (intOf s).toNat)
  case atStart => exact ⟨0, 0, 0, none, none, 0, 0, Nat.zero_le _, rfl, rfl, rfl, rfl, rfl, by omega, Own.nil _ _ _, Own.nil _ _ _, dj_none _, Below.refl _ _⟩
  case round =>
    obtain ⟨i, on, rn, O, R, oc, rc, hi, rfl, hon, hrn, rfl, rfl, hol, hC⟩ := hrel
    have hrl := rsB_len ev es i
    have hrn4 : rn ≤ 4 * i := by omega
    have HON := Lib.hid hon
    have HRN := Lib.hid hrn
    have HC := Lib.hid hC
    have hbC := hC.2.2.2
    clear hon hrn hC hrl
    by_cases hlt : i < n
    · obtain ⟨b, off, hAb, hbl⟩ := HR.out.pos (by omega)
      subst hAb
      obtain ⟨x, v0, v1, v2, v3, hx, c0', c1', c2', c3', hev⟩ := HR.out.at_ i hlt
      have c0 := (hbC.cell (p := ⟨b, off + i * 4, none⟩) hbl).trans c0'
      have c1 := (hbC.cell (p := ⟨b, off + i * 4 + 1, none⟩) hbl).trans c1'
      have c2 := (hbC.cell (p := ⟨b, off + i * 4 + 2, none⟩) hbl).trans c2'
      have c3 := (hbC.cell (p := ⟨b, off + i * 4 + 3, none⟩) hbl).trans c3'
      have HXI := Lib.hid hx
      have HXS := Lib.hid (HS.out x (List.mem_of_getElem? hx))
      have HXW := Lib.hid (HW.out x (List.mem_of_getElem? hx)).1
      have HEV := Lib.hid hev
      obtain ⟨K, kn, kc, V, vn, vc, rfl, rfl, rfl, rfl, r0, r3, _⟩ := hev.parts
      have HR0 := Lib.hid r0
      obtain ⟨m, hm⟩ : ∃ m, m = i % ev := ⟨_, rfl⟩
      have e1 : ((i : Int) % (ev : Int)) = (m : Int) := by rw [hm]; push_cast; rfl
      have hml : m < 9223372036854775807 := by have := Nat.mod_lt i (show 0 < ev by omega); omega
      have HM := Lib.hid hm
      obtain ⟨sh, hsh⟩ : ∃ sh, sh = shB ev es i := ⟨_, rfl⟩
      have HSH := Lib.hid hsh
      obtain ⟨U, hU⟩ : ∃ U, U = wr.alloc (.cells #[.slice K kn kc, .int .u64 (x.seq : Int), .int .u8 (x.kind : Int), .slice V vn vc] 33) := ⟨_, rfl⟩
      obtain ⟨g, hg⟩ : ∃ g, g = wr.heap.size := ⟨_, rfl⟩
      have bU : Below wr.heap.size wr U := by rw [hU]; exact (Below.refl _ _).alloc (Nat.le_refl _) _
      have HCU := Lib.hid (HC.out.below bU)
      have kU : Cl U g #[.slice K kn kc, .int .u64 (x.seq : Int), .int .u8 (x.kind : Int), .slice V vn vc] 33 := by rw [hU, hg]; exact Cl.new _ _ _
      have HKU := Lib.hid kU
      have hwU : w.heap.size ≤ U.heap.size := HCU.out.2.2.2.size
      clear hx hev r0 r3 hm hsh bU kU c0' c1' c2' c3'
      go_upto_if 20 with (fail)
      rw [← hU, ← hg]
      have HU := Lib.hid hU
      have HG := Lib.hid hg
      clear hU hg
      obtain ⟨rs2, hrs2⟩ : ∃ rs2, rs2 = rsB ev es (i + 1) := ⟨_, rfl⟩
      obtain ⟨rn2, hrn2⟩ : ∃ rn2, rn2 = rs2.length := ⟨_, rfl⟩
      have HRS2 := Lib.hid hrs2
      have HRN2 := Lib.hid hrn2
      clear hrs2 hrn2
      go_cut [6, 9] from 17 to 34 (fun s6 s9 wx => ∃ (R' : Option Addr) (rc' : Nat), s6 = .slice R' rn2 rc' ∧ s9 = .int .i64 (sh : Int) ∧ CS w O oc (outB ev es i) R' rc' rs2 wx ∧ Cl wx g #[.slice K kn kc, .int .u64 (x.seq : Int), .int .u8 (x.kind : Int), .slice V vn vc] 33)
      case first =>
        by_cases hm0 : m = 0
        · subst hm0
          have hrs : rs2 = rsB ev es i ++ fourB on := by rw [HRS2.out, rsB, if_pos HM.out.symm, ← HON.out]
          have hsh0 : sh = 0 := by rw [HSH.out, shB, if_pos HM.out.symm]
          subst hsh0
          have hR' := HCU.out.2.1
          rw [← HRN.out] at hR'
          have HAW := Lib.hid (appendWord_any R rn rc (rsB ev es i) w.heap.size on U hR' hwU (by omega) (by omega))
          have HRS := Lib.hid hrs
          clear hrs hR'
          go_wp2_with fail
          with_reducible refine HAW.out.mono ?_
          rintro e wx ⟨R', rc', rfl, oR, gR⟩
          have hln : rn + (fourB on).length = rn2 := by rw [HRN2.out, HRS.out, List.length_append, ← HRN.out]
          rw [hln] at oR ⊢
          rw [← HRS.out] at oR
          have hcs : CS w O oc (outB ev es i) R' rc' rs2 wx := HCU.out.right (by rw [← HRN2.out]; exact oR) gR
          have hkx : Cl wx g #[.slice K kn kc, .int .u64 (x.seq : Int), .int .u8 (x.kind : Int), .slice V vn vc] 33 := ClG.off HKU.out HCU.out.2.1 (by decide) gR
          have HF := Lib.hid (And.intro hcs hkx)
          clear oR gR hcs hkx hln
          go_wp2_with fail
          go_meet
          case rel => exact ⟨R', rc', by first | rfl | simp, by first | rfl | simp, HF.out.1, HF.out.2⟩
        · have t1 : ((m : Int) == 0) = false := by simp; omega
          have hrs : rs2 = rsB ev es i := by rw [HRS2.out, rsB, if_neg (by rw [← HM.out]; exact hm0)]
          obtain ⟨j, hj⟩ : ∃ j, j = i - 1 := ⟨_, rfl⟩
          have hi0 : 0 < i := by
            rcases Nat.eq_zero_or_pos i with h0 | h0
            · exact absurd (by rw [HM.out, h0, Nat.zero_mod]) hm0
            · exact h0
          obtain ⟨y, u0, u1, u2, u3, hy, d0', d1', d2', d3', hew⟩ := HR.out.at_ j (by omega)
          obtain ⟨L, ln, lc, _, _, _, hu0, _, _, _, r0', _⟩ := hew.parts
          subst hu0
          have hsh2 : sh = comB y.key x.key := by
            rw [HSH.out, shB, if_neg (by rw [← HM.out]; exact hm0), ← hj, hy, HXI.out]
          have hsy := HS.out y (List.mem_of_getElem? hy)
          have hkn1 : kn ≤ 1099511627776 := by have := HXS.out.1; have := HR0.out.len; omega
          have hln1 : ln ≤ 1099511627776 := by have := r0'.len; omega
          have d0 : U.cell? ⟨b, off + j * 4, none⟩ = some (.slice L ln lc) := (HCU.out.2.2.2.cell (p := ⟨b, off + j * 4, none⟩) hbl).trans d0'
          have k0 := HKU.out.c4.1
          have e2 : IntKind.i64.wrap ((i : Int) - 1) = (j : Int) := by rw [IntWalk.i64_in _ (by omega)]; omega
          have hjn : j < n := by omega
          have HCM : Hid (∀ q, Calls Try.prog 104 #[.slice L ln lc, .slice K kn kc] (U.drewN q) (RetCo (U.drewN q) sh)) := Lib.hid (fun q => by
            rw [hsh2]
            exact common_any L K ln kn lc kc y.key x.key _ ((r0'.below HCU.out.2.2.2).drewN q) ((HR0.out.below HCU.out.2.2.2).drewN q) hln1 hkn1)
          have HRS := Lib.hid hrs
          have HJ := Lib.hid hj
          have hoi : off + j * 4 + 0 = off + j * 4 := rfl
          clear hrs hj hy d0' d1' d2' d3' hew r0' hsh2 hsy hoi
          go_wp2_with fail
          go_quiet ((go_at_call 104; with_reducible exact Calls.quiet_of (HCM.out _)))
          have hcs : CS w O oc (outB ev es i) R rc rs2 (U.drewN nq) := by
            rw [HRS.out]
            exact HCU.out.below (below_drewN (Below.refl _ _) nq)
          have HF := Lib.hid (And.intro hcs (HKU.out.drewN nq))
          have hln : rn = rn2 := by rw [HRN2.out, HRS.out, ← HRN.out]
          subst hln
          clear hcs
          go_wp2_with fail
          go_meet
          case rel => exact ⟨R, rc, by first | rfl | simp, by first | rfl | simp, HF.out.1, HF.out.2⟩
      case rest =>
        obtain ⟨R', rc', rfl, rfl, hcs, hkx⟩ := hcut
        have hO := hcs.1
        rw [← HON.out] at hO
        have hxe := entB_len (s := sh) (x := x) (by rw [HSH.out]; exact shB_le HXI.out) HXS.out.1 HXS.out.2 HXW.out
        have HAE := Lib.hid (appendEntry_any HEV.out ⟨by have := HXS.out.1; omega, by have := HXS.out.2; omega⟩ sh (by rw [HSH.out]; exact shB_le HXI.out) O on oc (outB ev es i) hO hcs.2.2.2 (by omega))
        have hstep : outB ev es (i + 1) = outB ev es i ++ entB sh x := by rw [outB_step HXI.out, HSH.out]
        obtain ⟨ol, hol2⟩ : ∃ ol, ol = on + (entB sh x).length := ⟨_, rfl⟩
        have holn : ol = (outB ev es (i + 1)).length := by rw [hstep, List.length_append, ← HON.out, hol2]
        have hob : ol ≤ 1200000 := by omega
        have HOL := Lib.hid hol2
        have HOLN := Lib.hid holn
        have HST := Lib.hid hstep
        have HCS := Lib.hid hcs
        obtain ⟨k0, k1, k2, k3, _⟩ := hkx.c4
        have HG2 := Lib.hid hkx
        clear hO hcs hkx hxe hstep hol2 holn
        go_wp2_with fail
        with_reducible refine HAE.out.mono ?_
        rintro e w3 ⟨O', oc', rfl, oO, gO⟩
        rw [← HOL.out] at oO ⊢
        rw [← HST.out] at oO
        have hc3 : CS w O' oc' (outB ev es (i + 1)) R' rc' rs2 w3 := HCS.out.left (by rw [← HOLN.out]; exact oO) gO
        have HC3 := Lib.hid hc3
        clear oO gO hc3
        by_cases hbig : 1048576 < ol
        · go_wp2_with fail
          go_ret
          have h1 := HC3.out.1
          have h2 := HOLN.out
          unfold RetCt
          refine ⟨O', oc', _, by rw [h2]; rfl, h1, HC3.out.2.2.2, by omega, .inl ⟨by omega, ?_⟩⟩
          unfold fullB
          rw [List.length_append, List.length_append]
          have := outB_mono ev es (i + 1) es.length (by rw [HL.out]; omega)
          omega
        · go_wp2_with fail
          go_roundw
          case rel => exact ⟨i + 1, ol, rn2, O', R', oc', rc', by omega, by go_num, HOLN.out, by rw [HRN2.out, HRS2.out], rfl, rfl, by omega, by rw [← HRS2.out]; exact HC3.out⟩
          case measure => simp [intOf]; omega
    · obtain rfl : i = n := by omega
      have hsw := hbC.size
      have hO := HC.out.1
      rw [← HON.out] at hO
      have hRd := HC.out.2.1.rd
      rw [← HRN.out] at hRd
      have hDj := HC.out.2.2.1
      have HR2 := Lib.hid HC.out.2.1
      clear hbC
      go_wp2_with (at_builtin; refine wpList_appX _ rfl _ _ 22 rfl w.heap.size 5 Try.underlying22 info_u8 O on oc _ rfl hO R rn rc (rsB ev es i) rfl hRd ?_ ?_ ?_)
      · omega
      · exact hsw
      intro O2 oc2 w2 o2 g2
      obtain ⟨q, hq⟩ : ∃ q, q = rn / 4 := ⟨_, rfl⟩
      have e3 : (rn : Int) / 4 = (q : Int) := by rw [hq]; omega
      have hb2 : Below w.heap.size w w2 := HC.out.2.2.2.trans (g2.below HC.out.1 hsw)
      have hq2 : q ≤ 16777216 := by omega
      have HAW := Lib.hid (appendWord_any O2 (on + rn) oc2 _ w.heap.size q w2 o2 hb2.size (by omega) (by omega))
      have HQ := Lib.hid hq
      have HO2 := Lib.hid o2
      have HB2 := Lib.hid hb2
      clear hO hRd hDj g2 hq o2 hb2
      go_wp2_with fail
      with_reducible refine HAW.out.mono ?_
      rintro e w3 ⟨O3, oc3, rfl, o3, g3⟩
      have hb3 : Below w.heap.size w w3 := HB2.out.trans (g3.below HO2.out HB2.out.size)
      have hfull : (outB ev es i ++ rsB ev es i) ++ fourB q = fullB ev es := by
        unfold fullB
        rw [HL.out, HQ.out, ← HRN.out]
      rw [hfull] at o3
      have hlen : on + rn + (fourB q).length = (fullB ev es).length := by
        rw [← hfull, List.length_append, List.length_append, ← HON.out, ← HRN.out]
      have hl2 : (fullB ev es).length ≤ 100000000 := by
        rw [← hlen, fourB_len]; omega
      rw [hlen] at o3 ⊢
      have HF := Lib.hid (And.intro o3 (And.intro hb3 hl2))
      clear o3 g3 hb3 hfull hlen hl2
      go_wp2_with fail
      go_ret
      exact ⟨O3, oc3, _, rfl, HF.out.1, HF.out.2.1, HF.out.2.2, .inr rfl⟩
end Go.Proofs.Ytoaajkdhlhopmaa
namespace Go.Proofs.Ytoaajkdhlhopmaa
open Go Go.RowKit

theorem or_byte64 {m : Nat} (b : UInt8) (h : m < 16777216) : bits .or .i64 ((m : Int) * 256) (b.toNat : Int) = ((m * 256 + b.toNat : Nat) : Int) := by
  have hb := b.toNat_lt
  have h1 := (bits_nat .i64 32 (by decide) (fun n h1 h2 => IntWalk.i64_in n (by simp at h2; omega)) (m * 256) b.toNat (by simp; omega) (by simp; omega)).2
  have h2 : m * 256 ||| b.toNat = m * 256 + b.toNat := by
    rw [Nat.mul_comm]
    exact (Nat.two_pow_add_eq_or_of_lt (i := 8) (by simpa using hb) m).symm
  rw [h2] at h1
  exact h1
set_option maxRecDepth 100000 in
set_option maxHeartbeats 1000000 in
theorem getWord8_any (A : Option Addr) (n c : Nat) (xs : List UInt8) (w : World) (hx : Rd w A n xs) (h4 : 4 ≤ n) (hn : n ≤ 1099511627776) (hnc : n ≤ c) :
    Calls Try.prog 93 #[.slice A n c] w (RetCo w (numK xs 4)) := by
  have hsl : ∀ w, (Instr.slice 22 (.slice A n c) none (some (.int .i64 4)) none).run Try.prog w = .ok (.slice A 4 c) w :=
    cut_h Try.underlying22 elem_bytes size_u8 A (m := 4) (by omega)
  go_enter Try.func93, Try.ntmps93
  go_wp2
  go_loopw [3, 9] (fun vm vi wr => ∃ m i q : Nat, vm = .int .i64 m ∧ vi = .int .i64 i ∧ i ≤ 4 ∧ m = numK xs i ∧ wr = w.drewN q) (fun _ vi _ => 4 - (intOf vi).toNat)
  case atStart => exact ⟨0, 0, 0, rfl, rfl, by omega, rfl, rfl⟩
  case round =>
    obtain ⟨m, i, q, rfl, rfl, hi, hm, rfl⟩ := hrel
    have hml := numK_lt xs i
    rw [← hm] at hml
    have Hm := Lib.hid hm
    clear hm
    by_cases hlt : i < 4
    · have hm3 : m < 16777216 := Nat.lt_of_lt_of_le hml (Nat.le_trans (Nat.pow_le_pow_right (by decide) (show i ≤ 3 by omega)) (by decide))
      clear hml
      obtain ⟨bf, off, rfl, _⟩ := hx.pos (by omega)
      obtain ⟨b, hb, hc, _⟩ := hx.at_ i (by omega)
      have hb8 := b.toNat_lt
      have e1 := or_byte64 b hm3
      have HR : Hid (m * 256 + b.toNat = numK xs (i + 1)) := Lib.hid (by rw [numK_take hb, Hm.out])
      clear hb
      obtain ⟨W, hW⟩ : ∃ W, W = w.drewN q := ⟨_, rfl⟩
      have c1 : W.cell? ⟨bf, off + i, none⟩ = some (.int .u8 (b.toNat : Int)) := by rw [hW]; exact hc
      rw [← hW]
      have HW := Lib.hid hW
      clear hW hc
      go_wp2
      go_roundw
      case rel => exact ⟨m * 256 + b.toNat, i + 1, q, by go_num, by go_num, by omega, HR.out, HW.out⟩
      case measure => simp [intOf]; omega
    · obtain rfl : i = 4 := by omega
      clear hml
      go_wp2
      go_ret
      exact ⟨by rw [Hm.out]; rfl, q, rfl⟩
/-- What is sealed, parted: the entries' bytes, the restarts' places. -/
def splitB (xs : List UInt8) : Option (List UInt8 × List UInt8) :=
  if xs.length < 4 then none else
    let k := numK (xs.drop (xs.length - 4)) 4
    if (xs.length - 4) / 4 < k then none else some (xs.take (xs.length - 4 - 4 * k), (xs.take (xs.length - 4)).drop (xs.length - 4 - 4 * k))
/-- What split hands back: two pieces of what came in, or none. -/
def RetSp8 (w : World) (A : Option Addr) (xs : List UInt8) (e : Ending) (w' : World) : Prop :=
  (∃ q, w' = w.drewN q) ∧ ((splitB xs = none ∧ e = .returned (.tuple #[.slice none 0 0, .slice none 0 0, .bool false])) ∨
  ∃ ys zs B1 n1 c1 B2 n2 c2, splitB xs = some (ys, zs) ∧ e = .returned (.tuple #[.slice B1 n1 c1, .slice B2 n2 c2, .bool true]) ∧ n1 ≤ c1 ∧ n2 ≤ c2 ∧ Rd w B1 n1 ys ∧ Rd w B2 n2 zs ∧ (B1 = none → c1 = 0) ∧ (B2 = none → c2 = 0) ∧ (blk B1 = none ∨ blk B1 = blk A) ∧ n1 + n2 + 4 = xs.length)
set_option maxRecDepth 100000 in
set_option maxHeartbeats 4000000 in
theorem split_any (A : Option Addr) (n c : Nat) (xs : List UInt8) (w : World) (hx : Rd w A n xs) (hn : n ≤ 1099511627776) (hnc : n ≤ c) (hnil : A = none → c = 0) :
    Calls Try.prog 92 #[.slice A n c] w (RetSp8 w A xs) := by
  have hxl := hx.len
  by_cases h4 : n < 4
  · have hs : splitB xs = none := by unfold splitB; rw [if_pos (by omega)]
    have e1 : IntKind.i64.wrap ((n : Int) - 4) = (n : Int) - 4 := IntWalk.i64_in _ (by omega)
    have t1 : (n : Int) - 4 < 0 := by omega
    have t2 : (n : Int) < 4 := by omega
    have HS := Lib.hid hs
    clear hx hs hxl
    go_enter Try.func92, Try.ntmps92
    go_wp2_with fail
    exact bodyPost_ret (v := .tuple #[.slice none 0 0, .slice none 0 0, .bool false]) (by simp [results, Try.f92, go_sem]; try rfl) rfl ⟨⟨0, rfl⟩, .inl ⟨HS.out, rfl⟩⟩
  · obtain ⟨m, hm⟩ : ∃ m, m = n - 4 := ⟨_, rfl⟩
    have e1 : IntKind.i64.wrap ((n : Int) - 4) = (m : Int) := by rw [IntWalk.i64_in _ (by omega)]; omega
    obtain ⟨k, hk⟩ : ∃ k, k = numK (xs.drop m) 4 := ⟨_, rfl⟩
    have hkl : k < 4294967296 := by rw [hk]; exact Nat.lt_of_lt_of_le (numK_lt _ 4) (by decide)
    have hsl : ∀ W : World, (Instr.slice 22 (.slice A n c) (some (.int .i64 (m : Int))) none none).run Try.prog W = .ok (.slice (cutA A m c) 4 (c - m)) W := fun W => by
      have := cut_l Try.underlying22 elem_bytes size_u8 A (n := n) (cap := c) (k := m) (by omega) W
      rw [show n - m = 4 by omega] at this
      exact this
    have hrd : Rd w (cutA A m c) 4 (xs.drop m) := by
      have := hx.cut (k := m) (m := n) (cap := c) (by omega) (Nat.le_refl _) hnc
      rw [List.take_of_length_le (by omega), show n - m = 4 by omega] at this
      exact this
    have HGW : Hid (Calls Try.prog 93 #[.slice (cutA A m c) 4 (c - m)] w (RetCo w k)) := Lib.hid (by
      rw [hk]
      exact getWord8_any _ 4 _ _ w hrd (by omega) (by omega) (by omega))
    have e2 : (m : Int) / 4 = ((m / 4 : Nat) : Int) := by omega
    obtain ⟨d, hd⟩ : ∃ d, d = m / 4 := ⟨_, rfl⟩
    have e3 : (m : Int) / 4 = (d : Int) := by omega
    by_cases hdk : d < k
    · have hs : splitB xs = none := by
        unfold splitB
        rw [if_neg (by omega), hxl, ← hm]
        simp only
        rw [← hk, ← hd, if_pos hdk]
      have HS := Lib.hid hs
      clear hx hs hxl hrd hm hk hd e2
      go_enter Try.func92, Try.ntmps92
      go_wp2_with fail
      with_reducible refine HGW.out.mono ?_
      rintro e w2 ⟨rfl, q, hq⟩
      go_wp2_with fail
      exact bodyPost_ret (v := .tuple #[.slice none 0 0, .slice none 0 0, .bool false]) (by simp [results, Try.f92, go_sem]; try rfl) rfl ⟨⟨q, by first | exact hq | rfl⟩, .inl ⟨HS.out, rfl⟩⟩
    · obtain ⟨b, hb⟩ : ∃ b, b = m - 4 * k := ⟨_, rfl⟩
      have e4 : IntKind.i64.wrap (4 * (k : Int)) = 4 * (k : Int) := IntWalk.i64_in _ (by omega)
      have e5 : IntKind.i64.wrap ((m : Int) - 4 * (k : Int)) = (b : Int) := by rw [IntWalk.i64_in _ (by omega)]; omega
      have hbm : b ≤ m := by omega
      have hmn : m ≤ n := by omega
      have hs : splitB xs = some (xs.take b, (xs.take m).drop b) := by
        unfold splitB
        rw [if_neg (by omega), hxl, ← hm]
        simp only
        rw [← hk, ← hd, if_neg hdk, ← hb]
      have s1 : ∀ W : World, (Instr.slice 22 (.slice A n c) none (some (.int .i64 (b : Int))) none).run Try.prog W = .ok (.slice A b c) W := cut_h Try.underlying22 elem_bytes size_u8 A (by omega)
      have s2 : ∀ W : World, (Instr.slice 22 (.slice A n c) (some (.int .i64 (b : Int))) (some (.int .i64 (m : Int))) none).run Try.prog W = .ok (.slice (cutA A b c) (m - b) (c - b)) W := cut_lh Try.underlying22 elem_bytes size_u8 A hbm (by omega)
      obtain ⟨z, hz⟩ : ∃ z, z = m - b := ⟨_, rfl⟩
      rw [← hz] at s2
      have hcn : cutA A b c = none → c - b = 0 := fun hh => by
        unfold cutA at hh
        split at hh
        · omega
        · cases A with
          | none => have := hnil rfl; omega
          | some _ => cases hh
      have hfin : ∀ q, RetSp8 w A xs (.returned (.tuple #[.slice A b c, .slice (cutA A b c) z (c - b), .bool true])) (w.drewN q) := fun q =>
        ⟨⟨q, rfl⟩, .inr ⟨xs.take b, (xs.take m).drop b, A, b, c, cutA A b c, z, c - b, hs, rfl, by omega, by omega, hx.take (by omega), by rw [hz]; exact hx.cut hbm hmn hnc, hnil, hcn, .inr rfl, by omega⟩⟩
      have HF := Lib.hid hfin
      clear hx hs hxl hrd hm hk hd e2 hb hcn hfin hz
      go_enter Try.func92, Try.ntmps92
      go_wp2_with fail
      with_reducible refine HGW.out.mono ?_
      rintro e w2 ⟨rfl, q, hq⟩
      have HQ := Lib.hid hq
      clear hq
      go_wp2_with fail
      go_quiet (fail)
      go_wp2_with fail
      refine bodyPost_ret (v := .tuple #[.slice A b c, .slice (cutA A b c) z (c - b), .bool true]) (by simp [results, Try.f92, go_sem]; try rfl) rfl ?_
      have := HF.out (q + nq)
      rw [← World.drewN_drewN, ← HQ.out] at this
      exact this
end Go.Proofs.Ytoaajkdhlhopmaa
namespace Go.Proofs.Ytoaajkdhlhopmaa
open Go Go.RowKit

/-- 'All memory that these values name lies in good blocks.' -/
def GV (G : Nat → Prop) (vs : List Value) : Prop := ∀ A m c g, Value.slice A m c ∈ vs → 0 < m → blk A = some g → G g
/-- 'The slice of n entries at A reads as these, and its memory lies in good blocks.' -/
def RG (G : Nat → Prop) (w : World) (A : Option Addr) (n : Nat) (es : List En) : Prop :=
  es.length = n ∧ ∃ vs, EVs w es vs ∧ RdV w A (n * 4) vs ∧ GV G vs ∧ (0 < n → ∀ g, blk A = some g → G g)
/-- 'What is good and was there stands.' -/
def FrG (G : Nat → Prop) (w w' : World) : Prop := w.heap.size ≤ w'.heap.size ∧ ∀ b, b < w.heap.size → G b → w'.heap[b]? = w.heap[b]?
section
variable {G H : Nat → Prop} {w w' w2 : World} {A : Option Addr} {n : Nat} {es gs : List En} {vs us : List Value}
theorem GV.app (h1 : GV G vs) (h2 : GV G us) : GV G (vs ++ us) := fun A m c g hv => by
  rcases List.mem_append.1 hv with h | h
  · exact h1 A m c g h
  · exact h2 A m c g h
theorem GV.nil : GV G [] := fun A m c g hv => by cases hv
theorem GV.sub (h : GV G vs) (hs : ∀ u ∈ us, u ∈ vs) : GV G us := fun A m c g hv => h A m c g (hs _ hv)
theorem GV.mono (h : GV G vs) (hs : ∀ g, G g → H g) : GV H vs := fun A m c g hv h0 hb => hs g (h A m c g hv h0 hb)
theorem RG.res (h : RG G w A n es) : REs w A n es := by
  obtain ⟨h1, vs, h2, h3, _⟩ := h
  exact REs.mk h2 h3 h1
theorem RG.len (h : RG G w A n es) : es.length = n := h.1
theorem RG.nil (G : Nat → Prop) (w : World) (A : Option Addr) : RG G w A 0 [] := ⟨rfl, [], rfl, RdV.nil _ _, GV.nil, fun h => absurd h (by omega)⟩
theorem RG.below (h : RG G w A n es) (hb : Below w.heap.size w w') : RG G w' A n es := by
  obtain ⟨h1, vs, h2, h3, h4⟩ := h
  exact ⟨h1, vs, h2.below hb, h3.below hb, h4⟩
theorem FrG.refl (G : Nat → Prop) (w : World) : FrG G w w := ⟨Nat.le_refl _, fun _ _ _ => rfl⟩
theorem FrG.trans (h : FrG G w w') (k : FrG G w' w2) : FrG G w w2 := ⟨Nat.le_trans h.1 k.1, fun b hb hg => (k.2 b (Nat.lt_of_lt_of_le hb h.1) hg).trans (h.2 b hb hg)⟩
theorem FrG.of_below (h : Below w.heap.size w w') : FrG G w w' := ⟨h.size, fun b hb _ => h.block b hb⟩
theorem FrG.of_grown {row : Option Nat} (h : w.grownBy w' row) (hr : ∀ g, row = some g → ¬ G g) : FrG G w w' := by
  obtain ⟨_, _, _, h4, h5⟩ := h
  exact ⟨h4, fun b hb hg => h5 b hb (fun e => hr b e.symm hg)⟩
theorem cell_of_heap {p : Addr} (h : w'.heap[p.block]? = w.heap[p.block]?) : w'.cell? p = w.cell? p := by
  unfold World.cell?
  rw [h]
theorem rd_good {xs : List UInt8} (h : Rd w A n xs) (hg : 0 < n → ∀ g, blk A = some g → G g) (hf : FrG G w w') : Rd w' A n xs := by
  refine ⟨h.1, fun hn => ?_⟩
  obtain ⟨b, off, rfl, h2, h3⟩ := h.2 hn
  exact ⟨b, off, rfl, Nat.lt_of_lt_of_le h2 hf.1, fun i x hx => (cell_of_heap (p := ⟨b, off + i, none⟩) (hf.2 b h2 (hg hn b rfl))).trans (h3 i x hx)⟩
theorem rdv_good (h : RdV w A n vs) (hg : 0 < n → ∀ g, blk A = some g → G g) (hf : FrG G w w') : RdV w' A n vs := by
  refine ⟨h.1, fun hn => ?_⟩
  obtain ⟨b, off, rfl, h2, h3⟩ := h.2 hn
  exact ⟨b, off, rfl, Nat.lt_of_lt_of_le h2 hf.1, fun i x hx => (cell_of_heap (p := ⟨b, off + i, none⟩) (hf.2 b h2 (hg hn b rfl))).trans (h3 i x hx)⟩
theorem ev_good {e : En} {v0 v1 v2 v3 : Value} (h : EV w e v0 v1 v2 v3) (hg : GV G [v0, v1, v2, v3]) (hf : FrG G w w') : EV w' e v0 v1 v2 v3 := by
  obtain ⟨h1, h2, h3, h4, ⟨K, kn, kc, rfl, r0, c0, d0⟩, ⟨V, vn, vc, rfl, r3, c3, d3⟩⟩ := h
  exact ⟨h1, h2, h3, h4, ⟨K, kn, kc, rfl, rd_good r0 (fun h0 g hb => hg K kn kc g (by simp) h0 hb) hf, c0, d0⟩, ⟨V, vn, vc, rfl, rd_good r3 (fun h0 g hb => hg V vn vc g (by simp) h0 hb) hf, c3, d3⟩⟩
theorem evs_good (hf : FrG G w w') : ∀ {es : List En} {vs : List Value}, EVs w es vs → GV G vs → EVs w' es vs
  | [], _, h, _ => h
  | _ :: _, _, ⟨v0, v1, v2, v3, r, e, h1, h2⟩, hg => ⟨v0, v1, v2, v3, r, e, ev_good h1 (hg.sub (fun u hu => by rw [e]; simp only [List.mem_cons, List.not_mem_nil, or_false] at hu ⊢; rcases hu with h | h | h | h <;> simp [h])) hf, evs_good hf h2 (hg.sub (fun u hu => by rw [e]; simp [hu]))⟩
/-- Behind whatever leaves the good blocks. -/
theorem RG.good (h : RG G w A n es) (hf : FrG G w w') : RG G w' A n es := by
  obtain ⟨h1, vs, h2, h3, h4, h5⟩ := h
  exact ⟨h1, vs, evs_good hf h2 h4, rdv_good h3 (fun h0 => h5 (by omega)) hf, h4, h5⟩
theorem ev_mem {e : En} {v0 v1 v2 v3 : Value} (h : EV w e v0 v1 v2 v3) {B : Option Addr} {m c : Nat} (hv : Value.slice B m c ∈ [v0, v1, v2, v3]) (h0 : 0 < m) {g : Nat} (hb : blk B = some g) : g < w.heap.size := by
  obtain ⟨K, kn, kc, V, vn, vc, rfl, rfl, rfl, rfl, r0, r3, _⟩ := h.parts
  simp only [List.mem_cons, List.not_mem_nil, or_false] at hv
  rcases hv with e | e | e | e
  · injection e with e1 e2 e3
    subst e1 e2
    obtain ⟨b, off, rfl, hl⟩ := r0.pos h0
    injection hb with hb
    rw [← hb]; exact hl
  · cases e
  · cases e
  · injection e with e1 e2 e3
    subst e1 e2
    obtain ⟨b, off, rfl, hl⟩ := r3.pos h0
    injection hb with hb
    rw [← hb]; exact hl
theorem evs_lt : ∀ {es : List En} {vs : List Value}, EVs w es vs → GV (fun g => g < w.heap.size) vs
  | [], _, h => by rw [h]; exact GV.nil
  | _ :: _, _, ⟨v0, v1, v2, v3, r, e, h1, h2⟩ => by
    rw [e]
    exact GV.app (vs := [v0, v1, v2, v3]) (fun A m c g hv h0 hb => ev_mem h1 hv h0 hb) (evs_lt h2)
/-- What is read lies in blocks that are there. -/
theorem REs.lt (h : REs w A n es) : RG (fun g => g < w.heap.size) w A n es := by
  obtain ⟨h1, vs, h2, h3⟩ := h
  refine ⟨h1, vs, h2, h3, evs_lt h2, fun h0 g hb => ?_⟩
  obtain ⟨b, off, rfl, hl⟩ := h3.pos (by omega)
  injection hb with hb
  rw [← hb]; exact hl
theorem RG.mono (h : RG G w A n es) (hs : ∀ g, G g → H g) : RG H w A n es := by
  obtain ⟨h1, vs, h2, h3, h4, h5⟩ := h
  exact ⟨h1, vs, h2, h3, h4.mono hs, fun h0 g hb => hs g (h5 h0 g hb)⟩
theorem RG.at_ {b off : Nat} (h : RG G w (some ⟨b, off, none⟩) n es) (k : Nat) (hk : k < n) :
    ∃ e v0 v1 v2 v3, es[k]? = some e ∧ w.cell? ⟨b, off + k * 4, none⟩ = some v0 ∧ w.cell? ⟨b, off + k * 4 + 1, none⟩ = some v1 ∧
      w.cell? ⟨b, off + k * 4 + 2, none⟩ = some v2 ∧ w.cell? ⟨b, off + k * 4 + 3, none⟩ = some v3 ∧ EV w e v0 v1 v2 v3 ∧ GV G [v0, v1, v2, v3] := by
  obtain ⟨h1, vs, h2, h3, h4, _⟩ := h
  obtain ⟨b', off', e, hb, hc⟩ := h3.2 (by omega)
  injection e with e
  injection e with e1 e2
  subst e1 e2
  obtain ⟨x, hx⟩ : ∃ x, es[k]? = some x := ⟨_, List.getElem?_eq_getElem (by omega)⟩
  obtain ⟨v0, v1, v2, v3, e0, e1, e2, e3, g0⟩ := h2.at_ k hx
  refine ⟨x, v0, v1, v2, v3, hx, hc _ _ e0, ?_, ?_, ?_, g0, h4.sub (fun u hu => ?_)⟩
  · rw [Nat.add_assoc]; exact hc _ _ e1
  · rw [Nat.add_assoc]; exact hc _ _ e2
  · rw [Nat.add_assoc]; exact hc _ _ e3
  · simp only [List.mem_cons, List.not_mem_nil, or_false] at hu
    rcases hu with rfl | rfl | rfl | rfl
    · exact List.mem_of_getElem? e0
    · exact List.mem_of_getElem? e1
    · exact List.mem_of_getElem? e2
    · exact List.mem_of_getElem? e3
end
/-- What PutAll answers. -/
def refPut (l xs : List En) : Int × List En := if checkE xs = 0 then match refIns l xs with | none => (7, l) | some l' => (0, l') else (checkE xs, l)
theorem refIns_snoc : ∀ (l xs : List En) (x : En), refIns l (xs ++ [x]) = (refIns l xs).bind (fun o => if inL o x then none else some (insL o x))
  | l, [], x => by simp [refIns]
  | l, y :: ys, x => by
    simp only [List.cons_append, refIns]
    by_cases h : inL l y = true
    · rw [if_pos h, if_pos h]; rfl
    · rw [if_neg h, if_neg h]
      exact refIns_snoc _ ys x
theorem refIns_none {l xs ys : List En} (h : refIns l xs = none) : refIns l (xs ++ ys) = none := by
  induction xs generalizing l with
  | nil => simp [refIns] at h
  | cons x xs ih =>
    simp only [List.cons_append, refIns] at h ⊢
    split at h
    · next h1 => rw [if_pos h1]
    · next h1 => rw [if_neg h1]; exact ih h
theorem refIns_len : ∀ {l o xs : List En}, refIns l xs = some o → o.length = l.length + xs.length
  | l, o, [], h => by injection h with h; subst h; simp
  | l, o, x :: xs, h => by
    unfold refIns at h
    split at h
    · cases h
    · have := refIns_len h
      rw [insL_len] at this
      simp only [List.length_cons]
      omega
theorem insL_mem {l : List En} {x y : En} (h : y ∈ insL l x) : y = x ∨ y ∈ l := by
  unfold insL at h
  rcases List.mem_append.1 h with h | h
  · exact .inr (List.mem_of_mem_take h)
  · rcases List.mem_cons.1 h with h | h
    · exact .inl h
    · exact .inr (List.mem_of_mem_drop h)
theorem refIns_mem : ∀ {l o xs : List En}, refIns l xs = some o → ∀ y ∈ o, y ∈ l ∨ y ∈ xs
  | l, o, [], h, y, hy => by injection h with h; subst h; exact .inl hy
  | l, o, x :: xs, h, y, hy => by
    unfold refIns at h
    split at h
    · cases h
    · rcases refIns_mem h y hy with q | q
      · rcases insL_mem q with q | q
        · exact .inr (by simp [q])
        · exact .inl q
      · exact .inr (by simp [q])
def RetPA (G : Nat → Prop) (w : World) (z : Int × List En) (e : Ending) (w' : World) : Prop :=
  ∃ L k d, e = .returned (.tuple #[.slice L k d, .int .i64 z.1]) ∧ RG G w' L k z.2 ∧ k ≤ d ∧ Below w.heap.size w w'
theorem RetPA.out {G : Nat → Prop} {w : World} {z : Int × List En} {e : Ending} {w' : World} (h : RetPA G w z e w') : ∃ L k d, e = .returned (.tuple #[.slice L k d, .int .i64 z.1]) ∧ RG G w' L k z.2 ∧ k ≤ d ∧ Below w.heap.size w w' := h
theorem refPut_bad {l xs : List En} (h : checkE xs ≠ 0) : refPut l xs = (checkE xs, l) := by unfold refPut; rw [if_neg h]
theorem refPut_none {l xs : List En} (h : checkE xs = 0) (h2 : refIns l xs = none) : refPut l xs = (7, l) := by unfold refPut; rw [if_pos h, h2]
theorem refPut_some {l xs o : List En} (h : checkE xs = 0) (h2 : refIns l xs = some o) : refPut l xs = (0, o) := by unfold refPut; rw [if_pos h, h2]
end Go.Proofs.Ytoaajkdhlhopmaa
namespace Go.Proofs.Ytoaajkdhlhopmaa
open Go Go.RowKit

/-- Blocks of other kinds are other blocks. -/
theorem row_ne {t1 t2 : TypeId} {s1 s2 : Nat} {w : World} {b1 b2 n c m d : Nat} {L A : Option Addr} {i j : Nat} {vs us : List Value} (h : w.ownsRow b1 t1 s1 (.slice L n c) i vs) (k : w.ownsRow b2 t2 s2 (.slice A m d) j us) (hne : t1 ≠ t2) : Dj L A := fun b e1 e2 => by
  rcases h.2 with ⟨h1, _⟩ | ⟨g, cap, cur, h1, _, hg, _⟩
  · injection h1 with h1
    rw [h1] at e1; cases e1
  · injection h1 with h1
    rw [h1] at e1
    injection e1 with e1
    rcases k.2 with ⟨k1, _⟩ | ⟨g2, cap2, cur2, k1, _, kg, _⟩
    · injection k1 with k1
      rw [k1] at e2; cases e2
    · injection k1 with k1
      rw [k1] at e2
      injection e2 with e2
      simp only at e1 e2
      subst e1 e2
      rw [hg] at kg
      injection kg with kg
      injection kg with _ kg
      exact hne kg
theorem ownV_ne {t : TypeId} {w : World} {b1 b2 n c m d : Nat} {L A : Option Addr} {vs : List Value} {xs : List UInt8} (h : OwnV t w b1 L n c vs) (k : Own 5 w b2 A m d xs) (hne : t ≠ 5) : Dj L A := row_ne h k hne
theorem cl_row {ty t : TypeId} {s : Nat} {w : World} {p b2 m d j : Nat} {A : Option Addr} {us : Array Value} {vs : List Value} (h : Cl w p us ty) (k : w.ownsRow b2 t s (.slice A m d) j vs) (hne : ty ≠ t) : blk A ≠ some p := fun e2 => by
  rcases k.2 with ⟨k1, _⟩ | ⟨g2, cap2, cur2, k1, _, kg, _⟩
  · injection k1 with k1
    rw [k1] at e2; cases e2
  · injection k1 with k1
    rw [k1] at e2
    injection e2 with e2
    simp only at e2
    subst e2
    unfold Cl at h
    rw [h] at kg
    injection kg with kg
    injection kg with _ kg
    exact hne kg
theorem cl_ne {ty : TypeId} {w : World} {p b2 m d : Nat} {A : Option Addr} {us : Array Value} {xs : List UInt8} (h : Cl w p us ty) (k : Own 5 w b2 A m d xs) (hne : ty ≠ 5) : blk A ≠ some p := cl_row h k hne
theorem Cl.grown {w w' : World} {p : Nat} {us : Array Value} {ty : TypeId} {row : Option Nat} (h : Cl w p us ty) (hg : w.grownBy w' row) (hne : row ≠ some p) : Cl w' p us ty := by
  obtain ⟨_, _, _, h4, h5⟩ := hg
  exact (h5 p h.lt (fun e => hne e.symm)).trans h
theorem rdPre2 {e : TypeId} {w : World} {base g n k : Nat} {xs : List UInt8} (h : Own e w base (some ⟨g, 0, none⟩) (n + 40) (n + 40) (xs ++ room n k)) (hx : xs.length = n) : Rd w (some ⟨g, 0, none⟩) n xs := by
  have := (h.prefix n (by omega) (by simp)).rd
  rw [List.take_left' hx] at this
  exact this
theorem ownV_box2 (w : World) (t : TypeId) (base : Nat) (vs : List Value) (n : Nat) (hl : vs.length = n) (hn : n ≤ 1024) (hb : base ≤ w.heap.size) (cs : Array Value) (hc : cs = vs.toArray) : OwnV t (w.alloc (.cells cs t)) base (some ⟨w.heap.size, 0, none⟩) n n vs := by
  subst hc
  refine ⟨by simp [hl], .inr ⟨w.heap.size, n, vs.toArray, rfl, hb, heap_alloc_new w _, Nat.le_refl _, by unfold maxLen; omega, by simp [hl], ?_⟩⟩
  simp only [Nat.mul_one]
  exact List.take_of_length_le (by simp [hl])
theorem mem_own2 {w : World} {base : Nat} {ps : List VB} (h : Fam w base ps) {A : Option Addr} {m c : Nat} {xs : List UInt8} (hp : (Value.slice A m c, xs) ∈ ps) : Own 5 w base A m c xs := by
  obtain ⟨A', m', c', e, ho⟩ := h.1 _ hp
  injection e with e1 e2 e3
  subst e1 e2 e3
  exact ho
section
variable {w w' : World} {base : Nat} {ps qs : List VB}
theorem Fam.off_cl (h : Fam w base ps) {p : Nat} {us : Array Value} {ty : TypeId} (hp : Cl w p us ty) (hne : ty ≠ 5) : OffF ps p := fun q hq e => by
  obtain ⟨A, m, c, e1, ho⟩ := h.1 q hq
  rw [e1, own_blk] at e
  exact cl_ne hp ho hne e
theorem Fam.off_row (h : Fam w base ps) {t : TypeId} {b1 n c : Nat} {L : Option Addr} {vs : List Value} (hl : OwnV t w b1 L n c vs) (hne : t ≠ 5) : ∀ b, blk L = some b → OffF ps b := fun b hb q hq e => by
  obtain ⟨A, m, d, e1, ho⟩ := h.1 q hq
  rw [e1, own_blk] at e
  exact ownV_ne hl ho hne b hb e
theorem Fam.perm (h : Fam w base ps) (hp : ps.Perm qs) : Fam w base qs :=
  ⟨fun p hq => h.1 p (hp.mem_iff.2 hq), h.2.perm hp (fun {_ _} hab => Ap.symm hab)⟩
theorem Fam.app {base' : Nat} (h : Fam w base ps) (hn : Fam w' base' qs) (hb : Below w.heap.size w w') (h1 : w.heap.size ≤ base') (h2 : base ≤ base') : Fam w' base (ps ++ qs) := by
  have h0 : Fam w base (ps ++ []) := by rw [List.append_nil]; exact h
  have := Fam.ins h0 hn hb h1 h2
  rw [List.append_nil] at this
  exact this
theorem OffF.app {p : Nat} (h : OffF ps p) (k : OffF qs p) : OffF (ps ++ qs) p := fun q hq => by
  rcases List.mem_append.1 hq with h1 | h1
  · exact h q h1
  · exact k q h1
end
/-- One values more appended onto a row of one-cell values at a step of a region that draws its order. -/
theorem step_appV {P : Program} (w : World) {ops : Array Oper} {o : Oper} {a : Act} {K : Act → World → Prop} {Q : Exit → Act → World → Prop} {E : Prop} (hgd : o.guard = none) (s x : Operand) (tt : TypeId)
    (ho : o.op = .call { callee := .builtin .append, args := #[s, x], argTypes := #[tt, tt] })
    (base : Nat) (t : TypeId) (z : Value) (by_ : Nat) (ht : P.underlying tt = some (.slice t)) (hi : (P.info? t).map (fun i => (i.zero, i.size, i.bytes)) = some (some z, 1, by_)) (hz1 : z.cells.size = 1)
    (A : Option Addr) (n c : Nat) (vs : List Value) (hs : a.eval s = .slice A n c) (hown : OwnV t w base A n c vs)
    (ad : Addr) (m d : Nat) (ys : List Value) (hx : a.eval x = .slice (some ad) m d) (hr : RdV w (some ad) m ys) (hm : 0 < m) (h1 : ∀ u ∈ ys, u.oneCell' = true)
    (hn : n + m ≤ maxLen) (hby : (n + m) * by_ ≤ 140737488355328) (hbase : base ≤ w.heap.size)
    (h : ∀ A' c' w', OwnV t w' base A' (n + m) c' (vs ++ ys) → w.grownBy w' (blk A) → K (a.put o.dst (.slice A' (n + m) c')) w') :
    if Region.wanted o (yielded ops a.tmps) = true then Oper.wp P o a w K Q else E := by
  have hw : Region.wanted o (yielded ops a.tmps) = true := by simp [Region.wanted, hgd]
  rw [if_pos hw]
  obtain ⟨i, hi, hz, hsz, hby2⟩ := info_parts hi
  obtain ⟨b, off, e, _, hc⟩ := hr.2 hm
  injection e with e
  subst e
  refine wp_append_own w s x tt ho base t i z 1 by_ ht hi hz hsz hby2 hz1 (by decide) (.slice A n c) n vs hs hown ⟨b, off, none⟩ m d ys hx (by simp [hr.1]) (fun j u hj => by rw [Addr.add_lit]; exact hc j u hj) h1 hn hby hbase ?_
  intro v' w' k1 k2 _
  obtain ⟨A', c', rfl⟩ : ∃ A' c', v' = .slice A' (n + m) c' := by
    rcases k1.2 with ⟨h3, h4⟩ | ⟨g, cap, cur, h3, _⟩
    · exact ⟨none, 0, by rw [h3, h4]⟩
    · exact ⟨_, _, h3⟩
  rw [own_blk] at k2
  exact h A' c' w' k1 k2
/-- Two lists of pairs, a pair of each by turns. -/
def inter {α : Type} : List α → List α → List α
  | a :: b :: r, c :: d :: s => a :: b :: c :: d :: inter r s
  | _, _ => []
theorem four_of {vs : List Value} {k : Nat} (h : vs.length = (k + 1) * 4) : ∃ v0 v1 v2 v3 r, vs = v0 :: v1 :: v2 :: v3 :: r ∧ r.length = k * 4 := by
  match vs, h with
  | [], h => simp at h
  | [_], h => simp at h; omega
  | [_, _], h => simp at h; omega
  | [_, _, _], h => simp at h; omega
  | a :: b :: c :: d :: r, h => exact ⟨a, b, c, d, r, rfl, by simp only [List.length_cons] at h; omega⟩
theorem inter_perm : ∀ (es : List En) {vs us : List Value}, vs.length = es.length * 4 → us.length = es.length * 4 → (pairE es vs ++ pairE es us).Perm (inter (pairE es vs) (pairE es us))
  | [], vs, us, _, _ => by simp [pairE, inter]
  | e :: es, vs, us, h1, h2 => by
    obtain ⟨v0, v1, v2, v3, r, rfl, hr⟩ := four_of h1
    obtain ⟨u0, u1, u2, u3, s, rfl, hs⟩ := four_of h2
    have ih := inter_perm es (vs := r) (us := s) hr hs
    simp only [pairE, inter, List.cons_append]
    refine .cons _ (.cons _ ?_)
    refine List.Perm.trans ?_ (.cons _ (.cons _ ih))
    have p1 : (pairE es r ++ (u0, e.key) :: (u3, e.val) :: pairE es s).Perm ((u0, e.key) :: (pairE es r ++ (u3, e.val) :: pairE es s)) := List.perm_middle
    exact p1.trans (.cons _ List.perm_middle)
theorem inter_take : ∀ (es : List En) {vs us : List Value} (i : Nat) {v0 v3 u0 u3 : Value}, vs.length = es.length * 4 → us.length = es.length * 4 → vs[i * 4]? = some v0 → vs[i * 4 + 3]? = some v3 → us[i * 4]? = some u0 → us[i * 4 + 3]? = some u3 → i < es.length →
    ((inter (pairE es vs) (pairE es us)).take (4 * (i + 1))).map (·.1) = ((inter (pairE es vs) (pairE es us)).take (4 * i)).map (·.1) ++ [v0, v3, u0, u3]
  | [], _, _, i, _, _, _, _, _, _, _, _, _, _, hi => by simp at hi
  | e :: es, vs, us, i, v0, v3, u0, u3, hv, hu, h0, h3, k0, k3, hi => by
    obtain ⟨x0, x1, x2, x3, r, rfl, hr⟩ := four_of hv
    obtain ⟨y0, y1, y2, y3, s, rfl, hs⟩ := four_of hu
    cases i with
    | zero =>
      simp at h0 h3 k0 k3
      subst h0 h3 k0 k3
      simp [pairE, inter]
    | succ i =>
      simp only [List.length_cons] at hi
      have e0 : (i + 1) * 4 = i * 4 + 4 := by omega
      have e3 : (i + 1) * 4 + 3 = i * 4 + 3 + 4 := by omega
      rw [e0] at h0 k0
      rw [e3] at h3 k3
      have ih := inter_take es (vs := r) (us := s) i hr hs (by simpa using h0) (by simpa using h3) (by simpa using k0) (by simpa using k3) (by omega)
      have e4 : 4 * (i + 1 + 1) = 4 * (i + 1) + 4 := by omega
      have e5 : 4 * (i + 1) = 4 * i + 4 := by omega
      simp only [pairE, inter]
      rw [e4]
      simp only [List.take_succ_cons, List.map_cons]
      rw [ih, e5]
      simp only [List.take_succ_cons, List.map_cons, List.cons_append]
theorem pairE_len : ∀ (es : List En) {vs : List Value}, vs.length = es.length * 4 → (pairE es vs).length = es.length * 2
  | [], vs, h => by simp [pairE]
  | e :: es, vs, h => by
    obtain ⟨x0, x1, x2, x3, r, rfl, hr⟩ := four_of h
    have := pairE_len es (vs := r) hr
    simp only [pairE, List.length_cons]
    omega
theorem inter_all (es : List En) {vs us : List Value} (hv : vs.length = es.length * 4) (hu : us.length = es.length * 4) : (inter (pairE es vs) (pairE es us)).take (4 * es.length) = inter (pairE es vs) (pairE es us) := by
  have h := (inter_perm es hv hu).length_eq
  rw [List.length_append, pairE_len es hv, pairE_len es hu] at h
  exact List.take_of_length_le (by omega)
theorem pairE_sz : ∀ {es : List En} {vs : List Value} {q : VB}, q ∈ pairE es vs → ∃ e ∈ es, q.2 = e.key ∨ q.2 = e.val
  | e :: es, x0 :: x1 :: x2 :: x3 :: r, q, h => by
    unfold pairE at h
    simp only [List.mem_cons] at h
    rcases h with rfl | rfl | h
    · exact ⟨e, by simp, .inl rfl⟩
    · exact ⟨e, by simp, .inr rfl⟩
    · obtain ⟨x, hx, k⟩ := pairE_sz h
      exact ⟨x, by simp [hx], k⟩
theorem ownE_kept {w w' : World} {base n c : Nat} {A : Option Addr} {vs : List Value} {row : Option Nat} (h : OwnE w base A n c vs) (hg : w.grownBy w' row) (hne : ∀ b, blk A = some b → row ≠ some b) : OwnE w' base A n c vs := by
  refine World.ownsRow.kept h hg ?_
  rw [own_blk]
  cases hb : blk A with
  | none => exact .inl rfl
  | some b => exact .inr (fun e => hne b hb e.symm)
theorem eos_of_fam {w0 w : World} {b0 base : Nat} : ∀ {es : List En} {vs : List Value}, EOs b0 w0 es vs → (∀ q ∈ pairE es vs, ∃ A m c, q.1 = .slice A m c ∧ Own 5 w base A m c q.2) → EOs base w es vs
  | [], _, h, _ => h
  | e :: es, _, h, hf => by
    obtain ⟨v0, v1, v2, v3, r, rfl, ⟨K, kn, kc, V, vn, vc, rfl, rfl, rfl, rfl, o1, o2, u⟩, h2⟩ := h
    obtain ⟨A, m, c, e1, p1⟩ := hf (.slice K kn kc, e.key) (by simp [pairE])
    obtain ⟨B, n, d, e2, p2⟩ := hf (.slice V vn vc, e.val) (by simp [pairE])
    have p1' : Own 5 w base K kn kc e.key := by
      have e1' : Value.slice K kn kc = Value.slice A m c := e1
      injection e1' with a1 a2 a3
      subst a1 a2 a3
      exact p1
    have p2' : Own 5 w base V vn vc e.val := by
      have e2' : Value.slice V vn vc = Value.slice B n d := e2
      injection e2' with a1 a2 a3
      subst a1 a2 a3
      exact p2
    exact ⟨_, _, _, _, r, rfl, ⟨K, kn, kc, V, vn, vc, rfl, rfl, rfl, rfl, p1', p2', u⟩, eos_of_fam h2 (fun q hq => hf q (by simp [pairE, hq]))⟩
theorem long_ok {x : En} (h : okE x = true) : x.key.length ≤ 1024 ∧ x.val.length ≤ 65536 := by
  have := (okE_iff.1 h).1
  unfold longE at this
  simp at this
  omega
end Go.Proofs.Ytoaajkdhlhopmaa
namespace Go.Proofs.Ytoaajkdhlhopmaa
open Go Go.RowKit

theorem rdl_one8 {w : World} {t : TypeId} {v1 : Value} {x1 : List UInt8} (h1 : ElB w v1 x1) (g : Nat) (hg : g = w.heap.size) : RdL (w.alloc (.cells #[v1] t)) (some ⟨g, 0, none⟩) 1 [x1] := by
  subst hg
  refine ⟨rfl, fun _ => ⟨w.heap.size, 0, rfl, by simp, fun i x hi => ?_⟩⟩
  have hlt := (List.getElem?_eq_some_iff.1 hi).1
  obtain rfl : i = 0 := by simp at hlt; omega
  injection hi with hi
  subst hi
  refine ⟨v1, ?_, h1.below ((Below.refl _ _).alloc (Nat.le_refl _) _)⟩
  rw [cell_of_row (w.alloc (.cells #[v1] t)) w.heap.size (0 + 0) #[v1] t (0, 0) (heap_alloc_new w _)]
  rfl
/-- What Build answers where every is at least 1. -/
def buildE (ev : Nat) (es : List En) : List UInt8 × Int :=
  if es.any longE then ([], 2) else if 1048576 < (fullB ev es).length then ([], 2) else if es.all formE && ordE es then (sealB (fullB ev es), 0) else ([], 3)
/-- Bytes of the call's own, or none, and a kind. -/
def RetBb (w : World) (z : List UInt8 × Int) (e : Ending) (w' : World) : Prop :=
  ∃ A c, e = .returned (.tuple #[.slice A z.1.length c, .int .i64 z.2]) ∧ Own 5 w' w.heap.size A z.1.length c z.1 ∧ Below w.heap.size w w'
theorem RetBb.no {w w' : World} {z : List UInt8 × Int} {k : Int} (hz : z = ([], k)) (hb : Below w.heap.size w w') : RetBb w z (.returned (.tuple #[.slice none 0 0, .int .i64 k])) w' := by
  subst hz
  exact ⟨none, 0, rfl, Own.nil _ _ _, hb⟩
theorem longE_no {es : List En} (h : es.any longE = false) : ∀ x ∈ es, x.key.length ≤ 1024 ∧ x.val.length ≤ 65536 := fun x hx => by
  have := List.any_eq_false.1 h x hx
  unfold longE at this
  simp at this
  omega
set_option maxRecDepth 100000 in
set_option maxHeartbeats 8000000 in
theorem build8_any {w : World} {A : Option Addr} {n c : Nat} {es : List En} (h : REs w A n es) (hn : n ≤ 16777216) (ev : Nat) (he : 1 ≤ ev) (he2 : ev ≤ 9223372036854775807) :
    Calls Try.prog 24 #[.int .i64 (ev : Int), .slice A n c] w (RetBb w (buildE ev es)) := by
  have HM : Hid (Calls Try.prog 69 #[.slice A n c] w (RetNu w (checkE es))) := Lib.hid (memCheck_any h (by omega))
  have HR := Lib.hid h
  clear h
  cases hlo : es.any longE with
  | true =>
    have hc : checkE es = 2 := by rw [checkE, hlo]; rfl
    have hb : buildE ev es = ([], 2) := by rw [buildE, hlo]; rfl
    rw [hc] at HM
    have HB := Lib.hid hb
    clear hlo hc hb
    go_enter Try.func24, Try.ntmps24
    go_wp2_with fail
    with_reducible refine HM.out.mono ?_
    rintro e w1 ⟨rfl, b1⟩
    go_wp2_with fail
    exact bodyPost_ret (v := .tuple #[.slice none 0 0, .int .i64 2]) (by simp [results, Try.f24, go_sem]; try rfl) rfl (RetBb.no HB.out b1)
  | false =>
    have hsz := longE_no hlo
    have HCT : Hid (∀ wx, Below w.heap.size w wx → Calls Try.prog 71 #[.int .i64 (ev : Int), .slice A n c] wx (RetCt ev es wx)) := Lib.hid (fun wx hb => contents_any (HR.out.below hb) hn hsz ev he he2)
    have HIO : Hid (∀ wx, Below w.heap.size w wx → Calls Try.prog 72 #[.slice A n c] wx (RetT wx (ordE es))) := Lib.hid (fun wx hb => inOrder8_any (HR.out.below hb) (by omega))
    obtain ⟨F, hF⟩ : ∃ F, F = fullB ev es := ⟨_, rfl⟩
    have hbe : buildE ev es = if 1048576 < F.length then ([], 2) else if es.all formE && ordE es then (sealB F, 0) else ([], 3) := by rw [buildE, hlo, ← hF]; rfl
    obtain ⟨fo, hfo⟩ : ∃ fo, fo = es.all formE := ⟨_, rfl⟩
    obtain ⟨od, hod⟩ : ∃ od, od = ordE es := ⟨_, rfl⟩
    obtain ⟨z, hz⟩ : ∃ z : Int, z = if fo then 0 else 3 := ⟨_, rfl⟩
    have hck : checkE es = z := by rw [checkE, hlo, hz, hfo]; rfl
    rw [hck] at HM
    rw [← hod] at HIO hbe
    rw [← hfo] at hbe
    have hz2 : z = 0 ∨ z = 3 := by rw [hz]; cases fo <;> simp
    have tz : (z == 2) = false := by rcases hz2 with e | e <;> rw [e] <;> rfl
    have tz' : ¬ z = 2 := by omega
    have HBE := Lib.hid hbe
    have HF := Lib.hid hF
    have HZ := Lib.hid hz
    have HZ2 := Lib.hid hz2
    clear hlo hsz hF hbe hfo hod hz hck hz2
    go_enter Try.func24, Try.ntmps24
    go_wp2_with fail
    with_reducible refine HM.out.mono ?_
    rintro e w1 ⟨rfl, b1⟩
    have HCT1 := Lib.hid (HCT.out w1 b1)
    have B1 := Lib.hid b1
    clear b1
    go_wp2_with fail
    with_reducible refine HCT1.out.mono ?_
    rintro e w2 ⟨C, cc, ys, rfl, oC, b2, hyl, hys⟩
    rw [← HF.out] at hys
    have hcap := oC.cap
    have hcn : C = none → cc = 0 := fun h => by have := oC.nil_of (by rw [h]; rfl); exact this.2.2
    have hSE := Seal_any (some ⟨w2.heap.size, 0, none⟩) 1 1 [ys] _ (rdl_one8 (w := w2) (t := 22) ⟨C, ys.length, cc, rfl, oC.rd, hcap.1, hcn⟩ _ rfl) (by simp only [tot]; omega)
    rw [show [ys].flatten = ys by simp] at hSE
    have HSE := Lib.hid hSE
    have B2 := Lib.hid (B1.out.trans (b2.mono B1.out.size))
    have HYS := Lib.hid hys
    obtain ⟨yn, hyn⟩ : ∃ yn, yn = ys.length := ⟨_, rfl⟩
    rw [← hyn]
    rw [← hyn] at hyl HSE
    have HYN := Lib.hid hyn
    clear hSE oC b2 hcap hcn hys hyn
    by_cases hbig : 1048576 < yn
    · have hg : sealG ys = ([], 2) := sealG_long HYN.out.symm hbig
      have hb : buildE ev es = ([], 2) := by
        rw [HBE.out, if_pos]
        rcases HYS.out with ⟨_, h2⟩ | h2
        · have := HYN.out; omega
        · rw [← h2, ← HYN.out]; exact hbig
      rw [hg] at HSE
      have HB := Lib.hid hb
      clear hg hb
      go_wp2_with fail
      refine HSE.out.mono ?_
      rintro e w3 ⟨D, dn, dc, rfl, oD, b3⟩
      have B3 := Lib.hid (B2.out.trans (((Below.refl _ _).alloc (Nat.le_refl _) _ |>.trans (b3.mono (by simp))).mono B2.out.size))
      clear oD b3
      go_wp2_with fail
      exact bodyPost_ret (v := .tuple #[.slice none 0 0, .int .i64 2]) (by simp [results, Try.f24, go_sem]; try rfl) rfl (RetBb.no HB.out B3.out)
    · have hF2 : ys = F := by
        rcases HYS.out with ⟨h1, _⟩ | h2
        · have := HYN.out; omega
        · exact h2
      have hg : sealG ys = (sealB F, 0) := by rw [sealG_ok HYN.out.symm hbig, hF2]
      have hb : buildE ev es = if fo && od then (sealB F, 0) else ([], 3) := by rw [HBE.out, if_neg (by rw [← hF2, ← HYN.out]; exact hbig)]
      rw [hg] at HSE
      have HB := Lib.hid hb
      clear hg hb
      go_wp2_with fail
      refine HSE.out.mono ?_
      rintro e w3 ⟨D, dn, dc, rfl, oD, b3⟩
      have oD : Own 5 w3 w2.heap.size D dn dc (sealB F) := Own.mono oD (show w2.heap.size ≤ _ by simp)
      obtain rfl : (sealB F).length = dn := oD.len
      have HD := Lib.hid (oD.mono B2.out.size)
      have B3 := Lib.hid (B2.out.trans (((Below.refl _ _).alloc (Nat.le_refl _) _ |>.trans (b3.mono (by simp))).mono B2.out.size))
      clear oD b3
      cases fo with
      | false =>
        have e0 : z = 3 := HZ.out
        subst e0
        rw [Bool.false_and] at HB
        go_wp2_with fail
        exact bodyPost_ret (v := .tuple #[.slice none 0 0, .int .i64 3]) (by simp [results, Try.f24, go_sem]; try rfl) rfl (RetBb.no HB.out B3.out)
      | true =>
        have e0 : z = 0 := HZ.out
        subst e0
        rw [Bool.true_and] at HB
        have HIO3 := Lib.hid (HIO.out w3 B3.out)
        cases od with
        | true =>
          go_wp2_with fail
          with_reducible refine HIO3.out.mono ?_
          rintro e w4 ⟨rfl, b4⟩
          have hB := HB.out
          simp only [if_true] at hB
          have hfin : RetBb w (buildE ev es) (.returned (.tuple #[.slice D (sealB F).length dc, .int .i64 0])) w4 := by
            rw [hB]
            exact ⟨D, dc, rfl, HD.out.below b4, B3.out.trans (b4.mono B3.out.size)⟩
          have HFI := Lib.hid hfin
          clear hB hfin b4
          go_wp2_with fail
          exact bodyPost_ret (v := .tuple #[.slice D (sealB F).length dc, .int .i64 0]) (by simp [results, Try.f24, go_sem]; try rfl) rfl HFI.out
        | false =>
          go_wp2_with fail
          with_reducible refine HIO3.out.mono ?_
          rintro e w4 ⟨rfl, b4⟩
          have B4 := Lib.hid (B3.out.trans (b4.mono B3.out.size))
          have hB := HB.out
          simp only [Bool.false_eq_true, if_false] at hB
          have HBB := Lib.hid hB
          clear hB b4
          go_wp2_with fail
          exact bodyPost_ret (v := .tuple #[.slice none 0 0, .int .i64 3]) (by simp [results, Try.f24, go_sem]; try rfl) rfl (RetBb.no HBB.out B4.out)
theorem buildE_cases (ev : Nat) (es : List En) : (∃ F, buildE ev es = (sealB F, 0) ∧ F.length ≤ 1048576) ∨ (∃ k : Int, buildE ev es = ([], k) ∧ (k = 2 ∨ k = 3)) := by
  unfold buildE
  split
  · exact .inr ⟨2, rfl, .inl rfl⟩
  · split
    · exact .inr ⟨2, rfl, .inl rfl⟩
    · split
      · exact .inl ⟨_, rfl, by omega⟩
      · exact .inr ⟨3, rfl, .inr rfl⟩
end Go.Proofs.Ytoaajkdhlhopmaa
namespace Go.Proofs.Ytoaajkdhlhopmaa
open Go Go.RowKit

def lastK (es : List En) : List UInt8 := (es.getLast?.map (·.key)).getD []
/-- The entries from place a on, and the every. -/
def parR (xs : List UInt8) (sec : Int) : Nat → Nat → List En → Nat → Option (List En × Nat)
  | 0, _, _, _ => none
  | f + 1, a, es, ev => if xs.length ≤ a then some (es, ev) else
      if badR xs (lastK es) a then none
      else parR xs sec f (e7R xs a).2.1 (es ++ [entR xs (lastK es) a]) (if (a : Int) = sec then es.length else ev)
/-- What stands in a block: its entries and the every. -/
def parB (xs : List UInt8) : Option (List En × Nat) :=
  match splitB xs with
  | none => none
  | some (ys, zs) =>
    let sec : Int := if 8 ≤ zs.length then (numK (zs.drop 4) 4 : Int) else -1
    match parR ys sec (ys.length + 1) 0 [] 0 with
    | none => none
    | some (es, ev) => some (es, if sec < 0 then max es.length 1 else ev)
theorem numR_mono {xs : List UInt8} {s : Nat × Bool} (h : s.1 ≤ xs.length) : s.1 ≤ (numR xs s).2.1 ∧ ((numR xs s).2.2 = false → s.1 < (numR xs s).2.1) := by
  unfold numR
  split
  · rename_i e
    rcases hg : getU xs (s.1 : Int) with ⟨m, nx, e2⟩
    rw [hg] at e
    obtain ⟨k, rfl, h1, h2, h3⟩ := getU_err h hg e
    simp only [Int.toNat_natCast]
    exact ⟨by omega, fun _ => h1⟩
  · exact ⟨Nat.le_refl _, fun h => by cases h⟩
theorem takeR_mono {xs : List UInt8} {n : Nat} {s : Nat × Bool} : s.1 ≤ (takeR xs n s).2.1 := by
  unfold takeR
  split
  · exact Nat.le_refl _
  · simp only; omega
theorem badR_no {xs ah : List UInt8} {a : Nat} (h : badR xs ah a = false) : (e7R xs a).2.2 = false ∧ (e1R xs a).1 ≤ ah.length ∧ (e1R xs a).1 + (e6R xs a).1.length ≤ 1024 := by
  unfold badR at h
  simp only [Bool.or_eq_false_iff, decide_eq_false_iff_not] at h
  obtain ⟨⟨h1, h2⟩, h3⟩ := h
  exact ⟨h1, by omega, by omega⟩
theorem bad_chain {xs : List UInt8} {a : Nat} (h : (e7R xs a).2.2 = false) : (e6R xs a).2.2 = false ∧ (e5R xs a).2.2 = false ∧ (e4R xs a).2.2 = false ∧ (e3R xs a).2.2 = false ∧ (e2R xs a).2.2 = false ∧ (e1R xs a).2.2 = false := by
  unfold e7R at h
  have h6 := (takeR_bad h).1
  have h6' := h6
  unfold e6R at h6'
  have h5 := (takeR_bad h6').1
  have h5' := h5
  unfold e5R at h5'
  have h4 := numR_bad h5'
  have h4' := h4
  unfold e4R at h4'
  have h3 := (takeR_bad h4').1
  have h3' := h3
  unfold e3R at h3'
  have h2 := numR_bad h3'
  have h2' := h2
  unfold e2R at h2'
  exact ⟨h6, h5, h4, h3, h2, numR_bad h2'⟩
theorem e_le {xs : List UInt8} {a : Nat} (ha : a ≤ xs.length) : (e1R xs a).2.1 ≤ xs.length ∧ (e2R xs a).2.1 ≤ xs.length ∧ (e3R xs a).2.1 ≤ xs.length ∧ (e4R xs a).2.1 ≤ xs.length ∧ (e5R xs a).2.1 ≤ xs.length ∧ (e6R xs a).2.1 ≤ xs.length ∧ (e7R xs a).2.1 ≤ xs.length := by
  have q1 : (e1R xs a).2.1 ≤ xs.length := by unfold e1R; exact (numR_le ha).1
  have q2 : (e2R xs a).2.1 ≤ xs.length := by unfold e2R; exact (numR_le q1).1
  have q3 : (e3R xs a).2.1 ≤ xs.length := by unfold e3R; exact (numR_le q2).1
  have q4 : (e4R xs a).2.1 ≤ xs.length := by unfold e4R; exact (takeR_le q3).1
  have q5 : (e5R xs a).2.1 ≤ xs.length := by unfold e5R; exact (numR_le q4).1
  have q6 : (e6R xs a).2.1 ≤ xs.length := by unfold e6R; exact (takeR_le q5).1
  have q7 : (e7R xs a).2.1 ≤ xs.length := by unfold e7R; exact (takeR_le q6).1
  exact ⟨q1, q2, q3, q4, q5, q6, q7⟩
theorem e7_more {xs : List UInt8} {a : Nat} (ha : a ≤ xs.length) (h : (e7R xs a).2.2 = false) : a < (e7R xs a).2.1 := by
  obtain ⟨b6, b5, b4, b3, b2, b1⟩ := bad_chain h
  obtain ⟨l1, l2, l3, l4, l5, l6, l7⟩ := e_le ha
  have m1 : a < (e1R xs a).2.1 := by unfold e1R at b1 ⊢; exact (numR_mono ha).2 b1
  have m2 : (e1R xs a).2.1 ≤ (e2R xs a).2.1 := by unfold e2R; exact (numR_mono l1).1
  have m3 : (e2R xs a).2.1 ≤ (e3R xs a).2.1 := by unfold e3R; exact (numR_mono l2).1
  have m4 : (e3R xs a).2.1 ≤ (e4R xs a).2.1 := by unfold e4R; exact takeR_mono
  have m5 : (e4R xs a).2.1 ≤ (e5R xs a).2.1 := by unfold e5R; exact (numR_mono l4).1
  have m6 : (e5R xs a).2.1 ≤ (e6R xs a).2.1 := by unfold e6R; exact takeR_mono
  have m7 : (e6R xs a).2.1 ≤ (e7R xs a).2.1 := by unfold e7R; exact takeR_mono
  omega
theorem entR_key {xs ah : List UInt8} {a : Nat} (h : badR xs ah a = false) : (entR xs ah a).key.length ≤ 1024 := by
  obtain ⟨_, h2, h3⟩ := badR_no h
  unfold entR
  simp only [List.length_append, List.length_take]
  omega
theorem lastK_snoc (es : List En) (x : En) : lastK (es ++ [x]) = x.key := by
  unfold lastK
  simp
theorem fam_join {w : World} {base B : Nat} {ps qs : List VB} (h : Fam w base ps) (hlt : ∀ p ∈ ps, ∀ b, Value.ownBlock p.1 = some b → b < B) (hn : Fam w B qs) (hB : base ≤ B) : Fam w base (ps ++ qs) := by
  refine ⟨fun p hp => ?_, List.pairwise_append.2 ⟨h.2, hn.2, fun p hp q hq k e1 e2 => ?_⟩⟩
  · rcases List.mem_append.1 hp with hp | hp
    · exact h.1 p hp
    · obtain ⟨A, m, c, e, ho⟩ := hn.1 p hp
      exact ⟨A, m, c, e, ho.mono hB⟩
  · have k1 := hlt p hp k e1
    have k2 := (hn.lt hq e2).1
    omega
/-- 'A row of entries of the call's own, off the reader; all of it lies below B.' -/
def PR (base B p : Nat) (L : Option Addr) (i d : Nat) (es : List En) (w : World) (vs : List Value) : Prop :=
  OwnE w base L i d vs ∧ EOs base w es vs ∧ OffW vs (blk L) ∧ es.length = i ∧ Fam w base (pairE es vs) ∧ OffW vs (some p) ∧ blk L ≠ some p ∧
    (∀ A m c g, Value.slice A m c ∈ vs → blk A = some g → g < B) ∧ (∀ g, blk L = some g → g < B)
section
variable {base B p i d : Nat} {L : Option Addr} {es : List En} {w w' : World} {vs : List Value}
theorem PR.kept (h : PR base B p L i d es w vs) (hg : w.grownBy w' (some p)) : PR base B p L i d es w' vs := by
  obtain ⟨q1, q2, q3, q4, q5, q6, q7, q8, q9⟩ := h
  refine ⟨?_, EOs.kept hg q2 q6, q3, q4, q5.kept hg (fun b hb r hr e => ?_), q6, q7, q8, q9⟩
  · refine ⟨q1.1, ?_⟩
    rcases q1.2 with h1 | ⟨g, cap, cur, h1, h2, h3, h4⟩
    · exact .inl h1
    · refine .inr ⟨g, cap, cur, h1, h2, ?_, h4⟩
      have hne : some g ≠ some p := fun e => q7 (by injection h1 with h1; rw [h1]; exact e)
      obtain ⟨_, _, _, _, k5⟩ := hg
      have hlt : g < w.heap.size := (Array.getElem?_eq_some_iff.1 h3).1
      exact (k5 g hlt hne).trans h3
  · injection hb with hb
    subst hb
    obtain ⟨A, m, c, e1, _⟩ := q5.1 r hr
    rw [e1, own_blk] at e
    have := pairE_mem hr
    rw [e1] at this
    exact q6 p rfl A m c this e
theorem PR.below (h : PR base B p L i d es w vs) (hb : Below w.heap.size w w') : PR base B p L i d es w' vs := by
  obtain ⟨q1, q2, q3, q4, q5, q6, q7, q8, q9⟩ := h
  exact ⟨q1.below hb, q2.below hb, q3, q4, q5.below hb, q6, q7, q8, q9⟩
theorem PR.zero (base B p : Nat) (w : World) : PR base B p none 0 0 [] w [] := ⟨OwnE.nil _ _, rfl, OffW.nil _, rfl, Fam.nil _ _, OffW.nil _, (fun h => by cases h), (fun A m c g h => by cases h), (fun g h => by cases h)⟩
theorem PR.rd (h : PR base B p L i d es w vs) : REs w L i es := by
  obtain ⟨q1, q2, q3, q4, _⟩ := h
  exact REs.mk q2.evs q1.rd q4
theorem PR.row {W : World} (h : PR base B p L i d es w vs) (hb : Below base W w) (hs : base ≤ w.heap.size) : RowE W base L i d es w := by
  obtain ⟨q1, q2, q3, q4, q5, _⟩ := h
  exact ⟨vs, q1, q2, q3, q4, hb, hs, q5⟩
/-- One more. -/
theorem pr_add {w4 : World} {L' K V : Option Addr} {d' kn kc vn vc : Nat} {x : En} (h : PR base B p L i d es w vs) (oK : Own 5 w B K kn kc x.key) (oV : Own 5 w B V vn vc x.val) (dj : Dj K V) (hwf : U64 x.seq ∧ x.kind < 256) (hB : base ≤ B) (hp : p < B) (hBw : B ≤ w.heap.size)
    (h4 : OwnE w4 base L' (i + 1) d' (vs ++ [.slice K kn kc, .int .u64 (x.seq : Int), .int .u8 (x.kind : Int), .slice V vn vc])) (hg : w.grownBy w4 (blk L)) (hb : blk L' = blk L ∨ blk L' = some (w.heap.size + 1)) :
    PR base w4.heap.size p L' (i + 1) d' (es ++ [x]) w4 (vs ++ [.slice K kn kc, .int .u64 (x.seq : Int), .int .u8 (x.kind : Int), .slice V vn vc]) := by
  obtain ⟨q1, q2, q3, q4, q5, q6, q7, q8, q9⟩ := h
  have eo : EO base w x (.slice K kn kc) (.int .u64 (x.seq : Int)) (.int .u8 (x.kind : Int)) (.slice V vn vc) := ⟨K, kn, kc, V, vn, vc, rfl, rfl, rfl, rfl, oK.mono hB, oV.mono hB, hwf⟩
  have hge : ∀ A m c g, Value.slice A m c ∈ [Value.slice K kn kc, .int .u64 (x.seq : Int), .int .u8 (x.kind : Int), .slice V vn vc] → blk A = some g → B ≤ g ∧ g < w.heap.size := fun A m c g hv hgg => by
    simp only [List.mem_cons, List.not_mem_nil, or_false] at hv
    rcases hv with e | e | e | e
    · injection e with e1 e2 e3; subst e1; exact oK.lt g hgg
    · cases e
    · cases e
    · injection e with e1 e2 e3; subst e1; exact oV.lt g hgg
  have o1 : OffW [Value.slice K kn kc, .int .u64 (x.seq : Int), .int .u8 (x.kind : Int), .slice V vn vc] (blk L) := fun g hgg A m c hv e => by
    have h1 := hge A m c g hv e
    have h2 := q9 g hgg
    omega
  have hgs := hg.size
  have f1 : Fam w base (pairE es vs ++ [(.slice K kn kc, x.key), (.slice V vn vc, x.val)]) := fam_join q5 (fun r hr b e => by
    obtain ⟨A, m, c, e1, _⟩ := q5.1 r hr
    have := pairE_mem hr
    rw [e1] at this e
    rw [own_blk] at e
    exact q8 A m c b this e) (fam_two oK oV dj) hB
  refine ⟨h4, (EOs.kept hg q2 q3).app (EOs.one (eo.kept hg o1)), ?_, by simp [q4], ?_, ?_, ?_, ?_, ?_⟩
  · rcases hb with e | e
    · rw [e]; exact q3.app o1
    · rw [e]
      intro g hg2 C m c hv2 hv3
      injection hg2 with hg2
      rcases List.mem_append.1 hv2 with hq | hq
      · have := (EOs.lt q2 hq hv3).2
        omega
      · have := hge C m c g hq hv3
        omega
  · rw [pairE_app q2]
    refine f1.kept hg (fun b e r hr e2 => ?_)
    obtain ⟨A, m, c, e1, _⟩ := f1.1 r hr
    have hm : Value.slice A m c ∈ vs ++ [.slice K kn kc, .int .u64 (x.seq : Int), .int .u8 (x.kind : Int), .slice V vn vc] := by
      rw [← e1]
      rcases List.mem_append.1 hr with h | h
      · exact List.mem_append_left _ (pairE_mem h)
      · refine List.mem_append_right _ ?_
        simp only [List.mem_cons, List.not_mem_nil, or_false] at h
        rcases h with rfl | rfl
        · simp
        · simp
    rw [e1, own_blk] at e2
    exact (q3.app o1) b e A m c hm e2
  · exact q6.app (fun g hgg A m c hv e => by
      injection hgg with hgg
      have := hge A m c g hv e
      omega)
  · rcases hb with e | e
    · rw [e]; exact q7
    · rw [e]
      intro h
      injection h with h
      omega
  · intro A m c g hv e
    rcases List.mem_append.1 hv with hq | hq
    · have := (EOs.lt q2 hq e).2
      omega
    · have := hge A m c g hq e
      omega
  · intro g e
    exact (h4.lt g e).2
end
end Go.Proofs.Ytoaajkdhlhopmaa
namespace Go.Proofs.Ytoaajkdhlhopmaa
open Go Go.RowKit

/-- What a list that is picked out of another comes to. -/
def RetPick (w : World) (es : List En) (us : List Value) (e : Ending) (w' : World) : Prop :=
  ∃ L k d vs, e = .returned (.slice L k d) ∧ OwnE w' w.heap.size L k d vs ∧ EVs w' es vs ∧ es.length = k ∧ Below w.heap.size w w' ∧ ∀ u ∈ vs, u ∈ us
theorem RetPick.out {w : World} {es : List En} {us : List Value} {e : Ending} {w' : World} (h : RetPick w es us e w') : ∃ L k d vs, e = .returned (.slice L k d) ∧ OwnE w' w.heap.size L k d vs ∧ EVs w' es vs ∧ es.length = k ∧ Below w.heap.size w w' ∧ ∀ u ∈ vs, u ∈ us := h
theorem RetPick.res {w : World} {es : List En} {us : List Value} {e : Ending} {w' : World} (h : RetPick w es us e w') : ∃ L k d, e = .returned (.slice L k d) ∧ REs w' L k es ∧ k ≤ d ∧ Below w.heap.size w w' := by
  obtain ⟨L, k, d, vs, h1, h2, h3, h4, h5, _⟩ := h
  exact ⟨L, k, d, h1, REs.mk h3 h2.rd h4, h2.cap.1, h5⟩
/-- 'So far picked.' -/
def Pck (w : World) (us : List Value) (es : List En) (L : Option Addr) (k d : Nat) (wr : World) : Prop :=
  ∃ vs, OwnE wr w.heap.size L k d vs ∧ EVs w es vs ∧ es.length = k ∧ Below w.heap.size w wr ∧ ∀ u ∈ vs, u ∈ us
theorem Pck.zero (w : World) (us : List Value) : Pck w us [] none 0 0 w := ⟨[], OwnE.nil _ _, rfl, rfl, Below.refl _ _, fun u hu => by cases hu⟩
theorem Pck.below {w wr w' : World} {us : List Value} {es : List En} {L : Option Addr} {k d : Nat} (h : Pck w us es L k d wr) (hb : Below wr.heap.size wr w') : Pck w us es L k d w' := by
  obtain ⟨vs, h1, h2, h3, h4, h5⟩ := h
  exact ⟨vs, h1.below hb, h2, h3, belowT' h4 hb, h5⟩
theorem Pck.bel {w wr : World} {us : List Value} {es : List En} {L : Option Addr} {k d : Nat} (h : Pck w us es L k d wr) : Below w.heap.size w wr := by
  obtain ⟨vs, h1, h2, h3, h4, h5⟩ := h
  exact h4
theorem Pck.len {w wr : World} {us : List Value} {es : List En} {L : Option Addr} {k d : Nat} (h : Pck w us es L k d wr) : es.length = k := by
  obtain ⟨vs, h1, h2, h3, h4, h5⟩ := h
  exact h3
theorem Pck.ret {w wr : World} {us : List Value} {es : List En} {L : Option Addr} {k d : Nat} (h : Pck w us es L k d wr) : RetPick w es us (.returned (.slice L k d)) wr := by
  obtain ⟨vs, h1, h2, h3, h4, h5⟩ := h
  exact ⟨L, k, d, vs, rfl, h1, h2.below h4, h3, h4, h5⟩
theorem Pck.snoc {w w4 : World} {us vs : List Value} {es : List En} {L' : Option Addr} {k d' : Nat} {x : En} {v0 v1 v2 v3 : Value} (h2 : EVs w es vs) (h3 : es.length = k) (h5 : ∀ u ∈ vs, u ∈ us)
    (hx : EV w x v0 v1 v2 v3) (hm : ∀ u ∈ [v0, v1, v2, v3], u ∈ us) (o4 : OwnE w4 w.heap.size L' (k + 1) d' (vs ++ [v0, v1, v2, v3])) (b4 : Below w.heap.size w w4) : Pck w us (es ++ [x]) L' (k + 1) d' w4 :=
  ⟨vs ++ [v0, v1, v2, v3], o4, h2.app (EVs.one hx), by simp [h3], b4, fun u hu => by
    rcases List.mem_append.1 hu with h | h
    · exact h5 u h
    · exact hm u h⟩
theorem mem4 {w : World} {A : Option Addr} {n k b off : Nat} {es : List En} {ovs : List Value} (hv : EVs w es ovs) (hd : RdV w A (n * 4) ovs) (hl : es.length = n) (hA : A = some ⟨b, off, none⟩) (hk : k < n) :
    ∃ e v0 v1 v2 v3, es[k]? = some e ∧ w.cell? ⟨b, off + k * 4, none⟩ = some v0 ∧ w.cell? ⟨b, off + k * 4 + 1, none⟩ = some v1 ∧
      w.cell? ⟨b, off + k * 4 + 2, none⟩ = some v2 ∧ w.cell? ⟨b, off + k * 4 + 3, none⟩ = some v3 ∧ EV w e v0 v1 v2 v3 ∧ ∀ u ∈ [v0, v1, v2, v3], u ∈ ovs := by
  subst hA
  obtain ⟨b', off', e, hb, hc⟩ := hd.2 (by omega)
  injection e with e
  injection e with e1 e2
  subst e1 e2
  obtain ⟨x, hx⟩ : ∃ x, es[k]? = some x := ⟨_, List.getElem?_eq_getElem (by omega)⟩
  obtain ⟨v0, v1, v2, v3, e0, e1, e2, e3, g0⟩ := hv.at_ k hx
  refine ⟨x, v0, v1, v2, v3, hx, hc _ _ e0, ?_, ?_, ?_, g0, fun u hu => ?_⟩
  · rw [Nat.add_assoc]; exact hc _ _ e1
  · rw [Nat.add_assoc]; exact hc _ _ e2
  · rw [Nat.add_assoc]; exact hc _ _ e3
  · simp only [List.mem_cons, List.not_mem_nil, or_false] at hu
    rcases hu with rfl | rfl | rfl | rfl
    · exact List.mem_of_getElem? e0
    · exact List.mem_of_getElem? e1
    · exact List.mem_of_getElem? e2
    · exact List.mem_of_getElem? e3
theorem filter_snoc {es : List En} {k : Nat} {x : En} {p : En → Bool} (hx : es[k]? = some x) : (es.take (k + 1)).filter p = (es.take k).filter p ++ (if p x then [x] else []) := by
  rw [List.take_add_one, hx, List.filter_append]
  simp only [Option.toList, List.filter_cons, List.filter_nil]
end Go.Proofs.Ytoaajkdhlhopmaa
namespace Go.Proofs.Ytoaajkdhlhopmaa
open Go Go.RowKit

theorem ownV_box8 (w : World) (t : TypeId) (base : Nat) (vs : List Value) (n : Nat) (hl : vs.length = n) (hn : n ≤ 1024) (hb : base ≤ w.heap.size) (cs : Array Value) (hc : cs = vs.toArray) (g : Nat) (hg : g = w.heap.size) : OwnV t (w.alloc (.cells cs t)) base (some ⟨g, 0, none⟩) n n vs := by
  subst hc hg
  refine ⟨by simp [hl], .inr ⟨w.heap.size, n, vs.toArray, rfl, hb, heap_alloc_new w _, Nat.le_refl _, by unfold maxLen; omega, by simp [hl], ?_⟩⟩
  simp only [Nat.mul_one]
  exact List.take_of_length_le (by simp [hl])
theorem Rd.cst8 (w : World) (e : TypeId) (n : Nat) (xs : List UInt8) (hn : xs.length = n) (vs : Array Value) (hv : vs = (xs.map cv).toArray) (fr : Nat × Nat) (g : Nat) (hg : g = w.heap.size) :
    Rd (w.alloc (.cells vs e fr)) (some ⟨g, 0, none⟩) n xs := by
  subst hv hg
  refine ⟨hn, fun _ => ⟨w.heap.size, 0, rfl, by simp, fun i x hx => ?_⟩⟩
  have h := cell_of_row (w.alloc (.cells (xs.map cv).toArray e fr)) w.heap.size (0 + i) (xs.map cv).toArray e fr (heap_alloc_new w _)
  rw [h]
  simp [hx, cv]

def e81 : En := ⟨[97, 98], 5, 1, [120]⟩
def e82 : En := ⟨[97, 98, 99], 7, 2, []⟩
theorem b8 : (buildE 2 [e81, e82]).2 = 0 ∧ (buildE 2 [e81, e82]).1.length = 30 ∧ (buildE 2 [e81, e82]).1[8]? = some 0 ∧ (buildE 2 [e81, e82]).1[9]? = some 2 ∧ (buildE 2 [e81, e82]).1[10]? = some 5 ∧ (buildE 2 [e81, e82]).1[16]? = some 2 ∧ (buildE 2 [e81, e82]).1[17]? = some 1 ∧ (buildE 2 [e81, e82]).1[18]? = some 7 := by decide +kernel
set_option maxRecDepth 100000 in
set_option maxHeartbeats 4000000 in
theorem awake8_any (w : World) : Calls Try.prog 15 #[] w (RetT w true) := by
  have kc := fun (w : World) (C : Array Value) (n c g : Nat) (hg : g = w.heap.size) => Joins.run_convert_bytes_const_at (P := Try.prog) w 22 5 C n c g hg Try.underlying22 Try.underlying5
  go_enter Try.func15, Try.ntmps15
  go_wp2_with fail
  obtain ⟨W, hW⟩ : ∃ W, W = (((w.alloc (.cells #[.int .u8 97, .int .u8 98] 5 (2, 3))).alloc (.cells #[.int .u8 120] 5 (1, 2))).alloc (.cells #[.int .u8 97, .int .u8 98, .int .u8 99] 5 (3, 4))).alloc (.cells #[.slice (some ⟨w.heap.size, 0, none⟩) 2 2, .int .u64 5, .int .u8 1, .slice (some ⟨w.heap.size + 1, 0, none⟩) 1 1, .slice (some ⟨w.heap.size + 1 + 1, 0, none⟩) 3 3, .int .u64 7, .int .u8 2, .slice none 0 0] 33) := ⟨_, rfl⟩
  rw [← hW]
  have bW : Below w.heap.size w W := by rw [hW]; exact ((((Below.refl _ _).alloc (Nat.le_refl _) _).alloc (by simp) _).alloc (by simp; omega) _).alloc (by simp; omega) _
  have r1 : Rd W (some ⟨w.heap.size, 0, none⟩) 2 [97, 98] := by rw [hW]; exact (((Rd.cst8 w _ 2 [97, 98] rfl _ rfl (2, 3) _ rfl).alloc _).alloc _).alloc _
  have r2 : Rd W (some ⟨w.heap.size + 1, 0, none⟩) 1 [120] := by rw [hW]; exact ((Rd.cst8 _ _ 1 [120] rfl _ rfl (1, 2) _ (by simp)).alloc _).alloc _
  have r3 : Rd W (some ⟨w.heap.size + 1 + 1, 0, none⟩) 3 [97, 98, 99] := by rw [hW]; exact (Rd.cst8 _ _ 3 [97, 98, 99] rfl _ rfl (3, 4) _ (by simp)).alloc _
  have rV : RdV W (some ⟨w.heap.size + 1 + 1 + 1, 0, none⟩) 8 [.slice (some ⟨w.heap.size, 0, none⟩) 2 2, .int .u64 5, .int .u8 1, .slice (some ⟨w.heap.size + 1, 0, none⟩) 1 1, .slice (some ⟨w.heap.size + 1 + 1, 0, none⟩) 3 3, .int .u64 7, .int .u8 2, .slice none 0 0] := by rw [hW]; exact (ownV_box8 _ _ 0 _ 8 rfl (by omega) (Nat.zero_le _) _ rfl _ (by simp)).rd
  have hev1 : EV W e81 (.slice (some ⟨w.heap.size, 0, none⟩) 2 2) (.int .u64 5) (.int .u8 1) (.slice (some ⟨w.heap.size + 1, 0, none⟩) 1 1) := ⟨rfl, rfl, by unfold e81 U64; simp, by unfold e81; simp, ⟨_, 2, 2, rfl, r1, by omega, fun h => by cases h⟩, ⟨_, 1, 1, rfl, r2, by omega, fun h => by cases h⟩⟩
  have hev2 : EV W e82 (.slice (some ⟨w.heap.size + 1 + 1, 0, none⟩) 3 3) (.int .u64 7) (.int .u8 2) (.slice none 0 0) := ⟨rfl, rfl, by unfold e82 U64; simp, by unfold e82; simp, ⟨_, 3, 3, rfl, r3, by omega, fun h => by cases h⟩, ⟨_, 0, 0, rfl, Rd.nil _ _, by omega, fun _ => rfl⟩⟩
  have hes : REs W (some ⟨w.heap.size + 1 + 1 + 1, 0, none⟩) 2 [e81, e82] := REs.mk (vs := [_, _, _, _] ++ [_, _, _, _]) (EVs.app (EVs.one hev1) (EVs.one hev2)) rV rfl
  have hbd : Calls Try.prog 24 #[.int .i64 2, .slice (some ⟨w.heap.size + 1 + 1 + 1, 0, none⟩) 2 2] W (RetBb W (buildE 2 [e81, e82])) := build8_any hes (by omega) 2 (by omega) (by omega)
  obtain ⟨q1, q2, f1, f2, f3, f4, f5, f6⟩ := b8
  obtain ⟨z, hz⟩ : ∃ z, z = (buildE 2 [e81, e82]).1 := ⟨_, rfl⟩
  have hbd2 : Calls Try.prog 24 #[.int .i64 2, .slice (some ⟨w.heap.size + 1 + 1 + 1, 0, none⟩) 2 2] W (fun e w' => ∃ A c, e = .returned (.tuple #[.slice A 30 c, .int .i64 0]) ∧ Rd w' A 30 z ∧ Below W.heap.size W w') := hbd.mono (by
    rintro e w' ⟨A, c, he, ho, hb⟩
    rw [q1, q2] at he
    rw [q2, ← hz] at ho
    exact ⟨A, c, he, ho.rd, hb⟩)
  rw [← hz] at f1 f2 f3 f4 f5 f6
  have HBD := Lib.hid hbd2
  have HF := Lib.hid (And.intro f1 (And.intro f2 (And.intro f3 (And.intro f4 (And.intro f5 f6)))))
  have BW := Lib.hid bW
  clear hbd hbd2 hW bW r1 r2 r3 rV hev1 hev2 hes q1 q2 f1 f2 f3 f4 f5 f6 hz kc
  with_reducible refine HBD.out.mono ?_
  rintro e w2 ⟨A, c, rfl, rd, b2⟩
  obtain ⟨b, off, rfl, _⟩ := rd.pos (by omega)
  have key : ∀ (i : Nat) (y : UInt8), i < 30 → z[i]? = some y → w2.cell? ⟨b, off + i, none⟩ = some (.int .u8 (y.toNat : Int)) := fun i y hi hy => by
    obtain ⟨x, hx, hc, _⟩ := rd.at_ i hi
    rw [hy] at hx
    injection hx with hx
    rw [hx]
    exact hc
  have g1 : w2.cell? ⟨b, off + 8, none⟩ = some (.int .u8 0) := key 8 0 (by omega) HF.out.1
  have g2 : w2.cell? ⟨b, off + 9, none⟩ = some (.int .u8 2) := key 9 2 (by omega) HF.out.2.1
  have g3 : w2.cell? ⟨b, off + 10, none⟩ = some (.int .u8 5) := key 10 5 (by omega) HF.out.2.2.1
  have g4 : w2.cell? ⟨b, off + 16, none⟩ = some (.int .u8 2) := key 16 2 (by omega) HF.out.2.2.2.1
  have g5 : w2.cell? ⟨b, off + 17, none⟩ = some (.int .u8 1) := key 17 1 (by omega) HF.out.2.2.2.2.1
  have g6 : w2.cell? ⟨b, off + 18, none⟩ = some (.int .u8 7) := key 18 7 (by omega) HF.out.2.2.2.2.2
  have B2 := Lib.hid (BW.out.trans (b2.mono BW.out.size))
  clear key rd b2
  go_wp2_with fail
  go_ret
  exact ⟨rfl, B2.out⟩
end Go.Proofs.Ytoaajkdhlhopmaa
namespace Go.Proofs.Ytoaajkdhlhopmaa
open Go Go.RowKit

def lenV : Value → Nat
  | .slice _ n _ => n
  | _ => 0
/-- What parse hands back: the entries, the every; or none. -/
def RetPa8 (w : World) (r : Option (List En × Nat)) (e : Ending) (w' : World) : Prop :=
  (r = none ∧ e = .returned (.tuple #[.slice none 0 0, .int .i64 0, .bool false]) ∧ Below w.heap.size w w') ∨
  ∃ es ev L d, r = some (es, ev) ∧ e = .returned (.tuple #[.slice L es.length d, .int .i64 (ev : Int), .bool true]) ∧ RowE w w.heap.size L es.length d es w' ∧ es.length ≤ 16777216 ∧ ev ≤ 16777216
/-- What stands at the head of parse's loop. -/
def PRel (w : World) (p : Nat) (E : Option Addr) (en ec : Nat) (ys : List UInt8) (sec : Int) (s10 s11 s12 : Value) (wr : World) : Prop :=
  ∃ (f a i d hn hc ev : Nat) (es : List En) (L H : Option Addr) (vs : List Value), s10 = .int .i64 (ev : Int) ∧ s11 = .slice L i d ∧ s12 = .slice H hn hc ∧
    parR ys sec (en + 1) 0 [] 0 = parR ys sec f a es ev ∧ a ≤ en ∧ en < a + f ∧ i ≤ a ∧ ev ≤ i ∧ Rdr wr p E en ec (a, false) ∧ PR w.heap.size wr.heap.size p L i d es wr vs ∧
    Rd wr H hn (lastK es) ∧ hn ≤ hc ∧ (H = none → hc = 0) ∧ blk H ≠ some p ∧ hn ≤ 1024 ∧ Below w.heap.size w wr
set_option maxRecDepth 100000 in
set_option maxHeartbeats 16000000 in
theorem parse_any (A : Option Addr) (n c : Nat) (xs : List UInt8) (w : World) (hx : Rd w A n xs) (hn : n ≤ 16777216) (hnc : n ≤ c) (hnil : A = none → c = 0) :
    Calls Try.prog 57 #[.slice A n c] w (RetPa8 w (parB xs)) := by
  have hxl := hx.len
  have HSP := Lib.hid (split_any A n c xs w hx (by omega) hnc hnil)
  cases hsb : splitB xs with
  | none =>
    have hp : parB xs = none := by unfold parB; rw [hsb]
    have HP := Lib.hid hp
    clear hp hx hxl
    go_enter Try.func57, Try.ntmps57
    go_wp2_with fail
    refine HSP.out.mono ?_
    rintro e w1 ⟨⟨q, hq⟩, ⟨_, rfl⟩ | ⟨ys, zs, B1, n1, c1, B2, n2, c2, h0, _⟩⟩
    · have HQ := Lib.hid hq
      clear hq
      go_wp2_with fail
      exact bodyPost_ret (v := .tuple #[.slice none 0 0, .int .i64 0, .bool false]) (by simp [results, Try.f57, go_sem]; try rfl) rfl (.inl ⟨HP.out, rfl, by rw [HQ.out]; exact below_drewN (Below.refl _ _) q⟩)
    · rw [hsb] at h0
      cases h0
  | some yz =>
    obtain ⟨ys, zs⟩ := yz
    obtain ⟨sec, hsec⟩ : ∃ sec : Int, sec = if 8 ≤ zs.length then (numK (zs.drop 4) 4 : Int) else -1 := ⟨_, rfl⟩
    have hp : parB xs = match parR ys sec (ys.length + 1) 0 [] 0 with
      | none => none
      | some (es, ev) => some (es, if sec < 0 then max es.length 1 else ev) := by
      unfold parB
      rw [hsb]
      simp only
      rw [← hsec]
      all_goals (cases parR ys sec (ys.length + 1) 0 [] 0 <;> rfl)
    have HP := Lib.hid hp
    have HSEC := Lib.hid hsec
    have HSB := Lib.hid hsb
    clear hp hsec hsb
    go_enter Try.func57, Try.ntmps57
    go_wp2_with fail
    refine HSP.out.mono ?_
    rintro e w1 ⟨⟨q, hq⟩, ⟨h0, _⟩ | ⟨ys', zs', E, en, ec, Z, zn, zc, h0, rfl, hec, hzc, rE, rZ, hEn, hZn, hEA, hlen⟩⟩
    · rw [HSB.out] at h0
      cases h0
    · rw [HSB.out] at h0
      injection h0 with h0
      injection h0 with h01 h02
      subst h01 h02
      have rE1 : Rd w1 E en ys := by rw [hq]; exact rE.drewN q
      have rZ1 : Rd w1 Z zn zs := by rw [hq]; exact rZ.drewN q
      have b1 : Below w.heap.size w w1 := by rw [hq]; exact below_drewN (Below.refl _ _) q
      have s1 : w1.heap.size = w.heap.size := by rw [hq]; rfl
      have hsz : sec = if 8 ≤ zn then (numK (zs.drop 4) 4 : Int) else -1 := by rw [HSEC.out, rZ.len]
      have HSZ := Lib.hid hsz
      have HRZ := Lib.hid rZ1
      have HRE := Lib.hid rE1
      have HB1 := Lib.hid b1
      have HREw := Lib.hid rE
      have hA0 : 0 < n := by have := hxl; omega
      have hpe : ∀ p, w.heap.size ≤ p → blk E ≠ some p := fun p hp e => by
        rcases hEA with e2 | e2
        · rw [e2] at e; cases e
        · obtain ⟨bA, oA, eA, hbA⟩ := hx.pos hA0
          rw [e2, eA] at e
          injection e with e
          simp only at e
          omega
      have HPE := Lib.hid hpe
      have HS1 := Lib.hid s1
      have hznn : zn ≤ 16777216 := by omega
      have henn : en ≤ 16777216 := by omega
      clear hq rE rZ rE1 rZ1 b1 s1 hsz HSP hx hpe hEA
      go_upto_if 25 with (fail)
      go_cut [8] from 15 to 29 (fun s8 wx => s8 = .int .i64 sec ∧ ∃ q, wx = w1.drewN q)
      case first =>
        by_cases h8 : 8 ≤ zn
        · have h8i : (8 : Int) ≤ (zn : Int) := by omega
          obtain ⟨k, hk⟩ : ∃ k, k = numK (zs.drop 4) 4 := ⟨_, rfl⟩
          have hse : sec = (k : Int) := by rw [HSZ.out, if_pos h8, hk]
          have hsl : ∀ W : World, (Instr.slice 22 (.slice Z zn zc) (some (.int .i64 4)) none none).run Try.prog W = .ok (.slice (cutA Z 4 zc) (zn - 4) (zc - 4)) W := cut_l (k := 4) Try.underlying22 elem_bytes size_u8 Z (by omega)
          have HGW : Hid (Calls Try.prog 93 #[.slice (cutA Z 4 zc) (zn - 4) (zc - 4)] w1 (RetCo w1 k)) := Lib.hid (by
            rw [hk]
            have h := HRZ.out.cut (k := 4) (m := zn) (cap := zc) (by omega) (Nat.le_refl _) hzc
            rw [List.take_of_length_le (by have := HRZ.out.len; omega)] at h
            exact getWord8_any _ _ _ _ w1 h (by omega) (by omega) (by omega))
          obtain ⟨zm, hzm⟩ : ∃ zm, zm = zn - 4 := ⟨_, rfl⟩
          rw [← hzm] at hsl HGW
          have HSE := Lib.hid hse
          clear hk hse hzm
          go_wp2_with fail
          with_reducible refine HGW.out.mono ?_
          rintro e w2 ⟨rfl, q2, hq2⟩
          have HQ2 := Lib.hid hq2
          clear hq2
          go_wp2_with fail
          go_meet
          case rel => exact ⟨by rw [HSE.out], q2, HQ2.out⟩
        · have h8i : ¬ (8 : Int) ≤ (zn : Int) := by omega
          have hse : sec = -1 := by rw [HSZ.out, if_neg h8]
          have HSE := Lib.hid hse
          clear hse
          go_wp2_with fail
          go_meet
          case rel => exact ⟨by rw [HSE.out], 0, rfl⟩
      case rest =>
        obtain ⟨rfl, q2, hq2⟩ := hcut
        have bc : Below w.heap.size w wc := by rw [hq2]; exact below_drewN HB1.out q2
        have sc : wc.heap.size = w.heap.size := by rw [hq2, ← HS1.out]; rfl
        have hyl : ys.length = en := HRE.out.len
        have HYL := Lib.hid hyl
        obtain ⟨W, hW⟩ : ∃ W, W = wc.alloc (.cells #[.slice E en ec, .int .i64 0, .bool false] 129) := ⟨_, rfl⟩
        obtain ⟨p, hpw⟩ : ∃ p, p = wc.heap.size := ⟨_, rfl⟩
        have hWr : Rdr W p E en ec (0, false) := by rw [hW, hpw]; exact Cl.new _ _ _
        have bW : Below w.heap.size w W := by rw [hW]; exact bc.alloc (by omega) _
        have sW : p < W.heap.size := by rw [hW, hpw]; simp
        have hpge : w.heap.size ≤ p := by omega
        have HWR := Lib.hid (And.intro hWr bW)
        have HSW := Lib.hid sW
        have HW := Lib.hid hW
        have HPW := Lib.hid hpw
        clear hq2 bc sc hyl hWr bW sW hW hpw
        go_upto_region 8 with (fail)
        rw [← HW.out, ← HPW.out]
        go_wp2_with fail
        go_loopw [10, 11, 12] (fun s10 s11 s12 wr => PRel w p E en ec ys sec s10 s11 s12 wr ∧ p < wr.heap.size) (fun _ s _ _ => en + 1 - lenV s)
        case atStart => exact ⟨⟨en + 1, 0, 0, 0, 0, 0, 0, [], none, none, [], rfl, rfl, rfl, rfl, Nat.zero_le _, by omega, Nat.le_refl _, Nat.le_refl _, HWR.out.1, PR.zero _ _ _ _, Rd.nil _ _, Nat.le_refl _, fun _ => rfl, (fun h => by cases h), by omega, HWR.out.2⟩, HSW.out⟩
        case round =>
          obtain ⟨⟨f, a, i, d, hn2, hc2, ev, es, L, H, vs, rfl, rfl, rfl, hpar, hae, haf, hia, hevi, hRd, hPR, hH, hHc, hHn, hHp, hH1, hB⟩, hpl⟩ := hrel
          have hcl : Cl wr p #[.slice E en ec, .int .i64 (a : Int), .bool false] 129 := hRd
          obtain ⟨c0, c1, c2, f0, f1, f2⟩ := hcl.c3
          have HPAR := Lib.hid hpar
          have HB := Lib.hid hB
          have HPR := Lib.hid hPR
          have HRD := Lib.hid hRd
          have HHR := Lib.hid hH
          clear hpar hB hPR hRd hcl hH
          by_cases hlt : a < en
          · obtain ⟨f', rfl⟩ : ∃ f', f = f' + 1 := ⟨f - 1, by omega⟩
            obtain ⟨ev2, hev2⟩ : ∃ ev2, ev2 = if (a : Int) = sec then i else ev := ⟨_, rfl⟩
            have hev2i : ev2 ≤ i := by rw [hev2]; split <;> omega
            have HEV2 := Lib.hid hev2
            have hil : es.length = i := HPR.out.2.2.2.1
            have HIL := Lib.hid hil
            clear hev2 hil
            go_upto_if 40 with (fail)
            go_cut [10] from 37 to 43 (fun s10 wx => s10 = .int .i64 (ev2 : Int) ∧ wx = wr)
            case first =>
              by_cases hs : (a : Int) = sec
              · have he : ev2 = i := by rw [HEV2.out, if_pos hs]
                have t1 : ((a : Int) == sec) = true := by simpa using hs
                subst he
                go_wp2_with fail
                go_meet
                case rel => exact ⟨rfl, rfl⟩
              · have he : ev2 = ev := by rw [HEV2.out, if_neg hs]
                have t1 : ((a : Int) == sec) = false := by simpa using hs
                subst he
                go_wp2_with fail
                go_meet
                case rel => exact ⟨rfl, rfl⟩
            case rest =>
              obtain ⟨rfl, hwc⟩ := hcut
              rw [hwc]
              clear hwc wc
              have HEN := Lib.hid (entry_any wr p E en ec ys H hn2 hc2 (lastK es) a HRD.out (HREw.out.below HB.out) HHR.out hae (by omega) hec hEn (by omega) hHc (HPE.out p hpge) hHp hHn)
              have hstep : parR ys sec (f' + 1) a es ev = if badR ys (lastK es) a then none else parR ys sec f' (e7R ys a).2.1 (es ++ [entR ys (lastK es) a]) ev2 := by
                rw [parR, if_neg (by rw [HYL.out]; omega), HEV2.out, HIL.out]
              have HST := Lib.hid hstep
              clear hstep
              go_wp2_with fail
              with_reducible refine HEN.out.mono ?_
              intro e w2 hq
              obtain ⟨r2, g2, hcase⟩ := hq
              rcases hcase with ⟨hbad, rfl⟩ | ⟨hbad, K, kn, kc, V, vn, vc, rfl, oK, oV, dj⟩
              · have hfin : parB xs = none := by
                  rw [HP.out, HYL.out, HPAR.out, HST.out, hbad]
                  rfl
                have hb2 : Below w.heap.size w w2 := HB.out.grown g2 HB.out.size (fun k hk => by injection hk with hk; omega)
                have HF := Lib.hid (And.intro hfin hb2)
                clear hbad r2 g2 hfin hb2
                go_wp2_with fail
                exact bodyPost_ret (v := .tuple #[.slice none 0 0, .int .i64 0, .bool false]) (by simp [results, Try.f57, go_sem]; try rfl) rfl (.inl ⟨HF.out.1, rfl, HF.out.2.alloc HF.out.2.size _⟩)
              · obtain ⟨x, hxe⟩ : ∃ x, x = entR ys (lastK es) a := ⟨_, rfl⟩
                rw [← hxe] at oK oV ⊢
                have hkl : x.key.length ≤ 1024 := by rw [hxe]; exact entR_key hbad
                have hwf : U64 x.seq ∧ x.kind < 256 := by
                  rw [hxe]
                  refine ⟨?_, ?_⟩
                  · have := (numR_le (xs := ys) (s := (e2R ys a).2) (e_le (by rw [HYL.out]; exact hae)).2.1).2
                    exact this
                  · exact UInt8.toNat_lt _
                have hpar2 : parR ys sec (en + 1) 0 [] 0 = parR ys sec f' (e7R ys a).2.1 (es ++ [x]) ev2 := by rw [HPAR.out, HST.out, hbad, hxe]; rfl
                have h7b := (badR_no hbad).1
                have h7l : (e7R ys a).2.1 ≤ en := by rw [← HYL.out]; exact (e_le (by rw [HYL.out]; exact hae)).2.2.2.2.2.2
                have h7m : a < (e7R ys a).2.1 := e7_more (by rw [HYL.out]; exact hae) h7b
                have hr2 : Rdr w2 p E en ec ((e7R ys a).2.1, false) := by
                  have := r2
                  unfold Rdr at this ⊢
                  rw [h7b] at this
                  exact this
                have s2 := g2.size
                have hb2 : Below w.heap.size w w2 := HB.out.grown g2 HB.out.size (fun k hk => by injection hk with hk; omega)
                have hPR2 := HPR.out.kept g2
                obtain ⟨U, hU⟩ : ∃ U, U = w2.alloc (.cells #[.slice K kn kc, .int .u64 (x.seq : Int), .int .u8 (x.kind : Int), .slice V vn vc] 33) := ⟨_, rfl⟩
                obtain ⟨g3, hg3⟩ : ∃ g3, g3 = w2.heap.size := ⟨_, rfl⟩
                have bU : Below w2.heap.size w2 U := by rw [hU]; exact (Below.refl _ _).alloc (Nat.le_refl _) _
                have kU : Cl U g3 #[.slice K kn kc, .int .u64 (x.seq : Int), .int .u8 (x.kind : Int), .slice V vn vc] 33 := by rw [hU, hg3]; exact Cl.new _ _ _
                have sU := bU.size
                have hPRU := hPR2.below bU
                have oKU := oK.below bU
                have oVU := oV.below bU
                have hRU : Rdr U p E en ec ((e7R ys a).2.1, false) := (show Cl w2 p _ _ from hr2).below bU
                have hBU : Below w.heap.size w U := hb2.trans (bU.mono (by have := HB.out.size; omega))
                have hcell : ∀ u ∈ [Value.slice K kn kc, .int .u64 (x.seq : Int), .int .u8 (x.kind : Int), .slice V vn vc], u.oneCell' = true := by
                  intro u hu
                  simp only [List.mem_cons, List.not_mem_nil, or_false] at hu
                  rcases hu with rfl | rfl | rfl | rfl <;> rfl
                have hwb : w.heap.size ≤ wr.heap.size := HB.out.size
                have hkcap := oK.cap
                have hknil : K = none → kc = 0 := fun h => by have := oK.nil_of (by rw [h]; rfl); exact this.2.2
                have hknl := oK.len
                obtain ⟨y0, y1, y2, y3, _⟩ := kU.c4
                have HU := Lib.hid hU
                have HG3 := Lib.hid hg3
                have HPU := Lib.hid hPRU
                have HO := Lib.hid (And.intro oKU (And.intro oVU dj))
                have HRU := Lib.hid (And.intro hRU hBU)
                have HKU := Lib.hid kU
                have HWF := Lib.hid hwf
                have HP2 := Lib.hid hpar2
                have HCE := Lib.hid hcell
                have HKN := Lib.hid hknil
                have HKL := Lib.hid hknl
                have hkn2 : kn ≤ 1024 := by omega
                have hkc2 : kn ≤ kc := hkcap.1
                have hUl : wr.heap.size ≤ U.heap.size := by omega
                have HX := Lib.hid hxe
                have HS2 := Lib.hid s2
                clear hxe hbad oK oV dj r2 g2 hr2 hb2 hPR2 bU kU hPRU oKU oVU hRU hBU hcell hU hwf hpar2 hknil hknl hkcap h7b hkl HEN HST c0 c1 c2 f0 f1 f2 s2 sU
                go_upto_if 49 with (fail)
                rw [← HU.out, ← HG3.out]
                clear hg3
                go_wp2_with (at_builtin; refine wpList_app4t U rfl _ _ 25 rfl w.heap.size _ 64 Try.underlying25 info_ent rfl L i d vs rfl HPU.out.1 _ _ _ _ HCE.out U.heap.size rfl rfl ?_ ?_ ?_ ?_)
                · omega
                · omega
                · omega
                intro L2 d2 w4 hG4 hg4 hb4
                have hPR4 := pr_add HPU.out HO.out.1 HO.out.2.1 HO.out.2.2 HWF.out hwb hpl hUl hG4 hg4 hb4
                have s4 := hg4.size
                have hLp : blk L ≠ some p := HPU.out.2.2.2.2.2.2.1
                have hLb : ∀ b, blk L = some b → b < wr.heap.size := HPU.out.2.2.2.2.2.2.2.2
                have hR4 : Rdr w4 p E en ec ((e7R ys a).2.1, false) := ClG.grown HRU.out.1 hg4 hLp
                have k4 : Cl w4 g3 #[.slice K kn kc, .int .u64 (x.seq : Int), .int .u8 (x.kind : Int), .slice V vn vc] 33 := ClG.grown HKU.out hg4 (fun e => by have := hLb g3 e; have := HG3.out; have := HS2.out; omega)
                have rK4 : Rd w4 K kn x.key := (HO.out.1.kept hg4 (fun b hb e => by have h1 := (HO.out.1.lt b hb).1; have h2 := hLb b e; omega)).rd
                have hB4 : Below w.heap.size w w4 := HRU.out.2.grown hg4 (by omega) (fun k hk => (HPU.out.1.lt k hk).1)
                have hKp : blk K ≠ some p := fun e => by have := (HO.out.1.lt p e).1; omega
                obtain ⟨z0, z1, z2, z3, _⟩ := k4.c4
                have HF := Lib.hid (And.intro hPR4 (And.intro hR4 (And.intro rK4 (And.intro hB4 hKp))))
                clear hPR4 hR4 k4 rK4 hB4 hKp hG4 hg4 hb4 y0 y1 y2 y3 hLp hLb
                go_wp2_with fail
                go_roundw
                case rel =>
                  refine ⟨⟨f', (e7R ys a).2.1, i + 1, d2, kn, kc, ev2, es ++ [x], L2, K, _, rfl, rfl, rfl, HP2.out, h7l, by omega, by omega, by omega, HF.out.2.1, HF.out.1, ?_, hkc2, HKN.out, HF.out.2.2.2.2, hkn2, HF.out.2.2.2.1⟩, by omega⟩
                  rw [lastK_snoc]
                  exact HF.out.2.2.1
                case measure => simp [lenV]; omega
          · obtain rfl : a = en := by omega
            have hil : es.length = i := HPR.out.2.2.2.1
            have hf : parR ys sec f a es ev = some (es, ev) := by
              obtain ⟨f', rfl⟩ : ∃ f', f = f' + 1 := ⟨f - 1, by omega⟩
              rw [parR, if_pos (by rw [HYL.out]; exact Nat.le_refl _)]
            have hpb : parB xs = some (es, if sec < 0 then max i 1 else ev) := by rw [HP.out, HYL.out, HPAR.out, hf]; simp only [hil]
            have hrow : RowE w w.heap.size L i d es wr := HPR.out.row HB.out HB.out.size
            have HPB := Lib.hid hpb
            have HROW := Lib.hid hrow
            have HIL := Lib.hid hil
            clear hil hf hpb hrow
            by_cases hs : sec < 0
            · obtain ⟨mx, hmx⟩ : ∃ mx, mx = max i 1 := ⟨_, rfl⟩
              have hb : parB xs = some (es, mx) := by rw [HPB.out, if_pos hs, hmx]
              have hmi : mx ≤ 16777216 := by omega
              have HBB := Lib.hid hb
              have HMX := Lib.hid hmx
              clear hb hmx
              by_cases hi1 : i < 1
              · obtain rfl : i = 0 := by omega
                have hm1 : mx = 1 := by have := HMX.out; omega
                subst hm1
                go_wp2_with fail
                refine bodyPost_ret (v := .tuple #[.slice L 0 d, .int .i64 1, .bool true]) (by simp [results, Try.f57, go_sem]; try rfl) rfl (.inr ⟨es, 1, L, d, HBB.out, by rw [HIL.out]; rfl, by rw [HIL.out]; exact HROW.out, by rw [HIL.out]; omega, hmi⟩)
              · have hm1 : mx = i := by have := HMX.out; omega
                subst hm1
                go_wp2_with fail
                refine bodyPost_ret (v := .tuple #[.slice L mx d, .int .i64 (mx : Int), .bool true]) (by simp [results, Try.f57, go_sem]; omega) rfl (.inr ⟨es, mx, L, d, HBB.out, by rw [HIL.out], by rw [HIL.out]; exact HROW.out, by rw [HIL.out]; omega, hmi⟩)
            · have hb : parB xs = some (es, ev) := by rw [HPB.out, if_neg hs]
              have HBB := Lib.hid hb
              clear hb
              go_wp2_with fail
              refine bodyPost_ret (v := .tuple #[.slice L i d, .int .i64 (ev : Int), .bool true]) (by simp [results, Try.f57, go_sem]; try rfl) rfl (.inr ⟨es, ev, L, d, HBB.out, by rw [HIL.out], by rw [HIL.out]; exact HROW.out, by rw [HIL.out]; omega, by omega⟩)
end Go.Proofs.Ytoaajkdhlhopmaa
namespace Go.Proofs.Ytoaajkdhlhopmaa
open Go Go.RowKit

/-- 'So far sorted.' -/
def Spk (w : World) (us : List Value) (es : List En) (L : Option Addr) (k d : Nat) (wr : World) : Prop :=
  ∃ vs, OwnE wr w.heap.size L k d vs ∧ EVs wr es vs ∧ es.length = k ∧ Below w.heap.size w wr ∧ ∀ u ∈ vs, u ∈ us
section
variable {w wr w' : World} {us : List Value} {es : List En} {L : Option Addr} {k d : Nat}
theorem Spk.zero (w : World) (us : List Value) : Spk w us [] none 0 0 w := ⟨[], OwnE.nil _ _, rfl, rfl, Below.refl _ _, fun u hu => by cases hu⟩
theorem Spk.below (h : Spk w us es L k d wr) (hb : Below wr.heap.size wr w') : Spk w us es L k d w' := by
  obtain ⟨vs, h1, h2, h3, h4, h5⟩ := h
  exact ⟨vs, h1.below hb, h2.below hb, h3, belowT' h4 hb, h5⟩
theorem Spk.bel (h : Spk w us es L k d wr) : Below w.heap.size w wr := by
  obtain ⟨vs, h1, h2, h3, h4, h5⟩ := h
  exact h4
theorem Spk.res (h : Spk w us es L k d wr) : REs wr L k es := by
  obtain ⟨vs, h1, h2, h3, h4, h5⟩ := h
  exact REs.mk h2 h1.rd h3
theorem Spk.cap (h : Spk w us es L k d wr) : k ≤ d := by
  obtain ⟨vs, h1, h2, h3, h4, h5⟩ := h
  exact h1.cap.1
theorem Spk.ret (h : Spk w us es L k d wr) : RetPick w es us (.returned (.slice L k d)) wr := by
  obtain ⟨vs, h1, h2, h3, h4, h5⟩ := h
  exact ⟨L, k, d, vs, rfl, h1, h2, h3, h4, h5⟩
end
set_option maxRecDepth 100000 in
set_option maxHeartbeats 8000000 in
theorem sorted_any {w : World} {A : Option Addr} {n c : Nat} {es : List En} {ovs : List Value} (hv : EVs w es ovs) (hd : RdV w A (n * 4) ovs) (hl : es.length = n) (hn : n ≤ 1099511627776) (hs : ∀ x ∈ es, SzE x) :
    Calls Try.prog 23 #[.slice A n c] w (RetPick w (srt [] es) ovs) := by
  have HV := Lib.hid hv
  have HD := Lib.hid hd
  have HL := Lib.hid hl
  have HS := Lib.hid hs
  clear hv hd hl hs
  go_enter Try.func23, Try.ntmps23
  go_wp2_with fail
  go_loopw [3, 4] (fun s3 s4 wr => ∃ (k m d : Nat) (L : Option Addr), k ≤ n ∧ s4 = .int .i64 (k : Int) ∧ s3 = .slice L m d ∧ Spk w ovs (srt [] (es.take k)) L m d wr) (fun _ s _ => n - (intOf s).toNat)
  case atStart => exact ⟨0, 0, 0, none, Nat.zero_le _, rfl, rfl, Spk.zero w ovs⟩
  case round =>
    obtain ⟨k, m, d, L, hk, rfl, rfl, hp⟩ := hrel
    have HP := Lib.hid hp
    have HB := Lib.hid hp.bel
    clear hp
    by_cases hlt : k < n
    · obtain ⟨b, off, hAb, hbl⟩ : ∃ b off, A = some ⟨b, off, none⟩ ∧ b < w.heap.size := HD.out.pos (by omega)
      obtain ⟨x, v0, v1, v2, v3, hx, c0, c1, c2, c3, hev, hmem⟩ := mem4 HV.out HD.out HL.out hAb hlt
      subst hAb
      have hsx := HS.out x (List.mem_of_getElem? hx)
      have HEV := Lib.hid hev
      have HMEM := Lib.hid hmem
      have HXK := Lib.hid hx
      obtain ⟨K, kn, kc, V, vn, vc, rfl, rfl, rfl, rfl, r0, _⟩ := hev.parts
      obtain ⟨o, ho⟩ : ∃ o, o = srt [] (es.take k) := ⟨_, rfl⟩
      rw [← ho] at HP
      have hol : o.length ≤ n := by
        have := (srt_len (es.take k) []).1
        rw [← ho, List.length_take] at this
        simp only [List.length_nil] at this
        omega
      have hom : o.length = m := HP.out.res.len
      have HSO : Hid (∀ y ∈ o, SzE y) := Lib.hid (fun y hy => by
        rw [ho] at hy
        rcases srt_mem y hy with q | q
        · cases q
        · exact HS.out y (List.mem_of_mem_take q))
      have HFT : Hid (srt [] (es.take (k + 1)) = if okE x && !inL o x then insL o x else o) := Lib.hid (by
        rw [List.take_add_one, HXK.out]
        simp only [Option.toList]
        rw [srt_snoc, ← ho])
      have hB := HB.out
      have d0 := (hB.cell (p := ⟨b, off + k * 4, none⟩) hbl).trans c0
      have d1 := (hB.cell (p := ⟨b, off + k * 4 + 1, none⟩) hbl).trans c1
      have d2 := (hB.cell (p := ⟨b, off + k * 4 + 2, none⟩) hbl).trans c2
      have d3 := (hB.cell (p := ⟨b, off + k * 4 + 3, none⟩) hbl).trans c3
      have HSX : Hid (∀ wx, Below wr.heap.size wr wx → wx.cell? ⟨b, off + k * 4, none⟩ = some (.slice K kn kc) ∧ wx.cell? ⟨b, off + k * 4 + 1, none⟩ = some (.int .u64 (x.seq : Int)) ∧ wx.cell? ⟨b, off + k * 4 + 2, none⟩ = some (.int .u8 (x.kind : Int)) ∧ wx.cell? ⟨b, off + k * 4 + 3, none⟩ = some (.slice V vn vc)) := Lib.hid (fun wx h => by
        have hb2 : b < wr.heap.size := Nat.lt_of_lt_of_le hbl hB.size
        exact ⟨(h.cell (p := ⟨b, off + k * 4, none⟩) hb2).trans d0, (h.cell (p := ⟨b, off + k * 4 + 1, none⟩) hb2).trans d1, (h.cell (p := ⟨b, off + k * 4 + 2, none⟩) hb2).trans d2, (h.cell (p := ⟨b, off + k * 4 + 3, none⟩) hb2).trans d3⟩)
      obtain ⟨zc, hzc⟩ : ∃ z, z = checkE [x] := ⟨_, rfl⟩
      obtain ⟨zi, hzi⟩ : ∃ z, z = inL o x := ⟨_, rfl⟩
      have HOK : Hid (okE x = decide (zc = 0)) := Lib.hid (by rw [hzc]; rfl)
      have HZI := Lib.hid hzi
      obtain ⟨W, hW⟩ : ∃ W, W = wr.alloc (.cells #[.slice K kn kc, .int .u64 (x.seq : Int), .int .u8 (x.kind : Int), .slice V vn vc] 33) := ⟨_, rfl⟩
      have bW : Below wr.heap.size wr W := by rw [hW]; exact (Below.refl _ _).alloc (Nat.le_refl _) _
      have BW := Lib.hid bW
      have HEVr := Lib.hid (HEV.out.below hB)
      have HC : Hid (Calls Try.prog 66 #[.slice (some ⟨wr.heap.size, 0, none⟩) 1 1] W (RetNu W zc)) := Lib.hid (by
        rw [hzc]
        refine refCheck_any (REs.mk (EVs.one (HEVr.out.below bW)) ?_ rfl) (by omega) (fun y hy => by simp only [List.mem_singleton] at hy; subst hy; exact hsx)
        rw [hW]
        exact rdv_of_cl (Cl.new wr #[.slice K kn kc, .int .u64 (x.seq : Int), .int .u8 (x.kind : Int), .slice V vn vc] 33))
      have HI : Hid (∀ wx, Below wr.heap.size wr wx → Calls Try.prog 67 #[.slice L m d, .agg #[.slice K kn kc, .int .u64 (x.seq : Int), .int .u8 (x.kind : Int), .slice V vn vc]] wx (RetT wx zi)) := Lib.hid (fun wx h => by
        rw [hzi]
        exact In_any (HP.out.res.below h) (by omega) HSO.out (HEVr.out.below h) hsx)
      clear hx c0 c1 c2 c3 hev hmem r0 hB ho hzc hzi bW
      go_upto_region 5 with (fail)
      go_cut [26] from 5 to 27 (fun s26 wx => s26 = .bool (okE x && !inL o x) ∧ Below wr.heap.size wr wx)
      case first =>
        by_cases t1 : zc = 0
        · have h1 : (zc == 0) = true := by simpa using t1
          have hok : okE x = true := by rw [HOK.out]; simpa using t1
          have HOKT := Lib.hid hok
          clear t1 hok
          go_wp2_with fail
          rw [← hW]
          with_reducible refine HC.out.mono ?_
          rintro e w1 ⟨rfl, b1⟩
          have b1' := belowT' BW.out b1
          obtain ⟨e0, e1, e2, e3⟩ := HSX.out _ b1'
          have B1 := Lib.hid b1'
          clear b1 b1' d0 d1 d2 d3
          go_wp2_with fail
          with_reducible refine (HI.out _ B1.out).mono ?_
          intro e w2 hq
          obtain ⟨hh, b2⟩ := RetT.outD hq
          subst hh
          have B2 := Lib.hid (belowT' B1.out b2)
          clear hq b2 e0 e1 e2 e3
          go_wp2_with fail
          go_meet
          exact ⟨by rw [HOKT.out, ← HZI.out]; rfl, B2.out⟩
        · have h1 : (zc == 0) = false := by simpa using t1
          have hok : okE x = false := by rw [HOK.out]; simpa using t1
          have HOKF := Lib.hid hok
          clear t1 hok
          go_wp2_with fail
          rw [← hW]
          with_reducible refine HC.out.mono ?_
          rintro e w1 ⟨rfl, b1⟩
          have b1' := belowT' BW.out b1
          have B1 := Lib.hid b1'
          clear b1 b1' d0 d1 d2 d3
          go_wp2_with fail
          go_meet
          exact ⟨by rw [HOKF.out]; rfl, B1.out⟩
      case rest =>
        obtain ⟨rfl, hbc⟩ := hcut
        obtain ⟨zz, hzz⟩ : ∃ zz, zz = (okE x && !inL o x) := ⟨_, rfl⟩
        rw [← hzz] at HFT ⊢
        have BC := Lib.hid hbc
        have HPC := Lib.hid (HP.out.below hbc)
        have HEC := Lib.hid (HEVr.out.below hbc)
        obtain ⟨e0, e1, e2, e3⟩ := HSX.out _ hbc
        clear hbc hzz d0 d1 d2 d3 hW
        cases zz with
        | true =>
          obtain ⟨vs, o1, hev1, hlen1, hb1, hm1⟩ := HPC.out
          have HM1 := Lib.hid hm1
          have HB1 := Lib.hid hb1
          have HI2 : Hid (Calls Try.prog 68 #[.slice L m d, .agg #[.slice K kn kc, .int .u64 (x.seq : Int), .int .u8 (x.kind : Int), .slice V vn vc]] wc (RetIns wc (m + 1) (insL o x) ([.slice K kn kc, .int .u64 (x.seq : Int), .int .u8 (x.kind : Int), .slice V vn vc] ++ vs))) := Lib.hid (Insert_any hev1 o1.rd hlen1 o1.cap.1 (by omega) HSO.out HEC.out hsx)
          clear o1 hev1 hlen1 hb1 hm1
          go_wp2_with fail
          with_reducible refine HI2.out.mono ?_
          intro e w3 hq
          obtain ⟨L3, d3', us, h1, o3, ev3, b3, hmem⟩ := RetIns.out hq
          subst h1
          have sC := HB1.out.size
          have HP2 : Hid (Spk w ovs (srt [] (es.take (k + 1))) L3 (m + 1) d3' w3) := Lib.hid (by
            rw [HFT.out, if_pos trivial]
            exact ⟨us, o3.mono sC, ev3, by rw [insL_len, hom], belowT' HB1.out b3, fun u hu => by
              rcases List.mem_append.1 (hmem u hu) with h | h
              · exact HMEM.out u h
              · exact HM1.out u h⟩)
          clear hq o3 ev3 b3 hmem e0 e1 e2 e3
          go_wp2_with fail
          go_roundw
          case rel => exact ⟨k + 1, m + 1, d3', L3, by omega, by go_num, rfl, HP2.out⟩
          case measure => simp [intOf]; omega
        | false =>
          have HP2 : Hid (Spk w ovs (srt [] (es.take (k + 1))) L m d wc) := Lib.hid (by
            rw [HFT.out, if_neg (by simp)]
            exact HPC.out)
          clear e0 e1 e2 e3
          go_wp2_with fail
          go_roundw
          case rel => exact ⟨k + 1, m, d, L, by omega, by go_num, rfl, HP2.out⟩
          case measure => simp [intOf]; omega
    · have htk := take_all HL.out hlt
      rw [htk] at HP
      clear htk
      go_wp2
      go_ret
      exact HP.out.ret
end Go.Proofs.Ytoaajkdhlhopmaa
namespace Go.Proofs.Ytoaajkdhlhopmaa
open Go Go.RowKit

def bsB (xs : List UInt8) : ByteArray := ⟨⟨xs⟩⟩
theorem conv_rd {w : World} {n c : Nat} {A : Option Addr} {xs : List UInt8} (h : Rd w A n xs) (hn : 0 < n) : (convert 22 9 (.slice A n c)).run Try.prog w = .ok (.string (bsB xs)) w := by
  obtain ⟨b, off, rfl, _⟩ := h.pos hn
  rw [run_convert_bytes_arg w 22 5 Try.underlying22 Try.underlying5 b off n c (xs.map fun x => (x.toNat : Int)) (by simpa using h.len) ?_ 9 Try.underlying9]
  · congr 2
    unfold strOfNums bsB
    congr 2
    rw [List.map_map]
    conv => rhs; rw [← List.map_id xs]
    apply List.map_congr_left
    intro x _
    simp
  · intro i hi
    obtain ⟨x, hx, hc, _⟩ := h.at_ i hi
    rw [hc]
    simp [List.getD, List.getElem?_map, hx]
set_option maxRecDepth 100000 in
theorem bytesEqual_any (A B : Option Addr) (n m c d : Nat) (xs ys : List UInt8) (w : World) (hx : Rd w A n xs) (hy : Rd w B m ys) (hn : 0 < n) (hm : 0 < m) :
    Calls Try.prog 58 #[.slice A n c, .slice B m d] w (fun e w' => e = .returned (.bool (eqB xs ys)) ∧ w' = w) := by
  have k1 := conv_rd (c := c) hx hn
  have k2 := conv_rd (c := d) hy hm
  have hb : ((bsB xs).toList == (bsB ys).toList) = eqB xs ys := by rw [ByteArray.toList_eq, ByteArray.toList_eq]; rfl
  have HB := Lib.hid hb
  clear hb
  go_enter Try.func58, Try.ntmps58
  go_wp2_with fail
  go_ret
  exact ⟨by rw [← HB.out]; rfl, rfl⟩
theorem build8_zero {w : World} {A : Option Addr} {n c : Nat} : Calls Try.prog 24 #[.int .i64 0, .slice A n c] w (RetBb w ([], 1)) := by
  go_enter Try.func24, Try.ntmps24
  go_wp2_with fail
  exact bodyPost_ret (v := .tuple #[.slice none 0 0, .int .i64 1]) (by simp [results, Try.f24, go_sem]; try rfl) rfl (RetBb.no rfl (Below.refl _ _))
/-- What Build answers. -/
def buildZ (ev : Nat) (es : List En) : List UInt8 × Int := if ev = 0 then ([], 1) else buildE ev es
theorem buildZ_any {w : World} {A : Option Addr} {n c : Nat} {es : List En} (h : REs w A n es) (hn : n ≤ 16777216) (ev : Nat) (he2 : ev ≤ 9223372036854775807) :
    Calls Try.prog 24 #[.int .i64 (ev : Int), .slice A n c] w (RetBb w (buildZ ev es)) := by
  unfold buildZ
  split
  · rename_i e
    subst e
    exact build8_zero
  · exact build8_any h hn ev (by omega) he2
theorem sealB_pos (xs : List UInt8) : 8 ≤ (sealB xs).length := by rw [sealB_len]; omega
theorem buildZ_ok {ev : Nat} {es : List En} (h : (buildZ ev es).2 = 0) : 8 ≤ (buildZ ev es).1.length := by
  unfold buildZ at h ⊢
  split at h
  · cases h
  · rename_i e
    rw [if_neg e]
    rcases buildE_cases ev es with ⟨F, hF, _⟩ | ⟨k, hk, hk2⟩
    · rw [hF]; exact sealB_pos F
    · rw [hk] at h
      simp only at h
      omega
/-- What Decode makes of a record that doesn't open. -/
theorem decode_shutM (A : Option Addr) (n c : Nat) (xs : List UInt8) (w : World) (h : Rd w A n xs) (hn : n ≤ 1099511627776) (hc : n ≤ c) (hnil : A = none → c = 0) (k : Int) (hk : openG xs ((0 : Nat) : Int) = ([], 0, k)) (hk0 : k ≠ 0) :
    Calls Try.prog 16 #[.slice A n c] w (fun e w' => e = .returned (.tuple #[.slice none 0 0, .int .i64 k]) ∧ Below w.heap.size w w') := by
  have hO := Open_any A n c ((0 : Nat) : Int) xs w h hn hc hnil (by unfold I64; omega)
  rw [hk] at hO
  have HO := Lib.hid hO
  have t1 : (k == 0) = false := by simp [hk0]
  clear hO hk h
  go_enter Try.func16, Try.ntmps16
  go_wp2_with fail
  refine HO.out.mono ?_
  rintro e w8 ⟨O, on, oc, rfl, oo, hb8⟩
  clear HO oo
  go_wp2_with fail
  exact bodyPost_ret (v := .tuple #[.slice none 0 0, .int .i64 k]) (by simp [results, Try.f16, go_sem]; try rfl) rfl ⟨rfl, hb8⟩
theorem openG_in (xs : List UInt8) (z : Int) : (openG xs z).1.length ≤ 1048576 ∧ ((openG xs z).2.2 ≠ 0 → (openG xs z).1 = [] ∧ (openG xs z).2.1 = 0) ∧ ((openG xs z).2.2 = 0 → 8 ≤ xs.length) := by
  unfold openG
  split
  · simp
  · split
    · simp
    · split
      · simp
      · split
        · simp
        · split
          · refine ⟨?_, fun h => absurd rfl h, fun _ => by omega⟩
            simp only [List.length_drop, List.length_take]
            omega
          · simp
/-- What Decode makes of what was read. -/
def decP (xs : List UInt8) : Option (List En × Nat) → List En × Int
  | none => ([], 3)
  | some (es, ev) => if (buildZ ev es).2 = 0 ∧ (buildZ ev es).1 = xs then (es, 0) else ([], 3)
/-- What Decode answers. -/
def decB (xs : List UInt8) : List En × Int :=
  match openG xs ((0 : Nat) : Int) with
  | (inside, _, k) => if k ≠ 0 then ([], k) else decP xs (parB inside)
def RetDc8 (w : World) (r : List En × Int) (e : Ending) (w' : World) : Prop :=
  (r.1 = [] ∧ r.2 ≠ 0 ∧ e = .returned (.tuple #[.slice none 0 0, .int .i64 r.2]) ∧ Below w.heap.size w w') ∨
  (r.2 = 0 ∧ r.1.length ≤ 16777216 ∧ ∃ L d, e = .returned (.tuple #[.slice L r.1.length d, .int .i64 0]) ∧ RowE w w.heap.size L r.1.length d r.1 w')
set_option maxRecDepth 100000 in
set_option maxHeartbeats 8000000 in
theorem decode_any (A : Option Addr) (n c : Nat) (xs : List UInt8) (w : World) (h : Rd w A n xs) (hn : n ≤ 1099511627776) (hc : n ≤ c) (hnil : A = none → c = 0) :
    Calls Try.prog 16 #[.slice A n c] w (RetDc8 w (decB xs)) := by
  rcases hog : openG xs ((0 : Nat) : Int) with ⟨ins, nx, k⟩
  have hin := openG_in xs ((0 : Nat) : Int)
  rw [hog] at hin
  obtain ⟨hil, hno, hx8⟩ := hin
  have hil : ins.length ≤ 1048576 := hil
  by_cases hk : k = 0
  · have hO := Open_any A n c ((0 : Nat) : Int) xs w h hn hc hnil (by unfold I64; omega)
    rw [hog] at hO
    subst hk
    have hx8 : 8 ≤ n := by have := hx8 rfl; have := h.len; omega
    have HO := Lib.hid hO
    have HX := Lib.hid h
    obtain ⟨pr, hpr⟩ : ∃ pr, pr = parB ins := ⟨_, rfl⟩
    have hdec : decB xs = decP xs pr := by
      unfold decB
      rw [hog]
      simp only
      rw [if_neg (by simp), ← hpr]
    have HD := Lib.hid hdec
    have HPR := Lib.hid hpr
    clear hO h hno hog hdec hpr
    go_enter Try.func16, Try.ntmps16
    go_wp2_with fail
    refine HO.out.mono ?_
    rintro e w1 ⟨I, im, ic, rfl, oI, b1⟩
    have hI0 : ins.length = im := oI.len
    have hIn : I = none → ic = 0 := fun hh => by have := oI.nil_of (by rw [hh]; rfl); exact this.2.2
    have HPA := Lib.hid (parse_any I im ic ins w1 oI.rd (by omega) oI.cap.1 hIn)
    rw [← HPR.out] at HPA
    have HB1 := Lib.hid b1
    clear oI b1 hIn HO
    go_wp2_with fail
    refine HPA.out.mono ?_
    rintro e w2 (⟨hpn, rfl, b2⟩ | ⟨es, ev, L, d, hps, rfl, hrow, hel, hev⟩)
    · have hd : decB xs = ([], 3) := by rw [HD.out, hpn]; rfl
      have HF := Lib.hid (And.intro hd (HB1.out.trans (b2.mono HB1.out.size)))
      clear hd b2
      go_wp2_with fail
      exact bodyPost_ret (v := .tuple #[.slice none 0 0, .int .i64 3]) (by simp [results, Try.f16, go_sem]; try rfl) rfl (.inl ⟨by rw [HF.out.1], by rw [HF.out.1]; simp, by rw [HF.out.1], HF.out.2⟩)
    · have hd : decB xs = if (buildZ ev es).2 = 0 ∧ (buildZ ev es).1 = xs then (es, 0) else ([], 3) := by rw [HD.out, hps]; rfl
      have hb2 : Below w.heap.size w w2 := HB1.out.trans (hrow.bel.mono HB1.out.size)
      have hBZ := buildZ_any (c := d) hrow.rd hel ev (by omega)
      obtain ⟨z, hz⟩ : ∃ z, z = buildZ ev es := ⟨_, rfl⟩
      have hzo : z.2 = 0 → 8 ≤ z.1.length := by rw [hz]; exact buildZ_ok
      rw [← hz] at hBZ hd
      have HBZ := Lib.hid hBZ
      have HROW := Lib.hid hrow
      have HB2 := Lib.hid hb2
      have HDD := Lib.hid hd
      obtain ⟨el, hel2⟩ : ∃ el, el = es.length := ⟨_, rfl⟩
      rw [← hel2] at HBZ hel ⊢
      have HEL := Lib.hid hel2
      clear hBZ hrow hb2 hd hz hel2
      go_wp2_with fail
      refine HBZ.out.mono ?_
      rintro e w3 ⟨G, gc, rfl, oG, b3⟩
      have hb3 : Below w.heap.size w w3 := HB2.out.trans (b3.mono HB2.out.size)
      have hno : ∀ w', Below w.heap.size w w' → decB xs = ([], 3) → RetDc8 w (decB xs) (.returned (.tuple #[.slice none 0 0, .int .i64 3])) w' := fun w' hb hd => .inl ⟨by rw [hd], by rw [hd]; simp, by rw [hd], hb⟩
      obtain ⟨zb, zk⟩ := z
      simp only at oG hzo ⊢
      by_cases hzk : zk = 0
      · subst hzk
        have hzl : 8 ≤ zb.length := hzo rfl
        have HEQ := Lib.hid (bytesEqual_any G A zb.length n gc c zb xs w3 oG.rd (HX.out.below hb3) (by omega) (by omega))
        have HB3 := Lib.hid hb3
        have HR3 := Lib.hid (HROW.out.below b3)
        have HNO := Lib.hid hno
        clear oG b3 hb3 hno
        obtain ⟨q, hq⟩ : ∃ q, q = eqB zb xs := ⟨_, rfl⟩
        rw [← hq] at HEQ
        have HQ := Lib.hid hq
        clear hq
        cases q with
        | true =>
          go_wp2_with fail
          with_reducible refine HEQ.out.mono ?_
          rintro e w4 ⟨rfl, rfl⟩
          have he : zb = xs := by
            have := HQ.out
            unfold eqB at this
            exact (beq_iff_eq.1 this.symm)
          have hd : decB xs = (es, 0) := by rw [HDD.out, if_pos ⟨by first | trivial | rfl, he⟩]
          have HF : Hid (RetDc8 w (decB xs) (.returned (.tuple #[.slice L el d, .int .i64 0])) w4) := Lib.hid (by
            rw [hd]
            refine .inr ⟨rfl, by rw [← HEL.out]; exact hel, L, d, by rw [← HEL.out], ?_⟩
            have hr := HR3.out
            have h1 : Below w.heap.size w w4 := HB3.out
            obtain ⟨vs, r1, r2, r3, r4, r5, r6, r7⟩ := hr
            have hs := HB1.out.size
            exact ⟨vs, OwnE.mono (show OwnE w4 w1.heap.size L es.length d vs from r1) hs, EOs.mono hs r2, r3, r4, h1, h1.size, r7.mono hs⟩)
          clear he hd
          go_wp2_with fail
          exact bodyPost_ret (v := .tuple #[.slice L el d, .int .i64 0]) (by simp [results, Try.f16, go_sem]; try rfl) rfl HF.out
        | false =>
          go_wp2_with fail
          with_reducible refine HEQ.out.mono ?_
          rintro e w4 ⟨rfl, rfl⟩
          have he : ¬ zb = xs := by
            have := HQ.out
            unfold eqB at this
            intro e2
            rw [e2] at this
            simp at this
          have hd : decB xs = ([], 3) := by rw [HDD.out, if_neg (fun h => he h.2)]
          have HF := Lib.hid (HNO.out _ HB3.out hd)
          clear he hd
          go_wp2_with fail
          exact bodyPost_ret (v := .tuple #[.slice none 0 0, .int .i64 3]) (by simp [results, Try.f16, go_sem]; try rfl) rfl HF.out
      · have hd : decB xs = ([], 3) := by rw [HDD.out, if_neg (fun h => hzk h.1)]
        have t1 : (zk == 0) = false := by simpa using hzk
        have HF := Lib.hid (hno _ hb3 hd)
        clear hd hno oG b3 hb3
        go_wp2_with fail
        exact bodyPost_ret (v := .tuple #[.slice none 0 0, .int .i64 3]) (by simp [results, Try.f16, go_sem]; try rfl) rfl HF.out
  · have hd : decB xs = ([], k) := by
      unfold decB
      rw [hog]
      simp only
      rw [if_pos hk]
    obtain ⟨hi0, hn0⟩ := hno hk
    have hi0 : ins = [] := hi0
    have hn0 : nx = 0 := hn0
    subst hi0 hn0
    rw [hd]
    refine (decode_shutM A n c xs w h hn hc hnil k hog hk).mono ?_
    rintro e w' ⟨rfl, hb⟩
    exact .inl ⟨rfl, hk, rfl, hb⟩
end Go.Proofs.Ytoaajkdhlhopmaa
namespace Go.Proofs.Ytoaajkdhlhopmaa
open Go Go.RowKit

/-- The place that is sought. -/
def plE (key : List UInt8) (at_ : Nat) : En := ⟨key, at_, 0, []⟩
/-- Doesn't the i-th entry stand ahead of the place? -/
def nlE (es : List En) (pl : En) (i : Nat) : Bool := match es[i]? with
  | some x => !lessE x pl
  | none => true
set_option maxRecDepth 100000 in
set_option maxHeartbeats 4000000 in
theorem seekC_any {w : World} {L : Option Addr} {n d : Nat} {es : List En} {bl pb : Nat} {pl : En} {v0 v1 v2 v3 : Value} (h : REs w L n es) (hl : Cl w bl #[.slice L n d] 25) (hp : Cl w pb #[v0, v1, v2, v3] 33) (hv : EV w pl v0 v1 v2 v3) (i : Nat) (hi : i < n) :
    Calls Try.prog 63 #[.int .i64 (i : Int), .pointer (some ⟨bl, 0, none⟩), .pointer (some ⟨pb, 0, none⟩)] w (RetT w (nlE es pl i)) := by
  obtain ⟨b, off, rfl, hbl⟩ := h.pos (by omega)
  obtain ⟨x, u0, u1, u2, u3, hx, c0, c1, c2, c3, hev⟩ := h.at_ i hi
  have hn : nlE es pl i = !lessE x pl := by unfold nlE; rw [hx]
  have l0 := hl.c1.1
  obtain ⟨p0, p1, p2, p3, _⟩ := hp.c4
  have hpl := hp.lt
  have hll := hl.lt
  have HL : Hid (∀ wx, Below w.heap.size w wx → Calls Try.prog 64 #[.agg #[u0, u1, u2, u3], .agg #[v0, v1, v2, v3]] wx (RetT wx (lessE x pl))) := Lib.hid (fun wx hb => memLess_any (hev.below hb) (hv.below hb))
  have HSX : Hid (∀ wx, Below w.heap.size w wx → wx.cell? ⟨bl, 0, none⟩ = some (.slice (some ⟨b, off, none⟩) n d) ∧ wx.cell? ⟨b, off + i * 4, none⟩ = some u0 ∧ wx.cell? ⟨b, off + i * 4 + 1, none⟩ = some u1 ∧ wx.cell? ⟨b, off + i * 4 + 2, none⟩ = some u2 ∧ wx.cell? ⟨b, off + i * 4 + 3, none⟩ = some u3 ∧ wx.cell? ⟨pb, 0, none⟩ = some v0 ∧ wx.cell? ⟨pb, 1, none⟩ = some v1 ∧ wx.cell? ⟨pb, 2, none⟩ = some v2 ∧ wx.cell? ⟨pb, 3, none⟩ = some v3) := Lib.hid (fun wx h =>
    ⟨(h.cell (p := ⟨bl, 0, none⟩) hll).trans l0, (h.cell (p := ⟨b, off + i * 4, none⟩) hbl).trans c0, (h.cell (p := ⟨b, off + i * 4 + 1, none⟩) hbl).trans c1, (h.cell (p := ⟨b, off + i * 4 + 2, none⟩) hbl).trans c2, (h.cell (p := ⟨b, off + i * 4 + 3, none⟩) hbl).trans c3,
      (h.cell (p := ⟨pb, 0, none⟩) hpl).trans p0, (h.cell (p := ⟨pb, 1, none⟩) hpl).trans p1, (h.cell (p := ⟨pb, 2, none⟩) hpl).trans p2, (h.cell (p := ⟨pb, 3, none⟩) hpl).trans p3⟩)
  have hB0 : Below w.heap.size w w.drew := (Below.refl _ _).drew
  obtain ⟨z, hz⟩ : ∃ z, z = lessE x pl := ⟨_, rfl⟩
  rw [← hz] at HL hn
  have HN := Lib.hid hn
  clear h hl hp hv hx hev hz hn hpl hll
  go_enter Try.func63, Try.ntmps63
  go_wp2_with fail
  go_region_held3 (fun wx => wx.cell? ⟨bl, 0, none⟩ = some (.slice (some ⟨b, off, none⟩) n d) ∧ wx.cell? ⟨b, off + i * 4, none⟩ = some u0 ∧ wx.cell? ⟨b, off + i * 4 + 1, none⟩ = some u1 ∧ wx.cell? ⟨b, off + i * 4 + 2, none⟩ = some u2 ∧ wx.cell? ⟨b, off + i * 4 + 3, none⟩ = some u3 ∧ wx.cell? ⟨pb, 0, none⟩ = some v0 ∧ wx.cell? ⟨pb, 1, none⟩ = some v1 ∧ wx.cell? ⟨pb, 2, none⟩ = some v2 ∧ wx.cell? ⟨pb, 3, none⟩ = some v3) (first | assumption | exact HSX.out _ hB0)
    (first | (go_at_call 64; with_reducible refine (HL.out _ (by assumption)).mono ?_; intro e1 wn hq; obtain ⟨h1, bn⟩ := RetT.outD hq; subst h1; have bn' := belowT' (by assumption : Below w.heap.size w _) bn; have hS1 := HSX.out _ bn'))
  all_goals
    have HBN := Lib.hid (by assumption : Below w.heap.size w wn)
    go_wp2_with fail
    go_ret
    exact ⟨by rw [HN.out]; rfl, HBN.out⟩
theorem ordK_at {es : List En} : ∀ {k : Nat}, ordK es k = true → ∀ i a b, i < k → es[i]? = some a → es[i + 1]? = some b → lessE a b = true
  | 0, _, i, _, _, h, _, _ => absurd h (by omega)
  | k + 1, h, i, a, b, hi, ha, hb => by
    rw [ordK, Bool.and_eq_true] at h
    by_cases e : i = k
    · subst e
      have := h.2
      rw [ha, hb] at this
      exact this
    · exact ordK_at h.1 i a b (by omega) ha hb
theorem ord_sort {es : List En} (h : ordE es = true) : SortL es := by
  have key : ∀ (j i : Nat) a b, i < j → es[i]? = some a → es[j]? = some b → lessE a b = true := by
    intro j
    induction j with
    | zero => intro i a b h; omega
    | succ j ih =>
      intro i a b hij ha hb
      have hlt : j + 1 < es.length := (List.getElem?_eq_some_iff.1 hb).1
      obtain ⟨c, hc⟩ : ∃ c, es[j]? = some c := ⟨_, List.getElem?_eq_getElem (by omega)⟩
      have h1 := ordK_at h j c b (by omega) hc hb
      by_cases e : i = j
      · subst e
        rw [hc] at ha
        injection ha with ha
        rw [← ha]
        exact h1
      · exact lessE_trans (ih i a c (by omega) ha hc) h1
  unfold SortL
  rw [List.pairwise_iff_getElem]
  intro i j hi hj hij
  exact key j i _ _ hij (List.getElem?_eq_getElem hi) (List.getElem?_eq_getElem hj)
theorem buildE_ord {ev : Nat} {es : List En} (h : (buildE ev es).2 = 0) : ordE es = true ∧ es.all formE = true ∧ es.any longE = false ∧ (buildE ev es).1 = sealB (fullB ev es) ∧ (fullB ev es).length ≤ 1048576 := by
  unfold buildE at h ⊢
  split at h
  · cases h
  · rename_i h1
    split at h
    · cases h
    · rename_i h2
      split at h
      · rename_i h3
        rw [if_neg h1, if_neg h2, if_pos h3]
        rw [Bool.and_eq_true] at h3
        exact ⟨h3.2, h3.1, by simpa using h1, rfl, by omega⟩
      · cases h
theorem dec_sort {xs : List UInt8} {es : List En} (h : decB xs = (es, 0)) : SortL es := by
  unfold decB at h
  rcases hog : openG xs ((0 : Nat) : Int) with ⟨ins, nx, k⟩
  rw [hog] at h
  simp only at h
  split at h
  · rename_i hk
    injection h with h1 h2
    exact absurd h2 hk
  · cases hp : parB ins with
    | none =>
      rw [hp] at h
      unfold decP at h
      injection h with h1 h2
      cases h2
    | some r =>
      obtain ⟨gs, ev⟩ := r
      rw [hp, show decP xs (some (gs, ev)) = if (buildZ ev gs).2 = 0 ∧ (buildZ ev gs).1 = xs then (gs, 0) else ([], 3) from rfl] at h
      split at h
      · rename_i hb
        injection h with h1 h2
        subst h1
        have h3 := hb.1
        unfold buildZ at h3
        split at h3
        · cases h3
        · exact ord_sort (buildE_ord h3).1
      · injection h with h1 h2
        cases h2
theorem EOs.at_ {base : Nat} {w : World} : ∀ {es : List En} {vs : List Value} (i : Nat) {x : En}, EOs base w es vs → es[i]? = some x → ∃ v0 v1 v2 v3, vs[i * 4]? = some v0 ∧ vs[i * 4 + 1]? = some v1 ∧ vs[i * 4 + 2]? = some v2 ∧ vs[i * 4 + 3]? = some v3 ∧ EO base w x v0 v1 v2 v3 ∧ (Fam w base (pairE es vs) → Fam w base [(v0, x.key), (v3, x.val)])
  | [], _, i, x, _, h => by simp at h
  | g :: es, _, 0, x, ⟨v0, v1, v2, v3, r, q, h1, h2⟩, h => by
    simp only [List.getElem?_cons_zero, Option.some.injEq] at h
    subst h q
    refine ⟨v0, v1, v2, v3, rfl, rfl, rfl, rfl, h1, fun hf => ?_⟩
    have : pairE (g :: es) (v0 :: v1 :: v2 :: v3 :: r) = [(v0, g.key), (v3, g.val)] ++ pairE es r := rfl
    rw [this] at hf
    exact hf.left
  | g :: es, _, i + 1, x, ⟨v0, v1, v2, v3, r, q, h1, h2⟩, h => by
    rw [List.getElem?_cons_succ] at h
    obtain ⟨a, b, c, d, e0, e1, e2, e3, e4, e5⟩ := EOs.at_ i h2 h
    subst q
    refine ⟨a, b, c, d, ?_, ?_, ?_, ?_, e4, fun hf => ?_⟩
    · rw [show (i + 1) * 4 = i * 4 + 4 by omega]; exact e0
    · rw [show (i + 1) * 4 + 1 = i * 4 + 1 + 4 by omega]; exact e1
    · rw [show (i + 1) * 4 + 2 = i * 4 + 2 + 4 by omega]; exact e2
    · rw [show (i + 1) * 4 + 3 = i * 4 + 3 + 4 by omega]; exact e3
    · have : pairE (g :: es) (v0 :: v1 :: v2 :: v3 :: r) = [(v0, g.key), (v3, g.val)] ++ pairE es r := rfl
      rw [this] at hf
      exact e5 hf.right
/-- What Seek hands back. -/
def RetSk8 (w : World) (r : List En × Int) (pl : En) (e : Ending) (w' : World) : Prop :=
  Below w.heap.size w w' ∧
  ((r.2 ≠ 0 ∧ e = .returned (.tuple #[.agg #[.slice none 0 0, .int .u64 0, .int .u8 0, .slice none 0 0], .bool false, .int .i64 r.2])) ∨
   (r.2 = 0 ∧ (∀ i, i < r.1.length → nlE r.1 pl i = false) ∧ e = .returned (.tuple #[.agg #[.slice none 0 0, .int .u64 0, .int .u8 0, .slice none 0 0], .bool false, .int .i64 0])) ∨
   (r.2 = 0 ∧ ∃ (i : Nat) (x : En), r.1[i]? = some x ∧ nlE r.1 pl i = true ∧ (∀ t, t < i → nlE r.1 pl t = false) ∧
     ∃ K kn kc V vn vc, e = .returned (.tuple #[.agg #[.slice K kn kc, .int .u64 (x.seq : Int), .int .u8 (x.kind : Int), .slice V vn vc], .bool true, .int .i64 0]) ∧ EO w.heap.size w' x (.slice K kn kc) (.int .u64 (x.seq : Int)) (.int .u8 (x.kind : Int)) (.slice V vn vc) ∧ Fam w' w.heap.size [(.slice K kn kc, x.key), (.slice V vn vc, x.val)]))
theorem zero_ev (w : World) (key : List UInt8) (at_ : Nat) {K : Option Addr} {kn kc : Nat} (h : Rd w K kn key) (hc : kn ≤ kc) (hnil : K = none → kc = 0) (ha : U64 at_) : EV w (plE key at_) (.slice K kn kc) (.int .u64 (at_ : Int)) (.int .u8 0) (.slice none 0 0) :=
  ⟨rfl, rfl, ha, by unfold plE; simp, ⟨K, kn, kc, rfl, h, hc, hnil⟩, ⟨none, 0, 0, rfl, Rd.nil _ _, Nat.le_refl _, fun _ => rfl⟩⟩
set_option maxRecDepth 100000 in
set_option maxHeartbeats 8000000 in
theorem seek_any (A : Option Addr) (n c : Nat) (xs : List UInt8) (K0 : Option Addr) (k0 kc0 : Nat) (key : List UInt8) (at_ : Nat) (w : World) (h : Rd w A n xs) (hn : n ≤ 1099511627776) (hc : n ≤ c) (hnil : A = none → c = 0)
    (hk : Rd w K0 k0 key) (hkc : k0 ≤ kc0) (hknil : K0 = none → kc0 = 0) (ha : U64 at_) :
    Calls Try.prog 19 #[.slice A n c, .slice K0 k0 kc0, .int .u64 (at_ : Int)] w (RetSk8 w (decB xs) (plE key at_)) := by
  obtain ⟨U, hU⟩ : ∃ U, U = w.alloc (.cells #[.slice none 0 0, .int .u64 0, .int .u8 0, .slice none 0 0] 33) := ⟨_, rfl⟩
  have bU : Below w.heap.size w U := by rw [hU]; exact (Below.refl _ _).alloc (Nat.le_refl _) _
  have zU : Cl U w.heap.size #[.slice none 0 0, .int .u64 0, .int .u8 0, .slice none 0 0] 33 := by rw [hU]; exact Cl.new _ _ _
  have HDC := Lib.hid (decode_any A n c xs U (h.below bU) hn hc hnil)
  rcases hr : decB xs with ⟨es, k⟩
  have HR := Lib.hid hr
  rw [hr] at HDC
  have HK := Lib.hid hk
  have HBU := Lib.hid bU
  have HZU := Lib.hid zU
  have HU := Lib.hid hU
  clear h hk bU zU hU hr
  go_enter Try.func19, Try.ntmps19
  go_upto_region 1 with (fail)
  rw [← HU.out]
  go_wp2_with fail
  refine HDC.out.mono ?_
  rintro e w1 (⟨he, hk0, rfl, b1⟩ | ⟨hk0, hel, L, d, rfl, hrow⟩)
  · simp only at he hk0
    obtain ⟨W, hW⟩ : ∃ W, W = w1.alloc (.cells #[.slice none 0 0] 25) := ⟨_, rfl⟩
    have bW : Below w1.heap.size w1 W := by rw [hW]; exact (Below.refl _ _).alloc (Nat.le_refl _) _
    have b1' : Below w.heap.size w W := HBU.out.trans ((b1.trans (bW.mono b1.size)).mono HBU.out.size)
    have z1 := (HZU.out.below b1).below bW
    have t1 : (k == 0) = false := by simpa using hk0
    obtain ⟨x0, x1, x2, x3, y0, y1, y2, y3⟩ := z1.c4
    have HF : Hid (∀ X, X = (((W.setCell ⟨w.heap.size, 0, none⟩ (.slice none 0 0)).setCell ⟨w.heap.size, 1, none⟩ (.int .u64 0)).setCell ⟨w.heap.size, 2, none⟩ (.int .u8 0)).setCell ⟨w.heap.size, 3, none⟩ (.slice none 0 0) → Cl X w.heap.size #[.slice none 0 0, .int .u64 0, .int .u8 0, .slice none 0 0] 33 ∧ Below w.heap.size w X) := Lib.hid (fun X hX => ⟨by rw [hX]; exact z1.put4 rfl _ _ _ _, by rw [hX]; exact (((b1'.setCell (p := ⟨w.heap.size, 0, none⟩) (Nat.le_refl _) _).setCell (p := ⟨w.heap.size, 1, none⟩) (Nat.le_refl _) _).setCell (p := ⟨w.heap.size, 2, none⟩) (Nat.le_refl _) _).setCell (p := ⟨w.heap.size, 3, none⟩) (Nat.le_refl _) _⟩)
    have HW := Lib.hid hW
    clear bW b1' z1 b1 hW
    go_upto_if 19 with (fail)
    rw [← HW.out]
    go_wp2_with fail
    obtain ⟨X, hX⟩ : ∃ X, X = (((W.setCell ⟨w.heap.size, 0, none⟩ (.slice none 0 0)).setCell ⟨w.heap.size, 1, none⟩ (.int .u64 0)).setCell ⟨w.heap.size, 2, none⟩ (.int .u8 0)).setCell ⟨w.heap.size, 3, none⟩ (.slice none 0 0) := ⟨_, rfl⟩
    rw [← hX]
    obtain ⟨zX, bX⟩ := HF.out X hX
    obtain ⟨x0, x1, x2, x3, _⟩ := zX.c4
    exact bodyPost_ret (v := .tuple #[.agg #[.slice none 0 0, .int .u64 0, .int .u8 0, .slice none 0 0], .bool false, .int .i64 k]) (by simp [results, Try.results19, go_sem, x0, x1, x2, x3]; try rfl) rfl ⟨bX, .inl ⟨hk0, rfl⟩⟩
  · simp only at hk0 hel hrow ⊢
    subst hk0
    have b1 : Below w.heap.size w w1 := HBU.out.trans (hrow.bel.mono HBU.out.size)
    have z1 : Cl w1 w.heap.size #[.slice none 0 0, .int .u64 0, .int .u8 0, .slice none 0 0] 33 := HZU.out.below hrow.bel
    obtain ⟨el, hle⟩ : ∃ el, el = es.length := ⟨_, rfl⟩
    rw [← hle] at hrow hel ⊢
    obtain ⟨W, hW⟩ : ∃ W, W = w1.alloc (.cells #[.slice L el d] 25) := ⟨_, rfl⟩
    obtain ⟨bl, hbl⟩ : ∃ bl, bl = w1.heap.size := ⟨_, rfl⟩
    have bW : Below w1.heap.size w1 W := by rw [hW]; exact (Below.refl _ _).alloc (Nat.le_refl _) _
    have kW : Cl W bl #[.slice L el d] 25 := by rw [hW, hbl]; exact Cl.new _ _ _
    obtain ⟨W2, hW2⟩ : ∃ W2, W2 = W.alloc (.cells #[.slice K0 k0 kc0, .int .u64 (at_ : Int), .int .u8 0, .slice none 0 0] 33) := ⟨_, rfl⟩
    obtain ⟨pb, hpb⟩ : ∃ pb, pb = W.heap.size := ⟨_, rfl⟩
    have bW2 : Below W.heap.size W W2 := by rw [hW2]; exact (Below.refl _ _).alloc (Nat.le_refl _) _
    have kP : Cl W2 pb #[.slice K0 k0 kc0, .int .u64 (at_ : Int), .int .u8 0, .slice none 0 0] 33 := by rw [hW2, hpb]; exact Cl.new _ _ _
    have b12 : Below w1.heap.size w1 W2 := bW.trans (bW2.mono bW.size)
    have bB : Below w.heap.size w W2 := b1.trans (b12.mono b1.size)
    have k2 := kW.below bW2
    have hrow2 := hrow.below b12
    have z2 := z1.below b12
    have HKW := Lib.hid (And.intro k2 kP)
    have hev := zero_ev W2 key at_ (HK.out.below bB) hkc hknil ha
    have hso := dec_sort HR.out
    have HSE : Hid (Calls Try.prog 62 #[.int .i64 (el : Int), .func (.func 63) #[] #[.pointer (some ⟨bl, 0, none⟩), .pointer (some ⟨pb, 0, none⟩)]] W2 (RetSe W2 el (nlE es (plE key at_)))) := Lib.hid (search_any 63 #[.pointer (some ⟨bl, 0, none⟩), .pointer (some ⟨pb, 0, none⟩)] el (nlE es (plE key at_)) W2 (fun args w => by first | rfl | kernel_rfl | simp [callFunc]) (by omega) (fun wx hb i hi => seekC_any (hrow2.rd.below hb) (k2.below hb) (kP.below hb) (hev.below hb) i hi) (fun a b hab hb hpa => by
      by_cases e : a = b
      · subst e; exact hpa
      · unfold nlE at hpa ⊢
        obtain ⟨xa, hxa⟩ : ∃ x, es[a]? = some x := ⟨_, List.getElem?_eq_getElem (by omega)⟩
        obtain ⟨xb, hxb⟩ : ∃ x, es[b]? = some x := ⟨_, List.getElem?_eq_getElem (by omega)⟩
        rw [hxa] at hpa
        rw [hxb]
        simp only [Bool.not_eq_true'] at hpa ⊢
        have hl : lessE xa xb = true := by
          have hs := List.pairwise_iff_getElem.1 hso a b (by omega) (by omega) (by omega)
          have e1 := (List.getElem?_eq_some_iff.1 hxa).2
          have e2 := (List.getElem?_eq_some_iff.1 hxb).2
          rw [e1, e2] at hs
          exact hs
        cases hq : lessE xb (plE key at_) with
        | false => rfl
        | true =>
          have := lessE_trans hl hq
          rw [hpa] at this
          cases this))
    have HROW := Lib.hid hrow2
    have HZ2 := Lib.hid z2
    have HB := Lib.hid bB
    have HLE := Lib.hid hle
    have HW := Lib.hid hW
    have HW2 := Lib.hid hW2
    have HBL := Lib.hid hbl
    have HPB := Lib.hid hpb
    clear hrow b1 z1 bW kW bW2 kP b12 bB k2 hrow2 z2 hev hso hle hW hW2 hbl hpb
    go_upto_if 19 with (fail)
    rw [← HW.out, ← HBL.out]
    go_upto_region 5 with (fail)
    rw [← HW2.out, ← HPB.out]
    obtain ⟨l0, _⟩ := HKW.out.1.c1
    go_wp2_with fail
    with_reducible refine HSE.out.mono ?_
    rintro e w3 ⟨r, rfl, hr1, hr2, hr3, b3⟩
    have hB3 : Below w.heap.size w w3 := HB.out.trans (b3.mono HB.out.size)
    have z3 := HZ2.out.below b3
    have l3 := HKW.out.1.below b3
    have hrow3 := HROW.out.below b3
    have hUw : w.heap.size < U.heap.size := by rw [HU.out]; simp
    obtain ⟨x0, x1, x2, x3, y0, y1, y2, y3⟩ := z3.c4
    by_cases hre : r = el
    · subst hre
      have HNO : Hid (∀ i, i < es.length → nlE es (plE key at_) i = false) := Lib.hid (fun i hi => hr2 i (by rw [HLE.out]; exact hi))
      have HF : Hid (∀ X, X = (((w3.setCell ⟨w.heap.size, 0, none⟩ (.slice none 0 0)).setCell ⟨w.heap.size, 1, none⟩ (.int .u64 0)).setCell ⟨w.heap.size, 2, none⟩ (.int .u8 0)).setCell ⟨w.heap.size, 3, none⟩ (.slice none 0 0) → Cl X w.heap.size #[.slice none 0 0, .int .u64 0, .int .u8 0, .slice none 0 0] 33 ∧ Below w.heap.size w X) := Lib.hid (fun X hX => ⟨by rw [hX]; exact z3.put4 rfl _ _ _ _, by rw [hX]; exact (((hB3.setCell (p := ⟨w.heap.size, 0, none⟩) (Nat.le_refl _) _).setCell (p := ⟨w.heap.size, 1, none⟩) (Nat.le_refl _) _).setCell (p := ⟨w.heap.size, 2, none⟩) (Nat.le_refl _) _).setCell (p := ⟨w.heap.size, 3, none⟩) (Nat.le_refl _) _⟩)
      obtain ⟨l0', _⟩ := l3.c1
      clear hB3 z3 l3 hrow3 hr2 hr3 b3
      go_wp2_with fail
      obtain ⟨X, hX⟩ : ∃ X, X = (((w3.setCell ⟨w.heap.size, 0, none⟩ (.slice none 0 0)).setCell ⟨w.heap.size, 1, none⟩ (.int .u64 0)).setCell ⟨w.heap.size, 2, none⟩ (.int .u8 0)).setCell ⟨w.heap.size, 3, none⟩ (.slice none 0 0) := ⟨_, rfl⟩
      rw [← hX]
      obtain ⟨zX, bX⟩ := HF.out X hX
      clear x0 x1 x2 x3 y0 y1 y2 y3
      obtain ⟨x0, x1, x2, x3, _⟩ := zX.c4
      exact bodyPost_ret (v := .tuple #[.agg #[.slice none 0 0, .int .u64 0, .int .u8 0, .slice none 0 0], .bool false, .int .i64 0]) (by simp [results, Try.results19, go_sem, x0, x1, x2, x3]; try rfl) rfl ⟨bX, .inr (.inl ⟨rfl, HNO.out, rfl⟩)⟩
    · have hrl : r < el := by omega
      obtain ⟨vs, q1, q2, q3, q4, q5, q6, q7⟩ := hrow3
      obtain ⟨x, hx⟩ : ∃ x, es[r]? = some x := ⟨_, List.getElem?_eq_getElem (by have := HLE.out; omega)⟩
      obtain ⟨v0, v1, v2, v3, e0, e1, e2, e3, heo, hfam⟩ := EOs.at_ r q2 hx
      have hfam := hfam q7
      obtain ⟨bb, off, hLa, hbb, hcc⟩ := q1.rd.2 (by omega)
      subst hLa
      have m0 : w3.cell? ⟨bb, off + r * 4, none⟩ = some v0 := hcc _ _ e0
      have m1 : w3.cell? ⟨bb, off + r * 4 + 1, none⟩ = some v1 := by rw [Nat.add_assoc]; exact hcc _ _ e1
      have m2 : w3.cell? ⟨bb, off + r * 4 + 2, none⟩ = some v2 := by rw [Nat.add_assoc]; exact hcc _ _ e2
      have m3 : w3.cell? ⟨bb, off + r * 4 + 3, none⟩ = some v3 := by rw [Nat.add_assoc]; exact hcc _ _ e3
      obtain ⟨K, kn, kc, V, vn, vc, rfl, rfl, rfl, rfl, _⟩ := heo.ev.parts
      have hoff : OffW [Value.slice K kn kc, .int .u64 (x.seq : Int), .int .u8 (x.kind : Int), .slice V vn vc] (some w.heap.size) := EO.off heo (fun g hg => by injection hg with hg; exact .inl (by omega))
      have hoff2 : OffF [(Value.slice K kn kc, x.key), (.slice V vn vc, x.val)] w.heap.size := hfam.off_old (by omega)
      have HF : Hid (∀ X, X = (((w3.setCell ⟨w.heap.size, 0, none⟩ (.slice K kn kc)).setCell ⟨w.heap.size, 1, none⟩ (.int .u64 (x.seq : Int))).setCell ⟨w.heap.size, 2, none⟩ (.int .u8 (x.kind : Int))).setCell ⟨w.heap.size, 3, none⟩ (.slice V vn vc) → Cl X w.heap.size #[.slice K kn kc, .int .u64 (x.seq : Int), .int .u8 (x.kind : Int), .slice V vn vc] 33 ∧ Below w.heap.size w X ∧ EO w.heap.size X x (.slice K kn kc) (.int .u64 (x.seq : Int)) (.int .u8 (x.kind : Int)) (.slice V vn vc) ∧ Fam X w.heap.size [(.slice K kn kc, x.key), (.slice V vn vc, x.val)]) := Lib.hid (fun X hX => by
        have hg : w3.grownBy X (some w.heap.size) := by
          rw [hX]
          exact (((grown_set1 w3 _ 0 _).trans (grown_set1 _ _ 1 _)).trans (grown_set1 _ _ 2 _)).trans (grown_set1 _ _ 3 _)
        refine ⟨by rw [hX]; exact z3.put4 rfl _ _ _ _, by rw [hX]; exact (((hB3.setCell (p := ⟨w.heap.size, 0, none⟩) (Nat.le_refl _) _).setCell (p := ⟨w.heap.size, 1, none⟩) (Nat.le_refl _) _).setCell (p := ⟨w.heap.size, 2, none⟩) (Nat.le_refl _) _).setCell (p := ⟨w.heap.size, 3, none⟩) (Nat.le_refl _) _, (heo.kept hg hoff).mono (Nat.le_of_lt hUw), (hfam.kept hg (fun b hb => by injection hb with hb; rw [← hb]; exact hoff2)).mono (Nat.le_of_lt hUw)⟩)
      have HX := Lib.hid (And.intro hx (And.intro (hr3 r (Nat.le_refl _) hrl) hr2))
      obtain ⟨l0', _⟩ := l3.c1
      clear hB3 z3 l3 hr2 hr3 b3 q1 q2 q3 q4 q5 q6 q7 hx heo hfam hcc hoff hoff2 e0 e1 e2 e3
      go_wp2_with fail
      obtain ⟨X, hX⟩ : ∃ X, X = (((w3.setCell ⟨w.heap.size, 0, none⟩ (.slice K kn kc)).setCell ⟨w.heap.size, 1, none⟩ (.int .u64 (x.seq : Int))).setCell ⟨w.heap.size, 2, none⟩ (.int .u8 (x.kind : Int))).setCell ⟨w.heap.size, 3, none⟩ (.slice V vn vc) := ⟨_, rfl⟩
      rw [← hX]
      obtain ⟨zX, bX, eX, fX⟩ := HF.out X hX
      clear x0 x1 x2 x3 y0 y1 y2 y3
      obtain ⟨x0, x1, x2, x3, _⟩ := zX.c4
      exact bodyPost_ret (v := .tuple #[.agg #[.slice K kn kc, .int .u64 (x.seq : Int), .int .u8 (x.kind : Int), .slice V vn vc], .bool true, .int .i64 0]) (by simp [results, Try.results19, go_sem, x0, x1, x2, x3]; try rfl) rfl ⟨bX, .inr (.inr ⟨rfl, r, x, HX.out.1, HX.out.2.1, HX.out.2.2, K, kn, kc, V, vn, vc, rfl, eX, fX⟩)⟩
end Go.Proofs.Ytoaajkdhlhopmaa
namespace Go.Proofs.Ytoaajkdhlhopmaa
open Go Go.RowKit

theorem openG_one (r : List UInt8) (hr : r.length ≤ 1048576) : openG (sealB r) ((0 : Nat) : Int) = (r, ((8 + r.length : Nat) : Int), 0) := by
  have hl := sealB_len r
  have hm : r.length = numK ((sealB r).drop 0) 4 := by
    rw [List.drop_zero, sealB, numK_fourB _ _ (by omega)]
  have h2 : (sealB r).take (0 + 8 + r.length) = sealB r := List.take_of_length_le (by omega)
  have h4 : (sealB r).drop (0 + 8) = r := by
    unfold sealB
    rw [← List.append_assoc]
    exact List.drop_left' (by simp only [List.length_append, fourB_len])
  rw [openG_whole (a := 0) (n := 8 + r.length) hl hm (by omega) (by omega), h2, h4, List.drop_zero, eqB_self, if_pos rfl, Nat.zero_add]
theorem numR_at {xs pre r : List UInt8} {n a : Nat} (hx : xs = pre ++ (putU n ++ r)) (ha : a = pre.length) (h : n < B64) : numR xs (a, false) = (n, (a + (putU n).length, false)) := by
  subst hx ha
  unfold numR
  rw [getU_at pre r n h, if_pos rfl]
  simp only [Int.toNat_natCast]
theorem takeR_at {xs pre ys r : List UInt8} {n a : Nat} (hx : xs = pre ++ (ys ++ r)) (ha : a = pre.length) (hn : n = ys.length) : takeR xs n (a, false) = (ys, (a + n, false)) := by
  subst hx ha hn
  unfold takeR
  simp only [List.length_append]
  rw [if_neg (by omega), List.drop_left' rfl, List.take_left' rfl]
theorem comB_take : ∀ (xs ys : List UInt8), xs.take (comB xs ys) = ys.take (comB xs ys)
  | [], _ => by simp [comB]
  | _ :: _, [] => by simp [comB]
  | x :: xs, y :: ys => by
    unfold comB
    split
    · rename_i e
      subst e
      rw [List.take_succ_cons, List.take_succ_cons, comB_take xs ys]
    · simp
/-- An entry that was written is read back. -/
theorem ent_at {xs pre R ah : List UInt8} {x : En} {s a : Nat} (hx : xs = pre ++ (entB s x ++ R)) (ha : a = pre.length) (hs : s ≤ x.key.length) (hk : x.key.length ≤ 1024) (hv : x.val.length ≤ 65536) (hq : U64 x.seq) (hd : x.kind < 256) (hah : ah.take s = x.key.take s) :
    badR xs ah a = false ∧ entR xs ah a = x ∧ (e7R xs a).2.1 = a + (entB s x).length := by
  have hx0 : xs = pre ++ (putU s ++ (putU (x.key.length - s) ++ (putU x.seq ++ ([bt x.kind] ++ (putU x.val.length ++ (x.key.drop s ++ (x.val ++ R))))))) := by
    rw [hx]
    unfold entB
    simp only [List.append_assoc]
  have h1 : e1R xs a = (s, (a + (putU s).length, false)) := numR_at hx0 ha (by unfold B64; omega)
  have h2 : e2R xs a = (x.key.length - s, (a + (putU s).length + (putU (x.key.length - s)).length, false)) := by
    unfold e2R
    rw [h1]
    exact numR_at (pre := pre ++ putU s) (r := putU x.seq ++ ([bt x.kind] ++ (putU x.val.length ++ (x.key.drop s ++ (x.val ++ R))))) (by rw [hx0]; simp only [List.append_assoc]) (by simp only [List.length_append, ha]) (by unfold B64; omega)
  have h3 : e3R xs a = (x.seq, (a + (putU s).length + (putU (x.key.length - s)).length + (putU x.seq).length, false)) := by
    unfold e3R
    rw [h2]
    exact numR_at (pre := pre ++ putU s ++ putU (x.key.length - s)) (r := [bt x.kind] ++ (putU x.val.length ++ (x.key.drop s ++ (x.val ++ R)))) (by rw [hx0]; simp only [List.append_assoc]) (by simp only [List.length_append, ha]) hq
  have h4 : e4R xs a = ([bt x.kind], (a + (putU s).length + (putU (x.key.length - s)).length + (putU x.seq).length + 1, false)) := by
    unfold e4R
    rw [h3]
    exact takeR_at (pre := pre ++ putU s ++ putU (x.key.length - s) ++ putU x.seq) (r := putU x.val.length ++ (x.key.drop s ++ (x.val ++ R))) (by rw [hx0]; simp only [List.append_assoc]) (by simp only [List.length_append, ha]) rfl
  have h5 : e5R xs a = (x.val.length, (a + (putU s).length + (putU (x.key.length - s)).length + (putU x.seq).length + 1 + (putU x.val.length).length, false)) := by
    unfold e5R
    rw [h4]
    exact numR_at (pre := pre ++ putU s ++ putU (x.key.length - s) ++ putU x.seq ++ [bt x.kind]) (r := x.key.drop s ++ (x.val ++ R)) (by rw [hx0]; simp only [List.append_assoc]) (by simp only [List.length_append, List.length_cons, List.length_nil, ha]) (by unfold B64; omega)
  have h6 : e6R xs a = (x.key.drop s, (a + (putU s).length + (putU (x.key.length - s)).length + (putU x.seq).length + 1 + (putU x.val.length).length + (x.key.length - s), false)) := by
    unfold e6R
    rw [h2, h5]
    exact takeR_at (pre := pre ++ putU s ++ putU (x.key.length - s) ++ putU x.seq ++ [bt x.kind] ++ putU x.val.length) (r := x.val ++ R) (by rw [hx0]; simp only [List.append_assoc]) (by simp only [List.length_append, List.length_cons, List.length_nil, ha]) (by simp)
  have h7 : e7R xs a = (x.val, (a + (putU s).length + (putU (x.key.length - s)).length + (putU x.seq).length + 1 + (putU x.val.length).length + (x.key.length - s) + x.val.length, false)) := by
    unfold e7R
    rw [h5, h6]
    exact takeR_at (pre := pre ++ putU s ++ putU (x.key.length - s) ++ putU x.seq ++ [bt x.kind] ++ putU x.val.length ++ x.key.drop s) (r := R) (by rw [hx0]; simp only [List.append_assoc]) (by simp only [List.length_append, List.length_cons, List.length_nil, List.length_drop, ha]) rfl
  have hahl : s ≤ ah.length := by
    have := congrArg List.length hah
    simp only [List.length_take] at this
    omega
  refine ⟨?_, ?_, ?_⟩
  · unfold badR
    rw [h7, h1, h6]
    simp only [List.length_drop, Bool.false_or, Bool.or_eq_false_iff, decide_eq_false_iff_not]
    omega
  · unfold entR
    rw [h1, h3, h4, h6, h7]
    simp only [List.headD_cons]
    rw [hah, List.take_append_drop, bt_nat _ hd]
  · rw [h7]
    simp only
    unfold entB
    simp only [List.length_append, List.length_cons, List.length_nil, List.length_drop]
    omega
theorem outB_pre (ev : Nat) (es : List En) (i : Nat) : ∀ j, i ≤ j → ∃ R, outB ev es j = outB ev es i ++ R := by
  intro j
  induction j with
  | zero => intro h; exact ⟨[], by rw [show i = 0 by omega]; simp⟩
  | succ j ih =>
    intro h
    by_cases e : i = j + 1
    · exact ⟨[], by rw [e]; simp⟩
    · obtain ⟨R, hR⟩ := ih (by omega)
      rw [outB]
      split
      · exact ⟨R ++ entB (shB ev es j) _, by rw [hR, List.append_assoc]⟩
      · exact ⟨R, hR⟩
theorem rsB_pre (ev : Nat) (es : List En) (i : Nat) : ∀ j, i ≤ j → ∃ R, rsB ev es j = rsB ev es i ++ R := by
  intro j
  induction j with
  | zero => intro h; exact ⟨[], by rw [show i = 0 by omega]; simp⟩
  | succ j ih =>
    intro h
    by_cases e : i = j + 1
    · exact ⟨[], by rw [e]; simp⟩
    · obtain ⟨R, hR⟩ := ih (by omega)
      rw [rsB]
      split
      · exact ⟨R ++ fourB _, by rw [hR, List.append_assoc]⟩
      · exact ⟨R, hR⟩
theorem rsB_mod (ev : Nat) (es : List En) : ∀ i, (rsB ev es i).length % 4 = 0
  | 0 => rfl
  | i + 1 => by
    have := rsB_mod ev es i
    unfold rsB
    split
    · rw [List.length_append, fourB_len]; omega
    · exact this
theorem rsB_one {ev : Nat} {es : List En} : ∀ {i : Nat}, 1 ≤ i → i ≤ ev → rsB ev es i = fourB 0
  | 0, h, _ => absurd h (by omega)
  | i + 1, _, h2 => by
    by_cases e : i = 0
    · subst e
      rw [rsB, if_pos (Nat.zero_mod _)]
      rfl
    · rw [rsB, if_neg (by rw [Nat.mod_eq_of_lt (by omega)]; exact e)]
      exact rsB_one (by omega) (by omega)
theorem entB_pos (s : Nat) (x : En) : 1 ≤ (entB s x).length := by
  have := putU_pos s
  unfold entB
  simp only [List.length_append]
  omega
theorem lastK_take {es : List En} {i : Nat} {y : En} (h : es[i]? = some y) : lastK (es.take (i + 1)) = y.key := by
  rw [List.take_add_one, h]
  exact lastK_snoc _ y
theorem sh_take {ev i : Nat} {es : List En} {x : En} (h : es[i]? = some x) : (lastK (es.take i)).take (shB ev es i) = x.key.take (shB ev es i) := by
  unfold shB
  split
  · simp
  · rename_i h0
    obtain ⟨j, rfl⟩ : ∃ j, i = j + 1 := ⟨i - 1, by
      rcases Nat.eq_zero_or_pos i with e | e
      · rw [e, Nat.zero_mod] at h0; exact absurd rfl h0
      · omega⟩
    obtain ⟨y, hy⟩ : ∃ y, es[j]? = some y := ⟨_, List.getElem?_eq_getElem (by have := (List.getElem?_eq_some_iff.1 h).1; omega)⟩
    rw [Nat.add_sub_cancel, hy, h, lastK_take hy]
    exact comB_take _ _
/-- Reading on from the i-th entry. -/
theorem par_from {ev : Nat} {es : List En} {sec : Int} (hz : ∀ x ∈ es, x.key.length ≤ 1024 ∧ x.val.length ≤ 65536) (hw : ∀ x ∈ es, U64 x.seq ∧ x.kind < 256) (g : Nat → Nat → Nat) (hg0 : ∀ c, g es.length c = c)
    (hg : ∀ i c, i < es.length → g i c = g (i + 1) (if ((outB ev es i).length : Int) = sec then i else c)) : ∀ (k i f c : Nat), i + k = es.length → k < f → parR (outB ev es es.length) sec f (outB ev es i).length (es.take i) c = some (es, g i c)
  | 0, i, f, c, hi, hf => by
    obtain ⟨f', rfl⟩ : ∃ f', f = f' + 1 := ⟨f - 1, by omega⟩
    obtain rfl : i = es.length := by omega
    rw [parR, if_pos (Nat.le_refl _), hg0, List.take_length]
  | k + 1, i, f, c, hi, hf => by
    obtain ⟨f', rfl⟩ : ∃ f', f = f' + 1 := ⟨f - 1, by omega⟩
    have hlt : i < es.length := by omega
    obtain ⟨x, hx⟩ : ∃ x, es[i]? = some x := ⟨_, List.getElem?_eq_getElem hlt⟩
    have hm := List.mem_of_getElem? hx
    obtain ⟨R, hR⟩ := outB_pre ev es (i + 1) es.length hlt
    rw [outB_step hx, List.append_assoc] at hR
    have hpos := entB_pos (shB ev es i) x
    obtain ⟨q1, q2, q3⟩ := ent_at (ah := lastK (es.take i)) hR rfl (shB_le hx) (hz x hm).1 (hz x hm).2 (hw x hm).1 (hw x hm).2 (sh_take hx)
    have hlen : (outB ev es i).length < (outB ev es es.length).length := by
      rw [hR]
      simp only [List.length_append]
      omega
    have hnx : (outB ev es i).length + (entB (shB ev es i) x).length = (outB ev es (i + 1)).length := by rw [outB_step hx, List.length_append]
    have htk : es.take i ++ [x] = es.take (i + 1) := by rw [List.take_add_one, hx]; rfl
    rw [parR, if_neg (by omega), q1, q2, q3, hnx, htk, List.length_take, Nat.min_eq_left (by omega)]
    simp only [Bool.false_eq_true, if_false]
    rw [par_from hz hw g hg0 hg k (i + 1) f' _ (by omega) (by omega), ← hg i c hlt]
theorem split_full {ev : Nat} {es : List En} (hF : (fullB ev es).length ≤ 1048576) : splitB (fullB ev es) = some (outB ev es es.length, rsB ev es es.length) := by
  have hm := rsB_mod ev es es.length
  obtain ⟨o, ho⟩ : ∃ o, o = outB ev es es.length := ⟨_, rfl⟩
  obtain ⟨r, hr⟩ : ∃ r, r = rsB ev es es.length := ⟨_, rfl⟩
  have hf : fullB ev es = o ++ r ++ fourB (r.length / 4) := by unfold fullB; rw [← ho, ← hr]
  rw [← hr] at hm
  rw [← ho, ← hr, hf]
  rw [hf] at hF
  have hl : (o ++ r ++ fourB (r.length / 4)).length = o.length + r.length + 4 := by simp only [List.length_append, fourB_len]
  have hd : (o ++ r ++ fourB (r.length / 4)).drop (o.length + r.length) = fourB (r.length / 4) := List.drop_left' (by simp)
  have hnk : numK (fourB (r.length / 4)) 4 = r.length / 4 := by
    have := numK_fourB (r.length / 4) [] (by omega)
    rw [List.append_nil] at this
    exact this
  unfold splitB
  rw [hl, if_neg (by omega), Nat.add_sub_cancel, hd, hnk]
  simp only
  rw [if_neg (by omega), show o.length + r.length - 4 * (r.length / 4) = o.length by omega]
  congr 2
  · rw [List.append_assoc]
    exact List.take_left' rfl
  · rw [show (o ++ r ++ fourB (r.length / 4)).take (o.length + r.length) = o ++ r from List.take_left' (by simp)]
    exact List.drop_left' rfl
theorem out_congr {ev ev2 : Nat} {es : List En} : ∀ {n : Nat}, (∀ i, i < n → (i % ev = 0 ↔ i % ev2 = 0)) → outB ev es n = outB ev2 es n ∧ rsB ev es n = rsB ev2 es n
  | 0, _ => ⟨rfl, rfl⟩
  | n + 1, h => by
    obtain ⟨h1, h2⟩ := out_congr (ev := ev) (ev2 := ev2) (es := es) (n := n) (fun i hi => h i (by omega))
    have hs : shB ev es n = shB ev2 es n := by
      unfold shB
      by_cases e : n % ev = 0
      · rw [if_pos e, if_pos ((h n (by omega)).1 e)]
      · rw [if_neg e, if_neg (fun e2 => e ((h n (by omega)).2 e2))]
    refine ⟨?_, ?_⟩
    · rw [outB, outB, h1, hs]
    · rw [rsB, rsB, h1, h2]
      by_cases e : n % ev = 0
      · rw [if_pos e, if_pos ((h n (by omega)).1 e)]
      · rw [if_neg e, if_neg (fun e2 => e ((h n (by omega)).2 e2))]
theorem build_congr {ev ev2 : Nat} {es : List En} (h : ∀ i, i < es.length → (i % ev = 0 ↔ i % ev2 = 0)) : buildE ev es = buildE ev2 es := by
  have hf : fullB ev es = fullB ev2 es := by
    obtain ⟨h1, h2⟩ := out_congr (ev := ev) (ev2 := ev2) (es := es) h
    unfold fullB
    rw [h1, h2]
  unfold buildE
  rw [hf]
/-- What was built is read. -/
theorem dec_build {ev : Nat} {es : List En} (he : 1 ≤ ev) (hw : ∀ x ∈ es, U64 x.seq ∧ x.kind < 256) (hb : (buildE ev es).2 = 0) : decB (buildE ev es).1 = (es, 0) := by
  obtain ⟨h1, h2, h3, h4, h5⟩ := buildE_ord hb
  have hz := longE_no h3
  rw [h4]
  unfold decB
  rw [openG_one _ h5]
  simp only
  rw [if_neg (by simp)]
  have hsp := split_full h5
  have hmn : ∀ i, i < es.length → (outB ev es i).length < (outB ev es (i + 1)).length := fun i hi => by
    obtain ⟨x, hx⟩ : ∃ x, es[i]? = some x := ⟨_, List.getElem?_eq_getElem hi⟩
    rw [outB_step hx, List.length_append]
    have := entB_pos (shB ev es i) x
    omega
  by_cases hev : ev < es.length
  · -- two restarts at least
    obtain ⟨R, hR⟩ := rsB_pre ev es (ev + 1) es.length hev
    rw [rsB, if_pos (Nat.mod_self ev), rsB_one he (Nat.le_refl _)] at hR
    have hrl : 8 ≤ (rsB ev es es.length).length := by
      rw [hR]
      simp only [List.length_append, fourB_len]
      omega
    have hol : (outB ev es ev).length ≤ 1048576 := by
      have := outB_mono ev es ev es.length (by omega)
      unfold fullB at h5
      simp only [List.length_append] at h5
      omega
    have hnk : numK ((rsB ev es es.length).drop 4) 4 = (outB ev es ev).length := by
      rw [hR, List.append_assoc, List.drop_left' (fourB_len 0)]
      exact numK_fourB _ _ (by omega)
    have hpb : parB (fullB ev es) = some (es, ev) := by
      unfold parB
      rw [hsp]
      simp only
      rw [if_pos hrl, hnk]
      have hmono : ∀ i, i < es.length → (((outB ev es i).length : Int) = ((outB ev es ev).length : Int) ↔ i = ev) := fun i hi => by
        constructor
        · intro h
          have h : (outB ev es i).length = (outB ev es ev).length := by omega
          rcases Nat.lt_trichotomy i ev with e | e | e
          · have a1 := hmn i hi
            have a2 := outB_mono ev es (i + 1) ev (by omega)
            omega
          · exact e
          · have a1 := hmn ev hev
            have a2 := outB_mono ev es (ev + 1) i (by omega)
            omega
        · intro h; rw [h]
      have hp := par_from (sec := ((outB ev es ev).length : Int)) hz hw (fun i c => if i ≤ ev then ev else c) (fun c => by show (if es.length ≤ ev then ev else c) = c; rw [if_neg (by omega)]) (fun i c hi => by
        show (if i ≤ ev then ev else c) = (if i + 1 ≤ ev then ev else (if ((outB ev es i).length : Int) = ((outB ev es ev).length : Int) then i else c))
        by_cases e : i = ev
        · rw [if_pos (by omega), if_neg (by omega), if_pos ((hmono i hi).2 e), e]
        · rw [if_neg (fun h => e ((hmono i hi).1 h))]
          by_cases e2 : i ≤ ev
          · rw [if_pos e2, if_pos (by omega)]
          · rw [if_neg e2, if_neg (by omega)]) es.length 0 ((outB ev es es.length).length + 1) 0 (by omega) (by
          have key : ∀ i, i ≤ es.length → i ≤ (outB ev es i).length := by
            intro i
            induction i with
            | zero => intro _; exact Nat.zero_le _
            | succ i ih => intro h; have := ih (by omega); have := hmn i (by omega); omega
          have := key es.length (Nat.le_refl _)
          omega)
      simp only [outB, List.length_nil, List.take_zero, Nat.zero_le, if_true] at hp
      rw [hp]
      simp only
      rw [if_neg (by omega)]
    rw [hpb, show decP (sealB (fullB ev es)) (some (es, ev)) = if (buildZ ev es).2 = 0 ∧ (buildZ ev es).1 = sealB (fullB ev es) then (es, 0) else ([], 3) from rfl]
    rw [show buildZ ev es = buildE ev es from if_neg (by omega), if_pos ⟨hb, h4⟩]
  · -- one restart alone
    have hrl : ¬ 8 ≤ (rsB ev es es.length).length := by
      rcases Nat.eq_zero_or_pos es.length with e | e
      · rw [e]; simp [rsB]
      · rw [rsB_one e (by omega)]
        rw [fourB_len]
        omega
    have hpb : parB (fullB ev es) = some (es, max es.length 1) := by
      unfold parB
      rw [hsp]
      simp only
      rw [if_neg hrl]
      have hp := par_from (sec := -1) hz hw (ev := ev) (fun _ c => c) (fun c => rfl) (fun i c hi => by
        show c = (if ((outB ev es i).length : Int) = -1 then i else c)
        rw [if_neg (by omega)]) es.length 0 ((outB ev es es.length).length + 1) 0 (by omega) (by
          have key : ∀ i, i ≤ es.length → i ≤ (outB ev es i).length := by
            intro i
            induction i with
            | zero => intro _; exact Nat.zero_le _
            | succ i ih => intro h; have := ih (by omega); have := hmn i (by omega); omega
          have := key es.length (Nat.le_refl _)
          omega)
      simp only [outB, List.length_nil, List.take_zero] at hp
      rw [hp]
      simp only
      rw [if_pos (by omega)]
    have hbe : buildE (max es.length 1) es = buildE ev es := build_congr (fun i hi => by
      have e1 : i % max es.length 1 = i := Nat.mod_eq_of_lt (by omega)
      have e2 : i % ev = i := Nat.mod_eq_of_lt (by omega)
      rw [e1, e2])
    rw [hpb, show decP (sealB (fullB ev es)) (some (es, max es.length 1)) = if (buildZ (max es.length 1) es).2 = 0 ∧ (buildZ (max es.length 1) es).1 = sealB (fullB ev es) then (es, 0) else ([], 3) from rfl]
    rw [show buildZ (max es.length 1) es = buildE (max es.length 1) es from if_neg (by omega), hbe, if_pos ⟨hb, h4⟩]
theorem ord_of_sort {es : List En} (h : SortL es) : ordE es = true := by
  have key : ∀ k, k < es.length ∨ k = 0 → ordK es k = true := by
    intro k
    induction k with
    | zero => intro _; rfl
    | succ k ih =>
      intro hk
      have hk : k + 1 < es.length := by omega
      obtain ⟨a, ha⟩ : ∃ a, es[k]? = some a := ⟨_, List.getElem?_eq_getElem (by omega)⟩
      obtain ⟨b, hb⟩ : ∃ b, es[k + 1]? = some b := ⟨_, List.getElem?_eq_getElem hk⟩
      have hs := List.pairwise_iff_getElem.1 h k (k + 1) (by omega) hk (by omega)
      rw [(List.getElem?_eq_some_iff.1 ha).2, (List.getElem?_eq_some_iff.1 hb).2] at hs
      rw [ordK_step ha hb, ih (.inl (by omega)), hs]
      rfl
  exact key _ (by omega)
/-- Of entries in order, each in form, Build answers the block, or that it is too long. -/
theorem build_sorted {ev : Nat} {es : List En} (hs : SortL es) (hok : ∀ x ∈ es, okE x = true) : (buildE ev es).2 = 0 ∨ buildE ev es = ([], 2) := by
  have h1 : es.any longE = false := by
    rw [List.any_eq_false]
    intro x hx
    rw [(okE_iff.1 (hok x hx)).1]
    simp
  have h2 : es.all formE = true := by
    rw [List.all_eq_true]
    intro x hx
    exact (okE_iff.1 (hok x hx)).2
  have h3 := ord_of_sort hs
  unfold buildE
  rw [h1, h2, h3]
  simp only [Bool.false_eq_true, if_false, Bool.and_self, if_true]
  split
  · exact .inr rfl
  · exact .inl rfl
end Go.Proofs.Ytoaajkdhlhopmaa
namespace Go.Proofs.Ytoaajkdhlhopmaa
open Go Go.RowKit

/-- What Seek hands back of a good block: two slices that share nothing. -/
theorem RetSk8.fam {w : World} {es : List En} {pl : En} {e : Ending} {w' : World} (h : RetSk8 w (es, 0) pl e w') : ∃ K kn kc V vn vc, ∃ (sq kd : Nat), ∃ b xs ys, e = .returned (.tuple #[.agg #[.slice K kn kc, .int .u64 (sq : Int), .int .u8 (kd : Int), .slice V vn vc], .bool b, .int .i64 0]) ∧ Fam w' w.heap.size [(.slice K kn kc, xs), (.slice V vn vc, ys)] ∧ Below w.heap.size w w' ∧ ((xs = [] ∧ ys = []) ∨ ∃ x ∈ es, xs = x.key ∧ ys = x.val) := by
  obtain ⟨hb, h⟩ := h
  rcases h with ⟨h0, _⟩ | ⟨_, _, rfl⟩ | ⟨_, i, x, hx, _, _, K, kn, kc, V, vn, vc, rfl, _, hf⟩
  · exact absurd rfl h0
  · exact ⟨none, 0, 0, none, 0, 0, 0, 0, _, [], [], rfl, fam_two (Own.nil _ _ _) (Own.nil _ _ _) (fun b h => by cases h), hb, .inl ⟨rfl, rfl⟩⟩
  · exact ⟨K, kn, kc, V, vn, vc, x.seq, x.kind, _, x.key, x.val, rfl, hf, hb, .inr ⟨x, List.mem_of_getElem? hx, rfl, rfl⟩⟩
/-- What Decode hands back of a good block. -/
theorem RetDc8.row {w : World} {es : List En} {e : Ending} {w' : World} (h : RetDc8 w (es, 0) e w') : ∃ L d, e = .returned (.tuple #[.slice L es.length d, .int .i64 0]) ∧ RowE w w.heap.size L es.length d es w' := by
  rcases h with ⟨_, h0, _⟩ | ⟨_, _, L, d, h1, h2⟩
  · exact absurd rfl h0
  · exact ⟨L, d, h1, h2⟩
theorem belowT8 {w0 w1 w2 : World} (h : Below w0.heap.size w0 w1) (hb : Below w1.heap.size w1 w2) : Below w0.heap.size w0 w2 := h.trans (hb.mono h.size)
theorem fam_one8 {w : World} {base n c : Nat} {A : Option Addr} {xs : List UInt8} (o : Own 5 w base A n c xs) : Fam w base [(.slice A n c, xs)] := by
  refine ⟨fun p hp => ?_, List.pairwise_singleton _ _⟩
  simp only [List.mem_singleton] at hp
  subst hp
  exact ⟨A, n, c, rfl, o⟩
theorem perm8 {α : Type} (A B : List α) (s t f k v : α) : (B ++ [s] ++ [t] ++ [f] ++ A ++ [k, v]).Perm ([s, t, f, k, v] ++ (A ++ B)) := by
  classical
  rw [List.perm_iff_count]
  intro a
  simp only [List.count_append, List.count_cons, List.count_nil]
  omega
/-- What stands while the lists are put behind. -/
def St8 (B : Nat) (w2 : World) (M : Option Addr) (N md : Nat) (vals : List Value) (P : List VB) (La Lb : Option Addr) (k da db ba bb : Nat) (va vb : List Value) (wr : World) : Prop :=
  OwnV 22 wr B M N md vals ∧ Fam wr B P ∧ Below B w2 wr ∧ OwnE wr ba La k da va ∧ OwnE wr bb Lb k db vb ∧ B ≤ wr.heap.size
theorem St8.grown {B : Nat} {w2 wr w' : World} {M M' : Option Addr} {N md N' md' : Nat} {vals vals' : List Value} {P : List VB} {La Lb : Option Addr} {k da db ba bb : Nat} {va vb : List Value} (h : St8 B w2 M N md vals P La Lb k da db ba bb va vb wr)
    (hM : OwnV 22 w' B M' N' md' vals') (hg : wr.grownBy w' (blk M)) : St8 B w2 M' N' md' vals' P La Lb k da db ba bb va vb w' := by
  obtain ⟨h1, h2, h4, h5, h6, h7⟩ := h
  refine ⟨hM, h2.kept hg (fun b e => h2.off_row h1 (by decide) b e), h4.grown hg h7 (fun k hk => (h1.lt k hk).1), ownE_kept h5 hg (fun b hb e => ?_), ownE_kept h6 hg (fun b hb e => ?_), by have := hg.size; omega⟩
  · exact row_ne h1 h5 (by decide) b e hb
  · exact row_ne h1 h6 (by decide) b e hb
theorem St8.below {B : Nat} {w2 wr w' : World} {M : Option Addr} {N md : Nat} {vals : List Value} {P : List VB} {La Lb : Option Addr} {k da db ba bb : Nat} {va vb : List Value} (h : St8 B w2 M N md vals P La Lb k da db ba bb va vb wr)
    (hb : Below wr.heap.size wr w') : St8 B w2 M N md vals P La Lb k da db ba bb va vb w' := by
  obtain ⟨h1, h2, h4, h5, h6, h7⟩ := h
  exact ⟨h1.below hb, h2.below hb, h4.trans (hb.mono h7), h5.below hb, h6.below hb, by have := hb.size; omega⟩
set_option maxRecDepth 100000 in
set_option maxHeartbeats 16000000 in
theorem blockKeeps_row (A : Option Addr) (n c : Nat) (es : List En) (K0 : Option Addr) (k0 kc0 : Nat) (key : List UInt8) (w : World) (h : REs w A n es) (hnc : n ≤ c) (ht : totE es ≤ 1048576) (hk : Rd w K0 k0 key) (hkc : k0 ≤ kc0) (_hkm : kc0 ≤ 1048576) (hknil : K0 = none → kc0 = 0) :
    Calls Try.prog 6 #[.slice A n c, .slice K0 k0 kc0] w (RetT w true) := by
  have hsz : ∀ x ∈ es, SzE x := fun x hx => by
    have := totE_mem hx
    unfold wE at this
    exact ⟨by omega, by omega⟩
  have hnn : n ≤ 1048576 := by have := totE_len es; have := h.len; omega
  obtain ⟨m, hm⟩ : ∃ m, m = min n 20 := ⟨_, rfl⟩
  obtain ⟨fs, hfs⟩ : ∃ fs, fs = es.take m := ⟨_, rfl⟩
  obtain ⟨us, hev, hrv⟩ := h.takeV (m := m) (by omega)
  rw [← hfs] at hev
  have hfl : fs.length = m := by rw [hfs, List.length_take, h.len]; omega
  have hfz : ∀ x ∈ fs, SzE x := fun x hx => hsz x (by rw [hfs] at hx; exact List.mem_of_mem_take hx)
  have HSO : Hid (∀ wx, Below w.heap.size w wx → Calls Try.prog 23 #[.slice A m c] wx (RetPick wx (srt [] fs) us)) := Lib.hid (fun wx hb => sorted_any (hev.below hb) (hrv.below hb) hfl (by omega) hfz)
  have hsl := (srt_len fs []).1
  obtain ⟨hss1, hss2⟩ := srt_prop (xs := fs) (o := []) List.Pairwise.nil (fun x hx => by cases hx)
  have hssz : ∀ x ∈ srt [] fs, SzE x := fun x hx => by
    rcases srt_mem x hx with q | q
    · cases q
    · exact hfz x q
  obtain ⟨ss, hss⟩ : ∃ ss, ss = srt [] fs := ⟨_, rfl⟩
  rw [← hss] at HSO hsl hss1 hss2 hssz
  have hsl2 : ss.length ≤ 20 := by simp at hsl; omega
  obtain ⟨ev, hev2⟩ : ∃ ev : Nat, ev = 2 := ⟨_, rfl⟩
  have hbs := build_sorted (ev := ev) hss1 hss2
  have HEV := Lib.hid hev2
  obtain ⟨zb, zk, hz⟩ : ∃ zb zk, buildE ev ss = (zb, zk) := ⟨_, _, rfl⟩
  obtain ⟨bn, hbn⟩ : ∃ bn, zb.length = bn := ⟨_, rfl⟩
  have hbl : bn ≤ 1048584 := by
    rcases hbs with hb | hb
    · have h1 := buildE_ord hb
      have h2 : zb = sealB (fullB ev ss) := by have := h1.2.2.2.1; rw [hz] at this; exact this
      have h3 := h1.2.2.2.2
      rw [← hbn, h2, sealB_len]
      omega
    · rw [hz] at hb
      injection hb with h1 h2
      subst h1
      simp at hbn
      omega
  have hzz : (zk = 0 ∧ ((∀ x ∈ ss, U64 x.seq ∧ x.kind < 256) → decB zb = (ss, 0))) ∨ zk = 2 := by
    rcases hbs with hb | hb
    · have h2 := hb
      rw [hz] at h2
      refine .inl ⟨h2, fun hw => ?_⟩
      have := dec_build (by omega) hw hb
      rw [hz] at this
      exact this
    · rw [hz] at hb
      injection hb with h1 h2
      exact .inr h2
  have HZ := Lib.hid hz
  have HZB := Lib.hid hbn
  have HZZ := Lib.hid hzz
  have hcut : ∀ w, (Instr.slice 25 (.slice A n c) none (some (.int .i64 20)) none).run Try.prog w = .ok (.slice A 20 c) w ∨ ¬ 20 < n := fun w => by
    by_cases h40 : 20 < n
    · exact .inl (cut4_h (m := 20) Try.underlying25 elem4 size4 A (by omega) w)
    · exact .inr h40
  have HMM := Lib.hid hm
  have HSZ := Lib.hid hssz
  have HOK := Lib.hid hss2
  have HK := Lib.hid hk
  have HKN := Lib.hid hknil
  have hm40 : m ≤ 20 := by omega
  clear hz hbn hzz hev2 hm h hsz hev hrv hfs hfl hfz hsl hss hbs ht hss1 hss2 hssz hk hknil
  go_enter Try.func6, Try.ntmps6
  go_wp2_with fail
  refine (awake8_any _).mono ?_
  rintro e w1 ⟨rfl, b1⟩
  have B1 := Lib.hid b1
  clear b1
  go_upto_if 23 with (fail)
  go_cut [0] from 19 to 26 (fun s1 wx => s1 = .slice A m c ∧ wx = w1)
  case first =>
    by_cases h40 : 20 < n
    · have hm4 : m = 20 := by have := HMM.out; omega
      have hct : ∀ w, (Instr.slice 25 (.slice A n c) none (some (.int .i64 20)) none).run Try.prog w = .ok (.slice A 20 c) w := fun w => (hcut w).resolve_right (by omega)
      subst hm4
      clear hcut
      go_wp2_with fail
      go_meet
      case rel => exact ⟨rfl, rfl⟩
    · have hm4 : m = n := by have := HMM.out; omega
      subst hm4
      clear hcut
      go_wp2_with fail
      go_meet
      case rel => exact ⟨rfl, rfl⟩
  case rest =>
    obtain ⟨rfl, hwc⟩ := hcut
    rw [hwc]
    clear hwc wc
    go_wp2_with fail
    with_reducible refine (HSO.out _ B1.out).mono ?_
    intro e w2 hq
    obtain ⟨L, k, d, he, hR, hkd, b2⟩ := hq.res
    subst he
    have hk : k = ss.length := hR.len.symm
    have B2 := Lib.hid (B1.out.trans (b2.mono B1.out.size))
    have HR := Lib.hid hR
    have hk40 : k ≤ 20 := by omega
    have HKL := Lib.hid hk
    clear hq hR b2 hk
    obtain ⟨bs, hbsz⟩ : ∃ bs, bs = w2.heap.size := ⟨_, rfl⟩
    have HBZ := Lib.hid hbsz
    clear hbsz
    go_wp2_with fail
    refine (Twins_any HR.out (by omega) HSZ.out).mono ?_
    rintro e w3 ⟨L3, n3, dg, rfl, hrow⟩
    obtain ⟨vb, ob, eb, _, hlb, b3, _, fb⟩ := id hrow
    obtain rfl : n3 = k := by have := HKL.out; omega
    have HLB := Lib.hid hlb
    clear hlb
    have HBD : Hid (∀ wx, Below w3.heap.size w3 wx → Calls Try.prog 24 #[.int .i64 2, .slice L3 n3 dg] wx (fun e w' => ∃ A c, e = .returned (.tuple #[.slice A bn c, .int .i64 zk]) ∧ Own 5 w' wx.heap.size A bn c zb ∧ Below wx.heap.size wx w')) := Lib.hid (fun wx hb => by
      have hh := build8_any (c := dg) (hrow.rd.below hb) (by omega) ev (by have := HEV.out; omega) (by have := HEV.out; omega)
      have h2 : (ev : Int) = 2 := by have := HEV.out; omega
      rw [h2, HZ.out] at hh
      refine hh.mono ?_
      rintro e w' ⟨A, c, h1, h2, h3⟩
      refine ⟨A, c, ?_, ?_, h3⟩
      · rw [← HZB.out]; exact h1
      · rw [← HZB.out]; exact h2)
    have HRW := Lib.hid hrow.rd
    rw [← HBZ.out] at ob eb fb b3
    have OB := Lib.hid ob
    have EB_ := Lib.hid eb
    have FB := Lib.hid fb
    have B3 := Lib.hid b3
    have s3 : bs ≤ w3.heap.size := by have := b3.size; have := HBZ.out; omega
    clear hrow ob eb fb b3
    go_wp2_with fail
    with_reducible refine (HBD.out _ (Below.refl _ _)).mono ?_
    rintro e w4 ⟨S, sc, rfl, oS, b4⟩
    have B4 := Lib.hid b4
    have F4 := Lib.hid (FB.out.app (fam_one8 oS) b4 (Nat.le_refl _) s3)
    have s4 := b4.size
    clear oS b4
    go_wp2_with fail
    with_reducible refine (HBD.out _ B4.out).mono ?_
    rintro e w5 ⟨T, tc, rfl, oT, b5⟩
    have F5 := Lib.hid (F4.out.app (fam_one8 oT) b5 (Nat.le_refl _) (by omega))
    have B5 := Lib.hid (belowT8 B4.out b5)
    have s5 := b5.size
    clear oT b5 HBD
    have HW5 := Lib.hid (B2.out.trans ((B3.out.trans (B5.out.mono s3)).mono (by have := HBZ.out; have := B2.out.size; omega)))
    have C5 := Lib.hid ((show Below w2.heap.size w2 w3 by have := HBZ.out; rw [← this]; exact B3.out).trans (B5.out.mono (by have := HBZ.out; omega)))
    rcases HZZ.out with ⟨hz0, hdec⟩ | hz2
    · subst hz0
      have HDEC := Lib.hid (hdec HR.out.wf)
      have R5 := Lib.hid (HRW.out.below B5.out)
      have HR5 := Lib.hid ((HR.out.below (by have := HBZ.out; rw [← this]; exact B3.out)).below B5.out)
      have EB5 := Lib.hid (EB_.out.below B5.out)
      have OB5 := Lib.hid (OwnE.below OB.out B5.out)
      clear hdec
      go_wp2_with fail
      with_reducible refine (SameList_any R5.out HR5.out (by omega) HSZ.out).mono ?_
      intro e w6 hq
      obtain ⟨h1, b6⟩ := RetT.outD hq
      subst h1
      have F6 := Lib.hid (F5.out.below b6)
      have B6 := Lib.hid (HW5.out.trans (b6.mono HW5.out.size))
      have C6 := Lib.hid (C5.out.trans (b6.mono C5.out.size))
      have OB6 := Lib.hid (OwnE.below OB5.out b6)
      have s6 := b6.size
      clear hq b6
      go_wp2_with fail
      with_reducible refine (Spare_any S bn sc zb w6 (mem_own2 (c := sc) F6.out (by simp)).rd (by omega)).mono ?_
      rintro e w7 ⟨g, rfl, o7, b7⟩
      have F7 := Lib.hid (F6.out.app (fam_one8 o7) b7 (Nat.le_refl _) (by omega))
      have B7 := Lib.hid (B6.out.trans (b7.mono B6.out.size))
      have C7 := Lib.hid (C6.out.trans (b7.mono C6.out.size))
      have OB7 := Lib.hid (OwnE.below OB6.out b7)
      have s7 := b7.size
      have R7 : Rd w7 (some ⟨g, 0, none⟩) bn zb := rdPre2 (k := 40) o7 HZB.out
      have HDC : Hid (Calls Try.prog 16 #[.slice (some ⟨g, 0, none⟩) bn (bn + 40)] w7 (fun e w' => ∃ L d, e = .returned (.tuple #[.slice L n3 d, .int .i64 0]) ∧ RowE w7 w7.heap.size L n3 d ss w')) := Lib.hid (by
        have hh := decode_any (some ⟨g, 0, none⟩) bn (bn + 40) zb w7 R7 (by omega) (by omega) (fun h => by cases h)
        rw [HDEC.out] at hh
        refine hh.mono ?_
        intro e w' hq
        rw [HKL.out]
        exact hq.row)
      have R7x := Lib.hid R7
      clear o7 b7 R7
      go_wp2_with fail
      with_reducible refine HDC.out.mono ?_
      rintro e w8 ⟨La, da, rfl, hrow⟩
      obtain ⟨va, oa, ea, _, hla, b8, _, fa⟩ := id hrow
      have F8 := Lib.hid (F7.out.app fa b8 (Nat.le_refl _) (by omega))
      have B8 := Lib.hid (B7.out.trans (b8.mono B7.out.size))
      have C8 := Lib.hid (C7.out.trans (b8.mono C7.out.size))
      have OB8 := Lib.hid (OwnE.below OB7.out b8)
      have OA8 := Lib.hid oa
      have EA8 := Lib.hid ea
      have s8 := b8.size
      have R8 := R7x.out.below b8
      obtain ⟨at3, h3⟩ : ∃ at3 : Nat, at3 = 3 := ⟨_, rfl⟩
      have HSK : Hid (Calls Try.prog 19 #[.slice (some ⟨g, 0, none⟩) bn (bn + 40), .slice K0 k0 kc0, .int .u64 3] w8 (RetSk8 w8 (ss, 0) (plE key at3))) := Lib.hid (by
        have hh := seek_any (some ⟨g, 0, none⟩) bn (bn + 40) zb K0 k0 kc0 key at3 w8 R8 (by omega) (by omega) (fun h => by cases h) (HK.out.below B8.out) hkc HKN.out (by unfold U64; omega)
        have h2 : (at3 : Int) = 3 := by omega
        rw [HDEC.out, h2] at hh
        exact hh)
      clear hrow oa ea hla b8 fa R8 h3 HDC
      go_wp2_with fail
      with_reducible refine HSK.out.mono ?_
      intro e w9 hq
      obtain ⟨K, kn, kc, V, vn, vc, sq, kd, bo, xs, ys, h1, fx, b9, hxy⟩ := RetSk8.fam hq
      subst h1
      have hxs : xs.length ≤ 1024 ∧ ys.length ≤ 65536 := by
        rcases hxy with ⟨e1, e2⟩ | ⟨x, hx, e1, e2⟩
        · rw [e1, e2]; simp
        · rw [e1, e2]; exact long_ok (HOK.out x hx)
      have F9 := Lib.hid (F8.out.app fx b9 (Nat.le_refl _) (by omega))
      have B9 := Lib.hid (B8.out.trans (b9.mono B8.out.size))
      have C9 := Lib.hid (C8.out.trans (b9.mono C8.out.size))
      have OB9 := Lib.hid (OwnE.below OB8.out b9)
      have OA9 := Lib.hid (OwnE.below OA8.out b9)
      have s9 := b9.size
      clear hq fx b9 hxy HSK
      obtain ⟨W0, hW0⟩ : ∃ W0, W0 = w9.alloc (.cells #[.slice K kn kc, .int .u64 (sq : Int), .int .u8 (kd : Int), .slice V vn vc] 33) := ⟨_, rfl⟩
      have b0 : Below w9.heap.size w9 W0 := by rw [hW0]; exact (Below.refl _ _).alloc (Nat.le_refl _) _
      have XX : Hid (Cl W0 w9.heap.size #[.slice K kn kc, .int .u64 (sq : Int), .int .u8 (kd : Int), .slice V vn vc] 33) := Lib.hid (by rw [hW0]; exact Cl.new _ _ _)
      have F10 := Lib.hid (F9.out.below b0)
      have B10 := Lib.hid (B9.out.trans (b0.mono B9.out.size))
      have C10 := Lib.hid (C9.out.trans (b0.mono C9.out.size))
      have OB10 := Lib.hid (OwnE.below OB9.out b0)
      have OA10 := Lib.hid (OwnE.below OA9.out b0)
      have s10 := b0.size
      have HKP : Hid (Calls Try.prog 29 #[.slice (some ⟨g, 0, none⟩) (bn + 40) (bn + 40), .slice S bn sc] W0 (RetB W0 true)) := Lib.hid (Kept_any _ _ bn (bn + 40) sc zb W0 (mem_own2 (c := bn + 40) F10.out (by simp)).rd (mem_own2 (c := sc) F10.out (by simp)).rd (by omega))
      obtain ⟨gx, hgx⟩ : ∃ gx, gx = w9.heap.size := ⟨_, rfl⟩
      rw [← hgx] at XX
      have HGX := Lib.hid hgx
      have HW0 := Lib.hid hW0
      clear b0 hgx hW0
      go_upto_region 16 with (fail)
      rw [← HW0.out, ← HGX.out]
      go_wp2_with fail
      with_reducible refine HKP.out.mono ?_
      rintro e wx ⟨rfl, q1, rfl⟩
      obtain ⟨X, hX⟩ : ∃ X, X = W0.drewN q1 := ⟨_, rfl⟩
      have bX : Below W0.heap.size W0 X := by rw [hX]; exact below_drewN (Below.refl _ _) _
      rw [← hX]
      have XX1 := Lib.hid (XX.out.below bX)
      have sX := bX.size
      obtain ⟨v5, hv5⟩ : ∃ v5 : List Value, v5 = [.slice S bn sc, .slice T bn tc, .slice (some ⟨g, 0, none⟩) (bn + 40) (bn + 40), .slice K kn kc, .slice V vn vc] := ⟨_, rfl⟩
      obtain ⟨U, hU⟩ : ∃ U, U = X.alloc (.cells #[.slice S bn sc, .slice T bn tc, .slice (some ⟨g, 0, none⟩) (bn + 40) (bn + 40), .slice K kn kc, .slice V vn vc] 22) := ⟨_, rfl⟩
      have bU : Below X.heap.size X U := by rw [hU]; exact (Below.refl _ _).alloc (Nat.le_refl _) _
      have bWU : Below W0.heap.size W0 U := belowT8 bX bU
      have hbsX : bs ≤ X.heap.size := by omega
      have oM : OwnV 22 U bs (some ⟨X.heap.size, 0, none⟩) 5 5 v5 := by rw [hU, hv5]; exact ownV_box2 X _ bs _ 5 rfl (by omega) hbsX _ rfl
      obtain ⟨I, hI⟩ : ∃ I : List VB, I = inter (pairE ss va) (pairE ss vb) := ⟨_, rfl⟩
      obtain ⟨p5, hp5⟩ : ∃ p5 : List VB, p5 = [(.slice S bn sc, zb), (.slice T bn tc, zb), (.slice (some ⟨g, 0, none⟩) (bn + 40) (bn + 40), zb ++ room bn 40), (.slice K kn kc, xs), (.slice V vn vc, ys)] := ⟨_, rfl⟩
      have hm5 : p5.map (·.1) = v5 := by rw [hp5, hv5]; rfl
      have lva : va.length = n3 * 4 := OA10.out.rd.1
      have lvb : vb.length = n3 * 4 := OB10.out.rd.1
      have hks := HKL.out
      have lva2 : va.length = ss.length * 4 := by omega
      have lvb2 : vb.length = ss.length * 4 := by omega
      have FU : Fam U bs (p5 ++ I) := by
        have hp := perm8 (pairE ss va) (pairE ss vb) (Value.slice S bn sc, zb) (Value.slice T bn tc, zb) (Value.slice (some ⟨g, 0, none⟩) (bn + 40) (bn + 40), zb ++ room bn 40) (Value.slice K kn kc, xs) (Value.slice V vn vc, ys)
        have h1 := (F10.out.perm hp).perm ((inter_perm ss lva2 lvb2).append_left _)
        rw [hp5, hI]
        exact h1.below bWU
      have SMU : ∀ q ∈ p5 ++ I, q.2.length ≤ 1073741824 := fun q hq => by
        rcases List.mem_append.1 hq with h | h
        · rw [hp5] at h
          have hbn := HZB.out
          simp only [List.mem_cons, List.not_mem_nil, or_false] at h
          rcases h with rfl | rfl | rfl | rfl | rfl <;> simp only [List.length_append, room_len] <;> omega
        · rw [hI] at h
          have h' := (inter_perm ss lva2 lvb2).mem_iff.2 h
          have key : ∃ x ∈ ss, q.2 = x.key ∨ q.2 = x.val := by
            rcases List.mem_append.1 h' with h | h
            · exact pairE_sz h
            · exact pairE_sz h
          obtain ⟨x, hx, hk⟩ := key
          have := long_ok (HOK.out x hx)
          rcases hk with e | e <;> (rw [e]; omega)
      have BU : Below bs w2 U := by
        have hz := HBZ.out
        have h1 : Below w2.heap.size w2 W0 := C10.out
        rw [hz]
        exact h1.trans (bWU.mono h1.size)
      have H8 : Hid (St8 bs w2 (some ⟨X.heap.size, 0, none⟩) (5 + 4 * 0) 5 (v5 ++ (I.take (4 * 0)).map (·.1)) (p5 ++ I) La L3 n3 da dg w7.heap.size bs va vb U) := Lib.hid ⟨by simpa using oM, FU, BU, OwnE.below OA10.out bWU, OwnE.below OB10.out bWU, by have := bU.size; omega⟩
      have HI := Lib.hid hI
      have HM5 := Lib.hid hm5
      have HSMU := Lib.hid SMU
      have HLA := Lib.hid lva2
      have HLB2 := Lib.hid lvb2
      obtain ⟨e0, e1, e2, e3, _⟩ := XX1.out.c4
      have HU := Lib.hid hU
      obtain ⟨pA, hpA⟩ : ∃ pA, pA = w7.heap.size := ⟨_, rfl⟩
      obtain ⟨gM, hgM⟩ : ∃ gM, gM = X.heap.size := ⟨_, rfl⟩
      rw [← hpA, ← hgM] at H8
      have HGM := Lib.hid hgM
      clear hX bX bU bWU oM hp5 hm5 lva lvb hks lva2 lvb2 FU SMU BU hI hv5 hU hpA hgM
      go_upto_region 20 with (fail)
      rw [← HU.out, ← HGM.out]
      go_loopw [17, 79] (fun s6 s85 wx => ∃ (i md' : Nat) (M' : Option Addr), i ≤ n3 ∧ s85 = .int .i64 (i : Int) ∧ s6 = .slice M' (5 + 4 * i) md' ∧ St8 bs w2 M' (5 + 4 * i) md' (v5 ++ (I.take (4 * i)).map (·.1)) (p5 ++ I) La L3 n3 da dg pA bs va vb wx) (fun _ s _ => n3 - (intOf s).toNat)
      case atStart => exact ⟨0, 5, _, Nat.zero_le _, rfl, rfl, H8.out⟩
      case round =>
        obtain ⟨i, md', M', hi, rfl, rfl, h5⟩ := hrel
        have H5x := Lib.hid h5
        clear h5
        by_cases hlt : i < n3
        · -- A0
          obtain ⟨ga, ofa, hLa, hgl⟩ : ∃ b off, La = some ⟨b, off, none⟩ ∧ b < wr.heap.size := H5x.out.2.2.2.1.rd.pos (by omega)
          obtain ⟨gb, ofb, hLb, hgb⟩ : ∃ b off, L3 = some ⟨b, off, none⟩ ∧ b < wr.heap.size := H5x.out.2.2.2.2.1.rd.pos (by omega)
          subst hLa hLb
          obtain ⟨x, hx⟩ : ∃ x, ss[i]? = some x := ⟨_, List.getElem?_eq_getElem (by have := HKL.out; omega)⟩
          obtain ⟨v0, v1, v2, v3, e0, e1, e2, e3, hev⟩ := EVs.at_ i (EOs.evs EA8.out) hx
          obtain ⟨u0, u1, u2, u3, f0, f1, f2, f3, hew⟩ := EVs.at_ i (EOs.evs EB_.out) hx
          obtain ⟨Ka, na, ca, Va, ma, oa, rfl, rfl, rfl, rfl, _⟩ := hev.parts
          obtain ⟨Kb, nb, cb, Vb, mb, ob, rfl, rfl, rfl, rfl, _⟩ := hew.parts
          have rda := H5x.out.2.2.2.1.rd
          have rdb := H5x.out.2.2.2.2.1.rd
          obtain ⟨ga', ofa', hq1, _, hca⟩ := rda.2 (by omega)
          injection hq1 with hq1
          injection hq1 with hq1 hq2
          subst hq1 hq2
          obtain ⟨gb', ofb', hq1, _, hcb⟩ := rdb.2 (by omega)
          injection hq1 with hq1
          injection hq1 with hq1 hq2
          subst hq1 hq2
          have c0 := hca _ _ e0
          have c3 := hca _ _ e3
          have d0 := hcb _ _ f0
          have d3 := hcb _ _ f3
          rw [← Nat.add_assoc] at c3 d3
          have HIT : Hid ((I.take (4 * (i + 1))).map (·.1) = (I.take (4 * i)).map (·.1) ++ [.slice Ka na ca, .slice Va ma oa, .slice Kb nb cb, .slice Vb mb ob]) := Lib.hid (by
            rw [HI.out]
            exact inter_take ss i HLA.out HLB2.out e0 e3 f0 f3 (by have := HKL.out; omega))
          have bY : Below wr.heap.size wr (wr.drew.alloc (.cells #[.slice Ka na ca, .slice Va ma oa, .slice Kb nb cb, .slice Vb mb ob] 22)) := (Below.refl _ _).drew.alloc (Nat.le_refl _) _
          have H5Y := Lib.hid (H5x.out.below bY)
          have HBOX : Hid (RdV (wr.drew.alloc (.cells #[.slice Ka na ca, .slice Va ma oa, .slice Kb nb cb, .slice Vb mb ob] 22)) (some ⟨wr.heap.size, 0, none⟩) 4 [.slice Ka na ca, .slice Va ma oa, .slice Kb nb cb, .slice Vb mb ob]) := Lib.hid ((ownV_box2 wr.drew 22 wr.heap.size [.slice Ka na ca, .slice Va ma oa, .slice Kb nb cb, .slice Vb mb ob] 4 rfl (by omega) (Nat.le_refl _) _ rfl).rd)
          have hsY := H5Y.out.2.2.2.2.2
          clear hx e0 e1 e2 e3 hev f0 f1 f2 f3 hew rda rdb hca hcb bY
          go_upto_block 1 with fail
          go_cut [17, 18] from 81 to 105 (fun s6 s17 wx => ∃ (M2 : Option Addr) (md2 : Nat), s6 = .slice M2 (5 + 4 * (i + 1)) md2 ∧ St8 bs w2 M2 (5 + 4 * (i + 1)) md2 (v5 ++ (I.take (4 * (i + 1))).map (·.1)) (p5 ++ I) (some ⟨ga, ofa, none⟩) (some ⟨gb, ofb, none⟩) n3 da dg pA bs va vb wx)
          case first =>
            go_upto_region 22 with (fail)
            go_region_law (first | (refine step_appV _ rfl _ _ 51 rfl bs 22 _ 24 Try.underlying51 info_sl rfl M' (5 + 4 * i) md' _ (by simp [Act.eval]) H5Y.out.1 ⟨wr.heap.size, 0, none⟩ 4 4 [.slice Ka na ca, .slice Va ma oa, .slice Kb nb cb, .slice Vb mb ob] (by simp [Act.eval]) HBOX.out (by omega) (by intro u hu; simp only [List.mem_cons, List.not_mem_nil, or_false] at hu; rcases hu with rfl | rfl | rfl | rfl <;> rfl) (by unfold maxLen; omega) (by omega) hsY ?_; intro M2 md2 wz hMz hgz))
            all_goals
              have H5Z : Hid (St8 bs w2 M2 (5 + 4 * (i + 1)) md2 (v5 ++ (I.take (4 * (i + 1))).map (·.1)) (p5 ++ I) (some ⟨ga, ofa, none⟩) (some ⟨gb, ofb, none⟩) n3 da dg pA bs va vb wz) := Lib.hid (by
                rw [HIT.out, ← List.append_assoc]
                exact H5Y.out.grown hMz hgz)
              clear hMz hgz c0 c3 d0 d3
              go_wp2_with fail
              go_meet
              exact ⟨M2, md2, rfl, H5Z.out⟩
          case rest =>
            obtain ⟨M2, md2, rfl, h5z⟩ := hcut
            have H5Z := Lib.hid h5z
            clear h5z c0 c3 d0 d3
            go_wp2_with fail
            go_roundw
            case rel => exact ⟨i + 1, md2, M2, by omega, by go_num, rfl, H5Z.out⟩
            case measure => simp [intOf]; omega
          -- A1
        · obtain rfl : i = n3 := by omega
          have hIT : I.take (4 * i) = I := by
            rw [HI.out, HKL.out]
            exact inter_all ss HLA.out HLB2.out
          rw [hIT] at H5x
          obtain ⟨hM, hF, hB, _, _, hs⟩ := H5x.out
          have hmap : v5 ++ I.map (·.1) = (p5 ++ I).map (·.1) := by rw [List.map_append, HM5.out]
          rw [hmap] at hM
          have HAP : Hid (Calls Try.prog 30 #[.slice M' (5 + 4 * i) md'] wr fun e w' => e = .returned (.bool true) ∧ Below bs wr w') := Lib.hid (Apart_any M' (5 + 4 * i) md' bs ((p5 ++ I).map (·.1)) wr hM.rd (by omega) hF.pre (hF.small HSMU.out) hF.dis (fun b hb i v hv => (hF.off_row hM (by decide) b hb).map i v hv) hs)
          have HB := Lib.hid hB
          clear hM hF hB hs hmap hIT
          go_wp2_with fail
          with_reducible refine HAP.out.mono ?_
          rintro e w8 ⟨rfl, b8⟩
          have hfin : Below w.heap.size w w8 := by
            have hz := HBZ.out
            refine B2.out.trans (Below.mono (B := bs) (HB.out.trans b8) ?_)
            have := B2.out.size
            omega
          have HFIN := Lib.hid hfin
          clear b8 hfin HAP
          go_wp2
          go_ret
          exact ⟨rfl, HFIN.out⟩
    · subst hz2
      go_wp2
      go_ret
      exact ⟨rfl, HW5.out⟩
end Go.Proofs.Ytoaajkdhlhopmaa
namespace Go.Proofs.Ytoaajkdhlhopmaa.blockKeepsUptoRow
open Go Go.ChangeShapes Go.WideShapes Go.ChangeAt Go.RowKit Go.Deep
open Go.ChangeMaps (open_string shut_string)
set_option linter.unusedVariables false

theorem own : ownKnob Try.prog.godebug = none := by kernel_rfl
theorem laidOut : laidOutB Try.prog = true := by kernel_rfl

set_option maxRecDepth 100000 in
theorem contract (H : Type) (enc : TypeId × Value → H) (W : World) (base : Nat) (args : Array Value) (ds gs : List (DataW H)) (before : List MemPlace)
    (hval0 : ∀ (j : Nat) t v, Try.f6.params[j]? = some t → args[j]? = some v → Value.okWide Try.prog W .any base t v)
    (hW : DataW.Whole enc Try.prog Try.f6.params.toList Rows.blockKeepsSpec.vars false W args.toList ds gs before)
    (hk : Rows.uptoSmall H (ds ++ gs) = true) :
    Calls Try.prog 6 args W fun e W' => ∃ v, e = .returned v ∧ Rows.blockKeepsSpec.post enc Try.prog Try.f6 false true false false W args v W' := by
  have hval : ∀ (j : Nat) t v, Try.f6.params[j]? = some t → args[j]? = some v → Value.okWide Try.prog W .any base t v := hval0
  have hW' := hW
  obtain ⟨p, q, hA0, hV, rfl, hfz, hnd⟩ := hW
  have hA : DataW.TrodAll enc Try.prog W 0 (fun _ => true) true Try.f6.params.toList args.toList ds p := hA0
  rw [Try.params6] at hA hval
  obtain ⟨v0, vs0, d0, ds0, p0, q0, hargs, rfl, rfl, h0, r0⟩ := trodAll_cons hA
  obtain ⟨v1, vs1, d1, ds1, p1, q1, rfl, rfl, rfl, h1, r1⟩ := trodAll_cons r0
  obtain ⟨rfl, rfl, rfl⟩ := trodAll_nil r1
  obtain rfl : args = #[v0, v1] := by cases args; simp_all
  obtain ⟨rfl, rfl⟩ := trodVars_none hV
  have hb := bulkOf hk
  have sz0 : Rows.uptoBulk d0 ≤ 1048576 := Nat.le_trans (part_bulk (d := d0) (l := [d0, d1] ++ []) (by simp)) hb
  have sz1 : ∀ el sp, d1 = .slice el sp → Rows.uptoBulkAll el + Rows.uptoBulkAll sp + 1 ≤ 1048576 := fun el sp e => by
    have h1 := Nat.le_trans (part_bulk (d := d1) (l := [d0, d1] ++ []) (by simp)) hb
    rw [e] at h1
    simp only [Rows.uptoBulk] at h1
    omega
  obtain ⟨A0, len0, cap0, rfl⟩ := okWide_slice Try.underlying25 (hval 0 25 v0 rfl rfl)
  have k0 := h0
  have lt0 : ∀ x ∈ p0, x.block < W.heap.size := by obtain ⟨m, hm⟩ := k0; exact DataW.trod_lt m _ _ _ hm
  obtain ⟨al0, rd0, lc0, ta0⟩ : ∃ al0, REs W A0 len0 al0 ∧ len0 ≤ cap0 ∧ totE al0 ≤ 1048576 := by
    obtain ⟨fuel, hf⟩ := h0
    obtain ⟨al, h1, h2, h3⟩ := ents_of (len := len0) (cap := cap0) (A := A0) hf
    exact ⟨al, h1, h2, by have h4 := sz0; have h5 : totE al ≤ Rows.uptoBulk d0 := h3; omega⟩
  obtain ⟨A1, len1, cap1, rfl⟩ := okWide_slice Try.underlying22 (hval 1 22 v1 rfl rfl)
  have k1 := h1
  have lt1 : ∀ x ∈ p1, x.block < W.heap.size := by obtain ⟨m, hm⟩ := k1; exact DataW.trod_lt m _ _ _ hm
  obtain ⟨xs1, rd1, lc1, cm1, nl1⟩ : ∃ xs, Rd W A1 len1 xs ∧ len1 ≤ cap1 ∧ cap1 ≤ 1048576 ∧ (A1 = none → cap1 = 0) := by
    obtain ⟨fuel, hf⟩ := h1
    rcases open_ints Try.underlying22 Try.underlying5 (by kernel_rfl) hf with ⟨hcs, _⟩ | ⟨x, l, c, zs, hcs, _, hl, hm, hz, hx, hcell, hwz⟩
    · simp [Value.cells] at hcs
      obtain ⟨rfl, rfl, rfl⟩ := hcs
      exact ⟨[], Rd.nil _ _, Nat.le_refl _, by omega, fun _ => rfl⟩
    · simp [Value.cells] at hcs
      obtain ⟨rfl, rfl, rfl⟩ := hcs
      simp only [Prod.mk.injEq] at hx
      have hz' : zs.length = cap1 := by simpa using hz
      have h2 := sz1 _ _ hx.1
      have h3 := length_le (lits (H := H) .u8 (zs.take len1))
      have h4 := length_le (lits (H := H) .u8 (zs.drop len1))
      simp only [lits, List.length_map, List.length_take, List.length_drop, hz'] at h2 h3 h4
      exact ⟨_, Rd.of_ints hl hz' hcell hwz, hl, by omega, fun h => by cases h⟩
  clear hA0 hval0
  refine (blockKeeps_row A0 len0 cap0 al0 A1 len1 cap1 xs1 W rd0 lc0 ta0 rd1 lc1 cm1 nl1).mono fun e W' ⟨he, bel⟩ => ?_
  subst he
  exact ⟨_, rfl, _, _, _, [], _, [], hW', trodAll_mk1 (shut_bool Try.underlying4 _), (trodAll_cons_mk (Below.trod laidOut (by kernel_rfl) (of_decide_eq_true (by kernel_rfl)) k0 bel lt0) (trodAll_cons_mk (Below.trod laidOut (by kernel_rfl) (of_decide_eq_true (by kernel_rfl)) k1 bel lt1) trodAll_mk0)), rfl, bel.frame _, fun h => by cases h⟩

set_option maxRecDepth 100000 in
theorem lifted (os : Os) (started : os.Started) (H : Type) (enc : TypeId × Value → H) (F : Stop.Interp) :
    ReturnsInHanded {} Try.checked os 6 .any ((Rows.OpenSpec.upto Rows.blockKeepsSpec).pre6 enc Try.prog Try.f6 Rows.blockKeepsUptoRow.domain false) (((Rows.OpenSpec.upto Rows.blockKeepsSpec).at F).post enc Try.prog Try.f6 false true false false) := by
  refine returnsInHanded_of_cond (C := Try.checked) (s := Rows.OpenSpec.upto Rows.blockKeepsSpec) (k := Rows.uptoSmall) rfl own started (by kernel_rfl) Try.func6
    (OpenSpec.witness (enc := enc) (C := Try.checked) (s := Rows.OpenSpec.upto Rows.blockKeepsSpec) (k := Rows.uptoSmall) rfl false ⟨#[], #[.slice none 0 0, .slice none 0 0], []⟩ 8 (by kernel_rfl) (by kernel_rfl) (by kernel_rfl)
      (x := ([.nil, .nil], [], [])) (by kernel_rfl) rfl (by kernel_rfl)) ?_
  intro W base args ds gs before hval hW _ hk _
  exact contract H enc W base args ds gs before hval hW hk

theorem over : Rows.blockKeepsUptoRow.holds Try.pinned (Rows.OpenSpec.upto Rows.blockKeepsSpec) :=
  OpenClaim.holds_of_cond 6 Try.f6 rfl rfl rfl rfl rfl rfl rfl ⟨rfl, rfl, rfl, rfl, rfl⟩ rfl rfl rfl rfl rfl (by kernel_rfl) Try.func6 (by kernel_rfl)
    (of_decide_eq_true (by kernel_rfl)) (by unfold Func.isWrapper; first | (rw [if_pos (by decide +kernel)]; kernel_rfl) | (rw [if_neg (by decide +kernel)]; exact ⟨rfl, rfl⟩))
    (fun os started H enc _ F => lifted os started H enc F)

/-- THE STATEMENT -/
theorem proved : Rows.BlockKeepsUptoSaid := over
#print axioms proved
end Go.Proofs.Ytoaajkdhlhopmaa.blockKeepsUptoRow
