/- CaissonSealed: for every list of records, every number and every list of keeps, of at most 1048576 values and letters in all, the call returns true, and what came in reads as it did. -/
import Derived.Test.YtfffcpbldjoemaaDskA
import Derived.Sort.OwnSorted
import Derived.Test.YtfffcpbldjoemaaCrcZ
import Derived.Deep.DeepCutAuto
import Derived.Deep.CutBlock
import Derived.Deep.RegionHeld3
import Derived.Lib.SmallJoins
import Derived.Test.YtfffcpbldjoemaaRows
import Derived.Test.YtfffcpbldjoemaaOpen
import Derived.ProofKit
import Derived.OpenShut
import Derived.ShutString
import Derived.ChangeOld
import Derived.SizedLaws
import Derived.JoinedCond
import Derived.Deep.CondSized
import Derived.Deep.Matrix
import Derived.Test.YtfffcpbldjoemaaBulk
import Derived.Test.YtfffcpbldjoemaaOpenV
import Derived.Test.YtfffcpbldjoemaaOpenL
namespace Go.Proofs.Ytfffcpbldjoemaa
open Go Go.RowKit Go.Maps

/-- 'The disk with this file now; the number.' -/
def RetFile (w : World) (p : Nat) (m : Option Nat) (rs : List FR) (r : FR) (dat : List UInt8) (saf : Nat) (room used left : Int) (dead armed : Bool) (v : Value) (e : Ending) (w' : World) : Prop :=
  e = .returned v ∧ ∃ r' : FR, r'.name = r.name ∧ r'.dat = dat ∧ r'.saf = saf ∧ DskR w' p m (putR r' rs) room used left dead armed ∧ Fr w w' (allB p m rs) ∧ ∀ b ∈ allB p m (putR r' rs), b ∈ allB p m rs ∨ w.heap.size ≤ b

section
variable {w : World} {p : Nat} {m : Option Nat} {rs : List FR} {room used left : Int} {dead armed : Bool}
theorem append_dead (x : List UInt8) (B : Option Addr) (n c : Nat) (h : DskR w p m rs room used left true armed) :
    Calls Try.prog 8 #[.pointer (some ⟨p, 0, none⟩), .string (tx x), .slice B n c] w fun e w' => e = .returned (.int .i64 9) ∧ w = w' := by
  go_enter Try.func8, Try.ntmps8
  go_wp2_with fail
  refine (find_dead x h).mono ?_
  rintro e w' ⟨rfl, rfl⟩
  go_wp2
  go_ret
  exact ⟨rfl, rfl⟩
set_option maxRecDepth 100000 in
set_option maxHeartbeats 2000000 in
theorem append_full (x : List UInt8) (B : Option Addr) (n c : Nat) (u R : Nat) (h : DskR w p m rs (R : Int) (u : Int) left false armed) (hf : R < u + n) (huR : u ≤ R) (hR : R ≤ 9223372036854775807) (hx : x.length ≤ maxLen) :
    Calls Try.prog 8 #[.pointer (some ⟨p, 0, none⟩), .string (tx x), .slice B n c] w fun e w' => e = .returned (.int .i64 8) ∧ ∃ q, w' = w.drewN q := by
  obtain ⟨c0, c1, c2, c3, c4, c5⟩ := h.head
  have i0 : IntKind.i64.wrap ((R : Int) - (u : Int)) = (R : Int) - (u : Int) := IntWalk.i64_in _ (by omega)
  have i1 : decide ((R : Int) - (u : Int) < (n : Int)) = true := by simp; omega
  by_cases hex : ∃ r ∈ rs, r.name = x
  · obtain ⟨r, hr, rfl⟩ := hex
    go_enter Try.func8, Try.ntmps8
    go_wp2_with fail
    refine (find_some h hr hx).mono ?_
    rintro e w' ⟨rfl, rfl⟩
    go_wp2
    go_quiet (fail)
    go_wp2
    go_ret
    exact ⟨rfl, _, rfl⟩
  · go_enter Try.func8, Try.ntmps8
    go_wp2_with fail
    refine (find_none x h (fun r hr e => hex ⟨r, hr, e⟩) hx).mono ?_
    rintro e w' ⟨rfl, rfl⟩
    go_wp2
    go_quiet (fail)
    go_wp2
    go_ret
    exact ⟨rfl, _, rfl⟩
set_option maxRecDepth 100000 in
set_option maxHeartbeats 4000000 in
theorem append_old {r : FR} (B : Option Addr) (n c : Nat) (ys : List UInt8) (u R : Nat) (h : DskR w p m rs (R : Int) (u : Int) left false armed) (hu : rsUp rs) (hr : r ∈ rs) (hB : Rd w B n ys)
    (hf : u + n ≤ R) (hR : R ≤ 9223372036854775807) (hn : n ≤ 1099511627776) (hd : r.dat.length ≤ 1099511627776) (hx : r.name.length ≤ maxLen) (hl : 0 ≤ left ∧ left ≤ 9223372036854775807) :
    Calls Try.prog 8 #[.pointer (some ⟨p, 0, none⟩), .string (tx r.name), .slice B n c] w
      (RetFile w p m rs r (r.dat ++ ys) r.saf R ((u + n : Nat) : Int) (tL armed left) (tD false armed left) (tA armed left) (.int .i64 (tE armed left))) := by
  obtain ⟨c0, c1, c2, c3, c4, c5⟩ := h.head
  have hfa := h.2.2.1 r hr
  obtain ⟨d0, d1⟩ := hfa.cells
  have i0 : IntKind.i64.wrap ((R : Int) - (u : Int)) = (R : Int) - (u : Int) := IntWalk.i64_in _ (by omega)
  have i1 : decide ((R : Int) - (u : Int) < (n : Int)) = false := by simp; omega
  have i2 : IntKind.i64.wrap ((u : Int) + (n : Int)) = (u : Int) + (n : Int) := IntWalk.i64_in _ (by omega)
  have hsep := h.2.2.2.1 r hr
  have hpf : p ≠ r.fb := fun e => hsep.1 (by rw [e]; simp [FR.bl])
  have hfA : blk r.A ≠ some r.fb := hsep.2.2
  have hfl : r.fb < w.heap.size := (Array.getElem?_eq_some_iff.1 hfa.1).1
  have hpl : p < w.heap.size := (Array.getElem?_eq_some_iff.1 h.1).1
  have hpA : blk r.A ≠ some p := fun e => hsep.1 (by simp [FR.bl, e])
  have HPA := Lib.hid hpA
  have HFA := Lib.hid hfA
  clear hpA hfA hsep
  go_enter Try.func8, Try.ntmps8
  go_wp2_with fail
  refine (find_some h hr hx).mono ?_
  rintro e w' ⟨rfl, rfl⟩
  go_wp2
  go_quiet (fail)
  obtain ⟨W, hW⟩ : ∃ W, W = w.drewN nq := ⟨_, rfl⟩
  have hD : DskR W p m rs (R : Int) (u : Int) left false armed := by rw [hW]; exact h
  have hBW : Rd W B n ys := by rw [hW]; exact hB.drewN nq
  have hFW : Fr w W (allB p m rs) := by rw [hW]; exact (Fr.refl _ _).drewN nq
  have hzW : W.heap.size = w.heap.size := by rw [hW]; rfl
  rw [← hW]
  have HZW := Lib.hid hzW
  clear hW h hB hzW c0 c1 c2 c3 c4 c5 d0 d1 hfa
  obtain ⟨c0, c1, c2, c3, c4, c5⟩ := hD.head
  have hfa := hD.2.2.1 r hr
  obtain ⟨d0, d1⟩ := hfa.cells
  have hown : OwnV 5 W 0 r.A r.dat.length r.c (r.dat.map cv) := hfa.2.1
  go_wp2_with (at_builtin; refine wpList_appV W rfl (.tmp 42) (.tmp 43) 30 rfl 0 5 _ 1 Try.underlying30 info_u8 rfl r.A r.dat.length r.c (r.dat.map cv) rfl hown B n c (ys.map cv) rfl hBW.toV (cv_one ys) ?_ ?_ ?_ ?_)
  · unfold maxLen; omega
  · omega
  · exact Nat.zero_le _
  intro A' c' w2 hA hg hk
  have hyl := hBW.len
  have hgs := hg.size
  have hfb2 : w2.heap[r.fb]? = some (.cells #[.slice r.A r.dat.length r.c, .int .i64 (r.saf : Int)] 69 (0, 0)) :=
    (hg.block r.fb (by have := HZW.out; omega) (fun e => HFA.out e.symm)).trans hfa.1
  have hp2 : w2.heap[p]? = some (.cells (headV m R u left false armed) 26 (0, 0)) :=
    (hg.block p (by have := HZW.out; omega) (fun e => HPA.out e.symm)).trans hD.1
  obtain ⟨r', hr'⟩ : ∃ r' : FR, r' = { r with dat := r.dat ++ ys, A := A', c := c' } := ⟨_, rfl⟩
  obtain ⟨N, hN⟩ : ∃ N, N = r.dat.length + n := ⟨_, rfl⟩
  have hlen : (r.dat ++ ys).length = N := by rw [List.length_append, hyl, hN]
  have hkA : blk A' ≠ some r.fb := fun e => by
    rcases hk with h1 | h1
    · exact HFA.out (by rw [← h1]; exact e)
    · rw [h1] at e; injection e with e; have := HZW.out; omega
  obtain ⟨w3, hw3⟩ : ∃ w3, w3 = w2.setCell ⟨r.fb, 0, none⟩ (.slice A' N c') := ⟨_, rfl⟩
  have hg3 : w2.grownBy w3 (some r.fb) := by rw [hw3]; exact ⟨rfl, rfl, rfl, by simp, fun k _ hne => heap_setCell_other w2 ⟨r.fb, 0, none⟩ k _ (fun e => hne (by rw [e]))⟩
  have hat : FileAt w3 r' := by
    refine ⟨?_, ?_, ?_⟩
    · rw [hw3, hr']
      show _ = some (Obj.cells #[.slice A' (r.dat ++ ys).length c', .int .i64 (r.saf : Int)] _ _)
      rw [heap_setCell_same _ _ _ _ _ _ hfb2, hlen]
      rfl
    · rw [hr']
      show Own 5 w3 0 A' (r.dat ++ ys).length c' (r.dat ++ ys)
      rw [hlen, hN]
      have h1 : OwnV 5 w2 0 A' (r.dat.length + n) c' ((r.dat ++ ys).map cv) := by rw [List.map_append]; exact hA
      exact OwnV.kept h1 hg3 (fun b hb e => hkA (by rw [hb]; exact e.symm))
    · rw [hr']
      show r.saf ≤ (r.dat ++ ys).length
      rw [List.length_append]
      have := hfa.2.2
      omega
  have hbl : ∀ b ∈ r'.bl, b ∈ r.bl ∨ W.heap.size ≤ b := fun b hb => by
    rw [hr'] at hb
    simp only [FR.bl, List.mem_cons, Option.mem_toList] at hb ⊢
    rcases hb with hb | hb
    · exact .inl (.inl hb)
    · rcases hk with h1 | h1
      · exact .inl (.inr (by rw [← h1]; exact hb))
      · rw [h1] at hb
        cases hb
        exact .inr (Nat.le_refl _)
  have hf3 : Fr W w3 r.bl := by
    have f1 : Fr W w2 r.bl := Fr.of_grown hg (fun b hb => by simp only [FR.bl, List.mem_cons, Option.mem_toList]; exact .inr hb)
    have f2 : Fr w2 w3 [r.fb] := Fr.of_grown hg3 (fun b hb => by cases hb; exact List.mem_singleton.2 rfl)
    exact f1.trans f2 (fun b hb => .inl (by rw [List.mem_singleton] at hb; rw [hb]; simp [FR.bl]))
  have hD3 : DskR w3 p m (putR r' rs) (R : Int) (u : Int) left false armed := hD.file hu hr (by rw [hr']) (by rw [hr']) hf3 hat hbl (by rw [hr']; exact hkA)
  obtain ⟨w4, hw4⟩ : ∃ w4, w4 = w3.setCell ⟨p, 2, none⟩ (.int .i64 ((u : Int) + (n : Int))) := ⟨_, rfl⟩
  have hD4 : DskR w4 p m (putR r' rs) (R : Int) ((u : Int) + (n : Int)) left false armed := by
    rw [hw4]
    exact hD3.turn (Fr.set w3 p 2 _) (heap_setCell_same _ _ _ _ _ _ hD3.1)
  have hF4 : Fr w w4 (allB p m rs) := by
    have f1 : Fr w w3 (allB p m rs) := hFW.trans hf3 (fun b hb => .inl (mem_file hr hb))
    have f2 : Fr w3 w4 [p] := by rw [hw4]; exact Fr.set w3 p 2 _
    exact f1.trans f2 (fun b hb => .inl (by rw [List.mem_singleton] at hb; rw [hb]; exact mem_head))
  have hmem : ∀ b ∈ allB p m (putR r' rs), b ∈ allB p m rs ∨ w.heap.size ≤ b := by
    have := mem_putR (p := p) (m := m) (w := W) hu hr hbl
    rw [HZW.out] at this
    exact this
  have d0' := cell_of_row w2 r.fb 0 _ _ _ hfb2
  have ff' := frozen_of_row w2 r.fb 0 _ _ hfb2
  have c2' : w2.cell? ⟨p, 2, none⟩ = some (.int .i64 (u : Int)) := cell_of_row w2 p 2 _ _ _ hp2
  have fp' := frozen_of_row w2 p 2 _ _ hp2
  have hnm : r'.name = r.name := by rw [hr']
  have hdt : r'.dat = r.dat ++ ys := by rw [hr']
  have hsf : r'.saf = r.saf := by rw [hr']
  have HW3 := Lib.hid hw3
  have HW4 := Lib.hid hw4
  have HN := Lib.hid hN
  have HR := Lib.hid (show r'.name = r.name ∧ r'.dat = r.dat ++ ys ∧ r'.saf = r.saf from ⟨hnm, hdt, hsf⟩)
  have HF4 := Lib.hid hF4
  have HMEM := Lib.hid hmem
  have HD4 := Lib.hid hD4
  clear hgs hfb2 hp2 hr' hlen hkA hg3 hat hbl hf3 hD3 hF4 hmem hnm hdt hsf hA hg hk hw3 hw4 hN hfa hD c0 c1 c2 c3 c4 c5 d0 d1 hown hD4 hFW
  rw [← HN.out]
  go_wp2_with fail
  rw [← HW3.out, ← HW4.out]
  have e1 : (u : Int) + (n : Int) = ((u + n : Nat) : Int) := by omega
  refine (turn_zero HD4.out hl).mono ?_
  rintro e w5 ⟨rfl, hH⟩
  have hfin : RetFile w p m rs r (r.dat ++ ys) r.saf R ((u + n : Nat) : Int) (tL armed left) (tD false armed left) (tA armed left) (.int .i64 (tE armed left)) (.returned (.int .i64 (tE armed left))) w5 := by
    refine ⟨rfl, r', HR.out.1, HR.out.2.1, HR.out.2.2, ?_, ?_, HMEM.out⟩
    · rw [← e1]
      exact HD4.out.turn hH.1 hH.2
    · exact HF4.out.trans hH.1 (fun b hb => .inl (by rw [List.mem_singleton] at hb; rw [hb]; exact mem_head))
  have HFIN := Lib.hid hfin
  clear hfin hH e1
  go_wp2
  go_ret
  exact HFIN.out
end
end Go.Proofs.Ytfffcpbldjoemaa
namespace Go.Proofs.Ytfffcpbldjoemaa
open Go Go.RowKit Go.Maps

theorem putR_eq {r q : FR} {t : List FR} (h : q.name = r.name) : putR r (q :: t) = r :: t := by rw [putR, if_pos h]
theorem putR_lt {r q : FR} {t : List FR} (h : q.name ≠ r.name) (h2 : r.name < q.name) : putR r (q :: t) = r :: q :: t := by rw [putR, if_neg h, if_pos h2]
theorem putR_gt {r q : FR} {t : List FR} (h : q.name ≠ r.name) (h2 : ¬ r.name < q.name) : putR r (q :: t) = q :: putR r t := by rw [putR, if_neg h, if_neg h2]
theorem putR_putR {a b : FR} (e : a.name = b.name) : ∀ {rs : List FR}, rsUp rs → putR a (putR b rs) = putR a rs
  | [], _ => putR_eq e.symm
  | q :: t, hu => by
    unfold rsUp at hu
    rw [List.pairwise_cons] at hu
    by_cases h1 : q.name = b.name
    · rw [putR_eq h1, putR_eq e.symm, putR_eq (by rw [e]; exact h1)]
    · by_cases h2 : b.name < q.name
      · rw [putR_lt h1 h2, putR_eq e.symm, putR_lt (by rw [e]; exact h1) (by rw [e]; exact h2)]
      · rw [putR_gt h1 h2, putR_gt (by rw [e]; exact h1) (by rw [e]; exact h2), putR_gt (by rw [e]; exact h1) (by rw [e]; exact h2), putR_putR e hu.2]
theorem mem_putR_self (r : FR) : ∀ rs : List FR, r ∈ putR r rs
  | [] => by simp [putR]
  | q :: t => by
    simp only [putR]
    split
    · exact List.mem_cons_self ..
    · split
      · exact List.mem_cons_self ..
      · exact List.mem_cons_of_mem _ (mem_putR_self r t)
theorem putR_up {r : FR} {rs : List FR} (h : rsUp rs) : rsUp (putR r rs) := by
  have h1 : risingF (rs.map FR.val) := by
    unfold risingF
    rw [List.pairwise_map]
    exact h
  have h2 := putF_up (f := r.val) h1
  rw [← putR_val] at h2
  exact rsUp_of h2

section
variable {w w' : World} {p : Nat} {m : Option Nat} {rs : List FR} {room used left : Int} {dead armed : Bool}
theorem put_any (r : FR) (h : DskR w p m rs room used left dead armed) (hn : ∀ q ∈ rs, q.name ≠ r.name) (hl : r.name.length ≤ 1099511627776) (hrs : rs.length ≤ 1099511627776) :
    Calls Try.prog 27 #[.pointer (some ⟨p, 0, none⟩), .string (tx r.name), .pointer (some ⟨r.fb, 0, none⟩)] w (RetPut w p m (putR r rs) room used left dead armed) := by
  obtain ⟨h1, h2, h3, h4⟩ := h
  rcases h2 with ⟨rfl, rfl⟩ | ⟨b, Dm, rfl, ho, hm⟩
  · exact put_nil r h1 hl
  · exact put_some r h1 ho hm (h4.2.1 b rfl) hn hl hrs
/-- The disk behind a put. -/
theorem DskR.put {r : FR} {e : Ending} (h : DskR w p m rs room used left dead armed) (hu : rsUp rs) (hr : RetPut w p m (putR r rs) room used left dead armed e w') (hat : FileAt w r) (hfr : ∀ b ∈ r.bl, b ∉ allB p m rs) (hne : blk r.A ≠ some r.fb) :
    ∃ b, DskR w' p (some b) (putR r rs) room used left dead armed ∧ Fr w w' (p :: m.toList) ∧ (m = some b ∨ w.heap.size ≤ b) := by
  have hlt := h.lt
  obtain ⟨h1, h2, h3, h4, h5, h6⟩ := h
  obtain ⟨_, b, Dm, e1, e2, e3, e4, e5⟩ := hr
  have hpl := (Array.getElem?_eq_some_iff.1 h1).1
  have hbp : b ≠ p := by
    rcases e5 with e5 | e5
    · exact h5 b e5
    · omega
  have hbq : ∀ q ∈ rs, b ∉ q.bl := fun q hq hb => by
    rcases e5 with e5 | e5
    · exact (h4 q hq).2.1 b e5 hb
    · have := hlt b (mem_file hq hb); omega
  have hbr : b ∉ r.bl := fun hb => by
    rcases e5 with e5 | e5
    · exact hfr b hb (mem_map e5)
    · have := hat.lt b hb; omega
  refine ⟨b, ⟨e1, .inr ⟨b, Dm, rfl, e2, e3⟩, fun q hq => ?_, fun q hq => ?_, fun c hc => by injection hc with hc; rw [← hc]; exact hbp, ?_⟩, e4, e5⟩
  · rcases putR_sub2 hu q hq with rfl | ⟨hq, _⟩
    · refine hat.fr e4 (fun c hc hm => hfr c hc ?_)
      simp only [allB, List.mem_cons, List.mem_append] at hm ⊢
      rcases hm with hm | hm
      · exact .inl hm
      · exact .inr (.inl hm)
    · refine (h3 q hq).fr e4 (fun c hc hm => ?_)
      simp only [List.mem_cons, Option.mem_toList] at hm
      rcases hm with rfl | hm
      · exact (h4 q hq).1 hc
      · exact (h4 q hq).2.1 c hm hc
  · rcases putR_sub2 hu q hq with rfl | ⟨hq, _⟩
    · exact ⟨fun hm => hfr p hm mem_head, fun c hc => by injection hc with hc; rw [← hc]; exact hbr, hne⟩
    · exact ⟨(h4 q hq).1, fun c hc => by injection hc with hc; rw [← hc]; exact hbq q hq, (h4 q hq).2.2⟩
  · exact putR_pair (fun a b => Sp.symm) h6 (fun q hq _ x hx hxq => hfr x hx (mem_file hq hxq)) hu

/-- 'The disk with this file now, and maybe a map of its own; the number.' -/
def RetFile2 (w : World) (p : Nat) (m : Option Nat) (rs : List FR) (x : List UInt8) (dat : List UInt8) (saf : Nat) (room used left : Int) (dead armed : Bool) (v : Value) (e : Ending) (w' : World) : Prop :=
  e = .returned v ∧ ∃ (r' : FR) (m' : Option Nat), r'.name = x ∧ r'.dat = dat ∧ r'.saf = saf ∧ DskR w' p m' (putR r' rs) room used left dead armed ∧ Fr w w' (allB p m rs) ∧ ∀ b ∈ allB p m' (putR r' rs), b ∈ allB p m rs ∨ w.heap.size ≤ b

set_option maxRecDepth 100000 in
set_option maxHeartbeats 4000000 in
theorem append_new (x : List UInt8) (B : Option Addr) (n c : Nat) (ys : List UInt8) (u R : Nat) (h : DskR w p m rs (R : Int) (u : Int) left false armed) (hu : rsUp rs) (hno : ∀ r ∈ rs, r.name ≠ x) (hB : Rd w B n ys) (hBo : ∀ b, blk B = some b → b ∉ allB p m rs)
    (hf : u + n ≤ R) (hR : R ≤ 9223372036854775807) (hn : n ≤ 1099511627776) (hx : x.length ≤ 1099511627776) (hrs : rs.length ≤ 1099511627776) (hl : 0 ≤ left ∧ left ≤ 9223372036854775807) :
    Calls Try.prog 8 #[.pointer (some ⟨p, 0, none⟩), .string (tx x), .slice B n c] w
      (RetFile2 w p m rs x ys 0 R ((u + n : Nat) : Int) (tL armed left) (tD false armed left) (tA armed left) (.int .i64 (tE armed left))) := by
  have hxm : x.length ≤ maxLen := by unfold maxLen; omega
  obtain ⟨c0, c1, c2, c3, c4, c5⟩ := h.head
  have i0 : IntKind.i64.wrap ((R : Int) - (u : Int)) = (R : Int) - (u : Int) := IntWalk.i64_in _ (by omega)
  have i1 : decide ((R : Int) - (u : Int) < (n : Int)) = false := by simp; omega
  have i2 : IntKind.i64.wrap ((u : Int) + (n : Int)) = (u : Int) + (n : Int) := IntWalk.i64_in _ (by omega)
  have HNO := Lib.hid hno
  have HBo := Lib.hid hBo
  clear hBo
  go_enter Try.func8, Try.ntmps8
  go_wp2_with fail
  refine (find_none x h hno hxm).mono ?_
  rintro e w' ⟨rfl, rfl⟩
  clear hno
  go_wp2
  go_quiet (fail)
  obtain ⟨W, hW⟩ : ∃ W, W = w.drewN nq := ⟨_, rfl⟩
  have hD : DskR W p m rs (R : Int) (u : Int) left false armed := by rw [hW]; exact h
  have hBW : Rd W B n ys := by rw [hW]; exact hB.drewN nq
  have hFW : Fr w W (allB p m rs) := by rw [hW]; exact (Fr.refl _ _).drewN nq
  have hzW : W.heap.size = w.heap.size := by rw [hW]; rfl
  rw [← hW]
  have HZW := Lib.hid hzW
  clear hW h hB hzW c0 c1 c2 c3 c4 c5
  obtain ⟨V, hV⟩ : ∃ V, V = W.alloc (.cells #[.slice none 0 0, .int .i64 0] 69) := ⟨_, rfl⟩
  have hbV : Below W.heap.size W V := by rw [hV]; exact (Below.refl _ _).alloc (Nat.le_refl _) _
  have hDV : DskR V p m rs (R : Int) (u : Int) left false armed := hD.fr (Fr.of_below hbV []) (fun b _ h => by cases h)
  have hBV : Rd V B n ys := hBW.below hbV
  obtain ⟨fb, hfb⟩ : ∃ fb, fb = W.heap.size := ⟨_, rfl⟩
  have hcV : V.heap[fb]? = some (.cells #[.slice none 0 0, .int .i64 0] 69 (0, 0)) := by rw [hV, hfb]; exact heap_alloc_new _ _
  obtain ⟨r0, hr0⟩ : ∃ r0 : FR, r0 = ⟨x, [], 0, fb, none, 0⟩ := ⟨_, rfl⟩
  have hn0 : r0.name = x := by rw [hr0]
  have hb0 : r0.fb = fb := by rw [hr0]
  have hat0 : FileAt V r0 := by rw [hr0]; exact ⟨hcV, Own.nil _ _ _, Nat.le_refl _⟩
  have hfr0 : ∀ b ∈ r0.bl, b ∉ allB p m rs := fun b hb hm => by
    rw [hr0] at hb
    simp [FR.bl, blk] at hb
    have := hD.lt b hm
    omega
  have hne0 : blk r0.A ≠ some r0.fb := by rw [hr0]; simp [blk]
  have hP := put_any r0 hDV (fun q hq e => HNO.out q hq (by rw [e, hn0])) (by rw [hn0]; exact hx) hrs
  rw [hn0, hb0] at hP
  have HP := Lib.hid hP
  have HV := Lib.hid hV
  have HFB := Lib.hid hfb
  clear hP hV hcV hfb
  go_wp2_with fail
  rw [← HV.out, ← HFB.out]
  refine HP.out.mono ?_
  clear HP
  rintro e w1 hret
  have hfb := HFB.out
  clear HFB
  subst hfb
  obtain ⟨he, hret2⟩ := hret
  subst he
  obtain ⟨mb, hD1, hF1, hmb⟩ := hDV.put hu ⟨rfl, hret2⟩ hat0 hfr0 hne0
  clear hret2
  have hVs := hbV.size
  have hr1 : r0 ∈ putR r0 rs := mem_putR_self _ _
  have hu1 := putR_up (r := r0) hu
  have hfa := hD1.2.2.1 r0 hr1
  have hB1 : Rd w1 B n ys := hBV.fr hF1 (fun b hb hm => HBo.out b hb (by
    simp only [List.mem_cons, Option.mem_toList, allB, List.mem_append] at hm ⊢
    rcases hm with hm | hm
    · exact .inl hm
    · exact .inr (.inl hm)))
  have hF01 : Fr w w1 (allB p m rs) := by
    have f1 : Fr w V (allB p m rs) := hFW.trans (Fr.of_below hbV (allB p m rs)) (fun b hb => .inl hb)
    exact f1.trans hF1 (fun b hb => .inl (by
      simp only [List.mem_cons, Option.mem_toList, allB, List.mem_append] at hb ⊢
      rcases hb with hm | hm
      · exact .inl hm
      · exact .inr (.inl hm)))
  have hmem1 : ∀ b ∈ allB p (some mb) (putR r0 rs), b ∈ allB p m rs ∨ w.heap.size ≤ b := fun b hb => by
    simp only [allB, List.mem_cons, List.mem_append, List.mem_flatMap, Option.mem_toList] at hb
    have := HZW.out
    rcases hb with rfl | hb | ⟨q, hq, hb⟩
    · exact .inl mem_head
    · cases hb
      rcases hmb with h1 | h1
      · exact .inl (mem_map h1)
      · exact .inr (by omega)
    · rcases putR_sub2 hu q hq with rfl | ⟨hq, _⟩
      · rw [hr0] at hb
        simp [FR.bl, blk] at hb
        exact .inr (by omega)
      · exact .inl (mem_file hq hb)
  have hz1 : w.heap.size ≤ w1.heap.size := hF01.size
  clear hDV hBV hBW hFW hbV hat0 hfr0 hne0 hF1 hmb hD
  have hfa1 := hfa.1
  have hpf : p ≠ W.heap.size := fun e => (hD1.2.2.2.1 r0 hr1).1 (by rw [e, ← hb0]; simp [FR.bl])
  have hfl : W.heap.size < w1.heap.size := by have := (Array.getElem?_eq_some_iff.1 hfa1).1; rw [hb0] at this; exact this
  have hpl : p < w1.heap.size := (Array.getElem?_eq_some_iff.1 hD1.1).1
  rw [hr0] at hfa1
  have d0 : w1.cell? ⟨W.heap.size, 0, none⟩ = some (.slice none 0 0) := cell_of_row w1 W.heap.size 0 _ _ _ hfa1
  have hown : OwnV 5 w1 0 none 0 0 [] := OwnV.nil _ _ _
  go_wp2_with (at_builtin; refine wpList_appV w1 rfl (.tmp 42) (.tmp 43) 30 rfl 0 5 _ 1 Try.underlying30 info_u8 rfl none 0 0 [] rfl hown B n c (ys.map cv) rfl hB1.toV (cv_one ys) ?_ ?_ ?_ ?_)
  · unfold maxLen; omega
  · omega
  · exact Nat.zero_le _
  intro A' c' w2 hA hg hk
  have hA : OwnV 5 w2 0 A' n c' (ys.map cv) := by simpa using hA
  have hg : w1.grownBy w2 none := hg
  have hyl := hB1.len
  have hgs := hg.size
  have hfb2 : w2.heap[W.heap.size]? = some (.cells #[.slice none 0 0, .int .i64 0] 69 (0, 0)) := (hg.block W.heap.size hfl (by simp)).trans hfa1
  have hp2 : w2.heap[p]? = some (.cells (headV (some mb) R u left false armed) 26 (0, 0)) := (hg.block p hpl (by simp)).trans hD1.1
  obtain ⟨r', hr'⟩ : ∃ r' : FR, r' = { r0 with dat := ys, A := A', c := c' } := ⟨_, rfl⟩
  have hkA : blk A' ≠ some W.heap.size := fun e => by
    rcases hk with h1 | h1
    · rw [h1] at e; simp [blk] at e
    · rw [h1] at e; injection e with e; omega
  obtain ⟨w3, hw3⟩ : ∃ w3, w3 = w2.setCell ⟨W.heap.size, 0, none⟩ (.slice A' n c') := ⟨_, rfl⟩
  have hg3 : w2.grownBy w3 (some W.heap.size) := by rw [hw3]; exact ⟨rfl, rfl, rfl, by simp, fun k _ hne => heap_setCell_other w2 ⟨W.heap.size, 0, none⟩ k _ (fun e => hne (by rw [e]))⟩
  have hat : FileAt w3 r' := by
    refine ⟨?_, ?_, ?_⟩
    · rw [hw3, hr', hr0]
      show (w2.setCell ⟨W.heap.size, 0, none⟩ (.slice A' n c')).heap[W.heap.size]? = some (Obj.cells #[.slice A' ys.length c', .int .i64 0] _ _)
      rw [heap_setCell_same _ _ _ _ _ _ hfb2, hyl]
      rfl
    · rw [hr']
      show Own 5 w3 0 A' ys.length c' ys
      rw [hyl]
      exact OwnV.kept hA hg3 (fun b hb e => hkA (by rw [hb]; exact e.symm))
    · rw [hr', hr0]
      exact Nat.zero_le _
  have hbl : ∀ b ∈ r'.bl, b ∈ r0.bl ∨ w1.heap.size ≤ b := fun b hb => by
    rw [hr'] at hb
    simp only [FR.bl, List.mem_cons, Option.mem_toList] at hb ⊢
    rcases hb with hb | hb
    · exact .inl (.inl hb)
    · rcases hk with h1 | h1
      · rw [h1] at hb; simp [blk] at hb
      · rw [h1] at hb
        cases hb
        exact .inr (Nat.le_refl _)
  have hf3 : Fr w1 w3 r0.bl := by
    have f1 : Fr w1 w2 r0.bl := Fr.of_grown hg (fun b hb => by cases hb)
    have f2 : Fr w2 w3 [W.heap.size] := Fr.of_grown hg3 (fun b hb => by cases hb; exact List.mem_singleton.2 rfl)
    exact f1.trans f2 (fun b hb => .inl (by rw [List.mem_singleton] at hb; rw [hb, ← hb0]; simp [FR.bl]))
  have hD3 : DskR w3 p (some mb) (putR r' (putR r0 rs)) (R : Int) (u : Int) left false armed := hD1.file hu1 hr1 (by rw [hr']) (by rw [hr']) hf3 hat hbl (by rw [hr', hr0]; exact hkA)
  obtain ⟨w4, hw4⟩ : ∃ w4, w4 = w3.setCell ⟨p, 2, none⟩ (.int .i64 ((u : Int) + (n : Int))) := ⟨_, rfl⟩
  have hD4 : DskR w4 p (some mb) (putR r' (putR r0 rs)) (R : Int) ((u : Int) + (n : Int)) left false armed := by
    rw [hw4]
    exact hD3.turn (Fr.set w3 p 2 _) (heap_setCell_same _ _ _ _ _ _ hD3.1)
  have hF4 : Fr w w4 (allB p m rs) := by
    have f1 : Fr w w3 (allB p m rs) := hF01.trans hf3 (fun b hb => hmem1 b (mem_file hr1 hb))
    have f2 : Fr w3 w4 [p] := by rw [hw4]; exact Fr.set w3 p 2 _
    exact f1.trans f2 (fun b hb => .inl (by rw [List.mem_singleton] at hb; rw [hb]; exact mem_head))
  have hmem : ∀ b ∈ allB p (some mb) (putR r' (putR r0 rs)), b ∈ allB p m rs ∨ w.heap.size ≤ b := fun b hb => by
    rcases mem_putR (p := p) (m := some mb) (w := w1) hu1 hr1 hbl b hb with h1 | h1
    · exact hmem1 b h1
    · exact .inr (by omega)
  have hpp : putR r' (putR r0 rs) = putR r' rs := putR_putR (by rw [hr']) hu
  rw [hpp] at hD4 hmem
  have d0' := cell_of_row w2 W.heap.size 0 _ _ _ hfb2
  have ff' := frozen_of_row w2 W.heap.size 0 _ _ hfb2
  have c2' : w2.cell? ⟨p, 2, none⟩ = some (.int .i64 (u : Int)) := cell_of_row w2 p 2 _ _ _ hp2
  have fp' := frozen_of_row w2 p 2 _ _ hp2
  have HW3 := Lib.hid hw3
  have HW4 := Lib.hid hw4
  have HR := Lib.hid (show r'.name = x ∧ r'.dat = ys ∧ r'.saf = 0 from by rw [hr', hr0]; exact ⟨rfl, rfl, rfl⟩)
  have HF4 := Lib.hid hF4
  have HMEM := Lib.hid hmem
  have HD4 := Lib.hid hD4
  clear hgs hfb2 hp2 hr' hkA hg3 hat hbl hf3 hD3 hF4 hmem hA hg hk hw3 hw4 hfa hfa1 hD1 d0 hown hD4 hpp hmem1 hF01 hr0 hn0 hb0 hu1 hr1 hB1 hyl
  go_wp2_with fail
  rw [← HW3.out, ← HW4.out]
  have e1 : (u : Int) + (n : Int) = ((u + n : Nat) : Int) := by omega
  refine (turn_zero HD4.out hl).mono ?_
  rintro e w5 ⟨rfl, hH⟩
  have hfin : RetFile2 w p m rs x ys 0 R ((u + n : Nat) : Int) (tL armed left) (tD false armed left) (tA armed left) (.int .i64 (tE armed left)) (.returned (.int .i64 (tE armed left))) w5 := by
    refine ⟨rfl, r', some mb, HR.out.1, HR.out.2.1, HR.out.2.2, ?_, ?_, HMEM.out⟩
    · rw [← e1]
      exact HD4.out.turn hH.1 hH.2
    · exact HF4.out.trans hH.1 (fun b hb => .inl (by rw [List.mem_singleton] at hb; rw [hb]; exact mem_head))
  have HFIN := Lib.hid hfin
  clear hfin hH e1
  go_wp2
  go_ret
  exact HFIN.out
end
end Go.Proofs.Ytfffcpbldjoemaa
namespace Go.Proofs.Ytfffcpbldjoemaa
open Go Go.RowKit Go.Maps

/-- 'It hands back bytes in new memory, and a number.' -/
def RetRd (w : World) (xs : List UInt8) (k : Int) (e : Ending) (w' : World) : Prop :=
  ∃ A n c, e = .returned (.tuple #[.slice A n c, .int .i64 k]) ∧ Own 5 w' w.heap.size A n c xs ∧ Below w.heap.size w w'

section
variable {w : World} {p : Nat} {m : Option Nat} {rs : List FR} {room used left : Int} {dead armed : Bool}
theorem read_dead (x : List UInt8) (h : DskR w p m rs room used left true armed) :
    Calls Try.prog 20 #[.pointer (some ⟨p, 0, none⟩), .string (tx x)] w (RetRd w [] 9) := by
  go_enter Try.func20, Try.ntmps20
  go_wp2_with fail
  refine (find_dead x h).mono ?_
  rintro e w' ⟨rfl, rfl⟩
  go_wp2
  go_ret2
  exact ⟨none, 0, 0, rfl, Own.nil _ _ _, Below.refl _ _⟩
theorem read_none (x : List UInt8) (h : DskR w p m rs room used left false armed) (hx : ∀ r ∈ rs, r.name ≠ x) (hl : x.length ≤ maxLen) :
    Calls Try.prog 20 #[.pointer (some ⟨p, 0, none⟩), .string (tx x)] w (RetRd w [] 6) := by
  go_enter Try.func20, Try.ntmps20
  go_wp2_with fail
  refine (find_none x h hx hl).mono ?_
  rintro e w' ⟨rfl, rfl⟩
  go_wp2
  go_ret2
  exact ⟨none, 0, 0, rfl, Own.nil _ _ _, Below.refl _ _⟩
set_option maxRecDepth 100000 in
set_option maxHeartbeats 1000000 in
theorem read_some {r : FR} (h : DskR w p m rs room used left false armed) (hr : r ∈ rs) (hl : r.name.length ≤ maxLen) (hd : r.dat.length ≤ 1099511627776) :
    Calls Try.prog 20 #[.pointer (some ⟨p, 0, none⟩), .string (tx r.name)] w (RetRd w r.dat 0) := by
  have hfa := h.2.2.1 r hr
  obtain ⟨d0, d1⟩ := hfa.cells
  have hnil : r.A = none → r.c = 0 := fun e => (hfa.2.1.nil_of (by rw [e]; rfl)).2.2
  go_enter Try.func20, Try.ntmps20
  go_wp2_with fail
  refine (find_some h hr hl).mono ?_
  rintro e w' ⟨rfl, rfl⟩
  go_wp2_with fail
  refine (Clone_any r.A r.dat.length r.c r.dat _ hfa.2.1.rd (by omega) hnil).mono ?_
  rintro e w2 ⟨A, n, c, rfl, ho, hb⟩
  go_wp2
  go_ret2
  exact ⟨A, n, c, rfl, ho, hb⟩

theorem sync_dead (x : List UInt8) (h : DskR w p m rs room used left true armed) :
    Calls Try.prog 9 #[.pointer (some ⟨p, 0, none⟩), .string (tx x)] w fun e w' => e = .returned (.int .i64 9) ∧ w = w' := by
  go_enter Try.func9, Try.ntmps9
  go_wp2_with fail
  refine (find_dead x h).mono ?_
  rintro e w' ⟨rfl, rfl⟩
  go_wp2_with fail
  refine (turn_err (p := p) (w := w) (e := 9) (by decide)).mono ?_
  rintro e w' ⟨rfl, rfl⟩
  go_wp2
  go_ret
  exact ⟨rfl, rfl⟩
theorem sync_none (x : List UInt8) (h : DskR w p m rs room used left false armed) (hx : ∀ r ∈ rs, r.name ≠ x) (hl : x.length ≤ maxLen) :
    Calls Try.prog 9 #[.pointer (some ⟨p, 0, none⟩), .string (tx x)] w fun e w' => e = .returned (.int .i64 6) ∧ w = w' := by
  go_enter Try.func9, Try.ntmps9
  go_wp2_with fail
  refine (find_none x h hx hl).mono ?_
  rintro e w' ⟨rfl, rfl⟩
  go_wp2_with fail
  refine (turn_err (p := p) (w := w) (e := 6) (by decide)).mono ?_
  rintro e w' ⟨rfl, rfl⟩
  go_wp2
  go_ret
  exact ⟨rfl, rfl⟩
theorem sync_kill {r : FR} (h : DskR w p m rs room used 0 false true) (hr : r ∈ rs) (hl : r.name.length ≤ maxLen) :
    Calls Try.prog 9 #[.pointer (some ⟨p, 0, none⟩), .string (tx r.name)] w (RetHd w p (headV m room used 0 true false) (.int .i64 9)) := by
  go_enter Try.func9, Try.ntmps9
  go_wp2_with fail
  refine (find_some h hr hl).mono ?_
  rintro e w' ⟨rfl, rfl⟩
  go_wp2_with fail
  refine (turn_kill h).mono ?_
  rintro e w1 ⟨rfl, hH⟩
  go_wp2
  go_ret
  exact ⟨rfl, hH⟩
/-- What the turned head says where the call is done. -/
theorem tE_done {armed : Bool} {left : Int} (h : tE armed left = 0) : tD dead armed left = dead ∧ tA armed left = armed := by
  unfold tE at h
  by_cases h1 : armed = true ∧ left = 0
  · rw [if_pos h1] at h; exact absurd h (by decide)
  · exact ⟨by rw [tD, if_neg h1], by rw [tA, if_neg h1]⟩
set_option maxRecDepth 100000 in
set_option maxHeartbeats 2000000 in
theorem sync_some {r : FR} (h : DskR w p m rs room used left false armed) (hu : rsUp rs) (hr : r ∈ rs) (hl : r.name.length ≤ maxLen) (hl2 : 0 ≤ left ∧ left ≤ 9223372036854775807) (ht : tE armed left = 0) :
    Calls Try.prog 9 #[.pointer (some ⟨p, 0, none⟩), .string (tx r.name)] w (RetFile w p m rs r r.dat r.dat.length room used (tL armed left) false armed (.int .i64 0)) := by
  obtain ⟨t1, t2⟩ := tE_done (dead := false) ht
  have hT := turn_zero h hl2
  rw [ht, t1, t2] at hT
  have HT := Lib.hid hT
  clear hT t1 t2 ht
  go_enter Try.func9, Try.ntmps9
  go_wp2_with fail
  refine (find_some h hr hl).mono ?_
  rintro e w' ⟨rfl, rfl⟩
  go_wp2_with fail
  refine HT.out.mono ?_
  clear HT
  rintro e w1 ⟨rfl, hH⟩
  have hD1 := h.turn hH.1 hH.2
  have hfa := hD1.2.2.1 r hr
  obtain ⟨d0, d1⟩ := hfa.cells
  have f1 := hfa.thaw 1
  obtain ⟨r', hr'⟩ : ∃ r' : FR, r' = { r with saf := r.dat.length } := ⟨_, rfl⟩
  obtain ⟨w2, hw2⟩ : ∃ w2, w2 = w1.setCell ⟨r.fb, 1, none⟩ (.int .i64 (r.dat.length : Int)) := ⟨_, rfl⟩
  have hsep := hD1.2.2.2.1 r hr
  have hf2 : Fr w1 w2 r.bl := by
    rw [hw2]
    exact (Fr.set w1 r.fb 1 _).mono (fun b hb => .inl (by rw [List.mem_singleton] at hb; rw [hb]; simp [FR.bl]))
  have hat : FileAt w2 r' := by
    refine ⟨?_, ?_, ?_⟩
    · rw [hw2, hr']
      exact heap_setCell_same _ _ _ _ _ _ hfa.1
    · rw [hr']
      exact hfa.2.1.fr (hw2 ▸ Fr.set w1 r.fb 1 (.int .i64 (r.dat.length : Int))) (fun b hb hm => by rw [List.mem_singleton] at hm; rw [hm] at hb; exact hsep.2.2 hb)
    · rw [hr']; exact Nat.le_refl _
  have hbl : ∀ b ∈ r'.bl, b ∈ r.bl ∨ w1.heap.size ≤ b := fun b hb => .inl (by rw [hr'] at hb; exact hb)
  have hfin : RetFile w p m rs r r.dat r.dat.length room used (tL armed left) false armed (.int .i64 0) (.returned (.int .i64 0)) w2 := by
    refine ⟨rfl, r', by rw [hr'], by rw [hr'], by rw [hr'], hD1.file hu hr (by rw [hr']) (by rw [hr']) hf2 hat hbl (by rw [hr']; exact hsep.2.2), ?_, fun b hb => ?_⟩
    · have f1 : Fr w w1 (allB p m rs) := hH.1.mono (fun b hb => .inl (by rw [List.mem_singleton] at hb; rw [hb]; exact mem_head))
      exact f1.trans hf2 (fun b hb => .inl (mem_file hr hb))
    · rcases mem_putR (p := p) (m := m) (w := w1) hu hr hbl b hb with h1 | h1
      · exact .inl h1
      · exact .inr (Nat.le_trans hH.1.size h1)
  have HFIN := Lib.hid hfin
  have HW2 := Lib.hid hw2
  clear hfin hw2 hat hbl hf2 hr' hD1 hfa hH
  go_wp2
  go_ret
  rw [← HW2.out]
  exact HFIN.out
end
end Go.Proofs.Ytfffcpbldjoemaa
namespace Go.Proofs.Ytfffcpbldjoemaa
open Go Go.RowKit Go.Maps

section
variable {w : World} {p : Nat} {m : Option Nat} {rs : List FR} {room used left : Int} {dead armed : Bool}
set_option maxRecDepth 100000 in
set_option maxHeartbeats 2000000 in
theorem shorten_any {r : FR} (k u : Nat) (h : DskR w p m rs room (u : Int) left dead armed) (hu : rsUp rs) (hr : r ∈ rs) (hk : k ≤ r.dat.length) (hru : r.dat.length ≤ u) (hu2 : u ≤ 9223372036854775807) (hd : r.dat.length ≤ 1099511627776) :
    Calls Try.prog 47 #[.pointer (some ⟨p, 0, none⟩), .pointer (some ⟨r.fb, 0, none⟩), .int .i64 (k : Int)] w
      (RetFile w p m rs r (r.dat.take k) k room ((u - (r.dat.length - k) : Nat) : Int) left dead armed (.tuple #[])) := by
  obtain ⟨c0, c1, c2, c3, c4, c5⟩ := h.head
  have hfa := h.2.2.1 r hr
  obtain ⟨d0, d1⟩ := hfa.cells
  have f2 := h.thaw 2
  have hsep := h.2.2.2.1 r hr
  have hpf : p ≠ r.fb := fun e => hsep.1 (by rw [e]; simp [FR.bl])
  have i0 : IntKind.i64.wrap ((r.dat.length : Int) - (k : Int)) = (r.dat.length : Int) - (k : Int) := IntWalk.i64_in _ (by omega)
  have i1 : IntKind.i64.wrap ((u : Int) - ((r.dat.length : Int) - (k : Int))) = (u : Int) - ((r.dat.length : Int) - (k : Int)) := IntWalk.i64_in _ (by omega)
  have hsl : ∀ w, (Instr.slice 30 (.slice r.A r.dat.length r.c) none (some (.int .i64 (k : Int))) none).run Try.prog w = .ok (.slice r.A k r.c) w :=
    cut_h Try.underlying30 elem_bytes size_u8 r.A (m := k) (by have := hfa.2.1.cap; omega)
  go_enter Try.func47, Try.ntmps47
  go_wp2
  go_region
  obtain ⟨W, hW⟩ : ∃ W, W = (w.setCell ⟨p, 2, none⟩ (.int .i64 ((u : Int) - ((r.dat.length : Int) - (k : Int))))).drew := ⟨_, rfl⟩
  rw [← hW]
  have hnil : r.A = none → r.c = 0 := fun e => (hfa.2.1.nil_of (by rw [e]; rfl)).2.2
  have hf1 : Fr w W [p] := by rw [hW]; exact (Fr.set w p 2 _).drewN 1
  have hD1 : DskR W p m rs room ((u : Int) - ((r.dat.length : Int) - (k : Int))) left dead armed := h.turn hf1 (by rw [hW]; exact heap_setCell_same _ _ _ _ _ _ h.1)
  have hsz1 := hf1.size
  have hrd : Rd W r.A k (r.dat.take k) := by
    have h1 := (hD1.2.2.1 r hr).2.1.rd.cut (k := 0) (m := k) (cap := r.c) (by omega) (by omega) (by have := hfa.2.1.cap; omega)
    rw [List.drop_zero, Nat.sub_zero] at h1
    by_cases hk0 : k = 0
    · subst hk0; exact Rd.nil _ _
    · have e : cutA r.A 0 r.c = r.A := by
        unfold cutA
        rw [if_neg (by have := hfa.2.1.cap; omega)]
        cases r.A <;> simp [Addr.add]
      rw [e] at h1
      exact h1
  have e1 : ((u : Int) - ((r.dat.length : Int) - (k : Int))) = ((u - (r.dat.length - k) : Nat) : Int) := by omega
  rw [e1] at hD1
  have HE1 := Lib.hid e1
  clear hW h hfa c0 c1 c2 c3 c4 c5 d0 d1 f2 i0 i1 e1
  obtain ⟨d0, _⟩ := (hD1.2.2.1 r hr).cells
  go_wp2_with fail
  refine (Clone_any r.A k r.c (r.dat.take k) _ hrd (by omega) hnil).mono ?_
  rintro e w2 ⟨A', n', c', rfl, ho, hb⟩
  have hD2 := hD1.fr (Fr.of_below hb []) (fun b _ h => by cases h)
  have hfa2 := hD2.2.2.1 r hr
  clear d0
  obtain ⟨d0, d1⟩ := hfa2.cells
  have g0 := hfa2.thaw 0
  have g1 := hfa2.thaw 1
  have hln : (r.dat.take k).length = k := by rw [List.length_take]; omega
  obtain rfl : n' = k := by rw [← ho.len, hln]
  obtain ⟨r', hr'⟩ : ∃ r' : FR, r' = { r with dat := r.dat.take n', saf := n', A := A', c := c' } := ⟨_, rfl⟩
  obtain ⟨w4, hw4⟩ : ∃ w4, w4 = (w2.setCell ⟨r.fb, 0, none⟩ (.slice A' n' c')).setCell ⟨r.fb, 1, none⟩ (.int .i64 (n' : Int)) := ⟨_, rfl⟩
  have hfl : r.fb < W.heap.size := (Array.getElem?_eq_some_iff.1 (hD1.2.2.1 r hr).1).1
  have hbs := hb.size
  have hkA : blk A' ≠ some r.fb := fun e => by have := (ho.lt r.fb e).1; omega
  have hf4 : Fr w2 w4 [r.fb] := by
    rw [hw4]
    exact (Fr.set w2 r.fb 0 _).trans (Fr.set _ r.fb 1 _) (fun b hb => .inl hb)
  have hat : FileAt w4 r' := by
    refine ⟨?_, ?_, ?_⟩
    · rw [hw4, hr']
      show _ = some (Obj.cells #[.slice A' (r.dat.take n').length c', .int .i64 (n' : Int)] _ _)
      rw [hln, heap_setCell_same _ _ _ _ _ _ (heap_setCell_same _ _ _ _ _ _ hfa2.1)]
      rfl
    · rw [hr']
      show Own 5 w4 0 A' (r.dat.take n').length c' (r.dat.take n')
      rw [hln]
      exact (ho.mono (Nat.zero_le _)).fr hf4 (fun b hb hm => hkA (by rw [List.mem_singleton] at hm; rw [hb, hm]))
    · rw [hr']
      show n' ≤ (r.dat.take n').length
      omega
  have hbl : ∀ b ∈ r'.bl, b ∈ r.bl ∨ w2.heap.size ≤ b ∨ W.heap.size ≤ b := fun b hb => by
    rw [hr'] at hb
    simp only [FR.bl, List.mem_cons, Option.mem_toList] at hb ⊢
    rcases hb with hb | hb
    · exact .inl (.inl hb)
    · exact .inr (.inr (ho.lt b hb).1)
  have hfW : Fr W w4 r.bl := (Fr.of_below hb r.bl).trans hf4 (fun b hb => .inl (by rw [List.mem_singleton] at hb; rw [hb]; simp [FR.bl]))
  have hbl2 : ∀ b ∈ r'.bl, b ∈ r.bl ∨ W.heap.size ≤ b := fun b hb => by
    rcases hbl b hb with h1 | h1 | h1
    · exact .inl h1
    · exact .inr (by omega)
    · exact .inr h1
  have hfin : RetFile w p m rs r (r.dat.take n') n' room ((u - (r.dat.length - n') : Nat) : Int) left dead armed (.tuple #[]) (.returned (.tuple #[])) w4 := by
    refine ⟨rfl, r', by rw [hr'], by rw [hr'], by rw [hr'], hD1.file hu hr (by rw [hr']) (by rw [hr']) hfW hat hbl2 (by rw [hr']; exact hkA), ?_, fun b hb => ?_⟩
    · have f1 : Fr w W (allB p m rs) := hf1.mono (fun b hb => .inl (by rw [List.mem_singleton] at hb; rw [hb]; exact mem_head))
      exact f1.trans hfW (fun b hb => .inl (mem_file hr hb))
    · rcases mem_putR (p := p) (m := m) (w := W) hu hr hbl2 b hb with h1 | h1
      · exact .inl h1
      · exact .inr (by omega)
  have HFIN := Lib.hid hfin
  have HW4 := Lib.hid hw4
  clear hfin hw4 hat hbl hbl2 hfW hf4 hr' hD2 hD1 hfa2 ho hb hrd hf1 hln hbs hkA
  go_wp2
  go_end0
  rw [← HW4.out]
  exact HFIN.out
end

/-- The files but one. -/
def delR (x : List UInt8) (rs : List FR) : List FR := rs.filter fun q => q.name != x
def delF (x : List UInt8) (fs : List FE) : List FE := fs.filter fun q => q.1 != x
theorem delR_val (x : List UInt8) (rs : List FR) : (delR x rs).map FR.val = delF x (rs.map FR.val) := by
  unfold delR delF
  rw [List.filter_map]
  rfl
theorem mem_delR {x : List UInt8} {rs : List FR} {q : FR} : q ∈ delR x rs ↔ q ∈ rs ∧ q.name ≠ x := by
  unfold delR
  rw [List.mem_filter]
  simp
theorem delR_len {r : FR} : ∀ {rs : List FR}, rsUp rs → r ∈ rs → (delR r.name rs).length + 1 = rs.length
  | [], _, h => by cases h
  | a :: t, hu, h => by
    unfold rsUp at hu
    rw [List.pairwise_cons] at hu
    rcases List.mem_cons.1 h with rfl | h2
    · have e : delR r.name (r :: t) = t := by
        unfold delR
        rw [List.filter_cons_of_neg (by simp), List.filter_eq_self]
        intro q hq
        have := nlt_ne (hu.1 q hq)
        simpa using fun e => this e.symm
      rw [e, List.length_cons]
    · have hne := nlt_ne (hu.1 r h2)
      have e : delR r.name (a :: t) = a :: delR r.name t := by
        unfold delR
        rw [List.filter_cons_of_pos (by simpa using hne)]
      rw [e, List.length_cons, List.length_cons, delR_len hu.2 h2]
theorem delR_up {x : List UInt8} {rs : List FR} (h : rsUp rs) : rsUp (delR x rs) := List.Pairwise.filter _ h
theorem delR_any (x y : List UInt8) (rs : List FR) : (delR x rs).any (fun q => q.name == y) = (rs.any (fun q => q.name == y) && !(y == x)) := by
  rw [Bool.eq_iff_iff]
  simp only [List.any_eq_true, Bool.and_eq_true, beq_iff_eq, mem_delR, Bool.not_eq_true', beq_eq_false_iff_ne]
  constructor
  · rintro ⟨q, ⟨h1, h2⟩, rfl⟩
    exact ⟨⟨q, h1, rfl⟩, h2⟩
  · rintro ⟨⟨q, h1, rfl⟩, h2⟩
    exact ⟨q, ⟨h1, h2⟩, rfl⟩
theorem MR.del {Dm : DU} {rs : List FR} {r : FR} (h : MR Dm rs) (ht : Tidy Dm) (hu : rsUp rs) (hr : r ∈ rs) : MR (Dm.del (.string r.name)) (delR r.name rs) := by
  have hhas : has Dm (.string r.name) = true := by
    rw [h.2.1, List.any_eq_true]
    exact ⟨r, hr, by simp⟩
  refine ⟨?_, fun x => ?_, fun q hq z => ?_⟩
  · have h1 := size_del (k := .string r.name) ht
    rw [hhas, if_pos rfl, h.1] at h1
    have h2 := delR_len hu hr
    omega
  · rw [delR_any]
    by_cases e : x = r.name
    · subst e
      rw [has_del_same]
      simp
    · rw [has_del_other (by intro e2; injection e2 with e2; exact e e2), h.2.1]
      simp [e]
  · rw [mem_delR] at hq
    rw [atKey_del_other (by intro e2; injection e2 with e2; exact hq.2 e2)]
    exact h.2.2 q hq.1 z
theorem owns_tight {w : World} {b n : Nat} {Dm : DU} (h : w.ownsMap Try.prog 9 ptrEl b n Dm) : w.ownsMap Try.prog 9 ptrEl b (Maps.size Dm) Dm := by
  obtain ⟨es, clock, h1, h2, h3, h4⟩ := h
  refine ⟨es, clock, h1, h2, ?_, h4⟩
  rw [h4, Maps.size_eq, length_sorted]
  simp

section
variable {w w' : World} {p : Nat} {m : Option Nat} {rs : List FR} {room used left : Int} {dead armed : Bool}
theorem mem_delB {x : List UInt8} {b : Nat} (h : b ∈ allB p m (delR x rs)) : b ∈ allB p m rs := by
  simp only [allB, List.mem_cons, List.mem_append, List.mem_flatMap, mem_delR] at h ⊢
  rcases h with h | h | ⟨q, ⟨hq, _⟩, h⟩
  · exact .inl h
  · exact .inr (.inl h)
  · exact .inr (.inr ⟨q, hq, h⟩)
/-- The disk behind a delete of the map's. -/
theorem DskR.del {r : FR} {b : Nat} {Dm : DU} (h : DskR w p (some b) rs room used left dead armed) (hu : rsUp rs) (hr : r ∈ rs) (ho : w'.ownsMap Try.prog 9 ptrEl b rs.length (Dm.del (.string r.name))) (hm : MR Dm rs) (ht : Tidy Dm) (hg : w.grownBy w' (some b)) :
    DskR w' p (some b) (delR r.name rs) room used left dead armed := by
  obtain ⟨h1, h2, h3, h4, h5, h6⟩ := h
  have hf : Fr w w' [b] := Fr.of_grown hg (fun c hc => by injection hc with hc; rw [hc]; exact List.mem_singleton.2 rfl)
  have hM := hm.del ht hu hr
  refine ⟨(hf.block p (Array.getElem?_eq_some_iff.1 h1).1 (fun hmem => h5 b rfl (by rw [List.mem_singleton] at hmem; exact hmem.symm))).trans h1, .inr ⟨b, _, rfl, by rw [← hM.1]; exact owns_tight ho, hM⟩, fun q hq => ?_, fun q hq => h4 q (mem_delR.1 hq).1, h5, List.Pairwise.filter _ h6⟩
  exact (h3 q (mem_delR.1 hq).1).fr hf (fun c hc hmem => (h4 q (mem_delR.1 hq).1).2.1 b rfl (by rw [List.mem_singleton] at hmem; rw [← hmem]; exact hc))

/-- 'The disk without the file.' -/
def RetDel (w : World) (p : Nat) (m : Option Nat) (rs : List FR) (x : List UInt8) (room used left : Int) (dead armed : Bool) (v : Value) (e : Ending) (w' : World) : Prop :=
  e = .returned v ∧ DskR w' p m (delR x rs) room used left dead armed ∧ Fr w w' (allB p m rs)
set_option maxRecDepth 100000 in
set_option maxHeartbeats 1000000 in
theorem drop_none (x : List UInt8) (h : DskR w p m rs room used left dead armed) (hx : ∀ r ∈ rs, r.name ≠ x) (hl : x.length ≤ maxLen) :
    Calls Try.prog 53 #[.pointer (some ⟨p, 0, none⟩), .string (tx x)] w fun e w' => e = .returned (.tuple #[]) ∧ w = w' := by
  obtain ⟨c0, c1, c2, c3, c4, c5⟩ := h.head
  have hlk := h.2.1.look_none hx hl
  clear hx hl
  go_enter Try.func53, Try.ntmps53
  go_wp2
  go_end0
  exact ⟨rfl, rfl⟩
set_option maxRecDepth 100000 in
set_option maxHeartbeats 2000000 in
theorem drop_some {r : FR} (u : Nat) (h : DskR w p m rs room (u : Int) left dead armed) (hu : rsUp rs) (hr : r ∈ rs) (hl : r.name.length ≤ maxLen) (hru : r.dat.length ≤ u) (hu2 : u ≤ 9223372036854775807) :
    Calls Try.prog 53 #[.pointer (some ⟨p, 0, none⟩), .string (tx r.name)] w (RetDel w p m rs r.name room ((u - r.dat.length : Nat) : Int) left dead armed (.tuple #[])) := by
  obtain ⟨c0, c1, c2, c3, c4, c5⟩ := h.head
  have hlk := h.2.1.look_some hr hl
  have hfa := h.2.2.1 r hr
  obtain ⟨d0, d1⟩ := hfa.cells
  have f2 := h.thaw 2
  have hpf : p ≠ r.fb := fun e => (h.2.2.2.1 r hr).1 (by rw [e]; simp [FR.bl])
  have i1 : IntKind.i64.wrap ((u : Int) - (r.dat.length : Int)) = (u : Int) - (r.dat.length : Int) := IntWalk.i64_in _ (by omega)
  have hkey := keyN hl
  go_enter Try.func53, Try.ntmps53
  go_wp2
  go_region
  obtain ⟨W, hW⟩ : ∃ W, W = (w.setCell ⟨p, 2, none⟩ (.int .i64 ((u : Int) - (r.dat.length : Int)))).drew := ⟨_, rfl⟩
  rw [← hW]
  have hf1 : Fr w W [p] := by rw [hW]; exact (Fr.set w p 2 _).drewN 1
  have hD1 : DskR W p m rs room ((u : Int) - (r.dat.length : Int)) left dead armed := h.turn hf1 (by rw [hW]; exact heap_setCell_same _ _ _ _ _ _ h.1)
  have hf1 : Fr w W (allB p m rs) := hf1.mono (fun b hb => .inl (by rw [List.mem_singleton] at hb; rw [hb]; exact mem_head))
  have e1 : ((u : Int) - (r.dat.length : Int)) = ((u - r.dat.length : Nat) : Int) := by omega
  rw [e1] at hD1
  clear hW h hfa c0 c1 c2 c3 c4 c5 d0 d1 f2 i1 hlk e1
  have hM := hD1.2.1
  rcases hM with ⟨_, rfl⟩ | ⟨b, Dm, rfl, ho, hm⟩
  · cases hr
  obtain ⟨c0, _⟩ := hD1.head
  go_wp2_with (at_delete; refine wpList_delete_own _ rfl _ _ 24 9 rfl 65 lawN Try.underlying24 _ b rs.length Dm rfl ho _ _ rfl hkey ?_)
  intro w2 ho2 hturn
  have hfin : RetDel w p (some b) rs r.name room ((u - r.dat.length : Nat) : Int) left dead armed (.tuple #[]) (.returned (.tuple #[])) w2 := by
    refine ⟨rfl, hD1.del hu hr ho2 hm (ho.tidy lawN) hturn.grown, ?_⟩
    exact hf1.trans (Fr.of_grown (bl := [b]) hturn.grown (fun c hc => by injection hc with hc; rw [hc]; exact List.mem_singleton.2 rfl)) (fun c hc => .inl (by rw [List.mem_singleton] at hc; rw [hc]; exact mem_map rfl))
  have HFIN := Lib.hid hfin
  clear hfin ho2 hturn hD1 ho hm hf1
  go_wp2
  go_end0
  exact HFIN.out
end
end Go.Proofs.Ytfffcpbldjoemaa
namespace Go.Proofs.Ytfffcpbldjoemaa
open Go Go.RowKit Go.Maps

section
variable {w : World} {p : Nat} {m : Option Nat} {rs : List FR} {room used left : Int} {dead armed : Bool}
/-- A call that asks for a file, where turn says no: a dead disk, no such file, the disk dies. -/
def RetNo (w : World) (k : Int) (e : Ending) (w' : World) : Prop := e = .returned (.int .i64 k) ∧ w = w'
theorem remove_dead (x : List UInt8) (h : DskR w p m rs room used left true armed) :
    Calls Try.prog 34 #[.pointer (some ⟨p, 0, none⟩), .string (tx x)] w (RetNo w 9) := by
  go_enter Try.func34, Try.ntmps34
  go_wp2_with fail
  refine (find_dead x h).mono ?_
  rintro e w' ⟨rfl, rfl⟩
  go_wp2_with fail
  refine (turn_err (p := p) (w := w) (e := 9) (by decide)).mono ?_
  rintro e w' ⟨rfl, rfl⟩
  go_wp2
  go_ret
  exact ⟨rfl, rfl⟩
theorem remove_none (x : List UInt8) (h : DskR w p m rs room used left false armed) (hx : ∀ r ∈ rs, r.name ≠ x) (hl : x.length ≤ maxLen) :
    Calls Try.prog 34 #[.pointer (some ⟨p, 0, none⟩), .string (tx x)] w (RetNo w 6) := by
  go_enter Try.func34, Try.ntmps34
  go_wp2_with fail
  refine (find_none x h hx hl).mono ?_
  rintro e w' ⟨rfl, rfl⟩
  go_wp2_with fail
  refine (turn_err (p := p) (w := w) (e := 6) (by decide)).mono ?_
  rintro e w' ⟨rfl, rfl⟩
  go_wp2
  go_ret
  exact ⟨rfl, rfl⟩
theorem remove_kill {r : FR} (h : DskR w p m rs room used 0 false true) (hr : r ∈ rs) (hl : r.name.length ≤ maxLen) :
    Calls Try.prog 34 #[.pointer (some ⟨p, 0, none⟩), .string (tx r.name)] w (RetHd w p (headV m room used 0 true false) (.int .i64 9)) := by
  go_enter Try.func34, Try.ntmps34
  go_wp2_with fail
  refine (find_some h hr hl).mono ?_
  rintro e w' ⟨rfl, rfl⟩
  go_wp2_with fail
  refine (turn_kill h).mono ?_
  rintro e w1 ⟨rfl, hH⟩
  go_wp2
  go_ret
  exact ⟨rfl, hH⟩
set_option maxRecDepth 100000 in
set_option maxHeartbeats 1000000 in
theorem remove_some {r : FR} (u : Nat) (h : DskR w p m rs room (u : Int) left false armed) (hu : rsUp rs) (hr : r ∈ rs) (hl : r.name.length ≤ maxLen) (hl2 : 0 ≤ left ∧ left ≤ 9223372036854775807) (ht : tE armed left = 0) (hru : r.dat.length ≤ u) (hu2 : u ≤ 9223372036854775807) :
    Calls Try.prog 34 #[.pointer (some ⟨p, 0, none⟩), .string (tx r.name)] w (RetDel w p m rs r.name room ((u - r.dat.length : Nat) : Int) (tL armed left) false armed (.int .i64 0)) := by
  obtain ⟨t1, t2⟩ := tE_done (dead := false) ht
  have hT := turn_zero h hl2
  rw [ht, t1, t2] at hT
  have HT := Lib.hid hT
  clear hT t1 t2 ht
  go_enter Try.func34, Try.ntmps34
  go_wp2_with fail
  refine (find_some h hr hl).mono ?_
  rintro e w' ⟨rfl, rfl⟩
  go_wp2_with fail
  refine HT.out.mono ?_
  clear HT
  rintro e w1 ⟨rfl, hH⟩
  have hD1 := h.turn hH.1 hH.2
  go_wp2_with fail
  refine (drop_some u hD1 hu hr hl hru hu2).mono ?_
  rintro e w2 ⟨rfl, hD2, hF2⟩
  have hfin : RetDel w p m rs r.name room ((u - r.dat.length : Nat) : Int) (tL armed left) false armed (.int .i64 0) (.returned (.int .i64 0)) w2 := by
    refine ⟨rfl, hD2, ?_⟩
    have f1 : Fr w w1 (allB p m rs) := hH.1.mono (fun b hb => .inl (by rw [List.mem_singleton] at hb; rw [hb]; exact mem_head))
    exact f1.trans hF2 (fun b hb => .inl hb)
  have HFIN := Lib.hid hfin
  clear hfin hD1 hD2 hF2 hH
  go_wp2
  go_ret
  exact HFIN.out

theorem cut_dead (x : List UInt8) (z : Int) (h : DskR w p m rs room used left true armed) :
    Calls Try.prog 23 #[.pointer (some ⟨p, 0, none⟩), .string (tx x), .int .i64 z] w (RetNo w 9) := by
  go_enter Try.func23, Try.ntmps23
  go_wp2_with fail
  refine (find_dead x h).mono ?_
  rintro e w' ⟨rfl, rfl⟩
  go_wp2_with fail
  refine (turn_err (p := p) (w := w) (e := 9) (by decide)).mono ?_
  rintro e w' ⟨rfl, rfl⟩
  go_wp2
  go_ret
  exact ⟨rfl, rfl⟩
theorem cut_none_arg (x : List UInt8) (z : Int) (h : DskR w p m rs room used left false armed) (hx : ∀ r ∈ rs, r.name ≠ x) (hl : x.length ≤ maxLen) (hz : z < 0) :
    Calls Try.prog 23 #[.pointer (some ⟨p, 0, none⟩), .string (tx x), .int .i64 z] w (RetNo w 1) := by
  have h1 : decide (z < 0) = true := by simpa using hz
  go_enter Try.func23, Try.ntmps23
  go_wp2_with fail
  refine (find_none x h hx hl).mono ?_
  rintro e w' ⟨rfl, rfl⟩
  go_wp2
  go_ret
  exact ⟨rfl, rfl⟩
theorem cut_none (x : List UInt8) (z : Int) (h : DskR w p m rs room used left false armed) (hx : ∀ r ∈ rs, r.name ≠ x) (hl : x.length ≤ maxLen) (hz : ¬ z < 0) :
    Calls Try.prog 23 #[.pointer (some ⟨p, 0, none⟩), .string (tx x), .int .i64 z] w (RetNo w 6) := by
  have h1 : decide (z < 0) = false := by simpa using hz
  go_enter Try.func23, Try.ntmps23
  go_wp2_with fail
  refine (find_none x h hx hl).mono ?_
  rintro e w' ⟨rfl, rfl⟩
  go_wp2_with fail
  refine (turn_err (p := p) (w := w) (e := 6) (by decide)).mono ?_
  rintro e w' ⟨rfl, rfl⟩
  go_wp2
  go_ret
  exact ⟨rfl, rfl⟩
set_option maxRecDepth 100000 in
set_option maxHeartbeats 1000000 in
theorem cut_arg {r : FR} (z : Int) (h : DskR w p m rs room used left false armed) (hr : r ∈ rs) (hl : r.name.length ≤ maxLen) (hz : z < 0 ∨ (r.dat.length : Int) < z) :
    Calls Try.prog 23 #[.pointer (some ⟨p, 0, none⟩), .string (tx r.name), .int .i64 z] w (RetNo w 1) := by
  obtain ⟨d0, _⟩ := (h.2.2.1 r hr).cells
  by_cases h0 : z < 0
  · have h1 : decide (z < 0) = true := by simpa using h0
    go_enter Try.func23, Try.ntmps23
    go_wp2_with fail
    refine (find_some h hr hl).mono ?_
    rintro e w' ⟨rfl, rfl⟩
    go_wp2
    go_ret
    exact ⟨rfl, rfl⟩
  · have h1 : decide (z < 0) = false := by simpa using h0
    have h2 : decide ((r.dat.length : Int) < z) = true := by
      rcases hz with hz | hz
      · exact absurd hz h0
      · simpa using hz
    go_enter Try.func23, Try.ntmps23
    go_wp2_with fail
    refine (find_some h hr hl).mono ?_
    rintro e w' ⟨rfl, rfl⟩
    go_wp2
    go_ret
    exact ⟨rfl, rfl⟩
set_option maxRecDepth 100000 in
set_option maxHeartbeats 1000000 in
theorem cut_kill {r : FR} (k : Nat) (h : DskR w p m rs room used 0 false true) (hr : r ∈ rs) (hl : r.name.length ≤ maxLen) (hk : k ≤ r.dat.length) :
    Calls Try.prog 23 #[.pointer (some ⟨p, 0, none⟩), .string (tx r.name), .int .i64 (k : Int)] w (RetHd w p (headV m room used 0 true false) (.int .i64 9)) := by
  obtain ⟨d0, _⟩ := (h.2.2.1 r hr).cells
  have h2 : decide (r.dat.length < k) = false := by simp; omega
  go_enter Try.func23, Try.ntmps23
  go_wp2_with fail
  refine (find_some h hr hl).mono ?_
  rintro e w' ⟨rfl, rfl⟩
  go_wp2_with fail
  refine (turn_kill h).mono ?_
  rintro e w1 ⟨rfl, hH⟩
  go_wp2
  go_ret
  exact ⟨rfl, hH⟩
set_option maxRecDepth 100000 in
set_option maxHeartbeats 1000000 in
theorem cut_some {r : FR} (k u : Nat) (h : DskR w p m rs room (u : Int) left false armed) (hu : rsUp rs) (hr : r ∈ rs) (hl : r.name.length ≤ maxLen) (hl2 : 0 ≤ left ∧ left ≤ 9223372036854775807) (ht : tE armed left = 0) (hk : k ≤ r.dat.length) (hru : r.dat.length ≤ u) (hu2 : u ≤ 9223372036854775807)
    (hd : r.dat.length ≤ 1099511627776) :
    Calls Try.prog 23 #[.pointer (some ⟨p, 0, none⟩), .string (tx r.name), .int .i64 (k : Int)] w
      (RetFile w p m rs r (r.dat.take k) k room ((u - (r.dat.length - k) : Nat) : Int) (tL armed left) false armed (.int .i64 0)) := by
  obtain ⟨t1, t2⟩ := tE_done (dead := false) ht
  have hT := turn_zero h hl2
  rw [ht, t1, t2] at hT
  have HT := Lib.hid hT
  clear hT t1 t2 ht
  obtain ⟨d0, _⟩ := (h.2.2.1 r hr).cells
  have h2 : decide (r.dat.length < k) = false := by simp; omega
  go_enter Try.func23, Try.ntmps23
  go_wp2_with fail
  refine (find_some h hr hl).mono ?_
  rintro e w' ⟨rfl, rfl⟩
  go_wp2_with fail
  refine HT.out.mono ?_
  clear HT
  rintro e w1 ⟨rfl, hH⟩
  have hD1 := h.turn hH.1 hH.2
  go_wp2_with fail
  refine (shorten_any k u hD1 hu hr hk hru hu2 hd).mono ?_
  rintro e w2 ⟨rfl, r', hn, hd', hs, hD2, hF2, hB2⟩
  have hfin : RetFile w p m rs r (r.dat.take k) k room ((u - (r.dat.length - k) : Nat) : Int) (tL armed left) false armed (.int .i64 0) (.returned (.int .i64 0)) w2 := by
    refine ⟨rfl, r', hn, hd', hs, hD2, ?_, fun b hb => ?_⟩
    · have f1 : Fr w w1 (allB p m rs) := hH.1.mono (fun b hb => .inl (by rw [List.mem_singleton] at hb; rw [hb]; exact mem_head))
      exact f1.trans hF2 (fun b hb => .inl hb)
    · rcases hB2 b hb with h1 | h1
      · exact .inl h1
      · exact .inr (Nat.le_trans hH.1.size h1)
  have HFIN := Lib.hid hfin
  clear hfin hD1 hD2 hF2 hH hB2 hn hd' hs
  go_wp2
  go_ret
  exact HFIN.out
end
end Go.Proofs.Ytfffcpbldjoemaa
namespace Go.Proofs.Ytfffcpbldjoemaa
open Go Go.RowKit Go.Maps

/-- How many bytes the file of this name has. -/
def lenR (x : List UInt8) (rs : List FR) : Nat := ((rs.filter fun q => q.name == x).map fun q => q.dat.length).sum
theorem lenR_none {x : List UInt8} {rs : List FR} (h : ∀ r ∈ rs, r.name ≠ x) : lenR x rs = 0 ∧ delR x rs = rs := by
  constructor
  · unfold lenR
    rw [List.filter_eq_nil_iff.2 (fun q hq => by simpa using h q hq)]
    rfl
  · unfold delR
    rw [List.filter_eq_self]
    intro q hq
    simpa using h q hq
theorem lenR_some {r : FR} : ∀ {rs : List FR}, rsUp rs → r ∈ rs → lenR r.name rs = r.dat.length
  | [], _, h => by cases h
  | a :: t, hu, h => by
    unfold rsUp at hu
    rw [List.pairwise_cons] at hu
    rcases List.mem_cons.1 h with rfl | h2
    · have e := (lenR_none (x := r.name) (rs := t) (fun q hq e => nlt_ne (hu.1 q hq) e.symm)).1
      unfold lenR at e ⊢
      rw [List.filter_cons_of_pos (by simp), List.map_cons, List.sum_cons, e]
      rfl
    · have hne := nlt_ne (hu.1 r h2)
      have e := lenR_some hu.2 h2
      unfold lenR at e ⊢
      rw [List.filter_cons_of_neg (by simpa using hne)]
      exact e

section
variable {w : World} {p : Nat} {m : Option Nat} {rs : List FR} {room used left : Int} {dead armed : Bool}
theorem drop_any (x : List UInt8) (u : Nat) (h : DskR w p m rs room (u : Int) left dead armed) (hu : rsUp rs) (hl : x.length ≤ maxLen) (hru : lenR x rs ≤ u) (hu2 : u ≤ 9223372036854775807) :
    Calls Try.prog 53 #[.pointer (some ⟨p, 0, none⟩), .string (tx x)] w (RetDel w p m rs x room ((u - lenR x rs : Nat) : Int) left dead armed (.tuple #[])) := by
  by_cases hex : ∃ r ∈ rs, r.name = x
  · obtain ⟨r, hr, rfl⟩ := hex
    rw [lenR_some hu hr] at hru ⊢
    exact drop_some u h hu hr hl hru hu2
  · have hno : ∀ r ∈ rs, r.name ≠ x := fun r hr e => hex ⟨r, hr, e⟩
    obtain ⟨e1, e2⟩ := lenR_none hno
    refine (drop_none x h hno hl).mono ?_
    rintro e w' ⟨rfl, rfl⟩
    refine ⟨rfl, ?_, Fr.refl _ _⟩
    rw [e1, e2, Nat.sub_zero]
    exact h

/-- 'The disk with the file under its new name.' -/
def RetRen (w : World) (p : Nat) (m : Option Nat) (rs rs2 : List FR) (x : List UInt8) (dat : List UInt8) (saf : Nat) (room used left : Int) (dead armed : Bool) (v : Value) (e : Ending) (w' : World) : Prop :=
  e = .returned v ∧ ∃ (r' : FR) (m' : Option Nat), r'.name = x ∧ r'.dat = dat ∧ r'.saf = saf ∧ DskR w' p m' (putR r' rs2) room used left dead armed ∧ Fr w w' (allB p m rs) ∧ ∀ b ∈ allB p m' (putR r' rs2), b ∈ allB p m rs ∨ w.heap.size ≤ b
theorem rename_dead (x y : List UInt8) (h : DskR w p m rs room used left true armed) :
    Calls Try.prog 33 #[.pointer (some ⟨p, 0, none⟩), .string (tx x), .string (tx y)] w (RetNo w 9) := by
  go_enter Try.func33, Try.ntmps33
  go_wp2_with fail
  refine (find_dead x h).mono ?_
  rintro e w' ⟨rfl, rfl⟩
  go_wp2_with fail
  refine (turn_err (p := p) (w := w) (e := 9) (by decide)).mono ?_
  rintro e w' ⟨rfl, rfl⟩
  go_wp2
  go_ret
  exact ⟨rfl, rfl⟩
theorem rename_none (x y : List UInt8) (h : DskR w p m rs room used left false armed) (hx : ∀ r ∈ rs, r.name ≠ x) (hl : x.length ≤ maxLen) :
    Calls Try.prog 33 #[.pointer (some ⟨p, 0, none⟩), .string (tx x), .string (tx y)] w (RetNo w 6) := by
  go_enter Try.func33, Try.ntmps33
  go_wp2_with fail
  refine (find_none x h hx hl).mono ?_
  rintro e w' ⟨rfl, rfl⟩
  go_wp2_with fail
  refine (turn_err (p := p) (w := w) (e := 6) (by decide)).mono ?_
  rintro e w' ⟨rfl, rfl⟩
  go_wp2
  go_ret
  exact ⟨rfl, rfl⟩
theorem rename_kill {r : FR} (y : List UInt8) (h : DskR w p m rs room used 0 false true) (hr : r ∈ rs) (hl : r.name.length ≤ maxLen) :
    Calls Try.prog 33 #[.pointer (some ⟨p, 0, none⟩), .string (tx r.name), .string (tx y)] w (RetHd w p (headV m room used 0 true false) (.int .i64 9)) := by
  go_enter Try.func33, Try.ntmps33
  go_wp2_with fail
  refine (find_some h hr hl).mono ?_
  rintro e w' ⟨rfl, rfl⟩
  go_wp2_with fail
  refine (turn_kill h).mono ?_
  rintro e w1 ⟨rfl, hH⟩
  go_wp2
  go_ret
  exact ⟨rfl, hH⟩
theorem txl (a : List UInt8) : (tx a).toList = a := by rw [ByteArray.toList_eq, tx_list]
theorem tx_ne {a b : List UInt8} (h : a ≠ b) : ((tx a).toList == (tx b).toList) = false := by
  rw [txl, txl, beq_eq_false_iff_ne]
  exact h
set_option maxRecDepth 100000 in
set_option maxHeartbeats 1000000 in
theorem rename_same {r : FR} (h : DskR w p m rs room used left false armed) (hr : r ∈ rs) (hl : r.name.length ≤ maxLen) (hl2 : 0 ≤ left ∧ left ≤ 9223372036854775807) (ht : tE armed left = 0) :
    Calls Try.prog 33 #[.pointer (some ⟨p, 0, none⟩), .string (tx r.name), .string (tx r.name)] w (RetHd w p (headV m room used (tL armed left) false armed) (.int .i64 0)) := by
  obtain ⟨t1, t2⟩ := tE_done (dead := false) ht
  have hT := turn_zero h hl2
  rw [ht, t1, t2] at hT
  have HT := Lib.hid hT
  clear hT t1 t2 ht
  go_enter Try.func33, Try.ntmps33
  go_wp2_with fail
  refine (find_some h hr hl).mono ?_
  rintro e w' ⟨rfl, rfl⟩
  go_wp2_with fail
  refine HT.out.mono ?_
  clear HT
  rintro e w1 ⟨rfl, hH⟩
  go_wp2
  go_ret
  exact ⟨rfl, hH⟩
set_option maxRecDepth 100000 in
set_option maxHeartbeats 2000000 in
theorem rename_some {r : FR} (y : List UInt8) (u : Nat) (h : DskR w p m rs room (u : Int) left false armed) (hu : rsUp rs) (hr : r ∈ rs) (hl : r.name.length ≤ 1099511627776) (hly : y.length ≤ 1099511627776) (hl2 : 0 ≤ left ∧ left ≤ 9223372036854775807) (ht : tE armed left = 0) (hne : r.name ≠ y)
    (hru : lenR y rs ≤ u) (hu2 : u ≤ 9223372036854775807) (hrs : rs.length ≤ 1099511627776) :
    Calls Try.prog 33 #[.pointer (some ⟨p, 0, none⟩), .string (tx r.name), .string (tx y)] w
      (RetRen w p m rs (delR r.name (delR y rs)) y r.dat r.saf room ((u - lenR y rs : Nat) : Int) (tL armed left) false armed (.int .i64 0)) := by
  obtain ⟨t1, t2⟩ := tE_done (dead := false) ht
  have hT := turn_zero h hl2
  rw [ht, t1, t2] at hT
  have HT := Lib.hid hT
  clear hT t1 t2 ht
  go_enter Try.func33, Try.ntmps33
  go_wp2_with fail
  refine (find_some h hr (by unfold maxLen; omega)).mono ?_
  rintro e w' ⟨rfl, rfl⟩
  go_wp2_with fail
  refine HT.out.mono ?_
  clear HT
  rintro e w1 ⟨rfl, hH⟩
  have hD1 := h.turn hH.1 hH.2
  have hcmp := tx_ne hne
  have HNE := Lib.hid hne
  clear hne
  have f1 : Fr w w1 (allB p m rs) := hH.1.mono (fun b hb => .inl (by rw [List.mem_singleton] at hb; rw [hb]; exact mem_head))
  clear h hH
  go_wp2_with fail
  refine (drop_any y u hD1 hu (by unfold maxLen; omega) hru hu2).mono ?_
  rintro e w2 ⟨rfl, hD2, hF2⟩
  have hu2' := delR_up (x := y) hu
  have hr2 : r ∈ delR y rs := mem_delR.2 ⟨hr, HNE.out⟩
  have f2 : Fr w w2 (allB p m rs) := f1.trans hF2 (fun b hb => .inl hb)
  have hkey := keyN (x := r.name) (by unfold maxLen; omega)
  have hln : (delR y rs).length ≤ rs.length := List.length_filter_le _ _
  clear hD1 hF2 f1 hcmp
  obtain ⟨rs2, hrs2⟩ : ∃ rs2, rs2 = delR y rs := ⟨_, rfl⟩
  have hmr : ∀ b ∈ allB p m rs2, b ∈ allB p m rs := fun b hb => by rw [hrs2] at hb; exact mem_delB hb
  have hny : ∀ q ∈ rs2, q.name ≠ y := fun q hq => by rw [hrs2] at hq; exact (mem_delR.1 hq).2
  rw [← hrs2] at hD2 hu2' hr2 hln ⊢
  have HRS2 := Lib.hid hrs2
  have HMR := Lib.hid hmr
  have HNY := Lib.hid hny
  clear hrs2 hmr hny
  have hM := hD2.2.1
  rcases hM with ⟨_, hM⟩ | ⟨b, Dm, rfl, ho, hm⟩
  · rw [hM] at hr2; cases hr2
  obtain ⟨c0, _⟩ := hD2.head
  go_wp2_with (at_delete; refine wpList_delete_own _ rfl _ _ 24 9 rfl 65 lawN Try.underlying24 _ b rs2.length Dm rfl ho _ _ rfl hkey ?_)
  intro w3 ho3 hturn
  have hD3 := hD2.del hu2' hr2 ho3 hm (ho.tidy lawN) hturn.grown
  have hfb3 : Fr w2 w3 [b] := Fr.of_grown hturn.grown (fun c hc => by injection hc with hc; rw [hc]; exact List.mem_singleton.2 rfl)
  have f3 : Fr w w3 (allB p (some b) rs) := f2.trans hfb3 (fun c hc => .inl (by rw [List.mem_singleton] at hc; rw [hc]; exact mem_map rfl))
  have hsep := hD2.2.2.2
  have hfa3 : FileAt w3 r := (hD2.2.2.1 r hr2).fr hfb3 (fun c hc hmem => (hsep.1 r hr2).2.1 b rfl (by rw [List.mem_singleton] at hmem; rw [← hmem]; exact hc))
  have hu3 := delR_up (x := r.name) hu2'
  obtain ⟨r', hr'⟩ : ∃ r' : FR, r' = { r with name := y } := ⟨_, rfl⟩
  have hat : FileAt w3 r' := by rw [hr']; exact hfa3
  have hfr : ∀ c ∈ r'.bl, c ∉ allB p (some b) (delR r.name rs2) := fun c hc hmem => by
    have hc : c ∈ r.bl := by rw [hr'] at hc; exact hc
    simp only [allB, List.mem_cons, List.mem_append, List.mem_flatMap, Option.mem_toList] at hmem
    rcases hmem with rfl | hmem | ⟨q, hq, hmem⟩
    · exact (hsep.1 r hr2).1 hc
    · exact (hsep.1 r hr2).2.1 c hmem hc
    · obtain ⟨hq1, hq2⟩ := mem_delR.1 hq
      exact sp_of hsep.2.2 hu2' hr2 hq1 (fun e => hq2 e.symm) c hc hmem
  have hne' : blk r'.A ≠ some r'.fb := by rw [hr']; exact (hsep.1 r hr2).2.2
  have hl3 : (delR r.name rs2).length ≤ 1099511627776 := Nat.le_trans (List.length_filter_le _ _) (by omega)
  have hP := put_any r' hD3 (fun q hq => by rw [hr']; exact HNY.out q (mem_delR.1 hq).1) (by rw [hr']; exact hly) hl3
  have hn' : r'.name = y := by rw [hr']
  have hf' : r'.fb = r.fb := by rw [hr']
  rw [hn', hf'] at hP
  have HP := Lib.hid hP
  have HV := Lib.hid (show r'.name = y ∧ r'.dat = r.dat ∧ r'.saf = r.saf from by rw [hr']; exact ⟨rfl, rfl, rfl⟩)
  have HAT := Lib.hid hat
  have HFR := Lib.hid hfr
  have HNE' := Lib.hid hne'
  have HD3 := Lib.hid hD3
  have HF3 := Lib.hid f3
  have HBL : Hid (∀ c ∈ r'.bl, c ∈ allB p (some b) rs) := Lib.hid (fun c hc => HMR.out c (mem_file hr2 (by rw [hr'] at hc; exact hc)))
  clear hP hat hfr hne' hD3 f3 hr' hn' hf' ho3 hturn ho hm hsep hfa3 hfb3 f2 hD2 hkey
  go_wp2_with fail
  refine HP.out.mono ?_
  clear HP
  rintro e w4 hret
  obtain ⟨he, hret2⟩ := hret
  subst he
  obtain ⟨mb, hD4, hF4, hmb⟩ := HD3.out.put hu3 ⟨rfl, hret2⟩ HAT.out HFR.out HNE'.out
  have hF : Fr w w4 (allB p (some b) rs) := HF3.out.trans hF4 (fun c hc => .inl (by
    simp only [List.mem_cons, Option.mem_toList, allB, List.mem_append] at hc ⊢
    rcases hc with hc | hc
    · exact .inl hc
    · exact .inr (.inl hc)))
  have hB : ∀ c ∈ allB p (some mb) (putR r' (delR r.name rs2)), c ∈ allB p (some b) rs ∨ w.heap.size ≤ c := fun c hc => by
    simp only [allB, List.mem_cons, List.mem_append, List.mem_flatMap, Option.mem_toList] at hc
    rcases hc with rfl | hc | ⟨q, hq, hc⟩
    · exact .inl mem_head
    · cases hc
      rcases hmb with h1 | h1
      · injection h1 with h1; exact .inl (by rw [← h1]; exact mem_map rfl)
      · exact .inr (Nat.le_trans HF3.out.size h1)
    · rcases putR_sub2 hu3 q hq with rfl | ⟨hq, _⟩
      · exact .inl (HBL.out c hc)
      · exact .inl (HMR.out c (mem_file (mem_delR.1 hq).1 hc))
  have HF := Lib.hid hF
  have HB := Lib.hid hB
  have HD4 := Lib.hid hD4
  clear hret2 hF4 hmb hF hB hD4
  go_wp2
  go_ret
  rw [← HRS2.out]
  exact ⟨rfl, r', some mb, HV.out.1, HV.out.2.1, HV.out.2.2, HD4.out, HF.out, HB.out⟩
end
end Go.Proofs.Ytfffcpbldjoemaa
namespace Go.Proofs.Ytfffcpbldjoemaa
open Go Go.RowKit Go.Maps Go.Proofs

def nmR (pre : List UInt8) (rs : List FR) : List (List UInt8) := (rs.map FR.name).filter fun x => Lib.hasPrefix x pre
theorem nmR_up {pre : List UInt8} {rs : List FR} (h : rsUp rs) : (nmR pre rs).Pairwise fun a b => a < b := by
  unfold nmR
  refine List.Pairwise.filter _ ?_
  rw [List.pairwise_map]
  exact h
theorem nmR_sort {pre : List UInt8} {rs : List FR} {zs : List (List UInt8)} (h : rsUp rs) (hn : zs.Nodup) (hm : ∀ x, x ∈ zs ↔ x ∈ nmR pre rs) : zs.mergeSort (fun x y => decide (x ≤ y)) = nmR pre rs := by
  have hu := nmR_up (pre := pre) h
  have hp : List.Perm (zs.mergeSort (fun x y => decide (x ≤ y))) (nmR pre rs) :=
    (List.mergeSort_perm zs _).trans ((List.perm_ext_iff_of_nodup hn (hu.imp fun h => nlt_ne h)).2 hm)
  refine List.Perm.eq_of_pairwise (le := fun a b => a ≤ b) (fun a b _ _ h1 h2 => List.le_antisymm h1 h2) ?_ (hu.imp fun h => List.le_of_lt h) hp
  have := List.pairwise_mergeSort (le := fun x y : List UInt8 => decide (x ≤ y)) (fun a b c h1 h2 => by simp only [decide_eq_true_eq] at *; exact List.le_trans h1 h2) (fun a b => by simpa using List.le_total a b) zs
  exact this.imp (fun h => by simpa using h)

/-- 'It hands back a row of these names, new.' -/
def RetNm (w : World) (ns : List (List UInt8)) (e : Ending) (w' : World) : Prop :=
  ∃ A n c, e = .returned (.slice A n c) ∧ OwnV 9 w' w.heap.size A n c (ns.map encStr) ∧ Below w.heap.size w w'
theorem info_str : (Try.prog.info? 9).map (fun i => (i.zero, i.size, i.bytes)) = some (some (.string ⟨#[]⟩), 1, 16) := by kernel_rfl

section
variable {w : World} {p : Nat} {m : Option Nat} {rs : List FR} {room used left : Int} {dead armed : Bool}
set_option maxRecDepth 100000 in
set_option maxHeartbeats 4000000 in
theorem names_some {b : Nat} (pre : List UInt8) (h : DskR w p (some b) rs room used left dead armed) (hu : rsUp rs) (hrs : rs.length ≤ 1099511627776) (hnl : ∀ r ∈ rs, r.name.length ≤ 1099511627776) :
    Calls Try.prog 46 #[.pointer (some ⟨p, 0, none⟩), .string (tx pre)] w (RetNm w (nmR pre rs)) := by
  obtain ⟨c0, _⟩ := h.head
  obtain ⟨Dm, ho, hm⟩ : ∃ Dm, w.ownsMap Try.prog 9 ptrEl b rs.length Dm ∧ MR Dm rs := by
    rcases h.2.1 with ⟨h1, _⟩ | ⟨b', Dm, h1, h2, h3⟩
    · cases h1
    · injection h1 with h1
      subst h1
      exact ⟨Dm, h2, h3⟩
  have HM := Lib.hid hm
  have HNL := Lib.hid hnl
  have hbl := ho.lt
  clear hm hnl h
  go_enter Try.func46, Try.ntmps46
  go_wp2_with (at_range; refine wpList_range_own _ rfl _ 24 rfl 9 65 lawN Try.underlying24 _ b rs.length Dm rfl ho ?_)
  intro w1 hrg0 hg0 hs1
  have HR := Lib.hid hrg0
  have hs1' : w.heap.size < w1.heap.size := by omega
  clear hs1
  have hb1 : Below w.heap.size w w1 := (Below.refl _ _).grown hg0 (Nat.le_refl _) (fun k hk => by cases hk)
  clear hrg0 hg0 ho
  go_wp2
  go_loopw [5] (fun v wr => ∃ (A : Option Addr) (n c : Nat) (zs : List (List UInt8)) (lf : Lit → Bool) (cnt : Nat), v = .slice A n c ∧ OwnV 9 wr w1.heap.size A n c (zs.map encStr) ∧ zs.Nodup ∧ (∀ x, x ∈ zs ↔ x ∈ nmR pre rs ∧ lf (.string x) = false) ∧ n ≤ rs.length ∧ wr.ranges Try.prog 9 ptrEl b w.heap.size rs.length Dm lf cnt ∧ Below w.heap.size w wr ∧ w1.heap.size ≤ wr.heap.size) (fun _ wr => wr.rangeLeft b w.heap.size)
  case atStart =>
    refine ⟨none, 0, 0, [], _, _, rfl, OwnV.nil _ _ _, List.nodup_nil, fun x => ?_, Nat.zero_le _, HR.out, hb1, Nat.le_refl _⟩
    constructor
    · intro h; cases h
    · rintro ⟨h1, h2⟩
      unfold nmR at h1
      rw [List.mem_filter, List.mem_map] at h1
      obtain ⟨⟨r, hr, rfl⟩, _⟩ := h1
      rw [HM.out.2.1] at h2
      rw [List.any_eq_false] at h2
      exact absurd (h2 r hr) (by simp)
  case round =>
    clear HR hb1
    obtain ⟨A, n, c, zs, lf, cnt, rfl, hA, hnd, hzs, hnr, hrg, hbw, hsz⟩ := hrel
    have HZ := Lib.hid hzs
    have HND := Lib.hid hnd
    clear hzs hnd
    go_wp2_with (at_next; refine wpList_next_ranges _ rfl _ rfl 9 lawN ptrEl Value.string (fun q : Option Nat => Value.pointer (q.map fun b => ⟨b, 0, none⟩)) keyN_inv ptrEl_inv b w.heap.size rs.length Dm lf cnt rfl hrg ?_ ?_)
    · intro _ hl0
      have hall : ∀ x, x ∈ zs ↔ x ∈ nmR pre rs := fun x => by rw [HZ.out x, hl0]; simp
      have HS := Lib.hid (nmR_sort hu HND.out hall)
      clear hl0 hrg HZ hall
      have hln : zs.length = n := by have := hA.len; simpa using this
      rcases hA.2 with ⟨hnil, hn0⟩ | ⟨g, cap, cur, hsl, hbase, hblk, hc1, hc2, hc3, hc4⟩
      · injection hnil with hnil1 hnil2 hnil3
        subst hnil1 hnil3 hn0
        have hz0 : zs = [] := List.eq_nil_of_length_eq_zero hln
        subst hz0
        go_wp2_with fail
        refine (lib_slices_Sort_string_none none 0 _).mono ?_
        rintro e w' ⟨rfl, rfl⟩
        go_wp2
        go_ret
        refine ⟨none, 0, 0, rfl, ?_, hbw⟩
        rw [← HS.out, List.mergeSort_nil]
        exact OwnV.nil _ _ _
      · injection hsl with hsl1 _ hsl3
        subst hsl1 hsl3 hln
        have hgl := (Array.getElem?_eq_some_iff.1 hblk).1
        rw [Nat.mul_one] at hc4
        have hzl : zs.length < 4611686018427387904 := by omega
        have hfin : ∀ nd os, RetNm w (nmR pre rs) (.returned (.slice (some ⟨g, 0, none⟩) zs.length c)) (Go.Sort.grow (Go.Sort.putRow encStr (Sort.ahead wr nd) g 0 (zs.mergeSort fun x y => decide (x ≤ y)).toArray) os) := fun nd os => by
          refine ⟨some ⟨g, 0, none⟩, zs.length, c, rfl, ?_, hbw.grown (grownBy_sorted _) hbw.size (fun k hk => by injection hk with hk; omega)⟩
          rw [← HS.out]
          exact ownsRow_sorted (ss := zs) (List.length_mergeSort _) (by omega) hblk hc1 hc2 hc3
        have HF := Lib.hid hfin
        have hH := holds_of_block (ss := zs) hblk hc4
        have HH := Lib.hid hH
        clear hfin hH hc4 hblk hA HS
        go_wp2_with fail
        refine (lib_slices_Sort_string g 0 c zs _ HH.out hgl hzl).mono ?_
        rintro e w' ⟨rfl, nd, os, hw'⟩
        have hfin := HF.out nd os
        rw [← hw'] at hfin
        have HFIN := Lib.hid hfin
        clear hfin hw'
        go_wp2
        go_ret
        exact HFIN.out
    · intro x q kl y yp w4 cnt' hkey hlk hv hat hrg1 hlt hg1 hs4 hen
      obtain ⟨S, hS1, hS2, hS3⟩ := WideMaps.string_of_keyOf Try.underlying9 hkey
      injection hS1 with hS1
      subst hS1 hS2
      obtain ⟨X, rfl⟩ : ∃ X, x = tx X := ⟨x.data.toList, (tx_of x).symm⟩
      rw [tx_list] at hlk hrg1 hat
      have hhas : has Dm (.string X) = true := has_true_of_atKey hat
      rw [HM.out.2.1, List.any_eq_true] at hhas
      obtain ⟨r, hr, hrX⟩ := hhas
      have hrX : r.name = X := by simpa using hrX
      have hXl : X.length ≤ 1099511627776 := by rw [← hrX]; exact HNL.out r hr
      have hXm : X ∈ rs.map FR.name := List.mem_map.2 ⟨r, hr, hrX⟩
      have hXz : X ∉ zs := fun h => by rw [(HZ.out X).1 h |>.2] at hlk; cases hlk
      have hb4 : Below w.heap.size w w4 := hbw.grown hg1 hbw.size (fun k hk => by injection hk with hk; omega)
      have hA4 : OwnV 9 w4 w1.heap.size A n c (zs.map encStr) := hA.kept hg1 (fun b' hb' e => by injection e with e; have := (hA.lt b' hb').1; omega)
      have hmeas := hrg1.left_eq
      have hmeas0 := hrg.left_eq
      have hsame : ∀ z : List UInt8, (Lit.string z).sameKey (.string X) = (z == X) := fun z => by simp [Lit.sameKey]
      have hleft' : ∀ z : List UInt8, ((fun k => lf k && !k.sameKey (.string X)) (.string z) = false) ↔ (lf (.string z) = false ∨ z = X) := fun z => by
        show (lf (.string z) && !(Lit.string z).sameKey (.string X)) = false ↔ _
        rw [hsame, Bool.and_eq_false_iff]
        simp
      have hsiz : (tx X).size ≤ 281474976710656 := by rw [tx_size]; omega
      have HLT : Hid (cnt' < cnt) := Lib.hid hlt
      have HRG := Lib.hid hrg1
      have HM0 := Lib.hid hmeas0
      cases hpf : Lib.hasPrefix X pre with
      | false =>
        have hC : Hid (∀ W, Calls Try.prog 56 #[.string (tx X), .string (tx pre)] W fun e w' => e = .returned (.bool false) ∧ w' = W) := Lib.hid (fun W => by
          have h := lib_strings_HasPrefix (tx X) (tx pre) W
          rw [tx_list, tx_list, hpf] at h
          exact h)
        have hzs' : ∀ z, z ∈ zs ↔ z ∈ nmR pre rs ∧ (fun k => lf k && !k.sameKey (.string X)) (.string z) = false := fun z => by
          rw [hleft' z, HZ.out z]
          constructor
          · rintro ⟨h1, h2⟩; exact ⟨h1, .inl h2⟩
          · rintro ⟨h1, h2⟩
            refine ⟨h1, ?_⟩
            rcases h2 with h2 | rfl
            · exact h2
            · unfold nmR at h1
              rw [List.mem_filter, hpf] at h1
              exact absurd h1.2 (by decide)
        have HZ' := Lib.hid hzs'
        have HA4 := Lib.hid hA4
        have HB4 := Lib.hid hb4
        have HSZ4 : Hid (w1.heap.size ≤ w4.heap.size) := Lib.hid (by omega)
        clear hzs' hleft' hsame hA hA4 hb4 hrg hrg1 hg1 hat hv hkey hlk hmeas0 hXm hXz hpf HZ
        go_wp2_with fail
        refine (hC.out _).mono ?_
        rintro e w' ⟨rfl, rfl⟩
        go_wp2
        go_roundw
        case rel => exact ⟨A, n, c, zs, _, cnt', rfl, HA4.out, HND.out, HZ'.out, hnr, HRG.out, HB4.out, HSZ4.out⟩
        case measure => rw [hmeas, HM0.out]; exact HLT.out
      | true =>
        have hC : Hid (∀ W, Calls Try.prog 56 #[.string (tx X), .string (tx pre)] W fun e w' => e = .returned (.bool true) ∧ w' = W) := Lib.hid (fun W => by
          have h := lib_strings_HasPrefix (tx X) (tx pre) W
          rw [tx_list, tx_list, hpf] at h
          exact h)
        have hzs' : ∀ z, z ∈ zs ++ [X] ↔ z ∈ nmR pre rs ∧ (fun k => lf k && !k.sameKey (.string X)) (.string z) = false := fun z => by
          rw [hleft' z, List.mem_append, List.mem_singleton, HZ.out z]
          constructor
          · rintro (⟨h1, h2⟩ | rfl)
            · exact ⟨h1, .inl h2⟩
            · refine ⟨?_, .inr rfl⟩
              unfold nmR
              rw [List.mem_filter]
              exact ⟨hXm, hpf⟩
          · rintro ⟨h1, h2⟩
            rcases h2 with h2 | rfl
            · exact .inl ⟨h1, h2⟩
            · exact .inr rfl
        have hnd' : (zs ++ [X]).Nodup := by
          rw [List.nodup_append]
          exact ⟨HND.out, by simp, fun a ha b hb e => by rw [List.mem_singleton] at hb; rw [e, hb] at ha; exact hXz ha⟩
        have hlen' : n + 1 ≤ rs.length := by
          have h1 : (zs ++ [X]).length ≤ (nmR pre rs).length := List.Nodup.length_le_of_subset hnd' (fun z hz => ((hzs' z).1 hz).1)
          have h2 : (nmR pre rs).length ≤ rs.length := by
            unfold nmR
            exact Nat.le_trans (List.length_filter_le _ _) (by simp)
          have h3 : zs.length = n := by have := hA.len; simpa using this
          rw [List.length_append] at h1
          simp only [List.length_cons, List.length_nil] at h1
          omega
        have HZ' := Lib.hid hzs'
        have HND' := Lib.hid hnd'
        clear hzs' hnd' hleft' hsame hA hrg hrg1 hat hv hkey hlk hmeas0 hXm hXz hpf HZ HND hg1
        go_wp2_with fail
        refine (hC.out _).mono ?_
        rintro e w' ⟨rfl, rfl⟩
        go_wp2_with fail
        refine (Dclone _ _ hsiz).mono ?_
        rintro e w5 ⟨rfl, hb5⟩
        have hs5 := hb5.size
        have hG := hA4.below hb5
        go_wp2_with (at_builtin; refine wpList_app1 w5 rfl _ _ 82 rfl w1.heap.size 9 _ _ Try.underlying82 info_str rfl A n c (zs.map encStr) rfl hG (.string (tx X)) rfl w5.heap.size rfl rfl ?_ ?_ ?_ ?_)
        · unfold maxLen; omega
        · omega
        · omega
        intro A' c' w6 hA6 hg6 hk6
        have hrg6 := ((HRG.out.kept (w' := w5) (row := none) ⟨hb5.os, hb5.tape, hb5.output, hb5.size, fun k hk _ => hb5.block k hk⟩ (by simp) (by simp)).kept hg6 (fun e => by have := (hG.lt b e.symm).1; omega) (fun e => by have := (hG.lt _ e.symm).1; omega))
        have hb6 : Below w.heap.size w w6 := (hb4.trans (hb5.mono hb4.size)).grown hg6 (by have := hb4.size; omega) (fun k hk => by have := (hG.lt k hk).1; omega)
        have HA6 : Hid (OwnV 9 w6 w1.heap.size A' (n + 1) c' ((zs ++ [X]).map encStr)) := Lib.hid (by rw [List.map_append]; exact hA6)
        have HRG6 := Lib.hid hrg6
        have HB6 := Lib.hid hb6
        have hmeas6 := hrg6.left_eq
        have HSZ6 : Hid (w1.heap.size ≤ w6.heap.size) := Lib.hid (by have := hg6.size; omega)
        clear hA6 hg6 hk6 hG hb5 hrg6 hb6 hA4 hb4
        go_wp2
        go_roundw
        case rel => exact ⟨A', n + 1, c', zs ++ [X], _, cnt', rfl, HA6.out, HND'.out, HZ'.out, hlen', HRG6.out, HB6.out, HSZ6.out⟩
        case measure => rw [hmeas6, HM0.out]; exact HLT.out
set_option maxRecDepth 100000 in
set_option maxHeartbeats 2000000 in
theorem names_nil (pre : List UInt8) (h : DskR w p none rs room used left dead armed) :
    Calls Try.prog 46 #[.pointer (some ⟨p, 0, none⟩), .string (tx pre)] w (RetNm w (nmR pre rs)) := by
  obtain ⟨c0, _⟩ := h.head
  have hrs : rs = [] := by
    rcases h.2.1 with ⟨_, h2⟩ | ⟨b', Dm, h1, _⟩
    · exact h2
    · cases h1
  subst hrs
  have hrn := fun w => run_range_nilMap (P := Try.prog) w 24 9 65 Try.underlying24
  have hnx := fun w ty => run_next_nilMap (P := Try.prog) w ty 0 0 #[]
  go_enter Try.func46, Try.ntmps46
  go_wp2
  go_loopw [5] (fun v wr => v = .slice none 0 0 ∧ wr = w.alloc (.mapIter none 0 #[] 0)) (fun _ _ => 0)
  case atStart => exact ⟨rfl, rfl⟩
  case round =>
    obtain ⟨rfl, rfl⟩ := hrel
    go_wp2_with fail
    refine (lib_slices_Sort_string_none none 0 _).mono ?_
    rintro e w' ⟨rfl, rfl⟩
    go_wp2
    go_ret
    exact ⟨none, 0, 0, rfl, OwnV.nil _ _ _, (Below.refl _ _).alloc (Nat.le_refl _) _⟩
theorem names_any (pre : List UInt8) (h : DskR w p m rs room used left dead armed) (hu : rsUp rs) (hrs : rs.length ≤ 1099511627776) (hnl : ∀ r ∈ rs, r.name.length ≤ 1099511627776) :
    Calls Try.prog 46 #[.pointer (some ⟨p, 0, none⟩), .string (tx pre)] w (RetNm w (nmR pre rs)) := by
  cases m with
  | none => exact names_nil pre h
  | some b => exact names_some pre h hu hrs hnl
theorem list_dead (pre : List UInt8) (h : DskR w p m rs room used left true armed) :
    Calls Try.prog 38 #[.pointer (some ⟨p, 0, none⟩), .string (tx pre)] w (RetNm w []) := by
  obtain ⟨c0, c1, c2, c3, c4, c5⟩ := h.head
  go_enter Try.func38, Try.ntmps38
  go_wp2
  go_ret
  exact ⟨none, 0, 0, rfl, OwnV.nil _ _ _, Below.refl _ _⟩
theorem list_live (pre : List UInt8) (h : DskR w p m rs room used left false armed) (hu : rsUp rs) (hrs : rs.length ≤ 1099511627776) (hnl : ∀ r ∈ rs, r.name.length ≤ 1099511627776) :
    Calls Try.prog 38 #[.pointer (some ⟨p, 0, none⟩), .string (tx pre)] w (RetNm w (nmR pre rs)) := by
  obtain ⟨c0, c1, c2, c3, c4, c5⟩ := h.head
  go_enter Try.func38, Try.ntmps38
  go_wp2_with fail
  refine (names_any pre h hu hrs hnl).mono ?_
  rintro e w' ⟨A, n, c, rfl, ho, hb⟩
  go_wp2
  go_ret
  exact ⟨A, n, c, rfl, ho, hb⟩
end
end Go.Proofs.Ytfffcpbldjoemaa
namespace Go.Proofs.Ytfffcpbldjoemaa
open Go Go.RowKit Go.Maps

def keepN (ks : List Int) (k t : Nat) : Nat := match ks[k % ks.length]? with | none => 0 | some z => z.toNat % (t + 1)
theorem keepN_le (ks : List Int) (k t : Nat) : keepN ks k t ≤ t := by
  unfold keepN
  split
  · omega
  · have := Nat.mod_lt (Int.toNat ‹Int›) (show 0 < t + 1 by omega); omega
theorem keepN_nil (k t : Nat) : keepN [] k t = 0 := by simp [keepN]
theorem keepN_at {ks : List Int} {k t : Nat} {z : Int} (h : ks[k % ks.length]? = some z) : keepN ks k t = z.toNat % (t + 1) := by rw [keepN, h]
def cutE (ks : List Int) (k : Nat) (f : FE) : FE :=
  (f.1, f.2.1.take (f.2.2 + keepN ks k (f.2.1.length - f.2.2)), f.2.2 + keepN ks k (f.2.1.length - f.2.2))
def crStep (ks : List Int) (acc : List FE × Nat) (f : FE) : List FE × Nat :=
  if f.2.1.length = f.2.2 then (acc.1 ++ [f], acc.2) else (acc.1 ++ [cutE ks acc.2 f], acc.2 + 1)
def crP (ks : List Int) (l : List FE) : List FE × Nat := l.foldl (crStep ks) ([], 0)
theorem crP_snoc (ks : List Int) (l : List FE) (f : FE) : crP ks (l ++ [f]) = crStep ks (crP ks l) f := by rw [crP, List.foldl_append]; rfl
theorem crP_take {ks : List Int} {l : List FE} {i : Nat} {f : FE} (h : l[i]? = some f) : crP ks (l.take (i + 1)) = crStep ks (crP ks (l.take i)) f := by
  rw [List.take_add_one, h]
  exact crP_snoc ks _ f
theorem crP_zero (ks : List Int) : crP ks [] = ([], 0) := rfl
theorem crStep_ok (ks : List Int) (acc : List FE × Nat) (f : FE) : (crStep ks acc f).2 ≤ acc.2 + 1 ∧ (crStep ks acc f).1.map (·.1) = acc.1.map (·.1) ++ [f.1] := by
  unfold crStep
  split
  · exact ⟨by simp only; omega, by rw [List.map_append]; rfl⟩
  · exact ⟨Nat.le_refl _, by rw [List.map_append]; rfl⟩
theorem crP_fold (ks : List Int) : ∀ (l : List FE) (acc : List FE × Nat), (l.foldl (crStep ks) acc).2 ≤ acc.2 + l.length ∧ (l.foldl (crStep ks) acc).1.map (·.1) = acc.1.map (·.1) ++ l.map (·.1)
  | [], acc => ⟨Nat.le_refl _, by simp⟩
  | f :: t, acc => by
    have h1 := crStep_ok ks acc f
    have h2 := crP_fold ks t (crStep ks acc f)
    rw [List.foldl_cons, List.length_cons]
    exact ⟨by omega, by rw [h2.2, h1.2, List.append_assoc]; rfl⟩
theorem crP_cnt (ks : List Int) (l : List FE) : (crP ks l).2 ≤ l.length := by
  have := (crP_fold ks l ([], 0)).1
  simpa [crP] using this
theorem crP_names (ks : List Int) (l : List FE) : (crP ks l).1.map (·.1) = l.map (·.1) := by
  have := (crP_fold ks l ([], 0)).2
  simpa [crP] using this
theorem usedF_app (a b : List FE) : usedF (a ++ b) = usedF a + usedF b := by simp [usedF]
theorem usedF_cons (f : FE) (t : List FE) : usedF (f :: t) = f.2.1.length + usedF t := by simp [usedF]
theorem usedF_nil : usedF [] = 0 := rfl
theorem usedF_mem {f : FE} : ∀ {l : List FE}, f ∈ l → f.2.1.length ≤ usedF l
  | [], h => by cases h
  | a :: t, h => by
    rw [usedF_cons]
    rcases List.mem_cons.1 h with rfl | h
    · omega
    · have := usedF_mem h; omega
theorem risingF_names {a b : List FE} (h : a.map (·.1) = b.map (·.1)) (hb : risingF b) : risingF a := by
  have h1 : (b.map (·.1)).Pairwise fun x y => x < y := by rw [List.pairwise_map]; exact hb
  rw [← h, List.pairwise_map] at h1
  exact h1
/-- A file put in where one of that name stands. -/
theorem putF_mid {f g : FE} (e : g.1 = f.1) : ∀ {L R : List FE}, risingF (L ++ f :: R) → putF g (L ++ f :: R) = L ++ g :: R
  | [], R, _ => by simp only [List.nil_append, putF]; rw [if_pos e.symm]
  | a :: L, R, h => by
    unfold risingF at h
    rw [List.cons_append, List.pairwise_cons] at h
    have h1 := h.1 f (by simp)
    simp only [List.cons_append, putF]
    rw [if_neg (by rw [e]; exact nlt_ne h1), if_neg (fun h2 => nlt_irrefl _ (nlt_trans h1 (by rw [← e]; exact h2))), putF_mid e h.2]
end Go.Proofs.Ytfffcpbldjoemaa
namespace Go.Proofs.Ytfffcpbldjoemaa
open Go Go.RowKit Go.Maps Go.Proofs

theorem RdV.fr {w w' : World} {bl : List Nat} {A : Option Addr} {n : Nat} {vs : List Value} (h : RdV w A n vs) (hf : Fr w w' bl) (ho : 0 < n → ∀ b, blk A = some b → b ∉ bl) : RdV w' A n vs := by
  refine ⟨h.1, fun hn => ?_⟩
  obtain ⟨b, off, rfl, h2, h3⟩ := h.2 hn
  refine ⟨b, off, rfl, Nat.lt_of_lt_of_le h2 hf.size, fun i x hx => ?_⟩
  exact (World.cell?_of_block (a := ⟨b, off + i, none⟩) (hf.block b h2 (ho hn b rfl))).trans (h3 i x hx)
theorem RdV.lt' {w : World} {A : Option Addr} {n : Nat} {vs : List Value} (h : RdV w A n vs) (hn : 0 < n) : ∀ b, blk A = some b → b < w.heap.size := fun b hb => by
  obtain ⟨b', off, rfl, h2⟩ := h.pos hn
  injection hb with hb
  rw [← hb]
  exact h2
def ivs (ks : List Int) : List Value := ks.map fun z => .int .i64 z
theorem ivs_at {w : World} {b off n : Nat} {ks : List Int} (h : RdV w (some ⟨b, off, none⟩) n (ivs ks)) (k : Nat) (hk : k < n) : ∃ z, ks[k]? = some z ∧ w.cell? ⟨b, off + k, none⟩ = some (.int .i64 z) := by
  obtain ⟨v, h1, h2⟩ := h.at_ k hk
  unfold ivs at h1
  rw [List.getElem?_map] at h1
  cases hx : ks[k]? with
  | none => rw [hx] at h1; cases h1
  | some z =>
    rw [hx] at h1
    injection h1 with h1
    subst h1
    exact ⟨z, rfl, h2⟩
theorem nm_at {w : World} {b off n : Nat} {ns : List (List UInt8)} (h : RdV w (some ⟨b, off, none⟩) n (ns.map encStr)) (k : Nat) (hk : k < n) : ∃ x, ns[k]? = some x ∧ w.cell? ⟨b, off + k, none⟩ = some (.string (tx x)) := by
  obtain ⟨v, h1, h2⟩ := h.at_ k hk
  rw [List.getElem?_map] at h1
  cases hx : ns[k]? with
  | none => rw [hx] at h1; cases h1
  | some z =>
    rw [hx] at h1
    injection h1 with h1
    subst h1
    exact ⟨z, rfl, h2⟩
theorem nmR_all (rs : List FR) : nmR [] rs = (rs.map FR.val).map (·.1) := by
  unfold nmR
  rw [List.filter_eq_self.2 (fun x _ => by simp [Lib.hasPrefix]), List.map_map]
  rfl

/-- 'The disk behind the crash.' -/
def RetCr (w : World) (p : Nat) (m : Option Nat) (rs : List FR) (fs' : List FE) (room left : Int) (e : Ending) (w' : World) : Prop :=
  e = .returned (.tuple #[]) ∧ ∃ rs', rs'.map FR.val = fs' ∧ DskR w' p m rs' room (usedF fs' : Int) left false false ∧ Fr w w' (allB p m rs) ∧ ∀ b ∈ allB p m rs', b ∈ allB p m rs ∨ w.heap.size ≤ b

section
variable {w : World} {p : Nat} {m : Option Nat} {rs : List FR} {room left : Int} {dead armed : Bool}
set_option maxRecDepth 100000 in
set_option maxHeartbeats 8000000 in
theorem Crash_any (K : Option Addr) (nk ck : Nat) (ks : List Int) (h : DskR w p m rs room (usedF (rs.map FR.val) : Int) left dead armed) (hu : rsUp rs) (hrs : rs.length ≤ 1099511627776) (hnl : ∀ r ∈ rs, r.name.length ≤ 1099511627776) (hud : usedF (rs.map FR.val) ≤ 1099511627776)
    (hK : RdV w K nk (ivs ks)) (hKo : 0 < nk → ∀ b, blk K = some b → b ∉ allB p m rs) (hnk : nk ≤ 1099511627776) (hkz : ∀ z ∈ ks, I64 z) :
    Calls Try.prog 19 #[.pointer (some ⟨p, 0, none⟩), .slice K nk ck] w (RetCr w p m rs (crP ks (rs.map FR.val)).1 room left) := by
  have hKl : ks.length = nk := by have := hK.len; simpa [ivs] using this
  obtain ⟨fs, hfs⟩ : ∃ fs, fs = rs.map FR.val := ⟨_, rfl⟩
  have hfup : risingF fs := by rw [hfs]; unfold risingF; rw [List.pairwise_map]; exact hu
  have hfl : fs.length = rs.length := by rw [hfs, List.length_map]
  have hfn : nmR [] rs = fs.map (·.1) := by rw [nmR_all, hfs]
  have hfnl : ∀ f ∈ fs, f.1.length ≤ 1099511627776 := fun f hf => by
    rw [hfs] at hf
    obtain ⟨r, hr, rfl⟩ := List.mem_map.1 hf
    exact hnl r hr
  rw [← hfs] at h hud ⊢
  have HN := Lib.hid (names_any [] h hu hrs hnl)
  rw [hfn] at HN
  have HFS := Lib.hid hfs
  have HFUP := Lib.hid hfup
  have HFNL := Lib.hid hfnl
  have HKZ := Lib.hid hkz
  have HKO := Lib.hid hKo
  have HKL := Lib.hid hKl
  have hfl2 : fs.length ≤ 1099511627776 := by omega
  clear hfs hfup hfn hfnl hkz hKo hKl hfl hnl
  go_enter Try.func19, Try.ntmps19
  go_wp2_with fail
  refine HN.out.mono ?_
  clear HN
  rintro e w1 ⟨N, nn, nc, rfl, oN, hb1⟩
  have hnn : nn = fs.length := by rw [← oN.len]; simp
  have hNlt := fun b (hb : blk N = some b) => oN.lt b hb
  have hD1 := h.fr (Fr.of_below hb1 []) (fun b _ h => by cases h)
  have hK1 := hK.below hb1
  have hF1 : Fr w w1 (allB p m rs) := Fr.of_below hb1 _
  have hN1 := oN.rd
  have hNo : ∀ b, blk N = some b → b ∉ allB p m rs := fun b hb hm => by have := (hNlt b hb).1; have := h.lt b hm; omega
  have HD1 := Lib.hid hD1
  have HF1 := Lib.hid hF1
  have HNO := Lib.hid hNo
  have hs1 := hb1.size
  have HNN := Lib.hid hnn
  have hnn2 : nn ≤ 1099511627776 := by omega
  clear hD1 hF1 hNo h hK hb1 oN hNlt hnn
  go_wp2
  go_loopw [4, 13] (fun vt vi wr => ∃ (i u : Nat) (rsI : List FR), vt = .int .i64 ((crP ks (fs.take i)).2 : Int) ∧ vi = .int .i64 i ∧ i ≤ nn ∧ DskR wr p m rsI room (u : Int) left dead armed ∧ rsI.map FR.val = (crP ks (fs.take i)).1 ++ fs.drop i ∧ u = usedF ((crP ks (fs.take i)).1 ++ fs.drop i) ∧ u ≤ usedF fs ∧
    RdV wr N nn ((fs.map (·.1)).map encStr) ∧ RdV wr K nk (ivs ks) ∧ Fr w wr (allB p m rs) ∧ (∀ b ∈ allB p m rsI, b ∈ allB p m rs ∨ w.heap.size ≤ b) ∧ (∀ b, blk N = some b → b ∉ allB p m rsI) ∧ (0 < nk → ∀ b, blk K = some b → b ∉ allB p m rsI)) (fun _ vi _ => nn - (intOf vi).toNat)
  case atStart =>
    refine ⟨0, usedF fs, rs, rfl, rfl, Nat.zero_le _, HD1.out, ?_, ?_, Nat.le_refl _, hN1, hK1, HF1.out, fun b hb => .inl hb, HNO.out, HKO.out⟩
    · rw [List.take_zero, crP_zero, List.drop_zero]; exact HFS.out.symm
    · rw [List.take_zero, crP_zero, List.drop_zero]; rfl
  case round =>
    clear HD1 hN1 hK1 HF1 HNO
    obtain ⟨i, u, rsI, rfl, rfl, hi, hD, hval, hus, huu, hN, hK, hF, hB, hNo, hKo⟩ := hrel
    have HV := Lib.hid hval
    have HUS := Lib.hid hus
    have HF := Lib.hid hF
    have HB := Lib.hid hB
    have HNo := Lib.hid hNo
    have HKo := Lib.hid hKo
    have hcnt := crP_cnt ks (fs.take i)
    have hlt' : (fs.take i).length ≤ i := List.length_take_le _ _
    obtain ⟨T, hT⟩ : ∃ T, T = (crP ks (fs.take i)).2 := ⟨_, rfl⟩
    rw [← hT] at hcnt ⊢
    have HT := Lib.hid hT
    clear hval hus hF hB hNo hKo hT
    by_cases hin : i < nn
    · have hil : i < fs.length := by have := HNN.out; omega
      obtain ⟨f, hf⟩ : ∃ f, fs[i]? = some f := ⟨fs[i], List.getElem?_eq_getElem hil⟩
      have hdrop : fs.drop i = f :: fs.drop (i + 1) := by
        obtain ⟨hi2, rfl⟩ := List.getElem?_eq_some_iff.1 hf
        exact List.drop_eq_getElem_cons hi2
      obtain ⟨L, hL⟩ : ∃ L, L = (crP ks (fs.take i)).1 := ⟨_, rfl⟩
      obtain ⟨R, hR⟩ : ∃ R, R = fs.drop (i + 1) := ⟨_, rfl⟩
      have hval : rsI.map FR.val = L ++ f :: R := by rw [HV.out, hdrop, hL, hR]
      have hus : u = usedF (L ++ f :: R) := by rw [HUS.out, hdrop, hL, hR]
      have hup : risingF (L ++ f :: R) := by
        refine risingF_names (b := fs) ?_ HFUP.out
        rw [List.map_append, hL, crP_names, hR, ← hdrop, ← List.map_append, List.take_append_drop]
      have hrsu : rsUp rsI := rsUp_of (by rw [hval]; exact hup)
      obtain ⟨r, hr, hrv⟩ : ∃ r ∈ rsI, r.val = f := by
        have : f ∈ rsI.map FR.val := by rw [hval]; simp
        obtain ⟨r, hr, e⟩ := List.mem_map.1 this
        exact ⟨r, hr, e⟩
      have hfm : f ∈ fs := List.mem_of_getElem? hf
      have hrl : r.name.length ≤ 1099511627776 := by
        have := HFNL.out f hfm
        rw [← hrv] at this
        exact this
      have hlen : r.dat.length ≤ u := by
        rw [hus]
        have : f.2.1.length ≤ usedF (L ++ f :: R) := usedF_mem (by simp)
        rw [← hrv] at this ⊢
        exact this
      obtain ⟨c0, _⟩ := hD.head
      have hlk := hD.2.1.look_some hr (by unfold maxLen; omega)
      have hfa := hD.2.2.1 r hr
      obtain ⟨d0, d1⟩ := hfa.cells
      have hsl := hfa.2.2
      obtain ⟨bN, offN, rfl, _⟩ := hN.pos (by omega)
      obtain ⟨x, hx, hcx⟩ := nm_at hN i hin
      have hxr : x = r.name := by
        rw [List.getElem?_map, hf] at hx
        injection hx with hx
        rw [← hx, ← hrv]
        rfl
      subst hxr
      obtain ⟨tl, htl⟩ : ∃ tl : Nat, tl = r.dat.length - r.saf := ⟨_, rfl⟩
      have i0 : IntKind.i64.wrap ((r.dat.length : Int) - (r.saf : Int)) = (tl : Int) := by
        rw [IntWalk.i64_in _ (by omega)]; omega
      have hstep := crP_take (ks := ks) hf
      have HST : Hid (crP ks (fs.take (i + 1)) = crStep ks (L, T) f) := Lib.hid (by rw [hstep, hL, HT.out])
      have HVAL := Lib.hid hval
      have HUSD := Lib.hid hus
      have HUP := Lib.hid hup
      have HRV := Lib.hid hrv
      have HRR := Lib.hid hR
      have HTL := Lib.hid htl
      have HCX := Lib.hid hx
      clear hval hus hup hrv hR htl hx hstep hdrop hL HV HUS hf hfm hfa
      by_cases ht0 : tl = 0
      · subst ht0
        have HZ : Hid (crP ks (fs.take (i + 1)) = (L ++ [f], T)) := Lib.hid (by
          rw [HST.out, crStep, if_pos]
          rw [← HRV.out]
          show r.dat.length = r.saf
          have := HTL.out
          omega)
        have HX : Hid ((crP ks (fs.take (i + 1))).1 ++ fs.drop (i + 1) = L ++ f :: R) := Lib.hid (by rw [HZ.out, HRR.out]; simp)
        have HX2 : Hid ((crP ks (fs.take (i + 1))).2 = T) := Lib.hid (by rw [HZ.out])
        have HD := Lib.hid hD
        have HN' := Lib.hid hN
        have HK' := Lib.hid hK
        clear hD hN hK
        go_wp2
        go_quiet (fail)
        go_wp2
        go_roundw
        case rel => exact ⟨i + 1, u, rsI, by rw [HX2.out], by go_num, by omega, HD.out, by rw [HVAL.out, HX.out], by rw [HUSD.out, HX.out], huu, HN'.out, HK'.out, HF.out.drewN _, HB.out, HNo.out, HKo.out⟩
        case measure => simp [intOf]; omega
      · have hb0 : ((tl : Int) == 0) = false := by simp; omega
        obtain ⟨kp, hkp⟩ : ∃ kp, kp = keepN ks T tl := ⟨_, rfl⟩
        have hkpl : kp ≤ tl := by rw [hkp]; exact keepN_le ks T tl
        obtain ⟨kk, hkk⟩ : ∃ kk, kk = r.saf + kp := ⟨_, rfl⟩
        have hkl : kk ≤ r.dat.length := by have := HTL.out; omega
        have i3 : IntKind.i64.wrap ((r.saf : Int) + (kp : Int)) = (kk : Int) := by
          rw [IntWalk.i64_in _ (by omega)]; omega
        have hru : r.dat.length ≤ u := hlen
        have HZ : Hid (crP ks (fs.take (i + 1)) = (L ++ [cutE ks T f], T + 1)) := Lib.hid (by
          rw [HST.out, crStep, if_neg]
          rw [← HRV.out]
          show ¬ r.dat.length = r.saf
          have := HTL.out
          omega)
        have HKPV := Lib.hid hkp
        have hcutE : cutE ks T f = (r.name, r.dat.take kk, kk) := by
          rw [← HRV.out]
          show (r.name, r.dat.take (r.saf + keepN ks T (r.dat.length - r.saf)), r.saf + keepN ks T (r.dat.length - r.saf)) = _
          rw [← HTL.out, ← HKPV.out, ← hkk]
        have HCE := Lib.hid hcutE
        have HFIN : Hid (∀ (W w' : World) (e : Ending), Fr wr W [] → RetFile W p m rsI r (r.dat.take kk) kk room ((u - (r.dat.length - kk) : Nat) : Int) left dead armed (.tuple #[]) e w' →
            e = .returned (.tuple #[]) ∧ ∀ q, ∃ (u' : Nat) (rs' : List FR), DskR (w'.drewN q) p m rs' room (u' : Int) left dead armed ∧ rs'.map FR.val = (crP ks (fs.take (i + 1))).1 ++ fs.drop (i + 1) ∧ u' = usedF ((crP ks (fs.take (i + 1))).1 ++ fs.drop (i + 1)) ∧ u' ≤ usedF fs ∧
              RdV (w'.drewN q) (some ⟨bN, offN, none⟩) nn ((fs.map (·.1)).map encStr) ∧ RdV (w'.drewN q) K nk (ivs ks) ∧ Fr w (w'.drewN q) (allB p m rs) ∧ (∀ b ∈ allB p m rs', b ∈ allB p m rs ∨ w.heap.size ≤ b) ∧ (∀ b, blk (some (⟨bN, offN, none⟩ : Addr)) = some b → b ∉ allB p m rs') ∧ (0 < nk → ∀ b, blk K = some b → b ∉ allB p m rs')) := Lib.hid (by
          rintro W w' e hW ⟨rfl, r', hn', hd', hs', hD', hF', hB'⟩
          refine ⟨rfl, fun q => ⟨_, _, hD'.fr (Fr.drewN (Fr.refl _ []) q) (fun _ _ h => by cases h), ?_, ?_, by omega, ?_, ?_, ?_, ?_, ?_, ?_⟩⟩
          · rw [putR_val, HVAL.out, HZ.out, ← HRR.out]
            have e1 : r'.val = cutE ks T f := by rw [HCE.out]; unfold FR.val; rw [hn', hd', hs']
            rw [e1, putF_mid (f := f) (g := cutE ks T f) rfl HUP.out]
            simp
          · rw [HUSD.out, HZ.out, ← HRR.out]
            have e2 : f.2.1 = r.dat := by rw [← HRV.out]; rfl
            simp only [usedF_app, usedF_cons, usedF_nil, HCE.out, e2, List.length_take]
            omega
          · exact ((hN.fr hW (fun _ b _ h => by cases h)).fr hF' (fun _ => HNo.out)).fr (Fr.drewN (Fr.refl _ []) q) (fun _ b _ h => by cases h)
          · exact ((hK.fr hW (fun _ b _ h => by cases h)).fr hF' HKo.out).fr (Fr.drewN (Fr.refl _ []) q) (fun _ b _ h => by cases h)
          · exact ((HF.out.trans hW (fun b h => by cases h)).trans hF' HB.out).drewN q
          · intro b hb
            rcases hB' b hb with h1 | h1
            · exact HB.out b h1
            · exact .inr (Nat.le_trans (Nat.le_trans HF.out.size hW.size) h1)
          · intro b hb hm
            rcases hB' b hm with h1 | h1
            · exact HNo.out b hb h1
            · have := hN.lt' (by omega) b hb
              have := hW.size
              omega
          · intro hk0 b hb hm
            rcases hB' b hm with h1 | h1
            · exact HKo.out hk0 b hb h1
            · have := hK.lt' hk0 b hb
              have := hW.size
              omega)
        have HX2 : Hid ((crP ks (fs.take (i + 1))).2 = T + 1) := Lib.hid (by rw [HZ.out])
        have HT1 : Hid (IntKind.i64.wrap ((T : Int) + 1) = ((T + 1 : Nat) : Int)) := Lib.hid (by rw [IntWalk.i64_in _ (by omega)]; omega)
        have HDD := Lib.hid hD
        have HN' := Lib.hid hN
        have HK' := Lib.hid hK
        have htlb : tl ≤ r.dat.length := by have := HTL.out; omega
        clear HST HVAL HUSD HUP HRV HRR HTL HCX HZ HCE hcutE hkp hN HF HB HNo HKo
        by_cases hnk0 : nk = 0
        · subst hnk0
          have hkp0 : kp = 0 := by
            rw [HKPV.out]
            have : ks = [] := List.eq_nil_of_length_eq_zero HKL.out
            rw [this, keepN_nil]
          subst hkp0
          obtain rfl : kk = r.saf := hkk
          clear hK
          go_wp2
          go_quiet (fail)
          go_wp2_with fail
          refine (shorten_any r.saf u (HDD.out.fr (Fr.drewN (Fr.refl wr []) nq) (fun b _ h => by cases h)) hrsu hr hkl hru (by omega) (by omega)).mono ?_
          rintro e w' hret
          obtain ⟨rfl, hx⟩ := HFIN.out _ w' e (Fr.drewN (Fr.refl wr []) _) hret
          clear hret HFIN d0 d1 c0
          go_wp2
          go_roundw
          case rel => 
            obtain ⟨u', rs', h1, h2, h3, h4, h5, h6, h7, h8, h9, h10⟩ := hx 0
            exact ⟨i + 1, u', rs', by rw [HX2.out, Int.natCast_add]; rfl, by go_num, by omega, h1, h2, h3, h4, h5, h6, h7, h8, h9, h10⟩
          case measure => simp [intOf]; omega
        · obtain ⟨bK, offK, rfl, _⟩ := hK.pos (by omega)
          obtain ⟨j, hj⟩ : ∃ j, j = T % nk := ⟨_, rfl⟩
          have hjl : j < nk := by rw [hj]; exact Nat.mod_lt _ (by omega)
          obtain ⟨z, hz, hcz⟩ := ivs_at hK j hjl
          have hzI := HKZ.out z (List.mem_of_getElem? hz)
          have hkpz : kp = z.toNat % (tl + 1) := by
            rw [HKPV.out]
            refine keepN_at ?_
            rw [HKL.out, ← hj]
            exact hz
          obtain ⟨zp, hzp⟩ : ∃ zp, zp = z.toNat := ⟨_, rfl⟩
          rw [← hzp] at hkpz
          have n0 : decide ((0 : Int) < (nk : Int)) = true := by simp; omega
          have n1 : ((nk : Int) == 0) = false := by simp; omega
          have n3 : (T : Int) % (nk : Int) = (j : Int) := by rw [hj]; simp
          have n4 : max z 0 = (zp : Int) := by omega
          have n5 : IntKind.i64.wrap ((tl : Int) + 1) = ((tl + 1 : Nat) : Int) := by rw [IntWalk.i64_in _ (by omega)]; omega
          have n6 : (zp : Int) % ((tl + 1 : Nat) : Int) = (kp : Int) := by rw [hkpz]; simp
          have n7 : wrap64 ((r.saf : Int) + (zp : Int) % ((tl : Int) + 1)) = (kk : Int) := by
            have e1 : (zp : Int) % ((tl : Int) + 1) = (kp : Int) := n6
            rw [e1]
            exact (IntWalk.i64_left _).symm.trans i3
          have N7 := Lib.hid n7
          clear n7
          have HJ := Lib.hid hj
          have HZP := Lib.hid hzp
          have HKPZ := Lib.hid hkpz
          have HHZ := Lib.hid hz
          clear hK hkk hj hzp hkpz hz
          go_wp2
          go_quiet (fail)
          go_wp2_with fail
          rw [N7.out]
          refine (shorten_any kk u (HDD.out.fr (Fr.drewN (Fr.refl wr []) nq) (fun b _ h => by cases h)) hrsu hr hkl hru (by omega) (by omega)).mono ?_
          rintro e w' hret
          obtain ⟨rfl, hx⟩ := HFIN.out _ w' e (Fr.drewN (Fr.refl wr []) _) hret
          clear hret HFIN d0 d1 c0 hcz
          go_wp2
          go_roundw
          case rel => 
            obtain ⟨u', rs', h1, h2, h3, h4, h5, h6, h7, h8, h9, h10⟩ := hx 0
            exact ⟨i + 1, u', rs', by rw [HX2.out, Int.natCast_add]; rfl, by go_num, by omega, h1, h2, h3, h4, h5, h6, h7, h8, h9, h10⟩
          case measure => simp [intOf]; omega
    · obtain rfl : i = nn := by omega
      have HH := Lib.hid (((Hd.refl hD.1).set 3 (.bool false)).set 4 (.bool false))
      obtain ⟨c0, c1, c2, c3, c4, c5⟩ := hD.head
      have f3 := hD.thaw 3
      have f4 := hD.thaw 4
      have htk : fs.take i = fs := List.take_of_length_le (by have := HNN.out; omega)
      have hdr : fs.drop i = [] := List.drop_of_length_le (by have := HNN.out; omega)
      have HTK := Lib.hid htk
      have HDR := Lib.hid hdr
      have HDD := Lib.hid hD
      clear hN hK htk hdr hD
      go_wp2
      go_end0
      refine ⟨rfl, rsI, ?_, ?_, ?_, HB.out⟩
      · rw [HV.out, HTK.out, HDR.out, List.append_nil]
      · have h1 := HDD.out.turn HH.out.1 HH.out.2
        rw [HUS.out, HTK.out, HDR.out, List.append_nil] at h1
        exact h1
      · exact HF.out.trans HH.out.1 (fun b hb => by rw [List.mem_singleton] at hb; subst hb; exact .inl mem_head)
end
end Go.Proofs.Ytfffcpbldjoemaa
namespace Go.Proofs.Ytfffcpbldjoemaa
open Go Go.RowKit Go.Maps

/-- 'The disk at block p lives, isn't armed, and holds these files.' -/
def Live (w : World) (p : Nat) (bl : List Nat) (room u : Nat) (fs : List FE) : Prop :=
  ∃ m rs, DskR w p m rs (room : Int) (u : Int) 0 false false ∧ bl = allB p m rs ∧ rs.map FR.val = fs ∧ risingF fs
def RetLv (w : World) (p : Nat) (bl : List Nat) (room u : Nat) (fs : List FE) (v : Value) (e : Ending) (w' : World) : Prop :=
  e = .returned v ∧ ∃ bl', Live w' p bl' room u fs ∧ Fr w w' bl ∧ ∀ b ∈ bl', b ∈ bl ∨ w.heap.size ≤ b
def RetNw (w : World) (room : Nat) (e : Ending) (w' : World) : Prop :=
  ∃ p bl, e = .returned (.pointer (some ⟨p, 0, none⟩)) ∧ Live w' p bl room 0 [] ∧ (∀ b ∈ bl, w.heap.size ≤ b) ∧ Below w.heap.size w w'
section
variable {w w' : World} {p : Nat} {bl : List Nat} {room u : Nat} {fs : List FE}
theorem Live.fr {bl2 : List Nat} (h : Live w p bl room u fs) (hf : Fr w w' bl2) (ho : ∀ b ∈ bl, b ∉ bl2) : Live w' p bl room u fs := by
  obtain ⟨m, rs, h1, rfl, h3, h4⟩ := h
  exact ⟨m, rs, h1.fr hf ho, rfl, h3, h4⟩
theorem Live.lt (h : Live w p bl room u fs) : ∀ b ∈ bl, b < w.heap.size := by
  obtain ⟨m, rs, h1, rfl, h3, h4⟩ := h
  exact h1.lt
theorem Live.below (h : Live w p bl room u fs) (hb : Below w.heap.size w w') : Live w' p bl room u fs := h.fr (Fr.of_below hb []) (fun _ _ h => by cases h)
theorem Live.drewN (h : Live w p bl room u fs) (q : Nat) : Live (w.drewN q) p bl room u fs := h.fr (Fr.drewN (Fr.refl w []) q) (fun _ _ h => by cases h)
theorem Live.grown {row : Option Nat} (h : Live w p bl room u fs) (hg : w.grownBy w' row) (hr : ∀ b, row = some b → b ∉ bl) : Live w' p bl room u fs :=
  h.fr (Fr.of_grown (bl := row.toList) hg (fun b hb => by rw [hb]; simp)) (fun b hb hm => by
    cases row with
    | none => simp at hm
    | some k => simp at hm; exact hr k rfl (by rw [← hm]; exact hb))
theorem Fam.fr {base : Nat} {ps : List VB} (h : Fam w base ps) (hf : Fr w w' bl) (ho : ∀ p ∈ ps, ∀ b, Value.ownBlock p.1 = some b → b ∉ bl) : Fam w' base ps := by
  refine ⟨fun p hp => ?_, h.2⟩
  obtain ⟨A, m, c, e, ho'⟩ := h.1 p hp
  exact ⟨A, m, c, e, ho'.fr hf (fun b hb => ho p hp b (by rw [e, own_blk]; exact hb))⟩
theorem of_name {rs : List FR} {f : FE} (e : rs.map FR.val = fs) (hf : f ∈ fs) : ∃ r ∈ rs, r.name = f.1 ∧ r.dat = f.2.1 ∧ r.saf = f.2.2 := by
  rw [← e] at hf
  obtain ⟨r, hr, rfl⟩ := List.mem_map.1 hf
  exact ⟨r, hr, rfl, rfl, rfl⟩
theorem len_of {rs : List FR} (e : rs.map FR.val = fs) : rs.length = fs.length := by rw [← e, List.length_map]
theorem New_live (n : Nat) (w : World) (hn : n ≤ 9223372036854775807) : Calls Try.prog 10 #[.int .i64 (n : Int)] w (RetNw w n) := by
  have fin : RetNw w n (.returned (.pointer (some ⟨w.heap.size, 0, none⟩))) (w.alloc (.cells (headV none (n : Int) 0 0 false false) 26)) :=
    ⟨w.heap.size, _, rfl, ⟨none, [], DskR.init w _, rfl, rfl, List.Pairwise.nil⟩, (fun b hb => by simp [allB] at hb; omega), (Below.refl _ _).alloc (Nat.le_refl _) _⟩
  have HF := Lib.hid fin
  clear fin
  have h3 : max (n : Int) 0 = n := by omega
  go_enter Try.func10, Try.ntmps10
  go_wp2
  go_ret
  exact HF.out
theorem append_live_new (x : List UInt8) (B : Option Addr) (n c : Nat) (ys : List UInt8) (h : Live w p bl room u fs) (hno : ∀ f ∈ fs, f.1 ≠ x) (hB : Rd w B n ys) (hBo : ∀ b, blk B = some b → b ∉ bl)
    (hf : u + n ≤ room) (hR : room ≤ 9223372036854775807) (hn : n ≤ 1099511627776) (hx : x.length ≤ 1099511627776) (hrs : fs.length ≤ 1099511627776) :
    Calls Try.prog 8 #[.pointer (some ⟨p, 0, none⟩), .string (tx x), .slice B n c] w (RetLv w p bl room (u + n) (putF (x, ys, 0) fs) (.int .i64 0)) := by
  obtain ⟨m, rs, h1, rfl, h3, h4⟩ := h
  have hu : rsUp rs := rsUp_of (by rw [h3]; exact h4)
  have hl := len_of h3
  refine (append_new x B n c ys u room h1 hu (fun r hr e => hno r.val (by rw [← h3]; exact List.mem_map.2 ⟨r, hr, rfl⟩) e) hB hBo hf hR hn hx (by omega) (by omega)).mono ?_
  rintro e w' ⟨rfl, r', m', hn', hd', hs', hD', hF', hB'⟩
  refine ⟨by simp [tE], _, ⟨m', _, hD', rfl, ?_, ?_⟩, hF', hB'⟩
  · rw [putR_val, h3]
    unfold FR.val
    rw [hn', hd', hs']
  · exact putF_up h4
theorem append_live_old {f : FE} (B : Option Addr) (n c : Nat) (ys : List UInt8) (h : Live w p bl room u fs) (hfm : f ∈ fs) (hB : Rd w B n ys)
    (hf : u + n ≤ room) (hR : room ≤ 9223372036854775807) (hn : n ≤ 1099511627776) (hd : f.2.1.length ≤ 1099511627776) (hx : f.1.length ≤ maxLen) :
    Calls Try.prog 8 #[.pointer (some ⟨p, 0, none⟩), .string (tx f.1), .slice B n c] w (RetLv w p bl room (u + n) (putF (f.1, f.2.1 ++ ys, f.2.2) fs) (.int .i64 0)) := by
  obtain ⟨m, rs, h1, rfl, h3, h4⟩ := h
  have hu : rsUp rs := rsUp_of (by rw [h3]; exact h4)
  obtain ⟨r, hr, e1, e2, e3⟩ := of_name h3 hfm
  rw [← e1, ← e2, ← e3]
  refine (append_old B n c ys u room h1 hu hr hB hf hR hn (by rw [e2]; exact hd) (by rw [e1]; exact hx) (by omega)).mono ?_
  rintro e w' ⟨rfl, r', hn', hd', hs', hD', hF', hB'⟩
  refine ⟨by simp [tE], _, ⟨m, _, hD', rfl, ?_, ?_⟩, hF', hB'⟩
  · rw [putR_val, h3]
    unfold FR.val
    rw [hn', hd', hs']
  · exact putF_up h4
theorem sync_live {f : FE} (h : Live w p bl room u fs) (hfm : f ∈ fs) (hx : f.1.length ≤ maxLen) :
    Calls Try.prog 9 #[.pointer (some ⟨p, 0, none⟩), .string (tx f.1)] w (RetLv w p bl room u (putF (f.1, f.2.1, f.2.1.length) fs) (.int .i64 0)) := by
  obtain ⟨m, rs, h1, rfl, h3, h4⟩ := h
  have hu : rsUp rs := rsUp_of (by rw [h3]; exact h4)
  obtain ⟨r, hr, e1, e2, e3⟩ := of_name h3 hfm
  rw [← e1, ← e2]
  refine (sync_some h1 hu hr (by rw [e1]; exact hx) (by omega) (by simp [tE])).mono ?_
  rintro e w' ⟨rfl, r', hn', hd', hs', hD', hF', hB'⟩
  refine ⟨rfl, _, ⟨m, _, hD', rfl, ?_, ?_⟩, hF', hB'⟩
  · rw [putR_val, h3]
    unfold FR.val
    rw [hn', hd', hs']
  · exact putF_up h4
theorem read_live {f : FE} (h : Live w p bl room u fs) (hfm : f ∈ fs) (hx : f.1.length ≤ maxLen) (hd : f.2.1.length ≤ 1099511627776) :
    Calls Try.prog 20 #[.pointer (some ⟨p, 0, none⟩), .string (tx f.1)] w (RetRd w f.2.1 0) := by
  obtain ⟨m, rs, h1, rfl, h3, h4⟩ := h
  obtain ⟨r, hr, e1, e2, e3⟩ := of_name h3 hfm
  have := read_some h1 hr (by rw [e1]; exact hx) (by rw [e2]; exact hd)
  rw [e1, e2] at this
  exact this
theorem crash_live (K : Option Addr) (nk ck : Nat) (ks : List Int) (h : Live w p bl room u fs) (hu : u = usedF fs) (hrs : fs.length ≤ 1099511627776) (hnl : ∀ f ∈ fs, f.1.length ≤ 1099511627776) (hud : u ≤ 1099511627776)
    (hK : RdV w K nk (ivs ks)) (hKo : 0 < nk → ∀ b, blk K = some b → b ∉ bl) (hnk : nk ≤ 1099511627776) (hkz : ∀ z ∈ ks, I64 z) :
    Calls Try.prog 19 #[.pointer (some ⟨p, 0, none⟩), .slice K nk ck] w (RetLv w p bl room (usedF (crP ks fs).1) (crP ks fs).1 (.tuple #[])) := by
  obtain ⟨m, rs, h1, rfl, h3, h4⟩ := h
  have hup : rsUp rs := rsUp_of (by rw [h3]; exact h4)
  subst hu
  rw [← h3] at h1 hud
  have hl := len_of h3
  have := Crash_any K nk ck ks h1 hup (by omega) (fun r hr => hnl r.val (by rw [← h3]; exact List.mem_map.2 ⟨r, hr, rfl⟩)) hud hK hKo hnk hkz
  rw [h3] at this
  refine this.mono ?_
  rintro e w' ⟨rfl, rs', e1, hD, hF, hB⟩
  refine ⟨rfl, _, ⟨m, rs', hD, rfl, e1, ?_⟩, hF, hB⟩
  refine risingF_names ?_ h4
  exact crP_names ks fs
end
end Go.Proofs.Ytfffcpbldjoemaa
namespace Go.Proofs.Ytfffcpbldjoemaa
open Go Go.RowKit Go.Maps

/-- The file of a name: its bytes, and how many are safe. -/
def getF (x : List UInt8) (fs : List FE) : Option (List UInt8 × Nat) := (fs.find? fun f => f.1 == x).map (·.2)
theorem getF_mem {x : List UInt8} {fs : List FE} {g : List UInt8 × Nat} (h : getF x fs = some g) : (x, g) ∈ fs := by
  unfold getF at h
  cases e : fs.find? (fun f => f.1 == x) with
  | none => rw [e] at h; cases h
  | some f =>
    rw [e] at h
    injection h with h
    have h1 := List.mem_of_find?_eq_some e
    have h2 := List.find?_some e
    simp only [beq_iff_eq] at h2
    rw [← h, ← h2]
    exact h1
theorem getF_no {x : List UInt8} {fs : List FE} (h : getF x fs = none) : ∀ f ∈ fs, f.1 ≠ x := fun f hf e => by
  unfold getF at h
  rw [Option.map_eq_none_iff, List.find?_eq_none] at h
  exact h f hf (by simpa using e)
theorem up_nameF {fs : List FE} (hu : risingF fs) {a b : FE} (ha : a ∈ fs) (hb : b ∈ fs) (e : a.1 = b.1) : a = b := by
  unfold risingF at hu
  induction fs with
  | nil => cases ha
  | cons q t ih =>
    rw [List.pairwise_cons] at hu
    rcases List.mem_cons.1 ha with rfl | ha2
    · rcases List.mem_cons.1 hb with rfl | hb2
      · rfl
      · exact absurd e (nlt_ne (hu.1 b hb2))
    · rcases List.mem_cons.1 hb with rfl | hb2
      · exact absurd e.symm (nlt_ne (hu.1 a ha2))
      · exact ih hu.2 ha2 hb2
theorem getF_of {fs : List FE} (hu : risingF fs) {f : FE} (hf : f ∈ fs) : getF f.1 fs = some f.2 := by
  cases h : getF f.1 fs with
  | none => exact absurd rfl (getF_no h f hf)
  | some g =>
    have := up_nameF hu (getF_mem h) hf rfl
    rw [← this]
theorem getF_none_of {x : List UInt8} {fs : List FE} (h : ∀ f ∈ fs, f.1 ≠ x) : getF x fs = none := by
  cases hg : getF x fs with
  | none => rfl
  | some g => exact absurd rfl (h _ (getF_mem hg))
theorem risingF_tail {a : FE} {t : List FE} (h : risingF (a :: t)) : risingF t := by
  unfold risingF at h ⊢
  rw [List.pairwise_cons] at h
  exact h.2
theorem risingF_head {a : FE} {t : List FE} (h : risingF (a :: t)) : ∀ f ∈ t, a.1 < f.1 := by
  unfold risingF at h
  rw [List.pairwise_cons] at h
  exact h.1
theorem putF_cons_eq {f q : FE} {t : List FE} (h : q.1 = f.1) : putF f (q :: t) = f :: t := by rw [putF, if_pos h]
theorem putF_cons_lt {f q : FE} {t : List FE} (h : q.1 ≠ f.1) (h2 : f.1 < q.1) : putF f (q :: t) = f :: q :: t := by rw [putF, if_neg h, if_pos h2]
theorem putF_cons_gt {f q : FE} {t : List FE} (h : q.1 ≠ f.1) (h2 : ¬ f.1 < q.1) : putF f (q :: t) = q :: putF f t := by rw [putF, if_neg h, if_neg h2]
theorem usedF_put_new {f : FE} : ∀ {fs : List FE}, (∀ q ∈ fs, q.1 ≠ f.1) → usedF (putF f fs) = usedF fs + f.2.1.length
  | [], _ => by rw [putF, usedF_cons, usedF_nil]; omega
  | q :: t, h => by
    have h0 := h q (List.mem_cons_self ..)
    by_cases h1 : f.1 < q.1
    · rw [putF_cons_lt h0 h1, usedF_cons]; omega
    · rw [putF_cons_gt h0 h1, usedF_cons, usedF_cons, usedF_put_new (fun q hq => h q (List.mem_cons_of_mem _ hq))]; omega
theorem usedF_put_old {f g : FE} (e : g.1 = f.1) : ∀ {fs : List FE}, risingF fs → f ∈ fs → usedF (putF g fs) + f.2.1.length = usedF fs + g.2.1.length
  | [], _, h => by cases h
  | q :: t, hu, h => by
    rcases List.mem_cons.1 h with rfl | h
    · rw [putF_cons_eq e.symm, usedF_cons, usedF_cons]; omega
    · have h1 := risingF_head hu f h
      rw [putF_cons_gt (by rw [e]; exact nlt_ne h1) (fun h2 => nlt_irrefl _ (nlt_trans h1 (by rw [← e]; exact h2))), usedF_cons, usedF_cons]
      have := usedF_put_old e (risingF_tail hu) h
      omega
theorem delF_up {x : List UInt8} {fs : List FE} (h : risingF fs) : risingF (delF x fs) := List.Pairwise.filter _ h
theorem mem_delF {x : List UInt8} {fs : List FE} {q : FE} : q ∈ delF x fs ↔ q ∈ fs ∧ q.1 ≠ x := by simp [delF]
theorem delF_no {x : List UInt8} {fs : List FE} (h : ∀ f ∈ fs, f.1 ≠ x) : delF x fs = fs := by
  unfold delF
  rw [List.filter_eq_self]
  intro f hf
  simpa using h f hf
theorem usedF_del {f : FE} : ∀ {fs : List FE}, risingF fs → f ∈ fs → usedF (delF f.1 fs) + f.2.1.length = usedF fs
  | [], _, h => by cases h
  | q :: t, hu, h => by
    rcases List.mem_cons.1 h with rfl | h
    · have e : delF f.1 (f :: t) = t := by
        unfold delF
        rw [List.filter_cons_of_neg (by simp)]
        exact delF_no (fun q hq e => nlt_ne (risingF_head hu q hq) e.symm)
      rw [e, usedF_cons]; omega
    · have h1 := nlt_ne (risingF_head hu f h)
      have e : delF f.1 (q :: t) = q :: delF f.1 t := by
        unfold delF
        rw [List.filter_cons_of_pos (by simpa using h1)]
      rw [e, usedF_cons, usedF_cons]
      have := usedF_del (risingF_tail hu) h
      omega
/-- The length of a name's file. -/
def lenF (x : List UInt8) (fs : List FE) : Nat := match getF x fs with | none => 0 | some g => g.1.length
theorem lenF_some {x : List UInt8} {fs : List FE} {g : List UInt8 × Nat} (h : getF x fs = some g) : lenF x fs = g.1.length := by rw [lenF, h]
theorem lenF_none {x : List UInt8} {fs : List FE} (h : getF x fs = none) : lenF x fs = 0 := by rw [lenF, h]
theorem usedF_delx (x : List UInt8) {fs : List FE} (hu : risingF fs) : usedF (delF x fs) + lenF x fs = usedF fs := by
  cases h : getF x fs with
  | none => rw [lenF_none h, delF_no (getF_no h)]; rfl
  | some g =>
    rw [lenF_some h]
    exact usedF_del hu (getF_mem h)

def armN (a : Int) : Int := if 0 < a then a - 1 else a
def appF (x ys : List UInt8) (fs : List FE) : List FE := match getF x fs with | none => putF (x, ys, 0) fs | some g => putF (x, g.1 ++ ys, g.2) fs
def syncF (x : List UInt8) (fs : List FE) : List FE := match getF x fs with | none => fs | some g => putF (x, g.1, g.1.length) fs
def cutF (x : List UInt8) (k : Nat) (fs : List FE) : List FE := match getF x fs with | none => fs | some g => putF (x, g.1.take k, k) fs
def renF (x y : List UInt8) (fs : List FE) : List FE := if x = y then fs else match getF x fs with | none => fs | some g => putF (y, g.1, g.2) (delF x (delF y fs))
def noneE (x : List UInt8) (fs : List FE) : Int := if (getF x fs).isNone then 6 else 0
def cutE6 (x : List UInt8) (z : Int) (fs : List FE) : Int := match getF x fs with | none => if z < 0 then 1 else 6 | some g => if z < 0 ∨ (g.1.length : Int) < z then 1 else 0
/-- A call that would answer e, and make fs' of the files. -/
def doneD (D : DS) (e : Int) (fs' : List FE) : DS × Int :=
  if D.dead = true then (D, 9) else if e ≠ 0 then (D, e) else if D.arm = 0 then (⟨D.fs, D.room, D.arm, true⟩, 9) else (⟨fs', D.room, armN D.arm, D.dead⟩, 0)
def appendD (D : DS) (x ys : List UInt8) : DS × Int :=
  if D.dead = true then (D, 9) else if D.room < usedF D.fs + ys.length then (D, 8) else if D.arm = 0 then (⟨appF x ys D.fs, D.room, D.arm, true⟩, 9) else (⟨appF x ys D.fs, D.room, armN D.arm, D.dead⟩, 0)
def syncD (D : DS) (x : List UInt8) : DS × Int := doneD D (noneE x D.fs) (syncF x D.fs)
def removeD (D : DS) (x : List UInt8) : DS × Int := doneD D (noneE x D.fs) (delF x D.fs)
def cutD (D : DS) (x : List UInt8) (z : Int) : DS × Int := doneD D (cutE6 x z D.fs) (cutF x z.toNat D.fs)
def renameD (D : DS) (x y : List UInt8) : DS × Int := doneD D (noneE x D.fs) (renF x y D.fs)
def readD (D : DS) (x : List UInt8) : List UInt8 × Int := if D.dead = true then ([], 9) else match getF x D.fs with | none => ([], 6) | some g => (g.1, 0)
def listD (D : DS) (pre : List UInt8) : List (List UInt8) := if D.dead = true then [] else (D.fs.map (·.1)).filter fun x => Lib.hasPrefix x pre
def armD (D : DS) (n : Int) : DS := if D.dead = true then D else ⟨D.fs, D.room, if n < 0 then -1 else n, D.dead⟩
def crashD (D : DS) (ks : List Int) : DS := ⟨(crP ks D.fs).1, D.room, -1, false⟩

theorem appF_up {x ys : List UInt8} {fs : List FE} (h : risingF fs) : risingF (appF x ys fs) := by unfold appF; split <;> exact putF_up h
theorem syncF_up {x : List UInt8} {fs : List FE} (h : risingF fs) : risingF (syncF x fs) := by unfold syncF; split; exact h; exact putF_up h
theorem cutF_up {x : List UInt8} {k : Nat} {fs : List FE} (h : risingF fs) : risingF (cutF x k fs) := by unfold cutF; split; exact h; exact putF_up h
theorem renF_up {x y : List UInt8} {fs : List FE} (h : risingF fs) : risingF (renF x y fs) := by
  unfold renF; split
  · exact h
  · split
    · exact h
    · exact putF_up (delF_up (delF_up h))
theorem appF_used {x ys : List UInt8} {fs : List FE} (h : risingF fs) : usedF (appF x ys fs) = usedF fs + ys.length := by
  unfold appF
  split
  · next e => rw [usedF_put_new (getF_no e)]
  · next g e =>
    have := usedF_put_old (f := (x, g)) (g := (x, g.1 ++ ys, g.2)) rfl h (getF_mem e)
    simp only [List.length_append] at this
    omega
theorem syncF_used {x : List UInt8} {fs : List FE} (h : risingF fs) : usedF (syncF x fs) = usedF fs := by
  unfold syncF
  split
  · rfl
  · next g e =>
    have := usedF_put_old (f := (x, g)) (g := (x, g.1, g.1.length)) rfl h (getF_mem e)
    simp only at this
    omega
theorem cutF_used {x : List UInt8} {k : Nat} {fs : List FE} (h : risingF fs) {g : List UInt8 × Nat} (e : getF x fs = some g) (hk : k ≤ g.1.length) : usedF (cutF x k fs) + (g.1.length - k) = usedF fs := by
  have e2 : cutF x k fs = putF (x, g.1.take k, k) fs := by rw [cutF, e]
  rw [e2]
  have := usedF_put_old (f := (x, g)) (g := (x, g.1.take k, k)) rfl h (getF_mem e)
  simp only [List.length_take] at this
  omega
theorem getF_del_ne {x y : List UInt8} {fs : List FE} (h : x ≠ y) (hu : risingF fs) : getF x (delF y fs) = getF x fs := by
  cases e : getF x fs with
  | none => exact getF_none_of (fun f hf => getF_no e f (mem_delF.1 hf).1)
  | some g => exact getF_of (delF_up hu) (f := (x, g)) (mem_delF.2 ⟨getF_mem e, h⟩)
theorem renF_used {x y : List UInt8} {fs : List FE} (h : risingF fs) (hne : x ≠ y) {g : List UInt8 × Nat} (e : getF x fs = some g) : usedF (renF x y fs) + lenF y fs = usedF fs := by
  have e2 : renF x y fs = putF (y, g.1, g.2) (delF x (delF y fs)) := by rw [renF, if_neg hne, e]
  rw [e2, usedF_put_new (fun q hq => (mem_delF.1 (mem_delF.1 hq).1).2)]
  have h1 := usedF_delx y h
  have h2 := usedF_delx x (delF_up (x := y) h)
  rw [lenF_some (g := g) (by rw [getF_del_ne hne h, e])] at h2
  simp only
  omega
theorem lenF_le (x : List UInt8) (fs : List FE) : lenF x fs ≤ usedF fs := by
  cases h : getF x fs with
  | none => rw [lenF_none h]; omega
  | some g => rw [lenF_some h]; exact usedF_mem (getF_mem h)
theorem renF_used_le {x y : List UInt8} {fs : List FE} (h : risingF fs) : usedF (renF x y fs) ≤ usedF fs := by
  by_cases hne : x = y
  · rw [renF, if_pos hne]; omega
  · cases e : getF x fs with
    | none => rw [renF, if_neg hne, e]; exact Nat.le_refl _
    | some g => have := renF_used h hne e; omega
theorem lenR_val (x : List UInt8) (rs : List FR) (hu : rsUp rs) : lenR x rs = lenF x (rs.map FR.val) := by
  have hu2 : risingF (rs.map FR.val) := by
    unfold risingF
    rw [List.pairwise_map]
    exact hu
  by_cases hx : ∃ r ∈ rs, r.name = x
  · obtain ⟨r, hr, rfl⟩ := hx
    have h : getF r.name (rs.map FR.val) = some (r.dat, r.saf) := getF_of hu2 (f := r.val) (List.mem_map.2 ⟨r, hr, rfl⟩)
    rw [lenR_some hu hr, lenF_some h]
  · have h0 : ∀ r ∈ rs, r.name ≠ x := fun r hr e => hx ⟨r, hr, e⟩
    rw [(lenR_none h0).1, lenF_none (getF_none_of (fun f hf => by
      obtain ⟨r, hr, rfl⟩ := List.mem_map.1 hf
      exact h0 r hr))]
end Go.Proofs.Ytfffcpbldjoemaa
namespace Go.Proofs.Ytfffcpbldjoemaa
open Go Go.RowKit Go.Maps

def Ar (D : DS) (left : Int) (armed : Bool) : Prop :=
  (D.dead = false → armed = decide (0 ≤ D.arm) ∧ (0 ≤ D.arm → left = D.arm)) ∧ (0 ≤ left ∧ left ≤ 9223372036854775807) ∧ (-1 ≤ D.arm ∧ D.arm ≤ 9223372036854775807)
/-- 'The disk at block p is D, and lies in the blocks bl.' -/
def DK (w : World) (p : Nat) (bl : List Nat) (D : DS) : Prop :=
  ∃ m rs left armed, DskR w p m rs (D.room : Int) (usedF D.fs : Int) left D.dead armed ∧ bl = allB p m rs ∧ rs.map FR.val = D.fs ∧ Ar D left armed ∧ risingF D.fs ∧ usedF D.fs ≤ D.room ∧ D.room ≤ 9223372036854775807
/-- 'The disk is of a size that can be.' -/
def SzD (D : DS) : Prop := usedF D.fs ≤ 1099511627776 ∧ D.fs.length ≤ 1099511627776 ∧ ∀ f ∈ D.fs, f.1.length ≤ 1099511627776
def RetDK (w : World) (p : Nat) (bl : List Nat) (D : DS) (v : Value) (e : Ending) (w' : World) : Prop :=
  e = .returned v ∧ ∃ bl', DK w' p bl' D ∧ Fr w w' bl ∧ ∀ b ∈ bl', b ∈ bl ∨ w.heap.size ≤ b

section
variable {w w' : World} {p : Nat} {bl : List Nat} {D : DS}
theorem DK.fr {bl2 : List Nat} (h : DK w p bl D) (hf : Fr w w' bl2) (ho : ∀ b ∈ bl, b ∉ bl2) : DK w' p bl D := by
  obtain ⟨m, rs, left, armed, h1, rfl, h3⟩ := h
  exact ⟨m, rs, left, armed, h1.fr hf ho, rfl, h3⟩
theorem DK.lt (h : DK w p bl D) : ∀ b ∈ bl, b < w.heap.size := by
  obtain ⟨m, rs, left, armed, h1, rfl, h3⟩ := h
  exact h1.lt
theorem DK.below (h : DK w p bl D) (hb : Below w.heap.size w w') : DK w' p bl D := h.fr (Fr.of_below hb []) (fun _ _ h => by cases h)
theorem DK.drewN (h : DK w p bl D) (q : Nat) : DK (w.drewN q) p bl D := h.fr (Fr.drewN (Fr.refl w []) q) (fun _ _ h => by cases h)
theorem DK.grown {row : Option Nat} (h : DK w p bl D) (hg : w.grownBy w' row) (hr : ∀ b, row = some b → b ∉ bl) : DK w' p bl D :=
  h.fr (Fr.of_grown (bl := row.toList) hg (fun b hb => by rw [hb]; simp)) (fun b hb hm => by
    cases row with
    | none => simp at hm
    | some k => simp at hm; exact hr k rfl (by rw [← hm]; exact hb))
theorem DK.up (h : DK w p bl D) : risingF D.fs := by obtain ⟨_, _, _, _, _, _, _, _, h, _⟩ := h; exact h
theorem DK.room (h : DK w p bl D) : usedF D.fs ≤ D.room ∧ D.room ≤ 9223372036854775807 := by obtain ⟨_, _, _, _, _, _, _, _, _, h⟩ := h; exact h
theorem DK.arm (h : DK w p bl D) : -1 ≤ D.arm ∧ D.arm ≤ 9223372036854775807 := by obtain ⟨_, _, _, _, _, _, _, h, _⟩ := h; exact h.2.2
theorem DK.saf (h : DK w p bl D) : ∀ f ∈ D.fs, f.2.2 ≤ f.2.1.length := by
  obtain ⟨m, rs, left, armed, h1, rfl, h3, _⟩ := h
  intro f hf
  rw [← h3] at hf
  obtain ⟨r, hr, rfl⟩ := List.mem_map.1 hf
  exact (h1.2.2.1 r hr).2.2
theorem DK.head (h : DK w p bl D) : p ∈ bl := by
  obtain ⟨m, rs, left, armed, h1, rfl, h3, _⟩ := h
  exact mem_head
/-- What turn makes of an armed one. -/
theorem Ar.kill {left : Int} {armed : Bool} (h : Ar D left armed) (hd : D.dead = false) (h0 : D.arm = 0) : armed = true ∧ left = 0 ∧ tE armed left = 9 ∧ tL armed left = 0 ∧ tD false armed left = true ∧ tA armed left = false := by
  have h1 := (h.1 hd).1
  have h2 := (h.1 hd).2 (by omega)
  rw [h0] at h1 h2
  subst h1 h2
  exact ⟨rfl, rfl, rfl, rfl, rfl, rfl⟩
theorem Ar.step {left : Int} {armed : Bool} (h : Ar D left armed) (hd : D.dead = false) (h0 : D.arm ≠ 0) (fs' : List FE) :
    tE armed left = 0 ∧ tD false armed left = false ∧ tA armed left = armed ∧ Ar ⟨fs', D.room, armN D.arm, D.dead⟩ (tL armed left) armed := by
  obtain ⟨h1, h2, h3⟩ := h
  obtain ⟨h4, h5⟩ := h1 hd
  by_cases hn : 0 ≤ D.arm
  · have e1 : armed = true := by rw [h4]; simpa using hn
    have e2 := h5 hn
    subst e1 e2
    refine ⟨by simp [tE, h0], by simp [tD, h0], by simp [tA, h0], fun _ => ⟨?_, fun _ => ?_⟩, ?_, ?_⟩
    · simp only [armN]; split <;> simp <;> omega
    · simp only [armN, tL]; rw [if_pos ⟨trivial, h0⟩, if_pos (by omega)]
    · simp only [tL]; rw [if_pos ⟨trivial, h0⟩]; omega
    · simp only [armN]; split <;> omega
  · have e1 : armed = false := by rw [h4]; simpa using hn
    subst e1
    refine ⟨by simp [tE], by simp [tD], by simp [tA], fun _ => ⟨?_, fun h => ?_⟩, ?_, ?_⟩
    · simp only [armN]; split <;> simp <;> omega
    · simp only [armN] at h; split at h <;> omega
    · simp only [tL]; simp only [Bool.false_eq_true, false_and, if_false]; exact h2
    · simp only [armN]; split <;> omega
theorem Ar.dead {left : Int} (hl : 0 ≤ left ∧ left ≤ 9223372036854775807) (ha : -1 ≤ D.arm ∧ D.arm ≤ 9223372036854775807) (fs' : List FE) (armed : Bool) : Ar ⟨fs', D.room, D.arm, true⟩ left armed :=
  ⟨fun h => Bool.noConfusion h, hl, ha⟩
theorem upR {rs : List FR} {fs : List FE} (e : rs.map FR.val = fs) (h : risingF fs) : rsUp rs := rsUp_of (by rw [e]; exact h)
theorem no_name {rs : List FR} {fs : List FE} {x : List UInt8} (e : rs.map FR.val = fs) (h : getF x fs = none) : ∀ r ∈ rs, r.name ≠ x := fun r hr hx =>
  getF_no h r.val (by rw [← e]; exact List.mem_map.2 ⟨r, hr, rfl⟩) hx
theorem at_name {rs : List FR} {fs : List FE} {x : List UInt8} {g : List UInt8 × Nat} (e : rs.map FR.val = fs) (h : getF x fs = some g) : ∃ r ∈ rs, r.name = x ∧ r.dat = g.1 ∧ r.saf = g.2 := by
  obtain ⟨r, hr, e1, e2, e3⟩ := of_name e (getF_mem h)
  exact ⟨r, hr, e1, e2, e3⟩
theorem maxLen_ge {n : Nat} (h : n ≤ 1099511627776) : n ≤ maxLen := by unfold maxLen; omega
theorem putR_fs {rs : List FR} {fs : List FE} {r' : FR} {x dat : List UInt8} {saf : Nat} (e : rs.map FR.val = fs) (h1 : r'.name = x) (h2 : r'.dat = dat) (h3 : r'.saf = saf) : (putR r' rs).map FR.val = putF (x, dat, saf) fs := by
  rw [putR_val, e]
  unfold FR.val
  rw [h1, h2, h3]

/-- A call that did nothing. -/
theorem RetDK.stay {D : DS} {v : Value} (h : DK w p bl D) (hf : Fr w w' bl) (hw : w'.heap = w.heap) : RetDK w p bl D v (.returned v) w' := by
  refine ⟨rfl, bl, ?_, hf, fun b hb => .inl hb⟩
  exact h.fr (bl2 := []) ⟨hf.os, hf.tape, hf.output, hf.size, fun k _ _ => by rw [hw]⟩ (fun _ _ h => by cases h)

theorem append_DK (x : List UInt8) (B : Option Addr) (n c : Nat) (ys : List UInt8) (h : DK w p bl D) (hz : SzD D) (hB : Rd w B n ys) (hBo : ∀ b, blk B = some b → b ∉ bl) (hn : n ≤ 1099511627776) (hx : x.length ≤ 1099511627776) :
    Calls Try.prog 8 #[.pointer (some ⟨p, 0, none⟩), .string (tx x), .slice B n c] w (RetDK w p bl (appendD D x ys).1 (.int .i64 (appendD D x ys).2)) := by
  have hk := h
  obtain ⟨m, rs, left, armed, h1, rfl, h3, h4, h5, h6, h7⟩ := h
  have hl := hB.len
  obtain ⟨s1, s2, s3⟩ := hz
  by_cases hd : D.dead = true
  · have e : appendD D x ys = (D, 9) := by rw [appendD, if_pos hd]
    rw [e]
    rw [hd] at h1
    refine (append_dead x B n c h1).mono ?_
    rintro e w' ⟨rfl, rfl⟩
    exact RetDK.stay hk (Fr.refl _ _) rfl
  · have hd' : D.dead = false := by simpa using hd
    rw [hd'] at h1
    by_cases hf : D.room < usedF D.fs + n
    · have e : appendD D x ys = (D, 8) := by rw [appendD, if_neg hd, hl, if_pos hf]
      rw [e]
      refine (append_full x B n c _ _ h1 hf h6 h7 (maxLen_ge hx)).mono ?_
      rintro e w' ⟨rfl, q, rfl⟩
      exact RetDK.stay hk ((Fr.refl _ _).drewN q) rfl
    · have hup := upR h3 h5
      have huse := appF_used (x := x) (ys := ys) h5
      have hupf := appF_up (x := x) (ys := ys) h5
      cases hg : getF x D.fs with
      | none =>
        have hfs : appF x ys D.fs = putF (x, ys, 0) D.fs := by rw [appF, hg]
        refine (append_new x B n c ys _ _ h1 hup (no_name h3 hg) hB hBo (by omega) h7 hn hx (by rw [← List.length_map (f := FR.val), h3]; exact s2) h4.2.1).mono ?_
        rintro e w' ⟨rfl, r', m', g1, g2, g3, g4, g5, g6⟩
        have hv : (putR r' rs).map FR.val = appF x ys D.fs := by rw [hfs]; exact putR_fs h3 g1 g2 g3
        by_cases h0 : D.arm = 0
        · obtain ⟨k1, k2, k3, k4, k5, k6⟩ := h4.kill hd' h0
          have e : appendD D x ys = (⟨appF x ys D.fs, D.room, D.arm, true⟩, 9) := by rw [appendD, if_neg hd, hl, if_neg hf, if_pos h0]
          rw [e, k3]
          rw [k4, k5, k6] at g4
          refine ⟨rfl, _, ⟨m', _, 0, false, ?_, rfl, hv, Ar.dead (by omega) h4.2.2 _ _, hupf, ?_, h7⟩, g5, g6⟩
          · simp only [huse, hl]; exact g4
          · simp only; omega
        · obtain ⟨k1, k2, k3, k4⟩ := h4.step hd' h0 (appF x ys D.fs)
          have e : appendD D x ys = (⟨appF x ys D.fs, D.room, armN D.arm, D.dead⟩, 0) := by rw [appendD, if_neg hd, hl, if_neg hf, if_neg h0]
          rw [e, k1]
          rw [k2, k3] at g4
          refine ⟨rfl, _, ⟨m', _, _, armed, ?_, rfl, hv, k4, hupf, ?_, h7⟩, g5, g6⟩
          · simp only [huse, hl, hd']; exact g4
          · simp only; omega
      | some g =>
        have hfs : appF x ys D.fs = putF (x, g.1 ++ ys, g.2) D.fs := by rw [appF, hg]
        obtain ⟨r, hr, r1, r2, r3⟩ := at_name h3 hg
        have hgl : g.1.length ≤ usedF D.fs := usedF_mem (getF_mem hg)
        subst r1
        refine (append_old B n c ys _ _ h1 hup hr hB (by omega) h7 hn (by rw [r2]; omega) (maxLen_ge hx) h4.2.1).mono ?_
        rintro e w' ⟨rfl, r', g1, g2, g3, g4, g5, g6⟩
        rw [r2] at g2
        rw [r3] at g3
        have hv : (putR r' rs).map FR.val = appF r.name ys D.fs := by rw [hfs]; exact putR_fs h3 g1 g2 g3
        by_cases h0 : D.arm = 0
        · obtain ⟨k1, k2, k3, k4, k5, k6⟩ := h4.kill hd' h0
          have e : appendD D r.name ys = (⟨appF r.name ys D.fs, D.room, D.arm, true⟩, 9) := by rw [appendD, if_neg hd, hl, if_neg hf, if_pos h0]
          rw [e, k3]
          rw [k4, k5, k6] at g4
          refine ⟨rfl, _, ⟨m, _, 0, false, ?_, rfl, hv, Ar.dead (by omega) h4.2.2 _ _, hupf, ?_, h7⟩, g5, g6⟩
          · simp only [huse, hl]; exact g4
          · simp only; omega
        · obtain ⟨k1, k2, k3, k4⟩ := h4.step hd' h0 (appF r.name ys D.fs)
          have e : appendD D r.name ys = (⟨appF r.name ys D.fs, D.room, armN D.arm, D.dead⟩, 0) := by rw [appendD, if_neg hd, hl, if_neg hf, if_neg h0]
          rw [e, k1]
          rw [k2, k3] at g4
          refine ⟨rfl, _, ⟨m, _, _, armed, ?_, rfl, hv, k4, hupf, ?_, h7⟩, g5, g6⟩
          · simp only [huse, hl, hd']; exact g4
          · simp only; omega

theorem doneD_dead {e : Int} {fs' : List FE} (h : D.dead = true) : doneD D e fs' = (D, 9) := by rw [doneD, if_pos h]
theorem doneD_err {e : Int} {fs' : List FE} (h : ¬ D.dead = true) (he : e ≠ 0) : doneD D e fs' = (D, e) := by rw [doneD, if_neg h, if_pos he]
theorem doneD_kill {fs' : List FE} (h : ¬ D.dead = true) (h0 : D.arm = 0) : doneD D 0 fs' = (⟨D.fs, D.room, D.arm, true⟩, 9) := by rw [doneD, if_neg h, if_neg (by simp), if_pos h0]
theorem doneD_ok {fs' : List FE} (h : ¬ D.dead = true) (h0 : D.arm ≠ 0) : doneD D 0 fs' = (⟨fs', D.room, armN D.arm, D.dead⟩, 0) := by rw [doneD, if_neg h, if_neg (by simp), if_neg h0]
theorem noneE_none {x : List UInt8} {fs : List FE} (h : getF x fs = none) : noneE x fs = 6 := by rw [noneE, h]; rfl
theorem noneE_some {x : List UInt8} {fs : List FE} {g : List UInt8 × Nat} (h : getF x fs = some g) : noneE x fs = 0 := by rw [noneE, h]; rfl
/-- A turning call that kills the disk. -/
theorem DK.killed {m : Option Nat} {rs : List FR} {left : Int} (h1 : DskR w p m rs (D.room : Int) (usedF D.fs : Int) left false true) (h3 : rs.map FR.val = D.fs) (ha : -1 ≤ D.arm ∧ D.arm ≤ 9223372036854775807) (h5 : risingF D.fs) (h6 : usedF D.fs ≤ D.room) (h7 : D.room ≤ 9223372036854775807)
    {v : Value} {e : Ending} (hr : RetHd w p (headV m (D.room : Int) (usedF D.fs : Int) 0 true false) v e w') : RetDK w p (allB p m rs) ⟨D.fs, D.room, D.arm, true⟩ v e w' := by
  obtain ⟨rfl, hd⟩ := hr
  refine ⟨rfl, _, ⟨m, rs, 0, false, h1.turn hd.1 hd.2, rfl, h3, Ar.dead (by omega) ha _ _, h5, h6, h7⟩, hd.1.mono (fun b hb => .inl ?_), fun b hb => .inl hb⟩
  rw [List.mem_singleton] at hb
  rw [hb]
  exact mem_head
theorem RetDK.no {k : Int} {e : Ending} (h : DK w p bl D) (hr : RetNo w k e w') : RetDK w p bl D (.int .i64 k) e w' := by
  obtain ⟨rfl, rfl⟩ := hr
  exact RetDK.stay h (Fr.refl _ _) rfl

theorem sync_DK (x : List UInt8) (h : DK w p bl D) (hx : x.length ≤ 1099511627776) :
    Calls Try.prog 9 #[.pointer (some ⟨p, 0, none⟩), .string (tx x)] w (RetDK w p bl (syncD D x).1 (.int .i64 (syncD D x).2)) := by
  have hk := h
  obtain ⟨m, rs, left, armed, h1, rfl, h3, h4, h5, h6, h7⟩ := h
  unfold syncD
  by_cases hd : D.dead = true
  · rw [doneD_dead hd]
    rw [hd] at h1
    exact (sync_dead x h1).mono fun e w' hr => RetDK.no hk hr
  · have hd' : D.dead = false := by simpa using hd
    rw [hd'] at h1
    have hup := upR h3 h5
    cases hg : getF x D.fs with
    | none =>
      rw [noneE_none hg, doneD_err hd (by decide)]
      exact (sync_none x h1 (no_name h3 hg) (maxLen_ge hx)).mono fun e w' hr => RetDK.no hk hr
    | some g =>
      rw [noneE_some hg]
      obtain ⟨r, hr, r1, r2, r3⟩ := at_name h3 hg
      subst r1
      by_cases h0 : D.arm = 0
      · rw [doneD_kill hd h0]
        obtain ⟨k1, k2, _⟩ := h4.kill hd' h0
        subst k1 k2
        exact (sync_kill h1 hr (maxLen_ge hx)).mono fun e w' hr => DK.killed h1 h3 h4.2.2 h5 h6 h7 hr
      · rw [doneD_ok hd h0]
        obtain ⟨k1, k2, k3, k4⟩ := h4.step hd' h0 (syncF r.name D.fs)
        refine (sync_some h1 hup hr (maxLen_ge hx) h4.2.1 k1).mono ?_
        rintro e w' ⟨rfl, r', g1, g2, g3, g4, g5, g6⟩
        rw [r2] at g2 g3
        have hv : (putR r' rs).map FR.val = syncF r.name D.fs := by rw [syncF, hg]; exact putR_fs h3 g1 g2 g3
        refine ⟨rfl, _, ⟨m, _, _, armed, ?_, rfl, hv, k4, syncF_up h5, ?_, h7⟩, g5, g6⟩
        · simp only [syncF_used h5, hd']; exact g4
        · simp only [syncF_used h5]; exact h6

theorem remove_DK (x : List UInt8) (h : DK w p bl D) (hx : x.length ≤ 1099511627776) :
    Calls Try.prog 34 #[.pointer (some ⟨p, 0, none⟩), .string (tx x)] w (RetDK w p bl (removeD D x).1 (.int .i64 (removeD D x).2)) := by
  have hk := h
  obtain ⟨m, rs, left, armed, h1, rfl, h3, h4, h5, h6, h7⟩ := h
  unfold removeD
  by_cases hd : D.dead = true
  · rw [doneD_dead hd]
    rw [hd] at h1
    exact (remove_dead x h1).mono fun e w' hr => RetDK.no hk hr
  · have hd' : D.dead = false := by simpa using hd
    rw [hd'] at h1
    have hup := upR h3 h5
    cases hg : getF x D.fs with
    | none =>
      rw [noneE_none hg, doneD_err hd (by decide)]
      exact (remove_none x h1 (no_name h3 hg) (maxLen_ge hx)).mono fun e w' hr => RetDK.no hk hr
    | some g =>
      rw [noneE_some hg]
      obtain ⟨r, hr, r1, r2, r3⟩ := at_name h3 hg
      subst r1
      by_cases h0 : D.arm = 0
      · rw [doneD_kill hd h0]
        obtain ⟨k1, k2, _⟩ := h4.kill hd' h0
        subst k1 k2
        exact (remove_kill h1 hr (maxLen_ge hx)).mono fun e w' hr => DK.killed h1 h3 h4.2.2 h5 h6 h7 hr
      · rw [doneD_ok hd h0]
        obtain ⟨k1, k2, k3, k4⟩ := h4.step hd' h0 (delF r.name D.fs)
        have hgl : g.1.length ≤ usedF D.fs := usedF_mem (getF_mem hg)
        have hdu := usedF_delx r.name h5
        rw [lenF_some hg] at hdu
        refine (remove_some _ h1 hup hr (maxLen_ge hx) h4.2.1 k1 (by rw [r2]; exact hgl) (by omega)).mono ?_
        rintro e w' ⟨rfl, g4, g5⟩
        have hv : (delR r.name rs).map FR.val = delF r.name D.fs := by rw [delR_val, h3]
        have hu' : usedF (delF r.name D.fs) = usedF D.fs - r.dat.length := by rw [r2]; omega
        refine ⟨rfl, _, ⟨m, _, _, armed, ?_, rfl, hv, k4, delF_up h5, ?_, h7⟩, g5, fun b hb => .inl (mem_delB hb)⟩
        · simp only [hu', hd']; exact g4
        · simp only; omega

theorem cut_DK (x : List UInt8) (z : Int) (h : DK w p bl D) (hz : SzD D) (hx : x.length ≤ 1099511627776) :
    Calls Try.prog 23 #[.pointer (some ⟨p, 0, none⟩), .string (tx x), .int .i64 z] w (RetDK w p bl (cutD D x z).1 (.int .i64 (cutD D x z).2)) := by
  have hk := h
  obtain ⟨m, rs, left, armed, h1, rfl, h3, h4, h5, h6, h7⟩ := h
  unfold cutD
  by_cases hd : D.dead = true
  · rw [doneD_dead hd]
    rw [hd] at h1
    exact (cut_dead x z h1).mono fun e w' hr => RetDK.no hk hr
  · have hd' : D.dead = false := by simpa using hd
    rw [hd'] at h1
    have hup := upR h3 h5
    cases hg : getF x D.fs with
    | none =>
      by_cases hn : z < 0
      · have e : cutE6 x z D.fs = 1 := by rw [cutE6, hg]; simp [hn]
        rw [e, doneD_err hd (by decide)]
        exact (cut_none_arg x z h1 (no_name h3 hg) (maxLen_ge hx) hn).mono fun e w' hr => RetDK.no hk hr
      · have e : cutE6 x z D.fs = 6 := by rw [cutE6, hg]; simp [hn]
        rw [e, doneD_err hd (by decide)]
        exact (cut_none x z h1 (no_name h3 hg) (maxLen_ge hx) hn).mono fun e w' hr => RetDK.no hk hr
    | some g =>
      obtain ⟨r, hr, r1, r2, r3⟩ := at_name h3 hg
      subst r1
      by_cases hn : z < 0 ∨ (g.1.length : Int) < z
      · have e : cutE6 r.name z D.fs = 1 := by rw [cutE6, hg]; simp [hn]
        rw [e, doneD_err hd (by decide)]
        exact (cut_arg z h1 hr (maxLen_ge hx) (by rw [r2]; exact hn)).mono fun e w' hr => RetDK.no hk hr
      · have e : cutE6 r.name z D.fs = 0 := by rw [cutE6, hg]; simp only; rw [if_neg hn]
        rw [e]
        obtain ⟨k, rfl⟩ : ∃ k : Nat, z = (k : Int) := ⟨z.toNat, by omega⟩
        have hkl : k ≤ g.1.length := by omega
        rw [Int.toNat_natCast]
        by_cases h0 : D.arm = 0
        · rw [doneD_kill hd h0]
          obtain ⟨k1, k2, _⟩ := h4.kill hd' h0
          subst k1 k2
          exact (cut_kill k h1 hr (maxLen_ge hx) (by rw [r2]; exact hkl)).mono fun e w' hr => DK.killed h1 h3 h4.2.2 h5 h6 h7 hr
        · rw [doneD_ok hd h0]
          obtain ⟨k1, k2, k3, k4⟩ := h4.step hd' h0 (cutF r.name k D.fs)
          have hgl : g.1.length ≤ usedF D.fs := usedF_mem (getF_mem hg)
          have hcu := cutF_used h5 hg hkl
          obtain ⟨s1, _⟩ := hz
          refine (cut_some k _ h1 hup hr (maxLen_ge hx) h4.2.1 k1 (by rw [r2]; exact hkl) (by rw [r2]; exact hgl) (by omega) (by rw [r2]; omega)).mono ?_
          rintro e w' ⟨rfl, r', g1, g2, g3, g4, g5, g6⟩
          rw [r2] at g2
          have hv : (putR r' rs).map FR.val = cutF r.name k D.fs := by rw [cutF, hg]; exact putR_fs h3 g1 g2 g3
          have hu' : usedF (cutF r.name k D.fs) = usedF D.fs - (r.dat.length - k) := by rw [r2]; omega
          refine ⟨rfl, _, ⟨m, _, _, armed, ?_, rfl, hv, k4, cutF_up h5, ?_, h7⟩, g5, g6⟩
          · simp only [hu', hd']; exact g4
          · simp only; omega

theorem rename_DK (x y : List UInt8) (h : DK w p bl D) (hz : SzD D) (hx : x.length ≤ 1099511627776) (hy : y.length ≤ 1099511627776) :
    Calls Try.prog 33 #[.pointer (some ⟨p, 0, none⟩), .string (tx x), .string (tx y)] w (RetDK w p bl (renameD D x y).1 (.int .i64 (renameD D x y).2)) := by
  have hk := h
  obtain ⟨m, rs, left, armed, h1, rfl, h3, h4, h5, h6, h7⟩ := h
  unfold renameD
  by_cases hd : D.dead = true
  · rw [doneD_dead hd]
    rw [hd] at h1
    exact (rename_dead x y h1).mono fun e w' hr => RetDK.no hk hr
  · have hd' : D.dead = false := by simpa using hd
    rw [hd'] at h1
    have hup := upR h3 h5
    cases hg : getF x D.fs with
    | none =>
      rw [noneE_none hg, doneD_err hd (by decide)]
      exact (rename_none x y h1 (no_name h3 hg) (maxLen_ge hx)).mono fun e w' hr => RetDK.no hk hr
    | some g =>
      rw [noneE_some hg]
      obtain ⟨r, hr, r1, r2, r3⟩ := at_name h3 hg
      subst r1
      by_cases h0 : D.arm = 0
      · rw [doneD_kill hd h0]
        obtain ⟨k1, k2, _⟩ := h4.kill hd' h0
        subst k1 k2
        exact (rename_kill y h1 hr (maxLen_ge hx)).mono fun e w' hr => DK.killed h1 h3 h4.2.2 h5 h6 h7 hr
      · rw [doneD_ok hd h0]
        obtain ⟨k1, k2, k3, k4⟩ := h4.step hd' h0 (renF r.name y D.fs)
        by_cases hne : r.name = y
        · subst hne
          have e1 : renF r.name r.name D.fs = D.fs := by rw [renF, if_pos rfl]
          rw [e1] at k4 ⊢
          refine (rename_same h1 hr (maxLen_ge hx) h4.2.1 k1).mono ?_
          rintro e w' ⟨rfl, hh⟩
          refine ⟨rfl, _, ⟨m, rs, _, armed, ?_, rfl, h3, k4, h5, h6, h7⟩, hh.1.mono (fun b hb => .inl ?_), fun b hb => .inl hb⟩
          · simp only [hd']
            exact h1.turn hh.1 hh.2
          · rw [List.mem_singleton] at hb
            rw [hb]
            exact mem_head
        · have hru := renF_used h5 hne hg
          have hll := lenF_le y D.fs
          have hlr := lenR_val y rs hup
          rw [h3] at hlr
          obtain ⟨s1, s2, _⟩ := hz
          refine (rename_some y _ h1 hup hr hx hy h4.2.1 k1 hne (by rw [hlr]; exact hll) (by omega) (by rw [← List.length_map (f := FR.val), h3]; exact s2)).mono ?_
          rintro e w' ⟨rfl, r', m', g1, g2, g3, g4, g5, g6⟩
          rw [r2] at g2
          rw [r3] at g3
          have hv : (putR r' (delR r.name (delR y rs))).map FR.val = renF r.name y D.fs := by
            rw [renF, if_neg hne, hg]
            exact putR_fs (by rw [delR_val, delR_val, h3]) g1 g2 g3
          have hu' : usedF (renF r.name y D.fs) = usedF D.fs - lenR y rs := by rw [hlr]; omega
          refine ⟨rfl, _, ⟨m', _, _, armed, ?_, rfl, hv, k4, renF_up h5, ?_, h7⟩, g5, g6⟩
          · simp only [hu', hd']; exact g4
          · simp only; omega

theorem read_DK (x : List UInt8) (h : DK w p bl D) (hz : SzD D) (hx : x.length ≤ 1099511627776) :
    Calls Try.prog 20 #[.pointer (some ⟨p, 0, none⟩), .string (tx x)] w (RetRd w (readD D x).1 (readD D x).2) := by
  obtain ⟨m, rs, left, armed, h1, rfl, h3, h4, h5, h6, h7⟩ := h
  unfold readD
  by_cases hd : D.dead = true
  · rw [if_pos hd]
    rw [hd] at h1
    exact read_dead x h1
  · rw [if_neg hd]
    have hd' : D.dead = false := by simpa using hd
    rw [hd'] at h1
    cases hg : getF x D.fs with
    | none => exact read_none x h1 (no_name h3 hg) (maxLen_ge hx)
    | some g =>
      obtain ⟨r, hr, r1, r2, r3⟩ := at_name h3 hg
      subst r1
      have hgl : g.1.length ≤ usedF D.fs := usedF_mem (getF_mem hg)
      have := read_some h1 hr (maxLen_ge hx) (by rw [r2]; have := hz.1; omega)
      rw [r2] at this
      exact this
theorem list_DK (pre : List UInt8) (h : DK w p bl D) (hz : SzD D) :
    Calls Try.prog 38 #[.pointer (some ⟨p, 0, none⟩), .string (tx pre)] w (RetNm w (listD D pre)) := by
  obtain ⟨m, rs, left, armed, h1, rfl, h3, h4, h5, h6, h7⟩ := h
  obtain ⟨s1, s2, s3⟩ := hz
  unfold listD
  by_cases hd : D.dead = true
  · rw [if_pos hd]
    rw [hd] at h1
    exact list_dead pre h1
  · rw [if_neg hd]
    have hd' : D.dead = false := by simpa using hd
    rw [hd'] at h1
    have e : (D.fs.map (·.1)).filter (fun x => Lib.hasPrefix x pre) = nmR pre rs := by
      rw [← h3, nmR, List.map_map]
      rfl
    rw [e]
    exact list_live pre h1 (upR h3 h5) (by rw [← List.length_map (f := FR.val), h3]; exact s2) (fun r hr => s3 r.val (by rw [← h3]; exact List.mem_map.2 ⟨r, hr, rfl⟩))
theorem used_DK (h : DK w p bl D) : Calls Try.prog 7 #[.pointer (some ⟨p, 0, none⟩)] w fun e' w' => e' = .returned (.int .i64 (usedF D.fs : Int)) ∧ w = w' := by
  obtain ⟨m, rs, left, armed, h1, _⟩ := h
  exact Used_any h1
theorem dead_DK (h : DK w p bl D) : Calls Try.prog 41 #[.pointer (some ⟨p, 0, none⟩)] w fun e' w' => e' = .returned (.bool D.dead) ∧ w = w' := by
  obtain ⟨m, rs, left, armed, h1, _⟩ := h
  exact Dead_any h1
theorem arm_DK (n : Int) (h : DK w p bl D) (hn : I64 n) :
    Calls Try.prog 17 #[.pointer (some ⟨p, 0, none⟩), .int .i64 n] w (RetDK w p bl (armD D n) (.tuple #[])) := by
  have hk := h
  obtain ⟨m, rs, left, armed, h1, rfl, h3, h4, h5, h6, h7⟩ := h
  unfold armD
  by_cases hd : D.dead = true
  · rw [if_pos hd]
    rw [hd] at h1
    refine (Arm_dead n h1).mono ?_
    rintro e w' ⟨rfl, rfl⟩
    exact RetDK.stay hk (Fr.refl _ _) rfl
  · rw [if_neg hd]
    have hd' : D.dead = false := by simpa using hd
    rw [hd'] at h1
    refine (Arm_live n h1 hn).mono ?_
    rintro e w' ⟨rfl, hh⟩
    unfold I64 at hn
    refine ⟨rfl, _, ⟨m, rs, max n 0, decide (0 ≤ n), ?_, rfl, h3, ⟨fun _ => ⟨?_, fun h => ?_⟩, by omega, ?_⟩, h5, h6, h7⟩, hh.1.mono (fun b hb => .inl ?_), fun b hb => .inl hb⟩
    · simp only [hd']
      exact h1.turn hh.1 hh.2
    · simp only; split <;> simp <;> omega
    · simp only at h ⊢; split at h <;> omega
    · simp only; split <;> omega
    · rw [List.mem_singleton] at hb
      rw [hb]
      exact mem_head
theorem cr_used (ks : List Int) : ∀ (l : List FE) (acc : List FE × Nat), usedF (l.foldl (crStep ks) acc).1 ≤ usedF acc.1 + usedF l
  | [], acc => by simp [usedF_nil]
  | f :: t, acc => by
    rw [List.foldl_cons]
    have h1 := cr_used ks t (crStep ks acc f)
    have h2 : usedF (crStep ks acc f).1 ≤ usedF acc.1 + f.2.1.length := by
      unfold crStep
      split
      · rw [usedF_app, usedF_cons, usedF_nil]; omega
      · rw [usedF_app, usedF_cons, usedF_nil]
        simp only [cutE, List.length_take]
        omega
    rw [usedF_cons]
    omega
theorem crP_used (ks : List Int) (l : List FE) : usedF (crP ks l).1 ≤ usedF l := by
  have := cr_used ks l ([], 0)
  simpa [crP, usedF_nil] using this
theorem crash_DK (K : Option Addr) (nk ck : Nat) (ks : List Int) (h : DK w p bl D) (hz : SzD D)
    (hK : RdV w K nk (ivs ks)) (hKo : 0 < nk → ∀ b, blk K = some b → b ∉ bl) (hnk : nk ≤ 1099511627776) (hkz : ∀ z ∈ ks, I64 z) :
    Calls Try.prog 19 #[.pointer (some ⟨p, 0, none⟩), .slice K nk ck] w (RetDK w p bl (crashD D ks) (.tuple #[])) := by
  obtain ⟨m, rs, left, armed, h1, rfl, h3, h4, h5, h6, h7⟩ := h
  obtain ⟨s1, s2, s3⟩ := hz
  rw [← h3] at h1 s1
  have := Crash_any K nk ck ks h1 (upR h3 h5) (by rw [← List.length_map (f := FR.val), h3]; exact s2) (fun r hr => s3 r.val (by rw [← h3]; exact List.mem_map.2 ⟨r, hr, rfl⟩)) s1 hK hKo hnk hkz
  rw [h3] at this
  refine this.mono ?_
  rintro e w' ⟨rfl, rs', e1, hD, hF, hB⟩
  have hu := crP_used ks D.fs
  refine ⟨rfl, _, ⟨m, rs', left, false, hD, rfl, e1, ⟨fun _ => ⟨rfl, fun h => ?_⟩, h4.2.1, show (-1 : Int) ≤ -1 by omega, show (-1 : Int) ≤ 9223372036854775807 by omega⟩, risingF_names (crP_names ks D.fs) h5, ?_, h7⟩, hF, hB⟩
  · exact absurd h (show ¬ (0 : Int) ≤ -1 by decide)
  · show usedF (crP ks D.fs).1 ≤ D.room; omega
def RetNK (w : World) (D : DS) (e : Ending) (w' : World) : Prop := ∃ p bl, e = .returned (.pointer (some ⟨p, 0, none⟩)) ∧ DK w' p bl D ∧ (∀ b ∈ bl, w.heap.size ≤ b) ∧ Below w.heap.size w w'
theorem new_DK (n : Int) (w : World) (hn : I64 n) : Calls Try.prog 10 #[.int .i64 n] w (RetNK w ⟨[], n.toNat, -1, false⟩) := by
  have hn2 := hn
  unfold I64 at hn
  have fin : RetNK w ⟨[], n.toNat, -1, false⟩ (.returned (.pointer (some ⟨w.heap.size, 0, none⟩))) (w.alloc (.cells (headV none (n.toNat : Int) 0 0 false false) 26)) :=
    ⟨w.heap.size, _, rfl, ⟨none, [], 0, false, DskR.init w _, rfl, rfl, ⟨fun _ => ⟨rfl, fun h => absurd h (show ¬ (0 : Int) ≤ -1 by decide)⟩, by omega, by simp only; omega⟩, List.Pairwise.nil, Nat.zero_le _, by simp only; omega⟩,
      (fun b hb => by simp [allB] at hb; omega), (Below.refl _ _).alloc (Nat.le_refl _) _⟩
  have HF := Lib.hid fin
  clear fin
  by_cases h0 : 0 ≤ n
  · have h2 : (n.toNat : Int) = n := by omega
    rw [h2] at HF
    have h3 : max n 0 = n := by omega
    go_enter Try.func10, Try.ntmps10
    go_wp2
    go_ret
    exact HF.out
  · have h2 : (n.toNat : Int) = 0 := by omega
    rw [h2] at HF
    have h3 : max n 0 = 0 := by omega
    go_enter Try.func10, Try.ntmps10
    go_wp2
    go_ret
    exact HF.out
theorem RetDK.step {w0 : World} {v : Value} {e : Ending} (hr : RetDK w p bl D v e w') (hb0 : Below w0.heap.size w0 w) (hB : ∀ b ∈ bl, w0.heap.size ≤ b) :
    e = .returned v ∧ ∃ bl', DK w' p bl' D ∧ Fr w w' bl ∧ (∀ b ∈ bl', b ∈ bl ∨ w.heap.size ≤ b) ∧ (∀ b ∈ bl', w0.heap.size ≤ b) ∧ Below w0.heap.size w0 w' := by
  obtain ⟨rfl, bl', h1, h2, h3⟩ := hr
  have hs := hb0.size
  exact ⟨rfl, bl', h1, h2, h3, fun b hb => by rcases h3 b hb with h | h; exact hB b h; omega, hb0.trans (h2.below hB hs)⟩
end
end Go.Proofs.Ytfffcpbldjoemaa
namespace Go.Proofs.Ytfffcpbldjoemaa
open Go Go.RowKit

theorem appendD_one {D : DS} {x c ys : List UInt8} {s : Nat} (hf : D.fs = [(x, c, s)]) (hd : D.dead = false) (hr : c.length + ys.length ≤ D.room) :
    appendD D x ys = if D.arm = 0 then (⟨[(x, c ++ ys, s)], D.room, D.arm, true⟩, 9) else (⟨[(x, c ++ ys, s)], D.room, armN D.arm, false⟩, 0) := by
  have e : appF x ys D.fs = [(x, c ++ ys, s)] := by
    rw [hf, appF]
    simp [getF, putF]
  rw [appendD, if_neg (by rw [hd]; decide), if_neg (by rw [hf, usedF_cons, usedF_nil]; simp only; omega), e, hd]
theorem syncD_one {D : DS} {x c : List UInt8} {s : Nat} (hf : D.fs = [(x, c, s)]) (hd : D.dead = false) :
    syncD D x = if D.arm = 0 then (⟨[(x, c, s)], D.room, D.arm, true⟩, 9) else (⟨[(x, c, c.length)], D.room, armN D.arm, false⟩, 0) := by
  have e : syncF x D.fs = [(x, c, c.length)] := by
    rw [hf, syncF]
    simp [getF, putF]
  have e2 : noneE x D.fs = 0 := by rw [hf]; simp [noneE, getF]
  rw [syncD, doneD, if_neg (by rw [hd]; decide), e2, if_neg (by decide), e, hd, hf]
theorem crashD_one {D : DS} {x c : List UInt8} {s : Nat} (hf : D.fs = [(x, c, s)]) (hs : s ≤ c.length) (ks : List Int) :
    ∃ t, s ≤ t ∧ t ≤ c.length ∧ crashD D ks = ⟨[(x, c.take t, t)], D.room, -1, false⟩ := by
  by_cases h : c.length = s
  · refine ⟨s, Nat.le_refl _, hs, ?_⟩
    rw [crashD, hf]
    simp [crP, crStep, h, List.take_of_length_le]
  · have hk := keepN_le ks 0 (c.length - s)
    refine ⟨s + keepN ks 0 (c.length - s), by omega, by omega, ?_⟩
    rw [crashD, hf]
    simp [crP, crStep, h, cutE]
theorem readD_one {D : DS} {x c : List UInt8} {s : Nat} (hf : D.fs = [(x, c, s)]) (hd : D.dead = false) : readD D x = (c, 0) := by
  rw [readD, if_neg (by rw [hd]; decide), hf]
  simp [getF]
theorem cutD_one {D : DS} {x c : List UInt8} {s k : Nat} (hf : D.fs = [(x, c, s)]) (hd : D.dead = false) (ha : D.arm = -1) (hk : k ≤ c.length) :
    cutD D x (k : Int) = (⟨[(x, c.take k, k)], D.room, -1, false⟩, 0) := by
  have e : cutF x k D.fs = [(x, c.take k, k)] := by
    rw [hf, cutF]
    simp [getF, putF]
  have e2 : cutE6 x (k : Int) D.fs = 0 := by
    rw [hf]
    simp [cutE6, getF]
    omega
  rw [cutD, doneD, if_neg (by rw [hd]; decide), e2, if_neg (by decide), Int.toNat_natCast, e, if_neg (by rw [ha]; decide), hd, ha]
  rfl
theorem sz_one {D : DS} {x c : List UInt8} {s : Nat} (hf : D.fs = [(x, c, s)]) (hx : x.length ≤ 1099511627776) (hc : c.length ≤ 1099511627776) : SzD D := by
  refine ⟨by rw [hf, usedF_cons, usedF_nil]; simp only; omega, by rw [hf]; simp, fun f h => ?_⟩
  rw [hf, List.mem_singleton] at h
  rw [h]
  exact hx
theorem OwnV.fr {e : TypeId} {w w' : World} {base n c : Nat} {A : Option Addr} {vs : List Value} {bl : List Nat} (h : OwnV e w base A n c vs) (hf : Fr w w' bl) (ho : ∀ b, blk A = some b → b ∉ bl) : OwnV e w' base A n c vs := by
  refine ⟨h.1, ?_⟩
  rcases h.2 with h1 | ⟨g, cap, cur, h1, h2, h3, h4⟩
  · exact .inl h1
  · injection h1 with h1 h5 h6
    subst h1 h6
    exact .inr ⟨g, _, cur, rfl, h2, (hf.block g (Array.getElem?_eq_some_iff.1 h3).1 (ho g rfl)).trans h3, h4⟩

/-- A beginning of a row of lists. -/
theorem RdL.pre {w : World} {A : Option Addr} {n : Nat} {xss : List (List UInt8)} (h : RdL w A n xss) (k : Nat) (hk : k ≤ n) : RdL w A k (xss.take k) := by
  refine ⟨by rw [List.length_take, h.1]; omega, fun hn => ?_⟩
  obtain ⟨b, off, h1, h2, h3⟩ := h.2 (by omega)
  refine ⟨b, off, h1, h2, fun i x hx => h3 i x ?_⟩
  rw [List.getElem?_take] at hx
  split at hx
  · exact hx
  · cases hx

set_option maxRecDepth 100000 in
set_option maxHeartbeats 2000000 in
theorem begins_any (A B : Option Addr) (n m c d : Nat) (k : Nat) (xss yss : List (List UInt8)) (w : World) (hx : RdL w A n xss) (hy : RdL w B m yss) (hk : k ≤ n) (hn : n ≤ m) (he : xss = yss.take n) (hm : m ≤ 1099511627776) (hmd : m ≤ d) (hl : ∀ x ∈ xss, (x : List UInt8).length ≤ maxLen) :
    Calls Try.prog 22 #[.slice A n c, .slice B m d, .int .i64 (k : Int)] w (RetB w true) := by
  have hy2 := hy.pre n hn
  rw [← he] at hy2
  have hE := Equals_any A B n c d xss w hx hy2 (by omega) hl
  have HE := Lib.hid hE
  have t1 : decide ((k : Int) ≤ (n : Int)) = true := by simpa using hk
  have t2 : decide (k ≤ n) = true := by simpa using hk
  have t3 : decide (n ≤ m) = true := by simpa using hn
  have hcut := cut_h (P := Try.prog) (t := 50) Try.underlying50 rfl (fun w => by kernel_rfl) B (n := m) (cap := d) (m := n) (by omega)
  clear he hl hE hx hy hy2
  go_enter Try.func22, Try.ntmps22
  go_wp2_with fail
  refine HE.out.mono ?_
  rintro e w1 ⟨rfl, q, rfl⟩
  go_wp2
  go_ret
  exact ⟨rfl, q, rfl⟩
end Go.Proofs.Ytfffcpbldjoemaa
namespace Go.Proofs.Ytfffcpbldjoemaa
open Go Go.RowKit Go.Maps

/-- What stands behind the first loop: of the records m are on the disk, syn of them safe. -/
def Sl (w : World) (xss : List (List UInt8)) (vs : List Value) (p m syn : Nat) (P : Option Addr) (d : Nat) (bl : List Nat) (D : DS) (wr : World) : Prop :=
  OwnV 30 wr w.heap.size P m d (vs.take m) ∧ DK wr p bl D ∧ (∀ b ∈ bl, w.heap.size ≤ b) ∧ (∀ b, blk P = some b → b ∉ bl) ∧ Below w.heap.size w wr ∧
  D.fs = [([120], catB (xss.take m), (catB (xss.take syn)).length)] ∧ D.room = 1073741824 ∧ syn ≤ m

theorem Fam.elB {w : World} {base : Nat} {ps : List VB} (h : Fam w base ps) {q : VB} (hq : q ∈ ps) : ElB w q.1 q.2 := by
  obtain ⟨A, m, c, e, ho⟩ := h.1 q hq
  have hcap := ho.cap
  refine ⟨A, m, c, e, ho.rd, hcap.1, fun hA => ?_⟩
  have := ho.nil_of (by rw [hA]; rfl)
  exact this.2.2
theorem rdl_both {w : World} {base : Nat} {L : Option Addr} {n n1 n2 : Nat} {ps : List VB} {vs : List Value} {xss : List (List UInt8)} (hL : RdV w L n (ps.map (·.1) ++ vs)) (fam : Fam w base ps) (hp : ps.length = n1) (hl : xss.length = n2) (hn : n = n1 + n2)
    (he : ∀ (i : Nat) v x, vs[i]? = some v → xss[i]? = some x → ElB w v x) : RdL w L n (ps.map (·.2) ++ xss) := by
  refine hL.rdl (by rw [List.length_append, List.length_map, hp, hl, hn]) (fun i v x hv hx => ?_)
  by_cases hi : i < n1
  · rw [List.getElem?_append_left (by rw [List.length_map]; omega), List.getElem?_map] at hv hx
    obtain ⟨q, hq⟩ : ∃ q, ps[i]? = some q := ⟨_, List.getElem?_eq_getElem (by omega)⟩
    rw [hq] at hv hx
    injection hv with hv
    injection hx with hx
    subst hv hx
    exact fam.elB (List.mem_of_getElem? hq)
  · rw [List.getElem?_append_right (by rw [List.length_map]; omega)] at hv hx
    rw [List.length_map, hp] at hv hx
    exact he _ v x hv hx
theorem take_rdl {w0 w : World} {P : Option Addr} {m : Nat} {vs : List Value} {xss : List (List UInt8)} (h : RdV w P m (vs.take m)) (hl : m ≤ xss.length) (hb : Below w0.heap.size w0 w) (he : ∀ (i : Nat) v x, vs[i]? = some v → xss[i]? = some x → ElB w0 v x) : RdL w P m (xss.take m) := by
  refine h.rdl (by rw [List.length_take]; omega) (fun i v x hv hx => ?_)
  rw [List.getElem?_take] at hv hx
  split at hv
  · next hi =>
    rw [if_pos hi] at hx
    exact (he i v x hv hx).below hb
  · cases hv
/-- What stands in the second loop. -/
def Sq (w : World) (base : Nat) (ys : List (List UInt8)) (xss : List (List UInt8)) (vs : List Value) (ps : List VB) (p k saf : Nat) (n : Nat) (L : Option Addr) (d : Nat) (bl : List Nat) (wr : World) : Prop :=
  OwnV 30 wr base L n d (ps.map (·.1) ++ vs.take k) ∧ Fam wr base ps ∧ (∀ b, blk L = some b → OffF ps b ∧ b ∉ bl) ∧ (∀ q ∈ ps, ∀ b, Value.ownBlock q.1 = some b → b ∉ bl) ∧
  DK wr p bl ⟨[([120], catB ys ++ catB (xss.take k), saf)], 1073741824, -1, false⟩ ∧ (∀ b ∈ bl, w.heap.size ≤ b) ∧ Below w.heap.size w wr ∧ base ≤ wr.heap.size

set_option maxRecDepth 100000 in
set_option maxHeartbeats 16000000 in
theorem caissonSealed_row (A : Option Addr) (la ca : Nat) (xss : List (List UInt8)) (arm : Int) (K : Option Addr) (nk ck : Nat) (ks : List Int) (w : World)
    (hx : RdL w A la xss) (hxt : tot xss ≤ 1048576) (harm : (Lit.int .i64 arm).wf = true) (hK : RdV w K nk (ks.map iv)) (_hkc : nk ≤ ck) (hck : ck ≤ 1048576) (hkz : ∀ z ∈ ks, -9223372036854775808 ≤ z ∧ z ≤ 9223372036854775807) :
    Calls Try.prog 5 #[.slice A la ca, .int .i64 arm, .slice K nk ck] w (RetT w true) := by
  have harm2 : I64 arm := by
    have : -9223372036854775808 ≤ arm ∧ arm ≤ 9223372036854775807 := by simpa [Lit.wf, IntKind.min, IntKind.max, IntKind.signed, IntKind.bits] using harm
    exact this
  clear harm
  obtain ⟨vs, hvs, hel, hone⟩ := hx.vals
  have hll := tot_len xss
  have hlx := hx.len
  have hxl : ∀ r ∈ xss, (r : List UInt8).length ≤ 1048575 := fun r hr => by
    obtain ⟨i, hi⟩ := List.mem_iff_getElem?.1 hr
    have := tot_at hi
    omega
  have hcat := catB_tot xss
  have HXL := Lib.hid hxl
  have HLX := Lib.hid hlx
  have HVL := Lib.hid hvs.len
  have HEL := Lib.hid hel
  have HONE := Lib.hid hone
  have HKZ := Lib.hid hkz
  have hla : la ≤ 1048576 := by omega
  have kc := fun (w : World) (C : Array Value) (n c g : Nat) (hg : g = w.heap.size) => Joins.run_convert_bytes_const_at (P := Try.prog) w 30 5 C n c g hg Try.underlying30 Try.underlying5
  clear hxl hlx hel hone hkz hll
  have hsz0 : SzD ⟨[], 1073741824, -1, false⟩ := ⟨by simp [usedF], by simp, fun f h => by cases h⟩
  go_enter Try.func5, Try.ntmps5
  go_wp2_with fail
  refine (new_DK 1073741824 _ (by unfold I64; omega)).mono ?_
  rintro e w1 ⟨p, bl1, rfl, h1, hB1, hb1⟩
  have hA := append_DK [120] none 0 0 [] h1 hsz0 (Rd.nil _ _) (fun b h => by cases h) (by omega) (by simp)
  have e1 : appendD ⟨[], (1073741824 : Int).toNat, -1, false⟩ [120] [] = (⟨[([120], [], 0)], 1073741824, -1, false⟩, 0) := rfl
  rw [e1] at hA
  have HA := Lib.hid hA
  clear hA e1
  go_wp2_with fail
  refine HA.out.mono ?_
  intro e w2 hr
  obtain ⟨rfl, bl2, h2, hF2, hBB2, hB2, hb2⟩ := hr.step hb1 hB1
  clear hr HA h1 hF2 hBB2 hB1 hb1 hsz0
  go_wp2_with fail
  have ht : tot [[49, 50, 51, 52, 53, 54, 55, 56, 57]] ≤ 1099511627776 := by simp only [tot, List.length_cons, List.length_nil]; omega
  refine (Sum_any _ 1 1 [[49, 50, 51, 52, 53, 54, 55, 56, 57]] _ (rdl_one ⟨some ⟨w2.heap.size, 0, none⟩, 9, 9, rfl, Rd.cst w2 _ 9 [49, 50, 51, 52, 53, 54, 55, 56, 57] rfl _ rfl _ _ rfl, by omega, fun h => by cases h⟩ (w2.heap.size + 1) (by simp)) ht).mono ?_
  rintro e w3 ⟨rfl, hb3⟩
  rw [show crcB [[49, 50, 51, 52, 53, 54, 55, 56, 57]].flatten = 3421780262 from crc_ex]
  have k23 : Below w2.heap.size w2 w3 := (((Below.refl _ _).alloc (Nat.le_refl _) _).alloc (by simp) _).trans (hb3.mono (by simp; omega))
  have h3 := h2.below k23
  have b3 := hb2.trans (k23.mono hb2.size)
  clear h2 hb2 hb3 k23 ht
  go_upto_if 35 with (fail)
  go_cut [38] (fun s w' => ∃ (bl : List Nat) (D : DS), DK w' p bl D ∧ (∀ b ∈ bl, w.heap.size ≤ b) ∧ Below w.heap.size w w' ∧ D.fs = [([120], [], 0)] ∧ D.room = 1073741824 ∧ D.dead = false)
  case first =>
    by_cases ha : 0 ≤ arm
    · have t0 : decide (0 ≤ arm) = true := by simpa using ha
      go_wp2_with fail
      refine (arm_DK arm h3 harm2).mono ?_
      intro e w4 hr
      obtain ⟨rfl, bl4, h4, hF4, hBB4, hB4, hb4⟩ := hr.step b3 hB2
      go_wp2_with fail
      go_meet
      exact ⟨bl4, _, h4, hB4, hb4, rfl, rfl, rfl⟩
    · have t0 : decide (0 ≤ arm) = false := by simpa using ha
      go_wp2_with fail
      go_meet
      exact ⟨bl2, _, h3, hB2, b3, rfl, rfl, rfl⟩
  case rest =>
    obtain ⟨bl4, D4, h4, hB4, b4, hfs4, hroom4, hdead4⟩ := hcut
    have HS0 : Hid (Sl w xss vs p 0 0 none 0 bl4 D4 wc ∧ D4.dead = false) := Lib.hid ⟨⟨OwnV.nil _ _ _, h4, hB4, (fun b hb => by cases hb), b4, hfs4, hroom4, Nat.le_refl _⟩, hdead4⟩
    clear h3 b3 hB2 h4 hB4 b4 hfs4 hroom4 hdead4
    go_upto_block 0 with (fail)
    go_cut [8, 9] (fun s8 s9 w' => ∃ (m syn : Nat) (P : Option Addr) (d : Nat) (bl : List Nat) (D : DS), s8 = .slice P m d ∧ s9 = .int .i64 (syn : Int) ∧ m ≤ la ∧ m ≤ d ∧ Sl w xss vs p m syn P d bl D w')
    case first =>
      go_wp2_with fail
      go_loopw [8, 9, 41] (fun s8 s9 s41 wr => ∃ (m syn : Nat) (P : Option Addr) (d : Nat) (bl : List Nat) (D : DS), s8 = .slice P m d ∧ s9 = .int .i64 (syn : Int) ∧ s41 = .int .i64 (m : Int) ∧ m ≤ la ∧ D.dead = false ∧ Sl w xss vs p m syn P d bl D wr) (fun _ _ s41 _ => la - (intOf s41).toNat)
      case atStart => exact ⟨0, 0, none, 0, bl4, D4, rfl, rfl, rfl, Nat.zero_le _, HS0.out.2, HS0.out.1⟩
      case round =>
        obtain ⟨m, syn, P, d, bl, D, rfl, rfl, rfl, hm, hd, hS⟩ := hrel
        have HD := Lib.hid hd
        have HS := Lib.hid hS
        clear hd
        by_cases hlt : m < la
        · obtain ⟨ho, hk, hB, hPo, hbw, hfs, hroom, hsy⟩ := hS
          obtain ⟨b, off, rfl, hbl⟩ := hvs.pos (by omega)
          obtain ⟨v, hv1, hv2⟩ := hvs.at_ m hlt
          obtain ⟨x, hx1⟩ : ∃ x, xss[m]? = some x := ⟨_, List.getElem?_eq_getElem (by have := HLX.out; omega)⟩
          obtain ⟨X, nx, cx, rfl, rx0, hxc, hxn⟩ := HEL.out m v x hv1 hx1
          have hc := (hbw.cell (p := ⟨b, off + m, none⟩) hbl).trans hv2
          have rx := rx0.below hbw
          have hxs := HXL.out x (List.mem_of_getElem? hx1)
          have htake : xss.take (m + 1) = xss.take m ++ [x] := by rw [List.take_add_one, hx1]; rfl
          have hcs : catB (xss.take (m + 1)) = catB (xss.take m) ++ sealB x := by rw [htake, catB_snoc]
          have hlen : (catB (xss.take (m + 1))).length ≤ 8388608 := by
            have h1 := catB_tot (xss.take (m + 1))
            have h2 := tot_take xss (m + 1)
            omega
          have hvt : vs.take (m + 1) = vs.take m ++ [.slice X nx cx] := by rw [List.take_add_one, hv1]; rfl
          have hA := Seal_any (some ⟨wr.heap.size, 0, none⟩) 1 1 [x] (wr.alloc (.cells #[.slice X nx cx] 30)) (rdl_one ⟨X, nx, cx, rfl, rx, hxc, hxn⟩ _ rfl) (by simp only [tot]; omega)
          have e1 : sealG ([x] : List (List UInt8)).flatten = (sealB x, 0) := by
            have : ([x] : List (List UInt8)).flatten = x := by simp
            rw [this]
            exact sealG_ok rfl (by omega)
          rw [e1] at hA
          have HA := Lib.hid hA
          have HX1 := Lib.hid hx1
          have HV1 := Lib.hid hv1
          have HCS := Lib.hid hcs
          have HVT := Lib.hid hvt
          have HFS := Lib.hid hfs
          have HRM := Lib.hid hroom
          clear hA hx1 hv1 hv2 hcs hvt hfs hroom htake rx rx0 e1
          go_wp2_with fail
          refine HA.out.mono ?_
          clear HA
          rintro e w3 ⟨S, sn, sc, rfl, os, hb3⟩
          have os : Own 5 w3 _ S sn sc (sealB x) := os
          have hsl := os.len
          rw [sealB_len] at hsl
          have k3 : Below wr.heap.size wr w3 := ((Below.refl _ _).alloc (Nat.le_refl _) _).trans (hb3.mono (by simp))
          have ho3 := ho.below k3
          have hk3 := hk.below k3
          have hs3 := k3.size
          have hlts := hk.lt
          have HLT := Lib.hid hlts
          have HSB := Lib.hid (fun b (hb : blk S = some b) => os.lt b hb)
          have HPL := Lib.hid (fun b (hb : blk P = some b) => (ho.lt b hb).2)
          have hws := hbw.size
          clear hb3 ho hk hlts
          go_wp2_with (at_builtin; refine wpList_app1 w3 rfl _ _ 50 rfl w.heap.size 30 _ _ Try.underlying50 info_sl rfl P m d (vs.take m) rfl ho3 (.slice X nx cx) rfl w3.heap.size rfl rfl ?_ ?_ ?_ ?_)
          · unfold maxLen; omega
          · omega
          · omega
          intro P2 d2 w4 hG4 hg4 hk4
          have hcap4 := hG4.cap
          rw [← HVT.out] at hG4
          have hk4d := hk3.grown hg4 (fun b hb hm => hPo b hb hm)
          have os4 := os.kept hg4 (fun b hb e => by have h1 := HSB.out b hb; have h2 := HPL.out b e; simp at h1; omega)
          have b4 := (hbw.trans (k3.mono hws)).grown hg4 (by omega) (fun k hk => (ho3.lt k hk).1)
          have hP2 : ∀ b, blk P2 = some b → b ∉ bl := fun b hb hm => by
            rcases hk4 with h | h
            · exact hPo b (by rw [← h]; exact hb) hm
            · rw [h] at hb
              injection hb with hb
              have := HLT.out b hm
              omega
          have hsz : SzD D := sz_one HFS.out (by simp) (by have h1 := congrArg List.length HCS.out; rw [List.length_append] at h1; omega)
          have hroom : (catB (xss.take m)).length + (sealB x).length ≤ D.room := by
            have h1 := congrArg List.length HCS.out
            rw [List.length_append] at h1
            have := HRM.out
            omega
          have hA := append_DK [120] S sn sc (sealB x) hk4d hsz os4.rd (fun b hb hm => by have h1 := HSB.out b hb; have h2 := HLT.out b hm; simp at h1; omega) (by omega) (by simp)
          rw [appendD_one HFS.out HD.out hroom, ← HCS.out] at hA
          have HR := Lib.hid hroom
          have HP2 := Lib.hid hP2
          have HG4 := Lib.hid hG4
          have hP2l : ∀ b, blk P2 = some b → b < w4.heap.size := fun b hb => (hG4.lt b hb).2
          have HP2L := Lib.hid hP2l
          clear hP2 hG4 hroom os os4 ho3 hk3 hk4d hg4 hk4 hsl hP2l
          by_cases h0 : D.arm = 0
          · rw [if_pos h0] at hA
            have HA := Lib.hid hA
            clear hA
            go_wp2_with fail
            refine HA.out.mono ?_
            clear HA
            intro e w5 hr
            obtain ⟨rfl, bl5, h5, hF5, hBB5, hB5, b5⟩ := hr.step b4 hB
            go_wp2_with fail
            go_meet
            exact ⟨m + 1, syn, P2, d2, bl5, _, rfl, rfl, by omega, hcap4.1, HG4.out.fr hF5 HP2.out, h5, hB5, fun b hb hm => by
              rcases hBB5 b hm with h | h
              · exact HP2.out b hb h
              · have := HP2L.out b hb; omega, b5, rfl, HRM.out, by omega⟩
          · rw [if_neg h0] at hA
            have HA := Lib.hid hA
            clear hA
            go_wp2_with fail
            refine HA.out.mono ?_
            clear HA
            intro e w5 hr
            obtain ⟨rfl, bl5, h5, hF5, hBB5, hB5, b5⟩ := hr.step b4 hB
            have g5 := HG4.out.fr hF5 HP2.out
            have hP5 : ∀ b, blk P2 = some b → b ∉ bl5 := fun b hb hm => by
              rcases hBB5 b hm with h | h
              · exact HP2.out b hb h
              · have := HP2L.out b hb; omega
            have HP5 := Lib.hid hP5
            have HG5 := Lib.hid g5
            clear hr hF5 hBB5 b4 g5 hP5
            by_cases h2 : m % 2 = 1
            · have t2 : ((m : Int) % 2 == 1) = true := by rw [beq_iff_eq]; omega
              have hA := sync_DK [120] h5 (by simp)
              rw [syncD_one rfl rfl] at hA
              by_cases h6 : armN D.arm = 0
              · rw [if_pos h6] at hA
                have HA := Lib.hid hA
                clear hA
                go_wp2_with fail
                refine HA.out.mono ?_
                clear HA
                intro e w6 hr
                obtain ⟨rfl, bl6, hk6, hF6, hBB6, hB6, b6⟩ := hr.step b5 hB5
                go_wp2_with fail
                go_meet
                exact ⟨m + 1, syn, P2, d2, bl6, _, rfl, rfl, by omega, hcap4.1, HG5.out.fr hF6 HP5.out, hk6, hB6, fun b hb hm => by
                  rcases hBB6 b hm with h | h
                  · exact HP5.out b hb h
                  · have := (HG5.out.lt b hb).2; omega, b6, rfl, HRM.out, by omega⟩
              · rw [if_neg h6] at hA
                have HA := Lib.hid hA
                clear hA
                go_wp2_with fail
                refine HA.out.mono ?_
                clear HA
                intro e w6 hr
                obtain ⟨rfl, bl6, hk6, hF6, hBB6, hB6, b6⟩ := hr.step b5 hB5
                have HF := Lib.hid (show Sl w xss vs p (m + 1) (m + 1) P2 d2 bl6 _ w6 from ⟨HG5.out.fr hF6 HP5.out, hk6, hB6, fun b hb hm => by
                  rcases hBB6 b hm with h | h
                  · exact HP5.out b hb h
                  · have := (HG5.out.lt b hb).2; omega, b6, rfl, HRM.out, by omega⟩)
                clear hr hk6 hF6 hBB6 hB6 b6
                go_wp2_with fail
                go_roundw
                case rel => exact ⟨m + 1, m + 1, P2, d2, bl6, _, rfl, by go_num, by go_num, by omega, rfl, HF.out⟩
                case measure => simp [intOf]; omega
            · have t2 : ((m : Int) % 2 == 1) = false := by rw [beq_eq_false_iff_ne]; omega
              have HF := Lib.hid (show Sl w xss vs p (m + 1) syn P2 d2 bl5 _ w5 from ⟨HG5.out, h5, hB5, HP5.out, b5, rfl, HRM.out, by omega⟩)
              clear h5 b5
              go_wp2_with fail
              go_roundw
              case rel => exact ⟨m + 1, syn, P2, d2, bl5, _, rfl, rfl, by go_num, by omega, rfl, HF.out⟩
              case measure => simp [intOf]; omega
        · clear hS
          go_wp2_with fail
          go_meet
          exact ⟨m, syn, P, d, bl, D, rfl, rfl, hm, HS.out.1.cap.1, HS.out⟩
    case rest =>
      obtain ⟨m, syn, P, d, bl, D, rfl, rfl, hm, hmd, hS⟩ := hcut
      clear HS0
      obtain ⟨ho, hk, hB, hPo, hbw, hfs, hroom, hsy⟩ := hS
      have hlen : (catB (xss.take m)).length ≤ 8388608 := by
        have h1 := catB_tot (xss.take m)
        have h2 := tot_take xss m
        omega
      have hbig : ∀ r ∈ xss.take m, (r : List UInt8).length ≤ 1048576 := fun r hr => by have := HXL.out r (List.mem_of_mem_take hr); omega
      have hsaf : (catB (xss.take syn)).length ≤ (catB (xss.take m)).length := hk.saf _ (by rw [hfs]; exact List.mem_singleton.2 rfl)
      obtain ⟨t, ht1, ht2, hcr⟩ := crashD_one hfs hsaf ks
      obtain ⟨j, T, hj, hbad, htk, hall⟩ := catB_take (xss.take m) t hbig
      have hjl : j ≤ m := by rw [List.length_take, HLX.out] at hj; omega
      have htt : (xss.take m).take j = xss.take j := by rw [List.take_take, Nat.min_eq_left hjl]
      have hsj : syn ≤ j := hall syn (by rw [List.length_take, HLX.out]; omega) (by rw [List.take_take, Nat.min_eq_left hsy]; exact ht1)
      rw [htt] at htk
      have hbj : ∀ r ∈ xss.take j, (r : List UInt8).length ≤ 1048576 := fun r hr => by have := HXL.out r (List.mem_of_mem_take hr); omega
      have hC := crash_DK K nk ck ks hk (sz_one hfs (by simp) (by omega)) (hK.below hbw) (fun h b hb hm => by have h1 := hK.lt' h b hb; have h2 := hB b hm; omega) (by omega) HKZ.out
      rw [hcr, htk, hroom] at hC
      have htl := congrArg List.length htk
      rw [List.length_append, List.length_take] at htl
      have hol := openAll_cat hbad (xss.take j) hbj
      obtain ⟨E, hE⟩ : ∃ E, E = (catB (xss.take j)).length := ⟨_, rfl⟩
      obtain ⟨F, hF⟩ : ∃ F, F = catB (xss.take j) ++ T := ⟨_, rfl⟩
      have hFl : F.length ≤ 8388608 := by rw [hF, List.length_append]; omega
      have hFE : E ≤ F.length := by rw [hF, List.length_append, hE]; omega
      have hFt : F.take E = catB (xss.take j) := by rw [hF, hE]; exact List.take_left' rfl
      rw [← hF] at hC hol
      rw [← hE] at hol
      have HC := Lib.hid hC
      have HOL := Lib.hid hol
      have HFT := Lib.hid hFt
      have HBJ := Lib.hid hbj
      have HHO := Lib.hid ho
      have HPO := Lib.hid hPo
      clear hC hol hFt hbj hF hE htk htt hcr hall htl hbig hbad hk hfs hroom ho hPo hj
      go_wp2_with fail
      refine HC.out.mono ?_
      clear HC
      intro e w1 hr
      obtain ⟨rfl, bl1, h1, hF1, hBB1, hB1, b1⟩ := hr.step hbw hB
      have o1 := HHO.out.fr hF1 HPO.out
      have r1 := take_rdl o1.rd (by rw [HLX.out]; exact hm) b1 HEL.out
      have hR := read_DK [120] h1 (sz_one rfl (by simp) (by omega)) (by simp)
      rw [readD_one rfl rfl] at hR
      have HR := Lib.hid hR
      clear hr hF1 hBB1 HHO HPO o1 hR hB hbw
      go_wp2_with fail
      refine HR.out.mono ?_
      clear HR
      rintro e w2 ⟨B, bn, bc, rfl, ob, hb2⟩
      have ob : Own 5 w2 w1.heap.size B bn bc F := ob
      have hbn := ob.len
      have hbc := ob.cap
      have hbnil : B = none → bc = 0 := fun h => by have := ob.nil_of (by rw [h]; rfl); exact this.2.2
      have HBN := Lib.hid hbnil
      have h2 := h1.below hb2
      have r2 := r1.below hb2
      have b2 := b1.trans (hb2.mono b1.size)
      have s02 : w.heap.size ≤ w2.heap.size := b2.size
      have lt2 := h2.lt
      have HLT2 := Lib.hid lt2
      have HO := Lib.hid (OpenAll_any B bn bc F w2 ob.rd (by omega) hbc.1 HBN.out)
      rw [HOL.out] at HO
      clear h1 r1 b1 hb2 ob hbnil lt2
      go_wp2_with fail
      refine HO.out.mono ?_
      clear HO
      rintro e w3 ⟨L, ln, lc, ps, rfl, hrow, hps⟩
      have hps : ps.map (·.2) = xss.take j := hps
      have hln := hrow.len
      have hjn : ln = j := by
        have h := congrArg List.length hps
        rw [List.length_map, hln, List.length_take, HLX.out] at h
        omega
      subst hjn
      have h3 := h2.below hrow.bel
      have r3 := r2.below hrow.bel
      have b3 := b2.trans (hrow.bel.mono b2.size)
      have s3 := hrow.bel.size
      have rl3 := hrow.rd
      rw [hps] at rl3
      have HROW := Lib.hid hrow
      have HPS := Lib.hid hps
      have HLN := Lib.hid hln
      clear h2 r2 b2 hrow hps hln
      go_wp2_with fail
      refine (begins_any L P ln m lc d syn (xss.take ln) (xss.take m) w3 rl3 r3 hsj hjl (by rw [List.take_take, Nat.min_eq_left hjl]) (by omega) hmd (fun x hx => by have := HBJ.out x hx; unfold maxLen; omega)).mono ?_
      rintro e w4 ⟨rfl, q, hw4⟩
      have h4 : DK w4 p bl1 ⟨[([120], F, t)], 1073741824, -1, false⟩ := by rw [hw4]; exact h3.drewN q
      have b4 : Below w.heap.size w w4 := by rw [hw4]; exact below_drewN b3 q
      have row4 : OwnV 30 w4 w2.heap.size L ln lc (ps.map (·.1)) := by rw [hw4]; exact HROW.out.own.drewN q
      have fam4 : Fam w4 w2.heap.size ps := by rw [hw4]; exact HROW.out.fam.drewN q
      have s4 : w2.heap.size ≤ w4.heap.size := by rw [hw4]; exact s3
      clear hw4 h3 b3 r3 rl3
      have hT := cut_DK [120] (E : Int) h4 (sz_one rfl (by simp) (by omega)) (by simp)
      rw [cutD_one rfl rfl rfl hFE, HFT.out] at hT
      have HT := Lib.hid hT
      clear hT
      go_wp2_with fail
      refine HT.out.mono ?_
      clear HT
      intro e w5 hr
      obtain ⟨rfl, bl5, h5, hF5, hBB5, hB5, b5⟩ := hr.step b4 hB1
      have hoff : ∀ b, w2.heap.size ≤ b → b < w4.heap.size → b ∉ bl5 ∧ b ∉ bl1 := fun b hb1 hb2 => by
        have h0 : b ∉ bl1 := fun hm => by have := HLT2.out b hm; omega
        exact ⟨fun hm => by
          rcases hBB5 b hm with h | h
          · exact h0 h
          · omega, h0⟩
      have HQ0 : Hid (Sq w w2.heap.size (xss.take ln) xss vs ps p 0 E ln L lc bl5 w5) := Lib.hid ⟨by
          have := row4.fr hF5 (fun b hb => (hoff b (row4.lt b hb).1 (row4.lt b hb).2).2)
          simpa using this,
        fam4.fr hF5 (fun q hq b hb => (hoff b (fam4.lt hq hb).1 (fam4.lt hq hb).2).2),
        fun b hb => ⟨HROW.out.2.2.1 b hb, (hoff b (row4.lt b hb).1 (row4.lt b hb).2).1⟩,
        fun q hq b hb => (hoff b (fam4.lt hq hb).1 (fam4.lt hq hb).2).1,
        by simpa [catB] using h5, hB5, b5, Nat.le_trans s4 hF5.size⟩
      clear hr h5 hF5 hBB5 hoff row4 fam4 s4 h4 b4 b5 hB5
      go_wp2_with fail
      go_loopw [16, 99] (fun s16 s99 wr => ∃ (k : Nat) (L : Option Addr) (d : Nat) (bl : List Nat), s16 = .slice L (ln + k) d ∧ s99 = .int .i64 (k : Int) ∧ k ≤ la ∧ Sq w w2.heap.size (xss.take ln) xss vs ps p k E (ln + k) L d bl wr) (fun _ s99 _ => la - (intOf s99).toNat)
      case atStart => exact ⟨0, L, lc, bl5, rfl, rfl, Nat.zero_le _, HQ0.out⟩
      case round =>
        obtain ⟨k, L, d, bl, rfl, rfl, hk, hQ⟩ := hrel
        obtain ⟨qo, qf, qL, qE, qk, qB, qw, qs⟩ := hQ
        have hcl : (catB (xss.take ln)).length ≤ 8388608 ∧ (catB (xss.take k)).length ≤ 8388608 ∧ (catB (xss.take (k + 1))).length ≤ 8388608 := by
          have h1 := catB_tot (xss.take ln)
          have h2 := tot_take xss ln
          have h3 := catB_tot (xss.take k)
          have h4 := tot_take xss k
          have h5 := catB_tot (xss.take (k + 1))
          have h6 := tot_take xss (k + 1)
          omega
        obtain ⟨c1, c2, c3⟩ := hcl
        by_cases hlt : k < la
        · obtain ⟨b, off, rfl, hbl⟩ := hvs.pos (by omega)
          obtain ⟨v, hv1, hv2⟩ := hvs.at_ k hlt
          obtain ⟨x, hx1⟩ : ∃ x, xss[k]? = some x := ⟨_, List.getElem?_eq_getElem (by have := HLX.out; omega)⟩
          obtain ⟨X, nx, cx, rfl, rx0, hxc, hxn⟩ := HEL.out k v x hv1 hx1
          have hc := (qw.cell (p := ⟨b, off + k, none⟩) hbl).trans hv2
          have rx := rx0.below qw
          have hxs := HXL.out x (List.mem_of_getElem? hx1)
          have htake : xss.take (k + 1) = xss.take k ++ [x] := by rw [List.take_add_one, hx1]; rfl
          have hcs : catB (xss.take (k + 1)) = catB (xss.take k) ++ sealB x := by rw [htake, catB_snoc]
          have hcsl := congrArg List.length hcs
          rw [List.length_append] at hcsl
          have hvt : vs.take (k + 1) = vs.take k ++ [.slice X nx cx] := by rw [List.take_add_one, hv1]; rfl
          have hA := Seal_any (some ⟨wr.heap.size, 0, none⟩) 1 1 [x] (wr.alloc (.cells #[.slice X nx cx] 30)) (rdl_one ⟨X, nx, cx, rfl, rx, hxc, hxn⟩ _ rfl) (by simp only [tot]; omega)
          have e1 : sealG ([x] : List (List UInt8)).flatten = (sealB x, 0) := by
            have : ([x] : List (List UInt8)).flatten = x := by simp
            rw [this]
            exact sealG_ok rfl (by omega)
          rw [e1] at hA
          have HA := Lib.hid hA
          have HCS := Lib.hid hcs
          have HVT := Lib.hid hvt
          have HCSL := Lib.hid hcsl
          clear hA hx1 hv1 hv2 hcs hvt htake rx rx0 e1 hcsl
          go_wp2_with fail
          refine HA.out.mono ?_
          clear HA
          rintro e w3 ⟨S, sn, sc, rfl, os, hb3⟩
          have os : Own 5 w3 _ S sn sc (sealB x) := os
          have hsl := os.len
          rw [sealB_len] at hsl
          have k3 : Below wr.heap.size wr w3 := ((Below.refl _ _).alloc (Nat.le_refl _) _).trans (hb3.mono (by simp))
          have hk3 := qk.below k3
          have hs3 := k3.size
          have hlts := qk.lt
          have HLT := Lib.hid hlts
          have HSB := Lib.hid (fun b (hb : blk S = some b) => os.lt b hb)
          have hws := qw.size
          have hA := append_DK [120] S sn sc (sealB x) hk3 (sz_one rfl (by simp) (by rw [List.length_append]; omega)) os.rd (fun b hb hm => by have h1 := HSB.out b hb; have h2 := HLT.out b hm; simp at h1; omega) (by omega) (by simp)
          rw [appendD_one rfl rfl (by have := HCSL.out; rw [List.length_append]; show _ ≤ (1073741824 : Nat); omega), if_neg (show ¬ (-1 : Int) = 0 by decide), List.append_assoc, ← HCS.out] at hA
          have HA := Lib.hid hA
          have o3 := qo.below k3
          have f3 := qf.below k3
          have b3 := qw.trans (k3.mono hws)
          have HQL := Lib.hid (fun b (hb : blk L = some b) => qo.lt b hb)
          have HQE := Lib.hid (fun q (hq : q ∈ ps) b (hb : Value.ownBlock q.1 = some b) => qf.lt hq hb)
          clear hA hb3 qo qf qk qw hlts hk3 os
          go_wp2_with fail
          refine HA.out.mono ?_
          clear HA
          intro e w4 hr
          obtain ⟨rfl, bl4, h4, hF4, hBB4, hB4, b4⟩ := hr.step b3 qB
          have s4 := hF4.size
          have o4 := o3.fr hF4 (fun b hb => (qL b hb).2)
          have f4 := f3.fr hF4 qE
          have qL4 : ∀ b, blk L = some b → OffF ps b ∧ b ∉ bl4 := fun b hb => ⟨(qL b hb).1, fun hm => by
            rcases hBB4 b hm with h | h
            · exact (qL b hb).2 h
            · have := HQL.out b hb; omega⟩
          have qE4 : ∀ q ∈ ps, ∀ b, Value.ownBlock q.1 = some b → b ∉ bl4 := fun q hq b hb hm => by
            rcases hBB4 b hm with h | h
            · exact qE q hq b hb h
            · have := HQE.out q hq b hb; omega
          have lt4 := h4.lt
          have HLT4 := Lib.hid lt4
          have QL4 := Lib.hid qL4
          have QE4 := Lib.hid qE4
          have hcap := o4.cap
          clear hr hF4 hBB4 o3 f3 b3 qL qE lt4 qL4 qE4
          go_wp2_with (at_builtin; refine wpList_app1 w4 rfl _ _ 50 rfl w2.heap.size 30 _ _ Try.underlying50 info_sl rfl L (ln + k) d _ rfl o4 (.slice X nx cx) rfl w4.heap.size rfl rfl ?_ ?_ ?_ ?_)
          · unfold maxLen; omega
          · omega
          · omega
          intro L5 d5 w5 hG5 hg5 hk5
          rw [← HVT.out] at hG5
          have HQ : Hid (Sq w w2.heap.size (xss.take ln) xss vs ps p (k + 1) E (ln + (k + 1)) L5 d5 bl4 w5) := Lib.hid ⟨hG5, f4.kept hg5 (fun b hb => (QL4.out b hb).1),
            fun b hb => by
              rcases hk5 with h | h
              · exact QL4.out b (by rw [← h]; exact hb)
              · rw [h] at hb
                injection hb with hb
                exact ⟨f4.off_new (by omega), fun hm => by have := HLT4.out b hm; omega⟩,
            QE4.out, h4.grown hg5 (fun b hb hm => (QL4.out b hb).2 hm), hB4, b4.grown hg5 (by omega) (fun z hz => by have := (o4.lt z hz).1; omega), by have := hg5.size; omega⟩
          clear hG5 hg5 hk5 o4 f4 h4 b4
          go_wp2_with fail
          go_roundw
          case rel => exact ⟨k + 1, L5, d5, bl4, rfl, by go_num, by omega, HQ.out⟩
          case measure => simp [intOf]; omega
        · obtain rfl : k = la := by omega
          have hxt2 : xss.take k = xss := List.take_of_length_le (by have := HLX.out; omega)
          have hvt2 : vs.take k = vs := List.take_of_length_le (by have := HVL.out; omega)
          rw [hxt2] at qk c2
          rw [hvt2] at qo
          rw [← catB_app] at qk
          have hba : ∀ r ∈ xss.take ln ++ xss, (r : List UInt8).length ≤ 1048576 := fun r hr => by
            rcases List.mem_append.1 hr with h | h
            · exact HBJ.out r h
            · have := HXL.out r h; omega
          have hol := openAll_whole (xss.take ln ++ xss) hba
          obtain ⟨G, hG⟩ : ∃ G, G = catB (xss.take ln ++ xss) := ⟨_, rfl⟩
          have hGl : G.length ≤ 16777216 := by rw [hG, catB_app, List.length_append]; omega
          rw [← hG] at hol qk
          have hR := read_DK [120] qk (sz_one rfl (by simp) (by omega)) (by simp)
          rw [readD_one rfl rfl] at hR
          have HR := Lib.hid hR
          have HOL2 := Lib.hid hol
          have HBA := Lib.hid hba
          clear hR hol hG hba hxt2 hvt2 qE qL
          go_wp2_with fail
          refine HR.out.mono ?_
          clear HR
          rintro e w6 ⟨B6, n6, c6, rfl, ob, hb6⟩
          have ob : Own 5 w6 wr.heap.size B6 n6 c6 G := ob
          have hbn6 := ob.len
          have hbc6 := ob.cap
          have hbnil : B6 = none → c6 = 0 := fun h => by have := ob.nil_of (by rw [h]; rfl); exact this.2.2
          have HBN6 := Lib.hid hbnil
          have o6 := qo.below hb6
          have f6 := qf.below hb6
          have b6 := qw.trans (hb6.mono qw.size)
          have HO := Lib.hid (OpenAll_any B6 n6 c6 G w6 ob.rd (by omega) hbc6.1 HBN6.out)
          rw [HOL2.out] at HO
          clear qo qf qk qw hb6 ob hbnil
          go_wp2_with fail
          refine HO.out.mono ?_
          clear HO
          rintro e w7 ⟨L7, l7, c7, ps7, rfl, hrow, hps⟩
          have hps : ps7.map (·.2) = xss.take ln ++ xss := hps
          have o7 := o6.below hrow.bel
          have f7 := f6.below hrow.bel
          have b7 := b6.trans (hrow.bel.mono b6.size)
          have r7 := hrow.rd
          rw [hps] at r7
          have hl7 : l7 = ln + k := by
            have := r7.len
            rw [List.length_append, List.length_take, HLX.out] at this
            omega
          subst hl7
          have rl7 := rdl_both o7.rd f7 HLN.out HLX.out rfl (fun i v x hv hx => (HEL.out i v x hv hx).below b7)
          rw [HPS.out] at rl7
          have hlen7 : (G.length : Int) = (n6 : Int) := by omega
          have t7 : ((G.length : Int) == (n6 : Int)) = true := by rw [beq_iff_eq]; exact hlen7
          have HB7 := Lib.hid b7
          clear o6 f6 b6 hrow hps o7 f7 b7
          go_wp2_with fail
          refine (Equals_any L7 L (ln + k) c7 d (xss.take ln ++ xss) w7 r7 rl7 (by omega) (fun x hx => by have := HBA.out x hx; unfold maxLen; omega)).mono ?_
          rintro e w8 ⟨rfl, q8, rfl⟩
          go_wp2
          go_ret
          exact ⟨rfl, below_drewN HB7.out q8⟩
end Go.Proofs.Ytfffcpbldjoemaa
namespace Go.Proofs.Ytfffcpbldjoemaa.caissonSealedUptoRow
open Go Go.ChangeShapes Go.WideShapes Go.ChangeAt Go.RowKit Go.Deep
open Go.ChangeMaps (open_string shut_string)
set_option linter.unusedVariables false

theorem own : ownKnob Try.prog.godebug = none := by kernel_rfl
theorem laidOut : laidOutB Try.prog = true := by kernel_rfl

set_option maxRecDepth 100000 in
theorem contract (H : Type) (enc : TypeId × Value → H) (W : World) (base : Nat) (args : Array Value) (ds gs : List (DataW H)) (before : List MemPlace)
    (hval0 : ∀ (j : Nat) t v, Try.f5.params[j]? = some t → args[j]? = some v → Value.okWide Try.prog W .any base t v)
    (hW : DataW.Whole enc Try.prog Try.f5.params.toList Rows.caissonSealedSpec.vars false W args.toList ds gs before)
    (hk : Rows.uptoSmall H (ds ++ gs) = true) :
    Calls Try.prog 5 args W fun e W' => ∃ v, e = .returned v ∧ Rows.caissonSealedSpec.post enc Try.prog Try.f5 false true false false W args v W' := by
  have hval : ∀ (j : Nat) t v, Try.f5.params[j]? = some t → args[j]? = some v → Value.okWide Try.prog W .any base t v := hval0
  have hW' := hW
  obtain ⟨p, q, hA0, hV, rfl, hfz, hnd⟩ := hW
  have hA : DataW.TrodAll enc Try.prog W 0 (fun _ => true) true Try.f5.params.toList args.toList ds p := hA0
  rw [Try.params5] at hA hval
  obtain ⟨v0, vs0, d0, ds0, p0, q0, hargs, rfl, rfl, h0, r0⟩ := trodAll_cons hA
  obtain ⟨v1, vs1, d1, ds1, p1, q1, rfl, rfl, rfl, h1, r1⟩ := trodAll_cons r0
  obtain ⟨v2, vs2, d2, ds2, p2, q2, rfl, rfl, rfl, h2, r2⟩ := trodAll_cons r1
  obtain ⟨rfl, rfl, rfl⟩ := trodAll_nil r2
  obtain rfl : args = #[v0, v1, v2] := by cases args; simp_all
  obtain ⟨rfl, rfl⟩ := trodVars_none hV
  have hb := bulkOf hk
  have sz0 : ∀ el sp, d0 = .slice el sp → Rows.uptoBulkAll el + Rows.uptoBulkAll sp + 1 ≤ 1048576 := fun el sp e => by
    have h1 := Nat.le_trans (part_bulk (d := d0) (l := [d0, d1, d2] ++ []) (by simp)) hb
    rw [e] at h1
    simp only [Rows.uptoBulk] at h1
    omega
  have sz2 : ∀ el sp, d2 = .slice el sp → Rows.uptoBulkAll el + Rows.uptoBulkAll sp + 1 ≤ 1048576 := fun el sp e => by
    have h1 := Nat.le_trans (part_bulk (d := d2) (l := [d0, d1, d2] ++ []) (by simp)) hb
    rw [e] at h1
    simp only [Rows.uptoBulk] at h1
    omega
  obtain ⟨A0, len0, cap0, rfl⟩ := okWide_slice Try.underlying50 (hval 0 50 v0 rfl rfl)
  have k0 := h0
  have lt0 : ∀ x ∈ p0, x.block < W.heap.size := by obtain ⟨m, hm⟩ := k0; exact DataW.trod_lt m _ _ _ hm
  obtain ⟨xss0, rd0, cm0⟩ : ∃ xss, RdL W A0 len0 xss ∧ tot xss ≤ 1048576 := by
    obtain ⟨fuel, hf⟩ := h0
    rcases open_int_rows Try.underlying50 Try.underlying30 Try.underlying5 (by kernel_rfl) (by kernel_rfl) hf with ⟨hcs, _⟩ | ⟨x, l, c, AA, LL, CC, ZZ, hcs, _, hl, hm, hx, hr⟩
    · simp [Value.cells] at hcs
      obtain ⟨rfl, rfl, rfl⟩ := hcs
      exact ⟨[], RdL.nil _ _, by simp [tot]⟩
    · simp [Value.cells] at hcs
      obtain ⟨rfl, rfl, rfl⟩ := hcs
      simp only [Prod.mk.injEq] at hx
      have h2 := sz0 _ _ hx.1
      have h3 := tot_bulk (fun r => ((ZZ r).take (LL r)).map fun z => bt z.toNat) (fun r => intRow (H := H) .u8 (AA r) (LL r) (ZZ r)) (List.range len0) (fun r hrr => by
        have hrl : r < len0 := List.mem_range.1 hrr
        obtain ⟨_, e2, _, e4, _, e6, _⟩ := hr r (by omega)
        exact row_bulk (AA r) (LL r) (ZZ r) (by omega) (fun h => by have := e6 h; omega))
      exact ⟨_, RdL.of_rows hl hr, by have h4 : tot (listsOf len0 LL ZZ) ≤ _ := h3; omega⟩
  obtain ⟨a1, rfl, rfl, rfl, w1⟩ := open_int Try.underlying3 (hval 1 3 v1 rfl rfl) h1
  obtain ⟨A2, len2, cap2, rfl⟩ := okWide_slice Try.underlying38 (hval 2 38 v2 rfl rfl)
  have k2 := h2
  have lt2 : ∀ x ∈ p2, x.block < W.heap.size := by obtain ⟨m, hm⟩ := k2; exact DataW.trod_lt m _ _ _ hm
  obtain ⟨xs2, rd2, lc2, cm2, wz2⟩ : ∃ xs : List Int, RdV W A2 len2 (xs.map iv) ∧ len2 ≤ cap2 ∧ cap2 ≤ 1048576 ∧ ∀ z ∈ xs, -9223372036854775808 ≤ z ∧ z ≤ 9223372036854775807 := by
    obtain ⟨fuel, hf⟩ := h2
    rcases open_ints Try.underlying38 Try.underlying3 (by kernel_rfl) hf with ⟨hcs, _⟩ | ⟨x, l, c, zs, hcs, _, hl, hm, hz, hx, hcell, hwz⟩
    · simp [Value.cells] at hcs
      obtain ⟨rfl, rfl, rfl⟩ := hcs
      exact ⟨[], RdV.nil _ _, Nat.le_refl _, by omega, by simp⟩
    · simp [Value.cells] at hcs
      obtain ⟨rfl, rfl, rfl⟩ := hcs
      simp only [Prod.mk.injEq] at hx
      have hz' : zs.length = cap2 := by simpa using hz
      have h2 := sz2 _ _ hx.1
      have h3 := length_le (lits (H := H) .i64 (zs.take len2))
      have h4 := length_le (lits (H := H) .i64 (zs.drop len2))
      simp only [lits, List.length_map, List.length_take, List.length_drop, hz'] at h2 h3 h4
      exact ⟨_, RdV.of_ints hl hz' hcell, hl, by omega, bd_take hwz⟩
  clear hA0 hval0
  refine (caissonSealed_row A0 len0 cap0 xss0 a1 A2 len2 cap2 xs2 W rd0 cm0 w1 rd2 lc2 cm2 wz2).mono fun e W' ⟨he, bel⟩ => ?_
  subst he
  exact ⟨_, rfl, _, _, _, [], _, [], hW', trodAll_mk1 (shut_bool Try.underlying4 _), (trodAll_cons_mk (Below.trod laidOut (by kernel_rfl) (of_decide_eq_true (by kernel_rfl)) k0 bel lt0) (trodAll_cons_mk (shut_int Try.underlying3 w1) (trodAll_cons_mk (Below.trod laidOut (by kernel_rfl) (of_decide_eq_true (by kernel_rfl)) k2 bel lt2) trodAll_mk0))), rfl, bel.frame _, fun h => by cases h⟩

set_option maxRecDepth 100000 in
theorem lifted (os : Os) (started : os.Started) (H : Type) (enc : TypeId × Value → H) (F : Stop.Interp) :
    ReturnsInHanded {} Try.checked os 5 .any ((Rows.OpenSpec.upto Rows.caissonSealedSpec).pre6 enc Try.prog Try.f5 Rows.caissonSealedUptoRow.domain false) (((Rows.OpenSpec.upto Rows.caissonSealedSpec).at F).post enc Try.prog Try.f5 false true false false) := by
  refine returnsInHanded_of_cond (C := Try.checked) (s := Rows.OpenSpec.upto Rows.caissonSealedSpec) (k := Rows.uptoSmall) rfl own started (by kernel_rfl) Try.func5
    (OpenSpec.witness (enc := enc) (C := Try.checked) (s := Rows.OpenSpec.upto Rows.caissonSealedSpec) (k := Rows.uptoSmall) rfl false ⟨#[], #[.slice none 0 0, .int .i64 0, .slice none 0 0], []⟩ 8 (by kernel_rfl) (by kernel_rfl) (by kernel_rfl)
      (x := ([.nil, .lit (.int .i64 0), .nil], [], [])) (by kernel_rfl) rfl (by kernel_rfl)) ?_
  intro W base args ds gs before hval hW _ hk _
  exact contract H enc W base args ds gs before hval hW hk

theorem over : Rows.caissonSealedUptoRow.holds Try.pinned (Rows.OpenSpec.upto Rows.caissonSealedSpec) :=
  OpenClaim.holds_of_cond 5 Try.f5 rfl rfl rfl rfl rfl rfl rfl ⟨rfl, rfl, rfl, rfl, rfl⟩ rfl rfl rfl rfl rfl (by kernel_rfl) Try.func5 (by kernel_rfl)
    (of_decide_eq_true (by kernel_rfl)) (by unfold Func.isWrapper; first | (rw [if_pos (by decide +kernel)]; kernel_rfl) | (rw [if_neg (by decide +kernel)]; exact ⟨rfl, rfl⟩))
    (fun os started H enc _ F => lifted os started H enc F)

/-- THE STATEMENT -/
theorem proved : Rows.CaissonSealedUptoSaid := over
#print axioms proved
end Go.Proofs.Ytfffcpbldjoemaa.caissonSealedUptoRow
