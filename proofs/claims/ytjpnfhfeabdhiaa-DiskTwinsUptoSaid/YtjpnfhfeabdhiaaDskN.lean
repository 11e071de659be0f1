/- The program's Rename. -/
import Derived.Test.YtjpnfhfeabdhiaaDskM
namespace Go.Proofs.Ytjpnfhfeabdhiaa
open Go Go.RowKit Go.Maps

/-- How many bytes the file of this name has. -/
def lenR (x : List UInt8) (rs : List FR) : Nat := ((rs.filter fun q => q.name == x).map fun q => q.dat.length).sum
theorem lenR_none {x : List UInt8} {rs : List FR} (h : ∀ r ∈ rs, r.name ≠ x) : lenR x rs = 0 ∧ delR x rs = rs := by
  constructor
  · unfold lenR
    rw [List.filter_eq_nil_iff.2 (fun q hq => by simpa using h q hq)]
    rfl
  · unfold delR
    rw [List.filter_eq_self]
    intro q hq
    simpa using h q hq
theorem lenR_some {r : FR} : ∀ {rs : List FR}, rsUp rs → r ∈ rs → lenR r.name rs = r.dat.length
  | [], _, h => by cases h
  | a :: t, hu, h => by
    unfold rsUp at hu
    rw [List.pairwise_cons] at hu
    rcases List.mem_cons.1 h with rfl | h2
    · have e := (lenR_none (x := r.name) (rs := t) (fun q hq e => nlt_ne (hu.1 q hq) e.symm)).1
      unfold lenR at e ⊢
      rw [List.filter_cons_of_pos (by simp), List.map_cons, List.sum_cons, e]
      rfl
    · have hne := nlt_ne (hu.1 r h2)
      have e := lenR_some hu.2 h2
      unfold lenR at e ⊢
      rw [List.filter_cons_of_neg (by simpa using hne)]
      exact e

section
variable {w : World} {p : Nat} {m : Option Nat} {rs : List FR} {room used left : Int} {dead armed : Bool}
theorem drop_any (x : List UInt8) (u : Nat) (h : DskR w p m rs room (u : Int) left dead armed) (hu : rsUp rs) (hl : x.length ≤ maxLen) (hru : lenR x rs ≤ u) (hu2 : u ≤ 9223372036854775807) :
    Calls Try.prog 106 #[.pointer (some ⟨p, 0, none⟩), .string (tx x)] w (RetDel w p m rs x room ((u - lenR x rs : Nat) : Int) left dead armed (.tuple #[])) := by
  by_cases hex : ∃ r ∈ rs, r.name = x
  · obtain ⟨r, hr, rfl⟩ := hex
    rw [lenR_some hu hr] at hru ⊢
    exact drop_some u h hu hr hl hru hu2
  · have hno : ∀ r ∈ rs, r.name ≠ x := fun r hr e => hex ⟨r, hr, e⟩
    obtain ⟨e1, e2⟩ := lenR_none hno
    refine (drop_none x h hno hl).mono ?_
    rintro e w' ⟨rfl, rfl⟩
    refine ⟨rfl, ?_, Fr.refl _ _⟩
    rw [e1, e2, Nat.sub_zero]
    exact h

/-- 'The disk with the file under its new name.' -/
def RetRen (w : World) (p : Nat) (m : Option Nat) (rs rs2 : List FR) (x : List UInt8) (dat : List UInt8) (saf : Nat) (room used left : Int) (dead armed : Bool) (v : Value) (e : Ending) (w' : World) : Prop :=
  e = .returned v ∧ ∃ (r' : FR) (m' : Option Nat), r'.name = x ∧ r'.dat = dat ∧ r'.saf = saf ∧ DskR w' p m' (putR r' rs2) room used left dead armed ∧ Fr w w' (allB p m rs) ∧ ∀ b ∈ allB p m' (putR r' rs2), b ∈ allB p m rs ∨ w.heap.size ≤ b
theorem rename_dead (x y : List UInt8) (h : DskR w p m rs room used left true armed) :
    Calls Try.prog 66 #[.pointer (some ⟨p, 0, none⟩), .string (tx x), .string (tx y)] w (RetNo w 9) := by
  go_enter Try.func66, Try.ntmps66
  go_wp2_with fail
  refine (find_dead x h).mono ?_
  rintro e w' ⟨rfl, rfl⟩
  go_wp2_with fail
  refine (turn_err (p := p) (w := w) (e := 9) (by decide)).mono ?_
  rintro e w' ⟨rfl, rfl⟩
  go_wp2
  go_ret
  exact ⟨rfl, rfl⟩
theorem rename_none (x y : List UInt8) (h : DskR w p m rs room used left false armed) (hx : ∀ r ∈ rs, r.name ≠ x) (hl : x.length ≤ maxLen) :
    Calls Try.prog 66 #[.pointer (some ⟨p, 0, none⟩), .string (tx x), .string (tx y)] w (RetNo w 6) := by
  go_enter Try.func66, Try.ntmps66
  go_wp2_with fail
  refine (find_none x h hx hl).mono ?_
  rintro e w' ⟨rfl, rfl⟩
  go_wp2_with fail
  refine (turn_err (p := p) (w := w) (e := 6) (by decide)).mono ?_
  rintro e w' ⟨rfl, rfl⟩
  go_wp2
  go_ret
  exact ⟨rfl, rfl⟩
theorem rename_kill {r : FR} (y : List UInt8) (h : DskR w p m rs room used 0 false true) (hr : r ∈ rs) (hl : r.name.length ≤ maxLen) :
    Calls Try.prog 66 #[.pointer (some ⟨p, 0, none⟩), .string (tx r.name), .string (tx y)] w (RetHd w p (headV m room used 0 true false) (.int .i64 9)) := by
  go_enter Try.func66, Try.ntmps66
  go_wp2_with fail
  refine (find_some h hr hl).mono ?_
  rintro e w' ⟨rfl, rfl⟩
  go_wp2_with fail
  refine (turn_kill h).mono ?_
  rintro e w1 ⟨rfl, hH⟩
  go_wp2
  go_ret
  exact ⟨rfl, hH⟩
theorem txl (a : List UInt8) : (tx a).toList = a := by rw [ByteArray.toList_eq, tx_list]
theorem tx_ne {a b : List UInt8} (h : a ≠ b) : ((tx a).toList == (tx b).toList) = false := by
  rw [txl, txl, beq_eq_false_iff_ne]
  exact h
set_option maxRecDepth 100000 in
set_option maxHeartbeats 1000000 in
theorem rename_same {r : FR} (h : DskR w p m rs room used left false armed) (hr : r ∈ rs) (hl : r.name.length ≤ maxLen) (hl2 : 0 ≤ left ∧ left ≤ 9223372036854775807) (ht : tE armed left = 0) :
    Calls Try.prog 66 #[.pointer (some ⟨p, 0, none⟩), .string (tx r.name), .string (tx r.name)] w (RetHd w p (headV m room used (tL armed left) false armed) (.int .i64 0)) := by
  obtain ⟨t1, t2⟩ := tE_done (dead := false) ht
  have hT := turn_zero h hl2
  rw [ht, t1, t2] at hT
  have HT := Lib.hid hT
  clear hT t1 t2 ht
  go_enter Try.func66, Try.ntmps66
  go_wp2_with fail
  refine (find_some h hr hl).mono ?_
  rintro e w' ⟨rfl, rfl⟩
  go_wp2_with fail
  refine HT.out.mono ?_
  clear HT
  rintro e w1 ⟨rfl, hH⟩
  go_wp2
  go_ret
  exact ⟨rfl, hH⟩
set_option maxRecDepth 100000 in
set_option maxHeartbeats 2000000 in
theorem rename_some {r : FR} (y : List UInt8) (u : Nat) (h : DskR w p m rs room (u : Int) left false armed) (hu : rsUp rs) (hr : r ∈ rs) (hl : r.name.length ≤ 1099511627776) (hly : y.length ≤ 1099511627776) (hl2 : 0 ≤ left ∧ left ≤ 9223372036854775807) (ht : tE armed left = 0) (hne : r.name ≠ y)
    (hru : lenR y rs ≤ u) (hu2 : u ≤ 9223372036854775807) (hrs : rs.length ≤ 1099511627776) :
    Calls Try.prog 66 #[.pointer (some ⟨p, 0, none⟩), .string (tx r.name), .string (tx y)] w
      (RetRen w p m rs (delR r.name (delR y rs)) y r.dat r.saf room ((u - lenR y rs : Nat) : Int) (tL armed left) false armed (.int .i64 0)) := by
  obtain ⟨t1, t2⟩ := tE_done (dead := false) ht
  have hT := turn_zero h hl2
  rw [ht, t1, t2] at hT
  have HT := Lib.hid hT
  clear hT t1 t2 ht
  go_enter Try.func66, Try.ntmps66
  go_wp2_with fail
  refine (find_some h hr (by unfold maxLen; omega)).mono ?_
  rintro e w' ⟨rfl, rfl⟩
  go_wp2_with fail
  refine HT.out.mono ?_
  clear HT
  rintro e w1 ⟨rfl, hH⟩
  have hD1 := h.turn hH.1 hH.2
  have hcmp := tx_ne hne
  have HNE := Lib.hid hne
  clear hne
  have f1 : Fr w w1 (allB p m rs) := hH.1.mono (fun b hb => .inl (by rw [List.mem_singleton] at hb; rw [hb]; exact mem_head))
  clear h hH
  go_wp2_with fail
  refine (drop_any y u hD1 hu (by unfold maxLen; omega) hru hu2).mono ?_
  rintro e w2 ⟨rfl, hD2, hF2⟩
  have hu2' := delR_up (x := y) hu
  have hr2 : r ∈ delR y rs := mem_delR.2 ⟨hr, HNE.out⟩
  have f2 : Fr w w2 (allB p m rs) := f1.trans hF2 (fun b hb => .inl hb)
  have hkey := keyN (x := r.name) (by unfold maxLen; omega)
  have hln : (delR y rs).length ≤ rs.length := List.length_filter_le _ _
  clear hD1 hF2 f1 hcmp
  obtain ⟨rs2, hrs2⟩ : ∃ rs2, rs2 = delR y rs := ⟨_, rfl⟩
  have hmr : ∀ b ∈ allB p m rs2, b ∈ allB p m rs := fun b hb => by rw [hrs2] at hb; exact mem_delB hb
  have hny : ∀ q ∈ rs2, q.name ≠ y := fun q hq => by rw [hrs2] at hq; exact (mem_delR.1 hq).2
  rw [← hrs2] at hD2 hu2' hr2 hln ⊢
  have HRS2 := Lib.hid hrs2
  have HMR := Lib.hid hmr
  have HNY := Lib.hid hny
  clear hrs2 hmr hny
  have hM := hD2.2.1
  rcases hM with ⟨_, hM⟩ | ⟨b, Dm, rfl, ho, hm⟩
  · rw [hM] at hr2; cases hr2
  obtain ⟨c0, _⟩ := hD2.head
  go_wp2_with (at_delete; refine wpList_delete_own _ rfl _ _ 24 9 rfl 105 lawN Try.underlying24 _ b rs2.length Dm rfl ho _ _ rfl hkey ?_)
  intro w3 ho3 hturn
  have hD3 := hD2.del hu2' hr2 ho3 hm (ho.tidy lawN) hturn.grown
  have hfb3 : Fr w2 w3 [b] := Fr.of_grown hturn.grown (fun c hc => by injection hc with hc; rw [hc]; exact List.mem_singleton.2 rfl)
  have f3 : Fr w w3 (allB p (some b) rs) := f2.trans hfb3 (fun c hc => .inl (by rw [List.mem_singleton] at hc; rw [hc]; exact mem_map rfl))
  have hsep := hD2.2.2.2
  have hfa3 : FileAt w3 r := (hD2.2.2.1 r hr2).fr hfb3 (fun c hc hmem => (hsep.1 r hr2).2.1 b rfl (by rw [List.mem_singleton] at hmem; rw [← hmem]; exact hc))
  have hu3 := delR_up (x := r.name) hu2'
  obtain ⟨r', hr'⟩ : ∃ r' : FR, r' = { r with name := y } := ⟨_, rfl⟩
  have hat : FileAt w3 r' := by rw [hr']; exact hfa3
  have hfr : ∀ c ∈ r'.bl, c ∉ allB p (some b) (delR r.name rs2) := fun c hc hmem => by
    have hc : c ∈ r.bl := by rw [hr'] at hc; exact hc
    simp only [allB, List.mem_cons, List.mem_append, List.mem_flatMap, Option.mem_toList] at hmem
    rcases hmem with rfl | hmem | ⟨q, hq, hmem⟩
    · exact (hsep.1 r hr2).1 hc
    · exact (hsep.1 r hr2).2.1 c hmem hc
    · obtain ⟨hq1, hq2⟩ := mem_delR.1 hq
      exact sp_of hsep.2.2 hu2' hr2 hq1 (fun e => hq2 e.symm) c hc hmem
  have hne' : blk r'.A ≠ some r'.fb := by rw [hr']; exact (hsep.1 r hr2).2.2
  have hl3 : (delR r.name rs2).length ≤ 1099511627776 := Nat.le_trans (List.length_filter_le _ _) (by omega)
  have hP := put_any r' hD3 (fun q hq => by rw [hr']; exact HNY.out q (mem_delR.1 hq).1) (by rw [hr']; exact hly) hl3
  have hn' : r'.name = y := by rw [hr']
  have hf' : r'.fb = r.fb := by rw [hr']
  rw [hn', hf'] at hP
  have HP := Lib.hid hP
  have HV := Lib.hid (show r'.name = y ∧ r'.dat = r.dat ∧ r'.saf = r.saf from by rw [hr']; exact ⟨rfl, rfl, rfl⟩)
  have HAT := Lib.hid hat
  have HFR := Lib.hid hfr
  have HNE' := Lib.hid hne'
  have HD3 := Lib.hid hD3
  have HF3 := Lib.hid f3
  have HBL : Hid (∀ c ∈ r'.bl, c ∈ allB p (some b) rs) := Lib.hid (fun c hc => HMR.out c (mem_file hr2 (by rw [hr'] at hc; exact hc)))
  clear hP hat hfr hne' hD3 f3 hr' hn' hf' ho3 hturn ho hm hsep hfa3 hfb3 f2 hD2 hkey
  go_wp2_with fail
  refine HP.out.mono ?_
  clear HP
  rintro e w4 hret
  obtain ⟨he, hret2⟩ := hret
  subst he
  obtain ⟨mb, hD4, hF4, hmb⟩ := HD3.out.put hu3 ⟨rfl, hret2⟩ HAT.out HFR.out HNE'.out
  have hF : Fr w w4 (allB p (some b) rs) := HF3.out.trans hF4 (fun c hc => .inl (by
    simp only [List.mem_cons, Option.mem_toList, allB, List.mem_append] at hc ⊢
    rcases hc with hc | hc
    · exact .inl hc
    · exact .inr (.inl hc)))
  have hB : ∀ c ∈ allB p (some mb) (putR r' (delR r.name rs2)), c ∈ allB p (some b) rs ∨ w.heap.size ≤ c := fun c hc => by
    simp only [allB, List.mem_cons, List.mem_append, List.mem_flatMap, Option.mem_toList] at hc
    rcases hc with rfl | hc | ⟨q, hq, hc⟩
    · exact .inl mem_head
    · cases hc
      rcases hmb with h1 | h1
      · injection h1 with h1; exact .inl (by rw [← h1]; exact mem_map rfl)
      · exact .inr (Nat.le_trans HF3.out.size h1)
    · rcases putR_sub2 hu3 q hq with rfl | ⟨hq, _⟩
      · exact .inl (HBL.out c hc)
      · exact .inl (HMR.out c (mem_file (mem_delR.1 hq).1 hc))
  have HF := Lib.hid hF
  have HB := Lib.hid hB
  have HD4 := Lib.hid hD4
  clear hret2 hF4 hmb hF hB hD4
  go_wp2
  go_ret
  rw [← HRS2.out]
  exact ⟨rfl, r', some mb, HV.out.1, HV.out.2.1, HV.out.2.2, HD4.out, HF.out, HB.out⟩
end
end Go.Proofs.Ytjpnfhfeabdhiaa
