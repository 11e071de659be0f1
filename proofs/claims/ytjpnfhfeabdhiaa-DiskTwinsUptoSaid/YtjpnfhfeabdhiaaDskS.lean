/- The program's shorten and drop. -/
import Derived.Test.YtjpnfhfeabdhiaaDskR
namespace Go.Proofs.Ytjpnfhfeabdhiaa
open Go Go.RowKit Go.Maps

section
variable {w : World} {p : Nat} {m : Option Nat} {rs : List FR} {room used left : Int} {dead armed : Bool}
set_option maxRecDepth 100000 in
set_option maxHeartbeats 2000000 in
theorem shorten_any {r : FR} (k u : Nat) (h : DskR w p m rs room (u : Int) left dead armed) (hu : rsUp rs) (hr : r ∈ rs) (hk : k ≤ r.dat.length) (hru : r.dat.length ≤ u) (hu2 : u ≤ 9223372036854775807) (hd : r.dat.length ≤ 1099511627776) :
    Calls Try.prog 101 #[.pointer (some ⟨p, 0, none⟩), .pointer (some ⟨r.fb, 0, none⟩), .int .i64 (k : Int)] w
      (RetFile w p m rs r (r.dat.take k) k room ((u - (r.dat.length - k) : Nat) : Int) left dead armed (.tuple #[])) := by
  obtain ⟨c0, c1, c2, c3, c4, c5⟩ := h.head
  have hfa := h.2.2.1 r hr
  obtain ⟨d0, d1⟩ := hfa.cells
  have f2 := h.thaw 2
  have hsep := h.2.2.2.1 r hr
  have hpf : p ≠ r.fb := fun e => hsep.1 (by rw [e]; simp [FR.bl])
  have i0 : IntKind.i64.wrap ((r.dat.length : Int) - (k : Int)) = (r.dat.length : Int) - (k : Int) := IntWalk.i64_in _ (by omega)
  have i1 : IntKind.i64.wrap ((u : Int) - ((r.dat.length : Int) - (k : Int))) = (u : Int) - ((r.dat.length : Int) - (k : Int)) := IntWalk.i64_in _ (by omega)
  have hsl : ∀ w, (Instr.slice 30 (.slice r.A r.dat.length r.c) none (some (.int .i64 (k : Int))) none).run Try.prog w = .ok (.slice r.A k r.c) w :=
    cut_h Try.underlying30 elem_bytes size_u8 r.A (m := k) (by have := hfa.2.1.cap; omega)
  go_enter Try.func101, Try.ntmps101
  go_wp2
  go_region
  obtain ⟨W, hW⟩ : ∃ W, W = (w.setCell ⟨p, 2, none⟩ (.int .i64 ((u : Int) - ((r.dat.length : Int) - (k : Int))))).drew := ⟨_, rfl⟩
  rw [← hW]
  have hnil : r.A = none → r.c = 0 := fun e => (hfa.2.1.nil_of (by rw [e]; rfl)).2.2
  have hf1 : Fr w W [p] := by rw [hW]; exact (Fr.set w p 2 _).drewN 1
  have hD1 : DskR W p m rs room ((u : Int) - ((r.dat.length : Int) - (k : Int))) left dead armed := h.turn hf1 (by rw [hW]; exact heap_setCell_same _ _ _ _ _ _ h.1)
  have hsz1 := hf1.size
  have hrd : Rd W r.A k (r.dat.take k) := by
    have h1 := (hD1.2.2.1 r hr).2.1.rd.cut (k := 0) (m := k) (cap := r.c) (by omega) (by omega) (by have := hfa.2.1.cap; omega)
    rw [List.drop_zero, Nat.sub_zero] at h1
    by_cases hk0 : k = 0
    · subst hk0; exact Rd.nil _ _
    · have e : cutA r.A 0 r.c = r.A := by
        unfold cutA
        rw [if_neg (by have := hfa.2.1.cap; omega)]
        cases r.A <;> simp [Addr.add]
      rw [e] at h1
      exact h1
  have e1 : ((u : Int) - ((r.dat.length : Int) - (k : Int))) = ((u - (r.dat.length - k) : Nat) : Int) := by omega
  rw [e1] at hD1
  have HE1 := Lib.hid e1
  clear hW h hfa c0 c1 c2 c3 c4 c5 d0 d1 f2 i0 i1 e1
  obtain ⟨d0, _⟩ := (hD1.2.2.1 r hr).cells
  go_wp2_with fail
  refine (Clone_any r.A k r.c (r.dat.take k) _ hrd (by omega) hnil).mono ?_
  rintro e w2 ⟨A', n', c', rfl, ho, hb⟩
  have hD2 := hD1.fr (Fr.of_below hb []) (fun b _ h => by cases h)
  have hfa2 := hD2.2.2.1 r hr
  clear d0
  obtain ⟨d0, d1⟩ := hfa2.cells
  have g0 := hfa2.thaw 0
  have g1 := hfa2.thaw 1
  have hln : (r.dat.take k).length = k := by rw [List.length_take]; omega
  obtain rfl : n' = k := by rw [← ho.len, hln]
  obtain ⟨r', hr'⟩ : ∃ r' : FR, r' = { r with dat := r.dat.take n', saf := n', A := A', c := c' } := ⟨_, rfl⟩
  obtain ⟨w4, hw4⟩ : ∃ w4, w4 = (w2.setCell ⟨r.fb, 0, none⟩ (.slice A' n' c')).setCell ⟨r.fb, 1, none⟩ (.int .i64 (n' : Int)) := ⟨_, rfl⟩
  have hfl : r.fb < W.heap.size := (Array.getElem?_eq_some_iff.1 (hD1.2.2.1 r hr).1).1
  have hbs := hb.size
  have hkA : blk A' ≠ some r.fb := fun e => by have := (ho.lt r.fb e).1; omega
  have hf4 : Fr w2 w4 [r.fb] := by
    rw [hw4]
    exact (Fr.set w2 r.fb 0 _).trans (Fr.set _ r.fb 1 _) (fun b hb => .inl hb)
  have hat : FileAt w4 r' := by
    refine ⟨?_, ?_, ?_⟩
    · rw [hw4, hr']
      show _ = some (Obj.cells #[.slice A' (r.dat.take n').length c', .int .i64 (n' : Int)] _ _)
      rw [hln, heap_setCell_same _ _ _ _ _ _ (heap_setCell_same _ _ _ _ _ _ hfa2.1)]
      rfl
    · rw [hr']
      show Own 5 w4 0 A' (r.dat.take n').length c' (r.dat.take n')
      rw [hln]
      exact (ho.mono (Nat.zero_le _)).fr hf4 (fun b hb hm => hkA (by rw [List.mem_singleton] at hm; rw [hb, hm]))
    · rw [hr']
      show n' ≤ (r.dat.take n').length
      omega
  have hbl : ∀ b ∈ r'.bl, b ∈ r.bl ∨ w2.heap.size ≤ b ∨ W.heap.size ≤ b := fun b hb => by
    rw [hr'] at hb
    simp only [FR.bl, List.mem_cons, Option.mem_toList] at hb ⊢
    rcases hb with hb | hb
    · exact .inl (.inl hb)
    · exact .inr (.inr (ho.lt b hb).1)
  have hfW : Fr W w4 r.bl := (Fr.of_below hb r.bl).trans hf4 (fun b hb => .inl (by rw [List.mem_singleton] at hb; rw [hb]; simp [FR.bl]))
  have hbl2 : ∀ b ∈ r'.bl, b ∈ r.bl ∨ W.heap.size ≤ b := fun b hb => by
    rcases hbl b hb with h1 | h1 | h1
    · exact .inl h1
    · exact .inr (by omega)
    · exact .inr h1
  have hfin : RetFile w p m rs r (r.dat.take n') n' room ((u - (r.dat.length - n') : Nat) : Int) left dead armed (.tuple #[]) (.returned (.tuple #[])) w4 := by
    refine ⟨rfl, r', by rw [hr'], by rw [hr'], by rw [hr'], hD1.file hu hr (by rw [hr']) (by rw [hr']) hfW hat hbl2 (by rw [hr']; exact hkA), ?_, fun b hb => ?_⟩
    · have f1 : Fr w W (allB p m rs) := hf1.mono (fun b hb => .inl (by rw [List.mem_singleton] at hb; rw [hb]; exact mem_head))
      exact f1.trans hfW (fun b hb => .inl (mem_file hr hb))
    · rcases mem_putR (p := p) (m := m) (w := W) hu hr hbl2 b hb with h1 | h1
      · exact .inl h1
      · exact .inr (by omega)
  have HFIN := Lib.hid hfin
  have HW4 := Lib.hid hw4
  clear hfin hw4 hat hbl hbl2 hfW hf4 hr' hD2 hD1 hfa2 ho hb hrd hf1 hln hbs hkA
  go_wp2
  go_end0
  rw [← HW4.out]
  exact HFIN.out
end

/-- The files but one. -/
def delR (x : List UInt8) (rs : List FR) : List FR := rs.filter fun q => q.name != x
def delF (x : List UInt8) (fs : List FE) : List FE := fs.filter fun q => q.1 != x
theorem delR_val (x : List UInt8) (rs : List FR) : (delR x rs).map FR.val = delF x (rs.map FR.val) := by
  unfold delR delF
  rw [List.filter_map]
  rfl
theorem mem_delR {x : List UInt8} {rs : List FR} {q : FR} : q ∈ delR x rs ↔ q ∈ rs ∧ q.name ≠ x := by
  unfold delR
  rw [List.mem_filter]
  simp
theorem delR_len {r : FR} : ∀ {rs : List FR}, rsUp rs → r ∈ rs → (delR r.name rs).length + 1 = rs.length
  | [], _, h => by cases h
  | a :: t, hu, h => by
    unfold rsUp at hu
    rw [List.pairwise_cons] at hu
    rcases List.mem_cons.1 h with rfl | h2
    · have e : delR r.name (r :: t) = t := by
        unfold delR
        rw [List.filter_cons_of_neg (by simp), List.filter_eq_self]
        intro q hq
        have := nlt_ne (hu.1 q hq)
        simpa using fun e => this e.symm
      rw [e, List.length_cons]
    · have hne := nlt_ne (hu.1 r h2)
      have e : delR r.name (a :: t) = a :: delR r.name t := by
        unfold delR
        rw [List.filter_cons_of_pos (by simpa using hne)]
      rw [e, List.length_cons, List.length_cons, delR_len hu.2 h2]
theorem delR_up {x : List UInt8} {rs : List FR} (h : rsUp rs) : rsUp (delR x rs) := List.Pairwise.filter _ h
theorem delR_any (x y : List UInt8) (rs : List FR) : (delR x rs).any (fun q => q.name == y) = (rs.any (fun q => q.name == y) && !(y == x)) := by
  rw [Bool.eq_iff_iff]
  simp only [List.any_eq_true, Bool.and_eq_true, beq_iff_eq, mem_delR, Bool.not_eq_true', beq_eq_false_iff_ne]
  constructor
  · rintro ⟨q, ⟨h1, h2⟩, rfl⟩
    exact ⟨⟨q, h1, rfl⟩, h2⟩
  · rintro ⟨⟨q, h1, rfl⟩, h2⟩
    exact ⟨q, ⟨h1, h2⟩, rfl⟩
theorem MR.del {Dm : DU} {rs : List FR} {r : FR} (h : MR Dm rs) (ht : Tidy Dm) (hu : rsUp rs) (hr : r ∈ rs) : MR (Dm.del (.string r.name)) (delR r.name rs) := by
  have hhas : has Dm (.string r.name) = true := by
    rw [h.2.1, List.any_eq_true]
    exact ⟨r, hr, by simp⟩
  refine ⟨?_, fun x => ?_, fun q hq z => ?_⟩
  · have h1 := size_del (k := .string r.name) ht
    rw [hhas, if_pos rfl, h.1] at h1
    have h2 := delR_len hu hr
    omega
  · rw [delR_any]
    by_cases e : x = r.name
    · subst e
      rw [has_del_same]
      simp
    · rw [has_del_other (by intro e2; injection e2 with e2; exact e e2), h.2.1]
      simp [e]
  · rw [mem_delR] at hq
    rw [atKey_del_other (by intro e2; injection e2 with e2; exact hq.2 e2)]
    exact h.2.2 q hq.1 z
theorem owns_tight {w : World} {b n : Nat} {Dm : DU} (h : w.ownsMap Try.prog 9 ptrEl b n Dm) : w.ownsMap Try.prog 9 ptrEl b (Maps.size Dm) Dm := by
  obtain ⟨es, clock, h1, h2, h3, h4⟩ := h
  refine ⟨es, clock, h1, h2, ?_, h4⟩
  rw [h4, Maps.size_eq, length_sorted]
  simp

section
variable {w w' : World} {p : Nat} {m : Option Nat} {rs : List FR} {room used left : Int} {dead armed : Bool}
theorem mem_delB {x : List UInt8} {b : Nat} (h : b ∈ allB p m (delR x rs)) : b ∈ allB p m rs := by
  simp only [allB, List.mem_cons, List.mem_append, List.mem_flatMap, mem_delR] at h ⊢
  rcases h with h | h | ⟨q, ⟨hq, _⟩, h⟩
  · exact .inl h
  · exact .inr (.inl h)
  · exact .inr (.inr ⟨q, hq, h⟩)
/-- The disk behind a delete of the map's. -/
theorem DskR.del {r : FR} {b : Nat} {Dm : DU} (h : DskR w p (some b) rs room used left dead armed) (hu : rsUp rs) (hr : r ∈ rs) (ho : w'.ownsMap Try.prog 9 ptrEl b rs.length (Dm.del (.string r.name))) (hm : MR Dm rs) (ht : Tidy Dm) (hg : w.grownBy w' (some b)) :
    DskR w' p (some b) (delR r.name rs) room used left dead armed := by
  obtain ⟨h1, h2, h3, h4, h5, h6⟩ := h
  have hf : Fr w w' [b] := Fr.of_grown hg (fun c hc => by injection hc with hc; rw [hc]; exact List.mem_singleton.2 rfl)
  have hM := hm.del ht hu hr
  refine ⟨(hf.block p (Array.getElem?_eq_some_iff.1 h1).1 (fun hmem => h5 b rfl (by rw [List.mem_singleton] at hmem; exact hmem.symm))).trans h1, .inr ⟨b, _, rfl, by rw [← hM.1]; exact owns_tight ho, hM⟩, fun q hq => ?_, fun q hq => h4 q (mem_delR.1 hq).1, h5, List.Pairwise.filter _ h6⟩
  exact (h3 q (mem_delR.1 hq).1).fr hf (fun c hc hmem => (h4 q (mem_delR.1 hq).1).2.1 b rfl (by rw [List.mem_singleton] at hmem; rw [← hmem]; exact hc))

/-- 'The disk without the file.' -/
def RetDel (w : World) (p : Nat) (m : Option Nat) (rs : List FR) (x : List UInt8) (room used left : Int) (dead armed : Bool) (v : Value) (e : Ending) (w' : World) : Prop :=
  e = .returned v ∧ DskR w' p m (delR x rs) room used left dead armed ∧ Fr w w' (allB p m rs)
set_option maxRecDepth 100000 in
set_option maxHeartbeats 1000000 in
theorem drop_none (x : List UInt8) (h : DskR w p m rs room used left dead armed) (hx : ∀ r ∈ rs, r.name ≠ x) (hl : x.length ≤ maxLen) :
    Calls Try.prog 106 #[.pointer (some ⟨p, 0, none⟩), .string (tx x)] w fun e w' => e = .returned (.tuple #[]) ∧ w = w' := by
  obtain ⟨c0, c1, c2, c3, c4, c5⟩ := h.head
  have hlk := h.2.1.look_none hx hl
  clear hx hl
  go_enter Try.func106, Try.ntmps106
  go_wp2
  go_end0
  exact ⟨rfl, rfl⟩
set_option maxRecDepth 100000 in
set_option maxHeartbeats 2000000 in
theorem drop_some {r : FR} (u : Nat) (h : DskR w p m rs room (u : Int) left dead armed) (hu : rsUp rs) (hr : r ∈ rs) (hl : r.name.length ≤ maxLen) (hru : r.dat.length ≤ u) (hu2 : u ≤ 9223372036854775807) :
    Calls Try.prog 106 #[.pointer (some ⟨p, 0, none⟩), .string (tx r.name)] w (RetDel w p m rs r.name room ((u - r.dat.length : Nat) : Int) left dead armed (.tuple #[])) := by
  obtain ⟨c0, c1, c2, c3, c4, c5⟩ := h.head
  have hlk := h.2.1.look_some hr hl
  have hfa := h.2.2.1 r hr
  obtain ⟨d0, d1⟩ := hfa.cells
  have f2 := h.thaw 2
  have hpf : p ≠ r.fb := fun e => (h.2.2.2.1 r hr).1 (by rw [e]; simp [FR.bl])
  have i1 : IntKind.i64.wrap ((u : Int) - (r.dat.length : Int)) = (u : Int) - (r.dat.length : Int) := IntWalk.i64_in _ (by omega)
  have hkey := keyN hl
  go_enter Try.func106, Try.ntmps106
  go_wp2
  go_region
  obtain ⟨W, hW⟩ : ∃ W, W = (w.setCell ⟨p, 2, none⟩ (.int .i64 ((u : Int) - (r.dat.length : Int)))).drew := ⟨_, rfl⟩
  rw [← hW]
  have hf1 : Fr w W [p] := by rw [hW]; exact (Fr.set w p 2 _).drewN 1
  have hD1 : DskR W p m rs room ((u : Int) - (r.dat.length : Int)) left dead armed := h.turn hf1 (by rw [hW]; exact heap_setCell_same _ _ _ _ _ _ h.1)
  have hf1 : Fr w W (allB p m rs) := hf1.mono (fun b hb => .inl (by rw [List.mem_singleton] at hb; rw [hb]; exact mem_head))
  have e1 : ((u : Int) - (r.dat.length : Int)) = ((u - r.dat.length : Nat) : Int) := by omega
  rw [e1] at hD1
  clear hW h hfa c0 c1 c2 c3 c4 c5 d0 d1 f2 i1 hlk e1
  have hM := hD1.2.1
  rcases hM with ⟨_, rfl⟩ | ⟨b, Dm, rfl, ho, hm⟩
  · cases hr
  obtain ⟨c0, _⟩ := hD1.head
  go_wp2_with (at_delete; refine wpList_delete_own _ rfl _ _ 24 9 rfl 105 lawN Try.underlying24 _ b rs.length Dm rfl ho _ _ rfl hkey ?_)
  intro w2 ho2 hturn
  have hfin : RetDel w p (some b) rs r.name room ((u - r.dat.length : Nat) : Int) left dead armed (.tuple #[]) (.returned (.tuple #[])) w2 := by
    refine ⟨rfl, hD1.del hu hr ho2 hm (ho.tidy lawN) hturn.grown, ?_⟩
    exact hf1.trans (Fr.of_grown (bl := [b]) hturn.grown (fun c hc => by injection hc with hc; rw [hc]; exact List.mem_singleton.2 rfl)) (fun c hc => .inl (by rw [List.mem_singleton] at hc; rw [hc]; exact mem_map rfl))
  have HFIN := Lib.hid hfin
  clear hfin ho2 hturn hD1 ho hm hf1
  go_wp2
  go_end0
  exact HFIN.out
end
end Go.Proofs.Ytjpnfhfeabdhiaa
