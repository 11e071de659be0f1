/- The program's Append: onto a file that is there; a full disk; a dead one. -/
import Derived.Test.YtjpnfhfeabdhiaaDskA
namespace Go.Proofs.Ytjpnfhfeabdhiaa
open Go Go.RowKit Go.Maps

/-- 'The disk with this file now; the number.' -/
def RetFile (w : World) (p : Nat) (m : Option Nat) (rs : List FR) (r : FR) (dat : List UInt8) (saf : Nat) (room used left : Int) (dead armed : Bool) (v : Value) (e : Ending) (w' : World) : Prop :=
  e = .returned v ∧ ∃ r' : FR, r'.name = r.name ∧ r'.dat = dat ∧ r'.saf = saf ∧ DskR w' p m (putR r' rs) room used left dead armed ∧ Fr w w' (allB p m rs) ∧ ∀ b ∈ allB p m (putR r' rs), b ∈ allB p m rs ∨ w.heap.size ≤ b

section
variable {w : World} {p : Nat} {m : Option Nat} {rs : List FR} {room used left : Int} {dead armed : Bool}
theorem append_dead (x : List UInt8) (B : Option Addr) (n c : Nat) (h : DskR w p m rs room used left true armed) :
    Calls Try.prog 16 #[.pointer (some ⟨p, 0, none⟩), .string (tx x), .slice B n c] w fun e w' => e = .returned (.int .i64 9) ∧ w = w' := by
  go_enter Try.func16, Try.ntmps16
  go_wp2_with fail
  refine (find_dead x h).mono ?_
  rintro e w' ⟨rfl, rfl⟩
  go_wp2
  go_ret
  exact ⟨rfl, rfl⟩
set_option maxRecDepth 100000 in
set_option maxHeartbeats 2000000 in
theorem append_full (x : List UInt8) (B : Option Addr) (n c : Nat) (u R : Nat) (h : DskR w p m rs (R : Int) (u : Int) left false armed) (hf : R < u + n) (huR : u ≤ R) (hR : R ≤ 9223372036854775807) (hx : x.length ≤ maxLen) :
    Calls Try.prog 16 #[.pointer (some ⟨p, 0, none⟩), .string (tx x), .slice B n c] w fun e w' => e = .returned (.int .i64 8) ∧ ∃ q, w' = w.drewN q := by
  obtain ⟨c0, c1, c2, c3, c4, c5⟩ := h.head
  have i0 : IntKind.i64.wrap ((R : Int) - (u : Int)) = (R : Int) - (u : Int) := IntWalk.i64_in _ (by omega)
  have i1 : decide ((R : Int) - (u : Int) < (n : Int)) = true := by simp; omega
  by_cases hex : ∃ r ∈ rs, r.name = x
  · obtain ⟨r, hr, rfl⟩ := hex
    go_enter Try.func16, Try.ntmps16
    go_wp2_with fail
    refine (find_some h hr hx).mono ?_
    rintro e w' ⟨rfl, rfl⟩
    go_wp2
    go_quiet (fail)
    go_wp2
    go_ret
    exact ⟨rfl, _, rfl⟩
  · go_enter Try.func16, Try.ntmps16
    go_wp2_with fail
    refine (find_none x h (fun r hr e => hex ⟨r, hr, e⟩) hx).mono ?_
    rintro e w' ⟨rfl, rfl⟩
    go_wp2
    go_quiet (fail)
    go_wp2
    go_ret
    exact ⟨rfl, _, rfl⟩
set_option maxRecDepth 100000 in
set_option maxHeartbeats 4000000 in
theorem append_old {r : FR} (B : Option Addr) (n c : Nat) (ys : List UInt8) (u R : Nat) (h : DskR w p m rs (R : Int) (u : Int) left false armed) (hu : rsUp rs) (hr : r ∈ rs) (hB : Rd w B n ys)
    (hf : u + n ≤ R) (hR : R ≤ 9223372036854775807) (hn : n ≤ 1099511627776) (hd : r.dat.length ≤ 1099511627776) (hx : r.name.length ≤ maxLen) (hl : 0 ≤ left ∧ left ≤ 9223372036854775807) :
    Calls Try.prog 16 #[.pointer (some ⟨p, 0, none⟩), .string (tx r.name), .slice B n c] w
      (RetFile w p m rs r (r.dat ++ ys) r.saf R ((u + n : Nat) : Int) (tL armed left) (tD false armed left) (tA armed left) (.int .i64 (tE armed left))) := by
  obtain ⟨c0, c1, c2, c3, c4, c5⟩ := h.head
  have hfa := h.2.2.1 r hr
  obtain ⟨d0, d1⟩ := hfa.cells
  have i0 : IntKind.i64.wrap ((R : Int) - (u : Int)) = (R : Int) - (u : Int) := IntWalk.i64_in _ (by omega)
  have i1 : decide ((R : Int) - (u : Int) < (n : Int)) = false := by simp; omega
  have i2 : IntKind.i64.wrap ((u : Int) + (n : Int)) = (u : Int) + (n : Int) := IntWalk.i64_in _ (by omega)
  have hsep := h.2.2.2.1 r hr
  have hpf : p ≠ r.fb := fun e => hsep.1 (by rw [e]; simp [FR.bl])
  have hfA : blk r.A ≠ some r.fb := hsep.2.2
  have hfl : r.fb < w.heap.size := (Array.getElem?_eq_some_iff.1 hfa.1).1
  have hpl : p < w.heap.size := (Array.getElem?_eq_some_iff.1 h.1).1
  have hpA : blk r.A ≠ some p := fun e => hsep.1 (by simp [FR.bl, e])
  have HPA := Lib.hid hpA
  have HFA := Lib.hid hfA
  clear hpA hfA hsep
  go_enter Try.func16, Try.ntmps16
  go_wp2_with fail
  refine (find_some h hr hx).mono ?_
  rintro e w' ⟨rfl, rfl⟩
  go_wp2
  go_quiet (fail)
  obtain ⟨W, hW⟩ : ∃ W, W = w.drewN nq := ⟨_, rfl⟩
  have hD : DskR W p m rs (R : Int) (u : Int) left false armed := by rw [hW]; exact h
  have hBW : Rd W B n ys := by rw [hW]; exact hB.drewN nq
  have hFW : Fr w W (allB p m rs) := by rw [hW]; exact (Fr.refl _ _).drewN nq
  have hzW : W.heap.size = w.heap.size := by rw [hW]; rfl
  rw [← hW]
  have HZW := Lib.hid hzW
  clear hW h hB hzW c0 c1 c2 c3 c4 c5 d0 d1 hfa
  obtain ⟨c0, c1, c2, c3, c4, c5⟩ := hD.head
  have hfa := hD.2.2.1 r hr
  obtain ⟨d0, d1⟩ := hfa.cells
  have hown : OwnV 5 W 0 r.A r.dat.length r.c (r.dat.map cv) := hfa.2.1
  go_wp2_with (at_builtin; refine wpList_appV W rfl (.tmp 42) (.tmp 43) 30 rfl 0 5 _ 1 Try.underlying30 info_u8 rfl r.A r.dat.length r.c (r.dat.map cv) rfl hown B n c (ys.map cv) rfl hBW.toV (cv_one ys) ?_ ?_ ?_ ?_)
  · unfold maxLen; omega
  · omega
  · exact Nat.zero_le _
  intro A' c' w2 hA hg hk
  have hyl := hBW.len
  have hgs := hg.size
  have hfb2 : w2.heap[r.fb]? = some (.cells #[.slice r.A r.dat.length r.c, .int .i64 (r.saf : Int)] 109 (0, 0)) :=
    (hg.block r.fb (by have := HZW.out; omega) (fun e => HFA.out e.symm)).trans hfa.1
  have hp2 : w2.heap[p]? = some (.cells (headV m R u left false armed) 26 (0, 0)) :=
    (hg.block p (by have := HZW.out; omega) (fun e => HPA.out e.symm)).trans hD.1
  obtain ⟨r', hr'⟩ : ∃ r' : FR, r' = { r with dat := r.dat ++ ys, A := A', c := c' } := ⟨_, rfl⟩
  obtain ⟨N, hN⟩ : ∃ N, N = r.dat.length + n := ⟨_, rfl⟩
  have hlen : (r.dat ++ ys).length = N := by rw [List.length_append, hyl, hN]
  have hkA : blk A' ≠ some r.fb := fun e => by
    rcases hk with h1 | h1
    · exact HFA.out (by rw [← h1]; exact e)
    · rw [h1] at e; injection e with e; have := HZW.out; omega
  obtain ⟨w3, hw3⟩ : ∃ w3, w3 = w2.setCell ⟨r.fb, 0, none⟩ (.slice A' N c') := ⟨_, rfl⟩
  have hg3 : w2.grownBy w3 (some r.fb) := by rw [hw3]; exact ⟨rfl, rfl, rfl, by simp, fun k _ hne => heap_setCell_other w2 ⟨r.fb, 0, none⟩ k _ (fun e => hne (by rw [e]))⟩
  have hat : FileAt w3 r' := by
    refine ⟨?_, ?_, ?_⟩
    · rw [hw3, hr']
      show _ = some (Obj.cells #[.slice A' (r.dat ++ ys).length c', .int .i64 (r.saf : Int)] _ _)
      rw [heap_setCell_same _ _ _ _ _ _ hfb2, hlen]
      rfl
    · rw [hr']
      show Own 5 w3 0 A' (r.dat ++ ys).length c' (r.dat ++ ys)
      rw [hlen, hN]
      have h1 : OwnV 5 w2 0 A' (r.dat.length + n) c' ((r.dat ++ ys).map cv) := by rw [List.map_append]; exact hA
      exact OwnV.kept h1 hg3 (fun b hb e => hkA (by rw [hb]; exact e.symm))
    · rw [hr']
      show r.saf ≤ (r.dat ++ ys).length
      rw [List.length_append]
      have := hfa.2.2
      omega
  have hbl : ∀ b ∈ r'.bl, b ∈ r.bl ∨ W.heap.size ≤ b := fun b hb => by
    rw [hr'] at hb
    simp only [FR.bl, List.mem_cons, Option.mem_toList] at hb ⊢
    rcases hb with hb | hb
    · exact .inl (.inl hb)
    · rcases hk with h1 | h1
      · exact .inl (.inr (by rw [← h1]; exact hb))
      · rw [h1] at hb
        cases hb
        exact .inr (Nat.le_refl _)
  have hf3 : Fr W w3 r.bl := by
    have f1 : Fr W w2 r.bl := Fr.of_grown hg (fun b hb => by simp only [FR.bl, List.mem_cons, Option.mem_toList]; exact .inr hb)
    have f2 : Fr w2 w3 [r.fb] := Fr.of_grown hg3 (fun b hb => by cases hb; exact List.mem_singleton.2 rfl)
    exact f1.trans f2 (fun b hb => .inl (by rw [List.mem_singleton] at hb; rw [hb]; simp [FR.bl]))
  have hD3 : DskR w3 p m (putR r' rs) (R : Int) (u : Int) left false armed := hD.file hu hr (by rw [hr']) (by rw [hr']) hf3 hat hbl (by rw [hr']; exact hkA)
  obtain ⟨w4, hw4⟩ : ∃ w4, w4 = w3.setCell ⟨p, 2, none⟩ (.int .i64 ((u : Int) + (n : Int))) := ⟨_, rfl⟩
  have hD4 : DskR w4 p m (putR r' rs) (R : Int) ((u : Int) + (n : Int)) left false armed := by
    rw [hw4]
    exact hD3.turn (Fr.set w3 p 2 _) (heap_setCell_same _ _ _ _ _ _ hD3.1)
  have hF4 : Fr w w4 (allB p m rs) := by
    have f1 : Fr w w3 (allB p m rs) := hFW.trans hf3 (fun b hb => .inl (mem_file hr hb))
    have f2 : Fr w3 w4 [p] := by rw [hw4]; exact Fr.set w3 p 2 _
    exact f1.trans f2 (fun b hb => .inl (by rw [List.mem_singleton] at hb; rw [hb]; exact mem_head))
  have hmem : ∀ b ∈ allB p m (putR r' rs), b ∈ allB p m rs ∨ w.heap.size ≤ b := by
    have := mem_putR (p := p) (m := m) (w := W) hu hr hbl
    rw [HZW.out] at this
    exact this
  have d0' := cell_of_row w2 r.fb 0 _ _ _ hfb2
  have ff' := frozen_of_row w2 r.fb 0 _ _ hfb2
  have c2' : w2.cell? ⟨p, 2, none⟩ = some (.int .i64 (u : Int)) := cell_of_row w2 p 2 _ _ _ hp2
  have fp' := frozen_of_row w2 p 2 _ _ hp2
  have hnm : r'.name = r.name := by rw [hr']
  have hdt : r'.dat = r.dat ++ ys := by rw [hr']
  have hsf : r'.saf = r.saf := by rw [hr']
  have HW3 := Lib.hid hw3
  have HW4 := Lib.hid hw4
  have HN := Lib.hid hN
  have HR := Lib.hid (show r'.name = r.name ∧ r'.dat = r.dat ++ ys ∧ r'.saf = r.saf from ⟨hnm, hdt, hsf⟩)
  have HF4 := Lib.hid hF4
  have HMEM := Lib.hid hmem
  have HD4 := Lib.hid hD4
  clear hgs hfb2 hp2 hr' hlen hkA hg3 hat hbl hf3 hD3 hF4 hmem hnm hdt hsf hA hg hk hw3 hw4 hN hfa hD c0 c1 c2 c3 c4 c5 d0 d1 hown hD4 hFW
  rw [← HN.out]
  go_wp2_with fail
  rw [← HW3.out, ← HW4.out]
  have e1 : (u : Int) + (n : Int) = ((u + n : Nat) : Int) := by omega
  refine (turn_zero HD4.out hl).mono ?_
  rintro e w5 ⟨rfl, hH⟩
  have hfin : RetFile w p m rs r (r.dat ++ ys) r.saf R ((u + n : Nat) : Int) (tL armed left) (tD false armed left) (tA armed left) (.int .i64 (tE armed left)) (.returned (.int .i64 (tE armed left))) w5 := by
    refine ⟨rfl, r', HR.out.1, HR.out.2.1, HR.out.2.2, ?_, ?_, HMEM.out⟩
    · rw [← e1]
      exact HD4.out.turn hH.1 hH.2
    · exact HF4.out.trans hH.1 (fun b hb => .inl (by rw [List.mem_singleton] at hb; rw [hb]; exact mem_head))
  have HFIN := Lib.hid hfin
  clear hfin hH e1
  go_wp2
  go_ret
  exact HFIN.out
end
end Go.Proofs.Ytjpnfhfeabdhiaa
