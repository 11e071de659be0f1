/- The program's Append: a file that is made. -/
import Derived.Test.YtjpnfhfeabdhiaaDskB
namespace Go.Proofs.Ytjpnfhfeabdhiaa
open Go Go.RowKit Go.Maps

theorem putR_eq {r q : FR} {t : List FR} (h : q.name = r.name) : putR r (q :: t) = r :: t := by rw [putR, if_pos h]
theorem putR_lt {r q : FR} {t : List FR} (h : q.name ≠ r.name) (h2 : r.name < q.name) : putR r (q :: t) = r :: q :: t := by rw [putR, if_neg h, if_pos h2]
theorem putR_gt {r q : FR} {t : List FR} (h : q.name ≠ r.name) (h2 : ¬ r.name < q.name) : putR r (q :: t) = q :: putR r t := by rw [putR, if_neg h, if_neg h2]
theorem putR_putR {a b : FR} (e : a.name = b.name) : ∀ {rs : List FR}, rsUp rs → putR a (putR b rs) = putR a rs
  | [], _ => putR_eq e.symm
  | q :: t, hu => by
    unfold rsUp at hu
    rw [List.pairwise_cons] at hu
    by_cases h1 : q.name = b.name
    · rw [putR_eq h1, putR_eq e.symm, putR_eq (by rw [e]; exact h1)]
    · by_cases h2 : b.name < q.name
      · rw [putR_lt h1 h2, putR_eq e.symm, putR_lt (by rw [e]; exact h1) (by rw [e]; exact h2)]
      · rw [putR_gt h1 h2, putR_gt (by rw [e]; exact h1) (by rw [e]; exact h2), putR_gt (by rw [e]; exact h1) (by rw [e]; exact h2), putR_putR e hu.2]
theorem mem_putR_self (r : FR) : ∀ rs : List FR, r ∈ putR r rs
  | [] => by simp [putR]
  | q :: t => by
    simp only [putR]
    split
    · exact List.mem_cons_self ..
    · split
      · exact List.mem_cons_self ..
      · exact List.mem_cons_of_mem _ (mem_putR_self r t)
theorem putR_up {r : FR} {rs : List FR} (h : rsUp rs) : rsUp (putR r rs) := by
  have h1 : risingF (rs.map FR.val) := by
    unfold risingF
    rw [List.pairwise_map]
    exact h
  have h2 := putF_up (f := r.val) h1
  rw [← putR_val] at h2
  exact rsUp_of h2

section
variable {w w' : World} {p : Nat} {m : Option Nat} {rs : List FR} {room used left : Int} {dead armed : Bool}
theorem put_any (r : FR) (h : DskR w p m rs room used left dead armed) (hn : ∀ q ∈ rs, q.name ≠ r.name) (hl : r.name.length ≤ 1099511627776) (hrs : rs.length ≤ 1099511627776) :
    Calls Try.prog 62 #[.pointer (some ⟨p, 0, none⟩), .string (tx r.name), .pointer (some ⟨r.fb, 0, none⟩)] w (RetPut w p m (putR r rs) room used left dead armed) := by
  obtain ⟨h1, h2, h3, h4⟩ := h
  rcases h2 with ⟨rfl, rfl⟩ | ⟨b, Dm, rfl, ho, hm⟩
  · exact put_nil r h1 hl
  · exact put_some r h1 ho hm (h4.2.1 b rfl) hn hl hrs
/-- The disk behind a put. -/
theorem DskR.put {r : FR} {e : Ending} (h : DskR w p m rs room used left dead armed) (hu : rsUp rs) (hr : RetPut w p m (putR r rs) room used left dead armed e w') (hat : FileAt w r) (hfr : ∀ b ∈ r.bl, b ∉ allB p m rs) (hne : blk r.A ≠ some r.fb) :
    ∃ b, DskR w' p (some b) (putR r rs) room used left dead armed ∧ Fr w w' (p :: m.toList) ∧ (m = some b ∨ w.heap.size ≤ b) := by
  have hlt := h.lt
  obtain ⟨h1, h2, h3, h4, h5, h6⟩ := h
  obtain ⟨_, b, Dm, e1, e2, e3, e4, e5⟩ := hr
  have hpl := (Array.getElem?_eq_some_iff.1 h1).1
  have hbp : b ≠ p := by
    rcases e5 with e5 | e5
    · exact h5 b e5
    · omega
  have hbq : ∀ q ∈ rs, b ∉ q.bl := fun q hq hb => by
    rcases e5 with e5 | e5
    · exact (h4 q hq).2.1 b e5 hb
    · have := hlt b (mem_file hq hb); omega
  have hbr : b ∉ r.bl := fun hb => by
    rcases e5 with e5 | e5
    · exact hfr b hb (mem_map e5)
    · have := hat.lt b hb; omega
  refine ⟨b, ⟨e1, .inr ⟨b, Dm, rfl, e2, e3⟩, fun q hq => ?_, fun q hq => ?_, fun c hc => by injection hc with hc; rw [← hc]; exact hbp, ?_⟩, e4, e5⟩
  · rcases putR_sub2 hu q hq with rfl | ⟨hq, _⟩
    · refine hat.fr e4 (fun c hc hm => hfr c hc ?_)
      simp only [allB, List.mem_cons, List.mem_append] at hm ⊢
      rcases hm with hm | hm
      · exact .inl hm
      · exact .inr (.inl hm)
    · refine (h3 q hq).fr e4 (fun c hc hm => ?_)
      simp only [List.mem_cons, Option.mem_toList] at hm
      rcases hm with rfl | hm
      · exact (h4 q hq).1 hc
      · exact (h4 q hq).2.1 c hm hc
  · rcases putR_sub2 hu q hq with rfl | ⟨hq, _⟩
    · exact ⟨fun hm => hfr p hm mem_head, fun c hc => by injection hc with hc; rw [← hc]; exact hbr, hne⟩
    · exact ⟨(h4 q hq).1, fun c hc => by injection hc with hc; rw [← hc]; exact hbq q hq, (h4 q hq).2.2⟩
  · exact putR_pair (fun a b => Sp.symm) h6 (fun q hq _ x hx hxq => hfr x hx (mem_file hq hxq)) hu

/-- 'The disk with this file now, and maybe a map of its own; the number.' -/
def RetFile2 (w : World) (p : Nat) (m : Option Nat) (rs : List FR) (x : List UInt8) (dat : List UInt8) (saf : Nat) (room used left : Int) (dead armed : Bool) (v : Value) (e : Ending) (w' : World) : Prop :=
  e = .returned v ∧ ∃ (r' : FR) (m' : Option Nat), r'.name = x ∧ r'.dat = dat ∧ r'.saf = saf ∧ DskR w' p m' (putR r' rs) room used left dead armed ∧ Fr w w' (allB p m rs) ∧ ∀ b ∈ allB p m' (putR r' rs), b ∈ allB p m rs ∨ w.heap.size ≤ b

set_option maxRecDepth 100000 in
set_option maxHeartbeats 4000000 in
theorem append_new (x : List UInt8) (B : Option Addr) (n c : Nat) (ys : List UInt8) (u R : Nat) (h : DskR w p m rs (R : Int) (u : Int) left false armed) (hu : rsUp rs) (hno : ∀ r ∈ rs, r.name ≠ x) (hB : Rd w B n ys) (hBo : ∀ b, blk B = some b → b ∉ allB p m rs)
    (hf : u + n ≤ R) (hR : R ≤ 9223372036854775807) (hn : n ≤ 1099511627776) (hx : x.length ≤ 1099511627776) (hrs : rs.length ≤ 1099511627776) (hl : 0 ≤ left ∧ left ≤ 9223372036854775807) :
    Calls Try.prog 16 #[.pointer (some ⟨p, 0, none⟩), .string (tx x), .slice B n c] w
      (RetFile2 w p m rs x ys 0 R ((u + n : Nat) : Int) (tL armed left) (tD false armed left) (tA armed left) (.int .i64 (tE armed left))) := by
  have hxm : x.length ≤ maxLen := by unfold maxLen; omega
  obtain ⟨c0, c1, c2, c3, c4, c5⟩ := h.head
  have i0 : IntKind.i64.wrap ((R : Int) - (u : Int)) = (R : Int) - (u : Int) := IntWalk.i64_in _ (by omega)
  have i1 : decide ((R : Int) - (u : Int) < (n : Int)) = false := by simp; omega
  have i2 : IntKind.i64.wrap ((u : Int) + (n : Int)) = (u : Int) + (n : Int) := IntWalk.i64_in _ (by omega)
  have HNO := Lib.hid hno
  have HBo := Lib.hid hBo
  clear hBo
  go_enter Try.func16, Try.ntmps16
  go_wp2_with fail
  refine (find_none x h hno hxm).mono ?_
  rintro e w' ⟨rfl, rfl⟩
  clear hno
  go_wp2
  go_quiet (fail)
  obtain ⟨W, hW⟩ : ∃ W, W = w.drewN nq := ⟨_, rfl⟩
  have hD : DskR W p m rs (R : Int) (u : Int) left false armed := by rw [hW]; exact h
  have hBW : Rd W B n ys := by rw [hW]; exact hB.drewN nq
  have hFW : Fr w W (allB p m rs) := by rw [hW]; exact (Fr.refl _ _).drewN nq
  have hzW : W.heap.size = w.heap.size := by rw [hW]; rfl
  rw [← hW]
  have HZW := Lib.hid hzW
  clear hW h hB hzW c0 c1 c2 c3 c4 c5
  obtain ⟨V, hV⟩ : ∃ V, V = W.alloc (.cells #[.slice none 0 0, .int .i64 0] 109) := ⟨_, rfl⟩
  have hbV : Below W.heap.size W V := by rw [hV]; exact (Below.refl _ _).alloc (Nat.le_refl _) _
  have hDV : DskR V p m rs (R : Int) (u : Int) left false armed := hD.fr (Fr.of_below hbV []) (fun b _ h => by cases h)
  have hBV : Rd V B n ys := hBW.below hbV
  obtain ⟨fb, hfb⟩ : ∃ fb, fb = W.heap.size := ⟨_, rfl⟩
  have hcV : V.heap[fb]? = some (.cells #[.slice none 0 0, .int .i64 0] 109 (0, 0)) := by rw [hV, hfb]; exact heap_alloc_new _ _
  obtain ⟨r0, hr0⟩ : ∃ r0 : FR, r0 = ⟨x, [], 0, fb, none, 0⟩ := ⟨_, rfl⟩
  have hn0 : r0.name = x := by rw [hr0]
  have hb0 : r0.fb = fb := by rw [hr0]
  have hat0 : FileAt V r0 := by rw [hr0]; exact ⟨hcV, Own.nil _ _ _, Nat.le_refl _⟩
  have hfr0 : ∀ b ∈ r0.bl, b ∉ allB p m rs := fun b hb hm => by
    rw [hr0] at hb
    simp [FR.bl, blk] at hb
    have := hD.lt b hm
    omega
  have hne0 : blk r0.A ≠ some r0.fb := by rw [hr0]; simp [blk]
  have hP := put_any r0 hDV (fun q hq e => HNO.out q hq (by rw [e, hn0])) (by rw [hn0]; exact hx) hrs
  rw [hn0, hb0] at hP
  have HP := Lib.hid hP
  have HV := Lib.hid hV
  have HFB := Lib.hid hfb
  clear hP hV hcV hfb
  go_wp2_with fail
  rw [← HV.out, ← HFB.out]
  refine HP.out.mono ?_
  clear HP
  rintro e w1 hret
  have hfb := HFB.out
  clear HFB
  subst hfb
  obtain ⟨he, hret2⟩ := hret
  subst he
  obtain ⟨mb, hD1, hF1, hmb⟩ := hDV.put hu ⟨rfl, hret2⟩ hat0 hfr0 hne0
  clear hret2
  have hVs := hbV.size
  have hr1 : r0 ∈ putR r0 rs := mem_putR_self _ _
  have hu1 := putR_up (r := r0) hu
  have hfa := hD1.2.2.1 r0 hr1
  have hB1 : Rd w1 B n ys := hBV.fr hF1 (fun b hb hm => HBo.out b hb (by
    simp only [List.mem_cons, Option.mem_toList, allB, List.mem_append] at hm ⊢
    rcases hm with hm | hm
    · exact .inl hm
    · exact .inr (.inl hm)))
  have hF01 : Fr w w1 (allB p m rs) := by
    have f1 : Fr w V (allB p m rs) := hFW.trans (Fr.of_below hbV (allB p m rs)) (fun b hb => .inl hb)
    exact f1.trans hF1 (fun b hb => .inl (by
      simp only [List.mem_cons, Option.mem_toList, allB, List.mem_append] at hb ⊢
      rcases hb with hm | hm
      · exact .inl hm
      · exact .inr (.inl hm)))
  have hmem1 : ∀ b ∈ allB p (some mb) (putR r0 rs), b ∈ allB p m rs ∨ w.heap.size ≤ b := fun b hb => by
    simp only [allB, List.mem_cons, List.mem_append, List.mem_flatMap, Option.mem_toList] at hb
    have := HZW.out
    rcases hb with rfl | hb | ⟨q, hq, hb⟩
    · exact .inl mem_head
    · cases hb
      rcases hmb with h1 | h1
      · exact .inl (mem_map h1)
      · exact .inr (by omega)
    · rcases putR_sub2 hu q hq with rfl | ⟨hq, _⟩
      · rw [hr0] at hb
        simp [FR.bl, blk] at hb
        exact .inr (by omega)
      · exact .inl (mem_file hq hb)
  have hz1 : w.heap.size ≤ w1.heap.size := hF01.size
  clear hDV hBV hBW hFW hbV hat0 hfr0 hne0 hF1 hmb hD
  have hfa1 := hfa.1
  have hpf : p ≠ W.heap.size := fun e => (hD1.2.2.2.1 r0 hr1).1 (by rw [e, ← hb0]; simp [FR.bl])
  have hfl : W.heap.size < w1.heap.size := by have := (Array.getElem?_eq_some_iff.1 hfa1).1; rw [hb0] at this; exact this
  have hpl : p < w1.heap.size := (Array.getElem?_eq_some_iff.1 hD1.1).1
  rw [hr0] at hfa1
  have d0 : w1.cell? ⟨W.heap.size, 0, none⟩ = some (.slice none 0 0) := cell_of_row w1 W.heap.size 0 _ _ _ hfa1
  have hown : OwnV 5 w1 0 none 0 0 [] := OwnV.nil _ _ _
  go_wp2_with (at_builtin; refine wpList_appV w1 rfl (.tmp 42) (.tmp 43) 30 rfl 0 5 _ 1 Try.underlying30 info_u8 rfl none 0 0 [] rfl hown B n c (ys.map cv) rfl hB1.toV (cv_one ys) ?_ ?_ ?_ ?_)
  · unfold maxLen; omega
  · omega
  · exact Nat.zero_le _
  intro A' c' w2 hA hg hk
  have hA : OwnV 5 w2 0 A' n c' (ys.map cv) := by simpa using hA
  have hg : w1.grownBy w2 none := hg
  have hyl := hB1.len
  have hgs := hg.size
  have hfb2 : w2.heap[W.heap.size]? = some (.cells #[.slice none 0 0, .int .i64 0] 109 (0, 0)) := (hg.block W.heap.size hfl (by simp)).trans hfa1
  have hp2 : w2.heap[p]? = some (.cells (headV (some mb) R u left false armed) 26 (0, 0)) := (hg.block p hpl (by simp)).trans hD1.1
  obtain ⟨r', hr'⟩ : ∃ r' : FR, r' = { r0 with dat := ys, A := A', c := c' } := ⟨_, rfl⟩
  have hkA : blk A' ≠ some W.heap.size := fun e => by
    rcases hk with h1 | h1
    · rw [h1] at e; simp [blk] at e
    · rw [h1] at e; injection e with e; omega
  obtain ⟨w3, hw3⟩ : ∃ w3, w3 = w2.setCell ⟨W.heap.size, 0, none⟩ (.slice A' n c') := ⟨_, rfl⟩
  have hg3 : w2.grownBy w3 (some W.heap.size) := by rw [hw3]; exact ⟨rfl, rfl, rfl, by simp, fun k _ hne => heap_setCell_other w2 ⟨W.heap.size, 0, none⟩ k _ (fun e => hne (by rw [e]))⟩
  have hat : FileAt w3 r' := by
    refine ⟨?_, ?_, ?_⟩
    · rw [hw3, hr', hr0]
      show (w2.setCell ⟨W.heap.size, 0, none⟩ (.slice A' n c')).heap[W.heap.size]? = some (Obj.cells #[.slice A' ys.length c', .int .i64 0] _ _)
      rw [heap_setCell_same _ _ _ _ _ _ hfb2, hyl]
      rfl
    · rw [hr']
      show Own 5 w3 0 A' ys.length c' ys
      rw [hyl]
      exact OwnV.kept hA hg3 (fun b hb e => hkA (by rw [hb]; exact e.symm))
    · rw [hr', hr0]
      exact Nat.zero_le _
  have hbl : ∀ b ∈ r'.bl, b ∈ r0.bl ∨ w1.heap.size ≤ b := fun b hb => by
    rw [hr'] at hb
    simp only [FR.bl, List.mem_cons, Option.mem_toList] at hb ⊢
    rcases hb with hb | hb
    · exact .inl (.inl hb)
    · rcases hk with h1 | h1
      · rw [h1] at hb; simp [blk] at hb
      · rw [h1] at hb
        cases hb
        exact .inr (Nat.le_refl _)
  have hf3 : Fr w1 w3 r0.bl := by
    have f1 : Fr w1 w2 r0.bl := Fr.of_grown hg (fun b hb => by cases hb)
    have f2 : Fr w2 w3 [W.heap.size] := Fr.of_grown hg3 (fun b hb => by cases hb; exact List.mem_singleton.2 rfl)
    exact f1.trans f2 (fun b hb => .inl (by rw [List.mem_singleton] at hb; rw [hb, ← hb0]; simp [FR.bl]))
  have hD3 : DskR w3 p (some mb) (putR r' (putR r0 rs)) (R : Int) (u : Int) left false armed := hD1.file hu1 hr1 (by rw [hr']) (by rw [hr']) hf3 hat hbl (by rw [hr', hr0]; exact hkA)
  obtain ⟨w4, hw4⟩ : ∃ w4, w4 = w3.setCell ⟨p, 2, none⟩ (.int .i64 ((u : Int) + (n : Int))) := ⟨_, rfl⟩
  have hD4 : DskR w4 p (some mb) (putR r' (putR r0 rs)) (R : Int) ((u : Int) + (n : Int)) left false armed := by
    rw [hw4]
    exact hD3.turn (Fr.set w3 p 2 _) (heap_setCell_same _ _ _ _ _ _ hD3.1)
  have hF4 : Fr w w4 (allB p m rs) := by
    have f1 : Fr w w3 (allB p m rs) := hF01.trans hf3 (fun b hb => hmem1 b (mem_file hr1 hb))
    have f2 : Fr w3 w4 [p] := by rw [hw4]; exact Fr.set w3 p 2 _
    exact f1.trans f2 (fun b hb => .inl (by rw [List.mem_singleton] at hb; rw [hb]; exact mem_head))
  have hmem : ∀ b ∈ allB p (some mb) (putR r' (putR r0 rs)), b ∈ allB p m rs ∨ w.heap.size ≤ b := fun b hb => by
    rcases mem_putR (p := p) (m := some mb) (w := w1) hu1 hr1 hbl b hb with h1 | h1
    · exact hmem1 b h1
    · exact .inr (by omega)
  have hpp : putR r' (putR r0 rs) = putR r' rs := putR_putR (by rw [hr']) hu
  rw [hpp] at hD4 hmem
  have d0' := cell_of_row w2 W.heap.size 0 _ _ _ hfb2
  have ff' := frozen_of_row w2 W.heap.size 0 _ _ hfb2
  have c2' : w2.cell? ⟨p, 2, none⟩ = some (.int .i64 (u : Int)) := cell_of_row w2 p 2 _ _ _ hp2
  have fp' := frozen_of_row w2 p 2 _ _ hp2
  have HW3 := Lib.hid hw3
  have HW4 := Lib.hid hw4
  have HR := Lib.hid (show r'.name = x ∧ r'.dat = ys ∧ r'.saf = 0 from by rw [hr', hr0]; exact ⟨rfl, rfl, rfl⟩)
  have HF4 := Lib.hid hF4
  have HMEM := Lib.hid hmem
  have HD4 := Lib.hid hD4
  clear hgs hfb2 hp2 hr' hkA hg3 hat hbl hf3 hD3 hF4 hmem hA hg hk hw3 hw4 hfa hfa1 hD1 d0 hown hD4 hpp hmem1 hF01 hr0 hn0 hb0 hu1 hr1 hB1 hyl
  go_wp2_with fail
  rw [← HW3.out, ← HW4.out]
  have e1 : (u : Int) + (n : Int) = ((u + n : Nat) : Int) := by omega
  refine (turn_zero HD4.out hl).mono ?_
  rintro e w5 ⟨rfl, hH⟩
  have hfin : RetFile2 w p m rs x ys 0 R ((u + n : Nat) : Int) (tL armed left) (tD false armed left) (tA armed left) (.int .i64 (tE armed left)) (.returned (.int .i64 (tE armed left))) w5 := by
    refine ⟨rfl, r', some mb, HR.out.1, HR.out.2.1, HR.out.2.2, ?_, ?_, HMEM.out⟩
    · rw [← e1]
      exact HD4.out.turn hH.1 hH.2
    · exact HF4.out.trans hH.1 (fun b hb => .inl (by rw [List.mem_singleton] at hb; rw [hb]; exact mem_head))
  have HFIN := Lib.hid hfin
  clear hfin hH e1
  go_wp2
  go_ret
  exact HFIN.out
end
end Go.Proofs.Ytjpnfhfeabdhiaa
