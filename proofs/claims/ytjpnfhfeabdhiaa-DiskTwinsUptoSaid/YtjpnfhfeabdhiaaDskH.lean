/- The disk's calls against what the plain data say, whatever it is armed with. No condition but sizes. -/
import Derived.Test.YtjpnfhfeabdhiaaDskG
namespace Go.Proofs.Ytjpnfhfeabdhiaa
open Go Go.RowKit Go.Maps

def Ar (D : DS) (left : Int) (armed : Bool) : Prop :=
  (D.dead = false → armed = decide (0 ≤ D.arm) ∧ (0 ≤ D.arm → left = D.arm)) ∧ (0 ≤ left ∧ left ≤ 9223372036854775807) ∧ (-1 ≤ D.arm ∧ D.arm ≤ 9223372036854775807)
/-- 'The disk at block p is D, and lies in the blocks bl.' -/
def DK (w : World) (p : Nat) (bl : List Nat) (D : DS) : Prop :=
  ∃ m rs left armed, DskR w p m rs (D.room : Int) (usedF D.fs : Int) left D.dead armed ∧ bl = allB p m rs ∧ rs.map FR.val = D.fs ∧ Ar D left armed ∧ risingF D.fs ∧ usedF D.fs ≤ D.room ∧ D.room ≤ 9223372036854775807
/-- 'The disk is of a size that can be.' -/
def SzD (D : DS) : Prop := usedF D.fs ≤ 1099511627776 ∧ D.fs.length ≤ 1099511627776 ∧ ∀ f ∈ D.fs, f.1.length ≤ 1099511627776
def RetDK (w : World) (p : Nat) (bl : List Nat) (D : DS) (v : Value) (e : Ending) (w' : World) : Prop :=
  e = .returned v ∧ ∃ bl', DK w' p bl' D ∧ Fr w w' bl ∧ ∀ b ∈ bl', b ∈ bl ∨ w.heap.size ≤ b

section
variable {w w' : World} {p : Nat} {bl : List Nat} {D : DS}
theorem DK.fr {bl2 : List Nat} (h : DK w p bl D) (hf : Fr w w' bl2) (ho : ∀ b ∈ bl, b ∉ bl2) : DK w' p bl D := by
  obtain ⟨m, rs, left, armed, h1, rfl, h3⟩ := h
  exact ⟨m, rs, left, armed, h1.fr hf ho, rfl, h3⟩
theorem DK.lt (h : DK w p bl D) : ∀ b ∈ bl, b < w.heap.size := by
  obtain ⟨m, rs, left, armed, h1, rfl, h3⟩ := h
  exact h1.lt
theorem DK.below (h : DK w p bl D) (hb : Below w.heap.size w w') : DK w' p bl D := h.fr (Fr.of_below hb []) (fun _ _ h => by cases h)
theorem DK.drewN (h : DK w p bl D) (q : Nat) : DK (w.drewN q) p bl D := h.fr (Fr.drewN (Fr.refl w []) q) (fun _ _ h => by cases h)
theorem DK.grown {row : Option Nat} (h : DK w p bl D) (hg : w.grownBy w' row) (hr : ∀ b, row = some b → b ∉ bl) : DK w' p bl D :=
  h.fr (Fr.of_grown (bl := row.toList) hg (fun b hb => by rw [hb]; simp)) (fun b hb hm => by
    cases row with
    | none => simp at hm
    | some k => simp at hm; exact hr k rfl (by rw [← hm]; exact hb))
theorem DK.up (h : DK w p bl D) : risingF D.fs := by obtain ⟨_, _, _, _, _, _, _, _, h, _⟩ := h; exact h
theorem DK.room (h : DK w p bl D) : usedF D.fs ≤ D.room ∧ D.room ≤ 9223372036854775807 := by obtain ⟨_, _, _, _, _, _, _, _, _, h⟩ := h; exact h
theorem DK.arm (h : DK w p bl D) : -1 ≤ D.arm ∧ D.arm ≤ 9223372036854775807 := by obtain ⟨_, _, _, _, _, _, _, h, _⟩ := h; exact h.2.2
theorem DK.saf (h : DK w p bl D) : ∀ f ∈ D.fs, f.2.2 ≤ f.2.1.length := by
  obtain ⟨m, rs, left, armed, h1, rfl, h3, _⟩ := h
  intro f hf
  rw [← h3] at hf
  obtain ⟨r, hr, rfl⟩ := List.mem_map.1 hf
  exact (h1.2.2.1 r hr).2.2
theorem DK.head (h : DK w p bl D) : p ∈ bl := by
  obtain ⟨m, rs, left, armed, h1, rfl, h3, _⟩ := h
  exact mem_head
/-- What turn makes of an armed one. -/
theorem Ar.kill {left : Int} {armed : Bool} (h : Ar D left armed) (hd : D.dead = false) (h0 : D.arm = 0) : armed = true ∧ left = 0 ∧ tE armed left = 9 ∧ tL armed left = 0 ∧ tD false armed left = true ∧ tA armed left = false := by
  have h1 := (h.1 hd).1
  have h2 := (h.1 hd).2 (by omega)
  rw [h0] at h1 h2
  subst h1 h2
  exact ⟨rfl, rfl, rfl, rfl, rfl, rfl⟩
theorem Ar.step {left : Int} {armed : Bool} (h : Ar D left armed) (hd : D.dead = false) (h0 : D.arm ≠ 0) (fs' : List FE) :
    tE armed left = 0 ∧ tD false armed left = false ∧ tA armed left = armed ∧ Ar ⟨fs', D.room, armN D.arm, D.dead⟩ (tL armed left) armed := by
  obtain ⟨h1, h2, h3⟩ := h
  obtain ⟨h4, h5⟩ := h1 hd
  by_cases hn : 0 ≤ D.arm
  · have e1 : armed = true := by rw [h4]; simpa using hn
    have e2 := h5 hn
    subst e1 e2
    refine ⟨by simp [tE, h0], by simp [tD, h0], by simp [tA, h0], fun _ => ⟨?_, fun _ => ?_⟩, ?_, ?_⟩
    · simp only [armN]; split <;> simp <;> omega
    · simp only [armN, tL]; rw [if_pos ⟨trivial, h0⟩, if_pos (by omega)]
    · simp only [tL]; rw [if_pos ⟨trivial, h0⟩]; omega
    · simp only [armN]; split <;> omega
  · have e1 : armed = false := by rw [h4]; simpa using hn
    subst e1
    refine ⟨by simp [tE], by simp [tD], by simp [tA], fun _ => ⟨?_, fun h => ?_⟩, ?_, ?_⟩
    · simp only [armN]; split <;> simp <;> omega
    · simp only [armN] at h; split at h <;> omega
    · simp only [tL]; simp only [Bool.false_eq_true, false_and, if_false]; exact h2
    · simp only [armN]; split <;> omega
theorem Ar.dead {left : Int} (hl : 0 ≤ left ∧ left ≤ 9223372036854775807) (ha : -1 ≤ D.arm ∧ D.arm ≤ 9223372036854775807) (fs' : List FE) (armed : Bool) : Ar ⟨fs', D.room, D.arm, true⟩ left armed :=
  ⟨fun h => Bool.noConfusion h, hl, ha⟩
theorem upR {rs : List FR} {fs : List FE} (e : rs.map FR.val = fs) (h : risingF fs) : rsUp rs := rsUp_of (by rw [e]; exact h)
theorem no_name {rs : List FR} {fs : List FE} {x : List UInt8} (e : rs.map FR.val = fs) (h : getF x fs = none) : ∀ r ∈ rs, r.name ≠ x := fun r hr hx =>
  getF_no h r.val (by rw [← e]; exact List.mem_map.2 ⟨r, hr, rfl⟩) hx
theorem at_name {rs : List FR} {fs : List FE} {x : List UInt8} {g : List UInt8 × Nat} (e : rs.map FR.val = fs) (h : getF x fs = some g) : ∃ r ∈ rs, r.name = x ∧ r.dat = g.1 ∧ r.saf = g.2 := by
  obtain ⟨r, hr, e1, e2, e3⟩ := of_name e (getF_mem h)
  exact ⟨r, hr, e1, e2, e3⟩
theorem maxLen_ge {n : Nat} (h : n ≤ 1099511627776) : n ≤ maxLen := by unfold maxLen; omega
theorem putR_fs {rs : List FR} {fs : List FE} {r' : FR} {x dat : List UInt8} {saf : Nat} (e : rs.map FR.val = fs) (h1 : r'.name = x) (h2 : r'.dat = dat) (h3 : r'.saf = saf) : (putR r' rs).map FR.val = putF (x, dat, saf) fs := by
  rw [putR_val, e]
  unfold FR.val
  rw [h1, h2, h3]

/-- A call that did nothing. -/
theorem RetDK.stay {D : DS} {v : Value} (h : DK w p bl D) (hf : Fr w w' bl) (hw : w'.heap = w.heap) : RetDK w p bl D v (.returned v) w' := by
  refine ⟨rfl, bl, ?_, hf, fun b hb => .inl hb⟩
  exact h.fr (bl2 := []) ⟨hf.os, hf.tape, hf.output, hf.size, fun k _ _ => by rw [hw]⟩ (fun _ _ h => by cases h)

theorem append_DK (x : List UInt8) (B : Option Addr) (n c : Nat) (ys : List UInt8) (h : DK w p bl D) (hz : SzD D) (hB : Rd w B n ys) (hBo : ∀ b, blk B = some b → b ∉ bl) (hn : n ≤ 1099511627776) (hx : x.length ≤ 1099511627776) :
    Calls Try.prog 16 #[.pointer (some ⟨p, 0, none⟩), .string (tx x), .slice B n c] w (RetDK w p bl (appendD D x ys).1 (.int .i64 (appendD D x ys).2)) := by
  have hk := h
  obtain ⟨m, rs, left, armed, h1, rfl, h3, h4, h5, h6, h7⟩ := h
  have hl := hB.len
  obtain ⟨s1, s2, s3⟩ := hz
  by_cases hd : D.dead = true
  · have e : appendD D x ys = (D, 9) := by rw [appendD, if_pos hd]
    rw [e]
    rw [hd] at h1
    refine (append_dead x B n c h1).mono ?_
    rintro e w' ⟨rfl, rfl⟩
    exact RetDK.stay hk (Fr.refl _ _) rfl
  · have hd' : D.dead = false := by simpa using hd
    rw [hd'] at h1
    by_cases hf : D.room < usedF D.fs + n
    · have e : appendD D x ys = (D, 8) := by rw [appendD, if_neg hd, hl, if_pos hf]
      rw [e]
      refine (append_full x B n c _ _ h1 hf h6 h7 (maxLen_ge hx)).mono ?_
      rintro e w' ⟨rfl, q, rfl⟩
      exact RetDK.stay hk ((Fr.refl _ _).drewN q) rfl
    · have hup := upR h3 h5
      have huse := appF_used (x := x) (ys := ys) h5
      have hupf := appF_up (x := x) (ys := ys) h5
      cases hg : getF x D.fs with
      | none =>
        have hfs : appF x ys D.fs = putF (x, ys, 0) D.fs := by rw [appF, hg]
        refine (append_new x B n c ys _ _ h1 hup (no_name h3 hg) hB hBo (by omega) h7 hn hx (by rw [← List.length_map (f := FR.val), h3]; exact s2) h4.2.1).mono ?_
        rintro e w' ⟨rfl, r', m', g1, g2, g3, g4, g5, g6⟩
        have hv : (putR r' rs).map FR.val = appF x ys D.fs := by rw [hfs]; exact putR_fs h3 g1 g2 g3
        by_cases h0 : D.arm = 0
        · obtain ⟨k1, k2, k3, k4, k5, k6⟩ := h4.kill hd' h0
          have e : appendD D x ys = (⟨appF x ys D.fs, D.room, D.arm, true⟩, 9) := by rw [appendD, if_neg hd, hl, if_neg hf, if_pos h0]
          rw [e, k3]
          rw [k4, k5, k6] at g4
          refine ⟨rfl, _, ⟨m', _, 0, false, ?_, rfl, hv, Ar.dead (by omega) h4.2.2 _ _, hupf, ?_, h7⟩, g5, g6⟩
          · simp only [huse, hl]; exact g4
          · simp only; omega
        · obtain ⟨k1, k2, k3, k4⟩ := h4.step hd' h0 (appF x ys D.fs)
          have e : appendD D x ys = (⟨appF x ys D.fs, D.room, armN D.arm, D.dead⟩, 0) := by rw [appendD, if_neg hd, hl, if_neg hf, if_neg h0]
          rw [e, k1]
          rw [k2, k3] at g4
          refine ⟨rfl, _, ⟨m', _, _, armed, ?_, rfl, hv, k4, hupf, ?_, h7⟩, g5, g6⟩
          · simp only [huse, hl, hd']; exact g4
          · simp only; omega
      | some g =>
        have hfs : appF x ys D.fs = putF (x, g.1 ++ ys, g.2) D.fs := by rw [appF, hg]
        obtain ⟨r, hr, r1, r2, r3⟩ := at_name h3 hg
        have hgl : g.1.length ≤ usedF D.fs := usedF_mem (getF_mem hg)
        subst r1
        refine (append_old B n c ys _ _ h1 hup hr hB (by omega) h7 hn (by rw [r2]; omega) (maxLen_ge hx) h4.2.1).mono ?_
        rintro e w' ⟨rfl, r', g1, g2, g3, g4, g5, g6⟩
        rw [r2] at g2
        rw [r3] at g3
        have hv : (putR r' rs).map FR.val = appF r.name ys D.fs := by rw [hfs]; exact putR_fs h3 g1 g2 g3
        by_cases h0 : D.arm = 0
        · obtain ⟨k1, k2, k3, k4, k5, k6⟩ := h4.kill hd' h0
          have e : appendD D r.name ys = (⟨appF r.name ys D.fs, D.room, D.arm, true⟩, 9) := by rw [appendD, if_neg hd, hl, if_neg hf, if_pos h0]
          rw [e, k3]
          rw [k4, k5, k6] at g4
          refine ⟨rfl, _, ⟨m, _, 0, false, ?_, rfl, hv, Ar.dead (by omega) h4.2.2 _ _, hupf, ?_, h7⟩, g5, g6⟩
          · simp only [huse, hl]; exact g4
          · simp only; omega
        · obtain ⟨k1, k2, k3, k4⟩ := h4.step hd' h0 (appF r.name ys D.fs)
          have e : appendD D r.name ys = (⟨appF r.name ys D.fs, D.room, armN D.arm, D.dead⟩, 0) := by rw [appendD, if_neg hd, hl, if_neg hf, if_neg h0]
          rw [e, k1]
          rw [k2, k3] at g4
          refine ⟨rfl, _, ⟨m, _, _, armed, ?_, rfl, hv, k4, hupf, ?_, h7⟩, g5, g6⟩
          · simp only [huse, hl, hd']; exact g4
          · simp only; omega

theorem doneD_dead {e : Int} {fs' : List FE} (h : D.dead = true) : doneD D e fs' = (D, 9) := by rw [doneD, if_pos h]
theorem doneD_err {e : Int} {fs' : List FE} (h : ¬ D.dead = true) (he : e ≠ 0) : doneD D e fs' = (D, e) := by rw [doneD, if_neg h, if_pos he]
theorem doneD_kill {fs' : List FE} (h : ¬ D.dead = true) (h0 : D.arm = 0) : doneD D 0 fs' = (⟨D.fs, D.room, D.arm, true⟩, 9) := by rw [doneD, if_neg h, if_neg (by simp), if_pos h0]
theorem doneD_ok {fs' : List FE} (h : ¬ D.dead = true) (h0 : D.arm ≠ 0) : doneD D 0 fs' = (⟨fs', D.room, armN D.arm, D.dead⟩, 0) := by rw [doneD, if_neg h, if_neg (by simp), if_neg h0]
theorem noneE_none {x : List UInt8} {fs : List FE} (h : getF x fs = none) : noneE x fs = 6 := by rw [noneE, h]; rfl
theorem noneE_some {x : List UInt8} {fs : List FE} {g : List UInt8 × Nat} (h : getF x fs = some g) : noneE x fs = 0 := by rw [noneE, h]; rfl
/-- A turning call that kills the disk. -/
theorem DK.killed {m : Option Nat} {rs : List FR} {left : Int} (h1 : DskR w p m rs (D.room : Int) (usedF D.fs : Int) left false true) (h3 : rs.map FR.val = D.fs) (ha : -1 ≤ D.arm ∧ D.arm ≤ 9223372036854775807) (h5 : risingF D.fs) (h6 : usedF D.fs ≤ D.room) (h7 : D.room ≤ 9223372036854775807)
    {v : Value} {e : Ending} (hr : RetHd w p (headV m (D.room : Int) (usedF D.fs : Int) 0 true false) v e w') : RetDK w p (allB p m rs) ⟨D.fs, D.room, D.arm, true⟩ v e w' := by
  obtain ⟨rfl, hd⟩ := hr
  refine ⟨rfl, _, ⟨m, rs, 0, false, h1.turn hd.1 hd.2, rfl, h3, Ar.dead (by omega) ha _ _, h5, h6, h7⟩, hd.1.mono (fun b hb => .inl ?_), fun b hb => .inl hb⟩
  rw [List.mem_singleton] at hb
  rw [hb]
  exact mem_head
theorem RetDK.no {k : Int} {e : Ending} (h : DK w p bl D) (hr : RetNo w k e w') : RetDK w p bl D (.int .i64 k) e w' := by
  obtain ⟨rfl, rfl⟩ := hr
  exact RetDK.stay h (Fr.refl _ _) rfl

theorem sync_DK (x : List UInt8) (h : DK w p bl D) (hx : x.length ≤ 1099511627776) :
    Calls Try.prog 17 #[.pointer (some ⟨p, 0, none⟩), .string (tx x)] w (RetDK w p bl (syncD D x).1 (.int .i64 (syncD D x).2)) := by
  have hk := h
  obtain ⟨m, rs, left, armed, h1, rfl, h3, h4, h5, h6, h7⟩ := h
  unfold syncD
  by_cases hd : D.dead = true
  · rw [doneD_dead hd]
    rw [hd] at h1
    exact (sync_dead x h1).mono fun e w' hr => RetDK.no hk hr
  · have hd' : D.dead = false := by simpa using hd
    rw [hd'] at h1
    have hup := upR h3 h5
    cases hg : getF x D.fs with
    | none =>
      rw [noneE_none hg, doneD_err hd (by decide)]
      exact (sync_none x h1 (no_name h3 hg) (maxLen_ge hx)).mono fun e w' hr => RetDK.no hk hr
    | some g =>
      rw [noneE_some hg]
      obtain ⟨r, hr, r1, r2, r3⟩ := at_name h3 hg
      subst r1
      by_cases h0 : D.arm = 0
      · rw [doneD_kill hd h0]
        obtain ⟨k1, k2, _⟩ := h4.kill hd' h0
        subst k1 k2
        exact (sync_kill h1 hr (maxLen_ge hx)).mono fun e w' hr => DK.killed h1 h3 h4.2.2 h5 h6 h7 hr
      · rw [doneD_ok hd h0]
        obtain ⟨k1, k2, k3, k4⟩ := h4.step hd' h0 (syncF r.name D.fs)
        refine (sync_some h1 hup hr (maxLen_ge hx) h4.2.1 k1).mono ?_
        rintro e w' ⟨rfl, r', g1, g2, g3, g4, g5, g6⟩
        rw [r2] at g2 g3
        have hv : (putR r' rs).map FR.val = syncF r.name D.fs := by rw [syncF, hg]; exact putR_fs h3 g1 g2 g3
        refine ⟨rfl, _, ⟨m, _, _, armed, ?_, rfl, hv, k4, syncF_up h5, ?_, h7⟩, g5, g6⟩
        · simp only [syncF_used h5, hd']; exact g4
        · simp only [syncF_used h5]; exact h6

theorem remove_DK (x : List UInt8) (h : DK w p bl D) (hx : x.length ≤ 1099511627776) :
    Calls Try.prog 67 #[.pointer (some ⟨p, 0, none⟩), .string (tx x)] w (RetDK w p bl (removeD D x).1 (.int .i64 (removeD D x).2)) := by
  have hk := h
  obtain ⟨m, rs, left, armed, h1, rfl, h3, h4, h5, h6, h7⟩ := h
  unfold removeD
  by_cases hd : D.dead = true
  · rw [doneD_dead hd]
    rw [hd] at h1
    exact (remove_dead x h1).mono fun e w' hr => RetDK.no hk hr
  · have hd' : D.dead = false := by simpa using hd
    rw [hd'] at h1
    have hup := upR h3 h5
    cases hg : getF x D.fs with
    | none =>
      rw [noneE_none hg, doneD_err hd (by decide)]
      exact (remove_none x h1 (no_name h3 hg) (maxLen_ge hx)).mono fun e w' hr => RetDK.no hk hr
    | some g =>
      rw [noneE_some hg]
      obtain ⟨r, hr, r1, r2, r3⟩ := at_name h3 hg
      subst r1
      by_cases h0 : D.arm = 0
      · rw [doneD_kill hd h0]
        obtain ⟨k1, k2, _⟩ := h4.kill hd' h0
        subst k1 k2
        exact (remove_kill h1 hr (maxLen_ge hx)).mono fun e w' hr => DK.killed h1 h3 h4.2.2 h5 h6 h7 hr
      · rw [doneD_ok hd h0]
        obtain ⟨k1, k2, k3, k4⟩ := h4.step hd' h0 (delF r.name D.fs)
        have hgl : g.1.length ≤ usedF D.fs := usedF_mem (getF_mem hg)
        have hdu := usedF_delx r.name h5
        rw [lenF_some hg] at hdu
        refine (remove_some _ h1 hup hr (maxLen_ge hx) h4.2.1 k1 (by rw [r2]; exact hgl) (by omega)).mono ?_
        rintro e w' ⟨rfl, g4, g5⟩
        have hv : (delR r.name rs).map FR.val = delF r.name D.fs := by rw [delR_val, h3]
        have hu' : usedF (delF r.name D.fs) = usedF D.fs - r.dat.length := by rw [r2]; omega
        refine ⟨rfl, _, ⟨m, _, _, armed, ?_, rfl, hv, k4, delF_up h5, ?_, h7⟩, g5, fun b hb => .inl (mem_delB hb)⟩
        · simp only [hu', hd']; exact g4
        · simp only; omega

theorem cut_DK (x : List UInt8) (z : Int) (h : DK w p bl D) (hz : SzD D) (hx : x.length ≤ 1099511627776) :
    Calls Try.prog 68 #[.pointer (some ⟨p, 0, none⟩), .string (tx x), .int .i64 z] w (RetDK w p bl (cutD D x z).1 (.int .i64 (cutD D x z).2)) := by
  have hk := h
  obtain ⟨m, rs, left, armed, h1, rfl, h3, h4, h5, h6, h7⟩ := h
  unfold cutD
  by_cases hd : D.dead = true
  · rw [doneD_dead hd]
    rw [hd] at h1
    exact (cut_dead x z h1).mono fun e w' hr => RetDK.no hk hr
  · have hd' : D.dead = false := by simpa using hd
    rw [hd'] at h1
    have hup := upR h3 h5
    cases hg : getF x D.fs with
    | none =>
      by_cases hn : z < 0
      · have e : cutE6 x z D.fs = 1 := by rw [cutE6, hg]; simp [hn]
        rw [e, doneD_err hd (by decide)]
        exact (cut_none_arg x z h1 (no_name h3 hg) (maxLen_ge hx) hn).mono fun e w' hr => RetDK.no hk hr
      · have e : cutE6 x z D.fs = 6 := by rw [cutE6, hg]; simp [hn]
        rw [e, doneD_err hd (by decide)]
        exact (cut_none x z h1 (no_name h3 hg) (maxLen_ge hx) hn).mono fun e w' hr => RetDK.no hk hr
    | some g =>
      obtain ⟨r, hr, r1, r2, r3⟩ := at_name h3 hg
      subst r1
      by_cases hn : z < 0 ∨ (g.1.length : Int) < z
      · have e : cutE6 r.name z D.fs = 1 := by rw [cutE6, hg]; simp [hn]
        rw [e, doneD_err hd (by decide)]
        exact (cut_arg z h1 hr (maxLen_ge hx) (by rw [r2]; exact hn)).mono fun e w' hr => RetDK.no hk hr
      · have e : cutE6 r.name z D.fs = 0 := by rw [cutE6, hg]; simp only; rw [if_neg hn]
        rw [e]
        obtain ⟨k, rfl⟩ : ∃ k : Nat, z = (k : Int) := ⟨z.toNat, by omega⟩
        have hkl : k ≤ g.1.length := by omega
        rw [Int.toNat_natCast]
        by_cases h0 : D.arm = 0
        · rw [doneD_kill hd h0]
          obtain ⟨k1, k2, _⟩ := h4.kill hd' h0
          subst k1 k2
          exact (cut_kill k h1 hr (maxLen_ge hx) (by rw [r2]; exact hkl)).mono fun e w' hr => DK.killed h1 h3 h4.2.2 h5 h6 h7 hr
        · rw [doneD_ok hd h0]
          obtain ⟨k1, k2, k3, k4⟩ := h4.step hd' h0 (cutF r.name k D.fs)
          have hgl : g.1.length ≤ usedF D.fs := usedF_mem (getF_mem hg)
          have hcu := cutF_used h5 hg hkl
          obtain ⟨s1, _⟩ := hz
          refine (cut_some k _ h1 hup hr (maxLen_ge hx) h4.2.1 k1 (by rw [r2]; exact hkl) (by rw [r2]; exact hgl) (by omega) (by rw [r2]; omega)).mono ?_
          rintro e w' ⟨rfl, r', g1, g2, g3, g4, g5, g6⟩
          rw [r2] at g2
          have hv : (putR r' rs).map FR.val = cutF r.name k D.fs := by rw [cutF, hg]; exact putR_fs h3 g1 g2 g3
          have hu' : usedF (cutF r.name k D.fs) = usedF D.fs - (r.dat.length - k) := by rw [r2]; omega
          refine ⟨rfl, _, ⟨m, _, _, armed, ?_, rfl, hv, k4, cutF_up h5, ?_, h7⟩, g5, g6⟩
          · simp only [hu', hd']; exact g4
          · simp only; omega

theorem rename_DK (x y : List UInt8) (h : DK w p bl D) (hz : SzD D) (hx : x.length ≤ 1099511627776) (hy : y.length ≤ 1099511627776) :
    Calls Try.prog 66 #[.pointer (some ⟨p, 0, none⟩), .string (tx x), .string (tx y)] w (RetDK w p bl (renameD D x y).1 (.int .i64 (renameD D x y).2)) := by
  have hk := h
  obtain ⟨m, rs, left, armed, h1, rfl, h3, h4, h5, h6, h7⟩ := h
  unfold renameD
  by_cases hd : D.dead = true
  · rw [doneD_dead hd]
    rw [hd] at h1
    exact (rename_dead x y h1).mono fun e w' hr => RetDK.no hk hr
  · have hd' : D.dead = false := by simpa using hd
    rw [hd'] at h1
    have hup := upR h3 h5
    cases hg : getF x D.fs with
    | none =>
      rw [noneE_none hg, doneD_err hd (by decide)]
      exact (rename_none x y h1 (no_name h3 hg) (maxLen_ge hx)).mono fun e w' hr => RetDK.no hk hr
    | some g =>
      rw [noneE_some hg]
      obtain ⟨r, hr, r1, r2, r3⟩ := at_name h3 hg
      subst r1
      by_cases h0 : D.arm = 0
      · rw [doneD_kill hd h0]
        obtain ⟨k1, k2, _⟩ := h4.kill hd' h0
        subst k1 k2
        exact (rename_kill y h1 hr (maxLen_ge hx)).mono fun e w' hr => DK.killed h1 h3 h4.2.2 h5 h6 h7 hr
      · rw [doneD_ok hd h0]
        obtain ⟨k1, k2, k3, k4⟩ := h4.step hd' h0 (renF r.name y D.fs)
        by_cases hne : r.name = y
        · subst hne
          have e1 : renF r.name r.name D.fs = D.fs := by rw [renF, if_pos rfl]
          rw [e1] at k4 ⊢
          refine (rename_same h1 hr (maxLen_ge hx) h4.2.1 k1).mono ?_
          rintro e w' ⟨rfl, hh⟩
          refine ⟨rfl, _, ⟨m, rs, _, armed, ?_, rfl, h3, k4, h5, h6, h7⟩, hh.1.mono (fun b hb => .inl ?_), fun b hb => .inl hb⟩
          · simp only [hd']
            exact h1.turn hh.1 hh.2
          · rw [List.mem_singleton] at hb
            rw [hb]
            exact mem_head
        · have hru := renF_used h5 hne hg
          have hll := lenF_le y D.fs
          have hlr := lenR_val y rs hup
          rw [h3] at hlr
          obtain ⟨s1, s2, _⟩ := hz
          refine (rename_some y _ h1 hup hr hx hy h4.2.1 k1 hne (by rw [hlr]; exact hll) (by omega) (by rw [← List.length_map (f := FR.val), h3]; exact s2)).mono ?_
          rintro e w' ⟨rfl, r', m', g1, g2, g3, g4, g5, g6⟩
          rw [r2] at g2
          rw [r3] at g3
          have hv : (putR r' (delR r.name (delR y rs))).map FR.val = renF r.name y D.fs := by
            rw [renF, if_neg hne, hg]
            exact putR_fs (by rw [delR_val, delR_val, h3]) g1 g2 g3
          have hu' : usedF (renF r.name y D.fs) = usedF D.fs - lenR y rs := by rw [hlr]; omega
          refine ⟨rfl, _, ⟨m', _, _, armed, ?_, rfl, hv, k4, renF_up h5, ?_, h7⟩, g5, g6⟩
          · simp only [hu', hd']; exact g4
          · simp only; omega

theorem read_DK (x : List UInt8) (h : DK w p bl D) (hz : SzD D) (hx : x.length ≤ 1099511627776) :
    Calls Try.prog 60 #[.pointer (some ⟨p, 0, none⟩), .string (tx x)] w (RetRd w (readD D x).1 (readD D x).2) := by
  obtain ⟨m, rs, left, armed, h1, rfl, h3, h4, h5, h6, h7⟩ := h
  unfold readD
  by_cases hd : D.dead = true
  · rw [if_pos hd]
    rw [hd] at h1
    exact read_dead x h1
  · rw [if_neg hd]
    have hd' : D.dead = false := by simpa using hd
    rw [hd'] at h1
    cases hg : getF x D.fs with
    | none => exact read_none x h1 (no_name h3 hg) (maxLen_ge hx)
    | some g =>
      obtain ⟨r, hr, r1, r2, r3⟩ := at_name h3 hg
      subst r1
      have hgl : g.1.length ≤ usedF D.fs := usedF_mem (getF_mem hg)
      have := read_some h1 hr (maxLen_ge hx) (by rw [r2]; have := hz.1; omega)
      rw [r2] at this
      exact this
theorem list_DK (pre : List UInt8) (h : DK w p bl D) (hz : SzD D) :
    Calls Try.prog 73 #[.pointer (some ⟨p, 0, none⟩), .string (tx pre)] w (RetNm w (listD D pre)) := by
  obtain ⟨m, rs, left, armed, h1, rfl, h3, h4, h5, h6, h7⟩ := h
  obtain ⟨s1, s2, s3⟩ := hz
  unfold listD
  by_cases hd : D.dead = true
  · rw [if_pos hd]
    rw [hd] at h1
    exact list_dead pre h1
  · rw [if_neg hd]
    have hd' : D.dead = false := by simpa using hd
    rw [hd'] at h1
    have e : (D.fs.map (·.1)).filter (fun x => Lib.hasPrefix x pre) = nmR pre rs := by
      rw [← h3, nmR, List.map_map]
      rfl
    rw [e]
    exact list_live pre h1 (upR h3 h5) (by rw [← List.length_map (f := FR.val), h3]; exact s2) (fun r hr => s3 r.val (by rw [← h3]; exact List.mem_map.2 ⟨r, hr, rfl⟩))
theorem used_DK (h : DK w p bl D) : Calls Try.prog 15 #[.pointer (some ⟨p, 0, none⟩)] w fun e' w' => e' = .returned (.int .i64 (usedF D.fs : Int)) ∧ w = w' := by
  obtain ⟨m, rs, left, armed, h1, _⟩ := h
  exact Used_any h1
theorem dead_DK (h : DK w p bl D) : Calls Try.prog 76 #[.pointer (some ⟨p, 0, none⟩)] w fun e' w' => e' = .returned (.bool D.dead) ∧ w = w' := by
  obtain ⟨m, rs, left, armed, h1, _⟩ := h
  exact Dead_any h1
theorem arm_DK (n : Int) (h : DK w p bl D) (hn : I64 n) :
    Calls Try.prog 69 #[.pointer (some ⟨p, 0, none⟩), .int .i64 n] w (RetDK w p bl (armD D n) (.tuple #[])) := by
  have hk := h
  obtain ⟨m, rs, left, armed, h1, rfl, h3, h4, h5, h6, h7⟩ := h
  unfold armD
  by_cases hd : D.dead = true
  · rw [if_pos hd]
    rw [hd] at h1
    refine (Arm_dead n h1).mono ?_
    rintro e w' ⟨rfl, rfl⟩
    exact RetDK.stay hk (Fr.refl _ _) rfl
  · rw [if_neg hd]
    have hd' : D.dead = false := by simpa using hd
    rw [hd'] at h1
    refine (Arm_live n h1 hn).mono ?_
    rintro e w' ⟨rfl, hh⟩
    unfold I64 at hn
    refine ⟨rfl, _, ⟨m, rs, max n 0, decide (0 ≤ n), ?_, rfl, h3, ⟨fun _ => ⟨?_, fun h => ?_⟩, by omega, ?_⟩, h5, h6, h7⟩, hh.1.mono (fun b hb => .inl ?_), fun b hb => .inl hb⟩
    · simp only [hd']
      exact h1.turn hh.1 hh.2
    · simp only; split <;> simp <;> omega
    · simp only at h ⊢; split at h <;> omega
    · simp only; split <;> omega
    · rw [List.mem_singleton] at hb
      rw [hb]
      exact mem_head
theorem cr_used (ks : List Int) : ∀ (l : List FE) (acc : List FE × Nat), usedF (l.foldl (crStep ks) acc).1 ≤ usedF acc.1 + usedF l
  | [], acc => by simp [usedF_nil]
  | f :: t, acc => by
    rw [List.foldl_cons]
    have h1 := cr_used ks t (crStep ks acc f)
    have h2 : usedF (crStep ks acc f).1 ≤ usedF acc.1 + f.2.1.length := by
      unfold crStep
      split
      · rw [usedF_app, usedF_cons, usedF_nil]; omega
      · rw [usedF_app, usedF_cons, usedF_nil]
        simp only [cutE, List.length_take]
        omega
    rw [usedF_cons]
    omega
theorem crP_used (ks : List Int) (l : List FE) : usedF (crP ks l).1 ≤ usedF l := by
  have := cr_used ks l ([], 0)
  simpa [crP, usedF_nil] using this
theorem crash_DK (K : Option Addr) (nk ck : Nat) (ks : List Int) (h : DK w p bl D) (hz : SzD D)
    (hK : RdV w K nk (ivs ks)) (hKo : 0 < nk → ∀ b, blk K = some b → b ∉ bl) (hnk : nk ≤ 1099511627776) (hkz : ∀ z ∈ ks, I64 z) :
    Calls Try.prog 59 #[.pointer (some ⟨p, 0, none⟩), .slice K nk ck] w (RetDK w p bl (crashD D ks) (.tuple #[])) := by
  obtain ⟨m, rs, left, armed, h1, rfl, h3, h4, h5, h6, h7⟩ := h
  obtain ⟨s1, s2, s3⟩ := hz
  rw [← h3] at h1 s1
  have := Crash_any K nk ck ks h1 (upR h3 h5) (by rw [← List.length_map (f := FR.val), h3]; exact s2) (fun r hr => s3 r.val (by rw [← h3]; exact List.mem_map.2 ⟨r, hr, rfl⟩)) s1 hK hKo hnk hkz
  rw [h3] at this
  refine this.mono ?_
  rintro e w' ⟨rfl, rs', e1, hD, hF, hB⟩
  have hu := crP_used ks D.fs
  refine ⟨rfl, _, ⟨m, rs', left, false, hD, rfl, e1, ⟨fun _ => ⟨rfl, fun h => ?_⟩, h4.2.1, show (-1 : Int) ≤ -1 by omega, show (-1 : Int) ≤ 9223372036854775807 by omega⟩, risingF_names (crP_names ks D.fs) h5, ?_, h7⟩, hF, hB⟩
  · exact absurd h (show ¬ (0 : Int) ≤ -1 by decide)
  · show usedF (crP ks D.fs).1 ≤ D.room; omega
def RetNK (w : World) (D : DS) (e : Ending) (w' : World) : Prop := ∃ p bl, e = .returned (.pointer (some ⟨p, 0, none⟩)) ∧ DK w' p bl D ∧ (∀ b ∈ bl, w.heap.size ≤ b) ∧ Below w.heap.size w w'
theorem new_DK (n : Int) (w : World) (hn : I64 n) : Calls Try.prog 18 #[.int .i64 n] w (RetNK w ⟨[], n.toNat, -1, false⟩) := by
  have hn2 := hn
  unfold I64 at hn
  have fin : RetNK w ⟨[], n.toNat, -1, false⟩ (.returned (.pointer (some ⟨w.heap.size, 0, none⟩))) (w.alloc (.cells (headV none (n.toNat : Int) 0 0 false false) 26)) :=
    ⟨w.heap.size, _, rfl, ⟨none, [], 0, false, DskR.init w _, rfl, rfl, ⟨fun _ => ⟨rfl, fun h => absurd h (show ¬ (0 : Int) ≤ -1 by decide)⟩, by omega, by simp only; omega⟩, List.Pairwise.nil, Nat.zero_le _, by simp only; omega⟩,
      (fun b hb => by simp [allB] at hb; omega), (Below.refl _ _).alloc (Nat.le_refl _) _⟩
  have HF := Lib.hid fin
  clear fin
  by_cases h0 : 0 ≤ n
  · have h2 : (n.toNat : Int) = n := by omega
    rw [h2] at HF
    have h3 : max n 0 = n := by omega
    go_enter Try.func18, Try.ntmps18
    go_wp2
    go_ret
    exact HF.out
  · have h2 : (n.toNat : Int) = 0 := by omega
    rw [h2] at HF
    have h3 : max n 0 = 0 := by omega
    go_enter Try.func18, Try.ntmps18
    go_wp2
    go_ret
    exact HF.out
theorem RetDK.step {w0 : World} {v : Value} {e : Ending} (hr : RetDK w p bl D v e w') (hb0 : Below w0.heap.size w0 w) (hB : ∀ b ∈ bl, w0.heap.size ≤ b) :
    e = .returned v ∧ ∃ bl', DK w' p bl' D ∧ Fr w w' bl ∧ (∀ b ∈ bl', b ∈ bl ∨ w.heap.size ≤ b) ∧ (∀ b ∈ bl', w0.heap.size ≤ b) ∧ Below w0.heap.size w0 w' := by
  obtain ⟨rfl, bl', h1, h2, h3⟩ := hr
  have hs := hb0.size
  exact ⟨rfl, bl', h1, h2, h3, fun b hb => by rcases h3 b hb with h | h; exact hB b h; omega, hb0.trans (h2.below hB hs)⟩
end
end Go.Proofs.Ytjpnfhfeabdhiaa
