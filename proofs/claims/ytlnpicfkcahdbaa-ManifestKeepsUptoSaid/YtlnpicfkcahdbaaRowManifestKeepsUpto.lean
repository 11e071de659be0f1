/- No call of manifest changes or keeps what it is handed, and all answers are memory of their own. Condition: the arguments hold at most 1048576 bytes in all. -/
import Derived.Test.YtlnpicfkcahdbaaMfL
import Derived.Test.YtlnpicfkcahdbaaFamD
import Derived.Test.YtlnpicfkcahdbaaSpare
import Derived.Test.YtlnpicfkcahdbaaKept
import Derived.Test.YtlnpicfkcahdbaaApart
import Derived.Deep.RegionHeld3
import Derived.Test.YtlnpicfkcahdbaaRows
import Derived.Test.YtlnpicfkcahdbaaOpen
import Derived.ProofKit
import Derived.OpenShut
import Derived.ShutString
import Derived.ChangeOld
import Derived.SizedLaws
import Derived.JoinedCond
import Derived.Deep.CondSized
import Derived.Deep.Matrix
import Derived.Test.YtlnpicfkcahdbaaBulk
namespace Go.Proofs.Ytlnpicfkcahdbaa
open Go Go.RowKit

theorem Cl.ch4 {w : World} {g : Nat} {a0 a1 a2 a3 : Value} {t : TypeId} (h : Cl w g #[a0, a1, a2, a3] t) (v0 v1 v2 v3 : Value) : Cl (w.setCell ⟨g, 0, none⟩ v0) g #[v0, a1, a2, a3] t ∧ Cl ((w.setCell ⟨g, 0, none⟩ v0).setCell ⟨g, 1, none⟩ v1) g #[v0, v1, a2, a3] t ∧ Cl (((w.setCell ⟨g, 0, none⟩ v0).setCell ⟨g, 1, none⟩ v1).setCell ⟨g, 2, none⟩ v2) g #[v0, v1, v2, a3] t ∧ Cl ((((w.setCell ⟨g, 0, none⟩ v0).setCell ⟨g, 1, none⟩ v1).setCell ⟨g, 2, none⟩ v2).setCell ⟨g, 3, none⟩ v3) g #[v0, v1, v2, v3] t := by
  have h1 : Cl (w.setCell ⟨g, 0, none⟩ v0) g #[v0, a1, a2, a3] t := h.set 0 v0
  have h2 : Cl ((w.setCell ⟨g, 0, none⟩ v0).setCell ⟨g, 1, none⟩ v1) g #[v0, v1, a2, a3] t := h1.set 1 v1
  have h3 : Cl (((w.setCell ⟨g, 0, none⟩ v0).setCell ⟨g, 1, none⟩ v1).setCell ⟨g, 2, none⟩ v2) g #[v0, v1, v2, a3] t := h2.set 2 v2
  have h4 : Cl ((((w.setCell ⟨g, 0, none⟩ v0).setCell ⟨g, 1, none⟩ v1).setCell ⟨g, 2, none⟩ v2).setCell ⟨g, 3, none⟩ v3) g #[v0, v1, v2, v3] t := h3.set 3 v3
  exact ⟨h1, h2, h3, h4⟩
theorem Cl.st4 {w : World} {g : Nat} {a0 a1 a2 a3 : Value} {t : TypeId} (h : Cl w g #[a0, a1, a2, a3] t) : (w.cell? ⟨g, 0, none⟩ = some a0) ∧ (w.frozen? ⟨g, 0, none⟩ = false) ∧ (∀ v0 : Value, (w.setCell ⟨g, 0, none⟩ v0).cell? ⟨g, 1, none⟩ = some a1) ∧ (∀ v0 : Value, (w.setCell ⟨g, 0, none⟩ v0).frozen? ⟨g, 1, none⟩ = false) ∧ (∀ v0 v1 : Value, ((w.setCell ⟨g, 0, none⟩ v0).setCell ⟨g, 1, none⟩ v1).cell? ⟨g, 2, none⟩ = some a2) ∧ (∀ v0 v1 : Value, ((w.setCell ⟨g, 0, none⟩ v0).setCell ⟨g, 1, none⟩ v1).frozen? ⟨g, 2, none⟩ = false) ∧ (∀ v0 v1 v2 : Value, (((w.setCell ⟨g, 0, none⟩ v0).setCell ⟨g, 1, none⟩ v1).setCell ⟨g, 2, none⟩ v2).cell? ⟨g, 3, none⟩ = some a3) ∧ (∀ v0 v1 v2 : Value, (((w.setCell ⟨g, 0, none⟩ v0).setCell ⟨g, 1, none⟩ v1).setCell ⟨g, 2, none⟩ v2).frozen? ⟨g, 3, none⟩ = false) :=
  ⟨h.cell 0, h.thaw 0, fun v0 => (h.ch4 v0 a1 a2 a3).1.cell 1, fun v0 => (h.ch4 v0 a1 a2 a3).1.thaw 1, fun v0 v1 => (h.ch4 v0 v1 a2 a3).2.1.cell 2, fun v0 v1 => (h.ch4 v0 v1 a2 a3).2.1.thaw 2, fun v0 v1 v2 => (h.ch4 v0 v1 v2 a3).2.2.1.cell 3, fun v0 v1 v2 => (h.ch4 v0 v1 v2 a3).2.2.1.thaw 3⟩
theorem Cl.fin4 {w : World} {g : Nat} {a0 a1 a2 a3 : Value} {t : TypeId} (h : Cl w g #[a0, a1, a2, a3] t) : (∀ v0 v1 v2 v3 : Value, ((((w.setCell ⟨g, 0, none⟩ v0).setCell ⟨g, 1, none⟩ v1).setCell ⟨g, 2, none⟩ v2).setCell ⟨g, 3, none⟩ v3).cell? ⟨g, 0, none⟩ = some v0) ∧ (∀ v0 v1 v2 v3 : Value, ((((w.setCell ⟨g, 0, none⟩ v0).setCell ⟨g, 1, none⟩ v1).setCell ⟨g, 2, none⟩ v2).setCell ⟨g, 3, none⟩ v3).cell? ⟨g, 1, none⟩ = some v1) ∧ (∀ v0 v1 v2 v3 : Value, ((((w.setCell ⟨g, 0, none⟩ v0).setCell ⟨g, 1, none⟩ v1).setCell ⟨g, 2, none⟩ v2).setCell ⟨g, 3, none⟩ v3).cell? ⟨g, 2, none⟩ = some v2) ∧ (∀ v0 v1 v2 v3 : Value, ((((w.setCell ⟨g, 0, none⟩ v0).setCell ⟨g, 1, none⟩ v1).setCell ⟨g, 2, none⟩ v2).setCell ⟨g, 3, none⟩ v3).cell? ⟨g, 3, none⟩ = some v3) :=
  ⟨fun v0 v1 v2 v3 => (h.ch4 v0 v1 v2 v3).2.2.2.cell 0, fun v0 v1 v2 v3 => (h.ch4 v0 v1 v2 v3).2.2.2.cell 1, fun v0 v1 v2 v3 => (h.ch4 v0 v1 v2 v3).2.2.2.cell 2, fun v0 v1 v2 v3 => (h.ch4 v0 v1 v2 v3).2.2.2.cell 3⟩
theorem frame_memM : ∀ {l : List (List UInt8)} {x : List UInt8}, x ∈ l → x.length ≤ (frameB l).length
  | y :: t, x, h => by
    simp only [frameB, List.length_append]
    rcases List.mem_cons.1 h with rfl | h
    · omega
    · have := frame_memM h; omega
/-- What Decode answers: an edit that adds one file. -/
def RetDe (w : World) (x : Mf) (s : Nat) (e : Ending) (w' : World) : Prop := ∃ L c ps, e = .returned (.tuple #[.agg #[.bool false, .slice L 1 c, .slice none 0 0, .int .u64 (s : Int)], .int .i64 0]) ∧ RowMf w w.heap.size L 1 c [x] ps w'
theorem RetDe.out {w : World} {x : Mf} {s : Nat} {e : Ending} {w' : World} (h : RetDe w x s e w') : ∃ L c ps, e = .returned (.tuple #[.agg #[.bool false, .slice L 1 c, .slice none 0 0, .int .u64 (s : Int)], .int .i64 0]) ∧ RowMf w w.heap.size L 1 c [x] ps w' := h
theorem RetP.outM {base : Nat} {w : World} {g : List (List UInt8) × Int} {e : Ending} {w' : World} (h : RetP base w g e w') : ∃ A n c, e = .returned (.tuple #[.slice A n c, .int .i64 g.2]) ∧ OwnL 22 w' base A n c g.1 ∧ Below base w w' := h
set_option maxRecDepth 100000 in
set_option maxHeartbeats 16000000 in
theorem decode_any {w : World} {B : Option Addr} {m c s : Nat} {x : Mf} (hr : Rd w B m (frameB (psE x s))) (hm : m ≤ 16777216) (hmc : m ≤ c) (hB : B = none → c = 0) (hc0 : x.cnt = 0) (hs0 : x.sz = 0) (hl0 : x.lv = 0) (hx : U64 x.num) (hsb : s < B64) :
    Calls Try.prog 53 #[.slice B m c] w (RetDe w x s) := by
  have hflen : (frameB (psE x s)).length = m := hr.len
  have hfl : ∀ y ∈ psE x s, (y : List UInt8).length ≤ 16777216 := fun y hy => by
    have := frame_memM hy
    omega
  have hpf : parts (frameB (psE x s)) = (psE x s, 0) := parts_frame _ (fun z hz => by have := hfl z hz; unfold B64; omega)
  obtain ⟨W, hW⟩ : ∃ W, W = w.alloc (.cells #[.bool false, .slice none 0 0, .slice none 0 0, .int .u64 0] 116) := ⟨_, rfl⟩
  obtain ⟨p2, hp2⟩ : ∃ p, p = w.heap.size := ⟨_, rfl⟩
  have bW : Below w.heap.size w W := by rw [hW]; exact (Below.refl _ _).alloc (Nat.le_refl _) _
  have zW : Cl W p2 #[.bool false, .slice none 0 0, .slice none 0 0, .int .u64 0] 116 := by rw [hW, hp2]; exact Cl.new _ _ _
  have HPA := Lib.hid (Parts_any B m c _ W (hr.below bW) hm hmc hB)
  rw [hpf] at HPA
  have HFL := Lib.hid hfl
  have HBW := Lib.hid bW
  have HZW := Lib.hid zW
  have HW := Lib.hid hW
  have HP2 := Lib.hid hp2
  have HXX : Hid (x.cnt = 0 ∧ x.sz = 0 ∧ x.lv = 0 ∧ U64 x.num) := Lib.hid ⟨hc0, hs0, hl0, hx⟩
  have HSB := Lib.hid hsb
  clear hr hm hmc hB hc0 hs0 hl0 hx hsb hflen hfl hpf bW zW hW hp2
  go_enter Try.func53, Try.ntmps53
  go_upto_region 1 with (fail)
  rw [← HW.out, ← HP2.out]
  go_wp2_with fail
  with_reducible refine HPA.out.mono ?_
  intro e w1 hq
  obtain ⟨L0, ln, lc, h1, hOL, b1⟩ := hq.outM
  obtain rfl : ln = 3 := by have := hOL.len; simp only [psE, List.length_cons, List.length_nil] at this; omega
  have h1 : e = .returned (.tuple #[.slice L0 3 lc, .int .i64 0]) := h1
  subst h1
  have hlc : 3 ≤ lc := hOL.cap.1
  obtain ⟨b0, off0, hL0, hb0, hcell⟩ := hOL.rd.2 (by omega)
  subst hL0
  obtain ⟨t0, hc0, A0, n0, d0, e0, r0, k0, l0⟩ := hcell 0 (hdE s) rfl
  obtain ⟨t1, hc1, A1, n1, d1, e1, r1, k1, l1⟩ := hcell 1 [] rfl
  obtain ⟨t2, hc2, A2, n2, d2, e2, r2, k2, l2⟩ := hcell 2 (encF (nsF x) x) rfl
  subst e0 e1 e2
  obtain rfl : n1 = 0 := by have := r1.len; simpa using this.symm
  have hn0 : n0 = 1 + (putU s).length := by rw [← r0.len]; simp [hdE]; omega
  have hps := putU_len64 s HSB.out
  have hpp := putU_pos s
  obtain ⟨a0b, a0o, hA0, ha0l, ha0c⟩ := r0.2 (by omega)
  subst hA0
  have hbyte : w1.cell? ⟨a0b, a0o, none⟩ = some (.int .u8 0) := by
    have h2 := ha0c 0 (bt 0) rfl
    have h3 : ((bt 0).toNat : Int) = 0 := rfl
    rw [h3, Nat.add_zero] at h2
    exact h2
  have hn2l : n2 ≤ 16777216 := by rw [← r2.len]; exact HFL.out _ (by simp [psE])
  have HB1 : Hid (Below w.heap.size w w1) := Lib.hid (belowT' HBW.out b1)
  have HZ1 := Lib.hid (HZW.out.below b1)
  rw [Nat.add_zero] at hc0
  have HPC : Hid (∀ u, Below w1.heap.size w1 u → u.cell? ⟨b0, off0, none⟩ = some (.slice (some ⟨a0b, a0o, none⟩) n0 d0) ∧ u.cell? ⟨b0, off0 + 1, none⟩ = some (.slice A1 0 d1) ∧ u.cell? ⟨b0, off0 + 2, none⟩ = some (.slice A2 n2 d2) ∧ u.cell? ⟨a0b, a0o, none⟩ = some (.int .u8 0)) := Lib.hid (fun u hb => ⟨(hb.cell hb0).trans hc0, (hb.cell hb0).trans hc1, (hb.cell hb0).trans hc2, (hb.cell ha0l).trans hbyte⟩)
  have HR0 : Hid (∀ u, Below w1.heap.size w1 u → Rd u (some ⟨a0b, a0o, none⟩) n0 (hdE s)) := Lib.hid (fun u hb => r0.below hb)
  have HR2 : Hid (∀ u, Below w1.heap.size w1 u → Rd u A2 n2 (encF (nsF x) x)) := Lib.hid (fun u hb => r2.below hb)
  have hg : getU (hdE s) ((1 : Nat) : Int) = (s, (n0 : Int), 0) := by
    have := getU_at [bt 0] [] s HSB.out
    rw [List.append_nil] at this
    rw [hn0]
    exact this
  have HG := Lib.hid hg
  have HK0 := Lib.hid k0
  have HK2 := Lib.hid k2
  have hne : ¬ n0 = 0 := by omega
  have hne2 : ((n0 : Int) == 0) = false := by rw [beq_eq_false_iff_ne]; omega
  obtain ⟨y0, y1, y2, y3⟩ := HPC.out w1 (Below.refl _ _)
  have hn0l : n0 ≤ 11 := by omega
  obtain ⟨u1, hu1⟩ : ∃ u, u = w1.alloc (.cells #[.bool false, .slice none 0 0, .slice none 0 0, .int .u64 0] 116) := ⟨_, rfl⟩
  obtain ⟨p6, hp6⟩ : ∃ p, p = w1.heap.size := ⟨_, rfl⟩
  have b2 : Below w1.heap.size w1 u1 := by rw [hu1]; exact (Below.refl _ _).alloc (Nat.le_refl _) _
  have z6 : Cl u1 p6 #[.bool false, .slice none 0 0, .slice none 0 0, .int .u64 0] 116 := by rw [hu1, hp6]; exact Cl.new _ _ _
  obtain ⟨u2, hu2⟩ : ∃ u, u = u1.alloc (.cells #[.slice (some ⟨a0b, a0o, none⟩) n0 d0, .int .i64 1, .int .i64 0] 185) := ⟨_, rfl⟩
  obtain ⟨p7, hp7⟩ : ∃ p, p = u1.heap.size := ⟨_, rfl⟩
  have b3 : Below u1.heap.size u1 u2 := by rw [hu2]; exact (Below.refl _ _).alloc (Nat.le_refl _) _
  have z7 : RdMf u2 p7 (some ⟨a0b, a0o, none⟩) n0 d0 1 := by rw [hu2, hp7]; exact Cl.new _ _ _
  have HP6 : Hid (p6 = w1.heap.size) := Lib.hid hp6
  have HP7B : Hid (p7 = u1.heap.size) := Lib.hid hp7
  have HP7 : Hid (p7 = p6 + 1) := Lib.hid (by rw [hp7, hu1, hp6]; simp)
  have HU1 := Lib.hid hu1
  have HU2 := Lib.hid hu2
  have HZ6 := Lib.hid (z6.below b3)
  have HZ7 := Lib.hid z7
  have HB2 : Hid (Below w1.heap.size w1 u2) := Lib.hid (belowT' b2 b3)
  have HNU := Lib.hid (numberM_any z7 (HR0.out u2 HB2.out) (by omega) HK0.out HG.out)
  obtain ⟨x0, x1, x2, x3⟩ := HPC.out u1 b2
  have hdl : lc - 2 = lc - 2 := rfl
  clear hq hOL b1 hb0 hcell hc0 hc1 hc2 r0 k0 l0 r1 k1 l1 r2 k2 l2 hn0 hps hpp ha0l ha0c hbyte hg hu1 hp6 b2 z6 hu2 hp7 b3 z7 hdl
  go_upto_region 7 with (fail)
  rw [← HU1.out, ← HP6.out]
  go_upto_region 8 with (fail)
  rw [← HU2.out, ← HP7B.out]
  clear y0 y1 y2 y3 x0 x1 x2 x3 hne hne2
  go_wp2_with fail
  with_reducible refine HNU.out.mono ?_
  intro e v3 hq
  obtain ⟨h1, hrd, hgr⟩ := hq.out
  subst h1
  have zf := HZ6.out.grownM hgr (by have := HP7.out; omega)
  have hbv := below_grown HB2.out hgr HB2.out.size (by have := HP7.out; have := HP6.out; omega)
  have c0 : v3.cell? ⟨p6, 3, none⟩ = some (.int .u64 0) := zf.cell 3
  have f0 := zf.thaw 3
  obtain ⟨u3, hu3⟩ : ∃ u, u = v3.setCell ⟨p6, 3, none⟩ (.int .u64 (s : Int)) := ⟨_, rfl⟩
  have HZ63 : Hid (Cl u3 p6 #[.bool false, .slice none 0 0, .slice none 0 0, .int .u64 (s : Int)] 116) := Lib.hid (by rw [hu3]; exact zf.set 3 _)
  have HR73 : Hid (RdMf u3 p7 (some ⟨a0b, a0o, none⟩) n0 d0 n0) := Lib.hid (by rw [hu3]; exact Cl.off hrd 3 _ (by have := HP7.out; omega))
  have HB3 : Hid (Below w1.heap.size w1 u3) := Lib.hid (by rw [hu3]; exact below_set hbv 3 _ (by have := HP6.out; omega))
  have HU3 := Lib.hid hu3
  have HEN := Lib.hid (endM_any HR73.out)
  clear hq hrd hgr zf hbv hu3
  go_upto_region 9 with (fail)
  rw [← HU3.out]
  clear c0 f0
  go_wp2_with fail
  with_reducible refine HEN.out.mono ?_
  intro e v4 hq
  obtain ⟨h1, b4⟩ := hq.outA
  subst h1
  have HB4 := Lib.hid (belowT' HB3.out b4)
  have HZ64 := Lib.hid (HZ63.out.below b4)
  obtain ⟨y0, y1, y2, y3⟩ := HPC.out v4 HB4.out
  clear hq b4
  go_wp2_with fail
  with_reducible refine (decodeDrop0_any (A := A1) (c := d1)).mono ?_
  rintro e v5 ⟨rfl, b5⟩
  have HB5 := Lib.hid (belowT' HB4.out b5)
  have z5 := HZ64.out.below b5
  have c0 : v5.cell? ⟨p6, 2, none⟩ = some (.slice none 0 0) := z5.cell 2
  have f0 := z5.thaw 2
  obtain ⟨u5, hu5⟩ : ∃ u, u = v5.setCell ⟨p6, 2, none⟩ (.slice none 0 0) := ⟨_, rfl⟩
  have HZ65 : Hid (Cl u5 p6 #[.bool false, .slice none 0 0, .slice none 0 0, .int .u64 (s : Int)] 116) := Lib.hid (by rw [hu5]; exact z5.set 2 _)
  have HBU5 : Hid (Below w1.heap.size w1 u5) := Lib.hid (by rw [hu5]; exact below_set HB5.out 2 _ (by have := HP6.out; omega))
  have HU5 := Lib.hid hu5
  clear y0 y1 y2 y3 b5 z5 hu5
  go_upto_region 12 with (fail)
  rw [← HU5.out]
  clear c0 f0
  have hl2 : ¬ lc < 2 := by omega
  have hl3 : ¬ lc < 3 := by omega
  go_wp2_with fail
  go_loopw [5, 66] (fun s5 s66 wr => (s66 = .int .i64 0 ∧ s5 = .int .i64 0 ∧ wr = u5) ∨ (s66 = .int .i64 1 ∧ s5 = .int .i64 0 ∧ ∃ L c ps, Cl wr p6 #[.bool false, .slice L 1 c, .slice none 0 0, .int .u64 (s : Int)] 116 ∧ RowMf w1 w1.heap.size L 1 c [x] ps wr)) (fun _ s _ => 1 - (intOf s).toNat)
  case atStart => exact .inl ⟨rfl, rfl, rfl⟩
  case round =>
    rcases hrel with ⟨rfl, rfl, hwr⟩ | ⟨rfl, rfl, L, cL, ps, hz, hrow⟩
    · rw [hwr]
      clear hwr wr
      obtain ⟨y0, y1, y2, y3⟩ := HPC.out u5 HBU5.out
      obtain ⟨u6, hu6⟩ : ∃ u, u = u5.alloc (.cells #[.slice none 0 0, .slice none 0 0, .int .i64 0, .int .i64 0, .int .u64 0, .int .i64 0] 113) := ⟨_, rfl⟩
      obtain ⟨p10, hp10⟩ : ∃ p, p = u5.heap.size := ⟨_, rfl⟩
      have b6 : Below u5.heap.size u5 u6 := by rw [hu6]; exact (Below.refl _ _).alloc (Nat.le_refl _) _
      have z10 : Cl u6 p10 #[.slice none 0 0, .slice none 0 0, .int .i64 0, .int .i64 0, .int .u64 0, .int .i64 0] 113 := by rw [hu6, hp10]; exact Cl.new _ _ _
      have HDF := Lib.hid (decodeFile_any (ec := d2) (HR2.out u6 (belowT' HBU5.out b6)) hn2l HK2.out (by have := HXX.out.2.2.2; unfold U64 at this; unfold B64; omega))
      have HU6 := Lib.hid hu6
      have HP10 := Lib.hid hp10
      have HB6 := Lib.hid (belowT' HBU5.out b6)
      have HZ66 := Lib.hid (HZ65.out.below b6)
      have HZ10 := Lib.hid z10
      have h610 : p6 ≠ p10 := by have := HZ65.out.lt; omega
      clear hu6 hp10 b6 z10
      go_upto_region 17 with (fail)
      rw [← HU6.out, ← HP10.out]
      clear y0 y1 y2 y3
      go_wp2_with fail
      with_reducible refine HDF.out.mono ?_
      intro e v6 hq
      obtain ⟨C, cn, cc, D, dn, dc, h1, oC, oD, dj, b7⟩ := hq.out
      subst h1
      have z10v := HZ10.out.below b7
      have z6v := HZ66.out.below b7
      have hb7 := belowT' HB6.out b7
      obtain ⟨d0', d1', d2', d3', d4', d5', d6', d7', d8', d9', d10', d11'⟩ := z10v.st6
      obtain ⟨u7, hu7⟩ : ∃ u, u = ((((((v6.setCell ⟨p10, 0, none⟩ (.slice C cn cc)).setCell ⟨p10, 1, none⟩ (.slice D dn dc)).setCell ⟨p10, 2, none⟩ (.int .i64 0)).setCell ⟨p10, 3, none⟩ (.int .i64 0)).setCell ⟨p10, 4, none⟩ (.int .u64 (x.num : Int))).setCell ⟨p10, 5, none⟩ (.int .i64 0)) := ⟨_, rfl⟩
      have z10u : Cl u7 p10 #[.slice C cn cc, .slice D dn dc, .int .i64 0, .int .i64 0, .int .u64 (x.num : Int), .int .i64 0] 113 := by rw [hu7]; exact (z10v.ch (.slice C cn cc) (.slice D dn dc) (.int .i64 0) (.int .i64 0) (.int .u64 (x.num : Int)) (.int .i64 0)).2.2.2.2.2
      have z6u : Cl u7 p6 #[.bool false, .slice none 0 0, .slice none 0 0, .int .u64 (s : Int)] 116 := by rw [hu7]; exact (((((z6v.off 0 _ h610.symm).off 1 _ h610.symm).off 2 _ h610.symm).off 3 _ h610.symm).off 4 _ h610.symm).off 5 _ h610.symm
      have l10 : p10 < u6.heap.size := HZ10.out.lt
      have l6 : p6 < u6.heap.size := HZ66.out.lt
      have g10 : w1.heap.size ≤ p10 := by have := HBU5.out.size; have := HP10.out; omega
      have bu7 : Below w1.heap.size w1 u7 := by rw [hu7]; exact below_set (below_set (below_set (below_set (below_set (below_set hb7 0 _ g10) 1 _ g10) 2 _ g10) 3 _ g10) 4 _ g10) 5 _ g10
      have HOC : Hid (Own 5 u7 u6.heap.size C cn cc x.lo) := Lib.hid (by rw [hu7]; exact (((((oC.setM l10).setM l10).setM l10).setM l10).setM l10).setM l10)
      have HOD : Hid (Own 5 u7 u6.heap.size D dn dc x.hi) := Lib.hid (by rw [hu7]; exact (((((oD.setM l10).setM l10).setM l10).setM l10).setM l10).setM l10)
      have HDJ := Lib.hid dj
      have HU7 := Lib.hid hu7
      have HZU6 := Lib.hid z6u
      have HBU7 := Lib.hid bu7
      have HS7 : Hid (p6 < u7.heap.size ∧ u6.heap.size ≤ u7.heap.size) := Lib.hid ⟨z6u.lt, by rw [hu7]; have := b7.size; simpa using this⟩
      have HNW : Hid (Cl (u7.alloc (.cells #[.slice C cn cc, .slice D dn dc, .int .i64 0, .int .i64 0, .int .u64 (x.num : Int), .int .i64 0] 113)) u7.heap.size #[.slice C cn cc, .slice D dn dc, .int .i64 0, .int .i64 0, .int .u64 (x.num : Int), .int .i64 0] 113) := Lib.hid (Cl.new _ _ _)
      have m0 := z10u.cell 0
      have m1 := z10u.cell 1
      have m2 := z10u.cell 2
      have m3 := z10u.cell 3
      have m4 := z10u.cell 4
      have m5 := z10u.cell 5
      have i1 := z6u.cell 1
      clear hq oC oD dj b7 z10v z6v hb7 hu7 z10u z6u bu7
      go_upto_region 18 with (fail)
      rw [← HU7.out]
      clear d0' d1' d2' d3' d4' d5' d6' d7' d8' d9' d10' d11'
      go_wp2_with (at_builtin; refine wpList_app6 _ rfl (Operand.tmp 78) (Operand.tmp 80) 114 rfl u7.heap.size _ 80 Try.underlying114 info_mf rfl none 0 0 [] (by first | rfl | (simp [Act.eval]; done)) (OwnMf.nil _ _) ⟨u7.heap.size, 0, none⟩ 1 1 [.slice C cn cc, .slice D dn dc, .int .i64 0, .int .i64 0, .int .u64 (x.num : Int), .int .i64 0] (by first | rfl | (simp [Act.eval]; done)) (rdv_of_cl6 HNW.out) (by omega) (by simp [Value.oneCell']) (by unfold maxLen; omega) (by omega) ?_ ?_)
      · simp
      intro L8 c8 w8 hO8 hg8 _
      have hal : Below u7.heap.size u7 (u7.alloc (.cells #[.slice C cn cc, .slice D dn dc, .int .i64 0, .int .i64 0, .int .u64 (x.num : Int), .int .i64 0] 113)) := (Below.refl _ _).alloc (Nat.le_refl _) _
      have b8 : Below u7.heap.size u7 w8 := hal.grown hg8 hal.size (fun k hk => by simp [blk] at hk)
      have z68 := HZU6.out.below b8
      have c0 : w8.cell? ⟨p6, 1, none⟩ = some (.slice none 0 0) := z68.cell 1
      have f0 := z68.thaw 1
      obtain ⟨u8, hu8⟩ : ∃ u, u = w8.setCell ⟨p6, 1, none⟩ (.slice L8 1 c8) := ⟨_, rfl⟩
      have HZ8 : Hid (Cl u8 p6 #[.bool false, .slice L8 1 c8, .slice none 0 0, .int .u64 (s : Int)] 116) := Lib.hid (by rw [hu8]; exact z68.set 1 _)
      have HRW : Hid (RowMf w1 w1.heap.size L8 1 c8 [x] [(.slice C cn cc, x.lo), (.slice D dn dc, x.hi)] u8) := Lib.hid (by
        obtain ⟨k1, k2, k3, k4⟩ := HXX.out
        obtain ⟨s7, s67⟩ := HS7.out
        have s1 := HBU7.out.size
        have s16 := HB6.out.size
        have hfl : flatM [x] [(.slice C cn cc, x.lo), (.slice D dn dc, x.hi)] = [.slice C cn cc, .slice D dn dc, .int .i64 0, .int .i64 0, .int .u64 (x.num : Int), .int .i64 0] := by simp [flatM, k1, k2, k3]
        refine ⟨?_, ?_, rfl, rfl, fun r hr => by rw [List.mem_singleton] at hr; rw [hr]; exact k4, ?_, ?_⟩
        · rw [hfl, hu8]
          exact (OwnMf.fr (by simpa using hO8) (Fr.set w8 p6 1 _) (fun b e hm => by rw [List.mem_singleton] at hm; have := (hO8.lt b e).1; omega)).mono s1
        · rw [hu8]
          exact fam_two (Own.mono ((HOC.out.below b8).setM l6) s16) (Own.mono ((HOD.out.below b8).setM l6) s16) HDJ.out
        · rw [hu8]
          exact below_set (HBU7.out.trans (b8.mono s1)) 1 _ (by have := HP6.out; omega)
        · rw [hu8]
          have := b8.size
          simp
          omega)
      have HU8 := Lib.hid hu8
      clear hO8 hg8 hal b8 z68 hu8 m0 m1 m2 m3 m4 m5 i1
      go_upto_region 19 with (fail)
      rw [← HU8.out]
      clear c0 f0
      go_wp2_with fail
      go_roundw
      case rel => exact .inr ⟨rfl, rfl, L8, c8, _, HZ8.out, HRW.out⟩
      case measure => simp [intOf]
    · have hbr : Below w1.heap.size w1 wr := hrow.bel
      have z2r := HZ1.out.below hbr
      have hbw := HB1.out
      obtain ⟨d0', d1', d2', d3', d4', d5', d6', d7'⟩ := z2r.st4
      obtain ⟨r0, r1, r2, r3⟩ := z2r.fin4
      have m0 := hz.cell 0
      have m1 := hz.cell 1
      have m2 := hz.cell 2
      have m3 := hz.cell 3
      have HEND : Hid (∀ v0 v1 v2 v3 : Value, RowMf w w.heap.size L 1 cL [x] ps ((((wr.setCell ⟨p2, 0, none⟩ v0).setCell ⟨p2, 1, none⟩ v1).setCell ⟨p2, 2, none⟩ v2).setCell ⟨p2, 3, none⟩ v3)) := Lib.hid (fun v0 v1 v2 v3 => by
        refine RowMf.fr (bl := [p2]) hrow hbw ?_ (fun b hb => ?_) (fun b hb => ?_)
        · exact (((Fr.set wr p2 0 v0).trans (Fr.set _ p2 1 v1) (fun b hb => .inl hb)).trans (Fr.set _ p2 2 v2) (fun b hb => .inl hb)).trans (Fr.set _ p2 3 v3) (fun b hb => .inl hb)
        · rw [List.mem_singleton] at hb; rw [hb]; exact HZ1.out.lt
        · rw [List.mem_singleton] at hb; rw [hb, HP2.out]; exact Nat.le_refl _)
      clear hz hrow hbr z2r hbw
      go_wp2_with fail
      exact bodyPost_ret (v := .tuple #[.agg #[.bool false, .slice L 1 cL, .slice none 0 0, .int .u64 (s : Int)], .int .i64 0]) (by simp [results, Try.results53, go_sem, r0, r1, r2, r3]; try rfl) rfl ⟨L, cL, ps, rfl, HEND.out _ _ _ _⟩
end Go.Proofs.Ytlnpicfkcahdbaa
namespace Go.Proofs.Ytlnpicfkcahdbaa
open Go Go.RowKit

theorem apply_new {w : World} {A : Option Addr} {c s : Nat} {x : Mf} (hA : RMf w A 1 [x]) (hlv : x.lv = 0) (hxn : x.num < 9223372036854775807) (hs1 : x.lo.length ≤ 1099511627776) (hs2 : x.hi.length ≤ 1099511627776) :
    Calls Try.prog 51 #[.agg #[.slice none 0 0, .int .u64 0, .int .u64 0], .agg #[.bool false, .slice A 1 c, .slice none 0 0, .int .u64 (s : Int)]] w (RetAp w x (x.num + 1) s (decide (cmpB x.lo x.hi ≤ 0))) :=
  apply_gen (F := none) (n1 := 0) (fc := 0) (n2 := 1) (a := 0) (s0 := 0) (ls := []) (fs := [x]) (RMf.nil w none) hA rfl (fun h => by omega) (fun wx _ => right0_any (a := 0) (s := 0)) (by simp [nextM]) (Nat.lt_succ_self _) hlv (by omega) (Nat.zero_le _) hs1 hs2
theorem apply_keep {w : World} {A : Option Addr} {c a s0 s : Nat} {x : Mf} (hA : RMf w A 1 [x]) (hlv : x.lv = 0) (hxa : x.num < a) (hxn : x.num < 9223372036854775807) (hss : s0 ≤ s) (hcm : cmpB x.lo x.hi ≤ 0) (hs1 : x.lo.length ≤ 1099511627776) (hs2 : x.hi.length ≤ 1099511627776) :
    Calls Try.prog 51 #[.agg #[.slice A 1 c, .int .u64 (a : Int), .int .u64 (s0 : Int)], .agg #[.bool false, .slice none 0 0, .slice none 0 0, .int .u64 (s : Int)]] w (RetAp w x a s true) := by
  have h := apply_gen (F := A) (n1 := 1) (fc := c) (n2 := 0) (c := 0) (a := a) (s0 := s0) (s := s) (ls := [x]) (fs := []) hA (RMf.nil w none) rfl (fun _ => rfl) (fun wx hb => by
    have := right1_any (c := c) (s := s0) (hA.below hb) hxa hlv (by unfold maxLen; omega) (by unfold maxLen; omega)
    rw [decide_eq_true hcm] at this
    exact this) rfl hxa hlv (by omega) hss hs1 hs2
  rw [decide_eq_true hcm] at h
  exact h
def mf3 : Mf := ⟨[], [], 0, 0, 3, 0⟩
set_option maxRecDepth 100000 in
set_option maxHeartbeats 8000000 in
theorem awake12_any (w : World) : Calls Try.prog 50 #[] w (RetT w true) := by
  obtain ⟨W, hW⟩ : ∃ W, W = w.alloc (.cells #[.slice none 0 0, .slice none 0 0, .int .i64 0, .int .i64 0, .int .u64 3, .int .i64 0] 113) := ⟨_, rfl⟩
  obtain ⟨p, hp⟩ : ∃ p, p = w.heap.size := ⟨_, rfl⟩
  have bW : Below w.heap.size w W := by rw [hW]; exact (Below.refl _ _).alloc (Nat.le_refl _) _
  have zW : Cl W p #[.slice none 0 0, .slice none 0 0, .int .i64 0, .int .i64 0, .int .u64 3, .int .i64 0] 113 := by rw [hW, hp]; exact Cl.new _ _ _
  have hR : RMf W (some ⟨p, 0, none⟩) 1 [mf3] := RMf.mk (MfVs.one (r := mf3) ⟨rfl, rfl, rfl, rfl, by unfold U64 mf3; simp, ⟨none, 0, 0, rfl, Rd.nil _ _, Nat.le_refl _, fun _ => rfl⟩, ⟨none, 0, 0, rfl, Rd.nil _ _, Nat.le_refl _, fun _ => rfl⟩⟩) (rdv_of_cl6 zW) rfl
  have HAP : Hid (Calls Try.prog 51 #[.agg #[.slice none 0 0, .int .u64 0, .int .u64 0], .agg #[.bool false, .slice (some ⟨p, 0, none⟩) 1 1, .slice none 0 0, .int .u64 5]] W (RetAp W mf3 4 5 true)) := Lib.hid (by
    have h := apply_new (c := 1) (s := 5) hR rfl (by unfold mf3; simp) (by simp [mf3]) (by simp [mf3])
    exact h)
  have HB := Lib.hid bW
  have HW := Lib.hid hW
  have HP := Lib.hid hp
  clear hR bW zW hW hp
  go_enter Try.func50, Try.ntmps50
  go_wp2_with (fail)
  rw [← HW.out, ← HP.out]
  with_reducible refine HAP.out.mono ?_
  intro e w2 hq
  obtain ⟨L, c, ps, h1, hrow⟩ := hq.yes
  have h1 : e = .returned (.tuple #[.agg #[.slice L 1 c, .int .u64 4, .int .u64 5], .int .i64 0]) := h1
  subst h1
  have HB2 := Lib.hid (belowT' HB.out hrow.bel)
  have bX : Below w2.heap.size w2 (w2.alloc (.cells #[.slice L 1 c, .int .u64 4, .int .u64 5] 118)) := (Below.refl _ _).alloc (Nat.le_refl _) _
  have HRI : Hid (Calls Try.prog 56 #[.agg #[.slice L 1 c, .int .u64 4, .int .u64 5]] (w2.alloc (.cells #[.slice L 1 c, .int .u64 4, .int .u64 5] 118)) (RetT (w2.alloc (.cells #[.slice L 1 c, .int .u64 4, .int .u64 5] 118)) true)) := Lib.hid (by
    have h := right1_any (c := c) (a := 4) (s := 5) (hrow.rd.below bX) (by unfold mf3; simp) rfl (by simp [mf3]) (by simp [mf3])
    exact h)
  have HBX := Lib.hid (belowT' HB2.out bX)
  clear hq hrow bX
  go_wp2_with fail
  with_reducible refine HRI.out.mono ?_
  intro e w3 hq
  obtain ⟨h1, b3⟩ := RetT.outD hq
  subst h1
  have HF := Lib.hid (belowT' HBX.out b3)
  clear hq b3
  go_wp2_with fail
  go_ret
  exact ⟨rfl, HF.out⟩
end Go.Proofs.Ytlnpicfkcahdbaa
namespace Go.Proofs.Ytlnpicfkcahdbaa
open Go Go.RowKit

theorem RowMf.two {W wr : World} {base d : Nat} {L : Option Addr} {r : Mf} {ps : List VB} (h : RowMf W base L 1 d [r] ps wr) : ∃ g C cn cc D dn dc, L = some ⟨g, 0, none⟩ ∧ ps = [(.slice C cn cc, r.lo), (.slice D dn dc, r.hi)] ∧ ∀ u, Below wr.heap.size wr u → u.cell? ⟨g, 0, none⟩ = some (.slice C cn cc) ∧ u.cell? ⟨g, 1, none⟩ = some (.slice D dn dc) := by
  have hd := h.dat
  match ps, hd, h with
  | [], hd, _ => simp [datM] at hd
  | [p], hd, _ => simp [datM] at hd
  | p :: q :: t :: l, hd, _ => simp [datM] at hd
  | [p, q], hd, h =>
    simp only [List.map_cons, List.map_nil, datM, List.cons.injEq, and_true] at hd
    obtain ⟨C, cn, cc, e1, _⟩ := h.fam.1 p (by simp)
    obtain ⟨D, dn, dc, e2, _⟩ := h.fam.1 q (by simp)
    obtain ⟨b, off, hL, hb⟩ := h.rd.pos (by omega)
    have hL0 := h.own.at0 b (by rw [hL]; rfl)
    obtain ⟨p1, p2⟩ := p
    obtain ⟨q1, q2⟩ := q
    simp only at hd e1 e2
    obtain ⟨rfl, rfl⟩ := hd
    subst e1 e2
    refine ⟨b, C, cn, cc, D, dn, dc, hL0, rfl, fun u hu => ?_⟩
    have hr := h.own.rd
    rw [hL0] at hr
    obtain ⟨b', off', e, hlt, hc⟩ := hr.2 (by omega)
    injection e with e
    injection e with e3 e4
    subst e3 e4
    have h0 := hc 0 _ rfl
    have h1 := hc 1 _ rfl
    rw [Nat.zero_add] at h0 h1
    exact ⟨(hu.cell hlt).trans h0, (hu.cell hlt).trans h1⟩
theorem wp_appVM {P : Program} (w : World) {o : Oper} {a : Act} {K : Act → World → Prop} {Q : Exit → Act → World → Prop} (s x : Operand) (tt : TypeId)
    (ho : o.op = .call { callee := .builtin .append, args := #[s, x], argTypes := #[tt, tt] })
    (base : Nat) (t : TypeId) (z : Value) (by_ : Nat) (ht : P.underlying tt = some (.slice t)) (hi : (P.info? t).map (fun i => (i.zero, i.size, i.bytes)) = some (some z, 1, by_)) (hz1 : z.cells.size = 1)
    (A : Option Addr) (n c : Nat) (vs : List Value) (hs : a.eval s = .slice A n c) (hown : OwnV t w base A n c vs)
    (ad : Addr) (m d : Nat) (ys : List Value) (hx : a.eval x = .slice (some ad) m d) (hr : RdV w (some ad) m ys) (hm : 0 < m) (h1 : ∀ u ∈ ys, u.oneCell' = true)
    (hn : n + m ≤ maxLen) (hby : (n + m) * by_ ≤ 140737488355328) (hbase : base ≤ w.heap.size)
    (h : ∀ A' c' w', OwnV t w' base A' (n + m) c' (vs ++ ys) → w.grownBy w' (blk A) → K (a.put o.dst (.slice A' (n + m) c')) w') :
    Oper.wp P o a w K Q := by
  obtain ⟨i, hi, hz, hsz, hby2⟩ := info_parts hi
  obtain ⟨b, off, e, _, hc⟩ := hr.2 hm
  injection e with e
  subst e
  refine wp_append_own w s x tt ho base t i z 1 by_ ht hi hz hsz hby2 hz1 (by decide) (.slice A n c) n vs hs hown ⟨b, off, none⟩ m d ys hx (by simp [hr.1]) (fun j u hj => by rw [Addr.add_lit]; exact hc j u hj) h1 hn hby hbase ?_
  intro v' w' k1 k2 _
  obtain ⟨A', c', rfl⟩ : ∃ A' c', v' = .slice A' (n + m) c' := by
    rcases k1.2 with ⟨h3, h4⟩ | ⟨g, cap, cur, h3, _⟩
    · exact ⟨none, 0, by rw [h3, h4]⟩
    · exact ⟨_, _, h3⟩
  rw [own_blk] at k2
  exact h A' c' w' k1 k2
theorem Fam.offV {w : World} {b1 b2 n c : Nat} {A : Option Addr} {vs : List Value} {qs : List VB} (hf : Fam w b1 qs) (h : OwnV 22 w b2 A n c vs) : ∀ b, blk A = some b → OffF qs b := fun b hb q hq e => by
  obtain ⟨A', m, d, e1, ho⟩ := hf.1 q hq
  rw [e1, own_blk] at e
  exact ownV_ne h ho (by decide) b hb e
theorem frameB_lenM (x : Mf) (s : Nat) (hx : U64 x.num) (hs : s < B64) (h1 : x.lo.length ≤ 1048576) (h2 : x.hi.length ≤ 1048576) : (frameB (psE x s)).length ≤ 5242880 := by
  have h4 := encF_len x hx
  have h7 := putU_len64 s hs
  have a1 := putU_len64 (hdE s).length (by simp only [hdE, List.length_cons]; unfold B64; omega)
  have a2 := putU_len64 (0 : Nat) (by unfold B64; omega)
  have a3 := putU_len64 (encF (nsF x) x).length (by unfold B64; omega)
  simp only [psE, frameB, List.length_append, List.length_nil] at *
  simp only [hdE, List.length_cons] at *
  omega
set_option maxRecDepth 100000 in
set_option maxHeartbeats 16000000 in
theorem manifestKeeps_row (cs : Array Value) (A : Option Addr) (la ca : Nat) (xs : List UInt8) (B : Option Addr) (lb cb : Nat) (ys : List UInt8) (w : World)
    (hx : Rd w A la xs) (hla : la ≤ ca) (hca : ca ≤ 1048576) (hy : Rd w B lb ys) (hlb : lb ≤ cb) (hcb : cb ≤ 1048576) :
    Calls Try.prog 10 #[.agg cs, .slice A la ca, .slice B lb cb] w (RetT w true) := by
  obtain ⟨W1, hW1⟩ : ∃ W1, W1 = w.alloc (.cells cs 109) := ⟨_, rfl⟩
  have b1 : Below w.heap.size w W1 := by rw [hW1]; exact (Below.refl _ _).alloc (Nat.le_refl _) _
  have HXL := Lib.hid hx.len
  have HYL := Lib.hid hy.len
  have HX := Lib.hid hx
  have HY := Lib.hid hy
  have HB1 := Lib.hid b1
  have HW1 := Lib.hid hW1
  clear hx hy b1 hW1
  go_enter Try.func10, Try.ntmps10
  go_upto_region 1 with (fail)
  rw [← HW1.out]
  go_wp2_with fail
  with_reducible refine (awake12_any _).mono ?_
  intro e w2 hq
  obtain ⟨h1, b2⟩ := RetT.outD hq
  subst h1
  have HB2 := Lib.hid (belowT' HB1.out b2)
  clear hq b2
  go_wp2_with fail
  with_reducible refine (Spare_any A la ca xs _ (HX.out.below HB2.out) (by omega)).mono ?_
  rintro e w3 ⟨gx, rfl, ox, b3⟩
  have HOX := Lib.hid ox
  have HB23 := Lib.hid b3
  have HB3 := Lib.hid (belowT' HB2.out b3)
  clear ox b3
  go_wp2_with fail
  with_reducible refine (Spare_any B lb cb ys _ (HY.out.below HB3.out) (by omega)).mono ?_
  rintro e w4 ⟨gy, rfl, oy, b4⟩
  have HF4 : Hid (Fam w4 w2.heap.size [(.slice (some ⟨gx, 0, none⟩) (la + 40) (la + 40), xs ++ room la 40), (.slice (some ⟨gy, 0, none⟩) (lb + 40) (lb + 40), ys ++ room lb 40)]) := Lib.hid (Fam.app (Fam.one HOX.out) (Fam.one oy) b4 (Nat.le_refl _) HB23.out.size)
  have HOX4 := Lib.hid (HOX.out.below b4)
  have HOY4 := Lib.hid oy
  have HB24 : Hid (Below w2.heap.size w2 w4) := Lib.hid (belowT' HB23.out b4)
  have HB4 := Lib.hid (belowT' HB2.out HB24.out)
  obtain ⟨xM, hxM⟩ : ∃ m : Mf, m = ⟨xs, ys, 0, 0, 1, 0⟩ := ⟨_, rfl⟩
  obtain ⟨W5, hW5⟩ : ∃ W5, W5 = w4.alloc (.cells #[.slice (some ⟨gx, 0, none⟩) la (la + 40), .slice (some ⟨gy, 0, none⟩) lb (lb + 40), .int .i64 0, .int .i64 0, .int .u64 1, .int .i64 0] 113) := ⟨_, rfl⟩
  obtain ⟨q5, hq5⟩ : ∃ q, q = w4.heap.size := ⟨_, rfl⟩
  have b5 : Below w4.heap.size w4 W5 := by rw [hW5]; exact (Below.refl _ _).alloc (Nat.le_refl _) _
  have z5 : Cl W5 q5 #[.slice (some ⟨gx, 0, none⟩) la (la + 40), .slice (some ⟨gy, 0, none⟩) lb (lb + 40), .int .i64 0, .int .i64 0, .int .u64 1, .int .i64 0] 113 := by rw [hW5, hq5]; exact Cl.new _ _ _
  have rx4 := rdPre2 HOX4.out HXL.out
  have ry4 := rdPre2 HOY4.out HYL.out
  have hR5 : RMf W5 (some ⟨q5, 0, none⟩) 1 [xM] := by
    rw [hxM]
    exact RMf.mk (MfVs.one ⟨rfl, rfl, rfl, rfl, by unfold U64; simp, ⟨_, la, la + 40, rfl, rx4.below b5, by omega, fun h => by cases h⟩, ⟨_, lb, lb + 40, rfl, ry4.below b5, by omega, fun h => by cases h⟩⟩) (rdv_of_cl6 z5) rfl
  obtain ⟨W6, hW6⟩ : ∃ W6, W6 = W5.alloc (.cells #[.bool false, .slice (some ⟨q5, 0, none⟩) 1 1, .slice none 0 0, .int .u64 2] 116) := ⟨_, rfl⟩
  obtain ⟨p11, hp11⟩ : ∃ q, q = W5.heap.size := ⟨_, rfl⟩
  have b6 : Below W5.heap.size W5 W6 := by rw [hW6]; exact (Below.refl _ _).alloc (Nat.le_refl _) _
  have z6 : Cl W6 p11 #[.bool false, .slice (some ⟨q5, 0, none⟩) 1 1, .slice none 0 0, .int .u64 2] 116 := by rw [hW6, hp11]; exact Cl.new _ _ _
  have HXM : Hid (xM.lo = xs ∧ xM.hi = ys ∧ xM.cnt = 0 ∧ xM.sz = 0 ∧ xM.lv = 0 ∧ xM.num = 1 ∧ xM.lo.length ≤ 1048576 ∧ xM.hi.length ≤ 1048576) := Lib.hid (by
    have h1 := HXL.out
    have h2 := HYL.out
    rw [hxM]; exact ⟨rfl, rfl, rfl, rfl, rfl, rfl, by simp only; omega, by simp only; omega⟩)
  have HR6 := Lib.hid (hR5.below b6)
  have HB46 := Lib.hid (belowT' b5 b6)
  have HZ6 := Lib.hid z6
  have HW5 := Lib.hid hW5
  have HW6 := Lib.hid hW6
  have HQ5 := Lib.hid hq5
  have HP11 : Hid (p11 = q5 + 1) := Lib.hid (by rw [hp11, hW5, hq5]; simp)
  have hp2 : xM.num + 1 = 2 := by rw [HXM.out.2.2.2.2.2.1]
  obtain ⟨bb, hbb⟩ : ∃ b, b = decide (cmpB xM.lo xM.hi ≤ 0) := ⟨_, rfl⟩
  have HAP : Hid (Calls Try.prog 51 #[.agg #[.slice none 0 0, .int .u64 0, .int .u64 0], .agg #[.bool false, .slice (some ⟨q5, 0, none⟩) 1 1, .slice none 0 0, .int .u64 2]] W6 (RetAp W6 xM 2 2 bb)) := Lib.hid (by
    have h := apply_new (c := 1) (s := 2) HR6.out HXM.out.2.2.2.2.1 (by rw [HXM.out.2.2.2.2.2.1]; omega) (by have := HXM.out.2.2.2.2.2.2.1; omega) (by have := HXM.out.2.2.2.2.2.2.2; omega)
    rw [hp2, ← hbb] at h
    exact h)
  have HBB := Lib.hid hbb
  have k0 := z6.cell 0
  have k1 := z6.cell 1
  have k2 := z6.cell 2
  have k3 := z6.cell 3
  clear hxM b4 oy b5 z5 rx4 ry4 hR5 b6 z6 hW5 hW6 hq5 hp11 hp2 hbb
  go_upto_region 6 with (fail)
  rw [← HW5.out, ← HQ5.out, ← HW6.out, ← HP11.out]
  go_wp2_with fail
  with_reducible refine HAP.out.mono ?_
  intro e w7 hq
  clear k0 k1 k2 k3
  cases bb with
  | false =>
    obtain ⟨h1, b7⟩ := hq.no
    subst h1
    have HFA : Hid (Fam w7 w2.heap.size ([(.slice (some ⟨gx, 0, none⟩) (la + 40) (la + 40), xs ++ room la 40), (.slice (some ⟨gy, 0, none⟩) (lb + 40) (lb + 40), ys ++ room lb 40)] ++ [])) := Lib.hid (by rw [List.append_nil]; exact HF4.out.below (belowT' HB46.out b7))
    obtain ⟨W8, hW8⟩ : ∃ W8, W8 = w7.alloc (.cells #[.slice none 0 0, .int .u64 0, .int .u64 0] 118) := ⟨_, rfl⟩
    obtain ⟨p12, hp12⟩ : ∃ q, q = w7.heap.size := ⟨_, rfl⟩
    have b8 : Below w7.heap.size w7 W8 := by rw [hW8]; exact (Below.refl _ _).alloc (Nat.le_refl _) _
    have z8 : Cl W8 p12 #[.slice none 0 0, .int .u64 0, .int .u64 0] 118 := by rw [hW8, hp12]; exact Cl.new _ _ _
    have HZ8 := Lib.hid z8
    have HB68 := Lib.hid (belowT' b7 b8)
    have HB78 := Lib.hid b8
    have HW8 := Lib.hid hW8
    have HP12 := Lib.hid hp12
    have HZ68 := HZ6.out.below HB68.out
    have k0 := HZ68.cell 0
    have k1 := HZ68.cell 1
    have k2 := HZ68.cell 2
    have k3 := HZ68.cell 3
    have HEN : Hid (Calls Try.prog 52 #[.agg #[.bool false, .slice (some ⟨q5, 0, none⟩) 1 1, .slice none 0 0, .int .u64 2]] W8 (Made W8.heap.size W8 (frameB (psE xM 2)))) := Lib.hid (encode_any (c := 1) (s := 2) (HR6.out.below HB68.out) HXM.out.2.2.1 HXM.out.2.2.2.1 HXM.out.2.2.2.2.1 HXM.out.2.2.2.2.2.2.1 HXM.out.2.2.2.2.2.2.2 (by unfold B64; omega))
    clear hq b7 b8 z8 hW8 hp12 HZ68
    go_upto_region 7 with (fail)
    rw [← HW8.out, ← HP12.out]
    go_wp2_with fail
    with_reducible refine HEN.out.mono ?_
    intro e w9 hq
    obtain ⟨D, dn, dc, h1, oD, b9⟩ := Made.outM hq
    subst h1
    clear k0 k1 k2 k3 hq
    have hdl : dn ≤ 5242880 := by
      have h1 := oD.len
      have h2 := frameB_lenM xM 2 (by rw [HXM.out.2.2.2.2.2.1]; unfold U64; omega) (by unfold B64; omega) HXM.out.2.2.2.2.2.2.1 HXM.out.2.2.2.2.2.2.2
      omega
    have HDE := Lib.hid (decode_any oD.rd (by omega) oD.cap.1 (fun h => by subst h; exact oD.nil_cap) HXM.out.2.2.1 HXM.out.2.2.2.1 HXM.out.2.2.2.2.1 (by rw [HXM.out.2.2.2.2.2.1]; unfold U64; omega) (by unfold B64; omega))
    have HB79 : Hid (Below w7.heap.size w7 w9) := Lib.hid (belowT' HB78.out b9)
    have HB89 := Lib.hid b9
    have HFB := Lib.hid (Fam.app HFA.out (Fam.one oD) HB79.out HB78.out.size (by have := HB24.out.size; have := HB46.out.size; have := HB68.out.size; have := HB78.out.size; omega))
    clear oD b9
    go_wp2_with fail
    with_reducible refine HDE.out.mono ?_
    intro e w10 hq
    obtain ⟨M, cM, psD, h1, hrowD⟩ := hq.out
    have h1 : e = .returned (.tuple #[.agg #[.bool false, .slice M 1 cM, .slice none 0 0, .int .u64 2], .int .i64 0]) := h1
    subst h1
    obtain ⟨g10, D1, d1n, d1c, D2, d2n, d2c, hM, hpsD, hcD⟩ := hrowD.two
    subst hM
    rw [HXM.out.1, HXM.out.2.1] at hpsD
    have b10 : Below w9.heap.size w9 w10 := hrowD.bel
    have HCD := Lib.hid hcD
    have HPSD := Lib.hid hpsD
    have HFD := Lib.hid (Fam.app HFB.out hrowD.fam b10 (Nat.le_refl _) (by have := HB24.out.size; have := HB46.out.size; have := HB68.out.size; have := HB89.out.size; omega))
    obtain ⟨W11, hW11⟩ : ∃ W, W = w10.alloc (.cells #[.bool false, .slice (some ⟨g10, 0, none⟩) 1 cM, .slice none 0 0, .int .u64 2] 116) := ⟨_, rfl⟩
    obtain ⟨p15, hp15⟩ : ∃ q, q = w10.heap.size := ⟨_, rfl⟩
    have b11 : Below w10.heap.size w10 W11 := by rw [hW11]; exact (Below.refl _ _).alloc (Nat.le_refl _) _
    have z11 : Cl W11 p15 #[.bool false, .slice (some ⟨g10, 0, none⟩) 1 cM, .slice none 0 0, .int .u64 2] 116 := by rw [hW11, hp15]; exact Cl.new _ _ _
    have HW11 := Lib.hid hW11
    have HP15 := Lib.hid hp15
    have HB911 : Hid (Below w9.heap.size w9 W11) := Lib.hid (belowT' b10 b11)
    have HB1011 := Lib.hid b11
    have HZ11 := Lib.hid z11
    have HFW := Lib.hid (HFD.out.below b11)
    have HBW : Hid (Below w.heap.size w W11) := Lib.hid (belowT' HB4.out (belowT' HB46.out (belowT' HB68.out (belowT' HB89.out HB911.out))))
    have HSZ : Hid (w2.heap.size ≤ W11.heap.size) := Lib.hid (by have := HB24.out.size; have := HB46.out.size; have := HB68.out.size; have := HB89.out.size; have := HB911.out.size; omega)
    have HKX : Hid (∀ u, Below W11.heap.size W11 u → Calls Try.prog 18 #[.slice (some ⟨gx, 0, none⟩) (la + 40) (la + 40), .slice A la ca] u (RetB u true)) := Lib.hid (fun u hu => Kept_any _ A la (la + 40) ca xs u ((HOX4.out.rd).below (belowT' HB46.out (belowT' HB68.out (belowT' HB89.out (belowT' HB911.out hu))))) (HX.out.below (belowT' HBW.out hu)) (by omega))
    have HKY : Hid (∀ u, Below W11.heap.size W11 u → Calls Try.prog 18 #[.slice (some ⟨gy, 0, none⟩) (lb + 40) (lb + 40), .slice B lb cb] u (RetB u true)) := Lib.hid (fun u hu => Kept_any _ B lb (lb + 40) cb ys u ((HOY4.out.rd).below (belowT' HB46.out (belowT' HB68.out (belowT' HB89.out (belowT' HB911.out hu))))) (HY.out.below (belowT' HBW.out hu)) (by omega))
    clear hq hrowD hcD hpsD b10 hW11 hp15 b11 z11
    go_upto_region 9 with (fail)
    rw [← HW11.out, ← HP15.out]
    go_wp2_with fail
    with_reducible refine (HKX.out _ (Below.refl _ _)).mono ?_
    intro e w12 hq
    obtain ⟨h1, n12, h2⟩ := hq
    have b12 : Below W11.heap.size W11 w12 := by rw [h2]; exact below_drewN (Below.refl _ _) n12
    subst h1
    clear h2
    have HB12 := Lib.hid b12
    clear b12
    go_wp2_with fail
    with_reducible refine (HKY.out _ HB12.out).mono ?_
    intro e w13 hq
    obtain ⟨h1, n13, h2⟩ := hq
    have b13 : Below W11.heap.size W11 w13 := by rw [h2]; exact below_drewN HB12.out n13
    subst h1
    clear h2
    have z13 := HZ11.out.below b13
    have i1 := z13.cell 1
    have HB13 := Lib.hid b13
    obtain ⟨y0, y1⟩ := HCD.out w13 (belowT' HB1011.out b13)
    clear b13 z13
    go_upto_region 11 with (fail)
    go_cut [17] from 67 to 82 (fun s17 wx => ∃ r, s17 = .slice (some ⟨r, 0, none⟩) 5 5 ∧ OwnV 22 wx W11.heap.size (some ⟨r, 0, none⟩) 5 5 [.slice (some ⟨gx, 0, none⟩) (la + 40) (la + 40), .slice (some ⟨gy, 0, none⟩) (lb + 40) (lb + 40), .slice D dn dc, .slice D1 d1n d1c, .slice D2 d2n d2c] ∧ Below W11.heap.size W11 wx)
    case first =>
      go_region_law (fail)
      all_goals
        clear i1 y0 y1
        go_wp2_with fail
        go_meet
        first
          | exact ⟨_, rfl, ownV_box2 _ _ _ [.slice (some ⟨gx, 0, none⟩) (la + 40) (la + 40), .slice (some ⟨gy, 0, none⟩) (lb + 40) (lb + 40), .slice D dn dc, .slice D1 d1n d1c, .slice D2 d2n d2c] 5 rfl (by omega) HB13.out.size _ rfl, HB13.out.alloc HB13.out.size _⟩
          | exact ⟨_, rfl, ownV_box2 _ _ _ [.slice (some ⟨gx, 0, none⟩) (la + 40) (la + 40), .slice (some ⟨gy, 0, none⟩) (lb + 40) (lb + 40), .slice D dn dc, .slice D1 d1n d1c, .slice D2 d2n d2c] 5 rfl (by omega) HB13.out.drew.size _ rfl, HB13.out.drew.alloc HB13.out.drew.size _⟩
    case rest =>
      obtain ⟨r, rfl, hOV, bC⟩ := hcut
      obtain ⟨w14, hw14⟩ : ∃ w, w = wc := ⟨_, rfl⟩
      rw [← hw14] at hOV bC ⊢
      clear hw14 i1 y0 y1
      have HOV := Lib.hid hOV
      have HBC := Lib.hid bC
      have HF14 := Lib.hid (HFW.out.below bC)
      have HFL : Hid (Fam w14 w2.heap.size [(.slice (some ⟨gx, 0, none⟩) (la + 40) (la + 40), xs ++ room la 40), (.slice (some ⟨gy, 0, none⟩) (lb + 40) (lb + 40), ys ++ room lb 40), (.slice D dn dc, frameB (psE xM 2)), (.slice D1 d1n d1c, xs), (.slice D2 d2n d2c, ys)]) := Lib.hid (by have h := HF14.out; rw [HPSD.out] at h; exact h)
      have HAPP : Hid (Calls Try.prog 22 #[.slice (some ⟨r, 0, none⟩) 5 5] w14 fun e w' => e = .returned (.bool true) ∧ Below w2.heap.size w14 w') := Lib.hid (Apart_any (some ⟨r, 0, none⟩) 5 5 w2.heap.size ([(.slice (some ⟨gx, 0, none⟩) (la + 40) (la + 40), xs ++ room la 40), (.slice (some ⟨gy, 0, none⟩) (lb + 40) (lb + 40), ys ++ room lb 40), (.slice D dn dc, frameB (psE xM 2)), (.slice D1 d1n d1c, xs), (.slice D2 d2n d2c, ys)].map (·.1)) w14 (OwnV.rd HOV.out) (by omega) HFL.out.pre (HFL.out.small (M := 1073741824) (fun p hp => by
        have h1 := HXL.out
        have h2 := HYL.out
        have h3 := frameB_lenM xM 2 (by rw [HXM.out.2.2.2.2.2.1]; unfold U64; omega) (by unfold B64; omega) HXM.out.2.2.2.2.2.2.1 HXM.out.2.2.2.2.2.2.2
        have h4 : (room la 40).length ≤ 1000 := by unfold room; simp
        have h5 : (room lb 40).length ≤ 1000 := by unfold room; simp
        simp only [List.mem_cons, List.not_mem_nil, or_false] at hp
        rcases hp with rfl | rfl | rfl | rfl | rfl <;> (simp only [List.length_append]; omega))) HFL.out.dis (fun b hb i v hv => (HFL.out.offV HOV.out b hb).map i v hv) (by have := HSZ.out; have := HBC.out.size; omega))
      have HEND : Hid (∀ wx, Below w2.heap.size w14 wx → RetT w true (.returned (.bool true)) wx) := Lib.hid (fun wx hb => ⟨rfl, (belowT' HBW.out HBC.out).trans (hb.mono (by have := HB2.out.size; omega))⟩)
      go_wp2_with fail
      with_reducible refine HAPP.out.mono ?_
      intro e w19 hq
      obtain ⟨h1, b19⟩ := hq
      subst h1
      have HE2 := Lib.hid (HEND.out _ b19)
      clear b19
      go_wp2_with fail
      go_ret
      exact HE2.out
  | true =>
    obtain ⟨LA, cA, psA, h1, hrowA⟩ := hq.yes
    have h1 : e = .returned (.tuple #[.agg #[.slice LA 1 cA, .int .u64 2, .int .u64 2], .int .i64 0]) := h1
    subst h1
    obtain ⟨g7, A1, a1n, a1c, A2, a2n, a2c, hLA, hpsA, hcA⟩ := hrowA.two
    subst hLA
    rw [HXM.out.1, HXM.out.2.1] at hpsA
    have b7 : Below W6.heap.size W6 w7 := hrowA.bel
    have HROWA := Lib.hid hrowA
    have HCA := Lib.hid hcA
    have HPSA := Lib.hid hpsA
    have HFA : Hid (Fam w7 w2.heap.size ([(.slice (some ⟨gx, 0, none⟩) (la + 40) (la + 40), xs ++ room la 40), (.slice (some ⟨gy, 0, none⟩) (lb + 40) (lb + 40), ys ++ room lb 40)] ++ psA)) := Lib.hid (Fam.app HF4.out hrowA.fam (belowT' HB46.out b7) HB46.out.size (by have := HB24.out.size; have := HB46.out.size; omega))
    clear hrowA hcA hpsA
    obtain ⟨W8, hW8⟩ : ∃ W8, W8 = w7.alloc (.cells #[.slice (some ⟨g7, 0, none⟩) 1 cA, .int .u64 2, .int .u64 2] 118) := ⟨_, rfl⟩
    obtain ⟨p12, hp12⟩ : ∃ q, q = w7.heap.size := ⟨_, rfl⟩
    have b8 : Below w7.heap.size w7 W8 := by rw [hW8]; exact (Below.refl _ _).alloc (Nat.le_refl _) _
    have z8 : Cl W8 p12 #[.slice (some ⟨g7, 0, none⟩) 1 cA, .int .u64 2, .int .u64 2] 118 := by rw [hW8, hp12]; exact Cl.new _ _ _
    have HZ8 := Lib.hid z8
    have HB68 := Lib.hid (belowT' b7 b8)
    have HB78 := Lib.hid b8
    have HW8 := Lib.hid hW8
    have HP12 := Lib.hid hp12
    have HZ68 := HZ6.out.below HB68.out
    have k0 := HZ68.cell 0
    have k1 := HZ68.cell 1
    have k2 := HZ68.cell 2
    have k3 := HZ68.cell 3
    have HEN : Hid (Calls Try.prog 52 #[.agg #[.bool false, .slice (some ⟨q5, 0, none⟩) 1 1, .slice none 0 0, .int .u64 2]] W8 (Made W8.heap.size W8 (frameB (psE xM 2)))) := Lib.hid (encode_any (c := 1) (s := 2) (HR6.out.below HB68.out) HXM.out.2.2.1 HXM.out.2.2.2.1 HXM.out.2.2.2.2.1 HXM.out.2.2.2.2.2.2.1 HXM.out.2.2.2.2.2.2.2 (by unfold B64; omega))
    clear hq b7 b8 z8 hW8 hp12 HZ68
    go_upto_region 7 with (fail)
    rw [← HW8.out, ← HP12.out]
    go_wp2_with fail
    with_reducible refine HEN.out.mono ?_
    intro e w9 hq
    obtain ⟨D, dn, dc, h1, oD, b9⟩ := Made.outM hq
    subst h1
    clear k0 k1 k2 k3 hq
    have hdl : dn ≤ 5242880 := by
      have h1 := oD.len
      have h2 := frameB_lenM xM 2 (by rw [HXM.out.2.2.2.2.2.1]; unfold U64; omega) (by unfold B64; omega) HXM.out.2.2.2.2.2.2.1 HXM.out.2.2.2.2.2.2.2
      omega
    have HDE := Lib.hid (decode_any oD.rd (by omega) oD.cap.1 (fun h => by subst h; exact oD.nil_cap) HXM.out.2.2.1 HXM.out.2.2.2.1 HXM.out.2.2.2.2.1 (by rw [HXM.out.2.2.2.2.2.1]; unfold U64; omega) (by unfold B64; omega))
    have HB79 : Hid (Below w7.heap.size w7 w9) := Lib.hid (belowT' HB78.out b9)
    have HB89 := Lib.hid b9
    have HFB := Lib.hid (Fam.app HFA.out (Fam.one oD) HB79.out HB78.out.size (by have := HB24.out.size; have := HB46.out.size; have := HB68.out.size; have := HB78.out.size; omega))
    clear oD b9
    go_wp2_with fail
    with_reducible refine HDE.out.mono ?_
    intro e w10 hq
    obtain ⟨M, cM, psD, h1, hrowD⟩ := hq.out
    have h1 : e = .returned (.tuple #[.agg #[.bool false, .slice M 1 cM, .slice none 0 0, .int .u64 2], .int .i64 0]) := h1
    subst h1
    obtain ⟨g10, D1, d1n, d1c, D2, d2n, d2c, hM, hpsD, hcD⟩ := hrowD.two
    subst hM
    rw [HXM.out.1, HXM.out.2.1] at hpsD
    have b10 : Below w9.heap.size w9 w10 := hrowD.bel
    have HCD := Lib.hid hcD
    have HPSD := Lib.hid hpsD
    have HFD := Lib.hid (Fam.app HFB.out hrowD.fam b10 (Nat.le_refl _) (by have := HB24.out.size; have := HB46.out.size; have := HB68.out.size; have := HB89.out.size; omega))
    obtain ⟨W11, hW11⟩ : ∃ W, W = w10.alloc (.cells #[.bool false, .slice (some ⟨g10, 0, none⟩) 1 cM, .slice none 0 0, .int .u64 2] 116) := ⟨_, rfl⟩
    obtain ⟨p15, hp15⟩ : ∃ q, q = w10.heap.size := ⟨_, rfl⟩
    have b11 : Below w10.heap.size w10 W11 := by rw [hW11]; exact (Below.refl _ _).alloc (Nat.le_refl _) _
    have z11 : Cl W11 p15 #[.bool false, .slice (some ⟨g10, 0, none⟩) 1 cM, .slice none 0 0, .int .u64 2] 116 := by rw [hW11, hp15]; exact Cl.new _ _ _
    have HW11 := Lib.hid hW11
    have HP15 := Lib.hid hp15
    have HB911 : Hid (Below w9.heap.size w9 W11) := Lib.hid (belowT' b10 b11)
    have HB1011 := Lib.hid b11
    have HZ11 := Lib.hid z11
    have HFW := Lib.hid (HFD.out.below b11)
    have HBW : Hid (Below w.heap.size w W11) := Lib.hid (belowT' HB4.out (belowT' HB46.out (belowT' HB68.out (belowT' HB89.out HB911.out))))
    have HSZ : Hid (w2.heap.size ≤ W11.heap.size) := Lib.hid (by have := HB24.out.size; have := HB46.out.size; have := HB68.out.size; have := HB89.out.size; have := HB911.out.size; omega)
    have HKX : Hid (∀ u, Below W11.heap.size W11 u → Calls Try.prog 18 #[.slice (some ⟨gx, 0, none⟩) (la + 40) (la + 40), .slice A la ca] u (RetB u true)) := Lib.hid (fun u hu => Kept_any _ A la (la + 40) ca xs u ((HOX4.out.rd).below (belowT' HB46.out (belowT' HB68.out (belowT' HB89.out (belowT' HB911.out hu))))) (HX.out.below (belowT' HBW.out hu)) (by omega))
    have HKY : Hid (∀ u, Below W11.heap.size W11 u → Calls Try.prog 18 #[.slice (some ⟨gy, 0, none⟩) (lb + 40) (lb + 40), .slice B lb cb] u (RetB u true)) := Lib.hid (fun u hu => Kept_any _ B lb (lb + 40) cb ys u ((HOY4.out.rd).below (belowT' HB46.out (belowT' HB68.out (belowT' HB89.out (belowT' HB911.out hu))))) (HY.out.below (belowT' HBW.out hu)) (by omega))
    clear hq hrowD hcD hpsD b10 hW11 hp15 b11 z11
    go_upto_region 9 with (fail)
    rw [← HW11.out, ← HP15.out]
    go_wp2_with fail
    with_reducible refine (HKX.out _ (Below.refl _ _)).mono ?_
    intro e w12 hq
    obtain ⟨h1, n12, h2⟩ := hq
    have b12 : Below W11.heap.size W11 w12 := by rw [h2]; exact below_drewN (Below.refl _ _) n12
    subst h1
    clear h2
    have HB12 := Lib.hid b12
    clear b12
    go_wp2_with fail
    with_reducible refine (HKY.out _ HB12.out).mono ?_
    intro e w13 hq
    obtain ⟨h1, n13, h2⟩ := hq
    have b13 : Below W11.heap.size W11 w13 := by rw [h2]; exact below_drewN HB12.out n13
    subst h1
    clear h2
    have z13 := HZ11.out.below b13
    have i1 := z13.cell 1
    have HB13 := Lib.hid b13
    obtain ⟨y0, y1⟩ := HCD.out w13 (belowT' HB1011.out b13)
    clear b13 z13
    go_upto_region 11 with (fail)
    go_cut [17] from 67 to 82 (fun s17 wx => ∃ r, s17 = .slice (some ⟨r, 0, none⟩) 5 5 ∧ OwnV 22 wx W11.heap.size (some ⟨r, 0, none⟩) 5 5 [.slice (some ⟨gx, 0, none⟩) (la + 40) (la + 40), .slice (some ⟨gy, 0, none⟩) (lb + 40) (lb + 40), .slice D dn dc, .slice D1 d1n d1c, .slice D2 d2n d2c] ∧ Below W11.heap.size W11 wx)
    case first =>
      go_region_law (fail)
      all_goals
        clear i1 y0 y1
        go_wp2_with fail
        go_meet
        first
          | exact ⟨_, rfl, ownV_box2 _ _ _ [.slice (some ⟨gx, 0, none⟩) (la + 40) (la + 40), .slice (some ⟨gy, 0, none⟩) (lb + 40) (lb + 40), .slice D dn dc, .slice D1 d1n d1c, .slice D2 d2n d2c] 5 rfl (by omega) HB13.out.size _ rfl, HB13.out.alloc HB13.out.size _⟩
          | exact ⟨_, rfl, ownV_box2 _ _ _ [.slice (some ⟨gx, 0, none⟩) (la + 40) (la + 40), .slice (some ⟨gy, 0, none⟩) (lb + 40) (lb + 40), .slice D dn dc, .slice D1 d1n d1c, .slice D2 d2n d2c] 5 rfl (by omega) HB13.out.drew.size _ rfl, HB13.out.drew.alloc HB13.out.drew.size _⟩
    case rest =>
      obtain ⟨r, rfl, hOV, bC⟩ := hcut
      obtain ⟨w14, hw14⟩ : ∃ w, w = wc := ⟨_, rfl⟩
      rw [← hw14] at hOV bC ⊢
      clear hw14 i1 y0 y1
      have HOV := Lib.hid hOV
      have HBC := Lib.hid bC
      have HF14 := Lib.hid (HFW.out.below bC)
      have HBC7 : Hid (Below w7.heap.size w7 w14) := Lib.hid (belowT' HB79.out (belowT' HB911.out bC))
      have HAK := Lib.hid (apply_keep (c := cA) (a := 2) (s0 := 2) (s := 3) (HROWA.out.rd.below HBC7.out) HXM.out.2.2.2.2.1 (by rw [HXM.out.2.2.2.2.2.1]; omega) (by rw [HXM.out.2.2.2.2.2.1]; omega) (by omega) (of_decide_eq_true HBB.out.symm) (by have := HXM.out.2.2.2.2.2.2.1; omega) (by have := HXM.out.2.2.2.2.2.2.2; omega))
      have HAK2 : Hid (Calls Try.prog 51 #[.agg #[.slice (some ⟨g7, 0, none⟩) 1 cA, .int .u64 2, .int .u64 2], .agg #[.bool false, .slice none 0 0, .slice none 0 0, .int .u64 3]] w14 (RetAp w14 xM 2 3 true)) := Lib.hid HAK.out
      have z8c := HZ8.out.below (belowT' HB89.out (belowT' HB911.out bC))
      have k0 := z8c.cell 0
      have k1 := z8c.cell 1
      have k2 := z8c.cell 2
      have HZ8C := Lib.hid z8c
      clear hOV bC z8c HAK
      go_wp2_with fail
      with_reducible refine HAK2.out.mono ?_
      intro e w15 hq
      obtain ⟨LU, cU, psU, h1, hrowU⟩ := hq.yes
      have h1 : e = .returned (.tuple #[.agg #[.slice LU 1 cU, .int .u64 2, .int .u64 3], .int .i64 0]) := h1
      subst h1
      obtain ⟨gU, U1, u1n, u1c, U2, u2n, u2c, hLU, hpsU, hcU⟩ := hrowU.two
      subst hLU
      rw [HXM.out.1, HXM.out.2.1] at hpsU
      have b15 : Below w14.heap.size w14 w15 := hrowU.bel
      have HF15 := Lib.hid (Fam.app HF14.out hrowU.fam b15 (Nat.le_refl _) (by have := HSZ.out; have := HBC.out.size; omega))
      obtain ⟨W16, hW16⟩ : ∃ W, W = w15.alloc (.cells #[.slice (some ⟨gU, 0, none⟩) 1 cU, .int .u64 2, .int .u64 3] 118) := ⟨_, rfl⟩
      obtain ⟨p18, hp18⟩ : ∃ q, q = w15.heap.size := ⟨_, rfl⟩
      have b16 : Below w15.heap.size w15 W16 := by rw [hW16]; exact (Below.refl _ _).alloc (Nat.le_refl _) _
      have z16 : Cl W16 p18 #[.slice (some ⟨gU, 0, none⟩) 1 cU, .int .u64 2, .int .u64 3] 118 := by rw [hW16, hp18]; exact Cl.new _ _ _
      have HW16 := Lib.hid hW16
      have HP18 := Lib.hid hp18
      have b1416 := belowT' b15 b16
      have HB1416 := Lib.hid b1416
      have HB1116 : Hid (Below W11.heap.size W11 W16) := Lib.hid (belowT' HBC.out b1416)
      have HO16 := Lib.hid (OwnV.below HOV.out b1416)
      have HF16 : Hid (Fam W16 w2.heap.size [(.slice (some ⟨gx, 0, none⟩) (la + 40) (la + 40), xs ++ room la 40), (.slice (some ⟨gy, 0, none⟩) (lb + 40) (lb + 40), ys ++ room lb 40), (.slice A1 a1n a1c, xs), (.slice A2 a2n a2c, ys), (.slice D dn dc, frameB (psE xM 2)), (.slice D1 d1n d1c, xs), (.slice D2 d2n d2c, ys), (.slice U1 u1n u1c, xs), (.slice U2 u2n u2c, ys)]) := Lib.hid (by
        have h := HF15.out.below b16
        rw [HPSD.out, HPSA.out, hpsU] at h
        exact h)
      clear k0 k1 k2 hq
      have i0 := (HZ8C.out.below b1416).cell 0
      have j0 := z16.cell 0
      obtain ⟨y0, y1⟩ := HCA.out W16 (belowT' HBC7.out b1416)
      obtain ⟨x0, x1⟩ := hcU W16 b16
      have hr1 := (OwnV.lt HOV.out r rfl)
      have hg7 := (HROWA.out.own.lt g7 rfl).2
      have hgU := hrowU.own.lt gU rfl
      have HNE : Hid ((p12 < W16.heap.size ∧ p12 ≠ r) ∧ (g7 < W16.heap.size ∧ g7 ≠ r) ∧ (p18 < W16.heap.size ∧ p18 ≠ r) ∧ (gU < W16.heap.size ∧ gU ≠ r)) := Lib.hid (by
        have q1 := HZ8.out.lt
        have q2 := HB89.out.size
        have q3 := HB911.out.size
        have q4 := HB78.out.size
        have q5 := z16.lt
        have q6 := b1416.size
        have q7 := b15.size
        have q8 := b16.size
        have q9 := HBC.out.size
        omega)
      have HSS : Hid (∀ wx, Below W16.heap.size W16 wx → wx.cell? ⟨p12, 0, none⟩ = some (.slice (some ⟨g7, 0, none⟩) 1 cA) ∧ wx.cell? ⟨g7, 0, none⟩ = some (.slice A1 a1n a1c) ∧ wx.cell? ⟨g7, 1, none⟩ = some (.slice A2 a2n a2c) ∧ wx.cell? ⟨p18, 0, none⟩ = some (.slice (some ⟨gU, 0, none⟩) 1 cU) ∧ wx.cell? ⟨gU, 0, none⟩ = some (.slice U1 u1n u1c) ∧ wx.cell? ⟨gU, 1, none⟩ = some (.slice U2 u2n u2c)) := Lib.hid (fun wx hb => by
        obtain ⟨y0, y1⟩ := HCA.out wx (belowT' HBC7.out (belowT' b1416 hb))
        obtain ⟨x0, x1⟩ := hcU wx (belowT' b16 hb)
        exact ⟨(HZ8C.out.below (belowT' b1416 hb)).cell 0, y0, y1, (z16.below hb).cell 0, x0, x1⟩)
      clear hrowU hcU hpsU b15 hW16 hp18 b16 z16 b1416 hr1 hg7 hgU
      go_upto_region 14 with (fail)
      rw [← HW16.out, ← HP18.out]
      have HBX : Hid (RdV (W16.alloc (.cells #[.slice A1 a1n a1c, .slice A2 a2n a2c, .slice U1 u1n u1c, .slice U2 u2n u2c] 22)).drew (some ⟨W16.heap.size, 0, none⟩) 4 [.slice A1 a1n a1c, .slice A2 a2n a2c, .slice U1 u1n u1c, .slice U2 u2n u2c]) := Lib.hid (OwnV.rd (ownV_box2 W16 22 0 [.slice A1 a1n a1c, .slice A2 a2n a2c, .slice U1 u1n u1c, .slice U2 u2n u2c] 4 rfl (by omega) (Nat.zero_le _) _ rfl))
      have hbA : Below W16.heap.size W16 (W16.alloc (.cells #[.slice A1 a1n a1c, .slice A2 a2n a2c, .slice U1 u1n u1c, .slice U2 u2n u2c] 22)).drew := ((Below.refl _ _).alloc (Nat.le_refl _) _).drew
      have HOA : Hid (OwnV 22 (W16.alloc (.cells #[.slice A1 a1n a1c, .slice A2 a2n a2c, .slice U1 u1n u1c, .slice U2 u2n u2c] 22)).drew W11.heap.size (some ⟨r, 0, none⟩) 5 5 [.slice (some ⟨gx, 0, none⟩) (la + 40) (la + 40), .slice (some ⟨gy, 0, none⟩) (lb + 40) (lb + 40), .slice D dn dc, .slice D1 d1n d1c, .slice D2 d2n d2c]) := Lib.hid (OwnV.below HO16.out hbA)
      have HFA2 := Lib.hid (HF16.out.below hbA)
      have HBA := Lib.hid (belowT' HB1116.out hbA)
      have HSA : Hid (W11.heap.size ≤ (W16.alloc (.cells #[.slice A1 a1n a1c, .slice A2 a2n a2c, .slice U1 u1n u1c, .slice U2 u2n u2c] 22)).drew.heap.size) := Lib.hid HBA.out.size
      have HKP : Hid (∀ wx, ((W16.alloc (.cells #[.slice A1 a1n a1c, .slice A2 a2n a2c, .slice U1 u1n u1c, .slice U2 u2n u2c] 22)).drew).grownBy wx (some r) → wx.cell? ⟨p12, 0, none⟩ = some (.slice (some ⟨g7, 0, none⟩) 1 cA) ∧ wx.cell? ⟨g7, 0, none⟩ = some (.slice A1 a1n a1c) ∧ wx.cell? ⟨g7, 1, none⟩ = some (.slice A2 a2n a2c) ∧ wx.cell? ⟨p18, 0, none⟩ = some (.slice (some ⟨gU, 0, none⟩) 1 cU) ∧ wx.cell? ⟨gU, 0, none⟩ = some (.slice U1 u1n u1c) ∧ wx.cell? ⟨gU, 1, none⟩ = some (.slice U2 u2n u2c)) := Lib.hid (fun wx hg => by
        obtain ⟨⟨n1, n2⟩, ⟨n3, n4⟩, ⟨n5, n6⟩, ⟨n7, n8⟩⟩ := HNE.out
        obtain ⟨c0, c1, c2, c3, c4, c5⟩ := HSS.out _ hbA
        have hs := hbA.size
        have k1 := hg.block p12 (by omega) (fun e => n2 (by injection e))
        have k2 := hg.block g7 (by omega) (fun e => n4 (by injection e))
        have k3 := hg.block p18 (by omega) (fun e => n6 (by injection e))
        have k4 := hg.block gU (by omega) (fun e => n8 (by injection e))
        exact ⟨(World.cell?_of_block k1).trans c0, (World.cell?_of_block k2).trans c1, (World.cell?_of_block k2).trans c2, (World.cell?_of_block k3).trans c3, (World.cell?_of_block k4).trans c4, (World.cell?_of_block k4).trans c5⟩)
      clear hbA
      go_upto_region 16 with (fail)
      go_cut [17] from 101 to 127 (fun s17 wx => ∃ (L9 : Option Addr) (c9 : Nat), s17 = .slice L9 9 c9 ∧ OwnV 22 wx W11.heap.size L9 9 c9 ([.slice (some ⟨gx, 0, none⟩) (la + 40) (la + 40), .slice (some ⟨gy, 0, none⟩) (lb + 40) (lb + 40), .slice D dn dc, .slice D1 d1n d1c, .slice D2 d2n d2c] ++ [.slice A1 a1n a1c, .slice A2 a2n a2c, .slice U1 u1n u1c, .slice U2 u2n u2c]) ∧ Fam wx w2.heap.size [(.slice (some ⟨gx, 0, none⟩) (la + 40) (la + 40), xs ++ room la 40), (.slice (some ⟨gy, 0, none⟩) (lb + 40) (lb + 40), ys ++ room lb 40), (.slice A1 a1n a1c, xs), (.slice A2 a2n a2c, ys), (.slice D dn dc, frameB (psE xM 2)), (.slice D1 d1n d1c, xs), (.slice D2 d2n d2c, ys), (.slice U1 u1n u1c, xs), (.slice U2 u2n u2c, ys)] ∧ Below W11.heap.size W11 wx)
      case first =>
        have hd1 : Below W16.heap.size W16 W16.drew := (Below.refl _ _).drew
        go_region_held3 (fun wx => wx.cell? ⟨p12, 0, none⟩ = some (.slice (some ⟨g7, 0, none⟩) 1 cA) ∧ wx.cell? ⟨g7, 0, none⟩ = some (.slice A1 a1n a1c) ∧ wx.cell? ⟨g7, 1, none⟩ = some (.slice A2 a2n a2c) ∧ wx.cell? ⟨p18, 0, none⟩ = some (.slice (some ⟨gU, 0, none⟩) 1 cU) ∧ wx.cell? ⟨gU, 0, none⟩ = some (.slice U1 u1n u1c) ∧ wx.cell? ⟨gU, 1, none⟩ = some (.slice U2 u2n u2c)) (first | assumption | exact HSS.out _ hd1 | exact HSS.out _ (hd1.alloc hd1.size _) | exact HSS.out _ (((Below.refl _ _).alloc (Nat.le_refl _) _).drew))
          (first
            | (refine wp_appVM ((W16.alloc (.cells #[.slice A1 a1n a1c, .slice A2 a2n a2c, .slice U1 u1n u1c, .slice U2 u2n u2c] 22)).drew) (Operand.tmp 101) (Operand.tmp 126) 50 rfl W11.heap.size 22 _ 24 Try.underlying50 info_sl rfl (some ⟨r, 0, none⟩) 5 5 [.slice (some ⟨gx, 0, none⟩) (la + 40) (la + 40), .slice (some ⟨gy, 0, none⟩) (lb + 40) (lb + 40), .slice D dn dc, .slice D1 d1n d1c, .slice D2 d2n d2c] (by first | (simp [Act.eval]; done) | (simp [Act.eval, Act.put]; done) | rfl) HOA.out ⟨W16.heap.size, 0, none⟩ 4 4 [.slice A1 a1n a1c, .slice A2 a2n a2c, .slice U1 u1n u1c, .slice U2 u2n u2c] (by first | (simp [Act.eval]; done) | (simp [Act.eval, Act.put]; done) | rfl) HBX.out (by omega) (by simp [Value.oneCell']) (by unfold maxLen; omega) (by omega) HSA.out ?_; intro L9 c9 w9x hL9 hg9; have hS9 := HKP.out _ hg9)
            | (refine step_appV ((W16.alloc (.cells #[.slice A1 a1n a1c, .slice A2 a2n a2c, .slice U1 u1n u1c, .slice U2 u2n u2c] 22)).drew) rfl (Operand.tmp 101) (Operand.tmp 126) 50 rfl W11.heap.size 22 _ 24 Try.underlying50 info_sl rfl (some ⟨r, 0, none⟩) 5 5 [.slice (some ⟨gx, 0, none⟩) (la + 40) (la + 40), .slice (some ⟨gy, 0, none⟩) (lb + 40) (lb + 40), .slice D dn dc, .slice D1 d1n d1c, .slice D2 d2n d2c] (by first | (simp [Act.eval]; done) | (simp [Act.eval, Act.put]; done) | rfl) HOA.out ⟨W16.heap.size, 0, none⟩ 4 4 [.slice A1 a1n a1c, .slice A2 a2n a2c, .slice U1 u1n u1c, .slice U2 u2n u2c] (by first | (simp [Act.eval]; done) | (simp [Act.eval, Act.put]; done) | rfl) HBX.out (by omega) (by simp [Value.oneCell']) (by unfold maxLen; omega) (by omega) HSA.out ?_; intro L9 c9 w9x hL9 hg9; have hS9 := HKP.out _ hg9))
        all_goals
          have HX9 : Hid (∃ (L9' : Option Addr) (c9' : Nat), Value.slice L9 9 c9 = .slice L9' 9 c9' ∧ OwnV 22 w9x W11.heap.size L9' 9 c9' ([.slice (some ⟨gx, 0, none⟩) (la + 40) (la + 40), .slice (some ⟨gy, 0, none⟩) (lb + 40) (lb + 40), .slice D dn dc, .slice D1 d1n d1c, .slice D2 d2n d2c] ++ [.slice A1 a1n a1c, .slice A2 a2n a2c, .slice U1 u1n u1c, .slice U2 u2n u2c]) ∧ Fam w9x w2.heap.size [(.slice (some ⟨gx, 0, none⟩) (la + 40) (la + 40), xs ++ room la 40), (.slice (some ⟨gy, 0, none⟩) (lb + 40) (lb + 40), ys ++ room lb 40), (.slice A1 a1n a1c, xs), (.slice A2 a2n a2c, ys), (.slice D dn dc, frameB (psE xM 2)), (.slice D1 d1n d1c, xs), (.slice D2 d2n d2c, ys), (.slice U1 u1n u1c, xs), (.slice U2 u2n u2c, ys)] ∧ Below W11.heap.size W11 w9x) := Lib.hid ⟨L9, c9, rfl, hL9, HFA2.out.kept hg9 (fun b hb => HFA2.out.offV HOA.out b hb), HBA.out.grown hg9 HSA.out (fun j hj => (HOA.out.lt j hj).1)⟩
          clear hL9 hg9 i0 j0 y0 y1 x0 x1 hS9
          go_wp2_with fail
          go_meet
          exact HX9.out
      case rest =>
       obtain ⟨L9, c9, rfl, hO9, hF9, bC9⟩ := hcut
       obtain ⟨w17, hw17⟩ : ∃ w, w = wc := ⟨_, rfl⟩
       rw [← hw17] at hO9 hF9 bC9 ⊢
       have HO9 := Lib.hid hO9
       have HF9 := Lib.hid hF9
       have HBC9 := Lib.hid bC9
       clear hw17 hO9 hF9 bC9 i0 j0 y0 y1 x0 x1
       have HFL : Hid (Fam w17 w2.heap.size [(.slice (some ⟨gx, 0, none⟩) (la + 40) (la + 40), xs ++ room la 40), (.slice (some ⟨gy, 0, none⟩) (lb + 40) (lb + 40), ys ++ room lb 40), (.slice D dn dc, frameB (psE xM 2)), (.slice D1 d1n d1c, xs), (.slice D2 d2n d2c, ys), (.slice A1 a1n a1c, xs), (.slice A2 a2n a2c, ys), (.slice U1 u1n u1c, xs), (.slice U2 u2n u2c, ys)]) := Lib.hid (HF9.out.perm (List.Perm.cons _ (List.Perm.cons _ (List.perm_append_comm_assoc ([(.slice A1 a1n a1c, xs), (.slice A2 a2n a2c, ys)] : List VB) ([(.slice D dn dc, frameB (psE xM 2)), (.slice D1 d1n d1c, xs), (.slice D2 d2n d2c, ys)] : List VB) ([(.slice U1 u1n u1c, xs), (.slice U2 u2n u2c, ys)] : List VB)))))
       have HAPP : Hid (Calls Try.prog 22 #[.slice L9 9 c9] w17 fun e w' => e = .returned (.bool true) ∧ Below w2.heap.size w17 w') := Lib.hid (Apart_any L9 9 c9 w2.heap.size ([(.slice (some ⟨gx, 0, none⟩) (la + 40) (la + 40), xs ++ room la 40), (.slice (some ⟨gy, 0, none⟩) (lb + 40) (lb + 40), ys ++ room lb 40), (.slice D dn dc, frameB (psE xM 2)), (.slice D1 d1n d1c, xs), (.slice D2 d2n d2c, ys), (.slice A1 a1n a1c, xs), (.slice A2 a2n a2c, ys), (.slice U1 u1n u1c, xs), (.slice U2 u2n u2c, ys)].map (·.1)) w17 (OwnV.rd HO9.out) (by omega) HFL.out.pre (HFL.out.small (M := 1073741824) (fun p hp => by
         have h1 := HXL.out
         have h2 := HYL.out
         have h3 := frameB_lenM xM 2 (by rw [HXM.out.2.2.2.2.2.1]; unfold U64; omega) (by unfold B64; omega) HXM.out.2.2.2.2.2.2.1 HXM.out.2.2.2.2.2.2.2
         have h4 : (room la 40).length ≤ 1000 := by unfold room; simp
         have h5 : (room lb 40).length ≤ 1000 := by unfold room; simp
         simp only [List.mem_cons, List.not_mem_nil, or_false] at hp
         rcases hp with rfl | rfl | rfl | rfl | rfl | rfl | rfl | rfl | rfl <;> (simp only [List.length_append]; omega))) HFL.out.dis (fun b hb i v hv => (HFL.out.offV HO9.out b hb).map i v hv) (by have := HSZ.out; have := HBC9.out.size; omega))
       have HEND : Hid (∀ wx, Below w2.heap.size w17 wx → RetT w true (.returned (.bool true)) wx) := Lib.hid (fun wx hb => ⟨rfl, (belowT' HBW.out HBC9.out).trans (hb.mono (by have := HB2.out.size; omega))⟩)
       go_wp2_with fail
       with_reducible refine HAPP.out.mono ?_
       intro e w19 hq
       obtain ⟨h1, b19⟩ := hq
       subst h1
       have HE2 := Lib.hid (HEND.out _ b19)
       clear b19
       go_wp2_with fail
       go_ret
       exact HE2.out
end Go.Proofs.Ytlnpicfkcahdbaa
namespace Go.Proofs.Ytlnpicfkcahdbaa.manifestKeepsUptoRow
open Go Go.ChangeShapes Go.WideShapes Go.ChangeAt Go.RowKit Go.Deep
open Go.ChangeMaps (open_string shut_string)
set_option linter.unusedVariables false

theorem own : ownKnob Try.prog.godebug = none := by kernel_rfl
theorem laidOut : laidOutB Try.prog = true := by kernel_rfl

set_option maxRecDepth 100000 in
theorem contract (H : Type) (enc : TypeId × Value → H) (W : World) (base : Nat) (args : Array Value) (ds gs : List (DataW H)) (before : List MemPlace)
    (hval0 : ∀ (j : Nat) t v, Try.f10.params[j]? = some t → args[j]? = some v → Value.okWide Try.prog W .any base t v)
    (hW : DataW.Whole enc Try.prog Try.f10.params.toList Rows.manifestKeepsSpec.vars false W args.toList ds gs before)
    (hk : Rows.uptoSmall H (ds ++ gs) = true) :
    Calls Try.prog 10 args W fun e W' => ∃ v, e = .returned v ∧ Rows.manifestKeepsSpec.post enc Try.prog Try.f10 false true false false W args v W' := by
  have hval : ∀ (j : Nat) t v, Try.f10.params[j]? = some t → args[j]? = some v → Value.okWide Try.prog W .any base t v := hval0
  have hW' := hW
  obtain ⟨p, q, hA0, hV, rfl, hfz, hnd⟩ := hW
  have hA : DataW.TrodAll enc Try.prog W 0 (fun _ => true) true Try.f10.params.toList args.toList ds p := hA0
  rw [Try.params10] at hA hval
  obtain ⟨v0, vs0, d0, ds0, p0, q0, hargs, rfl, rfl, h0, r0⟩ := trodAll_cons hA
  obtain ⟨v1, vs1, d1, ds1, p1, q1, rfl, rfl, rfl, h1, r1⟩ := trodAll_cons r0
  obtain ⟨v2, vs2, d2, ds2, p2, q2, rfl, rfl, rfl, h2, r2⟩ := trodAll_cons r1
  obtain ⟨rfl, rfl, rfl⟩ := trodAll_nil r2
  obtain rfl : args = #[v0, v1, v2] := by cases args; simp_all
  obtain ⟨rfl, rfl⟩ := trodVars_none hV
  have hb := bulkOf hk
  have sz1 : ∀ el sp, d1 = .slice el sp → Rows.uptoBulkAll el + Rows.uptoBulkAll sp + 1 ≤ 1048576 := fun el sp e => by
    have h1 := Nat.le_trans (part_bulk (d := d1) (l := [d0, d1, d2] ++ []) (by simp)) hb
    rw [e] at h1
    simp only [Rows.uptoBulk] at h1
    omega
  have sz2 : ∀ el sp, d2 = .slice el sp → Rows.uptoBulkAll el + Rows.uptoBulkAll sp + 1 ≤ 1048576 := fun el sp e => by
    have h1 := Nat.le_trans (part_bulk (d := d2) (l := [d0, d1, d2] ++ []) (by simp)) hb
    rw [e] at h1
    simp only [Rows.uptoBulk] at h1
    omega
  obtain ⟨cs0, rfl, _⟩ := okWide_struct Try.underlying109 (hval 0 109 v0 rfl rfl)
  have k0 := h0
  have lt0 : ∀ x ∈ p0, x.block < W.heap.size := by obtain ⟨m, hm⟩ := k0; exact DataW.trod_lt m _ _ _ hm
  obtain ⟨A1, len1, cap1, rfl⟩ := okWide_slice Try.underlying22 (hval 1 22 v1 rfl rfl)
  have k1 := h1
  have lt1 : ∀ x ∈ p1, x.block < W.heap.size := by obtain ⟨m, hm⟩ := k1; exact DataW.trod_lt m _ _ _ hm
  obtain ⟨xs1, rd1, lc1, cm1⟩ : ∃ xs, Rd W A1 len1 xs ∧ len1 ≤ cap1 ∧ cap1 ≤ 1048576 := by
    obtain ⟨fuel, hf⟩ := h1
    rcases open_ints Try.underlying22 Try.underlying5 (by kernel_rfl) hf with ⟨hcs, _⟩ | ⟨x, l, c, zs, hcs, _, hl, hm, hz, hx, hcell, hwz⟩
    · simp [Value.cells] at hcs
      obtain ⟨rfl, rfl, rfl⟩ := hcs
      exact ⟨[], Rd.nil _ _, Nat.le_refl _, by omega⟩
    · simp [Value.cells] at hcs
      obtain ⟨rfl, rfl, rfl⟩ := hcs
      simp only [Prod.mk.injEq] at hx
      have hz' : zs.length = cap1 := by simpa using hz
      have h2 := sz1 _ _ hx.1
      have h3 := length_le (lits (H := H) .u8 (zs.take len1))
      have h4 := length_le (lits (H := H) .u8 (zs.drop len1))
      simp only [lits, List.length_map, List.length_take, List.length_drop, hz'] at h2 h3 h4
      exact ⟨_, Rd.of_ints hl hz' hcell hwz, hl, by omega⟩
  obtain ⟨A2, len2, cap2, rfl⟩ := okWide_slice Try.underlying22 (hval 2 22 v2 rfl rfl)
  have k2 := h2
  have lt2 : ∀ x ∈ p2, x.block < W.heap.size := by obtain ⟨m, hm⟩ := k2; exact DataW.trod_lt m _ _ _ hm
  obtain ⟨xs2, rd2, lc2, cm2⟩ : ∃ xs, Rd W A2 len2 xs ∧ len2 ≤ cap2 ∧ cap2 ≤ 1048576 := by
    obtain ⟨fuel, hf⟩ := h2
    rcases open_ints Try.underlying22 Try.underlying5 (by kernel_rfl) hf with ⟨hcs, _⟩ | ⟨x, l, c, zs, hcs, _, hl, hm, hz, hx, hcell, hwz⟩
    · simp [Value.cells] at hcs
      obtain ⟨rfl, rfl, rfl⟩ := hcs
      exact ⟨[], Rd.nil _ _, Nat.le_refl _, by omega⟩
    · simp [Value.cells] at hcs
      obtain ⟨rfl, rfl, rfl⟩ := hcs
      simp only [Prod.mk.injEq] at hx
      have hz' : zs.length = cap2 := by simpa using hz
      have h2 := sz2 _ _ hx.1
      have h3 := length_le (lits (H := H) .u8 (zs.take len2))
      have h4 := length_le (lits (H := H) .u8 (zs.drop len2))
      simp only [lits, List.length_map, List.length_take, List.length_drop, hz'] at h2 h3 h4
      exact ⟨_, Rd.of_ints hl hz' hcell hwz, hl, by omega⟩
  clear hA0 hval0
  refine (manifestKeeps_row cs0 A1 len1 cap1 xs1 A2 len2 cap2 xs2 W rd1 lc1 cm1 rd2 lc2 cm2).mono fun e W' ⟨he, bel⟩ => ?_
  subst he
  exact ⟨_, rfl, _, _, _, [], _, [], hW', trodAll_mk1 (shut_bool Try.underlying4 _), (trodAll_cons_mk (Below.trod laidOut (by kernel_rfl) (of_decide_eq_true (by kernel_rfl)) k0 bel lt0) (trodAll_cons_mk (Below.trod laidOut (by kernel_rfl) (of_decide_eq_true (by kernel_rfl)) k1 bel lt1) (trodAll_cons_mk (Below.trod laidOut (by kernel_rfl) (of_decide_eq_true (by kernel_rfl)) k2 bel lt2) trodAll_mk0))), rfl, bel.frame _, fun h => by cases h⟩

set_option maxRecDepth 100000 in
theorem lifted (os : Os) (started : os.Started) (H : Type) (enc : TypeId × Value → H) (F : Stop.Interp) :
    ReturnsInHanded {} Try.checked os 10 .any ((Rows.OpenSpec.upto Rows.manifestKeepsSpec).pre6 enc Try.prog Try.f10 Rows.manifestKeepsUptoRow.domain false) (((Rows.OpenSpec.upto Rows.manifestKeepsSpec).at F).post enc Try.prog Try.f10 false true false false) := by
  refine returnsInHanded_of_cond (C := Try.checked) (s := Rows.OpenSpec.upto Rows.manifestKeepsSpec) (k := Rows.uptoSmall) rfl own started (by kernel_rfl) Try.func10
    (OpenSpec.witness (enc := enc) (C := Try.checked) (s := Rows.OpenSpec.upto Rows.manifestKeepsSpec) (k := Rows.uptoSmall) rfl false ⟨#[], #[.agg #[.bool false, .slice none 0 0, .slice none 0 0, .int .u64 0], .slice none 0 0, .slice none 0 0], []⟩ 8 (by kernel_rfl) (by kernel_rfl) (by kernel_rfl)
      (x := ([.agg [.lit (.bool false), .nil, .nil, .lit (.int .u64 0)], .nil, .nil], [], [])) (by kernel_rfl) rfl (by kernel_rfl)) ?_
  intro W base args ds gs before hval hW _ hk _
  exact contract H enc W base args ds gs before hval hW hk

theorem over : Rows.manifestKeepsUptoRow.holds Try.pinned (Rows.OpenSpec.upto Rows.manifestKeepsSpec) :=
  OpenClaim.holds_of_cond 10 Try.f10 rfl rfl rfl rfl rfl rfl rfl ⟨rfl, rfl, rfl, rfl, rfl⟩ rfl rfl rfl rfl rfl (by kernel_rfl) Try.func10 (by kernel_rfl)
    (of_decide_eq_true (by kernel_rfl)) (by unfold Func.isWrapper; first | (rw [if_pos (by decide +kernel)]; kernel_rfl) | (rw [if_neg (by decide +kernel)]; exact ⟨rfl, rfl⟩))
    (fun os started H enc _ F => lifted os started H enc F)

/-- THE STATEMENT -/
theorem proved : Rows.ManifestKeepsUptoSaid := over
#print axioms proved
end Go.Proofs.Ytlnpicfkcahdbaa.manifestKeepsUptoRow
