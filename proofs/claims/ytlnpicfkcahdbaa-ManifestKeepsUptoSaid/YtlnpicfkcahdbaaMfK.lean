/- Manifest: Decode of what Encode made of one file. No condition but sizes. -/
import Derived.Test.YtlnpicfkcahdbaaMfJ
namespace Go.Proofs.Ytlnpicfkcahdbaa
open Go Go.RowKit

theorem Cl.ch {w : World} {g : Nat} {a0 a1 a2 a3 a4 a5 : Value} {t : TypeId} (h : Cl w g #[a0, a1, a2, a3, a4, a5] t) (v0 v1 v2 v3 v4 v5 : Value) : Cl (w.setCell ⟨g, 0, none⟩ v0) g #[v0, a1, a2, a3, a4, a5] t ∧ Cl ((w.setCell ⟨g, 0, none⟩ v0).setCell ⟨g, 1, none⟩ v1) g #[v0, v1, a2, a3, a4, a5] t ∧ Cl (((w.setCell ⟨g, 0, none⟩ v0).setCell ⟨g, 1, none⟩ v1).setCell ⟨g, 2, none⟩ v2) g #[v0, v1, v2, a3, a4, a5] t ∧ Cl ((((w.setCell ⟨g, 0, none⟩ v0).setCell ⟨g, 1, none⟩ v1).setCell ⟨g, 2, none⟩ v2).setCell ⟨g, 3, none⟩ v3) g #[v0, v1, v2, v3, a4, a5] t ∧ Cl (((((w.setCell ⟨g, 0, none⟩ v0).setCell ⟨g, 1, none⟩ v1).setCell ⟨g, 2, none⟩ v2).setCell ⟨g, 3, none⟩ v3).setCell ⟨g, 4, none⟩ v4) g #[v0, v1, v2, v3, v4, a5] t ∧ Cl ((((((w.setCell ⟨g, 0, none⟩ v0).setCell ⟨g, 1, none⟩ v1).setCell ⟨g, 2, none⟩ v2).setCell ⟨g, 3, none⟩ v3).setCell ⟨g, 4, none⟩ v4).setCell ⟨g, 5, none⟩ v5) g #[v0, v1, v2, v3, v4, v5] t := by
  have h1 : Cl (w.setCell ⟨g, 0, none⟩ v0) g #[v0, a1, a2, a3, a4, a5] t := h.set 0 v0
  have h2 : Cl ((w.setCell ⟨g, 0, none⟩ v0).setCell ⟨g, 1, none⟩ v1) g #[v0, v1, a2, a3, a4, a5] t := h1.set 1 v1
  have h3 : Cl (((w.setCell ⟨g, 0, none⟩ v0).setCell ⟨g, 1, none⟩ v1).setCell ⟨g, 2, none⟩ v2) g #[v0, v1, v2, a3, a4, a5] t := h2.set 2 v2
  have h4 : Cl ((((w.setCell ⟨g, 0, none⟩ v0).setCell ⟨g, 1, none⟩ v1).setCell ⟨g, 2, none⟩ v2).setCell ⟨g, 3, none⟩ v3) g #[v0, v1, v2, v3, a4, a5] t := h3.set 3 v3
  have h5 : Cl (((((w.setCell ⟨g, 0, none⟩ v0).setCell ⟨g, 1, none⟩ v1).setCell ⟨g, 2, none⟩ v2).setCell ⟨g, 3, none⟩ v3).setCell ⟨g, 4, none⟩ v4) g #[v0, v1, v2, v3, v4, a5] t := h4.set 4 v4
  have h6 : Cl ((((((w.setCell ⟨g, 0, none⟩ v0).setCell ⟨g, 1, none⟩ v1).setCell ⟨g, 2, none⟩ v2).setCell ⟨g, 3, none⟩ v3).setCell ⟨g, 4, none⟩ v4).setCell ⟨g, 5, none⟩ v5) g #[v0, v1, v2, v3, v4, v5] t := h5.set 5 v5
  exact ⟨h1, h2, h3, h4, h5, h6⟩
theorem Cl.st6 {w : World} {g : Nat} {a0 a1 a2 a3 a4 a5 : Value} {t : TypeId} (h : Cl w g #[a0, a1, a2, a3, a4, a5] t) : (w.cell? ⟨g, 0, none⟩ = some a0) ∧ (w.frozen? ⟨g, 0, none⟩ = false) ∧ (∀ v0 : Value, (w.setCell ⟨g, 0, none⟩ v0).cell? ⟨g, 1, none⟩ = some a1) ∧ (∀ v0 : Value, (w.setCell ⟨g, 0, none⟩ v0).frozen? ⟨g, 1, none⟩ = false) ∧ (∀ v0 v1 : Value, ((w.setCell ⟨g, 0, none⟩ v0).setCell ⟨g, 1, none⟩ v1).cell? ⟨g, 2, none⟩ = some a2) ∧ (∀ v0 v1 : Value, ((w.setCell ⟨g, 0, none⟩ v0).setCell ⟨g, 1, none⟩ v1).frozen? ⟨g, 2, none⟩ = false) ∧ (∀ v0 v1 v2 : Value, (((w.setCell ⟨g, 0, none⟩ v0).setCell ⟨g, 1, none⟩ v1).setCell ⟨g, 2, none⟩ v2).cell? ⟨g, 3, none⟩ = some a3) ∧ (∀ v0 v1 v2 : Value, (((w.setCell ⟨g, 0, none⟩ v0).setCell ⟨g, 1, none⟩ v1).setCell ⟨g, 2, none⟩ v2).frozen? ⟨g, 3, none⟩ = false) ∧ (∀ v0 v1 v2 v3 : Value, ((((w.setCell ⟨g, 0, none⟩ v0).setCell ⟨g, 1, none⟩ v1).setCell ⟨g, 2, none⟩ v2).setCell ⟨g, 3, none⟩ v3).cell? ⟨g, 4, none⟩ = some a4) ∧ (∀ v0 v1 v2 v3 : Value, ((((w.setCell ⟨g, 0, none⟩ v0).setCell ⟨g, 1, none⟩ v1).setCell ⟨g, 2, none⟩ v2).setCell ⟨g, 3, none⟩ v3).frozen? ⟨g, 4, none⟩ = false) ∧ (∀ v0 v1 v2 v3 v4 : Value, (((((w.setCell ⟨g, 0, none⟩ v0).setCell ⟨g, 1, none⟩ v1).setCell ⟨g, 2, none⟩ v2).setCell ⟨g, 3, none⟩ v3).setCell ⟨g, 4, none⟩ v4).cell? ⟨g, 5, none⟩ = some a5) ∧ (∀ v0 v1 v2 v3 v4 : Value, (((((w.setCell ⟨g, 0, none⟩ v0).setCell ⟨g, 1, none⟩ v1).setCell ⟨g, 2, none⟩ v2).setCell ⟨g, 3, none⟩ v3).setCell ⟨g, 4, none⟩ v4).frozen? ⟨g, 5, none⟩ = false) :=
  ⟨h.cell 0, h.thaw 0, fun v0 => (h.ch v0 a1 a2 a3 a4 a5).1.cell 1, fun v0 => (h.ch v0 a1 a2 a3 a4 a5).1.thaw 1, fun v0 v1 => (h.ch v0 v1 a2 a3 a4 a5).2.1.cell 2, fun v0 v1 => (h.ch v0 v1 a2 a3 a4 a5).2.1.thaw 2, fun v0 v1 v2 => (h.ch v0 v1 v2 a3 a4 a5).2.2.1.cell 3, fun v0 v1 v2 => (h.ch v0 v1 v2 a3 a4 a5).2.2.1.thaw 3, fun v0 v1 v2 v3 => (h.ch v0 v1 v2 v3 a4 a5).2.2.2.1.cell 4, fun v0 v1 v2 v3 => (h.ch v0 v1 v2 v3 a4 a5).2.2.2.1.thaw 4, fun v0 v1 v2 v3 v4 => (h.ch v0 v1 v2 v3 v4 a5).2.2.2.2.1.cell 5, fun v0 v1 v2 v3 v4 => (h.ch v0 v1 v2 v3 v4 a5).2.2.2.2.1.thaw 5⟩
theorem Cl.fin6 {w : World} {g : Nat} {a0 a1 a2 a3 a4 a5 : Value} {t : TypeId} (h : Cl w g #[a0, a1, a2, a3, a4, a5] t) : (∀ v0 v1 v2 v3 v4 v5 : Value, ((((((w.setCell ⟨g, 0, none⟩ v0).setCell ⟨g, 1, none⟩ v1).setCell ⟨g, 2, none⟩ v2).setCell ⟨g, 3, none⟩ v3).setCell ⟨g, 4, none⟩ v4).setCell ⟨g, 5, none⟩ v5).cell? ⟨g, 0, none⟩ = some v0) ∧ (∀ v0 v1 v2 v3 v4 v5 : Value, ((((((w.setCell ⟨g, 0, none⟩ v0).setCell ⟨g, 1, none⟩ v1).setCell ⟨g, 2, none⟩ v2).setCell ⟨g, 3, none⟩ v3).setCell ⟨g, 4, none⟩ v4).setCell ⟨g, 5, none⟩ v5).cell? ⟨g, 1, none⟩ = some v1) ∧ (∀ v0 v1 v2 v3 v4 v5 : Value, ((((((w.setCell ⟨g, 0, none⟩ v0).setCell ⟨g, 1, none⟩ v1).setCell ⟨g, 2, none⟩ v2).setCell ⟨g, 3, none⟩ v3).setCell ⟨g, 4, none⟩ v4).setCell ⟨g, 5, none⟩ v5).cell? ⟨g, 2, none⟩ = some v2) ∧ (∀ v0 v1 v2 v3 v4 v5 : Value, ((((((w.setCell ⟨g, 0, none⟩ v0).setCell ⟨g, 1, none⟩ v1).setCell ⟨g, 2, none⟩ v2).setCell ⟨g, 3, none⟩ v3).setCell ⟨g, 4, none⟩ v4).setCell ⟨g, 5, none⟩ v5).cell? ⟨g, 3, none⟩ = some v3) ∧ (∀ v0 v1 v2 v3 v4 v5 : Value, ((((((w.setCell ⟨g, 0, none⟩ v0).setCell ⟨g, 1, none⟩ v1).setCell ⟨g, 2, none⟩ v2).setCell ⟨g, 3, none⟩ v3).setCell ⟨g, 4, none⟩ v4).setCell ⟨g, 5, none⟩ v5).cell? ⟨g, 4, none⟩ = some v4) ∧ (∀ v0 v1 v2 v3 v4 v5 : Value, ((((((w.setCell ⟨g, 0, none⟩ v0).setCell ⟨g, 1, none⟩ v1).setCell ⟨g, 2, none⟩ v2).setCell ⟨g, 3, none⟩ v3).setCell ⟨g, 4, none⟩ v4).setCell ⟨g, 5, none⟩ v5).cell? ⟨g, 5, none⟩ = some v5) :=
  ⟨fun v0 v1 v2 v3 v4 v5 => (h.ch v0 v1 v2 v3 v4 v5).2.2.2.2.2.cell 0, fun v0 v1 v2 v3 v4 v5 => (h.ch v0 v1 v2 v3 v4 v5).2.2.2.2.2.cell 1, fun v0 v1 v2 v3 v4 v5 => (h.ch v0 v1 v2 v3 v4 v5).2.2.2.2.2.cell 2, fun v0 v1 v2 v3 v4 v5 => (h.ch v0 v1 v2 v3 v4 v5).2.2.2.2.2.cell 3, fun v0 v1 v2 v3 v4 v5 => (h.ch v0 v1 v2 v3 v4 v5).2.2.2.2.2.cell 4, fun v0 v1 v2 v3 v4 v5 => (h.ch v0 v1 v2 v3 v4 v5).2.2.2.2.2.cell 5⟩
theorem Cl.grownM {w w' : World} {g p : Nat} {vs : Array Value} {t : TypeId} (h : Cl w g vs t) (hg : w.grownBy w' (some p)) (hne : g ≠ p) : Cl w' g vs t := (hg.block g h.lt (fun e => hne (by injection e))).trans h
theorem below_grown {B : Nat} {w w1 w2 : World} {p : Nat} (h : Below B w w1) (hg : w1.grownBy w2 (some p)) (hs : B ≤ w1.heap.size) (hp : B ≤ p) : Below B w w2 := h.grown hg hs (fun k hk => by injection hk with hk; omega)
set_option maxRecDepth 100000 in
set_option maxHeartbeats 4000000 in
theorem decodeDrop0_any {w : World} {A : Option Addr} {c : Nat} : Calls Try.prog 120 #[.slice A 0 c] w (fun e w' => e = .returned (.tuple #[.slice none 0 0, .int .i64 0]) ∧ Below w.heap.size w w') := by
  obtain ⟨W, hW⟩ : ∃ W, W = w.alloc (.cells #[.slice A 0 c, .int .i64 0, .int .i64 0] 185) := ⟨_, rfl⟩
  obtain ⟨p, hp⟩ : ∃ p, p = w.heap.size := ⟨_, rfl⟩
  have bW : Below w.heap.size w W := by rw [hW]; exact (Below.refl _ _).alloc (Nat.le_refl _) _
  have zW : RdMf W p A 0 c 0 := by rw [hW, hp]; exact Cl.new _ _ _
  have HM : Hid (∀ wx, Below W.heap.size W wx → Calls Try.prog 172 #[.pointer (some ⟨p, 0, none⟩)] wx (RetT wx false)) := Lib.hid (fun wx hb => moreM_any (zW.below hb))
  have HE : Hid (∀ wx, Below W.heap.size W wx → Calls Try.prog 119 #[.pointer (some ⟨p, 0, none⟩)] wx (RetNu wx 0)) := Lib.hid (fun wx hb => endM_any (zW.below hb))
  have HB := Lib.hid bW
  have HW := Lib.hid hW
  have HP := Lib.hid hp
  clear bW zW hW hp
  go_enter Try.func120, Try.ntmps120
  go_upto_region 2 with (fail)
  rw [← HW.out, ← HP.out]
  go_wp2_with fail
  go_loopw [5] (fun s5 wr => s5 = .slice none 0 0 ∧ wr = W) (fun _ _ => 0)
  case atStart => exact ⟨rfl, rfl⟩
  case round =>
    obtain ⟨rfl, hwr⟩ := hrel
    rw [hwr]
    clear hwr wr
    go_wp2_with fail
    with_reducible refine (HM.out _ (Below.refl _ _)).mono ?_
    intro e w2 hq
    obtain ⟨h1, b2⟩ := RetT.outD hq
    subst h1
    have HB2 := Lib.hid (belowT' HB.out b2)
    have HE2 := Lib.hid (HE.out _ b2)
    clear hq b2
    go_wp2_with fail
    with_reducible refine HE2.out.mono ?_
    intro e w3 hq
    obtain ⟨h1, b3⟩ : e = .returned (.int .i64 0) ∧ Below w2.heap.size w2 w3 := hq
    subst h1
    have HF := Lib.hid (belowT' HB2.out b3)
    clear b3
    go_wp2_with fail
    exact bodyPost_ret (v := .tuple #[.slice none 0 0, .int .i64 0]) (by simp [results, Try.f120, go_sem]; try rfl) rfl ⟨rfl, HF.out⟩
/-- The places in a file's bytes. -/
theorem encF_at (x : Mf) (hx : x.num < B64) : ∃ a b : Nat, getU (encF (nsF x) x) ((0 : Nat) : Int) = (x.num, (a : Int), 0) ∧ getU (encF (nsF x) x) (a : Int) = (0, ((a + 1 : Nat) : Int), 0) ∧ getU (encF (nsF x) x) ((a + 1 : Nat) : Int) = (0, ((a + 2 : Nat) : Int), 0) ∧ getU (encF (nsF x) x) ((a + 2 : Nat) : Int) = (0, ((a + 3 : Nat) : Int), 0) ∧
    getT (encF (nsF x) x) ((a + 3 : Nat) : Int) = (x.lo, (b : Int), 0) ∧ getT (encF (nsF x) x) (b : Int) = (x.hi, ((encF (nsF x) x).length : Int), 0) := by
  have h0 : putU 0 = [bt 0] := putU_small (by omega)
  have e0 : encF (nsF x) x = putU x.num ++ (putU 0 ++ (putU 0 ++ (putU 0 ++ (ordT x.lo ++ ordT x.hi)))) := by
    simp [encF, encNs, nsF, List.append_assoc]
  have hz : (0 : Nat) < B64 := by unfold B64; omega
  have h01 : (putU 0).length = 1 := by rw [h0]; rfl
  have g : ∀ (pre r : List UInt8) (n k : Nat), n < B64 → encF (nsF x) x = pre ++ (putU n ++ r) → pre.length = k → getU (encF (nsF x) x) (k : Int) = (n, ((k + (putU n).length : Nat) : Int), 0) := by
    intro pre r n k hn e hk
    rw [e, ← hk]
    exact getU_at pre r n hn
  have g2 : ∀ (pre r ys : List UInt8) (k : Nat), encF (nsF x) x = pre ++ (ordT ys ++ r) → pre.length = k → getT (encF (nsF x) x) (k : Int) = (ys, ((k + (ordT ys).length : Nat) : Int), 0) := by
    intro pre r ys k e hk
    rw [e, ← hk]
    exact getT_ordT pre ys r
  refine ⟨(putU x.num).length, (putU x.num).length + 3 + (ordT x.lo).length, ?_, ?_, ?_, ?_, ?_, ?_⟩
  · have := g [] _ x.num 0 hx e0 rfl
    rw [Nat.zero_add] at this
    exact this
  · have := g (putU x.num) _ 0 _ hz e0 rfl
    rw [h01] at this
    exact this
  · have := g (putU x.num ++ putU 0) (putU 0 ++ (ordT x.lo ++ ordT x.hi)) 0 ((putU x.num).length + 1) hz (by rw [e0]; simp only [List.append_assoc]) (by rw [List.length_append, h01])
    rw [h01] at this
    exact this
  · have := g (putU x.num ++ (putU 0 ++ putU 0)) (ordT x.lo ++ ordT x.hi) 0 ((putU x.num).length + 2) hz (by rw [e0]; simp only [List.append_assoc]) (by simp only [List.length_append, h01])
    rw [h01] at this
    exact this
  · exact g2 (putU x.num ++ (putU 0 ++ (putU 0 ++ putU 0))) (ordT x.hi) x.lo ((putU x.num).length + 3) (by rw [e0]; simp only [List.append_assoc]) (by simp only [List.length_append, h01])
  · have := g2 (putU x.num ++ (putU 0 ++ (putU 0 ++ (putU 0 ++ ordT x.lo)))) [] x.hi ((putU x.num).length + 3 + (ordT x.lo).length) (by rw [e0]; simp only [List.append_assoc, List.append_nil]) (by simp only [List.length_append, h01]; omega)
    rw [this]
    have h3 : (encF (nsF x) x).length = (putU x.num).length + 3 + (ordT x.lo).length + (ordT x.hi).length := by rw [e0]; simp only [List.length_append, h01]; omega
    rw [h3]
end Go.Proofs.Ytlnpicfkcahdbaa
