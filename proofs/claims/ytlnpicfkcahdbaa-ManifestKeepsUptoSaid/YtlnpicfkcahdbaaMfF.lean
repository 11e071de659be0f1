/- Manifest: Right of at most one file. No condition but sizes. -/
import Derived.Test.YtlnpicfkcahdbaaMfE
namespace Go.Proofs.Ytlnpicfkcahdbaa
open Go Go.RowKit

set_option maxRecDepth 100000 in
set_option maxHeartbeats 4000000 in
theorem right0_any {w : World} {A : Option Addr} {c a s : Nat} : Calls Try.prog 56 #[.agg #[.slice A 0 c, .int .u64 (a : Int), .int .u64 (s : Int)]] w (RetT w true) := by
  have HT := Lib.hid (fun wx => twice_any (c := c) (RMf.nil wx A) (by omega))
  rw [twiceM_nil] at HT
  obtain ⟨W, hW⟩ : ∃ W, W = w.alloc (.cells #[.slice A 0 c, .int .u64 (a : Int), .int .u64 (s : Int)] 118) := ⟨_, rfl⟩
  obtain ⟨p, hp⟩ : ∃ p, p = w.heap.size := ⟨_, rfl⟩
  have bW : Below w.heap.size w W := by rw [hW]; exact (Below.refl _ _).alloc (Nat.le_refl _) _
  have zW : Cl W p #[.slice A 0 c, .int .u64 (a : Int), .int .u64 (s : Int)] 118 := by rw [hW, hp]; exact Cl.new _ _ _
  have k0 := zW.cell 0
  have HB := Lib.hid bW
  have HW := Lib.hid hW
  have HP := Lib.hid hp
  clear bW zW hW hp
  go_enter Try.func56, Try.ntmps56
  go_upto_region 1 with (fail)
  rw [← HW.out, ← HP.out]
  go_wp2_with fail
  go_loopw [9] (fun s wr => s = .int .i64 0 ∧ wr = W) (fun _ _ => 0)
  case atStart => exact ⟨rfl, rfl⟩
  case round =>
    obtain ⟨rfl, rfl⟩ := hrel
    go_wp2_with fail
    with_reducible refine (HT.out _).mono ?_
    intro e w2 hq
    obtain ⟨h1, b2⟩ := RetT.outD hq
    subst h1
    have HB2 := Lib.hid (belowT' HB.out b2)
    clear hq b2
    go_wp2_with fail
    go_ret
    exact ⟨rfl, HB2.out⟩
set_option maxRecDepth 100000 in
set_option maxHeartbeats 8000000 in
theorem right1_any {w : World} {A : Option Addr} {c a s : Nat} {x : Mf} (h : RMf w A 1 [x]) (hlt : x.num < a) (hlv : x.lv = 0) (_hl1 : x.lo.length ≤ maxLen) (_hl2 : x.hi.length ≤ maxLen) : Calls Try.prog 56 #[.agg #[.slice A 1 c, .int .u64 (a : Int), .int .u64 (s : Int)]] w (RetT w (decide (cmpB x.lo x.hi ≤ 0))) := by
  obtain ⟨b, off, hAb, hbl⟩ := h.pos (by omega)
  subst hAb
  have HT : Hid (∀ wx, Below w.heap.size w wx → Calls Try.prog 112 #[.slice (some ⟨b, off, none⟩) 1 c] wx (RetT wx false)) := Lib.hid (fun wx hb => by have := twice_any (c := c) (h.below hb) (by omega); rw [twiceM_one] at this; exact this)
  obtain ⟨x', v0, v1, v2, v3, v4, v5, hx, m0, m1, m2, m3, m4, m5, hev⟩ := h.at_ 0 (by omega)
  obtain rfl : x = x' := by simpa using hx
  obtain ⟨K, kn, kc, T, tn, tc, rfl, rfl, rfl, rfl, rfl, rfl, rk, rt, _, _, _, _, hu⟩ := hev.parts
  obtain ⟨W, hW⟩ : ∃ W, W = w.alloc (.cells #[.slice (some ⟨b, off, none⟩) 1 c, .int .u64 (a : Int), .int .u64 (s : Int)] 118) := ⟨_, rfl⟩
  obtain ⟨p, hp⟩ : ∃ p, p = w.heap.size := ⟨_, rfl⟩
  have bW : Below w.heap.size w W := by rw [hW]; exact (Below.refl _ _).alloc (Nat.le_refl _) _
  have zW : Cl W p #[.slice (some ⟨b, off, none⟩) 1 c, .int .u64 (a : Int), .int .u64 (s : Int)] 118 := by rw [hW, hp]; exact Cl.new _ _ _
  obtain ⟨U, hU⟩ : ∃ U, U = W.alloc (.cells #[.slice K kn kc, .slice T tn tc, .int .i64 x.cnt, .int .i64 x.sz, .int .u64 (x.num : Int), .int .i64 x.lv] 113) := ⟨_, rfl⟩
  obtain ⟨g0, hg0⟩ : ∃ g0, g0 = W.heap.size := ⟨_, rfl⟩
  have bU : Below W.heap.size W U := by rw [hU]; exact (Below.refl _ _).alloc (Nat.le_refl _) _
  have zU : Cl U g0 #[.slice K kn kc, .slice T tn tc, .int .i64 x.cnt, .int .i64 x.sz, .int .u64 (x.num : Int), .int .i64 x.lv] 113 := by rw [hU, hg0]; exact Cl.new _ _ _
  obtain ⟨z, hz⟩ : ∃ z, cmpB x.lo x.hi = z := ⟨_, rfl⟩
  have bUw := belowT' bW bU
  have HCM : Hid (∀ wx, Below w.heap.size w wx → Calls Try.prog 124 #[.slice K kn kc, .slice T tn tc] wx (fun e w' => e = .returned (.int .i64 z) ∧ wx = w')) := Lib.hid (fun wx hb => Cmp_is K T kn tn kc tc x.lo x.hi z hz wx (rk.below hb) (rt.below hb))
  have n0 := zW.cell 0
  rw [← bW.cell hbl] at m0 m1 m2 m3 m4 m5
  have k0 : U.cell? ⟨p, 0, none⟩ = some (.slice (some ⟨b, off, none⟩) 1 c) := (zW.below bU).cell 0
  have k1 : U.cell? ⟨p, 1, none⟩ = some (.int .u64 (a : Int)) := (zW.below bU).cell 1
  have q0 := zU.cell 0
  have q1 := zU.cell 1
  have q4 := zU.cell 4
  have q5 := zU.cell 5
  have t1 : decide ((x.num : Int) < (a : Int)) = true := by simp; omega
  rw [hlv] at q5 hU
  obtain ⟨y, hy⟩ : ∃ y, y = x.num := ⟨_, rfl⟩
  rw [← hy] at q4 t1 hlt
  rw [hz]
  have HY := Lib.hid hy
  have HLV := Lib.hid hlv
  have HB := Lib.hid bUw
  have HW := Lib.hid hW
  have HP := Lib.hid hp
  have HUE := Lib.hid hU
  have HGE := Lib.hid hg0
  clear h hx hev bW zW hW hp bU zU hU hg0 bUw hy rk rt hu hz hbl
  rw [hlv] at m5
  clear hlv
  simp only [Nat.zero_mul, Nat.add_zero] at m0 m1 m2 m3 m4 m5
  go_enter Try.func56, Try.ntmps56
  go_upto_region 1 with (fail)
  rw [← HW.out, ← HP.out]
  go_wp2_with fail
  go_loopw [9] (fun s wr => (s = .int .i64 0 ∧ wr = W) ∨ (s = .int .i64 1 ∧ (z ≤ 0) ∧ wr.cell? ⟨p, 0, none⟩ = some (.slice (some ⟨b, off, none⟩) 1 c) ∧ Below w.heap.size w wr)) (fun s _ => 1 - (intOf s).toNat)
  case atStart => exact .inl ⟨rfl, rfl⟩
  case round =>
    rcases hrel with ⟨rfl, hwr⟩ | ⟨rfl, hz0, hk0, hb⟩
    · rw [hwr]
      clear hwr wr
      go_upto_region 4 with (fail)
      rw [← HUE.out, ← HGE.out]
      clear m0 m1 m2 m3 m4 m5
      by_cases hz0 : z ≤ 0
      · have t2 : decide (z ≤ 0) = true := by simpa using hz0
        go_wp2_with fail
        with_reducible refine (HCM.out _ HB.out).mono ?_
        rintro e w1 ⟨rfl, rfl⟩
        go_wp2_with fail
        go_quiet (fail)
        have HB2 := Lib.hid (below_drewN HB.out nq)
        have HK : Hid ((U.drewN nq).cell? ⟨p, 0, none⟩ = some (.slice (some ⟨b, off, none⟩) 1 c)) := Lib.hid k0
        go_wp2_with fail
        go_roundw
        case rel => exact .inr ⟨rfl, hz0, HK.out, HB2.out⟩
        case measure => simp [intOf]
      · have t2 : decide (z ≤ 0) = false := by simpa using hz0
        go_wp2_with fail
        with_reducible refine (HCM.out _ HB.out).mono ?_
        rintro e w1 ⟨rfl, rfl⟩
        go_wp2_with fail
        go_quiet (fail)
        have HB2 := Lib.hid (below_drewN HB.out nq)
        have HF : Hid (RetT w (decide (z ≤ 0)) (.returned (.bool false)) (U.drewN nq)) := Lib.hid ⟨by rw [t2], HB2.out⟩
        go_wp2_with fail
        go_ret
        exact HF.out
    · have HT2 := Lib.hid (HT.out wr hb)
      have HBB := Lib.hid hb
      have HF : Hid (∀ wx, Below wr.heap.size wr wx → RetT w (decide (z ≤ 0)) (.returned (.bool true)) wx) := Lib.hid (fun wx hx => ⟨by simp [hz0], belowT' HBB.out hx⟩)
      clear hb
      go_wp2_with fail
      with_reducible refine HT2.out.mono ?_
      intro e w2 hq
      obtain ⟨h1, b2⟩ := RetT.outD hq
      subst h1
      have HF2 := Lib.hid (HF.out w2 b2)
      clear hq b2
      go_wp2_with fail
      go_ret
      exact HF2.out
end Go.Proofs.Ytlnpicfkcahdbaa
