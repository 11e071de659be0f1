/- Manifest: without nothing; own. No condition but sizes. -/
import Derived.Test.YtlnpicfkcahdbaaMfC
namespace Go.Proofs.Ytlnpicfkcahdbaa
open Go Go.RowKit Go.Maps Go.ChangeMaps

/-- A row of files that the call has made; whose bytes they hold isn't said. -/
def RetMf (w : World) (fs : List Mf) (e : Ending) (w' : World) : Prop := ∃ L n c vs, e = .returned (.slice L n c) ∧ OwnMf w' w.heap.size L n c vs ∧ MfVs w fs vs ∧ fs.length = n ∧ Below w.heap.size w w'
theorem RetMf.out {w : World} {fs : List Mf} {e : Ending} {w' : World} (h : RetMf w fs e w') : ∃ L n c vs, e = .returned (.slice L n c) ∧ OwnMf w' w.heap.size L n c vs ∧ MfVs w fs vs ∧ fs.length = n ∧ Below w.heap.size w w' := h
theorem has_none (k : Lit) : Maps.has (mfD []) k = false := by
  unfold mfD mfK
  rw [has_setOf]
  · rfl
  · intro x hx
    simp at hx
set_option maxRecDepth 100000 in
set_option maxHeartbeats 8000000 in
theorem without0_any {w : World} {A B : Option Addr} {n c d : Nat} {fs : List Mf} (h : RMf w A n fs) (hn : n ≤ 1073741824) : Calls Try.prog 111 #[.slice A n c, .slice B 0 d] w (RetMf w fs) := by
  have hmm := @run_makeMap Try.prog
  have HL := Lib.hid h.len
  have HH := Lib.hid h
  obtain ⟨M, hM⟩ : ∃ M, M = w.alloc (.map #[] 0) := ⟨_, rfl⟩
  obtain ⟨p, hp⟩ : ∃ p, p = w.heap.size := ⟨_, rfl⟩
  have HM0 : Hid (SetAt M p 0 (mfD [])) := Lib.hid (by rw [hM, hp]; exact World.ownsMap_made _ _ _ _)
  have bM : Below w.heap.size w M := by rw [hM]; exact (Below.refl _ _).alloc (Nat.le_refl _) _
  have HBM := Lib.hid bM
  have HM := Lib.hid hM
  have HP := Lib.hid hp
  clear h hM bM hp
  go_enter Try.func111, Try.ntmps111
  go_wp2_with fail
  rw [← HM.out, ← HP.out]
  go_loopw [16] (fun s wr => s = .int .i64 0 ∧ wr = M) (fun _ _ => 0)
  case atStart => exact ⟨rfl, rfl⟩
  case round =>
    obtain ⟨rfl, hwM⟩ := hrel
    rw [hwM]
    clear hwM wr
    go_wp2_with fail
    go_loopw [8, 26] (fun s8 vk wr => ∃ (k d : Nat) (L : Option Addr), vk = .int .i64 k ∧ s8 = .slice L k d ∧ k ≤ n ∧ ∃ vs, OwnMf wr M.heap.size L k d vs ∧ MfVs w (fs.take k) vs ∧ Below M.heap.size M wr) (fun _ vk _ => n - (intOf vk).toNat)
    case atStart => exact ⟨0, 0, none, rfl, rfl, Nat.zero_le _, [], OwnMf.nil _ _, rfl, Below.refl _ _⟩
    case round =>
      obtain ⟨k, d2, L, rfl, rfl, hk, vs, hO, hV, hb⟩ := hrel
      have hbw : Below w.heap.size w wr := belowT' HBM.out hb
      have hR := HH.out
      have HBW := Lib.hid hbw
      have HB := Lib.hid hb
      have HO := Lib.hid hO
      have HV := Lib.hid hV
      clear hb hO hV
      by_cases hlt : k < n
      · obtain ⟨b, off, hAb, hbl⟩ := hR.pos (by omega)
        subst hAb
        obtain ⟨x, v0, v1, v2, v3, v4, v5, hx, m0, m1, m2, m3, m4, m5, hev⟩ := hR.at_ k hlt
        rw [← hbw.cell hbl] at m0 m1 m2 m3 m4 m5
        have HE := Lib.hid hev
        obtain ⟨K, kn, kc, T, tn, tc, rfl, rfl, rfl, rfl, rfl, rfl, _, _, _, _, _, _, hu⟩ := hev.parts
        obtain ⟨U, hU⟩ : ∃ U, U = wr.alloc (.cells #[.slice K kn kc, .slice T tn tc, .int .i64 x.cnt, .int .i64 x.sz, .int .u64 (x.num : Int), .int .i64 x.lv] 113) := ⟨_, rfl⟩
        obtain ⟨g0, hg0⟩ : ∃ g0, g0 = wr.heap.size := ⟨_, rfl⟩
        have bU : Below wr.heap.size wr U := by rw [hU]; exact (Below.refl _ _).alloc (Nat.le_refl _) _
        have zU : Cl U g0 #[.slice K kn kc, .slice T tn tc, .int .i64 x.cnt, .int .i64 x.sz, .int .u64 (x.num : Int), .int .i64 x.lv] 113 := by rw [hU, hg0]; exact Cl.new _ _ _
        have q4 : U.cell? ⟨g0, 4, none⟩ = some (.int .u64 (x.num : Int)) := zU.cell 4
        have bV : Below U.heap.size U (U.alloc (.cells #[] 230)) := (Below.refl _ _).alloc (Nat.le_refl _) _
        have zV := zU.below bV
        have y0 := zV.cell 0
        have y1 := zV.cell 1
        have y2 := zV.cell 2
        have y3 := zV.cell 3
        have y4 := zV.cell 4
        have y5 := zV.cell 5
        have hkey : keyOf Try.prog 28 (.int .u64 (x.num : Int)) = some (.int .u64 (x.num : Int)) := keyOf_int_mk Try.underlying28 (u64_wf hu)
        have hC : SetAt U p 0 (mfD []) := SetAt.below (SetAt.below HM0.out HB.out) bU
        have HBU := Lib.hid (belowT' HB.out (belowT' bU bV))
        have HOV : Hid (OwnMf (U.alloc (.cells #[] 230)) M.heap.size L k d2 vs) := Lib.hid ((HO.out.below bU).below bV)
        have HNW : Hid (∀ cs, Cl ((U.alloc (.cells #[] 230)).alloc (.cells cs 113)) (U.heap.size + 1) cs 113) := Lib.hid (fun cs => by have := Cl.new (U.alloc (.cells #[] 230)) cs 113; simpa using this)
        have HUE := Lib.hid hU
        have HGE := Lib.hid hg0
        have HX := Lib.hid hx
        clear hx hev hR bU hU hg0 zU zV bV
        go_upto_region 11 with (fail)
        rw [← HUE.out, ← HGE.out]
        clear m0 m1 m2 m3 m4 m5
        go_wp2_with (first | (at_lookup; refine wpList_lookup_own_unit _ rfl _ _ 229 rfl 28 230 lawU Try.underlying229 (zeroU _) p 0 (mfD []) rfl hC _ _ rfl hkey ?_; rw [has_none]) | (at_builtin; refine wpList_app6 _ rfl (Operand.tmp 39) (Operand.tmp 41) 114 rfl M.heap.size _ 80 Try.underlying114 info_mf rfl L k d2 vs (by first | rfl | (simp [Act.eval]; done)) (HOV.out.below ((Below.refl _ _).alloc (Nat.le_refl _) _)) ⟨U.heap.size + 1, 0, none⟩ 1 1 [.slice K kn kc, .slice T tn tc, .int .i64 x.cnt, .int .i64 x.sz, .int .u64 (x.num : Int), .int .i64 x.lv] (by first | rfl | (simp [Act.eval]; done)) (rdv_of_cl6 (HNW.out _)) (by omega) (by simp [Value.oneCell']) (by unfold maxLen; omega) (by omega) ?_ ?_))
        · have h1 := HBU.out.size; simp at h1 ⊢; omega
        intro L2 d3 w6 hL hg _
        have HO2 := Lib.hid hL
        have HV2 : Hid (MfVs w (fs.take (k + 1)) (vs ++ [.slice K kn kc, .slice T tn tc, .int .i64 x.cnt, .int .i64 x.sz, .int .u64 (x.num : Int), .int .i64 x.lv])) := Lib.hid (by
          rw [List.take_add_one, HX.out]
          exact HV.out.app (MfVs.one HE.out))
        have HB2 : Hid (Below M.heap.size M w6) := Lib.hid ((HBU.out.alloc HBU.out.size _).grown hg (by have h1 := HBU.out.size; simp at h1 ⊢; omega) (fun j hj => (HOV.out.lt j hj).1))
        clear hL hg
        go_wp2_with fail
        go_roundw
        case rel => exact ⟨k + 1, d3, L2, by go_num, rfl, by omega, _, HO2.out, HV2.out, HB2.out⟩
        case measure => simp [intOf]; omega
      · obtain rfl : k = n := by omega
        have hV := HV.out
        rw [List.take_of_length_le (by rw [HL.out]; exact Nat.le_refl _)] at hV
        have HF : Hid (RetMf w fs (.returned (.slice L k d2)) wr) := Lib.hid ⟨L, k, d2, vs, rfl, HO.out.mono HBM.out.size, hV, HL.out, HBW.out⟩
        clear hV hR
        go_wp2_with fail
        go_ret
        exact HF.out
end Go.Proofs.Ytlnpicfkcahdbaa
