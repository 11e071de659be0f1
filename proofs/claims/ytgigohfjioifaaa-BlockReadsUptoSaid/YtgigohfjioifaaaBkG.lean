/- slices.Grow of nil, slices.Concat of lists of bytes. No condition but sizes. -/
import Derived.Test.YtgigohfjioifaaaBkA
import Derived.Test.YtgigohfjioifaaaCrcV
import Derived.Lib.AppendZeros
namespace Go.Proofs.Ytgigohfjioifaaa
open Go Go.RowKit

set_option maxRecDepth 100000 in
set_option maxHeartbeats 2000000 in
theorem growNil_any (n : Nat) (w : World) (hn : n ≤ 1099511627776) : Calls Try.prog 135 #[.slice none 0 0, .int .i64 (n : Int)] w fun e w' => ∃ A c, e = .returned (.slice A 0 c) ∧ Own 5 w' w.heap.size A 0 c [] ∧ Below w.heap.size w w' := by
  obtain ⟨i0, hi0, z1, z2, z3⟩ := info_parts info_u8
  by_cases h0 : n = 0
  · subst h0
    go_enter Try.func135, Try.ntmps135
    go_wp2_with fail
    go_ret
    exact ⟨none, 0, rfl, Own.nil _ _ _, Below.refl _ _⟩
  · have hpos : 0 < n := by omega
    have hpi : ¬ ((n : Int) ≤ 0) := by omega
    have hpi2 : (0 : Int) < (n : Int) := by omega
    have hap := Lib.run_append_nil_zeros (P := Try.prog) w 22 3 22 5 i0 (.int .u8 0) .i64 .i64 Try.underlying22 Try.underlying3 hi0 z1 n hpos (by rw [z2]; omega) (by omega) (by rw [z3]; omega)
    have hcap := grownCap_ge w n 0 5
    have hcm := grownCap_le_maxLen w n 0 5 (by unfold maxLen; omega)
    obtain ⟨cap, hcp⟩ : ∃ cap, cap = grownCap w n 0 5 := ⟨_, rfl⟩
    rw [← hcp] at hap hcap hcm
    obtain ⟨cells, hce⟩ : ∃ cells, cells = Builtin.zeroCells (Value.int .u8 0).cells n ++ Builtin.zeroCells (Value.int .u8 0).cells (cap - n) := ⟨_, rfl⟩
    rw [← hce] at hap
    have hcs : cells.size = cap := by
      rw [hce]
      simp [Builtin.zeroCells, Value.cells]
      omega
    have HAP := Lib.hid hap
    have HCS := Lib.hid hcs
    have hsl : ∀ w, (Instr.slice 22 (.slice (some ⟨w.heap.size, 0, none⟩) n cap) none (some (.int .i64 0)) none).run Try.prog w = .ok (.slice (some ⟨w.heap.size, 0, none⟩) 0 cap) w := fun w =>
      cut_h (m := 0) Try.underlying22 elem_bytes size_u8 (some ⟨w.heap.size, 0, none⟩) (by omega) w
    clear hap hcs hce hcp
    go_enter Try.func135, Try.ntmps135
    go_wp2_with (at_builtin; refine Lib.wpList_append_run _ rfl _ _ _ _ rfl _ _ rfl rfl _ _ HAP.out ?_)
    go_wp2_with fail
    go_ret
    refine ⟨_, cap, rfl, ⟨rfl, .inr ⟨w.heap.size, cap, cells, rfl, Nat.le_refl _, ?_, Nat.zero_le _, hcm, by rw [HCS.out, Nat.mul_one], by simp⟩⟩, ?_⟩
    · have := heap_alloc_new w.drew (.cells cells 5)
      exact this
    · exact (Below.refl _ _).drew.alloc (Nat.le_refl _) _
set_option maxRecDepth 100000 in
set_option maxHeartbeats 4000000 in
theorem Concat_any (A : Option Addr) (n c : Nat) (xss : List (List UInt8)) (w : World) (hx : RdL w A n xss) (ht : tot xss ≤ 268435456) :
    Calls Try.prog 113 #[.slice A n c] w (Made w.heap.size w xss.flatten) := by
  have HXL := Lib.hid hx.len
  have hnl := tot_len xss
  have hnn : n ≤ 268435456 := by have := hx.len; omega
  have hfl := flat_len xss
  have HT := Lib.hid ht
  have HX := Lib.hid hx
  have HFT : Hid (∀ k, (xss.take k).flatten.length ≤ 268435456) := Lib.hid (fun k => by have := flat_take_le xss k; omega)
  clear ht hx hnl hfl
  go_enter Try.func113, Try.ntmps113
  go_wp2_with fail
  go_loopw [3, 11] (fun s3 s11 wr => ∃ (k z : Nat), k ≤ n ∧ s11 = .int .i64 (k : Int) ∧ z = (xss.take k).flatten.length ∧ s3 = .int .i64 (z : Int) ∧ wr = w) (fun _ s _ => n - (intOf s).toNat)
  case atStart => exact ⟨0, 0, Nat.zero_le _, rfl, rfl, rfl, rfl⟩
  case round =>
    obtain ⟨k, z, hk, rfl, hz, rfl, rfl⟩ := hrel
    have hz2 : z ≤ 268435456 := by rw [hz]; exact HFT.out k
    have HZ := Lib.hid hz
    clear hz
    by_cases hlt : k < n
    · obtain ⟨b, off, hA, hbl, hel⟩ := HX.out.2 (by omega)
      subst hA
      obtain ⟨xs, hxs⟩ : ∃ xs, xss[k]? = some xs := ⟨_, List.getElem?_eq_getElem (by have := HXL.out; omega)⟩
      obtain ⟨v, hv, K, kn, kc, rfl, hrK, _⟩ := hel k xs hxs
      obtain ⟨z2, hz2'⟩ : ∃ z2, z2 = z + kn := ⟨_, rfl⟩
      have hzz : z2 = (xss.take (k + 1)).flatten.length := by rw [flat_snoc hxs, List.length_append, ← HZ.out, hrK.len, hz2']
      have hz3 : z2 ≤ 268435456 := by rw [hzz]; exact HFT.out (k + 1)
      have e1 : IntKind.i64.wrap ((z : Int) + (kn : Int)) = (z2 : Int) := by rw [IntWalk.i64_in _ (by omega)]; omega
      have hkn : kn ≤ 268435456 := by omega
      have HZZ := Lib.hid hzz
      have HZ2 := Lib.hid hz2'
      clear hel hxs hrK hzz hz2'
      go_wp2_with fail
      go_roundw
      case rel => exact ⟨k + 1, z2, by omega, by go_num, HZZ.out, by first | rfl | go_num | (rw [e1]), by first | trivial | rfl⟩
      case measure => simp [intOf]; omega
    · obtain rfl : k = n := by omega
      obtain ⟨w0, rfl⟩ : ∃ w0, w0 = wr := ⟨_, rfl⟩
      have HG := Lib.hid (growNil_any z w0 (by omega))
      go_wp2_with fail
      with_reducible refine HG.out.mono ?_
      rintro e w1 ⟨G, gc, rfl, oG, bG⟩
      have HOG := Lib.hid (And.intro oG bG)
      clear oG bG HG
      go_wp2_with fail
      go_loopw [6, 27] (fun s6 s27 wx => ∃ (j m d : Nat) (L : Option Addr), j ≤ k ∧ s27 = .int .i64 (j : Int) ∧ s6 = .slice L m d ∧ Own 5 wx w0.heap.size L m d (xss.take j).flatten ∧ Below w0.heap.size w0 wx) (fun _ s _ => k - (intOf s).toNat)
      case atStart => exact ⟨0, 0, gc, G, Nat.zero_le _, rfl, rfl, HOG.out.1, HOG.out.2⟩
      case round =>
        obtain ⟨j, m, d, L, hj, rfl, rfl, oL, bL⟩ := hrel
        have hml := oL.len
        have hm2 : m ≤ 268435456 := by have := HFT.out j; omega
        have hsz := bL.size
        by_cases hjk : j < k
        · obtain ⟨b, off, hA, hbl, hel⟩ := HX.out.2 (by omega)
          subst hA
          obtain ⟨xs, hxs⟩ : ∃ xs, xss[j]? = some xs := ⟨_, List.getElem?_eq_getElem (by have := HXL.out; omega)⟩
          obtain ⟨v, hv, K, kn, kc, rfl, hrK, _⟩ := hel j xs hxs
          have hv2 : wr.cell? ⟨b, off + j, none⟩ = some (.slice K kn kc) := (bL.cell (p := ⟨b, off + j, none⟩) hbl).trans hv
          have hrK2 := hrK.below bL
          have hkn : kn ≤ 268435456 := by
            have h1 := HFT.out (j + 1)
            rw [flat_snoc hxs, List.length_append, hrK.len] at h1
            omega
          have HFS := Lib.hid (flat_snoc hxs)
          have BL := Lib.hid bL
          clear hel hxs hrK hv bL hml
          go_wp2_with (at_builtin; refine wpList_app _ rfl _ _ 22 rfl w0.heap.size 5 Try.underlying22 info_u8 L m d _ rfl oL K kn kc xs rfl hrK2 ?_ ?_ ?_)
          · omega
          · exact hsz
          intro L2 d2 w3 o3 b3
          have H3 := Lib.hid (And.intro o3 (BL.out.trans b3))
          clear oL o3 b3 hrK2
          go_wp2_with fail
          go_roundw
          case rel => exact ⟨j + 1, m + kn, d2, L2, by omega, by go_num, rfl, by rw [HFS.out]; exact H3.out.1, H3.out.2⟩
          case measure => simp [intOf]; omega
        · obtain rfl : j = k := by omega
          rw [List.take_of_length_le (by have := HXL.out; omega)] at oL
          have HF := Lib.hid (And.intro oL bL)
          clear oL bL hml
          go_wp2_with fail
          go_ret
          exact ⟨L, m, d, rfl, HF.out.1, HF.out.2⟩
end Go.Proofs.Ytgigohfjioifaaa
