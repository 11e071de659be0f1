/- Manifest: encodeFile. No condition but sizes. -/
import Derived.Test.YtlnpicfkcahdbaaMfG
import Derived.Test.YtlnpicfkcahdbaaFrame
import Derived.Test.YtlnpicfkcahdbaaOrdT
import Derived.Test.YtlnpicfkcahdbaaPut
namespace Go.Proofs.Ytlnpicfkcahdbaa
open Go Go.RowKit

def encNs (ns : List Nat) : List UInt8 := ns.flatMap putU
theorem encNs_snoc (ns : List Nat) (n : Nat) : encNs (ns ++ [n]) = encNs ns ++ putU n := by simp [encNs]
theorem encNs_len : ∀ (ns : List Nat), (∀ n ∈ ns, n < B64) → (encNs ns).length ≤ 10 * ns.length
  | [], _ => by simp [encNs]
  | n :: ns, h => by
    have h1 := encNs_len ns (fun m hm => h m (by simp [hm]))
    have h2 := putU_len64 n (h n (by simp))
    simp only [encNs, List.flatMap_cons, List.length_append, List.length_cons] at h1 ⊢
    omega
/-- A file's bytes. -/
def encF (ns : List Nat) (x : Mf) : List UInt8 := encNs ns ++ (ordT x.lo ++ ordT x.hi)
/-- The numbers ahead of it: as a file has them where three of them are 0. -/
def nsF (x : Mf) : List Nat := [x.num, 0, 0, 0]
set_option maxRecDepth 100000 in
set_option maxHeartbeats 8000000 in
theorem encodeFile_any {w : World} {x : Mf} {v0 v1 v2 v3 v4 v5 : Value} (h : MfV w x v0 v1 v2 v3 v4 v5) (hc : x.cnt = 0) (hs : x.sz = 0) (hl : x.lv = 0) (h1 : x.lo.length ≤ 16777216) (h2 : x.hi.length ≤ 16777216) : Calls Try.prog 117 #[.agg #[v0, v1, v2, v3, v4, v5]] w (Made w.heap.size w (encF (nsF x) x)) := by
  obtain ⟨K, kn, kc, T, tn, tc, rfl, rfl, rfl, rfl, rfl, rfl, rk, rt, _, _, _, _, hu⟩ := h.parts
  rw [hc, hs, hl]
  obtain ⟨W, hW⟩ : ∃ W, W = w.alloc (.cells #[.slice K kn kc, .slice T tn tc, .int .i64 0, .int .i64 0, .int .u64 (x.num : Int), .int .i64 0] 113) := ⟨_, rfl⟩
  obtain ⟨p, hp⟩ : ∃ p, p = w.heap.size := ⟨_, rfl⟩
  have bW : Below w.heap.size w W := by rw [hW]; exact (Below.refl _ _).alloc (Nat.le_refl _) _
  have zW : Cl W p #[.slice K kn kc, .slice T tn tc, .int .i64 0, .int .i64 0, .int .u64 (x.num : Int), .int .i64 0] 113 := by rw [hW, hp]; exact Cl.new _ _ _
  obtain ⟨V, hV⟩ : ∃ V, V = W.alloc (.cells #[.int .u64 (x.num : Int), .int .u64 0, .int .u64 0, .int .u64 0] 28) := ⟨_, rfl⟩
  obtain ⟨q, hq⟩ : ∃ q, q = W.heap.size := ⟨_, rfl⟩
  have bV : Below W.heap.size W V := by rw [hV]; exact (Below.refl _ _).alloc (Nat.le_refl _) _
  have zV : Cl V q #[.int .u64 (x.num : Int), .int .u64 0, .int .u64 0, .int .u64 0] 28 := by rw [hV, hq]; exact Cl.new _ _ _
  have HQE : Hid (∀ k, k < 4 → ∃ n : Nat, (nsF x)[k]? = some n ∧ n < B64 ∧ ∀ wx, Below V.heap.size V wx → wx.cell? ⟨q, k, none⟩ = some (.int .u64 (n : Int))) := Lib.hid (fun k hk => by
    have hz : ∀ wx, Below V.heap.size V wx → Cl wx q #[.int .u64 (x.num : Int), .int .u64 0, .int .u64 0, .int .u64 0] 28 := fun wx hb => zV.below hb
    rcases k with _ | _ | _ | _ | k
    · exact ⟨x.num, rfl, by unfold U64 at hu; unfold B64; omega, fun wx hb => (hz wx hb).cell 0⟩
    · exact ⟨0, rfl, by unfold B64; omega, fun wx hb => (hz wx hb).cell 1⟩
    · exact ⟨0, rfl, by unfold B64; omega, fun wx hb => (hz wx hb).cell 2⟩
    · exact ⟨0, rfl, by unfold B64; omega, fun wx hb => (hz wx hb).cell 3⟩
    · omega)
  have HNL : Hid (∀ k, (encNs ((nsF x).take k)).length ≤ 40) := Lib.hid (fun k => by
    have h3 := encNs_len ((nsF x).take k) (fun n hn => by
      have h4 := List.mem_of_mem_take hn
      simp only [nsF, List.mem_cons, List.not_mem_nil, or_false] at h4
      unfold U64 at hu; unfold B64
      rcases h4 with h4 | h4 | h4 | h4 <;> omega)
    have h5 : ((nsF x).take k).length ≤ 4 := by rw [List.length_take]; exact Nat.min_le_right _ _
    omega)
  have bwV := belowT' bW bV
  have HZ := Lib.hid (zW.below bV)
  have HRK := Lib.hid (rk.below bwV)
  have HRT := Lib.hid (rt.below bwV)
  have HW := Lib.hid hW
  have HP := Lib.hid hp
  have HV := Lib.hid hV
  have HQ := Lib.hid hq
  have HB := Lib.hid bwV
  have HKL := Lib.hid rk.len
  have HTL := Lib.hid rt.len
  have HS1 := Lib.hid h1
  have HS2 := Lib.hid h2
  have y0 := zW.cell 0
  have y1 := zW.cell 1
  have y2 := zW.cell 2
  have y3 := zW.cell 3
  have y4 := zW.cell 4
  have y5 := zW.cell 5
  obtain ⟨nm, hnm⟩ : ∃ n, n = x.num := ⟨_, rfl⟩
  rw [← hnm] at y4 HW HV
  have HNM := Lib.hid hnm
  rw [← hnm]
  clear h rk rt hu hW hp bW zW hV hq bV zV bwV h1 h2 hc hs hl hnm
  go_enter Try.func117, Try.ntmps117
  go_upto_region 2 with (fail)
  rw [← HW.out, ← HP.out]
  go_wp2_with fail
  rw [← HV.out, ← HQ.out]
  go_loopw [3, 21] (fun s3 s21 wr => ∃ (k n c : Nat) (L : Option Addr), s21 = .int .i64 k ∧ k ≤ 4 ∧ s3 = .slice L n c ∧ Own 5 wr V.heap.size L n c (encNs ((nsF x).take k)) ∧ Below V.heap.size V wr) (fun _ s _ => 4 - (intOf s).toNat)
  case atStart => exact ⟨0, 0, 0, none, rfl, by omega, rfl, Own.nil _ _ _, Below.refl _ _⟩
  case round =>
    obtain ⟨k, n, c, L, rfl, hk, rfl, hO, hb⟩ := hrel
    have HO := Lib.hid hO
    have HBB := Lib.hid hb
    by_cases hlt : k < 4
    · obtain ⟨m, hm, hmb, hmc⟩ := HQE.out k hlt
      have m0 := hmc wr hb
      have HM := Lib.hid hm
      have HPU := Lib.hid (PutU_any m wr hmb)
      clear hO hb hm hmb hmc
      go_wp2_with fail
      with_reducible refine HPU.out.mono ?_
      intro e w2 hq
      obtain ⟨C, cn, cc, h1, oC, bC⟩ := Made.outM hq
      subst h1
      have HO2 := Lib.hid (HO.out.below bC)
      have hnl : n ≤ 40 := by rw [← HO.out.len]; exact HNL.out k
      have hcl : cn ≤ 40 := by
        have h3 := HNL.out (k + 1)
        rw [List.take_add_one, HM.out] at h3
        change (encNs (_ ++ [m])).length ≤ 40 at h3
        rw [encNs_snoc, List.length_append, oC.len] at h3
        omega
      have HC := Lib.hid oC
      have HB2 := Lib.hid (belowT' HBB.out bC)
      clear hq m0 oC bC
      go_wp2_with (at_builtin; refine wpList_app w2 rfl (.tmp 25) (.tmp 27) 22 rfl V.heap.size 5 Try.underlying22 info_u8 L n c _ rfl HO2.out C cn cc _ rfl HC.out.rd ?_ ?_ ?_)
      · omega
      · exact HB2.out.size
      intro L2 c2 w3 hO3 hb3
      obtain ⟨n2, hn2⟩ : ∃ n2, n2 = n + cn := ⟨_, rfl⟩
      rw [← hn2] at hO3 ⊢
      have HO3 : Hid (Own 5 w3 V.heap.size L2 n2 c2 (encNs ((nsF x).take (k + 1)))) := Lib.hid (by
        rw [List.take_add_one, HM.out]
        change Own _ _ _ _ _ _ (encNs (_ ++ [m]))
        rw [encNs_snoc]; exact hO3)
      have HB3 := Lib.hid (HB2.out.trans hb3)
      clear hO3 hb3 hn2
      go_wp2_with fail
      go_roundw
      case rel => exact ⟨k + 1, n2, c2, L2, by go_num, by omega, rfl, HO3.out, HB3.out⟩
      case measure => simp [intOf]; omega
    · obtain rfl : k = 4 := by omega
      have HO4 : Hid (Own 5 wr V.heap.size L n c (encNs (nsF x))) := Lib.hid hO
      have hnl : n ≤ 40 := by rw [← hO.len]; exact HNL.out 4
      have z := HZ.out.below hb
      have x0 := z.cell 0
      have x1 := z.cell 1
      have HOT := Lib.hid (OrdText_any K kn kc x.lo wr (HRK.out.below hb) (by have := HKL.out; have := HS1.out; omega))
      clear hO hb z
      go_wp2_with fail
      with_reducible refine HOT.out.mono ?_
      intro e w2 hq
      obtain ⟨C, cn, cc, h1, oC, bC⟩ := Made.outM hq
      subst h1
      have HO5 := Lib.hid (HO4.out.below bC)
      have hcl : cn ≤ 33554434 := by have := oC.len; have := ordT_len x.lo; have := HS1.out; omega
      have HC := Lib.hid oC
      have HB2 := Lib.hid (belowT' HBB.out bC)
      clear hq x0 x1 oC bC
      go_wp2_with (at_builtin; refine wpList_app w2 rfl (.tmp 30) (.tmp 34) 22 rfl V.heap.size 5 Try.underlying22 info_u8 L n c _ rfl HO5.out C cn cc _ rfl HC.out.rd ?_ ?_ ?_)
      · omega
      · exact HB2.out.size
      intro L2 c2 w3 hO3 hb3
      obtain ⟨n2, hn2⟩ : ∃ n2, n2 = n + cn := ⟨_, rfl⟩
      rw [← hn2] at hO3 ⊢
      have hn2l : n2 ≤ 33554474 := by omega
      have HO3 := Lib.hid hO3
      have hB3 := HB2.out.trans hb3
      have HB3 := Lib.hid hB3
      have z := HZ.out.below hB3
      have x1 := z.cell 1
      have HOT2 := Lib.hid (OrdText_any T tn tc x.hi w3 (HRT.out.below hB3) (by have := HTL.out; have := HS2.out; omega))
      clear hO3 hb3 hn2 hB3 z
      go_wp2_with fail
      with_reducible refine HOT2.out.mono ?_
      intro e w4 hq
      obtain ⟨D, dn, dc, h1, oD, bD⟩ := Made.outM hq
      subst h1
      have HO6 := Lib.hid (HO3.out.below bD)
      have hdl : dn ≤ 33554434 := by have := oD.len; have := ordT_len x.hi; have := HS2.out; omega
      have HD := Lib.hid oD
      have HB4 := Lib.hid (belowT' HB3.out bD)
      clear hq x1 oD bD
      go_wp2_with (at_builtin; refine wpList_app w4 rfl (.tmp 36) (.tmp 40) 22 rfl V.heap.size 5 Try.underlying22 info_u8 L2 n2 c2 _ rfl HO6.out D dn dc _ rfl HD.out.rd ?_ ?_ ?_)
      · omega
      · exact HB4.out.size
      intro L3 c3 w5 hO7 hb5
      obtain ⟨n3, hn3⟩ : ∃ n3, n3 = n2 + dn := ⟨_, rfl⟩
      rw [← hn3] at hO7 ⊢
      have HF : Hid (Made w.heap.size w (encF (nsF x) x) (.returned (.slice L3 n3 c3)) w5) := Lib.hid ⟨L3, n3, c3, rfl, Own.mono hO7 HB.out.size, HB.out.trans ((HB4.out.trans hb5).mono HB.out.size)⟩
      clear hO7 hb5 hn3
      go_wp2_with fail
      go_ret
      exact HF.out
end Go.Proofs.Ytlnpicfkcahdbaa
