/- CrcSums: for every list of lists that holds at most 1048576 values, and every byte, the call returns true, and what was there stands. -/
import Derived.Test.YtpdcooelaebddaaAwake3
import Derived.Deep.RegionHeld3
namespace Go.Proofs.Ytpdcooelaebddaa
open Go Go.RowKit

theorem flat_len (xss : List (List UInt8)) : xss.flatten.length ≤ tot xss := by
  induction xss with
  | nil => simp [tot]
  | cons x r ih => simp only [List.flatten_cons, List.length_append, tot]; omega

set_option maxRecDepth 100000 in
set_option maxHeartbeats 4000000 in
theorem crcSums_row (A : Option Addr) (la ca : Nat) (xss : List (List UInt8)) (n : Nat) (w : World) (hx : RdL w A la xss) (hxt : tot xss ≤ 1048576) (hn : n < 256) :
    Calls Try.prog 3 #[.slice A la ca, .int .u8 n] w (RetT w true) := by
  have ht1 : tot xss ≤ 268435456 := by omega
  have ht2 : tot xss ≤ 1099511627776 := by omega
  have hfl := flat_len xss
  go_enter Try.func3, Try.ntmps3
  go_wp2_with fail
  refine (awake3_any _).mono ?_
  rintro e w1 ⟨rfl, hb1⟩
  go_wp2_with fail
  refine (Table_any _).mono ?_
  rintro e w2 ⟨rfl, hb2⟩
  have hb2 := hb1.trans (hb2.mono hb1.size)
  have hg2 := hb2.size
  obtain ⟨g, hg⟩ : ∃ g, g = w2.heap.size := ⟨_, rfl⟩
  have h0 : (w2.alloc (.cells (tabA 0) 25)).heap[w2.heap.size]? = some (.cells (tabA 0) 25 (0, 0)) := heap_alloc_new _ _
  have H0 := Lib.hid h0
  have HG := Lib.hid hg
  clear h0 hg
  go_wp2_with (first | (refine Great.wpList_allocTo rfl _ rfl _ _ (run_alloc_tab _ _ _ rfl) ?_) | (refine wpList_store_row rfl _ _ _ rfl w2.heap.size (tabA 256) rfl rfl 25 (tabA 0) H0.out info_tab (by rw [tabA_size, tabA_size]) tabA_cells ?_))
  have hT : Tg w w.heap.size g (((w2.alloc (.cells (tabA 0) 25)).setRow w2.heap.size (tabA 256))) := by
    rw [HG.out]
    exact ⟨setRow_heap _ _ _ _ _ _ H0.out, below_setRow (hb2.alloc hg2 _) hg2 _⟩
  have HT := Lib.hid hT
  rw [← HG.out] at HT ⊢
  obtain ⟨W, hW⟩ : ∃ W, W = (w2.alloc (.cells (tabA 0) 25)).setRow g (tabA 256) := ⟨_, rfl⟩
  rw [← hW] at HT ⊢
  clear hT hW H0 hb1 hb2 hg2
  have hS : Cel w ⟨g, n, none⟩ (.int .u32 (stps 8 n : Int)) W := ⟨HT.out.cell n hn, HT.out.2⟩
  clear HT
  have i0 : (0 : Int) ≤ (n : Int) := by omega
  have i1 : (n : Int) < 256 := by omega
  obtain ⟨T, hT⟩ : ∃ T : Nat, T = stps 8 n := ⟨_, rfl⟩
  rw [← hT] at hS
  have HT := Lib.hid hT
  clear hT
  go_region_held3 (fun w' => w'.cell? ⟨g, n, none⟩ = some (.int .u32 (T : Int)) ∧ Below w.heap.size w w') (first | assumption | exact hS | exact ⟨hS.1, hS.2.drew⟩ | exact hS12)
    (first
      | (go_at_call 15; refine (Copies_any A la ca xss _ (hx.below (hS.2.drew)) ht1).mono ?_; rintro e w8 ⟨A8, l8, c8, rfl, o8, hb8⟩; have hS8 := Cel.made (w := W.drew) (show Cel w ⟨g, n, none⟩ (.int .u32 (T : Int)) W.drew from ⟨hS.1, hS.2.drew⟩) hb8)
      | (go_at_call 14; refine (Sum_any A8 l8 c8 xss _ o8.rd ht2).mono ?_; rintro e w9 ⟨rfl, hb9⟩; have hS9 := Cel.made hS8 hb9)
      | (go_at_call 17; refine (join3_any A la ca xss _ (hx.below hS9.2) ht2).mono ?_; rintro e w10 ⟨A10, l10, c10, rfl, o10, hb10⟩; have hS10 := Cel.made hS9 hb10)
      | (go_at_call 16; refine (refSum_any A10 l10 c10 xss.flatten _ o10.rd (by have := o10.len; omega)).mono ?_; rintro e w11 ⟨rfl, q11, rfl⟩; have hS11 : (w10.drewN q11).cell? ⟨g, n, none⟩ = some (.int .u32 (T : Int)) ∧ Below w.heap.size w (w10.drewN q11) := ⟨hS10.1, below_drewN hS10.2 q11⟩)
      | (go_at_call 18; refine (refOne_any n _ hn).mono ?_; rintro e w12 ⟨rfl, q12, rfl⟩; rw [← HT.out]; have hS12 : (w10.drewN (q11 + q12)).cell? ⟨g, n, none⟩ = some (.int .u32 (T : Int)) ∧ Below w.heap.size w (w10.drewN (q11 + q12)) := ⟨hS10.1, below_drewN hS10.2 _⟩))
  go_wp2
  go_ret
  exact ⟨rfl, hS12.2⟩

theorem crcSums_all (A : Option Addr) (la ca : Nat) (xss : List (List UInt8)) (z : Int) (w : World) (hx : RdL w A la xss) (hxt : tot xss ≤ 1048576) (hz : (Lit.int .u8 z).wf = true) :
    Calls Try.prog 3 #[.slice A la ca, .int .u8 z] w (RetT w true) := by
  have h : 0 ≤ z ∧ z ≤ 255 := by simpa [Lit.wf, IntKind.min, IntKind.max, IntKind.signed, IntKind.bits] using hz
  obtain ⟨n, rfl⟩ : ∃ n : Nat, z = n := ⟨z.toNat, by omega⟩
  exact crcSums_row A la ca xss n w hx hxt (by omega)
end Go.Proofs.Ytpdcooelaebddaa
