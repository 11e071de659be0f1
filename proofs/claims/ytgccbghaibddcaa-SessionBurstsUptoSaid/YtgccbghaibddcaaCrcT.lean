/- The program's Table holds at each byte what eight steps make of it. No condition. -/
import Derived.Test.YtgccbghaibddcaaCrc1
import Derived.Laws.Rows
import Derived.Great.Walk
import Derived.IntWalk
namespace Go.Proofs.Ytgccbghaibddcaa
open Go Go.RowKit

def tabF (m i : Nat) : Nat := if i < m then stps 8 i else 0
def tabL (m : Nat) : List Value := (List.range 256).map fun i => Value.int .u32 (tabF m i : Int)
def tabA (m : Nat) : Array Value := (tabL m).toArray
theorem tabA_size (m : Nat) : (tabA m).size = 256 := by simp [tabA, tabL]
theorem tabA_at (m i : Nat) (h : i < 256) : (tabA m)[i]? = some (.int .u32 (tabF m i : Int)) := by simp [tabA, tabL, h]
theorem tabA_zero : tabA 0 = Array.replicate 256 (.int .u32 0) := by
  apply Array.ext_getElem?
  intro i
  by_cases h : i < 256
  · rw [tabA_at 0 i h, Array.getElem?_replicate, if_pos h]; rfl
  · rw [Array.getElem?_eq_none (by rw [tabA_size]; omega), Array.getElem?_replicate, if_neg h]
theorem tabA_one : tabA 1 = tabA 0 := by
  apply Array.ext_getElem?
  intro i
  by_cases hi : i < 256
  · rw [tabA_at _ i hi, tabA_at _ i hi]
    unfold tabF
    by_cases h : i = 0
    · subst h; rfl
    · rw [if_neg (by omega), if_neg (by omega)]
  · rw [Array.getElem?_eq_none (by rw [tabA_size]; omega), Array.getElem?_eq_none (by rw [tabA_size]; omega)]
theorem tabA_set (m : Nat) (h : m < 256) : (tabA m).setIfInBounds m (.int .u32 (stps 8 m : Int)) = tabA (m + 1) := by
  apply Array.ext_getElem?
  intro i
  rw [Array.getElem?_setIfInBounds]
  by_cases hi : i < 256
  · rw [tabA_at _ i hi, tabA_at _ i hi, tabA_size, if_pos h]
    unfold tabF
    split
    · next e => subst e; rw [if_pos (by omega)]
    · by_cases h2 : i < m
      · rw [if_pos h2, if_pos (by omega)]
      · rw [if_neg h2, if_neg (by omega)]
  · rw [if_neg (by omega), Array.getElem?_eq_none (by rw [tabA_size]; omega), Array.getElem?_eq_none (by rw [tabA_size]; omega)]
theorem pow_add_xor {k low : Nat} (h : low < 2 ^ k) : stps 8 (2 ^ k + low) = stps 8 (2 ^ k) ^^^ stps 8 low := by
  rw [← stps_xor]
  congr 1
  apply Nat.eq_of_testBit_eq
  intro i
  have h1 := Nat.testBit_two_pow_mul_add (i := k) 1 h i
  rw [Nat.mul_one] at h1
  rw [h1, Nat.testBit_xor, Nat.testBit_two_pow]
  split
  · next hi => rw [show decide (k = i) = false by simp; omega, Bool.false_xor]
  · next hi =>
    rw [Nat.testBit_lt_two_pow (Nat.lt_of_lt_of_le h (Nat.pow_le_pow_right (by decide) (by omega))), Bool.xor_false]
    rw [show (1 : Nat) = 2 ^ 0 from rfl, Nat.testBit_two_pow]
    simp only [decide_eq_decide]
    omega

/-- 'It hands back the whole table; memory that was stands.' -/
def RetTab (w : World) (e : Ending) (w' : World) : Prop := e = .returned (.agg (tabA 256)) ∧ Below w.heap.size w w'

theorem run_alloc_tab (w : World) (ev : Operand → Value) (o : Oper) (ho : o.op = .alloc 211) : (execOp ev o).run Try.prog w = .ok (.value (.pointer (some ⟨w.heap.size, 0, none⟩))) (w.alloc (.cells (tabA 0) 211)) := by
  rw [tabA_zero]
  unfold execOp
  rw [ho]
  kernel_rfl

theorem info_tab : (Try.prog.info? 211).map (·.size) = some (tabA 256).size := by rw [tabA_size]; kernel_rfl
theorem tabA_cells : (tabA 256).all (·.oneCell') = true := by
  rw [Array.all_eq_true_iff_forall_mem]
  intro v hv
  simp only [tabA, tabL, List.mem_toArray, List.mem_map] at hv
  obtain ⟨i, _, rfl⟩ := hv
  rfl
theorem below_setRow {B : Nat} {w w' : World} (h : Below B w w') {g : Nat} (hg : B ≤ g) (cs : Array Value) : Below B w (w'.setRow g cs) :=
  ⟨h.os, h.tape, h.output, by rw [setRow_size]; exact h.size, fun b hb => (setRow_other w' g b cs (by omega)).trans (h.block b hb)⟩

/-- The two blocks of the call: the answer's, still zero, and the table's. -/
def Tb (w : World) (m : Nat) (wr : World) : Prop :=
  wr.heap[w.heap.size]? = some (.cells (tabA 0) 211 (0, 0)) ∧ wr.heap[w.heap.size + 1]? = some (.cells (tabA m) 211 (0, 0)) ∧ Below w.heap.size w wr
theorem Tb.drewN {w wr : World} {m : Nat} (h : Tb w m wr) (q : Nat) : Tb w m (wr.drewN q) := ⟨h.1, h.2.1, below_drewN h.2.2 q⟩
theorem Tb.cell {w wr : World} {m : Nat} (h : Tb w m wr) (i : Nat) (hi : i < 256) : wr.cell? ⟨w.heap.size + 1, i, none⟩ = some (.int .u32 (tabF m i : Int)) := by
  rw [cell_of_row wr _ i _ _ _ h.2.1, tabA_at m i hi]
theorem Tb.thaw {w wr : World} {m : Nat} (h : Tb w m wr) (i : Nat) : wr.frozen? ⟨w.heap.size + 1, i, none⟩ = false := frozen_of_row wr _ i _ _ h.2.1
theorem Tb.set {w wr : World} {m : Nat} (h : Tb w m wr) (hm : m < 256) (z : Int) (hz : z = (stps 8 m : Int)) : Tb w (m + 1) (wr.setCell ⟨w.heap.size + 1, m, none⟩ (.int .u32 z)) := by
  subst hz
  refine ⟨?_, ?_, h.2.2.setCell (by simp) _⟩
  · rw [heap_setCell_other _ _ _ _ (by simp)]
    exact h.1
  · rw [heap_setCell_same _ _ _ _ _ _ h.2.1, tabA_set m hm]

set_option maxRecDepth 100000 in
set_option maxHeartbeats 1000000 in
theorem Table_any (w : World) : Calls Try.prog 104 #[] w (RetTab w) := by
  go_enter Try.func104, Try.ntmps104
  go_wp2_with (refine Great.wpList_allocTo rfl _ rfl _ _ (run_alloc_tab _ _ _ rfl) ?_)
  have hT : Tb w 1 ((w.alloc (.cells (tabA 0) 211)).alloc (.cells (tabA 0) 211)) :=
    ⟨heap_alloc2_old _ _ _, by rw [tabA_one]; exact heap_alloc2_new _ _ _, ((Below.refl _ _).alloc (Nat.le_refl _) _).alloc (by simp) _⟩
  have HT := Lib.hid hT
  clear hT
  go_loopw [6] (fun vk wr => ∃ k : Nat, vk = .int .i64 k ∧ k ≤ 8 ∧ Tb w (2 ^ k) wr) (fun vk _ => 8 - (intOf vk).toNat)
  case atStart => exact ⟨0, rfl, by omega, HT.out⟩
  case round =>
    clear HT
    obtain ⟨k, rfl, hk, hT⟩ := hrel
    by_cases hlt : k < 8
    · have HT := Lib.hid hT
      clear hT
      obtain ⟨P, hP⟩ : ∃ P : Nat, P = 2 ^ k := ⟨_, rfl⟩
      have hP128 : P ≤ 128 := by rw [hP]; exact Nat.le_trans (Nat.pow_le_pow_right (by decide) (show k ≤ 7 by omega)) (by decide)
      have e1 : wrap64 ((2 : Int) ^ k) = (P : Int) := by
        have h1 : ((2 : Int) ^ k) = (P : Int) := by rw [hP]; exact (Int.natCast_pow 2 k).symm
        rw [h1]
        exact IntWalk.wrap64_in _ (by omega)
      have e2 : (P : Int) % 4294967296 = (P : Int) := by omega
      have hnx : Hid (P + P = 2 ^ (k + 1)) := Lib.hid (by rw [hP, Nat.pow_succ]; omega)
      have HP := Lib.hid hP
      rw [← hP] at HT
      clear hP
      go_wp2_with fail
      refine (eightSteps_any P _ (by omega)).mono ?_
      rintro e w2 ⟨rfl, q, rfl⟩
      rw [e1]
      have hT2 := HT.out.drewN q
      obtain ⟨W, hW⟩ : ∃ W, W = wr.drewN q := ⟨_, rfl⟩
      rw [← hW] at hT2 ⊢
      clear hW e1 e2 HT
      obtain ⟨L, hL⟩ : ∃ L : Nat, L = stps 8 P := ⟨_, rfl⟩
      have hL32 : L < 4294967296 := by rw [hL]; exact stps_lt 8 (by omega)
      rw [← hL]
      have HL := Lib.hid hL
      have HT2 := Lib.hid hT2
      clear hL hT2
      go_wp2
      go_loopw [15] (fun vj wt => ∃ j : Nat, vj = .int .i64 j ∧ j ≤ P ∧ Tb w (P + j) wt) (fun vj _ => P - (intOf vj).toNat)
      case atStart => exact ⟨0, rfl, by omega, HT2.out⟩
      case round =>
        clear HT2
        obtain ⟨j, rfl, hj, hT⟩ := hrel
        by_cases hjP : j < P
        · obtain ⟨S, hS⟩ : ∃ S : Nat, S = stps 8 j := ⟨_, rfl⟩
          have hS32 : S < 4294967296 := by rw [hS]; exact stps_lt 8 (by omega)
          have hc1 := hT.cell j (by omega)
          rw [show tabF (P + j) j = S by unfold tabF; rw [if_pos (by omega), hS]] at hc1
          have hc2 := hT.cell (P + j) (by omega)
          have hfz := hT.thaw (P + j)
          have hx : bits .xor .u32 (L : Int) (S : Int) = ((L ^^^ S : Nat) : Int) := u32_xor_nat L S hL32 hS32
          have hnew := hT.set (by omega) ((L ^^^ S : Nat) : Int) (by rw [HL.out, hS, HP.out]; rw [← HP.out]; rw [show P + j = 2 ^ k + j by rw [HP.out]]; rw [HP.out]; rw [pow_add_xor (by rw [← HP.out]; exact hjP)])
          have HN := Lib.hid hnew
          clear hnew hS hT
          go_wp2
          go_roundw
          case rel => exact ⟨j + 1, by go_num, by omega, HN.out⟩
          case measure => simp [intOf]; omega
        · obtain rfl : j = P := by omega
          have HN : Hid (Tb w (2 ^ (k + 1)) wr) := Lib.hid (by rw [← hnx.out]; exact hT)
          clear hT
          go_wp2
          go_roundw
          case rel => exact ⟨k + 1, by go_num, by omega, HN.out⟩
          case measure => simp [intOf]; omega
    · obtain rfl : k = 8 := by omega
      obtain ⟨h1, h2, hb⟩ := hT
      rw [show 2 ^ 8 = 256 from rfl] at h2
      have H2 := Lib.hid h2
      have H1 := Lib.hid h1
      clear h1 h2
      go_wp2_with (first | (refine wpList_load_row rfl _ _ rfl (w.heap.size + 1) rfl 211 (tabA 256) (0, 0) _ H2.out Try.underlying211 rfl info_tab ?_) | (refine wpList_store_row rfl _ _ _ rfl w.heap.size (tabA 256) rfl rfl 211 (tabA 0) H1.out info_tab (by rw [tabA_size, tabA_size]) tabA_cells ?_))
      exact bodyPost_ret (v := .agg (tabA 256)) (results_cell_row rfl _ _ w.heap.size 211 (tabA 256) (0, 0) _ rfl (setRow_heap _ _ _ _ _ _ H1.out) Try.underlying211 rfl info_tab) rfl ⟨rfl, below_setRow hb (Nat.le_refl _) _⟩

end Go.Proofs.Ytgccbghaibddcaa
