/- The reference's Put (a rune's bytes, the replacement's where there is none) and Low (a rune, folded). No condition. -/
import Derived.Test.YtdcboeeblbakhaaText1
import Derived.Laws.OwnMore
namespace Go.Proofs.Ytdcboeeblbakhaa
open Go Go.RowKit

/-- The rune that is written for a number. -/
def fixZ (z : Int) : Nat := if z < 0 ∨ 1114111 < z ∨ (55296 ≤ z ∧ z ≤ 57343) then 65533 else z.toNat
theorem fixZ_bad {z : Int} (h : z < 0 ∨ 1114111 < z ∨ (55296 ≤ z ∧ z ≤ 57343)) : fixZ z = 65533 := by rw [fixZ, if_pos h]
theorem fixZ_nat {c : Nat} (h : VR c) : fixZ (c : Int) = c := by
  obtain ⟨h1, h2⟩ := h
  rw [fixZ, if_neg (by omega)]
  simp

theorem Made_lit {w : World} {xs : List UInt8} {vs : Array Value} {n : Nat} (hv : vs = (xs.map cv).toArray) (hn : xs.length = n) (hm : n ≤ 4) :
    Made w.heap.size w xs (.returned (.slice (some ⟨w.heap.size, 0, none⟩) n n)) (w.alloc (.cells vs 5)) := by
  subst hv hn
  refine ⟨_, _, _, rfl, ⟨by simp, .inr ⟨w.heap.size, xs.length, _, rfl, Nat.le_refl _, heap_alloc_new w _, Nat.le_refl _, by unfold maxLen; omega, by simp, by simp [List.take_of_length_le]⟩⟩, (Below.refl _ _).alloc (Nat.le_refl _) _⟩

set_option maxRecDepth 100000 in
set_option maxHeartbeats 1000000 in
theorem Put_bad (r : Int) (w : World) (h : r < 0 ∨ 1114111 < r ∨ (55296 ≤ r ∧ r ≤ 57343)) (h1 : -9223372036854775808 ≤ r) (h2 : r ≤ 9223372036854775807) :
    Calls Try.prog 44 #[.int .i64 r] w (Made w.heap.size w (putR 65533)) := by
  rcases h with h | h | ⟨h, h'⟩
  all_goals
    go_enter Try.func44, Try.ntmps44
    go_wp2
    go_ret
    exact Made_lit rfl rfl (by omega)

set_option maxRecDepth 100000 in
set_option maxHeartbeats 1000000 in
theorem Put_any (c : Nat) (w : World) (hv : VR c) : Calls Try.prog 44 #[.int .i64 c] w (Made w.heap.size w (putR c)) := by
  obtain ⟨h1, h2⟩ := hv
  obtain ⟨r, hr⟩ : ∃ r : Int, r = (c : Int) := ⟨_, rfl⟩
  have hp1 : Hid (c < 128 → putR c = [bt c]) := Lib.hid putR_one
  have g0 : 0 ≤ r := by omega
  have g9 : r ≤ 1114111 := by omega
  have hc : r < 128 ∨ (128 ≤ r ∧ r < 2048) ∨ (2048 ≤ r ∧ r < 55296) ∨ (57343 < r ∧ r ≤ 65535) ∨ 65535 < r := by omega
  rw [← hr]
  have R := Lib.hid hr
  clear h1 h2 hr hp1
  rcases hc with h | ⟨h, h'⟩ | ⟨h, h'⟩ | ⟨h, h'⟩ | h
  · go_enter Try.func44, Try.ntmps44
    go_wp2
    go_ret
    have hr := R.out
    rw [putR_one (by omega)]
    refine Made_lit ?_ rfl (by omega)
    simp only [cv, List.map_cons, List.map_nil]
    rw [bt_nat _ (by omega)]
    simp [hr]
  · go_enter Try.func44, Try.ntmps44
    go_wp2
    go_ret
    have hr := R.out
    rw [putR_two (by omega) (by omega)]
    refine Made_lit ?_ rfl (by omega)
    simp only [cv, List.map_cons, List.map_nil]
    rw [bt_nat _ (by omega), bt_nat _ (by omega)]
    simp [hr]
  · go_enter Try.func44, Try.ntmps44
    go_wp2
    go_ret
    have hr := R.out
    rw [putR_three (by omega) (by omega)]
    refine Made_lit ?_ rfl (by omega)
    simp only [cv, List.map_cons, List.map_nil]
    rw [bt_nat _ (by omega), bt_nat _ (by omega), bt_nat _ (by omega)]
    simp [hr]
  · go_enter Try.func44, Try.ntmps44
    go_wp2
    go_ret
    have hr := R.out
    rw [putR_three (by omega) (by omega)]
    refine Made_lit ?_ rfl (by omega)
    simp only [cv, List.map_cons, List.map_nil]
    rw [bt_nat _ (by omega), bt_nat _ (by omega), bt_nat _ (by omega)]
    simp [hr]
  · go_enter Try.func44, Try.ntmps44
    go_wp2
    go_ret
    have hr := R.out
    rw [putR_four (by omega)]
    refine Made_lit ?_ rfl (by omega)
    simp only [cv, List.map_cons, List.map_nil]
    rw [bt_nat _ (by omega), bt_nat _ (by omega), bt_nat _ (by omega), bt_nat _ (by omega)]
    simp [hr]

set_option maxRecDepth 100000 in
set_option maxHeartbeats 4000000 in
theorem Low_int (r v : Int) (w : World) (h0 : 0 ≤ r) (h1 : r ≤ 1114111)
    (hv : (((65 ≤ r ∧ r ≤ 90) ∨ (192 ≤ r ∧ r ≤ 222 ∧ r ≠ 215) ∨ (913 ≤ r ∧ r ≤ 937 ∧ r ≠ 930) ∨ (1040 ≤ r ∧ r ≤ 1071)) ∧ v = r + 32) ∨ (¬ ((65 ≤ r ∧ r ≤ 90) ∨ (192 ≤ r ∧ r ≤ 222 ∧ r ≠ 215) ∨ (913 ≤ r ∧ r ≤ 937 ∧ r ≠ 930) ∨ (1040 ≤ r ∧ r ≤ 1071)) ∧ v = r)) :
    Calls Try.prog 45 #[.int .i64 r] w fun e w' => e = .returned (.int .i64 v) ∧ w = w' := by
  have Hv := Lib.hid hv
  clear hv
  have fin : ∀ z : Int, z = v → Ending.returned (.int .i64 z) = .returned (.int .i64 v) := fun z h => by rw [h]
  rcases (show r < 65 ∨ (65 ≤ r ∧ r ≤ 90) ∨ (91 ≤ r ∧ r ≤ 191) ∨ (192 ≤ r ∧ r ≤ 214) ∨ r = 215 ∨ (216 ≤ r ∧ r ≤ 222) ∨ (223 ≤ r ∧ r ≤ 912) ∨ (913 ≤ r ∧ r ≤ 929) ∨ r = 930 ∨ (931 ≤ r ∧ r ≤ 937) ∨ (938 ≤ r ∧ r ≤ 1039) ∨ (1040 ≤ r ∧ r ≤ 1071) ∨ 1072 ≤ r from by omega)
    with h | ⟨h, h'⟩ | ⟨h, h'⟩ | ⟨h, h'⟩ | h | ⟨h, h'⟩ | ⟨h, h'⟩ | ⟨h, h'⟩ | h | ⟨h, h'⟩ | ⟨h, h'⟩ | ⟨h, h'⟩ | h
  all_goals
    first | (have e215 : (r == 215) = false := by (rw [beq_eq_false_iff_ne]; omega)) | skip
    first | (have e930 : (r == 930) = false := by (rw [beq_eq_false_iff_ne]; omega)) | skip
    (try subst h)
    go_enter Try.func45, Try.ntmps45
    go_wp2
    go_ret
    exact ⟨fin _ (by have := Hv.out; omega), rfl⟩
theorem Low_any (c : Nat) (w : World) (hc : VR c) : Calls Try.prog 45 #[.int .i64 c] w fun e w' => e = .returned (.int .i64 (low c : Nat)) ∧ w = w' := by
  refine Low_int (c : Int) (low c : Nat) w (by omega) (by have := hc.1; omega) ?_
  unfold low
  split
  · left; omega
  · right; omega

end Go.Proofs.Ytdcboeeblbakhaa
