/- codec.OrdU, codec.OrdI and the reference's two return the number in eight bytes, in new memory. -/
import Derived.Test.YtbgelbdnkbhffaaGreatMem
namespace Go.Proofs.YtbgelbdnkbhffaaGreat
open Go Go.RowKit

theorem Own.lit (w : World) (e : TypeId) (n : Nat) (xs : List UInt8) (hn : xs.length = n) (hm : n ≤ maxLen) (vs : Array Value) (hv : vs = (xs.map cv).toArray) :
    Own e (w.alloc (.cells vs e)) w.heap.size (some ⟨w.heap.size, 0, none⟩) n n xs := by
  subst hv
  refine ⟨by simp [hn], .inr ⟨w.heap.size, n, (xs.map cv).toArray, rfl, Nat.le_refl _, heap_alloc_new w _, Nat.le_refl _, hm, by simp [hn], ?_⟩⟩
  rw [List.take_of_length_le (by simp [hn])]

set_option maxRecDepth 100000 in
set_option maxHeartbeats 1000000 in
theorem refOrdU_any (n : Nat) (w : World) (hn : n < B64) : Calls Tryz.prog 173 #[.int .u64 n] w (Made w.heap.size w (ordU n)) := by
  have hmk : ∀ w, (Instr.makeSlice 29 (.int .i64 8) (.int .i64 8)).run Tryz.prog w = .ok (.slice (some ⟨w.heap.size, 0, none⟩) 8 8) (w.alloc (.cells #[.int .u8 0, .int .u8 0, .int .u8 0, .int .u8 0, .int .u8 0, .int .u8 0, .int .u8 0, .int .u8 0] 5)) := fun _ => by kernel_rfl
  obtain ⟨m1, hm1⟩ : ∃ m : Nat, m = n / 256 := ⟨_, rfl⟩
  have e1 : (n : Int) / 256 = (m1 : Int) := by omega
  have w1 : IntKind.u64.wrap (m1 : Int) = (m1 : Int) := u64_nat m1 (by omega)
  obtain ⟨m2, hm2⟩ : ∃ m : Nat, m = m1 / 256 := ⟨_, rfl⟩
  have e2 : (m1 : Int) / 256 = (m2 : Int) := by omega
  have w2 : IntKind.u64.wrap (m2 : Int) = (m2 : Int) := u64_nat m2 (by omega)
  obtain ⟨m3, hm3⟩ : ∃ m : Nat, m = m2 / 256 := ⟨_, rfl⟩
  have e3 : (m2 : Int) / 256 = (m3 : Int) := by omega
  have w3 : IntKind.u64.wrap (m3 : Int) = (m3 : Int) := u64_nat m3 (by omega)
  obtain ⟨m4, hm4⟩ : ∃ m : Nat, m = m3 / 256 := ⟨_, rfl⟩
  have e4 : (m3 : Int) / 256 = (m4 : Int) := by omega
  have w4 : IntKind.u64.wrap (m4 : Int) = (m4 : Int) := u64_nat m4 (by omega)
  obtain ⟨m5, hm5⟩ : ∃ m : Nat, m = m4 / 256 := ⟨_, rfl⟩
  have e5 : (m4 : Int) / 256 = (m5 : Int) := by omega
  have w5 : IntKind.u64.wrap (m5 : Int) = (m5 : Int) := u64_nat m5 (by omega)
  obtain ⟨m6, hm6⟩ : ∃ m : Nat, m = m5 / 256 := ⟨_, rfl⟩
  have e6 : (m5 : Int) / 256 = (m6 : Int) := by omega
  have w6 : IntKind.u64.wrap (m6 : Int) = (m6 : Int) := u64_nat m6 (by omega)
  obtain ⟨m7, hm7⟩ : ∃ m : Nat, m = m6 / 256 := ⟨_, rfl⟩
  have e7 : (m6 : Int) / 256 = (m7 : Int) := by omega
  have w7 : IntKind.u64.wrap (m7 : Int) = (m7 : Int) := u64_nat m7 (by omega)
  obtain ⟨m8, hm8⟩ : ∃ m : Nat, m = m7 / 256 := ⟨_, rfl⟩
  have e8 : (m7 : Int) / 256 = (m8 : Int) := by omega
  have w8 : IntKind.u64.wrap (m8 : Int) = (m8 : Int) := u64_nat m8 (by omega)
  have H : Hid (m1 = n / 256 ∧ m2 = n / 65536 ∧ m3 = n / 16777216 ∧ m4 = n / 4294967296 ∧ m5 = n / 1099511627776 ∧ m6 = n / 281474976710656 ∧ m7 = n / 72057594037927936) := Lib.hid (by omega)
  clear hm1 hm2 hm3 hm4 hm5 hm6 hm7 hm8
  clear hn
  go_enter Tryz.func173, Tryz.ntmps173
  go_wp2
  go_rounds 9
  go_ret
  obtain ⟨h1, h2, h3, h4, h5, h6, h7⟩ := H.out
  exact ⟨_, 8, 8, rfl, Own.lit w 5 8 (ordU n) rfl (by unfold maxLen; omega) _ (by simp [ordU, cv, bt_mod, ← h1, ← h2, ← h3, ← h4, ← h5, ← h6, ← h7]), (Below.refl _ _).alloc (Nat.le_refl _) _⟩

end Go.Proofs.YtbgelbdnkbhffaaGreat
