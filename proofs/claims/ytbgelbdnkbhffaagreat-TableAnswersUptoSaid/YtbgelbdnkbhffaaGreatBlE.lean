/- A filter's reference: a key's bit, May. No condition but sizes. -/
import Derived.Test.YtbgelbdnkbhffaaGreatBlD
namespace Go.Proofs.YtbgelbdnkbhffaaGreat
open Go Go.RowKit

theorem sum_ref (h i : Nat) : IntKind.u64.wrap ((h : Int) % 4294967296 + IntKind.u64.wrap ((i : Int) * (stepN h : Int))) = (sumN h i : Int) := by
  rw [IntKind.wrap_u64, IntKind.wrap_u64]
  unfold sumN
  have h1 : ((i : Int) * (stepN h : Int)) = ((i * stepN h : Nat) : Int) := by push_cast; rfl
  rw [h1]
  generalize i * stepN h = a
  omega
theorem step_odd {h : Nat} (he : ¬ h / 4294967296 % 2 = 0) : (h : Int) / 4294967296 = (stepN h : Int) := by
  unfold stepN
  omega
theorem bit_val {z i m : Nat} {c : Int} (hc : c = (stepN z : Int)) (hm : 0 < m) (hm2 : m < 9223372036854775808) : wrap64 ((IntKind.u64.wrap ((z : Int) % 4294967296 + IntKind.u64.wrap ((i : Int) * c))).tmod (m : Int)) = ((sumN z i % m : Nat) : Int) := by
  have hlt : sumN z i % m < m := Nat.mod_lt _ hm
  have h5 : ((sumN z i : Int) % (m : Int)) = ((sumN z i % m : Nat) : Int) := by push_cast; rfl
  rw [hc, sum_ref, Int.tmod_eq_emod_of_nonneg (by omega), h5]
  unfold wrap64
  omega
def RetBi (w : World) (z : Nat) (e : Ending) (w' : World) : Prop := e = .returned (.int .i64 (z : Int)) ∧ ∃ q, w' = w.drewN q
set_option maxRecDepth 100000 in
set_option maxHeartbeats 4000000 in
theorem refBit_any (A : Option Addr) (n c : Nat) (xs : List UInt8) (i m : Nat) (w : World) (h : Rd w A n xs) (hn : n ≤ maxLen) (hi : i ≤ 255) (hm : 0 < m) (hm2 : m < 9223372036854775808) :
    Calls Tryz.prog 174 #[.slice A n c, .int .i64 (i : Int), .int .i64 (m : Int)] w (RetBi w (bitN xs m i)) := by
  obtain ⟨z, hz⟩ : ∃ z, z = hashB xs := ⟨_, rfl⟩
  have hzl : z < 18446744073709551616 := by rw [hz]; exact hashB_lt _
  have HH : Hid (Calls Tryz.prog 200 #[.slice A n c] w (RetH w z)) := Lib.hid (by rw [hz]; exact refHash_any A n c xs w h hn)
  have e1 : IntKind.u64.wrap (i : Int) = (i : Int) := by rw [IntKind.wrap_u64]; omega
  have e2 : IntKind.u64.wrap (m : Int) = (m : Int) := by rw [IntKind.wrap_u64]; omega
  have e3 := sum_ref z i
  have hm0 : (m : Int) ≠ 0 := by omega
  have hb : bitN xs m i = sumN z i % m := by unfold bitN; rw [← hz]
  have hlt : sumN z i % m < m := Nat.mod_lt _ hm
  have e4 : IntKind.i64.wrap ((sumN z i : Int) % (m : Int)) = ((sumN z i % m : Nat) : Int) := by rw [IntWalk.i64_in _ (by omega)]; omega
  have HB := Lib.hid hb
  rw [HB.out]
  clear hb hz h hlt
  go_enter Tryz.func174, Tryz.ntmps174
  go_wp2_with fail
  with_reducible refine HH.out.mono ?_
  rintro e w' ⟨rfl, q, hq⟩
  go_wp2_with fail
  · rename_i hE
    have he : z / 4294967296 % 2 = 0 := by simp at hE; omega
    have hc : (z : Int) / 4294967296 + 1 = (stepN z : Int) := by unfold stepN; omega
    have hv := bit_val (i := i) hc hm hm2
    go_ret
    rw [hv]
    exact ⟨rfl, q, rfl⟩
  · rename_i hE
    have he : ¬ z / 4294967296 % 2 = 0 := by simp at hE; omega
    have hv := bit_val (i := i) (step_odd he) hm hm2
    go_ret
    rw [hv]
    exact ⟨rfl, q, rfl⟩
end Go.Proofs.YtbgelbdnkbhffaaGreat
