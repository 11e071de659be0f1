/- A filter's iterator: the bits of a key, one by one. No condition but sizes. -/
import Derived.RangeFuncNested
import Derived.RangeFuncBound
import Derived.RangeFuncCalls
import Derived.RangeFuncLeaves
import Derived.Shelf.Abstract
import Derived.Shelf.RegionOpen
import Derived.WalkKit
import Derived.OwnWalkIn
import Derived.TacticsInMore
import Derived.LoopNIn
import Derived.LoopIn
import Derived.Laws.Shifts
import Derived.Test.YtlnpicfkcahdbaaGreatBlA
import Derived.Test.YtlnpicfkcahdbaaGreatCl
namespace Go.Proofs.YtlnpicfkcahdbaaGreat
open Go Go.RowKit Go.Shelf
attribute [local go_sem] Oper.semAt_some

/-- A bit's number below m. -/
abbrev Bt (m : Nat) := { x : Nat // x < m }
theorem bitN_lt (key : List UInt8) {m : Nat} (hm : 0 < m) (i : Nat) : bitN key m i < m := Nat.mod_lt _ hm
/-- The first k bits of a key. -/
def bitsL (key : List UInt8) {m : Nat} (hm : 0 < m) (k : Nat) : List (Bt m) := (List.range k).map fun i => ⟨bitN key m i, bitN_lt key hm i⟩
theorem bitsL_succ (key : List UInt8) {m : Nat} (hm : 0 < m) (k : Nat) : bitsL key hm (k + 1) = bitsL key hm k ++ [⟨bitN key m k, bitN_lt key hm k⟩] := by simp [bitsL, List.range_succ]
theorem bitsL_len (key : List UInt8) {m : Nat} (hm : 0 < m) (k : Nat) : (bitsL key hm k).length = k := by simp [bitsL]
theorem bitsL_pre (key : List UInt8) {m : Nat} (hm : 0 < m) {k n : Nat} (h : k ≤ n) : bitsL key hm k <+: bitsL key hm n := by
  induction n with
  | zero => obtain rfl : k = 0 := by omega
            exact List.prefix_refl _
  | succ n ih =>
    by_cases e : k = n + 1
    · subst e
      exact List.prefix_refl _
    · exact (ih (by omega)).trans (by rw [bitsL_succ]; exact List.prefix_append _ _)
/-- 'This block stands.' -/
def Stb (g : Nat) (W W' : World) : Prop := W'.heap[g]? = W.heap[g]?
theorem Stb.refl (g : Nat) (W : World) : Stb g W W := rfl
theorem Stb.trans {g : Nat} {A B C : World} (h : Stb g A B) (k : Stb g B C) : Stb g A C := Eq.trans k h
set_option maxRecDepth 100000 in
set_option maxHeartbeats 4000000 in
/-- The closure: for every loop body that leaves the box of the bits. -/
theorem bits_in (F : Fence) (hF : F = Fence.wide) (n : Nat) (hn : 1 ≤ n) (l bk bh g : Nat) (A : Option Addr) (kn kc : Nat) (key : List UInt8) {m : Nat} (hm : 0 < m) (hm2 : m < 18446744073709551616) (k : Nat) (hk : k ≤ 255) (J Jx : List (Bt m) → World → Prop)
    (hY : ∀ pre x W, J pre W → pre.length < k → YieldAt F (n - 1) Tryz.prog l #[.int .u64 (x.1 : Int)] W fun e W' =>
      (e = .returned (.bool true) ∧ J (pre ++ [x]) W' ∧ Stb g W W') ∨ (e = .returned (.bool false) ∧ Jx (pre ++ [x]) W'))
    (W : World) (h1 : W.cell? ⟨bk, 0, none⟩ = some (.slice A kn kc)) (h2 : W.cell? ⟨bh, 0, none⟩ = some (.int .u8 (k : Int))) (h3 : W.cell? ⟨g, 0, none⟩ = some (.int .u64 (m : Int))) (hr : Rd W A kn key) (hkn : kn ≤ maxLen) (h0 : J [] W) :
    CallsIn F n Tryz.prog 123 #[.func (.yield l) #[] #[], .pointer (some ⟨bk, 0, none⟩), .pointer (some ⟨bh, 0, none⟩), .pointer (some ⟨g, 0, none⟩)] W fun e W' => (∃ v, e = .returned v) ∧
      ((∃ ys, ys = bitsL key hm k ∧ J ys W') ∨ (∃ pre, (∃ j, j ≤ k ∧ pre = bitsL key hm j) ∧ Jx pre W')) := by
  subst hF
  refine callsIn_of_wp Tryz.func123 rfl trivial ?_ rfl
  simp only [Tryz.ntmps123, List.size_toArray, List.length_cons, List.length_nil, Nat.reduceAdd, Nat.reduceSub, Array.replicate_succ, Array.replicate_zero, List.push_toArray, List.append_toArray, List.nil_append, List.cons_append]
  obtain ⟨h, hh⟩ : ∃ h, h = hashB key := ⟨_, rfl⟩
  have hlt : h < 18446744073709551616 := by rw [hh]; exact hashB_lt _
  have HH := Lib.hid hh
  have HC : Hid (Calls Tryz.prog 124 #[.slice A kn kc] W (fun e w' => e = .returned (.int .u64 (h : Int)) ∧ w' = W)) := Lib.hid (by rw [hh]; exact Hash_any A kn kc key W hr hkn)
  have e1 := u64_low h hlt
  have e2 := u64_odd (h / 4294967296) (by omega)
  have e3 : 2 * (h / 4294967296 / 2) + 1 = stepN h := rfl
  rw [e3] at e2
  have e4 : bits .or .u64 ((h : Int) / 4294967296) 1 = (stepN h : Int) := by
    rw [← e2]
    congr 1
  have e5 : bits .and .u64 (h : Int) 4294967295 = (h : Int) % 4294967296 := by
    rw [e1]
    omega
  clear hh hr e3 e1 e2
  gi_wp2_with (refine ⟨trivial, ?_⟩; gi_at_call 124; refine (callsIn_wide.2 HC.out).mono ?_; rintro e w' ⟨rfl, rfl⟩)
  gi_loopw [6, 16] (fun s6 s16 wr => ∃ j : Nat, j ≤ k ∧ s16 = .int .u8 (j : Int) ∧ s6 = .int .u64 (sumN h j : Int) ∧ J (bitsL key hm j) wr ∧ Stb g w' wr) (fun _ s _ => k - (intOf s).toNat)
  case atStart => exact ⟨0, Nat.zero_le _, rfl, by rw [sumN_zero]; rfl, h0, Stb.refl _ _⟩
  case round =>
    obtain ⟨j, hj, rfl, rfl, hJs, hst⟩ := hrel
    have HST := Lib.hid hst
    by_cases hltj : j < k
    · have hc3 : wr.cell? ⟨g, 0, none⟩ = some (.int .u64 (m : Int)) := by
        rw [← h3]
        unfold World.cell?
        rw [hst]
      have hbit : (sumN h j : Int) % (m : Int) = ((bitN key m j : Nat) : Int) := by
        unfold bitN
        rw [← HH.out]
        omega
      obtain ⟨fn, tmps, assign, body, hy, hR⟩ := hY _ ⟨bitN key m j, bitN_lt key hm j⟩ wr hJs (by rw [bitsL_len]; exact hltj)
      have hm0 : (m : Int) ≠ 0 := by omega
      have hsum : IntKind.u64.wrap ((sumN h j : Int) + (stepN h : Int)) = ((sumN h (j + 1) : Nat) : Int) := by
        rw [sumN_succ, IntKind.wrap_u64]
        omega
      have hjj : IntKind.u8.wrap ((j : Int) + 1) = ((j + 1 : Nat) : Int) := by
        rw [IntKind.wrap_u8]
        omega
      clear hst
      gi_wp2
      refine hR.mono ?_
      rintro e W3 (⟨rfl, hJ3, hk3⟩ | ⟨rfl, hJx3⟩)
      · gi_wp2
        go_roundw
        case rel => exact ⟨j + 1, by omega, by go_num, by first | rfl | (rw [← hsum]; go_num) | go_num, by rw [bitsL_succ]; exact hJ3, HST.out.trans hk3⟩
        case measure => simp [intOf]; omega
      · gi_wp2
        refine bodyPost_ret (results_none rfl _ _ _) rfl ?_
        exact ⟨⟨_, rfl⟩, .inr ⟨_, ⟨j + 1, by omega, (bitsL_succ _ _ _).symm⟩, hJx3⟩⟩
    · obtain rfl : j = k := by omega
      gi_wp2
      go_end0
      exact ⟨⟨_, rfl⟩, .inl ⟨_, rfl, hJs⟩⟩
/-- The iterator's value: all bits in their order, or a beginning. -/
theorem bits_stops (n : Nat) (hn : 1 ≤ n) (bk bh g : Nat) (A : Option Addr) (kn kc : Nat) (key : List UInt8) {m : Nat} (hm : 0 < m) (hm2 : m < 18446744073709551616) (k : Nat) (hk : k ≤ 255) (w : World)
    (h1 : w.cell? ⟨bk, 0, none⟩ = some (.slice A kn kc)) (h2 : w.cell? ⟨bh, 0, none⟩ = some (.int .u8 (k : Int))) (h3 : w.cell? ⟨g, 0, none⟩ = some (.int .u64 (m : Int))) (hr : Rd w A kn key) (hkn : kn ≤ maxLen) :
    SeqStopsK Fence.wide n Tryz.prog 123 #[.pointer (some ⟨bk, 0, none⟩), .pointer (some ⟨bh, 0, none⟩), .pointer (some ⟨g, 0, none⟩)] (fun x : Bt m => #[Value.int .u64 (x.1 : Int)]) (Stb g) (fun ys => ys = bitsL key hm k) (fun pre => pre <+: bitsL key hm k) k w := fun l J Jx W hW _ _ hY h0 => by
  have b1 := (hW.cell (p := ⟨bk, 0, none⟩) (cell_lt h1)).trans h1
  have b2 := (hW.cell (p := ⟨bh, 0, none⟩) (cell_lt h2)).trans h2
  have b3 := (hW.cell (p := ⟨g, 0, none⟩) (cell_lt h3)).trans h3
  refine (bits_in Fence.wide rfl n hn l bk bh g A kn kc key hm hm2 k hk J Jx hY W b1 b2 b3 (hr.below hW) hkn h0).mono ?_
  rintro e W' ⟨he, ⟨ys, rfl, hj⟩ | ⟨pre, ⟨j, hj, rfl⟩, hx⟩⟩
  · exact ⟨he, .inl ⟨_, rfl, hj⟩⟩
  · exact ⟨he, .inr ⟨_, bitsL_pre key hm hj, hx⟩⟩
end Go.Proofs.YtlnpicfkcahdbaaGreat
