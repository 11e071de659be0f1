/- Manifest: nextNum, without nothing, the sort of one file. No condition but sizes. -/
import Derived.Test.YtlnpicfkcahdbaaMfB
import Derived.Test.YtlnpicfkcahdbaaBits
namespace Go.Proofs.Ytlnpicfkcahdbaa
open Go Go.RowKit Go.Maps Go.ChangeMaps

/-- The number that the next table gets. -/
def nextM (a : Nat) (fs : List Mf) : Nat := fs.foldl (fun a f => max a (f.num + 1)) a
theorem nextM_snoc (a : Nat) (fs : List Mf) (f : Mf) : nextM a (fs ++ [f]) = max (nextM a fs) (f.num + 1) := by simp [nextM]
def RetN64 (w : World) (n : Nat) (e : Ending) (w' : World) : Prop := e = .returned (.int .u64 (n : Int)) ∧ Below w.heap.size w w'
theorem RetN64.out {w : World} {n : Nat} {e : Ending} {w' : World} (h : RetN64 w n e w') : e = .returned (.int .u64 (n : Int)) ∧ Below w.heap.size w w' := h
set_option maxRecDepth 100000 in
set_option maxHeartbeats 4000000 in
theorem nextNum_any {w : World} {A : Option Addr} {n c a : Nat} {fs : List Mf} (h : RMf w A n fs) (hn : n ≤ 1099511627776) (hs : ∀ f ∈ fs, f.num < 9223372036854775808) : Calls Try.prog 115 #[.int .u64 (a : Int), .slice A n c] w (RetN64 w (nextM a fs)) := by
  have HL := Lib.hid h.len
  have HH := Lib.hid h
  have HS := Lib.hid hs
  clear h hs
  go_enter Try.func115, Try.ntmps115
  go_wp2_with fail
  go_loopw [0, 9] (fun v0 vk wr => ∃ k m : Nat, vk = .int .i64 k ∧ v0 = .int .u64 (m : Int) ∧ m = nextM a (fs.take k) ∧ k ≤ n ∧ Below w.heap.size w wr) (fun _ vk _ => n - (intOf vk).toNat)
  case atStart => exact ⟨0, a, rfl, rfl, rfl, Nat.zero_le _, Below.refl _ _⟩
  case round =>
    obtain ⟨k, m, rfl, rfl, hm, hk, hb⟩ := hrel
    have hR : RMf wr A n fs := HH.out.below hb
    have HB := Lib.hid hb
    have HM := Lib.hid hm
    clear hb hm
    by_cases hlt : k < n
    · obtain ⟨b, off, hAb, hbl⟩ := hR.pos (by omega)
      subst hAb
      obtain ⟨x, v0, v1, v2, v3, v4, v5, hx, m0, m1, m2, m3, m4, m5, hev⟩ := hR.at_ k hlt
      obtain ⟨K, kn, kc, T, tn, tc, rfl, rfl, rfl, rfl, rfl, rfl, _, _, _, _, _, _, hu⟩ := hev.parts
      have hxn := HS.out x (List.mem_of_getElem? hx)
      obtain ⟨U, hU⟩ : ∃ U, U = wr.alloc (.cells #[.slice K kn kc, .slice T tn tc, .int .i64 x.cnt, .int .i64 x.sz, .int .u64 (x.num : Int), .int .i64 x.lv] 113) := ⟨_, rfl⟩
      obtain ⟨g0, hg0⟩ : ∃ g0, g0 = wr.heap.size := ⟨_, rfl⟩
      have bU : Below wr.heap.size wr U := by rw [hU]; exact (Below.refl _ _).alloc (Nat.le_refl _) _
      have q4 : U.cell? ⟨g0, 4, none⟩ = some (.int .u64 (x.num : Int)) := by rw [hU, hg0]; exact (Cl.new _ _ _).cell 4
      have HBU := Lib.hid (belowT' HB.out bU)
      have HUE := Lib.hid hU
      have HGE := Lib.hid hg0
      obtain ⟨y, hy⟩ : ∃ y, y = x.num := ⟨_, rfl⟩
      obtain ⟨z, hz⟩ : ∃ z, z = max m (y + 1) := ⟨_, rfl⟩
      have HZ : Hid (z = nextM a (fs.take (k + 1))) := Lib.hid (by rw [List.take_add_one, hx, hz, hy, HM.out]; exact (nextM_snoc _ _ _).symm)
      have hz1 : max (m : Int) ((y : Int) + 1) = (z : Int) := by rw [hz]; omega
      rw [← hy] at q4 hxn
      have hw1 : IntKind.u64.wrap ((y : Int) + 1) = (y : Int) + 1 := IntWalk.u64_in _ (by omega)
      clear hx hev hR bU hU hg0 hu hz
      go_upto_region 4 with (fail)
      rw [← HUE.out, ← HGE.out]
      clear m0 m1 m2 m3 m4 m5 hy
      go_wp2_with fail
      go_roundw
      case rel => exact ⟨k + 1, z, by go_num, rfl, HZ.out, by omega, HBU.out⟩
      case measure => simp [intOf]; omega
    · obtain rfl : k = n := by omega
      have hm := HM.out
      rw [List.take_of_length_le (by rw [HL.out]; exact Nat.le_refl _)] at hm
      have HF : Hid (RetN64 w (nextM a fs) (.returned (.int .u64 (m : Int))) wr) := Lib.hid ⟨by rw [hm], HB.out⟩
      clear hm
      go_wp2_with fail
      go_ret
      exact HF.out
set_option maxRecDepth 100000 in
set_option maxHeartbeats 4000000 in
theorem insSortM_any (A : Option Addr) (c : Nat) (f : Value) (w : World) : Calls Try.prog 196 #[.slice A 1 c, .int .i64 0, .int .i64 1, f] w (fun e w' => e = .returned (.tuple #[]) ∧ w' = w) := by
  go_enter Try.func196, Try.ntmps196
  go_wp2_with fail
  go_loopw [8] (fun s6 wr => s6 = .int .i64 1 ∧ wr = w) (fun _ _ => 0)
  case atStart => exact ⟨rfl, rfl⟩
  case round =>
    obtain ⟨rfl, rfl⟩ := hrel
    go_wp2_with fail
    go_end0
    exact ⟨rfl, rfl⟩
set_option maxRecDepth 100000 in
set_option maxHeartbeats 4000000 in
theorem pdqM_any (A : Option Addr) (c : Nat) (l : Int) (f : Value) (w : World) : Calls Try.prog 168 #[.slice A 1 c, .int .i64 0, .int .i64 1, .int .i64 l, f] w (fun e w' => e = .returned (.tuple #[]) ∧ w' = w) := by
  have HI := Lib.hid (insSortM_any A c f w)
  go_enter Try.func168, Try.ntmps168
  go_wp2_with fail
  go_loopw [1, 2, 3, 10, 11] (fun s1 s2 s3 s8 s9 wr => s1 = .int .i64 0 ∧ s2 = .int .i64 1 ∧ wr = w) (fun _ _ _ _ _ _ => 0)
  case atStart => exact ⟨rfl, rfl, rfl⟩
  case round =>
    obtain ⟨rfl, rfl, rfl⟩ := hrel
    go_wp2_with fail
    with_reducible refine HI.out.mono ?_
    rintro e w1 ⟨rfl, rfl⟩
    go_wp2_with fail
    exact bodyPost_ret (v := .tuple #[]) (by simp [results, Try.f168, go_sem]; try rfl) rfl ⟨rfl, rfl⟩
set_option maxRecDepth 100000 in
set_option maxHeartbeats 4000000 in
theorem sortM_any (A : Option Addr) (c : Nat) (f : Value) (w : World) : Calls Try.prog 113 #[.slice A 1 c, f] w (fun e w' => e = .returned (.tuple #[]) ∧ w' = w) := by
  go_enter Try.func113, Try.ntmps113
  go_wp2_with fail
  with_reducible refine (bitsLen_any _ _ (by decide) (by decide)).mono ?_
  rintro e w1 ⟨rfl, rfl⟩
  go_wp2_with fail
  with_reducible refine (pdqM_any _ _ _ _ _).mono ?_
  rintro e w1 ⟨rfl, rfl⟩
  go_wp2_with fail
  go_end0
  exact ⟨rfl, rfl⟩
end Go.Proofs.Ytlnpicfkcahdbaa
