/- Manifest: twice, nextNum, without nothing. No condition but sizes. -/
import Derived.Test.YtlnpicfkcahdbaaMfA
import Derived.Test.YtlnpicfkcahdbaaCl
import Derived.Maps.OwnSet
import Derived.Maps.Views
import Derived.Deep.DeepCutAuto
import Derived.Deep.CutBlock
import Derived.BigQuiet
import Derived.Deep.QuietTactic
namespace Go.Proofs.Ytlnpicfkcahdbaa
open Go Go.RowKit Go.Maps Go.ChangeMaps

def mfK (fs : List Mf) : List Lit := fs.map fun f => Lit.int .u64 (f.num : Int)
/-- The set of the numbers. -/
def mfD (fs : List Mf) : DataW Unit := setOf (.agg []) (mfK fs)
theorem mfD_snoc (fs : List Mf) (f : Mf) : mfD (fs ++ [f]) = (mfD fs).put (.int .u64 (f.num : Int)) (.agg []) := by
  unfold mfD mfK
  rw [List.map_append, List.map_cons, List.map_nil, setOf_snoc]
def twiceM (fs : List Mf) : Bool := decide (Maps.size (mfD fs) < fs.length)
theorem twiceM_nil : twiceM [] = false := by decide
theorem twiceM_one (f : Mf) : twiceM [f] = false := by
  unfold twiceM mfD mfK
  rw [size_setOf]
  · rfl
  · intro x hx
    simp only [List.map_cons, List.map_nil, List.mem_cons, List.not_mem_nil, or_false] at hx
    subst hx
    trivial
def SetAt (w : World) (b n : Nat) (D : DataW Unit) : Prop := w.ownsMap Try.prog 28 (unitElem (H := Unit)) b n D
theorem SetAt.below {w w' : World} {b n : Nat} {D : DataW Unit} (h : SetAt w b n D) (hb : Below w.heap.size w w') : SetAt w' b n D := by
  have hlt := World.ownsMap.lt h
  obtain ⟨es, clock, h1, h2⟩ := h
  exact ⟨es, clock, (hb.block b hlt).trans h1, h2⟩
theorem u64_wf {n : Nat} (h : U64 n) : (Lit.int .u64 (n : Int)).wf = true := by
  unfold U64 at h
  have h1 : IntKind.u64.min = 0 := rfl
  have h2 : IntKind.u64.max = 18446744073709551615 := rfl
  simp [Lit.wf]
  omega
theorem lawU : Keyed Try.prog 28 := int_keyed Try.underlying28
set_option maxRecDepth 100000 in
theorem zeroU (w : World) : (zeroValue 230).run Try.prog w = .ok (.agg #[]) w := rfl
set_option maxRecDepth 100000 in
set_option maxHeartbeats 4000000 in
theorem twice_any {w : World} {A : Option Addr} {n c : Nat} {fs : List Mf} (h : RMf w A n fs) (hn : n ≤ 1099511627776) : Calls Try.prog 112 #[.slice A n c] w (RetT w (twiceM fs)) := by
  have hmm := @run_makeMap Try.prog
  have HL := Lib.hid h.len
  have HH := Lib.hid h
  clear h
  go_enter Try.func112, Try.ntmps112
  go_wp2_with fail
  go_loopw [9] (fun vk wr => ∃ k : Nat, vk = .int .i64 k ∧ k ≤ n ∧ SetAt wr w.heap.size k (mfD (fs.take k)) ∧ Below w.heap.size w wr) (fun vk _ => n - (intOf vk).toNat)
  case atStart => exact ⟨0, rfl, Nat.zero_le _, World.ownsMap_made _ _ _ _, (Below.refl _ _).alloc (Nat.le_refl _) _⟩
  case round =>
    obtain ⟨k, rfl, hk, hC, hb⟩ := hrel
    have hR : RMf wr A n fs := HH.out.below hb
    have HB := Lib.hid hb
    have HC := Lib.hid hC
    clear hb hC
    by_cases hlt : k < n
    · obtain ⟨b, off, hAb, hbl⟩ := hR.pos (by omega)
      subst hAb
      obtain ⟨x, v0, v1, v2, v3, v4, v5, hx, m0, m1, m2, m3, m4, m5, hev⟩ := hR.at_ k hlt
      obtain ⟨K, kn, kc, T, tn, tc, rfl, rfl, rfl, rfl, rfl, rfl, _, _, _, _, _, _, hu⟩ := hev.parts
      obtain ⟨U, hU⟩ : ∃ U, U = wr.alloc (.cells #[.slice K kn kc, .slice T tn tc, .int .i64 x.cnt, .int .i64 x.sz, .int .u64 (x.num : Int), .int .i64 x.lv] 113) := ⟨_, rfl⟩
      obtain ⟨g0, hg0⟩ : ∃ g0, g0 = wr.heap.size := ⟨_, rfl⟩
      have bU : Below wr.heap.size wr U := by rw [hU]; exact (Below.refl _ _).alloc (Nat.le_refl _) _
      have q4 : U.cell? ⟨g0, 4, none⟩ = some (.int .u64 (x.num : Int)) := by rw [hU, hg0]; exact (Cl.new _ _ _).cell 4
      have hCU : SetAt U w.heap.size k (mfD (fs.take k)) := SetAt.below HC.out bU
      have HBU := Lib.hid (belowT' HB.out bU)
      have HUE := Lib.hid hU
      have HGE := Lib.hid hg0
      have hkey : keyOf Try.prog 28 (.int .u64 (x.num : Int)) = some (.int .u64 (x.num : Int)) := keyOf_int_mk Try.underlying28 (u64_wf hu)
      obtain ⟨D, hD⟩ : ∃ D, D = mfD (fs.take k) := ⟨_, rfl⟩
      rw [← hD] at hCU
      have HP : Hid (D.put (.int .u64 (x.num : Int)) (.agg []) = mfD (fs.take (k + 1))) := Lib.hid (by rw [List.take_add_one, hx, hD]; exact (mfD_snoc _ _).symm)
      clear hx hev hR bU hU hg0 hD
      go_upto_region 5 with (fail)
      rw [← HUE.out, ← HGE.out]
      clear m0 m1 m2 m3 m4 m5
      go_wp2_with (at_mapUpdate; refine wpList_mapUpdate_own _ rfl _ _ _ 229 rfl 28 230 lawU Try.underlying229 _ w.heap.size k D rfl hCU (by unfold maxLen; omega) _ _ _ rfl rfl hkey _ [] unitElem_mk ?_)
      intro w1 hown1 hgrow1
      rw [HP.out] at hown1
      have hb1 := HBU.out.grown hgrow1 HBU.out.size (fun k hk => by injection hk with hk; omega)
      have HC1 : Hid (SetAt w1 w.heap.size (k + 1) (mfD (fs.take (k + 1)))) := Lib.hid hown1
      have HB1 := Lib.hid hb1
      clear hown1 hgrow1 hCU q4 hb1
      go_wp2_with fail
      go_roundw
      case rel => exact ⟨k + 1, by go_num, by omega, HC1.out, HB1.out⟩
      case measure => simp [intOf]; omega
    · obtain rfl : k = n := by omega
      have hC := HC.out
      rw [List.take_of_length_le (by rw [HL.out]; exact Nat.le_refl _)] at hC
      obtain ⟨D, hD⟩ : ∃ D, D = mfD fs := ⟨_, rfl⟩
      rw [← hD] at hC
      have HT : Hid (twiceM fs = decide (Maps.size D < k)) := Lib.hid (by unfold twiceM; rw [hD, HL.out])
      clear hD
      go_wp2_with (at_len; refine wpList_len_own _ rfl _ 229 rfl 28 230 Try.underlying229 _ w.heap.size k D rfl hC ?_)
      go_wp2_with fail
      go_ret
      exact ⟨by rw [HT.out]; rfl, HB.out⟩
end Go.Proofs.Ytlnpicfkcahdbaa
