/- The tree of a table in memory: words, height, join, balance. No condition but sizes. -/
import Derived.Test.YtlnpicfkcahdbaaGreatCrcO
import Derived.Test.YtlnpicfkcahdbaaGreatCmp
import Derived.Test.YtlnpicfkcahdbaaGreatCrcT
import Derived.Test.YtlnpicfkcahdbaaGreatLists
import Derived.Test.YtlnpicfkcahdbaaGreatParts
import Derived.Test.YtlnpicfkcahdbaaGreatAwake
import Derived.Test.YtlnpicfkcahdbaaGreatFamC
import Derived.Lib.SmallJoins
import Derived.Test.YtlnpicfkcahdbaaGreatApart
import Derived.Test.YtlnpicfkcahdbaaGreatKept
import Derived.BigFrame
import Derived.Test.YtlnpicfkcahdbaaGreatCrcR
import Derived.Test.YtlnpicfkcahdbaaGreatEnA
import Derived.Test.YtlnpicfkcahdbaaGreatBlF
import Derived.Test.YtlnpicfkcahdbaaGreatEnB
import Derived.Test.YtlnpicfkcahdbaaGreatFam
import Derived.Test.YtlnpicfkcahdbaaGreatPool
import Derived.Deep.DeepCutAuto
import Derived.Deep.CutBlock
import Derived.Deep.RegionHeld3
import Derived.Deep.RegionLaw
import Derived.Lib.AppendZeros
import Derived.Deep.QuietTactic
import Derived.BigQuiet
import Derived.IntWalk
import Derived.Maps.OwnOps
import Derived.Maps.OwnSet
import Derived.Maps.RangeWalk
import Derived.Deep.LoopGhost
namespace Go.Proofs.YtlnpicfkcahdbaaGreat
open Go Go.RowKit

end Go.Proofs.YtlnpicfkcahdbaaGreat
namespace Go.Proofs.YtlnpicfkcahdbaaGreat
open Go Go.RowKit

/-- 'It hands back the number (32 bits); what was in memory stands.' -/
def RetUB (w : World) (n : Nat) (e : Ending) (w' : World) : Prop := e = .returned (.int .u32 (n : Int)) ∧ Below w.heap.size w w'

theorem xor_mod256 (x : Nat) (b : UInt8) : (x ^^^ b.toNat) % 256 = x % 256 ^^^ b.toNat := by
  have hb := b.toNat_lt
  apply Nat.eq_of_testBit_eq
  intro i
  rw [show (256 : Nat) = 2 ^ 8 from rfl, Nat.testBit_mod_two_pow, Nat.testBit_xor, Nat.testBit_xor, Nat.testBit_mod_two_pow]
  by_cases h : i < 8
  · simp [h]
  · have h2 : b.toNat.testBit i = false := Nat.testBit_lt_two_pow (Nat.lt_of_lt_of_le (show b.toNat < 2 ^ 8 by simpa using hb) (Nat.pow_le_pow_right (by decide) (by omega)))
    simp [h, h2]
theorem xor_div256 (x : Nat) (b : UInt8) : (x ^^^ b.toNat) / 256 = x / 256 := by
  have hb := b.toNat_lt
  apply Nat.eq_of_testBit_eq
  intro i
  rw [show (256 : Nat) = 2 ^ 8 from rfl, Nat.testBit_div_two_pow, Nat.testBit_div_two_pow, Nat.testBit_xor]
  have h2 : b.toNat.testBit (8 + i) = false := Nat.testBit_lt_two_pow (Nat.lt_of_lt_of_le (show b.toNat < 2 ^ 8 by simpa using hb) (Nat.pow_le_pow_right (by decide) (by omega)))
  simp [Nat.add_comm i 8, h2]
theorem stps8_byte (x : Nat) (b : UInt8) : stps 8 (x ^^^ b.toNat) = x / 256 ^^^ stps 8 (x % 256 ^^^ b.toNat) := by
  rw [stps8, xor_mod256, xor_div256, Nat.xor_comm]

theorem u32_not {x : Nat} (h : x < 4294967296) : bits .xor .u32 IntKind.u32.max (x : Int) = ((4294967295 - x : Nat) : Int) := by
  have h1 := u32_xor_nat 4294967295 x (by decide) h
  have h2 : 4294967295 ^^^ x = 4294967295 - x := by
    apply Nat.eq_of_testBit_eq
    intro i
    rw [show 4294967295 - x = 2 ^ 32 - (x + 1) by omega, Nat.testBit_two_pow_sub_succ (by omega), Nat.testBit_xor, show 4294967295 = 2 ^ 32 - 1 from rfl, Nat.testBit_two_pow_sub_one]
    by_cases hi : i < 32
    · simp [hi]
    · rw [Nat.testBit_lt_two_pow (Nat.lt_of_lt_of_le (show x < 2 ^ 32 by omega) (Nat.pow_le_pow_right (by decide) (by omega)))]
      simp [hi]
  rw [h2] at h1
  exact h1

/-- 'The table lies in block g, from base on; what was below base stands.' -/
def Tg (w : World) (base g : Nat) (wr : World) : Prop := wr.heap[g]? = some (.cells (tabA 256) 248 (0, 0)) ∧ Below base w wr
theorem Tg.drewN {w wr : World} {base g : Nat} (h : Tg w base g wr) (q : Nat) : Tg w base g (wr.drewN q) := ⟨h.1, below_drewN h.2 q⟩
theorem Tg.cell {w wr : World} {base g : Nat} (h : Tg w base g wr) (i : Nat) (hi : i < 256) : wr.cell? ⟨g, i, none⟩ = some (.int .u32 (stps 8 i : Int)) := by
  rw [cell_of_row wr _ i _ _ _ h.1, tabA_at 256 i hi, tabF, if_pos hi]

set_option maxRecDepth 100000 in
set_option maxHeartbeats 2000000 in
theorem Sum_any (A : Option Addr) (n c : Nat) (xss : List (List UInt8)) (w : World) (hx : RdL w A n xss) (ht : tot xss ≤ 1099511627776) :
    Calls Tryz.prog 161 #[.slice A n c] w (RetUB w (crcB xss.flatten)) := by
  have hn : n ≤ 1099511627776 := by have := tot_len xss; have := hx.len; omega
  have HXL := Lib.hid hx.len
  go_enter Tryz.func161, Tryz.ntmps161
  go_wp2_with fail
  refine (Table_any _).mono ?_
  rintro e w1 ⟨rfl, hb1⟩
  have hg1 := hb1.size
  obtain ⟨g, hg⟩ : ∃ g, g = w1.heap.size := ⟨_, rfl⟩
  have h0 : (w1.alloc (.cells (tabA 0) 248)).heap[w1.heap.size]? = some (.cells (tabA 0) 248 (0, 0)) := heap_alloc_new _ _
  have H0 := Lib.hid h0
  have HG := Lib.hid hg
  clear h0 hg
  go_wp2_with (first | (refine Great.wpList_allocTo rfl _ rfl _ _ (run_alloc_tab _ _ _ rfl) ?_) | (refine wpList_store_row rfl _ _ _ rfl w1.heap.size (tabA 256) rfl rfl 248 (tabA 0) H0.out info_tab (by rw [tabA_size, tabA_size]) tabA_cells ?_))
  have hT : Tg w w.heap.size g (((w1.alloc (.cells (tabA 0) 248)).setRow w1.heap.size (tabA 256))) := by
    rw [HG.out]
    exact ⟨setRow_heap _ _ _ _ _ _ H0.out, below_setRow (hb1.alloc hg1 _) hg1 _⟩
  have HT := Lib.hid hT
  rw [← HG.out] at HT ⊢
  obtain ⟨W, hW⟩ : ∃ W, W = (w1.alloc (.cells (tabA 0) 248)).setRow g (tabA 256) := ⟨_, rfl⟩
  rw [← hW] at HT ⊢
  clear hT hW H0
  go_loopw [4, 12] (fun vx vk wr => ∃ x k : Nat, vx = .int .u32 x ∧ vk = .int .i64 k ∧ k ≤ n ∧ x < 4294967296 ∧ x = regB 4294967295 (xss.take k).flatten ∧ Tg w w.heap.size g wr) (fun _ vk _ => n - (intOf vk).toNat)
  case atStart => exact ⟨4294967295, 0, rfl, rfl, by omega, by omega, by rw [List.take_zero, List.flatten_nil, regB_nil], HT.out⟩
  case round =>
    clear HT
    obtain ⟨x, k, rfl, rfl, hk, hx4, hs, hT⟩ := hrel
    have Hs := Lib.hid hs
    clear hs
    by_cases hlt : k < n
    · obtain ⟨b, off, rfl, hbl⟩ := hx.pos (by omega)
      obtain ⟨p, B, m, d, hk1, hc0, rp0, hmd, _⟩ := hx.at_ k hlt
      have hc := (hT.2.cell (p := ⟨b, off + k, none⟩) hbl).trans hc0
      have hta := tot_at hk1
      have HPL := Lib.hid rp0.len
      have hm : m ≤ 1099511627776 := by have := rp0.len; omega
      have S : Hid ((xss.take (k + 1)).flatten = (xss.take k).flatten ++ p) := Lib.hid (by rw [List.take_add_one, hk1]; simp)
      have HT := Lib.hid hT
      obtain ⟨wo, hwo⟩ : ∃ wo : World, wo = wr := ⟨_, rfl⟩
      rw [← hwo] at hc HT ⊢
      clear hk1 hc0 hbl hT hwo wr
      go_wp2
      go_loopw [4, 18] (fun vy vj wt => ∃ y j : Nat, vy = .int .u32 y ∧ vj = .int .i64 j ∧ j ≤ m ∧ y < 4294967296 ∧ y = regB x (p.take j) ∧ Tg w w.heap.size g wt) (fun _ vj _ => m - (intOf vj).toNat)
      case atStart => exact ⟨x, 0, rfl, rfl, by omega, hx4, by rw [List.take_zero, regB_nil], HT.out⟩
      case round =>
        clear HT
        obtain ⟨y, j, rfl, rfl, hj, hy4, hs, hT⟩ := hrel
        have Hs2 := Lib.hid hs
        clear hs
        by_cases hjm : j < m
        · obtain ⟨bp, op, rfl, hbp⟩ := rp0.pos (by omega)
          obtain ⟨v, hv, hcv0, hv255⟩ := rp0.at_ j hjm
          have hc := (hT.2.cell (p := ⟨bp, op + j, none⟩) hbp).trans hcv0
          have hv8 := v.toNat_lt
          obtain ⟨z, hz⟩ : ∃ z : Nat, z = y % 256 ^^^ v.toNat := ⟨_, rfl⟩
          have hz256 : z < 256 := by rw [hz]; exact Nat.xor_lt_two_pow (n := 8) (by omega) hv8
          have e1 : bits .xor .u8 ((y : Int) % 256) (v.toNat : Int) = (z : Int) := by
            have := u8_xor_nat (y % 256) v.toNat (by omega) hv8
            rw [← hz] at this
            exact this
          have hc2 := hT.cell z hz256
          obtain ⟨S, hS⟩ : ∃ S : Nat, S = stps 8 z := ⟨_, rfl⟩
          have hS32 : S < 4294967296 := by rw [hS]; exact stps_lt 8 (by omega)
          rw [← hS] at hc2
          have e2 : bits .xor .u32 ((y : Int) / 256) (S : Int) = ((y / 256 ^^^ S : Nat) : Int) := u32_xor_nat (y / 256) S (by omega) hS32
          have hl : y / 256 ^^^ S < 4294967296 := Nat.xor_lt_two_pow (n := 32) (by omega) hS32
          have HR : Hid (y / 256 ^^^ S = regB x (p.take (j + 1))) := Lib.hid (by rw [regB_take x hv, ← Hs2.out, hS, hz, stps8_byte y v])
          have HT := Lib.hid hT
          clear hT hS hz hcv0 hv
          go_wp2
          go_roundw
          case rel => exact ⟨y / 256 ^^^ S, j + 1, by go_num, by go_num, by omega, hl, HR.out, HT.out⟩
          case measure => simp [intOf]; omega
        · obtain rfl : j = m := by omega
          have HR : Hid (y = regB 4294967295 (xss.take (k + 1)).flatten) := Lib.hid (by
            rw [S.out, regB_app, ← Hs.out, Hs2.out, List.take_of_length_le (by rw [HPL.out]; omega)])
          have HT := Lib.hid hT
          clear hT
          go_wp2
          go_roundw
          case rel => exact ⟨y, k + 1, rfl, by go_num, by omega, hy4, HR.out, HT.out⟩
          case measure => simp [intOf]; omega
    · obtain rfl : k = n := by omega
      have e1 := u32_not hx4
      have HB := hT.2
      go_wp2
      go_ret
      refine ⟨?_, HB⟩
      have h3 : crcB xss.flatten = 4294967295 - x := by rw [crcB, Hs.out, List.take_of_length_le (by rw [HXL.out]; omega)]
      rw [h3]
      rfl
end Go.Proofs.YtlnpicfkcahdbaaGreat
namespace Go.Proofs.YtlnpicfkcahdbaaGreat
open Go Go.RowKit

/-- 'It hands back the four bytes as an array; what was in memory stands.' -/
def RetW (w : World) (n : Nat) (e : Ending) (w' : World) : Prop := e = .returned (.agg ((fourB n).map cv).toArray) ∧ Below w.heap.size w w'
theorem fourB_val {n : Nat} (hn : n < 4294967296) : ((fourB n).map cv).toArray = #[.int .u8 ((n : Int) / 16777216), .int .u8 ((n : Int) / 65536 % 256), .int .u8 ((n : Int) / 256 % 256), .int .u8 ((n : Int) % 256)] := by
  show (List.map cv [bt (n / 16777216), bt (n / 65536), bt (n / 256), bt n]).toArray = _
  simp only [List.map_cons, List.map_nil, cv, bt_mod]
  rw [show ((n / 16777216 % 256 : Nat) : Int) = (n : Int) / 16777216 by omega, show ((n / 65536 % 256 : Nat) : Int) = (n : Int) / 65536 % 256 by omega, show ((n / 256 % 256 : Nat) : Int) = (n : Int) / 256 % 256 by omega, show ((n % 256 : Nat) : Int) = (n : Int) % 256 by omega]
theorem info_four : (Tryz.prog.info? 225).map (·.size) = some 4 := by kernel_rfl
set_option maxRecDepth 100000 in
theorem word_any (n : Nat) (w : World) (hn : n < 4294967296) : Calls Tryz.prog 165 #[.int .u32 n] w (RetW w n) := by
  have HV := Lib.hid (fourB_val hn)
  go_enter Tryz.func165, Tryz.ntmps165
  go_wp2
  rw [← HV.out]
  exact bodyPost_ret (v := .agg ((fourB n).map cv).toArray) (results_cell_row rfl _ _ w.heap.size 225 _ (0, 0) _ rfl (heap_alloc_new _ _) Tryz.underlying225 rfl info_four) rfl ⟨rfl, (Below.refl _ _).alloc (Nat.le_refl _) _⟩

theorem numK_take {xs : List UInt8} {i : Nat} {b : UInt8} (h : xs[i]? = some b) : numK xs (i + 1) = numK xs i * 256 + b.toNat := by
  rw [numK, List.getD_eq_getElem?_getD, h, Option.getD_some]
theorem or_byte {m : Nat} (b : UInt8) (h : m < 16777216) : bits .or .u32 ((m : Int) * 256) (b.toNat : Int) = ((m * 256 + b.toNat : Nat) : Int) := by
  have hb := b.toNat_lt
  have h1 := u32_or_nat (m * 256) b.toNat (by omega) (by omega)
  have h2 : m * 256 ||| b.toNat = m * 256 + b.toNat := by
    rw [Nat.mul_comm]
    exact (Nat.two_pow_add_eq_or_of_lt (i := 8) (by simpa using hb) m).symm
  rw [h2] at h1
  exact h1

set_option maxRecDepth 100000 in
set_option maxHeartbeats 1000000 in
theorem getWord_any (A : Option Addr) (n c : Nat) (xs : List UInt8) (w : World) (hx : Rd w A n xs) (h4 : 4 ≤ n) (hn : n ≤ 1099511627776) (hnc : n ≤ c) :
    Calls Tryz.prog 160 #[.slice A n c] w (RetU w (numK xs 4)) := by
  have hsl : ∀ w, (Instr.slice 28 (.slice A n c) none (some (.int .i64 4)) none).run Tryz.prog w = .ok (.slice A 4 c) w :=
    cut_h Tryz.underlying28 elem_bytes size_u8 A (m := 4) (by omega)
  go_enter Tryz.func160, Tryz.ntmps160
  go_wp2
  go_loopw [3, 9] (fun vm vi wr => ∃ m i q : Nat, vm = .int .u32 m ∧ vi = .int .i64 i ∧ i ≤ 4 ∧ m = numK xs i ∧ wr = w.drewN q) (fun _ vi _ => 4 - (intOf vi).toNat)
  case atStart => exact ⟨0, 0, 0, rfl, rfl, by omega, rfl, rfl⟩
  case round =>
    obtain ⟨m, i, q, rfl, rfl, hi, hm, rfl⟩ := hrel
    have hml := numK_lt xs i
    rw [← hm] at hml
    have Hm := Lib.hid hm
    clear hm
    by_cases hlt : i < 4
    · have hm3 : m < 16777216 := Nat.lt_of_lt_of_le hml (Nat.le_trans (Nat.pow_le_pow_right (by decide) (show i ≤ 3 by omega)) (by decide))
      clear hml
      obtain ⟨bf, off, rfl, _⟩ := hx.pos (by omega)
      obtain ⟨b, hb, hc, _⟩ := hx.at_ i (by omega)
      have hb8 := b.toNat_lt
      have e0 : (m : Int) * 256 % 4294967296 = (m : Int) * 256 := by omega
      have e1 := or_byte b hm3
      have HR : Hid (m * 256 + b.toNat = numK xs (i + 1)) := Lib.hid (by rw [numK_take hb, Hm.out])
      clear hb
      obtain ⟨W, hW⟩ : ∃ W, W = w.drewN q := ⟨_, rfl⟩
      have c1 : W.cell? ⟨bf, off + i, none⟩ = some (.int .u8 (b.toNat : Int)) := by rw [hW]; exact hc
      rw [← hW]
      have HW := Lib.hid hW
      clear hW hc
      go_wp2
      go_roundw
      case rel => exact ⟨m * 256 + b.toNat, i + 1, q, by go_num, by go_num, by omega, HR.out, HW.out⟩
      case measure => simp [intOf]; omega
    · obtain rfl : i = 4 := by omega
      clear hml
      go_wp2
      go_ret
      exact ⟨by rw [Hm.out]; rfl, q, rfl⟩
end Go.Proofs.YtlnpicfkcahdbaaGreat
namespace Go.Proofs.YtlnpicfkcahdbaaGreat
open Go Go.RowKit

theorem partsF_len {xs : List UInt8} : ∀ (f p : Nat) (acc : List (List UInt8)), (∀ x ∈ acc, (x : List UInt8).length ≤ xs.length) → ∀ x ∈ (partsF xs f p acc).1, (x : List UInt8).length ≤ xs.length
  | 0, p, acc, h => by
    rw [partsF]
    split
    · simp
    · exact h
  | f + 1, p, acc, h => by
    rw [partsF]
    split
    · split
      · simp
      · split
        · simp
        · refine partsF_len f _ _ fun x hx => ?_
          rcases List.mem_append.1 hx with e | e
          · exact h x e
          · rw [List.mem_singleton.1 e, List.length_take, List.length_drop]
            omega
    · exact h
theorem parts_len (xs : List UInt8) : ∀ x ∈ (parts xs).1, (x : List UInt8).length ≤ xs.length := partsF_len _ _ _ (by simp)

theorem partsF_count {xs : List UInt8} : ∀ (f p : Nat) (acc : List (List UInt8)), (partsF xs f p acc).1.length ≤ acc.length + f
  | 0, p, acc => by
    rw [partsF]
    split <;> simp
  | f + 1, p, acc => by
    rw [partsF]
    split
    · split
      · simp
      · split
        · simp
        · have := partsF_count (xs := xs) f ((getU xs p).2.1.toNat + (getU xs p).1) (acc ++ [(xs.drop (getU xs p).2.1.toNat).take (getU xs p).1])
          simp only [List.length_append, List.length_cons, List.length_nil] at this
          omega
    · simp only
      omega
theorem parts_count (xs : List UInt8) : (parts xs).1.length ≤ xs.length := by
  have := partsF_count (xs := xs) xs.length 0 []
  simpa [parts] using this
end Go.Proofs.YtlnpicfkcahdbaaGreat
namespace Go.Proofs.YtlnpicfkcahdbaaGreat
open Go Go.RowKit

theorem rdl_box {w : World} {t : TypeId} {vs : List Value} {xss : List (List UInt8)} {n : Nat} (hl : vs.length = n) (hx : xss.length = n) (h : ∀ (i : Nat) v x, vs[i]? = some v → xss[i]? = some x → ElB w v x) (cs : Array Value) (hc : cs = vs.toArray) :
    RdL (w.alloc (.cells cs t)) (some ⟨w.heap.size, 0, none⟩) n xss := by
  subst hc
  refine ⟨hx, fun _ => ⟨w.heap.size, 0, rfl, by simp, fun i x hi => ?_⟩⟩
  have hlt := (List.getElem?_eq_some_iff.1 hi).1
  obtain ⟨v, hv⟩ : ∃ v, vs[i]? = some v := ⟨_, List.getElem?_eq_getElem (by omega)⟩
  refine ⟨v, ?_, (h i v x hv hi).below ((Below.refl _ _).alloc (Nat.le_refl _) _)⟩
  rw [cell_of_row (w.alloc (.cells vs.toArray t)) w.heap.size (0 + i) vs.toArray t (0, 0) (heap_alloc_new w _)]
  simp [hv]
theorem rdl_two {w : World} {t : TypeId} {v1 v2 : Value} {x1 x2 : List UInt8} (h1 : ElB w v1 x1) (h2 : ElB w v2 x2) (g : Nat) (hg : g = w.heap.size) : RdL (w.alloc (.cells #[v1, v2] t)) (some ⟨g, 0, none⟩) 2 [x1, x2] := by
  subst hg
  refine rdl_box (vs := [v1, v2]) rfl rfl (fun i v x hv hx => ?_) _ rfl
  match i, hv, hx with
  | 0, hv, hx => simp at hv hx; subst hv hx; exact h1
  | 1, hv, hx => simp at hv hx; subst hv hx; exact h2
  | i + 2, hv, hx => simp at hv
end Go.Proofs.YtlnpicfkcahdbaaGreat
namespace Go.Proofs.YtlnpicfkcahdbaaGreat
open Go Go.RowKit

theorem numK_four (a b c d : UInt8) (r : List UInt8) : numK (a :: b :: c :: d :: r) 4 = ((a.toNat * 256 + b.toNat) * 256 + c.toNat) * 256 + d.toNat := by
  simp [numK]
theorem four_cons {ys : List UInt8} (h : 4 ≤ ys.length) : ∃ a b c d r, ys = a :: b :: c :: d :: r := by
  match ys, h with
  | a :: b :: c :: d :: r, _ => exact ⟨a, b, c, d, r, rfl⟩
theorem bt_byte (a : UInt8) {k : Nat} (h : k % 256 = a.toNat) : bt k = a := by
  apply UInt8.toNat_inj.1
  rw [bt_mod, h]
theorem fourB_numK {ys : List UInt8} (h : 4 ≤ ys.length) : fourB (numK ys 4) = ys.take 4 := by
  obtain ⟨a, b, c, d, r, rfl⟩ := four_cons h
  have ha := a.toNat_lt
  have hb := b.toNat_lt
  have hc := c.toNat_lt
  have hd := d.toNat_lt
  rw [numK_four]
  show [bt _, bt _, bt _, bt _] = [a, b, c, d]
  rw [bt_byte a (by omega), bt_byte b (by omega), bt_byte c (by omega), bt_byte d (by omega)]
theorem numK_fourB (n : Nat) (r : List UInt8) (hn : n < 4294967296) : numK (fourB n ++ r) 4 = n := by
  show numK (bt _ :: bt _ :: bt _ :: bt _ :: r) 4 = n
  rw [numK_four]
  simp only [bt_mod]
  omega
theorem numK_take4 (ys : List UInt8) (m : Nat) (h : 4 ≤ m) : numK (ys.take m) 4 = numK ys 4 := by
  simp only [numK, List.getD_eq_getElem?_getD, List.getElem?_take, show (0 : Nat) < m by omega, show (1 : Nat) < m by omega, show (2 : Nat) < m by omega, show (3 : Nat) < m by omega, if_true]
/-- The record is whole just if the sum that it says is its own. -/
theorem whole_eq {rs : List UInt8} {m : Nat} (hm : m = numK rs 4) (hl : 8 + m ≤ rs.length) :
    (eqB (sealB ((rs.take (8 + m)).drop 8)) (rs.take (8 + m)) = true) ↔ crcB (rs.take 4 ++ (rs.take (8 + m)).drop 8) = numK (rs.drop 4) 4 := by
  have hbl : ((rs.take (8 + m)).drop 8).length = m := by rw [List.length_drop, List.length_take]; omega
  have h4 : fourB m = rs.take 4 := by rw [hm, fourB_numK (by omega)]
  have hsplit : rs.take (8 + m) = rs.take 4 ++ ((rs.drop 4).take 4 ++ (rs.take (8 + m)).drop 8) := by
    apply List.ext_getElem?
    intro i
    have hm4 : min 4 rs.length = 4 := by omega
    have hm8 : min 4 (rs.length - 4) = 4 := by omega
    simp only [List.getElem?_append, List.length_take, List.length_drop, List.getElem?_take, List.getElem?_drop, hm4, hm8]
    by_cases h1 : i < 4
    · simp [h1, show i < 8 + m by omega]
    · by_cases h2 : i - 4 < 4
      · simp [h1, h2, show i < 8 + m by omega, show 4 + (i - 4) = i by omega]
      · simp [h1, h2, show 8 + (i - 4 - 4) = i by omega]
  obtain ⟨bd, hbd⟩ : ∃ bd, bd = (rs.take (8 + m)).drop 8 := ⟨_, rfl⟩
  obtain ⟨wh, hwh⟩ : ∃ wh, wh = rs.take (8 + m) := ⟨_, rfl⟩
  rw [← hbd] at hsplit hbl ⊢
  rw [← hwh] at hsplit ⊢
  unfold eqB
  rw [beq_iff_eq]
  unfold sealB
  rw [hbl, h4, hsplit]
  have hc : crcB (rs.take 4 ++ bd) < 4294967296 := crcB_lt _
  have hn : numK (rs.drop 4) 4 = numK ((rs.drop 4).take 4) 4 := (numK_take4 _ 4 (Nat.le_refl _)).symm
  constructor
  · intro h
    have h1 := List.append_cancel_right (List.append_cancel_left h)
    rw [hn, ← h1]
    have := numK_fourB _ [] hc
    rw [List.append_nil] at this
    exact this.symm
  · intro h
    rw [h, fourB_numK (by rw [List.length_drop]; omega)]
end Go.Proofs.YtlnpicfkcahdbaaGreat
namespace Go.Proofs.YtlnpicfkcahdbaaGreat
open Go Go.RowKit

/-- The append of what reads as these slices onto a row of slices of the call's own. -/
theorem wpList_appV {P : Program} (w : World) {ops : Array Oper} {rest : List Oper} {o : Oper} {a : Act} {Q : Exit → Act → World → Prop} (hgd : o.guard = none) (s x : Operand) (tt : TypeId)
    (ho : o.op = .call { callee := .builtin .append, args := #[s, x], argTypes := #[tt, tt] })
    (base : Nat) (t : TypeId) (z : Value) (by_ : Nat) (ht : P.underlying tt = some (.slice t)) (hi : (P.info? t).map (fun i => (i.zero, i.size, i.bytes)) = some (some z, 1, by_)) (hz1 : z.cells.size = 1)
    (A : Option Addr) (n c : Nat) (vs : List Value) (hs : a.eval s = .slice A n c) (hown : OwnV t w base A n c vs)
    (B : Option Addr) (m d : Nat) (ys : List Value) (hx : a.eval x = .slice B m d) (hr : RdV w B m ys) (h1 : ∀ u ∈ ys, u.oneCell' = true)
    (hn : n + m ≤ maxLen) (hby : (n + m) * by_ ≤ 140737488355328) (hbase : base ≤ w.heap.size)
    (h : ∀ A' c' w', OwnV t w' base A' (n + m) c' (vs ++ ys) → w.grownBy w' (blk A) → (blk A' = blk A ∨ blk A' = some w.heap.size) → wpList P ops Q rest (a.put o.dst (.slice A' (n + m) c')) w') :
    wpList P ops Q (o :: rest) a w := by
  obtain ⟨i, hi, hz, hsz, hby2⟩ := info_parts hi
  cases B with
  | none =>
    obtain ⟨rfl, rfl⟩ : m = 0 ∧ ys = [] := by
      rcases Nat.eq_zero_or_pos m with h0 | h0
      · exact ⟨h0, List.eq_nil_of_length_eq_zero (by rw [hr.1, h0])⟩
      · obtain ⟨_, _, e, _⟩ := hr.2 h0; cases e
    refine wpList_app_none hgd s x tt ho base t i 1 ht (by rw [hi]) (.slice A n c) n vs hs (by exact hown) d hx ?_
    exact h A c w (by simpa using hown) (World.grownBy.refl w _) (.inl rfl)
  | some ad =>
    have hnews : ∀ j u, ys[j]? = some u → w.cell? (ad.add j) = some u := fun j u hj => by
      have hm : 0 < m := by have := hr.1; have := (List.getElem?_eq_some_iff.1 hj).1; omega
      obtain ⟨b, off, e, _, hc⟩ := hr.2 hm
      injection e with e
      subst e
      rw [Addr.add_lit]
      exact hc j u hj
    refine wpList_append_own_at (w := w) hgd s x tt ho base t i z 1 by_ ht hi hz hsz hby2 hz1 (by decide) (.slice A n c) n vs hs hown ad m d ys hx (by rw [hr.1, Nat.mul_one]) hnews h1 hn hby hbase ?_
    intro v' w' k1 k2 _ k3
    rw [own_blk] at k2
    obtain ⟨A', c', rfl⟩ : ∃ A' c', v' = .slice A' (n + m) c' := by
      rcases k1.2 with ⟨h3, h4⟩ | ⟨g, cap, cur, h4, _⟩
      · exact ⟨none, 0, by rw [h3, h4]⟩
      · exact ⟨_, _, h4⟩
    rw [own_blk, own_blk] at k3
    exact h A' c' w' k1 k2 k3

section
variable {w w' : World} {base : Nat} {a b ps : List VB}
theorem Fam.turn {g N : Nat} {xs ys : List UInt8} (h : Fam w base (a ++ ((.slice (some ⟨g, 0, none⟩) N N, xs) :: b))) (ho : Own 5 w' base (some ⟨g, 0, none⟩) N N ys) (hg : w.grownBy w' (some g)) :
    Fam w' base (a ++ ((.slice (some ⟨g, 0, none⟩) N N, ys) :: b)) := by
  obtain ⟨h1, h2⟩ := h
  rw [List.pairwise_append, List.pairwise_cons] at h2
  obtain ⟨p1, ⟨p2, p3⟩, p4⟩ := h2
  have key : ∀ p, (p ∈ a ∨ p ∈ b) → ∃ A m c, p.1 = .slice A m c ∧ Own 5 w' base A m c p.2 := fun p hp => by
    obtain ⟨A, m, c, e, ho⟩ := h1 p (by rcases hp with hp | hp <;> simp [hp])
    refine ⟨A, m, c, e, ho.kept hg (fun k hk e2 => ?_)⟩
    injection e2 with e2
    subst e2
    rcases hp with hp | hp
    · exact p4 p hp _ (List.mem_cons_self ..) g (by rw [e, own_blk]; exact hk) rfl
    · exact p2 p hp g rfl (by rw [e, own_blk]; exact hk)
  refine ⟨fun p hp => ?_, ?_⟩
  · simp only [List.mem_append, List.mem_cons] at hp
    rcases hp with hp | rfl | hp
    · exact key p (.inl hp)
    · exact ⟨_, _, _, rfl, ho⟩
    · exact key p (.inr hp)
  · rw [List.pairwise_append, List.pairwise_cons]
    exact ⟨p1, ⟨fun q hq => p2 q hq, p3⟩, fun x hx y hy => by
      rcases List.mem_cons.1 hy with rfl | hy
      · exact fun k e1 e2 => p4 x hx _ (List.mem_cons_self ..) k e1 e2
      · exact p4 x hx y (List.mem_cons_of_mem _ hy)⟩
theorem Fam.pre (h : Fam w base ps) : Pre w base (ps.map (·.1)) (fun _ _ _ => True) := fun i v hv => by
  rw [List.getElem?_map] at hv
  cases hp : ps[i]? with
  | none => rw [hp] at hv; cases hv
  | some p =>
    rw [hp] at hv
    injection hv with hv
    subst hv
    obtain ⟨A, m, c, e, ho⟩ := h.1 p (List.mem_of_getElem? hp)
    exact ⟨A, m, c, p.2, e, ho, trivial⟩
theorem OffF.map {k : Nat} (h : OffF ps k) : ∀ (i : Nat) (v : Value), (ps.map (·.1))[i]? = some v → Value.ownBlock v ≠ some k := fun i v hv => by
  rw [List.getElem?_map] at hv
  cases hp : ps[i]? with
  | none => rw [hp] at hv; cases hv
  | some p =>
    rw [hp] at hv
    injection hv with hv
    subst hv
    exact h p (List.mem_of_getElem? hp)
end

end Go.Proofs.YtlnpicfkcahdbaaGreat
namespace Go.Proofs.YtlnpicfkcahdbaaGreat
open Go Go.RowKit

/-- 'The row that lay at A lies at A' now: it grew where it lay, or lies in a new block; all else stands.' -/
def Grow (w w' : World) (A A' : Option Addr) : Prop := w.grownBy w' (blk A) ∧ (blk A' = blk A ∨ ∀ b, blk A' = some b → w.heap.size ≤ b)
theorem grown_then {a b c : World} {row row' : Option Nat} (h : a.grownBy b row) (k : b.grownBy c row') (hr : ∀ j, row' = some j → a.heap.size ≤ j ∨ row = some j) : a.grownBy c row := by
  obtain ⟨h1, h2, h3, h4, h5⟩ := h
  obtain ⟨k1, k2, k3, k4, k5⟩ := k
  refine ⟨k1.trans h1, k2.trans h2, k3.trans h3, Nat.le_trans h4 k4, fun i hi hne => (k5 i (Nat.lt_of_lt_of_le hi h4) fun e => ?_).trans (h5 i hi hne)⟩
  rcases hr i e.symm with h6 | h6
  · omega
  · exact hne h6.symm
theorem Grow.refl (w : World) (A : Option Addr) : Grow w w A A := ⟨World.grownBy.refl w _, .inl rfl⟩
theorem Grow.size {w w' : World} {A A' : Option Addr} (h : Grow w w' A A') : w.heap.size ≤ w'.heap.size := h.1.size
theorem Grow.trans {w w1 w2 : World} {A A1 A2 : Option Addr} (h : Grow w w1 A A1) (k : Grow w1 w2 A1 A2) : Grow w w2 A A2 := by
  have hs := h.size
  refine ⟨grown_then h.1 k.1 (fun j hj => ?_), ?_⟩
  · rcases h.2 with e | e
    · exact .inr (by rw [← e]; exact hj)
    · exact .inl (e j hj)
  · rcases k.2 with e | e
    · rcases h.2 with e2 | e2
      · exact .inl (e.trans e2)
      · exact .inr fun b hb => e2 b (by rw [← e]; exact hb)
    · exact .inr fun b hb => Nat.le_trans hs (e b hb)
theorem Grow.of_below {w w1 : World} (A : Option Addr) (h : Below w.heap.size w w1) : Grow w w1 A A :=
  ⟨⟨h.os, h.tape, h.output, h.size, fun b hb _ => h.block b hb⟩, .inl rfl⟩
theorem Grow.below {e : TypeId} {w w' : World} {base n c : Nat} {A A' : Option Addr} {xs : List UInt8} (h : Grow w w' A A') (ho : Own e w base A n c xs) (hb : base ≤ w.heap.size) : Below base w w' :=
  (Below.refl _ _).grown h.1 hb (fun k hk => (ho.lt k hk).1)
theorem Grow.kept {e : TypeId} {w w' : World} {base n c : Nat} {A A' B : Option Addr} {xs : List UInt8} (h : Grow w w' A A') (ho : Own e w base B n c xs) (hd : Dj A B) : Own e w' base B n c xs :=
  ho.kept h.1 (fun b hb e => hd b e hb)
theorem Grow.dj {e : TypeId} {w w' : World} {base n c : Nat} {A A' B : Option Addr} {xs : List UInt8} (h : Grow w w' A A') (ho : Own e w base B n c xs) (hd : Dj A B) : Dj A' B := fun b h1 h2 => by
  rcases h.2 with e | e
  · exact hd b (by rw [← e]; exact h1) h2
  · have h3 := e b h1
    have h4 := (ho.lt b h2).2
    omega
theorem Rd.vals {w : World} {B : Option Addr} {m : Nat} {ys : List UInt8} (h : Rd w B m ys) : RdV w B m (ys.map cv) := by
  refine ⟨by simp [h.1], fun hm => ?_⟩
  obtain ⟨b, off, e, hb, hc⟩ := h.2 hm
  refine ⟨b, off, e, hb, fun i v hv => ?_⟩
  rw [List.getElem?_map] at hv
  cases hy : ys[i]? with
  | none => rw [hy] at hv; cases hv
  | some y =>
    rw [hy] at hv
    injection hv with hv
    subst hv
    exact hc i y hy
/-- An append of bytes that tells where the row lies. -/
theorem wpList_appX {P : Program} (w : World) {ops : Array Oper} {rest : List Oper} {o : Oper} {a : Act} {Q : Exit → Act → World → Prop} (hgd : o.guard = none) (s x : Operand) (tt : TypeId)
    (ho : o.op = .call { callee := .builtin .append, args := #[s, x], argTypes := #[tt, tt] })
    (base : Nat) (t : TypeId) (ht : P.underlying tt = some (.slice t)) (hi : (P.info? t).map (fun i => (i.zero, i.size, i.bytes)) = some (some (.int .u8 0), 1, 1))
    (A : Option Addr) (n c : Nat) (xs : List UInt8) (hs : a.eval s = .slice A n c) (hown : Own t w base A n c xs)
    (B : Option Addr) (m d : Nat) (ys : List UInt8) (hx : a.eval x = .slice B m d) (hr : Rd w B m ys)
    (hby : n + m ≤ 140737488355328) (hbase : base ≤ w.heap.size)
    (h : ∀ A' c' w', Own t w' base A' (n + m) c' (xs ++ ys) → Grow w w' A A' → wpList P ops Q rest (a.put o.dst (.slice A' (n + m) c')) w') :
    wpList P ops Q (o :: rest) a w :=
  wpList_appV w hgd s x tt ho base t (.int .u8 0) 1 ht hi rfl A n c (xs.map cv) hs hown B m d (ys.map cv) hx hr.vals (cv_one ys) (by unfold maxLen; omega) (by omega) hbase
    (fun A' c' w' h1 h2 h3 => h A' c' w' (by rw [← List.map_append] at h1; exact h1) ⟨h2, h3.imp id (fun e b hb => by rw [e] at hb; injection hb with hb; omega)⟩)
/-- 'The row with ys behind it.' -/
def RetAp (base : Nat) (w : World) (A : Option Addr) (n : Nat) (xs ys : List UInt8) (e : Ending) (w' : World) : Prop :=
  ∃ A' c', e = .returned (.slice A' (n + ys.length) c') ∧ Own 5 w' base A' (n + ys.length) c' (xs ++ ys) ∧ Grow w w' A A'
theorem appendWord_any (A : Option Addr) (n c : Nat) (xs : List UInt8) (base v : Nat) (w : World) (ho : Own 5 w base A n c xs) (hb : base ≤ w.heap.size) (hn : n ≤ 1099511627776) (hv : v < 4294967296) :
    Calls Tryz.prog 195 #[.slice A n c, .int .i64 (v : Int)] w (RetAp base w A n xs (fourB v)) := by
  have hc : ∀ i : Nat, ((bt i).toNat : Int) = (i : Int) % 256 := fun i => by
    have : (UInt8.ofNat i).toNat = i % 256 := by simp [UInt8.toNat_ofNat']
    unfold bt
    omega
  have hw : #[Value.int .u8 ((v : Int) / 16777216), .int .u8 ((v : Int) / 65536 % 256), .int .u8 ((v : Int) / 256 % 256), .int .u8 ((v : Int) % 256)] = ((fourB v).map cv).toArray := by
    have e : fourB v = [bt (v / 16777216), bt (v / 65536), bt (v / 256), bt v] := rfl
    rw [e]
    simp only [List.map_cons, List.map_nil, cv, hc]
    rw [show ((v / 16777216 : Nat) : Int) % 256 = (v : Int) / 16777216 by omega, show ((v / 65536 : Nat) : Int) = (v : Int) / 65536 by omega, show ((v / 256 : Nat) : Int) = (v : Int) / 256 by omega]
  have HW := Lib.hid hw
  clear hw hc
  go_enter Tryz.func195, Tryz.ntmps195
  go_wp2_with (at_builtin; refine wpList_appX _ rfl _ _ 28 rfl base 5 Tryz.underlying28 info_u8 A n c xs rfl (ho.alloc _) _ 4 4 (fourB v) rfl (Rd.lit _ _ 4 (fourB v) rfl _ HW.out) ?_ ?_ ?_)
  · omega
  · simp; omega
  intro A' c' w' o2 g2
  go_wp2_with fail
  go_ret
  exact ⟨A', c', rfl, o2, (Grow.of_below A ((Below.refl _ _).alloc (Nat.le_refl _) _)).trans g2⟩
end Go.Proofs.YtlnpicfkcahdbaaGreat
namespace Go.Proofs.YtlnpicfkcahdbaaGreat
open Go Go.RowKit

end Go.Proofs.YtlnpicfkcahdbaaGreat
namespace Go.Proofs.YtlnpicfkcahdbaaGreat
open Go Go.RowKit

theorem flat_len (xss : List (List UInt8)) : xss.flatten.length ≤ tot xss := by
  induction xss with
  | nil => simp [tot]
  | cons x r ih => simp only [List.flatten_cons, List.length_append, tot]; omega
theorem flat_take_le (xss : List (List UInt8)) (k : Nat) : (xss.take k).flatten.length ≤ xss.flatten.length := by
  have h : xss.flatten = (xss.take k).flatten ++ (xss.drop k).flatten := by rw [← List.flatten_append, List.take_append_drop]
  rw [h, List.length_append]
  omega
theorem flat_snoc {xss : List (List UInt8)} {k : Nat} {x : List UInt8} (h : xss[k]? = some x) : (xss.take (k + 1)).flatten = (xss.take k).flatten ++ x := by
  rw [List.take_add_one, h]; simp

/-- The values of a row of lists. -/
theorem RdL.vals {w : World} {A : Option Addr} {n : Nat} {xss : List (List UInt8)} (h : RdL w A n xss) :
    ∃ vs : List Value, RdV w A n vs ∧ (∀ (i : Nat) v x, vs[i]? = some v → xss[i]? = some x → ElB w v x) ∧ ∀ u ∈ vs, u.oneCell' = true := by
  have key : ∀ m, m ≤ n → ∃ vs : List Value, vs.length = m ∧ (∀ b off, A = some ⟨b, off, none⟩ → ∀ (i : Nat) v, vs[i]? = some v → w.cell? ⟨b, off + i, none⟩ = some v) ∧ (∀ (i : Nat) v x, vs[i]? = some v → xss[i]? = some x → ElB w v x) ∧ ∀ u ∈ vs, u.oneCell' = true := by
    intro m
    induction m with
    | zero => intro _; exact ⟨[], rfl, by simp, by simp, by simp⟩
    | succ m ih =>
      intro hm
      obtain ⟨vs, h1, h2, h3, h4⟩ := ih (by omega)
      obtain ⟨b, off, rfl, _⟩ := h.pos (by omega)
      obtain ⟨x, X, nx, cx, hk1, hc0, rx0, hxc, hnil⟩ := h.at_ m (by omega)
      refine ⟨vs ++ [.slice X nx cx], by simp [h1], ?_, ?_, ?_⟩
      · intro b' off' e i v hi
        rw [List.getElem?_append] at hi
        split at hi
        · exact h2 b' off' e i v hi
        · next hlt =>
          have : i = m := by
            have := (List.getElem?_eq_some_iff.1 hi).1
            simp at this
            omega
          subst this
          injection e with e
          injection e with e1 e2
          subst e1 e2
          rw [h1, Nat.sub_self] at hi
          simp at hi
          rw [← hi]
          exact hc0
      · intro i v y hi hy
        rw [List.getElem?_append] at hi
        split at hi
        · exact h3 i v y hi hy
        · next hlt =>
          have : i = m := by
            have := (List.getElem?_eq_some_iff.1 hi).1
            simp at this
            omega
          subst this
          rw [h1, Nat.sub_self] at hi
          simp at hi
          rw [hk1] at hy
          injection hy with hy
          subst hi hy
          exact ⟨X, nx, cx, rfl, rx0, hxc, hnil⟩
      · intro u hu
        rw [List.mem_append, List.mem_singleton] at hu
        rcases hu with hu | rfl
        · exact h4 u hu
        · rfl
  obtain ⟨vs, h1, h2, h3, h4⟩ := key n (Nat.le_refl _)
  refine ⟨vs, ⟨h1, fun hn => ?_⟩, h3, h4⟩
  obtain ⟨b, off, e, hb⟩ := h.pos hn
  exact ⟨b, off, e, hb, h2 b off e⟩

/-- A row of values that read as lists, read as a list of lists. -/
theorem RdV.rdl {w : World} {A : Option Addr} {n : Nat} {vs : List Value} {xss : List (List UInt8)} (h : RdV w A n vs) (hl : xss.length = n) (he : ∀ (i : Nat) v x, vs[i]? = some v → xss[i]? = some x → ElB w v x) : RdL w A n xss := by
  refine ⟨hl, fun hn => ?_⟩
  obtain ⟨b, off, e, hb, hc⟩ := h.2 hn
  refine ⟨b, off, e, hb, fun i x hx => ?_⟩
  have hi := (List.getElem?_eq_some_iff.1 hx).1
  obtain ⟨v, hv⟩ : ∃ v, vs[i]? = some v := ⟨_, List.getElem?_eq_getElem (by rw [h.1]; omega)⟩
  exact ⟨v, hc i v hv, he i v x hv hx⟩

/-- A block of bytes, read. -/
theorem Rd.row {w : World} {g n : Nat} {e : TypeId} {fr : Nat × Nat} {xs : List UInt8} (h : w.heap[g]? = some (.cells (xs.map cv).toArray e fr)) (hn : xs.length = n) : Rd w (some ⟨g, 0, none⟩) n xs := by
  refine ⟨hn, fun _ => ⟨g, 0, rfl, (Array.getElem?_eq_some_iff.1 h).1, fun i x hx => ?_⟩⟩
  rw [cell_of_row w g (0 + i) _ e fr h]
  simp [hx, cv]

theorem ownV_box (w : World) (t : TypeId) (base : Nat) (vs : List Value) (n : Nat) (hl : vs.length = n) (hn : n ≤ 1024) (hb : base ≤ w.heap.size) (cs : Array Value) (hc : cs = vs.toArray) (g : Nat) (hg : g = w.heap.size) : OwnV t (w.alloc (.cells cs t)) base (some ⟨g, 0, none⟩) n n vs := by
  subst hc hg
  refine ⟨by simp [hl], .inr ⟨w.heap.size, n, vs.toArray, rfl, hb, heap_alloc_new w _, Nat.le_refl _, by unfold maxLen; omega, by simp [hl], ?_⟩⟩
  simp only [Nat.mul_one]
  exact List.take_of_length_le (by simp [hl])

/-- Four noughts. -/
abbrev zero4 : Array Value := #[.int .u8 0, .int .u8 0, .int .u8 0, .int .u8 0]
theorem four_cells (n : Nat) : (((fourB n).map cv).toArray).all (·.oneCell') = true := by
  rw [Array.all_eq_true_iff_forall_mem]
  intro v hv
  rw [List.mem_toArray] at hv
  exact cv_one _ v hv

set_option maxRecDepth 100000 in
set_option maxHeartbeats 4000000 in
theorem Seal_any (A : Option Addr) (n c : Nat) (xss : List (List UInt8)) (w : World) (hx : RdL w A n xss) (ht : tot xss ≤ 268435456) :
    Calls Tryz.prog 122 #[.slice A n c] w (RetSE w.heap.size w (sealG xss.flatten)) := by
  obtain ⟨base, hbase⟩ : ∃ b, b = w.heap.size := ⟨_, rfl⟩
  rw [← hbase]
  have Hw : Hid (base = w.heap.size) := Lib.hid hbase
  clear hbase
  have hn : n ≤ 268435456 := by have := tot_len xss; have := hx.len; omega
  have HXL := Lib.hid hx.len
  go_enter Tryz.func122, Tryz.ntmps122
  go_wp2
  go_loopw [4, 14] (fun vs vk wr => ∃ s k q : Nat, vs = .int .i64 s ∧ vk = .int .i64 k ∧ k ≤ n ∧ s = (xss.take k).flatten.length ∧ s ≤ 1048576 ∧ wr = w.drewN q) (fun _ vk _ => n - (intOf vk).toNat)
  case atStart => exact ⟨0, 0, 0, rfl, rfl, Nat.zero_le _, rfl, Nat.zero_le _, rfl⟩
  case round =>
    obtain ⟨s, k, q, rfl, rfl, hk, hs, hs1, rfl⟩ := hrel
    have Hs := Lib.hid hs
    clear hs
    by_cases hlt : k < n
    · obtain ⟨b, off, rfl, hbl⟩ := hx.pos (by omega)
      obtain ⟨x, X, nx, cx, hk1, hc0, rx0, hxc, _⟩ := hx.at_ k hlt
      have hc : (w.drewN q).cell? ⟨b, off + k, none⟩ = some (.slice X nx cx) := hc0
      have HS := Lib.hid (flat_snoc hk1)
      have HXX := Lib.hid rx0.len
      have hnx : nx ≤ 268435456 := by have := tot_at hk1; have := rx0.len; omega
      obtain ⟨W, hW⟩ : ∃ W, W = w.drewN q := ⟨_, rfl⟩
      rw [← hW] at hc ⊢
      have HW := Lib.hid hW
      clear hW hk1 hc0 hbl
      by_cases hlong : 1048576 - s < nx
      · have G : Hid (sealG xss.flatten = ([], 2)) := Lib.hid (sealG_long rfl (by
          have h1 := flat_take_le xss (k + 1)
          rw [HS.out, List.length_append, ← Hs.out, HXX.out] at h1
          omega))
        have h1 : decide ((1048576 : Int) - (s : Int) < (nx : Int)) = true := by simp; omega
        go_wp2
        go_ret2
        refine ⟨none, 0, 0, by rw [G.out]; rfl, by rw [G.out]; exact Own.nil _ _ _, ?_⟩
        rw [HW.out, Hw.out]
        exact below_drewN (Below.refl _ _) q
      · have h1 : decide ((1048576 : Int) - (s : Int) < (nx : Int)) = false := by simp; omega
        go_wp2
        go_roundw
        case rel => exact ⟨s + nx, k + 1, _, by go_num, by go_num, by omega, by rw [HS.out, List.length_append, ← Hs.out, HXX.out], by omega, HW.out⟩
        case measure => simp [intOf]; omega
    · obtain rfl : k = n := by omega
      obtain ⟨ps, hps⟩ : ∃ ps, ps = xss.flatten := ⟨_, rfl⟩
      have hlp : ps.length = s := by rw [hps, Hs.out, List.take_of_length_le (by rw [HXL.out]; omega)]
      have G : Hid (sealG ps = (sealB ps, 0)) := Lib.hid (sealG_ok hlp (by omega))
      have HPS := Lib.hid hps
      have HLP := Lib.hid hlp
      rw [← hps]
      clear hps hlp Hs
      have hx0 : RdL (w.drewN q) A k xss := hx.drewN q
      have hb0 : Below base w (w.drewN q) := by rw [Hw.out]; exact below_drewN (Below.refl _ _) q
      obtain ⟨W, hW⟩ : ∃ W, W = w.drewN q := ⟨_, rfl⟩
      rw [← hW] at hx0 hb0 ⊢
      clear hW hx
      go_wp2_with fail
      refine (word_any s _ (by omega)).mono ?_
      rintro e w1 ⟨rfl, hb1⟩
      have hx1 := hx0.below hb1
      have hb1 : Below base w w1 := hb0.trans (hb1.mono (by have := hb0.size; have := Hw.out; omega))
      clear hx0 hb0
      have hbw1 : base ≤ w1.heap.size := by have := hb1.size; have := Hw.out; omega
      obtain ⟨W2, hW2⟩ : ∃ W2, W2 = (w1.alloc (.cells zero4 225)).setRow w1.heap.size ((fourB s).map cv).toArray := ⟨_, rfl⟩
      have r2 : W2.heap[w1.heap.size]? = some (.cells ((fourB s).map cv).toArray 225 (0, 0)) := by rw [hW2]; exact setRow_heap _ _ _ _ _ _ (heap_alloc_new _ _)
      have hz2 : W2.heap.size = w1.heap.size + 1 := by rw [hW2, setRow_size]; simp
      have hb12 : Below w1.heap.size w1 W2 := by rw [hW2]; exact below_setRow ((Below.refl _ _).alloc (Nat.le_refl _) _) (Nat.le_refl _) _
      obtain ⟨vs, hv0, hv2, hv3⟩ := hx1.vals
      have hv1 := hv0.below hb12
      have HV2 := Lib.hid hv2
      have HV3 := Lib.hid hv3
      have HZ2 := Lib.hid hz2
      have HR2 := Lib.hid r2
      have HW2 := Lib.hid hW2
      clear hv2 hv3 hz2 r2 hW2 hv0
      go_wp2_with (first
        | (refine wpList_store_row rfl _ _ _ rfl w1.heap.size ((fourB s).map cv).toArray rfl rfl 225 zero4 (heap_alloc_new _ _) info_four rfl (four_cells s) ?_; rw [← HW2.out])
        | (at_builtin; refine wpList_appV _ rfl _ _ 23 rfl w1.heap.size 28 _ 24 Tryz.underlying23 info_sl rfl (some ⟨W2.heap.size, 0, none⟩) 1 1 [.slice (some ⟨w1.heap.size, 0, none⟩) 4 4] rfl (ownV_box W2 _ _ _ 1 rfl (by omega) hb12.size _ rfl _ rfl) A k c vs rfl (hv1.alloc _) HV3.out ?_ ?_ ?_ ?_))
      · unfold maxLen; omega
      · omega
      · simp; have := HZ2.out; omega
      intro B' d' w3 hB3 hg3 _
      have hb23 : Below w1.heap.size W2 w3 := ((Below.refl _ _).alloc (by have := HZ2.out; omega) _).grown hg3 (by simp; have := HZ2.out; omega) (fun k hk => by injection hk with hk; have := HZ2.out; simp only at hk; omega)
      have hb13 := hb12.trans hb23
      have hx3 := hx1.below hb13
      have r3 : w3.heap[w1.heap.size]? = some (.cells ((fourB s).map cv).toArray 225 (0, 0)) := by
        rw [hg3.block _ (by simp; have := HZ2.out; omega) (by intro e; injection e with e; have := HZ2.out; simp only at e; omega), heap_alloc_old _ _ (show w1.heap.size < W2.heap.size by have := HZ2.out; omega)]
        exact HR2.out
      have rd3 := Rd.row r3 (fourB_len s)
      have hL3 : RdL w3 B' (1 + k) (fourB s :: xss) := hB3.rd.rdl (by rw [List.length_cons, HXL.out]; omega) (fun i v x hv hx => by
        cases i with
        | zero =>
          simp at hv hx
          subst hv hx
          exact ⟨_, 4, 4, rfl, rd3, Nat.le_refl _, fun h => by cases h⟩
        | succ i =>
          simp at hv hx
          exact (HV2.out i v x hv hx).below hb13)
      have hb3 := hb1.trans (hb13.mono hbw1)
      have hbw3 : base ≤ w3.heap.size := by have := hb3.size; have := Hw.out; omega
      clear hb1 hx1 hb12 hv1 hB3 hg3 hb23 hb13 r3
      have hts : tot (fourB s :: xss) ≤ 1099511627776 := by simp only [tot, fourB_len]; omega
      go_wp2_with fail
      refine (Sum_any B' (1 + k) d' (fourB s :: xss) _ hL3 hts).mono ?_
      rintro e w4 ⟨rfl, hb4⟩
      obtain ⟨z, hz⟩ : ∃ z, z = crcB (fourB s :: xss).flatten := ⟨_, rfl⟩
      have hz32 : z < 4294967296 := by rw [hz]; exact crcB_lt _
      have HZ : Hid (z = crcB (fourB s ++ ps)) := Lib.hid (by rw [hz, List.flatten_cons, HPS.out])
      rw [← hz]
      clear hz
      have rd4 := rd3.below hb4
      have hx4 := hx3.below hb4
      have hb4 : Below base w w4 := hb3.trans (hb4.mono hbw3)
      have hbw4 : base ≤ w4.heap.size := by have := hb4.size; have := Hw.out; omega
      clear rd3 hx3 hb3 hL3
      go_wp2_with fail
      refine (word_any z _ hz32).mono ?_
      rintro e w5 ⟨rfl, hb5⟩
      have rd5 := rd4.below hb5
      have hx5 := hx4.below hb5
      have hb5 : Below base w w5 := hb4.trans (hb5.mono hbw4)
      have hbw5 : base ≤ w5.heap.size := by have := hb5.size; have := Hw.out; omega
      clear rd4 hx4 hb4
      obtain ⟨W6, hW6⟩ : ∃ W6, W6 = (w5.alloc (.cells zero4 225)).setRow w5.heap.size ((fourB z).map cv).toArray := ⟨_, rfl⟩
      have r6 : W6.heap[w5.heap.size]? = some (.cells ((fourB z).map cv).toArray 225 (0, 0)) := by rw [hW6]; exact setRow_heap _ _ _ _ _ _ (heap_alloc_new _ _)
      have hb56 : Below w5.heap.size w5 W6 := by rw [hW6]; exact below_setRow ((Below.refl _ _).alloc (Nat.le_refl _) _) (Nat.le_refl _) _
      have rz6 := Rd.row r6 (fourB_len z)
      have rd6 := rd5.below hb56
      have hx6 := hx5.below hb56
      have hb6 : Below base w W6 := hb5.trans (hb56.mono hbw5)
      have hbw6 : base ≤ W6.heap.size := by have := hb6.size; have := Hw.out; omega
      have HW6 := Lib.hid hW6
      have HR6 := Lib.hid r6
      clear hW6 r6 hb56 rd5 hx5 hb5
      go_wp2_with (first
        | (refine wpList_store_row rfl _ _ _ rfl w5.heap.size ((fourB z).map cv).toArray rfl rfl 225 zero4 (heap_alloc_new _ _) info_four rfl (four_cells z) ?_; rw [← HW6.out])
        | (at_make; refine wpList_mk _ rfl _ _ 28 rfl W6.heap.size 5 Tryz.underlying28 info_u8 _ (8 + s) rfl rfl (by omega) (by omega) (Nat.le_refl _) ?_))
      intro A7 w7 ho7 hb7
      have rd7 := rd6.below hb7
      have rz7 := rz6.below hb7
      have hx7 := hx6.below hb7
      go_wp2_with (at_builtin; refine wpList_app w7 rfl (.tmp 40) (.tmp 41) 28 rfl W6.heap.size 5 Tryz.underlying28 info_u8 A7 0 (8 + s) [] rfl ho7 (some ⟨w1.heap.size, 0, none⟩) 4 4 (fourB s) rfl rd7 ?_ ?_ ?_)
      · omega
      · exact hb7.size
      intro A8 c8 w8 ho8 hb8
      have hb8 : Below W6.heap.size W6 w8 := hb7.trans hb8
      have rz8 := rz6.below hb8
      have hx8 := hx6.below hb8
      clear rd7 rz7 hx7 hb7 ho7
      go_wp2_with (at_builtin; refine wpList_app w8 rfl (.tmp 43) (.tmp 44) 28 rfl W6.heap.size 5 Tryz.underlying28 info_u8 A8 4 c8 (fourB s) rfl ho8 (some ⟨w5.heap.size, 0, none⟩) 4 4 (fourB z) rfl rz8 ?_ ?_ ?_)
      · omega
      · exact hb8.size
      intro A9 c9 w9 ho9 hb9
      have hb9 : Below W6.heap.size W6 w9 := hb8.trans hb9
      have HO9 := Lib.hid ho9
      clear rz8 hx8 hb8 ho8 ho9
      go_wp2
      go_loopw [9, 48] (fun v i wr => ∃ (P : Option Addr) (m d j : Nat), v = .slice P m d ∧ i = .int .i64 j ∧ j ≤ k ∧ Own 5 wr W6.heap.size P m d ((fourB s ++ fourB z) ++ (xss.take j).flatten) ∧ m ≤ 8 + tot (xss.take j) ∧ Below W6.heap.size W6 wr) (fun _ i _ => k - (intOf i).toNat)
      case atStart => exact ⟨A9, 4 + 4, c9, 0, rfl, rfl, Nat.zero_le _, by rw [List.take_zero, List.flatten_nil, List.append_nil]; exact HO9.out, by omega, hb9⟩
      case round =>
        clear hb9
        obtain ⟨P, m, d, j, rfl, rfl, hj, op, hm, hb9⟩ := hrel
        have hbs := hb9.size
        by_cases hjk : j < k
        · obtain ⟨b, off, rfl, hbl⟩ := hx6.pos (by omega)
          obtain ⟨x, X, nx, cx, hk1, hc0, rx0, hxc, _⟩ := hx6.at_ j hjk
          have hc := (hb9.cell (p := ⟨b, off + j, none⟩) hbl).trans hc0
          have rx := rx0.below hb9
          have hts := tot_snoc hk1
          have htk := tot_take xss (j + 1)
          have hmt : m + nx + 1 ≤ 8 + tot (xss.take (j + 1)) := by have := rx.len; omega
          have HS := Lib.hid (flat_snoc hk1)
          clear hk1 hc0 hbl hts
          go_wp2_with (at_builtin; refine wpList_app wr rfl (.tmp 52) (.tmp 53) 28 rfl W6.heap.size 5 Tryz.underlying28 info_u8 P m d _ rfl op X nx cx x rfl rx ?_ ?_ ?_)
          · omega
          · exact hbs
          intro A' c' w' h1 h2
          have H1 := Lib.hid h1
          have H2 := Lib.hid h2
          clear h1 h2 op
          go_wp2
          go_roundw
          case rel => exact ⟨A', m + nx, c', j + 1, rfl, by go_num, by omega, by rw [HS.out, ← List.append_assoc]; exact H1.out, by omega, hb9.trans H2.out⟩
          case measure => simp [intOf]; omega
        · obtain rfl : j = k := by omega
          have HB : Hid (Below base w wr) := Lib.hid (hb6.trans (hb9.mono hbw6))
          go_wp2
          go_ret2
          rw [← HPS.out]
          refine ⟨P, m, d, by rw [G.out]; rfl, ?_, HB.out⟩
          rw [G.out]
          have h9 : sealB ps = (fourB s ++ fourB z) ++ ps := by rw [sealB, HLP.out, HZ.out, List.append_assoc]
          rw [List.take_of_length_le (by rw [HXL.out]; omega), ← HPS.out, ← h9] at op
          exact op.mono hbw6
end Go.Proofs.YtlnpicfkcahdbaaGreat
namespace Go.Proofs.YtlnpicfkcahdbaaGreat
open Go Go.RowKit

/-- 'These four values are the entry e, whose bytes are the call's own.' -/
def EO (base : Nat) (w : World) (e : En) (v0 v1 v2 v3 : Value) : Prop :=
  ∃ K kn kc V vn vc, v0 = .slice K kn kc ∧ v1 = .int .u64 (e.seq : Int) ∧ v2 = .int .u8 (e.kind : Int) ∧ v3 = .slice V vn vc ∧ Own 5 w base K kn kc e.key ∧ Own 5 w base V vn vc e.val ∧ U64 e.seq ∧ e.kind < 256
def EOs (base : Nat) (w : World) : List En → List Value → Prop
  | [], vs => vs = []
  | e :: es, vs => ∃ v0 v1 v2 v3 r, vs = v0 :: v1 :: v2 :: v3 :: r ∧ EO base w e v0 v1 v2 v3 ∧ EOs base w es r
/-- 'None of these slices lies in that block.' -/
def OffW (vs : List Value) (b : Option Nat) : Prop := ∀ g, b = some g → ∀ A m c, Value.slice A m c ∈ vs → blk A ≠ some g
theorem OffW.app {a b : List Value} {o : Option Nat} (h1 : OffW a o) (h2 : OffW b o) : OffW (a ++ b) o := fun g hg A m c hv => by
  rcases List.mem_append.1 hv with h | h
  · exact h1 g hg A m c h
  · exact h2 g hg A m c h
theorem OffW.none (vs : List Value) : OffW vs none := fun g hg => by cases hg
theorem OffW.nil (o : Option Nat) : OffW [] o := fun g _ A m c h => by cases h
section
variable {base : Nat} {w w' : World} {e : En} {es : List En} {v0 v1 v2 v3 : Value} {vs : List Value}
theorem elb_own {n c : Nat} {A : Option Addr} {xs : List UInt8} (h : Own 5 w base A n c xs) : ElB w (.slice A n c) xs :=
  ⟨A, n, c, rfl, h.rd, h.cap.1, fun hA => (h.nil_of (by rw [hA]; rfl)).2.2⟩
theorem EO.ev (h : EO base w e v0 v1 v2 v3) : EV w e v0 v1 v2 v3 := by
  obtain ⟨K, kn, kc, V, vn, vc, rfl, rfl, rfl, rfl, h1, h2, h3, h4⟩ := h
  exact ⟨rfl, rfl, h3, h4, elb_own h1, elb_own h2⟩
theorem EO.below (h : EO base w e v0 v1 v2 v3) (hb : Below w.heap.size w w') : EO base w' e v0 v1 v2 v3 := by
  obtain ⟨K, kn, kc, V, vn, vc, h0, h1, h2, h3, h4, h5, h6⟩ := h
  exact ⟨K, kn, kc, V, vn, vc, h0, h1, h2, h3, h4.below hb, h5.below hb, h6⟩
theorem EO.mono {base' : Nat} (h : EO base w e v0 v1 v2 v3) (hb : base' ≤ base) : EO base' w e v0 v1 v2 v3 := by
  obtain ⟨K, kn, kc, V, vn, vc, h0, h1, h2, h3, h4, h5, h6⟩ := h
  exact ⟨K, kn, kc, V, vn, vc, h0, h1, h2, h3, h4.mono hb, h5.mono hb, h6⟩
theorem EO.kept {row : Option Nat} (h : EO base w e v0 v1 v2 v3) (hg : w.grownBy w' row) (ho : OffW [v0, v1, v2, v3] row) : EO base w' e v0 v1 v2 v3 := by
  obtain ⟨K, kn, kc, V, vn, vc, rfl, rfl, rfl, rfl, h4, h5, h6⟩ := h
  exact ⟨K, kn, kc, V, vn, vc, rfl, rfl, rfl, rfl, h4.kept hg (fun b hb he => ho b he K kn kc (by simp) hb), h5.kept hg (fun b hb he => ho b he V vn vc (by simp) hb), h6⟩
/-- The blocks of an entry's slices. -/
theorem EO.lt (h : EO base w e v0 v1 v2 v3) {A : Option Addr} {m c g : Nat} (hv : Value.slice A m c ∈ [v0, v1, v2, v3]) (hg : blk A = some g) : base ≤ g ∧ g < w.heap.size := by
  obtain ⟨K, kn, kc, V, vn, vc, rfl, rfl, rfl, rfl, h4, h5, h6⟩ := h
  simp only [List.mem_cons, List.not_mem_nil, or_false] at hv
  rcases hv with e | e | e | e
  · injection e with e1 e2 e3; subst e1; exact h4.lt g hg
  · cases e
  · cases e
  · injection e with e1 e2 e3; subst e1; exact h5.lt g hg
theorem EO.off (h : EO base w e v0 v1 v2 v3) {o : Option Nat} (ho : ∀ g, o = some g → g < base ∨ w.heap.size ≤ g) : OffW [v0, v1, v2, v3] o := fun g hg A m c hv he => by
  have h1 := h.lt hv he
  rcases ho g hg with h2 | h2 <;> omega
theorem EOs.evs : ∀ {es : List En} {vs : List Value}, EOs base w es vs → EVs w es vs
  | [], _, h => h
  | _ :: _, _, ⟨v0, v1, v2, v3, r, e, h1, h2⟩ => ⟨v0, v1, v2, v3, r, e, h1.ev, EOs.evs h2⟩
theorem EOs.below (hb : Below w.heap.size w w') : ∀ {es : List En} {vs : List Value}, EOs base w es vs → EOs base w' es vs
  | [], _, h => h
  | _ :: _, _, ⟨v0, v1, v2, v3, r, e, h1, h2⟩ => ⟨v0, v1, v2, v3, r, e, h1.below hb, EOs.below hb h2⟩
theorem EOs.mono {base' : Nat} (hb : base' ≤ base) : ∀ {es : List En} {vs : List Value}, EOs base w es vs → EOs base' w es vs
  | [], _, h => h
  | _ :: _, _, ⟨v0, v1, v2, v3, r, e, h1, h2⟩ => ⟨v0, v1, v2, v3, r, e, h1.mono hb, EOs.mono hb h2⟩
theorem EOs.app : ∀ {es gs : List En} {vs us : List Value}, EOs base w es vs → EOs base w gs us → EOs base w (es ++ gs) (vs ++ us)
  | [], _, _, _, h, h2 => by rw [h]; exact h2
  | _ :: _, _, _, _, ⟨v0, v1, v2, v3, r, e, h1, h2⟩, h3 => ⟨v0, v1, v2, v3, _, by rw [e]; rfl, h1, EOs.app h2 h3⟩
theorem EOs.one (h : EO base w e v0 v1 v2 v3) : EOs base w [e] [v0, v1, v2, v3] := ⟨v0, v1, v2, v3, [], rfl, h, rfl⟩
theorem EOs.kept {row : Option Nat} (hg : w.grownBy w' row) : ∀ {es : List En} {vs : List Value}, EOs base w es vs → OffW vs row → EOs base w' es vs
  | [], _, h, _ => h
  | _ :: _, _, ⟨v0, v1, v2, v3, r, e, h1, h2⟩, ho => ⟨v0, v1, v2, v3, r, e, h1.kept hg (fun g hg2 A m c hv => ho g hg2 A m c (by rw [e]; simp at hv ⊢; rcases hv with h | h | h | h <;> simp [h])), EOs.kept hg h2 (fun g hg2 A m c hv => ho g hg2 A m c (by rw [e]; simp [hv]))⟩
theorem EOs.lt : ∀ {es : List En} {vs : List Value}, EOs base w es vs → ∀ {A : Option Addr} {m c g : Nat}, Value.slice A m c ∈ vs → blk A = some g → base ≤ g ∧ g < w.heap.size
  | [], _, h, _, _, _, _, hv, _ => by rw [h] at hv; cases hv
  | _ :: _, _, ⟨v0, v1, v2, v3, r, e, h1, h2⟩, A, m, c, g, hv, hg => by
    rw [e] at hv
    have hv2 : Value.slice A m c ∈ [v0, v1, v2, v3] ∨ Value.slice A m c ∈ r := by
      simp only [List.mem_cons, List.not_mem_nil, or_false] at hv ⊢
      rcases hv with h | h | h | h | h
      · exact .inl (.inl h)
      · exact .inl (.inr (.inl h))
      · exact .inl (.inr (.inr (.inl h)))
      · exact .inl (.inr (.inr (.inr h)))
      · exact .inr h
    rcases hv2 with h | h
    · exact h1.lt h hg
    · exact EOs.lt h2 h hg
end
/-- 'A row of entries of the call's own.' -/
def OwnE (w : World) (base : Nat) (A : Option Addr) (n c : Nat) (vs : List Value) : Prop := w.ownsRow base 31 4 (.slice A n c) n vs
section
variable {w w' : World} {base n c : Nat} {A : Option Addr} {vs : List Value}
theorem OwnE.rd (h : OwnE w base A n c vs) : RdV w A (n * 4) vs := by
  refine ⟨by have := h.1; simpa [Nat.mul_comm] using this, fun hn => ?_⟩
  rcases h.2 with ⟨_, h2⟩ | ⟨g, cap, cur, h1, _, hg, _⟩
  · omega
  · injection h1 with h1
    subst h1
    refine ⟨g, 0, rfl, (Array.getElem?_eq_some_iff.1 hg).1, fun i x hx => ?_⟩
    have := World.ownsRow.cells h (g := g) rfl i _ hx
    simpa [Addr.add_lit] using this
theorem OwnE.cap (h : OwnE w base A n c vs) : n ≤ c ∧ c ≤ maxLen := by
  rcases h.2 with ⟨h1, h2⟩ | ⟨g, cap, cur, h1, _, _, h2, h3, _⟩
  · injection h1 with h1 h2 h3
    subst h2 h3
    unfold maxLen
    omega
  · injection h1 with _ _ h4
    subst h4
    exact ⟨h2, h3⟩
theorem OwnE.lt (h : OwnE w base A n c vs) (b : Nat) (hb : blk A = some b) : base ≤ b ∧ b < w.heap.size := World.ownsRow.lt h b (by rw [own_blk]; exact hb)
theorem OwnE.zero (w : World) : OwnE (w.alloc (.cells #[] 31)) w.heap.size (some ⟨w.heap.size, 0, none⟩) 0 0 [] :=
  ⟨rfl, .inr ⟨w.heap.size, 0, #[], rfl, Nat.le_refl _, heap_alloc_new w _, Nat.le_refl _, by unfold maxLen; omega, rfl, rfl⟩⟩
theorem OwnE.nil (w : World) (base : Nat) : OwnE w base none 0 0 [] := World.ownsRow_nil _ _ _ _
theorem OwnE.below (h : OwnE w base A n c vs) (hb : Below w.heap.size w w') : OwnE w' base A n c vs := by
  refine ⟨h.1, ?_⟩
  rcases h.2 with h1 | ⟨g, cap, cur, h1, h2, h3, h4⟩
  · exact .inl h1
  · exact .inr ⟨g, cap, cur, h1, h2, (hb.block g (Array.getElem?_eq_some_iff.1 h3).1).trans h3, h4⟩
theorem OwnE.nil_of (h : OwnE w base A n c vs) (hA : A = none) : c = 0 := by
  subst hA
  rcases h.2 with ⟨h1, _⟩ | ⟨g, cap, cur, h1, _⟩
  · injection h1
  · injection h1 with h1; cases h1
end
theorem info_ent : (Tryz.prog.info? 31).map (fun i => (i.zero, i.size, i.bytes)) = some (some (.agg #[.slice none 0 0, .int .u64 0, .int .u8 0, .slice none 0 0]), 4, 64) := by kernel_rfl
/-- Entries that are read, appended onto a row of the call's own. -/
theorem wpList_app4 {P : Program} (w : World) {ops : Array Oper} {rest : List Oper} {o : Oper} {a : Act} {Q : Exit → Act → World → Prop} (hgd : o.guard = none) (s x : Operand) (tt : TypeId)
    (ho : o.op = .call { callee := .builtin .append, args := #[s, x], argTypes := #[tt, tt] })
    (base : Nat) (z : Value) (by_ : Nat) (ht : P.underlying tt = some (.slice 31)) (hi : (P.info? 31).map (fun i => (i.zero, i.size, i.bytes)) = some (some z, 4, by_)) (hz1 : z.cells.size = 4)
    (A : Option Addr) (n c : Nat) (vs : List Value) (hs : a.eval s = .slice A n c) (hown : OwnE w base A n c vs)
    (B : Option Addr) (m d : Nat) (us : List Value) (hx : a.eval x = .slice B m d) (hr : RdV w B (m * 4) us) (hone : ∀ u ∈ us, u.oneCell' = true)
    (hn : n + m ≤ 2199023255552) (hby : by_ ≤ 64 := by omega) (hbase : base ≤ w.heap.size)
    (h : ∀ A' c' w', OwnE w' base A' (n + m) c' (vs ++ us) → w.grownBy w' (blk A) → Below base w w' → wpList P ops Q rest (a.put o.dst (.slice A' (n + m) c')) w') : wpList P ops Q (o :: rest) a w := by
  obtain ⟨i, hi, hz, hsz, hby2⟩ := info_parts hi
  have go : ∀ v' w', w'.ownsRow base 31 4 v' (n + m) (vs ++ us) → w.grownBy w' (Value.ownBlock (.slice A n c)) → wpList P ops Q rest (a.put o.dst v') w' := by
    intro v' w' h1 h2
    obtain ⟨A', c', rfl⟩ : ∃ A' c', v' = .slice A' (n + m) c' := by
      rcases h1.2 with ⟨h3, h4⟩ | ⟨g, cap, cur, h3, _⟩
      · exact ⟨none, 0, by rw [h3, h4]⟩
      · exact ⟨_, _, h3⟩
    exact h A' c' w' h1 (by rw [own_blk] at h2; exact h2) ((Below.refl _ _).grown h2 hbase (fun k hk => (World.ownsRow.lt hown k hk).1))
  rcases Nat.eq_zero_or_pos m with hm | hm
  · subst hm
    have hy : us = [] := List.eq_nil_of_length_eq_zero (by rw [hr.1])
    subst hy
    rcases B with _ | ad
    · exact wpList_app_none hgd s x tt ho base 31 i 4 ht hi (.slice A n c) n vs hs hown d hx (by simpa [OwnE] using go (.slice A n c) w (by simpa [OwnE] using hown) (World.grownBy.refl w _))
    · refine wpList_append_own w hgd s x tt ho base 31 i z 4 by_ ht hi hz hsz hby2 hz1 (by decide) (.slice A n c) n vs hs hown ad 0 d [] hx rfl (by simp) (by simp) (by unfold maxLen; omega) (Nat.le_trans (Nat.mul_le_mul_left _ hby) (by omega)) hbase ?_
      intro v' w' h1 h2 _
      exact go v' w' (by simpa using h1) h2
  · obtain ⟨b, off, rfl, _, hc⟩ := hr.2 (by omega)
    refine wpList_append_own w hgd s x tt ho base 31 i z 4 by_ ht hi hz hsz hby2 hz1 (by decide) (.slice A n c) n vs hs hown ⟨b, off, none⟩ m d us hx hr.1 (fun j u hj => by rw [Addr.add_lit]; exact hc j u hj) hone (by unfold maxLen; omega) (Nat.le_trans (Nat.mul_le_mul_left _ hby) (by omega)) hbase ?_
    intro v' w' h1 h2 _
    exact go v' w' h1 h2
/-- One entry more, out of a box of its own, appended onto a row of entries; whether the row stayed. -/
theorem wpList_app4t {P : Program} (w : World) {ops : Array Oper} {rest : List Oper} {o : Oper} {a : Act} {Q : Exit → Act → World → Prop} (hgd : o.guard = none) (s x : Operand) (tt : TypeId)
    (ho : o.op = .call { callee := .builtin .append, args := #[s, x], argTypes := #[tt, tt] })
    (base : Nat) (z : Value) (by_ : Nat) (ht : P.underlying tt = some (.slice 31)) (hi : (P.info? 31).map (fun i => (i.zero, i.size, i.bytes)) = some (some z, 4, by_)) (hz1 : z.cells.size = 4)
    (A : Option Addr) (n c : Nat) (vs : List Value) (hs : a.eval s = .slice A n c) (hown : OwnE w base A n c vs)
    (v0 v1 v2 v3 : Value) (hone : ∀ u ∈ [v0, v1, v2, v3], u.oneCell' = true) (g : Nat) (hg : g = w.heap.size) (hx : a.eval x = .slice (some ⟨g, 0, none⟩) 1 1)
    (hn : n ≤ 1099511627776) (hby : by_ ≤ 64 := by omega) (hbase : base ≤ w.heap.size)
    (h : ∀ A' c' w', OwnE w' base A' (n + 1) c' (vs ++ [v0, v1, v2, v3]) → w.grownBy w' (blk A) → (blk A' = blk A ∨ blk A' = some (w.heap.size + 1)) → wpList P ops Q rest (a.put o.dst (.slice A' (n + 1) c')) w') :
    wpList P ops Q (o :: rest) a (w.alloc (.cells #[v0, v1, v2, v3] 31)) := by
  subst hg
  obtain ⟨i, hi, hz, hsz, hby2⟩ := info_parts hi
  refine wpList_append_own_at (w := w.alloc (.cells #[v0, v1, v2, v3] 31)) hgd s x tt ho base 31 i z 4 by_ ht hi hz hsz hby2 hz1 (by decide) (.slice A n c) n vs hs (hown.below ((Below.refl _ _).alloc (Nat.le_refl _) _)) ⟨w.heap.size, 0, none⟩ 1 1 [v0, v1, v2, v3] hx rfl
    (fun j u hj => by rw [Addr.add_lit, (Cl.new w #[v0, v1, v2, v3] 31).cell (0 + j), Nat.zero_add]; simpa using hj) hone (by unfold maxLen; omega) (Nat.le_trans (Nat.mul_le_mul_left _ hby) (by omega)) (by simp; omega) ?_
  intro v' w' k1 k2 _ k3
  obtain ⟨A', c', rfl⟩ : ∃ A' c', v' = .slice A' (n + 1) c' := by
    rcases k1.2 with ⟨_, h4⟩ | ⟨g, cap, cur, h4, _⟩
    · omega
    · exact ⟨_, _, h4⟩
  rw [own_blk, own_blk] at k3
  rw [own_blk] at k2
  exact h A' c' w' k1 ((World.grownBy_alloc w _ _).trans k2) (by simpa using k3)

/-- The slices of entries, with what they hold. -/
def pairE : List En → List Value → List VB
  | e :: es, v0 :: _ :: _ :: v3 :: r => (v0, e.key) :: (v3, e.val) :: pairE es r
  | _, _ => []
theorem pairE_app {base : Nat} {w : World} {gs : List En} {us : List Value} : ∀ {es : List En} {vs : List Value}, EOs base w es vs → pairE (es ++ gs) (vs ++ us) = pairE es vs ++ pairE gs us
  | [], vs, h => by rw [h]; rfl
  | e :: es, vs, ⟨v0, v1, v2, v3, r, q, h1, h2⟩ => by
    rw [q]
    simp only [List.cons_append, pairE]
    rw [pairE_app h2]
theorem pairE_mem : ∀ {es : List En} {vs : List Value} {p : VB}, p ∈ pairE es vs → p.1 ∈ vs
  | e :: es, v0 :: v1 :: v2 :: v3 :: r, p, h => by
    unfold pairE at h
    simp only [List.mem_cons] at h ⊢
    rcases h with rfl | rfl | h
    · exact .inl rfl
    · exact .inr (.inr (.inr (.inl rfl)))
    · exact .inr (.inr (.inr (.inr (pairE_mem h))))
theorem fam_two {w : World} {base kn kc vn vc : Nat} {K V : Option Addr} {xs ys : List UInt8} (o1 : Own 5 w base K kn kc xs) (o2 : Own 5 w base V vn vc ys) (dj : Dj K V) : Fam w base [(.slice K kn kc, xs), (.slice V vn vc, ys)] := by
  refine ⟨fun p hp => ?_, List.pairwise_cons.2 ⟨fun q hq => ?_, List.pairwise_singleton _ _⟩⟩
  · simp only [List.mem_cons, List.not_mem_nil, or_false] at hp
    rcases hp with rfl | rfl
    · exact ⟨K, kn, kc, rfl, o1⟩
    · exact ⟨V, vn, vc, rfl, o2⟩
  · simp only [List.mem_singleton] at hq
    subst hq
    intro b h1 h2
    rw [own_blk] at h1 h2
    exact dj b h1 h2
/-- 'A row of entries that the call has made, their bytes its own; no two slices share memory.' -/
def RowE (W : World) (base : Nat) (L : Option Addr) (i d : Nat) (es : List En) (wr : World) : Prop :=
  ∃ vs, OwnE wr base L i d vs ∧ EOs base wr es vs ∧ OffW vs (blk L) ∧ es.length = i ∧ Below base W wr ∧ base ≤ wr.heap.size ∧ Fam wr base (pairE es vs)
section
variable {W wr w4 U : World} {base i d d' : Nat} {L L' : Option Addr} {es : List En} {e : En} {v0 v1 v2 v3 : Value} {vs : List Value}
theorem RowE.zero (W : World) (base : Nat) (hb : base ≤ W.heap.size) : RowE W base none 0 0 [] W := ⟨[], OwnE.nil _ _, rfl, OffW.nil _, rfl, Below.refl _ _, hb, Fam.nil _ _⟩
theorem RowE.below {w' : World} (h : RowE W base L i d es wr) (hb : Below wr.heap.size wr w') : RowE W base L i d es w' := by
  obtain ⟨vs, h1, h2, h3, h4, h5, h6, h7⟩ := h
  exact ⟨vs, h1.below hb, h2.below hb, h3, h4, h5.trans (hb.mono h6), Nat.le_trans h6 hb.size, h7.below hb⟩
theorem RowE.rd (h : RowE W base L i d es wr) : REs wr L i es := by
  obtain ⟨vs, h1, h2, h3, h4, h5⟩ := h
  exact REs.mk h2.evs h1.rd h4
theorem RowE.bel (h : RowE W base L i d es wr) : Below base W wr := by obtain ⟨vs, h1, h2, h3, h4, h5, h6, h7⟩ := h; exact h5
theorem RowE.size (h : RowE W base L i d es wr) : base ≤ wr.heap.size := by obtain ⟨vs, h1, h2, h3, h4, h5, h6, h7⟩ := h; exact h6
theorem RowE.cap (h : RowE W base L i d es wr) : i ≤ d ∧ d ≤ maxLen := by obtain ⟨vs, h1, _⟩ := h; exact h1.cap
theorem RowE.len (h : RowE W base L i d es wr) : es.length = i := by obtain ⟨vs, h1, h2, h3, h4, h5⟩ := h; exact h4
theorem RowE.lt (h : RowE W base L i d es wr) (b : Nat) (hb : blk L = some b) : base ≤ b ∧ b < wr.heap.size := by obtain ⟨vs, h1, _⟩ := h; exact h1.lt b hb
/-- One more. -/
theorem rowE_snoc (h1 : OwnE wr base L i d vs) (h2 : EOs base wr es vs) (h3 : OffW vs (blk L)) (hl : es.length = i) (hw : Below base W wr) (hs : base ≤ wr.heap.size) (h7 : Fam wr base (pairE es vs))
    (hU : Below wr.heap.size wr U) (hf : EO base U e v0 v1 v2 v3) (ho : OffW [v0, v1, v2, v3] (blk L)) (hfm : Fam U wr.heap.size [(v0, e.key), (v3, e.val)])
    (h4 : OwnE w4 base L' (i + 1) d' (vs ++ [v0, v1, v2, v3])) (hg : U.grownBy w4 (blk L)) (hb : blk L' = blk L ∨ blk L' = some (U.heap.size + 1)) : RowE W base L' (i + 1) d' (es ++ [e]) w4 := by
  have hus := hU.size
  have hgs := hg.size
  refine ⟨vs ++ [v0, v1, v2, v3], h4, (EOs.kept hg (h2.below hU) h3).app (EOs.one (hf.kept hg ho)), ?_, by simp [hl], (hw.trans (hU.mono hs)).grown hg (by omega) (fun k hk => (h1.lt k hk).1), by omega, ?_⟩
  · rcases hb with e | e
    · rw [e]
      exact h3.app ho
    · rw [e]
      intro g hg2 B m c hv2 hv3
      injection hg2 with hg2
      rcases List.mem_append.1 hv2 with hq | hq
      · have := EOs.lt h2 hq hv3
        omega
      · have := hf.lt hq hv3
        omega
  · rw [pairE_app h2]
    have k1 : Fam wr base (pairE es vs ++ []) := by rw [List.append_nil]; exact h7
    have k2 := Fam.ins k1 hfm hU (Nat.le_refl _) hs
    rw [List.append_nil] at k2
    refine k2.kept hg (fun b e p hp e2 => ?_)
    obtain ⟨A, m, c, q, _⟩ := k2.1 p hp
    have hm : Value.slice A m c ∈ vs ++ [v0, v1, v2, v3] := by
      rw [← q]
      rcases List.mem_append.1 hp with h | h
      · exact List.mem_append_left _ (pairE_mem h)
      · refine List.mem_append_right _ ?_
        simp only [List.mem_cons, List.not_mem_nil, or_false] at h
        rcases h with rfl | rfl
        · simp
        · simp
    rw [q, own_blk] at e2
    exact (h3.app ho) b e A m c hm e2
end
/-- What a list of entries that is made comes to. -/
def RetRow (w : World) (es : List En) (e : Ending) (w' : World) : Prop := ∃ L n c, e = .returned (.slice L n c) ∧ RowE w w.heap.size L n c es w'
section
variable {w : World} {A : Option Addr} {n c : Nat} {es : List En}
set_option maxRecDepth 100000 in
set_option maxHeartbeats 4000000 in
theorem Twins_any (h : REs w A n es) (hn : n ≤ 1099511627776) (hs : ∀ x ∈ es, SzE x) : Calls Tryz.prog 9 #[.slice A n c] w (RetRow w es) := by
  have HL := Lib.hid h.len
  have HS := Lib.hid hs
  clear hs
  go_enter Tryz.func9, Tryz.ntmps9
  go_wp2
  go_loopw [3, 4] (fun s3 s4 wr => ∃ (k d : Nat) (L : Option Addr), k ≤ n ∧ s4 = .int .i64 (k : Int) ∧ s3 = .slice L k d ∧ RowE w w.heap.size L k d (es.take k) wr) (fun _ s _ => n - (intOf s).toNat)
  case atStart => exact ⟨0, 0, none, Nat.zero_le _, rfl, rfl, RowE.zero _ _ (Nat.le_refl _)⟩
  case round =>
    obtain ⟨k, d, L, hk, rfl, rfl, hrow⟩ := hrel
    have HR := Lib.hid hrow
    have sw := hrow.size
    have hR : REs wr A n es := h.below hrow.bel
    clear hrow
    by_cases hlt : k < n
    · obtain ⟨b, off, rfl, hbl⟩ := hR.pos (by omega)
      obtain ⟨x, v0, v1, v2, v3, hx, m0, m1, m2, m3, hev⟩ := hR.at_ k hlt
      have HEV := Lib.hid hev
      have hsx := HS.out x (List.mem_of_getElem? hx)
      have hwf := hR.wf x (List.mem_of_getElem? hx)
      obtain ⟨K, kn, kc, V, vn, vc, rfl, rfl, rfl, rfl, _⟩ := hev.parts
      have HXK := Lib.hid hx
      clear hx hev hR
      go_wp2_with fail
      refine (Twin_any HEV.out hsx).mono ?_
      rintro e w2 ⟨K2, kn2, kc2, V2, vn2, vc2, rfl, o1, o2, b2, dj⟩
      obtain ⟨vs, q1, q2, q3, q4, q5, q6, q7⟩ := HR.out
      have HFM := Lib.hid (fam_two o1 o2 dj)
      have Q7 := Lib.hid q7
      have s2 := b2.size
      have HEO : Hid (EO w.heap.size w2 x (.slice K2 kn2 kc2) (.int .u64 (x.seq : Int)) (.int .u8 (x.kind : Int)) (.slice V2 vn2 vc2)) := Lib.hid ⟨K2, kn2, kc2, V2, vn2, vc2, rfl, rfl, rfl, rfl, o1.mono q6, o2.mono q6, hwf⟩
      have HOF : Hid (OffW [.slice K2 kn2 kc2, .int .u64 (x.seq : Int), .int .u8 (x.kind : Int), .slice V2 vn2 vc2] (blk L)) := Lib.hid (EO.off (base := wr.heap.size) (w := w2) (e := x) ⟨K2, kn2, kc2, V2, vn2, vc2, rfl, rfl, rfl, rfl, o1, o2, hwf⟩ (fun g hg => .inl (q1.lt g hg).2))
      have HB2 := Lib.hid b2
      have Q1 := Lib.hid q1
      have Q2 := Lib.hid q2
      have Q3 := Lib.hid q3
      have Q4 := Lib.hid q4
      have Q5 := Lib.hid q5
      have hcell : ∀ u ∈ [Value.slice K2 kn2 kc2, .int .u64 (x.seq : Int), .int .u8 (x.kind : Int), .slice V2 vn2 vc2], u.oneCell' = true := HEO.out.ev.cells
      have HCL := Lib.hid hcell
      clear o1 o2 b2 q1 q2 q3 q4 q5 q7 dj hcell m0 m1 m2 m3
      go_wp2_with (at_builtin; refine wpList_app4t w2 rfl _ _ 22 rfl w.heap.size _ 64 Tryz.underlying22 info_ent rfl L k d vs rfl (Q1.out.below HB2.out) _ _ _ _ HCL.out w2.heap.size rfl rfl ?_ ?_ ?_ ?_)
      · omega
      · omega
      · omega
      intro L2 d2 w4 hG4 hg4 hb4
      have HQ : Hid (RowE w w.heap.size L2 (k + 1) d2 (es.take (k + 1)) w4) := Lib.hid (by
        rw [List.take_add_one, HXK.out]
        exact rowE_snoc Q1.out Q2.out Q3.out Q4.out Q5.out q6 Q7.out HB2.out HEO.out HOF.out HFM.out hG4 hg4 hb4)
      clear hG4 hg4 hb4
      go_wp2
      go_roundw
      case rel => exact ⟨k + 1, d2, L2, by omega, by go_num, rfl, HQ.out⟩
      case measure => simp [intOf]; omega
    · obtain rfl : k = n := by omega
      have htk := take_all HL.out hlt
      rw [htk] at HR
      clear htk
      go_wp2
      go_ret
      exact ⟨L, k, d, rfl, HR.out⟩
end
end Go.Proofs.YtlnpicfkcahdbaaGreat
namespace Go.Proofs.YtlnpicfkcahdbaaGreat
open Go Go.RowKit

theorem belowT' {w0 w1 w2 : World} (h : Below w0.heap.size w0 w1) (hb : Below w1.heap.size w1 w2) : Below w0.heap.size w0 w2 := h.trans (hb.mono h.size)
section
variable {w : World} {a : En} {v0 v1 v2 v3 u0 u1 u2 u3 : Value}
set_option maxRecDepth 100000 in
set_option maxHeartbeats 4000000 in
theorem Same_any (ha : EV w a v0 v1 v2 v3) (hb : EV w a u0 u1 u2 u3) (sa : SzE a) :
    Calls Tryz.prog 24 #[.agg #[v0, v1, v2, v3], .agg #[u0, u1, u2, u3]] w (RetT w true) := by
  obtain ⟨K, kn, kc, V, vn, vc, rfl, rfl, rfl, rfl, r0, r3, _⟩ := ha.parts
  obtain ⟨K', kn', kc', V', vn', vc', rfl, rfl, rfl, rfl, r0', r3', _⟩ := hb.parts
  obtain ⟨W, hW⟩ : ∃ W, W = (w.alloc (.cells #[.slice K kn kc, .int .u64 (a.seq : Int), .int .u8 (a.kind : Int), .slice V vn vc] 31)).alloc (.cells #[.slice K' kn' kc', .int .u64 (a.seq : Int), .int .u8 (a.kind : Int), .slice V' vn' vc'] 31) := ⟨_, rfl⟩
  have bW : Below w.heap.size w W := by rw [hW]; exact ((Below.refl _ _).alloc (Nat.le_refl _) _).alloc (by simp) _
  have x1 : Cl W w.heap.size #[.slice K kn kc, .int .u64 (a.seq : Int), .int .u8 (a.kind : Int), .slice V vn vc] 31 := by rw [hW]; exact (Cl.new _ _ _).alloc _
  have x2 : Cl W (w.heap.size + 1) #[.slice K' kn' kc', .int .u64 (a.seq : Int), .int .u8 (a.kind : Int), .slice V' vn' vc'] 31 := by rw [hW]; exact Cl.newg _ _ _ _ (by simp)
  have hk : kn ≤ maxLen := maxLen_e (by rw [← r0.len]; exact sa.1)
  have hv : vn ≤ maxLen := maxLen_e (by rw [← r3.len]; exact sa.2)
  have hk' : kn' ≤ maxLen := maxLen_e (by rw [← r0'.len]; exact sa.1)
  have hv' : vn' ≤ maxLen := maxLen_e (by rw [← r3'.len]; exact sa.2)
  have HK : Hid (∀ wx, Below W.heap.size W wx → Calls Tryz.prog 64 #[.slice K kn kc, .slice K' kn' kc'] wx (fun e w' => e = .returned (.bool true) ∧ Below W.heap.size W w')) := Lib.hid (fun wx h => (Equal_any _ _ _ _ _ _ a.key a.key wx ((r0.below bW).below h) ((r0'.below bW).below h) hk hk').mono (by
    rintro e w' ⟨rfl, q, rfl⟩
    exact ⟨by rw [eqB_self], below_drewN h q⟩))
  have HV : Hid (∀ wx, Below W.heap.size W wx → Calls Tryz.prog 64 #[.slice V vn vc, .slice V' vn' vc'] wx (fun e w' => e = .returned (.bool true) ∧ Below W.heap.size W w')) := Lib.hid (fun wx h => (Equal_any _ _ _ _ _ _ a.val a.val wx ((r3.below bW).below h) ((r3'.below bW).below h) hv hv').mono (by
    rintro e w' ⟨rfl, q, rfl⟩
    exact ⟨by rw [eqB_self], below_drewN h q⟩))
  have X1 := Lib.hid x1
  have X2 := Lib.hid x2
  have BW := Lib.hid bW
  obtain ⟨c0, c1, c2, c3, _⟩ := x1.c4
  obtain ⟨d0, d1, d2, d3, _⟩ := x2.c4
  clear ha hb r0 r3 r0' r3' x1 x2 bW
  go_enter Tryz.func24, Tryz.ntmps24
  go_upto_region 1 with (fail)
  rw [← hW]
  clear hW
  go_wp2_with fail
  with_reducible refine (HK.out _ (Below.refl _ _)).mono ?_
  rintro e w1 ⟨rfl, b1⟩
  have B1 := Lib.hid b1
  clear c0 c1 c2 c3 d0 d1 d2 d3
  obtain ⟨c0, c1, c2, c3, _⟩ := (X1.out.below b1).c4
  obtain ⟨d0, d1, d2, d3, _⟩ := (X2.out.below b1).c4
  clear b1
  go_wp2_with fail
  with_reducible refine (HV.out _ B1.out).mono ?_
  rintro e w2 ⟨rfl, b2⟩
  have B2 := Lib.hid (belowT' BW.out b2)
  clear b2 c0 c1 c2 c3 d0 d1 d2 d3
  go_wp2
  go_ret
  exact ⟨rfl, B2.out⟩
end
theorem RetT.outD {w : World} {b : Bool} {e : Ending} {w' : World} (h : RetT w b e w') : e = .returned (.bool b) ∧ Below w.heap.size w w' := h
set_option maxRecDepth 100000 in
set_option maxHeartbeats 4000000 in
theorem SameList_any {w : World} {A B : Option Addr} {n c d : Nat} {es : List En} (h1 : REs w A n es) (h2 : REs w B n es) (hn : n ≤ 1099511627776) (hs : ∀ x ∈ es, SzE x) :
    Calls Tryz.prog 25 #[.slice A n c, .slice B n d] w (RetT w true) := by
  have H1 := Lib.hid h1
  have H2 := Lib.hid h2
  have HS := Lib.hid hs
  clear h1 h2 hs
  go_enter Tryz.func25, Tryz.ntmps25
  go_wp2
  go_loopw [5] (fun s5 wr => ∃ k : Nat, k ≤ n ∧ s5 = .int .i64 (k : Int) ∧ Below w.heap.size w wr) (fun s _ => n - (intOf s).toNat)
  case atStart => exact ⟨0, Nat.zero_le _, rfl, Below.refl _ _⟩
  case round =>
    obtain ⟨k, hk, rfl, hB⟩ := hrel
    have HB := Lib.hid hB
    clear hB
    by_cases hlt : k < n
    · have hR := H1.out.below HB.out
      have hQ := H2.out.below HB.out
      obtain ⟨b, off, hAb, hbl⟩ := hR.pos (by omega)
      subst hAb
      obtain ⟨g, oft, hBb, hgl⟩ := hQ.pos (by omega)
      subst hBb
      obtain ⟨x, v0, v1, v2, v3, hx, c0, c1, c2, c3, hev⟩ := hR.at_ k hlt
      obtain ⟨y, u0, u1, u2, u3, hy, d0, d1, d2, d3, hew⟩ := hQ.at_ k hlt
      have hxy : y = x := by rw [hx] at hy; injection hy with hy; exact hy.symm
      subst hxy
      have hsx := HS.out y (List.mem_of_getElem? hx)
      have HT : Hid (∀ wx, Below wr.heap.size wr wx → Calls Tryz.prog 24 #[.agg #[v0, v1, v2, v3], .agg #[u0, u1, u2, u3]] wx (RetT wx true)) := Lib.hid (fun wx h => Same_any (hev.below h) (hew.below h) hsx)
      have HSX : Hid (∀ wx, Below wr.heap.size wr wx → wx.cell? ⟨b, off + k * 4, none⟩ = some v0 ∧ wx.cell? ⟨b, off + k * 4 + 1, none⟩ = some v1 ∧ wx.cell? ⟨b, off + k * 4 + 2, none⟩ = some v2 ∧ wx.cell? ⟨b, off + k * 4 + 3, none⟩ = some v3 ∧ wx.cell? ⟨g, oft + k * 4, none⟩ = some u0 ∧ wx.cell? ⟨g, oft + k * 4 + 1, none⟩ = some u1 ∧ wx.cell? ⟨g, oft + k * 4 + 2, none⟩ = some u2 ∧ wx.cell? ⟨g, oft + k * 4 + 3, none⟩ = some u3) := Lib.hid (fun wx h => ⟨(h.cell hbl).trans c0, (h.cell hbl).trans c1, (h.cell hbl).trans c2, (h.cell hbl).trans c3, (h.cell hgl).trans d0, (h.cell hgl).trans d1, (h.cell hgl).trans d2, (h.cell hgl).trans d3⟩)
      have hB0 : Below wr.heap.size wr wr.drew := (Below.refl _ _).drew
      clear hR hQ hx hy c0 c1 c2 c3 d0 d1 d2 d3 hev hew
      go_upto_region 6 with (fail)
      go_cut [26] from 11 to 26 (fun s26 wx => s26 = .bool false ∧ Below wr.heap.size wr wx)
      case first =>
        go_region_held3 (fun wx => wx.cell? ⟨b, off + k * 4, none⟩ = some v0 ∧ wx.cell? ⟨b, off + k * 4 + 1, none⟩ = some v1 ∧ wx.cell? ⟨b, off + k * 4 + 2, none⟩ = some v2 ∧ wx.cell? ⟨b, off + k * 4 + 3, none⟩ = some v3 ∧ wx.cell? ⟨g, oft + k * 4, none⟩ = some u0 ∧ wx.cell? ⟨g, oft + k * 4 + 1, none⟩ = some u1 ∧ wx.cell? ⟨g, oft + k * 4 + 2, none⟩ = some u2 ∧ wx.cell? ⟨g, oft + k * 4 + 3, none⟩ = some u3) (first | assumption | exact HSX.out _ hB0)
          (first | (go_at_call 24; with_reducible refine (HT.out _ (by assumption)).mono ?_; intro e1 wn hq; obtain ⟨h1, bn⟩ := RetT.outD hq; subst h1; have bn' := belowT' (by assumption : Below wr.heap.size wr _) bn; have hS1 := HSX.out _ bn'))
        all_goals
          go_wp2_with fail
          go_meet
          exact ⟨rfl, by assumption⟩
      case rest =>
        obtain ⟨rfl, hbc⟩ := hcut
        have BC := Lib.hid (belowT' HB.out hbc)
        clear hbc hB0
        go_wp2_with fail
        go_roundw
        case rel => exact ⟨k + 1, by omega, by go_num, BC.out⟩
        case measure => simp [intOf]; omega
    · go_wp2
      go_ret
      exact ⟨rfl, HB.out⟩
end Go.Proofs.YtlnpicfkcahdbaaGreat
namespace Go.Proofs.YtlnpicfkcahdbaaGreat
open Go Go.RowKit

/-- What a call may turn: some blocks, and new ones. -/
structure Fr (w w' : World) (bl : List Nat) : Prop where
  os : w'.os = w.os
  tape : w'.tape = w.tape
  output : w'.output = w.output
  size : w.heap.size ≤ w'.heap.size
  block : ∀ k, k < w.heap.size → k ∉ bl → w'.heap[k]? = w.heap[k]?

section
variable {w w' w2 : World} {bl bl2 : List Nat}
theorem Fr.refl (w : World) (bl : List Nat) : Fr w w bl := ⟨rfl, rfl, rfl, Nat.le_refl _, fun _ _ _ => rfl⟩
theorem Fr.of_below (h : Below w.heap.size w w') (bl : List Nat) : Fr w w' bl := ⟨h.os, h.tape, h.output, h.size, fun k hk _ => h.block k hk⟩
theorem Fr.of_grown {row : Option Nat} (h : w.grownBy w' row) (hr : ∀ b, row = some b → b ∈ bl) : Fr w w' bl :=
  ⟨h.os, h.tape, h.output, h.size, fun k hk hn => h.block k hk (fun e => hn (hr k e.symm))⟩
theorem Fr.trans (h : Fr w w' bl) (h2 : Fr w' w2 bl2) (hs : ∀ b ∈ bl2, b ∈ bl ∨ w.heap.size ≤ b) : Fr w w2 bl :=
  ⟨h2.os.trans h.os, h2.tape.trans h.tape, h2.output.trans h.output, Nat.le_trans h.size h2.size, fun k hk hn => by
    rw [h2.block k (Nat.lt_of_lt_of_le hk h.size) (fun hm => by rcases hs k hm with h1 | h1; exact hn h1; omega), h.block k hk hn]⟩
theorem Fr.mono (h : Fr w w' bl) (hs : ∀ b ∈ bl, b ∈ bl2 ∨ w.heap.size ≤ b) : Fr w w' bl2 :=
  ⟨h.os, h.tape, h.output, h.size, fun k hk hn => h.block k hk (fun hm => by rcases hs k hm with h1 | h1; exact hn h1; omega)⟩
theorem Fr.below {base : Nat} (h : Fr w w' bl) (hb : ∀ b ∈ bl, base ≤ b) (hs : base ≤ w.heap.size) : Below base w w' :=
  ⟨h.os, h.tape, h.output, h.size, fun k hk => h.block k (by omega) (fun hm => by have := hb k hm; omega)⟩
theorem Fr.drewN (h : Fr w w' bl) (q : Nat) : Fr w (w'.drewN q) bl := ⟨h.os, h.tape, h.output, h.size, h.block⟩
theorem Rd.fr {A : Option Addr} {n : Nat} {xs : List UInt8} (h : Rd w A n xs) (hf : Fr w w' bl) (ho : ∀ b, blk A = some b → b ∉ bl) : Rd w' A n xs := by
  refine ⟨h.1, fun hn => ?_⟩
  obtain ⟨b, off, rfl, h2, h3⟩ := h.2 hn
  refine ⟨b, off, rfl, Nat.lt_of_lt_of_le h2 hf.size, fun i x hx => ?_⟩
  have hb := hf.block b h2 (ho b rfl)
  exact (World.cell?_of_block (a := ⟨b, off + i, none⟩) hb).trans (h3 i x hx)
theorem Own.fr {e : TypeId} {base n c : Nat} {A : Option Addr} {xs : List UInt8} (h : Own e w base A n c xs) (hf : Fr w w' bl) (ho : ∀ b, blk A = some b → b ∉ bl) : Own e w' base A n c xs := by
  refine ⟨h.1, ?_⟩
  rcases h.2 with h1 | ⟨g, cap, cur, h1, h2, h3, h4⟩
  · exact .inl h1
  · injection h1 with h1 h5 h6
    subst h1 h6
    exact .inr ⟨g, _, cur, rfl, h2, (hf.block g (Array.getElem?_eq_some_iff.1 h3).1 (ho g rfl)).trans h3, h4⟩
end
theorem Fr.set (w : World) (p i : Nat) (v : Value) : Fr w (w.setCell ⟨p, i, none⟩ v) [p] :=
  ⟨rfl, rfl, rfl, by simp, fun k _ hn => heap_setCell_other w ⟨p, i, none⟩ k v (by simpa using hn)⟩
end Go.Proofs.YtlnpicfkcahdbaaGreat
namespace Go.Proofs.YtlnpicfkcahdbaaGreat
open Go Go.RowKit

theorem wp_appW {P : Program} (w : World) {o : Oper} {a : Act} {K : Act → World → Prop} {Q : Exit → Act → World → Prop} (s x : Operand) (tt : TypeId)
    (ho : o.op = .call { callee := .builtin .append, args := #[s, x], argTypes := #[tt, tt] })
    (base : Nat) (t : TypeId) (z : Value) (by_ : Nat) (ht : P.underlying tt = some (.slice t)) (hi : (P.info? t).map (fun i => (i.zero, i.size, i.bytes)) = some (some z, 1, by_)) (hz1 : z.cells.size = 1)
    (A : Option Addr) (n c : Nat) (vs : List Value) (hs : a.eval s = .slice A n c) (hown : OwnV t w base A n c vs)
    (B : Option Addr) (m d : Nat) (ys : List Value) (hx : a.eval x = .slice B m d) (hr : RdV w B m ys) (h1 : ∀ u ∈ ys, u.oneCell' = true)
    (hn : n + m ≤ maxLen) (hby : (n + m) * by_ ≤ 140737488355328) (hbase : base ≤ w.heap.size)
    (h : ∀ A' c' w', OwnV t w' base A' (n + m) c' (vs ++ ys) → w.grownBy w' (blk A) → K (a.put o.dst (.slice A' (n + m) c')) w') : o.wp P a w K Q := by
  obtain ⟨i, hi, hz, hsz, hby2⟩ := info_parts hi
  have go : ∀ v' w', w'.ownsRow base t 1 v' (n + m) (vs ++ ys) → w.grownBy w' (Value.ownBlock (.slice A n c)) → K (a.put o.dst v') w' := by
    intro v' w' k1 k2
    obtain ⟨A', c', rfl⟩ : ∃ A' c', v' = .slice A' (n + m) c' := by
      rcases k1.2 with ⟨h3, h4⟩ | ⟨g, cap, cur, h3, _⟩
      · exact ⟨none, 0, by rw [h3, h4]⟩
      · exact ⟨_, _, h3⟩
    rw [own_blk] at k2
    exact h A' c' w' k1 k2
  rcases Nat.eq_zero_or_pos m with hm | hm
  · subst hm
    have hy : ys = [] := List.eq_nil_of_length_eq_zero hr.1
    subst hy
    rcases B with _ | ad
    · have hrun : (Builtin.append_ #[tt, tt] o.type #[.slice A n c, .slice none 0 d]).run P w = .ok (.slice A n c) w := by
        have ho2 := hown
        unfold OwnV at ho2
        rcases ho2.2 with ⟨h1, _⟩ | ⟨g, cap, cur, h1, _, _, hnc, _⟩
        · rw [h1]
          simp [Builtin.append_, run_underlying ht, sizeOf, typeInfo, hi, Builtin.lenOf, Builtin.firstCells]
        · rw [h1]
          simp [Builtin.append_, run_underlying ht, sizeOf, typeInfo, hi, Builtin.lenOf, Builtin.firstCells, hnc, storeCells]
      unfold Oper.wp execOp
      simp only [ho, resolve, invoke, builtin, Sem.run_bind, Sem.run_pure, Result.andThen_ok, List.map_toArray, List.map_cons, List.map_nil, hs, hx, hrun]
      have ho := hown
      unfold OwnV at ho
      have hfin := go (.slice A n c) w (by simpa using ho) (World.grownBy.refl w _)
      exact hfin
    · refine wp_append_own w s x tt ho base t i z 1 by_ ht hi hz hsz hby2 hz1 (by decide) (.slice A n c) n vs hs hown ad 0 d [] hx rfl (by simp) (by simp) hn hby hbase ?_
      intro v' w' k1 k2 _
      exact go v' w' k1 k2
  · obtain ⟨b, off, rfl, _, hc⟩ := hr.2 hm
    refine wp_append_own w s x tt ho base t i z 1 by_ ht hi hz hsz hby2 hz1 (by decide) (.slice A n c) n vs hs hown ⟨b, off, none⟩ m d ys hx (by simp [hr.1]) (fun j u hj => by rw [Addr.add_lit]; exact hc j u hj) h1 hn hby hbase ?_
    intro v' w' k1 k2 _
    exact go v' w' k1 k2
theorem step_appW {P : Program} (w : World) {ops : Array Oper} {o : Oper} {a : Act} {K : Act → World → Prop} {Q : Exit → Act → World → Prop} {E : Prop} (hgd : o.guard = none) (s x : Operand) (tt : TypeId)
    (ho : o.op = .call { callee := .builtin .append, args := #[s, x], argTypes := #[tt, tt] })
    (base : Nat) (t : TypeId) (z : Value) (by_ : Nat) (ht : P.underlying tt = some (.slice t)) (hi : (P.info? t).map (fun i => (i.zero, i.size, i.bytes)) = some (some z, 1, by_)) (hz1 : z.cells.size = 1)
    (A : Option Addr) (n c : Nat) (vs : List Value) (hs : a.eval s = .slice A n c) (hown : OwnV t w base A n c vs)
    (B : Option Addr) (m d : Nat) (ys : List Value) (hx : a.eval x = .slice B m d) (hr : RdV w B m ys) (h1 : ∀ u ∈ ys, u.oneCell' = true)
    (hn : n + m ≤ maxLen) (hby : (n + m) * by_ ≤ 140737488355328) (hbase : base ≤ w.heap.size)
    (h : ∀ A' c' w', OwnV t w' base A' (n + m) c' (vs ++ ys) → w.grownBy w' (blk A) → K (a.put o.dst (.slice A' (n + m) c')) w') :
    if Region.wanted o (yielded ops a.tmps) = true then Oper.wp P o a w K Q else E := by
  have hw : Region.wanted o (yielded ops a.tmps) = true := by simp [Region.wanted, hgd]
  rw [if_pos hw]
  exact wp_appW w s x tt ho base t z by_ ht hi hz1 A n c vs hs hown B m d ys hx hr h1 hn hby hbase h
end Go.Proofs.YtlnpicfkcahdbaaGreat
namespace Go.Proofs.YtlnpicfkcahdbaaGreat
open Go Go.RowKit

theorem ClG.grown {w w' : World} {p : Nat} {us : Array Value} {ty : TypeId} {row : Option Nat} (h : Cl w p us ty) (hg : w.grownBy w' row) (hne : row ≠ some p) : Cl w' p us ty := by
  obtain ⟨_, _, _, h4, h5⟩ := hg
  exact (h5 p h.lt (fun e => hne e.symm)).trans h
/-- The bytes of an entry of whose key s are left out. -/
def entB (s : Nat) (x : En) : List UInt8 := putU s ++ (putU (x.key.length - s) ++ (putU x.seq ++ ([bt x.kind] ++ (putU x.val.length ++ (x.key.drop s ++ x.val)))))
/-- What stands between two appends: the entry's box, the row so far. -/
def AE (w0 U : World) (g : Nat) (cs : Array Value) (A Ai : Option Addr) (n c : Nat) (xs : List UInt8) (wi : World) : Prop :=
  Cl wi g cs 31 ∧ blk Ai ≠ some g ∧ Own 5 wi w0.heap.size Ai n c xs ∧ Grow U wi A Ai ∧ Below w0.heap.size w0 wi
section
variable {w0 U wi wj : World} {g n c n' c' : Nat} {cs : Array Value} {A Ai Aj : Option Addr} {xs ys : List UInt8}
theorem AE.below (h : AE w0 U g cs A Ai n c xs wi) (hb : Below wi.heap.size wi wj) : AE w0 U g cs A Ai n c xs wj := by
  obtain ⟨h1, h2, h3, h4, h5⟩ := h
  exact ⟨h1.below hb, h2, h3.below hb, h4.trans (Grow.of_below Ai hb), h5.trans (hb.mono h5.size)⟩
theorem AE.app (h : AE w0 U g cs A Ai n c xs wi) (ho : Own 5 wj w0.heap.size Aj n' c' ys) (hg : Grow wi wj Ai Aj) : AE w0 U g cs A Aj n' c' ys wj := by
  obtain ⟨h1, h2, h3, h4, h5⟩ := h
  refine ⟨ClG.grown h1 hg.1 h2, fun e => ?_, ho, h4.trans hg, h5.trans (hg.below h3 h5.size)⟩
  rcases hg.2 with e2 | e2
  · exact h2 (e2.symm.trans e)
  · have := e2 g e
    have := h1.lt
    omega
end
set_option maxRecDepth 100000 in
set_option maxHeartbeats 8000000 in
theorem appendEntry_any {w0 w : World} {x : En} {v0 v1 v2 v3 : Value} (hx : EV w0 x v0 v1 v2 v3) (sx : SzE x) (s : Nat) (hs : s ≤ x.key.length) (A : Option Addr) (n c : Nat) (xs : List UInt8) (ho : Own 5 w w0.heap.size A n c xs) (hb : Below w0.heap.size w0 w) (hn : n ≤ 1099511627776) :
    Calls Tryz.prog 197 #[.slice A n c, .int .i64 (s : Int), .agg #[v0, v1, v2, v3]] w (RetAp w0.heap.size w A n xs (entB s x)) := by
  obtain ⟨K, kn, kc, V, vn, vc, rfl, rfl, rfl, rfl, r0, r3, c0, c3, d0, d3, s1, s2⟩ := hx.parts
  have l1 := r0.len
  have l2 := r3.len
  have hkn : kn ≤ 1099511627776 := by have := sx.1; omega
  have hvn : vn ≤ 1099511627776 := by have := sx.2; omega
  have hskn : s ≤ kn := by omega
  obtain ⟨U, hU⟩ : ∃ U, U = w.alloc (.cells #[.slice K kn kc, .int .u64 (x.seq : Int), .int .u8 (x.kind : Int), .slice V vn vc] 31) := ⟨_, rfl⟩
  obtain ⟨g, hg⟩ : ∃ g, g = w.heap.size := ⟨_, rfl⟩
  have hsz := hb.size
  have A0 : AE w0 w g #[.slice K kn kc, .int .u64 (x.seq : Int), .int .u8 (x.kind : Int), .slice V vn vc] A A n c xs U := by
    have hbU : Below w.heap.size w U := by rw [hU]; exact (Below.refl _ _).alloc (Nat.le_refl _) _
    refine ⟨by rw [hU, hg]; exact Cl.new _ _ _, fun e => ?_, ho.below hbU, Grow.of_below A hbU, hb.trans (hbU.mono hsz)⟩
    have := (ho.lt g e).2
    omega
  obtain ⟨z, hz⟩ : ∃ z, z = kn - s := ⟨_, rfl⟩
  have r0b : ∀ wi : World, Below w0.heap.size w0 wi → Rd wi (cutA K s kc) z (x.key.drop s) := fun wi hwi => by
    have h := (r0.below hwi).cut hskn (Nat.le_refl kn) c0
    rw [List.take_of_length_le (by omega)] at h
    rw [hz]
    exact h
  have hsl : ∀ W : World, (Instr.slice 28 (.slice K kn kc) (some (.int .i64 (s : Int))) none none).run Tryz.prog W = .ok (.slice (cutA K s kc) z (kc - s)) W := by
    rw [hz]
    exact cut_l Tryz.underlying28 elem_bytes size_u8 K hskn
  have hzn : z ≤ 1099511627776 := by omega
  have hsn : s ≤ 1099511627776 := by omega
  have R0 := Lib.hid r0b
  have R3 := Lib.hid r3
  have HL2 := Lib.hid l2
  have hc := A0.1.c4
  rw [hg] at hc
  have hseq : x.seq < 18446744073709551616 := s1
  have hEB : entB s x = putU s ++ (putU z ++ (putU x.seq ++ ([bt x.kind] ++ (putU vn ++ (x.key.drop s ++ x.val))))) := by
    unfold entB
    rw [hz, l1, l2]
  have HE := Lib.hid hEB
  have hdl : (x.key.drop s).length = z := by rw [List.length_drop]; omega
  have HDL := Lib.hid hdl
  have p1 := putU_len64 s (show s < B64 by unfold B64; omega)
  have p2 := putU_len64 z (show z < B64 by unfold B64; omega)
  have p3 := putU_len64 x.seq (show x.seq < B64 from hseq)
  have p5 := putU_len64 vn (show vn < B64 by unfold B64; omega)
  have HA := Lib.hid A0
  clear hx r0 r3 l1 l2 A0 ho r0b hz hEB hdl hs sx hskn
  go_enter Tryz.func197, Tryz.ntmps197
  go_wp2_with fail
  rw [← hU]
  refine (PutU_any s _ (by unfold B64; omega)).mono ?_
  rintro e wa1 ⟨P1, m1, d1, rfl, oP1, bP1⟩
  obtain rfl : (putU s).length = m1 := oP1.len
  have HB1 := Lib.hid (HA.out.below bP1)
  have rP1 := oP1.rd
  clear oP1 bP1 HA hc
  go_wp2_with (at_builtin; refine wpList_appX _ rfl _ _ 28 rfl w0.heap.size 5 Tryz.underlying28 info_u8 A _ _ _ rfl HB1.out.2.2.1 P1 (putU s).length d1 (putU s) rfl rP1 ?_ ?_ ?_)
  · omega
  · exact HB1.out.2.2.2.2.size
  intro A1 c1 w1 o1 g1
  have HA1 := Lib.hid (HB1.out.app o1 g1)
  have hc := HA1.out.1.c4
  rw [hg] at hc
  clear o1 g1 HB1 rP1
  go_wp2_with fail
  refine (PutU_any z _ (by unfold B64; omega)).mono ?_
  rintro e wa2 ⟨P2, m2, d2, rfl, oP2, bP2⟩
  obtain rfl : (putU z).length = m2 := oP2.len
  have HB2 := Lib.hid (HA1.out.below bP2)
  have rP2 := oP2.rd
  clear oP2 bP2 HA1 hc
  go_wp2_with (at_builtin; refine wpList_appX _ rfl _ _ 28 rfl w0.heap.size 5 Tryz.underlying28 info_u8 A1 _ _ _ rfl HB2.out.2.2.1 P2 (putU z).length d2 (putU z) rfl rP2 ?_ ?_ ?_)
  · omega
  · exact HB2.out.2.2.2.2.size
  intro A2 c2 w2 o2 g2
  have HA2 := Lib.hid (HB2.out.app o2 g2)
  have hc := HA2.out.1.c4
  rw [hg] at hc
  clear o2 g2 HB2 rP2
  go_wp2_with fail
  refine (PutU_any x.seq _ (by unfold B64; omega)).mono ?_
  rintro e wa3 ⟨P3, m3, d3, rfl, oP3, bP3⟩
  obtain rfl : (putU x.seq).length = m3 := oP3.len
  have HB3 := Lib.hid (HA2.out.below bP3)
  have rP3 := oP3.rd
  clear oP3 bP3 HA2 hc
  go_wp2_with (at_builtin; refine wpList_appX _ rfl _ _ 28 rfl w0.heap.size 5 Tryz.underlying28 info_u8 A2 _ _ _ rfl HB3.out.2.2.1 P3 (putU x.seq).length d3 (putU x.seq) rfl rP3 ?_ ?_ ?_)
  · omega
  · exact HB3.out.2.2.2.2.size
  intro A3 c3 w3 o3 g3
  have HA3 := Lib.hid (HB3.out.app o3 g3)
  have hc := HA3.out.1.c4
  rw [hg] at hc
  clear o3 g3 HB3 rP3
  go_wp2_with (at_builtin; refine wpList_appX _ rfl _ _ 28 rfl w0.heap.size 5 Tryz.underlying28 info_u8 A3 _ _ _ rfl (HA3.out.2.2.1.alloc _) _ 1 1 [bt x.kind] rfl (Rd.one _ _ _ _ ?_) ?_ ?_ ?_)
  · rw [bt_nat _ (by omega)]
  · omega
  · have := HA3.out.2.2.2.2.size; simp; omega
  intro A4 c4 w4 o4 g4
  have HA4 := Lib.hid ((HA3.out.below ((Below.refl _ _).alloc (Nat.le_refl _) _)).app o4 g4)
  have hc := HA4.out.1.c4
  rw [hg] at hc
  clear o4 g4 HA3
  go_wp2_with fail
  refine (PutU_any vn _ (by unfold B64; omega)).mono ?_
  rintro e wa5 ⟨P5, m5, d5, rfl, oP5, bP5⟩
  obtain rfl : (putU vn).length = m5 := oP5.len
  have HB5 := Lib.hid (HA4.out.below bP5)
  have rP5 := oP5.rd
  clear oP5 bP5 HA4 hc
  go_wp2_with (at_builtin; refine wpList_appX _ rfl _ _ 28 rfl w0.heap.size 5 Tryz.underlying28 info_u8 A4 _ _ _ rfl HB5.out.2.2.1 P5 (putU vn).length d5 (putU vn) rfl rP5 ?_ ?_ ?_)
  · omega
  · exact HB5.out.2.2.2.2.size
  intro A5 c5 w5 o5 g5
  have HA5 := Lib.hid (HB5.out.app o5 g5)
  have hc := HA5.out.1.c4
  rw [hg] at hc
  clear o5 g5 HB5 rP5
  have rd6 := R0.out _ HA5.out.2.2.2.2
  go_wp2_with (at_builtin; refine wpList_appX _ rfl _ _ 28 rfl w0.heap.size 5 Tryz.underlying28 info_u8 A5 _ _ _ rfl HA5.out.2.2.1 (cutA K s kc) z (kc - s) (x.key.drop s) rfl rd6 ?_ ?_ ?_)
  · omega
  · exact HA5.out.2.2.2.2.size
  intro A6 c6 w6 o6 g6
  have HA6 := Lib.hid (HA5.out.app o6 g6)
  have hc := HA6.out.1.c4
  rw [hg] at hc
  have rd7 := R3.out.below HA6.out.2.2.2.2
  clear o6 g6 HA5 rd6
  go_wp2_with (at_builtin; refine wpList_appX _ rfl _ _ 28 rfl w0.heap.size 5 Tryz.underlying28 info_u8 A6 _ _ _ rfl HA6.out.2.2.1 V vn vc x.val rfl rd7 ?_ ?_ ?_)
  · omega
  · exact HA6.out.2.2.2.2.size
  intro A7 c7 w7 o7 g7
  have HA7 := Lib.hid (HA6.out.app o7 g7)
  clear o7 g7 HA6 rd7 hc
  go_wp2_with fail
  go_ret
  obtain ⟨_, _, o, gr, _⟩ := HA7.out
  have hl : (entB s x).length = (putU s).length + (putU z).length + (putU x.seq).length + 1 + (putU vn).length + z + vn := by
    rw [HE.out]
    simp only [List.length_append, List.length_cons, List.length_nil, HDL.out, HL2.out]
    omega
  have hn : n + (entB s x).length = (((((n + (putU s).length) + (putU z).length) + (putU x.seq).length) + 1) + (putU vn).length) + z + vn := by omega
  have hxs : xs ++ entB s x = (((((xs ++ putU s) ++ putU z) ++ putU x.seq) ++ [bt x.kind]) ++ putU vn) ++ x.key.drop s ++ x.val := by
    rw [HE.out]
    simp only [List.append_assoc]
  unfold RetAp
  rw [hn, hxs]
  simp only [List.append_assoc] at o ⊢
  exact ⟨A7, c7, rfl, o, gr⟩
end Go.Proofs.YtlnpicfkcahdbaaGreat
namespace Go.Proofs.YtlnpicfkcahdbaaGreat
open Go Go.RowKit

set_option maxRecDepth 100000 in
set_option maxHeartbeats 2000000 in
theorem growNil_any (n : Nat) (w : World) (hn : n ≤ 1099511627776) : Calls Tryz.prog 221 #[.slice none 0 0, .int .i64 (n : Int)] w fun e w' => ∃ A c, e = .returned (.slice A 0 c) ∧ Own 5 w' w.heap.size A 0 c [] ∧ Below w.heap.size w w' := by
  obtain ⟨i0, hi0, z1, z2, z3⟩ := info_parts info_u8
  by_cases h0 : n = 0
  · subst h0
    go_enter Tryz.func221, Tryz.ntmps221
    go_wp2_with fail
    go_ret
    exact ⟨none, 0, rfl, Own.nil _ _ _, Below.refl _ _⟩
  · have hpos : 0 < n := by omega
    have hpi : ¬ ((n : Int) ≤ 0) := by omega
    have hpi2 : (0 : Int) < (n : Int) := by omega
    have hap := Lib.run_append_nil_zeros (P := Tryz.prog) w 28 3 28 5 i0 (.int .u8 0) .i64 .i64 Tryz.underlying28 Tryz.underlying3 hi0 z1 n hpos (by rw [z2]; omega) (by omega) (by rw [z3]; omega)
    have hcap := grownCap_ge w n 0 5
    have hcm := grownCap_le_maxLen w n 0 5 (by unfold maxLen; omega)
    obtain ⟨cap, hcp⟩ : ∃ cap, cap = grownCap w n 0 5 := ⟨_, rfl⟩
    rw [← hcp] at hap hcap hcm
    obtain ⟨cells, hce⟩ : ∃ cells, cells = Builtin.zeroCells (Value.int .u8 0).cells n ++ Builtin.zeroCells (Value.int .u8 0).cells (cap - n) := ⟨_, rfl⟩
    rw [← hce] at hap
    have hcs : cells.size = cap := by
      rw [hce]
      simp [Builtin.zeroCells, Value.cells]
      omega
    have HAP := Lib.hid hap
    have HCS := Lib.hid hcs
    have hsl : ∀ w, (Instr.slice 28 (.slice (some ⟨w.heap.size, 0, none⟩) n cap) none (some (.int .i64 0)) none).run Tryz.prog w = .ok (.slice (some ⟨w.heap.size, 0, none⟩) 0 cap) w := fun w =>
      cut_h (m := 0) Tryz.underlying28 elem_bytes size_u8 (some ⟨w.heap.size, 0, none⟩) (by omega) w
    clear hap hcs hce hcp
    go_enter Tryz.func221, Tryz.ntmps221
    go_wp2_with (at_builtin; refine Lib.wpList_append_run _ rfl _ _ _ _ rfl _ _ rfl rfl _ _ HAP.out ?_)
    go_wp2_with fail
    go_ret
    refine ⟨_, cap, rfl, ⟨rfl, .inr ⟨w.heap.size, cap, cells, rfl, Nat.le_refl _, ?_, Nat.zero_le _, hcm, by rw [HCS.out, Nat.mul_one], by simp⟩⟩, ?_⟩
    · have := heap_alloc_new w.drew (.cells cells 5)
      exact this
    · exact (Below.refl _ _).drew.alloc (Nat.le_refl _) _
set_option maxRecDepth 100000 in
set_option maxHeartbeats 4000000 in
theorem Concat_any (A : Option Addr) (n c : Nat) (xss : List (List UInt8)) (w : World) (hx : RdL w A n xss) (ht : tot xss ≤ 268435456) :
    Calls Tryz.prog 216 #[.slice A n c] w (Made w.heap.size w xss.flatten) := by
  have HXL := Lib.hid hx.len
  have hnl := tot_len xss
  have hnn : n ≤ 268435456 := by have := hx.len; omega
  have hfl := flat_len xss
  have HT := Lib.hid ht
  have HX := Lib.hid hx
  have HFT : Hid (∀ k, (xss.take k).flatten.length ≤ 268435456) := Lib.hid (fun k => by have := flat_take_le xss k; omega)
  clear ht hx hnl hfl
  go_enter Tryz.func216, Tryz.ntmps216
  go_wp2_with fail
  go_loopw [3, 11] (fun s3 s11 wr => ∃ (k z : Nat), k ≤ n ∧ s11 = .int .i64 (k : Int) ∧ z = (xss.take k).flatten.length ∧ s3 = .int .i64 (z : Int) ∧ wr = w) (fun _ s _ => n - (intOf s).toNat)
  case atStart => exact ⟨0, 0, Nat.zero_le _, rfl, rfl, rfl, rfl⟩
  case round =>
    obtain ⟨k, z, hk, rfl, hz, rfl, rfl⟩ := hrel
    have hz2 : z ≤ 268435456 := by rw [hz]; exact HFT.out k
    have HZ := Lib.hid hz
    clear hz
    by_cases hlt : k < n
    · obtain ⟨b, off, hA, hbl, hel⟩ := HX.out.2 (by omega)
      subst hA
      obtain ⟨xs, hxs⟩ : ∃ xs, xss[k]? = some xs := ⟨_, List.getElem?_eq_getElem (by have := HXL.out; omega)⟩
      obtain ⟨v, hv, K, kn, kc, rfl, hrK, _⟩ := hel k xs hxs
      obtain ⟨z2, hz2'⟩ : ∃ z2, z2 = z + kn := ⟨_, rfl⟩
      have hzz : z2 = (xss.take (k + 1)).flatten.length := by rw [flat_snoc hxs, List.length_append, ← HZ.out, hrK.len, hz2']
      have hz3 : z2 ≤ 268435456 := by rw [hzz]; exact HFT.out (k + 1)
      have e1 : IntKind.i64.wrap ((z : Int) + (kn : Int)) = (z2 : Int) := by rw [IntWalk.i64_in _ (by omega)]; omega
      have hkn : kn ≤ 268435456 := by omega
      have HZZ := Lib.hid hzz
      have HZ2 := Lib.hid hz2'
      clear hel hxs hrK hzz hz2'
      go_wp2_with fail
      go_roundw
      case rel => exact ⟨k + 1, z2, by omega, by go_num, HZZ.out, by first | rfl | go_num | (rw [e1]), by first | trivial | rfl⟩
      case measure => simp [intOf]; omega
    · obtain rfl : k = n := by omega
      obtain ⟨w0, rfl⟩ : ∃ w0, w0 = wr := ⟨_, rfl⟩
      have HG := Lib.hid (growNil_any z w0 (by omega))
      go_wp2_with fail
      with_reducible refine HG.out.mono ?_
      rintro e w1 ⟨G, gc, rfl, oG, bG⟩
      have HOG := Lib.hid (And.intro oG bG)
      clear oG bG HG
      go_wp2_with fail
      go_loopw [6, 27] (fun s6 s27 wx => ∃ (j m d : Nat) (L : Option Addr), j ≤ k ∧ s27 = .int .i64 (j : Int) ∧ s6 = .slice L m d ∧ Own 5 wx w0.heap.size L m d (xss.take j).flatten ∧ Below w0.heap.size w0 wx) (fun _ s _ => k - (intOf s).toNat)
      case atStart => exact ⟨0, 0, gc, G, Nat.zero_le _, rfl, rfl, HOG.out.1, HOG.out.2⟩
      case round =>
        obtain ⟨j, m, d, L, hj, rfl, rfl, oL, bL⟩ := hrel
        have hml := oL.len
        have hm2 : m ≤ 268435456 := by have := HFT.out j; omega
        have hsz := bL.size
        by_cases hjk : j < k
        · obtain ⟨b, off, hA, hbl, hel⟩ := HX.out.2 (by omega)
          subst hA
          obtain ⟨xs, hxs⟩ : ∃ xs, xss[j]? = some xs := ⟨_, List.getElem?_eq_getElem (by have := HXL.out; omega)⟩
          obtain ⟨v, hv, K, kn, kc, rfl, hrK, _⟩ := hel j xs hxs
          have hv2 : wr.cell? ⟨b, off + j, none⟩ = some (.slice K kn kc) := (bL.cell (p := ⟨b, off + j, none⟩) hbl).trans hv
          have hrK2 := hrK.below bL
          have hkn : kn ≤ 268435456 := by
            have h1 := HFT.out (j + 1)
            rw [flat_snoc hxs, List.length_append, hrK.len] at h1
            omega
          have HFS := Lib.hid (flat_snoc hxs)
          have BL := Lib.hid bL
          clear hel hxs hrK hv bL hml
          go_wp2_with (at_builtin; refine wpList_app _ rfl _ _ 28 rfl w0.heap.size 5 Tryz.underlying28 info_u8 L m d _ rfl oL K kn kc xs rfl hrK2 ?_ ?_ ?_)
          · omega
          · exact hsz
          intro L2 d2 w3 o3 b3
          have H3 := Lib.hid (And.intro o3 (BL.out.trans b3))
          clear oL o3 b3 hrK2
          go_wp2_with fail
          go_roundw
          case rel => exact ⟨j + 1, m + kn, d2, L2, by omega, by go_num, rfl, by rw [HFS.out]; exact H3.out.1, H3.out.2⟩
          case measure => simp [intOf]; omega
        · obtain rfl : j = k := by omega
          rw [List.take_of_length_le (by have := HXL.out; omega)] at oL
          have HF := Lib.hid (And.intro oL bL)
          clear oL bL hml
          go_wp2_with fail
          go_ret
          exact ⟨L, m, d, rfl, HF.out.1, HF.out.2⟩
end Go.Proofs.YtlnpicfkcahdbaaGreat
namespace Go.Proofs.YtlnpicfkcahdbaaGreat
open Go Go.RowKit

theorem setB_eq {fs : List UInt8} {b : Nat} : setB fs b = ((fs[b / 8]?.getD 0).toNat.testBit (b % 8)) := by
  unfold setB
  cases h : fs[b / 8]? with
  | none => simp
  | some x => simp [Nat.testBit_eq_decide_div_mod_eq]
end Go.Proofs.YtlnpicfkcahdbaaGreat
namespace Go.Proofs.YtlnpicfkcahdbaaGreat
open Go Go.RowKit

theorem cutA_none {A : Option Addr} {k c : Nat} (hnil : A = none → c = 0) (hk : k ≤ c) : cutA A k c = none → c - k = 0 := fun h => by
  unfold cutA at h
  split at h
  · have := hnil h; omega
  · cases A with
    | none => have := hnil rfl; omega
    | some a => cases h

set_option maxRecDepth 100000 in
set_option maxHeartbeats 2000000 in
theorem Open_any (A : Option Addr) (n c : Nat) (z : Int) (xs : List UInt8) (w : World) (hx : Rd w A n xs) (hn : n ≤ 1099511627776) (hcap : n ≤ c) (hnil : A = none → c = 0) (hz : I64 z) :
    Calls Tryz.prog 117 #[.slice A n c, .int .i64 z] w (RetO w.heap.size w (openG xs z)) := by
  have HL := Lib.hid hx.len
  by_cases hneg : z < 0
  · have G := Lib.hid (openG_arg (xs := xs) (.inl hneg))
    go_enter Tryz.func117, Tryz.ntmps117
    have h1 : decide (z < 0) = true := by simpa using hneg
    go_wp2
    go_ret3
    exact RetO_none G.out (Below.refl _ _)
  · have h1 : decide (z < 0) = false := by simpa using hneg
    by_cases hbig : (n : Int) < z
    · have G := Lib.hid (openG_arg (xs := xs) (.inr (by rw [HL.out]; exact hbig)))
      have h2 : decide ((n : Int) < z) = true := by simpa using hbig
      go_enter Tryz.func117, Tryz.ntmps117
      go_wp2
      go_ret3
      exact RetO_none G.out (Below.refl _ _)
    · obtain ⟨a, rfl⟩ : ∃ a : Nat, z = a := ⟨z.toNat, by omega⟩
      have han : a ≤ n := by omega
      have h2 : decide (n < a) = false := by simp; omega
      clear hbig hneg h1 hz
      have hsl : ∀ w, (Instr.slice 28 (.slice A n c) (some (.int .i64 (a : Int))) none none).run Tryz.prog w = .ok (.slice (cutA A a c) (n - a) (c - a)) w :=
        cut_l Tryz.underlying28 elem_bytes size_u8 A han
      have hr : Rd w (cutA A a c) (n - a) (xs.drop a) := by
        have h := hx.cut (k := a) (m := n) han (Nat.le_refl _) hcap
        rw [List.take_of_length_le (by rw [HL.out]; omega)] at h
        exact h
      have hRnil := cutA_none hnil (show a ≤ c by omega)
      obtain ⟨R, hR⟩ : ∃ R, R = cutA A a c := ⟨_, rfl⟩
      obtain ⟨N, hN⟩ : ∃ N, N = n - a := ⟨_, rfl⟩
      obtain ⟨K, hK⟩ : ∃ K, K = c - a := ⟨_, rfl⟩
      obtain ⟨rs, hrs⟩ : ∃ rs, rs = xs.drop a := ⟨_, rfl⟩
      rw [← hR, ← hN, ← hK] at hsl
      rw [← hR, ← hK] at hRnil
      rw [← hR, ← hN, ← hrs] at hr
      have hNK : N ≤ K := by omega
      have hNa : n = a + N := by omega
      have HRN := Lib.hid hRnil
      have HRS := Lib.hid hrs
      have HNA := Lib.hid hNa
      have hN40 : N ≤ 1099511627776 := by omega
      have ha40 : a ≤ 1099511627776 := by omega
      clear hnil hRnil hR hN hK hrs hNa hcap
      by_cases h8 : N < 8
      · have G := Lib.hid (openG_end (xs := xs) HL.out han (by have := HNA.out; omega))
        have h3 : decide (N < 8) = true := by simpa using h8
        go_enter Tryz.func117, Tryz.ntmps117
        go_wp2
        go_ret3
        exact RetO_none G.out (Below.refl _ _)
      · have h3 : decide (N < 8) = false := by simpa using h8
        have hs4 : ∀ w, (Instr.slice 28 (.slice R N K) (some (.int .i64 4)) none none).run Tryz.prog w = .ok (.slice (cutA R 4 K) (N - 4) (K - 4)) w :=
          cut_l Tryz.underlying28 elem_bytes size_u8 R (k := 4) (by omega)
        have hr4 : Rd w (cutA R 4 K) (N - 4) (rs.drop 4) := by
          have h := hr.cut (k := 4) (m := N) (by omega) (Nat.le_refl _) hNK
          rw [List.take_of_length_le (by rw [hr.len]; omega)] at h
          exact h
        have HG1 : Hid (∀ w', Rd w' R N rs → Calls Tryz.prog 160 #[.slice R N K] w' fun e w'' => e = .returned (.int .u32 (numK rs 4 : Int)) ∧ ∃ q, w'' = w'.drewN q) := Lib.hid (fun w' h => (getWord_any R N K rs w' h (by omega) hN40 hNK).mono fun _ _ h => h)
        have HG2 : Hid (∀ w', Rd w' (cutA R 4 K) (N - 4) (rs.drop 4) → Calls Tryz.prog 160 #[.slice (cutA R 4 K) (N - 4) (K - 4)] w' fun e w'' => e = .returned (.int .u32 (numK (rs.drop 4) 4 : Int)) ∧ ∃ q, w'' = w'.drewN q) := Lib.hid (fun w' h => (getWord_any _ _ _ _ w' h (by omega) (by omega) (by omega)).mono fun _ _ h => h)
        obtain ⟨R4, hR4⟩ : ∃ R4, R4 = cutA R 4 K := ⟨_, rfl⟩
        obtain ⟨N4, hN4⟩ : ∃ N4, N4 = N - 4 := ⟨_, rfl⟩
        obtain ⟨K4, hK4⟩ : ∃ K4, K4 = K - 4 := ⟨_, rfl⟩
        rw [← hR4, ← hN4, ← hK4] at hs4 HG2
        rw [← hR4, ← hN4] at hr4
        clear hR4 hN4 hK4
        obtain ⟨m, hm⟩ : ∃ m, m = numK rs 4 := ⟨_, rfl⟩
        obtain ⟨sm, hsm⟩ : ∃ sm, sm = numK (rs.drop 4) 4 := ⟨_, rfl⟩
        have hm32 : m < 4294967296 := by rw [hm]; exact numK_lt rs 4
        have hsm32 : sm < 4294967296 := by rw [hsm]; exact numK_lt _ 4
        rw [← hm] at HG1
        rw [← hsm] at HG2
        have Hm := Lib.hid hm
        have Hsm := Lib.hid hsm
        have HM : Hid (m = numK (xs.drop a) 4) := Lib.hid (by rw [hm, HRS.out])
        clear hm hsm
        go_enter Tryz.func117, Tryz.ntmps117
        go_wp2
        go_quiet ((first | (go_at_call 160; with_reducible exact Calls.quiet_of (HG1.out _ (hr.drewN _))) | (go_at_call 160; with_reducible exact Calls.quiet_of (HG2.out _ (hr4.drewN _)))))
        obtain ⟨W, hW⟩ : ∃ W, W = w.drewN nq := ⟨_, rfl⟩
        have hrW : Rd W R N rs := by rw [hW]; exact hr.drewN _
        have hb0 : Below w.heap.size w W := by rw [hW]; exact below_drewN (Below.refl _ _) _
        rw [← hW]
        clear hW HG1 HG2 hs4 hr4 hsl hr h2
        have hi0 : IntKind.i64.wrap (m : Int) = (m : Int) := IntWalk.i64_in _ (by omega)
        by_cases hsz : 1048576 < m
        · have G := Lib.hid (openG_size (xs := xs) HL.out (by have := HNA.out; omega) HM.out hsz)
          have h4 : decide (1048576 < m) = true := by simpa using hsz
          go_wp2
          go_ret3
          exact RetO_none G.out hb0
        · have h4 : decide (1048576 < m) = false := by simpa using hsz
          by_cases hcut : N < 8 + m
          · have G := Lib.hid (openG_cut (xs := xs) HL.out (by have := HNA.out; omega) HM.out hsz (by have := HNA.out; omega))
            have h5 : decide ((N : Int) < 8 + (m : Int)) = true := by simp; omega
            go_wp2
            go_ret3
            exact RetO_none G.out hb0
          · have h5 : decide ((N : Int) < 8 + (m : Int)) = false := by simp; omega
            have hsi : ∀ w, (Instr.slice 28 (.slice R N K) (some (.int .i64 8)) (some (.int .i64 (8 + (m : Int)))) none).run Tryz.prog w = .ok (.slice (cutA R 8 K) m (K - 8)) w := fun w => by
              have h := cut_lh Tryz.underlying28 elem_bytes size_u8 R (n := N) (cap := K) (k := 8) (m := 8 + m) (by omega) (by omega) w
              rw [Nat.add_sub_cancel_left] at h
              exact h
            have hsh : ∀ w, (Instr.slice 28 (.slice R N K) none (some (.int .i64 4)) none).run Tryz.prog w = .ok (.slice R 4 K) w :=
              cut_h Tryz.underlying28 elem_bytes size_u8 R (m := 4) (by omega)
            have hri : Rd W (cutA R 8 K) m ((rs.take (8 + m)).drop 8) := by
              have h := hrW.cut (k := 8) (m := 8 + m) (by omega) (by omega) hNK
              rw [Nat.add_sub_cancel_left] at h
              exact h
            have hrh : Rd W R 4 (rs.take 4) := by
              have h := hrW.cut (k := 0) (m := 4) (by omega) (by omega) hNK
              rw [List.drop_zero] at h
              have e : cutA R 0 K = R := by
                unfold cutA
                rw [if_neg (by omega)]
                cases R <;> simp [Addr.add]
              rw [e] at h
              exact h
            have hin : cutA R 8 K = none → K - 8 = 0 := cutA_none HRN.out (by omega)
            have hR0 : R = none → K = 0 := HRN.out
            obtain ⟨I, hI⟩ : ∃ I, I = cutA R 8 K := ⟨_, rfl⟩
            obtain ⟨KI, hKI⟩ : ∃ KI, KI = K - 8 := ⟨_, rfl⟩
            have hmKI : m ≤ KI := by omega
            obtain ⟨bd, hbd⟩ : ∃ bd, bd = (rs.take (8 + m)).drop 8 := ⟨_, rfl⟩
            rw [← hI, ← hKI] at hsi hin
            rw [← hI, ← hbd] at hri
            have hbl := hri.len
            have hhl := hrh.len
            have hrl := hrW.len
            have hwe := whole_eq Hm.out (by rw [hrl]; omega)
            have e1 : (xs.take (a + 8 + m)).drop (a + 8) = bd := by
              rw [hbd, HRS.out, List.drop_take, List.drop_take, List.drop_drop, show a + 8 + m - (a + 8) = m by omega, show 8 + m - 8 = m by omega]
            have e2 : (xs.take (a + 8 + m)).drop a = rs.take (8 + m) := by
              rw [HRS.out, List.drop_take, show a + 8 + m - a = 8 + m by omega]
            have G := Lib.hid (openG_whole (xs := xs) HL.out HM.out hsz (by have := HNA.out; omega))
            rw [e1, e2] at G
            rw [← hbd, ← Hsm.out] at hwe
            have hap : a + (8 + m) = a + 8 + m := by omega
            have HAP := Lib.hid hap
            obtain ⟨zc, hzc⟩ : ∃ zc, zc = crcB (rs.take 4 ++ bd) := ⟨_, rfl⟩
            have hfl : [rs.take 4, bd].flatten = rs.take 4 ++ bd := by simp
            have HZC : Hid (crcB [rs.take 4, bd].flatten = zc) := Lib.hid (by rw [hfl, hzc])
            rw [← hzc] at hwe
            have hRa : R ≠ none := fun e => by have := hR0 e; omega
            have hts : tot [rs.take 4, bd] ≤ 1099511627776 := by simp only [tot, hhl, hbl]; omega
            have hL2 : RdL (W.alloc (.cells #[.slice R 4 K, .slice I m KI] 28)) (some ⟨W.heap.size, 0, none⟩) 2 [rs.take 4, bd] :=
              rdl_two ⟨R, 4, K, rfl, hrh, by omega, fun e => absurd e hRa⟩ ⟨I, m, KI, rfl, hri, hmKI, hin⟩ _ rfl
            have HIN := Lib.hid hin
            have HL2 := Lib.hid hL2
            clear hI hKI hbd hzc hfl e1 e2 hrW hrh hRa hap hL2 hin
            go_wp2_with fail
            have HS := Sum_any (some ⟨W.heap.size, 0, none⟩) 2 2 [rs.take 4, bd] _ HL2.out hts
            rw [HZC.out] at HS
            refine HS.mono ?_
            clear HS
            rintro e w1 ⟨rfl, hb1⟩
            have hb1 : Below W.heap.size W w1 := ((Below.refl _ _).alloc (Nat.le_refl _) _).trans (hb1.mono (by simp))
            have hr1 := hri.below hb1
            have hbw1 := hb0.trans (hb1.mono hb0.size)
            by_cases hsum : zc = sm
            · have F := Lib.hid (G.out.trans (if_pos (hwe.2 hsum)))
              have hne : ((zc : Int) != (sm : Int)) = false := by rw [hsum]; simp
              go_wp2_with fail
              refine (Clone_any I m KI bd _ hr1 (by omega) HIN.out).mono ?_
              rintro e w2 ⟨B, bn, bc, rfl, oB, hb2⟩
              go_wp2
              go_ret3
              have hbn : bn = m := by rw [← oB.len, hbl]
              subst hbn
              refine ⟨B, bn, bc, by rw [F.out, ← HAP.out]; rfl, ?_, hbw1.trans (hb2.mono hbw1.size)⟩
              rw [F.out]
              exact oB.mono hbw1.size
            · have F := Lib.hid (G.out.trans (if_neg (fun h => hsum (hwe.1 h))))
              have hne : ((zc : Int) != (sm : Int)) = true := by simp; omega
              go_wp2
              go_ret3
              exact RetO_none F.out hbw1
end Go.Proofs.YtlnpicfkcahdbaaGreat
namespace Go.Proofs.YtlnpicfkcahdbaaGreat
open Go Go.RowKit Go.Maps

abbrev DU := DataW Unit
/-- A text as the model has it. -/
def tx (l : List UInt8) : ByteArray := ⟨l.toArray⟩
theorem tx_list (l : List UInt8) : (tx l).data.toList = l := by simp [tx]
theorem tx_size (l : List UInt8) : (tx l).size = l.length := by rw [← tx_list l]; simp [tx, ByteArray.size]
theorem tx_of (s : ByteArray) : tx s.data.toList = s := by cases s; simp [tx]
theorem lawN : Keyed Tryz.prog 9 := string_keyed Tryz.underlying9
theorem keyN {x : List UInt8} (h : x.length ≤ maxLen) : keyOf Tryz.prog 9 (.string (tx x)) = some (.string x) := by
  have := WideMaps.keyOf_string_mk Tryz.underlying9 (s := tx x) (by rw [tx_size]; exact h)
  rw [tx_list] at this
  exact this
theorem keyN_inv (key : Value) (kl : Lit) (h : keyOf Tryz.prog 9 key = some kl) : ∃ x : ByteArray, key = .string x := by
  obtain ⟨s, h1, _⟩ := WideMaps.string_of_keyOf Tryz.underlying9 h
  exact ⟨s, h1⟩
/-- How a pointer to a file reads: its block's number. -/
def ptrEl : Value → Option (DU × List MemPlace)
  | .pointer (some ⟨b, 0, none⟩) => some (.lit (.int .i64 (b : Int)), [])
  | .pointer none => some (.nil, [])
  | _ => none
theorem ptrEl_some (b : Nat) : ptrEl (.pointer (some ⟨b, 0, none⟩)) = some (.lit (.int .i64 (b : Int)), []) := rfl
theorem ptrEl_none : ptrEl (.pointer none) = some (.nil, []) := rfl
theorem ptrEl_inv (v : Value) (y : DU × List MemPlace) (h : ptrEl v = some y) : ∃ p : Option Nat, v = .pointer (p.map fun b => ⟨b, 0, none⟩) := by
  unfold ptrEl at h
  split at h
  · next b => exact ⟨some b, rfl⟩
  · exact ⟨none, rfl⟩
  · cases h
theorem ptrEl_at {v : Value} {b : Nat} {ps : List MemPlace} (h : ptrEl v = some (.lit (.int .i64 (b : Int)), ps)) : v = .pointer (some ⟨b, 0, none⟩) := by
  obtain ⟨p, rfl⟩ := ptrEl_inv v _ h
  cases p with
  | none => cases h
  | some c =>
    have h1 : (some (DataW.lit (.int .i64 (c : Int)), ([] : List MemPlace)) : Option (DU × List MemPlace)) = some (.lit (.int .i64 (b : Int)), ps) := h
    simp only [Option.some.injEq, Prod.mk.injEq, DataW.lit.injEq, Lit.int.injEq, true_and] at h1
    have : c = b := by omega
    rw [this]
    rfl
theorem ptrEl_nil {v : Value} {ps : List MemPlace} (h : ptrEl v = some (.nil, ps)) : v = .pointer none := by
  obtain ⟨p, rfl⟩ := ptrEl_inv v _ h
  cases p with
  | none => rfl
  | some c => cases h
theorem zeroP (w : World) : (zeroValue 115).run Tryz.prog w = .ok (.pointer none) w := by kernel_rfl

/-- A file: its name, its bytes, how many are safe; its block; where its bytes lie, and in how much room. -/
structure FR where
  name : List UInt8
  dat : List UInt8
  saf : Nat
  fb : Nat
  A : Option Addr
  c : Nat

def FR.bl (r : FR) : List Nat := r.fb :: (blk r.A).toList
def FR.val (r : FR) : List UInt8 × List UInt8 × Nat := (r.name, r.dat, r.saf)
/-- 'The file lies in memory so.' -/
def FileAt (w : World) (r : FR) : Prop :=
  w.heap[r.fb]? = some (.cells #[.slice r.A r.dat.length r.c, .int .i64 (r.saf : Int)] 117 (0, 0)) ∧ Own 5 w 0 r.A r.dat.length r.c r.dat ∧ r.saf ≤ r.dat.length
/-- 'The map reads as these files.' -/
def MR (Dm : DU) (rs : List FR) : Prop :=
  Maps.size Dm = rs.length ∧ (∀ x, has Dm (.string x) = rs.any (fun r => r.name == x)) ∧ ∀ r ∈ rs, ∀ z, Dm.atKey (.string r.name) z = .lit (.int .i64 (r.fb : Int))
def MapAt (w : World) (m : Option Nat) (rs : List FR) : Prop :=
  (m = none ∧ rs = []) ∨ ∃ b Dm, m = some b ∧ w.ownsMap Tryz.prog 9 ptrEl b rs.length Dm ∧ MR Dm rs
/-- All blocks of a disk. -/
def allB (p : Nat) (m : Option Nat) (rs : List FR) : List Nat := p :: (m.toList ++ rs.flatMap FR.bl)

section
variable {w w' w2 : World} {bl bl2 : List Nat}
theorem FileAt.fr {r : FR} (h : FileAt w r) (hf : Fr w w' bl) (ho : ∀ b ∈ r.bl, b ∉ bl) : FileAt w' r := by
  obtain ⟨h1, h2, h3⟩ := h
  refine ⟨(hf.block r.fb (Array.getElem?_eq_some_iff.1 h1).1 (ho _ (by simp [FR.bl]))).trans h1, h2.fr hf (fun b hb => ho b (by simp [FR.bl, hb])), h3⟩
theorem FileAt.lt {r : FR} (h : FileAt w r) : ∀ b ∈ r.bl, b < w.heap.size := fun b hb => by
  simp only [FR.bl, List.mem_cons, Option.mem_toList] at hb
  rcases hb with rfl | hb
  · exact (Array.getElem?_eq_some_iff.1 h.1).1
  · exact (h.2.1.lt b hb).2
theorem MapAt.fr {m : Option Nat} {rs : List FR} (h : MapAt w m rs) (hf : Fr w w' bl) (ho : ∀ b, m = some b → b ∉ bl) : MapAt w' m rs := by
  rcases h with h | ⟨b, Dm, rfl, ⟨es, clock, h1, h2⟩, h3⟩
  · exact .inl h
  · exact .inr ⟨b, Dm, rfl, ⟨es, clock, (hf.block b (Array.getElem?_eq_some_iff.1 h1).1 (ho b rfl)).trans h1, h2⟩, h3⟩
theorem MapAt.lt {m : Option Nat} {rs : List FR} (h : MapAt w m rs) : ∀ b, m = some b → b < w.heap.size := fun b hb => by
  rcases h with ⟨h, _⟩ | ⟨b', Dm, h, h1, _⟩
  · rw [h] at hb; cases hb
  · rw [h] at hb
    injection hb with hb
    rw [← hb]
    exact h1.lt
end
end Go.Proofs.YtlnpicfkcahdbaaGreat
namespace Go.Proofs.YtlnpicfkcahdbaaGreat
open Go Go.RowKit

/-- The same key and number. -/
def sameK (x e : En) : Bool := eqB x.key e.key && decide (x.seq = e.seq)
def inL (es : List En) (e : En) : Bool := es.any (fun x => sameK x e)
theorem inL_at {es : List En} {e x : En} {k : Nat} (hx : es[k]? = some x) (h : sameK x e = true) : inL es e = true := List.any_eq_true.2 ⟨x, List.mem_of_getElem? hx, h⟩
theorem inL_snoc {es : List En} {e x : En} {k : Nat} (hx : es[k]? = some x) (h : inL (es.take k) e = false) (hk : sameK x e = false) : inL (es.take (k + 1)) e = false := by
  rw [List.take_add_one, hx]
  unfold inL at h ⊢
  rw [List.any_append, h]
  simp [hk]
set_option maxRecDepth 100000 in
set_option maxHeartbeats 4000000 in
theorem In_any {w : World} {A : Option Addr} {n c : Nat} {es : List En} {e : En} {v0 v1 v2 v3 : Value} (h : REs w A n es) (hn : n ≤ 1099511627776) (hs : ∀ x ∈ es, SzE x) (he : EV w e v0 v1 v2 v3) (se : SzE e) :
    Calls Tryz.prog 40 #[.slice A n c, .agg #[v0, v1, v2, v3]] w (RetT w (inL es e)) := by
  obtain ⟨K, kn, kc, V, vn, vc, rfl, rfl, rfl, rfl, r0, _⟩ := he.parts
  obtain ⟨U, hU⟩ : ∃ U, U = w.alloc (.cells #[.slice K kn kc, .int .u64 (e.seq : Int), .int .u8 (e.kind : Int), .slice V vn vc] 31) := ⟨_, rfl⟩
  have bU : Below w.heap.size w U := by rw [hU]; exact (Below.refl _ _).alloc (Nat.le_refl _) _
  have XU := Lib.hid (show Cl U w.heap.size #[.slice K kn kc, .int .u64 (e.seq : Int), .int .u8 (e.kind : Int), .slice V vn vc] 31 by rw [hU]; exact Cl.new _ _ _)
  have hk : kn ≤ maxLen := maxLen_e (by rw [← r0.len]; exact se.1)
  have HK := Lib.hid (r0.below bU)
  have H1 := Lib.hid (h.below bU)
  have HLN := Lib.hid h.len
  have HS := Lib.hid hs
  have BU := Lib.hid bU
  clear h hs he r0 bU
  go_enter Tryz.func40, Tryz.ntmps40
  go_upto_block 1 with fail
  rw [← hU]
  clear hU
  go_wp2_with fail
  go_loopw [5] (fun s5 wr => ∃ k : Nat, k ≤ n ∧ s5 = .int .i64 (k : Int) ∧ inL (es.take k) e = false ∧ Below U.heap.size U wr) (fun s _ => n - (intOf s).toNat)
  case atStart => exact ⟨0, Nat.zero_le _, rfl, rfl, Below.refl _ _⟩
  case round =>
    obtain ⟨k, hk', rfl, hin, hB⟩ := hrel
    have HB := Lib.hid hB
    have HIN := Lib.hid hin
    have XR := Lib.hid (XU.out.below hB)
    have HKR := Lib.hid (HK.out.below hB)
    have hR := H1.out.below hB
    clear hB hin
    by_cases hlt : k < n
    · obtain ⟨b, off, hAb, hbl⟩ := hR.pos (by omega)
      subst hAb
      obtain ⟨x, u0, u1, u2, u3, hx, c0, c1, c2, c3, hev⟩ := hR.at_ k hlt
      obtain ⟨L, ln, lc, M, mn, mc, rfl, rfl, rfl, rfl, q0, _⟩ := hev.parts
      have hsx := HS.out x (List.mem_of_getElem? hx)
      have hln : ln ≤ maxLen := maxLen_e (by rw [← q0.len]; exact hsx.1)
      have HXK := Lib.hid hx
      obtain ⟨z, hz⟩ : ∃ z, z = eqB x.key e.key := ⟨_, rfl⟩
      have HE : Hid (∀ q, Calls Tryz.prog 64 #[.slice L ln lc, .slice K kn kc] (wr.drewN q) (RetB (wr.drewN q) z)) := Lib.hid (fun q => by rw [hz]; exact Equal_any _ _ _ _ _ _ x.key e.key _ (q0.drewN q) (HKR.out.drewN q) hln hk)
      have HSK : Hid (sameK x e = (z && decide (x.seq = e.seq))) := Lib.hid (by rw [hz]; rfl)
      obtain ⟨d0, d1, d2, d3, _⟩ := XR.out.c4
      clear hR hx hev q0 hz
      by_cases hsq : x.seq = e.seq
      · cases z with
        | true =>
          have HTR : Hid (inL es e = true) := Lib.hid (inL_at HXK.out (by rw [HSK.out]; simpa using hsq))
          go_wp2
          go_quiet ((go_at_call 64; with_reducible exact Calls.quiet_of (HE.out _)))
          have BN := Lib.hid (below_drewN (belowT' BU.out HB.out) nq)
          clear c0 c1 c2 c3 d0 d1 d2 d3
          go_wp2
          go_ret
          exact ⟨by rw [HTR.out]; rfl, BN.out⟩
        | false =>
          have HNX : Hid (inL (es.take (k + 1)) e = false) := Lib.hid (inL_snoc HXK.out HIN.out (by rw [HSK.out]; simp))
          go_wp2
          go_quiet ((go_at_call 64; with_reducible exact Calls.quiet_of (HE.out _)))
          have BN := Lib.hid (below_drewN HB.out nq)
          clear c0 c1 c2 c3 d0 d1 d2 d3
          go_wp2
          go_roundw
          case rel => exact ⟨k + 1, by omega, by go_num, HNX.out, BN.out⟩
          case measure => simp [intOf]; omega
      · cases z with
        | true =>
          have HNX : Hid (inL (es.take (k + 1)) e = false) := Lib.hid (inL_snoc HXK.out HIN.out (by rw [HSK.out]; simp; exact hsq))
          go_wp2
          go_quiet ((go_at_call 64; with_reducible exact Calls.quiet_of (HE.out _)))
          have BN := Lib.hid (below_drewN HB.out nq)
          clear c0 c1 c2 c3 d0 d1 d2 d3
          go_wp2
          go_roundw
          case rel => exact ⟨k + 1, by omega, by go_num, HNX.out, BN.out⟩
          case measure => simp [intOf]; omega
        | false =>
          have HNX : Hid (inL (es.take (k + 1)) e = false) := Lib.hid (inL_snoc HXK.out HIN.out (by rw [HSK.out]; simp))
          go_wp2
          go_quiet ((go_at_call 64; with_reducible exact Calls.quiet_of (HE.out _)))
          have BN := Lib.hid (below_drewN HB.out nq)
          clear c0 c1 c2 c3 d0 d1 d2 d3
          go_wp2
          go_roundw
          case rel => exact ⟨k + 1, by omega, by go_num, HNX.out, BN.out⟩
          case measure => simp [intOf]; omega
    · have htk : es.take k = es := List.take_of_length_le (by have := HLN.out; omega)
      have HFN : Hid (inL es e = false) := Lib.hid (by rw [← htk]; exact HIN.out)
      have BW := Lib.hid (belowT' BU.out HB.out)
      clear htk hR
      go_wp2
      go_ret
      exact ⟨by rw [HFN.out]; rfl, BW.out⟩
end Go.Proofs.YtlnpicfkcahdbaaGreat
namespace Go.Proofs.YtlnpicfkcahdbaaGreat
open Go Go.RowKit

/-- The least place at which p says yes. -/
def RetSe (w : World) (n : Nat) (p : Nat → Bool) (e : Ending) (w' : World) : Prop :=
  ∃ r : Nat, e = .returned (.int .i64 (r : Int)) ∧ r ≤ n ∧ (∀ t, t < r → p t = false) ∧ (∀ t, r ≤ t → t < n → p t = true) ∧ Below w.heap.size w w'
set_option maxRecDepth 100000 in
set_option maxHeartbeats 4000000 in
theorem search_any (g : Nat) (cb : Array Value) (n : Nat) (p : Nat → Bool) (w : World) (eg : ∀ args w, (callFunc g args).run Tryz.prog w = .ok (.enter g args) w) (hn : n ≤ 1099511627776)
    (hf : ∀ wx, Below w.heap.size w wx → ∀ i : Nat, i < n → Calls Tryz.prog g (#[.int .i64 (i : Int)] ++ cb) wx (RetT wx (p i)))
    (hmono : ∀ a b, a ≤ b → b < n → p a = true → p b = true) :
    Calls Tryz.prog 126 #[.int .i64 (n : Int), .func (.func g) #[] cb] w (RetSe w n p) := by
  have HF := Lib.hid hf
  have HM := Lib.hid hmono
  clear hf hmono
  go_enter Tryz.func126, Tryz.ntmps126
  go_wp2_with fail
  go_loopw [5, 6] (fun s5 s6 wr => ∃ lo hi : Nat, s5 = .int .i64 (lo : Int) ∧ s6 = .int .i64 (hi : Int) ∧ lo ≤ hi ∧ hi ≤ n ∧ (∀ t, t < lo → p t = false) ∧ (∀ t, hi ≤ t → t < n → p t = true) ∧ Below w.heap.size w wr) (fun s5 s6 _ => (intOf s6).toNat - (intOf s5).toNat)
  case atStart => exact ⟨0, n, rfl, rfl, Nat.zero_le _, Nat.le_refl _, fun t h => absurd h (Nat.not_lt_zero _), fun t h1 h2 => absurd h2 (by omega), Below.refl _ _⟩
  case round =>
    obtain ⟨lo, hi, rfl, rfl, h1, h2, h3, h4, hB⟩ := hrel
    have HB := Lib.hid hB
    have H3 := Lib.hid h3
    have H4 := Lib.hid h4
    clear hB h3 h4
    by_cases hlt : lo < hi
    · obtain ⟨m, hm⟩ : ∃ m, m = (lo + hi) / 2 := ⟨_, rfl⟩
      have e1 : ((lo : Int) + (hi : Int)) / 2 = (m : Int) := by omega
      have hmn : m < hi := by omega
      have hml : lo ≤ m := by omega
      have hc := HF.out wr HB.out m (by omega)
      cases hp : p m with
      | true =>
        rw [hp] at hc
        have HC := Lib.hid hc
        have HP := Lib.hid hp
        have HN : Hid (∀ t, m ≤ t → t < n → p t = true) := Lib.hid (fun t ht htn => HM.out m t ht htn HP.out)
        clear hc hp hm
        go_wp2_with fail
        with_reducible refine HC.out.mono ?_
        intro e w2 hq
        obtain ⟨he, b2⟩ := RetT.outD hq
        subst he
        have B2 := Lib.hid (HB.out.trans (b2.mono HB.out.size))
        clear hq b2
        go_wp2_with fail
        go_roundw
        case rel => exact ⟨lo, m, rfl, rfl, hml, by omega, H3.out, HN.out, B2.out⟩
        case measure => simp [intOf]; omega
      | false =>
        rw [hp] at hc
        have HC := Lib.hid hc
        have HP := Lib.hid hp
        have HN : Hid (∀ t, t < m + 1 → p t = false) := Lib.hid (fun t ht => by
          cases hq : p t with
          | false => rfl
          | true =>
            have := HM.out t m (by omega) (by omega) hq
            rw [HP.out] at this
            cases this)
        clear hc hp hm
        go_wp2_with fail
        with_reducible refine HC.out.mono ?_
        intro e w2 hq
        obtain ⟨he, b2⟩ := RetT.outD hq
        subst he
        have B2 := Lib.hid (HB.out.trans (b2.mono HB.out.size))
        clear hq b2
        go_wp2_with fail
        go_roundw
        case rel => exact ⟨m + 1, hi, by go_num, rfl, by omega, h2, HN.out, H4.out, B2.out⟩
        case measure => simp [intOf]; omega
    · obtain rfl : lo = hi := by omega
      go_wp2_with fail
      go_ret
      exact ⟨lo, rfl, h2, H3.out, H4.out, HB.out⟩
end Go.Proofs.YtlnpicfkcahdbaaGreat
namespace Go.Proofs.YtlnpicfkcahdbaaGreat
open Go Go.RowKit

inductive Tr where
  | nil : Tr
  | node : Tr → En → Tr → Tr
def Tr.ht : Tr → Nat
  | .nil => 0
  | .node l _ r => 1 + max l.ht r.ht
def Tr.num : Tr → Nat
  | .nil => 0
  | .node l _ r => l.num + 1 + r.num
def Tr.list : Tr → List En
  | .nil => []
  | .node l e r => l.list ++ e :: r.list
theorem Tr.ht_num : ∀ t : Tr, t.ht ≤ t.num
  | .nil => Nat.le_refl _
  | .node l e r => by
    have := Tr.ht_num l
    have := Tr.ht_num r
    simp only [Tr.ht, Tr.num]
    omega
/-- 'These four values are the entry e; its bytes are the program's own and lie in good blocks.' -/
def EG (G : Nat → Prop) (w : World) (e : En) (v0 v1 v2 v3 : Value) : Prop :=
  EO 0 w e v0 v1 v2 v3 ∧ ∀ A m c g, Value.slice A m c ∈ [v0, v1, v2, v3] → blk A = some g → G g
/-- 'The entry e lies in the box at p.' -/
def EB (G : Nat → Prop) (w : World) (e : En) (p : Nat) : Prop := ∃ v0 v1 v2 v3, Cl w p #[v0, v1, v2, v3] 31 ∧ EG G w e v0 v1 v2 v3
/-- 'The pointer A leads to the tree t.' -/
def TrAt (G : Nat → Prop) (w : World) : Tr → Option Addr → Prop
  | .nil, A => A = none
  | .node l e r, A => ∃ b pe pl pr, A = some ⟨b, 0, none⟩ ∧ Cl w b #[.pointer (some ⟨pe, 0, none⟩), .pointer pl, .pointer pr, .int .i64 ((1 + max l.ht r.ht : Nat) : Int)] 172 ∧ EB G w e pe ∧ TrAt G w l pl ∧ TrAt G w r pr
section
variable {G : Nat → Prop} {w w' : World}
theorem EG.below {e : En} {v0 v1 v2 v3 : Value} (h : EG G w e v0 v1 v2 v3) (hb : Below w.heap.size w w') : EG G w' e v0 v1 v2 v3 := ⟨h.1.below hb, h.2⟩
theorem EB.below {e : En} {p : Nat} (h : EB G w e p) (hb : Below w.heap.size w w') : EB G w' e p := by
  obtain ⟨v0, v1, v2, v3, h1, h2⟩ := h
  exact ⟨v0, v1, v2, v3, h1.below hb, h2.below hb⟩
theorem TrAt.below (hb : Below w.heap.size w w') : ∀ {t : Tr} {A : Option Addr}, TrAt G w t A → TrAt G w' t A
  | .nil, _, h => h
  | .node _ _ _, _, ⟨b, pe, pl, pr, h1, h2, h3, h4, h5⟩ => ⟨b, pe, pl, pr, h1, h2.below hb, h3.below hb, TrAt.below hb h4, TrAt.below hb h5⟩
theorem belowT {w0 w1 w2 : World} (h : Below w0.heap.size w0 w1) (hb : Below w1.heap.size w1 w2) : Below w0.heap.size w0 w2 := h.trans (hb.mono h.size)
def RetTr (G : Nat → Prop) (w : World) (t : Tr) (e : Ending) (w' : World) : Prop := ∃ A, e = .returned (.pointer A) ∧ TrAt G w' t A ∧ Below w.heap.size w w'
theorem RetTr.out {t : Tr} {e : Ending} (h : RetTr G w t e w') : ∃ A, e = .returned (.pointer A) ∧ TrAt G w' t A ∧ Below w.heap.size w w' := h
theorem height_any {t : Tr} {A : Option Addr} (h : TrAt G w t A) : Calls Tryz.prog 152 #[.pointer A] w (RetNu w (t.ht : Int)) := by
  cases t with
  | nil =>
    have hA : A = none := h
    subst hA
    go_enter Tryz.func152, Tryz.ntmps152
    go_wp2
    go_ret
    exact ⟨rfl, Below.refl _ _⟩
  | node l e r =>
    obtain ⟨b, pe, pl, pr, rfl, h2, _⟩ := h
    obtain ⟨c0, c1, c2, c3, _⟩ := h2.c4
    go_enter Tryz.func152, Tryz.ntmps152
    go_wp2
    go_ret
    exact ⟨rfl, Below.refl _ _⟩
set_option maxHeartbeats 2000000 in
theorem join_any {l r : Tr} {e : En} {pl pr : Option Addr} {pe : Nat} (hl : TrAt G w l pl) (hr : TrAt G w r pr) (he : EB G w e pe) (hn : l.num ≤ 1099511627776 ∧ r.num ≤ 1099511627776) :
    Calls Tryz.prog 105 #[.pointer pl, .pointer (some ⟨pe, 0, none⟩), .pointer pr] w (RetTr G w (.node l e r)) := by
  have h1 := l.ht_num
  have h2 := r.ht_num
  have HL := Lib.hid hl
  have HR := Lib.hid hr
  have HE := Lib.hid he
  obtain ⟨a, ha⟩ : ∃ a, a = l.ht := ⟨_, rfl⟩
  obtain ⟨b, hb⟩ : ∃ b, b = r.ht := ⟨_, rfl⟩
  have HA := Lib.hid ha
  have HB := Lib.hid hb
  have la : a ≤ 1099511627776 := by omega
  have lb : b ≤ 1099511627776 := by omega
  have mx : max (a : Int) (b : Int) = ((max a b : Nat) : Int) := by omega
  have sm : IntKind.i64.wrap (1 + ((max a b : Nat) : Int)) = ((1 + max a b : Nat) : Int) := by rw [IntWalk.i64_in _ (by omega)]; omega
  clear hl hr he ha hb h1 h2
  go_enter Tryz.func105, Tryz.ntmps105
  go_wp2_with fail
  refine (height_any HL.out).mono ?_
  rintro e w1 ⟨rfl, b1⟩
  rw [← HA.out]
  have HR1 := Lib.hid (HR.out.below b1)
  have B1 := Lib.hid b1
  clear b1
  go_wp2_with fail
  refine (height_any HR1.out).mono ?_
  rintro e w2 ⟨rfl, b2⟩
  rw [← HB.out]
  have HR2 := Lib.hid (HR1.out.below b2)
  have HL2 := Lib.hid ((HL.out.below B1.out).below b2)
  have HE2 := Lib.hid ((HE.out.below B1.out).below b2)
  have B2 := Lib.hid (belowT B1.out b2)
  clear b2
  clear mx sm
  go_wp2
  all_goals
    first
      | (have ex : ((1 + max l.ht r.ht : Nat) : Int) = 1 + (a : Int) := by rw [← HA.out, ← HB.out]; omega
         have EX := Lib.hid ex
         clear ex
         go_ret
         refine ⟨_, rfl, ⟨_, pe, pl, pr, rfl, by rw [EX.out]; exact Cl.new _ _ _, HE2.out.below ((Below.refl _ _).alloc (Nat.le_refl _) _), HL2.out.below ((Below.refl _ _).alloc (Nat.le_refl _) _), HR2.out.below ((Below.refl _ _).alloc (Nat.le_refl _) _)⟩, B2.out.alloc B2.out.size _⟩)
      | (have ex : ((1 + max l.ht r.ht : Nat) : Int) = 1 + (b : Int) := by rw [← HA.out, ← HB.out]; omega
         have EX := Lib.hid ex
         clear ex
         go_ret
         refine ⟨_, rfl, ⟨_, pe, pl, pr, rfl, by rw [EX.out]; exact Cl.new _ _ _, HE2.out.below ((Below.refl _ _).alloc (Nat.le_refl _) _), HL2.out.below ((Below.refl _ _).alloc (Nat.le_refl _) _), HR2.out.below ((Below.refl _ _).alloc (Nat.le_refl _) _)⟩, B2.out.alloc B2.out.size _⟩)
      | (have ex : ((1 + max l.ht r.ht : Nat) : Int) = 1 + max (a : Int) (b : Int) := by rw [← HA.out, ← HB.out]; omega
         have EX := Lib.hid ex
         clear ex
         go_ret
         refine ⟨_, rfl, ⟨_, pe, pl, pr, rfl, by rw [EX.out]; exact Cl.new _ _ _, HE2.out.below ((Below.refl _ _).alloc (Nat.le_refl _) _), HL2.out.below ((Below.refl _ _).alloc (Nat.le_refl _) _), HR2.out.below ((Below.refl _ _).alloc (Nat.le_refl _) _)⟩, B2.out.alloc B2.out.size _⟩)
/-- The tree of both sides, turned where one has two levels more. -/
def balT (l : Tr) (e : En) (r : Tr) : Tr :=
  if r.ht + 1 < l.ht then
    match l with
    | .nil => .node l e r
    | .node ll le lr => if lr.ht ≤ ll.ht then .node ll le (.node lr e r) else
      match lr with
      | .nil => .node l e r
      | .node a x b => .node (.node ll le a) x (.node b e r)
  else if l.ht + 1 < r.ht then
    match r with
    | .nil => .node l e r
    | .node rl re rr => if rl.ht ≤ rr.ht then .node (.node l e rl) re rr else
      match rl with
      | .nil => .node l e r
      | .node a x b => .node (.node l e a) x (.node b re rr)
  else .node l e r
theorem balT_list (l : Tr) (e : En) (r : Tr) : (balT l e r).list = l.list ++ e :: r.list := by
  unfold balT
  split
  · cases l with
    | nil => rfl
    | node ll le lr =>
      simp only
      split
      · simp [Tr.list]
      · cases lr with
        | nil => rfl
        | node a x b => simp [Tr.list]
  · split
    · cases r with
      | nil => rfl
      | node rl re rr =>
        simp only
        split
        · simp [Tr.list]
        · cases rl with
          | nil => rfl
          | node a x b => simp [Tr.list]
    · rfl
theorem Tr.num_list : ∀ t : Tr, t.num = t.list.length
  | .nil => rfl
  | .node l e r => by
    rw [Tr.num, Tr.list, List.length_append, List.length_cons, ← Tr.num_list l, ← Tr.num_list r]
    omega
theorem balT_num (l : Tr) (e : En) (r : Tr) : (balT l e r).num = l.num + 1 + r.num := by
  rw [Tr.num_list, balT_list, List.length_append, List.length_cons, ← Tr.num_list, ← Tr.num_list]
  omega
/-- A node's cells. -/
theorem TrAt.cells {l r : Tr} {e : En} {b : Nat} (h : TrAt G w (.node l e r) (some ⟨b, 0, none⟩)) : ∃ pe pl pr, w.cell? ⟨b, 0, none⟩ = some (.pointer (some ⟨pe, 0, none⟩)) ∧ w.cell? ⟨b, 1, none⟩ = some (.pointer pl) ∧ w.cell? ⟨b, 2, none⟩ = some (.pointer pr) ∧ b < w.heap.size ∧ EB G w e pe ∧ TrAt G w l pl ∧ TrAt G w r pr := by
  obtain ⟨b', pe, pl, pr, e1, h2, h3, h4, h5⟩ := h
  injection e1 with e1
  injection e1 with e1
  subst e1
  exact ⟨pe, pl, pr, h2.cell 0, h2.cell 1, h2.cell 2, h2.lt, h3, h4, h5⟩
theorem TrAt.ptr {l r : Tr} {e : En} {A : Option Addr} (h : TrAt G w (.node l e r) A) : ∃ b, A = some ⟨b, 0, none⟩ := by
  obtain ⟨b', _, _, _, e1, _⟩ := h
  exact ⟨b', e1⟩
set_option maxRecDepth 100000 in
set_option maxHeartbeats 8000000 in
theorem balance_any {l r : Tr} {e : En} {pl pr : Option Addr} {pe : Nat} (hl : TrAt G w l pl) (hr : TrAt G w r pr) (he : EB G w e pe) (hn : l.num + r.num ≤ 1099511627776) :
    Calls Tryz.prog 107 #[.pointer pl, .pointer (some ⟨pe, 0, none⟩), .pointer pr] w (RetTr G w (balT l e r)) := by
  have h1 := l.ht_num
  have h2 := r.ht_num
  have HL := Lib.hid hl
  have HR := Lib.hid hr
  have HE := Lib.hid he
  obtain ⟨a, ha⟩ : ∃ a, a = l.ht := ⟨_, rfl⟩
  obtain ⟨b, hb⟩ : ∃ b, b = r.ht := ⟨_, rfl⟩
  have HA := Lib.hid ha
  have HB := Lib.hid hb
  have la : a ≤ 1099511627776 := by omega
  have lb : b ≤ 1099511627776 := by omega
  have HHL : Hid (∀ wx, Below w.heap.size w wx → Calls Tryz.prog 152 #[.pointer pl] wx (RetNu wx (a : Int))) := Lib.hid (fun wx hb => by rw [HA.out]; exact height_any (HL.out.below hb))
  have HHR : Hid (∀ wx, Below w.heap.size w wx → Calls Tryz.prog 152 #[.pointer pr] wx (RetNu wx (b : Int))) := Lib.hid (fun wx hb => by rw [HB.out]; exact height_any (HR.out.below hb))
  clear hl hr he ha hb h1 h2
  go_enter Tryz.func107, Tryz.ntmps107
  go_wp2_with fail
  refine (HHL.out _ (Below.refl _ _)).mono ?_
  rintro e1 w1 ⟨rfl, b1⟩
  have B1 := Lib.hid b1
  clear b1
  go_wp2_with fail
  refine (HHR.out _ B1.out).mono ?_
  rintro e1 w2 ⟨rfl, b2⟩
  have B2 := Lib.hid (belowT B1.out b2)
  clear b2
  by_cases c1 : b + 1 < a
  · obtain ⟨wC, hwC⟩ : ∃ wC, wC = w2 := ⟨_, rfl⟩
    rw [← hwC] at B2 ⊢
    have BC := Lib.hid B2.out
    clear hwC
    cases l with
    | nil => exfalso; have := HA.out; simp [Tr.ht] at this; omega
    | node ll le lr =>
      obtain ⟨bl, rfl⟩ := HL.out.ptr
      obtain ⟨qe, ql, qr, k0, k1, k2, klt, xe, xl, xr⟩ := (HL.out.below BC.out).cells
      have XE := Lib.hid xe
      have XL := Lib.hid xl
      have XR := Lib.hid xr
      have hln := ll.ht_num
      have hrn := lr.ht_num
      have hnn : ll.num + 1 + lr.num + r.num ≤ 1099511627776 := hn
      obtain ⟨x, hx⟩ : ∃ x, x = ll.ht := ⟨_, rfl⟩
      obtain ⟨y, hy⟩ : ∃ y, y = lr.ht := ⟨_, rfl⟩
      have HX := Lib.hid hx
      have HY := Lib.hid hy
      have lx : x ≤ 1099511627776 := by omega
      have ly : y ≤ 1099511627776 := by omega
      have HRR := Lib.hid (HR.out.below BC.out)
      have HEE := Lib.hid (HE.out.below BC.out)
      have c0 := show Tr.ht r + 1 < Tr.ht (Tr.node ll le lr) by rw [← HA.out, ← HB.out]; exact c1
      have C0 := Lib.hid c0
      clear hx hy xe xl xr hln hrn c0
      have HO : Hid (∀ wx, Below wC.heap.size wC wx → Calls Tryz.prog 152 #[.pointer ql] wx (RetNu wx (x : Int))) := Lib.hid (fun wx hb => by rw [HX.out]; exact height_any (XL.out.below hb))
      have HI : Hid (∀ wx, Below wC.heap.size wC wx → Calls Tryz.prog 152 #[.pointer qr] wx (RetNu wx (y : Int))) := Lib.hid (fun wx hb => by rw [HY.out]; exact height_any (XR.out.below hb))
      go_wp2_with fail
      refine (HO.out _ (Below.refl _ _)).mono ?_
      rintro e1 w3 ⟨rfl, b3⟩
      have B3 := Lib.hid b3
      clear b3
      go_wp2_with fail
      refine (HI.out _ B3.out).mono ?_
      rintro e1 w4 ⟨rfl, b4⟩
      have b4' := belowT B3.out b4
      have B4 := Lib.hid b4'
      have k0' := (b4'.cell (p := ⟨bl, 0, none⟩) klt).trans k0
      have k1' := (b4'.cell (p := ⟨bl, 1, none⟩) klt).trans k1
      have k2' := (b4'.cell (p := ⟨bl, 2, none⟩) klt).trans k2
      have klt4 : bl < w4.heap.size := Nat.lt_of_lt_of_le klt b4'.size
      have XE := Lib.hid (XE.out.below b4')
      have XL := Lib.hid (XL.out.below b4')
      have XR := Lib.hid (XR.out.below b4')
      have HRR := Lib.hid (HRR.out.below b4')
      have HEE := Lib.hid (HEE.out.below b4')
      have BB4 := Lib.hid (belowT BC.out b4')
      clear b4 b4' k0 k1 k2
      by_cases c3 : y ≤ x
      · have c2' : lr.ht ≤ ll.ht := by rw [← HX.out, ← HY.out]; exact c3
        have HBAL : Hid (balT (Tr.node ll le lr) e r = (.node ll le (.node lr e r))) := Lib.hid (by
          have c0 := C0.out
          
          unfold balT; rw [if_pos c0]; simp only; rw [if_pos c2'])
        have HJ1 : Hid (∀ wx, Below w4.heap.size w4 wx → Calls Tryz.prog 105 #[.pointer qr, .pointer (some ⟨pe, 0, none⟩), .pointer pr] wx (RetTr G wx (.node lr e r))) := Lib.hid (fun wx hb => join_any (XR.out.below hb) (HRR.out.below hb) (HEE.out.below hb) ⟨by omega, by omega⟩)
        have HJ2 : Hid (∀ wx X, Below w4.heap.size w4 wx → TrAt G wx (.node lr e r) X → Calls Tryz.prog 105 #[.pointer ql, .pointer (some ⟨qe, 0, none⟩), .pointer X] wx (RetTr G wx (.node ll le (.node lr e r)))) := Lib.hid (fun wx X hb ht => join_any (XL.out.below hb) ht (XE.out.below hb) ⟨by omega, by simp only [Tr.num]; omega⟩)
        have HSX : Hid (∀ wx, Below w4.heap.size w4 wx → wx.cell? ⟨bl, 0, none⟩ = some (.pointer (some ⟨qe, 0, none⟩)) ∧ wx.cell? ⟨bl, 1, none⟩ = some (.pointer ql) ∧ wx.cell? ⟨bl, 2, none⟩ = some (.pointer qr)) := Lib.hid (fun wx h => ⟨(h.cell (p := ⟨bl, 0, none⟩) klt4).trans k0', (h.cell (p := ⟨bl, 1, none⟩) klt4).trans k1', (h.cell (p := ⟨bl, 2, none⟩) klt4).trans k2'⟩)
        have hB0 : Below w4.heap.size w4 w4.drew := (Below.refl _ _).drew
        clear c2'
        go_upto_region 4 with (fail)
        go_region_held3 (fun wx => wx.cell? ⟨bl, 0, none⟩ = some (.pointer (some ⟨qe, 0, none⟩)) ∧ wx.cell? ⟨bl, 1, none⟩ = some (.pointer ql) ∧ wx.cell? ⟨bl, 2, none⟩ = some (.pointer qr)) (first | assumption | exact HSX.out _ hB0)
          (first | (go_at_call 105; with_reducible refine (HJ1.out _ (by assumption)).mono ?_; intro e1 w8 hq; obtain ⟨A8, h18, t8, b8⟩ := RetTr.out hq; subst h18; have b8' := belowT (by assumption : Below w4.heap.size w4 _) b8; have hS8 := HSX.out _ b8') | (go_at_call 105; with_reducible refine (HJ2.out _ _ b8' t8).mono ?_; intro e1 w9 hq; obtain ⟨A9, h19, t9, b9⟩ := RetTr.out hq; subst h19; have b9' := belowT b8' b9; have hS9 := HSX.out _ b9'))
        all_goals
          have HFIN := Lib.hid t9
          have HBF := Lib.hid (belowT BB4.out b9')
          clear t8 b8 b8' hS8 t9 b9 b9' hS9
          go_wp2_with fail
          go_ret
          exact ⟨A9, rfl, by rw [HBAL.out]; exact HFIN.out, HBF.out⟩
      · cases lr with
        | nil => exfalso; have := HY.out; simp [Tr.ht] at this; omega
        | node ta ix tb =>
          obtain ⟨bi, rfl⟩ := XR.out.ptr
          obtain ⟨ie, ia, ib, i0, i1, i2, ilt, ye, yl, yr⟩ := (XR.out).cells
          have IE := Lib.hid ye
          have IA := Lib.hid yl
          have IB := Lib.hid yr
          clear ye yl yr
          simp only [Tr.num] at hnn
          have c2' : ¬ (Tr.node ta ix tb).ht ≤ ll.ht := by rw [← HX.out, ← HY.out]; exact c3
          have HBAL : Hid (balT (Tr.node ll le (Tr.node ta ix tb)) e r = (.node (.node ll le ta) ix (.node tb e r))) := Lib.hid (by
            have c0 := C0.out
            
            unfold balT; rw [if_pos c0]; simp only; rw [if_neg c2'])
          have HJ1 : Hid (∀ wx, Below w4.heap.size w4 wx → Calls Tryz.prog 105 #[.pointer ql, .pointer (some ⟨qe, 0, none⟩), .pointer ia] wx (RetTr G wx (.node ll le ta))) := Lib.hid (fun wx hb => join_any (XL.out.below hb) (IA.out.below hb) (XE.out.below hb) ⟨by omega, by omega⟩)
          have HJ2 : Hid (∀ wx, Below w4.heap.size w4 wx → Calls Tryz.prog 105 #[.pointer ib, .pointer (some ⟨pe, 0, none⟩), .pointer pr] wx (RetTr G wx (.node tb e r))) := Lib.hid (fun wx hb => join_any (IB.out.below hb) (HRR.out.below hb) (HEE.out.below hb) ⟨by omega, by omega⟩)
          have HJ3 : Hid (∀ wx X Z, Below w4.heap.size w4 wx → TrAt G wx (.node ll le ta) X → TrAt G wx (.node tb e r) Z → Calls Tryz.prog 105 #[.pointer X, .pointer (some ⟨ie, 0, none⟩), .pointer Z] wx (RetTr G wx (.node (.node ll le ta) ix (.node tb e r)))) := Lib.hid (fun wx X Z hb h1 h2 => join_any h1 h2 (IE.out.below hb) ⟨by simp only [Tr.num]; omega, by simp only [Tr.num]; omega⟩)
          have HSX : Hid (∀ wx, Below w4.heap.size w4 wx → wx.cell? ⟨bl, 0, none⟩ = some (.pointer (some ⟨qe, 0, none⟩)) ∧ wx.cell? ⟨bl, 1, none⟩ = some (.pointer ql) ∧ wx.cell? ⟨bl, 2, none⟩ = some (.pointer (some ⟨bi, 0, none⟩)) ∧ wx.cell? ⟨bi, 0, none⟩ = some (.pointer (some ⟨ie, 0, none⟩)) ∧ wx.cell? ⟨bi, 1, none⟩ = some (.pointer ia) ∧ wx.cell? ⟨bi, 2, none⟩ = some (.pointer ib)) := Lib.hid (fun wx h => ⟨(h.cell (p := ⟨bl, 0, none⟩) klt4).trans k0', (h.cell (p := ⟨bl, 1, none⟩) klt4).trans k1', (h.cell (p := ⟨bl, 2, none⟩) klt4).trans k2', (h.cell (p := ⟨bi, 0, none⟩) ilt).trans i0, (h.cell (p := ⟨bi, 1, none⟩) ilt).trans i1, (h.cell (p := ⟨bi, 2, none⟩) ilt).trans i2⟩)
          have hB0 : Below w4.heap.size w4 w4.drew := (Below.refl _ _).drew
          clear c2'
          go_upto_region 5 with (fail)
          go_region_held3 (fun wx => wx.cell? ⟨bl, 0, none⟩ = some (.pointer (some ⟨qe, 0, none⟩)) ∧ wx.cell? ⟨bl, 1, none⟩ = some (.pointer ql) ∧ wx.cell? ⟨bl, 2, none⟩ = some (.pointer (some ⟨bi, 0, none⟩)) ∧ wx.cell? ⟨bi, 0, none⟩ = some (.pointer (some ⟨ie, 0, none⟩)) ∧ wx.cell? ⟨bi, 1, none⟩ = some (.pointer ia) ∧ wx.cell? ⟨bi, 2, none⟩ = some (.pointer ib)) (first | assumption | exact HSX.out _ hB0)
            (first | (go_at_call 105; with_reducible refine (HJ3.out _ _ _ b9' (TrAt.below b9 t8) t9).mono ?_; intro e1 w10 hq; obtain ⟨A10, h110, t10, b10⟩ := RetTr.out hq; subst h110; have b10' := belowT b9' b10; have hS10 := HSX.out _ b10') | (go_at_call 105; with_reducible refine (HJ3.out _ _ _ b8' t8 (TrAt.below b8 t9)).mono ?_; intro e1 w10 hq; obtain ⟨A10, h110, t10, b10⟩ := RetTr.out hq; subst h110; have b10' := belowT b8' b10; have hS10 := HSX.out _ b10') | (go_at_call 105; with_reducible refine (HJ1.out _ (by assumption)).mono ?_; intro e1 w8 hq; obtain ⟨A8, h18, t8, b8⟩ := RetTr.out hq; subst h18; have b8' := belowT (by assumption : Below w4.heap.size w4 _) b8; have hS8 := HSX.out _ b8') | (go_at_call 105; with_reducible refine (HJ2.out _ (by assumption)).mono ?_; intro e1 w9 hq; obtain ⟨A9, h19, t9, b9⟩ := RetTr.out hq; subst h19; have b9' := belowT (by assumption : Below w4.heap.size w4 _) b9; have hS9 := HSX.out _ b9'))
          all_goals
            have HFIN := Lib.hid t10
            have HBF := Lib.hid (belowT BB4.out b10')
            clear t8 b8 b8' hS8 t9 b9 b9' hS9 t10 b10 b10' hS10
            go_wp2_with fail
            go_ret
            exact ⟨A10, rfl, by rw [HBAL.out]; exact HFIN.out, HBF.out⟩
  · have nc1 : decide ((b : Int) + 1 < (a : Int)) = false := by simp; omega
    go_wp2_with fail
    refine (HHR.out _ B2.out).mono ?_
    rintro e1 w5 ⟨rfl, b5⟩
    have B5 := Lib.hid (belowT B2.out b5)
    clear b5
    go_wp2_with fail
    refine (HHL.out _ B5.out).mono ?_
    rintro e1 w6 ⟨rfl, b6⟩
    have B6 := Lib.hid (belowT B5.out b6)
    clear b6
    by_cases c2 : a + 1 < b
    · obtain ⟨wC, hwC⟩ : ∃ wC, wC = w6 := ⟨_, rfl⟩
      rw [← hwC] at B6 ⊢
      have BC := Lib.hid B6.out
      clear hwC
      cases r with
      | nil => exfalso; have := HB.out; simp [Tr.ht] at this; omega
      | node rl re rr =>
        obtain ⟨bl, rfl⟩ := HR.out.ptr
        obtain ⟨qe, ql, qr, k0, k1, k2, klt, xe, xl, xr⟩ := (HR.out.below BC.out).cells
        have XE := Lib.hid xe
        have XL := Lib.hid xl
        have XR := Lib.hid xr
        have hln := rl.ht_num
        have hrn := rr.ht_num
        have hnn : l.num + (rl.num + 1 + rr.num) ≤ 1099511627776 := hn
        obtain ⟨x, hx⟩ : ∃ x, x = rr.ht := ⟨_, rfl⟩
        obtain ⟨y, hy⟩ : ∃ y, y = rl.ht := ⟨_, rfl⟩
        have HX := Lib.hid hx
        have HY := Lib.hid hy
        have lx : x ≤ 1099511627776 := by omega
        have ly : y ≤ 1099511627776 := by omega
        have HLL := Lib.hid (HL.out.below BC.out)
        have HEE := Lib.hid (HE.out.below BC.out)
        have c0 := show Tr.ht l + 1 < Tr.ht (Tr.node rl re rr) by rw [← HA.out, ← HB.out]; exact c2
        have C0 := Lib.hid c0
        clear hx hy xe xl xr hln hrn c0
        have HO : Hid (∀ wx, Below wC.heap.size wC wx → Calls Tryz.prog 152 #[.pointer qr] wx (RetNu wx (x : Int))) := Lib.hid (fun wx hb => by rw [HX.out]; exact height_any (XR.out.below hb))
        have HI : Hid (∀ wx, Below wC.heap.size wC wx → Calls Tryz.prog 152 #[.pointer ql] wx (RetNu wx (y : Int))) := Lib.hid (fun wx hb => by rw [HY.out]; exact height_any (XL.out.below hb))
        go_wp2_with fail
        refine (HO.out _ (Below.refl _ _)).mono ?_
        rintro e1 w3 ⟨rfl, b3⟩
        have B3 := Lib.hid b3
        clear b3
        go_wp2_with fail
        refine (HI.out _ B3.out).mono ?_
        rintro e1 w4 ⟨rfl, b4⟩
        have b4' := belowT B3.out b4
        have B4 := Lib.hid b4'
        have k0' := (b4'.cell (p := ⟨bl, 0, none⟩) klt).trans k0
        have k1' := (b4'.cell (p := ⟨bl, 1, none⟩) klt).trans k1
        have k2' := (b4'.cell (p := ⟨bl, 2, none⟩) klt).trans k2
        have klt4 : bl < w4.heap.size := Nat.lt_of_lt_of_le klt b4'.size
        have XE := Lib.hid (XE.out.below b4')
        have XL := Lib.hid (XL.out.below b4')
        have XR := Lib.hid (XR.out.below b4')
        have HLL := Lib.hid (HLL.out.below b4')
        have HEE := Lib.hid (HEE.out.below b4')
        have BB4 := Lib.hid (belowT BC.out b4')
        clear b4 b4' k0 k1 k2
        by_cases c3 : y ≤ x
        · have c2' : rl.ht ≤ rr.ht := by rw [← HX.out, ← HY.out]; exact c3
          have HBAL : Hid (balT l e (Tr.node rl re rr) = (.node (.node l e rl) re rr)) := Lib.hid (by
            have c0 := C0.out
            have c00 : ¬ (Tr.node rl re rr).ht + 1 < l.ht := by omega
            unfold balT; rw [if_neg c00, if_pos c0]; simp only; rw [if_pos c2'])
          have HJ1 : Hid (∀ wx, Below w4.heap.size w4 wx → Calls Tryz.prog 105 #[.pointer pl, .pointer (some ⟨pe, 0, none⟩), .pointer ql] wx (RetTr G wx (.node l e rl))) := Lib.hid (fun wx hb => join_any (HLL.out.below hb) (XL.out.below hb) (HEE.out.below hb) ⟨by omega, by omega⟩)
          have HJ2 : Hid (∀ wx X, Below w4.heap.size w4 wx → TrAt G wx (.node l e rl) X → Calls Tryz.prog 105 #[.pointer X, .pointer (some ⟨qe, 0, none⟩), .pointer qr] wx (RetTr G wx (.node (.node l e rl) re rr))) := Lib.hid (fun wx X hb ht => join_any ht (XR.out.below hb) (XE.out.below hb) ⟨by simp only [Tr.num]; omega, by omega⟩)
          have HSX : Hid (∀ wx, Below w4.heap.size w4 wx → wx.cell? ⟨bl, 0, none⟩ = some (.pointer (some ⟨qe, 0, none⟩)) ∧ wx.cell? ⟨bl, 1, none⟩ = some (.pointer ql) ∧ wx.cell? ⟨bl, 2, none⟩ = some (.pointer qr)) := Lib.hid (fun wx h => ⟨(h.cell (p := ⟨bl, 0, none⟩) klt4).trans k0', (h.cell (p := ⟨bl, 1, none⟩) klt4).trans k1', (h.cell (p := ⟨bl, 2, none⟩) klt4).trans k2'⟩)
          have hB0 : Below w4.heap.size w4 w4.drew := (Below.refl _ _).drew
          clear c2'
          go_upto_region 9 with (fail)
          go_region_held3 (fun wx => wx.cell? ⟨bl, 0, none⟩ = some (.pointer (some ⟨qe, 0, none⟩)) ∧ wx.cell? ⟨bl, 1, none⟩ = some (.pointer ql) ∧ wx.cell? ⟨bl, 2, none⟩ = some (.pointer qr)) (first | assumption | exact HSX.out _ hB0)
            (first | (go_at_call 105; with_reducible refine (HJ1.out _ (by assumption)).mono ?_; intro e1 w8 hq; obtain ⟨A8, h18, t8, b8⟩ := RetTr.out hq; subst h18; have b8' := belowT (by assumption : Below w4.heap.size w4 _) b8; have hS8 := HSX.out _ b8') | (go_at_call 105; with_reducible refine (HJ2.out _ _ b8' t8).mono ?_; intro e1 w9 hq; obtain ⟨A9, h19, t9, b9⟩ := RetTr.out hq; subst h19; have b9' := belowT b8' b9; have hS9 := HSX.out _ b9'))
          all_goals
            have HFIN := Lib.hid t9
            have HBF := Lib.hid (belowT BB4.out b9')
            clear t8 b8 b8' hS8 t9 b9 b9' hS9
            go_wp2_with fail
            go_ret
            exact ⟨A9, rfl, by rw [HBAL.out]; exact HFIN.out, HBF.out⟩
        · cases rl with
          | nil => exfalso; have := HY.out; simp [Tr.ht] at this; omega
          | node ta ix tb =>
            obtain ⟨bi, rfl⟩ := XL.out.ptr
            obtain ⟨ie, ia, ib, i0, i1, i2, ilt, ye, yl, yr⟩ := (XL.out).cells
            have IE := Lib.hid ye
            have IA := Lib.hid yl
            have IB := Lib.hid yr
            clear ye yl yr
            simp only [Tr.num] at hnn
            have c2' : ¬ (Tr.node ta ix tb).ht ≤ rr.ht := by rw [← HX.out, ← HY.out]; exact c3
            have HBAL : Hid (balT l e (Tr.node (Tr.node ta ix tb) re rr) = (.node (.node l e ta) ix (.node tb re rr))) := Lib.hid (by
              have c0 := C0.out
              have c00 : ¬ (Tr.node (Tr.node ta ix tb) re rr).ht + 1 < l.ht := by omega
              unfold balT; rw [if_neg c00, if_pos c0]; simp only; rw [if_neg c2'])
            have HJ1 : Hid (∀ wx, Below w4.heap.size w4 wx → Calls Tryz.prog 105 #[.pointer pl, .pointer (some ⟨pe, 0, none⟩), .pointer ia] wx (RetTr G wx (.node l e ta))) := Lib.hid (fun wx hb => join_any (HLL.out.below hb) (IA.out.below hb) (HEE.out.below hb) ⟨by omega, by omega⟩)
            have HJ2 : Hid (∀ wx, Below w4.heap.size w4 wx → Calls Tryz.prog 105 #[.pointer ib, .pointer (some ⟨qe, 0, none⟩), .pointer qr] wx (RetTr G wx (.node tb re rr))) := Lib.hid (fun wx hb => join_any (IB.out.below hb) (XR.out.below hb) (XE.out.below hb) ⟨by omega, by omega⟩)
            have HJ3 : Hid (∀ wx X Z, Below w4.heap.size w4 wx → TrAt G wx (.node l e ta) X → TrAt G wx (.node tb re rr) Z → Calls Tryz.prog 105 #[.pointer X, .pointer (some ⟨ie, 0, none⟩), .pointer Z] wx (RetTr G wx (.node (.node l e ta) ix (.node tb re rr)))) := Lib.hid (fun wx X Z hb h1 h2 => join_any h1 h2 (IE.out.below hb) ⟨by simp only [Tr.num]; omega, by simp only [Tr.num]; omega⟩)
            have HSX : Hid (∀ wx, Below w4.heap.size w4 wx → wx.cell? ⟨bl, 0, none⟩ = some (.pointer (some ⟨qe, 0, none⟩)) ∧ wx.cell? ⟨bl, 1, none⟩ = some (.pointer (some ⟨bi, 0, none⟩)) ∧ wx.cell? ⟨bl, 2, none⟩ = some (.pointer qr) ∧ wx.cell? ⟨bi, 0, none⟩ = some (.pointer (some ⟨ie, 0, none⟩)) ∧ wx.cell? ⟨bi, 1, none⟩ = some (.pointer ia) ∧ wx.cell? ⟨bi, 2, none⟩ = some (.pointer ib)) := Lib.hid (fun wx h => ⟨(h.cell (p := ⟨bl, 0, none⟩) klt4).trans k0', (h.cell (p := ⟨bl, 1, none⟩) klt4).trans k1', (h.cell (p := ⟨bl, 2, none⟩) klt4).trans k2', (h.cell (p := ⟨bi, 0, none⟩) ilt).trans i0, (h.cell (p := ⟨bi, 1, none⟩) ilt).trans i1, (h.cell (p := ⟨bi, 2, none⟩) ilt).trans i2⟩)
            have hB0 : Below w4.heap.size w4 w4.drew := (Below.refl _ _).drew
            clear c2'
            go_upto_region 10 with (fail)
            go_region_held3 (fun wx => wx.cell? ⟨bl, 0, none⟩ = some (.pointer (some ⟨qe, 0, none⟩)) ∧ wx.cell? ⟨bl, 1, none⟩ = some (.pointer (some ⟨bi, 0, none⟩)) ∧ wx.cell? ⟨bl, 2, none⟩ = some (.pointer qr) ∧ wx.cell? ⟨bi, 0, none⟩ = some (.pointer (some ⟨ie, 0, none⟩)) ∧ wx.cell? ⟨bi, 1, none⟩ = some (.pointer ia) ∧ wx.cell? ⟨bi, 2, none⟩ = some (.pointer ib)) (first | assumption | exact HSX.out _ hB0)
              (first | (go_at_call 105; with_reducible refine (HJ3.out _ _ _ b9' (TrAt.below b9 t8) t9).mono ?_; intro e1 w10 hq; obtain ⟨A10, h110, t10, b10⟩ := RetTr.out hq; subst h110; have b10' := belowT b9' b10; have hS10 := HSX.out _ b10') | (go_at_call 105; with_reducible refine (HJ3.out _ _ _ b8' t8 (TrAt.below b8 t9)).mono ?_; intro e1 w10 hq; obtain ⟨A10, h110, t10, b10⟩ := RetTr.out hq; subst h110; have b10' := belowT b8' b10; have hS10 := HSX.out _ b10') | (go_at_call 105; with_reducible refine (HJ1.out _ (by assumption)).mono ?_; intro e1 w8 hq; obtain ⟨A8, h18, t8, b8⟩ := RetTr.out hq; subst h18; have b8' := belowT (by assumption : Below w4.heap.size w4 _) b8; have hS8 := HSX.out _ b8') | (go_at_call 105; with_reducible refine (HJ2.out _ (by assumption)).mono ?_; intro e1 w9 hq; obtain ⟨A9, h19, t9, b9⟩ := RetTr.out hq; subst h19; have b9' := belowT (by assumption : Below w4.heap.size w4 _) b9; have hS9 := HSX.out _ b9'))
            all_goals
              have HFIN := Lib.hid t10
              have HBF := Lib.hid (belowT BB4.out b10')
              clear t8 b8 b8' hS8 t9 b9 b9' hS9 t10 b10 b10' hS10
              go_wp2_with fail
              go_ret
              exact ⟨A10, rfl, by rw [HBAL.out]; exact HFIN.out, HBF.out⟩
    · have HBAL : Hid (balT l e r = .node l e r) := Lib.hid (by unfold balT; rw [if_neg (by rw [← HA.out, ← HB.out]; exact c1), if_neg (by rw [← HA.out, ← HB.out]; exact c2)])
      have HJ : Hid (Calls Tryz.prog 105 #[.pointer pl, .pointer (some ⟨pe, 0, none⟩), .pointer pr] w6 (RetTr G w6 (.node l e r))) := Lib.hid (join_any (HL.out.below B6.out) (HR.out.below B6.out) (HE.out.below B6.out) ⟨by omega, by omega⟩)
      go_wp2_with fail
      refine HJ.out.mono ?_
      rintro e1 w7 ⟨A7, rfl, t7, b7⟩
      have HFIN := Lib.hid t7
      have HBF := Lib.hid (belowT B6.out b7)
      clear t7 b7
      go_wp2
      go_ret
      exact ⟨A7, rfl, by rw [HBAL.out]; exact HFIN.out, HBF.out⟩
end
end Go.Proofs.YtlnpicfkcahdbaaGreat
