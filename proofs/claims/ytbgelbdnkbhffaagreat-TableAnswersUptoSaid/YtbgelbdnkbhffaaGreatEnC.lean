/- Entries that the call has made: a row of them, appended onto one by one; Twins. No condition but sizes. -/
import Derived.Test.YtbgelbdnkbhffaaGreatCrcT
import Derived.Test.YtbgelbdnkbhffaaGreatLists
import Derived.Test.YtbgelbdnkbhffaaGreatCrcO
import Derived.Test.YtbgelbdnkbhffaaGreatParts
import Derived.Test.YtbgelbdnkbhffaaGreatAwake
import Derived.Test.YtbgelbdnkbhffaaGreatFamC
import Derived.Lib.SmallJoins
import Derived.Test.YtbgelbdnkbhffaaGreatCrcQ
import Derived.Test.YtbgelbdnkbhffaaGreatApart
import Derived.Test.YtbgelbdnkbhffaaGreatKept
import Derived.BigFrame
import Derived.Test.YtbgelbdnkbhffaaGreatCrcR
import Derived.Test.YtbgelbdnkbhffaaGreatEnA
import Derived.Test.YtbgelbdnkbhffaaGreatBlF
import Derived.Maps.OwnOps
import Derived.Maps.OwnSet
import Derived.Maps.RangeWalk
import Derived.Test.YtbgelbdnkbhffaaGreatEnB
import Derived.Test.YtbgelbdnkbhffaaGreatFam
import Derived.Test.YtbgelbdnkbhffaaGreatPool
namespace Go.Proofs.YtbgelbdnkbhffaaGreat
open Go Go.RowKit

/-- 'It hands back the number (32 bits); what was in memory stands.' -/
def RetUB (w : World) (n : Nat) (e : Ending) (w' : World) : Prop := e = .returned (.int .u32 (n : Int)) ∧ Below w.heap.size w w'

theorem xor_mod256 (x : Nat) (b : UInt8) : (x ^^^ b.toNat) % 256 = x % 256 ^^^ b.toNat := by
  have hb := b.toNat_lt
  apply Nat.eq_of_testBit_eq
  intro i
  rw [show (256 : Nat) = 2 ^ 8 from rfl, Nat.testBit_mod_two_pow, Nat.testBit_xor, Nat.testBit_xor, Nat.testBit_mod_two_pow]
  by_cases h : i < 8
  · simp [h]
  · have h2 : b.toNat.testBit i = false := Nat.testBit_lt_two_pow (Nat.lt_of_lt_of_le (show b.toNat < 2 ^ 8 by simpa using hb) (Nat.pow_le_pow_right (by decide) (by omega)))
    simp [h, h2]
theorem xor_div256 (x : Nat) (b : UInt8) : (x ^^^ b.toNat) / 256 = x / 256 := by
  have hb := b.toNat_lt
  apply Nat.eq_of_testBit_eq
  intro i
  rw [show (256 : Nat) = 2 ^ 8 from rfl, Nat.testBit_div_two_pow, Nat.testBit_div_two_pow, Nat.testBit_xor]
  have h2 : b.toNat.testBit (8 + i) = false := Nat.testBit_lt_two_pow (Nat.lt_of_lt_of_le (show b.toNat < 2 ^ 8 by simpa using hb) (Nat.pow_le_pow_right (by decide) (by omega)))
  simp [Nat.add_comm i 8, h2]
theorem stps8_byte (x : Nat) (b : UInt8) : stps 8 (x ^^^ b.toNat) = x / 256 ^^^ stps 8 (x % 256 ^^^ b.toNat) := by
  rw [stps8, xor_mod256, xor_div256, Nat.xor_comm]

theorem u32_not {x : Nat} (h : x < 4294967296) : bits .xor .u32 IntKind.u32.max (x : Int) = ((4294967295 - x : Nat) : Int) := by
  have h1 := u32_xor_nat 4294967295 x (by decide) h
  have h2 : 4294967295 ^^^ x = 4294967295 - x := by
    apply Nat.eq_of_testBit_eq
    intro i
    rw [show 4294967295 - x = 2 ^ 32 - (x + 1) by omega, Nat.testBit_two_pow_sub_succ (by omega), Nat.testBit_xor, show 4294967295 = 2 ^ 32 - 1 from rfl, Nat.testBit_two_pow_sub_one]
    by_cases hi : i < 32
    · simp [hi]
    · rw [Nat.testBit_lt_two_pow (Nat.lt_of_lt_of_le (show x < 2 ^ 32 by omega) (Nat.pow_le_pow_right (by decide) (by omega)))]
      simp [hi]
  rw [h2] at h1
  exact h1

/-- 'The table lies in block g, from base on; what was below base stands.' -/
def Tg (w : World) (base g : Nat) (wr : World) : Prop := wr.heap[g]? = some (.cells (tabA 256) 263 (0, 0)) ∧ Below base w wr
theorem Tg.drewN {w wr : World} {base g : Nat} (h : Tg w base g wr) (q : Nat) : Tg w base g (wr.drewN q) := ⟨h.1, below_drewN h.2 q⟩
theorem Tg.cell {w wr : World} {base g : Nat} (h : Tg w base g wr) (i : Nat) (hi : i < 256) : wr.cell? ⟨g, i, none⟩ = some (.int .u32 (stps 8 i : Int)) := by
  rw [cell_of_row wr _ i _ _ _ h.1, tabA_at 256 i hi, tabF, if_pos hi]

set_option maxRecDepth 100000 in
set_option maxHeartbeats 2000000 in
theorem Sum_any (A : Option Addr) (n c : Nat) (xss : List (List UInt8)) (w : World) (hx : RdL w A n xss) (ht : tot xss ≤ 1099511627776) :
    Calls Tryz.prog 180 #[.slice A n c] w (RetUB w (crcB xss.flatten)) := by
  have hn : n ≤ 1099511627776 := by have := tot_len xss; have := hx.len; omega
  have HXL := Lib.hid hx.len
  go_enter Tryz.func180, Tryz.ntmps180
  go_wp2_with fail
  refine (Table_any _).mono ?_
  rintro e w1 ⟨rfl, hb1⟩
  have hg1 := hb1.size
  obtain ⟨g, hg⟩ : ∃ g, g = w1.heap.size := ⟨_, rfl⟩
  have h0 : (w1.alloc (.cells (tabA 0) 263)).heap[w1.heap.size]? = some (.cells (tabA 0) 263 (0, 0)) := heap_alloc_new _ _
  have H0 := Lib.hid h0
  have HG := Lib.hid hg
  clear h0 hg
  go_wp2_with (first | (refine Great.wpList_allocTo rfl _ rfl _ _ (run_alloc_tab _ _ _ rfl) ?_) | (refine wpList_store_row rfl _ _ _ rfl w1.heap.size (tabA 256) rfl rfl 263 (tabA 0) H0.out info_tab (by rw [tabA_size, tabA_size]) tabA_cells ?_))
  have hT : Tg w w.heap.size g (((w1.alloc (.cells (tabA 0) 263)).setRow w1.heap.size (tabA 256))) := by
    rw [HG.out]
    exact ⟨setRow_heap _ _ _ _ _ _ H0.out, below_setRow (hb1.alloc hg1 _) hg1 _⟩
  have HT := Lib.hid hT
  rw [← HG.out] at HT ⊢
  obtain ⟨W, hW⟩ : ∃ W, W = (w1.alloc (.cells (tabA 0) 263)).setRow g (tabA 256) := ⟨_, rfl⟩
  rw [← hW] at HT ⊢
  clear hT hW H0
  go_loopw [4, 12] (fun vx vk wr => ∃ x k : Nat, vx = .int .u32 x ∧ vk = .int .i64 k ∧ k ≤ n ∧ x < 4294967296 ∧ x = regB 4294967295 (xss.take k).flatten ∧ Tg w w.heap.size g wr) (fun _ vk _ => n - (intOf vk).toNat)
  case atStart => exact ⟨4294967295, 0, rfl, rfl, by omega, by omega, by rw [List.take_zero, List.flatten_nil, regB_nil], HT.out⟩
  case round =>
    clear HT
    obtain ⟨x, k, rfl, rfl, hk, hx4, hs, hT⟩ := hrel
    have Hs := Lib.hid hs
    clear hs
    by_cases hlt : k < n
    · obtain ⟨b, off, rfl, hbl⟩ := hx.pos (by omega)
      obtain ⟨p, B, m, d, hk1, hc0, rp0, hmd, _⟩ := hx.at_ k hlt
      have hc := (hT.2.cell (p := ⟨b, off + k, none⟩) hbl).trans hc0
      have hta := tot_at hk1
      have HPL := Lib.hid rp0.len
      have hm : m ≤ 1099511627776 := by have := rp0.len; omega
      have S : Hid ((xss.take (k + 1)).flatten = (xss.take k).flatten ++ p) := Lib.hid (by rw [List.take_add_one, hk1]; simp)
      have HT := Lib.hid hT
      obtain ⟨wo, hwo⟩ : ∃ wo : World, wo = wr := ⟨_, rfl⟩
      rw [← hwo] at hc HT ⊢
      clear hk1 hc0 hbl hT hwo wr
      go_wp2
      go_loopw [4, 18] (fun vy vj wt => ∃ y j : Nat, vy = .int .u32 y ∧ vj = .int .i64 j ∧ j ≤ m ∧ y < 4294967296 ∧ y = regB x (p.take j) ∧ Tg w w.heap.size g wt) (fun _ vj _ => m - (intOf vj).toNat)
      case atStart => exact ⟨x, 0, rfl, rfl, by omega, hx4, by rw [List.take_zero, regB_nil], HT.out⟩
      case round =>
        clear HT
        obtain ⟨y, j, rfl, rfl, hj, hy4, hs, hT⟩ := hrel
        have Hs2 := Lib.hid hs
        clear hs
        by_cases hjm : j < m
        · obtain ⟨bp, op, rfl, hbp⟩ := rp0.pos (by omega)
          obtain ⟨v, hv, hcv0, hv255⟩ := rp0.at_ j hjm
          have hc := (hT.2.cell (p := ⟨bp, op + j, none⟩) hbp).trans hcv0
          have hv8 := v.toNat_lt
          obtain ⟨z, hz⟩ : ∃ z : Nat, z = y % 256 ^^^ v.toNat := ⟨_, rfl⟩
          have hz256 : z < 256 := by rw [hz]; exact Nat.xor_lt_two_pow (n := 8) (by omega) hv8
          have e1 : bits .xor .u8 ((y : Int) % 256) (v.toNat : Int) = (z : Int) := by
            have := u8_xor_nat (y % 256) v.toNat (by omega) hv8
            rw [← hz] at this
            exact this
          have hc2 := hT.cell z hz256
          obtain ⟨S, hS⟩ : ∃ S : Nat, S = stps 8 z := ⟨_, rfl⟩
          have hS32 : S < 4294967296 := by rw [hS]; exact stps_lt 8 (by omega)
          rw [← hS] at hc2
          have e2 : bits .xor .u32 ((y : Int) / 256) (S : Int) = ((y / 256 ^^^ S : Nat) : Int) := u32_xor_nat (y / 256) S (by omega) hS32
          have hl : y / 256 ^^^ S < 4294967296 := Nat.xor_lt_two_pow (n := 32) (by omega) hS32
          have HR : Hid (y / 256 ^^^ S = regB x (p.take (j + 1))) := Lib.hid (by rw [regB_take x hv, ← Hs2.out, hS, hz, stps8_byte y v])
          have HT := Lib.hid hT
          clear hT hS hz hcv0 hv
          go_wp2
          go_roundw
          case rel => exact ⟨y / 256 ^^^ S, j + 1, by go_num, by go_num, by omega, hl, HR.out, HT.out⟩
          case measure => simp [intOf]; omega
        · obtain rfl : j = m := by omega
          have HR : Hid (y = regB 4294967295 (xss.take (k + 1)).flatten) := Lib.hid (by
            rw [S.out, regB_app, ← Hs.out, Hs2.out, List.take_of_length_le (by rw [HPL.out]; omega)])
          have HT := Lib.hid hT
          clear hT
          go_wp2
          go_roundw
          case rel => exact ⟨y, k + 1, rfl, by go_num, by omega, hy4, HR.out, HT.out⟩
          case measure => simp [intOf]; omega
    · obtain rfl : k = n := by omega
      have e1 := u32_not hx4
      have HB := hT.2
      go_wp2
      go_ret
      refine ⟨?_, HB⟩
      have h3 : crcB xss.flatten = 4294967295 - x := by rw [crcB, Hs.out, List.take_of_length_le (by rw [HXL.out]; omega)]
      rw [h3]
      rfl
end Go.Proofs.YtbgelbdnkbhffaaGreat
namespace Go.Proofs.YtbgelbdnkbhffaaGreat
open Go Go.RowKit

/-- 'It hands back the four bytes as an array; what was in memory stands.' -/
def RetW (w : World) (n : Nat) (e : Ending) (w' : World) : Prop := e = .returned (.agg ((fourB n).map cv).toArray) ∧ Below w.heap.size w w'
theorem fourB_val {n : Nat} (hn : n < 4294967296) : ((fourB n).map cv).toArray = #[.int .u8 ((n : Int) / 16777216), .int .u8 ((n : Int) / 65536 % 256), .int .u8 ((n : Int) / 256 % 256), .int .u8 ((n : Int) % 256)] := by
  show (List.map cv [bt (n / 16777216), bt (n / 65536), bt (n / 256), bt n]).toArray = _
  simp only [List.map_cons, List.map_nil, cv, bt_mod]
  rw [show ((n / 16777216 % 256 : Nat) : Int) = (n : Int) / 16777216 by omega, show ((n / 65536 % 256 : Nat) : Int) = (n : Int) / 65536 % 256 by omega, show ((n / 256 % 256 : Nat) : Int) = (n : Int) / 256 % 256 by omega, show ((n % 256 : Nat) : Int) = (n : Int) % 256 by omega]
theorem info_four : (Tryz.prog.info? 240).map (·.size) = some 4 := by kernel_rfl
set_option maxRecDepth 100000 in
theorem word_any (n : Nat) (w : World) (hn : n < 4294967296) : Calls Tryz.prog 184 #[.int .u32 n] w (RetW w n) := by
  have HV := Lib.hid (fourB_val hn)
  go_enter Tryz.func184, Tryz.ntmps184
  go_wp2
  rw [← HV.out]
  exact bodyPost_ret (v := .agg ((fourB n).map cv).toArray) (results_cell_row rfl _ _ w.heap.size 240 _ (0, 0) _ rfl (heap_alloc_new _ _) Tryz.underlying240 rfl info_four) rfl ⟨rfl, (Below.refl _ _).alloc (Nat.le_refl _) _⟩

theorem numK_take {xs : List UInt8} {i : Nat} {b : UInt8} (h : xs[i]? = some b) : numK xs (i + 1) = numK xs i * 256 + b.toNat := by
  rw [numK, List.getD_eq_getElem?_getD, h, Option.getD_some]
theorem or_byte {m : Nat} (b : UInt8) (h : m < 16777216) : bits .or .u32 ((m : Int) * 256) (b.toNat : Int) = ((m * 256 + b.toNat : Nat) : Int) := by
  have hb := b.toNat_lt
  have h1 := u32_or_nat (m * 256) b.toNat (by omega) (by omega)
  have h2 : m * 256 ||| b.toNat = m * 256 + b.toNat := by
    rw [Nat.mul_comm]
    exact (Nat.two_pow_add_eq_or_of_lt (i := 8) (by simpa using hb) m).symm
  rw [h2] at h1
  exact h1

set_option maxRecDepth 100000 in
set_option maxHeartbeats 1000000 in
theorem getWord_any (A : Option Addr) (n c : Nat) (xs : List UInt8) (w : World) (hx : Rd w A n xs) (h4 : 4 ≤ n) (hn : n ≤ 1099511627776) (hnc : n ≤ c) :
    Calls Tryz.prog 179 #[.slice A n c] w (RetU w (numK xs 4)) := by
  have hsl : ∀ w, (Instr.slice 29 (.slice A n c) none (some (.int .i64 4)) none).run Tryz.prog w = .ok (.slice A 4 c) w :=
    cut_h Tryz.underlying29 elem_bytes size_u8 A (m := 4) (by omega)
  go_enter Tryz.func179, Tryz.ntmps179
  go_wp2
  go_loopw [3, 9] (fun vm vi wr => ∃ m i q : Nat, vm = .int .u32 m ∧ vi = .int .i64 i ∧ i ≤ 4 ∧ m = numK xs i ∧ wr = w.drewN q) (fun _ vi _ => 4 - (intOf vi).toNat)
  case atStart => exact ⟨0, 0, 0, rfl, rfl, by omega, rfl, rfl⟩
  case round =>
    obtain ⟨m, i, q, rfl, rfl, hi, hm, rfl⟩ := hrel
    have hml := numK_lt xs i
    rw [← hm] at hml
    have Hm := Lib.hid hm
    clear hm
    by_cases hlt : i < 4
    · have hm3 : m < 16777216 := Nat.lt_of_lt_of_le hml (Nat.le_trans (Nat.pow_le_pow_right (by decide) (show i ≤ 3 by omega)) (by decide))
      clear hml
      obtain ⟨bf, off, rfl, _⟩ := hx.pos (by omega)
      obtain ⟨b, hb, hc, _⟩ := hx.at_ i (by omega)
      have hb8 := b.toNat_lt
      have e0 : (m : Int) * 256 % 4294967296 = (m : Int) * 256 := by omega
      have e1 := or_byte b hm3
      have HR : Hid (m * 256 + b.toNat = numK xs (i + 1)) := Lib.hid (by rw [numK_take hb, Hm.out])
      clear hb
      obtain ⟨W, hW⟩ : ∃ W, W = w.drewN q := ⟨_, rfl⟩
      have c1 : W.cell? ⟨bf, off + i, none⟩ = some (.int .u8 (b.toNat : Int)) := by rw [hW]; exact hc
      rw [← hW]
      have HW := Lib.hid hW
      clear hW hc
      go_wp2
      go_roundw
      case rel => exact ⟨m * 256 + b.toNat, i + 1, q, by go_num, by go_num, by omega, HR.out, HW.out⟩
      case measure => simp [intOf]; omega
    · obtain rfl : i = 4 := by omega
      clear hml
      go_wp2
      go_ret
      exact ⟨by rw [Hm.out]; rfl, q, rfl⟩
end Go.Proofs.YtbgelbdnkbhffaaGreat
namespace Go.Proofs.YtbgelbdnkbhffaaGreat
open Go Go.RowKit

theorem partsF_len {xs : List UInt8} : ∀ (f p : Nat) (acc : List (List UInt8)), (∀ x ∈ acc, (x : List UInt8).length ≤ xs.length) → ∀ x ∈ (partsF xs f p acc).1, (x : List UInt8).length ≤ xs.length
  | 0, p, acc, h => by
    rw [partsF]
    split
    · simp
    · exact h
  | f + 1, p, acc, h => by
    rw [partsF]
    split
    · split
      · simp
      · split
        · simp
        · refine partsF_len f _ _ fun x hx => ?_
          rcases List.mem_append.1 hx with e | e
          · exact h x e
          · rw [List.mem_singleton.1 e, List.length_take, List.length_drop]
            omega
    · exact h
theorem parts_len (xs : List UInt8) : ∀ x ∈ (parts xs).1, (x : List UInt8).length ≤ xs.length := partsF_len _ _ _ (by simp)

theorem partsF_count {xs : List UInt8} : ∀ (f p : Nat) (acc : List (List UInt8)), (partsF xs f p acc).1.length ≤ acc.length + f
  | 0, p, acc => by
    rw [partsF]
    split <;> simp
  | f + 1, p, acc => by
    rw [partsF]
    split
    · split
      · simp
      · split
        · simp
        · have := partsF_count (xs := xs) f ((getU xs p).2.1.toNat + (getU xs p).1) (acc ++ [(xs.drop (getU xs p).2.1.toNat).take (getU xs p).1])
          simp only [List.length_append, List.length_cons, List.length_nil] at this
          omega
    · simp only
      omega
theorem parts_count (xs : List UInt8) : (parts xs).1.length ≤ xs.length := by
  have := partsF_count (xs := xs) xs.length 0 []
  simpa [parts] using this
end Go.Proofs.YtbgelbdnkbhffaaGreat
namespace Go.Proofs.YtbgelbdnkbhffaaGreat
open Go Go.RowKit

theorem rdl_box {w : World} {t : TypeId} {vs : List Value} {xss : List (List UInt8)} {n : Nat} (hl : vs.length = n) (hx : xss.length = n) (h : ∀ (i : Nat) v x, vs[i]? = some v → xss[i]? = some x → ElB w v x) (cs : Array Value) (hc : cs = vs.toArray) :
    RdL (w.alloc (.cells cs t)) (some ⟨w.heap.size, 0, none⟩) n xss := by
  subst hc
  refine ⟨hx, fun _ => ⟨w.heap.size, 0, rfl, by simp, fun i x hi => ?_⟩⟩
  have hlt := (List.getElem?_eq_some_iff.1 hi).1
  obtain ⟨v, hv⟩ : ∃ v, vs[i]? = some v := ⟨_, List.getElem?_eq_getElem (by omega)⟩
  refine ⟨v, ?_, (h i v x hv hi).below ((Below.refl _ _).alloc (Nat.le_refl _) _)⟩
  rw [cell_of_row (w.alloc (.cells vs.toArray t)) w.heap.size (0 + i) vs.toArray t (0, 0) (heap_alloc_new w _)]
  simp [hv]
theorem rdl_two {w : World} {t : TypeId} {v1 v2 : Value} {x1 x2 : List UInt8} (h1 : ElB w v1 x1) (h2 : ElB w v2 x2) (g : Nat) (hg : g = w.heap.size) : RdL (w.alloc (.cells #[v1, v2] t)) (some ⟨g, 0, none⟩) 2 [x1, x2] := by
  subst hg
  refine rdl_box (vs := [v1, v2]) rfl rfl (fun i v x hv hx => ?_) _ rfl
  match i, hv, hx with
  | 0, hv, hx => simp at hv hx; subst hv hx; exact h1
  | 1, hv, hx => simp at hv hx; subst hv hx; exact h2
  | i + 2, hv, hx => simp at hv
end Go.Proofs.YtbgelbdnkbhffaaGreat
namespace Go.Proofs.YtbgelbdnkbhffaaGreat
open Go Go.RowKit

theorem numK_four (a b c d : UInt8) (r : List UInt8) : numK (a :: b :: c :: d :: r) 4 = ((a.toNat * 256 + b.toNat) * 256 + c.toNat) * 256 + d.toNat := by
  simp [numK]
theorem four_cons {ys : List UInt8} (h : 4 ≤ ys.length) : ∃ a b c d r, ys = a :: b :: c :: d :: r := by
  match ys, h with
  | a :: b :: c :: d :: r, _ => exact ⟨a, b, c, d, r, rfl⟩
theorem bt_byte (a : UInt8) {k : Nat} (h : k % 256 = a.toNat) : bt k = a := by
  apply UInt8.toNat_inj.1
  rw [bt_mod, h]
theorem fourB_numK {ys : List UInt8} (h : 4 ≤ ys.length) : fourB (numK ys 4) = ys.take 4 := by
  obtain ⟨a, b, c, d, r, rfl⟩ := four_cons h
  have ha := a.toNat_lt
  have hb := b.toNat_lt
  have hc := c.toNat_lt
  have hd := d.toNat_lt
  rw [numK_four]
  show [bt _, bt _, bt _, bt _] = [a, b, c, d]
  rw [bt_byte a (by omega), bt_byte b (by omega), bt_byte c (by omega), bt_byte d (by omega)]
theorem numK_fourB (n : Nat) (r : List UInt8) (hn : n < 4294967296) : numK (fourB n ++ r) 4 = n := by
  show numK (bt _ :: bt _ :: bt _ :: bt _ :: r) 4 = n
  rw [numK_four]
  simp only [bt_mod]
  omega
theorem numK_take4 (ys : List UInt8) (m : Nat) (h : 4 ≤ m) : numK (ys.take m) 4 = numK ys 4 := by
  simp only [numK, List.getD_eq_getElem?_getD, List.getElem?_take, show (0 : Nat) < m by omega, show (1 : Nat) < m by omega, show (2 : Nat) < m by omega, show (3 : Nat) < m by omega, if_true]
/-- The record is whole just if the sum that it says is its own. -/
theorem whole_eq {rs : List UInt8} {m : Nat} (hm : m = numK rs 4) (hl : 8 + m ≤ rs.length) :
    (eqB (sealB ((rs.take (8 + m)).drop 8)) (rs.take (8 + m)) = true) ↔ crcB (rs.take 4 ++ (rs.take (8 + m)).drop 8) = numK (rs.drop 4) 4 := by
  have hbl : ((rs.take (8 + m)).drop 8).length = m := by rw [List.length_drop, List.length_take]; omega
  have h4 : fourB m = rs.take 4 := by rw [hm, fourB_numK (by omega)]
  have hsplit : rs.take (8 + m) = rs.take 4 ++ ((rs.drop 4).take 4 ++ (rs.take (8 + m)).drop 8) := by
    apply List.ext_getElem?
    intro i
    have hm4 : min 4 rs.length = 4 := by omega
    have hm8 : min 4 (rs.length - 4) = 4 := by omega
    simp only [List.getElem?_append, List.length_take, List.length_drop, List.getElem?_take, List.getElem?_drop, hm4, hm8]
    by_cases h1 : i < 4
    · simp [h1, show i < 8 + m by omega]
    · by_cases h2 : i - 4 < 4
      · simp [h1, h2, show i < 8 + m by omega, show 4 + (i - 4) = i by omega]
      · simp [h1, h2, show 8 + (i - 4 - 4) = i by omega]
  obtain ⟨bd, hbd⟩ : ∃ bd, bd = (rs.take (8 + m)).drop 8 := ⟨_, rfl⟩
  obtain ⟨wh, hwh⟩ : ∃ wh, wh = rs.take (8 + m) := ⟨_, rfl⟩
  rw [← hbd] at hsplit hbl ⊢
  rw [← hwh] at hsplit ⊢
  unfold eqB
  rw [beq_iff_eq]
  unfold sealB
  rw [hbl, h4, hsplit]
  have hc : crcB (rs.take 4 ++ bd) < 4294967296 := crcB_lt _
  have hn : numK (rs.drop 4) 4 = numK ((rs.drop 4).take 4) 4 := (numK_take4 _ 4 (Nat.le_refl _)).symm
  constructor
  · intro h
    have h1 := List.append_cancel_right (List.append_cancel_left h)
    rw [hn, ← h1]
    have := numK_fourB _ [] hc
    rw [List.append_nil] at this
    exact this.symm
  · intro h
    rw [h, fourB_numK (by rw [List.length_drop]; omega)]
end Go.Proofs.YtbgelbdnkbhffaaGreat
namespace Go.Proofs.YtbgelbdnkbhffaaGreat
open Go Go.RowKit

/-- The append of what reads as these slices onto a row of slices of the call's own. -/
theorem wpList_appV {P : Program} (w : World) {ops : Array Oper} {rest : List Oper} {o : Oper} {a : Act} {Q : Exit → Act → World → Prop} (hgd : o.guard = none) (s x : Operand) (tt : TypeId)
    (ho : o.op = .call { callee := .builtin .append, args := #[s, x], argTypes := #[tt, tt] })
    (base : Nat) (t : TypeId) (z : Value) (by_ : Nat) (ht : P.underlying tt = some (.slice t)) (hi : (P.info? t).map (fun i => (i.zero, i.size, i.bytes)) = some (some z, 1, by_)) (hz1 : z.cells.size = 1)
    (A : Option Addr) (n c : Nat) (vs : List Value) (hs : a.eval s = .slice A n c) (hown : OwnV t w base A n c vs)
    (B : Option Addr) (m d : Nat) (ys : List Value) (hx : a.eval x = .slice B m d) (hr : RdV w B m ys) (h1 : ∀ u ∈ ys, u.oneCell' = true)
    (hn : n + m ≤ maxLen) (hby : (n + m) * by_ ≤ 140737488355328) (hbase : base ≤ w.heap.size)
    (h : ∀ A' c' w', OwnV t w' base A' (n + m) c' (vs ++ ys) → w.grownBy w' (blk A) → (blk A' = blk A ∨ blk A' = some w.heap.size) → wpList P ops Q rest (a.put o.dst (.slice A' (n + m) c')) w') :
    wpList P ops Q (o :: rest) a w := by
  obtain ⟨i, hi, hz, hsz, hby2⟩ := info_parts hi
  cases B with
  | none =>
    obtain ⟨rfl, rfl⟩ : m = 0 ∧ ys = [] := by
      rcases Nat.eq_zero_or_pos m with h0 | h0
      · exact ⟨h0, List.eq_nil_of_length_eq_zero (by rw [hr.1, h0])⟩
      · obtain ⟨_, _, e, _⟩ := hr.2 h0; cases e
    refine wpList_app_none hgd s x tt ho base t i 1 ht (by rw [hi]) (.slice A n c) n vs hs (by exact hown) d hx ?_
    exact h A c w (by simpa using hown) (World.grownBy.refl w _) (.inl rfl)
  | some ad =>
    have hnews : ∀ j u, ys[j]? = some u → w.cell? (ad.add j) = some u := fun j u hj => by
      have hm : 0 < m := by have := hr.1; have := (List.getElem?_eq_some_iff.1 hj).1; omega
      obtain ⟨b, off, e, _, hc⟩ := hr.2 hm
      injection e with e
      subst e
      rw [Addr.add_lit]
      exact hc j u hj
    refine wpList_append_own_at (w := w) hgd s x tt ho base t i z 1 by_ ht hi hz hsz hby2 hz1 (by decide) (.slice A n c) n vs hs hown ad m d ys hx (by rw [hr.1, Nat.mul_one]) hnews h1 hn hby hbase ?_
    intro v' w' k1 k2 _ k3
    rw [own_blk] at k2
    obtain ⟨A', c', rfl⟩ : ∃ A' c', v' = .slice A' (n + m) c' := by
      rcases k1.2 with ⟨h3, h4⟩ | ⟨g, cap, cur, h4, _⟩
      · exact ⟨none, 0, by rw [h3, h4]⟩
      · exact ⟨_, _, h4⟩
    rw [own_blk, own_blk] at k3
    exact h A' c' w' k1 k2 k3

section
variable {w w' : World} {base : Nat} {a b ps : List VB}
theorem Fam.turn {g N : Nat} {xs ys : List UInt8} (h : Fam w base (a ++ ((.slice (some ⟨g, 0, none⟩) N N, xs) :: b))) (ho : Own 5 w' base (some ⟨g, 0, none⟩) N N ys) (hg : w.grownBy w' (some g)) :
    Fam w' base (a ++ ((.slice (some ⟨g, 0, none⟩) N N, ys) :: b)) := by
  obtain ⟨h1, h2⟩ := h
  rw [List.pairwise_append, List.pairwise_cons] at h2
  obtain ⟨p1, ⟨p2, p3⟩, p4⟩ := h2
  have key : ∀ p, (p ∈ a ∨ p ∈ b) → ∃ A m c, p.1 = .slice A m c ∧ Own 5 w' base A m c p.2 := fun p hp => by
    obtain ⟨A, m, c, e, ho⟩ := h1 p (by rcases hp with hp | hp <;> simp [hp])
    refine ⟨A, m, c, e, ho.kept hg (fun k hk e2 => ?_)⟩
    injection e2 with e2
    subst e2
    rcases hp with hp | hp
    · exact p4 p hp _ (List.mem_cons_self ..) g (by rw [e, own_blk]; exact hk) rfl
    · exact p2 p hp g rfl (by rw [e, own_blk]; exact hk)
  refine ⟨fun p hp => ?_, ?_⟩
  · simp only [List.mem_append, List.mem_cons] at hp
    rcases hp with hp | rfl | hp
    · exact key p (.inl hp)
    · exact ⟨_, _, _, rfl, ho⟩
    · exact key p (.inr hp)
  · rw [List.pairwise_append, List.pairwise_cons]
    exact ⟨p1, ⟨fun q hq => p2 q hq, p3⟩, fun x hx y hy => by
      rcases List.mem_cons.1 hy with rfl | hy
      · exact fun k e1 e2 => p4 x hx _ (List.mem_cons_self ..) k e1 e2
      · exact p4 x hx y (List.mem_cons_of_mem _ hy)⟩
theorem Fam.pre (h : Fam w base ps) : Pre w base (ps.map (·.1)) (fun _ _ _ => True) := fun i v hv => by
  rw [List.getElem?_map] at hv
  cases hp : ps[i]? with
  | none => rw [hp] at hv; cases hv
  | some p =>
    rw [hp] at hv
    injection hv with hv
    subst hv
    obtain ⟨A, m, c, e, ho⟩ := h.1 p (List.mem_of_getElem? hp)
    exact ⟨A, m, c, p.2, e, ho, trivial⟩
theorem OffF.map {k : Nat} (h : OffF ps k) : ∀ (i : Nat) (v : Value), (ps.map (·.1))[i]? = some v → Value.ownBlock v ≠ some k := fun i v hv => by
  rw [List.getElem?_map] at hv
  cases hp : ps[i]? with
  | none => rw [hp] at hv; cases hv
  | some p =>
    rw [hp] at hv
    injection hv with hv
    subst hv
    exact h p (List.mem_of_getElem? hp)
end

end Go.Proofs.YtbgelbdnkbhffaaGreat
namespace Go.Proofs.YtbgelbdnkbhffaaGreat
open Go Go.RowKit

/-- 'The row that lay at A lies at A' now: it grew where it lay, or lies in a new block; all else stands.' -/
def Grow (w w' : World) (A A' : Option Addr) : Prop := w.grownBy w' (blk A) ∧ (blk A' = blk A ∨ ∀ b, blk A' = some b → w.heap.size ≤ b)
theorem grown_then {a b c : World} {row row' : Option Nat} (h : a.grownBy b row) (k : b.grownBy c row') (hr : ∀ j, row' = some j → a.heap.size ≤ j ∨ row = some j) : a.grownBy c row := by
  obtain ⟨h1, h2, h3, h4, h5⟩ := h
  obtain ⟨k1, k2, k3, k4, k5⟩ := k
  refine ⟨k1.trans h1, k2.trans h2, k3.trans h3, Nat.le_trans h4 k4, fun i hi hne => (k5 i (Nat.lt_of_lt_of_le hi h4) fun e => ?_).trans (h5 i hi hne)⟩
  rcases hr i e.symm with h6 | h6
  · omega
  · exact hne h6.symm
theorem Grow.refl (w : World) (A : Option Addr) : Grow w w A A := ⟨World.grownBy.refl w _, .inl rfl⟩
theorem Grow.size {w w' : World} {A A' : Option Addr} (h : Grow w w' A A') : w.heap.size ≤ w'.heap.size := h.1.size
theorem Grow.trans {w w1 w2 : World} {A A1 A2 : Option Addr} (h : Grow w w1 A A1) (k : Grow w1 w2 A1 A2) : Grow w w2 A A2 := by
  have hs := h.size
  refine ⟨grown_then h.1 k.1 (fun j hj => ?_), ?_⟩
  · rcases h.2 with e | e
    · exact .inr (by rw [← e]; exact hj)
    · exact .inl (e j hj)
  · rcases k.2 with e | e
    · rcases h.2 with e2 | e2
      · exact .inl (e.trans e2)
      · exact .inr fun b hb => e2 b (by rw [← e]; exact hb)
    · exact .inr fun b hb => Nat.le_trans hs (e b hb)
theorem Grow.of_below {w w1 : World} (A : Option Addr) (h : Below w.heap.size w w1) : Grow w w1 A A :=
  ⟨⟨h.os, h.tape, h.output, h.size, fun b hb _ => h.block b hb⟩, .inl rfl⟩
theorem Grow.below {e : TypeId} {w w' : World} {base n c : Nat} {A A' : Option Addr} {xs : List UInt8} (h : Grow w w' A A') (ho : Own e w base A n c xs) (hb : base ≤ w.heap.size) : Below base w w' :=
  (Below.refl _ _).grown h.1 hb (fun k hk => (ho.lt k hk).1)
theorem Grow.kept {e : TypeId} {w w' : World} {base n c : Nat} {A A' B : Option Addr} {xs : List UInt8} (h : Grow w w' A A') (ho : Own e w base B n c xs) (hd : Dj A B) : Own e w' base B n c xs :=
  ho.kept h.1 (fun b hb e => hd b e hb)
theorem Grow.dj {e : TypeId} {w w' : World} {base n c : Nat} {A A' B : Option Addr} {xs : List UInt8} (h : Grow w w' A A') (ho : Own e w base B n c xs) (hd : Dj A B) : Dj A' B := fun b h1 h2 => by
  rcases h.2 with e | e
  · exact hd b (by rw [← e]; exact h1) h2
  · have h3 := e b h1
    have h4 := (ho.lt b h2).2
    omega
theorem Rd.vals {w : World} {B : Option Addr} {m : Nat} {ys : List UInt8} (h : Rd w B m ys) : RdV w B m (ys.map cv) := by
  refine ⟨by simp [h.1], fun hm => ?_⟩
  obtain ⟨b, off, e, hb, hc⟩ := h.2 hm
  refine ⟨b, off, e, hb, fun i v hv => ?_⟩
  rw [List.getElem?_map] at hv
  cases hy : ys[i]? with
  | none => rw [hy] at hv; cases hv
  | some y =>
    rw [hy] at hv
    injection hv with hv
    subst hv
    exact hc i y hy
/-- An append of bytes that tells where the row lies. -/
theorem wpList_appX {P : Program} (w : World) {ops : Array Oper} {rest : List Oper} {o : Oper} {a : Act} {Q : Exit → Act → World → Prop} (hgd : o.guard = none) (s x : Operand) (tt : TypeId)
    (ho : o.op = .call { callee := .builtin .append, args := #[s, x], argTypes := #[tt, tt] })
    (base : Nat) (t : TypeId) (ht : P.underlying tt = some (.slice t)) (hi : (P.info? t).map (fun i => (i.zero, i.size, i.bytes)) = some (some (.int .u8 0), 1, 1))
    (A : Option Addr) (n c : Nat) (xs : List UInt8) (hs : a.eval s = .slice A n c) (hown : Own t w base A n c xs)
    (B : Option Addr) (m d : Nat) (ys : List UInt8) (hx : a.eval x = .slice B m d) (hr : Rd w B m ys)
    (hby : n + m ≤ 140737488355328) (hbase : base ≤ w.heap.size)
    (h : ∀ A' c' w', Own t w' base A' (n + m) c' (xs ++ ys) → Grow w w' A A' → wpList P ops Q rest (a.put o.dst (.slice A' (n + m) c')) w') :
    wpList P ops Q (o :: rest) a w :=
  wpList_appV w hgd s x tt ho base t (.int .u8 0) 1 ht hi rfl A n c (xs.map cv) hs hown B m d (ys.map cv) hx hr.vals (cv_one ys) (by unfold maxLen; omega) (by omega) hbase
    (fun A' c' w' h1 h2 h3 => h A' c' w' (by rw [← List.map_append] at h1; exact h1) ⟨h2, h3.imp id (fun e b hb => by rw [e] at hb; injection hb with hb; omega)⟩)
/-- 'The row with ys behind it.' -/
def RetAp (base : Nat) (w : World) (A : Option Addr) (n : Nat) (xs ys : List UInt8) (e : Ending) (w' : World) : Prop :=
  ∃ A' c', e = .returned (.slice A' (n + ys.length) c') ∧ Own 5 w' base A' (n + ys.length) c' (xs ++ ys) ∧ Grow w w' A A'
theorem appendWord_any (A : Option Addr) (n c : Nat) (xs : List UInt8) (base v : Nat) (w : World) (ho : Own 5 w base A n c xs) (hb : base ≤ w.heap.size) (hn : n ≤ 1099511627776) (hv : v < 4294967296) :
    Calls Tryz.prog 216 #[.slice A n c, .int .i64 (v : Int)] w (RetAp base w A n xs (fourB v)) := by
  have hc : ∀ i : Nat, ((bt i).toNat : Int) = (i : Int) % 256 := fun i => by
    have : (UInt8.ofNat i).toNat = i % 256 := by simp [UInt8.toNat_ofNat']
    unfold bt
    omega
  have hw : #[Value.int .u8 ((v : Int) / 16777216), .int .u8 ((v : Int) / 65536 % 256), .int .u8 ((v : Int) / 256 % 256), .int .u8 ((v : Int) % 256)] = ((fourB v).map cv).toArray := by
    have e : fourB v = [bt (v / 16777216), bt (v / 65536), bt (v / 256), bt v] := rfl
    rw [e]
    simp only [List.map_cons, List.map_nil, cv, hc]
    rw [show ((v / 16777216 : Nat) : Int) % 256 = (v : Int) / 16777216 by omega, show ((v / 65536 : Nat) : Int) = (v : Int) / 65536 by omega, show ((v / 256 : Nat) : Int) = (v : Int) / 256 by omega]
  have HW := Lib.hid hw
  clear hw hc
  go_enter Tryz.func216, Tryz.ntmps216
  go_wp2_with (at_builtin; refine wpList_appX _ rfl _ _ 29 rfl base 5 Tryz.underlying29 info_u8 A n c xs rfl (ho.alloc _) _ 4 4 (fourB v) rfl (Rd.lit _ _ 4 (fourB v) rfl _ HW.out) ?_ ?_ ?_)
  · omega
  · simp; omega
  intro A' c' w' o2 g2
  go_wp2_with fail
  go_ret
  exact ⟨A', c', rfl, o2, (Grow.of_below A ((Below.refl _ _).alloc (Nat.le_refl _) _)).trans g2⟩
end Go.Proofs.YtbgelbdnkbhffaaGreat
namespace Go.Proofs.YtbgelbdnkbhffaaGreat
open Go Go.RowKit

end Go.Proofs.YtbgelbdnkbhffaaGreat
namespace Go.Proofs.YtbgelbdnkbhffaaGreat
open Go Go.RowKit

theorem flat_len (xss : List (List UInt8)) : xss.flatten.length ≤ tot xss := by
  induction xss with
  | nil => simp [tot]
  | cons x r ih => simp only [List.flatten_cons, List.length_append, tot]; omega
theorem flat_take_le (xss : List (List UInt8)) (k : Nat) : (xss.take k).flatten.length ≤ xss.flatten.length := by
  have h : xss.flatten = (xss.take k).flatten ++ (xss.drop k).flatten := by rw [← List.flatten_append, List.take_append_drop]
  rw [h, List.length_append]
  omega
theorem flat_snoc {xss : List (List UInt8)} {k : Nat} {x : List UInt8} (h : xss[k]? = some x) : (xss.take (k + 1)).flatten = (xss.take k).flatten ++ x := by
  rw [List.take_add_one, h]; simp

/-- The values of a row of lists. -/
theorem RdL.vals {w : World} {A : Option Addr} {n : Nat} {xss : List (List UInt8)} (h : RdL w A n xss) :
    ∃ vs : List Value, RdV w A n vs ∧ (∀ (i : Nat) v x, vs[i]? = some v → xss[i]? = some x → ElB w v x) ∧ ∀ u ∈ vs, u.oneCell' = true := by
  have key : ∀ m, m ≤ n → ∃ vs : List Value, vs.length = m ∧ (∀ b off, A = some ⟨b, off, none⟩ → ∀ (i : Nat) v, vs[i]? = some v → w.cell? ⟨b, off + i, none⟩ = some v) ∧ (∀ (i : Nat) v x, vs[i]? = some v → xss[i]? = some x → ElB w v x) ∧ ∀ u ∈ vs, u.oneCell' = true := by
    intro m
    induction m with
    | zero => intro _; exact ⟨[], rfl, by simp, by simp, by simp⟩
    | succ m ih =>
      intro hm
      obtain ⟨vs, h1, h2, h3, h4⟩ := ih (by omega)
      obtain ⟨b, off, rfl, _⟩ := h.pos (by omega)
      obtain ⟨x, X, nx, cx, hk1, hc0, rx0, hxc, hnil⟩ := h.at_ m (by omega)
      refine ⟨vs ++ [.slice X nx cx], by simp [h1], ?_, ?_, ?_⟩
      · intro b' off' e i v hi
        rw [List.getElem?_append] at hi
        split at hi
        · exact h2 b' off' e i v hi
        · next hlt =>
          have : i = m := by
            have := (List.getElem?_eq_some_iff.1 hi).1
            simp at this
            omega
          subst this
          injection e with e
          injection e with e1 e2
          subst e1 e2
          rw [h1, Nat.sub_self] at hi
          simp at hi
          rw [← hi]
          exact hc0
      · intro i v y hi hy
        rw [List.getElem?_append] at hi
        split at hi
        · exact h3 i v y hi hy
        · next hlt =>
          have : i = m := by
            have := (List.getElem?_eq_some_iff.1 hi).1
            simp at this
            omega
          subst this
          rw [h1, Nat.sub_self] at hi
          simp at hi
          rw [hk1] at hy
          injection hy with hy
          subst hi hy
          exact ⟨X, nx, cx, rfl, rx0, hxc, hnil⟩
      · intro u hu
        rw [List.mem_append, List.mem_singleton] at hu
        rcases hu with hu | rfl
        · exact h4 u hu
        · rfl
  obtain ⟨vs, h1, h2, h3, h4⟩ := key n (Nat.le_refl _)
  refine ⟨vs, ⟨h1, fun hn => ?_⟩, h3, h4⟩
  obtain ⟨b, off, e, hb⟩ := h.pos hn
  exact ⟨b, off, e, hb, h2 b off e⟩

/-- A row of values that read as lists, read as a list of lists. -/
theorem RdV.rdl {w : World} {A : Option Addr} {n : Nat} {vs : List Value} {xss : List (List UInt8)} (h : RdV w A n vs) (hl : xss.length = n) (he : ∀ (i : Nat) v x, vs[i]? = some v → xss[i]? = some x → ElB w v x) : RdL w A n xss := by
  refine ⟨hl, fun hn => ?_⟩
  obtain ⟨b, off, e, hb, hc⟩ := h.2 hn
  refine ⟨b, off, e, hb, fun i x hx => ?_⟩
  have hi := (List.getElem?_eq_some_iff.1 hx).1
  obtain ⟨v, hv⟩ : ∃ v, vs[i]? = some v := ⟨_, List.getElem?_eq_getElem (by rw [h.1]; omega)⟩
  exact ⟨v, hc i v hv, he i v x hv hx⟩

/-- A block of bytes, read. -/
theorem Rd.row {w : World} {g n : Nat} {e : TypeId} {fr : Nat × Nat} {xs : List UInt8} (h : w.heap[g]? = some (.cells (xs.map cv).toArray e fr)) (hn : xs.length = n) : Rd w (some ⟨g, 0, none⟩) n xs := by
  refine ⟨hn, fun _ => ⟨g, 0, rfl, (Array.getElem?_eq_some_iff.1 h).1, fun i x hx => ?_⟩⟩
  rw [cell_of_row w g (0 + i) _ e fr h]
  simp [hx, cv]

theorem ownV_box (w : World) (t : TypeId) (base : Nat) (vs : List Value) (n : Nat) (hl : vs.length = n) (hn : n ≤ 1024) (hb : base ≤ w.heap.size) (cs : Array Value) (hc : cs = vs.toArray) (g : Nat) (hg : g = w.heap.size) : OwnV t (w.alloc (.cells cs t)) base (some ⟨g, 0, none⟩) n n vs := by
  subst hc hg
  refine ⟨by simp [hl], .inr ⟨w.heap.size, n, vs.toArray, rfl, hb, heap_alloc_new w _, Nat.le_refl _, by unfold maxLen; omega, by simp [hl], ?_⟩⟩
  simp only [Nat.mul_one]
  exact List.take_of_length_le (by simp [hl])

/-- Four noughts. -/
abbrev zero4 : Array Value := #[.int .u8 0, .int .u8 0, .int .u8 0, .int .u8 0]
theorem four_cells (n : Nat) : (((fourB n).map cv).toArray).all (·.oneCell') = true := by
  rw [Array.all_eq_true_iff_forall_mem]
  intro v hv
  rw [List.mem_toArray] at hv
  exact cv_one _ v hv

set_option maxRecDepth 100000 in
set_option maxHeartbeats 4000000 in
theorem Seal_any (A : Option Addr) (n c : Nat) (xss : List (List UInt8)) (w : World) (hx : RdL w A n xss) (ht : tot xss ≤ 268435456) :
    Calls Tryz.prog 140 #[.slice A n c] w (RetSE w.heap.size w (sealG xss.flatten)) := by
  obtain ⟨base, hbase⟩ : ∃ b, b = w.heap.size := ⟨_, rfl⟩
  rw [← hbase]
  have Hw : Hid (base = w.heap.size) := Lib.hid hbase
  clear hbase
  have hn : n ≤ 268435456 := by have := tot_len xss; have := hx.len; omega
  have HXL := Lib.hid hx.len
  go_enter Tryz.func140, Tryz.ntmps140
  go_wp2
  go_loopw [4, 14] (fun vs vk wr => ∃ s k q : Nat, vs = .int .i64 s ∧ vk = .int .i64 k ∧ k ≤ n ∧ s = (xss.take k).flatten.length ∧ s ≤ 1048576 ∧ wr = w.drewN q) (fun _ vk _ => n - (intOf vk).toNat)
  case atStart => exact ⟨0, 0, 0, rfl, rfl, Nat.zero_le _, rfl, Nat.zero_le _, rfl⟩
  case round =>
    obtain ⟨s, k, q, rfl, rfl, hk, hs, hs1, rfl⟩ := hrel
    have Hs := Lib.hid hs
    clear hs
    by_cases hlt : k < n
    · obtain ⟨b, off, rfl, hbl⟩ := hx.pos (by omega)
      obtain ⟨x, X, nx, cx, hk1, hc0, rx0, hxc, _⟩ := hx.at_ k hlt
      have hc : (w.drewN q).cell? ⟨b, off + k, none⟩ = some (.slice X nx cx) := hc0
      have HS := Lib.hid (flat_snoc hk1)
      have HXX := Lib.hid rx0.len
      have hnx : nx ≤ 268435456 := by have := tot_at hk1; have := rx0.len; omega
      obtain ⟨W, hW⟩ : ∃ W, W = w.drewN q := ⟨_, rfl⟩
      rw [← hW] at hc ⊢
      have HW := Lib.hid hW
      clear hW hk1 hc0 hbl
      by_cases hlong : 1048576 - s < nx
      · have G : Hid (sealG xss.flatten = ([], 2)) := Lib.hid (sealG_long rfl (by
          have h1 := flat_take_le xss (k + 1)
          rw [HS.out, List.length_append, ← Hs.out, HXX.out] at h1
          omega))
        have h1 : decide ((1048576 : Int) - (s : Int) < (nx : Int)) = true := by simp; omega
        go_wp2
        go_ret2
        refine ⟨none, 0, 0, by rw [G.out]; rfl, by rw [G.out]; exact Own.nil _ _ _, ?_⟩
        rw [HW.out, Hw.out]
        exact below_drewN (Below.refl _ _) q
      · have h1 : decide ((1048576 : Int) - (s : Int) < (nx : Int)) = false := by simp; omega
        go_wp2
        go_roundw
        case rel => exact ⟨s + nx, k + 1, _, by go_num, by go_num, by omega, by rw [HS.out, List.length_append, ← Hs.out, HXX.out], by omega, HW.out⟩
        case measure => simp [intOf]; omega
    · obtain rfl : k = n := by omega
      obtain ⟨ps, hps⟩ : ∃ ps, ps = xss.flatten := ⟨_, rfl⟩
      have hlp : ps.length = s := by rw [hps, Hs.out, List.take_of_length_le (by rw [HXL.out]; omega)]
      have G : Hid (sealG ps = (sealB ps, 0)) := Lib.hid (sealG_ok hlp (by omega))
      have HPS := Lib.hid hps
      have HLP := Lib.hid hlp
      rw [← hps]
      clear hps hlp Hs
      have hx0 : RdL (w.drewN q) A k xss := hx.drewN q
      have hb0 : Below base w (w.drewN q) := by rw [Hw.out]; exact below_drewN (Below.refl _ _) q
      obtain ⟨W, hW⟩ : ∃ W, W = w.drewN q := ⟨_, rfl⟩
      rw [← hW] at hx0 hb0 ⊢
      clear hW hx
      go_wp2_with fail
      refine (word_any s _ (by omega)).mono ?_
      rintro e w1 ⟨rfl, hb1⟩
      have hx1 := hx0.below hb1
      have hb1 : Below base w w1 := hb0.trans (hb1.mono (by have := hb0.size; have := Hw.out; omega))
      clear hx0 hb0
      have hbw1 : base ≤ w1.heap.size := by have := hb1.size; have := Hw.out; omega
      obtain ⟨W2, hW2⟩ : ∃ W2, W2 = (w1.alloc (.cells zero4 240)).setRow w1.heap.size ((fourB s).map cv).toArray := ⟨_, rfl⟩
      have r2 : W2.heap[w1.heap.size]? = some (.cells ((fourB s).map cv).toArray 240 (0, 0)) := by rw [hW2]; exact setRow_heap _ _ _ _ _ _ (heap_alloc_new _ _)
      have hz2 : W2.heap.size = w1.heap.size + 1 := by rw [hW2, setRow_size]; simp
      have hb12 : Below w1.heap.size w1 W2 := by rw [hW2]; exact below_setRow ((Below.refl _ _).alloc (Nat.le_refl _) _) (Nat.le_refl _) _
      obtain ⟨vs, hv0, hv2, hv3⟩ := hx1.vals
      have hv1 := hv0.below hb12
      have HV2 := Lib.hid hv2
      have HV3 := Lib.hid hv3
      have HZ2 := Lib.hid hz2
      have HR2 := Lib.hid r2
      have HW2 := Lib.hid hW2
      clear hv2 hv3 hz2 r2 hW2 hv0
      go_wp2_with (first
        | (refine wpList_store_row rfl _ _ _ rfl w1.heap.size ((fourB s).map cv).toArray rfl rfl 240 zero4 (heap_alloc_new _ _) info_four rfl (four_cells s) ?_; rw [← HW2.out])
        | (at_builtin; refine wpList_appV _ rfl _ _ 99 rfl w1.heap.size 29 _ 24 Tryz.underlying99 info_sl rfl (some ⟨W2.heap.size, 0, none⟩) 1 1 [.slice (some ⟨w1.heap.size, 0, none⟩) 4 4] rfl (ownV_box W2 _ _ _ 1 rfl (by omega) hb12.size _ rfl _ rfl) A k c vs rfl (hv1.alloc _) HV3.out ?_ ?_ ?_ ?_))
      · unfold maxLen; omega
      · omega
      · simp; have := HZ2.out; omega
      intro B' d' w3 hB3 hg3 _
      have hb23 : Below w1.heap.size W2 w3 := ((Below.refl _ _).alloc (by have := HZ2.out; omega) _).grown hg3 (by simp; have := HZ2.out; omega) (fun k hk => by injection hk with hk; have := HZ2.out; simp only at hk; omega)
      have hb13 := hb12.trans hb23
      have hx3 := hx1.below hb13
      have r3 : w3.heap[w1.heap.size]? = some (.cells ((fourB s).map cv).toArray 240 (0, 0)) := by
        rw [hg3.block _ (by simp; have := HZ2.out; omega) (by intro e; injection e with e; have := HZ2.out; simp only at e; omega), heap_alloc_old _ _ (show w1.heap.size < W2.heap.size by have := HZ2.out; omega)]
        exact HR2.out
      have rd3 := Rd.row r3 (fourB_len s)
      have hL3 : RdL w3 B' (1 + k) (fourB s :: xss) := hB3.rd.rdl (by rw [List.length_cons, HXL.out]; omega) (fun i v x hv hx => by
        cases i with
        | zero =>
          simp at hv hx
          subst hv hx
          exact ⟨_, 4, 4, rfl, rd3, Nat.le_refl _, fun h => by cases h⟩
        | succ i =>
          simp at hv hx
          exact (HV2.out i v x hv hx).below hb13)
      have hb3 := hb1.trans (hb13.mono hbw1)
      have hbw3 : base ≤ w3.heap.size := by have := hb3.size; have := Hw.out; omega
      clear hb1 hx1 hb12 hv1 hB3 hg3 hb23 hb13 r3
      have hts : tot (fourB s :: xss) ≤ 1099511627776 := by simp only [tot, fourB_len]; omega
      go_wp2_with fail
      refine (Sum_any B' (1 + k) d' (fourB s :: xss) _ hL3 hts).mono ?_
      rintro e w4 ⟨rfl, hb4⟩
      obtain ⟨z, hz⟩ : ∃ z, z = crcB (fourB s :: xss).flatten := ⟨_, rfl⟩
      have hz32 : z < 4294967296 := by rw [hz]; exact crcB_lt _
      have HZ : Hid (z = crcB (fourB s ++ ps)) := Lib.hid (by rw [hz, List.flatten_cons, HPS.out])
      rw [← hz]
      clear hz
      have rd4 := rd3.below hb4
      have hx4 := hx3.below hb4
      have hb4 : Below base w w4 := hb3.trans (hb4.mono hbw3)
      have hbw4 : base ≤ w4.heap.size := by have := hb4.size; have := Hw.out; omega
      clear rd3 hx3 hb3 hL3
      go_wp2_with fail
      refine (word_any z _ hz32).mono ?_
      rintro e w5 ⟨rfl, hb5⟩
      have rd5 := rd4.below hb5
      have hx5 := hx4.below hb5
      have hb5 : Below base w w5 := hb4.trans (hb5.mono hbw4)
      have hbw5 : base ≤ w5.heap.size := by have := hb5.size; have := Hw.out; omega
      clear rd4 hx4 hb4
      obtain ⟨W6, hW6⟩ : ∃ W6, W6 = (w5.alloc (.cells zero4 240)).setRow w5.heap.size ((fourB z).map cv).toArray := ⟨_, rfl⟩
      have r6 : W6.heap[w5.heap.size]? = some (.cells ((fourB z).map cv).toArray 240 (0, 0)) := by rw [hW6]; exact setRow_heap _ _ _ _ _ _ (heap_alloc_new _ _)
      have hb56 : Below w5.heap.size w5 W6 := by rw [hW6]; exact below_setRow ((Below.refl _ _).alloc (Nat.le_refl _) _) (Nat.le_refl _) _
      have rz6 := Rd.row r6 (fourB_len z)
      have rd6 := rd5.below hb56
      have hx6 := hx5.below hb56
      have hb6 : Below base w W6 := hb5.trans (hb56.mono hbw5)
      have hbw6 : base ≤ W6.heap.size := by have := hb6.size; have := Hw.out; omega
      have HW6 := Lib.hid hW6
      have HR6 := Lib.hid r6
      clear hW6 r6 hb56 rd5 hx5 hb5
      go_wp2_with (first
        | (refine wpList_store_row rfl _ _ _ rfl w5.heap.size ((fourB z).map cv).toArray rfl rfl 240 zero4 (heap_alloc_new _ _) info_four rfl (four_cells z) ?_; rw [← HW6.out])
        | (at_make; refine wpList_mk _ rfl _ _ 29 rfl W6.heap.size 5 Tryz.underlying29 info_u8 _ (8 + s) rfl rfl (by omega) (by omega) (Nat.le_refl _) ?_))
      intro A7 w7 ho7 hb7
      have rd7 := rd6.below hb7
      have rz7 := rz6.below hb7
      have hx7 := hx6.below hb7
      go_wp2_with (at_builtin; refine wpList_app w7 rfl (.tmp 40) (.tmp 41) 29 rfl W6.heap.size 5 Tryz.underlying29 info_u8 A7 0 (8 + s) [] rfl ho7 (some ⟨w1.heap.size, 0, none⟩) 4 4 (fourB s) rfl rd7 ?_ ?_ ?_)
      · omega
      · exact hb7.size
      intro A8 c8 w8 ho8 hb8
      have hb8 : Below W6.heap.size W6 w8 := hb7.trans hb8
      have rz8 := rz6.below hb8
      have hx8 := hx6.below hb8
      clear rd7 rz7 hx7 hb7 ho7
      go_wp2_with (at_builtin; refine wpList_app w8 rfl (.tmp 43) (.tmp 44) 29 rfl W6.heap.size 5 Tryz.underlying29 info_u8 A8 4 c8 (fourB s) rfl ho8 (some ⟨w5.heap.size, 0, none⟩) 4 4 (fourB z) rfl rz8 ?_ ?_ ?_)
      · omega
      · exact hb8.size
      intro A9 c9 w9 ho9 hb9
      have hb9 : Below W6.heap.size W6 w9 := hb8.trans hb9
      have HO9 := Lib.hid ho9
      clear rz8 hx8 hb8 ho8 ho9
      go_wp2
      go_loopw [9, 48] (fun v i wr => ∃ (P : Option Addr) (m d j : Nat), v = .slice P m d ∧ i = .int .i64 j ∧ j ≤ k ∧ Own 5 wr W6.heap.size P m d ((fourB s ++ fourB z) ++ (xss.take j).flatten) ∧ m ≤ 8 + tot (xss.take j) ∧ Below W6.heap.size W6 wr) (fun _ i _ => k - (intOf i).toNat)
      case atStart => exact ⟨A9, 4 + 4, c9, 0, rfl, rfl, Nat.zero_le _, by rw [List.take_zero, List.flatten_nil, List.append_nil]; exact HO9.out, by omega, hb9⟩
      case round =>
        clear hb9
        obtain ⟨P, m, d, j, rfl, rfl, hj, op, hm, hb9⟩ := hrel
        have hbs := hb9.size
        by_cases hjk : j < k
        · obtain ⟨b, off, rfl, hbl⟩ := hx6.pos (by omega)
          obtain ⟨x, X, nx, cx, hk1, hc0, rx0, hxc, _⟩ := hx6.at_ j hjk
          have hc := (hb9.cell (p := ⟨b, off + j, none⟩) hbl).trans hc0
          have rx := rx0.below hb9
          have hts := tot_snoc hk1
          have htk := tot_take xss (j + 1)
          have hmt : m + nx + 1 ≤ 8 + tot (xss.take (j + 1)) := by have := rx.len; omega
          have HS := Lib.hid (flat_snoc hk1)
          clear hk1 hc0 hbl hts
          go_wp2_with (at_builtin; refine wpList_app wr rfl (.tmp 52) (.tmp 53) 29 rfl W6.heap.size 5 Tryz.underlying29 info_u8 P m d _ rfl op X nx cx x rfl rx ?_ ?_ ?_)
          · omega
          · exact hbs
          intro A' c' w' h1 h2
          have H1 := Lib.hid h1
          have H2 := Lib.hid h2
          clear h1 h2 op
          go_wp2
          go_roundw
          case rel => exact ⟨A', m + nx, c', j + 1, rfl, by go_num, by omega, by rw [HS.out, ← List.append_assoc]; exact H1.out, by omega, hb9.trans H2.out⟩
          case measure => simp [intOf]; omega
        · obtain rfl : j = k := by omega
          have HB : Hid (Below base w wr) := Lib.hid (hb6.trans (hb9.mono hbw6))
          go_wp2
          go_ret2
          rw [← HPS.out]
          refine ⟨P, m, d, by rw [G.out]; rfl, ?_, HB.out⟩
          rw [G.out]
          have h9 : sealB ps = (fourB s ++ fourB z) ++ ps := by rw [sealB, HLP.out, HZ.out, List.append_assoc]
          rw [List.take_of_length_le (by rw [HXL.out]; omega), ← HPS.out, ← h9] at op
          exact op.mono hbw6
end Go.Proofs.YtbgelbdnkbhffaaGreat
namespace Go.Proofs.YtbgelbdnkbhffaaGreat
open Go Go.RowKit Go.Maps

abbrev DU := DataW Unit
/-- A text as the model has it. -/
def tx (l : List UInt8) : ByteArray := ⟨l.toArray⟩
theorem tx_list (l : List UInt8) : (tx l).data.toList = l := by simp [tx]
theorem tx_size (l : List UInt8) : (tx l).size = l.length := by rw [← tx_list l]; simp [tx, ByteArray.size]
theorem tx_of (s : ByteArray) : tx s.data.toList = s := by cases s; simp [tx]
theorem lawN : Keyed Tryz.prog 9 := string_keyed Tryz.underlying9
theorem keyN {x : List UInt8} (h : x.length ≤ maxLen) : keyOf Tryz.prog 9 (.string (tx x)) = some (.string x) := by
  have := WideMaps.keyOf_string_mk Tryz.underlying9 (s := tx x) (by rw [tx_size]; exact h)
  rw [tx_list] at this
  exact this
theorem keyN_inv (key : Value) (kl : Lit) (h : keyOf Tryz.prog 9 key = some kl) : ∃ x : ByteArray, key = .string x := by
  obtain ⟨s, h1, _⟩ := WideMaps.string_of_keyOf Tryz.underlying9 h
  exact ⟨s, h1⟩
/-- How a pointer to a file reads: its block's number. -/
def ptrEl : Value → Option (DU × List MemPlace)
  | .pointer (some ⟨b, 0, none⟩) => some (.lit (.int .i64 (b : Int)), [])
  | .pointer none => some (.nil, [])
  | _ => none
theorem ptrEl_some (b : Nat) : ptrEl (.pointer (some ⟨b, 0, none⟩)) = some (.lit (.int .i64 (b : Int)), []) := rfl
theorem ptrEl_none : ptrEl (.pointer none) = some (.nil, []) := rfl
theorem ptrEl_inv (v : Value) (y : DU × List MemPlace) (h : ptrEl v = some y) : ∃ p : Option Nat, v = .pointer (p.map fun b => ⟨b, 0, none⟩) := by
  unfold ptrEl at h
  split at h
  · next b => exact ⟨some b, rfl⟩
  · exact ⟨none, rfl⟩
  · cases h
theorem ptrEl_at {v : Value} {b : Nat} {ps : List MemPlace} (h : ptrEl v = some (.lit (.int .i64 (b : Int)), ps)) : v = .pointer (some ⟨b, 0, none⟩) := by
  obtain ⟨p, rfl⟩ := ptrEl_inv v _ h
  cases p with
  | none => cases h
  | some c =>
    have h1 : (some (DataW.lit (.int .i64 (c : Int)), ([] : List MemPlace)) : Option (DU × List MemPlace)) = some (.lit (.int .i64 (b : Int)), ps) := h
    simp only [Option.some.injEq, Prod.mk.injEq, DataW.lit.injEq, Lit.int.injEq, true_and] at h1
    have : c = b := by omega
    rw [this]
    rfl
theorem ptrEl_nil {v : Value} {ps : List MemPlace} (h : ptrEl v = some (.nil, ps)) : v = .pointer none := by
  obtain ⟨p, rfl⟩ := ptrEl_inv v _ h
  cases p with
  | none => rfl
  | some c => cases h
theorem zeroP (w : World) : (zeroValue 133).run Tryz.prog w = .ok (.pointer none) w := by kernel_rfl

/-- A file: its name, its bytes, how many are safe; its block; where its bytes lie, and in how much room. -/
structure FR where
  name : List UInt8
  dat : List UInt8
  saf : Nat
  fb : Nat
  A : Option Addr
  c : Nat

def FR.bl (r : FR) : List Nat := r.fb :: (blk r.A).toList
def FR.val (r : FR) : List UInt8 × List UInt8 × Nat := (r.name, r.dat, r.saf)
/-- 'The file lies in memory so.' -/
def FileAt (w : World) (r : FR) : Prop :=
  w.heap[r.fb]? = some (.cells #[.slice r.A r.dat.length r.c, .int .i64 (r.saf : Int)] 137 (0, 0)) ∧ Own 5 w 0 r.A r.dat.length r.c r.dat ∧ r.saf ≤ r.dat.length
/-- 'The map reads as these files.' -/
def MR (Dm : DU) (rs : List FR) : Prop :=
  Maps.size Dm = rs.length ∧ (∀ x, has Dm (.string x) = rs.any (fun r => r.name == x)) ∧ ∀ r ∈ rs, ∀ z, Dm.atKey (.string r.name) z = .lit (.int .i64 (r.fb : Int))
def MapAt (w : World) (m : Option Nat) (rs : List FR) : Prop :=
  (m = none ∧ rs = []) ∨ ∃ b Dm, m = some b ∧ w.ownsMap Tryz.prog 9 ptrEl b rs.length Dm ∧ MR Dm rs
/-- All blocks of a disk. -/
def allB (p : Nat) (m : Option Nat) (rs : List FR) : List Nat := p :: (m.toList ++ rs.flatMap FR.bl)

/-- What a call may turn: some blocks, and new ones. -/
structure Fr (w w' : World) (bl : List Nat) : Prop where
  os : w'.os = w.os
  tape : w'.tape = w.tape
  output : w'.output = w.output
  size : w.heap.size ≤ w'.heap.size
  block : ∀ k, k < w.heap.size → k ∉ bl → w'.heap[k]? = w.heap[k]?

section
variable {w w' w2 : World} {bl bl2 : List Nat}
theorem Fr.refl (w : World) (bl : List Nat) : Fr w w bl := ⟨rfl, rfl, rfl, Nat.le_refl _, fun _ _ _ => rfl⟩
theorem Fr.of_below (h : Below w.heap.size w w') (bl : List Nat) : Fr w w' bl := ⟨h.os, h.tape, h.output, h.size, fun k hk _ => h.block k hk⟩
theorem Fr.of_grown {row : Option Nat} (h : w.grownBy w' row) (hr : ∀ b, row = some b → b ∈ bl) : Fr w w' bl :=
  ⟨h.os, h.tape, h.output, h.size, fun k hk hn => h.block k hk (fun e => hn (hr k e.symm))⟩
theorem Fr.trans (h : Fr w w' bl) (h2 : Fr w' w2 bl2) (hs : ∀ b ∈ bl2, b ∈ bl ∨ w.heap.size ≤ b) : Fr w w2 bl :=
  ⟨h2.os.trans h.os, h2.tape.trans h.tape, h2.output.trans h.output, Nat.le_trans h.size h2.size, fun k hk hn => by
    rw [h2.block k (Nat.lt_of_lt_of_le hk h.size) (fun hm => by rcases hs k hm with h1 | h1; exact hn h1; omega), h.block k hk hn]⟩
theorem Fr.mono (h : Fr w w' bl) (hs : ∀ b ∈ bl, b ∈ bl2 ∨ w.heap.size ≤ b) : Fr w w' bl2 :=
  ⟨h.os, h.tape, h.output, h.size, fun k hk hn => h.block k hk (fun hm => by rcases hs k hm with h1 | h1; exact hn h1; omega)⟩
theorem Fr.below {base : Nat} (h : Fr w w' bl) (hb : ∀ b ∈ bl, base ≤ b) (hs : base ≤ w.heap.size) : Below base w w' :=
  ⟨h.os, h.tape, h.output, h.size, fun k hk => h.block k (by omega) (fun hm => by have := hb k hm; omega)⟩
theorem Fr.drewN (h : Fr w w' bl) (q : Nat) : Fr w (w'.drewN q) bl := ⟨h.os, h.tape, h.output, h.size, h.block⟩
theorem Rd.fr {A : Option Addr} {n : Nat} {xs : List UInt8} (h : Rd w A n xs) (hf : Fr w w' bl) (ho : ∀ b, blk A = some b → b ∉ bl) : Rd w' A n xs := by
  refine ⟨h.1, fun hn => ?_⟩
  obtain ⟨b, off, rfl, h2, h3⟩ := h.2 hn
  refine ⟨b, off, rfl, Nat.lt_of_lt_of_le h2 hf.size, fun i x hx => ?_⟩
  have hb := hf.block b h2 (ho b rfl)
  exact (World.cell?_of_block (a := ⟨b, off + i, none⟩) hb).trans (h3 i x hx)
theorem Own.fr {e : TypeId} {base n c : Nat} {A : Option Addr} {xs : List UInt8} (h : Own e w base A n c xs) (hf : Fr w w' bl) (ho : ∀ b, blk A = some b → b ∉ bl) : Own e w' base A n c xs := by
  refine ⟨h.1, ?_⟩
  rcases h.2 with h1 | ⟨g, cap, cur, h1, h2, h3, h4⟩
  · exact .inl h1
  · injection h1 with h1 h5 h6
    subst h1 h6
    exact .inr ⟨g, _, cur, rfl, h2, (hf.block g (Array.getElem?_eq_some_iff.1 h3).1 (ho g rfl)).trans h3, h4⟩
theorem FileAt.fr {r : FR} (h : FileAt w r) (hf : Fr w w' bl) (ho : ∀ b ∈ r.bl, b ∉ bl) : FileAt w' r := by
  obtain ⟨h1, h2, h3⟩ := h
  refine ⟨(hf.block r.fb (Array.getElem?_eq_some_iff.1 h1).1 (ho _ (by simp [FR.bl]))).trans h1, h2.fr hf (fun b hb => ho b (by simp [FR.bl, hb])), h3⟩
theorem FileAt.lt {r : FR} (h : FileAt w r) : ∀ b ∈ r.bl, b < w.heap.size := fun b hb => by
  simp only [FR.bl, List.mem_cons, Option.mem_toList] at hb
  rcases hb with rfl | hb
  · exact (Array.getElem?_eq_some_iff.1 h.1).1
  · exact (h.2.1.lt b hb).2
theorem MapAt.fr {m : Option Nat} {rs : List FR} (h : MapAt w m rs) (hf : Fr w w' bl) (ho : ∀ b, m = some b → b ∉ bl) : MapAt w' m rs := by
  rcases h with h | ⟨b, Dm, rfl, ⟨es, clock, h1, h2⟩, h3⟩
  · exact .inl h
  · exact .inr ⟨b, Dm, rfl, ⟨es, clock, (hf.block b (Array.getElem?_eq_some_iff.1 h1).1 (ho b rfl)).trans h1, h2⟩, h3⟩
theorem MapAt.lt {m : Option Nat} {rs : List FR} (h : MapAt w m rs) : ∀ b, m = some b → b < w.heap.size := fun b hb => by
  rcases h with ⟨h, _⟩ | ⟨b', Dm, h, h1, _⟩
  · rw [h] at hb; cases hb
  · rw [h] at hb
    injection hb with hb
    rw [← hb]
    exact h1.lt
end
end Go.Proofs.YtbgelbdnkbhffaaGreat
namespace Go.Proofs.YtbgelbdnkbhffaaGreat
open Go Go.RowKit

/-- 'These four values are the entry e, whose bytes are the call's own.' -/
def EO (base : Nat) (w : World) (e : En) (v0 v1 v2 v3 : Value) : Prop :=
  ∃ K kn kc V vn vc, v0 = .slice K kn kc ∧ v1 = .int .u64 (e.seq : Int) ∧ v2 = .int .u8 (e.kind : Int) ∧ v3 = .slice V vn vc ∧ Own 5 w base K kn kc e.key ∧ Own 5 w base V vn vc e.val ∧ U64 e.seq ∧ e.kind < 256
def EOs (base : Nat) (w : World) : List En → List Value → Prop
  | [], vs => vs = []
  | e :: es, vs => ∃ v0 v1 v2 v3 r, vs = v0 :: v1 :: v2 :: v3 :: r ∧ EO base w e v0 v1 v2 v3 ∧ EOs base w es r
/-- 'None of these slices lies in that block.' -/
def OffW (vs : List Value) (b : Option Nat) : Prop := ∀ g, b = some g → ∀ A m c, Value.slice A m c ∈ vs → blk A ≠ some g
theorem OffW.app {a b : List Value} {o : Option Nat} (h1 : OffW a o) (h2 : OffW b o) : OffW (a ++ b) o := fun g hg A m c hv => by
  rcases List.mem_append.1 hv with h | h
  · exact h1 g hg A m c h
  · exact h2 g hg A m c h
theorem OffW.none (vs : List Value) : OffW vs none := fun g hg => by cases hg
theorem OffW.nil (o : Option Nat) : OffW [] o := fun g _ A m c h => by cases h
section
variable {base : Nat} {w w' : World} {e : En} {es : List En} {v0 v1 v2 v3 : Value} {vs : List Value}
theorem elb_own {n c : Nat} {A : Option Addr} {xs : List UInt8} (h : Own 5 w base A n c xs) : ElB w (.slice A n c) xs :=
  ⟨A, n, c, rfl, h.rd, h.cap.1, fun hA => (h.nil_of (by rw [hA]; rfl)).2.2⟩
theorem EO.ev (h : EO base w e v0 v1 v2 v3) : EV w e v0 v1 v2 v3 := by
  obtain ⟨K, kn, kc, V, vn, vc, rfl, rfl, rfl, rfl, h1, h2, h3, h4⟩ := h
  exact ⟨rfl, rfl, h3, h4, elb_own h1, elb_own h2⟩
theorem EO.below (h : EO base w e v0 v1 v2 v3) (hb : Below w.heap.size w w') : EO base w' e v0 v1 v2 v3 := by
  obtain ⟨K, kn, kc, V, vn, vc, h0, h1, h2, h3, h4, h5, h6⟩ := h
  exact ⟨K, kn, kc, V, vn, vc, h0, h1, h2, h3, h4.below hb, h5.below hb, h6⟩
theorem EO.mono {base' : Nat} (h : EO base w e v0 v1 v2 v3) (hb : base' ≤ base) : EO base' w e v0 v1 v2 v3 := by
  obtain ⟨K, kn, kc, V, vn, vc, h0, h1, h2, h3, h4, h5, h6⟩ := h
  exact ⟨K, kn, kc, V, vn, vc, h0, h1, h2, h3, h4.mono hb, h5.mono hb, h6⟩
theorem EO.kept {row : Option Nat} (h : EO base w e v0 v1 v2 v3) (hg : w.grownBy w' row) (ho : OffW [v0, v1, v2, v3] row) : EO base w' e v0 v1 v2 v3 := by
  obtain ⟨K, kn, kc, V, vn, vc, rfl, rfl, rfl, rfl, h4, h5, h6⟩ := h
  exact ⟨K, kn, kc, V, vn, vc, rfl, rfl, rfl, rfl, h4.kept hg (fun b hb he => ho b he K kn kc (by simp) hb), h5.kept hg (fun b hb he => ho b he V vn vc (by simp) hb), h6⟩
/-- The blocks of an entry's slices. -/
theorem EO.lt (h : EO base w e v0 v1 v2 v3) {A : Option Addr} {m c g : Nat} (hv : Value.slice A m c ∈ [v0, v1, v2, v3]) (hg : blk A = some g) : base ≤ g ∧ g < w.heap.size := by
  obtain ⟨K, kn, kc, V, vn, vc, rfl, rfl, rfl, rfl, h4, h5, h6⟩ := h
  simp only [List.mem_cons, List.not_mem_nil, or_false] at hv
  rcases hv with e | e | e | e
  · injection e with e1 e2 e3; subst e1; exact h4.lt g hg
  · cases e
  · cases e
  · injection e with e1 e2 e3; subst e1; exact h5.lt g hg
theorem EO.off (h : EO base w e v0 v1 v2 v3) {o : Option Nat} (ho : ∀ g, o = some g → g < base ∨ w.heap.size ≤ g) : OffW [v0, v1, v2, v3] o := fun g hg A m c hv he => by
  have h1 := h.lt hv he
  rcases ho g hg with h2 | h2 <;> omega
theorem EOs.evs : ∀ {es : List En} {vs : List Value}, EOs base w es vs → EVs w es vs
  | [], _, h => h
  | _ :: _, _, ⟨v0, v1, v2, v3, r, e, h1, h2⟩ => ⟨v0, v1, v2, v3, r, e, h1.ev, EOs.evs h2⟩
theorem EOs.below (hb : Below w.heap.size w w') : ∀ {es : List En} {vs : List Value}, EOs base w es vs → EOs base w' es vs
  | [], _, h => h
  | _ :: _, _, ⟨v0, v1, v2, v3, r, e, h1, h2⟩ => ⟨v0, v1, v2, v3, r, e, h1.below hb, EOs.below hb h2⟩
theorem EOs.mono {base' : Nat} (hb : base' ≤ base) : ∀ {es : List En} {vs : List Value}, EOs base w es vs → EOs base' w es vs
  | [], _, h => h
  | _ :: _, _, ⟨v0, v1, v2, v3, r, e, h1, h2⟩ => ⟨v0, v1, v2, v3, r, e, h1.mono hb, EOs.mono hb h2⟩
theorem EOs.app : ∀ {es gs : List En} {vs us : List Value}, EOs base w es vs → EOs base w gs us → EOs base w (es ++ gs) (vs ++ us)
  | [], _, _, _, h, h2 => by rw [h]; exact h2
  | _ :: _, _, _, _, ⟨v0, v1, v2, v3, r, e, h1, h2⟩, h3 => ⟨v0, v1, v2, v3, _, by rw [e]; rfl, h1, EOs.app h2 h3⟩
theorem EOs.one (h : EO base w e v0 v1 v2 v3) : EOs base w [e] [v0, v1, v2, v3] := ⟨v0, v1, v2, v3, [], rfl, h, rfl⟩
theorem EOs.kept {row : Option Nat} (hg : w.grownBy w' row) : ∀ {es : List En} {vs : List Value}, EOs base w es vs → OffW vs row → EOs base w' es vs
  | [], _, h, _ => h
  | _ :: _, _, ⟨v0, v1, v2, v3, r, e, h1, h2⟩, ho => ⟨v0, v1, v2, v3, r, e, h1.kept hg (fun g hg2 A m c hv => ho g hg2 A m c (by rw [e]; simp at hv ⊢; rcases hv with h | h | h | h <;> simp [h])), EOs.kept hg h2 (fun g hg2 A m c hv => ho g hg2 A m c (by rw [e]; simp [hv]))⟩
theorem EOs.lt : ∀ {es : List En} {vs : List Value}, EOs base w es vs → ∀ {A : Option Addr} {m c g : Nat}, Value.slice A m c ∈ vs → blk A = some g → base ≤ g ∧ g < w.heap.size
  | [], _, h, _, _, _, _, hv, _ => by rw [h] at hv; cases hv
  | _ :: _, _, ⟨v0, v1, v2, v3, r, e, h1, h2⟩, A, m, c, g, hv, hg => by
    rw [e] at hv
    have hv2 : Value.slice A m c ∈ [v0, v1, v2, v3] ∨ Value.slice A m c ∈ r := by
      simp only [List.mem_cons, List.not_mem_nil, or_false] at hv ⊢
      rcases hv with h | h | h | h | h
      · exact .inl (.inl h)
      · exact .inl (.inr (.inl h))
      · exact .inl (.inr (.inr (.inl h)))
      · exact .inl (.inr (.inr (.inr h)))
      · exact .inr h
    rcases hv2 with h | h
    · exact h1.lt h hg
    · exact EOs.lt h2 h hg
end
/-- 'A row of entries of the call's own.' -/
def OwnE (w : World) (base : Nat) (A : Option Addr) (n c : Nat) (vs : List Value) : Prop := w.ownsRow base 49 4 (.slice A n c) n vs
section
variable {w w' : World} {base n c : Nat} {A : Option Addr} {vs : List Value}
theorem OwnE.rd (h : OwnE w base A n c vs) : RdV w A (n * 4) vs := by
  refine ⟨by have := h.1; simpa [Nat.mul_comm] using this, fun hn => ?_⟩
  rcases h.2 with ⟨_, h2⟩ | ⟨g, cap, cur, h1, _, hg, _⟩
  · omega
  · injection h1 with h1
    subst h1
    refine ⟨g, 0, rfl, (Array.getElem?_eq_some_iff.1 hg).1, fun i x hx => ?_⟩
    have := World.ownsRow.cells h (g := g) rfl i _ hx
    simpa [Addr.add_lit] using this
theorem OwnE.cap (h : OwnE w base A n c vs) : n ≤ c ∧ c ≤ maxLen := by
  rcases h.2 with ⟨h1, h2⟩ | ⟨g, cap, cur, h1, _, _, h2, h3, _⟩
  · injection h1 with h1 h2 h3
    subst h2 h3
    unfold maxLen
    omega
  · injection h1 with _ _ h4
    subst h4
    exact ⟨h2, h3⟩
theorem OwnE.lt (h : OwnE w base A n c vs) (b : Nat) (hb : blk A = some b) : base ≤ b ∧ b < w.heap.size := World.ownsRow.lt h b (by rw [own_blk]; exact hb)
theorem OwnE.zero (w : World) : OwnE (w.alloc (.cells #[] 49)) w.heap.size (some ⟨w.heap.size, 0, none⟩) 0 0 [] :=
  ⟨rfl, .inr ⟨w.heap.size, 0, #[], rfl, Nat.le_refl _, heap_alloc_new w _, Nat.le_refl _, by unfold maxLen; omega, rfl, rfl⟩⟩
theorem OwnE.nil (w : World) (base : Nat) : OwnE w base none 0 0 [] := World.ownsRow_nil _ _ _ _
theorem OwnE.below (h : OwnE w base A n c vs) (hb : Below w.heap.size w w') : OwnE w' base A n c vs := by
  refine ⟨h.1, ?_⟩
  rcases h.2 with h1 | ⟨g, cap, cur, h1, h2, h3, h4⟩
  · exact .inl h1
  · exact .inr ⟨g, cap, cur, h1, h2, (hb.block g (Array.getElem?_eq_some_iff.1 h3).1).trans h3, h4⟩
theorem OwnE.nil_of (h : OwnE w base A n c vs) (hA : A = none) : c = 0 := by
  subst hA
  rcases h.2 with ⟨h1, _⟩ | ⟨g, cap, cur, h1, _⟩
  · injection h1
  · injection h1 with h1; cases h1
end
theorem info_ent : (Tryz.prog.info? 49).map (fun i => (i.zero, i.size, i.bytes)) = some (some (.agg #[.slice none 0 0, .int .u64 0, .int .u8 0, .slice none 0 0]), 4, 64) := by kernel_rfl
/-- Entries that are read, appended onto a row of the call's own. -/
theorem wpList_app4 {P : Program} (w : World) {ops : Array Oper} {rest : List Oper} {o : Oper} {a : Act} {Q : Exit → Act → World → Prop} (hgd : o.guard = none) (s x : Operand) (tt : TypeId)
    (ho : o.op = .call { callee := .builtin .append, args := #[s, x], argTypes := #[tt, tt] })
    (base : Nat) (z : Value) (by_ : Nat) (ht : P.underlying tt = some (.slice 49)) (hi : (P.info? 49).map (fun i => (i.zero, i.size, i.bytes)) = some (some z, 4, by_)) (hz1 : z.cells.size = 4)
    (A : Option Addr) (n c : Nat) (vs : List Value) (hs : a.eval s = .slice A n c) (hown : OwnE w base A n c vs)
    (B : Option Addr) (m d : Nat) (us : List Value) (hx : a.eval x = .slice B m d) (hr : RdV w B (m * 4) us) (hone : ∀ u ∈ us, u.oneCell' = true)
    (hn : n + m ≤ 2199023255552) (hby : by_ ≤ 64 := by omega) (hbase : base ≤ w.heap.size)
    (h : ∀ A' c' w', OwnE w' base A' (n + m) c' (vs ++ us) → w.grownBy w' (blk A) → Below base w w' → wpList P ops Q rest (a.put o.dst (.slice A' (n + m) c')) w') : wpList P ops Q (o :: rest) a w := by
  obtain ⟨i, hi, hz, hsz, hby2⟩ := info_parts hi
  have go : ∀ v' w', w'.ownsRow base 49 4 v' (n + m) (vs ++ us) → w.grownBy w' (Value.ownBlock (.slice A n c)) → wpList P ops Q rest (a.put o.dst v') w' := by
    intro v' w' h1 h2
    obtain ⟨A', c', rfl⟩ : ∃ A' c', v' = .slice A' (n + m) c' := by
      rcases h1.2 with ⟨h3, h4⟩ | ⟨g, cap, cur, h3, _⟩
      · exact ⟨none, 0, by rw [h3, h4]⟩
      · exact ⟨_, _, h3⟩
    exact h A' c' w' h1 (by rw [own_blk] at h2; exact h2) ((Below.refl _ _).grown h2 hbase (fun k hk => (World.ownsRow.lt hown k hk).1))
  rcases Nat.eq_zero_or_pos m with hm | hm
  · subst hm
    have hy : us = [] := List.eq_nil_of_length_eq_zero (by rw [hr.1])
    subst hy
    rcases B with _ | ad
    · exact wpList_app_none hgd s x tt ho base 49 i 4 ht hi (.slice A n c) n vs hs hown d hx (by simpa [OwnE] using go (.slice A n c) w (by simpa [OwnE] using hown) (World.grownBy.refl w _))
    · refine wpList_append_own w hgd s x tt ho base 49 i z 4 by_ ht hi hz hsz hby2 hz1 (by decide) (.slice A n c) n vs hs hown ad 0 d [] hx rfl (by simp) (by simp) (by unfold maxLen; omega) (Nat.le_trans (Nat.mul_le_mul_left _ hby) (by omega)) hbase ?_
      intro v' w' h1 h2 _
      exact go v' w' (by simpa using h1) h2
  · obtain ⟨b, off, rfl, _, hc⟩ := hr.2 (by omega)
    refine wpList_append_own w hgd s x tt ho base 49 i z 4 by_ ht hi hz hsz hby2 hz1 (by decide) (.slice A n c) n vs hs hown ⟨b, off, none⟩ m d us hx hr.1 (fun j u hj => by rw [Addr.add_lit]; exact hc j u hj) hone (by unfold maxLen; omega) (Nat.le_trans (Nat.mul_le_mul_left _ hby) (by omega)) hbase ?_
    intro v' w' h1 h2 _
    exact go v' w' h1 h2
/-- One entry more, out of a box of its own, appended onto a row of entries; whether the row stayed. -/
theorem wpList_app4t {P : Program} (w : World) {ops : Array Oper} {rest : List Oper} {o : Oper} {a : Act} {Q : Exit → Act → World → Prop} (hgd : o.guard = none) (s x : Operand) (tt : TypeId)
    (ho : o.op = .call { callee := .builtin .append, args := #[s, x], argTypes := #[tt, tt] })
    (base : Nat) (z : Value) (by_ : Nat) (ht : P.underlying tt = some (.slice 49)) (hi : (P.info? 49).map (fun i => (i.zero, i.size, i.bytes)) = some (some z, 4, by_)) (hz1 : z.cells.size = 4)
    (A : Option Addr) (n c : Nat) (vs : List Value) (hs : a.eval s = .slice A n c) (hown : OwnE w base A n c vs)
    (v0 v1 v2 v3 : Value) (hone : ∀ u ∈ [v0, v1, v2, v3], u.oneCell' = true) (g : Nat) (hg : g = w.heap.size) (hx : a.eval x = .slice (some ⟨g, 0, none⟩) 1 1)
    (hn : n ≤ 1099511627776) (hby : by_ ≤ 64 := by omega) (hbase : base ≤ w.heap.size)
    (h : ∀ A' c' w', OwnE w' base A' (n + 1) c' (vs ++ [v0, v1, v2, v3]) → w.grownBy w' (blk A) → (blk A' = blk A ∨ blk A' = some (w.heap.size + 1)) → wpList P ops Q rest (a.put o.dst (.slice A' (n + 1) c')) w') :
    wpList P ops Q (o :: rest) a (w.alloc (.cells #[v0, v1, v2, v3] 49)) := by
  subst hg
  obtain ⟨i, hi, hz, hsz, hby2⟩ := info_parts hi
  refine wpList_append_own_at (w := w.alloc (.cells #[v0, v1, v2, v3] 49)) hgd s x tt ho base 49 i z 4 by_ ht hi hz hsz hby2 hz1 (by decide) (.slice A n c) n vs hs (hown.below ((Below.refl _ _).alloc (Nat.le_refl _) _)) ⟨w.heap.size, 0, none⟩ 1 1 [v0, v1, v2, v3] hx rfl
    (fun j u hj => by rw [Addr.add_lit, (Cl.new w #[v0, v1, v2, v3] 49).cell (0 + j), Nat.zero_add]; simpa using hj) hone (by unfold maxLen; omega) (Nat.le_trans (Nat.mul_le_mul_left _ hby) (by omega)) (by simp; omega) ?_
  intro v' w' k1 k2 _ k3
  obtain ⟨A', c', rfl⟩ : ∃ A' c', v' = .slice A' (n + 1) c' := by
    rcases k1.2 with ⟨_, h4⟩ | ⟨g, cap, cur, h4, _⟩
    · omega
    · exact ⟨_, _, h4⟩
  rw [own_blk, own_blk] at k3
  rw [own_blk] at k2
  exact h A' c' w' k1 ((World.grownBy_alloc w _ _).trans k2) (by simpa using k3)

/-- The slices of entries, with what they hold. -/
def pairE : List En → List Value → List VB
  | e :: es, v0 :: _ :: _ :: v3 :: r => (v0, e.key) :: (v3, e.val) :: pairE es r
  | _, _ => []
theorem pairE_app {base : Nat} {w : World} {gs : List En} {us : List Value} : ∀ {es : List En} {vs : List Value}, EOs base w es vs → pairE (es ++ gs) (vs ++ us) = pairE es vs ++ pairE gs us
  | [], vs, h => by rw [h]; rfl
  | e :: es, vs, ⟨v0, v1, v2, v3, r, q, h1, h2⟩ => by
    rw [q]
    simp only [List.cons_append, pairE]
    rw [pairE_app h2]
theorem pairE_mem : ∀ {es : List En} {vs : List Value} {p : VB}, p ∈ pairE es vs → p.1 ∈ vs
  | e :: es, v0 :: v1 :: v2 :: v3 :: r, p, h => by
    unfold pairE at h
    simp only [List.mem_cons] at h ⊢
    rcases h with rfl | rfl | h
    · exact .inl rfl
    · exact .inr (.inr (.inr (.inl rfl)))
    · exact .inr (.inr (.inr (.inr (pairE_mem h))))
theorem fam_two {w : World} {base kn kc vn vc : Nat} {K V : Option Addr} {xs ys : List UInt8} (o1 : Own 5 w base K kn kc xs) (o2 : Own 5 w base V vn vc ys) (dj : Dj K V) : Fam w base [(.slice K kn kc, xs), (.slice V vn vc, ys)] := by
  refine ⟨fun p hp => ?_, List.pairwise_cons.2 ⟨fun q hq => ?_, List.pairwise_singleton _ _⟩⟩
  · simp only [List.mem_cons, List.not_mem_nil, or_false] at hp
    rcases hp with rfl | rfl
    · exact ⟨K, kn, kc, rfl, o1⟩
    · exact ⟨V, vn, vc, rfl, o2⟩
  · simp only [List.mem_singleton] at hq
    subst hq
    intro b h1 h2
    rw [own_blk] at h1 h2
    exact dj b h1 h2
/-- 'A row of entries that the call has made, their bytes its own; no two slices share memory.' -/
def RowE (W : World) (base : Nat) (L : Option Addr) (i d : Nat) (es : List En) (wr : World) : Prop :=
  ∃ vs, OwnE wr base L i d vs ∧ EOs base wr es vs ∧ OffW vs (blk L) ∧ es.length = i ∧ Below base W wr ∧ base ≤ wr.heap.size ∧ Fam wr base (pairE es vs)
section
variable {W wr w4 U : World} {base i d d' : Nat} {L L' : Option Addr} {es : List En} {e : En} {v0 v1 v2 v3 : Value} {vs : List Value}
theorem RowE.zero (W : World) (base : Nat) (hb : base ≤ W.heap.size) : RowE W base none 0 0 [] W := ⟨[], OwnE.nil _ _, rfl, OffW.nil _, rfl, Below.refl _ _, hb, Fam.nil _ _⟩
theorem RowE.below {w' : World} (h : RowE W base L i d es wr) (hb : Below wr.heap.size wr w') : RowE W base L i d es w' := by
  obtain ⟨vs, h1, h2, h3, h4, h5, h6, h7⟩ := h
  exact ⟨vs, h1.below hb, h2.below hb, h3, h4, h5.trans (hb.mono h6), Nat.le_trans h6 hb.size, h7.below hb⟩
theorem RowE.rd (h : RowE W base L i d es wr) : REs wr L i es := by
  obtain ⟨vs, h1, h2, h3, h4, h5⟩ := h
  exact REs.mk h2.evs h1.rd h4
theorem RowE.bel (h : RowE W base L i d es wr) : Below base W wr := by obtain ⟨vs, h1, h2, h3, h4, h5, h6, h7⟩ := h; exact h5
theorem RowE.size (h : RowE W base L i d es wr) : base ≤ wr.heap.size := by obtain ⟨vs, h1, h2, h3, h4, h5, h6, h7⟩ := h; exact h6
theorem RowE.cap (h : RowE W base L i d es wr) : i ≤ d ∧ d ≤ maxLen := by obtain ⟨vs, h1, _⟩ := h; exact h1.cap
theorem RowE.len (h : RowE W base L i d es wr) : es.length = i := by obtain ⟨vs, h1, h2, h3, h4, h5⟩ := h; exact h4
theorem RowE.lt (h : RowE W base L i d es wr) (b : Nat) (hb : blk L = some b) : base ≤ b ∧ b < wr.heap.size := by obtain ⟨vs, h1, _⟩ := h; exact h1.lt b hb
/-- One more. -/
theorem rowE_snoc (h1 : OwnE wr base L i d vs) (h2 : EOs base wr es vs) (h3 : OffW vs (blk L)) (hl : es.length = i) (hw : Below base W wr) (hs : base ≤ wr.heap.size) (h7 : Fam wr base (pairE es vs))
    (hU : Below wr.heap.size wr U) (hf : EO base U e v0 v1 v2 v3) (ho : OffW [v0, v1, v2, v3] (blk L)) (hfm : Fam U wr.heap.size [(v0, e.key), (v3, e.val)])
    (h4 : OwnE w4 base L' (i + 1) d' (vs ++ [v0, v1, v2, v3])) (hg : U.grownBy w4 (blk L)) (hb : blk L' = blk L ∨ blk L' = some (U.heap.size + 1)) : RowE W base L' (i + 1) d' (es ++ [e]) w4 := by
  have hus := hU.size
  have hgs := hg.size
  refine ⟨vs ++ [v0, v1, v2, v3], h4, (EOs.kept hg (h2.below hU) h3).app (EOs.one (hf.kept hg ho)), ?_, by simp [hl], (hw.trans (hU.mono hs)).grown hg (by omega) (fun k hk => (h1.lt k hk).1), by omega, ?_⟩
  · rcases hb with e | e
    · rw [e]
      exact h3.app ho
    · rw [e]
      intro g hg2 B m c hv2 hv3
      injection hg2 with hg2
      rcases List.mem_append.1 hv2 with hq | hq
      · have := EOs.lt h2 hq hv3
        omega
      · have := hf.lt hq hv3
        omega
  · rw [pairE_app h2]
    have k1 : Fam wr base (pairE es vs ++ []) := by rw [List.append_nil]; exact h7
    have k2 := Fam.ins k1 hfm hU (Nat.le_refl _) hs
    rw [List.append_nil] at k2
    refine k2.kept hg (fun b e p hp e2 => ?_)
    obtain ⟨A, m, c, q, _⟩ := k2.1 p hp
    have hm : Value.slice A m c ∈ vs ++ [v0, v1, v2, v3] := by
      rw [← q]
      rcases List.mem_append.1 hp with h | h
      · exact List.mem_append_left _ (pairE_mem h)
      · refine List.mem_append_right _ ?_
        simp only [List.mem_cons, List.not_mem_nil, or_false] at h
        rcases h with rfl | rfl
        · simp
        · simp
    rw [q, own_blk] at e2
    exact (h3.app ho) b e A m c hm e2
end
/-- What a list of entries that is made comes to. -/
def RetRow (w : World) (es : List En) (e : Ending) (w' : World) : Prop := ∃ L n c, e = .returned (.slice L n c) ∧ RowE w w.heap.size L n c es w'
section
variable {w : World} {A : Option Addr} {n c : Nat} {es : List En}
set_option maxRecDepth 100000 in
set_option maxHeartbeats 4000000 in
theorem Twins_any (h : REs w A n es) (hn : n ≤ 1099511627776) (hs : ∀ x ∈ es, SzE x) : Calls Tryz.prog 12 #[.slice A n c] w (RetRow w es) := by
  have HL := Lib.hid h.len
  have HS := Lib.hid hs
  clear hs
  go_enter Tryz.func12, Tryz.ntmps12
  go_wp2
  go_loopw [3, 4] (fun s3 s4 wr => ∃ (k d : Nat) (L : Option Addr), k ≤ n ∧ s4 = .int .i64 (k : Int) ∧ s3 = .slice L k d ∧ RowE w w.heap.size L k d (es.take k) wr) (fun _ s _ => n - (intOf s).toNat)
  case atStart => exact ⟨0, 0, none, Nat.zero_le _, rfl, rfl, RowE.zero _ _ (Nat.le_refl _)⟩
  case round =>
    obtain ⟨k, d, L, hk, rfl, rfl, hrow⟩ := hrel
    have HR := Lib.hid hrow
    have sw := hrow.size
    have hR : REs wr A n es := h.below hrow.bel
    clear hrow
    by_cases hlt : k < n
    · obtain ⟨b, off, rfl, hbl⟩ := hR.pos (by omega)
      obtain ⟨x, v0, v1, v2, v3, hx, m0, m1, m2, m3, hev⟩ := hR.at_ k hlt
      have HEV := Lib.hid hev
      have hsx := HS.out x (List.mem_of_getElem? hx)
      have hwf := hR.wf x (List.mem_of_getElem? hx)
      obtain ⟨K, kn, kc, V, vn, vc, rfl, rfl, rfl, rfl, _⟩ := hev.parts
      have HXK := Lib.hid hx
      clear hx hev hR
      go_wp2_with fail
      refine (Twin_any HEV.out hsx).mono ?_
      rintro e w2 ⟨K2, kn2, kc2, V2, vn2, vc2, rfl, o1, o2, b2, dj⟩
      obtain ⟨vs, q1, q2, q3, q4, q5, q6, q7⟩ := HR.out
      have HFM := Lib.hid (fam_two o1 o2 dj)
      have Q7 := Lib.hid q7
      have s2 := b2.size
      have HEO : Hid (EO w.heap.size w2 x (.slice K2 kn2 kc2) (.int .u64 (x.seq : Int)) (.int .u8 (x.kind : Int)) (.slice V2 vn2 vc2)) := Lib.hid ⟨K2, kn2, kc2, V2, vn2, vc2, rfl, rfl, rfl, rfl, o1.mono q6, o2.mono q6, hwf⟩
      have HOF : Hid (OffW [.slice K2 kn2 kc2, .int .u64 (x.seq : Int), .int .u8 (x.kind : Int), .slice V2 vn2 vc2] (blk L)) := Lib.hid (EO.off (base := wr.heap.size) (w := w2) (e := x) ⟨K2, kn2, kc2, V2, vn2, vc2, rfl, rfl, rfl, rfl, o1, o2, hwf⟩ (fun g hg => .inl (q1.lt g hg).2))
      have HB2 := Lib.hid b2
      have Q1 := Lib.hid q1
      have Q2 := Lib.hid q2
      have Q3 := Lib.hid q3
      have Q4 := Lib.hid q4
      have Q5 := Lib.hid q5
      have hcell : ∀ u ∈ [Value.slice K2 kn2 kc2, .int .u64 (x.seq : Int), .int .u8 (x.kind : Int), .slice V2 vn2 vc2], u.oneCell' = true := HEO.out.ev.cells
      have HCL := Lib.hid hcell
      clear o1 o2 b2 q1 q2 q3 q4 q5 q7 dj hcell m0 m1 m2 m3
      go_wp2_with (at_builtin; refine wpList_app4t w2 rfl _ _ 22 rfl w.heap.size _ 64 Tryz.underlying22 info_ent rfl L k d vs rfl (Q1.out.below HB2.out) _ _ _ _ HCL.out w2.heap.size rfl rfl ?_ ?_ ?_ ?_)
      · omega
      · omega
      · omega
      intro L2 d2 w4 hG4 hg4 hb4
      have HQ : Hid (RowE w w.heap.size L2 (k + 1) d2 (es.take (k + 1)) w4) := Lib.hid (by
        rw [List.take_add_one, HXK.out]
        exact rowE_snoc Q1.out Q2.out Q3.out Q4.out Q5.out q6 Q7.out HB2.out HEO.out HOF.out HFM.out hG4 hg4 hb4)
      clear hG4 hg4 hb4
      go_wp2
      go_roundw
      case rel => exact ⟨k + 1, d2, L2, by omega, by go_num, rfl, HQ.out⟩
      case measure => simp [intOf]; omega
    · obtain rfl : k = n := by omega
      have htk := take_all HL.out hlt
      rw [htk] at HR
      clear htk
      go_wp2
      go_ret
      exact ⟨L, k, d, rfl, HR.out⟩
end
end Go.Proofs.YtbgelbdnkbhffaaGreat
