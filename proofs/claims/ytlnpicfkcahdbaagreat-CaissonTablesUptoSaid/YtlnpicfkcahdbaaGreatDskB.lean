/- The program's Append: onto a file that is there; a full disk; a dead one. -/
import Derived.Test.YtlnpicfkcahdbaaGreatTr
import Derived.Test.YtlnpicfkcahdbaaGreatParts
import Derived.Deep.DeepCutAuto
import Derived.Deep.CutBlock
import Derived.Test.YtlnpicfkcahdbaaGreatEnA
import Derived.Deep.RegionLaw
import Derived.Test.YtlnpicfkcahdbaaGreatNext
import Derived.Deep.RegionHeld3
import Derived.RegionTactic
import Derived.BigRegion
import Derived.Laws.BitsLemmas
import Derived.Test.YtlnpicfkcahdbaaGreatLib
import Derived.Laws.Cover3
import Derived.Deep.RegionWith
import Derived.Test.YtlnpicfkcahdbaaGreatCl
import Derived.Deep.QuietTactic
import Derived.BigQuiet
import Derived.Laws.MakeOwn
import Derived.Lib.SmallJoins
namespace Go.Proofs.YtlnpicfkcahdbaaGreat
open Go Go.RowKit

/-- The next number, and where the reader is then. -/
def numR (xs : List UInt8) (s : Nat × Bool) : Nat × (Nat × Bool) :=
  if (getU xs (s.1 : Int)).2.2 = 0 then ((getU xs (s.1 : Int)).1, ((getU xs (s.1 : Int)).2.1.toNat, s.2)) else (0, (s.1, true))
/-- The next n bytes, and where the reader is then. -/
def takeR (xs : List UInt8) (n : Nat) (s : Nat × Bool) : List UInt8 × (Nat × Bool) :=
  if xs.length - s.1 < n then ([], (s.1, true)) else ((xs.drop s.1).take n, (s.1 + n, s.2))
theorem numR_le {xs : List UInt8} {s : Nat × Bool} (h : s.1 ≤ xs.length) : (numR xs s).2.1 ≤ xs.length ∧ (numR xs s).1 < B64 := by
  unfold numR
  split
  · rename_i e
    rcases hg : getU xs (s.1 : Int) with ⟨m, nx, e2⟩
    rw [hg] at e
    obtain ⟨k, rfl, h1, h2, h3⟩ := getU_err h hg e
    exact ⟨by simpa using h2, h3⟩
  · exact ⟨h, by unfold B64; omega⟩
theorem takeR_le {xs : List UInt8} {n : Nat} {s : Nat × Bool} (h : s.1 ≤ xs.length) : (takeR xs n s).2.1 ≤ xs.length ∧ (takeR xs n s).1.length ≤ n := by
  unfold takeR
  split
  · exact ⟨h, by simp⟩
  · simp only [List.length_take]
    exact ⟨by omega, by omega⟩
/-- 'The reader at p: these bytes, this place, bad or not.' -/
def Rdr (w : World) (p : Nat) (E : Option Addr) (en ec : Nat) (s : Nat × Bool) : Prop := Cl w p #[.slice E en ec, .int .i64 (s.1 : Int), .bool s.2] 254
def RetN (w : World) (p : Nat) (E : Option Addr) (en ec : Nat) (r : Nat × (Nat × Bool)) (e : Ending) (w' : World) : Prop :=
  e = .returned (.int .u64 (r.1 : Int)) ∧ Rdr w' p E en ec r.2 ∧ w.grownBy w' (some p)
theorem RetN.out {w : World} {p : Nat} {E : Option Addr} {en ec : Nat} {r : Nat × (Nat × Bool)} {e : Ending} {w' : World} (h : RetN w p E en ec r e w') : e = .returned (.int .u64 (r.1 : Int)) ∧ Rdr w' p E en ec r.2 ∧ w.grownBy w' (some p) := h
theorem grown_set1 (w : World) (p i : Nat) (v : Value) : w.grownBy (w.setCell ⟨p, i, none⟩ v) (some p) := by
  have h := (Below.refl p w).setCell (p := ⟨p, i, none⟩) (Nat.le_refl _) v
  refine ⟨h.os, h.tape, h.output, h.size, fun b _ hne => ?_⟩
  exact Below.heap_setCell w ⟨p, i, none⟩ v b (fun e => hne (by rw [e]))
theorem grown_drewN {w w' : World} {row : Option Nat} (h : w.grownBy w' row) (q : Nat) : w.grownBy (w'.drewN q) row := by
  obtain ⟨h1, h2, h3, h4, h5⟩ := h
  exact ⟨h1, h2, h3, h4, h5⟩
set_option maxRecDepth 100000 in
set_option maxHeartbeats 4000000 in
theorem number_any (w : World) (p : Nat) (E : Option Addr) (en ec : Nat) (xs : List UInt8) (a : Nat) (bd : Bool) (h : Rdr w p E en ec (a, bd)) (hr : Rd w E en xs) (ha : a ≤ en) (hn : en ≤ 1099511627776) (hc : en ≤ ec) :
    Calls Tryz.prog 214 #[.pointer (some ⟨p, 0, none⟩)] w (RetN w p E en ec (numR xs (a, bd))) := by
  have hcl : Cl w p #[.slice E en ec, .int .i64 (a : Int), .bool bd] 254 := h
  obtain ⟨c0, c1, c2, f0, f1, f2⟩ := hcl.c3
  rcases hg : getU xs (a : Int) with ⟨m, nx, ee⟩
  have HG : Hid (∀ wx q, wx = w.drewN q → Calls Tryz.prog 141 #[.slice E en ec, .int .i64 (a : Int)] wx (fun e w' => e = .returned (.tuple #[.int .u64 (m : Int), .int .i64 nx, .int .i64 ee]) ∧ w' = wx)) := Lib.hid (fun wx q hq => by
    subst hq
    have hG := GetU_any E en ec xs (a : Int) (w.drewN q) (hr.drewN q) (by omega) hc
    rw [hg] at hG
    exact hG.mono (fun e w' h => ⟨h.1, h.2.symm⟩))
  have HCL := Lib.hid hcl
  have hxl := hr.len
  by_cases he : ee = 0
  · obtain ⟨k, hk, h1, h2, h3⟩ := getU_err (by omega) hg he
    have hnum : numR xs (a, bd) = (m, (k, bd)) := by unfold numR; rw [hg, if_pos he, hk]; rfl
    subst he hk
    have HN := Lib.hid hnum
    clear h hr hg hcl hnum hxl
    go_enter Tryz.func214, Tryz.ntmps214
    go_wp2_with fail
    go_quiet ((go_at_call 141; exact Calls.quiet_of_same (HG.out _ _ rfl)))
    have hd := HCL.out.drewN nq
    obtain ⟨c0, c1, c2, f0, f1, f2⟩ := hd.c3
    have HD := Lib.hid (hd.set 1 (.int .i64 (k : Int)))
    have HGR := Lib.hid ((grown_drewN (World.grownBy.refl w (some p)) nq).trans (grown_set1 (w.drewN nq) p 1 (.int .i64 (k : Int))))
    clear hd
    go_wp2_with fail
    go_ret
    rw [HN.out]
    exact ⟨rfl, HD.out, HGR.out⟩
  · have hnum : numR xs (a, bd) = (0, (a, true)) := by unfold numR; rw [hg, if_neg he]
    have t1 : (ee == 0) = false := by simpa using he
    have HN := Lib.hid hnum
    clear h hr hg hcl hnum hxl
    go_enter Tryz.func214, Tryz.ntmps214
    go_wp2_with fail
    go_quiet ((go_at_call 141; exact Calls.quiet_of_same (HG.out _ _ rfl)))
    have hd := HCL.out.drewN nq
    obtain ⟨c0, c1, c2, f0, f1, f2⟩ := hd.c3
    have HD := Lib.hid (hd.set 2 (.bool true))
    have HGR := Lib.hid ((grown_drewN (World.grownBy.refl w (some p)) nq).trans (grown_set1 (w.drewN nq) p 2 (.bool true)))
    clear hd
    go_wp2_with fail
    go_ret
    rw [HN.out]
    exact ⟨rfl, HD.out, HGR.out⟩
/-- What take hands back: n bytes of what the reader reads, or none. -/
def RetT8 (w : World) (p : Nat) (E : Option Addr) (en ec : Nat) (xs : List UInt8) (r : List UInt8 × (Nat × Bool)) (e : Ending) (w' : World) : Prop :=
  ∃ B k d, e = .returned (.slice B k d) ∧ Rdr w' p E en ec r.2 ∧ w.grownBy w' (some p) ∧ k ≤ d ∧ (B = none → d = 0) ∧ r.1.length = k ∧ (∀ wx, Rd wx E en xs → Rd wx B k r.1) ∧ (blk B = none ∨ blk B = blk E)
set_option maxRecDepth 100000 in
set_option maxHeartbeats 4000000 in
theorem take_any (w : World) (p : Nat) (E : Option Addr) (en ec : Nat) (xs : List UInt8) (n a : Nat) (bd : Bool) (h : Rdr w p E en ec (a, bd)) (hl : xs.length = en) (ha : a ≤ en) (hn : en ≤ 1099511627776) (hc : en ≤ ec) (hnn : n < B64) (hnil : E = none → ec = 0) :
    Calls Tryz.prog 215 #[.pointer (some ⟨p, 0, none⟩), .int .u64 (n : Int)] w (RetT8 w p E en ec xs (takeR xs n (a, bd))) := by
  have hcl : Cl w p #[.slice E en ec, .int .i64 (a : Int), .bool bd] 254 := h
  obtain ⟨c0, c1, c2, f0, f1, f2⟩ := hcl.c3
  have HCL := Lib.hid hcl
  obtain ⟨z, hz⟩ : ∃ z, z = en - a := ⟨_, rfl⟩
  have e1 : IntKind.i64.wrap ((en : Int) - (a : Int)) = (z : Int) := by rw [IntWalk.i64_in _ (by omega)]; omega
  have e2 : IntKind.u64.wrap (z : Int) = (z : Int) := u64_nat z (by unfold B64; omega)
  unfold B64 at hnn
  have hz2 : z ≤ 1099511627776 := by omega
  by_cases hlt : z < n
  · have htk : takeR xs n (a, bd) = ([], (a, true)) := by unfold takeR; rw [if_pos (by simp only; omega)]
    have HT := Lib.hid htk
    clear h hcl htk hz
    go_enter Tryz.func215, Tryz.ntmps215
    go_wp2_with fail
    go_quiet (fail)
    have hd := HCL.out.drewN nq
    obtain ⟨c0, c1, c2, f0, f1, f2⟩ := hd.c3
    have HD := Lib.hid (hd.set 2 (.bool true))
    have HGR := Lib.hid ((grown_drewN (World.grownBy.refl w (some p)) nq).trans (grown_set1 (w.drewN nq) p 2 (.bool true)))
    clear hd
    go_wp2_with fail
    go_ret
    refine ⟨none, 0, 0, rfl, by rw [HT.out]; exact HD.out, HGR.out, Nat.le_refl _, fun _ => rfl, by rw [HT.out]; rfl, fun wx _ => by rw [HT.out]; exact Rd.nil _ _, .inl rfl⟩
  · obtain ⟨y, hy⟩ : ∃ y, y = a + n := ⟨_, rfl⟩
    have hye : y ≤ en := by omega
    have hay : a ≤ y := by omega
    have htk : takeR xs n (a, bd) = ((xs.drop a).take n, (y, bd)) := by unfold takeR; rw [if_neg (by simp only; omega), hy]
    have e3 : IntKind.i64.wrap (n : Int) = (n : Int) := IntWalk.i64_in _ (by omega)
    have e4 : IntKind.i64.wrap ((a : Int) + (n : Int)) = (y : Int) := by rw [IntWalk.i64_in _ (by omega)]; omega
    have hyn : y - a = n := by omega
    have hsl : ∀ W : World, (Instr.slice 28 (.slice E en ec) (some (.int .i64 (a : Int))) (some (.int .i64 (y : Int))) none).run Tryz.prog W = .ok (.slice (cutA E a ec) n (ec - a)) W := fun W => by
      have := cut_lh Tryz.underlying28 elem_bytes size_u8 E (n := en) (cap := ec) hay (by omega) W
      rw [hyn] at this
      exact this
    have hrd : ∀ wx, Rd wx E en xs → Rd wx (cutA E a ec) n ((xs.drop a).take n) := fun wx hw => by
      have := hw.cut hay hye hc
      rw [hyn, List.drop_take, hyn] at this
      exact this
    have hlen : ((xs.drop a).take n).length = n := by rw [List.length_take, List.length_drop]; omega
    have hcn : cutA E a ec = none → ec - a = 0 := fun hh => by
      unfold cutA at hh
      split at hh
      · omega
      · cases E with
        | none => have := hnil rfl; omega
        | some _ => cases hh
    have hblk : blk (cutA E a ec) = none ∨ blk (cutA E a ec) = blk E := by
      right
      unfold cutA
      split
      · rfl
      · cases E with
        | none => rfl
        | some ad =>
          simp only [Option.map_some, blk, Addr.add]
          split <;> rfl
    have hnd : n ≤ ec - a := by omega
    have HT := Lib.hid htk
    have HR := Lib.hid hrd
    have HLN := Lib.hid hlen
    have HCN := Lib.hid hcn
    have HBK := Lib.hid hblk
    have HDD := Lib.hid hnd
    clear h hcl htk hz hy hrd hlen hcn hblk hyn hnd
    go_enter Tryz.func215, Tryz.ntmps215
    go_wp2_with fail
    go_quiet (fail)
    have hd := HCL.out.drewN nq
    obtain ⟨c0, c1, c2, f0, f1, f2⟩ := hd.c3
    have hd2 := hd.set 1 (.int .i64 (y : Int))
    obtain ⟨W2, hW2⟩ : ∃ W2, W2 = (w.drewN nq).setCell ⟨p, 1, none⟩ (.int .i64 (y : Int)) := ⟨_, rfl⟩
    rw [← hW2] at hd2
    have hd3 : Cl W2 p #[.slice E en ec, .int .i64 (y : Int), .bool bd] 254 := hd2
    have HGR : Hid (w.grownBy W2 (some p)) := Lib.hid (by
      rw [hW2]
      exact (grown_drewN (World.grownBy.refl w (some p)) nq).trans (grown_set1 (w.drewN nq) p 1 (.int .i64 (y : Int))))
    have HW2 := Lib.hid hW2
    have HD := Lib.hid hd3
    clear hd hd2 hd3 hW2
    go_upto_region 6 with (fail)
    rw [← HW2.out]
    clear c0 c1 c2 f0 f1 f2
    obtain ⟨c0, c1, c2, f0, f1, f2⟩ := HD.out.c3
    go_quiet (fail)
    go_wp2_with fail
    go_ret
    exact ⟨cutA E a ec, n, ec - a, rfl, by rw [HT.out]; exact HD.out.drewN _, grown_drewN HGR.out _, HDD.out, HCN.out, by rw [HT.out]; exact HLN.out, fun wx hw => by rw [HT.out]; exact HR.out wx hw, HBK.out⟩
end Go.Proofs.YtlnpicfkcahdbaaGreat
namespace Go.Proofs.YtlnpicfkcahdbaaGreat
open Go Go.RowKit

theorem toNat_or {x y : Nat} (h1 : x < 256) (h2 : y < 256) : (UInt8.ofNat (x ||| y)).toNat = x ||| y := by
  have hor : x ||| y < 256 := Nat.or_lt_two_pow (n := 8) h1 h2
  generalize x ||| y = q at hor ⊢
  simp
  omega
theorem putB_mono {fs : List UInt8} {b d : Nat} (h : setB fs d = true) : setB (putB fs b) d = true := by
  rw [setB_eq] at h ⊢
  by_cases e : d / 8 = b / 8
  · by_cases hl : b / 8 < fs.length
    · have hp : 2 ^ (b % 8) < 256 := Nat.lt_of_lt_of_le (Nat.pow_lt_pow_right (by omega) (Nat.mod_lt b (by omega))) (by decide)
      unfold putB
      rw [e, List.getElem?_set_self hl, Option.getD_some, toNat_or (UInt8.toNat_lt _) hp, Nat.testBit_or]
      rw [e] at h
      rw [h]
      rfl
    · unfold putB
      rw [List.set_eq_of_length_le (by omega)]
      exact h
  · rw [putB_off (fun e2 => e e2.symm)]
    exact h
theorem putB_self {fs : List UInt8} {b : Nat} (hl : b / 8 < fs.length) : setB (putB fs b) b = true := by
  rw [setB_eq]
  have hp : 2 ^ (b % 8) < 256 := Nat.lt_of_lt_of_le (Nat.pow_lt_pow_right (by omega) (Nat.mod_lt b (by omega))) (by decide)
  unfold putB
  rw [List.getElem?_set_self hl, Option.getD_some, toNat_or (UInt8.toNat_lt _) hp, Nat.testBit_or, Nat.testBit_two_pow_self, Bool.or_true]
theorem puts_mono {d : Nat} : ∀ (l : List Nat) (fs : List UInt8), setB fs d = true → setB (l.foldl putB fs) d = true
  | [], _, h => h
  | b :: l, fs, h => by
    rw [List.foldl_cons]
    exact puts_mono l _ (putB_mono h)
theorem puts_mem {d : Nat} : ∀ (l : List Nat) (fs : List UInt8), d ∈ l → d / 8 < fs.length → setB (l.foldl putB fs) d = true
  | [], _, h, _ => by cases h
  | b :: l, fs, h, hl => by
    rw [List.foldl_cons]
    rcases List.mem_cons.1 h with rfl | h
    · exact puts_mono l _ (putB_self hl)
    · exact puts_mem l _ h (by rw [putB_len]; exact hl)
theorem fills_mono {m k d : Nat} : ∀ (keys : List (List UInt8)) (fs : List UInt8), setB fs d = true → setB (keys.foldl (fillB m k) fs) d = true
  | [], _, h => h
  | b :: l, fs, h => by
    rw [List.foldl_cons]
    exact fills_mono l _ (puts_mono _ _ h)
theorem fills_mem {m k : Nat} (hm : 0 < m) {key : List UInt8} {i : Nat} (hi : i < k) : ∀ (keys : List (List UInt8)) (fs : List UInt8), key ∈ keys → m ≤ 8 * fs.length → setB (keys.foldl (fillB m k) fs) (bitN key m i) = true
  | [], _, h, _ => by cases h
  | b :: l, fs, h, hl => by
    rw [List.foldl_cons]
    rcases List.mem_cons.1 h with rfl | h
    · exact fills_mono l _ (puts_mem _ _ (List.mem_map.2 ⟨i, List.mem_range.2 hi, rfl⟩) (by have := bitN_lt key hm i; omega))
    · exact fills_mem hm hi l _ h (by rw [fillB_len]; exact hl)
theorem filter_may {p : Nat} {xss : List (List UInt8)} {key : List UInt8} (h : key ∈ xss) : mayB (filterB p xss) key = (true, 0) := by
  obtain ⟨s, hs⟩ : ∃ s, s = ((if xss.length * p < 64 then 64 else xss.length * p) + 7) / 8 + 1 := ⟨_, rfl⟩
  obtain ⟨k, hk⟩ : ∃ k, k = min (max (p * 69 / 100) 1) 30 := ⟨_, rfl⟩
  have hs2 : 9 ≤ s := by rw [hs]; split <;> omega
  have hk2 : 1 ≤ k ∧ k ≤ 30 := by omega
  have hF : filterB p xss = buildB s k xss := by unfold filterB; rw [← hs, ← hk]
  have hl := buildB_len s k xss
  have hla := buildB_last (k := k) (show 2 ≤ s by omega) xss
  have h8 : (UInt8.ofNat k).toNat = k := by simp; omega
  have hgl : (buildB s k xss).getLast? = some (UInt8.ofNat k) := by rw [List.getLast?_eq_getElem?, hl, hla]
  have hg : goodB (buildB s k xss) = true := by
    unfold goodB
    rw [hgl, hl]
    simp only [h8]
    simp
    omega
  have hn : numB (buildB s k xss) = k := by
    unfold numB
    rw [hgl]
    exact h8
  have ha : allBt (buildB s k xss) key (8 * (s - 1)) = true := by
    unfold allBt
    rw [List.all_eq_true, hn]
    intro i hi
    exact fills_mem (by omega) (List.mem_range.1 hi) xss _ h (by simp; omega)
  unfold mayB
  rw [hF, hg, hl, ha]
  rfl
theorem filter_len2 {p : Nat} {xss : List (List UInt8)} (hq : xss.length * p ≤ 200000) : (filterB p xss).length ≤ 25001 := by
  unfold filterB
  rw [buildB_len]
  split <;> omega
theorem filter_len {p : Nat} {xss : List (List UInt8)} (hp : p ≤ 100) (hx : xss.length ≤ 200) : (filterB p xss).length ≤ 2501 := by
  have hq : xss.length * p ≤ 20000 := Nat.mul_le_mul hx hp
  unfold filterB
  rw [buildB_len]
  split <;> omega
theorem RdL.first {w : World} {A : Option Addr} {n : Nat} {xss : List (List UInt8)} (h : RdL w A n xss) (k : Nat) : RdL w A (min n k) (xss.take k) := by
  refine ⟨by rw [List.length_take, h.1]; omega, fun h0 => ?_⟩
  obtain ⟨b, off, h1, h2, h3⟩ := h.2 (by omega)
  refine ⟨b, off, h1, h2, fun i xs hi => h3 i xs ?_⟩
  rw [List.getElem?_take] at hi
  split at hi
  · exact hi
  · cases hi
end Go.Proofs.YtlnpicfkcahdbaaGreat
namespace Go.Proofs.YtlnpicfkcahdbaaGreat
open Go Go.RowKit

end Go.Proofs.YtlnpicfkcahdbaaGreat
namespace Go.Proofs.YtlnpicfkcahdbaaGreat
open Go Go.RowKit Go.Maps

abbrev FE := List UInt8 × List UInt8 × Nat
def usedF (fs : List FE) : Nat := (fs.map fun f => f.2.1.length).sum
def risingF (fs : List FE) : Prop := fs.Pairwise fun a b => a.1 < b.1
/-- The disk as plain data: files by rising names, room, armed with (-1: not), dead. -/
structure DS where
  fs : List FE
  room : Nat
  arm : Int
  dead : Bool

def Sp (a b : FR) : Prop := ∀ x ∈ a.bl, x ∉ b.bl
theorem Sp.symm {a b : FR} (h : Sp a b) : Sp b a := fun x h1 h2 => h x h2 h1
/-- 'No two blocks of the disk are the same.' -/
def SepR (p : Nat) (m : Option Nat) (rs : List FR) : Prop :=
  (∀ r ∈ rs, p ∉ r.bl ∧ (∀ b, m = some b → b ∉ r.bl) ∧ blk r.A ≠ some r.fb) ∧ (∀ b, m = some b → b ≠ p) ∧ rs.Pairwise Sp
def headV (m : Option Nat) (room used left : Int) (dead armed : Bool) : Array Value := #[.map m, .int .i64 room, .int .i64 used, .bool dead, .bool armed, .int .i64 left]
/-- The disk's blocks, written out. -/
def DskR (w : World) (p : Nat) (m : Option Nat) (rs : List FR) (room used left : Int) (dead armed : Bool) : Prop :=
  w.heap[p]? = some (.cells (headV m room used left dead armed) 108 (0, 0)) ∧ MapAt w m rs ∧ (∀ r ∈ rs, FileAt w r) ∧ SepR p m rs
section
variable {w w' : World} {p : Nat} {m : Option Nat} {rs : List FR} {room used left : Int} {dead armed : Bool} {bl : List Nat}
theorem DskR.head (h : DskR w p m rs room used left dead armed) : w.cell? ⟨p, 0, none⟩ = some (.map m) ∧ w.cell? ⟨p, 1, none⟩ = some (.int .i64 room) ∧ w.cell? ⟨p, 2, none⟩ = some (.int .i64 used) ∧ w.cell? ⟨p, 3, none⟩ = some (.bool dead) ∧ w.cell? ⟨p, 4, none⟩ = some (.bool armed) ∧ w.cell? ⟨p, 5, none⟩ = some (.int .i64 left) := by
  have hc := fun i => cell_of_row w p i _ _ _ h.1
  exact ⟨hc 0, hc 1, hc 2, hc 3, hc 4, hc 5⟩
theorem DskR.thaw (h : DskR w p m rs room used left dead armed) (i : Nat) : w.frozen? ⟨p, i, none⟩ = false := frozen_of_row w p i _ _ h.1
theorem FileAt.cells {r : FR} (h : FileAt w r) : w.cell? ⟨r.fb, 0, none⟩ = some (.slice r.A r.dat.length r.c) ∧ w.cell? ⟨r.fb, 1, none⟩ = some (.int .i64 (r.saf : Int)) := by
  have hc := fun i => cell_of_row w r.fb i _ _ _ h.1
  exact ⟨hc 0, hc 1⟩
theorem FileAt.thaw {r : FR} (h : FileAt w r) (i : Nat) : w.frozen? ⟨r.fb, i, none⟩ = false := frozen_of_row w r.fb i _ _ h.1
theorem DskR.lt (h : DskR w p m rs room used left dead armed) : ∀ b ∈ allB p m rs, b < w.heap.size := fun b hb => by
  simp only [allB, List.mem_cons, List.mem_append, Option.mem_toList, List.mem_flatMap] at hb
  rcases hb with rfl | hb | ⟨r, hr, hb⟩
  · exact (Array.getElem?_eq_some_iff.1 h.1).1
  · exact h.2.1.lt b hb
  · exact (h.2.2.1 r hr).lt b hb
theorem mem_head : p ∈ allB p m rs := by simp [allB]
theorem mem_map {b : Nat} (h : m = some b) : b ∈ allB p m rs := by simp [allB, h]
theorem mem_file {r : FR} (hr : r ∈ rs) {b : Nat} (hb : b ∈ r.bl) : b ∈ allB p m rs := by
  simp only [allB, List.mem_cons, List.mem_append, List.mem_flatMap]
  exact .inr (.inr ⟨r, hr, hb⟩)
theorem DskR.fr (h : DskR w p m rs room used left dead armed) (hf : Fr w w' bl) (ho : ∀ b ∈ allB p m rs, b ∉ bl) : DskR w' p m rs room used left dead armed :=
  ⟨(hf.block p (Array.getElem?_eq_some_iff.1 h.1).1 (ho p mem_head)).trans h.1, h.2.1.fr hf (fun b hb => ho b (mem_map hb)), fun r hr => (h.2.2.1 r hr).fr hf (fun b hb => ho b (mem_file hr hb)), h.2.2.2⟩
/-- The head turned. -/
theorem DskR.turn {room' used' left' : Int} {dead' armed' : Bool} (h : DskR w p m rs room used left dead armed) (hf : Fr w w' [p]) (hp : w'.heap[p]? = some (.cells (headV m room' used' left' dead' armed') 108 (0, 0))) :
    DskR w' p m rs room' used' left' dead' armed' := by
  obtain ⟨h1, h2, h3, h4⟩ := h
  refine ⟨hp, h2.fr hf (fun b hb hm => ?_), fun r hr => (h3 r hr).fr hf (fun b hb hm => ?_), h4⟩
  · rw [List.mem_singleton] at hm
    exact h4.2.1 b hb hm
  · rw [List.mem_singleton] at hm
    subst hm
    exact (h4.1 r hr).1 hb
end

theorem MapAt.look_some {w : World} {m : Option Nat} {rs : List FR} (h : MapAt w m rs) {r : FR} (hr : r ∈ rs) (hl : r.name.length ≤ maxLen) :
    (Instr.lookup 106 (.map m) (.string (tx r.name)) false).run Tryz.prog w = .ok (.pointer (some ⟨r.fb, 0, none⟩)) w := by
  rcases h with ⟨_, rfl⟩ | ⟨b, Dm, rfl, ho, hm⟩
  · cases hr
  · obtain ⟨v, ps, hrun, hv⟩ := ho.lookup (t := 106) (e := 115) lawN Tryz.underlying106 (zeroP w) ptrEl_none (keyN hl)
    rw [hm.2.2 r hr] at hv
    rw [ptrEl_at hv] at hrun
    exact hrun
theorem MapAt.look_none {w : World} {m : Option Nat} {rs : List FR} (h : MapAt w m rs) {x : List UInt8} (hx : ∀ r ∈ rs, r.name ≠ x) (hl : x.length ≤ maxLen) :
    (Instr.lookup 106 (.map m) (.string (tx x)) false).run Tryz.prog w = .ok (.pointer none) w := by
  rcases h with ⟨rfl, rfl⟩ | ⟨b, Dm, rfl, ho, hm⟩
  · exact Maps.look_nil false lawN Tryz.underlying106 (zeroP w) (keyN hl)
  · obtain ⟨v, ps, hrun, hv⟩ := ho.lookup (t := 106) (e := 115) lawN Tryz.underlying106 (zeroP w) ptrEl_none (keyN hl)
    have hn : has Dm (.string x) = false := by
      rw [hm.2.1, List.any_eq_false]
      intro r hr
      simpa using hx r hr
    rw [atKey_of_not_has hn] at hv
    rw [ptrEl_nil hv] at hrun
    exact hrun

set_option maxRecDepth 100000 in
set_option maxHeartbeats 1000000 in
theorem find_dead {w : World} {p : Nat} {m : Option Nat} {rs : List FR} {room used left : Int} {armed : Bool} (x : List UInt8) (h : DskR w p m rs room used left true armed) :
    Calls Tryz.prog 109 #[.pointer (some ⟨p, 0, none⟩), .string (tx x)] w fun e w' => e = .returned (.tuple #[.pointer none, .int .i64 9]) ∧ w = w' := by
  obtain ⟨c0, c1, c2, c3, c4, c5⟩ := h.head
  go_enter Tryz.func109, Tryz.ntmps109
  go_wp2
  go_ret2
  exact ⟨rfl, rfl⟩
set_option maxRecDepth 100000 in
set_option maxHeartbeats 1000000 in
theorem find_none {w : World} {p : Nat} {m : Option Nat} {rs : List FR} {room used left : Int} {armed : Bool} (x : List UInt8) (h : DskR w p m rs room used left false armed) (hx : ∀ r ∈ rs, r.name ≠ x) (hl : x.length ≤ maxLen) :
    Calls Tryz.prog 109 #[.pointer (some ⟨p, 0, none⟩), .string (tx x)] w fun e w' => e = .returned (.tuple #[.pointer none, .int .i64 6]) ∧ w = w' := by
  obtain ⟨c0, c1, c2, c3, c4, c5⟩ := h.head
  have hlk := h.2.1.look_none hx hl
  clear hx hl
  go_enter Tryz.func109, Tryz.ntmps109
  go_wp2
  go_ret2
  exact ⟨rfl, rfl⟩
set_option maxRecDepth 100000 in
set_option maxHeartbeats 1000000 in
theorem find_some {w : World} {p : Nat} {m : Option Nat} {rs : List FR} {room used left : Int} {armed : Bool} {r : FR} (h : DskR w p m rs room used left false armed) (hr : r ∈ rs) (hl : r.name.length ≤ maxLen) :
    Calls Tryz.prog 109 #[.pointer (some ⟨p, 0, none⟩), .string (tx r.name)] w fun e w' => e = .returned (.tuple #[.pointer (some ⟨r.fb, 0, none⟩), .int .i64 0]) ∧ w = w' := by
  obtain ⟨c0, c1, c2, c3, c4, c5⟩ := h.head
  have hlk := h.2.1.look_some hr hl
  clear hl
  go_enter Tryz.func109, Tryz.ntmps109
  go_wp2
  go_ret2
  exact ⟨rfl, rfl⟩
end Go.Proofs.YtlnpicfkcahdbaaGreat
namespace Go.Proofs.YtlnpicfkcahdbaaGreat
open Go Go.RowKit

/-- Where an entry goes in, from the end. -/
def posI (es : List En) (e : En) : Nat → Nat
  | 0 => 0
  | k + 1 => match es[k]? with
    | some x => if lessE e x then posI es e k else k + 1
    | none => k + 1
theorem posI_le (es : List En) (e : En) : ∀ k, posI es e k ≤ k
  | 0 => Nat.le_refl _
  | k + 1 => by
    unfold posI
    split
    · split
      · exact Nat.le_succ_of_le (posI_le es e k)
      · exact Nat.le_refl _
    · exact Nat.le_refl _
theorem posI_at {es : List En} {e x : En} {k : Nat} (h0 : 0 < k) (hx : es[k - 1]? = some x) : posI es e k = if lessE e x then posI es e (k - 1) else k := by
  obtain ⟨j, rfl⟩ : ∃ j, k = j + 1 := ⟨k - 1, by omega⟩
  rw [Nat.add_sub_cancel] at hx ⊢
  rw [posI, hx]
def cutA4 (A : Option Addr) (k cap : Nat) : Option Addr := if cap = k then A else A.map (·.add (k * 4))
theorem cut4_l {P : Program} {t e : TypeId} (ht : P.underlying t = some (.slice e)) (he : P.elem t = e) (hs : ∀ w, (sizeOf e).run P w = .ok 4 w)
    (A : Option Addr) {n cap k : Nat} (hk : k ≤ n) (w : World) :
    (Instr.slice t (.slice A n cap) (some (.int .i64 (k : Int))) none none).run P w = .ok (.slice (cutA4 A k cap) (n - k) (cap - k)) w := by
  subst he
  rw [run_slice_l w t A n cap ht .i64 (k : Int) (by omega) (by omega)]
  simp only [hs, Result.andThen, sliced, Int.toNat_natCast, cutA4]
theorem rdv_cut4 {w : World} {A : Option Addr} {n k m cap : Nat} {vs : List Value} (h : RdV w A (n * 4) vs) (hk : k ≤ m) (hm : m ≤ n) (hc : n ≤ cap) : RdV w (cutA4 A k cap) ((m - k) * 4) ((vs.take (m * 4)).drop (k * 4)) := by
  unfold cutA4
  refine ⟨by rw [List.length_drop, List.length_take, h.1]; omega, fun hn => ?_⟩
  obtain ⟨b, off, rfl, hb, hcell⟩ := h.2 (by omega)
  rw [if_neg (by omega)]
  refine ⟨b, off + k * 4, ?_, hb, fun i x hx => ?_⟩
  · simp only [Option.map_some, Addr.add]
    split
    · next h0 => rw [h0]; rfl
    · rfl
  · rw [Nat.add_assoc]
    refine hcell (k * 4 + i) x ?_
    rw [List.getElem?_drop, List.getElem?_take] at hx
    split at hx
    · exact hx
    · cases hx
theorem REs.takeV {w : World} {A : Option Addr} {n m : Nat} {es : List En} (h : REs w A n es) (hm : m ≤ n) : ∃ us, EVs w (es.take m) us ∧ RdV w A (m * 4) us := by
  obtain ⟨h1, vs, h2, h3⟩ := h
  refine ⟨_, h2.take m, ?_⟩
  refine ⟨by rw [List.length_take, h3.1]; omega, fun hn => ?_⟩
  obtain ⟨b, off, rfl, hb, hc⟩ := h3.2 (by omega)
  refine ⟨b, off, rfl, hb, fun i x hx => hc i x ?_⟩
  rw [List.getElem?_take] at hx
  split at hx
  · exact hx
  · cases hx
theorem OwnE.mono {w : World} {base base' n c : Nat} {A : Option Addr} {vs : List Value} (h : OwnE w base A n c vs) (hb : base' ≤ base) : OwnE w base' A n c vs := by
  refine ⟨h.1, ?_⟩
  rcases h.2 with h1 | ⟨g, cap, cur, h1, h2, h3⟩
  · exact .inl h1
  · exact .inr ⟨g, cap, cur, h1, Nat.le_trans hb h2, h3⟩
theorem rdv_of_cl {w : World} {g : Nat} {v0 v1 v2 v3 : Value} {t : TypeId} (h : Cl w g #[v0, v1, v2, v3] t) : RdV w (some ⟨g, 0, none⟩) (1 * 4) [v0, v1, v2, v3] :=
  ⟨rfl, fun _ => ⟨g, 0, rfl, h.lt, fun i x hx => by rw [Nat.zero_add, h.cell i]; simpa using hx⟩⟩
def insL (es : List En) (e : En) : List En := es.take (posI es e es.length) ++ e :: es.drop (posI es e es.length)
theorem rdv_take4 {w : World} {A : Option Addr} {n m : Nat} {vs : List Value} (h : RdV w A (n * 4) vs) (hm : m ≤ n) : RdV w A (m * 4) (vs.take (m * 4)) := by
  refine ⟨by rw [List.length_take, h.1]; omega, fun hn => ?_⟩
  obtain ⟨b, off, rfl, hb, hc⟩ := h.2 (by omega)
  refine ⟨b, off, rfl, hb, fun i x hx => hc i x ?_⟩
  rw [List.getElem?_take] at hx
  split at hx
  · exact hx
  · cases hx
/-- What an insertion comes to: a row of the call's own, with the values that were handed in. -/
def RetIns (w : World) (n : Nat) (es : List En) (us : List Value) (e : Ending) (w' : World) : Prop :=
  ∃ L d vs, e = .returned (.slice L n d) ∧ OwnE w' w.heap.size L n d vs ∧ EVs w' es vs ∧ Below w.heap.size w w' ∧ ∀ u ∈ vs, u ∈ us
theorem RetIns.out {w : World} {n : Nat} {es : List En} {us : List Value} {e : Ending} {w' : World} (h : RetIns w n es us e w') : ∃ L d vs, e = .returned (.slice L n d) ∧ OwnE w' w.heap.size L n d vs ∧ EVs w' es vs ∧ Below w.heap.size w w' ∧ ∀ u ∈ vs, u ∈ us := h
set_option maxRecDepth 100000 in
set_option maxHeartbeats 8000000 in
theorem Insert_any {w : World} {A : Option Addr} {n c : Nat} {es : List En} {e : En} {ovs : List Value} {v0 v1 v2 v3 : Value} (hv : EVs w es ovs) (hd : RdV w A (n * 4) ovs) (hl : es.length = n) (hc : n ≤ c) (hn : n ≤ 1099511627776) (hs : ∀ x ∈ es, SzE x) (he : EV w e v0 v1 v2 v3) (se : SzE e) :
    Calls Tryz.prog 41 #[.slice A n c, .agg #[v0, v1, v2, v3]] w (RetIns w (n + 1) (insL es e) ([v0, v1, v2, v3] ++ ovs)) := by
  have h : REs w A n es := REs.mk hv hd hl
  obtain ⟨K, kn, kc, V, vn, vc, rfl, rfl, rfl, rfl, _⟩ := he.parts
  obtain ⟨U, hU⟩ : ∃ U, U = w.alloc (.cells #[.slice K kn kc, .int .u64 (e.seq : Int), .int .u8 (e.kind : Int), .slice V vn vc] 31) := ⟨_, rfl⟩
  have bU : Below w.heap.size w U := by rw [hU]; exact (Below.refl _ _).alloc (Nat.le_refl _) _
  have XU := Lib.hid (show Cl U w.heap.size #[.slice K kn kc, .int .u64 (e.seq : Int), .int .u8 (e.kind : Int), .slice V vn vc] 31 by rw [hU]; exact Cl.new _ _ _)
  have HE := Lib.hid (he.below bU)
  have H1 := Lib.hid (h.below bU)
  have HV := Lib.hid (hv.below bU)
  have HD := Lib.hid (hd.below bU)
  have HLN := Lib.hid h.len
  have HS := Lib.hid hs
  have BU := Lib.hid bU
  clear h hs he bU hv hd hl
  go_enter Tryz.func41, Tryz.ntmps41
  go_upto_region 1 with (fail)
  rw [← hU]
  clear hU
  go_wp2_with fail
  go_loopw [5] (fun s5 wr => ∃ k : Nat, k ≤ n ∧ s5 = .int .i64 (k : Int) ∧ posI es e k = posI es e n ∧ Below U.heap.size U wr) (fun s _ => (intOf s).toNat)
  case atStart => exact ⟨n, Nat.le_refl _, rfl, rfl, Below.refl _ _⟩
  case round =>
    obtain ⟨k, hk, rfl, hp, hB⟩ := hrel
    have HB := Lib.hid hB
    have HP := Lib.hid hp
    have XR := Lib.hid (XU.out.below hB)
    have HER := Lib.hid (HE.out.below hB)
    have hR := H1.out.below hB
    clear hB hp
    go_upto_region 2 with (fail)
    go_cut [19] from 9 to 21 (fun s19 wx => ∃ z, s19 = .bool z ∧ Below wr.heap.size wr wx ∧ (z = true → 0 < k ∧ posI es e k = posI es e (k - 1)) ∧ (z = false → posI es e k = k))
    case first =>
      by_cases h0 : 0 < k
      · obtain ⟨b, off, hAb, hbl⟩ := hR.pos (by omega)
        subst hAb
        obtain ⟨x, u0, u1, u2, u3, hx, c0, c1, c2, c3, hev⟩ := hR.at_ (k - 1) (by omega)
        have hsx := HS.out x (List.mem_of_getElem? hx)
        have HL : Hid (∀ wx, Below wr.heap.size wr wx → Calls Tryz.prog 102 #[.agg #[.slice K kn kc, .int .u64 (e.seq : Int), .int .u8 (e.kind : Int), .slice V vn vc], .agg #[u0, u1, u2, u3]] wx (RetT wx (lessE e x))) := Lib.hid (fun wx hb => refLess_any (HER.out.below hb) (hev.below hb) se hsx)
        have HSX : Hid (∀ wx, Below wr.heap.size wr wx → wx.cell? ⟨b, off + (k - 1) * 4, none⟩ = some u0 ∧ wx.cell? ⟨b, off + (k - 1) * 4 + 1, none⟩ = some u1 ∧ wx.cell? ⟨b, off + (k - 1) * 4 + 2, none⟩ = some u2 ∧ wx.cell? ⟨b, off + (k - 1) * 4 + 3, none⟩ = some u3 ∧ wx.cell? ⟨w.heap.size, 0, none⟩ = some (.slice K kn kc) ∧ wx.cell? ⟨w.heap.size, 1, none⟩ = some (.int .u64 (e.seq : Int)) ∧ wx.cell? ⟨w.heap.size, 2, none⟩ = some (.int .u8 (e.kind : Int)) ∧ wx.cell? ⟨w.heap.size, 3, none⟩ = some (.slice V vn vc)) := Lib.hid (fun wx h => by
          obtain ⟨d0, d1, d2, d3, _⟩ := (XR.out.below h).c4
          exact ⟨(h.cell hbl).trans c0, (h.cell hbl).trans c1, (h.cell hbl).trans c2, (h.cell hbl).trans c3, d0, d1, d2, d3⟩)
        have hB0 : Below wr.heap.size wr wr.drew := (Below.refl _ _).drew
        have hk1 : IntKind.i64.wrap ((k : Int) - 1) = ((k - 1 : Nat) : Int) := by rw [IntWalk.i64_in _ (by omega)]; omega
        have hk2 : k - 1 < n := by omega
        obtain ⟨d0, d1, d2, d3, _⟩ := XR.out.c4
        have HXK := Lib.hid hx
        clear hR hx hev
        go_region_law (first | (go_simp; go_at_call 102; with_reducible refine (HL.out _ (by assumption)).mono ?_; intro e1 wn hq; obtain ⟨h1, bn⟩ := RetT.outD hq; subst h1; have bn' := belowT' (by assumption : Below wr.heap.size wr _) bn; obtain ⟨p0, p1, p2, p3, p4, p5, p6, p7⟩ := HSX.out _ bn'))
        all_goals
          have hpz : posI es e k = if lessE e x then posI es e (k - 1) else k := posI_at h0 HXK.out
          have hf : (∃ z, Value.bool (lessE e x) = .bool z ∧ (z = true → 0 < k ∧ posI es e k = posI es e (k - 1)) ∧ (z = false → posI es e k = k)) := ⟨_, rfl, fun h => ⟨h0, by rw [hpz, if_pos h]⟩, fun h => by rw [hpz, h]; rfl⟩
          have HFF := Lib.hid hf
          clear hpz hf
          go_wp2_with fail
          go_meet
          obtain ⟨z, q1, q2, q3⟩ := HFF.out
          exact ⟨z, q1, by assumption, q2, q3⟩
      · have hk0 : k = 0 := by omega
        subst hk0
        clear hR h0
        go_quiet (fail)
        go_wp2
        go_meet
        exact ⟨false, rfl, below_drewN (Below.refl _ _) nq, (fun h => by cases h), fun _ => rfl⟩
    case rest =>
      obtain ⟨z, rfl, hbc, hz1, hz2⟩ := hcut
      have BC := Lib.hid (HB.out.trans (hbc.mono HB.out.size))
      cases z with
      | true =>
        obtain ⟨h0, hp⟩ := hz1 rfl
        have hk1 : IntKind.i64.wrap ((k : Int) - 1) = ((k - 1 : Nat) : Int) := by rw [IntWalk.i64_in _ (by omega)]; omega
        have HPP := Lib.hid hp
        clear hz1 hz2 hbc hp hR
        go_wp2_with fail
        go_roundw
        case rel => exact ⟨k - 1, by omega, by go_num, by rw [← HPP.out]; exact HP.out, BC.out⟩
        case measure => simp [intOf]; omega
      | false =>
        have hkp : k = posI es e es.length := by rw [HLN.out, ← HP.out]; exact (hz2 rfl).symm
        have HKP := Lib.hid hkp
        have sc := BC.out.size
        have hEV := HV.out.below BC.out
        have hDV := HD.out.below BC.out
        obtain ⟨us1, hu1⟩ : ∃ us1, us1 = ovs.take (k * 4) := ⟨_, rfl⟩
        obtain ⟨us2, hu2⟩ : ∃ us2, us2 = ovs.drop (k * 4) := ⟨_, rfl⟩
        have q1 : EVs wc (es.take k) us1 := by rw [hu1]; exact hEV.take k
        have q2 : RdV wc A (k * 4) us1 := by rw [hu1]; exact rdv_take4 hDV hk
        have q3 : EVs wc (es.drop k) us2 := by rw [hu2]; exact hEV.drop k
        have q4 : RdV wc (cutA4 A k c) ((n - k) * 4) us2 := by
          have := rdv_cut4 hDV hk (Nat.le_refl _) hc
          rw [List.take_of_length_le (by rw [hDV.1]; omega)] at this
          rw [hu2]; exact this
        have HMEM : Hid (∀ u, u ∈ us1 ∨ u ∈ us2 → u ∈ ovs) := Lib.hid (fun u h => by
          rcases h with h | h
          · rw [hu1] at h; exact List.mem_of_mem_take h
          · rw [hu2] at h; exact List.mem_of_mem_drop h)
        have Q1 := Lib.hid q1
        have Q2 := Lib.hid q2
        have Q3 := Lib.hid q3
        have Q4 := Lib.hid q4
        have HEC := Lib.hid (HER.out.below hbc)
        have XC := Lib.hid (XR.out.below hbc)
        have hcl : ∀ w, (Instr.slice 22 (.slice A n c) none (some (.int .i64 (k : Int))) none).run Tryz.prog w = .ok (.slice A k c) w := fun w => cut4_h Tryz.underlying22 elem4 size4 A (by omega) w
        have hcr : ∀ w, (Instr.slice 22 (.slice A n c) (some (.int .i64 (k : Int))) none none).run Tryz.prog w = .ok (.slice (cutA4 A k c) (n - k) (c - k)) w := fun w => cut4_l Tryz.underlying22 elem4 size4 A hk w
        clear hz1 hz2 hbc hkp hEV hDV q1 q2 q3 q4 hR hu1 hu2
        have b0 : Below wc.heap.size wc (wc.alloc (.cells #[] 31)) := (Below.refl _ _).alloc (Nat.le_refl _) _
        have r1 := Lib.hid (Q2.out.below b0)
        have o0 := Lib.hid (OwnE.zero wc)
        have B0 := Lib.hid b0
        clear b0
        go_wp2_with (at_builtin; refine wpList_app4 (wc.alloc (.cells #[] 31)) rfl _ _ 22 rfl wc.heap.size _ 64 Tryz.underlying22 info_ent rfl (some ⟨wc.heap.size, 0, none⟩) 0 0 [] rfl o0.out A k c us1 rfl r1.out Q1.out.cells ?_ ?_ ?_ ?_)
        · omega
        · omega
        · simp
        intro A1 c1 w1 o1 _ b1
        have O1 := Lib.hid o1
        have B1 := Lib.hid (B0.out.trans b1)
        have s1 := B1.out.size
        have X1 := Lib.hid (XC.out.base B1.out XC.out.lt)
        obtain ⟨d0, d1, d2, d3, _⟩ := X1.out.c4
        have bl : Below w1.heap.size w1 (w1.alloc (.cells #[.slice K kn kc, .int .u64 (e.seq : Int), .int .u8 (e.kind : Int), .slice V vn vc] 31)) := (Below.refl _ _).alloc (Nat.le_refl _) _
        have O1' := Lib.hid (O1.out.below bl)
        have r2 := Lib.hid (rdv_of_cl (Cl.new w1 #[.slice K kn kc, .int .u64 (e.seq : Int), .int .u8 (e.kind : Int), .slice V vn vc] 31))
        have BL := Lib.hid bl
        clear o1 b1 hcl bl
        go_wp2_with (at_builtin; refine wpList_app4 (w1.alloc (.cells #[.slice K kn kc, .int .u64 (e.seq : Int), .int .u8 (e.kind : Int), .slice V vn vc] 31)) rfl _ _ 22 rfl wc.heap.size _ 64 Tryz.underlying22 info_ent rfl A1 k c1 us1 rfl O1'.out (some ⟨w1.heap.size, 0, none⟩) 1 1 [.slice K kn kc, .int .u64 (e.seq : Int), .int .u8 (e.kind : Int), .slice V vn vc] rfl r2.out HEC.out.cells ?_ ?_ ?_ ?_)
        · omega
        · omega
        · simp; omega
        intro A2 c2 w2 o2 _ b2
        have O2 := Lib.hid o2
        have B2 := Lib.hid ((B1.out.trans (BL.out.mono s1)).trans b2)
        have s2 := B2.out.size
        have r3 := Lib.hid (Q4.out.below B2.out)
        clear o2 b2 d0 d1 d2 d3
        go_wp2_with (at_builtin; refine wpList_app4 w2 rfl _ _ 22 rfl wc.heap.size _ 64 Tryz.underlying22 info_ent rfl A2 (k + 1) c2 (us1 ++ [.slice K kn kc, .int .u64 (e.seq : Int), .int .u8 (e.kind : Int), .slice V vn vc]) rfl O2.out (cutA4 A k c) (n - k) (c - k) us2 rfl r3.out Q3.out.cells ?_ ?_ ?_ ?_)
        · omega
        · omega
        · omega
        intro A3 c3 w3 o3 _ b3
        have hkn : k + 1 + (n - k) = n + 1 := by omega
        rw [hkn] at o3
        have B3 := B2.out.trans b3
        have hev : EVs w3 (insL es e) (us1 ++ Value.slice K kn kc :: Value.int .u64 (e.seq : Int) :: Value.int .u8 (e.kind : Int) :: Value.slice V vn vc :: us2) := by
          have := ((Q1.out.app (EVs.one HEC.out)).app Q3.out).below B3
          rw [insL, ← HKP.out]
          simpa using this
        have HFIN : Hid (RetIns w (n + 1) (insL es e) ([.slice K kn kc, .int .u64 (e.seq : Int), .int .u8 (e.kind : Int), .slice V vn vc] ++ ovs) (.returned (.slice A3 (n + 1) c3)) w3) := Lib.hid ⟨A3, c3, _, rfl, OwnE.mono o3 (by have := BU.out.size; omega), hev, belowT' (BU.out.trans (BC.out.mono (by have := BU.out.size; omega))) B3, fun u hu => by
          have hm := HMEM.out u
          simp only [List.cons_append, List.nil_append, List.mem_append, List.mem_cons] at hu ⊢
          rcases hu with h | h | h | h | h | h
          · exact .inr (.inr (.inr (.inr (hm (.inl h)))))
          · exact .inl h
          · exact .inr (.inl h)
          · exact .inr (.inr (.inl h))
          · exact .inr (.inr (.inr (.inl h)))
          · exact .inr (.inr (.inr (.inr (hm (.inr h)))))⟩
        clear o3 b3 B3 hev hcr
        rw [hkn]
        go_wp2
        go_ret
        exact HFIN.out
end Go.Proofs.YtlnpicfkcahdbaaGreat
namespace Go.Proofs.YtlnpicfkcahdbaaGreat
open Go Go.RowKit

theorem cmpB_refl : ∀ xs : List UInt8, cmpB xs xs = 0
  | [] => rfl
  | x :: xs => by rw [cmpB_same, cmpB_refl xs]
theorem cmpB_trans : ∀ {xs ys zs : List UInt8}, cmpB xs ys < 0 → cmpB ys zs < 0 → cmpB xs zs < 0
  | [], [], _, h, _ => by simp [cmpB] at h
  | _ :: _, [], _, h, _ => by simp [cmpB] at h
  | [], _ :: _, [], _, h => by simp [cmpB] at h
  | [], _ :: _, _ :: _, _, _ => by simp [cmpB]
  | _ :: _, _ :: _, [], _, h => by simp [cmpB] at h
  | x :: xs, y :: ys, z :: zs, h, k => by
    rcases Nat.lt_trichotomy x.toNat y.toNat with q | q | q
    · rcases Nat.lt_trichotomy y.toNat z.toNat with r | r | r
      · rw [cmpB_lt _ _ (by omega)]; decide
      · rw [cmpB_lt _ _ (by omega)]; decide
      · rw [cmpB_gt _ _ r] at k; simp at k
    · rw [cmpB_eq _ _ q] at h
      rcases Nat.lt_trichotomy y.toNat z.toNat with r | r | r
      · rw [cmpB_lt _ _ (by omega)]; decide
      · rw [cmpB_eq _ _ r] at k
        rw [cmpB_eq _ _ (by omega)]
        exact cmpB_trans h k
      · rw [cmpB_gt _ _ r] at k; simp at k
    · rw [cmpB_gt _ _ q] at h; simp at h
theorem lessE_iff {a b : En} : lessE a b = true ↔ cmpB a.key b.key < 0 ∨ (a.key = b.key ∧ b.seq < a.seq) := by
  unfold lessE
  simp only [Bool.or_eq_true, Bool.and_eq_true, decide_eq_true_eq]
  constructor
  · rintro (h | ⟨h, k⟩)
    · exact .inl h
    · exact .inr ⟨cmpB_zero _ _ h, k⟩
  · rintro (h | ⟨h, k⟩)
    · exact .inl h
    · exact .inr ⟨by rw [h, cmpB_refl], k⟩
theorem sameK_iff {a b : En} : sameK a b = true ↔ a.key = b.key ∧ a.seq = b.seq := by
  unfold sameK eqB
  simp
theorem lessE_trans {a b c : En} (h : lessE a b = true) (k : lessE b c = true) : lessE a c = true := by
  rw [lessE_iff] at h k ⊢
  rcases h with h | ⟨h, h'⟩ <;> rcases k with k | ⟨k, k'⟩
  · exact .inl (cmpB_trans h k)
  · exact .inl (by rw [← k]; exact h)
  · exact .inl (by rw [h]; exact k)
  · exact .inr ⟨h.trans k, by omega⟩
theorem lessE_irr (a : En) : lessE a a = false := by
  cases h : lessE a a with
  | false => rfl
  | true =>
    rcases lessE_iff.1 h with h | ⟨_, h⟩
    · rw [cmpB_refl] at h; simp at h
    · omega
theorem lessE_asym {a b : En} (h : lessE a b = true) : lessE b a = false := by
  cases k : lessE b a with
  | false => rfl
  | true => have := lessE_trans h k; rw [lessE_irr] at this; cases this
theorem lessE_tri (a b : En) : lessE a b = true ∨ lessE b a = true ∨ sameK a b = true := by
  rcases Int.lt_trichotomy (cmpB a.key b.key) 0 with h | h | h
  · exact .inl (lessE_iff.2 (.inl h))
  · have hk := cmpB_zero _ _ h
    rcases Nat.lt_trichotomy a.seq b.seq with q | q | q
    · exact .inr (.inl (lessE_iff.2 (.inr ⟨hk.symm, q⟩)))
    · exact .inr (.inr (sameK_iff.2 ⟨hk, q⟩))
    · exact .inl (lessE_iff.2 (.inr ⟨hk, q⟩))
  · exact .inr (.inl (lessE_iff.2 (.inl (by rw [cmpB_swap]; omega))))
theorem sameK_not {a b : En} (h : sameK a b = true) : lessE a b = false ∧ lessE b a = false := by
  obtain ⟨h1, h2⟩ := sameK_iff.1 h
  have key : ∀ {x y : En}, x.key = y.key → x.seq = y.seq → lessE x y = false := fun {x y} e1 e2 => by
    cases k : lessE x y with
    | false => rfl
    | true =>
      rcases lessE_iff.1 k with q | ⟨_, q⟩
      · rw [e1, cmpB_refl] at q; simp at q
      · omega
  exact ⟨key h1 h2, key h1.symm h2.symm⟩
end Go.Proofs.YtlnpicfkcahdbaaGreat
namespace Go.Proofs.YtlnpicfkcahdbaaGreat
open Go Go.RowKit

theorem Made.out {base : Nat} {w w' : World} {xs : List UInt8} {e : Ending} (h : Made base w xs e w') : ∃ A n c, e = .returned (.slice A n c) ∧ Own 5 w' base A n c xs ∧ Below base w w' := h
section
variable {w : World} {a : En} {v0 v1 v2 v3 : Value}
set_option maxRecDepth 100000 in
set_option maxHeartbeats 4000000 in
theorem own_any (ha : EV w a v0 v1 v2 v3) (sa : SzE a) : Calls Tryz.prog 43 #[.agg #[v0, v1, v2, v3]] w (RetEn w a) := by
  obtain ⟨K, kn, kc, V, vn, vc, rfl, rfl, rfl, rfl, r0, r3, c0, c3, d0, d3, s1, s2⟩ := ha.parts
  have l1 := r0.len
  have l2 := r3.len
  have hk : kn ≤ 140737488355328 := by have := sa.1; omega
  have hv : vn ≤ 140737488355328 := by have := sa.2; omega
  have R0 := Lib.hid r0
  have R3 := Lib.hid r3
  have HD0 := Lib.hid d0
  have HD3 := Lib.hid d3
  clear ha r0 r3 d0 d3
  go_enter Tryz.func43, Tryz.ntmps43
  go_upto_region 1 with (fail)
  obtain ⟨W, hW⟩ : ∃ W, W = (w.alloc (.cells #[.slice K kn kc, .int .u64 (a.seq : Int), .int .u8 (a.kind : Int), .slice V vn vc] 31)).alloc (.cells #[.slice none 0 0, .int .u64 0, .int .u8 0, .slice none 0 0] 31) := ⟨_, rfl⟩
  rw [← hW]
  have bW : Below w.heap.size w W := by rw [hW]; exact ((Below.refl _ _).alloc (Nat.le_refl _) _).alloc (by simp) _
  have aW : Cl W w.heap.size #[.slice K kn kc, .int .u64 (a.seq : Int), .int .u8 (a.kind : Int), .slice V vn vc] 31 := by rw [hW]; exact (Cl.new _ _ _).alloc _
  have zW : Cl W (w.heap.size + 1) #[.slice none 0 0, .int .u64 0, .int .u8 0, .slice none 0 0] 31 := by rw [hW]; exact Cl.newg _ _ _ _ (by simp)
  have sW : w.heap.size + 2 ≤ W.heap.size := by rw [hW]; simp
  have HK : Hid (∀ wx, Below W.heap.size W wx → Calls Tryz.prog 104 #[.slice K kn kc] wx (Made wx.heap.size wx a.key)) := Lib.hid (fun wx hb => Clone_any K kn kc a.key wx ((R0.out.below bW).below hb) hk HD0.out)
  have HV : Hid (∀ wx, Below W.heap.size W wx → Calls Tryz.prog 104 #[.slice V vn vc] wx (Made wx.heap.size wx a.val)) := Lib.hid (fun wx hb => Clone_any V vn vc a.val wx ((R3.out.below bW).below hb) hv HD3.out)
  have ALC : Hid (∀ wx, Below W.heap.size W wx → Cl wx w.heap.size #[.slice K kn kc, .int .u64 (a.seq : Int), .int .u8 (a.kind : Int), .slice V vn vc] 31) := Lib.hid (fun wx hb => aW.below hb)
  have ZLC : Hid (∀ wx, Below W.heap.size W wx → Cl wx (w.heap.size + 1) #[.slice none 0 0, .int .u64 0, .int .u8 0, .slice none 0 0] 31) := Lib.hid (fun wx hb => zW.below hb)
  have BW := Lib.hid bW
  obtain ⟨e0, e1, e2, e3, y0, y1, y2, y3⟩ := aW.c4
  have hB0 : Below W.heap.size W W.drew := (Below.refl _ _).drew
  clear hW bW aW zW
  go_cut [] (fun wx => ∃ C cn cc D dn dc wy, Own 5 wy W.heap.size C cn cc a.key ∧ Own 5 wy W.heap.size D dn dc a.val ∧ Below W.heap.size W wy ∧ Dj C D ∧ wx = (wy.setCell ⟨w.heap.size, 0, none⟩ (.slice C cn cc)).setCell ⟨w.heap.size, 3, none⟩ (.slice D dn dc))
  case first =>
    go_region_law (first | (go_simp; go_at_call 104; with_reducible refine (HK.out _ (by assumption)).mono ?_; intro e wk hq; obtain ⟨C, cn, cc, h1, oC, bC⟩ := Made.out hq; subst h1; have bC' := belowT (by assumption : Below W.heap.size W _) bC; obtain ⟨p0, p1, p2, p3, p4, p5, p6, p7⟩ := (ALC.out _ bC').c4) | (go_simp; go_at_call 104; with_reducible refine (HV.out _ (by assumption)).mono ?_; intro e wv hq; obtain ⟨D, dn, dc, h2, oD, bD⟩ := Made.out hq; subst h2; have bD' := belowT (by assumption : Below W.heap.size W _) bD; obtain ⟨m0, m1, m2, m3, m4, m5, m6, m7⟩ := (ALC.out _ bD').c4))
    all_goals first
      | (have HDJ := Lib.hid (Dj.old oC oD (Nat.le_refl _))
         have HC1 := Lib.hid (oC.below bD)
         have HD1 := Lib.hid (oD.mono bC'.size)
         have HB1 := Lib.hid bD'
         clear oC oD bC bD bC' bD'
         go_wp2_with fail
         go_meet
         exact ⟨C, cn, cc, D, dn, dc, wv, HC1.out, HD1.out, HB1.out, HDJ.out, rfl⟩)
      | (have HDJ := Lib.hid (Dj.symm (Dj.old oD oC (Nat.le_refl _)))
         have HC1 := Lib.hid (oC.mono bD'.size)
         have HD1 := Lib.hid (oD.below bC)
         have HB1 := Lib.hid bC'
         clear oC oD bC bD bC' bD'
         go_wp2_with fail
         go_meet
         exact ⟨C, cn, cc, D, dn, dc, wk, HC1.out, HD1.out, HB1.out, HDJ.out, rfl⟩)
  case rest =>
    obtain ⟨C, cn, cc, D, dn, dc, wy, oC, oD, bY, hdj, hwc⟩ := hcut
    have A1 := ALC.out _ bY
    have Z1 := Lib.hid (ZLC.out _ bY)
    have sy := bY.size
    obtain ⟨Y, hY⟩ : ∃ Y, Y = wy.setCell ⟨w.heap.size, 0, none⟩ (.slice C cn cc) := ⟨_, rfl⟩
    rw [← hY] at hwc
    have aY : Cl Y w.heap.size #[.slice C cn cc, .int .u64 (a.seq : Int), .int .u8 (a.kind : Int), .slice V vn vc] 31 := by rw [hY]; exact A1.set 0 _
    have zY : Cl Y (w.heap.size + 1) #[.slice none 0 0, .int .u64 0, .int .u8 0, .slice none 0 0] 31 := by rw [hY]; exact Z1.out.off 0 _ (by omega)
    have bYY : Below w.heap.size w Y := by rw [hY]; exact below_set (BW.out.trans (bY.mono BW.out.size)) 0 _ (Nat.le_refl _)
    have oCY : Own 5 Y W.heap.size C cn cc a.key := by rw [hY]; exact oC.set (by omega) 0 _
    have oDY : Own 5 Y W.heap.size D dn dc a.val := by rw [hY]; exact oD.set (by omega) 0 _
    have aC : Cl wc w.heap.size #[.slice C cn cc, .int .u64 (a.seq : Int), .int .u8 (a.kind : Int), .slice D dn dc] 31 := by rw [hwc]; exact aY.set 3 _
    have zC : Cl wc (w.heap.size + 1) #[.slice none 0 0, .int .u64 0, .int .u8 0, .slice none 0 0] 31 := by rw [hwc]; exact zY.off 3 _ (by omega)
    have HFIN : Hid (∀ X, X = (((wc.setCell ⟨w.heap.size + 1, 0, none⟩ (.slice C cn cc)).setCell ⟨w.heap.size + 1, 1, none⟩ (.int .u64 (a.seq : Int))).setCell ⟨w.heap.size + 1, 2, none⟩ (.int .u8 (a.kind : Int))).setCell ⟨w.heap.size + 1, 3, none⟩ (.slice D dn dc) → Cl X (w.heap.size + 1) #[.slice C cn cc, .int .u64 (a.seq : Int), .int .u8 (a.kind : Int), .slice D dn dc] 31 ∧ RetEn w a (.returned (.agg #[.slice C cn cc, .int .u64 (a.seq : Int), .int .u8 (a.kind : Int), .slice D dn dc])) X) := Lib.hid (fun X hX => en_fin (x := a) (g := w.heap.size) zY rfl oCY oDY bYY (Nat.le_refl _) sW ⟨3, _, hwc⟩ hX hdj)
    clear hY hwc A1 aY zY bYY oCY oDY oC oD bY e0 e1 e2 e3 y0 y1 y2 y3
    obtain ⟨e0, e1, e2, e3, y0, y1, y2, y3⟩ := aC.c4
    obtain ⟨g0, g1, g2, g3, k0, k1, k2, k3⟩ := zC.c4
    clear aC zC
    go_wp2_with fail
    obtain ⟨X, hX⟩ : ∃ X, X = (((wc.setCell ⟨w.heap.size + 1, 0, none⟩ (.slice C cn cc)).setCell ⟨w.heap.size + 1, 1, none⟩ (.int .u64 (a.seq : Int))).setCell ⟨w.heap.size + 1, 2, none⟩ (.int .u8 (a.kind : Int))).setCell ⟨w.heap.size + 1, 3, none⟩ (.slice D dn dc) := ⟨_, rfl⟩
    obtain ⟨zX, hret⟩ := HFIN.out X hX
    rw [← hX]
    obtain ⟨x0, x1, x2, x3, _⟩ := zX.c4
    refine bodyPost_ret (v := .agg #[.slice C cn cc, .int .u64 (a.seq : Int), .int .u8 (a.kind : Int), .slice D dn dc]) (by simp [results, Tryz.results43, go_sem, x0, x1, x2, x3]; try rfl) rfl hret
end
end Go.Proofs.YtlnpicfkcahdbaaGreat
namespace Go.Proofs.YtlnpicfkcahdbaaGreat
open Go Go.RowKit

/-- How many first bytes both have alike. -/
def comB : List UInt8 → List UInt8 → Nat
  | x :: xs, y :: ys => if x = y then comB xs ys + 1 else 0
  | _, _ => 0
theorem comB_le : ∀ (xs ys : List UInt8), comB xs ys ≤ xs.length ∧ comB xs ys ≤ ys.length
  | [], _ => by simp [comB]
  | _ :: _, [] => by simp [comB]
  | x :: xs, y :: ys => by
    have := comB_le xs ys
    unfold comB
    split
    · simp only [List.length_cons]; omega
    · simp
theorem comB_lt : ∀ {xs ys : List UInt8} {i : Nat}, i < comB xs ys → ∃ b, xs[i]? = some b ∧ ys[i]? = some b
  | [], _, _, h => by simp [comB] at h
  | _ :: _, [], _, h => by simp [comB] at h
  | x :: xs, y :: ys, i, h => by
    unfold comB at h
    split at h
    · rename_i e
      subst e
      cases i with
      | zero => exact ⟨x, rfl, rfl⟩
      | succ j =>
        have := comB_lt (xs := xs) (ys := ys) (i := j) (by omega)
        simpa using this
    · omega
theorem comB_at : ∀ {xs ys : List UInt8} {i : Nat}, i = comB xs ys → i = xs.length ∨ i = ys.length ∨ ∃ a b, xs[i]? = some a ∧ ys[i]? = some b ∧ a ≠ b
  | [], _, _, h => .inl (by simpa [comB] using h)
  | _ :: _, [], _, h => .inr (.inl (by simpa [comB] using h))
  | x :: xs, y :: ys, i, h => by
    unfold comB at h
    split at h
    · rename_i e
      subst e
      obtain ⟨j, rfl⟩ : ∃ j, i = j + 1 := ⟨comB xs ys, h⟩
      rcases comB_at (xs := xs) (ys := ys) (i := j) (by omega) with h1 | h1 | ⟨a, b, h1, h2, h3⟩
      · exact .inl (by simp [h1])
      · exact .inr (.inl (by simp [h1]))
      · exact .inr (.inr ⟨a, b, by simpa using h1, by simpa using h2, h3⟩)
    · subst h
      exact .inr (.inr ⟨x, y, rfl, rfl, by assumption⟩)
def RetCo (w : World) (z : Nat) (e : Ending) (w' : World) : Prop := e = .returned (.int .i64 (z : Int)) ∧ ∃ q, w' = w.drewN q
set_option maxRecDepth 100000 in
set_option maxHeartbeats 4000000 in
theorem common_any (A B : Option Addr) (n m c d : Nat) (xs ys : List UInt8) (w : World) (hx : Rd w A n xs) (hy : Rd w B m ys) (hn : n ≤ 1099511627776) (hm : m ≤ 1099511627776) :
    Calls Tryz.prog 196 #[.slice A n c, .slice B m d] w (RetCo w (comB xs ys)) := by
  obtain ⟨K, hK⟩ : ∃ K, K = comB xs ys := ⟨_, rfl⟩
  rw [← hK]
  have hle := comB_le xs ys
  rw [← hK] at hle
  have hlx := hx.len
  have hly := hy.len
  have HK := Lib.hid hK
  have HX := Lib.hid hx
  have HY := Lib.hid hy
  clear hK hx hy
  go_enter Tryz.func196, Tryz.ntmps196
  go_wp2_with fail
  go_loopw [5] (fun vi wr => ∃ i q : Nat, vi = .int .i64 (i : Int) ∧ i ≤ K ∧ wr = w.drewN q) (fun vi _ => K - (intOf vi).toNat)
  case atStart => exact ⟨0, 0, rfl, Nat.zero_le _, rfl⟩
  case round =>
    obtain ⟨i, q, rfl, hi, rfl⟩ := hrel
    obtain ⟨W, hW⟩ : ∃ W, W = w.drewN q := ⟨_, rfl⟩
    by_cases hlt : i < K
    · obtain ⟨b, h1, h2⟩ := comB_lt (xs := xs) (ys := ys) (i := i) (by rw [← HK.out]; exact hlt)
      have hin : i < n := by omega
      have him : i < m := by omega
      obtain ⟨ba, oa, rfl, _⟩ := HX.out.pos (by omega)
      obtain ⟨bb, ob, rfl, _⟩ := HY.out.pos (by omega)
      obtain ⟨x, hx1, hx2, _⟩ := HX.out.at_ i hin
      obtain ⟨y, hy1, hy2, _⟩ := HY.out.at_ i him
      obtain rfl : x = y := by
        rw [h1] at hx1; rw [h2] at hy1
        rw [← Option.some.inj hx1, ← Option.some.inj hy1]
      have c1 : W.cell? ⟨ba, oa + i, none⟩ = some (.int .u8 (x.toNat : Int)) := by rw [hW]; exact hx2
      have c2 : W.cell? ⟨bb, ob + i, none⟩ = some (.int .u8 (x.toNat : Int)) := by rw [hW]; exact hy2
      rw [← hW]
      have HW := Lib.hid hW
      clear hW h1 h2 hx1 hx2 hy1 hy2
      go_wp2_with fail
      go_quiet (fail)
      rw [HW.out]
      go_wp2_with fail
      go_roundw
      case rel => exact ⟨i + 1, _, by go_num, by omega, rfl⟩
      case measure => simp [intOf]; omega
    · obtain rfl : i = K := by omega
      rcases comB_at (xs := xs) (ys := ys) (i := i) HK.out with h1 | h1 | ⟨a, b, h1, h2, h3⟩
      · have hin : ¬ i < n := by omega
        rw [← hW]
        have HW := Lib.hid hW
        clear hW
        go_wp2_with fail
        go_quiet (fail)
        rw [HW.out]
        go_wp2_with fail
        go_ret
        exact ⟨rfl, _, World.drewN_drewN _ _ _⟩
      · have him : ¬ i < m := by omega
        rw [← hW]
        have HW := Lib.hid hW
        have HH1 := Lib.hid (And.intro h1 (And.intro hlx hly))
        clear hW h1 hlx hly hle hi hlt
        by_cases hin : i < n
        · have d1 : decide (i < n) = true := by simpa using hin
          have d2 : decide (i < m) = false := by simpa using him
          have d3 : decide ((i : Int) < (m : Int)) = false := by simp; omega
          have d4 : decide (m ≤ i) = true := by simp; omega
          go_wp2_with fail
          go_quiet (fail)
          rw [HW.out]
          go_wp2_with fail
          go_ret
          exact ⟨rfl, _, World.drewN_drewN _ _ _⟩
        · have d1 : decide (i < n) = false := by simpa using hin
          have d4 : decide (n ≤ i) = true := by simp; omega
          go_wp2_with fail
          go_quiet (fail)
          rw [HW.out]
          go_wp2_with fail
          go_ret
          exact ⟨rfl, _, World.drewN_drewN _ _ _⟩
      · have hin : i < n := by have := (List.getElem?_eq_some_iff.1 h1).1; omega
        have him : i < m := by have := (List.getElem?_eq_some_iff.1 h2).1; omega
        obtain ⟨ba, oa, rfl, _⟩ := HX.out.pos (by omega)
        obtain ⟨bb, ob, rfl, _⟩ := HY.out.pos (by omega)
        obtain ⟨x, hx1, hx2, _⟩ := HX.out.at_ i hin
        obtain ⟨y, hy1, hy2, _⟩ := HY.out.at_ i him
        have hne : x.toNat ≠ y.toNat := fun e => h3 (by
          rw [h1] at hx1; rw [h2] at hy1
          rw [Option.some.inj hx1, Option.some.inj hy1]
          exact UInt8.toNat_inj.1 e)
        have t1 : ((x.toNat : Int) == (y.toNat : Int)) = false := by simp; omega
        have t2 : ¬ (x.toNat : Int) = (y.toNat : Int) := by omega
        have c1 : W.cell? ⟨ba, oa + i, none⟩ = some (.int .u8 (x.toNat : Int)) := by rw [hW]; exact hx2
        have c2 : W.cell? ⟨bb, ob + i, none⟩ = some (.int .u8 (y.toNat : Int)) := by rw [hW]; exact hy2
        rw [← hW]
        have HW := Lib.hid hW
        clear hW h1 h2 h3 hx1 hx2 hy1 hy2
        go_wp2_with fail
        go_quiet (fail)
        rw [HW.out]
        go_wp2_with fail
        go_ret
        exact ⟨rfl, _, World.drewN_drewN _ _ _⟩
/-- The first k pairs of neighbours stand in order. -/
def ordK (es : List En) : Nat → Bool
  | 0 => true
  | i + 1 => ordK es i && (match es[i]?, es[i + 1]? with
    | some a, some b => lessE a b
    | _, _ => true)
def ordE (es : List En) : Bool := ordK es (es.length - 1)
theorem ordK_step {es : List En} {i : Nat} {a b : En} (h1 : es[i]? = some a) (h2 : es[i + 1]? = some b) : ordK es (i + 1) = (ordK es i && lessE a b) := by rw [ordK, h1, h2]
theorem ordK_false {es : List En} {i : Nat} (h : ordK es i = false) : ∀ j, i ≤ j → ordK es j = false
  | 0, hj => by obtain rfl : i = 0 := by omega
                exact h
  | j + 1, hj => by
    by_cases e : i = j + 1
    · subst e; exact h
    · rw [ordK, ordK_false h j (by omega), Bool.false_and]
set_option maxRecDepth 100000 in
set_option maxHeartbeats 4000000 in
theorem inOrder8_any {w : World} {A : Option Addr} {n c : Nat} {es : List En} (h : REs w A n es) (hn : n ≤ 1099511627776) : Calls Tryz.prog 164 #[.slice A n c] w (RetT w (ordE es)) := by
  have HL := Lib.hid h.len
  have HR := Lib.hid h
  clear h
  go_enter Tryz.func164, Tryz.ntmps164
  go_wp2_with fail
  go_loopw [3] (fun s3 wr => ∃ i : Nat, (i < n ∨ i = 0) ∧ s3 = .int .i64 ((i + 1 : Nat) : Int) ∧ ordK es i = true ∧ Below w.heap.size w wr) (fun s _ => n + 1 - (intOf s).toNat)
  case atStart => exact ⟨0, .inr rfl, rfl, rfl, Below.refl _ _⟩
  case round =>
    obtain ⟨i, hi, rfl, ho, hB⟩ := hrel
    have HB := Lib.hid hB
    have HO := Lib.hid ho
    have hR := HR.out.below hB
    clear hB ho
    obtain ⟨k, hk⟩ : ∃ k, k = i + 1 := ⟨_, rfl⟩
    rw [← hk]
    by_cases hlt : k < n
    · obtain ⟨b, off, hAb, hbl⟩ := hR.pos (by omega)
      subst hAb
      obtain ⟨x, v0, v1, v2, v3, hx, c0, c1, c2, c3, hev⟩ := hR.at_ i (by omega)
      obtain ⟨y, u0, u1, u2, u3, hy, d0, d1, d2, d3, hew⟩ := hR.at_ k hlt
      have HL1 : Hid (∀ wx, Below wr.heap.size wr wx → Calls Tryz.prog 106 #[.agg #[v0, v1, v2, v3], .agg #[u0, u1, u2, u3]] wx (RetT wx (lessE x y))) := Lib.hid (fun wx hb => memLess_any (hev.below hb) (hew.below hb))
      have HSX : Hid (∀ wx, Below wr.heap.size wr wx → wx.cell? ⟨b, off + i * 4, none⟩ = some v0 ∧ wx.cell? ⟨b, off + i * 4 + 1, none⟩ = some v1 ∧ wx.cell? ⟨b, off + i * 4 + 2, none⟩ = some v2 ∧ wx.cell? ⟨b, off + i * 4 + 3, none⟩ = some v3 ∧ wx.cell? ⟨b, off + k * 4, none⟩ = some u0 ∧ wx.cell? ⟨b, off + k * 4 + 1, none⟩ = some u1 ∧ wx.cell? ⟨b, off + k * 4 + 2, none⟩ = some u2 ∧ wx.cell? ⟨b, off + k * 4 + 3, none⟩ = some u3) := Lib.hid (fun wx h =>
        ⟨(h.cell (p := ⟨b, off + i * 4, none⟩) hbl).trans c0, (h.cell (p := ⟨b, off + i * 4 + 1, none⟩) hbl).trans c1, (h.cell (p := ⟨b, off + i * 4 + 2, none⟩) hbl).trans c2, (h.cell (p := ⟨b, off + i * 4 + 3, none⟩) hbl).trans c3, (h.cell (p := ⟨b, off + k * 4, none⟩) hbl).trans d0, (h.cell (p := ⟨b, off + k * 4 + 1, none⟩) hbl).trans d1, (h.cell (p := ⟨b, off + k * 4 + 2, none⟩) hbl).trans d2, (h.cell (p := ⟨b, off + k * 4 + 3, none⟩) hbl).trans d3⟩)
      have hB0 : Below wr.heap.size wr wr.drew := (Below.refl _ _).drew
      have hk1 : IntKind.i64.wrap ((k : Int) - 1) = (i : Int) := by rw [IntWalk.i64_in _ (by omega)]; omega
      have hin : i < n := by omega
      have HST : Hid (ordK es k = (ordK es i && lessE x y)) := Lib.hid (by rw [hk]; exact ordK_step hx (by rw [← hk]; exact hy))
      have HKI := Lib.hid hk
      obtain ⟨z, hz⟩ : ∃ z, z = lessE x y := ⟨_, rfl⟩
      rw [← hz] at HL1 HST
      clear hR hx hev hy hew hz hk
      cases z with
      | true =>
        go_wp2_with fail
        go_region_held3 (fun wx => wx.cell? ⟨b, off + i * 4, none⟩ = some v0 ∧ wx.cell? ⟨b, off + i * 4 + 1, none⟩ = some v1 ∧ wx.cell? ⟨b, off + i * 4 + 2, none⟩ = some v2 ∧ wx.cell? ⟨b, off + i * 4 + 3, none⟩ = some v3 ∧ wx.cell? ⟨b, off + k * 4, none⟩ = some u0 ∧ wx.cell? ⟨b, off + k * 4 + 1, none⟩ = some u1 ∧ wx.cell? ⟨b, off + k * 4 + 2, none⟩ = some u2 ∧ wx.cell? ⟨b, off + k * 4 + 3, none⟩ = some u3) (first | assumption | exact HSX.out _ hB0)
          (first | (go_at_call 106; with_reducible refine (HL1.out _ (by assumption)).mono ?_; intro e1 wn hq; obtain ⟨h1, bn⟩ := RetT.outD hq; subst h1; have bn' := belowT' (by assumption : Below wr.heap.size wr _) bn; have hS1 := HSX.out _ bn'))
        all_goals
          have HBN : Hid (Below w.heap.size w _) := Lib.hid (HB.out.trans ((by assumption : Below wr.heap.size wr wn).mono HB.out.size))
          go_wp2_with fail
          go_roundw
          case rel => exact ⟨k, .inl hlt, by go_num, by rw [HST.out, HO.out]; rfl, HBN.out⟩
          case measure => simp [intOf]; omega
      | false =>
        go_wp2_with fail
        go_region_held3 (fun wx => wx.cell? ⟨b, off + i * 4, none⟩ = some v0 ∧ wx.cell? ⟨b, off + i * 4 + 1, none⟩ = some v1 ∧ wx.cell? ⟨b, off + i * 4 + 2, none⟩ = some v2 ∧ wx.cell? ⟨b, off + i * 4 + 3, none⟩ = some v3 ∧ wx.cell? ⟨b, off + k * 4, none⟩ = some u0 ∧ wx.cell? ⟨b, off + k * 4 + 1, none⟩ = some u1 ∧ wx.cell? ⟨b, off + k * 4 + 2, none⟩ = some u2 ∧ wx.cell? ⟨b, off + k * 4 + 3, none⟩ = some u3) (first | assumption | exact HSX.out _ hB0)
          (first | (go_at_call 106; with_reducible refine (HL1.out _ (by assumption)).mono ?_; intro e1 wn hq; obtain ⟨h1, bn⟩ := RetT.outD hq; subst h1; have bn' := belowT' (by assumption : Below wr.heap.size wr _) bn; have hS1 := HSX.out _ bn'))
        all_goals
          have HBN : Hid (Below w.heap.size w _) := Lib.hid (HB.out.trans ((by assumption : Below wr.heap.size wr wn).mono HB.out.size))
          have HFIN : Hid (ordE es = false) := Lib.hid (by
            have h1 := HST.out
            rw [Bool.and_false] at h1
            exact ordK_false h1 _ (by rw [HL.out]; omega))
          go_wp2_with fail
          go_ret
          exact ⟨by rw [HFIN.out]; rfl, HBN.out⟩
    · have HFIN : Hid (ordE es = true) := Lib.hid (by
        have h1 := HO.out
        unfold ordE
        rw [HL.out]
        obtain rfl : n - 1 = i := by omega
        exact h1)
      go_wp2_with fail
      go_ret
      exact ⟨by rw [HFIN.out]; rfl, HB.out⟩
end Go.Proofs.YtlnpicfkcahdbaaGreat
namespace Go.Proofs.YtlnpicfkcahdbaaGreat
open Go Go.RowKit

theorem Rd.keptG {w w' : World} {A : Option Addr} {n : Nat} {xs : List UInt8} {row : Option Nat} (h : Rd w A n xs) (hg : w.grownBy w' row) (hne : ∀ b, blk A = some b → row ≠ some b) : Rd w' A n xs := by
  refine ⟨h.1, fun hn => ?_⟩
  obtain ⟨b, off, e, hb, hc⟩ := h.2 hn
  refine ⟨b, off, e, Nat.lt_of_lt_of_le hb hg.size, fun i x hx => hg.cell (hc i x hx) (fun e2 => ?_)⟩
  subst e
  exact hne b rfl e2.symm
theorem numR_bad {xs : List UInt8} {s : Nat × Bool} (h : (numR xs s).2.2 = false) : s.2 = false := by
  unfold numR at h
  split at h
  · exact h
  · cases h
theorem takeR_bad {xs : List UInt8} {n : Nat} {s : Nat × Bool} (h : (takeR xs n s).2.2 = false) : s.2 = false ∧ (s.1 ≤ xs.length → n ≤ xs.length - s.1 ∧ (takeR xs n s).1.length = n) := by
  unfold takeR at h ⊢
  split at h
  · cases h
  · rename_i h2
    rw [if_neg h2]
    refine ⟨h, fun h3 => ⟨by omega, ?_⟩⟩
    simp only [List.length_take, List.length_drop]
    omega
/-- The seven pieces of an entry, one behind the other. -/
def e1R (xs : List UInt8) (a : Nat) := numR xs (a, false)
def e2R (xs : List UInt8) (a : Nat) := numR xs (e1R xs a).2
def e3R (xs : List UInt8) (a : Nat) := numR xs (e2R xs a).2
def e4R (xs : List UInt8) (a : Nat) := takeR xs 1 (e3R xs a).2
def e5R (xs : List UInt8) (a : Nat) := numR xs (e4R xs a).2
def e6R (xs : List UInt8) (a : Nat) := takeR xs (e2R xs a).1 (e5R xs a).2
def e7R (xs : List UInt8) (a : Nat) := takeR xs (e5R xs a).1 (e6R xs a).2
/-- Can't an entry be read? -/
def badR (xs ah : List UInt8) (a : Nat) : Bool := (e7R xs a).2.2 || decide (ah.length < (e1R xs a).1) || decide (1024 < (e1R xs a).1 + (e6R xs a).1.length)
/-- The entry that is read. -/
def entR (xs ah : List UInt8) (a : Nat) : En := ⟨ah.take (e1R xs a).1 ++ (e6R xs a).1, (e3R xs a).1, ((e4R xs a).1.headD 0).toNat, (e7R xs a).1⟩
/-- What entry hands back. -/
def RetE8 (w : World) (p : Nat) (E : Option Addr) (en ec : Nat) (xs ah : List UInt8) (a : Nat) (e : Ending) (w' : World) : Prop :=
  Rdr w' p E en ec (e7R xs a).2 ∧ w.grownBy w' (some p) ∧
  ((badR xs ah a = true ∧ e = .returned (.tuple #[.agg #[.slice none 0 0, .int .u64 0, .int .u8 0, .slice none 0 0], .bool false])) ∨
   (badR xs ah a = false ∧ ∃ K kn kc V vn vc, e = .returned (.tuple #[.agg #[.slice K kn kc, .int .u64 ((entR xs ah a).seq : Int), .int .u8 ((entR xs ah a).kind : Int), .slice V vn vc], .bool true]) ∧
     Own 5 w' w.heap.size K kn kc (entR xs ah a).key ∧ Own 5 w' w.heap.size V vn vc (entR xs ah a).val ∧ Dj K V))
theorem rdl_two8 {w : World} {t : TypeId} {v1 v2 : Value} {x1 x2 : List UInt8} (h1 : ElB w v1 x1) (h2 : ElB w v2 x2) (g : Nat) (hg : g = w.heap.size) : RdL (w.alloc (.cells #[v1, v2] t)) (some ⟨g, 0, none⟩) 2 [x1, x2] := by
  subst hg
  refine ⟨rfl, fun _ => ⟨w.heap.size, 0, rfl, by simp, fun i x hi => ?_⟩⟩
  match i, hi with
  | 0, hi =>
    injection hi with hi
    subst hi
    refine ⟨v1, ?_, h1.below ((Below.refl _ _).alloc (Nat.le_refl _) _)⟩
    rw [cell_of_row (w.alloc (.cells #[v1, v2] t)) w.heap.size (0 + 0) #[v1, v2] t (0, 0) (heap_alloc_new w _)]
    rfl
  | 1, hi =>
    injection hi with hi
    subst hi
    refine ⟨v2, ?_, h2.below ((Below.refl _ _).alloc (Nat.le_refl _) _)⟩
    rw [cell_of_row (w.alloc (.cells #[v1, v2] t)) w.heap.size (0 + 1) #[v1, v2] t (0, 0) (heap_alloc_new w _)]
    rfl
  | i + 2, hi => simp at hi
theorem Made.outM {base : Nat} {w w' : World} {xs : List UInt8} {e : Ending} (h : Made base w xs e w') : ∃ A n c, e = .returned (.slice A n c) ∧ Own 5 w' base A n c xs ∧ Below base w w' := h
theorem cut_hu {P : Program} {t e : TypeId} (ht : P.underlying t = some (.slice e)) (he : P.elem t = e) (hs : ∀ w, (sizeOf e).run P w = .ok 1 w)
    (A : Option Addr) {n cap m : Nat} (hm : m ≤ cap) (w : World) :
    (Instr.slice t (.slice A n cap) none (some (.int .u64 (m : Int))) none).run P w = .ok (.slice A m cap) w := by
  subst he
  rw [run_slice_h w t A n cap ht .u64 (m : Int) (by omega) (by omega)]
  simp only [hs, Result.andThen, sliced, Int.toNat_natCast, Nat.zero_mul, Nat.sub_zero]
  cases A <;> simp [Addr.add]
theorem e4_one {xs : List UInt8} {a : Nat} (ha : a ≤ xs.length) (h : (e7R xs a).2.2 = false) : (e4R xs a).1.length = 1 := by
  unfold e7R at h
  have h6 := (takeR_bad h).1
  unfold e6R at h6
  have h5 := (takeR_bad h6).1
  unfold e5R at h5
  have h4 := numR_bad h5
  have q1 := (numR_le (xs := xs) (s := (a, false)) ha).1
  have q2 := (numR_le (xs := xs) (s := (e1R xs a).2) (by unfold e1R; exact q1)).1
  have q3 := (numR_le (xs := xs) (s := (e2R xs a).2) (by unfold e2R; exact q2)).1
  unfold e4R at h4 ⊢
  exact ((takeR_bad h4).2 (by unfold e3R; exact q3)).2
/-- Four stores into the result's own box. -/
theorem e8_fin {w U w7 X : World} {p : Nat} {E : Option Addr} {en ec : Nat} {s : Nat × Bool} {q : Array Value} {a b c d : Value} (bU : Below w.heap.size w U) (g7 : U.grownBy w7 (some p)) (z7 : Cl w7 w.heap.size q 31) (hq : q.size = 4) (r7 : Rdr w7 p E en ec s) (hp : p < w.heap.size)
    (hX : X = (((w7.setCell ⟨w.heap.size, 0, none⟩ a).setCell ⟨w.heap.size, 1, none⟩ b).setCell ⟨w.heap.size, 2, none⟩ c).setCell ⟨w.heap.size, 3, none⟩ d) :
    Rdr X p E en ec s ∧ w.grownBy X (some p) ∧ Cl X w.heap.size #[a, b, c, d] 31 := by
  have hr7 : Cl w7 p _ 254 := r7
  refine ⟨?_, ?_, by rw [hX]; exact z7.put4 hq a b c d⟩
  · rw [hX]
    exact (((hr7.off 0 a (by omega)).off 1 b (by omega)).off 2 c (by omega)).off 3 d (by omega)
  · have h1 : w.grownBy U (some p) := ⟨bU.os, bU.tape, bU.output, bU.size, fun i hi _ => bU.block i hi⟩
    have h2 : w7.grownBy X (some w.heap.size) := by
      rw [hX]
      exact (((grown_set1 w7 _ 0 a).trans (grown_set1 _ _ 1 b)).trans (grown_set1 _ _ 2 c)).trans (grown_set1 _ _ 3 d)
    exact grown_then (h1.trans g7) h2 (fun j hj => by injection hj with hj; exact .inl (by omega))
/-- How a read entry is handed back. -/
theorem e8_ok {w U w7 w9 wc wn X : World} {p : Nat} {E : Option Addr} {en ec : Nat} {xs ah : List UInt8} {a : Nat} {K V : Option Addr} {kn kc vn vc sq kd : Nat} {q : Array Value} (bU : Below w.heap.size w U) (hU : w.heap.size < U.heap.size) (g7 : U.grownBy w7 (some p)) (z7 : Cl w7 w.heap.size q 31) (hq : q.size = 4) (r7 : Rdr w7 p E en ec (e7R xs a).2) (hp : p < w.heap.size)
    (b79 : Below w7.heap.size w7 w9) (oK : Own 5 w9 w7.heap.size K kn kc (entR xs ah a).key) (hc9 : w9.heap.size = wc.heap.size) (b9n : Below w9.heap.size w9 wn) (oV : Own 5 wn wc.heap.size V vn vc (entR xs ah a).val)
    (hbad : badR xs ah a = false) (hsq : (entR xs ah a).seq = sq) (hkd : (entR xs ah a).kind = kd)
    (hX : X = (((wn.setCell ⟨w.heap.size, 0, none⟩ (.slice K kn kc)).setCell ⟨w.heap.size, 1, none⟩ (.int .u64 (sq : Int))).setCell ⟨w.heap.size, 2, none⟩ (.int .u8 (kd : Int))).setCell ⟨w.heap.size, 3, none⟩ (.slice V vn vc)) :
    Cl X w.heap.size #[.slice K kn kc, .int .u64 (sq : Int), .int .u8 (kd : Int), .slice V vn vc] 31 ∧
    RetE8 w p E en ec xs ah a (.returned (.tuple #[.agg #[.slice K kn kc, .int .u64 (sq : Int), .int .u8 (kd : Int), .slice V vn vc], .bool true])) X := by
  have s7 := g7.size
  have s79 := b79.size
  have b7n : Below w7.heap.size w7 wn := b79.trans (b9n.mono s79)
  have gn : U.grownBy wn (some p) := g7.trans ⟨b7n.os, b7n.tape, b7n.output, b7n.size, fun i hi _ => b7n.block i hi⟩
  obtain ⟨q1, q2, q3⟩ := e8_fin bU gn (z7.below b7n) hq ((show Cl w7 p _ _ from r7).below b7n) hp hX
  have oK2 := oK.below b9n
  have oV2 := oV.mono (show w7.heap.size ≤ wc.heap.size by omega)
  have dj : Dj K V := Dj.old oK oV (by omega)
  refine ⟨q3, q1, q2, .inr ⟨hbad, K, kn, kc, V, vn, vc, by rw [hsq, hkd], ?_, ?_, dj⟩⟩
  · rw [hX]
    exact ((((oK2.set (by omega) 0 _).set (by omega) 1 _).set (by omega) 2 _).set (by omega) 3 _).mono (by omega)
  · rw [hX]
    exact ((((oV2.set (by omega) 0 _).set (by omega) 1 _).set (by omega) 2 _).set (by omega) 3 _).mono (by omega)
set_option maxRecDepth 100000 in
set_option maxHeartbeats 16000000 in
theorem entry_any (w : World) (p : Nat) (E : Option Addr) (en ec : Nat) (xs : List UInt8) (A : Option Addr) (an ac : Nat) (ah : List UInt8) (a : Nat) (h : Rdr w p E en ec (a, false)) (hr : Rd w E en xs) (hA : Rd w A an ah) (ha : a ≤ en) (hn : en ≤ 1099511627776) (hc : en ≤ ec) (hnil : E = none → ec = 0)
    (han : an ≤ 1048576) (hac : an ≤ ac) (hpe : blk E ≠ some p) (hpa : blk A ≠ some p) (hanil : A = none → ac = 0) :
    Calls Tryz.prog 194 #[.pointer (some ⟨p, 0, none⟩), .slice A an ac] w (RetE8 w p E en ec xs ah a) := by
  have hxl := hr.len
  obtain ⟨g, hg⟩ : ∃ g, g = w.heap.size := ⟨_, rfl⟩
  have hpg : p < g := by rw [hg]; exact (show Cl w p _ _ from h).lt
  obtain ⟨U, hU⟩ : ∃ U, U = w.alloc (.cells #[.slice none 0 0, .int .u64 0, .int .u8 0, .slice none 0 0] 31) := ⟨_, rfl⟩
  have bU : Below w.heap.size w U := by rw [hU]; exact (Below.refl _ _).alloc (Nat.le_refl _) _
  have hU1 : Rdr U p E en ec (a, false) := (show Cl w p _ _ from h).below bU
  have zU : Cl U g #[.slice none 0 0, .int .u64 0, .int .u8 0, .slice none 0 0] 31 := by rw [hU, hg]; exact Cl.new _ _ _
  -- what stands whenever the reader alone has changed
  have KE : Hid (∀ wx, U.grownBy wx (some p) → Rd wx E en xs ∧ Rd wx A an ah ∧ Cl wx g #[.slice none 0 0, .int .u64 0, .int .u8 0, .slice none 0 0] 31) := Lib.hid (fun wx hgx => ⟨(hr.below bU).keptG hgx (fun b hb e => hpe (by rw [hb]; exact e.symm)), (hA.below bU).keptG hgx (fun b hb e => hpa (by rw [hb]; exact e.symm)), ClG.grown zU hgx (fun e => by injection e with e; omega)⟩)
  have h1 : (e1R xs a).2.1 ≤ en ∧ (e1R xs a).1 < B64 := by have := numR_le (xs := xs) (s := (a, false)) (by simp only; omega); rw [← hxl]; exact this
  have h2 : (e2R xs a).2.1 ≤ en ∧ (e2R xs a).1 < B64 := by have := numR_le (xs := xs) (s := (e1R xs a).2) (by omega); rw [← hxl]; exact this
  have h3 : (e3R xs a).2.1 ≤ en ∧ (e3R xs a).1 < B64 := by have := numR_le (xs := xs) (s := (e2R xs a).2) (by omega); rw [← hxl]; exact this
  have h4 : (e4R xs a).2.1 ≤ en := by have := (takeR_le (xs := xs) (n := 1) (s := (e3R xs a).2) (by omega)).1; rw [← hxl]; exact this
  have h5 : (e5R xs a).2.1 ≤ en ∧ (e5R xs a).1 < B64 := by have := numR_le (xs := xs) (s := (e4R xs a).2) (by omega); rw [← hxl]; exact this
  have h6 : (e6R xs a).2.1 ≤ en := by have := (takeR_le (xs := xs) (n := (e2R xs a).1) (s := (e5R xs a).2) (by omega)).1; rw [← hxl]; exact this
  -- the calls, each from whatever the reader alone has changed
  have C1 : Hid (Calls Tryz.prog 214 #[.pointer (some ⟨p, 0, none⟩)] U (RetN U p E en ec (e1R xs a))) := Lib.hid (number_any U p E en ec xs a false hU1 (hr.below bU) ha hn hc)
  have C2 : Hid (∀ wx, U.grownBy wx (some p) → Rdr wx p E en ec (e1R xs a).2 → Calls Tryz.prog 214 #[.pointer (some ⟨p, 0, none⟩)] wx (RetN wx p E en ec (e2R xs a))) := Lib.hid (fun wx hw hc2 => number_any wx p E en ec xs _ _ hc2 (KE.out wx hw).1 h1.1 hn hc)
  have C3 : Hid (∀ wx, U.grownBy wx (some p) → Rdr wx p E en ec (e2R xs a).2 → Calls Tryz.prog 214 #[.pointer (some ⟨p, 0, none⟩)] wx (RetN wx p E en ec (e3R xs a))) := Lib.hid (fun wx hw hc2 => number_any wx p E en ec xs _ _ hc2 (KE.out wx hw).1 h2.1 hn hc)
  have C4 : Hid (∀ wx, U.grownBy wx (some p) → Rdr wx p E en ec (e3R xs a).2 → Calls Tryz.prog 215 #[.pointer (some ⟨p, 0, none⟩), .int .u64 1] wx (RetT8 wx p E en ec xs (e4R xs a))) := Lib.hid (fun wx hw hc2 => take_any wx p E en ec xs 1 _ _ hc2 hxl h3.1 hn hc (by unfold B64; omega) hnil)
  have C5 : Hid (∀ wx, U.grownBy wx (some p) → Rdr wx p E en ec (e4R xs a).2 → Calls Tryz.prog 214 #[.pointer (some ⟨p, 0, none⟩)] wx (RetN wx p E en ec (e5R xs a))) := Lib.hid (fun wx hw hc2 => number_any wx p E en ec xs _ _ hc2 (KE.out wx hw).1 h4 hn hc)
  have C6 : Hid (∀ wx, U.grownBy wx (some p) → Rdr wx p E en ec (e5R xs a).2 → Calls Tryz.prog 215 #[.pointer (some ⟨p, 0, none⟩), .int .u64 ((e2R xs a).1 : Int)] wx (RetT8 wx p E en ec xs (e6R xs a))) := Lib.hid (fun wx hw hc2 => take_any wx p E en ec xs _ _ _ hc2 hxl h5.1 hn hc h2.2 hnil)
  have C7 : Hid (∀ wx, U.grownBy wx (some p) → Rdr wx p E en ec (e6R xs a).2 → Calls Tryz.prog 215 #[.pointer (some ⟨p, 0, none⟩), .int .u64 ((e5R xs a).1 : Int)] wx (RetT8 wx p E en ec xs (e7R xs a))) := Lib.hid (fun wx hw hc2 => take_any wx p E en ec xs _ _ _ hc2 hxl h6 hn hc h5.2 hnil)
  have BU := Lib.hid bU
  have HU := Lib.hid hU
  have HG := Lib.hid hg
  have hsh := h1.2
  unfold B64 at hsh
  obtain ⟨sh, hshe⟩ : ∃ sh, sh = (e1R xs a).1 := ⟨_, rfl⟩
  obtain ⟨lf, hlfe⟩ : ∃ lf, lf = (e2R xs a).1 := ⟨_, rfl⟩
  obtain ⟨sq, hsqe⟩ : ∃ sq, sq = (e3R xs a).1 := ⟨_, rfl⟩
  obtain ⟨sz, hsze⟩ : ∃ sz, sz = (e5R xs a).1 := ⟨_, rfl⟩
  have HSH := Lib.hid hshe
  have HLF := Lib.hid hlfe
  have HSQ := Lib.hid hsqe
  have HSZ := Lib.hid hsze
  rw [← hshe] at hsh
  have HEB : Hid (∀ b, blk E = some b → 0 < en → b < w.heap.size) := Lib.hid (fun b hb hp => by
    obtain ⟨b', o', e, hb2⟩ := hr.pos hp
    rw [e] at hb
    injection hb with hb
    simp only at hb
    omega)
  clear h hr hA hU hU1 zU bU h1 h2 h3 h4 h5 h6 hg hshe hlfe hsqe hsze
  go_enter Tryz.func194, Tryz.ntmps194
  go_upto_region 1 with (fail)
  rw [← HU.out]
  go_wp2_with fail
  with_reducible refine C1.out.mono ?_
  intro e w1 hq
  obtain ⟨he, r1, g1⟩ := RetN.out hq
  subst he
  rw [← HSH.out]
  go_wp2_with fail
  with_reducible refine (C2.out _ g1 r1).mono ?_
  clear hq
  intro e w2 hq
  obtain ⟨he, r2, g2⟩ := RetN.out hq
  subst he
  rw [← HLF.out]
  have g2 := g1.trans g2
  clear hq r1 g1 C1 C2
  go_wp2_with fail
  with_reducible refine (C3.out _ g2 r2).mono ?_
  intro e w3 hq
  obtain ⟨he, r3, g3⟩ := RetN.out hq
  subst he
  rw [← HSQ.out]
  have g3 := g2.trans g3
  clear hq r2 g2 C3
  go_wp2_with fail
  with_reducible refine (C4.out _ g3 r3).mono ?_
  rintro e w4 ⟨B4, k4, d4, rfl, r4, g4, x41, x42, x43, x44, x45⟩
  have g4 := g3.trans g4
  have X4 := Lib.hid (And.intro x41 (And.intro x42 (And.intro x43 (And.intro x44 x45))))
  clear r3 g3 C4 x41 x42 x43 x44 x45
  go_wp2_with fail
  with_reducible refine (C5.out _ g4 r4).mono ?_
  intro e w5 hq
  obtain ⟨he, r5, g5⟩ := RetN.out hq
  subst he
  rw [← HSZ.out]
  have g5 := g4.trans g5
  clear hq r4 g4 C5
  rw [← HLF.out] at C6
  rw [← HSZ.out] at C7
  go_wp2_with fail
  with_reducible refine (C6.out _ g5 r5).mono ?_
  rintro e w6 ⟨B6, k6, d6, rfl, r6, g6, x61, x62, x63, x64, x65⟩
  have g6 := g5.trans g6
  have X6 := Lib.hid (And.intro x61 (And.intro x62 (And.intro x63 (And.intro x64 x65))))
  clear r5 g5 C6 x61 x62 x63 x64 x65
  go_wp2_with fail
  with_reducible refine (C7.out _ g6 r6).mono ?_
  rintro e w7 ⟨B7, k7, d7, rfl, r7, g7, x71, x72, x73, x74, x75⟩
  have g7 := g6.trans g7
  have X7 := Lib.hid (And.intro x71 (And.intro x72 (And.intro x73 (And.intro x74 x75))))
  clear r6 g6 C7 x71 x72 x73 x74 x75
  have hxl2 : ah.length = an := (KE.out U (World.grownBy.refl _ _)).2.1.len
  obtain ⟨bad, hbad⟩ : ∃ bad, bad = (e7R xs a).2.2 := ⟨_, rfl⟩
  have hc7 : Cl w7 p #[.slice E en ec, .int .i64 ((e7R xs a).2.1 : Int), .bool bad] 254 := by rw [hbad]; exact r7
  obtain ⟨c0, c1, c2, f0, f1, f2⟩ := hc7.c3
  have hk6 := X6.out.2.2.1
  have hk6b : k6 ≤ en := by
    have h1 := (takeR_le (xs := xs) (n := (e2R xs a).1) (s := (e5R xs a).2))
    rw [← hk6]
    unfold e6R
    unfold takeR
    split
    · simp
    · simp only [List.length_take, List.length_drop]; omega
  obtain ⟨_, _, z7⟩ := KE.out w7 g7
  rw [HG.out] at z7
  obtain ⟨zc0, zc1, zc2, zc3, zf0, zf1, zf2, zf3⟩ := z7.c4
  have R7 := Lib.hid r7
  have G7 := Lib.hid g7
  have Z7 := Lib.hid z7
  have HB := Lib.hid hbad
  have HK6 := Lib.hid hk6
  have HXL2 := Lib.hid hxl2
  have hgw : U.heap.size ≤ w7.heap.size := g7.size
  clear r7 g7 hc7 z7 hbad hk6 hxl2
  have hpw : p < w.heap.size := by have := HG.out; omega
  cases bad with
  | true =>
    have HBAD : Hid (badR xs ah a = true) := Lib.hid (by unfold badR; rw [← HB.out]; rfl)
    go_wp2_with fail
    obtain ⟨X, hX⟩ : ∃ X, X = (((w7.setCell ⟨w.heap.size, 0, none⟩ (.slice none 0 0)).setCell ⟨w.heap.size, 1, none⟩ (.int .u64 0)).setCell ⟨w.heap.size, 2, none⟩ (.int .u8 0)).setCell ⟨w.heap.size, 3, none⟩ (.slice none 0 0) := ⟨_, rfl⟩
    rw [← hX]
    obtain ⟨q1, q2, q3⟩ := e8_fin BU.out G7.out Z7.out rfl R7.out (by omega) hX
    obtain ⟨x0, x1, x2, x3, _⟩ := q3.c4
    refine bodyPost_ret (v := .tuple #[.agg #[.slice none 0 0, .int .u64 0, .int .u8 0, .slice none 0 0], .bool false]) (by simp [results, Tryz.results194, go_sem, x0, x1, x2, x3]; try rfl) rfl ⟨q1, q2, .inl ⟨HBAD.out, rfl⟩⟩
  | false =>
    by_cases hs : an < sh
    · have hs' : (an : Int) < (sh : Int) := by omega
      have HBAD : Hid (badR xs ah a = true) := Lib.hid (by
        unfold badR
        rw [← HB.out, HXL2.out, ← HSH.out]
        simp [hs])
      go_wp2_with fail
      obtain ⟨X, hX⟩ : ∃ X, X = (((w7.setCell ⟨w.heap.size, 0, none⟩ (.slice none 0 0)).setCell ⟨w.heap.size, 1, none⟩ (.int .u64 0)).setCell ⟨w.heap.size, 2, none⟩ (.int .u8 0)).setCell ⟨w.heap.size, 3, none⟩ (.slice none 0 0) := ⟨_, rfl⟩
      rw [← hX]
      obtain ⟨q1, q2, q3⟩ := e8_fin BU.out G7.out Z7.out rfl R7.out (by omega) hX
      obtain ⟨x0, x1, x2, x3, _⟩ := q3.c4
      refine bodyPost_ret (v := .tuple #[.agg #[.slice none 0 0, .int .u64 0, .int .u8 0, .slice none 0 0], .bool false]) (by simp [results, Tryz.results194, go_sem, x0, x1, x2, x3]; try rfl) rfl ⟨q1, q2, .inl ⟨HBAD.out, rfl⟩⟩
    · have hs' : ¬ (an : Int) < (sh : Int) := by omega
      have e1 : IntKind.i64.wrap (sh : Int) = (sh : Int) := IntWalk.i64_in _ (by omega)
      have e2 : IntKind.i64.wrap ((sh : Int) + (k6 : Int)) = (sh : Int) + (k6 : Int) := IntWalk.i64_in _ (by omega)
      by_cases hk : 1024 < sh + k6
      · have hk' : (1024 : Int) < (sh : Int) + (k6 : Int) := by omega
        have HBAD : Hid (badR xs ah a = true) := Lib.hid (by
          unfold badR
          rw [HK6.out, ← HSH.out]
          simp [hk])
        go_wp2_with fail
        obtain ⟨X, hX⟩ : ∃ X, X = (((w7.setCell ⟨w.heap.size, 0, none⟩ (.slice none 0 0)).setCell ⟨w.heap.size, 1, none⟩ (.int .u64 0)).setCell ⟨w.heap.size, 2, none⟩ (.int .u8 0)).setCell ⟨w.heap.size, 3, none⟩ (.slice none 0 0) := ⟨_, rfl⟩
        rw [← hX]
        obtain ⟨q1, q2, q3⟩ := e8_fin BU.out G7.out Z7.out rfl R7.out (by omega) hX
        obtain ⟨x0, x1, x2, x3, _⟩ := q3.c4
        refine bodyPost_ret (v := .tuple #[.agg #[.slice none 0 0, .int .u64 0, .int .u8 0, .slice none 0 0], .bool false]) (by simp [results, Tryz.results194, go_sem, x0, x1, x2, x3]; try rfl) rfl ⟨q1, q2, .inl ⟨HBAD.out, rfl⟩⟩
      · have hk' : ¬ (1024 : Int) < (sh : Int) + (k6 : Int) := by omega
        have HOK : Hid (badR xs ah a = false) := Lib.hid (by
          unfold badR
          rw [← HB.out, HXL2.out, HK6.out, ← HSH.out]
          simp [hs, hk])
        have hE7 := (KE.out w7 G7.out).1
        have hA7 := (KE.out w7 G7.out).2.1
        have hk4 : k4 = 1 := by
          rw [← X4.out.2.2.1]
          exact e4_one (by rw [(KE.out U (World.grownBy.refl _ _)).1.len]; exact ha) HB.out.symm
        subst hk4
        have r4 := X4.out.2.2.2.1 w7 hE7
        obtain ⟨b4, o4, rfl, hb4⟩ := r4.pos (by omega)
        have hb4w : b4 ≠ w.heap.size := by
          have h1 : blk E = some b4 := by
            rcases X4.out.2.2.2.2 with e | e
            · cases e
            · exact e.symm
          have h2 : 0 < en := by
            rcases Nat.eq_zero_or_pos en with e | e
            · have := (hE7.len.trans e)
              have h3 := X4.out.2.2.1
              unfold e4R takeR at h3
              rw [if_pos (by omega)] at h3
              cases h3
            · exact e
          have := HEB.out b4 h1 h2
          omega
        have hb4 : b4 < w7.heap.size := hb4
        obtain ⟨kd, hkd1, hkd2, _⟩ := r4.at_ 0 (by omega)
        have hkd2 : w7.cell? ⟨b4, o4, none⟩ = some (.int .u8 (kd.toNat : Int)) := hkd2
        have hkind : (entR xs ah a).kind = kd.toNat := by
          unfold entR
          simp only
          cases hq : (e4R xs a).1 with
          | nil => rw [hq] at hkd1; cases hkd1
          | cons y ys => rw [hq] at hkd1; injection hkd1 with hkd1; rw [hkd1]; rfl
        have r7v := X7.out.2.2.2.1 w7 hE7
        have hk7 : k7 ≤ en := by
          have h1 := (takeR_le (xs := xs) (n := (e5R xs a).1) (s := (e6R xs a).2))
          rw [← X7.out.2.2.1]
          have hlen := hE7.len
          unfold e7R takeR
          split
          · simp
          · simp only [List.length_take, List.length_drop]; omega
        have hsl : ∀ W : World, (Instr.slice 28 (.slice A an ac) none (some (.int .u64 (sh : Int))) none).run Tryz.prog W = .ok (.slice A sh ac) W :=
          cut_hu Tryz.underlying28 elem_bytes size_u8 A (by omega)
        have hCC := Concat_any (some ⟨w7.heap.size, 0, none⟩) 2 2 [ah.take sh, (e6R xs a).1] _ (rdl_two8 (w := w7) (t := 28) ⟨A, sh, ac, rfl, hA7.take (by omega), by omega, hanil⟩ ⟨B6, k6, d6, rfl, X6.out.2.2.2.1 w7 hE7, X6.out.1, X6.out.2.1⟩ _ rfl) (by
          simp only [tot, List.length_take, HK6.out, HXL2.out]
          omega)
        have hfl : [ah.take sh, (e6R xs a).1].flatten = (entR xs ah a).key := by
          unfold entR
          rw [← HSH.out]
          simp
        rw [hfl] at hCC
        have HCC := Lib.hid hCC
        have R4C := Lib.hid hkd2
        have HKD := Lib.hid hkind
        have R7V := Lib.hid r7v
        have hval : (entR xs ah a).val = (e7R xs a).1 := rfl
        rw [← hval] at R7V
        have hkn7 : k7 ≤ 140737488355328 := by omega
        clear hE7 hA7 r4 hkd1 hkd2 hkind r7v hCC hfl hval hk7 X4
        go_wp2_with fail
        with_reducible refine HCC.out.mono ?_
        intro e w9 hq
        obtain ⟨K, kn, kc, he, oK, b9⟩ := Made.outM hq
        subst he
        have b79 : Below w7.heap.size w7 w9 := ((Below.refl _ _).alloc (Nat.le_refl _) _).trans (b9.mono (by simp))
        have oK2 := oK.mono (show w7.heap.size ≤ _ by simp)
        have s79 := b79.size
        have HS : Hid (∀ wx, Below w9.heap.size w9 wx → wx.cell? ⟨b4, o4, none⟩ = some (.int .u8 (kd.toNat : Int)) ∧ wx.cell? ⟨w.heap.size, 0, none⟩ = some (.slice none 0 0) ∧ wx.cell? ⟨w.heap.size, 1, none⟩ = some (.int .u64 0) ∧ wx.cell? ⟨w.heap.size, 2, none⟩ = some (.int .u8 0) ∧ wx.cell? ⟨w.heap.size, 3, none⟩ = some (.slice none 0 0) ∧ wx.frozen? ⟨w.heap.size, 0, none⟩ = false ∧ wx.frozen? ⟨w.heap.size, 1, none⟩ = false ∧ wx.frozen? ⟨w.heap.size, 2, none⟩ = false ∧ wx.frozen? ⟨w.heap.size, 3, none⟩ = false) := Lib.hid (fun wx hb => by
          have hb7 : Below w7.heap.size w7 wx := b79.trans (hb.mono s79)
          obtain ⟨t0, t1, t2, t3, y0, y1, y2, y3⟩ := (Z7.out.below hb7).c4
          exact ⟨(hb7.cell (p := ⟨b4, o4, none⟩) hb4).trans R4C.out, t0, t1, t2, t3, y0, y1, y2, y3⟩)
        have HCL : Hid (∀ wx, Below w9.heap.size w9 wx → Calls Tryz.prog 104 #[.slice B7 k7 d7] wx (Made wx.heap.size wx (entR xs ah a).val)) := Lib.hid (fun wx hb => Clone_any B7 k7 d7 _ wx (R7V.out.below (b79.trans (hb.mono s79))) hkn7 X7.out.2.1)
        have hB0 : Below w9.heap.size w9 w9.drew := (Below.refl _ _).drew
        have HOK9 := Lib.hid (And.intro oK2 b79)
        clear hq oK b9 b79 oK2 HCC zc0 zc1 zc2 zc3 zf0 zf1 zf2 zf3 c0 c1 c2 f0 f1 f2
        obtain ⟨zc, zc0, zc1, zc2, zc3, zf0, zf1, zf2, zf3⟩ := HS.out w9 (Below.refl _ _)
        go_wp2_with fail
        have HK4 : Hid (∀ (wx : World) (a b c d : Value), wx.cell? ⟨b4, o4, none⟩ = some (.int .u8 (kd.toNat : Int)) → ((((wx.setCell ⟨w.heap.size, 0, none⟩ a).setCell ⟨w.heap.size, 1, none⟩ b).setCell ⟨w.heap.size, 2, none⟩ c).setCell ⟨w.heap.size, 3, none⟩ d).cell? ⟨b4, o4, none⟩ = some (.int .u8 (kd.toNat : Int))) := Lib.hid (fun wx a b c d h => by
          rw [cell_far _ _ _ _ hb4w, cell_far _ _ _ _ hb4w, cell_far _ _ _ _ hb4w, cell_far _ _ _ _ hb4w]
          exact h)
        go_region_held3 (fun wx => wx.cell? ⟨b4, o4, none⟩ = some (.int .u8 (kd.toNat : Int))) (first | with_reducible assumption | with_reducible exact (HS.out _ hB0).1 | with_reducible exact HK4.out _ _ _ _ _ yc)
          (first | (go_at_call 104; with_reducible refine (HCL.out _ (by assumption)).mono ?_; intro e1 wn hq; obtain ⟨V, vn, vc, h1, oV, bn⟩ := Made.outM hq; subst h1; have bn' := belowT' (by assumption : Below w9.heap.size w9 _) bn; have hS1 := HS.out _ bn'; obtain ⟨yc, yc0, yc1, yc2, yc3, yf0, yf1, yf2, yf3⟩ := hS1))
        all_goals
          have hUw : w.heap.size < U.heap.size := by rw [HU.out]; simp
          have hsq : (entR xs ah a).seq = sq := HSQ.out.symm
          obtain ⟨X, hX⟩ : ∃ X, X = (((wn.setCell ⟨w.heap.size, 0, none⟩ (.slice K kn kc)).setCell ⟨w.heap.size, 1, none⟩ (.int .u64 (sq : Int))).setCell ⟨w.heap.size, 2, none⟩ (.int .u8 (kd.toNat : Int))).setCell ⟨w.heap.size, 3, none⟩ (.slice V vn vc) := ⟨_, rfl⟩
          obtain ⟨q1, q2⟩ := e8_ok BU.out hUw G7.out Z7.out rfl R7.out (by omega) HOK9.out.2 HOK9.out.1 rfl bn' oV HOK.out hsq HKD.out hX
          obtain ⟨x0, x1, x2, x3, _⟩ := q1.c4
          have HQ2 := Lib.hid q2
          rw [← hX]
          clear hX q1 q2 hsq zc zc0 zc1 zc2 zc3 zf0 zf1 zf2 zf3 yc yc0 yc1 yc2 yc3 yf0 yf1 yf2 yf3
          go_wp2_with fail
          refine bodyPost_ret (v := .tuple #[.agg #[.slice K kn kc, .int .u64 (sq : Int), .int .u8 (kd.toNat : Int), .slice V vn vc], .bool true]) (by simp [results, Tryz.results194, go_sem, x0, x1, x2, x3]; try rfl) rfl HQ2.out
end Go.Proofs.YtlnpicfkcahdbaaGreat
namespace Go.Proofs.YtlnpicfkcahdbaaGreat
open Go Go.RowKit

theorem putB_only {fs : List UInt8} {b d : Nat} (hne : b ≠ d) : setB (putB fs b) d = setB fs d := by
  by_cases e : d / 8 = b / 8
  · by_cases hl : b / 8 < fs.length
    · have hp : 2 ^ (b % 8) < 256 := Nat.lt_of_lt_of_le (Nat.pow_lt_pow_right (by omega) (Nat.mod_lt b (by omega))) (by decide)
      have hm : b % 8 ≠ d % 8 := by omega
      rw [setB_eq, setB_eq]
      unfold putB
      rw [e, List.getElem?_set_self hl, Option.getD_some, toNat_or (UInt8.toNat_lt _) hp, Nat.testBit_or, Nat.testBit_two_pow_of_ne hm, Bool.or_false]
    · unfold putB
      rw [List.set_eq_of_length_le (by omega)]
  · rw [setB_eq, setB_eq, putB_off (fun e2 => e e2.symm)]
/-- One bit more among the bools. -/
def putO (bs : List Bool) (b : Nat) : List Bool := bs.set b true
/-- 'The bools are the filter's bits.' -/
def Bits (n : Nat) (fs : List UInt8) (bs : List Bool) : Prop := fs.length = n + 1 ∧ bs.length = 8 * n ∧ ∀ d, d < 8 * n → bs[d]? = some (setB fs d)
theorem Bits.put {n : Nat} {fs : List UInt8} {bs : List Bool} (h : Bits n fs bs) {b : Nat} (hb : b < 8 * n) : Bits n (putB fs b) (putO bs b) := by
  refine ⟨by rw [putB_len]; exact h.1, by rw [putO, List.length_set]; exact h.2.1, fun d hd => ?_⟩
  unfold putO
  by_cases e : b = d
  · subst e
    rw [List.getElem?_set_self (by rw [h.2.1]; exact hb), putB_self (by have := h.1; omega)]
  · rw [List.getElem?_set_ne e, putB_only e]
    exact h.2.2 d hd
theorem Bits.zero (n : Nat) (x : UInt8) : Bits n ((List.replicate (n + 1) 0).set n x) (List.replicate (8 * n) false) := by
  refine ⟨by simp, by simp, fun d hd => ?_⟩
  rw [List.getElem?_replicate, if_pos hd, setB_eq, List.getElem?_set_ne (by omega), List.getElem?_replicate, if_pos (by omega)]
  simp
/-- Eight bools as a number, from the highest. -/
def byteO (bs : List Bool) (i : Nat) : Nat → Nat
  | 0 => 0
  | k + 1 => 2 * byteO bs i k + (if bs[i + (7 - k)]?.getD false then 1 else 0)
theorem bit_if (a : Nat) : (if a % 2 = 1 then 1 else 0) = a % 2 := by split <;> omega
theorem Bits.byte {n : Nat} {fs : List UInt8} {bs : List Bool} (h : Bits n fs bs) {i : Nat} (hi : i < n) {x : UInt8} (hx : fs[i]? = some x) : byteO bs (8 * i) 8 = x.toNat := by
  have hb : ∀ j, j < 8 → bs[8 * i + j]?.getD false = decide (x.toNat / 2 ^ j % 2 = 1) := fun j hj => by
    rw [h.2.2 _ (by omega), Option.getD_some, setB]
    rw [show (8 * i + j) / 8 = i by omega, show (8 * i + j) % 8 = j by omega, hx]
  have h0 := hb 0 (by omega)
  have h1 := hb 1 (by omega)
  have h2 := hb 2 (by omega)
  have h3 := hb 3 (by omega)
  have h4 := hb 4 (by omega)
  have h5 := hb 5 (by omega)
  have h6 := hb 6 (by omega)
  have h7 := hb 7 (by omega)
  have hl := x.toNat_lt
  simp only [byteO, Nat.sub_zero, Nat.reduceSub, h0, h1, h2, h3, h4, h5, h6, h7, decide_eq_true_eq]
  simp only [bit_if, Nat.reducePow, Nat.div_one]
  omega
end Go.Proofs.YtlnpicfkcahdbaaGreat
namespace Go.Proofs.YtlnpicfkcahdbaaGreat
open Go Go.RowKit

end Go.Proofs.YtlnpicfkcahdbaaGreat
namespace Go.Proofs.YtlnpicfkcahdbaaGreat
open Go Go.RowKit Go.Maps

/-- 'The head's block holds this now, and nothing else has turned.' -/
def Hd (w : World) (p : Nat) (vs : Array Value) (w' : World) : Prop := Fr w w' [p] ∧ w'.heap[p]? = some (.cells vs 108 (0, 0))
theorem Hd.refl {w : World} {p : Nat} {vs : Array Value} (h : w.heap[p]? = some (.cells vs 108 (0, 0))) : Hd w p vs w := ⟨Fr.refl _ _, h⟩
theorem Hd.set {w w' : World} {p : Nat} {vs : Array Value} (h : Hd w p vs w') (i : Nat) (v : Value) : Hd w p (vs.setIfInBounds i v) (w'.setCell ⟨p, i, none⟩ v) :=
  ⟨h.1.trans (Fr.set w' p i v) (fun _ hb => .inl hb), heap_setCell_same _ _ _ _ _ _ h.2⟩
theorem Hd.drew {w w' : World} {p : Nat} {vs : Array Value} (h : Hd w p vs w') : Hd w p vs w'.drew := ⟨⟨h.1.os, h.1.tape, h.1.output, h.1.size, h.1.block⟩, h.2⟩
def RetHd (w : World) (p : Nat) (vs : Array Value) (v : Value) (e : Ending) (w' : World) : Prop := e = .returned v ∧ Hd w p vs w'

section
variable {w : World} {p : Nat} {m : Option Nat} {rs : List FR} {room used left : Int} {dead armed : Bool}
set_option maxRecDepth 100000 in
set_option maxHeartbeats 1000000 in
theorem turn_err {e : Int} (he : e ≠ 0) :
    Calls Tryz.prog 153 #[.pointer (some ⟨p, 0, none⟩), .int .i64 e] w fun e' w' => e' = .returned (.int .i64 e) ∧ w = w' := by
  have h1 : (e != 0) = true := by simpa using he
  go_enter Tryz.func153, Tryz.ntmps153
  go_wp2
  go_ret
  exact ⟨rfl, rfl⟩
set_option maxRecDepth 100000 in
set_option maxHeartbeats 1000000 in
theorem turn_free (h : DskR w p m rs room used left dead false) :
    Calls Tryz.prog 153 #[.pointer (some ⟨p, 0, none⟩), .int .i64 0] w fun e' w' => e' = .returned (.int .i64 0) ∧ w = w' := by
  obtain ⟨c0, c1, c2, c3, c4, c5⟩ := h.head
  go_enter Tryz.func153, Tryz.ntmps153
  go_wp2
  go_ret
  exact ⟨rfl, rfl⟩
set_option maxRecDepth 100000 in
set_option maxHeartbeats 1000000 in
theorem turn_kill (h : DskR w p m rs room used 0 dead true) :
    Calls Tryz.prog 153 #[.pointer (some ⟨p, 0, none⟩), .int .i64 0] w (RetHd w p (headV m room used 0 true false) (.int .i64 9)) := by
  obtain ⟨c0, c1, c2, c3, c4, c5⟩ := h.head
  have f3 := h.thaw 3
  have f4 := h.thaw 4
  have HH := Lib.hid (((Hd.refl h.1).set 3 (.bool true)).set 4 (.bool false))
  go_enter Tryz.func153, Tryz.ntmps153
  go_wp2
  go_ret
  exact ⟨rfl, HH.out⟩
set_option maxRecDepth 100000 in
set_option maxHeartbeats 1000000 in
theorem turn_step (h : DskR w p m rs room used left dead true) (hl : 0 < left) (hl2 : left ≤ 9223372036854775807) :
    Calls Tryz.prog 153 #[.pointer (some ⟨p, 0, none⟩), .int .i64 0] w (RetHd w p (headV m room used (left - 1) dead true) (.int .i64 0)) := by
  obtain ⟨c0, c1, c2, c3, c4, c5⟩ := h.head
  have f5 := h.thaw 5
  have h1 : (left == 0) = false := by simp; omega
  have HH := Lib.hid ((Hd.refl h.1).set 5 (.int .i64 (left - 1)))
  go_enter Tryz.func153, Tryz.ntmps153
  go_wp2
  go_ret
  exact ⟨rfl, HH.out⟩
set_option maxRecDepth 100000 in
set_option maxHeartbeats 1000000 in
theorem Dead_any (h : DskR w p m rs room used left dead armed) :
    Calls Tryz.prog 15 #[.pointer (some ⟨p, 0, none⟩)] w fun e' w' => e' = .returned (.bool dead) ∧ w = w' := by
  obtain ⟨c0, c1, c2, c3, c4, c5⟩ := h.head
  go_enter Tryz.func15, Tryz.ntmps15
  go_wp2
  go_ret
  exact ⟨rfl, rfl⟩
set_option maxRecDepth 100000 in
set_option maxHeartbeats 1000000 in
theorem Arm_dead (n : Int) (h : DskR w p m rs room used left true armed) :
    Calls Tryz.prog 11 #[.pointer (some ⟨p, 0, none⟩), .int .i64 n] w fun e' w' => e' = .returned (.tuple #[]) ∧ w = w' := by
  obtain ⟨c0, c1, c2, c3, c4, c5⟩ := h.head
  go_enter Tryz.func11, Tryz.ntmps11
  go_wp2
  go_end0
  exact ⟨rfl, rfl⟩
set_option maxRecDepth 100000 in
set_option maxHeartbeats 1000000 in
theorem Arm_live (n : Int) (h : DskR w p m rs room used left false armed) (hn : I64 n) :
    Calls Tryz.prog 11 #[.pointer (some ⟨p, 0, none⟩), .int .i64 n] w (RetHd w p (headV m room used (max n 0) false (decide (0 ≤ n))) (.tuple #[])) := by
  obtain ⟨c0, c1, c2, c3, c4, c5⟩ := h.head
  have f4 := h.thaw 4
  have f5 := h.thaw 5
  unfold I64 at hn
  have HH := Lib.hid (((Hd.refl h.1).set 4 (.bool (decide (0 ≤ n)))).set 5 (.int .i64 (max n 0)))
  by_cases h0 : 0 ≤ n
  · have h1 : decide (0 ≤ n) = true := by simpa using h0
    have h2 : max n 0 = n := by omega
    rw [h1, h2] at HH ⊢
    go_enter Tryz.func11, Tryz.ntmps11
    go_wp2
    go_end0
    exact ⟨rfl, HH.out⟩
  · have h1 : decide (0 ≤ n) = false := by simpa using h0
    have h2 : max n 0 = 0 := by omega
    rw [h1, h2] at HH ⊢
    go_enter Tryz.func11, Tryz.ntmps11
    go_wp2
    go_end0
    exact ⟨rfl, HH.out⟩
end

theorem DskR.init (w : World) (room : Int) : DskR (w.alloc (.cells (headV none room 0 0 false false) 108)) w.heap.size none [] room 0 0 false false :=
  ⟨heap_alloc_new _ _, .inl ⟨rfl, rfl⟩, (fun r hr => by cases hr), ⟨(fun r hr => by cases hr), (fun b hb => by cases hb), List.Pairwise.nil⟩⟩
end Go.Proofs.YtlnpicfkcahdbaaGreat
namespace Go.Proofs.YtlnpicfkcahdbaaGreat
open Go Go.RowKit

def szL : List En → Nat
  | [] => 0
  | e :: t => wE e + szL t
theorem szL_app : ∀ a b : List En, szL (a ++ b) = szL a + szL b
  | [], b => by simp [szL]
  | e :: t, b => by rw [List.cons_append, szL, szL, szL_app t b]; omega
def SortL (l : List En) : Prop := l.Pairwise (fun a b => lessE a b = true)
theorem posI_app {p q : List En} {x : En} (h1 : ∀ y ∈ p, lessE x y = false) (h2 : ∀ y ∈ q, lessE x y = true) : ∀ j, j ≤ q.length → posI (p ++ q) x (p.length + j) = p.length
  | 0, _ => by
    rw [Nat.add_zero]
    cases hp : p.length with
    | zero => rfl
    | succ m =>
      have hm : m < p.length := by omega
      have e : (p ++ q)[m]? = some (p[m]'hm) := by rw [List.getElem?_append_left hm, List.getElem?_eq_getElem hm]
      rw [posI, e]
      simp only
      rw [h1 _ (List.getElem_mem hm)]
      rfl
  | j + 1, h => by
    have hj : j < q.length := by omega
    have e : (p ++ q)[p.length + j]? = some (q[j]'hj) := by rw [List.getElem?_append_right (by omega), Nat.add_sub_cancel_left, List.getElem?_eq_getElem hj]
    rw [← Nat.add_assoc, posI, e]
    simp only
    rw [h2 _ (List.getElem_mem hj)]
    exact posI_app h1 h2 j (by omega)
theorem insL_app {p q : List En} {x : En} (h1 : ∀ y ∈ p, lessE x y = false) (h2 : ∀ y ∈ q, lessE x y = true) : insL (p ++ q) x = p ++ x :: q := by
  have h := posI_app h1 h2 q.length (Nat.le_refl _)
  unfold insL
  rw [List.length_append, h]
  simp
/-- What the reference's Get finds. -/
def findL (key : List UInt8) (at_ : Nat) (l : List En) : Option En := l.find? (fun y => eqB y.key key && decide (y.seq ≤ at_))
def inR (xs ys : List UInt8) (e : En) : Bool := decide (0 ≤ cmpB e.key xs) && decide (ys.length = 0 ∨ cmpB e.key ys < 0)
theorem less_key {a b : En} {zs : List UInt8} (h : lessE a b = true) (k : cmpB b.key zs < 0) : cmpB a.key zs < 0 := by
  rcases lessE_iff.1 h with q | ⟨q, _⟩
  · exact cmpB_trans q k
  · rw [q]; exact k
/-- The reference's PutAll, of entries in form. -/
def refIns : List En → List En → Option (List En)
  | l, [] => some l
  | l, x :: xs => if inL l x then none else refIns (insL l x) xs
theorem insL_len (l : List En) (x : En) : (insL l x).length = l.length + 1 := by
  have := posI_le l x l.length
  unfold insL
  rw [List.length_append, List.length_cons, List.length_take, List.length_drop]
  omega
theorem split_of {x : En} : ∀ {o : List En}, SortL o → inL o x = false → ∃ p q, o = p ++ q ∧ (∀ y ∈ p, lessE y x = true) ∧ (∀ y ∈ q, lessE x y = true)
  | [], _, _ => ⟨[], [], rfl, (fun y hy => by cases hy), fun y hy => by cases hy⟩
  | a :: t, hs, hin => by
    obtain ⟨h1, h2⟩ := List.pairwise_cons.1 hs
    unfold inL at hin
    rw [List.any_cons, Bool.or_eq_false_iff] at hin
    rcases lessE_tri a x with h | h | h
    · obtain ⟨p, q, e, k1, k2⟩ := split_of h2 hin.2
      refine ⟨a :: p, q, by rw [e]; rfl, fun y hy => ?_, k2⟩
      rcases List.mem_cons.1 hy with rfl | hy
      · exact h
      · exact k1 y hy
    · refine ⟨[], a :: t, rfl, (fun y hy => by cases hy), fun y hy => ?_⟩
      rcases List.mem_cons.1 hy with rfl | hy
      · exact h
      · exact lessE_trans h (h1 y hy)
    · rw [h] at hin
      cases hin.1
theorem insL_sort {o : List En} {x : En} (hs : SortL o) (hin : inL o x = false) : SortL (insL o x) := by
  obtain ⟨p, q, e, h1, h2⟩ := split_of hs hin
  subst e
  rw [insL_app (fun y hy => lessE_asym (h1 y hy)) h2]
  obtain ⟨s1, s2, s3⟩ := List.pairwise_append.1 hs
  exact List.pairwise_append.2 ⟨s1, List.pairwise_cons.2 ⟨h2, s2⟩, fun a ha b hb => by
    rcases List.mem_cons.1 hb with rfl | hb
    · exact h1 a ha
    · exact s3 a ha b hb⟩
/-- Entries in order go in behind one another. -/
theorem refIns_sort : ∀ {q p : List En}, SortL (p ++ q) → refIns p q = some (p ++ q)
  | [], p, _ => by rw [List.append_nil]; rfl
  | x :: xs, p, hs => by
    have h1 : ∀ y ∈ p, lessE y x = true := fun y hy => (List.pairwise_append.1 hs).2.2 y hy x (by simp)
    have h2 : inL p x = false := by
      unfold inL
      rw [List.any_eq_false]
      intro y hy k
      have := (sameK_not k).1
      rw [h1 y hy] at this
      cases this
    have h3 : insL p x = p ++ [x] := by
      have := insL_app (p := p) (q := []) (x := x) (fun y hy => lessE_asym (h1 y hy)) (fun y hy => by cases hy)
      simpa using this
    rw [refIns, h2, if_neg (by simp), h3]
    have e : p ++ x :: xs = (p ++ [x]) ++ xs := by simp
    rw [e] at hs ⊢
    exact refIns_sort hs
/-- In form, and not too long. -/
def okE (x : En) : Bool := decide (checkE [x] = 0)
theorem okE_iff {x : En} : okE x = true ↔ longE x = false ∧ formE x = true := by
  unfold okE checkE
  rw [decide_eq_true_eq]
  simp only [List.any_cons, List.any_nil, Bool.or_false, List.all_cons, List.all_nil, Bool.and_true]
  cases longE x <;> cases formE x <;> simp
theorem checkE_ok {es : List En} (h : ∀ x ∈ es, okE x = true) : checkE es = 0 := by
  unfold checkE
  rw [if_neg, if_pos]
  · rw [List.all_eq_true]
    exact fun x hx => (okE_iff.1 (h x hx)).2
  · rw [List.any_eq_true]
    rintro ⟨x, hx, k⟩
    rw [(okE_iff.1 (h x hx)).1] at k
    cases k
/-- The reference's Sorted. -/
def srt : List En → List En → List En
  | o, [] => o
  | o, x :: xs => if okE x && !inL o x then srt (insL o x) xs else srt o xs
theorem srt_snoc : ∀ (o xs : List En) (x : En), srt o (xs ++ [x]) = if okE x && !inL (srt o xs) x then insL (srt o xs) x else srt o xs
  | o, [], x => by simp [srt]
  | o, y :: ys, x => by
    simp only [List.cons_append, srt]
    split
    · exact srt_snoc _ ys x
    · exact srt_snoc _ ys x
theorem srt_prop : ∀ {xs o : List En}, SortL o → (∀ x ∈ o, okE x = true) → SortL (srt o xs) ∧ (∀ x ∈ srt o xs, okE x = true)
  | [], o, h1, h2 => ⟨h1, h2⟩
  | x :: xs, o, h1, h2 => by
    unfold srt
    split
    · next h =>
      rw [Bool.and_eq_true, Bool.not_eq_true'] at h
      exact srt_prop (insL_sort h1 h.2) (fun y hy => by
        rcases insL_mem' hy with rfl | hy
        · exact h.1
        · exact h2 y hy)
    · exact srt_prop h1 h2
where
  insL_mem' {l : List En} {x y : En} (h : y ∈ insL l x) : y = x ∨ y ∈ l := by
    unfold insL at h
    rcases List.mem_append.1 h with h | h
    · exact .inr (List.mem_of_mem_take h)
    · rcases List.mem_cons.1 h with h | h
      · exact .inl h
      · exact .inr (List.mem_of_mem_drop h)
theorem szL_insL (l : List En) (x : En) : szL (insL l x) = szL l + wE x := by
  unfold insL
  have := szL_app (l.take (posI l x l.length)) (l.drop (posI l x l.length))
  rw [List.take_append_drop] at this
  rw [szL_app, szL]
  omega
theorem srt_len : ∀ (xs o : List En), (srt o xs).length ≤ o.length + xs.length ∧ szL (srt o xs) ≤ szL o + szL xs
  | [], o => ⟨by simp [srt], by simp [srt, szL]⟩
  | x :: xs, o => by
    unfold srt
    split
    · have := srt_len xs (insL o x)
      rw [insL_len, szL_insL] at this
      simp only [List.length_cons, szL]
      omega
    · have := srt_len xs o
      simp only [List.length_cons, szL]
      omega
theorem srt_mem : ∀ {xs o : List En}, ∀ x ∈ srt o xs, x ∈ o ∨ x ∈ xs
  | [], o, x, h => .inl h
  | y :: ys, o, x, h => by
    unfold srt at h
    split at h
    · rcases srt_mem x h with q | q
      · rcases srt_prop.insL_mem' q with q | q
        · exact .inr (by simp [q])
        · exact .inl q
      · exact .inr (by simp [q])
    · rcases srt_mem x h with q | q
      · exact .inl q
      · exact .inr (by simp [q])
end Go.Proofs.YtlnpicfkcahdbaaGreat
namespace Go.Proofs.YtlnpicfkcahdbaaGreat
open Go Go.RowKit

/-- The tree with x besides; none: it is there. -/
def withT (x : En) : Tr → Option Tr
  | .nil => some (.node .nil x .nil)
  | .node l e r => if lessE x e then (withT x l).map (fun t => balT t e r) else if lessE e x then (withT x r).map (fun t => balT l e t) else none
theorem withT_num {x : En} : ∀ {t t' : Tr}, withT x t = some t' → t'.num = t.num + 1
  | .nil, t', h => by
    unfold withT at h
    injection h with h
    rw [← h]; rfl
  | .node l e r, t', h => by
    unfold withT at h
    split at h
    · cases hw : withT x l with
      | none => rw [hw] at h; cases h
      | some l' =>
        rw [hw] at h
        injection h with h
        have := withT_num hw
        rw [← h]
        simp only [balT_num, Tr.num]
        omega
    · split at h
      · cases hw : withT x r with
        | none => rw [hw] at h; cases h
        | some r' =>
          rw [hw] at h
          injection h with h
          have := withT_num hw
          rw [← h]
          simp only [balT_num, Tr.num]
          omega
      · cases h
def RetWith (G : Nat → Prop) (w : World) (o : Option Tr) (e : Ending) (w' : World) : Prop :=
  (∃ t A, o = some t ∧ e = .returned (.tuple #[.pointer A, .bool false]) ∧ TrAt G w' t A ∧ Below w.heap.size w w') ∨ (o = none ∧ e = .returned (.tuple #[.pointer none, .bool true]) ∧ Below w.heap.size w w')
theorem RetWith.out {G : Nat → Prop} {w : World} {o : Option Tr} {e : Ending} {w' : World} (h : RetWith G w o e w') : (∃ t A, o = some t ∧ e = .returned (.tuple #[.pointer A, .bool false]) ∧ TrAt G w' t A ∧ Below w.heap.size w w') ∨ (o = none ∧ e = .returned (.tuple #[.pointer none, .bool true]) ∧ Below w.heap.size w w') := h
theorem RetT.out {w : World} {b : Bool} {e : Ending} {w' : World} (h : RetT w b e w') : e = .returned (.bool b) ∧ Below w.heap.size w w' := h
set_option maxRecDepth 100000 in
set_option maxHeartbeats 8000000 in
theorem with_any {G : Nat → Prop} (x : En) (px : Nat) : ∀ (t : Tr) (A : Option Addr) (w : World), TrAt G w t A → EB G w x px → t.num + 1 ≤ 1099511627776 →
    Calls Tryz.prog 44 #[.pointer A, .pointer (some ⟨px, 0, none⟩)] w (RetWith G w (withT x t)) := by
  intro t
  induction t with
  | nil =>
    intro A w h hx hn
    have hA : A = none := h
    subst hA
    have HJ : Hid (Calls Tryz.prog 105 #[.pointer none, .pointer (some ⟨px, 0, none⟩), .pointer none] w (RetTr G w (.node .nil x .nil))) := Lib.hid (join_any (l := .nil) (r := .nil) rfl rfl hx ⟨by simp [Tr.num], by simp [Tr.num]⟩)
    clear h hx
    go_enter Tryz.func44, Tryz.ntmps44
    go_wp2_with fail
    refine HJ.out.mono ?_
    intro e w1 hq
    obtain ⟨A1, h1, t1, b1⟩ := RetTr.out hq
    subst h1
    have T1 := Lib.hid t1
    have B1 := Lib.hid b1
    clear t1 b1 hq HJ
    go_wp2
    go_ret2
    exact .inl ⟨_, A1, rfl, rfl, T1.out, B1.out⟩
  | node l e r ihl ihr =>
    intro A w h hx hn
    obtain ⟨b, rfl⟩ := h.ptr
    obtain ⟨pe, pl, pr, n0, n1, n2, nlt, he, hl, hr⟩ := h.cells
    obtain ⟨x0, x1, x2, x3, cx, ex⟩ := hx
    obtain ⟨z0, z1, z2, z3, cz, ez⟩ := he
    have hnum : l.num + 1 + r.num + 1 ≤ 1099511627776 := hn
    have HSX : Hid (∀ wx, Below w.heap.size w wx → wx.cell? ⟨b, 0, none⟩ = some (.pointer (some ⟨pe, 0, none⟩)) ∧ wx.cell? ⟨b, 1, none⟩ = some (.pointer pl) ∧ wx.cell? ⟨b, 2, none⟩ = some (.pointer pr) ∧ wx.cell? ⟨px, 0, none⟩ = some x0 ∧ wx.cell? ⟨px, 1, none⟩ = some x1 ∧ wx.cell? ⟨px, 2, none⟩ = some x2 ∧ wx.cell? ⟨px, 3, none⟩ = some x3 ∧ wx.cell? ⟨pe, 0, none⟩ = some z0 ∧ wx.cell? ⟨pe, 1, none⟩ = some z1 ∧ wx.cell? ⟨pe, 2, none⟩ = some z2 ∧ wx.cell? ⟨pe, 3, none⟩ = some z3) := Lib.hid (fun wx h => by
      obtain ⟨c0, c1, c2, c3, _⟩ := (cx.below h).c4
      obtain ⟨d0, d1, d2, d3, _⟩ := (cz.below h).c4
      exact ⟨(h.cell (p := ⟨b, 0, none⟩) nlt).trans n0, (h.cell (p := ⟨b, 1, none⟩) nlt).trans n1, (h.cell (p := ⟨b, 2, none⟩) nlt).trans n2, c0, c1, c2, c3, d0, d1, d2, d3⟩)
    have HL1 : Hid (∀ wx, Below w.heap.size w wx → Calls Tryz.prog 106 #[.agg #[x0, x1, x2, x3], .agg #[z0, z1, z2, z3]] wx (RetT wx (lessE x e))) := Lib.hid (fun wx h => memLess_any (ex.1.ev.below h) (ez.1.ev.below h))
    have HL2 : Hid (∀ wx, Below w.heap.size w wx → Calls Tryz.prog 106 #[.agg #[z0, z1, z2, z3], .agg #[x0, x1, x2, x3]] wx (RetT wx (lessE e x))) := Lib.hid (fun wx h => memLess_any (ez.1.ev.below h) (ex.1.ev.below h))
    have HX : Hid (∀ wx, Below w.heap.size w wx → EB G wx x px) := Lib.hid (fun wx h => ⟨x0, x1, x2, x3, cx.below h, ex.below h⟩)
    have HE : Hid (∀ wx, Below w.heap.size w wx → EB G wx e pe) := Lib.hid (fun wx h => ⟨z0, z1, z2, z3, cz.below h, ez.below h⟩)
    have HWL : Hid (∀ wx, Below w.heap.size w wx → Calls Tryz.prog 44 #[.pointer pl, .pointer (some ⟨px, 0, none⟩)] wx (RetWith G wx (withT x l))) := Lib.hid (fun wx h => ihl pl wx (hl.below h) (HX.out wx h) (by omega))
    have HWR : Hid (∀ wx, Below w.heap.size w wx → Calls Tryz.prog 44 #[.pointer pr, .pointer (some ⟨px, 0, none⟩)] wx (RetWith G wx (withT x r))) := Lib.hid (fun wx h => ihr pr wx (hr.below h) (HX.out wx h) (by omega))
    have HTL := Lib.hid hl
    have HTR := Lib.hid hr
    clear ihl ihr h cx ex cz ez hl hr n0 n1 n2
    obtain ⟨LE, hLE⟩ : ∃ LE, LE = lessE x e := ⟨_, rfl⟩
    obtain ⟨GE, hGE⟩ : ∃ GE, GE = lessE e x := ⟨_, rfl⟩
    rw [← hLE] at HL1
    rw [← hGE] at HL2
    have HW : Hid (withT x (.node l e r) = if LE = true then (withT x l).map (fun t => balT t e r) else if GE = true then (withT x r).map (fun t => balT l e t) else none) := Lib.hid (by rw [hLE, hGE]; rfl)
    clear hLE hGE
    have hB0 : Below w.heap.size w w.drew := (Below.refl _ _).drew
    go_enter Tryz.func44, Tryz.ntmps44
    go_upto_region 3 with (fail)
    go_cut [14] (fun s14 wx => s14 = .bool LE ∧ Below w.heap.size w wx)
    case first =>
      go_region_held3 (fun wx => wx.cell? ⟨b, 0, none⟩ = some (.pointer (some ⟨pe, 0, none⟩)) ∧ wx.cell? ⟨b, 1, none⟩ = some (.pointer pl) ∧ wx.cell? ⟨b, 2, none⟩ = some (.pointer pr) ∧ wx.cell? ⟨px, 0, none⟩ = some x0 ∧ wx.cell? ⟨px, 1, none⟩ = some x1 ∧ wx.cell? ⟨px, 2, none⟩ = some x2 ∧ wx.cell? ⟨px, 3, none⟩ = some x3 ∧ wx.cell? ⟨pe, 0, none⟩ = some z0 ∧ wx.cell? ⟨pe, 1, none⟩ = some z1 ∧ wx.cell? ⟨pe, 2, none⟩ = some z2 ∧ wx.cell? ⟨pe, 3, none⟩ = some z3) (first | assumption | exact HSX.out _ hB0)
        (first | (go_at_call 106; with_reducible refine (HL1.out _ hB0).mono ?_; intro e1 w5 hq; obtain ⟨h1, b5⟩ := RetT.out hq; subst h1; have b5' := belowT hB0 b5; have hS5 := HSX.out _ b5'))
      all_goals
        have HB5 := Lib.hid b5'
        clear hS5 b5 b5'
        go_wp2_with fail
        go_meet
        exact ⟨rfl, HB5.out⟩
    case rest =>
      obtain ⟨rfl, hbc⟩ := hcut
      obtain ⟨n0, n1, n2, c0, c1, c2, c3, d0, d1, d2, d3⟩ := HSX.out _ hbc
      have BC := Lib.hid hbc
      clear hbc
      cases LE with
      | true =>
        clear c0 c1 c2 c3 d0 d1 d2 d3
        go_wp2_with fail
        with_reducible refine (HWL.out _ BC.out).mono ?_
        intro e1 w6 hq
        rcases RetWith.out hq with ⟨t', A6, ho, h1, t6, b6⟩ | ⟨ho, h1, b6⟩
        · subst h1
          have hnt := withT_num ho
          have HOO := Lib.hid ho
          have B6 := Lib.hid (belowT BC.out b6)
          have T6 := Lib.hid t6
          have hB6 : Below w6.heap.size w6 w6.drew := (Below.refl _ _).drew
          have HB : Hid (∀ wx, Below w6.heap.size w6 wx → Calls Tryz.prog 107 #[.pointer A6, .pointer (some ⟨pe, 0, none⟩), .pointer pr] wx (RetTr G wx (balT t' e r))) := Lib.hid (fun wx h => balance_any (T6.out.below h) (HTR.out.below (belowT B6.out h)) (HE.out wx (belowT B6.out h)) (by omega))
          clear n0 n1 n2 hq ho t6 b6
          go_upto_region 7 with (fail)
          go_region_held3 (fun wx => wx.cell? ⟨b, 0, none⟩ = some (.pointer (some ⟨pe, 0, none⟩)) ∧ wx.cell? ⟨b, 1, none⟩ = some (.pointer pl) ∧ wx.cell? ⟨b, 2, none⟩ = some (.pointer pr) ∧ wx.cell? ⟨px, 0, none⟩ = some x0 ∧ wx.cell? ⟨px, 1, none⟩ = some x1 ∧ wx.cell? ⟨px, 2, none⟩ = some x2 ∧ wx.cell? ⟨px, 3, none⟩ = some x3 ∧ wx.cell? ⟨pe, 0, none⟩ = some z0 ∧ wx.cell? ⟨pe, 1, none⟩ = some z1 ∧ wx.cell? ⟨pe, 2, none⟩ = some z2 ∧ wx.cell? ⟨pe, 3, none⟩ = some z3) (first | assumption | exact HSX.out _ B6.out.drew)
            (first | (go_at_call 107; with_reducible refine (HB.out _ hB6).mono ?_; intro e1 w8 hq; obtain ⟨A8, h18, t8, b8⟩ := RetTr.out hq; subst h18; have b8' := belowT hB6 b8; have hS8 := HSX.out _ (belowT B6.out b8')))
          all_goals
            have T8 := Lib.hid t8
            have B8 := Lib.hid (belowT B6.out b8')
            clear hS8 t8 b8 b8'
            go_wp2_with fail
            go_ret2
            exact .inl ⟨_, A8, by rw [HW.out]; simp [HOO.out], rfl, T8.out, B8.out⟩
        · subst h1
          have HOO := Lib.hid ho
          have B6 := Lib.hid (belowT BC.out b6)
          clear hq ho b6
          go_wp2_with fail
          go_ret2
          exact .inr ⟨by rw [HW.out]; simp [HOO.out], rfl, B6.out⟩
      | false =>
        have hBD : Below w.heap.size w wc.drew := BC.out.drew
        clear n0 n1 n2 c0 c1 c2 c3 d0 d1 d2 d3
        go_upto_region 8 with (fail)
        go_cut [45] (fun s45 wx => s45 = .bool GE ∧ Below w.heap.size w wx)
        case first =>
          go_region_held3 (fun wx => wx.cell? ⟨b, 0, none⟩ = some (.pointer (some ⟨pe, 0, none⟩)) ∧ wx.cell? ⟨b, 1, none⟩ = some (.pointer pl) ∧ wx.cell? ⟨b, 2, none⟩ = some (.pointer pr) ∧ wx.cell? ⟨px, 0, none⟩ = some x0 ∧ wx.cell? ⟨px, 1, none⟩ = some x1 ∧ wx.cell? ⟨px, 2, none⟩ = some x2 ∧ wx.cell? ⟨px, 3, none⟩ = some x3 ∧ wx.cell? ⟨pe, 0, none⟩ = some z0 ∧ wx.cell? ⟨pe, 1, none⟩ = some z1 ∧ wx.cell? ⟨pe, 2, none⟩ = some z2 ∧ wx.cell? ⟨pe, 3, none⟩ = some z3) (first | assumption | exact HSX.out _ hBD)
            (first | (go_at_call 106; with_reducible refine (HL2.out _ hBD).mono ?_; intro e1 w5 hq; obtain ⟨h1, b5⟩ := RetT.out hq; subst h1; have b5' := belowT hBD b5; have hS5 := HSX.out _ b5'))
          all_goals
            have HB5 := Lib.hid b5'
            clear hS5 b5 b5'
            go_wp2_with fail
            go_meet
            exact ⟨rfl, HB5.out⟩
        case rest =>
          obtain ⟨rfl, hbd⟩ := hcut
          have BC := Lib.hid hbd
          obtain ⟨n0, n1, n2, c0, c1, c2, c3, d0, d1, d2, d3⟩ := HSX.out _ hbd
          clear hbd hBD
          cases GE with
          | true =>
            clear c0 c1 c2 c3 d0 d1 d2 d3
            go_wp2_with fail
            with_reducible refine (HWR.out _ BC.out).mono ?_
            intro e1 w6 hq
            rcases RetWith.out hq with ⟨t', A6, ho, h1, t6, b6⟩ | ⟨ho, h1, b6⟩
            · subst h1
              have hnt := withT_num ho
              have HOO := Lib.hid ho
              have B6 := Lib.hid (belowT BC.out b6)
              have T6 := Lib.hid t6
              have hB6 : Below w6.heap.size w6 w6.drew := (Below.refl _ _).drew
              have HB : Hid (∀ wx, Below w6.heap.size w6 wx → Calls Tryz.prog 107 #[.pointer pl, .pointer (some ⟨pe, 0, none⟩), .pointer A6] wx (RetTr G wx (balT l e t'))) := Lib.hid (fun wx h => balance_any (HTL.out.below (belowT B6.out h)) (T6.out.below h) (HE.out wx (belowT B6.out h)) (by omega))
              clear n0 n1 n2 hq ho t6 b6
              go_upto_region 12 with (fail)
              go_region_held3 (fun wx => wx.cell? ⟨b, 0, none⟩ = some (.pointer (some ⟨pe, 0, none⟩)) ∧ wx.cell? ⟨b, 1, none⟩ = some (.pointer pl) ∧ wx.cell? ⟨b, 2, none⟩ = some (.pointer pr) ∧ wx.cell? ⟨px, 0, none⟩ = some x0 ∧ wx.cell? ⟨px, 1, none⟩ = some x1 ∧ wx.cell? ⟨px, 2, none⟩ = some x2 ∧ wx.cell? ⟨px, 3, none⟩ = some x3 ∧ wx.cell? ⟨pe, 0, none⟩ = some z0 ∧ wx.cell? ⟨pe, 1, none⟩ = some z1 ∧ wx.cell? ⟨pe, 2, none⟩ = some z2 ∧ wx.cell? ⟨pe, 3, none⟩ = some z3) (first | assumption | exact HSX.out _ B6.out.drew)
                (first | (go_at_call 107; with_reducible refine (HB.out _ hB6).mono ?_; intro e1 w8 hq; obtain ⟨A8, h18, t8, b8⟩ := RetTr.out hq; subst h18; have b8' := belowT hB6 b8; have hS8 := HSX.out _ (belowT B6.out b8')))
              all_goals
                have T8 := Lib.hid t8
                have B8 := Lib.hid (belowT B6.out b8')
                clear hS8 t8 b8 b8'
                go_wp2_with fail
                go_ret2
                exact .inl ⟨_, A8, by rw [HW.out]; simp [HOO.out], rfl, T8.out, B8.out⟩
            · subst h1
              have HOO := Lib.hid ho
              have B6 := Lib.hid (belowT BC.out b6)
              clear hq ho b6
              go_wp2_with fail
              go_ret2
              exact .inr ⟨by rw [HW.out]; simp [HOO.out], rfl, B6.out⟩
          | false =>
            go_wp2
            go_ret2
            exact .inr ⟨by rw [HW.out]; rfl, rfl, BC.out⟩
end Go.Proofs.YtlnpicfkcahdbaaGreat
namespace Go.Proofs.YtlnpicfkcahdbaaGreat
open Go Go.RowKit

/-- How many bytes of the i-th key are left out. -/
def shB (ev : Nat) (es : List En) (i : Nat) : Nat := if i % ev = 0 then 0 else match es[i - 1]?, es[i]? with
  | some a, some b => comB a.key b.key
  | _, _ => 0
/-- The bytes of the first i entries; the places of the restarts among them. -/
def outB (ev : Nat) (es : List En) : Nat → List UInt8
  | 0 => []
  | i + 1 => match es[i]? with
    | some x => outB ev es i ++ entB (shB ev es i) x
    | none => outB ev es i
def rsB (ev : Nat) (es : List En) : Nat → List UInt8
  | 0 => []
  | i + 1 => if i % ev = 0 then rsB ev es i ++ fourB (outB ev es i).length else rsB ev es i
def fullB (ev : Nat) (es : List En) : List UInt8 := outB ev es es.length ++ rsB ev es es.length ++ fourB ((rsB ev es es.length).length / 4)
theorem outB_step {ev i : Nat} {es : List En} {x : En} (h : es[i]? = some x) : outB ev es (i + 1) = outB ev es i ++ entB (shB ev es i) x := by rw [outB, h]
theorem rsB_len (ev : Nat) (es : List En) : ∀ i, (rsB ev es i).length ≤ 4 * i
  | 0 => by simp [rsB]
  | i + 1 => by
    have := rsB_len ev es i
    unfold rsB
    split
    · simp only [List.length_append, fourB_len]; omega
    · omega
theorem outB_mono (ev : Nat) (es : List En) (i : Nat) : ∀ j, i ≤ j → (outB ev es i).length ≤ (outB ev es j).length := by
  intro j
  induction j with
  | zero =>
    intro h
    obtain rfl : i = 0 := by omega
    exact Nat.le_refl _
  | succ j ih =>
    intro h
    by_cases e : i = j + 1
    · rw [e]; exact Nat.le_refl _
    · have h1 := ih (by omega)
      refine Nat.le_trans h1 ?_
      conv => rhs; unfold outB
      split
      · rw [List.length_append]; omega
      · exact Nat.le_refl _
theorem shB_le {ev i : Nat} {es : List En} {x : En} (h : es[i]? = some x) : shB ev es i ≤ x.key.length := by
  unfold shB
  rw [h]
  split
  · omega
  · split
    · rename_i a b h1 h2
      injection h2 with h2
      subst h2
      exact (comB_le _ _).2
    · omega
theorem entB_len {s : Nat} {x : En} (h0 : s ≤ x.key.length) (h1 : x.key.length ≤ 1024) (h2 : x.val.length ≤ 65536) (h3 : U64 x.seq) : (entB s x).length ≤ 66700 := by
  have p1 := putU_len64 s (show s < B64 by unfold B64; omega)
  have p2 := putU_len64 (x.key.length - s) (show x.key.length - s < B64 by unfold B64; omega)
  have p3 := putU_len64 x.seq (show x.seq < B64 from h3)
  have p5 := putU_len64 x.val.length (show x.val.length < B64 by unfold B64; omega)
  unfold entB
  simp only [List.length_append, List.length_cons, List.length_nil, List.length_drop]
  omega
theorem dj_none (B : Option Addr) : Dj none B := fun b h => by cases h
/-- The two rows that are made: the entries' bytes, the restarts' places. -/
def CS (w0 : World) (O : Option Addr) (oc : Nat) (out : List UInt8) (R : Option Addr) (rc : Nat) (rs : List UInt8) (wr : World) : Prop :=
  Own 5 wr w0.heap.size O out.length oc out ∧ Own 5 wr w0.heap.size R rs.length rc rs ∧ Dj O R ∧ Below w0.heap.size w0 wr
theorem CS.below {w0 wr wx : World} {O R : Option Addr} {oc rc : Nat} {out rs : List UInt8} (h : CS w0 O oc out R rc rs wr) (hb : Below wr.heap.size wr wx) : CS w0 O oc out R rc rs wx := by
  obtain ⟨h1, h2, h3, h4⟩ := h
  exact ⟨h1.below hb, h2.below hb, h3, h4.trans (hb.mono h4.size)⟩
theorem CS.left {w0 wr wx : World} {O R O' : Option Addr} {oc rc oc' : Nat} {out out' rs : List UInt8} (h : CS w0 O oc out R rc rs wr) (ho : Own 5 wx w0.heap.size O' out'.length oc' out') (hg : Grow wr wx O O') : CS w0 O' oc' out' R rc rs wx := by
  obtain ⟨h1, h2, h3, h4⟩ := h
  exact ⟨ho, hg.kept h2 h3, hg.dj h2 h3, h4.trans (hg.below h1 h4.size)⟩
theorem CS.right {w0 wr wx : World} {O R R' : Option Addr} {oc rc rc' : Nat} {out rs rs' : List UInt8} (h : CS w0 O oc out R rc rs wr) (ho : Own 5 wx w0.heap.size R' rs'.length rc' rs') (hg : Grow wr wx R R') : CS w0 O oc out R' rc' rs' wx := by
  obtain ⟨h1, h2, h3, h4⟩ := h
  exact ⟨hg.kept h1 h3.symm, ho, (hg.dj h1 h3.symm).symm, h4.trans (hg.below h2 h4.size)⟩
theorem ClG.off {w0 w w' : World} {g n c : Nat} {us : Array Value} {A A' : Option Addr} {xs : List UInt8} (h : Cl w g us 31) (ho : Own 5 w w0.heap.size A n c xs) (hne : 31 ≠ 5) (hg : Grow w w' A A') : Cl w' g us 31 :=
  ClG.grown h hg.1 (fun e2 => by
    rcases ho.2 with ⟨k1, _⟩ | ⟨g2, cap2, cur2, k1, _, kg, _⟩
    · injection k1 with k1
      rw [k1] at e2
      cases e2
    · injection k1 with k1
      rw [k1] at e2
      injection e2 with e2
      simp only at e2
      subst e2
      rw [h] at kg
      injection kg with kg
      injection kg with _ kg _
      exact hne kg)
/-- What contents hands back: all that is sealed, or more than a record may have. -/
def RetCt (ev : Nat) (es : List En) (w : World) (e : Ending) (w' : World) : Prop :=
  ∃ A c ys, e = .returned (.slice A ys.length c) ∧ Own 5 w' w.heap.size A ys.length c ys ∧ Below w.heap.size w w' ∧ ys.length ≤ 100000000 ∧ ((1048576 < ys.length ∧ ys.length ≤ (fullB ev es).length) ∨ ys = fullB ev es)
set_option maxRecDepth 100000 in
set_option maxHeartbeats 16000000 in
theorem contents_any {w : World} {A : Option Addr} {n c : Nat} {es : List En} (h : REs w A n es) (hn : n ≤ 16777216) (hs : ∀ x ∈ es, x.key.length ≤ 1024 ∧ x.val.length ≤ 65536) (ev : Nat) (he : 1 ≤ ev) (he2 : ev ≤ 9223372036854775807) :
    Calls Tryz.prog 163 #[.int .i64 (ev : Int), .slice A n c] w (RetCt ev es w) := by
  have HL := Lib.hid h.len
  have HR := Lib.hid h
  have HS := Lib.hid hs
  have HW := Lib.hid h.wf
  clear h hs
  go_enter Tryz.func163, Tryz.ntmps163
  go_wp2_with fail
  go_loopw [5, 6, 12] (fun s5 s6 s12 wr => ∃ (i on rn : Nat) (O R : Option Addr) (oc rc : Nat), i ≤ n ∧ s12 = .int .i64 (i : Int) ∧ on = (outB ev es i).length ∧ rn = (rsB ev es i).length ∧ s5 = .slice O on oc ∧ s6 = .slice R rn rc ∧ on ≤ 1048576 ∧ CS w O oc (outB ev es i) R rc (rsB ev es i) wr) (fun _ _ s _ => n - (intOf s).toNat)
  case atStart => exact ⟨0, 0, 0, none, none, 0, 0, Nat.zero_le _, rfl, rfl, rfl, rfl, rfl, by omega, Own.nil _ _ _, Own.nil _ _ _, dj_none _, Below.refl _ _⟩
  case round =>
    obtain ⟨i, on, rn, O, R, oc, rc, hi, rfl, hon, hrn, rfl, rfl, hol, hC⟩ := hrel
    have hrl := rsB_len ev es i
    have hrn4 : rn ≤ 4 * i := by omega
    have HON := Lib.hid hon
    have HRN := Lib.hid hrn
    have HC := Lib.hid hC
    have hbC := hC.2.2.2
    clear hon hrn hC hrl
    by_cases hlt : i < n
    · obtain ⟨b, off, hAb, hbl⟩ := HR.out.pos (by omega)
      subst hAb
      obtain ⟨x, v0, v1, v2, v3, hx, c0', c1', c2', c3', hev⟩ := HR.out.at_ i hlt
      have c0 := (hbC.cell (p := ⟨b, off + i * 4, none⟩) hbl).trans c0'
      have c1 := (hbC.cell (p := ⟨b, off + i * 4 + 1, none⟩) hbl).trans c1'
      have c2 := (hbC.cell (p := ⟨b, off + i * 4 + 2, none⟩) hbl).trans c2'
      have c3 := (hbC.cell (p := ⟨b, off + i * 4 + 3, none⟩) hbl).trans c3'
      have HXI := Lib.hid hx
      have HXS := Lib.hid (HS.out x (List.mem_of_getElem? hx))
      have HXW := Lib.hid (HW.out x (List.mem_of_getElem? hx)).1
      have HEV := Lib.hid hev
      obtain ⟨K, kn, kc, V, vn, vc, rfl, rfl, rfl, rfl, r0, r3, _⟩ := hev.parts
      have HR0 := Lib.hid r0
      obtain ⟨m, hm⟩ : ∃ m, m = i % ev := ⟨_, rfl⟩
      have e1 : ((i : Int) % (ev : Int)) = (m : Int) := by rw [hm]; push_cast; rfl
      have hml : m < 9223372036854775807 := by have := Nat.mod_lt i (show 0 < ev by omega); omega
      have HM := Lib.hid hm
      obtain ⟨sh, hsh⟩ : ∃ sh, sh = shB ev es i := ⟨_, rfl⟩
      have HSH := Lib.hid hsh
      obtain ⟨U, hU⟩ : ∃ U, U = wr.alloc (.cells #[.slice K kn kc, .int .u64 (x.seq : Int), .int .u8 (x.kind : Int), .slice V vn vc] 31) := ⟨_, rfl⟩
      obtain ⟨g, hg⟩ : ∃ g, g = wr.heap.size := ⟨_, rfl⟩
      have bU : Below wr.heap.size wr U := by rw [hU]; exact (Below.refl _ _).alloc (Nat.le_refl _) _
      have HCU := Lib.hid (HC.out.below bU)
      have kU : Cl U g #[.slice K kn kc, .int .u64 (x.seq : Int), .int .u8 (x.kind : Int), .slice V vn vc] 31 := by rw [hU, hg]; exact Cl.new _ _ _
      have HKU := Lib.hid kU
      have hwU : w.heap.size ≤ U.heap.size := HCU.out.2.2.2.size
      clear hx hev r0 r3 hm hsh bU kU c0' c1' c2' c3'
      go_upto_if 20 with (fail)
      rw [← hU, ← hg]
      have HU := Lib.hid hU
      have HG := Lib.hid hg
      clear hU hg
      obtain ⟨rs2, hrs2⟩ : ∃ rs2, rs2 = rsB ev es (i + 1) := ⟨_, rfl⟩
      obtain ⟨rn2, hrn2⟩ : ∃ rn2, rn2 = rs2.length := ⟨_, rfl⟩
      have HRS2 := Lib.hid hrs2
      have HRN2 := Lib.hid hrn2
      clear hrs2 hrn2
      go_cut [6, 9] from 17 to 34 (fun s6 s9 wx => ∃ (R' : Option Addr) (rc' : Nat), s6 = .slice R' rn2 rc' ∧ s9 = .int .i64 (sh : Int) ∧ CS w O oc (outB ev es i) R' rc' rs2 wx ∧ Cl wx g #[.slice K kn kc, .int .u64 (x.seq : Int), .int .u8 (x.kind : Int), .slice V vn vc] 31)
      case first =>
        by_cases hm0 : m = 0
        · subst hm0
          have hrs : rs2 = rsB ev es i ++ fourB on := by rw [HRS2.out, rsB, if_pos HM.out.symm, ← HON.out]
          have hsh0 : sh = 0 := by rw [HSH.out, shB, if_pos HM.out.symm]
          subst hsh0
          have hR' := HCU.out.2.1
          rw [← HRN.out] at hR'
          have HAW := Lib.hid (appendWord_any R rn rc (rsB ev es i) w.heap.size on U hR' hwU (by omega) (by omega))
          have HRS := Lib.hid hrs
          clear hrs hR'
          go_wp2_with fail
          with_reducible refine HAW.out.mono ?_
          rintro e wx ⟨R', rc', rfl, oR, gR⟩
          have hln : rn + (fourB on).length = rn2 := by rw [HRN2.out, HRS.out, List.length_append, ← HRN.out]
          rw [hln] at oR ⊢
          rw [← HRS.out] at oR
          have hcs : CS w O oc (outB ev es i) R' rc' rs2 wx := HCU.out.right (by rw [← HRN2.out]; exact oR) gR
          have hkx : Cl wx g #[.slice K kn kc, .int .u64 (x.seq : Int), .int .u8 (x.kind : Int), .slice V vn vc] 31 := ClG.off HKU.out HCU.out.2.1 (by decide) gR
          have HF := Lib.hid (And.intro hcs hkx)
          clear oR gR hcs hkx hln
          go_wp2_with fail
          go_meet
          case rel => exact ⟨R', rc', by first | rfl | simp, by first | rfl | simp, HF.out.1, HF.out.2⟩
        · have t1 : ((m : Int) == 0) = false := by simp; omega
          have hrs : rs2 = rsB ev es i := by rw [HRS2.out, rsB, if_neg (by rw [← HM.out]; exact hm0)]
          obtain ⟨j, hj⟩ : ∃ j, j = i - 1 := ⟨_, rfl⟩
          have hi0 : 0 < i := by
            rcases Nat.eq_zero_or_pos i with h0 | h0
            · exact absurd (by rw [HM.out, h0, Nat.zero_mod]) hm0
            · exact h0
          obtain ⟨y, u0, u1, u2, u3, hy, d0', d1', d2', d3', hew⟩ := HR.out.at_ j (by omega)
          obtain ⟨L, ln, lc, _, _, _, hu0, _, _, _, r0', _⟩ := hew.parts
          subst hu0
          have hsh2 : sh = comB y.key x.key := by
            rw [HSH.out, shB, if_neg (by rw [← HM.out]; exact hm0), ← hj, hy, HXI.out]
          have hsy := HS.out y (List.mem_of_getElem? hy)
          have hkn1 : kn ≤ 1099511627776 := by have := HXS.out.1; have := HR0.out.len; omega
          have hln1 : ln ≤ 1099511627776 := by have := r0'.len; omega
          have d0 : U.cell? ⟨b, off + j * 4, none⟩ = some (.slice L ln lc) := (HCU.out.2.2.2.cell (p := ⟨b, off + j * 4, none⟩) hbl).trans d0'
          have k0 := HKU.out.c4.1
          have e2 : IntKind.i64.wrap ((i : Int) - 1) = (j : Int) := by rw [IntWalk.i64_in _ (by omega)]; omega
          have hjn : j < n := by omega
          have HCM : Hid (∀ q, Calls Tryz.prog 196 #[.slice L ln lc, .slice K kn kc] (U.drewN q) (RetCo (U.drewN q) sh)) := Lib.hid (fun q => by
            rw [hsh2]
            exact common_any L K ln kn lc kc y.key x.key _ ((r0'.below HCU.out.2.2.2).drewN q) ((HR0.out.below HCU.out.2.2.2).drewN q) hln1 hkn1)
          have HRS := Lib.hid hrs
          have HJ := Lib.hid hj
          have hoi : off + j * 4 + 0 = off + j * 4 := rfl
          clear hrs hj hy d0' d1' d2' d3' hew r0' hsh2 hsy hoi
          go_wp2_with fail
          go_quiet ((go_at_call 196; with_reducible exact Calls.quiet_of (HCM.out _)))
          have hcs : CS w O oc (outB ev es i) R rc rs2 (U.drewN nq) := by
            rw [HRS.out]
            exact HCU.out.below (below_drewN (Below.refl _ _) nq)
          have HF := Lib.hid (And.intro hcs (HKU.out.drewN nq))
          have hln : rn = rn2 := by rw [HRN2.out, HRS.out, ← HRN.out]
          subst hln
          clear hcs
          go_wp2_with fail
          go_meet
          case rel => exact ⟨R, rc, by first | rfl | simp, by first | rfl | simp, HF.out.1, HF.out.2⟩
      case rest =>
        obtain ⟨R', rc', rfl, rfl, hcs, hkx⟩ := hcut
        have hO := hcs.1
        rw [← HON.out] at hO
        have hxe := entB_len (s := sh) (x := x) (by rw [HSH.out]; exact shB_le HXI.out) HXS.out.1 HXS.out.2 HXW.out
        have HAE := Lib.hid (appendEntry_any HEV.out ⟨by have := HXS.out.1; omega, by have := HXS.out.2; omega⟩ sh (by rw [HSH.out]; exact shB_le HXI.out) O on oc (outB ev es i) hO hcs.2.2.2 (by omega))
        have hstep : outB ev es (i + 1) = outB ev es i ++ entB sh x := by rw [outB_step HXI.out, HSH.out]
        obtain ⟨ol, hol2⟩ : ∃ ol, ol = on + (entB sh x).length := ⟨_, rfl⟩
        have holn : ol = (outB ev es (i + 1)).length := by rw [hstep, List.length_append, ← HON.out, hol2]
        have hob : ol ≤ 1200000 := by omega
        have HOL := Lib.hid hol2
        have HOLN := Lib.hid holn
        have HST := Lib.hid hstep
        have HCS := Lib.hid hcs
        obtain ⟨k0, k1, k2, k3, _⟩ := hkx.c4
        have HG2 := Lib.hid hkx
        clear hO hcs hkx hxe hstep hol2 holn
        go_wp2_with fail
        with_reducible refine HAE.out.mono ?_
        rintro e w3 ⟨O', oc', rfl, oO, gO⟩
        rw [← HOL.out] at oO ⊢
        rw [← HST.out] at oO
        have hc3 : CS w O' oc' (outB ev es (i + 1)) R' rc' rs2 w3 := HCS.out.left (by rw [← HOLN.out]; exact oO) gO
        have HC3 := Lib.hid hc3
        clear oO gO hc3
        by_cases hbig : 1048576 < ol
        · go_wp2_with fail
          go_ret
          have h1 := HC3.out.1
          have h2 := HOLN.out
          unfold RetCt
          refine ⟨O', oc', _, by rw [h2]; rfl, h1, HC3.out.2.2.2, by omega, .inl ⟨by omega, ?_⟩⟩
          unfold fullB
          rw [List.length_append, List.length_append]
          have := outB_mono ev es (i + 1) es.length (by rw [HL.out]; omega)
          omega
        · go_wp2_with fail
          go_roundw
          case rel => exact ⟨i + 1, ol, rn2, O', R', oc', rc', by omega, by go_num, HOLN.out, by rw [HRN2.out, HRS2.out], rfl, rfl, by omega, by rw [← HRS2.out]; exact HC3.out⟩
          case measure => simp [intOf]; omega
    · obtain rfl : i = n := by omega
      have hsw := hbC.size
      have hO := HC.out.1
      rw [← HON.out] at hO
      have hRd := HC.out.2.1.rd
      rw [← HRN.out] at hRd
      have hDj := HC.out.2.2.1
      have HR2 := Lib.hid HC.out.2.1
      clear hbC
      go_wp2_with (at_builtin; refine wpList_appX _ rfl _ _ 28 rfl w.heap.size 5 Tryz.underlying28 info_u8 O on oc _ rfl hO R rn rc (rsB ev es i) rfl hRd ?_ ?_ ?_)
      · omega
      · exact hsw
      intro O2 oc2 w2 o2 g2
      obtain ⟨q, hq⟩ : ∃ q, q = rn / 4 := ⟨_, rfl⟩
      have e3 : (rn : Int) / 4 = (q : Int) := by rw [hq]; omega
      have hb2 : Below w.heap.size w w2 := HC.out.2.2.2.trans (g2.below HC.out.1 hsw)
      have hq2 : q ≤ 16777216 := by omega
      have HAW := Lib.hid (appendWord_any O2 (on + rn) oc2 _ w.heap.size q w2 o2 hb2.size (by omega) (by omega))
      have HQ := Lib.hid hq
      have HO2 := Lib.hid o2
      have HB2 := Lib.hid hb2
      clear hO hRd hDj g2 hq o2 hb2
      go_wp2_with fail
      with_reducible refine HAW.out.mono ?_
      rintro e w3 ⟨O3, oc3, rfl, o3, g3⟩
      have hb3 : Below w.heap.size w w3 := HB2.out.trans (g3.below HO2.out HB2.out.size)
      have hfull : (outB ev es i ++ rsB ev es i) ++ fourB q = fullB ev es := by
        unfold fullB
        rw [HL.out, HQ.out, ← HRN.out]
      rw [hfull] at o3
      have hlen : on + rn + (fourB q).length = (fullB ev es).length := by
        rw [← hfull, List.length_append, List.length_append, ← HON.out, ← HRN.out]
      have hl2 : (fullB ev es).length ≤ 100000000 := by
        rw [← hlen, fourB_len]; omega
      rw [hlen] at o3 ⊢
      have HF := Lib.hid (And.intro o3 (And.intro hb3 hl2))
      clear o3 g3 hb3 hfull hlen hl2
      go_wp2_with fail
      go_ret
      exact ⟨O3, oc3, _, rfl, HF.out.1, HF.out.2.1, HF.out.2.2, .inr rfl⟩
end Go.Proofs.YtlnpicfkcahdbaaGreat
namespace Go.Proofs.YtlnpicfkcahdbaaGreat
open Go Go.RowKit

theorem or_byte64 {m : Nat} (b : UInt8) (h : m < 16777216) : bits .or .i64 ((m : Int) * 256) (b.toNat : Int) = ((m * 256 + b.toNat : Nat) : Int) := by
  have hb := b.toNat_lt
  have h1 := (bits_nat .i64 32 (by decide) (fun n h1 h2 => IntWalk.i64_in n (by simp at h2; omega)) (m * 256) b.toNat (by simp; omega) (by simp; omega)).2
  have h2 : m * 256 ||| b.toNat = m * 256 + b.toNat := by
    rw [Nat.mul_comm]
    exact (Nat.two_pow_add_eq_or_of_lt (i := 8) (by simpa using hb) m).symm
  rw [h2] at h1
  exact h1
set_option maxRecDepth 100000 in
set_option maxHeartbeats 1000000 in
theorem getWord8_any (A : Option Addr) (n c : Nat) (xs : List UInt8) (w : World) (hx : Rd w A n xs) (h4 : 4 ≤ n) (hn : n ≤ 1099511627776) (hnc : n ≤ c) :
    Calls Tryz.prog 193 #[.slice A n c] w (RetCo w (numK xs 4)) := by
  have hsl : ∀ w, (Instr.slice 28 (.slice A n c) none (some (.int .i64 4)) none).run Tryz.prog w = .ok (.slice A 4 c) w :=
    cut_h Tryz.underlying28 elem_bytes size_u8 A (m := 4) (by omega)
  go_enter Tryz.func193, Tryz.ntmps193
  go_wp2
  go_loopw [3, 9] (fun vm vi wr => ∃ m i q : Nat, vm = .int .i64 m ∧ vi = .int .i64 i ∧ i ≤ 4 ∧ m = numK xs i ∧ wr = w.drewN q) (fun _ vi _ => 4 - (intOf vi).toNat)
  case atStart => exact ⟨0, 0, 0, rfl, rfl, by omega, rfl, rfl⟩
  case round =>
    obtain ⟨m, i, q, rfl, rfl, hi, hm, rfl⟩ := hrel
    have hml := numK_lt xs i
    rw [← hm] at hml
    have Hm := Lib.hid hm
    clear hm
    by_cases hlt : i < 4
    · have hm3 : m < 16777216 := Nat.lt_of_lt_of_le hml (Nat.le_trans (Nat.pow_le_pow_right (by decide) (show i ≤ 3 by omega)) (by decide))
      clear hml
      obtain ⟨bf, off, rfl, _⟩ := hx.pos (by omega)
      obtain ⟨b, hb, hc, _⟩ := hx.at_ i (by omega)
      have hb8 := b.toNat_lt
      have e1 := or_byte64 b hm3
      have HR : Hid (m * 256 + b.toNat = numK xs (i + 1)) := Lib.hid (by rw [numK_take hb, Hm.out])
      clear hb
      obtain ⟨W, hW⟩ : ∃ W, W = w.drewN q := ⟨_, rfl⟩
      have c1 : W.cell? ⟨bf, off + i, none⟩ = some (.int .u8 (b.toNat : Int)) := by rw [hW]; exact hc
      rw [← hW]
      have HW := Lib.hid hW
      clear hW hc
      go_wp2
      go_roundw
      case rel => exact ⟨m * 256 + b.toNat, i + 1, q, by go_num, by go_num, by omega, HR.out, HW.out⟩
      case measure => simp [intOf]; omega
    · obtain rfl : i = 4 := by omega
      clear hml
      go_wp2
      go_ret
      exact ⟨by rw [Hm.out]; rfl, q, rfl⟩
/-- What is sealed, parted: the entries' bytes, the restarts' places. -/
def splitB (xs : List UInt8) : Option (List UInt8 × List UInt8) :=
  if xs.length < 4 then none else
    let k := numK (xs.drop (xs.length - 4)) 4
    if (xs.length - 4) / 4 < k then none else some (xs.take (xs.length - 4 - 4 * k), (xs.take (xs.length - 4)).drop (xs.length - 4 - 4 * k))
/-- What split hands back: two pieces of what came in, or none. -/
def RetSp8 (w : World) (A : Option Addr) (xs : List UInt8) (e : Ending) (w' : World) : Prop :=
  (∃ q, w' = w.drewN q) ∧ ((splitB xs = none ∧ e = .returned (.tuple #[.slice none 0 0, .slice none 0 0, .bool false])) ∨
  ∃ ys zs B1 n1 c1 B2 n2 c2, splitB xs = some (ys, zs) ∧ e = .returned (.tuple #[.slice B1 n1 c1, .slice B2 n2 c2, .bool true]) ∧ n1 ≤ c1 ∧ n2 ≤ c2 ∧ Rd w B1 n1 ys ∧ Rd w B2 n2 zs ∧ (B1 = none → c1 = 0) ∧ (B2 = none → c2 = 0) ∧ (blk B1 = none ∨ blk B1 = blk A) ∧ n1 + n2 + 4 = xs.length)
set_option maxRecDepth 100000 in
set_option maxHeartbeats 4000000 in
theorem split_any (A : Option Addr) (n c : Nat) (xs : List UInt8) (w : World) (hx : Rd w A n xs) (hn : n ≤ 1099511627776) (hnc : n ≤ c) (hnil : A = none → c = 0) :
    Calls Tryz.prog 192 #[.slice A n c] w (RetSp8 w A xs) := by
  have hxl := hx.len
  by_cases h4 : n < 4
  · have hs : splitB xs = none := by unfold splitB; rw [if_pos (by omega)]
    have e1 : IntKind.i64.wrap ((n : Int) - 4) = (n : Int) - 4 := IntWalk.i64_in _ (by omega)
    have t1 : (n : Int) - 4 < 0 := by omega
    have t2 : (n : Int) < 4 := by omega
    have HS := Lib.hid hs
    clear hx hs hxl
    go_enter Tryz.func192, Tryz.ntmps192
    go_wp2_with fail
    exact bodyPost_ret (v := .tuple #[.slice none 0 0, .slice none 0 0, .bool false]) (by simp [results, Tryz.f192, go_sem]; try rfl) rfl ⟨⟨0, rfl⟩, .inl ⟨HS.out, rfl⟩⟩
  · obtain ⟨m, hm⟩ : ∃ m, m = n - 4 := ⟨_, rfl⟩
    have e1 : IntKind.i64.wrap ((n : Int) - 4) = (m : Int) := by rw [IntWalk.i64_in _ (by omega)]; omega
    obtain ⟨k, hk⟩ : ∃ k, k = numK (xs.drop m) 4 := ⟨_, rfl⟩
    have hkl : k < 4294967296 := by rw [hk]; exact Nat.lt_of_lt_of_le (numK_lt _ 4) (by decide)
    have hsl : ∀ W : World, (Instr.slice 28 (.slice A n c) (some (.int .i64 (m : Int))) none none).run Tryz.prog W = .ok (.slice (cutA A m c) 4 (c - m)) W := fun W => by
      have := cut_l Tryz.underlying28 elem_bytes size_u8 A (n := n) (cap := c) (k := m) (by omega) W
      rw [show n - m = 4 by omega] at this
      exact this
    have hrd : Rd w (cutA A m c) 4 (xs.drop m) := by
      have := hx.cut (k := m) (m := n) (cap := c) (by omega) (Nat.le_refl _) hnc
      rw [List.take_of_length_le (by omega), show n - m = 4 by omega] at this
      exact this
    have HGW : Hid (Calls Tryz.prog 193 #[.slice (cutA A m c) 4 (c - m)] w (RetCo w k)) := Lib.hid (by
      rw [hk]
      exact getWord8_any _ 4 _ _ w hrd (by omega) (by omega) (by omega))
    have e2 : (m : Int) / 4 = ((m / 4 : Nat) : Int) := by omega
    obtain ⟨d, hd⟩ : ∃ d, d = m / 4 := ⟨_, rfl⟩
    have e3 : (m : Int) / 4 = (d : Int) := by omega
    by_cases hdk : d < k
    · have hs : splitB xs = none := by
        unfold splitB
        rw [if_neg (by omega), hxl, ← hm]
        simp only
        rw [← hk, ← hd, if_pos hdk]
      have HS := Lib.hid hs
      clear hx hs hxl hrd hm hk hd e2
      go_enter Tryz.func192, Tryz.ntmps192
      go_wp2_with fail
      with_reducible refine HGW.out.mono ?_
      rintro e w2 ⟨rfl, q, hq⟩
      go_wp2_with fail
      exact bodyPost_ret (v := .tuple #[.slice none 0 0, .slice none 0 0, .bool false]) (by simp [results, Tryz.f192, go_sem]; try rfl) rfl ⟨⟨q, by first | exact hq | rfl⟩, .inl ⟨HS.out, rfl⟩⟩
    · obtain ⟨b, hb⟩ : ∃ b, b = m - 4 * k := ⟨_, rfl⟩
      have e4 : IntKind.i64.wrap (4 * (k : Int)) = 4 * (k : Int) := IntWalk.i64_in _ (by omega)
      have e5 : IntKind.i64.wrap ((m : Int) - 4 * (k : Int)) = (b : Int) := by rw [IntWalk.i64_in _ (by omega)]; omega
      have hbm : b ≤ m := by omega
      have hmn : m ≤ n := by omega
      have hs : splitB xs = some (xs.take b, (xs.take m).drop b) := by
        unfold splitB
        rw [if_neg (by omega), hxl, ← hm]
        simp only
        rw [← hk, ← hd, if_neg hdk, ← hb]
      have s1 : ∀ W : World, (Instr.slice 28 (.slice A n c) none (some (.int .i64 (b : Int))) none).run Tryz.prog W = .ok (.slice A b c) W := cut_h Tryz.underlying28 elem_bytes size_u8 A (by omega)
      have s2 : ∀ W : World, (Instr.slice 28 (.slice A n c) (some (.int .i64 (b : Int))) (some (.int .i64 (m : Int))) none).run Tryz.prog W = .ok (.slice (cutA A b c) (m - b) (c - b)) W := cut_lh Tryz.underlying28 elem_bytes size_u8 A hbm (by omega)
      obtain ⟨z, hz⟩ : ∃ z, z = m - b := ⟨_, rfl⟩
      rw [← hz] at s2
      have hcn : cutA A b c = none → c - b = 0 := fun hh => by
        unfold cutA at hh
        split at hh
        · omega
        · cases A with
          | none => have := hnil rfl; omega
          | some _ => cases hh
      have hfin : ∀ q, RetSp8 w A xs (.returned (.tuple #[.slice A b c, .slice (cutA A b c) z (c - b), .bool true])) (w.drewN q) := fun q =>
        ⟨⟨q, rfl⟩, .inr ⟨xs.take b, (xs.take m).drop b, A, b, c, cutA A b c, z, c - b, hs, rfl, by omega, by omega, hx.take (by omega), by rw [hz]; exact hx.cut hbm hmn hnc, hnil, hcn, .inr rfl, by omega⟩⟩
      have HF := Lib.hid hfin
      clear hx hs hxl hrd hm hk hd e2 hb hcn hfin hz
      go_enter Tryz.func192, Tryz.ntmps192
      go_wp2_with fail
      with_reducible refine HGW.out.mono ?_
      rintro e w2 ⟨rfl, q, hq⟩
      have HQ := Lib.hid hq
      clear hq
      go_wp2_with fail
      go_quiet (fail)
      go_wp2_with fail
      refine bodyPost_ret (v := .tuple #[.slice A b c, .slice (cutA A b c) z (c - b), .bool true]) (by simp [results, Tryz.f192, go_sem]; try rfl) rfl ?_
      have := HF.out (q + nq)
      rw [← World.drewN_drewN, ← HQ.out] at this
      exact this
end Go.Proofs.YtlnpicfkcahdbaaGreat
namespace Go.Proofs.YtlnpicfkcahdbaaGreat
open Go Go.RowKit

end Go.Proofs.YtlnpicfkcahdbaaGreat
namespace Go.Proofs.YtlnpicfkcahdbaaGreat
open Go Go.RowKit Go.Maps

theorem Dclone (s : ByteArray) (w : World) (hs : s.size ≤ 281474976710656) : Calls Tryz.prog 115 #[.string s] w fun e w' => e = .returned (.string s) ∧ Below w.heap.size w w' := by
  go_enter Tryz.func115, Tryz.ntmps115
  go_wp2_with fail
  refine (lib_stringslite_Clone s _ hs).mono ?_
  rintro e w' ⟨rfl, hb⟩
  go_wp2
  go_ret
  exact ⟨rfl, hb⟩
theorem eqlMap (m : Option Nat) (w : World) : (binOp .eql 106 (.map m) (.map none)).run Tryz.prog w = .ok (.bool m.isNone) w := by
  simp only [binOp]
  simp [run_equal_map_nil w 106 9 115 m Tryz.underlying106]

/-- A file put into its place. -/
def putR (r : FR) : List FR → List FR
  | [] => [r]
  | q :: t => if q.name = r.name then r :: t else if r.name < q.name then r :: q :: t else q :: putR r t
def putF (f : FE) : List FE → List FE
  | [] => [f]
  | q :: t => if q.1 = f.1 then f :: t else if f.1 < q.1 then f :: q :: t else q :: putF f t
theorem putR_val (r : FR) : ∀ rs : List FR, (putR r rs).map FR.val = putF r.val (rs.map FR.val)
  | [] => rfl
  | q :: t => by
    have ih := putR_val r t
    simp only [putR, putF, List.map_cons]
    show _ = if q.name = r.name then _ else if r.name < q.name then _ else _
    split
    · rfl
    · split
      · rfl
      · rw [List.map_cons, ih]
theorem putR_sub (r : FR) : ∀ (rs : List FR) (q : FR), q ∈ putR r rs → q = r ∨ q ∈ rs
  | [], q, h => by simp [putR] at h; exact .inl h
  | a :: t, q, h => by
    simp only [putR] at h
    split at h
    · rcases List.mem_cons.1 h with h | h
      · exact .inl h
      · exact .inr (List.mem_cons_of_mem _ h)
    · split at h
      · rcases List.mem_cons.1 h with h | h
        · exact .inl h
        · exact .inr h
      · rcases List.mem_cons.1 h with h | h
        · exact .inr (by rw [h]; exact List.mem_cons_self ..)
        · rcases putR_sub r t q h with h | h
          · exact .inl h
          · exact .inr (List.mem_cons_of_mem _ h)
theorem putF_sub (r : FE) : ∀ (rs : List FE) (q : FE), q ∈ putF r rs → q = r ∨ q ∈ rs
  | [], q, h => by simp [putF] at h; exact .inl h
  | a :: t, q, h => by
    simp only [putF] at h
    split at h
    · rcases List.mem_cons.1 h with h | h
      · exact .inl h
      · exact .inr (List.mem_cons_of_mem _ h)
    · split at h
      · rcases List.mem_cons.1 h with h | h
        · exact .inl h
        · exact .inr h
      · rcases List.mem_cons.1 h with h | h
        · exact .inr (by rw [h]; exact List.mem_cons_self ..)
        · rcases putF_sub r t q h with h | h
          · exact .inl h
          · exact .inr (List.mem_cons_of_mem _ h)
theorem nlt_trans {a b c : List UInt8} (h : a < b) (h2 : b < c) : a < c := List.lt_trans h h2
theorem nlt_irrefl (a : List UInt8) : ¬ a < a := List.lt_irrefl a
theorem nlt_ne {a b : List UInt8} (h : a < b) : a ≠ b := fun e => by subst e; exact nlt_irrefl a h
theorem nlt_tri {a b : List UInt8} (h : a ≠ b) (h2 : ¬ a < b) : b < a := by
  by_cases h3 : b < a
  · exact h3
  · exact absurd (List.le_antisymm (List.not_lt.1 h3) (List.not_lt.1 h2)) h
def rsUp (rs : List FR) : Prop := rs.Pairwise fun a b => a.name < b.name
theorem rsUp_of {rs : List FR} (h : risingF (rs.map FR.val)) : rsUp rs := by
  unfold risingF at h
  rw [List.pairwise_map] at h
  exact h
theorem putR_pair {r : FR} {S : FR → FR → Prop} (hs : ∀ a b, S a b → S b a) : ∀ {rs : List FR}, rs.Pairwise S → (∀ q ∈ rs, q.name ≠ r.name → S r q) → rsUp rs → (putR r rs).Pairwise S
  | [], _, _, _ => List.pairwise_singleton _ _
  | a :: t, hp, hr, hn => by
    unfold rsUp at hn
    rw [List.pairwise_cons] at hp hn
    simp only [putR]
    split
    · next e => exact List.pairwise_cons.2 ⟨fun q hq => hr q (List.mem_cons_of_mem _ hq) (fun e2 => nlt_ne (hn.1 q hq) (by rw [e, e2])), hp.2⟩
    · next e =>
      split
      · next e3 =>
        refine List.pairwise_cons.2 ⟨fun q hq => ?_, List.pairwise_cons.2 hp⟩
        rcases List.mem_cons.1 hq with h | h
        · rw [h]; exact hr a (List.mem_cons_self ..) e
        · exact hr q (List.mem_cons_of_mem _ h) (fun e2 => nlt_ne (nlt_trans e3 (hn.1 q h)) e2.symm)
      · refine List.pairwise_cons.2 ⟨fun q hq => ?_, putR_pair hs hp.2 (fun q hq => hr q (List.mem_cons_of_mem _ hq)) hn.2⟩
        rcases putR_sub r t q hq with h | h
        · rw [h]; exact hs _ _ (hr a (List.mem_cons_self ..) e)
        · exact hp.1 q h
theorem putR_len_new {r : FR} : ∀ {rs : List FR}, (∀ q ∈ rs, q.name ≠ r.name) → (putR r rs).length = rs.length + 1
  | [], _ => rfl
  | a :: t, h => by
    simp only [putR]
    rw [if_neg (h a (List.mem_cons_self ..))]
    split
    · rfl
    · rw [List.length_cons, putR_len_new (fun q hq => h q (List.mem_cons_of_mem _ hq)), List.length_cons]
theorem putR_any {r : FR} (x : List UInt8) : ∀ {rs : List FR}, (∀ q ∈ rs, q.name ≠ r.name) → (putR r rs).any (fun q => q.name == x) = (r.name == x || rs.any (fun q => q.name == x))
  | [], _ => by simp [putR]
  | a :: t, h => by
    simp only [putR]
    rw [if_neg (h a (List.mem_cons_self ..))]
    split
    · simp
    · rw [List.any_cons, putR_any x (fun q hq => h q (List.mem_cons_of_mem _ hq)), List.any_cons]
      cases (r.name == x) <;> cases (a.name == x) <;> simp
/-- The map with one more file. -/
theorem MR.put {Dm : DU} {rs : List FR} {r : FR} (h : MR Dm rs) (ht : Tidy Dm) (hn : ∀ q ∈ rs, q.name ≠ r.name) : MR (Dm.put (.string r.name) (.lit (.int .i64 (r.fb : Int)))) (putR r rs) := by
  have hk : WideAt.IsKeyLit (.string r.name) := trivial
  have hno : has Dm (.string r.name) = false := by
    rw [h.2.1, List.any_eq_false]
    intro q hq
    simpa using hn q hq
  refine ⟨?_, fun x => ?_, fun q hq z => ?_⟩
  · rw [size_put ht, hno, putR_len_new hn, h.1]; rfl
  · rw [putR_any x hn]
    by_cases e : r.name = x
    · subst e
      rw [has_put_same ht.isMap hk]
      simp
    · rw [has_put_other (by intro e2; injection e2 with e2; exact e e2.symm), h.2.1]
      simp [e]
  · rcases putR_sub r rs q hq with rfl | hq
    · exact atKey_put_same ht.isMap hk _ _
    · rw [atKey_put_other (by intro e2; injection e2 with e2; exact hn q hq e2)]
      exact h.2.2 q hq z
theorem putF_up {f : FE} : ∀ {fs : List FE}, risingF fs → risingF (putF f fs)
  | [], _ => List.pairwise_singleton _ _
  | a :: t, h => by
    have h0 := h
    unfold risingF at h
    rw [List.pairwise_cons] at h
    simp only [putF]
    split
    · next e => exact List.pairwise_cons.2 ⟨fun q hq => by rw [← e]; exact h.1 q hq, h.2⟩
    · next e =>
      split
      · next e3 =>
        refine List.pairwise_cons.2 ⟨fun q hq => ?_, h0⟩
        rcases List.mem_cons.1 hq with h4 | h4
        · rw [h4]; exact e3
        · exact nlt_trans e3 (h.1 q h4)
      · next e3 =>
        refine List.pairwise_cons.2 ⟨fun q hq => ?_, putF_up h.2⟩
        rcases putF_sub f t q hq with h4 | h4
        · rw [h4]; exact nlt_tri (fun e5 => e e5.symm) e3
        · exact h.1 q h4

/-- 'The disk's head says map b now; what was there else stands.' -/
def RetPut (w : World) (p : Nat) (m : Option Nat) (rs : List FR) (room used left : Int) (dead armed : Bool) (e : Ending) (w' : World) : Prop :=
  e = .returned (.tuple #[]) ∧ ∃ b Dm, w'.heap[p]? = some (.cells (headV (some b) room used left dead armed) 108 (0, 0)) ∧ w'.ownsMap Tryz.prog 9 ptrEl b rs.length Dm ∧ MR Dm rs ∧
    Fr w w' (p :: m.toList) ∧ ((m = some b) ∨ (w.heap.size ≤ b))

section
variable {w : World} {p : Nat} {m : Option Nat} {rs : List FR} {room used left : Int} {dead armed : Bool}
set_option maxRecDepth 100000 in
set_option maxHeartbeats 2000000 in
theorem put_some {b : Nat} {Dm : DU} (r : FR) (hp : w.heap[p]? = some (.cells (headV (some b) room used left dead armed) 108 (0, 0))) (ho : w.ownsMap Tryz.prog 9 ptrEl b rs.length Dm) (hm : MR Dm rs) (hpb : b ≠ p)
    (hn : ∀ q ∈ rs, q.name ≠ r.name) (hl : r.name.length ≤ 1099511627776) (hrs : rs.length ≤ 1099511627776) :
    Calls Tryz.prog 155 #[.pointer (some ⟨p, 0, none⟩), .string (tx r.name), .pointer (some ⟨r.fb, 0, none⟩)] w (RetPut w p (some b) (putR r rs) room used left dead armed) := by
  have c0 : w.cell? ⟨p, 0, none⟩ = some (.map (some b)) := cell_of_row w p 0 _ _ _ hp
  have hml : 1099511627776 < maxLen := by unfold maxLen; omega
  have hkey := keyN (x := r.name) (by omega)
  have heq := eqlMap
  have hsz : (tx r.name).size ≤ 281474976710656 := by rw [tx_size]; omega
  have hlt := ho.lt
  have HP := Lib.hid hp
  have HPL := Lib.hid (Array.getElem?_eq_some_iff.1 hp).1
  have HPB := Lib.hid hpb
  have HN := Lib.hid hn
  have HM := Lib.hid hm
  clear hp hpb hn hm
  have hS : w.cell? ⟨p, 0, none⟩ = some (.map (some b)) ∧ Below w.heap.size w w := ⟨c0, Below.refl _ _⟩
  have HU : Hid (∀ w2, Below w.heap.size w w2 → ∃ w3, (Instr.mapUpdate 106 (.map (some b)) (.string (tx r.name)) (.pointer (some ⟨r.fb, 0, none⟩))).run Tryz.prog w2 = .ok () w3 ∧ w3.cell? ⟨p, 0, none⟩ = some (.map (some b)) ∧ RetPut w p (some b) (putR r rs) room used left dead armed (.returned (.tuple #[])) w3) := Lib.hid (fun w2 hb => by
    have ho2 := ho.kept (w' := w2) (row := none) ⟨hb.os, hb.tape, hb.output, hb.size, fun k hk _ => hb.block k hk⟩ (by simp)
    obtain ⟨w3, hrun, h3, hg⟩ := ho2.update (t := 106) (e := 115) lawN Tryz.underlying106 (by omega) hkey (ptrEl_some r.fb)
    have hp3 : w3.heap[p]? = some (.cells (headV (some b) room used left dead armed) 108 (0, 0)) := by
      rw [hg.block p (Nat.lt_of_lt_of_le HPL.out hb.size) (fun e => HPB.out (by injection e with e; exact e.symm)), hb.block p HPL.out]
      exact HP.out
    refine ⟨w3, hrun, cell_of_row w3 p 0 _ _ _ hp3, rfl, b, _, hp3, by rw [putR_len_new HN.out]; exact h3, HM.out.put (ho.tidy lawN) HN.out, ?_, .inl rfl⟩
    · have f1 : Fr w w2 (p :: (some b).toList) := Fr.of_below hb _
      have f2 : Fr w2 w3 [b] := Fr.of_grown hg (fun k hk => by injection hk with hk; rw [hk]; exact List.mem_singleton.2 rfl)
      exact f1.trans f2 (fun k hk => .inl (by rw [List.mem_singleton] at hk; rw [hk]; simp)))
  clear ho hkey hml
  go_enter Tryz.func155, Tryz.ntmps155
  go_wp2
  go_region_held3 (fun w' => w'.cell? ⟨p, 0, none⟩ = some (.map (some b))) (first | assumption | exact hS.1 | exact hS2.1)
    (first | (go_at_call 115; refine (Dclone _ _ hsz).mono ?_; rintro e w2 ⟨rfl, hb2⟩; have hS2 := Cel.made (w := w.drew) (w0 := w) (v := .map (some b)) (p := ⟨p, 0, none⟩) ⟨hS.1, hS.2.drew⟩ hb2; obtain ⟨w3, hrun, hS3, hfin⟩ := HU.out _ hS2.2))
  go_end0
  exact hfin
set_option maxRecDepth 100000 in
set_option maxHeartbeats 2000000 in
theorem put_nil (r : FR) (hp : w.heap[p]? = some (.cells (headV none room used left dead armed) 108 (0, 0))) (hl : r.name.length ≤ 1099511627776) :
    Calls Tryz.prog 155 #[.pointer (some ⟨p, 0, none⟩), .string (tx r.name), .pointer (some ⟨r.fb, 0, none⟩)] w (RetPut w p none [r] room used left dead armed) := by
  have c0 : w.cell? ⟨p, 0, none⟩ = some (.map none) := cell_of_row w p 0 _ _ _ hp
  have f0 : w.frozen? ⟨p, 0, none⟩ = false := frozen_of_row w p 0 _ _ hp
  have hml : 1099511627776 < maxLen := by unfold maxLen; omega
  have hkey := keyN (x := r.name) (by omega)
  have heq := eqlMap
  have hmm := @run_makeMap Tryz.prog
  have hsz : (tx r.name).size ≤ 281474976710656 := by rw [tx_size]; omega
  have hpl := (Array.getElem?_eq_some_iff.1 hp).1
  obtain ⟨W, hW⟩ : ∃ W, W = (w.setCell ⟨p, 0, none⟩ (.map (some w.heap.size))).alloc (.map #[] 0) := ⟨_, rfl⟩
  have hsc : (w.setCell ⟨p, 0, none⟩ (.map (some w.heap.size))).heap.size = w.heap.size := by simp
  have hWp : W.heap[p]? = some (.cells (headV (some w.heap.size) room used left dead armed) 108 (0, 0)) := by
    rw [hW, heap_alloc_old _ _ (by rw [hsc]; exact hpl), heap_setCell_same _ _ _ _ _ _ hp]
    rfl
  have hWo : W.ownsMap Tryz.prog 9 ptrEl w.heap.size 0 (.map [] : DU) := by
    have h1 := World.ownsMap_made (w.setCell ⟨p, 0, none⟩ (.map (some w.heap.size))) Tryz.prog 9 ptrEl (H := Unit)
    rw [hsc] at h1
    rw [hW]
    exact h1
  have hWf : Fr w W [p] := by
    rw [hW]
    exact (Fr.set w p 0 _).trans (Fr.of_below ((Below.refl _ _).alloc (Nat.le_refl _) _) [p]) (fun k hk => .inl hk)
  have HWp := Lib.hid hWp
  have HWo := Lib.hid hWo
  have HWf := Lib.hid hWf
  have HPL := Lib.hid hpl
  have HW := Lib.hid hW
  have hS : W.cell? ⟨p, 0, none⟩ = some (.map (some w.heap.size)) ∧ Below W.heap.size W W := ⟨cell_of_row W p 0 _ _ _ hWp, Below.refl _ _⟩
  clear hp hWp hWo hWf hW hsc
  have HU : Hid (∀ w2, Below W.heap.size W w2 → ∃ w3, (Instr.mapUpdate 106 (.map (some w.heap.size)) (.string (tx r.name)) (.pointer (some ⟨r.fb, 0, none⟩))).run Tryz.prog w2 = .ok () w3 ∧ w3.cell? ⟨p, 0, none⟩ = some (.map (some w.heap.size)) ∧ RetPut w p none [r] room used left dead armed (.returned (.tuple #[])) w3) := Lib.hid (fun w2 hb => by
    have ho := HWo.out
    have ho2 := ho.kept (w' := w2) (row := none) ⟨hb.os, hb.tape, hb.output, hb.size, fun k hk _ => hb.block k hk⟩ (by simp)
    obtain ⟨w3, hrun, h3, hg⟩ := ho2.update (t := 106) (e := 115) lawN Tryz.underlying106 (by omega) hkey (ptrEl_some r.fb)
    have hpW : p < W.heap.size := (Array.getElem?_eq_some_iff.1 HWp.out).1
    have hp3 : w3.heap[p]? = some (.cells (headV (some w.heap.size) room used left dead armed) 108 (0, 0)) := by
      rw [hg.block p (Nat.lt_of_lt_of_le hpW hb.size) (fun e => by injection e with e; have := HPL.out; omega), hb.block p hpW]
      exact HWp.out
    refine ⟨w3, hrun, cell_of_row w3 p 0 _ _ _ hp3, rfl, w.heap.size, _, hp3, h3, MR.put (rs := []) ⟨rfl, fun x => rfl, fun q hq => by cases hq⟩ (ho.tidy lawN) (fun q hq => by cases hq), ?_, .inr (Nat.le_refl _)⟩
    · have f1 : Fr w w2 [p] := HWf.out.trans (Fr.of_below hb [p]) (fun k hk => .inl hk)
      have f2 : Fr w2 w3 [w.heap.size] := Fr.of_grown hg (fun k hk => by injection hk with hk; rw [hk]; exact List.mem_singleton.2 rfl)
      exact f1.trans f2 (fun k hk => .inr (by rw [List.mem_singleton] at hk; omega)))
  clear hkey hml
  go_enter Tryz.func155, Tryz.ntmps155
  go_wp2
  rw [← HW.out]
  go_region_held3 (fun w' => w'.cell? ⟨p, 0, none⟩ = some (.map (some w.heap.size))) (first | assumption | exact hS.1 | exact hS2.1)
    (first | (go_at_call 115; refine (Dclone _ _ hsz).mono ?_; rintro e w2 ⟨rfl, hb2⟩; have hS2 := Cel.made (w := W.drew) (w0 := W) (v := .map (some w.heap.size)) (p := ⟨p, 0, none⟩) ⟨hS.1, hS.2.drew⟩ hb2; obtain ⟨w3, hrun, hS3, hfin⟩ := HU.out _ hS2.2))
  go_end0
  exact hfin
end
end Go.Proofs.YtlnpicfkcahdbaaGreat
namespace Go.Proofs.YtlnpicfkcahdbaaGreat
open Go Go.RowKit

/-- What the reference's Get answers: an entry's values as they lie in the list. -/
def RetGl (w : World) (o : Option En) (e : Ending) (w' : World) : Prop :=
  (o = none ∧ e = .returned (.tuple #[.agg #[.slice none 0 0, .int .u64 0, .int .u8 0, .slice none 0 0], .bool false]) ∧ Below w.heap.size w w') ∨
  ∃ x v0 v1 v2 v3, o = some x ∧ e = .returned (.tuple #[.agg #[v0, v1, v2, v3], .bool true]) ∧ EV w' x v0 v1 v2 v3 ∧ Below w.heap.size w w'
end Go.Proofs.YtlnpicfkcahdbaaGreat
namespace Go.Proofs.YtlnpicfkcahdbaaGreat
open Go Go.RowKit

/-- 'All memory that these values name lies in good blocks.' -/
def GV (G : Nat → Prop) (vs : List Value) : Prop := ∀ A m c g, Value.slice A m c ∈ vs → 0 < m → blk A = some g → G g
/-- 'The slice of n entries at A reads as these, and its memory lies in good blocks.' -/
def RG (G : Nat → Prop) (w : World) (A : Option Addr) (n : Nat) (es : List En) : Prop :=
  es.length = n ∧ ∃ vs, EVs w es vs ∧ RdV w A (n * 4) vs ∧ GV G vs ∧ (0 < n → ∀ g, blk A = some g → G g)
/-- 'What is good and was there stands.' -/
def FrG (G : Nat → Prop) (w w' : World) : Prop := w.heap.size ≤ w'.heap.size ∧ ∀ b, b < w.heap.size → G b → w'.heap[b]? = w.heap[b]?
section
variable {G H : Nat → Prop} {w w' w2 : World} {A : Option Addr} {n : Nat} {es gs : List En} {vs us : List Value}
theorem GV.app (h1 : GV G vs) (h2 : GV G us) : GV G (vs ++ us) := fun A m c g hv => by
  rcases List.mem_append.1 hv with h | h
  · exact h1 A m c g h
  · exact h2 A m c g h
theorem GV.nil : GV G [] := fun A m c g hv => by cases hv
theorem GV.sub (h : GV G vs) (hs : ∀ u ∈ us, u ∈ vs) : GV G us := fun A m c g hv => h A m c g (hs _ hv)
theorem GV.mono (h : GV G vs) (hs : ∀ g, G g → H g) : GV H vs := fun A m c g hv h0 hb => hs g (h A m c g hv h0 hb)
theorem RG.res (h : RG G w A n es) : REs w A n es := by
  obtain ⟨h1, vs, h2, h3, _⟩ := h
  exact REs.mk h2 h3 h1
theorem RG.len (h : RG G w A n es) : es.length = n := h.1
theorem RG.nil (G : Nat → Prop) (w : World) (A : Option Addr) : RG G w A 0 [] := ⟨rfl, [], rfl, RdV.nil _ _, GV.nil, fun h => absurd h (by omega)⟩
theorem RG.below (h : RG G w A n es) (hb : Below w.heap.size w w') : RG G w' A n es := by
  obtain ⟨h1, vs, h2, h3, h4⟩ := h
  exact ⟨h1, vs, h2.below hb, h3.below hb, h4⟩
theorem FrG.refl (G : Nat → Prop) (w : World) : FrG G w w := ⟨Nat.le_refl _, fun _ _ _ => rfl⟩
theorem FrG.trans (h : FrG G w w') (k : FrG G w' w2) : FrG G w w2 := ⟨Nat.le_trans h.1 k.1, fun b hb hg => (k.2 b (Nat.lt_of_lt_of_le hb h.1) hg).trans (h.2 b hb hg)⟩
theorem FrG.of_below (h : Below w.heap.size w w') : FrG G w w' := ⟨h.size, fun b hb _ => h.block b hb⟩
theorem FrG.of_grown {row : Option Nat} (h : w.grownBy w' row) (hr : ∀ g, row = some g → ¬ G g) : FrG G w w' := by
  obtain ⟨_, _, _, h4, h5⟩ := h
  exact ⟨h4, fun b hb hg => h5 b hb (fun e => hr b e.symm hg)⟩
theorem cell_of_heap {p : Addr} (h : w'.heap[p.block]? = w.heap[p.block]?) : w'.cell? p = w.cell? p := by
  unfold World.cell?
  rw [h]
theorem rd_good {xs : List UInt8} (h : Rd w A n xs) (hg : 0 < n → ∀ g, blk A = some g → G g) (hf : FrG G w w') : Rd w' A n xs := by
  refine ⟨h.1, fun hn => ?_⟩
  obtain ⟨b, off, rfl, h2, h3⟩ := h.2 hn
  exact ⟨b, off, rfl, Nat.lt_of_lt_of_le h2 hf.1, fun i x hx => (cell_of_heap (p := ⟨b, off + i, none⟩) (hf.2 b h2 (hg hn b rfl))).trans (h3 i x hx)⟩
theorem rdv_good (h : RdV w A n vs) (hg : 0 < n → ∀ g, blk A = some g → G g) (hf : FrG G w w') : RdV w' A n vs := by
  refine ⟨h.1, fun hn => ?_⟩
  obtain ⟨b, off, rfl, h2, h3⟩ := h.2 hn
  exact ⟨b, off, rfl, Nat.lt_of_lt_of_le h2 hf.1, fun i x hx => (cell_of_heap (p := ⟨b, off + i, none⟩) (hf.2 b h2 (hg hn b rfl))).trans (h3 i x hx)⟩
theorem ev_good {e : En} {v0 v1 v2 v3 : Value} (h : EV w e v0 v1 v2 v3) (hg : GV G [v0, v1, v2, v3]) (hf : FrG G w w') : EV w' e v0 v1 v2 v3 := by
  obtain ⟨h1, h2, h3, h4, ⟨K, kn, kc, rfl, r0, c0, d0⟩, ⟨V, vn, vc, rfl, r3, c3, d3⟩⟩ := h
  exact ⟨h1, h2, h3, h4, ⟨K, kn, kc, rfl, rd_good r0 (fun h0 g hb => hg K kn kc g (by simp) h0 hb) hf, c0, d0⟩, ⟨V, vn, vc, rfl, rd_good r3 (fun h0 g hb => hg V vn vc g (by simp) h0 hb) hf, c3, d3⟩⟩
theorem evs_good (hf : FrG G w w') : ∀ {es : List En} {vs : List Value}, EVs w es vs → GV G vs → EVs w' es vs
  | [], _, h, _ => h
  | _ :: _, _, ⟨v0, v1, v2, v3, r, e, h1, h2⟩, hg => ⟨v0, v1, v2, v3, r, e, ev_good h1 (hg.sub (fun u hu => by rw [e]; simp only [List.mem_cons, List.not_mem_nil, or_false] at hu ⊢; rcases hu with h | h | h | h <;> simp [h])) hf, evs_good hf h2 (hg.sub (fun u hu => by rw [e]; simp [hu]))⟩
/-- Behind whatever leaves the good blocks. -/
theorem RG.good (h : RG G w A n es) (hf : FrG G w w') : RG G w' A n es := by
  obtain ⟨h1, vs, h2, h3, h4, h5⟩ := h
  exact ⟨h1, vs, evs_good hf h2 h4, rdv_good h3 (fun h0 => h5 (by omega)) hf, h4, h5⟩
theorem ev_mem {e : En} {v0 v1 v2 v3 : Value} (h : EV w e v0 v1 v2 v3) {B : Option Addr} {m c : Nat} (hv : Value.slice B m c ∈ [v0, v1, v2, v3]) (h0 : 0 < m) {g : Nat} (hb : blk B = some g) : g < w.heap.size := by
  obtain ⟨K, kn, kc, V, vn, vc, rfl, rfl, rfl, rfl, r0, r3, _⟩ := h.parts
  simp only [List.mem_cons, List.not_mem_nil, or_false] at hv
  rcases hv with e | e | e | e
  · injection e with e1 e2 e3
    subst e1 e2
    obtain ⟨b, off, rfl, hl⟩ := r0.pos h0
    injection hb with hb
    rw [← hb]; exact hl
  · cases e
  · cases e
  · injection e with e1 e2 e3
    subst e1 e2
    obtain ⟨b, off, rfl, hl⟩ := r3.pos h0
    injection hb with hb
    rw [← hb]; exact hl
theorem evs_lt : ∀ {es : List En} {vs : List Value}, EVs w es vs → GV (fun g => g < w.heap.size) vs
  | [], _, h => by rw [h]; exact GV.nil
  | _ :: _, _, ⟨v0, v1, v2, v3, r, e, h1, h2⟩ => by
    rw [e]
    exact GV.app (vs := [v0, v1, v2, v3]) (fun A m c g hv h0 hb => ev_mem h1 hv h0 hb) (evs_lt h2)
/-- What is read lies in blocks that are there. -/
theorem REs.lt (h : REs w A n es) : RG (fun g => g < w.heap.size) w A n es := by
  obtain ⟨h1, vs, h2, h3⟩ := h
  refine ⟨h1, vs, h2, h3, evs_lt h2, fun h0 g hb => ?_⟩
  obtain ⟨b, off, rfl, hl⟩ := h3.pos (by omega)
  injection hb with hb
  rw [← hb]; exact hl
theorem RG.mono (h : RG G w A n es) (hs : ∀ g, G g → H g) : RG H w A n es := by
  obtain ⟨h1, vs, h2, h3, h4, h5⟩ := h
  exact ⟨h1, vs, h2, h3, h4.mono hs, fun h0 g hb => hs g (h5 h0 g hb)⟩
theorem RG.at_ {b off : Nat} (h : RG G w (some ⟨b, off, none⟩) n es) (k : Nat) (hk : k < n) :
    ∃ e v0 v1 v2 v3, es[k]? = some e ∧ w.cell? ⟨b, off + k * 4, none⟩ = some v0 ∧ w.cell? ⟨b, off + k * 4 + 1, none⟩ = some v1 ∧
      w.cell? ⟨b, off + k * 4 + 2, none⟩ = some v2 ∧ w.cell? ⟨b, off + k * 4 + 3, none⟩ = some v3 ∧ EV w e v0 v1 v2 v3 ∧ GV G [v0, v1, v2, v3] := by
  obtain ⟨h1, vs, h2, h3, h4, _⟩ := h
  obtain ⟨b', off', e, hb, hc⟩ := h3.2 (by omega)
  injection e with e
  injection e with e1 e2
  subst e1 e2
  obtain ⟨x, hx⟩ : ∃ x, es[k]? = some x := ⟨_, List.getElem?_eq_getElem (by omega)⟩
  obtain ⟨v0, v1, v2, v3, e0, e1, e2, e3, g0⟩ := h2.at_ k hx
  refine ⟨x, v0, v1, v2, v3, hx, hc _ _ e0, ?_, ?_, ?_, g0, h4.sub (fun u hu => ?_)⟩
  · rw [Nat.add_assoc]; exact hc _ _ e1
  · rw [Nat.add_assoc]; exact hc _ _ e2
  · rw [Nat.add_assoc]; exact hc _ _ e3
  · simp only [List.mem_cons, List.not_mem_nil, or_false] at hu
    rcases hu with rfl | rfl | rfl | rfl
    · exact List.mem_of_getElem? e0
    · exact List.mem_of_getElem? e1
    · exact List.mem_of_getElem? e2
    · exact List.mem_of_getElem? e3
end
def RetPA (G : Nat → Prop) (w : World) (z : Int × List En) (e : Ending) (w' : World) : Prop :=
  ∃ L k d, e = .returned (.tuple #[.slice L k d, .int .i64 z.1]) ∧ RG G w' L k z.2 ∧ k ≤ d ∧ Below w.heap.size w w'
theorem RetPA.out {G : Nat → Prop} {w : World} {z : Int × List En} {e : Ending} {w' : World} (h : RetPA G w z e w') : ∃ L k d, e = .returned (.tuple #[.slice L k d, .int .i64 z.1]) ∧ RG G w' L k z.2 ∧ k ≤ d ∧ Below w.heap.size w w' := h
end Go.Proofs.YtlnpicfkcahdbaaGreat
namespace Go.Proofs.YtlnpicfkcahdbaaGreat
open Go Go.RowKit

/-- Blocks of other kinds are other blocks. -/
theorem row_ne {t1 t2 : TypeId} {s1 s2 : Nat} {w : World} {b1 b2 n c m d : Nat} {L A : Option Addr} {i j : Nat} {vs us : List Value} (h : w.ownsRow b1 t1 s1 (.slice L n c) i vs) (k : w.ownsRow b2 t2 s2 (.slice A m d) j us) (hne : t1 ≠ t2) : Dj L A := fun b e1 e2 => by
  rcases h.2 with ⟨h1, _⟩ | ⟨g, cap, cur, h1, _, hg, _⟩
  · injection h1 with h1
    rw [h1] at e1; cases e1
  · injection h1 with h1
    rw [h1] at e1
    injection e1 with e1
    rcases k.2 with ⟨k1, _⟩ | ⟨g2, cap2, cur2, k1, _, kg, _⟩
    · injection k1 with k1
      rw [k1] at e2; cases e2
    · injection k1 with k1
      rw [k1] at e2
      injection e2 with e2
      simp only at e1 e2
      subst e1 e2
      rw [hg] at kg
      injection kg with kg
      injection kg with _ kg
      exact hne kg
theorem ownV_ne {t : TypeId} {w : World} {b1 b2 n c m d : Nat} {L A : Option Addr} {vs : List Value} {xs : List UInt8} (h : OwnV t w b1 L n c vs) (k : Own 5 w b2 A m d xs) (hne : t ≠ 5) : Dj L A := row_ne h k hne
theorem Cl.grown {w w' : World} {p : Nat} {us : Array Value} {ty : TypeId} {row : Option Nat} (h : Cl w p us ty) (hg : w.grownBy w' row) (hne : row ≠ some p) : Cl w' p us ty := by
  obtain ⟨_, _, _, h4, h5⟩ := hg
  exact (h5 p h.lt (fun e => hne e.symm)).trans h
theorem ownV_box2 (w : World) (t : TypeId) (base : Nat) (vs : List Value) (n : Nat) (hl : vs.length = n) (hn : n ≤ 1024) (hb : base ≤ w.heap.size) (cs : Array Value) (hc : cs = vs.toArray) : OwnV t (w.alloc (.cells cs t)) base (some ⟨w.heap.size, 0, none⟩) n n vs := by
  subst hc
  refine ⟨by simp [hl], .inr ⟨w.heap.size, n, vs.toArray, rfl, hb, heap_alloc_new w _, Nat.le_refl _, by unfold maxLen; omega, by simp [hl], ?_⟩⟩
  simp only [Nat.mul_one]
  exact List.take_of_length_le (by simp [hl])
section
variable {w w' : World} {base : Nat} {ps qs : List VB}
theorem Fam.app {base' : Nat} (h : Fam w base ps) (hn : Fam w' base' qs) (hb : Below w.heap.size w w') (h1 : w.heap.size ≤ base') (h2 : base ≤ base') : Fam w' base (ps ++ qs) := by
  have h0 : Fam w base (ps ++ []) := by rw [List.append_nil]; exact h
  have := Fam.ins h0 hn hb h1 h2
  rw [List.append_nil] at this
  exact this
theorem OffF.app {p : Nat} (h : OffF ps p) (k : OffF qs p) : OffF (ps ++ qs) p := fun q hq => by
  rcases List.mem_append.1 hq with h1 | h1
  · exact h q h1
  · exact k q h1
end
theorem ownE_kept {w w' : World} {base n c : Nat} {A : Option Addr} {vs : List Value} {row : Option Nat} (h : OwnE w base A n c vs) (hg : w.grownBy w' row) (hne : ∀ b, blk A = some b → row ≠ some b) : OwnE w' base A n c vs := by
  refine World.ownsRow.kept h hg ?_
  rw [own_blk]
  cases hb : blk A with
  | none => exact .inl rfl
  | some b => exact .inr (fun e => hne b hb e.symm)
theorem long_ok {x : En} (h : okE x = true) : x.key.length ≤ 1024 ∧ x.val.length ≤ 65536 := by
  have := (okE_iff.1 h).1
  unfold longE at this
  simp at this
  omega
end Go.Proofs.YtlnpicfkcahdbaaGreat
namespace Go.Proofs.YtlnpicfkcahdbaaGreat
open Go Go.RowKit

/-- What a table answers. -/
def keyed (key : List UInt8) : Option En → Option En
  | none => none
  | some e => if cmpB e.key key = 0 then some e else none
theorem keyed_find {key : List UInt8} {at_ : Nat} : ∀ {l : List En}, SortL l → keyed key (l.find? (fun e => !lessE e ⟨key, at_, 0, []⟩)) = findL key at_ l
  | [], _ => rfl
  | y :: l, hs => by
    obtain ⟨hy, hl⟩ := List.pairwise_cons.1 hs
    unfold findL
    rw [List.find?_cons, List.find?_cons]
    cases h : lessE y ⟨key, at_, 0, []⟩ with
    | true =>
      have hno : (eqB y.key key && decide (y.seq ≤ at_)) = false := by
        rcases lessE_iff.1 h with q | ⟨_, q⟩
        · cases e : eqB y.key key with
          | false => rfl
          | true =>
            have e' : y.key = key := by simpa [eqB] using e
            simp only [e', cmpB_refl] at q
            omega
        · have : ¬ y.seq ≤ at_ := by simp only at q; omega
          simp [this]
      rw [hno]
      exact keyed_find hl
    | false =>
      show (if cmpB y.key key = 0 then some y else none) = _
      by_cases hk : cmpB y.key key = 0
      · have e' := cmpB_zero _ _ hk
        have hq : y.seq ≤ at_ := by
          apply Nat.le_of_not_lt
          intro q
          have : lessE y ⟨key, at_, 0, []⟩ = true := lessE_iff.2 (.inr ⟨e', q⟩)
          rw [h] at this
          cases this
        have hyes : (eqB y.key key && decide (y.seq ≤ at_)) = true := by simp [eqB, e', hq]
        rw [if_pos hk, hyes]
      · have hne : ∀ z : En, (z = y ∨ z ∈ l) → eqB z.key key = false := fun z hz => by
          cases e : eqB z.key key with
          | false => rfl
          | true =>
            have e' : z.key = key := by simpa [eqB] using e
            rcases hz with rfl | m
            · rw [e', cmpB_refl] at hk
              exact absurd rfl hk
            · rcases lessE_iff.1 (hy z m) with q | ⟨q, _⟩
              · rw [e'] at q
                have : lessE y ⟨key, at_, 0, []⟩ = true := lessE_iff.2 (.inl q)
                rw [h] at this
                cases this
              · rw [q, e', cmpB_refl] at hk
                exact absurd rfl hk
        rw [if_neg hk, hne y (.inl rfl)]
        symm
        simp only [Bool.false_and]
        rw [List.find?_eq_none]
        intro z hz
        rw [hne z (.inr hz)]
        simp
end Go.Proofs.YtlnpicfkcahdbaaGreat
namespace Go.Proofs.YtlnpicfkcahdbaaGreat
open Go Go.RowKit

section
variable {w : World} {a : En} {v0 v1 v2 v3 : Value}
end
end Go.Proofs.YtlnpicfkcahdbaaGreat
namespace Go.Proofs.YtlnpicfkcahdbaaGreat
open Go Go.RowKit

theorem totE_le {M : Nat} : ∀ {es : List En}, (∀ x ∈ es, wE x ≤ M) → totE es ≤ es.length * (M + 1)
  | [], _ => by simp [totE]
  | x :: t, h => by
    have h1 := h x (by simp)
    have h2 := totE_le (es := t) (fun y hy => h y (by simp [hy]))
    rw [List.length_cons, Nat.add_mul]
    unfold totE
    omega
/-- What Sorted leaves of entries. -/
theorem srt_all {es : List En} {k : Nat} (hl : es.length ≤ k) (hs : ∀ x ∈ es, wE x ≤ 1048576) : SortL (srt [] es) ∧ (srt [] es).length ≤ k ∧ (∀ x ∈ srt [] es, wE x ≤ 1048576) ∧ totE (srt [] es) ≤ k * 1048577 := by
  have h1 := (srt_prop (xs := es) (o := []) List.Pairwise.nil (fun x hx => by cases hx)).1
  have h2 := (srt_len es []).1
  have h3 : ∀ x ∈ srt [] es, wE x ≤ 1048576 := fun x hx => by
    rcases srt_mem x hx with h | h
    · cases h
    · exact hs x h
  have h4 := totE_le h3
  have h5 : (srt [] es).length ≤ k := by rw [List.length_nil] at h2; omega
  exact ⟨h1, h5, h3, Nat.le_trans h4 (Nat.mul_le_mul h5 (Nat.le_refl _))⟩
end Go.Proofs.YtlnpicfkcahdbaaGreat
namespace Go.Proofs.YtlnpicfkcahdbaaGreat
open Go Go.RowKit

def Tr.sz (t : Tr) : Nat := szL t.list
theorem balT_sz (l : Tr) (e : En) (r : Tr) : (balT l e r).sz = l.sz + wE e + r.sz := by
  unfold Tr.sz
  rw [balT_list, szL_app, szL]
  omega
theorem node_sz (l : Tr) (e : En) (r : Tr) : (Tr.node l e r).sz = l.sz + wE e + r.sz := by
  unfold Tr.sz
  rw [Tr.list, szL_app, szL]
  omega
theorem withT_sz {x : En} : ∀ {t t' : Tr}, withT x t = some t' → t'.sz = t.sz + wE x
  | .nil, t', h => by
    unfold withT at h
    injection h with h
    rw [← h]
    simp [Tr.sz, Tr.list, szL]
  | .node l e r, t', h => by
    unfold withT at h
    split at h
    · cases hw : withT x l with
      | none => rw [hw] at h; cases h
      | some l' =>
        rw [hw] at h
        injection h with h
        have := withT_sz hw
        rw [← h]
        simp only [balT_sz, node_sz]
        omega
    · split at h
      · cases hw : withT x r with
        | none => rw [hw] at h; cases h
        | some r' =>
          rw [hw] at h
          injection h with h
          have := withT_sz hw
          rw [← h]
          simp only [balT_sz, node_sz]
          omega
      · cases h
def insAll : Tr → List En → Option Tr
  | t, [] => some t
  | t, x :: xs => (withT x t).bind (fun t' => insAll t' xs)
theorem insAll_snoc : ∀ (t : Tr) (xs : List En) (x : En), insAll t (xs ++ [x]) = (insAll t xs).bind (withT x)
  | t, [], x => by simp [insAll]
  | t, y :: ys, x => by
    simp only [List.cons_append, insAll]
    cases withT y t with
    | none => rfl
    | some t' => exact insAll_snoc t' ys x
theorem insAll_none {t : Tr} {xs ys : List En} (h : insAll t xs = none) : insAll t (xs ++ ys) = none := by
  induction xs generalizing t with
  | nil => simp [insAll] at h
  | cons x xs ih =>
    simp only [List.cons_append, insAll] at h ⊢
    cases hw : withT x t with
    | none => rfl
    | some t' => rw [hw] at h; exact ih h
theorem insAll_num : ∀ {t t' : Tr} {xs : List En}, insAll t xs = some t' → t'.num = t.num + xs.length ∧ t'.sz = t.sz + szL xs
  | t, t', [], h => by simp [insAll] at h; subst h; simp [szL]
  | t, t', x :: xs, h => by
    simp only [insAll] at h
    cases hw : withT x t with
    | none => rw [hw] at h; cases h
    | some t1 =>
      rw [hw] at h
      have h1 := insAll_num (t := t1) h
      have h2 := withT_num hw
      have h3 := withT_sz hw
      simp only [List.length_cons, szL]
      omega
/-- 'This type is none of those that a tree is made of.' -/
def okT (ty : TypeId) : Prop := ty ≠ 172 ∧ ty ≠ 31 ∧ ty ≠ 5
/-- A table alone in its block. -/
def pl3 : TypeId × List Value := (98, [])
theorem okT_pl : okT pl3.1 := ⟨by decide, by decide, by decide⟩
/-- 'The table at p is the tree t; what stands behind it in its block is d.' -/
def TB (d : TypeId × List Value) (G : Nat → Prop) (w : World) (p : Nat) (t : Tr) : Prop :=
  ∃ A, Cl w p (#[.pointer A, .int .i64 (t.num : Int), .int .i64 (t.sz : Int)] ++ d.2.toArray) d.1 ∧ TrAt G w t A ∧ okT d.1
section
variable {w : World} {p : Nat} {a b c : Value} {d : Array Value} {ty : TypeId}
theorem Cl.ct (h : Cl w p (#[a, b, c] ++ d) ty) : w.cell? ⟨p, 0, none⟩ = some a ∧ w.cell? ⟨p, 1, none⟩ = some b ∧ w.cell? ⟨p, 2, none⟩ = some c ∧
    w.frozen? ⟨p, 0, none⟩ = false ∧ w.frozen? ⟨p, 1, none⟩ = false ∧ w.frozen? ⟨p, 2, none⟩ = false :=
  ⟨(h.cell 0).trans (Array.getElem?_append_left (by simp)), (h.cell 1).trans (Array.getElem?_append_left (by simp)), (h.cell 2).trans (Array.getElem?_append_left (by simp)), h.thaw 0, h.thaw 1, h.thaw 2⟩
theorem Cl.st0 (h : Cl w p (#[a, b, c] ++ d) ty) (v : Value) : Cl (w.setCell ⟨p, 0, none⟩ v) p (#[v, b, c] ++ d) ty := by
  have := h.set 0 v
  have e : (#[a, b, c] ++ d).setIfInBounds 0 v = #[v, b, c] ++ d := by
    apply Array.ext'
    simp
  rw [e] at this
  exact this
theorem Cl.st1 (h : Cl w p (#[a, b, c] ++ d) ty) (v : Value) : Cl (w.setCell ⟨p, 1, none⟩ v) p (#[a, v, c] ++ d) ty := by
  have := h.set 1 v
  have e : (#[a, b, c] ++ d).setIfInBounds 1 v = #[a, v, c] ++ d := by
    apply Array.ext'
    simp
  rw [e] at this
  exact this
theorem Cl.st2 (h : Cl w p (#[a, b, c] ++ d) ty) (v : Value) : Cl (w.setCell ⟨p, 2, none⟩ v) p (#[a, b, v] ++ d) ty := by
  have := h.set 2 v
  have e : (#[a, b, c] ++ d).setIfInBounds 2 v = #[a, b, v] ++ d := by
    apply Array.ext'
    simp
  rw [e] at this
  exact this
end
theorem TB.below {d : TypeId × List Value} {G : Nat → Prop} {w w' : World} {p : Nat} {t : Tr} (h : TB d G w p t) (hb : Below w.heap.size w w') : TB d G w' p t := by
  obtain ⟨A, h1, h2, h3⟩ := h
  exact ⟨A, h1.below hb, h2.below hb, h3⟩
theorem len_any {d : TypeId × List Value} {G : Nat → Prop} {w : World} {p : Nat} {t : Tr} (h : TB d G w p t) : Calls Tryz.prog 18 #[.pointer (some ⟨p, 0, none⟩)] w (RetNu w (t.num : Int)) := by
  obtain ⟨A, h1, _⟩ := h
  obtain ⟨c0, c1, c2, _⟩ := h1.ct
  go_enter Tryz.func18, Tryz.ntmps18
  go_wp2
  go_ret
  exact ⟨rfl, Below.refl _ _⟩
theorem size_any {d : TypeId × List Value} {G : Nat → Prop} {w : World} {p : Nat} {t : Tr} (h : TB d G w p t) : Calls Tryz.prog 14 #[.pointer (some ⟨p, 0, none⟩)] w (RetNu w (t.sz : Int)) := by
  obtain ⟨A, h1, _⟩ := h
  obtain ⟨c0, c1, c2, _⟩ := h1.ct
  go_enter Tryz.func14, Tryz.ntmps14
  go_wp2
  go_ret
  exact ⟨rfl, Below.refl _ _⟩
theorem memNew_any (G : Nat → Prop) (w : World) : Calls Tryz.prog 5 #[] w fun e w' => e = .returned (.pointer (some ⟨w.heap.size, 0, none⟩)) ∧ TB pl3 G w' w.heap.size .nil ∧ Below w.heap.size w w' := by
  go_enter Tryz.func5, Tryz.ntmps5
  go_wp2
  go_ret
  exact ⟨rfl, ⟨none, Cl.new _ _ _, rfl, okT_pl⟩, (Below.refl _ _).alloc (Nat.le_refl _) _⟩
/-- What a Put comes to: the table, and all else as it was. -/
def putZ (t : Tr) (es : List En) : Int × Tr := if checkE es = 0 then match insAll t es with | none => (7, t) | some t' => (0, t') else (checkE es, t)
def RetPt (d : TypeId × List Value) (G : Nat → Prop) (w : World) (p : Nat) (z : Int × Tr) (e : Ending) (w' : World) : Prop := e = .returned (.int .i64 z.1) ∧ TB d G w' p z.2 ∧ w.grownBy w' (some p)
theorem grow_of_below {w w' : World} {row : Option Nat} (h : Below w.heap.size w w') : w.grownBy w' row := ⟨h.os, h.tape, h.output, h.size, fun k hk _ => h.block k hk⟩
theorem TrAt.set {G : Nat → Prop} {w : World} {p : Nat} {vs : Array Value} {ty : TypeId} (hp : Cl w p vs ty) (hty : okT ty) (i : Nat) (v : Value) : ∀ {t : Tr} {A : Option Addr}, TrAt G w t A → TrAt G (w.setCell ⟨p, i, none⟩ v) t A
  | .nil, _, h => h
  | .node _ _ _, _, ⟨k, pe, pl, pr, h1, h2, ⟨v0, v1, v2, v3, h3, h4, h4'⟩, h5, h6⟩ => by
    have n4 : ∀ {q : Nat} {us : Array Value} {t : TypeId}, Cl w q us t → ty ≠ t → p ≠ q := fun {q us t} h hne e => by
      subst e
      unfold Cl at h hp
      rw [hp] at h
      injection h with h
      injection h with _ h
      exact hne h
    have no : ∀ {n c' : Nat} {S : Option Addr} {xs : List UInt8}, Own 5 w 0 S n c' xs → Own 5 (w.setCell ⟨p, i, none⟩ v) 0 S n c' xs := fun {n c' S xs} h => by
      refine ⟨h.1, ?_⟩
      rcases h.2 with q1 | ⟨g, cap, cur, q1, q2, q3, q4⟩
      · exact .inl q1
      · refine .inr ⟨g, cap, cur, q1, q2, ?_, q4⟩
        rw [heap_setCell_other _ _ _ _ ?_]
        · exact q3
        · intro e
          simp only at e
          subst e
          unfold Cl at hp
          rw [hp] at q3
          injection q3 with q3
          injection q3 with _ q3
          exact hty.2.2 q3
    obtain ⟨K, kn, kc, V, vn, vc, r0, r1, r2, r3, o1, o2, u1, u2⟩ := h4
    exact ⟨k, pe, pl, pr, h1, h2.off i v (n4 h2 hty.1), ⟨v0, v1, v2, v3, h3.off i v (n4 h3 hty.2.1), ⟨K, kn, kc, V, vn, vc, r0, r1, r2, r3, no o1, no o2, u1, u2⟩, h4'⟩, TrAt.set hp hty i v h5, TrAt.set hp hty i v h6⟩
end Go.Proofs.YtlnpicfkcahdbaaGreat
namespace Go.Proofs.YtlnpicfkcahdbaaGreat
open Go Go.RowKit

theorem rdl_one8 {w : World} {t : TypeId} {v1 : Value} {x1 : List UInt8} (h1 : ElB w v1 x1) (g : Nat) (hg : g = w.heap.size) : RdL (w.alloc (.cells #[v1] t)) (some ⟨g, 0, none⟩) 1 [x1] := by
  subst hg
  refine ⟨rfl, fun _ => ⟨w.heap.size, 0, rfl, by simp, fun i x hi => ?_⟩⟩
  have hlt := (List.getElem?_eq_some_iff.1 hi).1
  obtain rfl : i = 0 := by simp at hlt; omega
  injection hi with hi
  subst hi
  refine ⟨v1, ?_, h1.below ((Below.refl _ _).alloc (Nat.le_refl _) _)⟩
  rw [cell_of_row (w.alloc (.cells #[v1] t)) w.heap.size (0 + 0) #[v1] t (0, 0) (heap_alloc_new w _)]
  rfl
/-- What Build answers where every is at least 1. -/
def buildE (ev : Nat) (es : List En) : List UInt8 × Int :=
  if es.any longE then ([], 2) else if 1048576 < (fullB ev es).length then ([], 2) else if es.all formE && ordE es then (sealB (fullB ev es), 0) else ([], 3)
/-- Bytes of the call's own, or none, and a kind. -/
def RetBb (w : World) (z : List UInt8 × Int) (e : Ending) (w' : World) : Prop :=
  ∃ A c, e = .returned (.tuple #[.slice A z.1.length c, .int .i64 z.2]) ∧ Own 5 w' w.heap.size A z.1.length c z.1 ∧ Below w.heap.size w w'
theorem RetBb.no {w w' : World} {z : List UInt8 × Int} {k : Int} (hz : z = ([], k)) (hb : Below w.heap.size w w') : RetBb w z (.returned (.tuple #[.slice none 0 0, .int .i64 k])) w' := by
  subst hz
  exact ⟨none, 0, rfl, Own.nil _ _ _, hb⟩
theorem longE_no {es : List En} (h : es.any longE = false) : ∀ x ∈ es, x.key.length ≤ 1024 ∧ x.val.length ≤ 65536 := fun x hx => by
  have := List.any_eq_false.1 h x hx
  unfold longE at this
  simp at this
  omega
set_option maxRecDepth 100000 in
set_option maxHeartbeats 8000000 in
theorem build8_any {w : World} {A : Option Addr} {n c : Nat} {es : List En} (h : REs w A n es) (hn : n ≤ 16777216) (ev : Nat) (he : 1 ≤ ev) (he2 : ev ≤ 9223372036854775807) :
    Calls Tryz.prog 120 #[.int .i64 (ev : Int), .slice A n c] w (RetBb w (buildE ev es)) := by
  have HM : Hid (Calls Tryz.prog 42 #[.slice A n c] w (RetNu w (checkE es))) := Lib.hid (memCheck_any h (by omega))
  have HR := Lib.hid h
  clear h
  cases hlo : es.any longE with
  | true =>
    have hc : checkE es = 2 := by rw [checkE, hlo]; rfl
    have hb : buildE ev es = ([], 2) := by rw [buildE, hlo]; rfl
    rw [hc] at HM
    have HB := Lib.hid hb
    clear hlo hc hb
    go_enter Tryz.func120, Tryz.ntmps120
    go_wp2_with fail
    with_reducible refine HM.out.mono ?_
    rintro e w1 ⟨rfl, b1⟩
    go_wp2_with fail
    exact bodyPost_ret (v := .tuple #[.slice none 0 0, .int .i64 2]) (by simp [results, Tryz.f120, go_sem]; try rfl) rfl (RetBb.no HB.out b1)
  | false =>
    have hsz := longE_no hlo
    have HCT : Hid (∀ wx, Below w.heap.size w wx → Calls Tryz.prog 163 #[.int .i64 (ev : Int), .slice A n c] wx (RetCt ev es wx)) := Lib.hid (fun wx hb => contents_any (HR.out.below hb) hn hsz ev he he2)
    have HIO : Hid (∀ wx, Below w.heap.size w wx → Calls Tryz.prog 164 #[.slice A n c] wx (RetT wx (ordE es))) := Lib.hid (fun wx hb => inOrder8_any (HR.out.below hb) (by omega))
    obtain ⟨F, hF⟩ : ∃ F, F = fullB ev es := ⟨_, rfl⟩
    have hbe : buildE ev es = if 1048576 < F.length then ([], 2) else if es.all formE && ordE es then (sealB F, 0) else ([], 3) := by rw [buildE, hlo, ← hF]; rfl
    obtain ⟨fo, hfo⟩ : ∃ fo, fo = es.all formE := ⟨_, rfl⟩
    obtain ⟨od, hod⟩ : ∃ od, od = ordE es := ⟨_, rfl⟩
    obtain ⟨z, hz⟩ : ∃ z : Int, z = if fo then 0 else 3 := ⟨_, rfl⟩
    have hck : checkE es = z := by rw [checkE, hlo, hz, hfo]; rfl
    rw [hck] at HM
    rw [← hod] at HIO hbe
    rw [← hfo] at hbe
    have hz2 : z = 0 ∨ z = 3 := by rw [hz]; cases fo <;> simp
    have tz : (z == 2) = false := by rcases hz2 with e | e <;> rw [e] <;> rfl
    have tz' : ¬ z = 2 := by omega
    have HBE := Lib.hid hbe
    have HF := Lib.hid hF
    have HZ := Lib.hid hz
    have HZ2 := Lib.hid hz2
    clear hlo hsz hF hbe hfo hod hz hck hz2
    go_enter Tryz.func120, Tryz.ntmps120
    go_wp2_with fail
    with_reducible refine HM.out.mono ?_
    rintro e w1 ⟨rfl, b1⟩
    have HCT1 := Lib.hid (HCT.out w1 b1)
    have B1 := Lib.hid b1
    clear b1
    go_wp2_with fail
    with_reducible refine HCT1.out.mono ?_
    rintro e w2 ⟨C, cc, ys, rfl, oC, b2, hyl, hys⟩
    rw [← HF.out] at hys
    have hcap := oC.cap
    have hcn : C = none → cc = 0 := fun h => by have := oC.nil_of (by rw [h]; rfl); exact this.2.2
    have hSE := Seal_any (some ⟨w2.heap.size, 0, none⟩) 1 1 [ys] _ (rdl_one8 (w := w2) (t := 28) ⟨C, ys.length, cc, rfl, oC.rd, hcap.1, hcn⟩ _ rfl) (by simp only [tot]; omega)
    rw [show [ys].flatten = ys by simp] at hSE
    have HSE := Lib.hid hSE
    have B2 := Lib.hid (B1.out.trans (b2.mono B1.out.size))
    have HYS := Lib.hid hys
    obtain ⟨yn, hyn⟩ : ∃ yn, yn = ys.length := ⟨_, rfl⟩
    rw [← hyn]
    rw [← hyn] at hyl HSE
    have HYN := Lib.hid hyn
    clear hSE oC b2 hcap hcn hys hyn
    by_cases hbig : 1048576 < yn
    · have hg : sealG ys = ([], 2) := sealG_long HYN.out.symm hbig
      have hb : buildE ev es = ([], 2) := by
        rw [HBE.out, if_pos]
        rcases HYS.out with ⟨_, h2⟩ | h2
        · have := HYN.out; omega
        · rw [← h2, ← HYN.out]; exact hbig
      rw [hg] at HSE
      have HB := Lib.hid hb
      clear hg hb
      go_wp2_with fail
      refine HSE.out.mono ?_
      rintro e w3 ⟨D, dn, dc, rfl, oD, b3⟩
      have B3 := Lib.hid (B2.out.trans (((Below.refl _ _).alloc (Nat.le_refl _) _ |>.trans (b3.mono (by simp))).mono B2.out.size))
      clear oD b3
      go_wp2_with fail
      exact bodyPost_ret (v := .tuple #[.slice none 0 0, .int .i64 2]) (by simp [results, Tryz.f120, go_sem]; try rfl) rfl (RetBb.no HB.out B3.out)
    · have hF2 : ys = F := by
        rcases HYS.out with ⟨h1, _⟩ | h2
        · have := HYN.out; omega
        · exact h2
      have hg : sealG ys = (sealB F, 0) := by rw [sealG_ok HYN.out.symm hbig, hF2]
      have hb : buildE ev es = if fo && od then (sealB F, 0) else ([], 3) := by rw [HBE.out, if_neg (by rw [← hF2, ← HYN.out]; exact hbig)]
      rw [hg] at HSE
      have HB := Lib.hid hb
      clear hg hb
      go_wp2_with fail
      refine HSE.out.mono ?_
      rintro e w3 ⟨D, dn, dc, rfl, oD, b3⟩
      have oD : Own 5 w3 w2.heap.size D dn dc (sealB F) := Own.mono oD (show w2.heap.size ≤ _ by simp)
      obtain rfl : (sealB F).length = dn := oD.len
      have HD := Lib.hid (oD.mono B2.out.size)
      have B3 := Lib.hid (B2.out.trans (((Below.refl _ _).alloc (Nat.le_refl _) _ |>.trans (b3.mono (by simp))).mono B2.out.size))
      clear oD b3
      cases fo with
      | false =>
        have e0 : z = 3 := HZ.out
        subst e0
        rw [Bool.false_and] at HB
        go_wp2_with fail
        exact bodyPost_ret (v := .tuple #[.slice none 0 0, .int .i64 3]) (by simp [results, Tryz.f120, go_sem]; try rfl) rfl (RetBb.no HB.out B3.out)
      | true =>
        have e0 : z = 0 := HZ.out
        subst e0
        rw [Bool.true_and] at HB
        have HIO3 := Lib.hid (HIO.out w3 B3.out)
        cases od with
        | true =>
          go_wp2_with fail
          with_reducible refine HIO3.out.mono ?_
          rintro e w4 ⟨rfl, b4⟩
          have hB := HB.out
          simp only [if_true] at hB
          have hfin : RetBb w (buildE ev es) (.returned (.tuple #[.slice D (sealB F).length dc, .int .i64 0])) w4 := by
            rw [hB]
            exact ⟨D, dc, rfl, HD.out.below b4, B3.out.trans (b4.mono B3.out.size)⟩
          have HFI := Lib.hid hfin
          clear hB hfin b4
          go_wp2_with fail
          exact bodyPost_ret (v := .tuple #[.slice D (sealB F).length dc, .int .i64 0]) (by simp [results, Tryz.f120, go_sem]; try rfl) rfl HFI.out
        | false =>
          go_wp2_with fail
          with_reducible refine HIO3.out.mono ?_
          rintro e w4 ⟨rfl, b4⟩
          have B4 := Lib.hid (B3.out.trans (b4.mono B3.out.size))
          have hB := HB.out
          simp only [Bool.false_eq_true, if_false] at hB
          have HBB := Lib.hid hB
          clear hB b4
          go_wp2_with fail
          exact bodyPost_ret (v := .tuple #[.slice none 0 0, .int .i64 3]) (by simp [results, Tryz.f120, go_sem]; try rfl) rfl (RetBb.no HBB.out B4.out)
theorem buildE_cases (ev : Nat) (es : List En) : (∃ F, buildE ev es = (sealB F, 0) ∧ F.length ≤ 1048576) ∨ (∃ k : Int, buildE ev es = ([], k) ∧ (k = 2 ∨ k = 3)) := by
  unfold buildE
  split
  · exact .inr ⟨2, rfl, .inl rfl⟩
  · split
    · exact .inr ⟨2, rfl, .inl rfl⟩
    · split
      · exact .inl ⟨_, rfl, by omega⟩
      · exact .inr ⟨3, rfl, .inr rfl⟩
end Go.Proofs.YtlnpicfkcahdbaaGreat
namespace Go.Proofs.YtlnpicfkcahdbaaGreat
open Go Go.RowKit

def lastK (es : List En) : List UInt8 := (es.getLast?.map (·.key)).getD []
/-- The entries from place a on, and the every. -/
def parR (xs : List UInt8) (sec : Int) : Nat → Nat → List En → Nat → Option (List En × Nat)
  | 0, _, _, _ => none
  | f + 1, a, es, ev => if xs.length ≤ a then some (es, ev) else
      if badR xs (lastK es) a then none
      else parR xs sec f (e7R xs a).2.1 (es ++ [entR xs (lastK es) a]) (if (a : Int) = sec then es.length else ev)
/-- What stands in a block: its entries and the every. -/
def parB (xs : List UInt8) : Option (List En × Nat) :=
  match splitB xs with
  | none => none
  | some (ys, zs) =>
    let sec : Int := if 8 ≤ zs.length then (numK (zs.drop 4) 4 : Int) else -1
    match parR ys sec (ys.length + 1) 0 [] 0 with
    | none => none
    | some (es, ev) => some (es, if sec < 0 then max es.length 1 else ev)
theorem numR_mono {xs : List UInt8} {s : Nat × Bool} (h : s.1 ≤ xs.length) : s.1 ≤ (numR xs s).2.1 ∧ ((numR xs s).2.2 = false → s.1 < (numR xs s).2.1) := by
  unfold numR
  split
  · rename_i e
    rcases hg : getU xs (s.1 : Int) with ⟨m, nx, e2⟩
    rw [hg] at e
    obtain ⟨k, rfl, h1, h2, h3⟩ := getU_err h hg e
    simp only [Int.toNat_natCast]
    exact ⟨by omega, fun _ => h1⟩
  · exact ⟨Nat.le_refl _, fun h => by cases h⟩
theorem takeR_mono {xs : List UInt8} {n : Nat} {s : Nat × Bool} : s.1 ≤ (takeR xs n s).2.1 := by
  unfold takeR
  split
  · exact Nat.le_refl _
  · simp only; omega
theorem badR_no {xs ah : List UInt8} {a : Nat} (h : badR xs ah a = false) : (e7R xs a).2.2 = false ∧ (e1R xs a).1 ≤ ah.length ∧ (e1R xs a).1 + (e6R xs a).1.length ≤ 1024 := by
  unfold badR at h
  simp only [Bool.or_eq_false_iff, decide_eq_false_iff_not] at h
  obtain ⟨⟨h1, h2⟩, h3⟩ := h
  exact ⟨h1, by omega, by omega⟩
theorem bad_chain {xs : List UInt8} {a : Nat} (h : (e7R xs a).2.2 = false) : (e6R xs a).2.2 = false ∧ (e5R xs a).2.2 = false ∧ (e4R xs a).2.2 = false ∧ (e3R xs a).2.2 = false ∧ (e2R xs a).2.2 = false ∧ (e1R xs a).2.2 = false := by
  unfold e7R at h
  have h6 := (takeR_bad h).1
  have h6' := h6
  unfold e6R at h6'
  have h5 := (takeR_bad h6').1
  have h5' := h5
  unfold e5R at h5'
  have h4 := numR_bad h5'
  have h4' := h4
  unfold e4R at h4'
  have h3 := (takeR_bad h4').1
  have h3' := h3
  unfold e3R at h3'
  have h2 := numR_bad h3'
  have h2' := h2
  unfold e2R at h2'
  exact ⟨h6, h5, h4, h3, h2, numR_bad h2'⟩
theorem e_le {xs : List UInt8} {a : Nat} (ha : a ≤ xs.length) : (e1R xs a).2.1 ≤ xs.length ∧ (e2R xs a).2.1 ≤ xs.length ∧ (e3R xs a).2.1 ≤ xs.length ∧ (e4R xs a).2.1 ≤ xs.length ∧ (e5R xs a).2.1 ≤ xs.length ∧ (e6R xs a).2.1 ≤ xs.length ∧ (e7R xs a).2.1 ≤ xs.length := by
  have q1 : (e1R xs a).2.1 ≤ xs.length := by unfold e1R; exact (numR_le ha).1
  have q2 : (e2R xs a).2.1 ≤ xs.length := by unfold e2R; exact (numR_le q1).1
  have q3 : (e3R xs a).2.1 ≤ xs.length := by unfold e3R; exact (numR_le q2).1
  have q4 : (e4R xs a).2.1 ≤ xs.length := by unfold e4R; exact (takeR_le q3).1
  have q5 : (e5R xs a).2.1 ≤ xs.length := by unfold e5R; exact (numR_le q4).1
  have q6 : (e6R xs a).2.1 ≤ xs.length := by unfold e6R; exact (takeR_le q5).1
  have q7 : (e7R xs a).2.1 ≤ xs.length := by unfold e7R; exact (takeR_le q6).1
  exact ⟨q1, q2, q3, q4, q5, q6, q7⟩
theorem e7_more {xs : List UInt8} {a : Nat} (ha : a ≤ xs.length) (h : (e7R xs a).2.2 = false) : a < (e7R xs a).2.1 := by
  obtain ⟨b6, b5, b4, b3, b2, b1⟩ := bad_chain h
  obtain ⟨l1, l2, l3, l4, l5, l6, l7⟩ := e_le ha
  have m1 : a < (e1R xs a).2.1 := by unfold e1R at b1 ⊢; exact (numR_mono ha).2 b1
  have m2 : (e1R xs a).2.1 ≤ (e2R xs a).2.1 := by unfold e2R; exact (numR_mono l1).1
  have m3 : (e2R xs a).2.1 ≤ (e3R xs a).2.1 := by unfold e3R; exact (numR_mono l2).1
  have m4 : (e3R xs a).2.1 ≤ (e4R xs a).2.1 := by unfold e4R; exact takeR_mono
  have m5 : (e4R xs a).2.1 ≤ (e5R xs a).2.1 := by unfold e5R; exact (numR_mono l4).1
  have m6 : (e5R xs a).2.1 ≤ (e6R xs a).2.1 := by unfold e6R; exact takeR_mono
  have m7 : (e6R xs a).2.1 ≤ (e7R xs a).2.1 := by unfold e7R; exact takeR_mono
  omega
theorem entR_key {xs ah : List UInt8} {a : Nat} (h : badR xs ah a = false) : (entR xs ah a).key.length ≤ 1024 := by
  obtain ⟨_, h2, h3⟩ := badR_no h
  unfold entR
  simp only [List.length_append, List.length_take]
  omega
theorem lastK_snoc (es : List En) (x : En) : lastK (es ++ [x]) = x.key := by
  unfold lastK
  simp
theorem fam_join {w : World} {base B : Nat} {ps qs : List VB} (h : Fam w base ps) (hlt : ∀ p ∈ ps, ∀ b, Value.ownBlock p.1 = some b → b < B) (hn : Fam w B qs) (hB : base ≤ B) : Fam w base (ps ++ qs) := by
  refine ⟨fun p hp => ?_, List.pairwise_append.2 ⟨h.2, hn.2, fun p hp q hq k e1 e2 => ?_⟩⟩
  · rcases List.mem_append.1 hp with hp | hp
    · exact h.1 p hp
    · obtain ⟨A, m, c, e, ho⟩ := hn.1 p hp
      exact ⟨A, m, c, e, ho.mono hB⟩
  · have k1 := hlt p hp k e1
    have k2 := (hn.lt hq e2).1
    omega
/-- 'A row of entries of the call's own, off the reader; all of it lies below B.' -/
def PR (base B p : Nat) (L : Option Addr) (i d : Nat) (es : List En) (w : World) (vs : List Value) : Prop :=
  OwnE w base L i d vs ∧ EOs base w es vs ∧ OffW vs (blk L) ∧ es.length = i ∧ Fam w base (pairE es vs) ∧ OffW vs (some p) ∧ blk L ≠ some p ∧
    (∀ A m c g, Value.slice A m c ∈ vs → blk A = some g → g < B) ∧ (∀ g, blk L = some g → g < B)
section
variable {base B p i d : Nat} {L : Option Addr} {es : List En} {w w' : World} {vs : List Value}
theorem PR.kept (h : PR base B p L i d es w vs) (hg : w.grownBy w' (some p)) : PR base B p L i d es w' vs := by
  obtain ⟨q1, q2, q3, q4, q5, q6, q7, q8, q9⟩ := h
  refine ⟨?_, EOs.kept hg q2 q6, q3, q4, q5.kept hg (fun b hb r hr e => ?_), q6, q7, q8, q9⟩
  · refine ⟨q1.1, ?_⟩
    rcases q1.2 with h1 | ⟨g, cap, cur, h1, h2, h3, h4⟩
    · exact .inl h1
    · refine .inr ⟨g, cap, cur, h1, h2, ?_, h4⟩
      have hne : some g ≠ some p := fun e => q7 (by injection h1 with h1; rw [h1]; exact e)
      obtain ⟨_, _, _, _, k5⟩ := hg
      have hlt : g < w.heap.size := (Array.getElem?_eq_some_iff.1 h3).1
      exact (k5 g hlt hne).trans h3
  · injection hb with hb
    subst hb
    obtain ⟨A, m, c, e1, _⟩ := q5.1 r hr
    rw [e1, own_blk] at e
    have := pairE_mem hr
    rw [e1] at this
    exact q6 p rfl A m c this e
theorem PR.below (h : PR base B p L i d es w vs) (hb : Below w.heap.size w w') : PR base B p L i d es w' vs := by
  obtain ⟨q1, q2, q3, q4, q5, q6, q7, q8, q9⟩ := h
  exact ⟨q1.below hb, q2.below hb, q3, q4, q5.below hb, q6, q7, q8, q9⟩
theorem PR.zero (base B p : Nat) (w : World) : PR base B p none 0 0 [] w [] := ⟨OwnE.nil _ _, rfl, OffW.nil _, rfl, Fam.nil _ _, OffW.nil _, (fun h => by cases h), (fun A m c g h => by cases h), (fun g h => by cases h)⟩
theorem PR.rd (h : PR base B p L i d es w vs) : REs w L i es := by
  obtain ⟨q1, q2, q3, q4, _⟩ := h
  exact REs.mk q2.evs q1.rd q4
theorem PR.row {W : World} (h : PR base B p L i d es w vs) (hb : Below base W w) (hs : base ≤ w.heap.size) : RowE W base L i d es w := by
  obtain ⟨q1, q2, q3, q4, q5, _⟩ := h
  exact ⟨vs, q1, q2, q3, q4, hb, hs, q5⟩
/-- One more. -/
theorem pr_add {w4 : World} {L' K V : Option Addr} {d' kn kc vn vc : Nat} {x : En} (h : PR base B p L i d es w vs) (oK : Own 5 w B K kn kc x.key) (oV : Own 5 w B V vn vc x.val) (dj : Dj K V) (hwf : U64 x.seq ∧ x.kind < 256) (hB : base ≤ B) (hp : p < B) (hBw : B ≤ w.heap.size)
    (h4 : OwnE w4 base L' (i + 1) d' (vs ++ [.slice K kn kc, .int .u64 (x.seq : Int), .int .u8 (x.kind : Int), .slice V vn vc])) (hg : w.grownBy w4 (blk L)) (hb : blk L' = blk L ∨ blk L' = some (w.heap.size + 1)) :
    PR base w4.heap.size p L' (i + 1) d' (es ++ [x]) w4 (vs ++ [.slice K kn kc, .int .u64 (x.seq : Int), .int .u8 (x.kind : Int), .slice V vn vc]) := by
  obtain ⟨q1, q2, q3, q4, q5, q6, q7, q8, q9⟩ := h
  have eo : EO base w x (.slice K kn kc) (.int .u64 (x.seq : Int)) (.int .u8 (x.kind : Int)) (.slice V vn vc) := ⟨K, kn, kc, V, vn, vc, rfl, rfl, rfl, rfl, oK.mono hB, oV.mono hB, hwf⟩
  have hge : ∀ A m c g, Value.slice A m c ∈ [Value.slice K kn kc, .int .u64 (x.seq : Int), .int .u8 (x.kind : Int), .slice V vn vc] → blk A = some g → B ≤ g ∧ g < w.heap.size := fun A m c g hv hgg => by
    simp only [List.mem_cons, List.not_mem_nil, or_false] at hv
    rcases hv with e | e | e | e
    · injection e with e1 e2 e3; subst e1; exact oK.lt g hgg
    · cases e
    · cases e
    · injection e with e1 e2 e3; subst e1; exact oV.lt g hgg
  have o1 : OffW [Value.slice K kn kc, .int .u64 (x.seq : Int), .int .u8 (x.kind : Int), .slice V vn vc] (blk L) := fun g hgg A m c hv e => by
    have h1 := hge A m c g hv e
    have h2 := q9 g hgg
    omega
  have hgs := hg.size
  have f1 : Fam w base (pairE es vs ++ [(.slice K kn kc, x.key), (.slice V vn vc, x.val)]) := fam_join q5 (fun r hr b e => by
    obtain ⟨A, m, c, e1, _⟩ := q5.1 r hr
    have := pairE_mem hr
    rw [e1] at this e
    rw [own_blk] at e
    exact q8 A m c b this e) (fam_two oK oV dj) hB
  refine ⟨h4, (EOs.kept hg q2 q3).app (EOs.one (eo.kept hg o1)), ?_, by simp [q4], ?_, ?_, ?_, ?_, ?_⟩
  · rcases hb with e | e
    · rw [e]; exact q3.app o1
    · rw [e]
      intro g hg2 C m c hv2 hv3
      injection hg2 with hg2
      rcases List.mem_append.1 hv2 with hq | hq
      · have := (EOs.lt q2 hq hv3).2
        omega
      · have := hge C m c g hq hv3
        omega
  · rw [pairE_app q2]
    refine f1.kept hg (fun b e r hr e2 => ?_)
    obtain ⟨A, m, c, e1, _⟩ := f1.1 r hr
    have hm : Value.slice A m c ∈ vs ++ [.slice K kn kc, .int .u64 (x.seq : Int), .int .u8 (x.kind : Int), .slice V vn vc] := by
      rw [← e1]
      rcases List.mem_append.1 hr with h | h
      · exact List.mem_append_left _ (pairE_mem h)
      · refine List.mem_append_right _ ?_
        simp only [List.mem_cons, List.not_mem_nil, or_false] at h
        rcases h with rfl | rfl
        · simp
        · simp
    rw [e1, own_blk] at e2
    exact (q3.app o1) b e A m c hm e2
  · exact q6.app (fun g hgg A m c hv e => by
      injection hgg with hgg
      have := hge A m c g hv e
      omega)
  · rcases hb with e | e
    · rw [e]; exact q7
    · rw [e]
      intro h
      injection h with h
      omega
  · intro A m c g hv e
    rcases List.mem_append.1 hv with hq | hq
    · have := (EOs.lt q2 hq e).2
      omega
    · have := hge A m c g hq e
      omega
  · intro g e
    exact (h4.lt g e).2
end
end Go.Proofs.YtlnpicfkcahdbaaGreat
namespace Go.Proofs.YtlnpicfkcahdbaaGreat
open Go Go.RowKit Go.Maps

theorem putR_sub2 {r : FR} : ∀ {rs : List FR}, rsUp rs → ∀ q, q ∈ putR r rs → q = r ∨ (q ∈ rs ∧ q.name ≠ r.name)
  | [], _, q, h => by simp [putR] at h; exact .inl h
  | a :: t, hu, q, h => by
    have hu0 := hu
    unfold rsUp at hu
    rw [List.pairwise_cons] at hu
    simp only [putR] at h
    split at h
    · next e =>
      rcases List.mem_cons.1 h with h | h
      · exact .inl h
      · exact .inr ⟨List.mem_cons_of_mem _ h, fun e2 => nlt_ne (hu.1 q h) (by rw [e, e2])⟩
    · next e =>
      split at h
      · next e3 =>
        rcases List.mem_cons.1 h with h | h
        · exact .inl h
        · refine .inr ⟨h, ?_⟩
          rcases List.mem_cons.1 h with h | h
          · rw [h]; exact e
          · exact fun e2 => nlt_ne (nlt_trans e3 (hu.1 q h)) e2.symm
      · rcases List.mem_cons.1 h with h | h
        · exact .inr ⟨by rw [h]; exact List.mem_cons_self .., by rw [h]; exact e⟩
        · rcases putR_sub2 hu.2 q h with h | ⟨h, h2⟩
          · exact .inl h
          · exact .inr ⟨List.mem_cons_of_mem _ h, h2⟩
theorem putR_len_old {r : FR} : ∀ {rs : List FR}, rsUp rs → (∃ q ∈ rs, q.name = r.name) → (putR r rs).length = rs.length
  | [], _, h => by obtain ⟨q, hq, _⟩ := h; cases hq
  | a :: t, hu, h => by
    unfold rsUp at hu
    rw [List.pairwise_cons] at hu
    simp only [putR]
    split
    · rfl
    · next e =>
      obtain ⟨q, hq, e2⟩ := h
      rcases List.mem_cons.1 hq with rfl | hq
      · exact absurd e2 e
      · rw [if_neg (fun e3 => nlt_ne (nlt_trans e3 (hu.1 q hq)) e2.symm), List.length_cons, putR_len_old hu.2 ⟨q, hq, e2⟩, List.length_cons]
theorem putR_any_old {r : FR} (x : List UInt8) : ∀ {rs : List FR}, rsUp rs → (∃ q ∈ rs, q.name = r.name) → (putR r rs).any (fun q => q.name == x) = rs.any (fun q => q.name == x)
  | [], _, h => by obtain ⟨q, hq, _⟩ := h; cases hq
  | a :: t, hu, h => by
    unfold rsUp at hu
    rw [List.pairwise_cons] at hu
    simp only [putR]
    split
    · next e => rw [List.any_cons, List.any_cons, e]
    · next e =>
      obtain ⟨q, hq, e2⟩ := h
      rcases List.mem_cons.1 hq with rfl | hq
      · exact absurd e2 e
      · rw [if_neg (fun e3 => nlt_ne (nlt_trans e3 (hu.1 q hq)) e2.symm), List.any_cons, putR_any_old x hu.2 ⟨q, hq, e2⟩, List.any_cons]
theorem MR.same {Dm : DU} {rs : List FR} {r r' : FR} (h : MR Dm rs) (hu : rsUp rs) (hr : r ∈ rs) (hn : r'.name = r.name) (hb : r'.fb = r.fb) : MR Dm (putR r' rs) := by
  refine ⟨?_, fun x => ?_, fun q hq z => ?_⟩
  · rw [putR_len_old hu ⟨r, hr, hn.symm⟩]; exact h.1
  · rw [putR_any_old x hu ⟨r, hr, hn.symm⟩]; exact h.2.1 x
  · rcases putR_sub2 hu q hq with rfl | ⟨hq, _⟩
    · rw [hn, hb]; exact h.2.2 r hr z
    · exact h.2.2 q hq z
theorem sp_of {rs : List FR} (hp : rs.Pairwise Sp) (hu : rsUp rs) {a b : FR} (ha : a ∈ rs) (hb : b ∈ rs) (e : a.name ≠ b.name) : Sp a b := by
  induction rs with
  | nil => cases ha
  | cons q t ih =>
    unfold rsUp at hu
    rw [List.pairwise_cons] at hp hu
    rcases List.mem_cons.1 ha with rfl | ha2
    · rcases List.mem_cons.1 hb with rfl | hb2
      · exact absurd rfl e
      · exact hp.1 b hb2
    · rcases List.mem_cons.1 hb with rfl | hb2
      · exact (hp.1 a ha2).symm
      · exact ih hp.2 hu.2 ha2 hb2

section
variable {w w' : World} {p : Nat} {m : Option Nat} {rs : List FR} {room used left : Int} {dead armed : Bool}
/-- A file turned. -/
theorem DskR.file (h : DskR w p m rs room used left dead armed) (hu : rsUp rs) {r r' : FR} (hr : r ∈ rs) (hn : r'.name = r.name) (hb : r'.fb = r.fb) (hf : Fr w w' r.bl) (hat : FileAt w' r') (hbl : ∀ b ∈ r'.bl, b ∈ r.bl ∨ w.heap.size ≤ b) (hne : blk r'.A ≠ some r'.fb) :
    DskR w' p m (putR r' rs) room used left dead armed := by
  have hlt := h.lt
  obtain ⟨h1, h2, h3, h4, h5, h6⟩ := h
  have hpl := (Array.getElem?_eq_some_iff.1 h1).1
  refine ⟨(hf.block p hpl (h4 r hr).1).trans h1, ?_, fun q hq => ?_, fun q hq => ?_, h5, ?_⟩
  · rcases h2 with ⟨rfl, rfl⟩ | ⟨b, Dm, rfl, ho, hm⟩
    · cases hr
    · refine .inr ⟨b, Dm, rfl, ?_, hm.same hu hr hn hb⟩
      rw [putR_len_old hu ⟨r, hr, hn.symm⟩]
      obtain ⟨es, clock, e1, e2⟩ := ho
      exact ⟨es, clock, (hf.block b (Array.getElem?_eq_some_iff.1 e1).1 ((h4 r hr).2.1 b rfl)).trans e1, e2⟩
  · rcases putR_sub2 hu q hq with rfl | ⟨hq, hqn⟩
    · exact hat
    · exact (h3 q hq).fr hf (fun b hb2 hb3 => sp_of h6 hu hq hr (by rw [← hn]; exact hqn) b hb2 hb3)
  · rcases putR_sub2 hu q hq with rfl | ⟨hq, hqn⟩
    · refine ⟨fun hm => ?_, fun b hb2 hm => ?_, hne⟩
      · rcases hbl _ hm with h7 | h7
        · exact (h4 r hr).1 h7
        · omega
      · rcases hbl _ hm with h7 | h7
        · exact (h4 r hr).2.1 b hb2 h7
        · have := h2.lt b hb2; omega
    · exact h4 q hq
  · refine putR_pair (fun a b => Sp.symm) h6 (fun q hq hqn x hx hxq => ?_) hu
    rcases hbl x hx with h7 | h7
    · exact sp_of h6 hu hr hq (fun e => hqn (by rw [hn, e])) x h7 hxq
    · have := hlt x (mem_file hq hxq); omega
theorem mem_putR {r' : FR} (hu : rsUp rs) {r : FR} (hr : r ∈ rs) (hbl : ∀ b ∈ r'.bl, b ∈ r.bl ∨ w.heap.size ≤ b) : ∀ b ∈ allB p m (putR r' rs), b ∈ allB p m rs ∨ w.heap.size ≤ b := fun b hb => by
  simp only [allB, List.mem_cons, List.mem_append, List.mem_flatMap] at hb
  rcases hb with rfl | hb | ⟨q, hq, hb⟩
  · exact .inl mem_head
  · exact .inl (by simp only [allB, List.mem_cons, List.mem_append]; exact .inr (.inl hb))
  · rcases putR_sub2 hu q hq with rfl | ⟨hq, _⟩
    · rcases hbl b hb with h | h
      · exact .inl (mem_file hr h)
      · exact .inr h
    · exact .inl (mem_file hq hb)

/-- What turn answers for OK, and what the head holds behind it. -/
def tE (armed : Bool) (left : Int) : Int := if armed = true ∧ left = 0 then 9 else 0
def tL (armed : Bool) (left : Int) : Int := if armed = true ∧ left ≠ 0 then left - 1 else left
def tD (dead armed : Bool) (left : Int) : Bool := if armed = true ∧ left = 0 then true else dead
def tA (armed : Bool) (left : Int) : Bool := if armed = true ∧ left = 0 then false else armed
theorem turn_zero (h : DskR w p m rs room used left dead armed) (hl : 0 ≤ left ∧ left ≤ 9223372036854775807) :
    Calls Tryz.prog 153 #[.pointer (some ⟨p, 0, none⟩), .int .i64 0] w (RetHd w p (headV m room used (tL armed left) (tD dead armed left) (tA armed left)) (.int .i64 (tE armed left))) := by
  cases armed with
  | false =>
    have e1 : tE false left = 0 := by simp [tE]
    have e2 : tL false left = left := by simp [tL]
    have e3 : tD dead false left = dead := by simp [tD]
    have e4 : tA false left = false := by simp [tA]
    rw [e1, e2, e3, e4]
    refine (turn_free h).mono ?_
    rintro e w' ⟨rfl, rfl⟩
    exact ⟨rfl, Hd.refl h.1⟩
  | true =>
    by_cases h0 : left = 0
    · subst h0
      have e1 : tE true 0 = 9 := by simp [tE]
      have e2 : tL true 0 = 0 := by simp [tL]
      have e3 : tD dead true 0 = true := by simp [tD]
      have e4 : tA true 0 = false := by simp [tA]
      rw [e1, e2, e3, e4]
      exact turn_kill h
    · have e1 : tE true left = 0 := by simp [tE, h0]
      have e2 : tL true left = left - 1 := by simp [tL, h0]
      have e3 : tD dead true left = dead := by simp [tD, h0]
      have e4 : tA true left = true := by simp [tA, h0]
      rw [e1, e2, e3, e4]
      exact turn_step h (by omega) hl.2
theorem Rd.toV {A : Option Addr} {n : Nat} {xs : List UInt8} (h : Rd w A n xs) : RdV w A n (xs.map cv) := by
  refine ⟨by rw [List.length_map]; exact h.1, fun hn => ?_⟩
  obtain ⟨b, off, h1, h2, h3⟩ := h.2 hn
  refine ⟨b, off, h1, h2, fun i v hv => ?_⟩
  rw [List.getElem?_map] at hv
  cases hx : xs[i]? with
  | none => rw [hx] at hv; cases hv
  | some x =>
    rw [hx] at hv
    injection hv with hv
    subst hv
    exact h3 i x hx
end
end Go.Proofs.YtlnpicfkcahdbaaGreat
namespace Go.Proofs.YtlnpicfkcahdbaaGreat
open Go Go.RowKit

/-- What a list that is picked out of another comes to. -/
def RetPick (w : World) (es : List En) (us : List Value) (e : Ending) (w' : World) : Prop :=
  ∃ L k d vs, e = .returned (.slice L k d) ∧ OwnE w' w.heap.size L k d vs ∧ EVs w' es vs ∧ es.length = k ∧ Below w.heap.size w w' ∧ ∀ u ∈ vs, u ∈ us
theorem RetPick.out {w : World} {es : List En} {us : List Value} {e : Ending} {w' : World} (h : RetPick w es us e w') : ∃ L k d vs, e = .returned (.slice L k d) ∧ OwnE w' w.heap.size L k d vs ∧ EVs w' es vs ∧ es.length = k ∧ Below w.heap.size w w' ∧ ∀ u ∈ vs, u ∈ us := h
theorem RetPick.res {w : World} {es : List En} {us : List Value} {e : Ending} {w' : World} (h : RetPick w es us e w') : ∃ L k d, e = .returned (.slice L k d) ∧ REs w' L k es ∧ k ≤ d ∧ Below w.heap.size w w' := by
  obtain ⟨L, k, d, vs, h1, h2, h3, h4, h5, _⟩ := h
  exact ⟨L, k, d, h1, REs.mk h3 h2.rd h4, h2.cap.1, h5⟩
/-- 'So far picked.' -/
def Pck (w : World) (us : List Value) (es : List En) (L : Option Addr) (k d : Nat) (wr : World) : Prop :=
  ∃ vs, OwnE wr w.heap.size L k d vs ∧ EVs w es vs ∧ es.length = k ∧ Below w.heap.size w wr ∧ ∀ u ∈ vs, u ∈ us
theorem Pck.zero (w : World) (us : List Value) : Pck w us [] none 0 0 w := ⟨[], OwnE.nil _ _, rfl, rfl, Below.refl _ _, fun u hu => by cases hu⟩
theorem Pck.below {w wr w' : World} {us : List Value} {es : List En} {L : Option Addr} {k d : Nat} (h : Pck w us es L k d wr) (hb : Below wr.heap.size wr w') : Pck w us es L k d w' := by
  obtain ⟨vs, h1, h2, h3, h4, h5⟩ := h
  exact ⟨vs, h1.below hb, h2, h3, belowT' h4 hb, h5⟩
theorem Pck.bel {w wr : World} {us : List Value} {es : List En} {L : Option Addr} {k d : Nat} (h : Pck w us es L k d wr) : Below w.heap.size w wr := by
  obtain ⟨vs, h1, h2, h3, h4, h5⟩ := h
  exact h4
theorem Pck.len {w wr : World} {us : List Value} {es : List En} {L : Option Addr} {k d : Nat} (h : Pck w us es L k d wr) : es.length = k := by
  obtain ⟨vs, h1, h2, h3, h4, h5⟩ := h
  exact h3
theorem Pck.ret {w wr : World} {us : List Value} {es : List En} {L : Option Addr} {k d : Nat} (h : Pck w us es L k d wr) : RetPick w es us (.returned (.slice L k d)) wr := by
  obtain ⟨vs, h1, h2, h3, h4, h5⟩ := h
  exact ⟨L, k, d, vs, rfl, h1, h2.below h4, h3, h4, h5⟩
theorem Pck.snoc {w w4 : World} {us vs : List Value} {es : List En} {L' : Option Addr} {k d' : Nat} {x : En} {v0 v1 v2 v3 : Value} (h2 : EVs w es vs) (h3 : es.length = k) (h5 : ∀ u ∈ vs, u ∈ us)
    (hx : EV w x v0 v1 v2 v3) (hm : ∀ u ∈ [v0, v1, v2, v3], u ∈ us) (o4 : OwnE w4 w.heap.size L' (k + 1) d' (vs ++ [v0, v1, v2, v3])) (b4 : Below w.heap.size w w4) : Pck w us (es ++ [x]) L' (k + 1) d' w4 :=
  ⟨vs ++ [v0, v1, v2, v3], o4, h2.app (EVs.one hx), by simp [h3], b4, fun u hu => by
    rcases List.mem_append.1 hu with h | h
    · exact h5 u h
    · exact hm u h⟩
theorem mem4 {w : World} {A : Option Addr} {n k b off : Nat} {es : List En} {ovs : List Value} (hv : EVs w es ovs) (hd : RdV w A (n * 4) ovs) (hl : es.length = n) (hA : A = some ⟨b, off, none⟩) (hk : k < n) :
    ∃ e v0 v1 v2 v3, es[k]? = some e ∧ w.cell? ⟨b, off + k * 4, none⟩ = some v0 ∧ w.cell? ⟨b, off + k * 4 + 1, none⟩ = some v1 ∧
      w.cell? ⟨b, off + k * 4 + 2, none⟩ = some v2 ∧ w.cell? ⟨b, off + k * 4 + 3, none⟩ = some v3 ∧ EV w e v0 v1 v2 v3 ∧ ∀ u ∈ [v0, v1, v2, v3], u ∈ ovs := by
  subst hA
  obtain ⟨b', off', e, hb, hc⟩ := hd.2 (by omega)
  injection e with e
  injection e with e1 e2
  subst e1 e2
  obtain ⟨x, hx⟩ : ∃ x, es[k]? = some x := ⟨_, List.getElem?_eq_getElem (by omega)⟩
  obtain ⟨v0, v1, v2, v3, e0, e1, e2, e3, g0⟩ := hv.at_ k hx
  refine ⟨x, v0, v1, v2, v3, hx, hc _ _ e0, ?_, ?_, ?_, g0, fun u hu => ?_⟩
  · rw [Nat.add_assoc]; exact hc _ _ e1
  · rw [Nat.add_assoc]; exact hc _ _ e2
  · rw [Nat.add_assoc]; exact hc _ _ e3
  · simp only [List.mem_cons, List.not_mem_nil, or_false] at hu
    rcases hu with rfl | rfl | rfl | rfl
    · exact List.mem_of_getElem? e0
    · exact List.mem_of_getElem? e1
    · exact List.mem_of_getElem? e2
    · exact List.mem_of_getElem? e3
end Go.Proofs.YtlnpicfkcahdbaaGreat
namespace Go.Proofs.YtlnpicfkcahdbaaGreat
open Go Go.RowKit

/-- What a table's Get hands back: nothing, or a copy. -/
def RetGt (w : World) (o : Option En) (e : Ending) (w' : World) : Prop :=
  (o = none ∧ e = .returned (.tuple #[.agg #[.slice none 0 0, .int .u64 0, .int .u8 0, .slice none 0 0], .bool false]) ∧ Below w.heap.size w w') ∨
  ∃ x K kn kc V vn vc, o = some x ∧ e = .returned (.tuple #[.agg #[.slice K kn kc, .int .u64 (x.seq : Int), .int .u8 (x.kind : Int), .slice V vn vc], .bool true]) ∧ Own 5 w' w.heap.size K kn kc x.key ∧ Own 5 w' w.heap.size V vn vc x.val ∧ Below w.heap.size w w' ∧ Dj K V
theorem Fam.tail {w : World} {base : Nat} {p : VB} {ps : List VB} (h : Fam w base (p :: ps)) : Fam w base ps := ⟨fun q hq => h.1 q (by simp [hq]), (List.pairwise_cons.1 h.2).2⟩
def zeE2 : En := ⟨[], 0, 0, []⟩
/-- What Get hands back, in one form. -/
theorem RetGt.both {w : World} {o : Option En} {e : Ending} {w' : World} (h : RetGt w o e w') (hw : ∀ x, o = some x → U64 x.seq ∧ x.kind < 256) : ∃ K kn kc V vn vc, e = .returned (.tuple #[.agg #[.slice K kn kc, .int .u64 ((o.getD zeE2).seq : Int), .int .u8 ((o.getD zeE2).kind : Int), .slice V vn vc], .bool o.isSome]) ∧
    EO w.heap.size w' (o.getD zeE2) (.slice K kn kc) (.int .u64 ((o.getD zeE2).seq : Int)) (.int .u8 ((o.getD zeE2).kind : Int)) (.slice V vn vc) ∧ Dj K V ∧ Below w.heap.size w w' := by
  rcases h with ⟨rfl, rfl, h⟩ | ⟨x, K, kn, kc, V, vn, vc, rfl, rfl, o1, o2, h, dj⟩
  · exact ⟨none, 0, 0, none, 0, 0, rfl, ⟨none, 0, 0, none, 0, 0, rfl, rfl, rfl, rfl, Own.nil _ _ _, Own.nil _ _ _, by unfold U64; simp [zeE2], by simp [zeE2]⟩, (fun b h => by cases h), h⟩
  · exact ⟨K, kn, kc, V, vn, vc, rfl, ⟨K, kn, kc, V, vn, vc, rfl, rfl, rfl, rfl, o1, o2, hw x rfl⟩, dj, h⟩
theorem RetGl.both {w : World} {o : Option En} {e : Ending} {w' : World} (h : RetGl w o e w') : ∃ v0 v1 v2 v3, e = .returned (.tuple #[.agg #[v0, v1, v2, v3], .bool o.isSome]) ∧ EV w' (o.getD zeE2) v0 v1 v2 v3 ∧ Below w.heap.size w w' := by
  rcases h with ⟨rfl, rfl, h⟩ | ⟨x, v0, v1, v2, v3, rfl, rfl, h1, h2⟩
  · exact ⟨_, _, _, _, rfl, ⟨rfl, rfl, by unfold U64; simp [zeE2], by simp [zeE2], ⟨none, 0, 0, rfl, Rd.nil _ _, Nat.le_refl _, fun _ => rfl⟩, ⟨none, 0, 0, rfl, Rd.nil _ _, Nat.le_refl _, fun _ => rfl⟩⟩, h⟩
  · exact ⟨_, _, _, _, rfl, h1, h2⟩
/-- 'A copy of these bytes.' -/
def Ow (w : World) (C : Option Addr) (cn cc : Nat) (xs : List UInt8) : Prop := ∃ b, Own 5 w b C cn cc xs
theorem Ow.mk {w : World} {b : Nat} {C : Option Addr} {cn cc : Nat} {xs : List UInt8} (h : Own 5 w b C cn cc xs) : Ow w C cn cc xs := ⟨b, h⟩
theorem Ow.below {w w' : World} {C : Option Addr} {cn cc : Nat} {xs : List UInt8} (h : Ow w C cn cc xs) (hb : Below w.heap.size w w') : Ow w' C cn cc xs := by
  obtain ⟨b, h⟩ := h
  exact ⟨b, h.below hb⟩
theorem EO.set2 {w : World} {base g : Nat} {e : En} {v0 v1 v2 v3 : Value} (h : EO base w e v0 v1 v2 v3) (hg : g < base) (i : Nat) (v : Value) : EO base (w.setCell ⟨g, i, none⟩ v) e v0 v1 v2 v3 := by
  obtain ⟨K, kn, kc, V, vn, vc, h1, h2, h3, h4, o1, o2, u⟩ := h
  exact ⟨K, kn, kc, V, vn, vc, h1, h2, h3, h4, o1.set hg i v, o2.set hg i v, u⟩
/-- The box of an answer, filled. -/
def Bx (W1 : World) (y : En) (z : Bool) (s16 s17 : Value) (wx : World) : Prop :=
  ∃ (g base : Nat) (C : Option Addr) (cn cc : Nat) (D : Option Addr) (dn dc : Nat), s16 = .pointer (some ⟨g, 0, none⟩) ∧ s17 = .bool z ∧ Below W1.heap.size W1 wx ∧ Cl wx g #[.slice C cn cc, .int .u64 (y.seq : Int), .int .u8 (y.kind : Int), .slice D dn dc] 31 ∧ EO base wx y (.slice C cn cc) (.int .u64 (y.seq : Int)) (.int .u8 (y.kind : Int)) (.slice D dn dc) ∧ Dj C D ∧ W1.heap.size ≤ base
theorem Bx.put {W1 w5 X : World} {y : En} {z : Bool} {g base cn cc dn dc : Nat} {C D : Option Addr} {q : Array Value} (hb : Below W1.heap.size W1 w5) (hz : Cl w5 g q 31) (hq : q.size = 4) (hg : W1.heap.size ≤ g) (hgb : g < base) (he : EO base w5 y (.slice C cn cc) (.int .u64 (y.seq : Int)) (.int .u8 (y.kind : Int)) (.slice D dn dc)) (dj : Dj C D)
    (hX : X = ((((w5.setCell ⟨g, 0, none⟩ (.slice C cn cc)).setCell ⟨g, 1, none⟩ (.int .u64 (y.seq : Int))).setCell ⟨g, 2, none⟩ (.int .u8 (y.kind : Int))).setCell ⟨g, 3, none⟩ (.slice D dn dc))) : Bx W1 y z (.pointer (some ⟨g, 0, none⟩)) (.bool z) X := by
  subst hX
  exact ⟨g, base, C, cn, cc, D, dn, dc, rfl, rfl, below_set (below_set (below_set (below_set hb 0 _ hg) 1 _ hg) 2 _ hg) 3 _ hg, hz.put4 hq _ _ _ _, (((he.set2 hgb 0 _).set2 hgb 1 _).set2 hgb 2 _).set2 hgb 3 _, dj, by omega⟩
theorem Bx.new {W1 w5 : World} {y : En} {z : Bool} {base cn cc dn dc : Nat} {C D : Option Addr} (hb : Below W1.heap.size W1 w5) (hgb : W1.heap.size ≤ base) (he : EO base w5 y (.slice C cn cc) (.int .u64 (y.seq : Int)) (.int .u8 (y.kind : Int)) (.slice D dn dc)) (dj : Dj C D) :
    Bx W1 y z (.pointer (some ⟨w5.heap.size, 0, none⟩)) (.bool z) (w5.alloc (.cells #[.slice C cn cc, .int .u64 (y.seq : Int), .int .u8 (y.kind : Int), .slice D dn dc] 31)) :=
  ⟨_, base, C, cn, cc, D, dn, dc, rfl, rfl, hb.alloc hb.size _, Cl.new _ _ _, he.below ((Below.refl _ _).alloc (Nat.le_refl _) _), dj, hgb⟩
def RetRs (w : World) (es : List En) (e : Ending) (w' : World) : Prop := ∃ L k d, e = .returned (.slice L k d) ∧ REs w' L k es ∧ Below w.heap.size w w'
theorem RetRs.out {w : World} {es : List En} {e : Ending} {w' : World} (h : RetRs w es e w') : ∃ L k d, e = .returned (.slice L k d) ∧ REs w' L k es ∧ Below w.heap.size w w' := h
end Go.Proofs.YtlnpicfkcahdbaaGreat
namespace Go.Proofs.YtlnpicfkcahdbaaGreat
open Go Go.RowKit

theorem withT_list {x : En} : ∀ {t t' : Tr}, SortL t.list → withT x t = some t' → ∃ p q, t.list = p ++ q ∧ t'.list = p ++ x :: q ∧ (∀ y ∈ p, lessE y x = true) ∧ (∀ y ∈ q, lessE x y = true)
  | .nil, t', _, h => by
    unfold withT at h
    injection h with h
    subst h
    exact ⟨[], [], rfl, rfl, (fun y hy => by cases hy), fun y hy => by cases hy⟩
  | .node l e r, t', hs, h => by
    have hs' : SortL (l.list ++ e :: r.list) := hs
    obtain ⟨sl, sr, slr⟩ := List.pairwise_append.1 hs'
    obtain ⟨er, srr⟩ := List.pairwise_cons.1 sr
    unfold withT at h
    split at h
    · next hx =>
      cases hw : withT x l with
      | none => rw [hw] at h; cases h
      | some l' =>
        rw [hw] at h
        injection h with h
        obtain ⟨p, q, e1, e2, h1, h2⟩ := withT_list sl hw
        subst h
        refine ⟨p, q ++ e :: r.list, by rw [Tr.list, e1, List.append_assoc], by rw [balT_list, e2]; simp, h1, fun y hy => ?_⟩
        rcases List.mem_append.1 hy with m | m
        · exact h2 y m
        · rcases List.mem_cons.1 m with rfl | m
          · exact hx
          · exact lessE_trans hx (er y m)
    · split at h
      · next hx =>
        cases hw : withT x r with
        | none => rw [hw] at h; cases h
        | some r' =>
          rw [hw] at h
          injection h with h
          obtain ⟨p, q, e1, e2, h1, h2⟩ := withT_list srr hw
          subst h
          refine ⟨l.list ++ e :: p, q, by rw [Tr.list, e1]; simp, by rw [balT_list, e2]; simp, fun y hy => ?_, h2⟩
          rcases List.mem_append.1 hy with m | m
          · exact lessE_trans (slr y m e (by simp)) hx
          · rcases List.mem_cons.1 m with rfl | m
            · exact hx
            · exact h1 y m
      · cases h
theorem withT_none {x : En} : ∀ {t : Tr}, withT x t = none → inL t.list x = true
  | .nil, h => by unfold withT at h; cases h
  | .node l e r, h => by
    unfold withT at h
    unfold inL
    rw [Tr.list, List.any_append, List.any_cons]
    split at h
    · cases hw : withT x l with
      | none => have := withT_none hw; unfold inL at this; rw [this]; rfl
      | some l' => rw [hw] at h; cases h
    · next h1 =>
      split at h
      · cases hw : withT x r with
        | none => have := withT_none hw; unfold inL at this; rw [this]; simp
        | some r' => rw [hw] at h; cases h
      · next h2 =>
        rcases lessE_tri e x with q | q | q
        · exact absurd q h2
        · exact absurd q h1
        · rw [q]; simp
/-- An insertion that goes well: the list's, and the entry wasn't there. -/
theorem withT_ins {x : En} {t t' : Tr} (hs : SortL t.list) (h : withT x t = some t') : t'.list = insL t.list x ∧ inL t.list x = false ∧ SortL t'.list := by
  obtain ⟨p, q, e1, e2, h1, h2⟩ := withT_list hs h
  have hp : ∀ y ∈ p, lessE x y = false := fun y hy => lessE_asym (h1 y hy)
  refine ⟨by rw [e1, e2, insL_app hp h2], ?_, ?_⟩
  · rw [e1]
    unfold inL
    rw [List.any_eq_false]
    intro y hy k
    obtain ⟨k1, k2⟩ := sameK_not k
    rcases List.mem_append.1 hy with m | m
    · rw [h1 y m] at k1; cases k1
    · rw [h2 y m] at k2; cases k2
  · rw [e2]
    rw [e1] at hs
    obtain ⟨s1, s2, s3⟩ := List.pairwise_append.1 hs
    refine List.pairwise_append.2 ⟨s1, List.pairwise_cons.2 ⟨h2, s2⟩, fun a ha b hb => ?_⟩
    rcases List.mem_cons.1 hb with rfl | m
    · exact h1 a ha
    · exact s3 a ha b m
end Go.Proofs.YtlnpicfkcahdbaaGreat
namespace Go.Proofs.YtlnpicfkcahdbaaGreat
open Go Go.RowKit

section
variable {w : World} {A : Option Addr} {n c : Nat} {es : List En}
end
end Go.Proofs.YtlnpicfkcahdbaaGreat
namespace Go.Proofs.YtlnpicfkcahdbaaGreat
open Go Go.RowKit

/-- Rows of other kinds lie in other blocks than an entry's bytes. -/
theorem eos_off {base : Nat} {w : World} {t : TypeId} {s b1 n c j : Nat} {L : Option Addr} {us : List Value} (k : w.ownsRow b1 t s (.slice L n c) j us) (hne : t ≠ 5) : ∀ {es : List En} {vs : List Value}, EOs base w es vs → OffW vs (blk L)
  | [], _, h => by rw [show _ = [] from h]; exact OffW.nil _
  | e :: es, vs, h => fun g hg A m d hv => by
    obtain ⟨v0, v1, v2, v3, r, rfl, ⟨K, kn, kc, V, vn, vc, rfl, rfl, rfl, rfl, o1, o2, _⟩, h2⟩ := h
    have ih := eos_off k hne h2 g hg A m d
    simp only [List.mem_cons] at hv
    rcases hv with e | e | e | e | e
    · injection e with e1 e2 e3
      rw [e1]
      exact fun h => row_ne k o1 hne g hg h
    · cases e
    · cases e
    · injection e with e1 e2 e3
      rw [e1]
      exact fun h => row_ne k o2 hne g hg h
    · exact ih e
end Go.Proofs.YtlnpicfkcahdbaaGreat
namespace Go.Proofs.YtlnpicfkcahdbaaGreat
open Go Go.RowKit

theorem szL_take (es : List En) (k : Nat) : szL (es.take k) ≤ szL es := by
  have := szL_app (es.take k) (es.drop k)
  rw [List.take_append_drop] at this
  omega
theorem szL_snoc {es : List En} {k : Nat} {x : En} (h : es[k]? = some x) : szL (es.take (k + 1)) = szL (es.take k) + wE x := by
  rw [List.take_add_one, h, szL_app]
  simp [szL]
theorem grow_set {w w' : World} {row : Option Nat} (h : w.grownBy w' row) (p : Nat) (i : Nat) (v : Value) (hp : row = some p) : w.grownBy (World.setCell w' ⟨p, i, none⟩ v) row := by
  obtain ⟨h1, h2, h3, h4, h5⟩ := h
  have k := (Below.refl p w').setCell (p := ⟨p, i, none⟩) (Nat.le_refl _) v
  exact ⟨k.os.trans h1, k.tape.trans h2, k.output.trans h3, Nat.le_trans h4 k.size, fun b hb hne => by
    have hbp : b ≠ p := fun e => hne (by rw [e]; exact hp.symm)
    rw [heap_setCell_other _ _ _ _ hbp]
    exact h5 b hb hne⟩
set_option maxRecDepth 100000 in
set_option maxHeartbeats 8000000 in
theorem tabPut_any {d : TypeId × List Value} {G : Nat → Prop} {w : World} {p : Nat} {t : Tr} {L : Option Addr} {n c : Nat} {es : List En} (h : TB d G w p t) (hr : REs w L n es) (hn : n ≤ 1099511627776) (hs : ∀ x ∈ es, SzE x) (hnum : t.num + n + 1 ≤ 1099511627776) (hsz : t.sz + szL es ≤ 1099511627776)
    (hG : ∀ b, w.heap.size ≤ b → G b) : Calls Tryz.prog 8 #[.pointer (some ⟨p, 0, none⟩), .slice L n c] w (RetPt d G w p (putZ t es)) := by
  have HTB := Lib.hid h
  obtain ⟨A0, hp, hta, hok⟩ := h
  have HP := Lib.hid hp
  have HTA := Lib.hid hta
  have HR := Lib.hid hr
  have HLN := Lib.hid hr.len
  have HS := Lib.hid hs
  have HG := Lib.hid hG
  have hplt := hp.lt
  have HOK := Lib.hid hok
  obtain ⟨z, hz⟩ : ∃ z, z = checkE es := ⟨_, rfl⟩
  have HC : Hid (Calls Tryz.prog 42 #[.slice L n c] w (RetNu w z)) := Lib.hid (by rw [hz]; exact memCheck_any hr hn)
  have HZ := Lib.hid hz
  clear hp hta hr hs hz hG hok
  go_enter Tryz.func8, Tryz.ntmps8
  go_wp2_with fail
  refine HC.out.mono ?_
  rintro e w1 ⟨rfl, b1⟩
  have B1 := Lib.hid b1
  have s1 := b1.size
  by_cases h0 : z = 0
  · subst h0
    have HPZ : Hid (putZ t es = match insAll t es with | none => (7, t) | some t' => (0, t')) := Lib.hid (by unfold putZ; rw [if_pos HZ.out.symm] <;> (cases insAll t es <;> rfl))
    obtain ⟨c0, c1, c2, y0, y1, y2⟩ := (HP.out.below b1).ct
    clear b1
    go_wp2
    go_quiet (fail)
    obtain ⟨w2, hw2⟩ : ∃ w2, w2 = w1.drewN nq := ⟨_, rfl⟩
    rw [← hw2]
    have b2 : Below w.heap.size w w2 := by rw [hw2]; exact below_drewN B1.out _
    have B2 := Lib.hid b2
    have s2 := b2.size
    clear hw2 b2 c0 c1 c2 y0 y1 y2
    go_wp2
    go_loopw [6, 7, 28] (fun s6 s7 s28 wr => ∃ (k : Nat) (tk : Tr) (A : Option Addr), k ≤ n ∧ s28 = .int .i64 (k : Int) ∧ s6 = .pointer A ∧ s7 = .int .i64 (tk.sz : Int) ∧ insAll t (es.take k) = some tk ∧ TrAt G wr tk A ∧ Below w.heap.size w wr) (fun _ _ s _ => n - (intOf s).toNat)
    case atStart => exact ⟨0, t, A0, Nat.zero_le _, rfl, rfl, rfl, rfl, HTA.out.below B2.out, B2.out⟩
    case round =>
      obtain ⟨k, tk, A, hk, rfl, rfl, rfl, hins, htk, hB⟩ := hrel
      have hR := HR.out.below hB
      have swr := hB.size
      have HB := Lib.hid hB
      have HTK := Lib.hid htk
      have HINS := Lib.hid hins
      have hnk := insAll_num hins
      rw [List.length_take] at hnk
      have hszk := szL_take es k
      have hln := HLN.out
      clear hB htk hins
      by_cases hlt : k < n
      · obtain ⟨b, off, rfl, hbl⟩ := hR.pos (by omega)
        obtain ⟨x, v0, v1, v2, v3, hx, m0, m1, m2, m3, hev⟩ := hR.at_ k hlt
        have HEV := Lib.hid hev
        have hsx := HS.out x (List.mem_of_getElem? hx)
        have hwf := hR.wf x (List.mem_of_getElem? hx)
        have hsn := szL_snoc hx
        have hst := szL_take es (k + 1)
        have HXK := Lib.hid hx
        obtain ⟨K, kn, kc, V, vn, vc, rfl, rfl, rfl, rfl, rk, rv, _⟩ := hev.parts
        have hwx : wE x = kn + vn := by unfold wE; rw [rk.len, rv.len]
        clear hx hev hR rk rv
        obtain ⟨U1, hU1⟩ : ∃ U1, U1 = wr.alloc (.cells #[.slice K kn kc, .int .u64 (x.seq : Int), .int .u8 (x.kind : Int), .slice V vn vc] 31) := ⟨_, rfl⟩
        have bU1 : Below wr.heap.size wr U1 := by rw [hU1]; exact (Below.refl _ _).alloc (Nat.le_refl _) _
        have xU1 : Cl U1 wr.heap.size #[.slice K kn kc, .int .u64 (x.seq : Int), .int .u8 (x.kind : Int), .slice V vn vc] 31 := by rw [hU1]; exact Cl.new _ _ _
        have XU1 := Lib.hid xU1
        have BU1 := Lib.hid bU1
        have sU1 := bU1.size
        have HOW : Hid (Calls Tryz.prog 43 #[.agg #[.slice K kn kc, .int .u64 (x.seq : Int), .int .u8 (x.kind : Int), .slice V vn vc]] U1 (RetEn U1 x)) := Lib.hid (own_any (HEV.out.below bU1) hsx)
        clear bU1 xU1
        go_wp2_with fail
        rw [← hU1]
        refine HOW.out.mono ?_
        rintro e w3 ⟨K2, kn2, kc2, V2, vn2, vc2, rfl, o1, o2, b3, _⟩
        obtain ⟨U2, hU2⟩ : ∃ U2, U2 = w3.alloc (.cells #[.slice K2 kn2 kc2, .int .u64 (x.seq : Int), .int .u8 (x.kind : Int), .slice V2 vn2 vc2] 31) := ⟨_, rfl⟩
        have bU2 : Below w3.heap.size w3 U2 := by rw [hU2]; exact (Below.refl _ _).alloc (Nat.le_refl _) _
        have heb : EB G U2 x w3.heap.size := by
          refine ⟨_, _, _, _, by rw [hU2]; exact Cl.new _ _ _, ⟨K2, kn2, kc2, V2, vn2, vc2, rfl, rfl, rfl, rfl, (o1.mono (Nat.zero_le _)).below bU2, (o2.mono (Nat.zero_le _)).below bU2, hwf⟩, fun S m cc g hv hg => HG.out g ?_⟩
          simp only [List.mem_cons, List.not_mem_nil, or_false] at hv
          rcases hv with e | e | e | e
          · injection e with e1 e2 e3; subst e1; have := (o1.lt g hg).1; omega
          · cases e
          · cases e
          · injection e with e1 e2 e3; subst e1; have := (o2.lt g hg).1; omega
        have bw2 : Below wr.heap.size wr U2 := belowT (belowT BU1.out b3) bU2
        have HWI : Hid (Calls Tryz.prog 44 #[.pointer A, .pointer (some ⟨w3.heap.size, 0, none⟩)] U2 (RetWith G U2 (withT x tk))) := Lib.hid (with_any x w3.heap.size tk A U2 (HTK.out.below bw2) heb (by omega))
        have XU2 := Lib.hid ((XU1.out.below b3).below bU2)
        have BW2 := Lib.hid bw2
        have sw2 := bw2.size
        clear o1 o2 b3 bU2 heb bw2
        go_wp2_with fail
        rw [← hU2]
        with_reducible refine HWI.out.mono ?_
        intro e w4 hq
        rcases RetWith.out hq with ⟨t', A6, ho, h1, t6, b6⟩ | ⟨ho, h1, b6⟩
        · subst h1
          have HO := Lib.hid ho
          have hsz' := withT_sz ho
          have T6 := Lib.hid t6
          have B6 := Lib.hid (HB.out.trans ((belowT BW2.out b6).mono swr))
          obtain ⟨f0, f1, f2, f3, _⟩ := (XU2.out.below b6).c4
          have e1 : IntKind.i64.wrap ((kn : Int) + (vn : Int)) = ((kn + vn : Nat) : Int) := by rw [IntWalk.i64_in _ (by omega)]; omega
          have e2 : IntKind.i64.wrap ((tk.sz : Int) + ((kn + vn : Nat) : Int)) = ((tk.sz + (kn + vn) : Nat) : Int) := by rw [IntWalk.i64_in _ (by omega)]; omega
          have HIN : Hid (insAll t (es.take (k + 1)) = some t') := Lib.hid (by rw [List.take_add_one, HXK.out]; simp only [Option.toList]; rw [insAll_snoc, HINS.out]; exact HO.out)
          have HSZ : Hid (t'.sz = tk.sz + (kn + vn)) := Lib.hid (by rw [hsz', hwx])
          clear hq ho t6 b6 hsz'
          go_wp2_with fail
          go_roundw
          case rel => exact ⟨k + 1, t', A6, by omega, by go_num, rfl, by rw [HSZ.out]; go_num, HIN.out, T6.out, B6.out⟩
          case measure => simp [intOf]; omega
        · subst h1
          have HNO : Hid (insAll t es = none) := Lib.hid (by
            have h3 : insAll t (es.take (k + 1)) = none := by rw [List.take_add_one, HXK.out]; simp only [Option.toList]; rw [insAll_snoc, HINS.out]; exact ho
            have h4 := insAll_none (ys := es.drop (k + 1)) h3
            rw [List.take_append_drop] at h4
            exact h4)
          have B6 := Lib.hid (HB.out.trans ((belowT BW2.out b6).mono swr))
          clear hq ho b6
          go_wp2_with fail
          go_ret
          exact ⟨by rw [HPZ.out, HNO.out]; rfl, by rw [HPZ.out, HNO.out]; exact HTB.out.below B6.out, grow_of_below B6.out⟩
      · have htk := take_all hln hlt
        rw [htk] at HINS
        have HPZ2 : Hid (putZ t es = (0, tk)) := Lib.hid (by rw [HPZ.out, HINS.out])
        obtain rfl : k = n := by omega
        have HPP := Lib.hid (HP.out.below HB.out)
        obtain ⟨c0, c1, c2, y0, y1, y2⟩ := HPP.out.ct
        clear htk
        go_wp2
        have e1 : (t.sz : Int) + (szL (es.take k) : Int) = (tk.sz : Int) := by have := hnk.2; omega
        have e2 : (t.num : Int) + (k : Int) = (tk.num : Int) := by have := hnk.1; omega
        rw [e1, e2]
        have Q1 := HPP.out.st0 (.pointer A)
        have Q2 := Q1.st2 (.int .i64 (tk.sz : Int))
        have Q3 := Q2.st1 (.int .i64 (tk.num : Int))
        have T3 := TrAt.set Q2 HOK.out 1 (.int .i64 (tk.num : Int)) (TrAt.set Q1 HOK.out 2 (.int .i64 (tk.sz : Int)) (TrAt.set HPP.out HOK.out 0 (.pointer A) HTK.out))
        have hgr := grow_set (grow_set (grow_set (grow_of_below (row := some p) HB.out) p 0 (.pointer A) rfl) p 2 (.int .i64 (tk.sz : Int)) rfl) p 1 (.int .i64 (tk.num : Int)) rfl
        go_ret
        exact ⟨by rw [HPZ2.out]; rfl, by rw [HPZ2.out]; exact ⟨A, Q3, T3, HOK.out⟩, hgr⟩
  · have HPZ : Hid (putZ t es = (z, t)) := Lib.hid (by unfold putZ; rw [← HZ.out, if_neg h0])
    have tz : (z != 0) = true := by simpa using h0
    clear b1
    go_wp2
    go_ret
    exact ⟨by rw [HPZ.out]; rfl, by rw [HPZ.out]; exact HTB.out.below B1.out, grow_of_below B1.out⟩
end Go.Proofs.YtlnpicfkcahdbaaGreat
namespace Go.Proofs.YtlnpicfkcahdbaaGreat
open Go Go.RowKit

theorem Rd.cst8 (w : World) (e : TypeId) (n : Nat) (xs : List UInt8) (hn : xs.length = n) (vs : Array Value) (hv : vs = (xs.map cv).toArray) (fr : Nat × Nat) (g : Nat) (hg : g = w.heap.size) :
    Rd (w.alloc (.cells vs e fr)) (some ⟨g, 0, none⟩) n xs := by
  subst hv hg
  refine ⟨hn, fun _ => ⟨w.heap.size, 0, rfl, by simp, fun i x hx => ?_⟩⟩
  have h := cell_of_row (w.alloc (.cells (xs.map cv).toArray e fr)) w.heap.size (0 + i) (xs.map cv).toArray e fr (heap_alloc_new w _)
  rw [h]
  simp [hx, cv]

def e81 : En := ⟨[97, 98], 5, 1, [120]⟩
def e82 : En := ⟨[97, 98, 99], 7, 2, []⟩
theorem b8 : (buildE 2 [e81, e82]).2 = 0 ∧ (buildE 2 [e81, e82]).1.length = 30 ∧ (buildE 2 [e81, e82]).1[8]? = some 0 ∧ (buildE 2 [e81, e82]).1[9]? = some 2 ∧ (buildE 2 [e81, e82]).1[10]? = some 5 ∧ (buildE 2 [e81, e82]).1[16]? = some 2 ∧ (buildE 2 [e81, e82]).1[17]? = some 1 ∧ (buildE 2 [e81, e82]).1[18]? = some 7 := by decide +kernel
end Go.Proofs.YtlnpicfkcahdbaaGreat
namespace Go.Proofs.YtlnpicfkcahdbaaGreat
open Go Go.RowKit

def lenV : Value → Nat
  | .slice _ n _ => n
  | _ => 0
/-- What parse hands back: the entries, the every; or none. -/
def RetPa8 (w : World) (r : Option (List En × Nat)) (e : Ending) (w' : World) : Prop :=
  (r = none ∧ e = .returned (.tuple #[.slice none 0 0, .int .i64 0, .bool false]) ∧ Below w.heap.size w w') ∨
  ∃ es ev L d, r = some (es, ev) ∧ e = .returned (.tuple #[.slice L es.length d, .int .i64 (ev : Int), .bool true]) ∧ RowE w w.heap.size L es.length d es w' ∧ es.length ≤ 16777216 ∧ ev ≤ 16777216
/-- What stands at the head of parse's loop. -/
def PRel (w : World) (p : Nat) (E : Option Addr) (en ec : Nat) (ys : List UInt8) (sec : Int) (s10 s11 s12 : Value) (wr : World) : Prop :=
  ∃ (f a i d hn hc ev : Nat) (es : List En) (L H : Option Addr) (vs : List Value), s10 = .int .i64 (ev : Int) ∧ s11 = .slice L i d ∧ s12 = .slice H hn hc ∧
    parR ys sec (en + 1) 0 [] 0 = parR ys sec f a es ev ∧ a ≤ en ∧ en < a + f ∧ i ≤ a ∧ ev ≤ i ∧ Rdr wr p E en ec (a, false) ∧ PR w.heap.size wr.heap.size p L i d es wr vs ∧
    Rd wr H hn (lastK es) ∧ hn ≤ hc ∧ (H = none → hc = 0) ∧ blk H ≠ some p ∧ hn ≤ 1024 ∧ Below w.heap.size w wr
set_option maxRecDepth 100000 in
set_option maxHeartbeats 16000000 in
theorem parse_any (A : Option Addr) (n c : Nat) (xs : List UInt8) (w : World) (hx : Rd w A n xs) (hn : n ≤ 16777216) (hnc : n ≤ c) (hnil : A = none → c = 0) :
    Calls Tryz.prog 162 #[.slice A n c] w (RetPa8 w (parB xs)) := by
  have hxl := hx.len
  have HSP := Lib.hid (split_any A n c xs w hx (by omega) hnc hnil)
  cases hsb : splitB xs with
  | none =>
    have hp : parB xs = none := by unfold parB; rw [hsb]
    have HP := Lib.hid hp
    clear hp hx hxl
    go_enter Tryz.func162, Tryz.ntmps162
    go_wp2_with fail
    refine HSP.out.mono ?_
    rintro e w1 ⟨⟨q, hq⟩, ⟨_, rfl⟩ | ⟨ys, zs, B1, n1, c1, B2, n2, c2, h0, _⟩⟩
    · have HQ := Lib.hid hq
      clear hq
      go_wp2_with fail
      exact bodyPost_ret (v := .tuple #[.slice none 0 0, .int .i64 0, .bool false]) (by simp [results, Tryz.f162, go_sem]; try rfl) rfl (.inl ⟨HP.out, rfl, by rw [HQ.out]; exact below_drewN (Below.refl _ _) q⟩)
    · rw [hsb] at h0
      cases h0
  | some yz =>
    obtain ⟨ys, zs⟩ := yz
    obtain ⟨sec, hsec⟩ : ∃ sec : Int, sec = if 8 ≤ zs.length then (numK (zs.drop 4) 4 : Int) else -1 := ⟨_, rfl⟩
    have hp : parB xs = match parR ys sec (ys.length + 1) 0 [] 0 with
      | none => none
      | some (es, ev) => some (es, if sec < 0 then max es.length 1 else ev) := by
      unfold parB
      rw [hsb]
      simp only
      rw [← hsec]
      all_goals (cases parR ys sec (ys.length + 1) 0 [] 0 <;> rfl)
    have HP := Lib.hid hp
    have HSEC := Lib.hid hsec
    have HSB := Lib.hid hsb
    clear hp hsec hsb
    go_enter Tryz.func162, Tryz.ntmps162
    go_wp2_with fail
    refine HSP.out.mono ?_
    rintro e w1 ⟨⟨q, hq⟩, ⟨h0, _⟩ | ⟨ys', zs', E, en, ec, Z, zn, zc, h0, rfl, hec, hzc, rE, rZ, hEn, hZn, hEA, hlen⟩⟩
    · rw [HSB.out] at h0
      cases h0
    · rw [HSB.out] at h0
      injection h0 with h0
      injection h0 with h01 h02
      subst h01 h02
      have rE1 : Rd w1 E en ys := by rw [hq]; exact rE.drewN q
      have rZ1 : Rd w1 Z zn zs := by rw [hq]; exact rZ.drewN q
      have b1 : Below w.heap.size w w1 := by rw [hq]; exact below_drewN (Below.refl _ _) q
      have s1 : w1.heap.size = w.heap.size := by rw [hq]; rfl
      have hsz : sec = if 8 ≤ zn then (numK (zs.drop 4) 4 : Int) else -1 := by rw [HSEC.out, rZ.len]
      have HSZ := Lib.hid hsz
      have HRZ := Lib.hid rZ1
      have HRE := Lib.hid rE1
      have HB1 := Lib.hid b1
      have HREw := Lib.hid rE
      have hA0 : 0 < n := by have := hxl; omega
      have hpe : ∀ p, w.heap.size ≤ p → blk E ≠ some p := fun p hp e => by
        rcases hEA with e2 | e2
        · rw [e2] at e; cases e
        · obtain ⟨bA, oA, eA, hbA⟩ := hx.pos hA0
          rw [e2, eA] at e
          injection e with e
          simp only at e
          omega
      have HPE := Lib.hid hpe
      have HS1 := Lib.hid s1
      have hznn : zn ≤ 16777216 := by omega
      have henn : en ≤ 16777216 := by omega
      clear hq rE rZ rE1 rZ1 b1 s1 hsz HSP hx hpe hEA
      go_upto_if 25 with (fail)
      go_cut [8] from 15 to 29 (fun s8 wx => s8 = .int .i64 sec ∧ ∃ q, wx = w1.drewN q)
      case first =>
        by_cases h8 : 8 ≤ zn
        · have h8i : (8 : Int) ≤ (zn : Int) := by omega
          obtain ⟨k, hk⟩ : ∃ k, k = numK (zs.drop 4) 4 := ⟨_, rfl⟩
          have hse : sec = (k : Int) := by rw [HSZ.out, if_pos h8, hk]
          have hsl : ∀ W : World, (Instr.slice 28 (.slice Z zn zc) (some (.int .i64 4)) none none).run Tryz.prog W = .ok (.slice (cutA Z 4 zc) (zn - 4) (zc - 4)) W := cut_l (k := 4) Tryz.underlying28 elem_bytes size_u8 Z (by omega)
          have HGW : Hid (Calls Tryz.prog 193 #[.slice (cutA Z 4 zc) (zn - 4) (zc - 4)] w1 (RetCo w1 k)) := Lib.hid (by
            rw [hk]
            have h := HRZ.out.cut (k := 4) (m := zn) (cap := zc) (by omega) (Nat.le_refl _) hzc
            rw [List.take_of_length_le (by have := HRZ.out.len; omega)] at h
            exact getWord8_any _ _ _ _ w1 h (by omega) (by omega) (by omega))
          obtain ⟨zm, hzm⟩ : ∃ zm, zm = zn - 4 := ⟨_, rfl⟩
          rw [← hzm] at hsl HGW
          have HSE := Lib.hid hse
          clear hk hse hzm
          go_wp2_with fail
          with_reducible refine HGW.out.mono ?_
          rintro e w2 ⟨rfl, q2, hq2⟩
          have HQ2 := Lib.hid hq2
          clear hq2
          go_wp2_with fail
          go_meet
          case rel => exact ⟨by rw [HSE.out], q2, HQ2.out⟩
        · have h8i : ¬ (8 : Int) ≤ (zn : Int) := by omega
          have hse : sec = -1 := by rw [HSZ.out, if_neg h8]
          have HSE := Lib.hid hse
          clear hse
          go_wp2_with fail
          go_meet
          case rel => exact ⟨by rw [HSE.out], 0, rfl⟩
      case rest =>
        obtain ⟨rfl, q2, hq2⟩ := hcut
        have bc : Below w.heap.size w wc := by rw [hq2]; exact below_drewN HB1.out q2
        have sc : wc.heap.size = w.heap.size := by rw [hq2, ← HS1.out]; rfl
        have hyl : ys.length = en := HRE.out.len
        have HYL := Lib.hid hyl
        obtain ⟨W, hW⟩ : ∃ W, W = wc.alloc (.cells #[.slice E en ec, .int .i64 0, .bool false] 254) := ⟨_, rfl⟩
        obtain ⟨p, hpw⟩ : ∃ p, p = wc.heap.size := ⟨_, rfl⟩
        have hWr : Rdr W p E en ec (0, false) := by rw [hW, hpw]; exact Cl.new _ _ _
        have bW : Below w.heap.size w W := by rw [hW]; exact bc.alloc (by omega) _
        have sW : p < W.heap.size := by rw [hW, hpw]; simp
        have hpge : w.heap.size ≤ p := by omega
        have HWR := Lib.hid (And.intro hWr bW)
        have HSW := Lib.hid sW
        have HW := Lib.hid hW
        have HPW := Lib.hid hpw
        clear hq2 bc sc hyl hWr bW sW hW hpw
        go_upto_region 8 with (fail)
        rw [← HW.out, ← HPW.out]
        go_wp2_with fail
        go_loopw [10, 11, 12] (fun s10 s11 s12 wr => PRel w p E en ec ys sec s10 s11 s12 wr ∧ p < wr.heap.size) (fun _ s _ _ => en + 1 - lenV s)
        case atStart => exact ⟨⟨en + 1, 0, 0, 0, 0, 0, 0, [], none, none, [], rfl, rfl, rfl, rfl, Nat.zero_le _, by omega, Nat.le_refl _, Nat.le_refl _, HWR.out.1, PR.zero _ _ _ _, Rd.nil _ _, Nat.le_refl _, fun _ => rfl, (fun h => by cases h), by omega, HWR.out.2⟩, HSW.out⟩
        case round =>
          obtain ⟨⟨f, a, i, d, hn2, hc2, ev, es, L, H, vs, rfl, rfl, rfl, hpar, hae, haf, hia, hevi, hRd, hPR, hH, hHc, hHn, hHp, hH1, hB⟩, hpl⟩ := hrel
          have hcl : Cl wr p #[.slice E en ec, .int .i64 (a : Int), .bool false] 254 := hRd
          obtain ⟨c0, c1, c2, f0, f1, f2⟩ := hcl.c3
          have HPAR := Lib.hid hpar
          have HB := Lib.hid hB
          have HPR := Lib.hid hPR
          have HRD := Lib.hid hRd
          have HHR := Lib.hid hH
          clear hpar hB hPR hRd hcl hH
          by_cases hlt : a < en
          · obtain ⟨f', rfl⟩ : ∃ f', f = f' + 1 := ⟨f - 1, by omega⟩
            obtain ⟨ev2, hev2⟩ : ∃ ev2, ev2 = if (a : Int) = sec then i else ev := ⟨_, rfl⟩
            have hev2i : ev2 ≤ i := by rw [hev2]; split <;> omega
            have HEV2 := Lib.hid hev2
            have hil : es.length = i := HPR.out.2.2.2.1
            have HIL := Lib.hid hil
            clear hev2 hil
            go_upto_if 40 with (fail)
            go_cut [10] from 37 to 43 (fun s10 wx => s10 = .int .i64 (ev2 : Int) ∧ wx = wr)
            case first =>
              by_cases hs : (a : Int) = sec
              · have he : ev2 = i := by rw [HEV2.out, if_pos hs]
                have t1 : ((a : Int) == sec) = true := by simpa using hs
                subst he
                go_wp2_with fail
                go_meet
                case rel => exact ⟨rfl, rfl⟩
              · have he : ev2 = ev := by rw [HEV2.out, if_neg hs]
                have t1 : ((a : Int) == sec) = false := by simpa using hs
                subst he
                go_wp2_with fail
                go_meet
                case rel => exact ⟨rfl, rfl⟩
            case rest =>
              obtain ⟨rfl, hwc⟩ := hcut
              rw [hwc]
              clear hwc wc
              have HEN := Lib.hid (entry_any wr p E en ec ys H hn2 hc2 (lastK es) a HRD.out (HREw.out.below HB.out) HHR.out hae (by omega) hec hEn (by omega) hHc (HPE.out p hpge) hHp hHn)
              have hstep : parR ys sec (f' + 1) a es ev = if badR ys (lastK es) a then none else parR ys sec f' (e7R ys a).2.1 (es ++ [entR ys (lastK es) a]) ev2 := by
                rw [parR, if_neg (by rw [HYL.out]; omega), HEV2.out, HIL.out]
              have HST := Lib.hid hstep
              clear hstep
              go_wp2_with fail
              with_reducible refine HEN.out.mono ?_
              intro e w2 hq
              obtain ⟨r2, g2, hcase⟩ := hq
              rcases hcase with ⟨hbad, rfl⟩ | ⟨hbad, K, kn, kc, V, vn, vc, rfl, oK, oV, dj⟩
              · have hfin : parB xs = none := by
                  rw [HP.out, HYL.out, HPAR.out, HST.out, hbad]
                  rfl
                have hb2 : Below w.heap.size w w2 := HB.out.grown g2 HB.out.size (fun k hk => by injection hk with hk; omega)
                have HF := Lib.hid (And.intro hfin hb2)
                clear hbad r2 g2 hfin hb2
                go_wp2_with fail
                exact bodyPost_ret (v := .tuple #[.slice none 0 0, .int .i64 0, .bool false]) (by simp [results, Tryz.f162, go_sem]; try rfl) rfl (.inl ⟨HF.out.1, rfl, HF.out.2.alloc HF.out.2.size _⟩)
              · obtain ⟨x, hxe⟩ : ∃ x, x = entR ys (lastK es) a := ⟨_, rfl⟩
                rw [← hxe] at oK oV ⊢
                have hkl : x.key.length ≤ 1024 := by rw [hxe]; exact entR_key hbad
                have hwf : U64 x.seq ∧ x.kind < 256 := by
                  rw [hxe]
                  refine ⟨?_, ?_⟩
                  · have := (numR_le (xs := ys) (s := (e2R ys a).2) (e_le (by rw [HYL.out]; exact hae)).2.1).2
                    exact this
                  · exact UInt8.toNat_lt _
                have hpar2 : parR ys sec (en + 1) 0 [] 0 = parR ys sec f' (e7R ys a).2.1 (es ++ [x]) ev2 := by rw [HPAR.out, HST.out, hbad, hxe]; rfl
                have h7b := (badR_no hbad).1
                have h7l : (e7R ys a).2.1 ≤ en := by rw [← HYL.out]; exact (e_le (by rw [HYL.out]; exact hae)).2.2.2.2.2.2
                have h7m : a < (e7R ys a).2.1 := e7_more (by rw [HYL.out]; exact hae) h7b
                have hr2 : Rdr w2 p E en ec ((e7R ys a).2.1, false) := by
                  have := r2
                  unfold Rdr at this ⊢
                  rw [h7b] at this
                  exact this
                have s2 := g2.size
                have hb2 : Below w.heap.size w w2 := HB.out.grown g2 HB.out.size (fun k hk => by injection hk with hk; omega)
                have hPR2 := HPR.out.kept g2
                obtain ⟨U, hU⟩ : ∃ U, U = w2.alloc (.cells #[.slice K kn kc, .int .u64 (x.seq : Int), .int .u8 (x.kind : Int), .slice V vn vc] 31) := ⟨_, rfl⟩
                obtain ⟨g3, hg3⟩ : ∃ g3, g3 = w2.heap.size := ⟨_, rfl⟩
                have bU : Below w2.heap.size w2 U := by rw [hU]; exact (Below.refl _ _).alloc (Nat.le_refl _) _
                have kU : Cl U g3 #[.slice K kn kc, .int .u64 (x.seq : Int), .int .u8 (x.kind : Int), .slice V vn vc] 31 := by rw [hU, hg3]; exact Cl.new _ _ _
                have sU := bU.size
                have hPRU := hPR2.below bU
                have oKU := oK.below bU
                have oVU := oV.below bU
                have hRU : Rdr U p E en ec ((e7R ys a).2.1, false) := (show Cl w2 p _ _ from hr2).below bU
                have hBU : Below w.heap.size w U := hb2.trans (bU.mono (by have := HB.out.size; omega))
                have hcell : ∀ u ∈ [Value.slice K kn kc, .int .u64 (x.seq : Int), .int .u8 (x.kind : Int), .slice V vn vc], u.oneCell' = true := by
                  intro u hu
                  simp only [List.mem_cons, List.not_mem_nil, or_false] at hu
                  rcases hu with rfl | rfl | rfl | rfl <;> rfl
                have hwb : w.heap.size ≤ wr.heap.size := HB.out.size
                have hkcap := oK.cap
                have hknil : K = none → kc = 0 := fun h => by have := oK.nil_of (by rw [h]; rfl); exact this.2.2
                have hknl := oK.len
                obtain ⟨y0, y1, y2, y3, _⟩ := kU.c4
                have HU := Lib.hid hU
                have HG3 := Lib.hid hg3
                have HPU := Lib.hid hPRU
                have HO := Lib.hid (And.intro oKU (And.intro oVU dj))
                have HRU := Lib.hid (And.intro hRU hBU)
                have HKU := Lib.hid kU
                have HWF := Lib.hid hwf
                have HP2 := Lib.hid hpar2
                have HCE := Lib.hid hcell
                have HKN := Lib.hid hknil
                have HKL := Lib.hid hknl
                have hkn2 : kn ≤ 1024 := by omega
                have hkc2 : kn ≤ kc := hkcap.1
                have hUl : wr.heap.size ≤ U.heap.size := by omega
                have HX := Lib.hid hxe
                have HS2 := Lib.hid s2
                clear hxe hbad oK oV dj r2 g2 hr2 hb2 hPR2 bU kU hPRU oKU oVU hRU hBU hcell hU hwf hpar2 hknil hknl hkcap h7b hkl HEN HST c0 c1 c2 f0 f1 f2 s2 sU
                go_upto_if 49 with (fail)
                rw [← HU.out, ← HG3.out]
                clear hg3
                go_wp2_with (at_builtin; refine wpList_app4t U rfl _ _ 22 rfl w.heap.size _ 64 Tryz.underlying22 info_ent rfl L i d vs rfl HPU.out.1 _ _ _ _ HCE.out U.heap.size rfl rfl ?_ ?_ ?_ ?_)
                · omega
                · omega
                · omega
                intro L2 d2 w4 hG4 hg4 hb4
                have hPR4 := pr_add HPU.out HO.out.1 HO.out.2.1 HO.out.2.2 HWF.out hwb hpl hUl hG4 hg4 hb4
                have s4 := hg4.size
                have hLp : blk L ≠ some p := HPU.out.2.2.2.2.2.2.1
                have hLb : ∀ b, blk L = some b → b < wr.heap.size := HPU.out.2.2.2.2.2.2.2.2
                have hR4 : Rdr w4 p E en ec ((e7R ys a).2.1, false) := ClG.grown HRU.out.1 hg4 hLp
                have k4 : Cl w4 g3 #[.slice K kn kc, .int .u64 (x.seq : Int), .int .u8 (x.kind : Int), .slice V vn vc] 31 := ClG.grown HKU.out hg4 (fun e => by have := hLb g3 e; have := HG3.out; have := HS2.out; omega)
                have rK4 : Rd w4 K kn x.key := (HO.out.1.kept hg4 (fun b hb e => by have h1 := (HO.out.1.lt b hb).1; have h2 := hLb b e; omega)).rd
                have hB4 : Below w.heap.size w w4 := HRU.out.2.grown hg4 (by omega) (fun k hk => (HPU.out.1.lt k hk).1)
                have hKp : blk K ≠ some p := fun e => by have := (HO.out.1.lt p e).1; omega
                obtain ⟨z0, z1, z2, z3, _⟩ := k4.c4
                have HF := Lib.hid (And.intro hPR4 (And.intro hR4 (And.intro rK4 (And.intro hB4 hKp))))
                clear hPR4 hR4 k4 rK4 hB4 hKp hG4 hg4 hb4 y0 y1 y2 y3 hLp hLb
                go_wp2_with fail
                go_roundw
                case rel =>
                  refine ⟨⟨f', (e7R ys a).2.1, i + 1, d2, kn, kc, ev2, es ++ [x], L2, K, _, rfl, rfl, rfl, HP2.out, h7l, by omega, by omega, by omega, HF.out.2.1, HF.out.1, ?_, hkc2, HKN.out, HF.out.2.2.2.2, hkn2, HF.out.2.2.2.1⟩, by omega⟩
                  rw [lastK_snoc]
                  exact HF.out.2.2.1
                case measure => simp [lenV]; omega
          · obtain rfl : a = en := by omega
            have hil : es.length = i := HPR.out.2.2.2.1
            have hf : parR ys sec f a es ev = some (es, ev) := by
              obtain ⟨f', rfl⟩ : ∃ f', f = f' + 1 := ⟨f - 1, by omega⟩
              rw [parR, if_pos (by rw [HYL.out]; exact Nat.le_refl _)]
            have hpb : parB xs = some (es, if sec < 0 then max i 1 else ev) := by rw [HP.out, HYL.out, HPAR.out, hf]; simp only [hil]
            have hrow : RowE w w.heap.size L i d es wr := HPR.out.row HB.out HB.out.size
            have HPB := Lib.hid hpb
            have HROW := Lib.hid hrow
            have HIL := Lib.hid hil
            clear hil hf hpb hrow
            by_cases hs : sec < 0
            · obtain ⟨mx, hmx⟩ : ∃ mx, mx = max i 1 := ⟨_, rfl⟩
              have hb : parB xs = some (es, mx) := by rw [HPB.out, if_pos hs, hmx]
              have hmi : mx ≤ 16777216 := by omega
              have HBB := Lib.hid hb
              have HMX := Lib.hid hmx
              clear hb hmx
              by_cases hi1 : i < 1
              · obtain rfl : i = 0 := by omega
                have hm1 : mx = 1 := by have := HMX.out; omega
                subst hm1
                go_wp2_with fail
                refine bodyPost_ret (v := .tuple #[.slice L 0 d, .int .i64 1, .bool true]) (by simp [results, Tryz.f162, go_sem]; try rfl) rfl (.inr ⟨es, 1, L, d, HBB.out, by rw [HIL.out]; rfl, by rw [HIL.out]; exact HROW.out, by rw [HIL.out]; omega, hmi⟩)
              · have hm1 : mx = i := by have := HMX.out; omega
                subst hm1
                go_wp2_with fail
                refine bodyPost_ret (v := .tuple #[.slice L mx d, .int .i64 (mx : Int), .bool true]) (by simp [results, Tryz.f162, go_sem]; omega) rfl (.inr ⟨es, mx, L, d, HBB.out, by rw [HIL.out], by rw [HIL.out]; exact HROW.out, by rw [HIL.out]; omega, hmi⟩)
            · have hb : parB xs = some (es, ev) := by rw [HPB.out, if_neg hs]
              have HBB := Lib.hid hb
              clear hb
              go_wp2_with fail
              refine bodyPost_ret (v := .tuple #[.slice L i d, .int .i64 (ev : Int), .bool true]) (by simp [results, Tryz.f162, go_sem]; try rfl) rfl (.inr ⟨es, ev, L, d, HBB.out, by rw [HIL.out], by rw [HIL.out]; exact HROW.out, by rw [HIL.out]; omega, by omega⟩)
end Go.Proofs.YtlnpicfkcahdbaaGreat
namespace Go.Proofs.YtlnpicfkcahdbaaGreat
open Go Go.RowKit Go.Maps

/-- 'The disk with this file now; the number.' -/
def RetFile (w : World) (p : Nat) (m : Option Nat) (rs : List FR) (r : FR) (dat : List UInt8) (saf : Nat) (room used left : Int) (dead armed : Bool) (v : Value) (e : Ending) (w' : World) : Prop :=
  e = .returned v ∧ ∃ r' : FR, r'.name = r.name ∧ r'.dat = dat ∧ r'.saf = saf ∧ DskR w' p m (putR r' rs) room used left dead armed ∧ Fr w w' (allB p m rs) ∧ ∀ b ∈ allB p m (putR r' rs), b ∈ allB p m rs ∨ w.heap.size ≤ b

section
variable {w : World} {p : Nat} {m : Option Nat} {rs : List FR} {room used left : Int} {dead armed : Bool}
theorem append_dead (x : List UInt8) (B : Option Addr) (n c : Nat) (h : DskR w p m rs room used left true armed) :
    Calls Tryz.prog 111 #[.pointer (some ⟨p, 0, none⟩), .string (tx x), .slice B n c] w fun e w' => e = .returned (.int .i64 9) ∧ w = w' := by
  go_enter Tryz.func111, Tryz.ntmps111
  go_wp2_with fail
  refine (find_dead x h).mono ?_
  rintro e w' ⟨rfl, rfl⟩
  go_wp2
  go_ret
  exact ⟨rfl, rfl⟩
set_option maxRecDepth 100000 in
set_option maxHeartbeats 2000000 in
theorem append_full (x : List UInt8) (B : Option Addr) (n c : Nat) (u R : Nat) (h : DskR w p m rs (R : Int) (u : Int) left false armed) (hf : R < u + n) (huR : u ≤ R) (hR : R ≤ 9223372036854775807) (hx : x.length ≤ maxLen) :
    Calls Tryz.prog 111 #[.pointer (some ⟨p, 0, none⟩), .string (tx x), .slice B n c] w fun e w' => e = .returned (.int .i64 8) ∧ ∃ q, w' = w.drewN q := by
  obtain ⟨c0, c1, c2, c3, c4, c5⟩ := h.head
  have i0 : IntKind.i64.wrap ((R : Int) - (u : Int)) = (R : Int) - (u : Int) := IntWalk.i64_in _ (by omega)
  have i1 : decide ((R : Int) - (u : Int) < (n : Int)) = true := by simp; omega
  by_cases hex : ∃ r ∈ rs, r.name = x
  · obtain ⟨r, hr, rfl⟩ := hex
    go_enter Tryz.func111, Tryz.ntmps111
    go_wp2_with fail
    refine (find_some h hr hx).mono ?_
    rintro e w' ⟨rfl, rfl⟩
    go_wp2
    go_quiet (fail)
    go_wp2
    go_ret
    exact ⟨rfl, _, rfl⟩
  · go_enter Tryz.func111, Tryz.ntmps111
    go_wp2_with fail
    refine (find_none x h (fun r hr e => hex ⟨r, hr, e⟩) hx).mono ?_
    rintro e w' ⟨rfl, rfl⟩
    go_wp2
    go_quiet (fail)
    go_wp2
    go_ret
    exact ⟨rfl, _, rfl⟩
set_option maxRecDepth 100000 in
set_option maxHeartbeats 4000000 in
theorem append_old {r : FR} (B : Option Addr) (n c : Nat) (ys : List UInt8) (u R : Nat) (h : DskR w p m rs (R : Int) (u : Int) left false armed) (hu : rsUp rs) (hr : r ∈ rs) (hB : Rd w B n ys)
    (hf : u + n ≤ R) (hR : R ≤ 9223372036854775807) (hn : n ≤ 1099511627776) (hd : r.dat.length ≤ 1099511627776) (hx : r.name.length ≤ maxLen) (hl : 0 ≤ left ∧ left ≤ 9223372036854775807) :
    Calls Tryz.prog 111 #[.pointer (some ⟨p, 0, none⟩), .string (tx r.name), .slice B n c] w
      (RetFile w p m rs r (r.dat ++ ys) r.saf R ((u + n : Nat) : Int) (tL armed left) (tD false armed left) (tA armed left) (.int .i64 (tE armed left))) := by
  obtain ⟨c0, c1, c2, c3, c4, c5⟩ := h.head
  have hfa := h.2.2.1 r hr
  obtain ⟨d0, d1⟩ := hfa.cells
  have i0 : IntKind.i64.wrap ((R : Int) - (u : Int)) = (R : Int) - (u : Int) := IntWalk.i64_in _ (by omega)
  have i1 : decide ((R : Int) - (u : Int) < (n : Int)) = false := by simp; omega
  have i2 : IntKind.i64.wrap ((u : Int) + (n : Int)) = (u : Int) + (n : Int) := IntWalk.i64_in _ (by omega)
  have hsep := h.2.2.2.1 r hr
  have hpf : p ≠ r.fb := fun e => hsep.1 (by rw [e]; simp [FR.bl])
  have hfA : blk r.A ≠ some r.fb := hsep.2.2
  have hfl : r.fb < w.heap.size := (Array.getElem?_eq_some_iff.1 hfa.1).1
  have hpl : p < w.heap.size := (Array.getElem?_eq_some_iff.1 h.1).1
  have hpA : blk r.A ≠ some p := fun e => hsep.1 (by simp [FR.bl, e])
  have HPA := Lib.hid hpA
  have HFA := Lib.hid hfA
  clear hpA hfA hsep
  go_enter Tryz.func111, Tryz.ntmps111
  go_wp2_with fail
  refine (find_some h hr hx).mono ?_
  rintro e w' ⟨rfl, rfl⟩
  go_wp2
  go_quiet (fail)
  obtain ⟨W, hW⟩ : ∃ W, W = w.drewN nq := ⟨_, rfl⟩
  have hD : DskR W p m rs (R : Int) (u : Int) left false armed := by rw [hW]; exact h
  have hBW : Rd W B n ys := by rw [hW]; exact hB.drewN nq
  have hFW : Fr w W (allB p m rs) := by rw [hW]; exact (Fr.refl _ _).drewN nq
  have hzW : W.heap.size = w.heap.size := by rw [hW]; rfl
  rw [← hW]
  have HZW := Lib.hid hzW
  clear hW h hB hzW c0 c1 c2 c3 c4 c5 d0 d1 hfa
  obtain ⟨c0, c1, c2, c3, c4, c5⟩ := hD.head
  have hfa := hD.2.2.1 r hr
  obtain ⟨d0, d1⟩ := hfa.cells
  have hown : OwnV 5 W 0 r.A r.dat.length r.c (r.dat.map cv) := hfa.2.1
  go_wp2_with (at_builtin; refine wpList_appV W rfl (.tmp 42) (.tmp 43) 28 rfl 0 5 _ 1 Tryz.underlying28 info_u8 rfl r.A r.dat.length r.c (r.dat.map cv) rfl hown B n c (ys.map cv) rfl hBW.toV (cv_one ys) ?_ ?_ ?_ ?_)
  · unfold maxLen; omega
  · omega
  · exact Nat.zero_le _
  intro A' c' w2 hA hg hk
  have hyl := hBW.len
  have hgs := hg.size
  have hfb2 : w2.heap[r.fb]? = some (.cells #[.slice r.A r.dat.length r.c, .int .i64 (r.saf : Int)] 117 (0, 0)) :=
    (hg.block r.fb (by have := HZW.out; omega) (fun e => HFA.out e.symm)).trans hfa.1
  have hp2 : w2.heap[p]? = some (.cells (headV m R u left false armed) 108 (0, 0)) :=
    (hg.block p (by have := HZW.out; omega) (fun e => HPA.out e.symm)).trans hD.1
  obtain ⟨r', hr'⟩ : ∃ r' : FR, r' = { r with dat := r.dat ++ ys, A := A', c := c' } := ⟨_, rfl⟩
  obtain ⟨N, hN⟩ : ∃ N, N = r.dat.length + n := ⟨_, rfl⟩
  have hlen : (r.dat ++ ys).length = N := by rw [List.length_append, hyl, hN]
  have hkA : blk A' ≠ some r.fb := fun e => by
    rcases hk with h1 | h1
    · exact HFA.out (by rw [← h1]; exact e)
    · rw [h1] at e; injection e with e; have := HZW.out; omega
  obtain ⟨w3, hw3⟩ : ∃ w3, w3 = w2.setCell ⟨r.fb, 0, none⟩ (.slice A' N c') := ⟨_, rfl⟩
  have hg3 : w2.grownBy w3 (some r.fb) := by rw [hw3]; exact ⟨rfl, rfl, rfl, by simp, fun k _ hne => heap_setCell_other w2 ⟨r.fb, 0, none⟩ k _ (fun e => hne (by rw [e]))⟩
  have hat : FileAt w3 r' := by
    refine ⟨?_, ?_, ?_⟩
    · rw [hw3, hr']
      show _ = some (Obj.cells #[.slice A' (r.dat ++ ys).length c', .int .i64 (r.saf : Int)] _ _)
      rw [heap_setCell_same _ _ _ _ _ _ hfb2, hlen]
      rfl
    · rw [hr']
      show Own 5 w3 0 A' (r.dat ++ ys).length c' (r.dat ++ ys)
      rw [hlen, hN]
      have h1 : OwnV 5 w2 0 A' (r.dat.length + n) c' ((r.dat ++ ys).map cv) := by rw [List.map_append]; exact hA
      exact OwnV.kept h1 hg3 (fun b hb e => hkA (by rw [hb]; exact e.symm))
    · rw [hr']
      show r.saf ≤ (r.dat ++ ys).length
      rw [List.length_append]
      have := hfa.2.2
      omega
  have hbl : ∀ b ∈ r'.bl, b ∈ r.bl ∨ W.heap.size ≤ b := fun b hb => by
    rw [hr'] at hb
    simp only [FR.bl, List.mem_cons, Option.mem_toList] at hb ⊢
    rcases hb with hb | hb
    · exact .inl (.inl hb)
    · rcases hk with h1 | h1
      · exact .inl (.inr (by rw [← h1]; exact hb))
      · rw [h1] at hb
        cases hb
        exact .inr (Nat.le_refl _)
  have hf3 : Fr W w3 r.bl := by
    have f1 : Fr W w2 r.bl := Fr.of_grown hg (fun b hb => by simp only [FR.bl, List.mem_cons, Option.mem_toList]; exact .inr hb)
    have f2 : Fr w2 w3 [r.fb] := Fr.of_grown hg3 (fun b hb => by cases hb; exact List.mem_singleton.2 rfl)
    exact f1.trans f2 (fun b hb => .inl (by rw [List.mem_singleton] at hb; rw [hb]; simp [FR.bl]))
  have hD3 : DskR w3 p m (putR r' rs) (R : Int) (u : Int) left false armed := hD.file hu hr (by rw [hr']) (by rw [hr']) hf3 hat hbl (by rw [hr']; exact hkA)
  obtain ⟨w4, hw4⟩ : ∃ w4, w4 = w3.setCell ⟨p, 2, none⟩ (.int .i64 ((u : Int) + (n : Int))) := ⟨_, rfl⟩
  have hD4 : DskR w4 p m (putR r' rs) (R : Int) ((u : Int) + (n : Int)) left false armed := by
    rw [hw4]
    exact hD3.turn (Fr.set w3 p 2 _) (heap_setCell_same _ _ _ _ _ _ hD3.1)
  have hF4 : Fr w w4 (allB p m rs) := by
    have f1 : Fr w w3 (allB p m rs) := hFW.trans hf3 (fun b hb => .inl (mem_file hr hb))
    have f2 : Fr w3 w4 [p] := by rw [hw4]; exact Fr.set w3 p 2 _
    exact f1.trans f2 (fun b hb => .inl (by rw [List.mem_singleton] at hb; rw [hb]; exact mem_head))
  have hmem : ∀ b ∈ allB p m (putR r' rs), b ∈ allB p m rs ∨ w.heap.size ≤ b := by
    have := mem_putR (p := p) (m := m) (w := W) hu hr hbl
    rw [HZW.out] at this
    exact this
  have d0' := cell_of_row w2 r.fb 0 _ _ _ hfb2
  have ff' := frozen_of_row w2 r.fb 0 _ _ hfb2
  have c2' : w2.cell? ⟨p, 2, none⟩ = some (.int .i64 (u : Int)) := cell_of_row w2 p 2 _ _ _ hp2
  have fp' := frozen_of_row w2 p 2 _ _ hp2
  have hnm : r'.name = r.name := by rw [hr']
  have hdt : r'.dat = r.dat ++ ys := by rw [hr']
  have hsf : r'.saf = r.saf := by rw [hr']
  have HW3 := Lib.hid hw3
  have HW4 := Lib.hid hw4
  have HN := Lib.hid hN
  have HR := Lib.hid (show r'.name = r.name ∧ r'.dat = r.dat ++ ys ∧ r'.saf = r.saf from ⟨hnm, hdt, hsf⟩)
  have HF4 := Lib.hid hF4
  have HMEM := Lib.hid hmem
  have HD4 := Lib.hid hD4
  clear hgs hfb2 hp2 hr' hlen hkA hg3 hat hbl hf3 hD3 hF4 hmem hnm hdt hsf hA hg hk hw3 hw4 hN hfa hD c0 c1 c2 c3 c4 c5 d0 d1 hown hD4 hFW
  rw [← HN.out]
  go_wp2_with fail
  rw [← HW3.out, ← HW4.out]
  have e1 : (u : Int) + (n : Int) = ((u + n : Nat) : Int) := by omega
  refine (turn_zero HD4.out hl).mono ?_
  rintro e w5 ⟨rfl, hH⟩
  have hfin : RetFile w p m rs r (r.dat ++ ys) r.saf R ((u + n : Nat) : Int) (tL armed left) (tD false armed left) (tA armed left) (.int .i64 (tE armed left)) (.returned (.int .i64 (tE armed left))) w5 := by
    refine ⟨rfl, r', HR.out.1, HR.out.2.1, HR.out.2.2, ?_, ?_, HMEM.out⟩
    · rw [← e1]
      exact HD4.out.turn hH.1 hH.2
    · exact HF4.out.trans hH.1 (fun b hb => .inl (by rw [List.mem_singleton] at hb; rw [hb]; exact mem_head))
  have HFIN := Lib.hid hfin
  clear hfin hH e1
  go_wp2
  go_ret
  exact HFIN.out
end
end Go.Proofs.YtlnpicfkcahdbaaGreat
