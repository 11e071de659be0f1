/- A filter's parts: is it in form; the iterator's making. No condition but sizes. -/
import Derived.Test.YtlnpicfkcahdbaaGreatBlB
import Derived.Deep.DeepCutAuto
import Derived.Deep.CutBlock
import Derived.BigRegion
import Derived.Deep.RegionLaw
namespace Go.Proofs.YtlnpicfkcahdbaaGreat
open Go Go.RowKit

/-- Is it a filter? -/
def goodB (fs : List UInt8) : Bool := match fs.getLast? with
  | some x => decide (2 ≤ fs.length) && (decide (1 ≤ x.toNat) && decide (x.toNat ≤ 30))
  | none => false
theorem goodB_at {fs : List UInt8} {x : UInt8} {n : Nat} (hl : fs.length = n) (hx : fs[n - 1]? = some x) : goodB fs = (decide (2 ≤ n) && (decide (1 ≤ x.toNat) && decide (x.toNat ≤ 30))) := by
  unfold goodB
  rw [List.getLast?_eq_getElem?, hl, hx]
theorem goodB_short {fs : List UInt8} (h : fs.length < 2) : goodB fs = false := by
  unfold goodB
  cases fs.getLast? with
  | none => rfl
  | some x => simp; omega
def RetBo (w : World) (b : Bool) (e : Ending) (w' : World) : Prop := e = .returned (.bool b) ∧ w' = w
set_option maxRecDepth 100000 in
set_option maxHeartbeats 2000000 in
theorem inForm9_any (A : Option Addr) (n c : Nat) (fs : List UInt8) (w : World) (h : Rd w A n fs) (hn : n ≤ 140737488351232) :
    Calls Tryz.prog 59 #[.slice A n c] w (RetBo w (goodB fs)) := by
  have HL := Lib.hid h.len
  by_cases h2 : 2 ≤ n
  · obtain ⟨b, off, rfl, _⟩ := h.pos (by omega)
    obtain ⟨x, hx1, hx2, hx3⟩ := h.at_ (n - 1) (by omega)
    have HG := Lib.hid (goodB_at HL.out hx1)
    have e1 : IntKind.i64.wrap ((n : Int) - 1) = ((n - 1 : Nat) : Int) := by rw [IntWalk.i64_in _ (by omega)]; omega
    have t1 : decide ((1 : Int) ≤ ((n - 1 : Nat) : Int)) = true := by simp; omega
    have hlt : n - 1 < n := by omega
    clear hx1 h
    by_cases h1 : 1 ≤ x.toNat
    · have e2 : decide ((1 : Int) ≤ (x.toNat : Int)) = true := by simp; omega
      by_cases h30 : x.toNat ≤ 30
      · have e3 : decide ((x.toNat : Int) ≤ 30) = true := by simp; omega
        have HGT : Hid (goodB fs = true) := Lib.hid (by rw [HG.out]; simp [h2, h1, h30])
        clear h1 h30
        go_enter Tryz.func59, Tryz.ntmps59
        go_wp2_with fail
        go_ret
        exact ⟨by rw [HGT.out]; rfl, rfl⟩
      · have e3 : decide ((x.toNat : Int) ≤ 30) = false := by simp; omega
        have HGT : Hid (goodB fs = false) := Lib.hid (by rw [HG.out]; simp [h30])
        clear h1 h30
        go_enter Tryz.func59, Tryz.ntmps59
        go_wp2_with fail
        go_ret
        exact ⟨by rw [HGT.out]; rfl, rfl⟩
    · have e2 : decide ((1 : Int) ≤ (x.toNat : Int)) = false := by simp; omega
      have HGT : Hid (goodB fs = false) := Lib.hid (by rw [HG.out]; simp [h1])
      clear h1
      go_enter Tryz.func59, Tryz.ntmps59
      go_wp2_with fail
      go_ret
      exact ⟨by rw [HGT.out]; rfl, rfl⟩
  · have HG := Lib.hid (goodB_short (fs := fs) (by rw [HL.out]; omega))
    clear h
    go_enter Tryz.func59, Tryz.ntmps59
    go_wp2
    go_ret
    exact ⟨by rw [HG.out]; rfl, rfl⟩
/-- What the iterator's making comes to: a closure over three boxes. -/
def RetIt (w : World) (K : Option Addr) (kn kc m k : Nat) (e : Ending) (w' : World) : Prop :=
  ∃ bk bh g, e = .returned (.func (.func 123) #[] #[.pointer (some ⟨bk, 0, none⟩), .pointer (some ⟨bh, 0, none⟩), .pointer (some ⟨g, 0, none⟩)]) ∧
    w'.cell? ⟨bk, 0, none⟩ = some (.slice K kn kc) ∧ w'.cell? ⟨bh, 0, none⟩ = some (.int .u8 (k : Int)) ∧ w'.cell? ⟨g, 0, none⟩ = some (.int .u64 (m : Int)) ∧ w.heap.size ≤ g ∧ Below w.heap.size w w'
theorem RetIt.out {w : World} {K : Option Addr} {kn kc m k : Nat} {e : Ending} {w' : World} (h : RetIt w K kn kc m k e w') : ∃ bk bh g, e = .returned (.func (.func 123) #[] #[.pointer (some ⟨bk, 0, none⟩), .pointer (some ⟨bh, 0, none⟩), .pointer (some ⟨g, 0, none⟩)]) ∧
    w'.cell? ⟨bk, 0, none⟩ = some (.slice K kn kc) ∧ w'.cell? ⟨bh, 0, none⟩ = some (.int .u8 (k : Int)) ∧ w'.cell? ⟨g, 0, none⟩ = some (.int .u64 (m : Int)) ∧ w.heap.size ≤ g ∧ Below w.heap.size w w' := h
set_option maxRecDepth 100000 in
set_option maxHeartbeats 4000000 in
theorem bitsOf_any (A : Option Addr) (n c : Nat) (fs : List UInt8) (K : Option Addr) (kn kc : Nat) (w : World) (h : Rd w A n fs) (h1 : 1 ≤ n) (hn : n ≤ 140737488351232) (x : UInt8) (hx : fs[n - 1]? = some x) :
    Calls Tryz.prog 58 #[.slice A n c, .slice K kn kc] w (RetIt w K kn kc (8 * (n - 1)) x.toNat) := by
  obtain ⟨b, off, rfl, hbl⟩ := h.pos (by omega)
  obtain ⟨y, hy1, hy2, hy3⟩ := h.at_ (n - 1) (by omega)
  obtain rfl : y = x := by rw [hx] at hy1; injection hy1 with hy1; exact hy1.symm
  have e1 : IntKind.i64.wrap ((n : Int) - 1) = ((n - 1 : Nat) : Int) := by rw [IntWalk.i64_in _ (by omega)]; omega
  have e2 : IntKind.u64.wrap ((n - 1 : Nat) : Int) = ((n - 1 : Nat) : Int) := by rw [IntKind.wrap_u64]; omega
  have e3 : IntKind.u64.wrap (8 * ((n - 1 : Nat) : Int)) = ((8 * (n - 1) : Nat) : Int) := by rw [IntKind.wrap_u64]; omega
  have hlt : n - 1 < n := by omega
  clear h hx hy1
  go_enter Tryz.func58, Tryz.ntmps58
  go_upto_region 2 with (fail)
  obtain ⟨W, hW⟩ : ∃ W, W = w.alloc (.cells #[.slice K kn kc] 28) := ⟨_, rfl⟩
  rw [← hW]
  have bW : Below w.heap.size w W := by rw [hW]; exact (Below.refl _ _).alloc (Nat.le_refl _) _
  have cW : W.cell? ⟨b, off + (n - 1), none⟩ = some (.int .u8 (y.toNat : Int)) := (bW.cell (p := ⟨b, off + (n - 1), none⟩) hbl).trans hy2
  have kW : Cl W w.heap.size #[.slice K kn kc] 28 := by rw [hW]; exact Cl.new _ _ _
  have hbW : b < W.heap.size := Nat.lt_of_lt_of_le hbl bW.size
  have c1 : ∀ o, (W.alloc o).cell? ⟨b, off + (n - 1), none⟩ = some (.int .u8 (y.toNat : Int)) := fun o => (((Below.refl _ _).alloc (Nat.le_refl _) o).cell (p := ⟨b, off + (n - 1), none⟩) hbW).trans cW
  have c2 : ∀ o o', ((W.alloc o).alloc o').cell? ⟨b, off + (n - 1), none⟩ = some (.int .u8 (y.toNat : Int)) := fun o o' => ((((Below.refl _ _).alloc (Nat.le_refl _) o).alloc (by simp) o').cell (p := ⟨b, off + (n - 1), none⟩) hbW).trans cW
  have BW := Lib.hid bW
  have KW := Lib.hid kW
  have sW : W.heap.size = w.heap.size + 1 := by rw [hW]; simp
  clear hW bW kW hy2 hbl
  go_region
  · have HF : Hid (RetIt w K kn kc (8 * (n - 1)) y.toNat (.returned (.func (.func 123) #[] #[.pointer (some ⟨w.heap.size, 0, none⟩), .pointer (some ⟨w.heap.size + 1 + 1, 0, none⟩), .pointer (some ⟨w.heap.size + 1, 0, none⟩)])) ((W.alloc (.cells #[.int .u64 (8 * ((n - 1 : Nat) : Int))] 29)).alloc (.cells #[.int .u8 (y.toNat : Int)] 5)).drew) := Lib.hid (by
      refine ⟨_, _, _, rfl, ?_, ?_, ?_, by omega, ((BW.out.alloc (by omega) _).alloc (by simp; omega) _).drew⟩
      · exact ((KW.out.alloc _).alloc _).cell 0
      · exact (Cl.newg _ #[.int .u8 (y.toNat : Int)] 5 _ (by simp; omega)).cell 0
      · have := ((Cl.newg W #[.int .u64 (8 * ((n - 1 : Nat) : Int))] 29 (w.heap.size + 1) sW.symm).alloc (.cells #[.int .u8 (y.toNat : Int)] 5)).cell 0
        rw [show ((8 * (n - 1) : Nat) : Int) = 8 * ((n - 1 : Nat) : Int) by omega]
        exact this)
    clear c1 c2 cW
    go_wp2
    go_ret
    exact HF.out
  · have HF : Hid (RetIt w K kn kc (8 * (n - 1)) y.toNat (.returned (.func (.func 123) #[] #[.pointer (some ⟨w.heap.size, 0, none⟩), .pointer (some ⟨w.heap.size + 1, 0, none⟩), .pointer (some ⟨w.heap.size + 1 + 1, 0, none⟩)])) ((W.alloc (.cells #[.int .u8 (y.toNat : Int)] 5)).alloc (.cells #[.int .u64 (8 * ((n - 1 : Nat) : Int))] 29)).drew) := Lib.hid (by
      refine ⟨_, _, _, rfl, ?_, ?_, ?_, by omega, ((BW.out.alloc (by omega) _).alloc (by simp; omega) _).drew⟩
      · exact ((KW.out.alloc _).alloc _).cell 0
      · exact ((Cl.newg W #[.int .u8 (y.toNat : Int)] 5 (w.heap.size + 1) sW.symm).alloc (.cells #[.int .u64 (8 * ((n - 1 : Nat) : Int))] 29)).cell 0
      · have := (Cl.newg (W.alloc (.cells #[.int .u8 (y.toNat : Int)] 5)) #[.int .u64 (8 * ((n - 1 : Nat) : Int))] 29 (w.heap.size + 1 + 1) (by simp; omega)).cell 0
        rw [show ((8 * (n - 1) : Nat) : Int) = 8 * ((n - 1 : Nat) : Int) by omega]
        exact this)
    clear c1 c2 cW
    go_wp2
    go_ret
    exact HF.out
end Go.Proofs.YtlnpicfkcahdbaaGreat
