/- The reference's disk: find, Used. No condition but sizes. -/
import Derived.Test.YtjpnfhfeabdhiaaRfA
import Derived.Deep.QuietTactic
import Derived.BigQuiet
import Derived.Laws.Cover1
import Derived.Sort.Walk0
namespace Go.Proofs.Ytjpnfhfeabdhiaa
open Go Go.RowKit Go.Maps
variable {G : Nat → Prop}

/-- The value of a reference's disk. -/
def dv (A : Option Addr) (n c : Nat) (room : Nat) (arm : Int) (dead : Bool) : Value := .agg #[.slice A n c, .int .i64 (room : Int), .int .i64 arm, .bool dead]

theorem gtr_tx (a b : List UInt8) (w : World) : (binOp .gtr 9 (.string (tx a)) (.string (tx b))).run Try.prog w = .ok (.bool (decide (b < a))) w := by
  have e : (!(decide (a < b) || a == b)) = decide (b < a) := by
    by_cases h : a = b
    · subst h
      simp [nlt_irrefl]
    · by_cases h2 : a < b
      · have h3 : ¬ b < a := fun h3 => nlt_irrefl _ (nlt_trans h2 h3)
        simp [h2, h3]
      · have h3 := nlt_tri h h2
        simp [h, h2, h3]
  rw [binOp_string_gtr, bytesLess_eq, txl, txl, e]
  rfl
theorem pos_at {x : List UInt8} {fs : List FE} {k : Nat} {f : FE} (hu : risingF fs) (hf : fs[k]? = some f) (hk : k = posF x fs) : (f.1 = x ∧ hasF x fs = true) ∨ (f.1 ≠ x ∧ x < f.1 ∧ hasF x fs = false) := by
  subst hk
  rcases (pos_spec (x := x) hu).2.1 f hf with ⟨h1, h2⟩ | ⟨h1, h2, h3⟩
  · exact .inl ⟨h1, by rw [hasF, h2]; rfl⟩
  · exact .inr ⟨h1, h2, by rw [hasF, h3]; rfl⟩

def RetFd (w : World) (i : Nat) (b : Bool) (e : Ending) (w' : World) : Prop := e = .returned (.tuple #[.int .i64 (i : Int), .bool b]) ∧ Below w.heap.size w w'
theorem retFd_mk {w w' : World} {i j : Nat} {b b' : Bool} (hi : i = j) (hb : b' = b) (h : Below w.heap.size w w') : RetFd w i b' (.returned (.tuple #[.int .i64 (j : Int), .bool b])) w' := by
  subst hi hb
  exact ⟨rfl, h⟩

set_option maxRecDepth 100000 in
set_option maxHeartbeats 2000000 in
theorem rfind_any (A : Option Addr) (n c : Nat) (room : Nat) (arm : Int) (dead : Bool) (x : List UInt8) (fs : List FE) (w : World) (h : RFs G w A n fs) (hu : risingF fs) (hn : n ≤ 1099511627776) :
    Calls Try.prog 127 #[.agg #[.slice A n c, .int .i64 (room : Int), .int .i64 arm, .bool dead], .string (tx x)] w (RetFd w (posF x fs) (hasF x fs)) := by
  obtain ⟨p1, p2, p3⟩ := pos_spec (x := x) hu
  have P1 := Lib.hid p1
  have P2 := Lib.hid p2
  have P3 := Lib.hid p3
  have HL := Lib.hid h.len
  have pl := posF_le x fs
  rw [HL.out] at pl
  have HU := Lib.hid hu
  clear p1 p2 p3 hu
  go_enter Try.func127, Try.ntmps127
  go_wp2
  obtain ⟨W, hW⟩ : ∃ W, W = w.alloc (.cells #[.slice A n c, .int .i64 (room : Int), .int .i64 arm, .bool dead] 36) := ⟨_, rfl⟩
  have hb : Below w.heap.size w W := by rw [hW]; exact (Below.refl _ _).alloc (Nat.le_refl _) _
  have hc0 : W.cell? ⟨w.heap.size, 0, none⟩ = some (.slice A n c) := by rw [hW]; exact cell_of_row _ _ 0 _ _ _ (heap_alloc_new w _)
  rw [← hW]
  have hW2 := h.below hb
  have HB := Lib.hid hb
  clear hW hb h
  go_loopw [6] (fun s wr => ∃ k : Nat, k ≤ posF x fs ∧ s = .int .i64 (k : Int) ∧ W = wr) (fun s _ => n - (intOf s).toNat)
  case atStart => exact ⟨0, Nat.zero_le _, rfl, rfl⟩
  case round =>
    obtain ⟨k, hk, rfl, rfl⟩ := hrel
    by_cases hlt : k < n
    · obtain ⟨b, off, f, S, sn, sc, T, tn, tc, rfl, hbl, hf, hsl, c0, c1, c2, _⟩ := hW2.at_ k hlt
      by_cases hkp : k < posF x fs
      · obtain ⟨n1, n2⟩ := P1.out k f hkp hf
        have t1 := tx_ne n1
        have t2 : Op.bytesLess (tx f.1).toList (tx x).toList = true := by
          rw [bytesLess_eq, txl, txl]
          simpa using nlt_tri (fun e => n1 e.symm) n2
        clear hf n1 n2
        go_wp2_with fail
        go_roundw
        case rel => exact ⟨k + 1, by omega, by go_num, trivial⟩
        case measure => simp [intOf]; omega
      · obtain rfl : k = posF x fs := by omega
        rcases pos_at HU.out hf rfl with ⟨h1, h2⟩ | ⟨h1, h2, h3⟩
        · have H2 := Lib.hid h2
          clear h2
          subst h1
          have t1 : ((tx f.1).toList == (tx f.1).toList) = true := by simp
          clear hf
          go_wp2_with fail
          go_ret2
          exact retFd_mk rfl H2.out HB.out
        · have H3 := Lib.hid h3
          clear h3
          have t1 := tx_ne h1
          have t2 : Op.bytesLess (tx f.1).toList (tx x).toList = false := by
            rw [bytesLess_eq, txl, txl]
            simpa using fun h3 => nlt_irrefl _ (nlt_trans h2 h3)
          clear hf h1 h2
          go_wp2_with fail
          go_ret2
          exact retFd_mk rfl H3.out HB.out
    · have e1 : k = posF x fs := by omega
      have e2 : posF x fs = n := by omega
      have e3 : hasF x fs = false := by
        rw [hasF, P3.out (by rw [List.getElem?_eq_none (by have := HL.out; omega)])]
        rfl
      have E2 := Lib.hid e2
      have E3 := Lib.hid e3
      clear e1 e2 e3 P1 P2 P3
      go_wp2_with fail
      go_ret2
      exact retFd_mk E2.out E3.out HB.out
end Go.Proofs.Ytjpnfhfeabdhiaa
