/- DiskTwins: a disk's twin goes its own way from there, and so does the disk, each as the document's disk does: of every input whose values are at most 1048576 in all, the call returns true. -/
import Derived.Test.YtjpnfhfeabdhiaaRfC
import Derived.Deep.DeepCutAuto
import Derived.Deep.RegionWith
import Derived.Test.YtjpnfhfeabdhiaaStepA
import Derived.Deep.RegionLaw
import Derived.Deep.CutBlock
import Derived.Laws.Cover1
import Derived.Test.YtjpnfhfeabdhiaaDskZ
import Derived.Test.YtjpnfhfeabdhiaaAwake4
import Derived.Test.YtjpnfhfeabdhiaaKept
import Derived.Deep.RegionHeld3
import Derived.Lib.SmallJoins
import Derived.Test.YtjpnfhfeabdhiaaOpenF
import Derived.Test.YtjpnfhfeabdhiaaOpenV
import Derived.Test.YtjpnfhfeabdhiaaNext
import Derived.Test.YtjpnfhfeabdhiaaDskY
import Derived.Test.YtjpnfhfeabdhiaaRows
import Derived.Test.YtjpnfhfeabdhiaaOpen
import Derived.ProofKit
import Derived.OpenShut
import Derived.ShutString
import Derived.ChangeOld
import Derived.SizedLaws
import Derived.JoinedCond
import Derived.Deep.CondSized
import Derived.Deep.Matrix
import Derived.Test.YtjpnfhfeabdhiaaBulk
namespace Go.Proofs.Ytjpnfhfeabdhiaa
open Go Go.RowKit Go.Maps
variable {G : Nat → Prop}

def RetMay (w : World) (F : Value) (room arm : Int) (dead done : Bool) (e : Int) (kill : Bool) (en : Ending) (w' : World) : Prop :=
  en = .returned (.tuple #[.agg #[F, .int .i64 room, .int .i64 arm, .bool dead], .bool done, .int .i64 e, .bool kill]) ∧ Below w.heap.size w w'
section
variable {w : World} {A : Option Addr} {n c : Nat} {room : Nat} {arm e : Int}
set_option maxRecDepth 100000 in
set_option maxHeartbeats 2000000 in
theorem may_dead : Calls Try.prog 102 #[.agg #[.slice A n c, .int .i64 (room : Int), .int .i64 arm, .bool true], .int .i64 e] w (RetMay w (.slice A n c) room arm true false 9 false) := by
  go_enter Try.func102, Try.ntmps102
  go_wp2
  go_returns
  exact ⟨rfl, ((Below.refl _ _).alloc (Nat.le_refl _) _).alloc (by simp) _⟩
theorem may_err (he : e ≠ 0) : Calls Try.prog 102 #[.agg #[.slice A n c, .int .i64 (room : Int), .int .i64 arm, .bool false], .int .i64 e] w (RetMay w (.slice A n c) room arm false false e false) := by
  have t1 : (e != 0) = true := by simpa using he
  go_enter Try.func102, Try.ntmps102
  go_wp2
  go_returns
  exact ⟨rfl, ((Below.refl _ _).alloc (Nat.le_refl _) _).alloc (by simp) _⟩
theorem may_kill : Calls Try.prog 102 #[.agg #[.slice A n c, .int .i64 (room : Int), .int .i64 0, .bool false], .int .i64 0] w (RetMay w (.slice A n c) room 0 true false 9 true) := by
  go_enter Try.func102, Try.ntmps102
  go_wp2
  go_returns
  exact ⟨rfl, ((Below.refl _ _).alloc (Nat.le_refl _) _).alloc (by simp) _⟩
theorem may_ok (h0 : arm ≠ 0) (ha : -1 ≤ arm ∧ arm ≤ 9223372036854775807) : Calls Try.prog 102 #[.agg #[.slice A n c, .int .i64 (room : Int), .int .i64 arm, .bool false], .int .i64 0] w (RetMay w (.slice A n c) room (armN arm) false true 0 false) := by
  have t1 : (arm == 0) = false := by simpa using h0
  by_cases hp : 0 < arm
  · have t2 : decide (0 < arm) = true := by simpa using hp
    have e1 : armN arm = arm - 1 := by rw [armN, if_pos hp]
    rw [e1]
    go_enter Try.func102, Try.ntmps102
    go_wp2
    go_returns
    exact ⟨rfl, ((Below.refl _ _).alloc (Nat.le_refl _) _).alloc (by simp) _⟩
  · have t2 : decide (0 < arm) = false := by simpa using hp
    have e1 : armN arm = arm := by rw [armN, if_neg hp]
    rw [e1]
    go_enter Try.func102, Try.ntmps102
    go_wp2
    go_returns
    exact ⟨rfl, ((Below.refl _ _).alloc (Nat.le_refl _) _).alloc (by simp) _⟩
/-- Three cells of a block, stored one behind the other. -/
theorem set3 {w X : World} {g : Nat} {u0 u1 u2 v0 v1 v2 : Value} (k0 : w.cell? ⟨g, 0, none⟩ = some u0) (k1 : w.cell? ⟨g, 1, none⟩ = some u1) (k2 : w.cell? ⟨g, 2, none⟩ = some u2)
    (hX : X = ((w.setCell ⟨g, 0, none⟩ v0).setCell ⟨g, 1, none⟩ v1).setCell ⟨g, 2, none⟩ v2) : X.cell? ⟨g, 0, none⟩ = some v0 ∧ X.cell? ⟨g, 1, none⟩ = some v1 ∧ X.cell? ⟨g, 2, none⟩ = some v2 := by
  have o : ∀ (w : World) (i j : Nat) (v : Value), i ≠ j → (w.setCell ⟨g, i, none⟩ v).cell? ⟨g, j, none⟩ = w.cell? ⟨g, j, none⟩ := fun w i j v h => by
    apply World.cell?_setCell_other
    simp only [ne_eq, Addr.mk.injEq, true_and, and_true]
    exact h
  have e : ∀ (w : World) (i : Nat) (u v : Value), w.cell? ⟨g, i, none⟩ = some u → (w.setCell ⟨g, i, none⟩ v).cell? ⟨g, i, none⟩ = some v := fun w i u v h => by
    apply World.cell?_setCell_same
    exact h
  subst hX
  refine ⟨?_, ?_, ?_⟩
  · rw [o _ _ _ _ (by decide), o _ _ _ _ (by decide)]
    exact e _ _ _ _ k0
  · rw [o _ _ _ _ (by decide)]
    exact e _ _ u1 _ (by rw [o _ _ _ _ (by decide)]; exact k1)
  · exact e _ _ u2 _ (by rw [o _ _ _ _ (by decide), o _ _ _ _ (by decide)]; exact k2)
def RetAg (w : World) (v : Value) (en : Ending) (w' : World) : Prop := en = .returned v ∧ Below w.heap.size w w'
theorem rarm_any (dead : Bool) (z : Int) (_hz : I64 z) : Calls Try.prog 70 #[.agg #[.slice A n c, .int .i64 (room : Int), .int .i64 arm, .bool dead], .int .i64 z] w
    (RetAg w (.agg #[.slice A n c, .int .i64 (room : Int), .int .i64 (if dead = true then arm else if z < 0 then -1 else z), .bool dead])) := by
  cases dead with
  | true =>
    rw [if_pos rfl]
    go_enter Try.func70, Try.ntmps70
    go_wp2
    go_returns
    exact ⟨rfl, ((Below.refl _ _).alloc (Nat.le_refl _) _).alloc (by simp) _⟩
  | false =>
    rw [if_neg (by decide)]
    by_cases hp : z < 0
    · have t2 : decide (z < 0) = true := by simpa using hp
      rw [if_pos hp]
      go_enter Try.func70, Try.ntmps70
      go_wp2
      go_returns
      exact ⟨rfl, ((Below.refl _ _).alloc (Nat.le_refl _) _).alloc (by simp) _⟩
    · have t2 : decide (z < 0) = false := by simpa using hp
      rw [if_neg hp]
      go_enter Try.func70, Try.ntmps70
      go_wp2
      go_returns
      exact ⟨rfl, ((Below.refl _ _).alloc (Nat.le_refl _) _).alloc (by simp) _⟩
/-- What get hands back: the file, or one of that name alone. -/
def RetGet (G : Nat → Prop) (w : World) (x : List UInt8) (g : Option (List UInt8 × Nat)) (en : Ending) (w' : World) : Prop :=
  ∃ v0 v1 v2, en = .returned (.tuple #[.agg #[v0, v1, v2], .bool g.isSome]) ∧ FV G w' (x, (g.getD ([], 0)).1, (g.getD ([], 0)).2) v0 v1 v2 ∧ Below w.heap.size w w'
set_option maxRecDepth 100000 in
set_option maxHeartbeats 2000000 in
theorem get_any (dead : Bool) (x : List UInt8) (fs : List FE) (h : RFs G w A n fs) (hu : risingF fs) (hn : n ≤ 1099511627776) :
    Calls Try.prog 103 #[.agg #[.slice A n c, .int .i64 (room : Int), .int .i64 arm, .bool dead], .string (tx x)] w (RetGet G w x (getF x fs)) := by
  have HL := Lib.hid h.len
  have hpl := posF_le x fs
  go_enter Try.func103, Try.ntmps103
  go_wp2_with fail
  obtain ⟨W, hW⟩ : ∃ W, W = (w.alloc (.cells #[.slice A n c, .int .i64 (room : Int), .int .i64 arm, .bool dead] 36)).alloc (.cells #[.string ⟨#[]⟩, .slice none 0 0, .slice none 0 0] 153) := ⟨_, rfl⟩
  rw [← hW]
  have bW : Below w.heap.size w W := by rw [hW]; exact ((Below.refl _ _).alloc (Nat.le_refl _) _).alloc (by simp) _
  have sW : W.heap.size = w.heap.size + 2 := by rw [hW]; simp
  have cW : W.cell? ⟨w.heap.size, 0, none⟩ = some (.slice A n c) := by rw [hW]; simp
  have fW : ∀ i, W.frozen? ⟨w.heap.size + 1, i, none⟩ = false := fun i => by
    rw [hW]
    exact frozen_of_row _ _ i _ _ (by have := heap_alloc_new (w.alloc (.cells #[.slice A n c, .int .i64 (room : Int), .int .i64 arm, .bool dead] 36)) (.cells #[.string ⟨#[]⟩, .slice none 0 0, .slice none 0 0] 153); simpa using this)
  have gW : ∀ i, i < 3 → ∃ v, W.cell? ⟨w.heap.size + 1, i, none⟩ = some v := fun i hi => by
    rw [hW]
    have := cell_of_row _ _ i _ _ _ (heap_alloc_new (w.alloc (.cells #[.slice A n c, .int .i64 (room : Int), .int .i64 arm, .bool dead] 36)) (.cells #[.string ⟨#[]⟩, .slice none 0 0, .slice none 0 0] 153))
    simp only [World.size_alloc] at this
    rw [this]
    match i, hi with
    | 0, _ => exact ⟨_, rfl⟩
    | 1, _ => exact ⟨_, rfl⟩
    | 2, _ => exact ⟨_, rfl⟩
  have HBW := Lib.hid bW
  have hWf := h.below bW
  have HH := Lib.hid h
  have HSW : w.heap.size + 2 ≤ W.heap.size := by omega
  clear hW h bW sW
  refine (rfind_any A n c room arm dead x fs W hWf hu hn).mono ?_
  rintro e w1 ⟨rfl, hb1⟩
  have r1 := hWf.below hb1
  have c1 := (hb1.cell (p := ⟨w.heap.size, 0, none⟩) (by simp only; omega)).trans cW
  have f0 := (hb1.frozen (p := ⟨w.heap.size + 1, 0, none⟩) (by simp only; omega)).trans (fW 0)
  have f1 := (hb1.frozen (p := ⟨w.heap.size + 1, 1, none⟩) (by simp only; omega)).trans (fW 1)
  have f2 := (hb1.frozen (p := ⟨w.heap.size + 1, 2, none⟩) (by simp only; omega)).trans (fW 2)
  obtain ⟨u0, g0⟩ := gW 0 (by omega)
  obtain ⟨u1, g1⟩ := gW 1 (by omega)
  obtain ⟨u2, g2⟩ := gW 2 (by omega)
  have k0 := (hb1.cell (p := ⟨w.heap.size + 1, 0, none⟩) (by simp only; omega)).trans g0
  have k1 := (hb1.cell (p := ⟨w.heap.size + 1, 1, none⟩) (by simp only; omega)).trans g1
  have k2 := (hb1.cell (p := ⟨w.heap.size + 1, 2, none⟩) (by simp only; omega)).trans g2
  have b1 := HBW.out.trans (hb1.mono (by omega))
  have s1 := hb1.size
  have HB1 := Lib.hid b1
  clear hWf hb1 cW fW gW g0 g1 g2 b1
  cases hg : getF x fs with
  | none =>
    have hh : hasF x fs = false := by rw [hasF, hg]; rfl
    rw [hh]
    have HG := Lib.hid hg
    clear hh hg
    go_wp2_with fail
    obtain ⟨X, hX⟩ : ∃ X, X = ((w1.setCell ⟨w.heap.size + 1, 0, none⟩ (.string (tx x))).setCell ⟨w.heap.size + 1, 1, none⟩ (.slice none 0 0)).setCell ⟨w.heap.size + 1, 2, none⟩ (.slice none 0 0) := ⟨_, rfl⟩
    rw [← hX]
    obtain ⟨x0, x1, x2⟩ := set3 k0 k1 k2 hX
    have hbX : Below w.heap.size w X := by rw [hX]; exact ((HB1.out.setCell (by simp) _).setCell (by simp) _).setCell (by simp) _
    refine bodyPost_ret (v := .tuple #[.agg #[.string (tx x), .slice none 0 0, .slice none 0 0], .bool false]) (by simp [results, Try.results103, go_sem, x0, x1, x2]; try rfl) rfl ?_
    rw [HG.out]
    exact ⟨_, _, _, rfl, ⟨rfl, Nat.le_refl _, none, 0, 0, none, 0, 0, rfl, rfl, Rd.nil _ _, Rd.nil _ _, Nat.le_refl _, Nat.le_refl _, Gd.zero, Gd.zero⟩, hbX⟩
  | some g =>
    have hh : hasF x fs = true := by rw [hasF, hg]; rfl
    have hp : posF x fs < n := by
      apply Nat.lt_of_not_le
      intro hle
      rw [(pos_spec (x := x) hu).2.2 (List.getElem?_eq_none (by have := HL.out; omega))] at hg
      cases hg
    obtain ⟨b, off, f, S, sn, sc, T, tn, tc, rfl, hbl, hf, hsl, d0, d1, d2, q1, q2, q3, q4⟩ := HH.out.at_ (posF x fs) hp
    replace d0 := (HB1.out.cell (p := ⟨b, off + posF x fs * 3, none⟩) hbl).trans d0
    replace d1 := (HB1.out.cell (p := ⟨b, off + (posF x fs * 3 + 1), none⟩) hbl).trans d1
    replace d2 := (HB1.out.cell (p := ⟨b, off + (posF x fs * 3 + 2), none⟩) hbl).trans d2
    have HF : Hid (FV G w (f.1, f.2.1, f.2.2) (.string (tx f.1)) (.slice S sn sc) (.slice T tn tc)) := Lib.hid ⟨rfl, hsl, S, sn, sc, T, tn, tc, rfl, rfl, q1, q2, q3, q4⟩
    have hfe : f.1 = x ∧ f.2 = g := by
      rcases (pos_spec (x := x) hu).2.1 f hf with ⟨h1, h2⟩ | ⟨_, _, h3⟩
      · rw [hg] at h2; injection h2 with h2; exact ⟨h1, h2.symm⟩
      · rw [hg] at h3; cases h3
    obtain ⟨rfl, rfl⟩ := hfe
    rw [← Nat.add_assoc] at d1 d2
    rw [hh]
    have HG := Lib.hid hg
    clear hh hf q1 q2 q3 q4 hg
    go_wp2_with fail
    obtain ⟨X, hX⟩ : ∃ X, X = ((w1.setCell ⟨w.heap.size + 1, 0, none⟩ (.string (tx f.1))).setCell ⟨w.heap.size + 1, 1, none⟩ (.slice S sn sc)).setCell ⟨w.heap.size + 1, 2, none⟩ (.slice T tn tc) := ⟨_, rfl⟩
    rw [← hX]
    obtain ⟨x0, x1, x2⟩ := set3 k0 k1 k2 hX
    have hbX : Below w.heap.size w X := by rw [hX]; exact ((HB1.out.setCell (by simp) _).setCell (by simp) _).setCell (by simp) _
    refine bodyPost_ret (v := .tuple #[.agg #[.string (tx f.1), .slice S sn sc, .slice T tn tc], .bool true]) (by simp [results, Try.results103, go_sem, x0, x1, x2]; try rfl) rfl ?_
    rw [HG.out]
    exact ⟨_, _, _, rfl, HF.out.below hbX, hbX⟩
end
end Go.Proofs.Ytjpnfhfeabdhiaa
namespace Go.Proofs.Ytjpnfhfeabdhiaa
open Go Go.RowKit Go.Maps
variable {G : Nat → Prop}

/-- 'Block g holds these cells.' -/
def Bk (w : World) (g : Nat) (vs : Array Value) (t : TypeId) : Prop := w.heap[g]? = some (.cells vs t (0, 0))
section
variable {w w' : World} {g : Nat} {vs : Array Value} {t : TypeId}
theorem Bk.cell (h : Bk w g vs t) (i : Nat) : w.cell? ⟨g, i, none⟩ = vs[i]? := cell_of_row w g i vs t (0, 0) h
theorem Bk.thaw (h : Bk w g vs t) (i : Nat) : w.frozen? ⟨g, i, none⟩ = false := frozen_of_row w g i _ _ h
theorem Bk.lt (h : Bk w g vs t) : g < w.heap.size := (Array.getElem?_eq_some_iff.1 h).1
theorem Bk.below (h : Bk w g vs t) (hb : Below w.heap.size w w') : Bk w' g vs t := (hb.block g h.lt).trans h
theorem Bk.base {B : Nat} (h : Bk w g vs t) (hb : Below B w w') (hB : g < B) : Bk w' g vs t := (hb.block g hB).trans h
theorem Bk.new (w : World) (vs : Array Value) (t : TypeId) : Bk (w.alloc (.cells vs t)) w.heap.size vs t := heap_alloc_new w _
theorem Bk.set (h : Bk w g vs t) (i : Nat) (v : Value) : Bk (w.setCell ⟨g, i, none⟩ v) g (vs.setIfInBounds i v) t := heap_setCell_same _ _ _ _ _ _ h
theorem Bk.off (h : Bk w g vs t) {k : Nat} (i : Nat) (v : Value) (hk : k ≠ g) : Bk (w.setCell ⟨k, i, none⟩ v) g vs t := by
  unfold Bk
  rw [heap_setCell_other _ _ _ _ (by simpa using fun e => hk e.symm)]
  exact h
end
theorem fr_set4 (w : World) (g : Nat) (v0 v1 v2 v3 : Value) : Fr w ((((w.setCell ⟨g, 0, none⟩ v0).setCell ⟨g, 1, none⟩ v1).setCell ⟨g, 2, none⟩ v2).setCell ⟨g, 3, none⟩ v3) [g] := by
  have k : ∀ b ∈ [g], b ∈ [g] ∨ w.heap.size ≤ b := fun b hb => .inl hb
  exact (((Fr.set w g 0 v0).trans (Fr.set _ g 1 v1) k).trans (Fr.set _ g 2 v2) k).trans (Fr.set _ g 3 v3) k
theorem Bk.four {w : World} {g : Nat} {a b c d : Value} {t : TypeId} (h : Bk w g #[a, b, c, d] t) : w.cell? ⟨g, 0, none⟩ = some a ∧ w.cell? ⟨g, 1, none⟩ = some b ∧ w.cell? ⟨g, 2, none⟩ = some c ∧ w.cell? ⟨g, 3, none⟩ = some d ∧
    w.frozen? ⟨g, 0, none⟩ = false ∧ w.frozen? ⟨g, 1, none⟩ = false ∧ w.frozen? ⟨g, 2, none⟩ = false ∧ w.frozen? ⟨g, 3, none⟩ = false :=
  ⟨h.cell 0, h.cell 1, h.cell 2, h.cell 3, h.thaw 0, h.thaw 1, h.thaw 2, h.thaw 3⟩
theorem Bk.three {w : World} {g : Nat} {a b c : Value} {t : TypeId} (h : Bk w g #[a, b, c] t) : w.cell? ⟨g, 0, none⟩ = some a ∧ w.cell? ⟨g, 1, none⟩ = some b ∧ w.cell? ⟨g, 2, none⟩ = some c ∧
    w.frozen? ⟨g, 0, none⟩ = false ∧ w.frozen? ⟨g, 1, none⟩ = false ∧ w.frozen? ⟨g, 2, none⟩ = false :=
  ⟨h.cell 0, h.cell 1, h.cell 2, h.thaw 0, h.thaw 1, h.thaw 2⟩
/-- A disk stored whole into a block. -/
theorem Bk.put4 {w : World} {g : Nat} {vs : Array Value} {t : TypeId} (h : Bk w g vs t) (hv : vs.size = 4) (a b c d : Value) :
    Bk ((((w.setCell ⟨g, 0, none⟩ a).setCell ⟨g, 1, none⟩ b).setCell ⟨g, 2, none⟩ c).setCell ⟨g, 3, none⟩ d) g #[a, b, c, d] t := by
  have := (((h.set 0 a).set 1 b).set 2 c).set 3 d
  match vs, hv, this with
  | ⟨[x0, x1, x2, x3]⟩, _, this => exact this

/-- What out and with end in. -/
theorem out_fin {w w4 X : World} {g g2 base n c : Nat} {A : Option Addr} {fs : List FE} {vs : List Value} {room : Nat} {arm : Int} {dead : Bool} {q0 q1 q2 q3 : Value} {t : TypeId} (hz : Bk w4 g2 #[q0, q1, q2, q3] 36) (ho : w4.ownsRow base t 3 (.slice A n c) n vs) (hb : Below w.heap.size w w4)
    (h1 : w.heap.size ≤ g ∧ g < base) (h2 : w.heap.size ≤ g2 ∧ g2 < base ∧ g ≠ g2) (hv : FVs G w fs vs) (hn : fs.length = n) (hG : ∀ b, w.heap.size ≤ b → G b)
    (hX : X = ((((w4.setCell ⟨g, 0, none⟩ (.slice A n c)).setCell ⟨g2, 0, none⟩ (.slice A n c)).setCell ⟨g2, 1, none⟩ (.int .i64 (room : Int))).setCell ⟨g2, 2, none⟩ (.int .i64 arm)).setCell ⟨g2, 3, none⟩ (.bool dead)) :
    Bk X g2 #[.slice A n c, .int .i64 (room : Int), .int .i64 arm, .bool dead] 36 ∧ RetRD G w fs room arm dead (.returned (.agg #[.slice A n c, .int .i64 (room : Int), .int .i64 arm, .bool dead])) X := by
  have fX : Fr w4 X [g, g2] := by
    rw [hX]
    exact ((Fr.set w4 g 0 _).mono (bl2 := [g, g2]) (fun b hb => .inl (by rw [List.mem_singleton] at hb; rw [hb]; simp))).trans (fr_set4 _ g2 _ _ _ _) (fun b hb => .inl (by rw [List.mem_singleton] at hb; rw [hb]; simp))
  have hbX : Below w.heap.size w X := hb.trans (fX.below (fun b hb => by
    simp only [List.mem_cons, List.not_mem_nil, or_false] at hb
    rcases hb with rfl | rfl <;> omega) hb.size)
  refine ⟨?_, A, n, c, rfl, RFs.mk (hv.below hbX) ((rdv_own3 ho).fr fX (fun _ b hb hm => ?_)) hn (fun b hb => hG b (by have := (World.ownsRow.lt ho b (by rw [own_blk]; exact hb)).1; omega)), own3_cap ho, hbX⟩
  · rw [hX]
    exact (hz.off 0 _ h2.2.2).put4 rfl _ _ _ _
  · have := World.ownsRow.lt ho b (by rw [own_blk]; exact hb)
    simp only [List.mem_cons, List.not_mem_nil, or_false] at hm
    rcases hm with rfl | rfl <;> omega

section
variable {w : World} {A : Option Addr} {n c : Nat} {room : Nat} {arm : Int}
set_option maxRecDepth 100000 in
set_option maxHeartbeats 4000000 in
theorem rout_any (dead : Bool) (x : List UInt8) (fs : List FE) (h : RFs G w A n fs) (hu : risingF fs) (hn : n ≤ 1099511627776) (hc : n ≤ c) (hG : ∀ b, w.heap.size ≤ b → G b) :
    Calls Try.prog 105 #[.agg #[.slice A n c, .int .i64 (room : Int), .int .i64 arm, .bool dead], .string (tx x)] w (RetRD G w (delF x fs) room arm dead) := by
  have HL := Lib.hid h.len
  have hpl := posF_le x fs
  rw [HL.out] at hpl
  obtain ⟨i, hi⟩ : ∃ i, i = posF x fs := ⟨_, rfl⟩
  have hfind := fun W (hW : RFs G W A n fs) => rfind_any A n c room arm dead x fs W hW hu hn
  rw [← hi] at hpl hfind
  have HI := Lib.hid hi
  have HF := Lib.hid hfind
  have HH := Lib.hid h
  have HU := Lib.hid hu
  have HGG := Lib.hid hG
  clear hi hfind hu hG
  obtain ⟨us1, q1, q2⟩ := h.take hpl
  have Q1 := Lib.hid q1
  have Q2 := Lib.hid q2
  clear q1 q2
  go_enter Try.func105, Try.ntmps105
  go_wp2_with fail
  obtain ⟨W, hW⟩ : ∃ W, W = (w.alloc (.cells #[.slice A n c, .int .i64 (room : Int), .int .i64 arm, .bool dead] 36)).alloc (.cells #[.slice none 0 0, .int .i64 0, .int .i64 0, .bool false] 36) := ⟨_, rfl⟩
  rw [← hW]
  have bW : Below w.heap.size w W := by rw [hW]; exact ((Below.refl _ _).alloc (Nat.le_refl _) _).alloc (by simp) _
  have sW : W.heap.size = w.heap.size + 2 := by rw [hW]; simp
  have dW : Bk W w.heap.size #[.slice A n c, .int .i64 (room : Int), .int .i64 arm, .bool dead] 36 := by rw [hW]; exact (Bk.new _ _ _).below ((Below.refl _ _).alloc (Nat.le_refl _) _)
  have zW : Bk W (w.heap.size + 1) #[.slice none 0 0, .int .i64 0, .int .i64 0, .bool false] 36 := by
    rw [hW]
    have := Bk.new (w.alloc (.cells #[.slice A n c, .int .i64 (room : Int), .int .i64 arm, .bool dead] 36)) #[.slice none 0 0, .int .i64 0, .int .i64 0, .bool false] 36
    simpa using this
  have sW2 : w.heap.size + 2 ≤ W.heap.size := by omega
  clear hW sW
  refine (HF.out W (h.below bW)).mono ?_
  rintro e w1 ⟨rfl, hb1⟩
  have b1 := bW.trans (hb1.mono (by omega))
  have d1 := dW.below hb1
  have z1 := zW.below hb1
  have s1 := hb1.size
  have hcl : ∀ w, (Instr.slice 34 (.slice A n c) none (some (.int .i64 (i : Int))) none).run Try.prog w = .ok (.slice A i c) w := fun w => cut3_h Try.underlying34 rfl size3 A (by omega) w
  obtain ⟨e0, e1, e2, e3, y0, y1, y2, y3⟩ := d1.four
  obtain ⟨g0, g1, g2, g3, k0, k1, k2, k3⟩ := z1.four
  have D1 := Lib.hid d1
  have Z1 := Lib.hid z1
  have B1 := Lib.hid b1
  clear hb1 dW zW bW d1 z1 b1 h HF
  cases hh : hasF x fs with
  | false =>
    have hg : getF x fs = none := by
      cases hg : getF x fs with
      | none => rfl
      | some g => rw [hasF, hg] at hh; cases hh
    have hdel : delF x fs = fs := delF_no (getF_no hg)
    have HD := Lib.hid hdel
    clear hg hdel hh
    go_wp2_with fail
    obtain ⟨X, hX⟩ : ∃ X, X = (((w1.setCell ⟨w.heap.size + 1, 0, none⟩ (.slice A n c)).setCell ⟨w.heap.size + 1, 1, none⟩ (.int .i64 (room : Int))).setCell ⟨w.heap.size + 1, 2, none⟩ (.int .i64 arm)).setCell ⟨w.heap.size + 1, 3, none⟩ (.bool dead) := ⟨_, rfl⟩
    rw [← hX]
    have zX : Bk X (w.heap.size + 1) #[.slice A n c, .int .i64 (room : Int), .int .i64 arm, .bool dead] 36 := by rw [hX]; exact Z1.out.put4 rfl _ _ _ _
    obtain ⟨x0, x1, x2, x3, _⟩ := zX.four
    have hbX : Below w.heap.size w X := by rw [hX]; exact B1.out.trans ((fr_set4 w1 (w.heap.size + 1) _ _ _ _).below (fun b hb => by rw [List.mem_singleton] at hb; omega) (by omega))
    refine bodyPost_ret (v := .agg #[.slice A n c, .int .i64 (room : Int), .int .i64 arm, .bool dead]) (by simp [results, Try.results105, go_sem, x0, x1, x2, x3]; try rfl) rfl ?_
    exact ⟨_, _, _, rfl, by rw [HD.out]; exact HH.out.below hbX, hc, hbX⟩
  | true =>
    have hil : i < n := by
      apply Nat.lt_of_not_le
      intro hle
      rw [hasF, (pos_spec (x := x) HU.out).2.2 (List.getElem?_eq_none (by have := HL.out; have := HI.out; omega))] at hh
      cases hh
    have hdel : delF x fs = fs.take i ++ fs.drop (i + 1) := by rw [delF_pos x HU.out hh, HI.out]
    have HD := Lib.hid hdel
    obtain ⟨us2, q3, q4⟩ := HH.out.dropV (k := i + 1) (by omega) hc
    have Q3 := Lib.hid q3
    have Q4 := Lib.hid q4
    have hcr : ∀ w, (Instr.slice 34 (.slice A n c) (some (.int .i64 ((i : Int) + 1))) none none).run Try.prog w = .ok (.slice (cutA3 A (i + 1) c) (n - (i + 1)) (c - (i + 1))) w := fun w => by
      have := cut3_l Try.underlying34 rfl size3 A (n := n) (cap := c) (k := i + 1) (by omega) w
      simpa using this
    clear hdel q3 q4 hh
    have ea : (w1.alloc (.cells #[] 153)).cell? ⟨w.heap.size, 0, none⟩ = some (.slice A n c) := (((Below.refl _ _).alloc (Nat.le_refl _) _).cell (p := ⟨w.heap.size, 0, none⟩) (by simp only; omega)).trans e0
    go_wp2_with (at_builtin; refine wpList_app3 (w1.alloc (.cells #[] 153)) rfl _ _ 34 rfl w1.heap.size 153 _ 64 Try.underlying34 info_file rfl (some ⟨w1.heap.size, 0, none⟩) 0 0 [] rfl (own3_zero _ _) A i c us1 rfl ?_ ?_ ?_ ?_ ?_ ?_)
    · exact (Q2.out.below B1.out).alloc _
    · exact Q1.out.cells
    · omega
    · omega
    · simp
    intro A3 c3 w3 ho3 hb3
    have b13 : Below w1.heap.size w1 w3 := ((Below.refl _ _).alloc (Nat.le_refl _) _).trans hb3
    have d3 := D1.out.below b13
    have z3 := Z1.out.below b13
    have s3 := b13.size
    clear e0 e1 e2 e3 y0 y1 y2 y3 g0 g1 g2 g3 k0 k1 k2 k3 ea
    obtain ⟨e0, e1, e2, e3, y0, y1, y2, y3⟩ := d3.four
    have D3 := Lib.hid d3
    have Z3 := Lib.hid z3
    have B3 := Lib.hid b13
    clear d3 z3 b13
    go_wp2_with (at_builtin; refine wpList_app3 w3 rfl _ _ 34 rfl w1.heap.size 153 _ 64 Try.underlying34 info_file rfl A3 i c3 us1 rfl ho3 (cutA3 A (i + 1) c) (n - (i + 1)) (c - (i + 1)) us2 rfl ?_ ?_ ?_ ?_ ?_ ?_)
    · exact (Q4.out.below B1.out).below B3.out
    · exact Q3.out.cells
    · omega
    · omega
    · exact B3.out.size
    intro A4 c4 w4 ho4 hb4
    have b14 := B3.out.trans hb4
    have d4 := D1.out.below b14
    have z4 := Z1.out.below b14
    have hcap := own3_cap ho4
    obtain ⟨e0', e1', e2', e3', y0', y1', y2', y3'⟩ := d4.four
    obtain ⟨g0, g1, g2, g3, k0, k1, k2, k3⟩ := z4.four
    have Z4 := Lib.hid z4
    have B4 := Lib.hid b14
    have HO := Lib.hid ho4
    clear ho3 hb3 ho4 hb4 e0 e1 e2 e3 y0 y1 y2 y3 z4 b14 d4
    go_wp2_with fail
    have hret := out_fin (g := w.heap.size) (base := w1.heap.size) (fs := delF x fs) (vs := us1 ++ us2) (room := room) (arm := arm) (dead := dead) (w := w) Z4.out HO.out (B1.out.trans (B4.out.mono (by omega))) (by omega) (by omega) (by rw [HD.out]; exact Q1.out.app Q3.out) (by rw [HD.out, List.length_append, List.length_take, List.length_drop, HL.out]; omega) HGG.out rfl
    obtain ⟨X, hX⟩ : ∃ X, X = ((((w4.setCell ⟨w.heap.size, 0, none⟩ (.slice A4 (i + (n - (i + 1))) c4)).setCell ⟨w.heap.size + 1, 0, none⟩ (.slice A4 (i + (n - (i + 1))) c4)).setCell ⟨w.heap.size + 1, 1, none⟩ (.int .i64 (room : Int))).setCell ⟨w.heap.size + 1, 2, none⟩ (.int .i64 arm)).setCell ⟨w.heap.size + 1, 3, none⟩ (.bool dead) := ⟨_, rfl⟩
    rw [← hX] at hret ⊢
    obtain ⟨zX, hret⟩ := hret
    obtain ⟨x0, x1, x2, x3, _⟩ := zX.four
    refine bodyPost_ret (v := .agg #[.slice A4 (i + (n - (i + 1))) c4, .int .i64 (room : Int), .int .i64 arm, .bool dead]) (by simp [results, Try.results105, go_sem, x0, x1, x2, x3]; try rfl) rfl ?_
    exact hret
end
end Go.Proofs.Ytjpnfhfeabdhiaa
namespace Go.Proofs.Ytjpnfhfeabdhiaa
open Go Go.RowKit Go.Maps
variable {G : Nat → Prop}

section
variable {w : World} {A : Option Addr} {n c : Nat} {room : Nat} {arm : Int}
set_option maxRecDepth 100000 in
set_option maxHeartbeats 8000000 in
theorem rwith_any (dead : Bool) (f : FE) (v0 v1 v2 : Value) (fs : List FE) (h : RFs G w A n fs) (hf : FV G w f v0 v1 v2) (hu : risingF fs) (hn : n ≤ 1099511627776) (hc : n ≤ c) (hG : ∀ b, w.heap.size ≤ b → G b) :
    Calls Try.prog 104 #[.agg #[.slice A n c, .int .i64 (room : Int), .int .i64 arm, .bool dead], .agg #[v0, v1, v2]] w (RetRD G w (putF f fs) room arm dead) := by
  have HL := Lib.hid h.len
  have hpl := posF_le f.1 fs
  rw [HL.out] at hpl
  obtain ⟨i, hi⟩ : ∃ i, i = posF f.1 fs := ⟨_, rfl⟩
  have hfind := fun W (hW : RFs G W A n fs) => rfind_any A n c room arm dead f.1 fs W hW hu hn
  have hput := putF_pos f hu
  rw [← hi] at hpl hfind hput
  have HI := Lib.hid hi
  have HF := Lib.hid hfind
  have HH := Lib.hid h
  have HU := Lib.hid hu
  have HGG := Lib.hid hG
  clear hG
  have HP := Lib.hid hput
  have HV := Lib.hid hf
  obtain ⟨us1, q1, q2⟩ := h.take hpl
  have Q1 := Lib.hid q1
  have Q2 := Lib.hid q2
  have o0 : ∀ u ∈ [v0, v1, v2], u.oneCell' = true := (FVs.one hf).cells
  have O0 := Lib.hid o0
  clear hi hfind hu q1 q2 hput o0
  obtain ⟨rfl, _⟩ := hf
  go_enter Try.func104, Try.ntmps104
  go_wp2_with fail
  obtain ⟨W, hW⟩ : ∃ W, W = ((w.alloc (.cells #[.slice A n c, .int .i64 (room : Int), .int .i64 arm, .bool dead] 36)).alloc (.cells #[.string (tx f.1), v1, v2] 153)).alloc (.cells #[.slice none 0 0, .int .i64 0, .int .i64 0, .bool false] 36) := ⟨_, rfl⟩
  rw [← hW]
  have bW : Below w.heap.size w W := by rw [hW]; exact (((Below.refl _ _).alloc (Nat.le_refl _) _).alloc (by simp) _).alloc (by simp; omega) _
  have sW : W.heap.size = w.heap.size + 3 := by rw [hW]; simp
  have dW : Bk W w.heap.size #[.slice A n c, .int .i64 (room : Int), .int .i64 arm, .bool dead] 36 := by rw [hW]; exact ((Bk.new _ _ _).below ((Below.refl _ _).alloc (Nat.le_refl _) _)).below ((Below.refl _ _).alloc (Nat.le_refl _) _)
  have fW : Bk W (w.heap.size + 1) #[.string (tx f.1), v1, v2] 153 := by
    rw [hW]
    have := Bk.new (w.alloc (.cells #[.slice A n c, .int .i64 (room : Int), .int .i64 arm, .bool dead] 36)) #[.string (tx f.1), v1, v2] 153
    simp only [World.size_alloc] at this
    exact this.below ((Below.refl _ _).alloc (Nat.le_refl _) _)
  have zW : Bk W (w.heap.size + 2) #[.slice none 0 0, .int .i64 0, .int .i64 0, .bool false] 36 := by
    rw [hW]
    have := Bk.new ((w.alloc (.cells #[.slice A n c, .int .i64 (room : Int), .int .i64 arm, .bool dead] 36)).alloc (.cells #[.string (tx f.1), v1, v2] 153)) #[.slice none 0 0, .int .i64 0, .int .i64 0, .bool false] 36
    simpa using this
  have sW2 : w.heap.size + 3 ≤ W.heap.size := by omega
  have cf0 := (fW.three).1
  clear hW sW
  refine (HF.out W (h.below bW)).mono ?_
  rintro e w1 ⟨rfl, hb1⟩
  have b1 := bW.trans (hb1.mono (by omega))
  have d1 := dW.below hb1
  have z1 := zW.below hb1
  have f1 := fW.below hb1
  have s1 := hb1.size
  have hcl : ∀ w, (Instr.slice 34 (.slice A n c) none (some (.int .i64 (i : Int))) none).run Try.prog w = .ok (.slice A i c) w := fun w => cut3_h Try.underlying34 rfl size3 A (by omega) w
  have hcr0 : ∀ w, (Instr.slice 34 (.slice A n c) (some (.int .i64 (i : Int))) none none).run Try.prog w = .ok (.slice (cutA3 A i c) (n - i) (c - i)) w := fun w => cut3_l Try.underlying34 rfl size3 A hpl w
  obtain ⟨e0, e1, e2, e3, y0, y1, y2, y3⟩ := d1.four
  have D1 := Lib.hid d1
  have Z1 := Lib.hid z1
  have F1 := Lib.hid f1
  have B1 := Lib.hid b1
  clear hb1 dW zW fW bW d1 z1 f1 b1 h HF cf0
  obtain ⟨r, hr⟩ : ∃ r, r = if hasF f.1 fs = true then i + 1 else i := ⟨_, rfl⟩
  have hrn : r ≤ n := by
    rw [hr]
    split
    · next hh =>
      apply Nat.lt_of_not_le
      intro hle
      rw [hasF, (pos_spec (x := f.1) HU.out).2.2 (List.getElem?_eq_none (by have := HL.out; have := HI.out; omega))] at hh
      cases hh
    · exact hpl
  have hri : i ≤ r := by rw [hr]; split <;> omega
  have HR := Lib.hid hr
  rw [← hr] at HP
  clear hr
  obtain ⟨us2, q3, q4⟩ := HH.out.dropV (k := r) hrn hc
  have Q3 := Lib.hid q3
  have Q4 := Lib.hid q4
  clear q3 q4
  go_upto_if 20 with (fail)
  go_cut [6, 7] (fun s6 s7 wx => s6 = .bool (hasF f.1 fs) ∧ s7 = .slice (cutA3 A r c) (n - r) (c - r) ∧ w1 = wx)
  case first =>
    cases hh : hasF f.1 fs with
    | false =>
      have hrj : r = i := by rw [HR.out, hh]; rfl
      have HRI := Lib.hid hrj
      have HHH := Lib.hid hh
      clear hrj
      go_wp2_with fail
      go_meet
      exact ⟨by rw [HHH.out], by rw [HRI.out], rfl⟩
    | true =>
      have hrj : r = i + 1 := by rw [HR.out, hh]; rfl
      have hcr : ∀ w, (Instr.slice 34 (.slice A n c) (some (.int .i64 ((i : Int) + 1))) none none).run Try.prog w = .ok (.slice (cutA3 A (i + 1) c) (n - (i + 1)) (c - (i + 1))) w := fun w => by
        have := cut3_l Try.underlying34 rfl size3 A (n := n) (cap := c) (k := i + 1) (by omega) w
        simpa using this
      have HRI := Lib.hid hrj
      have HHH := Lib.hid hh
      clear hrj
      go_wp2_with fail
      go_meet
      exact ⟨by rw [HHH.out], by rw [HRI.out], rfl⟩
  case rest =>
    obtain ⟨rfl, rfl, rfl⟩ := hcut
    have ea : (w1.alloc (.cells #[] 153)).cell? ⟨w.heap.size, 0, none⟩ = some (.slice A n c) := (((Below.refl _ _).alloc (Nat.le_refl _) _).cell (p := ⟨w.heap.size, 0, none⟩) (by simp only; omega)).trans e0
    clear hcr0
    go_wp2_with (at_builtin; refine wpList_app3 (w1.alloc (.cells #[] 153)) rfl _ _ 34 rfl w1.heap.size 153 _ 64 Try.underlying34 info_file rfl (some ⟨w1.heap.size, 0, none⟩) 0 0 [] rfl (own3_zero _ _) A i c us1 rfl ?_ ?_ ?_ ?_ ?_ ?_)
    · exact (Q2.out.below B1.out).alloc _
    · exact Q1.out.cells
    · omega
    · omega
    · simp
    intro A3 c3 w3 ho3 hb3
    have b13 : Below w1.heap.size w1 w3 := ((Below.refl _ _).alloc (Nat.le_refl _) _).trans hb3
    have f3 := F1.out.below b13
    clear e0 e1 e2 e3 y0 y1 y2 y3 ea hcl
    obtain ⟨e0, e1, e2, y0, y1, y2⟩ := f3.three
    have B3 := Lib.hid b13
    clear b13 f3
    have hrd : RdV (w3.alloc (.cells #[.string (tx f.1), v1, v2] 153)) (some ⟨w3.heap.size, 0, none⟩) (1 * 3) [.string (tx f.1), v1, v2] := by
      refine ⟨rfl, fun _ => ⟨w3.heap.size, 0, rfl, by simp, fun j x hx => ?_⟩⟩
      rw [(Bk.new w3 _ _).cell (0 + j), Nat.zero_add]
      simpa using hx
    have HRD := Lib.hid hrd
    have HOA := Lib.hid (own3_below ho3 ((Below.refl _ _).alloc (Nat.le_refl _) (.cells #[.string (tx f.1), v1, v2] 153)))
    clear ho3 hb3 hrd
    go_wp2_with (at_builtin; refine wpList_app3 (w3.alloc (.cells #[.string (tx f.1), v1, v2] 153)) rfl _ _ 34 rfl w1.heap.size 153 _ 64 Try.underlying34 info_file rfl A3 i c3 us1 rfl HOA.out (some ⟨w3.heap.size, 0, none⟩) 1 1 [.string (tx f.1), v1, v2] rfl HRD.out O0.out ?_ ?_ ?_ ?_)
    · omega
    · omega
    · have := B3.out.size; simp; omega
    intro A4 c4 w4 ho4 hb4
    have b14 := (B3.out.alloc B3.out.size (.cells #[.string (tx f.1), v1, v2] 153)).trans hb4
    have B4 := Lib.hid b14
    clear e0 e1 e2 y0 y1 y2 hb4 b14 B3 HOA HRD
    go_wp2_with (at_builtin; refine wpList_app3 w4 rfl _ _ 34 rfl w1.heap.size 153 _ 64 Try.underlying34 info_file rfl A4 (i + 1) c4 (us1 ++ [.string (tx f.1), v1, v2]) rfl ho4 (cutA3 A r c) (n - r) (c - r) us2 rfl ?_ ?_ ?_ ?_ ?_ ?_)
    · exact (Q4.out.below B1.out).below B4.out
    · exact Q3.out.cells
    · omega
    · omega
    · exact B4.out.size
    intro A5 c5 w5 ho5 hb5
    have b15 := B4.out.trans hb5
    have d5 := D1.out.below b15
    have z5 := Z1.out.below b15
    obtain ⟨e0, e1, e2, e3, y0, y1, y2, y3⟩ := d5.four
    obtain ⟨g0, g1, g2, g3, k0, k1, k2, k3⟩ := z5.four
    have Z5 := Lib.hid z5
    have B5 := Lib.hid b15
    have HO := Lib.hid ho5
    clear ho4 ho5 hb5 z5 b15 d5
    go_wp2_with fail
    have hret := out_fin (g := w.heap.size) (base := w1.heap.size) (fs := putF f fs) (room := room) (arm := arm) (dead := dead) (w := w) Z5.out HO.out (B1.out.trans (B5.out.mono (by omega))) (by omega) (by omega) (by rw [HP.out]; exact Q1.out.app ((FVs.one HV.out).app Q3.out)) (by rw [HP.out, List.length_append, List.length_cons, List.length_take, List.length_drop, HL.out]; omega) HGG.out rfl
    obtain ⟨X, hX⟩ : ∃ X, X = ((((w5.setCell ⟨w.heap.size, 0, none⟩ (.slice A5 (i + 1 + (n - r)) c5)).setCell ⟨w.heap.size + 2, 0, none⟩ (.slice A5 (i + 1 + (n - r)) c5)).setCell ⟨w.heap.size + 2, 1, none⟩ (.int .i64 (room : Int))).setCell ⟨w.heap.size + 2, 2, none⟩ (.int .i64 arm)).setCell ⟨w.heap.size + 2, 3, none⟩ (.bool dead) := ⟨_, rfl⟩
    rw [← hX] at hret ⊢
    obtain ⟨zX, hret⟩ := hret
    obtain ⟨x0, x1, x2, x3, _⟩ := zX.four
    refine bodyPost_ret (v := .agg #[.slice A5 (i + 1 + (n - r)) c5, .int .i64 (room : Int), .int .i64 arm, .bool dead]) (by simp [results, Try.results104, go_sem, x0, x1, x2, x3]; try rfl) rfl ?_
    exact hret
end
end Go.Proofs.Ytjpnfhfeabdhiaa
namespace Go.Proofs.Ytjpnfhfeabdhiaa
open Go Go.RowKit Go.Maps
variable {G : Nat → Prop}

/-- 'A disk and a number are handed back.' -/
def RetRE (G : Nat → Prop) (w : World) (D : DS) (k : Int) (e : Ending) (w' : World) : Prop :=
  ∃ A n c, e = .returned (.tuple #[.agg #[.slice A n c, .int .i64 (D.room : Int), .int .i64 D.arm, .bool D.dead], .int .i64 k]) ∧ RFs G w' A n D.fs ∧ n ≤ c ∧ Below w.heap.size w w'
/-- A block that holds a disk is none of those in which files lie. -/
theorem bk_no {w : World} {g : Nat} {A : Option Addr} {n c : Nat} {z y : Int} {d : Bool} (h : Bk w g #[.slice A n c, .int .i64 z, .int .i64 y, .bool d] 36) {off : Nat} {v : Value} (hv : w.cell? ⟨g, off, none⟩ = some v) : (∀ s, v ≠ .string s) ∧ ∀ x, v ≠ .int .u8 x := by
  rw [h.cell off] at hv
  have key : v = .slice A n c ∨ v = .int .i64 z ∨ v = .int .i64 y ∨ v = .bool d := by
    match off, hv with
    | 0, hv => simp at hv; exact .inl hv.symm
    | 1, hv => simp at hv; exact .inr (.inl hv.symm)
    | 2, hv => simp at hv; exact .inr (.inr (.inl hv.symm))
    | 3, hv => simp at hv; exact .inr (.inr (.inr hv.symm))
    | k + 4, hv => simp at hv
  rcases key with rfl | rfl | rfl | rfl <;> exact ⟨(fun s e => by cases e), (fun x e => by cases e)⟩
theorem Rd.store {w w' : World} {g : Nat} {A B : Option Addr} {n c m : Nat} {z y : Int} {d : Bool} {xs : List UInt8} (h : Bk w g #[.slice A n c, .int .i64 z, .int .i64 y, .bool d] 36) (hf : Fr w w' [g]) (hr : Rd w B m xs) : Rd w' B m xs := by
  refine ⟨hr.1, fun hm => ?_⟩
  obtain ⟨b, off, rfl, hb, hc⟩ := hr.2 hm
  refine ⟨b, off, rfl, Nat.lt_of_lt_of_le hb hf.size, fun i x hx => ?_⟩
  have hne : b ∉ [g] := fun hm2 => by
    rw [List.mem_singleton] at hm2
    subst hm2
    exact (bk_no h (hc i x hx)).2 _ rfl
  exact (World.cell?_of_block (a := ⟨b, off + i, none⟩) (hf.block b hb hne)).trans (hc i x hx)
theorem FV.store {w w' : World} {g : Nat} {A : Option Addr} {n c : Nat} {z y : Int} {d : Bool} (h : Bk w g #[.slice A n c, .int .i64 z, .int .i64 y, .bool d] 36) (hf : Fr w w' [g]) {f : FE} {v0 v1 v2 : Value} (hv : FV G w f v0 v1 v2) : FV G w' f v0 v1 v2 := by
  obtain ⟨h1, h2, S, sn, sc, T, tn, tc, h3, h4, h5, h6, h7⟩ := hv
  exact ⟨h1, h2, S, sn, sc, T, tn, tc, h3, h4, h5.store h hf, h6.store h hf, h7⟩
theorem FVs.store {w w' : World} {g : Nat} {A : Option Addr} {n c : Nat} {z y : Int} {d : Bool} (h : Bk w g #[.slice A n c, .int .i64 z, .int .i64 y, .bool d] 36) (hf : Fr w w' [g]) : ∀ {fs : List FE} {vs : List Value}, FVs G w fs vs → FVs G w' fs vs
  | [], _, hv => hv
  | _ :: _, _, ⟨v0, v1, v2, r, e, h1, h2⟩ => ⟨v0, v1, v2, r, e, h1.store h hf, FVs.store h hf h2⟩
theorem RFs.store {w w' : World} {g : Nat} {A B : Option Addr} {n c m : Nat} {z y : Int} {d : Bool} (h : Bk w g #[.slice A n c, .int .i64 z, .int .i64 y, .bool d] 36) (hf : Fr w w' [g]) {fs : List FE} (hr : RFs G w B m fs) : RFs G w' B m fs := by
  obtain ⟨h1, vs, h2, h3⟩ := hr
  refine ⟨h1, vs, h2.store h hf, ⟨h3.1.fr hf (fun hm b hb hm2 => ?_), h3.2⟩⟩
  rw [List.mem_singleton] at hm2
  subst hm2
  obtain ⟨b', off, e, _, hc⟩ := h3.1.2 hm
  rw [e] at hb
  injection hb with hb
  simp only at hb
  subst hb
  cases fs with
  | nil => simp at h1; omega
  | cons f t =>
    obtain ⟨v0, v1, v2, r, rfl, ⟨hv, _⟩, _⟩ := h2
    exact (bk_no h (hc 0 v0 rfl)).1 _ hv
theorem putF_app (x ys : List UInt8) (fs : List FE) : appF x ys fs = putF (x, ((getF x fs).getD ([], 0)).1 ++ ys, ((getF x fs).getD ([], 0)).2) fs := by
  unfold appF
  cases getF x fs <;> rfl
/-- What calls on a disk end in: the disk out of its box into the result's. -/
theorem re_fin {w w4 : World} {g g2 n c n0 c0 n1 c1 : Nat} {A A0 A1 : Option Addr} {fs : List FE} {room : Nat} {arm k z0 y0 z1 y1 : Int} {dead d0 d1 : Bool}
    (hd : Bk w4 g #[.slice A0 n0 c0, .int .i64 z0, .int .i64 y0, .bool d0] 36) (hz : Bk w4 g2 #[.slice A1 n1 c1, .int .i64 z1, .int .i64 y1, .bool d1] 36)
    (hr : RFs G w4 A n fs) (hc : n ≤ c) (hb : Below w.heap.size w w4) (h1 : w.heap.size ≤ g) (h2 : w.heap.size ≤ g2 ∧ g ≠ g2) :
    ∃ X, X = (((((((w4.setCell ⟨g, 0, none⟩ (.slice A n c)).setCell ⟨g, 1, none⟩ (.int .i64 (room : Int))).setCell ⟨g, 2, none⟩ (.int .i64 arm)).setCell ⟨g, 3, none⟩ (.bool dead)).setCell ⟨g2, 0, none⟩ (.slice A n c)).setCell ⟨g2, 1, none⟩ (.int .i64 (room : Int))).setCell ⟨g2, 2, none⟩ (.int .i64 arm)).setCell ⟨g2, 3, none⟩ (.bool dead) ∧
    Bk X g2 #[.slice A n c, .int .i64 (room : Int), .int .i64 arm, .bool dead] 36 ∧ RetRE G w ⟨fs, room, arm, dead⟩ k (.returned (.tuple #[.agg #[.slice A n c, .int .i64 (room : Int), .int .i64 arm, .bool dead], .int .i64 k])) X := by
  obtain ⟨Y, hY⟩ : ∃ Y, Y = (((w4.setCell ⟨g, 0, none⟩ (.slice A n c)).setCell ⟨g, 1, none⟩ (.int .i64 (room : Int))).setCell ⟨g, 2, none⟩ (.int .i64 arm)).setCell ⟨g, 3, none⟩ (.bool dead) := ⟨_, rfl⟩
  rw [← hY]
  have fY : Fr w4 Y [g] := by rw [hY]; exact fr_set4 w4 g _ _ _ _
  have zY : Bk Y g2 #[.slice A1 n1 c1, .int .i64 z1, .int .i64 y1, .bool d1] 36 := (fY.block g2 hz.lt (by simpa using fun e => h2.2 e.symm)).trans hz
  refine ⟨_, rfl, zY.put4 rfl _ _ _ _, ?_⟩
  have fX := fr_set4 Y g2 (.slice A n c) (.int .i64 (room : Int)) (.int .i64 arm) (.bool dead)
  have bY : Below w.heap.size w Y := hb.trans (fY.below (fun b hb => by rw [List.mem_singleton] at hb; omega) hb.size)
  exact ⟨A, n, c, rfl, RFs.store zY fX (RFs.store hd fY hr), hc, bY.trans (fX.below (fun b hb => by rw [List.mem_singleton] at hb; omega) bY.size)⟩
end Go.Proofs.Ytjpnfhfeabdhiaa
namespace Go.Proofs.Ytjpnfhfeabdhiaa
open Go Go.RowKit Go.Maps
variable {G : Nat → Prop}

section
variable {w : World} {A : Option Addr} {n c : Nat} {room : Nat} {arm : Int}
set_option maxRecDepth 100000 in
set_option maxHeartbeats 8000000 in
theorem rapp_any (dead : Bool) (x : List UInt8) (B : Option Addr) (m d : Nat) (ys : List UInt8) (fs : List FE) (h : RFs G w A n fs) (hu : risingF fs) (hn : n ≤ 1099511627776) (hc : n ≤ c) (hus : usedF fs ≤ 1099511627776) (hroom : room ≤ 9223372036854775807) (ha : -1 ≤ arm ∧ arm ≤ 9223372036854775807)
    (hy : Rd w B m ys) (hm : m ≤ 1099511627776) (hG : ∀ b, w.heap.size ≤ b → G b) :
    Calls Try.prog 64 #[.agg #[.slice A n c, .int .i64 (room : Int), .int .i64 arm, .bool dead], .string (tx x), .slice B m d] w (RetRE G w (appendD ⟨fs, room, arm, dead⟩ x ys).1 (appendD ⟨fs, room, arm, dead⟩ x ys).2) := by
  have HH := Lib.hid h
  have HU := Lib.hid hu
  have HY := Lib.hid hy
  have HGG := Lib.hid hG
  clear hu hy hG
  have hsub : -9223372036854775808 ≤ (room : Int) - (usedF fs : Int) ∧ (room : Int) - (usedF fs : Int) ≤ 9223372036854775807 := by omega
  have hw1 : IntKind.i64.wrap ((room : Int) - (usedF fs : Int)) = (room : Int) - (usedF fs : Int) := IntWalk.i64_in _ (by omega)
  go_enter Try.func64, Try.ntmps64
  go_upto_region 2 with (fail)
  obtain ⟨W, hW⟩ : ∃ W, W = (w.alloc (.cells #[.slice A n c, .int .i64 (room : Int), .int .i64 arm, .bool dead] 36)).alloc (.cells #[.slice none 0 0, .int .i64 0, .int .i64 0, .bool false] 36) := ⟨_, rfl⟩
  rw [← hW]
  have bW : Below w.heap.size w W := by rw [hW]; exact ((Below.refl _ _).alloc (Nat.le_refl _) _).alloc (by simp) _
  have sW : W.heap.size = w.heap.size + 2 := by rw [hW]; simp
  have dW : Bk W w.heap.size #[.slice A n c, .int .i64 (room : Int), .int .i64 arm, .bool dead] 36 := by rw [hW]; exact (Bk.new _ _ _).below ((Below.refl _ _).alloc (Nat.le_refl _) _)
  have zW : Bk W (w.heap.size + 1) #[.slice none 0 0, .int .i64 0, .int .i64 0, .bool false] 36 := by
    rw [hW]
    have := Bk.new (w.alloc (.cells #[.slice A n c, .int .i64 (room : Int), .int .i64 arm, .bool dead] 36)) #[.slice none 0 0, .int .i64 0, .int .i64 0, .bool false] 36
    simpa using this
  have sW2 : w.heap.size + 2 ≤ W.heap.size := by omega
  obtain ⟨e0, e1, e2, e3, y0, y1, y2, y3⟩ := dW.four
  have DW := Lib.hid dW
  have ZW := Lib.hid zW
  have BW := Lib.hid bW
  clear hW sW dW zW
  have hdec : decide ((room : Int) - (usedF fs : Int) < (m : Int)) = decide (room < usedF fs + m) := by
    rw [decide_eq_decide]
    omega
  go_cut [20] (fun s20 wx => s20 = .bool (decide (room < usedF fs + m)) ∧ Below W.heap.size W wx)
  case first =>
    go_region_with (first | (go_at_call 75; refine (rused_any A n c room arm dead fs _ (HH.out.below BW.out.drew) hn hus).mono ?_; rintro e w2 ⟨rfl, hb2⟩; have q1 := (hb2.cell (p := ⟨w.heap.size, 1, none⟩) (by show w.heap.size < W.heap.size; omega)).trans e1))
    all_goals (go_wp2_with fail; go_meet; exact ⟨rfl, (Below.refl _ _).drew.trans hb2⟩)
  case rest =>
    obtain ⟨rfl, hbx⟩ := hcut
    have dx := DW.out.below hbx
    have zx := ZW.out.below hbx
    have bx := BW.out.trans (hbx.mono (by omega))
    have sx := hbx.size
    have DX := Lib.hid dx
    have ZX := Lib.hid zx
    have BX := Lib.hid bx
    clear e0 e1 e2 e3 y0 y1 y2 y3 hbx DW ZW BW bx zx hsub hw1 hdec bW
    obtain ⟨e0, e1, e2, e3, y0, y1, y2, y3⟩ := dx.four
    obtain ⟨g0, g1, g2, g3, k0, k1, k2, k3⟩ := ZX.out.four
    clear dx
    by_cases hno : dead = true ∨ (dead = false ∧ room < usedF fs + m)
    · -- nothing is done
      obtain ⟨E, hE1, hE2, hE3⟩ : ∃ E : Int, appendD ⟨fs, room, arm, dead⟩ x ys = (⟨fs, room, arm, dead⟩, E) ∧ (∀ W', room < usedF fs + m → Calls Try.prog 102 #[.agg #[.slice A n c, .int .i64 (room : Int), .int .i64 arm, .bool dead], .int .i64 8] W' (RetMay W' (.slice A n c) room arm dead false E false)) ∧
          (∀ W', ¬ room < usedF fs + m → Calls Try.prog 102 #[.agg #[.slice A n c, .int .i64 (room : Int), .int .i64 arm, .bool dead], .int .i64 0] W' (RetMay W' (.slice A n c) room arm dead false E false)) := by
        rcases hno with rfl | ⟨rfl, hf⟩
        · exact ⟨9, by rw [appendD, if_pos rfl], fun W' _ => may_dead, fun W' _ => may_dead⟩
        · exact ⟨8, by rw [appendD, if_neg (fun h => Bool.noConfusion h), HY.out.len, if_pos hf], fun W' _ => may_err (by decide), fun W' h => absurd hf h⟩
      have HE1 := Lib.hid hE1
      have HE2 := Lib.hid hE2
      have HE3 := Lib.hid hE3
      clear hE1 hE2 hE3 hno
      by_cases hf : room < usedF fs + m
      · have t1 : decide (room < usedF fs + m) = true := by simpa using hf
        go_wp2_with fail
        refine (HE2.out wc hf).mono ?_
        rintro e w2 ⟨rfl, hb2⟩
        have D2 := Lib.hid (DX.out.below hb2)
        have Z2 := Lib.hid (ZX.out.below hb2)
        have B2 := Lib.hid (BX.out.trans (hb2.mono (by omega)))
        clear e0 e1 e2 e3 y0 y1 y2 y3 g0 g1 g2 g3 k0 k1 k2 k3 hb2
        obtain ⟨e0, e1, e2, e3, y0, y1, y2, y3⟩ := D2.out.four
        obtain ⟨g0, g1, g2, g3, k0, k1, k2, k3⟩ := Z2.out.four
        go_wp2_with fail
        obtain ⟨X, hX, zX, hret⟩ := re_fin (room := room) (arm := arm) (dead := dead) (k := E) (c := c) D2.out Z2.out (HH.out.below B2.out) hc B2.out (Nat.le_refl _) ⟨by omega, by omega⟩
        rw [← hX]
        obtain ⟨x0, x1, x2, x3, _⟩ := zX.four
        refine bodyPost_ret (v := .tuple #[.agg #[.slice A n c, .int .i64 (room : Int), .int .i64 arm, .bool dead], .int .i64 E]) (by simp [results, Try.results64, go_sem, x0, x1, x2, x3]; try rfl) rfl ?_
        rw [HE1.out]
        exact hret
      · have t1 : decide (room < usedF fs + m) = false := by simpa using hf
        go_wp2_with fail
        refine (HE3.out wc hf).mono ?_
        rintro e w2 ⟨rfl, hb2⟩
        have D2 := Lib.hid (DX.out.below hb2)
        have Z2 := Lib.hid (ZX.out.below hb2)
        have B2 := Lib.hid (BX.out.trans (hb2.mono (by omega)))
        clear e0 e1 e2 e3 y0 y1 y2 y3 g0 g1 g2 g3 k0 k1 k2 k3 hb2
        obtain ⟨e0, e1, e2, e3, y0, y1, y2, y3⟩ := D2.out.four
        obtain ⟨g0, g1, g2, g3, k0, k1, k2, k3⟩ := Z2.out.four
        go_wp2_with fail
        obtain ⟨X, hX, zX, hret⟩ := re_fin (room := room) (arm := arm) (dead := dead) (k := E) (c := c) D2.out Z2.out (HH.out.below B2.out) hc B2.out (Nat.le_refl _) ⟨by omega, by omega⟩
        rw [← hX]
        obtain ⟨x0, x1, x2, x3, _⟩ := zX.four
        refine bodyPost_ret (v := .tuple #[.agg #[.slice A n c, .int .i64 (room : Int), .int .i64 arm, .bool dead], .int .i64 E]) (by simp [results, Try.results64, go_sem, x0, x1, x2, x3]; try rfl) rfl ?_
        rw [HE1.out]
        exact hret
    · have hdl : dead = false := by cases dead; rfl; exact absurd (.inl rfl) hno
      subst hdl
      have hf : ¬ room < usedF fs + m := fun h => hno (.inr ⟨rfl, h⟩)
      have t1 : decide (room < usedF fs + m) = false := by simpa using hf
      obtain ⟨arm2, dead2, done, kill, E, h1, h2, h3⟩ : ∃ (arm2 : Int) (dead2 done kill : Bool) (E : Int), appendD ⟨fs, room, arm, false⟩ x ys = (⟨appF x ys fs, room, arm2, dead2⟩, E) ∧ ((done = true) ∨ (done = false ∧ kill = true)) ∧
          ∀ W', Calls Try.prog 102 #[.agg #[.slice A n c, .int .i64 (room : Int), .int .i64 arm, .bool false], .int .i64 0] W' (RetMay W' (.slice A n c) room arm2 dead2 done E kill) := by
        by_cases h0 : arm = 0
        · subst h0
          exact ⟨0, true, false, true, 9, by rw [appendD, if_neg (fun h => Bool.noConfusion h), HY.out.len, if_neg hf, if_pos rfl], .inr ⟨rfl, rfl⟩, fun W' => may_kill⟩
        · exact ⟨armN arm, false, true, false, 0, by rw [appendD, if_neg (fun h => Bool.noConfusion h), HY.out.len, if_neg hf, if_neg h0], .inl rfl, fun W' => may_ok h0 ha⟩
      have HE1 := Lib.hid h1
      have HE3 := Lib.hid h3
      clear h1 h3 hno
      go_wp2_with fail
      ((with_reducible refine (HE3.out wc).mono ?_))
      rintro e w2 ⟨rfl, hb2⟩
      have D2 := Lib.hid (DX.out.below hb2)
      have Z2 := Lib.hid (ZX.out.below hb2)
      have B2 := Lib.hid (BX.out.trans (hb2.mono (by omega)))
      have s2 := hb2.size
      clear e0 e1 e2 e3 y0 y1 y2 y3 g0 g1 g2 g3 k0 k1 k2 k3 hb2
      obtain ⟨e0, e1, e2, e3, y0, y1, y2, y3⟩ := D2.out.four
      have hgs : ((getF x fs).getD ([], 0)).1.length ≤ usedF fs := by
        cases hg : getF x fs with
        | none => simp
        | some g => exact usedF_mem (getF_mem hg)
      rcases h2 with rfl | ⟨rfl, rfl⟩
      all_goals
        go_wp2_with fail
        obtain ⟨Y, hY⟩ : ∃ Y, Y = (((w2.setCell ⟨w.heap.size, 0, none⟩ (.slice A n c)).setCell ⟨w.heap.size, 1, none⟩ (.int .i64 (room : Int))).setCell ⟨w.heap.size, 2, none⟩ (.int .i64 arm2)).setCell ⟨w.heap.size, 3, none⟩ (.bool dead2) := ⟨_, rfl⟩
        rw [← hY]
        have fY : Fr w2 Y [w.heap.size] := by rw [hY]; exact fr_set4 w2 _ _ _ _ _
        have dY : Bk Y w.heap.size #[.slice A n c, .int .i64 (room : Int), .int .i64 arm2, .bool dead2] 36 := by rw [hY]; exact D2.out.put4 rfl _ _ _ _
        have zY : Bk Y (w.heap.size + 1) #[.slice none 0 0, .int .i64 0, .int .i64 0, .bool false] 36 := (fY.block _ Z2.out.lt (by simp)).trans Z2.out
        have bY : Below w.heap.size w Y := B2.out.trans (fY.below (fun b hb => by rw [List.mem_singleton] at hb; omega) B2.out.size)
        have sY := fY.size
        clear hY fY e0 e1 e2 e3 y0 y1 y2 y3
        refine (get_any dead2 x fs (HH.out.below bY) HU.out hn).mono ?_
        rintro e w3 ⟨v0, v1, v2, rfl, ⟨rfl, hsl, S, sn, sc, T, tn, tc, rfl, rfl, r1, r2, q1, q2, gs, gt⟩, hb3⟩
        have GS := Lib.hid gs
        clear gs gt
        have D3 := Lib.hid (dY.below hb3)
        have Z3 := Lib.hid (zY.below hb3)
        have B3 := Lib.hid (bY.trans (hb3.mono bY.size))
        have s3 := hb3.size
        have htl := r2.len
        simp only [List.length_drop] at htl
        have R1 := Lib.hid r1
        have R2 := Lib.hid r2
        have HSL := Lib.hid hsl
        have HTL := Lib.hid htl
        clear dY zY bY hb3 r1 r2 hsl htl
        obtain ⟨e0, e1, e2, e3, y0, y1, y2, y3⟩ := D3.out.four
        go_wp2_with fail
        obtain ⟨U, hU⟩ : ∃ U, U = w3.alloc (.cells #[.string (tx x), .slice S sn sc, .slice T tn tc] 153) := ⟨_, rfl⟩
        rw [← hU]
        have bU : Below w3.heap.size w3 U := by rw [hU]; exact (Below.refl _ _).alloc (Nat.le_refl _) _
        have sU : U.heap.size = w3.heap.size + 1 := by rw [hU]; simp
        have fU : Bk U w3.heap.size #[.string (tx x), .slice S sn sc, .slice T tn tc] 153 := by rw [hU]; exact Bk.new _ _ _
        have FU := Lib.hid fU
        have BU := Lib.hid bU
        have sU2 : w3.heap.size < U.heap.size := by omega
        clear hU fU bU sU e0 e1 e2 e3 y0 y1 y2 y3
        refine (Copy_any T tn tc _ U (R2.out.below BU.out) (by have := HTL.out; omega)).mono ?_
        rintro e w4 ⟨C, cn, cc, rfl, oc, hb4⟩
        have hcn : cn = tn := by rw [← oc.len]; exact R2.out.len
        subst hcn
        have s4 := hb4.size
        have B4 := Lib.hid hb4
        have HYW := Lib.hid ((HY.out.below B3.out).below (BU.out.trans (hb4.mono (by omega))))
        clear hb4
        go_wp2_with (at_builtin; refine wpList_app w4 rfl _ _ 30 rfl U.heap.size 5 Try.underlying30 info_u8 C cn cc _ rfl oc B m d ys rfl HYW.out ?_ ?_ ?_)
        · have := HTL.out; omega
        · exact s4
        intro C2 c2 w5 oc2 hb5
        have b5 := B4.out.trans hb5
        have s5 := b5.size
        have f5 := FU.out.below b5
        obtain ⟨e0, e1, e2, y0, y1, y2⟩ := f5.three
        have D5 := Lib.hid ((D3.out.below BU.out).below b5)
        have Z5 := Lib.hid ((Z3.out.below BU.out).below b5)
        obtain ⟨g0, g1, g2, g3, k0, k1, k2, k3⟩ := D5.out.four
        have F5 := Lib.hid f5
        have B5 := Lib.hid (BU.out.trans (b5.mono (by omega)))
        have OC2 := Lib.hid oc2
        have hcap := oc2.cap
        have hlt3 := D3.out.lt
        clear b5 f5 oc oc2 hb5
        go_wp2_with fail
        obtain ⟨V, hV⟩ : ∃ V, V = w5.setCell ⟨w3.heap.size, 2, none⟩ (.slice C2 (cn + m) c2) := ⟨_, rfl⟩
        rw [← hV]
        have fV : Fr w5 V [w3.heap.size] := by rw [hV]; exact Fr.set _ _ _ _
        have bV3 : Below w3.heap.size w3 V := B5.out.trans (fV.below (fun b hb => by rw [List.mem_singleton] at hb; omega) (by omega))
        have bV : Below w.heap.size w V := B3.out.trans (bV3.mono B3.out.size)
        have dV := D3.out.below bV3
        have zV := Z3.out.below bV3
        have hfv : FV G V (x, ((getF x fs).getD ([], 0)).1 ++ ys, ((getF x fs).getD ([], 0)).2) (.string (tx x)) (.slice S sn sc) (.slice C2 (cn + m) c2) := by
          have hsl := HSL.out
          refine ⟨rfl, by simp only [List.length_append]; omega, S, sn, sc, C2, cn + m, c2, rfl, rfl, ?_, ?_, q1, hcap.1, GS.out, fun _ b hb => HGG.out b (by have := (OC2.out.lt b hb).1; have := B3.out.size; have := BU.out.size; omega)⟩
          · have := R1.out.below bV3
            (try simp only at this hsl ⊢)
            rw [List.take_append_of_le_length hsl]
            exact this
          · have := OC2.out.rd.fr fV (fun b hb hm => by
              have h1 := (OC2.out.lt b hb).1
              rw [List.mem_singleton] at hm
              omega)
            (try simp only at this hsl ⊢)
            rw [List.drop_append_of_le_length hsl]
            exact this
        have HFV := Lib.hid hfv
        clear hV fV hfv e0 e1 e2 y0 y1 y2 g0 g1 g2 g3 k0 k1 k2 k3
        refine (rwith_any dead2 _ _ _ _ fs (HH.out.below bV) HFV.out HU.out hn hc (fun b hb => HGG.out b (Nat.le_trans bV.size hb))).mono ?_
        rintro e w7 ⟨A7, n7, c7, rfl, hr7, hc7, hb7⟩
        rw [← putF_app] at hr7
        have D7 := Lib.hid (dV.below hb7)
        have Z7 := Lib.hid (zV.below hb7)
        have B7 := Lib.hid (bV.trans (hb7.mono bV.size))
        have HR7 := Lib.hid hr7
        clear dV zV bV hb7 hr7 bV3
        obtain ⟨e0, e1, e2, e3, y0, y1, y2, y3⟩ := D7.out.four
        obtain ⟨g0, g1, g2, g3, k0, k1, k2, k3⟩ := Z7.out.four
        go_wp2_with fail
        obtain ⟨X, hX, zX, hret⟩ := re_fin (room := room) (arm := arm2) (dead := dead2) (k := E) (c := c7) D7.out Z7.out HR7.out hc7 B7.out (Nat.le_refl _) ⟨by omega, by omega⟩
        rw [← hX]
        obtain ⟨x0, x1, x2, x3, _⟩ := zX.four
        refine bodyPost_ret (v := .tuple #[.agg #[.slice A7 n7 c7, .int .i64 (room : Int), .int .i64 arm2, .bool dead2], .int .i64 E]) (by simp [results, Try.results64, go_sem, x0, x1, x2, x3]; try rfl) rfl ?_
        rw [HE1.out]
        exact hret
end
end Go.Proofs.Ytjpnfhfeabdhiaa
namespace Go.Proofs.Ytjpnfhfeabdhiaa
open Go Go.RowKit Go.Maps
variable {G : Nat → Prop}

theorem putF_low {f : FE} : ∀ {t : List FE}, (∀ q ∈ t, f.1 < q.1) → putF f t = f :: t
  | [], _ => rfl
  | q :: _, h => putF_cons_lt (fun e => nlt_ne (h q (List.mem_cons_self ..)) e.symm) (h q (List.mem_cons_self ..))
theorem putF_del {f : FE} : ∀ {l : List FE}, risingF l → putF f (delF f.1 l) = putF f l
  | [], _ => rfl
  | q :: t, hu => by
    have hh := risingF_head hu
    by_cases e : q.1 = f.1
    · have ed : delF f.1 (q :: t) = t := by
        unfold delF
        rw [List.filter_cons_of_neg (by simpa using e)]
        exact delF_no (fun p hp e2 => nlt_ne (hh p hp) (by rw [e, e2]))
      rw [ed, putF_cons_eq e, putF_low (fun p hp => by rw [← e]; exact hh p hp)]
    · have ed : delF f.1 (q :: t) = q :: delF f.1 t := by
        unfold delF
        rw [List.filter_cons_of_pos (by simpa using e)]
      rw [ed]
      by_cases l : f.1 < q.1
      · have e2 : delF f.1 t = t := delF_no (fun p hp e2 => nlt_ne (nlt_trans l (hh p hp)) e2.symm)
        rw [e2]
      · rw [putF_cons_gt e l, putF_cons_gt e l, putF_del (risingF_tail hu)]
theorem putF_same {f : FE} : ∀ {l : List FE}, risingF l → f ∈ l → putF f l = l
  | [], _, h => by cases h
  | q :: t, hu, h => by
    rcases List.mem_cons.1 h with rfl | h
    · exact putF_cons_eq rfl
    · have h1 := risingF_head hu f h
      rw [putF_cons_gt (nlt_ne h1) (fun h2 => nlt_irrefl _ (nlt_trans h1 h2)), putF_same (risingF_tail hu) h]
theorem delF_comm (x y : List UInt8) (l : List FE) : delF x (delF y l) = delF y (delF x l) := by
  unfold delF
  rw [List.filter_filter, List.filter_filter]
  congr 1
  funext q
  exact Bool.and_comm _ _
theorem renF_eq {x y : List UInt8} {fs : List FE} {g : List UInt8 × Nat} (hu : risingF fs) (hg : getF x fs = some g) : renF x y fs = putF (y, g.1, g.2) (delF x fs) := by
  by_cases e : x = y
  · subst e
    rw [renF, if_pos rfl]
    exact ((putF_del (f := (x, g.1, g.2)) hu).trans (putF_same hu (getF_mem hg))).symm
  · rw [renF, if_neg e, hg, delF_comm]
    exact putF_del (f := (y, g.1, g.2)) (delF_up hu)
theorem bk_file {w : World} {b : Nat} {x : List UInt8} {S T : Option Addr} {sn sc tn tc : Nat} (h : Bk w b #[.string (tx x), .slice S sn sc, .slice T tn tc] 153) {off : Nat} {v : Value} (hv : w.cell? ⟨b, off, none⟩ = some v) : (∀ l, v = .string (tx l) → l = x) ∧ ∀ k, v ≠ .int .u8 k := by
  rw [h.cell off] at hv
  have key : v = .string (tx x) ∨ v = .slice S sn sc ∨ v = .slice T tn tc := by
    match off, hv with
    | 0, hv => simp at hv; exact .inl hv.symm
    | 1, hv => simp at hv; exact .inr (.inl hv.symm)
    | 2, hv => simp at hv; exact .inr (.inr hv.symm)
    | k + 3, hv => simp at hv
  rcases key with rfl | rfl | rfl
  · exact ⟨(fun l e => by injection e with e; exact (tx_inj e).symm), (fun k e => by cases e)⟩
  · exact ⟨(fun l e => by cases e), (fun k e => by cases e)⟩
  · exact ⟨(fun l e => by cases e), (fun k e => by cases e)⟩
theorem Rd.storeF {w w' : World} {b : Nat} {x : List UInt8} {S T B : Option Addr} {sn sc tn tc m : Nat} {xs : List UInt8} (h : Bk w b #[.string (tx x), .slice S sn sc, .slice T tn tc] 153) (hf : Fr w w' [b]) (hr : Rd w B m xs) : Rd w' B m xs := by
  refine ⟨hr.1, fun hm => ?_⟩
  obtain ⟨a, off, rfl, hb, hc⟩ := hr.2 hm
  refine ⟨a, off, rfl, Nat.lt_of_lt_of_le hb hf.size, fun i y hy => ?_⟩
  have hne : a ∉ [b] := fun hm2 => by
    rw [List.mem_singleton] at hm2
    subst hm2
    exact (bk_file h (hc i y hy)).2 _ rfl
  exact (World.cell?_of_block (a := ⟨a, off + i, none⟩) (hf.block a hb hne)).trans (hc i y hy)
theorem FVs.storeF {w w' : World} {b : Nat} {x : List UInt8} {S T : Option Addr} {sn sc tn tc : Nat} (h : Bk w b #[.string (tx x), .slice S sn sc, .slice T tn tc] 153) (hf : Fr w w' [b]) : ∀ {fs : List FE} {vs : List Value}, FVs G w fs vs → FVs G w' fs vs
  | [], _, hv => hv
  | _ :: _, _, ⟨v0, v1, v2, r, e, ⟨h1, h2, S', sn', sc', T', tn', tc', h3, h4, h5, h6, h7⟩, ht⟩ => ⟨v0, v1, v2, r, e, ⟨h1, h2, S', sn', sc', T', tn', tc', h3, h4, h5.storeF h hf, h6.storeF h hf, h7⟩, FVs.storeF h hf ht⟩
theorem RFs.storeF {w w' : World} {b m : Nat} {x : List UInt8} {S T B : Option Addr} {sn sc tn tc : Nat} (h : Bk w b #[.string (tx x), .slice S sn sc, .slice T tn tc] 153) (hf : Fr w w' [b]) {fs : List FE} (hx : ∀ f ∈ fs, f.1 ≠ x) (hr : RFs G w B m fs) : RFs G w' B m fs := by
  obtain ⟨h1, vs, h2, h3⟩ := hr
  refine ⟨h1, vs, h2.storeF h hf, ⟨h3.1.fr hf (fun hm a hb hm2 => ?_), h3.2⟩⟩
  rw [List.mem_singleton] at hm2
  subst hm2
  obtain ⟨b', off, e, _, hc⟩ := h3.1.2 hm
  rw [e] at hb
  injection hb with hb
  simp only at hb
  subst hb
  cases fs with
  | nil => simp at h1; omega
  | cons f t =>
    obtain ⟨v0, v1, v2, r, rfl, ⟨hv, _⟩, _⟩ := h2
    exact hx f (List.mem_cons_self ..) ((bk_file h (hc 0 v0 rfl)).1 _ hv)
/-- The same, where the box holds it already. -/
theorem re_fin2 {w w4 : World} {g2 n c n1 c1 : Nat} {A A1 : Option Addr} {fs : List FE} {room : Nat} {arm k z1 y1 : Int} {dead d1 : Bool}
    (hz : Bk w4 g2 #[.slice A1 n1 c1, .int .i64 z1, .int .i64 y1, .bool d1] 36)
    (hr : RFs G w4 A n fs) (hc : n ≤ c) (hb : Below w.heap.size w w4) (h2 : w.heap.size ≤ g2) :
    ∃ X, X = (((w4.setCell ⟨g2, 0, none⟩ (.slice A n c)).setCell ⟨g2, 1, none⟩ (.int .i64 (room : Int))).setCell ⟨g2, 2, none⟩ (.int .i64 arm)).setCell ⟨g2, 3, none⟩ (.bool dead) ∧
    Bk X g2 #[.slice A n c, .int .i64 (room : Int), .int .i64 arm, .bool dead] 36 ∧ RetRE G w ⟨fs, room, arm, dead⟩ k (.returned (.tuple #[.agg #[.slice A n c, .int .i64 (room : Int), .int .i64 arm, .bool dead], .int .i64 k])) X := by
  refine ⟨_, rfl, hz.put4 rfl _ _ _ _, ?_⟩
  have fX := fr_set4 w4 g2 (.slice A n c) (.int .i64 (room : Int)) (.int .i64 arm) (.bool dead)
  exact ⟨A, n, c, rfl, RFs.store hz fX hr, hc, hb.trans (fX.below (fun b hb => by rw [List.mem_singleton] at hb; omega) hb.size)⟩
/-- A disk's box in a call, behind a change of it. -/
def Box2 (G : Nat → Prop) (w : World) (g : Nat) (room : Nat) (arm : Int) (fs : List FE) (wy : World) : Prop :=
  ∃ A n c, Bk wy g #[.slice A n c, .int .i64 (room : Int), .int .i64 arm, .bool false] 36 ∧ Bk wy (g + 1) #[.slice none 0 0, .int .i64 0, .int .i64 0, .bool false] 36 ∧ RFs G wy A n fs ∧ n ≤ c ∧ Below w.heap.size w wy
theorem Box2.mk {w w7 wy : World} {g n c n0 c0 : Nat} {A A0 : Option Addr} {room : Nat} {arm z0 y0 : Int} {d0 : Bool} {fs : List FE} (hd : Bk w7 g #[.slice A0 n0 c0, .int .i64 z0, .int .i64 y0, .bool d0] 36)
    (hz : Bk w7 (g + 1) #[.slice none 0 0, .int .i64 0, .int .i64 0, .bool false] 36) (hr : RFs G w7 A n fs) (hc : n ≤ c) (hb : Below w.heap.size w w7) (hg : w.heap.size ≤ g)
    (hy : wy = (((w7.setCell ⟨g, 0, none⟩ (.slice A n c)).setCell ⟨g, 1, none⟩ (.int .i64 (room : Int))).setCell ⟨g, 2, none⟩ (.int .i64 arm)).setCell ⟨g, 3, none⟩ (.bool false)) : Box2 G w g room arm fs wy := by
  have fY : Fr w7 wy [g] := by rw [hy]; exact fr_set4 w7 g _ _ _ _
  refine ⟨A, n, c, by rw [hy]; exact hd.put4 rfl _ _ _ _, (fY.block _ hz.lt (by simp)).trans hz, RFs.store hd fY hr, hc, hb.trans (fY.below (fun b hb => by rw [List.mem_singleton] at hb; omega) hb.size)⟩
end Go.Proofs.Ytjpnfhfeabdhiaa
namespace Go.Proofs.Ytjpnfhfeabdhiaa
open Go Go.RowKit Go.Maps
variable {G : Nat → Prop}

/-- What a turning call would answer. -/
def errT (kind : Int) (x : List UInt8) (z : Int) (fs : List FE) : Int := if kind = 4 then cutE6 x z fs else noneE x fs
/-- What a turning call would make of the files. -/
def fsT (kind : Int) (x y : List UInt8) (z : Int) (fs : List FE) : List FE := if kind = 1 then syncF x fs else if kind = 2 then renF x y fs else if kind = 3 then delF x fs else cutF x z.toNat fs
/-- What the file's box and all of its bytes are at. -/
def AllB (U : World) (b : Nat) (f1 : Value) (S T : Option Addr) (sn sc tn tc : Nat) (dat : List UInt8) (v : Value) (wx : World) : Prop :=
  Below U.heap.size U wx ∧ ∃ C n c, v = .slice C n c ∧ n ≤ c ∧ Rd wx C n dat ∧ (∀ a, blk C = some a → U.heap.size ≤ a) ∧ Bk wx b #[f1, .slice S sn sc, .slice T tn tc] 153
section
variable {w : World} {A : Option Addr} {n c : Nat} {room : Nat} {arm : Int}
set_option maxRecDepth 100000 in
set_option maxHeartbeats 8000000 in
theorem rturn_aux (dead : Bool) (kind : Int) (hk : 1 ≤ kind ∧ kind ≤ 4) (x y : List UInt8) (z : Int) (fs : List FE) (h : RFs G w A n fs) (hu : risingF fs) (hn : n ≤ 1099511627776) (hc : n ≤ c) (hus : usedF fs ≤ 1099511627776) (hz : I64 z) (ha : -1 ≤ arm ∧ arm ≤ 9223372036854775807) (hG : ∀ b, w.heap.size ≤ b → G b) (D2 : DS) (E2 : Int) (hDE : Hid (doneD ⟨fs, room, arm, dead⟩ (errT kind x z fs) (fsT kind x y z fs) = (D2, E2))) :
    Calls Try.prog 65 #[.agg #[.slice A n c, .int .i64 (room : Int), .int .i64 arm, .bool dead], .int .i64 kind, .string (tx x), .string (tx y), .int .i64 z] w (RetRE G w D2 E2) := by
  have HH := Lib.hid h
  have HU := Lib.hid hu
  have HGG := Lib.hid hG
  unfold I64 at hz
  clear hu hG
  obtain ⟨g, hg⟩ : ∃ g, g = (getF x fs).getD ([], 0) := ⟨_, rfl⟩
  have hgl : g.1.length ≤ usedF fs := by
    rw [hg]
    cases hgg : getF x fs with
    | none => simp
    | some g => exact usedF_mem (getF_mem hgg)
  obtain ⟨th, hth⟩ : ∃ th, th = (getF x fs).isSome := ⟨_, rfl⟩
  have HG := Lib.hid hg
  have HT := Lib.hid hth
  go_enter Try.func65, Try.ntmps65
  go_wp2_with fail
  obtain ⟨W, hW⟩ : ∃ W, W = (w.alloc (.cells #[.slice A n c, .int .i64 (room : Int), .int .i64 arm, .bool dead] 36)).alloc (.cells #[.slice none 0 0, .int .i64 0, .int .i64 0, .bool false] 36) := ⟨_, rfl⟩
  rw [← hW]
  have bW : Below w.heap.size w W := by rw [hW]; exact ((Below.refl _ _).alloc (Nat.le_refl _) _).alloc (by simp) _
  have sW : W.heap.size = w.heap.size + 2 := by rw [hW]; simp
  have dW : Bk W w.heap.size #[.slice A n c, .int .i64 (room : Int), .int .i64 arm, .bool dead] 36 := by rw [hW]; exact (Bk.new _ _ _).below ((Below.refl _ _).alloc (Nat.le_refl _) _)
  have zW : Bk W (w.heap.size + 1) #[.slice none 0 0, .int .i64 0, .int .i64 0, .bool false] 36 := by
    rw [hW]
    have := Bk.new (w.alloc (.cells #[.slice A n c, .int .i64 (room : Int), .int .i64 arm, .bool dead] 36)) #[.slice none 0 0, .int .i64 0, .int .i64 0, .bool false] 36
    simpa using this
  have sW2 : w.heap.size + 2 ≤ W.heap.size := by omega
  have hgc := get_any (w := W) (A := A) (n := n) (c := c) (room := room) (arm := arm) dead x fs (h.below bW) HU.out hn
  unfold RetGet at hgc
  rw [← hg, ← hth] at hgc
  have HGC := Lib.hid hgc
  clear hW sW hgc h hg hth
  refine HGC.out.mono ?_
  clear HGC
  rintro e w3 ⟨v0, v1, v2, rfl, ⟨rfl, hsl, S, sn, sc, T, tn, tc, rfl, rfl, r1, r2, q1, q2, gs, gt⟩, hb3⟩
  have GS := Lib.hid gs
  have GT := Lib.hid gt
  clear gs gt
  have D3 := Lib.hid (dW.below hb3)
  have Z3 := Lib.hid (zW.below hb3)
  have B3 := Lib.hid (bW.trans (hb3.mono (by omega)))
  have s3 := hb3.size
  have R1 := Lib.hid r1
  have R2 := Lib.hid r2
  have HSL := Lib.hid hsl
  have hsn := r1.len
  have htn := r2.len
  simp only [List.length_take, List.length_drop] at hsn htn
  have hsn2 : sn ≤ 1099511627776 := by omega
  have htn2 : tn ≤ 1099511627776 := by omega
  have hst : sn + tn = g.1.length := by simp only at hsl; omega
  have HST := Lib.hid hst
  clear dW zW bW hb3 r1 r2 hsl hsn htn hst
  obtain ⟨e0, e1, e2, e3, y0, y1, y2, y3⟩ := D3.out.four
  go_upto_if 25 with (fail)
  obtain ⟨U, hU⟩ : ∃ U, U = w3.alloc (.cells #[.string (tx x), .slice S sn sc, .slice T tn tc] 153) := ⟨_, rfl⟩
  rw [← hU]
  have bU : Below w3.heap.size w3 U := by rw [hU]; exact (Below.refl _ _).alloc (Nat.le_refl _) _
  have sU : U.heap.size = w3.heap.size + 1 := by rw [hU]; simp
  have fU : Bk U w3.heap.size #[.string (tx x), .slice S sn sc, .slice T tn tc] 153 := by rw [hU]; exact Bk.new _ _ _
  have FU := Lib.hid fU
  have BU := Lib.hid bU
  have sU2 : w3.heap.size < U.heap.size := by omega
  have SU3 : Hid (w.heap.size ≤ U.heap.size) := Lib.hid (by have := B3.out.size; omega)
  obtain ⟨f0, f1, f2, _⟩ := fU.three
  clear hU fU bU sU e0 e1 e2 e3 y0 y1 y2 y3
  obtain ⟨e1, he1⟩ : ∃ e1 : Int, e1 = if th = true then 0 else 6 := ⟨_, rfl⟩
  have HE := Lib.hid he1
  clear he1
  go_cut [14] (fun s14 wx => s14 = .int .i64 e1 ∧ U = wx)
  case first =>
    cases th with
    | true =>
      go_wp2_with fail
      go_meet
      exact ⟨by rw [HE.out]; rfl, rfl⟩
    | false =>
      go_wp2_with fail
      go_meet
      exact ⟨by rw [HE.out]; rfl, rfl⟩
  case rest =>
  obtain ⟨rfl, rfl⟩ := hcut
  go_upto_region 5 with (fail)
  go_cut [15] (fun s15 wx => AllB U w3.heap.size (.string (tx x)) S T sn sc tn tc g.1 s15 wx)
  case first =>
    go_region_law (first | (go_simp; go_at_call 40; refine (Copy_any S sn sc _ _ ((R1.out.below BU.out).drew) (Nat.le_trans hsn2 (by decide))).mono ?_; rintro e w4 ⟨C, cn, cc, rfl, oc, hb4⟩; have hcn : cn = sn := (oc.len.symm.trans R1.out.len); subst hcn; have q2 := (hb4.cell (p := ⟨w3.heap.size, 2, none⟩) (by show w3.heap.size < U.heap.size; omega)).trans f2) | (refine step_app _ rfl _ _ 30 rfl U.heap.size 5 Try.underlying30 info_u8 C cn cc _ (by simp [Act.eval]) oc T tn tc _ (by simp [Act.eval]) (((R2.out.below BU.out).drew).below hb4) (by omega) hb4.size ?_; intro C2 c2 w5 oc2 hb5))
    all_goals
      have hb6 : Below U.heap.size U w5 := ((Below.refl _ _).drew.trans hb4).trans hb5
      have hcap := oc2.cap
      have hrd := oc2.rd
      rw [List.take_append_drop] at hrd
      have HQ : Hid (AllB U w3.heap.size (.string (tx x)) S T cn sc tn tc g.1 (.slice C2 (cn + tn) c2) w5) := Lib.hid ⟨hb6, C2, cn + tn, c2, rfl, hcap.1, hrd, fun a ha => (oc2.lt a ha).1, FU.out.below hb6⟩
      clear hb4 hb5 oc oc2 hb6 hrd hcap
      go_wp2_with fail
      go_meet
      exact HQ.out
  case rest =>
  obtain ⟨hbx, C, cn, cc, rfl, hcc, hcr, hcb, fx⟩ := hcut
  have hcn : cn = g.1.length := hcr.len.symm
  have sx := hbx.size
  have DX := Lib.hid ((D3.out.below BU.out).below hbx)
  have ZX := Lib.hid ((Z3.out.below BU.out).below hbx)
  have BX := Lib.hid (B3.out.trans ((BU.out.trans (hbx.mono (by omega))).mono B3.out.size))
  have FX := Lib.hid fx
  have CR := Lib.hid hcr
  have CB := Lib.hid hcb
  have CN := Lib.hid hcn
  have S1 := Lib.hid ((R1.out.below BU.out).below hbx)
  have S2 := Lib.hid ((R2.out.below BU.out).below hbx)
  have hcn2 : cn ≤ 1099511627776 := by omega
  clear hcn
  clear hbx fx hcr hcb D3 Z3 B3 FU BU f0 f1 f2
  go_upto_region 6 with (fail)
  go_cut [46] (fun s46 wy => s46 = .bool (decide (kind = 4) && (decide (z < 0) || (th && decide ((cn : Int) < z)))) ∧ wc = wy)
  case first =>
    by_cases k4 : kind = 4
    · subst k4
      by_cases z0 : z < 0
      · have t1 : decide (z < 0) = true := by simpa using z0
        cases th <;> (go_wp2_with fail; go_meet; exact ⟨by simp [z0], rfl⟩)
      · have t1 : decide (z < 0) = false := by simpa using z0
        cases th with
        | false => go_wp2_with fail; go_meet; exact ⟨by simp [z0], rfl⟩
        | true => go_wp2_with fail; go_meet; exact ⟨by rw [t1]; simp, rfl⟩
    · have t1 : decide (kind = 4) = false := by simpa using k4
      have t2 : (kind == 4) = false := by simpa using k4
      go_wp2_with fail
      go_meet
      exact ⟨by simp [k4], rfl⟩
  case rest =>
  obtain ⟨rfl, rfl⟩ := hcut
  obtain ⟨tb, htb⟩ : ∃ tb, tb = (decide (kind = 4) && (decide (z < 0) || (th && decide ((cn : Int) < z)))) := ⟨_, rfl⟩
  obtain ⟨E, hE⟩ : ∃ E, E = errT kind x z fs := ⟨_, rfl⟩
  have hET : E = if tb = true then 1 else e1 := by
    rw [hE, htb, HE.out, CN.out, HG.out, HT.out, errT]
    unfold cutE6 noneE
    cases getF x fs with
    | none =>
      by_cases k4 : kind = 4
      · by_cases z0 : z < 0 <;> simp [k4, z0]
      · simp [k4]
    | some q =>
      by_cases k4 : kind = 4
      · by_cases z0 : z < 0
        · simp [k4, z0]
        · by_cases zl : (q.1.length : Int) < z <;> simp [k4, z0, zl]
      · simp [k4]
  rw [← htb]
  have HTB := Lib.hid htb
  have HEE := Lib.hid hE
  have HET := Lib.hid hET
  clear htb hE hET
  go_upto_if 46 with (fail)
  go_cut [14] (fun s14 wy => s14 = .int .i64 E ∧ wc = wy)
  case first =>
    cases tb with
    | true =>
      go_wp2_with fail
      go_meet
      exact ⟨by rw [HET.out]; rfl, rfl⟩
    | false =>
      go_wp2_with fail
      go_meet
      exact ⟨by rw [HET.out]; rfl, rfl⟩
  case rest =>
  obtain ⟨rfl, rfl⟩ := hcut
  obtain ⟨e0, e1', e2, e3, y0, y1, y2, y3⟩ := DX.out.four
  obtain ⟨g0, g1, g2, g3, k0, k1, k2, k3⟩ := ZX.out.four
  by_cases hok : dead = false ∧ E = 0 ∧ arm ≠ 0
  · obtain ⟨rfl, hE0, ha0⟩ := hok
    have hth : th = true ∧ (kind = 4 → 0 ≤ z ∧ z ≤ (cn : Int)) := by
      have h1 := HET.out
      have h2 := HTB.out
      have h3 := HE.out
      rw [hE0] at h1
      cases tb with
      | true => simp at h1
      | false =>
        cases th with
        | false => exfalso; simp at h1 h3; omega
        | true =>
          refine ⟨rfl, fun k4 => ?_⟩
          rw [k4] at h2
          simp at h2
          omega
    obtain ⟨rfl, hz4⟩ := hth
    obtain ⟨g', hg'⟩ : ∃ g', getF x fs = some g' := Option.isSome_iff_exists.1 HT.out.symm
    have hgg : g = g' := by rw [HG.out, hg']; rfl
    subst hgg
    have hM := fun W' => may_ok (w := W') (A := A) (n := n) (c := c) (room := room) ha0 ha
    have HM := Lib.hid hM
    have HD := Lib.hid (show doneD ⟨fs, room, arm, false⟩ E (fsT kind x y z fs) = (⟨fsT kind x y z fs, room, armN arm, false⟩, 0) by rw [hE0, doneD_ok (fun h => Bool.noConfusion h) ha0])
    have HGF := Lib.hid hg'
    have HHE := Lib.hid hE0
    subst hE0
    clear hM hg'
    go_wp2_with fail
    ((with_reducible refine (HM.out wc).mono ?_))
    rintro e w5 ⟨rfl, hb5⟩
    have D5 := Lib.hid (DX.out.below hb5)
    have Z5 := Lib.hid (ZX.out.below hb5)
    have B5 := Lib.hid (BX.out.trans (hb5.mono (by omega)))
    have F5 := Lib.hid (FX.out.below hb5)
    have C5 := Lib.hid (CR.out.below hb5)
    have S15 := Lib.hid (S1.out.below hb5)
    have S25 := Lib.hid (S2.out.below hb5)
    have s5 := hb5.size
    clear e0 e1' e2 e3 y0 y1 y2 y3 g0 g1 g2 g3 k0 k1 k2 k3 hb5
    obtain ⟨e0, e1', e2, e3, y0, y1, y2, y3⟩ := D5.out.four
    have hgl2 := HSL.out
    obtain ⟨f0, f1, f2, u0, u1, u2⟩ := F5.out.three
    go_upto_block 0 with (fail)
    obtain ⟨Y, hY⟩ : ∃ Y, Y = (((w5.setCell ⟨w.heap.size, 0, none⟩ (.slice A n c)).setCell ⟨w.heap.size, 1, none⟩ (.int .i64 (room : Int))).setCell ⟨w.heap.size, 2, none⟩ (.int .i64 (armN arm))).setCell ⟨w.heap.size, 3, none⟩ (.bool false) := ⟨_, rfl⟩
    rw [← hY]
    have fY : Fr w5 Y [w.heap.size] := by rw [hY]; exact fr_set4 w5 _ _ _ _ _
    have dY : Bk Y w.heap.size #[.slice A n c, .int .i64 (room : Int), .int .i64 (armN arm), .bool false] 36 := by rw [hY]; exact D5.out.put4 rfl _ _ _ _
    have zY : Bk Y (w.heap.size + 1) #[.slice none 0 0, .int .i64 0, .int .i64 0, .bool false] 36 := (fY.block _ Z5.out.lt (by simp)).trans Z5.out
    have tY : Bk Y w3.heap.size #[.string (tx x), .slice S sn sc, .slice T tn tc] 153 := (fY.block _ F5.out.lt (by rw [List.mem_singleton]; omega)).trans F5.out
    have bY : Below w.heap.size w Y := B5.out.trans (fY.below (fun b hb => by rw [List.mem_singleton] at hb; omega) B5.out.size)
    have cY := C5.out.store D5.out fY
    have sY := fY.size
    have DY := Lib.hid dY
    have ZY := Lib.hid zY
    have TY := Lib.hid tY
    have BY := Lib.hid bY
    have CY := Lib.hid cY
    have RY := Lib.hid (HH.out.below bY)
    have S1Y := Lib.hid (S15.out.store D5.out fY)
    have S2Y := Lib.hid (S25.out.store D5.out fY)
    clear hY fY e0 e1' e2 e3 y0 y1 y2 y3 f0 f1 f2 u0 u1 u2 zY tY bY cY
    obtain ⟨e0, e1', e2, e3, y0, y1, y2, y3⟩ := dY.four
    clear dY
    go_cut [60, 67, 77, 82] (fun s60 s67 s77 s82 wy => Box2 G w w.heap.size room (armN arm) (fsT kind x y z fs) wy)
    case first =>
      by_cases c1 : kind = 1
      · subst c1
        have hfs : fsT 1 x y z fs = putF (x, g.1, g.1.length) fs := by rw [fsT, if_pos rfl, syncF, HGF.out]
        have HFS := Lib.hid hfs
        have HFV : Hid (FV G Y (x, g.1, g.1.length) (.string (tx x)) (.slice C cn cc) (.slice none 0 0)) := Lib.hid ⟨rfl, Nat.le_refl _, C, cn, cc, none, 0, 0, rfl, rfl, by simpa using CY.out, by simpa using Rd.nil Y none, hcc, Nat.le_refl _, (fun _ b hb => HGG.out b (by have := CB.out b hb; have := SU3.out; omega)), Gd.zero⟩
        clear hfs hz4
        go_wp2_with fail
        refine (rwith_any false _ _ _ _ fs RY.out HFV.out HU.out hn hc (fun b hb => HGG.out b (Nat.le_trans BY.out.size hb))).mono ?_
        rintro e w7 ⟨A7, n7, c7, rfl, hr7, hc7, hb7⟩
        have HB : Hid (∀ wy, wy = (((w7.setCell ⟨w.heap.size, 0, none⟩ (.slice A7 n7 c7)).setCell ⟨w.heap.size, 1, none⟩ (.int .i64 (room : Int))).setCell ⟨w.heap.size, 2, none⟩ (.int .i64 (armN arm))).setCell ⟨w.heap.size, 3, none⟩ (.bool false) → Box2 G w w.heap.size room (armN arm) (fsT 1 x y z fs) wy) := Lib.hid (fun wy hy => by
          rw [HFS.out]
          exact Box2.mk (DY.out.below hb7) (ZY.out.below hb7) hr7 hc7 (BY.out.trans (hb7.mono BY.out.size)) (Nat.le_refl _) hy)
        clear e0 e1' e2 e3 y0 y1 y2 y3
        obtain ⟨e0, e1', e2, e3, y0, y1, y2, y3⟩ := (DY.out.below hb7).four
        clear hb7 hr7
        go_wp2_with fail
        go_meet
        exact HB.out _ rfl
      by_cases c3 : kind = 3
      · subst c3
        have hfs : fsT 3 x y z fs = delF x fs := by rw [fsT, if_neg (by decide), if_neg (by decide), if_pos rfl]
        have HFS := Lib.hid hfs
        clear hfs hz4 c1
        go_wp2_with fail
        refine (rout_any false x fs RY.out HU.out hn hc (fun b hb => HGG.out b (Nat.le_trans BY.out.size hb))).mono ?_
        rintro e w7 ⟨A7, n7, c7, rfl, hr7, hc7, hb7⟩
        have HB : Hid (∀ wy, wy = (((w7.setCell ⟨w.heap.size, 0, none⟩ (.slice A7 n7 c7)).setCell ⟨w.heap.size, 1, none⟩ (.int .i64 (room : Int))).setCell ⟨w.heap.size, 2, none⟩ (.int .i64 (armN arm))).setCell ⟨w.heap.size, 3, none⟩ (.bool false) → Box2 G w w.heap.size room (armN arm) (fsT 3 x y z fs) wy) := Lib.hid (fun wy hy => by
          rw [HFS.out]
          exact Box2.mk (DY.out.below hb7) (ZY.out.below hb7) hr7 hc7 (BY.out.trans (hb7.mono BY.out.size)) (Nat.le_refl _) hy)
        clear e0 e1' e2 e3 y0 y1 y2 y3
        obtain ⟨e0, e1', e2, e3, y0, y1, y2, y3⟩ := (DY.out.below hb7).four
        clear hb7 hr7
        go_wp2_with fail
        go_meet
        exact HB.out _ rfl
      by_cases c2 : kind = 2
      · subst c2
        have hfs : fsT 2 x y z fs = putF (y, g.1, g.2) (delF x fs) := by rw [fsT, if_neg (by decide), if_pos rfl, renF_eq HU.out HGF.out]
        have HFS := Lib.hid hfs
        clear hfs hz4 c1 c3
        go_wp2_with fail
        refine (rout_any false x fs RY.out HU.out hn hc (fun b hb => HGG.out b (Nat.le_trans BY.out.size hb))).mono ?_
        rintro e w6 ⟨A6, n6, c6, rfl, hr6, hc6, hb6⟩
        have D6 := Lib.hid (DY.out.below hb6)
        have Z6 := Lib.hid (ZY.out.below hb6)
        have T6 := Lib.hid (TY.out.below hb6)
        have B6 := Lib.hid (BY.out.trans (hb6.mono BY.out.size))
        have s6 := hb6.size
        have HR6 := Lib.hid hr6
        have HB6 := Lib.hid hb6
        have hn6 := hr6.len
        have hdl : (delF x fs).length ≤ fs.length := List.length_filter_le _ _
        have hn62 : n6 ≤ 1099511627776 := by have := HH.out.len; omega
        clear e0 e1' e2 e3 y0 y1 y2 y3 hb6 hr6 hn6 hdl
        obtain ⟨e0, e1', e2, e3, y0, y1, y2, y3⟩ := D6.out.four
        obtain ⟨f0, f1, f2, u0, u1, u2⟩ := T6.out.three
        go_wp2_with fail
        obtain ⟨V, hV⟩ : ∃ V, V = ((((w6.setCell ⟨w.heap.size, 0, none⟩ (.slice A6 n6 c6)).setCell ⟨w.heap.size, 1, none⟩ (.int .i64 (room : Int))).setCell ⟨w.heap.size, 2, none⟩ (.int .i64 (armN arm))).setCell ⟨w.heap.size, 3, none⟩ (.bool false)).setCell ⟨w3.heap.size, 0, none⟩ (.string (tx y)) := ⟨_, rfl⟩
        rw [← hV]
        obtain ⟨Z, hZ⟩ : ∃ Z, Z = (((w6.setCell ⟨w.heap.size, 0, none⟩ (.slice A6 n6 c6)).setCell ⟨w.heap.size, 1, none⟩ (.int .i64 (room : Int))).setCell ⟨w.heap.size, 2, none⟩ (.int .i64 (armN arm))).setCell ⟨w.heap.size, 3, none⟩ (.bool false) := ⟨_, rfl⟩
        rw [← hZ] at hV
        have fZ : Fr w6 Z [w.heap.size] := by rw [hZ]; exact fr_set4 w6 _ _ _ _ _
        have dZ : Bk Z w.heap.size #[.slice A6 n6 c6, .int .i64 (room : Int), .int .i64 (armN arm), .bool false] 36 := by rw [hZ]; exact D6.out.put4 rfl _ _ _ _
        have zZ := (fZ.block _ Z6.out.lt (by simp)).trans Z6.out
        have tZ : Bk Z w3.heap.size #[.string (tx x), .slice S sn sc, .slice T tn tc] 153 := (fZ.block _ T6.out.lt (by rw [List.mem_singleton]; omega)).trans T6.out
        have fV : Fr Z V [w3.heap.size] := by rw [hV]; exact Fr.set _ _ _ _
        have dV : Bk V w.heap.size #[.slice A6 n6 c6, .int .i64 (room : Int), .int .i64 (armN arm), .bool false] 36 := (fV.block _ dZ.lt (by rw [List.mem_singleton]; omega)).trans dZ
        have zV : Bk V (w.heap.size + 1) #[.slice none 0 0, .int .i64 0, .int .i64 0, .bool false] 36 := (fV.block _ (Array.getElem?_eq_some_iff.1 zZ).1 (by rw [List.mem_singleton]; omega)).trans zZ
        have bV : Below w.heap.size w V := (B6.out.trans (fZ.below (fun b hb => by rw [List.mem_singleton] at hb; omega) B6.out.size)).trans (fV.below (fun b hb => by rw [List.mem_singleton] at hb; omega) (by have := fZ.size; have := B6.out.size; omega))
        have rV : RFs G V A6 n6 (delF x fs) := RFs.storeF tZ fV (fun q hq => (mem_delF.1 hq).2) (RFs.store D6.out fZ HR6.out)
        have v1 : Rd V S sn (g.1.take g.2) := ((S1Y.out.below (by exact HB6.out)).store D6.out fZ).storeF tZ fV
        have v2 : Rd V T tn (g.1.drop g.2) := ((S2Y.out.below (by exact HB6.out)).store D6.out fZ).storeF tZ fV
        have HFV : Hid (FV G V (y, g.1, g.2) (.string (tx y)) (.slice S sn sc) (.slice T tn tc)) := Lib.hid ⟨rfl, HSL.out, S, sn, sc, T, tn, tc, rfl, rfl, v1, v2, q1, q2, GS.out, GT.out⟩
        have DV := Lib.hid dV
        have ZV := Lib.hid zV
        have BV := Lib.hid bV
        have RV := Lib.hid rV
        clear hV hZ fZ dZ zZ tZ fV dV zV bV rV v1 v2 e0 e1' e2 e3 y0 y1 y2 y3 f0 f1 f2 u0 u1 u2
        refine (rwith_any false _ _ _ _ (delF x fs) RV.out HFV.out (delF_up HU.out) hn62 hc6 (fun b hb => HGG.out b (Nat.le_trans BV.out.size hb))).mono ?_
        rintro e w7 ⟨A7, n7, c7, rfl, hr7, hc7, hb7⟩
        have HB : Hid (∀ wy, wy = (((w7.setCell ⟨w.heap.size, 0, none⟩ (.slice A7 n7 c7)).setCell ⟨w.heap.size, 1, none⟩ (.int .i64 (room : Int))).setCell ⟨w.heap.size, 2, none⟩ (.int .i64 (armN arm))).setCell ⟨w.heap.size, 3, none⟩ (.bool false) → Box2 G w w.heap.size room (armN arm) (fsT 2 x y z fs) wy) := Lib.hid (fun wy hy => by
          rw [HFS.out]
          exact Box2.mk (DV.out.below hb7) (ZV.out.below hb7) hr7 hc7 (BV.out.trans (hb7.mono BV.out.size)) (Nat.le_refl _) hy)
        obtain ⟨e0, e1', e2, e3, y0, y1, y2, y3⟩ := (DV.out.below hb7).four
        clear hb7 hr7
        go_wp2_with fail
        go_meet
        exact HB.out _ rfl
      · obtain rfl : kind = 4 := by omega
        have hz5 := hz4 rfl
        have hfs : fsT 4 x y z fs = putF (x, g.1.take z.toNat, z.toNat) fs := by rw [fsT, if_neg (by decide), if_neg (by decide), if_neg (by decide), cutF, HGF.out]
        have HFS := Lib.hid hfs
        clear hfs hz4 c1 c2 c3
        obtain ⟨k, rfl⟩ : ∃ k : Nat, z = (k : Int) := ⟨z.toNat, by omega⟩
        have hkc : k ≤ cn := by omega
        have hkt : (k : Int).toNat = k := by omega
        have hk40 : k ≤ 140737488355328 := by omega
        have hcl : ∀ w, (Instr.slice 30 (.slice C cn cc) none (some (.int .i64 (k : Int))) none).run Try.prog w = .ok (.slice C k cc) w := fun w => cut_h Try.underlying30 rfl (fun w => by kernel_rfl) C (by omega) w
        have CP : Hid (Rd Y C k (g.1.take k)) := Lib.hid (by
          have := CN.out
          refine ⟨by rw [List.length_take]; omega, fun hn => ?_⟩
          obtain ⟨b, off, h1, h2, h3⟩ := CY.out.2 (by omega)
          refine ⟨b, off, h1, h2, fun i v hv => h3 i v ?_⟩
          rw [List.getElem?_take] at hv
          split at hv
          · exact hv
          · cases hv)
        have HKG : Hid (k ≤ g.1.length) := Lib.hid (by have := CN.out; omega)
        clear hz5 hz
        go_upto_region 21 with (fail)
        go_region_law (first | (go_simp; go_at_call 40; refine (Copy_any C k cc _ _ (CP.out.drew) hk40).mono ?_; rintro e w6 ⟨Q, qn, qc, rfl, oq, hb6⟩; have hqn : qn = k := (oq.len.symm.trans CP.out.len); subst hqn; obtain ⟨p0, p1, p2, p3, p4, p5, p6, p7⟩ := (Bk.below (w := Y.drew) DY.out hb6).four) | (go_simp; go_at_call 104; refine (rwith_any false (x, g.1.take qn, qn) _ _ _ fs ((RFs.drewN RY.out 1).below hb6) ⟨rfl, (by simp only [List.length_take]; have := HKG.out; omega), Q, qn, qc, none, 0, 0, rfl, rfl, (by simpa [List.take_take] using oq.rd), (by simpa using Rd.nil w6 none), oq.cap.1, Nat.le_refl _, (fun _ b hb => HGG.out b (by have := (oq.lt b hb).1; have h2 := BY.out.size; exact Nat.le_trans h2 this)), Gd.zero⟩ HU.out hn hc (fun b hb => HGG.out b (by have h2 := BY.out.size; have h3 : Y.heap.size ≤ w6.heap.size := hb6.size; exact Nat.le_trans (Nat.le_trans h2 h3) hb))).mono ?_; rintro e w7 ⟨A7, n7, c7, rfl, hr7, hc7, hb7⟩; obtain ⟨m0, m1, m2, m3, m4, m5, m6, m7⟩ := (Bk.below (Bk.below (w := Y.drew) DY.out hb6) hb7).four))
        all_goals
          rw [hkt] at HFS
          have HB : Hid (∀ wy, wy = (((w7.setCell ⟨w.heap.size, 0, none⟩ (.slice A7 n7 c7)).setCell ⟨w.heap.size, 1, none⟩ (.int .i64 (room : Int))).setCell ⟨w.heap.size, 2, none⟩ (.int .i64 (armN arm))).setCell ⟨w.heap.size, 3, none⟩ (.bool false) → Box2 G w w.heap.size room (armN arm) (fsT 4 x y (qn : Int) fs) wy) := Lib.hid (fun wy hy => by
            rw [HFS.out]
            exact Box2.mk ((Bk.below (w := Y.drew) DY.out hb6).below hb7) ((Bk.below (w := Y.drew) ZY.out hb6).below hb7) hr7 hc7 ((BY.out.drew.trans (hb6.mono BY.out.size)).trans (hb7.mono (by have := hb6.size; have h2 := BY.out.size; exact Nat.le_trans h2 this))) (Nat.le_refl _) hy)
          clear hb6 hb7 hr7 oq
          go_wp2_with fail
          go_meet
          exact HB.out _ rfl
    case rest =>
      obtain ⟨A7, n7, c7, hd7, hz7, hr7, hc7, hb7⟩ := hcut
      have Z7 := Lib.hid hz7
      have HR7 := Lib.hid hr7
      have B7 := Lib.hid hb7
      clear e0 e1' e2 e3 y0 y1 y2 y3 hr7 hb7
      obtain ⟨e0, e1', e2, e3, _⟩ := hd7.four
      obtain ⟨g0, g1, g2, g3, k0, k1, k2, k3⟩ := hz7.four
      clear hd7 hz7 hz4 hk hz ha hgl hgl2 hcn2 hsn2 htn2 q1 q2 s3 sW2 sU2 sx s5 sY hus hcc ha0
      clear R1 R2 HSL HST CN CB CR FX ZX BX DX D5 Z5 B5 F5 C5 DY ZY TY BY CY RY HG HT HGF HM HTB HET HE HHE HH HU
      go_wp2_with fail
      obtain ⟨X, hX, zX, hret⟩ := re_fin2 (room := room) (arm := armN arm) (dead := false) (k := 0) (c := c7) Z7.out HR7.out hc7 B7.out (by omega)
      rw [← hX]
      obtain ⟨x0, x1, x2, x3, _⟩ := zX.four
      refine bodyPost_ret (v := .tuple #[.agg #[.slice A7 n7 c7, .int .i64 (room : Int), .int .i64 (armN arm), .bool false], .int .i64 0]) (by simp [results, Try.results65, go_sem, x0, x1, x2, x3]; try rfl) rfl ?_
      have hde := hDE.out
      rw [← HEE.out, HD.out] at hde
      injection hde with h1 h2
      rw [← h1, ← h2]
      exact hret
  · obtain ⟨dead2, E3, kill, hd, hm⟩ : ∃ (dead2 : Bool) (E2 : Int) (kill : Bool), doneD ⟨fs, room, arm, dead⟩ E (fsT kind x y z fs) = (⟨fs, room, arm, dead2⟩, E2) ∧ ∀ W', Calls Try.prog 102 #[.agg #[.slice A n c, .int .i64 (room : Int), .int .i64 arm, .bool dead], .int .i64 E] W' (RetMay W' (.slice A n c) room arm dead2 false E2 kill) := by
      cases dead with
      | true => exact ⟨true, 9, false, doneD_dead rfl, fun W' => may_dead⟩
      | false =>
        by_cases hE0 : E = 0
        · have ha0 : arm = 0 := Classical.byContradiction fun h => hok ⟨rfl, hE0, h⟩
          rw [hE0, ha0]
          exact ⟨true, 9, true, by rw [doneD_kill (fun h => Bool.noConfusion h) rfl], fun W' => may_kill⟩
        · exact ⟨false, E, false, doneD_err (fun h => Bool.noConfusion h) hE0, fun W' => may_err hE0⟩
    have HD := Lib.hid hd
    have HM := Lib.hid hm
    clear hd hm hok
    go_wp2_with fail
    refine (HM.out wc).mono ?_
    rintro e w5 ⟨rfl, hb5⟩
    have D5 := Lib.hid (DX.out.below hb5)
    have Z5 := Lib.hid (ZX.out.below hb5)
    have B5 := Lib.hid (BX.out.trans (hb5.mono (by omega)))
    clear e0 e1' e2 e3 y0 y1 y2 y3 g0 g1 g2 g3 k0 k1 k2 k3 hb5
    obtain ⟨e0, e1', e2, e3, y0, y1, y2, y3⟩ := D5.out.four
    obtain ⟨g0, g1, g2, g3, k0, k1, k2, k3⟩ := Z5.out.four
    go_wp2_with fail
    obtain ⟨X, hX, zX, hret⟩ := re_fin (room := room) (arm := arm) (dead := dead2) (k := E3) (c := c) D5.out Z5.out (HH.out.below B5.out) hc B5.out (Nat.le_refl _) ⟨by omega, by omega⟩
    rw [← hX]
    obtain ⟨x0, x1, x2, x3, _⟩ := zX.four
    refine bodyPost_ret (v := .tuple #[.agg #[.slice A n c, .int .i64 (room : Int), .int .i64 arm, .bool dead2], .int .i64 E3]) (by simp [results, Try.results65, go_sem, x0, x1, x2, x3]; try rfl) rfl ?_
    have hde := hDE.out
    rw [← HEE.out, HD.out] at hde
    injection hde with h1 h2
    rw [← h1, ← h2]
    exact hret
theorem rturn_any (dead : Bool) (kind : Int) (hk : 1 ≤ kind ∧ kind ≤ 4) (x y : List UInt8) (z : Int) (fs : List FE) (h : RFs G w A n fs) (hu : risingF fs) (hn : n ≤ 1099511627776) (hc : n ≤ c) (hus : usedF fs ≤ 1099511627776) (hz : I64 z) (ha : -1 ≤ arm ∧ arm ≤ 9223372036854775807) (hG : ∀ b, w.heap.size ≤ b → G b) :
    Calls Try.prog 65 #[.agg #[.slice A n c, .int .i64 (room : Int), .int .i64 arm, .bool dead], .int .i64 kind, .string (tx x), .string (tx y), .int .i64 z] w (RetRE G w (doneD ⟨fs, room, arm, dead⟩ (errT kind x z fs) (fsT kind x y z fs)).1 (doneD ⟨fs, room, arm, dead⟩ (errT kind x z fs) (fsT kind x y z fs)).2) :=
  rturn_aux dead kind hk x y z fs h hu hn hc hus hz ha hG _ _ (Lib.hid rfl)
end
end Go.Proofs.Ytjpnfhfeabdhiaa
namespace Go.Proofs.Ytjpnfhfeabdhiaa
open Go Go.RowKit Go.Maps
variable {G : Nat → Prop}

section
variable {w : World} {A : Option Addr} {n c : Nat} {room : Nat} {arm : Int}
set_option maxRecDepth 100000 in
set_option maxHeartbeats 4000000 in
theorem rread_any (dead : Bool) (x : List UInt8) (fs : List FE) (h : RFs G w A n fs) (hu : risingF fs) (hn : n ≤ 1099511627776) (hus : usedF fs ≤ 1099511627776) :
    Calls Try.prog 72 #[.agg #[.slice A n c, .int .i64 (room : Int), .int .i64 arm, .bool dead], .string (tx x)] w (RetRd w (readD ⟨fs, room, arm, dead⟩ x).1 (readD ⟨fs, room, arm, dead⟩ x).2) := by
  cases dead with
  | true =>
    have e : readD ⟨fs, room, arm, true⟩ x = ([], 9) := by rw [readD, if_pos rfl]
    rw [e]
    go_enter Try.func72, Try.ntmps72
    go_wp2
    go_ret2
    exact ⟨none, 0, 0, rfl, Own.nil _ _ _, (Below.refl _ _).alloc (Nat.le_refl _) _⟩
  | false =>
    obtain ⟨g, hg⟩ : ∃ g, g = (getF x fs).getD ([], 0) := ⟨_, rfl⟩
    have hgl : g.1.length ≤ usedF fs := by
      rw [hg]
      cases hgg : getF x fs with
      | none => simp
      | some g => exact usedF_mem (getF_mem hgg)
    obtain ⟨th, hth⟩ : ∃ th, th = (getF x fs).isSome := ⟨_, rfl⟩
    obtain ⟨D1, hD1⟩ : ∃ D1, D1 = readD ⟨fs, room, arm, false⟩ x := ⟨_, rfl⟩
    rw [← hD1]
    have he : D1 = if th = true then (g.1, 0) else ([], 6) := by
      rw [hD1, readD, if_neg (fun h => Bool.noConfusion h), hg, hth]
      cases getF x fs <;> rfl
    have HE := Lib.hid he
    have hgc := fun W (hW : Below w.heap.size w W) => get_any (w := W) (A := A) (n := n) (c := c) (room := room) (arm := arm) false x fs (h.below hW) hu hn
    unfold RetGet at hgc
    rw [← hg, ← hth] at hgc
    have HGC := Lib.hid hgc
    clear hg hth hD1 he hgc h hu
    go_enter Try.func72, Try.ntmps72
    go_wp2_with fail
    refine (HGC.out _ ((Below.refl _ _).alloc (Nat.le_refl _) _)).mono ?_
    clear HGC
    rintro e w3 ⟨v0, v1, v2, rfl, ⟨rfl, hsl, S, sn, sc, T, tn, tc, rfl, rfl, r1, r2, q1, q2⟩, hb3⟩
    have B3 := Lib.hid (((Below.refl w.heap.size w).alloc (Nat.le_refl _) (.cells #[.slice A n c, .int .i64 (room : Int), .int .i64 arm, .bool false] 36)).trans (hb3.mono (by simp)))
    have s3 := hb3.size
    have R1 := Lib.hid r1
    have R2 := Lib.hid r2
    have hsn := r1.len
    have htn := r2.len
    simp only [List.length_take, List.length_drop] at hsn htn
    have hsn2 : sn ≤ 1099511627776 := by omega
    have htn2 : tn ≤ 1099511627776 := by omega
    clear hb3 r1 r2 hsl hsn htn
    have hs3 : w.heap.size ≤ w3.heap.size := B3.out.size
    cases th with
    | false =>
      go_wp2
      go_ret2
      rw [HE.out]
      exact ⟨none, 0, 0, rfl, Own.nil _ _ _, B3.out.alloc hs3 _⟩
    | true =>
      go_upto_region 6 with (fail)
      obtain ⟨U, hU⟩ : ∃ U, U = w3.alloc (.cells #[.string (tx x), .slice S sn sc, .slice T tn tc] 153) := ⟨_, rfl⟩
      rw [← hU]
      have bU : Below w3.heap.size w3 U := by rw [hU]; exact (Below.refl _ _).alloc (Nat.le_refl _) _
      have sU : U.heap.size = w3.heap.size + 1 := by rw [hU]; simp
      have fU : Bk U w3.heap.size #[.string (tx x), .slice S sn sc, .slice T tn tc] 153 := by rw [hU]; exact Bk.new _ _ _
      have BU := Lib.hid bU
      have sU2 : w3.heap.size < U.heap.size := by omega
      obtain ⟨f0, f1, f2, _⟩ := fU.three
      clear hU fU bU sU
      go_region_law (first | (go_simp; go_at_call 40; refine (Copy_any S sn sc _ _ ((R1.out.below BU.out).drew) (Nat.le_trans hsn2 (by decide))).mono ?_; rintro e w4 ⟨C, cn, cc, rfl, oc, hb4⟩; have hcn : cn = sn := (oc.len.symm.trans R1.out.len); subst hcn; have q2 := (hb4.cell (p := ⟨w3.heap.size, 2, none⟩) (by show w3.heap.size < U.heap.size; omega)).trans f2) | (refine step_app _ rfl _ _ 30 rfl U.heap.size 5 Try.underlying30 info_u8 C cn cc _ (by simp [Act.eval]) oc T tn tc _ (by simp [Act.eval]) (((R2.out.below BU.out).drew).below hb4) (by omega) hb4.size ?_; intro C2 c2 w5 oc2 hb5))
      all_goals
        have hb6 : Below U.heap.size U w5 := ((Below.refl _ _).drew.trans hb4).trans hb5
        rw [List.take_append_drop] at oc2
        have HQ : Hid (RetRd w D1.1 D1.2 (.returned (.tuple #[.slice C2 (cn + tn) c2, .int .i64 0])) w5) := Lib.hid (by
          rw [HE.out]
          exact ⟨C2, _, c2, rfl, oc2.mono (by omega), B3.out.trans ((BU.out.trans (hb6.mono (by omega))).mono hs3)⟩)
        clear hb4 hb5 oc oc2 hb6
        go_wp2_with fail
        go_ret2
        exact HQ.out
end
end Go.Proofs.Ytjpnfhfeabdhiaa
namespace Go.Proofs.Ytjpnfhfeabdhiaa
open Go Go.RowKit Go.Maps
variable {G : Nat → Prop}

def pfx (pre : List UInt8) (fs : List FE) : List (List UInt8) := (fs.map (·.1)).filter fun x => Lib.hasPrefix x pre
theorem pfx_snoc {pre : List UInt8} {fs : List FE} {k : Nat} {f : FE} (h : fs[k]? = some f) : pfx pre (fs.take (k + 1)) = pfx pre (fs.take k) ++ (if Lib.hasPrefix f.1 pre = true then [f.1] else []) := by
  rw [pfx, pfx, List.take_add_one, h]
  simp only [Option.toList, List.map_append, List.filter_append, List.map_cons, List.map_nil]
  congr 1
  by_cases hp : Lib.hasPrefix f.1 pre = true
  · simp [hp]
  · simp [hp]
theorem hasPrefix_len {x p : List UInt8} (h : ¬ p.length ≤ x.length) : Lib.hasPrefix x p = false := by
  rw [Lib.hasPrefix, Bool.eq_false_iff]
  intro hp
  rw [List.isPrefixOf_iff_prefix] at hp
  exact absurd hp.length_le h
theorem hasPrefix_take {x p : List UInt8} (_h : p.length ≤ x.length) : (x.take p.length == p) = Lib.hasPrefix x p := by
  rw [Lib.hasPrefix, Bool.eq_iff_iff, beq_iff_eq, List.isPrefixOf_iff_prefix, List.prefix_iff_eq_take]
  exact eq_comm
theorem ext_tx (x : List UInt8) (k : Nat) : ((tx x).extract 0 k).toList = x.take k := by
  rw [ByteArray.toList_eq, Lib.extract_data, tx_list]
  simp

section
variable {w : World} {A : Option Addr} {n c : Nat} {room : Nat} {arm : Int}
set_option maxRecDepth 100000 in
set_option maxHeartbeats 4000000 in
theorem rlist_any (dead : Bool) (pre : List UInt8) (fs : List FE) (h : RFs G w A n fs) (hn : n ≤ 1099511627776) (hp : pre.length ≤ 1099511627776) (hl : ∀ f ∈ fs, f.1.length ≤ 1099511627776) :
    Calls Try.prog 74 #[.agg #[.slice A n c, .int .i64 (room : Int), .int .i64 arm, .bool dead], .string (tx pre)] w (RetNm w (listD ⟨fs, room, arm, dead⟩ pre)) := by
  cases dead with
  | true =>
    have e : listD ⟨fs, room, arm, true⟩ pre = [] := by rw [listD, if_pos rfl]
    rw [e]
    go_enter Try.func74, Try.ntmps74
    go_wp2
    go_ret
    exact ⟨none, 0, 0, rfl, OwnV.nil _ _ _, (Below.refl _ _).alloc (Nat.le_refl _) _⟩
  | false =>
    have e : listD ⟨fs, room, arm, false⟩ pre = pfx pre fs := by rw [listD, if_neg (fun h => Bool.noConfusion h)]; rfl
    rw [e]
    have HLN := Lib.hid h.len
    have HLL := Lib.hid hl
    have hps := tx_size pre
    have HPS := Lib.hid hps
    clear e hl hps
    go_enter Try.func74, Try.ntmps74
    go_wp2
    obtain ⟨W, hW⟩ : ∃ W, W = w.alloc (.cells #[.slice A n c, .int .i64 (room : Int), .int .i64 arm, .bool false] 36) := ⟨_, rfl⟩
    rw [← hW]
    have hb : Below w.heap.size w W := by rw [hW]; exact (Below.refl _ _).alloc (Nat.le_refl _) _
    have dW : Bk W w.heap.size #[.slice A n c, .int .i64 (room : Int), .int .i64 arm, .bool false] 36 := by rw [hW]; exact Bk.new _ _ _
    have DW := Lib.hid dW
    have hWs := dW.lt
    have HW := Lib.hid (h.below hb)
    have HB := Lib.hid hb
    clear hW hb dW h
    go_loopw [5, 6] (fun s5 s6 wr => ∃ (k m d : Nat) (P : Option Addr), s5 = .slice P m d ∧ s6 = .int .i64 (k : Int) ∧ k ≤ n ∧ m ≤ k ∧ OwnV 9 wr W.heap.size P m d ((pfx pre (fs.take k)).map encStr) ∧ Below W.heap.size W wr) (fun _ s6 _ => n - (intOf s6).toNat)
    case atStart => exact ⟨0, 0, 0, none, rfl, rfl, Nat.zero_le _, Nat.le_refl _, OwnV.nil _ _ _, Below.refl _ _⟩
    case round =>
      obtain ⟨k, m, d, P, rfl, rfl, hk, hmk, ho, hbw⟩ := hrel
      have hc0 := ((DW.out.below hbw).four).1
      have HO := Lib.hid ho
      have HBW := Lib.hid hbw
      have hws := hbw.size
      clear ho hbw
      by_cases hlt : k < n
      · obtain ⟨b, off, f, S, sn, sc, T, tn, tc, rfl, hbl, hf, hsl, c0, c1, c2, _⟩ := (HW.out.below HBW.out).at_ k hlt
        have hsz := tx_size f.1
        have hfl := HLL.out f (List.mem_of_getElem? hf)
        have hsn := pfx_snoc (pre := pre) hf
        have HSZ := Lib.hid hsz
        have hlen : (tx pre).size ≤ 1099511627776 ∧ (tx f.1).size ≤ 1099511627776 := by rw [HPS.out, hsz]; exact ⟨hp, hfl⟩
        obtain ⟨hl1, hl2⟩ := hlen
        clear hsz hf hfl c1 c2
        by_cases hle : (tx pre).size ≤ (tx f.1).size
        · have hle2 : pre.length ≤ f.1.length := by rw [← HPS.out, ← HSZ.out]; exact hle
          have hx1 := hasPrefix_take hle2
          by_cases hpp : Lib.hasPrefix f.1 pre = true
          · have t2 : (((tx f.1).extract 0 (tx pre).size).toList == (tx pre).toList) = true := by rw [ext_tx, txl, HPS.out, hx1, hpp]
            rw [if_pos hpp] at hsn
            have HSN := Lib.hid hsn
            clear hsn hpp hx1 hle2
            go_wp2_with (at_builtin; refine wpList_app1 wr rfl _ _ 122 rfl W.heap.size 9 _ _ Try.underlying122 info_str rfl P m d _ rfl HO.out (.string (tx f.1)) rfl wr.heap.size rfl rfl ?_ ?_ ?_ ?_)
            · unfold maxLen; omega
            · omega
            · omega
            intro P2 d2 w4 hG4 hg4 hk4
            have HQ : Hid (OwnV 9 w4 W.heap.size P2 (m + 1) d2 ((pfx pre (fs.take (k + 1))).map encStr) ∧ Below W.heap.size W w4) := Lib.hid ⟨by rw [HSN.out, List.map_append]; exact hG4, HBW.out.grown hg4 hws (fun z hz => (HO.out.lt z hz).1)⟩
            clear hG4 hg4 hk4
            go_wp2
            go_roundw
            case rel => exact ⟨k + 1, m + 1, d2, P2, rfl, by go_num, by omega, by omega, HQ.out.1, HQ.out.2⟩
            case measure => simp [intOf]; omega
          · have hpf : Lib.hasPrefix f.1 pre = false := by simpa using hpp
            have t2 : (((tx f.1).extract 0 (tx pre).size).toList == (tx pre).toList) = false := by rw [ext_tx, txl, HPS.out, hx1, hpf]
            rw [if_neg hpp, List.append_nil] at hsn
            have HQ : Hid (OwnV 9 wr W.heap.size P m d ((pfx pre (fs.take (k + 1))).map encStr)) := Lib.hid (by rw [hsn]; exact HO.out)
            clear hsn hpp hpf hx1 hle2
            go_wp2
            go_roundw
            case rel => exact ⟨k + 1, m, d, P, rfl, by go_num, by omega, by omega, HQ.out, HBW.out⟩
            case measure => simp [intOf]; omega
        · have hpf : Lib.hasPrefix f.1 pre = false := hasPrefix_len (by rw [← HPS.out, ← HSZ.out]; exact hle)
          rw [if_neg (by rw [hpf]; decide), List.append_nil] at hsn
          have HQ : Hid (OwnV 9 wr W.heap.size P m d ((pfx pre (fs.take (k + 1))).map encStr)) := Lib.hid (by rw [hsn]; exact HO.out)
          clear hsn hpf
          go_wp2
          go_roundw
          case rel => exact ⟨k + 1, m, d, P, rfl, by go_num, by omega, by omega, HQ.out, HBW.out⟩
          case measure => simp [intOf]; omega
      · have hkn : fs.take k = fs := List.take_of_length_le (by have := HLN.out; omega)
        have HQ : Hid (RetNm w (pfx pre fs) (.returned (.slice P m d)) wr) := Lib.hid ⟨P, m, d, rfl, by rw [← hkn]; exact HO.out.mono (by omega), HB.out.trans (HBW.out.mono (by omega))⟩
        clear hkn
        go_wp2
        go_ret
        exact HQ.out
end
end Go.Proofs.Ytjpnfhfeabdhiaa
namespace Go.Proofs.Ytjpnfhfeabdhiaa
open Go Go.RowKit Go.Maps
variable {G : Nat → Prop}

/-- 'None of these slices lies in that block.' -/
def OffV (vs : List Value) (b : Option Nat) : Prop := ∀ g, b = some g → ∀ A m c, Value.slice A m c ∈ vs → 0 < m → blk A ≠ some g
theorem FV.kept {w w' : World} {row : Option Nat} {f : FE} {v0 v1 v2 : Value} (h : FV G w f v0 v1 v2) (hg : w.grownBy w' row) (ho : OffV [v0, v1, v2] row) : FV G w' f v0 v1 v2 := by
  obtain ⟨h1, h2, S, sn, sc, T, tn, tc, rfl, rfl, h5, h6, h7⟩ := h
  have k : ∀ {B : Option Addr} {m : Nat} {xs : List UInt8}, Rd w B m xs → (∀ g, row = some g → 0 < m → blk B ≠ some g) → Rd w' B m xs := fun {B m xs} hr hn => by
    refine ⟨hr.1, fun hm => ?_⟩
    obtain ⟨b, off, rfl, hb, hc⟩ := hr.2 hm
    exact ⟨b, off, rfl, Nat.lt_of_lt_of_le hb hg.size, fun i x hx => hg.cell (a := ⟨b, off + i, none⟩) (hc i x hx) (fun e => hn b e.symm hm rfl)⟩
  exact ⟨h1, h2, S, sn, sc, T, tn, tc, rfl, rfl, k h5 (fun g e => ho g e S sn sc (by simp)), k h6 (fun g e => ho g e T tn tc (by simp)), h7⟩
theorem FVs.kept {w w' : World} {row : Option Nat} (hg : w.grownBy w' row) : ∀ {fs : List FE} {vs : List Value}, FVs G w fs vs → OffV vs row → FVs G w' fs vs
  | [], _, h, _ => h
  | _ :: _, _, ⟨v0, v1, v2, r, e, h1, h2⟩, ho => ⟨v0, v1, v2, r, e, h1.kept hg (fun g hg2 A m c hv => ho g hg2 A m c (by rw [e]; simp at hv ⊢; rcases hv with h | h | h <;> simp [h])), FVs.kept hg h2 (fun g hg2 A m c hv => ho g hg2 A m c (by rw [e]; simp [hv]))⟩
theorem OffV.app {a b : List Value} {o : Option Nat} (h1 : OffV a o) (h2 : OffV b o) : OffV (a ++ b) o := fun g hg A m c hv => by
  rcases List.mem_append.1 hv with h | h
  · exact h1 g hg A m c h
  · exact h2 g hg A m c h
theorem FV.lt {w : World} {f : FE} {v0 v1 v2 : Value} (h : FV G w f v0 v1 v2) {A : Option Addr} {m c : Nat} (hv : Value.slice A m c ∈ [v0, v1, v2]) (hm : 0 < m) {g : Nat} (hg : blk A = some g) : g < w.heap.size := by
  obtain ⟨h1, h2, S, sn, sc, T, tn, tc, rfl, rfl, h5, h6, h7⟩ := h
  have k : ∀ {B : Option Addr} {xs : List UInt8}, Rd w B m xs → blk B = some g → g < w.heap.size := fun {B xs} hr hb => by
    obtain ⟨b, off, rfl, hl, _⟩ := hr.2 hm
    injection hb with hb
    rw [← hb]
    exact hl
  subst h1
  simp only [List.mem_cons, List.not_mem_nil, or_false] at hv
  rcases hv with e | e | e
  · cases e
  · injection e with e1 e2
    subst e1 e2
    exact k h5 hg
  · injection e with e1 e2
    subst e1 e2
    exact k h6 hg
theorem FVs.lt {w : World} : ∀ {fs : List FE} {vs : List Value}, FVs G w fs vs → ∀ {A : Option Addr} {m c : Nat}, Value.slice A m c ∈ vs → 0 < m → ∀ {g : Nat}, blk A = some g → g < w.heap.size
  | [], _, h, _, _, _, hv, _, _, _ => by rw [h] at hv; cases hv
  | _ :: _, _, ⟨v0, v1, v2, r, e, h1, h2⟩, A, m, c, hv, hm, g, hg => by
    rw [e] at hv
    have hv2 : Value.slice A m c ∈ [v0, v1, v2] ∨ Value.slice A m c ∈ r := by
      simp only [List.mem_cons, List.not_mem_nil, or_false] at hv ⊢
      rcases hv with h | h | h | h
      · exact .inl (.inl h)
      · exact .inl (.inr (.inl h))
      · exact .inl (.inr (.inr h))
      · exact .inr h
    rcases hv2 with h | h
    · exact h1.lt h hm hg
    · exact FVs.lt h2 h hm hg

/-- One file more, out of a box of its own, appended onto a row of files. -/
theorem wpList_app3t {P : Program} (w : World) {ops : Array Oper} {rest : List Oper} {o : Oper} {a : Act} {Q : Exit → Act → World → Prop} (hgd : o.guard = none) (s x : Operand) (tt : TypeId)
    (ho : o.op = .call { callee := .builtin .append, args := #[s, x], argTypes := #[tt, tt] })
    (base : Nat) (t : TypeId) (z : Value) (by_ : Nat) (ht : P.underlying tt = some (.slice t)) (hi : (P.info? t).map (fun i => (i.zero, i.size, i.bytes)) = some (some z, 3, by_)) (hz1 : z.cells.size = 3)
    (A : Option Addr) (n c : Nat) (vs : List Value) (hs : a.eval s = .slice A n c) (hown : w.ownsRow base t 3 (.slice A n c) n vs)
    (v0 v1 v2 : Value) (hone : ∀ u ∈ [v0, v1, v2], u.oneCell' = true) (g : Nat) (hg : g = w.heap.size) (hx : a.eval x = .slice (some ⟨g, 0, none⟩) 1 1)
    (hn : n ≤ 1099511627776) (hby : by_ ≤ 64 := by omega) (hbase : base ≤ w.heap.size)
    (h : ∀ A' c' w', w'.ownsRow base t 3 (.slice A' (n + 1) c') (n + 1) (vs ++ [v0, v1, v2]) → w.grownBy w' (blk A) → (blk A' = blk A ∨ blk A' = some (w.heap.size + 1)) → wpList P ops Q rest (a.put o.dst (.slice A' (n + 1) c')) w') :
    wpList P ops Q (o :: rest) a (w.alloc (.cells #[v0, v1, v2] t)) := by
  subst hg
  obtain ⟨i, hi, hz, hsz, hby2⟩ := info_parts hi
  refine wpList_append_own_at (w := w.alloc (.cells #[v0, v1, v2] t)) hgd s x tt ho base t i z 3 by_ ht hi hz hsz hby2 hz1 (by decide) (.slice A n c) n vs hs (own3_below hown ((Below.refl _ _).alloc (Nat.le_refl _) _)) ⟨w.heap.size, 0, none⟩ 1 1 [v0, v1, v2] hx rfl
    (fun j u hj => by rw [Addr.add_lit, (Bk.new w #[v0, v1, v2] t).cell (0 + j), Nat.zero_add]; simpa using hj) hone (by unfold maxLen; omega) (Nat.le_trans (Nat.mul_le_mul_left _ hby) (by omega)) (by simp; omega) ?_
  intro v' w' k1 k2 _ k3
  obtain ⟨A', c', rfl⟩ : ∃ A' c', v' = .slice A' (n + 1) c' := by
    rcases k1.2 with ⟨_, h4⟩ | ⟨g, cap, cur, h4, _⟩
    · omega
    · exact ⟨_, _, h4⟩
  rw [own_blk, own_blk] at k3
  rw [own_blk] at k2
  exact h A' c' w' k1 ((World.grownBy_alloc w _ _).trans k2) (by simpa using k3)

/-- What the loop of Crash keeps. -/
def CrR (G : Nat → Prop) (W : World) (L : Option Addr) (i d : Nat) (fs : List FE) (wr : World) : Prop :=
  ∃ vs, wr.ownsRow W.heap.size 153 3 (.slice L i d) i vs ∧ FVs G wr fs vs ∧ OffV vs (blk L) ∧ Below W.heap.size W wr
theorem cr_snoc {W wr w4 : World} {L L' : Option Addr} {i d d' : Nat} {fs : List FE} {f : FE} {v0 v1 v2 : Value} {vs : List Value} {U : World} (h1 : wr.ownsRow W.heap.size 153 3 (.slice L i d) i vs) (h2 : FVs G wr fs vs) (h3 : OffV vs (blk L)) (hw : Below W.heap.size W wr)
    (hU : Below wr.heap.size wr U) (hf : FV G U f v0 v1 v2) (ho : OffV [v0, v1, v2] (blk L))
    (h4 : w4.ownsRow W.heap.size 153 3 (.slice L' (i + 1) d') (i + 1) (vs ++ [v0, v1, v2])) (hg : U.grownBy w4 (blk L)) (hb : blk L' = blk L ∨ blk L' = some (U.heap.size + 1)) : CrR G W L' (i + 1) d' (fs ++ [f]) w4 := by
  have hws := hw.size
  have hus := hU.size
  refine ⟨vs ++ [v0, v1, v2], h4, (FVs.kept hg (h2.below hU) h3).app (FVs.one (hf.kept hg ho)), ?_, (hw.trans (hU.mono hws)).grown hg (by omega) (fun k hk => (World.ownsRow.lt h1 k (by rw [own_blk]; exact hk)).1)⟩
  rcases hb with e | e
  · rw [e]
    exact h3.app ho
  · rw [e]
    intro g hg2 B m c hv2 hm hv3
    injection hg2 with hg2
    rcases List.mem_append.1 hv2 with hq | hq
    · have := FVs.lt h2 hq hm hv3
      omega
    · have := hf.lt hq hm hv3
      omega
/-- A file whose slices lie below a row's block, or above it. -/
theorem offV_of {w : World} {f : FE} {v0 v1 v2 : Value} (h : FV G w f v0 v1 v2) {L : Option Addr} (hL : ∀ b, blk L = some b → w.heap.size ≤ b) : OffV [v0, v1, v2] (blk L) := fun g hg A m c hv hm he => by
  have h1 := h.lt hv hm he
  have h2 := hL g hg
  omega
/-- How Crash ends. -/
theorem cr_fin {w w5 X : World} {g n c n0 c0 n1 c1 : Nat} {A A0 A1 : Option Addr} {fs : List FE} {room : Nat} {y0 z1 y1 : Int} {d0 d1 : Bool}
    (hd : Bk w5 g #[.slice A0 n0 c0, .int .i64 (room : Int), .int .i64 y0, .bool d0] 36) (hz : Bk w5 (g + 1) #[.slice A1 n1 c1, .int .i64 z1, .int .i64 y1, .bool d1] 36)
    (hr : RFs G w5 A n fs) (hc : n ≤ c) (hb : Below w.heap.size w w5) (h1 : w.heap.size ≤ g)
    (hX : X = ((((((w5.setCell ⟨g, 0, none⟩ (.slice A n c)).setCell ⟨g, 3, none⟩ (.bool false)).setCell ⟨g, 2, none⟩ (.int .i64 (-1))).setCell ⟨g + 1, 0, none⟩ (.slice A n c)).setCell ⟨g + 1, 1, none⟩ (.int .i64 (room : Int))).setCell ⟨g + 1, 2, none⟩ (.int .i64 (-1))).setCell ⟨g + 1, 3, none⟩ (.bool false)) :
    Bk X (g + 1) #[.slice A n c, .int .i64 (room : Int), .int .i64 (-1), .bool false] 36 ∧ RetRD G w fs room (-1) false (.returned (.agg #[.slice A n c, .int .i64 (room : Int), .int .i64 (-1), .bool false])) X := by
  obtain ⟨Y, hY⟩ : ∃ Y, Y = ((w5.setCell ⟨g, 0, none⟩ (.slice A n c)).setCell ⟨g, 3, none⟩ (.bool false)).setCell ⟨g, 2, none⟩ (.int .i64 (-1)) := ⟨_, rfl⟩
  rw [← hY] at hX
  have k : ∀ b ∈ [g], b ∈ [g] ∨ w5.heap.size ≤ b := fun b hb => .inl hb
  have fY : Fr w5 Y [g] := by rw [hY]; exact ((Fr.set w5 g 0 _).trans (Fr.set _ g 3 _) k).trans (Fr.set _ g 2 _) k
  have zY := (fY.block (g + 1) hz.lt (by simp)).trans hz
  have fX : Fr Y X [g + 1] := by rw [hX]; exact fr_set4 Y (g + 1) _ _ _ _
  have bY : Below w.heap.size w Y := hb.trans (fY.below (fun b hb => by rw [List.mem_singleton] at hb; omega) hb.size)
  refine ⟨by rw [hX]; exact Bk.put4 zY rfl _ _ _ _, A, n, c, rfl, RFs.store zY fX (RFs.store hd fY hr), hc, bY.trans (fX.below (fun b hb => by rw [List.mem_singleton] at hb; omega) bY.size)⟩

section
variable {w : World} {A : Option Addr} {n c : Nat} {room : Nat} {arm : Int}
set_option maxRecDepth 100000 in
set_option maxHeartbeats 8000000 in
theorem rcrash_any (dead : Bool) (K : Option Addr) (nk ck : Nat) (ks : List Int) (fs : List FE) (h : RFs G w A n fs) (hn : n ≤ 1099511627776) (hus : usedF fs ≤ 1099511627776) (hK : RdV w K nk (ivs ks)) (hnk : nk ≤ 1099511627776) (hkz : ∀ z ∈ ks, I64 z) (hG : ∀ b, w.heap.size ≤ b → G b) :
    Calls Try.prog 71 #[.agg #[.slice A n c, .int .i64 (room : Int), .int .i64 arm, .bool dead], .slice K nk ck] w (RetRD G w (crP ks fs).1 room (-1) false) := by
  have hKl : ks.length = nk := by have := hK.len; simpa [ivs] using this
  have HKL := Lib.hid hKl
  have HLN := Lib.hid h.len
  have HKZ := Lib.hid hkz
  have HGG := Lib.hid hG
  clear hG
  have HUS : Hid (∀ f ∈ fs, f.2.1.length ≤ 1099511627776) := Lib.hid (fun f hf => Nat.le_trans (usedF_mem hf) hus)
  clear hKl hkz hus
  go_enter Try.func71, Try.ntmps71
  go_wp2
  obtain ⟨W, hW⟩ : ∃ W, W = (w.alloc (.cells #[.slice A n c, .int .i64 (room : Int), .int .i64 arm, .bool dead] 36)).alloc (.cells #[.slice none 0 0, .int .i64 0, .int .i64 0, .bool false] 36) := ⟨_, rfl⟩
  rw [← hW]
  have bW : Below w.heap.size w W := by rw [hW]; exact ((Below.refl _ _).alloc (Nat.le_refl _) _).alloc (by simp) _
  have sW : W.heap.size = w.heap.size + 2 := by rw [hW]; simp
  have dW : Bk W w.heap.size #[.slice A n c, .int .i64 (room : Int), .int .i64 arm, .bool dead] 36 := by rw [hW]; exact (Bk.new _ _ _).below ((Below.refl _ _).alloc (Nat.le_refl _) _)
  have zW : Bk W (w.heap.size + 1) #[.slice none 0 0, .int .i64 0, .int .i64 0, .bool false] 36 := by
    rw [hW]
    have := Bk.new (w.alloc (.cells #[.slice A n c, .int .i64 (room : Int), .int .i64 arm, .bool dead] 36)) #[.slice none 0 0, .int .i64 0, .int .i64 0, .bool false] 36
    simpa using this
  have DW := Lib.hid dW
  have ZW := Lib.hid zW
  have BW := Lib.hid bW
  have HW := Lib.hid (h.below bW)
  have HKW := Lib.hid (hK.below bW)
  clear hW dW zW bW h hK
  go_loopw [5, 6, 7] (fun s5 s6 s7 wr => ∃ (i d : Nat) (L : Option Addr), s5 = .int .i64 ((crP ks (fs.take i)).2 : Int) ∧ s6 = .slice L i d ∧ s7 = .int .i64 (i : Int) ∧ i ≤ n ∧ CrR G W L i d (crP ks (fs.take i)).1 wr) (fun _ _ s7 _ => n - (intOf s7).toNat)
  case atStart =>
    refine ⟨0, 0, some ⟨W.heap.size, 0, none⟩, by rw [List.take_zero, crP_zero]; rfl, by rw [sW], rfl, Nat.zero_le _, [], own3_zero _ _, by rw [List.take_zero, crP_zero]; rfl, (fun g _ A m c h => by cases h), (Below.refl _ _).alloc (Nat.le_refl _) _⟩
  case round =>
    obtain ⟨i, d, L, rfl, rfl, rfl, hi, hR⟩ := hrel
    obtain ⟨T0, hT0⟩ : ∃ T0, T0 = (crP ks (fs.take i)).2 := ⟨_, rfl⟩
    rw [← hT0]
    have hTi : T0 ≤ i := by
      have := crP_cnt ks (fs.take i)
      rw [hT0]
      exact Nat.le_trans this (List.length_take_le ..)
    have HT0 := Lib.hid hT0
    have HR := Lib.hid hR
    have hbw : Below W.heap.size W wr := by obtain ⟨_, _, _, _, h⟩ := hR; exact h
    have HBW := Lib.hid hbw
    have hws := hbw.size
    obtain ⟨e0, e1, e2, e3, y0, y1, y2, y3⟩ := (DW.out.below hbw).four
    clear hT0 hR hbw
    by_cases hlt : i < n
    · obtain ⟨b, off, f, S, sn, sc, T, tn, tc, rfl, hbl, hf, hsl, c0, c1, c2, r1, r2, hsc, htc, gs, gt⟩ := HW.out.at_ i hlt
      have k0 := (HBW.out.cell (p := ⟨b, off + i * 3, none⟩) hbl).trans c0
      have k1 : wr.cell? ⟨b, off + i * 3 + 1, none⟩ = some (.slice S sn sc) := (HBW.out.cell (p := ⟨b, off + i * 3 + 1, none⟩) hbl).trans (by rw [Nat.add_assoc]; exact c1)
      have k2 : wr.cell? ⟨b, off + i * 3 + 2, none⟩ = some (.slice T tn tc) := (HBW.out.cell (p := ⟨b, off + i * 3 + 2, none⟩) hbl).trans (by rw [Nat.add_assoc]; exact c2)
      obtain ⟨vs, q1, q2, q3, q4⟩ := HR.out
      have hfv : FV G W f (.string (tx f.1)) (.slice S sn sc) (.slice T tn tc) := ⟨rfl, hsl, S, sn, sc, T, tn, tc, rfl, rfl, r1, r2, hsc, htc, gs, gt⟩
      clear gs gt
      have OF := Lib.hid (offV_of hfv (fun b hb => (World.ownsRow.lt q1 b (by rw [own_blk]; exact hb)).1))
      have FW := Lib.hid (hfv.below HBW.out)
      have Q1 := Lib.hid q1
      have Q2 := Lib.hid q2
      have Q3 := Lib.hid q3
      have hsn : sn = f.2.2 := by have := r1.len; rw [List.length_take] at this; omega
      have htn : tn = f.2.1.length - f.2.2 := by have := r2.len; rw [List.length_drop] at this; omega
      have hfl := HUS.out f (List.mem_of_getElem? hf)
      have HST := Lib.hid (crP_take (ks := ks) hf)
      have HF0 := Lib.hid hf
      have R1 := Lib.hid (r1.below HBW.out)
      have R2 := Lib.hid (r2.below HBW.out)
      have HSN := Lib.hid hsn
      have HTN := Lib.hid htn
      have HSL := Lib.hid hsl
      have hsn2 : sn ≤ 1099511627776 := by omega
      have htn2 : tn ≤ 1099511627776 := by omega
      clear hf r1 r2 hsn htn hsl hfl c0 c1 c2 q1 q2 q3 q4 hfv
      by_cases ht0 : tn = 0
      · subst ht0
        have HVE : Hid (crP ks (fs.take (i + 1)) = ((crP ks (fs.take i)).1 ++ [f], T0)) := Lib.hid (by
          have e : f.2.1.length = f.2.2 := by have := HTN.out; have := HSL.out; omega
          rw [HST.out, crStep, if_pos e, ← HT0.out])
        have BU : Hid (Below wr.heap.size wr (wr.alloc (.cells #[.string (tx f.1), .slice S sn sc, .slice T 0 tc] 153))) := Lib.hid ((Below.refl _ _).alloc (Nat.le_refl _) _)
        go_wp2_with (at_builtin; refine wpList_app3t (wr.alloc (.cells #[.string (tx f.1), .slice S sn sc, .slice T 0 tc] 153)) rfl _ _ 34 rfl W.heap.size 153 _ 64 Try.underlying34 info_file rfl L i d vs rfl (own3_below Q1.out BU.out) (.string (tx f.1)) (.slice S sn sc) (.slice T 0 tc) (by intro u hu; simp only [List.mem_cons, List.not_mem_nil, or_false] at hu; rcases hu with rfl | rfl | rfl <;> rfl) (wr.heap.size + 1) (by simp) rfl ?_ ?_ ?_ ?_)
        · omega
        · omega
        · simp; omega
        intro L2 d2 w4 hG4 hg4 hb4
        rw [← sW] at hG4
        have HQ : Hid (CrR G W L2 (i + 1) d2 (crP ks (fs.take (i + 1))).1 w4) := Lib.hid (by rw [HVE.out]; exact cr_snoc Q1.out Q2.out Q3.out HBW.out BU.out (FW.out.below BU.out) OF.out hG4 hg4 (hb4.imp id (fun h => h.trans (by simp))))
        clear hG4 hg4 hb4
        go_wp2
        go_roundw
        case rel => exact ⟨i + 1, d2, L2, by rw [HVE.out], rfl, by go_num, by omega, HQ.out⟩
        case measure => simp [intOf]; omega
      · obtain ⟨bT, oT, rfl, _⟩ := R2.out.2 (by omega)
        have b0 : decide ((0 : Int) < (tn : Int)) = true := by simp; omega
        obtain ⟨kp, hkp⟩ : ∃ kp, kp = keepN ks T0 tn := ⟨_, rfl⟩
        have hkl : kp ≤ tn := by rw [hkp]; exact keepN_le ks T0 tn
        have HVE : Hid (crP ks (fs.take (i + 1)) = ((crP ks (fs.take i)).1 ++ [(f.1, f.2.1.take (sn + kp), sn + kp)], T0 + 1)) := Lib.hid (by
          have e : ¬ f.2.1.length = f.2.2 := by have := HTN.out; have := HSL.out; omega
          rw [HST.out, crStep, if_neg e, ← HT0.out]
          unfold cutE
          rw [← HTN.out, ← HSN.out, ← hkp])
        have HC : Hid (∃ B : Bool, (nk = 0 ∧ kp = 0 ∧ B = false) ∨ (∃ bK oK j z, K = some ⟨bK, oK, none⟩ ∧ 0 < nk ∧ j = T0 % nk ∧ wr.cell? ⟨bK, oK + j, none⟩ = some (.int .i64 z) ∧ j < nk ∧ bK < wr.heap.size ∧ z ≤ 0 ∧ kp = 0 ∧ B = false) ∨
            (∃ bK oK j, ∃ zp : Nat, K = some ⟨bK, oK, none⟩ ∧ 0 < nk ∧ j = T0 % nk ∧ wr.cell? ⟨bK, oK + j, none⟩ = some (.int .i64 (zp : Int)) ∧ j < nk ∧ bK < wr.heap.size ∧ 0 < zp ∧ zp ≤ 9223372036854775807 ∧ kp = zp % (tn + 1) ∧ B = true)) := Lib.hid (by
          rcases Nat.eq_zero_or_pos nk with h0 | h0
          · exact ⟨false, .inl ⟨h0, by rw [hkp, List.eq_nil_of_length_eq_zero (HKL.out.trans h0), keepN_nil], rfl⟩⟩
          · have hKw := HKW.out.below HBW.out
            obtain ⟨bK, oK, rfl, hbK⟩ := hKw.pos h0
            have hj : T0 % nk < nk := Nat.mod_lt _ h0
            obtain ⟨z, hz, hcz⟩ := ivs_at hKw (T0 % nk) hj
            have hkz := keepN_at (t := tn) (by rw [HKL.out]; exact hz)
            have hI := HKZ.out z (List.mem_of_getElem? hz)
            by_cases hzp : z ≤ 0
            · have : z.toNat = 0 := by omega
              exact ⟨false, .inr (.inl ⟨bK, oK, _, z, rfl, h0, rfl, hcz, hj, hbK, hzp, by rw [hkp, hkz, this, Nat.zero_mod], rfl⟩)⟩
            · have e : ((z.toNat : Nat) : Int) = z := by omega
              exact ⟨true, .inr (.inr ⟨bK, oK, _, z.toNat, rfl, h0, rfl, by rw [e]; exact hcz, hj, hbK, by omega, by unfold I64 at hI; omega, by rw [hkp, hkz], rfl⟩)⟩)
        obtain ⟨B, hC⟩ := HC.out
        have HCC := Lib.hid hC
        clear hC HC hkp
        go_upto_region 9 with (fail)
        obtain ⟨U, hU⟩ : ∃ U, U = wr.alloc (.cells #[.string (tx f.1), .slice S sn sc, .slice (some ⟨bT, oT, none⟩) tn tc] 153) := ⟨_, rfl⟩
        rw [← hU]
        have fU : Bk U wr.heap.size #[.string (tx f.1), .slice S sn sc, .slice (some ⟨bT, oT, none⟩) tn tc] 153 := by rw [hU]; exact Bk.new _ _ _
        have bU : Below wr.heap.size wr U := by rw [hU]; exact (Below.refl _ _).alloc (Nat.le_refl _) _
        have BU := Lib.hid bU
        have FU := Lib.hid fU
        obtain ⟨f0, f1, f2, _⟩ := fU.three
        clear hU bU fU e0 e1 e2 e3 y0 y1 y2 y3 k0 k1 k2
        go_cut [39] (fun s39 wx => s39 = .bool B ∧ wx = U)
        case first =>
          rcases HCC.out with ⟨rfl, rfl, rfl⟩ | ⟨bK, oK, j, z, rfl, h0, hj, hcz, hjn, hbK, hz, rfl, rfl⟩ | ⟨bK, oK, j, zp, rfl, h0, hj, hcz, hjn, hbK, hz, hz2, hkz, rfl⟩
          · go_wp2_with fail
            go_meet
            exact ⟨rfl, rfl⟩
          · have n0 : decide ((0 : Int) < (nk : Int)) = true := by simp; omega
            have n1 : ((nk : Int) == 0) = false := by simp; omega
            have n3 : (T0 : Int) % (nk : Int) = (j : Int) := by rw [hj]; simp
            have n4 : decide ((0 : Int) < z) = false := by simp; omega
            have hcu := (BU.out.cell (p := ⟨bK, oK + j, none⟩) hbK).trans hcz
            clear hj hcz
            go_wp2_with fail
            go_meet
            exact ⟨rfl, rfl⟩
          · have n0 : decide ((0 : Int) < (nk : Int)) = true := by simp; omega
            have n1 : ((nk : Int) == 0) = false := by simp; omega
            have n3 : (T0 : Int) % (nk : Int) = (j : Int) := by rw [hj]; simp
            have n4 : decide ((0 : Int) < (zp : Int)) = true := by simp; omega
            have hcu := (BU.out.cell (p := ⟨bK, oK + j, none⟩) hbK).trans hcz
            clear hj hcz hkz
            go_wp2_with fail
            go_meet
            exact ⟨rfl, rfl⟩
        case rest =>
          obtain ⟨rfl, rfl⟩ := hcut
          go_upto_if 39 with (fail)
          go_cut [9] (fun s9 wx => s9 = .int .i64 (kp : Int) ∧ Below wr.heap.size wr wx ∧ Bk wx wr.heap.size #[.string (tx f.1), .slice S sn sc, .slice (some ⟨bT, oT, none⟩) tn tc] 153)
          case first =>
            rcases HCC.out with ⟨rfl, rfl, rfl⟩ | ⟨bK, oK, j, z, rfl, h0, hj, hcz, hjn, hbK, hz, rfl, rfl⟩ | ⟨bK, oK, j, zp, rfl, h0, hj, hcz, hjn, hbK, hz, hz2, hkz, rfl⟩
            · go_wp2_with fail
              go_meet
              exact ⟨rfl, BU.out, FU.out⟩
            · go_wp2_with fail
              go_meet
              exact ⟨rfl, BU.out, FU.out⟩
            · have n0 : decide ((0 : Int) < (nk : Int)) = true := by simp; omega
              have n1 : ((nk : Int) == 0) = false := by simp; omega
              have n3 : (T0 : Int) % (nk : Int) = (j : Int) := by rw [hj]; simp
              have n5 : IntKind.i64.wrap ((tn : Int) + 1) = ((tn + 1 : Nat) : Int) := by rw [IntWalk.i64_in _ (by omega)]; omega
              have n6 : (zp : Int) % ((tn + 1 : Nat) : Int) = (kp : Int) := by rw [hkz]; simp
              have N7 : Hid ((zp : Int) % ((tn : Int) + 1) = (kp : Int)) := Lib.hid n6
              have hcu := (BU.out.cell (p := ⟨bK, oK + j, none⟩) hbK).trans hcz
              clear hj hcz hkz
              go_wp2
              go_quiet (fail)
              go_wp2_with fail
              go_meet
              exact ⟨by rw [N7.out], below_drewN BU.out _, FU.out⟩
          case rest =>
            obtain ⟨rfl, hbx, hfx⟩ := hcut
            have BX := Lib.hid hbx
            have FX := Lib.hid hfx
            have sx := hbx.size
            have sx2 := hfx.lt
            clear f0 f1 f2 hbx hfx HCC
            obtain ⟨f0, f1, f2, j0, j1, j2⟩ := FX.out.three
            have CT : Hid (Rd wc (some ⟨bT, oT, none⟩) kp ((f.2.1.drop f.2.2).take kp)) := Lib.hid ((R2.out.below BX.out).take hkl)
            have CS : Hid (Rd wc S sn (f.2.1.take f.2.2)) := Lib.hid (R1.out.below BX.out)
            have HD : Hid (f.2.1.take f.2.2 ++ (f.2.1.drop f.2.2).take kp = f.2.1.take (sn + kp)) := Lib.hid (by rw [HSN.out, List.take_add])
            have hkc : kp ≤ tc := by omega
            have hkc2 : (kp : Int) ≤ (tc : Int) := by omega
            have hkc3 : decide ((kp : Int) ≤ (tc : Int)) = true := by simp; omega
            go_upto_region 12 with (fail)
            go_cut [] (fun wx => ∃ C2 c2, Own 5 wx (wr.heap.size + 1) C2 (sn + kp) c2 (f.2.1.take (sn + kp)) ∧ Below wr.heap.size wr wx ∧ Bk wx wr.heap.size #[.string (tx f.1), .slice C2 (sn + kp) c2, .slice (some ⟨bT, oT, none⟩) tn tc] 153)
            case first =>
              go_region_law (first | (go_simp; go_at_call 40; refine (Copy_any S sn sc _ _ (CS.out.drew) (Nat.le_trans hsn2 (by decide))).mono ?_; rintro e w4 ⟨C, cn, cc, rfl, oc, hb4⟩; have hcn : cn = sn := (oc.len.symm.trans CS.out.len); subst hcn; obtain ⟨p0, p1, p2, p3, p4, p5⟩ := (Bk.below (w := wc.drew) FX.out hb4).three) | (refine step_app _ rfl _ _ 30 rfl wc.heap.size 5 Try.underlying30 info_u8 C cn cc _ (by first | (simp [Act.eval]; done) | (simp [Act.eval, Act.put]; done) | rfl) oc (some ⟨bT, oT, none⟩) kp tc _ (by first | (simp [Act.eval]; done) | (simp [Act.eval, Act.put]; done) | rfl) ((CT.out.drew).below hb4) (by omega) hb4.size ?_; intro C2 c2 w5 oc2 hb5; obtain ⟨m0, m1, m2, m3, m4, m5⟩ := (Bk.base (Bk.below (w := wc.drew) FX.out hb4) hb5 (by omega)).three))
              all_goals
                have HQ1 : Hid (Own 5 w5 (wr.heap.size + 1) C2 (cn + kp) c2 (f.2.1.take (cn + kp))) := Lib.hid (by rw [← HD.out]; exact oc2.mono (by omega))
                have HQ2 : Hid (Below wr.heap.size wr w5) := Lib.hid ((BX.out.drew.trans (hb4.mono sx)).trans (hb5.mono sx))
                have HQ3 : Hid (Bk w5 wr.heap.size #[.string (tx f.1), .slice S cn sc, .slice (some ⟨bT, oT, none⟩) tn tc] 153) := Lib.hid (Bk.base (Bk.below (w := wc.drew) FX.out hb4) hb5 sx2)
                clear oc oc2 hb4 hb5
                go_wp2_with fail
                go_meet
                have fz := Fr.set w5 wr.heap.size 1 (.slice C2 (cn + kp) c2)
                exact ⟨C2, c2, HQ1.out.fr fz (fun b hb hm => by
                  rw [List.mem_singleton] at hm
                  have := (HQ1.out.lt b hb).1
                  omega), HQ2.out.trans (fz.below (fun b hb => by rw [List.mem_singleton] at hb; omega) HQ2.out.size), HQ3.out.set 1 _⟩
            case rest =>
              obtain ⟨C2, c2, ho, hb5, hf5⟩ := hcut
              obtain ⟨m0, m1, m2, m3, m4, m5⟩ := hf5.three
              have OC := Lib.hid ho
              have B5 := Lib.hid hb5
              have F5 := Lib.hid hf5
              have s5 := hb5.size
              clear ho hb5 hf5 f0 f1 f2 j0 j1 j2
              go_upto_region 14 with (fail)
              obtain ⟨V, hV⟩ : ∃ V, V = wc.setCell ⟨wr.heap.size, 2, none⟩ (.slice none 0 0) := ⟨_, rfl⟩
              rw [← hV]
              have fV : Fr wc V [wr.heap.size] := by rw [hV]; exact Fr.set _ _ _ _
              have F6 : Bk V wr.heap.size #[.string (tx f.1), .slice C2 (sn + kp) c2, .slice none 0 0] 153 := by rw [hV]; exact F5.out.set 2 _
              have B6 : Hid (Below wr.heap.size wr V) := Lib.hid (B5.out.trans (fV.below (fun b hb => by rw [List.mem_singleton] at hb; omega) s5))
              have hne : ∀ b, blk C2 = some b → b ∉ [wr.heap.size] := fun b hb hm => by
                rw [List.mem_singleton] at hm
                have := (OC.out.lt b hb).1
                omega
              have O6 := OC.out.fr fV hne
              have FW2 : Hid (FV G V (f.1, f.2.1.take (sn + kp), sn + kp) (.string (tx f.1)) (.slice C2 (sn + kp) c2) (.slice none 0 0)) := Lib.hid ⟨rfl, by
                simp only [List.length_take]
                have := HTN.out
                have := HSN.out
                have := HSL.out
                omega, C2, _, c2, none, 0, 0, rfl, rfl, by simpa [List.take_take] using O6.rd, by simpa using Rd.nil V none, O6.cap.1, Nat.le_refl _, (fun _ b hb => HGG.out b (by have := (OC.out.lt b hb).1; have := BW.out.size; have := hws; omega)), Gd.zero⟩
              have OF2 : Hid (OffV [.string (tx f.1), .slice C2 (sn + kp) c2, .slice none 0 0] (blk L)) := Lib.hid (fun g hg A m cc hv hm he => by
                have hl := (World.ownsRow.lt Q1.out g (by rw [own_blk]; exact hg)).2
                simp only [List.mem_cons, List.not_mem_nil, or_false] at hv
                rcases hv with e | e | e
                · cases e
                · injection e with e1 e2
                  subst e1
                  have := (OC.out.lt g he).1
                  omega
                · injection e with e1 e2
                  omega)
              have F6' := Lib.hid F6
              have s6 : wr.heap.size ≤ V.heap.size := B6.out.size
              clear hV fV m0 m1 m2 m3 m4 m5 O6 hne
              obtain ⟨m0, m1, m2, m3, m4, m5⟩ := F6.three
              clear F6
              go_wp2_with (at_builtin; refine wpList_app3t V rfl _ _ 34 rfl W.heap.size 153 _ 64 Try.underlying34 info_file rfl L i d vs rfl (own3_below Q1.out B6.out) (.string (tx f.1)) (.slice C2 (sn + kp) c2) (.slice none 0 0) (by intro u hu; simp only [List.mem_cons, List.not_mem_nil, or_false] at hu; rcases hu with rfl | rfl | rfl <;> rfl) V.heap.size rfl rfl ?_ ?_ ?_ ?_)
              · omega
              · omega
              · omega
              intro L2 d2 w4 hG4 hg4 hb4
              rw [← sW] at hG4
              have HQ : Hid (CrR G W L2 (i + 1) d2 (crP ks (fs.take (i + 1))).1 w4) := Lib.hid (by rw [HVE.out]; exact cr_snoc Q1.out Q2.out Q3.out HBW.out B6.out FW2.out OF2.out hG4 hg4 hb4)
              clear hG4 hg4 hb4
              go_wp2
              go_roundw
              case rel => exact ⟨i + 1, d2, L2, by rw [HVE.out]; go_num, rfl, by go_num, by omega, HQ.out⟩
              case measure => simp [intOf]; omega
    · obtain rfl : i = n := by omega
      have htk : fs.take i = fs := List.take_of_length_le (by have := HLN.out; omega)
      obtain ⟨vs, q1, q2, q3, q4⟩ := HR.out
      have hlen : (crP ks fs).1.length = i := by have := congrArg List.length (crP_names ks fs); rw [List.length_map, List.length_map, HLN.out] at this; exact this
      have HFIN : Hid (RFs G wr L i (crP ks fs).1 ∧ i ≤ d) := Lib.hid ⟨RFs.mk (by rw [← htk]; exact q2) (rdv_own3 q1) hlen (fun b hb => HGG.out b (by have := (World.ownsRow.lt q1 b (by rw [own_blk]; exact hb)).1; have := BW.out.size; omega)), own3_cap q1⟩
      have DR := Lib.hid (DW.out.below HBW.out)
      have ZR := Lib.hid (ZW.out.below HBW.out)
      obtain ⟨g0, g1, g2, g3, k0, k1, k2, k3⟩ := ZR.out.four
      clear q1 q2 q3 q4 htk hlen
      go_wp2_with fail
      have hret := cr_fin (w := w) (g := w.heap.size) (n := i) (c := d) (A := L) (room := room) DR.out ZR.out HFIN.out.1 HFIN.out.2 (BW.out.trans (HBW.out.mono (by omega))) (Nat.le_refl _) rfl
      obtain ⟨X, hX⟩ : ∃ X, X = ((((((wr.setCell ⟨w.heap.size, 0, none⟩ (.slice L i d)).setCell ⟨w.heap.size, 3, none⟩ (.bool false)).setCell ⟨w.heap.size, 2, none⟩ (.int .i64 (-1))).setCell ⟨w.heap.size + 1, 0, none⟩ (.slice L i d)).setCell ⟨w.heap.size + 1, 1, none⟩ (.int .i64 (room : Int))).setCell ⟨w.heap.size + 1, 2, none⟩ (.int .i64 (-1))).setCell ⟨w.heap.size + 1, 3, none⟩ (.bool false) := ⟨_, rfl⟩
      rw [← hX] at hret ⊢
      obtain ⟨zX, hret⟩ := hret
      obtain ⟨x0, x1, x2, x3, _⟩ := zX.four
      refine bodyPost_ret (v := .agg #[.slice L i d, .int .i64 (room : Int), .int .i64 (-1), .bool false]) (by simp [results, Try.results71, go_sem, x0, x1, x2, x3]; try rfl) rfl ?_
      exact hret
end
end Go.Proofs.Ytjpnfhfeabdhiaa
namespace Go.Proofs.Ytjpnfhfeabdhiaa
open Go Go.RowKit Go.Maps

/-- An act as plain data. -/
structure AC where
  kind : Int
  name : List UInt8
  dst : List UInt8
  data : List UInt8
  num : Int
  keeps : List Int
/-- 'These six values are the act a, and its slices lie below that base.' -/
def AV (w : World) (base : Nat) (a : AC) (v0 v1 v2 v3 v4 v5 : Value) : Prop :=
  v0 = .int .i64 a.kind ∧ v1 = .string (tx a.name) ∧ v2 = .string (tx a.dst) ∧ v4 = .int .i64 a.num ∧ I64 a.num ∧ (∀ z ∈ a.keeps, I64 z) ∧
    ∃ S sn sc K kn kc, v3 = .slice S sn sc ∧ v5 = .slice K kn kc ∧ Rd w S sn a.data ∧ RdV w K kn (ivs a.keeps) ∧ (0 < sn → ∀ b, blk S = some b → b < base) ∧ (0 < kn → ∀ b, blk K = some b → b < base)
/-- The bytes and names of an act. -/
def SzA (a : AC) : Prop := a.name.length ≤ 1099511627776 ∧ a.dst.length ≤ 1099511627776 ∧ a.data.length ≤ 1099511627776 ∧ a.keeps.length ≤ 1099511627776
/-- 'None of these blocks.' -/
def GB (bl : List Nat) : Nat → Prop := fun b => b ∉ bl
theorem I64.zero : I64 0 := by unfold I64; omega
section
variable {w w' : World} {p : Nat} {bl bl' ex : List Nat} {D : DS}
theorem AV.below {base : Nat} {a : AC} {v0 v1 v2 v3 v4 v5 : Value} (h : AV w base a v0 v1 v2 v3 v4 v5) (hb : Below base w w') : AV w' base a v0 v1 v2 v3 v4 v5 := by
  obtain ⟨h0, h1, h2, h4, h5, h6, S, sn, sc, K, kn, kc, h7, h8, h9, h10, h11, h12⟩ := h
  refine ⟨h0, h1, h2, h4, h5, h6, S, sn, sc, K, kn, kc, h7, h8, ?_, ?_, h11, h12⟩
  · refine ⟨h9.1, fun hn => ?_⟩
    obtain ⟨b, off, e, hl, hc⟩ := h9.2 hn
    have hlt := h11 hn b (by rw [e]; rfl)
    exact ⟨b, off, e, Nat.lt_of_lt_of_le hl hb.size, fun i x hx => (hb.cell (p := ⟨b, off + i, none⟩) hlt).trans (hc i x hx)⟩
  · refine ⟨h10.1, fun hn => ?_⟩
    obtain ⟨b, off, e, hl, hc⟩ := h10.2 hn
    have hlt := h12 hn b (by rw [e]; rfl)
    exact ⟨b, off, e, Nat.lt_of_lt_of_le hl hb.size, fun i x hx => (hb.cell (p := ⟨b, off + i, none⟩) hlt).trans (hc i x hx)⟩
theorem Rd.frG {A : Option Addr} {n : Nat} {xs : List UInt8} (h : Rd w A n xs) (hg : Gd (GB (bl ++ ex)) A n) (hf : Fr w w' bl) : Rd w' A n xs := by
  rcases Nat.eq_zero_or_pos n with h0 | h0
  · subst h0
    exact ⟨h.1, fun hn => absurd hn (by omega)⟩
  · exact h.fr hf (fun b hb hm => hg h0 b hb (List.mem_append_left _ hm))
theorem Rd.frS {A : Option Addr} {n : Nat} {xs : List UInt8} (h : Rd w A n xs) (hg : 0 < n → ∀ b, blk A = some b → b ∉ bl) (hf : Fr w w' bl) : Rd w' A n xs := by
  rcases Nat.eq_zero_or_pos n with h0 | h0
  · subst h0
    exact ⟨h.1, fun hn => absurd hn (by omega)⟩
  · exact h.fr hf (hg h0)
theorem Gd.move {A : Option Addr} {n : Nat} (hg : Gd (GB (bl ++ ex)) A n) (hl : 0 < n → ∀ b, blk A = some b → b < w.heap.size) (hB : ∀ b ∈ bl', b ∈ bl ∨ w.heap.size ≤ b) : Gd (GB (bl' ++ ex)) A n := fun hn b hb hm => by
  rcases List.mem_append.1 hm with hm | hm
  · rcases hB b hm with h | h
    · exact hg hn b hb (List.mem_append_left _ h)
    · have := hl hn b hb; omega
  · exact hg hn b hb (List.mem_append_right _ hm)
theorem Rd.ltb {A : Option Addr} {n : Nat} {xs : List UInt8} (h : Rd w A n xs) : 0 < n → ∀ b, blk A = some b → b < w.heap.size := fun hn b hb => by
  obtain ⟨k, off, rfl, hl, _⟩ := h.2 hn
  injection hb with hb
  rw [← hb]; exact hl
theorem RdV.ltb {A : Option Addr} {n : Nat} {vs : List Value} (h : RdV w A n vs) : 0 < n → ∀ b, blk A = some b → b < w.heap.size := fun hn b hb => by
  obtain ⟨k, off, rfl, hl, _⟩ := h.2 hn
  injection hb with hb
  rw [← hb]; exact hl
theorem FV.frD {f : FE} {v0 v1 v2 : Value} (h : FV (GB (bl ++ ex)) w f v0 v1 v2) (hf : Fr w w' bl) (hB : ∀ b ∈ bl', b ∈ bl ∨ w.heap.size ≤ b) : FV (GB (bl' ++ ex)) w' f v0 v1 v2 := by
  obtain ⟨h1, h2, S, sn, sc, T, tn, tc, h3, h4, h5, h6, h7, h8, h9, h10⟩ := h
  exact ⟨h1, h2, S, sn, sc, T, tn, tc, h3, h4, h5.frG h9 hf, h6.frG h10 hf, h7, h8, h9.move h5.ltb hB, h10.move h6.ltb hB⟩
theorem FVs.frD (hf : Fr w w' bl) (hB : ∀ b ∈ bl', b ∈ bl ∨ w.heap.size ≤ b) : ∀ {fs : List FE} {vs : List Value}, FVs (GB (bl ++ ex)) w fs vs → FVs (GB (bl' ++ ex)) w' fs vs
  | [], _, h => h
  | _ :: _, _, ⟨v0, v1, v2, r, e, h1, h2⟩ => ⟨v0, v1, v2, r, e, h1.frD hf hB, FVs.frD hf hB h2⟩
/-- The reference's files behind a call on the program's disk. -/
theorem RFs.frD {A : Option Addr} {n : Nat} {fs : List FE} (h : RFs (GB (bl ++ ex)) w A n fs) (hf : Fr w w' bl) (hB : ∀ b ∈ bl', b ∈ bl ∨ w.heap.size ≤ b) : RFs (GB (bl' ++ ex)) w' A n fs := by
  obtain ⟨h1, vs, h2, h3, h4⟩ := h
  exact ⟨h1, vs, h2.frD hf hB, h3.fr hf (fun hn b hb hm => h4 hn b hb (List.mem_append_left _ hm)), h4.move h3.ltb hB⟩
theorem RetDK.out {v : Value} {e : Ending} (h : RetDK w p bl D v e w') : e = .returned v ∧ ∃ bl', DK w' p bl' D ∧ Fr w w' bl ∧ ∀ b ∈ bl', b ∈ bl ∨ w.heap.size ≤ b := h
theorem gb_new (hb : ∀ b ∈ bl, b < w.heap.size) (he : ∀ b ∈ ex, b < w.heap.size) : ∀ b, w.heap.size ≤ b → GB (bl ++ ex) b := fun b h hm => by
  rcases List.mem_append.1 hm with hm | hm
  · have := hb b hm; omega
  · have := he b hm; omega
end
set_option maxRecDepth 100000 in
set_option maxHeartbeats 2000000 in
theorem Over_some (g n c base : Nat) (xs : List UInt8) (w : World) (ho : Own 5 w base (some ⟨g, 0, none⟩) n c xs) (hn : n ≤ 1099511627776) :
    Calls Try.prog 35 #[.slice (some ⟨g, 0, none⟩) n c] w fun e w' => e = .returned (.tuple #[]) ∧ w.grownBy w' (some g) := by
  go_enter Try.func35, Try.ntmps35
  go_wp2
  go_loopw [2] (fun vi wr => ∃ (i : Nat) (ys : List UInt8), vi = .int .i64 i ∧ i ≤ n ∧ Own 5 wr base (some ⟨g, 0, none⟩) n c ys ∧ w.grownBy wr (some g)) (fun vi _ => n - (intOf vi).toNat)
  case atStart => exact ⟨0, xs, rfl, Nat.zero_le _, ho, World.grownBy.refl w _⟩
  case round =>
    obtain ⟨i, ys, rfl, hi, hO, hg⟩ := hrel
    by_cases hlt : i < n
    · obtain ⟨x, _, hc0, _⟩ := hO.rd.at_ i (by omega)
      rw [Nat.zero_add] at hc0
      have fz := hO.thawed i
      obtain ⟨y, hy⟩ := u8_xor90 x.toNat (UInt8.toNat_lt x)
      have h1 := hO.set_ i y _ rfl
      have h2 := hg.trans (World.ownsRow.stored hO i (.int .u8 (y.toNat : Int))).2
      have H1 := Lib.hid h1
      have H2 := Lib.hid h2
      clear h1 h2
      go_wp2
      go_roundw
      case rel => exact ⟨i + 1, _, by go_num, by omega, H1.out, H2.out⟩
      case measure => simp [intOf]; omega
    · go_wp2
      go_end0
      exact ⟨rfl, hg⟩
theorem Over_none (c : Nat) (w : World) : Calls Try.prog 35 #[.slice none 0 c] w fun e w' => e = .returned (.tuple #[]) ∧ w' = w := by
  go_enter Try.func35, Try.ntmps35
  go_wp2
  go_loopw [2] (fun vi wr => vi = .int .i64 0 ∧ wr = w) (fun _ _ => 0)
  case atStart => exact ⟨rfl, rfl⟩
  case round =>
    obtain ⟨rfl, rfl⟩ := hrel
    go_wp2
    go_end0
    exact ⟨rfl, rfl⟩
/-- Over at a row of the call's own: nothing but its block is turned. -/
theorem Over_own (A : Option Addr) (n c base : Nat) (xs : List UInt8) (w : World) (ho : Own 5 w base A n c xs) (hn : n ≤ 1099511627776) :
    Calls Try.prog 35 #[.slice A n c] w fun e w' => e = .returned (.tuple #[]) ∧ w.grownBy w' (blk A) := by
  cases hA : blk A with
  | none =>
    obtain ⟨rfl, rfl, rfl⟩ := ho.nil_of hA
    exact (Over_none 0 w).mono (by rintro e w' ⟨h1, rfl⟩; exact ⟨h1, World.grownBy.refl _ _⟩)
  | some g =>
    obtain rfl := ho.at0 g hA
    exact Over_some g n c base xs w ho hn
end Go.Proofs.Ytjpnfhfeabdhiaa
namespace Go.Proofs.Ytjpnfhfeabdhiaa
open Go Go.RowKit Go.Maps

/-- What an act makes of a disk. -/
def doD (D : DS) (a : AC) : DS :=
  if a.kind = 1 then (appendD D a.name a.data).1 else if a.kind = 2 then (syncD D a.name).1 else if a.kind = 3 then (renameD D a.name a.dst).1 else if a.kind = 4 then (removeD D a.name).1
  else if a.kind = 5 then (cutD D a.name a.num).1 else if a.kind = 6 then armD D a.num else if a.kind = 7 then crashD D a.keeps else D
def RetDo (w : World) (p : Nat) (bl ex : List Nat) (D : DS) (e : Ending) (w' : World) : Prop :=
  ∃ A n c bl', e = .returned (.tuple #[.agg #[.slice A n c, .int .i64 (D.room : Int), .int .i64 D.arm, .bool D.dead], .bool true]) ∧ DK w' p bl' D ∧ RFs (GB (bl' ++ ex)) w' A n D.fs ∧ n ≤ c ∧ Fr w w' bl ∧ ∀ b ∈ bl', b ∈ bl ∨ w.heap.size ≤ b
/-- The reference's disk in its box, beside the program's. -/
def BoxT (w : World) (g p : Nat) (bl ex : List Nat) (D : DS) (s8 s9 : Value) (wy : World) : Prop :=
  ∃ (k : Int) (A : Option Addr) (n c : Nat) (bl' : List Nat), s8 = .int .i64 k ∧ s9 = .int .i64 k ∧ Bk wy g #[.slice A n c, .int .i64 (D.room : Int), .int .i64 D.arm, .bool D.dead] 36 ∧ Bk wy (g + 2) #[.slice none 0 0, .int .i64 0, .int .i64 0, .bool false] 36 ∧
    DK wy p bl' D ∧ RFs (GB (bl' ++ ex)) wy A n D.fs ∧ n ≤ c ∧ Fr w wy bl ∧ ∀ b ∈ bl', b ∈ bl ∨ g + 3 ≤ b
theorem BoxT.mk {w w2 wy : World} {g p n c n0 c0 : Nat} {bl bl1 ex : List Nat} {A A0 : Option Addr} {z0 y0 k : Int} {d0 : Bool} {D : DS} (hd : Bk w2 g #[.slice A0 n0 c0, .int .i64 z0, .int .i64 y0, .bool d0] 36)
    (hz : Bk w2 (g + 2) #[.slice none 0 0, .int .i64 0, .int .i64 0, .bool false] 36) (hk : DK w2 p bl1 D) (hr : RFs (GB (bl1 ++ ex)) w2 A n D.fs) (hc : n ≤ c) (hf : Fr w w2 bl) (hB : ∀ b ∈ bl1, b ∈ bl ∨ g + 3 ≤ b) (hbl : ∀ b ∈ bl, b < g) (hg : w.heap.size ≤ g)
    (hy : wy = (((w2.setCell ⟨g, 0, none⟩ (.slice A n c)).setCell ⟨g, 1, none⟩ (.int .i64 (D.room : Int))).setCell ⟨g, 2, none⟩ (.int .i64 D.arm)).setCell ⟨g, 3, none⟩ (.bool D.dead)) : BoxT w g p bl ex D (.int .i64 k) (.int .i64 k) wy := by
  have fY : Fr w2 wy [g] := by rw [hy]; exact fr_set4 w2 g _ _ _ _
  refine ⟨k, A, n, c, bl1, rfl, rfl, by rw [hy]; exact hd.put4 rfl _ _ _ _, (fY.block _ hz.lt (by simp)).trans hz, hk.fr fY (fun b hb hm => ?_), RFs.store hd fY hr, hc, hf.trans fY (fun b hb => by rw [List.mem_singleton] at hb; right; omega), hB⟩
  rw [List.mem_singleton] at hm
  subst hm
  rcases hB _ hb with h | h
  · have := hbl _ h; omega
  · omega
theorem Bk.six {w : World} {g : Nat} {a b c d e f : Value} {t : TypeId} (h : Bk w g #[a, b, c, d, e, f] t) : w.cell? ⟨g, 0, none⟩ = some a ∧ w.cell? ⟨g, 1, none⟩ = some b ∧ w.cell? ⟨g, 2, none⟩ = some c ∧ w.cell? ⟨g, 3, none⟩ = some d ∧ w.cell? ⟨g, 4, none⟩ = some e ∧ w.cell? ⟨g, 5, none⟩ = some f :=
  ⟨h.cell 0, h.cell 1, h.cell 2, h.cell 3, h.cell 4, h.cell 5⟩
theorem Bk.fr {w w' : World} {g : Nat} {vs : Array Value} {t : TypeId} {bl : List Nat} (h : Bk w g vs t) (hf : Fr w w' bl) (hn : g ∉ bl) : Bk w' g vs t := (hf.block g h.lt hn).trans h
theorem info_intD : (Try.prog.info? 3).map (fun i => (i.zero, i.size, i.bytes)) = some (some (.int .i64 0), 1, 8) := by kernel_rfl
theorem ivs_one (ks : List Int) : ∀ u ∈ ivs ks, u.oneCell' = true := by
  intro u hu
  obtain ⟨z, _, rfl⟩ := List.mem_map.1 hu
  rfl

section
variable {w : World} {p n c base : Nat} {bl ex : List Nat} {D : DS} {A : Option Addr} {a : AC} {v0 v1 v2 v3 v4 v5 : Value}
set_option maxRecDepth 100000 in
set_option maxHeartbeats 16000000 in
theorem do_any (h : DK w p bl D) (hr : RFs (GB (bl ++ ex)) w A n D.fs) (hc : n ≤ c) (hz : SzD D) (ha : AV w base a v0 v1 v2 v3 v4 v5) (hbase : ∀ b ∈ bl, base ≤ b) (hex : ∀ b ∈ ex, b < w.heap.size) (hsa : SzA a) :
    Calls Try.prog 20 #[.pointer (some ⟨p, 0, none⟩), .agg #[.slice A n c, .int .i64 (D.room : Int), .int .i64 D.arm, .bool D.dead], .agg #[v0, v1, v2, v3, v4, v5]] w (RetDo w p bl ex (doD D a)) := by
  have hblt := h.lt
  have HUP := Lib.hid h.up
  have HRM := Lib.hid h.room
  have HAR := Lib.hid h.arm
  have HSZ := Lib.hid hz
  have hn : n ≤ 1099511627776 := by rw [← hr.len]; exact hz.2.1
  have hus : usedF D.fs ≤ 1099511627776 := hz.1
  have HAV := Lib.hid ha
  have HBL := Lib.hid hblt
  have HBA := Lib.hid hbase
  have HEX := Lib.hid hex
  obtain ⟨rfl, rfl, rfl, rfl, hnum, hkeeps, S, sn, sc, K, kn, kc, rfl, rfl, hS, hK, gS, gK⟩ := ha
  have HKZ := Lib.hid hkeeps
  have hsn : sn ≤ 1099511627776 := by rw [← hS.len]; exact hsa.2.2.1
  have hkl := hK.len
  have hkn : kn ≤ 1099511627776 := by rw [← hkl]; unfold ivs; rw [List.length_map]; exact hsa.2.2.2
  have HSA := Lib.hid hsa
  have HS := Lib.hid hS
  have HK := Lib.hid hK
  have GS := Lib.hid gS
  have GK := Lib.hid gK
  clear hex hsa hS hK gS gK hkl hkeeps hz hbase
  go_enter Try.func20, Try.ntmps20
  go_upto_block 0 with (fail)
  obtain ⟨W, hW⟩ : ∃ W, W = ((w.alloc (.cells #[.slice A n c, .int .i64 (D.room : Int), .int .i64 D.arm, .bool D.dead] 36)).alloc (.cells #[.int .i64 a.kind, .string (tx a.name), .string (tx a.dst), .slice S sn sc, .int .i64 a.num, .slice K kn kc] 40)).alloc (.cells #[.slice none 0 0, .int .i64 0, .int .i64 0, .bool false] 36) := ⟨_, rfl⟩
  rw [← hW]
  have bW : Below w.heap.size w W := by rw [hW]; exact (((Below.refl _ _).alloc (Nat.le_refl _) _).alloc (by simp) _).alloc (by simp; omega) _
  have sW : w.heap.size + 3 ≤ W.heap.size := by rw [hW]; simp
  have dW : Bk W w.heap.size #[.slice A n c, .int .i64 (D.room : Int), .int .i64 D.arm, .bool D.dead] 36 := by rw [hW]; exact ((Bk.new _ _ _).below ((Below.refl _ _).alloc (Nat.le_refl _) _)).below ((Below.refl _ _).alloc (Nat.le_refl _) _)
  have aW : Bk W (w.heap.size + 1) #[.int .i64 a.kind, .string (tx a.name), .string (tx a.dst), .slice S sn sc, .int .i64 a.num, .slice K kn kc] 40 := by
    rw [hW]
    have := Bk.new (w.alloc (.cells #[.slice A n c, .int .i64 (D.room : Int), .int .i64 D.arm, .bool D.dead] 36)) #[.int .i64 a.kind, .string (tx a.name), .string (tx a.dst), .slice S sn sc, .int .i64 a.num, .slice K kn kc] 40
    simp only [World.size_alloc] at this
    exact this.below ((Below.refl _ _).alloc (Nat.le_refl _) _)
  have zW : Bk W (w.heap.size + 2) #[.slice none 0 0, .int .i64 0, .int .i64 0, .bool false] 36 := by
    rw [hW]
    have := Bk.new ((w.alloc (.cells #[.slice A n c, .int .i64 (D.room : Int), .int .i64 D.arm, .bool D.dead] 36)).alloc (.cells #[.int .i64 a.kind, .string (tx a.name), .string (tx a.dst), .slice S sn sc, .int .i64 a.num, .slice K kn kc] 40)) #[.slice none 0 0, .int .i64 0, .int .i64 0, .bool false] 36
    simpa using this
  have nb : ∀ i, w.heap.size + i ∉ bl := fun i hm => by have := hblt _ hm; omega
  have n0 := nb 0
  rw [Nat.add_zero] at n0
  have HDK := Lib.hid (h.below bW)
  have HRF := Lib.hid (hr.below bW)
  have FW := Lib.hid (Fr.of_below bW bl)
  have DW := Lib.hid dW
  have AW := Lib.hid aW
  have ZW := Lib.hid zW
  have BW := Lib.hid bW
  have NB := Lib.hid nb
  have N0 := Lib.hid n0
  clear hW bW h hr hblt nb n0 zW
  obtain ⟨e0, e1, e2, e3, y0, y1, y2, y3⟩ := dW.four
  obtain ⟨a0, a1, a2, a3, a4, a5⟩ := aW.six
  clear dW aW
  go_cut [8, 9, 13, 34, 47, 64, 77, 94, 104] (fun s8 s9 s13 s34 s47 s64 s77 s94 s104 wy => BoxT w w.heap.size p bl ex (doD D a) s8 s9 wy)
  case first =>
    by_cases k2 : a.kind = 2
    · obtain ⟨P, hP⟩ : ∃ P, P = syncD D a.name := ⟨_, rfl⟩
      have HDO : Hid (doD D a = P.1) := Lib.hid (by rw [hP]; simp [doD, k2])
      have HC : Hid (∀ W b, DK W p b D → Calls Try.prog 17 #[.pointer (some ⟨p, 0, none⟩), .string (tx a.name)] W (RetDK W p b P.1 (.int .i64 P.2))) := Lib.hid (fun W b hk => by rw [hP]; exact sync_DK a.name hk HSA.out.1)
      have HR : Hid (∀ W b, RFs (GB (b ++ ex)) W A n D.fs → (∀ x, W.heap.size ≤ x → GB (b ++ ex) x) → Calls Try.prog 65 #[.agg #[.slice A n c, .int .i64 (D.room : Int), .int .i64 D.arm, .bool D.dead], .int .i64 1, .string (tx a.name), .string (tx []), .int .i64 0] W (RetRE (GB (b ++ ex)) W P.1 P.2)) := Lib.hid (fun W b hq hg => by
        rw [hP]
        exact rturn_any D.dead 1 (by omega) a.name [] 0 D.fs hq HUP.out hn hc hus I64.zero HAR.out hg)
      have t1 : (a.kind == 1) = false := by rw [k2]; rfl
      have t2 : (a.kind == 2) = true := by rw [k2]; rfl
      clear hP k2
      go_wp2_with fail
      refine (HC.out _ _ HDK.out).mono ?_
      rintro e w1 ⟨rfl, bl1, h1, hF, hB⟩
      have hs1 := hF.size
      have D1 := Lib.hid (DW.out.fr hF N0.out)
      have Z1 := Lib.hid (ZW.out.fr hF (NB.out 2))
      have A1 := Lib.hid (AW.out.fr hF (NB.out 1))
      have F1 := Lib.hid (FW.out.trans hF (fun b hb => .inl hb))
      have B1 : Hid (∀ b ∈ bl1, b ∈ bl ∨ w.heap.size + 3 ≤ b) := Lib.hid (fun b hb => (hB b hb).imp id (fun h => by omega))
      have R1 := Lib.hid (HRF.out.frD hF hB)
      clear hF hB e0 e1 e2 e3 y0 y1 y2 y3 a0 a1 a2 a3 a4 a5
      obtain ⟨e0, e1, e2, e3, y0, y1, y2, y3⟩ := D1.out.four
      obtain ⟨a0, a1, a2, a3, a4, a5⟩ := A1.out.six
      clear HC
      go_wp2_with fail
      refine (HR.out _ _ R1.out (gb_new h1.lt (fun b hb => by have := HEX.out b hb; have := F1.out.size; omega))).mono ?_
      rintro e w2 ⟨A2, n2, c2, rfl, hr2, hc2, hb2⟩
      have HBX : Hid (∀ k wy, wy = (((w2.setCell ⟨w.heap.size, 0, none⟩ (.slice A2 n2 c2)).setCell ⟨w.heap.size, 1, none⟩ (.int .i64 (P.1.room : Int))).setCell ⟨w.heap.size, 2, none⟩ (.int .i64 P.1.arm)).setCell ⟨w.heap.size, 3, none⟩ (.bool P.1.dead) → BoxT w w.heap.size p bl ex P.1 (.int .i64 k) (.int .i64 k) wy) := Lib.hid (fun k wy hy => BoxT.mk (D1.out.below hb2) (Z1.out.below hb2) (h1.below hb2) hr2 hc2 (F1.out.trans (Fr.of_below hb2 bl) (fun b hb => .inl hb)) B1.out HBL.out (Nat.le_refl _) hy)
      clear hr2 h1
      obtain ⟨e0, e1, e2, e3, y0, y1, y2, y3⟩ := (D1.out.below hb2).four
      clear hb2
      go_wp2_with fail
      go_meet
      rw [HDO.out]
      exact HBX.out _ _ rfl
    by_cases k3 : a.kind = 3
    · obtain ⟨P, hP⟩ : ∃ P, P = renameD D a.name a.dst := ⟨_, rfl⟩
      have HDO : Hid (doD D a = P.1) := Lib.hid (by rw [hP]; simp [doD, k3])
      have HC : Hid (∀ W b, DK W p b D → Calls Try.prog 66 #[.pointer (some ⟨p, 0, none⟩), .string (tx a.name), .string (tx a.dst)] W (RetDK W p b P.1 (.int .i64 P.2))) := Lib.hid (fun W b hk => by rw [hP]; exact rename_DK a.name a.dst hk HSZ.out HSA.out.1 HSA.out.2.1)
      have HR : Hid (∀ W b, RFs (GB (b ++ ex)) W A n D.fs → (∀ x, W.heap.size ≤ x → GB (b ++ ex) x) → Calls Try.prog 65 #[.agg #[.slice A n c, .int .i64 (D.room : Int), .int .i64 D.arm, .bool D.dead], .int .i64 2, .string (tx a.name), .string (tx a.dst), .int .i64 0] W (RetRE (GB (b ++ ex)) W P.1 P.2)) := Lib.hid (fun W b hq hg => by
        rw [hP]
        exact rturn_any D.dead 2 (by omega) a.name a.dst 0 D.fs hq HUP.out hn hc hus I64.zero HAR.out hg)
      have t1 : (a.kind == 1) = false := by rw [k3]; rfl
      have t2 : (a.kind == 2) = false := by rw [k3]; rfl
      have t3 : (a.kind == 3) = true := by rw [k3]; rfl
      clear hP k3
      go_wp2_with fail
      refine (HC.out _ _ HDK.out).mono ?_
      rintro e w1 ⟨rfl, bl1, h1, hF, hB⟩
      have hs1 := hF.size
      have D1 := Lib.hid (DW.out.fr hF N0.out)
      have Z1 := Lib.hid (ZW.out.fr hF (NB.out 2))
      have A1 := Lib.hid (AW.out.fr hF (NB.out 1))
      have F1 := Lib.hid (FW.out.trans hF (fun b hb => .inl hb))
      have B1 : Hid (∀ b ∈ bl1, b ∈ bl ∨ w.heap.size + 3 ≤ b) := Lib.hid (fun b hb => (hB b hb).imp id (fun h => by omega))
      have R1 := Lib.hid (HRF.out.frD hF hB)
      clear hF hB e0 e1 e2 e3 y0 y1 y2 y3 a0 a1 a2 a3 a4 a5
      obtain ⟨e0, e1, e2, e3, y0, y1, y2, y3⟩ := D1.out.four
      obtain ⟨a0, a1, a2, a3, a4, a5⟩ := A1.out.six
      clear HC
      go_wp2_with fail
      refine (HR.out _ _ R1.out (gb_new h1.lt (fun b hb => by have := HEX.out b hb; have := F1.out.size; omega))).mono ?_
      rintro e w2 ⟨A2, n2, c2, rfl, hr2, hc2, hb2⟩
      have HBX : Hid (∀ k wy, wy = (((w2.setCell ⟨w.heap.size, 0, none⟩ (.slice A2 n2 c2)).setCell ⟨w.heap.size, 1, none⟩ (.int .i64 (P.1.room : Int))).setCell ⟨w.heap.size, 2, none⟩ (.int .i64 P.1.arm)).setCell ⟨w.heap.size, 3, none⟩ (.bool P.1.dead) → BoxT w w.heap.size p bl ex P.1 (.int .i64 k) (.int .i64 k) wy) := Lib.hid (fun k wy hy => BoxT.mk (D1.out.below hb2) (Z1.out.below hb2) (h1.below hb2) hr2 hc2 (F1.out.trans (Fr.of_below hb2 bl) (fun b hb => .inl hb)) B1.out HBL.out (Nat.le_refl _) hy)
      clear hr2 h1
      obtain ⟨e0, e1, e2, e3, y0, y1, y2, y3⟩ := (D1.out.below hb2).four
      clear hb2
      go_wp2_with fail
      go_meet
      rw [HDO.out]
      exact HBX.out _ _ rfl
    by_cases k4 : a.kind = 4
    · obtain ⟨P, hP⟩ : ∃ P, P = removeD D a.name := ⟨_, rfl⟩
      have HDO : Hid (doD D a = P.1) := Lib.hid (by rw [hP]; simp [doD, k4])
      have HC : Hid (∀ W b, DK W p b D → Calls Try.prog 67 #[.pointer (some ⟨p, 0, none⟩), .string (tx a.name)] W (RetDK W p b P.1 (.int .i64 P.2))) := Lib.hid (fun W b hk => by rw [hP]; exact remove_DK a.name hk HSA.out.1)
      have HR : Hid (∀ W b, RFs (GB (b ++ ex)) W A n D.fs → (∀ x, W.heap.size ≤ x → GB (b ++ ex) x) → Calls Try.prog 65 #[.agg #[.slice A n c, .int .i64 (D.room : Int), .int .i64 D.arm, .bool D.dead], .int .i64 3, .string (tx a.name), .string (tx []), .int .i64 0] W (RetRE (GB (b ++ ex)) W P.1 P.2)) := Lib.hid (fun W b hq hg => by
        rw [hP]
        exact rturn_any D.dead 3 (by omega) a.name [] 0 D.fs hq HUP.out hn hc hus I64.zero HAR.out hg)
      have t1 : (a.kind == 1) = false := by rw [k4]; rfl
      have t2 : (a.kind == 2) = false := by rw [k4]; rfl
      have t3 : (a.kind == 3) = false := by rw [k4]; rfl
      have t4 : (a.kind == 4) = true := by rw [k4]; rfl
      clear hP k4
      go_wp2_with fail
      refine (HC.out _ _ HDK.out).mono ?_
      rintro e w1 ⟨rfl, bl1, h1, hF, hB⟩
      have hs1 := hF.size
      have D1 := Lib.hid (DW.out.fr hF N0.out)
      have Z1 := Lib.hid (ZW.out.fr hF (NB.out 2))
      have A1 := Lib.hid (AW.out.fr hF (NB.out 1))
      have F1 := Lib.hid (FW.out.trans hF (fun b hb => .inl hb))
      have B1 : Hid (∀ b ∈ bl1, b ∈ bl ∨ w.heap.size + 3 ≤ b) := Lib.hid (fun b hb => (hB b hb).imp id (fun h => by omega))
      have R1 := Lib.hid (HRF.out.frD hF hB)
      clear hF hB e0 e1 e2 e3 y0 y1 y2 y3 a0 a1 a2 a3 a4 a5
      obtain ⟨e0, e1, e2, e3, y0, y1, y2, y3⟩ := D1.out.four
      obtain ⟨a0, a1, a2, a3, a4, a5⟩ := A1.out.six
      clear HC
      go_wp2_with fail
      refine (HR.out _ _ R1.out (gb_new h1.lt (fun b hb => by have := HEX.out b hb; have := F1.out.size; omega))).mono ?_
      rintro e w2 ⟨A2, n2, c2, rfl, hr2, hc2, hb2⟩
      have HBX : Hid (∀ k wy, wy = (((w2.setCell ⟨w.heap.size, 0, none⟩ (.slice A2 n2 c2)).setCell ⟨w.heap.size, 1, none⟩ (.int .i64 (P.1.room : Int))).setCell ⟨w.heap.size, 2, none⟩ (.int .i64 P.1.arm)).setCell ⟨w.heap.size, 3, none⟩ (.bool P.1.dead) → BoxT w w.heap.size p bl ex P.1 (.int .i64 k) (.int .i64 k) wy) := Lib.hid (fun k wy hy => BoxT.mk (D1.out.below hb2) (Z1.out.below hb2) (h1.below hb2) hr2 hc2 (F1.out.trans (Fr.of_below hb2 bl) (fun b hb => .inl hb)) B1.out HBL.out (Nat.le_refl _) hy)
      clear hr2 h1
      obtain ⟨e0, e1, e2, e3, y0, y1, y2, y3⟩ := (D1.out.below hb2).four
      clear hb2
      go_wp2_with fail
      go_meet
      rw [HDO.out]
      exact HBX.out _ _ rfl
    by_cases k5 : a.kind = 5
    · obtain ⟨P, hP⟩ : ∃ P, P = cutD D a.name a.num := ⟨_, rfl⟩
      have HDO : Hid (doD D a = P.1) := Lib.hid (by rw [hP]; simp [doD, k5])
      have HC : Hid (∀ W b, DK W p b D → Calls Try.prog 68 #[.pointer (some ⟨p, 0, none⟩), .string (tx a.name), .int .i64 a.num] W (RetDK W p b P.1 (.int .i64 P.2))) := Lib.hid (fun W b hk => by rw [hP]; exact cut_DK a.name a.num hk HSZ.out HSA.out.1)
      have HR : Hid (∀ W b, RFs (GB (b ++ ex)) W A n D.fs → (∀ x, W.heap.size ≤ x → GB (b ++ ex) x) → Calls Try.prog 65 #[.agg #[.slice A n c, .int .i64 (D.room : Int), .int .i64 D.arm, .bool D.dead], .int .i64 4, .string (tx a.name), .string (tx []), .int .i64 a.num] W (RetRE (GB (b ++ ex)) W P.1 P.2)) := Lib.hid (fun W b hq hg => by
        rw [hP]
        exact rturn_any D.dead 4 (by omega) a.name [] a.num D.fs hq HUP.out hn hc hus hnum HAR.out hg)
      have t1 : (a.kind == 1) = false := by rw [k5]; rfl
      have t2 : (a.kind == 2) = false := by rw [k5]; rfl
      have t3 : (a.kind == 3) = false := by rw [k5]; rfl
      have t4 : (a.kind == 4) = false := by rw [k5]; rfl
      have t5 : (a.kind == 5) = true := by rw [k5]; rfl
      clear hP k5
      go_wp2_with fail
      refine (HC.out _ _ HDK.out).mono ?_
      rintro e w1 ⟨rfl, bl1, h1, hF, hB⟩
      have hs1 := hF.size
      have D1 := Lib.hid (DW.out.fr hF N0.out)
      have Z1 := Lib.hid (ZW.out.fr hF (NB.out 2))
      have A1 := Lib.hid (AW.out.fr hF (NB.out 1))
      have F1 := Lib.hid (FW.out.trans hF (fun b hb => .inl hb))
      have B1 : Hid (∀ b ∈ bl1, b ∈ bl ∨ w.heap.size + 3 ≤ b) := Lib.hid (fun b hb => (hB b hb).imp id (fun h => by omega))
      have R1 := Lib.hid (HRF.out.frD hF hB)
      clear hF hB e0 e1 e2 e3 y0 y1 y2 y3 a0 a1 a2 a3 a4 a5
      obtain ⟨e0, e1, e2, e3, y0, y1, y2, y3⟩ := D1.out.four
      obtain ⟨a0, a1, a2, a3, a4, a5⟩ := A1.out.six
      clear HC
      go_wp2_with fail
      refine (HR.out _ _ R1.out (gb_new h1.lt (fun b hb => by have := HEX.out b hb; have := F1.out.size; omega))).mono ?_
      rintro e w2 ⟨A2, n2, c2, rfl, hr2, hc2, hb2⟩
      have HBX : Hid (∀ k wy, wy = (((w2.setCell ⟨w.heap.size, 0, none⟩ (.slice A2 n2 c2)).setCell ⟨w.heap.size, 1, none⟩ (.int .i64 (P.1.room : Int))).setCell ⟨w.heap.size, 2, none⟩ (.int .i64 P.1.arm)).setCell ⟨w.heap.size, 3, none⟩ (.bool P.1.dead) → BoxT w w.heap.size p bl ex P.1 (.int .i64 k) (.int .i64 k) wy) := Lib.hid (fun k wy hy => BoxT.mk (D1.out.below hb2) (Z1.out.below hb2) (h1.below hb2) hr2 hc2 (F1.out.trans (Fr.of_below hb2 bl) (fun b hb => .inl hb)) B1.out HBL.out (Nat.le_refl _) hy)
      clear hr2 h1
      obtain ⟨e0, e1, e2, e3, y0, y1, y2, y3⟩ := (D1.out.below hb2).four
      clear hb2
      go_wp2_with fail
      go_meet
      rw [HDO.out]
      exact HBX.out _ _ rfl
    by_cases k1 : a.kind = 1
    · obtain ⟨P, hP⟩ : ∃ P, P = appendD D a.name a.data := ⟨_, rfl⟩
      have HDO : Hid (doD D a = P.1) := Lib.hid (by rw [hP]; simp [doD, k1])
      have HC : Hid (∀ W b B m d, DK W p b D → Rd W B m a.data → (∀ x, blk B = some x → x ∉ b) → m ≤ 1099511627776 → Calls Try.prog 16 #[.pointer (some ⟨p, 0, none⟩), .string (tx a.name), .slice B m d] W (RetDK W p b P.1 (.int .i64 P.2))) := Lib.hid (fun W b B m d hk hb1 hb2 hb3 => by rw [hP]; exact append_DK a.name B m d a.data hk HSZ.out hb1 hb2 hb3 HSA.out.1)
      have HR : Hid (∀ W b, RFs (GB (b ++ ex)) W A n D.fs → Rd W S sn a.data → (∀ x, W.heap.size ≤ x → GB (b ++ ex) x) → Calls Try.prog 64 #[.agg #[.slice A n c, .int .i64 (D.room : Int), .int .i64 D.arm, .bool D.dead], .string (tx a.name), .slice S sn sc] W (RetRE (GB (b ++ ex)) W P.1 P.2)) := Lib.hid (fun W b hq hs hg => by
        rw [hP]
        exact rapp_any D.dead a.name S sn sc a.data D.fs hq HUP.out hn hc hus HRM.out.2 HAR.out hs hsn hg)
      have t1 : (a.kind == 1) = true := by rw [k1]; rfl
      clear hP k1
      go_wp2_with fail
      refine (Copy_any S sn sc a.data _ (HS.out.below BW.out) (by omega)).mono ?_
      rintro e wq ⟨B, m, d, rfl, oB, bB⟩
      have hm : m = sn := oB.len.symm.trans HS.out.len
      subst hm
      have sB := bB.size
      have DQ := Lib.hid (HDK.out.below bB)
      have OB := Lib.hid oB
      have BB := Lib.hid bB
      obtain ⟨q0, q1, q2, q3, _⟩ := (DW.out.below bB).four
      obtain ⟨r0, r1, r2, r3, r4, r5⟩ := (AW.out.below bB).six
      clear oB bB e0 e1 e2 e3 y0 y1 y2 y3 a0 a1 a2 a3 a4 a5
      go_wp2_with fail
      refine (HC.out _ _ B m d DQ.out OB.out.rd (fun x hx hm => by have := (OB.out.lt x hx).1; have := HBL.out x hm; omega) hsn).mono ?_
      rintro e wr ⟨rfl, blr, hr1, hFr, hBr⟩
      have sr := hFr.size
      have DR := Lib.hid ((DW.out.below BB.out).fr hFr N0.out)
      have AR := Lib.hid ((AW.out.below BB.out).fr hFr (NB.out 1))
      have ZR := Lib.hid ((ZW.out.below BB.out).fr hFr (NB.out 2))
      have OR := Lib.hid (OB.out.fr hFr (fun x hx hm => by have := (OB.out.lt x hx).1; have := HBL.out x hm; omega))
      have FR' := Lib.hid (hFr)
      have BR := Lib.hid hBr
      have HR1 := Lib.hid hr1
      obtain ⟨t0, t1, t2, t3, _⟩ := DR.out.four
      obtain ⟨u0, u1, u2, u3, u4, u5⟩ := AR.out.six
      clear q0 q1 q2 q3 r0 r1 r2 r3 r4 r5 hFr hBr hr1
      go_wp2_with fail
      refine (Over_own B m d W.heap.size a.data wr OR.out hsn).mono ?_
      rintro e w1 ⟨rfl, hgo⟩
      have hog : ∀ x, blk B = some x → W.heap.size ≤ x ∧ x < wq.heap.size := fun x hx => OB.out.lt x hx
      have hF2 : Fr wr w1 (blk B).toList := Fr.of_grown hgo (fun b hb => by rw [hb]; simp)
      have hmem : ∀ x, x ∈ (blk B).toList → W.heap.size ≤ x ∧ x < wq.heap.size := fun x hx => hog x (by simpa using hx)
      have sg := hgo.size
      have h1 : DK w1 p blr P.1 := HR1.out.fr hF2 (fun b hb hm => by
        have h5 := hmem b hm
        rcases BR.out b hb with h6 | h6
        · have := HBL.out b h6; omega
        · omega)
      have hF : Fr W w1 bl := ((Fr.of_below BB.out bl).trans FR'.out (fun b hb => .inl hb)).trans hF2 (fun b hb => .inr (hmem b hb).1)
      have hB : ∀ b ∈ blr, b ∈ bl ∨ W.heap.size ≤ b := fun b hb => (BR.out b hb).imp id (fun h => by omega)
      have D1 := Lib.hid (DW.out.fr hF N0.out)
      have Z1 := Lib.hid (ZW.out.fr hF (NB.out 2))
      have A1 := Lib.hid (AW.out.fr hF (NB.out 1))
      have F1 := Lib.hid (FW.out.trans hF (fun b hb => .inl hb))
      have B1 : Hid (∀ b ∈ blr, b ∈ bl ∨ w.heap.size + 3 ≤ b) := Lib.hid (fun b hb => (hB b hb).imp id (fun h => by omega))
      have R1 := Lib.hid (HRF.out.frD hF hB)
      have S1 : Hid (Rd w1 S m a.data) := Lib.hid ((HS.out.below BW.out).frS (fun hn b hb hm => by have := GS.out hn b hb; have := HBA.out b hm; omega) hF)
      clear hF hB hF2 hgo hog hmem t0 t1 t2 t3 u0 u1 u2 u3 u4 u5
      obtain ⟨e0, e1, e2, e3, y0, y1, y2, y3⟩ := D1.out.four
      obtain ⟨a0, a1, a2, a3, a4, a5⟩ := A1.out.six
      clear HC
      go_wp2_with fail
      refine (HR.out _ _ R1.out S1.out (gb_new h1.lt (fun b hb => by have := HEX.out b hb; have := F1.out.size; omega))).mono ?_
      rintro e w2 ⟨A2, n2, c2, rfl, hr2, hc2, hb2⟩
      have HBX : Hid (∀ k wy, wy = (((w2.setCell ⟨w.heap.size, 0, none⟩ (.slice A2 n2 c2)).setCell ⟨w.heap.size, 1, none⟩ (.int .i64 (P.1.room : Int))).setCell ⟨w.heap.size, 2, none⟩ (.int .i64 P.1.arm)).setCell ⟨w.heap.size, 3, none⟩ (.bool P.1.dead) → BoxT w w.heap.size p bl ex P.1 (.int .i64 k) (.int .i64 k) wy) := Lib.hid (fun k wy hy => BoxT.mk (D1.out.below hb2) (Z1.out.below hb2) (h1.below hb2) hr2 hc2 (F1.out.trans (Fr.of_below hb2 bl) (fun b hb => .inl hb)) B1.out HBL.out (Nat.le_refl _) hy)
      clear hr2 h1
      obtain ⟨e0, e1, e2, e3, y0, y1, y2, y3⟩ := (D1.out.below hb2).four
      clear hb2
      go_wp2_with fail
      go_meet
      rw [HDO.out]
      exact HBX.out _ _ rfl
    by_cases k6 : a.kind = 6
    · obtain ⟨P, hP⟩ : ∃ P, P = armD D a.num := ⟨_, rfl⟩
      have HDO : Hid (doD D a = P) := Lib.hid (by rw [hP]; simp [doD, k6])
      have HPF : Hid (P.fs = D.fs ∧ P.room = D.room ∧ P.dead = D.dead ∧ P.arm = if D.dead = true then D.arm else if a.num < 0 then -1 else a.num) := Lib.hid (by rw [hP]; unfold armD; by_cases hd : D.dead = true <;> simp [hd])
      have HC : Hid (∀ W b, DK W p b D → Calls Try.prog 69 #[.pointer (some ⟨p, 0, none⟩), .int .i64 a.num] W (RetDK W p b P (.tuple #[]))) := Lib.hid (fun W b hk => by rw [hP]; exact arm_DK a.num hk hnum)
      have HR : Hid (∀ W, Calls Try.prog 70 #[.agg #[.slice A n c, .int .i64 (D.room : Int), .int .i64 D.arm, .bool D.dead], .int .i64 a.num] W (RetAg W (.agg #[.slice A n c, .int .i64 (P.room : Int), .int .i64 P.arm, .bool P.dead]))) := Lib.hid (fun W => by
        rw [HPF.out.2.1, HPF.out.2.2.1, HPF.out.2.2.2]
        exact rarm_any D.dead a.num hnum)
      have t1 : (a.kind == 1) = false := by rw [k6]; rfl
      have t2 : (a.kind == 2) = false := by rw [k6]; rfl
      have t3 : (a.kind == 3) = false := by rw [k6]; rfl
      have t4 : (a.kind == 4) = false := by rw [k6]; rfl
      have t5 : (a.kind == 5) = false := by rw [k6]; rfl
      have t6 : (a.kind == 6) = true := by rw [k6]; rfl
      clear hP k6
      go_wp2_with fail
      refine (HC.out _ _ HDK.out).mono ?_
      rintro e w1 ⟨rfl, bl1, h1, hF, hB⟩
      have hs1 := hF.size
      have D1 := Lib.hid (DW.out.fr hF N0.out)
      have Z1 := Lib.hid (ZW.out.fr hF (NB.out 2))
      have A1 := Lib.hid (AW.out.fr hF (NB.out 1))
      have F1 := Lib.hid (FW.out.trans hF (fun b hb => .inl hb))
      have B1 : Hid (∀ b ∈ bl1, b ∈ bl ∨ w.heap.size + 3 ≤ b) := Lib.hid (fun b hb => (hB b hb).imp id (fun h => by omega))
      have R1 := Lib.hid (HRF.out.frD hF hB)
      clear hF hB e0 e1 e2 e3 y0 y1 y2 y3 a0 a1 a2 a3 a4 a5
      obtain ⟨e0, e1, e2, e3, y0, y1, y2, y3⟩ := D1.out.four
      obtain ⟨a0, a1, a2, a3, a4, a5⟩ := A1.out.six
      clear HC
      go_wp2_with fail
      refine (HR.out _).mono ?_
      rintro e w2 ⟨rfl, hb2⟩
      have hr2 : RFs (GB (bl1 ++ ex)) w2 A n P.fs := by rw [HPF.out.1]; exact R1.out.below hb2
      clear HPF
      have HBX : Hid (∀ k wy, wy = (((w2.setCell ⟨w.heap.size, 0, none⟩ (.slice A n c)).setCell ⟨w.heap.size, 1, none⟩ (.int .i64 (P.room : Int))).setCell ⟨w.heap.size, 2, none⟩ (.int .i64 P.arm)).setCell ⟨w.heap.size, 3, none⟩ (.bool P.dead) → BoxT w w.heap.size p bl ex P (.int .i64 k) (.int .i64 k) wy) := Lib.hid (fun k wy hy => BoxT.mk (D1.out.below hb2) (Z1.out.below hb2) (h1.below hb2) hr2 hc (F1.out.trans (Fr.of_below hb2 bl) (fun b hb => .inl hb)) B1.out HBL.out (Nat.le_refl _) hy)
      clear hr2 h1
      obtain ⟨e0, e1, e2, e3, y0, y1, y2, y3⟩ := (D1.out.below hb2).four
      clear hb2
      go_wp2_with fail
      go_meet
      rw [HDO.out]
      exact HBX.out _ _ rfl
    by_cases k7 : a.kind = 7
    · obtain ⟨P, hP⟩ : ∃ P, P = crashD D a.keeps := ⟨_, rfl⟩
      have HDO : Hid (doD D a = P) := Lib.hid (by rw [hP]; simp [doD, k7])
      have HC : Hid (∀ W b B m d, DK W p b D → RdV W B m (ivs a.keeps) → (0 < m → ∀ x, blk B = some x → x ∉ b) → m ≤ 1099511627776 → Calls Try.prog 59 #[.pointer (some ⟨p, 0, none⟩), .slice B m d] W (RetDK W p b P (.tuple #[]))) := Lib.hid (fun W b B m d hk hb1 hb2 hb3 => by rw [hP]; exact crash_DK B m d a.keeps hk HSZ.out hb1 hb2 hb3 HKZ.out)
      have HR : Hid (∀ W b, RFs (GB (b ++ ex)) W A n D.fs → RdV W K kn (ivs a.keeps) → (∀ x, W.heap.size ≤ x → GB (b ++ ex) x) → Calls Try.prog 71 #[.agg #[.slice A n c, .int .i64 (D.room : Int), .int .i64 D.arm, .bool D.dead], .slice K kn kc] W (RetRD (GB (b ++ ex)) W P.fs P.room P.arm P.dead)) := Lib.hid (fun W b hq hs hg => by
        rw [hP]
        exact rcrash_any D.dead K kn kc a.keeps D.fs hq hn hus hs hkn HKZ.out hg)
      have t1 : (a.kind == 1) = false := by rw [k7]; rfl
      have t2 : (a.kind == 2) = false := by rw [k7]; rfl
      have t3 : (a.kind == 3) = false := by rw [k7]; rfl
      have t4 : (a.kind == 4) = false := by rw [k7]; rfl
      have t5 : (a.kind == 5) = false := by rw [k7]; rfl
      have t6 : (a.kind == 6) = false := by rw [k7]; rfl
      have t7 : (a.kind == 7) = true := by rw [k7]; rfl
      have ea5 : (W.alloc (.cells #[] 3)).cell? ⟨w.heap.size + 1, 5, none⟩ = some (.slice K kn kc) := (((Below.refl _ _).alloc (Nat.le_refl _) _).cell (p := ⟨w.heap.size + 1, 5, none⟩) (by simp only; omega)).trans a5
      clear hP k7
      go_wp2_with (at_builtin; refine wpList_appV (W.alloc (.cells #[] 3)) rfl _ _ 38 rfl W.heap.size 3 _ 8 Try.underlying38 info_intD rfl (some ⟨W.heap.size, 0, none⟩) 0 0 [] rfl (ownV_boxD W 3 W.heap.size [] 0 rfl (by omega) (Nat.le_refl _) #[] rfl _ rfl) K kn kc (ivs a.keeps) rfl ((HK.out.below BW.out).alloc _) (ivs_one _) ?_ ?_ ?_ ?_)
      · unfold maxLen; omega
      · omega
      · simp
      intro B d wq oB gB hbB
      have oB' : OwnV 3 wq W.heap.size B kn d (ivs a.keeps) := by simpa using oB
      have bB : Below W.heap.size W wq := ((Below.refl _ _).alloc (Nat.le_refl _) _).grown gB (by simp) (fun k hk => by simp [blk] at hk; omega)
      have sB := bB.size
      have DQ := Lib.hid (HDK.out.below bB)
      have OB := Lib.hid oB'
      have BB := Lib.hid bB
      obtain ⟨q0, q1, q2, q3, q4, q5, q6, q7⟩ := (DW.out.below bB).four
      obtain ⟨r0, r1, r2, r3, r4, r5⟩ := (AW.out.below bB).six
      clear oB oB' gB hbB bB e0 e1 e2 e3 y0 y1 y2 y3 a0 a1 a2 a3 a4 a5
      go_wp2_with fail
      refine (HC.out _ _ B kn d DQ.out OB.out.rd (fun _ x hx hm => by have := (OwnV.lt OB.out x hx).1; have := HBL.out x hm; omega) (by omega)).mono ?_
      rintro e w1 ⟨rfl, bl1, h1, hF0, hB0⟩
      have hF : Fr W w1 bl := (Fr.of_below BB.out bl).trans hF0 (fun b hb => .inl hb)
      have hB : ∀ b ∈ bl1, b ∈ bl ∨ W.heap.size ≤ b := fun b hb => (hB0 b hb).imp id (fun h => by omega)
      have e0 := q0
      have e1 := q1
      have e2 := q2
      have e3 := q3
      have y0 := q4
      have y1 := q5
      have y2 := q6
      have y3 := q7
      have a0 := r0
      have a1 := r1
      have a2 := r2
      have a3 := r3
      have a4 := r4
      have a5 := r5
      have S1 : Hid (RdV w1 K kn (ivs a.keeps)) := Lib.hid ((HK.out.below BW.out).fr hF (fun hn b hb hm => by have := GK.out hn b hb; have := HBA.out b hm; omega))
      clear hF0 hB0 q0 q1 q2 q3 q4 q5 q6 q7 r0 r1 r2 r3 r4 r5
      have hs1 := hF.size
      have D1 := Lib.hid (DW.out.fr hF N0.out)
      have Z1 := Lib.hid (ZW.out.fr hF (NB.out 2))
      have A1 := Lib.hid (AW.out.fr hF (NB.out 1))
      have F1 := Lib.hid (FW.out.trans hF (fun b hb => .inl hb))
      have B1 : Hid (∀ b ∈ bl1, b ∈ bl ∨ w.heap.size + 3 ≤ b) := Lib.hid (fun b hb => (hB b hb).imp id (fun h => by omega))
      have R1 := Lib.hid (HRF.out.frD hF hB)
      clear hF hB e0 e1 e2 e3 y0 y1 y2 y3 a0 a1 a2 a3 a4 a5
      obtain ⟨e0, e1, e2, e3, y0, y1, y2, y3⟩ := D1.out.four
      obtain ⟨a0, a1, a2, a3, a4, a5⟩ := A1.out.six
      clear HC
      go_wp2_with fail
      refine (HR.out _ _ R1.out S1.out (gb_new h1.lt (fun b hb => by have := HEX.out b hb; have := F1.out.size; omega))).mono ?_
      rintro e w2 ⟨A2, n2, c2, rfl, hr2, hc2, hb2⟩
      have HBX : Hid (∀ k wy, wy = (((w2.setCell ⟨w.heap.size, 0, none⟩ (.slice A2 n2 c2)).setCell ⟨w.heap.size, 1, none⟩ (.int .i64 (P.room : Int))).setCell ⟨w.heap.size, 2, none⟩ (.int .i64 P.arm)).setCell ⟨w.heap.size, 3, none⟩ (.bool P.dead) → BoxT w w.heap.size p bl ex P (.int .i64 k) (.int .i64 k) wy) := Lib.hid (fun k wy hy => BoxT.mk (D1.out.below hb2) (Z1.out.below hb2) (h1.below hb2) hr2 hc2 (F1.out.trans (Fr.of_below hb2 bl) (fun b hb => .inl hb)) B1.out HBL.out (Nat.le_refl _) hy)
      clear hr2 h1
      obtain ⟨e0, e1, e2, e3, y0, y1, y2, y3⟩ := (D1.out.below hb2).four
      clear hb2
      go_wp2_with fail
      go_meet
      rw [HDO.out]
      exact HBX.out _ _ rfl
    · have HDO : Hid (doD D a = D) := Lib.hid (by simp [doD, k1, k2, k3, k4, k5, k6, k7])
      have t1 : (a.kind == 1) = false := by simpa using k1
      have t2 : (a.kind == 2) = false := by simpa using k2
      have t3 : (a.kind == 3) = false := by simpa using k3
      have t4 : (a.kind == 4) = false := by simpa using k4
      have t5 : (a.kind == 5) = false := by simpa using k5
      have t6 : (a.kind == 6) = false := by simpa using k6
      have t7 : (a.kind == 7) = false := by simpa using k7
      go_wp2_with fail
      go_meet
      rw [HDO.out]
      exact ⟨0, A, n, c, bl, rfl, rfl, DW.out, ZW.out, HDK.out, HRF.out, hc, FW.out, fun b hb => .inl hb⟩
  case rest =>
    obtain ⟨k, A7, n7, c7, bl7, rfl, rfl, hd7, hz7, hk7, hr7, hc7, hf7, hB7⟩ := hcut
    clear e0 e1 e2 e3 y0 y1 y2 y3 a0 a1 a2 a3 a4 a5
    obtain ⟨e0, e1, e2, e3, y0, y1, y2, y3⟩ := hd7.four
    obtain ⟨g0, g1, g2, g3, k0, k1, k2, k3⟩ := hz7.four
    have Z7 := Lib.hid hz7
    have D7 := Lib.hid hd7
    have H7 := Lib.hid hk7
    have R7 := Lib.hid hr7
    have F7 := Lib.hid hf7
    have B7 := Lib.hid hB7
    clear hd7 hz7 hk7 hr7 hf7 hB7
    go_wp2_with fail
    obtain ⟨X, hX⟩ : ∃ X, X = (((wc.setCell ⟨w.heap.size + 2, 0, none⟩ (.slice A7 n7 c7)).setCell ⟨w.heap.size + 2, 1, none⟩ (.int .i64 ((doD D a).room : Int))).setCell ⟨w.heap.size + 2, 2, none⟩ (.int .i64 (doD D a).arm)).setCell ⟨w.heap.size + 2, 3, none⟩ (.bool (doD D a).dead) := ⟨_, rfl⟩
    rw [← hX]
    have fX : Fr wc X [w.heap.size + 2] := by rw [hX]; exact fr_set4 _ _ _ _ _ _
    have zX : Bk X (w.heap.size + 2) #[.slice A7 n7 c7, .int .i64 ((doD D a).room : Int), .int .i64 (doD D a).arm, .bool (doD D a).dead] 36 := by rw [hX]; exact Z7.out.put4 rfl _ _ _ _
    obtain ⟨x0, x1, x2, x3, _⟩ := zX.four
    refine bodyPost_ret (v := .tuple #[.agg #[.slice A7 n7 c7, .int .i64 ((doD D a).room : Int), .int .i64 (doD D a).arm, .bool (doD D a).dead], .bool true]) (by simp [results, Try.results20, go_sem, x0, x1, x2, x3]; try rfl) rfl ?_
    refine ⟨A7, n7, c7, bl7, rfl, H7.out.fr fX (fun b hb hm => ?_), RFs.store Z7.out fX R7.out, hc7, F7.out.trans fX (fun b hb => by rw [List.mem_singleton] at hb; right; omega), fun b hb => (B7.out b hb).imp id (fun h => by omega)⟩
    rw [List.mem_singleton] at hm
    subst hm
    rcases B7.out _ hb with h | h
    · have := HBL.out _ h; omega
    · omega
end
end Go.Proofs.Ytjpnfhfeabdhiaa
namespace Go.Proofs.Ytjpnfhfeabdhiaa
open Go Go.RowKit Go.Maps

/-- What stands while both are looked at. -/
def KS (w0 : World) (g p : Nat) (bl ex : List Nat) (A : Option Addr) (n c : Nat) (D : DS) (wx : World) : Prop :=
  DK wx p bl D ∧ RFs (GB (bl ++ ex)) wx A n D.fs ∧ Bk wx g #[.slice A n c, .int .i64 (D.room : Int), .int .i64 D.arm, .bool D.dead] 36 ∧ Below w0.heap.size w0 wx
section
variable {w0 wx w' : World} {g p n c : Nat} {bl ex : List Nat} {A : Option Addr} {D : DS}
theorem KS.made (h : KS w0 g p bl ex A n c D wx) (hb : Below wx.heap.size wx w') : KS w0 g p bl ex A n c D w' := ⟨h.1.below hb, h.2.1.below hb, h.2.2.1.below hb, h.2.2.2.trans (hb.mono h.2.2.2.size)⟩
theorem KS.drew (h : KS w0 g p bl ex A n c D wx) : KS w0 g p bl ex A n c D wx.drew := h.made (Below.refl _ _).drew
theorem KS.drewN (h : KS w0 g p bl ex A n c D wx) (q : Nat) : KS w0 g p bl ex A n c D (wx.drewN q) := h.made (below_drewN (Below.refl _ _) q)
theorem KS.cells (h : KS w0 g p bl ex A n c D wx) : wx.cell? ⟨g, 0, none⟩ = some (.slice A n c) ∧ wx.cell? ⟨g, 1, none⟩ = some (.int .i64 (D.room : Int)) ∧ wx.cell? ⟨g, 2, none⟩ = some (.int .i64 D.arm) ∧ wx.cell? ⟨g, 3, none⟩ = some (.bool D.dead) :=
  ⟨h.2.2.1.cell 0, h.2.2.1.cell 1, h.2.2.1.cell 2, h.2.2.1.cell 3⟩
theorem KS.all (h : KS w0 g p bl ex A n c D wx) : wx.cell? ⟨g, 0, none⟩ = some (.slice A n c) ∧ wx.cell? ⟨g, 1, none⟩ = some (.int .i64 (D.room : Int)) ∧ wx.cell? ⟨g, 2, none⟩ = some (.int .i64 D.arm) ∧ wx.cell? ⟨g, 3, none⟩ = some (.bool D.dead) ∧ KS w0 g p bl ex A n c D wx := ⟨h.cells.1, h.cells.2.1, h.cells.2.2.1, h.cells.2.2.2, h⟩
theorem KS.next (h : wx.cell? ⟨g, 0, none⟩ = some (.slice A n c) ∧ wx.cell? ⟨g, 1, none⟩ = some (.int .i64 (D.room : Int)) ∧ wx.cell? ⟨g, 2, none⟩ = some (.int .i64 D.arm) ∧ wx.cell? ⟨g, 3, none⟩ = some (.bool D.dead) ∧ KS w0 g p bl ex A n c D wx) (hb : Below wx.heap.size wx w') : w'.cell? ⟨g, 0, none⟩ = some (.slice A n c) ∧ w'.cell? ⟨g, 1, none⟩ = some (.int .i64 (D.room : Int)) ∧ w'.cell? ⟨g, 2, none⟩ = some (.int .i64 D.arm) ∧ w'.cell? ⟨g, 3, none⟩ = some (.bool D.dead) ∧ KS w0 g p bl ex A n c D w' := KS.all (h.2.2.2.2.made hb)
theorem KS.nextd (h : wx.cell? ⟨g, 0, none⟩ = some (.slice A n c) ∧ wx.cell? ⟨g, 1, none⟩ = some (.int .i64 (D.room : Int)) ∧ wx.cell? ⟨g, 2, none⟩ = some (.int .i64 D.arm) ∧ wx.cell? ⟨g, 3, none⟩ = some (.bool D.dead) ∧ KS w0 g p bl ex A n c D wx) : wx.drew.cell? ⟨g, 0, none⟩ = some (.slice A n c) ∧ wx.drew.cell? ⟨g, 1, none⟩ = some (.int .i64 (D.room : Int)) ∧ wx.drew.cell? ⟨g, 2, none⟩ = some (.int .i64 D.arm) ∧ wx.drew.cell? ⟨g, 3, none⟩ = some (.bool D.dead) ∧ KS w0 g p bl ex A n c D wx.drew := KS.all (h.2.2.2.2.drew)
end
/-- Two lists of names and two of bytes that are alike, made by the call. -/
def L2 (wx : World) (base : Nat) (ns : List (List UInt8)) (s13 s14 : Value) : Prop :=
  ∃ L l lc M m mc, s13 = .slice L l lc ∧ s14 = .slice M m mc ∧ OwnV 9 wx base L l lc (ns.map encStr) ∧ OwnV 9 wx base M m mc (ns.map encStr)
def KB (w0 : World) (g p : Nat) (bl ex : List Nat) (A : Option Addr) (n c : Nat) (D : DS) (B : Option Addr) (bn : Nat) (X : Option Addr) (xn : Nat) (xs : List UInt8) (wx : World) : Prop :=
  KS w0 g p bl ex A n c D wx ∧ Rd wx B bn xs ∧ Rd wx X xn xs
section
variable {w0 wx w' : World} {g p n c bn xn : Nat} {bl ex : List Nat} {A B X : Option Addr} {D : DS} {xs : List UInt8}
theorem KB.made (h : KB w0 g p bl ex A n c D B bn X xn xs wx) (hb : Below wx.heap.size wx w') : KB w0 g p bl ex A n c D B bn X xn xs w' := ⟨h.1.made hb, h.2.1.below hb, h.2.2.below hb⟩
theorem KB.drew (h : KB w0 g p bl ex A n c D B bn X xn xs wx) : KB w0 g p bl ex A n c D B bn X xn xs wx.drew := h.made (Below.refl _ _).drew
end
/-- What stands while both are held against each other. -/
def KF (w0 : World) (g p : Nat) (bl ex : List Nat) (A : Option Addr) (n c : Nat) (D : DS) (B : Option Addr) (bn bc : Nat) (X : Option Addr) (xn : Nat) (xs : List UInt8) (ns : List (List UInt8)) (s13 s14 : Value) (wx : World) : Prop :=
  KS w0 g p bl ex A n c D wx ∧ Own 5 wx w0.heap.size B bn bc xs ∧ Rd wx X xn xs ∧ L2 wx w0.heap.size ns s13 s14
section
variable {w0 wx w' : World} {g p n c bn bc xn : Nat} {bl ex : List Nat} {A B X : Option Addr} {D : DS} {xs : List UInt8} {ns : List (List UInt8)} {s13 s14 : Value}
theorem L2.below (h : L2 wx w0.heap.size ns s13 s14) (hb : Below wx.heap.size wx w') : L2 w' w0.heap.size ns s13 s14 := by
  obtain ⟨L, l, lc, M, m, mc, h1, h2, h3, h4⟩ := h
  exact ⟨L, l, lc, M, m, mc, h1, h2, OwnV.below h3 hb, OwnV.below h4 hb⟩
theorem KF.made (h : KF w0 g p bl ex A n c D B bn bc X xn xs ns s13 s14 wx) (hb : Below wx.heap.size wx w') : KF w0 g p bl ex A n c D B bn bc X xn xs ns s13 s14 w' := ⟨h.1.made hb, h.2.1.below hb, h.2.2.1.below hb, h.2.2.2.below hb⟩
theorem KF.all (h : KF w0 g p bl ex A n c D B bn bc X xn xs ns s13 s14 wx) : wx.cell? ⟨g, 0, none⟩ = some (.slice A n c) ∧ wx.cell? ⟨g, 1, none⟩ = some (.int .i64 (D.room : Int)) ∧ wx.cell? ⟨g, 2, none⟩ = some (.int .i64 D.arm) ∧ wx.cell? ⟨g, 3, none⟩ = some (.bool D.dead) ∧ KF w0 g p bl ex A n c D B bn bc X xn xs ns s13 s14 wx := ⟨h.1.cells.1, h.1.cells.2.1, h.1.cells.2.2.1, h.1.cells.2.2.2, h⟩
theorem KF.next (h : wx.cell? ⟨g, 0, none⟩ = some (.slice A n c) ∧ wx.cell? ⟨g, 1, none⟩ = some (.int .i64 (D.room : Int)) ∧ wx.cell? ⟨g, 2, none⟩ = some (.int .i64 D.arm) ∧ wx.cell? ⟨g, 3, none⟩ = some (.bool D.dead) ∧ KF w0 g p bl ex A n c D B bn bc X xn xs ns s13 s14 wx) (hb : Below wx.heap.size wx w') : w'.cell? ⟨g, 0, none⟩ = some (.slice A n c) ∧ w'.cell? ⟨g, 1, none⟩ = some (.int .i64 (D.room : Int)) ∧ w'.cell? ⟨g, 2, none⟩ = some (.int .i64 D.arm) ∧ w'.cell? ⟨g, 3, none⟩ = some (.bool D.dead) ∧ KF w0 g p bl ex A n c D B bn bc X xn xs ns s13 s14 w' := KF.all (h.2.2.2.2.made hb)
end
theorem Equal_T (A B : Option Addr) (n m c d : Nat) (xs : List UInt8) (w : World) (hx : Rd w A n xs) (hy : Rd w B m xs) (hn : n ≤ 1099511627776) (hm : m ≤ 1099511627776) :
    Calls Try.prog 57 #[.slice A n c, .slice B m d] w (RetT w true) := by
  refine (Equal_is A B n m c d xs xs true (eqB_self xs) w hx hy (maxLen_ge hn) (maxLen_ge hm)).mono ?_
  rintro e w' ⟨rfl, q, rfl⟩
  exact ⟨rfl, below_drewN (Below.refl _ _) q⟩
/-- A row of texts is no row of bytes. -/
theorem ownS_kept {w w' : World} {base base' n c m d : Nat} {B L : Option Addr} {xs : List UInt8} {vs : List Value} (h : Own 5 w base B n c xs) (h2 : OwnV 9 w base' L m d vs) (hg : w.grownBy w' (blk B)) : OwnV 9 w' base' L m d vs := by
  refine OwnV.kept h2 hg (fun b hb he => ?_)
  rcases h.2 with ⟨h1, _⟩ | ⟨g, cap, cur, h1, _, h3, _⟩
  · injection h1 with h1
    rw [h1] at he
    cases he
  · injection h1 with h1
    rw [h1] at he
    injection he with he
    rcases h2.2 with ⟨k1, _⟩ | ⟨g', cap', cur', k1, _, k3, _⟩
    · injection k1 with k1
      rw [k1] at hb
      cases hb
    · injection k1 with k1
      rw [k1] at hb
      injection hb with hb
      simp only at he hb
      rw [he, ← hb, k3] at h3
      injection h3 with h3
      injection h3 with _ h3
      exact absurd h3 (by decide)
section
variable {w : World} {p n c : Nat} {bl ex : List Nat} {D : DS} {A : Option Addr} {room : Nat} {arm : Int}
set_option maxRecDepth 100000 in
set_option maxHeartbeats 8000000 in
theorem same_any (x pre : List UInt8) (h : DK w p bl D) (hr : RFs (GB (bl ++ ex)) w A n D.fs) (hz : SzD D) (hx : x.length ≤ 1099511627776) (hp : pre.length ≤ 1099511627776) :
    Calls Try.prog 21 #[.pointer (some ⟨p, 0, none⟩), .agg #[.slice A n c, .int .i64 (D.room : Int), .int .i64 D.arm, .bool D.dead], .string (tx x), .string (tx pre)] w (RetT w true) := by
  have HSZ := Lib.hid hz
  have HUP := Lib.hid h.up
  have hn : n ≤ 1099511627776 := by rw [← hr.len]; exact hz.2.1
  have hus := hz.1
  obtain ⟨ns, hns⟩ : ∃ ns, ns = listD D pre := ⟨_, rfl⟩
  have hnl : ns.length ≤ 1099511627776 := by
    rw [hns]
    unfold listD
    split
    · simp
    · exact Nat.le_trans (List.length_filter_le _ _) (by rw [List.length_map]; exact hz.2.1)
  obtain ⟨R, hR⟩ : ∃ R, R = readD D x := ⟨_, rfl⟩
  have hRl : R.1.length ≤ 1099511627776 := by
    rw [hR]
    unfold readD
    split
    · simp
    · split
      · simp
      · next g hg => exact Nat.le_trans (usedF_mem (getF_mem hg)) hz.1
  have HC1 : Hid (∀ W b, DK W p b D → Calls Try.prog 60 #[.pointer (some ⟨p, 0, none⟩), .string (tx x)] W (RetRd W R.1 R.2)) := Lib.hid (fun W b hk => by rw [hR]; exact read_DK x hk HSZ.out hx)
  have HC2 : Hid (∀ W G, RFs G W A n D.fs → Calls Try.prog 72 #[.agg #[.slice A n c, .int .i64 (D.room : Int), .int .i64 D.arm, .bool D.dead], .string (tx x)] W (RetRd W R.1 R.2)) := Lib.hid (fun W G hq => by rw [hR]; exact rread_any D.dead x D.fs hq HUP.out hn hus)
  have HC3 : Hid (∀ W b, DK W p b D → Calls Try.prog 73 #[.pointer (some ⟨p, 0, none⟩), .string (tx pre)] W (RetNm W ns)) := Lib.hid (fun W b hk => by rw [hns]; exact list_DK pre hk HSZ.out)
  have HC4 : Hid (∀ W G, RFs G W A n D.fs → Calls Try.prog 74 #[.agg #[.slice A n c, .int .i64 (D.room : Int), .int .i64 D.arm, .bool D.dead], .string (tx pre)] W (RetNm W ns)) := Lib.hid (fun W G hq => by rw [hns]; exact rlist_any D.dead pre D.fs hq hn hp HSZ.out.2.2)
  have HNS := Lib.hid hns
  have hbl := h.lt
  have HU : Hid (∀ W b, DK W p b D → Calls Try.prog 15 #[.pointer (some ⟨p, 0, none⟩)] W fun e' w' => e' = .returned (.int .i64 (usedF D.fs : Int)) ∧ W = w') := Lib.hid (fun W b hk => used_DK hk)
  have HD : Hid (∀ W b, DK W p b D → Calls Try.prog 76 #[.pointer (some ⟨p, 0, none⟩)] W fun e' w' => e' = .returned (.bool D.dead) ∧ W = w') := Lib.hid (fun W b hk => dead_DK hk)
  have HRU : Hid (∀ W G, RFs G W A n D.fs → Calls Try.prog 75 #[.agg #[.slice A n c, .int .i64 (D.room : Int), .int .i64 D.arm, .bool D.dead]] W fun e w' => e = .returned (.int .i64 (usedF D.fs : Int)) ∧ Below W.heap.size W w') := Lib.hid (fun W G hq => rused_any A n c D.room D.arm D.dead D.fs W hq hn hus)
  clear hns hR hz
  go_enter Try.func21, Try.ntmps21
  go_wp2_with fail
  obtain ⟨W, hW⟩ : ∃ W, W = w.alloc (.cells #[.slice A n c, .int .i64 (D.room : Int), .int .i64 D.arm, .bool D.dead] 36) := ⟨_, rfl⟩
  rw [← hW]
  have bW : Below w.heap.size w W := by rw [hW]; exact (Below.refl _ _).alloc (Nat.le_refl _) _
  have kW : KS w w.heap.size p bl ex A n c D W := ⟨h.below bW, hr.below bW, by rw [hW]; exact Bk.new _ _ _, bW⟩
  clear hW bW
  refine (HC1.out _ _ kW.1).mono ?_
  rintro e w1 ⟨B, bn, bc, rfl, oB, b1⟩
  have k1 := kW.made b1
  have K1 := Lib.hid k1
  have s1 := k1.2.2.2.size
  have oB2 := oB.mono kW.2.2.2.size
  have OB := Lib.hid oB2
  clear kW b1 oB
  obtain ⟨e0, e1, e2, e3⟩ := k1.cells
  go_wp2_with fail
  refine (HC2.out _ _ K1.out.2.1).mono ?_
  rintro e w2 ⟨X, xn, xc, rfl, oX, b2⟩
  have k2 : KS w w.heap.size p bl ex A n c D w2 := K1.out.made b2
  have K2 := Lib.hid k2
  have OB2 := Lib.hid (OB.out.below b2)
  have OX2 := Lib.hid (oX.mono s1)
  have hbn : bn = R.1.length := oB2.len.symm
  have hxn : xn = R.1.length := oX.len.symm
  subst hbn hxn
  clear b2 oX e0 e1 e2 e3 k1 oB2
  obtain ⟨e0, e1, e2, e3⟩ := k2.cells
  clear k2
  go_upto_region 3 with (fail)
  go_cut [13, 14] (fun s13 s14 wx => KB w w.heap.size p bl ex A n c D B R.1.length X R.1.length R.1 wx ∧ L2 wx w.heap.size ns s13 s14 ∧ Own 5 wx w.heap.size B R.1.length bc R.1)
  case first =>
    go_region_held3 (fun wx => wx.cell? ⟨w.heap.size, 0, none⟩ = some (.slice A n c) ∧ wx.cell? ⟨w.heap.size, 1, none⟩ = some (.int .i64 (D.room : Int)) ∧ wx.cell? ⟨w.heap.size, 2, none⟩ = some (.int .i64 D.arm) ∧ wx.cell? ⟨w.heap.size, 3, none⟩ = some (.bool D.dead) ∧ KS w w.heap.size p bl ex A n c D wx) (first | assumption | exact KS.all K2.out.drew) (first | (go_at_call 73; refine (HC3.out _ _ (by go_split_ands; exact (by assumption : KS _ _ _ _ _ _ _ _ _ _).1)).mono ?_; rintro e w8 ⟨L, l, lc, rfl, oL, bL⟩; have hS8 := KS.next (by assumption) bL) | (go_at_call 74; refine (HC4.out _ _ (by go_split_ands; exact (by assumption : KS _ _ _ _ _ _ _ _ _ _).2.1)).mono ?_; rintro e w9 ⟨M, m, mc, rfl, oM, bM⟩; have hS9 := KS.next (by assumption) bM))
    all_goals first
      | (have q8 := hS8.2.2.2.2
         have q9 := hS9.2.2.2.2
         have s2 := K2.out.2.2.2.size
         have HQ : Hid (KB w w.heap.size p bl ex A n c D B R.1.length X R.1.length R.1 w9 ∧ L2 w9 w.heap.size ns (.slice L l lc) (.slice M m mc) ∧ Own 5 w9 w.heap.size B R.1.length bc R.1) := Lib.hid ⟨⟨q9, (OB2.out.rd.below ((Below.refl _ _).drew.trans bL)).below bM, (OX2.out.rd.below ((Below.refl _ _).drew.trans bL)).below bM⟩, ⟨L, l, lc, M, m, mc, rfl, rfl, OwnV.below (OwnV.mono oL s2) bM, OwnV.mono oM q8.2.2.2.size⟩, (OB2.out.below ((Below.refl _ _).drew.trans bL)).below bM⟩
         clear hS8 hS9 oL oM bL bM q8 q9
         go_wp2_with fail
         go_meet
         exact HQ.out)
      | (have q8 := hS8.2.2.2.2
         have q9 := hS9.2.2.2.2
         have s2 := K2.out.2.2.2.size
         have HQ : Hid (KB w w.heap.size p bl ex A n c D B R.1.length X R.1.length R.1 w8 ∧ L2 w8 w.heap.size ns (.slice L l lc) (.slice M m mc) ∧ Own 5 w8 w.heap.size B R.1.length bc R.1) := Lib.hid ⟨⟨q8, (OB2.out.rd.below ((Below.refl _ _).drew.trans bM)).below bL, (OX2.out.rd.below ((Below.refl _ _).drew.trans bM)).below bL⟩, ⟨L, l, lc, M, m, mc, rfl, rfl, OwnV.mono oL q9.2.2.2.size, OwnV.below (OwnV.mono oM s2) bL⟩, (OB2.out.below ((Below.refl _ _).drew.trans bM)).below bL⟩
         clear hS8 hS9 oL oM bL bM q8 q9
         go_wp2_with fail
         go_meet
         exact HQ.out)
  case rest =>
    obtain ⟨hkb, ⟨L, l, lc, M, m, mc, rfl, rfl, oL, oM⟩, oBc⟩ := hcut
    have kf : KF w w.heap.size p bl ex A n c D B R.1.length bc X R.1.length R.1 ns (.slice L l lc) (.slice M m mc) wc := ⟨hkb.1, oBc, hkb.2.2, ⟨L, l, lc, M, m, mc, rfl, rfl, oL, oM⟩⟩
    have hl : l = ns.length := by have := oL.len; rw [List.length_map] at this; exact this.symm
    have hm : m = ns.length := by have := oM.len; rw [List.length_map] at this; exact this.symm
    subst hl hm
    have KFC := Lib.hid kf
    clear hkb oL oM oBc e0 e1 e2 e3 kf
    have HEQ : Hid (∀ W, KF w w.heap.size p bl ex A n c D B R.1.length bc X R.1.length R.1 ns (.slice L ns.length lc) (.slice M ns.length mc) W → Calls Try.prog 57 #[.slice B R.1.length bc, .slice X R.1.length xc] W (RetT W true)) := Lib.hid (fun W k => Equal_T B X _ _ bc xc R.1 W k.2.1.rd k.2.2.1 hRl hRl)
    have HU2 : Hid (∀ W, KF w w.heap.size p bl ex A n c D B R.1.length bc X R.1.length R.1 ns (.slice L ns.length lc) (.slice M ns.length mc) W → Calls Try.prog 15 #[.pointer (some ⟨p, 0, none⟩)] W fun e' w' => e' = .returned (.int .i64 (usedF D.fs : Int)) ∧ Below W.heap.size W w') := Lib.hid (fun W k => (HU.out W _ k.1.1).mono (by rintro e w' ⟨h1, rfl⟩; exact ⟨h1, Below.refl _ _⟩))
    have HD2 : Hid (∀ W, KF w w.heap.size p bl ex A n c D B R.1.length bc X R.1.length R.1 ns (.slice L ns.length lc) (.slice M ns.length mc) W → Calls Try.prog 76 #[.pointer (some ⟨p, 0, none⟩)] W fun e' w' => e' = .returned (.bool D.dead) ∧ Below W.heap.size W w') := Lib.hid (fun W k => (HD.out W _ k.1.1).mono (by rintro e w' ⟨h1, rfl⟩; exact ⟨h1, Below.refl _ _⟩))
    have HRU2 : Hid (∀ W, KF w w.heap.size p bl ex A n c D B R.1.length bc X R.1.length R.1 ns (.slice L ns.length lc) (.slice M ns.length mc) W → Calls Try.prog 75 #[.agg #[.slice A n c, .int .i64 (D.room : Int), .int .i64 D.arm, .bool D.dead]] W fun e w' => e = .returned (.int .i64 (usedF D.fs : Int)) ∧ Below W.heap.size W w') := Lib.hid (fun W k => HRU.out W _ k.1.2.1)
    clear HU HD HRU HC1 HC2 HC3 HC4
    go_upto_region 4 with (fail)
    go_cut [63] (fun s63 wx => s63 = .bool false ∧ KF w w.heap.size p bl ex A n c D B R.1.length bc X R.1.length R.1 ns (.slice L ns.length lc) (.slice M ns.length mc) wx)
    case first =>
      go_region_held3 (fun wx => wx.cell? ⟨w.heap.size, 0, none⟩ = some (.slice A n c) ∧ wx.cell? ⟨w.heap.size, 1, none⟩ = some (.int .i64 (D.room : Int)) ∧ wx.cell? ⟨w.heap.size, 2, none⟩ = some (.int .i64 D.arm) ∧ wx.cell? ⟨w.heap.size, 3, none⟩ = some (.bool D.dead) ∧ KF w w.heap.size p bl ex A n c D B R.1.length bc X R.1.length R.1 ns (.slice L ns.length lc) (.slice M ns.length mc) wx) (first | assumption | exact KF.all (KFC.out.made (Below.refl _ _).drew)) (first | (go_at_call 57; refine (HEQ.out _ (by go_split_ands; assumption)).mono ?_; rintro e w5 ⟨rfl, b5⟩; have hS5 := KF.next (by assumption) b5) | (go_at_call 15; refine (HU2.out _ (by go_split_ands; assumption)).mono ?_; rintro e w6 ⟨rfl, b6⟩; have hS6 := KF.next (by assumption) b6) | (go_at_call 75; refine (HRU2.out _ (by go_split_ands; assumption)).mono ?_; rintro e w7 ⟨rfl, b7⟩; have hS7 := KF.next (by assumption) b7) | (go_at_call 76; refine (HD2.out _ (by go_split_ands; assumption)).mono ?_; rintro e w8 ⟨rfl, b8⟩; have hS8 := KF.next (by assumption) b8))
      all_goals
        have HQ := Lib.hid hS8.2.2.2.2
        clear hS5 hS6 hS7 hS8 b5 b6 b7 b8
        go_wp2_with fail
        go_meet
        exact ⟨rfl, HQ.out⟩
    case rest =>
      obtain ⟨rfl, hkf⟩ := hcut
      obtain ⟨hks, hob, _, L', l', lc', M', m', mc', e1, e2, oL, oM⟩ := hkf
      injection e1 with e11 e12 e13
      injection e2 with e21 e22 e23
      subst e11 e12 e13 e21 e22 e23
      have OBC := Lib.hid hob
      have OL := Lib.hid oL
      have OM := Lib.hid oM
      have BC := Lib.hid hks.2.2.2
      clear hks hob oL oM HEQ HU2 HD2 HRU2 KFC
      go_wp2_with fail
      refine (Over_own B R.1.length bc w.heap.size R.1 _ OBC.out hRl).mono ?_
      rintro e w9 ⟨rfl, hg9⟩
      have OL9 := Lib.hid (ownS_kept OBC.out OL.out hg9)
      have OM9 := Lib.hid (ownS_kept OBC.out OM.out hg9)
      have B9 : Hid (Below w.heap.size w w9) := Lib.hid (BC.out.grown hg9 BC.out.size (fun k hk => (OBC.out.lt k hk).1))
      clear hg9 OL OM BC OBC
      go_wp2_with fail
      go_loopw [68] (fun s wr => ∃ k q : Nat, k ≤ ns.length ∧ s = .int .i64 (k : Int) ∧ wr = w9.drewN q) (fun s _ => ns.length - (intOf s).toNat)
      case atStart => exact ⟨0, 0, Nat.zero_le _, rfl, rfl⟩
      case round =>
        obtain ⟨k, q, hk, rfl, hX⟩ := hrel
        have HX := Lib.hid hX
        have rl : RdV wr L ns.length (ns.map encStr) := by rw [hX]; exact OL9.out.rd.drewN q
        have rm : RdV wr M ns.length (ns.map encStr) := by rw [hX]; exact OM9.out.rd.drewN q
        clear hX
        by_cases hlt : k < ns.length
        · obtain ⟨b1, o1, rfl, _⟩ := rl.pos (by omega)
          obtain ⟨b2, o2, rfl, _⟩ := rm.pos (by omega)
          obtain ⟨v1, hv1, hc1⟩ := rl.at_ k hlt
          obtain ⟨v2, hv2, hc2⟩ := rm.at_ k hlt
          rw [hv1] at hv2
          injection hv2 with hv2
          subst hv2
          rw [List.getElem?_map] at hv1
          obtain ⟨s, hs⟩ : ∃ s, ns[k]? = some s := ⟨_, List.getElem?_eq_getElem hlt⟩
          rw [hs] at hv1
          injection hv1 with hv1
          subst hv1
          have hst : encStr s = .string (tx s) := rfl
          rw [hst] at hc1 hc2
          have t1 : ((tx s).toList != (tx s).toList) = false := by simp
          clear hs hst rl rm
          go_wp2_with fail
          go_quiet (fail)
          go_wp2
          go_roundw
          case rel => exact ⟨k + 1, _, by omega, by go_num, by rw [HX.out]; exact World.drewN_drewN _ _ _⟩
          case measure => simp [intOf]; omega
        · go_wp2
          go_ret
          exact ⟨rfl, by rw [HX.out]; exact below_drewN B9.out q⟩
end
end Go.Proofs.Ytjpnfhfeabdhiaa
namespace Go.Proofs.Ytjpnfhfeabdhiaa
open Go Go.RowKit Go.Maps

/-- 'The slice of n acts at A reads as these, below that base.' -/
def RAs (w : World) (base : Nat) (A : Option Addr) (n : Nat) (al : List AC) : Prop :=
  al.length = n ∧ (0 < n → ∃ b off, A = some ⟨b, off, none⟩ ∧ b < base ∧ b < w.heap.size ∧ ∀ (k : Nat) (a : AC), al[k]? = some a → ∃ v0 v1 v2 v3 v4 v5, w.cell? ⟨b, off + k * 6, none⟩ = some v0 ∧ w.cell? ⟨b, off + k * 6 + 1, none⟩ = some v1 ∧ w.cell? ⟨b, off + k * 6 + 2, none⟩ = some v2 ∧
      w.cell? ⟨b, off + k * 6 + 3, none⟩ = some v3 ∧ w.cell? ⟨b, off + k * 6 + 4, none⟩ = some v4 ∧ w.cell? ⟨b, off + k * 6 + 5, none⟩ = some v5 ∧ AV w base a v0 v1 v2 v3 v4 v5)
section
variable {w w' : World} {base n : Nat} {A : Option Addr}
theorem RAs.below {al : List AC} (h : RAs w base A n al) (hb : Below base w w') : RAs w' base A n al := by
  refine ⟨h.1, fun hn => ?_⟩
  obtain ⟨b, off, e, h1, h2, h3⟩ := h.2 hn
  refine ⟨b, off, e, h1, Nat.lt_of_lt_of_le h2 hb.size, fun k a ha => ?_⟩
  obtain ⟨v0, v1, v2, v3, v4, v5, m0, m1, m2, m3, m4, m5, hav⟩ := h3 k a ha
  have c : ∀ (i : Nat) v, w.cell? ⟨b, i, none⟩ = some v → w'.cell? ⟨b, i, none⟩ = some v := fun i v hv => (hb.cell (p := ⟨b, i, none⟩) h1).trans hv
  exact ⟨v0, v1, v2, v3, v4, v5, c _ _ m0, c _ _ m1, c _ _ m2, c _ _ m3, c _ _ m4, c _ _ m5, hav.below hb⟩
theorem RAs.len {al : List AC} (h : RAs w base A n al) : al.length = n := h.1
theorem RAs.pos {al : List AC} (h : RAs w base A n al) (hn : 0 < n) : ∃ b off, A = some ⟨b, off, none⟩ ∧ b < w.heap.size := by
  obtain ⟨b, off, e, h1, h2, _⟩ := h.2 hn
  exact ⟨b, off, e, h2⟩
theorem RAs.at_ {b off : Nat} {al : List AC} (h : RAs w base (some ⟨b, off, none⟩) n al) (k : Nat) (hk : k < n) :
    ∃ a v0 v1 v2 v3 v4 v5, al[k]? = some a ∧ w.cell? ⟨b, off + k * 6, none⟩ = some v0 ∧ w.cell? ⟨b, off + k * 6 + 1, none⟩ = some v1 ∧ w.cell? ⟨b, off + k * 6 + 2, none⟩ = some v2 ∧ w.cell? ⟨b, off + k * 6 + 3, none⟩ = some v3 ∧
      w.cell? ⟨b, off + k * 6 + 4, none⟩ = some v4 ∧ w.cell? ⟨b, off + k * 6 + 5, none⟩ = some v5 ∧ AV w base a v0 v1 v2 v3 v4 v5 := by
  obtain ⟨b', off', e, _, _, h3⟩ := h.2 (by omega)
  injection e with e
  injection e with e1 e2
  subst e1 e2
  obtain ⟨x, hx⟩ : ∃ x, al[k]? = some x := ⟨_, List.getElem?_eq_getElem (by have := h.1; omega)⟩
  obtain ⟨v0, v1, v2, v3, v4, v5, m⟩ := h3 k x hx
  exact ⟨x, v0, v1, v2, v3, v4, v5, hx, m⟩
end
/-- The values that acts have in all. -/
def wA (a : AC) : Nat := a.name.length + a.dst.length + a.data.length + a.keeps.length
def totA : List AC → Nat
  | [] => 0
  | a :: t => wA a + 1 + totA t
theorem totA_mem : ∀ {al : List AC} {a : AC}, a ∈ al → wA a + 1 ≤ totA al
  | _ :: t, a, h => by
    rcases List.mem_cons.1 h with rfl | h
    · unfold totA; omega
    · have := totA_mem h; unfold totA; omega
theorem totA_len : ∀ al : List AC, al.length ≤ totA al
  | [] => Nat.le_refl _
  | a :: t => by have := totA_len t; rw [List.length_cons]; unfold totA; omega
theorem totA_app : ∀ a b : List AC, totA (a ++ b) = totA a + totA b
  | [], b => by simp [totA]
  | e :: t, b => by rw [List.cons_append, totA, totA, totA_app t b]; omega
theorem totA_take (al : List AC) (k : Nat) : totA (al.take k) ≤ totA al := by
  have := totA_app (al.take k) (al.drop k)
  rw [List.take_append_drop] at this
  omega
theorem totA_snoc {al : List AC} {k : Nat} {a : AC} (h : al[k]? = some a) : totA (al.take (k + 1)) = totA (al.take k) + (wA a + 1) := by
  rw [List.take_add_one, h, totA_app]
  rfl
theorem szA_of {al : List AC} {k : Nat} {a : AC} (h : al[k]? = some a) (ht : totA al ≤ 1048576) : SzA a := by
  have := totA_mem (List.mem_of_getElem? h)
  unfold wA at this
  unfold SzA
  omega
/-- 'A disk that acts of so many values have made.' -/
def Grw (D : DS) (t : Nat) : Prop := usedF D.fs ≤ t ∧ D.fs.length ≤ t ∧ ∀ f ∈ D.fs, f.1.length ≤ t
theorem Grw.sz {D : DS} {t : Nat} (h : Grw D t) (ht : t ≤ 1099511627776) : SzD D := ⟨Nat.le_trans h.1 ht, Nat.le_trans h.2.1 ht, fun f hf => Nat.le_trans (h.2.2 f hf) ht⟩
theorem Grw.mono {D : DS} {t u : Nat} (h : Grw D t) (ht : t ≤ u) : Grw D u := ⟨Nat.le_trans h.1 ht, Nat.le_trans h.2.1 ht, fun f hf => Nat.le_trans (h.2.2 f hf) ht⟩
theorem putF_length (f : FE) : ∀ fs : List FE, (putF f fs).length ≤ fs.length + 1
  | [] => Nat.le_refl _
  | q :: t => by
    have := putF_length f t
    rw [putF]
    split
    · simp
    · split
      · simp
      · simp only [List.length_cons]; omega
theorem mem_putF {f q : FE} : ∀ {fs : List FE}, q ∈ putF f fs → q = f ∨ q ∈ fs
  | [], h => by rw [putF] at h; exact .inl (List.mem_singleton.1 h)
  | p :: t, h => by
    rw [putF] at h
    split at h
    · rcases List.mem_cons.1 h with h | h
      · exact .inl h
      · exact .inr (List.mem_cons_of_mem _ h)
    · split at h
      · rcases List.mem_cons.1 h with h | h
        · exact .inl h
        · exact .inr h
      · rcases List.mem_cons.1 h with h | h
        · exact .inr (by rw [h]; exact List.mem_cons_self ..)
        · rcases mem_putF h with h | h
          · exact .inl h
          · exact .inr (List.mem_cons_of_mem _ h)
theorem grw_put {fs : List FE} {f : FE} {t u : Nat} (hl : fs.length ≤ t) (hn : ∀ q ∈ fs, q.1.length ≤ t) (hf : f.1.length ≤ u) (hu : t + 1 ≤ u) : (putF f fs).length ≤ u ∧ ∀ q ∈ putF f fs, q.1.length ≤ u := by
  have := putF_length f fs
  refine ⟨by omega, fun q hq => ?_⟩
  rcases mem_putF hq with rfl | h
  · exact hf
  · have := hn q h; omega
theorem doneD_fs (D : DS) (e : Int) (fs' : List FE) : (doneD D e fs').1.fs = D.fs ∨ (doneD D e fs').1.fs = fs' := by
  unfold doneD
  split
  · exact .inl rfl
  · split
    · exact .inl rfl
    · split
      · exact .inl rfl
      · exact .inr rfl
theorem del_grw {x : List UInt8} {fs : List FE} {t : Nat} (hl : fs.length ≤ t) (hn : ∀ q ∈ fs, q.1.length ≤ t) : (delF x fs).length ≤ t ∧ ∀ q ∈ delF x fs, q.1.length ≤ t :=
  ⟨Nat.le_trans (List.length_filter_le _ _) hl, fun q hq => hn q (mem_delF.1 hq).1⟩
theorem grw_do {D : DS} {a : AC} {t : Nat} (h : Grw D t) (hu : risingF D.fs) : Grw (doD D a) (t + (wA a + 1)) := by
  obtain ⟨h1, h2, h3⟩ := h
  have base : ∀ fs : List FE, (usedF fs ≤ usedF D.fs + a.data.length ∧ fs.length ≤ t + (wA a + 1) ∧ ∀ q ∈ fs, q.1.length ≤ t + (wA a + 1)) → ∀ r ar de, Grw ⟨fs, r, ar, de⟩ (t + (wA a + 1)) := fun fs h r ar de =>
    ⟨by have := h.1; unfold wA; show usedF fs ≤ _; omega, h.2⟩
  have same : usedF D.fs ≤ usedF D.fs + a.data.length ∧ D.fs.length ≤ t + (wA a + 1) ∧ ∀ q ∈ D.fs, q.1.length ≤ t + (wA a + 1) := ⟨by omega, by omega, fun q hq => by have := h3 q hq; omega⟩
  have gn : ∀ {x : List UInt8} {g : List UInt8 × Nat}, getF x D.fs = some g → x.length ≤ t := fun hg => h3 _ (getF_mem hg)
  have done : ∀ e fs', (usedF fs' ≤ usedF D.fs + a.data.length ∧ fs'.length ≤ t + (wA a + 1) ∧ ∀ q ∈ fs', q.1.length ≤ t + (wA a + 1)) → Grw (doneD D e fs').1 (t + (wA a + 1)) := fun e fs' h => by
    rcases doneD_fs D e fs' with h5 | h5
    · have := base _ same (doneD D e fs').1.room (doneD D e fs').1.arm (doneD D e fs').1.dead
      rw [← h5] at this
      exact this
    · have := base _ h (doneD D e fs').1.room (doneD D e fs').1.arm (doneD D e fs').1.dead
      rw [← h5] at this
      exact this
  unfold doD
  split
  · have ha : usedF (appF a.name a.data D.fs) ≤ usedF D.fs + a.data.length ∧ (appF a.name a.data D.fs).length ≤ t + (wA a + 1) ∧ ∀ q ∈ appF a.name a.data D.fs, q.1.length ≤ t + (wA a + 1) := by
      refine ⟨by rw [appF_used hu]; omega, ?_⟩
      rw [putF_app]
      exact grw_put h2 h3 (by unfold wA; show a.name.length ≤ _; omega) (by omega)
    unfold appendD
    split
    · exact base _ same _ _ _
    · split
      · exact base _ same _ _ _
      · split
        · exact base _ ha _ _ _
        · exact base _ ha _ _ _
  split
  · refine done _ _ ?_
    refine ⟨by rw [syncF_used hu]; omega, ?_⟩
    unfold syncF
    split
    · exact same.2
    · next g hg => exact grw_put h2 h3 (by have := gn hg; show a.name.length ≤ _; omega) (by omega)
  split
  · refine done _ _ ?_
    refine ⟨by have := renF_used_le (x := a.name) (y := a.dst) hu; omega, ?_⟩
    unfold renF
    split
    · exact same.2
    · split
      · exact same.2
      · have d1 := del_grw (x := a.dst) h2 h3
        have d2 := del_grw (x := a.name) d1.1 d1.2
        exact grw_put d2.1 d2.2 (by unfold wA; show a.dst.length ≤ _; omega) (by omega)
  split
  · refine done _ _ ?_
    have d1 := del_grw (x := a.name) h2 h3
    have hd := usedF_delx a.name hu
    exact ⟨by omega, by have := d1.1; omega, fun q hq => by have := d1.2 q hq; omega⟩
  split
  · refine done _ _ ?_
    cases hg : getF a.name D.fs with
    | none =>
      have e : cutF a.name a.num.toNat D.fs = D.fs := by rw [cutF, hg]
      rw [e]
      exact same
    | some g =>
      have e : cutF a.name a.num.toNat D.fs = putF (a.name, g.1.take a.num.toNat, a.num.toNat) D.fs := by rw [cutF, hg]
      rw [e]
      refine ⟨?_, grw_put h2 h3 (by have := gn hg; show a.name.length ≤ _; omega) (by omega)⟩
      have := usedF_put_old (f := (a.name, g)) (g := (a.name, g.1.take a.num.toNat, a.num.toNat)) rfl hu (getF_mem hg)
      simp only [List.length_take] at this
      omega
  split
  · unfold armD
    split
    · exact base _ same _ _ _
    · exact base _ same _ _ _
  split
  · unfold crashD
    have hn := crP_names a.keeps D.fs
    refine base _ ⟨?_, ?_, ?_⟩ _ _ _
    · have := crP_used a.keeps D.fs; omega
    · have := congrArg List.length hn
      rw [List.length_map, List.length_map] at this
      omega
    · intro q hq
      have : q.1 ∈ (crP a.keeps D.fs).1.map (·.1) := List.mem_map.2 ⟨q, hq, rfl⟩
      rw [hn] at this
      obtain ⟨q', hq', e⟩ := List.mem_map.1 this
      have h5 := h3 q' hq'
      rw [← e]
      omega
  · exact base _ same _ _ _
end Go.Proofs.Ytjpnfhfeabdhiaa
namespace Go.Proofs.Ytjpnfhfeabdhiaa
open Go Go.RowKit Go.Maps

/-- The zero disk. -/
theorem zero_DK (w : World) (g : Nat) (hg : g = w.heap.size) : DK (w.alloc (.cells #[.map none, .int .i64 0, .int .i64 0, .bool false, .bool false, .int .i64 0] 26)) g [g] ⟨[], 0, -1, false⟩ := by
  subst hg
  refine ⟨none, [], 0, false, ?_, rfl, rfl, ⟨fun _ => ⟨rfl, fun h => absurd h (show ¬ (0 : Int) ≤ -1 by decide)⟩, by omega, by simp only; omega⟩, List.Pairwise.nil, Nat.zero_le _, by simp only; omega⟩
  exact DskR.init w 0
/-- What stands between the acts. -/
def LpD (w0 : World) (g p : Nat) (al : List AC) (k : Nat) (wr : World) : Prop :=
  ∃ (A : Option Addr) (n c : Nat) (bl : List Nat) (D : DS), DK wr p bl D ∧ RFs (GB (bl ++ [])) wr A n D.fs ∧ Bk wr g #[.slice A n c, .int .i64 (D.room : Int), .int .i64 D.arm, .bool D.dead] 36 ∧ n ≤ c ∧
    (∀ b ∈ bl, w0.heap.size ≤ b) ∧ g ∉ bl ∧ Below w0.heap.size w0 wr ∧ Grw D (totA (al.take k)) ∧ w0.heap.size ≤ g
/-- An act's six cells. -/
theorem AV.vals {w : World} {base : Nat} {a : AC} {v0 v1 v2 v3 v4 v5 : Value} (h : AV w base a v0 v1 v2 v3 v4 v5) : ∃ S sn sc K kn kc, v0 = .int .i64 a.kind ∧ v1 = .string (tx a.name) ∧ v2 = .string (tx a.dst) ∧ v3 = .slice S sn sc ∧ v4 = .int .i64 a.num ∧ v5 = .slice K kn kc := by
  obtain ⟨h0, h1, h2, h4, _, _, S, sn, sc, K, kn, kc, h7, h8, _⟩ := h
  exact ⟨S, sn, sc, K, kn, kc, h0, h1, h2, h7, h4, h8⟩

set_option maxRecDepth 100000 in
set_option maxHeartbeats 16000000 in
theorem diskCalls_row (room : Int) (A : Option Addr) (la ca : Nat) (al : List AC) (w : World) (hroom : (Lit.int .i64 room).wf = true) (hx : RAs w w.heap.size A la al) (ht : totA al ≤ 1048576) :
    Calls Try.prog 3 #[.int .i64 room, .slice A la ca] w (RetT w true) := by
  have hr2 : I64 room := by
    have : -9223372036854775808 ≤ room ∧ room ≤ 9223372036854775807 := by simpa [Lit.wf, IntKind.min, IntKind.max, IntKind.signed, IntKind.bits] using hroom
    exact this
  clear hroom
  have HX := Lib.hid hx
  have HLX := Lib.hid hx.len
  have HT := Lib.hid ht
  have hla : la ≤ 1048576 := by rw [← hx.len]; exact Nat.le_trans (totA_len al) ht
  have hR2 := Lib.hid hr2
  clear hx hr2 ht
  go_enter Try.func3, Try.ntmps3
  go_wp2_with fail
  refine (awake4_any _).mono ?_
  rintro e w1 ⟨rfl, k1⟩
  have s1 := k1.size
  have hZ := zero_DK w1 w1.heap.size rfl
  have sz0 : SzD ⟨[], 0, -1, false⟩ := ⟨by simp [usedF], by simp, fun f h => by cases h⟩
  have HU0 : Hid (∀ W b, DK W w1.heap.size b ⟨[], 0, -1, false⟩ → Calls Try.prog 15 #[.pointer (some ⟨w1.heap.size, 0, none⟩)] W fun e' w' => e' = .returned (.int .i64 0) ∧ W = w') := Lib.hid (fun W b hk => used_DK hk)
  have HA0 : Hid (∀ W b B, DK W w1.heap.size b ⟨[], 0, -1, false⟩ → Rd W B 1 [1] → (∀ x, blk B = some x → x ∉ b) → Calls Try.prog 16 #[.pointer (some ⟨w1.heap.size, 0, none⟩), .string (tx [97]), .slice B 1 1] W (RetDK W w1.heap.size b ⟨[], 0, -1, false⟩ (.int .i64 8))) := Lib.hid (fun W b B hk h1 h2 => append_DK [97] B 1 1 [1] hk sz0 h1 h2 (by omega) (by simp))
  have HS0 : Hid (∀ W b, DK W w1.heap.size b ⟨[], 0, -1, false⟩ → Calls Try.prog 17 #[.pointer (some ⟨w1.heap.size, 0, none⟩), .string (tx [97])] W (RetDK W w1.heap.size b ⟨[], 0, -1, false⟩ (.int .i64 6))) := Lib.hid (fun W b hk => sync_DK [97] hk (by simp))
  have HZ := Lib.hid hZ
  clear hZ sz0
  go_wp2_with fail
  refine (HU0.out _ _ HZ.out).mono ?_
  rintro e w2 ⟨rfl, hw2⟩
  have k2 : DK w2 w1.heap.size [w1.heap.size] ⟨[], 0, -1, false⟩ := by rw [← hw2]; exact HZ.out
  have b2 : Below w.heap.size w w2 := by rw [← hw2]; exact k1.alloc s1 _
  have s2 : w1.heap.size < w2.heap.size := by rw [← hw2]; simp
  have K2 := Lib.hid k2
  have B2 := Lib.hid b2
  clear hw2 HZ HU0 k2 b2
  go_wp2_with fail
  refine (HA0.out _ _ _ (K2.out.below ((Below.refl _ _).alloc (Nat.le_refl _) _)) (Rd.one w2 5 1 1 rfl) (fun x hx hm => by injection hx with hx; rw [List.mem_singleton] at hm; simp only at hx; omega)).mono ?_
  rintro e w3 ⟨rfl, bl3, h3, f3, q3⟩
  have hb3 : ∀ b ∈ bl3, w.heap.size ≤ b := fun b hb => by
    rcases q3 b hb with h | h
    · rw [List.mem_singleton] at h; omega
    · simp at h; have := B2.out.size; omega
  have b3 : Below w.heap.size w w3 := (B2.out.alloc B2.out.size _).trans (f3.below (fun b hb => by rw [List.mem_singleton] at hb; omega) (by simp; have := B2.out.size; omega))
  have l3 := h3.lt
  have K3 := Lib.hid h3
  have B3 := Lib.hid b3
  clear HA0 h3 f3 b3 l3 K2 B2
  go_wp2_with fail
  refine (HS0.out _ _ K3.out).mono ?_
  rintro e w4 ⟨rfl, bl4, h4, f4, _⟩
  have b4 : Below w.heap.size w w4 := B3.out.trans (f4.below hb3 B3.out.size)
  have B4 := Lib.hid b4
  have s4 := b4.size
  clear HS0 h4 f4 K3 B3 b4 hb3 q3
  go_wp2_with fail
  refine (new_DK room w4 hR2.out).mono ?_
  rintro e w5 ⟨p, bl5, rfl, h5, q5, b5⟩
  have K5 := Lib.hid h5
  have Q5 := Lib.hid q5
  have B5 := Lib.hid b5
  clear h5 q5 b5
  go_wp2_with fail
  refine (refNew_any room w5 hR2.out).mono ?_
  rintro e w6 ⟨rfl, b6⟩
  have K6 := Lib.hid (K5.out.below b6)
  have s5 := B5.out.size
  have s6 := b6.size
  have B6 := Lib.hid (B4.out.trans ((B5.out.trans (b6.mono s5)).mono s4))
  clear b6 K5 B5 B4
  go_wp2_with fail
  obtain ⟨X, hX⟩ : ∃ X, X = w6.alloc (.cells #[.slice none 0 0, .int .i64 (max room 0), .int .i64 (-1), .bool false] 36) := ⟨_, rfl⟩
  rw [← hX]
  have HL0 : Hid (LpD w w6.heap.size p al 0 X) := Lib.hid (by
    have hmx : max room 0 = (room.toNat : Int) := by omega
    rw [hmx] at hX
    have z : Bk X w6.heap.size #[.slice none 0 0, .int .i64 (room.toNat : Int), .int .i64 (-1), .bool false] 36 := by rw [hX]; exact Bk.new _ _ _
    have hlt := K6.out.lt
    have bX : Below w6.heap.size w6 X := by rw [hX]; exact (Below.refl _ _).alloc (Nat.le_refl _) _
    exact ⟨none, 0, 0, bl5, _, K6.out.below bX, RFs.nil _ _, z, Nat.le_refl _, fun b hb => by have := Q5.out b hb; omega, fun hm => by have := hlt _ hm; omega, B6.out.trans (bX.mono B6.out.size), ⟨by simp [usedF], by simp, fun f hf => by cases hf⟩, B6.out.size⟩)
  have sg := B6.out.size
  clear hX K6 Q5 B6
  go_loopw [30] (fun s wr => ∃ k : Nat, k ≤ la ∧ s = .int .i64 (k : Int) ∧ LpD w w6.heap.size p al k wr) (fun s _ => la - (intOf s).toNat)
  case atStart => exact ⟨0, Nat.zero_le _, rfl, HL0.out⟩
  case round =>
    obtain ⟨k, hk, rfl, An, n, c, bl, D, hK, hR, hD, hc, hbl, hg, hB, hG, hgw⟩ := hrel
    have swr := hB.size
    have gwr := hD.lt
    have HBW := Lib.hid hB
    by_cases hlt : k < la
    · have hXr := HX.out.below hB
      obtain ⟨b, off, rfl, hbw⟩ := hXr.pos (by omega)
      obtain ⟨a, v0, v1, v2, v3, v4, v5, ha, m0, m1, m2, m3, m4, m5, hav⟩ := hXr.at_ k hlt
      have hsa := szA_of ha HT.out
      have hts := totA_take al (k + 1)
      have htn := totA_snoc ha
      have hgr := grw_do hG hK.up (a := a)
      rw [← htn] at hgr
      have htk := totA_take al k
      have ht2 := HT.out
      have HSZ := Lib.hid (hG.sz (by omega))
      obtain ⟨D', hD'⟩ : ∃ D', D' = doD D a := ⟨_, rfl⟩
      rw [← hD'] at hgr
      have HSZ' := Lib.hid (hgr.sz (by omega))
      have HGR := Lib.hid hgr
      have HDD := Lib.hid hD'
      have HAV := Lib.hid hav
      obtain ⟨S, sn, sc, K, kn, kc, rfl, rfl, rfl, rfl, rfl, rfl⟩ := hav.vals
      obtain ⟨W, hW⟩ : ∃ W, W = wr.alloc (.cells #[.int .i64 a.kind, .string (tx a.name), .string (tx a.dst), .slice S sn sc, .int .i64 a.num, .slice K kn kc] 40) := ⟨_, rfl⟩
      have bW : Below wr.heap.size wr W := by rw [hW]; exact (Below.refl _ _).alloc (Nat.le_refl _) _
      have aW : Bk W wr.heap.size #[.int .i64 a.kind, .string (tx a.name), .string (tx a.dst), .slice S sn sc, .int .i64 a.num, .slice K kn kc] 40 := by rw [hW]; exact Bk.new _ _ _
      have HDO : Hid (Calls Try.prog 20 #[.pointer (some ⟨p, 0, none⟩), .agg #[.slice An n c, .int .i64 (D.room : Int), .int .i64 D.arm, .bool D.dead], .agg #[.int .i64 a.kind, .string (tx a.name), .string (tx a.dst), .slice S sn sc, .int .i64 a.num, .slice K kn kc]] W (RetDo W p bl [] D')) := Lib.hid (by
        rw [HDD.out]
        exact do_any (hK.below bW) (hR.below bW) hc HSZ.out (HAV.out.below (bW.mono swr)) hbl (fun b hb => by cases hb) hsa)
      have D1 := hD.below bW
      have A1 := Lib.hid aW
      have DW := Lib.hid D1
      have BW := Lib.hid (hB.trans (bW.mono swr))
      have hblt := (hK.below bW).lt
      have HBL := Lib.hid hblt
      have HGN := Lib.hid hg
      have HBB := Lib.hid hbl
      have sW := bW.size
      have sW2 : wr.heap.size < W.heap.size := aW.lt
      have hanb : Hid (wr.heap.size ∉ bl) := Lib.hid (fun hm => by have := hK.lt _ hm; omega)
      obtain ⟨e0, e1, e2, e3, _⟩ := D1.four
      obtain ⟨a0, a1, a2, a3, a4, a5⟩ := aW.six
      rw [hW] at e0 e1 e2 e3 a0 a1 a2 a3 a4 a5
      clear hK hR hD D1 aW hblt hg hbl hB hG hgr hD' hav hXr ha hts htn htk
      go_wp2_with fail
      rw [← hW]
      refine HDO.out.mono ?_
      rintro e w7 ⟨A7, n7, c7, bl7, rfl, h7, r7, hc7, f7, q7⟩
      clear e0 e1 e2 e3 a0 a1 a2 a3 a4 a5
      have D7 := Lib.hid (DW.out.fr f7 HGN.out)
      have A7' := Lib.hid (A1.out.fr f7 hanb.out)
      have s7 := f7.size
      have B7 := Lib.hid (BW.out.trans (f7.below HBB.out (by omega)))
      have H7 := Lib.hid h7
      have R7 := Lib.hid r7
      have Q7 : Hid (∀ b ∈ bl7, w.heap.size ≤ b ∧ b ≠ w6.heap.size ∧ b ≠ wr.heap.size) := Lib.hid (fun b hb => by
        rcases q7 b hb with h | h
        · exact ⟨HBB.out b h, fun e => HGN.out (by rw [← e]; exact h), fun e => hanb.out (by rw [← e]; exact h)⟩
        · exact ⟨by omega, by omega, by omega⟩)
      clear h7 r7 f7 q7
      obtain ⟨e0, e1, e2, e3, y0, y1, y2, y3⟩ := D7.out.four
      obtain ⟨a0, a1, a2, a3, a4, a5⟩ := A7'.out.six
      go_wp2_with fail
      obtain ⟨Y, hY⟩ : ∃ Y, Y = (((w7.setCell ⟨w6.heap.size, 0, none⟩ (.slice A7 n7 c7)).setCell ⟨w6.heap.size, 1, none⟩ (.int .i64 (D'.room : Int))).setCell ⟨w6.heap.size, 2, none⟩ (.int .i64 D'.arm)).setCell ⟨w6.heap.size, 3, none⟩ (.bool D'.dead) := ⟨_, rfl⟩
      rw [← hY]
      have fY : Fr w7 Y [w6.heap.size] := by rw [hY]; exact fr_set4 _ _ _ _ _ _
      have dY : Bk Y w6.heap.size #[.slice A7 n7 c7, .int .i64 (D'.room : Int), .int .i64 D'.arm, .bool D'.dead] 36 := by rw [hY]; exact D7.out.put4 rfl _ _ _ _
      have aY := A7'.out.fr fY (by rw [List.mem_singleton]; omega)
      have KY := Lib.hid (H7.out.fr fY (fun b hb hm => by rw [List.mem_singleton] at hm; exact (Q7.out b hb).2.1 hm))
      have RY := Lib.hid (RFs.store D7.out fY R7.out)
      have BY := Lib.hid (B7.out.trans (fY.below (fun b hb => by rw [List.mem_singleton] at hb; omega) (by omega)))
      have DY := Lib.hid dY
      have AY := Lib.hid aY
      have HUQ : Hid (∀ W x pre, DK W p bl7 D' → RFs (GB (bl7 ++ [])) W A7 n7 D'.fs → x.length ≤ 1099511627776 → pre.length ≤ 1099511627776 → Calls Try.prog 21 #[.pointer (some ⟨p, 0, none⟩), .agg #[.slice A7 n7 c7, .int .i64 (D'.room : Int), .int .i64 D'.arm, .bool D'.dead], .string (tx x), .string (tx pre)] W (RetT W true)) := Lib.hid (fun W x pre h1 h2 h3 h4 => same_any x pre h1 h2 HSZ'.out h3 h4)
      clear hY fY e0 e1 e2 e3 y0 y1 y2 y3 a0 a1 a2 a3 a4 a5
      obtain ⟨e0, e1, e2, e3, _⟩ := dY.four
      obtain ⟨a0, a1, a2, a3, a4, a5⟩ := aY.six
      clear dY aY
      refine (HUQ.out _ _ _ KY.out RY.out hsa.1 hsa.2.1).mono ?_
      rintro e w8 ⟨rfl, b8⟩
      have s8 := b8.size
      have B8 := Lib.hid b8
      obtain ⟨e0', e1', e2', e3', _⟩ := (DY.out.below b8).four
      obtain ⟨a0', a1', a2', a3', a4', a5'⟩ := (AY.out.below b8).six
      clear e0 e1 e2 e3 a0 a1 a2 a3 a4 a5 b8
      have HQ2 : Hid (Calls Try.prog 21 #[.pointer (some ⟨p, 0, none⟩), .agg #[.slice A7 n7 c7, .int .i64 (D'.room : Int), .int .i64 D'.arm, .bool D'.dead], .string (tx a.dst), .string ⟨#[]⟩] w8 (RetT w8 true)) := Lib.hid (HUQ.out w8 a.dst [] (KY.out.below B8.out) (RY.out.below B8.out) hsa.2.1 (by simp))
      go_wp2_with fail
      refine HQ2.out.mono ?_
      rintro e w9 ⟨rfl, b9⟩
      have s9 := b9.size
      have HEND : Hid (LpD w w6.heap.size p al (k + 1) w9) := Lib.hid ⟨A7, n7, c7, bl7, D', (KY.out.below B8.out).below b9, (RY.out.below B8.out).below b9, (DY.out.below B8.out).below b9, hc7, fun b hb => (Q7.out b hb).1, fun hm => (Q7.out _ hm).2.1 rfl, (BY.out.trans (B8.out.mono (by have := BY.out.size; omega))).trans (b9.mono (by have := BY.out.size; omega)), HGR.out, sg⟩
      clear b9
      go_wp2_with fail
      go_roundw
      case rel => exact ⟨k + 1, by omega, by go_num, HEND.out⟩
      case measure => simp [intOf]; omega
    · go_wp2
      go_ret
      exact ⟨rfl, HBW.out⟩
end Go.Proofs.Ytjpnfhfeabdhiaa
namespace Go.Proofs.Ytjpnfhfeabdhiaa
open Go Go.RowKit Go.Deep Go.ChangeShapes Go.WideShapes Go.ChangeAt

theorem ints_field {H : Type} {enc : TypeId × Value → H} {w : World} {base m : Nat} {held : Bool} {v : Value} {y : DataW H × List MemPlace} (h : DataW.trod enc Try.prog w base (fun _ => true) held m 38 [v] = some y) :
    ∃ A n c zs, v = .slice A n c ∧ RdV w A n (ivs zs) ∧ n ≤ c ∧ zs.length + 1 ≤ Rows.uptoBulk y.1 ∧ (∀ z ∈ zs, I64 z) ∧ (0 < n → ∀ b, A.map (·.block) = some b → b < w.heap.size) := by
  rcases open_ints Try.underlying38 Try.underlying3 (by kernel_rfl) h with ⟨hcs, hy⟩ | ⟨x, l, c, zs, hcs, _, hl, hm, hz, hy, hcell, hwz⟩
  · simp at hcs
    subst hcs
    exact ⟨none, 0, 0, [], rfl, RdV.nil _ _, Nat.le_refl _, by rw [hy]; exact bulk_pos _, (fun z hz => by cases hz), fun h => absurd h (by omega)⟩
  · simp at hcs
    subst hcs
    have hz' : zs.length = c := by simpa using hz
    have hrd := RdV.of_ints hl hz' hcell
    refine ⟨some x, l, c, zs.take l, rfl, hrd, hl, ?_, bd_take hwz, fun hn b hb => ?_⟩
    · have h3 := length_le (lits (H := H) .i64 (zs.take l))
      simp only [lits, List.length_map, List.length_take] at h3
      rw [hy]
      simp only [Rows.uptoBulk, List.length_take]
      simp only [lits]
      omega
    · obtain ⟨b', off, e, hb', _⟩ := hrd.2 hn
      rw [e] at hb
      injection hb with hb
      rw [← hb]
      exact hb'
theorem totA_bulk {H : Type} : ∀ (al : List AC) (D : Nat → DataW H), (∀ i a, al[i]? = some a → wA a + 1 ≤ Rows.uptoBulk (D i)) → totA al ≤ Rows.uptoBulkAll ((List.range al.length).map D)
  | [], D, _ => by simp [totA]
  | a :: t, D, h => by
    have h1 := h 0 a rfl
    have h2 := totA_bulk t (fun i => D (i + 1)) (fun i b hb => h (i + 1) b (by simpa using hb))
    rw [List.length_cons, List.range_succ_eq_map, List.map_cons, List.map_map, totA, Rows.uptoBulkAll]
    have e : (List.range t.length).map (D ∘ Nat.succ) = (List.range t.length).map (fun i => D (i + 1)) := rfl
    rw [e]
    omega
set_option maxRecDepth 100000 in
theorem acts_of {H : Type} {enc : TypeId × Value → H} {w : World} {base fuel : Nat} {held : Bool} {A : Option Addr} {len cap : Nat} {x : DataW H × List MemPlace} (h : DataW.trod enc Try.prog w base (fun _ => true) held fuel 22 [.slice A len cap] = some x) :
    ∃ al : List AC, RAs w w.heap.size A len al ∧ len ≤ cap ∧ totA al ≤ Rows.uptoBulk x.1 := by
  have hone : oneCellFields Try.prog (match Try.prog.underlying 40 with | some (.struct fs) => fs | _ => #[]) = true := by kernel_rfl
  rcases open_slice Try.underlying22 h with ⟨hcs, hx⟩ | ⟨a, l, c, m, n, D, Pl, hcs, _, hl, hm, hmm, hx, hi⟩
  · simp at hcs
    obtain ⟨rfl, rfl, rfl⟩ := hcs
    exact ⟨[], ⟨rfl, fun h => absurd h (by omega)⟩, Nat.le_refl _, by simp [totA]⟩
  · simp at hcs
    obtain ⟨rfl, rfl, rfl⟩ := hcs
    simp at hmm
    subst hmm
    rw [Try.underlying40] at hone
    have key : ∀ i, i < len → ∃ ac : AC, (∃ v0 v1 v2 v3 v4 v5, w.cell? ((a.add (i * Try.prog.cellsOf 40)).add 0) = some v0 ∧ w.cell? ((a.add (i * Try.prog.cellsOf 40)).add 1) = some v1 ∧ w.cell? ((a.add (i * Try.prog.cellsOf 40)).add 2) = some v2 ∧
        w.cell? ((a.add (i * Try.prog.cellsOf 40)).add 3) = some v3 ∧ w.cell? ((a.add (i * Try.prog.cellsOf 40)).add 4) = some v4 ∧ w.cell? ((a.add (i * Try.prog.cellsOf 40)).add 5) = some v5 ∧ AV w w.heap.size ac v0 v1 v2 v3 v4 v5) ∧ wA ac + 1 ≤ Rows.uptoBulk (D i) := by
      intro i hil
      obtain ⟨cs', hc', ht'⟩ := hi i (by omega)
      obtain ⟨ys, k, hD, hyl, hf⟩ := fields_at Try.underlying40 hone (by kernel_rfl) hc' ht'
      obtain ⟨v0, y0, m0, g0, t0⟩ := hf 0 _ rfl
      obtain ⟨v1, y1, m1, g1, t1⟩ := hf 1 _ rfl
      obtain ⟨v2, y2, m2, g2, t2⟩ := hf 2 _ rfl
      obtain ⟨v3, y3, m3, g3, t3⟩ := hf 3 _ rfl
      obtain ⟨v4, y4, m4, g4, t4⟩ := hf 4 _ rfl
      obtain ⟨v5, y5, m5, g5, t5⟩ := hf 5 _ rfl
      obtain ⟨z0, rfl, w0⟩ := int_field Try.underlying3 t0
      obtain ⟨s1, rfl, u1⟩ := text_field t1
      obtain ⟨s2, rfl, u2⟩ := text_field t2
      obtain ⟨S, sn, sc, xs, rfl, r3, _, _, u3, b3⟩ := bytes_field t3
      obtain ⟨z4, rfl, w4⟩ := int_field Try.underlying3 t4
      obtain ⟨K, kn, kc, zs, rfl, r5, _, u5, w5, b5⟩ := ints_field t5
      refine ⟨⟨z0, s1, s2, xs, z4, zs⟩, ⟨_, _, _, _, _, _, m0, m1, m2, m3, m4, m5, rfl, rfl, rfl, rfl, i64_bd w4, w5, S, sn, sc, K, kn, kc, rfl, rfl, r3, r5, b3, b5⟩, ?_⟩
      have hys : ys = [y0, y1, y2, y3, y4, y5] := by
        have h6 : ys.length = 6 := hyl
        match ys, h6, g0, g1, g2, g3, g4, g5 with
        | [q0, q1, q2, q3, q4, q5], _, g0, g1, g2, g3, g4, g5 =>
          simp only [List.getElem?_cons_zero, List.getElem?_cons_succ, Option.some.injEq] at g0 g1 g2 g3 g4 g5
          rw [g0, g1, g2, g3, g4, g5]
      rw [hD, hys]
      simp only [List.map_cons, List.map_nil, Rows.uptoBulk, Rows.uptoBulkAll, wA]
      omega
    obtain ⟨al, hal, hall⟩ := list_of len key
    refine ⟨al, ⟨hal, fun hn => ?_⟩, hl, ?_⟩
    · obtain ⟨b, off, spot⟩ := a
      obtain ⟨ac, ⟨v0, v1, v2, v3, v4, v5, m0, _⟩, _⟩ := key 0 hn
      have hspot : spot = none := by
        have := World.cell?_spot m0
        simpa [Addr.add] using this
      subst hspot
      have hc6 : Try.prog.cellsOf 40 = 6 := by kernel_rfl
      rw [addA, addA] at m0
      have hbl := World.block_lt_of_cell? w _ m0
      refine ⟨b, off, rfl, hbl, hbl, fun k ac hk => ?_⟩
      obtain ⟨⟨v0, v1, v2, v3, v4, v5, m0, m1, m2, m3, m4, m5, hav⟩, _⟩ := hall k ac hk
      rw [addA, addA, hc6] at m0 m1 m2 m3 m4 m5
      exact ⟨v0, v1, v2, v3, v4, v5, m0, m1, m2, m3, m4, m5, hav⟩
    · have hb := totA_bulk al D (fun i ac hi' => (hall i ac hi').2)
      rw [hal] at hb
      rw [hx]
      simp only [Rows.uptoBulk]
      omega
end Go.Proofs.Ytjpnfhfeabdhiaa
namespace Go.Proofs.Ytjpnfhfeabdhiaa
open Go Go.RowKit Go.Maps

theorem head_map {m m' : Nat} {room used left : Int} {dead armed : Bool} {t : TypeId} (h : some (Obj.cells (headV (some m') room used left dead armed) t (0, 0)) = some (.cells (headV (some m) room used left dead armed) t (0, 0))) : m = m' := by
  have h2 := congrArg (fun o : Option Obj => match o with | some (.cells a _ _) => a[0]? | _ => none) h
  have h3 : (some (Value.map (some m')) : Option Value) = some (.map (some m)) := h2
  injection h3 with h3
  injection h3 with h3
  injection h3 with h3
  exact h3.symm
/-- One file more in a disk's map. -/
theorem twin_put {w : World} {q mb : Nat} {rs : List FR} {room used left : Int} {dead armed : Bool} (r : FR) (h : DskR w q (some mb) rs room used left dead armed) (hu : rsUp rs) (hn : ∀ x ∈ rs, x.name ≠ r.name) (hl : r.name.length ≤ 1099511627776) (hrs : rs.length ≤ 1099511627776)
    (hat : FileAt w r) (hfr : ∀ b ∈ r.bl, b ∉ allB q (some mb) rs) (hne : blk r.A ≠ some r.fb) :
    ∃ w3, (Instr.mapUpdate 24 (.map (some mb)) (.string (tx r.name)) (.pointer (some ⟨r.fb, 0, none⟩))).run Try.prog w = .ok () w3 ∧ DskR w3 q (some mb) (putR r rs) room used left dead armed ∧ Fr w w3 [mb] ∧ w.grownBy w3 (some mb) := by
  have hml : 1099511627776 < maxLen := by unfold maxLen; omega
  obtain ⟨h1, h2, h3, h4⟩ := h
  have hh : DskR w q (some mb) rs room used left dead armed := ⟨h1, h2, h3, h4⟩
  rcases h2 with ⟨e, _⟩ | ⟨b', Dm, e, ho, hm⟩
  · cases e
  · injection e with e
    subst e
    have hqm : mb ≠ q := h4.2.1 mb rfl
    obtain ⟨w3, hrun, h5, hg⟩ := ho.update (t := 24) (e := 105) lawN Try.underlying24 (by omega) (keyN (x := r.name) (by omega)) (ptrEl_some r.fb)
    have f3 : Fr w w3 [mb] := Fr.of_grown hg (fun k hk => by injection hk with hk; rw [hk]; exact List.mem_singleton.2 rfl)
    have hp3 : w3.heap[q]? = some (.cells (headV (some mb) room used left dead armed) 26 (0, 0)) := (f3.block q (Array.getElem?_eq_some_iff.1 h1).1 (by rw [List.mem_singleton]; exact fun e => hqm e.symm)).trans h1
    have hr : RetPut w q (some mb) (putR r rs) room used left dead armed (.returned (.tuple #[])) w3 := ⟨rfl, mb, _, hp3, by rw [putR_len_new hn]; exact h5, hm.put (ho.tidy lawN) hn, f3.mono (fun k hk => .inl (by rw [List.mem_singleton] at hk; rw [hk]; simp)), .inl rfl⟩
    obtain ⟨b, hd, _, _⟩ := hh.put hu hr hat hfr hne
    have e2 := hd.1
    rw [hp3] at e2
    have e3 : b = mb := head_map e2
    subst e3
    exact ⟨w3, hrun, hd, f3, hg⟩
theorem putR_names {r : FR} {rs : List FR} (hn : ∀ x ∈ rs, x.name ≠ r.name) : ∀ x, x ∈ putR r rs ↔ x = r ∨ x ∈ rs := fun x => ⟨putR_sub r rs x, fun h => by
  induction rs with
  | nil =>
    rcases h with h | h
    · simp [putR, h]
    · cases h
  | cons a t ih =>
    simp only [putR]
    rw [if_neg (hn a (List.mem_cons_self ..))]
    split
    · rcases h with h | h
      · rw [h]; exact List.mem_cons_self ..
      · exact List.mem_cons_of_mem _ h
    · rcases h with h | h
      · exact List.mem_cons_of_mem _ (ih (fun x hx => hn x (List.mem_cons_of_mem _ hx)) (.inl h))
      · rcases List.mem_cons.1 h with h | h
        · rw [h]; exact List.mem_cons_self ..
        · exact List.mem_cons_of_mem _ (ih (fun x hx => hn x (List.mem_cons_of_mem _ hx)) (.inr h))⟩
/-- Two rising rows with the same files are the same. -/
theorem rise_eq : ∀ {a b : List FE}, risingF a → risingF b → (∀ x, x ∈ a ↔ x ∈ b) → a = b
  | [], [], _, _, _ => rfl
  | [], y :: t, _, _, h => absurd ((h y).2 (List.mem_cons_self ..)) (by simp)
  | x :: s, [], _, _, h => absurd ((h x).1 (List.mem_cons_self ..)) (by simp)
  | x :: s, y :: t, ha, hb, h => by
    have h1 := risingF_head ha
    have h2 := risingF_head hb
    have hxy : x = y := by
      rcases List.mem_cons.1 ((h x).1 (List.mem_cons_self ..)) with e | e
      · exact e
      · rcases List.mem_cons.1 ((h y).2 (List.mem_cons_self ..)) with e2 | e2
        · exact e2.symm
        · exact absurd (nlt_trans (h1 y e2) (h2 x e)) (nlt_irrefl _)
    subst hxy
    rw [rise_eq (risingF_tail ha) (risingF_tail hb) (fun z => by
      constructor
      · intro hz
        rcases List.mem_cons.1 ((h z).1 (List.mem_cons_of_mem _ hz)) with e | e
        · rw [e] at hz; exact absurd rfl (nlt_ne (h1 x hz))
        · exact e
      · intro hz
        rcases List.mem_cons.1 ((h z).2 (List.mem_cons_of_mem _ hz)) with e | e
        · rw [e] at hz; exact absurd rfl (nlt_ne (h2 x hz))
        · exact e)]
def RetTw (w : World) (D : DS) (e : Ending) (w' : World) : Prop := ∃ q bl, e = .returned (.pointer (some ⟨q, 0, none⟩)) ∧ DK w' q bl D ∧ (∀ b ∈ bl, w.heap.size ≤ b) ∧ Below w.heap.size w w'
theorem hint_map (z : Int) (w : World) : (Instr.makeMap 24 (some (.int .i64 z))).run Try.prog w = .ok (.map (some w.heap.size)) (w.alloc (.map #[] 0)) := by
  simp [Instr.makeMap, run_underlying Try.underlying24, asInt, asIntOf, Result.andThen]
/-- What stands in Twin's loop. -/
def TwL (w : World) (b : Nat) (Dm : DU) (rs : List FR) (room used left : Int) (dead armed : Bool) (wr : World) : Prop :=
  ∃ (rs' : List FR) (lf : Lit → Bool) (cnt : Nat), wr.ranges Try.prog 9 ptrEl b (w.heap.size + 1 + 1) rs.length Dm lf cnt ∧ DskR wr w.heap.size (some (w.heap.size + 1)) rs' room used left dead armed ∧ rsUp rs' ∧
    (∀ x, x ∈ rs'.map FR.val ↔ x ∈ rs.map FR.val ∧ lf (.string x.1) = false) ∧ (∀ r ∈ rs', ∀ b ∈ r.bl, w.heap.size + 3 ≤ b) ∧ Below w.heap.size w wr ∧ rs'.length + cnt ≤ rs.length ∧ w.heap.size + 3 ≤ wr.heap.size
theorem DskR.offr {w w' : World} {q mb k : Nat} {rs : List FR} {room used left : Int} {dead armed : Bool} (h : DskR w q (some mb) rs room used left dead armed) (hf : Fr w w' [k]) (h1 : q ≠ k) (h2 : mb ≠ k) (h3 : ∀ r ∈ rs, ∀ b ∈ r.bl, k < b) : DskR w' q (some mb) rs room used left dead armed :=
  h.fr hf (fun b hb hm => by
    rw [List.mem_singleton] at hm
    subst hm
    simp only [allB, List.mem_cons, List.mem_append, Option.mem_toList, List.mem_flatMap] at hb
    rcases hb with e | e | ⟨r, hr, hb⟩
    · exact h1 e.symm
    · injection e with e; exact h2 e
    · have := h3 r hr _ hb; omega)
section
variable {w : World} {p : Nat} {m : Option Nat} {rs : List FR} {room used left : Int} {dead armed : Bool}
set_option maxRecDepth 100000 in
set_option maxHeartbeats 4000000 in
theorem twin_some {b : Nat} (h : DskR w p (some b) rs room used left dead armed) (hu : rsUp rs) (hrs : rs.length ≤ 1099511627776) (hnl : ∀ r ∈ rs, r.name.length ≤ 1099511627776) (hdl : ∀ r ∈ rs, r.dat.length ≤ 1099511627776) :
    Calls Try.prog 22 #[.pointer (some ⟨p, 0, none⟩)] w (fun e w' => ∃ rs', e = .returned (.pointer (some ⟨w.heap.size, 0, none⟩)) ∧ DskR w' w.heap.size (some (w.heap.size + 1)) rs' room used left dead armed ∧ rs'.map FR.val = rs.map FR.val ∧ (∀ r ∈ rs', ∀ b ∈ r.bl, w.heap.size + 3 ≤ b) ∧ Below w.heap.size w w') := by
  obtain ⟨c0, c1, c2, c3, c4, c5⟩ := h.head
  obtain ⟨Dm, ho, hm⟩ : ∃ Dm, w.ownsMap Try.prog 9 ptrEl b rs.length Dm ∧ MR Dm rs := by
    rcases h.2.1 with ⟨h1, _⟩ | ⟨b', Dm, h1, h2, h3⟩
    · cases h1
    · injection h1 with h1
      subst h1
      exact ⟨Dm, h2, h3⟩
  have HM := Lib.hid hm
  have HNL := Lib.hid hnl
  have HDL := Lib.hid hdl
  have hbl := ho.lt
  clear hm hnl hdl
  have hW0 : ∃ W0, W0 = w.alloc (.cells (headV (some b) room used left dead armed) 26) := ⟨_, rfl⟩
  obtain ⟨W0, hW0⟩ := hW0
  have b0 : Below w.heap.size w W0 := by rw [hW0]; exact (Below.refl _ _).alloc (Nat.le_refl _) _
  have hpl := (Array.getElem?_eq_some_iff.1 h.1).1
  have c0' := (b0.cell (p := ⟨p, 0, none⟩) hpl).trans c0
  have ho0 : W0.ownsMap Try.prog 9 ptrEl b rs.length Dm := ho.kept (row := none) ⟨b0.os, b0.tape, b0.output, b0.size, fun k hk _ => b0.block k hk⟩ (by simp)
  have z0 : W0.heap[w.heap.size]? = some (.cells (headV (some b) room used left dead armed) 26 (0, 0)) := by rw [hW0]; exact heap_alloc_new w _
  have f0 : W0.frozen? ⟨w.heap.size, 0, none⟩ = false := frozen_of_row _ _ 0 _ _ z0
  have k0 : W0.cell? ⟨w.heap.size, 0, none⟩ = some (.map (some b)) := cell_of_row _ _ 0 _ _ _ z0
  have s0 : W0.heap.size = w.heap.size + 1 := by rw [hW0]; simp
  have hsz : Maps.size Dm = rs.length := HM.out.1
  have hW0' : W0 = w.alloc (.cells #[.map (some b), .int .i64 room, .int .i64 used, .bool dead, .bool armed, .int .i64 left] 26) := hW0
  have hlen := ho0.len (ty := 3) Try.underlying24
  rw [hsz] at hlen
  rw [hW0'] at c0' f0 k0 hlen
  have hmm := hint_map (rs.length : Int)
  have Z0 := Lib.hid z0
  have HH := Lib.hid h
  have B0 := Lib.hid b0
  have S0 := Lib.hid s0
  clear hW0 z0 b0 s0 h
  -- the world ahead of the loop
  obtain ⟨X, hX⟩ : ∃ X, X = (w.alloc (.cells #[.map (some (w.heap.size + 1)), .int .i64 room, .int .i64 used, .bool dead, .bool armed, .int .i64 left] 26)).alloc (.map #[] 0) := ⟨_, rfl⟩
  have bX : Below w.heap.size w X := by rw [hX]; exact ((Below.refl _ _).alloc (Nat.le_refl _) _).alloc (by simp) _
  have sX : X.heap.size = w.heap.size + 2 := by rw [hX]; simp
  have tX : DskR X w.heap.size (some (w.heap.size + 1)) [] room used left dead armed := by
    refine ⟨?_, .inr ⟨w.heap.size + 1, (.map [] : DU), rfl, ?_, ⟨rfl, fun x => rfl, fun r hr => by cases hr⟩⟩, (fun r hr => by cases hr), ⟨(fun r hr => by cases hr), (fun b hb => by injection hb with hb; omega), List.Pairwise.nil⟩⟩
    · rw [hX]
      exact (((Below.refl _ _).alloc (Nat.le_refl _) _).block _ (by simp)).trans (heap_alloc_new w _)
    · have h1 := World.ownsMap_made (w.alloc (.cells #[.map (some (w.heap.size + 1)), .int .i64 room, .int .i64 used, .bool dead, .bool armed, .int .i64 left] 26)) Try.prog 9 ptrEl (H := Unit)
      rw [hX]
      simpa using h1
  have hX3 : X.ownsMap Try.prog 9 ptrEl b rs.length Dm := ho.kept (row := none) ⟨bX.os, bX.tape, bX.output, bX.size, fun k hk _ => bX.block k hk⟩ (by simp)
  have hX2 := hX
  have TX := Lib.hid tX
  have BX := Lib.hid bX
  clear bX tX
  go_enter Try.func22, Try.ntmps22
  go_wp2_with (at_range; refine wpList_range_own _ rfl _ 24 rfl 9 105 lawN Try.underlying24 ptrEl b rs.length Dm rfl ?_ ?_)
  · rw [hX2] at hX3
    exact hX3
  intro w1 hrg0 hg0 hs1
  have HR := Lib.hid hrg0
  have hb1 : Below X.heap.size X w1 := by rw [hX]; exact (Below.refl _ _).grown hg0 (Nat.le_refl _) (fun k hk => by cases hk)
  have HB1 := Lib.hid hb1
  clear hrg0 hg0 hb1
  have hs1' : w1.heap.size = w.heap.size + 3 := by omega
  have hbw1 : Below w.heap.size w w1 := BX.out.trans (HB1.out.mono (by omega))
  have HL0 : Hid (TwL w b Dm rs room used left dead armed w1) := Lib.hid ⟨[], _, _, HR.out, TX.out.fr (Fr.of_below HB1.out []) (fun _ _ h => by cases h), List.Pairwise.nil, fun x => by
    constructor
    · intro h; cases h
    · rintro ⟨h1, h2⟩
      obtain ⟨r, hr, rfl⟩ := List.mem_map.1 h1
      rw [show (FR.val r).1 = r.name from rfl, HM.out.2.1, List.any_eq_false] at h2
      exact absurd (h2 r hr) (by simp), (fun r hr => by cases hr), hbw1, by simp, by omega⟩
  clear hs1 hs1' hbw1 HR HB1
  go_wp2
  go_loopw [] (fun wr => TwL w b Dm rs room used left dead armed wr) (fun wr => wr.rangeLeft b (w.heap.size + 1 + 1))
  case atStart => exact HL0.out
  case round =>
    obtain ⟨rs', lf, cnt, hrg, hD, hup, hvals, hbls, hbw, hlen, hsz3⟩ := hrel
    have HV := Lib.hid hvals
    have HUP := Lib.hid hup
    have HBL := Lib.hid hbls
    clear hvals hup hbls
    go_wp2_with (at_next; refine wpList_next_ranges _ rfl _ rfl 9 lawN ptrEl Value.string (fun q : Option Nat => Value.pointer (q.map fun b => ⟨b, 0, none⟩)) keyN_inv ptrEl_inv b (w.heap.size + 1 + 1) rs.length Dm lf cnt rfl hrg ?_ ?_)
    · intro _ hl0
      have hall : rs'.map FR.val = rs.map FR.val := by
        refine rise_eq (by unfold risingF; rw [List.pairwise_map]; exact HUP.out) (by unfold risingF; rw [List.pairwise_map]; exact hu) (fun x => ?_)
        rw [HV.out x, hl0]
        simp
      have HALL := Lib.hid hall
      have HDD := Lib.hid hD
      clear hl0 hrg hall hD
      go_wp2
      go_ret
      exact ⟨rs', rfl, HDD.out, HALL.out, HBL.out, hbw⟩
    · intro x q kl y yp w4 cnt' hkey hlk hv hat hrg1 hlt hg1 hs4 hen
      obtain ⟨S, hS1, hS2, hS3⟩ := WideMaps.string_of_keyOf Try.underlying9 hkey
      injection hS1 with hS1
      subst hS1 hS2
      obtain ⟨X1, rfl⟩ : ∃ X1, x = tx X1 := ⟨x.data.toList, (tx_of x).symm⟩
      rw [tx_list] at hlk hrg1 hat
      have hhas : has Dm (.string X1) = true := has_true_of_atKey hat
      rw [HM.out.2.1, List.any_eq_true] at hhas
      obtain ⟨r, hr, hrX⟩ := hhas
      have hrX : r.name = X1 := by simpa using hrX
      subst hrX
      have hy : y = .lit (.int .i64 (r.fb : Int)) := (hat .nil).symm.trans (HM.out.2.2 r hr .nil)
      have hq : (Value.pointer (q.map fun b => ⟨b, 0, none⟩)) = .pointer (some ⟨r.fb, 0, none⟩) := by
        rw [hy] at hv
        exact ptrEl_at hv
      rw [hq] at hen ⊢
      have hXl := HNL.out r hr
      have hFA : FileAt w4 r := ((HH.out.2.2.1 r hr).fr (Fr.of_below hbw []) (fun _ _ h => by cases h)).fr (bl := [w.heap.size + 1 + 1]) (Fr.of_grown hg1 (fun k hk => by injection hk with hk; rw [hk]; exact List.mem_singleton.2 rfl)) (fun b hb hm => by
        rw [List.mem_singleton] at hm
        have := (HH.out.2.2.1 r hr).lt b hb
        omega)
      have f4 : Fr wr w4 [w.heap.size + 1 + 1] := Fr.of_grown hg1 (fun k hk => by injection hk with hk; rw [hk]; exact List.mem_singleton.2 rfl)
      have hD4 : DskR w4 w.heap.size (some (w.heap.size + 1)) rs' room used left dead armed := hD.offr f4 (by omega) (by omega) (fun x hx b hb => by have := HBL.out x hx b hb; omega)
      have hb4 : Below w.heap.size w w4 := hbw.grown hg1 hbw.size (fun k hk => by injection hk with hk; omega)
      have hmeas := hrg1.left_eq
      have hmeas0 := hrg.left_eq
      have HLT : Hid (cnt' < cnt) := Lib.hid hlt
      have HRG := Lib.hid hrg1
      have HM0 := Lib.hid hmeas0
      have HM1 := Lib.hid hmeas
      have HLK := Lib.hid hlk
      have HFA := Lib.hid hFA
      have HD4 := Lib.hid hD4
      have HB4 := Lib.hid hb4
      have hs4' : w.heap.size + 3 ≤ w4.heap.size := by omega
      obtain ⟨q0, q1, q2, q3, q4, q5⟩ := hD4.head
      obtain ⟨r0, r1⟩ := hFA.cells
      clear hat hv hkey hlk hrg hrg1 hg1 hlt hmeas hmeas0 hy hq hFA f4 hD4 hb4 hD hbw
      have HNM : Hid (∀ x ∈ rs', x.name ≠ r.name) := Lib.hid (fun x hx e => by
        have h1 := ((HV.out x.val).1 (List.mem_map.2 ⟨x, hx, rfl⟩)).2
        rw [show (FR.val x).1 = x.name from rfl, e, HLK.out] at h1
        cases h1)
      have hfbl : r.fb < w4.heap.size := HFA.out.lt r.fb (by simp [FR.bl])
      have hfm : r.fb ≠ w.heap.size + 1 := by have := (HH.out.2.2.1 r hr).lt r.fb (by simp [FR.bl]); omega
      have HU : Hid (∀ (w5 : World) (C : Option Addr) (cc : Nat), Own 5 w5 w4.heap.size C r.dat.length cc r.dat → Below w4.heap.size w4 w5 → ∃ w6, (Instr.mapUpdate 24 (.map (some (w.heap.size + 1))) (.string (tx r.name)) (.pointer (some ⟨w5.heap.size, 0, none⟩))).run Try.prog (w5.alloc (.cells #[.slice C r.dat.length cc, .int .i64 (r.saf : Int)] 109)) = .ok () w6 ∧
          TwL w b Dm rs room used left dead armed w6 ∧ w6.rangeLeft b (w.heap.size + 1 + 1) = cnt' ∧ w6.cell? ⟨w.heap.size, 0, none⟩ = some (.map (some (w.heap.size + 1))) ∧ w6.cell? ⟨r.fb, 0, none⟩ = some (.slice r.A r.dat.length r.c) ∧ w6.cell? ⟨r.fb, 1, none⟩ = some (.int .i64 (r.saf : Int))) := Lib.hid (fun w5 C cc oC b5 => by
        have s5 := b5.size
        have bA : Below w5.heap.size w5 (w5.alloc (.cells #[.slice C r.dat.length cc, .int .i64 (r.saf : Int)] 109)) := (Below.refl _ _).alloc (Nat.le_refl _) _
        have bB : Below w4.heap.size w4 (w5.alloc (.cells #[.slice C r.dat.length cc, .int .i64 (r.saf : Int)] 109)) := b5.trans (bA.mono s5)
        have hD5 := HD4.out.fr (Fr.of_below bB []) (fun _ _ h => by cases h)
        have hlt4 := HD4.out.lt
        have hF5 : FileAt (w5.alloc (.cells #[.slice C r.dat.length cc, .int .i64 (r.saf : Int)] 109)) ⟨r.name, r.dat, r.saf, w5.heap.size, C, cc⟩ := ⟨heap_alloc_new _ _, (oC.mono (Nat.zero_le _)).alloc _, HFA.out.2.2⟩
        have hblr : ∀ x ∈ FR.bl ⟨r.name, r.dat, r.saf, w5.heap.size, C, cc⟩, w4.heap.size ≤ x := fun x hx => by
          simp only [FR.bl, List.mem_cons, Option.mem_toList] at hx
          rcases hx with e | e
          · omega
          · exact (oC.lt x e).1
        obtain ⟨w6, hrun, hd6, f6, g6⟩ := twin_put ⟨r.name, r.dat, r.saf, w5.heap.size, C, cc⟩ hD5 HUP.out HNM.out hXl (by omega) hF5 (fun x hx hm => by have := hblr x hx; have := hlt4 x hm; omega) (fun e => by have h9 := (oC.lt w5.heap.size e).2; omega)
        have hrg6 := (HRG.out.kept (w' := w5.alloc (.cells #[.slice C r.dat.length cc, .int .i64 (r.saf : Int)] 109)) (row := none) ⟨bB.os, bB.tape, bB.output, bB.size, fun k hk _ => bB.block k hk⟩ (by simp) (by simp)).kept g6 (fun e => by injection e with e; omega) (fun e => by injection e with e; omega)
        have s6 := g6.size
        have hnew := putR_names (r := ⟨r.name, r.dat, r.saf, w5.heap.size, C, cc⟩) HNM.out
        refine ⟨w6, hrun, ⟨_, _, _, hrg6, hd6, putR_up HUP.out, fun x => ?_, fun y hy k hk => ?_, ?_, ?_, ?_⟩, hrg6.left_eq, hd6.head.1, (World.cell?_of_block (a := ⟨r.fb, 0, none⟩) (f6.block r.fb (Nat.lt_of_lt_of_le hfbl bB.size) (by rw [List.mem_singleton]; exact hfm))).trans ((bB.cell (p := ⟨r.fb, 0, none⟩) hfbl).trans r0), (World.cell?_of_block (a := ⟨r.fb, 1, none⟩) (f6.block r.fb (Nat.lt_of_lt_of_le hfbl bB.size) (by rw [List.mem_singleton]; exact hfm))).trans ((bB.cell (p := ⟨r.fb, 1, none⟩) hfbl).trans r1)⟩
        · rw [List.mem_map]
          have hsame : ∀ z : List UInt8, (Lit.string z).sameKey (.string r.name) = (z == r.name) := fun z => by simp [Lit.sameKey]
          constructor
          · rintro ⟨y, hy, rfl⟩
            rcases (hnew y).1 hy with rfl | hy
            · refine ⟨List.mem_map.2 ⟨r, hr, rfl⟩, ?_⟩
              show (lf (.string r.name) && !(Lit.string r.name).sameKey (.string r.name)) = false
              rw [hsame]
              simp
            · obtain ⟨h1, h2⟩ := (HV.out y.val).1 (List.mem_map.2 ⟨y, hy, rfl⟩)
              refine ⟨h1, ?_⟩
              show (lf (.string y.val.1) && _) = false
              rw [h2]
              rfl
          · rintro ⟨h1, h2⟩
            have h2' : (lf (.string x.1) && !(Lit.string x.1).sameKey (.string r.name)) = false := h2
            rw [hsame, Bool.and_eq_false_iff] at h2'
            rcases h2' with h3 | h3
            · obtain ⟨y, hy, e⟩ := List.mem_map.1 ((HV.out x).2 ⟨h1, h3⟩)
              exact ⟨y, (hnew y).2 (.inr hy), e⟩
            · have e : x.1 = r.name := by simpa using h3
              obtain ⟨y, hy, rfl⟩ := List.mem_map.1 h1
              have hyr : y.val = r.val := up_nameF (fs := rs.map FR.val) (by unfold risingF; rw [List.pairwise_map]; exact hu) (List.mem_map.2 ⟨y, hy, rfl⟩) (List.mem_map.2 ⟨r, hr, rfl⟩) e
              exact ⟨_, (hnew _).2 (.inl rfl), hyr.symm⟩
        · rcases (hnew y).1 hy with rfl | hy
          · have := hblr k hk; omega
          · exact HBL.out y hy k hk
        · exact (HB4.out.trans (bB.mono (by omega))).trans (f6.below (fun k hk => by rw [List.mem_singleton] at hk; omega) (by have := bB.size; omega))
        · have hq := putR_len_new (r := ⟨r.name, r.dat, r.saf, w5.heap.size, C, cc⟩) HNM.out
          have := HLT.out
          omega
        · have := bB.size; omega)
      have hCl : r.dat.length ≤ 140737488355328 := by have := HDL.out r hr; omega
      have hCn : r.A = none → r.c = 0 := fun e => (HFA.out.2.1.nil_of (by rw [e]; rfl)).2.2
      have HS0 : ∀ wx, Below w4.heap.size w4 wx → Rd wx r.A r.dat.length r.dat := fun wx h => HFA.out.2.1.rd.below h
      have HRX := Lib.hid HS0
      have HMS := Lib.hid (HM0.out.trans rfl)
      clear HS0
      go_upto_region 6 with (fail)
      go_region_held3 (fun wx => wx.cell? ⟨w.heap.size, 0, none⟩ = some (.map (some (w.heap.size + 1))) ∧ wx.cell? ⟨r.fb, 0, none⟩ = some (.slice r.A r.dat.length r.c) ∧ wx.cell? ⟨r.fb, 1, none⟩ = some (.int .i64 (r.saf : Int))) (first | assumption | exact ⟨q0, r0, r1⟩)
        (first | (go_at_call 77; refine (Clone_any r.A r.dat.length r.c r.dat _ (HRX.out _ (Below.refl _ _).drew) hCl hCn).mono ?_; rintro e w5 ⟨C, cn, cc, rfl, oC, b5⟩; have hcn : cn = r.dat.length := oC.len.symm; subst hcn; have b45 : Below w4.heap.size w4 w5 := (Below.refl w4.heap.size w4).drew.trans b5; obtain ⟨w6, hrun, hTw, hms, hSC⟩ := HU.out w5 C cc oC b45; have hSA : w5.cell? ⟨w.heap.size, 0, none⟩ = some (.map (some (w.heap.size + 1))) ∧ w5.cell? ⟨r.fb, 0, none⟩ = some (.slice r.A r.dat.length r.c) ∧ w5.cell? ⟨r.fb, 1, none⟩ = some (.int .i64 (r.saf : Int)) := ⟨(b45.cell (p := ⟨w.heap.size, 0, none⟩) (by show w.heap.size < w4.heap.size; omega)).trans q0, (b45.cell (p := ⟨r.fb, 0, none⟩) hfbl).trans r0, (b45.cell (p := ⟨r.fb, 1, none⟩) hfbl).trans r1⟩; have b46 : Below w4.heap.size w4 (w5.alloc (.cells #[.slice C r.dat.length cc, .int .i64 (r.saf : Int)] 109)) := b45.alloc b45.size _; have hSB : (w5.alloc (.cells #[.slice C r.dat.length cc, .int .i64 (r.saf : Int)] 109)).cell? ⟨w.heap.size, 0, none⟩ = some (.map (some (w.heap.size + 1))) ∧ (w5.alloc (.cells #[.slice C r.dat.length cc, .int .i64 (r.saf : Int)] 109)).cell? ⟨r.fb, 0, none⟩ = some (.slice r.A r.dat.length r.c) ∧ (w5.alloc (.cells #[.slice C r.dat.length cc, .int .i64 (r.saf : Int)] 109)).cell? ⟨r.fb, 1, none⟩ = some (.int .i64 (r.saf : Int)) := ⟨(b46.cell (p := ⟨w.heap.size, 0, none⟩) (by show w.heap.size < w4.heap.size; omega)).trans q0, (b46.cell (p := ⟨r.fb, 0, none⟩) hfbl).trans r0, (b46.cell (p := ⟨r.fb, 1, none⟩) hfbl).trans r1⟩))
      have HTW := Lib.hid hTw
      have HMS6 := Lib.hid hms
      clear hTw hms hSC hSA hSB b45 b46 b5 oC
      go_wp2_with fail
      go_roundw
      case rel => exact HTW.out
      case measure => rw [HMS6.out, HM0.out]; exact HLT.out
set_option maxRecDepth 100000 in
set_option maxHeartbeats 4000000 in
theorem twin_nil (h : DskR w p none rs room used left dead armed) :
    Calls Try.prog 22 #[.pointer (some ⟨p, 0, none⟩)] w (fun e w' => ∃ rs', e = .returned (.pointer (some ⟨w.heap.size, 0, none⟩)) ∧ DskR w' w.heap.size (some (w.heap.size + 1)) rs' room used left dead armed ∧ rs'.map FR.val = rs.map FR.val ∧ (∀ r ∈ rs', ∀ b ∈ r.bl, w.heap.size + 3 ≤ b) ∧ Below w.heap.size w w') := by
  obtain ⟨c0, c1, c2, c3, c4, c5⟩ := h.head
  have hrs : rs = [] := by
    rcases h.2.1 with ⟨_, h2⟩ | ⟨b', Dm, h1, _⟩
    · exact h2
    · cases h1
  subst hrs
  have hrn := fun w => run_range_nilMap (P := Try.prog) w 24 9 105 Try.underlying24
  have hnx := fun w ty => run_next_nilMap (P := Try.prog) w ty 0 0 #[]
  have hln := fun w => Maps.len_nil (w := w) (P := Try.prog) Try.underlying24 3
  have hmm := hint_map 0
  obtain ⟨W0, hW0⟩ : ∃ W0, W0 = w.alloc (.cells #[.map none, .int .i64 room, .int .i64 used, .bool dead, .bool armed, .int .i64 left] 26) := ⟨_, rfl⟩
  have b0 : Below w.heap.size w W0 := by rw [hW0]; exact (Below.refl _ _).alloc (Nat.le_refl _) _
  have hpl := (Array.getElem?_eq_some_iff.1 h.1).1
  have c0' := (b0.cell (p := ⟨p, 0, none⟩) hpl).trans c0
  have z0 : W0.heap[w.heap.size]? = some (.cells (headV none room used left dead armed) 26 (0, 0)) := by rw [hW0]; exact heap_alloc_new w _
  have f0 : W0.frozen? ⟨w.heap.size, 0, none⟩ = false := frozen_of_row _ _ 0 _ _ z0
  have k0 : W0.cell? ⟨w.heap.size, 0, none⟩ = some (.map none) := cell_of_row _ _ 0 _ _ _ z0
  rw [hW0] at c0' f0 k0
  clear z0 b0 hW0
  obtain ⟨X, hX⟩ : ∃ X, X = (w.alloc (.cells #[.map (some (w.heap.size + 1)), .int .i64 room, .int .i64 used, .bool dead, .bool armed, .int .i64 left] 26)).alloc (.map #[] 0) := ⟨_, rfl⟩
  have bX : Below w.heap.size w X := by rw [hX]; exact ((Below.refl _ _).alloc (Nat.le_refl _) _).alloc (by simp) _
  have sX : X.heap.size = w.heap.size + 2 := by rw [hX]; simp
  have tX : DskR X w.heap.size (some (w.heap.size + 1)) [] room used left dead armed := by
    refine ⟨?_, .inr ⟨w.heap.size + 1, (.map [] : DU), rfl, ?_, ⟨rfl, fun x => rfl, fun r hr => by cases hr⟩⟩, (fun r hr => by cases hr), ⟨(fun r hr => by cases hr), (fun b hb => by injection hb with hb; omega), List.Pairwise.nil⟩⟩
    · rw [hX]
      exact (((Below.refl _ _).alloc (Nat.le_refl _) _).block _ (by simp)).trans (heap_alloc_new w _)
    · have h1 := World.ownsMap_made (w.alloc (.cells #[.map (some (w.heap.size + 1)), .int .i64 room, .int .i64 used, .bool dead, .bool armed, .int .i64 left] 26)) Try.prog 9 ptrEl (H := Unit)
      rw [hX]
      simpa using h1
  have cX : X.cell? ⟨p, 0, none⟩ = some (.map none) := (bX.cell (p := ⟨p, 0, none⟩) hpl).trans c0
  rw [hX] at cX
  have HFIN : Hid (DskR (X.alloc (.mapIter none 0 #[] 0)) w.heap.size (some (w.heap.size + 1)) [] room used left dead armed ∧ Below w.heap.size w (X.alloc (.mapIter none 0 #[] 0))) := Lib.hid ⟨tX.fr (Fr.of_below ((Below.refl _ _).alloc (Nat.le_refl _) _) []) (fun _ _ h => by cases h), bX.alloc bX.size _⟩
  clear bX tX h
  go_enter Try.func22, Try.ntmps22
  rw [hX] at HFIN
  go_wp2
  go_loopw [] (fun wr => wr = ((w.alloc (.cells #[.map (some (w.heap.size + 1)), .int .i64 room, .int .i64 used, .bool dead, .bool armed, .int .i64 left] 26)).alloc (.map #[] 0)).alloc (.mapIter none 0 #[] 0)) (fun _ => 0)
  case atStart => rfl
  case round =>
    subst hrel
    have hnx2 := hnx ((w.alloc (.cells #[.map (some (w.heap.size + 1)), .int .i64 room, .int .i64 used, .bool dead, .bool armed, .int .i64 left] 26)).alloc (.map #[] 0))
    simp only [World.size_alloc] at hnx2
    go_wp2
    go_ret
    exact ⟨[], rfl, HFIN.out.1, rfl, (fun r hr => by cases hr), HFIN.out.2⟩
/-- The Twin of a disk. -/
theorem twin_DK {bl : List Nat} {D : DS} (h : DK w p bl D) (hz : SzD D) : Calls Try.prog 22 #[.pointer (some ⟨p, 0, none⟩)] w (RetTw w D) := by
  obtain ⟨m, rs, left, armed, h1, rfl, h3, h4, h5, h6, h7⟩ := h
  have key : Calls Try.prog 22 #[.pointer (some ⟨p, 0, none⟩)] w (fun e w' => ∃ rs', e = .returned (.pointer (some ⟨w.heap.size, 0, none⟩)) ∧ DskR w' w.heap.size (some (w.heap.size + 1)) rs' (D.room : Int) (usedF D.fs : Int) left D.dead armed ∧ rs'.map FR.val = rs.map FR.val ∧ (∀ r ∈ rs', ∀ b ∈ r.bl, w.heap.size + 3 ≤ b) ∧ Below w.heap.size w w') := by
    cases m with
    | none => exact twin_nil h1
    | some b => exact twin_some h1 (upR h3 h5) (by rw [← List.length_map (f := FR.val), h3]; exact hz.2.1) (fun r hr => hz.2.2 r.val (by rw [← h3]; exact List.mem_map.2 ⟨r, hr, rfl⟩)) (fun r hr => Nat.le_trans (usedF_mem (f := r.val) (by rw [← h3]; exact List.mem_map.2 ⟨r, hr, rfl⟩)) hz.1)
  refine key.mono ?_
  rintro e w' ⟨rs', rfl, hd, hv, hb, hw⟩
  refine ⟨w.heap.size, _, rfl, ⟨_, rs', left, armed, hd, rfl, hv.trans h3, h4, h5, h6, h7⟩, fun b hb' => ?_, hw⟩
  simp only [allB, List.mem_cons, List.mem_append, Option.mem_toList, List.mem_flatMap] at hb'
  rcases hb' with e | e | ⟨r, hr, hbr⟩
  · omega
  · injection e with e; omega
  · have := hb r hr b hbr; omega
end
end Go.Proofs.Ytjpnfhfeabdhiaa
namespace Go.Proofs.Ytjpnfhfeabdhiaa
open Go Go.RowKit Go.Maps

section
variable {w w' : World} {G G' : Nat → Prop}
theorem Gd.gm {S : Option Addr} {n : Nat} (h : Gd G S n) (hg : ∀ b, G b → G' b) : Gd G' S n := fun hn b hb => hg b (h hn b hb)
theorem FV.gm {f : FE} {v0 v1 v2 : Value} (h : FV G w f v0 v1 v2) (hg : ∀ b, G b → G' b) : FV G' w f v0 v1 v2 := by
  obtain ⟨h1, h2, S, sn, sc, T, tn, tc, h3, h4, h5, h6, h7, h8, h9, h10⟩ := h
  exact ⟨h1, h2, S, sn, sc, T, tn, tc, h3, h4, h5, h6, h7, h8, h9.gm hg, h10.gm hg⟩
theorem FVs.gm (hg : ∀ b, G b → G' b) : ∀ {fs : List FE} {vs : List Value}, FVs G w fs vs → FVs G' w fs vs
  | [], _, h => h
  | _ :: _, _, ⟨v0, v1, v2, r, e, h1, h2⟩ => ⟨v0, v1, v2, r, e, h1.gm hg, FVs.gm hg h2⟩
theorem RFs.gm {A : Option Addr} {n : Nat} {fs : List FE} (h : RFs G w A n fs) (hg : ∀ b, G b → G' b) : RFs G' w A n fs := by
  obtain ⟨h1, vs, h2, h3, h4⟩ := h
  exact ⟨h1, vs, h2.gm hg, h3, h4.gm hg⟩
theorem gb_swap {a b : List Nat} : ∀ x, GB (a ++ b) x → GB (b ++ a) x := fun x h hm => h (by
  rcases List.mem_append.1 hm with h | h
  · exact List.mem_append_right _ h
  · exact List.mem_append_left _ h)
end
/-- 'The disk at p is D, off the blocks ex; the reference's own lies in the box g.' -/
def SD (wr : World) (p : Nat) (bl ex : List Nat) (g : Nat) (A : Option Addr) (n c : Nat) (D : DS) : Prop :=
  DK wr p bl D ∧ RFs (GB (bl ++ ex)) wr A n D.fs ∧ Bk wr g #[.slice A n c, .int .i64 (D.room : Int), .int .i64 D.arm, .bool D.dead] 36 ∧ n ≤ c
/-- 'The two disks' blocks are apart, and none is a box.' -/
def SepT (base : Nat) (bl1 bl2 gs : List Nat) : Prop := (∀ b ∈ bl1, base ≤ b ∧ b ∉ gs ∧ b ∉ bl2) ∧ (∀ b ∈ bl2, base ≤ b ∧ b ∉ gs)
section
variable {wr w' W w7 Y : World} {p p1 p2 : Nat} {bl ex bl1 bl2 bl7 gs : List Nat} {g g1 g2 g3 base : Nat} {A A1 A2 A7 : Option Addr} {n n1 n2 n7 c c1 c2 c7 : Nat} {D D1 D2 D7 : DS}
theorem SepT.swap (h : SepT base bl1 bl2 gs) : SepT base bl2 bl1 gs := ⟨fun b hb => ⟨(h.2 b hb).1, (h.2 b hb).2, fun hm => (h.1 b hm).2.2 hb⟩, fun b hb => ⟨(h.1 b hb).1, (h.1 b hb).2.1⟩⟩
theorem SD.below (h : SD wr p bl ex g A n c D) (hb : Below wr.heap.size wr w') : SD w' p bl ex g A n c D := ⟨h.1.below hb, h.2.1.below hb, h.2.2.1.below hb, h.2.2.2⟩
theorem SD.cells (h : SD wr p bl ex g A n c D) : wr.cell? ⟨g, 0, none⟩ = some (.slice A n c) ∧ wr.cell? ⟨g, 1, none⟩ = some (.int .i64 (D.room : Int)) ∧ wr.cell? ⟨g, 2, none⟩ = some (.int .i64 D.arm) ∧ wr.cell? ⟨g, 3, none⟩ = some (.bool D.dead) ∧
    wr.frozen? ⟨g, 0, none⟩ = false ∧ wr.frozen? ⟨g, 1, none⟩ = false ∧ wr.frozen? ⟨g, 2, none⟩ = false ∧ wr.frozen? ⟨g, 3, none⟩ = false := h.2.2.1.four
/-- What do hands back, taken apart. -/
def Dn (W : World) (p : Nat) (bl ex : List Nat) (A : Option Addr) (n c : Nat) (bl' : List Nat) (D : DS) (w' : World) : Prop := DK w' p bl' D ∧ RFs (GB (bl' ++ ex)) w' A n D.fs ∧ n ≤ c ∧ Fr W w' bl ∧ ∀ b ∈ bl', b ∈ bl ∨ W.heap.size ≤ b
theorem Dn.box (hd : Dn W p1 bl1 bl2 A7 n7 c7 bl7 D7 w7) {vs : Array Value} {t : TypeId} (h : Bk W g vs t) (hg : g ∉ bl1) : Bk w7 g vs t := h.fr hd.2.2.2.1 hg
/-- A call on one disk, its answer stored into the box. -/
theorem two_step (h1 : SD wr p1 bl1 bl2 g1 A1 n1 c1 D1) (h2 : SD wr p2 bl2 bl1 g2 A2 n2 c2 D2) (hs : SepT base bl1 bl2 gs) (hg1 : g1 ∈ gs) (hg2 : g2 ∈ gs) (h12 : g1 ≠ g2) (hgs : ∀ g ∈ gs, g < wr.heap.size)
    (bW : Below wr.heap.size wr W) (hd : Dn W p1 bl1 bl2 A7 n7 c7 bl7 D7 w7)
    (hY : Y = (((w7.setCell ⟨g1, 0, none⟩ (.slice A7 n7 c7)).setCell ⟨g1, 1, none⟩ (.int .i64 (D7.room : Int))).setCell ⟨g1, 2, none⟩ (.int .i64 D7.arm)).setCell ⟨g1, 3, none⟩ (.bool D7.dead)) (hbw : base ≤ wr.heap.size) :
    SD Y p1 bl7 bl2 g1 A7 n7 c7 D7 ∧ SD Y p2 bl2 bl7 g2 A2 n2 c2 D2 ∧ SepT base bl7 bl2 gs ∧ Fr wr Y (g1 :: bl1) := by
  obtain ⟨hk, hr, hc, hf, hq⟩ := hd
  have sW := bW.size
  have s7 := hf.size
  have hg1l := hgs g1 hg1
  have hg2l := hgs g2 hg2
  have d7 : Bk w7 g1 _ _ := (h1.2.2.1.below bW).fr hf (fun hm => (hs.1 g1 hm).2.1 hg1)
  have e7 : Bk w7 g2 _ _ := (h2.2.2.1.below bW).fr hf (fun hm => (hs.1 g2 hm).2.1 hg2)
  have fY : Fr w7 Y [g1] := by rw [hY]; exact fr_set4 _ _ _ _ _ _
  have hq' : ∀ b ∈ bl7, base ≤ b ∧ b ∉ gs ∧ b ∉ bl2 := fun b hb => by
    rcases hq b hb with h | h
    · exact hs.1 b h
    · exact ⟨by omega, fun hm => by have := hgs b hm; omega, fun hm => by have := h2.1.lt b hm; omega⟩
  have k2 : DK w7 p2 bl2 D2 := (h2.1.below bW).fr hf (fun b hb hm => (hs.1 b hm).2.2 hb)
  have r2 : RFs (GB (bl7 ++ bl2)) w7 A2 n2 D2.fs := ((h2.2.1.below bW).gm gb_swap).frD hf hq
  refine ⟨⟨hk.fr fY (fun b hb hm => ?_), RFs.store d7 fY hr, by rw [hY]; exact d7.put4 rfl _ _ _ _, hc⟩, ⟨k2.fr fY (fun b hb hm => ?_), (RFs.store d7 fY r2).gm gb_swap, e7.fr fY (by rw [List.mem_singleton]; exact fun e => h12 e.symm), h2.2.2.2⟩, ⟨hq', hs.2⟩, ?_⟩
  · rw [List.mem_singleton] at hm
    subst hm
    exact (hq' _ hb).2.1 hg1
  · rw [List.mem_singleton] at hm
    subst hm
    exact (hs.2 _ hb).2 hg1
  · exact ((Fr.of_below bW (g1 :: bl1)).trans hf (fun b hb => .inl (List.mem_cons_of_mem _ hb))).trans fY (fun b hb => .inl (by rw [List.mem_singleton] at hb; rw [hb]; exact List.mem_cons_self ..))
end
end Go.Proofs.Ytjpnfhfeabdhiaa
namespace Go.Proofs.Ytjpnfhfeabdhiaa
open Go Go.RowKit Go.Maps

set_option maxRecDepth 100000 in
set_option maxHeartbeats 32000000 in
theorem diskTwins_row (room : Int) (A : Option Addr) (la ca : Nat) (al : List AC) (B : Option Addr) (lb cb : Nat) (ml : List AC) (w : World) (hroom : (Lit.int .i64 room).wf = true) (hx : RAs w w.heap.size A la al) (ht : totA al ≤ 1048576) (hy : RAs w w.heap.size B lb ml) (ht2 : totA ml ≤ 1048576) :
    Calls Try.prog 4 #[.int .i64 room, .slice A la ca, .slice B lb cb] w (RetT w true) := by
  have hr2 : I64 room := by
    have : -9223372036854775808 ≤ room ∧ room ≤ 9223372036854775807 := by simpa [Lit.wf, IntKind.min, IntKind.max, IntKind.signed, IntKind.bits] using hroom
    exact this
  clear hroom
  have HX := Lib.hid hx
  have HLX := Lib.hid hx.len
  have HT := Lib.hid ht
  have HY := Lib.hid hy
  have HLY := Lib.hid hy.len
  have HT2 := Lib.hid ht2
  have hla : la ≤ 1048576 := by rw [← hx.len]; exact Nat.le_trans (totA_len al) ht
  have hlb : lb ≤ 1048576 := by rw [← hy.len]; exact Nat.le_trans (totA_len ml) ht2
  have hR2 := Lib.hid hr2
  clear hx hr2 ht hy ht2
  go_enter Try.func4, Try.ntmps4
  go_wp2_with fail
  refine (awake4_any _).mono ?_
  rintro e w1 ⟨rfl, k1⟩
  have s1 := k1.size
  have B1 := Lib.hid k1
  clear k1
  go_wp2_with fail
  refine (new_DK room w1 hR2.out).mono ?_
  rintro e w5 ⟨p, bl5, rfl, h5, q5, b5⟩
  have K5 := Lib.hid h5
  have Q5 := Lib.hid q5
  have B5 := Lib.hid b5
  clear h5 q5 b5
  go_wp2_with fail
  refine (refNew_any room w5 hR2.out).mono ?_
  rintro e w6 ⟨rfl, b6⟩
  have K6 := Lib.hid (K5.out.below b6)
  have s5 := B5.out.size
  have s6 := b6.size
  have B6 := Lib.hid (B1.out.trans ((B5.out.trans (b6.mono s5)).mono s1))
  clear b6 K5 B5
  go_wp2_with fail
  obtain ⟨X, hX⟩ : ∃ X, X = w6.alloc (.cells #[.slice none 0 0, .int .i64 (max room 0), .int .i64 (-1), .bool false] 36) := ⟨_, rfl⟩
  rw [← hX]
  have HL0 : Hid (LpD w w6.heap.size p al 0 X) := Lib.hid (by
    have hmx : max room 0 = (room.toNat : Int) := by omega
    rw [hmx] at hX
    have z : Bk X w6.heap.size #[.slice none 0 0, .int .i64 (room.toNat : Int), .int .i64 (-1), .bool false] 36 := by rw [hX]; exact Bk.new _ _ _
    have hlt := K6.out.lt
    have bX : Below w6.heap.size w6 X := by rw [hX]; exact (Below.refl _ _).alloc (Nat.le_refl _) _
    exact ⟨none, 0, 0, bl5, _, K6.out.below bX, RFs.nil _ _, z, Nat.le_refl _, fun b hb => by have := Q5.out b hb; omega, fun hm => by have := hlt _ hm; omega, B6.out.trans (bX.mono B6.out.size), ⟨by simp [usedF], by simp, fun f hf => by cases hf⟩, B6.out.size⟩)
  have sg := B6.out.size
  clear hX K6 Q5 B6
  go_loopw [29] (fun s wr => ∃ k : Nat, k ≤ la ∧ s = .int .i64 (k : Int) ∧ LpD w w6.heap.size p al k wr) (fun s _ => la - (intOf s).toNat)
  case atStart => exact ⟨0, Nat.zero_le _, rfl, HL0.out⟩
  case round =>
    obtain ⟨k, hk, rfl, An, n, c, bl, D, hK, hR, hD, hc, hbl, hg, hB, hG, hgw⟩ := hrel
    have swr := hB.size
    have gwr := hD.lt
    have HBW := Lib.hid hB
    by_cases hlt : k < la
    · have hXr := HX.out.below hB
      obtain ⟨b, off, rfl, hbw⟩ := hXr.pos (by omega)
      obtain ⟨a, v0, v1, v2, v3, v4, v5, ha, m0, m1, m2, m3, m4, m5, hav⟩ := hXr.at_ k hlt
      have hsa := szA_of ha HT.out
      have hts := totA_take al (k + 1)
      have htn := totA_snoc ha
      have hgr := grw_do hG hK.up (a := a)
      rw [← htn] at hgr
      have htk := totA_take al k
      have ht2 := HT.out
      have HSZ := Lib.hid (hG.sz (by omega))
      obtain ⟨D', hD'⟩ : ∃ D', D' = doD D a := ⟨_, rfl⟩
      rw [← hD'] at hgr
      have HSZ' := Lib.hid (hgr.sz (by omega))
      have HGR := Lib.hid hgr
      have HDD := Lib.hid hD'
      have HAV := Lib.hid hav
      obtain ⟨S, sn, sc, K, kn, kc, rfl, rfl, rfl, rfl, rfl, rfl⟩ := hav.vals
      obtain ⟨W, hW⟩ : ∃ W, W = wr.alloc (.cells #[.int .i64 a.kind, .string (tx a.name), .string (tx a.dst), .slice S sn sc, .int .i64 a.num, .slice K kn kc] 40) := ⟨_, rfl⟩
      have bW : Below wr.heap.size wr W := by rw [hW]; exact (Below.refl _ _).alloc (Nat.le_refl _) _
      have aW : Bk W wr.heap.size #[.int .i64 a.kind, .string (tx a.name), .string (tx a.dst), .slice S sn sc, .int .i64 a.num, .slice K kn kc] 40 := by rw [hW]; exact Bk.new _ _ _
      have HDO : Hid (Calls Try.prog 20 #[.pointer (some ⟨p, 0, none⟩), .agg #[.slice An n c, .int .i64 (D.room : Int), .int .i64 D.arm, .bool D.dead], .agg #[.int .i64 a.kind, .string (tx a.name), .string (tx a.dst), .slice S sn sc, .int .i64 a.num, .slice K kn kc]] W (RetDo W p bl [] D')) := Lib.hid (by
        rw [HDD.out]
        exact do_any (hK.below bW) (hR.below bW) hc HSZ.out (HAV.out.below (bW.mono swr)) hbl (fun b hb => by cases hb) hsa)
      have D1 := hD.below bW
      have A1 := Lib.hid aW
      have DW := Lib.hid D1
      have BW := Lib.hid (hB.trans (bW.mono swr))
      have hblt := (hK.below bW).lt
      have HBL := Lib.hid hblt
      have HGN := Lib.hid hg
      have HBB := Lib.hid hbl
      have sW := bW.size
      have sW2 : wr.heap.size < W.heap.size := aW.lt
      have hanb : Hid (wr.heap.size ∉ bl) := Lib.hid (fun hm => by have := hK.lt _ hm; omega)
      obtain ⟨e0, e1, e2, e3, _⟩ := D1.four
      obtain ⟨a0, a1, a2, a3, a4, a5⟩ := aW.six
      rw [hW] at e0 e1 e2 e3 a0 a1 a2 a3 a4 a5
      clear hK hR hD D1 aW hblt hg hbl hB hG hgr hD' hav hXr ha hts htn htk
      go_wp2_with fail
      rw [← hW]
      refine HDO.out.mono ?_
      rintro e w7 ⟨A7, n7, c7, bl7, rfl, h7, r7, hc7, f7, q7⟩
      clear e0 e1 e2 e3 a0 a1 a2 a3 a4 a5
      have D7 := Lib.hid (DW.out.fr f7 HGN.out)
      have A7' := Lib.hid (A1.out.fr f7 hanb.out)
      have s7 := f7.size
      have B7 := Lib.hid (BW.out.trans (f7.below HBB.out (by omega)))
      have H7 := Lib.hid h7
      have R7 := Lib.hid r7
      have Q7 : Hid (∀ b ∈ bl7, w.heap.size ≤ b ∧ b ≠ w6.heap.size ∧ b ≠ wr.heap.size) := Lib.hid (fun b hb => by
        rcases q7 b hb with h | h
        · exact ⟨HBB.out b h, fun e => HGN.out (by rw [← e]; exact h), fun e => hanb.out (by rw [← e]; exact h)⟩
        · exact ⟨by omega, by omega, by omega⟩)
      clear h7 r7 f7 q7
      obtain ⟨e0, e1, e2, e3, y0, y1, y2, y3⟩ := D7.out.four
      obtain ⟨a0, a1, a2, a3, a4, a5⟩ := A7'.out.six
      go_wp2_with fail
      obtain ⟨Y, hY⟩ : ∃ Y, Y = (((w7.setCell ⟨w6.heap.size, 0, none⟩ (.slice A7 n7 c7)).setCell ⟨w6.heap.size, 1, none⟩ (.int .i64 (D'.room : Int))).setCell ⟨w6.heap.size, 2, none⟩ (.int .i64 D'.arm)).setCell ⟨w6.heap.size, 3, none⟩ (.bool D'.dead) := ⟨_, rfl⟩
      rw [← hY]
      have fY : Fr w7 Y [w6.heap.size] := by rw [hY]; exact fr_set4 _ _ _ _ _ _
      have dY : Bk Y w6.heap.size #[.slice A7 n7 c7, .int .i64 (D'.room : Int), .int .i64 D'.arm, .bool D'.dead] 36 := by rw [hY]; exact D7.out.put4 rfl _ _ _ _
      have aY := A7'.out.fr fY (by rw [List.mem_singleton]; omega)
      have KY := Lib.hid (H7.out.fr fY (fun b hb hm => by rw [List.mem_singleton] at hm; exact (Q7.out b hb).2.1 hm))
      have RY := Lib.hid (RFs.store D7.out fY R7.out)
      have BY := Lib.hid (B7.out.trans (fY.below (fun b hb => by rw [List.mem_singleton] at hb; omega) (by omega)))
      have DY := Lib.hid dY
      have AY := Lib.hid aY
      have HEND : Hid (LpD w w6.heap.size p al (k + 1) Y) := Lib.hid ⟨A7, n7, c7, bl7, D', KY.out, RY.out, DY.out, hc7, fun b hb => (Q7.out b hb).1, fun hm => (Q7.out _ hm).2.1 rfl, BY.out, HGR.out, sg⟩
      clear hY fY e0 e1 e2 e3 y0 y1 y2 y3 a0 a1 a2 a3 a4 a5 dY aY
      go_wp2_with fail
      go_roundw
      case rel => exact ⟨k + 1, by omega, by go_num, HEND.out⟩
      case measure => simp [intOf]; omega
    · have hsz : SzD D := hG.sz (by have := totA_take al k; have := HT.out; omega)
      have HTWIN := Lib.hid (twin_DK hK hsz)
      obtain ⟨e0, e1, e2, e3, _⟩ := hD.four
      have HK := Lib.hid hK
      have HR := Lib.hid hR
      have HD := Lib.hid hD
      have HG := Lib.hid hG
      have HBL := Lib.hid hbl
      have HGN := Lib.hid hg
      clear hK hR hD hG hbl hg hB hsz
      go_wp2_with fail
      refine HTWIN.out.mono ?_
      rintro e w8 ⟨q, blt, rfl, hkt, hqt, hb8⟩
      have D8 := Lib.hid (HD.out.below hb8)
      have K8 := Lib.hid (HK.out.below hb8)
      have R8B : Hid (RFs (GB (bl ++ blt)) w8 An n D.fs) := Lib.hid ((HR.out.frD (bl' := bl ++ blt) (ex := []) (Fr.of_below hb8 bl) (fun b hb => (List.mem_append.1 hb).imp id (hqt b))).gm (fun x h hm => h (List.mem_append_left _ hm)))
      have R8 := Lib.hid (HR.out.below hb8)
      have KT := Lib.hid hkt
      have QT := Lib.hid hqt
      have s8 := hb8.size
      have B8 := Lib.hid (HBW.out.trans (hb8.mono swr))
      clear e0 e1 e2 e3 hkt hqt hb8 HTWIN
      obtain ⟨e0, e1, e2, e3, _⟩ := D8.out.four
      go_upto_region 10 with (fail)
      go_cut [12, 13] (fun s12 s13 wx => ∃ g12 g13, s12 = .pointer (some ⟨g12, 0, none⟩) ∧ s13 = .pointer (some ⟨g13, 0, none⟩) ∧ g12 ≠ g13 ∧ w8.heap.size ≤ g12 ∧ w8.heap.size ≤ g13 ∧ Bk wx g12 #[.slice An n c, .int .i64 (D.room : Int), .int .i64 D.arm, .bool D.dead] 36 ∧ Bk wx g13 #[.slice An n c, .int .i64 (D.room : Int), .int .i64 D.arm, .bool D.dead] 36 ∧ Below w8.heap.size w8 wx)
      case first =>
        have hgl8 : w6.heap.size < w8.heap.size := D8.out.lt
        have hA1 : ∀ o i, (w8.alloc o).cell? ⟨w6.heap.size, i, none⟩ = w8.cell? ⟨w6.heap.size, i, none⟩ := fun o i => ((Below.refl w8.heap.size w8).alloc (Nat.le_refl _) o).cell (p := ⟨w6.heap.size, i, none⟩) hgl8
        have hA2 : ∀ o o' i, ((w8.alloc o).alloc o').cell? ⟨w6.heap.size, i, none⟩ = w8.cell? ⟨w6.heap.size, i, none⟩ := fun o o' i => (((Below.refl w8.heap.size w8).alloc (Nat.le_refl _) o).alloc (by simp) o').cell (p := ⟨w6.heap.size, i, none⟩) hgl8
        obtain ⟨X8, hX8⟩ : ∃ X8, X8 = ((w8.alloc (.cells #[.slice An n c, .int .i64 (D.room : Int), .int .i64 D.arm, .bool D.dead] 36)).alloc (.cells #[.slice An n c, .int .i64 (D.room : Int), .int .i64 D.arm, .bool D.dead] 36)).drew := ⟨_, rfl⟩
        have h12 : Bk X8 w8.heap.size #[.slice An n c, .int .i64 (D.room : Int), .int .i64 D.arm, .bool D.dead] 36 := by
          have this : Bk ((w8.alloc (.cells #[.slice An n c, .int .i64 (D.room : Int), .int .i64 D.arm, .bool D.dead] 36)).alloc (.cells #[.slice An n c, .int .i64 (D.room : Int), .int .i64 D.arm, .bool D.dead] 36)) w8.heap.size #[.slice An n c, .int .i64 (D.room : Int), .int .i64 D.arm, .bool D.dead] 36 := (Bk.new w8 _ _).below ((Below.refl _ _).alloc (Nat.le_refl _) _)
          rw [hX8]
          exact this
        have h13 : Bk X8 (w8.heap.size + 1) #[.slice An n c, .int .i64 (D.room : Int), .int .i64 D.arm, .bool D.dead] 36 := by
          rw [hX8]
          have := Bk.new (w8.alloc (.cells #[.slice An n c, .int .i64 (D.room : Int), .int .i64 D.arm, .bool D.dead] 36)) #[.slice An n c, .int .i64 (D.room : Int), .int .i64 D.arm, .bool D.dead] 36
          simp only [World.size_alloc] at this
          exact this
        have bX8 : Below w8.heap.size w8 X8 := by rw [hX8]; exact (((Below.refl _ _).alloc (Nat.le_refl _) _).alloc (by simp) _).drew
        rw [hX8] at h12 h13 bX8
        have H12 := Lib.hid h12
        have H13 := Lib.hid h13
        have BX8 := Lib.hid bX8
        clear hX8 h12 h13 bX8
        go_region
        all_goals
          go_wp2_with fail
          go_meet
          first
            | exact ⟨w8.heap.size, w8.heap.size + 1, rfl, rfl, by omega, by omega, by omega, H12.out, H13.out, BX8.out⟩
            | exact ⟨w8.heap.size + 1, w8.heap.size, rfl, rfl, by omega, by omega, by omega, H13.out, H12.out, BX8.out⟩
      case rest =>
        obtain ⟨g12, g13, rfl, rfl, hgne, hg12, hg13, hb12, hb13, hbx⟩ := hcut
        have hgl8 : w6.heap.size < w8.heap.size := D8.out.lt
        have hGW : ∀ g ∈ [w6.heap.size, g12, g13], w.heap.size ≤ g := fun g hg => by
          simp only [List.mem_cons, List.not_mem_nil, or_false] at hg
          rcases hg with e | e | e <;> omega
        have HGW := Lib.hid hGW
        have hsep0 : SepT w.heap.size blt bl [w6.heap.size, g12, g13] := by
          refine ⟨fun b hb => ?_, fun b hb => ?_⟩
          · have h1 := QT.out b hb
            have h2 := KT.out.lt b hb
            refine ⟨by omega, fun hm => ?_, fun hm => by have := HK.out.lt b hm; omega⟩
            simp only [List.mem_cons, List.not_mem_nil, or_false] at hm
            rcases hm with e | e | e
            · have := HD.out.lt; omega
            · omega
            · omega
          · have h2 := HK.out.lt b hb
            refine ⟨HBL.out b hb, fun hm => ?_⟩
            simp only [List.mem_cons, List.not_mem_nil, or_false] at hm
            rcases hm with e | e | e
            · exact HGN.out (by rw [← e]; exact hb)
            · omega
            · omega
        have r8 : RFs (GB (bl ++ blt)) w8 An n D.fs := R8B.out
        have hst : SD wc q blt bl g12 An n c D := ⟨KT.out.below hbx, (r8.below hbx).gm gb_swap, hb12, hc⟩
        have hsd : SD wc p bl blt w6.heap.size An n c D := ⟨K8.out.below hbx, r8.below hbx, D8.out.below hbx, hc⟩
        have hgb0 : ∀ g ∈ [w6.heap.size, g12, g13], g < wc.heap.size := fun g hg => by
          have := hbx.size
          simp only [List.mem_cons, List.not_mem_nil, or_false] at hg
          rcases hg with e | e | e
          · omega
          · rw [e]; exact hb12.lt
          · rw [e]; exact hb13.lt
        have HL2 : Hid (∃ (blt : List Nat) (Dt : DS) (Ax : Option Addr) (nx cx : Nat), SD wc q blt bl g12 Ax nx cx Dt ∧ SD wc p bl blt w6.heap.size An n c D ∧ Bk wc g13 #[.slice An n c, .int .i64 (D.room : Int), .int .i64 D.arm, .bool D.dead] 36 ∧ SepT w.heap.size blt bl [w6.heap.size, g12, g13] ∧ Below w.heap.size w wc ∧ Grw Dt (totA (al.take k) + totA (ml.take 0)) ∧ ∀ g ∈ [w6.heap.size, g12, g13], g < wc.heap.size) :=
          Lib.hid ⟨blt, D, An, n, c, hst, hsd, hb13, hsep0, B8.out.trans (hbx.mono (by have := B8.out.size; omega)), HG.out.mono (by omega), hgb0⟩
        clear hst hsd hsep0 hb12 hb13 hbx r8 hgb0 hGW e0 e1 e2 e3 D8 K8 R8 KT QT HK HR HD HBL HGN R8B B8
        go_wp2_with fail
        go_loopw [47] (fun s wr => ∃ k2 : Nat, k2 ≤ lb ∧ s = .int .i64 (k2 : Int) ∧ ∃ (blt : List Nat) (Dt : DS) (Ax : Option Addr) (nx cx : Nat), SD wr q blt bl g12 Ax nx cx Dt ∧ SD wr p bl blt w6.heap.size An n c D ∧ Bk wr g13 #[.slice An n c, .int .i64 (D.room : Int), .int .i64 D.arm, .bool D.dead] 36 ∧ SepT w.heap.size blt bl [w6.heap.size, g12, g13] ∧ Below w.heap.size w wr ∧ Grw Dt (totA (al.take k) + totA (ml.take k2)) ∧ ∀ g ∈ [w6.heap.size, g12, g13], g < wr.heap.size) (fun s _ => lb - (intOf s).toNat)
        case atStart => exact ⟨0, Nat.zero_le _, rfl, HL2.out⟩
        case round =>
          obtain ⟨k2, hk2, rfl, blt, Dt, Ax, nx, cx, h1, h2, hb3, hsep, hB, hG, hgb⟩ := hrel
          have HB3 := Lib.hid hb3
          clear hb3

          have swr := hB.size
          have HBW := Lib.hid hB
          by_cases hlt : k2 < lb
          · have hXr := HY.out.below hB
            obtain ⟨b, off, rfl, hbw⟩ := hXr.pos (by omega)
            obtain ⟨a, v0, v1, v2, v3, v4, v5, ha, m0, m1, m2, m3, m4, m5, hav⟩ := hXr.at_ k2 hlt
            have hsa := szA_of ha HT2.out
            have hts := totA_take ml (k2 + 1)
            have htn := totA_snoc ha
            have hgr := grw_do hG h1.1.up (a := a)
            rw [show totA (al.take k) + totA (ml.take k2) + (wA a + 1) = totA (al.take k) + totA (ml.take (k2 + 1)) by omega] at hgr
            have htk := totA_take ml k2
            have ht2 := HT2.out
            have hta := totA_take al k
            have hT1 := HT.out
            have HSZ := Lib.hid (hG.sz (by omega))
            obtain ⟨D', hD'⟩ : ∃ D', D' = doD Dt a := ⟨_, rfl⟩
            rw [← hD'] at hgr
            have HSZ' := Lib.hid (hgr.sz (by omega))
            have hg1lt : g12 < wr.heap.size := hgb g12 (by simp)
            have HSZ2 : Hid (SzD D) := Lib.hid (HG.out.sz (by have := totA_take al k; have := HT.out; omega))
            have HGR := Lib.hid hgr
            have HDD := Lib.hid hD'
            have HAV := Lib.hid hav
            obtain ⟨S, sn, sc, K, kn, kc, rfl, rfl, rfl, rfl, rfl, rfl⟩ := hav.vals
            obtain ⟨W, hW⟩ : ∃ W, W = wr.alloc (.cells #[.int .i64 a.kind, .string (tx a.name), .string (tx a.dst), .slice S sn sc, .int .i64 a.num, .slice K kn kc] 40) := ⟨_, rfl⟩
            have bW : Below wr.heap.size wr W := by rw [hW]; exact (Below.refl _ _).alloc (Nat.le_refl _) _
            have aW : Bk W wr.heap.size #[.int .i64 a.kind, .string (tx a.name), .string (tx a.dst), .slice S sn sc, .int .i64 a.num, .slice K kn kc] 40 := by rw [hW]; exact Bk.new _ _ _
            have hex : ∀ b ∈ bl, b < W.heap.size := fun b hb => Nat.lt_of_lt_of_le (h2.1.lt b hb) bW.size
            have HDO : Hid (Calls Try.prog 20 #[.pointer (some ⟨q, 0, none⟩), .agg #[.slice Ax nx cx, .int .i64 (Dt.room : Int), .int .i64 Dt.arm, .bool Dt.dead], .agg #[.int .i64 a.kind, .string (tx a.name), .string (tx a.dst), .slice S sn sc, .int .i64 a.num, .slice K kn kc]] W (RetDo W q blt bl D')) := Lib.hid (by
              rw [HDD.out]
              exact do_any (h1.1.below bW) (h1.2.1.below bW) h1.2.2.2 HSZ.out (HAV.out.below (bW.mono swr)) (fun b hb => (hsep.1 b hb).1) hex hsa)
            have BBW := Lib.hid bW
            have HH1 := Lib.hid h1
            have HH2 := Lib.hid h2
            have HSEP := Lib.hid hsep
            have AW := Lib.hid aW
            have sW2 : wr.heap.size < W.heap.size := aW.lt
            have hg1n : Hid (g12 ∉ blt) := Lib.hid (fun hm => (hsep.1 _ hm).2.1 (by simp))
            have hanb : Hid (wr.heap.size ∉ blt) := Lib.hid (fun hm => by have := h1.1.lt _ hm; omega)
            obtain ⟨e0, e1, e2, e3, _⟩ := (h1.below bW).cells
            obtain ⟨a0, a1, a2, a3, a4, a5⟩ := aW.six
            rw [hW] at e0 e1 e2 e3 a0 a1 a2 a3 a4 a5
            have HGB := Lib.hid hgb
            clear hB hG hgr hD' hav hXr ha hts htn htk hta hT1 aW bW h1 h2 hsep hex hgb
            go_wp2_with fail
            rw [← hW]
            refine HDO.out.mono ?_
            rintro e w7 ⟨A7, n7, c7, bl7, rfl, h7, r7, hc7, f7, q7⟩
            clear e0 e1 e2 e3 a0 a1 a2 a3 a4 a5
            have DN : Hid (Dn W q blt bl A7 n7 c7 bl7 D' w7) := Lib.hid ⟨h7, r7, hc7, f7, q7⟩
            have s7 := f7.size
            clear h7 r7 f7 q7
            obtain ⟨e0, e1, e2, e3, y0, y1, y2, y3⟩ := (DN.out.box (HH1.out.below BBW.out).2.2.1 hg1n.out).four
            obtain ⟨a0, a1, a2, a3, a4, a5⟩ := (DN.out.box AW.out hanb.out).six
            go_wp2_with fail
            obtain ⟨Y, hY⟩ : ∃ Y, Y = (((w7.setCell ⟨g12, 0, none⟩ (.slice A7 n7 c7)).setCell ⟨g12, 1, none⟩ (.int .i64 (D'.room : Int))).setCell ⟨g12, 2, none⟩ (.int .i64 D'.arm)).setCell ⟨g12, 3, none⟩ (.bool D'.dead) := ⟨_, rfl⟩
            rw [← hY]
            obtain ⟨sd1, sd2, sep2, fY⟩ := two_step (gs := [w6.heap.size, g12, g13]) HH1.out HH2.out HSEP.out (by simp) (by simp) (by omega) HGB.out BBW.out DN.out hY swr
            have aY : Bk Y wr.heap.size #[.int .i64 a.kind, .string (tx a.name), .string (tx a.dst), .slice S sn sc, .int .i64 a.num, .slice K kn kc] 40 := by
              rw [hY]
              exact (DN.out.box AW.out hanb.out).fr (fr_set4 _ _ _ _ _ _) (by rw [List.mem_singleton]; have := HGB.out g12 (by simp); omega)
            have SD1 := Lib.hid sd1
            have SD2 := Lib.hid sd2
            have SEP2 := Lib.hid sep2
            have FY := Lib.hid fY
            have AY := Lib.hid aY
            have sY := fY.size
            have BY := Lib.hid (HBW.out.trans (fY.below (fun b hb => by rcases List.mem_cons.1 hb with e | e; rw [e]; have := HGW.out g12 (by simp); omega; exact (HSEP.out.1 b e).1) swr))
            clear hY e0 e1 e2 e3 y0 y1 y2 y3 a0 a1 a2 a3 a4 a5
            obtain ⟨e0, e1, e2, e3, _⟩ := sd1.cells
            obtain ⟨a0, a1, a2, a3, a4, a5⟩ := aY.six
            clear aY sd1 sd2 sep2 fY
            refine (same_any a.name a.dst SD1.out.1 SD1.out.2.1 HSZ'.out hsa.1 hsa.2.1).mono ?_
            rintro e w8' ⟨rfl, b8⟩
            have s8' := b8.size
            have B8' := Lib.hid b8
            obtain ⟨e0', e1', e2', e3', _⟩ := (SD2.out.below b8).cells
            obtain ⟨a0', a1', a2', a3', a4', a5'⟩ := (AY.out.below b8).six
            clear e0 e1 e2 e3 a0 a1 a2 a3 a4 a5 b8
            go_wp2_with fail
            refine (same_any a.name a.dst (SD2.out.below B8'.out).1 (SD2.out.below B8'.out).2.1 HSZ2.out hsa.1 hsa.2.1).mono ?_
            rintro e w9 ⟨rfl, b9⟩
            have B9 := Lib.hid b9
            have s9 := b9.size
            clear b9
            have HEND : Hid (∃ (blt : List Nat) (Dt : DS) (Ax : Option Addr) (nx cx : Nat), SD w9 q blt bl g12 Ax nx cx Dt ∧ SD w9 p bl blt w6.heap.size An n c D ∧ Bk w9 g13 #[.slice An n c, .int .i64 (D.room : Int), .int .i64 D.arm, .bool D.dead] 36 ∧ SepT w.heap.size blt bl [w6.heap.size, g12, g13] ∧ Below w.heap.size w w9 ∧ Grw Dt (totA (al.take k) + totA (ml.take (k2 + 1))) ∧ ∀ g ∈ [w6.heap.size, g12, g13], g < w9.heap.size) := Lib.hid
              ⟨bl7, D', A7, n7, c7, (SD1.out.below B8'.out).below B9.out, (SD2.out.below B8'.out).below B9.out, (((HB3.out.fr FY.out (fun hm => by rcases List.mem_cons.1 hm with e | e; exact hgne e.symm; exact (HSEP.out.1 _ e).2.1 (by simp))).below B8'.out).below B9.out), SEP2.out, (BY.out.trans (B8'.out.mono (by have := BY.out.size; omega))).trans (B9.out.mono (by have := BY.out.size; omega)), HGR.out, fun g hg => by have := HGB.out g hg; omega⟩
            go_wp2_with fail
            go_roundw
            case rel => exact ⟨k2 + 1, by omega, by go_num, HEND.out⟩
            case measure => simp [intOf]; omega
          · have HH1 := Lib.hid h1
            have HH2 := Lib.hid h2
            have HSEP := Lib.hid hsep
            have HGB := Lib.hid hgb
            have HGT := Lib.hid hG
            have HL3 : Hid (∃ (bl : List Nat) (D : DS) (Ay : Option Addr) (ny cy : Nat), SD wr p bl blt g13 Ay ny cy D ∧ SD wr q blt bl g12 Ax nx cx Dt ∧ SepT w.heap.size bl blt [w6.heap.size, g12, g13] ∧ Below w.heap.size w wr ∧ Grw D (totA (al.take k) + totA (ml.take 0)) ∧ ∀ g ∈ [w6.heap.size, g12, g13], g < wr.heap.size) :=
              Lib.hid ⟨bl, D, An, n, c, ⟨h2.1, h2.2.1, HB3.out, h2.2.2.2⟩, h1, hsep.swap, hB, HG.out.mono (by omega), hgb⟩
            have hszT : Hid (SzD Dt) := Lib.hid (hG.sz (by have := totA_take al k; have := HT.out; have := totA_take ml k2; have := HT2.out; omega))
            clear h1 h2 hsep hgb hG hB HB3 HBW HG
            go_wp2_with fail
            go_loopw [83] (fun s wr => ∃ k2 : Nat, k2 ≤ lb ∧ s = .int .i64 (k2 : Int) ∧ ∃ (bl : List Nat) (D : DS) (Ay : Option Addr) (ny cy : Nat), SD wr p bl blt g13 Ay ny cy D ∧ SD wr q blt bl g12 Ax nx cx Dt ∧ SepT w.heap.size bl blt [w6.heap.size, g12, g13] ∧ Below w.heap.size w wr ∧ Grw D (totA (al.take k) + totA (ml.take k2)) ∧ ∀ g ∈ [w6.heap.size, g12, g13], g < wr.heap.size) (fun s _ => lb - (intOf s).toNat)
            case atStart => exact ⟨0, Nat.zero_le _, rfl, HL3.out⟩
            case round =>
              clear HL3 HL2 HL0 swr
              obtain ⟨k2', hk2', rfl, bl', D3, Ay, ny, cy, h1, h2, hsep, hB, hG, hgb⟩ := hrel

              have swr := hB.size
              have HBW := Lib.hid hB
              by_cases hlt : k2' < lb
              · have hXr := HY.out.below hB
                obtain ⟨b, off, rfl, hbw⟩ := hXr.pos (by omega)
                obtain ⟨a, v0, v1, v2, v3, v4, v5, ha, m0, m1, m2, m3, m4, m5, hav⟩ := hXr.at_ k2' hlt
                have hsa := szA_of ha HT2.out
                have hts := totA_take ml (k2' + 1)
                have htn := totA_snoc ha
                have hgr := grw_do hG h1.1.up (a := a)
                rw [show totA (al.take k) + totA (ml.take k2') + (wA a + 1) = totA (al.take k) + totA (ml.take (k2' + 1)) by omega] at hgr
                have htk := totA_take ml k2'
                have ht2 := HT2.out
                have hta := totA_take al k
                have hT1 := HT.out
                have HSZ := Lib.hid (hG.sz (by omega))
                obtain ⟨D', hD'⟩ : ∃ D', D' = doD D3 a := ⟨_, rfl⟩
                rw [← hD'] at hgr
                have HSZ' := Lib.hid (hgr.sz (by omega))
                have hg1lt : g13 < wr.heap.size := hgb g13 (by simp)
                have HSZ2 : Hid (SzD Dt) := Lib.hid (hszT.out)
                have HGR := Lib.hid hgr
                have HDD := Lib.hid hD'
                have HAV := Lib.hid hav
                obtain ⟨S, sn, sc, K, kn, kc, rfl, rfl, rfl, rfl, rfl, rfl⟩ := hav.vals
                obtain ⟨W, hW⟩ : ∃ W, W = wr.alloc (.cells #[.int .i64 a.kind, .string (tx a.name), .string (tx a.dst), .slice S sn sc, .int .i64 a.num, .slice K kn kc] 40) := ⟨_, rfl⟩
                have bW : Below wr.heap.size wr W := by rw [hW]; exact (Below.refl _ _).alloc (Nat.le_refl _) _
                have aW : Bk W wr.heap.size #[.int .i64 a.kind, .string (tx a.name), .string (tx a.dst), .slice S sn sc, .int .i64 a.num, .slice K kn kc] 40 := by rw [hW]; exact Bk.new _ _ _
                have hex : ∀ b ∈ blt, b < W.heap.size := fun b hb => Nat.lt_of_lt_of_le (h2.1.lt b hb) bW.size
                have HDO : Hid (Calls Try.prog 20 #[.pointer (some ⟨p, 0, none⟩), .agg #[.slice Ay ny cy, .int .i64 (D3.room : Int), .int .i64 D3.arm, .bool D3.dead], .agg #[.int .i64 a.kind, .string (tx a.name), .string (tx a.dst), .slice S sn sc, .int .i64 a.num, .slice K kn kc]] W (RetDo W p bl' blt D')) := Lib.hid (by
                  rw [HDD.out]
                  exact do_any (h1.1.below bW) (h1.2.1.below bW) h1.2.2.2 HSZ.out (HAV.out.below (bW.mono swr)) (fun b hb => (hsep.1 b hb).1) hex hsa)
                have BBW := Lib.hid bW
                have HH1 := Lib.hid h1
                have HH2 := Lib.hid h2
                have HSEP := Lib.hid hsep
                have AW := Lib.hid aW
                have sW2 : wr.heap.size < W.heap.size := aW.lt
                have hg1n : Hid (g13 ∉ bl') := Lib.hid (fun hm => (hsep.1 _ hm).2.1 (by simp))
                have hanb : Hid (wr.heap.size ∉ bl') := Lib.hid (fun hm => by have := h1.1.lt _ hm; omega)
                obtain ⟨e0, e1, e2, e3, _⟩ := (h1.below bW).cells
                obtain ⟨a0, a1, a2, a3, a4, a5⟩ := aW.six
                rw [hW] at e0 e1 e2 e3 a0 a1 a2 a3 a4 a5
                have HGB := Lib.hid hgb
                clear hB hG hgr hD' hav hXr ha hts htn htk hta hT1 aW bW h1 h2 hsep hex hgb
                go_wp2_with fail
                rw [← hW]
                refine HDO.out.mono ?_
                rintro e w7 ⟨A7, n7, c7, bl7, rfl, h7, r7, hc7, f7, q7⟩
                clear e0 e1 e2 e3 a0 a1 a2 a3 a4 a5
                have DN : Hid (Dn W p bl' blt A7 n7 c7 bl7 D' w7) := Lib.hid ⟨h7, r7, hc7, f7, q7⟩
                have s7 := f7.size
                clear h7 r7 f7 q7
                obtain ⟨e0, e1, e2, e3, y0, y1, y2, y3⟩ := (DN.out.box (HH1.out.below BBW.out).2.2.1 hg1n.out).four
                obtain ⟨a0, a1, a2, a3, a4, a5⟩ := (DN.out.box AW.out hanb.out).six
                go_wp2_with fail
                obtain ⟨Y, hY⟩ : ∃ Y, Y = (((w7.setCell ⟨g13, 0, none⟩ (.slice A7 n7 c7)).setCell ⟨g13, 1, none⟩ (.int .i64 (D'.room : Int))).setCell ⟨g13, 2, none⟩ (.int .i64 D'.arm)).setCell ⟨g13, 3, none⟩ (.bool D'.dead) := ⟨_, rfl⟩
                rw [← hY]
                obtain ⟨sd1, sd2, sep2, fY⟩ := two_step (gs := [w6.heap.size, g12, g13]) HH1.out HH2.out HSEP.out (by simp) (by simp) (by omega) HGB.out BBW.out DN.out hY swr
                have aY : Bk Y wr.heap.size #[.int .i64 a.kind, .string (tx a.name), .string (tx a.dst), .slice S sn sc, .int .i64 a.num, .slice K kn kc] 40 := by
                  rw [hY]
                  exact (DN.out.box AW.out hanb.out).fr (fr_set4 _ _ _ _ _ _) (by rw [List.mem_singleton]; have := HGB.out g13 (by simp); omega)
                have SD1 := Lib.hid sd1
                have SD2 := Lib.hid sd2
                have SEP2 := Lib.hid sep2
                have FY := Lib.hid fY
                have AY := Lib.hid aY
                have sY := fY.size
                have BY := Lib.hid (HBW.out.trans (fY.below (fun b hb => by rcases List.mem_cons.1 hb with e | e; rw [e]; have := HGW.out g13 (by simp); omega; exact (HSEP.out.1 b e).1) swr))
                clear hY e0 e1 e2 e3 y0 y1 y2 y3 a0 a1 a2 a3 a4 a5
                obtain ⟨e0, e1, e2, e3, _⟩ := sd1.cells
                obtain ⟨a0, a1, a2, a3, a4, a5⟩ := aY.six
                clear aY sd1 sd2 sep2 fY
                refine (same_any a.name a.dst SD1.out.1 SD1.out.2.1 HSZ'.out hsa.1 hsa.2.1).mono ?_
                rintro e w8' ⟨rfl, b8⟩
                have s8' := b8.size
                have B8' := Lib.hid b8
                obtain ⟨e0', e1', e2', e3', _⟩ := (SD2.out.below b8).cells
                obtain ⟨a0', a1', a2', a3', a4', a5'⟩ := (AY.out.below b8).six
                clear e0 e1 e2 e3 a0 a1 a2 a3 a4 a5 b8
                go_wp2_with fail
                refine (same_any a.name a.dst (SD2.out.below B8'.out).1 (SD2.out.below B8'.out).2.1 HSZ2.out hsa.1 hsa.2.1).mono ?_
                rintro e w9 ⟨rfl, b9⟩
                have B9 := Lib.hid b9
                have s9 := b9.size
                clear b9
                have HEND : Hid (∃ (bl : List Nat) (D : DS) (Ay : Option Addr) (ny cy : Nat), SD w9 p bl blt g13 Ay ny cy D ∧ SD w9 q blt bl g12 Ax nx cx Dt ∧ SepT w.heap.size bl blt [w6.heap.size, g12, g13] ∧ Below w.heap.size w w9 ∧ Grw D (totA (al.take k) + totA (ml.take (k2' + 1))) ∧ ∀ g ∈ [w6.heap.size, g12, g13], g < w9.heap.size) := Lib.hid
                  ⟨bl7, D', A7, n7, c7, (SD1.out.below B8'.out).below B9.out, (SD2.out.below B8'.out).below B9.out, SEP2.out, (BY.out.trans (B8'.out.mono (by have := BY.out.size; omega))).trans (B9.out.mono (by have := BY.out.size; omega)), HGR.out, fun g hg => by have := HGB.out g hg; omega⟩
                go_wp2_with fail
                go_roundw
                case rel => exact ⟨k2' + 1, by omega, by go_num, HEND.out⟩
                case measure => simp [intOf]; omega
              · have HP1 := Lib.hid h1
                have HPATH : Hid (∀ W v, Calls Try.prog 23 #[.agg #[v, .string ⟨#[112, 47]⟩], .string ⟨#[120]⟩] W fun e w' => e = .returned (.string ⟨#[112, 47, 120]⟩) ∧ Below W.heap.size W w') := Lib.hid (fun W v => Path_any v [112, 47] [120] W (by simp) (by simp))
                have BR := Lib.hid hB
                clear h1 h2 hsep hG hgb hB
                go_wp2_with fail
                obtain ⟨V, hV⟩ : ∃ V, V = wr.alloc (.cells #[.pointer (some ⟨p, 0, none⟩), .string ⟨#[112, 47]⟩] 47) := ⟨_, rfl⟩
                have bV : Below wr.heap.size wr V := by rw [hV]; exact (Below.refl _ _).alloc (Nat.le_refl _) _
                have nV : Bk V wr.heap.size #[.pointer (some ⟨p, 0, none⟩), .string ⟨#[112, 47]⟩] 47 := by rw [hV]; exact Bk.new _ _ _
                rw [← hV]
                refine (HPATH.out _ _).mono ?_
                rintro e wp ⟨rfl, bp⟩
                have n0 := (nV.below bp).cell 0
                have HUS : Hid (∀ W, DK W p bl' D3 → Calls Try.prog 15 #[.pointer (some ⟨p, 0, none⟩)] W fun e' w' => e' = .returned (.int .i64 (usedF D3.fs : Int)) ∧ W = w') := Lib.hid (fun W hk => used_DK hk)
                have KP := Lib.hid ((HP1.out.1.below bV).below bp)
                have BP := Lib.hid ((BR.out.trans (bV.mono (by have := BR.out.size; omega))).trans (bp.mono (by have := BR.out.size; have := bV.size; omega)))
                simp at n0
                clear hV bV nV bp
                go_wp2_with fail
                refine (HUS.out _ KP.out).mono ?_
                rintro e wq ⟨rfl, hwq⟩
                have KQ : DK wq p bl' D3 := by rw [← hwq]; exact KP.out
                have BQ : Below w.heap.size w wq := by rw [← hwq]; exact BP.out
                have KQ := Lib.hid KQ
                have BQ := Lib.hid BQ
                clear hwq
                go_wp2_with fail
                refine (HUS.out _ KQ.out).mono ?_
                rintro e wz ⟨rfl, hwz⟩
                have BZ : Below w.heap.size w wz := by rw [← hwz]; exact BQ.out
                have BZ := Lib.hid BZ
                clear hwz
                go_wp2_with fail
                go_ret
                exact ⟨rfl, BZ.out⟩
end Go.Proofs.Ytjpnfhfeabdhiaa
namespace Go.Proofs.Ytjpnfhfeabdhiaa.diskTwinsUptoRow
open Go Go.ChangeShapes Go.WideShapes Go.ChangeAt Go.RowKit Go.Deep
open Go.ChangeMaps (open_string shut_string)
set_option linter.unusedVariables false

theorem own : ownKnob Try.prog.godebug = none := by kernel_rfl
theorem laidOut : laidOutB Try.prog = true := by kernel_rfl

set_option maxRecDepth 100000 in
theorem contract (H : Type) (enc : TypeId × Value → H) (W : World) (base : Nat) (args : Array Value) (ds gs : List (DataW H)) (before : List MemPlace)
    (hval0 : ∀ (j : Nat) t v, Try.f4.params[j]? = some t → args[j]? = some v → Value.okWide Try.prog W .any base t v)
    (hW : DataW.Whole enc Try.prog Try.f4.params.toList Rows.diskTwinsSpec.vars false W args.toList ds gs before)
    (hk : Rows.uptoSmall H (ds ++ gs) = true) :
    Calls Try.prog 4 args W fun e W' => ∃ v, e = .returned v ∧ Rows.diskTwinsSpec.post enc Try.prog Try.f4 false true false false W args v W' := by
  have hval : ∀ (j : Nat) t v, Try.f4.params[j]? = some t → args[j]? = some v → Value.okWide Try.prog W .any base t v := hval0
  have hW' := hW
  obtain ⟨p, q, hA0, hV, rfl, hfz, hnd⟩ := hW
  have hA : DataW.TrodAll enc Try.prog W 0 (fun _ => true) true Try.f4.params.toList args.toList ds p := hA0
  rw [Try.params4] at hA hval
  obtain ⟨v0, vs0, d0, ds0, p0, q0, hargs, rfl, rfl, h0, r0⟩ := trodAll_cons hA
  obtain ⟨v1, vs1, d1, ds1, p1, q1, rfl, rfl, rfl, h1, r1⟩ := trodAll_cons r0
  obtain ⟨v2, vs2, d2, ds2, p2, q2, rfl, rfl, rfl, h2, r2⟩ := trodAll_cons r1
  obtain ⟨rfl, rfl, rfl⟩ := trodAll_nil r2
  obtain rfl : args = #[v0, v1, v2] := by cases args; simp_all
  obtain ⟨rfl, rfl⟩ := trodVars_none hV
  have hb := bulkOf hk
  have sz1 : Rows.uptoBulk d1 ≤ 1048576 := Nat.le_trans (part_bulk (d := d1) (l := [d0, d1, d2] ++ []) (by simp)) hb
  have sz2 : Rows.uptoBulk d2 ≤ 1048576 := Nat.le_trans (part_bulk (d := d2) (l := [d0, d1, d2] ++ []) (by simp)) hb
  obtain ⟨a0, rfl, rfl, rfl, w0⟩ := open_int Try.underlying3 (hval 0 3 v0 rfl rfl) h0
  obtain ⟨A1, len1, cap1, rfl⟩ := okWide_slice Try.underlying22 (hval 1 22 v1 rfl rfl)
  have k1 := h1
  have lt1 : ∀ x ∈ p1, x.block < W.heap.size := by obtain ⟨m, hm⟩ := k1; exact DataW.trod_lt m _ _ _ hm
  obtain ⟨al1, rd1, lc1, ta1⟩ : ∃ al1, RAs W W.heap.size A1 len1 al1 ∧ len1 ≤ cap1 ∧ totA al1 ≤ 1048576 := by
    obtain ⟨fuel, hf⟩ := h1
    obtain ⟨al, h1, h2, h3⟩ := acts_of (len := len1) (cap := cap1) (A := A1) hf
    exact ⟨al, h1, h2, Nat.le_trans h3 sz1⟩
  obtain ⟨A2, len2, cap2, rfl⟩ := okWide_slice Try.underlying22 (hval 2 22 v2 rfl rfl)
  have k2 := h2
  have lt2 : ∀ x ∈ p2, x.block < W.heap.size := by obtain ⟨m, hm⟩ := k2; exact DataW.trod_lt m _ _ _ hm
  obtain ⟨al2, rd2, lc2, ta2⟩ : ∃ al2, RAs W W.heap.size A2 len2 al2 ∧ len2 ≤ cap2 ∧ totA al2 ≤ 1048576 := by
    obtain ⟨fuel, hf⟩ := h2
    obtain ⟨al, h1, h2, h3⟩ := acts_of (len := len2) (cap := cap2) (A := A2) hf
    exact ⟨al, h1, h2, Nat.le_trans h3 sz2⟩
  clear hA0 hval0
  refine (diskTwins_row a0 A1 len1 cap1 al1 A2 len2 cap2 al2 W w0 rd1 ta1 rd2 ta2).mono fun e W' ⟨he, bel⟩ => ?_
  subst he
  exact ⟨_, rfl, _, _, _, [], _, [], hW', trodAll_mk1 (shut_bool Try.underlying4 _), (trodAll_cons_mk (shut_int Try.underlying3 w0) (trodAll_cons_mk (Below.trod laidOut (by kernel_rfl) (of_decide_eq_true (by kernel_rfl)) k1 bel lt1) (trodAll_cons_mk (Below.trod laidOut (by kernel_rfl) (of_decide_eq_true (by kernel_rfl)) k2 bel lt2) trodAll_mk0))), rfl, bel.frame _, fun h => by cases h⟩

set_option maxRecDepth 100000 in
theorem lifted (os : Os) (started : os.Started) (H : Type) (enc : TypeId × Value → H) (F : Stop.Interp) :
    ReturnsInHanded {} Try.checked os 4 .any ((Rows.OpenSpec.upto Rows.diskTwinsSpec).pre6 enc Try.prog Try.f4 Rows.diskTwinsUptoRow.domain false) (((Rows.OpenSpec.upto Rows.diskTwinsSpec).at F).post enc Try.prog Try.f4 false true false false) := by
  refine returnsInHanded_of_cond (C := Try.checked) (s := Rows.OpenSpec.upto Rows.diskTwinsSpec) (k := Rows.uptoSmall) rfl own started (by kernel_rfl) Try.func4
    (OpenSpec.witness (enc := enc) (C := Try.checked) (s := Rows.OpenSpec.upto Rows.diskTwinsSpec) (k := Rows.uptoSmall) rfl false ⟨#[], #[.int .i64 0, .slice none 0 0, .slice none 0 0], []⟩ 8 (by kernel_rfl) (by kernel_rfl) (by kernel_rfl)
      (x := ([.lit (.int .i64 0), .nil, .nil], [], [])) (by kernel_rfl) rfl (by kernel_rfl)) ?_
  intro W base args ds gs before hval hW _ hk _
  exact contract H enc W base args ds gs before hval hW hk

theorem over : Rows.diskTwinsUptoRow.holds Try.pinned (Rows.OpenSpec.upto Rows.diskTwinsSpec) :=
  OpenClaim.holds_of_cond 4 Try.f4 rfl rfl rfl rfl rfl rfl rfl ⟨rfl, rfl, rfl, rfl, rfl⟩ rfl rfl rfl rfl rfl (by kernel_rfl) Try.func4 (by kernel_rfl)
    (of_decide_eq_true (by kernel_rfl)) (by unfold Func.isWrapper; first | (rw [if_pos (by decide +kernel)]; kernel_rfl) | (rw [if_neg (by decide +kernel)]; exact ⟨rfl, rfl⟩))
    (fun os started H enc _ F => lifted os started H enc F)

/-- THE STATEMENT -/
theorem proved : Rows.DiskTwinsUptoSaid := over
#print axioms proved
end Go.Proofs.Ytjpnfhfeabdhiaa.diskTwinsUptoRow
