/- A filter: May. No condition but sizes. -/
import Derived.Test.YtlnpicfkcahdbaaGreatBlC
namespace Go.Proofs.YtlnpicfkcahdbaaGreat
open Go Go.RowKit Go.Shelf
attribute [local go_sem] Oper.semAt_some

/-- Is this bit of the filter set? -/
def setB (fs : List UInt8) (b : Nat) : Bool := match fs[b / 8]? with
  | some x => decide (x.toNat / 2 ^ (b % 8) % 2 = 1)
  | none => false
/-- How many hashes a filter has. -/
def numB (fs : List UInt8) : Nat := match fs.getLast? with
  | some x => x.toNat
  | none => 0
/-- Are all of the key's bits set? -/
def allBt (fs key : List UInt8) (m : Nat) : Bool := (List.range (numB fs)).all fun i => setB fs (bitN key m i)
def mayB (fs key : List UInt8) : Bool × Int := if goodB fs then (allBt fs key (8 * (fs.length - 1)), 0) else (false, 3)
theorem bit_and (x j : Nat) (hx : x < 256) (hj : j < 8) : bits .and .u8 (x : Int) ((2 ^ j : Nat) : Int) = if x / 2 ^ j % 2 = 1 then ((2 ^ j : Nat) : Int) else 0 := by
  have hp : 2 ^ j < 256 := Nat.lt_of_lt_of_le (Nat.pow_lt_pow_right (by omega) hj) (by decide)
  rw [u8_and_nat x (2 ^ j) hx hp]
  have h1 : x &&& 2 ^ j = if x.testBit j then 2 ^ j else 0 := by
    apply Nat.eq_of_testBit_eq
    intro i
    rw [Nat.testBit_and, Nat.testBit_two_pow]
    by_cases e : j = i
    · subst e
      cases h : x.testBit j <;> simp
    · cases h : x.testBit j <;> simp [e]
  rw [h1, Nat.testBit_eq_decide_div_mod_eq]
  by_cases h : x / 2 ^ j % 2 = 1
  · rw [if_pos h, if_pos (by simpa using h)]
  · rw [if_neg h, if_neg (by simpa using h)]
    rfl
def RetMy (w : World) (z : Bool × Int) (e : Ending) (w' : World) : Prop := e = .returned (.tuple #[.bool z.1, .int .i64 z.2]) ∧ Below w.heap.size w w'
theorem RetMy.out {w : World} {z : Bool × Int} {e : Ending} {w' : World} (h : RetMy w z e w') : e = .returned (.tuple #[.bool z.1, .int .i64 z.2]) ∧ Below w.heap.size w w' := h
set_option maxRecDepth 100000 in
set_option maxHeartbeats 8000000 in
theorem may_bad (A : Option Addr) (n c : Nat) (fs : List UInt8) (K : Option Addr) (kn kc : Nat) (w : World) (h : Rd w A n fs) (hn : n ≤ 140737488351232) (hg : goodB fs = false) :
    Calls Tryz.prog 21 #[.slice A n c, .slice K kn kc] w (RetMy w (false, 3)) := by
  obtain ⟨W, hW⟩ : ∃ W, W = ((w.alloc (.cells #[.slice A n c] 28)).alloc (.cells #[.bool false] 4)).alloc (.cells #[.int .i64 0] 32) := ⟨_, rfl⟩
  have bW : Below w.heap.size w W := by rw [hW]; exact (((Below.refl _ _).alloc (Nat.le_refl _) _).alloc (by simp) _).alloc (by simp; omega) _
  have HIF : Hid (Calls Tryz.prog 59 #[.slice A n c] W (RetBo W false)) := Lib.hid (by rw [← hg]; exact inForm9_any A n c fs W (h.below bW) hn)
  clear h bW
  go_enter Tryz.func21, Tryz.ntmps21
  go_wp2_with fail
  rw [← hW]
  with_reducible refine HIF.out.mono ?_
  rintro e w' ⟨rfl, rfl⟩
  rw [hW]
  go_wp2_with fail
  refine bodyPost_ret (v := .tuple #[.bool false, .int .i64 3]) (by simp [results, Tryz.f21, go_sem]; try rfl) rfl ⟨rfl, ?_⟩
  exact (((Below.refl _ _).alloc (Nat.le_refl _) _).alloc (by simp) _).alloc (by simp; omega) _
set_option maxRecDepth 100000 in
set_option maxHeartbeats 16000000 in
theorem may_good (A : Option Addr) (n c : Nat) (fs : List UInt8) (K : Option Addr) (kn kc : Nat) (key : List UInt8) (w : World) (h : Rd w A n fs) (hn : n ≤ 140737488351232) (hk : Rd w K kn key) (hkn : kn ≤ maxLen) (hg : goodB fs = true) :
    Calls Tryz.prog 21 #[.slice A n c, .slice K kn kc] w (RetMy w (allBt fs key (8 * (n - 1)), 0)) := by
  have hl := h.len
  have h2 : 2 ≤ n := by
    rcases Nat.lt_or_ge n 2 with h | h
    · rw [goodB_short (by omega)] at hg; cases hg
    · exact h
  obtain ⟨b, off, rfl, hbl⟩ := h.pos (by omega)
  obtain ⟨x, hx1, hx2, hx3⟩ := h.at_ (n - 1) (by omega)
  have hnum : numB fs = x.toNat := by
    unfold numB
    rw [List.getLast?_eq_getElem?, hl, hx1]
  have hcells : ∀ i, i < n → ∃ y, fs[i]? = some y ∧ w.cell? ⟨b, off + i, none⟩ = some (.int .u8 (y.toNat : Int)) := fun i hi => by
    obtain ⟨y, e1, e2, _⟩ := h.at_ i hi
    exact ⟨y, e1, e2⟩
  have HCE := Lib.hid hcells
  obtain ⟨m, hm⟩ : ∃ m, m = 8 * (n - 1) := ⟨_, rfl⟩
  have hm0 : 0 < m := by omega
  obtain ⟨W, hW⟩ : ∃ W, W = ((w.alloc (.cells #[.slice (some ⟨b, off, none⟩) n c] 28)).alloc (.cells #[.bool false] 4)).alloc (.cells #[.int .i64 0] 32) := ⟨_, rfl⟩
  have bW : Below w.heap.size w W := by rw [hW]; exact (((Below.refl _ _).alloc (Nat.le_refl _) _).alloc (by simp) _).alloc (by simp; omega) _
  have sW : W.heap.size = w.heap.size + 3 := by rw [hW]; simp
  have kW : Cl W w.heap.size #[.slice (some ⟨b, off, none⟩) n c] 28 := by rw [hW]; exact ((Cl.new _ _ _).alloc _).alloc _
  have k1 : Cl W (w.heap.size + 1) #[.bool false] 4 := by rw [hW]; exact (Cl.newg _ _ _ _ (by simp)).alloc _
  have k2 : Cl W (w.heap.size + 1 + 1) #[.int .i64 0] 32 := by rw [hW]; exact Cl.newg _ _ _ _ (by simp)
  have HIF : Hid (Calls Tryz.prog 59 #[.slice (some ⟨b, off, none⟩) n c] W (RetBo W true)) := Lib.hid (by rw [← hg]; exact inForm9_any _ n c fs W (h.below bW) hn)
  have HBT : Hid (Calls Tryz.prog 58 #[.slice (some ⟨b, off, none⟩) n c, .slice K kn kc] W (RetIt W K kn kc m x.toNat)) := Lib.hid (by rw [hm]; exact bitsOf_any _ n c fs K kn kc W (h.below bW) (by omega) hn x hx1)
  have HK := Lib.hid (hk.below bW)
  have HNU := Lib.hid hnum
  have cW := kW.cell 0
  have hx255 : x.toNat ≤ 255 := by omega
  rw [← hm]
  clear h hk hx1 hx2 hx3 hcells hnum hg hl
  refine (callsIn_wide (n := 5)).1 ?_
  refine callsIn_of_wp_marks Tryz.func21 rfl trivial ?_ rfl
  simp only [Tryz.ntmps21, List.size_toArray, List.length_cons, List.length_nil, Nat.reduceAdd, Nat.reduceSub, Array.replicate_succ, Array.replicate_zero, List.push_toArray, List.append_toArray, List.nil_append, List.cons_append]
  gi_wp2_with (first | (refine ⟨trivial, ?_⟩; gi_at_call 59; rw [← hW]; refine (callsIn_wide.2 HIF.out).mono ?_; rintro e w' ⟨rfl, rfl⟩) | (refine ⟨trivial, ?_⟩; gi_at_call 58; rw [← hW]; refine (callsIn_wide.2 HBT.out).mono ?_; intro e w1 hq; obtain ⟨bk, bh, g, h1, i1, i2, i3, hgs, b1⟩ := RetIt.out hq; subst h1))
  have bw : Below w.heap.size w w1 := bW.trans (b1.mono (by omega))
  have q0 : Cl w1 w.heap.size #[.slice (some ⟨b, off, none⟩) n c] 28 := kW.below b1
  have q1 : Cl w1 (w.heap.size + 1) #[.bool false] 4 := k1.below b1
  have q2 : Cl w1 (w.heap.size + 1 + 1) #[.int .i64 0] 32 := k2.below b1
  have hg1 : g < w1.heap.size := cell_lt i3
  have hsz := b1.size
  clear hq
  refine wpIn_rangeFunc_ownF rfl (by omega) (gf := 123) (lb := #[.pointer (some ⟨bk, 0, none⟩), .pointer (some ⟨bh, 0, none⟩), .pointer (some ⟨g, 0, none⟩)]) rfl trivial (enters_of Tryz.func123 (by kernel_rfl) rfl)
    (bits_stops (5 - 1) (by omega) bk bh g K kn kc key hm0 (by omega) x.toNat hx255 w1 i1 i2 i3 (HK.out.below b1) hkn) (fun h k => Stb.trans h k) ?kb (Below.refl _ _) (fun _ => rfl)
    (fun pre V => ((∀ y ∈ pre, setB fs y.1 = true) ∧ Cl V w.heap.size #[.slice (some ⟨b, off, none⟩) n c] 28 ∧ Cl V (w.heap.size + 1) #[.bool false] 4 ∧ Cl V (w.heap.size + 1 + 1) #[.int .i64 0] 32) ∧ Below w.heap.size w V)
    (fun cd pre V => (cd = .ret ∧ (∃ y ∈ pre, setB fs y.1 = false) ∧ Cl V (w.heap.size + 1) #[.bool false] 4 ∧ Cl V (w.heap.size + 1 + 1) #[.int .i64 0] 32) ∧ Below w.heap.size w V)
    (OwnFrom.and (Go.Own.from (fun s A B row hs hg hr => ⟨hs.1, (grownBy_keeps_cells hg hr hs.2.1 rfl).trans hs.2.1, (grownBy_keeps_cells hg hr hs.2.2.1 rfl).trans hs.2.2.1, (grownBy_keeps_cells hg hr hs.2.2.2 rfl).trans hs.2.2.2⟩) _) (ownFrom_below (Nat.le_refl _) (by omega)))
    (fun cd => OwnFrom.and (Go.Own.from (fun s A B row hs hg hr => ⟨hs.1, hs.2.1, (grownBy_keeps_cells hg hr hs.2.2.1 rfl).trans hs.2.2.1, (grownBy_keeps_cells hg hr hs.2.2.2 rfl).trans hs.2.2.2⟩) _) (ownFrom_below (Nat.le_refl _) (by omega)))
    ⟨⟨by simp, q0, q1, q2⟩, bw⟩
    (fun y => { tmps := #[.slice (some ⟨b, off, none⟩) n c, .slice K kn kc, .pointer (some ⟨w.heap.size, 0, none⟩), undef, .pointer (some ⟨w.heap.size + 1, 0, none⟩), .pointer (some ⟨w.heap.size + 1 + 1, 0, none⟩), .int .u64 (y.1 : Int), .slice (some ⟨b, off, none⟩) n c, .bool true, .bool false, .slice (some ⟨b, off, none⟩) n c, .slice K kn kc,
      .func (.func 123) #[] #[.pointer (some ⟨bk, 0, none⟩), .pointer (some ⟨bh, 0, none⟩), .pointer (some ⟨g, 0, none⟩)], .int .u64 (y.1 : Int), undef, undef, undef, undef, undef, undef, undef, undef, undef, undef], defers := [] }) ?assign ?body ?done ?stop
  case kb =>
    intro V l o o' hl _ _ _
    have hne : l ≠ g := by omega
    unfold Stb World.putObj
    simp [hne]
  case assign =>
    intro l y V K hK
    gi_wp2
    exact hK
  case body =>
    rintro l pre y V ⟨⟨hp, p0, p1, p2⟩, hB⟩ _
    obtain ⟨y, hy⟩ := y
    obtain ⟨i, j, rfl, hj⟩ : ∃ i j, y = 8 * i + j ∧ j < 8 := ⟨y / 8, y % 8, by omega, by omega⟩
    have hin : i < n := by omega
    obtain ⟨u, u1, u2⟩ := HCE.out i hin
    have cu : V.cell? ⟨b, off + i, none⟩ = some (.int .u8 (u.toNat : Int)) := (hB.cell (p := ⟨b, off + i, none⟩) hbl).trans u2
    obtain ⟨x1, x2⟩ := p1.c1
    obtain ⟨y1, y2⟩ := p2.c1
    have cp := p0.cell 0
    have e1 : (8 * (i : Int) + (j : Int)) / 8 = (i : Int) := by omega
    have e2 : (8 * (i : Int) + (j : Int)) % 8 = (j : Int) := by omega
    have hp2 : 2 ^ j < 256 := Nat.lt_of_lt_of_le (Nat.pow_lt_pow_right (by omega) hj) (by decide)
    have e3 : (2 : Int) ^ j % 256 = ((2 ^ j : Nat) : Int) := by
      rw [Int.emod_eq_of_lt (by exact_mod_cast Nat.zero_le _) (by exact_mod_cast hp2)]
      push_cast
      rfl
    have hset : setB fs (8 * i + j) = decide (u.toNat / 2 ^ j % 2 = 1) := by
      unfold setB
      rw [show (8 * i + j) / 8 = i by omega, show (8 * i + j) % 8 = j by omega, u1]
    have e4 := bit_and u.toNat j (by have := u.toNat_lt; omega) hj
    have HP := Lib.hid hp
    have HB := Lib.hid hB
    clear hp u1 u2
    by_cases hbit : u.toNat / 2 ^ j % 2 = 1
    · rw [if_pos hbit] at e4
      have hS : setB fs (8 * i + j) = true := by rw [hset]; simp [hbit]
      have hpos : 0 < 2 ^ j := Nat.pos_of_ne_zero (by simp)
      obtain ⟨M, hM⟩ : ∃ M, M = 2 ^ j := ⟨_, rfl⟩
      rw [← hM] at e3 e4 hp2 hpos
      clear hM hset hbit
      gi_wp2
      exact ⟨KeepsOthers.refl _, Stb.refl _ _, ⟨fun y hy => (List.mem_append.1 hy).elim (HP.out y) (fun e => by simp at e; subst e; exact hS), p0, p1, p2⟩, HB.out⟩
    · rw [if_neg hbit] at e4
      have hS : setB fs (8 * i + j) = false := by rw [hset]; simp [hbit]
      obtain ⟨M, hM⟩ : ∃ M, M = 2 ^ j := ⟨_, rfl⟩
      rw [← hM] at e3 e4 hp2
      clear hM hset hbit
      gi_wp2
      exact ⟨(KeepsOthers.setCell _ _ _).trans (KeepsOthers.setCell _ _ _), ⟨rfl, ⟨_, List.mem_append.2 (.inr (List.mem_singleton.2 rfl)), hS⟩, (p1.set 0 (.bool false)).off 0 _ (by omega), (p2.off 0 _ (by omega)).set 0 (.int .i64 0)⟩, (HB.out.setCell (p := ⟨w.heap.size + 1, 0, none⟩) (by simp) _).setCell (p := ⟨w.heap.size + 1 + 1, 0, none⟩) (by simp; omega) _⟩
  case done =>
    rintro D ys V hD hys ⟨⟨hall, p0, p1, p2⟩, hB⟩ hK
    obtain ⟨x1, x2⟩ := p1.c1
    obtain ⟨y1, y2⟩ := p2.c1
    gi_wp2
    have hK' := ((KeepsOthers.setCell V ⟨w.heap.size + 1, 0, none⟩ (.bool true)).trans (KeepsOthers.setCell _ ⟨w.heap.size + 1 + 1, 0, none⟩ (.int .i64 0))).same D _ hK rfl
    have z1 : Cl _ _ _ _ := (p1.set 0 (.bool true)).off (k := w.heap.size + 1 + 1) 0 (.int .i64 0) (by omega)
    have z2 : Cl _ _ _ _ := (p2.off (k := w.heap.size + 1) 0 (.bool true) (by omega)).set 0 (.int .i64 0)
    refine ⟨by simp, .inl ⟨_, _, rfl, run_takeDeferred hK', ?_⟩⟩
    have hc4 := cell_kept (z1.cell 0) (grownBy_putObj' _ D (.deferred none)) (fun r e => by cases e; exact ⟨_, hK', rfl⟩)
    have hc5 := cell_kept (z2.cell 0) (grownBy_putObj' _ D (.deferred none)) (fun r e => by cases e; exact ⟨_, hK', rfl⟩)
    have hT : allBt fs key m = true := by
      unfold allBt
      rw [List.all_eq_true]
      intro i hi
      subst hys
      exact hall ⟨bitN key m i, bitN_lt key hm0 i⟩ (List.mem_map.2 ⟨i, by rwa [HNU.out] at hi, rfl⟩)
    refine ⟨.tuple #[.bool true, .int .i64 0], ?_, by rw [hT], ((hB.setCell (p := ⟨w.heap.size + 1, 0, none⟩) (by simp) _).setCell (p := ⟨w.heap.size + 1 + 1, 0, none⟩) (by simp; omega) _).trans (belowK_b (w := w) (Nat.le_refl _) _ D _ _ (by omega) hK' rfl rfl)⟩
    simp [results, Tryz.f21, go_sem, hc4, hc5]
  case stop =>
    rintro D cd pre V hD hpre ⟨⟨rfl, hin, p1, p2⟩, hB⟩ hK
    obtain ⟨x1, x2⟩ := p1.c1
    obtain ⟨y1, y2⟩ := p2.c1
    gi_wp2
    obtain ⟨y, hy, hyf⟩ := hin
    refine ⟨by simp, .inl ⟨_, _, rfl, run_takeDeferred hK, ?_⟩⟩
    have hc4 := cell_kept x1 (grownBy_putObj' _ D (.deferred none)) (fun r e => by cases e; exact ⟨_, hK, rfl⟩)
    have hc5 := cell_kept y1 (grownBy_putObj' _ D (.deferred none)) (fun r e => by cases e; exact ⟨_, hK, rfl⟩)
    have hT : allBt fs key m = false := by
      unfold allBt
      rw [List.all_eq_false]
      obtain ⟨i, hi, rfl⟩ := List.mem_map.1 (hpre.subset hy)
      exact ⟨i, by rw [HNU.out]; exact hi, by simpa using hyf⟩
    refine ⟨.tuple #[.bool false, .int .i64 0], ?_, by rw [hT], hB.trans (belowK_b (w := w) (Nat.le_refl _) V D _ _ (by omega) hK rfl rfl)⟩
    simp [results, Tryz.f21, go_sem, hc4, hc5]
theorem may_any (A : Option Addr) (n c : Nat) (fs : List UInt8) (K : Option Addr) (kn kc : Nat) (key : List UInt8) (w : World) (h : Rd w A n fs) (hn : n ≤ 140737488351232) (hk : Rd w K kn key) (hkn : kn ≤ maxLen) :
    Calls Tryz.prog 21 #[.slice A n c, .slice K kn kc] w (RetMy w (mayB fs key)) := by
  unfold mayB
  rw [h.len]
  cases hg : goodB fs with
  | true => exact may_good A n c fs K kn kc key w h hn hk hkn hg
  | false => exact may_bad A n c fs K kn kc w h hn hg
end Go.Proofs.YtlnpicfkcahdbaaGreat
