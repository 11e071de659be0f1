/- Rows of files of three cells: a cut, an append; the reference's Used, may, Arm. No condition but sizes. -/
import Derived.Test.YtjpnfhfeabdhiaaRfB
namespace Go.Proofs.Ytjpnfhfeabdhiaa
open Go Go.RowKit Go.Maps
variable {G : Nat → Prop}

def cutA3 (A : Option Addr) (k cap : Nat) : Option Addr := if cap = k then A else A.map (·.add (k * 3))
theorem cut3_l {P : Program} {t e : TypeId} (ht : P.underlying t = some (.slice e)) (he : P.elem t = e) (hs : ∀ w, (sizeOf e).run P w = .ok 3 w)
    (A : Option Addr) {n cap k : Nat} (hk : k ≤ n) (w : World) :
    (Instr.slice t (.slice A n cap) (some (.int .i64 (k : Int))) none none).run P w = .ok (.slice (cutA3 A k cap) (n - k) (cap - k)) w := by
  subst he
  rw [run_slice_l w t A n cap ht .i64 (k : Int) (by omega) (by omega)]
  simp only [hs, Result.andThen, sliced, Int.toNat_natCast, cutA3]
theorem cut3_h {P : Program} {t e : TypeId} (ht : P.underlying t = some (.slice e)) (he : P.elem t = e) (hs : ∀ w, (sizeOf e).run P w = .ok 3 w)
    (A : Option Addr) {n cap m : Nat} (hm : m ≤ cap) (w : World) :
    (Instr.slice t (.slice A n cap) none (some (.int .i64 (m : Int))) none).run P w = .ok (.slice A m cap) w := by
  subst he
  rw [run_slice_h w t A n cap ht .i64 (m : Int) (by omega) (by omega)]
  simp only [hs, Result.andThen, sliced, Int.toNat_natCast, Nat.zero_mul, Nat.sub_zero]
  cases A <;> simp [Addr.add]
theorem size3 (w : World) : (sizeOf 153).run Try.prog w = .ok 3 w := by kernel_rfl
theorem rdv_cut3 {w : World} {A : Option Addr} {n k m cap : Nat} {vs : List Value} (h : RdV w A (n * 3) vs) (hk : k ≤ m) (hm : m ≤ n) (hc : n ≤ cap) : RdV w (cutA3 A k cap) ((m - k) * 3) ((vs.take (m * 3)).drop (k * 3)) := by
  unfold cutA3
  refine ⟨by rw [List.length_drop, List.length_take, h.1]; omega, fun hn => ?_⟩
  obtain ⟨b, off, rfl, hb, hcell⟩ := h.2 (by omega)
  rw [if_neg (by omega)]
  refine ⟨b, off + k * 3, ?_, hb, fun i x hx => ?_⟩
  · simp only [Option.map_some, Addr.add]
    split
    · next h0 => rw [h0]; rfl
    · rfl
  · rw [Nat.add_assoc]
    refine hcell (k * 3 + i) x ?_
    rw [List.getElem?_drop, List.getElem?_take] at hx
    split at hx
    · exact hx
    · cases hx
theorem RFs.take {w : World} {A : Option Addr} {n m : Nat} {fs : List FE} (h : RFs G w A n fs) (hm : m ≤ n) : ∃ us, FVs G w (fs.take m) us ∧ RdV w A (m * 3) us := by
  obtain ⟨h1, vs, h2, h3⟩ := h
  refine ⟨_, h2.take m, ?_⟩
  refine ⟨by rw [List.length_take, h3.1.1]; omega, fun hn => ?_⟩
  obtain ⟨b, off, rfl, hb, hc⟩ := h3.1.2 (by omega)
  refine ⟨b, off, rfl, hb, fun i x hx => hc i x ?_⟩
  rw [List.getElem?_take] at hx
  split at hx
  · exact hx
  · cases hx
theorem RFs.dropV {w : World} {A : Option Addr} {n k cap : Nat} {fs : List FE} (h : RFs G w A n fs) (hk : k ≤ n) (hc : n ≤ cap) : ∃ us, FVs G w (fs.drop k) us ∧ RdV w (cutA3 A k cap) ((n - k) * 3) us := by
  obtain ⟨h1, vs, h2, h3⟩ := h
  refine ⟨_, h2.drop k, ?_⟩
  have := rdv_cut3 h3.1 hk (Nat.le_refl _) hc
  rw [List.take_of_length_le (by rw [h3.1.1]; omega)] at this
  exact this
theorem info_file : (Try.prog.info? 153).map (fun i => (i.zero, i.size, i.bytes)) = some (some (.agg #[.string ⟨#[]⟩, .slice none 0 0, .slice none 0 0]), 3, 64) := by kernel_rfl
/-- Files appended onto a row of the call's own. -/
theorem wpList_app3 {P : Program} (w : World) {ops : Array Oper} {rest : List Oper} {o : Oper} {a : Act} {Q : Exit → Act → World → Prop} (hgd : o.guard = none) (s x : Operand) (tt : TypeId)
    (ho : o.op = .call { callee := .builtin .append, args := #[s, x], argTypes := #[tt, tt] })
    (base : Nat) (t : TypeId) (z : Value) (by_ : Nat) (ht : P.underlying tt = some (.slice t)) (hi : (P.info? t).map (fun i => (i.zero, i.size, i.bytes)) = some (some z, 3, by_)) (hz1 : z.cells.size = 3)
    (A : Option Addr) (n c : Nat) (vs : List Value) (hs : a.eval s = .slice A n c) (hown : w.ownsRow base t 3 (.slice A n c) n vs)
    (B : Option Addr) (m d : Nat) (us : List Value) (hx : a.eval x = .slice B m d) (hr : RdV w B (m * 3) us) (hone : ∀ u ∈ us, u.oneCell' = true)
    (hn : n + m ≤ 2199023255552) (hby : by_ ≤ 64 := by omega) (hbase : base ≤ w.heap.size)
    (h : ∀ A' c' w', w'.ownsRow base t 3 (.slice A' (n + m) c') (n + m) (vs ++ us) → Below base w w' → wpList P ops Q rest (a.put o.dst (.slice A' (n + m) c')) w') : wpList P ops Q (o :: rest) a w := by
  obtain ⟨i, hi, hz, hsz, hby2⟩ := info_parts hi
  have go : ∀ v' w', w'.ownsRow base t 3 v' (n + m) (vs ++ us) → w.grownBy w' (Value.ownBlock (.slice A n c)) → wpList P ops Q rest (a.put o.dst v') w' := by
    intro v' w' h1 h2
    obtain ⟨A', c', rfl⟩ : ∃ A' c', v' = .slice A' (n + m) c' := by
      rcases h1.2 with ⟨h3, h4⟩ | ⟨g, cap, cur, h3, _⟩
      · exact ⟨none, 0, by rw [h3, h4]⟩
      · exact ⟨_, _, h3⟩
    exact h A' c' w' h1 ((Below.refl _ _).grown h2 hbase (fun k hk => (World.ownsRow.lt hown k hk).1))
  rcases Nat.eq_zero_or_pos m with hm | hm
  · subst hm
    have hy : us = [] := List.eq_nil_of_length_eq_zero (by rw [hr.1])
    subst hy
    rcases B with _ | ad
    · exact wpList_app_none hgd s x tt ho base t i 3 ht hi (.slice A n c) n vs hs hown d hx (by simpa using go (.slice A n c) w (by simpa using hown) (World.grownBy.refl w _))
    · refine wpList_append_own w hgd s x tt ho base t i z 3 by_ ht hi hz hsz hby2 hz1 (by decide) (.slice A n c) n vs hs hown ad 0 d [] hx rfl (by simp) (by simp) (by unfold maxLen; omega) (Nat.le_trans (Nat.mul_le_mul_left _ hby) (by omega)) hbase ?_
      intro v' w' h1 h2 _
      exact go v' w' (by simpa using h1) h2
  · obtain ⟨b, off, rfl, _, hc⟩ := hr.2 (by omega)
    refine wpList_append_own w hgd s x tt ho base t i z 3 by_ ht hi hz hsz hby2 hz1 (by decide) (.slice A n c) n vs hs hown ⟨b, off, none⟩ m d us hx hr.1 (fun j u hj => by rw [Addr.add_lit]; exact hc j u hj) hone (by unfold maxLen; omega) (Nat.le_trans (Nat.mul_le_mul_left _ hby) (by omega)) hbase ?_
    intro v' w' h1 h2 _
    exact go v' w' h1 h2
/-- A row of the call's own, read. -/
theorem rdv_own3 {w : World} {base n c : Nat} {t : TypeId} {A : Option Addr} {vs : List Value} (h : w.ownsRow base t 3 (.slice A n c) n vs) : RdV w A (n * 3) vs := by
  refine ⟨by have := h.1; simpa [Nat.mul_comm] using this, fun hn => ?_⟩
  rcases h.2 with ⟨_, h2⟩ | ⟨g, cap, cur, h1, _, hg, _⟩
  · omega
  · injection h1 with h1
    subst h1
    refine ⟨g, 0, rfl, (Array.getElem?_eq_some_iff.1 hg).1, fun i x hx => ?_⟩
    have := World.ownsRow.cells h (g := g) rfl i _ hx
    simpa [Addr.add_lit] using this
theorem own3_cap {w : World} {base n c : Nat} {t : TypeId} {A : Option Addr} {vs : List Value} (h : w.ownsRow base t 3 (.slice A n c) n vs) : n ≤ c := by
  rcases h.2 with ⟨h1, h2⟩ | ⟨g, cap, cur, h1, _, _, h2, _⟩
  · injection h1 with h1 h3 h4
    omega
  · injection h1 with _ _ h4
    subst h4
    exact h2
theorem own3_zero (t : TypeId) (w : World) : (w.alloc (.cells #[] t)).ownsRow w.heap.size t 3 (.slice (some ⟨w.heap.size, 0, none⟩) 0 0) 0 [] :=
  ⟨rfl, .inr ⟨w.heap.size, 0, #[], rfl, Nat.le_refl _, heap_alloc_new w _, Nat.le_refl _, by unfold maxLen; omega, rfl, rfl⟩⟩
theorem own3_below {w w' : World} {base n c : Nat} {t : TypeId} {A : Option Addr} {vs : List Value} (h : w.ownsRow base t 3 (.slice A n c) n vs) (hb : Below w.heap.size w w') : w'.ownsRow base t 3 (.slice A n c) n vs := by
  refine ⟨h.1, ?_⟩
  rcases h.2 with h1 | ⟨g, cap, cur, h1, h2, h3, h4⟩
  · exact .inl h1
  · exact .inr ⟨g, cap, cur, h1, h2, (hb.block g (Array.getElem?_eq_some_iff.1 h3).1).trans h3, h4⟩
/-- Files and values, put together for what is handed back. -/
theorem RFs.mk {w : World} {A : Option Addr} {n : Nat} {fs : List FE} {vs : List Value} (h : FVs G w fs vs) (hr : RdV w A (n * 3) vs) (hn : fs.length = n) (hg : ∀ b, blk A = some b → G b) : RFs G w A n fs := ⟨hn, vs, h, hr, fun _ => hg⟩

/-- 'A disk with these files is handed back.' -/
def RetRD (G : Nat → Prop) (w : World) (fs : List FE) (room : Nat) (arm : Int) (dead : Bool) (e : Ending) (w' : World) : Prop :=
  ∃ A n c, e = .returned (.agg #[.slice A n c, .int .i64 (room : Int), .int .i64 arm, .bool dead]) ∧ RFs G w' A n fs ∧ n ≤ c ∧ Below w.heap.size w w'

theorem usedF_snoc {fs : List FE} {k : Nat} {f : FE} (h : fs[k]? = some f) : usedF (fs.take (k + 1)) = usedF (fs.take k) + f.2.1.length := by
  rw [List.take_add_one, h]
  show usedF (fs.take k ++ [f]) = _
  rw [usedF_app, usedF_cons, usedF_nil]
  omega
theorem usedF_take_le (fs : List FE) (k : Nat) : usedF (fs.take k) ≤ usedF fs := by
  have h := usedF_app (fs.take k) (fs.drop k)
  rw [List.take_append_drop] at h
  omega
set_option maxRecDepth 100000 in
set_option maxHeartbeats 2000000 in
theorem rused_any (A : Option Addr) (n c : Nat) (room : Nat) (arm : Int) (dead : Bool) (fs : List FE) (w : World) (h : RFs G w A n fs) (hn : n ≤ 1099511627776) (hus : usedF fs ≤ 1099511627776) :
    Calls Try.prog 75 #[.agg #[.slice A n c, .int .i64 (room : Int), .int .i64 arm, .bool dead]] w fun e w' => e = .returned (.int .i64 (usedF fs : Int)) ∧ Below w.heap.size w w' := by
  have HL := Lib.hid h.len
  go_enter Try.func75, Try.ntmps75
  go_wp2
  obtain ⟨W, hW⟩ : ∃ W, W = w.alloc (.cells #[.slice A n c, .int .i64 (room : Int), .int .i64 arm, .bool dead] 36) := ⟨_, rfl⟩
  have hb : Below w.heap.size w W := by rw [hW]; exact (Below.refl _ _).alloc (Nat.le_refl _) _
  have hc0 : W.cell? ⟨w.heap.size, 0, none⟩ = some (.slice A n c) := by rw [hW]; exact cell_of_row _ _ 0 _ _ _ (heap_alloc_new w _)
  rw [← hW]
  have hW2 := h.below hb
  have HB := Lib.hid hb
  clear hW hb h
  go_loopw [3, 4] (fun s3 s4 wr => ∃ k q : Nat, k ≤ n ∧ s3 = .int .i64 (usedF (fs.take k) : Int) ∧ s4 = .int .i64 (k : Int) ∧ wr = W.drewN q) (fun _ s4 _ => n - (intOf s4).toNat)
  case atStart => exact ⟨0, 0, Nat.zero_le _, by simp [usedF], rfl, rfl⟩
  case round =>
    obtain ⟨k, q, hk, rfl, rfl, hX⟩ := hrel
    have hR : RFs G wr A n fs := by rw [hX]; exact hW2.drewN q
    have hcx : wr.cell? ⟨w.heap.size, 0, none⟩ = some (.slice A n c) := by rw [hX]; exact hc0
    have HX := Lib.hid hX
    clear hX
    by_cases hlt : k < n
    · obtain ⟨b, off, f, S, sn, sc, T, tn, tc, rfl, hbl, hf, hsl, c0, c1, c2, r1, r2, _⟩ := hR.at_ k hlt
      rw [← Nat.add_assoc] at c1 c2
      have l1 := r1.len
      have l2 := r2.len
      rw [List.length_take] at l1
      rw [List.length_drop] at l2
      have hu1 := usedF_snoc hf
      have hu2 := usedF_take_le fs (k + 1)
      have hsum : usedF (fs.take k) + sn + tn = usedF (fs.take (k + 1)) := by omega
      have HS := Lib.hid hsum
      have e1 : IntKind.i64.wrap ((usedF (fs.take k) : Int) + (sn : Int)) = (usedF (fs.take k) : Int) + (sn : Int) := IntWalk.i64_in _ (by omega)
      have e2 : IntKind.i64.wrap ((usedF (fs.take k) : Int) + (sn : Int) + (tn : Int)) = (usedF (fs.take k) : Int) + (sn : Int) + (tn : Int) := IntWalk.i64_in _ (by omega)
      clear hf hu1 l1 l2 r1 r2 hsum
      go_wp2
      go_quiet (fail)
      go_wp2
      go_roundw
      case rel => exact ⟨k + 1, _, by omega, by rw [← HS.out]; go_num, by go_num, by rw [HX.out]; exact World.drewN_drewN _ _ _⟩
      case measure => simp [intOf]; omega
    · obtain rfl : k = n := by omega
      have HT : Hid (fs.take k = fs) := Lib.hid (List.take_of_length_le (by have := HL.out; omega))
      go_wp2
      go_ret
      exact ⟨by rw [HT.out]; rfl, by rw [HX.out]; exact below_drewN HB.out q⟩
end Go.Proofs.Ytjpnfhfeabdhiaa
