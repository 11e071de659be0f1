/- Manifest: Apply where one file is left at the end. No condition but sizes. -/
import Derived.Test.YtlnpicfkcahdbaaMfF
import Derived.Test.YtlnpicfkcahdbaaFrW
namespace Go.Proofs.Ytlnpicfkcahdbaa
open Go Go.RowKit

/-- Files appended, or none. -/
theorem wpList_appM {P : Program} (w : World) {ops : Array Oper} {rest : List Oper} {o : Oper} {a : Act} {Q : Exit → Act → World → Prop} (hgd : o.guard = none) (s x : Operand) (tt : TypeId)
    (ho : o.op = .call { callee := .builtin .append, args := #[s, x], argTypes := #[tt, tt] })
    (base : Nat) (z : Value) (ht : P.underlying tt = some (.slice 113)) (hi : (P.info? 113).map (fun i => (i.zero, i.size, i.bytes)) = some (some z, 6, 80)) (hz1 : z.cells.size = 6)
    (A B : Option Addr) (n c m d N : Nat) (vs ys : List Value) (hs : a.eval s = .slice A n c) (hown : OwnMf w base A n c vs)
    (hx : a.eval x = .slice B m d) (hr : RdV w B (m * 6) ys) (hm : m = 0 → B = none) (h1 : ∀ u ∈ ys, u.oneCell' = true)
    (hN : n + m = N) (hn : N ≤ 1073741824) (hbase : base ≤ w.heap.size)
    (h : ∀ A' c' w', OwnMf w' base A' N c' (vs ++ ys) → Below base w w' → wpList P ops Q rest (a.put o.dst (.slice A' N c')) w') : wpList P ops Q (o :: rest) a w := by
  subst hN
  rcases Nat.eq_zero_or_pos m with h0 | h0
  · have hB := hm h0
    subst h0 hB
    obtain rfl : ys = [] := List.eq_nil_of_length_eq_zero (by have := hr.1; simpa using this)
    obtain ⟨i, hi, hz, hsz, hby⟩ := info_parts hi
    refine wpList_app_none hgd s x tt ho base 113 i 6 ht hi (.slice A n c) n vs hs hown d hx ?_
    exact h A c w (by simpa using hown) (Below.refl _ _)
  · obtain ⟨b, off, rfl, _⟩ := hr.pos (by omega)
    refine wpList_app6 w hgd s x tt ho base z 80 ht hi hz1 A n c vs hs hown ⟨b, off, none⟩ m d ys hx hr h0 h1 (by unfold maxLen; omega) (by omega) hbase ?_
    intro A' c' w' k1 k2 _
    exact h A' c' w' k1 ((Below.refl _ _).grown k2 hbase (fun k hk => (hown.lt k hk).1))
theorem MfV.cells {w : World} {r : Mf} {v0 v1 v2 v3 v4 v5 : Value} (h : MfV w r v0 v1 v2 v3 v4 v5) : ∀ u ∈ [v0, v1, v2, v3, v4, v5], u.oneCell' = true := by
  obtain ⟨K, kn, kc, T, tn, tc, rfl, rfl, rfl, rfl, rfl, rfl, _⟩ := h.parts
  intro u hu
  simp only [List.mem_cons, List.not_mem_nil, or_false] at hu
  rcases hu with rfl | rfl | rfl | rfl | rfl | rfl <;> rfl
theorem MfVs.cells {w : World} : ∀ {rs : List Mf} {vs : List Value}, MfVs w rs vs → ∀ u ∈ vs, u.oneCell' = true
  | [], _, h, u, hu => by rw [h] at hu; cases hu
  | _ :: _, _, ⟨v0, v1, v2, v3, v4, v5, t, e, h1, h2⟩, u, hu => by
    subst e
    have hc := h1.cells
    simp only [List.mem_cons] at hu
    rcases hu with rfl | rfl | rfl | rfl | rfl | rfl | hu
    iterate 6 exact hc _ (by simp)
    exact MfVs.cells h2 u hu
theorem OwnMf.fr {w w' : World} {bl : List Nat} {base n c : Nat} {A : Option Addr} {vs : List Value} (h : OwnMf w base A n c vs) (hf : Fr w w' bl) (ho : ∀ b, blk A = some b → b ∉ bl) : OwnMf w' base A n c vs := by
  refine ⟨h.1, ?_⟩
  rcases h.2 with h1 | ⟨g, cap, cur, h1, h2, h3, h4⟩
  · exact .inl h1
  · injection h1 with h1 h5 h6
    subst h1 h6
    exact .inr ⟨g, _, cur, rfl, h2, (hf.block g (Array.getElem?_eq_some_iff.1 h3).1 (ho g rfl)).trans h3, h4⟩
theorem Fam.frM {w w' : World} {bl : List Nat} {base : Nat} {ps : List VB} (h : Fam w base ps) (hf : Fr w w' bl) (ho : ∀ b ∈ bl, OffF ps b) : Fam w' base ps := by
  refine ⟨fun p hp => ?_, h.2⟩
  obtain ⟨A, m, c, e, hown⟩ := h.1 p hp
  exact ⟨A, m, c, e, hown.fr hf (fun b hb hm => ho b hm p hp (by rw [e, own_blk]; exact hb))⟩
/-- A row that a call has made, behind stores into blocks that stood. -/
theorem RowMf.fr {w wF wG wS : World} {bl : List Nat} {L : Option Addr} {i d : Nat} {rs : List Mf} {ps : List VB} (h : RowMf wF wF.heap.size L i d rs ps wG) (hb : Below w.heap.size w wF) (hf : Fr wG wS bl) (hS : ∀ b ∈ bl, b < wF.heap.size) (hB : ∀ b ∈ bl, w.heap.size ≤ b) : RowMf w w.heap.size L i d rs ps wS := by
  have hs := hb.size
  have hz := h.size
  refine ⟨(h.own.fr hf (fun b e hm => by have := (h.own.lt b e).1; have := hS b hm; omega)).mono hs, (h.fam.frM hf (fun b hm q hq e => ?_)).mono hs, h.dat, h.len, h.wf, ?_, by have := hf.size; omega⟩
  · obtain ⟨A', m, c, e1, ho⟩ := h.fam.1 q hq
    rw [e1, own_blk] at e
    have := (ho.lt b e).1
    have := hS b hm
    omega
  · exact (hb.trans (h.bel.mono hs)).trans (hf.below hB (by omega))
/-- What Apply answers where one file is left: it, or that the version isn't right. -/
def RetAp (w : World) (x : Mf) (z s : Nat) (ok : Bool) (e : Ending) (w' : World) : Prop :=
  if ok then ∃ L c ps, e = .returned (.tuple #[.agg #[.slice L 1 c, .int .u64 (z : Int), .int .u64 (s : Int)], .int .i64 0]) ∧ RowMf w w.heap.size L 1 c [x] ps w'
  else e = .returned (.tuple #[.agg #[.slice none 0 0, .int .u64 0, .int .u64 0], .int .i64 3]) ∧ Below w.heap.size w w'
theorem RetAp.yes {w : World} {x : Mf} {z s : Nat} {e : Ending} {w' : World} (h : RetAp w x z s true e w') : ∃ L c ps, e = .returned (.tuple #[.agg #[.slice L 1 c, .int .u64 (z : Int), .int .u64 (s : Int)], .int .i64 0]) ∧ RowMf w w.heap.size L 1 c [x] ps w' := h
theorem RetAp.no {w : World} {x : Mf} {z s : Nat} {e : Ending} {w' : World} (h : RetAp w x z s false e w') : e = .returned (.tuple #[.agg #[.slice none 0 0, .int .u64 0, .int .u64 0], .int .i64 3]) ∧ Below w.heap.size w w' := h
set_option maxRecDepth 100000 in
set_option maxHeartbeats 16000000 in
theorem apply_gen {w : World} {F A : Option Addr} {n1 fc n2 c a s0 s z : Nat} {ls fs : List Mf} {x : Mf} (hF : RMf w F n1 ls) (hA : RMf w A n2 fs) (hcat : ls ++ fs = [x]) (hA0 : n2 = 0 → A = none)
    (hR : ∀ wx, Below w.heap.size w wx → Calls Try.prog 56 #[.agg #[.slice F n1 fc, .int .u64 (a : Int), .int .u64 (s0 : Int)]] wx (RetT wx true))
    (hz : nextM a fs = z) (hxz : x.num < z) (hlv : x.lv = 0) (hxn : x.num < 9223372036854775808) (hss : s0 ≤ s) (hs1 : x.lo.length ≤ 1099511627776) (hs2 : x.hi.length ≤ 1099511627776) :
    Calls Try.prog 51 #[.agg #[.slice F n1 fc, .int .u64 (a : Int), .int .u64 (s0 : Int)], .agg #[.bool false, .slice A n2 c, .slice none 0 0, .int .u64 (s : Int)]] w (RetAp w x z s (decide (cmpB x.lo x.hi ≤ 0))) := by
  have hn12 : n1 + n2 = 1 := by have := congrArg List.length hcat; simp only [List.length_append, hF.len, hA.len, List.length_cons, List.length_nil] at this; omega
  obtain ⟨W1, hW1⟩ : ∃ W1, W1 = w.alloc (.cells #[.slice F n1 fc, .int .u64 (a : Int), .int .u64 (s0 : Int)] 118) := ⟨_, rfl⟩
  obtain ⟨p2, hp2⟩ : ∃ p, p = w.heap.size := ⟨_, rfl⟩
  have b1 : Below w.heap.size w W1 := by rw [hW1]; exact (Below.refl _ _).alloc (Nat.le_refl _) _
  have z2 : Cl W1 p2 #[.slice F n1 fc, .int .u64 (a : Int), .int .u64 (s0 : Int)] 118 := by rw [hW1, hp2]; exact Cl.new _ _ _
  obtain ⟨W2, hW2⟩ : ∃ W2, W2 = W1.alloc (.cells #[.bool false, .slice A n2 c, .slice none 0 0, .int .u64 (s : Int)] 116) := ⟨_, rfl⟩
  obtain ⟨p3, hp3⟩ : ∃ p, p = W1.heap.size := ⟨_, rfl⟩
  have b2 : Below W1.heap.size W1 W2 := by rw [hW2]; exact (Below.refl _ _).alloc (Nat.le_refl _) _
  have z3 : Cl W2 p3 #[.bool false, .slice A n2 c, .slice none 0 0, .int .u64 (s : Int)] 116 := by rw [hW2, hp3]; exact Cl.new _ _ _
  obtain ⟨W, hW⟩ : ∃ W, W = W2.alloc (.cells #[.slice none 0 0, .int .u64 0, .int .u64 0] 118) := ⟨_, rfl⟩
  obtain ⟨p4, hp4⟩ : ∃ p, p = W2.heap.size := ⟨_, rfl⟩
  have b3 : Below W2.heap.size W2 W := by rw [hW]; exact (Below.refl _ _).alloc (Nat.le_refl _) _
  have z4 : Cl W p4 #[.slice none 0 0, .int .u64 0, .int .u64 0] 118 := by rw [hW, hp4]; exact Cl.new _ _ _
  have bW : Below w.heap.size w W := belowT' (belowT' b1 b2) b3
  have s2 : w.heap.size ≤ p4 := by rw [hp4]; exact (belowT' b1 b2).size
  have HP4 := Lib.hid s2
  have HZ2 := Lib.hid ((z2.below b2).below b3)
  have HZ3 := Lib.hid (z3.below b3)
  have HZ4 := Lib.hid z4
  have HB := Lib.hid bW
  have HW1 := Lib.hid hW1
  have HW2 := Lib.hid hW2
  have HW := Lib.hid hW
  have HP2 := Lib.hid hp2
  have HP3 : Hid (p3 = p2 + 1) := Lib.hid (by rw [hp3, hW1, hp2]; simp)
  have HPE : Hid (p4 = p3 + 1) := Lib.hid (by rw [hp4, hp3, hW2]; simp)
  obtain ⟨bb, hbb⟩ : ∃ b, b = decide (cmpB x.lo x.hi ≤ 0) := ⟨_, rfl⟩
  rw [← hbb]
  have HBBQ := Lib.hid hbb
  clear hbb
  have HF := Lib.hid hF
  have HA := Lib.hid hA
  have HR := Lib.hid hR
  have HX := Lib.hid hcat
  have HA0 := Lib.hid hA0
  have HN := Lib.hid hn12
  have HZZ := Lib.hid hz
  have HXZ := Lib.hid hxz
  have HLV := Lib.hid hlv
  have HXN := Lib.hid hxn
  have HSS := Lib.hid hss
  have HS1 := Lib.hid hs1
  have HS2 := Lib.hid hs2
  obtain ⟨k0, k1, k2, _⟩ := HZ2.out.c3
  clear hF hA hcat hA0 hR hz hxz hlv hxn hss hs1 hs2 hn12 hW1 hp2 b1 z2 hW2 hp3 b2 z3 hW hp4 b3 z4 bW s2
  go_enter Try.func51, Try.ntmps51
  go_upto_region 1 with (fail)
  rw [← HW1.out, ← HP2.out, ← HW2.out, ← HP3.out, ← HW.out, ← HPE.out]
  go_wp2_with fail
  with_reducible refine (HR.out _ HB.out).mono ?_
  intro e wA hq
  obtain ⟨h1, bA⟩ := RetT.outD hq
  subst h1
  have hBA := belowT' HB.out bA
  have HBA := Lib.hid hBA
  have HCA := Lib.hid bA
  have HWO := Lib.hid (without0_any (c := fc) (B := none) (d := 0) (HF.out.below hBA) (by have := HN.out; omega))
  have zA2 := HZ2.out.below bA
  have zA3 := HZ3.out.below bA
  have j0 := zA3.cell 0
  have j1 := zA3.cell 1
  have j2 := zA3.cell 2
  have j3 := zA3.cell 3
  have i0 := zA2.cell 0
  have i1 := zA2.cell 1
  clear hq bA hBA zA2 zA3 k0 k1 k2
  go_wp2_with fail
  with_reducible refine HWO.out.mono ?_
  intro e wB hq
  obtain ⟨L, m1, lc, vs, h1, hO, hV, hl, bB⟩ := hq.out
  subst h1
  obtain rfl : m1 = n1 := by rw [← hl]; exact HF.out.len
  have HO := Lib.hid hO
  have HV := Lib.hid hV
  have hBB := belowT' HBA.out bB
  have HBB := Lib.hid hBB
  have HCB := Lib.hid (belowT' HCA.out bB)
  have zB2 := HZ2.out.below HCB.out
  have zB3 := HZ3.out.below HCB.out
  have HBBA := Lib.hid bB
  clear i0 i1 j0 j1 j2 j3 hq hO hV hl hBB
  have j0 := zB3.cell 0
  have j1 := zB3.cell 1
  have j2 := zB3.cell 2
  have j3 := zB3.cell 3
  have i0 := zB2.cell 0
  have i1 := zB2.cell 1
  clear zB2 zB3
  obtain ⟨hfl, us, hfs, hrd⟩ := HA.out.below HBA.out
  have HFS := Lib.hid hfs
  have HRD := Lib.hid (hrd.below bB)
  have hw1 : wrap64 (m1 : Int) = (m1 : Int) := by have := HN.out; unfold wrap64; omega
  clear hfl hfs hrd bB
  go_wp2_with (at_builtin; refine wpList_appM _ rfl (Operand.tmp 32) (Operand.tmp 34) 114 rfl wA.heap.size _ Try.underlying114 info_mf rfl L A m1 lc n2 c 1 vs us (by first | rfl | (simp [Act.eval]; done)) HO.out (by first | rfl | (simp [Act.eval]; done)) HRD.out HA0.out HFS.out.cells HN.out (by omega) ?_ ?_)
  · exact HBBA.out.size
  intro A2 c2 wC hO2 bC
  have hBC : Below wA.heap.size wA wC := HBBA.out.trans bC
  have HRC : Hid (RMf wC A2 1 [x]) := Lib.hid (RMf.mk (by have := (HV.out.app HFS.out).below hBC; rw [HX.out] at this; exact this) hO2.rd rfl)
  have HCC := Lib.hid (belowT' HCA.out hBC)
  have HWC := Lib.hid (belowT' HBA.out hBC)
  have HTW := Lib.hid (twice_any (c := c2) HRC.out (by omega))
  rw [twiceM_one] at HTW
  clear i0 i1 j0 j1 j2 j3 hO2 bC hBC
  go_wp2_with fail
  with_reducible refine HTW.out.mono ?_
  intro e wD hq
  obtain ⟨h1, bD⟩ := RetT.outD hq
  subst h1
  have HRD2 := Lib.hid (HRC.out.below bD)
  have HCD := Lib.hid (belowT' HCC.out bD)
  have HWD := Lib.hid (belowT' HWC.out bD)
  have HLD : Hid (∀ wx, Below wD.heap.size wD wx → wx.cell? ⟨p2, 1, none⟩ = some (.int .u64 (a : Int)) ∧ wx.cell? ⟨p3, 1, none⟩ = some (.slice A n2 c) ∧ wx.cell? ⟨p3, 3, none⟩ = some (.int .u64 (s : Int)) ∧ ∀ o, (wx.alloc o).cell? ⟨p2, 1, none⟩ = some (.int .u64 (a : Int)) ∧ (wx.alloc o).cell? ⟨p3, 1, none⟩ = some (.slice A n2 c) ∧ (wx.alloc o).cell? ⟨p3, 3, none⟩ = some (.int .u64 (s : Int))) := Lib.hid (fun wx hb => ⟨(HZ2.out.below (belowT' HCD.out hb)).cell 1, (HZ3.out.below (belowT' HCD.out hb)).cell 1, (HZ3.out.below (belowT' HCD.out hb)).cell 3, fun o => ⟨((HZ2.out.below (belowT' HCD.out hb)).alloc o).cell 1, ((HZ3.out.below (belowT' HCD.out hb)).alloc o).cell 1, ((HZ3.out.below (belowT' HCD.out hb)).alloc o).cell 3⟩⟩)
  have HNX : Hid (∀ wx, Below wD.heap.size wD wx → Calls Try.prog 115 #[.int .u64 (a : Int), .slice A n2 c] wx (RetN64 wx z)) := Lib.hid (fun wx hb => by
    rw [← HZZ.out]
    exact nextNum_any (HA.out.below (belowT' HWD.out hb)) (by have := HN.out; omega) (fun f hf => by
      have h1 : f ∈ ls ++ fs := List.mem_append.2 (.inr hf)
      rw [HX.out, List.mem_singleton] at h1
      rw [h1]; exact HXN.out))
  clear hq bD
  go_wp2_with fail
  with_reducible refine (sortM_any _ _ _ _).mono ?_
  rintro e w1 ⟨rfl, rfl⟩
  go_wp2_with fail
  have hB1 : Below w1.heap.size w1 w1.drew := (Below.refl _ _).drew
  obtain ⟨i1, j1, j3, o8⟩ := HLD.out w1 (Below.refl _ _)
  have o9 := (HLD.out _ hB1).2.2.2
  have hB2 : Below w1.heap.size w1 (w1.alloc (.cells #[.slice none 0 0, .int .u64 0, .int .u64 0] 118)).drew := ((Below.refl _ _).alloc (Nat.le_refl _) _).drew
  have HCL : Hid (∀ wx, Below (w1.alloc (.cells #[.slice none 0 0, .int .u64 0, .int .u64 0] 118)).drew.heap.size (w1.alloc (.cells #[.slice none 0 0, .int .u64 0, .int .u64 0] 118)).drew wx → wx.cell? ⟨w1.heap.size, 0, none⟩ = some (.slice none 0 0) ∧ (∀ v, (wx.setCell ⟨w1.heap.size, 0, none⟩ v).cell? ⟨w1.heap.size, 1, none⟩ = some (.int .u64 0)) ∧ (∀ v u, ((wx.setCell ⟨w1.heap.size, 0, none⟩ v).setCell ⟨w1.heap.size, 1, none⟩ u).cell? ⟨w1.heap.size, 2, none⟩ = some (.int .u64 0)) ∧ wx.frozen? ⟨w1.heap.size, 0, none⟩ = false ∧ (∀ v, (wx.setCell ⟨w1.heap.size, 0, none⟩ v).frozen? ⟨w1.heap.size, 1, none⟩ = false) ∧ (∀ v u, ((wx.setCell ⟨w1.heap.size, 0, none⟩ v).setCell ⟨w1.heap.size, 1, none⟩ u).frozen? ⟨w1.heap.size, 2, none⟩ = false) ∧ Cl wx w1.heap.size #[.slice none 0 0, .int .u64 0, .int .u64 0] 118) := Lib.hid (fun wx hb => by
    have zk : Cl wx w1.heap.size #[.slice none 0 0, .int .u64 0, .int .u64 0] 118 := Cl.below (w := (w1.alloc (.cells #[.slice none 0 0, .int .u64 0, .int .u64 0] 118)).drew) (Cl.new w1 _ _) hb
    exact ⟨zk.cell 0, fun v => (zk.set 0 v).cell 1, fun v u => ((zk.set 0 v).set 1 u).cell 2, zk.thaw 0, fun v => (zk.set 0 v).thaw 1, fun v u => ((zk.set 0 v).set 1 u).thaw 2, zk⟩)
  go_cut [8] from 41 to 49 (fun s8 wx => ∃ P, s8 = .pointer (some ⟨P, 0, none⟩) ∧ Cl wx P #[.slice A2 1 c2, .int .u64 (z : Int), .int .u64 (s : Int)] 118 ∧ w1.heap.size ≤ P ∧ Below w1.heap.size w1 wx)
  case first =>
    go_region_law (first
      | (go_simp; go_at_call 115; with_reducible refine (HNX.out _ hB1).mono ?_; intro e wk hq; obtain ⟨h1, bk⟩ := hq.out; subst h1; have bk' := belowT' hB1 bk; obtain ⟨q1, q2, q3, q4⟩ := HLD.out _ bk'; have hin := hB1)
      | (go_simp; go_at_call 115; with_reducible refine (HNX.out _ hB2).mono ?_; intro e wk hq; obtain ⟨h1, bk⟩ := hq.out; subst h1; have bk' := belowT' hB2 bk; obtain ⟨q1, q2, q3, q4⟩ := HLD.out _ bk'; obtain ⟨g3, g4, g5, f0, f1, f2, zk⟩ := HCL.out _ bk))
    all_goals first
      | (have HXX : Hid (∃ P, Value.pointer (some ⟨wk.heap.size, 0, none⟩) = .pointer (some ⟨P, 0, none⟩) ∧ Cl (wk.alloc (.cells #[.slice A2 1 c2, .int .u64 (z : Int), .int .u64 (s : Int)] 118)) P #[.slice A2 1 c2, .int .u64 (z : Int), .int .u64 (s : Int)] 118 ∧ w1.heap.size ≤ P ∧ Below w1.heap.size w1 (wk.alloc (.cells #[.slice A2 1 c2, .int .u64 (z : Int), .int .u64 (s : Int)] 118))) := Lib.hid ⟨_, rfl, Cl.new _ _ _, bk'.size, bk'.alloc bk'.size _⟩
         have hin2 := hin
         clear bk bk' q1 q2 q3 q4 hin2
         go_wp2_with fail
         go_meet
         exact HXX.out)
      | (have HXX : Hid (∃ P, Value.pointer (some ⟨w1.heap.size, 0, none⟩) = .pointer (some ⟨P, 0, none⟩) ∧ Cl (((wk.setCell ⟨w1.heap.size, 0, none⟩ (.slice A2 1 c2)).setCell ⟨w1.heap.size, 1, none⟩ (.int .u64 (z : Int))).setCell ⟨w1.heap.size, 2, none⟩ (.int .u64 (s : Int))) P #[.slice A2 1 c2, .int .u64 (z : Int), .int .u64 (s : Int)] 118 ∧ w1.heap.size ≤ P ∧ Below w1.heap.size w1 (((wk.setCell ⟨w1.heap.size, 0, none⟩ (.slice A2 1 c2)).setCell ⟨w1.heap.size, 1, none⟩ (.int .u64 (z : Int))).setCell ⟨w1.heap.size, 2, none⟩ (.int .u64 (s : Int)))) := Lib.hid ⟨_, rfl, ((zk.set 0 _).set 1 _).set 2 _, Nat.le_refl _, below_set (below_set (below_set bk' 0 _ (Nat.le_refl _)) 1 _ (Nat.le_refl _)) 2 _ (Nat.le_refl _)⟩
         clear bk bk' q1 q2 q3 q4 g3 g4 g5 f0 f1 f2 zk
         go_wp2_with fail
         go_meet
         exact HXX.out)
  case rest =>
    obtain ⟨P, rfl, zP, hP, bP⟩ := hcut
    obtain ⟨wE, hwE⟩ : ∃ wE, wE = wc := ⟨_, rfl⟩
    rw [← hwE] at zP bP ⊢
    clear hwE HCL hB1 hB2 o9 o8 i1 j1 j3
    have hxl := HRD2.out.below bP
    have HRT := Lib.hid (right1_any (c := c2) (s := s) hxl HXZ.out HLV.out (by have := HS1.out; unfold maxLen; omega) (by have := HS2.out; unfold maxLen; omega))
    rw [← HBBQ.out] at HRT
    have HCE := Lib.hid (belowT' HCD.out bP)
    have HWE := Lib.hid (belowT' HWD.out bP)
    have HRE := Lib.hid hxl
    have HZP := Lib.hid zP
    have y0 := zP.cell 0
    have y1 := zP.cell 1
    have y2 := zP.cell 2
    have HPW : Hid (w.heap.size ≤ P ∧ P < wE.heap.size ∧ P ≠ p4) := Lib.hid ⟨by have := HWD.out.size; omega, zP.lt, fun e => by have h1 := (HZ4.out.below HCD.out).lt; omega⟩
    clear hxl zP bP hP
    go_wp2_with fail
    with_reducible refine HRT.out.mono ?_
    intro e wF hq
    obtain ⟨h1, bF⟩ := RetT.outD hq
    subst h1
    have HBF := Lib.hid bF
    have HZ4F := Lib.hid (HZ4.out.below (belowT' HCE.out bF))
    have HZPF := Lib.hid (HZP.out.below bF)
    have HWF := Lib.hid (belowT' HWE.out bF)
    have HCF := Lib.hid (belowT' HCE.out bF)
    clear hq y0 y1 y2 bF
    cases bb with
    | false =>
      have g0 : wF.cell? ⟨p4, 0, none⟩ = some (.slice none 0 0) := HZ4F.out.cell 0
      have g1 : ∀ v, (wF.setCell ⟨p4, 0, none⟩ v).cell? ⟨p4, 1, none⟩ = some (.int .u64 0) := fun v => (HZ4F.out.set 0 v).cell 1
      have g2 : ∀ v u, ((wF.setCell ⟨p4, 0, none⟩ v).setCell ⟨p4, 1, none⟩ u).cell? ⟨p4, 2, none⟩ = some (.int .u64 0) := fun v u => ((HZ4F.out.set 0 v).set 1 u).cell 2
      have f0 := HZ4F.out.thaw 0
      have f1 := fun v => (HZ4F.out.set 0 v).thaw 1
      have f2 := fun v u => ((HZ4F.out.set 0 v).set 1 u).thaw 2
      have r0 : ∀ v u t, (((wF.setCell ⟨p4, 0, none⟩ v).setCell ⟨p4, 1, none⟩ u).setCell ⟨p4, 2, none⟩ t).cell? ⟨p4, 0, none⟩ = some v := fun v u t => (((HZ4F.out.set 0 v).set 1 u).set 2 t).cell 0
      have r1 : ∀ v u t, (((wF.setCell ⟨p4, 0, none⟩ v).setCell ⟨p4, 1, none⟩ u).setCell ⟨p4, 2, none⟩ t).cell? ⟨p4, 1, none⟩ = some u := fun v u t => (((HZ4F.out.set 0 v).set 1 u).set 2 t).cell 1
      have r2 : ∀ v u t, (((wF.setCell ⟨p4, 0, none⟩ v).setCell ⟨p4, 1, none⟩ u).setCell ⟨p4, 2, none⟩ t).cell? ⟨p4, 2, none⟩ = some t := fun v u t => (((HZ4F.out.set 0 v).set 1 u).set 2 t).cell 2
      have HEND : Hid (∀ v u t, Below w.heap.size w (((wF.setCell ⟨p4, 0, none⟩ v).setCell ⟨p4, 1, none⟩ u).setCell ⟨p4, 2, none⟩ t)) := Lib.hid (fun v u t => below_set (below_set (below_set HWF.out 0 v HP4.out) 1 u HP4.out) 2 t HP4.out)
      go_wp2_with fail
      exact bodyPost_ret (v := .tuple #[.agg #[.slice none 0 0, .int .u64 0, .int .u64 0], .int .i64 3]) (by simp [results, Try.results51, go_sem, r0, r1, r2]; try rfl) rfl ⟨rfl, HEND.out _ _ _⟩
    | true =>
      have z3F := HZ3.out.below HCF.out
      have z2F := HZ2.out.below HCF.out
      have j3 := z3F.cell 3
      have i2 := z2F.cell 2
      have hs1 : ¬ s < s0 := by have := HSS.out; omega
      have hs2 : decide ((s : Int) < (s0 : Int)) = false := by have := HSS.out; simp; omega
      have hRF := HRE.out.below HBF.out
      have HOM := Lib.hid (ownM_any (c := c2) hRF (by omega) (fun r hr => by rw [List.mem_singleton] at hr; rw [hr]; exact ⟨HS1.out, HS2.out⟩))
      have HSF := Lib.hid HBF.out.size
      clear z3F z2F hRF
      go_wp2_with fail
      with_reducible refine HOM.out.mono ?_
      intro e wG hq
      obtain ⟨L3, n3, c3, ps, h1, hrow⟩ := hq.out
      subst h1
      obtain rfl : n3 = 1 := hrow.len.symm
      have HRW := Lib.hid hrow
      have bG : Below wF.heap.size wF wG := hrow.bel
      have zP := HZPF.out.below bG
      have z4 := HZ4F.out.below bG
      obtain ⟨hw, hPl, hPn⟩ := HPW.out
      have e0 : wG.frozen? ⟨P, 0, none⟩ = false := zP.thaw 0
      have e0c : wG.cell? ⟨P, 0, none⟩ = some (.slice A2 1 c2) := zP.cell 0
      obtain ⟨wH, hwH⟩ : ∃ wH, wH = wG.setCell ⟨P, 0, none⟩ (.slice L3 1 c3) := ⟨_, rfl⟩
      have zPH : Cl wH P #[.slice L3 1 c3, .int .u64 (z : Int), .int .u64 (s : Int)] 118 := by rw [hwH]; exact zP.set 0 _
      have z4H : Cl wH p4 #[.slice none 0 0, .int .u64 0, .int .u64 0] 118 := by rw [hwH]; exact z4.off 0 _ hPn
      have e1 := zPH.cell 0
      have e2 := zPH.cell 1
      have e3 := zPH.cell 2
      have g0 : wH.cell? ⟨p4, 0, none⟩ = some (.slice none 0 0) := z4H.cell 0
      have g1 : ∀ v, (wH.setCell ⟨p4, 0, none⟩ v).cell? ⟨p4, 1, none⟩ = some (.int .u64 0) := fun v => (z4H.set 0 v).cell 1
      have g2 : ∀ v u, ((wH.setCell ⟨p4, 0, none⟩ v).setCell ⟨p4, 1, none⟩ u).cell? ⟨p4, 2, none⟩ = some (.int .u64 0) := fun v u => ((z4H.set 0 v).set 1 u).cell 2
      have f0 := z4H.thaw 0
      have f1 := fun v => (z4H.set 0 v).thaw 1
      have f2 := fun v u => ((z4H.set 0 v).set 1 u).thaw 2
      have r0 : ∀ v u t, (((wH.setCell ⟨p4, 0, none⟩ v).setCell ⟨p4, 1, none⟩ u).setCell ⟨p4, 2, none⟩ t).cell? ⟨p4, 0, none⟩ = some v := fun v u t => (((z4H.set 0 v).set 1 u).set 2 t).cell 0
      have r1 : ∀ v u t, (((wH.setCell ⟨p4, 0, none⟩ v).setCell ⟨p4, 1, none⟩ u).setCell ⟨p4, 2, none⟩ t).cell? ⟨p4, 1, none⟩ = some u := fun v u t => (((z4H.set 0 v).set 1 u).set 2 t).cell 1
      have r2 : ∀ v u t, (((wH.setCell ⟨p4, 0, none⟩ v).setCell ⟨p4, 1, none⟩ u).setCell ⟨p4, 2, none⟩ t).cell? ⟨p4, 2, none⟩ = some t := fun v u t => (((z4H.set 0 v).set 1 u).set 2 t).cell 2
      have HEND : Hid (∀ v u t, RowMf w w.heap.size L3 1 c3 [x] ps (((wH.setCell ⟨p4, 0, none⟩ v).setCell ⟨p4, 1, none⟩ u).setCell ⟨p4, 2, none⟩ t)) := Lib.hid (fun v u t => by
        refine RowMf.fr (bl := [P, p4]) hrow HWF.out ?_ ?_ ?_
        · have k1 : Fr wG wH [P, p4] := by rw [hwH]; exact (Fr.set wG P 0 _).mono (fun b hb => .inl (by rw [List.mem_singleton] at hb; rw [hb]; simp))
          have k2 : ∀ (wx : World) (i : Nat) (v : Value), Fr wx (wx.setCell ⟨p4, i, none⟩ v) [P, p4] := fun wx i v => (Fr.set wx p4 i v).mono (fun b hb => .inl (by rw [List.mem_singleton] at hb; rw [hb]; simp))
          exact ((k1.trans (k2 _ 0 v) (fun b hb => .inl hb)).trans (k2 _ 1 u) (fun b hb => .inl hb)).trans (k2 _ 2 t) (fun b hb => .inl hb)
        · intro b hb
          simp only [List.mem_cons, List.not_mem_nil, or_false] at hb
          have h4 := HZ4F.out.lt
          have h5 := HSF.out
          rcases hb with rfl | rfl
          · omega
          · omega
        · intro b hb
          simp only [List.mem_cons, List.not_mem_nil, or_false] at hb
          have h4 := HP4.out
          rcases hb with rfl | rfl
          · omega
          · omega)
      have HWH := Lib.hid hwH
      clear hq hrow bG zP z4 zPH z4H hwH hw hPl hPn
      go_upto_region 18 with (fail)
      rw [← HWH.out]
      go_wp2_with fail
      exact bodyPost_ret (v := .tuple #[.agg #[.slice L3 1 c3, .int .u64 (z : Int), .int .u64 (s : Int)], .int .i64 0]) (by simp [results, Try.results51, go_sem, r0, r1, r2]; try rfl) rfl ⟨L3, c3, ps, rfl, HEND.out _ _ _⟩
end Go.Proofs.Ytlnpicfkcahdbaa
