/- Manifest: own. No condition but sizes. -/
import Derived.Test.YtlnpicfkcahdbaaMfD
namespace Go.Proofs.Ytlnpicfkcahdbaa
open Go Go.RowKit

theorem Made.outM {base : Nat} {w w' : World} {xs : List UInt8} {e : Ending} (h : Made base w xs e w') : ∃ A n c, e = .returned (.slice A n c) ∧ Own 5 w' base A n c xs ∧ Below base w w' := h
/-- The values of files whose bytes are these slices, two for each. -/
def flatM : List Mf → List VB → List Value
  | r :: rs, p :: q :: ps => p.1 :: q.1 :: .int .i64 r.cnt :: .int .i64 r.sz :: .int .u64 (r.num : Int) :: .int .i64 r.lv :: flatM rs ps
  | _, _ => []
/-- The bytes of files. -/
def datM : List Mf → List (List UInt8)
  | [] => []
  | r :: rs => r.lo :: r.hi :: datM rs
theorem datM_app (rs gs : List Mf) : datM (rs ++ gs) = datM rs ++ datM gs := by
  induction rs with
  | nil => rfl
  | cons r rs ih => simp [datM, ih]
theorem datM_len (rs : List Mf) : (datM rs).length = rs.length * 2 := by
  induction rs with
  | nil => rfl
  | cons r rs ih => simp only [datM, List.length_cons, ih]; omega
theorem flatM_app {gs : List Mf} {qs : List VB} : ∀ {rs : List Mf} {ps : List VB}, ps.length = rs.length * 2 → flatM (rs ++ gs) (ps ++ qs) = flatM rs ps ++ flatM gs qs
  | [], [], _ => rfl
  | [], p :: ps, h => by simp at h
  | r :: rs, [], h => by simp at h
  | r :: rs, [p], h => by simp at h; omega
  | r :: rs, p :: q :: ps, h => by
    simp only [List.cons_append, flatM]
    rw [flatM_app (by simp only [List.length_cons] at h; omega)]
theorem mfvs_of_fam {w : World} {base : Nat} : ∀ {rs : List Mf} {ps : List VB}, (∀ r ∈ rs, U64 r.num) → Fam w base ps → ps.map (·.2) = datM rs → MfVs w rs (flatM rs ps)
  | [], ps, _, _, _ => by cases ps <;> rfl
  | r :: rs, [], _, _, h => by simp [datM] at h
  | r :: rs, [p], _, _, h => by simp [datM] at h
  | r :: rs, p :: q :: ps, hu, hf, h => by
    simp only [List.map_cons, datM, List.cons.injEq] at h
    obtain ⟨A, m, c, e1, ho⟩ := hf.1 p (by simp)
    obtain ⟨B, k, d, e2, ho2⟩ := hf.1 q (by simp)
    refine ⟨_, _, _, _, _, _, _, rfl, ⟨rfl, rfl, rfl, rfl, hu r (by simp), ?_, ?_⟩, mfvs_of_fam (base := base) (fun x hx => hu x (by simp [hx])) ⟨fun x hx => hf.1 x (by simp [hx]), (List.pairwise_cons.1 (List.pairwise_cons.1 hf.2).2).2⟩ h.2.2⟩
    · rw [e1, ← h.1]; exact elb_own ho
    · rw [e2, ← h.2.1]; exact elb_own ho2
/-- 'A row of files that the call has made, their bytes its own; no two share memory.' -/
def RowMf (W : World) (base : Nat) (L : Option Addr) (i d : Nat) (rs : List Mf) (ps : List VB) (wr : World) : Prop :=
  OwnMf wr base L i d (flatM rs ps) ∧ Fam wr base ps ∧ ps.map (·.2) = datM rs ∧ rs.length = i ∧ (∀ r ∈ rs, U64 r.num) ∧ Below base W wr ∧ base ≤ wr.heap.size
section
variable {W wr w4 U : World} {base i d d' : Nat} {L L' : Option Addr} {rs : List Mf} {ps : List VB} {r : Mf}
theorem RowMf.zero (W : World) (base : Nat) (hb : base ≤ W.heap.size) : RowMf W base none 0 0 [] [] W := ⟨OwnMf.nil _ _, Fam.nil _ _, rfl, rfl, by simp, Below.refl _ _, hb⟩
theorem RowMf.own (h : RowMf W base L i d rs ps wr) : OwnMf wr base L i d (flatM rs ps) := h.1
theorem RowMf.fam (h : RowMf W base L i d rs ps wr) : Fam wr base ps := h.2.1
theorem RowMf.dat (h : RowMf W base L i d rs ps wr) : ps.map (·.2) = datM rs := h.2.2.1
theorem RowMf.len (h : RowMf W base L i d rs ps wr) : rs.length = i := h.2.2.2.1
theorem RowMf.wf (h : RowMf W base L i d rs ps wr) : ∀ r ∈ rs, U64 r.num := h.2.2.2.2.1
theorem RowMf.bel (h : RowMf W base L i d rs ps wr) : Below base W wr := h.2.2.2.2.2.1
theorem RowMf.size (h : RowMf W base L i d rs ps wr) : base ≤ wr.heap.size := h.2.2.2.2.2.2
theorem RowMf.plen (h : RowMf W base L i d rs ps wr) : ps.length = rs.length * 2 := by have := congrArg List.length h.dat; rw [datM_len] at this; simpa using this
theorem RowMf.below {w' : World} (h : RowMf W base L i d rs ps wr) (hb : Below wr.heap.size wr w') : RowMf W base L i d rs ps w' := by
  obtain ⟨h1, h2, h3, h5, h5', h6, h7⟩ := h
  exact ⟨h1.below hb, h2.below hb, h3, h5, h5', h6.trans (hb.mono h7), Nat.le_trans h7 hb.size⟩
theorem RowMf.rd (h : RowMf W base L i d rs ps wr) : RMf wr L i rs := RMf.mk (mfvs_of_fam h.wf h.fam h.dat) h.own.rd h.len
theorem fam_off_Mf {w : World} {b1 b2 n c : Nat} {A : Option Addr} {vs : List Value} {qs : List VB} (hf : Fam w b1 qs) (h : OwnMf w b2 A n c vs) : ∀ b, blk A = some b → OffF qs b := fun b hb q hq e => by
  obtain ⟨A', m, d, e1, ho⟩ := hf.1 q hq
  rw [e1, own_blk] at e
  exact row_ne h ho (by decide) b hb e
/-- One more. -/
theorem RowMf.snoc {qs : List VB} {vs us : List Value} (h : RowMf W base L i d rs ps wr) (hU : Below wr.heap.size wr U) (hf : Fam U wr.heap.size qs) (hd : qs.map (·.2) = [r.lo, r.hi]) (hus : us = flatM [r] qs) {V : World} (hV : Below U.heap.size U V) (hu : U64 r.num)
    (h4 : OwnMf w4 base L' (i + 1) d' vs) (hvs : vs = flatM rs ps ++ us) (hg : V.grownBy w4 (blk L)) : RowMf W base L' (i + 1) d' (rs ++ [r]) (ps ++ qs) w4 := by
  subst hvs hus
  have hbU := hU.size
  have hbV := hV.size
  have hgs := hg.size
  have hz := h.size
  have hfm : Fam U base (ps ++ qs) := Fam.app h.fam hf hU (Nat.le_refl _) hz
  have hfv := hfm.below hV
  have hoV : OwnMf V base L i d (flatM rs ps) := (h.own.below hU).below hV
  refine ⟨?_, hfv.kept hg (fun b e => fam_off_Mf hfv hoV b e), ?_, by simp [h.len], fun x hx => by (rcases List.mem_append.1 hx with hx | hx; exact h.wf x hx; rw [List.mem_singleton] at hx; rw [hx]; exact hu), ((h.bel.trans (hU.mono hz)).trans (hV.mono (by omega))).grown hg (by omega) (fun k hk => (h.own.lt k hk).1), by omega⟩
  · rw [flatM_app h.plen]
    exact h4
  · rw [List.map_append, datM_app, h.dat, hd]; rfl
end

/-- What a list of files that is made comes to. -/
def RetMo (w : World) (fs : List Mf) (e : Ending) (w' : World) : Prop := ∃ L n c ps, e = .returned (.slice L n c) ∧ RowMf w w.heap.size L n c fs ps w'
theorem RetMo.out {w : World} {fs : List Mf} {e : Ending} {w' : World} (h : RetMo w fs e w') : ∃ L n c ps, e = .returned (.slice L n c) ∧ RowMf w w.heap.size L n c fs ps w' := h
/-- 'make([]File, 0, n)'. -/
theorem wpList_mk6 {P : Program} (w : World) {ops : Array Oper} {rest : List Oper} {o : Oper} {a : Act} {Q : Exit → Act → World → Prop} (hgd : o.guard = none) (l c : Operand) (tt : TypeId)
    (ho : o.op = Op.makeSlice tt l c) (base : Nat) (z : Value) (ht : P.underlying tt = some (.slice 113)) (hi : (P.info? 113).map (fun i => (i.zero, i.size, i.bytes)) = some (some z, 6, 80))
    (C : Int) (n : Nat) (hl : a.eval l = .int .i64 0) (hc : a.eval c = .int .i64 C) (hC : C = (n : Int)) (hn : n ≤ 1073741824) (hbase : base ≤ w.heap.size)
    (h : ∀ A' w', OwnMf w' base A' 0 n [] → Below w.heap.size w w' → wpList P ops Q rest (a.put o.dst (.slice A' 0 n)) w') : wpList P ops Q (o :: rest) a w := by
  obtain ⟨i, hi, hz, hsz, hby⟩ := info_parts hi
  refine wpList_make_own w hgd l c tt ho base 113 i z 6 ht hi hz hsz .i64 .i64 C n hl hc hC (by rw [hby]; omega) (by unfold maxLen; omega) hbase ?_
  intro w' h1 h2
  exact h _ w' h1 ((Below.refl _ _).grown h2 (Nat.le_refl _) (fun k hk => by cases hk))
def SzM (fs : List Mf) : Prop := ∀ r ∈ fs, r.lo.length ≤ 1099511627776 ∧ r.hi.length ≤ 1099511627776
set_option maxRecDepth 100000 in
set_option maxHeartbeats 8000000 in
theorem ownM_any {w : World} {A : Option Addr} {n c : Nat} {rs : List Mf} (h : RMf w A n rs) (hn : n ≤ 1073741824) (hs : SzM rs) : Calls Try.prog 116 #[.slice A n c] w (RetMo w rs) := by
  have HL := Lib.hid h.len
  have HS := Lib.hid hs
  have HH := Lib.hid h
  clear hs h
  go_enter Try.func116, Try.ntmps116
  go_wp2_with (at_make; refine wpList_mk6 w rfl _ _ 114 rfl w.heap.size _ Try.underlying114 info_mf _ n rfl rfl rfl hn (Nat.le_refl _) ?_; intro L0 w0 hO0 hb0)
  have HR0 : Hid (RowMf w w.heap.size L0 0 n [] [] w0) := Lib.hid ⟨hO0, Fam.nil _ _, rfl, rfl, by simp, hb0, hb0.size⟩
  clear hO0 hb0
  go_wp2_with fail
  go_loopw [3, 11] (fun s3 s8 wr => ∃ (k d : Nat) (L : Option Addr), k ≤ n ∧ s8 = .int .i64 (k : Int) ∧ s3 = .slice L k d ∧ ∃ ps, RowMf w w.heap.size L k d (rs.take k) ps wr) (fun _ s _ => n - (intOf s).toNat)
  case atStart => exact ⟨0, n, L0, Nat.zero_le _, rfl, rfl, [], HR0.out⟩
  case round =>
    obtain ⟨k, d, L, hk, rfl, rfl, ps, hrow⟩ := hrel
    have HR := Lib.hid hrow
    have hR : RMf wr A n rs := HH.out.below hrow.bel
    clear hrow
    by_cases hlt : k < n
    · obtain ⟨b, off, hAb, hbl⟩ := hR.pos (by omega)
      subst hAb
      obtain ⟨x, v0, v1, v2, v3, v4, v5, hx, m0, m1, m2, m3, m4, m5, hev⟩ := hR.at_ k hlt
      obtain ⟨sx1, sx2⟩ := HS.out x (List.mem_of_getElem? hx)
      obtain ⟨K, kn, kc, T, tn, tc, rfl, rfl, rfl, rfl, rfl, rfl, rk, rt, hkc, htc, hkd, htd, hu⟩ := hev.parts
      have hlk := rk.len
      have hlt2 := rt.len
      obtain ⟨U, hU⟩ : ∃ U, U = wr.alloc (.cells #[.slice K kn kc, .slice T tn tc, .int .i64 x.cnt, .int .i64 x.sz, .int .u64 (x.num : Int), .int .i64 x.lv] 113) := ⟨_, rfl⟩
      obtain ⟨g0, hg0⟩ : ∃ g0, g0 = wr.heap.size := ⟨_, rfl⟩
      have bU : Below wr.heap.size wr U := by rw [hU]; exact (Below.refl _ _).alloc (Nat.le_refl _) _
      have zU : Cl U g0 #[.slice K kn kc, .slice T tn tc, .int .i64 x.cnt, .int .i64 x.sz, .int .u64 (x.num : Int), .int .i64 x.lv] 113 := by rw [hU, hg0]; exact Cl.new _ _ _
      have HCK : Hid (∀ wx, Below U.heap.size U wx → Calls Try.prog 136 #[.slice K kn kc] wx (Made wx.heap.size wx x.lo)) := Lib.hid (fun wx hb => Clone_any K kn kc x.lo wx ((rk.below bU).below hb) (by omega) hkd)
      have HCT : Hid (∀ wx, Below U.heap.size U wx → Calls Try.prog 136 #[.slice T tn tc] wx (Made wx.heap.size wx x.hi)) := Lib.hid (fun wx hb => Clone_any T tn tc x.hi wx ((rt.below bU).below hb) (by omega) htd)
      have HZ := Lib.hid zU
      have HBU := Lib.hid bU
      have HLD : Hid (∀ wx, Below U.heap.size U wx → wx.cell? ⟨g0, 0, none⟩ = some (.slice K kn kc) ∧ wx.cell? ⟨g0, 1, none⟩ = some (.slice T tn tc) ∧ wx.frozen? ⟨g0, 0, none⟩ = false ∧ ∀ v, (wx.setCell ⟨g0, 0, none⟩ v).frozen? ⟨g0, 1, none⟩ = false) := Lib.hid (fun wx hb => ⟨(zU.below hb).cell 0, (zU.below hb).cell 1, (zU.below hb).thaw 0, fun v => ((zU.below hb).set 0 v).thaw 1⟩)
      have hgU : g0 < U.heap.size := zU.lt
      have HRU := Lib.hid (HR.out.below bU)
      have HUE := Lib.hid hU
      have HGE := Lib.hid hg0
      have HX := Lib.hid hx
      have q0 : U.cell? ⟨g0, 0, none⟩ = some (.slice K kn kc) := zU.cell 0
      have q1 : U.cell? ⟨g0, 1, none⟩ = some (.slice T tn tc) := zU.cell 1
      have hB1 : Below U.heap.size U U.drew := (Below.refl _ _).drew
      clear hx hev hR rk rt bU zU hU hg0 sx1 sx2 hlk hlt2
      go_upto_region 5 with (fail)
      rw [← HUE.out, ← HGE.out]
      clear m0 m1 m2 m3 m4 m5
      go_region_law (first | (go_simp; go_at_call 136; with_reducible refine (HCK.out _ (by first | exact hB1 | assumption)).mono ?_; intro e wk hq; obtain ⟨C, cn, cc, h1, oC, bC⟩ := Made.outM hq; subst h1; have bC' := belowT' (by first | exact hB1 | assumption : Below U.heap.size U _) bC; obtain ⟨p0, p1, p2, p3⟩ := HLD.out _ bC') | (go_simp; go_at_call 136; with_reducible refine (HCT.out _ (by first | exact hB1 | assumption)).mono ?_; intro e wv hq; obtain ⟨D, dn, dc, h2, oD, bD⟩ := Made.outM hq; subst h2; have bD' := belowT' (by first | exact hB1 | assumption : Below U.heap.size U _) bD; obtain ⟨n0, n1, n2, n3⟩ := HLD.out _ bD'))
      all_goals first
        | (have hsz1 : U.heap.size ≤ wk.heap.size := bC'.size
           obtain ⟨S, hS⟩ : ∃ S, S = (wv.setCell ⟨g0, 0, none⟩ (.slice C cn cc)).setCell ⟨g0, 1, none⟩ (.slice D dn dc) := ⟨_, rfl⟩
           have zS : Cl S g0 #[.slice C cn cc, .slice D dn dc, .int .i64 x.cnt, .int .i64 x.sz, .int .u64 (x.num : Int), .int .i64 x.lv] 113 := by rw [hS]; exact ((HZ.out.below bD').set 0 _).set 1 _
           have bS : Below wr.heap.size wr S := by rw [hS]; exact below_set (below_set (belowT' HBU.out bD') 0 _ (by rw [HGE.out]; exact Nat.le_refl _)) 1 _ (by rw [HGE.out]; exact Nat.le_refl _)
           have HC : Hid (Own 5 S wr.heap.size C cn cc x.lo) := Lib.hid (by rw [hS]; exact ((((oC.mono (show U.heap.size ≤ _ by first | exact Nat.le_refl _ | omega)).below bD).set hgU 0 _).set hgU 1 _).mono (by have := HBU.out.size; omega))
           have HD : Hid (Own 5 S wr.heap.size D dn dc x.hi) := Lib.hid (by rw [hS]; exact (((oD.mono hsz1).set hgU 0 _).set hgU 1 _).mono (by have := HBU.out.size; omega))
           have HJ : Hid (Dj C D) := Lib.hid (Dj.old oC oD (Nat.le_refl _))
           rw [← hS]
           have HSZ := Lib.hid zS
           have HBS := Lib.hid bS
           have HRS := Lib.hid (HR.out.below bS)
           have y0 := zS.cell 0
           have y1 := zS.cell 1
           have y2 := zS.cell 2
           have y3 := zS.cell 3
           have y4 := zS.cell 4
           have y5 := zS.cell 5
           clear oC oD bC bD bC' bD' p0 p1 p2 p3 n0 n1 n2 n3 hsz1 zS bS hS
           go_wp2_with (at_builtin; refine wpList_app6 _ rfl (Operand.tmp 27) (Operand.tmp 29) 114 rfl w.heap.size _ 80 Try.underlying114 info_mf rfl L k d (flatM (rs.take k) ps) (by first | rfl | (simp [Act.eval]; done)) (HRS.out.below ((Below.refl _ _).alloc (Nat.le_refl _) _)).own ⟨S.heap.size, 0, none⟩ 1 1 [.slice C cn cc, .slice D dn dc, .int .i64 x.cnt, .int .i64 x.sz, .int .u64 (x.num : Int), .int .i64 x.lv] (by first | rfl | (simp [Act.eval]; done)) (rdv_of_cl6 (Cl.new S _ _)) (by omega) (by simp [Value.oneCell']) (by unfold maxLen; omega) (by omega) ?_ ?_)
           · have h1 := HRS.out.size; simp; omega
           intro L2 d2 w6 hL hg _
           have HQ : Hid (∃ ps, RowMf w w.heap.size L2 (k + 1) d2 (rs.take (k + 1)) ps w6) := Lib.hid ⟨_, by
             rw [List.take_add_one, HX.out]
             exact RowMf.snoc (qs := [(.slice C cn cc, x.lo), (.slice D dn dc, x.hi)]) HR.out HBS.out (fam_two HC.out HD.out HJ.out) rfl rfl ((Below.refl _ _).alloc (Nat.le_refl _) _) hu hL rfl hg⟩
           clear hL hg y0 y1 y2 y3 y4 y5
           go_wp2_with fail
           go_roundw
           case rel => exact ⟨k + 1, d2, L2, by omega, by go_num, rfl, HQ.out⟩
           case measure => simp [intOf]; omega)
        | (have hsz1 : U.heap.size ≤ wv.heap.size := bD'.size
           obtain ⟨S, hS⟩ : ∃ S, S = (wk.setCell ⟨g0, 0, none⟩ (.slice C cn cc)).setCell ⟨g0, 1, none⟩ (.slice D dn dc) := ⟨_, rfl⟩
           have zS : Cl S g0 #[.slice C cn cc, .slice D dn dc, .int .i64 x.cnt, .int .i64 x.sz, .int .u64 (x.num : Int), .int .i64 x.lv] 113 := by rw [hS]; exact ((HZ.out.below bC').set 0 _).set 1 _
           have bS : Below wr.heap.size wr S := by rw [hS]; exact below_set (below_set (belowT' HBU.out bC') 0 _ (by rw [HGE.out]; exact Nat.le_refl _)) 1 _ (by rw [HGE.out]; exact Nat.le_refl _)
           have HC : Hid (Own 5 S wr.heap.size C cn cc x.lo) := Lib.hid (by rw [hS]; exact (((oC.mono hsz1).set hgU 0 _).set hgU 1 _).mono (by have := HBU.out.size; omega))
           have HD : Hid (Own 5 S wr.heap.size D dn dc x.hi) := Lib.hid (by rw [hS]; exact ((((oD.mono (show U.heap.size ≤ _ by first | exact Nat.le_refl _ | omega)).below bC).set hgU 0 _).set hgU 1 _).mono (by have := HBU.out.size; omega))
           have HJ : Hid (Dj C D) := Lib.hid (Dj.symm (Dj.old oD oC (Nat.le_refl _)))
           rw [← hS]
           have HSZ := Lib.hid zS
           have HBS := Lib.hid bS
           have HRS := Lib.hid (HR.out.below bS)
           have y0 := zS.cell 0
           have y1 := zS.cell 1
           have y2 := zS.cell 2
           have y3 := zS.cell 3
           have y4 := zS.cell 4
           have y5 := zS.cell 5
           clear oC oD bC bD bC' bD' p0 p1 p2 p3 n0 n1 n2 n3 hsz1 zS bS hS
           go_wp2_with (at_builtin; refine wpList_app6 _ rfl (Operand.tmp 27) (Operand.tmp 29) 114 rfl w.heap.size _ 80 Try.underlying114 info_mf rfl L k d (flatM (rs.take k) ps) (by first | rfl | (simp [Act.eval]; done)) (HRS.out.below ((Below.refl _ _).alloc (Nat.le_refl _) _)).own ⟨S.heap.size, 0, none⟩ 1 1 [.slice C cn cc, .slice D dn dc, .int .i64 x.cnt, .int .i64 x.sz, .int .u64 (x.num : Int), .int .i64 x.lv] (by first | rfl | (simp [Act.eval]; done)) (rdv_of_cl6 (Cl.new S _ _)) (by omega) (by simp [Value.oneCell']) (by unfold maxLen; omega) (by omega) ?_ ?_)
           · have h1 := HRS.out.size; simp; omega
           intro L2 d2 w6 hL hg _
           have HQ : Hid (∃ ps, RowMf w w.heap.size L2 (k + 1) d2 (rs.take (k + 1)) ps w6) := Lib.hid ⟨_, by
             rw [List.take_add_one, HX.out]
             exact RowMf.snoc (qs := [(.slice C cn cc, x.lo), (.slice D dn dc, x.hi)]) HR.out HBS.out (fam_two HC.out HD.out HJ.out) rfl rfl ((Below.refl _ _).alloc (Nat.le_refl _) _) hu hL rfl hg⟩
           clear hL hg y0 y1 y2 y3 y4 y5
           go_wp2_with fail
           go_roundw
           case rel => exact ⟨k + 1, d2, L2, by omega, by go_num, rfl, HQ.out⟩
           case measure => simp [intOf]; omega)
    · obtain rfl : k = n := by omega
      have htk : rs.take k = rs := List.take_of_length_le (by rw [HL.out]; exact Nat.le_refl _)
      have HF : Hid (RetMo w rs (.returned (.slice L k d)) wr) := Lib.hid ⟨L, k, d, ps, rfl, by have := HR.out; rw [htk] at this; exact this⟩
      clear htk hR
      go_wp2_with fail
      go_ret
      exact HF.out
end Go.Proofs.Ytlnpicfkcahdbaa
