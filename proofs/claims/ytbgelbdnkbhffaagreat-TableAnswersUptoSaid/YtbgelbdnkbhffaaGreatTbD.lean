/- Table: seal. A file's bytes out of its groups. No condition but sizes. -/
import Derived.Test.YtbgelbdnkbhffaaGreatDskB
import Derived.Test.YtbgelbdnkbhffaaGreatEnC
import Derived.Laws.MakeOwn
import Derived.Deep.RegionLaw
import Derived.Lib.SmallJoins
import Derived.Test.YtbgelbdnkbhffaaGreatEnL
import Derived.Test.YtbgelbdnkbhffaaGreatEnB
import Derived.Laws.BytesArg
import Derived.Deep.QuietTactic
import Derived.BigQuiet
import Derived.Lib.SliceRun
import Derived.Test.YtbgelbdnkbhffaaGreatMathF
import Derived.Test.YtbgelbdnkbhffaaGreatCrcS
import Derived.Test.YtbgelbdnkbhffaaGreatGetU
import Derived.Sort.OwnSorted
import Derived.Test.YtbgelbdnkbhffaaGreatStepA
import Derived.Test.YtbgelbdnkbhffaaGreatCrcQ
namespace Go.Proofs.YtbgelbdnkbhffaaGreat
open Go Go.RowKit

/-- What a list that is picked out of another comes to. -/
def RetPick (w : World) (es : List En) (us : List Value) (e : Ending) (w' : World) : Prop :=
  ∃ L k d vs, e = .returned (.slice L k d) ∧ OwnE w' w.heap.size L k d vs ∧ EVs w' es vs ∧ es.length = k ∧ Below w.heap.size w w' ∧ ∀ u ∈ vs, u ∈ us
theorem RetPick.out {w : World} {es : List En} {us : List Value} {e : Ending} {w' : World} (h : RetPick w es us e w') : ∃ L k d vs, e = .returned (.slice L k d) ∧ OwnE w' w.heap.size L k d vs ∧ EVs w' es vs ∧ es.length = k ∧ Below w.heap.size w w' ∧ ∀ u ∈ vs, u ∈ us := h
theorem RetPick.res {w : World} {es : List En} {us : List Value} {e : Ending} {w' : World} (h : RetPick w es us e w') : ∃ L k d, e = .returned (.slice L k d) ∧ REs w' L k es ∧ k ≤ d ∧ Below w.heap.size w w' := by
  obtain ⟨L, k, d, vs, h1, h2, h3, h4, h5, _⟩ := h
  exact ⟨L, k, d, h1, REs.mk h3 h2.rd h4, h2.cap.1, h5⟩
/-- 'So far picked.' -/
def Pck (w : World) (us : List Value) (es : List En) (L : Option Addr) (k d : Nat) (wr : World) : Prop :=
  ∃ vs, OwnE wr w.heap.size L k d vs ∧ EVs w es vs ∧ es.length = k ∧ Below w.heap.size w wr ∧ ∀ u ∈ vs, u ∈ us
theorem Pck.zero (w : World) (us : List Value) : Pck w us [] none 0 0 w := ⟨[], OwnE.nil _ _, rfl, rfl, Below.refl _ _, fun u hu => by cases hu⟩
theorem Pck.below {w wr w' : World} {us : List Value} {es : List En} {L : Option Addr} {k d : Nat} (h : Pck w us es L k d wr) (hb : Below wr.heap.size wr w') : Pck w us es L k d w' := by
  obtain ⟨vs, h1, h2, h3, h4, h5⟩ := h
  exact ⟨vs, h1.below hb, h2, h3, belowT' h4 hb, h5⟩
theorem Pck.bel {w wr : World} {us : List Value} {es : List En} {L : Option Addr} {k d : Nat} (h : Pck w us es L k d wr) : Below w.heap.size w wr := by
  obtain ⟨vs, h1, h2, h3, h4, h5⟩ := h
  exact h4
theorem Pck.len {w wr : World} {us : List Value} {es : List En} {L : Option Addr} {k d : Nat} (h : Pck w us es L k d wr) : es.length = k := by
  obtain ⟨vs, h1, h2, h3, h4, h5⟩ := h
  exact h3
theorem Pck.ret {w wr : World} {us : List Value} {es : List En} {L : Option Addr} {k d : Nat} (h : Pck w us es L k d wr) : RetPick w es us (.returned (.slice L k d)) wr := by
  obtain ⟨vs, h1, h2, h3, h4, h5⟩ := h
  exact ⟨L, k, d, vs, rfl, h1, h2.below h4, h3, h4, h5⟩
theorem Pck.snoc {w w4 : World} {us vs : List Value} {es : List En} {L' : Option Addr} {k d' : Nat} {x : En} {v0 v1 v2 v3 : Value} (h2 : EVs w es vs) (h3 : es.length = k) (h5 : ∀ u ∈ vs, u ∈ us)
    (hx : EV w x v0 v1 v2 v3) (hm : ∀ u ∈ [v0, v1, v2, v3], u ∈ us) (o4 : OwnE w4 w.heap.size L' (k + 1) d' (vs ++ [v0, v1, v2, v3])) (b4 : Below w.heap.size w w4) : Pck w us (es ++ [x]) L' (k + 1) d' w4 :=
  ⟨vs ++ [v0, v1, v2, v3], o4, h2.app (EVs.one hx), by simp [h3], b4, fun u hu => by
    rcases List.mem_append.1 hu with h | h
    · exact h5 u h
    · exact hm u h⟩
theorem mem4 {w : World} {A : Option Addr} {n k b off : Nat} {es : List En} {ovs : List Value} (hv : EVs w es ovs) (hd : RdV w A (n * 4) ovs) (hl : es.length = n) (hA : A = some ⟨b, off, none⟩) (hk : k < n) :
    ∃ e v0 v1 v2 v3, es[k]? = some e ∧ w.cell? ⟨b, off + k * 4, none⟩ = some v0 ∧ w.cell? ⟨b, off + k * 4 + 1, none⟩ = some v1 ∧
      w.cell? ⟨b, off + k * 4 + 2, none⟩ = some v2 ∧ w.cell? ⟨b, off + k * 4 + 3, none⟩ = some v3 ∧ EV w e v0 v1 v2 v3 ∧ ∀ u ∈ [v0, v1, v2, v3], u ∈ ovs := by
  subst hA
  obtain ⟨b', off', e, hb, hc⟩ := hd.2 (by omega)
  injection e with e
  injection e with e1 e2
  subst e1 e2
  obtain ⟨x, hx⟩ : ∃ x, es[k]? = some x := ⟨_, List.getElem?_eq_getElem (by omega)⟩
  obtain ⟨v0, v1, v2, v3, e0, e1, e2, e3, g0⟩ := hv.at_ k hx
  refine ⟨x, v0, v1, v2, v3, hx, hc _ _ e0, ?_, ?_, ?_, g0, fun u hu => ?_⟩
  · rw [Nat.add_assoc]; exact hc _ _ e1
  · rw [Nat.add_assoc]; exact hc _ _ e2
  · rw [Nat.add_assoc]; exact hc _ _ e3
  · simp only [List.mem_cons, List.not_mem_nil, or_false] at hu
    rcases hu with rfl | rfl | rfl | rfl
    · exact List.mem_of_getElem? e0
    · exact List.mem_of_getElem? e1
    · exact List.mem_of_getElem? e2
    · exact List.mem_of_getElem? e3
theorem filter_snoc {es : List En} {k : Nat} {x : En} {p : En → Bool} (hx : es[k]? = some x) : (es.take (k + 1)).filter p = (es.take k).filter p ++ (if p x then [x] else []) := by
  rw [List.take_add_one, hx, List.filter_append]
  simp only [Option.toList, List.filter_cons, List.filter_nil]
set_option maxRecDepth 100000 in
set_option maxHeartbeats 8000000 in
theorem refRange_any {w : World} {A F T : Option Addr} {n c fn fc tn tc : Nat} {es : List En} {ovs : List Value} {xs ys : List UInt8} (hv : EVs w es ovs) (hd : RdV w A (n * 4) ovs) (hl : es.length = n) (hn : n ≤ 1099511627776) (hs : ∀ x ∈ es, SzE x) (hf : Rd w F fn xs) (ht : Rd w T tn ys) (hfn : fn ≤ maxLen) (htn : tn ≤ maxLen) :
    Calls Tryz.prog 20 #[.slice A n c, .slice F fn fc, .slice T tn tc] w (RetPick w (es.filter (inR xs ys)) ovs) := by
  have HV := Lib.hid hv
  have HD := Lib.hid hd
  have HL := Lib.hid hl
  have HS := Lib.hid hs
  have HF := Lib.hid hf
  have HT := Lib.hid ht
  clear hv hd hl hs hf ht
  go_enter Tryz.func20, Tryz.ntmps20
  go_wp2_with fail
  go_loopw [7, 8] (fun s7 s8 wr => ∃ (k m d : Nat) (L : Option Addr), k ≤ n ∧ s8 = .int .i64 (k : Int) ∧ s7 = .slice L m d ∧ Pck w ovs ((es.take k).filter (inR xs ys)) L m d wr) (fun _ s _ => n - (intOf s).toNat)
  case atStart => exact ⟨0, 0, 0, none, Nat.zero_le _, rfl, rfl, Pck.zero w ovs⟩
  case round =>
    obtain ⟨k, m, d, L, hk, rfl, rfl, hp⟩ := hrel
    have HP := Lib.hid hp
    have HB := Lib.hid hp.bel
    clear hp
    by_cases hlt : k < n
    · obtain ⟨b, off, hAb, hbl⟩ : ∃ b off, A = some ⟨b, off, none⟩ ∧ b < w.heap.size := HD.out.pos (by omega)
      obtain ⟨x, v0, v1, v2, v3, hx, c0, c1, c2, c3, hev, hmem⟩ := mem4 HV.out HD.out HL.out hAb hlt
      have HAB := Lib.hid hAb
      subst hAb
      have hsx := HS.out x (List.mem_of_getElem? hx)
      have HEV := Lib.hid hev
      have HMEM := Lib.hid hmem
      have HXK := Lib.hid hx
      have HCW : Hid (w.cell? ⟨b, off + k * 4, none⟩ = some v0 ∧ w.cell? ⟨b, off + k * 4 + 1, none⟩ = some v1 ∧ w.cell? ⟨b, off + k * 4 + 2, none⟩ = some v2 ∧ w.cell? ⟨b, off + k * 4 + 3, none⟩ = some v3) := Lib.hid ⟨c0, c1, c2, c3⟩
      obtain ⟨K, kn, kc, V, vn, vc, rfl, rfl, rfl, rfl, r0, _⟩ := hev.parts
      have hkn : kn ≤ maxLen := maxLen_e (by rw [← r0.len]; exact hsx.1)
      obtain ⟨z1, hz1⟩ : ∃ z, cmpB x.key xs = z := ⟨_, rfl⟩
      obtain ⟨z2, hz2⟩ : ∃ z, cmpB x.key ys = z := ⟨_, rfl⟩
      have HC1 : Hid (Calls Tryz.prog 24 #[.slice K kn kc, .slice F fn fc] wr (RetZ wr z1)) := Lib.hid (refCmp_is _ _ _ _ _ _ x.key xs z1 hz1 _ (r0.below HB.out) (HF.out.below HB.out) hkn hfn)
      have HC2 : Hid (∀ q, Calls Tryz.prog 24 #[.slice K kn kc, .slice T tn tc] (wr.drewN q) (RetZ (wr.drewN q) z2)) := Lib.hid (fun q => refCmp_is _ _ _ _ _ _ x.key ys z2 hz2 _ (((r0.below HB.out)).drewN q) ((HT.out.below HB.out).drewN q) hkn htn)
      have hyl := HT.out.len
      obtain ⟨zz, hzz⟩ : ∃ zz, zz = inR xs ys x := ⟨_, rfl⟩
      have HIR : Hid (zz = (decide (0 ≤ z1) && decide (tn = 0 ∨ z2 < 0))) := Lib.hid (by rw [hzz]; unfold inR; rw [hz1, hz2, hyl])
      have HFT : Hid ((es.take (k + 1)).filter (inR xs ys) = (es.take k).filter (inR xs ys) ++ (if zz then [x] else [])) := Lib.hid (by rw [hzz]; exact filter_snoc HXK.out)
      have hB := HB.out
      have d0 := (hB.cell (p := ⟨b, off + k * 4, none⟩) hbl).trans c0
      have d1 := (hB.cell (p := ⟨b, off + k * 4 + 1, none⟩) hbl).trans c1
      have d2 := (hB.cell (p := ⟨b, off + k * 4 + 2, none⟩) hbl).trans c2
      have d3 := (hB.cell (p := ⟨b, off + k * 4 + 3, none⟩) hbl).trans c3
      clear hx c0 c1 c2 c3 hev hmem r0 hz1 hz2 hyl hzz hB
      go_upto_region 5 with (fail)
      go_cut [37] from 9 to 38 (fun s37 wx => s37 = .bool zz ∧ ∃ q, wx = wr.drewN q)
      case first =>
        by_cases t1 : 0 ≤ z1
        · have h1 : decide (0 ≤ z1) = true := by simpa using t1
          by_cases t2 : tn = 0
          · have HZ : Hid (zz = true) := Lib.hid (by rw [HIR.out, h1]; simp [t2])
            have h2 : ((tn : Int) == 0) = true := by simpa using t2
            clear t2
            go_wp2_with fail
            with_reducible refine HC1.out.mono ?_
            rintro e w1 ⟨rfl, q, rfl⟩
            go_wp2_with fail
            go_meet
            exact ⟨by rw [HZ.out], _, rfl⟩
          · have h2 : ((tn : Int) == 0) = false := by simpa using t2
            go_wp2_with fail
            with_reducible refine HC1.out.mono ?_
            rintro e w1 ⟨rfl, q, rfl⟩
            go_wp2_with fail
            with_reducible refine (HC2.out q).mono ?_
            rintro e w1 ⟨rfl, q2, rfl⟩
            go_wp2_with fail
            go_meet
            exact ⟨by rw [HIR.out, h1]; simp [t2], q + q2, rfl⟩
        · have h1 : decide (0 ≤ z1) = false := by simpa using t1
          go_wp2_with fail
          with_reducible refine HC1.out.mono ?_
          rintro e w1 ⟨rfl, q, rfl⟩
          go_wp2_with fail
          go_meet
          exact ⟨by rw [HIR.out, h1]; rfl, q, rfl⟩
      case rest =>
        obtain ⟨rfl, q, rfl⟩ := hcut
        cases zz with
        | true =>
          have B1 : Below wr.heap.size wr (wr.drewN q) := below_drewN (Below.refl _ _) q
          have HP1 := Lib.hid (HP.out.below B1)
          obtain ⟨vs, o1, hev1, hlen1, hb1, hm1⟩ := HP1.out
          have O1 := Lib.hid o1
          have HE1 := Lib.hid hev1
          have HL1 := Lib.hid hlen1
          have HM1 := Lib.hid hm1
          have HB1 := Lib.hid hb1
          obtain ⟨W, hW⟩ : ∃ W, W = wr.drewN q := ⟨_, rfl⟩
          rw [← hW] at O1 HB1 ⊢
          have hmn : m ≤ n := by rw [← HL1.out]; exact Nat.le_trans (List.length_filter_le _ _) (by rw [List.length_take]; omega)
          have bl : Below W.heap.size W (W.alloc (.cells #[.slice K kn kc, .int .u64 (x.seq : Int), .int .u8 (x.kind : Int), .slice V vn vc] 49)) := (Below.refl _ _).alloc (Nat.le_refl _) _
          have O1' := Lib.hid (O1.out.below bl)
          have r2 := Lib.hid (rdv_of_cl (Cl.new W #[.slice K kn kc, .int .u64 (x.seq : Int), .int .u8 (x.kind : Int), .slice V vn vc] 49))
          have BL := Lib.hid bl
          have sW := HB1.out.size
          obtain ⟨e0, e1, e2, e3⟩ : W.cell? ⟨b, off + k * 4, none⟩ = some (.slice K kn kc) ∧ W.cell? ⟨b, off + k * 4 + 1, none⟩ = some (.int .u64 (x.seq : Int)) ∧ W.cell? ⟨b, off + k * 4 + 2, none⟩ = some (.int .u8 (x.kind : Int)) ∧ W.cell? ⟨b, off + k * 4 + 3, none⟩ = some (.slice V vn vc) := by rw [hW]; exact ⟨d0, d1, d2, d3⟩
          clear o1 hev1 hlen1 hb1 hm1 hW bl d0 d1 d2 d3 B1
          go_wp2_with (at_builtin; refine wpList_app4 (W.alloc (.cells #[.slice K kn kc, .int .u64 (x.seq : Int), .int .u8 (x.kind : Int), .slice V vn vc] 49)) rfl _ _ 22 rfl w.heap.size _ 64 Tryz.underlying22 info_ent rfl L m d vs rfl O1'.out (some ⟨W.heap.size, 0, none⟩) 1 1 [.slice K kn kc, .int .u64 (x.seq : Int), .int .u8 (x.kind : Int), .slice V vn vc] rfl r2.out HEV.out.cells ?_ ?_ ?_ ?_)
          · omega
          · omega
          intro A2 c2 w2 o2 _ b2
          have HP2 : Hid (Pck w ovs ((es.take (k + 1)).filter (inR xs ys)) A2 (m + 1) c2 w2) := Lib.hid (by
            rw [HFT.out]
            exact Pck.snoc HE1.out HL1.out HM1.out HEV.out HMEM.out o2 ((HB1.out.trans (BL.out.mono sW)).trans b2))
          clear o2 b2 e0 e1 e2 e3
          go_wp2_with fail
          go_roundw
          case rel => exact ⟨k + 1, m + 1, c2, A2, by omega, by go_num, rfl, HP2.out⟩
          case measure => simp [intOf]; omega
        | false =>
          have HP2 : Hid (Pck w ovs ((es.take (k + 1)).filter (inR xs ys)) L m d (wr.drewN q)) := Lib.hid (by
            rw [HFT.out]
            simpa using HP.out.below (below_drewN (Below.refl _ _) q))
          clear d0 d1 d2 d3
          go_wp2_with fail
          go_roundw
          case rel => exact ⟨k + 1, m, d, L, by omega, by go_num, rfl, HP2.out⟩
          case measure => simp [intOf]; omega
    · have htk := take_all HL.out hlt
      rw [htk] at HP
      clear htk
      go_wp2
      go_ret
      exact HP.out.ret
end Go.Proofs.YtbgelbdnkbhffaaGreat
namespace Go.Proofs.YtbgelbdnkbhffaaGreat
open Go Go.RowKit

/-- What a table's Get hands back: nothing, or a copy. -/
def RetGt (w : World) (o : Option En) (e : Ending) (w' : World) : Prop :=
  (o = none ∧ e = .returned (.tuple #[.agg #[.slice none 0 0, .int .u64 0, .int .u8 0, .slice none 0 0], .bool false]) ∧ Below w.heap.size w w') ∨
  ∃ x K kn kc V vn vc, o = some x ∧ e = .returned (.tuple #[.agg #[.slice K kn kc, .int .u64 (x.seq : Int), .int .u8 (x.kind : Int), .slice V vn vc], .bool true]) ∧ Own 5 w' w.heap.size K kn kc x.key ∧ Own 5 w' w.heap.size V vn vc x.val ∧ Below w.heap.size w w' ∧ Dj K V
theorem szE_of {x : En} (h : wE x ≤ 2097152) : SzE x := by
  unfold wE at h
  exact ⟨by omega, by omega⟩
theorem Fam.tail {w : World} {base : Nat} {p : VB} {ps : List VB} (h : Fam w base (p :: ps)) : Fam w base ps := ⟨fun q hq => h.1 q (by simp [hq]), (List.pairwise_cons.1 h.2).2⟩
def zeE2 : En := ⟨[], 0, 0, []⟩
/-- What Get hands back, in one form. -/
theorem RetGt.both {w : World} {o : Option En} {e : Ending} {w' : World} (h : RetGt w o e w') (hw : ∀ x, o = some x → U64 x.seq ∧ x.kind < 256) : ∃ K kn kc V vn vc, e = .returned (.tuple #[.agg #[.slice K kn kc, .int .u64 ((o.getD zeE2).seq : Int), .int .u8 ((o.getD zeE2).kind : Int), .slice V vn vc], .bool o.isSome]) ∧
    EO w.heap.size w' (o.getD zeE2) (.slice K kn kc) (.int .u64 ((o.getD zeE2).seq : Int)) (.int .u8 ((o.getD zeE2).kind : Int)) (.slice V vn vc) ∧ Dj K V ∧ Below w.heap.size w w' := by
  rcases h with ⟨rfl, rfl, h⟩ | ⟨x, K, kn, kc, V, vn, vc, rfl, rfl, o1, o2, h, dj⟩
  · exact ⟨none, 0, 0, none, 0, 0, rfl, ⟨none, 0, 0, none, 0, 0, rfl, rfl, rfl, rfl, Own.nil _ _ _, Own.nil _ _ _, by unfold U64; simp [zeE2], by simp [zeE2]⟩, (fun b h => by cases h), h⟩
  · exact ⟨K, kn, kc, V, vn, vc, rfl, ⟨K, kn, kc, V, vn, vc, rfl, rfl, rfl, rfl, o1, o2, hw x rfl⟩, dj, h⟩
theorem RetGl.both {w : World} {o : Option En} {e : Ending} {w' : World} (h : RetGl w o e w') : ∃ v0 v1 v2 v3, e = .returned (.tuple #[.agg #[v0, v1, v2, v3], .bool o.isSome]) ∧ EV w' (o.getD zeE2) v0 v1 v2 v3 ∧ Below w.heap.size w w' := by
  rcases h with ⟨rfl, rfl, h⟩ | ⟨x, v0, v1, v2, v3, rfl, rfl, h1, h2⟩
  · exact ⟨_, _, _, _, rfl, ⟨rfl, rfl, by unfold U64; simp [zeE2], by simp [zeE2], ⟨none, 0, 0, rfl, Rd.nil _ _, Nat.le_refl _, fun _ => rfl⟩, ⟨none, 0, 0, rfl, Rd.nil _ _, Nat.le_refl _, fun _ => rfl⟩⟩, h⟩
  · exact ⟨_, _, _, _, rfl, h1, h2⟩
theorem findL_sz2 {key : List UInt8} {at_ : Nat} {es : List En} (hs : ∀ x ∈ es, wE x ≤ 2097152) : wE ((findL key at_ es).getD zeE2) ≤ 2097152 := by
  cases h : findL key at_ es with
  | none => simp [zeE2, wE]
  | some x => exact hs x (List.mem_of_find?_eq_some h)
/-- 'A copy of these bytes.' -/
def Ow (w : World) (C : Option Addr) (cn cc : Nat) (xs : List UInt8) : Prop := ∃ b, Own 5 w b C cn cc xs
theorem Ow.mk {w : World} {b : Nat} {C : Option Addr} {cn cc : Nat} {xs : List UInt8} (h : Own 5 w b C cn cc xs) : Ow w C cn cc xs := ⟨b, h⟩
theorem Ow.below {w w' : World} {C : Option Addr} {cn cc : Nat} {xs : List UInt8} (h : Ow w C cn cc xs) (hb : Below w.heap.size w w') : Ow w' C cn cc xs := by
  obtain ⟨b, h⟩ := h
  exact ⟨b, h.below hb⟩
theorem EO.set2 {w : World} {base g : Nat} {e : En} {v0 v1 v2 v3 : Value} (h : EO base w e v0 v1 v2 v3) (hg : g < base) (i : Nat) (v : Value) : EO base (w.setCell ⟨g, i, none⟩ v) e v0 v1 v2 v3 := by
  obtain ⟨K, kn, kc, V, vn, vc, h1, h2, h3, h4, o1, o2, u⟩ := h
  exact ⟨K, kn, kc, V, vn, vc, h1, h2, h3, h4, o1.set hg i v, o2.set hg i v, u⟩
theorem EO.owns {w : World} {base kn kc vn vc : Nat} {e : En} {K V : Option Addr} {s1 s2 : Value} (h : EO base w e (.slice K kn kc) s1 s2 (.slice V vn vc)) : Own 5 w base K kn kc e.key ∧ Own 5 w base V vn vc e.val := by
  obtain ⟨K', kn', kc', V', vn', vc', e1, _, _, e4, o1, o2, _⟩ := h
  injection e1 with a1 a2 a3
  injection e4 with b1 b2 b3
  subst a1 a2 a3 b1 b2 b3
  exact ⟨o1, o2⟩
/-- The box of an answer, filled. -/
def Bx (W1 : World) (y : En) (z : Bool) (s16 s17 : Value) (wx : World) : Prop :=
  ∃ (g base : Nat) (C : Option Addr) (cn cc : Nat) (D : Option Addr) (dn dc : Nat), s16 = .pointer (some ⟨g, 0, none⟩) ∧ s17 = .bool z ∧ Below W1.heap.size W1 wx ∧ Cl wx g #[.slice C cn cc, .int .u64 (y.seq : Int), .int .u8 (y.kind : Int), .slice D dn dc] 49 ∧ EO base wx y (.slice C cn cc) (.int .u64 (y.seq : Int)) (.int .u8 (y.kind : Int)) (.slice D dn dc) ∧ Dj C D ∧ W1.heap.size ≤ base
theorem Bx.put {W1 w5 X : World} {y : En} {z : Bool} {g base cn cc dn dc : Nat} {C D : Option Addr} {q : Array Value} (hb : Below W1.heap.size W1 w5) (hz : Cl w5 g q 49) (hq : q.size = 4) (hg : W1.heap.size ≤ g) (hgb : g < base) (he : EO base w5 y (.slice C cn cc) (.int .u64 (y.seq : Int)) (.int .u8 (y.kind : Int)) (.slice D dn dc)) (dj : Dj C D)
    (hX : X = ((((w5.setCell ⟨g, 0, none⟩ (.slice C cn cc)).setCell ⟨g, 1, none⟩ (.int .u64 (y.seq : Int))).setCell ⟨g, 2, none⟩ (.int .u8 (y.kind : Int))).setCell ⟨g, 3, none⟩ (.slice D dn dc))) : Bx W1 y z (.pointer (some ⟨g, 0, none⟩)) (.bool z) X := by
  subst hX
  exact ⟨g, base, C, cn, cc, D, dn, dc, rfl, rfl, below_set (below_set (below_set (below_set hb 0 _ hg) 1 _ hg) 2 _ hg) 3 _ hg, hz.put4 hq _ _ _ _, (((he.set2 hgb 0 _).set2 hgb 1 _).set2 hgb 2 _).set2 hgb 3 _, dj, by omega⟩
theorem Bx.new {W1 w5 : World} {y : En} {z : Bool} {base cn cc dn dc : Nat} {C D : Option Addr} (hb : Below W1.heap.size W1 w5) (hgb : W1.heap.size ≤ base) (he : EO base w5 y (.slice C cn cc) (.int .u64 (y.seq : Int)) (.int .u8 (y.kind : Int)) (.slice D dn dc)) (dj : Dj C D) :
    Bx W1 y z (.pointer (some ⟨w5.heap.size, 0, none⟩)) (.bool z) (w5.alloc (.cells #[.slice C cn cc, .int .u64 (y.seq : Int), .int .u8 (y.kind : Int), .slice D dn dc] 49)) :=
  ⟨_, base, C, cn, cc, D, dn, dc, rfl, rfl, hb.alloc hb.size _, Cl.new _ _ _, he.below ((Below.refl _ _).alloc (Nat.le_refl _) _), dj, hgb⟩
def RetRs (w : World) (es : List En) (e : Ending) (w' : World) : Prop := ∃ L k d, e = .returned (.slice L k d) ∧ REs w' L k es ∧ Below w.heap.size w w'
theorem RetRs.out {w : World} {es : List En} {e : Ending} {w' : World} (h : RetRs w es e w') : ∃ L k d, e = .returned (.slice L k d) ∧ REs w' L k es ∧ Below w.heap.size w w' := h
end Go.Proofs.YtbgelbdnkbhffaaGreat
namespace Go.Proofs.YtbgelbdnkbhffaaGreat
open Go Go.RowKit

section
variable {w : World} {A : Option Addr} {n c : Nat} {es : List En}
end
end Go.Proofs.YtbgelbdnkbhffaaGreat
namespace Go.Proofs.YtbgelbdnkbhffaaGreat
open Go Go.RowKit

/-- Rows of other kinds lie in other blocks than an entry's bytes. -/
theorem eos_off {base : Nat} {w : World} {t : TypeId} {s b1 n c j : Nat} {L : Option Addr} {us : List Value} (k : w.ownsRow b1 t s (.slice L n c) j us) (hne : t ≠ 5) : ∀ {es : List En} {vs : List Value}, EOs base w es vs → OffW vs (blk L)
  | [], _, h => by rw [show _ = [] from h]; exact OffW.nil _
  | e :: es, vs, h => fun g hg A m d hv => by
    obtain ⟨v0, v1, v2, v3, r, rfl, ⟨K, kn, kc, V, vn, vc, rfl, rfl, rfl, rfl, o1, o2, _⟩, h2⟩ := h
    have ih := eos_off k hne h2 g hg A m d
    simp only [List.mem_cons] at hv
    rcases hv with e | e | e | e | e
    · injection e with e1 e2 e3
      rw [e1]
      exact fun h => row_ne k o1 hne g hg h
    · cases e
    · cases e
    · injection e with e1 e2 e3
      rw [e1]
      exact fun h => row_ne k o2 hne g hg h
    · exact ih e
end Go.Proofs.YtbgelbdnkbhffaaGreat
namespace Go.Proofs.YtbgelbdnkbhffaaGreat
open Go Go.RowKit

theorem grow_set {w w' : World} {row : Option Nat} (h : w.grownBy w' row) (p : Nat) (i : Nat) (v : Value) (hp : row = some p) : w.grownBy (World.setCell w' ⟨p, i, none⟩ v) row := by
  obtain ⟨h1, h2, h3, h4, h5⟩ := h
  have k := (Below.refl p w').setCell (p := ⟨p, i, none⟩) (Nat.le_refl _) v
  exact ⟨k.os.trans h1, k.tape.trans h2, k.output.trans h3, Nat.le_trans h4 k.size, fun b hb hne => by
    have hbp : b ≠ p := fun e => hne (by rw [e]; exact hp.symm)
    rw [heap_setCell_other _ _ _ _ hbp]
    exact h5 b hb hne⟩
end Go.Proofs.YtbgelbdnkbhffaaGreat
namespace Go.Proofs.YtbgelbdnkbhffaaGreat
open Go Go.RowKit

theorem Rd.cst8 (w : World) (e : TypeId) (n : Nat) (xs : List UInt8) (hn : xs.length = n) (vs : Array Value) (hv : vs = (xs.map cv).toArray) (fr : Nat × Nat) (g : Nat) (hg : g = w.heap.size) :
    Rd (w.alloc (.cells vs e fr)) (some ⟨g, 0, none⟩) n xs := by
  subst hv hg
  refine ⟨hn, fun _ => ⟨w.heap.size, 0, rfl, by simp, fun i x hx => ?_⟩⟩
  have h := cell_of_row (w.alloc (.cells (xs.map cv).toArray e fr)) w.heap.size (0 + i) (xs.map cv).toArray e fr (heap_alloc_new w _)
  rw [h]
  simp [hx, cv]

def e81 : En := ⟨[97, 98], 5, 1, [120]⟩
def e82 : En := ⟨[97, 98, 99], 7, 2, []⟩
theorem b8 : (buildE 2 [e81, e82]).2 = 0 ∧ (buildE 2 [e81, e82]).1.length = 30 ∧ (buildE 2 [e81, e82]).1[8]? = some 0 ∧ (buildE 2 [e81, e82]).1[9]? = some 2 ∧ (buildE 2 [e81, e82]).1[10]? = some 5 ∧ (buildE 2 [e81, e82]).1[16]? = some 2 ∧ (buildE 2 [e81, e82]).1[17]? = some 1 ∧ (buildE 2 [e81, e82]).1[18]? = some 7 := by decide +kernel
end Go.Proofs.YtbgelbdnkbhffaaGreat
namespace Go.Proofs.YtbgelbdnkbhffaaGreat
open Go Go.RowKit

def lenV : Value → Nat
  | .slice _ n _ => n
  | _ => 0
/-- What parse hands back: the entries, the every; or none. -/
def RetPa8 (w : World) (r : Option (List En × Nat)) (e : Ending) (w' : World) : Prop :=
  (r = none ∧ e = .returned (.tuple #[.slice none 0 0, .int .i64 0, .bool false]) ∧ Below w.heap.size w w') ∨
  ∃ es ev L d, r = some (es, ev) ∧ e = .returned (.tuple #[.slice L es.length d, .int .i64 (ev : Int), .bool true]) ∧ RowE w w.heap.size L es.length d es w' ∧ es.length ≤ 16777216 ∧ ev ≤ 16777216
/-- What stands at the head of parse's loop. -/
def PRel (w : World) (p : Nat) (E : Option Addr) (en ec : Nat) (ys : List UInt8) (sec : Int) (s10 s11 s12 : Value) (wr : World) : Prop :=
  ∃ (f a i d hn hc ev : Nat) (es : List En) (L H : Option Addr) (vs : List Value), s10 = .int .i64 (ev : Int) ∧ s11 = .slice L i d ∧ s12 = .slice H hn hc ∧
    parR ys sec (en + 1) 0 [] 0 = parR ys sec f a es ev ∧ a ≤ en ∧ en < a + f ∧ i ≤ a ∧ ev ≤ i ∧ Rdr wr p E en ec (a, false) ∧ PR w.heap.size wr.heap.size p L i d es wr vs ∧
    Rd wr H hn (lastK es) ∧ hn ≤ hc ∧ (H = none → hc = 0) ∧ blk H ≠ some p ∧ hn ≤ 1024 ∧ Below w.heap.size w wr
set_option maxRecDepth 100000 in
set_option maxHeartbeats 16000000 in
theorem parse_any (A : Option Addr) (n c : Nat) (xs : List UInt8) (w : World) (hx : Rd w A n xs) (hn : n ≤ 16777216) (hnc : n ≤ c) (hnil : A = none → c = 0) :
    Calls Tryz.prog 181 #[.slice A n c] w (RetPa8 w (parB xs)) := by
  have hxl := hx.len
  have HSP := Lib.hid (split_any A n c xs w hx (by omega) hnc hnil)
  cases hsb : splitB xs with
  | none =>
    have hp : parB xs = none := by unfold parB; rw [hsb]
    have HP := Lib.hid hp
    clear hp hx hxl
    go_enter Tryz.func181, Tryz.ntmps181
    go_wp2_with fail
    refine HSP.out.mono ?_
    rintro e w1 ⟨⟨q, hq⟩, ⟨_, rfl⟩ | ⟨ys, zs, B1, n1, c1, B2, n2, c2, h0, _⟩⟩
    · have HQ := Lib.hid hq
      clear hq
      go_wp2_with fail
      exact bodyPost_ret (v := .tuple #[.slice none 0 0, .int .i64 0, .bool false]) (by simp [results, Tryz.f181, go_sem]; try rfl) rfl (.inl ⟨HP.out, rfl, by rw [HQ.out]; exact below_drewN (Below.refl _ _) q⟩)
    · rw [hsb] at h0
      cases h0
  | some yz =>
    obtain ⟨ys, zs⟩ := yz
    obtain ⟨sec, hsec⟩ : ∃ sec : Int, sec = if 8 ≤ zs.length then (numK (zs.drop 4) 4 : Int) else -1 := ⟨_, rfl⟩
    have hp : parB xs = match parR ys sec (ys.length + 1) 0 [] 0 with
      | none => none
      | some (es, ev) => some (es, if sec < 0 then max es.length 1 else ev) := by
      unfold parB
      rw [hsb]
      simp only
      rw [← hsec]
      all_goals (cases parR ys sec (ys.length + 1) 0 [] 0 <;> rfl)
    have HP := Lib.hid hp
    have HSEC := Lib.hid hsec
    have HSB := Lib.hid hsb
    clear hp hsec hsb
    go_enter Tryz.func181, Tryz.ntmps181
    go_wp2_with fail
    refine HSP.out.mono ?_
    rintro e w1 ⟨⟨q, hq⟩, ⟨h0, _⟩ | ⟨ys', zs', E, en, ec, Z, zn, zc, h0, rfl, hec, hzc, rE, rZ, hEn, hZn, hEA, hlen⟩⟩
    · rw [HSB.out] at h0
      cases h0
    · rw [HSB.out] at h0
      injection h0 with h0
      injection h0 with h01 h02
      subst h01 h02
      have rE1 : Rd w1 E en ys := by rw [hq]; exact rE.drewN q
      have rZ1 : Rd w1 Z zn zs := by rw [hq]; exact rZ.drewN q
      have b1 : Below w.heap.size w w1 := by rw [hq]; exact below_drewN (Below.refl _ _) q
      have s1 : w1.heap.size = w.heap.size := by rw [hq]; rfl
      have hsz : sec = if 8 ≤ zn then (numK (zs.drop 4) 4 : Int) else -1 := by rw [HSEC.out, rZ.len]
      have HSZ := Lib.hid hsz
      have HRZ := Lib.hid rZ1
      have HRE := Lib.hid rE1
      have HB1 := Lib.hid b1
      have HREw := Lib.hid rE
      have hA0 : 0 < n := by have := hxl; omega
      have hpe : ∀ p, w.heap.size ≤ p → blk E ≠ some p := fun p hp e => by
        rcases hEA with e2 | e2
        · rw [e2] at e; cases e
        · obtain ⟨bA, oA, eA, hbA⟩ := hx.pos hA0
          rw [e2, eA] at e
          injection e with e
          simp only at e
          omega
      have HPE := Lib.hid hpe
      have HS1 := Lib.hid s1
      have hznn : zn ≤ 16777216 := by omega
      have henn : en ≤ 16777216 := by omega
      clear hq rE rZ rE1 rZ1 b1 s1 hsz HSP hx hpe hEA
      go_upto_if 25 with (fail)
      go_cut [8] from 15 to 29 (fun s8 wx => s8 = .int .i64 sec ∧ ∃ q, wx = w1.drewN q)
      case first =>
        by_cases h8 : 8 ≤ zn
        · have h8i : (8 : Int) ≤ (zn : Int) := by omega
          obtain ⟨k, hk⟩ : ∃ k, k = numK (zs.drop 4) 4 := ⟨_, rfl⟩
          have hse : sec = (k : Int) := by rw [HSZ.out, if_pos h8, hk]
          have hsl : ∀ W : World, (Instr.slice 29 (.slice Z zn zc) (some (.int .i64 4)) none none).run Tryz.prog W = .ok (.slice (cutA Z 4 zc) (zn - 4) (zc - 4)) W := cut_l (k := 4) Tryz.underlying29 elem_bytes size_u8 Z (by omega)
          have HGW : Hid (Calls Tryz.prog 214 #[.slice (cutA Z 4 zc) (zn - 4) (zc - 4)] w1 (RetCo w1 k)) := Lib.hid (by
            rw [hk]
            have h := HRZ.out.cut (k := 4) (m := zn) (cap := zc) (by omega) (Nat.le_refl _) hzc
            rw [List.take_of_length_le (by have := HRZ.out.len; omega)] at h
            exact getWord8_any _ _ _ _ w1 h (by omega) (by omega) (by omega))
          obtain ⟨zm, hzm⟩ : ∃ zm, zm = zn - 4 := ⟨_, rfl⟩
          rw [← hzm] at hsl HGW
          have HSE := Lib.hid hse
          clear hk hse hzm
          go_wp2_with fail
          with_reducible refine HGW.out.mono ?_
          rintro e w2 ⟨rfl, q2, hq2⟩
          have HQ2 := Lib.hid hq2
          clear hq2
          go_wp2_with fail
          go_meet
          case rel => exact ⟨by rw [HSE.out], q2, HQ2.out⟩
        · have h8i : ¬ (8 : Int) ≤ (zn : Int) := by omega
          have hse : sec = -1 := by rw [HSZ.out, if_neg h8]
          have HSE := Lib.hid hse
          clear hse
          go_wp2_with fail
          go_meet
          case rel => exact ⟨by rw [HSE.out], 0, rfl⟩
      case rest =>
        obtain ⟨rfl, q2, hq2⟩ := hcut
        have bc : Below w.heap.size w wc := by rw [hq2]; exact below_drewN HB1.out q2
        have sc : wc.heap.size = w.heap.size := by rw [hq2, ← HS1.out]; rfl
        have hyl : ys.length = en := HRE.out.len
        have HYL := Lib.hid hyl
        obtain ⟨W, hW⟩ : ∃ W, W = wc.alloc (.cells #[.slice E en ec, .int .i64 0, .bool false] 269) := ⟨_, rfl⟩
        obtain ⟨p, hpw⟩ : ∃ p, p = wc.heap.size := ⟨_, rfl⟩
        have hWr : Rdr W p E en ec (0, false) := by rw [hW, hpw]; exact Cl.new _ _ _
        have bW : Below w.heap.size w W := by rw [hW]; exact bc.alloc (by omega) _
        have sW : p < W.heap.size := by rw [hW, hpw]; simp
        have hpge : w.heap.size ≤ p := by omega
        have HWR := Lib.hid (And.intro hWr bW)
        have HSW := Lib.hid sW
        have HW := Lib.hid hW
        have HPW := Lib.hid hpw
        clear hq2 bc sc hyl hWr bW sW hW hpw
        go_upto_region 8 with (fail)
        rw [← HW.out, ← HPW.out]
        go_wp2_with fail
        go_loopw [10, 11, 12] (fun s10 s11 s12 wr => PRel w p E en ec ys sec s10 s11 s12 wr ∧ p < wr.heap.size) (fun _ s _ _ => en + 1 - lenV s)
        case atStart => exact ⟨⟨en + 1, 0, 0, 0, 0, 0, 0, [], none, none, [], rfl, rfl, rfl, rfl, Nat.zero_le _, by omega, Nat.le_refl _, Nat.le_refl _, HWR.out.1, PR.zero _ _ _ _, Rd.nil _ _, Nat.le_refl _, fun _ => rfl, (fun h => by cases h), by omega, HWR.out.2⟩, HSW.out⟩
        case round =>
          obtain ⟨⟨f, a, i, d, hn2, hc2, ev, es, L, H, vs, rfl, rfl, rfl, hpar, hae, haf, hia, hevi, hRd, hPR, hH, hHc, hHn, hHp, hH1, hB⟩, hpl⟩ := hrel
          have hcl : Cl wr p #[.slice E en ec, .int .i64 (a : Int), .bool false] 269 := hRd
          obtain ⟨c0, c1, c2, f0, f1, f2⟩ := hcl.c3
          have HPAR := Lib.hid hpar
          have HB := Lib.hid hB
          have HPR := Lib.hid hPR
          have HRD := Lib.hid hRd
          have HHR := Lib.hid hH
          clear hpar hB hPR hRd hcl hH
          by_cases hlt : a < en
          · obtain ⟨f', rfl⟩ : ∃ f', f = f' + 1 := ⟨f - 1, by omega⟩
            obtain ⟨ev2, hev2⟩ : ∃ ev2, ev2 = if (a : Int) = sec then i else ev := ⟨_, rfl⟩
            have hev2i : ev2 ≤ i := by rw [hev2]; split <;> omega
            have HEV2 := Lib.hid hev2
            have hil : es.length = i := HPR.out.2.2.2.1
            have HIL := Lib.hid hil
            clear hev2 hil
            go_upto_if 40 with (fail)
            go_cut [10] from 37 to 43 (fun s10 wx => s10 = .int .i64 (ev2 : Int) ∧ wx = wr)
            case first =>
              by_cases hs : (a : Int) = sec
              · have he : ev2 = i := by rw [HEV2.out, if_pos hs]
                have t1 : ((a : Int) == sec) = true := by simpa using hs
                subst he
                go_wp2_with fail
                go_meet
                case rel => exact ⟨rfl, rfl⟩
              · have he : ev2 = ev := by rw [HEV2.out, if_neg hs]
                have t1 : ((a : Int) == sec) = false := by simpa using hs
                subst he
                go_wp2_with fail
                go_meet
                case rel => exact ⟨rfl, rfl⟩
            case rest =>
              obtain ⟨rfl, hwc⟩ := hcut
              rw [hwc]
              clear hwc wc
              have HEN := Lib.hid (entry_any wr p E en ec ys H hn2 hc2 (lastK es) a HRD.out (HREw.out.below HB.out) HHR.out hae (by omega) hec hEn (by omega) hHc (HPE.out p hpge) hHp hHn)
              have hstep : parR ys sec (f' + 1) a es ev = if badR ys (lastK es) a then none else parR ys sec f' (e7R ys a).2.1 (es ++ [entR ys (lastK es) a]) ev2 := by
                rw [parR, if_neg (by rw [HYL.out]; omega), HEV2.out, HIL.out]
              have HST := Lib.hid hstep
              clear hstep
              go_wp2_with fail
              with_reducible refine HEN.out.mono ?_
              intro e w2 hq
              obtain ⟨r2, g2, hcase⟩ := hq
              rcases hcase with ⟨hbad, rfl⟩ | ⟨hbad, K, kn, kc, V, vn, vc, rfl, oK, oV, dj⟩
              · have hfin : parB xs = none := by
                  rw [HP.out, HYL.out, HPAR.out, HST.out, hbad]
                  rfl
                have hb2 : Below w.heap.size w w2 := HB.out.grown g2 HB.out.size (fun k hk => by injection hk with hk; omega)
                have HF := Lib.hid (And.intro hfin hb2)
                clear hbad r2 g2 hfin hb2
                go_wp2_with fail
                exact bodyPost_ret (v := .tuple #[.slice none 0 0, .int .i64 0, .bool false]) (by simp [results, Tryz.f181, go_sem]; try rfl) rfl (.inl ⟨HF.out.1, rfl, HF.out.2.alloc HF.out.2.size _⟩)
              · obtain ⟨x, hxe⟩ : ∃ x, x = entR ys (lastK es) a := ⟨_, rfl⟩
                rw [← hxe] at oK oV ⊢
                have hkl : x.key.length ≤ 1024 := by rw [hxe]; exact entR_key hbad
                have hwf : U64 x.seq ∧ x.kind < 256 := by
                  rw [hxe]
                  refine ⟨?_, ?_⟩
                  · have := (numR_le (xs := ys) (s := (e2R ys a).2) (e_le (by rw [HYL.out]; exact hae)).2.1).2
                    exact this
                  · exact UInt8.toNat_lt _
                have hpar2 : parR ys sec (en + 1) 0 [] 0 = parR ys sec f' (e7R ys a).2.1 (es ++ [x]) ev2 := by rw [HPAR.out, HST.out, hbad, hxe]; rfl
                have h7b := (badR_no hbad).1
                have h7l : (e7R ys a).2.1 ≤ en := by rw [← HYL.out]; exact (e_le (by rw [HYL.out]; exact hae)).2.2.2.2.2.2
                have h7m : a < (e7R ys a).2.1 := e7_more (by rw [HYL.out]; exact hae) h7b
                have hr2 : Rdr w2 p E en ec ((e7R ys a).2.1, false) := by
                  have := r2
                  unfold Rdr at this ⊢
                  rw [h7b] at this
                  exact this
                have s2 := g2.size
                have hb2 : Below w.heap.size w w2 := HB.out.grown g2 HB.out.size (fun k hk => by injection hk with hk; omega)
                have hPR2 := HPR.out.kept g2
                obtain ⟨U, hU⟩ : ∃ U, U = w2.alloc (.cells #[.slice K kn kc, .int .u64 (x.seq : Int), .int .u8 (x.kind : Int), .slice V vn vc] 49) := ⟨_, rfl⟩
                obtain ⟨g3, hg3⟩ : ∃ g3, g3 = w2.heap.size := ⟨_, rfl⟩
                have bU : Below w2.heap.size w2 U := by rw [hU]; exact (Below.refl _ _).alloc (Nat.le_refl _) _
                have kU : Cl U g3 #[.slice K kn kc, .int .u64 (x.seq : Int), .int .u8 (x.kind : Int), .slice V vn vc] 49 := by rw [hU, hg3]; exact Cl.new _ _ _
                have sU := bU.size
                have hPRU := hPR2.below bU
                have oKU := oK.below bU
                have oVU := oV.below bU
                have hRU : Rdr U p E en ec ((e7R ys a).2.1, false) := (show Cl w2 p _ _ from hr2).below bU
                have hBU : Below w.heap.size w U := hb2.trans (bU.mono (by have := HB.out.size; omega))
                have hcell : ∀ u ∈ [Value.slice K kn kc, .int .u64 (x.seq : Int), .int .u8 (x.kind : Int), .slice V vn vc], u.oneCell' = true := by
                  intro u hu
                  simp only [List.mem_cons, List.not_mem_nil, or_false] at hu
                  rcases hu with rfl | rfl | rfl | rfl <;> rfl
                have hwb : w.heap.size ≤ wr.heap.size := HB.out.size
                have hkcap := oK.cap
                have hknil : K = none → kc = 0 := fun h => by have := oK.nil_of (by rw [h]; rfl); exact this.2.2
                have hknl := oK.len
                obtain ⟨y0, y1, y2, y3, _⟩ := kU.c4
                have HU := Lib.hid hU
                have HG3 := Lib.hid hg3
                have HPU := Lib.hid hPRU
                have HO := Lib.hid (And.intro oKU (And.intro oVU dj))
                have HRU := Lib.hid (And.intro hRU hBU)
                have HKU := Lib.hid kU
                have HWF := Lib.hid hwf
                have HP2 := Lib.hid hpar2
                have HCE := Lib.hid hcell
                have HKN := Lib.hid hknil
                have HKL := Lib.hid hknl
                have hkn2 : kn ≤ 1024 := by omega
                have hkc2 : kn ≤ kc := hkcap.1
                have hUl : wr.heap.size ≤ U.heap.size := by omega
                have HX := Lib.hid hxe
                have HS2 := Lib.hid s2
                clear hxe hbad oK oV dj r2 g2 hr2 hb2 hPR2 bU kU hPRU oKU oVU hRU hBU hcell hU hwf hpar2 hknil hknl hkcap h7b hkl HEN HST c0 c1 c2 f0 f1 f2 s2 sU
                go_upto_if 49 with (fail)
                rw [← HU.out, ← HG3.out]
                clear hg3
                go_wp2_with (at_builtin; refine wpList_app4t U rfl _ _ 22 rfl w.heap.size _ 64 Tryz.underlying22 info_ent rfl L i d vs rfl HPU.out.1 _ _ _ _ HCE.out U.heap.size rfl rfl ?_ ?_ ?_ ?_)
                · omega
                · omega
                · omega
                intro L2 d2 w4 hG4 hg4 hb4
                have hPR4 := pr_add HPU.out HO.out.1 HO.out.2.1 HO.out.2.2 HWF.out hwb hpl hUl hG4 hg4 hb4
                have s4 := hg4.size
                have hLp : blk L ≠ some p := HPU.out.2.2.2.2.2.2.1
                have hLb : ∀ b, blk L = some b → b < wr.heap.size := HPU.out.2.2.2.2.2.2.2.2
                have hR4 : Rdr w4 p E en ec ((e7R ys a).2.1, false) := ClG.grown HRU.out.1 hg4 hLp
                have k4 : Cl w4 g3 #[.slice K kn kc, .int .u64 (x.seq : Int), .int .u8 (x.kind : Int), .slice V vn vc] 49 := ClG.grown HKU.out hg4 (fun e => by have := hLb g3 e; have := HG3.out; have := HS2.out; omega)
                have rK4 : Rd w4 K kn x.key := (HO.out.1.kept hg4 (fun b hb e => by have h1 := (HO.out.1.lt b hb).1; have h2 := hLb b e; omega)).rd
                have hB4 : Below w.heap.size w w4 := HRU.out.2.grown hg4 (by omega) (fun k hk => (HPU.out.1.lt k hk).1)
                have hKp : blk K ≠ some p := fun e => by have := (HO.out.1.lt p e).1; omega
                obtain ⟨z0, z1, z2, z3, _⟩ := k4.c4
                have HF := Lib.hid (And.intro hPR4 (And.intro hR4 (And.intro rK4 (And.intro hB4 hKp))))
                clear hPR4 hR4 k4 rK4 hB4 hKp hG4 hg4 hb4 y0 y1 y2 y3 hLp hLb
                go_wp2_with fail
                go_roundw
                case rel =>
                  refine ⟨⟨f', (e7R ys a).2.1, i + 1, d2, kn, kc, ev2, es ++ [x], L2, K, _, rfl, rfl, rfl, HP2.out, h7l, by omega, by omega, by omega, HF.out.2.1, HF.out.1, ?_, hkc2, HKN.out, HF.out.2.2.2.2, hkn2, HF.out.2.2.2.1⟩, by omega⟩
                  rw [lastK_snoc]
                  exact HF.out.2.2.1
                case measure => simp [lenV]; omega
          · obtain rfl : a = en := by omega
            have hil : es.length = i := HPR.out.2.2.2.1
            have hf : parR ys sec f a es ev = some (es, ev) := by
              obtain ⟨f', rfl⟩ : ∃ f', f = f' + 1 := ⟨f - 1, by omega⟩
              rw [parR, if_pos (by rw [HYL.out]; exact Nat.le_refl _)]
            have hpb : parB xs = some (es, if sec < 0 then max i 1 else ev) := by rw [HP.out, HYL.out, HPAR.out, hf]; simp only [hil]
            have hrow : RowE w w.heap.size L i d es wr := HPR.out.row HB.out HB.out.size
            have HPB := Lib.hid hpb
            have HROW := Lib.hid hrow
            have HIL := Lib.hid hil
            clear hil hf hpb hrow
            by_cases hs : sec < 0
            · obtain ⟨mx, hmx⟩ : ∃ mx, mx = max i 1 := ⟨_, rfl⟩
              have hb : parB xs = some (es, mx) := by rw [HPB.out, if_pos hs, hmx]
              have hmi : mx ≤ 16777216 := by omega
              have HBB := Lib.hid hb
              have HMX := Lib.hid hmx
              clear hb hmx
              by_cases hi1 : i < 1
              · obtain rfl : i = 0 := by omega
                have hm1 : mx = 1 := by have := HMX.out; omega
                subst hm1
                go_wp2_with fail
                refine bodyPost_ret (v := .tuple #[.slice L 0 d, .int .i64 1, .bool true]) (by simp [results, Tryz.f181, go_sem]; try rfl) rfl (.inr ⟨es, 1, L, d, HBB.out, by rw [HIL.out]; rfl, by rw [HIL.out]; exact HROW.out, by rw [HIL.out]; omega, hmi⟩)
              · have hm1 : mx = i := by have := HMX.out; omega
                subst hm1
                go_wp2_with fail
                refine bodyPost_ret (v := .tuple #[.slice L mx d, .int .i64 (mx : Int), .bool true]) (by simp [results, Tryz.f181, go_sem]; omega) rfl (.inr ⟨es, mx, L, d, HBB.out, by rw [HIL.out], by rw [HIL.out]; exact HROW.out, by rw [HIL.out]; omega, hmi⟩)
            · have hb : parB xs = some (es, ev) := by rw [HPB.out, if_neg hs]
              have HBB := Lib.hid hb
              clear hb
              go_wp2_with fail
              refine bodyPost_ret (v := .tuple #[.slice L i d, .int .i64 (ev : Int), .bool true]) (by simp [results, Tryz.f181, go_sem]; try rfl) rfl (.inr ⟨es, ev, L, d, HBB.out, by rw [HIL.out], by rw [HIL.out]; exact HROW.out, by rw [HIL.out]; omega, by omega⟩)
end Go.Proofs.YtbgelbdnkbhffaaGreat
namespace Go.Proofs.YtbgelbdnkbhffaaGreat
open Go Go.RowKit Go.Maps

theorem putR_eq {r q : FR} {t : List FR} (h : q.name = r.name) : putR r (q :: t) = r :: t := by rw [putR, if_pos h]
theorem putR_lt {r q : FR} {t : List FR} (h : q.name ≠ r.name) (h2 : r.name < q.name) : putR r (q :: t) = r :: q :: t := by rw [putR, if_neg h, if_pos h2]
theorem putR_gt {r q : FR} {t : List FR} (h : q.name ≠ r.name) (h2 : ¬ r.name < q.name) : putR r (q :: t) = q :: putR r t := by rw [putR, if_neg h, if_neg h2]
theorem putR_putR {a b : FR} (e : a.name = b.name) : ∀ {rs : List FR}, rsUp rs → putR a (putR b rs) = putR a rs
  | [], _ => putR_eq e.symm
  | q :: t, hu => by
    unfold rsUp at hu
    rw [List.pairwise_cons] at hu
    by_cases h1 : q.name = b.name
    · rw [putR_eq h1, putR_eq e.symm, putR_eq (by rw [e]; exact h1)]
    · by_cases h2 : b.name < q.name
      · rw [putR_lt h1 h2, putR_eq e.symm, putR_lt (by rw [e]; exact h1) (by rw [e]; exact h2)]
      · rw [putR_gt h1 h2, putR_gt (by rw [e]; exact h1) (by rw [e]; exact h2), putR_gt (by rw [e]; exact h1) (by rw [e]; exact h2), putR_putR e hu.2]
theorem mem_putR_self (r : FR) : ∀ rs : List FR, r ∈ putR r rs
  | [] => by simp [putR]
  | q :: t => by
    simp only [putR]
    split
    · exact List.mem_cons_self ..
    · split
      · exact List.mem_cons_self ..
      · exact List.mem_cons_of_mem _ (mem_putR_self r t)
theorem putR_up {r : FR} {rs : List FR} (h : rsUp rs) : rsUp (putR r rs) := by
  have h1 : risingF (rs.map FR.val) := by
    unfold risingF
    rw [List.pairwise_map]
    exact h
  have h2 := putF_up (f := r.val) h1
  rw [← putR_val] at h2
  exact rsUp_of h2

section
variable {w w' : World} {p : Nat} {m : Option Nat} {rs : List FR} {room used left : Int} {dead armed : Bool}
theorem put_any (r : FR) (h : DskR w p m rs room used left dead armed) (hn : ∀ q ∈ rs, q.name ≠ r.name) (hl : r.name.length ≤ 1099511627776) (hrs : rs.length ≤ 1099511627776) :
    Calls Tryz.prog 75 #[.pointer (some ⟨p, 0, none⟩), .string (tx r.name), .pointer (some ⟨r.fb, 0, none⟩)] w (RetPut w p m (putR r rs) room used left dead armed) := by
  obtain ⟨h1, h2, h3, h4⟩ := h
  rcases h2 with ⟨rfl, rfl⟩ | ⟨b, Dm, rfl, ho, hm⟩
  · exact put_nil r h1 hl
  · exact put_some r h1 ho hm (h4.2.1 b rfl) hn hl hrs
/-- The disk behind a put. -/
theorem DskR.put {r : FR} {e : Ending} (h : DskR w p m rs room used left dead armed) (hu : rsUp rs) (hr : RetPut w p m (putR r rs) room used left dead armed e w') (hat : FileAt w r) (hfr : ∀ b ∈ r.bl, b ∉ allB p m rs) (hne : blk r.A ≠ some r.fb) :
    ∃ b, DskR w' p (some b) (putR r rs) room used left dead armed ∧ Fr w w' (p :: m.toList) ∧ (m = some b ∨ w.heap.size ≤ b) := by
  have hlt := h.lt
  obtain ⟨h1, h2, h3, h4, h5, h6⟩ := h
  obtain ⟨_, b, Dm, e1, e2, e3, e4, e5⟩ := hr
  have hpl := (Array.getElem?_eq_some_iff.1 h1).1
  have hbp : b ≠ p := by
    rcases e5 with e5 | e5
    · exact h5 b e5
    · omega
  have hbq : ∀ q ∈ rs, b ∉ q.bl := fun q hq hb => by
    rcases e5 with e5 | e5
    · exact (h4 q hq).2.1 b e5 hb
    · have := hlt b (mem_file hq hb); omega
  have hbr : b ∉ r.bl := fun hb => by
    rcases e5 with e5 | e5
    · exact hfr b hb (mem_map e5)
    · have := hat.lt b hb; omega
  refine ⟨b, ⟨e1, .inr ⟨b, Dm, rfl, e2, e3⟩, fun q hq => ?_, fun q hq => ?_, fun c hc => by injection hc with hc; rw [← hc]; exact hbp, ?_⟩, e4, e5⟩
  · rcases putR_sub2 hu q hq with rfl | ⟨hq, _⟩
    · refine hat.fr e4 (fun c hc hm => hfr c hc ?_)
      simp only [allB, List.mem_cons, List.mem_append] at hm ⊢
      rcases hm with hm | hm
      · exact .inl hm
      · exact .inr (.inl hm)
    · refine (h3 q hq).fr e4 (fun c hc hm => ?_)
      simp only [List.mem_cons, Option.mem_toList] at hm
      rcases hm with rfl | hm
      · exact (h4 q hq).1 hc
      · exact (h4 q hq).2.1 c hm hc
  · rcases putR_sub2 hu q hq with rfl | ⟨hq, _⟩
    · exact ⟨fun hm => hfr p hm mem_head, fun c hc => by injection hc with hc; rw [← hc]; exact hbr, hne⟩
    · exact ⟨(h4 q hq).1, fun c hc => by injection hc with hc; rw [← hc]; exact hbq q hq, (h4 q hq).2.2⟩
  · exact putR_pair (fun a b => Sp.symm) h6 (fun q hq _ x hx hxq => hfr x hx (mem_file hq hxq)) hu

/-- 'The disk with this file now, and maybe a map of its own; the number.' -/
def RetFile2 (w : World) (p : Nat) (m : Option Nat) (rs : List FR) (x : List UInt8) (dat : List UInt8) (saf : Nat) (room used left : Int) (dead armed : Bool) (v : Value) (e : Ending) (w' : World) : Prop :=
  e = .returned v ∧ ∃ (r' : FR) (m' : Option Nat), r'.name = x ∧ r'.dat = dat ∧ r'.saf = saf ∧ DskR w' p m' (putR r' rs) room used left dead armed ∧ Fr w w' (allB p m rs) ∧ ∀ b ∈ allB p m' (putR r' rs), b ∈ allB p m rs ∨ w.heap.size ≤ b

set_option maxRecDepth 100000 in
set_option maxHeartbeats 4000000 in
theorem append_new (x : List UInt8) (B : Option Addr) (n c : Nat) (ys : List UInt8) (u R : Nat) (h : DskR w p m rs (R : Int) (u : Int) left false armed) (hu : rsUp rs) (hno : ∀ r ∈ rs, r.name ≠ x) (hB : Rd w B n ys) (hBo : ∀ b, blk B = some b → b ∉ allB p m rs)
    (hf : u + n ≤ R) (hR : R ≤ 9223372036854775807) (hn : n ≤ 1099511627776) (hx : x.length ≤ 1099511627776) (hrs : rs.length ≤ 1099511627776) (hl : 0 ≤ left ∧ left ≤ 9223372036854775807) :
    Calls Tryz.prog 26 #[.pointer (some ⟨p, 0, none⟩), .string (tx x), .slice B n c] w
      (RetFile2 w p m rs x ys 0 R ((u + n : Nat) : Int) (tL armed left) (tD false armed left) (tA armed left) (.int .i64 (tE armed left))) := by
  have hxm : x.length ≤ maxLen := by unfold maxLen; omega
  obtain ⟨c0, c1, c2, c3, c4, c5⟩ := h.head
  have i0 : IntKind.i64.wrap ((R : Int) - (u : Int)) = (R : Int) - (u : Int) := IntWalk.i64_in _ (by omega)
  have i1 : decide ((R : Int) - (u : Int) < (n : Int)) = false := by simp; omega
  have i2 : IntKind.i64.wrap ((u : Int) + (n : Int)) = (u : Int) + (n : Int) := IntWalk.i64_in _ (by omega)
  have HNO := Lib.hid hno
  have HBo := Lib.hid hBo
  clear hBo
  go_enter Tryz.func26, Tryz.ntmps26
  go_wp2_with fail
  refine (find_none x h hno hxm).mono ?_
  rintro e w' ⟨rfl, rfl⟩
  clear hno
  go_wp2
  go_quiet (fail)
  obtain ⟨W, hW⟩ : ∃ W, W = w.drewN nq := ⟨_, rfl⟩
  have hD : DskR W p m rs (R : Int) (u : Int) left false armed := by rw [hW]; exact h
  have hBW : Rd W B n ys := by rw [hW]; exact hB.drewN nq
  have hFW : Fr w W (allB p m rs) := by rw [hW]; exact (Fr.refl _ _).drewN nq
  have hzW : W.heap.size = w.heap.size := by rw [hW]; rfl
  rw [← hW]
  have HZW := Lib.hid hzW
  clear hW h hB hzW c0 c1 c2 c3 c4 c5
  obtain ⟨V, hV⟩ : ∃ V, V = W.alloc (.cells #[.slice none 0 0, .int .i64 0] 137) := ⟨_, rfl⟩
  have hbV : Below W.heap.size W V := by rw [hV]; exact (Below.refl _ _).alloc (Nat.le_refl _) _
  have hDV : DskR V p m rs (R : Int) (u : Int) left false armed := hD.fr (Fr.of_below hbV []) (fun b _ h => by cases h)
  have hBV : Rd V B n ys := hBW.below hbV
  obtain ⟨fb, hfb⟩ : ∃ fb, fb = W.heap.size := ⟨_, rfl⟩
  have hcV : V.heap[fb]? = some (.cells #[.slice none 0 0, .int .i64 0] 137 (0, 0)) := by rw [hV, hfb]; exact heap_alloc_new _ _
  obtain ⟨r0, hr0⟩ : ∃ r0 : FR, r0 = ⟨x, [], 0, fb, none, 0⟩ := ⟨_, rfl⟩
  have hn0 : r0.name = x := by rw [hr0]
  have hb0 : r0.fb = fb := by rw [hr0]
  have hat0 : FileAt V r0 := by rw [hr0]; exact ⟨hcV, Own.nil _ _ _, Nat.le_refl _⟩
  have hfr0 : ∀ b ∈ r0.bl, b ∉ allB p m rs := fun b hb hm => by
    rw [hr0] at hb
    simp [FR.bl, blk] at hb
    have := hD.lt b hm
    omega
  have hne0 : blk r0.A ≠ some r0.fb := by rw [hr0]; simp [blk]
  have hP := put_any r0 hDV (fun q hq e => HNO.out q hq (by rw [e, hn0])) (by rw [hn0]; exact hx) hrs
  rw [hn0, hb0] at hP
  have HP := Lib.hid hP
  have HV := Lib.hid hV
  have HFB := Lib.hid hfb
  clear hP hV hcV hfb
  go_wp2_with fail
  rw [← HV.out, ← HFB.out]
  refine HP.out.mono ?_
  clear HP
  rintro e w1 hret
  have hfb := HFB.out
  clear HFB
  subst hfb
  obtain ⟨he, hret2⟩ := hret
  subst he
  obtain ⟨mb, hD1, hF1, hmb⟩ := hDV.put hu ⟨rfl, hret2⟩ hat0 hfr0 hne0
  clear hret2
  have hVs := hbV.size
  have hr1 : r0 ∈ putR r0 rs := mem_putR_self _ _
  have hu1 := putR_up (r := r0) hu
  have hfa := hD1.2.2.1 r0 hr1
  have hB1 : Rd w1 B n ys := hBV.fr hF1 (fun b hb hm => HBo.out b hb (by
    simp only [List.mem_cons, Option.mem_toList, allB, List.mem_append] at hm ⊢
    rcases hm with hm | hm
    · exact .inl hm
    · exact .inr (.inl hm)))
  have hF01 : Fr w w1 (allB p m rs) := by
    have f1 : Fr w V (allB p m rs) := hFW.trans (Fr.of_below hbV (allB p m rs)) (fun b hb => .inl hb)
    exact f1.trans hF1 (fun b hb => .inl (by
      simp only [List.mem_cons, Option.mem_toList, allB, List.mem_append] at hb ⊢
      rcases hb with hm | hm
      · exact .inl hm
      · exact .inr (.inl hm)))
  have hmem1 : ∀ b ∈ allB p (some mb) (putR r0 rs), b ∈ allB p m rs ∨ w.heap.size ≤ b := fun b hb => by
    simp only [allB, List.mem_cons, List.mem_append, List.mem_flatMap, Option.mem_toList] at hb
    have := HZW.out
    rcases hb with rfl | hb | ⟨q, hq, hb⟩
    · exact .inl mem_head
    · cases hb
      rcases hmb with h1 | h1
      · exact .inl (mem_map h1)
      · exact .inr (by omega)
    · rcases putR_sub2 hu q hq with rfl | ⟨hq, _⟩
      · rw [hr0] at hb
        simp [FR.bl, blk] at hb
        exact .inr (by omega)
      · exact .inl (mem_file hq hb)
  have hz1 : w.heap.size ≤ w1.heap.size := hF01.size
  clear hDV hBV hBW hFW hbV hat0 hfr0 hne0 hF1 hmb hD
  have hfa1 := hfa.1
  have hpf : p ≠ W.heap.size := fun e => (hD1.2.2.2.1 r0 hr1).1 (by rw [e, ← hb0]; simp [FR.bl])
  have hfl : W.heap.size < w1.heap.size := by have := (Array.getElem?_eq_some_iff.1 hfa1).1; rw [hb0] at this; exact this
  have hpl : p < w1.heap.size := (Array.getElem?_eq_some_iff.1 hD1.1).1
  rw [hr0] at hfa1
  have d0 : w1.cell? ⟨W.heap.size, 0, none⟩ = some (.slice none 0 0) := cell_of_row w1 W.heap.size 0 _ _ _ hfa1
  have hown : OwnV 5 w1 0 none 0 0 [] := OwnV.nil _ _ _
  go_wp2_with (at_builtin; refine wpList_appV w1 rfl (.tmp 42) (.tmp 43) 29 rfl 0 5 _ 1 Tryz.underlying29 info_u8 rfl none 0 0 [] rfl hown B n c (ys.map cv) rfl hB1.toV (cv_one ys) ?_ ?_ ?_ ?_)
  · unfold maxLen; omega
  · omega
  · exact Nat.zero_le _
  intro A' c' w2 hA hg hk
  have hA : OwnV 5 w2 0 A' n c' (ys.map cv) := by simpa using hA
  have hg : w1.grownBy w2 none := hg
  have hyl := hB1.len
  have hgs := hg.size
  have hfb2 : w2.heap[W.heap.size]? = some (.cells #[.slice none 0 0, .int .i64 0] 137 (0, 0)) := (hg.block W.heap.size hfl (by simp)).trans hfa1
  have hp2 : w2.heap[p]? = some (.cells (headV (some mb) R u left false armed) 115 (0, 0)) := (hg.block p hpl (by simp)).trans hD1.1
  obtain ⟨r', hr'⟩ : ∃ r' : FR, r' = { r0 with dat := ys, A := A', c := c' } := ⟨_, rfl⟩
  have hkA : blk A' ≠ some W.heap.size := fun e => by
    rcases hk with h1 | h1
    · rw [h1] at e; simp [blk] at e
    · rw [h1] at e; injection e with e; omega
  obtain ⟨w3, hw3⟩ : ∃ w3, w3 = w2.setCell ⟨W.heap.size, 0, none⟩ (.slice A' n c') := ⟨_, rfl⟩
  have hg3 : w2.grownBy w3 (some W.heap.size) := by rw [hw3]; exact ⟨rfl, rfl, rfl, by simp, fun k _ hne => heap_setCell_other w2 ⟨W.heap.size, 0, none⟩ k _ (fun e => hne (by rw [e]))⟩
  have hat : FileAt w3 r' := by
    refine ⟨?_, ?_, ?_⟩
    · rw [hw3, hr', hr0]
      show (w2.setCell ⟨W.heap.size, 0, none⟩ (.slice A' n c')).heap[W.heap.size]? = some (Obj.cells #[.slice A' ys.length c', .int .i64 0] _ _)
      rw [heap_setCell_same _ _ _ _ _ _ hfb2, hyl]
      rfl
    · rw [hr']
      show Own 5 w3 0 A' ys.length c' ys
      rw [hyl]
      exact OwnV.kept hA hg3 (fun b hb e => hkA (by rw [hb]; exact e.symm))
    · rw [hr', hr0]
      exact Nat.zero_le _
  have hbl : ∀ b ∈ r'.bl, b ∈ r0.bl ∨ w1.heap.size ≤ b := fun b hb => by
    rw [hr'] at hb
    simp only [FR.bl, List.mem_cons, Option.mem_toList] at hb ⊢
    rcases hb with hb | hb
    · exact .inl (.inl hb)
    · rcases hk with h1 | h1
      · rw [h1] at hb; simp [blk] at hb
      · rw [h1] at hb
        cases hb
        exact .inr (Nat.le_refl _)
  have hf3 : Fr w1 w3 r0.bl := by
    have f1 : Fr w1 w2 r0.bl := Fr.of_grown hg (fun b hb => by cases hb)
    have f2 : Fr w2 w3 [W.heap.size] := Fr.of_grown hg3 (fun b hb => by cases hb; exact List.mem_singleton.2 rfl)
    exact f1.trans f2 (fun b hb => .inl (by rw [List.mem_singleton] at hb; rw [hb, ← hb0]; simp [FR.bl]))
  have hD3 : DskR w3 p (some mb) (putR r' (putR r0 rs)) (R : Int) (u : Int) left false armed := hD1.file hu1 hr1 (by rw [hr']) (by rw [hr']) hf3 hat hbl (by rw [hr', hr0]; exact hkA)
  obtain ⟨w4, hw4⟩ : ∃ w4, w4 = w3.setCell ⟨p, 2, none⟩ (.int .i64 ((u : Int) + (n : Int))) := ⟨_, rfl⟩
  have hD4 : DskR w4 p (some mb) (putR r' (putR r0 rs)) (R : Int) ((u : Int) + (n : Int)) left false armed := by
    rw [hw4]
    exact hD3.turn (Fr.set w3 p 2 _) (heap_setCell_same _ _ _ _ _ _ hD3.1)
  have hF4 : Fr w w4 (allB p m rs) := by
    have f1 : Fr w w3 (allB p m rs) := hF01.trans hf3 (fun b hb => hmem1 b (mem_file hr1 hb))
    have f2 : Fr w3 w4 [p] := by rw [hw4]; exact Fr.set w3 p 2 _
    exact f1.trans f2 (fun b hb => .inl (by rw [List.mem_singleton] at hb; rw [hb]; exact mem_head))
  have hmem : ∀ b ∈ allB p (some mb) (putR r' (putR r0 rs)), b ∈ allB p m rs ∨ w.heap.size ≤ b := fun b hb => by
    rcases mem_putR (p := p) (m := some mb) (w := w1) hu1 hr1 hbl b hb with h1 | h1
    · exact hmem1 b h1
    · exact .inr (by omega)
  have hpp : putR r' (putR r0 rs) = putR r' rs := putR_putR (by rw [hr']) hu
  rw [hpp] at hD4 hmem
  have d0' := cell_of_row w2 W.heap.size 0 _ _ _ hfb2
  have ff' := frozen_of_row w2 W.heap.size 0 _ _ hfb2
  have c2' : w2.cell? ⟨p, 2, none⟩ = some (.int .i64 (u : Int)) := cell_of_row w2 p 2 _ _ _ hp2
  have fp' := frozen_of_row w2 p 2 _ _ hp2
  have HW3 := Lib.hid hw3
  have HW4 := Lib.hid hw4
  have HR := Lib.hid (show r'.name = x ∧ r'.dat = ys ∧ r'.saf = 0 from by rw [hr', hr0]; exact ⟨rfl, rfl, rfl⟩)
  have HF4 := Lib.hid hF4
  have HMEM := Lib.hid hmem
  have HD4 := Lib.hid hD4
  clear hgs hfb2 hp2 hr' hkA hg3 hat hbl hf3 hD3 hF4 hmem hA hg hk hw3 hw4 hfa hfa1 hD1 d0 hown hD4 hpp hmem1 hF01 hr0 hn0 hb0 hu1 hr1 hB1 hyl
  go_wp2_with fail
  rw [← HW3.out, ← HW4.out]
  have e1 : (u : Int) + (n : Int) = ((u + n : Nat) : Int) := by omega
  refine (turn_zero HD4.out hl).mono ?_
  rintro e w5 ⟨rfl, hH⟩
  have hfin : RetFile2 w p m rs x ys 0 R ((u + n : Nat) : Int) (tL armed left) (tD false armed left) (tA armed left) (.int .i64 (tE armed left)) (.returned (.int .i64 (tE armed left))) w5 := by
    refine ⟨rfl, r', some mb, HR.out.1, HR.out.2.1, HR.out.2.2, ?_, ?_, HMEM.out⟩
    · rw [← e1]
      exact HD4.out.turn hH.1 hH.2
    · exact HF4.out.trans hH.1 (fun b hb => .inl (by rw [List.mem_singleton] at hb; rw [hb]; exact mem_head))
  have HFIN := Lib.hid hfin
  clear hfin hH e1
  go_wp2
  go_ret
  exact HFIN.out
end
end Go.Proofs.YtbgelbdnkbhffaaGreat
namespace Go.Proofs.YtbgelbdnkbhffaaGreat
open Go Go.RowKit

/-- 'So far sorted.' -/
def Spk (w : World) (us : List Value) (es : List En) (L : Option Addr) (k d : Nat) (wr : World) : Prop :=
  ∃ vs, OwnE wr w.heap.size L k d vs ∧ EVs wr es vs ∧ es.length = k ∧ Below w.heap.size w wr ∧ ∀ u ∈ vs, u ∈ us
section
variable {w wr w' : World} {us : List Value} {es : List En} {L : Option Addr} {k d : Nat}
theorem Spk.zero (w : World) (us : List Value) : Spk w us [] none 0 0 w := ⟨[], OwnE.nil _ _, rfl, rfl, Below.refl _ _, fun u hu => by cases hu⟩
theorem Spk.below (h : Spk w us es L k d wr) (hb : Below wr.heap.size wr w') : Spk w us es L k d w' := by
  obtain ⟨vs, h1, h2, h3, h4, h5⟩ := h
  exact ⟨vs, h1.below hb, h2.below hb, h3, belowT' h4 hb, h5⟩
theorem Spk.bel (h : Spk w us es L k d wr) : Below w.heap.size w wr := by
  obtain ⟨vs, h1, h2, h3, h4, h5⟩ := h
  exact h4
theorem Spk.res (h : Spk w us es L k d wr) : REs wr L k es := by
  obtain ⟨vs, h1, h2, h3, h4, h5⟩ := h
  exact REs.mk h2 h1.rd h3
theorem Spk.cap (h : Spk w us es L k d wr) : k ≤ d := by
  obtain ⟨vs, h1, h2, h3, h4, h5⟩ := h
  exact h1.cap.1
theorem Spk.ret (h : Spk w us es L k d wr) : RetPick w es us (.returned (.slice L k d)) wr := by
  obtain ⟨vs, h1, h2, h3, h4, h5⟩ := h
  exact ⟨L, k, d, vs, rfl, h1, h2, h3, h4, h5⟩
end
set_option maxRecDepth 100000 in
set_option maxHeartbeats 8000000 in
theorem sorted_any {w : World} {A : Option Addr} {n c : Nat} {es : List En} {ovs : List Value} (hv : EVs w es ovs) (hd : RdV w A (n * 4) ovs) (hl : es.length = n) (hn : n ≤ 1099511627776) (hs : ∀ x ∈ es, SzE x) :
    Calls Tryz.prog 8 #[.slice A n c] w (RetPick w (srt [] es) ovs) := by
  have HV := Lib.hid hv
  have HD := Lib.hid hd
  have HL := Lib.hid hl
  have HS := Lib.hid hs
  clear hv hd hl hs
  go_enter Tryz.func8, Tryz.ntmps8
  go_wp2_with fail
  go_loopw [3, 4] (fun s3 s4 wr => ∃ (k m d : Nat) (L : Option Addr), k ≤ n ∧ s4 = .int .i64 (k : Int) ∧ s3 = .slice L m d ∧ Spk w ovs (srt [] (es.take k)) L m d wr) (fun _ s _ => n - (intOf s).toNat)
  case atStart => exact ⟨0, 0, 0, none, Nat.zero_le _, rfl, rfl, Spk.zero w ovs⟩
  case round =>
    obtain ⟨k, m, d, L, hk, rfl, rfl, hp⟩ := hrel
    have HP := Lib.hid hp
    have HB := Lib.hid hp.bel
    clear hp
    by_cases hlt : k < n
    · obtain ⟨b, off, hAb, hbl⟩ : ∃ b off, A = some ⟨b, off, none⟩ ∧ b < w.heap.size := HD.out.pos (by omega)
      obtain ⟨x, v0, v1, v2, v3, hx, c0, c1, c2, c3, hev, hmem⟩ := mem4 HV.out HD.out HL.out hAb hlt
      subst hAb
      have hsx := HS.out x (List.mem_of_getElem? hx)
      have HEV := Lib.hid hev
      have HMEM := Lib.hid hmem
      have HXK := Lib.hid hx
      obtain ⟨K, kn, kc, V, vn, vc, rfl, rfl, rfl, rfl, r0, _⟩ := hev.parts
      obtain ⟨o, ho⟩ : ∃ o, o = srt [] (es.take k) := ⟨_, rfl⟩
      rw [← ho] at HP
      have hol : o.length ≤ n := by
        have := (srt_len (es.take k) []).1
        rw [← ho, List.length_take] at this
        simp only [List.length_nil] at this
        omega
      have hom : o.length = m := HP.out.res.len
      have HSO : Hid (∀ y ∈ o, SzE y) := Lib.hid (fun y hy => by
        rw [ho] at hy
        rcases srt_mem y hy with q | q
        · cases q
        · exact HS.out y (List.mem_of_mem_take q))
      have HFT : Hid (srt [] (es.take (k + 1)) = if okE x && !inL o x then insL o x else o) := Lib.hid (by
        rw [List.take_add_one, HXK.out]
        simp only [Option.toList]
        rw [srt_snoc, ← ho])
      have hB := HB.out
      have d0 := (hB.cell (p := ⟨b, off + k * 4, none⟩) hbl).trans c0
      have d1 := (hB.cell (p := ⟨b, off + k * 4 + 1, none⟩) hbl).trans c1
      have d2 := (hB.cell (p := ⟨b, off + k * 4 + 2, none⟩) hbl).trans c2
      have d3 := (hB.cell (p := ⟨b, off + k * 4 + 3, none⟩) hbl).trans c3
      have HSX : Hid (∀ wx, Below wr.heap.size wr wx → wx.cell? ⟨b, off + k * 4, none⟩ = some (.slice K kn kc) ∧ wx.cell? ⟨b, off + k * 4 + 1, none⟩ = some (.int .u64 (x.seq : Int)) ∧ wx.cell? ⟨b, off + k * 4 + 2, none⟩ = some (.int .u8 (x.kind : Int)) ∧ wx.cell? ⟨b, off + k * 4 + 3, none⟩ = some (.slice V vn vc)) := Lib.hid (fun wx h => by
        have hb2 : b < wr.heap.size := Nat.lt_of_lt_of_le hbl hB.size
        exact ⟨(h.cell (p := ⟨b, off + k * 4, none⟩) hb2).trans d0, (h.cell (p := ⟨b, off + k * 4 + 1, none⟩) hb2).trans d1, (h.cell (p := ⟨b, off + k * 4 + 2, none⟩) hb2).trans d2, (h.cell (p := ⟨b, off + k * 4 + 3, none⟩) hb2).trans d3⟩)
      obtain ⟨zc, hzc⟩ : ∃ z, z = checkE [x] := ⟨_, rfl⟩
      obtain ⟨zi, hzi⟩ : ∃ z, z = inL o x := ⟨_, rfl⟩
      have HOK : Hid (okE x = decide (zc = 0)) := Lib.hid (by rw [hzc]; rfl)
      have HZI := Lib.hid hzi
      obtain ⟨W, hW⟩ : ∃ W, W = wr.alloc (.cells #[.slice K kn kc, .int .u64 (x.seq : Int), .int .u8 (x.kind : Int), .slice V vn vc] 49) := ⟨_, rfl⟩
      have bW : Below wr.heap.size wr W := by rw [hW]; exact (Below.refl _ _).alloc (Nat.le_refl _) _
      have BW := Lib.hid bW
      have HEVr := Lib.hid (HEV.out.below hB)
      have HC : Hid (Calls Tryz.prog 51 #[.slice (some ⟨wr.heap.size, 0, none⟩) 1 1] W (RetNu W zc)) := Lib.hid (by
        rw [hzc]
        refine refCheck_any (REs.mk (EVs.one (HEVr.out.below bW)) ?_ rfl) (by omega) (fun y hy => by simp only [List.mem_singleton] at hy; subst hy; exact hsx)
        rw [hW]
        exact rdv_of_cl (Cl.new wr #[.slice K kn kc, .int .u64 (x.seq : Int), .int .u8 (x.kind : Int), .slice V vn vc] 49))
      have HI : Hid (∀ wx, Below wr.heap.size wr wx → Calls Tryz.prog 52 #[.slice L m d, .agg #[.slice K kn kc, .int .u64 (x.seq : Int), .int .u8 (x.kind : Int), .slice V vn vc]] wx (RetT wx zi)) := Lib.hid (fun wx h => by
        rw [hzi]
        exact In_any (HP.out.res.below h) (by omega) HSO.out (HEVr.out.below h) hsx)
      clear hx c0 c1 c2 c3 hev hmem r0 hB ho hzc hzi bW
      go_upto_region 5 with (fail)
      go_cut [26] from 5 to 27 (fun s26 wx => s26 = .bool (okE x && !inL o x) ∧ Below wr.heap.size wr wx)
      case first =>
        by_cases t1 : zc = 0
        · have h1 : (zc == 0) = true := by simpa using t1
          have hok : okE x = true := by rw [HOK.out]; simpa using t1
          have HOKT := Lib.hid hok
          clear t1 hok
          go_wp2_with fail
          rw [← hW]
          with_reducible refine HC.out.mono ?_
          rintro e w1 ⟨rfl, b1⟩
          have b1' := belowT' BW.out b1
          obtain ⟨e0, e1, e2, e3⟩ := HSX.out _ b1'
          have B1 := Lib.hid b1'
          clear b1 b1' d0 d1 d2 d3
          go_wp2_with fail
          with_reducible refine (HI.out _ B1.out).mono ?_
          intro e w2 hq
          obtain ⟨hh, b2⟩ := RetT.outD hq
          subst hh
          have B2 := Lib.hid (belowT' B1.out b2)
          clear hq b2 e0 e1 e2 e3
          go_wp2_with fail
          go_meet
          exact ⟨by rw [HOKT.out, ← HZI.out]; rfl, B2.out⟩
        · have h1 : (zc == 0) = false := by simpa using t1
          have hok : okE x = false := by rw [HOK.out]; simpa using t1
          have HOKF := Lib.hid hok
          clear t1 hok
          go_wp2_with fail
          rw [← hW]
          with_reducible refine HC.out.mono ?_
          rintro e w1 ⟨rfl, b1⟩
          have b1' := belowT' BW.out b1
          have B1 := Lib.hid b1'
          clear b1 b1' d0 d1 d2 d3
          go_wp2_with fail
          go_meet
          exact ⟨by rw [HOKF.out]; rfl, B1.out⟩
      case rest =>
        obtain ⟨rfl, hbc⟩ := hcut
        obtain ⟨zz, hzz⟩ : ∃ zz, zz = (okE x && !inL o x) := ⟨_, rfl⟩
        rw [← hzz] at HFT ⊢
        have BC := Lib.hid hbc
        have HPC := Lib.hid (HP.out.below hbc)
        have HEC := Lib.hid (HEVr.out.below hbc)
        obtain ⟨e0, e1, e2, e3⟩ := HSX.out _ hbc
        clear hbc hzz d0 d1 d2 d3 hW
        cases zz with
        | true =>
          obtain ⟨vs, o1, hev1, hlen1, hb1, hm1⟩ := HPC.out
          have HM1 := Lib.hid hm1
          have HB1 := Lib.hid hb1
          have HI2 : Hid (Calls Tryz.prog 53 #[.slice L m d, .agg #[.slice K kn kc, .int .u64 (x.seq : Int), .int .u8 (x.kind : Int), .slice V vn vc]] wc (RetIns wc (m + 1) (insL o x) ([.slice K kn kc, .int .u64 (x.seq : Int), .int .u8 (x.kind : Int), .slice V vn vc] ++ vs))) := Lib.hid (Insert_any hev1 o1.rd hlen1 o1.cap.1 (by omega) HSO.out HEC.out hsx)
          clear o1 hev1 hlen1 hb1 hm1
          go_wp2_with fail
          with_reducible refine HI2.out.mono ?_
          intro e w3 hq
          obtain ⟨L3, d3', us, h1, o3, ev3, b3, hmem⟩ := RetIns.out hq
          subst h1
          have sC := HB1.out.size
          have HP2 : Hid (Spk w ovs (srt [] (es.take (k + 1))) L3 (m + 1) d3' w3) := Lib.hid (by
            rw [HFT.out, if_pos trivial]
            exact ⟨us, o3.mono sC, ev3, by rw [insL_len, hom], belowT' HB1.out b3, fun u hu => by
              rcases List.mem_append.1 (hmem u hu) with h | h
              · exact HMEM.out u h
              · exact HM1.out u h⟩)
          clear hq o3 ev3 b3 hmem e0 e1 e2 e3
          go_wp2_with fail
          go_roundw
          case rel => exact ⟨k + 1, m + 1, d3', L3, by omega, by go_num, rfl, HP2.out⟩
          case measure => simp [intOf]; omega
        | false =>
          have HP2 : Hid (Spk w ovs (srt [] (es.take (k + 1))) L m d wc) := Lib.hid (by
            rw [HFT.out, if_neg (by simp)]
            exact HPC.out)
          clear e0 e1 e2 e3
          go_wp2_with fail
          go_roundw
          case rel => exact ⟨k + 1, m, d, L, by omega, by go_num, rfl, HP2.out⟩
          case measure => simp [intOf]; omega
    · have htk := take_all HL.out hlt
      rw [htk] at HP
      clear htk
      go_wp2
      go_ret
      exact HP.out.ret
end Go.Proofs.YtbgelbdnkbhffaaGreat
namespace Go.Proofs.YtbgelbdnkbhffaaGreat
open Go Go.RowKit

/-- The error of one list. -/
def chk1 (es : List En) : Int := if checkE es ≠ 0 then checkE es else if ordE es then 0 else 3
theorem RLs.below {w w' : World} {A : Option Addr} {n : Nat} {ls : List (List En)} (h : RLs w A n ls) (hb : Below w.heap.size w w') : RLs w' A n ls := by
  refine ⟨h.1, fun h0 => ?_⟩
  obtain ⟨b, off, e, hbl, hc⟩ := h.2 h0
  refine ⟨b, off, e, Nat.lt_of_lt_of_le hbl hb.size, fun i es hi => ?_⟩
  obtain ⟨B, m, c, h1, h2, h3⟩ := hc i es hi
  exact ⟨B, m, c, (hb.cell (p := ⟨b, off + i, none⟩) hbl).trans h1, h2.below hb, h3⟩
theorem RLs.len {w : World} {A : Option Addr} {n : Nat} {ls : List (List En)} (h : RLs w A n ls) : ls.length = n := h.1
section
variable {w : World} {A : Option Addr} {n c : Nat} {ls : List (List En)}
end
end Go.Proofs.YtbgelbdnkbhffaaGreat
namespace Go.Proofs.YtbgelbdnkbhffaaGreat
open Go Go.RowKit

def bsB (xs : List UInt8) : ByteArray := ⟨⟨xs⟩⟩
theorem conv_rd {w : World} {n c : Nat} {A : Option Addr} {xs : List UInt8} (h : Rd w A n xs) (hn : 0 < n) : (convert 29 9 (.slice A n c)).run Tryz.prog w = .ok (.string (bsB xs)) w := by
  obtain ⟨b, off, rfl, _⟩ := h.pos hn
  rw [run_convert_bytes_arg w 29 5 Tryz.underlying29 Tryz.underlying5 b off n c (xs.map fun x => (x.toNat : Int)) (by simpa using h.len) ?_ 9 Tryz.underlying9]
  · congr 2
    unfold strOfNums bsB
    congr 2
    rw [List.map_map]
    conv => rhs; rw [← List.map_id xs]
    apply List.map_congr_left
    intro x _
    simp
  · intro i hi
    obtain ⟨x, hx, hc, _⟩ := h.at_ i hi
    rw [hc]
    simp [List.getD, List.getElem?_map, hx]
set_option maxRecDepth 100000 in
theorem bytesEqual_any (A B : Option Addr) (n m c d : Nat) (xs ys : List UInt8) (w : World) (hx : Rd w A n xs) (hy : Rd w B m ys) (hn : 0 < n) (hm : 0 < m) :
    Calls Tryz.prog 68 #[.slice A n c, .slice B m d] w (fun e w' => e = .returned (.bool (eqB xs ys)) ∧ w' = w) := by
  have k1 := conv_rd (c := c) hx hn
  have k2 := conv_rd (c := d) hy hm
  have hb : ((bsB xs).toList == (bsB ys).toList) = eqB xs ys := by rw [ByteArray.toList_eq, ByteArray.toList_eq]; rfl
  have HB := Lib.hid hb
  clear hb
  go_enter Tryz.func68, Tryz.ntmps68
  go_wp2_with fail
  go_ret
  exact ⟨by rw [← HB.out]; rfl, rfl⟩
theorem build8_zero {w : World} {A : Option Addr} {n c : Nat} : Calls Tryz.prog 138 #[.int .i64 0, .slice A n c] w (RetBb w ([], 1)) := by
  go_enter Tryz.func138, Tryz.ntmps138
  go_wp2_with fail
  exact bodyPost_ret (v := .tuple #[.slice none 0 0, .int .i64 1]) (by simp [results, Tryz.f138, go_sem]; try rfl) rfl (RetBb.no rfl (Below.refl _ _))
/-- What Build answers. -/
def buildZ (ev : Nat) (es : List En) : List UInt8 × Int := if ev = 0 then ([], 1) else buildE ev es
theorem buildZ_any {w : World} {A : Option Addr} {n c : Nat} {es : List En} (h : REs w A n es) (hn : n ≤ 16777216) (ev : Nat) (he2 : ev ≤ 9223372036854775807) :
    Calls Tryz.prog 138 #[.int .i64 (ev : Int), .slice A n c] w (RetBb w (buildZ ev es)) := by
  unfold buildZ
  split
  · rename_i e
    subst e
    exact build8_zero
  · exact build8_any h hn ev (by omega) he2
theorem sealB_pos (xs : List UInt8) : 8 ≤ (sealB xs).length := by rw [sealB_len]; omega
theorem buildZ_ok {ev : Nat} {es : List En} (h : (buildZ ev es).2 = 0) : 8 ≤ (buildZ ev es).1.length := by
  unfold buildZ at h ⊢
  split at h
  · cases h
  · rename_i e
    rw [if_neg e]
    rcases buildE_cases ev es with ⟨F, hF, _⟩ | ⟨k, hk, hk2⟩
    · rw [hF]; exact sealB_pos F
    · rw [hk] at h
      simp only at h
      omega
/-- What Decode makes of a record that doesn't open. -/
theorem decode_shutM (A : Option Addr) (n c : Nat) (xs : List UInt8) (w : World) (h : Rd w A n xs) (hn : n ≤ 1099511627776) (hc : n ≤ c) (hnil : A = none → c = 0) (k : Int) (hk : openG xs ((0 : Nat) : Int) = ([], 0, k)) (hk0 : k ≠ 0) :
    Calls Tryz.prog 135 #[.slice A n c] w (fun e w' => e = .returned (.tuple #[.slice none 0 0, .int .i64 k]) ∧ Below w.heap.size w w') := by
  have hO := Open_any A n c ((0 : Nat) : Int) xs w h hn hc hnil (by unfold I64; omega)
  rw [hk] at hO
  have HO := Lib.hid hO
  have t1 : (k == 0) = false := by simp [hk0]
  clear hO hk h
  go_enter Tryz.func135, Tryz.ntmps135
  go_wp2_with fail
  refine HO.out.mono ?_
  rintro e w8 ⟨O, on, oc, rfl, oo, hb8⟩
  clear HO oo
  go_wp2_with fail
  exact bodyPost_ret (v := .tuple #[.slice none 0 0, .int .i64 k]) (by simp [results, Tryz.f135, go_sem]; try rfl) rfl ⟨rfl, hb8⟩
theorem openG_in (xs : List UInt8) (z : Int) : (openG xs z).1.length ≤ 1048576 ∧ ((openG xs z).2.2 ≠ 0 → (openG xs z).1 = [] ∧ (openG xs z).2.1 = 0) ∧ ((openG xs z).2.2 = 0 → 8 ≤ xs.length) := by
  unfold openG
  split
  · simp
  · split
    · simp
    · split
      · simp
      · split
        · simp
        · split
          · refine ⟨?_, fun h => absurd rfl h, fun _ => by omega⟩
            simp only [List.length_drop, List.length_take]
            omega
          · simp
/-- What Decode makes of what was read. -/
def decP (xs : List UInt8) : Option (List En × Nat) → List En × Int
  | none => ([], 3)
  | some (es, ev) => if (buildZ ev es).2 = 0 ∧ (buildZ ev es).1 = xs then (es, 0) else ([], 3)
/-- What Decode answers. -/
def decB (xs : List UInt8) : List En × Int :=
  match openG xs ((0 : Nat) : Int) with
  | (inside, _, k) => if k ≠ 0 then ([], k) else decP xs (parB inside)
def RetDc8 (w : World) (r : List En × Int) (e : Ending) (w' : World) : Prop :=
  (r.1 = [] ∧ r.2 ≠ 0 ∧ e = .returned (.tuple #[.slice none 0 0, .int .i64 r.2]) ∧ Below w.heap.size w w') ∨
  (r.2 = 0 ∧ r.1.length ≤ 16777216 ∧ ∃ L d, e = .returned (.tuple #[.slice L r.1.length d, .int .i64 0]) ∧ RowE w w.heap.size L r.1.length d r.1 w')
set_option maxRecDepth 100000 in
set_option maxHeartbeats 8000000 in
theorem decode_any (A : Option Addr) (n c : Nat) (xs : List UInt8) (w : World) (h : Rd w A n xs) (hn : n ≤ 1099511627776) (hc : n ≤ c) (hnil : A = none → c = 0) :
    Calls Tryz.prog 135 #[.slice A n c] w (RetDc8 w (decB xs)) := by
  rcases hog : openG xs ((0 : Nat) : Int) with ⟨ins, nx, k⟩
  have hin := openG_in xs ((0 : Nat) : Int)
  rw [hog] at hin
  obtain ⟨hil, hno, hx8⟩ := hin
  have hil : ins.length ≤ 1048576 := hil
  by_cases hk : k = 0
  · have hO := Open_any A n c ((0 : Nat) : Int) xs w h hn hc hnil (by unfold I64; omega)
    rw [hog] at hO
    subst hk
    have hx8 : 8 ≤ n := by have := hx8 rfl; have := h.len; omega
    have HO := Lib.hid hO
    have HX := Lib.hid h
    obtain ⟨pr, hpr⟩ : ∃ pr, pr = parB ins := ⟨_, rfl⟩
    have hdec : decB xs = decP xs pr := by
      unfold decB
      rw [hog]
      simp only
      rw [if_neg (by simp), ← hpr]
    have HD := Lib.hid hdec
    have HPR := Lib.hid hpr
    clear hO h hno hog hdec hpr
    go_enter Tryz.func135, Tryz.ntmps135
    go_wp2_with fail
    refine HO.out.mono ?_
    rintro e w1 ⟨I, im, ic, rfl, oI, b1⟩
    have hI0 : ins.length = im := oI.len
    have hIn : I = none → ic = 0 := fun hh => by have := oI.nil_of (by rw [hh]; rfl); exact this.2.2
    have HPA := Lib.hid (parse_any I im ic ins w1 oI.rd (by omega) oI.cap.1 hIn)
    rw [← HPR.out] at HPA
    have HB1 := Lib.hid b1
    clear oI b1 hIn HO
    go_wp2_with fail
    refine HPA.out.mono ?_
    rintro e w2 (⟨hpn, rfl, b2⟩ | ⟨es, ev, L, d, hps, rfl, hrow, hel, hev⟩)
    · have hd : decB xs = ([], 3) := by rw [HD.out, hpn]; rfl
      have HF := Lib.hid (And.intro hd (HB1.out.trans (b2.mono HB1.out.size)))
      clear hd b2
      go_wp2_with fail
      exact bodyPost_ret (v := .tuple #[.slice none 0 0, .int .i64 3]) (by simp [results, Tryz.f135, go_sem]; try rfl) rfl (.inl ⟨by rw [HF.out.1], by rw [HF.out.1]; simp, by rw [HF.out.1], HF.out.2⟩)
    · have hd : decB xs = if (buildZ ev es).2 = 0 ∧ (buildZ ev es).1 = xs then (es, 0) else ([], 3) := by rw [HD.out, hps]; rfl
      have hb2 : Below w.heap.size w w2 := HB1.out.trans (hrow.bel.mono HB1.out.size)
      have hBZ := buildZ_any (c := d) hrow.rd hel ev (by omega)
      obtain ⟨z, hz⟩ : ∃ z, z = buildZ ev es := ⟨_, rfl⟩
      have hzo : z.2 = 0 → 8 ≤ z.1.length := by rw [hz]; exact buildZ_ok
      rw [← hz] at hBZ hd
      have HBZ := Lib.hid hBZ
      have HROW := Lib.hid hrow
      have HB2 := Lib.hid hb2
      have HDD := Lib.hid hd
      obtain ⟨el, hel2⟩ : ∃ el, el = es.length := ⟨_, rfl⟩
      rw [← hel2] at HBZ hel ⊢
      have HEL := Lib.hid hel2
      clear hBZ hrow hb2 hd hz hel2
      go_wp2_with fail
      refine HBZ.out.mono ?_
      rintro e w3 ⟨G, gc, rfl, oG, b3⟩
      have hb3 : Below w.heap.size w w3 := HB2.out.trans (b3.mono HB2.out.size)
      have hno : ∀ w', Below w.heap.size w w' → decB xs = ([], 3) → RetDc8 w (decB xs) (.returned (.tuple #[.slice none 0 0, .int .i64 3])) w' := fun w' hb hd => .inl ⟨by rw [hd], by rw [hd]; simp, by rw [hd], hb⟩
      obtain ⟨zb, zk⟩ := z
      simp only at oG hzo ⊢
      by_cases hzk : zk = 0
      · subst hzk
        have hzl : 8 ≤ zb.length := hzo rfl
        have HEQ := Lib.hid (bytesEqual_any G A zb.length n gc c zb xs w3 oG.rd (HX.out.below hb3) (by omega) (by omega))
        have HB3 := Lib.hid hb3
        have HR3 := Lib.hid (HROW.out.below b3)
        have HNO := Lib.hid hno
        clear oG b3 hb3 hno
        obtain ⟨q, hq⟩ : ∃ q, q = eqB zb xs := ⟨_, rfl⟩
        rw [← hq] at HEQ
        have HQ := Lib.hid hq
        clear hq
        cases q with
        | true =>
          go_wp2_with fail
          with_reducible refine HEQ.out.mono ?_
          rintro e w4 ⟨rfl, rfl⟩
          have he : zb = xs := by
            have := HQ.out
            unfold eqB at this
            exact (beq_iff_eq.1 this.symm)
          have hd : decB xs = (es, 0) := by rw [HDD.out, if_pos ⟨by first | trivial | rfl, he⟩]
          have HF : Hid (RetDc8 w (decB xs) (.returned (.tuple #[.slice L el d, .int .i64 0])) w4) := Lib.hid (by
            rw [hd]
            refine .inr ⟨rfl, by rw [← HEL.out]; exact hel, L, d, by rw [← HEL.out], ?_⟩
            have hr := HR3.out
            have h1 : Below w.heap.size w w4 := HB3.out
            obtain ⟨vs, r1, r2, r3, r4, r5, r6, r7⟩ := hr
            have hs := HB1.out.size
            exact ⟨vs, OwnE.mono (show OwnE w4 w1.heap.size L es.length d vs from r1) hs, EOs.mono hs r2, r3, r4, h1, h1.size, r7.mono hs⟩)
          clear he hd
          go_wp2_with fail
          exact bodyPost_ret (v := .tuple #[.slice L el d, .int .i64 0]) (by simp [results, Tryz.f135, go_sem]; try rfl) rfl HF.out
        | false =>
          go_wp2_with fail
          with_reducible refine HEQ.out.mono ?_
          rintro e w4 ⟨rfl, rfl⟩
          have he : ¬ zb = xs := by
            have := HQ.out
            unfold eqB at this
            intro e2
            rw [e2] at this
            simp at this
          have hd : decB xs = ([], 3) := by rw [HDD.out, if_neg (fun h => he h.2)]
          have HF := Lib.hid (HNO.out _ HB3.out hd)
          clear he hd
          go_wp2_with fail
          exact bodyPost_ret (v := .tuple #[.slice none 0 0, .int .i64 3]) (by simp [results, Tryz.f135, go_sem]; try rfl) rfl HF.out
      · have hd : decB xs = ([], 3) := by rw [HDD.out, if_neg (fun h => hzk h.1)]
        have t1 : (zk == 0) = false := by simpa using hzk
        have HF := Lib.hid (hno _ hb3 hd)
        clear hd hno oG b3 hb3
        go_wp2_with fail
        exact bodyPost_ret (v := .tuple #[.slice none 0 0, .int .i64 3]) (by simp [results, Tryz.f135, go_sem]; try rfl) rfl HF.out
  · have hd : decB xs = ([], k) := by
      unfold decB
      rw [hog]
      simp only
      rw [if_pos hk]
    obtain ⟨hi0, hn0⟩ := hno hk
    have hi0 : ins = [] := hi0
    have hn0 : nx = 0 := hn0
    subst hi0 hn0
    rw [hd]
    refine (decode_shutM A n c xs w h hn hc hnil k hog hk).mono ?_
    rintro e w' ⟨rfl, hb⟩
    exact .inl ⟨rfl, hk, rfl, hb⟩
end Go.Proofs.YtbgelbdnkbhffaaGreat
namespace Go.Proofs.YtbgelbdnkbhffaaGreat
open Go Go.RowKit Go.Maps

/-- 'It hands back bytes in new memory, and a number.' -/
def RetRd (w : World) (xs : List UInt8) (k : Int) (e : Ending) (w' : World) : Prop :=
  ∃ A n c, e = .returned (.tuple #[.slice A n c, .int .i64 k]) ∧ Own 5 w' w.heap.size A n c xs ∧ Below w.heap.size w w'

section
variable {w : World} {p : Nat} {m : Option Nat} {rs : List FR} {room used left : Int} {dead armed : Bool}
theorem read_none (x : List UInt8) (h : DskR w p m rs room used left false armed) (hx : ∀ r ∈ rs, r.name ≠ x) (hl : x.length ≤ maxLen) :
    Calls Tryz.prog 55 #[.pointer (some ⟨p, 0, none⟩), .string (tx x)] w (RetRd w [] 6) := by
  go_enter Tryz.func55, Tryz.ntmps55
  go_wp2_with fail
  refine (find_none x h hx hl).mono ?_
  rintro e w' ⟨rfl, rfl⟩
  go_wp2
  go_ret2
  exact ⟨none, 0, 0, rfl, Own.nil _ _ _, Below.refl _ _⟩
set_option maxRecDepth 100000 in
set_option maxHeartbeats 1000000 in
theorem read_some {r : FR} (h : DskR w p m rs room used left false armed) (hr : r ∈ rs) (hl : r.name.length ≤ maxLen) (hd : r.dat.length ≤ 1099511627776) :
    Calls Tryz.prog 55 #[.pointer (some ⟨p, 0, none⟩), .string (tx r.name)] w (RetRd w r.dat 0) := by
  have hfa := h.2.2.1 r hr
  obtain ⟨d0, d1⟩ := hfa.cells
  have hnil : r.A = none → r.c = 0 := fun e => (hfa.2.1.nil_of (by rw [e]; rfl)).2.2
  go_enter Tryz.func55, Tryz.ntmps55
  go_wp2_with fail
  refine (find_some h hr hl).mono ?_
  rintro e w' ⟨rfl, rfl⟩
  go_wp2_with fail
  refine (Clone_any r.A r.dat.length r.c r.dat _ hfa.2.1.rd (by omega) hnil).mono ?_
  rintro e w2 ⟨A, n, c, rfl, ho, hb⟩
  go_wp2
  go_ret2
  exact ⟨A, n, c, rfl, ho, hb⟩

/-- What the turned head says where the call is done. -/
theorem tE_done {armed : Bool} {left : Int} (h : tE armed left = 0) : tD dead armed left = dead ∧ tA armed left = armed := by
  unfold tE at h
  by_cases h1 : armed = true ∧ left = 0
  · rw [if_pos h1] at h; exact absurd h (by decide)
  · exact ⟨by rw [tD, if_neg h1], by rw [tA, if_neg h1]⟩
set_option maxRecDepth 100000 in
set_option maxHeartbeats 2000000 in
theorem sync_some {r : FR} (h : DskR w p m rs room used left false armed) (hu : rsUp rs) (hr : r ∈ rs) (hl : r.name.length ≤ maxLen) (hl2 : 0 ≤ left ∧ left ≤ 9223372036854775807) (ht : tE armed left = 0) :
    Calls Tryz.prog 124 #[.pointer (some ⟨p, 0, none⟩), .string (tx r.name)] w (RetFile w p m rs r r.dat r.dat.length room used (tL armed left) false armed (.int .i64 0)) := by
  obtain ⟨t1, t2⟩ := tE_done (dead := false) ht
  have hT := turn_zero h hl2
  rw [ht, t1, t2] at hT
  have HT := Lib.hid hT
  clear hT t1 t2 ht
  go_enter Tryz.func124, Tryz.ntmps124
  go_wp2_with fail
  refine (find_some h hr hl).mono ?_
  rintro e w' ⟨rfl, rfl⟩
  go_wp2_with fail
  refine HT.out.mono ?_
  clear HT
  rintro e w1 ⟨rfl, hH⟩
  have hD1 := h.turn hH.1 hH.2
  have hfa := hD1.2.2.1 r hr
  obtain ⟨d0, d1⟩ := hfa.cells
  have f1 := hfa.thaw 1
  obtain ⟨r', hr'⟩ : ∃ r' : FR, r' = { r with saf := r.dat.length } := ⟨_, rfl⟩
  obtain ⟨w2, hw2⟩ : ∃ w2, w2 = w1.setCell ⟨r.fb, 1, none⟩ (.int .i64 (r.dat.length : Int)) := ⟨_, rfl⟩
  have hsep := hD1.2.2.2.1 r hr
  have hf2 : Fr w1 w2 r.bl := by
    rw [hw2]
    exact (Fr.set w1 r.fb 1 _).mono (fun b hb => .inl (by rw [List.mem_singleton] at hb; rw [hb]; simp [FR.bl]))
  have hat : FileAt w2 r' := by
    refine ⟨?_, ?_, ?_⟩
    · rw [hw2, hr']
      exact heap_setCell_same _ _ _ _ _ _ hfa.1
    · rw [hr']
      exact hfa.2.1.fr (hw2 ▸ Fr.set w1 r.fb 1 (.int .i64 (r.dat.length : Int))) (fun b hb hm => by rw [List.mem_singleton] at hm; rw [hm] at hb; exact hsep.2.2 hb)
    · rw [hr']; exact Nat.le_refl _
  have hbl : ∀ b ∈ r'.bl, b ∈ r.bl ∨ w1.heap.size ≤ b := fun b hb => .inl (by rw [hr'] at hb; exact hb)
  have hfin : RetFile w p m rs r r.dat r.dat.length room used (tL armed left) false armed (.int .i64 0) (.returned (.int .i64 0)) w2 := by
    refine ⟨rfl, r', by rw [hr'], by rw [hr'], by rw [hr'], hD1.file hu hr (by rw [hr']) (by rw [hr']) hf2 hat hbl (by rw [hr']; exact hsep.2.2), ?_, fun b hb => ?_⟩
    · have f1 : Fr w w1 (allB p m rs) := hH.1.mono (fun b hb => .inl (by rw [List.mem_singleton] at hb; rw [hb]; exact mem_head))
      exact f1.trans hf2 (fun b hb => .inl (mem_file hr hb))
    · rcases mem_putR (p := p) (m := m) (w := w1) hu hr hbl b hb with h1 | h1
      · exact .inl h1
      · exact .inr (Nat.le_trans hH.1.size h1)
  have HFIN := Lib.hid hfin
  have HW2 := Lib.hid hw2
  clear hfin hw2 hat hbl hf2 hr' hD1 hfa hH
  go_wp2
  go_ret
  rw [← HW2.out]
  exact HFIN.out
end
end Go.Proofs.YtbgelbdnkbhffaaGreat
namespace Go.Proofs.YtbgelbdnkbhffaaGreat
open Go Go.RowKit

def bsM (xs : List UInt8) : ByteArray := ⟨⟨xs⟩⟩
theorem conv_any {w : World} {n c : Nat} {A : Option Addr} {xs : List UInt8} (h : Rd w A n xs) : (convert 29 9 (.slice A n c)).run Tryz.prog w = .ok (.string (bsM xs)) w := by
  rcases Nat.eq_zero_or_pos n with hn | hn
  · subst hn
    have hx : xs = [] := List.eq_nil_of_length_eq_zero h.1
    subst hx
    cases A with
    | none =>
      rw [run_convert_bytes_nil w 29 5 Tryz.underlying29 Tryz.underlying5 0 c 9 Tryz.underlying9]
      rfl
    | some a =>
      rw [run_convert_bytes_string w 29 9 5 (some a) 0 c Tryz.underlying29 Tryz.underlying5 Tryz.underlying9,
        run_bytesToString w a 0 c [] (run_loadCells_list (P := Tryz.prog) w a [] (fun j v hj => by simp at hj))]
      rfl
  · obtain ⟨b, off, rfl, _⟩ := h.pos hn
    rw [run_convert_bytes_arg w 29 5 Tryz.underlying29 Tryz.underlying5 b off n c (xs.map fun x => (x.toNat : Int)) (by simpa using h.len) ?_ 9 Tryz.underlying9]
    · congr 2
      unfold strOfNums bsM
      congr 2
      rw [List.map_map]
      conv => rhs; rw [← List.map_id xs]
      apply List.map_congr_left
      intro x _
      simp
    · intro i hi
      obtain ⟨x, hx, hc, _⟩ := h.at_ i hi
      rw [hc]
      simp [List.getD, List.getElem?_map, hx]
set_option maxRecDepth 100000 in
theorem mgEqual_any (A B : Option Addr) (n m c d : Nat) (xs ys : List UInt8) (w : World) (hx : Rd w A n xs) (hy : Rd w B m ys) :
    Calls Tryz.prog 68 #[.slice A n c, .slice B m d] w (fun e w' => e = .returned (.bool (eqB xs ys)) ∧ w' = w) := by
  have k1 := conv_any (c := c) hx
  have k2 := conv_any (c := d) hy
  have hb : ((bsM xs).toList == (bsM ys).toList) = eqB xs ys := by rw [ByteArray.toList_eq, ByteArray.toList_eq]; rfl
  have HB := Lib.hid hb
  clear hb hx hy
  go_enter Tryz.func68, Tryz.ntmps68
  go_wp2_with fail
  go_ret
  exact ⟨by rw [← HB.out]; rfl, rfl⟩
section
variable {w : World} {A : Option Addr} {n c : Nat} {es : List En}
end
end Go.Proofs.YtbgelbdnkbhffaaGreat
namespace Go.Proofs.YtbgelbdnkbhffaaGreat
open Go Go.RowKit

theorem ordK_at {es : List En} : ∀ {k : Nat}, ordK es k = true → ∀ i a b, i < k → es[i]? = some a → es[i + 1]? = some b → lessE a b = true
  | 0, _, i, _, _, h, _, _ => absurd h (by omega)
  | k + 1, h, i, a, b, hi, ha, hb => by
    rw [ordK, Bool.and_eq_true] at h
    by_cases e : i = k
    · subst e
      have := h.2
      rw [ha, hb] at this
      exact this
    · exact ordK_at h.1 i a b (by omega) ha hb
theorem ord_sort {es : List En} (h : ordE es = true) : SortL es := by
  have key : ∀ (j i : Nat) a b, i < j → es[i]? = some a → es[j]? = some b → lessE a b = true := by
    intro j
    induction j with
    | zero => intro i a b h; omega
    | succ j ih =>
      intro i a b hij ha hb
      have hlt : j + 1 < es.length := (List.getElem?_eq_some_iff.1 hb).1
      obtain ⟨c, hc⟩ : ∃ c, es[j]? = some c := ⟨_, List.getElem?_eq_getElem (by omega)⟩
      have h1 := ordK_at h j c b (by omega) hc hb
      by_cases e : i = j
      · subst e
        rw [hc] at ha
        injection ha with ha
        rw [← ha]
        exact h1
      · exact lessE_trans (ih i a c (by omega) ha hc) h1
  unfold SortL
  rw [List.pairwise_iff_getElem]
  intro i j hi hj hij
  exact key j i _ _ hij (List.getElem?_eq_getElem hi) (List.getElem?_eq_getElem hj)
theorem buildE_ord {ev : Nat} {es : List En} (h : (buildE ev es).2 = 0) : ordE es = true ∧ es.all formE = true ∧ es.any longE = false ∧ (buildE ev es).1 = sealB (fullB ev es) ∧ (fullB ev es).length ≤ 1048576 := by
  unfold buildE at h ⊢
  split at h
  · cases h
  · rename_i h1
    split at h
    · cases h
    · rename_i h2
      split at h
      · rename_i h3
        rw [if_neg h1, if_neg h2, if_pos h3]
        rw [Bool.and_eq_true] at h3
        exact ⟨h3.2, h3.1, by simpa using h1, rfl, by omega⟩
      · cases h
theorem EOs.at_ {base : Nat} {w : World} : ∀ {es : List En} {vs : List Value} (i : Nat) {x : En}, EOs base w es vs → es[i]? = some x → ∃ v0 v1 v2 v3, vs[i * 4]? = some v0 ∧ vs[i * 4 + 1]? = some v1 ∧ vs[i * 4 + 2]? = some v2 ∧ vs[i * 4 + 3]? = some v3 ∧ EO base w x v0 v1 v2 v3 ∧ (Fam w base (pairE es vs) → Fam w base [(v0, x.key), (v3, x.val)])
  | [], _, i, x, _, h => by simp at h
  | g :: es, _, 0, x, ⟨v0, v1, v2, v3, r, q, h1, h2⟩, h => by
    simp only [List.getElem?_cons_zero, Option.some.injEq] at h
    subst h q
    refine ⟨v0, v1, v2, v3, rfl, rfl, rfl, rfl, h1, fun hf => ?_⟩
    have : pairE (g :: es) (v0 :: v1 :: v2 :: v3 :: r) = [(v0, g.key), (v3, g.val)] ++ pairE es r := rfl
    rw [this] at hf
    exact hf.left
  | g :: es, _, i + 1, x, ⟨v0, v1, v2, v3, r, q, h1, h2⟩, h => by
    rw [List.getElem?_cons_succ] at h
    obtain ⟨a, b, c, d, e0, e1, e2, e3, e4, e5⟩ := EOs.at_ i h2 h
    subst q
    refine ⟨a, b, c, d, ?_, ?_, ?_, ?_, e4, fun hf => ?_⟩
    · rw [show (i + 1) * 4 = i * 4 + 4 by omega]; exact e0
    · rw [show (i + 1) * 4 + 1 = i * 4 + 1 + 4 by omega]; exact e1
    · rw [show (i + 1) * 4 + 2 = i * 4 + 2 + 4 by omega]; exact e2
    · rw [show (i + 1) * 4 + 3 = i * 4 + 3 + 4 by omega]; exact e3
    · have : pairE (g :: es) (v0 :: v1 :: v2 :: v3 :: r) = [(v0, g.key), (v3, g.val)] ++ pairE es r := rfl
      rw [this] at hf
      exact e5 hf.right
end Go.Proofs.YtbgelbdnkbhffaaGreat
namespace Go.Proofs.YtbgelbdnkbhffaaGreat
open Go Go.RowKit Go.Maps

section
variable {w : World} {p : Nat} {m : Option Nat} {rs : List FR} {room used left : Int} {dead armed : Bool}
end

/-- The files but one. -/
def delR (x : List UInt8) (rs : List FR) : List FR := rs.filter fun q => q.name != x
theorem mem_delR {x : List UInt8} {rs : List FR} {q : FR} : q ∈ delR x rs ↔ q ∈ rs ∧ q.name ≠ x := by
  unfold delR
  rw [List.mem_filter]
  simp
theorem delR_len {r : FR} : ∀ {rs : List FR}, rsUp rs → r ∈ rs → (delR r.name rs).length + 1 = rs.length
  | [], _, h => by cases h
  | a :: t, hu, h => by
    unfold rsUp at hu
    rw [List.pairwise_cons] at hu
    rcases List.mem_cons.1 h with rfl | h2
    · have e : delR r.name (r :: t) = t := by
        unfold delR
        rw [List.filter_cons_of_neg (by simp), List.filter_eq_self]
        intro q hq
        have := nlt_ne (hu.1 q hq)
        simpa using fun e => this e.symm
      rw [e, List.length_cons]
    · have hne := nlt_ne (hu.1 r h2)
      have e : delR r.name (a :: t) = a :: delR r.name t := by
        unfold delR
        rw [List.filter_cons_of_pos (by simpa using hne)]
      rw [e, List.length_cons, List.length_cons, delR_len hu.2 h2]
theorem delR_up {x : List UInt8} {rs : List FR} (h : rsUp rs) : rsUp (delR x rs) := List.Pairwise.filter _ h
theorem delR_any (x y : List UInt8) (rs : List FR) : (delR x rs).any (fun q => q.name == y) = (rs.any (fun q => q.name == y) && !(y == x)) := by
  rw [Bool.eq_iff_iff]
  simp only [List.any_eq_true, Bool.and_eq_true, beq_iff_eq, mem_delR, Bool.not_eq_true', beq_eq_false_iff_ne]
  constructor
  · rintro ⟨q, ⟨h1, h2⟩, rfl⟩
    exact ⟨⟨q, h1, rfl⟩, h2⟩
  · rintro ⟨⟨q, h1, rfl⟩, h2⟩
    exact ⟨q, ⟨h1, h2⟩, rfl⟩
theorem MR.del {Dm : DU} {rs : List FR} {r : FR} (h : MR Dm rs) (ht : Tidy Dm) (hu : rsUp rs) (hr : r ∈ rs) : MR (Dm.del (.string r.name)) (delR r.name rs) := by
  have hhas : has Dm (.string r.name) = true := by
    rw [h.2.1, List.any_eq_true]
    exact ⟨r, hr, by simp⟩
  refine ⟨?_, fun x => ?_, fun q hq z => ?_⟩
  · have h1 := size_del (k := .string r.name) ht
    rw [hhas, if_pos rfl, h.1] at h1
    have h2 := delR_len hu hr
    omega
  · rw [delR_any]
    by_cases e : x = r.name
    · subst e
      rw [has_del_same]
      simp
    · rw [has_del_other (by intro e2; injection e2 with e2; exact e e2), h.2.1]
      simp [e]
  · rw [mem_delR] at hq
    rw [atKey_del_other (by intro e2; injection e2 with e2; exact hq.2 e2)]
    exact h.2.2 q hq.1 z
theorem owns_tight {w : World} {b n : Nat} {Dm : DU} (h : w.ownsMap Tryz.prog 9 ptrEl b n Dm) : w.ownsMap Tryz.prog 9 ptrEl b (Maps.size Dm) Dm := by
  obtain ⟨es, clock, h1, h2, h3, h4⟩ := h
  refine ⟨es, clock, h1, h2, ?_, h4⟩
  rw [h4, Maps.size_eq, length_sorted]
  simp

section
variable {w w' : World} {p : Nat} {m : Option Nat} {rs : List FR} {room used left : Int} {dead armed : Bool}
theorem mem_delB {x : List UInt8} {b : Nat} (h : b ∈ allB p m (delR x rs)) : b ∈ allB p m rs := by
  simp only [allB, List.mem_cons, List.mem_append, List.mem_flatMap, mem_delR] at h ⊢
  rcases h with h | h | ⟨q, ⟨hq, _⟩, h⟩
  · exact .inl h
  · exact .inr (.inl h)
  · exact .inr (.inr ⟨q, hq, h⟩)
/-- The disk behind a delete of the map's. -/
theorem DskR.del {r : FR} {b : Nat} {Dm : DU} (h : DskR w p (some b) rs room used left dead armed) (hu : rsUp rs) (hr : r ∈ rs) (ho : w'.ownsMap Tryz.prog 9 ptrEl b rs.length (Dm.del (.string r.name))) (hm : MR Dm rs) (ht : Tidy Dm) (hg : w.grownBy w' (some b)) :
    DskR w' p (some b) (delR r.name rs) room used left dead armed := by
  obtain ⟨h1, h2, h3, h4, h5, h6⟩ := h
  have hf : Fr w w' [b] := Fr.of_grown hg (fun c hc => by injection hc with hc; rw [hc]; exact List.mem_singleton.2 rfl)
  have hM := hm.del ht hu hr
  refine ⟨(hf.block p (Array.getElem?_eq_some_iff.1 h1).1 (fun hmem => h5 b rfl (by rw [List.mem_singleton] at hmem; exact hmem.symm))).trans h1, .inr ⟨b, _, rfl, by rw [← hM.1]; exact owns_tight ho, hM⟩, fun q hq => ?_, fun q hq => h4 q (mem_delR.1 hq).1, h5, List.Pairwise.filter _ h6⟩
  exact (h3 q (mem_delR.1 hq).1).fr hf (fun c hc hmem => (h4 q (mem_delR.1 hq).1).2.1 b rfl (by rw [List.mem_singleton] at hmem; rw [← hmem]; exact hc))

/-- 'The disk without the file.' -/
def RetDel (w : World) (p : Nat) (m : Option Nat) (rs : List FR) (x : List UInt8) (room used left : Int) (dead armed : Bool) (v : Value) (e : Ending) (w' : World) : Prop :=
  e = .returned v ∧ DskR w' p m (delR x rs) room used left dead armed ∧ Fr w w' (allB p m rs)
set_option maxRecDepth 100000 in
set_option maxHeartbeats 1000000 in
theorem drop_none (x : List UInt8) (h : DskR w p m rs room used left dead armed) (hx : ∀ r ∈ rs, r.name ≠ x) (hl : x.length ≤ maxLen) :
    Calls Tryz.prog 172 #[.pointer (some ⟨p, 0, none⟩), .string (tx x)] w fun e w' => e = .returned (.tuple #[]) ∧ w = w' := by
  obtain ⟨c0, c1, c2, c3, c4, c5⟩ := h.head
  have hlk := h.2.1.look_none hx hl
  clear hx hl
  go_enter Tryz.func172, Tryz.ntmps172
  go_wp2
  go_end0
  exact ⟨rfl, rfl⟩
set_option maxRecDepth 100000 in
set_option maxHeartbeats 2000000 in
theorem drop_some {r : FR} (u : Nat) (h : DskR w p m rs room (u : Int) left dead armed) (hu : rsUp rs) (hr : r ∈ rs) (hl : r.name.length ≤ maxLen) (hru : r.dat.length ≤ u) (hu2 : u ≤ 9223372036854775807) :
    Calls Tryz.prog 172 #[.pointer (some ⟨p, 0, none⟩), .string (tx r.name)] w (RetDel w p m rs r.name room ((u - r.dat.length : Nat) : Int) left dead armed (.tuple #[])) := by
  obtain ⟨c0, c1, c2, c3, c4, c5⟩ := h.head
  have hlk := h.2.1.look_some hr hl
  have hfa := h.2.2.1 r hr
  obtain ⟨d0, d1⟩ := hfa.cells
  have f2 := h.thaw 2
  have hpf : p ≠ r.fb := fun e => (h.2.2.2.1 r hr).1 (by rw [e]; simp [FR.bl])
  have i1 : IntKind.i64.wrap ((u : Int) - (r.dat.length : Int)) = (u : Int) - (r.dat.length : Int) := IntWalk.i64_in _ (by omega)
  have hkey := keyN hl
  go_enter Tryz.func172, Tryz.ntmps172
  go_wp2
  go_region
  obtain ⟨W, hW⟩ : ∃ W, W = (w.setCell ⟨p, 2, none⟩ (.int .i64 ((u : Int) - (r.dat.length : Int)))).drew := ⟨_, rfl⟩
  rw [← hW]
  have hf1 : Fr w W [p] := by rw [hW]; exact (Fr.set w p 2 _).drewN 1
  have hD1 : DskR W p m rs room ((u : Int) - (r.dat.length : Int)) left dead armed := h.turn hf1 (by rw [hW]; exact heap_setCell_same _ _ _ _ _ _ h.1)
  have hf1 : Fr w W (allB p m rs) := hf1.mono (fun b hb => .inl (by rw [List.mem_singleton] at hb; rw [hb]; exact mem_head))
  have e1 : ((u : Int) - (r.dat.length : Int)) = ((u - r.dat.length : Nat) : Int) := by omega
  rw [e1] at hD1
  clear hW h hfa c0 c1 c2 c3 c4 c5 d0 d1 f2 i1 hlk e1
  have hM := hD1.2.1
  rcases hM with ⟨_, rfl⟩ | ⟨b, Dm, rfl, ho, hm⟩
  · cases hr
  obtain ⟨c0, _⟩ := hD1.head
  go_wp2_with (at_delete; refine wpList_delete_own _ rfl _ _ 113 9 rfl 133 lawN Tryz.underlying113 _ b rs.length Dm rfl ho _ _ rfl hkey ?_)
  intro w2 ho2 hturn
  have hfin : RetDel w p (some b) rs r.name room ((u - r.dat.length : Nat) : Int) left dead armed (.tuple #[]) (.returned (.tuple #[])) w2 := by
    refine ⟨rfl, hD1.del hu hr ho2 hm (ho.tidy lawN) hturn.grown, ?_⟩
    exact hf1.trans (Fr.of_grown (bl := [b]) hturn.grown (fun c hc => by injection hc with hc; rw [hc]; exact List.mem_singleton.2 rfl)) (fun c hc => .inl (by rw [List.mem_singleton] at hc; rw [hc]; exact mem_map rfl))
  have HFIN := Lib.hid hfin
  clear hfin ho2 hturn hD1 ho hm hf1
  go_wp2
  go_end0
  exact HFIN.out
end
end Go.Proofs.YtbgelbdnkbhffaaGreat
namespace Go.Proofs.YtbgelbdnkbhffaaGreat
open Go Go.RowKit

/-- A number as a value. -/
def uv (m : Nat) : Value := .int .u64 (m : Int)
/-- 'The slice of n numbers at A reads as these.' -/
def RdU (w : World) (A : Option Addr) (n : Nat) (ms : List Nat) : Prop := RdV w A n (ms.map uv) ∧ ∀ m ∈ ms, U64 m
theorem RdU.len {w : World} {A : Option Addr} {n : Nat} {ms : List Nat} (h : RdU w A n ms) : ms.length = n := by
  have := h.1.1
  simpa using this
theorem RdU.below {w w' : World} {A : Option Addr} {n : Nat} {ms : List Nat} (h : RdU w A n ms) (hb : Below w.heap.size w w') : RdU w' A n ms := ⟨h.1.below hb, h.2⟩
theorem RdU.drewN {w : World} {A : Option Addr} {n : Nat} {ms : List Nat} (h : RdU w A n ms) (q : Nat) : RdU (w.drewN q) A n ms := h.below (below_drewN (Below.refl _ _) q)
theorem RdU.at_ {w : World} {b off n : Nat} {ms : List Nat} (h : RdU w (some ⟨b, off, none⟩) n ms) (k : Nat) (hk : k < n) : ∃ m, ms[k]? = some m ∧ w.cell? ⟨b, off + k, none⟩ = some (.int .u64 (m : Int)) ∧ U64 m := by
  obtain ⟨v, h1, h2⟩ := h.1.at_ k hk
  rw [List.getElem?_map] at h1
  cases hm : ms[k]? with
  | none => rw [hm] at h1; cases h1
  | some m =>
    rw [hm] at h1
    injection h1 with h1
    exact ⟨m, rfl, by rw [h2, ← h1]; rfl, h.2 m (List.mem_of_getElem? hm)⟩
end Go.Proofs.YtbgelbdnkbhffaaGreat
namespace Go.Proofs.YtbgelbdnkbhffaaGreat
open Go Go.RowKit

/-- Of the first i lists those that differ from the one ahead. -/
def compN (xss : List (List UInt8)) : Nat → List (List UInt8)
  | 0 => []
  | i + 1 => match xss[i]? with
    | none => compN xss i
    | some x => if (decide (0 < i) && eqB x (xss[i - 1]?.getD [])) = true then compN xss i else compN xss i ++ [x]
def compB (xss : List (List UInt8)) : List (List UInt8) := compN xss xss.length
theorem compN_new {xss : List (List UInt8)} {i : Nat} {x : List UInt8} (h : xss[i]? = some x) (h2 : i = 0 ∨ ∃ y, xss[i - 1]? = some y ∧ eqB x y = false) : compN xss (i + 1) = compN xss i ++ [x] := by
  rw [compN, h]
  refine if_neg ?_
  rcases h2 with rfl | ⟨y, h2, h3⟩
  · simp
  · rw [h2]; simp [h3]
theorem compN_old {xss : List (List UInt8)} {i : Nat} {x y : List UInt8} (h : xss[i]? = some x) (hi : 0 < i) (h2 : xss[i - 1]? = some y) (h3 : eqB x y = true) : compN xss (i + 1) = compN xss i := by
  rw [compN, h]
  refine if_pos ?_
  rw [h2]
  simp [h3, hi]
theorem compN_len (xss : List (List UInt8)) : ∀ i, (compN xss i).length ≤ i
  | 0 => Nat.le_refl _
  | i + 1 => by
    have := compN_len xss i
    rw [compN]
    split
    · omega
    · split
      · omega
      · rw [List.length_append]; simp; omega
/-- A row of slices that are read where they were made, an older world. -/
def RwO (w0 : World) (xss : List (List UInt8)) (arr : Array Value) : Prop := ∀ (i : Nat) x, xss[i]? = some x → ∃ v, arr[i]? = some v ∧ ElB w0 v x
/-- The row at g, from the k-th on still as it was, the first m as they shall be. -/
def CpS (w0 w : World) (g c : Nat) (xss : List (List UInt8)) (arr : Array Value) (k i : Nat) (wr : World) : Prop :=
  ∃ brr, Cl wr g brr 29 ∧ brr.size = c ∧ RwO w0 (compN xss i) brr ∧ (compN xss i).length = k ∧ (∀ j, i ≤ j + 1 → brr[j]? = arr[j]?) ∧ Below w0.heap.size w0 wr ∧ w.grownBy wr (some g)
def RetCp (w0 w : World) (g c s : Nat) (yss : List (List UInt8)) (e : Ending) (w' : World) : Prop :=
  ∃ m brr, e = .returned (.slice (some ⟨g, 0, none⟩) m s) ∧ Cl w' g brr 29 ∧ brr.size = c ∧ RwO w0 yss brr ∧ yss.length = m ∧ Below w0.heap.size w0 w' ∧ w.grownBy w' (some g)
theorem RwO.take {w0 : World} {xss : List (List UInt8)} {arr : Array Value} (h : RwO w0 xss arr) (k : Nat) : RwO w0 (xss.take k) arr := fun i x hx => by
  rw [List.getElem?_take] at hx
  split at hx
  · exact h i x hx
  · cases hx
theorem ElB.up {w0 wr : World} {v : Value} {x : List UInt8} (h : ElB w0 v x) (hb : Below w0.heap.size w0 wr) : ElB wr v x := h.below hb

theorem grow_drew {w w' : World} {row : Option Nat} (h : w.grownBy w' row) : w.grownBy w'.drew row := by
  obtain ⟨p1, p2, p3, p4, p5⟩ := h
  exact ⟨p1, p2, p3, p4, p5⟩
theorem comp_one {xss : List (List UInt8)} (h : 1 ≤ xss.length) : compN xss 1 = xss.take 1 := by
  match xss, h with
  | x :: t, _ => rfl
theorem cl_setCells {g : Nat} {t : TypeId} : ∀ (vs : List Value) (o : Nat) {w : World} {arr : Array Value}, Cl w g arr t → ∃ brr, Cl (w.setCells g o vs) g brr t ∧ brr.size = arr.size ∧ (∀ j, j < o → brr[j]? = arr[j]?) ∧ w.grownBy (w.setCells g o vs) (some g) ∧ ∀ B, B ≤ g → Below B w (w.setCells g o vs)
  | [], _, w, arr, h => ⟨arr, h, rfl, fun _ _ => rfl, grow_of_below (Below.refl _ _), fun _ _ => Below.refl _ _⟩
  | v :: r, o, w, arr, h => by
    obtain ⟨brr, h1, h2, h3, ⟨q1, q2, q3, q4, q5⟩, h5⟩ := cl_setCells r (o + 1) (h.set o v)
    obtain ⟨p1, p2, p3, p4, p5⟩ : w.grownBy (w.setCell ⟨g, o, none⟩ v) (some g) := grow_set (grow_of_below (Below.refl _ _)) g o v rfl
    refine ⟨brr, h1, by rw [h2]; simp, fun j hj => ?_, ⟨q1.trans p1, q2.trans p2, q3.trans p3, Nat.le_trans p4 q4, fun k hk hne => ?_⟩, fun B hB => ((Below.refl _ _).setCell hB v).trans (h5 B hB)⟩
    · rw [h3 j (by omega), Array.getElem?_setIfInBounds_ne (by omega)]
    · exact (q5 k (Nat.lt_of_lt_of_le hk p4) hne).trans (p5 k hk hne)

set_option maxRecDepth 100000 in
set_option maxHeartbeats 16000000 in
theorem compact_any {w0 w : World} {g n c s : Nat} {arr : Array Value} {xss : List (List UInt8)} (hz : Cl w g arr 29) (hc : arr.size = c) (hn : n ≤ c) (hns : n ≤ s) (hn2 : n ≤ 1099511627776) (hl : xss.length = n) (he : RwO w0 xss arr) (hg : w0.heap.size ≤ g) (hb : Below w0.heap.size w0 w) :
    Calls Tryz.prog 139 #[.slice (some ⟨g, 0, none⟩) n s, .func (.func 68) #[] #[]] w (RetCp w0 w g c s (compB xss)) := by
  have HZ := Lib.hid hz
  have HE := Lib.hid he
  have HL := Lib.hid hl
  have HC := Lib.hid hc
  have HG := Lib.hid hg
  have HB := Lib.hid hb
  clear hz he hl hc hg hb
  go_enter Tryz.func139, Tryz.ntmps139
  by_cases hn1 : n < 2
  · have HF : Hid (RetCp w0 w g c s (compB xss) (.returned (.slice (some ⟨g, 0, none⟩) n s)) w) := Lib.hid (by
      have hx : compB xss = xss := by
        have h1 := HL.out
        unfold compB
        match xss, h1 with
        | [], _ => rfl
        | [x], _ => rfl
        | a :: b :: t, h1 => simp at h1; omega
      rw [hx]
      exact ⟨n, arr, rfl, HZ.out, HC.out, HE.out, HL.out, HB.out, grow_of_below (Below.refl _ _)⟩)
    go_wp2_with fail
    go_ret
    exact HF.out
  · have HK2 := Lib.hid (show 2 ≤ n by omega)
    go_wp2_with fail
    go_loopw [5] (fun s5 wr => ∃ k : Nat, 1 ≤ k ∧ k ≤ n ∧ s5 = .int .i64 (k : Int) ∧ compN xss k = xss.take k ∧ Below w.heap.size w wr) (fun s _ => n - (intOf s).toNat)
    case atStart => exact ⟨1, Nat.le_refl _, by have := HK2.out; omega, rfl, comp_one (by have := HL.out; have := HK2.out; omega), Below.refl _ _⟩
    case round =>
      obtain ⟨k, hk1, hkn, rfl, hT, hB⟩ := hrel
      have HT := Lib.hid hT
      have HBR := Lib.hid hB
      clear hT hB
      by_cases hlt : k < n
      · obtain ⟨j, rfl⟩ : ∃ j, k = j + 1 := ⟨k - 1, by omega⟩
        obtain ⟨k, hk⟩ : ∃ k, k = j + 1 := ⟨_, rfl⟩
        rw [← hk] at hlt hkn hk1 HT ⊢
        have hlx := HL.out
        obtain ⟨x, hx⟩ : ∃ x, xss[k]? = some x := ⟨_, List.getElem?_eq_getElem (by omega)⟩
        obtain ⟨y, hy⟩ : ∃ y, xss[j]? = some y := ⟨_, List.getElem?_eq_getElem (by omega)⟩
        obtain ⟨v, hv, A1, n1, c1, rfl, r1, _⟩ := HE.out k x hx
        obtain ⟨u, hu, A2, n2, c2, rfl, r2, _⟩ := HE.out j y hy
        have b0 : Below w0.heap.size w0 wr := HB.out.trans (HBR.out.mono HB.out.size)
        have HEQ : Hid (∀ wx, Below wr.heap.size wr wx → Calls Tryz.prog 68 #[.slice A1 n1 c1, .slice A2 n2 c2] wx (fun e w' => e = .returned (.bool (eqB x y)) ∧ w' = wx)) := Lib.hid (fun wx hb => mgEqual_any A1 A2 n1 n2 c1 c2 x y wx ((r1.below b0).below hb) ((r2.below b0).below hb))
        have zr : Cl wr g arr 29 := HZ.out.below HBR.out
        have c0 : wr.cell? ⟨g, k, none⟩ = some (.slice A1 n1 c1) := (zr.cell k).trans hv
        have cj : wr.cell? ⟨g, j, none⟩ = some (.slice A2 n2 c2) := (zr.cell j).trans hu
        have HCC : Hid (∀ wx, Below wr.heap.size wr wx → wx.cell? ⟨g, k, none⟩ = some (.slice A1 n1 c1) ∧ wx.cell? ⟨g, j, none⟩ = some (.slice A2 n2 c2)) := Lib.hid (fun wx hb => ⟨((zr.below hb).cell k).trans hv, ((zr.below hb).cell j).trans hu⟩)
        have hkj : IntKind.i64.wrap ((k : Int) - 1) = (j : Int) := by rw [IntWalk.i64_in _ (by omega)]; omega
        have hj : j < n := by omega
        have HX := Lib.hid hx
        have HY := Lib.hid hy
        have HK := Lib.hid hk
        have HV := Lib.hid hv
        have hB0 : Below wr.heap.size wr wr.drew := (Below.refl _ _).drew
        obtain ⟨z, hzz⟩ : ∃ z, z = eqB x y := ⟨_, rfl⟩
        rw [← hzz] at HEQ
        have HZZ := Lib.hid hzz
        clear hlx hx hy hv hu r1 r2 b0 zr hk hzz
        cases z with
        | true =>
          have hsk : n - k ≤ s - k := by omega
          go_wp2_with fail
          go_region_held3 (fun wx => wx.cell? ⟨g, k, none⟩ = some (.slice A1 n1 c1) ∧ wx.cell? ⟨g, j, none⟩ = some (.slice A2 n2 c2)) (first | assumption | exact HCC.out _ hB0)
            (first | (go_at_call 68; with_reducible refine (HEQ.out _ hB0).mono ?_; intro e1 wn hq; obtain ⟨h1, h2⟩ := hq; subst h1; subst h2))
          all_goals
            clear c0 cj HCC HEQ
            have HP0 : Hid (CpS w0 w g c xss arr k (k + 1) wr.drew) := Lib.hid (by
              have e1 : compN xss (k + 1) = xss.take k := by rw [compN_old HX.out (by omega) (by rw [HK.out]; exact HY.out) HZZ.out.symm, HT.out]
              have b2 := HBR.out.drew
              exact ⟨arr, HZ.out.below b2, HC.out, by rw [e1]; exact HE.out.take k, by rw [e1, List.length_take, HL.out]; omega, fun _ _ => rfl, HB.out.trans (b2.mono HB.out.size), grow_of_below b2⟩)
            go_wp2_with fail
            go_loopw [5, 7] (fun s5 s7 wq => ∃ k2 i : Nat, s5 = .int .i64 (k2 : Int) ∧ s7 = .int .i64 (i : Int) ∧ 1 ≤ i ∧ k + i ≤ n ∧ k2 + 1 ≤ k + i ∧ CpS w0 w g c xss arr k2 (k + i) wq) (fun _ s _ => n - (intOf s).toNat)
            case atStart => exact ⟨k, 1, rfl, rfl, Nat.le_refl _, by omega, by omega, HP0.out⟩
            case round =>
              obtain ⟨k2, i, rfl, rfl, hi1, hin, hki, hP⟩ := hrel
              obtain ⟨brr, zq, hbs, hrw, hlen, hun, hbq, hgq⟩ := hP
              by_cases hlt2 : k + i < n
              · obtain ⟨i1, hi⟩ : ∃ i1, i = i1 + 1 := ⟨i - 1, by omega⟩
                have hlx := HL.out
                obtain ⟨x2, hx2⟩ : ∃ x, xss[k + i]? = some x := ⟨_, List.getElem?_eq_getElem (by omega)⟩
                obtain ⟨y2, hy2⟩ : ∃ y, xss[k + i1]? = some y := ⟨_, List.getElem?_eq_getElem (by omega)⟩
                obtain ⟨v2, hv2, B1, m1, d1, rfl, q1, hmd1, hnil1⟩ := HE.out (k + i) x2 hx2
                obtain ⟨u2, hu2, B2, m2, d2, rfl, q2, _⟩ := HE.out (k + i1) y2 hy2
                have HEL : Hid (ElB w0 (.slice B1 m1 d1) x2) := Lib.hid ⟨B1, m1, d1, rfl, q1, hmd1, hnil1⟩
                have HEQ : Hid (∀ wx, Below wr.heap.size wr wx → Calls Tryz.prog 68 #[.slice B1 m1 d1, .slice B2 m2 d2] wx (fun e w' => e = .returned (.bool (eqB x2 y2)) ∧ w' = wx)) := Lib.hid (fun wx hb => mgEqual_any B1 B2 m1 m2 d1 d2 x2 y2 wx ((q1.below hbq).below hb) ((q2.below hbq).below hb))
                rw [← hun (k + i) (by omega)] at hv2
                rw [← hun (k + i1) (by omega)] at hu2
                obtain ⟨old, ho⟩ : ∃ o, brr[k2]? = some o := ⟨_, Array.getElem?_eq_getElem (by omega)⟩
                have HCC : Hid (∀ wx, Below wr.heap.size wr wx → wx.cell? ⟨g, k + i, none⟩ = some (.slice B1 m1 d1) ∧ wx.cell? ⟨g, k + i1, none⟩ = some (.slice B2 m2 d2)) := Lib.hid (fun wx hb => ⟨((zq.below hb).cell _).trans hv2, ((zq.below hb).cell _).trans hu2⟩)
                have c0 : wr.cell? ⟨g, k + i, none⟩ = some (.slice B1 m1 d1) := (zq.cell _).trans hv2
                have cj : wr.cell? ⟨g, k + i1, none⟩ = some (.slice B2 m2 d2) := (zq.cell _).trans hu2
                have e0 : wr.drew.cell? ⟨g, k + i, none⟩ = some (.slice B1 m1 d1) := (zq.cell _).trans hv2
                have ck : wr.drew.cell? ⟨g, k2, none⟩ = some old := (zq.cell _).trans ho
                have fk : wr.drew.frozen? ⟨g, k2, none⟩ = false := zq.thaw _
                have hij : IntKind.i64.wrap ((i : Int) - 1) = (i1 : Int) := by rw [IntWalk.i64_in _ (by omega)]; omega
                have hl3 : i < n - k := by omega
                have hl4 : i1 < n - k := by omega
                have hl5 : k2 < n := by omega
                have hB0 : Below wr.heap.size wr wr.drew := (Below.refl _ _).drew
                have HP := Lib.hid (show CpS w0 w g c xss arr k2 (k + i) wr from ⟨brr, zq, hbs, hrw, hlen, hun, hbq, hgq⟩)
                have HX2 := Lib.hid hx2
                have HY2 := Lib.hid hy2
                have HI := Lib.hid hi
                obtain ⟨z2, hz2⟩ : ∃ z, z = eqB x2 y2 := ⟨_, rfl⟩
                rw [← hz2] at HEQ
                have HZ2 := Lib.hid hz2
                clear hlx hx2 hy2 hv2 hu2 q1 q2 zq hbs hrw hlen hun hbq hgq hi hz2 ho hmd1 hnil1
                cases z2 with
                | true =>
                  clear e0 ck fk
                  go_wp2_with fail
                  go_region_held3 (fun wx => wx.cell? ⟨g, k + i, none⟩ = some (.slice B1 m1 d1) ∧ wx.cell? ⟨g, k + i1, none⟩ = some (.slice B2 m2 d2)) (first | assumption | exact HCC.out _ hB0)
                    (first | (go_at_call 68; with_reducible refine (HEQ.out _ hB0).mono ?_; intro e1 wn hq; obtain ⟨h1, h2⟩ := hq; subst h1; subst h2))
                  all_goals
                    have HP3 : Hid (CpS w0 w g c xss arr k2 (k + (i + 1)) wr.drew) := Lib.hid (by
                      obtain ⟨brr, zq, hbs, hrw, hlen, hun, hbq, hgq⟩ := HP.out
                      have e1 : compN xss (k + (i + 1)) = compN xss (k + i) := compN_old (i := k + i) HX2.out (by omega) (by rw [show k + i - 1 = k + i1 by have := HI.out; omega]; exact HY2.out) HZ2.out.symm
                      exact ⟨brr, zq, hbs, by rw [e1]; exact hrw, by rw [e1]; exact hlen, fun j hj => hun j (by omega), hbq.drew, grow_drew hgq⟩)
                    go_wp2_with fail
                    go_roundw
                    case rel => exact ⟨k2, i + 1, rfl, by go_num, by omega, by omega, by omega, HP3.out⟩
                    case measure => simp [intOf]; omega
                | false =>
                  go_wp2_with fail
                  go_region_held3 (fun wx => wx.cell? ⟨g, k + i, none⟩ = some (.slice B1 m1 d1) ∧ wx.cell? ⟨g, k + i1, none⟩ = some (.slice B2 m2 d2)) (first | assumption | exact HCC.out _ hB0)
                    (first | (go_at_call 68; with_reducible refine (HEQ.out _ hB0).mono ?_; intro e1 wn hq; obtain ⟨h1, h2⟩ := hq; subst h1; subst h2))
                  all_goals
                    have HP3 : Hid (CpS w0 w g c xss arr (k2 + 1) (k + (i + 1)) (wr.drew.setCell ⟨g, k2, none⟩ (.slice B1 m1 d1))) := Lib.hid (by
                      obtain ⟨brr, zq, hbs, hrw, hlen, hun, hbq, hgq⟩ := HP.out
                      have e1 : compN xss (k + (i + 1)) = compN xss (k + i) ++ [x2] := compN_new (i := k + i) HX2.out (.inr ⟨y2, by rw [show k + i - 1 = k + i1 by have := HI.out; omega]; exact HY2.out, HZ2.out.symm⟩)
                      have hgw : w0.heap.size ≤ g := HG.out
                      refine ⟨brr.setIfInBounds k2 (.slice B1 m1 d1), zq.drewN 1 |>.set k2 _, by simp [hbs], ?_, by rw [e1, List.length_append, hlen]; rfl, fun j hj => ?_, (hbq.drew).setCell hgw _, ?_⟩
                      · rw [e1]
                        intro t x hx
                        by_cases ht : t < k2
                        · rw [List.getElem?_append_left (by omega)] at hx
                          obtain ⟨v, h1, h2⟩ := hrw t x hx
                          exact ⟨v, by rw [Array.getElem?_setIfInBounds_ne (by omega)]; exact h1, h2⟩
                        · rw [List.getElem?_append_right (by omega), hlen] at hx
                          have ht2 : t = k2 := by
                            rcases Nat.lt_or_ge t (k2 + 1) with h | h
                            · omega
                            · rw [List.getElem?_eq_none (by simp; omega)] at hx; cases hx
                          subst ht2
                          simp at hx
                          subst hx
                          exact ⟨_, Array.getElem?_setIfInBounds_self_of_lt (by omega), HEL.out⟩
                      · rw [Array.getElem?_setIfInBounds_ne (by omega)]
                        exact hun j (by omega)
                      · exact grow_set (w' := wr.drew) (grow_drew hgq) g k2 _ rfl)
                    go_wp2_with fail
                    go_roundw
                    case rel => exact ⟨k2 + 1, i + 1, by go_num, by go_num, by omega, by omega, by omega, HP3.out⟩
                    case measure => simp [intOf]; omega
              · have hin2 : i = n - k := by omega
                have hcl : ∀ ty, (Builtin.clear_ #[99] ty #[.slice (some ⟨g, k2, none⟩) (n - k2) (s - k2)]).run Tryz.prog wr = .ok (.tuple #[]) (wr.setCells g k2 (List.replicate (n - k2) (.slice none 0 0))) :=
                  fun ty => Lib.run_clear_slice wr _ _ ty _ Tryz.underlying99 Tryz.zeroValue29 rfl rfl g k2 _ _ (by omega) (fun j hj => by rw [zq.cell, Array.getElem?_eq_getElem (by omega)]; rfl) (fun j hj => zq.thaw _)
                have HF : Hid (RetCp w0 w g c s (compB xss) (.returned (.slice (some ⟨g, 0, none⟩) k2 s)) (wr.setCells g k2 (List.replicate (n - k2) (.slice none 0 0)))) := Lib.hid (by
                  have e1 : compB xss = compN xss (k + i) := by unfold compB; rw [HL.out, show k + i = n by omega]
                  obtain ⟨crr, k1, k3, k4, k5, k6⟩ := cl_setCells (List.replicate (n - k2) (.slice none 0 0)) k2 zq
                  rw [e1]
                  refine ⟨k2, crr, rfl, k1, by rw [k3, hbs], fun t x hx => ?_, hlen, hbq.trans (k6 _ HG.out), ?_⟩
                  · obtain ⟨v, h1, h2⟩ := hrw t x hx
                    have htl : t < k2 := by
                      rcases Nat.lt_or_ge t k2 with h | h
                      · exact h
                      · rw [List.getElem?_eq_none (by omega)] at hx; cases hx
                    exact ⟨v, by rw [k4 t htl]; exact h1, h2⟩
                  · obtain ⟨q1, q2, q3, q4, q5⟩ := k5
                    obtain ⟨p1, p2, p3, p4, p5⟩ := hgq
                    exact ⟨q1.trans p1, q2.trans p2, q3.trans p3, Nat.le_trans p4 q4, fun b hb hne => (q5 b (Nat.lt_of_lt_of_le hb p4) hne).trans (p5 b hb hne)⟩)
                have hl3 : ¬ i < n - k := by omega
                have hl4 : k2 ≤ n := by omega
                have hl5 : k2 ≤ s := by omega
                clear zq hbs hrw hlen hun hbq hgq hin2
                go_wp2_with fail
                go_ret
                exact HF.out
        | false =>
          go_wp2_with fail
          go_region_held3 (fun wx => wx.cell? ⟨g, k, none⟩ = some (.slice A1 n1 c1) ∧ wx.cell? ⟨g, j, none⟩ = some (.slice A2 n2 c2)) (first | assumption | exact HCC.out _ hB0)
            (first | (go_at_call 68; with_reducible refine (HEQ.out _ hB0).mono ?_; intro e1 wn hq; obtain ⟨h1, h2⟩ := hq; subst h1; subst h2))
          all_goals
            go_wp2_with fail
            go_roundw
            case rel => exact ⟨k + 1, by omega, by omega, by go_num, by rw [compN_new HX.out (.inr ⟨y, by rw [HK.out]; exact HY.out, HZZ.out.symm⟩), HT.out, List.take_add_one, HX.out]; rfl, HBR.out.drew⟩
            case measure => simp [intOf]; omega
      · have HF : Hid (RetCp w0 w g c s (compB xss) (.returned (.slice (some ⟨g, 0, none⟩) n s)) wr) := Lib.hid (by
          have hx : compB xss = xss := by
            unfold compB
            obtain rfl : k = n := by omega
            rw [HL.out, HT.out, List.take_of_length_le (by have := HL.out; omega)]
          rw [hx]
          exact ⟨n, arr, rfl, HZ.out.below HBR.out, HC.out, HE.out, HL.out, HB.out.trans (HBR.out.mono HB.out.size), grow_of_below HBR.out⟩)
        go_wp2_with fail
        go_ret
        exact HF.out
end Go.Proofs.YtbgelbdnkbhffaaGreat
namespace Go.Proofs.YtbgelbdnkbhffaaGreat
open Go Go.RowKit

theorem openG_one (r : List UInt8) (hr : r.length ≤ 1048576) : openG (sealB r) ((0 : Nat) : Int) = (r, ((8 + r.length : Nat) : Int), 0) := by
  have hl := sealB_len r
  have hm : r.length = numK ((sealB r).drop 0) 4 := by
    rw [List.drop_zero, sealB, numK_fourB _ _ (by omega)]
  have h2 : (sealB r).take (0 + 8 + r.length) = sealB r := List.take_of_length_le (by omega)
  have h4 : (sealB r).drop (0 + 8) = r := by
    unfold sealB
    rw [← List.append_assoc]
    exact List.drop_left' (by simp only [List.length_append, fourB_len])
  rw [openG_whole (a := 0) (n := 8 + r.length) hl hm (by omega) (by omega), h2, h4, List.drop_zero, eqB_self, if_pos rfl, Nat.zero_add]
theorem numR_at {xs pre r : List UInt8} {n a : Nat} (hx : xs = pre ++ (putU n ++ r)) (ha : a = pre.length) (h : n < B64) : numR xs (a, false) = (n, (a + (putU n).length, false)) := by
  subst hx ha
  unfold numR
  rw [getU_at pre r n h, if_pos rfl]
  simp only [Int.toNat_natCast]
theorem takeR_at {xs pre ys r : List UInt8} {n a : Nat} (hx : xs = pre ++ (ys ++ r)) (ha : a = pre.length) (hn : n = ys.length) : takeR xs n (a, false) = (ys, (a + n, false)) := by
  subst hx ha hn
  unfold takeR
  simp only [List.length_append]
  rw [if_neg (by omega), List.drop_left' rfl, List.take_left' rfl]
theorem comB_take : ∀ (xs ys : List UInt8), xs.take (comB xs ys) = ys.take (comB xs ys)
  | [], _ => by simp [comB]
  | _ :: _, [] => by simp [comB]
  | x :: xs, y :: ys => by
    unfold comB
    split
    · rename_i e
      subst e
      rw [List.take_succ_cons, List.take_succ_cons, comB_take xs ys]
    · simp
/-- An entry that was written is read back. -/
theorem ent_at {xs pre R ah : List UInt8} {x : En} {s a : Nat} (hx : xs = pre ++ (entB s x ++ R)) (ha : a = pre.length) (hs : s ≤ x.key.length) (hk : x.key.length ≤ 1024) (hv : x.val.length ≤ 65536) (hq : U64 x.seq) (hd : x.kind < 256) (hah : ah.take s = x.key.take s) :
    badR xs ah a = false ∧ entR xs ah a = x ∧ (e7R xs a).2.1 = a + (entB s x).length := by
  have hx0 : xs = pre ++ (putU s ++ (putU (x.key.length - s) ++ (putU x.seq ++ ([bt x.kind] ++ (putU x.val.length ++ (x.key.drop s ++ (x.val ++ R))))))) := by
    rw [hx]
    unfold entB
    simp only [List.append_assoc]
  have h1 : e1R xs a = (s, (a + (putU s).length, false)) := numR_at hx0 ha (by unfold B64; omega)
  have h2 : e2R xs a = (x.key.length - s, (a + (putU s).length + (putU (x.key.length - s)).length, false)) := by
    unfold e2R
    rw [h1]
    exact numR_at (pre := pre ++ putU s) (r := putU x.seq ++ ([bt x.kind] ++ (putU x.val.length ++ (x.key.drop s ++ (x.val ++ R))))) (by rw [hx0]; simp only [List.append_assoc]) (by simp only [List.length_append, ha]) (by unfold B64; omega)
  have h3 : e3R xs a = (x.seq, (a + (putU s).length + (putU (x.key.length - s)).length + (putU x.seq).length, false)) := by
    unfold e3R
    rw [h2]
    exact numR_at (pre := pre ++ putU s ++ putU (x.key.length - s)) (r := [bt x.kind] ++ (putU x.val.length ++ (x.key.drop s ++ (x.val ++ R)))) (by rw [hx0]; simp only [List.append_assoc]) (by simp only [List.length_append, ha]) hq
  have h4 : e4R xs a = ([bt x.kind], (a + (putU s).length + (putU (x.key.length - s)).length + (putU x.seq).length + 1, false)) := by
    unfold e4R
    rw [h3]
    exact takeR_at (pre := pre ++ putU s ++ putU (x.key.length - s) ++ putU x.seq) (r := putU x.val.length ++ (x.key.drop s ++ (x.val ++ R))) (by rw [hx0]; simp only [List.append_assoc]) (by simp only [List.length_append, ha]) rfl
  have h5 : e5R xs a = (x.val.length, (a + (putU s).length + (putU (x.key.length - s)).length + (putU x.seq).length + 1 + (putU x.val.length).length, false)) := by
    unfold e5R
    rw [h4]
    exact numR_at (pre := pre ++ putU s ++ putU (x.key.length - s) ++ putU x.seq ++ [bt x.kind]) (r := x.key.drop s ++ (x.val ++ R)) (by rw [hx0]; simp only [List.append_assoc]) (by simp only [List.length_append, List.length_cons, List.length_nil, ha]) (by unfold B64; omega)
  have h6 : e6R xs a = (x.key.drop s, (a + (putU s).length + (putU (x.key.length - s)).length + (putU x.seq).length + 1 + (putU x.val.length).length + (x.key.length - s), false)) := by
    unfold e6R
    rw [h2, h5]
    exact takeR_at (pre := pre ++ putU s ++ putU (x.key.length - s) ++ putU x.seq ++ [bt x.kind] ++ putU x.val.length) (r := x.val ++ R) (by rw [hx0]; simp only [List.append_assoc]) (by simp only [List.length_append, List.length_cons, List.length_nil, ha]) (by simp)
  have h7 : e7R xs a = (x.val, (a + (putU s).length + (putU (x.key.length - s)).length + (putU x.seq).length + 1 + (putU x.val.length).length + (x.key.length - s) + x.val.length, false)) := by
    unfold e7R
    rw [h5, h6]
    exact takeR_at (pre := pre ++ putU s ++ putU (x.key.length - s) ++ putU x.seq ++ [bt x.kind] ++ putU x.val.length ++ x.key.drop s) (r := R) (by rw [hx0]; simp only [List.append_assoc]) (by simp only [List.length_append, List.length_cons, List.length_nil, List.length_drop, ha]) rfl
  have hahl : s ≤ ah.length := by
    have := congrArg List.length hah
    simp only [List.length_take] at this
    omega
  refine ⟨?_, ?_, ?_⟩
  · unfold badR
    rw [h7, h1, h6]
    simp only [List.length_drop, Bool.false_or, Bool.or_eq_false_iff, decide_eq_false_iff_not]
    omega
  · unfold entR
    rw [h1, h3, h4, h6, h7]
    simp only [List.headD_cons]
    rw [hah, List.take_append_drop, bt_nat _ hd]
  · rw [h7]
    simp only
    unfold entB
    simp only [List.length_append, List.length_cons, List.length_nil, List.length_drop]
    omega
theorem outB_pre (ev : Nat) (es : List En) (i : Nat) : ∀ j, i ≤ j → ∃ R, outB ev es j = outB ev es i ++ R := by
  intro j
  induction j with
  | zero => intro h; exact ⟨[], by rw [show i = 0 by omega]; simp⟩
  | succ j ih =>
    intro h
    by_cases e : i = j + 1
    · exact ⟨[], by rw [e]; simp⟩
    · obtain ⟨R, hR⟩ := ih (by omega)
      rw [outB]
      split
      · exact ⟨R ++ entB (shB ev es j) _, by rw [hR, List.append_assoc]⟩
      · exact ⟨R, hR⟩
theorem rsB_pre (ev : Nat) (es : List En) (i : Nat) : ∀ j, i ≤ j → ∃ R, rsB ev es j = rsB ev es i ++ R := by
  intro j
  induction j with
  | zero => intro h; exact ⟨[], by rw [show i = 0 by omega]; simp⟩
  | succ j ih =>
    intro h
    by_cases e : i = j + 1
    · exact ⟨[], by rw [e]; simp⟩
    · obtain ⟨R, hR⟩ := ih (by omega)
      rw [rsB]
      split
      · exact ⟨R ++ fourB _, by rw [hR, List.append_assoc]⟩
      · exact ⟨R, hR⟩
theorem rsB_mod (ev : Nat) (es : List En) : ∀ i, (rsB ev es i).length % 4 = 0
  | 0 => rfl
  | i + 1 => by
    have := rsB_mod ev es i
    unfold rsB
    split
    · rw [List.length_append, fourB_len]; omega
    · exact this
theorem rsB_one {ev : Nat} {es : List En} : ∀ {i : Nat}, 1 ≤ i → i ≤ ev → rsB ev es i = fourB 0
  | 0, h, _ => absurd h (by omega)
  | i + 1, _, h2 => by
    by_cases e : i = 0
    · subst e
      rw [rsB, if_pos (Nat.zero_mod _)]
      rfl
    · rw [rsB, if_neg (by rw [Nat.mod_eq_of_lt (by omega)]; exact e)]
      exact rsB_one (by omega) (by omega)
theorem entB_pos (s : Nat) (x : En) : 1 ≤ (entB s x).length := by
  have := putU_pos s
  unfold entB
  simp only [List.length_append]
  omega
theorem lastK_take {es : List En} {i : Nat} {y : En} (h : es[i]? = some y) : lastK (es.take (i + 1)) = y.key := by
  rw [List.take_add_one, h]
  exact lastK_snoc _ y
theorem sh_take {ev i : Nat} {es : List En} {x : En} (h : es[i]? = some x) : (lastK (es.take i)).take (shB ev es i) = x.key.take (shB ev es i) := by
  unfold shB
  split
  · simp
  · rename_i h0
    obtain ⟨j, rfl⟩ : ∃ j, i = j + 1 := ⟨i - 1, by
      rcases Nat.eq_zero_or_pos i with e | e
      · rw [e, Nat.zero_mod] at h0; exact absurd rfl h0
      · omega⟩
    obtain ⟨y, hy⟩ : ∃ y, es[j]? = some y := ⟨_, List.getElem?_eq_getElem (by have := (List.getElem?_eq_some_iff.1 h).1; omega)⟩
    rw [Nat.add_sub_cancel, hy, h, lastK_take hy]
    exact comB_take _ _
/-- Reading on from the i-th entry. -/
theorem par_from {ev : Nat} {es : List En} {sec : Int} (hz : ∀ x ∈ es, x.key.length ≤ 1024 ∧ x.val.length ≤ 65536) (hw : ∀ x ∈ es, U64 x.seq ∧ x.kind < 256) (g : Nat → Nat → Nat) (hg0 : ∀ c, g es.length c = c)
    (hg : ∀ i c, i < es.length → g i c = g (i + 1) (if ((outB ev es i).length : Int) = sec then i else c)) : ∀ (k i f c : Nat), i + k = es.length → k < f → parR (outB ev es es.length) sec f (outB ev es i).length (es.take i) c = some (es, g i c)
  | 0, i, f, c, hi, hf => by
    obtain ⟨f', rfl⟩ : ∃ f', f = f' + 1 := ⟨f - 1, by omega⟩
    obtain rfl : i = es.length := by omega
    rw [parR, if_pos (Nat.le_refl _), hg0, List.take_length]
  | k + 1, i, f, c, hi, hf => by
    obtain ⟨f', rfl⟩ : ∃ f', f = f' + 1 := ⟨f - 1, by omega⟩
    have hlt : i < es.length := by omega
    obtain ⟨x, hx⟩ : ∃ x, es[i]? = some x := ⟨_, List.getElem?_eq_getElem hlt⟩
    have hm := List.mem_of_getElem? hx
    obtain ⟨R, hR⟩ := outB_pre ev es (i + 1) es.length hlt
    rw [outB_step hx, List.append_assoc] at hR
    have hpos := entB_pos (shB ev es i) x
    obtain ⟨q1, q2, q3⟩ := ent_at (ah := lastK (es.take i)) hR rfl (shB_le hx) (hz x hm).1 (hz x hm).2 (hw x hm).1 (hw x hm).2 (sh_take hx)
    have hlen : (outB ev es i).length < (outB ev es es.length).length := by
      rw [hR]
      simp only [List.length_append]
      omega
    have hnx : (outB ev es i).length + (entB (shB ev es i) x).length = (outB ev es (i + 1)).length := by rw [outB_step hx, List.length_append]
    have htk : es.take i ++ [x] = es.take (i + 1) := by rw [List.take_add_one, hx]; rfl
    rw [parR, if_neg (by omega), q1, q2, q3, hnx, htk, List.length_take, Nat.min_eq_left (by omega)]
    simp only [Bool.false_eq_true, if_false]
    rw [par_from hz hw g hg0 hg k (i + 1) f' _ (by omega) (by omega), ← hg i c hlt]
theorem split_full {ev : Nat} {es : List En} (hF : (fullB ev es).length ≤ 1048576) : splitB (fullB ev es) = some (outB ev es es.length, rsB ev es es.length) := by
  have hm := rsB_mod ev es es.length
  obtain ⟨o, ho⟩ : ∃ o, o = outB ev es es.length := ⟨_, rfl⟩
  obtain ⟨r, hr⟩ : ∃ r, r = rsB ev es es.length := ⟨_, rfl⟩
  have hf : fullB ev es = o ++ r ++ fourB (r.length / 4) := by unfold fullB; rw [← ho, ← hr]
  rw [← hr] at hm
  rw [← ho, ← hr, hf]
  rw [hf] at hF
  have hl : (o ++ r ++ fourB (r.length / 4)).length = o.length + r.length + 4 := by simp only [List.length_append, fourB_len]
  have hd : (o ++ r ++ fourB (r.length / 4)).drop (o.length + r.length) = fourB (r.length / 4) := List.drop_left' (by simp)
  have hnk : numK (fourB (r.length / 4)) 4 = r.length / 4 := by
    have := numK_fourB (r.length / 4) [] (by omega)
    rw [List.append_nil] at this
    exact this
  unfold splitB
  rw [hl, if_neg (by omega), Nat.add_sub_cancel, hd, hnk]
  simp only
  rw [if_neg (by omega), show o.length + r.length - 4 * (r.length / 4) = o.length by omega]
  congr 2
  · rw [List.append_assoc]
    exact List.take_left' rfl
  · rw [show (o ++ r ++ fourB (r.length / 4)).take (o.length + r.length) = o ++ r from List.take_left' (by simp)]
    exact List.drop_left' rfl
theorem out_congr {ev ev2 : Nat} {es : List En} : ∀ {n : Nat}, (∀ i, i < n → (i % ev = 0 ↔ i % ev2 = 0)) → outB ev es n = outB ev2 es n ∧ rsB ev es n = rsB ev2 es n
  | 0, _ => ⟨rfl, rfl⟩
  | n + 1, h => by
    obtain ⟨h1, h2⟩ := out_congr (ev := ev) (ev2 := ev2) (es := es) (n := n) (fun i hi => h i (by omega))
    have hs : shB ev es n = shB ev2 es n := by
      unfold shB
      by_cases e : n % ev = 0
      · rw [if_pos e, if_pos ((h n (by omega)).1 e)]
      · rw [if_neg e, if_neg (fun e2 => e ((h n (by omega)).2 e2))]
    refine ⟨?_, ?_⟩
    · rw [outB, outB, h1, hs]
    · rw [rsB, rsB, h1, h2]
      by_cases e : n % ev = 0
      · rw [if_pos e, if_pos ((h n (by omega)).1 e)]
      · rw [if_neg e, if_neg (fun e2 => e ((h n (by omega)).2 e2))]
theorem build_congr {ev ev2 : Nat} {es : List En} (h : ∀ i, i < es.length → (i % ev = 0 ↔ i % ev2 = 0)) : buildE ev es = buildE ev2 es := by
  have hf : fullB ev es = fullB ev2 es := by
    obtain ⟨h1, h2⟩ := out_congr (ev := ev) (ev2 := ev2) (es := es) h
    unfold fullB
    rw [h1, h2]
  unfold buildE
  rw [hf]
/-- What was built is read. -/
theorem dec_build {ev : Nat} {es : List En} (he : 1 ≤ ev) (hw : ∀ x ∈ es, U64 x.seq ∧ x.kind < 256) (hb : (buildE ev es).2 = 0) : decB (buildE ev es).1 = (es, 0) := by
  obtain ⟨h1, h2, h3, h4, h5⟩ := buildE_ord hb
  have hz := longE_no h3
  rw [h4]
  unfold decB
  rw [openG_one _ h5]
  simp only
  rw [if_neg (by simp)]
  have hsp := split_full h5
  have hmn : ∀ i, i < es.length → (outB ev es i).length < (outB ev es (i + 1)).length := fun i hi => by
    obtain ⟨x, hx⟩ : ∃ x, es[i]? = some x := ⟨_, List.getElem?_eq_getElem hi⟩
    rw [outB_step hx, List.length_append]
    have := entB_pos (shB ev es i) x
    omega
  by_cases hev : ev < es.length
  · -- two restarts at least
    obtain ⟨R, hR⟩ := rsB_pre ev es (ev + 1) es.length hev
    rw [rsB, if_pos (Nat.mod_self ev), rsB_one he (Nat.le_refl _)] at hR
    have hrl : 8 ≤ (rsB ev es es.length).length := by
      rw [hR]
      simp only [List.length_append, fourB_len]
      omega
    have hol : (outB ev es ev).length ≤ 1048576 := by
      have := outB_mono ev es ev es.length (by omega)
      unfold fullB at h5
      simp only [List.length_append] at h5
      omega
    have hnk : numK ((rsB ev es es.length).drop 4) 4 = (outB ev es ev).length := by
      rw [hR, List.append_assoc, List.drop_left' (fourB_len 0)]
      exact numK_fourB _ _ (by omega)
    have hpb : parB (fullB ev es) = some (es, ev) := by
      unfold parB
      rw [hsp]
      simp only
      rw [if_pos hrl, hnk]
      have hmono : ∀ i, i < es.length → (((outB ev es i).length : Int) = ((outB ev es ev).length : Int) ↔ i = ev) := fun i hi => by
        constructor
        · intro h
          have h : (outB ev es i).length = (outB ev es ev).length := by omega
          rcases Nat.lt_trichotomy i ev with e | e | e
          · have a1 := hmn i hi
            have a2 := outB_mono ev es (i + 1) ev (by omega)
            omega
          · exact e
          · have a1 := hmn ev hev
            have a2 := outB_mono ev es (ev + 1) i (by omega)
            omega
        · intro h; rw [h]
      have hp := par_from (sec := ((outB ev es ev).length : Int)) hz hw (fun i c => if i ≤ ev then ev else c) (fun c => by show (if es.length ≤ ev then ev else c) = c; rw [if_neg (by omega)]) (fun i c hi => by
        show (if i ≤ ev then ev else c) = (if i + 1 ≤ ev then ev else (if ((outB ev es i).length : Int) = ((outB ev es ev).length : Int) then i else c))
        by_cases e : i = ev
        · rw [if_pos (by omega), if_neg (by omega), if_pos ((hmono i hi).2 e), e]
        · rw [if_neg (fun h => e ((hmono i hi).1 h))]
          by_cases e2 : i ≤ ev
          · rw [if_pos e2, if_pos (by omega)]
          · rw [if_neg e2, if_neg (by omega)]) es.length 0 ((outB ev es es.length).length + 1) 0 (by omega) (by
          have key : ∀ i, i ≤ es.length → i ≤ (outB ev es i).length := by
            intro i
            induction i with
            | zero => intro _; exact Nat.zero_le _
            | succ i ih => intro h; have := ih (by omega); have := hmn i (by omega); omega
          have := key es.length (Nat.le_refl _)
          omega)
      simp only [outB, List.length_nil, List.take_zero, Nat.zero_le, if_true] at hp
      rw [hp]
      simp only
      rw [if_neg (by omega)]
    rw [hpb, show decP (sealB (fullB ev es)) (some (es, ev)) = if (buildZ ev es).2 = 0 ∧ (buildZ ev es).1 = sealB (fullB ev es) then (es, 0) else ([], 3) from rfl]
    rw [show buildZ ev es = buildE ev es from if_neg (by omega), if_pos ⟨hb, h4⟩]
  · -- one restart alone
    have hrl : ¬ 8 ≤ (rsB ev es es.length).length := by
      rcases Nat.eq_zero_or_pos es.length with e | e
      · rw [e]; simp [rsB]
      · rw [rsB_one e (by omega)]
        rw [fourB_len]
        omega
    have hpb : parB (fullB ev es) = some (es, max es.length 1) := by
      unfold parB
      rw [hsp]
      simp only
      rw [if_neg hrl]
      have hp := par_from (sec := -1) hz hw (ev := ev) (fun _ c => c) (fun c => rfl) (fun i c hi => by
        show c = (if ((outB ev es i).length : Int) = -1 then i else c)
        rw [if_neg (by omega)]) es.length 0 ((outB ev es es.length).length + 1) 0 (by omega) (by
          have key : ∀ i, i ≤ es.length → i ≤ (outB ev es i).length := by
            intro i
            induction i with
            | zero => intro _; exact Nat.zero_le _
            | succ i ih => intro h; have := ih (by omega); have := hmn i (by omega); omega
          have := key es.length (Nat.le_refl _)
          omega)
      simp only [outB, List.length_nil, List.take_zero] at hp
      rw [hp]
      simp only
      rw [if_pos (by omega)]
    have hbe : buildE (max es.length 1) es = buildE ev es := build_congr (fun i hi => by
      have e1 : i % max es.length 1 = i := Nat.mod_eq_of_lt (by omega)
      have e2 : i % ev = i := Nat.mod_eq_of_lt (by omega)
      rw [e1, e2])
    rw [hpb, show decP (sealB (fullB ev es)) (some (es, max es.length 1)) = if (buildZ (max es.length 1) es).2 = 0 ∧ (buildZ (max es.length 1) es).1 = sealB (fullB ev es) then (es, 0) else ([], 3) from rfl]
    rw [show buildZ (max es.length 1) es = buildE (max es.length 1) es from if_neg (by omega), hbe, if_pos ⟨hb, h4⟩]
theorem ord_of_sort {es : List En} (h : SortL es) : ordE es = true := by
  have key : ∀ k, k < es.length ∨ k = 0 → ordK es k = true := by
    intro k
    induction k with
    | zero => intro _; rfl
    | succ k ih =>
      intro hk
      have hk : k + 1 < es.length := by omega
      obtain ⟨a, ha⟩ : ∃ a, es[k]? = some a := ⟨_, List.getElem?_eq_getElem (by omega)⟩
      obtain ⟨b, hb⟩ : ∃ b, es[k + 1]? = some b := ⟨_, List.getElem?_eq_getElem hk⟩
      have hs := List.pairwise_iff_getElem.1 h k (k + 1) (by omega) hk (by omega)
      rw [(List.getElem?_eq_some_iff.1 ha).2, (List.getElem?_eq_some_iff.1 hb).2] at hs
      rw [ordK_step ha hb, ih (.inl (by omega)), hs]
      rfl
  exact key _ (by omega)
/-- Of entries in order, each in form, Build answers the block, or that it is too long. -/
theorem build_sorted {ev : Nat} {es : List En} (hs : SortL es) (hok : ∀ x ∈ es, okE x = true) : (buildE ev es).2 = 0 ∨ buildE ev es = ([], 2) := by
  have h1 : es.any longE = false := by
    rw [List.any_eq_false]
    intro x hx
    rw [(okE_iff.1 (hok x hx)).1]
    simp
  have h2 : es.all formE = true := by
    rw [List.all_eq_true]
    intro x hx
    exact (okE_iff.1 (hok x hx)).2
  have h3 := ord_of_sort hs
  unfold buildE
  rw [h1, h2, h3]
  simp only [Bool.false_eq_true, if_false, Bool.and_self, if_true]
  split
  · exact .inr rfl
  · exact .inl rfl
end Go.Proofs.YtbgelbdnkbhffaaGreat
namespace Go.Proofs.YtbgelbdnkbhffaaGreat
open Go Go.RowKit Go.Maps

section
variable {w : World} {p : Nat} {m : Option Nat} {rs : List FR} {room used left : Int} {dead armed : Bool}
/-- A call that asks for a file, where turn says no: a dead disk, no such file, the disk dies. -/
def RetNo (w : World) (k : Int) (e : Ending) (w' : World) : Prop := e = .returned (.int .i64 k) ∧ w = w'
theorem remove_none (x : List UInt8) (h : DskR w p m rs room used left false armed) (hx : ∀ r ∈ rs, r.name ≠ x) (hl : x.length ≤ maxLen) :
    Calls Tryz.prog 123 #[.pointer (some ⟨p, 0, none⟩), .string (tx x)] w (RetNo w 6) := by
  go_enter Tryz.func123, Tryz.ntmps123
  go_wp2_with fail
  refine (find_none x h hx hl).mono ?_
  rintro e w' ⟨rfl, rfl⟩
  go_wp2_with fail
  refine (turn_err (p := p) (w := w) (e := 6) (by decide)).mono ?_
  rintro e w' ⟨rfl, rfl⟩
  go_wp2
  go_ret
  exact ⟨rfl, rfl⟩
end
end Go.Proofs.YtbgelbdnkbhffaaGreat
namespace Go.Proofs.YtbgelbdnkbhffaaGreat
open Go Go.RowKit

end Go.Proofs.YtbgelbdnkbhffaaGreat
namespace Go.Proofs.YtbgelbdnkbhffaaGreat
open Go Go.RowKit

theorem refFour8_any (n : Nat) (w : World) (hn : n < B64) : Calls Tryz.prog 126 #[.int .i64 n] w (MadeR w.heap.size w (fourB n)) := by
  have hw8 : IntKind.u64.wrap (n : Int) = (n : Int) := u64_nat n hn
  go_enter Tryz.func126, Tryz.ntmps126
  go_wp2_with fail
  refine (refOrdU_any n _ hn).mono ?_
  rintro e w' ⟨A, m, c, rfl, ho, hb⟩
  have hm : m = 8 := by rw [← ho.len]; rfl
  subst hm
  have hc8 := ho.cap.1
  have hr := ho.rd.cut (k := 4) (m := 8) (cap := c) (by omega) (by omega) (by omega)
  obtain ⟨g, rfl, hg, _⟩ := ho.form (by omega)
  rw [show cutA (some ⟨g, 0, none⟩) 4 c = some ⟨g, 4, none⟩ by unfold cutA; rw [if_neg (by omega)]; simp [Addr.add]] at hr
  have R := Lib.hid hr
  clear hr
  go_wp2
  go_ret
  refine ⟨_, _, _, rfl, R.out, ?_, hb⟩
  intro b off h
  injection h with h
  injection h with h
  omega
theorem CS.app8 {w0 wr wx : World} {O O' R : Option Addr} {n m oc rc oc' : Nat} {out ys rs : List UInt8} (h : CS w0 O oc out R rc rs wr) (hn : n = out.length) (ho : Own 5 wx w0.heap.size O' (n + m) oc' (out ++ ys)) (hm : ys.length = m) (hg : Grow wr wx O O') : CS w0 O' oc' (out ++ ys) R rc rs wx ∧ n + m = (out ++ ys).length := by
  have e : n + m = (out ++ ys).length := by rw [List.length_append, hn, hm]
  refine ⟨h.left (by rw [← e]; exact ho) hg, e⟩
/-- The kind that stands before entry k+1 is looked at. -/
def refE (es : List En) (k : Nat) : Int := if es.all formE && ordK es k then 0 else 3
theorem refE_check {es : List En} (h : es.any longE = false) : checkE es = refE es (0 - 1) := by
  rw [checkE, h, refE, ordK]
  simp
theorem refE_next {es : List En} {i : Nat} {a b : En} (h1 : es[i]? = some a) (h2 : es[i + 1]? = some b) : refE es (i + 1) = if lessE a b then refE es i else 3 := by
  rw [refE, ordK_step h1 h2, refE]
  cases lessE a b <;> simp
theorem outB_len {ev : Nat} {es : List En} (hs : ∀ x ∈ es, x.key.length ≤ 1024 ∧ x.val.length ≤ 65536) (hw : ∀ x ∈ es, U64 x.seq) : ∀ i, i ≤ es.length → (outB ev es i).length ≤ 66700 * i
  | 0, _ => by simp [outB]
  | i + 1, hi => by
    have ih := outB_len (ev := ev) hs hw i (by omega)
    have hx : es[i]? = some es[i] := List.getElem?_eq_getElem (by omega)
    rw [outB_step hx, List.length_append]
    have hm : es[i] ∈ es := List.getElem_mem (by omega)
    have := entB_len (s := shB ev es i) (x := es[i]) (shB_le (ev := ev) hx) (hs _ hm).1 (hs _ hm).2 (hw _ hm)
    omega
set_option maxRecDepth 100000 in
set_option maxHeartbeats 16000000 in
theorem refBuild8_any {w : World} {A : Option Addr} {n c : Nat} {es : List En} (h : REs w A n es) (hn : n ≤ 4194304) (hz : ∀ x ∈ es, SzE x) (ev : Nat) (he : 1 ≤ ev) (he2 : ev ≤ 9223372036854775807) :
    Calls Tryz.prog 59 #[.int .i64 (ev : Int), .slice A n c] w (RetBb w (buildE ev es)) := by
  have HM : Hid (Calls Tryz.prog 51 #[.slice A n c] w (RetNu w (checkE es))) := Lib.hid (refCheck_any h (by omega) hz)
  have HR := Lib.hid h
  have HL := Lib.hid h.len
  have HW := Lib.hid h.wf
  have HZ := Lib.hid hz
  clear h hz
  cases hlo : es.any longE with
  | true =>
    have hc : checkE es = 2 := by rw [checkE, hlo]; rfl
    have hb : buildE ev es = ([], 2) := by rw [buildE, hlo]; rfl
    rw [hc] at HM
    have HB := Lib.hid hb
    clear hlo hc hb
    go_enter Tryz.func59, Tryz.ntmps59
    go_wp2_with fail
    with_reducible refine HM.out.mono ?_
    rintro e w1 ⟨rfl, b1⟩
    go_wp2_with fail
    exact bodyPost_ret (v := .tuple #[.slice none 0 0, .int .i64 2]) (by simp [results, Tryz.f59, go_sem]; try rfl) rfl (RetBb.no HB.out b1)
  | false =>
    have HS := Lib.hid (longE_no hlo)
    obtain ⟨z0, hz0⟩ : ∃ z0, z0 = refE es (0 - 1) := ⟨_, rfl⟩
    have hz3 : z0 = 0 ∨ z0 = 3 := by rw [hz0, refE]; split <;> simp
    have hck : checkE es = z0 := by rw [refE_check hlo, hz0]
    rw [hck] at HM
    have HZ0 := Lib.hid hz0
    have HLO := Lib.hid hlo
    have ht2 : ((z0 : Int) == 2) = false := by rcases hz3 with h | h <;> (subst h; rfl)
    have ht3 : ¬ (z0 : Int) = 2 := by omega
    clear hlo hck hz0 hz3
    go_enter Tryz.func59, Tryz.ntmps59
    go_wp2_with fail
    with_reducible refine HM.out.mono ?_
    rintro e w1 ⟨rfl, b1⟩
    have HB1 := Lib.hid b1
    clear b1 HM
    go_wp2_with fail
    go_loopw [6, 7, 8, 9, 10] (fun s6 s7 s8 s9 s10 wr => ∃ (i on rn sn : Nat) (O R : Option Addr) (oc rc : Nat) (z : Int), i ≤ n ∧ s10 = .int .i64 (i : Int) ∧ on = (outB ev es i).length ∧ rn = (rsB ev es i).length ∧ 4 * sn = rn ∧ s6 = .int .i64 z ∧ z = refE es (i - 1) ∧ s7 = .slice O on oc ∧ s8 = .slice R rn rc ∧ s9 = .int .i64 (sn : Int) ∧ CS w O oc (outB ev es i) R rc (rsB ev es i) wr) (fun _ _ _ _ s _ => n - (intOf s).toNat)
    case atStart => exact ⟨0, 0, 0, 0, none, none, 0, 0, z0, Nat.zero_le _, rfl, rfl, rfl, rfl, rfl, HZ0.out, rfl, rfl, rfl, Own.nil _ _ _, Own.nil _ _ _, dj_none _, HB1.out⟩
    case round =>
      obtain ⟨i, on, rn, sn, O, R, oc, rc, z, hi, rfl, hon, hrn, hsn, rfl, hze, rfl, rfl, rfl, hC⟩ := hrel
      have hrl := rsB_len ev es i
      have hol := outB_len (ev := ev) HS.out (fun x hx => (HW.out x hx).1) i (by rw [HL.out]; exact hi)
      have hrn4 : rn ≤ 4 * i := by omega
      have hon4 : on ≤ 66700 * i := by omega
      have hsn4 : sn ≤ 16777216 := by omega
      have HON := Lib.hid hon
      have HRN := Lib.hid hrn
      have HSN := Lib.hid hsn
      have HZE := Lib.hid hze
      have HC := Lib.hid hC
      have hbC := hC.2.2.2
      clear hon hrn hC hrl hsn hze hol
      by_cases hlt : i < n
      · -- A0
        obtain ⟨b, off, hAb, hbl⟩ := HR.out.pos (by omega)
        subst hAb
        obtain ⟨x, v0, v1, v2, v3, hx, c0', c1', c2', c3', hev⟩ := HR.out.at_ i hlt
        have c0 := (hbC.cell (p := ⟨b, off + i * 4, none⟩) hbl).trans c0'
        have HXI := Lib.hid hx
        have HXS := Lib.hid (HS.out x (List.mem_of_getElem? hx))
        have HXW := Lib.hid (HW.out x (List.mem_of_getElem? hx))
        have HEV := Lib.hid hev
        obtain ⟨K, kn, kc, V, vn, vc, rfl, rfl, rfl, rfl, r0, r3, q0, q3, _⟩ := hev.parts
        have HR0 := Lib.hid r0
        have HR3 := Lib.hid r3
        obtain ⟨m, hm⟩ : ∃ m, m = i % ev := ⟨_, rfl⟩
        have e1 : ((i : Int) % (ev : Int)) = (m : Int) := by rw [hm]; push_cast; rfl
        have hml : m < 9223372036854775807 := by have := Nat.mod_lt i (show 0 < ev by omega); omega
        have HM := Lib.hid hm
        obtain ⟨sh, hsh⟩ : ∃ sh, sh = shB ev es i := ⟨_, rfl⟩
        have HSH := Lib.hid hsh
        have C1 := Lib.hid c1'
        have C2 := Lib.hid c2'
        have C3 := Lib.hid c3'
        have C0 := Lib.hid c0'
        clear hx hev r0 r3 hm hsh c0' c1' c2' c3'
        go_upto_if 32 with (fail)
        obtain ⟨rs2, hrs2⟩ : ∃ rs2, rs2 = rsB ev es (i + 1) := ⟨_, rfl⟩
        obtain ⟨rn2, hrn2⟩ : ∃ rn2, rn2 = rs2.length := ⟨_, rfl⟩
        have HRS2 := Lib.hid hrs2
        have HRN2 := Lib.hid hrn2
        clear hrs2 hrn2
        go_cut [8, 9, 11, 12, 13] from 29 to 73 (fun s8 s9 s11 s12 s13 wx => ∃ (R' : Option Addr) (rc' sn' : Nat), s8 = .slice R' rn2 rc' ∧ s9 = .int .i64 (sn' : Int) ∧ 4 * sn' = rn2 ∧ s11 = .int .i64 (sh : Int) ∧ CS w O oc (outB ev es i) R' rc' rs2 wx)
        case first =>
          by_cases hm0 : m = 0
          · subst hm0
            have hrs : rs2 = rsB ev es i ++ fourB on := by rw [HRS2.out, rsB, if_pos HM.out.symm, ← HON.out]
            have hsh0 : sh = 0 := by rw [HSH.out, shB, if_pos HM.out.symm]
            subst hsh0
            have hln : rn + 4 = rn2 := by rw [HRN2.out, hrs, List.length_append, ← HRN.out]; rfl
            have HRS := Lib.hid hrs
            have HLN := Lib.hid hln
            clear hrs hln
            go_wp2_with fail
            with_reducible refine (refFour8_any on wr (by unfold B64; omega)).mono ?_
            rintro e w2 ⟨F, fn, fc, rfl, hF, hFb, b2⟩
            have hfn : fn = 4 := by rw [← hF.len]; rfl
            subst hfn
            have HC2 := Lib.hid (HC.out.below b2)
            have hR2 := HC2.out.2.1
            rw [← HRN.out] at hR2
            have hsz2 := HC2.out.2.2.2.size
            clear hFb b2
            go_wp2_with (at_builtin; refine wpList_appX _ rfl _ _ 29 rfl w.heap.size 5 Tryz.underlying29 info_u8 R rn rc _ rfl hR2 F 4 fc (fourB on) rfl hF ?_ ?_ ?_)
            · omega
            · exact hsz2
            intro R' rc' w3 oR gR
            rw [HLN.out, ← HRS.out] at oR
            rw [HLN.out]
            have HF := Lib.hid (show CS w O oc (outB ev es i) R' rc' rs2 w3 from HC2.out.right (by rw [← HRN2.out]; exact oR) gR)
            clear oR gR hR2 hF
            go_wp2_with fail
            go_meet
            case rel => exact ⟨R', rc', sn + 1, by first | rfl | simp, by go_num, by have := HSN.out; have := HLN.out; omega, by first | rfl | simp, HF.out⟩
          · have t1 : ((m : Int) == 0) = false := by simp; omega
            have hrs : rs2 = rsB ev es i := by rw [HRS2.out, rsB, if_neg (by rw [← HM.out]; exact hm0)]
            obtain ⟨j, hj⟩ : ∃ j, j = i - 1 := ⟨_, rfl⟩
            have hi0 : 0 < i := by
              rcases Nat.eq_zero_or_pos i with h0 | h0
              · exact absurd (by rw [HM.out, h0, Nat.zero_mod]) hm0
              · exact h0
            obtain ⟨y, u0, u1, u2, u3, hy, d0', d1', d2', d3', hew⟩ := HR.out.at_ j (by omega)
            obtain ⟨L, ln, lc, _, _, _, hu0, _, _, _, r0', _⟩ := hew.parts
            subst hu0
            have hsh2 : sh = comB y.key x.key := by
              rw [HSH.out, shB, if_neg (by rw [← HM.out]; exact hm0), ← hj, hy, HXI.out]
            have hsy := HS.out y (List.mem_of_getElem? hy)
            have hkl := HR0.out.len
            have hll := r0'.len
            have hkn1 : kn ≤ 1099511627776 := by have := HXS.out.1; omega
            have hln1 : ln ≤ 1099511627776 := by omega
            have d0 : wr.cell? ⟨b, off + j * 4, none⟩ = some (.slice L ln lc) := (hbC.cell (p := ⟨b, off + j * 4, none⟩) hbl).trans d0'
            have e2 : IntKind.i64.wrap ((i : Int) - 1) = (j : Int) := by rw [IntWalk.i64_in _ (by omega)]; omega
            have hjn : j < n := by omega
            have HY := Lib.hid (r0'.below hbC)
            have HX := Lib.hid (HR0.out.below hbC)
            have HSH2 := Lib.hid hsh2
            have HRS := Lib.hid hrs
            have HJ := Lib.hid hj
            have hle := comB_le y.key x.key
            rw [← hsh2] at hle
            have hle2 : sh ≤ ln ∧ sh ≤ kn := by omega
            have hln : rn = rn2 := by rw [HRN2.out, hrs, ← HRN.out]
            have HLN := Lib.hid hln
            clear hrs hj hy d0' d1' d2' d3' hew r0' hsh2 hsy hle hln hkl hll
            have HSN2 : Hid (4 * sn = rn2) := Lib.hid (by have := HSN.out; have := HLN.out; omega)
            have HCD : Hid (∀ q1 q2, CS w O oc (outB ev es i) R rc rs2 ((wr.drewN q1).drewN q2)) := Lib.hid (fun q1 q2 => by
              rw [HRS.out]
              exact (HC.out.below (below_drewN (Below.refl _ _) q1)).below (below_drewN (Below.refl _ _) q2))
            obtain ⟨w0, rfl⟩ : ∃ w0, w0 = wr := ⟨_, rfl⟩
            go_wp2_with fail
            go_quiet (fail)
            obtain ⟨q0, hq0⟩ : ∃ q0 : Nat, q0 = nq := ⟨_, rfl⟩
            rw [← hq0]
            clear hq0
            go_wp2_with fail
            go_loopw [11] (fun vi wx => ∃ t q : Nat, vi = .int .i64 (t : Int) ∧ t ≤ sh ∧ wx = w0.drewN q) (fun vi _ => sh - (intOf vi).toNat)
            case atStart => exact ⟨0, q0, rfl, Nat.zero_le _, rfl⟩
            case round =>
              obtain ⟨t, q, rfl, ht, rfl⟩ := hrel
              obtain ⟨W, hW⟩ : ∃ W, W = w0.drewN q := ⟨_, rfl⟩
              by_cases htl : t < sh
              · obtain ⟨by_, h1, h2⟩ := comB_lt (xs := y.key) (ys := x.key) (i := t) (by rw [← HSH2.out]; exact htl)
                have hin : t < ln := by omega
                have him : t < kn := by omega
                obtain ⟨ba, oa, rfl, _⟩ := HY.out.pos (by omega)
                obtain ⟨bb, ob, rfl, _⟩ := HX.out.pos (by omega)
                obtain ⟨x1, hx1, hx2, _⟩ := HY.out.at_ t hin
                obtain ⟨y1, hy1, hy2, _⟩ := HX.out.at_ t him
                obtain rfl : x1 = y1 := by
                  rw [h1] at hx1; rw [h2] at hy1
                  rw [← Option.some.inj hx1, ← Option.some.inj hy1]
                have c1 : W.cell? ⟨ba, oa + t, none⟩ = some (.int .u8 (x1.toNat : Int)) := by rw [hW]; exact hx2
                have c2 : W.cell? ⟨bb, ob + t, none⟩ = some (.int .u8 (x1.toNat : Int)) := by rw [hW]; exact hy2
                rw [← hW]
                have HW2 := Lib.hid hW
                clear hW h1 h2 hx1 hx2 hy1 hy2
                go_wp2_with fail
                go_quiet (fail)
                rw [HW2.out]
                go_wp2_with fail
                go_roundw
                case rel => exact ⟨t + 1, _, by go_num, by omega, rfl⟩
                case measure => simp [intOf]; omega
              · obtain rfl : t = sh := by omega
                rcases comB_at (xs := y.key) (ys := x.key) (i := t) HSH2.out with h1 | h1 | ⟨a1, a2, h1, h2, h3⟩
                · have hin : ¬ t < ln := by have := HY.out.len; omega
                  rw [← hW]
                  have HW2 := Lib.hid hW
                  have d1 : decide (t < ln) = false := by simpa using hin
                  clear hW h1
                  go_wp2_with fail
                  go_quiet (fail)
                  rw [HW2.out]
                  go_wp2_with fail
                  go_meet
                  case rel => exact ⟨R, rc, sn, by rw [HLN.out], rfl, HSN2.out, rfl, HCD.out _ _⟩
                · have him : ¬ t < kn := by have := HX.out.len; omega
                  rw [← hW]
                  have HW2 := Lib.hid hW
                  clear hW h1 htl ht
                  by_cases hin : t < ln
                  · have d1 : decide (t < ln) = true := by simpa using hin
                    have d2 : decide (t < kn) = false := by simpa using him
                    have d3 : decide ((t : Int) < (kn : Int)) = false := by simp; omega
                    have d4 : decide (kn ≤ t) = true := by simp; omega
                    go_wp2_with fail
                    go_quiet (fail)
                    rw [HW2.out]
                    go_wp2_with fail
                    go_meet
                    case rel => exact ⟨R, rc, sn, by rw [HLN.out], rfl, HSN2.out, rfl, HCD.out _ _⟩
                  · have d1 : decide (t < ln) = false := by simpa using hin
                    have d4 : decide (ln ≤ t) = true := by simp; omega
                    go_wp2_with fail
                    go_quiet (fail)
                    rw [HW2.out]
                    go_wp2_with fail
                    go_meet
                    case rel => exact ⟨R, rc, sn, by rw [HLN.out], rfl, HSN2.out, rfl, HCD.out _ _⟩
                · have hin : t < ln := by have := (List.getElem?_eq_some_iff.1 h1).1; have := HY.out.len; omega
                  have him : t < kn := by have := (List.getElem?_eq_some_iff.1 h2).1; have := HX.out.len; omega
                  obtain ⟨ba, oa, rfl, _⟩ := HY.out.pos (by omega)
                  obtain ⟨bb, ob, rfl, _⟩ := HX.out.pos (by omega)
                  obtain ⟨x1, hx1, hx2, _⟩ := HY.out.at_ t hin
                  obtain ⟨y1, hy1, hy2, _⟩ := HX.out.at_ t him
                  have hne : x1.toNat ≠ y1.toNat := fun e => h3 (by
                    rw [h1] at hx1; rw [h2] at hy1
                    rw [Option.some.inj hx1, Option.some.inj hy1]
                    exact UInt8.toNat_inj.1 e)
                  have t1 : ((x1.toNat : Int) == (y1.toNat : Int)) = false := by simp; omega
                  have t2 : ¬ (x1.toNat : Int) = (y1.toNat : Int) := by omega
                  have c1 : W.cell? ⟨ba, oa + t, none⟩ = some (.int .u8 (x1.toNat : Int)) := by rw [hW]; exact hx2
                  have c2 : W.cell? ⟨bb, ob + t, none⟩ = some (.int .u8 (y1.toNat : Int)) := by rw [hW]; exact hy2
                  rw [← hW]
                  have HW2 := Lib.hid hW
                  clear hW h1 h2 h3 hx1 hx2 hy1 hy2
                  go_wp2_with fail
                  go_quiet (fail)
                  rw [HW2.out]
                  go_wp2_with fail
                  go_meet
                  case rel => exact ⟨R, rc, sn, by rw [HLN.out], rfl, HSN2.out, rfl, HCD.out _ _⟩
        case rest =>
          obtain ⟨R', rc', sn', rfl, rfl, hsn', rfl, hcs⟩ := hcut
          have HSN' := Lib.hid hsn'
          have HCS := Lib.hid hcs
          have hbX := hcs.2.2.2
          obtain ⟨z2, hz2⟩ : ∃ z2, z2 = refE es i := ⟨_, rfl⟩
          have HZ2 := Lib.hid hz2
          clear hcs hsn' hz2 c0
          obtain ⟨bz, hbz⟩ : ∃ bz : Bool, bz = true ∧ z2 = 3 ∧ 0 < i ∧ (∀ y, es[i - 1]? = some y → lessE y x = false) ∨ bz = false ∧ z2 = z ∧ (0 < i → ∀ y, es[i - 1]? = some y → lessE y x = true) := by
            by_cases hi0 : i = 0
            · exact ⟨false, .inr ⟨rfl, by rw [HZE.out, HZ2.out, hi0], fun h => by omega⟩⟩
            · obtain ⟨y, hy⟩ : ∃ y, es[i - 1]? = some y := ⟨_, List.getElem?_eq_getElem (by have := HL.out; omega)⟩
              obtain ⟨j, hj⟩ : ∃ j, i = j + 1 := ⟨i - 1, by omega⟩
              have hy2 : es[j]? = some y := by rw [← hy, hj]; rfl
              have h2 := refE_next hy2 (by rw [← hj]; exact HXI.out)
              rw [← hj] at h2
              have h3 : z = refE es j := by rw [HZE.out, hj]; rfl
              rw [← HZ2.out, ← h3] at h2
              cases hl : lessE y x with
              | true => exact ⟨false, .inr ⟨rfl, by rw [h2, hl]; rfl, fun _ y' hy' => by rw [hy] at hy'; injection hy' with hy'; rw [← hy']; exact hl⟩⟩
              | false => exact ⟨true, .inl ⟨rfl, by rw [h2, hl]; rfl, by omega, fun y' hy' => by rw [hy] at hy'; injection hy' with hy'; rw [← hy']; exact hl⟩⟩
          have HBZ := Lib.hid hbz
          clear hbz
          go_upto_if 88 with (fail)
          go_cut [88] from 74 to 87 (fun s88 wx => s88 = .bool bz ∧ CS w O oc (outB ev es i) R' rc' rs2 wx)
          case first =>
            by_cases hi0 : i = 0
            · have g1 : decide (0 < i) = false := by simp; omega
              have g2 : decide ((0 : Int) < (i : Int)) = false := by simp; omega
              have g3 : decide (i ≤ 0) = true := by simp; omega
              have g4 : ¬ 0 < i := by omega
              have hbf : bz = false := by
                rcases HBZ.out with ⟨_, _, h, _⟩ | ⟨h, _⟩
                · omega
                · exact h
              subst hbf
              have HCD : Hid (∀ q, CS w O oc (outB ev es i) R' rc' rs2 (wc.drewN q)) := Lib.hid (fun q => HCS.out.below (below_drewN (Below.refl _ _) q))
              clear hi0
              go_wp2_with fail
              go_quiet (fail)
              go_wp2_with fail
              go_meet
              case rel => exact ⟨rfl, HCD.out _⟩
            · obtain ⟨j, hj⟩ : ∃ j, j = i - 1 := ⟨_, rfl⟩
              obtain ⟨y, u0, u1, u2, u3, hy, d0', d1', d2', d3', hew⟩ := HR.out.at_ j (by omega)
              have g1 : decide (0 < i) = true := by simp; omega
              have g2 : decide ((0 : Int) < (i : Int)) = true := by simp; omega
              have g4 : 0 < i := by omega
              have e2 : IntKind.i64.wrap ((i : Int) - 1) = (j : Int) := by rw [IntWalk.i64_in _ (by omega)]; omega
              have hjn : j < n := by omega
              have HLS : Hid (∀ wx, Below wc.heap.size wc wx → Calls Tryz.prog 120 #[.agg #[u0, u1, u2, u3], .agg #[.slice K kn kc, .int .u64 (x.seq : Int), .int .u8 (x.kind : Int), .slice V vn vc]] wx (RetT wx (lessE y x))) := Lib.hid (fun wx hb => by
                have hw := hbX.trans (hb.mono hbX.size)
                exact refLess_any (hew.below hw) (HEV.out.below hw) (HZ.out y (List.mem_of_getElem? hy)) (HZ.out x (List.mem_of_getElem? HXI.out)))
              have HSX : Hid (∀ wx, Below wc.heap.size wc wx → wx.cell? ⟨b, off + j * 4, none⟩ = some u0 ∧ wx.cell? ⟨b, off + j * 4 + 1, none⟩ = some u1 ∧ wx.cell? ⟨b, off + j * 4 + 2, none⟩ = some u2 ∧ wx.cell? ⟨b, off + j * 4 + 3, none⟩ = some u3 ∧ wx.cell? ⟨b, off + i * 4, none⟩ = some (.slice K kn kc) ∧ wx.cell? ⟨b, off + i * 4 + 1, none⟩ = some (.int .u64 (x.seq : Int)) ∧ wx.cell? ⟨b, off + i * 4 + 2, none⟩ = some (.int .u8 (x.kind : Int)) ∧ wx.cell? ⟨b, off + i * 4 + 3, none⟩ = some (.slice V vn vc)) := Lib.hid (fun wx hb => by
                have h := hbX.trans (hb.mono hbX.size)
                exact ⟨(h.cell (p := ⟨b, off + j * 4, none⟩) hbl).trans d0', (h.cell (p := ⟨b, off + j * 4 + 1, none⟩) hbl).trans d1', (h.cell (p := ⟨b, off + j * 4 + 2, none⟩) hbl).trans d2', (h.cell (p := ⟨b, off + j * 4 + 3, none⟩) hbl).trans d3', (h.cell (p := ⟨b, off + i * 4, none⟩) hbl).trans C0.out, (h.cell (p := ⟨b, off + i * 4 + 1, none⟩) hbl).trans C1.out, (h.cell (p := ⟨b, off + i * 4 + 2, none⟩) hbl).trans C2.out, (h.cell (p := ⟨b, off + i * 4 + 3, none⟩) hbl).trans C3.out⟩)
              have hB0 : Below wc.heap.size wc wc.drew := (Below.refl _ _).drew
              obtain ⟨lz, hlz⟩ : ∃ lz, lz = lessE y x := ⟨_, rfl⟩
              have hbb : bz = !lz := by
                rw [hlz]
                rw [hj] at hy
                rcases HBZ.out with ⟨h, _, _, h4⟩ | ⟨h, _, h4⟩
                · rw [h, h4 y hy]; rfl
                · rw [h, h4 g4 y hy]; rfl
              subst hbb
              rw [← hlz] at HLS
              clear hj hi0 hy d0' d1' d2' d3' hew hlz
              cases lz with
              | true =>
                go_wp2_with fail
                go_region_held3 (fun wx => wx.cell? ⟨b, off + j * 4, none⟩ = some u0 ∧ wx.cell? ⟨b, off + j * 4 + 1, none⟩ = some u1 ∧ wx.cell? ⟨b, off + j * 4 + 2, none⟩ = some u2 ∧ wx.cell? ⟨b, off + j * 4 + 3, none⟩ = some u3 ∧ wx.cell? ⟨b, off + i * 4, none⟩ = some (.slice K kn kc) ∧ wx.cell? ⟨b, off + i * 4 + 1, none⟩ = some (.int .u64 (x.seq : Int)) ∧ wx.cell? ⟨b, off + i * 4 + 2, none⟩ = some (.int .u8 (x.kind : Int)) ∧ wx.cell? ⟨b, off + i * 4 + 3, none⟩ = some (.slice V vn vc)) (first | assumption | exact HSX.out _ hB0)
                  (first | (go_at_call 120; with_reducible refine (HLS.out _ (by assumption)).mono ?_; intro e1 wn hq; obtain ⟨h1, bn⟩ := RetT.outD hq; subst h1; have bn' := belowT' (by assumption : Below wc.heap.size wc _) bn; have hS1 := HSX.out _ bn'))
                all_goals
                  have HBN : Hid (CS w O oc (outB ev es i) R' rc' rs2 _) := Lib.hid (HCS.out.below (by assumption : Below wc.heap.size wc wn))
                  go_wp2_with fail
                  go_meet
                  case rel => exact ⟨rfl, HBN.out⟩
              | false =>
                go_wp2_with fail
                go_region_held3 (fun wx => wx.cell? ⟨b, off + j * 4, none⟩ = some u0 ∧ wx.cell? ⟨b, off + j * 4 + 1, none⟩ = some u1 ∧ wx.cell? ⟨b, off + j * 4 + 2, none⟩ = some u2 ∧ wx.cell? ⟨b, off + j * 4 + 3, none⟩ = some u3 ∧ wx.cell? ⟨b, off + i * 4, none⟩ = some (.slice K kn kc) ∧ wx.cell? ⟨b, off + i * 4 + 1, none⟩ = some (.int .u64 (x.seq : Int)) ∧ wx.cell? ⟨b, off + i * 4 + 2, none⟩ = some (.int .u8 (x.kind : Int)) ∧ wx.cell? ⟨b, off + i * 4 + 3, none⟩ = some (.slice V vn vc)) (first | assumption | exact HSX.out _ hB0)
                  (first | (go_at_call 120; with_reducible refine (HLS.out _ (by assumption)).mono ?_; intro e1 wn hq; obtain ⟨h1, bn⟩ := RetT.outD hq; subst h1; have bn' := belowT' (by assumption : Below wc.heap.size wc _) bn; have hS1 := HSX.out _ bn'))
                all_goals
                  have HBN : Hid (CS w O oc (outB ev es i) R' rc' rs2 _) := Lib.hid (HCS.out.below (by assumption : Below wc.heap.size wc wn))
                  go_wp2_with fail
                  go_meet
                  case rel => exact ⟨rfl, HBN.out⟩
          case rest =>
            obtain ⟨hbs, hcs⟩ := hcut
            subst hbs
            have hkl := HR0.out.len
            have hvl := HR3.out.len
            have hskn : sh ≤ kn := by have := shB_le (ev := ev) HXI.out; rw [← HSH.out] at this; omega
            have hkn1 : kn ≤ 1024 := by have := HXS.out.1; omega
            have hvn1 : vn ≤ 65536 := by have := HXS.out.2; omega
            have hseq : x.seq < B64 := HXW.out.1
            have hkd : x.kind < 256 := HXW.out.2
            obtain ⟨zk, hzk⟩ : ∃ zk, zk = kn - sh := ⟨_, rfl⟩
            have hzk1 : zk ≤ 1024 := by omega
            have e2 : IntKind.i64.wrap ((kn : Int) - (sh : Int)) = (zk : Int) := by rw [IntWalk.i64_in _ (by omega)]; omega
            have e2b : ((kn : Int) - (sh : Int)) = (zk : Int) := by omega
            have e4 : IntKind.u64.wrap (sh : Int) = (sh : Int) := u64_nat sh (by unfold B64; omega)
            have e5 : IntKind.u64.wrap (zk : Int) = (zk : Int) := u64_nat zk (by unfold B64; omega)
            have e6 : IntKind.u64.wrap (vn : Int) = (vn : Int) := u64_nat vn (by unfold B64; omega)
            have hsl : ∀ W : World, (Instr.slice 29 (.slice K kn kc) (some (.int .i64 (sh : Int))) none none).run Tryz.prog W = .ok (.slice (cutA K sh kc) zk (kc - sh)) W := by
              rw [hzk]
              exact cut_l Tryz.underlying29 elem_bytes size_u8 K hskn
            have HRK : Hid (∀ wi : World, Below w.heap.size w wi → Rd wi (cutA K sh kc) zk (x.key.drop sh)) := Lib.hid (fun wi hwi => by
              have h := (HR0.out.below hwi).cut hskn (Nat.le_refl kn) q0
              rw [List.take_of_length_le (by omega)] at h
              rw [hzk]
              exact h)
            have HCL : Hid (∀ wi : World, Below w.heap.size w wi → wi.cell? ⟨b, off + i * 4, none⟩ = some (.slice K kn kc) ∧ wi.cell? ⟨b, off + i * 4 + 1, none⟩ = some (.int .u64 (x.seq : Int)) ∧ wi.cell? ⟨b, off + i * 4 + 2, none⟩ = some (.int .u8 (x.kind : Int)) ∧ wi.cell? ⟨b, off + i * 4 + 3, none⟩ = some (.slice V vn vc)) := Lib.hid (fun wi h => ⟨(h.cell (p := ⟨b, off + i * 4, none⟩) hbl).trans C0.out, (h.cell (p := ⟨b, off + i * 4 + 1, none⟩) hbl).trans C1.out, (h.cell (p := ⟨b, off + i * 4 + 2, none⟩) hbl).trans C2.out, (h.cell (p := ⟨b, off + i * 4 + 3, none⟩) hbl).trans C3.out⟩)
            have HENT : Hid (outB ev es (i + 1) = outB ev es i ++ putU sh ++ putU zk ++ putU x.seq ++ [bt x.kind] ++ putU vn ++ x.key.drop sh ++ x.val) := Lib.hid (by
              rw [outB_step HXI.out, ← HSH.out]
              unfold entB
              rw [hkl, hvl, ← hzk]
              simp only [List.append_assoc])
            have HDL : Hid ((x.key.drop sh).length = zk) := Lib.hid (by rw [List.length_drop]; omega)
            have HVL := Lib.hid hvl
            have p1 := putU_len64 sh (show sh < B64 by unfold B64; omega)
            have p2 := putU_len64 zk (show zk < B64 by unfold B64; omega)
            have p3 := putU_len64 x.seq hseq
            have p5 := putU_len64 vn (show vn < B64 by unfold B64; omega)
            have HD0 := Lib.hid (And.intro hcs HON.out)
            obtain ⟨zf, hzf⟩ : ∃ zf, zf = z2 := ⟨_, rfl⟩
            have HZF := Lib.hid hzf
            clear hcs hkl hvl hzk hbX hbC hzf
            rcases HBZ.out with ⟨rfl, hzb, _⟩ | ⟨rfl, hzb, _⟩
            · have HZB := Lib.hid hzb
              clear hzb
              have kc1 := HCL.out _ HD0.out.1.2.2.2
              obtain ⟨k0, k1, k2, k3⟩ := kc1
              go_wp2_with fail
              refine (refPutU_any sh _ (by first | exact hseq | (unfold B64; omega))).mono ?_
              rintro e wa ⟨P1, m1, d1, rfl, oP, bP⟩
              obtain rfl : (putU sh).length = m1 := oP.len
              have HB1 := Lib.hid (HD0.out.1.below bP)
              have rP := oP.rd
              have ho := HB1.out.1
              rw [← HD0.out.2] at ho
              have hsz := HB1.out.2.2.2.size
              clear oP bP k0 k1 k2 k3
              go_wp2_with (at_builtin; refine wpList_appX _ rfl _ _ 29 rfl w.heap.size 5 Tryz.underlying29 info_u8 O _ _ _ rfl ho P1 (putU sh).length d1 (putU sh) rfl rP ?_ ?_ ?_)
              · omega
              · exact hsz
              intro A1 c1 wb o1 g1
              obtain ⟨u1, hu⟩ : ∃ u1 : List UInt8, u1 = outB ev es i ++ putU sh := ⟨_, rfl⟩
              have HU1 := Lib.hid hu
              have HD1 := Lib.hid (HB1.out.app8 HD0.out.2 o1 rfl g1)
              rw [← hu] at HD1
              clear hu
              clear o1 g1 ho rP hsz
              have kc2 := HCL.out _ HD1.out.1.2.2.2
              obtain ⟨k0, k1, k2, k3⟩ := kc2
              go_wp2_with fail
              refine (refPutU_any zk _ (by first | exact hseq | (unfold B64; omega))).mono ?_
              rintro e wa ⟨P2, m2, d2, rfl, oP, bP⟩
              obtain rfl : (putU zk).length = m2 := oP.len
              have HB2 := Lib.hid (HD1.out.1.below bP)
              have rP := oP.rd
              have ho := HB2.out.1
              rw [← HD1.out.2] at ho
              have hsz := HB2.out.2.2.2.size
              clear oP bP k0 k1 k2 k3
              go_wp2_with (at_builtin; refine wpList_appX _ rfl _ _ 29 rfl w.heap.size 5 Tryz.underlying29 info_u8 A1 _ _ _ rfl ho P2 (putU zk).length d2 (putU zk) rfl rP ?_ ?_ ?_)
              · omega
              · exact hsz
              intro A2 c2 wb o1 g1
              obtain ⟨u2, hu⟩ : ∃ u2 : List UInt8, u2 = u1 ++ putU zk := ⟨_, rfl⟩
              have HU2 := Lib.hid hu
              have HD2 := Lib.hid (HB2.out.app8 HD1.out.2 o1 rfl g1)
              rw [← hu] at HD2
              clear hu
              clear o1 g1 ho rP hsz
              have kc3 := HCL.out _ HD2.out.1.2.2.2
              obtain ⟨k0, k1, k2, k3⟩ := kc3
              go_wp2_with fail
              refine (refPutU_any x.seq _ (by first | exact hseq | (unfold B64; omega))).mono ?_
              rintro e wa ⟨P3, m3, d3, rfl, oP, bP⟩
              obtain rfl : (putU x.seq).length = m3 := oP.len
              have HB3 := Lib.hid (HD2.out.1.below bP)
              have rP := oP.rd
              have ho := HB3.out.1
              rw [← HD2.out.2] at ho
              have hsz := HB3.out.2.2.2.size
              clear oP bP k0 k1 k2 k3
              go_wp2_with (at_builtin; refine wpList_appX _ rfl _ _ 29 rfl w.heap.size 5 Tryz.underlying29 info_u8 A2 _ _ _ rfl ho P3 (putU x.seq).length d3 (putU x.seq) rfl rP ?_ ?_ ?_)
              · omega
              · exact hsz
              intro A3 c3 wb o1 g1
              obtain ⟨u3, hu⟩ : ∃ u3 : List UInt8, u3 = u2 ++ putU x.seq := ⟨_, rfl⟩
              have HU3 := Lib.hid hu
              have HD3 := Lib.hid (HB3.out.app8 HD2.out.2 o1 rfl g1)
              rw [← hu] at HD3
              clear hu
              clear o1 g1 ho rP hsz
              have kc4 := HCL.out _ HD3.out.1.2.2.2
              obtain ⟨k0, k1, k2, k3⟩ := kc4
              have ho := (HD3.out.1.below ((Below.refl _ _).alloc (Nat.le_refl _) (.cells #[.int .u8 (x.kind : Int)] 5))).1
              rw [← HD3.out.2] at ho
              have HB4 := Lib.hid (HD3.out.1.below ((Below.refl _ _).alloc (Nat.le_refl _) (.cells #[.int .u8 (x.kind : Int)] 5)))
              have hsz := HB4.out.2.2.2.size
              go_wp2_with (at_builtin; refine wpList_appX _ rfl _ _ 29 rfl w.heap.size 5 Tryz.underlying29 info_u8 A3 _ _ _ rfl ho _ 1 1 [bt x.kind] rfl (Rd.one _ _ _ _ ?_) ?_ ?_ ?_)
              · rw [bt_nat _ (by omega)]
              · omega
              · exact hsz
              intro A4 c4 wb o1 g1
              obtain ⟨u4, hu⟩ : ∃ u4 : List UInt8, u4 = u3 ++ [bt x.kind] := ⟨_, rfl⟩
              have HU4 := Lib.hid hu
              have HD4 := Lib.hid (HB4.out.app8 HD3.out.2 o1 rfl g1)
              rw [← hu] at HD4
              clear hu
              clear o1 g1 ho hsz k0 k1 k2 k3
              have kc5 := HCL.out _ HD4.out.1.2.2.2
              obtain ⟨k0, k1, k2, k3⟩ := kc5
              go_wp2_with fail
              refine (refPutU_any vn _ (by first | exact hseq | (unfold B64; omega))).mono ?_
              rintro e wa ⟨P5, m5, d5, rfl, oP, bP⟩
              obtain rfl : (putU vn).length = m5 := oP.len
              have HB5 := Lib.hid (HD4.out.1.below bP)
              have rP := oP.rd
              have ho := HB5.out.1
              rw [← HD4.out.2] at ho
              have hsz := HB5.out.2.2.2.size
              clear oP bP k0 k1 k2 k3
              go_wp2_with (at_builtin; refine wpList_appX _ rfl _ _ 29 rfl w.heap.size 5 Tryz.underlying29 info_u8 A4 _ _ _ rfl ho P5 (putU vn).length d5 (putU vn) rfl rP ?_ ?_ ?_)
              · omega
              · exact hsz
              intro A5 c5 wb o1 g1
              obtain ⟨u5, hu⟩ : ∃ u5 : List UInt8, u5 = u4 ++ putU vn := ⟨_, rfl⟩
              have HU5 := Lib.hid hu
              have HD5 := Lib.hid (HB5.out.app8 HD4.out.2 o1 rfl g1)
              rw [← hu] at HD5
              clear hu
              clear o1 g1 ho rP hsz
              have kc6 := HCL.out _ HD5.out.1.2.2.2
              obtain ⟨k0, k1, k2, k3⟩ := kc6
              have ho := HD5.out.1.1
              rw [← HD5.out.2] at ho
              have hsz := HD5.out.1.2.2.2.size
              have rP := HRK.out _ HD5.out.1.2.2.2
              go_wp2_with (at_builtin; refine wpList_appX _ rfl _ _ 29 rfl w.heap.size 5 Tryz.underlying29 info_u8 A5 _ _ _ rfl ho (cutA K sh kc) zk (kc - sh) (x.key.drop sh) rfl rP ?_ ?_ ?_)
              · omega
              · exact hsz
              intro A6 c6 wb o1 g1
              obtain ⟨u6, hu⟩ : ∃ u6 : List UInt8, u6 = u5 ++ (x.key.drop sh) := ⟨_, rfl⟩
              have HU6 := Lib.hid hu
              have HD6 := Lib.hid (HD5.out.1.app8 HD5.out.2 o1 HDL.out g1)
              rw [← hu] at HD6
              clear hu
              clear o1 g1 ho rP hsz k0 k1 k2 k3
              have kc7 := HCL.out _ HD6.out.1.2.2.2
              obtain ⟨k0, k1, k2, k3⟩ := kc7
              have ho := HD6.out.1.1
              rw [← HD6.out.2] at ho
              have hsz := HD6.out.1.2.2.2.size
              have rP := HR3.out.below HD6.out.1.2.2.2
              go_wp2_with (at_builtin; refine wpList_appX _ rfl _ _ 29 rfl w.heap.size 5 Tryz.underlying29 info_u8 A6 _ _ _ rfl ho V vn vc x.val rfl rP ?_ ?_ ?_)
              · omega
              · exact hsz
              intro A7 c7 wb o1 g1
              obtain ⟨u7, hu⟩ : ∃ u7 : List UInt8, u7 = u6 ++ x.val := ⟨_, rfl⟩
              have HU7 := Lib.hid hu
              have HD7 := Lib.hid (HD6.out.1.app8 HD6.out.2 o1 HVL.out g1)
              rw [← hu] at HD7
              clear hu
              clear o1 g1 ho rP hsz k0 k1 k2 k3
              have HU : u7 = outB ev es (i + 1) := by rw [HENT.out, HU7.out, HU6.out, HU5.out, HU4.out, HU3.out, HU2.out, HU1.out]
              have HFI := HD7
              rw [HU] at HFI
              clear HU
              go_wp2_with fail
              go_roundw
              case rel => exact ⟨i + 1, _, rn2, sn', A7, R', c7, rc', _, by omega, by go_num, HFI.out.2, by rw [HRN2.out, HRS2.out], HSN'.out, rfl, by rw [← HZB.out]; exact HZ2.out, rfl, rfl, rfl, by rw [← HRS2.out]; exact HFI.out.1⟩
              case measure => simp [intOf]; omega
            · have HZB := Lib.hid hzb
              clear hzb
              have kc1 := HCL.out _ HD0.out.1.2.2.2
              obtain ⟨k0, k1, k2, k3⟩ := kc1
              go_wp2_with fail
              refine (refPutU_any sh _ (by first | exact hseq | (unfold B64; omega))).mono ?_
              rintro e wa ⟨P1, m1, d1, rfl, oP, bP⟩
              obtain rfl : (putU sh).length = m1 := oP.len
              have HB1 := Lib.hid (HD0.out.1.below bP)
              have rP := oP.rd
              have ho := HB1.out.1
              rw [← HD0.out.2] at ho
              have hsz := HB1.out.2.2.2.size
              clear oP bP k0 k1 k2 k3
              go_wp2_with (at_builtin; refine wpList_appX _ rfl _ _ 29 rfl w.heap.size 5 Tryz.underlying29 info_u8 O _ _ _ rfl ho P1 (putU sh).length d1 (putU sh) rfl rP ?_ ?_ ?_)
              · omega
              · exact hsz
              intro A1 c1 wb o1 g1
              obtain ⟨u1, hu⟩ : ∃ u1 : List UInt8, u1 = outB ev es i ++ putU sh := ⟨_, rfl⟩
              have HU1 := Lib.hid hu
              have HD1 := Lib.hid (HB1.out.app8 HD0.out.2 o1 rfl g1)
              rw [← hu] at HD1
              clear hu
              clear o1 g1 ho rP hsz
              have kc2 := HCL.out _ HD1.out.1.2.2.2
              obtain ⟨k0, k1, k2, k3⟩ := kc2
              go_wp2_with fail
              refine (refPutU_any zk _ (by first | exact hseq | (unfold B64; omega))).mono ?_
              rintro e wa ⟨P2, m2, d2, rfl, oP, bP⟩
              obtain rfl : (putU zk).length = m2 := oP.len
              have HB2 := Lib.hid (HD1.out.1.below bP)
              have rP := oP.rd
              have ho := HB2.out.1
              rw [← HD1.out.2] at ho
              have hsz := HB2.out.2.2.2.size
              clear oP bP k0 k1 k2 k3
              go_wp2_with (at_builtin; refine wpList_appX _ rfl _ _ 29 rfl w.heap.size 5 Tryz.underlying29 info_u8 A1 _ _ _ rfl ho P2 (putU zk).length d2 (putU zk) rfl rP ?_ ?_ ?_)
              · omega
              · exact hsz
              intro A2 c2 wb o1 g1
              obtain ⟨u2, hu⟩ : ∃ u2 : List UInt8, u2 = u1 ++ putU zk := ⟨_, rfl⟩
              have HU2 := Lib.hid hu
              have HD2 := Lib.hid (HB2.out.app8 HD1.out.2 o1 rfl g1)
              rw [← hu] at HD2
              clear hu
              clear o1 g1 ho rP hsz
              have kc3 := HCL.out _ HD2.out.1.2.2.2
              obtain ⟨k0, k1, k2, k3⟩ := kc3
              go_wp2_with fail
              refine (refPutU_any x.seq _ (by first | exact hseq | (unfold B64; omega))).mono ?_
              rintro e wa ⟨P3, m3, d3, rfl, oP, bP⟩
              obtain rfl : (putU x.seq).length = m3 := oP.len
              have HB3 := Lib.hid (HD2.out.1.below bP)
              have rP := oP.rd
              have ho := HB3.out.1
              rw [← HD2.out.2] at ho
              have hsz := HB3.out.2.2.2.size
              clear oP bP k0 k1 k2 k3
              go_wp2_with (at_builtin; refine wpList_appX _ rfl _ _ 29 rfl w.heap.size 5 Tryz.underlying29 info_u8 A2 _ _ _ rfl ho P3 (putU x.seq).length d3 (putU x.seq) rfl rP ?_ ?_ ?_)
              · omega
              · exact hsz
              intro A3 c3 wb o1 g1
              obtain ⟨u3, hu⟩ : ∃ u3 : List UInt8, u3 = u2 ++ putU x.seq := ⟨_, rfl⟩
              have HU3 := Lib.hid hu
              have HD3 := Lib.hid (HB3.out.app8 HD2.out.2 o1 rfl g1)
              rw [← hu] at HD3
              clear hu
              clear o1 g1 ho rP hsz
              have kc4 := HCL.out _ HD3.out.1.2.2.2
              obtain ⟨k0, k1, k2, k3⟩ := kc4
              have ho := (HD3.out.1.below ((Below.refl _ _).alloc (Nat.le_refl _) (.cells #[.int .u8 (x.kind : Int)] 5))).1
              rw [← HD3.out.2] at ho
              have HB4 := Lib.hid (HD3.out.1.below ((Below.refl _ _).alloc (Nat.le_refl _) (.cells #[.int .u8 (x.kind : Int)] 5)))
              have hsz := HB4.out.2.2.2.size
              go_wp2_with (at_builtin; refine wpList_appX _ rfl _ _ 29 rfl w.heap.size 5 Tryz.underlying29 info_u8 A3 _ _ _ rfl ho _ 1 1 [bt x.kind] rfl (Rd.one _ _ _ _ ?_) ?_ ?_ ?_)
              · rw [bt_nat _ (by omega)]
              · omega
              · exact hsz
              intro A4 c4 wb o1 g1
              obtain ⟨u4, hu⟩ : ∃ u4 : List UInt8, u4 = u3 ++ [bt x.kind] := ⟨_, rfl⟩
              have HU4 := Lib.hid hu
              have HD4 := Lib.hid (HB4.out.app8 HD3.out.2 o1 rfl g1)
              rw [← hu] at HD4
              clear hu
              clear o1 g1 ho hsz k0 k1 k2 k3
              have kc5 := HCL.out _ HD4.out.1.2.2.2
              obtain ⟨k0, k1, k2, k3⟩ := kc5
              go_wp2_with fail
              refine (refPutU_any vn _ (by first | exact hseq | (unfold B64; omega))).mono ?_
              rintro e wa ⟨P5, m5, d5, rfl, oP, bP⟩
              obtain rfl : (putU vn).length = m5 := oP.len
              have HB5 := Lib.hid (HD4.out.1.below bP)
              have rP := oP.rd
              have ho := HB5.out.1
              rw [← HD4.out.2] at ho
              have hsz := HB5.out.2.2.2.size
              clear oP bP k0 k1 k2 k3
              go_wp2_with (at_builtin; refine wpList_appX _ rfl _ _ 29 rfl w.heap.size 5 Tryz.underlying29 info_u8 A4 _ _ _ rfl ho P5 (putU vn).length d5 (putU vn) rfl rP ?_ ?_ ?_)
              · omega
              · exact hsz
              intro A5 c5 wb o1 g1
              obtain ⟨u5, hu⟩ : ∃ u5 : List UInt8, u5 = u4 ++ putU vn := ⟨_, rfl⟩
              have HU5 := Lib.hid hu
              have HD5 := Lib.hid (HB5.out.app8 HD4.out.2 o1 rfl g1)
              rw [← hu] at HD5
              clear hu
              clear o1 g1 ho rP hsz
              have kc6 := HCL.out _ HD5.out.1.2.2.2
              obtain ⟨k0, k1, k2, k3⟩ := kc6
              have ho := HD5.out.1.1
              rw [← HD5.out.2] at ho
              have hsz := HD5.out.1.2.2.2.size
              have rP := HRK.out _ HD5.out.1.2.2.2
              go_wp2_with (at_builtin; refine wpList_appX _ rfl _ _ 29 rfl w.heap.size 5 Tryz.underlying29 info_u8 A5 _ _ _ rfl ho (cutA K sh kc) zk (kc - sh) (x.key.drop sh) rfl rP ?_ ?_ ?_)
              · omega
              · exact hsz
              intro A6 c6 wb o1 g1
              obtain ⟨u6, hu⟩ : ∃ u6 : List UInt8, u6 = u5 ++ (x.key.drop sh) := ⟨_, rfl⟩
              have HU6 := Lib.hid hu
              have HD6 := Lib.hid (HD5.out.1.app8 HD5.out.2 o1 HDL.out g1)
              rw [← hu] at HD6
              clear hu
              clear o1 g1 ho rP hsz k0 k1 k2 k3
              have kc7 := HCL.out _ HD6.out.1.2.2.2
              obtain ⟨k0, k1, k2, k3⟩ := kc7
              have ho := HD6.out.1.1
              rw [← HD6.out.2] at ho
              have hsz := HD6.out.1.2.2.2.size
              have rP := HR3.out.below HD6.out.1.2.2.2
              go_wp2_with (at_builtin; refine wpList_appX _ rfl _ _ 29 rfl w.heap.size 5 Tryz.underlying29 info_u8 A6 _ _ _ rfl ho V vn vc x.val rfl rP ?_ ?_ ?_)
              · omega
              · exact hsz
              intro A7 c7 wb o1 g1
              obtain ⟨u7, hu⟩ : ∃ u7 : List UInt8, u7 = u6 ++ x.val := ⟨_, rfl⟩
              have HU7 := Lib.hid hu
              have HD7 := Lib.hid (HD6.out.1.app8 HD6.out.2 o1 HVL.out g1)
              rw [← hu] at HD7
              clear hu
              clear o1 g1 ho rP hsz k0 k1 k2 k3
              have HU : u7 = outB ev es (i + 1) := by rw [HENT.out, HU7.out, HU6.out, HU5.out, HU4.out, HU3.out, HU2.out, HU1.out]
              have HFI := HD7
              rw [HU] at HFI
              clear HU
              go_wp2_with fail
              go_roundw
              case rel => exact ⟨i + 1, _, rn2, sn', A7, R', c7, rc', _, by omega, by go_num, HFI.out.2, by rw [HRN2.out, HRS2.out], HSN'.out, rfl, by rw [← HZB.out]; exact HZ2.out, rfl, rfl, rfl, by rw [← HRS2.out]; exact HFI.out.1⟩
              case measure => simp [intOf]; omega
        -- A1
      · obtain rfl : i = n := by omega
        have hsw := hbC.size
        have hO := HC.out.1
        rw [← HON.out] at hO
        have hRd := HC.out.2.1.rd
        rw [← HRN.out] at hRd
        obtain ⟨F, hF⟩ : ∃ F, F = fullB ev es := ⟨_, rfl⟩
        obtain ⟨gd, hgd⟩ : ∃ gd, gd = (es.all formE && ordE es) := ⟨_, rfl⟩
        have hbe : buildE ev es = if 1048576 < F.length then ([], 2) else if gd then (sealB F, 0) else ([], 3) := by rw [buildE, HLO.out, ← hF, hgd]; rfl
        have hzg : z = if gd then 0 else 3 := by rw [HZE.out, refE, hgd, ordE, HL.out]
        obtain ⟨u1, hu1⟩ : ∃ u1, u1 = outB ev es i ++ rsB ev es i := ⟨_, rfl⟩
        obtain ⟨n1, hn1⟩ : ∃ n1, n1 = on + rn := ⟨_, rfl⟩
        have hfull : u1 ++ fourB sn = F := by
          rw [hu1, hF, fullB, HL.out, ← HRN.out]
          have : rn / 4 = sn := by have := HSN.out; omega
          rw [this]
        have hlen : n1 + 4 = F.length := by
          rw [← hfull, List.length_append, hu1, List.length_append, ← HON.out, ← HRN.out, fourB_len]
          omega
        have hfl : n1 + 4 ≤ 1099511627776 := by omega
        have HU1 := Lib.hid hu1
        have HN1 := Lib.hid hn1
        have HFU := Lib.hid hfull
        have HLE := Lib.hid hlen
        have HBE := Lib.hid hbe
        have HZG := Lib.hid hzg
        have HB0 := Lib.hid hbC
        have hn1b : n1 ≤ 1099511627776 := by omega
        clear hbC hF hgd hbe hzg hu1 hn1 hfull hlen
        go_wp2_with (at_builtin; refine wpList_appX _ rfl _ _ 29 rfl w.heap.size 5 Tryz.underlying29 info_u8 O on oc _ rfl hO R rn rc (rsB ev es i) rfl hRd ?_ ?_ ?_)
        · omega
        · exact hsw
        intro O2 oc2 w2 o2 g2
        have hb2 : Below w.heap.size w w2 := HC.out.2.2.2.trans (g2.below HC.out.1 hsw)
        rw [← HU1.out, ← HN1.out] at o2
        rw [← HN1.out]
        have HO2 := Lib.hid o2
        have HB2 := Lib.hid hb2
        clear hO hRd g2 o2 hb2
        go_wp2_with fail
        with_reducible refine (refFour8_any sn w2 (by unfold B64; omega)).mono ?_
        rintro e w3 ⟨P, fn, fc, rfl, hP, _, b3⟩
        have hfn : fn = 4 := by rw [← hP.len]; rfl
        subst hfn
        have o3 := HO2.out.below b3
        have HB3 := Lib.hid (HB2.out.trans (b3.mono HB2.out.size))
        have hsz3 := HB3.out.size
        clear b3
        go_wp2_with (at_builtin; refine wpList_appX _ rfl _ _ 29 rfl w.heap.size 5 Tryz.underlying29 info_u8 O2 n1 oc2 _ rfl o3 P 4 fc (fourB sn) rfl hP ?_ ?_ ?_)
        · omega
        · exact hsz3
        intro O4 oc4 w4 o4 g4
        have hb4 : Below w.heap.size w w4 := HB3.out.trans (g4.below o3 hsz3)
        rw [HFU.out] at o4
        have HB4 := Lib.hid hb4
        have HSL : Hid (Calls Tryz.prog 61 #[.slice O4 (n1 + 4) oc4] w4 (RetSE w4.heap.size w4 (sealG F))) := Lib.hid (refSeal_any O4 (n1 + 4) oc4 F w4 o4.rd hfl)
        clear o3 hP o4 g4 hb4
        by_cases hbig : 1048576 < n1 + 4
        · have hbb : buildE ev es = ([], 2) := by rw [HBE.out, if_pos (by rw [← HLE.out]; exact hbig)]
          rw [sealG_long HLE.out.symm hbig] at HSL
          have HBB := Lib.hid hbb
          clear hbb
          go_wp2_with fail
          with_reducible refine HSL.out.mono ?_
          rintro e w5 ⟨Q, qn, qc, rfl, oQ, b5⟩
          have HB5 := Lib.hid (HB4.out.trans (b5.mono HB4.out.size))
          clear oQ b5
          go_wp2_with fail
          exact bodyPost_ret (v := .tuple #[.slice none 0 0, .int .i64 2]) (by simp [results, Tryz.f59, go_sem]; try rfl) rfl (RetBb.no HBB.out HB5.out)
        · rw [sealG_ok HLE.out.symm hbig] at HSL
          cases gd with
          | true =>
            have hbb : buildE ev es = (sealB F, 0) := by rw [HBE.out, if_neg (by rw [← HLE.out]; exact hbig)]; rfl
            have hz0 : z = 0 := HZG.out
            subst hz0
            have HBB := Lib.hid hbb
            clear hbb
            go_wp2_with fail
            with_reducible refine HSL.out.mono ?_
            rintro e w5 ⟨Q, qn, qc, rfl, oQ, b5⟩
            have HB5 := Lib.hid (HB4.out.trans (b5.mono HB4.out.size))
            have HOQ := Lib.hid (oQ.mono HB4.out.size)
            have hql : (sealB F).length = qn := oQ.len
            have HQL := Lib.hid hql
            clear oQ b5 hql
            go_wp2_with fail
            have hfin : RetBb w (buildE ev es) (.returned (.tuple #[.slice Q qn qc, .int .i64 0])) w5 := by
              refine ⟨Q, qc, ?_, ?_, HB5.out⟩
              · rw [HBB.out]
                simp only
                rw [HQL.out]
              · rw [HBB.out]
                simp only
                rw [HQL.out]
                exact HOQ.out
            exact bodyPost_ret (v := .tuple #[.slice Q qn qc, .int .i64 0]) (by simp [results, Tryz.f59, go_sem]; try rfl) rfl hfin
          | false =>
            have hbb : buildE ev es = ([], 3) := by rw [HBE.out, if_neg (by rw [← HLE.out]; exact hbig)]; rfl
            have hz0 : z = 3 := HZG.out
            subst hz0
            have HBB := Lib.hid hbb
            clear hbb
            go_wp2_with fail
            with_reducible refine HSL.out.mono ?_
            rintro e w5 ⟨Q, qn, qc, rfl, oQ, b5⟩
            have HB5 := Lib.hid (HB4.out.trans (b5.mono HB4.out.size))
            clear oQ b5
            go_wp2_with fail
            exact bodyPost_ret (v := .tuple #[.slice none 0 0, .int .i64 3]) (by simp [results, Tryz.f59, go_sem]; try rfl) rfl (RetBb.no HBB.out HB5.out)
end Go.Proofs.YtbgelbdnkbhffaaGreat
namespace Go.Proofs.YtbgelbdnkbhffaaGreat
open Go Go.RowKit Go.Maps

/-- How many bytes the file of this name has. -/
def lenR (x : List UInt8) (rs : List FR) : Nat := ((rs.filter fun q => q.name == x).map fun q => q.dat.length).sum
theorem lenR_none {x : List UInt8} {rs : List FR} (h : ∀ r ∈ rs, r.name ≠ x) : lenR x rs = 0 ∧ delR x rs = rs := by
  constructor
  · unfold lenR
    rw [List.filter_eq_nil_iff.2 (fun q hq => by simpa using h q hq)]
    rfl
  · unfold delR
    rw [List.filter_eq_self]
    intro q hq
    simpa using h q hq
theorem lenR_some {r : FR} : ∀ {rs : List FR}, rsUp rs → r ∈ rs → lenR r.name rs = r.dat.length
  | [], _, h => by cases h
  | a :: t, hu, h => by
    unfold rsUp at hu
    rw [List.pairwise_cons] at hu
    rcases List.mem_cons.1 h with rfl | h2
    · have e := (lenR_none (x := r.name) (rs := t) (fun q hq e => nlt_ne (hu.1 q hq) e.symm)).1
      unfold lenR at e ⊢
      rw [List.filter_cons_of_pos (by simp), List.map_cons, List.sum_cons, e]
      rfl
    · have hne := nlt_ne (hu.1 r h2)
      have e := lenR_some hu.2 h2
      unfold lenR at e ⊢
      rw [List.filter_cons_of_neg (by simpa using hne)]
      exact e

section
variable {w : World} {p : Nat} {m : Option Nat} {rs : List FR} {room used left : Int} {dead armed : Bool}
theorem drop_any (x : List UInt8) (u : Nat) (h : DskR w p m rs room (u : Int) left dead armed) (hu : rsUp rs) (hl : x.length ≤ maxLen) (hru : lenR x rs ≤ u) (hu2 : u ≤ 9223372036854775807) :
    Calls Tryz.prog 172 #[.pointer (some ⟨p, 0, none⟩), .string (tx x)] w (RetDel w p m rs x room ((u - lenR x rs : Nat) : Int) left dead armed (.tuple #[])) := by
  by_cases hex : ∃ r ∈ rs, r.name = x
  · obtain ⟨r, hr, rfl⟩ := hex
    rw [lenR_some hu hr] at hru ⊢
    exact drop_some u h hu hr hl hru hu2
  · have hno : ∀ r ∈ rs, r.name ≠ x := fun r hr e => hex ⟨r, hr, e⟩
    obtain ⟨e1, e2⟩ := lenR_none hno
    refine (drop_none x h hno hl).mono ?_
    rintro e w' ⟨rfl, rfl⟩
    refine ⟨rfl, ?_, Fr.refl _ _⟩
    rw [e1, e2, Nat.sub_zero]
    exact h

/-- 'The disk with the file under its new name.' -/
def RetRen (w : World) (p : Nat) (m : Option Nat) (rs rs2 : List FR) (x : List UInt8) (dat : List UInt8) (saf : Nat) (room used left : Int) (dead armed : Bool) (v : Value) (e : Ending) (w' : World) : Prop :=
  e = .returned v ∧ ∃ (r' : FR) (m' : Option Nat), r'.name = x ∧ r'.dat = dat ∧ r'.saf = saf ∧ DskR w' p m' (putR r' rs2) room used left dead armed ∧ Fr w w' (allB p m rs) ∧ ∀ b ∈ allB p m' (putR r' rs2), b ∈ allB p m rs ∨ w.heap.size ≤ b
theorem txl (a : List UInt8) : (tx a).toList = a := by rw [ByteArray.toList_eq, tx_list]
theorem tx_ne {a b : List UInt8} (h : a ≠ b) : ((tx a).toList == (tx b).toList) = false := by
  rw [txl, txl, beq_eq_false_iff_ne]
  exact h
set_option maxRecDepth 100000 in
set_option maxHeartbeats 2000000 in
theorem rename_some {r : FR} (y : List UInt8) (u : Nat) (h : DskR w p m rs room (u : Int) left false armed) (hu : rsUp rs) (hr : r ∈ rs) (hl : r.name.length ≤ 1099511627776) (hly : y.length ≤ 1099511627776) (hl2 : 0 ≤ left ∧ left ≤ 9223372036854775807) (ht : tE armed left = 0) (hne : r.name ≠ y)
    (hru : lenR y rs ≤ u) (hu2 : u ≤ 9223372036854775807) (hrs : rs.length ≤ 1099511627776) :
    Calls Tryz.prog 125 #[.pointer (some ⟨p, 0, none⟩), .string (tx r.name), .string (tx y)] w
      (RetRen w p m rs (delR r.name (delR y rs)) y r.dat r.saf room ((u - lenR y rs : Nat) : Int) (tL armed left) false armed (.int .i64 0)) := by
  obtain ⟨t1, t2⟩ := tE_done (dead := false) ht
  have hT := turn_zero h hl2
  rw [ht, t1, t2] at hT
  have HT := Lib.hid hT
  clear hT t1 t2 ht
  go_enter Tryz.func125, Tryz.ntmps125
  go_wp2_with fail
  refine (find_some h hr (by unfold maxLen; omega)).mono ?_
  rintro e w' ⟨rfl, rfl⟩
  go_wp2_with fail
  refine HT.out.mono ?_
  clear HT
  rintro e w1 ⟨rfl, hH⟩
  have hD1 := h.turn hH.1 hH.2
  have hcmp := tx_ne hne
  have HNE := Lib.hid hne
  clear hne
  have f1 : Fr w w1 (allB p m rs) := hH.1.mono (fun b hb => .inl (by rw [List.mem_singleton] at hb; rw [hb]; exact mem_head))
  clear h hH
  go_wp2_with fail
  refine (drop_any y u hD1 hu (by unfold maxLen; omega) hru hu2).mono ?_
  rintro e w2 ⟨rfl, hD2, hF2⟩
  have hu2' := delR_up (x := y) hu
  have hr2 : r ∈ delR y rs := mem_delR.2 ⟨hr, HNE.out⟩
  have f2 : Fr w w2 (allB p m rs) := f1.trans hF2 (fun b hb => .inl hb)
  have hkey := keyN (x := r.name) (by unfold maxLen; omega)
  have hln : (delR y rs).length ≤ rs.length := List.length_filter_le _ _
  clear hD1 hF2 f1 hcmp
  obtain ⟨rs2, hrs2⟩ : ∃ rs2, rs2 = delR y rs := ⟨_, rfl⟩
  have hmr : ∀ b ∈ allB p m rs2, b ∈ allB p m rs := fun b hb => by rw [hrs2] at hb; exact mem_delB hb
  have hny : ∀ q ∈ rs2, q.name ≠ y := fun q hq => by rw [hrs2] at hq; exact (mem_delR.1 hq).2
  rw [← hrs2] at hD2 hu2' hr2 hln ⊢
  have HRS2 := Lib.hid hrs2
  have HMR := Lib.hid hmr
  have HNY := Lib.hid hny
  clear hrs2 hmr hny
  have hM := hD2.2.1
  rcases hM with ⟨_, hM⟩ | ⟨b, Dm, rfl, ho, hm⟩
  · rw [hM] at hr2; cases hr2
  obtain ⟨c0, _⟩ := hD2.head
  go_wp2_with (at_delete; refine wpList_delete_own _ rfl _ _ 113 9 rfl 133 lawN Tryz.underlying113 _ b rs2.length Dm rfl ho _ _ rfl hkey ?_)
  intro w3 ho3 hturn
  have hD3 := hD2.del hu2' hr2 ho3 hm (ho.tidy lawN) hturn.grown
  have hfb3 : Fr w2 w3 [b] := Fr.of_grown hturn.grown (fun c hc => by injection hc with hc; rw [hc]; exact List.mem_singleton.2 rfl)
  have f3 : Fr w w3 (allB p (some b) rs) := f2.trans hfb3 (fun c hc => .inl (by rw [List.mem_singleton] at hc; rw [hc]; exact mem_map rfl))
  have hsep := hD2.2.2.2
  have hfa3 : FileAt w3 r := (hD2.2.2.1 r hr2).fr hfb3 (fun c hc hmem => (hsep.1 r hr2).2.1 b rfl (by rw [List.mem_singleton] at hmem; rw [← hmem]; exact hc))
  have hu3 := delR_up (x := r.name) hu2'
  obtain ⟨r', hr'⟩ : ∃ r' : FR, r' = { r with name := y } := ⟨_, rfl⟩
  have hat : FileAt w3 r' := by rw [hr']; exact hfa3
  have hfr : ∀ c ∈ r'.bl, c ∉ allB p (some b) (delR r.name rs2) := fun c hc hmem => by
    have hc : c ∈ r.bl := by rw [hr'] at hc; exact hc
    simp only [allB, List.mem_cons, List.mem_append, List.mem_flatMap, Option.mem_toList] at hmem
    rcases hmem with rfl | hmem | ⟨q, hq, hmem⟩
    · exact (hsep.1 r hr2).1 hc
    · exact (hsep.1 r hr2).2.1 c hmem hc
    · obtain ⟨hq1, hq2⟩ := mem_delR.1 hq
      exact sp_of hsep.2.2 hu2' hr2 hq1 (fun e => hq2 e.symm) c hc hmem
  have hne' : blk r'.A ≠ some r'.fb := by rw [hr']; exact (hsep.1 r hr2).2.2
  have hl3 : (delR r.name rs2).length ≤ 1099511627776 := Nat.le_trans (List.length_filter_le _ _) (by omega)
  have hP := put_any r' hD3 (fun q hq => by rw [hr']; exact HNY.out q (mem_delR.1 hq).1) (by rw [hr']; exact hly) hl3
  have hn' : r'.name = y := by rw [hr']
  have hf' : r'.fb = r.fb := by rw [hr']
  rw [hn', hf'] at hP
  have HP := Lib.hid hP
  have HV := Lib.hid (show r'.name = y ∧ r'.dat = r.dat ∧ r'.saf = r.saf from by rw [hr']; exact ⟨rfl, rfl, rfl⟩)
  have HAT := Lib.hid hat
  have HFR := Lib.hid hfr
  have HNE' := Lib.hid hne'
  have HD3 := Lib.hid hD3
  have HF3 := Lib.hid f3
  have HBL : Hid (∀ c ∈ r'.bl, c ∈ allB p (some b) rs) := Lib.hid (fun c hc => HMR.out c (mem_file hr2 (by rw [hr'] at hc; exact hc)))
  clear hP hat hfr hne' hD3 f3 hr' hn' hf' ho3 hturn ho hm hsep hfa3 hfb3 f2 hD2 hkey
  go_wp2_with fail
  refine HP.out.mono ?_
  clear HP
  rintro e w4 hret
  obtain ⟨he, hret2⟩ := hret
  subst he
  obtain ⟨mb, hD4, hF4, hmb⟩ := HD3.out.put hu3 ⟨rfl, hret2⟩ HAT.out HFR.out HNE'.out
  have hF : Fr w w4 (allB p (some b) rs) := HF3.out.trans hF4 (fun c hc => .inl (by
    simp only [List.mem_cons, Option.mem_toList, allB, List.mem_append] at hc ⊢
    rcases hc with hc | hc
    · exact .inl hc
    · exact .inr (.inl hc)))
  have hB : ∀ c ∈ allB p (some mb) (putR r' (delR r.name rs2)), c ∈ allB p (some b) rs ∨ w.heap.size ≤ c := fun c hc => by
    simp only [allB, List.mem_cons, List.mem_append, List.mem_flatMap, Option.mem_toList] at hc
    rcases hc with rfl | hc | ⟨q, hq, hc⟩
    · exact .inl mem_head
    · cases hc
      rcases hmb with h1 | h1
      · injection h1 with h1; exact .inl (by rw [← h1]; exact mem_map rfl)
      · exact .inr (Nat.le_trans HF3.out.size h1)
    · rcases putR_sub2 hu3 q hq with rfl | ⟨hq, _⟩
      · exact .inl (HBL.out c hc)
      · exact .inl (HMR.out c (mem_file (mem_delR.1 hq).1 hc))
  have HF := Lib.hid hF
  have HB := Lib.hid hB
  have HD4 := Lib.hid hD4
  clear hret2 hF4 hmb hF hB hD4
  go_wp2
  go_ret
  rw [← HRS2.out]
  exact ⟨rfl, r', some mb, HV.out.1, HV.out.2.1, HV.out.2.2, HD4.out, HF.out, HB.out⟩
end
end Go.Proofs.YtbgelbdnkbhffaaGreat
namespace Go.Proofs.YtbgelbdnkbhffaaGreat
open Go Go.RowKit

end Go.Proofs.YtbgelbdnkbhffaaGreat
namespace Go.Proofs.YtbgelbdnkbhffaaGreat
open Go Go.RowKit

end Go.Proofs.YtbgelbdnkbhffaaGreat
namespace Go.Proofs.YtbgelbdnkbhffaaGreat
open Go Go.RowKit Go.Maps Go.Proofs

def nmR (pre : List UInt8) (rs : List FR) : List (List UInt8) := (rs.map FR.name).filter fun x => Lib.hasPrefix x pre
theorem nmR_up {pre : List UInt8} {rs : List FR} (h : rsUp rs) : (nmR pre rs).Pairwise fun a b => a < b := by
  unfold nmR
  refine List.Pairwise.filter _ ?_
  rw [List.pairwise_map]
  exact h
theorem nmR_sort {pre : List UInt8} {rs : List FR} {zs : List (List UInt8)} (h : rsUp rs) (hn : zs.Nodup) (hm : ∀ x, x ∈ zs ↔ x ∈ nmR pre rs) : zs.mergeSort (fun x y => decide (x ≤ y)) = nmR pre rs := by
  have hu := nmR_up (pre := pre) h
  have hp : List.Perm (zs.mergeSort (fun x y => decide (x ≤ y))) (nmR pre rs) :=
    (List.mergeSort_perm zs _).trans ((List.perm_ext_iff_of_nodup hn (hu.imp fun h => nlt_ne h)).2 hm)
  refine List.Perm.eq_of_pairwise (le := fun a b => a ≤ b) (fun a b _ _ h1 h2 => List.le_antisymm h1 h2) ?_ (hu.imp fun h => List.le_of_lt h) hp
  have := List.pairwise_mergeSort (le := fun x y : List UInt8 => decide (x ≤ y)) (fun a b c h1 h2 => by simp only [decide_eq_true_eq] at *; exact List.le_trans h1 h2) (fun a b => by simpa using List.le_total a b) zs
  exact this.imp (fun h => by simpa using h)

/-- 'It hands back a row of these names, new.' -/
def RetNm (w : World) (ns : List (List UInt8)) (e : Ending) (w' : World) : Prop :=
  ∃ A n c, e = .returned (.slice A n c) ∧ OwnV 9 w' w.heap.size A n c (ns.map encStr) ∧ Below w.heap.size w w'
theorem info_str : (Tryz.prog.info? 9).map (fun i => (i.zero, i.size, i.bytes)) = some (some (.string ⟨#[]⟩), 1, 16) := by kernel_rfl

section
variable {w : World} {p : Nat} {m : Option Nat} {rs : List FR} {room used left : Int} {dead armed : Bool}
set_option maxRecDepth 100000 in
set_option maxHeartbeats 4000000 in
theorem names_some {b : Nat} (pre : List UInt8) (h : DskR w p (some b) rs room used left dead armed) (hu : rsUp rs) (hrs : rs.length ≤ 1099511627776) (hnl : ∀ r ∈ rs, r.name.length ≤ 1099511627776) :
    Calls Tryz.prog 63 #[.pointer (some ⟨p, 0, none⟩), .string (tx pre)] w (RetNm w (nmR pre rs)) := by
  obtain ⟨c0, _⟩ := h.head
  obtain ⟨Dm, ho, hm⟩ : ∃ Dm, w.ownsMap Tryz.prog 9 ptrEl b rs.length Dm ∧ MR Dm rs := by
    rcases h.2.1 with ⟨h1, _⟩ | ⟨b', Dm, h1, h2, h3⟩
    · cases h1
    · injection h1 with h1
      subst h1
      exact ⟨Dm, h2, h3⟩
  have HM := Lib.hid hm
  have HNL := Lib.hid hnl
  have hbl := ho.lt
  clear hm hnl h
  go_enter Tryz.func63, Tryz.ntmps63
  go_wp2_with (at_range; refine wpList_range_own _ rfl _ 113 rfl 9 133 lawN Tryz.underlying113 _ b rs.length Dm rfl ho ?_)
  intro w1 hrg0 hg0 hs1
  have HR := Lib.hid hrg0
  have hs1' : w.heap.size < w1.heap.size := by omega
  clear hs1
  have hb1 : Below w.heap.size w w1 := (Below.refl _ _).grown hg0 (Nat.le_refl _) (fun k hk => by cases hk)
  clear hrg0 hg0 ho
  go_wp2
  go_loopw [5] (fun v wr => ∃ (A : Option Addr) (n c : Nat) (zs : List (List UInt8)) (lf : Lit → Bool) (cnt : Nat), v = .slice A n c ∧ OwnV 9 wr w1.heap.size A n c (zs.map encStr) ∧ zs.Nodup ∧ (∀ x, x ∈ zs ↔ x ∈ nmR pre rs ∧ lf (.string x) = false) ∧ n ≤ rs.length ∧ wr.ranges Tryz.prog 9 ptrEl b w.heap.size rs.length Dm lf cnt ∧ Below w.heap.size w wr ∧ w1.heap.size ≤ wr.heap.size) (fun _ wr => wr.rangeLeft b w.heap.size)
  case atStart =>
    refine ⟨none, 0, 0, [], _, _, rfl, OwnV.nil _ _ _, List.nodup_nil, fun x => ?_, Nat.zero_le _, HR.out, hb1, Nat.le_refl _⟩
    constructor
    · intro h; cases h
    · rintro ⟨h1, h2⟩
      unfold nmR at h1
      rw [List.mem_filter, List.mem_map] at h1
      obtain ⟨⟨r, hr, rfl⟩, _⟩ := h1
      rw [HM.out.2.1] at h2
      rw [List.any_eq_false] at h2
      exact absurd (h2 r hr) (by simp)
  case round =>
    clear HR hb1
    obtain ⟨A, n, c, zs, lf, cnt, rfl, hA, hnd, hzs, hnr, hrg, hbw, hsz⟩ := hrel
    have HZ := Lib.hid hzs
    have HND := Lib.hid hnd
    clear hzs hnd
    go_wp2_with (at_next; refine wpList_next_ranges _ rfl _ rfl 9 lawN ptrEl Value.string (fun q : Option Nat => Value.pointer (q.map fun b => ⟨b, 0, none⟩)) keyN_inv ptrEl_inv b w.heap.size rs.length Dm lf cnt rfl hrg ?_ ?_)
    · intro _ hl0
      have hall : ∀ x, x ∈ zs ↔ x ∈ nmR pre rs := fun x => by rw [HZ.out x, hl0]; simp
      have HS := Lib.hid (nmR_sort hu HND.out hall)
      clear hl0 hrg HZ hall
      have hln : zs.length = n := by have := hA.len; simpa using this
      rcases hA.2 with ⟨hnil, hn0⟩ | ⟨g, cap, cur, hsl, hbase, hblk, hc1, hc2, hc3, hc4⟩
      · injection hnil with hnil1 hnil2 hnil3
        subst hnil1 hnil3 hn0
        have hz0 : zs = [] := List.eq_nil_of_length_eq_zero hln
        subst hz0
        go_wp2_with fail
        refine (lib_slices_Sort_string_none none 0 _).mono ?_
        rintro e w' ⟨rfl, rfl⟩
        go_wp2
        go_ret
        refine ⟨none, 0, 0, rfl, ?_, hbw⟩
        rw [← HS.out, List.mergeSort_nil]
        exact OwnV.nil _ _ _
      · injection hsl with hsl1 _ hsl3
        subst hsl1 hsl3 hln
        have hgl := (Array.getElem?_eq_some_iff.1 hblk).1
        rw [Nat.mul_one] at hc4
        have hzl : zs.length < 4611686018427387904 := by omega
        have hfin : ∀ nd os, RetNm w (nmR pre rs) (.returned (.slice (some ⟨g, 0, none⟩) zs.length c)) (Go.Sort.grow (Go.Sort.putRow encStr (Sort.ahead wr nd) g 0 (zs.mergeSort fun x y => decide (x ≤ y)).toArray) os) := fun nd os => by
          refine ⟨some ⟨g, 0, none⟩, zs.length, c, rfl, ?_, hbw.grown (grownBy_sorted _) hbw.size (fun k hk => by injection hk with hk; omega)⟩
          rw [← HS.out]
          exact ownsRow_sorted (ss := zs) (List.length_mergeSort _) (by omega) hblk hc1 hc2 hc3
        have HF := Lib.hid hfin
        have hH := holds_of_block (ss := zs) hblk hc4
        have HH := Lib.hid hH
        clear hfin hH hc4 hblk hA HS
        go_wp2_with fail
        refine (lib_slices_Sort_string g 0 c zs _ HH.out hgl hzl).mono ?_
        rintro e w' ⟨rfl, nd, os, hw'⟩
        have hfin := HF.out nd os
        rw [← hw'] at hfin
        have HFIN := Lib.hid hfin
        clear hfin hw'
        go_wp2
        go_ret
        exact HFIN.out
    · intro x q kl y yp w4 cnt' hkey hlk hv hat hrg1 hlt hg1 hs4 hen
      obtain ⟨S, hS1, hS2, hS3⟩ := WideMaps.string_of_keyOf Tryz.underlying9 hkey
      injection hS1 with hS1
      subst hS1 hS2
      obtain ⟨X, rfl⟩ : ∃ X, x = tx X := ⟨x.data.toList, (tx_of x).symm⟩
      rw [tx_list] at hlk hrg1 hat
      have hhas : has Dm (.string X) = true := has_true_of_atKey hat
      rw [HM.out.2.1, List.any_eq_true] at hhas
      obtain ⟨r, hr, hrX⟩ := hhas
      have hrX : r.name = X := by simpa using hrX
      have hXl : X.length ≤ 1099511627776 := by rw [← hrX]; exact HNL.out r hr
      have hXm : X ∈ rs.map FR.name := List.mem_map.2 ⟨r, hr, hrX⟩
      have hXz : X ∉ zs := fun h => by rw [(HZ.out X).1 h |>.2] at hlk; cases hlk
      have hb4 : Below w.heap.size w w4 := hbw.grown hg1 hbw.size (fun k hk => by injection hk with hk; omega)
      have hA4 : OwnV 9 w4 w1.heap.size A n c (zs.map encStr) := hA.kept hg1 (fun b' hb' e => by injection e with e; have := (hA.lt b' hb').1; omega)
      have hmeas := hrg1.left_eq
      have hmeas0 := hrg.left_eq
      have hsame : ∀ z : List UInt8, (Lit.string z).sameKey (.string X) = (z == X) := fun z => by simp [Lit.sameKey]
      have hleft' : ∀ z : List UInt8, ((fun k => lf k && !k.sameKey (.string X)) (.string z) = false) ↔ (lf (.string z) = false ∨ z = X) := fun z => by
        show (lf (.string z) && !(Lit.string z).sameKey (.string X)) = false ↔ _
        rw [hsame, Bool.and_eq_false_iff]
        simp
      have hsiz : (tx X).size ≤ 281474976710656 := by rw [tx_size]; omega
      have HLT : Hid (cnt' < cnt) := Lib.hid hlt
      have HRG := Lib.hid hrg1
      have HM0 := Lib.hid hmeas0
      cases hpf : Lib.hasPrefix X pre with
      | false =>
        have hC : Hid (∀ W, Calls Tryz.prog 131 #[.string (tx X), .string (tx pre)] W fun e w' => e = .returned (.bool false) ∧ w' = W) := Lib.hid (fun W => by
          have h := lib_strings_HasPrefix (tx X) (tx pre) W
          rw [tx_list, tx_list, hpf] at h
          exact h)
        have hzs' : ∀ z, z ∈ zs ↔ z ∈ nmR pre rs ∧ (fun k => lf k && !k.sameKey (.string X)) (.string z) = false := fun z => by
          rw [hleft' z, HZ.out z]
          constructor
          · rintro ⟨h1, h2⟩; exact ⟨h1, .inl h2⟩
          · rintro ⟨h1, h2⟩
            refine ⟨h1, ?_⟩
            rcases h2 with h2 | rfl
            · exact h2
            · unfold nmR at h1
              rw [List.mem_filter, hpf] at h1
              exact absurd h1.2 (by decide)
        have HZ' := Lib.hid hzs'
        have HA4 := Lib.hid hA4
        have HB4 := Lib.hid hb4
        have HSZ4 : Hid (w1.heap.size ≤ w4.heap.size) := Lib.hid (by omega)
        clear hzs' hleft' hsame hA hA4 hb4 hrg hrg1 hg1 hat hv hkey hlk hmeas0 hXm hXz hpf HZ
        go_wp2_with fail
        refine (hC.out _).mono ?_
        rintro e w' ⟨rfl, rfl⟩
        go_wp2
        go_roundw
        case rel => exact ⟨A, n, c, zs, _, cnt', rfl, HA4.out, HND.out, HZ'.out, hnr, HRG.out, HB4.out, HSZ4.out⟩
        case measure => rw [hmeas, HM0.out]; exact HLT.out
      | true =>
        have hC : Hid (∀ W, Calls Tryz.prog 131 #[.string (tx X), .string (tx pre)] W fun e w' => e = .returned (.bool true) ∧ w' = W) := Lib.hid (fun W => by
          have h := lib_strings_HasPrefix (tx X) (tx pre) W
          rw [tx_list, tx_list, hpf] at h
          exact h)
        have hzs' : ∀ z, z ∈ zs ++ [X] ↔ z ∈ nmR pre rs ∧ (fun k => lf k && !k.sameKey (.string X)) (.string z) = false := fun z => by
          rw [hleft' z, List.mem_append, List.mem_singleton, HZ.out z]
          constructor
          · rintro (⟨h1, h2⟩ | rfl)
            · exact ⟨h1, .inl h2⟩
            · refine ⟨?_, .inr rfl⟩
              unfold nmR
              rw [List.mem_filter]
              exact ⟨hXm, hpf⟩
          · rintro ⟨h1, h2⟩
            rcases h2 with h2 | rfl
            · exact .inl ⟨h1, h2⟩
            · exact .inr rfl
        have hnd' : (zs ++ [X]).Nodup := by
          rw [List.nodup_append]
          exact ⟨HND.out, by simp, fun a ha b hb e => by rw [List.mem_singleton] at hb; rw [e, hb] at ha; exact hXz ha⟩
        have hlen' : n + 1 ≤ rs.length := by
          have h1 : (zs ++ [X]).length ≤ (nmR pre rs).length := List.Nodup.length_le_of_subset hnd' (fun z hz => ((hzs' z).1 hz).1)
          have h2 : (nmR pre rs).length ≤ rs.length := by
            unfold nmR
            exact Nat.le_trans (List.length_filter_le _ _) (by simp)
          have h3 : zs.length = n := by have := hA.len; simpa using this
          rw [List.length_append] at h1
          simp only [List.length_cons, List.length_nil] at h1
          omega
        have HZ' := Lib.hid hzs'
        have HND' := Lib.hid hnd'
        clear hzs' hnd' hleft' hsame hA hrg hrg1 hat hv hkey hlk hmeas0 hXm hXz hpf HZ HND hg1
        go_wp2_with fail
        refine (hC.out _).mono ?_
        rintro e w' ⟨rfl, rfl⟩
        go_wp2_with fail
        refine (Dclone _ _ hsiz).mono ?_
        rintro e w5 ⟨rfl, hb5⟩
        have hs5 := hb5.size
        have hG := hA4.below hb5
        go_wp2_with (at_builtin; refine wpList_app1 w5 rfl _ _ 37 rfl w1.heap.size 9 _ _ Tryz.underlying37 info_str rfl A n c (zs.map encStr) rfl hG (.string (tx X)) rfl w5.heap.size rfl rfl ?_ ?_ ?_ ?_)
        · unfold maxLen; omega
        · omega
        · omega
        intro A' c' w6 hA6 hg6 hk6
        have hrg6 := ((HRG.out.kept (w' := w5) (row := none) ⟨hb5.os, hb5.tape, hb5.output, hb5.size, fun k hk _ => hb5.block k hk⟩ (by simp) (by simp)).kept hg6 (fun e => by have := (hG.lt b e.symm).1; omega) (fun e => by have := (hG.lt _ e.symm).1; omega))
        have hb6 : Below w.heap.size w w6 := (hb4.trans (hb5.mono hb4.size)).grown hg6 (by have := hb4.size; omega) (fun k hk => by have := (hG.lt k hk).1; omega)
        have HA6 : Hid (OwnV 9 w6 w1.heap.size A' (n + 1) c' ((zs ++ [X]).map encStr)) := Lib.hid (by rw [List.map_append]; exact hA6)
        have HRG6 := Lib.hid hrg6
        have HB6 := Lib.hid hb6
        have hmeas6 := hrg6.left_eq
        have HSZ6 : Hid (w1.heap.size ≤ w6.heap.size) := Lib.hid (by have := hg6.size; omega)
        clear hA6 hg6 hk6 hG hb5 hrg6 hb6 hA4 hb4
        go_wp2
        go_roundw
        case rel => exact ⟨A', n + 1, c', zs ++ [X], _, cnt', rfl, HA6.out, HND'.out, HZ'.out, hlen', HRG6.out, HB6.out, HSZ6.out⟩
        case measure => rw [hmeas6, HM0.out]; exact HLT.out
set_option maxRecDepth 100000 in
set_option maxHeartbeats 2000000 in
theorem names_nil (pre : List UInt8) (h : DskR w p none rs room used left dead armed) :
    Calls Tryz.prog 63 #[.pointer (some ⟨p, 0, none⟩), .string (tx pre)] w (RetNm w (nmR pre rs)) := by
  obtain ⟨c0, _⟩ := h.head
  have hrs : rs = [] := by
    rcases h.2.1 with ⟨_, h2⟩ | ⟨b', Dm, h1, _⟩
    · exact h2
    · cases h1
  subst hrs
  have hrn := fun w => run_range_nilMap (P := Tryz.prog) w 113 9 133 Tryz.underlying113
  have hnx := fun w ty => run_next_nilMap (P := Tryz.prog) w ty 0 0 #[]
  go_enter Tryz.func63, Tryz.ntmps63
  go_wp2
  go_loopw [5] (fun v wr => v = .slice none 0 0 ∧ wr = w.alloc (.mapIter none 0 #[] 0)) (fun _ _ => 0)
  case atStart => exact ⟨rfl, rfl⟩
  case round =>
    obtain ⟨rfl, rfl⟩ := hrel
    go_wp2_with fail
    refine (lib_slices_Sort_string_none none 0 _).mono ?_
    rintro e w' ⟨rfl, rfl⟩
    go_wp2
    go_ret
    exact ⟨none, 0, 0, rfl, OwnV.nil _ _ _, (Below.refl _ _).alloc (Nat.le_refl _) _⟩
theorem names_any (pre : List UInt8) (h : DskR w p m rs room used left dead armed) (hu : rsUp rs) (hrs : rs.length ≤ 1099511627776) (hnl : ∀ r ∈ rs, r.name.length ≤ 1099511627776) :
    Calls Tryz.prog 63 #[.pointer (some ⟨p, 0, none⟩), .string (tx pre)] w (RetNm w (nmR pre rs)) := by
  cases m with
  | none => exact names_nil pre h
  | some b => exact names_some pre h hu hrs hnl
theorem list_live (pre : List UInt8) (h : DskR w p m rs room used left false armed) (hu : rsUp rs) (hrs : rs.length ≤ 1099511627776) (hnl : ∀ r ∈ rs, r.name.length ≤ 1099511627776) :
    Calls Tryz.prog 14 #[.pointer (some ⟨p, 0, none⟩), .string (tx pre)] w (RetNm w (nmR pre rs)) := by
  obtain ⟨c0, c1, c2, c3, c4, c5⟩ := h.head
  go_enter Tryz.func14, Tryz.ntmps14
  go_wp2_with fail
  refine (names_any pre h hu hrs hnl).mono ?_
  rintro e w' ⟨A, n, c, rfl, ho, hb⟩
  go_wp2
  go_ret
  exact ⟨A, n, c, rfl, ho, hb⟩
end
end Go.Proofs.YtbgelbdnkbhffaaGreat
namespace Go.Proofs.YtbgelbdnkbhffaaGreat
open Go Go.RowKit

end Go.Proofs.YtbgelbdnkbhffaaGreat
namespace Go.Proofs.YtbgelbdnkbhffaaGreat
open Go Go.RowKit

end Go.Proofs.YtbgelbdnkbhffaaGreat
namespace Go.Proofs.YtbgelbdnkbhffaaGreat
open Go Go.RowKit

end Go.Proofs.YtbgelbdnkbhffaaGreat
namespace Go.Proofs.YtbgelbdnkbhffaaGreat
open Go Go.RowKit Go.Maps

end Go.Proofs.YtbgelbdnkbhffaaGreat
namespace Go.Proofs.YtbgelbdnkbhffaaGreat
open Go Go.RowKit

theorem REs.tail {w : World} {A : Option Addr} {n c : Nat} {x : En} {es : List En} (h : REs w A (n + 1) (x :: es)) (hc : n + 1 ≤ c) : REs w (cutA4 A 1 c) n es := by
  obtain ⟨hl, vs, hv, hd⟩ := h
  have h1 := hv.drop 1
  have h2 := rdv_cut4 (k := 1) (m := n + 1) (cap := c) hd (by omega) (Nat.le_refl _) hc
  rw [List.take_of_length_le (by rw [hd.1]; omega), Nat.add_sub_cancel] at h2
  exact ⟨by simpa using hl, _, by simpa using h1, by simpa using h2⟩
/-- Entries that can be read, and what was there stands. -/
def RetEs (w : World) (es : List En) (e : Ending) (w' : World) : Prop := ∃ L k d, e = .returned (.slice L k d) ∧ REs w' L k es ∧ k ≤ d ∧ Below w.heap.size w w'
/-- 'So far joined.' -/
def PkM (w : World) (es : List En) (L : Option Addr) (k d : Nat) (wr : World) : Prop :=
  ∃ vs, OwnE wr w.heap.size L k d vs ∧ EVs w es vs ∧ es.length = k ∧ Below w.heap.size w wr
theorem PkM.below {w wr w' : World} {es : List En} {L : Option Addr} {k d : Nat} (h : PkM w es L k d wr) (hb : Below wr.heap.size wr w') : PkM w es L k d w' := by
  obtain ⟨vs, h1, h2, h3, h4⟩ := h
  exact ⟨vs, h1.below hb, h2, h3, belowT' h4 hb⟩
theorem PkM.bel {w wr : World} {es : List En} {L : Option Addr} {k d : Nat} (h : PkM w es L k d wr) : Below w.heap.size w wr := by
  obtain ⟨vs, h1, h2, h3, h4⟩ := h
  exact h4
theorem PkM.len {w wr : World} {es : List En} {L : Option Addr} {k d : Nat} (h : PkM w es L k d wr) : es.length = k := by
  obtain ⟨vs, h1, h2, h3, h4⟩ := h
  exact h3
end Go.Proofs.YtbgelbdnkbhffaaGreat
namespace Go.Proofs.YtbgelbdnkbhffaaGreat
open Go Go.RowKit

end Go.Proofs.YtbgelbdnkbhffaaGreat
namespace Go.Proofs.YtbgelbdnkbhffaaGreat
open Go Go.RowKit Go.Maps Go.Proofs

theorem RdV.fr {w w' : World} {bl : List Nat} {A : Option Addr} {n : Nat} {vs : List Value} (h : RdV w A n vs) (hf : Fr w w' bl) (ho : 0 < n → ∀ b, blk A = some b → b ∉ bl) : RdV w' A n vs := by
  refine ⟨h.1, fun hn => ?_⟩
  obtain ⟨b, off, rfl, h2, h3⟩ := h.2 hn
  refine ⟨b, off, rfl, Nat.lt_of_lt_of_le h2 hf.size, fun i x hx => ?_⟩
  exact (World.cell?_of_block (a := ⟨b, off + i, none⟩) (hf.block b h2 (ho hn b rfl))).trans (h3 i x hx)
section
variable {w : World} {p : Nat} {m : Option Nat} {rs : List FR} {room left : Int} {dead armed : Bool}
end
end Go.Proofs.YtbgelbdnkbhffaaGreat
namespace Go.Proofs.YtbgelbdnkbhffaaGreat
open Go Go.RowKit

theorem RetEs.out {w w' : World} {es : List En} {e : Ending} (h : RetEs w es e w') : ∃ L k d, e = .returned (.slice L k d) ∧ REs w' L k es ∧ k ≤ d ∧ Below w.heap.size w w' := h
end Go.Proofs.YtbgelbdnkbhffaaGreat
namespace Go.Proofs.YtbgelbdnkbhffaaGreat
open Go Go.RowKit

/-- The two rows that the reader makes. -/
def RR (w : World) (L P : Option Addr) (ln d pn pd : Nat) (es : List En) (vs : List Value) (ps : List Int) (wr : World) : Prop :=
  OwnE wr w.heap.size L ln d vs ∧ EOs w.heap.size wr es vs ∧ es.length = ln ∧ OwnV 3 wr w.heap.size P pn pd (ps.map (fun z => Value.int .i64 z)) ∧ ps.length = pn ∧ Below w.heap.size w wr
theorem RR.below {w wr wx : World} {L P : Option Addr} {ln d pn pd : Nat} {es : List En} {vs : List Value} {ps : List Int} (h : RR w L P ln d pn pd es vs ps wr) (hb : Below wr.heap.size wr wx) : RR w L P ln d pn pd es vs ps wx := by
  obtain ⟨h1, h2, h3, h4, h5, h6⟩ := h
  exact ⟨h1.below hb, h2.below hb, h3, h4.below hb, h5, h6.trans (hb.mono h6.size)⟩
theorem RR.place {w wr wx : World} {L P P' : Option Addr} {ln d pn pd pd' : Nat} {es : List En} {vs : List Value} {ps : List Int} {z : Int} (h : RR w L P ln d pn pd es vs ps wr) (hP : OwnV 3 wx w.heap.size P' (pn + 1) pd' (ps.map (fun z => Value.int .i64 z) ++ [.int .i64 z])) (hg : wr.grownBy wx (blk P)) : RR w L P' ln d (pn + 1) pd' es vs (ps ++ [z]) wx := by
  obtain ⟨h1, h2, h3, h4, h5, h6⟩ := h
  refine ⟨ownE_kept h1 hg (fun b hb e => row_ne h4 h1 (by decide) b e hb), EOs.kept hg h2 (eos_off h4 (by decide) h2), h3, by rw [List.map_append]; exact hP, by simp [h5], h6.grown hg h6.size (fun k hk => (OwnV.lt h4 k hk).1)⟩
theorem RR.key {w wr wx : World} {L P K : Option Addr} {ln d pn pd kn kc b : Nat} {es : List En} {vs : List Value} {ps : List Int} {key : List UInt8} (h : RR w L P ln d pn pd es vs ps wr) (hk : Own 5 wr b K kn kc key) (hg : wr.grownBy wx (blk P)) : Own 5 wx b K kn kc key := by
  obtain ⟨_, _, _, h4, _, _⟩ := h
  exact hk.kept hg (fun b hb e => row_ne h4 hk (by decide) b e hb)
theorem EO.mk8 {base kn kc vn vc : Nat} {w : World} {K V : Option Addr} {x : En} (hK : Own 5 w base K kn kc x.key) (hV : Own 5 w base V vn vc x.val) (hu : U64 x.seq ∧ x.kind < 256) : EO base w x (.slice K kn kc) (.int .u64 (x.seq : Int)) (.int .u8 (x.kind : Int)) (.slice V vn vc) :=
  ⟨K, kn, kc, V, vn, vc, rfl, rfl, rfl, rfl, hK, hV, hu.1, hu.2⟩
theorem RR.entry {w wr wx : World} {L L' P K V : Option Addr} {ln d d' pn pd kn kc vn vc : Nat} {es : List En} {vs : List Value} {ps : List Int} {x : En} (h : RR w L P ln d pn pd es vs ps wr) (hK : Own 5 wr w.heap.size K kn kc x.key) (hV : Own 5 wr w.heap.size V vn vc x.val) (hu : U64 x.seq ∧ x.kind < 256)
    (hL : OwnE wx w.heap.size L' (ln + 1) d' (vs ++ [.slice K kn kc, .int .u64 (x.seq : Int), .int .u8 (x.kind : Int), .slice V vn vc])) (hg : wr.grownBy wx (blk L)) :
    RR w L' P (ln + 1) d' pn pd (es ++ [x]) (vs ++ [.slice K kn kc, .int .u64 (x.seq : Int), .int .u8 (x.kind : Int), .slice V vn vc]) ps wx := by
  obtain ⟨h1, h2, h3, h4, h5, h6⟩ := h
  have kK := hK.kept hg (fun b hb e => row_ne h1 hK (by decide) b e hb)
  have kV := hV.kept hg (fun b hb e => row_ne h1 hV (by decide) b e hb)
  refine ⟨hL, (EOs.kept hg h2 (eos_off h1 (by decide) h2)).app (EOs.one (EO.mk8 kK kV hu)), by simp [h3], ?_, h5, h6.grown hg h6.size (fun k hk => (OwnE.lt h1 k hk).1)⟩
  refine World.ownsRow.kept h4 hg ?_
  rw [own_blk]
  cases hb : blk P with
  | none => exact .inl rfl
  | some b => exact .inr (fun e => row_ne h1 h4 (by decide) b e.symm hb)
end Go.Proofs.YtbgelbdnkbhffaaGreat
namespace Go.Proofs.YtbgelbdnkbhffaaGreat
open Go Go.RowKit Go.Maps

/-- 'The disk at block p lives, isn't armed, and holds these files.' -/
def Live (w : World) (p : Nat) (bl : List Nat) (room u : Nat) (fs : List FE) : Prop :=
  ∃ m rs, DskR w p m rs (room : Int) (u : Int) 0 false false ∧ bl = allB p m rs ∧ rs.map FR.val = fs ∧ risingF fs
def RetLv (w : World) (p : Nat) (bl : List Nat) (room u : Nat) (fs : List FE) (v : Value) (e : Ending) (w' : World) : Prop :=
  e = .returned v ∧ ∃ bl', Live w' p bl' room u fs ∧ Fr w w' bl ∧ ∀ b ∈ bl', b ∈ bl ∨ w.heap.size ≤ b
def RetNw (w : World) (room : Nat) (e : Ending) (w' : World) : Prop :=
  ∃ p bl, e = .returned (.pointer (some ⟨p, 0, none⟩)) ∧ Live w' p bl room 0 [] ∧ (∀ b ∈ bl, w.heap.size ≤ b) ∧ Below w.heap.size w w'
section
variable {w w' : World} {p : Nat} {bl : List Nat} {room u : Nat} {fs : List FE}
theorem Live.fr {bl2 : List Nat} (h : Live w p bl room u fs) (hf : Fr w w' bl2) (ho : ∀ b ∈ bl, b ∉ bl2) : Live w' p bl room u fs := by
  obtain ⟨m, rs, h1, rfl, h3, h4⟩ := h
  exact ⟨m, rs, h1.fr hf ho, rfl, h3, h4⟩
theorem Live.lt (h : Live w p bl room u fs) : ∀ b ∈ bl, b < w.heap.size := by
  obtain ⟨m, rs, h1, rfl, h3, h4⟩ := h
  exact h1.lt
theorem Live.below (h : Live w p bl room u fs) (hb : Below w.heap.size w w') : Live w' p bl room u fs := h.fr (Fr.of_below hb []) (fun _ _ h => by cases h)
theorem Live.drewN (h : Live w p bl room u fs) (q : Nat) : Live (w.drewN q) p bl room u fs := h.fr (Fr.drewN (Fr.refl w []) q) (fun _ _ h => by cases h)
theorem Live.grown {row : Option Nat} (h : Live w p bl room u fs) (hg : w.grownBy w' row) (hr : ∀ b, row = some b → b ∉ bl) : Live w' p bl room u fs :=
  h.fr (Fr.of_grown (bl := row.toList) hg (fun b hb => by rw [hb]; simp)) (fun b hb hm => by
    cases row with
    | none => simp at hm
    | some k => simp at hm; exact hr k rfl (by rw [← hm]; exact hb))
theorem Fam.fr {base : Nat} {ps : List VB} (h : Fam w base ps) (hf : Fr w w' bl) (ho : ∀ p ∈ ps, ∀ b, Value.ownBlock p.1 = some b → b ∉ bl) : Fam w' base ps := by
  refine ⟨fun p hp => ?_, h.2⟩
  obtain ⟨A, m, c, e, ho'⟩ := h.1 p hp
  exact ⟨A, m, c, e, ho'.fr hf (fun b hb => ho p hp b (by rw [e, own_blk]; exact hb))⟩
theorem of_name {rs : List FR} {f : FE} (e : rs.map FR.val = fs) (hf : f ∈ fs) : ∃ r ∈ rs, r.name = f.1 ∧ r.dat = f.2.1 ∧ r.saf = f.2.2 := by
  rw [← e] at hf
  obtain ⟨r, hr, rfl⟩ := List.mem_map.1 hf
  exact ⟨r, hr, rfl, rfl, rfl⟩
theorem len_of {rs : List FR} (e : rs.map FR.val = fs) : rs.length = fs.length := by rw [← e, List.length_map]
theorem New_live (n : Nat) (w : World) (hn : n ≤ 9223372036854775807) : Calls Tryz.prog 10 #[.int .i64 (n : Int)] w (RetNw w n) := by
  have fin : RetNw w n (.returned (.pointer (some ⟨w.heap.size, 0, none⟩))) (w.alloc (.cells (headV none (n : Int) 0 0 false false) 115)) :=
    ⟨w.heap.size, _, rfl, ⟨none, [], DskR.init w _, rfl, rfl, List.Pairwise.nil⟩, (fun b hb => by simp [allB] at hb; omega), (Below.refl _ _).alloc (Nat.le_refl _) _⟩
  have HF := Lib.hid fin
  clear fin
  have h3 : max (n : Int) 0 = n := by omega
  go_enter Tryz.func10, Tryz.ntmps10
  go_wp2
  go_ret
  exact HF.out
theorem append_live_new (x : List UInt8) (B : Option Addr) (n c : Nat) (ys : List UInt8) (h : Live w p bl room u fs) (hno : ∀ f ∈ fs, f.1 ≠ x) (hB : Rd w B n ys) (hBo : ∀ b, blk B = some b → b ∉ bl)
    (hf : u + n ≤ room) (hR : room ≤ 9223372036854775807) (hn : n ≤ 1099511627776) (hx : x.length ≤ 1099511627776) (hrs : fs.length ≤ 1099511627776) :
    Calls Tryz.prog 26 #[.pointer (some ⟨p, 0, none⟩), .string (tx x), .slice B n c] w (RetLv w p bl room (u + n) (putF (x, ys, 0) fs) (.int .i64 0)) := by
  obtain ⟨m, rs, h1, rfl, h3, h4⟩ := h
  have hu : rsUp rs := rsUp_of (by rw [h3]; exact h4)
  have hl := len_of h3
  refine (append_new x B n c ys u room h1 hu (fun r hr e => hno r.val (by rw [← h3]; exact List.mem_map.2 ⟨r, hr, rfl⟩) e) hB hBo hf hR hn hx (by omega) (by omega)).mono ?_
  rintro e w' ⟨rfl, r', m', hn', hd', hs', hD', hF', hB'⟩
  refine ⟨by simp [tE], _, ⟨m', _, hD', rfl, ?_, ?_⟩, hF', hB'⟩
  · rw [putR_val, h3]
    unfold FR.val
    rw [hn', hd', hs']
  · exact putF_up h4
theorem sync_live {f : FE} (h : Live w p bl room u fs) (hfm : f ∈ fs) (hx : f.1.length ≤ maxLen) :
    Calls Tryz.prog 124 #[.pointer (some ⟨p, 0, none⟩), .string (tx f.1)] w (RetLv w p bl room u (putF (f.1, f.2.1, f.2.1.length) fs) (.int .i64 0)) := by
  obtain ⟨m, rs, h1, rfl, h3, h4⟩ := h
  have hu : rsUp rs := rsUp_of (by rw [h3]; exact h4)
  obtain ⟨r, hr, e1, e2, e3⟩ := of_name h3 hfm
  rw [← e1, ← e2]
  refine (sync_some h1 hu hr (by rw [e1]; exact hx) (by omega) (by simp [tE])).mono ?_
  rintro e w' ⟨rfl, r', hn', hd', hs', hD', hF', hB'⟩
  refine ⟨rfl, _, ⟨m, _, hD', rfl, ?_, ?_⟩, hF', hB'⟩
  · rw [putR_val, h3]
    unfold FR.val
    rw [hn', hd', hs']
  · exact putF_up h4
theorem read_live {f : FE} (h : Live w p bl room u fs) (hfm : f ∈ fs) (hx : f.1.length ≤ maxLen) (hd : f.2.1.length ≤ 1099511627776) :
    Calls Tryz.prog 55 #[.pointer (some ⟨p, 0, none⟩), .string (tx f.1)] w (RetRd w f.2.1 0) := by
  obtain ⟨m, rs, h1, rfl, h3, h4⟩ := h
  obtain ⟨r, hr, e1, e2, e3⟩ := of_name h3 hfm
  have := read_some h1 hr (by rw [e1]; exact hx) (by rw [e2]; exact hd)
  rw [e1, e2] at this
  exact this
end
end Go.Proofs.YtbgelbdnkbhffaaGreat
namespace Go.Proofs.YtbgelbdnkbhffaaGreat
open Go Go.RowKit

theorem info_les : (Tryz.prog.info? 22).map (fun i => (i.zero, i.size, i.bytes)) = some (some (.slice none 0 0), 1, 24) := by kernel_rfl
/-- 'These slices read as these lists.' -/
def LsV (w : World) : List (List En) → List Value → Prop
  | [], vs => vs = []
  | es :: ls, vs => ∃ B m c r, vs = .slice B m c :: r ∧ REs w B m es ∧ m ≤ c ∧ LsV w ls r
theorem LsV.below {w w' : World} (hb : Below w.heap.size w w') : ∀ {ls : List (List En)} {vs : List Value}, LsV w ls vs → LsV w' ls vs
  | [], _, h => h
  | _ :: _, _, ⟨B, m, c, r, e, h1, h2, h3⟩ => ⟨B, m, c, r, e, h1.below hb, h2, LsV.below hb h3⟩
theorem LsV.snoc {w : World} {es : List En} {B : Option Addr} {m c : Nat} (hr : REs w B m es) (hc : m ≤ c) : ∀ {ls : List (List En)} {vs : List Value}, LsV w ls vs → LsV w (ls ++ [es]) (vs ++ [.slice B m c])
  | [], _, h => by rw [h]; exact ⟨B, m, c, [], rfl, hr, hc, rfl⟩
  | _ :: _, _, ⟨B', m', c', r, e, h1, h2, h3⟩ => ⟨B', m', c', _, by rw [e]; rfl, h1, h2, LsV.snoc hr hc h3⟩
theorem LsV.at_ {w : World} : ∀ {ls : List (List En)} {vs : List Value} (i : Nat) {es : List En}, LsV w ls vs → ls[i]? = some es → ∃ B m c, vs[i]? = some (.slice B m c) ∧ REs w B m es ∧ m ≤ c
  | [], _, i, _, _, h => by simp at h
  | _ :: _, _, 0, es, ⟨B, m, c, r, e, h1, h2, h3⟩, h => by
    injection h with h
    subst h
    exact ⟨B, m, c, by rw [e]; rfl, h1, h2⟩
  | _ :: _, _, i + 1, es, ⟨B, m, c, r, e, h1, h2, h3⟩, h => by
    obtain ⟨B', m', c', k1, k2, k3⟩ := LsV.at_ i h3 h
    exact ⟨B', m', c', by rw [e]; exact k1, k2, k3⟩
theorem LsV.rls {w : World} {A : Option Addr} {n : Nat} {ls : List (List En)} {vs : List Value} (h : LsV w ls vs) (hd : RdV w A n vs) (hl : ls.length = n) : RLs w A n ls := by
  refine ⟨hl, fun h0 => ?_⟩
  obtain ⟨b, off, e, hb, hc⟩ := hd.2 h0
  refine ⟨b, off, e, hb, fun i es hi => ?_⟩
  obtain ⟨B, m, c, k1, k2, k3⟩ := h.at_ i hi
  exact ⟨B, m, c, hc i _ k1, k2, k3⟩
/-- Lists that can be read. -/
def RetLs (w : World) (ls : List (List En)) (e : Ending) (w' : World) : Prop := ∃ L k d, e = .returned (.slice L k d) ∧ RLs w' L k ls ∧ k ≤ d ∧ Below w.heap.size w w'
theorem RetLs.out {w w' : World} {ls : List (List En)} {e : Ending} (h : RetLs w ls e w') : ∃ L k d, e = .returned (.slice L k d) ∧ RLs w' L k ls ∧ k ≤ d ∧ Below w.heap.size w w' := h
/-- 'So far made.' -/
def PkS (w : World) (ls : List (List En)) (L : Option Addr) (k d : Nat) (wr : World) : Prop :=
  ∃ vs, OwnV 22 wr w.heap.size L k d vs ∧ LsV w ls vs ∧ ls.length = k ∧ Below w.heap.size w wr
theorem PkS.bel {w wr : World} {ls : List (List En)} {L : Option Addr} {k d : Nat} (h : PkS w ls L k d wr) : Below w.heap.size w wr := by
  obtain ⟨vs, h1, h2, h3, h4⟩ := h
  exact h4
/-- 'These slices are lists of the call's own.' -/
def LsO (base : Nat) (w : World) : List (List En) → List Value → Prop
  | [], vs => vs = []
  | es :: ls, vs => ∃ B m c r us, vs = .slice B m c :: r ∧ OwnE w base B m c us ∧ EOs base w es us ∧ es.length = m ∧ LsO base w ls r
theorem LsO.below {base : Nat} {w w' : World} (hb : Below w.heap.size w w') : ∀ {ls : List (List En)} {vs : List Value}, LsO base w ls vs → LsO base w' ls vs
  | [], _, h => h
  | _ :: _, _, ⟨B, m, c, r, us, e, h1, h2, h3, h4⟩ => ⟨B, m, c, r, us, e, h1.below hb, h2.below hb, h3, LsO.below hb h4⟩
theorem LsO.kept {base b1 n c : Nat} {w w' : World} {L : Option Addr} {vs0 : List Value} (ho : OwnV 22 w b1 L n c vs0) (hg : w.grownBy w' (blk L)) : ∀ {ls : List (List En)} {vs : List Value}, LsO base w ls vs → LsO base w' ls vs
  | [], _, h => h
  | _ :: _, _, ⟨B, m, c, r, us, e, h1, h2, h3, h4⟩ => ⟨B, m, c, r, us, e, ownE_kept h1 hg (fun b hb e => row_ne ho h1 (by decide) b e hb), EOs.kept hg h2 (eos_off ho (by decide) h2), h3, LsO.kept ho hg h4⟩
theorem LsO.snoc {base : Nat} {w : World} {es : List En} {B : Option Addr} {m c : Nat} {us : List Value} (hr : OwnE w base B m c us) (he : EOs base w es us) (hl : es.length = m) : ∀ {ls : List (List En)} {vs : List Value}, LsO base w ls vs → LsO base w (ls ++ [es]) (vs ++ [.slice B m c])
  | [], _, h => by rw [h]; exact ⟨B, m, c, [], us, rfl, hr, he, hl, rfl⟩
  | _ :: _, _, ⟨B', m', c', r, us', e, h1, h2, h3, h4⟩ => ⟨B', m', c', _, us', by rw [e]; rfl, h1, h2, h3, LsO.snoc hr he hl h4⟩
theorem LsO.lsv {base : Nat} {w : World} : ∀ {ls : List (List En)} {vs : List Value}, LsO base w ls vs → LsV w ls vs
  | [], _, h => h
  | _ :: _, _, ⟨B, m, c, r, _, e, h1, h2, h3, h4⟩ => ⟨B, m, c, r, e, REs.mk h2.evs h1.rd h3, h1.cap.1, LsO.lsv h4⟩
end Go.Proofs.YtbgelbdnkbhffaaGreat
namespace Go.Proofs.YtbgelbdnkbhffaaGreat
open Go Go.RowKit

/-- Entries in memory of their own. -/
def OwEs (base : Nat) (w : World) (L : Option Addr) (ln d : Nat) (es : List En) : Prop := ∃ vs, OwnE w base L ln d vs ∧ EOs base w es vs
theorem OwEs.below {base : Nat} {w w' : World} {L : Option Addr} {ln d : Nat} {es : List En} (h : OwEs base w L ln d es) (hb : Below w.heap.size w w') : OwEs base w' L ln d es := by
  obtain ⟨vs, h1, h2⟩ := h
  exact ⟨vs, h1.below hb, h2.below hb⟩
/-- Entries that can be read, and a kind. -/
def RetDr (w : World) (r : List En × Int) (e : Ending) (w' : World) : Prop :=
  ∃ L ln d, e = .returned (.tuple #[.slice L ln d, .int .i64 r.2]) ∧ REs w' L ln r.1 ∧ ln ≤ d ∧ ln ≤ 1073741824 ∧ (∀ x ∈ r.1, SzE x) ∧ Below w.heap.size w w' ∧ OwEs w.heap.size w' L ln d r.1
theorem RetDr.no {w w' : World} {r : List En × Int} {k : Int} (h : r = ([], k)) (hb : Below w.heap.size w w') : RetDr w r (.returned (.tuple #[.slice none 0 0, .int .i64 k])) w' := by
  subst h
  exact ⟨none, 0, 0, rfl, REs.nil _ _, Nat.le_refl _, by omega, (fun x hx => by cases hx), hb, [], OwnE.nil _ _, rfl⟩
end Go.Proofs.YtbgelbdnkbhffaaGreat
namespace Go.Proofs.YtbgelbdnkbhffaaGreat
open Go Go.RowKit

set_option maxRecDepth 100000 in
set_option maxHeartbeats 4000000 in
theorem tbInOrder_any {w : World} {A : Option Addr} {n c : Nat} {es : List En} (h : REs w A n es) (hn : n ≤ 1099511627776) : Calls Tryz.prog 66 #[.slice A n c] w (RetT w (ordE es)) := by
  have HL := Lib.hid h.len
  have HR := Lib.hid h
  clear h
  go_enter Tryz.func66, Tryz.ntmps66
  go_wp2_with fail
  go_loopw [3] (fun s3 wr => ∃ i : Nat, (i < n ∨ i = 0) ∧ s3 = .int .i64 ((i + 1 : Nat) : Int) ∧ ordK es i = true ∧ Below w.heap.size w wr) (fun s _ => n + 1 - (intOf s).toNat)
  case atStart => exact ⟨0, .inr rfl, rfl, rfl, Below.refl _ _⟩
  case round =>
    obtain ⟨i, hi, rfl, ho, hB⟩ := hrel
    have HB := Lib.hid hB
    have HO := Lib.hid ho
    have hR := HR.out.below hB
    clear hB ho
    obtain ⟨k, hk⟩ : ∃ k, k = i + 1 := ⟨_, rfl⟩
    rw [← hk]
    by_cases hlt : k < n
    · obtain ⟨b, off, hAb, hbl⟩ := hR.pos (by omega)
      subst hAb
      obtain ⟨x, v0, v1, v2, v3, hx, c0, c1, c2, c3, hev⟩ := hR.at_ i (by omega)
      obtain ⟨y, u0, u1, u2, u3, hy, d0, d1, d2, d3, hew⟩ := hR.at_ k hlt
      have HL1 : Hid (∀ wx, Below wr.heap.size wr wx → Calls Tryz.prog 137 #[.agg #[v0, v1, v2, v3], .agg #[u0, u1, u2, u3]] wx (RetT wx (lessE x y))) := Lib.hid (fun wx hb => memLess_any (hev.below hb) (hew.below hb))
      have HSX : Hid (∀ wx, Below wr.heap.size wr wx → wx.cell? ⟨b, off + i * 4, none⟩ = some v0 ∧ wx.cell? ⟨b, off + i * 4 + 1, none⟩ = some v1 ∧ wx.cell? ⟨b, off + i * 4 + 2, none⟩ = some v2 ∧ wx.cell? ⟨b, off + i * 4 + 3, none⟩ = some v3 ∧ wx.cell? ⟨b, off + k * 4, none⟩ = some u0 ∧ wx.cell? ⟨b, off + k * 4 + 1, none⟩ = some u1 ∧ wx.cell? ⟨b, off + k * 4 + 2, none⟩ = some u2 ∧ wx.cell? ⟨b, off + k * 4 + 3, none⟩ = some u3) := Lib.hid (fun wx h =>
        ⟨(h.cell (p := ⟨b, off + i * 4, none⟩) hbl).trans c0, (h.cell (p := ⟨b, off + i * 4 + 1, none⟩) hbl).trans c1, (h.cell (p := ⟨b, off + i * 4 + 2, none⟩) hbl).trans c2, (h.cell (p := ⟨b, off + i * 4 + 3, none⟩) hbl).trans c3, (h.cell (p := ⟨b, off + k * 4, none⟩) hbl).trans d0, (h.cell (p := ⟨b, off + k * 4 + 1, none⟩) hbl).trans d1, (h.cell (p := ⟨b, off + k * 4 + 2, none⟩) hbl).trans d2, (h.cell (p := ⟨b, off + k * 4 + 3, none⟩) hbl).trans d3⟩)
      have hB0 : Below wr.heap.size wr wr.drew := (Below.refl _ _).drew
      have hk1 : IntKind.i64.wrap ((k : Int) - 1) = (i : Int) := by rw [IntWalk.i64_in _ (by omega)]; omega
      have hin : i < n := by omega
      have HST : Hid (ordK es k = (ordK es i && lessE x y)) := Lib.hid (by rw [hk]; exact ordK_step hx (by rw [← hk]; exact hy))
      have HKI := Lib.hid hk
      obtain ⟨z, hz⟩ : ∃ z, z = lessE x y := ⟨_, rfl⟩
      rw [← hz] at HL1 HST
      clear hR hx hev hy hew hz hk
      cases z with
      | true =>
        go_wp2_with fail
        go_region_held3 (fun wx => wx.cell? ⟨b, off + i * 4, none⟩ = some v0 ∧ wx.cell? ⟨b, off + i * 4 + 1, none⟩ = some v1 ∧ wx.cell? ⟨b, off + i * 4 + 2, none⟩ = some v2 ∧ wx.cell? ⟨b, off + i * 4 + 3, none⟩ = some v3 ∧ wx.cell? ⟨b, off + k * 4, none⟩ = some u0 ∧ wx.cell? ⟨b, off + k * 4 + 1, none⟩ = some u1 ∧ wx.cell? ⟨b, off + k * 4 + 2, none⟩ = some u2 ∧ wx.cell? ⟨b, off + k * 4 + 3, none⟩ = some u3) (first | assumption | exact HSX.out _ hB0)
          (first | (go_at_call 137; with_reducible refine (HL1.out _ (by assumption)).mono ?_; intro e1 wn hq; obtain ⟨h1, bn⟩ := RetT.outD hq; subst h1; have bn' := belowT' (by assumption : Below wr.heap.size wr _) bn; have hS1 := HSX.out _ bn'))
        all_goals
          have HBN : Hid (Below w.heap.size w _) := Lib.hid (HB.out.trans ((by assumption : Below wr.heap.size wr wn).mono HB.out.size))
          go_wp2_with fail
          go_roundw
          case rel => exact ⟨k, .inl hlt, by go_num, by rw [HST.out, HO.out]; rfl, HBN.out⟩
          case measure => simp [intOf]; omega
      | false =>
        go_wp2_with fail
        go_region_held3 (fun wx => wx.cell? ⟨b, off + i * 4, none⟩ = some v0 ∧ wx.cell? ⟨b, off + i * 4 + 1, none⟩ = some v1 ∧ wx.cell? ⟨b, off + i * 4 + 2, none⟩ = some v2 ∧ wx.cell? ⟨b, off + i * 4 + 3, none⟩ = some v3 ∧ wx.cell? ⟨b, off + k * 4, none⟩ = some u0 ∧ wx.cell? ⟨b, off + k * 4 + 1, none⟩ = some u1 ∧ wx.cell? ⟨b, off + k * 4 + 2, none⟩ = some u2 ∧ wx.cell? ⟨b, off + k * 4 + 3, none⟩ = some u3) (first | assumption | exact HSX.out _ hB0)
          (first | (go_at_call 137; with_reducible refine (HL1.out _ (by assumption)).mono ?_; intro e1 wn hq; obtain ⟨h1, bn⟩ := RetT.outD hq; subst h1; have bn' := belowT' (by assumption : Below wr.heap.size wr _) bn; have hS1 := HSX.out _ bn'))
        all_goals
          have HBN : Hid (Below w.heap.size w _) := Lib.hid (HB.out.trans ((by assumption : Below wr.heap.size wr wn).mono HB.out.size))
          have HFIN : Hid (ordE es = false) := Lib.hid (by
            have h1 := HST.out
            rw [Bool.and_false] at h1
            exact ordK_false h1 _ (by rw [HL.out]; omega))
          go_wp2_with fail
          go_ret
          exact ⟨by rw [HFIN.out]; rfl, HBN.out⟩
    · have HFIN : Hid (ordE es = true) := Lib.hid (by
        have h1 := HO.out
        unfold ordE
        rw [HL.out]
        obtain rfl : n - 1 = i := by omega
        exact h1)
      go_wp2_with fail
      go_ret
      exact ⟨by rw [HFIN.out]; rfl, HB.out⟩

theorem cut4_lh {P : Program} {t e : TypeId} (ht : P.underlying t = some (.slice e)) (he : P.elem t = e) (hs : ∀ w, (sizeOf e).run P w = .ok 4 w)
    (A : Option Addr) {n cap k m : Nat} (hk : k ≤ m) (hm : m ≤ cap) (w : World) :
    (Instr.slice t (.slice A n cap) (some (.int .i64 (k : Int))) (some (.int .i64 (m : Int))) none).run P w = .ok (.slice (cutA4 A k cap) (m - k) (cap - k)) w := by
  subst he
  rw [run_slice_lh w t A n cap ht .i64 .i64 (k : Int) (m : Int) (by omega) (by omega) (by omega)]
  simp only [hs, Result.andThen, sliced, Int.toNat_natCast, cutA4]
/-- A part of the entries. -/
theorem REs.part {w : World} {A : Option Addr} {n k m cap : Nat} {es : List En} (h : REs w A n es) (hk : k ≤ m) (hm : m ≤ n) (hc : n ≤ cap) : REs w (cutA4 A k cap) (m - k) ((es.take m).drop k) := by
  obtain ⟨h1, vs, h2, h3⟩ := h
  exact REs.mk (EVs.drop k (EVs.take m h2)) (rdv_cut4 h3 hk hm hc) (by rw [List.length_drop, List.length_take]; omega)

theorem cutA4_pos {bl off k c : Nat} (h : k < c) : cutA4 (some ⟨bl, off, none⟩) k c = some ⟨bl, off + k * 4, none⟩ := by
  unfold cutA4
  rw [if_neg (by omega)]
  simp only [Option.map_some]
  unfold Addr.add
  split
  · next h0 => rw [h0]; rfl
  · rfl
/-- What 'cut' has behind i entries: the groups, where the next one begins, its bytes so far. -/
def cutS (size : Int) (es : List En) : Nat → List (List En) × Nat × Nat
  | 0 => ([], 0, 0)
  | i + 1 => match es[i]? with
    | none => cutS size es i
    | some x => if size ≤ (((cutS size es i).2.2 + wE x : Nat) : Int) then ((cutS size es i).1 ++ [(es.take (i + 1)).drop (cutS size es i).2.1], i + 1, 0) else ((cutS size es i).1, (cutS size es i).2.1, (cutS size es i).2.2 + wE x)
def grpE (size : Int) (es : List En) : List (List En) :=
  if (cutS size es es.length).2.1 < es.length then (cutS size es es.length).1 ++ [es.drop (cutS size es es.length).2.1] else (cutS size es es.length).1
theorem cutS_yes {size : Int} {es : List En} {i b s : Nat} {g : List (List En)} {x : En} (h : cutS size es i = (g, b, s)) (hx : es[i]? = some x) (hs : size ≤ ((s + wE x : Nat) : Int)) : cutS size es (i + 1) = (g ++ [(es.take (i + 1)).drop b], i + 1, 0) := by
  rw [cutS, hx, h]
  exact if_pos hs
theorem cutS_no {size : Int} {es : List En} {i b s : Nat} {g : List (List En)} {x : En} (h : cutS size es i = (g, b, s)) (hx : es[i]? = some x) (hs : ¬ size ≤ ((s + wE x : Nat) : Int)) : cutS size es (i + 1) = (g, b, s + wE x) := by
  rw [cutS, hx, h]
  exact if_neg hs
theorem totE_snoc {es : List En} {i : Nat} {x : En} (h : es[i]? = some x) : totE (es.take (i + 1)) = totE (es.take i) + (wE x + 1) := by
  rw [List.take_add_one, h, totE_app]
  rfl

set_option maxRecDepth 100000 in
set_option maxHeartbeats 8000000 in
theorem tbCut_any {w : World} {A : Option Addr} {n c : Nat} {es : List En} (size : Int) (h : REs w A n es) (hn : n ≤ 1099511627776) (hc : n ≤ c) (ht : totE es ≤ 1099511627776) :
    Calls Tryz.prog 121 #[.int .i64 size, .slice A n c] w (RetLs w (grpE size es)) := by
  have HL := Lib.hid h.len
  have HR := Lib.hid h
  have HT := Lib.hid ht
  have HLH : Hid (∀ k m, k ≤ m → m ≤ n → ∀ w, (Instr.slice 22 (.slice A n c) (some (.int .i64 (k : Int))) (some (.int .i64 (m : Int))) none).run Tryz.prog w = .ok (.slice (cutA4 A k c) (m - k) (c - k)) w) := Lib.hid (fun k m h1 h2 w => cut4_lh (P := Tryz.prog) Tryz.underlying22 elem4 size4 A h1 (by omega) w)
  have HLO : Hid (∀ k, k ≤ n → ∀ w, (Instr.slice 22 (.slice A n c) (some (.int .i64 (k : Int))) none none).run Tryz.prog w = .ok (.slice (cutA4 A k c) (n - k) (c - k)) w) := Lib.hid (fun k h1 w => cut4_l (P := Tryz.prog) Tryz.underlying22 elem4 size4 A h1 w)
  clear h ht
  go_enter Tryz.func121, Tryz.ntmps121
  go_wp2_with fail
  go_loopw [5, 6, 7, 12] (fun s5 s6 s7 s12 wr => ∃ (k m d b s : Nat) (L : Option Addr) (g : List (List En)), k ≤ n ∧ b ≤ k ∧ s12 = .int .i64 (k : Int) ∧ s5 = .slice L m d ∧ s6 = .int .i64 (b : Int) ∧ s7 = .int .i64 (s : Int) ∧ m ≤ k ∧ s ≤ totE (es.take k) ∧ cutS size es k = (g, b, s) ∧ PkS w g L m d wr) (fun _ _ _ s _ => n - (intOf s).toNat)
  case atStart => exact ⟨0, 0, 0, 0, 0, none, [], Nat.zero_le _, Nat.zero_le _, rfl, rfl, rfl, rfl, Nat.le_refl _, Nat.zero_le _, rfl, [], OwnV.nil _ _ _, rfl, rfl, Below.refl _ _⟩
  case round =>
    obtain ⟨k, m, d, b, s, L, g, hk, hbk, rfl, rfl, rfl, rfl, hmk, hsT, hC, hP⟩ := hrel
    have HP := Lib.hid hP
    have HB := Lib.hid hP.bel
    have HC := Lib.hid hC
    have HST := Lib.hid hsT
    clear hP hC hsT
    by_cases hlt : k < n
    · obtain ⟨bl, off, hAb, hbl⟩ := HR.out.pos (by omega)
      subst hAb
      obtain ⟨x, v0, v1, v2, v3, hx, c0, c1, c2, c3, hev⟩ := HR.out.at_ k hlt
      obtain ⟨K, kn, kc, V, vn, vc, rfl, rfl, rfl, rfl, hrk, hrv, _⟩ := hev.parts
      have hwE : wE x = kn + vn := by unfold wE; rw [hrk.len, hrv.len]
      have hTS := totE_snoc hx
      have hTL := totE_take es (k + 1)
      obtain ⟨s2, hs2⟩ : ∃ s2, s2 = s + wE x := ⟨_, rfl⟩
      have hs2T : s2 ≤ totE (es.take (k + 1)) := by have := HST.out; omega
      have hs2B : s2 ≤ 1099511627776 := by have := HT.out; omega
      have hw1 : IntKind.i64.wrap ((kn : Int) + (vn : Int)) = (kn : Int) + (vn : Int) := IntWalk.i64_in _ (by omega)
      have hw2 : IntKind.i64.wrap ((s : Int) + ((kn : Int) + (vn : Int))) = (s2 : Int) := by rw [IntWalk.i64_in _ (by omega)]; omega
      have HX := Lib.hid hx
      have HS2 := Lib.hid hs2
      have HS2T := Lib.hid hs2T
      obtain ⟨U0, hU⟩ : ∃ U0, U0 = wr.alloc (.cells #[.slice K kn kc, .int .u64 (x.seq : Int), .int .u8 (x.kind : Int), .slice V vn vc] 49) := ⟨_, rfl⟩
      obtain ⟨g0, hg0⟩ : ∃ g0, g0 = wr.heap.size := ⟨_, rfl⟩
      have bU : Below wr.heap.size wr U0 := by rw [hU]; exact (Below.refl _ _).alloc (Nat.le_refl _) _
      have zU : Cl U0 g0 #[.slice K kn kc, .int .u64 (x.seq : Int), .int .u8 (x.kind : Int), .slice V vn vc] 49 := by rw [hU, hg0]; exact Cl.new _ _ _
      obtain ⟨z0, z1, z2, z3, _⟩ := zU.c4
      have hB := HB.out
      have d0 := (hB.cell (p := ⟨bl, off + k * 4, none⟩) hbl).trans c0
      have d1 := (hB.cell (p := ⟨bl, off + k * 4 + 1, none⟩) hbl).trans c1
      have d2 := (hB.cell (p := ⟨bl, off + k * 4 + 2, none⟩) hbl).trans c2
      have d3 := (hB.cell (p := ⟨bl, off + k * 4 + 3, none⟩) hbl).trans c3
      have HU := Lib.hid hU
      have HG := Lib.hid hg0
      have HBU := Lib.hid bU
      clear hx c0 c1 c2 c3 hev hrk hrv hwE hTS hTL hs2 hs2T hU hg0 bU zU hB
      go_upto_region 6 with (fail)
      rw [← HU.out, ← HG.out]
      clear d0 d1 d2 d3
      by_cases hge : size ≤ (s2 : Int)
      · have HCS : Hid (cutS size es (k + 1) = (g ++ [(es.take (k + 1)).drop b], k + 1, 0)) := Lib.hid (cutS_yes HC.out HX.out (by rw [← HS2.out]; exact hge))
        have HRP : Hid (REs w (some ⟨bl, off + b * 4, none⟩) (k + 1 - b) ((es.take (k + 1)).drop b)) := Lib.hid (by rw [← cutA4_pos (c := c) (by omega)]; exact HR.out.part (by omega) (by omega) hc)
        have hm2e : k + 1 - b ≤ c - b := by omega
        obtain ⟨vs, o1, hv1, hl1, hb1⟩ := HP.out
        obtain ⟨W1, hW1⟩ : ∃ W1, W1 = U0.alloc (.cells #[.slice (some ⟨bl, off + b * 4, none⟩) (k + 1 - b) (c - b)] 22) := ⟨_, rfl⟩
        have bW1 : Below wr.heap.size wr W1 := belowT HBU.out (by rw [hW1]; exact (Below.refl _ _).alloc (Nat.le_refl _) _)
        have O1 := Lib.hid (OwnV.below o1 bW1)
        have HV1 := Lib.hid hv1
        have HL1 := Lib.hid hl1
        have HBA := Lib.hid (hb1.trans (bW1.mono hb1.size))
        have HRD : Hid (RdV W1 (some ⟨U0.heap.size, 0, none⟩) 1 [.slice (some ⟨bl, off + b * 4, none⟩) (k + 1 - b) (c - b)]) := Lib.hid (by rw [hW1]; exact OwnV.rd (ownV_box2 U0 22 U0.heap.size [.slice (some ⟨bl, off + b * 4, none⟩) (k + 1 - b) (c - b)] 1 rfl (by omega) (Nat.le_refl _) _ rfl))
        have hone : ∀ u ∈ [Value.slice (some ⟨bl, off + b * 4, none⟩) (k + 1 - b) (c - b)], u.oneCell' = true := by intro u hu; rw [List.mem_singleton] at hu; rw [hu]; rfl
        have HON := Lib.hid hone
        have HW1 := Lib.hid hW1
        obtain ⟨u1, hu1⟩ : ∃ u1, u1 = U0.heap.size := ⟨_, rfl⟩
        rw [← hu1] at HRD
        have HU1 := Lib.hid hu1
        clear o1 hv1 hl1 hb1 hone hW1 bW1 hu1
        go_wp2_with (at_builtin; rw [← HW1.out, ← HU1.out]; refine wpList_appV W1 rfl _ _ 125 rfl w.heap.size 22 (.slice none 0 0) 24 Tryz.underlying125 info_les rfl L m d vs rfl O1.out (some ⟨u1, 0, none⟩) 1 1 [.slice (some ⟨bl, off + b * 4, none⟩) (k + 1 - b) (c - b)] rfl HRD.out HON.out ?_ ?_ ?_ ?_)
        · unfold maxLen; omega
        · omega
        · exact HBA.out.size
        intro L2 d2 w3 o2 hg2 _
        have HP3 : Hid (PkS w (g ++ [(es.take (k + 1)).drop b]) L2 (m + 1) d2 w3) := Lib.hid (⟨_, o2, LsV.snoc HRP.out hm2e HV1.out, by rw [List.length_append, HL1.out]; rfl, HBA.out.grown hg2 HBA.out.size (fun g hg => (OwnV.lt O1.out g hg).1)⟩)
        clear o2 hg2
        go_wp2_with fail
        go_roundw
        case rel => exact ⟨k + 1, m + 1, d2, k + 1, 0, L2, _, by omega, Nat.le_refl _, by go_num, rfl, by go_num, rfl, by omega, Nat.zero_le _, HCS.out, HP3.out⟩
        case measure => simp [intOf]; omega
      · have HCS : Hid (cutS size es (k + 1) = (g, b, s2)) := Lib.hid (by rw [HS2.out]; exact cutS_no HC.out HX.out (by rw [← HS2.out]; exact hge))
        obtain ⟨vs, o1, hv1, hl1, hb1⟩ := HP.out
        have HP3 : Hid (PkS w g L m d U0) := Lib.hid ⟨vs, o1.below HBU.out, hv1, hl1, hb1.trans (HBU.out.mono hb1.size)⟩
        clear o1 hv1 hl1 hb1
        go_wp2_with fail
        go_roundw
        case rel => exact ⟨k + 1, m, d, b, s2, L, g, by omega, by omega, by go_num, rfl, rfl, rfl, by omega, HS2T.out, HCS.out, HP3.out⟩
        case measure => simp [intOf]; omega
    · have hkn : k = n := by omega
      have HCN : Hid (cutS size es es.length = (g, b, s)) := Lib.hid (by rw [HL.out, ← hkn]; exact HC.out)
      have hB := HB.out
      by_cases hbn : b < n
      · have hF : grpE size es = g ++ [es.drop b] := by
          unfold grpE
          rw [HCN.out, HL.out]
          exact if_pos hbn
        have HF0 := Lib.hid hF
        obtain ⟨bl, off, hAb, hbl⟩ := HR.out.pos (by omega)
        subst hAb
        have HRP : Hid (REs w (some ⟨bl, off + b * 4, none⟩) (n - b) (es.drop b)) := Lib.hid (by
          have := HR.out.part (k := b) (m := n) (by omega) (Nat.le_refl _) hc
          rw [List.take_of_length_le (by have := HL.out; omega), cutA4_pos (by omega)] at this
          exact this)
        have hm2e : n - b ≤ c - b := by omega
        obtain ⟨vs, o1, hv1, hl1, hb1⟩ := HP.out
        obtain ⟨W1, hW1⟩ : ∃ W1, W1 = wr.alloc (.cells #[.slice (some ⟨bl, off + b * 4, none⟩) (n - b) (c - b)] 22) := ⟨_, rfl⟩
        have bW1 : Below wr.heap.size wr W1 := by rw [hW1]; exact (Below.refl _ _).alloc (Nat.le_refl _) _
        have O1 := Lib.hid (OwnV.below o1 bW1)
        have HV1 := Lib.hid hv1
        have HL1 := Lib.hid hl1
        have HBA := Lib.hid (hb1.trans (bW1.mono hb1.size))
        have HRD : Hid (RdV W1 (some ⟨wr.heap.size, 0, none⟩) 1 [.slice (some ⟨bl, off + b * 4, none⟩) (n - b) (c - b)]) := Lib.hid (by rw [hW1]; exact OwnV.rd (ownV_box2 wr 22 wr.heap.size [.slice (some ⟨bl, off + b * 4, none⟩) (n - b) (c - b)] 1 rfl (by omega) (Nat.le_refl _) _ rfl))
        have hone : ∀ u ∈ [Value.slice (some ⟨bl, off + b * 4, none⟩) (n - b) (c - b)], u.oneCell' = true := by intro u hu; rw [List.mem_singleton] at hu; rw [hu]; rfl
        have HON := Lib.hid hone
        have HW1 := Lib.hid hW1
        obtain ⟨u1, hu1⟩ : ∃ u1, u1 = wr.heap.size := ⟨_, rfl⟩
        rw [← hu1] at HRD
        have HU1 := Lib.hid hu1
        clear o1 hv1 hl1 hb1 hone hW1 bW1 hu1 hF hB
        go_wp2_with (at_builtin; rw [← HW1.out, ← HU1.out]; refine wpList_appV W1 rfl _ _ 125 rfl w.heap.size 22 (.slice none 0 0) 24 Tryz.underlying125 info_les rfl L m d vs rfl O1.out (some ⟨u1, 0, none⟩) 1 1 [.slice (some ⟨bl, off + b * 4, none⟩) (n - b) (c - b)] rfl HRD.out HON.out ?_ ?_ ?_ ?_)
        · unfold maxLen; omega
        · omega
        · exact HBA.out.size
        intro L2 d2 w3 o2 hg2 _
        have HF : Hid (RetLs w (grpE size es) (.returned (.slice L2 (m + 1) d2)) w3) := Lib.hid (by
          have hb3 := HBA.out.grown hg2 HBA.out.size (fun g hg => (OwnV.lt O1.out g hg).1)
          rw [HF0.out]
          exact ⟨L2, m + 1, d2, rfl, LsV.rls ((LsV.snoc HRP.out hm2e HV1.out).below hb3) o2.rd (by rw [List.length_append, HL1.out]; rfl), o2.cap.1, hb3⟩)
        clear o2 hg2
        go_wp2_with fail
        go_ret
        exact HF.out
      · have hF : grpE size es = g := by
          unfold grpE
          rw [HCN.out, HL.out]
          exact if_neg hbn
        obtain ⟨vs, o1, hv1, hl1, hb1⟩ := HP.out
        have HF : Hid (RetLs w (grpE size es) (.returned (.slice L m d)) wr) := Lib.hid ⟨L, m, d, rfl, by rw [hF]; exact LsV.rls (hv1.below hb1) o1.rd hl1, o1.cap.1, hb1⟩
        clear o1 hv1 hl1 hb1 hF hB
        go_wp2_with fail
        go_ret
        exact HF.out
end Go.Proofs.YtbgelbdnkbhffaaGreat
namespace Go.Proofs.YtbgelbdnkbhffaaGreat
open Go Go.RowKit

/-- The bytes of a group's block. -/
def b4E (es : List En) : List UInt8 := (buildE 4 es).1
def keysL (ls : List (List En)) : List (List UInt8) := ls.flatten.map (·.key)
/-- The error that the blocks' loop ends with. -/
def slE : List (List En) → Nat → Int
  | [], _ => 0
  | es :: t, s => if (buildE 4 es).2 ≠ 0 then (buildE 4 es).2 else if 1048576 < s + (b4E es).length then 2 else slE t (s + (b4E es).length)
def filB (ls : List (List En)) : List UInt8 := filterB 10 (compB (keysL ls))
def sealT (ls : List (List En)) : List UInt8 × Int := if slE ls 0 ≠ 0 then ([], slE ls 0) else sealG (frameB [frameB (ls.map b4E), filB ls])
theorem slE_bad {ls : List (List En)} {k s : Nat} {es : List En} (h : ls[k]? = some es) (hb : (buildE 4 es).2 ≠ 0) : slE (ls.drop k) s = (buildE 4 es).2 := by
  rw [List.drop_eq_getElem?_toList_append, h]
  simp only [Option.toList_some, List.singleton_append, slE]
  rw [if_pos hb]
theorem slE_big {ls : List (List En)} {k s : Nat} {es : List En} (h : ls[k]? = some es) (hb : (buildE 4 es).2 = 0) (hs : 1048576 < s + (b4E es).length) : slE (ls.drop k) s = 2 := by
  rw [List.drop_eq_getElem?_toList_append, h]
  simp only [Option.toList_some, List.singleton_append, slE]
  rw [if_neg (fun h => h hb), if_pos hs]
theorem slE_on {ls : List (List En)} {k s : Nat} {es : List En} (h : ls[k]? = some es) (hb : (buildE 4 es).2 = 0) (hs : ¬ 1048576 < s + (b4E es).length) : slE (ls.drop k) s = slE (ls.drop (k + 1)) (s + (b4E es).length) := by
  rw [List.drop_eq_getElem?_toList_append, h]
  simp only [Option.toList_some, List.singleton_append, slE]
  rw [if_neg (fun h => h hb), if_neg hs]
theorem keysL_step {ls : List (List En)} {k : Nat} {es : List En} (h : ls[k]? = some es) : keysL (ls.take (k + 1)) = keysL (ls.take k) ++ es.map (·.key) := by
  unfold keysL
  rw [List.take_add_one, h]
  simp
theorem b4_step {ls : List (List En)} {k : Nat} {es : List En} (h : ls[k]? = some es) : (ls.take (k + 1)).map b4E = (ls.take k).map b4E ++ [b4E es] := by
  rw [List.take_add_one, h]
  simp
theorem key_step {es : List En} {k : Nat} {x : En} (h : es[k]? = some x) : (es.take (k + 1)).map (·.key) = (es.take k).map (·.key) ++ [x.key] := by
  rw [List.take_add_one, h]
  simp

/-- The blocks made so far, each in memory of its own. -/
def BlO (base : Nat) (w : World) (bss : List (List UInt8)) (bvs : List Value) : Prop := bvs.length = bss.length ∧ ∀ (i : Nat) v x, bvs[i]? = some v → bss[i]? = some x → ∃ A n c, v = .slice A n c ∧ Own 5 w base A n c x
/-- The keys found so far, read where the entries are. -/
def KyO (w0 : World) (kss : List (List UInt8)) (kvs : List Value) : Prop := kvs.length = kss.length ∧ ∀ (i : Nat) v x, kvs[i]? = some v → kss[i]? = some x → ElB w0 v x
theorem at_snoc {α : Type} {l : List α} {a b : α} {i : Nat} (h : (l ++ [a])[i]? = some b) : (i < l.length ∧ l[i]? = some b) ∨ (i = l.length ∧ b = a) := by
  rcases Nat.lt_or_ge i l.length with h1 | h1
  · rw [List.getElem?_append_left h1] at h
    exact .inl ⟨h1, h⟩
  · rw [List.getElem?_append_right h1] at h
    obtain ⟨h2, h3⟩ := List.getElem?_eq_some_iff.1 h
    simp at h2
    exact .inr ⟨by omega, by rw [← h3]; simp⟩
theorem BlO.snoc {base : Nat} {w : World} {bss : List (List UInt8)} {bvs : List Value} (h : BlO base w bss bvs) {A : Option Addr} {n c : Nat} {x : List UInt8} (ho : Own 5 w base A n c x) : BlO base w (bss ++ [x]) (bvs ++ [.slice A n c]) := by
  refine ⟨by rw [List.length_append, List.length_append, h.1]; rfl, fun i v y hv hy => ?_⟩
  rcases at_snoc hv with ⟨h1, h2⟩ | ⟨h1, h2⟩
  · rcases at_snoc hy with ⟨h3, h4⟩ | ⟨h3, h4⟩
    · exact h.2 i v y h2 h4
    · have := h.1; omega
  · rcases at_snoc hy with ⟨h3, h4⟩ | ⟨h3, h4⟩
    · have := h.1; omega
    · subst h2 h4
      exact ⟨A, n, c, rfl, ho⟩
theorem KyO.snoc {w0 : World} {kss : List (List UInt8)} {kvs : List Value} (h : KyO w0 kss kvs) {v : Value} {x : List UInt8} (hx : ElB w0 v x) : KyO w0 (kss ++ [x]) (kvs ++ [v]) := by
  refine ⟨by rw [List.length_append, List.length_append, h.1]; rfl, fun i u y hv hy => ?_⟩
  rcases at_snoc hv with ⟨h1, h2⟩ | ⟨h1, h2⟩
  · rcases at_snoc hy with ⟨h3, h4⟩ | ⟨h3, h4⟩
    · exact h.2 i u y h2 h4
    · have := h.1; omega
  · rcases at_snoc hy with ⟨h3, h4⟩ | ⟨h3, h4⟩
    · have := h.1; omega
    · subst h2 h4
      exact hx
/-- What stands in the loop over the groups. -/
def SlS (w0 : World) (B : Option Addr) (m d : Nat) (bss : List (List UInt8)) (G : Option Addr) (gm gd : Nat) (kss : List (List UInt8)) (wr : World) : Prop :=
  ∃ bvs kvs, OwnV 29 wr w0.heap.size B m d bvs ∧ OwnV 29 wr w0.heap.size G gm gd kvs ∧ Dj B G ∧ BlO w0.heap.size wr bss bvs ∧ KyO w0 kss kvs ∧ Below w0.heap.size w0 wr
theorem SlS.bel {w0 : World} {B : Option Addr} {m d : Nat} {bss : List (List UInt8)} {G : Option Addr} {gm gd : Nat} {kss : List (List UInt8)} {wr : World} (h : SlS w0 B m d bss G gm gd kss wr) : Below w0.heap.size w0 wr := by
  obtain ⟨bvs, kvs, h1, h2, h3, h4, h5, h6⟩ := h
  exact h6
theorem BlO.below {base : Nat} {w w' : World} {bss : List (List UInt8)} {bvs : List Value} (h : BlO base w bss bvs) (hb : Below w.heap.size w w') : BlO base w' bss bvs :=
  ⟨h.1, fun i v x hv hx => by
    obtain ⟨A, n, c, e, ho⟩ := h.2 i v x hv hx
    exact ⟨A, n, c, e, ho.below hb⟩⟩
theorem BlO.kept {base : Nat} {w w' : World} {bss : List (List UInt8)} {bvs : List Value} (h : BlO base w bss bvs) {L : Option Addr} {b1 n c : Nat} {vs : List Value} (hl : OwnV 29 w b1 L n c vs) (hg : w.grownBy w' (blk L)) : BlO base w' bss bvs :=
  ⟨h.1, fun i v x hv hx => by
    obtain ⟨A, n, c, e, ho⟩ := h.2 i v x hv hx
    have hd := ownV_ne hl ho (by decide)
    exact ⟨A, n, c, e, ho.kept hg (fun b hb e => hd b e hb)⟩⟩
theorem SlS.below {w0 : World} {B : Option Addr} {m d : Nat} {bss : List (List UInt8)} {G : Option Addr} {gm gd : Nat} {kss : List (List UInt8)} {wr wx : World} (h : SlS w0 B m d bss G gm gd kss wr) (hb : Below wr.heap.size wr wx) : SlS w0 B m d bss G gm gd kss wx := by
  obtain ⟨bvs, kvs, h1, h2, h3, h4, h5, h6⟩ := h
  exact ⟨bvs, kvs, h1.below hb, h2.below hb, h3, h4.below hb, h5, h6.trans (hb.mono h6.size)⟩
theorem SlS.zero (w : World) : SlS w none 0 0 [] none 0 0 [] w :=
  ⟨[], [], OwnV.nil _ _ _, OwnV.nil _ _ _, dj_none none, ⟨rfl, fun i v x h => by simp at h⟩, ⟨rfl, fun i v x h => by simp at h⟩, Below.refl _ _⟩
theorem SlS.addB {w0 : World} {B : Option Addr} {m d : Nat} {bss : List (List UInt8)} {G : Option Addr} {gm gd : Nat} {kss : List (List UInt8)} {wr w3 : World} {bvs kvs : List Value}
    (h1 : OwnV 29 wr w0.heap.size B m d bvs) (h2 : OwnV 29 wr w0.heap.size G gm gd kvs) (h3 : Dj B G) (h4 : BlO w0.heap.size wr bss bvs) (h5 : KyO w0 kss kvs) (h6 : Below w0.heap.size w0 wr)
    {A : Option Addr} {n c : Nat} {x : List UInt8} (ho : Own 5 wr w0.heap.size A n c x) {B' : Option Addr} {m' d' : Nat} (k1 : OwnV 29 w3 w0.heap.size B' m' d' (bvs ++ [.slice A n c])) (hg : wr.grownBy w3 (blk B)) (hB : blk B' = blk B ∨ blk B' = some wr.heap.size) :
    SlS w0 B' m' d' (bss ++ [x]) G gm gd kss w3 := by
  refine ⟨_, kvs, k1, h2.kept hg (fun b hb e => h3 b e hb), fun b e1 e2 => ?_, (h4.snoc ho).kept h1 hg, h5, h6.grown hg h6.size (fun k hk => (h1.lt k hk).1)⟩
  rcases hB with e | e
  · exact h3 b (by rw [← e]; exact e1) e2
  · rw [e] at e1
    injection e1 with e1
    have := (h2.lt b e2).2
    omega
theorem SlS.addK {w0 : World} {B : Option Addr} {m d : Nat} {bss : List (List UInt8)} {G : Option Addr} {gm gd : Nat} {kss : List (List UInt8)} {wr w3 : World} {bvs kvs : List Value}
    (h1 : OwnV 29 wr w0.heap.size B m d bvs) (h2 : OwnV 29 wr w0.heap.size G gm gd kvs) (h3 : Dj B G) (h4 : BlO w0.heap.size wr bss bvs) (h5 : KyO w0 kss kvs) (h6 : Below w0.heap.size w0 wr)
    {v : Value} {x : List UInt8} (ho : ElB w0 v x) {G' : Option Addr} {m' d' : Nat} (k1 : OwnV 29 w3 w0.heap.size G' m' d' (kvs ++ [v])) (hg : wr.grownBy w3 (blk G)) (hB : blk G' = blk G ∨ blk G' = some wr.heap.size) :
    SlS w0 B m d bss G' m' d' (kss ++ [x]) w3 := by
  refine ⟨bvs, _, h1.kept hg (fun b hb e => h3 b hb e), k1, fun b e1 e2 => ?_, h4.kept h2 hg, h5.snoc ho, h6.grown hg h6.size (fun k hk => (h2.lt k hk).1)⟩
  rcases hB with e | e
  · exact h3 b e1 (by rw [← e]; exact e2)
  · rw [e] at e2
    injection e2 with e2
    have := (h1.lt b e1).2
    omega
/-- The keys' row, known whole. -/
theorem OwnV.cl {w : World} {base n c : Nat} {L : Option Addr} {vs : List Value} {t : TypeId} (h : OwnV t w base L n c vs) (hn : 0 < n) : ∃ g arr, L = some ⟨g, 0, none⟩ ∧ base ≤ g ∧ Cl w g arr t ∧ n ≤ arr.size ∧ n ≤ c ∧ ∀ (i : Nat) v, vs[i]? = some v → arr[i]? = some v := by
  obtain ⟨h1, h2⟩ := h
  rcases h2 with ⟨_, h3⟩ | ⟨g, cap, cur, e, hb, hh, h4, h5, h6, h7⟩
  · omega
  · injection e with e1 e2 e3
    refine ⟨g, cur, e1, hb, hh, by omega, by omega, fun i v hv => ?_⟩
    rw [← h7, List.getElem?_take] at hv
    split at hv
    · rw [Array.getElem?_toList] at hv; exact hv
    · cases hv
theorem BlO.rdl {base : Nat} {w : World} {bss : List (List UInt8)} {bvs : List Value} (h : BlO base w bss bvs) {B : Option Addr} {m : Nat} (hr : RdV w B m bvs) : RdL w B m bss :=
  hr.rdl (by rw [← h.1, hr.len]) (fun i v x hv hx => by
    obtain ⟨A, n, c, e, ho⟩ := h.2 i v x hv hx
    subst e
    exact elb_own ho)
end Go.Proofs.YtbgelbdnkbhffaaGreat
namespace Go.Proofs.YtbgelbdnkbhffaaGreat
open Go Go.RowKit

theorem compN_mem {xss : List (List UInt8)} : ∀ i, ∀ x ∈ compN xss i, x ∈ xss
  | 0, x, h => by cases h
  | i + 1, x, h => by
    rw [compN] at h
    split at h
    · exact compN_mem i x h
    · next y hy =>
      split at h
      · exact compN_mem i x h
      · rcases List.mem_append.1 h with h | h
        · exact compN_mem i x h
        · rw [List.mem_singleton] at h
          rw [h]
          exact List.mem_of_getElem? hy
theorem rdl_box1 {w : World} {v : Value} {x : List UInt8} (h : ElB w v x) : RdL (w.alloc (.cells #[v] 29)) (some ⟨w.heap.size, 0, none⟩) 1 [x] := rdl_one8 h _ rfl
theorem rdl_box2 {w : World} {v u : Value} {x y : List UInt8} (h : ElB w v x) (k : ElB w u y) : RdL (w.alloc (.cells #[v, u] 29)) (some ⟨w.heap.size, 0, none⟩) 2 [x, y] := by
  have hr := OwnV.rd (ownV_box2 w 29 w.heap.size [v, u] 2 rfl (by omega) (Nat.le_refl _) _ rfl)
  have hb : Below w.heap.size w (w.alloc (.cells #[v, u] 29)) := (Below.refl _ _).alloc (Nat.le_refl _) _
  refine hr.rdl rfl (fun i a b ha hb2 => ?_)
  match i, ha, hb2 with
  | 0, ha, hb2 =>
    injection ha with ha
    injection hb2 with hb2
    subst ha hb2
    exact h.below hb
  | 1, ha, hb2 =>
    injection ha with ha
    injection hb2 with hb2
    subst ha hb2
    exact k.below hb
theorem rdl_row {w0 w : World} {g m : Nat} {brr : Array Value} {xss : List (List UInt8)} (hz : Cl w g brr 29) (hr : RwO w0 xss brr) (hl : xss.length = m) (hb : Below w0.heap.size w0 w) : RdL w (some ⟨g, 0, none⟩) m xss := by
  refine ⟨hl, fun _ => ⟨g, 0, rfl, hz.lt, fun i x hx => ?_⟩⟩
  obtain ⟨v, h1, h2⟩ := hr i x hx
  have h3 := h2.below hb
  rw [Nat.zero_add]
  first
    | exact ⟨v, (hz.cell i).trans h1, h3⟩
    | (obtain ⟨A, n, c, e, h4, h5, h6⟩ := h3
       subst e
       exact ⟨A, n, c, (hz.cell i).trans h1, h4, h5, h6⟩)

set_option maxRecDepth 100000 in
set_option maxHeartbeats 32000000 in
theorem seal_any {w : World} {L : Option Addr} {n c : Nat} {ls : List (List En)} (h : RLs w L n ls) (hn : n ≤ 20000) (hk1 : 1 ≤ (keysL ls).length) (hk2 : (keysL ls).length ≤ 20000) (hkl : ∀ x ∈ keysL ls, x.length ≤ maxLen) :
    Calls Tryz.prog 67 #[.slice L n c] w (RetBb w (sealT ls)) := by
  have HL := Lib.hid h.1
  have HR := Lib.hid h
  have HK1 := Lib.hid hk1
  have HK2 := Lib.hid hk2
  have HKL := Lib.hid hkl
  clear h hk1 hk2 hkl
  go_enter Tryz.func67, Tryz.ntmps67
  go_wp2_with fail
  go_loopw [4, 5, 6, 17] (fun s4 s5 s6 s17 wr => ∃ (k d gm gd s : Nat) (B G : Option Addr), k ≤ n ∧ s17 = .int .i64 (k : Int) ∧ s4 = .slice B k d ∧ s5 = .slice G gm gd ∧ s6 = .int .i64 (s : Int) ∧ s ≤ 1048576 ∧ slE ls 0 = slE (ls.drop k) s ∧ tot ((ls.take k).map b4E) = s + k ∧ SlS w B k d ((ls.take k).map b4E) G gm gd (keysL (ls.take k)) wr) (fun _ _ _ s _ => n - (intOf s).toNat)
  case atStart => exact ⟨0, 0, 0, 0, 0, none, none, Nat.zero_le _, rfl, rfl, rfl, rfl, Nat.zero_le _, rfl, rfl, SlS.zero w⟩
  case round =>
    obtain ⟨k, d, gm, gd, s, B, G, hk, rfl, rfl, rfl, rfl, hs, hE, hT, hS⟩ := hrel
    have HE := Lib.hid hE
    have HT := Lib.hid hT
    have HS := Lib.hid hS
    have HB := Lib.hid hS.bel
    clear hE hT hS
    by_cases hlt : k < n
    · obtain ⟨b, off, hAb, hbl⟩ := HR.out.pos (by omega)
      subst hAb
      obtain ⟨es, B1, m1, c1, hx, c0, hre, hmc⟩ := HR.out.at_ k hlt
      have d0 := (HB.out.cell (p := ⟨b, off + k, none⟩) hbl).trans c0
      have hm1 : m1 ≤ 20000 := by
        have h1 := hre.len
        have h2 := keysL_step hx
        have h3 : (keysL (ls.take (k + 1))).length ≤ (keysL ls).length := by
          unfold keysL
          rw [List.length_map, List.length_map]
          conv => rhs; rw [← List.take_append_drop (k + 1) ls]
          rw [List.flatten_append, List.length_append]
          omega
        rw [h2, List.length_append, List.length_map] at h3
        have := HK2.out
        omega
      obtain ⟨zb, hzb⟩ : ∃ zb, zb = b4E es := ⟨_, rfl⟩
      obtain ⟨zk, hzk⟩ : ∃ zk, zk = (buildE 4 es).2 := ⟨_, rfl⟩
      obtain ⟨bn, hbn⟩ : ∃ bn, bn = zb.length := ⟨_, rfl⟩
      have HB8 : Hid (∀ wx, Below w.heap.size w wx → Calls Tryz.prog 138 #[.int .i64 4, .slice B1 m1 c1] wx (fun e w' => ∃ A c, e = .returned (.tuple #[.slice A bn c, .int .i64 zk]) ∧ Own 5 w' wx.heap.size A bn c zb ∧ Below wx.heap.size wx w')) := Lib.hid (fun wx hb => by
        refine (build8_any (hre.below hb) (by omega) 4 (by omega) (by omega)).mono ?_
        rintro e w' ⟨A, c, h1, h2, h3⟩
        rw [hbn, hzb, hzk]
        exact ⟨A, c, h1, h2, h3⟩)
      have HZB := Lib.hid hzb
      have HZK := Lib.hid hzk
      have HBN := Lib.hid hbn
      have HX := Lib.hid hx
      have HRE := Lib.hid hre
      clear hx c0 hre hzb hzk hbn
      go_wp2_with fail
      with_reducible refine (HB8.out wr HB.out).mono ?_
      intro e w1 hq
      obtain ⟨A1, c2, h1, o1, b1⟩ := hq
      subst h1
      have O1 := Lib.hid o1
      have B1' := Lib.hid b1
      have BW := Lib.hid (HB.out.trans (b1.mono HB.out.size))
      clear o1 b1 d0
      by_cases hz0 : zk = 0
      · subst hz0
        obtain ⟨s2, hs2⟩ : ∃ s2, s2 = s + bn := ⟨_, rfl⟩
        have hbl2 : bn ≤ 1048584 := by
          have h1 := HBN.out
          rw [HZB.out] at h1
          rcases buildE_cases 4 es with ⟨F, h2, h3⟩ | ⟨q, h2, _⟩
          · have : b4E es = sealB F := by unfold b4E; rw [h2]
            rw [this, sealB_len] at h1
            omega
          · have : b4E es = [] := by unfold b4E; rw [h2]
            rw [this] at h1
            simp at h1
            omega
        have hw2 : IntKind.i64.wrap ((s : Int) + (bn : Int)) = (s2 : Int) := by rw [IntWalk.i64_in _ (by omega)]; omega
        have HS2 := Lib.hid hs2
        by_cases hbig : 1048576 < s2
        · have hF : sealT ls = ([], 2) := by
            have : slE ls 0 = 2 := by rw [HE.out]; exact slE_big HX.out HZK.out.symm (by rw [← HZB.out, ← HBN.out, ← HS2.out]; exact hbig)
            unfold sealT
            rw [this]
            rfl
          have HF : Hid (RetBb w (sealT ls) (.returned (.tuple #[.slice none 0 0, .int .i64 2])) w1) := Lib.hid (RetBb.no hF BW.out)
          have hbig2 : ¬ (s2 : Int) ≤ 1048576 := by omega
          clear hF hs2
          go_wp2_with fail
          exact bodyPost_ret (v := .tuple #[.slice none 0 0, .int .i64 2]) (by simp [results, Tryz.f67, go_sem]; try rfl) rfl HF.out
        · have HEN : Hid (slE ls 0 = slE (ls.drop (k + 1)) s2) := Lib.hid (by rw [HE.out, HS2.out, HBN.out, HZB.out]; exact slE_on HX.out HZK.out.symm (by rw [← HZB.out, ← HBN.out, ← HS2.out]; exact hbig))
          have HTN : Hid (tot ((ls.take (k + 1)).map b4E) = s2 + (k + 1)) := Lib.hid (by
            rw [b4_step HX.out, tot_append, HT.out, HS2.out, HBN.out, HZB.out]
            simp only [tot]
            omega)
          have HKS := Lib.hid (keysL_step HX.out)
          obtain ⟨bvs, kvs, q1, q2, q3, q4, q5, q6⟩ := HS.out.below B1'.out
          obtain ⟨W1, hW1⟩ : ∃ W1, W1 = w1.alloc (.cells #[.slice A1 bn c2] 29) := ⟨_, rfl⟩
          have bW1 : Below w1.heap.size w1 W1 := by rw [hW1]; exact (Below.refl _ _).alloc (Nat.le_refl _) _
          have Q1 := Lib.hid (q1.below bW1)
          have Q2 := Lib.hid (q2.below bW1)
          have Q3 := Lib.hid q3
          have Q4 := Lib.hid (q4.below bW1)
          have Q5 := Lib.hid q5
          have Q6 := Lib.hid (q6.trans (bW1.mono q6.size))
          have O2 : Hid (Own 5 W1 w.heap.size A1 bn c2 zb) := Lib.hid ((O1.out.below bW1).mono HB.out.size)
          have HRD : Hid (RdV W1 (some ⟨w1.heap.size, 0, none⟩) 1 [.slice A1 bn c2]) := Lib.hid (by rw [hW1]; exact OwnV.rd (ownV_box2 w1 29 w1.heap.size [.slice A1 bn c2] 1 rfl (by omega) (Nat.le_refl _) _ rfl))
          have hone : ∀ u ∈ [Value.slice A1 bn c2], u.oneCell' = true := by intro u hu; rw [List.mem_singleton] at hu; rw [hu]; rfl
          have HON := Lib.hid hone
          have HW1 := Lib.hid hW1
          obtain ⟨u1, hu1⟩ : ∃ u1, u1 = w1.heap.size := ⟨_, rfl⟩
          rw [← hu1] at HRD
          have HU1 := Lib.hid hu1
          clear q1 q2 q3 q4 q5 q6 hone hW1 bW1 hu1 hs2
          go_wp2_with (at_builtin; rw [← HW1.out, ← HU1.out]; refine wpList_appV W1 rfl _ _ 99 rfl w.heap.size 29 (.slice none 0 0) 24 Tryz.underlying99 info_sl rfl B k d bvs rfl Q1.out (some ⟨u1, 0, none⟩) 1 1 [.slice A1 bn c2] rfl HRD.out HON.out ?_ ?_ ?_ ?_)
          · unfold maxLen; omega
          · omega
          · exact Q6.out.size
          intro B' d' w3 o3 hg3 hB3
          have HS3 : Hid (SlS w B' (k + 1) d' ((ls.take (k + 1)).map b4E) G gm gd (keysL (ls.take k)) w3) := Lib.hid (by
            rw [b4_step HX.out, ← HZB.out]
            exact SlS.addB Q1.out Q2.out Q3.out Q4.out Q5.out Q6.out O2.out o3 hg3 hB3)
          have HR3 := Lib.hid (HRE.out.below HS3.out.bel)
          have hle := HRE.out.len
          have hgm0 : gm = (keysL (ls.take k)).length := by
            obtain ⟨_, kvs, _, r2, _, _, r5, _⟩ := HS3.out
            rw [← r5.1, r2.len]
          have hgm1 : gm + m1 ≤ 20000 := by
            have h3 : (keysL (ls.take (k + 1))).length ≤ (keysL ls).length := by
              unfold keysL
              rw [List.length_map, List.length_map]
              conv => rhs; rw [← List.take_append_drop (k + 1) ls]
              rw [List.flatten_append, List.length_append]
              omega
            rw [HKS.out, List.length_append, List.length_map] at h3
            have := HK2.out
            omega
          have HLE := Lib.hid hle
          have HGM0 := Lib.hid hgm0
          clear o3 hg3 hB3 hle hgm0
          go_wp2_with fail
          go_loopw [5, 41] (fun s5 s41 wq => ∃ (j gm2 gd2 : Nat) (G2 : Option Addr), j ≤ m1 ∧ s41 = .int .i64 (j : Int) ∧ s5 = .slice G2 gm2 gd2 ∧ gm2 = gm + j ∧ SlS w B' (k + 1) d' ((ls.take (k + 1)).map b4E) G2 gm2 gd2 (keysL (ls.take k) ++ (es.take j).map (·.key)) wq) (fun _ s _ => m1 - (intOf s).toNat)
          case atStart => exact ⟨0, gm, gd, G, Nat.zero_le _, rfl, rfl, rfl, by have := HS3.out; simpa using this⟩
          case round =>
            obtain ⟨j, gm2, gd2, G2, hj, rfl, rfl, hgm2, hS4⟩ := hrel
            have HS4 := Lib.hid hS4
            have HB4 := Lib.hid hS4.bel
            clear hS4
            by_cases hlj : j < m1
            · obtain ⟨bb, of2, hB1b, hbb⟩ := HRE.out.pos (by omega)
              subst hB1b
              obtain ⟨x, v0, v1, v2, v3, hxx, e0, e1, e2, e3, hev⟩ := HRE.out.at_ j hlj
              obtain ⟨K, kn, kc, V, vn, vc, rfl, rfl, rfl, rfl, hrk, hrv, hkc, _, hkni, _⟩ := hev.parts
              have HEL : Hid (ElB w (.slice K kn kc) x.key) := Lib.hid ⟨K, kn, kc, rfl, hrk, hkc, hkni⟩
              have d0 := (HB4.out.cell (p := ⟨bb, of2 + j * 4, none⟩) hbb).trans e0
              have d1 := (HB4.out.cell (p := ⟨bb, of2 + j * 4 + 1, none⟩) hbb).trans e1
              have d2 := (HB4.out.cell (p := ⟨bb, of2 + j * 4 + 2, none⟩) hbb).trans e2
              have d3 := (HB4.out.cell (p := ⟨bb, of2 + j * 4 + 3, none⟩) hbb).trans e3
              obtain ⟨U0, hU⟩ : ∃ U0, U0 = wr.alloc (.cells #[.slice K kn kc, .int .u64 (x.seq : Int), .int .u8 (x.kind : Int), .slice V vn vc] 49) := ⟨_, rfl⟩
              obtain ⟨g0, hg0⟩ : ∃ g0, g0 = wr.heap.size := ⟨_, rfl⟩
              have bU : Below wr.heap.size wr U0 := by rw [hU]; exact (Below.refl _ _).alloc (Nat.le_refl _) _
              have zU : Cl U0 g0 #[.slice K kn kc, .int .u64 (x.seq : Int), .int .u8 (x.kind : Int), .slice V vn vc] 49 := by rw [hU, hg0]; exact Cl.new _ _ _
              obtain ⟨z0, z1, z2, z3, _⟩ := zU.c4
              have HU := Lib.hid hU
              have HG := Lib.hid hg0
              have HKST := Lib.hid (key_step hxx)
              obtain ⟨bv2, kv2, q1, q2, q3, q4, q5, q6⟩ := HS4.out.below bU
              obtain ⟨W2, hW2⟩ : ∃ W2, W2 = U0.alloc (.cells #[.slice K kn kc] 29) := ⟨_, rfl⟩
              have bW2 : Below U0.heap.size U0 W2 := by rw [hW2]; exact (Below.refl _ _).alloc (Nat.le_refl _) _
              have P1 := Lib.hid (q1.below bW2)
              have P2 := Lib.hid (q2.below bW2)
              have P3 := Lib.hid q3
              have P4 := Lib.hid (q4.below bW2)
              have P5 := Lib.hid q5
              have P6 := Lib.hid (q6.trans (bW2.mono q6.size))
              have HRD2 : Hid (RdV W2 (some ⟨U0.heap.size, 0, none⟩) 1 [.slice K kn kc]) := Lib.hid (by rw [hW2]; exact OwnV.rd (ownV_box2 U0 29 U0.heap.size [.slice K kn kc] 1 rfl (by omega) (Nat.le_refl _) _ rfl))
              have hone2 : ∀ u ∈ [Value.slice K kn kc], u.oneCell' = true := by intro u hu; rw [List.mem_singleton] at hu; rw [hu]; rfl
              have HON2 := Lib.hid hone2
              have HW2 := Lib.hid hW2
              obtain ⟨u2, hu2⟩ : ∃ u2, u2 = U0.heap.size := ⟨_, rfl⟩
              rw [← hu2] at HRD2
              have HU2 := Lib.hid hu2
              have hgs : gm2 + 1 ≤ 20000 := by omega
              have HGM2 := Lib.hid hgm2
              clear hxx e0 e1 e2 e3 hev hrk hrv hU hg0 bU zU q1 q2 q3 q4 q5 q6 hone2 hW2 bW2 hu2 hgm2
              go_upto_region 16 with (fail)
              rw [← HU.out, ← HG.out]
              clear d0 d1 d2 d3
              go_wp2_with (at_builtin; rw [← HW2.out, ← HU2.out]; refine wpList_appV W2 rfl _ _ 99 rfl w.heap.size 29 (.slice none 0 0) 24 Tryz.underlying99 info_sl rfl G2 gm2 gd2 kv2 rfl P2.out (some ⟨u2, 0, none⟩) 1 1 [.slice K kn kc] rfl HRD2.out HON2.out ?_ ?_ ?_ ?_)
              · unfold maxLen; omega
              · omega
              · exact P6.out.size
              intro G' d4 w4 o4 hg4 hB4
              have HS5 : Hid (SlS w B' (k + 1) d' ((ls.take (k + 1)).map b4E) G' (gm2 + 1) d4 (keysL (ls.take k) ++ (es.take (j + 1)).map (·.key)) w4) := Lib.hid (by
                rw [HKST.out, ← List.append_assoc]
                exact SlS.addK P1.out P2.out P3.out P4.out P5.out P6.out HEL.out o4 hg4 hB4)
              clear o4 hg4 hB4
              go_wp2_with fail
              go_roundw
              case rel => exact ⟨j + 1, gm2 + 1, d4, G', by omega, by go_num, rfl, by have := HGM2.out; omega, HS5.out⟩
              case measure => simp [intOf]; omega
            · have HS6 : Hid (SlS w B' (k + 1) d' ((ls.take (k + 1)).map b4E) G2 gm2 gd2 (keysL (ls.take (k + 1))) wr) := Lib.hid (by
                have h1 := HS4.out
                have h0 : es.take j = es := List.take_of_length_le (by rw [HLE.out]; omega)
                rw [h0] at h1
                rw [HKS.out]
                exact h1)
              go_wp2_with fail
              go_roundw
              case rel => exact ⟨k + 1, d', gm2, gd2, s2, B', G2, by omega, by go_num, rfl, rfl, rfl, by omega, HEN.out, HTN.out, HS6.out⟩
              case measure => simp [intOf]; omega
      · have hF : sealT ls = ([], zk) := by
          have : slE ls 0 = zk := by rw [HE.out, HZK.out]; exact slE_bad HX.out (by rw [← HZK.out]; exact hz0)
          unfold sealT
          rw [this, if_pos hz0]
        have HF : Hid (RetBb w (sealT ls) (.returned (.tuple #[.slice none 0 0, .int .i64 zk])) w1) := Lib.hid (RetBb.no hF BW.out)
        clear hF
        go_wp2_with fail
        exact bodyPost_ret (v := .tuple #[.slice none 0 0, .int .i64 zk]) (by simp [results, Tryz.f67, go_sem]; try rfl) rfl HF.out
    · have hkn : k = n := by omega
      have htk : ls.take k = ls := List.take_of_length_le (by rw [HL.out]; omega)
      have hE0 : slE ls 0 = 0 := by
        rw [HE.out, List.drop_of_length_le (by rw [HL.out]; omega)]
        rfl
      have hT1 : tot (ls.map b4E) = s + k := by
        have := HT.out
        rw [htk] at this
        exact this
      obtain ⟨bvs, kvs, q1, q2, q3, q4, q5, q6⟩ := HS.out
      rw [htk] at q4 q5
      have hgm : gm = (keysL ls).length := by rw [← q5.1, q2.len]
      have hgm1 : 0 < gm := by have := HK1.out; omega
      have hgm2 : gm ≤ 20000 := by have := HK2.out; omega
      obtain ⟨g, arr, hG, hgb, zg, ha1, ha2, harr⟩ := q2.cl hgm1
      subst hG
      obtain ⟨ca, hca⟩ : ∃ ca, ca = arr.size := ⟨_, rfl⟩
      have hrw : RwO w (keysL ls) arr := fun i x hx => by
        have hi : i < kvs.length := by rw [q5.1]; exact (List.getElem?_eq_some_iff.1 hx).1
        exact ⟨kvs[i], harr i _ (List.getElem?_eq_getElem hi), q5.2 i _ x (List.getElem?_eq_getElem hi) hx⟩
      have HCP : Hid (Calls Tryz.prog 139 #[.slice (some ⟨g, 0, none⟩) gm gd, .func (.func 68) #[] #[]] wr (RetCp w wr g ca gd (compB (keysL ls)))) := Lib.hid (compact_any zg hca.symm (by omega) (by omega) (by omega) hgm.symm hrw hgb q6)
      have HE0 := Lib.hid hE0
      have HT1 := Lib.hid hT1
      have Q1 := Lib.hid q1
      have Q2 := Lib.hid q2
      have Q3 := Lib.hid q3
      have Q4 := Lib.hid q4
      have Q6 := Lib.hid q6
      clear hkn htk hE0 hT1 q1 q2 q3 q4 q5 q6 hgm hgm1 hgb zg ha1 ha2 harr hrw hca
      go_wp2_with fail
      with_reducible refine HCP.out.mono ?_
      intro e w4 hq
      obtain ⟨m3, brr, h1, z4, _, r4, l4, b4, g4⟩ := hq
      subst h1
      have hm3 : m3 ≤ 20000 := by
        have h1 := compN_len (keysL ls) (keysL ls).length
        have h2 := HK2.out
        have h3 : (compB (keysL ls)).length ≤ (keysL ls).length := h1
        omega
      have HBD : Hid (Calls Tryz.prog 48 #[.int .i64 10, .slice (some ⟨g, 0, none⟩) m3 gd] w4 (RetBd w4 (filB ls))) := Lib.hid (build_gen (some ⟨g, 0, none⟩) m3 gd 10 w4 (by omega) (by omega) hm3 (by omega) (compB (keysL ls)) (rdl_row z4 r4 l4 b4) (fun x hx => HKL.out x (compN_mem _ x hx)))
      have HQ1 : Hid (OwnV 29 w4 w.heap.size B k d bvs) := Lib.hid (Q1.out.kept g4 (fun b hb e => Q3.out b hb (by injection e with e; rw [← e]; rfl)))
      have HQ4 : Hid (BlO w.heap.size w4 (ls.map b4E) bvs) := Lib.hid (Q4.out.kept Q2.out g4)
      have B4 := Lib.hid b4
      clear z4 r4 l4 b4 g4
      obtain ⟨fn, hfn⟩ : ∃ fn, fn = (filB ls).length := ⟨_, rfl⟩
      obtain ⟨fs, hfs⟩ : ∃ fs, fs = filB ls := ⟨_, rfl⟩
      have hfl : fn ≤ 25001 := by rw [hfn]; exact filter_len2 (by have h1 := compN_len (keysL ls) (keysL ls).length; have h2 := HK2.out; have h3 : (compB (keysL ls)).length ≤ (keysL ls).length := h1; omega)
      rw [← hfs] at HBD hfn
      have HFS := Lib.hid hfs
      have HFN := Lib.hid hfn
      clear hfs hfn
      go_wp2_with fail
      with_reducible refine HBD.out.mono ?_
      intro e w5 hq
      obtain ⟨h1, z5, b5⟩ := hq
      rw [← HFN.out] at h1
      subst h1
      have HRF : Hid (Rd w5 (some ⟨w4.heap.size, 0, none⟩) fn fs) := Lib.hid (by rw [HFN.out]; exact vsB_rd z5)
      obtain ⟨fb, hfb⟩ : ∃ fb, fb = w4.heap.size := ⟨_, rfl⟩
      rw [← hfb] at HRF ⊢
      have HB5 := Lib.hid (B4.out.trans (b5.mono B4.out.size))
      have hfr : RdL w5 B k (ls.map b4E) := (HQ4.out.below b5).rdl (HQ1.out.below b5).rd
      have htt : tot (ls.map b4E) ≤ 268435456 := by have := HT1.out; omega
      have HFR := Lib.hid (Frame_any B k d (ls.map b4E) w5 hfr htt)
      obtain ⟨f1, hf1⟩ : ∃ f1, f1 = frameB (ls.map b4E) := ⟨_, rfl⟩
      have hl1 : f1.length ≤ 11000000 := by
        have h1 := frameB_len _ htt
        rw [← hf1] at h1
        have := HT1.out
        omega
      rw [← hf1] at HFR
      have HF1 := Lib.hid hf1
      clear z5 b5 hfb hfr htt hf1
      go_wp2_with fail
      with_reducible refine HFR.out.mono ?_
      intro e w6 hq
      obtain ⟨A6, n6, c6, h1, o6, b6⟩ := hq
      subst h1
      have hn6 : n6 ≤ 11000000 := by rw [← o6.len]; exact hl1
      obtain ⟨W6, hW6⟩ : ∃ W6, W6 = w6.alloc (.cells #[.slice A6 n6 c6, .slice (some ⟨fb, 0, none⟩) fn fn] 29) := ⟨_, rfl⟩
      have bW6 : Below w6.heap.size w6 W6 := by rw [hW6]; exact (Below.refl _ _).alloc (Nat.le_refl _) _
      have hrl : RdL W6 (some ⟨w6.heap.size, 0, none⟩) 2 [f1, fs] := by
        rw [hW6]
        exact rdl_box2 (elb_own o6) ⟨_, _, _, rfl, HRF.out.below b6, Nat.le_refl _, fun h => by cases h⟩
      have hfl2 : fs.length ≤ 25001 := by have := HFN.out; omega
      have ht2 : tot [f1, fs] ≤ 268435456 := by simp only [tot]; omega
      have HFR2 : Hid (Calls Tryz.prog 103 #[.slice (some ⟨w6.heap.size, 0, none⟩) 2 2] W6 (Made W6.heap.size W6 (frameB [f1, fs]))) := Lib.hid (Frame_any _ 2 2 _ W6 hrl ht2)
      have HB6 := Lib.hid (HB5.out.trans ((belowT b6 bW6).mono HB5.out.size))
      have HW6 := Lib.hid hW6
      obtain ⟨u6, hu6⟩ : ∃ u6, u6 = w6.heap.size := ⟨_, rfl⟩
      rw [← hu6] at HFR2
      have HU6 := Lib.hid hu6
      have hl2 : (frameB [f1, fs]).length ≤ 200000000 := by
        have h1 := frameB_len _ ht2
        simp only [tot] at h1
        omega
      have HL2 := Lib.hid hl2
      clear o6 b6 hW6 bW6 hrl ht2 hu6 hl2
      go_wp2_with fail
      rw [← HW6.out, ← HU6.out]
      with_reducible refine HFR2.out.mono ?_
      intro e w7 hq
      obtain ⟨A7, n7, c7, h1, o7, b7⟩ := hq
      subst h1
      obtain ⟨f2, hf2⟩ : ∃ f2, f2 = frameB [f1, fs] := ⟨_, rfl⟩
      rw [← hf2] at o7 HL2
      have hn7 : n7 ≤ 200000000 := by rw [← o7.len]; exact HL2.out
      obtain ⟨W7, hW7⟩ : ∃ W7, W7 = w7.alloc (.cells #[.slice A7 n7 c7] 29) := ⟨_, rfl⟩
      have bW7 : Below w7.heap.size w7 W7 := by rw [hW7]; exact (Below.refl _ _).alloc (Nat.le_refl _) _
      have hrl : RdL W7 (some ⟨w7.heap.size, 0, none⟩) 1 [f2] := by rw [hW7]; exact rdl_box1 (elb_own o7)
      obtain ⟨z, hz⟩ : ∃ z, z = sealT ls := ⟨_, rfl⟩
      have hz2 : z = sealG f2 := by
        rw [hz]
        unfold sealT
        rw [if_neg (by rw [HE0.out]; simp), ← HF1.out, ← HFS.out, ← hf2]
      have HSL : Hid (Calls Tryz.prog 140 #[.slice (some ⟨w7.heap.size, 0, none⟩) 1 1] W7 (RetSE W7.heap.size W7 z)) := Lib.hid (by
        have h1 := Seal_any _ 1 1 [f2] W7 hrl (by simp only [tot]; have := HL2.out; omega)
        rw [show [f2].flatten = f2 by simp, ← hz2] at h1
        exact h1)
      have HB7 := Lib.hid (HB6.out.trans ((belowT b7 bW7).mono HB6.out.size))
      have HW7 := Lib.hid hW7
      obtain ⟨u7, hu7⟩ : ∃ u7, u7 = w7.heap.size := ⟨_, rfl⟩
      rw [← hu7] at HSL
      have HZ := Lib.hid hz
      have HU7 := Lib.hid hu7
      obtain ⟨zk, hzk⟩ : ∃ zk, zk = z.2 := ⟨_, rfl⟩
      have HZK := Lib.hid hzk
      clear o7 b7 hW7 bW7 hrl hu7 hf2 hz hz2 hzk
      go_wp2_with fail
      rw [← HW7.out, ← HU7.out]
      with_reducible refine HSL.out.mono ?_
      intro e w8 hq
      obtain ⟨A8, n8, c8, h1, o8, b8⟩ := hq
      rw [← HZK.out] at h1
      subst h1
      have hn8 := o8.len
      have HF : Hid (RetBb w (sealT ls) (.returned (.tuple #[.slice A8 n8 c8, .int .i64 zk])) w8) := Lib.hid ⟨A8, c8, by rw [← HZ.out, hn8, HZK.out], by rw [← HZ.out, hn8]; exact o8.mono HB7.out.size, HB7.out.trans (b8.mono HB7.out.size)⟩
      clear o8 b8 hn8
      go_wp2_with fail
      exact bodyPost_ret (v := .tuple #[.slice A8 n8 c8, .int .i64 zk]) (by simp [results, Tryz.f67, go_sem]; try rfl) rfl HF.out
end Go.Proofs.YtbgelbdnkbhffaaGreat
