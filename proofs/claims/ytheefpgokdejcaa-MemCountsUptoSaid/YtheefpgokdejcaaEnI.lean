/- The reference over entries: Range. No condition but sizes. -/
import Derived.Test.YtheefpgokdejcaaEnH
import Derived.Test.YtheefpgokdejcaaMathI
namespace Go.Proofs.Ytheefpgokdejcaa
open Go Go.RowKit

/-- What a list that is picked out of another comes to. -/
def RetPick (w : World) (es : List En) (us : List Value) (e : Ending) (w' : World) : Prop :=
  ∃ L k d vs, e = .returned (.slice L k d) ∧ OwnE w' w.heap.size L k d vs ∧ EVs w' es vs ∧ es.length = k ∧ Below w.heap.size w w' ∧ ∀ u ∈ vs, u ∈ us
theorem RetPick.out {w : World} {es : List En} {us : List Value} {e : Ending} {w' : World} (h : RetPick w es us e w') : ∃ L k d vs, e = .returned (.slice L k d) ∧ OwnE w' w.heap.size L k d vs ∧ EVs w' es vs ∧ es.length = k ∧ Below w.heap.size w w' ∧ ∀ u ∈ vs, u ∈ us := h
theorem RetPick.res {w : World} {es : List En} {us : List Value} {e : Ending} {w' : World} (h : RetPick w es us e w') : ∃ L k d, e = .returned (.slice L k d) ∧ REs w' L k es ∧ k ≤ d ∧ Below w.heap.size w w' := by
  obtain ⟨L, k, d, vs, h1, h2, h3, h4, h5, _⟩ := h
  exact ⟨L, k, d, h1, REs.mk h3 h2.rd h4, h2.cap.1, h5⟩
/-- 'So far picked.' -/
def Pck (w : World) (us : List Value) (es : List En) (L : Option Addr) (k d : Nat) (wr : World) : Prop :=
  ∃ vs, OwnE wr w.heap.size L k d vs ∧ EVs w es vs ∧ es.length = k ∧ Below w.heap.size w wr ∧ ∀ u ∈ vs, u ∈ us
theorem Pck.zero (w : World) (us : List Value) : Pck w us [] none 0 0 w := ⟨[], OwnE.nil _ _, rfl, rfl, Below.refl _ _, fun u hu => by cases hu⟩
theorem Pck.below {w wr w' : World} {us : List Value} {es : List En} {L : Option Addr} {k d : Nat} (h : Pck w us es L k d wr) (hb : Below wr.heap.size wr w') : Pck w us es L k d w' := by
  obtain ⟨vs, h1, h2, h3, h4, h5⟩ := h
  exact ⟨vs, h1.below hb, h2, h3, belowT' h4 hb, h5⟩
theorem Pck.bel {w wr : World} {us : List Value} {es : List En} {L : Option Addr} {k d : Nat} (h : Pck w us es L k d wr) : Below w.heap.size w wr := by
  obtain ⟨vs, h1, h2, h3, h4, h5⟩ := h
  exact h4
theorem Pck.len {w wr : World} {us : List Value} {es : List En} {L : Option Addr} {k d : Nat} (h : Pck w us es L k d wr) : es.length = k := by
  obtain ⟨vs, h1, h2, h3, h4, h5⟩ := h
  exact h3
theorem Pck.ret {w wr : World} {us : List Value} {es : List En} {L : Option Addr} {k d : Nat} (h : Pck w us es L k d wr) : RetPick w es us (.returned (.slice L k d)) wr := by
  obtain ⟨vs, h1, h2, h3, h4, h5⟩ := h
  exact ⟨L, k, d, vs, rfl, h1, h2.below h4, h3, h4, h5⟩
theorem Pck.snoc {w w4 : World} {us vs : List Value} {es : List En} {L' : Option Addr} {k d' : Nat} {x : En} {v0 v1 v2 v3 : Value} (h2 : EVs w es vs) (h3 : es.length = k) (h5 : ∀ u ∈ vs, u ∈ us)
    (hx : EV w x v0 v1 v2 v3) (hm : ∀ u ∈ [v0, v1, v2, v3], u ∈ us) (o4 : OwnE w4 w.heap.size L' (k + 1) d' (vs ++ [v0, v1, v2, v3])) (b4 : Below w.heap.size w w4) : Pck w us (es ++ [x]) L' (k + 1) d' w4 :=
  ⟨vs ++ [v0, v1, v2, v3], o4, h2.app (EVs.one hx), by simp [h3], b4, fun u hu => by
    rcases List.mem_append.1 hu with h | h
    · exact h5 u h
    · exact hm u h⟩
theorem mem4 {w : World} {A : Option Addr} {n k b off : Nat} {es : List En} {ovs : List Value} (hv : EVs w es ovs) (hd : RdV w A (n * 4) ovs) (hl : es.length = n) (hA : A = some ⟨b, off, none⟩) (hk : k < n) :
    ∃ e v0 v1 v2 v3, es[k]? = some e ∧ w.cell? ⟨b, off + k * 4, none⟩ = some v0 ∧ w.cell? ⟨b, off + k * 4 + 1, none⟩ = some v1 ∧
      w.cell? ⟨b, off + k * 4 + 2, none⟩ = some v2 ∧ w.cell? ⟨b, off + k * 4 + 3, none⟩ = some v3 ∧ EV w e v0 v1 v2 v3 ∧ ∀ u ∈ [v0, v1, v2, v3], u ∈ ovs := by
  subst hA
  obtain ⟨b', off', e, hb, hc⟩ := hd.2 (by omega)
  injection e with e
  injection e with e1 e2
  subst e1 e2
  obtain ⟨x, hx⟩ : ∃ x, es[k]? = some x := ⟨_, List.getElem?_eq_getElem (by omega)⟩
  obtain ⟨v0, v1, v2, v3, e0, e1, e2, e3, g0⟩ := hv.at_ k hx
  refine ⟨x, v0, v1, v2, v3, hx, hc _ _ e0, ?_, ?_, ?_, g0, fun u hu => ?_⟩
  · rw [Nat.add_assoc]; exact hc _ _ e1
  · rw [Nat.add_assoc]; exact hc _ _ e2
  · rw [Nat.add_assoc]; exact hc _ _ e3
  · simp only [List.mem_cons, List.not_mem_nil, or_false] at hu
    rcases hu with rfl | rfl | rfl | rfl
    · exact List.mem_of_getElem? e0
    · exact List.mem_of_getElem? e1
    · exact List.mem_of_getElem? e2
    · exact List.mem_of_getElem? e3
theorem filter_snoc {es : List En} {k : Nat} {x : En} {p : En → Bool} (hx : es[k]? = some x) : (es.take (k + 1)).filter p = (es.take k).filter p ++ (if p x then [x] else []) := by
  rw [List.take_add_one, hx, List.filter_append]
  simp only [Option.toList, List.filter_cons, List.filter_nil]
set_option maxRecDepth 100000 in
set_option maxHeartbeats 8000000 in
theorem refRange_any {w : World} {A F T : Option Addr} {n c fn fc tn tc : Nat} {es : List En} {ovs : List Value} {xs ys : List UInt8} (hv : EVs w es ovs) (hd : RdV w A (n * 4) ovs) (hl : es.length = n) (hn : n ≤ 1099511627776) (hs : ∀ x ∈ es, SzE x) (hf : Rd w F fn xs) (ht : Rd w T tn ys) (hfn : fn ≤ maxLen) (htn : tn ≤ maxLen) :
    Calls Try.prog 31 #[.slice A n c, .slice F fn fc, .slice T tn tc] w (RetPick w (es.filter (inR xs ys)) ovs) := by
  have HV := Lib.hid hv
  have HD := Lib.hid hd
  have HL := Lib.hid hl
  have HS := Lib.hid hs
  have HF := Lib.hid hf
  have HT := Lib.hid ht
  clear hv hd hl hs hf ht
  go_enter Try.func31, Try.ntmps31
  go_wp2_with fail
  go_loopw [7, 8] (fun s7 s8 wr => ∃ (k m d : Nat) (L : Option Addr), k ≤ n ∧ s8 = .int .i64 (k : Int) ∧ s7 = .slice L m d ∧ Pck w ovs ((es.take k).filter (inR xs ys)) L m d wr) (fun _ s _ => n - (intOf s).toNat)
  case atStart => exact ⟨0, 0, 0, none, Nat.zero_le _, rfl, rfl, Pck.zero w ovs⟩
  case round =>
    obtain ⟨k, m, d, L, hk, rfl, rfl, hp⟩ := hrel
    have HP := Lib.hid hp
    have HB := Lib.hid hp.bel
    clear hp
    by_cases hlt : k < n
    · obtain ⟨b, off, hAb, hbl⟩ : ∃ b off, A = some ⟨b, off, none⟩ ∧ b < w.heap.size := HD.out.pos (by omega)
      obtain ⟨x, v0, v1, v2, v3, hx, c0, c1, c2, c3, hev, hmem⟩ := mem4 HV.out HD.out HL.out hAb hlt
      have HAB := Lib.hid hAb
      subst hAb
      have hsx := HS.out x (List.mem_of_getElem? hx)
      have HEV := Lib.hid hev
      have HMEM := Lib.hid hmem
      have HXK := Lib.hid hx
      have HCW : Hid (w.cell? ⟨b, off + k * 4, none⟩ = some v0 ∧ w.cell? ⟨b, off + k * 4 + 1, none⟩ = some v1 ∧ w.cell? ⟨b, off + k * 4 + 2, none⟩ = some v2 ∧ w.cell? ⟨b, off + k * 4 + 3, none⟩ = some v3) := Lib.hid ⟨c0, c1, c2, c3⟩
      obtain ⟨K, kn, kc, V, vn, vc, rfl, rfl, rfl, rfl, r0, _⟩ := hev.parts
      have hkn : kn ≤ maxLen := maxLen_e (by rw [← r0.len]; exact hsx.1)
      obtain ⟨z1, hz1⟩ : ∃ z, cmpB x.key xs = z := ⟨_, rfl⟩
      obtain ⟨z2, hz2⟩ : ∃ z, cmpB x.key ys = z := ⟨_, rfl⟩
      have HC1 : Hid (Calls Try.prog 65 #[.slice K kn kc, .slice F fn fc] wr (RetZ wr z1)) := Lib.hid (refCmp_is _ _ _ _ _ _ x.key xs z1 hz1 _ (r0.below HB.out) (HF.out.below HB.out) hkn hfn)
      have HC2 : Hid (∀ q, Calls Try.prog 65 #[.slice K kn kc, .slice T tn tc] (wr.drewN q) (RetZ (wr.drewN q) z2)) := Lib.hid (fun q => refCmp_is _ _ _ _ _ _ x.key ys z2 hz2 _ (((r0.below HB.out)).drewN q) ((HT.out.below HB.out).drewN q) hkn htn)
      have hyl := HT.out.len
      obtain ⟨zz, hzz⟩ : ∃ zz, zz = inR xs ys x := ⟨_, rfl⟩
      have HIR : Hid (zz = (decide (0 ≤ z1) && decide (tn = 0 ∨ z2 < 0))) := Lib.hid (by rw [hzz]; unfold inR; rw [hz1, hz2, hyl])
      have HFT : Hid ((es.take (k + 1)).filter (inR xs ys) = (es.take k).filter (inR xs ys) ++ (if zz then [x] else [])) := Lib.hid (by rw [hzz]; exact filter_snoc HXK.out)
      have hB := HB.out
      have d0 := (hB.cell (p := ⟨b, off + k * 4, none⟩) hbl).trans c0
      have d1 := (hB.cell (p := ⟨b, off + k * 4 + 1, none⟩) hbl).trans c1
      have d2 := (hB.cell (p := ⟨b, off + k * 4 + 2, none⟩) hbl).trans c2
      have d3 := (hB.cell (p := ⟨b, off + k * 4 + 3, none⟩) hbl).trans c3
      clear hx c0 c1 c2 c3 hev hmem r0 hz1 hz2 hyl hzz hB
      go_upto_region 5 with (fail)
      go_cut [37] from 9 to 38 (fun s37 wx => s37 = .bool zz ∧ ∃ q, wx = wr.drewN q)
      case first =>
        by_cases t1 : 0 ≤ z1
        · have h1 : decide (0 ≤ z1) = true := by simpa using t1
          by_cases t2 : tn = 0
          · have HZ : Hid (zz = true) := Lib.hid (by rw [HIR.out, h1]; simp [t2])
            have h2 : ((tn : Int) == 0) = true := by simpa using t2
            clear t2
            go_wp2_with fail
            with_reducible refine HC1.out.mono ?_
            rintro e w1 ⟨rfl, q, rfl⟩
            go_wp2_with fail
            go_meet
            exact ⟨by rw [HZ.out], _, rfl⟩
          · have h2 : ((tn : Int) == 0) = false := by simpa using t2
            go_wp2_with fail
            with_reducible refine HC1.out.mono ?_
            rintro e w1 ⟨rfl, q, rfl⟩
            go_wp2_with fail
            with_reducible refine (HC2.out q).mono ?_
            rintro e w1 ⟨rfl, q2, rfl⟩
            go_wp2_with fail
            go_meet
            exact ⟨by rw [HIR.out, h1]; simp [t2], q + q2, rfl⟩
        · have h1 : decide (0 ≤ z1) = false := by simpa using t1
          go_wp2_with fail
          with_reducible refine HC1.out.mono ?_
          rintro e w1 ⟨rfl, q, rfl⟩
          go_wp2_with fail
          go_meet
          exact ⟨by rw [HIR.out, h1]; rfl, q, rfl⟩
      case rest =>
        obtain ⟨rfl, q, rfl⟩ := hcut
        cases zz with
        | true =>
          have B1 : Below wr.heap.size wr (wr.drewN q) := below_drewN (Below.refl _ _) q
          have HP1 := Lib.hid (HP.out.below B1)
          obtain ⟨vs, o1, hev1, hlen1, hb1, hm1⟩ := HP1.out
          have O1 := Lib.hid o1
          have HE1 := Lib.hid hev1
          have HL1 := Lib.hid hlen1
          have HM1 := Lib.hid hm1
          have HB1 := Lib.hid hb1
          obtain ⟨W, hW⟩ : ∃ W, W = wr.drewN q := ⟨_, rfl⟩
          rw [← hW] at O1 HB1 ⊢
          have hmn : m ≤ n := by rw [← HL1.out]; exact Nat.le_trans (List.length_filter_le _ _) (by rw [List.length_take]; omega)
          have bl : Below W.heap.size W (W.alloc (.cells #[.slice K kn kc, .int .u64 (x.seq : Int), .int .u8 (x.kind : Int), .slice V vn vc] 38)) := (Below.refl _ _).alloc (Nat.le_refl _) _
          have O1' := Lib.hid (O1.out.below bl)
          have r2 := Lib.hid (rdv_of_cl (Cl.new W #[.slice K kn kc, .int .u64 (x.seq : Int), .int .u8 (x.kind : Int), .slice V vn vc] 38))
          have BL := Lib.hid bl
          have sW := HB1.out.size
          obtain ⟨e0, e1, e2, e3⟩ : W.cell? ⟨b, off + k * 4, none⟩ = some (.slice K kn kc) ∧ W.cell? ⟨b, off + k * 4 + 1, none⟩ = some (.int .u64 (x.seq : Int)) ∧ W.cell? ⟨b, off + k * 4 + 2, none⟩ = some (.int .u8 (x.kind : Int)) ∧ W.cell? ⟨b, off + k * 4 + 3, none⟩ = some (.slice V vn vc) := by rw [hW]; exact ⟨d0, d1, d2, d3⟩
          clear o1 hev1 hlen1 hb1 hm1 hW bl d0 d1 d2 d3 B1
          go_wp2_with (at_builtin; refine wpList_app4 (W.alloc (.cells #[.slice K kn kc, .int .u64 (x.seq : Int), .int .u8 (x.kind : Int), .slice V vn vc] 38)) rfl _ _ 27 rfl w.heap.size _ 64 Try.underlying27 info_ent rfl L m d vs rfl O1'.out (some ⟨W.heap.size, 0, none⟩) 1 1 [.slice K kn kc, .int .u64 (x.seq : Int), .int .u8 (x.kind : Int), .slice V vn vc] rfl r2.out HEV.out.cells ?_ ?_ ?_ ?_)
          · omega
          · omega
          intro A2 c2 w2 o2 _ b2
          have HP2 : Hid (Pck w ovs ((es.take (k + 1)).filter (inR xs ys)) A2 (m + 1) c2 w2) := Lib.hid (by
            rw [HFT.out]
            exact Pck.snoc HE1.out HL1.out HM1.out HEV.out HMEM.out o2 ((HB1.out.trans (BL.out.mono sW)).trans b2))
          clear o2 b2 e0 e1 e2 e3
          go_wp2_with fail
          go_roundw
          case rel => exact ⟨k + 1, m + 1, c2, A2, by omega, by go_num, rfl, HP2.out⟩
          case measure => simp [intOf]; omega
        | false =>
          have HP2 : Hid (Pck w ovs ((es.take (k + 1)).filter (inR xs ys)) L m d (wr.drewN q)) := Lib.hid (by
            rw [HFT.out]
            simpa using HP.out.below (below_drewN (Below.refl _ _) q))
          clear d0 d1 d2 d3
          go_wp2_with fail
          go_roundw
          case rel => exact ⟨k + 1, m, d, L, by omega, by go_num, rfl, HP2.out⟩
          case measure => simp [intOf]; omega
    · have htk := take_all HL.out hlt
      rw [htk] at HP
      clear htk
      go_wp2
      go_ret
      exact HP.out.ret
end Go.Proofs.Ytheefpgokdejcaa
