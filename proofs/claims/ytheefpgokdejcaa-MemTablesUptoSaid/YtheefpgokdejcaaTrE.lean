/- The table's Put: the walk. No condition but sizes. -/
import Derived.Test.YtheefpgokdejcaaTrD
namespace Go.Proofs.Ytheefpgokdejcaa
open Go Go.RowKit

theorem szL_take (es : List En) (k : Nat) : szL (es.take k) ≤ szL es := by
  have := szL_app (es.take k) (es.drop k)
  rw [List.take_append_drop] at this
  omega
theorem szL_snoc {es : List En} {k : Nat} {x : En} (h : es[k]? = some x) : szL (es.take (k + 1)) = szL (es.take k) + wE x := by
  rw [List.take_add_one, h, szL_app]
  simp [szL]
theorem grow_set {w w' : World} {row : Option Nat} (h : w.grownBy w' row) (p : Nat) (i : Nat) (v : Value) (hp : row = some p) : w.grownBy (World.setCell w' ⟨p, i, none⟩ v) row := by
  obtain ⟨h1, h2, h3, h4, h5⟩ := h
  have k := (Below.refl p w').setCell (p := ⟨p, i, none⟩) (Nat.le_refl _) v
  exact ⟨k.os.trans h1, k.tape.trans h2, k.output.trans h3, Nat.le_trans h4 k.size, fun b hb hne => by
    have hbp : b ≠ p := fun e => hne (by rw [e]; exact hp.symm)
    rw [heap_setCell_other _ _ _ _ hbp]
    exact h5 b hb hne⟩
set_option maxRecDepth 100000 in
set_option maxHeartbeats 8000000 in
theorem tabPut_any {d : TypeId × List Value} {G : Nat → Prop} {w : World} {p : Nat} {t : Tr} {L : Option Addr} {n c : Nat} {es : List En} (h : TB d G w p t) (hr : REs w L n es) (hn : n ≤ 1099511627776) (hs : ∀ x ∈ es, SzE x) (hnum : t.num + n + 1 ≤ 1099511627776) (hsz : t.sz + szL es ≤ 1099511627776)
    (hG : ∀ b, w.heap.size ≤ b → G b) : Calls Try.prog 19 #[.pointer (some ⟨p, 0, none⟩), .slice L n c] w (RetPt d G w p (putZ t es)) := by
  have HTB := Lib.hid h
  obtain ⟨A0, hp, hta, hok⟩ := h
  have HP := Lib.hid hp
  have HTA := Lib.hid hta
  have HR := Lib.hid hr
  have HLN := Lib.hid hr.len
  have HS := Lib.hid hs
  have HG := Lib.hid hG
  have hplt := hp.lt
  have HOK := Lib.hid hok
  obtain ⟨z, hz⟩ : ∃ z, z = checkE es := ⟨_, rfl⟩
  have HC : Hid (Calls Try.prog 56 #[.slice L n c] w (RetNu w z)) := Lib.hid (by rw [hz]; exact memCheck_any hr hn)
  have HZ := Lib.hid hz
  clear hp hta hr hs hz hG hok
  go_enter Try.func19, Try.ntmps19
  go_wp2_with fail
  refine HC.out.mono ?_
  rintro e w1 ⟨rfl, b1⟩
  have B1 := Lib.hid b1
  have s1 := b1.size
  by_cases h0 : z = 0
  · subst h0
    have HPZ : Hid (putZ t es = match insAll t es with | none => (7, t) | some t' => (0, t')) := Lib.hid (by unfold putZ; rw [if_pos HZ.out.symm]; cases insAll t es <;> rfl)
    obtain ⟨c0, c1, c2, y0, y1, y2⟩ := (HP.out.below b1).ct
    clear b1
    go_wp2
    go_quiet (fail)
    obtain ⟨w2, hw2⟩ : ∃ w2, w2 = w1.drewN nq := ⟨_, rfl⟩
    rw [← hw2]
    have b2 : Below w.heap.size w w2 := by rw [hw2]; exact below_drewN B1.out _
    have B2 := Lib.hid b2
    have s2 := b2.size
    clear hw2 b2 c0 c1 c2 y0 y1 y2
    go_wp2
    go_loopw [6, 7, 28] (fun s6 s7 s28 wr => ∃ (k : Nat) (tk : Tr) (A : Option Addr), k ≤ n ∧ s28 = .int .i64 (k : Int) ∧ s6 = .pointer A ∧ s7 = .int .i64 (tk.sz : Int) ∧ insAll t (es.take k) = some tk ∧ TrAt G wr tk A ∧ Below w.heap.size w wr) (fun _ _ s _ => n - (intOf s).toNat)
    case atStart => exact ⟨0, t, A0, Nat.zero_le _, rfl, rfl, rfl, rfl, HTA.out.below B2.out, B2.out⟩
    case round =>
      obtain ⟨k, tk, A, hk, rfl, rfl, rfl, hins, htk, hB⟩ := hrel
      have hR := HR.out.below hB
      have swr := hB.size
      have HB := Lib.hid hB
      have HTK := Lib.hid htk
      have HINS := Lib.hid hins
      have hnk := insAll_num hins
      rw [List.length_take] at hnk
      have hszk := szL_take es k
      have hln := HLN.out
      clear hB htk hins
      by_cases hlt : k < n
      · obtain ⟨b, off, rfl, hbl⟩ := hR.pos (by omega)
        obtain ⟨x, v0, v1, v2, v3, hx, m0, m1, m2, m3, hev⟩ := hR.at_ k hlt
        have HEV := Lib.hid hev
        have hsx := HS.out x (List.mem_of_getElem? hx)
        have hwf := hR.wf x (List.mem_of_getElem? hx)
        have hsn := szL_snoc hx
        have hst := szL_take es (k + 1)
        have HXK := Lib.hid hx
        obtain ⟨K, kn, kc, V, vn, vc, rfl, rfl, rfl, rfl, rk, rv, _⟩ := hev.parts
        have hwx : wE x = kn + vn := by unfold wE; rw [rk.len, rv.len]
        clear hx hev hR rk rv
        obtain ⟨U1, hU1⟩ : ∃ U1, U1 = wr.alloc (.cells #[.slice K kn kc, .int .u64 (x.seq : Int), .int .u8 (x.kind : Int), .slice V vn vc] 38) := ⟨_, rfl⟩
        have bU1 : Below wr.heap.size wr U1 := by rw [hU1]; exact (Below.refl _ _).alloc (Nat.le_refl _) _
        have xU1 : Cl U1 wr.heap.size #[.slice K kn kc, .int .u64 (x.seq : Int), .int .u8 (x.kind : Int), .slice V vn vc] 38 := by rw [hU1]; exact Cl.new _ _ _
        have XU1 := Lib.hid xU1
        have BU1 := Lib.hid bU1
        have sU1 := bU1.size
        have HOW : Hid (Calls Try.prog 57 #[.agg #[.slice K kn kc, .int .u64 (x.seq : Int), .int .u8 (x.kind : Int), .slice V vn vc]] U1 (RetEn U1 x)) := Lib.hid (own_any (HEV.out.below bU1) hsx)
        clear bU1 xU1
        go_wp2_with fail
        rw [← hU1]
        refine HOW.out.mono ?_
        rintro e w3 ⟨K2, kn2, kc2, V2, vn2, vc2, rfl, o1, o2, b3, _⟩
        obtain ⟨U2, hU2⟩ : ∃ U2, U2 = w3.alloc (.cells #[.slice K2 kn2 kc2, .int .u64 (x.seq : Int), .int .u8 (x.kind : Int), .slice V2 vn2 vc2] 38) := ⟨_, rfl⟩
        have bU2 : Below w3.heap.size w3 U2 := by rw [hU2]; exact (Below.refl _ _).alloc (Nat.le_refl _) _
        have heb : EB G U2 x w3.heap.size := by
          refine ⟨_, _, _, _, by rw [hU2]; exact Cl.new _ _ _, ⟨K2, kn2, kc2, V2, vn2, vc2, rfl, rfl, rfl, rfl, (o1.mono (Nat.zero_le _)).below bU2, (o2.mono (Nat.zero_le _)).below bU2, hwf⟩, fun S m cc g hv hg => HG.out g ?_⟩
          simp only [List.mem_cons, List.not_mem_nil, or_false] at hv
          rcases hv with e | e | e | e
          · injection e with e1 e2 e3; subst e1; have := (o1.lt g hg).1; omega
          · cases e
          · cases e
          · injection e with e1 e2 e3; subst e1; have := (o2.lt g hg).1; omega
        have bw2 : Below wr.heap.size wr U2 := belowT (belowT BU1.out b3) bU2
        have HWI : Hid (Calls Try.prog 58 #[.pointer A, .pointer (some ⟨w3.heap.size, 0, none⟩)] U2 (RetWith G U2 (withT x tk))) := Lib.hid (with_any x w3.heap.size tk A U2 (HTK.out.below bw2) heb (by omega))
        have XU2 := Lib.hid ((XU1.out.below b3).below bU2)
        have BW2 := Lib.hid bw2
        have sw2 := bw2.size
        clear o1 o2 b3 bU2 heb bw2
        go_wp2_with fail
        rw [← hU2]
        with_reducible refine HWI.out.mono ?_
        intro e w4 hq
        rcases RetWith.out hq with ⟨t', A6, ho, h1, t6, b6⟩ | ⟨ho, h1, b6⟩
        · subst h1
          have HO := Lib.hid ho
          have hsz' := withT_sz ho
          have T6 := Lib.hid t6
          have B6 := Lib.hid (HB.out.trans ((belowT BW2.out b6).mono swr))
          obtain ⟨f0, f1, f2, f3, _⟩ := (XU2.out.below b6).c4
          have e1 : IntKind.i64.wrap ((kn : Int) + (vn : Int)) = ((kn + vn : Nat) : Int) := by rw [IntWalk.i64_in _ (by omega)]; omega
          have e2 : IntKind.i64.wrap ((tk.sz : Int) + ((kn + vn : Nat) : Int)) = ((tk.sz + (kn + vn) : Nat) : Int) := by rw [IntWalk.i64_in _ (by omega)]; omega
          have HIN : Hid (insAll t (es.take (k + 1)) = some t') := Lib.hid (by rw [List.take_add_one, HXK.out]; simp only [Option.toList]; rw [insAll_snoc, HINS.out]; exact HO.out)
          have HSZ : Hid (t'.sz = tk.sz + (kn + vn)) := Lib.hid (by rw [hsz', hwx])
          clear hq ho t6 b6 hsz'
          go_wp2_with fail
          go_roundw
          case rel => exact ⟨k + 1, t', A6, by omega, by go_num, rfl, by rw [HSZ.out]; go_num, HIN.out, T6.out, B6.out⟩
          case measure => simp [intOf]; omega
        · subst h1
          have HNO : Hid (insAll t es = none) := Lib.hid (by
            have h3 : insAll t (es.take (k + 1)) = none := by rw [List.take_add_one, HXK.out]; simp only [Option.toList]; rw [insAll_snoc, HINS.out]; exact ho
            have h4 := insAll_none (ys := es.drop (k + 1)) h3
            rw [List.take_append_drop] at h4
            exact h4)
          have B6 := Lib.hid (HB.out.trans ((belowT BW2.out b6).mono swr))
          clear hq ho b6
          go_wp2_with fail
          go_ret
          exact ⟨by rw [HPZ.out, HNO.out]; rfl, by rw [HPZ.out, HNO.out]; exact HTB.out.below B6.out, grow_of_below B6.out⟩
      · have htk := take_all hln hlt
        rw [htk] at HINS
        have HPZ2 : Hid (putZ t es = (0, tk)) := Lib.hid (by rw [HPZ.out, HINS.out])
        obtain rfl : k = n := by omega
        have HPP := Lib.hid (HP.out.below HB.out)
        obtain ⟨c0, c1, c2, y0, y1, y2⟩ := HPP.out.ct
        clear htk
        go_wp2
        have e1 : (t.sz : Int) + (szL (es.take k) : Int) = (tk.sz : Int) := by have := hnk.2; omega
        have e2 : (t.num : Int) + (k : Int) = (tk.num : Int) := by have := hnk.1; omega
        rw [e1, e2]
        have Q1 := HPP.out.st0 (.pointer A)
        have Q2 := Q1.st2 (.int .i64 (tk.sz : Int))
        have Q3 := Q2.st1 (.int .i64 (tk.num : Int))
        have T3 := TrAt.set Q2 HOK.out 1 (.int .i64 (tk.num : Int)) (TrAt.set Q1 HOK.out 2 (.int .i64 (tk.sz : Int)) (TrAt.set HPP.out HOK.out 0 (.pointer A) HTK.out))
        have hgr := grow_set (grow_set (grow_set (grow_of_below (row := some p) HB.out) p 0 (.pointer A) rfl) p 2 (.int .i64 (tk.sz : Int)) rfl) p 1 (.int .i64 (tk.num : Int)) rfl
        go_ret
        exact ⟨by rw [HPZ2.out]; rfl, by rw [HPZ2.out]; exact ⟨A, Q3, T3, HOK.out⟩, hgr⟩
  · have HPZ : Hid (putZ t es = (z, t)) := Lib.hid (by unfold putZ; rw [← HZ.out, if_neg h0])
    have tz : (z != 0) = true := by simpa using h0
    clear b1
    go_wp2
    go_ret
    exact ⟨by rw [HPZ.out]; rfl, by rw [HPZ.out]; exact HTB.out.below B1.out, grow_of_below B1.out⟩
end Go.Proofs.Ytheefpgokdejcaa
