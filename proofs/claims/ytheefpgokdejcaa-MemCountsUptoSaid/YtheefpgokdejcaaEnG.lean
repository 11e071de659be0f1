/- The reference over entries: Get. No condition but sizes. -/
import Derived.Test.YtheefpgokdejcaaEnE
import Derived.Test.YtheefpgokdejcaaMathH
namespace Go.Proofs.Ytheefpgokdejcaa
open Go Go.RowKit

/-- What the reference's Get answers: an entry's values as they lie in the list. -/
def RetGl (w : World) (o : Option En) (e : Ending) (w' : World) : Prop :=
  (o = none ∧ e = .returned (.tuple #[.agg #[.slice none 0 0, .int .u64 0, .int .u8 0, .slice none 0 0], .bool false]) ∧ Below w.heap.size w w') ∨
  ∃ x v0 v1 v2 v3, o = some x ∧ e = .returned (.tuple #[.agg #[v0, v1, v2, v3], .bool true]) ∧ EV w' x v0 v1 v2 v3 ∧ Below w.heap.size w w'
theorem findL_at {key : List UInt8} {at_ k : Nat} {es : List En} {x : En} (h : findL key at_ (es.take k) = none) (hx : es[k]? = some x) (hk : (eqB x.key key && decide (x.seq ≤ at_)) = true) : findL key at_ es = some x := by
  have hlt := (List.getElem?_eq_some_iff.1 hx).1
  have e : es = es.take k ++ x :: es.drop (k + 1) := by
    have hd : es.drop k = x :: es.drop (k + 1) := by rw [List.drop_eq_getElem_cons hlt, (List.getElem?_eq_some_iff.1 hx).2]
    rw [← hd, List.take_append_drop]
  unfold findL at h ⊢
  rw [e, List.find?_append, h, List.find?_cons, hk]
  rfl
theorem findL_snoc {key : List UInt8} {at_ k : Nat} {es : List En} {x : En} (h : findL key at_ (es.take k) = none) (hx : es[k]? = some x) (hk : (eqB x.key key && decide (x.seq ≤ at_)) = false) : findL key at_ (es.take (k + 1)) = none := by
  unfold findL at h ⊢
  rw [List.take_add_one, hx, List.find?_append, h]
  simp only [Option.toList, List.find?_cons, hk]
  rfl
set_option maxRecDepth 100000 in
set_option maxHeartbeats 4000000 in
theorem refGet_any {w : World} {A F : Option Addr} {n c fn fc at_ : Nat} {es : List En} {key : List UInt8} (h : REs w A n es) (hn : n ≤ 1099511627776) (hs : ∀ x ∈ es, SzE x) (hf : Rd w F fn key) (hfn : fn ≤ maxLen) :
    Calls Try.prog 27 #[.slice A n c, .slice F fn fc, .int .u64 (at_ : Int)] w (RetGl w (findL key at_ es)) := by
  obtain ⟨U, hU⟩ : ∃ U, U = w.alloc (.cells #[.slice none 0 0, .int .u64 0, .int .u8 0, .slice none 0 0] 38) := ⟨_, rfl⟩
  have bU : Below w.heap.size w U := by rw [hU]; exact (Below.refl _ _).alloc (Nat.le_refl _) _
  have ZU := Lib.hid (show Cl U w.heap.size #[.slice none 0 0, .int .u64 0, .int .u8 0, .slice none 0 0] 38 by rw [hU]; exact Cl.new _ _ _)
  have H1 := Lib.hid h
  have HF := Lib.hid (hf.below bU)
  have HLN := Lib.hid h.len
  have HS := Lib.hid hs
  have BU := Lib.hid bU
  clear h hs hf bU
  go_enter Try.func27, Try.ntmps27
  go_upto_region 1 with (fail)
  rw [← hU]
  clear hU
  go_wp2_with fail
  go_loopw [8] (fun s8 wr => ∃ k q : Nat, k ≤ n ∧ s8 = .int .i64 (k : Int) ∧ findL key at_ (es.take k) = none ∧ wr = U.drewN q) (fun s _ => n - (intOf s).toNat)
  case atStart => exact ⟨0, 0, Nat.zero_le _, rfl, rfl, rfl⟩
  case round =>
    obtain ⟨k, q, hk', rfl, hin, hX⟩ := hrel
    have hBr : Below U.heap.size U wr := by rw [hX]; exact below_drewN (Below.refl _ _) q
    have HBr := Lib.hid hBr
    have HX := Lib.hid hX
    have HIN := Lib.hid hin
    have HFR := Lib.hid (HF.out.below hBr)
    have ZR := Lib.hid (ZU.out.below hBr)
    have BWr := Lib.hid (belowT' BU.out hBr)
    have hR := H1.out.below BWr.out
    clear hX hin hBr
    by_cases hlt : k < n
    · obtain ⟨b, off, hAb, hbw⟩ := H1.out.pos (by omega)
      subst hAb
      obtain ⟨x, u0, u1, u2, u3, hx, c0', c1', c2', c3', hew⟩ := H1.out.at_ k hlt
      have hbl : b < wr.heap.size := Nat.lt_of_lt_of_le hbw BWr.out.size
      have c0 := (BWr.out.cell hbw).trans c0'
      have c1 := (BWr.out.cell hbw).trans c1'
      have c2 := (BWr.out.cell hbw).trans c2'
      have c3 := (BWr.out.cell hbw).trans c3'
      have hev := hew.below BWr.out
      obtain ⟨L, ln, lc, M, mn, mc, rfl, rfl, rfl, rfl, q0, _⟩ := hev.parts
      have hsx := HS.out x (List.mem_of_getElem? hx)
      have hln : ln ≤ maxLen := maxLen_e (by rw [← q0.len]; exact hsx.1)
      have HXK := Lib.hid hx
      have HEV := Lib.hid hew
      obtain ⟨z, hz⟩ : ∃ z, z = eqB x.key key := ⟨_, rfl⟩
      have HE : Hid (Calls Try.prog 43 #[.slice L ln lc, .slice F fn fc] wr (RetB wr z)) := Lib.hid (by rw [hz]; exact Equal_any _ _ _ _ _ _ x.key key _ q0 HFR.out hln hfn)
      have HSK : Hid ((eqB x.key key && decide (x.seq ≤ at_)) = (z && decide (x.seq ≤ at_))) := Lib.hid (by rw [hz])
      clear hR hx hev hew q0 hz c0' c1' c2' c3'
      cases z with
      | true =>
        by_cases hle : x.seq ≤ at_
        · have HFD : Hid (findL key at_ es = some x) := Lib.hid (findL_at HIN.out HXK.out (by rw [HSK.out]; simpa using hle))
          go_wp2_with fail
          with_reducible refine HE.out.mono ?_
          rintro e w1 ⟨rfl, q1, rfl⟩
          have b1 : Below wr.heap.size wr (wr.drewN q1) := below_drewN (Below.refl _ _) q1
          obtain ⟨w2, hw2⟩ : ∃ w2, w2 = wr.drewN q1 := ⟨_, rfl⟩
          rw [← hw2] at b1 ⊢
          have B2 := Lib.hid (belowT' BWr.out b1)
          have Z2 := Lib.hid (ZR.out.below b1)
          have d0 := (b1.cell hbl).trans c0
          have d1 := (b1.cell hbl).trans c1
          have d2 := (b1.cell hbl).trans c2
          have d3 := (b1.cell hbl).trans c3
          obtain ⟨g0, g1, g2, g3, k0, k1, k2, k3⟩ := Z2.out.c4
          clear c0 c1 c2 c3 b1 hw2
          go_wp2_with fail
          obtain ⟨X, hX⟩ : ∃ X, X = ((((w2.setCell ⟨w.heap.size, 0, none⟩ (.slice L ln lc)).setCell ⟨w.heap.size, 1, none⟩ (.int .u64 (x.seq : Int))).setCell ⟨w.heap.size, 2, none⟩ (.int .u8 (x.kind : Int))).setCell ⟨w.heap.size, 3, none⟩ (.slice M mn mc)) := ⟨_, rfl⟩
          rw [← hX]
          have zX : Cl X w.heap.size #[.slice L ln lc, .int .u64 (x.seq : Int), .int .u8 (x.kind : Int), .slice M mn mc] 38 := by rw [hX]; exact Z2.out.put4 rfl _ _ _ _
          have bX : Below w.heap.size w X := by rw [hX]; exact below_set (below_set (below_set (below_set B2.out 0 _ (Nat.le_refl _)) 1 _ (Nat.le_refl _)) 2 _ (Nat.le_refl _)) 3 _ (Nat.le_refl _)
          have EVX : EV X x (.slice L ln lc) (.int .u64 (x.seq : Int)) (.int .u8 (x.kind : Int)) (.slice M mn mc) := HEV.out.below bX
          obtain ⟨x0, x1, x2, x3, _⟩ := zX.c4
          refine bodyPost_ret (v := .tuple #[.agg #[.slice L ln lc, .int .u64 (x.seq : Int), .int .u8 (x.kind : Int), .slice M mn mc], .bool true]) (by simp [results, Try.results27, go_sem, x0, x1, x2, x3]; try rfl) rfl (.inr ⟨x, _, _, _, _, HFD.out, rfl, EVX, bX⟩)
        · have HNX : Hid (findL key at_ (es.take (k + 1)) = none) := Lib.hid (findL_snoc HIN.out HXK.out (by rw [HSK.out]; simpa using hle))
          have BN : Hid (∀ q1, wr.drewN q1 = U.drewN (q + q1)) := Lib.hid (fun q1 => by rw [HX.out, World.drewN_drewN])
          go_wp2_with fail
          with_reducible refine HE.out.mono ?_
          rintro e w1 ⟨rfl, q1, rfl⟩
          go_wp2_with fail
          go_roundw
          case rel => exact ⟨k + 1, q + q1, by omega, by go_num, HNX.out, BN.out q1⟩
          case measure => simp [intOf]; omega
      | false =>
        have HNX : Hid (findL key at_ (es.take (k + 1)) = none) := Lib.hid (findL_snoc HIN.out HXK.out (by rw [HSK.out]; rfl))
        have BN : Hid (∀ q1, wr.drewN q1 = U.drewN (q + q1)) := Lib.hid (fun q1 => by rw [HX.out, World.drewN_drewN])
        go_wp2_with fail
        with_reducible refine HE.out.mono ?_
        rintro e w1 ⟨rfl, q1, rfl⟩
        go_wp2_with fail
        go_roundw
        case rel => exact ⟨k + 1, q + q1, by omega, by go_num, HNX.out, BN.out q1⟩
        case measure => simp [intOf]; omega
    · have htk : es.take k = es := List.take_of_length_le (by have := HLN.out; omega)
      have HFD : Hid (findL key at_ es = none) := Lib.hid (by rw [← htk]; exact HIN.out)
      obtain ⟨g0, g1, g2, g3, k0, k1, k2, k3⟩ := ZR.out.c4
      clear htk hR
      go_wp2_with fail
      obtain ⟨X, hX⟩ : ∃ X, X = ((((wr.setCell ⟨w.heap.size, 0, none⟩ (.slice none 0 0)).setCell ⟨w.heap.size, 1, none⟩ (.int .u64 0)).setCell ⟨w.heap.size, 2, none⟩ (.int .u8 0)).setCell ⟨w.heap.size, 3, none⟩ (.slice none 0 0)) := ⟨_, rfl⟩
      rw [← hX]
      have zX : Cl X w.heap.size #[.slice none 0 0, .int .u64 0, .int .u8 0, .slice none 0 0] 38 := by rw [hX]; exact ZR.out.put4 rfl _ _ _ _
      have bX : Below w.heap.size w X := by rw [hX]; exact below_set (below_set (below_set (below_set BWr.out 0 _ (Nat.le_refl _)) 1 _ (Nat.le_refl _)) 2 _ (Nat.le_refl _)) 3 _ (Nat.le_refl _)
      obtain ⟨x0, x1, x2, x3, _⟩ := zX.c4
      refine bodyPost_ret (v := .tuple #[.agg #[.slice none 0 0, .int .u64 0, .int .u8 0, .slice none 0 0], .bool false]) (by simp [results, Try.results27, go_sem, x0, x1, x2, x3]; try rfl) rfl (.inl ⟨HFD.out, rfl, bX⟩)
end Go.Proofs.Ytheefpgokdejcaa
