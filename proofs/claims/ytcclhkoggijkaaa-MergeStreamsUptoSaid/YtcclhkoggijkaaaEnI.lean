/- The reference over entries: Range. No condition but sizes. -/
import Derived.Test.YtcclhkoggijkaaaBkA
import Derived.Test.YtcclhkoggijkaaaEnD
import Derived.Deep.QuietTactic
import Derived.BigQuiet
import Derived.Test.YtcclhkoggijkaaaOpenE
import Derived.Test.YtcclhkoggijkaaaEnL
import Derived.Deep.LoopGhost
import Derived.Test.YtcclhkoggijkaaaEnC
import Derived.Deep.RegionHeld3
import Derived.Deep.DeepCutAuto
import Derived.Deep.CutBlock
import Derived.Deep.RegionLaw
import Derived.Test.YtcclhkoggijkaaaNext
import Derived.Test.YtcclhkoggijkaaaCl
import Derived.Test.YtcclhkoggijkaaaFamD
import Derived.Test.YtcclhkoggijkaaaCrcV
namespace Go.Proofs.Ytcclhkoggijkaaa
open Go Go.RowKit

theorem ClG.grown {w w' : World} {p : Nat} {us : Array Value} {ty : TypeId} {row : Option Nat} (h : Cl w p us ty) (hg : w.grownBy w' row) (hne : row ≠ some p) : Cl w' p us ty := by
  obtain ⟨_, _, _, h4, h5⟩ := hg
  exact (h5 p h.lt (fun e => hne e.symm)).trans h
/-- The bytes of an entry of whose key s are left out. -/
def entB (s : Nat) (x : En) : List UInt8 := putU s ++ (putU (x.key.length - s) ++ (putU x.seq ++ ([bt x.kind] ++ (putU x.val.length ++ (x.key.drop s ++ x.val)))))
/-- What stands between two appends: the entry's box, the row so far. -/
def AE (w0 U : World) (g : Nat) (cs : Array Value) (A Ai : Option Addr) (n c : Nat) (xs : List UInt8) (wi : World) : Prop :=
  Cl wi g cs 37 ∧ blk Ai ≠ some g ∧ Own 5 wi w0.heap.size Ai n c xs ∧ Grow U wi A Ai ∧ Below w0.heap.size w0 wi
section
variable {w0 U wi wj : World} {g n c n' c' : Nat} {cs : Array Value} {A Ai Aj : Option Addr} {xs ys : List UInt8}
theorem AE.below (h : AE w0 U g cs A Ai n c xs wi) (hb : Below wi.heap.size wi wj) : AE w0 U g cs A Ai n c xs wj := by
  obtain ⟨h1, h2, h3, h4, h5⟩ := h
  exact ⟨h1.below hb, h2, h3.below hb, h4.trans (Grow.of_below Ai hb), h5.trans (hb.mono h5.size)⟩
theorem AE.app (h : AE w0 U g cs A Ai n c xs wi) (ho : Own 5 wj w0.heap.size Aj n' c' ys) (hg : Grow wi wj Ai Aj) : AE w0 U g cs A Aj n' c' ys wj := by
  obtain ⟨h1, h2, h3, h4, h5⟩ := h
  refine ⟨ClG.grown h1 hg.1 h2, fun e => ?_, ho, h4.trans hg, h5.trans (hg.below h3 h5.size)⟩
  rcases hg.2 with e2 | e2
  · exact h2 (e2.symm.trans e)
  · have := e2 g e
    have := h1.lt
    omega
end
set_option maxRecDepth 100000 in
set_option maxHeartbeats 8000000 in
theorem appendEntry_any {w0 w : World} {x : En} {v0 v1 v2 v3 : Value} (hx : EV w0 x v0 v1 v2 v3) (sx : SzE x) (s : Nat) (hs : s ≤ x.key.length) (A : Option Addr) (n c : Nat) (xs : List UInt8) (ho : Own 5 w w0.heap.size A n c xs) (hb : Below w0.heap.size w0 w) (hn : n ≤ 1099511627776) :
    Calls Try.prog 190 #[.slice A n c, .int .i64 (s : Int), .agg #[v0, v1, v2, v3]] w (RetAp w0.heap.size w A n xs (entB s x)) := by
  obtain ⟨K, kn, kc, V, vn, vc, rfl, rfl, rfl, rfl, r0, r3, c0, c3, d0, d3, s1, s2⟩ := hx.parts
  have l1 := r0.len
  have l2 := r3.len
  have hkn : kn ≤ 1099511627776 := by have := sx.1; omega
  have hvn : vn ≤ 1099511627776 := by have := sx.2; omega
  have hskn : s ≤ kn := by omega
  obtain ⟨U, hU⟩ : ∃ U, U = w.alloc (.cells #[.slice K kn kc, .int .u64 (x.seq : Int), .int .u8 (x.kind : Int), .slice V vn vc] 37) := ⟨_, rfl⟩
  obtain ⟨g, hg⟩ : ∃ g, g = w.heap.size := ⟨_, rfl⟩
  have hsz := hb.size
  have A0 : AE w0 w g #[.slice K kn kc, .int .u64 (x.seq : Int), .int .u8 (x.kind : Int), .slice V vn vc] A A n c xs U := by
    have hbU : Below w.heap.size w U := by rw [hU]; exact (Below.refl _ _).alloc (Nat.le_refl _) _
    refine ⟨by rw [hU, hg]; exact Cl.new _ _ _, fun e => ?_, ho.below hbU, Grow.of_below A hbU, hb.trans (hbU.mono hsz)⟩
    have := (ho.lt g e).2
    omega
  obtain ⟨z, hz⟩ : ∃ z, z = kn - s := ⟨_, rfl⟩
  have r0b : ∀ wi : World, Below w0.heap.size w0 wi → Rd wi (cutA K s kc) z (x.key.drop s) := fun wi hwi => by
    have h := (r0.below hwi).cut hskn (Nat.le_refl kn) c0
    rw [List.take_of_length_le (by omega)] at h
    rw [hz]
    exact h
  have hsl : ∀ W : World, (Instr.slice 25 (.slice K kn kc) (some (.int .i64 (s : Int))) none none).run Try.prog W = .ok (.slice (cutA K s kc) z (kc - s)) W := by
    rw [hz]
    exact cut_l Try.underlying25 elem_bytes size_u8 K hskn
  have hzn : z ≤ 1099511627776 := by omega
  have hsn : s ≤ 1099511627776 := by omega
  have R0 := Lib.hid r0b
  have R3 := Lib.hid r3
  have HL2 := Lib.hid l2
  have hc := A0.1.c4
  rw [hg] at hc
  have hseq : x.seq < 18446744073709551616 := s1
  have hEB : entB s x = putU s ++ (putU z ++ (putU x.seq ++ ([bt x.kind] ++ (putU vn ++ (x.key.drop s ++ x.val))))) := by
    unfold entB
    rw [hz, l1, l2]
  have HE := Lib.hid hEB
  have hdl : (x.key.drop s).length = z := by rw [List.length_drop]; omega
  have HDL := Lib.hid hdl
  have p1 := putU_len64 s (show s < B64 by unfold B64; omega)
  have p2 := putU_len64 z (show z < B64 by unfold B64; omega)
  have p3 := putU_len64 x.seq (show x.seq < B64 from hseq)
  have p5 := putU_len64 vn (show vn < B64 by unfold B64; omega)
  have HA := Lib.hid A0
  clear hx r0 r3 l1 l2 A0 ho r0b hz hEB hdl hs sx hskn
  go_enter Try.func190, Try.ntmps190
  go_wp2_with fail
  rw [← hU]
  refine (PutU_any s _ (by unfold B64; omega)).mono ?_
  rintro e wa1 ⟨P1, m1, d1, rfl, oP1, bP1⟩
  obtain rfl : (putU s).length = m1 := oP1.len
  have HB1 := Lib.hid (HA.out.below bP1)
  have rP1 := oP1.rd
  clear oP1 bP1 HA hc
  go_wp2_with (at_builtin; refine wpList_appX _ rfl _ _ 25 rfl w0.heap.size 5 Try.underlying25 info_u8 A _ _ _ rfl HB1.out.2.2.1 P1 (putU s).length d1 (putU s) rfl rP1 ?_ ?_ ?_)
  · omega
  · exact HB1.out.2.2.2.2.size
  intro A1 c1 w1 o1 g1
  have HA1 := Lib.hid (HB1.out.app o1 g1)
  have hc := HA1.out.1.c4
  rw [hg] at hc
  clear o1 g1 HB1 rP1
  go_wp2_with fail
  refine (PutU_any z _ (by unfold B64; omega)).mono ?_
  rintro e wa2 ⟨P2, m2, d2, rfl, oP2, bP2⟩
  obtain rfl : (putU z).length = m2 := oP2.len
  have HB2 := Lib.hid (HA1.out.below bP2)
  have rP2 := oP2.rd
  clear oP2 bP2 HA1 hc
  go_wp2_with (at_builtin; refine wpList_appX _ rfl _ _ 25 rfl w0.heap.size 5 Try.underlying25 info_u8 A1 _ _ _ rfl HB2.out.2.2.1 P2 (putU z).length d2 (putU z) rfl rP2 ?_ ?_ ?_)
  · omega
  · exact HB2.out.2.2.2.2.size
  intro A2 c2 w2 o2 g2
  have HA2 := Lib.hid (HB2.out.app o2 g2)
  have hc := HA2.out.1.c4
  rw [hg] at hc
  clear o2 g2 HB2 rP2
  go_wp2_with fail
  refine (PutU_any x.seq _ (by unfold B64; omega)).mono ?_
  rintro e wa3 ⟨P3, m3, d3, rfl, oP3, bP3⟩
  obtain rfl : (putU x.seq).length = m3 := oP3.len
  have HB3 := Lib.hid (HA2.out.below bP3)
  have rP3 := oP3.rd
  clear oP3 bP3 HA2 hc
  go_wp2_with (at_builtin; refine wpList_appX _ rfl _ _ 25 rfl w0.heap.size 5 Try.underlying25 info_u8 A2 _ _ _ rfl HB3.out.2.2.1 P3 (putU x.seq).length d3 (putU x.seq) rfl rP3 ?_ ?_ ?_)
  · omega
  · exact HB3.out.2.2.2.2.size
  intro A3 c3 w3 o3 g3
  have HA3 := Lib.hid (HB3.out.app o3 g3)
  have hc := HA3.out.1.c4
  rw [hg] at hc
  clear o3 g3 HB3 rP3
  go_wp2_with (at_builtin; refine wpList_appX _ rfl _ _ 25 rfl w0.heap.size 5 Try.underlying25 info_u8 A3 _ _ _ rfl (HA3.out.2.2.1.alloc _) _ 1 1 [bt x.kind] rfl (Rd.one _ _ _ _ ?_) ?_ ?_ ?_)
  · rw [bt_nat _ (by omega)]
  · omega
  · have := HA3.out.2.2.2.2.size; simp; omega
  intro A4 c4 w4 o4 g4
  have HA4 := Lib.hid ((HA3.out.below ((Below.refl _ _).alloc (Nat.le_refl _) _)).app o4 g4)
  have hc := HA4.out.1.c4
  rw [hg] at hc
  clear o4 g4 HA3
  go_wp2_with fail
  refine (PutU_any vn _ (by unfold B64; omega)).mono ?_
  rintro e wa5 ⟨P5, m5, d5, rfl, oP5, bP5⟩
  obtain rfl : (putU vn).length = m5 := oP5.len
  have HB5 := Lib.hid (HA4.out.below bP5)
  have rP5 := oP5.rd
  clear oP5 bP5 HA4 hc
  go_wp2_with (at_builtin; refine wpList_appX _ rfl _ _ 25 rfl w0.heap.size 5 Try.underlying25 info_u8 A4 _ _ _ rfl HB5.out.2.2.1 P5 (putU vn).length d5 (putU vn) rfl rP5 ?_ ?_ ?_)
  · omega
  · exact HB5.out.2.2.2.2.size
  intro A5 c5 w5 o5 g5
  have HA5 := Lib.hid (HB5.out.app o5 g5)
  have hc := HA5.out.1.c4
  rw [hg] at hc
  clear o5 g5 HB5 rP5
  have rd6 := R0.out _ HA5.out.2.2.2.2
  go_wp2_with (at_builtin; refine wpList_appX _ rfl _ _ 25 rfl w0.heap.size 5 Try.underlying25 info_u8 A5 _ _ _ rfl HA5.out.2.2.1 (cutA K s kc) z (kc - s) (x.key.drop s) rfl rd6 ?_ ?_ ?_)
  · omega
  · exact HA5.out.2.2.2.2.size
  intro A6 c6 w6 o6 g6
  have HA6 := Lib.hid (HA5.out.app o6 g6)
  have hc := HA6.out.1.c4
  rw [hg] at hc
  have rd7 := R3.out.below HA6.out.2.2.2.2
  clear o6 g6 HA5 rd6
  go_wp2_with (at_builtin; refine wpList_appX _ rfl _ _ 25 rfl w0.heap.size 5 Try.underlying25 info_u8 A6 _ _ _ rfl HA6.out.2.2.1 V vn vc x.val rfl rd7 ?_ ?_ ?_)
  · omega
  · exact HA6.out.2.2.2.2.size
  intro A7 c7 w7 o7 g7
  have HA7 := Lib.hid (HA6.out.app o7 g7)
  clear o7 g7 HA6 rd7 hc
  go_wp2_with fail
  go_ret
  obtain ⟨_, _, o, gr, _⟩ := HA7.out
  have hl : (entB s x).length = (putU s).length + (putU z).length + (putU x.seq).length + 1 + (putU vn).length + z + vn := by
    rw [HE.out]
    simp only [List.length_append, List.length_cons, List.length_nil, HDL.out, HL2.out]
    omega
  have hn : n + (entB s x).length = (((((n + (putU s).length) + (putU z).length) + (putU x.seq).length) + 1) + (putU vn).length) + z + vn := by omega
  have hxs : xs ++ entB s x = (((((xs ++ putU s) ++ putU z) ++ putU x.seq) ++ [bt x.kind]) ++ putU vn) ++ x.key.drop s ++ x.val := by
    rw [HE.out]
    simp only [List.append_assoc]
  unfold RetAp
  rw [hn, hxs]
  simp only [List.append_assoc] at o ⊢
  exact ⟨A7, c7, rfl, o, gr⟩
end Go.Proofs.Ytcclhkoggijkaaa
namespace Go.Proofs.Ytcclhkoggijkaaa
open Go Go.RowKit

/-- The same key and number. -/
def sameK (x e : En) : Bool := eqB x.key e.key && decide (x.seq = e.seq)
def inL (es : List En) (e : En) : Bool := es.any (fun x => sameK x e)
theorem inL_at {es : List En} {e x : En} {k : Nat} (hx : es[k]? = some x) (h : sameK x e = true) : inL es e = true := List.any_eq_true.2 ⟨x, List.mem_of_getElem? hx, h⟩
theorem inL_snoc {es : List En} {e x : En} {k : Nat} (hx : es[k]? = some x) (h : inL (es.take k) e = false) (hk : sameK x e = false) : inL (es.take (k + 1)) e = false := by
  rw [List.take_add_one, hx]
  unfold inL at h ⊢
  rw [List.any_append, h]
  simp [hk]
set_option maxRecDepth 100000 in
set_option maxHeartbeats 4000000 in
theorem In_any {w : World} {A : Option Addr} {n c : Nat} {es : List En} {e : En} {v0 v1 v2 v3 : Value} (h : REs w A n es) (hn : n ≤ 1099511627776) (hs : ∀ x ∈ es, SzE x) (he : EV w e v0 v1 v2 v3) (se : SzE e) :
    Calls Try.prog 83 #[.slice A n c, .agg #[v0, v1, v2, v3]] w (RetT w (inL es e)) := by
  obtain ⟨K, kn, kc, V, vn, vc, rfl, rfl, rfl, rfl, r0, _⟩ := he.parts
  obtain ⟨U, hU⟩ : ∃ U, U = w.alloc (.cells #[.slice K kn kc, .int .u64 (e.seq : Int), .int .u8 (e.kind : Int), .slice V vn vc] 37) := ⟨_, rfl⟩
  have bU : Below w.heap.size w U := by rw [hU]; exact (Below.refl _ _).alloc (Nat.le_refl _) _
  have XU := Lib.hid (show Cl U w.heap.size #[.slice K kn kc, .int .u64 (e.seq : Int), .int .u8 (e.kind : Int), .slice V vn vc] 37 by rw [hU]; exact Cl.new _ _ _)
  have hk : kn ≤ maxLen := maxLen_e (by rw [← r0.len]; exact se.1)
  have HK := Lib.hid (r0.below bU)
  have H1 := Lib.hid (h.below bU)
  have HLN := Lib.hid h.len
  have HS := Lib.hid hs
  have BU := Lib.hid bU
  clear h hs he r0 bU
  go_enter Try.func83, Try.ntmps83
  go_upto_block 1 with fail
  rw [← hU]
  clear hU
  go_wp2_with fail
  go_loopw [5] (fun s5 wr => ∃ k : Nat, k ≤ n ∧ s5 = .int .i64 (k : Int) ∧ inL (es.take k) e = false ∧ Below U.heap.size U wr) (fun s _ => n - (intOf s).toNat)
  case atStart => exact ⟨0, Nat.zero_le _, rfl, rfl, Below.refl _ _⟩
  case round =>
    obtain ⟨k, hk', rfl, hin, hB⟩ := hrel
    have HB := Lib.hid hB
    have HIN := Lib.hid hin
    have XR := Lib.hid (XU.out.below hB)
    have HKR := Lib.hid (HK.out.below hB)
    have hR := H1.out.below hB
    clear hB hin
    by_cases hlt : k < n
    · obtain ⟨b, off, hAb, hbl⟩ := hR.pos (by omega)
      subst hAb
      obtain ⟨x, u0, u1, u2, u3, hx, c0, c1, c2, c3, hev⟩ := hR.at_ k hlt
      obtain ⟨L, ln, lc, M, mn, mc, rfl, rfl, rfl, rfl, q0, _⟩ := hev.parts
      have hsx := HS.out x (List.mem_of_getElem? hx)
      have hln : ln ≤ maxLen := maxLen_e (by rw [← q0.len]; exact hsx.1)
      have HXK := Lib.hid hx
      obtain ⟨z, hz⟩ : ∃ z, z = eqB x.key e.key := ⟨_, rfl⟩
      have HE : Hid (∀ q, Calls Try.prog 14 #[.slice L ln lc, .slice K kn kc] (wr.drewN q) (RetB (wr.drewN q) z)) := Lib.hid (fun q => by rw [hz]; exact Equal_any _ _ _ _ _ _ x.key e.key _ (q0.drewN q) (HKR.out.drewN q) hln hk)
      have HSK : Hid (sameK x e = (z && decide (x.seq = e.seq))) := Lib.hid (by rw [hz]; rfl)
      obtain ⟨d0, d1, d2, d3, _⟩ := XR.out.c4
      clear hR hx hev q0 hz
      by_cases hsq : x.seq = e.seq
      · cases z with
        | true =>
          have HTR : Hid (inL es e = true) := Lib.hid (inL_at HXK.out (by rw [HSK.out]; simpa using hsq))
          go_wp2
          go_quiet ((go_at_call 14; with_reducible exact Calls.quiet_of (HE.out _)))
          have BN := Lib.hid (below_drewN (belowT' BU.out HB.out) nq)
          clear c0 c1 c2 c3 d0 d1 d2 d3
          go_wp2
          go_ret
          exact ⟨by rw [HTR.out]; rfl, BN.out⟩
        | false =>
          have HNX : Hid (inL (es.take (k + 1)) e = false) := Lib.hid (inL_snoc HXK.out HIN.out (by rw [HSK.out]; simp))
          go_wp2
          go_quiet ((go_at_call 14; with_reducible exact Calls.quiet_of (HE.out _)))
          have BN := Lib.hid (below_drewN HB.out nq)
          clear c0 c1 c2 c3 d0 d1 d2 d3
          go_wp2
          go_roundw
          case rel => exact ⟨k + 1, by omega, by go_num, HNX.out, BN.out⟩
          case measure => simp [intOf]; omega
      · cases z with
        | true =>
          have HNX : Hid (inL (es.take (k + 1)) e = false) := Lib.hid (inL_snoc HXK.out HIN.out (by rw [HSK.out]; simp; exact hsq))
          go_wp2
          go_quiet ((go_at_call 14; with_reducible exact Calls.quiet_of (HE.out _)))
          have BN := Lib.hid (below_drewN HB.out nq)
          clear c0 c1 c2 c3 d0 d1 d2 d3
          go_wp2
          go_roundw
          case rel => exact ⟨k + 1, by omega, by go_num, HNX.out, BN.out⟩
          case measure => simp [intOf]; omega
        | false =>
          have HNX : Hid (inL (es.take (k + 1)) e = false) := Lib.hid (inL_snoc HXK.out HIN.out (by rw [HSK.out]; simp))
          go_wp2
          go_quiet ((go_at_call 14; with_reducible exact Calls.quiet_of (HE.out _)))
          have BN := Lib.hid (below_drewN HB.out nq)
          clear c0 c1 c2 c3 d0 d1 d2 d3
          go_wp2
          go_roundw
          case rel => exact ⟨k + 1, by omega, by go_num, HNX.out, BN.out⟩
          case measure => simp [intOf]; omega
    · have htk : es.take k = es := List.take_of_length_le (by have := HLN.out; omega)
      have HFN : Hid (inL es e = false) := Lib.hid (by rw [← htk]; exact HIN.out)
      have BW := Lib.hid (belowT' BU.out HB.out)
      clear htk hR
      go_wp2
      go_ret
      exact ⟨by rw [HFN.out]; rfl, BW.out⟩
end Go.Proofs.Ytcclhkoggijkaaa
namespace Go.Proofs.Ytcclhkoggijkaaa
open Go Go.RowKit Go.Deep Go.ChangeShapes Go.WideShapes Go.ChangeAt

theorem totLs_bulk {H : Type} : ∀ (al : List (List En)) (D : Nat → DataW H), (∀ i a, al[i]? = some a → totE a + 1 ≤ Rows.uptoBulk (D i) + 1) → (∀ i, 1 ≤ Rows.uptoBulk (D i)) → totLs al ≤ Rows.uptoBulkAll ((List.range al.length).map D) + al.length
  | [], D, _, _ => by simp [totLs]
  | a :: t, D, h, h0 => by
    have h1 := h 0 a rfl
    have h2 := totLs_bulk t (fun i => D (i + 1)) (fun i b hb => h (i + 1) b (by simpa using hb)) (fun i => h0 (i + 1))
    rw [List.length_cons, List.range_succ_eq_map, List.map_cons, List.map_map, totLs, Rows.uptoBulkAll]
    have e : (List.range t.length).map (D ∘ Nat.succ) = (List.range t.length).map (fun i => D (i + 1)) := rfl
    rw [e]
    omega
theorem bulkAll_len {H : Type} (D : Nat → DataW H) (n : Nat) : n ≤ Rows.uptoBulkAll ((List.range n).map D) := by
  have := length_le (H := H) ((List.range n).map D)
  simpa using this
set_option maxRecDepth 100000 in
theorem lists_of {H : Type} {enc : TypeId × Value → H} {w : World} {base fuel : Nat} {held : Bool} {A : Option Addr} {len cap : Nat} {x : DataW H × List MemPlace} (h : DataW.trod enc Try.prog w base (fun _ => true) held fuel 53 [.slice A len cap] = some x) :
    ∃ al : List (List En), RLs w A len al ∧ len ≤ cap ∧ totLs al ≤ 2 * Rows.uptoBulk x.1 := by
  rcases open_slice1 Try.underlying53 (by kernel_rfl) h with ⟨hcs, hx⟩ | ⟨a, l, c, m, n, V, D, Pl, hcs, _, hl, hm, hmm, hx, hi⟩
  · simp at hcs
    obtain ⟨rfl, rfl, rfl⟩ := hcs
    exact ⟨[], ⟨rfl, fun h => absurd h (by omega)⟩, Nat.le_refl _, by simp [totLs]⟩
  · simp at hcs
    obtain ⟨rfl, rfl, rfl⟩ := hcs
    simp at hmm
    subst hmm
    have key : ∀ i, i < len → ∃ es : List En, (∃ B m c, w.cell? (a.add i) = some (.slice B m c) ∧ REs w B m es ∧ m ≤ c) ∧ totE es ≤ Rows.uptoBulk (D i) := by
      intro i hil
      obtain ⟨hc, ht⟩ := hi i (by omega)
      have hsl : ∃ B m c, V i = .slice B m c := by
        rcases open_slice Try.underlying22 ht with ⟨hcs, _⟩ | ⟨a', l', c', _, _, _, _, hcs, _⟩
        · simp at hcs; exact ⟨_, _, _, hcs⟩
        · simp at hcs; exact ⟨_, _, _, hcs⟩
      obtain ⟨B, m, c, hV⟩ := hsl
      rw [hV] at hc ht
      obtain ⟨es, h1, h2, h3⟩ := ents_of ht
      exact ⟨es, ⟨B, m, c, hc, h1, h2⟩, h3⟩
    obtain ⟨al, hal, hall⟩ := list_of len key
    refine ⟨al, ⟨hal, fun hn => ?_⟩, hl, ?_⟩
    · obtain ⟨b, off, spot⟩ := a
      obtain ⟨es, ⟨B, m, c, m0, _⟩, _⟩ := key 0 hn
      have hspot : spot = none := by
        have := World.cell?_spot m0
        simpa [Addr.add] using this
      subst hspot
      rw [addA] at m0
      refine ⟨b, off, rfl, World.block_lt_of_cell? w _ m0, fun i es hes => ?_⟩
      obtain ⟨⟨B, m, c, h1, h2, h3⟩, _⟩ := hall i es hes
      rw [addA] at h1
      exact ⟨B, m, c, h1, h2, h3⟩
    · have hb := totLs_bulk al D (fun i es hes => by have := (hall i es hes).2; omega) (fun i => bulk_pos _)
      have hq := bulkAll_len D al.length
      rw [hal] at hb hq
      rw [hx]
      simp only [Rows.uptoBulk]
      omega
theorem totAk_bulk {H : Type} : ∀ (al : List AskP) (D : Nat → DataW H), (∀ i a, al[i]? = some a → wAk a + 1 ≤ Rows.uptoBulk (D i)) → totAk al ≤ Rows.uptoBulkAll ((List.range al.length).map D)
  | [], D, _ => by simp [totAk]
  | a :: t, D, h => by
    have h1 := h 0 a rfl
    have h2 := totAk_bulk t (fun i => D (i + 1)) (fun i b hb => h (i + 1) b (by simpa using hb))
    rw [List.length_cons, List.range_succ_eq_map, List.map_cons, List.map_map, totAk, Rows.uptoBulkAll]
    have e : (List.range t.length).map (D ∘ Nat.succ) = (List.range t.length).map (fun i => D (i + 1)) := rfl
    rw [e]
    omega
end Go.Proofs.Ytcclhkoggijkaaa
namespace Go.Proofs.Ytcclhkoggijkaaa
open Go Go.RowKit

/-- The least place at which p says yes. -/
def RetSe (w : World) (n : Nat) (p : Nat → Bool) (e : Ending) (w' : World) : Prop :=
  ∃ r : Nat, e = .returned (.int .i64 (r : Int)) ∧ r ≤ n ∧ (∀ t, t < r → p t = false) ∧ (∀ t, r ≤ t → t < n → p t = true) ∧ Below w.heap.size w w'
set_option maxRecDepth 100000 in
set_option maxHeartbeats 4000000 in
theorem search_any (g : Nat) (cb : Array Value) (n : Nat) (p : Nat → Bool) (w : World) (eg : ∀ args w, (callFunc g args).run Try.prog w = .ok (.enter g args) w) (hn : n ≤ 1099511627776)
    (hf : ∀ wx, Below w.heap.size w wx → ∀ i : Nat, i < n → Calls Try.prog g (#[.int .i64 (i : Int)] ++ cb) wx (RetT wx (p i)))
    (hmono : ∀ a b, a ≤ b → b < n → p a = true → p b = true) :
    Calls Try.prog 78 #[.int .i64 (n : Int), .func (.func g) #[] cb] w (RetSe w n p) := by
  have HF := Lib.hid hf
  have HM := Lib.hid hmono
  clear hf hmono
  go_enter Try.func78, Try.ntmps78
  go_wp2_with fail
  go_loopw [5, 6] (fun s5 s6 wr => ∃ lo hi : Nat, s5 = .int .i64 (lo : Int) ∧ s6 = .int .i64 (hi : Int) ∧ lo ≤ hi ∧ hi ≤ n ∧ (∀ t, t < lo → p t = false) ∧ (∀ t, hi ≤ t → t < n → p t = true) ∧ Below w.heap.size w wr) (fun s5 s6 _ => (intOf s6).toNat - (intOf s5).toNat)
  case atStart => exact ⟨0, n, rfl, rfl, Nat.zero_le _, Nat.le_refl _, fun t h => absurd h (Nat.not_lt_zero _), fun t h1 h2 => absurd h2 (by omega), Below.refl _ _⟩
  case round =>
    obtain ⟨lo, hi, rfl, rfl, h1, h2, h3, h4, hB⟩ := hrel
    have HB := Lib.hid hB
    have H3 := Lib.hid h3
    have H4 := Lib.hid h4
    clear hB h3 h4
    by_cases hlt : lo < hi
    · obtain ⟨m, hm⟩ : ∃ m, m = (lo + hi) / 2 := ⟨_, rfl⟩
      have e1 : ((lo : Int) + (hi : Int)) / 2 = (m : Int) := by omega
      have hmn : m < hi := by omega
      have hml : lo ≤ m := by omega
      have hc := HF.out wr HB.out m (by omega)
      cases hp : p m with
      | true =>
        rw [hp] at hc
        have HC := Lib.hid hc
        have HP := Lib.hid hp
        have HN : Hid (∀ t, m ≤ t → t < n → p t = true) := Lib.hid (fun t ht htn => HM.out m t ht htn HP.out)
        clear hc hp hm
        go_wp2_with fail
        with_reducible refine HC.out.mono ?_
        intro e w2 hq
        obtain ⟨he, b2⟩ := RetT.outD hq
        subst he
        have B2 := Lib.hid (HB.out.trans (b2.mono HB.out.size))
        clear hq b2
        go_wp2_with fail
        go_roundw
        case rel => exact ⟨lo, m, rfl, rfl, hml, by omega, H3.out, HN.out, B2.out⟩
        case measure => simp [intOf]; omega
      | false =>
        rw [hp] at hc
        have HC := Lib.hid hc
        have HP := Lib.hid hp
        have HN : Hid (∀ t, t < m + 1 → p t = false) := Lib.hid (fun t ht => by
          cases hq : p t with
          | false => rfl
          | true =>
            have := HM.out t m (by omega) (by omega) hq
            rw [HP.out] at this
            cases this)
        clear hc hp hm
        go_wp2_with fail
        with_reducible refine HC.out.mono ?_
        intro e w2 hq
        obtain ⟨he, b2⟩ := RetT.outD hq
        subst he
        have B2 := Lib.hid (HB.out.trans (b2.mono HB.out.size))
        clear hq b2
        go_wp2_with fail
        go_roundw
        case rel => exact ⟨m + 1, hi, by go_num, rfl, by omega, h2, HN.out, H4.out, B2.out⟩
        case measure => simp [intOf]; omega
    · obtain rfl : lo = hi := by omega
      go_wp2_with fail
      go_ret
      exact ⟨lo, rfl, h2, H3.out, H4.out, HB.out⟩
end Go.Proofs.Ytcclhkoggijkaaa
namespace Go.Proofs.Ytcclhkoggijkaaa
open Go Go.RowKit

inductive Tr where
  | nil : Tr
  | node : Tr → En → Tr → Tr
def Tr.ht : Tr → Nat
  | .nil => 0
  | .node l _ r => 1 + max l.ht r.ht
def Tr.num : Tr → Nat
  | .nil => 0
  | .node l _ r => l.num + 1 + r.num
def Tr.list : Tr → List En
  | .nil => []
  | .node l e r => l.list ++ e :: r.list
theorem Tr.ht_num : ∀ t : Tr, t.ht ≤ t.num
  | .nil => Nat.le_refl _
  | .node l e r => by
    have := Tr.ht_num l
    have := Tr.ht_num r
    simp only [Tr.ht, Tr.num]
    omega
/-- 'These four values are the entry e; its bytes are the program's own and lie in good blocks.' -/
def EG (G : Nat → Prop) (w : World) (e : En) (v0 v1 v2 v3 : Value) : Prop :=
  EO 0 w e v0 v1 v2 v3 ∧ ∀ A m c g, Value.slice A m c ∈ [v0, v1, v2, v3] → blk A = some g → G g
/-- 'The entry e lies in the box at p.' -/
def EB (G : Nat → Prop) (w : World) (e : En) (p : Nat) : Prop := ∃ v0 v1 v2 v3, Cl w p #[v0, v1, v2, v3] 37 ∧ EG G w e v0 v1 v2 v3
section
variable {G : Nat → Prop} {w w' : World}
theorem EG.below {e : En} {v0 v1 v2 v3 : Value} (h : EG G w e v0 v1 v2 v3) (hb : Below w.heap.size w w') : EG G w' e v0 v1 v2 v3 := ⟨h.1.below hb, h.2⟩
theorem EB.below {e : En} {p : Nat} (h : EB G w e p) (hb : Below w.heap.size w w') : EB G w' e p := by
  obtain ⟨v0, v1, v2, v3, h1, h2⟩ := h
  exact ⟨v0, v1, v2, v3, h1.below hb, h2.below hb⟩
theorem belowT {w0 w1 w2 : World} (h : Below w0.heap.size w0 w1) (hb : Below w1.heap.size w1 w2) : Below w0.heap.size w0 w2 := h.trans (hb.mono h.size)
/-- The tree of both sides, turned where one has two levels more. -/
def balT (l : Tr) (e : En) (r : Tr) : Tr :=
  if r.ht + 1 < l.ht then
    match l with
    | .nil => .node l e r
    | .node ll le lr => if lr.ht ≤ ll.ht then .node ll le (.node lr e r) else
      match lr with
      | .nil => .node l e r
      | .node a x b => .node (.node ll le a) x (.node b e r)
  else if l.ht + 1 < r.ht then
    match r with
    | .nil => .node l e r
    | .node rl re rr => if rl.ht ≤ rr.ht then .node (.node l e rl) re rr else
      match rl with
      | .nil => .node l e r
      | .node a x b => .node (.node l e a) x (.node b re rr)
  else .node l e r
theorem balT_list (l : Tr) (e : En) (r : Tr) : (balT l e r).list = l.list ++ e :: r.list := by
  unfold balT
  split
  · cases l with
    | nil => rfl
    | node ll le lr =>
      simp only
      split
      · simp [Tr.list]
      · cases lr with
        | nil => rfl
        | node a x b => simp [Tr.list]
  · split
    · cases r with
      | nil => rfl
      | node rl re rr =>
        simp only
        split
        · simp [Tr.list]
        · cases rl with
          | nil => rfl
          | node a x b => simp [Tr.list]
    · rfl
theorem Tr.num_list : ∀ t : Tr, t.num = t.list.length
  | .nil => rfl
  | .node l e r => by
    rw [Tr.num, Tr.list, List.length_append, List.length_cons, ← Tr.num_list l, ← Tr.num_list r]
    omega
theorem balT_num (l : Tr) (e : En) (r : Tr) : (balT l e r).num = l.num + 1 + r.num := by
  rw [Tr.num_list, balT_list, List.length_append, List.length_cons, ← Tr.num_list, ← Tr.num_list]
  omega
end
end Go.Proofs.Ytcclhkoggijkaaa
namespace Go.Proofs.Ytcclhkoggijkaaa
open Go Go.RowKit

/-- Where an entry goes in, from the end. -/
def posI (es : List En) (e : En) : Nat → Nat
  | 0 => 0
  | k + 1 => match es[k]? with
    | some x => if lessE e x then posI es e k else k + 1
    | none => k + 1
theorem posI_le (es : List En) (e : En) : ∀ k, posI es e k ≤ k
  | 0 => Nat.le_refl _
  | k + 1 => by
    unfold posI
    split
    · split
      · exact Nat.le_succ_of_le (posI_le es e k)
      · exact Nat.le_refl _
    · exact Nat.le_refl _
theorem posI_at {es : List En} {e x : En} {k : Nat} (h0 : 0 < k) (hx : es[k - 1]? = some x) : posI es e k = if lessE e x then posI es e (k - 1) else k := by
  obtain ⟨j, rfl⟩ : ∃ j, k = j + 1 := ⟨k - 1, by omega⟩
  rw [Nat.add_sub_cancel] at hx ⊢
  rw [posI, hx]
def cutA4 (A : Option Addr) (k cap : Nat) : Option Addr := if cap = k then A else A.map (·.add (k * 4))
theorem cut4_l {P : Program} {t e : TypeId} (ht : P.underlying t = some (.slice e)) (he : P.elem t = e) (hs : ∀ w, (sizeOf e).run P w = .ok 4 w)
    (A : Option Addr) {n cap k : Nat} (hk : k ≤ n) (w : World) :
    (Instr.slice t (.slice A n cap) (some (.int .i64 (k : Int))) none none).run P w = .ok (.slice (cutA4 A k cap) (n - k) (cap - k)) w := by
  subst he
  rw [run_slice_l w t A n cap ht .i64 (k : Int) (by omega) (by omega)]
  simp only [hs, Result.andThen, sliced, Int.toNat_natCast, cutA4]
theorem rdv_cut4 {w : World} {A : Option Addr} {n k m cap : Nat} {vs : List Value} (h : RdV w A (n * 4) vs) (hk : k ≤ m) (hm : m ≤ n) (hc : n ≤ cap) : RdV w (cutA4 A k cap) ((m - k) * 4) ((vs.take (m * 4)).drop (k * 4)) := by
  unfold cutA4
  refine ⟨by rw [List.length_drop, List.length_take, h.1]; omega, fun hn => ?_⟩
  obtain ⟨b, off, rfl, hb, hcell⟩ := h.2 (by omega)
  rw [if_neg (by omega)]
  refine ⟨b, off + k * 4, ?_, hb, fun i x hx => ?_⟩
  · simp only [Option.map_some, Addr.add]
    split
    · next h0 => rw [h0]; rfl
    · rfl
  · rw [Nat.add_assoc]
    refine hcell (k * 4 + i) x ?_
    rw [List.getElem?_drop, List.getElem?_take] at hx
    split at hx
    · exact hx
    · cases hx
theorem REs.takeV {w : World} {A : Option Addr} {n m : Nat} {es : List En} (h : REs w A n es) (hm : m ≤ n) : ∃ us, EVs w (es.take m) us ∧ RdV w A (m * 4) us := by
  obtain ⟨h1, vs, h2, h3⟩ := h
  refine ⟨_, h2.take m, ?_⟩
  refine ⟨by rw [List.length_take, h3.1]; omega, fun hn => ?_⟩
  obtain ⟨b, off, rfl, hb, hc⟩ := h3.2 (by omega)
  refine ⟨b, off, rfl, hb, fun i x hx => hc i x ?_⟩
  rw [List.getElem?_take] at hx
  split at hx
  · exact hx
  · cases hx
theorem REs.dropV {w : World} {A : Option Addr} {n k cap : Nat} {es : List En} (h : REs w A n es) (hk : k ≤ n) (hc : n ≤ cap) : ∃ us, EVs w (es.drop k) us ∧ RdV w (cutA4 A k cap) ((n - k) * 4) us := by
  obtain ⟨h1, vs, h2, h3⟩ := h
  refine ⟨_, h2.drop k, ?_⟩
  have := rdv_cut4 h3 hk (Nat.le_refl _) hc
  rw [List.take_of_length_le (by rw [h3.1]; omega)] at this
  exact this
theorem OwnE.mono {w : World} {base base' n c : Nat} {A : Option Addr} {vs : List Value} (h : OwnE w base A n c vs) (hb : base' ≤ base) : OwnE w base' A n c vs := by
  refine ⟨h.1, ?_⟩
  rcases h.2 with h1 | ⟨g, cap, cur, h1, h2, h3⟩
  · exact .inl h1
  · exact .inr ⟨g, cap, cur, h1, Nat.le_trans hb h2, h3⟩
theorem rdv_of_cl {w : World} {g : Nat} {v0 v1 v2 v3 : Value} {t : TypeId} (h : Cl w g #[v0, v1, v2, v3] t) : RdV w (some ⟨g, 0, none⟩) (1 * 4) [v0, v1, v2, v3] :=
  ⟨rfl, fun _ => ⟨g, 0, rfl, h.lt, fun i x hx => by rw [Nat.zero_add, h.cell i]; simpa using hx⟩⟩
def insL (es : List En) (e : En) : List En := es.take (posI es e es.length) ++ e :: es.drop (posI es e es.length)
theorem rdv_take4 {w : World} {A : Option Addr} {n m : Nat} {vs : List Value} (h : RdV w A (n * 4) vs) (hm : m ≤ n) : RdV w A (m * 4) (vs.take (m * 4)) := by
  refine ⟨by rw [List.length_take, h.1]; omega, fun hn => ?_⟩
  obtain ⟨b, off, rfl, hb, hc⟩ := h.2 (by omega)
  refine ⟨b, off, rfl, hb, fun i x hx => hc i x ?_⟩
  rw [List.getElem?_take] at hx
  split at hx
  · exact hx
  · cases hx
/-- What an insertion comes to: a row of the call's own, with the values that were handed in. -/
def RetIns (w : World) (n : Nat) (es : List En) (us : List Value) (e : Ending) (w' : World) : Prop :=
  ∃ L d vs, e = .returned (.slice L n d) ∧ OwnE w' w.heap.size L n d vs ∧ EVs w' es vs ∧ Below w.heap.size w w' ∧ ∀ u ∈ vs, u ∈ us
theorem RetIns.out {w : World} {n : Nat} {es : List En} {us : List Value} {e : Ending} {w' : World} (h : RetIns w n es us e w') : ∃ L d vs, e = .returned (.slice L n d) ∧ OwnE w' w.heap.size L n d vs ∧ EVs w' es vs ∧ Below w.heap.size w w' ∧ ∀ u ∈ vs, u ∈ us := h
set_option maxRecDepth 100000 in
set_option maxHeartbeats 8000000 in
theorem Insert_any {w : World} {A : Option Addr} {n c : Nat} {es : List En} {e : En} {ovs : List Value} {v0 v1 v2 v3 : Value} (hv : EVs w es ovs) (hd : RdV w A (n * 4) ovs) (hl : es.length = n) (hc : n ≤ c) (hn : n ≤ 1099511627776) (hs : ∀ x ∈ es, SzE x) (he : EV w e v0 v1 v2 v3) (se : SzE e) :
    Calls Try.prog 84 #[.slice A n c, .agg #[v0, v1, v2, v3]] w (RetIns w (n + 1) (insL es e) ([v0, v1, v2, v3] ++ ovs)) := by
  have h : REs w A n es := REs.mk hv hd hl
  obtain ⟨K, kn, kc, V, vn, vc, rfl, rfl, rfl, rfl, _⟩ := he.parts
  obtain ⟨U, hU⟩ : ∃ U, U = w.alloc (.cells #[.slice K kn kc, .int .u64 (e.seq : Int), .int .u8 (e.kind : Int), .slice V vn vc] 37) := ⟨_, rfl⟩
  have bU : Below w.heap.size w U := by rw [hU]; exact (Below.refl _ _).alloc (Nat.le_refl _) _
  have XU := Lib.hid (show Cl U w.heap.size #[.slice K kn kc, .int .u64 (e.seq : Int), .int .u8 (e.kind : Int), .slice V vn vc] 37 by rw [hU]; exact Cl.new _ _ _)
  have HE := Lib.hid (he.below bU)
  have H1 := Lib.hid (h.below bU)
  have HV := Lib.hid (hv.below bU)
  have HD := Lib.hid (hd.below bU)
  have HLN := Lib.hid h.len
  have HS := Lib.hid hs
  have BU := Lib.hid bU
  clear h hs he bU hv hd hl
  go_enter Try.func84, Try.ntmps84
  go_upto_region 1 with (fail)
  rw [← hU]
  clear hU
  go_wp2_with fail
  go_loopw [5] (fun s5 wr => ∃ k : Nat, k ≤ n ∧ s5 = .int .i64 (k : Int) ∧ posI es e k = posI es e n ∧ Below U.heap.size U wr) (fun s _ => (intOf s).toNat)
  case atStart => exact ⟨n, Nat.le_refl _, rfl, rfl, Below.refl _ _⟩
  case round =>
    obtain ⟨k, hk, rfl, hp, hB⟩ := hrel
    have HB := Lib.hid hB
    have HP := Lib.hid hp
    have XR := Lib.hid (XU.out.below hB)
    have HER := Lib.hid (HE.out.below hB)
    have hR := H1.out.below hB
    clear hB hp
    go_upto_region 2 with (fail)
    go_cut [19] from 9 to 21 (fun s19 wx => ∃ z, s19 = .bool z ∧ Below wr.heap.size wr wx ∧ (z = true → 0 < k ∧ posI es e k = posI es e (k - 1)) ∧ (z = false → posI es e k = k))
    case first =>
      by_cases h0 : 0 < k
      · obtain ⟨b, off, hAb, hbl⟩ := hR.pos (by omega)
        subst hAb
        obtain ⟨x, u0, u1, u2, u3, hx, c0, c1, c2, c3, hev⟩ := hR.at_ (k - 1) (by omega)
        have hsx := HS.out x (List.mem_of_getElem? hx)
        have HL : Hid (∀ wx, Below wr.heap.size wr wx → Calls Try.prog 118 #[.agg #[.slice K kn kc, .int .u64 (e.seq : Int), .int .u8 (e.kind : Int), .slice V vn vc], .agg #[u0, u1, u2, u3]] wx (RetT wx (lessE e x))) := Lib.hid (fun wx hb => refLess_any (HER.out.below hb) (hev.below hb) se hsx)
        have HSX : Hid (∀ wx, Below wr.heap.size wr wx → wx.cell? ⟨b, off + (k - 1) * 4, none⟩ = some u0 ∧ wx.cell? ⟨b, off + (k - 1) * 4 + 1, none⟩ = some u1 ∧ wx.cell? ⟨b, off + (k - 1) * 4 + 2, none⟩ = some u2 ∧ wx.cell? ⟨b, off + (k - 1) * 4 + 3, none⟩ = some u3 ∧ wx.cell? ⟨w.heap.size, 0, none⟩ = some (.slice K kn kc) ∧ wx.cell? ⟨w.heap.size, 1, none⟩ = some (.int .u64 (e.seq : Int)) ∧ wx.cell? ⟨w.heap.size, 2, none⟩ = some (.int .u8 (e.kind : Int)) ∧ wx.cell? ⟨w.heap.size, 3, none⟩ = some (.slice V vn vc)) := Lib.hid (fun wx h => by
          obtain ⟨d0, d1, d2, d3, _⟩ := (XR.out.below h).c4
          exact ⟨(h.cell hbl).trans c0, (h.cell hbl).trans c1, (h.cell hbl).trans c2, (h.cell hbl).trans c3, d0, d1, d2, d3⟩)
        have hB0 : Below wr.heap.size wr wr.drew := (Below.refl _ _).drew
        have hk1 : IntKind.i64.wrap ((k : Int) - 1) = ((k - 1 : Nat) : Int) := by rw [IntWalk.i64_in _ (by omega)]; omega
        have hk2 : k - 1 < n := by omega
        obtain ⟨d0, d1, d2, d3, _⟩ := XR.out.c4
        have HXK := Lib.hid hx
        clear hR hx hev
        go_region_law (first | (go_simp; go_at_call 118; with_reducible refine (HL.out _ (by assumption)).mono ?_; intro e1 wn hq; obtain ⟨h1, bn⟩ := RetT.outD hq; subst h1; have bn' := belowT' (by assumption : Below wr.heap.size wr _) bn; obtain ⟨p0, p1, p2, p3, p4, p5, p6, p7⟩ := HSX.out _ bn'))
        all_goals
          have hpz : posI es e k = if lessE e x then posI es e (k - 1) else k := posI_at h0 HXK.out
          have hf : (∃ z, Value.bool (lessE e x) = .bool z ∧ (z = true → 0 < k ∧ posI es e k = posI es e (k - 1)) ∧ (z = false → posI es e k = k)) := ⟨_, rfl, fun h => ⟨h0, by rw [hpz, if_pos h]⟩, fun h => by rw [hpz, h]; rfl⟩
          have HFF := Lib.hid hf
          clear hpz hf
          go_wp2_with fail
          go_meet
          obtain ⟨z, q1, q2, q3⟩ := HFF.out
          exact ⟨z, q1, by assumption, q2, q3⟩
      · have hk0 : k = 0 := by omega
        subst hk0
        clear hR h0
        go_quiet (fail)
        go_wp2
        go_meet
        exact ⟨false, rfl, below_drewN (Below.refl _ _) nq, (fun h => by cases h), fun _ => rfl⟩
    case rest =>
      obtain ⟨z, rfl, hbc, hz1, hz2⟩ := hcut
      have BC := Lib.hid (HB.out.trans (hbc.mono HB.out.size))
      cases z with
      | true =>
        obtain ⟨h0, hp⟩ := hz1 rfl
        have hk1 : IntKind.i64.wrap ((k : Int) - 1) = ((k - 1 : Nat) : Int) := by rw [IntWalk.i64_in _ (by omega)]; omega
        have HPP := Lib.hid hp
        clear hz1 hz2 hbc hp hR
        go_wp2_with fail
        go_roundw
        case rel => exact ⟨k - 1, by omega, by go_num, by rw [← HPP.out]; exact HP.out, BC.out⟩
        case measure => simp [intOf]; omega
      | false =>
        have hkp : k = posI es e es.length := by rw [HLN.out, ← HP.out]; exact (hz2 rfl).symm
        have HKP := Lib.hid hkp
        have sc := BC.out.size
        have hEV := HV.out.below BC.out
        have hDV := HD.out.below BC.out
        obtain ⟨us1, hu1⟩ : ∃ us1, us1 = ovs.take (k * 4) := ⟨_, rfl⟩
        obtain ⟨us2, hu2⟩ : ∃ us2, us2 = ovs.drop (k * 4) := ⟨_, rfl⟩
        have q1 : EVs wc (es.take k) us1 := by rw [hu1]; exact hEV.take k
        have q2 : RdV wc A (k * 4) us1 := by rw [hu1]; exact rdv_take4 hDV hk
        have q3 : EVs wc (es.drop k) us2 := by rw [hu2]; exact hEV.drop k
        have q4 : RdV wc (cutA4 A k c) ((n - k) * 4) us2 := by
          have := rdv_cut4 hDV hk (Nat.le_refl _) hc
          rw [List.take_of_length_le (by rw [hDV.1]; omega)] at this
          rw [hu2]; exact this
        have HMEM : Hid (∀ u, u ∈ us1 ∨ u ∈ us2 → u ∈ ovs) := Lib.hid (fun u h => by
          rcases h with h | h
          · rw [hu1] at h; exact List.mem_of_mem_take h
          · rw [hu2] at h; exact List.mem_of_mem_drop h)
        have Q1 := Lib.hid q1
        have Q2 := Lib.hid q2
        have Q3 := Lib.hid q3
        have Q4 := Lib.hid q4
        have HEC := Lib.hid (HER.out.below hbc)
        have XC := Lib.hid (XR.out.below hbc)
        have hcl : ∀ w, (Instr.slice 22 (.slice A n c) none (some (.int .i64 (k : Int))) none).run Try.prog w = .ok (.slice A k c) w := fun w => cut4_h Try.underlying22 elem4 size4 A (by omega) w
        have hcr : ∀ w, (Instr.slice 22 (.slice A n c) (some (.int .i64 (k : Int))) none none).run Try.prog w = .ok (.slice (cutA4 A k c) (n - k) (c - k)) w := fun w => cut4_l Try.underlying22 elem4 size4 A hk w
        clear hz1 hz2 hbc hkp hEV hDV q1 q2 q3 q4 hR hu1 hu2
        have b0 : Below wc.heap.size wc (wc.alloc (.cells #[] 37)) := (Below.refl _ _).alloc (Nat.le_refl _) _
        have r1 := Lib.hid (Q2.out.below b0)
        have o0 := Lib.hid (OwnE.zero wc)
        have B0 := Lib.hid b0
        clear b0
        go_wp2_with (at_builtin; refine wpList_app4 (wc.alloc (.cells #[] 37)) rfl _ _ 22 rfl wc.heap.size _ 64 Try.underlying22 info_ent rfl (some ⟨wc.heap.size, 0, none⟩) 0 0 [] rfl o0.out A k c us1 rfl r1.out Q1.out.cells ?_ ?_ ?_ ?_)
        · omega
        · omega
        · simp
        intro A1 c1 w1 o1 _ b1
        have O1 := Lib.hid o1
        have B1 := Lib.hid (B0.out.trans b1)
        have s1 := B1.out.size
        have X1 := Lib.hid (XC.out.base B1.out XC.out.lt)
        obtain ⟨d0, d1, d2, d3, _⟩ := X1.out.c4
        have bl : Below w1.heap.size w1 (w1.alloc (.cells #[.slice K kn kc, .int .u64 (e.seq : Int), .int .u8 (e.kind : Int), .slice V vn vc] 37)) := (Below.refl _ _).alloc (Nat.le_refl _) _
        have O1' := Lib.hid (O1.out.below bl)
        have r2 := Lib.hid (rdv_of_cl (Cl.new w1 #[.slice K kn kc, .int .u64 (e.seq : Int), .int .u8 (e.kind : Int), .slice V vn vc] 37))
        have BL := Lib.hid bl
        clear o1 b1 hcl bl
        go_wp2_with (at_builtin; refine wpList_app4 (w1.alloc (.cells #[.slice K kn kc, .int .u64 (e.seq : Int), .int .u8 (e.kind : Int), .slice V vn vc] 37)) rfl _ _ 22 rfl wc.heap.size _ 64 Try.underlying22 info_ent rfl A1 k c1 us1 rfl O1'.out (some ⟨w1.heap.size, 0, none⟩) 1 1 [.slice K kn kc, .int .u64 (e.seq : Int), .int .u8 (e.kind : Int), .slice V vn vc] rfl r2.out HEC.out.cells ?_ ?_ ?_ ?_)
        · omega
        · omega
        · simp; omega
        intro A2 c2 w2 o2 _ b2
        have O2 := Lib.hid o2
        have B2 := Lib.hid ((B1.out.trans (BL.out.mono s1)).trans b2)
        have s2 := B2.out.size
        have r3 := Lib.hid (Q4.out.below B2.out)
        clear o2 b2 d0 d1 d2 d3
        go_wp2_with (at_builtin; refine wpList_app4 w2 rfl _ _ 22 rfl wc.heap.size _ 64 Try.underlying22 info_ent rfl A2 (k + 1) c2 (us1 ++ [.slice K kn kc, .int .u64 (e.seq : Int), .int .u8 (e.kind : Int), .slice V vn vc]) rfl O2.out (cutA4 A k c) (n - k) (c - k) us2 rfl r3.out Q3.out.cells ?_ ?_ ?_ ?_)
        · omega
        · omega
        · omega
        intro A3 c3 w3 o3 _ b3
        have hkn : k + 1 + (n - k) = n + 1 := by omega
        rw [hkn] at o3
        have B3 := B2.out.trans b3
        have hev : EVs w3 (insL es e) (us1 ++ Value.slice K kn kc :: Value.int .u64 (e.seq : Int) :: Value.int .u8 (e.kind : Int) :: Value.slice V vn vc :: us2) := by
          have := ((Q1.out.app (EVs.one HEC.out)).app Q3.out).below B3
          rw [insL, ← HKP.out]
          simpa using this
        have HFIN : Hid (RetIns w (n + 1) (insL es e) ([.slice K kn kc, .int .u64 (e.seq : Int), .int .u8 (e.kind : Int), .slice V vn vc] ++ ovs) (.returned (.slice A3 (n + 1) c3)) w3) := Lib.hid ⟨A3, c3, _, rfl, OwnE.mono o3 (by have := BU.out.size; omega), hev, belowT' (BU.out.trans (BC.out.mono (by have := BU.out.size; omega))) B3, fun u hu => by
          have hm := HMEM.out u
          simp only [List.cons_append, List.nil_append, List.mem_append, List.mem_cons] at hu ⊢
          rcases hu with h | h | h | h | h | h
          · exact .inr (.inr (.inr (.inr (hm (.inl h)))))
          · exact .inl h
          · exact .inr (.inl h)
          · exact .inr (.inr (.inl h))
          · exact .inr (.inr (.inr (.inl h)))
          · exact .inr (.inr (.inr (.inr (hm (.inr h)))))⟩
        clear o3 b3 B3 hev hcr
        rw [hkn]
        go_wp2
        go_ret
        exact HFIN.out
end Go.Proofs.Ytcclhkoggijkaaa
namespace Go.Proofs.Ytcclhkoggijkaaa
open Go Go.RowKit

theorem cmpB_refl : ∀ xs : List UInt8, cmpB xs xs = 0
  | [] => rfl
  | x :: xs => by rw [cmpB_same, cmpB_refl xs]
theorem cmpB_trans : ∀ {xs ys zs : List UInt8}, cmpB xs ys < 0 → cmpB ys zs < 0 → cmpB xs zs < 0
  | [], [], _, h, _ => by simp [cmpB] at h
  | _ :: _, [], _, h, _ => by simp [cmpB] at h
  | [], _ :: _, [], _, h => by simp [cmpB] at h
  | [], _ :: _, _ :: _, _, _ => by simp [cmpB]
  | _ :: _, _ :: _, [], _, h => by simp [cmpB] at h
  | x :: xs, y :: ys, z :: zs, h, k => by
    rcases Nat.lt_trichotomy x.toNat y.toNat with q | q | q
    · rcases Nat.lt_trichotomy y.toNat z.toNat with r | r | r
      · rw [cmpB_lt _ _ (by omega)]; decide
      · rw [cmpB_lt _ _ (by omega)]; decide
      · rw [cmpB_gt _ _ r] at k; simp at k
    · rw [cmpB_eq _ _ q] at h
      rcases Nat.lt_trichotomy y.toNat z.toNat with r | r | r
      · rw [cmpB_lt _ _ (by omega)]; decide
      · rw [cmpB_eq _ _ r] at k
        rw [cmpB_eq _ _ (by omega)]
        exact cmpB_trans h k
      · rw [cmpB_gt _ _ r] at k; simp at k
    · rw [cmpB_gt _ _ q] at h; simp at h
theorem lessE_iff {a b : En} : lessE a b = true ↔ cmpB a.key b.key < 0 ∨ (a.key = b.key ∧ b.seq < a.seq) := by
  unfold lessE
  simp only [Bool.or_eq_true, Bool.and_eq_true, decide_eq_true_eq]
  constructor
  · rintro (h | ⟨h, k⟩)
    · exact .inl h
    · exact .inr ⟨cmpB_zero _ _ h, k⟩
  · rintro (h | ⟨h, k⟩)
    · exact .inl h
    · exact .inr ⟨by rw [h, cmpB_refl], k⟩
theorem sameK_iff {a b : En} : sameK a b = true ↔ a.key = b.key ∧ a.seq = b.seq := by
  unfold sameK eqB
  simp
theorem lessE_trans {a b c : En} (h : lessE a b = true) (k : lessE b c = true) : lessE a c = true := by
  rw [lessE_iff] at h k ⊢
  rcases h with h | ⟨h, h'⟩ <;> rcases k with k | ⟨k, k'⟩
  · exact .inl (cmpB_trans h k)
  · exact .inl (by rw [← k]; exact h)
  · exact .inl (by rw [h]; exact k)
  · exact .inr ⟨h.trans k, by omega⟩
theorem lessE_irr (a : En) : lessE a a = false := by
  cases h : lessE a a with
  | false => rfl
  | true =>
    rcases lessE_iff.1 h with h | ⟨_, h⟩
    · rw [cmpB_refl] at h; simp at h
    · omega
theorem lessE_asym {a b : En} (h : lessE a b = true) : lessE b a = false := by
  cases k : lessE b a with
  | false => rfl
  | true => have := lessE_trans h k; rw [lessE_irr] at this; cases this
theorem lessE_tri (a b : En) : lessE a b = true ∨ lessE b a = true ∨ sameK a b = true := by
  rcases Int.lt_trichotomy (cmpB a.key b.key) 0 with h | h | h
  · exact .inl (lessE_iff.2 (.inl h))
  · have hk := cmpB_zero _ _ h
    rcases Nat.lt_trichotomy a.seq b.seq with q | q | q
    · exact .inr (.inl (lessE_iff.2 (.inr ⟨hk.symm, q⟩)))
    · exact .inr (.inr (sameK_iff.2 ⟨hk, q⟩))
    · exact .inl (lessE_iff.2 (.inr ⟨hk, q⟩))
  · exact .inr (.inl (lessE_iff.2 (.inl (by rw [cmpB_swap]; omega))))
theorem sameK_not {a b : En} (h : sameK a b = true) : lessE a b = false ∧ lessE b a = false := by
  obtain ⟨h1, h2⟩ := sameK_iff.1 h
  have key : ∀ {x y : En}, x.key = y.key → x.seq = y.seq → lessE x y = false := fun {x y} e1 e2 => by
    cases k : lessE x y with
    | false => rfl
    | true =>
      rcases lessE_iff.1 k with q | ⟨_, q⟩
      · rw [e1, cmpB_refl] at q; simp at q
      · omega
  exact ⟨key h1 h2, key h1.symm h2.symm⟩
end Go.Proofs.Ytcclhkoggijkaaa
namespace Go.Proofs.Ytcclhkoggijkaaa
open Go Go.RowKit

theorem Made.out {base : Nat} {w w' : World} {xs : List UInt8} {e : Ending} (h : Made base w xs e w') : ∃ A n c, e = .returned (.slice A n c) ∧ Own 5 w' base A n c xs ∧ Below base w w' := h
section
variable {w : World} {a : En} {v0 v1 v2 v3 : Value}
end
end Go.Proofs.Ytcclhkoggijkaaa
namespace Go.Proofs.Ytcclhkoggijkaaa
open Go Go.RowKit

/-- How many first bytes both have alike. -/
def comB : List UInt8 → List UInt8 → Nat
  | x :: xs, y :: ys => if x = y then comB xs ys + 1 else 0
  | _, _ => 0
theorem comB_le : ∀ (xs ys : List UInt8), comB xs ys ≤ xs.length ∧ comB xs ys ≤ ys.length
  | [], _ => by simp [comB]
  | _ :: _, [] => by simp [comB]
  | x :: xs, y :: ys => by
    have := comB_le xs ys
    unfold comB
    split
    · simp only [List.length_cons]; omega
    · simp
theorem comB_lt : ∀ {xs ys : List UInt8} {i : Nat}, i < comB xs ys → ∃ b, xs[i]? = some b ∧ ys[i]? = some b
  | [], _, _, h => by simp [comB] at h
  | _ :: _, [], _, h => by simp [comB] at h
  | x :: xs, y :: ys, i, h => by
    unfold comB at h
    split at h
    · rename_i e
      subst e
      cases i with
      | zero => exact ⟨x, rfl, rfl⟩
      | succ j =>
        have := comB_lt (xs := xs) (ys := ys) (i := j) (by omega)
        simpa using this
    · omega
theorem comB_at : ∀ {xs ys : List UInt8} {i : Nat}, i = comB xs ys → i = xs.length ∨ i = ys.length ∨ ∃ a b, xs[i]? = some a ∧ ys[i]? = some b ∧ a ≠ b
  | [], _, _, h => .inl (by simpa [comB] using h)
  | _ :: _, [], _, h => .inr (.inl (by simpa [comB] using h))
  | x :: xs, y :: ys, i, h => by
    unfold comB at h
    split at h
    · rename_i e
      subst e
      obtain ⟨j, rfl⟩ : ∃ j, i = j + 1 := ⟨comB xs ys, h⟩
      rcases comB_at (xs := xs) (ys := ys) (i := j) (by omega) with h1 | h1 | ⟨a, b, h1, h2, h3⟩
      · exact .inl (by simp [h1])
      · exact .inr (.inl (by simp [h1]))
      · exact .inr (.inr ⟨a, b, by simpa using h1, by simpa using h2, h3⟩)
    · subst h
      exact .inr (.inr ⟨x, y, rfl, rfl, by assumption⟩)
def RetCo (w : World) (z : Nat) (e : Ending) (w' : World) : Prop := e = .returned (.int .i64 (z : Int)) ∧ ∃ q, w' = w.drewN q
set_option maxRecDepth 100000 in
set_option maxHeartbeats 4000000 in
theorem common_any (A B : Option Addr) (n m c d : Nat) (xs ys : List UInt8) (w : World) (hx : Rd w A n xs) (hy : Rd w B m ys) (hn : n ≤ 1099511627776) (hm : m ≤ 1099511627776) :
    Calls Try.prog 189 #[.slice A n c, .slice B m d] w (RetCo w (comB xs ys)) := by
  obtain ⟨K, hK⟩ : ∃ K, K = comB xs ys := ⟨_, rfl⟩
  rw [← hK]
  have hle := comB_le xs ys
  rw [← hK] at hle
  have hlx := hx.len
  have hly := hy.len
  have HK := Lib.hid hK
  have HX := Lib.hid hx
  have HY := Lib.hid hy
  clear hK hx hy
  go_enter Try.func189, Try.ntmps189
  go_wp2_with fail
  go_loopw [5] (fun vi wr => ∃ i q : Nat, vi = .int .i64 (i : Int) ∧ i ≤ K ∧ wr = w.drewN q) (fun vi _ => K - (intOf vi).toNat)
  case atStart => exact ⟨0, 0, rfl, Nat.zero_le _, rfl⟩
  case round =>
    obtain ⟨i, q, rfl, hi, rfl⟩ := hrel
    obtain ⟨W, hW⟩ : ∃ W, W = w.drewN q := ⟨_, rfl⟩
    by_cases hlt : i < K
    · obtain ⟨b, h1, h2⟩ := comB_lt (xs := xs) (ys := ys) (i := i) (by rw [← HK.out]; exact hlt)
      have hin : i < n := by omega
      have him : i < m := by omega
      obtain ⟨ba, oa, rfl, _⟩ := HX.out.pos (by omega)
      obtain ⟨bb, ob, rfl, _⟩ := HY.out.pos (by omega)
      obtain ⟨x, hx1, hx2, _⟩ := HX.out.at_ i hin
      obtain ⟨y, hy1, hy2, _⟩ := HY.out.at_ i him
      obtain rfl : x = y := by
        rw [h1] at hx1; rw [h2] at hy1
        rw [← Option.some.inj hx1, ← Option.some.inj hy1]
      have c1 : W.cell? ⟨ba, oa + i, none⟩ = some (.int .u8 (x.toNat : Int)) := by rw [hW]; exact hx2
      have c2 : W.cell? ⟨bb, ob + i, none⟩ = some (.int .u8 (x.toNat : Int)) := by rw [hW]; exact hy2
      rw [← hW]
      have HW := Lib.hid hW
      clear hW h1 h2 hx1 hx2 hy1 hy2
      go_wp2_with fail
      go_quiet (fail)
      rw [HW.out]
      go_wp2_with fail
      go_roundw
      case rel => exact ⟨i + 1, _, by go_num, by omega, rfl⟩
      case measure => simp [intOf]; omega
    · obtain rfl : i = K := by omega
      rcases comB_at (xs := xs) (ys := ys) (i := i) HK.out with h1 | h1 | ⟨a, b, h1, h2, h3⟩
      · have hin : ¬ i < n := by omega
        rw [← hW]
        have HW := Lib.hid hW
        clear hW
        go_wp2_with fail
        go_quiet (fail)
        rw [HW.out]
        go_wp2_with fail
        go_ret
        exact ⟨rfl, _, World.drewN_drewN _ _ _⟩
      · have him : ¬ i < m := by omega
        rw [← hW]
        have HW := Lib.hid hW
        have HH1 := Lib.hid (And.intro h1 (And.intro hlx hly))
        clear hW h1 hlx hly hle hi hlt
        by_cases hin : i < n
        · have d1 : decide (i < n) = true := by simpa using hin
          have d2 : decide (i < m) = false := by simpa using him
          have d3 : decide ((i : Int) < (m : Int)) = false := by simp; omega
          have d4 : decide (m ≤ i) = true := by simp; omega
          go_wp2_with fail
          go_quiet (fail)
          rw [HW.out]
          go_wp2_with fail
          go_ret
          exact ⟨rfl, _, World.drewN_drewN _ _ _⟩
        · have d1 : decide (i < n) = false := by simpa using hin
          have d4 : decide (n ≤ i) = true := by simp; omega
          go_wp2_with fail
          go_quiet (fail)
          rw [HW.out]
          go_wp2_with fail
          go_ret
          exact ⟨rfl, _, World.drewN_drewN _ _ _⟩
      · have hin : i < n := by have := (List.getElem?_eq_some_iff.1 h1).1; omega
        have him : i < m := by have := (List.getElem?_eq_some_iff.1 h2).1; omega
        obtain ⟨ba, oa, rfl, _⟩ := HX.out.pos (by omega)
        obtain ⟨bb, ob, rfl, _⟩ := HY.out.pos (by omega)
        obtain ⟨x, hx1, hx2, _⟩ := HX.out.at_ i hin
        obtain ⟨y, hy1, hy2, _⟩ := HY.out.at_ i him
        have hne : x.toNat ≠ y.toNat := fun e => h3 (by
          rw [h1] at hx1; rw [h2] at hy1
          rw [Option.some.inj hx1, Option.some.inj hy1]
          exact UInt8.toNat_inj.1 e)
        have t1 : ((x.toNat : Int) == (y.toNat : Int)) = false := by simp; omega
        have t2 : ¬ (x.toNat : Int) = (y.toNat : Int) := by omega
        have c1 : W.cell? ⟨ba, oa + i, none⟩ = some (.int .u8 (x.toNat : Int)) := by rw [hW]; exact hx2
        have c2 : W.cell? ⟨bb, ob + i, none⟩ = some (.int .u8 (y.toNat : Int)) := by rw [hW]; exact hy2
        rw [← hW]
        have HW := Lib.hid hW
        clear hW h1 h2 h3 hx1 hx2 hy1 hy2
        go_wp2_with fail
        go_quiet (fail)
        rw [HW.out]
        go_wp2_with fail
        go_ret
        exact ⟨rfl, _, World.drewN_drewN _ _ _⟩
/-- The first k pairs of neighbours stand in order. -/
def ordK (es : List En) : Nat → Bool
  | 0 => true
  | i + 1 => ordK es i && (match es[i]?, es[i + 1]? with
    | some a, some b => lessE a b
    | _, _ => true)
def ordE (es : List En) : Bool := ordK es (es.length - 1)
theorem ordK_step {es : List En} {i : Nat} {a b : En} (h1 : es[i]? = some a) (h2 : es[i + 1]? = some b) : ordK es (i + 1) = (ordK es i && lessE a b) := by rw [ordK, h1, h2]
theorem ordK_false {es : List En} {i : Nat} (h : ordK es i = false) : ∀ j, i ≤ j → ordK es j = false
  | 0, hj => by obtain rfl : i = 0 := by omega
                exact h
  | j + 1, hj => by
    by_cases e : i = j + 1
    · subst e; exact h
    · rw [ordK, ordK_false h j (by omega), Bool.false_and]
set_option maxRecDepth 100000 in
set_option maxHeartbeats 4000000 in
theorem inOrder8_any {w : World} {A : Option Addr} {n c : Nat} {es : List En} (h : REs w A n es) (hn : n ≤ 1099511627776) : Calls Try.prog 154 #[.slice A n c] w (RetT w (ordE es)) := by
  have HL := Lib.hid h.len
  have HR := Lib.hid h
  clear h
  go_enter Try.func154, Try.ntmps154
  go_wp2_with fail
  go_loopw [3] (fun s3 wr => ∃ i : Nat, (i < n ∨ i = 0) ∧ s3 = .int .i64 ((i + 1 : Nat) : Int) ∧ ordK es i = true ∧ Below w.heap.size w wr) (fun s _ => n + 1 - (intOf s).toNat)
  case atStart => exact ⟨0, .inr rfl, rfl, rfl, Below.refl _ _⟩
  case round =>
    obtain ⟨i, hi, rfl, ho, hB⟩ := hrel
    have HB := Lib.hid hB
    have HO := Lib.hid ho
    have hR := HR.out.below hB
    clear hB ho
    obtain ⟨k, hk⟩ : ∃ k, k = i + 1 := ⟨_, rfl⟩
    rw [← hk]
    by_cases hlt : k < n
    · obtain ⟨b, off, hAb, hbl⟩ := hR.pos (by omega)
      subst hAb
      obtain ⟨x, v0, v1, v2, v3, hx, c0, c1, c2, c3, hev⟩ := hR.at_ i (by omega)
      obtain ⟨y, u0, u1, u2, u3, hy, d0, d1, d2, d3, hew⟩ := hR.at_ k hlt
      have HL1 : Hid (∀ wx, Below wr.heap.size wr wx → Calls Try.prog 80 #[.agg #[v0, v1, v2, v3], .agg #[u0, u1, u2, u3]] wx (RetT wx (lessE x y))) := Lib.hid (fun wx hb => memLess_any (hev.below hb) (hew.below hb))
      have HSX : Hid (∀ wx, Below wr.heap.size wr wx → wx.cell? ⟨b, off + i * 4, none⟩ = some v0 ∧ wx.cell? ⟨b, off + i * 4 + 1, none⟩ = some v1 ∧ wx.cell? ⟨b, off + i * 4 + 2, none⟩ = some v2 ∧ wx.cell? ⟨b, off + i * 4 + 3, none⟩ = some v3 ∧ wx.cell? ⟨b, off + k * 4, none⟩ = some u0 ∧ wx.cell? ⟨b, off + k * 4 + 1, none⟩ = some u1 ∧ wx.cell? ⟨b, off + k * 4 + 2, none⟩ = some u2 ∧ wx.cell? ⟨b, off + k * 4 + 3, none⟩ = some u3) := Lib.hid (fun wx h =>
        ⟨(h.cell (p := ⟨b, off + i * 4, none⟩) hbl).trans c0, (h.cell (p := ⟨b, off + i * 4 + 1, none⟩) hbl).trans c1, (h.cell (p := ⟨b, off + i * 4 + 2, none⟩) hbl).trans c2, (h.cell (p := ⟨b, off + i * 4 + 3, none⟩) hbl).trans c3, (h.cell (p := ⟨b, off + k * 4, none⟩) hbl).trans d0, (h.cell (p := ⟨b, off + k * 4 + 1, none⟩) hbl).trans d1, (h.cell (p := ⟨b, off + k * 4 + 2, none⟩) hbl).trans d2, (h.cell (p := ⟨b, off + k * 4 + 3, none⟩) hbl).trans d3⟩)
      have hB0 : Below wr.heap.size wr wr.drew := (Below.refl _ _).drew
      have hk1 : IntKind.i64.wrap ((k : Int) - 1) = (i : Int) := by rw [IntWalk.i64_in _ (by omega)]; omega
      have hin : i < n := by omega
      have HST : Hid (ordK es k = (ordK es i && lessE x y)) := Lib.hid (by rw [hk]; exact ordK_step hx (by rw [← hk]; exact hy))
      have HKI := Lib.hid hk
      obtain ⟨z, hz⟩ : ∃ z, z = lessE x y := ⟨_, rfl⟩
      rw [← hz] at HL1 HST
      clear hR hx hev hy hew hz hk
      cases z with
      | true =>
        go_wp2_with fail
        go_region_held3 (fun wx => wx.cell? ⟨b, off + i * 4, none⟩ = some v0 ∧ wx.cell? ⟨b, off + i * 4 + 1, none⟩ = some v1 ∧ wx.cell? ⟨b, off + i * 4 + 2, none⟩ = some v2 ∧ wx.cell? ⟨b, off + i * 4 + 3, none⟩ = some v3 ∧ wx.cell? ⟨b, off + k * 4, none⟩ = some u0 ∧ wx.cell? ⟨b, off + k * 4 + 1, none⟩ = some u1 ∧ wx.cell? ⟨b, off + k * 4 + 2, none⟩ = some u2 ∧ wx.cell? ⟨b, off + k * 4 + 3, none⟩ = some u3) (first | assumption | exact HSX.out _ hB0)
          (first | (go_at_call 80; with_reducible refine (HL1.out _ (by assumption)).mono ?_; intro e1 wn hq; obtain ⟨h1, bn⟩ := RetT.outD hq; subst h1; have bn' := belowT' (by assumption : Below wr.heap.size wr _) bn; have hS1 := HSX.out _ bn'))
        all_goals
          have HBN : Hid (Below w.heap.size w _) := Lib.hid (HB.out.trans ((by assumption : Below wr.heap.size wr wn).mono HB.out.size))
          go_wp2_with fail
          go_roundw
          case rel => exact ⟨k, .inl hlt, by go_num, by rw [HST.out, HO.out]; rfl, HBN.out⟩
          case measure => simp [intOf]; omega
      | false =>
        go_wp2_with fail
        go_region_held3 (fun wx => wx.cell? ⟨b, off + i * 4, none⟩ = some v0 ∧ wx.cell? ⟨b, off + i * 4 + 1, none⟩ = some v1 ∧ wx.cell? ⟨b, off + i * 4 + 2, none⟩ = some v2 ∧ wx.cell? ⟨b, off + i * 4 + 3, none⟩ = some v3 ∧ wx.cell? ⟨b, off + k * 4, none⟩ = some u0 ∧ wx.cell? ⟨b, off + k * 4 + 1, none⟩ = some u1 ∧ wx.cell? ⟨b, off + k * 4 + 2, none⟩ = some u2 ∧ wx.cell? ⟨b, off + k * 4 + 3, none⟩ = some u3) (first | assumption | exact HSX.out _ hB0)
          (first | (go_at_call 80; with_reducible refine (HL1.out _ (by assumption)).mono ?_; intro e1 wn hq; obtain ⟨h1, bn⟩ := RetT.outD hq; subst h1; have bn' := belowT' (by assumption : Below wr.heap.size wr _) bn; have hS1 := HSX.out _ bn'))
        all_goals
          have HBN : Hid (Below w.heap.size w _) := Lib.hid (HB.out.trans ((by assumption : Below wr.heap.size wr wn).mono HB.out.size))
          have HFIN : Hid (ordE es = false) := Lib.hid (by
            have h1 := HST.out
            rw [Bool.and_false] at h1
            exact ordK_false h1 _ (by rw [HL.out]; omega))
          go_wp2_with fail
          go_ret
          exact ⟨by rw [HFIN.out]; rfl, HBN.out⟩
    · have HFIN : Hid (ordE es = true) := Lib.hid (by
        have h1 := HO.out
        unfold ordE
        rw [HL.out]
        obtain rfl : n - 1 = i := by omega
        exact h1)
      go_wp2_with fail
      go_ret
      exact ⟨by rw [HFIN.out]; rfl, HB.out⟩
end Go.Proofs.Ytcclhkoggijkaaa
namespace Go.Proofs.Ytcclhkoggijkaaa
open Go Go.RowKit

def szL : List En → Nat
  | [] => 0
  | e :: t => wE e + szL t
theorem szL_app : ∀ a b : List En, szL (a ++ b) = szL a + szL b
  | [], b => by simp [szL]
  | e :: t, b => by rw [List.cons_append, szL, szL, szL_app t b]; omega
def SortL (l : List En) : Prop := l.Pairwise (fun a b => lessE a b = true)
theorem posI_app {p q : List En} {x : En} (h1 : ∀ y ∈ p, lessE x y = false) (h2 : ∀ y ∈ q, lessE x y = true) : ∀ j, j ≤ q.length → posI (p ++ q) x (p.length + j) = p.length
  | 0, _ => by
    rw [Nat.add_zero]
    cases hp : p.length with
    | zero => rfl
    | succ m =>
      have hm : m < p.length := by omega
      have e : (p ++ q)[m]? = some (p[m]'hm) := by rw [List.getElem?_append_left hm, List.getElem?_eq_getElem hm]
      rw [posI, e]
      simp only
      rw [h1 _ (List.getElem_mem hm)]
      rfl
  | j + 1, h => by
    have hj : j < q.length := by omega
    have e : (p ++ q)[p.length + j]? = some (q[j]'hj) := by rw [List.getElem?_append_right (by omega), Nat.add_sub_cancel_left, List.getElem?_eq_getElem hj]
    rw [← Nat.add_assoc, posI, e]
    simp only
    rw [h2 _ (List.getElem_mem hj)]
    exact posI_app h1 h2 j (by omega)
theorem insL_app {p q : List En} {x : En} (h1 : ∀ y ∈ p, lessE x y = false) (h2 : ∀ y ∈ q, lessE x y = true) : insL (p ++ q) x = p ++ x :: q := by
  have h := posI_app h1 h2 q.length (Nat.le_refl _)
  unfold insL
  rw [List.length_append, h]
  simp
/-- What the reference's Get finds. -/
def findL (key : List UInt8) (at_ : Nat) (l : List En) : Option En := l.find? (fun y => eqB y.key key && decide (y.seq ≤ at_))
def inR (xs ys : List UInt8) (e : En) : Bool := decide (0 ≤ cmpB e.key xs) && decide (ys.length = 0 ∨ cmpB e.key ys < 0)
theorem less_key {a b : En} {zs : List UInt8} (h : lessE a b = true) (k : cmpB b.key zs < 0) : cmpB a.key zs < 0 := by
  rcases lessE_iff.1 h with q | ⟨q, _⟩
  · exact cmpB_trans q k
  · rw [q]; exact k
/-- The reference's PutAll, of entries in form. -/
def refIns : List En → List En → Option (List En)
  | l, [] => some l
  | l, x :: xs => if inL l x then none else refIns (insL l x) xs
theorem insL_len (l : List En) (x : En) : (insL l x).length = l.length + 1 := by
  have := posI_le l x l.length
  unfold insL
  rw [List.length_append, List.length_cons, List.length_take, List.length_drop]
  omega
theorem split_of {x : En} : ∀ {o : List En}, SortL o → inL o x = false → ∃ p q, o = p ++ q ∧ (∀ y ∈ p, lessE y x = true) ∧ (∀ y ∈ q, lessE x y = true)
  | [], _, _ => ⟨[], [], rfl, (fun y hy => by cases hy), fun y hy => by cases hy⟩
  | a :: t, hs, hin => by
    obtain ⟨h1, h2⟩ := List.pairwise_cons.1 hs
    unfold inL at hin
    rw [List.any_cons, Bool.or_eq_false_iff] at hin
    rcases lessE_tri a x with h | h | h
    · obtain ⟨p, q, e, k1, k2⟩ := split_of h2 hin.2
      refine ⟨a :: p, q, by rw [e]; rfl, fun y hy => ?_, k2⟩
      rcases List.mem_cons.1 hy with rfl | hy
      · exact h
      · exact k1 y hy
    · refine ⟨[], a :: t, rfl, (fun y hy => by cases hy), fun y hy => ?_⟩
      rcases List.mem_cons.1 hy with rfl | hy
      · exact h
      · exact lessE_trans h (h1 y hy)
    · rw [h] at hin
      cases hin.1
theorem insL_sort {o : List En} {x : En} (hs : SortL o) (hin : inL o x = false) : SortL (insL o x) := by
  obtain ⟨p, q, e, h1, h2⟩ := split_of hs hin
  subst e
  rw [insL_app (fun y hy => lessE_asym (h1 y hy)) h2]
  obtain ⟨s1, s2, s3⟩ := List.pairwise_append.1 hs
  exact List.pairwise_append.2 ⟨s1, List.pairwise_cons.2 ⟨h2, s2⟩, fun a ha b hb => by
    rcases List.mem_cons.1 hb with rfl | hb
    · exact h1 a ha
    · exact s3 a ha b hb⟩
/-- Entries in order go in behind one another. -/
theorem refIns_sort : ∀ {q p : List En}, SortL (p ++ q) → refIns p q = some (p ++ q)
  | [], p, _ => by rw [List.append_nil]; rfl
  | x :: xs, p, hs => by
    have h1 : ∀ y ∈ p, lessE y x = true := fun y hy => (List.pairwise_append.1 hs).2.2 y hy x (by simp)
    have h2 : inL p x = false := by
      unfold inL
      rw [List.any_eq_false]
      intro y hy k
      have := (sameK_not k).1
      rw [h1 y hy] at this
      cases this
    have h3 : insL p x = p ++ [x] := by
      have := insL_app (p := p) (q := []) (x := x) (fun y hy => lessE_asym (h1 y hy)) (fun y hy => by cases hy)
      simpa using this
    rw [refIns, h2, if_neg (by simp), h3]
    have e : p ++ x :: xs = (p ++ [x]) ++ xs := by simp
    rw [e] at hs ⊢
    exact refIns_sort hs
/-- In form, and not too long. -/
def okE (x : En) : Bool := decide (checkE [x] = 0)
theorem okE_iff {x : En} : okE x = true ↔ longE x = false ∧ formE x = true := by
  unfold okE checkE
  rw [decide_eq_true_eq]
  simp only [List.any_cons, List.any_nil, Bool.or_false, List.all_cons, List.all_nil, Bool.and_true]
  cases longE x <;> cases formE x <;> simp
theorem checkE_ok {es : List En} (h : ∀ x ∈ es, okE x = true) : checkE es = 0 := by
  unfold checkE
  rw [if_neg, if_pos]
  · rw [List.all_eq_true]
    exact fun x hx => (okE_iff.1 (h x hx)).2
  · rw [List.any_eq_true]
    rintro ⟨x, hx, k⟩
    rw [(okE_iff.1 (h x hx)).1] at k
    cases k
/-- The reference's Sorted. -/
def srt : List En → List En → List En
  | o, [] => o
  | o, x :: xs => if okE x && !inL o x then srt (insL o x) xs else srt o xs
theorem srt_snoc : ∀ (o xs : List En) (x : En), srt o (xs ++ [x]) = if okE x && !inL (srt o xs) x then insL (srt o xs) x else srt o xs
  | o, [], x => by simp [srt]
  | o, y :: ys, x => by
    simp only [List.cons_append, srt]
    split
    · exact srt_snoc _ ys x
    · exact srt_snoc _ ys x
theorem srt_prop : ∀ {xs o : List En}, SortL o → (∀ x ∈ o, okE x = true) → SortL (srt o xs) ∧ (∀ x ∈ srt o xs, okE x = true)
  | [], o, h1, h2 => ⟨h1, h2⟩
  | x :: xs, o, h1, h2 => by
    unfold srt
    split
    · next h =>
      rw [Bool.and_eq_true, Bool.not_eq_true'] at h
      exact srt_prop (insL_sort h1 h.2) (fun y hy => by
        rcases insL_mem' hy with rfl | hy
        · exact h.1
        · exact h2 y hy)
    · exact srt_prop h1 h2
where
  insL_mem' {l : List En} {x y : En} (h : y ∈ insL l x) : y = x ∨ y ∈ l := by
    unfold insL at h
    rcases List.mem_append.1 h with h | h
    · exact .inr (List.mem_of_mem_take h)
    · rcases List.mem_cons.1 h with h | h
      · exact .inl h
      · exact .inr (List.mem_of_mem_drop h)
theorem szL_insL (l : List En) (x : En) : szL (insL l x) = szL l + wE x := by
  unfold insL
  have := szL_app (l.take (posI l x l.length)) (l.drop (posI l x l.length))
  rw [List.take_append_drop] at this
  rw [szL_app, szL]
  omega
theorem srt_len : ∀ (xs o : List En), (srt o xs).length ≤ o.length + xs.length ∧ szL (srt o xs) ≤ szL o + szL xs
  | [], o => ⟨by simp [srt], by simp [srt, szL]⟩
  | x :: xs, o => by
    unfold srt
    split
    · have := srt_len xs (insL o x)
      rw [insL_len, szL_insL] at this
      simp only [List.length_cons, szL]
      omega
    · have := srt_len xs o
      simp only [List.length_cons, szL]
      omega
theorem srt_mem : ∀ {xs o : List En}, ∀ x ∈ srt o xs, x ∈ o ∨ x ∈ xs
  | [], o, x, h => .inl h
  | y :: ys, o, x, h => by
    unfold srt at h
    split at h
    · rcases srt_mem x h with q | q
      · rcases srt_prop.insL_mem' q with q | q
        · exact .inr (by simp [q])
        · exact .inl q
      · exact .inr (by simp [q])
    · rcases srt_mem x h with q | q
      · exact .inl q
      · exact .inr (by simp [q])
end Go.Proofs.Ytcclhkoggijkaaa
namespace Go.Proofs.Ytcclhkoggijkaaa
open Go Go.RowKit

/-- The tree with x besides; none: it is there. -/
def withT (x : En) : Tr → Option Tr
  | .nil => some (.node .nil x .nil)
  | .node l e r => if lessE x e then (withT x l).map (fun t => balT t e r) else if lessE e x then (withT x r).map (fun t => balT l e t) else none
theorem withT_num {x : En} : ∀ {t t' : Tr}, withT x t = some t' → t'.num = t.num + 1
  | .nil, t', h => by
    unfold withT at h
    injection h with h
    rw [← h]; rfl
  | .node l e r, t', h => by
    unfold withT at h
    split at h
    · cases hw : withT x l with
      | none => rw [hw] at h; cases h
      | some l' =>
        rw [hw] at h
        injection h with h
        have := withT_num hw
        rw [← h]
        simp only [balT_num, Tr.num]
        omega
    · split at h
      · cases hw : withT x r with
        | none => rw [hw] at h; cases h
        | some r' =>
          rw [hw] at h
          injection h with h
          have := withT_num hw
          rw [← h]
          simp only [balT_num, Tr.num]
          omega
      · cases h
theorem RetT.out {w : World} {b : Bool} {e : Ending} {w' : World} (h : RetT w b e w') : e = .returned (.bool b) ∧ Below w.heap.size w w' := h
end Go.Proofs.Ytcclhkoggijkaaa
namespace Go.Proofs.Ytcclhkoggijkaaa
open Go Go.RowKit

/-- How many bytes of the i-th key are left out. -/
def shB (ev : Nat) (es : List En) (i : Nat) : Nat := if i % ev = 0 then 0 else match es[i - 1]?, es[i]? with
  | some a, some b => comB a.key b.key
  | _, _ => 0
/-- The bytes of the first i entries; the places of the restarts among them. -/
def outB (ev : Nat) (es : List En) : Nat → List UInt8
  | 0 => []
  | i + 1 => match es[i]? with
    | some x => outB ev es i ++ entB (shB ev es i) x
    | none => outB ev es i
def rsB (ev : Nat) (es : List En) : Nat → List UInt8
  | 0 => []
  | i + 1 => if i % ev = 0 then rsB ev es i ++ fourB (outB ev es i).length else rsB ev es i
def fullB (ev : Nat) (es : List En) : List UInt8 := outB ev es es.length ++ rsB ev es es.length ++ fourB ((rsB ev es es.length).length / 4)
theorem outB_step {ev i : Nat} {es : List En} {x : En} (h : es[i]? = some x) : outB ev es (i + 1) = outB ev es i ++ entB (shB ev es i) x := by rw [outB, h]
theorem rsB_len (ev : Nat) (es : List En) : ∀ i, (rsB ev es i).length ≤ 4 * i
  | 0 => by simp [rsB]
  | i + 1 => by
    have := rsB_len ev es i
    unfold rsB
    split
    · simp only [List.length_append, fourB_len]; omega
    · omega
theorem outB_mono (ev : Nat) (es : List En) (i : Nat) : ∀ j, i ≤ j → (outB ev es i).length ≤ (outB ev es j).length := by
  intro j
  induction j with
  | zero =>
    intro h
    obtain rfl : i = 0 := by omega
    exact Nat.le_refl _
  | succ j ih =>
    intro h
    by_cases e : i = j + 1
    · rw [e]; exact Nat.le_refl _
    · have h1 := ih (by omega)
      refine Nat.le_trans h1 ?_
      conv => rhs; unfold outB
      split
      · rw [List.length_append]; omega
      · exact Nat.le_refl _
theorem shB_le {ev i : Nat} {es : List En} {x : En} (h : es[i]? = some x) : shB ev es i ≤ x.key.length := by
  unfold shB
  rw [h]
  split
  · omega
  · split
    · rename_i a b h1 h2
      injection h2 with h2
      subst h2
      exact (comB_le _ _).2
    · omega
theorem entB_len {s : Nat} {x : En} (h0 : s ≤ x.key.length) (h1 : x.key.length ≤ 1024) (h2 : x.val.length ≤ 65536) (h3 : U64 x.seq) : (entB s x).length ≤ 66700 := by
  have p1 := putU_len64 s (show s < B64 by unfold B64; omega)
  have p2 := putU_len64 (x.key.length - s) (show x.key.length - s < B64 by unfold B64; omega)
  have p3 := putU_len64 x.seq (show x.seq < B64 from h3)
  have p5 := putU_len64 x.val.length (show x.val.length < B64 by unfold B64; omega)
  unfold entB
  simp only [List.length_append, List.length_cons, List.length_nil, List.length_drop]
  omega
theorem dj_none (B : Option Addr) : Dj none B := fun b h => by cases h
/-- The two rows that are made: the entries' bytes, the restarts' places. -/
def CS (w0 : World) (O : Option Addr) (oc : Nat) (out : List UInt8) (R : Option Addr) (rc : Nat) (rs : List UInt8) (wr : World) : Prop :=
  Own 5 wr w0.heap.size O out.length oc out ∧ Own 5 wr w0.heap.size R rs.length rc rs ∧ Dj O R ∧ Below w0.heap.size w0 wr
theorem CS.below {w0 wr wx : World} {O R : Option Addr} {oc rc : Nat} {out rs : List UInt8} (h : CS w0 O oc out R rc rs wr) (hb : Below wr.heap.size wr wx) : CS w0 O oc out R rc rs wx := by
  obtain ⟨h1, h2, h3, h4⟩ := h
  exact ⟨h1.below hb, h2.below hb, h3, h4.trans (hb.mono h4.size)⟩
theorem CS.left {w0 wr wx : World} {O R O' : Option Addr} {oc rc oc' : Nat} {out out' rs : List UInt8} (h : CS w0 O oc out R rc rs wr) (ho : Own 5 wx w0.heap.size O' out'.length oc' out') (hg : Grow wr wx O O') : CS w0 O' oc' out' R rc rs wx := by
  obtain ⟨h1, h2, h3, h4⟩ := h
  exact ⟨ho, hg.kept h2 h3, hg.dj h2 h3, h4.trans (hg.below h1 h4.size)⟩
theorem CS.right {w0 wr wx : World} {O R R' : Option Addr} {oc rc rc' : Nat} {out rs rs' : List UInt8} (h : CS w0 O oc out R rc rs wr) (ho : Own 5 wx w0.heap.size R' rs'.length rc' rs') (hg : Grow wr wx R R') : CS w0 O oc out R' rc' rs' wx := by
  obtain ⟨h1, h2, h3, h4⟩ := h
  exact ⟨hg.kept h1 h3.symm, ho, (hg.dj h1 h3.symm).symm, h4.trans (hg.below h2 h4.size)⟩
theorem ClG.off {w0 w w' : World} {g n c : Nat} {us : Array Value} {A A' : Option Addr} {xs : List UInt8} (h : Cl w g us 37) (ho : Own 5 w w0.heap.size A n c xs) (hne : 37 ≠ 5) (hg : Grow w w' A A') : Cl w' g us 37 :=
  ClG.grown h hg.1 (fun e2 => by
    rcases ho.2 with ⟨k1, _⟩ | ⟨g2, cap2, cur2, k1, _, kg, _⟩
    · injection k1 with k1
      rw [k1] at e2
      cases e2
    · injection k1 with k1
      rw [k1] at e2
      injection e2 with e2
      simp only at e2
      subst e2
      rw [h] at kg
      injection kg with kg
      injection kg with _ kg _
      exact hne kg)
/-- What contents hands back: all that is sealed, or more than a record may have. -/
def RetCt (ev : Nat) (es : List En) (w : World) (e : Ending) (w' : World) : Prop :=
  ∃ A c ys, e = .returned (.slice A ys.length c) ∧ Own 5 w' w.heap.size A ys.length c ys ∧ Below w.heap.size w w' ∧ ys.length ≤ 100000000 ∧ ((1048576 < ys.length ∧ ys.length ≤ (fullB ev es).length) ∨ ys = fullB ev es)
set_option maxRecDepth 100000 in
set_option maxHeartbeats 16000000 in
theorem contents_any {w : World} {A : Option Addr} {n c : Nat} {es : List En} (h : REs w A n es) (hn : n ≤ 16777216) (hs : ∀ x ∈ es, x.key.length ≤ 1024 ∧ x.val.length ≤ 65536) (ev : Nat) (he : 1 ≤ ev) (he2 : ev ≤ 9223372036854775807) :
    Calls Try.prog 153 #[.int .i64 (ev : Int), .slice A n c] w (RetCt ev es w) := by
  have HL := Lib.hid h.len
  have HR := Lib.hid h
  have HS := Lib.hid hs
  have HW := Lib.hid h.wf
  clear h hs
  go_enter Try.func153, Try.ntmps153
  go_wp2_with fail
  go_loopw [5, 6, 12] (fun s5 s6 s12 wr => ∃ (i on rn : Nat) (O R : Option Addr) (oc rc : Nat), i ≤ n ∧ s12 = .int .i64 (i : Int) ∧ on = (outB ev es i).length ∧ rn = (rsB ev es i).length ∧ s5 = .slice O on oc ∧ s6 = .slice R rn rc ∧ on ≤ 1048576 ∧ CS w O oc (outB ev es i) R rc (rsB ev es i) wr) (fun _ _ s _ => n - (intOf s).toNat)
  case atStart => exact ⟨0, 0, 0, none, none, 0, 0, Nat.zero_le _, rfl, rfl, rfl, rfl, rfl, by omega, Own.nil _ _ _, Own.nil _ _ _, dj_none _, Below.refl _ _⟩
  case round =>
    obtain ⟨i, on, rn, O, R, oc, rc, hi, rfl, hon, hrn, rfl, rfl, hol, hC⟩ := hrel
    have hrl := rsB_len ev es i
    have hrn4 : rn ≤ 4 * i := by omega
    have HON := Lib.hid hon
    have HRN := Lib.hid hrn
    have HC := Lib.hid hC
    have hbC := hC.2.2.2
    clear hon hrn hC hrl
    by_cases hlt : i < n
    · obtain ⟨b, off, hAb, hbl⟩ := HR.out.pos (by omega)
      subst hAb
      obtain ⟨x, v0, v1, v2, v3, hx, c0', c1', c2', c3', hev⟩ := HR.out.at_ i hlt
      have c0 := (hbC.cell (p := ⟨b, off + i * 4, none⟩) hbl).trans c0'
      have c1 := (hbC.cell (p := ⟨b, off + i * 4 + 1, none⟩) hbl).trans c1'
      have c2 := (hbC.cell (p := ⟨b, off + i * 4 + 2, none⟩) hbl).trans c2'
      have c3 := (hbC.cell (p := ⟨b, off + i * 4 + 3, none⟩) hbl).trans c3'
      have HXI := Lib.hid hx
      have HXS := Lib.hid (HS.out x (List.mem_of_getElem? hx))
      have HXW := Lib.hid (HW.out x (List.mem_of_getElem? hx)).1
      have HEV := Lib.hid hev
      obtain ⟨K, kn, kc, V, vn, vc, rfl, rfl, rfl, rfl, r0, r3, _⟩ := hev.parts
      have HR0 := Lib.hid r0
      obtain ⟨m, hm⟩ : ∃ m, m = i % ev := ⟨_, rfl⟩
      have e1 : ((i : Int) % (ev : Int)) = (m : Int) := by rw [hm]; push_cast; rfl
      have hml : m < 9223372036854775807 := by have := Nat.mod_lt i (show 0 < ev by omega); omega
      have HM := Lib.hid hm
      obtain ⟨sh, hsh⟩ : ∃ sh, sh = shB ev es i := ⟨_, rfl⟩
      have HSH := Lib.hid hsh
      obtain ⟨U, hU⟩ : ∃ U, U = wr.alloc (.cells #[.slice K kn kc, .int .u64 (x.seq : Int), .int .u8 (x.kind : Int), .slice V vn vc] 37) := ⟨_, rfl⟩
      obtain ⟨g, hg⟩ : ∃ g, g = wr.heap.size := ⟨_, rfl⟩
      have bU : Below wr.heap.size wr U := by rw [hU]; exact (Below.refl _ _).alloc (Nat.le_refl _) _
      have HCU := Lib.hid (HC.out.below bU)
      have kU : Cl U g #[.slice K kn kc, .int .u64 (x.seq : Int), .int .u8 (x.kind : Int), .slice V vn vc] 37 := by rw [hU, hg]; exact Cl.new _ _ _
      have HKU := Lib.hid kU
      have hwU : w.heap.size ≤ U.heap.size := HCU.out.2.2.2.size
      clear hx hev r0 r3 hm hsh bU kU c0' c1' c2' c3'
      go_upto_if 20 with (fail)
      rw [← hU, ← hg]
      have HU := Lib.hid hU
      have HG := Lib.hid hg
      clear hU hg
      obtain ⟨rs2, hrs2⟩ : ∃ rs2, rs2 = rsB ev es (i + 1) := ⟨_, rfl⟩
      obtain ⟨rn2, hrn2⟩ : ∃ rn2, rn2 = rs2.length := ⟨_, rfl⟩
      have HRS2 := Lib.hid hrs2
      have HRN2 := Lib.hid hrn2
      clear hrs2 hrn2
      go_cut [6, 9] from 17 to 34 (fun s6 s9 wx => ∃ (R' : Option Addr) (rc' : Nat), s6 = .slice R' rn2 rc' ∧ s9 = .int .i64 (sh : Int) ∧ CS w O oc (outB ev es i) R' rc' rs2 wx ∧ Cl wx g #[.slice K kn kc, .int .u64 (x.seq : Int), .int .u8 (x.kind : Int), .slice V vn vc] 37)
      case first =>
        by_cases hm0 : m = 0
        · subst hm0
          have hrs : rs2 = rsB ev es i ++ fourB on := by rw [HRS2.out, rsB, if_pos HM.out.symm, ← HON.out]
          have hsh0 : sh = 0 := by rw [HSH.out, shB, if_pos HM.out.symm]
          subst hsh0
          have hR' := HCU.out.2.1
          rw [← HRN.out] at hR'
          have HAW := Lib.hid (appendWord_any R rn rc (rsB ev es i) w.heap.size on U hR' hwU (by omega) (by omega))
          have HRS := Lib.hid hrs
          clear hrs hR'
          go_wp2_with fail
          with_reducible refine HAW.out.mono ?_
          rintro e wx ⟨R', rc', rfl, oR, gR⟩
          have hln : rn + (fourB on).length = rn2 := by rw [HRN2.out, HRS.out, List.length_append, ← HRN.out]
          rw [hln] at oR ⊢
          rw [← HRS.out] at oR
          have hcs : CS w O oc (outB ev es i) R' rc' rs2 wx := HCU.out.right (by rw [← HRN2.out]; exact oR) gR
          have hkx : Cl wx g #[.slice K kn kc, .int .u64 (x.seq : Int), .int .u8 (x.kind : Int), .slice V vn vc] 37 := ClG.off HKU.out HCU.out.2.1 (by decide) gR
          have HF := Lib.hid (And.intro hcs hkx)
          clear oR gR hcs hkx hln
          go_wp2_with fail
          go_meet
          case rel => exact ⟨R', rc', by first | rfl | simp, by first | rfl | simp, HF.out.1, HF.out.2⟩
        · have t1 : ((m : Int) == 0) = false := by simp; omega
          have hrs : rs2 = rsB ev es i := by rw [HRS2.out, rsB, if_neg (by rw [← HM.out]; exact hm0)]
          obtain ⟨j, hj⟩ : ∃ j, j = i - 1 := ⟨_, rfl⟩
          have hi0 : 0 < i := by
            rcases Nat.eq_zero_or_pos i with h0 | h0
            · exact absurd (by rw [HM.out, h0, Nat.zero_mod]) hm0
            · exact h0
          obtain ⟨y, u0, u1, u2, u3, hy, d0', d1', d2', d3', hew⟩ := HR.out.at_ j (by omega)
          obtain ⟨L, ln, lc, _, _, _, hu0, _, _, _, r0', _⟩ := hew.parts
          subst hu0
          have hsh2 : sh = comB y.key x.key := by
            rw [HSH.out, shB, if_neg (by rw [← HM.out]; exact hm0), ← hj, hy, HXI.out]
          have hsy := HS.out y (List.mem_of_getElem? hy)
          have hkn1 : kn ≤ 1099511627776 := by have := HXS.out.1; have := HR0.out.len; omega
          have hln1 : ln ≤ 1099511627776 := by have := r0'.len; omega
          have d0 : U.cell? ⟨b, off + j * 4, none⟩ = some (.slice L ln lc) := (HCU.out.2.2.2.cell (p := ⟨b, off + j * 4, none⟩) hbl).trans d0'
          have k0 := HKU.out.c4.1
          have e2 : IntKind.i64.wrap ((i : Int) - 1) = (j : Int) := by rw [IntWalk.i64_in _ (by omega)]; omega
          have hjn : j < n := by omega
          have HCM : Hid (∀ q, Calls Try.prog 189 #[.slice L ln lc, .slice K kn kc] (U.drewN q) (RetCo (U.drewN q) sh)) := Lib.hid (fun q => by
            rw [hsh2]
            exact common_any L K ln kn lc kc y.key x.key _ ((r0'.below HCU.out.2.2.2).drewN q) ((HR0.out.below HCU.out.2.2.2).drewN q) hln1 hkn1)
          have HRS := Lib.hid hrs
          have HJ := Lib.hid hj
          have hoi : off + j * 4 + 0 = off + j * 4 := rfl
          clear hrs hj hy d0' d1' d2' d3' hew r0' hsh2 hsy hoi
          go_wp2_with fail
          go_quiet ((go_at_call 189; with_reducible exact Calls.quiet_of (HCM.out _)))
          have hcs : CS w O oc (outB ev es i) R rc rs2 (U.drewN nq) := by
            rw [HRS.out]
            exact HCU.out.below (below_drewN (Below.refl _ _) nq)
          have HF := Lib.hid (And.intro hcs (HKU.out.drewN nq))
          have hln : rn = rn2 := by rw [HRN2.out, HRS.out, ← HRN.out]
          subst hln
          clear hcs
          go_wp2_with fail
          go_meet
          case rel => exact ⟨R, rc, by first | rfl | simp, by first | rfl | simp, HF.out.1, HF.out.2⟩
      case rest =>
        obtain ⟨R', rc', rfl, rfl, hcs, hkx⟩ := hcut
        have hO := hcs.1
        rw [← HON.out] at hO
        have hxe := entB_len (s := sh) (x := x) (by rw [HSH.out]; exact shB_le HXI.out) HXS.out.1 HXS.out.2 HXW.out
        have HAE := Lib.hid (appendEntry_any HEV.out ⟨by have := HXS.out.1; omega, by have := HXS.out.2; omega⟩ sh (by rw [HSH.out]; exact shB_le HXI.out) O on oc (outB ev es i) hO hcs.2.2.2 (by omega))
        have hstep : outB ev es (i + 1) = outB ev es i ++ entB sh x := by rw [outB_step HXI.out, HSH.out]
        obtain ⟨ol, hol2⟩ : ∃ ol, ol = on + (entB sh x).length := ⟨_, rfl⟩
        have holn : ol = (outB ev es (i + 1)).length := by rw [hstep, List.length_append, ← HON.out, hol2]
        have hob : ol ≤ 1200000 := by omega
        have HOL := Lib.hid hol2
        have HOLN := Lib.hid holn
        have HST := Lib.hid hstep
        have HCS := Lib.hid hcs
        obtain ⟨k0, k1, k2, k3, _⟩ := hkx.c4
        have HG2 := Lib.hid hkx
        clear hO hcs hkx hxe hstep hol2 holn
        go_wp2_with fail
        with_reducible refine HAE.out.mono ?_
        rintro e w3 ⟨O', oc', rfl, oO, gO⟩
        rw [← HOL.out] at oO ⊢
        rw [← HST.out] at oO
        have hc3 : CS w O' oc' (outB ev es (i + 1)) R' rc' rs2 w3 := HCS.out.left (by rw [← HOLN.out]; exact oO) gO
        have HC3 := Lib.hid hc3
        clear oO gO hc3
        by_cases hbig : 1048576 < ol
        · go_wp2_with fail
          go_ret
          have h1 := HC3.out.1
          have h2 := HOLN.out
          unfold RetCt
          refine ⟨O', oc', _, by rw [h2]; rfl, h1, HC3.out.2.2.2, by omega, .inl ⟨by omega, ?_⟩⟩
          unfold fullB
          rw [List.length_append, List.length_append]
          have := outB_mono ev es (i + 1) es.length (by rw [HL.out]; omega)
          omega
        · go_wp2_with fail
          go_roundw
          case rel => exact ⟨i + 1, ol, rn2, O', R', oc', rc', by omega, by go_num, HOLN.out, by rw [HRN2.out, HRS2.out], rfl, rfl, by omega, by rw [← HRS2.out]; exact HC3.out⟩
          case measure => simp [intOf]; omega
    · obtain rfl : i = n := by omega
      have hsw := hbC.size
      have hO := HC.out.1
      rw [← HON.out] at hO
      have hRd := HC.out.2.1.rd
      rw [← HRN.out] at hRd
      have hDj := HC.out.2.2.1
      have HR2 := Lib.hid HC.out.2.1
      clear hbC
      go_wp2_with (at_builtin; refine wpList_appX _ rfl _ _ 25 rfl w.heap.size 5 Try.underlying25 info_u8 O on oc _ rfl hO R rn rc (rsB ev es i) rfl hRd ?_ ?_ ?_)
      · omega
      · exact hsw
      intro O2 oc2 w2 o2 g2
      obtain ⟨q, hq⟩ : ∃ q, q = rn / 4 := ⟨_, rfl⟩
      have e3 : (rn : Int) / 4 = (q : Int) := by rw [hq]; omega
      have hb2 : Below w.heap.size w w2 := HC.out.2.2.2.trans (g2.below HC.out.1 hsw)
      have hq2 : q ≤ 16777216 := by omega
      have HAW := Lib.hid (appendWord_any O2 (on + rn) oc2 _ w.heap.size q w2 o2 hb2.size (by omega) (by omega))
      have HQ := Lib.hid hq
      have HO2 := Lib.hid o2
      have HB2 := Lib.hid hb2
      clear hO hRd hDj g2 hq o2 hb2
      go_wp2_with fail
      with_reducible refine HAW.out.mono ?_
      rintro e w3 ⟨O3, oc3, rfl, o3, g3⟩
      have hb3 : Below w.heap.size w w3 := HB2.out.trans (g3.below HO2.out HB2.out.size)
      have hfull : (outB ev es i ++ rsB ev es i) ++ fourB q = fullB ev es := by
        unfold fullB
        rw [HL.out, HQ.out, ← HRN.out]
      rw [hfull] at o3
      have hlen : on + rn + (fourB q).length = (fullB ev es).length := by
        rw [← hfull, List.length_append, List.length_append, ← HON.out, ← HRN.out]
      have hl2 : (fullB ev es).length ≤ 100000000 := by
        rw [← hlen, fourB_len]; omega
      rw [hlen] at o3 ⊢
      have HF := Lib.hid (And.intro o3 (And.intro hb3 hl2))
      clear o3 g3 hb3 hfull hlen hl2
      go_wp2_with fail
      go_ret
      exact ⟨O3, oc3, _, rfl, HF.out.1, HF.out.2.1, HF.out.2.2, .inr rfl⟩
end Go.Proofs.Ytcclhkoggijkaaa
namespace Go.Proofs.Ytcclhkoggijkaaa
open Go Go.RowKit

/-- What the reference's Get answers: an entry's values as they lie in the list. -/
def RetGl (w : World) (o : Option En) (e : Ending) (w' : World) : Prop :=
  (o = none ∧ e = .returned (.tuple #[.agg #[.slice none 0 0, .int .u64 0, .int .u8 0, .slice none 0 0], .bool false]) ∧ Below w.heap.size w w') ∨
  ∃ x v0 v1 v2 v3, o = some x ∧ e = .returned (.tuple #[.agg #[v0, v1, v2, v3], .bool true]) ∧ EV w' x v0 v1 v2 v3 ∧ Below w.heap.size w w'
theorem findL_at {key : List UInt8} {at_ k : Nat} {es : List En} {x : En} (h : findL key at_ (es.take k) = none) (hx : es[k]? = some x) (hk : (eqB x.key key && decide (x.seq ≤ at_)) = true) : findL key at_ es = some x := by
  have hlt := (List.getElem?_eq_some_iff.1 hx).1
  have e : es = es.take k ++ x :: es.drop (k + 1) := by
    have hd : es.drop k = x :: es.drop (k + 1) := by rw [List.drop_eq_getElem_cons hlt, (List.getElem?_eq_some_iff.1 hx).2]
    rw [← hd, List.take_append_drop]
  unfold findL at h ⊢
  rw [e, List.find?_append, h, List.find?_cons, hk]
  rfl
theorem findL_snoc {key : List UInt8} {at_ k : Nat} {es : List En} {x : En} (h : findL key at_ (es.take k) = none) (hx : es[k]? = some x) (hk : (eqB x.key key && decide (x.seq ≤ at_)) = false) : findL key at_ (es.take (k + 1)) = none := by
  unfold findL at h ⊢
  rw [List.take_add_one, hx, List.find?_append, h]
  simp only [Option.toList, List.find?_cons, hk]
  rfl
end Go.Proofs.Ytcclhkoggijkaaa
namespace Go.Proofs.Ytcclhkoggijkaaa
open Go Go.RowKit

/-- 'All memory that these values name lies in good blocks.' -/
def GV (G : Nat → Prop) (vs : List Value) : Prop := ∀ A m c g, Value.slice A m c ∈ vs → 0 < m → blk A = some g → G g
/-- 'The slice of n entries at A reads as these, and its memory lies in good blocks.' -/
def RG (G : Nat → Prop) (w : World) (A : Option Addr) (n : Nat) (es : List En) : Prop :=
  es.length = n ∧ ∃ vs, EVs w es vs ∧ RdV w A (n * 4) vs ∧ GV G vs ∧ (0 < n → ∀ g, blk A = some g → G g)
/-- 'What is good and was there stands.' -/
def FrG (G : Nat → Prop) (w w' : World) : Prop := w.heap.size ≤ w'.heap.size ∧ ∀ b, b < w.heap.size → G b → w'.heap[b]? = w.heap[b]?
section
variable {G H : Nat → Prop} {w w' w2 : World} {A : Option Addr} {n : Nat} {es gs : List En} {vs us : List Value}
theorem GV.app (h1 : GV G vs) (h2 : GV G us) : GV G (vs ++ us) := fun A m c g hv => by
  rcases List.mem_append.1 hv with h | h
  · exact h1 A m c g h
  · exact h2 A m c g h
theorem GV.nil : GV G [] := fun A m c g hv => by cases hv
theorem GV.sub (h : GV G vs) (hs : ∀ u ∈ us, u ∈ vs) : GV G us := fun A m c g hv => h A m c g (hs _ hv)
theorem GV.mono (h : GV G vs) (hs : ∀ g, G g → H g) : GV H vs := fun A m c g hv h0 hb => hs g (h A m c g hv h0 hb)
theorem RG.res (h : RG G w A n es) : REs w A n es := by
  obtain ⟨h1, vs, h2, h3, _⟩ := h
  exact REs.mk h2 h3 h1
theorem RG.len (h : RG G w A n es) : es.length = n := h.1
theorem RG.nil (G : Nat → Prop) (w : World) (A : Option Addr) : RG G w A 0 [] := ⟨rfl, [], rfl, RdV.nil _ _, GV.nil, fun h => absurd h (by omega)⟩
theorem RG.below (h : RG G w A n es) (hb : Below w.heap.size w w') : RG G w' A n es := by
  obtain ⟨h1, vs, h2, h3, h4⟩ := h
  exact ⟨h1, vs, h2.below hb, h3.below hb, h4⟩
theorem FrG.refl (G : Nat → Prop) (w : World) : FrG G w w := ⟨Nat.le_refl _, fun _ _ _ => rfl⟩
theorem FrG.trans (h : FrG G w w') (k : FrG G w' w2) : FrG G w w2 := ⟨Nat.le_trans h.1 k.1, fun b hb hg => (k.2 b (Nat.lt_of_lt_of_le hb h.1) hg).trans (h.2 b hb hg)⟩
theorem FrG.of_below (h : Below w.heap.size w w') : FrG G w w' := ⟨h.size, fun b hb _ => h.block b hb⟩
theorem FrG.of_grown {row : Option Nat} (h : w.grownBy w' row) (hr : ∀ g, row = some g → ¬ G g) : FrG G w w' := by
  obtain ⟨_, _, _, h4, h5⟩ := h
  exact ⟨h4, fun b hb hg => h5 b hb (fun e => hr b e.symm hg)⟩
theorem cell_of_heap {p : Addr} (h : w'.heap[p.block]? = w.heap[p.block]?) : w'.cell? p = w.cell? p := by
  unfold World.cell?
  rw [h]
theorem rd_good {xs : List UInt8} (h : Rd w A n xs) (hg : 0 < n → ∀ g, blk A = some g → G g) (hf : FrG G w w') : Rd w' A n xs := by
  refine ⟨h.1, fun hn => ?_⟩
  obtain ⟨b, off, rfl, h2, h3⟩ := h.2 hn
  exact ⟨b, off, rfl, Nat.lt_of_lt_of_le h2 hf.1, fun i x hx => (cell_of_heap (p := ⟨b, off + i, none⟩) (hf.2 b h2 (hg hn b rfl))).trans (h3 i x hx)⟩
theorem rdv_good (h : RdV w A n vs) (hg : 0 < n → ∀ g, blk A = some g → G g) (hf : FrG G w w') : RdV w' A n vs := by
  refine ⟨h.1, fun hn => ?_⟩
  obtain ⟨b, off, rfl, h2, h3⟩ := h.2 hn
  exact ⟨b, off, rfl, Nat.lt_of_lt_of_le h2 hf.1, fun i x hx => (cell_of_heap (p := ⟨b, off + i, none⟩) (hf.2 b h2 (hg hn b rfl))).trans (h3 i x hx)⟩
theorem ev_good {e : En} {v0 v1 v2 v3 : Value} (h : EV w e v0 v1 v2 v3) (hg : GV G [v0, v1, v2, v3]) (hf : FrG G w w') : EV w' e v0 v1 v2 v3 := by
  obtain ⟨h1, h2, h3, h4, ⟨K, kn, kc, rfl, r0, c0, d0⟩, ⟨V, vn, vc, rfl, r3, c3, d3⟩⟩ := h
  exact ⟨h1, h2, h3, h4, ⟨K, kn, kc, rfl, rd_good r0 (fun h0 g hb => hg K kn kc g (by simp) h0 hb) hf, c0, d0⟩, ⟨V, vn, vc, rfl, rd_good r3 (fun h0 g hb => hg V vn vc g (by simp) h0 hb) hf, c3, d3⟩⟩
theorem evs_good (hf : FrG G w w') : ∀ {es : List En} {vs : List Value}, EVs w es vs → GV G vs → EVs w' es vs
  | [], _, h, _ => h
  | _ :: _, _, ⟨v0, v1, v2, v3, r, e, h1, h2⟩, hg => ⟨v0, v1, v2, v3, r, e, ev_good h1 (hg.sub (fun u hu => by rw [e]; simp only [List.mem_cons, List.not_mem_nil, or_false] at hu ⊢; rcases hu with h | h | h | h <;> simp [h])) hf, evs_good hf h2 (hg.sub (fun u hu => by rw [e]; simp [hu]))⟩
/-- Behind whatever leaves the good blocks. -/
theorem RG.good (h : RG G w A n es) (hf : FrG G w w') : RG G w' A n es := by
  obtain ⟨h1, vs, h2, h3, h4, h5⟩ := h
  exact ⟨h1, vs, evs_good hf h2 h4, rdv_good h3 (fun h0 => h5 (by omega)) hf, h4, h5⟩
theorem ev_mem {e : En} {v0 v1 v2 v3 : Value} (h : EV w e v0 v1 v2 v3) {B : Option Addr} {m c : Nat} (hv : Value.slice B m c ∈ [v0, v1, v2, v3]) (h0 : 0 < m) {g : Nat} (hb : blk B = some g) : g < w.heap.size := by
  obtain ⟨K, kn, kc, V, vn, vc, rfl, rfl, rfl, rfl, r0, r3, _⟩ := h.parts
  simp only [List.mem_cons, List.not_mem_nil, or_false] at hv
  rcases hv with e | e | e | e
  · injection e with e1 e2 e3
    subst e1 e2
    obtain ⟨b, off, rfl, hl⟩ := r0.pos h0
    injection hb with hb
    rw [← hb]; exact hl
  · cases e
  · cases e
  · injection e with e1 e2 e3
    subst e1 e2
    obtain ⟨b, off, rfl, hl⟩ := r3.pos h0
    injection hb with hb
    rw [← hb]; exact hl
theorem evs_lt : ∀ {es : List En} {vs : List Value}, EVs w es vs → GV (fun g => g < w.heap.size) vs
  | [], _, h => by rw [h]; exact GV.nil
  | _ :: _, _, ⟨v0, v1, v2, v3, r, e, h1, h2⟩ => by
    rw [e]
    exact GV.app (vs := [v0, v1, v2, v3]) (fun A m c g hv h0 hb => ev_mem h1 hv h0 hb) (evs_lt h2)
/-- What is read lies in blocks that are there. -/
theorem REs.lt (h : REs w A n es) : RG (fun g => g < w.heap.size) w A n es := by
  obtain ⟨h1, vs, h2, h3⟩ := h
  refine ⟨h1, vs, h2, h3, evs_lt h2, fun h0 g hb => ?_⟩
  obtain ⟨b, off, rfl, hl⟩ := h3.pos (by omega)
  injection hb with hb
  rw [← hb]; exact hl
theorem RG.mono (h : RG G w A n es) (hs : ∀ g, G g → H g) : RG H w A n es := by
  obtain ⟨h1, vs, h2, h3, h4, h5⟩ := h
  exact ⟨h1, vs, h2, h3, h4.mono hs, fun h0 g hb => hs g (h5 h0 g hb)⟩
theorem RG.at_ {b off : Nat} (h : RG G w (some ⟨b, off, none⟩) n es) (k : Nat) (hk : k < n) :
    ∃ e v0 v1 v2 v3, es[k]? = some e ∧ w.cell? ⟨b, off + k * 4, none⟩ = some v0 ∧ w.cell? ⟨b, off + k * 4 + 1, none⟩ = some v1 ∧
      w.cell? ⟨b, off + k * 4 + 2, none⟩ = some v2 ∧ w.cell? ⟨b, off + k * 4 + 3, none⟩ = some v3 ∧ EV w e v0 v1 v2 v3 ∧ GV G [v0, v1, v2, v3] := by
  obtain ⟨h1, vs, h2, h3, h4, _⟩ := h
  obtain ⟨b', off', e, hb, hc⟩ := h3.2 (by omega)
  injection e with e
  injection e with e1 e2
  subst e1 e2
  obtain ⟨x, hx⟩ : ∃ x, es[k]? = some x := ⟨_, List.getElem?_eq_getElem (by omega)⟩
  obtain ⟨v0, v1, v2, v3, e0, e1, e2, e3, g0⟩ := h2.at_ k hx
  refine ⟨x, v0, v1, v2, v3, hx, hc _ _ e0, ?_, ?_, ?_, g0, h4.sub (fun u hu => ?_)⟩
  · rw [Nat.add_assoc]; exact hc _ _ e1
  · rw [Nat.add_assoc]; exact hc _ _ e2
  · rw [Nat.add_assoc]; exact hc _ _ e3
  · simp only [List.mem_cons, List.not_mem_nil, or_false] at hu
    rcases hu with rfl | rfl | rfl | rfl
    · exact List.mem_of_getElem? e0
    · exact List.mem_of_getElem? e1
    · exact List.mem_of_getElem? e2
    · exact List.mem_of_getElem? e3
end
/-- What PutAll answers. -/
def refPut (l xs : List En) : Int × List En := if checkE xs = 0 then match refIns l xs with | none => (7, l) | some l' => (0, l') else (checkE xs, l)
theorem refIns_snoc : ∀ (l xs : List En) (x : En), refIns l (xs ++ [x]) = (refIns l xs).bind (fun o => if inL o x then none else some (insL o x))
  | l, [], x => by simp [refIns]
  | l, y :: ys, x => by
    simp only [List.cons_append, refIns]
    by_cases h : inL l y = true
    · rw [if_pos h, if_pos h]; rfl
    · rw [if_neg h, if_neg h]
      exact refIns_snoc _ ys x
theorem refIns_none {l xs ys : List En} (h : refIns l xs = none) : refIns l (xs ++ ys) = none := by
  induction xs generalizing l with
  | nil => simp [refIns] at h
  | cons x xs ih =>
    simp only [List.cons_append, refIns] at h ⊢
    split at h
    · next h1 => rw [if_pos h1]
    · next h1 => rw [if_neg h1]; exact ih h
theorem refIns_len : ∀ {l o xs : List En}, refIns l xs = some o → o.length = l.length + xs.length
  | l, o, [], h => by injection h with h; subst h; simp
  | l, o, x :: xs, h => by
    unfold refIns at h
    split at h
    · cases h
    · have := refIns_len h
      rw [insL_len] at this
      simp only [List.length_cons]
      omega
theorem insL_mem {l : List En} {x y : En} (h : y ∈ insL l x) : y = x ∨ y ∈ l := by
  unfold insL at h
  rcases List.mem_append.1 h with h | h
  · exact .inr (List.mem_of_mem_take h)
  · rcases List.mem_cons.1 h with h | h
    · exact .inl h
    · exact .inr (List.mem_of_mem_drop h)
theorem refIns_mem : ∀ {l o xs : List En}, refIns l xs = some o → ∀ y ∈ o, y ∈ l ∨ y ∈ xs
  | l, o, [], h, y, hy => by injection h with h; subst h; exact .inl hy
  | l, o, x :: xs, h, y, hy => by
    unfold refIns at h
    split at h
    · cases h
    · rcases refIns_mem h y hy with q | q
      · rcases insL_mem q with q | q
        · exact .inr (by simp [q])
        · exact .inl q
      · exact .inr (by simp [q])
def RetPA (G : Nat → Prop) (w : World) (z : Int × List En) (e : Ending) (w' : World) : Prop :=
  ∃ L k d, e = .returned (.tuple #[.slice L k d, .int .i64 z.1]) ∧ RG G w' L k z.2 ∧ k ≤ d ∧ Below w.heap.size w w'
theorem RetPA.out {G : Nat → Prop} {w : World} {z : Int × List En} {e : Ending} {w' : World} (h : RetPA G w z e w') : ∃ L k d, e = .returned (.tuple #[.slice L k d, .int .i64 z.1]) ∧ RG G w' L k z.2 ∧ k ≤ d ∧ Below w.heap.size w w' := h
theorem refPut_bad {l xs : List En} (h : checkE xs ≠ 0) : refPut l xs = (checkE xs, l) := by unfold refPut; rw [if_neg h]
theorem refPut_none {l xs : List En} (h : checkE xs = 0) (h2 : refIns l xs = none) : refPut l xs = (7, l) := by unfold refPut; rw [if_pos h, h2]
theorem refPut_some {l xs o : List En} (h : checkE xs = 0) (h2 : refIns l xs = some o) : refPut l xs = (0, o) := by unfold refPut; rw [if_pos h, h2]
end Go.Proofs.Ytcclhkoggijkaaa
namespace Go.Proofs.Ytcclhkoggijkaaa
open Go Go.RowKit

/-- Blocks of other kinds are other blocks. -/
theorem row_ne {t1 t2 : TypeId} {s1 s2 : Nat} {w : World} {b1 b2 n c m d : Nat} {L A : Option Addr} {i j : Nat} {vs us : List Value} (h : w.ownsRow b1 t1 s1 (.slice L n c) i vs) (k : w.ownsRow b2 t2 s2 (.slice A m d) j us) (hne : t1 ≠ t2) : Dj L A := fun b e1 e2 => by
  rcases h.2 with ⟨h1, _⟩ | ⟨g, cap, cur, h1, _, hg, _⟩
  · injection h1 with h1
    rw [h1] at e1; cases e1
  · injection h1 with h1
    rw [h1] at e1
    injection e1 with e1
    rcases k.2 with ⟨k1, _⟩ | ⟨g2, cap2, cur2, k1, _, kg, _⟩
    · injection k1 with k1
      rw [k1] at e2; cases e2
    · injection k1 with k1
      rw [k1] at e2
      injection e2 with e2
      simp only at e1 e2
      subst e1 e2
      rw [hg] at kg
      injection kg with kg
      injection kg with _ kg
      exact hne kg
theorem ownV_ne {t : TypeId} {w : World} {b1 b2 n c m d : Nat} {L A : Option Addr} {vs : List Value} {xs : List UInt8} (h : OwnV t w b1 L n c vs) (k : Own 5 w b2 A m d xs) (hne : t ≠ 5) : Dj L A := row_ne h k hne
theorem cl_row {ty t : TypeId} {s : Nat} {w : World} {p b2 m d j : Nat} {A : Option Addr} {us : Array Value} {vs : List Value} (h : Cl w p us ty) (k : w.ownsRow b2 t s (.slice A m d) j vs) (hne : ty ≠ t) : blk A ≠ some p := fun e2 => by
  rcases k.2 with ⟨k1, _⟩ | ⟨g2, cap2, cur2, k1, _, kg, _⟩
  · injection k1 with k1
    rw [k1] at e2; cases e2
  · injection k1 with k1
    rw [k1] at e2
    injection e2 with e2
    simp only at e2
    subst e2
    unfold Cl at h
    rw [h] at kg
    injection kg with kg
    injection kg with _ kg
    exact hne kg
theorem cl_ne {ty : TypeId} {w : World} {p b2 m d : Nat} {A : Option Addr} {us : Array Value} {xs : List UInt8} (h : Cl w p us ty) (k : Own 5 w b2 A m d xs) (hne : ty ≠ 5) : blk A ≠ some p := cl_row h k hne
theorem Cl.grown {w w' : World} {p : Nat} {us : Array Value} {ty : TypeId} {row : Option Nat} (h : Cl w p us ty) (hg : w.grownBy w' row) (hne : row ≠ some p) : Cl w' p us ty := by
  obtain ⟨_, _, _, h4, h5⟩ := hg
  exact (h5 p h.lt (fun e => hne e.symm)).trans h
theorem rdPre2 {e : TypeId} {w : World} {base g n k : Nat} {xs : List UInt8} (h : Own e w base (some ⟨g, 0, none⟩) (n + 40) (n + 40) (xs ++ room n k)) (hx : xs.length = n) : Rd w (some ⟨g, 0, none⟩) n xs := by
  have := (h.prefix n (by omega) (by simp)).rd
  rw [List.take_left' hx] at this
  exact this
theorem ownV_box2 (w : World) (t : TypeId) (base : Nat) (vs : List Value) (n : Nat) (hl : vs.length = n) (hn : n ≤ 1024) (hb : base ≤ w.heap.size) (cs : Array Value) (hc : cs = vs.toArray) : OwnV t (w.alloc (.cells cs t)) base (some ⟨w.heap.size, 0, none⟩) n n vs := by
  subst hc
  refine ⟨by simp [hl], .inr ⟨w.heap.size, n, vs.toArray, rfl, hb, heap_alloc_new w _, Nat.le_refl _, by unfold maxLen; omega, by simp [hl], ?_⟩⟩
  simp only [Nat.mul_one]
  exact List.take_of_length_le (by simp [hl])
theorem mem_own2 {w : World} {base : Nat} {ps : List VB} (h : Fam w base ps) {A : Option Addr} {m c : Nat} {xs : List UInt8} (hp : (Value.slice A m c, xs) ∈ ps) : Own 5 w base A m c xs := by
  obtain ⟨A', m', c', e, ho⟩ := h.1 _ hp
  injection e with e1 e2 e3
  subst e1 e2 e3
  exact ho
section
variable {w w' : World} {base : Nat} {ps qs : List VB}
theorem Fam.off_cl (h : Fam w base ps) {p : Nat} {us : Array Value} {ty : TypeId} (hp : Cl w p us ty) (hne : ty ≠ 5) : OffF ps p := fun q hq e => by
  obtain ⟨A, m, c, e1, ho⟩ := h.1 q hq
  rw [e1, own_blk] at e
  exact cl_ne hp ho hne e
theorem Fam.off_row (h : Fam w base ps) {t : TypeId} {b1 n c : Nat} {L : Option Addr} {vs : List Value} (hl : OwnV t w b1 L n c vs) (hne : t ≠ 5) : ∀ b, blk L = some b → OffF ps b := fun b hb q hq e => by
  obtain ⟨A, m, d, e1, ho⟩ := h.1 q hq
  rw [e1, own_blk] at e
  exact ownV_ne hl ho hne b hb e
theorem Fam.perm (h : Fam w base ps) (hp : ps.Perm qs) : Fam w base qs :=
  ⟨fun p hq => h.1 p (hp.mem_iff.2 hq), h.2.perm hp (fun {_ _} hab => Ap.symm hab)⟩
theorem Fam.app {base' : Nat} (h : Fam w base ps) (hn : Fam w' base' qs) (hb : Below w.heap.size w w') (h1 : w.heap.size ≤ base') (h2 : base ≤ base') : Fam w' base (ps ++ qs) := by
  have h0 : Fam w base (ps ++ []) := by rw [List.append_nil]; exact h
  have := Fam.ins h0 hn hb h1 h2
  rw [List.append_nil] at this
  exact this
theorem OffF.app {p : Nat} (h : OffF ps p) (k : OffF qs p) : OffF (ps ++ qs) p := fun q hq => by
  rcases List.mem_append.1 hq with h1 | h1
  · exact h q h1
  · exact k q h1
end
/-- One values more appended onto a row of one-cell values at a step of a region that draws its order. -/
theorem step_appV {P : Program} (w : World) {ops : Array Oper} {o : Oper} {a : Act} {K : Act → World → Prop} {Q : Exit → Act → World → Prop} {E : Prop} (hgd : o.guard = none) (s x : Operand) (tt : TypeId)
    (ho : o.op = .call { callee := .builtin .append, args := #[s, x], argTypes := #[tt, tt] })
    (base : Nat) (t : TypeId) (z : Value) (by_ : Nat) (ht : P.underlying tt = some (.slice t)) (hi : (P.info? t).map (fun i => (i.zero, i.size, i.bytes)) = some (some z, 1, by_)) (hz1 : z.cells.size = 1)
    (A : Option Addr) (n c : Nat) (vs : List Value) (hs : a.eval s = .slice A n c) (hown : OwnV t w base A n c vs)
    (ad : Addr) (m d : Nat) (ys : List Value) (hx : a.eval x = .slice (some ad) m d) (hr : RdV w (some ad) m ys) (hm : 0 < m) (h1 : ∀ u ∈ ys, u.oneCell' = true)
    (hn : n + m ≤ maxLen) (hby : (n + m) * by_ ≤ 140737488355328) (hbase : base ≤ w.heap.size)
    (h : ∀ A' c' w', OwnV t w' base A' (n + m) c' (vs ++ ys) → w.grownBy w' (blk A) → K (a.put o.dst (.slice A' (n + m) c')) w') :
    if Region.wanted o (yielded ops a.tmps) = true then Oper.wp P o a w K Q else E := by
  have hw : Region.wanted o (yielded ops a.tmps) = true := by simp [Region.wanted, hgd]
  rw [if_pos hw]
  obtain ⟨i, hi, hz, hsz, hby2⟩ := info_parts hi
  obtain ⟨b, off, e, _, hc⟩ := hr.2 hm
  injection e with e
  subst e
  refine wp_append_own w s x tt ho base t i z 1 by_ ht hi hz hsz hby2 hz1 (by decide) (.slice A n c) n vs hs hown ⟨b, off, none⟩ m d ys hx (by simp [hr.1]) (fun j u hj => by rw [Addr.add_lit]; exact hc j u hj) h1 hn hby hbase ?_
  intro v' w' k1 k2 _
  obtain ⟨A', c', rfl⟩ : ∃ A' c', v' = .slice A' (n + m) c' := by
    rcases k1.2 with ⟨h3, h4⟩ | ⟨g, cap, cur, h3, _⟩
    · exact ⟨none, 0, by rw [h3, h4]⟩
    · exact ⟨_, _, h3⟩
  rw [own_blk] at k2
  exact h A' c' w' k1 k2
/-- Two lists of pairs, a pair of each by turns. -/
def inter {α : Type} : List α → List α → List α
  | a :: b :: r, c :: d :: s => a :: b :: c :: d :: inter r s
  | _, _ => []
theorem four_of {vs : List Value} {k : Nat} (h : vs.length = (k + 1) * 4) : ∃ v0 v1 v2 v3 r, vs = v0 :: v1 :: v2 :: v3 :: r ∧ r.length = k * 4 := by
  match vs, h with
  | [], h => simp at h
  | [_], h => simp at h; omega
  | [_, _], h => simp at h; omega
  | [_, _, _], h => simp at h; omega
  | a :: b :: c :: d :: r, h => exact ⟨a, b, c, d, r, rfl, by simp only [List.length_cons] at h; omega⟩
theorem inter_perm : ∀ (es : List En) {vs us : List Value}, vs.length = es.length * 4 → us.length = es.length * 4 → (pairE es vs ++ pairE es us).Perm (inter (pairE es vs) (pairE es us))
  | [], vs, us, _, _ => by simp [pairE, inter]
  | e :: es, vs, us, h1, h2 => by
    obtain ⟨v0, v1, v2, v3, r, rfl, hr⟩ := four_of h1
    obtain ⟨u0, u1, u2, u3, s, rfl, hs⟩ := four_of h2
    have ih := inter_perm es (vs := r) (us := s) hr hs
    simp only [pairE, inter, List.cons_append]
    refine .cons _ (.cons _ ?_)
    refine List.Perm.trans ?_ (.cons _ (.cons _ ih))
    have p1 : (pairE es r ++ (u0, e.key) :: (u3, e.val) :: pairE es s).Perm ((u0, e.key) :: (pairE es r ++ (u3, e.val) :: pairE es s)) := List.perm_middle
    exact p1.trans (.cons _ List.perm_middle)
theorem inter_take : ∀ (es : List En) {vs us : List Value} (i : Nat) {v0 v3 u0 u3 : Value}, vs.length = es.length * 4 → us.length = es.length * 4 → vs[i * 4]? = some v0 → vs[i * 4 + 3]? = some v3 → us[i * 4]? = some u0 → us[i * 4 + 3]? = some u3 → i < es.length →
    ((inter (pairE es vs) (pairE es us)).take (4 * (i + 1))).map (·.1) = ((inter (pairE es vs) (pairE es us)).take (4 * i)).map (·.1) ++ [v0, v3, u0, u3]
  | [], _, _, i, _, _, _, _, _, _, _, _, _, _, hi => by simp at hi
  | e :: es, vs, us, i, v0, v3, u0, u3, hv, hu, h0, h3, k0, k3, hi => by
    obtain ⟨x0, x1, x2, x3, r, rfl, hr⟩ := four_of hv
    obtain ⟨y0, y1, y2, y3, s, rfl, hs⟩ := four_of hu
    cases i with
    | zero =>
      simp at h0 h3 k0 k3
      subst h0 h3 k0 k3
      simp [pairE, inter]
    | succ i =>
      simp only [List.length_cons] at hi
      have e0 : (i + 1) * 4 = i * 4 + 4 := by omega
      have e3 : (i + 1) * 4 + 3 = i * 4 + 3 + 4 := by omega
      rw [e0] at h0 k0
      rw [e3] at h3 k3
      have ih := inter_take es (vs := r) (us := s) i hr hs (by simpa using h0) (by simpa using h3) (by simpa using k0) (by simpa using k3) (by omega)
      have e4 : 4 * (i + 1 + 1) = 4 * (i + 1) + 4 := by omega
      have e5 : 4 * (i + 1) = 4 * i + 4 := by omega
      simp only [pairE, inter]
      rw [e4]
      simp only [List.take_succ_cons, List.map_cons]
      rw [ih, e5]
      simp only [List.take_succ_cons, List.map_cons, List.cons_append]
theorem pairE_len : ∀ (es : List En) {vs : List Value}, vs.length = es.length * 4 → (pairE es vs).length = es.length * 2
  | [], vs, h => by simp [pairE]
  | e :: es, vs, h => by
    obtain ⟨x0, x1, x2, x3, r, rfl, hr⟩ := four_of h
    have := pairE_len es (vs := r) hr
    simp only [pairE, List.length_cons]
    omega
theorem inter_all (es : List En) {vs us : List Value} (hv : vs.length = es.length * 4) (hu : us.length = es.length * 4) : (inter (pairE es vs) (pairE es us)).take (4 * es.length) = inter (pairE es vs) (pairE es us) := by
  have h := (inter_perm es hv hu).length_eq
  rw [List.length_append, pairE_len es hv, pairE_len es hu] at h
  exact List.take_of_length_le (by omega)
theorem pairE_sz : ∀ {es : List En} {vs : List Value} {q : VB}, q ∈ pairE es vs → ∃ e ∈ es, q.2 = e.key ∨ q.2 = e.val
  | e :: es, x0 :: x1 :: x2 :: x3 :: r, q, h => by
    unfold pairE at h
    simp only [List.mem_cons] at h
    rcases h with rfl | rfl | h
    · exact ⟨e, by simp, .inl rfl⟩
    · exact ⟨e, by simp, .inr rfl⟩
    · obtain ⟨x, hx, k⟩ := pairE_sz h
      exact ⟨x, by simp [hx], k⟩
theorem ownE_kept {w w' : World} {base n c : Nat} {A : Option Addr} {vs : List Value} {row : Option Nat} (h : OwnE w base A n c vs) (hg : w.grownBy w' row) (hne : ∀ b, blk A = some b → row ≠ some b) : OwnE w' base A n c vs := by
  refine World.ownsRow.kept h hg ?_
  rw [own_blk]
  cases hb : blk A with
  | none => exact .inl rfl
  | some b => exact .inr (fun e => hne b hb e.symm)
theorem eos_of_fam {w0 w : World} {b0 base : Nat} : ∀ {es : List En} {vs : List Value}, EOs b0 w0 es vs → (∀ q ∈ pairE es vs, ∃ A m c, q.1 = .slice A m c ∧ Own 5 w base A m c q.2) → EOs base w es vs
  | [], _, h, _ => h
  | e :: es, _, h, hf => by
    obtain ⟨v0, v1, v2, v3, r, rfl, ⟨K, kn, kc, V, vn, vc, rfl, rfl, rfl, rfl, o1, o2, u⟩, h2⟩ := h
    obtain ⟨A, m, c, e1, p1⟩ := hf (.slice K kn kc, e.key) (by simp [pairE])
    obtain ⟨B, n, d, e2, p2⟩ := hf (.slice V vn vc, e.val) (by simp [pairE])
    have p1' : Own 5 w base K kn kc e.key := by
      have e1' : Value.slice K kn kc = Value.slice A m c := e1
      injection e1' with a1 a2 a3
      subst a1 a2 a3
      exact p1
    have p2' : Own 5 w base V vn vc e.val := by
      have e2' : Value.slice V vn vc = Value.slice B n d := e2
      injection e2' with a1 a2 a3
      subst a1 a2 a3
      exact p2
    exact ⟨_, _, _, _, r, rfl, ⟨K, kn, kc, V, vn, vc, rfl, rfl, rfl, rfl, p1', p2', u⟩, eos_of_fam h2 (fun q hq => hf q (by simp [pairE, hq]))⟩
theorem long_ok {x : En} (h : okE x = true) : x.key.length ≤ 1024 ∧ x.val.length ≤ 65536 := by
  have := (okE_iff.1 h).1
  unfold longE at this
  simp at this
  omega
end Go.Proofs.Ytcclhkoggijkaaa
namespace Go.Proofs.Ytcclhkoggijkaaa
open Go Go.RowKit

/-- What a table answers. -/
def keyed (key : List UInt8) : Option En → Option En
  | none => none
  | some e => if cmpB e.key key = 0 then some e else none
theorem keyed_find {key : List UInt8} {at_ : Nat} : ∀ {l : List En}, SortL l → keyed key (l.find? (fun e => !lessE e ⟨key, at_, 0, []⟩)) = findL key at_ l
  | [], _ => rfl
  | y :: l, hs => by
    obtain ⟨hy, hl⟩ := List.pairwise_cons.1 hs
    unfold findL
    rw [List.find?_cons, List.find?_cons]
    cases h : lessE y ⟨key, at_, 0, []⟩ with
    | true =>
      have hno : (eqB y.key key && decide (y.seq ≤ at_)) = false := by
        rcases lessE_iff.1 h with q | ⟨_, q⟩
        · cases e : eqB y.key key with
          | false => rfl
          | true =>
            have e' : y.key = key := by simpa [eqB] using e
            simp only [e', cmpB_refl] at q
            omega
        · have : ¬ y.seq ≤ at_ := by simp only at q; omega
          simp [this]
      rw [hno]
      exact keyed_find hl
    | false =>
      show (if cmpB y.key key = 0 then some y else none) = _
      by_cases hk : cmpB y.key key = 0
      · have e' := cmpB_zero _ _ hk
        have hq : y.seq ≤ at_ := by
          apply Nat.le_of_not_lt
          intro q
          have : lessE y ⟨key, at_, 0, []⟩ = true := lessE_iff.2 (.inr ⟨e', q⟩)
          rw [h] at this
          cases this
        have hyes : (eqB y.key key && decide (y.seq ≤ at_)) = true := by simp [eqB, e', hq]
        rw [if_pos hk, hyes]
      · have hne : ∀ z : En, (z = y ∨ z ∈ l) → eqB z.key key = false := fun z hz => by
          cases e : eqB z.key key with
          | false => rfl
          | true =>
            have e' : z.key = key := by simpa [eqB] using e
            rcases hz with rfl | m
            · rw [e', cmpB_refl] at hk
              exact absurd rfl hk
            · rcases lessE_iff.1 (hy z m) with q | ⟨q, _⟩
              · rw [e'] at q
                have : lessE y ⟨key, at_, 0, []⟩ = true := lessE_iff.2 (.inl q)
                rw [h] at this
                cases this
              · rw [q, e', cmpB_refl] at hk
                exact absurd rfl hk
        rw [if_neg hk, hne y (.inl rfl)]
        symm
        simp only [Bool.false_and]
        rw [List.find?_eq_none]
        intro z hz
        rw [hne z (.inr hz)]
        simp
end Go.Proofs.Ytcclhkoggijkaaa
namespace Go.Proofs.Ytcclhkoggijkaaa
open Go Go.RowKit

set_option maxRecDepth 100000 in
set_option maxHeartbeats 4000000 in
theorem mgInOrder_any {w : World} {A : Option Addr} {n c : Nat} {es : List En} (h : REs w A n es) (hn : n ≤ 1099511627776) : Calls Try.prog 165 #[.slice A n c] w (RetT w (ordE es)) := by
  have HL := Lib.hid h.len
  have HR := Lib.hid h
  clear h
  go_enter Try.func165, Try.ntmps165
  go_wp2_with fail
  go_loopw [3] (fun s3 wr => ∃ i : Nat, (i < n ∨ i = 0) ∧ s3 = .int .i64 ((i + 1 : Nat) : Int) ∧ ordK es i = true ∧ Below w.heap.size w wr) (fun s _ => n + 1 - (intOf s).toNat)
  case atStart => exact ⟨0, .inr rfl, rfl, rfl, Below.refl _ _⟩
  case round =>
    obtain ⟨i, hi, rfl, ho, hB⟩ := hrel
    have HB := Lib.hid hB
    have HO := Lib.hid ho
    have hR := HR.out.below hB
    clear hB ho
    obtain ⟨k, hk⟩ : ∃ k, k = i + 1 := ⟨_, rfl⟩
    rw [← hk]
    by_cases hlt : k < n
    · obtain ⟨b, off, hAb, hbl⟩ := hR.pos (by omega)
      subst hAb
      obtain ⟨x, v0, v1, v2, v3, hx, c0, c1, c2, c3, hev⟩ := hR.at_ i (by omega)
      obtain ⟨y, u0, u1, u2, u3, hy, d0, d1, d2, d3, hew⟩ := hR.at_ k hlt
      have HL1 : Hid (∀ wx, Below wr.heap.size wr wx → Calls Try.prog 80 #[.agg #[v0, v1, v2, v3], .agg #[u0, u1, u2, u3]] wx (RetT wx (lessE x y))) := Lib.hid (fun wx hb => memLess_any (hev.below hb) (hew.below hb))
      have HSX : Hid (∀ wx, Below wr.heap.size wr wx → wx.cell? ⟨b, off + i * 4, none⟩ = some v0 ∧ wx.cell? ⟨b, off + i * 4 + 1, none⟩ = some v1 ∧ wx.cell? ⟨b, off + i * 4 + 2, none⟩ = some v2 ∧ wx.cell? ⟨b, off + i * 4 + 3, none⟩ = some v3 ∧ wx.cell? ⟨b, off + k * 4, none⟩ = some u0 ∧ wx.cell? ⟨b, off + k * 4 + 1, none⟩ = some u1 ∧ wx.cell? ⟨b, off + k * 4 + 2, none⟩ = some u2 ∧ wx.cell? ⟨b, off + k * 4 + 3, none⟩ = some u3) := Lib.hid (fun wx h =>
        ⟨(h.cell (p := ⟨b, off + i * 4, none⟩) hbl).trans c0, (h.cell (p := ⟨b, off + i * 4 + 1, none⟩) hbl).trans c1, (h.cell (p := ⟨b, off + i * 4 + 2, none⟩) hbl).trans c2, (h.cell (p := ⟨b, off + i * 4 + 3, none⟩) hbl).trans c3, (h.cell (p := ⟨b, off + k * 4, none⟩) hbl).trans d0, (h.cell (p := ⟨b, off + k * 4 + 1, none⟩) hbl).trans d1, (h.cell (p := ⟨b, off + k * 4 + 2, none⟩) hbl).trans d2, (h.cell (p := ⟨b, off + k * 4 + 3, none⟩) hbl).trans d3⟩)
      have hB0 : Below wr.heap.size wr wr.drew := (Below.refl _ _).drew
      have hk1 : IntKind.i64.wrap ((k : Int) - 1) = (i : Int) := by rw [IntWalk.i64_in _ (by omega)]; omega
      have hin : i < n := by omega
      have HST : Hid (ordK es k = (ordK es i && lessE x y)) := Lib.hid (by rw [hk]; exact ordK_step hx (by rw [← hk]; exact hy))
      have HKI := Lib.hid hk
      obtain ⟨z, hz⟩ : ∃ z, z = lessE x y := ⟨_, rfl⟩
      rw [← hz] at HL1 HST
      clear hR hx hev hy hew hz hk
      cases z with
      | true =>
        go_wp2_with fail
        go_region_held3 (fun wx => wx.cell? ⟨b, off + i * 4, none⟩ = some v0 ∧ wx.cell? ⟨b, off + i * 4 + 1, none⟩ = some v1 ∧ wx.cell? ⟨b, off + i * 4 + 2, none⟩ = some v2 ∧ wx.cell? ⟨b, off + i * 4 + 3, none⟩ = some v3 ∧ wx.cell? ⟨b, off + k * 4, none⟩ = some u0 ∧ wx.cell? ⟨b, off + k * 4 + 1, none⟩ = some u1 ∧ wx.cell? ⟨b, off + k * 4 + 2, none⟩ = some u2 ∧ wx.cell? ⟨b, off + k * 4 + 3, none⟩ = some u3) (first | assumption | exact HSX.out _ hB0)
          (first | (go_at_call 80; with_reducible refine (HL1.out _ (by assumption)).mono ?_; intro e1 wn hq; obtain ⟨h1, bn⟩ := RetT.outD hq; subst h1; have bn' := belowT' (by assumption : Below wr.heap.size wr _) bn; have hS1 := HSX.out _ bn'))
        all_goals
          have HBN : Hid (Below w.heap.size w _) := Lib.hid (HB.out.trans ((by assumption : Below wr.heap.size wr wn).mono HB.out.size))
          go_wp2_with fail
          go_roundw
          case rel => exact ⟨k, .inl hlt, by go_num, by rw [HST.out, HO.out]; rfl, HBN.out⟩
          case measure => simp [intOf]; omega
      | false =>
        go_wp2_with fail
        go_region_held3 (fun wx => wx.cell? ⟨b, off + i * 4, none⟩ = some v0 ∧ wx.cell? ⟨b, off + i * 4 + 1, none⟩ = some v1 ∧ wx.cell? ⟨b, off + i * 4 + 2, none⟩ = some v2 ∧ wx.cell? ⟨b, off + i * 4 + 3, none⟩ = some v3 ∧ wx.cell? ⟨b, off + k * 4, none⟩ = some u0 ∧ wx.cell? ⟨b, off + k * 4 + 1, none⟩ = some u1 ∧ wx.cell? ⟨b, off + k * 4 + 2, none⟩ = some u2 ∧ wx.cell? ⟨b, off + k * 4 + 3, none⟩ = some u3) (first | assumption | exact HSX.out _ hB0)
          (first | (go_at_call 80; with_reducible refine (HL1.out _ (by assumption)).mono ?_; intro e1 wn hq; obtain ⟨h1, bn⟩ := RetT.outD hq; subst h1; have bn' := belowT' (by assumption : Below wr.heap.size wr _) bn; have hS1 := HSX.out _ bn'))
        all_goals
          have HBN : Hid (Below w.heap.size w _) := Lib.hid (HB.out.trans ((by assumption : Below wr.heap.size wr wn).mono HB.out.size))
          have HFIN : Hid (ordE es = false) := Lib.hid (by
            have h1 := HST.out
            rw [Bool.and_false] at h1
            exact ordK_false h1 _ (by rw [HL.out]; omega))
          go_wp2_with fail
          go_ret
          exact ⟨by rw [HFIN.out]; rfl, HBN.out⟩
    · have HFIN : Hid (ordE es = true) := Lib.hid (by
        have h1 := HO.out
        unfold ordE
        rw [HL.out]
        obtain rfl : n - 1 = i := by omega
        exact h1)
      go_wp2_with fail
      go_ret
      exact ⟨by rw [HFIN.out]; rfl, HB.out⟩
set_option maxRecDepth 100000 in
set_option maxHeartbeats 4000000 in
theorem ordered_any {w : World} {A : Option Addr} {n c : Nat} {es : List En} (h : REs w A n es) (hn : n ≤ 1099511627776) (hs : ∀ x ∈ es, SzE x) : Calls Try.prog 60 #[.slice A n c] w (RetT w (ordE es)) := by
  have HL := Lib.hid h.len
  have HR := Lib.hid h
  have HSZ := Lib.hid hs
  clear h hs
  go_enter Try.func60, Try.ntmps60
  go_wp2_with fail
  go_loopw [3] (fun s3 wr => ∃ i : Nat, (i < n ∨ i = 0) ∧ s3 = .int .i64 ((i + 1 : Nat) : Int) ∧ ordK es i = true ∧ Below w.heap.size w wr) (fun s _ => n + 1 - (intOf s).toNat)
  case atStart => exact ⟨0, .inr rfl, rfl, rfl, Below.refl _ _⟩
  case round =>
    obtain ⟨i, hi, rfl, ho, hB⟩ := hrel
    have HB := Lib.hid hB
    have HO := Lib.hid ho
    have hR := HR.out.below hB
    clear hB ho
    obtain ⟨k, hk⟩ : ∃ k, k = i + 1 := ⟨_, rfl⟩
    rw [← hk]
    by_cases hlt : k < n
    · obtain ⟨b, off, hAb, hbl⟩ := hR.pos (by omega)
      subst hAb
      obtain ⟨x, v0, v1, v2, v3, hx, c0, c1, c2, c3, hev⟩ := hR.at_ i (by omega)
      obtain ⟨y, u0, u1, u2, u3, hy, d0, d1, d2, d3, hew⟩ := hR.at_ k hlt
      have HL1 : Hid (∀ wx, Below wr.heap.size wr wx → Calls Try.prog 118 #[.agg #[v0, v1, v2, v3], .agg #[u0, u1, u2, u3]] wx (RetT wx (lessE x y))) := Lib.hid (fun wx hb => refLess_any (hev.below hb) (hew.below hb) (HSZ.out x (List.mem_of_getElem? hx)) (HSZ.out y (List.mem_of_getElem? hy)))
      have HSX : Hid (∀ wx, Below wr.heap.size wr wx → wx.cell? ⟨b, off + i * 4, none⟩ = some v0 ∧ wx.cell? ⟨b, off + i * 4 + 1, none⟩ = some v1 ∧ wx.cell? ⟨b, off + i * 4 + 2, none⟩ = some v2 ∧ wx.cell? ⟨b, off + i * 4 + 3, none⟩ = some v3 ∧ wx.cell? ⟨b, off + k * 4, none⟩ = some u0 ∧ wx.cell? ⟨b, off + k * 4 + 1, none⟩ = some u1 ∧ wx.cell? ⟨b, off + k * 4 + 2, none⟩ = some u2 ∧ wx.cell? ⟨b, off + k * 4 + 3, none⟩ = some u3) := Lib.hid (fun wx h =>
        ⟨(h.cell (p := ⟨b, off + i * 4, none⟩) hbl).trans c0, (h.cell (p := ⟨b, off + i * 4 + 1, none⟩) hbl).trans c1, (h.cell (p := ⟨b, off + i * 4 + 2, none⟩) hbl).trans c2, (h.cell (p := ⟨b, off + i * 4 + 3, none⟩) hbl).trans c3, (h.cell (p := ⟨b, off + k * 4, none⟩) hbl).trans d0, (h.cell (p := ⟨b, off + k * 4 + 1, none⟩) hbl).trans d1, (h.cell (p := ⟨b, off + k * 4 + 2, none⟩) hbl).trans d2, (h.cell (p := ⟨b, off + k * 4 + 3, none⟩) hbl).trans d3⟩)
      have hB0 : Below wr.heap.size wr wr.drew := (Below.refl _ _).drew
      have hk1 : IntKind.i64.wrap ((k : Int) - 1) = (i : Int) := by rw [IntWalk.i64_in _ (by omega)]; omega
      have hin : i < n := by omega
      have HST : Hid (ordK es k = (ordK es i && lessE x y)) := Lib.hid (by rw [hk]; exact ordK_step hx (by rw [← hk]; exact hy))
      have HKI := Lib.hid hk
      obtain ⟨z, hz⟩ : ∃ z, z = lessE x y := ⟨_, rfl⟩
      rw [← hz] at HL1 HST
      clear hR hx hev hy hew hz hk
      cases z with
      | true =>
        go_wp2_with fail
        go_region_held3 (fun wx => wx.cell? ⟨b, off + i * 4, none⟩ = some v0 ∧ wx.cell? ⟨b, off + i * 4 + 1, none⟩ = some v1 ∧ wx.cell? ⟨b, off + i * 4 + 2, none⟩ = some v2 ∧ wx.cell? ⟨b, off + i * 4 + 3, none⟩ = some v3 ∧ wx.cell? ⟨b, off + k * 4, none⟩ = some u0 ∧ wx.cell? ⟨b, off + k * 4 + 1, none⟩ = some u1 ∧ wx.cell? ⟨b, off + k * 4 + 2, none⟩ = some u2 ∧ wx.cell? ⟨b, off + k * 4 + 3, none⟩ = some u3) (first | assumption | exact HSX.out _ hB0)
          (first | (go_at_call 118; with_reducible refine (HL1.out _ (by assumption)).mono ?_; intro e1 wn hq; obtain ⟨h1, bn⟩ := RetT.outD hq; subst h1; have bn' := belowT' (by assumption : Below wr.heap.size wr _) bn; have hS1 := HSX.out _ bn'))
        all_goals
          have HBN : Hid (Below w.heap.size w _) := Lib.hid (HB.out.trans ((by assumption : Below wr.heap.size wr wn).mono HB.out.size))
          go_wp2_with fail
          go_roundw
          case rel => exact ⟨k, .inl hlt, by go_num, by rw [HST.out, HO.out]; rfl, HBN.out⟩
          case measure => simp [intOf]; omega
      | false =>
        go_wp2_with fail
        go_region_held3 (fun wx => wx.cell? ⟨b, off + i * 4, none⟩ = some v0 ∧ wx.cell? ⟨b, off + i * 4 + 1, none⟩ = some v1 ∧ wx.cell? ⟨b, off + i * 4 + 2, none⟩ = some v2 ∧ wx.cell? ⟨b, off + i * 4 + 3, none⟩ = some v3 ∧ wx.cell? ⟨b, off + k * 4, none⟩ = some u0 ∧ wx.cell? ⟨b, off + k * 4 + 1, none⟩ = some u1 ∧ wx.cell? ⟨b, off + k * 4 + 2, none⟩ = some u2 ∧ wx.cell? ⟨b, off + k * 4 + 3, none⟩ = some u3) (first | assumption | exact HSX.out _ hB0)
          (first | (go_at_call 118; with_reducible refine (HL1.out _ (by assumption)).mono ?_; intro e1 wn hq; obtain ⟨h1, bn⟩ := RetT.outD hq; subst h1; have bn' := belowT' (by assumption : Below wr.heap.size wr _) bn; have hS1 := HSX.out _ bn'))
        all_goals
          have HBN : Hid (Below w.heap.size w _) := Lib.hid (HB.out.trans ((by assumption : Below wr.heap.size wr wn).mono HB.out.size))
          have HFIN : Hid (ordE es = false) := Lib.hid (by
            have h1 := HST.out
            rw [Bool.and_false] at h1
            exact ordK_false h1 _ (by rw [HL.out]; omega))
          go_wp2_with fail
          go_ret
          exact ⟨by rw [HFIN.out]; rfl, HBN.out⟩
    · have HFIN : Hid (ordE es = true) := Lib.hid (by
        have h1 := HO.out
        unfold ordE
        rw [HL.out]
        obtain rfl : n - 1 = i := by omega
        exact h1)
      go_wp2_with fail
      go_ret
      exact ⟨by rw [HFIN.out]; rfl, HB.out⟩
section
variable {w : World} {a : En} {v0 v1 v2 v3 : Value}
set_option maxRecDepth 100000 in
set_option maxHeartbeats 4000000 in
theorem mgEntry_any (ha : EV w a v0 v1 v2 v3) (sa : SzE a) : Calls Try.prog 170 #[.agg #[v0, v1, v2, v3]] w (RetEn w a) := by
  obtain ⟨K, kn, kc, V, vn, vc, rfl, rfl, rfl, rfl, r0, r3, c0, c3, d0, d3, s1, s2⟩ := ha.parts
  have l1 := r0.len
  have l2 := r3.len
  have hk : kn ≤ 140737488355328 := by have := sa.1; omega
  have hv : vn ≤ 140737488355328 := by have := sa.2; omega
  have R0 := Lib.hid r0
  have R3 := Lib.hid r3
  have HD0 := Lib.hid d0
  have HD3 := Lib.hid d3
  clear ha r0 r3 d0 d3
  go_enter Try.func170, Try.ntmps170
  go_upto_region 1 with (fail)
  obtain ⟨W, hW⟩ : ∃ W, W = (w.alloc (.cells #[.slice K kn kc, .int .u64 (a.seq : Int), .int .u8 (a.kind : Int), .slice V vn vc] 37)).alloc (.cells #[.slice none 0 0, .int .u64 0, .int .u8 0, .slice none 0 0] 37) := ⟨_, rfl⟩
  rw [← hW]
  have bW : Below w.heap.size w W := by rw [hW]; exact ((Below.refl _ _).alloc (Nat.le_refl _) _).alloc (by simp) _
  have aW : Cl W w.heap.size #[.slice K kn kc, .int .u64 (a.seq : Int), .int .u8 (a.kind : Int), .slice V vn vc] 37 := by rw [hW]; exact (Cl.new _ _ _).alloc _
  have zW : Cl W (w.heap.size + 1) #[.slice none 0 0, .int .u64 0, .int .u8 0, .slice none 0 0] 37 := by rw [hW]; exact Cl.newg _ _ _ _ (by simp)
  have sW : w.heap.size + 2 ≤ W.heap.size := by rw [hW]; simp
  have HK : Hid (∀ wx, Below W.heap.size W wx → Calls Try.prog 117 #[.slice K kn kc] wx (Made wx.heap.size wx a.key)) := Lib.hid (fun wx hb => Clone_any K kn kc a.key wx ((R0.out.below bW).below hb) hk HD0.out)
  have HV : Hid (∀ wx, Below W.heap.size W wx → Calls Try.prog 117 #[.slice V vn vc] wx (Made wx.heap.size wx a.val)) := Lib.hid (fun wx hb => Clone_any V vn vc a.val wx ((R3.out.below bW).below hb) hv HD3.out)
  have ALC : Hid (∀ wx, Below W.heap.size W wx → Cl wx w.heap.size #[.slice K kn kc, .int .u64 (a.seq : Int), .int .u8 (a.kind : Int), .slice V vn vc] 37) := Lib.hid (fun wx hb => aW.below hb)
  have ZLC : Hid (∀ wx, Below W.heap.size W wx → Cl wx (w.heap.size + 1) #[.slice none 0 0, .int .u64 0, .int .u8 0, .slice none 0 0] 37) := Lib.hid (fun wx hb => zW.below hb)
  have BW := Lib.hid bW
  obtain ⟨e0, e1, e2, e3, y0, y1, y2, y3⟩ := aW.c4
  have hB0 : Below W.heap.size W W.drew := (Below.refl _ _).drew
  clear hW bW aW zW
  go_cut [] (fun wx => ∃ C cn cc D dn dc wy, Own 5 wy W.heap.size C cn cc a.key ∧ Own 5 wy W.heap.size D dn dc a.val ∧ Below W.heap.size W wy ∧ Dj C D ∧ wx = (wy.setCell ⟨w.heap.size, 0, none⟩ (.slice C cn cc)).setCell ⟨w.heap.size, 3, none⟩ (.slice D dn dc))
  case first =>
    go_region_law (first | (go_simp; go_at_call 117; with_reducible refine (HK.out _ (by assumption)).mono ?_; intro e wk hq; obtain ⟨C, cn, cc, h1, oC, bC⟩ := Made.out hq; subst h1; have bC' := belowT (by assumption : Below W.heap.size W _) bC; obtain ⟨p0, p1, p2, p3, p4, p5, p6, p7⟩ := (ALC.out _ bC').c4) | (go_simp; go_at_call 117; with_reducible refine (HV.out _ (by assumption)).mono ?_; intro e wv hq; obtain ⟨D, dn, dc, h2, oD, bD⟩ := Made.out hq; subst h2; have bD' := belowT (by assumption : Below W.heap.size W _) bD; obtain ⟨m0, m1, m2, m3, m4, m5, m6, m7⟩ := (ALC.out _ bD').c4))
    all_goals first
      | (have HDJ := Lib.hid (Dj.old oC oD (Nat.le_refl _))
         have HC1 := Lib.hid (oC.below bD)
         have HD1 := Lib.hid (oD.mono bC'.size)
         have HB1 := Lib.hid bD'
         clear oC oD bC bD bC' bD'
         go_wp2_with fail
         go_meet
         exact ⟨C, cn, cc, D, dn, dc, wv, HC1.out, HD1.out, HB1.out, HDJ.out, rfl⟩)
      | (have HDJ := Lib.hid (Dj.symm (Dj.old oD oC (Nat.le_refl _)))
         have HC1 := Lib.hid (oC.mono bD'.size)
         have HD1 := Lib.hid (oD.below bC)
         have HB1 := Lib.hid bC'
         clear oC oD bC bD bC' bD'
         go_wp2_with fail
         go_meet
         exact ⟨C, cn, cc, D, dn, dc, wk, HC1.out, HD1.out, HB1.out, HDJ.out, rfl⟩)
  case rest =>
    obtain ⟨C, cn, cc, D, dn, dc, wy, oC, oD, bY, hdj, hwc⟩ := hcut
    have A1 := ALC.out _ bY
    have Z1 := Lib.hid (ZLC.out _ bY)
    have sy := bY.size
    obtain ⟨Y, hY⟩ : ∃ Y, Y = wy.setCell ⟨w.heap.size, 0, none⟩ (.slice C cn cc) := ⟨_, rfl⟩
    rw [← hY] at hwc
    have aY : Cl Y w.heap.size #[.slice C cn cc, .int .u64 (a.seq : Int), .int .u8 (a.kind : Int), .slice V vn vc] 37 := by rw [hY]; exact A1.set 0 _
    have zY : Cl Y (w.heap.size + 1) #[.slice none 0 0, .int .u64 0, .int .u8 0, .slice none 0 0] 37 := by rw [hY]; exact Z1.out.off 0 _ (by omega)
    have bYY : Below w.heap.size w Y := by rw [hY]; exact below_set (BW.out.trans (bY.mono BW.out.size)) 0 _ (Nat.le_refl _)
    have oCY : Own 5 Y W.heap.size C cn cc a.key := by rw [hY]; exact oC.set (by omega) 0 _
    have oDY : Own 5 Y W.heap.size D dn dc a.val := by rw [hY]; exact oD.set (by omega) 0 _
    have aC : Cl wc w.heap.size #[.slice C cn cc, .int .u64 (a.seq : Int), .int .u8 (a.kind : Int), .slice D dn dc] 37 := by rw [hwc]; exact aY.set 3 _
    have zC : Cl wc (w.heap.size + 1) #[.slice none 0 0, .int .u64 0, .int .u8 0, .slice none 0 0] 37 := by rw [hwc]; exact zY.off 3 _ (by omega)
    have HFIN : Hid (∀ X, X = (((wc.setCell ⟨w.heap.size + 1, 0, none⟩ (.slice C cn cc)).setCell ⟨w.heap.size + 1, 1, none⟩ (.int .u64 (a.seq : Int))).setCell ⟨w.heap.size + 1, 2, none⟩ (.int .u8 (a.kind : Int))).setCell ⟨w.heap.size + 1, 3, none⟩ (.slice D dn dc) → Cl X (w.heap.size + 1) #[.slice C cn cc, .int .u64 (a.seq : Int), .int .u8 (a.kind : Int), .slice D dn dc] 37 ∧ RetEn w a (.returned (.agg #[.slice C cn cc, .int .u64 (a.seq : Int), .int .u8 (a.kind : Int), .slice D dn dc])) X) := Lib.hid (fun X hX => en_fin (x := a) (g := w.heap.size) zY rfl oCY oDY bYY (Nat.le_refl _) sW ⟨3, _, hwc⟩ hX hdj)
    clear hY hwc A1 aY zY bYY oCY oDY oC oD bY e0 e1 e2 e3 y0 y1 y2 y3
    obtain ⟨e0, e1, e2, e3, y0, y1, y2, y3⟩ := aC.c4
    obtain ⟨g0, g1, g2, g3, k0, k1, k2, k3⟩ := zC.c4
    clear aC zC
    go_wp2_with fail
    obtain ⟨X, hX⟩ : ∃ X, X = (((wc.setCell ⟨w.heap.size + 1, 0, none⟩ (.slice C cn cc)).setCell ⟨w.heap.size + 1, 1, none⟩ (.int .u64 (a.seq : Int))).setCell ⟨w.heap.size + 1, 2, none⟩ (.int .u8 (a.kind : Int))).setCell ⟨w.heap.size + 1, 3, none⟩ (.slice D dn dc) := ⟨_, rfl⟩
    obtain ⟨zX, hret⟩ := HFIN.out X hX
    rw [← hX]
    obtain ⟨x0, x1, x2, x3, _⟩ := zX.c4
    refine bodyPost_ret (v := .agg #[.slice C cn cc, .int .u64 (a.seq : Int), .int .u8 (a.kind : Int), .slice D dn dc]) (by simp [results, Try.results170, go_sem, x0, x1, x2, x3]; try rfl) rfl hret
end
end Go.Proofs.Ytcclhkoggijkaaa
namespace Go.Proofs.Ytcclhkoggijkaaa
open Go Go.RowKit

def Tr.sz (t : Tr) : Nat := szL t.list
theorem balT_sz (l : Tr) (e : En) (r : Tr) : (balT l e r).sz = l.sz + wE e + r.sz := by
  unfold Tr.sz
  rw [balT_list, szL_app, szL]
  omega
theorem node_sz (l : Tr) (e : En) (r : Tr) : (Tr.node l e r).sz = l.sz + wE e + r.sz := by
  unfold Tr.sz
  rw [Tr.list, szL_app, szL]
  omega
theorem withT_sz {x : En} : ∀ {t t' : Tr}, withT x t = some t' → t'.sz = t.sz + wE x
  | .nil, t', h => by
    unfold withT at h
    injection h with h
    rw [← h]
    simp [Tr.sz, Tr.list, szL]
  | .node l e r, t', h => by
    unfold withT at h
    split at h
    · cases hw : withT x l with
      | none => rw [hw] at h; cases h
      | some l' =>
        rw [hw] at h
        injection h with h
        have := withT_sz hw
        rw [← h]
        simp only [balT_sz, node_sz]
        omega
    · split at h
      · cases hw : withT x r with
        | none => rw [hw] at h; cases h
        | some r' =>
          rw [hw] at h
          injection h with h
          have := withT_sz hw
          rw [← h]
          simp only [balT_sz, node_sz]
          omega
      · cases h
def insAll : Tr → List En → Option Tr
  | t, [] => some t
  | t, x :: xs => (withT x t).bind (fun t' => insAll t' xs)
theorem insAll_snoc : ∀ (t : Tr) (xs : List En) (x : En), insAll t (xs ++ [x]) = (insAll t xs).bind (withT x)
  | t, [], x => by simp [insAll]
  | t, y :: ys, x => by
    simp only [List.cons_append, insAll]
    cases withT y t with
    | none => rfl
    | some t' => exact insAll_snoc t' ys x
theorem insAll_none {t : Tr} {xs ys : List En} (h : insAll t xs = none) : insAll t (xs ++ ys) = none := by
  induction xs generalizing t with
  | nil => simp [insAll] at h
  | cons x xs ih =>
    simp only [List.cons_append, insAll] at h ⊢
    cases hw : withT x t with
    | none => rfl
    | some t' => rw [hw] at h; exact ih h
theorem insAll_num : ∀ {t t' : Tr} {xs : List En}, insAll t xs = some t' → t'.num = t.num + xs.length ∧ t'.sz = t.sz + szL xs
  | t, t', [], h => by simp [insAll] at h; subst h; simp [szL]
  | t, t', x :: xs, h => by
    simp only [insAll] at h
    cases hw : withT x t with
    | none => rw [hw] at h; cases h
    | some t1 =>
      rw [hw] at h
      have h1 := insAll_num (t := t1) h
      have h2 := withT_num hw
      have h3 := withT_sz hw
      simp only [List.length_cons, szL]
      omega
section
variable {w : World} {p : Nat} {a b c : Value} {d : Array Value} {ty : TypeId}
theorem Cl.ct (h : Cl w p (#[a, b, c] ++ d) ty) : w.cell? ⟨p, 0, none⟩ = some a ∧ w.cell? ⟨p, 1, none⟩ = some b ∧ w.cell? ⟨p, 2, none⟩ = some c ∧
    w.frozen? ⟨p, 0, none⟩ = false ∧ w.frozen? ⟨p, 1, none⟩ = false ∧ w.frozen? ⟨p, 2, none⟩ = false :=
  ⟨(h.cell 0).trans (Array.getElem?_append_left (by simp)), (h.cell 1).trans (Array.getElem?_append_left (by simp)), (h.cell 2).trans (Array.getElem?_append_left (by simp)), h.thaw 0, h.thaw 1, h.thaw 2⟩
theorem Cl.st0 (h : Cl w p (#[a, b, c] ++ d) ty) (v : Value) : Cl (w.setCell ⟨p, 0, none⟩ v) p (#[v, b, c] ++ d) ty := by
  have := h.set 0 v
  have e : (#[a, b, c] ++ d).setIfInBounds 0 v = #[v, b, c] ++ d := by
    apply Array.ext'
    simp
  rw [e] at this
  exact this
theorem Cl.st1 (h : Cl w p (#[a, b, c] ++ d) ty) (v : Value) : Cl (w.setCell ⟨p, 1, none⟩ v) p (#[a, v, c] ++ d) ty := by
  have := h.set 1 v
  have e : (#[a, b, c] ++ d).setIfInBounds 1 v = #[a, v, c] ++ d := by
    apply Array.ext'
    simp
  rw [e] at this
  exact this
theorem Cl.st2 (h : Cl w p (#[a, b, c] ++ d) ty) (v : Value) : Cl (w.setCell ⟨p, 2, none⟩ v) p (#[a, b, v] ++ d) ty := by
  have := h.set 2 v
  have e : (#[a, b, c] ++ d).setIfInBounds 2 v = #[a, b, v] ++ d := by
    apply Array.ext'
    simp
  rw [e] at this
  exact this
end
/-- What a Put comes to: the table, and all else as it was. -/
def putZ (t : Tr) (es : List En) : Int × Tr := if checkE es = 0 then match insAll t es with | none => (7, t) | some t' => (0, t') else (checkE es, t)
theorem grow_of_below {w w' : World} {row : Option Nat} (h : Below w.heap.size w w') : w.grownBy w' row := ⟨h.os, h.tape, h.output, h.size, fun k hk _ => h.block k hk⟩
end Go.Proofs.Ytcclhkoggijkaaa
namespace Go.Proofs.Ytcclhkoggijkaaa
open Go Go.RowKit

theorem rdl_one8 {w : World} {t : TypeId} {v1 : Value} {x1 : List UInt8} (h1 : ElB w v1 x1) (g : Nat) (hg : g = w.heap.size) : RdL (w.alloc (.cells #[v1] t)) (some ⟨g, 0, none⟩) 1 [x1] := by
  subst hg
  refine ⟨rfl, fun _ => ⟨w.heap.size, 0, rfl, by simp, fun i x hi => ?_⟩⟩
  have hlt := (List.getElem?_eq_some_iff.1 hi).1
  obtain rfl : i = 0 := by simp at hlt; omega
  injection hi with hi
  subst hi
  refine ⟨v1, ?_, h1.below ((Below.refl _ _).alloc (Nat.le_refl _) _)⟩
  rw [cell_of_row (w.alloc (.cells #[v1] t)) w.heap.size (0 + 0) #[v1] t (0, 0) (heap_alloc_new w _)]
  rfl
/-- What Build answers where every is at least 1. -/
def buildE (ev : Nat) (es : List En) : List UInt8 × Int :=
  if es.any longE then ([], 2) else if 1048576 < (fullB ev es).length then ([], 2) else if es.all formE && ordE es then (sealB (fullB ev es), 0) else ([], 3)
/-- Bytes of the call's own, or none, and a kind. -/
def RetBb (w : World) (z : List UInt8 × Int) (e : Ending) (w' : World) : Prop :=
  ∃ A c, e = .returned (.tuple #[.slice A z.1.length c, .int .i64 z.2]) ∧ Own 5 w' w.heap.size A z.1.length c z.1 ∧ Below w.heap.size w w'
theorem RetBb.no {w w' : World} {z : List UInt8 × Int} {k : Int} (hz : z = ([], k)) (hb : Below w.heap.size w w') : RetBb w z (.returned (.tuple #[.slice none 0 0, .int .i64 k])) w' := by
  subst hz
  exact ⟨none, 0, rfl, Own.nil _ _ _, hb⟩
theorem longE_no {es : List En} (h : es.any longE = false) : ∀ x ∈ es, x.key.length ≤ 1024 ∧ x.val.length ≤ 65536 := fun x hx => by
  have := List.any_eq_false.1 h x hx
  unfold longE at this
  simp at this
  omega
set_option maxRecDepth 100000 in
set_option maxHeartbeats 8000000 in
theorem build8_any {w : World} {A : Option Addr} {n c : Nat} {es : List En} (h : REs w A n es) (hn : n ≤ 16777216) (ev : Nat) (he : 1 ≤ ev) (he2 : ev ≤ 9223372036854775807) :
    Calls Try.prog 113 #[.int .i64 (ev : Int), .slice A n c] w (RetBb w (buildE ev es)) := by
  have HM : Hid (Calls Try.prog 53 #[.slice A n c] w (RetNu w (checkE es))) := Lib.hid (memCheck_any h (by omega))
  have HR := Lib.hid h
  clear h
  cases hlo : es.any longE with
  | true =>
    have hc : checkE es = 2 := by rw [checkE, hlo]; rfl
    have hb : buildE ev es = ([], 2) := by rw [buildE, hlo]; rfl
    rw [hc] at HM
    have HB := Lib.hid hb
    clear hlo hc hb
    go_enter Try.func113, Try.ntmps113
    go_wp2_with fail
    with_reducible refine HM.out.mono ?_
    rintro e w1 ⟨rfl, b1⟩
    go_wp2_with fail
    exact bodyPost_ret (v := .tuple #[.slice none 0 0, .int .i64 2]) (by simp [results, Try.f113, go_sem]; try rfl) rfl (RetBb.no HB.out b1)
  | false =>
    have hsz := longE_no hlo
    have HCT : Hid (∀ wx, Below w.heap.size w wx → Calls Try.prog 153 #[.int .i64 (ev : Int), .slice A n c] wx (RetCt ev es wx)) := Lib.hid (fun wx hb => contents_any (HR.out.below hb) hn hsz ev he he2)
    have HIO : Hid (∀ wx, Below w.heap.size w wx → Calls Try.prog 154 #[.slice A n c] wx (RetT wx (ordE es))) := Lib.hid (fun wx hb => inOrder8_any (HR.out.below hb) (by omega))
    obtain ⟨F, hF⟩ : ∃ F, F = fullB ev es := ⟨_, rfl⟩
    have hbe : buildE ev es = if 1048576 < F.length then ([], 2) else if es.all formE && ordE es then (sealB F, 0) else ([], 3) := by rw [buildE, hlo, ← hF]; rfl
    obtain ⟨fo, hfo⟩ : ∃ fo, fo = es.all formE := ⟨_, rfl⟩
    obtain ⟨od, hod⟩ : ∃ od, od = ordE es := ⟨_, rfl⟩
    obtain ⟨z, hz⟩ : ∃ z : Int, z = if fo then 0 else 3 := ⟨_, rfl⟩
    have hck : checkE es = z := by rw [checkE, hlo, hz, hfo]; rfl
    rw [hck] at HM
    rw [← hod] at HIO hbe
    rw [← hfo] at hbe
    have hz2 : z = 0 ∨ z = 3 := by rw [hz]; cases fo <;> simp
    have tz : (z == 2) = false := by rcases hz2 with e | e <;> rw [e] <;> rfl
    have tz' : ¬ z = 2 := by omega
    have HBE := Lib.hid hbe
    have HF := Lib.hid hF
    have HZ := Lib.hid hz
    have HZ2 := Lib.hid hz2
    clear hlo hsz hF hbe hfo hod hz hck hz2
    go_enter Try.func113, Try.ntmps113
    go_wp2_with fail
    with_reducible refine HM.out.mono ?_
    rintro e w1 ⟨rfl, b1⟩
    have HCT1 := Lib.hid (HCT.out w1 b1)
    have B1 := Lib.hid b1
    clear b1
    go_wp2_with fail
    with_reducible refine HCT1.out.mono ?_
    rintro e w2 ⟨C, cc, ys, rfl, oC, b2, hyl, hys⟩
    rw [← HF.out] at hys
    have hcap := oC.cap
    have hcn : C = none → cc = 0 := fun h => by have := oC.nil_of (by rw [h]; rfl); exact this.2.2
    have hSE := Seal_any (some ⟨w2.heap.size, 0, none⟩) 1 1 [ys] _ (rdl_one8 (w := w2) (t := 25) ⟨C, ys.length, cc, rfl, oC.rd, hcap.1, hcn⟩ _ rfl) (by simp only [tot]; omega)
    rw [show [ys].flatten = ys by simp] at hSE
    have HSE := Lib.hid hSE
    have B2 := Lib.hid (B1.out.trans (b2.mono B1.out.size))
    have HYS := Lib.hid hys
    obtain ⟨yn, hyn⟩ : ∃ yn, yn = ys.length := ⟨_, rfl⟩
    rw [← hyn]
    rw [← hyn] at hyl HSE
    have HYN := Lib.hid hyn
    clear hSE oC b2 hcap hcn hys hyn
    by_cases hbig : 1048576 < yn
    · have hg : sealG ys = ([], 2) := sealG_long HYN.out.symm hbig
      have hb : buildE ev es = ([], 2) := by
        rw [HBE.out, if_pos]
        rcases HYS.out with ⟨_, h2⟩ | h2
        · have := HYN.out; omega
        · rw [← h2, ← HYN.out]; exact hbig
      rw [hg] at HSE
      have HB := Lib.hid hb
      clear hg hb
      go_wp2_with fail
      refine HSE.out.mono ?_
      rintro e w3 ⟨D, dn, dc, rfl, oD, b3⟩
      have B3 := Lib.hid (B2.out.trans (((Below.refl _ _).alloc (Nat.le_refl _) _ |>.trans (b3.mono (by simp))).mono B2.out.size))
      clear oD b3
      go_wp2_with fail
      exact bodyPost_ret (v := .tuple #[.slice none 0 0, .int .i64 2]) (by simp [results, Try.f113, go_sem]; try rfl) rfl (RetBb.no HB.out B3.out)
    · have hF2 : ys = F := by
        rcases HYS.out with ⟨h1, _⟩ | h2
        · have := HYN.out; omega
        · exact h2
      have hg : sealG ys = (sealB F, 0) := by rw [sealG_ok HYN.out.symm hbig, hF2]
      have hb : buildE ev es = if fo && od then (sealB F, 0) else ([], 3) := by rw [HBE.out, if_neg (by rw [← hF2, ← HYN.out]; exact hbig)]
      rw [hg] at HSE
      have HB := Lib.hid hb
      clear hg hb
      go_wp2_with fail
      refine HSE.out.mono ?_
      rintro e w3 ⟨D, dn, dc, rfl, oD, b3⟩
      have oD : Own 5 w3 w2.heap.size D dn dc (sealB F) := Own.mono oD (show w2.heap.size ≤ _ by simp)
      obtain rfl : (sealB F).length = dn := oD.len
      have HD := Lib.hid (oD.mono B2.out.size)
      have B3 := Lib.hid (B2.out.trans (((Below.refl _ _).alloc (Nat.le_refl _) _ |>.trans (b3.mono (by simp))).mono B2.out.size))
      clear oD b3
      cases fo with
      | false =>
        have e0 : z = 3 := HZ.out
        subst e0
        rw [Bool.false_and] at HB
        go_wp2_with fail
        exact bodyPost_ret (v := .tuple #[.slice none 0 0, .int .i64 3]) (by simp [results, Try.f113, go_sem]; try rfl) rfl (RetBb.no HB.out B3.out)
      | true =>
        have e0 : z = 0 := HZ.out
        subst e0
        rw [Bool.true_and] at HB
        have HIO3 := Lib.hid (HIO.out w3 B3.out)
        cases od with
        | true =>
          go_wp2_with fail
          with_reducible refine HIO3.out.mono ?_
          rintro e w4 ⟨rfl, b4⟩
          have hB := HB.out
          simp only [if_true] at hB
          have hfin : RetBb w (buildE ev es) (.returned (.tuple #[.slice D (sealB F).length dc, .int .i64 0])) w4 := by
            rw [hB]
            exact ⟨D, dc, rfl, HD.out.below b4, B3.out.trans (b4.mono B3.out.size)⟩
          have HFI := Lib.hid hfin
          clear hB hfin b4
          go_wp2_with fail
          exact bodyPost_ret (v := .tuple #[.slice D (sealB F).length dc, .int .i64 0]) (by simp [results, Try.f113, go_sem]; try rfl) rfl HFI.out
        | false =>
          go_wp2_with fail
          with_reducible refine HIO3.out.mono ?_
          rintro e w4 ⟨rfl, b4⟩
          have B4 := Lib.hid (B3.out.trans (b4.mono B3.out.size))
          have hB := HB.out
          simp only [Bool.false_eq_true, if_false] at hB
          have HBB := Lib.hid hB
          clear hB b4
          go_wp2_with fail
          exact bodyPost_ret (v := .tuple #[.slice none 0 0, .int .i64 3]) (by simp [results, Try.f113, go_sem]; try rfl) rfl (RetBb.no HBB.out B4.out)
theorem buildE_cases (ev : Nat) (es : List En) : (∃ F, buildE ev es = (sealB F, 0) ∧ F.length ≤ 1048576) ∨ (∃ k : Int, buildE ev es = ([], k) ∧ (k = 2 ∨ k = 3)) := by
  unfold buildE
  split
  · exact .inr ⟨2, rfl, .inl rfl⟩
  · split
    · exact .inr ⟨2, rfl, .inl rfl⟩
    · split
      · exact .inl ⟨_, rfl, by omega⟩
      · exact .inr ⟨3, rfl, .inr rfl⟩
end Go.Proofs.Ytcclhkoggijkaaa
namespace Go.Proofs.Ytcclhkoggijkaaa
open Go Go.RowKit

/-- What a list that is picked out of another comes to. -/
def RetPick (w : World) (es : List En) (us : List Value) (e : Ending) (w' : World) : Prop :=
  ∃ L k d vs, e = .returned (.slice L k d) ∧ OwnE w' w.heap.size L k d vs ∧ EVs w' es vs ∧ es.length = k ∧ Below w.heap.size w w' ∧ ∀ u ∈ vs, u ∈ us
theorem RetPick.out {w : World} {es : List En} {us : List Value} {e : Ending} {w' : World} (h : RetPick w es us e w') : ∃ L k d vs, e = .returned (.slice L k d) ∧ OwnE w' w.heap.size L k d vs ∧ EVs w' es vs ∧ es.length = k ∧ Below w.heap.size w w' ∧ ∀ u ∈ vs, u ∈ us := h
theorem RetPick.res {w : World} {es : List En} {us : List Value} {e : Ending} {w' : World} (h : RetPick w es us e w') : ∃ L k d, e = .returned (.slice L k d) ∧ REs w' L k es ∧ k ≤ d ∧ Below w.heap.size w w' := by
  obtain ⟨L, k, d, vs, h1, h2, h3, h4, h5, _⟩ := h
  exact ⟨L, k, d, h1, REs.mk h3 h2.rd h4, h2.cap.1, h5⟩
/-- 'So far picked.' -/
def Pck (w : World) (us : List Value) (es : List En) (L : Option Addr) (k d : Nat) (wr : World) : Prop :=
  ∃ vs, OwnE wr w.heap.size L k d vs ∧ EVs w es vs ∧ es.length = k ∧ Below w.heap.size w wr ∧ ∀ u ∈ vs, u ∈ us
theorem Pck.zero (w : World) (us : List Value) : Pck w us [] none 0 0 w := ⟨[], OwnE.nil _ _, rfl, rfl, Below.refl _ _, fun u hu => by cases hu⟩
theorem Pck.below {w wr w' : World} {us : List Value} {es : List En} {L : Option Addr} {k d : Nat} (h : Pck w us es L k d wr) (hb : Below wr.heap.size wr w') : Pck w us es L k d w' := by
  obtain ⟨vs, h1, h2, h3, h4, h5⟩ := h
  exact ⟨vs, h1.below hb, h2, h3, belowT' h4 hb, h5⟩
theorem Pck.bel {w wr : World} {us : List Value} {es : List En} {L : Option Addr} {k d : Nat} (h : Pck w us es L k d wr) : Below w.heap.size w wr := by
  obtain ⟨vs, h1, h2, h3, h4, h5⟩ := h
  exact h4
theorem Pck.len {w wr : World} {us : List Value} {es : List En} {L : Option Addr} {k d : Nat} (h : Pck w us es L k d wr) : es.length = k := by
  obtain ⟨vs, h1, h2, h3, h4, h5⟩ := h
  exact h3
theorem Pck.ret {w wr : World} {us : List Value} {es : List En} {L : Option Addr} {k d : Nat} (h : Pck w us es L k d wr) : RetPick w es us (.returned (.slice L k d)) wr := by
  obtain ⟨vs, h1, h2, h3, h4, h5⟩ := h
  exact ⟨L, k, d, vs, rfl, h1, h2.below h4, h3, h4, h5⟩
theorem Pck.snoc {w w4 : World} {us vs : List Value} {es : List En} {L' : Option Addr} {k d' : Nat} {x : En} {v0 v1 v2 v3 : Value} (h2 : EVs w es vs) (h3 : es.length = k) (h5 : ∀ u ∈ vs, u ∈ us)
    (hx : EV w x v0 v1 v2 v3) (hm : ∀ u ∈ [v0, v1, v2, v3], u ∈ us) (o4 : OwnE w4 w.heap.size L' (k + 1) d' (vs ++ [v0, v1, v2, v3])) (b4 : Below w.heap.size w w4) : Pck w us (es ++ [x]) L' (k + 1) d' w4 :=
  ⟨vs ++ [v0, v1, v2, v3], o4, h2.app (EVs.one hx), by simp [h3], b4, fun u hu => by
    rcases List.mem_append.1 hu with h | h
    · exact h5 u h
    · exact hm u h⟩
theorem mem4 {w : World} {A : Option Addr} {n k b off : Nat} {es : List En} {ovs : List Value} (hv : EVs w es ovs) (hd : RdV w A (n * 4) ovs) (hl : es.length = n) (hA : A = some ⟨b, off, none⟩) (hk : k < n) :
    ∃ e v0 v1 v2 v3, es[k]? = some e ∧ w.cell? ⟨b, off + k * 4, none⟩ = some v0 ∧ w.cell? ⟨b, off + k * 4 + 1, none⟩ = some v1 ∧
      w.cell? ⟨b, off + k * 4 + 2, none⟩ = some v2 ∧ w.cell? ⟨b, off + k * 4 + 3, none⟩ = some v3 ∧ EV w e v0 v1 v2 v3 ∧ ∀ u ∈ [v0, v1, v2, v3], u ∈ ovs := by
  subst hA
  obtain ⟨b', off', e, hb, hc⟩ := hd.2 (by omega)
  injection e with e
  injection e with e1 e2
  subst e1 e2
  obtain ⟨x, hx⟩ : ∃ x, es[k]? = some x := ⟨_, List.getElem?_eq_getElem (by omega)⟩
  obtain ⟨v0, v1, v2, v3, e0, e1, e2, e3, g0⟩ := hv.at_ k hx
  refine ⟨x, v0, v1, v2, v3, hx, hc _ _ e0, ?_, ?_, ?_, g0, fun u hu => ?_⟩
  · rw [Nat.add_assoc]; exact hc _ _ e1
  · rw [Nat.add_assoc]; exact hc _ _ e2
  · rw [Nat.add_assoc]; exact hc _ _ e3
  · simp only [List.mem_cons, List.not_mem_nil, or_false] at hu
    rcases hu with rfl | rfl | rfl | rfl
    · exact List.mem_of_getElem? e0
    · exact List.mem_of_getElem? e1
    · exact List.mem_of_getElem? e2
    · exact List.mem_of_getElem? e3
theorem filter_snoc {es : List En} {k : Nat} {x : En} {p : En → Bool} (hx : es[k]? = some x) : (es.take (k + 1)).filter p = (es.take k).filter p ++ (if p x then [x] else []) := by
  rw [List.take_add_one, hx, List.filter_append]
  simp only [Option.toList, List.filter_cons, List.filter_nil]
end Go.Proofs.Ytcclhkoggijkaaa
