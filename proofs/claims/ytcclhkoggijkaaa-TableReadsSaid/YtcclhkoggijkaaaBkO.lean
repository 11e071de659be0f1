/- A block is read as the entries of which it was built (plain mathematics). -/
import Derived.Test.YtcclhkoggijkaaaSrt
import Derived.Deep.DeepCutAuto
import Derived.Deep.CutBlock
import Derived.Test.YtcclhkoggijkaaaCrcW
import Derived.Laws.BitsLemmas
import Derived.Deep.QuietTactic
import Derived.BigQuiet
import Derived.Test.YtcclhkoggijkaaaCl
import Derived.Deep.RegionLaw
import Derived.Laws.MakeOwn
import Derived.Lib.SmallJoins
import Derived.Test.YtcclhkoggijkaaaEnL
import Derived.Test.YtcclhkoggijkaaaEnB
import Derived.Laws.BytesArg
import Derived.Lib.SliceRun
import Derived.Test.YtcclhkoggijkaaaMathF
namespace Go.Proofs.Ytcclhkoggijkaaa
open Go Go.RowKit

/-- The tree with x besides; none: it is there. -/
def withT (x : En) : Tr → Option Tr
  | .nil => some (.node .nil x .nil)
  | .node l e r => if lessE x e then (withT x l).map (fun t => balT t e r) else if lessE e x then (withT x r).map (fun t => balT l e t) else none
theorem withT_num {x : En} : ∀ {t t' : Tr}, withT x t = some t' → t'.num = t.num + 1
  | .nil, t', h => by
    unfold withT at h
    injection h with h
    rw [← h]; rfl
  | .node l e r, t', h => by
    unfold withT at h
    split at h
    · cases hw : withT x l with
      | none => rw [hw] at h; cases h
      | some l' =>
        rw [hw] at h
        injection h with h
        have := withT_num hw
        rw [← h]
        simp only [balT_num, Tr.num]
        omega
    · split at h
      · cases hw : withT x r with
        | none => rw [hw] at h; cases h
        | some r' =>
          rw [hw] at h
          injection h with h
          have := withT_num hw
          rw [← h]
          simp only [balT_num, Tr.num]
          omega
      · cases h
theorem RetT.out {w : World} {b : Bool} {e : Ending} {w' : World} (h : RetT w b e w') : e = .returned (.bool b) ∧ Below w.heap.size w w' := h
end Go.Proofs.Ytcclhkoggijkaaa
namespace Go.Proofs.Ytcclhkoggijkaaa
open Go Go.RowKit

/-- How many bytes of the i-th key are left out. -/
def shB (ev : Nat) (es : List En) (i : Nat) : Nat := if i % ev = 0 then 0 else match es[i - 1]?, es[i]? with
  | some a, some b => comB a.key b.key
  | _, _ => 0
/-- The bytes of the first i entries; the places of the restarts among them. -/
def outB (ev : Nat) (es : List En) : Nat → List UInt8
  | 0 => []
  | i + 1 => match es[i]? with
    | some x => outB ev es i ++ entB (shB ev es i) x
    | none => outB ev es i
def rsB (ev : Nat) (es : List En) : Nat → List UInt8
  | 0 => []
  | i + 1 => if i % ev = 0 then rsB ev es i ++ fourB (outB ev es i).length else rsB ev es i
def fullB (ev : Nat) (es : List En) : List UInt8 := outB ev es es.length ++ rsB ev es es.length ++ fourB ((rsB ev es es.length).length / 4)
theorem outB_step {ev i : Nat} {es : List En} {x : En} (h : es[i]? = some x) : outB ev es (i + 1) = outB ev es i ++ entB (shB ev es i) x := by rw [outB, h]
theorem rsB_len (ev : Nat) (es : List En) : ∀ i, (rsB ev es i).length ≤ 4 * i
  | 0 => by simp [rsB]
  | i + 1 => by
    have := rsB_len ev es i
    unfold rsB
    split
    · simp only [List.length_append, fourB_len]; omega
    · omega
theorem outB_mono (ev : Nat) (es : List En) (i : Nat) : ∀ j, i ≤ j → (outB ev es i).length ≤ (outB ev es j).length := by
  intro j
  induction j with
  | zero =>
    intro h
    obtain rfl : i = 0 := by omega
    exact Nat.le_refl _
  | succ j ih =>
    intro h
    by_cases e : i = j + 1
    · rw [e]; exact Nat.le_refl _
    · have h1 := ih (by omega)
      refine Nat.le_trans h1 ?_
      conv => rhs; unfold outB
      split
      · rw [List.length_append]; omega
      · exact Nat.le_refl _
theorem shB_le {ev i : Nat} {es : List En} {x : En} (h : es[i]? = some x) : shB ev es i ≤ x.key.length := by
  unfold shB
  rw [h]
  split
  · omega
  · split
    · rename_i a b h1 h2
      injection h2 with h2
      subst h2
      exact (comB_le _ _).2
    · omega
theorem entB_len {s : Nat} {x : En} (h0 : s ≤ x.key.length) (h1 : x.key.length ≤ 1024) (h2 : x.val.length ≤ 65536) (h3 : U64 x.seq) : (entB s x).length ≤ 66700 := by
  have p1 := putU_len64 s (show s < B64 by unfold B64; omega)
  have p2 := putU_len64 (x.key.length - s) (show x.key.length - s < B64 by unfold B64; omega)
  have p3 := putU_len64 x.seq (show x.seq < B64 from h3)
  have p5 := putU_len64 x.val.length (show x.val.length < B64 by unfold B64; omega)
  unfold entB
  simp only [List.length_append, List.length_cons, List.length_nil, List.length_drop]
  omega
theorem dj_none (B : Option Addr) : Dj none B := fun b h => by cases h
/-- The two rows that are made: the entries' bytes, the restarts' places. -/
def CS (w0 : World) (O : Option Addr) (oc : Nat) (out : List UInt8) (R : Option Addr) (rc : Nat) (rs : List UInt8) (wr : World) : Prop :=
  Own 5 wr w0.heap.size O out.length oc out ∧ Own 5 wr w0.heap.size R rs.length rc rs ∧ Dj O R ∧ Below w0.heap.size w0 wr
theorem CS.below {w0 wr wx : World} {O R : Option Addr} {oc rc : Nat} {out rs : List UInt8} (h : CS w0 O oc out R rc rs wr) (hb : Below wr.heap.size wr wx) : CS w0 O oc out R rc rs wx := by
  obtain ⟨h1, h2, h3, h4⟩ := h
  exact ⟨h1.below hb, h2.below hb, h3, h4.trans (hb.mono h4.size)⟩
theorem CS.left {w0 wr wx : World} {O R O' : Option Addr} {oc rc oc' : Nat} {out out' rs : List UInt8} (h : CS w0 O oc out R rc rs wr) (ho : Own 5 wx w0.heap.size O' out'.length oc' out') (hg : Grow wr wx O O') : CS w0 O' oc' out' R rc rs wx := by
  obtain ⟨h1, h2, h3, h4⟩ := h
  exact ⟨ho, hg.kept h2 h3, hg.dj h2 h3, h4.trans (hg.below h1 h4.size)⟩
theorem CS.right {w0 wr wx : World} {O R R' : Option Addr} {oc rc rc' : Nat} {out rs rs' : List UInt8} (h : CS w0 O oc out R rc rs wr) (ho : Own 5 wx w0.heap.size R' rs'.length rc' rs') (hg : Grow wr wx R R') : CS w0 O oc out R' rc' rs' wx := by
  obtain ⟨h1, h2, h3, h4⟩ := h
  exact ⟨hg.kept h1 h3.symm, ho, (hg.dj h1 h3.symm).symm, h4.trans (hg.below h2 h4.size)⟩
theorem ClG.off {w0 w w' : World} {g n c : Nat} {us : Array Value} {A A' : Option Addr} {xs : List UInt8} (h : Cl w g us 37) (ho : Own 5 w w0.heap.size A n c xs) (hne : 37 ≠ 5) (hg : Grow w w' A A') : Cl w' g us 37 :=
  ClG.grown h hg.1 (fun e2 => by
    rcases ho.2 with ⟨k1, _⟩ | ⟨g2, cap2, cur2, k1, _, kg, _⟩
    · injection k1 with k1
      rw [k1] at e2
      cases e2
    · injection k1 with k1
      rw [k1] at e2
      injection e2 with e2
      simp only at e2
      subst e2
      rw [h] at kg
      injection kg with kg
      injection kg with _ kg _
      exact hne kg)
/-- What contents hands back: all that is sealed, or more than a record may have. -/
def RetCt (ev : Nat) (es : List En) (w : World) (e : Ending) (w' : World) : Prop :=
  ∃ A c ys, e = .returned (.slice A ys.length c) ∧ Own 5 w' w.heap.size A ys.length c ys ∧ Below w.heap.size w w' ∧ ys.length ≤ 100000000 ∧ ((1048576 < ys.length ∧ ys.length ≤ (fullB ev es).length) ∨ ys = fullB ev es)
set_option maxRecDepth 100000 in
set_option maxHeartbeats 16000000 in
theorem contents_any {w : World} {A : Option Addr} {n c : Nat} {es : List En} (h : REs w A n es) (hn : n ≤ 16777216) (hs : ∀ x ∈ es, x.key.length ≤ 1024 ∧ x.val.length ≤ 65536) (ev : Nat) (he : 1 ≤ ev) (he2 : ev ≤ 9223372036854775807) :
    Calls Try.prog 153 #[.int .i64 (ev : Int), .slice A n c] w (RetCt ev es w) := by
  have HL := Lib.hid h.len
  have HR := Lib.hid h
  have HS := Lib.hid hs
  have HW := Lib.hid h.wf
  clear h hs
  go_enter Try.func153, Try.ntmps153
  go_wp2_with fail
  go_loopw [5, 6, 12] (fun s5 s6 s12 wr => ∃ (i on rn : Nat) (O R : Option Addr) (oc rc : Nat), i ≤ n ∧ s12 = .int .i64 (i : Int) ∧ on = (outB ev es i).length ∧ rn = (rsB ev es i).length ∧ s5 = .slice O on oc ∧ s6 = .slice R rn rc ∧ on ≤ 1048576 ∧ CS w O oc (outB ev es i) R rc (rsB ev es i) wr) (fun _ _ s _ => n - (intOf s).toNat)
  case atStart => exact ⟨0, 0, 0, none, none, 0, 0, Nat.zero_le _, rfl, rfl, rfl, rfl, rfl, by omega, Own.nil _ _ _, Own.nil _ _ _, dj_none _, Below.refl _ _⟩
  case round =>
    obtain ⟨i, on, rn, O, R, oc, rc, hi, rfl, hon, hrn, rfl, rfl, hol, hC⟩ := hrel
    have hrl := rsB_len ev es i
    have hrn4 : rn ≤ 4 * i := by omega
    have HON := Lib.hid hon
    have HRN := Lib.hid hrn
    have HC := Lib.hid hC
    have hbC := hC.2.2.2
    clear hon hrn hC hrl
    by_cases hlt : i < n
    · obtain ⟨b, off, hAb, hbl⟩ := HR.out.pos (by omega)
      subst hAb
      obtain ⟨x, v0, v1, v2, v3, hx, c0', c1', c2', c3', hev⟩ := HR.out.at_ i hlt
      have c0 := (hbC.cell (p := ⟨b, off + i * 4, none⟩) hbl).trans c0'
      have c1 := (hbC.cell (p := ⟨b, off + i * 4 + 1, none⟩) hbl).trans c1'
      have c2 := (hbC.cell (p := ⟨b, off + i * 4 + 2, none⟩) hbl).trans c2'
      have c3 := (hbC.cell (p := ⟨b, off + i * 4 + 3, none⟩) hbl).trans c3'
      have HXI := Lib.hid hx
      have HXS := Lib.hid (HS.out x (List.mem_of_getElem? hx))
      have HXW := Lib.hid (HW.out x (List.mem_of_getElem? hx)).1
      have HEV := Lib.hid hev
      obtain ⟨K, kn, kc, V, vn, vc, rfl, rfl, rfl, rfl, r0, r3, _⟩ := hev.parts
      have HR0 := Lib.hid r0
      obtain ⟨m, hm⟩ : ∃ m, m = i % ev := ⟨_, rfl⟩
      have e1 : ((i : Int) % (ev : Int)) = (m : Int) := by rw [hm]; push_cast; rfl
      have hml : m < 9223372036854775807 := by have := Nat.mod_lt i (show 0 < ev by omega); omega
      have HM := Lib.hid hm
      obtain ⟨sh, hsh⟩ : ∃ sh, sh = shB ev es i := ⟨_, rfl⟩
      have HSH := Lib.hid hsh
      obtain ⟨U, hU⟩ : ∃ U, U = wr.alloc (.cells #[.slice K kn kc, .int .u64 (x.seq : Int), .int .u8 (x.kind : Int), .slice V vn vc] 37) := ⟨_, rfl⟩
      obtain ⟨g, hg⟩ : ∃ g, g = wr.heap.size := ⟨_, rfl⟩
      have bU : Below wr.heap.size wr U := by rw [hU]; exact (Below.refl _ _).alloc (Nat.le_refl _) _
      have HCU := Lib.hid (HC.out.below bU)
      have kU : Cl U g #[.slice K kn kc, .int .u64 (x.seq : Int), .int .u8 (x.kind : Int), .slice V vn vc] 37 := by rw [hU, hg]; exact Cl.new _ _ _
      have HKU := Lib.hid kU
      have hwU : w.heap.size ≤ U.heap.size := HCU.out.2.2.2.size
      clear hx hev r0 r3 hm hsh bU kU c0' c1' c2' c3'
      go_upto_if 20 with (fail)
      rw [← hU, ← hg]
      have HU := Lib.hid hU
      have HG := Lib.hid hg
      clear hU hg
      obtain ⟨rs2, hrs2⟩ : ∃ rs2, rs2 = rsB ev es (i + 1) := ⟨_, rfl⟩
      obtain ⟨rn2, hrn2⟩ : ∃ rn2, rn2 = rs2.length := ⟨_, rfl⟩
      have HRS2 := Lib.hid hrs2
      have HRN2 := Lib.hid hrn2
      clear hrs2 hrn2
      go_cut [6, 9] from 17 to 34 (fun s6 s9 wx => ∃ (R' : Option Addr) (rc' : Nat), s6 = .slice R' rn2 rc' ∧ s9 = .int .i64 (sh : Int) ∧ CS w O oc (outB ev es i) R' rc' rs2 wx ∧ Cl wx g #[.slice K kn kc, .int .u64 (x.seq : Int), .int .u8 (x.kind : Int), .slice V vn vc] 37)
      case first =>
        by_cases hm0 : m = 0
        · subst hm0
          have hrs : rs2 = rsB ev es i ++ fourB on := by rw [HRS2.out, rsB, if_pos HM.out.symm, ← HON.out]
          have hsh0 : sh = 0 := by rw [HSH.out, shB, if_pos HM.out.symm]
          subst hsh0
          have hR' := HCU.out.2.1
          rw [← HRN.out] at hR'
          have HAW := Lib.hid (appendWord_any R rn rc (rsB ev es i) w.heap.size on U hR' hwU (by omega) (by omega))
          have HRS := Lib.hid hrs
          clear hrs hR'
          go_wp2_with fail
          with_reducible refine HAW.out.mono ?_
          rintro e wx ⟨R', rc', rfl, oR, gR⟩
          have hln : rn + (fourB on).length = rn2 := by rw [HRN2.out, HRS.out, List.length_append, ← HRN.out]
          rw [hln] at oR ⊢
          rw [← HRS.out] at oR
          have hcs : CS w O oc (outB ev es i) R' rc' rs2 wx := HCU.out.right (by rw [← HRN2.out]; exact oR) gR
          have hkx : Cl wx g #[.slice K kn kc, .int .u64 (x.seq : Int), .int .u8 (x.kind : Int), .slice V vn vc] 37 := ClG.off HKU.out HCU.out.2.1 (by decide) gR
          have HF := Lib.hid (And.intro hcs hkx)
          clear oR gR hcs hkx hln
          go_wp2_with fail
          go_meet
          case rel => exact ⟨R', rc', by first | rfl | simp, by first | rfl | simp, HF.out.1, HF.out.2⟩
        · have t1 : ((m : Int) == 0) = false := by simp; omega
          have hrs : rs2 = rsB ev es i := by rw [HRS2.out, rsB, if_neg (by rw [← HM.out]; exact hm0)]
          obtain ⟨j, hj⟩ : ∃ j, j = i - 1 := ⟨_, rfl⟩
          have hi0 : 0 < i := by
            rcases Nat.eq_zero_or_pos i with h0 | h0
            · exact absurd (by rw [HM.out, h0, Nat.zero_mod]) hm0
            · exact h0
          obtain ⟨y, u0, u1, u2, u3, hy, d0', d1', d2', d3', hew⟩ := HR.out.at_ j (by omega)
          obtain ⟨L, ln, lc, _, _, _, hu0, _, _, _, r0', _⟩ := hew.parts
          subst hu0
          have hsh2 : sh = comB y.key x.key := by
            rw [HSH.out, shB, if_neg (by rw [← HM.out]; exact hm0), ← hj, hy, HXI.out]
          have hsy := HS.out y (List.mem_of_getElem? hy)
          have hkn1 : kn ≤ 1099511627776 := by have := HXS.out.1; have := HR0.out.len; omega
          have hln1 : ln ≤ 1099511627776 := by have := r0'.len; omega
          have d0 : U.cell? ⟨b, off + j * 4, none⟩ = some (.slice L ln lc) := (HCU.out.2.2.2.cell (p := ⟨b, off + j * 4, none⟩) hbl).trans d0'
          have k0 := HKU.out.c4.1
          have e2 : IntKind.i64.wrap ((i : Int) - 1) = (j : Int) := by rw [IntWalk.i64_in _ (by omega)]; omega
          have hjn : j < n := by omega
          have HCM : Hid (∀ q, Calls Try.prog 189 #[.slice L ln lc, .slice K kn kc] (U.drewN q) (RetCo (U.drewN q) sh)) := Lib.hid (fun q => by
            rw [hsh2]
            exact common_any L K ln kn lc kc y.key x.key _ ((r0'.below HCU.out.2.2.2).drewN q) ((HR0.out.below HCU.out.2.2.2).drewN q) hln1 hkn1)
          have HRS := Lib.hid hrs
          have HJ := Lib.hid hj
          have hoi : off + j * 4 + 0 = off + j * 4 := rfl
          clear hrs hj hy d0' d1' d2' d3' hew r0' hsh2 hsy hoi
          go_wp2_with fail
          go_quiet ((go_at_call 189; with_reducible exact Calls.quiet_of (HCM.out _)))
          have hcs : CS w O oc (outB ev es i) R rc rs2 (U.drewN nq) := by
            rw [HRS.out]
            exact HCU.out.below (below_drewN (Below.refl _ _) nq)
          have HF := Lib.hid (And.intro hcs (HKU.out.drewN nq))
          have hln : rn = rn2 := by rw [HRN2.out, HRS.out, ← HRN.out]
          subst hln
          clear hcs
          go_wp2_with fail
          go_meet
          case rel => exact ⟨R, rc, by first | rfl | simp, by first | rfl | simp, HF.out.1, HF.out.2⟩
      case rest =>
        obtain ⟨R', rc', rfl, rfl, hcs, hkx⟩ := hcut
        have hO := hcs.1
        rw [← HON.out] at hO
        have hxe := entB_len (s := sh) (x := x) (by rw [HSH.out]; exact shB_le HXI.out) HXS.out.1 HXS.out.2 HXW.out
        have HAE := Lib.hid (appendEntry_any HEV.out ⟨by have := HXS.out.1; omega, by have := HXS.out.2; omega⟩ sh (by rw [HSH.out]; exact shB_le HXI.out) O on oc (outB ev es i) hO hcs.2.2.2 (by omega))
        have hstep : outB ev es (i + 1) = outB ev es i ++ entB sh x := by rw [outB_step HXI.out, HSH.out]
        obtain ⟨ol, hol2⟩ : ∃ ol, ol = on + (entB sh x).length := ⟨_, rfl⟩
        have holn : ol = (outB ev es (i + 1)).length := by rw [hstep, List.length_append, ← HON.out, hol2]
        have hob : ol ≤ 1200000 := by omega
        have HOL := Lib.hid hol2
        have HOLN := Lib.hid holn
        have HST := Lib.hid hstep
        have HCS := Lib.hid hcs
        obtain ⟨k0, k1, k2, k3, _⟩ := hkx.c4
        have HG2 := Lib.hid hkx
        clear hO hcs hkx hxe hstep hol2 holn
        go_wp2_with fail
        with_reducible refine HAE.out.mono ?_
        rintro e w3 ⟨O', oc', rfl, oO, gO⟩
        rw [← HOL.out] at oO ⊢
        rw [← HST.out] at oO
        have hc3 : CS w O' oc' (outB ev es (i + 1)) R' rc' rs2 w3 := HCS.out.left (by rw [← HOLN.out]; exact oO) gO
        have HC3 := Lib.hid hc3
        clear oO gO hc3
        by_cases hbig : 1048576 < ol
        · go_wp2_with fail
          go_ret
          have h1 := HC3.out.1
          have h2 := HOLN.out
          unfold RetCt
          refine ⟨O', oc', _, by rw [h2]; rfl, h1, HC3.out.2.2.2, by omega, .inl ⟨by omega, ?_⟩⟩
          unfold fullB
          rw [List.length_append, List.length_append]
          have := outB_mono ev es (i + 1) es.length (by rw [HL.out]; omega)
          omega
        · go_wp2_with fail
          go_roundw
          case rel => exact ⟨i + 1, ol, rn2, O', R', oc', rc', by omega, by go_num, HOLN.out, by rw [HRN2.out, HRS2.out], rfl, rfl, by omega, by rw [← HRS2.out]; exact HC3.out⟩
          case measure => simp [intOf]; omega
    · obtain rfl : i = n := by omega
      have hsw := hbC.size
      have hO := HC.out.1
      rw [← HON.out] at hO
      have hRd := HC.out.2.1.rd
      rw [← HRN.out] at hRd
      have hDj := HC.out.2.2.1
      have HR2 := Lib.hid HC.out.2.1
      clear hbC
      go_wp2_with (at_builtin; refine wpList_appX _ rfl _ _ 25 rfl w.heap.size 5 Try.underlying25 info_u8 O on oc _ rfl hO R rn rc (rsB ev es i) rfl hRd ?_ ?_ ?_)
      · omega
      · exact hsw
      intro O2 oc2 w2 o2 g2
      obtain ⟨q, hq⟩ : ∃ q, q = rn / 4 := ⟨_, rfl⟩
      have e3 : (rn : Int) / 4 = (q : Int) := by rw [hq]; omega
      have hb2 : Below w.heap.size w w2 := HC.out.2.2.2.trans (g2.below HC.out.1 hsw)
      have hq2 : q ≤ 16777216 := by omega
      have HAW := Lib.hid (appendWord_any O2 (on + rn) oc2 _ w.heap.size q w2 o2 hb2.size (by omega) (by omega))
      have HQ := Lib.hid hq
      have HO2 := Lib.hid o2
      have HB2 := Lib.hid hb2
      clear hO hRd hDj g2 hq o2 hb2
      go_wp2_with fail
      with_reducible refine HAW.out.mono ?_
      rintro e w3 ⟨O3, oc3, rfl, o3, g3⟩
      have hb3 : Below w.heap.size w w3 := HB2.out.trans (g3.below HO2.out HB2.out.size)
      have hfull : (outB ev es i ++ rsB ev es i) ++ fourB q = fullB ev es := by
        unfold fullB
        rw [HL.out, HQ.out, ← HRN.out]
      rw [hfull] at o3
      have hlen : on + rn + (fourB q).length = (fullB ev es).length := by
        rw [← hfull, List.length_append, List.length_append, ← HON.out, ← HRN.out]
      have hl2 : (fullB ev es).length ≤ 100000000 := by
        rw [← hlen, fourB_len]; omega
      rw [hlen] at o3 ⊢
      have HF := Lib.hid (And.intro o3 (And.intro hb3 hl2))
      clear o3 g3 hb3 hfull hlen hl2
      go_wp2_with fail
      go_ret
      exact ⟨O3, oc3, _, rfl, HF.out.1, HF.out.2.1, HF.out.2.2, .inr rfl⟩
end Go.Proofs.Ytcclhkoggijkaaa
namespace Go.Proofs.Ytcclhkoggijkaaa
open Go Go.RowKit

theorem or_byte64 {m : Nat} (b : UInt8) (h : m < 16777216) : bits .or .i64 ((m : Int) * 256) (b.toNat : Int) = ((m * 256 + b.toNat : Nat) : Int) := by
  have hb := b.toNat_lt
  have h1 := (bits_nat .i64 32 (by decide) (fun n h1 h2 => IntWalk.i64_in n (by simp at h2; omega)) (m * 256) b.toNat (by simp; omega) (by simp; omega)).2
  have h2 : m * 256 ||| b.toNat = m * 256 + b.toNat := by
    rw [Nat.mul_comm]
    exact (Nat.two_pow_add_eq_or_of_lt (i := 8) (by simpa using hb) m).symm
  rw [h2] at h1
  exact h1
set_option maxRecDepth 100000 in
set_option maxHeartbeats 1000000 in
theorem getWord8_any (A : Option Addr) (n c : Nat) (xs : List UInt8) (w : World) (hx : Rd w A n xs) (h4 : 4 ≤ n) (hn : n ≤ 1099511627776) (hnc : n ≤ c) :
    Calls Try.prog 196 #[.slice A n c] w (RetCo w (numK xs 4)) := by
  have hsl : ∀ w, (Instr.slice 25 (.slice A n c) none (some (.int .i64 4)) none).run Try.prog w = .ok (.slice A 4 c) w :=
    cut_h Try.underlying25 elem_bytes size_u8 A (m := 4) (by omega)
  go_enter Try.func196, Try.ntmps196
  go_wp2
  go_loopw [3, 9] (fun vm vi wr => ∃ m i q : Nat, vm = .int .i64 m ∧ vi = .int .i64 i ∧ i ≤ 4 ∧ m = numK xs i ∧ wr = w.drewN q) (fun _ vi _ => 4 - (intOf vi).toNat)
  case atStart => exact ⟨0, 0, 0, rfl, rfl, by omega, rfl, rfl⟩
  case round =>
    obtain ⟨m, i, q, rfl, rfl, hi, hm, rfl⟩ := hrel
    have hml := numK_lt xs i
    rw [← hm] at hml
    have Hm := Lib.hid hm
    clear hm
    by_cases hlt : i < 4
    · have hm3 : m < 16777216 := Nat.lt_of_lt_of_le hml (Nat.le_trans (Nat.pow_le_pow_right (by decide) (show i ≤ 3 by omega)) (by decide))
      clear hml
      obtain ⟨bf, off, rfl, _⟩ := hx.pos (by omega)
      obtain ⟨b, hb, hc, _⟩ := hx.at_ i (by omega)
      have hb8 := b.toNat_lt
      have e1 := or_byte64 b hm3
      have HR : Hid (m * 256 + b.toNat = numK xs (i + 1)) := Lib.hid (by rw [numK_take hb, Hm.out])
      clear hb
      obtain ⟨W, hW⟩ : ∃ W, W = w.drewN q := ⟨_, rfl⟩
      have c1 : W.cell? ⟨bf, off + i, none⟩ = some (.int .u8 (b.toNat : Int)) := by rw [hW]; exact hc
      rw [← hW]
      have HW := Lib.hid hW
      clear hW hc
      go_wp2
      go_roundw
      case rel => exact ⟨m * 256 + b.toNat, i + 1, q, by go_num, by go_num, by omega, HR.out, HW.out⟩
      case measure => simp [intOf]; omega
    · obtain rfl : i = 4 := by omega
      clear hml
      go_wp2
      go_ret
      exact ⟨by rw [Hm.out]; rfl, q, rfl⟩
/-- What is sealed, parted: the entries' bytes, the restarts' places. -/
def splitB (xs : List UInt8) : Option (List UInt8 × List UInt8) :=
  if xs.length < 4 then none else
    let k := numK (xs.drop (xs.length - 4)) 4
    if (xs.length - 4) / 4 < k then none else some (xs.take (xs.length - 4 - 4 * k), (xs.take (xs.length - 4)).drop (xs.length - 4 - 4 * k))
/-- What split hands back: two pieces of what came in, or none. -/
def RetSp8 (w : World) (A : Option Addr) (xs : List UInt8) (e : Ending) (w' : World) : Prop :=
  (∃ q, w' = w.drewN q) ∧ ((splitB xs = none ∧ e = .returned (.tuple #[.slice none 0 0, .slice none 0 0, .bool false])) ∨
  ∃ ys zs B1 n1 c1 B2 n2 c2, splitB xs = some (ys, zs) ∧ e = .returned (.tuple #[.slice B1 n1 c1, .slice B2 n2 c2, .bool true]) ∧ n1 ≤ c1 ∧ n2 ≤ c2 ∧ Rd w B1 n1 ys ∧ Rd w B2 n2 zs ∧ (B1 = none → c1 = 0) ∧ (B2 = none → c2 = 0) ∧ (blk B1 = none ∨ blk B1 = blk A) ∧ n1 + n2 + 4 = xs.length)
set_option maxRecDepth 100000 in
set_option maxHeartbeats 4000000 in
theorem split_any (A : Option Addr) (n c : Nat) (xs : List UInt8) (w : World) (hx : Rd w A n xs) (hn : n ≤ 1099511627776) (hnc : n ≤ c) (hnil : A = none → c = 0) :
    Calls Try.prog 195 #[.slice A n c] w (RetSp8 w A xs) := by
  have hxl := hx.len
  by_cases h4 : n < 4
  · have hs : splitB xs = none := by unfold splitB; rw [if_pos (by omega)]
    have e1 : IntKind.i64.wrap ((n : Int) - 4) = (n : Int) - 4 := IntWalk.i64_in _ (by omega)
    have t1 : (n : Int) - 4 < 0 := by omega
    have t2 : (n : Int) < 4 := by omega
    have HS := Lib.hid hs
    clear hx hs hxl
    go_enter Try.func195, Try.ntmps195
    go_wp2_with fail
    exact bodyPost_ret (v := .tuple #[.slice none 0 0, .slice none 0 0, .bool false]) (by simp [results, Try.f195, go_sem]; try rfl) rfl ⟨⟨0, rfl⟩, .inl ⟨HS.out, rfl⟩⟩
  · obtain ⟨m, hm⟩ : ∃ m, m = n - 4 := ⟨_, rfl⟩
    have e1 : IntKind.i64.wrap ((n : Int) - 4) = (m : Int) := by rw [IntWalk.i64_in _ (by omega)]; omega
    obtain ⟨k, hk⟩ : ∃ k, k = numK (xs.drop m) 4 := ⟨_, rfl⟩
    have hkl : k < 4294967296 := by rw [hk]; exact Nat.lt_of_lt_of_le (numK_lt _ 4) (by decide)
    have hsl : ∀ W : World, (Instr.slice 25 (.slice A n c) (some (.int .i64 (m : Int))) none none).run Try.prog W = .ok (.slice (cutA A m c) 4 (c - m)) W := fun W => by
      have := cut_l Try.underlying25 elem_bytes size_u8 A (n := n) (cap := c) (k := m) (by omega) W
      rw [show n - m = 4 by omega] at this
      exact this
    have hrd : Rd w (cutA A m c) 4 (xs.drop m) := by
      have := hx.cut (k := m) (m := n) (cap := c) (by omega) (Nat.le_refl _) hnc
      rw [List.take_of_length_le (by omega), show n - m = 4 by omega] at this
      exact this
    have HGW : Hid (Calls Try.prog 196 #[.slice (cutA A m c) 4 (c - m)] w (RetCo w k)) := Lib.hid (by
      rw [hk]
      exact getWord8_any _ 4 _ _ w hrd (by omega) (by omega) (by omega))
    have e2 : (m : Int) / 4 = ((m / 4 : Nat) : Int) := by omega
    obtain ⟨d, hd⟩ : ∃ d, d = m / 4 := ⟨_, rfl⟩
    have e3 : (m : Int) / 4 = (d : Int) := by omega
    by_cases hdk : d < k
    · have hs : splitB xs = none := by
        unfold splitB
        rw [if_neg (by omega), hxl, ← hm]
        simp only
        rw [← hk, ← hd, if_pos hdk]
      have HS := Lib.hid hs
      clear hx hs hxl hrd hm hk hd e2
      go_enter Try.func195, Try.ntmps195
      go_wp2_with fail
      with_reducible refine HGW.out.mono ?_
      rintro e w2 ⟨rfl, q, hq⟩
      go_wp2_with fail
      exact bodyPost_ret (v := .tuple #[.slice none 0 0, .slice none 0 0, .bool false]) (by simp [results, Try.f195, go_sem]; try rfl) rfl ⟨⟨q, by first | exact hq | rfl⟩, .inl ⟨HS.out, rfl⟩⟩
    · obtain ⟨b, hb⟩ : ∃ b, b = m - 4 * k := ⟨_, rfl⟩
      have e4 : IntKind.i64.wrap (4 * (k : Int)) = 4 * (k : Int) := IntWalk.i64_in _ (by omega)
      have e5 : IntKind.i64.wrap ((m : Int) - 4 * (k : Int)) = (b : Int) := by rw [IntWalk.i64_in _ (by omega)]; omega
      have hbm : b ≤ m := by omega
      have hmn : m ≤ n := by omega
      have hs : splitB xs = some (xs.take b, (xs.take m).drop b) := by
        unfold splitB
        rw [if_neg (by omega), hxl, ← hm]
        simp only
        rw [← hk, ← hd, if_neg hdk, ← hb]
      have s1 : ∀ W : World, (Instr.slice 25 (.slice A n c) none (some (.int .i64 (b : Int))) none).run Try.prog W = .ok (.slice A b c) W := cut_h Try.underlying25 elem_bytes size_u8 A (by omega)
      have s2 : ∀ W : World, (Instr.slice 25 (.slice A n c) (some (.int .i64 (b : Int))) (some (.int .i64 (m : Int))) none).run Try.prog W = .ok (.slice (cutA A b c) (m - b) (c - b)) W := cut_lh Try.underlying25 elem_bytes size_u8 A hbm (by omega)
      obtain ⟨z, hz⟩ : ∃ z, z = m - b := ⟨_, rfl⟩
      rw [← hz] at s2
      have hcn : cutA A b c = none → c - b = 0 := fun hh => by
        unfold cutA at hh
        split at hh
        · omega
        · cases A with
          | none => have := hnil rfl; omega
          | some _ => cases hh
      have hfin : ∀ q, RetSp8 w A xs (.returned (.tuple #[.slice A b c, .slice (cutA A b c) z (c - b), .bool true])) (w.drewN q) := fun q =>
        ⟨⟨q, rfl⟩, .inr ⟨xs.take b, (xs.take m).drop b, A, b, c, cutA A b c, z, c - b, hs, rfl, by omega, by omega, hx.take (by omega), by rw [hz]; exact hx.cut hbm hmn hnc, hnil, hcn, .inr rfl, by omega⟩⟩
      have HF := Lib.hid hfin
      clear hx hs hxl hrd hm hk hd e2 hb hcn hfin hz
      go_enter Try.func195, Try.ntmps195
      go_wp2_with fail
      with_reducible refine HGW.out.mono ?_
      rintro e w2 ⟨rfl, q, hq⟩
      have HQ := Lib.hid hq
      clear hq
      go_wp2_with fail
      go_quiet (fail)
      go_wp2_with fail
      refine bodyPost_ret (v := .tuple #[.slice A b c, .slice (cutA A b c) z (c - b), .bool true]) (by simp [results, Try.f195, go_sem]; try rfl) rfl ?_
      have := HF.out (q + nq)
      rw [← World.drewN_drewN, ← HQ.out] at this
      exact this
end Go.Proofs.Ytcclhkoggijkaaa
namespace Go.Proofs.Ytcclhkoggijkaaa
open Go Go.RowKit

/-- The cells of these bools. -/
def voB (bs : List Bool) : Array Value := (bs.map Value.bool).toArray
theorem voB_at {bs : List Bool} {i : Nat} {x : Bool} (h : bs[i]? = some x) : (voB bs)[i]? = some (.bool x) := by
  unfold voB
  simp [h]
theorem voB_set (bs : List Bool) (i : Nat) (x : Bool) : (voB bs).setIfInBounds i (.bool x) = voB (bs.set i x) := by
  unfold voB
  simp [List.map_set]
theorem voB_made (s : Nat) : madeCells (Value.bool false).cells s = voB (List.replicate s false) := by
  unfold madeCells voB
  apply Array.ext
  · simp
  · intro i h1 h2
    simp [Value.cells, Nat.mod_one]
theorem info_boB : (Try.prog.info? 4).map (fun i => (i.zero, i.size, i.bytes)) = some (some (.bool false), 1, 1) := by kernel_rfl
theorem make_bools (s : Nat) (hs : s ≤ 1048576) (w : World) : (Instr.makeSlice 230 (.int .i64 (s : Int)) (.int .i64 (s : Int))).run Try.prog w = .ok (.slice (some ⟨w.heap.size, 0, none⟩) s s) (w.alloc (.cells (voB (List.replicate s false)) 4)) := by
  obtain ⟨i, hi, hz, hsz, hby⟩ := info_parts info_boB
  have h := run_make (P := Try.prog) w 230 4 i (.bool false) Try.underlying230 hi hz .i64 .i64 (s : Int) (s : Int) (by omega) (by omega) (by rw [hby]; omega) (by omega)
  rw [hsz, Nat.mul_one, Int.toNat_natCast, voB_made] at h
  exact h
set_option maxRecDepth 100000 in
set_option maxHeartbeats 8000000 in
theorem refBuild_gen (A : Option Addr) (n c p0 : Nat) (w : World) (hp : 1 ≤ p0) (hp2 : p0 ≤ 100) (hn : n ≤ 20000) (hnp : n * p0 ≤ 200000) (xss : List (List UInt8)) (hx : RdL w A n xss) (hxl : ∀ xs ∈ xss, xs.length ≤ maxLen) :
    Calls Try.prog 120 #[.int .i64 (p0 : Int), .slice A n c] w (RetUn w (filterB p0 xss)) := by
  obtain ⟨q, hq⟩ : ∃ q, q = n * p0 := ⟨_, rfl⟩
  have hq2 : q ≤ 200000 := by rw [hq]; exact hnp
  obtain ⟨M, hM⟩ : ∃ M, M = if q < 64 then 64 else q := ⟨_, rfl⟩
  have hM2 : 64 ≤ M ∧ M ≤ 200000 := by rw [hM]; split <;> omega
  obtain ⟨t, ht⟩ : ∃ t, t = (M + 7) / 8 := ⟨_, rfl⟩
  have ht2 : 8 ≤ t ∧ t ≤ 25000 := by omega
  have e1 : IntKind.i64.wrap ((p0 : Int) * (n : Int)) = (q : Int) := by
    have : ((p0 : Int) * (n : Int)) = ((n * p0 : Nat) : Int) := by push_cast; exact Int.mul_comm _ _
    rw [IntWalk.i64_in _ (by omega), this, ← hq]
  obtain ⟨k0, hk0⟩ : ∃ k0, k0 = p0 * 69 / 100 := ⟨_, rfl⟩
  obtain ⟨k, hk⟩ : ∃ k, k = min (max k0 1) 30 := ⟨_, rfl⟩
  have hk2 : 1 ≤ k ∧ k ≤ 30 := by omega
  have HM := Lib.hid hM
  have HQ := Lib.hid hq
  have HK := Lib.hid hk
  have HK0 := Lib.hid hk0
  have HT := Lib.hid ht
  have HX := Lib.hid hx
  clear hM hq hk hk0 ht hx
  go_enter Try.func120, Try.ntmps120
  go_upto_if 26 with (fail)
  go_cut [6] from 21 to 26 (fun s6 wx => s6 = .int .i64 (M : Int) ∧ wx = w)
  case first =>
    by_cases h64 : q < 64
    · obtain rfl : M = 64 := by rw [HM.out, if_pos h64]
      go_wp2_with fail
      go_meet
      case rel => exact ⟨rfl, rfl⟩
    · obtain rfl : M = q := by rw [HM.out, if_neg h64]
      go_wp2_with fail
      go_meet
      case rel => exact ⟨rfl, rfl⟩
  case rest =>
    obtain ⟨rfl, hwc⟩ := hcut
    rw [hwc]
    clear hwc wc
    go_wp2_with fail
    go_loopw [6] (fun s6 wr => ∃ y : Nat, M ≤ y ∧ y ≤ 8 * t ∧ s6 = .int .i64 (y : Int) ∧ wr = w) (fun s _ => 8 * t - (intOf s).toNat)
    case atStart => exact ⟨M, Nat.le_refl _, by have := HT.out; omega, rfl, rfl⟩
    case round =>
      obtain ⟨y, hy1, hy2, rfl, rfl⟩ := hrel
      by_cases h8 : y % 8 = 0
      · have hyt : y = 8 * t := by have := HT.out; omega
        have HY := Lib.hid hyt
        have e2 : (y : Int) % 8 = 0 := by omega
        have e3 : (y : Int) / 8 = (t : Int) := by omega
        obtain ⟨t1, ht1⟩ : ∃ t1, t1 = t + 1 := ⟨_, rfl⟩
        have e4 : IntKind.i64.wrap ((t : Int) + 1) = (t1 : Int) := by rw [IntWalk.i64_in _ (by omega)]; omega
        have ht3 : t1 ≤ 25001 := by omega
        have HT1 := Lib.hid ht1
        have hyr : 64 ≤ y ∧ y ≤ 200000 := by omega
        clear hyt hy1 hy2 ht1
        go_upto_region 10 with (fail)
        obtain ⟨k1, hk1⟩ : ∃ k1, k1 = max k0 1 := ⟨_, rfl⟩
        have HK1 := Lib.hid hk1
        have e5 : IntKind.i64.wrap ((p0 : Int) * 69) = ((p0 * 69 : Nat) : Int) := by rw [IntWalk.i64_in _ (by omega)]; omega
        have e6 : ((p0 : Int) * 69) / 100 = (k0 : Int) := by have := HK0.out; omega
        clear hk1
        go_upto_if 40 with (fail)
        go_cut [7] from 36 to 40 (fun s7 wx => s7 = .int .i64 (k1 : Int) ∧ wx = wr)
        case first =>
          by_cases h1 : k0 < 1
          · obtain rfl : k1 = 1 := by have := HK1.out; omega
            go_wp2_with fail
            go_meet
            case rel => exact ⟨rfl, rfl⟩
          · obtain rfl : k1 = k0 := by have := HK1.out; omega
            go_wp2_with fail
            go_meet
            case rel => exact ⟨by rw [e6], rfl⟩
        case rest =>
          obtain ⟨rfl, hwc⟩ := hcut
          rw [hwc]
          clear hwc wc
          go_upto_if 42 with (fail)
          go_cut [7] from 36 to 42 (fun s7 wx => s7 = .int .i64 (k : Int) ∧ wx = wr)
          case first =>
            by_cases h1 : 30 < k1
            · obtain rfl : k = 30 := by have := HK1.out; have := HK.out; omega
              go_wp2_with fail
              go_meet
              case rel => exact ⟨rfl, rfl⟩
            · obtain rfl : k = k1 := by have := HK1.out; have := HK.out; omega
              go_wp2_with fail
              go_meet
              case rel => exact ⟨rfl, rfl⟩
          case rest =>
            obtain ⟨rfl, hwc⟩ := hcut
            rw [hwc]
            clear hwc wc
            have hmk := make_bools y (by omega)
            go_wp2_with fail
            obtain ⟨w0, rfl⟩ : ∃ w0, w0 = wr := ⟨_, rfl⟩
            obtain ⟨W, hW⟩ : ∃ W, W = w0.alloc (.cells (voB (List.replicate y false)) 4) := ⟨_, rfl⟩
            rw [← hW]
            have hW0 : Cl W w0.heap.size (voB (List.replicate (8 * t) false)) 4 ∧ Below w0.heap.size w0 W := by
              rw [hW, ← HY.out]
              exact ⟨Cl.new _ _ _, (Below.refl _ _).alloc (Nat.le_refl _) _⟩
            have HW0 := Lib.hid hW0
            have hb0 : Bits t (buildB (t + 1) k []) (List.replicate (8 * t) false) := by
              unfold buildB
              exact Bits.zero t _
            have HB0 := Lib.hid hb0
            clear hW0 hb0 hW hmk e1 e2 e3 e4 e5 e6
            go_loopw [9] (fun s9 wx => ∃ (i : Nat) (bs : List Bool), i ≤ n ∧ s9 = .int .i64 (i : Int) ∧ Bits t (buildB (t + 1) k (xss.take i)) bs ∧ Cl wx w0.heap.size (voB bs) 4 ∧ Below w0.heap.size w0 wx) (fun s _ => n - (intOf s).toNat)
            case atStart => exact ⟨0, _, Nat.zero_le _, rfl, by rw [List.take_zero]; exact HB0.out, HW0.out⟩
            case round =>
              obtain ⟨i, bs, hi, rfl, hbs, kC, bC⟩ := hrel
              have HBS := Lib.hid (And.intro hbs (And.intro kC bC))
              by_cases hin : i < n
              · obtain ⟨b, off, hA, hbl, hel⟩ := HX.out.2 (by omega)
                obtain ⟨key, hkey⟩ : ∃ key, xss[i]? = some key := ⟨_, List.getElem?_eq_getElem (by have := HX.out.1; omega)⟩
                obtain ⟨v, hv, K, kn, kc, rfl, hrK, _⟩ := hel i key hkey
                have hkn : kn ≤ maxLen := by
                  have h1 := hrK.len
                  have h2 := hxl key (List.mem_of_getElem? hkey)
                  omega
                subst hA
                have HV := Lib.hid hv
                have HRK := Lib.hid hrK
                have hsucc := buildB_succ (s := t + 1) (k := k) hkey
                have HSU := Lib.hid hsucc
                clear hbs kC bC hel hkey hv hrK hsucc
                obtain ⟨F, hF⟩ : ∃ F, F = buildB (t + 1) k (xss.take i) := ⟨_, rfl⟩
                rw [← hF] at HBS HSU
                clear hF
                go_wp2_with fail
                obtain ⟨w1, rfl⟩ : ∃ w1, w1 = wr := ⟨_, rfl⟩
                go_loopw [10] (fun s10 wx => ∃ (j : Nat) (cs : List Bool), j ≤ k ∧ s10 = .int .i64 (j : Int) ∧ Bits t (((List.range j).map (bitN key (8 * t))).foldl putB F) cs ∧ Cl wx w0.heap.size (voB cs) 4 ∧ Below w0.heap.size w0 wx) (fun s _ => k - (intOf s).toNat)
                case atStart => exact ⟨0, bs, Nat.zero_le _, rfl, HBS.out⟩
                case round =>
                  obtain ⟨j, cs, hj, rfl, hcs, kD, bD⟩ := hrel
                  by_cases hjk : j < k
                  · have HBI : Hid (Calls Try.prog 159 #[.slice K kn kc, .int .i64 (j : Int), .int .i64 (y : Int)] wr (RetBi wr (bitN key y j))) := Lib.hid (refBit_any K kn kc key j y wr (HRK.out.below bD) hkn (by omega) (by omega) (by omega))
                    have hz : bitN key y j < y := bitN_lt key (by omega) j
                    obtain ⟨z, hz2⟩ : ∃ z, z = bitN key y j := ⟨_, rfl⟩
                    rw [← hz2] at hz HBI
                    have hput : Bits t (((List.range (j + 1)).map (bitN key (8 * t))).foldl putB F) (putO cs z) := by
                      rw [List.range_succ, List.map_append, List.foldl_append]
                      have := hcs.put (b := z) (by have := HY.out; omega)
                      rw [hz2, HY.out] at this ⊢
                      exact this
                    have HPUT := Lib.hid hput
                    have hc1 : wr.cell? ⟨b, off + i, none⟩ = some (.slice K kn kc) := (bD.cell (p := ⟨b, off + i, none⟩) hbl).trans HV.out
                    have HKD := Lib.hid (And.intro kD bD)
                    clear hput hz2 hcs kD bD
                    go_wp2_with fail
                    with_reducible refine HBI.out.mono ?_
                    rintro e w2 ⟨rfl, q2, hq2⟩
                    have kE : Cl w2 w0.heap.size (voB cs) 4 := by rw [hq2]; exact HKD.out.1
                    have hth := kE.thaw z
                    have HKE := Lib.hid (kE.set z (.bool true))
                    have HBE : Hid (Below w0.heap.size w0 w2) := Lib.hid (by rw [hq2]; exact below_drewN HKD.out.2 q2)
                    obtain ⟨ob, hob⟩ : ∃ ob, cs[z]? = some ob := by
                      have h1 : (putO cs z).length = 8 * t := HPUT.out.2.1
                      have h2 : cs.length = 8 * t := by rw [← h1, putO, List.length_set]
                      exact ⟨_, List.getElem?_eq_getElem (by have := HY.out; omega)⟩
                    have hcz := (kE.cell z).trans (voB_at hob)
                    clear hq2 kE hob
                    go_wp2_with fail
                    refine ⟨⟨j + 1, putO cs z, by omega, by go_num, HPUT.out, by have h := HKE.out; rw [voB_set] at h; exact h, HBE.out.setCell (p := ⟨w0.heap.size, z, none⟩) (Nat.le_refl _) _⟩, ?_⟩
                    simp [intOf]; omega
                  · obtain rfl : j = k := by omega
                    have hfin : Bits t (buildB (t + 1) j (xss.take (i + 1))) cs := by rw [HSU.out]; exact hcs
                    have HF := Lib.hid (And.intro hfin (And.intro kD bD))
                    clear hfin hcs kD bD
                    go_wp2_with fail
                    go_roundw
                    case rel => exact ⟨i + 1, cs, by omega, by go_num, HF.out⟩
                    case measure => simp [intOf]; omega
              · obtain rfl : i = n := by omega
                clear hbs kC bC
                obtain ⟨F, hF⟩ : ∃ F, F = buildB (t + 1) k (xss.take i) := ⟨_, rfl⟩
                rw [← hF] at HBS
                have HF := Lib.hid hF
                have hFl : F.length = t + 1 := by rw [hF]; exact buildB_len _ _ _
                clear hF
                go_wp2_with fail
                obtain ⟨w1, rfl⟩ : ∃ w1, w1 = wr := ⟨_, rfl⟩
                go_loopw [11, 12] (fun s11 s12 wx => ∃ (r p : Nat) (O : Option Addr) (oc : Nat), r ≤ t ∧ p = 8 * r ∧ s12 = .int .i64 (p : Int) ∧ s11 = .slice O r oc ∧ Own 5 wx w1.heap.size O r oc (F.take r) ∧ Below w1.heap.size w1 wx) (fun _ s _ => 8 * t - (intOf s).toNat)
                case atStart => exact ⟨0, 0, none, 0, Nat.zero_le _, rfl, rfl, rfl, Own.nil _ _ _, Below.refl _ _⟩
                case round =>
                  obtain ⟨r, p, O, oc, hr, hp, rfl, rfl, oO, bO⟩ := hrel
                  have HPR := Lib.hid hp
                  clear hp
                  by_cases hrt : r < t
                  · have hpy : p < y := by have := HPR.out; have := HY.out; omega
                    have KS : Hid (Cl wr w0.heap.size (voB bs) 4) := Lib.hid (HBS.out.2.1.below bO)
                    have HO := Lib.hid (And.intro oO bO)
                    clear oO bO
                    obtain ⟨w2, rfl⟩ : ∃ w2, w2 = wr := ⟨_, rfl⟩
                    go_wp2_with fail
                    go_loopw [13, 14] (fun s13 s14 wx => ∃ (d : Nat) (j : Int) (bb : Nat), d ≤ 8 ∧ j = 7 - (d : Int) ∧ bb = byteO bs (8 * r) d ∧ s14 = .int .i64 j ∧ s13 = .int .i64 (bb : Int) ∧ wx = w2) (fun _ s _ => (intOf s + 1).toNat)
                    case atStart => exact ⟨0, 7, 0, by omega, by omega, rfl, rfl, rfl, by first | trivial | rfl⟩
                    case round =>
                      obtain ⟨d, j, bb, hd, hj, hbb, rfl, rfl, hXX⟩ := hrel
                      have hby := byteO_lt bs (8 * r) d
                      have h2d : 2 ^ d ≤ 256 := Nat.le_trans (Nat.pow_le_pow_right (by omega) hd) (by decide)
                      have hbl : bb < 256 := by omega
                      by_cases hd8 : d < 8
                      · obtain ⟨x, hxx⟩ : ∃ x, bs[8 * r + (7 - d)]? = some x := ⟨_, List.getElem?_eq_getElem (by have := HBS.out.1.2.1; omega)⟩
                        have hstep : byteO bs (8 * r) (d + 1) = 2 * byteO bs (8 * r) d + (if x then 1 else 0) := by
                          rw [byteO, hxx]
                          rfl
                        rw [← hbb] at hstep
                        obtain ⟨z, hz⟩ : ∃ z, z = p + (7 - d) := ⟨_, rfl⟩
                        have hzz : 8 * r + (7 - d) = z := by rw [hz, HPR.out]
                        rw [hzz] at hxx
                        have hcx : wr.cell? ⟨w0.heap.size, z, none⟩ = some (.bool x) := by rw [hXX]; exact (KS.out.cell z).trans (voB_at hxx)
                        obtain ⟨b2, hb2⟩ : ∃ b2, b2 = 2 * bb := ⟨_, rfl⟩
                        have f1 : IntKind.i64.wrap (2 * (bb : Int)) = (b2 : Int) := by rw [IntWalk.i64_in _ (by omega)]; omega
                        have f2 : IntKind.i64.wrap ((p : Int) + j) = (z : Int) := by rw [IntWalk.i64_in _ (by omega)]; omega
                        have f5 : (0 : Int) ≤ j := by omega
                        have f3 : IntKind.i64.wrap (j - 1) = j - 1 := by rw [IntWalk.i64_in _ (by omega)]
                        have hzy : z < y := by have := HY.out; have := HPR.out; omega
                        have hb3 : b2 < 512 := by omega
                        have HXX := Lib.hid hXX
                        have HST := Lib.hid hstep
                        have HB2 := Lib.hid hb2
                        have HJ := Lib.hid hj
                        clear hXX hstep hbb hby h2d hxx hz hzz hb2 hj
                        cases x with
                        | true =>
                          go_wp2_with fail
                          go_roundw
                          case rel => exact ⟨d + 1, j - 1, b2 + 1, by omega, by have := HJ.out; omega, by have h1 := HST.out; have h2 := HB2.out; rw [if_pos rfl] at h1; omega, by go_num, by go_num, HXX.out⟩
                          case measure => simp [intOf]; omega
                        | false =>
                          go_wp2_with fail
                          go_roundw
                          case rel => exact ⟨d + 1, j - 1, b2, by omega, by have := HJ.out; omega, by have h1 := HST.out; have h2 := HB2.out; simp only [Bool.false_eq_true, if_false] at h1; omega, by go_num, by go_num, HXX.out⟩
                          case measure => simp [intOf]; omega
                      · obtain rfl : d = 8 := by omega
                        obtain rfl : j = -1 := by omega
                        obtain ⟨x, hx⟩ : ∃ x, F[r]? = some x := ⟨_, List.getElem?_eq_getElem (by omega)⟩
                        have hbx : bb = x.toNat := by rw [hbb]; exact Bits.byte HBS.out.1 (by omega) hx
                        subst hbx
                        have htk : F.take (r + 1) = F.take r ++ [x] := take_snoc' F r x hx
                        have HTK := Lib.hid htk
                        have HWX := Lib.hid hXX
                        have f6 : IntKind.u8.wrap (x.toNat : Int) = (x.toNat : Int) := by rw [IntKind.wrap_u8]; omega
                        have oW : Own 5 wr w1.heap.size O r oc (F.take r) := by rw [hXX]; exact HO.out.1
                        have bW : Below w1.heap.size w1 wr := by rw [hXX]; exact HO.out.2
                        have hbs := bW.size
                        have BW := Lib.hid bW
                        clear hbb hby h2d hx htk hXX bW
                        go_wp2_with (at_builtin; refine wpList_app _ rfl _ _ 25 rfl w1.heap.size 5 Try.underlying25 info_u8 O r oc (F.take r) rfl (oW.alloc _) _ 1 1 [x] rfl (Rd.one _ _ _ _ rfl) ?_ ?_ ?_)
                        · omega
                        · simp; omega
                        intro A2 c2 w3 o3 b3
                        have b3' : Below w1.heap.size w1 w3 := (BW.out.alloc hbs _).trans b3
                        have H3 := Lib.hid (And.intro o3 b3')
                        clear oW o3 b3 b3'
                        go_wp2_with fail
                        go_roundw
                        case rel => exact ⟨r + 1, p + 8, A2, c2, by omega, by have := HPR.out; omega, by go_num, rfl, by rw [HTK.out]; exact H3.out.1, H3.out.2⟩
                        case measure => have := HPR.out; simp [intOf]; omega
                  · obtain rfl : r = t := by omega
                    have hpy : ¬ p < y := by have := HPR.out; have := HY.out; omega
                    have hFF : F = filterB p0 xss := by
                      have h1 := HF.out
                      have h2 := HX.out.1
                      rw [h1, List.take_of_length_le (by omega)]
                      unfold filterB
                      rw [h2, ← HQ.out, ← HM.out, ← HT.out, ← HK0.out, ← HK.out]
                    have hlast : F[r]? = some (UInt8.ofNat k) := by
                      have h := buildB_last (s := r + 1) (k := k) (by omega) (xss.take i)
                      rw [← HF.out] at h
                      exact h
                    have hall : F.take r ++ [bt k] = filterB p0 xss := by
                      rw [← hFF]
                      have h := take_snoc' F r _ hlast
                      rw [List.take_of_length_le (by omega)] at h
                      exact h.symm
                    have hlen : (filterB p0 xss).length = r + 1 := by rw [← hFF]; exact hFl
                    have f6 : IntKind.u8.wrap (k : Int) = (k : Int) := by rw [IntKind.wrap_u8]; omega
                    have hbs := bO.size
                    have BW := Lib.hid bO
                    have HALL := Lib.hid hall
                    have HLEN := Lib.hid hlen
                    have B1 := Lib.hid HBS.out.2.2
                    clear hFF hlast hall hlen bO
                    go_wp2_with (at_builtin; refine wpList_app _ rfl _ _ 25 rfl w1.heap.size 5 Try.underlying25 info_u8 O r oc (F.take r) rfl (oO.alloc _) _ 1 1 [bt k] rfl (Rd.one _ _ _ _ ?_) ?_ ?_ ?_)
                    · rw [bt_nat k (by omega)]
                    · omega
                    · simp; omega
                    intro A2 c2 w3 o3 b3
                    have b3' : Below w1.heap.size w1 w3 := (BW.out.alloc hbs _).trans b3
                    rw [HALL.out] at o3
                    have H3 := Lib.hid (And.intro o3 b3')
                    clear o3 b3 b3'
                    go_wp2_with fail
                    have s0 := B1.out.size
                    refine bodyPost_ret (v := .tuple #[.slice A2 (r + 1) c2, .int .i64 0]) (by simp [results, Try.f120, go_sem]; try rfl) rfl ?_
                    unfold RetUn
                    rw [HLEN.out]
                    exact ⟨A2, c2, rfl, H3.out.1.mono s0, B1.out.trans (H3.out.2.mono s0)⟩
      · have e2 : ¬ (y : Int) % 8 = 0 := by omega
        have e3 : IntKind.i64.wrap ((y : Int) + 1) = ((y + 1 : Nat) : Int) := by rw [IntWalk.i64_in _ (by omega)]; omega
        go_wp2_with fail
        go_roundw
        case rel => exact ⟨y + 1, by omega, by have := HT.out; omega, by go_num, by first | trivial | rfl⟩
        case measure => have := HT.out; simp [intOf]; omega
theorem refBuild_good (A : Option Addr) (n c p0 : Nat) (w : World) (hp : 1 ≤ p0) (hp2 : p0 ≤ 100) (hn : n ≤ 200) (xss : List (List UInt8)) (hx : RdL w A n xss) (hxl : ∀ xs ∈ xss, xs.length ≤ maxLen) :
    Calls Try.prog 120 #[.int .i64 (p0 : Int), .slice A n c] w (RetUn w (filterB p0 xss)) :=
  refBuild_gen A n c p0 w hp hp2 (by omega) (Nat.le_trans (Nat.mul_le_mul hn hp2) (by omega)) xss hx hxl
end Go.Proofs.Ytcclhkoggijkaaa
namespace Go.Proofs.Ytcclhkoggijkaaa
open Go Go.RowKit Go.Maps

theorem putR_sub2 {r : FR} : ∀ {rs : List FR}, rsUp rs → ∀ q, q ∈ putR r rs → q = r ∨ (q ∈ rs ∧ q.name ≠ r.name)
  | [], _, q, h => by simp [putR] at h; exact .inl h
  | a :: t, hu, q, h => by
    have hu0 := hu
    unfold rsUp at hu
    rw [List.pairwise_cons] at hu
    simp only [putR] at h
    split at h
    · next e =>
      rcases List.mem_cons.1 h with h | h
      · exact .inl h
      · exact .inr ⟨List.mem_cons_of_mem _ h, fun e2 => nlt_ne (hu.1 q h) (by rw [e, e2])⟩
    · next e =>
      split at h
      · next e3 =>
        rcases List.mem_cons.1 h with h | h
        · exact .inl h
        · refine .inr ⟨h, ?_⟩
          rcases List.mem_cons.1 h with h | h
          · rw [h]; exact e
          · exact fun e2 => nlt_ne (nlt_trans e3 (hu.1 q h)) e2.symm
      · rcases List.mem_cons.1 h with h | h
        · exact .inr ⟨by rw [h]; exact List.mem_cons_self .., by rw [h]; exact e⟩
        · rcases putR_sub2 hu.2 q h with h | ⟨h, h2⟩
          · exact .inl h
          · exact .inr ⟨List.mem_cons_of_mem _ h, h2⟩
theorem putR_len_old {r : FR} : ∀ {rs : List FR}, rsUp rs → (∃ q ∈ rs, q.name = r.name) → (putR r rs).length = rs.length
  | [], _, h => by obtain ⟨q, hq, _⟩ := h; cases hq
  | a :: t, hu, h => by
    unfold rsUp at hu
    rw [List.pairwise_cons] at hu
    simp only [putR]
    split
    · rfl
    · next e =>
      obtain ⟨q, hq, e2⟩ := h
      rcases List.mem_cons.1 hq with rfl | hq
      · exact absurd e2 e
      · rw [if_neg (fun e3 => nlt_ne (nlt_trans e3 (hu.1 q hq)) e2.symm), List.length_cons, putR_len_old hu.2 ⟨q, hq, e2⟩, List.length_cons]
theorem putR_any_old {r : FR} (x : List UInt8) : ∀ {rs : List FR}, rsUp rs → (∃ q ∈ rs, q.name = r.name) → (putR r rs).any (fun q => q.name == x) = rs.any (fun q => q.name == x)
  | [], _, h => by obtain ⟨q, hq, _⟩ := h; cases hq
  | a :: t, hu, h => by
    unfold rsUp at hu
    rw [List.pairwise_cons] at hu
    simp only [putR]
    split
    · next e => rw [List.any_cons, List.any_cons, e]
    · next e =>
      obtain ⟨q, hq, e2⟩ := h
      rcases List.mem_cons.1 hq with rfl | hq
      · exact absurd e2 e
      · rw [if_neg (fun e3 => nlt_ne (nlt_trans e3 (hu.1 q hq)) e2.symm), List.any_cons, putR_any_old x hu.2 ⟨q, hq, e2⟩, List.any_cons]
theorem MR.same {Dm : DU} {rs : List FR} {r r' : FR} (h : MR Dm rs) (hu : rsUp rs) (hr : r ∈ rs) (hn : r'.name = r.name) (hb : r'.fb = r.fb) : MR Dm (putR r' rs) := by
  refine ⟨?_, fun x => ?_, fun q hq z => ?_⟩
  · rw [putR_len_old hu ⟨r, hr, hn.symm⟩]; exact h.1
  · rw [putR_any_old x hu ⟨r, hr, hn.symm⟩]; exact h.2.1 x
  · rcases putR_sub2 hu q hq with rfl | ⟨hq, _⟩
    · rw [hn, hb]; exact h.2.2 r hr z
    · exact h.2.2 q hq z
theorem up_name {rs : List FR} (hu : rsUp rs) {a b : FR} (ha : a ∈ rs) (hb : b ∈ rs) (e : a.name = b.name) : a = b := by
  unfold rsUp at hu
  induction rs with
  | nil => cases ha
  | cons q t ih =>
    rw [List.pairwise_cons] at hu
    rcases List.mem_cons.1 ha with rfl | ha2
    · rcases List.mem_cons.1 hb with rfl | hb2
      · rfl
      · exact absurd e (nlt_ne (hu.1 b hb2))
    · rcases List.mem_cons.1 hb with rfl | hb2
      · exact absurd e.symm (nlt_ne (hu.1 a ha2))
      · exact ih hu.2 ha2 hb2
theorem sp_of {rs : List FR} (hp : rs.Pairwise Sp) (hu : rsUp rs) {a b : FR} (ha : a ∈ rs) (hb : b ∈ rs) (e : a.name ≠ b.name) : Sp a b := by
  induction rs with
  | nil => cases ha
  | cons q t ih =>
    unfold rsUp at hu
    rw [List.pairwise_cons] at hp hu
    rcases List.mem_cons.1 ha with rfl | ha2
    · rcases List.mem_cons.1 hb with rfl | hb2
      · exact absurd rfl e
      · exact hp.1 b hb2
    · rcases List.mem_cons.1 hb with rfl | hb2
      · exact (hp.1 a ha2).symm
      · exact ih hp.2 hu.2 ha2 hb2

section
variable {w w' : World} {p : Nat} {m : Option Nat} {rs : List FR} {room used left : Int} {dead armed : Bool}
/-- A file turned. -/
theorem DskR.file (h : DskR w p m rs room used left dead armed) (hu : rsUp rs) {r r' : FR} (hr : r ∈ rs) (hn : r'.name = r.name) (hb : r'.fb = r.fb) (hf : Fr w w' r.bl) (hat : FileAt w' r') (hbl : ∀ b ∈ r'.bl, b ∈ r.bl ∨ w.heap.size ≤ b) (hne : blk r'.A ≠ some r'.fb) :
    DskR w' p m (putR r' rs) room used left dead armed := by
  have hlt := h.lt
  obtain ⟨h1, h2, h3, h4, h5, h6⟩ := h
  have hpl := (Array.getElem?_eq_some_iff.1 h1).1
  refine ⟨(hf.block p hpl (h4 r hr).1).trans h1, ?_, fun q hq => ?_, fun q hq => ?_, h5, ?_⟩
  · rcases h2 with ⟨rfl, rfl⟩ | ⟨b, Dm, rfl, ho, hm⟩
    · cases hr
    · refine .inr ⟨b, Dm, rfl, ?_, hm.same hu hr hn hb⟩
      rw [putR_len_old hu ⟨r, hr, hn.symm⟩]
      obtain ⟨es, clock, e1, e2⟩ := ho
      exact ⟨es, clock, (hf.block b (Array.getElem?_eq_some_iff.1 e1).1 ((h4 r hr).2.1 b rfl)).trans e1, e2⟩
  · rcases putR_sub2 hu q hq with rfl | ⟨hq, hqn⟩
    · exact hat
    · exact (h3 q hq).fr hf (fun b hb2 hb3 => sp_of h6 hu hq hr (by rw [← hn]; exact hqn) b hb2 hb3)
  · rcases putR_sub2 hu q hq with rfl | ⟨hq, hqn⟩
    · refine ⟨fun hm => ?_, fun b hb2 hm => ?_, hne⟩
      · rcases hbl _ hm with h7 | h7
        · exact (h4 r hr).1 h7
        · omega
      · rcases hbl _ hm with h7 | h7
        · exact (h4 r hr).2.1 b hb2 h7
        · have := h2.lt b hb2; omega
    · exact h4 q hq
  · refine putR_pair (fun a b => Sp.symm) h6 (fun q hq hqn x hx hxq => ?_) hu
    rcases hbl x hx with h7 | h7
    · exact sp_of h6 hu hr hq (fun e => hqn (by rw [hn, e])) x h7 hxq
    · have := hlt x (mem_file hq hxq); omega
theorem mem_putR {r' : FR} (hu : rsUp rs) {r : FR} (hr : r ∈ rs) (hbl : ∀ b ∈ r'.bl, b ∈ r.bl ∨ w.heap.size ≤ b) : ∀ b ∈ allB p m (putR r' rs), b ∈ allB p m rs ∨ w.heap.size ≤ b := fun b hb => by
  simp only [allB, List.mem_cons, List.mem_append, List.mem_flatMap] at hb
  rcases hb with rfl | hb | ⟨q, hq, hb⟩
  · exact .inl mem_head
  · exact .inl (by simp only [allB, List.mem_cons, List.mem_append]; exact .inr (.inl hb))
  · rcases putR_sub2 hu q hq with rfl | ⟨hq, _⟩
    · rcases hbl b hb with h | h
      · exact .inl (mem_file hr h)
      · exact .inr h
    · exact .inl (mem_file hq hb)

/-- What turn answers for OK, and what the head holds behind it. -/
def tE (armed : Bool) (left : Int) : Int := if armed = true ∧ left = 0 then 9 else 0
def tL (armed : Bool) (left : Int) : Int := if armed = true ∧ left ≠ 0 then left - 1 else left
def tD (dead armed : Bool) (left : Int) : Bool := if armed = true ∧ left = 0 then true else dead
def tA (armed : Bool) (left : Int) : Bool := if armed = true ∧ left = 0 then false else armed
theorem turn_zero (h : DskR w p m rs room used left dead armed) (hl : 0 ≤ left ∧ left ≤ 9223372036854775807) :
    Calls Try.prog 67 #[.pointer (some ⟨p, 0, none⟩), .int .i64 0] w (RetHd w p (headV m room used (tL armed left) (tD dead armed left) (tA armed left)) (.int .i64 (tE armed left))) := by
  cases armed with
  | false =>
    have e1 : tE false left = 0 := by simp [tE]
    have e2 : tL false left = left := by simp [tL]
    have e3 : tD dead false left = dead := by simp [tD]
    have e4 : tA false left = false := by simp [tA]
    rw [e1, e2, e3, e4]
    refine (turn_free h).mono ?_
    rintro e w' ⟨rfl, rfl⟩
    exact ⟨rfl, Hd.refl h.1⟩
  | true =>
    by_cases h0 : left = 0
    · subst h0
      have e1 : tE true 0 = 9 := by simp [tE]
      have e2 : tL true 0 = 0 := by simp [tL]
      have e3 : tD dead true 0 = true := by simp [tD]
      have e4 : tA true 0 = false := by simp [tA]
      rw [e1, e2, e3, e4]
      exact turn_kill h
    · have e1 : tE true left = 0 := by simp [tE, h0]
      have e2 : tL true left = left - 1 := by simp [tL, h0]
      have e3 : tD dead true left = dead := by simp [tD, h0]
      have e4 : tA true left = true := by simp [tA, h0]
      rw [e1, e2, e3, e4]
      exact turn_step h (by omega) hl.2
theorem Rd.toV {A : Option Addr} {n : Nat} {xs : List UInt8} (h : Rd w A n xs) : RdV w A n (xs.map cv) := by
  refine ⟨by rw [List.length_map]; exact h.1, fun hn => ?_⟩
  obtain ⟨b, off, h1, h2, h3⟩ := h.2 hn
  refine ⟨b, off, h1, h2, fun i v hv => ?_⟩
  rw [List.getElem?_map] at hv
  cases hx : xs[i]? with
  | none => rw [hx] at hv; cases hv
  | some x =>
    rw [hx] at hv
    injection hv with hv
    subst hv
    exact h3 i x hx
end
end Go.Proofs.Ytcclhkoggijkaaa
namespace Go.Proofs.Ytcclhkoggijkaaa
open Go Go.RowKit

/-- What the reference's Get answers: an entry's values as they lie in the list. -/
def RetGl (w : World) (o : Option En) (e : Ending) (w' : World) : Prop :=
  (o = none ∧ e = .returned (.tuple #[.agg #[.slice none 0 0, .int .u64 0, .int .u8 0, .slice none 0 0], .bool false]) ∧ Below w.heap.size w w') ∨
  ∃ x v0 v1 v2 v3, o = some x ∧ e = .returned (.tuple #[.agg #[v0, v1, v2, v3], .bool true]) ∧ EV w' x v0 v1 v2 v3 ∧ Below w.heap.size w w'
theorem findL_at {key : List UInt8} {at_ k : Nat} {es : List En} {x : En} (h : findL key at_ (es.take k) = none) (hx : es[k]? = some x) (hk : (eqB x.key key && decide (x.seq ≤ at_)) = true) : findL key at_ es = some x := by
  have hlt := (List.getElem?_eq_some_iff.1 hx).1
  have e : es = es.take k ++ x :: es.drop (k + 1) := by
    have hd : es.drop k = x :: es.drop (k + 1) := by rw [List.drop_eq_getElem_cons hlt, (List.getElem?_eq_some_iff.1 hx).2]
    rw [← hd, List.take_append_drop]
  unfold findL at h ⊢
  rw [e, List.find?_append, h, List.find?_cons, hk]
  rfl
theorem findL_snoc {key : List UInt8} {at_ k : Nat} {es : List En} {x : En} (h : findL key at_ (es.take k) = none) (hx : es[k]? = some x) (hk : (eqB x.key key && decide (x.seq ≤ at_)) = false) : findL key at_ (es.take (k + 1)) = none := by
  unfold findL at h ⊢
  rw [List.take_add_one, hx, List.find?_append, h]
  simp only [Option.toList, List.find?_cons, hk]
  rfl
end Go.Proofs.Ytcclhkoggijkaaa
namespace Go.Proofs.Ytcclhkoggijkaaa
open Go Go.RowKit

/-- 'All memory that these values name lies in good blocks.' -/
def GV (G : Nat → Prop) (vs : List Value) : Prop := ∀ A m c g, Value.slice A m c ∈ vs → 0 < m → blk A = some g → G g
/-- 'The slice of n entries at A reads as these, and its memory lies in good blocks.' -/
def RG (G : Nat → Prop) (w : World) (A : Option Addr) (n : Nat) (es : List En) : Prop :=
  es.length = n ∧ ∃ vs, EVs w es vs ∧ RdV w A (n * 4) vs ∧ GV G vs ∧ (0 < n → ∀ g, blk A = some g → G g)
/-- 'What is good and was there stands.' -/
def FrG (G : Nat → Prop) (w w' : World) : Prop := w.heap.size ≤ w'.heap.size ∧ ∀ b, b < w.heap.size → G b → w'.heap[b]? = w.heap[b]?
section
variable {G H : Nat → Prop} {w w' w2 : World} {A : Option Addr} {n : Nat} {es gs : List En} {vs us : List Value}
theorem GV.app (h1 : GV G vs) (h2 : GV G us) : GV G (vs ++ us) := fun A m c g hv => by
  rcases List.mem_append.1 hv with h | h
  · exact h1 A m c g h
  · exact h2 A m c g h
theorem GV.nil : GV G [] := fun A m c g hv => by cases hv
theorem GV.sub (h : GV G vs) (hs : ∀ u ∈ us, u ∈ vs) : GV G us := fun A m c g hv => h A m c g (hs _ hv)
theorem GV.mono (h : GV G vs) (hs : ∀ g, G g → H g) : GV H vs := fun A m c g hv h0 hb => hs g (h A m c g hv h0 hb)
theorem RG.res (h : RG G w A n es) : REs w A n es := by
  obtain ⟨h1, vs, h2, h3, _⟩ := h
  exact REs.mk h2 h3 h1
theorem RG.len (h : RG G w A n es) : es.length = n := h.1
theorem RG.nil (G : Nat → Prop) (w : World) (A : Option Addr) : RG G w A 0 [] := ⟨rfl, [], rfl, RdV.nil _ _, GV.nil, fun h => absurd h (by omega)⟩
theorem RG.below (h : RG G w A n es) (hb : Below w.heap.size w w') : RG G w' A n es := by
  obtain ⟨h1, vs, h2, h3, h4⟩ := h
  exact ⟨h1, vs, h2.below hb, h3.below hb, h4⟩
theorem FrG.refl (G : Nat → Prop) (w : World) : FrG G w w := ⟨Nat.le_refl _, fun _ _ _ => rfl⟩
theorem FrG.trans (h : FrG G w w') (k : FrG G w' w2) : FrG G w w2 := ⟨Nat.le_trans h.1 k.1, fun b hb hg => (k.2 b (Nat.lt_of_lt_of_le hb h.1) hg).trans (h.2 b hb hg)⟩
theorem FrG.of_below (h : Below w.heap.size w w') : FrG G w w' := ⟨h.size, fun b hb _ => h.block b hb⟩
theorem FrG.of_grown {row : Option Nat} (h : w.grownBy w' row) (hr : ∀ g, row = some g → ¬ G g) : FrG G w w' := by
  obtain ⟨_, _, _, h4, h5⟩ := h
  exact ⟨h4, fun b hb hg => h5 b hb (fun e => hr b e.symm hg)⟩
theorem cell_of_heap {p : Addr} (h : w'.heap[p.block]? = w.heap[p.block]?) : w'.cell? p = w.cell? p := by
  unfold World.cell?
  rw [h]
theorem rd_good {xs : List UInt8} (h : Rd w A n xs) (hg : 0 < n → ∀ g, blk A = some g → G g) (hf : FrG G w w') : Rd w' A n xs := by
  refine ⟨h.1, fun hn => ?_⟩
  obtain ⟨b, off, rfl, h2, h3⟩ := h.2 hn
  exact ⟨b, off, rfl, Nat.lt_of_lt_of_le h2 hf.1, fun i x hx => (cell_of_heap (p := ⟨b, off + i, none⟩) (hf.2 b h2 (hg hn b rfl))).trans (h3 i x hx)⟩
theorem rdv_good (h : RdV w A n vs) (hg : 0 < n → ∀ g, blk A = some g → G g) (hf : FrG G w w') : RdV w' A n vs := by
  refine ⟨h.1, fun hn => ?_⟩
  obtain ⟨b, off, rfl, h2, h3⟩ := h.2 hn
  exact ⟨b, off, rfl, Nat.lt_of_lt_of_le h2 hf.1, fun i x hx => (cell_of_heap (p := ⟨b, off + i, none⟩) (hf.2 b h2 (hg hn b rfl))).trans (h3 i x hx)⟩
theorem ev_good {e : En} {v0 v1 v2 v3 : Value} (h : EV w e v0 v1 v2 v3) (hg : GV G [v0, v1, v2, v3]) (hf : FrG G w w') : EV w' e v0 v1 v2 v3 := by
  obtain ⟨h1, h2, h3, h4, ⟨K, kn, kc, rfl, r0, c0, d0⟩, ⟨V, vn, vc, rfl, r3, c3, d3⟩⟩ := h
  exact ⟨h1, h2, h3, h4, ⟨K, kn, kc, rfl, rd_good r0 (fun h0 g hb => hg K kn kc g (by simp) h0 hb) hf, c0, d0⟩, ⟨V, vn, vc, rfl, rd_good r3 (fun h0 g hb => hg V vn vc g (by simp) h0 hb) hf, c3, d3⟩⟩
theorem evs_good (hf : FrG G w w') : ∀ {es : List En} {vs : List Value}, EVs w es vs → GV G vs → EVs w' es vs
  | [], _, h, _ => h
  | _ :: _, _, ⟨v0, v1, v2, v3, r, e, h1, h2⟩, hg => ⟨v0, v1, v2, v3, r, e, ev_good h1 (hg.sub (fun u hu => by rw [e]; simp only [List.mem_cons, List.not_mem_nil, or_false] at hu ⊢; rcases hu with h | h | h | h <;> simp [h])) hf, evs_good hf h2 (hg.sub (fun u hu => by rw [e]; simp [hu]))⟩
/-- Behind whatever leaves the good blocks. -/
theorem RG.good (h : RG G w A n es) (hf : FrG G w w') : RG G w' A n es := by
  obtain ⟨h1, vs, h2, h3, h4, h5⟩ := h
  exact ⟨h1, vs, evs_good hf h2 h4, rdv_good h3 (fun h0 => h5 (by omega)) hf, h4, h5⟩
theorem ev_mem {e : En} {v0 v1 v2 v3 : Value} (h : EV w e v0 v1 v2 v3) {B : Option Addr} {m c : Nat} (hv : Value.slice B m c ∈ [v0, v1, v2, v3]) (h0 : 0 < m) {g : Nat} (hb : blk B = some g) : g < w.heap.size := by
  obtain ⟨K, kn, kc, V, vn, vc, rfl, rfl, rfl, rfl, r0, r3, _⟩ := h.parts
  simp only [List.mem_cons, List.not_mem_nil, or_false] at hv
  rcases hv with e | e | e | e
  · injection e with e1 e2 e3
    subst e1 e2
    obtain ⟨b, off, rfl, hl⟩ := r0.pos h0
    injection hb with hb
    rw [← hb]; exact hl
  · cases e
  · cases e
  · injection e with e1 e2 e3
    subst e1 e2
    obtain ⟨b, off, rfl, hl⟩ := r3.pos h0
    injection hb with hb
    rw [← hb]; exact hl
theorem evs_lt : ∀ {es : List En} {vs : List Value}, EVs w es vs → GV (fun g => g < w.heap.size) vs
  | [], _, h => by rw [h]; exact GV.nil
  | _ :: _, _, ⟨v0, v1, v2, v3, r, e, h1, h2⟩ => by
    rw [e]
    exact GV.app (vs := [v0, v1, v2, v3]) (fun A m c g hv h0 hb => ev_mem h1 hv h0 hb) (evs_lt h2)
/-- What is read lies in blocks that are there. -/
theorem REs.lt (h : REs w A n es) : RG (fun g => g < w.heap.size) w A n es := by
  obtain ⟨h1, vs, h2, h3⟩ := h
  refine ⟨h1, vs, h2, h3, evs_lt h2, fun h0 g hb => ?_⟩
  obtain ⟨b, off, rfl, hl⟩ := h3.pos (by omega)
  injection hb with hb
  rw [← hb]; exact hl
theorem RG.mono (h : RG G w A n es) (hs : ∀ g, G g → H g) : RG H w A n es := by
  obtain ⟨h1, vs, h2, h3, h4, h5⟩ := h
  exact ⟨h1, vs, h2, h3, h4.mono hs, fun h0 g hb => hs g (h5 h0 g hb)⟩
theorem RG.at_ {b off : Nat} (h : RG G w (some ⟨b, off, none⟩) n es) (k : Nat) (hk : k < n) :
    ∃ e v0 v1 v2 v3, es[k]? = some e ∧ w.cell? ⟨b, off + k * 4, none⟩ = some v0 ∧ w.cell? ⟨b, off + k * 4 + 1, none⟩ = some v1 ∧
      w.cell? ⟨b, off + k * 4 + 2, none⟩ = some v2 ∧ w.cell? ⟨b, off + k * 4 + 3, none⟩ = some v3 ∧ EV w e v0 v1 v2 v3 ∧ GV G [v0, v1, v2, v3] := by
  obtain ⟨h1, vs, h2, h3, h4, _⟩ := h
  obtain ⟨b', off', e, hb, hc⟩ := h3.2 (by omega)
  injection e with e
  injection e with e1 e2
  subst e1 e2
  obtain ⟨x, hx⟩ : ∃ x, es[k]? = some x := ⟨_, List.getElem?_eq_getElem (by omega)⟩
  obtain ⟨v0, v1, v2, v3, e0, e1, e2, e3, g0⟩ := h2.at_ k hx
  refine ⟨x, v0, v1, v2, v3, hx, hc _ _ e0, ?_, ?_, ?_, g0, h4.sub (fun u hu => ?_)⟩
  · rw [Nat.add_assoc]; exact hc _ _ e1
  · rw [Nat.add_assoc]; exact hc _ _ e2
  · rw [Nat.add_assoc]; exact hc _ _ e3
  · simp only [List.mem_cons, List.not_mem_nil, or_false] at hu
    rcases hu with rfl | rfl | rfl | rfl
    · exact List.mem_of_getElem? e0
    · exact List.mem_of_getElem? e1
    · exact List.mem_of_getElem? e2
    · exact List.mem_of_getElem? e3
end
/-- What PutAll answers. -/
def refPut (l xs : List En) : Int × List En := if checkE xs = 0 then match refIns l xs with | none => (7, l) | some l' => (0, l') else (checkE xs, l)
theorem refIns_snoc : ∀ (l xs : List En) (x : En), refIns l (xs ++ [x]) = (refIns l xs).bind (fun o => if inL o x then none else some (insL o x))
  | l, [], x => by simp [refIns]
  | l, y :: ys, x => by
    simp only [List.cons_append, refIns]
    by_cases h : inL l y = true
    · rw [if_pos h, if_pos h]; rfl
    · rw [if_neg h, if_neg h]
      exact refIns_snoc _ ys x
theorem refIns_none {l xs ys : List En} (h : refIns l xs = none) : refIns l (xs ++ ys) = none := by
  induction xs generalizing l with
  | nil => simp [refIns] at h
  | cons x xs ih =>
    simp only [List.cons_append, refIns] at h ⊢
    split at h
    · next h1 => rw [if_pos h1]
    · next h1 => rw [if_neg h1]; exact ih h
theorem refIns_len : ∀ {l o xs : List En}, refIns l xs = some o → o.length = l.length + xs.length
  | l, o, [], h => by injection h with h; subst h; simp
  | l, o, x :: xs, h => by
    unfold refIns at h
    split at h
    · cases h
    · have := refIns_len h
      rw [insL_len] at this
      simp only [List.length_cons]
      omega
theorem insL_mem {l : List En} {x y : En} (h : y ∈ insL l x) : y = x ∨ y ∈ l := by
  unfold insL at h
  rcases List.mem_append.1 h with h | h
  · exact .inr (List.mem_of_mem_take h)
  · rcases List.mem_cons.1 h with h | h
    · exact .inl h
    · exact .inr (List.mem_of_mem_drop h)
theorem refIns_mem : ∀ {l o xs : List En}, refIns l xs = some o → ∀ y ∈ o, y ∈ l ∨ y ∈ xs
  | l, o, [], h, y, hy => by injection h with h; subst h; exact .inl hy
  | l, o, x :: xs, h, y, hy => by
    unfold refIns at h
    split at h
    · cases h
    · rcases refIns_mem h y hy with q | q
      · rcases insL_mem q with q | q
        · exact .inr (by simp [q])
        · exact .inl q
      · exact .inr (by simp [q])
def RetPA (G : Nat → Prop) (w : World) (z : Int × List En) (e : Ending) (w' : World) : Prop :=
  ∃ L k d, e = .returned (.tuple #[.slice L k d, .int .i64 z.1]) ∧ RG G w' L k z.2 ∧ k ≤ d ∧ Below w.heap.size w w'
theorem RetPA.out {G : Nat → Prop} {w : World} {z : Int × List En} {e : Ending} {w' : World} (h : RetPA G w z e w') : ∃ L k d, e = .returned (.tuple #[.slice L k d, .int .i64 z.1]) ∧ RG G w' L k z.2 ∧ k ≤ d ∧ Below w.heap.size w w' := h
theorem refPut_bad {l xs : List En} (h : checkE xs ≠ 0) : refPut l xs = (checkE xs, l) := by unfold refPut; rw [if_neg h]
theorem refPut_none {l xs : List En} (h : checkE xs = 0) (h2 : refIns l xs = none) : refPut l xs = (7, l) := by unfold refPut; rw [if_pos h, h2]
theorem refPut_some {l xs o : List En} (h : checkE xs = 0) (h2 : refIns l xs = some o) : refPut l xs = (0, o) := by unfold refPut; rw [if_pos h, h2]
end Go.Proofs.Ytcclhkoggijkaaa
namespace Go.Proofs.Ytcclhkoggijkaaa
open Go Go.RowKit

/-- Blocks of other kinds are other blocks. -/
theorem row_ne {t1 t2 : TypeId} {s1 s2 : Nat} {w : World} {b1 b2 n c m d : Nat} {L A : Option Addr} {i j : Nat} {vs us : List Value} (h : w.ownsRow b1 t1 s1 (.slice L n c) i vs) (k : w.ownsRow b2 t2 s2 (.slice A m d) j us) (hne : t1 ≠ t2) : Dj L A := fun b e1 e2 => by
  rcases h.2 with ⟨h1, _⟩ | ⟨g, cap, cur, h1, _, hg, _⟩
  · injection h1 with h1
    rw [h1] at e1; cases e1
  · injection h1 with h1
    rw [h1] at e1
    injection e1 with e1
    rcases k.2 with ⟨k1, _⟩ | ⟨g2, cap2, cur2, k1, _, kg, _⟩
    · injection k1 with k1
      rw [k1] at e2; cases e2
    · injection k1 with k1
      rw [k1] at e2
      injection e2 with e2
      simp only at e1 e2
      subst e1 e2
      rw [hg] at kg
      injection kg with kg
      injection kg with _ kg
      exact hne kg
theorem ownV_ne {t : TypeId} {w : World} {b1 b2 n c m d : Nat} {L A : Option Addr} {vs : List Value} {xs : List UInt8} (h : OwnV t w b1 L n c vs) (k : Own 5 w b2 A m d xs) (hne : t ≠ 5) : Dj L A := row_ne h k hne
theorem cl_row {ty t : TypeId} {s : Nat} {w : World} {p b2 m d j : Nat} {A : Option Addr} {us : Array Value} {vs : List Value} (h : Cl w p us ty) (k : w.ownsRow b2 t s (.slice A m d) j vs) (hne : ty ≠ t) : blk A ≠ some p := fun e2 => by
  rcases k.2 with ⟨k1, _⟩ | ⟨g2, cap2, cur2, k1, _, kg, _⟩
  · injection k1 with k1
    rw [k1] at e2; cases e2
  · injection k1 with k1
    rw [k1] at e2
    injection e2 with e2
    simp only at e2
    subst e2
    unfold Cl at h
    rw [h] at kg
    injection kg with kg
    injection kg with _ kg
    exact hne kg
theorem cl_ne {ty : TypeId} {w : World} {p b2 m d : Nat} {A : Option Addr} {us : Array Value} {xs : List UInt8} (h : Cl w p us ty) (k : Own 5 w b2 A m d xs) (hne : ty ≠ 5) : blk A ≠ some p := cl_row h k hne
theorem Cl.grown {w w' : World} {p : Nat} {us : Array Value} {ty : TypeId} {row : Option Nat} (h : Cl w p us ty) (hg : w.grownBy w' row) (hne : row ≠ some p) : Cl w' p us ty := by
  obtain ⟨_, _, _, h4, h5⟩ := hg
  exact (h5 p h.lt (fun e => hne e.symm)).trans h
theorem rdPre2 {e : TypeId} {w : World} {base g n k : Nat} {xs : List UInt8} (h : Own e w base (some ⟨g, 0, none⟩) (n + 40) (n + 40) (xs ++ room n k)) (hx : xs.length = n) : Rd w (some ⟨g, 0, none⟩) n xs := by
  have := (h.prefix n (by omega) (by simp)).rd
  rw [List.take_left' hx] at this
  exact this
theorem ownV_box2 (w : World) (t : TypeId) (base : Nat) (vs : List Value) (n : Nat) (hl : vs.length = n) (hn : n ≤ 1024) (hb : base ≤ w.heap.size) (cs : Array Value) (hc : cs = vs.toArray) : OwnV t (w.alloc (.cells cs t)) base (some ⟨w.heap.size, 0, none⟩) n n vs := by
  subst hc
  refine ⟨by simp [hl], .inr ⟨w.heap.size, n, vs.toArray, rfl, hb, heap_alloc_new w _, Nat.le_refl _, by unfold maxLen; omega, by simp [hl], ?_⟩⟩
  simp only [Nat.mul_one]
  exact List.take_of_length_le (by simp [hl])
theorem mem_own2 {w : World} {base : Nat} {ps : List VB} (h : Fam w base ps) {A : Option Addr} {m c : Nat} {xs : List UInt8} (hp : (Value.slice A m c, xs) ∈ ps) : Own 5 w base A m c xs := by
  obtain ⟨A', m', c', e, ho⟩ := h.1 _ hp
  injection e with e1 e2 e3
  subst e1 e2 e3
  exact ho
section
variable {w w' : World} {base : Nat} {ps qs : List VB}
theorem Fam.off_cl (h : Fam w base ps) {p : Nat} {us : Array Value} {ty : TypeId} (hp : Cl w p us ty) (hne : ty ≠ 5) : OffF ps p := fun q hq e => by
  obtain ⟨A, m, c, e1, ho⟩ := h.1 q hq
  rw [e1, own_blk] at e
  exact cl_ne hp ho hne e
theorem Fam.off_row (h : Fam w base ps) {t : TypeId} {b1 n c : Nat} {L : Option Addr} {vs : List Value} (hl : OwnV t w b1 L n c vs) (hne : t ≠ 5) : ∀ b, blk L = some b → OffF ps b := fun b hb q hq e => by
  obtain ⟨A, m, d, e1, ho⟩ := h.1 q hq
  rw [e1, own_blk] at e
  exact ownV_ne hl ho hne b hb e
theorem Fam.perm (h : Fam w base ps) (hp : ps.Perm qs) : Fam w base qs :=
  ⟨fun p hq => h.1 p (hp.mem_iff.2 hq), h.2.perm hp (fun {_ _} hab => Ap.symm hab)⟩
theorem Fam.app {base' : Nat} (h : Fam w base ps) (hn : Fam w' base' qs) (hb : Below w.heap.size w w') (h1 : w.heap.size ≤ base') (h2 : base ≤ base') : Fam w' base (ps ++ qs) := by
  have h0 : Fam w base (ps ++ []) := by rw [List.append_nil]; exact h
  have := Fam.ins h0 hn hb h1 h2
  rw [List.append_nil] at this
  exact this
theorem OffF.app {p : Nat} (h : OffF ps p) (k : OffF qs p) : OffF (ps ++ qs) p := fun q hq => by
  rcases List.mem_append.1 hq with h1 | h1
  · exact h q h1
  · exact k q h1
end
/-- One values more appended onto a row of one-cell values at a step of a region that draws its order. -/
theorem step_appV {P : Program} (w : World) {ops : Array Oper} {o : Oper} {a : Act} {K : Act → World → Prop} {Q : Exit → Act → World → Prop} {E : Prop} (hgd : o.guard = none) (s x : Operand) (tt : TypeId)
    (ho : o.op = .call { callee := .builtin .append, args := #[s, x], argTypes := #[tt, tt] })
    (base : Nat) (t : TypeId) (z : Value) (by_ : Nat) (ht : P.underlying tt = some (.slice t)) (hi : (P.info? t).map (fun i => (i.zero, i.size, i.bytes)) = some (some z, 1, by_)) (hz1 : z.cells.size = 1)
    (A : Option Addr) (n c : Nat) (vs : List Value) (hs : a.eval s = .slice A n c) (hown : OwnV t w base A n c vs)
    (ad : Addr) (m d : Nat) (ys : List Value) (hx : a.eval x = .slice (some ad) m d) (hr : RdV w (some ad) m ys) (hm : 0 < m) (h1 : ∀ u ∈ ys, u.oneCell' = true)
    (hn : n + m ≤ maxLen) (hby : (n + m) * by_ ≤ 140737488355328) (hbase : base ≤ w.heap.size)
    (h : ∀ A' c' w', OwnV t w' base A' (n + m) c' (vs ++ ys) → w.grownBy w' (blk A) → K (a.put o.dst (.slice A' (n + m) c')) w') :
    if Region.wanted o (yielded ops a.tmps) = true then Oper.wp P o a w K Q else E := by
  have hw : Region.wanted o (yielded ops a.tmps) = true := by simp [Region.wanted, hgd]
  rw [if_pos hw]
  obtain ⟨i, hi, hz, hsz, hby2⟩ := info_parts hi
  obtain ⟨b, off, e, _, hc⟩ := hr.2 hm
  injection e with e
  subst e
  refine wp_append_own w s x tt ho base t i z 1 by_ ht hi hz hsz hby2 hz1 (by decide) (.slice A n c) n vs hs hown ⟨b, off, none⟩ m d ys hx (by simp [hr.1]) (fun j u hj => by rw [Addr.add_lit]; exact hc j u hj) h1 hn hby hbase ?_
  intro v' w' k1 k2 _
  obtain ⟨A', c', rfl⟩ : ∃ A' c', v' = .slice A' (n + m) c' := by
    rcases k1.2 with ⟨h3, h4⟩ | ⟨g, cap, cur, h3, _⟩
    · exact ⟨none, 0, by rw [h3, h4]⟩
    · exact ⟨_, _, h3⟩
  rw [own_blk] at k2
  exact h A' c' w' k1 k2
/-- Two lists of pairs, a pair of each by turns. -/
def inter {α : Type} : List α → List α → List α
  | a :: b :: r, c :: d :: s => a :: b :: c :: d :: inter r s
  | _, _ => []
theorem four_of {vs : List Value} {k : Nat} (h : vs.length = (k + 1) * 4) : ∃ v0 v1 v2 v3 r, vs = v0 :: v1 :: v2 :: v3 :: r ∧ r.length = k * 4 := by
  match vs, h with
  | [], h => simp at h
  | [_], h => simp at h; omega
  | [_, _], h => simp at h; omega
  | [_, _, _], h => simp at h; omega
  | a :: b :: c :: d :: r, h => exact ⟨a, b, c, d, r, rfl, by simp only [List.length_cons] at h; omega⟩
theorem inter_perm : ∀ (es : List En) {vs us : List Value}, vs.length = es.length * 4 → us.length = es.length * 4 → (pairE es vs ++ pairE es us).Perm (inter (pairE es vs) (pairE es us))
  | [], vs, us, _, _ => by simp [pairE, inter]
  | e :: es, vs, us, h1, h2 => by
    obtain ⟨v0, v1, v2, v3, r, rfl, hr⟩ := four_of h1
    obtain ⟨u0, u1, u2, u3, s, rfl, hs⟩ := four_of h2
    have ih := inter_perm es (vs := r) (us := s) hr hs
    simp only [pairE, inter, List.cons_append]
    refine .cons _ (.cons _ ?_)
    refine List.Perm.trans ?_ (.cons _ (.cons _ ih))
    have p1 : (pairE es r ++ (u0, e.key) :: (u3, e.val) :: pairE es s).Perm ((u0, e.key) :: (pairE es r ++ (u3, e.val) :: pairE es s)) := List.perm_middle
    exact p1.trans (.cons _ List.perm_middle)
theorem inter_take : ∀ (es : List En) {vs us : List Value} (i : Nat) {v0 v3 u0 u3 : Value}, vs.length = es.length * 4 → us.length = es.length * 4 → vs[i * 4]? = some v0 → vs[i * 4 + 3]? = some v3 → us[i * 4]? = some u0 → us[i * 4 + 3]? = some u3 → i < es.length →
    ((inter (pairE es vs) (pairE es us)).take (4 * (i + 1))).map (·.1) = ((inter (pairE es vs) (pairE es us)).take (4 * i)).map (·.1) ++ [v0, v3, u0, u3]
  | [], _, _, i, _, _, _, _, _, _, _, _, _, _, hi => by simp at hi
  | e :: es, vs, us, i, v0, v3, u0, u3, hv, hu, h0, h3, k0, k3, hi => by
    obtain ⟨x0, x1, x2, x3, r, rfl, hr⟩ := four_of hv
    obtain ⟨y0, y1, y2, y3, s, rfl, hs⟩ := four_of hu
    cases i with
    | zero =>
      simp at h0 h3 k0 k3
      subst h0 h3 k0 k3
      simp [pairE, inter]
    | succ i =>
      simp only [List.length_cons] at hi
      have e0 : (i + 1) * 4 = i * 4 + 4 := by omega
      have e3 : (i + 1) * 4 + 3 = i * 4 + 3 + 4 := by omega
      rw [e0] at h0 k0
      rw [e3] at h3 k3
      have ih := inter_take es (vs := r) (us := s) i hr hs (by simpa using h0) (by simpa using h3) (by simpa using k0) (by simpa using k3) (by omega)
      have e4 : 4 * (i + 1 + 1) = 4 * (i + 1) + 4 := by omega
      have e5 : 4 * (i + 1) = 4 * i + 4 := by omega
      simp only [pairE, inter]
      rw [e4]
      simp only [List.take_succ_cons, List.map_cons]
      rw [ih, e5]
      simp only [List.take_succ_cons, List.map_cons, List.cons_append]
theorem pairE_len : ∀ (es : List En) {vs : List Value}, vs.length = es.length * 4 → (pairE es vs).length = es.length * 2
  | [], vs, h => by simp [pairE]
  | e :: es, vs, h => by
    obtain ⟨x0, x1, x2, x3, r, rfl, hr⟩ := four_of h
    have := pairE_len es (vs := r) hr
    simp only [pairE, List.length_cons]
    omega
theorem inter_all (es : List En) {vs us : List Value} (hv : vs.length = es.length * 4) (hu : us.length = es.length * 4) : (inter (pairE es vs) (pairE es us)).take (4 * es.length) = inter (pairE es vs) (pairE es us) := by
  have h := (inter_perm es hv hu).length_eq
  rw [List.length_append, pairE_len es hv, pairE_len es hu] at h
  exact List.take_of_length_le (by omega)
theorem pairE_sz : ∀ {es : List En} {vs : List Value} {q : VB}, q ∈ pairE es vs → ∃ e ∈ es, q.2 = e.key ∨ q.2 = e.val
  | e :: es, x0 :: x1 :: x2 :: x3 :: r, q, h => by
    unfold pairE at h
    simp only [List.mem_cons] at h
    rcases h with rfl | rfl | h
    · exact ⟨e, by simp, .inl rfl⟩
    · exact ⟨e, by simp, .inr rfl⟩
    · obtain ⟨x, hx, k⟩ := pairE_sz h
      exact ⟨x, by simp [hx], k⟩
theorem ownE_kept {w w' : World} {base n c : Nat} {A : Option Addr} {vs : List Value} {row : Option Nat} (h : OwnE w base A n c vs) (hg : w.grownBy w' row) (hne : ∀ b, blk A = some b → row ≠ some b) : OwnE w' base A n c vs := by
  refine World.ownsRow.kept h hg ?_
  rw [own_blk]
  cases hb : blk A with
  | none => exact .inl rfl
  | some b => exact .inr (fun e => hne b hb e.symm)
theorem eos_of_fam {w0 w : World} {b0 base : Nat} : ∀ {es : List En} {vs : List Value}, EOs b0 w0 es vs → (∀ q ∈ pairE es vs, ∃ A m c, q.1 = .slice A m c ∧ Own 5 w base A m c q.2) → EOs base w es vs
  | [], _, h, _ => h
  | e :: es, _, h, hf => by
    obtain ⟨v0, v1, v2, v3, r, rfl, ⟨K, kn, kc, V, vn, vc, rfl, rfl, rfl, rfl, o1, o2, u⟩, h2⟩ := h
    obtain ⟨A, m, c, e1, p1⟩ := hf (.slice K kn kc, e.key) (by simp [pairE])
    obtain ⟨B, n, d, e2, p2⟩ := hf (.slice V vn vc, e.val) (by simp [pairE])
    have p1' : Own 5 w base K kn kc e.key := by
      have e1' : Value.slice K kn kc = Value.slice A m c := e1
      injection e1' with a1 a2 a3
      subst a1 a2 a3
      exact p1
    have p2' : Own 5 w base V vn vc e.val := by
      have e2' : Value.slice V vn vc = Value.slice B n d := e2
      injection e2' with a1 a2 a3
      subst a1 a2 a3
      exact p2
    exact ⟨_, _, _, _, r, rfl, ⟨K, kn, kc, V, vn, vc, rfl, rfl, rfl, rfl, p1', p2', u⟩, eos_of_fam h2 (fun q hq => hf q (by simp [pairE, hq]))⟩
theorem long_ok {x : En} (h : okE x = true) : x.key.length ≤ 1024 ∧ x.val.length ≤ 65536 := by
  have := (okE_iff.1 h).1
  unfold longE at this
  simp at this
  omega
end Go.Proofs.Ytcclhkoggijkaaa
namespace Go.Proofs.Ytcclhkoggijkaaa
open Go Go.RowKit

set_option maxRecDepth 100000 in
set_option maxHeartbeats 4000000 in
theorem mgInOrder_any {w : World} {A : Option Addr} {n c : Nat} {es : List En} (h : REs w A n es) (hn : n ≤ 1099511627776) : Calls Try.prog 165 #[.slice A n c] w (RetT w (ordE es)) := by
  have HL := Lib.hid h.len
  have HR := Lib.hid h
  clear h
  go_enter Try.func165, Try.ntmps165
  go_wp2_with fail
  go_loopw [3] (fun s3 wr => ∃ i : Nat, (i < n ∨ i = 0) ∧ s3 = .int .i64 ((i + 1 : Nat) : Int) ∧ ordK es i = true ∧ Below w.heap.size w wr) (fun s _ => n + 1 - (intOf s).toNat)
  case atStart => exact ⟨0, .inr rfl, rfl, rfl, Below.refl _ _⟩
  case round =>
    obtain ⟨i, hi, rfl, ho, hB⟩ := hrel
    have HB := Lib.hid hB
    have HO := Lib.hid ho
    have hR := HR.out.below hB
    clear hB ho
    obtain ⟨k, hk⟩ : ∃ k, k = i + 1 := ⟨_, rfl⟩
    rw [← hk]
    by_cases hlt : k < n
    · obtain ⟨b, off, hAb, hbl⟩ := hR.pos (by omega)
      subst hAb
      obtain ⟨x, v0, v1, v2, v3, hx, c0, c1, c2, c3, hev⟩ := hR.at_ i (by omega)
      obtain ⟨y, u0, u1, u2, u3, hy, d0, d1, d2, d3, hew⟩ := hR.at_ k hlt
      have HL1 : Hid (∀ wx, Below wr.heap.size wr wx → Calls Try.prog 80 #[.agg #[v0, v1, v2, v3], .agg #[u0, u1, u2, u3]] wx (RetT wx (lessE x y))) := Lib.hid (fun wx hb => memLess_any (hev.below hb) (hew.below hb))
      have HSX : Hid (∀ wx, Below wr.heap.size wr wx → wx.cell? ⟨b, off + i * 4, none⟩ = some v0 ∧ wx.cell? ⟨b, off + i * 4 + 1, none⟩ = some v1 ∧ wx.cell? ⟨b, off + i * 4 + 2, none⟩ = some v2 ∧ wx.cell? ⟨b, off + i * 4 + 3, none⟩ = some v3 ∧ wx.cell? ⟨b, off + k * 4, none⟩ = some u0 ∧ wx.cell? ⟨b, off + k * 4 + 1, none⟩ = some u1 ∧ wx.cell? ⟨b, off + k * 4 + 2, none⟩ = some u2 ∧ wx.cell? ⟨b, off + k * 4 + 3, none⟩ = some u3) := Lib.hid (fun wx h =>
        ⟨(h.cell (p := ⟨b, off + i * 4, none⟩) hbl).trans c0, (h.cell (p := ⟨b, off + i * 4 + 1, none⟩) hbl).trans c1, (h.cell (p := ⟨b, off + i * 4 + 2, none⟩) hbl).trans c2, (h.cell (p := ⟨b, off + i * 4 + 3, none⟩) hbl).trans c3, (h.cell (p := ⟨b, off + k * 4, none⟩) hbl).trans d0, (h.cell (p := ⟨b, off + k * 4 + 1, none⟩) hbl).trans d1, (h.cell (p := ⟨b, off + k * 4 + 2, none⟩) hbl).trans d2, (h.cell (p := ⟨b, off + k * 4 + 3, none⟩) hbl).trans d3⟩)
      have hB0 : Below wr.heap.size wr wr.drew := (Below.refl _ _).drew
      have hk1 : IntKind.i64.wrap ((k : Int) - 1) = (i : Int) := by rw [IntWalk.i64_in _ (by omega)]; omega
      have hin : i < n := by omega
      have HST : Hid (ordK es k = (ordK es i && lessE x y)) := Lib.hid (by rw [hk]; exact ordK_step hx (by rw [← hk]; exact hy))
      have HKI := Lib.hid hk
      obtain ⟨z, hz⟩ : ∃ z, z = lessE x y := ⟨_, rfl⟩
      rw [← hz] at HL1 HST
      clear hR hx hev hy hew hz hk
      cases z with
      | true =>
        go_wp2_with fail
        go_region_held3 (fun wx => wx.cell? ⟨b, off + i * 4, none⟩ = some v0 ∧ wx.cell? ⟨b, off + i * 4 + 1, none⟩ = some v1 ∧ wx.cell? ⟨b, off + i * 4 + 2, none⟩ = some v2 ∧ wx.cell? ⟨b, off + i * 4 + 3, none⟩ = some v3 ∧ wx.cell? ⟨b, off + k * 4, none⟩ = some u0 ∧ wx.cell? ⟨b, off + k * 4 + 1, none⟩ = some u1 ∧ wx.cell? ⟨b, off + k * 4 + 2, none⟩ = some u2 ∧ wx.cell? ⟨b, off + k * 4 + 3, none⟩ = some u3) (first | assumption | exact HSX.out _ hB0)
          (first | (go_at_call 80; with_reducible refine (HL1.out _ (by assumption)).mono ?_; intro e1 wn hq; obtain ⟨h1, bn⟩ := RetT.outD hq; subst h1; have bn' := belowT' (by assumption : Below wr.heap.size wr _) bn; have hS1 := HSX.out _ bn'))
        all_goals
          have HBN : Hid (Below w.heap.size w _) := Lib.hid (HB.out.trans ((by assumption : Below wr.heap.size wr wn).mono HB.out.size))
          go_wp2_with fail
          go_roundw
          case rel => exact ⟨k, .inl hlt, by go_num, by rw [HST.out, HO.out]; rfl, HBN.out⟩
          case measure => simp [intOf]; omega
      | false =>
        go_wp2_with fail
        go_region_held3 (fun wx => wx.cell? ⟨b, off + i * 4, none⟩ = some v0 ∧ wx.cell? ⟨b, off + i * 4 + 1, none⟩ = some v1 ∧ wx.cell? ⟨b, off + i * 4 + 2, none⟩ = some v2 ∧ wx.cell? ⟨b, off + i * 4 + 3, none⟩ = some v3 ∧ wx.cell? ⟨b, off + k * 4, none⟩ = some u0 ∧ wx.cell? ⟨b, off + k * 4 + 1, none⟩ = some u1 ∧ wx.cell? ⟨b, off + k * 4 + 2, none⟩ = some u2 ∧ wx.cell? ⟨b, off + k * 4 + 3, none⟩ = some u3) (first | assumption | exact HSX.out _ hB0)
          (first | (go_at_call 80; with_reducible refine (HL1.out _ (by assumption)).mono ?_; intro e1 wn hq; obtain ⟨h1, bn⟩ := RetT.outD hq; subst h1; have bn' := belowT' (by assumption : Below wr.heap.size wr _) bn; have hS1 := HSX.out _ bn'))
        all_goals
          have HBN : Hid (Below w.heap.size w _) := Lib.hid (HB.out.trans ((by assumption : Below wr.heap.size wr wn).mono HB.out.size))
          have HFIN : Hid (ordE es = false) := Lib.hid (by
            have h1 := HST.out
            rw [Bool.and_false] at h1
            exact ordK_false h1 _ (by rw [HL.out]; omega))
          go_wp2_with fail
          go_ret
          exact ⟨by rw [HFIN.out]; rfl, HBN.out⟩
    · have HFIN : Hid (ordE es = true) := Lib.hid (by
        have h1 := HO.out
        unfold ordE
        rw [HL.out]
        obtain rfl : n - 1 = i := by omega
        exact h1)
      go_wp2_with fail
      go_ret
      exact ⟨by rw [HFIN.out]; rfl, HB.out⟩
set_option maxRecDepth 100000 in
set_option maxHeartbeats 4000000 in
theorem ordered_any {w : World} {A : Option Addr} {n c : Nat} {es : List En} (h : REs w A n es) (hn : n ≤ 1099511627776) (hs : ∀ x ∈ es, SzE x) : Calls Try.prog 60 #[.slice A n c] w (RetT w (ordE es)) := by
  have HL := Lib.hid h.len
  have HR := Lib.hid h
  have HSZ := Lib.hid hs
  clear h hs
  go_enter Try.func60, Try.ntmps60
  go_wp2_with fail
  go_loopw [3] (fun s3 wr => ∃ i : Nat, (i < n ∨ i = 0) ∧ s3 = .int .i64 ((i + 1 : Nat) : Int) ∧ ordK es i = true ∧ Below w.heap.size w wr) (fun s _ => n + 1 - (intOf s).toNat)
  case atStart => exact ⟨0, .inr rfl, rfl, rfl, Below.refl _ _⟩
  case round =>
    obtain ⟨i, hi, rfl, ho, hB⟩ := hrel
    have HB := Lib.hid hB
    have HO := Lib.hid ho
    have hR := HR.out.below hB
    clear hB ho
    obtain ⟨k, hk⟩ : ∃ k, k = i + 1 := ⟨_, rfl⟩
    rw [← hk]
    by_cases hlt : k < n
    · obtain ⟨b, off, hAb, hbl⟩ := hR.pos (by omega)
      subst hAb
      obtain ⟨x, v0, v1, v2, v3, hx, c0, c1, c2, c3, hev⟩ := hR.at_ i (by omega)
      obtain ⟨y, u0, u1, u2, u3, hy, d0, d1, d2, d3, hew⟩ := hR.at_ k hlt
      have HL1 : Hid (∀ wx, Below wr.heap.size wr wx → Calls Try.prog 118 #[.agg #[v0, v1, v2, v3], .agg #[u0, u1, u2, u3]] wx (RetT wx (lessE x y))) := Lib.hid (fun wx hb => refLess_any (hev.below hb) (hew.below hb) (HSZ.out x (List.mem_of_getElem? hx)) (HSZ.out y (List.mem_of_getElem? hy)))
      have HSX : Hid (∀ wx, Below wr.heap.size wr wx → wx.cell? ⟨b, off + i * 4, none⟩ = some v0 ∧ wx.cell? ⟨b, off + i * 4 + 1, none⟩ = some v1 ∧ wx.cell? ⟨b, off + i * 4 + 2, none⟩ = some v2 ∧ wx.cell? ⟨b, off + i * 4 + 3, none⟩ = some v3 ∧ wx.cell? ⟨b, off + k * 4, none⟩ = some u0 ∧ wx.cell? ⟨b, off + k * 4 + 1, none⟩ = some u1 ∧ wx.cell? ⟨b, off + k * 4 + 2, none⟩ = some u2 ∧ wx.cell? ⟨b, off + k * 4 + 3, none⟩ = some u3) := Lib.hid (fun wx h =>
        ⟨(h.cell (p := ⟨b, off + i * 4, none⟩) hbl).trans c0, (h.cell (p := ⟨b, off + i * 4 + 1, none⟩) hbl).trans c1, (h.cell (p := ⟨b, off + i * 4 + 2, none⟩) hbl).trans c2, (h.cell (p := ⟨b, off + i * 4 + 3, none⟩) hbl).trans c3, (h.cell (p := ⟨b, off + k * 4, none⟩) hbl).trans d0, (h.cell (p := ⟨b, off + k * 4 + 1, none⟩) hbl).trans d1, (h.cell (p := ⟨b, off + k * 4 + 2, none⟩) hbl).trans d2, (h.cell (p := ⟨b, off + k * 4 + 3, none⟩) hbl).trans d3⟩)
      have hB0 : Below wr.heap.size wr wr.drew := (Below.refl _ _).drew
      have hk1 : IntKind.i64.wrap ((k : Int) - 1) = (i : Int) := by rw [IntWalk.i64_in _ (by omega)]; omega
      have hin : i < n := by omega
      have HST : Hid (ordK es k = (ordK es i && lessE x y)) := Lib.hid (by rw [hk]; exact ordK_step hx (by rw [← hk]; exact hy))
      have HKI := Lib.hid hk
      obtain ⟨z, hz⟩ : ∃ z, z = lessE x y := ⟨_, rfl⟩
      rw [← hz] at HL1 HST
      clear hR hx hev hy hew hz hk
      cases z with
      | true =>
        go_wp2_with fail
        go_region_held3 (fun wx => wx.cell? ⟨b, off + i * 4, none⟩ = some v0 ∧ wx.cell? ⟨b, off + i * 4 + 1, none⟩ = some v1 ∧ wx.cell? ⟨b, off + i * 4 + 2, none⟩ = some v2 ∧ wx.cell? ⟨b, off + i * 4 + 3, none⟩ = some v3 ∧ wx.cell? ⟨b, off + k * 4, none⟩ = some u0 ∧ wx.cell? ⟨b, off + k * 4 + 1, none⟩ = some u1 ∧ wx.cell? ⟨b, off + k * 4 + 2, none⟩ = some u2 ∧ wx.cell? ⟨b, off + k * 4 + 3, none⟩ = some u3) (first | assumption | exact HSX.out _ hB0)
          (first | (go_at_call 118; with_reducible refine (HL1.out _ (by assumption)).mono ?_; intro e1 wn hq; obtain ⟨h1, bn⟩ := RetT.outD hq; subst h1; have bn' := belowT' (by assumption : Below wr.heap.size wr _) bn; have hS1 := HSX.out _ bn'))
        all_goals
          have HBN : Hid (Below w.heap.size w _) := Lib.hid (HB.out.trans ((by assumption : Below wr.heap.size wr wn).mono HB.out.size))
          go_wp2_with fail
          go_roundw
          case rel => exact ⟨k, .inl hlt, by go_num, by rw [HST.out, HO.out]; rfl, HBN.out⟩
          case measure => simp [intOf]; omega
      | false =>
        go_wp2_with fail
        go_region_held3 (fun wx => wx.cell? ⟨b, off + i * 4, none⟩ = some v0 ∧ wx.cell? ⟨b, off + i * 4 + 1, none⟩ = some v1 ∧ wx.cell? ⟨b, off + i * 4 + 2, none⟩ = some v2 ∧ wx.cell? ⟨b, off + i * 4 + 3, none⟩ = some v3 ∧ wx.cell? ⟨b, off + k * 4, none⟩ = some u0 ∧ wx.cell? ⟨b, off + k * 4 + 1, none⟩ = some u1 ∧ wx.cell? ⟨b, off + k * 4 + 2, none⟩ = some u2 ∧ wx.cell? ⟨b, off + k * 4 + 3, none⟩ = some u3) (first | assumption | exact HSX.out _ hB0)
          (first | (go_at_call 118; with_reducible refine (HL1.out _ (by assumption)).mono ?_; intro e1 wn hq; obtain ⟨h1, bn⟩ := RetT.outD hq; subst h1; have bn' := belowT' (by assumption : Below wr.heap.size wr _) bn; have hS1 := HSX.out _ bn'))
        all_goals
          have HBN : Hid (Below w.heap.size w _) := Lib.hid (HB.out.trans ((by assumption : Below wr.heap.size wr wn).mono HB.out.size))
          have HFIN : Hid (ordE es = false) := Lib.hid (by
            have h1 := HST.out
            rw [Bool.and_false] at h1
            exact ordK_false h1 _ (by rw [HL.out]; omega))
          go_wp2_with fail
          go_ret
          exact ⟨by rw [HFIN.out]; rfl, HBN.out⟩
    · have HFIN : Hid (ordE es = true) := Lib.hid (by
        have h1 := HO.out
        unfold ordE
        rw [HL.out]
        obtain rfl : n - 1 = i := by omega
        exact h1)
      go_wp2_with fail
      go_ret
      exact ⟨by rw [HFIN.out]; rfl, HB.out⟩
section
variable {w : World} {a : En} {v0 v1 v2 v3 : Value}
set_option maxRecDepth 100000 in
set_option maxHeartbeats 4000000 in
theorem mgEntry_any (ha : EV w a v0 v1 v2 v3) (sa : SzE a) : Calls Try.prog 170 #[.agg #[v0, v1, v2, v3]] w (RetEn w a) := by
  obtain ⟨K, kn, kc, V, vn, vc, rfl, rfl, rfl, rfl, r0, r3, c0, c3, d0, d3, s1, s2⟩ := ha.parts
  have l1 := r0.len
  have l2 := r3.len
  have hk : kn ≤ 140737488355328 := by have := sa.1; omega
  have hv : vn ≤ 140737488355328 := by have := sa.2; omega
  have R0 := Lib.hid r0
  have R3 := Lib.hid r3
  have HD0 := Lib.hid d0
  have HD3 := Lib.hid d3
  clear ha r0 r3 d0 d3
  go_enter Try.func170, Try.ntmps170
  go_upto_region 1 with (fail)
  obtain ⟨W, hW⟩ : ∃ W, W = (w.alloc (.cells #[.slice K kn kc, .int .u64 (a.seq : Int), .int .u8 (a.kind : Int), .slice V vn vc] 37)).alloc (.cells #[.slice none 0 0, .int .u64 0, .int .u8 0, .slice none 0 0] 37) := ⟨_, rfl⟩
  rw [← hW]
  have bW : Below w.heap.size w W := by rw [hW]; exact ((Below.refl _ _).alloc (Nat.le_refl _) _).alloc (by simp) _
  have aW : Cl W w.heap.size #[.slice K kn kc, .int .u64 (a.seq : Int), .int .u8 (a.kind : Int), .slice V vn vc] 37 := by rw [hW]; exact (Cl.new _ _ _).alloc _
  have zW : Cl W (w.heap.size + 1) #[.slice none 0 0, .int .u64 0, .int .u8 0, .slice none 0 0] 37 := by rw [hW]; exact Cl.newg _ _ _ _ (by simp)
  have sW : w.heap.size + 2 ≤ W.heap.size := by rw [hW]; simp
  have HK : Hid (∀ wx, Below W.heap.size W wx → Calls Try.prog 117 #[.slice K kn kc] wx (Made wx.heap.size wx a.key)) := Lib.hid (fun wx hb => Clone_any K kn kc a.key wx ((R0.out.below bW).below hb) hk HD0.out)
  have HV : Hid (∀ wx, Below W.heap.size W wx → Calls Try.prog 117 #[.slice V vn vc] wx (Made wx.heap.size wx a.val)) := Lib.hid (fun wx hb => Clone_any V vn vc a.val wx ((R3.out.below bW).below hb) hv HD3.out)
  have ALC : Hid (∀ wx, Below W.heap.size W wx → Cl wx w.heap.size #[.slice K kn kc, .int .u64 (a.seq : Int), .int .u8 (a.kind : Int), .slice V vn vc] 37) := Lib.hid (fun wx hb => aW.below hb)
  have ZLC : Hid (∀ wx, Below W.heap.size W wx → Cl wx (w.heap.size + 1) #[.slice none 0 0, .int .u64 0, .int .u8 0, .slice none 0 0] 37) := Lib.hid (fun wx hb => zW.below hb)
  have BW := Lib.hid bW
  obtain ⟨e0, e1, e2, e3, y0, y1, y2, y3⟩ := aW.c4
  have hB0 : Below W.heap.size W W.drew := (Below.refl _ _).drew
  clear hW bW aW zW
  go_cut [] (fun wx => ∃ C cn cc D dn dc wy, Own 5 wy W.heap.size C cn cc a.key ∧ Own 5 wy W.heap.size D dn dc a.val ∧ Below W.heap.size W wy ∧ Dj C D ∧ wx = (wy.setCell ⟨w.heap.size, 0, none⟩ (.slice C cn cc)).setCell ⟨w.heap.size, 3, none⟩ (.slice D dn dc))
  case first =>
    go_region_law (first | (go_simp; go_at_call 117; with_reducible refine (HK.out _ (by assumption)).mono ?_; intro e wk hq; obtain ⟨C, cn, cc, h1, oC, bC⟩ := Made.out hq; subst h1; have bC' := belowT (by assumption : Below W.heap.size W _) bC; obtain ⟨p0, p1, p2, p3, p4, p5, p6, p7⟩ := (ALC.out _ bC').c4) | (go_simp; go_at_call 117; with_reducible refine (HV.out _ (by assumption)).mono ?_; intro e wv hq; obtain ⟨D, dn, dc, h2, oD, bD⟩ := Made.out hq; subst h2; have bD' := belowT (by assumption : Below W.heap.size W _) bD; obtain ⟨m0, m1, m2, m3, m4, m5, m6, m7⟩ := (ALC.out _ bD').c4))
    all_goals first
      | (have HDJ := Lib.hid (Dj.old oC oD (Nat.le_refl _))
         have HC1 := Lib.hid (oC.below bD)
         have HD1 := Lib.hid (oD.mono bC'.size)
         have HB1 := Lib.hid bD'
         clear oC oD bC bD bC' bD'
         go_wp2_with fail
         go_meet
         exact ⟨C, cn, cc, D, dn, dc, wv, HC1.out, HD1.out, HB1.out, HDJ.out, rfl⟩)
      | (have HDJ := Lib.hid (Dj.symm (Dj.old oD oC (Nat.le_refl _)))
         have HC1 := Lib.hid (oC.mono bD'.size)
         have HD1 := Lib.hid (oD.below bC)
         have HB1 := Lib.hid bC'
         clear oC oD bC bD bC' bD'
         go_wp2_with fail
         go_meet
         exact ⟨C, cn, cc, D, dn, dc, wk, HC1.out, HD1.out, HB1.out, HDJ.out, rfl⟩)
  case rest =>
    obtain ⟨C, cn, cc, D, dn, dc, wy, oC, oD, bY, hdj, hwc⟩ := hcut
    have A1 := ALC.out _ bY
    have Z1 := Lib.hid (ZLC.out _ bY)
    have sy := bY.size
    obtain ⟨Y, hY⟩ : ∃ Y, Y = wy.setCell ⟨w.heap.size, 0, none⟩ (.slice C cn cc) := ⟨_, rfl⟩
    rw [← hY] at hwc
    have aY : Cl Y w.heap.size #[.slice C cn cc, .int .u64 (a.seq : Int), .int .u8 (a.kind : Int), .slice V vn vc] 37 := by rw [hY]; exact A1.set 0 _
    have zY : Cl Y (w.heap.size + 1) #[.slice none 0 0, .int .u64 0, .int .u8 0, .slice none 0 0] 37 := by rw [hY]; exact Z1.out.off 0 _ (by omega)
    have bYY : Below w.heap.size w Y := by rw [hY]; exact below_set (BW.out.trans (bY.mono BW.out.size)) 0 _ (Nat.le_refl _)
    have oCY : Own 5 Y W.heap.size C cn cc a.key := by rw [hY]; exact oC.set (by omega) 0 _
    have oDY : Own 5 Y W.heap.size D dn dc a.val := by rw [hY]; exact oD.set (by omega) 0 _
    have aC : Cl wc w.heap.size #[.slice C cn cc, .int .u64 (a.seq : Int), .int .u8 (a.kind : Int), .slice D dn dc] 37 := by rw [hwc]; exact aY.set 3 _
    have zC : Cl wc (w.heap.size + 1) #[.slice none 0 0, .int .u64 0, .int .u8 0, .slice none 0 0] 37 := by rw [hwc]; exact zY.off 3 _ (by omega)
    have HFIN : Hid (∀ X, X = (((wc.setCell ⟨w.heap.size + 1, 0, none⟩ (.slice C cn cc)).setCell ⟨w.heap.size + 1, 1, none⟩ (.int .u64 (a.seq : Int))).setCell ⟨w.heap.size + 1, 2, none⟩ (.int .u8 (a.kind : Int))).setCell ⟨w.heap.size + 1, 3, none⟩ (.slice D dn dc) → Cl X (w.heap.size + 1) #[.slice C cn cc, .int .u64 (a.seq : Int), .int .u8 (a.kind : Int), .slice D dn dc] 37 ∧ RetEn w a (.returned (.agg #[.slice C cn cc, .int .u64 (a.seq : Int), .int .u8 (a.kind : Int), .slice D dn dc])) X) := Lib.hid (fun X hX => en_fin (x := a) (g := w.heap.size) zY rfl oCY oDY bYY (Nat.le_refl _) sW ⟨3, _, hwc⟩ hX hdj)
    clear hY hwc A1 aY zY bYY oCY oDY oC oD bY e0 e1 e2 e3 y0 y1 y2 y3
    obtain ⟨e0, e1, e2, e3, y0, y1, y2, y3⟩ := aC.c4
    obtain ⟨g0, g1, g2, g3, k0, k1, k2, k3⟩ := zC.c4
    clear aC zC
    go_wp2_with fail
    obtain ⟨X, hX⟩ : ∃ X, X = (((wc.setCell ⟨w.heap.size + 1, 0, none⟩ (.slice C cn cc)).setCell ⟨w.heap.size + 1, 1, none⟩ (.int .u64 (a.seq : Int))).setCell ⟨w.heap.size + 1, 2, none⟩ (.int .u8 (a.kind : Int))).setCell ⟨w.heap.size + 1, 3, none⟩ (.slice D dn dc) := ⟨_, rfl⟩
    obtain ⟨zX, hret⟩ := HFIN.out X hX
    rw [← hX]
    obtain ⟨x0, x1, x2, x3, _⟩ := zX.c4
    refine bodyPost_ret (v := .agg #[.slice C cn cc, .int .u64 (a.seq : Int), .int .u8 (a.kind : Int), .slice D dn dc]) (by simp [results, Try.results170, go_sem, x0, x1, x2, x3]; try rfl) rfl hret
end
end Go.Proofs.Ytcclhkoggijkaaa
namespace Go.Proofs.Ytcclhkoggijkaaa
open Go Go.RowKit

def Tr.sz (t : Tr) : Nat := szL t.list
theorem balT_sz (l : Tr) (e : En) (r : Tr) : (balT l e r).sz = l.sz + wE e + r.sz := by
  unfold Tr.sz
  rw [balT_list, szL_app, szL]
  omega
theorem node_sz (l : Tr) (e : En) (r : Tr) : (Tr.node l e r).sz = l.sz + wE e + r.sz := by
  unfold Tr.sz
  rw [Tr.list, szL_app, szL]
  omega
theorem withT_sz {x : En} : ∀ {t t' : Tr}, withT x t = some t' → t'.sz = t.sz + wE x
  | .nil, t', h => by
    unfold withT at h
    injection h with h
    rw [← h]
    simp [Tr.sz, Tr.list, szL]
  | .node l e r, t', h => by
    unfold withT at h
    split at h
    · cases hw : withT x l with
      | none => rw [hw] at h; cases h
      | some l' =>
        rw [hw] at h
        injection h with h
        have := withT_sz hw
        rw [← h]
        simp only [balT_sz, node_sz]
        omega
    · split at h
      · cases hw : withT x r with
        | none => rw [hw] at h; cases h
        | some r' =>
          rw [hw] at h
          injection h with h
          have := withT_sz hw
          rw [← h]
          simp only [balT_sz, node_sz]
          omega
      · cases h
def insAll : Tr → List En → Option Tr
  | t, [] => some t
  | t, x :: xs => (withT x t).bind (fun t' => insAll t' xs)
theorem insAll_snoc : ∀ (t : Tr) (xs : List En) (x : En), insAll t (xs ++ [x]) = (insAll t xs).bind (withT x)
  | t, [], x => by simp [insAll]
  | t, y :: ys, x => by
    simp only [List.cons_append, insAll]
    cases withT y t with
    | none => rfl
    | some t' => exact insAll_snoc t' ys x
theorem insAll_none {t : Tr} {xs ys : List En} (h : insAll t xs = none) : insAll t (xs ++ ys) = none := by
  induction xs generalizing t with
  | nil => simp [insAll] at h
  | cons x xs ih =>
    simp only [List.cons_append, insAll] at h ⊢
    cases hw : withT x t with
    | none => rfl
    | some t' => rw [hw] at h; exact ih h
theorem insAll_num : ∀ {t t' : Tr} {xs : List En}, insAll t xs = some t' → t'.num = t.num + xs.length ∧ t'.sz = t.sz + szL xs
  | t, t', [], h => by simp [insAll] at h; subst h; simp [szL]
  | t, t', x :: xs, h => by
    simp only [insAll] at h
    cases hw : withT x t with
    | none => rw [hw] at h; cases h
    | some t1 =>
      rw [hw] at h
      have h1 := insAll_num (t := t1) h
      have h2 := withT_num hw
      have h3 := withT_sz hw
      simp only [List.length_cons, szL]
      omega
section
variable {w : World} {p : Nat} {a b c : Value} {d : Array Value} {ty : TypeId}
theorem Cl.ct (h : Cl w p (#[a, b, c] ++ d) ty) : w.cell? ⟨p, 0, none⟩ = some a ∧ w.cell? ⟨p, 1, none⟩ = some b ∧ w.cell? ⟨p, 2, none⟩ = some c ∧
    w.frozen? ⟨p, 0, none⟩ = false ∧ w.frozen? ⟨p, 1, none⟩ = false ∧ w.frozen? ⟨p, 2, none⟩ = false :=
  ⟨(h.cell 0).trans (Array.getElem?_append_left (by simp)), (h.cell 1).trans (Array.getElem?_append_left (by simp)), (h.cell 2).trans (Array.getElem?_append_left (by simp)), h.thaw 0, h.thaw 1, h.thaw 2⟩
theorem Cl.st0 (h : Cl w p (#[a, b, c] ++ d) ty) (v : Value) : Cl (w.setCell ⟨p, 0, none⟩ v) p (#[v, b, c] ++ d) ty := by
  have := h.set 0 v
  have e : (#[a, b, c] ++ d).setIfInBounds 0 v = #[v, b, c] ++ d := by
    apply Array.ext'
    simp
  rw [e] at this
  exact this
theorem Cl.st1 (h : Cl w p (#[a, b, c] ++ d) ty) (v : Value) : Cl (w.setCell ⟨p, 1, none⟩ v) p (#[a, v, c] ++ d) ty := by
  have := h.set 1 v
  have e : (#[a, b, c] ++ d).setIfInBounds 1 v = #[a, v, c] ++ d := by
    apply Array.ext'
    simp
  rw [e] at this
  exact this
theorem Cl.st2 (h : Cl w p (#[a, b, c] ++ d) ty) (v : Value) : Cl (w.setCell ⟨p, 2, none⟩ v) p (#[a, b, v] ++ d) ty := by
  have := h.set 2 v
  have e : (#[a, b, c] ++ d).setIfInBounds 2 v = #[a, b, v] ++ d := by
    apply Array.ext'
    simp
  rw [e] at this
  exact this
end
/-- What a Put comes to: the table, and all else as it was. -/
def putZ (t : Tr) (es : List En) : Int × Tr := if checkE es = 0 then match insAll t es with | none => (7, t) | some t' => (0, t') else (checkE es, t)
theorem grow_of_below {w w' : World} {row : Option Nat} (h : Below w.heap.size w w') : w.grownBy w' row := ⟨h.os, h.tape, h.output, h.size, fun k hk _ => h.block k hk⟩
end Go.Proofs.Ytcclhkoggijkaaa
namespace Go.Proofs.Ytcclhkoggijkaaa
open Go Go.RowKit

theorem rdl_one8 {w : World} {t : TypeId} {v1 : Value} {x1 : List UInt8} (h1 : ElB w v1 x1) (g : Nat) (hg : g = w.heap.size) : RdL (w.alloc (.cells #[v1] t)) (some ⟨g, 0, none⟩) 1 [x1] := by
  subst hg
  refine ⟨rfl, fun _ => ⟨w.heap.size, 0, rfl, by simp, fun i x hi => ?_⟩⟩
  have hlt := (List.getElem?_eq_some_iff.1 hi).1
  obtain rfl : i = 0 := by simp at hlt; omega
  injection hi with hi
  subst hi
  refine ⟨v1, ?_, h1.below ((Below.refl _ _).alloc (Nat.le_refl _) _)⟩
  rw [cell_of_row (w.alloc (.cells #[v1] t)) w.heap.size (0 + 0) #[v1] t (0, 0) (heap_alloc_new w _)]
  rfl
/-- What Build answers where every is at least 1. -/
def buildE (ev : Nat) (es : List En) : List UInt8 × Int :=
  if es.any longE then ([], 2) else if 1048576 < (fullB ev es).length then ([], 2) else if es.all formE && ordE es then (sealB (fullB ev es), 0) else ([], 3)
/-- Bytes of the call's own, or none, and a kind. -/
def RetBb (w : World) (z : List UInt8 × Int) (e : Ending) (w' : World) : Prop :=
  ∃ A c, e = .returned (.tuple #[.slice A z.1.length c, .int .i64 z.2]) ∧ Own 5 w' w.heap.size A z.1.length c z.1 ∧ Below w.heap.size w w'
theorem RetBb.no {w w' : World} {z : List UInt8 × Int} {k : Int} (hz : z = ([], k)) (hb : Below w.heap.size w w') : RetBb w z (.returned (.tuple #[.slice none 0 0, .int .i64 k])) w' := by
  subst hz
  exact ⟨none, 0, rfl, Own.nil _ _ _, hb⟩
theorem longE_no {es : List En} (h : es.any longE = false) : ∀ x ∈ es, x.key.length ≤ 1024 ∧ x.val.length ≤ 65536 := fun x hx => by
  have := List.any_eq_false.1 h x hx
  unfold longE at this
  simp at this
  omega
set_option maxRecDepth 100000 in
set_option maxHeartbeats 8000000 in
theorem build8_any {w : World} {A : Option Addr} {n c : Nat} {es : List En} (h : REs w A n es) (hn : n ≤ 16777216) (ev : Nat) (he : 1 ≤ ev) (he2 : ev ≤ 9223372036854775807) :
    Calls Try.prog 113 #[.int .i64 (ev : Int), .slice A n c] w (RetBb w (buildE ev es)) := by
  have HM : Hid (Calls Try.prog 53 #[.slice A n c] w (RetNu w (checkE es))) := Lib.hid (memCheck_any h (by omega))
  have HR := Lib.hid h
  clear h
  cases hlo : es.any longE with
  | true =>
    have hc : checkE es = 2 := by rw [checkE, hlo]; rfl
    have hb : buildE ev es = ([], 2) := by rw [buildE, hlo]; rfl
    rw [hc] at HM
    have HB := Lib.hid hb
    clear hlo hc hb
    go_enter Try.func113, Try.ntmps113
    go_wp2_with fail
    with_reducible refine HM.out.mono ?_
    rintro e w1 ⟨rfl, b1⟩
    go_wp2_with fail
    exact bodyPost_ret (v := .tuple #[.slice none 0 0, .int .i64 2]) (by simp [results, Try.f113, go_sem]; try rfl) rfl (RetBb.no HB.out b1)
  | false =>
    have hsz := longE_no hlo
    have HCT : Hid (∀ wx, Below w.heap.size w wx → Calls Try.prog 153 #[.int .i64 (ev : Int), .slice A n c] wx (RetCt ev es wx)) := Lib.hid (fun wx hb => contents_any (HR.out.below hb) hn hsz ev he he2)
    have HIO : Hid (∀ wx, Below w.heap.size w wx → Calls Try.prog 154 #[.slice A n c] wx (RetT wx (ordE es))) := Lib.hid (fun wx hb => inOrder8_any (HR.out.below hb) (by omega))
    obtain ⟨F, hF⟩ : ∃ F, F = fullB ev es := ⟨_, rfl⟩
    have hbe : buildE ev es = if 1048576 < F.length then ([], 2) else if es.all formE && ordE es then (sealB F, 0) else ([], 3) := by rw [buildE, hlo, ← hF]; rfl
    obtain ⟨fo, hfo⟩ : ∃ fo, fo = es.all formE := ⟨_, rfl⟩
    obtain ⟨od, hod⟩ : ∃ od, od = ordE es := ⟨_, rfl⟩
    obtain ⟨z, hz⟩ : ∃ z : Int, z = if fo then 0 else 3 := ⟨_, rfl⟩
    have hck : checkE es = z := by rw [checkE, hlo, hz, hfo]; rfl
    rw [hck] at HM
    rw [← hod] at HIO hbe
    rw [← hfo] at hbe
    have hz2 : z = 0 ∨ z = 3 := by rw [hz]; cases fo <;> simp
    have tz : (z == 2) = false := by rcases hz2 with e | e <;> rw [e] <;> rfl
    have tz' : ¬ z = 2 := by omega
    have HBE := Lib.hid hbe
    have HF := Lib.hid hF
    have HZ := Lib.hid hz
    have HZ2 := Lib.hid hz2
    clear hlo hsz hF hbe hfo hod hz hck hz2
    go_enter Try.func113, Try.ntmps113
    go_wp2_with fail
    with_reducible refine HM.out.mono ?_
    rintro e w1 ⟨rfl, b1⟩
    have HCT1 := Lib.hid (HCT.out w1 b1)
    have B1 := Lib.hid b1
    clear b1
    go_wp2_with fail
    with_reducible refine HCT1.out.mono ?_
    rintro e w2 ⟨C, cc, ys, rfl, oC, b2, hyl, hys⟩
    rw [← HF.out] at hys
    have hcap := oC.cap
    have hcn : C = none → cc = 0 := fun h => by have := oC.nil_of (by rw [h]; rfl); exact this.2.2
    have hSE := Seal_any (some ⟨w2.heap.size, 0, none⟩) 1 1 [ys] _ (rdl_one8 (w := w2) (t := 25) ⟨C, ys.length, cc, rfl, oC.rd, hcap.1, hcn⟩ _ rfl) (by simp only [tot]; omega)
    rw [show [ys].flatten = ys by simp] at hSE
    have HSE := Lib.hid hSE
    have B2 := Lib.hid (B1.out.trans (b2.mono B1.out.size))
    have HYS := Lib.hid hys
    obtain ⟨yn, hyn⟩ : ∃ yn, yn = ys.length := ⟨_, rfl⟩
    rw [← hyn]
    rw [← hyn] at hyl HSE
    have HYN := Lib.hid hyn
    clear hSE oC b2 hcap hcn hys hyn
    by_cases hbig : 1048576 < yn
    · have hg : sealG ys = ([], 2) := sealG_long HYN.out.symm hbig
      have hb : buildE ev es = ([], 2) := by
        rw [HBE.out, if_pos]
        rcases HYS.out with ⟨_, h2⟩ | h2
        · have := HYN.out; omega
        · rw [← h2, ← HYN.out]; exact hbig
      rw [hg] at HSE
      have HB := Lib.hid hb
      clear hg hb
      go_wp2_with fail
      refine HSE.out.mono ?_
      rintro e w3 ⟨D, dn, dc, rfl, oD, b3⟩
      have B3 := Lib.hid (B2.out.trans (((Below.refl _ _).alloc (Nat.le_refl _) _ |>.trans (b3.mono (by simp))).mono B2.out.size))
      clear oD b3
      go_wp2_with fail
      exact bodyPost_ret (v := .tuple #[.slice none 0 0, .int .i64 2]) (by simp [results, Try.f113, go_sem]; try rfl) rfl (RetBb.no HB.out B3.out)
    · have hF2 : ys = F := by
        rcases HYS.out with ⟨h1, _⟩ | h2
        · have := HYN.out; omega
        · exact h2
      have hg : sealG ys = (sealB F, 0) := by rw [sealG_ok HYN.out.symm hbig, hF2]
      have hb : buildE ev es = if fo && od then (sealB F, 0) else ([], 3) := by rw [HBE.out, if_neg (by rw [← hF2, ← HYN.out]; exact hbig)]
      rw [hg] at HSE
      have HB := Lib.hid hb
      clear hg hb
      go_wp2_with fail
      refine HSE.out.mono ?_
      rintro e w3 ⟨D, dn, dc, rfl, oD, b3⟩
      have oD : Own 5 w3 w2.heap.size D dn dc (sealB F) := Own.mono oD (show w2.heap.size ≤ _ by simp)
      obtain rfl : (sealB F).length = dn := oD.len
      have HD := Lib.hid (oD.mono B2.out.size)
      have B3 := Lib.hid (B2.out.trans (((Below.refl _ _).alloc (Nat.le_refl _) _ |>.trans (b3.mono (by simp))).mono B2.out.size))
      clear oD b3
      cases fo with
      | false =>
        have e0 : z = 3 := HZ.out
        subst e0
        rw [Bool.false_and] at HB
        go_wp2_with fail
        exact bodyPost_ret (v := .tuple #[.slice none 0 0, .int .i64 3]) (by simp [results, Try.f113, go_sem]; try rfl) rfl (RetBb.no HB.out B3.out)
      | true =>
        have e0 : z = 0 := HZ.out
        subst e0
        rw [Bool.true_and] at HB
        have HIO3 := Lib.hid (HIO.out w3 B3.out)
        cases od with
        | true =>
          go_wp2_with fail
          with_reducible refine HIO3.out.mono ?_
          rintro e w4 ⟨rfl, b4⟩
          have hB := HB.out
          simp only [if_true] at hB
          have hfin : RetBb w (buildE ev es) (.returned (.tuple #[.slice D (sealB F).length dc, .int .i64 0])) w4 := by
            rw [hB]
            exact ⟨D, dc, rfl, HD.out.below b4, B3.out.trans (b4.mono B3.out.size)⟩
          have HFI := Lib.hid hfin
          clear hB hfin b4
          go_wp2_with fail
          exact bodyPost_ret (v := .tuple #[.slice D (sealB F).length dc, .int .i64 0]) (by simp [results, Try.f113, go_sem]; try rfl) rfl HFI.out
        | false =>
          go_wp2_with fail
          with_reducible refine HIO3.out.mono ?_
          rintro e w4 ⟨rfl, b4⟩
          have B4 := Lib.hid (B3.out.trans (b4.mono B3.out.size))
          have hB := HB.out
          simp only [Bool.false_eq_true, if_false] at hB
          have HBB := Lib.hid hB
          clear hB b4
          go_wp2_with fail
          exact bodyPost_ret (v := .tuple #[.slice none 0 0, .int .i64 3]) (by simp [results, Try.f113, go_sem]; try rfl) rfl (RetBb.no HBB.out B4.out)
theorem buildE_cases (ev : Nat) (es : List En) : (∃ F, buildE ev es = (sealB F, 0) ∧ F.length ≤ 1048576) ∨ (∃ k : Int, buildE ev es = ([], k) ∧ (k = 2 ∨ k = 3)) := by
  unfold buildE
  split
  · exact .inr ⟨2, rfl, .inl rfl⟩
  · split
    · exact .inr ⟨2, rfl, .inl rfl⟩
    · split
      · exact .inl ⟨_, rfl, by omega⟩
      · exact .inr ⟨3, rfl, .inr rfl⟩
end Go.Proofs.Ytcclhkoggijkaaa
namespace Go.Proofs.Ytcclhkoggijkaaa
open Go Go.RowKit

def lastK (es : List En) : List UInt8 := (es.getLast?.map (·.key)).getD []
/-- The entries from place a on, and the every. -/
def parR (xs : List UInt8) (sec : Int) : Nat → Nat → List En → Nat → Option (List En × Nat)
  | 0, _, _, _ => none
  | f + 1, a, es, ev => if xs.length ≤ a then some (es, ev) else
      if badR xs (lastK es) a then none
      else parR xs sec f (e7R xs a).2.1 (es ++ [entR xs (lastK es) a]) (if (a : Int) = sec then es.length else ev)
/-- What stands in a block: its entries and the every. -/
def parB (xs : List UInt8) : Option (List En × Nat) :=
  match splitB xs with
  | none => none
  | some (ys, zs) =>
    let sec : Int := if 8 ≤ zs.length then (numK (zs.drop 4) 4 : Int) else -1
    match parR ys sec (ys.length + 1) 0 [] 0 with
    | none => none
    | some (es, ev) => some (es, if sec < 0 then max es.length 1 else ev)
theorem numR_mono {xs : List UInt8} {s : Nat × Bool} (h : s.1 ≤ xs.length) : s.1 ≤ (numR xs s).2.1 ∧ ((numR xs s).2.2 = false → s.1 < (numR xs s).2.1) := by
  unfold numR
  split
  · rename_i e
    rcases hg : getU xs (s.1 : Int) with ⟨m, nx, e2⟩
    rw [hg] at e
    obtain ⟨k, rfl, h1, h2, h3⟩ := getU_err h hg e
    simp only [Int.toNat_natCast]
    exact ⟨by omega, fun _ => h1⟩
  · exact ⟨Nat.le_refl _, fun h => by cases h⟩
theorem takeR_mono {xs : List UInt8} {n : Nat} {s : Nat × Bool} : s.1 ≤ (takeR xs n s).2.1 := by
  unfold takeR
  split
  · exact Nat.le_refl _
  · simp only; omega
theorem badR_no {xs ah : List UInt8} {a : Nat} (h : badR xs ah a = false) : (e7R xs a).2.2 = false ∧ (e1R xs a).1 ≤ ah.length ∧ (e1R xs a).1 + (e6R xs a).1.length ≤ 1024 := by
  unfold badR at h
  simp only [Bool.or_eq_false_iff, decide_eq_false_iff_not] at h
  obtain ⟨⟨h1, h2⟩, h3⟩ := h
  exact ⟨h1, by omega, by omega⟩
theorem bad_chain {xs : List UInt8} {a : Nat} (h : (e7R xs a).2.2 = false) : (e6R xs a).2.2 = false ∧ (e5R xs a).2.2 = false ∧ (e4R xs a).2.2 = false ∧ (e3R xs a).2.2 = false ∧ (e2R xs a).2.2 = false ∧ (e1R xs a).2.2 = false := by
  unfold e7R at h
  have h6 := (takeR_bad h).1
  have h6' := h6
  unfold e6R at h6'
  have h5 := (takeR_bad h6').1
  have h5' := h5
  unfold e5R at h5'
  have h4 := numR_bad h5'
  have h4' := h4
  unfold e4R at h4'
  have h3 := (takeR_bad h4').1
  have h3' := h3
  unfold e3R at h3'
  have h2 := numR_bad h3'
  have h2' := h2
  unfold e2R at h2'
  exact ⟨h6, h5, h4, h3, h2, numR_bad h2'⟩
theorem e_le {xs : List UInt8} {a : Nat} (ha : a ≤ xs.length) : (e1R xs a).2.1 ≤ xs.length ∧ (e2R xs a).2.1 ≤ xs.length ∧ (e3R xs a).2.1 ≤ xs.length ∧ (e4R xs a).2.1 ≤ xs.length ∧ (e5R xs a).2.1 ≤ xs.length ∧ (e6R xs a).2.1 ≤ xs.length ∧ (e7R xs a).2.1 ≤ xs.length := by
  have q1 : (e1R xs a).2.1 ≤ xs.length := by unfold e1R; exact (numR_le ha).1
  have q2 : (e2R xs a).2.1 ≤ xs.length := by unfold e2R; exact (numR_le q1).1
  have q3 : (e3R xs a).2.1 ≤ xs.length := by unfold e3R; exact (numR_le q2).1
  have q4 : (e4R xs a).2.1 ≤ xs.length := by unfold e4R; exact (takeR_le q3).1
  have q5 : (e5R xs a).2.1 ≤ xs.length := by unfold e5R; exact (numR_le q4).1
  have q6 : (e6R xs a).2.1 ≤ xs.length := by unfold e6R; exact (takeR_le q5).1
  have q7 : (e7R xs a).2.1 ≤ xs.length := by unfold e7R; exact (takeR_le q6).1
  exact ⟨q1, q2, q3, q4, q5, q6, q7⟩
theorem e7_more {xs : List UInt8} {a : Nat} (ha : a ≤ xs.length) (h : (e7R xs a).2.2 = false) : a < (e7R xs a).2.1 := by
  obtain ⟨b6, b5, b4, b3, b2, b1⟩ := bad_chain h
  obtain ⟨l1, l2, l3, l4, l5, l6, l7⟩ := e_le ha
  have m1 : a < (e1R xs a).2.1 := by unfold e1R at b1 ⊢; exact (numR_mono ha).2 b1
  have m2 : (e1R xs a).2.1 ≤ (e2R xs a).2.1 := by unfold e2R; exact (numR_mono l1).1
  have m3 : (e2R xs a).2.1 ≤ (e3R xs a).2.1 := by unfold e3R; exact (numR_mono l2).1
  have m4 : (e3R xs a).2.1 ≤ (e4R xs a).2.1 := by unfold e4R; exact takeR_mono
  have m5 : (e4R xs a).2.1 ≤ (e5R xs a).2.1 := by unfold e5R; exact (numR_mono l4).1
  have m6 : (e5R xs a).2.1 ≤ (e6R xs a).2.1 := by unfold e6R; exact takeR_mono
  have m7 : (e6R xs a).2.1 ≤ (e7R xs a).2.1 := by unfold e7R; exact takeR_mono
  omega
theorem entR_key {xs ah : List UInt8} {a : Nat} (h : badR xs ah a = false) : (entR xs ah a).key.length ≤ 1024 := by
  obtain ⟨_, h2, h3⟩ := badR_no h
  unfold entR
  simp only [List.length_append, List.length_take]
  omega
theorem lastK_snoc (es : List En) (x : En) : lastK (es ++ [x]) = x.key := by
  unfold lastK
  simp
theorem fam_join {w : World} {base B : Nat} {ps qs : List VB} (h : Fam w base ps) (hlt : ∀ p ∈ ps, ∀ b, Value.ownBlock p.1 = some b → b < B) (hn : Fam w B qs) (hB : base ≤ B) : Fam w base (ps ++ qs) := by
  refine ⟨fun p hp => ?_, List.pairwise_append.2 ⟨h.2, hn.2, fun p hp q hq k e1 e2 => ?_⟩⟩
  · rcases List.mem_append.1 hp with hp | hp
    · exact h.1 p hp
    · obtain ⟨A, m, c, e, ho⟩ := hn.1 p hp
      exact ⟨A, m, c, e, ho.mono hB⟩
  · have k1 := hlt p hp k e1
    have k2 := (hn.lt hq e2).1
    omega
/-- 'A row of entries of the call's own, off the reader; all of it lies below B.' -/
def PR (base B p : Nat) (L : Option Addr) (i d : Nat) (es : List En) (w : World) (vs : List Value) : Prop :=
  OwnE w base L i d vs ∧ EOs base w es vs ∧ OffW vs (blk L) ∧ es.length = i ∧ Fam w base (pairE es vs) ∧ OffW vs (some p) ∧ blk L ≠ some p ∧
    (∀ A m c g, Value.slice A m c ∈ vs → blk A = some g → g < B) ∧ (∀ g, blk L = some g → g < B)
section
variable {base B p i d : Nat} {L : Option Addr} {es : List En} {w w' : World} {vs : List Value}
theorem PR.kept (h : PR base B p L i d es w vs) (hg : w.grownBy w' (some p)) : PR base B p L i d es w' vs := by
  obtain ⟨q1, q2, q3, q4, q5, q6, q7, q8, q9⟩ := h
  refine ⟨?_, EOs.kept hg q2 q6, q3, q4, q5.kept hg (fun b hb r hr e => ?_), q6, q7, q8, q9⟩
  · refine ⟨q1.1, ?_⟩
    rcases q1.2 with h1 | ⟨g, cap, cur, h1, h2, h3, h4⟩
    · exact .inl h1
    · refine .inr ⟨g, cap, cur, h1, h2, ?_, h4⟩
      have hne : some g ≠ some p := fun e => q7 (by injection h1 with h1; rw [h1]; exact e)
      obtain ⟨_, _, _, _, k5⟩ := hg
      have hlt : g < w.heap.size := (Array.getElem?_eq_some_iff.1 h3).1
      exact (k5 g hlt hne).trans h3
  · injection hb with hb
    subst hb
    obtain ⟨A, m, c, e1, _⟩ := q5.1 r hr
    rw [e1, own_blk] at e
    have := pairE_mem hr
    rw [e1] at this
    exact q6 p rfl A m c this e
theorem PR.below (h : PR base B p L i d es w vs) (hb : Below w.heap.size w w') : PR base B p L i d es w' vs := by
  obtain ⟨q1, q2, q3, q4, q5, q6, q7, q8, q9⟩ := h
  exact ⟨q1.below hb, q2.below hb, q3, q4, q5.below hb, q6, q7, q8, q9⟩
theorem PR.zero (base B p : Nat) (w : World) : PR base B p none 0 0 [] w [] := ⟨OwnE.nil _ _, rfl, OffW.nil _, rfl, Fam.nil _ _, OffW.nil _, (fun h => by cases h), (fun A m c g h => by cases h), (fun g h => by cases h)⟩
theorem PR.rd (h : PR base B p L i d es w vs) : REs w L i es := by
  obtain ⟨q1, q2, q3, q4, _⟩ := h
  exact REs.mk q2.evs q1.rd q4
theorem PR.row {W : World} (h : PR base B p L i d es w vs) (hb : Below base W w) (hs : base ≤ w.heap.size) : RowE W base L i d es w := by
  obtain ⟨q1, q2, q3, q4, q5, _⟩ := h
  exact ⟨vs, q1, q2, q3, q4, hb, hs, q5⟩
/-- One more. -/
theorem pr_add {w4 : World} {L' K V : Option Addr} {d' kn kc vn vc : Nat} {x : En} (h : PR base B p L i d es w vs) (oK : Own 5 w B K kn kc x.key) (oV : Own 5 w B V vn vc x.val) (dj : Dj K V) (hwf : U64 x.seq ∧ x.kind < 256) (hB : base ≤ B) (hp : p < B) (hBw : B ≤ w.heap.size)
    (h4 : OwnE w4 base L' (i + 1) d' (vs ++ [.slice K kn kc, .int .u64 (x.seq : Int), .int .u8 (x.kind : Int), .slice V vn vc])) (hg : w.grownBy w4 (blk L)) (hb : blk L' = blk L ∨ blk L' = some (w.heap.size + 1)) :
    PR base w4.heap.size p L' (i + 1) d' (es ++ [x]) w4 (vs ++ [.slice K kn kc, .int .u64 (x.seq : Int), .int .u8 (x.kind : Int), .slice V vn vc]) := by
  obtain ⟨q1, q2, q3, q4, q5, q6, q7, q8, q9⟩ := h
  have eo : EO base w x (.slice K kn kc) (.int .u64 (x.seq : Int)) (.int .u8 (x.kind : Int)) (.slice V vn vc) := ⟨K, kn, kc, V, vn, vc, rfl, rfl, rfl, rfl, oK.mono hB, oV.mono hB, hwf⟩
  have hge : ∀ A m c g, Value.slice A m c ∈ [Value.slice K kn kc, .int .u64 (x.seq : Int), .int .u8 (x.kind : Int), .slice V vn vc] → blk A = some g → B ≤ g ∧ g < w.heap.size := fun A m c g hv hgg => by
    simp only [List.mem_cons, List.not_mem_nil, or_false] at hv
    rcases hv with e | e | e | e
    · injection e with e1 e2 e3; subst e1; exact oK.lt g hgg
    · cases e
    · cases e
    · injection e with e1 e2 e3; subst e1; exact oV.lt g hgg
  have o1 : OffW [Value.slice K kn kc, .int .u64 (x.seq : Int), .int .u8 (x.kind : Int), .slice V vn vc] (blk L) := fun g hgg A m c hv e => by
    have h1 := hge A m c g hv e
    have h2 := q9 g hgg
    omega
  have hgs := hg.size
  have f1 : Fam w base (pairE es vs ++ [(.slice K kn kc, x.key), (.slice V vn vc, x.val)]) := fam_join q5 (fun r hr b e => by
    obtain ⟨A, m, c, e1, _⟩ := q5.1 r hr
    have := pairE_mem hr
    rw [e1] at this e
    rw [own_blk] at e
    exact q8 A m c b this e) (fam_two oK oV dj) hB
  refine ⟨h4, (EOs.kept hg q2 q3).app (EOs.one (eo.kept hg o1)), ?_, by simp [q4], ?_, ?_, ?_, ?_, ?_⟩
  · rcases hb with e | e
    · rw [e]; exact q3.app o1
    · rw [e]
      intro g hg2 C m c hv2 hv3
      injection hg2 with hg2
      rcases List.mem_append.1 hv2 with hq | hq
      · have := (EOs.lt q2 hq hv3).2
        omega
      · have := hge C m c g hq hv3
        omega
  · rw [pairE_app q2]
    refine f1.kept hg (fun b e r hr e2 => ?_)
    obtain ⟨A, m, c, e1, _⟩ := f1.1 r hr
    have hm : Value.slice A m c ∈ vs ++ [.slice K kn kc, .int .u64 (x.seq : Int), .int .u8 (x.kind : Int), .slice V vn vc] := by
      rw [← e1]
      rcases List.mem_append.1 hr with h | h
      · exact List.mem_append_left _ (pairE_mem h)
      · refine List.mem_append_right _ ?_
        simp only [List.mem_cons, List.not_mem_nil, or_false] at h
        rcases h with rfl | rfl
        · simp
        · simp
    rw [e1, own_blk] at e2
    exact (q3.app o1) b e A m c hm e2
  · exact q6.app (fun g hgg A m c hv e => by
      injection hgg with hgg
      have := hge A m c g hv e
      omega)
  · rcases hb with e | e
    · rw [e]; exact q7
    · rw [e]
      intro h
      injection h with h
      omega
  · intro A m c g hv e
    rcases List.mem_append.1 hv with hq | hq
    · have := (EOs.lt q2 hq e).2
      omega
    · have := hge A m c g hq e
      omega
  · intro g e
    exact (h4.lt g e).2
end
end Go.Proofs.Ytcclhkoggijkaaa
namespace Go.Proofs.Ytcclhkoggijkaaa
open Go Go.RowKit Go.Maps

/-- 'The disk with this file now; the number.' -/
def RetFile (w : World) (p : Nat) (m : Option Nat) (rs : List FR) (r : FR) (dat : List UInt8) (saf : Nat) (room used left : Int) (dead armed : Bool) (v : Value) (e : Ending) (w' : World) : Prop :=
  e = .returned v ∧ ∃ r' : FR, r'.name = r.name ∧ r'.dat = dat ∧ r'.saf = saf ∧ DskR w' p m (putR r' rs) room used left dead armed ∧ Fr w w' (allB p m rs) ∧ ∀ b ∈ allB p m (putR r' rs), b ∈ allB p m rs ∨ w.heap.size ≤ b

section
variable {w : World} {p : Nat} {m : Option Nat} {rs : List FR} {room used left : Int} {dead armed : Bool}
theorem append_dead (x : List UInt8) (B : Option Addr) (n c : Nat) (h : DskR w p m rs room used left true armed) :
    Calls Try.prog 16 #[.pointer (some ⟨p, 0, none⟩), .string (tx x), .slice B n c] w fun e w' => e = .returned (.int .i64 9) ∧ w = w' := by
  go_enter Try.func16, Try.ntmps16
  go_wp2_with fail
  refine (find_dead x h).mono ?_
  rintro e w' ⟨rfl, rfl⟩
  go_wp2
  go_ret
  exact ⟨rfl, rfl⟩
set_option maxRecDepth 100000 in
set_option maxHeartbeats 2000000 in
theorem append_full (x : List UInt8) (B : Option Addr) (n c : Nat) (u R : Nat) (h : DskR w p m rs (R : Int) (u : Int) left false armed) (hf : R < u + n) (huR : u ≤ R) (hR : R ≤ 9223372036854775807) (hx : x.length ≤ maxLen) :
    Calls Try.prog 16 #[.pointer (some ⟨p, 0, none⟩), .string (tx x), .slice B n c] w fun e w' => e = .returned (.int .i64 8) ∧ ∃ q, w' = w.drewN q := by
  obtain ⟨c0, c1, c2, c3, c4, c5⟩ := h.head
  have i0 : IntKind.i64.wrap ((R : Int) - (u : Int)) = (R : Int) - (u : Int) := IntWalk.i64_in _ (by omega)
  have i1 : decide ((R : Int) - (u : Int) < (n : Int)) = true := by simp; omega
  by_cases hex : ∃ r ∈ rs, r.name = x
  · obtain ⟨r, hr, rfl⟩ := hex
    go_enter Try.func16, Try.ntmps16
    go_wp2_with fail
    refine (find_some h hr hx).mono ?_
    rintro e w' ⟨rfl, rfl⟩
    go_wp2
    go_quiet (fail)
    go_wp2
    go_ret
    exact ⟨rfl, _, rfl⟩
  · go_enter Try.func16, Try.ntmps16
    go_wp2_with fail
    refine (find_none x h (fun r hr e => hex ⟨r, hr, e⟩) hx).mono ?_
    rintro e w' ⟨rfl, rfl⟩
    go_wp2
    go_quiet (fail)
    go_wp2
    go_ret
    exact ⟨rfl, _, rfl⟩
set_option maxRecDepth 100000 in
set_option maxHeartbeats 4000000 in
theorem append_old {r : FR} (B : Option Addr) (n c : Nat) (ys : List UInt8) (u R : Nat) (h : DskR w p m rs (R : Int) (u : Int) left false armed) (hu : rsUp rs) (hr : r ∈ rs) (hB : Rd w B n ys)
    (hf : u + n ≤ R) (hR : R ≤ 9223372036854775807) (hn : n ≤ 1099511627776) (hd : r.dat.length ≤ 1099511627776) (hx : r.name.length ≤ maxLen) (hl : 0 ≤ left ∧ left ≤ 9223372036854775807) :
    Calls Try.prog 16 #[.pointer (some ⟨p, 0, none⟩), .string (tx r.name), .slice B n c] w
      (RetFile w p m rs r (r.dat ++ ys) r.saf R ((u + n : Nat) : Int) (tL armed left) (tD false armed left) (tA armed left) (.int .i64 (tE armed left))) := by
  obtain ⟨c0, c1, c2, c3, c4, c5⟩ := h.head
  have hfa := h.2.2.1 r hr
  obtain ⟨d0, d1⟩ := hfa.cells
  have i0 : IntKind.i64.wrap ((R : Int) - (u : Int)) = (R : Int) - (u : Int) := IntWalk.i64_in _ (by omega)
  have i1 : decide ((R : Int) - (u : Int) < (n : Int)) = false := by simp; omega
  have i2 : IntKind.i64.wrap ((u : Int) + (n : Int)) = (u : Int) + (n : Int) := IntWalk.i64_in _ (by omega)
  have hsep := h.2.2.2.1 r hr
  have hpf : p ≠ r.fb := fun e => hsep.1 (by rw [e]; simp [FR.bl])
  have hfA : blk r.A ≠ some r.fb := hsep.2.2
  have hfl : r.fb < w.heap.size := (Array.getElem?_eq_some_iff.1 hfa.1).1
  have hpl : p < w.heap.size := (Array.getElem?_eq_some_iff.1 h.1).1
  have hpA : blk r.A ≠ some p := fun e => hsep.1 (by simp [FR.bl, e])
  have HPA := Lib.hid hpA
  have HFA := Lib.hid hfA
  clear hpA hfA hsep
  go_enter Try.func16, Try.ntmps16
  go_wp2_with fail
  refine (find_some h hr hx).mono ?_
  rintro e w' ⟨rfl, rfl⟩
  go_wp2
  go_quiet (fail)
  obtain ⟨W, hW⟩ : ∃ W, W = w.drewN nq := ⟨_, rfl⟩
  have hD : DskR W p m rs (R : Int) (u : Int) left false armed := by rw [hW]; exact h
  have hBW : Rd W B n ys := by rw [hW]; exact hB.drewN nq
  have hFW : Fr w W (allB p m rs) := by rw [hW]; exact (Fr.refl _ _).drewN nq
  have hzW : W.heap.size = w.heap.size := by rw [hW]; rfl
  rw [← hW]
  have HZW := Lib.hid hzW
  clear hW h hB hzW c0 c1 c2 c3 c4 c5 d0 d1 hfa
  obtain ⟨c0, c1, c2, c3, c4, c5⟩ := hD.head
  have hfa := hD.2.2.1 r hr
  obtain ⟨d0, d1⟩ := hfa.cells
  have hown : OwnV 5 W 0 r.A r.dat.length r.c (r.dat.map cv) := hfa.2.1
  go_wp2_with (at_builtin; refine wpList_appV W rfl (.tmp 42) (.tmp 43) 25 rfl 0 5 _ 1 Try.underlying25 info_u8 rfl r.A r.dat.length r.c (r.dat.map cv) rfl hown B n c (ys.map cv) rfl hBW.toV (cv_one ys) ?_ ?_ ?_ ?_)
  · unfold maxLen; omega
  · omega
  · exact Nat.zero_le _
  intro A' c' w2 hA hg hk
  have hyl := hBW.len
  have hgs := hg.size
  have hfb2 : w2.heap[r.fb]? = some (.cells #[.slice r.A r.dat.length r.c, .int .i64 (r.saf : Int)] 131 (0, 0)) :=
    (hg.block r.fb (by have := HZW.out; omega) (fun e => HFA.out e.symm)).trans hfa.1
  have hp2 : w2.heap[p]? = some (.cells (headV m R u left false armed) 126 (0, 0)) :=
    (hg.block p (by have := HZW.out; omega) (fun e => HPA.out e.symm)).trans hD.1
  obtain ⟨r', hr'⟩ : ∃ r' : FR, r' = { r with dat := r.dat ++ ys, A := A', c := c' } := ⟨_, rfl⟩
  obtain ⟨N, hN⟩ : ∃ N, N = r.dat.length + n := ⟨_, rfl⟩
  have hlen : (r.dat ++ ys).length = N := by rw [List.length_append, hyl, hN]
  have hkA : blk A' ≠ some r.fb := fun e => by
    rcases hk with h1 | h1
    · exact HFA.out (by rw [← h1]; exact e)
    · rw [h1] at e; injection e with e; have := HZW.out; omega
  obtain ⟨w3, hw3⟩ : ∃ w3, w3 = w2.setCell ⟨r.fb, 0, none⟩ (.slice A' N c') := ⟨_, rfl⟩
  have hg3 : w2.grownBy w3 (some r.fb) := by rw [hw3]; exact ⟨rfl, rfl, rfl, by simp, fun k _ hne => heap_setCell_other w2 ⟨r.fb, 0, none⟩ k _ (fun e => hne (by rw [e]))⟩
  have hat : FileAt w3 r' := by
    refine ⟨?_, ?_, ?_⟩
    · rw [hw3, hr']
      show _ = some (Obj.cells #[.slice A' (r.dat ++ ys).length c', .int .i64 (r.saf : Int)] _ _)
      rw [heap_setCell_same _ _ _ _ _ _ hfb2, hlen]
      rfl
    · rw [hr']
      show Own 5 w3 0 A' (r.dat ++ ys).length c' (r.dat ++ ys)
      rw [hlen, hN]
      have h1 : OwnV 5 w2 0 A' (r.dat.length + n) c' ((r.dat ++ ys).map cv) := by rw [List.map_append]; exact hA
      exact OwnV.kept h1 hg3 (fun b hb e => hkA (by rw [hb]; exact e.symm))
    · rw [hr']
      show r.saf ≤ (r.dat ++ ys).length
      rw [List.length_append]
      have := hfa.2.2
      omega
  have hbl : ∀ b ∈ r'.bl, b ∈ r.bl ∨ W.heap.size ≤ b := fun b hb => by
    rw [hr'] at hb
    simp only [FR.bl, List.mem_cons, Option.mem_toList] at hb ⊢
    rcases hb with hb | hb
    · exact .inl (.inl hb)
    · rcases hk with h1 | h1
      · exact .inl (.inr (by rw [← h1]; exact hb))
      · rw [h1] at hb
        cases hb
        exact .inr (Nat.le_refl _)
  have hf3 : Fr W w3 r.bl := by
    have f1 : Fr W w2 r.bl := Fr.of_grown hg (fun b hb => by simp only [FR.bl, List.mem_cons, Option.mem_toList]; exact .inr hb)
    have f2 : Fr w2 w3 [r.fb] := Fr.of_grown hg3 (fun b hb => by cases hb; exact List.mem_singleton.2 rfl)
    exact f1.trans f2 (fun b hb => .inl (by rw [List.mem_singleton] at hb; rw [hb]; simp [FR.bl]))
  have hD3 : DskR w3 p m (putR r' rs) (R : Int) (u : Int) left false armed := hD.file hu hr (by rw [hr']) (by rw [hr']) hf3 hat hbl (by rw [hr']; exact hkA)
  obtain ⟨w4, hw4⟩ : ∃ w4, w4 = w3.setCell ⟨p, 2, none⟩ (.int .i64 ((u : Int) + (n : Int))) := ⟨_, rfl⟩
  have hD4 : DskR w4 p m (putR r' rs) (R : Int) ((u : Int) + (n : Int)) left false armed := by
    rw [hw4]
    exact hD3.turn (Fr.set w3 p 2 _) (heap_setCell_same _ _ _ _ _ _ hD3.1)
  have hF4 : Fr w w4 (allB p m rs) := by
    have f1 : Fr w w3 (allB p m rs) := hFW.trans hf3 (fun b hb => .inl (mem_file hr hb))
    have f2 : Fr w3 w4 [p] := by rw [hw4]; exact Fr.set w3 p 2 _
    exact f1.trans f2 (fun b hb => .inl (by rw [List.mem_singleton] at hb; rw [hb]; exact mem_head))
  have hmem : ∀ b ∈ allB p m (putR r' rs), b ∈ allB p m rs ∨ w.heap.size ≤ b := by
    have := mem_putR (p := p) (m := m) (w := W) hu hr hbl
    rw [HZW.out] at this
    exact this
  have d0' := cell_of_row w2 r.fb 0 _ _ _ hfb2
  have ff' := frozen_of_row w2 r.fb 0 _ _ hfb2
  have c2' : w2.cell? ⟨p, 2, none⟩ = some (.int .i64 (u : Int)) := cell_of_row w2 p 2 _ _ _ hp2
  have fp' := frozen_of_row w2 p 2 _ _ hp2
  have hnm : r'.name = r.name := by rw [hr']
  have hdt : r'.dat = r.dat ++ ys := by rw [hr']
  have hsf : r'.saf = r.saf := by rw [hr']
  have HW3 := Lib.hid hw3
  have HW4 := Lib.hid hw4
  have HN := Lib.hid hN
  have HR := Lib.hid (show r'.name = r.name ∧ r'.dat = r.dat ++ ys ∧ r'.saf = r.saf from ⟨hnm, hdt, hsf⟩)
  have HF4 := Lib.hid hF4
  have HMEM := Lib.hid hmem
  have HD4 := Lib.hid hD4
  clear hgs hfb2 hp2 hr' hlen hkA hg3 hat hbl hf3 hD3 hF4 hmem hnm hdt hsf hA hg hk hw3 hw4 hN hfa hD c0 c1 c2 c3 c4 c5 d0 d1 hown hD4 hFW
  rw [← HN.out]
  go_wp2_with fail
  rw [← HW3.out, ← HW4.out]
  have e1 : (u : Int) + (n : Int) = ((u + n : Nat) : Int) := by omega
  refine (turn_zero HD4.out hl).mono ?_
  rintro e w5 ⟨rfl, hH⟩
  have hfin : RetFile w p m rs r (r.dat ++ ys) r.saf R ((u + n : Nat) : Int) (tL armed left) (tD false armed left) (tA armed left) (.int .i64 (tE armed left)) (.returned (.int .i64 (tE armed left))) w5 := by
    refine ⟨rfl, r', HR.out.1, HR.out.2.1, HR.out.2.2, ?_, ?_, HMEM.out⟩
    · rw [← e1]
      exact HD4.out.turn hH.1 hH.2
    · exact HF4.out.trans hH.1 (fun b hb => .inl (by rw [List.mem_singleton] at hb; rw [hb]; exact mem_head))
  have HFIN := Lib.hid hfin
  clear hfin hH e1
  go_wp2
  go_ret
  exact HFIN.out
end
end Go.Proofs.Ytcclhkoggijkaaa
namespace Go.Proofs.Ytcclhkoggijkaaa
open Go Go.RowKit

/-- What a list that is picked out of another comes to. -/
def RetPick (w : World) (es : List En) (us : List Value) (e : Ending) (w' : World) : Prop :=
  ∃ L k d vs, e = .returned (.slice L k d) ∧ OwnE w' w.heap.size L k d vs ∧ EVs w' es vs ∧ es.length = k ∧ Below w.heap.size w w' ∧ ∀ u ∈ vs, u ∈ us
theorem RetPick.out {w : World} {es : List En} {us : List Value} {e : Ending} {w' : World} (h : RetPick w es us e w') : ∃ L k d vs, e = .returned (.slice L k d) ∧ OwnE w' w.heap.size L k d vs ∧ EVs w' es vs ∧ es.length = k ∧ Below w.heap.size w w' ∧ ∀ u ∈ vs, u ∈ us := h
theorem RetPick.res {w : World} {es : List En} {us : List Value} {e : Ending} {w' : World} (h : RetPick w es us e w') : ∃ L k d, e = .returned (.slice L k d) ∧ REs w' L k es ∧ k ≤ d ∧ Below w.heap.size w w' := by
  obtain ⟨L, k, d, vs, h1, h2, h3, h4, h5, _⟩ := h
  exact ⟨L, k, d, h1, REs.mk h3 h2.rd h4, h2.cap.1, h5⟩
/-- 'So far picked.' -/
def Pck (w : World) (us : List Value) (es : List En) (L : Option Addr) (k d : Nat) (wr : World) : Prop :=
  ∃ vs, OwnE wr w.heap.size L k d vs ∧ EVs w es vs ∧ es.length = k ∧ Below w.heap.size w wr ∧ ∀ u ∈ vs, u ∈ us
theorem Pck.zero (w : World) (us : List Value) : Pck w us [] none 0 0 w := ⟨[], OwnE.nil _ _, rfl, rfl, Below.refl _ _, fun u hu => by cases hu⟩
theorem Pck.below {w wr w' : World} {us : List Value} {es : List En} {L : Option Addr} {k d : Nat} (h : Pck w us es L k d wr) (hb : Below wr.heap.size wr w') : Pck w us es L k d w' := by
  obtain ⟨vs, h1, h2, h3, h4, h5⟩ := h
  exact ⟨vs, h1.below hb, h2, h3, belowT' h4 hb, h5⟩
theorem Pck.bel {w wr : World} {us : List Value} {es : List En} {L : Option Addr} {k d : Nat} (h : Pck w us es L k d wr) : Below w.heap.size w wr := by
  obtain ⟨vs, h1, h2, h3, h4, h5⟩ := h
  exact h4
theorem Pck.len {w wr : World} {us : List Value} {es : List En} {L : Option Addr} {k d : Nat} (h : Pck w us es L k d wr) : es.length = k := by
  obtain ⟨vs, h1, h2, h3, h4, h5⟩ := h
  exact h3
theorem Pck.ret {w wr : World} {us : List Value} {es : List En} {L : Option Addr} {k d : Nat} (h : Pck w us es L k d wr) : RetPick w es us (.returned (.slice L k d)) wr := by
  obtain ⟨vs, h1, h2, h3, h4, h5⟩ := h
  exact ⟨L, k, d, vs, rfl, h1, h2.below h4, h3, h4, h5⟩
theorem Pck.snoc {w w4 : World} {us vs : List Value} {es : List En} {L' : Option Addr} {k d' : Nat} {x : En} {v0 v1 v2 v3 : Value} (h2 : EVs w es vs) (h3 : es.length = k) (h5 : ∀ u ∈ vs, u ∈ us)
    (hx : EV w x v0 v1 v2 v3) (hm : ∀ u ∈ [v0, v1, v2, v3], u ∈ us) (o4 : OwnE w4 w.heap.size L' (k + 1) d' (vs ++ [v0, v1, v2, v3])) (b4 : Below w.heap.size w w4) : Pck w us (es ++ [x]) L' (k + 1) d' w4 :=
  ⟨vs ++ [v0, v1, v2, v3], o4, h2.app (EVs.one hx), by simp [h3], b4, fun u hu => by
    rcases List.mem_append.1 hu with h | h
    · exact h5 u h
    · exact hm u h⟩
theorem mem4 {w : World} {A : Option Addr} {n k b off : Nat} {es : List En} {ovs : List Value} (hv : EVs w es ovs) (hd : RdV w A (n * 4) ovs) (hl : es.length = n) (hA : A = some ⟨b, off, none⟩) (hk : k < n) :
    ∃ e v0 v1 v2 v3, es[k]? = some e ∧ w.cell? ⟨b, off + k * 4, none⟩ = some v0 ∧ w.cell? ⟨b, off + k * 4 + 1, none⟩ = some v1 ∧
      w.cell? ⟨b, off + k * 4 + 2, none⟩ = some v2 ∧ w.cell? ⟨b, off + k * 4 + 3, none⟩ = some v3 ∧ EV w e v0 v1 v2 v3 ∧ ∀ u ∈ [v0, v1, v2, v3], u ∈ ovs := by
  subst hA
  obtain ⟨b', off', e, hb, hc⟩ := hd.2 (by omega)
  injection e with e
  injection e with e1 e2
  subst e1 e2
  obtain ⟨x, hx⟩ : ∃ x, es[k]? = some x := ⟨_, List.getElem?_eq_getElem (by omega)⟩
  obtain ⟨v0, v1, v2, v3, e0, e1, e2, e3, g0⟩ := hv.at_ k hx
  refine ⟨x, v0, v1, v2, v3, hx, hc _ _ e0, ?_, ?_, ?_, g0, fun u hu => ?_⟩
  · rw [Nat.add_assoc]; exact hc _ _ e1
  · rw [Nat.add_assoc]; exact hc _ _ e2
  · rw [Nat.add_assoc]; exact hc _ _ e3
  · simp only [List.mem_cons, List.not_mem_nil, or_false] at hu
    rcases hu with rfl | rfl | rfl | rfl
    · exact List.mem_of_getElem? e0
    · exact List.mem_of_getElem? e1
    · exact List.mem_of_getElem? e2
    · exact List.mem_of_getElem? e3
theorem filter_snoc {es : List En} {k : Nat} {x : En} {p : En → Bool} (hx : es[k]? = some x) : (es.take (k + 1)).filter p = (es.take k).filter p ++ (if p x then [x] else []) := by
  rw [List.take_add_one, hx, List.filter_append]
  simp only [Option.toList, List.filter_cons, List.filter_nil]
end Go.Proofs.Ytcclhkoggijkaaa
namespace Go.Proofs.Ytcclhkoggijkaaa
open Go Go.RowKit

section
variable {w : World} {A : Option Addr} {n c : Nat} {es : List En}
set_option maxRecDepth 100000 in
set_option maxHeartbeats 4000000 in
theorem mgOwn_any (h : REs w A n es) (hn : n ≤ 2097152) (hs : ∀ x ∈ es, SzE x) : Calls Try.prog 136 #[.slice A n c] w (RetRow w es) := by
  have HL := Lib.hid h.len
  have HS := Lib.hid hs
  obtain ⟨i, hi, hz, hsz, hby⟩ := info_parts info_ent
  obtain ⟨wm, hm1, hm2, hm3⟩ := run_make_own (P := Try.prog) (w := w) w.heap.size 22 37 i _ 4 Try.underlying22 hi hz hsz .i64 .i64 n (by rw [hby]; omega) (by unfold maxLen; omega) (Nat.le_refl _)
  have hbm : Below w.heap.size w wm := (Below.refl _ _).grown hm3 (Nat.le_refl _) (fun k hk => by cases hk)
  have HZ : Hid (RowE w w.heap.size (some ⟨w.heap.size, 0, none⟩) 0 n [] wm) := Lib.hid ⟨[], hm2, rfl, OffW.nil _, rfl, hbm, hbm.size, Fam.nil _ _⟩
  clear hs hm2 hm3 hbm hi hz hsz hby
  go_enter Try.func136, Try.ntmps136
  go_wp2_with fail
  go_loopw [3, 11] (fun s3 s11 wr => ∃ (k d : Nat) (L : Option Addr), k ≤ n ∧ s11 = .int .i64 (k : Int) ∧ s3 = .slice L k d ∧ RowE w w.heap.size L k d (es.take k) wr) (fun _ s _ => n - (intOf s).toNat)
  case atStart => exact ⟨0, n, _, Nat.zero_le _, rfl, rfl, HZ.out⟩
  case round =>
    obtain ⟨k, d, L, hk, rfl, rfl, hrow⟩ := hrel
    have HR := Lib.hid hrow
    have sw := hrow.size
    have hR : REs wr A n es := h.below hrow.bel
    clear hrow
    by_cases hlt : k < n
    · obtain ⟨b, off, rfl, hbl⟩ := hR.pos (by omega)
      obtain ⟨x, v0, v1, v2, v3, hx, m0, m1, m2, m3, hev⟩ := hR.at_ k hlt
      have hsx := HS.out x (List.mem_of_getElem? hx)
      have hwf := hR.wf x (List.mem_of_getElem? hx)
      obtain ⟨K, kn, kc, V, vn, vc, rfl, rfl, rfl, rfl, _⟩ := hev.parts
      have HXK := Lib.hid hx
      obtain ⟨U0, hU⟩ : ∃ U0, U0 = wr.alloc (.cells #[.slice K kn kc, .int .u64 (x.seq : Int), .int .u8 (x.kind : Int), .slice V vn vc] 37) := ⟨_, rfl⟩
      have bU : Below wr.heap.size wr U0 := by rw [hU]; exact (Below.refl _ _).alloc (Nat.le_refl _) _
      have HEN := Lib.hid (mgEntry_any (hev.below bU) hsx)
      have HRU := Lib.hid (HR.out.below bU)
      have HU := Lib.hid hU
      have su := bU.size
      have zU : Cl U0 wr.heap.size #[.slice K kn kc, .int .u64 (x.seq : Int), .int .u8 (x.kind : Int), .slice V vn vc] 37 := by rw [hU]; exact Cl.new _ _ _
      obtain ⟨z0, z1, z2, z3, _⟩ := zU.c4
      clear hx hev hR hU bU HR zU
      go_upto_region 5 with (fail)
      rw [← HU.out]
      go_wp2_with fail
      with_reducible refine HEN.out.mono ?_
      rintro e w2 ⟨K2, kn2, kc2, V2, vn2, vc2, rfl, o1, o2, b2, dj⟩
      obtain ⟨vs, q1, q2, q3, q4, q5, q6, q7⟩ := HRU.out
      have HFM := Lib.hid (fam_two o1 o2 dj)
      have Q7 := Lib.hid q7
      have s2 := b2.size
      have HEO : Hid (EO w.heap.size w2 x (.slice K2 kn2 kc2) (.int .u64 (x.seq : Int)) (.int .u8 (x.kind : Int)) (.slice V2 vn2 vc2)) := Lib.hid ⟨K2, kn2, kc2, V2, vn2, vc2, rfl, rfl, rfl, rfl, o1.mono q6, o2.mono q6, hwf⟩
      have HOF : Hid (OffW [.slice K2 kn2 kc2, .int .u64 (x.seq : Int), .int .u8 (x.kind : Int), .slice V2 vn2 vc2] (blk L)) := Lib.hid (EO.off (base := U0.heap.size) (w := w2) (e := x) ⟨K2, kn2, kc2, V2, vn2, vc2, rfl, rfl, rfl, rfl, o1, o2, hwf⟩ (fun g hg => .inl (q1.lt g hg).2))
      have HB2 := Lib.hid b2
      have Q1 := Lib.hid q1
      have Q2 := Lib.hid q2
      have Q3 := Lib.hid q3
      have Q4 := Lib.hid q4
      have Q5 := Lib.hid q5
      have hcell : ∀ u ∈ [Value.slice K2 kn2 kc2, .int .u64 (x.seq : Int), .int .u8 (x.kind : Int), .slice V2 vn2 vc2], u.oneCell' = true := HEO.out.ev.cells
      have HCL := Lib.hid hcell
      clear o1 o2 b2 q1 q2 q3 q4 q5 q7 dj hcell m0 m1 m2 m3 z0 z1 z2 z3
      go_wp2_with (at_builtin; refine wpList_app4t w2 rfl _ _ 22 rfl w.heap.size _ 64 Try.underlying22 info_ent rfl L k d vs rfl (Q1.out.below HB2.out) _ _ _ _ HCL.out w2.heap.size rfl rfl ?_ ?_ ?_ ?_)
      · omega
      · omega
      · omega
      intro L2 d2 w4 hG4 hg4 hb4
      have HQ : Hid (RowE w w.heap.size L2 (k + 1) d2 (es.take (k + 1)) w4) := Lib.hid (by
        rw [List.take_add_one, HXK.out]
        exact rowE_snoc Q1.out Q2.out Q3.out Q4.out Q5.out q6 Q7.out HB2.out HEO.out HOF.out HFM.out hG4 hg4 hb4)
      clear hG4 hg4 hb4
      go_wp2_with fail
      go_roundw
      case rel => exact ⟨k + 1, d2, L2, by omega, by go_num, rfl, HQ.out⟩
      case measure => simp [intOf]; omega
    · obtain rfl : k = n := by omega
      have htk := take_all HL.out hlt
      rw [htk] at HR
      clear htk
      go_wp2
      go_ret
      exact ⟨L, k, d, rfl, HR.out⟩
end
end Go.Proofs.Ytcclhkoggijkaaa
namespace Go.Proofs.Ytcclhkoggijkaaa
open Go Go.RowKit

/-- One entry more appended onto a row of entries, at a step of a region that draws its order. -/
theorem step_app4 {P : Program} (w : World) {ops : Array Oper} {o : Oper} {a : Act} {K : Act → World → Prop} {Q : Exit → Act → World → Prop} {E : Prop} (hgd : o.guard = none) (s x : Operand) (tt : TypeId)
    (ho : o.op = .call { callee := .builtin .append, args := #[s, x], argTypes := #[tt, tt] })
    (base : Nat) (z : Value) (by_ : Nat) (ht : P.underlying tt = some (.slice 37)) (hi : (P.info? 37).map (fun i => (i.zero, i.size, i.bytes)) = some (some z, 4, by_)) (hz1 : z.cells.size = 4)
    (A : Option Addr) (n c : Nat) (vs : List Value) (hs : a.eval s = .slice A n c) (hown : OwnE w base A n c vs)
    (ad : Addr) (m d : Nat) (ys : List Value) (hx : a.eval x = .slice (some ad) m d) (hr : RdV w (some ad) (m * 4) ys) (hm : 0 < m) (h1 : ∀ u ∈ ys, u.oneCell' = true)
    (hn : n + m ≤ maxLen) (hby : (n + m) * by_ ≤ 140737488355328) (hbase : base ≤ w.heap.size)
    (h : ∀ A' c' w', OwnE w' base A' (n + m) c' (vs ++ ys) → w.grownBy w' (blk A) → K (a.put o.dst (.slice A' (n + m) c')) w') :
    if Region.wanted o (yielded ops a.tmps) = true then Oper.wp P o a w K Q else E := by
  have hw : Region.wanted o (yielded ops a.tmps) = true := by simp [Region.wanted, hgd]
  rw [if_pos hw]
  obtain ⟨i, hi, hz, hsz, hby2⟩ := info_parts hi
  obtain ⟨b, off, e, _, hc⟩ := hr.2 (by omega)
  injection e with e
  subst e
  refine wp_append_own w s x tt ho base 37 i z 4 by_ ht hi hz hsz hby2 hz1 (by decide) (.slice A n c) n vs hs hown ⟨b, off, none⟩ m d ys hx hr.1 (fun j u hj => by rw [Addr.add_lit]; exact hc j u hj) h1 hn hby hbase ?_
  intro v' w' k1 k2 _
  obtain ⟨A', c', rfl⟩ : ∃ A' c', v' = .slice A' (n + m) c' := by
    rcases k1.2 with ⟨h3, h4⟩ | ⟨g, cap, cur, h3, _⟩
    · exact ⟨none, 0, by rw [h3, h4]⟩
    · exact ⟨_, _, h3⟩
  rw [own_blk] at k2
  exact h A' c' w' k1 k2
/-- Rows of other kinds lie in other blocks than an entry's bytes. -/
theorem eos_off {base : Nat} {w : World} {t : TypeId} {s b1 n c j : Nat} {L : Option Addr} {us : List Value} (k : w.ownsRow b1 t s (.slice L n c) j us) (hne : t ≠ 5) : ∀ {es : List En} {vs : List Value}, EOs base w es vs → OffW vs (blk L)
  | [], _, h => by rw [show _ = [] from h]; exact OffW.nil _
  | e :: es, vs, h => fun g hg A m d hv => by
    obtain ⟨v0, v1, v2, v3, r, rfl, ⟨K, kn, kc, V, vn, vc, rfl, rfl, rfl, rfl, o1, o2, _⟩, h2⟩ := h
    have ih := eos_off k hne h2 g hg A m d
    simp only [List.mem_cons] at hv
    rcases hv with e | e | e | e | e
    · injection e with e1 e2 e3
      rw [e1]
      exact fun h => row_ne k o1 hne g hg h
    · cases e
    · cases e
    · injection e with e1 e2 e3
      rw [e1]
      exact fun h => row_ne k o2 hne g hg h
    · exact ih e
end Go.Proofs.Ytcclhkoggijkaaa
namespace Go.Proofs.Ytcclhkoggijkaaa
open Go Go.RowKit

theorem szL_take (es : List En) (k : Nat) : szL (es.take k) ≤ szL es := by
  have := szL_app (es.take k) (es.drop k)
  rw [List.take_append_drop] at this
  omega
theorem szL_snoc {es : List En} {k : Nat} {x : En} (h : es[k]? = some x) : szL (es.take (k + 1)) = szL (es.take k) + wE x := by
  rw [List.take_add_one, h, szL_app]
  simp [szL]
theorem grow_set {w w' : World} {row : Option Nat} (h : w.grownBy w' row) (p : Nat) (i : Nat) (v : Value) (hp : row = some p) : w.grownBy (World.setCell w' ⟨p, i, none⟩ v) row := by
  obtain ⟨h1, h2, h3, h4, h5⟩ := h
  have k := (Below.refl p w').setCell (p := ⟨p, i, none⟩) (Nat.le_refl _) v
  exact ⟨k.os.trans h1, k.tape.trans h2, k.output.trans h3, Nat.le_trans h4 k.size, fun b hb hne => by
    have hbp : b ≠ p := fun e => hne (by rw [e]; exact hp.symm)
    rw [heap_setCell_other _ _ _ _ hbp]
    exact h5 b hb hne⟩
end Go.Proofs.Ytcclhkoggijkaaa
namespace Go.Proofs.Ytcclhkoggijkaaa
open Go Go.RowKit

theorem ownV_box8 (w : World) (t : TypeId) (base : Nat) (vs : List Value) (n : Nat) (hl : vs.length = n) (hn : n ≤ 1024) (hb : base ≤ w.heap.size) (cs : Array Value) (hc : cs = vs.toArray) (g : Nat) (hg : g = w.heap.size) : OwnV t (w.alloc (.cells cs t)) base (some ⟨g, 0, none⟩) n n vs := by
  subst hc hg
  refine ⟨by simp [hl], .inr ⟨w.heap.size, n, vs.toArray, rfl, hb, heap_alloc_new w _, Nat.le_refl _, by unfold maxLen; omega, by simp [hl], ?_⟩⟩
  simp only [Nat.mul_one]
  exact List.take_of_length_le (by simp [hl])
theorem Rd.cst8 (w : World) (e : TypeId) (n : Nat) (xs : List UInt8) (hn : xs.length = n) (vs : Array Value) (hv : vs = (xs.map cv).toArray) (fr : Nat × Nat) (g : Nat) (hg : g = w.heap.size) :
    Rd (w.alloc (.cells vs e fr)) (some ⟨g, 0, none⟩) n xs := by
  subst hv hg
  refine ⟨hn, fun _ => ⟨w.heap.size, 0, rfl, by simp, fun i x hx => ?_⟩⟩
  have h := cell_of_row (w.alloc (.cells (xs.map cv).toArray e fr)) w.heap.size (0 + i) (xs.map cv).toArray e fr (heap_alloc_new w _)
  rw [h]
  simp [hx, cv]

def e81 : En := ⟨[97, 98], 5, 1, [120]⟩
def e82 : En := ⟨[97, 98, 99], 7, 2, []⟩
theorem b8 : (buildE 2 [e81, e82]).2 = 0 ∧ (buildE 2 [e81, e82]).1.length = 30 ∧ (buildE 2 [e81, e82]).1[8]? = some 0 ∧ (buildE 2 [e81, e82]).1[9]? = some 2 ∧ (buildE 2 [e81, e82]).1[10]? = some 5 ∧ (buildE 2 [e81, e82]).1[16]? = some 2 ∧ (buildE 2 [e81, e82]).1[17]? = some 1 ∧ (buildE 2 [e81, e82]).1[18]? = some 7 := by decide +kernel
end Go.Proofs.Ytcclhkoggijkaaa
namespace Go.Proofs.Ytcclhkoggijkaaa
open Go Go.RowKit

def lenV : Value → Nat
  | .slice _ n _ => n
  | _ => 0
/-- What parse hands back: the entries, the every; or none. -/
def RetPa8 (w : World) (r : Option (List En × Nat)) (e : Ending) (w' : World) : Prop :=
  (r = none ∧ e = .returned (.tuple #[.slice none 0 0, .int .i64 0, .bool false]) ∧ Below w.heap.size w w') ∨
  ∃ es ev L d, r = some (es, ev) ∧ e = .returned (.tuple #[.slice L es.length d, .int .i64 (ev : Int), .bool true]) ∧ RowE w w.heap.size L es.length d es w' ∧ es.length ≤ 16777216 ∧ ev ≤ 16777216
/-- What stands at the head of parse's loop. -/
def PRel (w : World) (p : Nat) (E : Option Addr) (en ec : Nat) (ys : List UInt8) (sec : Int) (s10 s11 s12 : Value) (wr : World) : Prop :=
  ∃ (f a i d hn hc ev : Nat) (es : List En) (L H : Option Addr) (vs : List Value), s10 = .int .i64 (ev : Int) ∧ s11 = .slice L i d ∧ s12 = .slice H hn hc ∧
    parR ys sec (en + 1) 0 [] 0 = parR ys sec f a es ev ∧ a ≤ en ∧ en < a + f ∧ i ≤ a ∧ ev ≤ i ∧ Rdr wr p E en ec (a, false) ∧ PR w.heap.size wr.heap.size p L i d es wr vs ∧
    Rd wr H hn (lastK es) ∧ hn ≤ hc ∧ (H = none → hc = 0) ∧ blk H ≠ some p ∧ hn ≤ 1024 ∧ Below w.heap.size w wr
set_option maxRecDepth 100000 in
set_option maxHeartbeats 16000000 in
theorem parse_any (A : Option Addr) (n c : Nat) (xs : List UInt8) (w : World) (hx : Rd w A n xs) (hn : n ≤ 16777216) (hnc : n ≤ c) (hnil : A = none → c = 0) :
    Calls Try.prog 162 #[.slice A n c] w (RetPa8 w (parB xs)) := by
  have hxl := hx.len
  have HSP := Lib.hid (split_any A n c xs w hx (by omega) hnc hnil)
  cases hsb : splitB xs with
  | none =>
    have hp : parB xs = none := by unfold parB; rw [hsb]
    have HP := Lib.hid hp
    clear hp hx hxl
    go_enter Try.func162, Try.ntmps162
    go_wp2_with fail
    refine HSP.out.mono ?_
    rintro e w1 ⟨⟨q, hq⟩, ⟨_, rfl⟩ | ⟨ys, zs, B1, n1, c1, B2, n2, c2, h0, _⟩⟩
    · have HQ := Lib.hid hq
      clear hq
      go_wp2_with fail
      exact bodyPost_ret (v := .tuple #[.slice none 0 0, .int .i64 0, .bool false]) (by simp [results, Try.f162, go_sem]; try rfl) rfl (.inl ⟨HP.out, rfl, by rw [HQ.out]; exact below_drewN (Below.refl _ _) q⟩)
    · rw [hsb] at h0
      cases h0
  | some yz =>
    obtain ⟨ys, zs⟩ := yz
    obtain ⟨sec, hsec⟩ : ∃ sec : Int, sec = if 8 ≤ zs.length then (numK (zs.drop 4) 4 : Int) else -1 := ⟨_, rfl⟩
    have hp : parB xs = match parR ys sec (ys.length + 1) 0 [] 0 with
      | none => none
      | some (es, ev) => some (es, if sec < 0 then max es.length 1 else ev) := by
      unfold parB
      rw [hsb]
      simp only
      rw [← hsec]
      all_goals (cases parR ys sec (ys.length + 1) 0 [] 0 <;> rfl)
    have HP := Lib.hid hp
    have HSEC := Lib.hid hsec
    have HSB := Lib.hid hsb
    clear hp hsec hsb
    go_enter Try.func162, Try.ntmps162
    go_wp2_with fail
    refine HSP.out.mono ?_
    rintro e w1 ⟨⟨q, hq⟩, ⟨h0, _⟩ | ⟨ys', zs', E, en, ec, Z, zn, zc, h0, rfl, hec, hzc, rE, rZ, hEn, hZn, hEA, hlen⟩⟩
    · rw [HSB.out] at h0
      cases h0
    · rw [HSB.out] at h0
      injection h0 with h0
      injection h0 with h01 h02
      subst h01 h02
      have rE1 : Rd w1 E en ys := by rw [hq]; exact rE.drewN q
      have rZ1 : Rd w1 Z zn zs := by rw [hq]; exact rZ.drewN q
      have b1 : Below w.heap.size w w1 := by rw [hq]; exact below_drewN (Below.refl _ _) q
      have s1 : w1.heap.size = w.heap.size := by rw [hq]; rfl
      have hsz : sec = if 8 ≤ zn then (numK (zs.drop 4) 4 : Int) else -1 := by rw [HSEC.out, rZ.len]
      have HSZ := Lib.hid hsz
      have HRZ := Lib.hid rZ1
      have HRE := Lib.hid rE1
      have HB1 := Lib.hid b1
      have HREw := Lib.hid rE
      have hA0 : 0 < n := by have := hxl; omega
      have hpe : ∀ p, w.heap.size ≤ p → blk E ≠ some p := fun p hp e => by
        rcases hEA with e2 | e2
        · rw [e2] at e; cases e
        · obtain ⟨bA, oA, eA, hbA⟩ := hx.pos hA0
          rw [e2, eA] at e
          injection e with e
          simp only at e
          omega
      have HPE := Lib.hid hpe
      have HS1 := Lib.hid s1
      have hznn : zn ≤ 16777216 := by omega
      have henn : en ≤ 16777216 := by omega
      clear hq rE rZ rE1 rZ1 b1 s1 hsz HSP hx hpe hEA
      go_upto_if 25 with (fail)
      go_cut [8] from 15 to 29 (fun s8 wx => s8 = .int .i64 sec ∧ ∃ q, wx = w1.drewN q)
      case first =>
        by_cases h8 : 8 ≤ zn
        · have h8i : (8 : Int) ≤ (zn : Int) := by omega
          obtain ⟨k, hk⟩ : ∃ k, k = numK (zs.drop 4) 4 := ⟨_, rfl⟩
          have hse : sec = (k : Int) := by rw [HSZ.out, if_pos h8, hk]
          have hsl : ∀ W : World, (Instr.slice 25 (.slice Z zn zc) (some (.int .i64 4)) none none).run Try.prog W = .ok (.slice (cutA Z 4 zc) (zn - 4) (zc - 4)) W := cut_l (k := 4) Try.underlying25 elem_bytes size_u8 Z (by omega)
          have HGW : Hid (Calls Try.prog 196 #[.slice (cutA Z 4 zc) (zn - 4) (zc - 4)] w1 (RetCo w1 k)) := Lib.hid (by
            rw [hk]
            have h := HRZ.out.cut (k := 4) (m := zn) (cap := zc) (by omega) (Nat.le_refl _) hzc
            rw [List.take_of_length_le (by have := HRZ.out.len; omega)] at h
            exact getWord8_any _ _ _ _ w1 h (by omega) (by omega) (by omega))
          obtain ⟨zm, hzm⟩ : ∃ zm, zm = zn - 4 := ⟨_, rfl⟩
          rw [← hzm] at hsl HGW
          have HSE := Lib.hid hse
          clear hk hse hzm
          go_wp2_with fail
          with_reducible refine HGW.out.mono ?_
          rintro e w2 ⟨rfl, q2, hq2⟩
          have HQ2 := Lib.hid hq2
          clear hq2
          go_wp2_with fail
          go_meet
          case rel => exact ⟨by rw [HSE.out], q2, HQ2.out⟩
        · have h8i : ¬ (8 : Int) ≤ (zn : Int) := by omega
          have hse : sec = -1 := by rw [HSZ.out, if_neg h8]
          have HSE := Lib.hid hse
          clear hse
          go_wp2_with fail
          go_meet
          case rel => exact ⟨by rw [HSE.out], 0, rfl⟩
      case rest =>
        obtain ⟨rfl, q2, hq2⟩ := hcut
        have bc : Below w.heap.size w wc := by rw [hq2]; exact below_drewN HB1.out q2
        have sc : wc.heap.size = w.heap.size := by rw [hq2, ← HS1.out]; rfl
        have hyl : ys.length = en := HRE.out.len
        have HYL := Lib.hid hyl
        obtain ⟨W, hW⟩ : ∃ W, W = wc.alloc (.cells #[.slice E en ec, .int .i64 0, .bool false] 266) := ⟨_, rfl⟩
        obtain ⟨p, hpw⟩ : ∃ p, p = wc.heap.size := ⟨_, rfl⟩
        have hWr : Rdr W p E en ec (0, false) := by rw [hW, hpw]; exact Cl.new _ _ _
        have bW : Below w.heap.size w W := by rw [hW]; exact bc.alloc (by omega) _
        have sW : p < W.heap.size := by rw [hW, hpw]; simp
        have hpge : w.heap.size ≤ p := by omega
        have HWR := Lib.hid (And.intro hWr bW)
        have HSW := Lib.hid sW
        have HW := Lib.hid hW
        have HPW := Lib.hid hpw
        clear hq2 bc sc hyl hWr bW sW hW hpw
        go_upto_region 8 with (fail)
        rw [← HW.out, ← HPW.out]
        go_wp2_with fail
        go_loopw [10, 11, 12] (fun s10 s11 s12 wr => PRel w p E en ec ys sec s10 s11 s12 wr ∧ p < wr.heap.size) (fun _ s _ _ => en + 1 - lenV s)
        case atStart => exact ⟨⟨en + 1, 0, 0, 0, 0, 0, 0, [], none, none, [], rfl, rfl, rfl, rfl, Nat.zero_le _, by omega, Nat.le_refl _, Nat.le_refl _, HWR.out.1, PR.zero _ _ _ _, Rd.nil _ _, Nat.le_refl _, fun _ => rfl, (fun h => by cases h), by omega, HWR.out.2⟩, HSW.out⟩
        case round =>
          obtain ⟨⟨f, a, i, d, hn2, hc2, ev, es, L, H, vs, rfl, rfl, rfl, hpar, hae, haf, hia, hevi, hRd, hPR, hH, hHc, hHn, hHp, hH1, hB⟩, hpl⟩ := hrel
          have hcl : Cl wr p #[.slice E en ec, .int .i64 (a : Int), .bool false] 266 := hRd
          obtain ⟨c0, c1, c2, f0, f1, f2⟩ := hcl.c3
          have HPAR := Lib.hid hpar
          have HB := Lib.hid hB
          have HPR := Lib.hid hPR
          have HRD := Lib.hid hRd
          have HHR := Lib.hid hH
          clear hpar hB hPR hRd hcl hH
          by_cases hlt : a < en
          · obtain ⟨f', rfl⟩ : ∃ f', f = f' + 1 := ⟨f - 1, by omega⟩
            obtain ⟨ev2, hev2⟩ : ∃ ev2, ev2 = if (a : Int) = sec then i else ev := ⟨_, rfl⟩
            have hev2i : ev2 ≤ i := by rw [hev2]; split <;> omega
            have HEV2 := Lib.hid hev2
            have hil : es.length = i := HPR.out.2.2.2.1
            have HIL := Lib.hid hil
            clear hev2 hil
            go_upto_if 40 with (fail)
            go_cut [10] from 37 to 43 (fun s10 wx => s10 = .int .i64 (ev2 : Int) ∧ wx = wr)
            case first =>
              by_cases hs : (a : Int) = sec
              · have he : ev2 = i := by rw [HEV2.out, if_pos hs]
                have t1 : ((a : Int) == sec) = true := by simpa using hs
                subst he
                go_wp2_with fail
                go_meet
                case rel => exact ⟨rfl, rfl⟩
              · have he : ev2 = ev := by rw [HEV2.out, if_neg hs]
                have t1 : ((a : Int) == sec) = false := by simpa using hs
                subst he
                go_wp2_with fail
                go_meet
                case rel => exact ⟨rfl, rfl⟩
            case rest =>
              obtain ⟨rfl, hwc⟩ := hcut
              rw [hwc]
              clear hwc wc
              have HEN := Lib.hid (entry_any wr p E en ec ys H hn2 hc2 (lastK es) a HRD.out (HREw.out.below HB.out) HHR.out hae (by omega) hec hEn (by omega) hHc (HPE.out p hpge) hHp hHn)
              have hstep : parR ys sec (f' + 1) a es ev = if badR ys (lastK es) a then none else parR ys sec f' (e7R ys a).2.1 (es ++ [entR ys (lastK es) a]) ev2 := by
                rw [parR, if_neg (by rw [HYL.out]; omega), HEV2.out, HIL.out]
              have HST := Lib.hid hstep
              clear hstep
              go_wp2_with fail
              with_reducible refine HEN.out.mono ?_
              intro e w2 hq
              obtain ⟨r2, g2, hcase⟩ := hq
              rcases hcase with ⟨hbad, rfl⟩ | ⟨hbad, K, kn, kc, V, vn, vc, rfl, oK, oV, dj⟩
              · have hfin : parB xs = none := by
                  rw [HP.out, HYL.out, HPAR.out, HST.out, hbad]
                  rfl
                have hb2 : Below w.heap.size w w2 := HB.out.grown g2 HB.out.size (fun k hk => by injection hk with hk; omega)
                have HF := Lib.hid (And.intro hfin hb2)
                clear hbad r2 g2 hfin hb2
                go_wp2_with fail
                exact bodyPost_ret (v := .tuple #[.slice none 0 0, .int .i64 0, .bool false]) (by simp [results, Try.f162, go_sem]; try rfl) rfl (.inl ⟨HF.out.1, rfl, HF.out.2.alloc HF.out.2.size _⟩)
              · obtain ⟨x, hxe⟩ : ∃ x, x = entR ys (lastK es) a := ⟨_, rfl⟩
                rw [← hxe] at oK oV ⊢
                have hkl : x.key.length ≤ 1024 := by rw [hxe]; exact entR_key hbad
                have hwf : U64 x.seq ∧ x.kind < 256 := by
                  rw [hxe]
                  refine ⟨?_, ?_⟩
                  · have := (numR_le (xs := ys) (s := (e2R ys a).2) (e_le (by rw [HYL.out]; exact hae)).2.1).2
                    exact this
                  · exact UInt8.toNat_lt _
                have hpar2 : parR ys sec (en + 1) 0 [] 0 = parR ys sec f' (e7R ys a).2.1 (es ++ [x]) ev2 := by rw [HPAR.out, HST.out, hbad, hxe]; rfl
                have h7b := (badR_no hbad).1
                have h7l : (e7R ys a).2.1 ≤ en := by rw [← HYL.out]; exact (e_le (by rw [HYL.out]; exact hae)).2.2.2.2.2.2
                have h7m : a < (e7R ys a).2.1 := e7_more (by rw [HYL.out]; exact hae) h7b
                have hr2 : Rdr w2 p E en ec ((e7R ys a).2.1, false) := by
                  have := r2
                  unfold Rdr at this ⊢
                  rw [h7b] at this
                  exact this
                have s2 := g2.size
                have hb2 : Below w.heap.size w w2 := HB.out.grown g2 HB.out.size (fun k hk => by injection hk with hk; omega)
                have hPR2 := HPR.out.kept g2
                obtain ⟨U, hU⟩ : ∃ U, U = w2.alloc (.cells #[.slice K kn kc, .int .u64 (x.seq : Int), .int .u8 (x.kind : Int), .slice V vn vc] 37) := ⟨_, rfl⟩
                obtain ⟨g3, hg3⟩ : ∃ g3, g3 = w2.heap.size := ⟨_, rfl⟩
                have bU : Below w2.heap.size w2 U := by rw [hU]; exact (Below.refl _ _).alloc (Nat.le_refl _) _
                have kU : Cl U g3 #[.slice K kn kc, .int .u64 (x.seq : Int), .int .u8 (x.kind : Int), .slice V vn vc] 37 := by rw [hU, hg3]; exact Cl.new _ _ _
                have sU := bU.size
                have hPRU := hPR2.below bU
                have oKU := oK.below bU
                have oVU := oV.below bU
                have hRU : Rdr U p E en ec ((e7R ys a).2.1, false) := (show Cl w2 p _ _ from hr2).below bU
                have hBU : Below w.heap.size w U := hb2.trans (bU.mono (by have := HB.out.size; omega))
                have hcell : ∀ u ∈ [Value.slice K kn kc, .int .u64 (x.seq : Int), .int .u8 (x.kind : Int), .slice V vn vc], u.oneCell' = true := by
                  intro u hu
                  simp only [List.mem_cons, List.not_mem_nil, or_false] at hu
                  rcases hu with rfl | rfl | rfl | rfl <;> rfl
                have hwb : w.heap.size ≤ wr.heap.size := HB.out.size
                have hkcap := oK.cap
                have hknil : K = none → kc = 0 := fun h => by have := oK.nil_of (by rw [h]; rfl); exact this.2.2
                have hknl := oK.len
                obtain ⟨y0, y1, y2, y3, _⟩ := kU.c4
                have HU := Lib.hid hU
                have HG3 := Lib.hid hg3
                have HPU := Lib.hid hPRU
                have HO := Lib.hid (And.intro oKU (And.intro oVU dj))
                have HRU := Lib.hid (And.intro hRU hBU)
                have HKU := Lib.hid kU
                have HWF := Lib.hid hwf
                have HP2 := Lib.hid hpar2
                have HCE := Lib.hid hcell
                have HKN := Lib.hid hknil
                have HKL := Lib.hid hknl
                have hkn2 : kn ≤ 1024 := by omega
                have hkc2 : kn ≤ kc := hkcap.1
                have hUl : wr.heap.size ≤ U.heap.size := by omega
                have HX := Lib.hid hxe
                have HS2 := Lib.hid s2
                clear hxe hbad oK oV dj r2 g2 hr2 hb2 hPR2 bU kU hPRU oKU oVU hRU hBU hcell hU hwf hpar2 hknil hknl hkcap h7b hkl HEN HST c0 c1 c2 f0 f1 f2 s2 sU
                go_upto_if 49 with (fail)
                rw [← HU.out, ← HG3.out]
                clear hg3
                go_wp2_with (at_builtin; refine wpList_app4t U rfl _ _ 22 rfl w.heap.size _ 64 Try.underlying22 info_ent rfl L i d vs rfl HPU.out.1 _ _ _ _ HCE.out U.heap.size rfl rfl ?_ ?_ ?_ ?_)
                · omega
                · omega
                · omega
                intro L2 d2 w4 hG4 hg4 hb4
                have hPR4 := pr_add HPU.out HO.out.1 HO.out.2.1 HO.out.2.2 HWF.out hwb hpl hUl hG4 hg4 hb4
                have s4 := hg4.size
                have hLp : blk L ≠ some p := HPU.out.2.2.2.2.2.2.1
                have hLb : ∀ b, blk L = some b → b < wr.heap.size := HPU.out.2.2.2.2.2.2.2.2
                have hR4 : Rdr w4 p E en ec ((e7R ys a).2.1, false) := ClG.grown HRU.out.1 hg4 hLp
                have k4 : Cl w4 g3 #[.slice K kn kc, .int .u64 (x.seq : Int), .int .u8 (x.kind : Int), .slice V vn vc] 37 := ClG.grown HKU.out hg4 (fun e => by have := hLb g3 e; have := HG3.out; have := HS2.out; omega)
                have rK4 : Rd w4 K kn x.key := (HO.out.1.kept hg4 (fun b hb e => by have h1 := (HO.out.1.lt b hb).1; have h2 := hLb b e; omega)).rd
                have hB4 : Below w.heap.size w w4 := HRU.out.2.grown hg4 (by omega) (fun k hk => (HPU.out.1.lt k hk).1)
                have hKp : blk K ≠ some p := fun e => by have := (HO.out.1.lt p e).1; omega
                obtain ⟨z0, z1, z2, z3, _⟩ := k4.c4
                have HF := Lib.hid (And.intro hPR4 (And.intro hR4 (And.intro rK4 (And.intro hB4 hKp))))
                clear hPR4 hR4 k4 rK4 hB4 hKp hG4 hg4 hb4 y0 y1 y2 y3 hLp hLb
                go_wp2_with fail
                go_roundw
                case rel =>
                  refine ⟨⟨f', (e7R ys a).2.1, i + 1, d2, kn, kc, ev2, es ++ [x], L2, K, _, rfl, rfl, rfl, HP2.out, h7l, by omega, by omega, by omega, HF.out.2.1, HF.out.1, ?_, hkc2, HKN.out, HF.out.2.2.2.2, hkn2, HF.out.2.2.2.1⟩, by omega⟩
                  rw [lastK_snoc]
                  exact HF.out.2.2.1
                case measure => simp [lenV]; omega
          · obtain rfl : a = en := by omega
            have hil : es.length = i := HPR.out.2.2.2.1
            have hf : parR ys sec f a es ev = some (es, ev) := by
              obtain ⟨f', rfl⟩ : ∃ f', f = f' + 1 := ⟨f - 1, by omega⟩
              rw [parR, if_pos (by rw [HYL.out]; exact Nat.le_refl _)]
            have hpb : parB xs = some (es, if sec < 0 then max i 1 else ev) := by rw [HP.out, HYL.out, HPAR.out, hf]; simp only [hil]
            have hrow : RowE w w.heap.size L i d es wr := HPR.out.row HB.out HB.out.size
            have HPB := Lib.hid hpb
            have HROW := Lib.hid hrow
            have HIL := Lib.hid hil
            clear hil hf hpb hrow
            by_cases hs : sec < 0
            · obtain ⟨mx, hmx⟩ : ∃ mx, mx = max i 1 := ⟨_, rfl⟩
              have hb : parB xs = some (es, mx) := by rw [HPB.out, if_pos hs, hmx]
              have hmi : mx ≤ 16777216 := by omega
              have HBB := Lib.hid hb
              have HMX := Lib.hid hmx
              clear hb hmx
              by_cases hi1 : i < 1
              · obtain rfl : i = 0 := by omega
                have hm1 : mx = 1 := by have := HMX.out; omega
                subst hm1
                go_wp2_with fail
                refine bodyPost_ret (v := .tuple #[.slice L 0 d, .int .i64 1, .bool true]) (by simp [results, Try.f162, go_sem]; try rfl) rfl (.inr ⟨es, 1, L, d, HBB.out, by rw [HIL.out]; rfl, by rw [HIL.out]; exact HROW.out, by rw [HIL.out]; omega, hmi⟩)
              · have hm1 : mx = i := by have := HMX.out; omega
                subst hm1
                go_wp2_with fail
                refine bodyPost_ret (v := .tuple #[.slice L mx d, .int .i64 (mx : Int), .bool true]) (by simp [results, Try.f162, go_sem]; omega) rfl (.inr ⟨es, mx, L, d, HBB.out, by rw [HIL.out], by rw [HIL.out]; exact HROW.out, by rw [HIL.out]; omega, hmi⟩)
            · have hb : parB xs = some (es, ev) := by rw [HPB.out, if_neg hs]
              have HBB := Lib.hid hb
              clear hb
              go_wp2_with fail
              refine bodyPost_ret (v := .tuple #[.slice L i d, .int .i64 (ev : Int), .bool true]) (by simp [results, Try.f162, go_sem]; try rfl) rfl (.inr ⟨es, ev, L, d, HBB.out, by rw [HIL.out], by rw [HIL.out]; exact HROW.out, by rw [HIL.out]; omega, by omega⟩)
end Go.Proofs.Ytcclhkoggijkaaa
namespace Go.Proofs.Ytcclhkoggijkaaa
open Go Go.RowKit Go.Maps

theorem putR_eq {r q : FR} {t : List FR} (h : q.name = r.name) : putR r (q :: t) = r :: t := by rw [putR, if_pos h]
theorem putR_lt {r q : FR} {t : List FR} (h : q.name ≠ r.name) (h2 : r.name < q.name) : putR r (q :: t) = r :: q :: t := by rw [putR, if_neg h, if_pos h2]
theorem putR_gt {r q : FR} {t : List FR} (h : q.name ≠ r.name) (h2 : ¬ r.name < q.name) : putR r (q :: t) = q :: putR r t := by rw [putR, if_neg h, if_neg h2]
theorem putR_putR {a b : FR} (e : a.name = b.name) : ∀ {rs : List FR}, rsUp rs → putR a (putR b rs) = putR a rs
  | [], _ => putR_eq e.symm
  | q :: t, hu => by
    unfold rsUp at hu
    rw [List.pairwise_cons] at hu
    by_cases h1 : q.name = b.name
    · rw [putR_eq h1, putR_eq e.symm, putR_eq (by rw [e]; exact h1)]
    · by_cases h2 : b.name < q.name
      · rw [putR_lt h1 h2, putR_eq e.symm, putR_lt (by rw [e]; exact h1) (by rw [e]; exact h2)]
      · rw [putR_gt h1 h2, putR_gt (by rw [e]; exact h1) (by rw [e]; exact h2), putR_gt (by rw [e]; exact h1) (by rw [e]; exact h2), putR_putR e hu.2]
theorem mem_putR_self (r : FR) : ∀ rs : List FR, r ∈ putR r rs
  | [] => by simp [putR]
  | q :: t => by
    simp only [putR]
    split
    · exact List.mem_cons_self ..
    · split
      · exact List.mem_cons_self ..
      · exact List.mem_cons_of_mem _ (mem_putR_self r t)
theorem putR_up {r : FR} {rs : List FR} (h : rsUp rs) : rsUp (putR r rs) := by
  have h1 : risingF (rs.map FR.val) := by
    unfold risingF
    rw [List.pairwise_map]
    exact h
  have h2 := putF_up (f := r.val) h1
  rw [← putR_val] at h2
  exact rsUp_of h2

section
variable {w w' : World} {p : Nat} {m : Option Nat} {rs : List FR} {room used left : Int} {dead armed : Bool}
theorem put_any (r : FR) (h : DskR w p m rs room used left dead armed) (hn : ∀ q ∈ rs, q.name ≠ r.name) (hl : r.name.length ≤ 1099511627776) (hrs : rs.length ≤ 1099511627776) :
    Calls Try.prog 66 #[.pointer (some ⟨p, 0, none⟩), .string (tx r.name), .pointer (some ⟨r.fb, 0, none⟩)] w (RetPut w p m (putR r rs) room used left dead armed) := by
  obtain ⟨h1, h2, h3, h4⟩ := h
  rcases h2 with ⟨rfl, rfl⟩ | ⟨b, Dm, rfl, ho, hm⟩
  · exact put_nil r h1 hl
  · exact put_some r h1 ho hm (h4.2.1 b rfl) hn hl hrs
/-- The disk behind a put. -/
theorem DskR.put {r : FR} {e : Ending} (h : DskR w p m rs room used left dead armed) (hu : rsUp rs) (hr : RetPut w p m (putR r rs) room used left dead armed e w') (hat : FileAt w r) (hfr : ∀ b ∈ r.bl, b ∉ allB p m rs) (hne : blk r.A ≠ some r.fb) :
    ∃ b, DskR w' p (some b) (putR r rs) room used left dead armed ∧ Fr w w' (p :: m.toList) ∧ (m = some b ∨ w.heap.size ≤ b) := by
  have hlt := h.lt
  obtain ⟨h1, h2, h3, h4, h5, h6⟩ := h
  obtain ⟨_, b, Dm, e1, e2, e3, e4, e5⟩ := hr
  have hpl := (Array.getElem?_eq_some_iff.1 h1).1
  have hbp : b ≠ p := by
    rcases e5 with e5 | e5
    · exact h5 b e5
    · omega
  have hbq : ∀ q ∈ rs, b ∉ q.bl := fun q hq hb => by
    rcases e5 with e5 | e5
    · exact (h4 q hq).2.1 b e5 hb
    · have := hlt b (mem_file hq hb); omega
  have hbr : b ∉ r.bl := fun hb => by
    rcases e5 with e5 | e5
    · exact hfr b hb (mem_map e5)
    · have := hat.lt b hb; omega
  refine ⟨b, ⟨e1, .inr ⟨b, Dm, rfl, e2, e3⟩, fun q hq => ?_, fun q hq => ?_, fun c hc => by injection hc with hc; rw [← hc]; exact hbp, ?_⟩, e4, e5⟩
  · rcases putR_sub2 hu q hq with rfl | ⟨hq, _⟩
    · refine hat.fr e4 (fun c hc hm => hfr c hc ?_)
      simp only [allB, List.mem_cons, List.mem_append] at hm ⊢
      rcases hm with hm | hm
      · exact .inl hm
      · exact .inr (.inl hm)
    · refine (h3 q hq).fr e4 (fun c hc hm => ?_)
      simp only [List.mem_cons, Option.mem_toList] at hm
      rcases hm with rfl | hm
      · exact (h4 q hq).1 hc
      · exact (h4 q hq).2.1 c hm hc
  · rcases putR_sub2 hu q hq with rfl | ⟨hq, _⟩
    · exact ⟨fun hm => hfr p hm mem_head, fun c hc => by injection hc with hc; rw [← hc]; exact hbr, hne⟩
    · exact ⟨(h4 q hq).1, fun c hc => by injection hc with hc; rw [← hc]; exact hbq q hq, (h4 q hq).2.2⟩
  · exact putR_pair (fun a b => Sp.symm) h6 (fun q hq _ x hx hxq => hfr x hx (mem_file hq hxq)) hu

/-- 'The disk with this file now, and maybe a map of its own; the number.' -/
def RetFile2 (w : World) (p : Nat) (m : Option Nat) (rs : List FR) (x : List UInt8) (dat : List UInt8) (saf : Nat) (room used left : Int) (dead armed : Bool) (v : Value) (e : Ending) (w' : World) : Prop :=
  e = .returned v ∧ ∃ (r' : FR) (m' : Option Nat), r'.name = x ∧ r'.dat = dat ∧ r'.saf = saf ∧ DskR w' p m' (putR r' rs) room used left dead armed ∧ Fr w w' (allB p m rs) ∧ ∀ b ∈ allB p m' (putR r' rs), b ∈ allB p m rs ∨ w.heap.size ≤ b

set_option maxRecDepth 100000 in
set_option maxHeartbeats 4000000 in
theorem append_new (x : List UInt8) (B : Option Addr) (n c : Nat) (ys : List UInt8) (u R : Nat) (h : DskR w p m rs (R : Int) (u : Int) left false armed) (hu : rsUp rs) (hno : ∀ r ∈ rs, r.name ≠ x) (hB : Rd w B n ys) (hBo : ∀ b, blk B = some b → b ∉ allB p m rs)
    (hf : u + n ≤ R) (hR : R ≤ 9223372036854775807) (hn : n ≤ 1099511627776) (hx : x.length ≤ 1099511627776) (hrs : rs.length ≤ 1099511627776) (hl : 0 ≤ left ∧ left ≤ 9223372036854775807) :
    Calls Try.prog 16 #[.pointer (some ⟨p, 0, none⟩), .string (tx x), .slice B n c] w
      (RetFile2 w p m rs x ys 0 R ((u + n : Nat) : Int) (tL armed left) (tD false armed left) (tA armed left) (.int .i64 (tE armed left))) := by
  have hxm : x.length ≤ maxLen := by unfold maxLen; omega
  obtain ⟨c0, c1, c2, c3, c4, c5⟩ := h.head
  have i0 : IntKind.i64.wrap ((R : Int) - (u : Int)) = (R : Int) - (u : Int) := IntWalk.i64_in _ (by omega)
  have i1 : decide ((R : Int) - (u : Int) < (n : Int)) = false := by simp; omega
  have i2 : IntKind.i64.wrap ((u : Int) + (n : Int)) = (u : Int) + (n : Int) := IntWalk.i64_in _ (by omega)
  have HNO := Lib.hid hno
  have HBo := Lib.hid hBo
  clear hBo
  go_enter Try.func16, Try.ntmps16
  go_wp2_with fail
  refine (find_none x h hno hxm).mono ?_
  rintro e w' ⟨rfl, rfl⟩
  clear hno
  go_wp2
  go_quiet (fail)
  obtain ⟨W, hW⟩ : ∃ W, W = w.drewN nq := ⟨_, rfl⟩
  have hD : DskR W p m rs (R : Int) (u : Int) left false armed := by rw [hW]; exact h
  have hBW : Rd W B n ys := by rw [hW]; exact hB.drewN nq
  have hFW : Fr w W (allB p m rs) := by rw [hW]; exact (Fr.refl _ _).drewN nq
  have hzW : W.heap.size = w.heap.size := by rw [hW]; rfl
  rw [← hW]
  have HZW := Lib.hid hzW
  clear hW h hB hzW c0 c1 c2 c3 c4 c5
  obtain ⟨V, hV⟩ : ∃ V, V = W.alloc (.cells #[.slice none 0 0, .int .i64 0] 131) := ⟨_, rfl⟩
  have hbV : Below W.heap.size W V := by rw [hV]; exact (Below.refl _ _).alloc (Nat.le_refl _) _
  have hDV : DskR V p m rs (R : Int) (u : Int) left false armed := hD.fr (Fr.of_below hbV []) (fun b _ h => by cases h)
  have hBV : Rd V B n ys := hBW.below hbV
  obtain ⟨fb, hfb⟩ : ∃ fb, fb = W.heap.size := ⟨_, rfl⟩
  have hcV : V.heap[fb]? = some (.cells #[.slice none 0 0, .int .i64 0] 131 (0, 0)) := by rw [hV, hfb]; exact heap_alloc_new _ _
  obtain ⟨r0, hr0⟩ : ∃ r0 : FR, r0 = ⟨x, [], 0, fb, none, 0⟩ := ⟨_, rfl⟩
  have hn0 : r0.name = x := by rw [hr0]
  have hb0 : r0.fb = fb := by rw [hr0]
  have hat0 : FileAt V r0 := by rw [hr0]; exact ⟨hcV, Own.nil _ _ _, Nat.le_refl _⟩
  have hfr0 : ∀ b ∈ r0.bl, b ∉ allB p m rs := fun b hb hm => by
    rw [hr0] at hb
    simp [FR.bl, blk] at hb
    have := hD.lt b hm
    omega
  have hne0 : blk r0.A ≠ some r0.fb := by rw [hr0]; simp [blk]
  have hP := put_any r0 hDV (fun q hq e => HNO.out q hq (by rw [e, hn0])) (by rw [hn0]; exact hx) hrs
  rw [hn0, hb0] at hP
  have HP := Lib.hid hP
  have HV := Lib.hid hV
  have HFB := Lib.hid hfb
  clear hP hV hcV hfb
  go_wp2_with fail
  rw [← HV.out, ← HFB.out]
  refine HP.out.mono ?_
  clear HP
  rintro e w1 hret
  have hfb := HFB.out
  clear HFB
  subst hfb
  obtain ⟨he, hret2⟩ := hret
  subst he
  obtain ⟨mb, hD1, hF1, hmb⟩ := hDV.put hu ⟨rfl, hret2⟩ hat0 hfr0 hne0
  clear hret2
  have hVs := hbV.size
  have hr1 : r0 ∈ putR r0 rs := mem_putR_self _ _
  have hu1 := putR_up (r := r0) hu
  have hfa := hD1.2.2.1 r0 hr1
  have hB1 : Rd w1 B n ys := hBV.fr hF1 (fun b hb hm => HBo.out b hb (by
    simp only [List.mem_cons, Option.mem_toList, allB, List.mem_append] at hm ⊢
    rcases hm with hm | hm
    · exact .inl hm
    · exact .inr (.inl hm)))
  have hF01 : Fr w w1 (allB p m rs) := by
    have f1 : Fr w V (allB p m rs) := hFW.trans (Fr.of_below hbV (allB p m rs)) (fun b hb => .inl hb)
    exact f1.trans hF1 (fun b hb => .inl (by
      simp only [List.mem_cons, Option.mem_toList, allB, List.mem_append] at hb ⊢
      rcases hb with hm | hm
      · exact .inl hm
      · exact .inr (.inl hm)))
  have hmem1 : ∀ b ∈ allB p (some mb) (putR r0 rs), b ∈ allB p m rs ∨ w.heap.size ≤ b := fun b hb => by
    simp only [allB, List.mem_cons, List.mem_append, List.mem_flatMap, Option.mem_toList] at hb
    have := HZW.out
    rcases hb with rfl | hb | ⟨q, hq, hb⟩
    · exact .inl mem_head
    · cases hb
      rcases hmb with h1 | h1
      · exact .inl (mem_map h1)
      · exact .inr (by omega)
    · rcases putR_sub2 hu q hq with rfl | ⟨hq, _⟩
      · rw [hr0] at hb
        simp [FR.bl, blk] at hb
        exact .inr (by omega)
      · exact .inl (mem_file hq hb)
  have hz1 : w.heap.size ≤ w1.heap.size := hF01.size
  clear hDV hBV hBW hFW hbV hat0 hfr0 hne0 hF1 hmb hD
  have hfa1 := hfa.1
  have hpf : p ≠ W.heap.size := fun e => (hD1.2.2.2.1 r0 hr1).1 (by rw [e, ← hb0]; simp [FR.bl])
  have hfl : W.heap.size < w1.heap.size := by have := (Array.getElem?_eq_some_iff.1 hfa1).1; rw [hb0] at this; exact this
  have hpl : p < w1.heap.size := (Array.getElem?_eq_some_iff.1 hD1.1).1
  rw [hr0] at hfa1
  have d0 : w1.cell? ⟨W.heap.size, 0, none⟩ = some (.slice none 0 0) := cell_of_row w1 W.heap.size 0 _ _ _ hfa1
  have hown : OwnV 5 w1 0 none 0 0 [] := OwnV.nil _ _ _
  go_wp2_with (at_builtin; refine wpList_appV w1 rfl (.tmp 42) (.tmp 43) 25 rfl 0 5 _ 1 Try.underlying25 info_u8 rfl none 0 0 [] rfl hown B n c (ys.map cv) rfl hB1.toV (cv_one ys) ?_ ?_ ?_ ?_)
  · unfold maxLen; omega
  · omega
  · exact Nat.zero_le _
  intro A' c' w2 hA hg hk
  have hA : OwnV 5 w2 0 A' n c' (ys.map cv) := by simpa using hA
  have hg : w1.grownBy w2 none := hg
  have hyl := hB1.len
  have hgs := hg.size
  have hfb2 : w2.heap[W.heap.size]? = some (.cells #[.slice none 0 0, .int .i64 0] 131 (0, 0)) := (hg.block W.heap.size hfl (by simp)).trans hfa1
  have hp2 : w2.heap[p]? = some (.cells (headV (some mb) R u left false armed) 126 (0, 0)) := (hg.block p hpl (by simp)).trans hD1.1
  obtain ⟨r', hr'⟩ : ∃ r' : FR, r' = { r0 with dat := ys, A := A', c := c' } := ⟨_, rfl⟩
  have hkA : blk A' ≠ some W.heap.size := fun e => by
    rcases hk with h1 | h1
    · rw [h1] at e; simp [blk] at e
    · rw [h1] at e; injection e with e; omega
  obtain ⟨w3, hw3⟩ : ∃ w3, w3 = w2.setCell ⟨W.heap.size, 0, none⟩ (.slice A' n c') := ⟨_, rfl⟩
  have hg3 : w2.grownBy w3 (some W.heap.size) := by rw [hw3]; exact ⟨rfl, rfl, rfl, by simp, fun k _ hne => heap_setCell_other w2 ⟨W.heap.size, 0, none⟩ k _ (fun e => hne (by rw [e]))⟩
  have hat : FileAt w3 r' := by
    refine ⟨?_, ?_, ?_⟩
    · rw [hw3, hr', hr0]
      show (w2.setCell ⟨W.heap.size, 0, none⟩ (.slice A' n c')).heap[W.heap.size]? = some (Obj.cells #[.slice A' ys.length c', .int .i64 0] _ _)
      rw [heap_setCell_same _ _ _ _ _ _ hfb2, hyl]
      rfl
    · rw [hr']
      show Own 5 w3 0 A' ys.length c' ys
      rw [hyl]
      exact OwnV.kept hA hg3 (fun b hb e => hkA (by rw [hb]; exact e.symm))
    · rw [hr', hr0]
      exact Nat.zero_le _
  have hbl : ∀ b ∈ r'.bl, b ∈ r0.bl ∨ w1.heap.size ≤ b := fun b hb => by
    rw [hr'] at hb
    simp only [FR.bl, List.mem_cons, Option.mem_toList] at hb ⊢
    rcases hb with hb | hb
    · exact .inl (.inl hb)
    · rcases hk with h1 | h1
      · rw [h1] at hb; simp [blk] at hb
      · rw [h1] at hb
        cases hb
        exact .inr (Nat.le_refl _)
  have hf3 : Fr w1 w3 r0.bl := by
    have f1 : Fr w1 w2 r0.bl := Fr.of_grown hg (fun b hb => by cases hb)
    have f2 : Fr w2 w3 [W.heap.size] := Fr.of_grown hg3 (fun b hb => by cases hb; exact List.mem_singleton.2 rfl)
    exact f1.trans f2 (fun b hb => .inl (by rw [List.mem_singleton] at hb; rw [hb, ← hb0]; simp [FR.bl]))
  have hD3 : DskR w3 p (some mb) (putR r' (putR r0 rs)) (R : Int) (u : Int) left false armed := hD1.file hu1 hr1 (by rw [hr']) (by rw [hr']) hf3 hat hbl (by rw [hr', hr0]; exact hkA)
  obtain ⟨w4, hw4⟩ : ∃ w4, w4 = w3.setCell ⟨p, 2, none⟩ (.int .i64 ((u : Int) + (n : Int))) := ⟨_, rfl⟩
  have hD4 : DskR w4 p (some mb) (putR r' (putR r0 rs)) (R : Int) ((u : Int) + (n : Int)) left false armed := by
    rw [hw4]
    exact hD3.turn (Fr.set w3 p 2 _) (heap_setCell_same _ _ _ _ _ _ hD3.1)
  have hF4 : Fr w w4 (allB p m rs) := by
    have f1 : Fr w w3 (allB p m rs) := hF01.trans hf3 (fun b hb => hmem1 b (mem_file hr1 hb))
    have f2 : Fr w3 w4 [p] := by rw [hw4]; exact Fr.set w3 p 2 _
    exact f1.trans f2 (fun b hb => .inl (by rw [List.mem_singleton] at hb; rw [hb]; exact mem_head))
  have hmem : ∀ b ∈ allB p (some mb) (putR r' (putR r0 rs)), b ∈ allB p m rs ∨ w.heap.size ≤ b := fun b hb => by
    rcases mem_putR (p := p) (m := some mb) (w := w1) hu1 hr1 hbl b hb with h1 | h1
    · exact hmem1 b h1
    · exact .inr (by omega)
  have hpp : putR r' (putR r0 rs) = putR r' rs := putR_putR (by rw [hr']) hu
  rw [hpp] at hD4 hmem
  have d0' := cell_of_row w2 W.heap.size 0 _ _ _ hfb2
  have ff' := frozen_of_row w2 W.heap.size 0 _ _ hfb2
  have c2' : w2.cell? ⟨p, 2, none⟩ = some (.int .i64 (u : Int)) := cell_of_row w2 p 2 _ _ _ hp2
  have fp' := frozen_of_row w2 p 2 _ _ hp2
  have HW3 := Lib.hid hw3
  have HW4 := Lib.hid hw4
  have HR := Lib.hid (show r'.name = x ∧ r'.dat = ys ∧ r'.saf = 0 from by rw [hr', hr0]; exact ⟨rfl, rfl, rfl⟩)
  have HF4 := Lib.hid hF4
  have HMEM := Lib.hid hmem
  have HD4 := Lib.hid hD4
  clear hgs hfb2 hp2 hr' hkA hg3 hat hbl hf3 hD3 hF4 hmem hA hg hk hw3 hw4 hfa hfa1 hD1 d0 hown hD4 hpp hmem1 hF01 hr0 hn0 hb0 hu1 hr1 hB1 hyl
  go_wp2_with fail
  rw [← HW3.out, ← HW4.out]
  have e1 : (u : Int) + (n : Int) = ((u + n : Nat) : Int) := by omega
  refine (turn_zero HD4.out hl).mono ?_
  rintro e w5 ⟨rfl, hH⟩
  have hfin : RetFile2 w p m rs x ys 0 R ((u + n : Nat) : Int) (tL armed left) (tD false armed left) (tA armed left) (.int .i64 (tE armed left)) (.returned (.int .i64 (tE armed left))) w5 := by
    refine ⟨rfl, r', some mb, HR.out.1, HR.out.2.1, HR.out.2.2, ?_, ?_, HMEM.out⟩
    · rw [← e1]
      exact HD4.out.turn hH.1 hH.2
    · exact HF4.out.trans hH.1 (fun b hb => .inl (by rw [List.mem_singleton] at hb; rw [hb]; exact mem_head))
  have HFIN := Lib.hid hfin
  clear hfin hH e1
  go_wp2
  go_ret
  exact HFIN.out
end
end Go.Proofs.Ytcclhkoggijkaaa
namespace Go.Proofs.Ytcclhkoggijkaaa
open Go Go.RowKit

/-- The error of one list. -/
def chk1 (es : List En) : Int := if checkE es ≠ 0 then checkE es else if ordE es then 0 else 3
/-- The least of two errors. -/
def comb (a b : Int) : Int := if b ≠ 0 ∧ (a = 0 ∨ b < a) then b else a
/-- The least error of lists. -/
def chkL (ls : List (List En)) : Int := ls.foldl (fun a x => comb a (chk1 x)) 0
theorem checkE_kinds (es : List En) : checkE es = 0 ∨ checkE es = 2 ∨ checkE es = 3 := by
  unfold checkE
  split
  · exact .inr (.inl rfl)
  · split
    · exact .inl rfl
    · exact .inr (.inr rfl)
theorem chk1_kinds (es : List En) : chk1 es = 0 ∨ chk1 es = 2 ∨ chk1 es = 3 := by
  unfold chk1
  split
  · exact checkE_kinds es
  · split
    · exact .inl rfl
    · exact .inr (.inr rfl)
theorem comb_kinds {a b : Int} (ha : a = 0 ∨ a = 2 ∨ a = 3) (hb : b = 0 ∨ b = 2 ∨ b = 3) : comb a b = 0 ∨ comb a b = 2 ∨ comb a b = 3 := by
  unfold comb
  split
  · exact hb
  · exact ha
theorem comb_two {a : Int} (ha : a = 0 ∨ a = 2 ∨ a = 3) : comb a 2 = 2 := by
  rcases ha with rfl | rfl | rfl <;> rfl
theorem two_comb {b : Int} (hb : b = 0 ∨ b = 2 ∨ b = 3) : comb 2 b = 2 := by
  rcases hb with rfl | rfl | rfl <;> rfl
theorem foldl_two : ∀ ls : List (List En), ls.foldl (fun a x => comb a (chk1 x)) 2 = 2
  | [] => rfl
  | x :: t => by rw [List.foldl_cons, two_comb (chk1_kinds x)]; exact foldl_two t
theorem chkL_snoc {ls : List (List En)} {k : Nat} {x : List En} (h : ls[k]? = some x) : chkL (ls.take (k + 1)) = comb (chkL (ls.take k)) (chk1 x) := by
  unfold chkL
  rw [List.take_add_one, h, List.foldl_append]
  rfl
theorem foldl_kinds : ∀ (ls : List (List En)) {a : Int}, (a = 0 ∨ a = 2 ∨ a = 3) → (ls.foldl (fun a x => comb a (chk1 x)) a = 0 ∨ ls.foldl (fun a x => comb a (chk1 x)) a = 2 ∨ ls.foldl (fun a x => comb a (chk1 x)) a = 3)
  | [], _, h => h
  | x :: t, _, h => by rw [List.foldl_cons]; exact foldl_kinds t (comb_kinds h (chk1_kinds x))
theorem chkL_kinds (ls : List (List En)) : chkL ls = 0 ∨ chkL ls = 2 ∨ chkL ls = 3 := foldl_kinds ls (.inl rfl)
theorem chkL_two {ls : List (List En)} {k : Nat} {x : List En} (h : ls[k]? = some x) (hx : chk1 x = 2) : chkL ls = 2 := by
  have e : ls = ls.take (k + 1) ++ ls.drop (k + 1) := (List.take_append_drop _ _).symm
  have h2 : chkL (ls.take (k + 1)) = 2 := by rw [chkL_snoc h, hx]; exact comb_two (chkL_kinds _)
  have h3 : chkL ls = (ls.drop (k + 1)).foldl (fun a x => comb a (chk1 x)) (chkL (ls.take (k + 1))) := by
    unfold chkL
    rw [← List.foldl_append, List.take_append_drop]
  rw [h3, h2]
  exact foldl_two _
theorem chkL_one (es : List En) : chkL [es] = chk1 es := by
  show comb 0 (chk1 es) = chk1 es
  rcases chk1_kinds es with h | h | h <;> rw [h] <;> rfl
theorem RLs.below {w w' : World} {A : Option Addr} {n : Nat} {ls : List (List En)} (h : RLs w A n ls) (hb : Below w.heap.size w w') : RLs w' A n ls := by
  refine ⟨h.1, fun h0 => ?_⟩
  obtain ⟨b, off, e, hbl, hc⟩ := h.2 h0
  refine ⟨b, off, e, Nat.lt_of_lt_of_le hbl hb.size, fun i es hi => ?_⟩
  obtain ⟨B, m, c, h1, h2, h3⟩ := hc i es hi
  exact ⟨B, m, c, (hb.cell (p := ⟨b, off + i, none⟩) hbl).trans h1, h2.below hb, h3⟩
theorem RLs.len {w : World} {A : Option Addr} {n : Nat} {ls : List (List En)} (h : RLs w A n ls) : ls.length = n := h.1
section
variable {w : World} {A : Option Addr} {n c : Nat} {ls : List (List En)}
set_option maxRecDepth 100000 in
set_option maxHeartbeats 8000000 in
theorem mgCheck_any (h : RLs w A n ls) (hn : n ≤ 1099511627776) (hs : ∀ es ∈ ls, es.length ≤ 1099511627776) : Calls Try.prog 130 #[.slice A n c] w (RetNu w (chkL ls)) := by
  have HL := Lib.hid h.len
  have HS := Lib.hid hs
  have HR := Lib.hid h
  clear h hs
  go_enter Try.func130, Try.ntmps130
  go_wp2_with fail
  go_loopw [3, 9] (fun s3 s9 wr => ∃ (k : Nat) (z : Int), k ≤ n ∧ s9 = .int .i64 (k : Int) ∧ s3 = .int .i64 z ∧ (z = 0 ∨ z = 3) ∧ chkL (ls.take k) = z ∧ Below w.heap.size w wr) (fun _ s _ => n - (intOf s).toNat)
  case atStart => exact ⟨0, 0, Nat.zero_le _, rfl, rfl, .inl rfl, rfl, Below.refl _ _⟩
  case round =>
    obtain ⟨k, z, hk, rfl, rfl, hz, hc, hB⟩ := hrel
    have HB := Lib.hid hB
    have HC := Lib.hid hc
    have HZ := Lib.hid hz
    have hR := HR.out.below hB
    clear hB hc hz
    by_cases hlt : k < n
    · obtain ⟨b, off, hAb, hbl⟩ := hR.pos (by omega)
      subst hAb
      obtain ⟨es, B, m, d, hx, c0, hre, hmd⟩ := hR.at_ k hlt
      have hme : m ≤ 1099511627776 := by have := HS.out es (List.mem_of_getElem? hx); rw [← hre.len]; exact this
      have HXK := Lib.hid hx
      obtain ⟨e1, he1⟩ : ∃ e1, e1 = checkE es := ⟨_, rfl⟩
      have HM : Hid (Calls Try.prog 53 #[.slice B m d] wr (RetNu wr e1)) := Lib.hid (by rw [he1]; exact memCheck_any hre hme)
      obtain ⟨z1, hz1⟩ : ∃ z1, z1 = ordE es := ⟨_, rfl⟩
      have HO : Hid (∀ wx, Below wr.heap.size wr wx → Calls Try.prog 165 #[.slice B m d] wx (RetT wx z1)) := Lib.hid (fun wx hb => by rw [hz1]; exact mgInOrder_any (hre.below hb) hme)
      have hk1 := checkE_kinds es
      rw [← he1] at hk1
      have HST := Lib.hid (chkL_snoc hx)
      have H1 : Hid (chk1 es = if e1 ≠ 0 then e1 else if z1 then 0 else 3) := Lib.hid (by unfold chk1; rw [he1, hz1])
      have HTW := Lib.hid (fun hh => chkL_two hx hh)
      clear hR hx hre he1 hz1
      go_wp2_with fail
      with_reducible refine HM.out.mono ?_
      rintro e w1 ⟨rfl, b1⟩
      have B1 := Lib.hid (HB.out.trans (b1.mono HB.out.size))
      have H1B := Lib.hid b1
      clear b1
      rcases hk1 with rfl | rfl | rfl
      · have HOC := Lib.hid (HO.out _ H1B.out)
        cases z1 with
        | true =>
          have HC2 : Hid (chkL (ls.take (k + 1)) = z) := Lib.hid (by rw [HST.out, HC.out, H1.out]; rcases HZ.out with rfl | rfl <;> rfl)
          go_wp2_with fail
          with_reducible refine HOC.out.mono ?_
          intro e w2 hq
          obtain ⟨h2, b2⟩ := RetT.outD hq
          subst h2
          have B2 := Lib.hid (belowT' B1.out b2)
          clear hq b2
          go_wp2_with fail
          go_roundw
          case rel => exact ⟨k + 1, z, by omega, by go_num, rfl, HZ.out, HC2.out, B2.out⟩
          case measure => simp [intOf]; omega
        | false =>
          have HC2 : Hid (chkL (ls.take (k + 1)) = 3) := Lib.hid (by rw [HST.out, HC.out, H1.out]; rcases HZ.out with rfl | rfl <;> rfl)
          go_wp2_with fail
          with_reducible refine HOC.out.mono ?_
          intro e w2 hq
          obtain ⟨h2, b2⟩ := RetT.outD hq
          subst h2
          have B2 := Lib.hid (belowT' B1.out b2)
          clear hq b2
          go_wp2_with fail
          go_roundw
          case rel => exact ⟨k + 1, 3, by omega, by go_num, rfl, .inr rfl, HC2.out, B2.out⟩
          case measure => simp [intOf]; omega
      · have HF : Hid (chkL ls = 2) := Lib.hid (HTW.out (by rw [H1.out]; rfl))
        go_wp2_with fail
        go_ret
        exact ⟨by rw [HF.out]; rfl, B1.out⟩
      · have HC2 : Hid (chkL (ls.take (k + 1)) = 3) := Lib.hid (by rw [HST.out, HC.out, H1.out]; rcases HZ.out with rfl | rfl <;> rfl)
        go_wp2_with fail
        go_roundw
        case rel => exact ⟨k + 1, 3, by omega, by go_num, rfl, .inr rfl, HC2.out, B1.out⟩
        case measure => simp [intOf]; omega
    · have htk : ls.take k = ls := List.take_of_length_le (by have := HL.out; omega)
      rw [htk] at HC
      clear htk hR
      go_wp2_with fail
      go_ret
      exact ⟨by rw [HC.out]; rfl, HB.out⟩
set_option maxRecDepth 100000 in
set_option maxHeartbeats 8000000 in
theorem refCheck11_any (h : RLs w A n ls) (hn : n ≤ 1099511627776) (hs : ∀ es ∈ ls, es.length ≤ 1099511627776) (hz : ∀ es ∈ ls, ∀ x ∈ es, SzE x) : Calls Try.prog 28 #[.slice A n c] w (RetNu w (chkL ls)) := by
  have HL := Lib.hid h.len
  have HS := Lib.hid hs
  have HR := Lib.hid h
  have HZZ := Lib.hid hz
  clear h hs hz
  go_enter Try.func28, Try.ntmps28
  go_wp2_with fail
  go_loopw [3, 4] (fun s3 s4 wr => ∃ (k : Nat) (z : Int), k ≤ n ∧ s4 = .int .i64 (k : Int) ∧ s3 = .int .i64 z ∧ chkL (ls.take k) = z ∧ Below w.heap.size w wr) (fun _ s _ => n - (intOf s).toNat)
  case atStart => exact ⟨0, 0, Nat.zero_le _, rfl, rfl, rfl, Below.refl _ _⟩
  case round =>
    obtain ⟨k, z, hk, rfl, rfl, hc, hB⟩ := hrel
    have HB := Lib.hid hB
    have hz := chkL_kinds (ls.take k)
    rw [hc] at hz
    have HC := Lib.hid hc
    have hR := HR.out.below hB
    clear hB hc
    by_cases hlt : k < n
    · obtain ⟨b, off, hAb, hbl⟩ := hR.pos (by omega)
      subst hAb
      obtain ⟨es, B, m, d, hx, c0, hre, hmd⟩ := hR.at_ k hlt
      have hme : m ≤ 1099511627776 := by have := HS.out es (List.mem_of_getElem? hx); rw [← hre.len]; exact this
      have HXK := Lib.hid hx
      obtain ⟨e1, he1⟩ : ∃ e1, e1 = checkE es := ⟨_, rfl⟩
      have HM : Hid (Calls Try.prog 59 #[.slice B m d] wr (RetNu wr e1)) := Lib.hid (by rw [he1]; exact refCheck_any hre hme (HZZ.out es (List.mem_of_getElem? hx)))
      obtain ⟨z1, hz1⟩ : ∃ z1, z1 = ordE es := ⟨_, rfl⟩
      have HO : Hid (∀ wx, Below wr.heap.size wr wx → Calls Try.prog 60 #[.slice B m d] wx (RetT wx z1)) := Lib.hid (fun wx hb => by rw [hz1]; exact ordered_any (hre.below hb) hme (HZZ.out es (List.mem_of_getElem? hx)))
      have HC0 : Hid (∀ wx, Below wr.heap.size wr wx → wx.cell? ⟨b, off + k, none⟩ = some (.slice B m d)) := Lib.hid (fun wx hb => (hb.cell (p := ⟨b, off + k, none⟩) hbl).trans c0)
      have hk1 := checkE_kinds es
      rw [← he1] at hk1
      have HST := Lib.hid (chkL_snoc hx)
      have H1 : Hid (chk1 es = if e1 ≠ 0 then e1 else if z1 then 0 else 3) := Lib.hid (by unfold chk1; rw [he1, hz1])
      clear hR hx hre he1 hz1
      go_wp2_with fail
      with_reducible refine HM.out.mono ?_
      rintro e w1 ⟨rfl, b1⟩
      have B1 := Lib.hid (HB.out.trans (b1.mono HB.out.size))
      have H1B := Lib.hid b1
      have d0 := HC0.out _ b1
      clear b1 c0
      rcases hk1 with rfl | rfl | rfl
      · have HOC := Lib.hid (HO.out _ H1B.out)
        cases z1 with
        | true =>
          have HC2 : Hid (chkL (ls.take (k + 1)) = z) := Lib.hid (by rw [HST.out, HC.out, H1.out]; rcases hz with rfl | rfl | rfl <;> rfl)
          go_wp2_with fail
          with_reducible refine HOC.out.mono ?_
          intro e w2 hq
          obtain ⟨h2, b2⟩ := RetT.outD hq
          subst h2
          have B2 := Lib.hid (belowT' B1.out b2)
          clear hq b2 d0
          go_wp2_with fail
          go_roundw
          case rel => exact ⟨k + 1, z, by omega, by go_num, rfl, HC2.out, B2.out⟩
          case measure => simp [intOf]; omega
        | false =>
          go_wp2_with fail
          with_reducible refine HOC.out.mono ?_
          intro e w2 hq
          obtain ⟨h2, b2⟩ := RetT.outD hq
          subst h2
          have B2 := Lib.hid (belowT' B1.out b2)
          clear hq b2 d0
          have HC2 := HST.out
          rw [HC.out, H1.out] at HC2
          have HC3 := Lib.hid HC2
          clear HC2
          rcases hz with rfl | rfl | rfl
          all_goals
            go_wp2_with fail
            go_roundw
            case rel => exact ⟨k + 1, _, by omega, by go_num, rfl, HC3.out, B2.out⟩
            case measure => simp [intOf]; omega
      all_goals
        have HC2 := HST.out
        rw [HC.out, H1.out] at HC2
        have HC3 := Lib.hid HC2
        clear HC2 d0
        rcases hz with rfl | rfl | rfl
        all_goals
          go_wp2_with fail
          go_roundw
          case rel => exact ⟨k + 1, _, by omega, by go_num, rfl, HC3.out, B1.out⟩
          case measure => simp [intOf]; omega
    · have htk : ls.take k = ls := List.take_of_length_le (by have := HL.out; omega)
      rw [htk] at HC
      clear htk hR
      go_wp2_with fail
      go_ret
      exact ⟨by rw [HC.out]; rfl, HB.out⟩
end
end Go.Proofs.Ytcclhkoggijkaaa
namespace Go.Proofs.Ytcclhkoggijkaaa
open Go Go.RowKit

def bsB (xs : List UInt8) : ByteArray := ⟨⟨xs⟩⟩
theorem conv_rd {w : World} {n c : Nat} {A : Option Addr} {xs : List UInt8} (h : Rd w A n xs) (hn : 0 < n) : (convert 25 9 (.slice A n c)).run Try.prog w = .ok (.string (bsB xs)) w := by
  obtain ⟨b, off, rfl, _⟩ := h.pos hn
  rw [run_convert_bytes_arg w 25 5 Try.underlying25 Try.underlying5 b off n c (xs.map fun x => (x.toNat : Int)) (by simpa using h.len) ?_ 9 Try.underlying9]
  · congr 2
    unfold strOfNums bsB
    congr 2
    rw [List.map_map]
    conv => rhs; rw [← List.map_id xs]
    apply List.map_congr_left
    intro x _
    simp
  · intro i hi
    obtain ⟨x, hx, hc, _⟩ := h.at_ i hi
    rw [hc]
    simp [List.getD, List.getElem?_map, hx]
set_option maxRecDepth 100000 in
theorem bytesEqual_any (A B : Option Addr) (n m c d : Nat) (xs ys : List UInt8) (w : World) (hx : Rd w A n xs) (hy : Rd w B m ys) (hn : 0 < n) (hm : 0 < m) :
    Calls Try.prog 71 #[.slice A n c, .slice B m d] w (fun e w' => e = .returned (.bool (eqB xs ys)) ∧ w' = w) := by
  have k1 := conv_rd (c := c) hx hn
  have k2 := conv_rd (c := d) hy hm
  have hb : ((bsB xs).toList == (bsB ys).toList) = eqB xs ys := by rw [ByteArray.toList_eq, ByteArray.toList_eq]; rfl
  have HB := Lib.hid hb
  clear hb
  go_enter Try.func71, Try.ntmps71
  go_wp2_with fail
  go_ret
  exact ⟨by rw [← HB.out]; rfl, rfl⟩
theorem build8_zero {w : World} {A : Option Addr} {n c : Nat} : Calls Try.prog 113 #[.int .i64 0, .slice A n c] w (RetBb w ([], 1)) := by
  go_enter Try.func113, Try.ntmps113
  go_wp2_with fail
  exact bodyPost_ret (v := .tuple #[.slice none 0 0, .int .i64 1]) (by simp [results, Try.f113, go_sem]; try rfl) rfl (RetBb.no rfl (Below.refl _ _))
/-- What Build answers. -/
def buildZ (ev : Nat) (es : List En) : List UInt8 × Int := if ev = 0 then ([], 1) else buildE ev es
theorem buildZ_any {w : World} {A : Option Addr} {n c : Nat} {es : List En} (h : REs w A n es) (hn : n ≤ 16777216) (ev : Nat) (he2 : ev ≤ 9223372036854775807) :
    Calls Try.prog 113 #[.int .i64 (ev : Int), .slice A n c] w (RetBb w (buildZ ev es)) := by
  unfold buildZ
  split
  · rename_i e
    subst e
    exact build8_zero
  · exact build8_any h hn ev (by omega) he2
theorem sealB_pos (xs : List UInt8) : 8 ≤ (sealB xs).length := by rw [sealB_len]; omega
theorem buildZ_ok {ev : Nat} {es : List En} (h : (buildZ ev es).2 = 0) : 8 ≤ (buildZ ev es).1.length := by
  unfold buildZ at h ⊢
  split at h
  · cases h
  · rename_i e
    rw [if_neg e]
    rcases buildE_cases ev es with ⟨F, hF, _⟩ | ⟨k, hk, hk2⟩
    · rw [hF]; exact sealB_pos F
    · rw [hk] at h
      simp only at h
      omega
/-- What Decode makes of a record that doesn't open. -/
theorem decode_shutM (A : Option Addr) (n c : Nat) (xs : List UInt8) (w : World) (h : Rd w A n xs) (hn : n ≤ 1099511627776) (hc : n ≤ c) (hnil : A = none → c = 0) (k : Int) (hk : openG xs ((0 : Nat) : Int) = ([], 0, k)) (hk0 : k ≠ 0) :
    Calls Try.prog 125 #[.slice A n c] w (fun e w' => e = .returned (.tuple #[.slice none 0 0, .int .i64 k]) ∧ Below w.heap.size w w') := by
  have hO := Open_any A n c ((0 : Nat) : Int) xs w h hn hc hnil (by unfold I64; omega)
  rw [hk] at hO
  have HO := Lib.hid hO
  have t1 : (k == 0) = false := by simp [hk0]
  clear hO hk h
  go_enter Try.func125, Try.ntmps125
  go_wp2_with fail
  refine HO.out.mono ?_
  rintro e w8 ⟨O, on, oc, rfl, oo, hb8⟩
  clear HO oo
  go_wp2_with fail
  exact bodyPost_ret (v := .tuple #[.slice none 0 0, .int .i64 k]) (by simp [results, Try.f125, go_sem]; try rfl) rfl ⟨rfl, hb8⟩
theorem openG_in (xs : List UInt8) (z : Int) : (openG xs z).1.length ≤ 1048576 ∧ ((openG xs z).2.2 ≠ 0 → (openG xs z).1 = [] ∧ (openG xs z).2.1 = 0) ∧ ((openG xs z).2.2 = 0 → 8 ≤ xs.length) := by
  unfold openG
  split
  · simp
  · split
    · simp
    · split
      · simp
      · split
        · simp
        · split
          · refine ⟨?_, fun h => absurd rfl h, fun _ => by omega⟩
            simp only [List.length_drop, List.length_take]
            omega
          · simp
/-- What Decode makes of what was read. -/
def decP (xs : List UInt8) : Option (List En × Nat) → List En × Int
  | none => ([], 3)
  | some (es, ev) => if (buildZ ev es).2 = 0 ∧ (buildZ ev es).1 = xs then (es, 0) else ([], 3)
/-- What Decode answers. -/
def decB (xs : List UInt8) : List En × Int :=
  match openG xs ((0 : Nat) : Int) with
  | (inside, _, k) => if k ≠ 0 then ([], k) else decP xs (parB inside)
def RetDc8 (w : World) (r : List En × Int) (e : Ending) (w' : World) : Prop :=
  (r.1 = [] ∧ r.2 ≠ 0 ∧ e = .returned (.tuple #[.slice none 0 0, .int .i64 r.2]) ∧ Below w.heap.size w w') ∨
  (r.2 = 0 ∧ r.1.length ≤ 16777216 ∧ ∃ L d, e = .returned (.tuple #[.slice L r.1.length d, .int .i64 0]) ∧ RowE w w.heap.size L r.1.length d r.1 w')
set_option maxRecDepth 100000 in
set_option maxHeartbeats 8000000 in
theorem decode_any (A : Option Addr) (n c : Nat) (xs : List UInt8) (w : World) (h : Rd w A n xs) (hn : n ≤ 1099511627776) (hc : n ≤ c) (hnil : A = none → c = 0) :
    Calls Try.prog 125 #[.slice A n c] w (RetDc8 w (decB xs)) := by
  rcases hog : openG xs ((0 : Nat) : Int) with ⟨ins, nx, k⟩
  have hin := openG_in xs ((0 : Nat) : Int)
  rw [hog] at hin
  obtain ⟨hil, hno, hx8⟩ := hin
  have hil : ins.length ≤ 1048576 := hil
  by_cases hk : k = 0
  · have hO := Open_any A n c ((0 : Nat) : Int) xs w h hn hc hnil (by unfold I64; omega)
    rw [hog] at hO
    subst hk
    have hx8 : 8 ≤ n := by have := hx8 rfl; have := h.len; omega
    have HO := Lib.hid hO
    have HX := Lib.hid h
    obtain ⟨pr, hpr⟩ : ∃ pr, pr = parB ins := ⟨_, rfl⟩
    have hdec : decB xs = decP xs pr := by
      unfold decB
      rw [hog]
      simp only
      rw [if_neg (by simp), ← hpr]
    have HD := Lib.hid hdec
    have HPR := Lib.hid hpr
    clear hO h hno hog hdec hpr
    go_enter Try.func125, Try.ntmps125
    go_wp2_with fail
    refine HO.out.mono ?_
    rintro e w1 ⟨I, im, ic, rfl, oI, b1⟩
    have hI0 : ins.length = im := oI.len
    have hIn : I = none → ic = 0 := fun hh => by have := oI.nil_of (by rw [hh]; rfl); exact this.2.2
    have HPA := Lib.hid (parse_any I im ic ins w1 oI.rd (by omega) oI.cap.1 hIn)
    rw [← HPR.out] at HPA
    have HB1 := Lib.hid b1
    clear oI b1 hIn HO
    go_wp2_with fail
    refine HPA.out.mono ?_
    rintro e w2 (⟨hpn, rfl, b2⟩ | ⟨es, ev, L, d, hps, rfl, hrow, hel, hev⟩)
    · have hd : decB xs = ([], 3) := by rw [HD.out, hpn]; rfl
      have HF := Lib.hid (And.intro hd (HB1.out.trans (b2.mono HB1.out.size)))
      clear hd b2
      go_wp2_with fail
      exact bodyPost_ret (v := .tuple #[.slice none 0 0, .int .i64 3]) (by simp [results, Try.f125, go_sem]; try rfl) rfl (.inl ⟨by rw [HF.out.1], by rw [HF.out.1]; simp, by rw [HF.out.1], HF.out.2⟩)
    · have hd : decB xs = if (buildZ ev es).2 = 0 ∧ (buildZ ev es).1 = xs then (es, 0) else ([], 3) := by rw [HD.out, hps]; rfl
      have hb2 : Below w.heap.size w w2 := HB1.out.trans (hrow.bel.mono HB1.out.size)
      have hBZ := buildZ_any (c := d) hrow.rd hel ev (by omega)
      obtain ⟨z, hz⟩ : ∃ z, z = buildZ ev es := ⟨_, rfl⟩
      have hzo : z.2 = 0 → 8 ≤ z.1.length := by rw [hz]; exact buildZ_ok
      rw [← hz] at hBZ hd
      have HBZ := Lib.hid hBZ
      have HROW := Lib.hid hrow
      have HB2 := Lib.hid hb2
      have HDD := Lib.hid hd
      obtain ⟨el, hel2⟩ : ∃ el, el = es.length := ⟨_, rfl⟩
      rw [← hel2] at HBZ hel ⊢
      have HEL := Lib.hid hel2
      clear hBZ hrow hb2 hd hz hel2
      go_wp2_with fail
      refine HBZ.out.mono ?_
      rintro e w3 ⟨G, gc, rfl, oG, b3⟩
      have hb3 : Below w.heap.size w w3 := HB2.out.trans (b3.mono HB2.out.size)
      have hno : ∀ w', Below w.heap.size w w' → decB xs = ([], 3) → RetDc8 w (decB xs) (.returned (.tuple #[.slice none 0 0, .int .i64 3])) w' := fun w' hb hd => .inl ⟨by rw [hd], by rw [hd]; simp, by rw [hd], hb⟩
      obtain ⟨zb, zk⟩ := z
      simp only at oG hzo ⊢
      by_cases hzk : zk = 0
      · subst hzk
        have hzl : 8 ≤ zb.length := hzo rfl
        have HEQ := Lib.hid (bytesEqual_any G A zb.length n gc c zb xs w3 oG.rd (HX.out.below hb3) (by omega) (by omega))
        have HB3 := Lib.hid hb3
        have HR3 := Lib.hid (HROW.out.below b3)
        have HNO := Lib.hid hno
        clear oG b3 hb3 hno
        obtain ⟨q, hq⟩ : ∃ q, q = eqB zb xs := ⟨_, rfl⟩
        rw [← hq] at HEQ
        have HQ := Lib.hid hq
        clear hq
        cases q with
        | true =>
          go_wp2_with fail
          with_reducible refine HEQ.out.mono ?_
          rintro e w4 ⟨rfl, rfl⟩
          have he : zb = xs := by
            have := HQ.out
            unfold eqB at this
            exact (beq_iff_eq.1 this.symm)
          have hd : decB xs = (es, 0) := by rw [HDD.out, if_pos ⟨by first | trivial | rfl, he⟩]
          have HF : Hid (RetDc8 w (decB xs) (.returned (.tuple #[.slice L el d, .int .i64 0])) w4) := Lib.hid (by
            rw [hd]
            refine .inr ⟨rfl, by rw [← HEL.out]; exact hel, L, d, by rw [← HEL.out], ?_⟩
            have hr := HR3.out
            have h1 : Below w.heap.size w w4 := HB3.out
            obtain ⟨vs, r1, r2, r3, r4, r5, r6, r7⟩ := hr
            have hs := HB1.out.size
            exact ⟨vs, OwnE.mono (show OwnE w4 w1.heap.size L es.length d vs from r1) hs, EOs.mono hs r2, r3, r4, h1, h1.size, r7.mono hs⟩)
          clear he hd
          go_wp2_with fail
          exact bodyPost_ret (v := .tuple #[.slice L el d, .int .i64 0]) (by simp [results, Try.f125, go_sem]; try rfl) rfl HF.out
        | false =>
          go_wp2_with fail
          with_reducible refine HEQ.out.mono ?_
          rintro e w4 ⟨rfl, rfl⟩
          have he : ¬ zb = xs := by
            have := HQ.out
            unfold eqB at this
            intro e2
            rw [e2] at this
            simp at this
          have hd : decB xs = ([], 3) := by rw [HDD.out, if_neg (fun h => he h.2)]
          have HF := Lib.hid (HNO.out _ HB3.out hd)
          clear he hd
          go_wp2_with fail
          exact bodyPost_ret (v := .tuple #[.slice none 0 0, .int .i64 3]) (by simp [results, Try.f125, go_sem]; try rfl) rfl HF.out
      · have hd : decB xs = ([], 3) := by rw [HDD.out, if_neg (fun h => hzk h.1)]
        have t1 : (zk == 0) = false := by simpa using hzk
        have HF := Lib.hid (hno _ hb3 hd)
        clear hd hno oG b3 hb3
        go_wp2_with fail
        exact bodyPost_ret (v := .tuple #[.slice none 0 0, .int .i64 3]) (by simp [results, Try.f125, go_sem]; try rfl) rfl HF.out
  · have hd : decB xs = ([], k) := by
      unfold decB
      rw [hog]
      simp only
      rw [if_pos hk]
    obtain ⟨hi0, hn0⟩ := hno hk
    have hi0 : ins = [] := hi0
    have hn0 : nx = 0 := hn0
    subst hi0 hn0
    rw [hd]
    refine (decode_shutM A n c xs w h hn hc hnil k hog hk).mono ?_
    rintro e w' ⟨rfl, hb⟩
    exact .inl ⟨rfl, hk, rfl, hb⟩
end Go.Proofs.Ytcclhkoggijkaaa
namespace Go.Proofs.Ytcclhkoggijkaaa
open Go Go.RowKit Go.Maps

/-- 'It hands back bytes in new memory, and a number.' -/
def RetRd (w : World) (xs : List UInt8) (k : Int) (e : Ending) (w' : World) : Prop :=
  ∃ A n c, e = .returned (.tuple #[.slice A n c, .int .i64 k]) ∧ Own 5 w' w.heap.size A n c xs ∧ Below w.heap.size w w'

section
variable {w : World} {p : Nat} {m : Option Nat} {rs : List FR} {room used left : Int} {dead armed : Bool}
theorem read_dead (x : List UInt8) (h : DskR w p m rs room used left true armed) :
    Calls Try.prog 68 #[.pointer (some ⟨p, 0, none⟩), .string (tx x)] w (RetRd w [] 9) := by
  go_enter Try.func68, Try.ntmps68
  go_wp2_with fail
  refine (find_dead x h).mono ?_
  rintro e w' ⟨rfl, rfl⟩
  go_wp2
  go_ret2
  exact ⟨none, 0, 0, rfl, Own.nil _ _ _, Below.refl _ _⟩
theorem read_none (x : List UInt8) (h : DskR w p m rs room used left false armed) (hx : ∀ r ∈ rs, r.name ≠ x) (hl : x.length ≤ maxLen) :
    Calls Try.prog 68 #[.pointer (some ⟨p, 0, none⟩), .string (tx x)] w (RetRd w [] 6) := by
  go_enter Try.func68, Try.ntmps68
  go_wp2_with fail
  refine (find_none x h hx hl).mono ?_
  rintro e w' ⟨rfl, rfl⟩
  go_wp2
  go_ret2
  exact ⟨none, 0, 0, rfl, Own.nil _ _ _, Below.refl _ _⟩
set_option maxRecDepth 100000 in
set_option maxHeartbeats 1000000 in
theorem read_some {r : FR} (h : DskR w p m rs room used left false armed) (hr : r ∈ rs) (hl : r.name.length ≤ maxLen) (hd : r.dat.length ≤ 1099511627776) :
    Calls Try.prog 68 #[.pointer (some ⟨p, 0, none⟩), .string (tx r.name)] w (RetRd w r.dat 0) := by
  have hfa := h.2.2.1 r hr
  obtain ⟨d0, d1⟩ := hfa.cells
  have hnil : r.A = none → r.c = 0 := fun e => (hfa.2.1.nil_of (by rw [e]; rfl)).2.2
  go_enter Try.func68, Try.ntmps68
  go_wp2_with fail
  refine (find_some h hr hl).mono ?_
  rintro e w' ⟨rfl, rfl⟩
  go_wp2_with fail
  refine (Clone_any r.A r.dat.length r.c r.dat _ hfa.2.1.rd (by omega) hnil).mono ?_
  rintro e w2 ⟨A, n, c, rfl, ho, hb⟩
  go_wp2
  go_ret2
  exact ⟨A, n, c, rfl, ho, hb⟩

theorem sync_dead (x : List UInt8) (h : DskR w p m rs room used left true armed) :
    Calls Try.prog 151 #[.pointer (some ⟨p, 0, none⟩), .string (tx x)] w fun e w' => e = .returned (.int .i64 9) ∧ w = w' := by
  go_enter Try.func151, Try.ntmps151
  go_wp2_with fail
  refine (find_dead x h).mono ?_
  rintro e w' ⟨rfl, rfl⟩
  go_wp2_with fail
  refine (turn_err (p := p) (w := w) (e := 9) (by decide)).mono ?_
  rintro e w' ⟨rfl, rfl⟩
  go_wp2
  go_ret
  exact ⟨rfl, rfl⟩
theorem sync_none (x : List UInt8) (h : DskR w p m rs room used left false armed) (hx : ∀ r ∈ rs, r.name ≠ x) (hl : x.length ≤ maxLen) :
    Calls Try.prog 151 #[.pointer (some ⟨p, 0, none⟩), .string (tx x)] w fun e w' => e = .returned (.int .i64 6) ∧ w = w' := by
  go_enter Try.func151, Try.ntmps151
  go_wp2_with fail
  refine (find_none x h hx hl).mono ?_
  rintro e w' ⟨rfl, rfl⟩
  go_wp2_with fail
  refine (turn_err (p := p) (w := w) (e := 6) (by decide)).mono ?_
  rintro e w' ⟨rfl, rfl⟩
  go_wp2
  go_ret
  exact ⟨rfl, rfl⟩
theorem sync_kill {r : FR} (h : DskR w p m rs room used 0 false true) (hr : r ∈ rs) (hl : r.name.length ≤ maxLen) :
    Calls Try.prog 151 #[.pointer (some ⟨p, 0, none⟩), .string (tx r.name)] w (RetHd w p (headV m room used 0 true false) (.int .i64 9)) := by
  go_enter Try.func151, Try.ntmps151
  go_wp2_with fail
  refine (find_some h hr hl).mono ?_
  rintro e w' ⟨rfl, rfl⟩
  go_wp2_with fail
  refine (turn_kill h).mono ?_
  rintro e w1 ⟨rfl, hH⟩
  go_wp2
  go_ret
  exact ⟨rfl, hH⟩
/-- What the turned head says where the call is done. -/
theorem tE_done {armed : Bool} {left : Int} (h : tE armed left = 0) : tD dead armed left = dead ∧ tA armed left = armed := by
  unfold tE at h
  by_cases h1 : armed = true ∧ left = 0
  · rw [if_pos h1] at h; exact absurd h (by decide)
  · exact ⟨by rw [tD, if_neg h1], by rw [tA, if_neg h1]⟩
set_option maxRecDepth 100000 in
set_option maxHeartbeats 2000000 in
theorem sync_some {r : FR} (h : DskR w p m rs room used left false armed) (hu : rsUp rs) (hr : r ∈ rs) (hl : r.name.length ≤ maxLen) (hl2 : 0 ≤ left ∧ left ≤ 9223372036854775807) (ht : tE armed left = 0) :
    Calls Try.prog 151 #[.pointer (some ⟨p, 0, none⟩), .string (tx r.name)] w (RetFile w p m rs r r.dat r.dat.length room used (tL armed left) false armed (.int .i64 0)) := by
  obtain ⟨t1, t2⟩ := tE_done (dead := false) ht
  have hT := turn_zero h hl2
  rw [ht, t1, t2] at hT
  have HT := Lib.hid hT
  clear hT t1 t2 ht
  go_enter Try.func151, Try.ntmps151
  go_wp2_with fail
  refine (find_some h hr hl).mono ?_
  rintro e w' ⟨rfl, rfl⟩
  go_wp2_with fail
  refine HT.out.mono ?_
  clear HT
  rintro e w1 ⟨rfl, hH⟩
  have hD1 := h.turn hH.1 hH.2
  have hfa := hD1.2.2.1 r hr
  obtain ⟨d0, d1⟩ := hfa.cells
  have f1 := hfa.thaw 1
  obtain ⟨r', hr'⟩ : ∃ r' : FR, r' = { r with saf := r.dat.length } := ⟨_, rfl⟩
  obtain ⟨w2, hw2⟩ : ∃ w2, w2 = w1.setCell ⟨r.fb, 1, none⟩ (.int .i64 (r.dat.length : Int)) := ⟨_, rfl⟩
  have hsep := hD1.2.2.2.1 r hr
  have hf2 : Fr w1 w2 r.bl := by
    rw [hw2]
    exact (Fr.set w1 r.fb 1 _).mono (fun b hb => .inl (by rw [List.mem_singleton] at hb; rw [hb]; simp [FR.bl]))
  have hat : FileAt w2 r' := by
    refine ⟨?_, ?_, ?_⟩
    · rw [hw2, hr']
      exact heap_setCell_same _ _ _ _ _ _ hfa.1
    · rw [hr']
      exact hfa.2.1.fr (hw2 ▸ Fr.set w1 r.fb 1 (.int .i64 (r.dat.length : Int))) (fun b hb hm => by rw [List.mem_singleton] at hm; rw [hm] at hb; exact hsep.2.2 hb)
    · rw [hr']; exact Nat.le_refl _
  have hbl : ∀ b ∈ r'.bl, b ∈ r.bl ∨ w1.heap.size ≤ b := fun b hb => .inl (by rw [hr'] at hb; exact hb)
  have hfin : RetFile w p m rs r r.dat r.dat.length room used (tL armed left) false armed (.int .i64 0) (.returned (.int .i64 0)) w2 := by
    refine ⟨rfl, r', by rw [hr'], by rw [hr'], by rw [hr'], hD1.file hu hr (by rw [hr']) (by rw [hr']) hf2 hat hbl (by rw [hr']; exact hsep.2.2), ?_, fun b hb => ?_⟩
    · have f1 : Fr w w1 (allB p m rs) := hH.1.mono (fun b hb => .inl (by rw [List.mem_singleton] at hb; rw [hb]; exact mem_head))
      exact f1.trans hf2 (fun b hb => .inl (mem_file hr hb))
    · rcases mem_putR (p := p) (m := m) (w := w1) hu hr hbl b hb with h1 | h1
      · exact .inl h1
      · exact .inr (Nat.le_trans hH.1.size h1)
  have HFIN := Lib.hid hfin
  have HW2 := Lib.hid hw2
  clear hfin hw2 hat hbl hf2 hr' hD1 hfa hH
  go_wp2
  go_ret
  rw [← HW2.out]
  exact HFIN.out
end
end Go.Proofs.Ytcclhkoggijkaaa
namespace Go.Proofs.Ytcclhkoggijkaaa
open Go Go.RowKit

def bsM (xs : List UInt8) : ByteArray := ⟨⟨xs⟩⟩
theorem conv_any {w : World} {n c : Nat} {A : Option Addr} {xs : List UInt8} (h : Rd w A n xs) : (convert 25 9 (.slice A n c)).run Try.prog w = .ok (.string (bsM xs)) w := by
  rcases Nat.eq_zero_or_pos n with hn | hn
  · subst hn
    have hx : xs = [] := List.eq_nil_of_length_eq_zero h.1
    subst hx
    cases A with
    | none =>
      rw [run_convert_bytes_nil w 25 5 Try.underlying25 Try.underlying5 0 c 9 Try.underlying9]
      rfl
    | some a =>
      rw [run_convert_bytes_string w 25 9 5 (some a) 0 c Try.underlying25 Try.underlying5 Try.underlying9,
        run_bytesToString w a 0 c [] (run_loadCells_list (P := Try.prog) w a [] (fun j v hj => by simp at hj))]
      rfl
  · obtain ⟨b, off, rfl, _⟩ := h.pos hn
    rw [run_convert_bytes_arg w 25 5 Try.underlying25 Try.underlying5 b off n c (xs.map fun x => (x.toNat : Int)) (by simpa using h.len) ?_ 9 Try.underlying9]
    · congr 2
      unfold strOfNums bsM
      congr 2
      rw [List.map_map]
      conv => rhs; rw [← List.map_id xs]
      apply List.map_congr_left
      intro x _
      simp
    · intro i hi
      obtain ⟨x, hx, hc, _⟩ := h.at_ i hi
      rw [hc]
      simp [List.getD, List.getElem?_map, hx]
set_option maxRecDepth 100000 in
theorem mgEqual_any (A B : Option Addr) (n m c d : Nat) (xs ys : List UInt8) (w : World) (hx : Rd w A n xs) (hy : Rd w B m ys) :
    Calls Try.prog 71 #[.slice A n c, .slice B m d] w (fun e w' => e = .returned (.bool (eqB xs ys)) ∧ w' = w) := by
  have k1 := conv_any (c := c) hx
  have k2 := conv_any (c := d) hy
  have hb : ((bsM xs).toList == (bsM ys).toList) = eqB xs ys := by rw [ByteArray.toList_eq, ByteArray.toList_eq]; rfl
  have HB := Lib.hid hb
  clear hb hx hy
  go_enter Try.func71, Try.ntmps71
  go_wp2_with fail
  go_ret
  exact ⟨by rw [← HB.out]; rfl, rfl⟩
/-- The Seq of the next newer version of the i-th entry's key. -/
def newerE (es : List En) : Nat → Option Nat
  | 0 => none
  | j + 1 => match es[j]?, es[j + 1]? with
    | some a, some b => if eqB a.key b.key then some a.seq else none
    | _, _ => none
theorem newerE_at {es : List En} {j : Nat} {a b : En} (h1 : es[j]? = some a) (h2 : es[j + 1]? = some b) : newerE es (j + 1) = if eqB a.key b.key then some a.seq else none := by
  rw [newerE, h1, h2]
/-- What newer hands back. -/
def RetNwM (w : World) (o : Option Nat) (e : Ending) (w' : World) : Prop := e = .returned (.tuple #[.int .u64 ((o.getD 0 : Nat) : Int), .bool o.isSome]) ∧ ∃ q, w' = w.drewN q
section
variable {w : World} {A : Option Addr} {n c : Nat} {es : List En}
set_option maxRecDepth 100000 in
set_option maxHeartbeats 4000000 in
theorem mgNewer_any (h : REs w A n es) (hn : n ≤ 1099511627776) (i : Nat) (hi : i < n) : Calls Try.prog 133 #[.slice A n c, .int .i64 (i : Int)] w (RetNwM w (newerE es i)) := by
  cases i with
  | zero =>
    obtain ⟨b, off, rfl, hbl⟩ := h.pos (by omega)
    have HH := Lib.hid h
    clear h
    go_enter Try.func133, Try.ntmps133
    go_wp2_with fail
    go_quiet (fail)
    go_wp2_with fail
    exact bodyPost_ret (v := .tuple #[.int .u64 0, .bool false]) (by simp [results, Try.f133, go_sem]; try rfl) rfl ⟨rfl, _, rfl⟩
  | succ j =>
    obtain ⟨b, off, rfl, hbl⟩ := h.pos (by omega)
    obtain ⟨x, v0, v1, v2, v3, hx, c0, c1, c2, c3, hev⟩ := h.at_ j (by omega)
    obtain ⟨y, u0, u1, u2, u3, hy, d0, d1, d2, d3, hew⟩ := h.at_ (j + 1) hi
    obtain ⟨K, kn, kc, V, vn, vc, rfl, rfl, rfl, rfl, r0, _⟩ := hev.parts
    obtain ⟨L, ln, lc, M, mn, mc, rfl, rfl, rfl, rfl, q0, _⟩ := hew.parts
    obtain ⟨k, hk⟩ : ∃ k, k = j + 1 := ⟨_, rfl⟩
    have hnw := newerE_at hx hy
    rw [← hk] at hnw d0 d1 d2 d3 hi ⊢
    obtain ⟨z, hz⟩ : ∃ z, z = eqB x.key y.key := ⟨_, rfl⟩
    rw [← hz] at hnw
    have HE : Hid (∀ q, Calls Try.prog 71 #[.slice K kn kc, .slice L ln lc] (w.drewN q) (fun e w' => e = .returned (.bool z) ∧ w' = w.drewN q)) := Lib.hid (fun q => by rw [hz]; exact mgEqual_any _ _ _ _ _ _ _ _ _ (r0.drewN q) (q0.drewN q))
    have HN := Lib.hid hnw
    have t1 : ((k : Int) == 0) = false := by rw [beq_eq_false_iff_ne]; omega
    have hk1 : IntKind.i64.wrap ((k : Int) - 1) = (j : Int) := by rw [IntWalk.i64_in _ (by omega)]; omega
    have hjn : j < n := by omega
    clear h hx hy hev hew r0 q0 hz hnw hk
    cases z with
    | true =>
      go_enter Try.func133, Try.ntmps133
      go_wp2_with fail
      go_quiet ((go_at_call 71; with_reducible exact Calls.quiet_of_same (HE.out _)))
      go_wp2_with fail
      exact bodyPost_ret (v := .tuple #[.int .u64 (x.seq : Int), .bool true]) (by simp [results, Try.f133, go_sem]; try rfl) rfl ⟨by rw [HN.out]; rfl, _, rfl⟩
    | false =>
      go_enter Try.func133, Try.ntmps133
      go_wp2_with fail
      go_quiet ((go_at_call 71; with_reducible exact Calls.quiet_of_same (HE.out _)))
      go_wp2_with fail
      exact bodyPost_ret (v := .tuple #[.int .u64 0, .bool false]) (by simp [results, Try.f133, go_sem]; try rfl) rfl ⟨by rw [HN.out]; rfl, _, rfl⟩
end
end Go.Proofs.Ytcclhkoggijkaaa
namespace Go.Proofs.Ytcclhkoggijkaaa
open Go Go.RowKit

/-- The place that is sought. -/
def plE (key : List UInt8) (at_ : Nat) : En := ⟨key, at_, 0, []⟩
/-- Doesn't the i-th entry stand ahead of the place? -/
def nlE (es : List En) (pl : En) (i : Nat) : Bool := match es[i]? with
  | some x => !lessE x pl
  | none => true
theorem ordK_at {es : List En} : ∀ {k : Nat}, ordK es k = true → ∀ i a b, i < k → es[i]? = some a → es[i + 1]? = some b → lessE a b = true
  | 0, _, i, _, _, h, _, _ => absurd h (by omega)
  | k + 1, h, i, a, b, hi, ha, hb => by
    rw [ordK, Bool.and_eq_true] at h
    by_cases e : i = k
    · subst e
      have := h.2
      rw [ha, hb] at this
      exact this
    · exact ordK_at h.1 i a b (by omega) ha hb
theorem ord_sort {es : List En} (h : ordE es = true) : SortL es := by
  have key : ∀ (j i : Nat) a b, i < j → es[i]? = some a → es[j]? = some b → lessE a b = true := by
    intro j
    induction j with
    | zero => intro i a b h; omega
    | succ j ih =>
      intro i a b hij ha hb
      have hlt : j + 1 < es.length := (List.getElem?_eq_some_iff.1 hb).1
      obtain ⟨c, hc⟩ : ∃ c, es[j]? = some c := ⟨_, List.getElem?_eq_getElem (by omega)⟩
      have h1 := ordK_at h j c b (by omega) hc hb
      by_cases e : i = j
      · subst e
        rw [hc] at ha
        injection ha with ha
        rw [← ha]
        exact h1
      · exact lessE_trans (ih i a c (by omega) ha hc) h1
  unfold SortL
  rw [List.pairwise_iff_getElem]
  intro i j hi hj hij
  exact key j i _ _ hij (List.getElem?_eq_getElem hi) (List.getElem?_eq_getElem hj)
theorem buildE_ord {ev : Nat} {es : List En} (h : (buildE ev es).2 = 0) : ordE es = true ∧ es.all formE = true ∧ es.any longE = false ∧ (buildE ev es).1 = sealB (fullB ev es) ∧ (fullB ev es).length ≤ 1048576 := by
  unfold buildE at h ⊢
  split at h
  · cases h
  · rename_i h1
    split at h
    · cases h
    · rename_i h2
      split at h
      · rename_i h3
        rw [if_neg h1, if_neg h2, if_pos h3]
        rw [Bool.and_eq_true] at h3
        exact ⟨h3.2, h3.1, by simpa using h1, rfl, by omega⟩
      · cases h
theorem dec_sort {xs : List UInt8} {es : List En} (h : decB xs = (es, 0)) : SortL es := by
  unfold decB at h
  rcases hog : openG xs ((0 : Nat) : Int) with ⟨ins, nx, k⟩
  rw [hog] at h
  simp only at h
  split at h
  · rename_i hk
    injection h with h1 h2
    exact absurd h2 hk
  · cases hp : parB ins with
    | none =>
      rw [hp] at h
      unfold decP at h
      injection h with h1 h2
      cases h2
    | some r =>
      obtain ⟨gs, ev⟩ := r
      rw [hp, show decP xs (some (gs, ev)) = if (buildZ ev gs).2 = 0 ∧ (buildZ ev gs).1 = xs then (gs, 0) else ([], 3) from rfl] at h
      split at h
      · rename_i hb
        injection h with h1 h2
        subst h1
        have h3 := hb.1
        unfold buildZ at h3
        split at h3
        · cases h3
        · exact ord_sort (buildE_ord h3).1
      · injection h with h1 h2
        cases h2
theorem EOs.at_ {base : Nat} {w : World} : ∀ {es : List En} {vs : List Value} (i : Nat) {x : En}, EOs base w es vs → es[i]? = some x → ∃ v0 v1 v2 v3, vs[i * 4]? = some v0 ∧ vs[i * 4 + 1]? = some v1 ∧ vs[i * 4 + 2]? = some v2 ∧ vs[i * 4 + 3]? = some v3 ∧ EO base w x v0 v1 v2 v3 ∧ (Fam w base (pairE es vs) → Fam w base [(v0, x.key), (v3, x.val)])
  | [], _, i, x, _, h => by simp at h
  | g :: es, _, 0, x, ⟨v0, v1, v2, v3, r, q, h1, h2⟩, h => by
    simp only [List.getElem?_cons_zero, Option.some.injEq] at h
    subst h q
    refine ⟨v0, v1, v2, v3, rfl, rfl, rfl, rfl, h1, fun hf => ?_⟩
    have : pairE (g :: es) (v0 :: v1 :: v2 :: v3 :: r) = [(v0, g.key), (v3, g.val)] ++ pairE es r := rfl
    rw [this] at hf
    exact hf.left
  | g :: es, _, i + 1, x, ⟨v0, v1, v2, v3, r, q, h1, h2⟩, h => by
    rw [List.getElem?_cons_succ] at h
    obtain ⟨a, b, c, d, e0, e1, e2, e3, e4, e5⟩ := EOs.at_ i h2 h
    subst q
    refine ⟨a, b, c, d, ?_, ?_, ?_, ?_, e4, fun hf => ?_⟩
    · rw [show (i + 1) * 4 = i * 4 + 4 by omega]; exact e0
    · rw [show (i + 1) * 4 + 1 = i * 4 + 1 + 4 by omega]; exact e1
    · rw [show (i + 1) * 4 + 2 = i * 4 + 2 + 4 by omega]; exact e2
    · rw [show (i + 1) * 4 + 3 = i * 4 + 3 + 4 by omega]; exact e3
    · have : pairE (g :: es) (v0 :: v1 :: v2 :: v3 :: r) = [(v0, g.key), (v3, g.val)] ++ pairE es r := rfl
      rw [this] at hf
      exact e5 hf.right
/-- What Seek hands back. -/
def RetSk8 (w : World) (r : List En × Int) (pl : En) (e : Ending) (w' : World) : Prop :=
  Below w.heap.size w w' ∧
  ((r.2 ≠ 0 ∧ e = .returned (.tuple #[.agg #[.slice none 0 0, .int .u64 0, .int .u8 0, .slice none 0 0], .bool false, .int .i64 r.2])) ∨
   (r.2 = 0 ∧ (∀ i, i < r.1.length → nlE r.1 pl i = false) ∧ e = .returned (.tuple #[.agg #[.slice none 0 0, .int .u64 0, .int .u8 0, .slice none 0 0], .bool false, .int .i64 0])) ∨
   (r.2 = 0 ∧ ∃ (i : Nat) (x : En), r.1[i]? = some x ∧ nlE r.1 pl i = true ∧ (∀ t, t < i → nlE r.1 pl t = false) ∧
     ∃ K kn kc V vn vc, e = .returned (.tuple #[.agg #[.slice K kn kc, .int .u64 (x.seq : Int), .int .u8 (x.kind : Int), .slice V vn vc], .bool true, .int .i64 0]) ∧ EO w.heap.size w' x (.slice K kn kc) (.int .u64 (x.seq : Int)) (.int .u8 (x.kind : Int)) (.slice V vn vc) ∧ Fam w' w.heap.size [(.slice K kn kc, x.key), (.slice V vn vc, x.val)]))
theorem zero_ev (w : World) (key : List UInt8) (at_ : Nat) {K : Option Addr} {kn kc : Nat} (h : Rd w K kn key) (hc : kn ≤ kc) (hnil : K = none → kc = 0) (ha : U64 at_) : EV w (plE key at_) (.slice K kn kc) (.int .u64 (at_ : Int)) (.int .u8 0) (.slice none 0 0) :=
  ⟨rfl, rfl, ha, by unfold plE; simp, ⟨K, kn, kc, rfl, h, hc, hnil⟩, ⟨none, 0, 0, rfl, Rd.nil _ _, Nat.le_refl _, fun _ => rfl⟩⟩
end Go.Proofs.Ytcclhkoggijkaaa
namespace Go.Proofs.Ytcclhkoggijkaaa
open Go Go.RowKit Go.Maps

section
variable {w : World} {p : Nat} {m : Option Nat} {rs : List FR} {room used left : Int} {dead armed : Bool}
end

/-- The files but one. -/
def delR (x : List UInt8) (rs : List FR) : List FR := rs.filter fun q => q.name != x
def delF (x : List UInt8) (fs : List FE) : List FE := fs.filter fun q => q.1 != x
theorem delR_val (x : List UInt8) (rs : List FR) : (delR x rs).map FR.val = delF x (rs.map FR.val) := by
  unfold delR delF
  rw [List.filter_map]
  rfl
theorem mem_delR {x : List UInt8} {rs : List FR} {q : FR} : q ∈ delR x rs ↔ q ∈ rs ∧ q.name ≠ x := by
  unfold delR
  rw [List.mem_filter]
  simp
theorem delR_len {r : FR} : ∀ {rs : List FR}, rsUp rs → r ∈ rs → (delR r.name rs).length + 1 = rs.length
  | [], _, h => by cases h
  | a :: t, hu, h => by
    unfold rsUp at hu
    rw [List.pairwise_cons] at hu
    rcases List.mem_cons.1 h with rfl | h2
    · have e : delR r.name (r :: t) = t := by
        unfold delR
        rw [List.filter_cons_of_neg (by simp), List.filter_eq_self]
        intro q hq
        have := nlt_ne (hu.1 q hq)
        simpa using fun e => this e.symm
      rw [e, List.length_cons]
    · have hne := nlt_ne (hu.1 r h2)
      have e : delR r.name (a :: t) = a :: delR r.name t := by
        unfold delR
        rw [List.filter_cons_of_pos (by simpa using hne)]
      rw [e, List.length_cons, List.length_cons, delR_len hu.2 h2]
theorem delR_up {x : List UInt8} {rs : List FR} (h : rsUp rs) : rsUp (delR x rs) := List.Pairwise.filter _ h
theorem delR_any (x y : List UInt8) (rs : List FR) : (delR x rs).any (fun q => q.name == y) = (rs.any (fun q => q.name == y) && !(y == x)) := by
  rw [Bool.eq_iff_iff]
  simp only [List.any_eq_true, Bool.and_eq_true, beq_iff_eq, mem_delR, Bool.not_eq_true', beq_eq_false_iff_ne]
  constructor
  · rintro ⟨q, ⟨h1, h2⟩, rfl⟩
    exact ⟨⟨q, h1, rfl⟩, h2⟩
  · rintro ⟨⟨q, h1, rfl⟩, h2⟩
    exact ⟨q, ⟨h1, h2⟩, rfl⟩
theorem MR.del {Dm : DU} {rs : List FR} {r : FR} (h : MR Dm rs) (ht : Tidy Dm) (hu : rsUp rs) (hr : r ∈ rs) : MR (Dm.del (.string r.name)) (delR r.name rs) := by
  have hhas : has Dm (.string r.name) = true := by
    rw [h.2.1, List.any_eq_true]
    exact ⟨r, hr, by simp⟩
  refine ⟨?_, fun x => ?_, fun q hq z => ?_⟩
  · have h1 := size_del (k := .string r.name) ht
    rw [hhas, if_pos rfl, h.1] at h1
    have h2 := delR_len hu hr
    omega
  · rw [delR_any]
    by_cases e : x = r.name
    · subst e
      rw [has_del_same]
      simp
    · rw [has_del_other (by intro e2; injection e2 with e2; exact e e2), h.2.1]
      simp [e]
  · rw [mem_delR] at hq
    rw [atKey_del_other (by intro e2; injection e2 with e2; exact hq.2 e2)]
    exact h.2.2 q hq.1 z
theorem owns_tight {w : World} {b n : Nat} {Dm : DU} (h : w.ownsMap Try.prog 9 ptrEl b n Dm) : w.ownsMap Try.prog 9 ptrEl b (Maps.size Dm) Dm := by
  obtain ⟨es, clock, h1, h2, h3, h4⟩ := h
  refine ⟨es, clock, h1, h2, ?_, h4⟩
  rw [h4, Maps.size_eq, length_sorted]
  simp

section
variable {w w' : World} {p : Nat} {m : Option Nat} {rs : List FR} {room used left : Int} {dead armed : Bool}
theorem mem_delB {x : List UInt8} {b : Nat} (h : b ∈ allB p m (delR x rs)) : b ∈ allB p m rs := by
  simp only [allB, List.mem_cons, List.mem_append, List.mem_flatMap, mem_delR] at h ⊢
  rcases h with h | h | ⟨q, ⟨hq, _⟩, h⟩
  · exact .inl h
  · exact .inr (.inl h)
  · exact .inr (.inr ⟨q, hq, h⟩)
/-- The disk behind a delete of the map's. -/
theorem DskR.del {r : FR} {b : Nat} {Dm : DU} (h : DskR w p (some b) rs room used left dead armed) (hu : rsUp rs) (hr : r ∈ rs) (ho : w'.ownsMap Try.prog 9 ptrEl b rs.length (Dm.del (.string r.name))) (hm : MR Dm rs) (ht : Tidy Dm) (hg : w.grownBy w' (some b)) :
    DskR w' p (some b) (delR r.name rs) room used left dead armed := by
  obtain ⟨h1, h2, h3, h4, h5, h6⟩ := h
  have hf : Fr w w' [b] := Fr.of_grown hg (fun c hc => by injection hc with hc; rw [hc]; exact List.mem_singleton.2 rfl)
  have hM := hm.del ht hu hr
  refine ⟨(hf.block p (Array.getElem?_eq_some_iff.1 h1).1 (fun hmem => h5 b rfl (by rw [List.mem_singleton] at hmem; exact hmem.symm))).trans h1, .inr ⟨b, _, rfl, by rw [← hM.1]; exact owns_tight ho, hM⟩, fun q hq => ?_, fun q hq => h4 q (mem_delR.1 hq).1, h5, List.Pairwise.filter _ h6⟩
  exact (h3 q (mem_delR.1 hq).1).fr hf (fun c hc hmem => (h4 q (mem_delR.1 hq).1).2.1 b rfl (by rw [List.mem_singleton] at hmem; rw [← hmem]; exact hc))

/-- 'The disk without the file.' -/
def RetDel (w : World) (p : Nat) (m : Option Nat) (rs : List FR) (x : List UInt8) (room used left : Int) (dead armed : Bool) (v : Value) (e : Ending) (w' : World) : Prop :=
  e = .returned v ∧ DskR w' p m (delR x rs) room used left dead armed ∧ Fr w w' (allB p m rs)
set_option maxRecDepth 100000 in
set_option maxHeartbeats 1000000 in
theorem drop_none (x : List UInt8) (h : DskR w p m rs room used left dead armed) (hx : ∀ r ∈ rs, r.name ≠ x) (hl : x.length ≤ maxLen) :
    Calls Try.prog 187 #[.pointer (some ⟨p, 0, none⟩), .string (tx x)] w fun e w' => e = .returned (.tuple #[]) ∧ w = w' := by
  obtain ⟨c0, c1, c2, c3, c4, c5⟩ := h.head
  have hlk := h.2.1.look_none hx hl
  clear hx hl
  go_enter Try.func187, Try.ntmps187
  go_wp2
  go_end0
  exact ⟨rfl, rfl⟩
set_option maxRecDepth 100000 in
set_option maxHeartbeats 2000000 in
theorem drop_some {r : FR} (u : Nat) (h : DskR w p m rs room (u : Int) left dead armed) (hu : rsUp rs) (hr : r ∈ rs) (hl : r.name.length ≤ maxLen) (hru : r.dat.length ≤ u) (hu2 : u ≤ 9223372036854775807) :
    Calls Try.prog 187 #[.pointer (some ⟨p, 0, none⟩), .string (tx r.name)] w (RetDel w p m rs r.name room ((u - r.dat.length : Nat) : Int) left dead armed (.tuple #[])) := by
  obtain ⟨c0, c1, c2, c3, c4, c5⟩ := h.head
  have hlk := h.2.1.look_some hr hl
  have hfa := h.2.2.1 r hr
  obtain ⟨d0, d1⟩ := hfa.cells
  have f2 := h.thaw 2
  have hpf : p ≠ r.fb := fun e => (h.2.2.2.1 r hr).1 (by rw [e]; simp [FR.bl])
  have i1 : IntKind.i64.wrap ((u : Int) - (r.dat.length : Int)) = (u : Int) - (r.dat.length : Int) := IntWalk.i64_in _ (by omega)
  have hkey := keyN hl
  go_enter Try.func187, Try.ntmps187
  go_wp2
  go_region
  obtain ⟨W, hW⟩ : ∃ W, W = (w.setCell ⟨p, 2, none⟩ (.int .i64 ((u : Int) - (r.dat.length : Int)))).drew := ⟨_, rfl⟩
  rw [← hW]
  have hf1 : Fr w W [p] := by rw [hW]; exact (Fr.set w p 2 _).drewN 1
  have hD1 : DskR W p m rs room ((u : Int) - (r.dat.length : Int)) left dead armed := h.turn hf1 (by rw [hW]; exact heap_setCell_same _ _ _ _ _ _ h.1)
  have hf1 : Fr w W (allB p m rs) := hf1.mono (fun b hb => .inl (by rw [List.mem_singleton] at hb; rw [hb]; exact mem_head))
  have e1 : ((u : Int) - (r.dat.length : Int)) = ((u - r.dat.length : Nat) : Int) := by omega
  rw [e1] at hD1
  clear hW h hfa c0 c1 c2 c3 c4 c5 d0 d1 f2 i1 hlk e1
  have hM := hD1.2.1
  rcases hM with ⟨_, rfl⟩ | ⟨b, Dm, rfl, ho, hm⟩
  · cases hr
  obtain ⟨c0, _⟩ := hD1.head
  go_wp2_with (at_delete; refine wpList_delete_own _ rfl _ _ 124 9 rfl 127 lawN Try.underlying124 _ b rs.length Dm rfl ho _ _ rfl hkey ?_)
  intro w2 ho2 hturn
  have hfin : RetDel w p (some b) rs r.name room ((u - r.dat.length : Nat) : Int) left dead armed (.tuple #[]) (.returned (.tuple #[])) w2 := by
    refine ⟨rfl, hD1.del hu hr ho2 hm (ho.tidy lawN) hturn.grown, ?_⟩
    exact hf1.trans (Fr.of_grown (bl := [b]) hturn.grown (fun c hc => by injection hc with hc; rw [hc]; exact List.mem_singleton.2 rfl)) (fun c hc => .inl (by rw [List.mem_singleton] at hc; rw [hc]; exact mem_map rfl))
  have HFIN := Lib.hid hfin
  clear hfin ho2 hturn hD1 ho hm hf1
  go_wp2
  go_end0
  exact HFIN.out
end
end Go.Proofs.Ytcclhkoggijkaaa
namespace Go.Proofs.Ytcclhkoggijkaaa
open Go Go.RowKit

/-- A number as a value. -/
def uv (m : Nat) : Value := .int .u64 (m : Int)
/-- 'The slice of n numbers at A reads as these.' -/
def RdU (w : World) (A : Option Addr) (n : Nat) (ms : List Nat) : Prop := RdV w A n (ms.map uv) ∧ ∀ m ∈ ms, U64 m
theorem RdU.len {w : World} {A : Option Addr} {n : Nat} {ms : List Nat} (h : RdU w A n ms) : ms.length = n := by
  have := h.1.1
  simpa using this
theorem RdU.below {w w' : World} {A : Option Addr} {n : Nat} {ms : List Nat} (h : RdU w A n ms) (hb : Below w.heap.size w w') : RdU w' A n ms := ⟨h.1.below hb, h.2⟩
theorem RdU.drewN {w : World} {A : Option Addr} {n : Nat} {ms : List Nat} (h : RdU w A n ms) (q : Nat) : RdU (w.drewN q) A n ms := h.below (below_drewN (Below.refl _ _) q)
theorem RdU.at_ {w : World} {b off n : Nat} {ms : List Nat} (h : RdU w (some ⟨b, off, none⟩) n ms) (k : Nat) (hk : k < n) : ∃ m, ms[k]? = some m ∧ w.cell? ⟨b, off + k, none⟩ = some (.int .u64 (m : Int)) ∧ U64 m := by
  obtain ⟨v, h1, h2⟩ := h.1.at_ k hk
  rw [List.getElem?_map] at h1
  cases hm : ms[k]? with
  | none => rw [hm] at h1; cases h1
  | some m =>
    rw [hm] at h1
    injection h1 with h1
    exact ⟨m, rfl, by rw [h2, ← h1]; rfl, h.2 m (List.mem_of_getElem? hm)⟩
set_option maxRecDepth 100000 in
theorem isNaNc_any (x : Nat) (w : World) : Calls Try.prog 184 #[.int .u64 (x : Int)] w (fun e w' => e = .returned (.bool false) ∧ w' = w) := by
  go_enter Try.func184, Try.ntmps184
  go_wp2_with fail
  go_ret
  exact ⟨rfl, rfl⟩
set_option maxRecDepth 100000 in
theorem isNaNs_any (x : Nat) (w : World) : Calls Try.prog 207 #[.int .u64 (x : Int)] w (fun e w' => e = .returned (.bool false) ∧ w' = w) := by
  go_enter Try.func207, Try.ntmps207
  go_wp2_with fail
  go_ret
  exact ⟨rfl, rfl⟩
set_option maxRecDepth 100000 in
theorem lessU_any (x y : Nat) (w : World) : Calls Try.prog 204 #[.int .u64 (x : Int), .int .u64 (y : Int)] w (fun e w' => e = .returned (.bool (decide (x < y))) ∧ w' = w) := by
  go_enter Try.func204, Try.ntmps204
  by_cases hlt : x < y
  · go_wp2_with (first | (go_at_call 184; with_reducible refine (isNaNc_any _ _).mono ?_; rintro e wx ⟨rfl, rfl⟩))
    go_ret
    exact ⟨by simp [hlt], rfl⟩
  · go_wp2_with (first | (go_at_call 184; with_reducible refine (isNaNc_any _ _).mono ?_; rintro e wx ⟨rfl, rfl⟩))
    go_ret
    exact ⟨by simp [hlt], rfl⟩
/-- The least place whose number isn't below x. -/
def RetBs (w : World) (n : Nat) (ms : List Nat) (x : Nat) (e : Ending) (w' : World) : Prop :=
  ∃ (r : Nat) (f : Bool), e = .returned (.tuple #[.int .i64 (r : Int), .bool f]) ∧ r ≤ n ∧ (∀ t m, t < r → ms[t]? = some m → m < x) ∧ (∀ t m, r ≤ t → ms[t]? = some m → x ≤ m) ∧ ∃ q, w' = w.drewN q
theorem pw_at {ms : List Nat} (h : ms.Pairwise (· ≤ ·)) {i j a b : Nat} (hij : i ≤ j) (h1 : ms[i]? = some a) (h2 : ms[j]? = some b) : a ≤ b := by
  obtain ⟨l1, e1⟩ := List.getElem?_eq_some_iff.1 h1
  obtain ⟨l2, e2⟩ := List.getElem?_eq_some_iff.1 h2
  rcases Nat.eq_or_lt_of_le hij with e | e
  · subst e
    rw [h1] at h2
    injection h2 with h2
    omega
  · have := List.pairwise_iff_getElem.1 h i j l1 l2 e
    omega
set_option maxRecDepth 100000 in
set_option maxHeartbeats 8000000 in
theorem binS_any {w : World} {A : Option Addr} {n c : Nat} {ms : List Nat} (h : RdU w A n ms) (hn : n ≤ 1099511627776) (hp : ms.Pairwise (· ≤ ·)) (x : Nat) : Calls Try.prog 167 #[.slice A n c, .int .u64 (x : Int)] w (RetBs w n ms x) := by
  have HL := Lib.hid h.len
  have HP := Lib.hid hp
  have HH := Lib.hid h
  clear h hp
  go_enter Try.func167, Try.ntmps167
  go_wp2_with fail
  go_loopw [7, 8] (fun s7 s8 wr => ∃ lo hi q : Nat, s7 = .int .i64 (lo : Int) ∧ s8 = .int .i64 (hi : Int) ∧ lo ≤ hi ∧ hi ≤ n ∧ (∀ t m, t < lo → ms[t]? = some m → m < x) ∧ (∀ t m, hi ≤ t → ms[t]? = some m → x ≤ m) ∧ wr = w.drewN q) (fun s7 s8 _ => (intOf s8).toNat - (intOf s7).toNat)
  case atStart => exact ⟨0, n, 0, rfl, rfl, Nat.zero_le _, Nat.le_refl _, (fun t m h => absurd h (Nat.not_lt_zero _)), (fun t m h1 h2 => by have := (List.getElem?_eq_some_iff.1 h2).1; have := HL.out; omega), rfl⟩
  case round =>
    obtain ⟨lo, hi, q, rfl, rfl, h1, h2, h3, h4, rfl⟩ := hrel
    have H3 := Lib.hid h3
    have H4 := Lib.hid h4
    obtain ⟨W, hW⟩ : ∃ W, W = w.drewN q := ⟨_, rfl⟩
    rw [← hW]
    have HW := Lib.hid hW
    have HR : Hid (RdU W A n ms) := Lib.hid (by rw [hW]; exact HH.out.drewN q)
    clear h3 h4 hW
    by_cases hlt : lo < hi
    · obtain ⟨m, hm⟩ : ∃ m, m = (lo + hi) / 2 := ⟨_, rfl⟩
      have e1 : ((lo : Int) + (hi : Int)) / 2 = (m : Int) := by omega
      have hmn : m < hi := by omega
      have hml : lo ≤ m := by omega
      have hmN : m < n := by omega
      obtain ⟨b, off, hAb, _⟩ := HR.out.1.pos (by omega)
      subst hAb
      obtain ⟨y, hy, hcy, _⟩ := HR.out.at_ m (by omega)
      have HY := Lib.hid hy
      by_cases hyx : y < x
      · have HN : Hid (∀ t m', t < m + 1 → ms[t]? = some m' → m' < x) := Lib.hid (fun t m' ht hm' => by have := pw_at HP.out (by omega : t ≤ m) hm' HY.out; omega)
        clear hm hy
        go_wp2_with (first | (go_at_call 204; with_reducible refine (lessU_any _ _ _).mono ?_; rintro e wx ⟨rfl, rfl⟩))
        go_roundw
        case rel => exact ⟨m + 1, hi, q, by go_num, rfl, by omega, h2, HN.out, H4.out, HW.out⟩
        case measure => simp [intOf]; omega
      · have HN : Hid (∀ t m', m ≤ t → ms[t]? = some m' → x ≤ m') := Lib.hid (fun t m' ht hm' => by have := pw_at HP.out ht HY.out hm'; omega)
        clear hm hy
        go_wp2_with (first | (go_at_call 204; with_reducible refine (lessU_any _ _ _).mono ?_; rintro e wx ⟨rfl, rfl⟩))
        go_roundw
        case rel => exact ⟨lo, m, q, rfl, rfl, hml, by omega, H3.out, HN.out, HW.out⟩
        case measure => simp [intOf]; omega
    · obtain rfl : lo = hi := by omega
      have HF : Hid (∀ f : Bool, RetBs w n ms x (.returned (.tuple #[.int .i64 (lo : Int), .bool f])) W) := Lib.hid (fun f => ⟨lo, f, rfl, h2, H3.out, H4.out, q, HW.out⟩)
      by_cases hln : lo < n
      · obtain ⟨b, off, hAb, _⟩ := HR.out.1.pos (by omega)
        subst hAb
        obtain ⟨y, hy, hcy, _⟩ := HR.out.at_ lo hln
        by_cases hyx : y = x
        · have t1 : ((y : Int) == (x : Int)) = true := by rw [beq_iff_eq]; omega
          clear hy
          go_wp2_with (first | (go_at_call 207; with_reducible refine (isNaNs_any _ _).mono ?_; rintro e wx ⟨rfl, rfl⟩))
          exact bodyPost_ret (v := .tuple #[.int .i64 (lo : Int), .bool true]) (by simp [results, Try.f167, go_sem]; try rfl) rfl (HF.out true)
        · have t1 : ((y : Int) == (x : Int)) = false := by rw [beq_eq_false_iff_ne]; omega
          clear hy
          go_wp2_with (first | (go_at_call 207; with_reducible refine (isNaNs_any _ _).mono ?_; rintro e wx ⟨rfl, rfl⟩))
          exact bodyPost_ret (v := .tuple #[.int .i64 (lo : Int), .bool false]) (by simp [results, Try.f167, go_sem]; try rfl) rfl (HF.out false)
      · go_wp2_with fail
        exact bodyPost_ret (v := .tuple #[.int .i64 (lo : Int), .bool false]) (by simp [results, Try.f167, go_sem]; try rfl) rfl (HF.out false)
/-- Is the i-th entry its key's version at one of the moments? -/
def seenE (es : List En) (i : Nat) (ms : List Nat) : Bool :=
  match es[i]? with
  | none => false
  | some x => ms.any (fun m => decide (x.seq ≤ m) && (match newerE es i with
    | none => true
    | some u => decide (m < u)))
theorem seenE_at {es : List En} {i : Nat} {ms : List Nat} {x : En} (h : es[i]? = some x) : seenE es i ms = ms.any (fun m => decide (x.seq ≤ m) && (match newerE es i with
    | none => true
    | some u => decide (m < u))) := by unfold seenE; rw [h]
/-- What isSeen hands back. -/
def RetBq (w : World) (b : Bool) (e : Ending) (w' : World) : Prop := e = .returned (.bool b) ∧ ∃ q, w' = w.drewN q
set_option maxRecDepth 100000 in
set_option maxHeartbeats 8000000 in
theorem isSeen_any {w : World} {A M : Option Addr} {n c mn mc : Nat} {es : List En} {ms : List Nat} (h : REs w A n es) (hn : n ≤ 1099511627776) (i : Nat) (hi : i < n) (hm : RdU w M mn ms) (hmn : mn ≤ 1099511627776) (hp : ms.Pairwise (· ≤ ·)) :
    Calls Try.prog 134 #[.slice A n c, .int .i64 (i : Int), .slice M mn mc] w (RetBq w (seenE es i ms)) := by
  obtain ⟨b, off, rfl, hbl⟩ := h.pos (by omega)
  obtain ⟨x, v0, v1, v2, v3, hx, c0, c1, c2, c3, hev⟩ := h.at_ i hi
  obtain ⟨K, kn, kc, V, vn, vc, rfl, rfl, rfl, rfl, _⟩ := hev.parts
  have HB := Lib.hid (binS_any (c := mc) hm hmn hp x.seq)
  have HNW : Hid (∀ q, Calls Try.prog 133 #[.slice (some ⟨b, off, none⟩) n c, .int .i64 (i : Int)] (w.drewN q) (RetNwM (w.drewN q) (newerE es i))) := Lib.hid (fun q => mgNewer_any (h.drewN q) hn i hi)
  have HSE := Lib.hid (seenE_at (ms := ms) hx)
  have HM := Lib.hid hm
  have HML := Lib.hid hm.len
  have HP := Lib.hid hp
  clear h hx hev hm hp
  go_enter Try.func134, Try.ntmps134
  go_wp2_with fail
  with_reducible refine HB.out.mono ?_
  rintro e w1 ⟨r, f, rfl, hr, hlo, hhi, q, hq⟩
  have HLO := Lib.hid hlo
  have HHI := Lib.hid hhi
  have HQ := Lib.hid hq
  clear hlo hhi hq
  by_cases hrn : r = mn
  · subst hrn
    have HF : Hid (seenE es i ms = false) := Lib.hid (by
      rw [HSE.out, List.any_eq_false]
      intro m hm
      obtain ⟨t, ht⟩ := List.mem_iff_getElem?.1 hm
      have := HLO.out t m (by have := (List.getElem?_eq_some_iff.1 ht).1; have := HML.out; omega) ht
      have : ¬ x.seq ≤ m := by omega
      simp [this])
    go_wp2_with fail
    go_ret
    exact ⟨by rw [HF.out]; rfl, q, HQ.out⟩
  · have t1 : ((r : Int) == (mn : Int)) = false := by rw [beq_eq_false_iff_ne]; omega
    have hrl : r < mn := by omega
    obtain ⟨o, ho⟩ : ∃ o, o = newerE es i := ⟨_, rfl⟩
    have hNW := HNW.out q
    rw [← ho, ← HQ.out] at hNW
    have HNW2 := Lib.hid hNW
    have HO := Lib.hid ho
    clear hNW ho
    obtain ⟨mb, mo, hMb, _⟩ := HM.out.1.pos (by omega)
    subst hMb
    obtain ⟨m1, hm1, hcm, _⟩ := (HM.out.drewN q).at_ r hrl
    have HM1 := Lib.hid hm1
    have hcm1 : w1.cell? ⟨mb, mo + r, none⟩ = some (.int .u64 (m1 : Int)) := by rw [HQ.out]; exact hcm
    clear hm1 hcm c0 c1 c2 c3
    have HCM : Hid (∀ q, (w1.drewN q).cell? ⟨mb, mo + r, none⟩ = some (.int .u64 (m1 : Int))) := Lib.hid (fun q => by rw [← hcm1]; exact (below_drewN (Below.refl w1.heap.size w1) q).cell (p := ⟨mb, mo + r, none⟩) (by
      obtain ⟨b', o', e1, e2, _⟩ := (HM.out.drewN 0).1.2 (by omega)
      injection e1 with e1
      injection e1 with e1 _
      subst e1
      rw [HQ.out]
      simpa using e2))
    have hsx : x.seq ≤ m1 := HHI.out r m1 (Nat.le_refl _) HM1.out
    have HSX := Lib.hid hsx
    go_wp2_with fail
    with_reducible refine HNW2.out.mono ?_
    rintro e w2 ⟨rfl, q2, hq2⟩
    have hcm2 : w2.cell? ⟨mb, mo + r, none⟩ = some (.int .u64 (m1 : Int)) := by rw [hq2]; exact HCM.out q2
    have HQ2 : Hid (∃ q', w2 = w.drewN q') := Lib.hid ⟨_, by rw [hq2, HQ.out, World.drewN_drewN]⟩
    clear hq2 hcm1 hsx
    cases o with
    | none =>
      have HF : Hid (seenE es i ms = true) := Lib.hid (by
        rw [HSE.out, ← HO.out, List.any_eq_true]
        exact ⟨m1, List.mem_of_getElem? HM1.out, by simp [HSX.out]⟩)
      go_wp2_with fail
      go_ret
      exact ⟨by rw [HF.out]; rfl, HQ2.out⟩
    | some u =>
      by_cases hmu : m1 < u
      · have HF : Hid (seenE es i ms = true) := Lib.hid (by
          rw [HSE.out, ← HO.out, List.any_eq_true]
          exact ⟨m1, List.mem_of_getElem? HM1.out, by simp [HSX.out, hmu]⟩)
        go_wp2_with fail
        go_ret
        exact ⟨by rw [HF.out]; rfl, HQ2.out⟩
      · have HF : Hid (seenE es i ms = false) := Lib.hid (by
          rw [HSE.out, ← HO.out, List.any_eq_false]
          intro m hm
          obtain ⟨t, ht⟩ := List.mem_iff_getElem?.1 hm
          rcases Nat.lt_or_ge t r with htr | htr
          · have := HLO.out t m htr ht
            have : ¬ x.seq ≤ m := by omega
            simp [this]
          · have := pw_at HP.out htr HM1.out ht
            have : ¬ m < u := by omega
            simp [this])
        go_wp2_with fail
        go_ret
        exact ⟨by rw [HF.out]; rfl, HQ2.out⟩
end Go.Proofs.Ytcclhkoggijkaaa
namespace Go.Proofs.Ytcclhkoggijkaaa
open Go Go.RowKit

/-- Of the first i lists those that differ from the one ahead. -/
def compN (xss : List (List UInt8)) : Nat → List (List UInt8)
  | 0 => []
  | i + 1 => match xss[i]? with
    | none => compN xss i
    | some x => if (decide (0 < i) && eqB x (xss[i - 1]?.getD [])) = true then compN xss i else compN xss i ++ [x]
def compB (xss : List (List UInt8)) : List (List UInt8) := compN xss xss.length
theorem compN_new {xss : List (List UInt8)} {i : Nat} {x : List UInt8} (h : xss[i]? = some x) (h2 : i = 0 ∨ ∃ y, xss[i - 1]? = some y ∧ eqB x y = false) : compN xss (i + 1) = compN xss i ++ [x] := by
  rw [compN, h]
  refine if_neg ?_
  rcases h2 with rfl | ⟨y, h2, h3⟩
  · simp
  · rw [h2]; simp [h3]
theorem compN_old {xss : List (List UInt8)} {i : Nat} {x y : List UInt8} (h : xss[i]? = some x) (hi : 0 < i) (h2 : xss[i - 1]? = some y) (h3 : eqB x y = true) : compN xss (i + 1) = compN xss i := by
  rw [compN, h]
  refine if_pos ?_
  rw [h2]
  simp [h3, hi]
theorem compN_len (xss : List (List UInt8)) : ∀ i, (compN xss i).length ≤ i
  | 0 => Nat.le_refl _
  | i + 1 => by
    have := compN_len xss i
    rw [compN]
    split
    · omega
    · split
      · omega
      · rw [List.length_append]; simp; omega
/-- A row of slices that are read where they were made, an older world. -/
def RwO (w0 : World) (xss : List (List UInt8)) (arr : Array Value) : Prop := ∀ (i : Nat) x, xss[i]? = some x → ∃ v, arr[i]? = some v ∧ ElB w0 v x
/-- The row at g, from the k-th on still as it was, the first m as they shall be. -/
def CpS (w0 w : World) (g c : Nat) (xss : List (List UInt8)) (arr : Array Value) (k i : Nat) (wr : World) : Prop :=
  ∃ brr, Cl wr g brr 25 ∧ brr.size = c ∧ RwO w0 (compN xss i) brr ∧ (compN xss i).length = k ∧ (∀ j, i ≤ j + 1 → brr[j]? = arr[j]?) ∧ Below w0.heap.size w0 wr ∧ w.grownBy wr (some g)
def RetCp (w0 w : World) (g c s : Nat) (yss : List (List UInt8)) (e : Ending) (w' : World) : Prop :=
  ∃ m brr, e = .returned (.slice (some ⟨g, 0, none⟩) m s) ∧ Cl w' g brr 25 ∧ brr.size = c ∧ RwO w0 yss brr ∧ yss.length = m ∧ Below w0.heap.size w0 w' ∧ w.grownBy w' (some g)
theorem elemLT : Try.prog.elem 108 = 25 := by kernel_rfl
theorem sizeLT (w : World) : (sizeOf 25).run Try.prog w = .ok 1 w := by kernel_rfl
theorem RwO.take {w0 : World} {xss : List (List UInt8)} {arr : Array Value} (h : RwO w0 xss arr) (k : Nat) : RwO w0 (xss.take k) arr := fun i x hx => by
  rw [List.getElem?_take] at hx
  split at hx
  · exact h i x hx
  · cases hx
theorem ElB.up {w0 wr : World} {v : Value} {x : List UInt8} (h : ElB w0 v x) (hb : Below w0.heap.size w0 wr) : ElB wr v x := h.below hb

theorem grow_drew {w w' : World} {row : Option Nat} (h : w.grownBy w' row) : w.grownBy w'.drew row := by
  obtain ⟨p1, p2, p3, p4, p5⟩ := h
  exact ⟨p1, p2, p3, p4, p5⟩
theorem comp_one {xss : List (List UInt8)} (h : 1 ≤ xss.length) : compN xss 1 = xss.take 1 := by
  match xss, h with
  | x :: t, _ => rfl
theorem cl_setCells {g : Nat} {t : TypeId} : ∀ (vs : List Value) (o : Nat) {w : World} {arr : Array Value}, Cl w g arr t → ∃ brr, Cl (w.setCells g o vs) g brr t ∧ brr.size = arr.size ∧ (∀ j, j < o → brr[j]? = arr[j]?) ∧ w.grownBy (w.setCells g o vs) (some g) ∧ ∀ B, B ≤ g → Below B w (w.setCells g o vs)
  | [], _, w, arr, h => ⟨arr, h, rfl, fun _ _ => rfl, grow_of_below (Below.refl _ _), fun _ _ => Below.refl _ _⟩
  | v :: r, o, w, arr, h => by
    obtain ⟨brr, h1, h2, h3, ⟨q1, q2, q3, q4, q5⟩, h5⟩ := cl_setCells r (o + 1) (h.set o v)
    obtain ⟨p1, p2, p3, p4, p5⟩ : w.grownBy (w.setCell ⟨g, o, none⟩ v) (some g) := grow_set (grow_of_below (Below.refl _ _)) g o v rfl
    refine ⟨brr, h1, by rw [h2]; simp, fun j hj => ?_, ⟨q1.trans p1, q2.trans p2, q3.trans p3, Nat.le_trans p4 q4, fun k hk hne => ?_⟩, fun B hB => ((Below.refl _ _).setCell hB v).trans (h5 B hB)⟩
    · rw [h3 j (by omega), Array.getElem?_setIfInBounds_ne (by omega)]
    · exact (q5 k (Nat.lt_of_lt_of_le hk p4) hne).trans (p5 k hk hne)

set_option maxRecDepth 100000 in
set_option maxHeartbeats 16000000 in
theorem compact_any {w0 w : World} {g n c s : Nat} {arr : Array Value} {xss : List (List UInt8)} (hz : Cl w g arr 25) (hc : arr.size = c) (hn : n ≤ c) (hns : n ≤ s) (hn2 : n ≤ 1099511627776) (hl : xss.length = n) (he : RwO w0 xss arr) (hg : w0.heap.size ≤ g) (hb : Below w0.heap.size w0 w) :
    Calls Try.prog 115 #[.slice (some ⟨g, 0, none⟩) n s, .func (.func 71) #[] #[]] w (RetCp w0 w g c s (compB xss)) := by
  have HZ := Lib.hid hz
  have HE := Lib.hid he
  have HL := Lib.hid hl
  have HC := Lib.hid hc
  have HG := Lib.hid hg
  have HB := Lib.hid hb
  clear hz he hl hc hg hb
  go_enter Try.func115, Try.ntmps115
  by_cases hn1 : n < 2
  · have HF : Hid (RetCp w0 w g c s (compB xss) (.returned (.slice (some ⟨g, 0, none⟩) n s)) w) := Lib.hid (by
      have hx : compB xss = xss := by
        have h1 := HL.out
        unfold compB
        match xss, h1 with
        | [], _ => rfl
        | [x], _ => rfl
        | a :: b :: t, h1 => simp at h1; omega
      rw [hx]
      exact ⟨n, arr, rfl, HZ.out, HC.out, HE.out, HL.out, HB.out, grow_of_below (Below.refl _ _)⟩)
    go_wp2_with fail
    go_ret
    exact HF.out
  · have HK2 := Lib.hid (show 2 ≤ n by omega)
    go_wp2_with fail
    go_loopw [5] (fun s5 wr => ∃ k : Nat, 1 ≤ k ∧ k ≤ n ∧ s5 = .int .i64 (k : Int) ∧ compN xss k = xss.take k ∧ Below w.heap.size w wr) (fun s _ => n - (intOf s).toNat)
    case atStart => exact ⟨1, Nat.le_refl _, by have := HK2.out; omega, rfl, comp_one (by have := HL.out; have := HK2.out; omega), Below.refl _ _⟩
    case round =>
      obtain ⟨k, hk1, hkn, rfl, hT, hB⟩ := hrel
      have HT := Lib.hid hT
      have HBR := Lib.hid hB
      clear hT hB
      by_cases hlt : k < n
      · obtain ⟨j, rfl⟩ : ∃ j, k = j + 1 := ⟨k - 1, by omega⟩
        obtain ⟨k, hk⟩ : ∃ k, k = j + 1 := ⟨_, rfl⟩
        rw [← hk] at hlt hkn hk1 HT ⊢
        have hlx := HL.out
        obtain ⟨x, hx⟩ : ∃ x, xss[k]? = some x := ⟨_, List.getElem?_eq_getElem (by omega)⟩
        obtain ⟨y, hy⟩ : ∃ y, xss[j]? = some y := ⟨_, List.getElem?_eq_getElem (by omega)⟩
        obtain ⟨v, hv, A1, n1, c1, rfl, r1, _⟩ := HE.out k x hx
        obtain ⟨u, hu, A2, n2, c2, rfl, r2, _⟩ := HE.out j y hy
        have b0 : Below w0.heap.size w0 wr := HB.out.trans (HBR.out.mono HB.out.size)
        have HEQ : Hid (∀ wx, Below wr.heap.size wr wx → Calls Try.prog 71 #[.slice A1 n1 c1, .slice A2 n2 c2] wx (fun e w' => e = .returned (.bool (eqB x y)) ∧ w' = wx)) := Lib.hid (fun wx hb => mgEqual_any A1 A2 n1 n2 c1 c2 x y wx ((r1.below b0).below hb) ((r2.below b0).below hb))
        have zr : Cl wr g arr 25 := HZ.out.below HBR.out
        have c0 : wr.cell? ⟨g, k, none⟩ = some (.slice A1 n1 c1) := (zr.cell k).trans hv
        have cj : wr.cell? ⟨g, j, none⟩ = some (.slice A2 n2 c2) := (zr.cell j).trans hu
        have HCC : Hid (∀ wx, Below wr.heap.size wr wx → wx.cell? ⟨g, k, none⟩ = some (.slice A1 n1 c1) ∧ wx.cell? ⟨g, j, none⟩ = some (.slice A2 n2 c2)) := Lib.hid (fun wx hb => ⟨((zr.below hb).cell k).trans hv, ((zr.below hb).cell j).trans hu⟩)
        have hkj : IntKind.i64.wrap ((k : Int) - 1) = (j : Int) := by rw [IntWalk.i64_in _ (by omega)]; omega
        have hj : j < n := by omega
        have HX := Lib.hid hx
        have HY := Lib.hid hy
        have HK := Lib.hid hk
        have HV := Lib.hid hv
        have hB0 : Below wr.heap.size wr wr.drew := (Below.refl _ _).drew
        obtain ⟨z, hzz⟩ : ∃ z, z = eqB x y := ⟨_, rfl⟩
        rw [← hzz] at HEQ
        have HZZ := Lib.hid hzz
        clear hlx hx hy hv hu r1 r2 b0 zr hk hzz
        cases z with
        | true =>
          have hsk : n - k ≤ s - k := by omega
          go_wp2_with fail
          go_region_held3 (fun wx => wx.cell? ⟨g, k, none⟩ = some (.slice A1 n1 c1) ∧ wx.cell? ⟨g, j, none⟩ = some (.slice A2 n2 c2)) (first | assumption | exact HCC.out _ hB0)
            (first | (go_at_call 71; with_reducible refine (HEQ.out _ hB0).mono ?_; intro e1 wn hq; obtain ⟨h1, h2⟩ := hq; subst h1; subst h2))
          all_goals
            clear c0 cj HCC HEQ
            have HP0 : Hid (CpS w0 w g c xss arr k (k + 1) wr.drew) := Lib.hid (by
              have e1 : compN xss (k + 1) = xss.take k := by rw [compN_old HX.out (by omega) (by rw [HK.out]; exact HY.out) HZZ.out.symm, HT.out]
              have b2 := HBR.out.drew
              exact ⟨arr, HZ.out.below b2, HC.out, by rw [e1]; exact HE.out.take k, by rw [e1, List.length_take, HL.out]; omega, fun _ _ => rfl, HB.out.trans (b2.mono HB.out.size), grow_of_below b2⟩)
            go_wp2_with fail
            go_loopw [5, 7] (fun s5 s7 wq => ∃ k2 i : Nat, s5 = .int .i64 (k2 : Int) ∧ s7 = .int .i64 (i : Int) ∧ 1 ≤ i ∧ k + i ≤ n ∧ k2 + 1 ≤ k + i ∧ CpS w0 w g c xss arr k2 (k + i) wq) (fun _ s _ => n - (intOf s).toNat)
            case atStart => exact ⟨k, 1, rfl, rfl, Nat.le_refl _, by omega, by omega, HP0.out⟩
            case round =>
              obtain ⟨k2, i, rfl, rfl, hi1, hin, hki, hP⟩ := hrel
              obtain ⟨brr, zq, hbs, hrw, hlen, hun, hbq, hgq⟩ := hP
              by_cases hlt2 : k + i < n
              · obtain ⟨i1, hi⟩ : ∃ i1, i = i1 + 1 := ⟨i - 1, by omega⟩
                have hlx := HL.out
                obtain ⟨x2, hx2⟩ : ∃ x, xss[k + i]? = some x := ⟨_, List.getElem?_eq_getElem (by omega)⟩
                obtain ⟨y2, hy2⟩ : ∃ y, xss[k + i1]? = some y := ⟨_, List.getElem?_eq_getElem (by omega)⟩
                obtain ⟨v2, hv2, B1, m1, d1, rfl, q1, hmd1, hnil1⟩ := HE.out (k + i) x2 hx2
                obtain ⟨u2, hu2, B2, m2, d2, rfl, q2, _⟩ := HE.out (k + i1) y2 hy2
                have HEL : Hid (ElB w0 (.slice B1 m1 d1) x2) := Lib.hid ⟨B1, m1, d1, rfl, q1, hmd1, hnil1⟩
                have HEQ : Hid (∀ wx, Below wr.heap.size wr wx → Calls Try.prog 71 #[.slice B1 m1 d1, .slice B2 m2 d2] wx (fun e w' => e = .returned (.bool (eqB x2 y2)) ∧ w' = wx)) := Lib.hid (fun wx hb => mgEqual_any B1 B2 m1 m2 d1 d2 x2 y2 wx ((q1.below hbq).below hb) ((q2.below hbq).below hb))
                rw [← hun (k + i) (by omega)] at hv2
                rw [← hun (k + i1) (by omega)] at hu2
                obtain ⟨old, ho⟩ : ∃ o, brr[k2]? = some o := ⟨_, Array.getElem?_eq_getElem (by omega)⟩
                have HCC : Hid (∀ wx, Below wr.heap.size wr wx → wx.cell? ⟨g, k + i, none⟩ = some (.slice B1 m1 d1) ∧ wx.cell? ⟨g, k + i1, none⟩ = some (.slice B2 m2 d2)) := Lib.hid (fun wx hb => ⟨((zq.below hb).cell _).trans hv2, ((zq.below hb).cell _).trans hu2⟩)
                have c0 : wr.cell? ⟨g, k + i, none⟩ = some (.slice B1 m1 d1) := (zq.cell _).trans hv2
                have cj : wr.cell? ⟨g, k + i1, none⟩ = some (.slice B2 m2 d2) := (zq.cell _).trans hu2
                have e0 : wr.drew.cell? ⟨g, k + i, none⟩ = some (.slice B1 m1 d1) := (zq.cell _).trans hv2
                have ck : wr.drew.cell? ⟨g, k2, none⟩ = some old := (zq.cell _).trans ho
                have fk : wr.drew.frozen? ⟨g, k2, none⟩ = false := zq.thaw _
                have hij : IntKind.i64.wrap ((i : Int) - 1) = (i1 : Int) := by rw [IntWalk.i64_in _ (by omega)]; omega
                have hl3 : i < n - k := by omega
                have hl4 : i1 < n - k := by omega
                have hl5 : k2 < n := by omega
                have hB0 : Below wr.heap.size wr wr.drew := (Below.refl _ _).drew
                have HP := Lib.hid (show CpS w0 w g c xss arr k2 (k + i) wr from ⟨brr, zq, hbs, hrw, hlen, hun, hbq, hgq⟩)
                have HX2 := Lib.hid hx2
                have HY2 := Lib.hid hy2
                have HI := Lib.hid hi
                obtain ⟨z2, hz2⟩ : ∃ z, z = eqB x2 y2 := ⟨_, rfl⟩
                rw [← hz2] at HEQ
                have HZ2 := Lib.hid hz2
                clear hlx hx2 hy2 hv2 hu2 q1 q2 zq hbs hrw hlen hun hbq hgq hi hz2 ho hmd1 hnil1
                cases z2 with
                | true =>
                  clear e0 ck fk
                  go_wp2_with fail
                  go_region_held3 (fun wx => wx.cell? ⟨g, k + i, none⟩ = some (.slice B1 m1 d1) ∧ wx.cell? ⟨g, k + i1, none⟩ = some (.slice B2 m2 d2)) (first | assumption | exact HCC.out _ hB0)
                    (first | (go_at_call 71; with_reducible refine (HEQ.out _ hB0).mono ?_; intro e1 wn hq; obtain ⟨h1, h2⟩ := hq; subst h1; subst h2))
                  all_goals
                    have HP3 : Hid (CpS w0 w g c xss arr k2 (k + (i + 1)) wr.drew) := Lib.hid (by
                      obtain ⟨brr, zq, hbs, hrw, hlen, hun, hbq, hgq⟩ := HP.out
                      have e1 : compN xss (k + (i + 1)) = compN xss (k + i) := compN_old (i := k + i) HX2.out (by omega) (by rw [show k + i - 1 = k + i1 by have := HI.out; omega]; exact HY2.out) HZ2.out.symm
                      exact ⟨brr, zq, hbs, by rw [e1]; exact hrw, by rw [e1]; exact hlen, fun j hj => hun j (by omega), hbq.drew, grow_drew hgq⟩)
                    go_wp2_with fail
                    go_roundw
                    case rel => exact ⟨k2, i + 1, rfl, by go_num, by omega, by omega, by omega, HP3.out⟩
                    case measure => simp [intOf]; omega
                | false =>
                  go_wp2_with fail
                  go_region_held3 (fun wx => wx.cell? ⟨g, k + i, none⟩ = some (.slice B1 m1 d1) ∧ wx.cell? ⟨g, k + i1, none⟩ = some (.slice B2 m2 d2)) (first | assumption | exact HCC.out _ hB0)
                    (first | (go_at_call 71; with_reducible refine (HEQ.out _ hB0).mono ?_; intro e1 wn hq; obtain ⟨h1, h2⟩ := hq; subst h1; subst h2))
                  all_goals
                    have HP3 : Hid (CpS w0 w g c xss arr (k2 + 1) (k + (i + 1)) (wr.drew.setCell ⟨g, k2, none⟩ (.slice B1 m1 d1))) := Lib.hid (by
                      obtain ⟨brr, zq, hbs, hrw, hlen, hun, hbq, hgq⟩ := HP.out
                      have e1 : compN xss (k + (i + 1)) = compN xss (k + i) ++ [x2] := compN_new (i := k + i) HX2.out (.inr ⟨y2, by rw [show k + i - 1 = k + i1 by have := HI.out; omega]; exact HY2.out, HZ2.out.symm⟩)
                      have hgw : w0.heap.size ≤ g := HG.out
                      refine ⟨brr.setIfInBounds k2 (.slice B1 m1 d1), zq.drewN 1 |>.set k2 _, by simp [hbs], ?_, by rw [e1, List.length_append, hlen]; rfl, fun j hj => ?_, (hbq.drew).setCell hgw _, ?_⟩
                      · rw [e1]
                        intro t x hx
                        by_cases ht : t < k2
                        · rw [List.getElem?_append_left (by omega)] at hx
                          obtain ⟨v, h1, h2⟩ := hrw t x hx
                          exact ⟨v, by rw [Array.getElem?_setIfInBounds_ne (by omega)]; exact h1, h2⟩
                        · rw [List.getElem?_append_right (by omega), hlen] at hx
                          have ht2 : t = k2 := by
                            rcases Nat.lt_or_ge t (k2 + 1) with h | h
                            · omega
                            · rw [List.getElem?_eq_none (by simp; omega)] at hx; cases hx
                          subst ht2
                          simp at hx
                          subst hx
                          exact ⟨_, Array.getElem?_setIfInBounds_self_of_lt (by omega), HEL.out⟩
                      · rw [Array.getElem?_setIfInBounds_ne (by omega)]
                        exact hun j (by omega)
                      · exact grow_set (w' := wr.drew) (grow_drew hgq) g k2 _ rfl)
                    go_wp2_with fail
                    go_roundw
                    case rel => exact ⟨k2 + 1, i + 1, by go_num, by go_num, by omega, by omega, by omega, HP3.out⟩
                    case measure => simp [intOf]; omega
              · have hin2 : i = n - k := by omega
                have hcl : ∀ ty, (Builtin.clear_ #[108] ty #[.slice (some ⟨g, k2, none⟩) (n - k2) (s - k2)]).run Try.prog wr = .ok (.tuple #[]) (wr.setCells g k2 (List.replicate (n - k2) (.slice none 0 0))) :=
                  fun ty => Lib.run_clear_slice wr _ _ ty _ Try.underlying108 Try.zeroValue25 rfl rfl g k2 _ _ (by omega) (fun j hj => by rw [zq.cell, Array.getElem?_eq_getElem (by omega)]; rfl) (fun j hj => zq.thaw _)
                have HF : Hid (RetCp w0 w g c s (compB xss) (.returned (.slice (some ⟨g, 0, none⟩) k2 s)) (wr.setCells g k2 (List.replicate (n - k2) (.slice none 0 0)))) := Lib.hid (by
                  have e1 : compB xss = compN xss (k + i) := by unfold compB; rw [HL.out, show k + i = n by omega]
                  obtain ⟨crr, k1, k3, k4, k5, k6⟩ := cl_setCells (List.replicate (n - k2) (.slice none 0 0)) k2 zq
                  rw [e1]
                  refine ⟨k2, crr, rfl, k1, by rw [k3, hbs], fun t x hx => ?_, hlen, hbq.trans (k6 _ HG.out), ?_⟩
                  · obtain ⟨v, h1, h2⟩ := hrw t x hx
                    have htl : t < k2 := by
                      rcases Nat.lt_or_ge t k2 with h | h
                      · exact h
                      · rw [List.getElem?_eq_none (by omega)] at hx; cases hx
                    exact ⟨v, by rw [k4 t htl]; exact h1, h2⟩
                  · obtain ⟨q1, q2, q3, q4, q5⟩ := k5
                    obtain ⟨p1, p2, p3, p4, p5⟩ := hgq
                    exact ⟨q1.trans p1, q2.trans p2, q3.trans p3, Nat.le_trans p4 q4, fun b hb hne => (q5 b (Nat.lt_of_lt_of_le hb p4) hne).trans (p5 b hb hne)⟩)
                have hl3 : ¬ i < n - k := by omega
                have hl4 : k2 ≤ n := by omega
                have hl5 : k2 ≤ s := by omega
                clear zq hbs hrw hlen hun hbq hgq hin2
                go_wp2_with fail
                go_ret
                exact HF.out
        | false =>
          go_wp2_with fail
          go_region_held3 (fun wx => wx.cell? ⟨g, k, none⟩ = some (.slice A1 n1 c1) ∧ wx.cell? ⟨g, j, none⟩ = some (.slice A2 n2 c2)) (first | assumption | exact HCC.out _ hB0)
            (first | (go_at_call 71; with_reducible refine (HEQ.out _ hB0).mono ?_; intro e1 wn hq; obtain ⟨h1, h2⟩ := hq; subst h1; subst h2))
          all_goals
            go_wp2_with fail
            go_roundw
            case rel => exact ⟨k + 1, by omega, by omega, by go_num, by rw [compN_new HX.out (.inr ⟨y, by rw [HK.out]; exact HY.out, HZZ.out.symm⟩), HT.out, List.take_add_one, HX.out]; rfl, HBR.out.drew⟩
            case measure => simp [intOf]; omega
      · have HF : Hid (RetCp w0 w g c s (compB xss) (.returned (.slice (some ⟨g, 0, none⟩) n s)) wr) := Lib.hid (by
          have hx : compB xss = xss := by
            unfold compB
            obtain rfl : k = n := by omega
            rw [HL.out, HT.out, List.take_of_length_le (by have := HL.out; omega)]
          rw [hx]
          exact ⟨n, arr, rfl, HZ.out.below HBR.out, HC.out, HE.out, HL.out, HB.out.trans (HBR.out.mono HB.out.size), grow_of_below HBR.out⟩)
        go_wp2_with fail
        go_ret
        exact HF.out
end Go.Proofs.Ytcclhkoggijkaaa
namespace Go.Proofs.Ytcclhkoggijkaaa
open Go Go.RowKit

theorem openG_one (r : List UInt8) (hr : r.length ≤ 1048576) : openG (sealB r) ((0 : Nat) : Int) = (r, ((8 + r.length : Nat) : Int), 0) := by
  have hl := sealB_len r
  have hm : r.length = numK ((sealB r).drop 0) 4 := by
    rw [List.drop_zero, sealB, numK_fourB _ _ (by omega)]
  have h2 : (sealB r).take (0 + 8 + r.length) = sealB r := List.take_of_length_le (by omega)
  have h4 : (sealB r).drop (0 + 8) = r := by
    unfold sealB
    rw [← List.append_assoc]
    exact List.drop_left' (by simp only [List.length_append, fourB_len])
  rw [openG_whole (a := 0) (n := 8 + r.length) hl hm (by omega) (by omega), h2, h4, List.drop_zero, eqB_self, if_pos rfl, Nat.zero_add]
theorem numR_at {xs pre r : List UInt8} {n a : Nat} (hx : xs = pre ++ (putU n ++ r)) (ha : a = pre.length) (h : n < B64) : numR xs (a, false) = (n, (a + (putU n).length, false)) := by
  subst hx ha
  unfold numR
  rw [getU_at pre r n h, if_pos rfl]
  simp only [Int.toNat_natCast]
theorem takeR_at {xs pre ys r : List UInt8} {n a : Nat} (hx : xs = pre ++ (ys ++ r)) (ha : a = pre.length) (hn : n = ys.length) : takeR xs n (a, false) = (ys, (a + n, false)) := by
  subst hx ha hn
  unfold takeR
  simp only [List.length_append]
  rw [if_neg (by omega), List.drop_left' rfl, List.take_left' rfl]
theorem comB_take : ∀ (xs ys : List UInt8), xs.take (comB xs ys) = ys.take (comB xs ys)
  | [], _ => by simp [comB]
  | _ :: _, [] => by simp [comB]
  | x :: xs, y :: ys => by
    unfold comB
    split
    · rename_i e
      subst e
      rw [List.take_succ_cons, List.take_succ_cons, comB_take xs ys]
    · simp
/-- An entry that was written is read back. -/
theorem ent_at {xs pre R ah : List UInt8} {x : En} {s a : Nat} (hx : xs = pre ++ (entB s x ++ R)) (ha : a = pre.length) (hs : s ≤ x.key.length) (hk : x.key.length ≤ 1024) (hv : x.val.length ≤ 65536) (hq : U64 x.seq) (hd : x.kind < 256) (hah : ah.take s = x.key.take s) :
    badR xs ah a = false ∧ entR xs ah a = x ∧ (e7R xs a).2.1 = a + (entB s x).length := by
  have hx0 : xs = pre ++ (putU s ++ (putU (x.key.length - s) ++ (putU x.seq ++ ([bt x.kind] ++ (putU x.val.length ++ (x.key.drop s ++ (x.val ++ R))))))) := by
    rw [hx]
    unfold entB
    simp only [List.append_assoc]
  have h1 : e1R xs a = (s, (a + (putU s).length, false)) := numR_at hx0 ha (by unfold B64; omega)
  have h2 : e2R xs a = (x.key.length - s, (a + (putU s).length + (putU (x.key.length - s)).length, false)) := by
    unfold e2R
    rw [h1]
    exact numR_at (pre := pre ++ putU s) (r := putU x.seq ++ ([bt x.kind] ++ (putU x.val.length ++ (x.key.drop s ++ (x.val ++ R))))) (by rw [hx0]; simp only [List.append_assoc]) (by simp only [List.length_append, ha]) (by unfold B64; omega)
  have h3 : e3R xs a = (x.seq, (a + (putU s).length + (putU (x.key.length - s)).length + (putU x.seq).length, false)) := by
    unfold e3R
    rw [h2]
    exact numR_at (pre := pre ++ putU s ++ putU (x.key.length - s)) (r := [bt x.kind] ++ (putU x.val.length ++ (x.key.drop s ++ (x.val ++ R)))) (by rw [hx0]; simp only [List.append_assoc]) (by simp only [List.length_append, ha]) hq
  have h4 : e4R xs a = ([bt x.kind], (a + (putU s).length + (putU (x.key.length - s)).length + (putU x.seq).length + 1, false)) := by
    unfold e4R
    rw [h3]
    exact takeR_at (pre := pre ++ putU s ++ putU (x.key.length - s) ++ putU x.seq) (r := putU x.val.length ++ (x.key.drop s ++ (x.val ++ R))) (by rw [hx0]; simp only [List.append_assoc]) (by simp only [List.length_append, ha]) rfl
  have h5 : e5R xs a = (x.val.length, (a + (putU s).length + (putU (x.key.length - s)).length + (putU x.seq).length + 1 + (putU x.val.length).length, false)) := by
    unfold e5R
    rw [h4]
    exact numR_at (pre := pre ++ putU s ++ putU (x.key.length - s) ++ putU x.seq ++ [bt x.kind]) (r := x.key.drop s ++ (x.val ++ R)) (by rw [hx0]; simp only [List.append_assoc]) (by simp only [List.length_append, List.length_cons, List.length_nil, ha]) (by unfold B64; omega)
  have h6 : e6R xs a = (x.key.drop s, (a + (putU s).length + (putU (x.key.length - s)).length + (putU x.seq).length + 1 + (putU x.val.length).length + (x.key.length - s), false)) := by
    unfold e6R
    rw [h2, h5]
    exact takeR_at (pre := pre ++ putU s ++ putU (x.key.length - s) ++ putU x.seq ++ [bt x.kind] ++ putU x.val.length) (r := x.val ++ R) (by rw [hx0]; simp only [List.append_assoc]) (by simp only [List.length_append, List.length_cons, List.length_nil, ha]) (by simp)
  have h7 : e7R xs a = (x.val, (a + (putU s).length + (putU (x.key.length - s)).length + (putU x.seq).length + 1 + (putU x.val.length).length + (x.key.length - s) + x.val.length, false)) := by
    unfold e7R
    rw [h5, h6]
    exact takeR_at (pre := pre ++ putU s ++ putU (x.key.length - s) ++ putU x.seq ++ [bt x.kind] ++ putU x.val.length ++ x.key.drop s) (r := R) (by rw [hx0]; simp only [List.append_assoc]) (by simp only [List.length_append, List.length_cons, List.length_nil, List.length_drop, ha]) rfl
  have hahl : s ≤ ah.length := by
    have := congrArg List.length hah
    simp only [List.length_take] at this
    omega
  refine ⟨?_, ?_, ?_⟩
  · unfold badR
    rw [h7, h1, h6]
    simp only [List.length_drop, Bool.false_or, Bool.or_eq_false_iff, decide_eq_false_iff_not]
    omega
  · unfold entR
    rw [h1, h3, h4, h6, h7]
    simp only [List.headD_cons]
    rw [hah, List.take_append_drop, bt_nat _ hd]
  · rw [h7]
    simp only
    unfold entB
    simp only [List.length_append, List.length_cons, List.length_nil, List.length_drop]
    omega
theorem outB_pre (ev : Nat) (es : List En) (i : Nat) : ∀ j, i ≤ j → ∃ R, outB ev es j = outB ev es i ++ R := by
  intro j
  induction j with
  | zero => intro h; exact ⟨[], by rw [show i = 0 by omega]; simp⟩
  | succ j ih =>
    intro h
    by_cases e : i = j + 1
    · exact ⟨[], by rw [e]; simp⟩
    · obtain ⟨R, hR⟩ := ih (by omega)
      rw [outB]
      split
      · exact ⟨R ++ entB (shB ev es j) _, by rw [hR, List.append_assoc]⟩
      · exact ⟨R, hR⟩
theorem rsB_pre (ev : Nat) (es : List En) (i : Nat) : ∀ j, i ≤ j → ∃ R, rsB ev es j = rsB ev es i ++ R := by
  intro j
  induction j with
  | zero => intro h; exact ⟨[], by rw [show i = 0 by omega]; simp⟩
  | succ j ih =>
    intro h
    by_cases e : i = j + 1
    · exact ⟨[], by rw [e]; simp⟩
    · obtain ⟨R, hR⟩ := ih (by omega)
      rw [rsB]
      split
      · exact ⟨R ++ fourB _, by rw [hR, List.append_assoc]⟩
      · exact ⟨R, hR⟩
theorem rsB_mod (ev : Nat) (es : List En) : ∀ i, (rsB ev es i).length % 4 = 0
  | 0 => rfl
  | i + 1 => by
    have := rsB_mod ev es i
    unfold rsB
    split
    · rw [List.length_append, fourB_len]; omega
    · exact this
theorem rsB_one {ev : Nat} {es : List En} : ∀ {i : Nat}, 1 ≤ i → i ≤ ev → rsB ev es i = fourB 0
  | 0, h, _ => absurd h (by omega)
  | i + 1, _, h2 => by
    by_cases e : i = 0
    · subst e
      rw [rsB, if_pos (Nat.zero_mod _)]
      rfl
    · rw [rsB, if_neg (by rw [Nat.mod_eq_of_lt (by omega)]; exact e)]
      exact rsB_one (by omega) (by omega)
theorem entB_pos (s : Nat) (x : En) : 1 ≤ (entB s x).length := by
  have := putU_pos s
  unfold entB
  simp only [List.length_append]
  omega
theorem lastK_take {es : List En} {i : Nat} {y : En} (h : es[i]? = some y) : lastK (es.take (i + 1)) = y.key := by
  rw [List.take_add_one, h]
  exact lastK_snoc _ y
theorem sh_take {ev i : Nat} {es : List En} {x : En} (h : es[i]? = some x) : (lastK (es.take i)).take (shB ev es i) = x.key.take (shB ev es i) := by
  unfold shB
  split
  · simp
  · rename_i h0
    obtain ⟨j, rfl⟩ : ∃ j, i = j + 1 := ⟨i - 1, by
      rcases Nat.eq_zero_or_pos i with e | e
      · rw [e, Nat.zero_mod] at h0; exact absurd rfl h0
      · omega⟩
    obtain ⟨y, hy⟩ : ∃ y, es[j]? = some y := ⟨_, List.getElem?_eq_getElem (by have := (List.getElem?_eq_some_iff.1 h).1; omega)⟩
    rw [Nat.add_sub_cancel, hy, h, lastK_take hy]
    exact comB_take _ _
/-- Reading on from the i-th entry. -/
theorem par_from {ev : Nat} {es : List En} {sec : Int} (hz : ∀ x ∈ es, x.key.length ≤ 1024 ∧ x.val.length ≤ 65536) (hw : ∀ x ∈ es, U64 x.seq ∧ x.kind < 256) (g : Nat → Nat → Nat) (hg0 : ∀ c, g es.length c = c)
    (hg : ∀ i c, i < es.length → g i c = g (i + 1) (if ((outB ev es i).length : Int) = sec then i else c)) : ∀ (k i f c : Nat), i + k = es.length → k < f → parR (outB ev es es.length) sec f (outB ev es i).length (es.take i) c = some (es, g i c)
  | 0, i, f, c, hi, hf => by
    obtain ⟨f', rfl⟩ : ∃ f', f = f' + 1 := ⟨f - 1, by omega⟩
    obtain rfl : i = es.length := by omega
    rw [parR, if_pos (Nat.le_refl _), hg0, List.take_length]
  | k + 1, i, f, c, hi, hf => by
    obtain ⟨f', rfl⟩ : ∃ f', f = f' + 1 := ⟨f - 1, by omega⟩
    have hlt : i < es.length := by omega
    obtain ⟨x, hx⟩ : ∃ x, es[i]? = some x := ⟨_, List.getElem?_eq_getElem hlt⟩
    have hm := List.mem_of_getElem? hx
    obtain ⟨R, hR⟩ := outB_pre ev es (i + 1) es.length hlt
    rw [outB_step hx, List.append_assoc] at hR
    have hpos := entB_pos (shB ev es i) x
    obtain ⟨q1, q2, q3⟩ := ent_at (ah := lastK (es.take i)) hR rfl (shB_le hx) (hz x hm).1 (hz x hm).2 (hw x hm).1 (hw x hm).2 (sh_take hx)
    have hlen : (outB ev es i).length < (outB ev es es.length).length := by
      rw [hR]
      simp only [List.length_append]
      omega
    have hnx : (outB ev es i).length + (entB (shB ev es i) x).length = (outB ev es (i + 1)).length := by rw [outB_step hx, List.length_append]
    have htk : es.take i ++ [x] = es.take (i + 1) := by rw [List.take_add_one, hx]; rfl
    rw [parR, if_neg (by omega), q1, q2, q3, hnx, htk, List.length_take, Nat.min_eq_left (by omega)]
    simp only [Bool.false_eq_true, if_false]
    rw [par_from hz hw g hg0 hg k (i + 1) f' _ (by omega) (by omega), ← hg i c hlt]
theorem split_full {ev : Nat} {es : List En} (hF : (fullB ev es).length ≤ 1048576) : splitB (fullB ev es) = some (outB ev es es.length, rsB ev es es.length) := by
  have hm := rsB_mod ev es es.length
  obtain ⟨o, ho⟩ : ∃ o, o = outB ev es es.length := ⟨_, rfl⟩
  obtain ⟨r, hr⟩ : ∃ r, r = rsB ev es es.length := ⟨_, rfl⟩
  have hf : fullB ev es = o ++ r ++ fourB (r.length / 4) := by unfold fullB; rw [← ho, ← hr]
  rw [← hr] at hm
  rw [← ho, ← hr, hf]
  rw [hf] at hF
  have hl : (o ++ r ++ fourB (r.length / 4)).length = o.length + r.length + 4 := by simp only [List.length_append, fourB_len]
  have hd : (o ++ r ++ fourB (r.length / 4)).drop (o.length + r.length) = fourB (r.length / 4) := List.drop_left' (by simp)
  have hnk : numK (fourB (r.length / 4)) 4 = r.length / 4 := by
    have := numK_fourB (r.length / 4) [] (by omega)
    rw [List.append_nil] at this
    exact this
  unfold splitB
  rw [hl, if_neg (by omega), Nat.add_sub_cancel, hd, hnk]
  simp only
  rw [if_neg (by omega), show o.length + r.length - 4 * (r.length / 4) = o.length by omega]
  congr 2
  · rw [List.append_assoc]
    exact List.take_left' rfl
  · rw [show (o ++ r ++ fourB (r.length / 4)).take (o.length + r.length) = o ++ r from List.take_left' (by simp)]
    exact List.drop_left' rfl
theorem out_congr {ev ev2 : Nat} {es : List En} : ∀ {n : Nat}, (∀ i, i < n → (i % ev = 0 ↔ i % ev2 = 0)) → outB ev es n = outB ev2 es n ∧ rsB ev es n = rsB ev2 es n
  | 0, _ => ⟨rfl, rfl⟩
  | n + 1, h => by
    obtain ⟨h1, h2⟩ := out_congr (ev := ev) (ev2 := ev2) (es := es) (n := n) (fun i hi => h i (by omega))
    have hs : shB ev es n = shB ev2 es n := by
      unfold shB
      by_cases e : n % ev = 0
      · rw [if_pos e, if_pos ((h n (by omega)).1 e)]
      · rw [if_neg e, if_neg (fun e2 => e ((h n (by omega)).2 e2))]
    refine ⟨?_, ?_⟩
    · rw [outB, outB, h1, hs]
    · rw [rsB, rsB, h1, h2]
      by_cases e : n % ev = 0
      · rw [if_pos e, if_pos ((h n (by omega)).1 e)]
      · rw [if_neg e, if_neg (fun e2 => e ((h n (by omega)).2 e2))]
theorem build_congr {ev ev2 : Nat} {es : List En} (h : ∀ i, i < es.length → (i % ev = 0 ↔ i % ev2 = 0)) : buildE ev es = buildE ev2 es := by
  have hf : fullB ev es = fullB ev2 es := by
    obtain ⟨h1, h2⟩ := out_congr (ev := ev) (ev2 := ev2) (es := es) h
    unfold fullB
    rw [h1, h2]
  unfold buildE
  rw [hf]
/-- What was built is read. -/
theorem dec_build {ev : Nat} {es : List En} (he : 1 ≤ ev) (hw : ∀ x ∈ es, U64 x.seq ∧ x.kind < 256) (hb : (buildE ev es).2 = 0) : decB (buildE ev es).1 = (es, 0) := by
  obtain ⟨h1, h2, h3, h4, h5⟩ := buildE_ord hb
  have hz := longE_no h3
  rw [h4]
  unfold decB
  rw [openG_one _ h5]
  simp only
  rw [if_neg (by simp)]
  have hsp := split_full h5
  have hmn : ∀ i, i < es.length → (outB ev es i).length < (outB ev es (i + 1)).length := fun i hi => by
    obtain ⟨x, hx⟩ : ∃ x, es[i]? = some x := ⟨_, List.getElem?_eq_getElem hi⟩
    rw [outB_step hx, List.length_append]
    have := entB_pos (shB ev es i) x
    omega
  by_cases hev : ev < es.length
  · -- two restarts at least
    obtain ⟨R, hR⟩ := rsB_pre ev es (ev + 1) es.length hev
    rw [rsB, if_pos (Nat.mod_self ev), rsB_one he (Nat.le_refl _)] at hR
    have hrl : 8 ≤ (rsB ev es es.length).length := by
      rw [hR]
      simp only [List.length_append, fourB_len]
      omega
    have hol : (outB ev es ev).length ≤ 1048576 := by
      have := outB_mono ev es ev es.length (by omega)
      unfold fullB at h5
      simp only [List.length_append] at h5
      omega
    have hnk : numK ((rsB ev es es.length).drop 4) 4 = (outB ev es ev).length := by
      rw [hR, List.append_assoc, List.drop_left' (fourB_len 0)]
      exact numK_fourB _ _ (by omega)
    have hpb : parB (fullB ev es) = some (es, ev) := by
      unfold parB
      rw [hsp]
      simp only
      rw [if_pos hrl, hnk]
      have hmono : ∀ i, i < es.length → (((outB ev es i).length : Int) = ((outB ev es ev).length : Int) ↔ i = ev) := fun i hi => by
        constructor
        · intro h
          have h : (outB ev es i).length = (outB ev es ev).length := by omega
          rcases Nat.lt_trichotomy i ev with e | e | e
          · have a1 := hmn i hi
            have a2 := outB_mono ev es (i + 1) ev (by omega)
            omega
          · exact e
          · have a1 := hmn ev hev
            have a2 := outB_mono ev es (ev + 1) i (by omega)
            omega
        · intro h; rw [h]
      have hp := par_from (sec := ((outB ev es ev).length : Int)) hz hw (fun i c => if i ≤ ev then ev else c) (fun c => by show (if es.length ≤ ev then ev else c) = c; rw [if_neg (by omega)]) (fun i c hi => by
        show (if i ≤ ev then ev else c) = (if i + 1 ≤ ev then ev else (if ((outB ev es i).length : Int) = ((outB ev es ev).length : Int) then i else c))
        by_cases e : i = ev
        · rw [if_pos (by omega), if_neg (by omega), if_pos ((hmono i hi).2 e), e]
        · rw [if_neg (fun h => e ((hmono i hi).1 h))]
          by_cases e2 : i ≤ ev
          · rw [if_pos e2, if_pos (by omega)]
          · rw [if_neg e2, if_neg (by omega)]) es.length 0 ((outB ev es es.length).length + 1) 0 (by omega) (by
          have key : ∀ i, i ≤ es.length → i ≤ (outB ev es i).length := by
            intro i
            induction i with
            | zero => intro _; exact Nat.zero_le _
            | succ i ih => intro h; have := ih (by omega); have := hmn i (by omega); omega
          have := key es.length (Nat.le_refl _)
          omega)
      simp only [outB, List.length_nil, List.take_zero, Nat.zero_le, if_true] at hp
      rw [hp]
      simp only
      rw [if_neg (by omega)]
    rw [hpb, show decP (sealB (fullB ev es)) (some (es, ev)) = if (buildZ ev es).2 = 0 ∧ (buildZ ev es).1 = sealB (fullB ev es) then (es, 0) else ([], 3) from rfl]
    rw [show buildZ ev es = buildE ev es from if_neg (by omega), if_pos ⟨hb, h4⟩]
  · -- one restart alone
    have hrl : ¬ 8 ≤ (rsB ev es es.length).length := by
      rcases Nat.eq_zero_or_pos es.length with e | e
      · rw [e]; simp [rsB]
      · rw [rsB_one e (by omega)]
        rw [fourB_len]
        omega
    have hpb : parB (fullB ev es) = some (es, max es.length 1) := by
      unfold parB
      rw [hsp]
      simp only
      rw [if_neg hrl]
      have hp := par_from (sec := -1) hz hw (ev := ev) (fun _ c => c) (fun c => rfl) (fun i c hi => by
        show c = (if ((outB ev es i).length : Int) = -1 then i else c)
        rw [if_neg (by omega)]) es.length 0 ((outB ev es es.length).length + 1) 0 (by omega) (by
          have key : ∀ i, i ≤ es.length → i ≤ (outB ev es i).length := by
            intro i
            induction i with
            | zero => intro _; exact Nat.zero_le _
            | succ i ih => intro h; have := ih (by omega); have := hmn i (by omega); omega
          have := key es.length (Nat.le_refl _)
          omega)
      simp only [outB, List.length_nil, List.take_zero] at hp
      rw [hp]
      simp only
      rw [if_pos (by omega)]
    have hbe : buildE (max es.length 1) es = buildE ev es := build_congr (fun i hi => by
      have e1 : i % max es.length 1 = i := Nat.mod_eq_of_lt (by omega)
      have e2 : i % ev = i := Nat.mod_eq_of_lt (by omega)
      rw [e1, e2])
    rw [hpb, show decP (sealB (fullB ev es)) (some (es, max es.length 1)) = if (buildZ (max es.length 1) es).2 = 0 ∧ (buildZ (max es.length 1) es).1 = sealB (fullB ev es) then (es, 0) else ([], 3) from rfl]
    rw [show buildZ (max es.length 1) es = buildE (max es.length 1) es from if_neg (by omega), hbe, if_pos ⟨hb, h4⟩]
theorem ord_of_sort {es : List En} (h : SortL es) : ordE es = true := by
  have key : ∀ k, k < es.length ∨ k = 0 → ordK es k = true := by
    intro k
    induction k with
    | zero => intro _; rfl
    | succ k ih =>
      intro hk
      have hk : k + 1 < es.length := by omega
      obtain ⟨a, ha⟩ : ∃ a, es[k]? = some a := ⟨_, List.getElem?_eq_getElem (by omega)⟩
      obtain ⟨b, hb⟩ : ∃ b, es[k + 1]? = some b := ⟨_, List.getElem?_eq_getElem hk⟩
      have hs := List.pairwise_iff_getElem.1 h k (k + 1) (by omega) hk (by omega)
      rw [(List.getElem?_eq_some_iff.1 ha).2, (List.getElem?_eq_some_iff.1 hb).2] at hs
      rw [ordK_step ha hb, ih (.inl (by omega)), hs]
      rfl
  exact key _ (by omega)
/-- Of entries in order, each in form, Build answers the block, or that it is too long. -/
theorem build_sorted {ev : Nat} {es : List En} (hs : SortL es) (hok : ∀ x ∈ es, okE x = true) : (buildE ev es).2 = 0 ∨ buildE ev es = ([], 2) := by
  have h1 : es.any longE = false := by
    rw [List.any_eq_false]
    intro x hx
    rw [(okE_iff.1 (hok x hx)).1]
    simp
  have h2 : es.all formE = true := by
    rw [List.all_eq_true]
    intro x hx
    exact (okE_iff.1 (hok x hx)).2
  have h3 := ord_of_sort hs
  unfold buildE
  rw [h1, h2, h3]
  simp only [Bool.false_eq_true, if_false, Bool.and_self, if_true]
  split
  · exact .inr rfl
  · exact .inl rfl
end Go.Proofs.Ytcclhkoggijkaaa
