/- Table: inOrder; a list is cut into groups. No condition but sizes. -/
import Derived.Test.YtcclhkoggijkaaaBkO
import Derived.Test.YtcclhkoggijkaaaCrcS
import Derived.Test.YtcclhkoggijkaaaEnB
import Derived.Test.YtcclhkoggijkaaaSrt
import Derived.Test.YtcclhkoggijkaaaGetU
import Derived.Sort.OwnSorted
import Derived.Test.YtcclhkoggijkaaaStepA
import Derived.Test.YtcclhkoggijkaaaCrcQ
namespace Go.Proofs.Ytcclhkoggijkaaa
open Go Go.RowKit Go.Maps

section
variable {w : World} {p : Nat} {m : Option Nat} {rs : List FR} {room used left : Int} {dead armed : Bool}
/-- A call that asks for a file, where turn says no: a dead disk, no such file, the disk dies. -/
def RetNo (w : World) (k : Int) (e : Ending) (w' : World) : Prop := e = .returned (.int .i64 k) ∧ w = w'
theorem remove_dead (x : List UInt8) (h : DskR w p m rs room used left true armed) :
    Calls Try.prog 150 #[.pointer (some ⟨p, 0, none⟩), .string (tx x)] w (RetNo w 9) := by
  go_enter Try.func150, Try.ntmps150
  go_wp2_with fail
  refine (find_dead x h).mono ?_
  rintro e w' ⟨rfl, rfl⟩
  go_wp2_with fail
  refine (turn_err (p := p) (w := w) (e := 9) (by decide)).mono ?_
  rintro e w' ⟨rfl, rfl⟩
  go_wp2
  go_ret
  exact ⟨rfl, rfl⟩
theorem remove_none (x : List UInt8) (h : DskR w p m rs room used left false armed) (hx : ∀ r ∈ rs, r.name ≠ x) (hl : x.length ≤ maxLen) :
    Calls Try.prog 150 #[.pointer (some ⟨p, 0, none⟩), .string (tx x)] w (RetNo w 6) := by
  go_enter Try.func150, Try.ntmps150
  go_wp2_with fail
  refine (find_none x h hx hl).mono ?_
  rintro e w' ⟨rfl, rfl⟩
  go_wp2_with fail
  refine (turn_err (p := p) (w := w) (e := 6) (by decide)).mono ?_
  rintro e w' ⟨rfl, rfl⟩
  go_wp2
  go_ret
  exact ⟨rfl, rfl⟩
theorem remove_kill {r : FR} (h : DskR w p m rs room used 0 false true) (hr : r ∈ rs) (hl : r.name.length ≤ maxLen) :
    Calls Try.prog 150 #[.pointer (some ⟨p, 0, none⟩), .string (tx r.name)] w (RetHd w p (headV m room used 0 true false) (.int .i64 9)) := by
  go_enter Try.func150, Try.ntmps150
  go_wp2_with fail
  refine (find_some h hr hl).mono ?_
  rintro e w' ⟨rfl, rfl⟩
  go_wp2_with fail
  refine (turn_kill h).mono ?_
  rintro e w1 ⟨rfl, hH⟩
  go_wp2
  go_ret
  exact ⟨rfl, hH⟩
set_option maxRecDepth 100000 in
set_option maxHeartbeats 1000000 in
theorem remove_some {r : FR} (u : Nat) (h : DskR w p m rs room (u : Int) left false armed) (hu : rsUp rs) (hr : r ∈ rs) (hl : r.name.length ≤ maxLen) (hl2 : 0 ≤ left ∧ left ≤ 9223372036854775807) (ht : tE armed left = 0) (hru : r.dat.length ≤ u) (hu2 : u ≤ 9223372036854775807) :
    Calls Try.prog 150 #[.pointer (some ⟨p, 0, none⟩), .string (tx r.name)] w (RetDel w p m rs r.name room ((u - r.dat.length : Nat) : Int) (tL armed left) false armed (.int .i64 0)) := by
  obtain ⟨t1, t2⟩ := tE_done (dead := false) ht
  have hT := turn_zero h hl2
  rw [ht, t1, t2] at hT
  have HT := Lib.hid hT
  clear hT t1 t2 ht
  go_enter Try.func150, Try.ntmps150
  go_wp2_with fail
  refine (find_some h hr hl).mono ?_
  rintro e w' ⟨rfl, rfl⟩
  go_wp2_with fail
  refine HT.out.mono ?_
  clear HT
  rintro e w1 ⟨rfl, hH⟩
  have hD1 := h.turn hH.1 hH.2
  go_wp2_with fail
  refine (drop_some u hD1 hu hr hl hru hu2).mono ?_
  rintro e w2 ⟨rfl, hD2, hF2⟩
  have hfin : RetDel w p m rs r.name room ((u - r.dat.length : Nat) : Int) (tL armed left) false armed (.int .i64 0) (.returned (.int .i64 0)) w2 := by
    refine ⟨rfl, hD2, ?_⟩
    have f1 : Fr w w1 (allB p m rs) := hH.1.mono (fun b hb => .inl (by rw [List.mem_singleton] at hb; rw [hb]; exact mem_head))
    exact f1.trans hF2 (fun b hb => .inl hb)
  have HFIN := Lib.hid hfin
  clear hfin hD1 hD2 hF2 hH
  go_wp2
  go_ret
  exact HFIN.out

end
end Go.Proofs.Ytcclhkoggijkaaa
namespace Go.Proofs.Ytcclhkoggijkaaa
open Go Go.RowKit

/-- The entries of the places that p picks, of the first k. -/
def pkE (p : Nat → Bool) (es : List En) : Nat → List En
  | 0 => []
  | k + 1 => pkE p es k ++ (if p k then (es[k]?).toList else [])
theorem pkE_snoc {p : Nat → Bool} {es : List En} {k : Nat} {x : En} (h : es[k]? = some x) : pkE p es (k + 1) = pkE p es k ++ (if p k then [x] else []) := by rw [pkE, h]; rfl
theorem pkE_len (p : Nat → Bool) (es : List En) : ∀ k, (pkE p es k).length ≤ k
  | 0 => Nat.le_refl _
  | k + 1 => by
    have := pkE_len p es k
    rw [pkE, List.length_append]
    split
    · cases es[k]? <;> simp <;> omega
    · simp; omega
theorem pkE_mem {p : Nat → Bool} {es : List En} {x : En} : ∀ {k}, x ∈ pkE p es k → x ∈ es
  | k + 1, h => by
    rw [pkE] at h
    rcases List.mem_append.1 h with h | h
    · exact pkE_mem h
    · split at h
      · cases hk : es[k]? with
        | none => rw [hk] at h; cases h
        | some y =>
          rw [hk] at h
          have : x = y := by simpa using h
          rw [this]
          exact List.mem_of_getElem? hk
      · cases h
def visP (es : List En) (ms : List Nat) (i : Nat) : Bool := (match es[i]? with
  | some x => decide (x.kind = 1)
  | none => false) && seenE es i ms
theorem visP_at {es : List En} {ms : List Nat} {i : Nat} {x : En} (h : es[i]? = some x) : visP es ms i = (decide (x.kind = 1) && seenE es i ms) := by unfold visP; rw [h]
/-- Copies of entries, or an error. -/
def RetMg (w : World) (z : Int) (es : List En) (e : Ending) (w' : World) : Prop :=
  (z ≠ 0 ∧ e = .returned (.tuple #[.slice none 0 0, .int .i64 z]) ∧ Below w.heap.size w w') ∨
  (z = 0 ∧ ∃ L n c, e = .returned (.tuple #[.slice L n c, .int .i64 0]) ∧ RowE w w.heap.size L n c es w')
theorem RowE.lower {w wr w' : World} {L : Option Addr} {i d : Nat} {es : List En} (h : RowE wr wr.heap.size L i d es w') (hb : Below w.heap.size w wr) : RowE w w.heap.size L i d es w' := by
  obtain ⟨vs, r1, r2, r3, r4, r5, r6, r7⟩ := h
  have hs := hb.size
  have h1 := belowT' hb r5
  exact ⟨vs, OwnE.mono r1 hs, EOs.mono hs r2, r3, r4, h1, h1.size, r7.mono hs⟩
theorem RLs_one {w : World} {A : Option Addr} {n c : Nat} {es : List En} {t : TypeId} (h : REs w A n es) (hc : n ≤ c) : RLs (w.alloc (.cells #[.slice A n c] t)) (some ⟨w.heap.size, 0, none⟩) 1 [es] := by
  refine ⟨rfl, fun _ => ⟨w.heap.size, 0, rfl, by simp, fun i fs hi => ?_⟩⟩
  have hi0 : i = 0 := by have := (List.getElem?_eq_some_iff.1 hi).1; simp at this; exact this
  subst hi0
  injection hi with hi
  subst hi
  exact ⟨A, n, c, (Cl.new w #[.slice A n c] t).cell 0, h.below ((Below.refl _ _).alloc (Nat.le_refl _) _), hc⟩
theorem RdU_one (w : World) (m : Nat) (h : U64 m) (t : TypeId) : RdU (w.alloc (.cells #[.int .u64 (m : Int)] t)) (some ⟨w.heap.size, 0, none⟩) 1 [m] := by
  refine ⟨⟨rfl, fun _ => ⟨w.heap.size, 0, rfl, by simp, fun i v hi => ?_⟩⟩, fun k hk => by rw [List.mem_singleton] at hk; rw [hk]; exact h⟩
  have hi0 : i = 0 := by have := (List.getElem?_eq_some_iff.1 hi).1; simp at this; exact this
  subst hi0
  injection hi with hi
  subst hi
  exact (Cl.new w #[.int .u64 (m : Int)] t).cell 0
end Go.Proofs.Ytcclhkoggijkaaa
namespace Go.Proofs.Ytcclhkoggijkaaa
open Go Go.RowKit

theorem refFour8_any (n : Nat) (w : World) (hn : n < B64) : Calls Try.prog 119 #[.int .i64 n] w (MadeR w.heap.size w (fourB n)) := by
  have hw8 : IntKind.u64.wrap (n : Int) = (n : Int) := u64_nat n hn
  go_enter Try.func119, Try.ntmps119
  go_wp2_with fail
  refine (refOrdU_any n _ hn).mono ?_
  rintro e w' ⟨A, m, c, rfl, ho, hb⟩
  have hm : m = 8 := by rw [← ho.len]; rfl
  subst hm
  have hc8 := ho.cap.1
  have hr := ho.rd.cut (k := 4) (m := 8) (cap := c) (by omega) (by omega) (by omega)
  obtain ⟨g, rfl, hg, _⟩ := ho.form (by omega)
  rw [show cutA (some ⟨g, 0, none⟩) 4 c = some ⟨g, 4, none⟩ by unfold cutA; rw [if_neg (by omega)]; simp [Addr.add]] at hr
  have R := Lib.hid hr
  clear hr
  go_wp2
  go_ret
  refine ⟨_, _, _, rfl, R.out, ?_, hb⟩
  intro b off h
  injection h with h
  injection h with h
  omega
theorem CS.app8 {w0 wr wx : World} {O O' R : Option Addr} {n m oc rc oc' : Nat} {out ys rs : List UInt8} (h : CS w0 O oc out R rc rs wr) (hn : n = out.length) (ho : Own 5 wx w0.heap.size O' (n + m) oc' (out ++ ys)) (hm : ys.length = m) (hg : Grow wr wx O O') : CS w0 O' oc' (out ++ ys) R rc rs wx ∧ n + m = (out ++ ys).length := by
  have e : n + m = (out ++ ys).length := by rw [List.length_append, hn, hm]
  refine ⟨h.left (by rw [← e]; exact ho) hg, e⟩
/-- The kind that stands before entry k+1 is looked at. -/
def refE (es : List En) (k : Nat) : Int := if es.all formE && ordK es k then 0 else 3
theorem refE_check {es : List En} (h : es.any longE = false) : checkE es = refE es (0 - 1) := by
  rw [checkE, h, refE, ordK]
  simp
theorem refE_one {es : List En} : refE es 0 = refE es (0 - 1) := rfl
theorem refE_next {es : List En} {i : Nat} {a b : En} (h1 : es[i]? = some a) (h2 : es[i + 1]? = some b) : refE es (i + 1) = if lessE a b then refE es i else 3 := by
  rw [refE, ordK_step h1 h2, refE]
  cases lessE a b <;> simp
theorem outB_len {ev : Nat} {es : List En} (hs : ∀ x ∈ es, x.key.length ≤ 1024 ∧ x.val.length ≤ 65536) (hw : ∀ x ∈ es, U64 x.seq) : ∀ i, i ≤ es.length → (outB ev es i).length ≤ 66700 * i
  | 0, _ => by simp [outB]
  | i + 1, hi => by
    have ih := outB_len (ev := ev) hs hw i (by omega)
    have hx : es[i]? = some es[i] := List.getElem?_eq_getElem (by omega)
    rw [outB_step hx, List.length_append]
    have hm : es[i] ∈ es := List.getElem_mem (by omega)
    have := entB_len (s := shB ev es i) (x := es[i]) (shB_le (ev := ev) hx) (hs _ hm).1 (hs _ hm).2 (hw _ hm)
    omega
set_option maxRecDepth 100000 in
set_option maxHeartbeats 16000000 in
theorem refBuild8_any {w : World} {A : Option Addr} {n c : Nat} {es : List En} (h : REs w A n es) (hn : n ≤ 4194304) (hz : ∀ x ∈ es, SzE x) (ev : Nat) (he : 1 ≤ ev) (he2 : ev ≤ 9223372036854775807) :
    Calls Try.prog 61 #[.int .i64 (ev : Int), .slice A n c] w (RetBb w (buildE ev es)) := by
  have HM : Hid (Calls Try.prog 59 #[.slice A n c] w (RetNu w (checkE es))) := Lib.hid (refCheck_any h (by omega) hz)
  have HR := Lib.hid h
  have HL := Lib.hid h.len
  have HW := Lib.hid h.wf
  have HZ := Lib.hid hz
  clear h hz
  cases hlo : es.any longE with
  | true =>
    have hc : checkE es = 2 := by rw [checkE, hlo]; rfl
    have hb : buildE ev es = ([], 2) := by rw [buildE, hlo]; rfl
    rw [hc] at HM
    have HB := Lib.hid hb
    clear hlo hc hb
    go_enter Try.func61, Try.ntmps61
    go_wp2_with fail
    with_reducible refine HM.out.mono ?_
    rintro e w1 ⟨rfl, b1⟩
    go_wp2_with fail
    exact bodyPost_ret (v := .tuple #[.slice none 0 0, .int .i64 2]) (by simp [results, Try.f61, go_sem]; try rfl) rfl (RetBb.no HB.out b1)
  | false =>
    have HS := Lib.hid (longE_no hlo)
    obtain ⟨z0, hz0⟩ : ∃ z0, z0 = refE es (0 - 1) := ⟨_, rfl⟩
    have hz3 : z0 = 0 ∨ z0 = 3 := by rw [hz0, refE]; split <;> simp
    have hck : checkE es = z0 := by rw [refE_check hlo, hz0]
    rw [hck] at HM
    have HZ0 := Lib.hid hz0
    have HLO := Lib.hid hlo
    have ht2 : ((z0 : Int) == 2) = false := by rcases hz3 with h | h <;> (subst h; rfl)
    have ht3 : ¬ (z0 : Int) = 2 := by omega
    clear hlo hck hz0 hz3
    go_enter Try.func61, Try.ntmps61
    go_wp2_with fail
    with_reducible refine HM.out.mono ?_
    rintro e w1 ⟨rfl, b1⟩
    have HB1 := Lib.hid b1
    clear b1 HM
    go_wp2_with fail
    go_loopw [6, 7, 8, 9, 10] (fun s6 s7 s8 s9 s10 wr => ∃ (i on rn sn : Nat) (O R : Option Addr) (oc rc : Nat) (z : Int), i ≤ n ∧ s10 = .int .i64 (i : Int) ∧ on = (outB ev es i).length ∧ rn = (rsB ev es i).length ∧ 4 * sn = rn ∧ s6 = .int .i64 z ∧ z = refE es (i - 1) ∧ s7 = .slice O on oc ∧ s8 = .slice R rn rc ∧ s9 = .int .i64 (sn : Int) ∧ CS w O oc (outB ev es i) R rc (rsB ev es i) wr) (fun _ _ _ _ s _ => n - (intOf s).toNat)
    case atStart => exact ⟨0, 0, 0, 0, none, none, 0, 0, z0, Nat.zero_le _, rfl, rfl, rfl, rfl, rfl, HZ0.out, rfl, rfl, rfl, Own.nil _ _ _, Own.nil _ _ _, dj_none _, HB1.out⟩
    case round =>
      obtain ⟨i, on, rn, sn, O, R, oc, rc, z, hi, rfl, hon, hrn, hsn, rfl, hze, rfl, rfl, rfl, hC⟩ := hrel
      have hrl := rsB_len ev es i
      have hol := outB_len (ev := ev) HS.out (fun x hx => (HW.out x hx).1) i (by rw [HL.out]; exact hi)
      have hrn4 : rn ≤ 4 * i := by omega
      have hon4 : on ≤ 66700 * i := by omega
      have hsn4 : sn ≤ 16777216 := by omega
      have HON := Lib.hid hon
      have HRN := Lib.hid hrn
      have HSN := Lib.hid hsn
      have HZE := Lib.hid hze
      have HC := Lib.hid hC
      have hbC := hC.2.2.2
      clear hon hrn hC hrl hsn hze hol
      by_cases hlt : i < n
      · -- A0
        obtain ⟨b, off, hAb, hbl⟩ := HR.out.pos (by omega)
        subst hAb
        obtain ⟨x, v0, v1, v2, v3, hx, c0', c1', c2', c3', hev⟩ := HR.out.at_ i hlt
        have c0 := (hbC.cell (p := ⟨b, off + i * 4, none⟩) hbl).trans c0'
        have HXI := Lib.hid hx
        have HXS := Lib.hid (HS.out x (List.mem_of_getElem? hx))
        have HXW := Lib.hid (HW.out x (List.mem_of_getElem? hx))
        have HEV := Lib.hid hev
        obtain ⟨K, kn, kc, V, vn, vc, rfl, rfl, rfl, rfl, r0, r3, q0, q3, _⟩ := hev.parts
        have HR0 := Lib.hid r0
        have HR3 := Lib.hid r3
        obtain ⟨m, hm⟩ : ∃ m, m = i % ev := ⟨_, rfl⟩
        have e1 : ((i : Int) % (ev : Int)) = (m : Int) := by rw [hm]; push_cast; rfl
        have hml : m < 9223372036854775807 := by have := Nat.mod_lt i (show 0 < ev by omega); omega
        have HM := Lib.hid hm
        obtain ⟨sh, hsh⟩ : ∃ sh, sh = shB ev es i := ⟨_, rfl⟩
        have HSH := Lib.hid hsh
        have C1 := Lib.hid c1'
        have C2 := Lib.hid c2'
        have C3 := Lib.hid c3'
        have C0 := Lib.hid c0'
        clear hx hev r0 r3 hm hsh c0' c1' c2' c3'
        go_upto_if 32 with (fail)
        obtain ⟨rs2, hrs2⟩ : ∃ rs2, rs2 = rsB ev es (i + 1) := ⟨_, rfl⟩
        obtain ⟨rn2, hrn2⟩ : ∃ rn2, rn2 = rs2.length := ⟨_, rfl⟩
        have HRS2 := Lib.hid hrs2
        have HRN2 := Lib.hid hrn2
        clear hrs2 hrn2
        go_cut [8, 9, 11, 12, 13] from 29 to 73 (fun s8 s9 s11 s12 s13 wx => ∃ (R' : Option Addr) (rc' sn' : Nat), s8 = .slice R' rn2 rc' ∧ s9 = .int .i64 (sn' : Int) ∧ 4 * sn' = rn2 ∧ s11 = .int .i64 (sh : Int) ∧ CS w O oc (outB ev es i) R' rc' rs2 wx)
        case first =>
          by_cases hm0 : m = 0
          · subst hm0
            have hrs : rs2 = rsB ev es i ++ fourB on := by rw [HRS2.out, rsB, if_pos HM.out.symm, ← HON.out]
            have hsh0 : sh = 0 := by rw [HSH.out, shB, if_pos HM.out.symm]
            subst hsh0
            have hln : rn + 4 = rn2 := by rw [HRN2.out, hrs, List.length_append, ← HRN.out]; rfl
            have HRS := Lib.hid hrs
            have HLN := Lib.hid hln
            clear hrs hln
            go_wp2_with fail
            with_reducible refine (refFour8_any on wr (by unfold B64; omega)).mono ?_
            rintro e w2 ⟨F, fn, fc, rfl, hF, hFb, b2⟩
            have hfn : fn = 4 := by rw [← hF.len]; rfl
            subst hfn
            have HC2 := Lib.hid (HC.out.below b2)
            have hR2 := HC2.out.2.1
            rw [← HRN.out] at hR2
            have hsz2 := HC2.out.2.2.2.size
            clear hFb b2
            go_wp2_with (at_builtin; refine wpList_appX _ rfl _ _ 25 rfl w.heap.size 5 Try.underlying25 info_u8 R rn rc _ rfl hR2 F 4 fc (fourB on) rfl hF ?_ ?_ ?_)
            · omega
            · exact hsz2
            intro R' rc' w3 oR gR
            rw [HLN.out, ← HRS.out] at oR
            rw [HLN.out]
            have HF := Lib.hid (show CS w O oc (outB ev es i) R' rc' rs2 w3 from HC2.out.right (by rw [← HRN2.out]; exact oR) gR)
            clear oR gR hR2 hF
            go_wp2_with fail
            go_meet
            case rel => exact ⟨R', rc', sn + 1, by first | rfl | simp, by go_num, by have := HSN.out; have := HLN.out; omega, by first | rfl | simp, HF.out⟩
          · have t1 : ((m : Int) == 0) = false := by simp; omega
            have hrs : rs2 = rsB ev es i := by rw [HRS2.out, rsB, if_neg (by rw [← HM.out]; exact hm0)]
            obtain ⟨j, hj⟩ : ∃ j, j = i - 1 := ⟨_, rfl⟩
            have hi0 : 0 < i := by
              rcases Nat.eq_zero_or_pos i with h0 | h0
              · exact absurd (by rw [HM.out, h0, Nat.zero_mod]) hm0
              · exact h0
            obtain ⟨y, u0, u1, u2, u3, hy, d0', d1', d2', d3', hew⟩ := HR.out.at_ j (by omega)
            obtain ⟨L, ln, lc, _, _, _, hu0, _, _, _, r0', _⟩ := hew.parts
            subst hu0
            have hsh2 : sh = comB y.key x.key := by
              rw [HSH.out, shB, if_neg (by rw [← HM.out]; exact hm0), ← hj, hy, HXI.out]
            have hsy := HS.out y (List.mem_of_getElem? hy)
            have hkl := HR0.out.len
            have hll := r0'.len
            have hkn1 : kn ≤ 1099511627776 := by have := HXS.out.1; omega
            have hln1 : ln ≤ 1099511627776 := by omega
            have d0 : wr.cell? ⟨b, off + j * 4, none⟩ = some (.slice L ln lc) := (hbC.cell (p := ⟨b, off + j * 4, none⟩) hbl).trans d0'
            have e2 : IntKind.i64.wrap ((i : Int) - 1) = (j : Int) := by rw [IntWalk.i64_in _ (by omega)]; omega
            have hjn : j < n := by omega
            have HY := Lib.hid (r0'.below hbC)
            have HX := Lib.hid (HR0.out.below hbC)
            have HSH2 := Lib.hid hsh2
            have HRS := Lib.hid hrs
            have HJ := Lib.hid hj
            have hle := comB_le y.key x.key
            rw [← hsh2] at hle
            have hle2 : sh ≤ ln ∧ sh ≤ kn := by omega
            have hln : rn = rn2 := by rw [HRN2.out, hrs, ← HRN.out]
            have HLN := Lib.hid hln
            clear hrs hj hy d0' d1' d2' d3' hew r0' hsh2 hsy hle hln hkl hll
            have HSN2 : Hid (4 * sn = rn2) := Lib.hid (by have := HSN.out; have := HLN.out; omega)
            have HCD : Hid (∀ q1 q2, CS w O oc (outB ev es i) R rc rs2 ((wr.drewN q1).drewN q2)) := Lib.hid (fun q1 q2 => by
              rw [HRS.out]
              exact (HC.out.below (below_drewN (Below.refl _ _) q1)).below (below_drewN (Below.refl _ _) q2))
            obtain ⟨w0, rfl⟩ : ∃ w0, w0 = wr := ⟨_, rfl⟩
            go_wp2_with fail
            go_quiet (fail)
            obtain ⟨q0, hq0⟩ : ∃ q0 : Nat, q0 = nq := ⟨_, rfl⟩
            rw [← hq0]
            clear hq0
            go_wp2_with fail
            go_loopw [11] (fun vi wx => ∃ t q : Nat, vi = .int .i64 (t : Int) ∧ t ≤ sh ∧ wx = w0.drewN q) (fun vi _ => sh - (intOf vi).toNat)
            case atStart => exact ⟨0, q0, rfl, Nat.zero_le _, rfl⟩
            case round =>
              obtain ⟨t, q, rfl, ht, rfl⟩ := hrel
              obtain ⟨W, hW⟩ : ∃ W, W = w0.drewN q := ⟨_, rfl⟩
              by_cases htl : t < sh
              · obtain ⟨by_, h1, h2⟩ := comB_lt (xs := y.key) (ys := x.key) (i := t) (by rw [← HSH2.out]; exact htl)
                have hin : t < ln := by omega
                have him : t < kn := by omega
                obtain ⟨ba, oa, rfl, _⟩ := HY.out.pos (by omega)
                obtain ⟨bb, ob, rfl, _⟩ := HX.out.pos (by omega)
                obtain ⟨x1, hx1, hx2, _⟩ := HY.out.at_ t hin
                obtain ⟨y1, hy1, hy2, _⟩ := HX.out.at_ t him
                obtain rfl : x1 = y1 := by
                  rw [h1] at hx1; rw [h2] at hy1
                  rw [← Option.some.inj hx1, ← Option.some.inj hy1]
                have c1 : W.cell? ⟨ba, oa + t, none⟩ = some (.int .u8 (x1.toNat : Int)) := by rw [hW]; exact hx2
                have c2 : W.cell? ⟨bb, ob + t, none⟩ = some (.int .u8 (x1.toNat : Int)) := by rw [hW]; exact hy2
                rw [← hW]
                have HW2 := Lib.hid hW
                clear hW h1 h2 hx1 hx2 hy1 hy2
                go_wp2_with fail
                go_quiet (fail)
                rw [HW2.out]
                go_wp2_with fail
                go_roundw
                case rel => exact ⟨t + 1, _, by go_num, by omega, rfl⟩
                case measure => simp [intOf]; omega
              · obtain rfl : t = sh := by omega
                rcases comB_at (xs := y.key) (ys := x.key) (i := t) HSH2.out with h1 | h1 | ⟨a1, a2, h1, h2, h3⟩
                · have hin : ¬ t < ln := by have := HY.out.len; omega
                  rw [← hW]
                  have HW2 := Lib.hid hW
                  have d1 : decide (t < ln) = false := by simpa using hin
                  clear hW h1
                  go_wp2_with fail
                  go_quiet (fail)
                  rw [HW2.out]
                  go_wp2_with fail
                  go_meet
                  case rel => exact ⟨R, rc, sn, by rw [HLN.out], rfl, HSN2.out, rfl, HCD.out _ _⟩
                · have him : ¬ t < kn := by have := HX.out.len; omega
                  rw [← hW]
                  have HW2 := Lib.hid hW
                  clear hW h1 htl ht
                  by_cases hin : t < ln
                  · have d1 : decide (t < ln) = true := by simpa using hin
                    have d2 : decide (t < kn) = false := by simpa using him
                    have d3 : decide ((t : Int) < (kn : Int)) = false := by simp; omega
                    have d4 : decide (kn ≤ t) = true := by simp; omega
                    go_wp2_with fail
                    go_quiet (fail)
                    rw [HW2.out]
                    go_wp2_with fail
                    go_meet
                    case rel => exact ⟨R, rc, sn, by rw [HLN.out], rfl, HSN2.out, rfl, HCD.out _ _⟩
                  · have d1 : decide (t < ln) = false := by simpa using hin
                    have d4 : decide (ln ≤ t) = true := by simp; omega
                    go_wp2_with fail
                    go_quiet (fail)
                    rw [HW2.out]
                    go_wp2_with fail
                    go_meet
                    case rel => exact ⟨R, rc, sn, by rw [HLN.out], rfl, HSN2.out, rfl, HCD.out _ _⟩
                · have hin : t < ln := by have := (List.getElem?_eq_some_iff.1 h1).1; have := HY.out.len; omega
                  have him : t < kn := by have := (List.getElem?_eq_some_iff.1 h2).1; have := HX.out.len; omega
                  obtain ⟨ba, oa, rfl, _⟩ := HY.out.pos (by omega)
                  obtain ⟨bb, ob, rfl, _⟩ := HX.out.pos (by omega)
                  obtain ⟨x1, hx1, hx2, _⟩ := HY.out.at_ t hin
                  obtain ⟨y1, hy1, hy2, _⟩ := HX.out.at_ t him
                  have hne : x1.toNat ≠ y1.toNat := fun e => h3 (by
                    rw [h1] at hx1; rw [h2] at hy1
                    rw [Option.some.inj hx1, Option.some.inj hy1]
                    exact UInt8.toNat_inj.1 e)
                  have t1 : ((x1.toNat : Int) == (y1.toNat : Int)) = false := by simp; omega
                  have t2 : ¬ (x1.toNat : Int) = (y1.toNat : Int) := by omega
                  have c1 : W.cell? ⟨ba, oa + t, none⟩ = some (.int .u8 (x1.toNat : Int)) := by rw [hW]; exact hx2
                  have c2 : W.cell? ⟨bb, ob + t, none⟩ = some (.int .u8 (y1.toNat : Int)) := by rw [hW]; exact hy2
                  rw [← hW]
                  have HW2 := Lib.hid hW
                  clear hW h1 h2 h3 hx1 hx2 hy1 hy2
                  go_wp2_with fail
                  go_quiet (fail)
                  rw [HW2.out]
                  go_wp2_with fail
                  go_meet
                  case rel => exact ⟨R, rc, sn, by rw [HLN.out], rfl, HSN2.out, rfl, HCD.out _ _⟩
        case rest =>
          obtain ⟨R', rc', sn', rfl, rfl, hsn', rfl, hcs⟩ := hcut
          have HSN' := Lib.hid hsn'
          have HCS := Lib.hid hcs
          have hbX := hcs.2.2.2
          obtain ⟨z2, hz2⟩ : ∃ z2, z2 = refE es i := ⟨_, rfl⟩
          have HZ2 := Lib.hid hz2
          clear hcs hsn' hz2 c0
          obtain ⟨bz, hbz⟩ : ∃ bz : Bool, bz = true ∧ z2 = 3 ∧ 0 < i ∧ (∀ y, es[i - 1]? = some y → lessE y x = false) ∨ bz = false ∧ z2 = z ∧ (0 < i → ∀ y, es[i - 1]? = some y → lessE y x = true) := by
            by_cases hi0 : i = 0
            · exact ⟨false, .inr ⟨rfl, by rw [HZE.out, HZ2.out, hi0], fun h => by omega⟩⟩
            · obtain ⟨y, hy⟩ : ∃ y, es[i - 1]? = some y := ⟨_, List.getElem?_eq_getElem (by have := HL.out; omega)⟩
              obtain ⟨j, hj⟩ : ∃ j, i = j + 1 := ⟨i - 1, by omega⟩
              have hy2 : es[j]? = some y := by rw [← hy, hj]; rfl
              have h2 := refE_next hy2 (by rw [← hj]; exact HXI.out)
              rw [← hj] at h2
              have h3 : z = refE es j := by rw [HZE.out, hj]; rfl
              rw [← HZ2.out, ← h3] at h2
              cases hl : lessE y x with
              | true => exact ⟨false, .inr ⟨rfl, by rw [h2, hl]; rfl, fun _ y' hy' => by rw [hy] at hy'; injection hy' with hy'; rw [← hy']; exact hl⟩⟩
              | false => exact ⟨true, .inl ⟨rfl, by rw [h2, hl]; rfl, by omega, fun y' hy' => by rw [hy] at hy'; injection hy' with hy'; rw [← hy']; exact hl⟩⟩
          have HBZ := Lib.hid hbz
          clear hbz
          go_upto_if 88 with (fail)
          go_cut [88] from 74 to 87 (fun s88 wx => s88 = .bool bz ∧ CS w O oc (outB ev es i) R' rc' rs2 wx)
          case first =>
            by_cases hi0 : i = 0
            · have g1 : decide (0 < i) = false := by simp; omega
              have g2 : decide ((0 : Int) < (i : Int)) = false := by simp; omega
              have g3 : decide (i ≤ 0) = true := by simp; omega
              have g4 : ¬ 0 < i := by omega
              have hbf : bz = false := by
                rcases HBZ.out with ⟨_, _, h, _⟩ | ⟨h, _⟩
                · omega
                · exact h
              subst hbf
              have HCD : Hid (∀ q, CS w O oc (outB ev es i) R' rc' rs2 (wc.drewN q)) := Lib.hid (fun q => HCS.out.below (below_drewN (Below.refl _ _) q))
              clear hi0
              go_wp2_with fail
              go_quiet (fail)
              go_wp2_with fail
              go_meet
              case rel => exact ⟨rfl, HCD.out _⟩
            · obtain ⟨j, hj⟩ : ∃ j, j = i - 1 := ⟨_, rfl⟩
              obtain ⟨y, u0, u1, u2, u3, hy, d0', d1', d2', d3', hew⟩ := HR.out.at_ j (by omega)
              have g1 : decide (0 < i) = true := by simp; omega
              have g2 : decide ((0 : Int) < (i : Int)) = true := by simp; omega
              have g4 : 0 < i := by omega
              have e2 : IntKind.i64.wrap ((i : Int) - 1) = (j : Int) := by rw [IntWalk.i64_in _ (by omega)]; omega
              have hjn : j < n := by omega
              have HLS : Hid (∀ wx, Below wc.heap.size wc wx → Calls Try.prog 118 #[.agg #[u0, u1, u2, u3], .agg #[.slice K kn kc, .int .u64 (x.seq : Int), .int .u8 (x.kind : Int), .slice V vn vc]] wx (RetT wx (lessE y x))) := Lib.hid (fun wx hb => by
                have hw := hbX.trans (hb.mono hbX.size)
                exact refLess_any (hew.below hw) (HEV.out.below hw) (HZ.out y (List.mem_of_getElem? hy)) (HZ.out x (List.mem_of_getElem? HXI.out)))
              have HSX : Hid (∀ wx, Below wc.heap.size wc wx → wx.cell? ⟨b, off + j * 4, none⟩ = some u0 ∧ wx.cell? ⟨b, off + j * 4 + 1, none⟩ = some u1 ∧ wx.cell? ⟨b, off + j * 4 + 2, none⟩ = some u2 ∧ wx.cell? ⟨b, off + j * 4 + 3, none⟩ = some u3 ∧ wx.cell? ⟨b, off + i * 4, none⟩ = some (.slice K kn kc) ∧ wx.cell? ⟨b, off + i * 4 + 1, none⟩ = some (.int .u64 (x.seq : Int)) ∧ wx.cell? ⟨b, off + i * 4 + 2, none⟩ = some (.int .u8 (x.kind : Int)) ∧ wx.cell? ⟨b, off + i * 4 + 3, none⟩ = some (.slice V vn vc)) := Lib.hid (fun wx hb => by
                have h := hbX.trans (hb.mono hbX.size)
                exact ⟨(h.cell (p := ⟨b, off + j * 4, none⟩) hbl).trans d0', (h.cell (p := ⟨b, off + j * 4 + 1, none⟩) hbl).trans d1', (h.cell (p := ⟨b, off + j * 4 + 2, none⟩) hbl).trans d2', (h.cell (p := ⟨b, off + j * 4 + 3, none⟩) hbl).trans d3', (h.cell (p := ⟨b, off + i * 4, none⟩) hbl).trans C0.out, (h.cell (p := ⟨b, off + i * 4 + 1, none⟩) hbl).trans C1.out, (h.cell (p := ⟨b, off + i * 4 + 2, none⟩) hbl).trans C2.out, (h.cell (p := ⟨b, off + i * 4 + 3, none⟩) hbl).trans C3.out⟩)
              have hB0 : Below wc.heap.size wc wc.drew := (Below.refl _ _).drew
              obtain ⟨lz, hlz⟩ : ∃ lz, lz = lessE y x := ⟨_, rfl⟩
              have hbb : bz = !lz := by
                rw [hlz]
                rw [hj] at hy
                rcases HBZ.out with ⟨h, _, _, h4⟩ | ⟨h, _, h4⟩
                · rw [h, h4 y hy]; rfl
                · rw [h, h4 g4 y hy]; rfl
              subst hbb
              rw [← hlz] at HLS
              clear hj hi0 hy d0' d1' d2' d3' hew hlz
              cases lz with
              | true =>
                go_wp2_with fail
                go_region_held3 (fun wx => wx.cell? ⟨b, off + j * 4, none⟩ = some u0 ∧ wx.cell? ⟨b, off + j * 4 + 1, none⟩ = some u1 ∧ wx.cell? ⟨b, off + j * 4 + 2, none⟩ = some u2 ∧ wx.cell? ⟨b, off + j * 4 + 3, none⟩ = some u3 ∧ wx.cell? ⟨b, off + i * 4, none⟩ = some (.slice K kn kc) ∧ wx.cell? ⟨b, off + i * 4 + 1, none⟩ = some (.int .u64 (x.seq : Int)) ∧ wx.cell? ⟨b, off + i * 4 + 2, none⟩ = some (.int .u8 (x.kind : Int)) ∧ wx.cell? ⟨b, off + i * 4 + 3, none⟩ = some (.slice V vn vc)) (first | assumption | exact HSX.out _ hB0)
                  (first | (go_at_call 118; with_reducible refine (HLS.out _ (by assumption)).mono ?_; intro e1 wn hq; obtain ⟨h1, bn⟩ := RetT.outD hq; subst h1; have bn' := belowT' (by assumption : Below wc.heap.size wc _) bn; have hS1 := HSX.out _ bn'))
                all_goals
                  have HBN : Hid (CS w O oc (outB ev es i) R' rc' rs2 _) := Lib.hid (HCS.out.below (by assumption : Below wc.heap.size wc wn))
                  go_wp2_with fail
                  go_meet
                  case rel => exact ⟨rfl, HBN.out⟩
              | false =>
                go_wp2_with fail
                go_region_held3 (fun wx => wx.cell? ⟨b, off + j * 4, none⟩ = some u0 ∧ wx.cell? ⟨b, off + j * 4 + 1, none⟩ = some u1 ∧ wx.cell? ⟨b, off + j * 4 + 2, none⟩ = some u2 ∧ wx.cell? ⟨b, off + j * 4 + 3, none⟩ = some u3 ∧ wx.cell? ⟨b, off + i * 4, none⟩ = some (.slice K kn kc) ∧ wx.cell? ⟨b, off + i * 4 + 1, none⟩ = some (.int .u64 (x.seq : Int)) ∧ wx.cell? ⟨b, off + i * 4 + 2, none⟩ = some (.int .u8 (x.kind : Int)) ∧ wx.cell? ⟨b, off + i * 4 + 3, none⟩ = some (.slice V vn vc)) (first | assumption | exact HSX.out _ hB0)
                  (first | (go_at_call 118; with_reducible refine (HLS.out _ (by assumption)).mono ?_; intro e1 wn hq; obtain ⟨h1, bn⟩ := RetT.outD hq; subst h1; have bn' := belowT' (by assumption : Below wc.heap.size wc _) bn; have hS1 := HSX.out _ bn'))
                all_goals
                  have HBN : Hid (CS w O oc (outB ev es i) R' rc' rs2 _) := Lib.hid (HCS.out.below (by assumption : Below wc.heap.size wc wn))
                  go_wp2_with fail
                  go_meet
                  case rel => exact ⟨rfl, HBN.out⟩
          case rest =>
            obtain ⟨hbs, hcs⟩ := hcut
            subst hbs
            have hkl := HR0.out.len
            have hvl := HR3.out.len
            have hskn : sh ≤ kn := by have := shB_le (ev := ev) HXI.out; rw [← HSH.out] at this; omega
            have hkn1 : kn ≤ 1024 := by have := HXS.out.1; omega
            have hvn1 : vn ≤ 65536 := by have := HXS.out.2; omega
            have hseq : x.seq < B64 := HXW.out.1
            have hkd : x.kind < 256 := HXW.out.2
            obtain ⟨zk, hzk⟩ : ∃ zk, zk = kn - sh := ⟨_, rfl⟩
            have hzk1 : zk ≤ 1024 := by omega
            have e2 : IntKind.i64.wrap ((kn : Int) - (sh : Int)) = (zk : Int) := by rw [IntWalk.i64_in _ (by omega)]; omega
            have e2b : ((kn : Int) - (sh : Int)) = (zk : Int) := by omega
            have e4 : IntKind.u64.wrap (sh : Int) = (sh : Int) := u64_nat sh (by unfold B64; omega)
            have e5 : IntKind.u64.wrap (zk : Int) = (zk : Int) := u64_nat zk (by unfold B64; omega)
            have e6 : IntKind.u64.wrap (vn : Int) = (vn : Int) := u64_nat vn (by unfold B64; omega)
            have hsl : ∀ W : World, (Instr.slice 25 (.slice K kn kc) (some (.int .i64 (sh : Int))) none none).run Try.prog W = .ok (.slice (cutA K sh kc) zk (kc - sh)) W := by
              rw [hzk]
              exact cut_l Try.underlying25 elem_bytes size_u8 K hskn
            have HRK : Hid (∀ wi : World, Below w.heap.size w wi → Rd wi (cutA K sh kc) zk (x.key.drop sh)) := Lib.hid (fun wi hwi => by
              have h := (HR0.out.below hwi).cut hskn (Nat.le_refl kn) q0
              rw [List.take_of_length_le (by omega)] at h
              rw [hzk]
              exact h)
            have HCL : Hid (∀ wi : World, Below w.heap.size w wi → wi.cell? ⟨b, off + i * 4, none⟩ = some (.slice K kn kc) ∧ wi.cell? ⟨b, off + i * 4 + 1, none⟩ = some (.int .u64 (x.seq : Int)) ∧ wi.cell? ⟨b, off + i * 4 + 2, none⟩ = some (.int .u8 (x.kind : Int)) ∧ wi.cell? ⟨b, off + i * 4 + 3, none⟩ = some (.slice V vn vc)) := Lib.hid (fun wi h => ⟨(h.cell (p := ⟨b, off + i * 4, none⟩) hbl).trans C0.out, (h.cell (p := ⟨b, off + i * 4 + 1, none⟩) hbl).trans C1.out, (h.cell (p := ⟨b, off + i * 4 + 2, none⟩) hbl).trans C2.out, (h.cell (p := ⟨b, off + i * 4 + 3, none⟩) hbl).trans C3.out⟩)
            have HENT : Hid (outB ev es (i + 1) = outB ev es i ++ putU sh ++ putU zk ++ putU x.seq ++ [bt x.kind] ++ putU vn ++ x.key.drop sh ++ x.val) := Lib.hid (by
              rw [outB_step HXI.out, ← HSH.out]
              unfold entB
              rw [hkl, hvl, ← hzk]
              simp only [List.append_assoc])
            have HDL : Hid ((x.key.drop sh).length = zk) := Lib.hid (by rw [List.length_drop]; omega)
            have HVL := Lib.hid hvl
            have p1 := putU_len64 sh (show sh < B64 by unfold B64; omega)
            have p2 := putU_len64 zk (show zk < B64 by unfold B64; omega)
            have p3 := putU_len64 x.seq hseq
            have p5 := putU_len64 vn (show vn < B64 by unfold B64; omega)
            have HD0 := Lib.hid (And.intro hcs HON.out)
            obtain ⟨zf, hzf⟩ : ∃ zf, zf = z2 := ⟨_, rfl⟩
            have HZF := Lib.hid hzf
            clear hcs hkl hvl hzk hbX hbC hzf
            rcases HBZ.out with ⟨rfl, hzb, _⟩ | ⟨rfl, hzb, _⟩
            · have HZB := Lib.hid hzb
              clear hzb
              have kc1 := HCL.out _ HD0.out.1.2.2.2
              obtain ⟨k0, k1, k2, k3⟩ := kc1
              go_wp2_with fail
              refine (refPutU_any sh _ (by first | exact hseq | (unfold B64; omega))).mono ?_
              rintro e wa ⟨P1, m1, d1, rfl, oP, bP⟩
              obtain rfl : (putU sh).length = m1 := oP.len
              have HB1 := Lib.hid (HD0.out.1.below bP)
              have rP := oP.rd
              have ho := HB1.out.1
              rw [← HD0.out.2] at ho
              have hsz := HB1.out.2.2.2.size
              clear oP bP k0 k1 k2 k3
              go_wp2_with (at_builtin; refine wpList_appX _ rfl _ _ 25 rfl w.heap.size 5 Try.underlying25 info_u8 O _ _ _ rfl ho P1 (putU sh).length d1 (putU sh) rfl rP ?_ ?_ ?_)
              · omega
              · exact hsz
              intro A1 c1 wb o1 g1
              obtain ⟨u1, hu⟩ : ∃ u1 : List UInt8, u1 = outB ev es i ++ putU sh := ⟨_, rfl⟩
              have HU1 := Lib.hid hu
              have HD1 := Lib.hid (HB1.out.app8 HD0.out.2 o1 rfl g1)
              rw [← hu] at HD1
              clear hu
              clear o1 g1 ho rP hsz
              have kc2 := HCL.out _ HD1.out.1.2.2.2
              obtain ⟨k0, k1, k2, k3⟩ := kc2
              go_wp2_with fail
              refine (refPutU_any zk _ (by first | exact hseq | (unfold B64; omega))).mono ?_
              rintro e wa ⟨P2, m2, d2, rfl, oP, bP⟩
              obtain rfl : (putU zk).length = m2 := oP.len
              have HB2 := Lib.hid (HD1.out.1.below bP)
              have rP := oP.rd
              have ho := HB2.out.1
              rw [← HD1.out.2] at ho
              have hsz := HB2.out.2.2.2.size
              clear oP bP k0 k1 k2 k3
              go_wp2_with (at_builtin; refine wpList_appX _ rfl _ _ 25 rfl w.heap.size 5 Try.underlying25 info_u8 A1 _ _ _ rfl ho P2 (putU zk).length d2 (putU zk) rfl rP ?_ ?_ ?_)
              · omega
              · exact hsz
              intro A2 c2 wb o1 g1
              obtain ⟨u2, hu⟩ : ∃ u2 : List UInt8, u2 = u1 ++ putU zk := ⟨_, rfl⟩
              have HU2 := Lib.hid hu
              have HD2 := Lib.hid (HB2.out.app8 HD1.out.2 o1 rfl g1)
              rw [← hu] at HD2
              clear hu
              clear o1 g1 ho rP hsz
              have kc3 := HCL.out _ HD2.out.1.2.2.2
              obtain ⟨k0, k1, k2, k3⟩ := kc3
              go_wp2_with fail
              refine (refPutU_any x.seq _ (by first | exact hseq | (unfold B64; omega))).mono ?_
              rintro e wa ⟨P3, m3, d3, rfl, oP, bP⟩
              obtain rfl : (putU x.seq).length = m3 := oP.len
              have HB3 := Lib.hid (HD2.out.1.below bP)
              have rP := oP.rd
              have ho := HB3.out.1
              rw [← HD2.out.2] at ho
              have hsz := HB3.out.2.2.2.size
              clear oP bP k0 k1 k2 k3
              go_wp2_with (at_builtin; refine wpList_appX _ rfl _ _ 25 rfl w.heap.size 5 Try.underlying25 info_u8 A2 _ _ _ rfl ho P3 (putU x.seq).length d3 (putU x.seq) rfl rP ?_ ?_ ?_)
              · omega
              · exact hsz
              intro A3 c3 wb o1 g1
              obtain ⟨u3, hu⟩ : ∃ u3 : List UInt8, u3 = u2 ++ putU x.seq := ⟨_, rfl⟩
              have HU3 := Lib.hid hu
              have HD3 := Lib.hid (HB3.out.app8 HD2.out.2 o1 rfl g1)
              rw [← hu] at HD3
              clear hu
              clear o1 g1 ho rP hsz
              have kc4 := HCL.out _ HD3.out.1.2.2.2
              obtain ⟨k0, k1, k2, k3⟩ := kc4
              have ho := (HD3.out.1.below ((Below.refl _ _).alloc (Nat.le_refl _) (.cells #[.int .u8 (x.kind : Int)] 5))).1
              rw [← HD3.out.2] at ho
              have HB4 := Lib.hid (HD3.out.1.below ((Below.refl _ _).alloc (Nat.le_refl _) (.cells #[.int .u8 (x.kind : Int)] 5)))
              have hsz := HB4.out.2.2.2.size
              go_wp2_with (at_builtin; refine wpList_appX _ rfl _ _ 25 rfl w.heap.size 5 Try.underlying25 info_u8 A3 _ _ _ rfl ho _ 1 1 [bt x.kind] rfl (Rd.one _ _ _ _ ?_) ?_ ?_ ?_)
              · rw [bt_nat _ (by omega)]
              · omega
              · exact hsz
              intro A4 c4 wb o1 g1
              obtain ⟨u4, hu⟩ : ∃ u4 : List UInt8, u4 = u3 ++ [bt x.kind] := ⟨_, rfl⟩
              have HU4 := Lib.hid hu
              have HD4 := Lib.hid (HB4.out.app8 HD3.out.2 o1 rfl g1)
              rw [← hu] at HD4
              clear hu
              clear o1 g1 ho hsz k0 k1 k2 k3
              have kc5 := HCL.out _ HD4.out.1.2.2.2
              obtain ⟨k0, k1, k2, k3⟩ := kc5
              go_wp2_with fail
              refine (refPutU_any vn _ (by first | exact hseq | (unfold B64; omega))).mono ?_
              rintro e wa ⟨P5, m5, d5, rfl, oP, bP⟩
              obtain rfl : (putU vn).length = m5 := oP.len
              have HB5 := Lib.hid (HD4.out.1.below bP)
              have rP := oP.rd
              have ho := HB5.out.1
              rw [← HD4.out.2] at ho
              have hsz := HB5.out.2.2.2.size
              clear oP bP k0 k1 k2 k3
              go_wp2_with (at_builtin; refine wpList_appX _ rfl _ _ 25 rfl w.heap.size 5 Try.underlying25 info_u8 A4 _ _ _ rfl ho P5 (putU vn).length d5 (putU vn) rfl rP ?_ ?_ ?_)
              · omega
              · exact hsz
              intro A5 c5 wb o1 g1
              obtain ⟨u5, hu⟩ : ∃ u5 : List UInt8, u5 = u4 ++ putU vn := ⟨_, rfl⟩
              have HU5 := Lib.hid hu
              have HD5 := Lib.hid (HB5.out.app8 HD4.out.2 o1 rfl g1)
              rw [← hu] at HD5
              clear hu
              clear o1 g1 ho rP hsz
              have kc6 := HCL.out _ HD5.out.1.2.2.2
              obtain ⟨k0, k1, k2, k3⟩ := kc6
              have ho := HD5.out.1.1
              rw [← HD5.out.2] at ho
              have hsz := HD5.out.1.2.2.2.size
              have rP := HRK.out _ HD5.out.1.2.2.2
              go_wp2_with (at_builtin; refine wpList_appX _ rfl _ _ 25 rfl w.heap.size 5 Try.underlying25 info_u8 A5 _ _ _ rfl ho (cutA K sh kc) zk (kc - sh) (x.key.drop sh) rfl rP ?_ ?_ ?_)
              · omega
              · exact hsz
              intro A6 c6 wb o1 g1
              obtain ⟨u6, hu⟩ : ∃ u6 : List UInt8, u6 = u5 ++ (x.key.drop sh) := ⟨_, rfl⟩
              have HU6 := Lib.hid hu
              have HD6 := Lib.hid (HD5.out.1.app8 HD5.out.2 o1 HDL.out g1)
              rw [← hu] at HD6
              clear hu
              clear o1 g1 ho rP hsz k0 k1 k2 k3
              have kc7 := HCL.out _ HD6.out.1.2.2.2
              obtain ⟨k0, k1, k2, k3⟩ := kc7
              have ho := HD6.out.1.1
              rw [← HD6.out.2] at ho
              have hsz := HD6.out.1.2.2.2.size
              have rP := HR3.out.below HD6.out.1.2.2.2
              go_wp2_with (at_builtin; refine wpList_appX _ rfl _ _ 25 rfl w.heap.size 5 Try.underlying25 info_u8 A6 _ _ _ rfl ho V vn vc x.val rfl rP ?_ ?_ ?_)
              · omega
              · exact hsz
              intro A7 c7 wb o1 g1
              obtain ⟨u7, hu⟩ : ∃ u7 : List UInt8, u7 = u6 ++ x.val := ⟨_, rfl⟩
              have HU7 := Lib.hid hu
              have HD7 := Lib.hid (HD6.out.1.app8 HD6.out.2 o1 HVL.out g1)
              rw [← hu] at HD7
              clear hu
              clear o1 g1 ho rP hsz k0 k1 k2 k3
              have HU : u7 = outB ev es (i + 1) := by rw [HENT.out, HU7.out, HU6.out, HU5.out, HU4.out, HU3.out, HU2.out, HU1.out]
              have HFI := HD7
              rw [HU] at HFI
              clear HU
              go_wp2_with fail
              go_roundw
              case rel => exact ⟨i + 1, _, rn2, sn', A7, R', c7, rc', _, by omega, by go_num, HFI.out.2, by rw [HRN2.out, HRS2.out], HSN'.out, rfl, by rw [← HZB.out]; exact HZ2.out, rfl, rfl, rfl, by rw [← HRS2.out]; exact HFI.out.1⟩
              case measure => simp [intOf]; omega
            · have HZB := Lib.hid hzb
              clear hzb
              have kc1 := HCL.out _ HD0.out.1.2.2.2
              obtain ⟨k0, k1, k2, k3⟩ := kc1
              go_wp2_with fail
              refine (refPutU_any sh _ (by first | exact hseq | (unfold B64; omega))).mono ?_
              rintro e wa ⟨P1, m1, d1, rfl, oP, bP⟩
              obtain rfl : (putU sh).length = m1 := oP.len
              have HB1 := Lib.hid (HD0.out.1.below bP)
              have rP := oP.rd
              have ho := HB1.out.1
              rw [← HD0.out.2] at ho
              have hsz := HB1.out.2.2.2.size
              clear oP bP k0 k1 k2 k3
              go_wp2_with (at_builtin; refine wpList_appX _ rfl _ _ 25 rfl w.heap.size 5 Try.underlying25 info_u8 O _ _ _ rfl ho P1 (putU sh).length d1 (putU sh) rfl rP ?_ ?_ ?_)
              · omega
              · exact hsz
              intro A1 c1 wb o1 g1
              obtain ⟨u1, hu⟩ : ∃ u1 : List UInt8, u1 = outB ev es i ++ putU sh := ⟨_, rfl⟩
              have HU1 := Lib.hid hu
              have HD1 := Lib.hid (HB1.out.app8 HD0.out.2 o1 rfl g1)
              rw [← hu] at HD1
              clear hu
              clear o1 g1 ho rP hsz
              have kc2 := HCL.out _ HD1.out.1.2.2.2
              obtain ⟨k0, k1, k2, k3⟩ := kc2
              go_wp2_with fail
              refine (refPutU_any zk _ (by first | exact hseq | (unfold B64; omega))).mono ?_
              rintro e wa ⟨P2, m2, d2, rfl, oP, bP⟩
              obtain rfl : (putU zk).length = m2 := oP.len
              have HB2 := Lib.hid (HD1.out.1.below bP)
              have rP := oP.rd
              have ho := HB2.out.1
              rw [← HD1.out.2] at ho
              have hsz := HB2.out.2.2.2.size
              clear oP bP k0 k1 k2 k3
              go_wp2_with (at_builtin; refine wpList_appX _ rfl _ _ 25 rfl w.heap.size 5 Try.underlying25 info_u8 A1 _ _ _ rfl ho P2 (putU zk).length d2 (putU zk) rfl rP ?_ ?_ ?_)
              · omega
              · exact hsz
              intro A2 c2 wb o1 g1
              obtain ⟨u2, hu⟩ : ∃ u2 : List UInt8, u2 = u1 ++ putU zk := ⟨_, rfl⟩
              have HU2 := Lib.hid hu
              have HD2 := Lib.hid (HB2.out.app8 HD1.out.2 o1 rfl g1)
              rw [← hu] at HD2
              clear hu
              clear o1 g1 ho rP hsz
              have kc3 := HCL.out _ HD2.out.1.2.2.2
              obtain ⟨k0, k1, k2, k3⟩ := kc3
              go_wp2_with fail
              refine (refPutU_any x.seq _ (by first | exact hseq | (unfold B64; omega))).mono ?_
              rintro e wa ⟨P3, m3, d3, rfl, oP, bP⟩
              obtain rfl : (putU x.seq).length = m3 := oP.len
              have HB3 := Lib.hid (HD2.out.1.below bP)
              have rP := oP.rd
              have ho := HB3.out.1
              rw [← HD2.out.2] at ho
              have hsz := HB3.out.2.2.2.size
              clear oP bP k0 k1 k2 k3
              go_wp2_with (at_builtin; refine wpList_appX _ rfl _ _ 25 rfl w.heap.size 5 Try.underlying25 info_u8 A2 _ _ _ rfl ho P3 (putU x.seq).length d3 (putU x.seq) rfl rP ?_ ?_ ?_)
              · omega
              · exact hsz
              intro A3 c3 wb o1 g1
              obtain ⟨u3, hu⟩ : ∃ u3 : List UInt8, u3 = u2 ++ putU x.seq := ⟨_, rfl⟩
              have HU3 := Lib.hid hu
              have HD3 := Lib.hid (HB3.out.app8 HD2.out.2 o1 rfl g1)
              rw [← hu] at HD3
              clear hu
              clear o1 g1 ho rP hsz
              have kc4 := HCL.out _ HD3.out.1.2.2.2
              obtain ⟨k0, k1, k2, k3⟩ := kc4
              have ho := (HD3.out.1.below ((Below.refl _ _).alloc (Nat.le_refl _) (.cells #[.int .u8 (x.kind : Int)] 5))).1
              rw [← HD3.out.2] at ho
              have HB4 := Lib.hid (HD3.out.1.below ((Below.refl _ _).alloc (Nat.le_refl _) (.cells #[.int .u8 (x.kind : Int)] 5)))
              have hsz := HB4.out.2.2.2.size
              go_wp2_with (at_builtin; refine wpList_appX _ rfl _ _ 25 rfl w.heap.size 5 Try.underlying25 info_u8 A3 _ _ _ rfl ho _ 1 1 [bt x.kind] rfl (Rd.one _ _ _ _ ?_) ?_ ?_ ?_)
              · rw [bt_nat _ (by omega)]
              · omega
              · exact hsz
              intro A4 c4 wb o1 g1
              obtain ⟨u4, hu⟩ : ∃ u4 : List UInt8, u4 = u3 ++ [bt x.kind] := ⟨_, rfl⟩
              have HU4 := Lib.hid hu
              have HD4 := Lib.hid (HB4.out.app8 HD3.out.2 o1 rfl g1)
              rw [← hu] at HD4
              clear hu
              clear o1 g1 ho hsz k0 k1 k2 k3
              have kc5 := HCL.out _ HD4.out.1.2.2.2
              obtain ⟨k0, k1, k2, k3⟩ := kc5
              go_wp2_with fail
              refine (refPutU_any vn _ (by first | exact hseq | (unfold B64; omega))).mono ?_
              rintro e wa ⟨P5, m5, d5, rfl, oP, bP⟩
              obtain rfl : (putU vn).length = m5 := oP.len
              have HB5 := Lib.hid (HD4.out.1.below bP)
              have rP := oP.rd
              have ho := HB5.out.1
              rw [← HD4.out.2] at ho
              have hsz := HB5.out.2.2.2.size
              clear oP bP k0 k1 k2 k3
              go_wp2_with (at_builtin; refine wpList_appX _ rfl _ _ 25 rfl w.heap.size 5 Try.underlying25 info_u8 A4 _ _ _ rfl ho P5 (putU vn).length d5 (putU vn) rfl rP ?_ ?_ ?_)
              · omega
              · exact hsz
              intro A5 c5 wb o1 g1
              obtain ⟨u5, hu⟩ : ∃ u5 : List UInt8, u5 = u4 ++ putU vn := ⟨_, rfl⟩
              have HU5 := Lib.hid hu
              have HD5 := Lib.hid (HB5.out.app8 HD4.out.2 o1 rfl g1)
              rw [← hu] at HD5
              clear hu
              clear o1 g1 ho rP hsz
              have kc6 := HCL.out _ HD5.out.1.2.2.2
              obtain ⟨k0, k1, k2, k3⟩ := kc6
              have ho := HD5.out.1.1
              rw [← HD5.out.2] at ho
              have hsz := HD5.out.1.2.2.2.size
              have rP := HRK.out _ HD5.out.1.2.2.2
              go_wp2_with (at_builtin; refine wpList_appX _ rfl _ _ 25 rfl w.heap.size 5 Try.underlying25 info_u8 A5 _ _ _ rfl ho (cutA K sh kc) zk (kc - sh) (x.key.drop sh) rfl rP ?_ ?_ ?_)
              · omega
              · exact hsz
              intro A6 c6 wb o1 g1
              obtain ⟨u6, hu⟩ : ∃ u6 : List UInt8, u6 = u5 ++ (x.key.drop sh) := ⟨_, rfl⟩
              have HU6 := Lib.hid hu
              have HD6 := Lib.hid (HD5.out.1.app8 HD5.out.2 o1 HDL.out g1)
              rw [← hu] at HD6
              clear hu
              clear o1 g1 ho rP hsz k0 k1 k2 k3
              have kc7 := HCL.out _ HD6.out.1.2.2.2
              obtain ⟨k0, k1, k2, k3⟩ := kc7
              have ho := HD6.out.1.1
              rw [← HD6.out.2] at ho
              have hsz := HD6.out.1.2.2.2.size
              have rP := HR3.out.below HD6.out.1.2.2.2
              go_wp2_with (at_builtin; refine wpList_appX _ rfl _ _ 25 rfl w.heap.size 5 Try.underlying25 info_u8 A6 _ _ _ rfl ho V vn vc x.val rfl rP ?_ ?_ ?_)
              · omega
              · exact hsz
              intro A7 c7 wb o1 g1
              obtain ⟨u7, hu⟩ : ∃ u7 : List UInt8, u7 = u6 ++ x.val := ⟨_, rfl⟩
              have HU7 := Lib.hid hu
              have HD7 := Lib.hid (HD6.out.1.app8 HD6.out.2 o1 HVL.out g1)
              rw [← hu] at HD7
              clear hu
              clear o1 g1 ho rP hsz k0 k1 k2 k3
              have HU : u7 = outB ev es (i + 1) := by rw [HENT.out, HU7.out, HU6.out, HU5.out, HU4.out, HU3.out, HU2.out, HU1.out]
              have HFI := HD7
              rw [HU] at HFI
              clear HU
              go_wp2_with fail
              go_roundw
              case rel => exact ⟨i + 1, _, rn2, sn', A7, R', c7, rc', _, by omega, by go_num, HFI.out.2, by rw [HRN2.out, HRS2.out], HSN'.out, rfl, by rw [← HZB.out]; exact HZ2.out, rfl, rfl, rfl, by rw [← HRS2.out]; exact HFI.out.1⟩
              case measure => simp [intOf]; omega
        -- A1
      · obtain rfl : i = n := by omega
        have hsw := hbC.size
        have hO := HC.out.1
        rw [← HON.out] at hO
        have hRd := HC.out.2.1.rd
        rw [← HRN.out] at hRd
        obtain ⟨F, hF⟩ : ∃ F, F = fullB ev es := ⟨_, rfl⟩
        obtain ⟨gd, hgd⟩ : ∃ gd, gd = (es.all formE && ordE es) := ⟨_, rfl⟩
        have hbe : buildE ev es = if 1048576 < F.length then ([], 2) else if gd then (sealB F, 0) else ([], 3) := by rw [buildE, HLO.out, ← hF, hgd]; rfl
        have hzg : z = if gd then 0 else 3 := by rw [HZE.out, refE, hgd, ordE, HL.out]
        obtain ⟨u1, hu1⟩ : ∃ u1, u1 = outB ev es i ++ rsB ev es i := ⟨_, rfl⟩
        obtain ⟨n1, hn1⟩ : ∃ n1, n1 = on + rn := ⟨_, rfl⟩
        have hfull : u1 ++ fourB sn = F := by
          rw [hu1, hF, fullB, HL.out, ← HRN.out]
          have : rn / 4 = sn := by have := HSN.out; omega
          rw [this]
        have hlen : n1 + 4 = F.length := by
          rw [← hfull, List.length_append, hu1, List.length_append, ← HON.out, ← HRN.out, fourB_len]
          omega
        have hfl : n1 + 4 ≤ 1099511627776 := by omega
        have HU1 := Lib.hid hu1
        have HN1 := Lib.hid hn1
        have HFU := Lib.hid hfull
        have HLE := Lib.hid hlen
        have HBE := Lib.hid hbe
        have HZG := Lib.hid hzg
        have HB0 := Lib.hid hbC
        have hn1b : n1 ≤ 1099511627776 := by omega
        clear hbC hF hgd hbe hzg hu1 hn1 hfull hlen
        go_wp2_with (at_builtin; refine wpList_appX _ rfl _ _ 25 rfl w.heap.size 5 Try.underlying25 info_u8 O on oc _ rfl hO R rn rc (rsB ev es i) rfl hRd ?_ ?_ ?_)
        · omega
        · exact hsw
        intro O2 oc2 w2 o2 g2
        have hb2 : Below w.heap.size w w2 := HC.out.2.2.2.trans (g2.below HC.out.1 hsw)
        rw [← HU1.out, ← HN1.out] at o2
        rw [← HN1.out]
        have HO2 := Lib.hid o2
        have HB2 := Lib.hid hb2
        clear hO hRd g2 o2 hb2
        go_wp2_with fail
        with_reducible refine (refFour8_any sn w2 (by unfold B64; omega)).mono ?_
        rintro e w3 ⟨P, fn, fc, rfl, hP, _, b3⟩
        have hfn : fn = 4 := by rw [← hP.len]; rfl
        subst hfn
        have o3 := HO2.out.below b3
        have HB3 := Lib.hid (HB2.out.trans (b3.mono HB2.out.size))
        have hsz3 := HB3.out.size
        clear b3
        go_wp2_with (at_builtin; refine wpList_appX _ rfl _ _ 25 rfl w.heap.size 5 Try.underlying25 info_u8 O2 n1 oc2 _ rfl o3 P 4 fc (fourB sn) rfl hP ?_ ?_ ?_)
        · omega
        · exact hsz3
        intro O4 oc4 w4 o4 g4
        have hb4 : Below w.heap.size w w4 := HB3.out.trans (g4.below o3 hsz3)
        rw [HFU.out] at o4
        have HB4 := Lib.hid hb4
        have HSL : Hid (Calls Try.prog 63 #[.slice O4 (n1 + 4) oc4] w4 (RetSE w4.heap.size w4 (sealG F))) := Lib.hid (refSeal_any O4 (n1 + 4) oc4 F w4 o4.rd hfl)
        clear o3 hP o4 g4 hb4
        by_cases hbig : 1048576 < n1 + 4
        · have hbb : buildE ev es = ([], 2) := by rw [HBE.out, if_pos (by rw [← HLE.out]; exact hbig)]
          rw [sealG_long HLE.out.symm hbig] at HSL
          have HBB := Lib.hid hbb
          clear hbb
          go_wp2_with fail
          with_reducible refine HSL.out.mono ?_
          rintro e w5 ⟨Q, qn, qc, rfl, oQ, b5⟩
          have HB5 := Lib.hid (HB4.out.trans (b5.mono HB4.out.size))
          clear oQ b5
          go_wp2_with fail
          exact bodyPost_ret (v := .tuple #[.slice none 0 0, .int .i64 2]) (by simp [results, Try.f61, go_sem]; try rfl) rfl (RetBb.no HBB.out HB5.out)
        · rw [sealG_ok HLE.out.symm hbig] at HSL
          cases gd with
          | true =>
            have hbb : buildE ev es = (sealB F, 0) := by rw [HBE.out, if_neg (by rw [← HLE.out]; exact hbig)]; rfl
            have hz0 : z = 0 := HZG.out
            subst hz0
            have HBB := Lib.hid hbb
            clear hbb
            go_wp2_with fail
            with_reducible refine HSL.out.mono ?_
            rintro e w5 ⟨Q, qn, qc, rfl, oQ, b5⟩
            have HB5 := Lib.hid (HB4.out.trans (b5.mono HB4.out.size))
            have HOQ := Lib.hid (oQ.mono HB4.out.size)
            have hql : (sealB F).length = qn := oQ.len
            have HQL := Lib.hid hql
            clear oQ b5 hql
            go_wp2_with fail
            have hfin : RetBb w (buildE ev es) (.returned (.tuple #[.slice Q qn qc, .int .i64 0])) w5 := by
              refine ⟨Q, qc, ?_, ?_, HB5.out⟩
              · rw [HBB.out]
                simp only
                rw [HQL.out]
              · rw [HBB.out]
                simp only
                rw [HQL.out]
                exact HOQ.out
            exact bodyPost_ret (v := .tuple #[.slice Q qn qc, .int .i64 0]) (by simp [results, Try.f61, go_sem]; try rfl) rfl hfin
          | false =>
            have hbb : buildE ev es = ([], 3) := by rw [HBE.out, if_neg (by rw [← HLE.out]; exact hbig)]; rfl
            have hz0 : z = 3 := HZG.out
            subst hz0
            have HBB := Lib.hid hbb
            clear hbb
            go_wp2_with fail
            with_reducible refine HSL.out.mono ?_
            rintro e w5 ⟨Q, qn, qc, rfl, oQ, b5⟩
            have HB5 := Lib.hid (HB4.out.trans (b5.mono HB4.out.size))
            clear oQ b5
            go_wp2_with fail
            exact bodyPost_ret (v := .tuple #[.slice none 0 0, .int .i64 3]) (by simp [results, Try.f61, go_sem]; try rfl) rfl (RetBb.no HBB.out HB5.out)
end Go.Proofs.Ytcclhkoggijkaaa
namespace Go.Proofs.Ytcclhkoggijkaaa
open Go Go.RowKit Go.Maps

/-- How many bytes the file of this name has. -/
def lenR (x : List UInt8) (rs : List FR) : Nat := ((rs.filter fun q => q.name == x).map fun q => q.dat.length).sum
theorem lenR_none {x : List UInt8} {rs : List FR} (h : ∀ r ∈ rs, r.name ≠ x) : lenR x rs = 0 ∧ delR x rs = rs := by
  constructor
  · unfold lenR
    rw [List.filter_eq_nil_iff.2 (fun q hq => by simpa using h q hq)]
    rfl
  · unfold delR
    rw [List.filter_eq_self]
    intro q hq
    simpa using h q hq
theorem lenR_some {r : FR} : ∀ {rs : List FR}, rsUp rs → r ∈ rs → lenR r.name rs = r.dat.length
  | [], _, h => by cases h
  | a :: t, hu, h => by
    unfold rsUp at hu
    rw [List.pairwise_cons] at hu
    rcases List.mem_cons.1 h with rfl | h2
    · have e := (lenR_none (x := r.name) (rs := t) (fun q hq e => nlt_ne (hu.1 q hq) e.symm)).1
      unfold lenR at e ⊢
      rw [List.filter_cons_of_pos (by simp), List.map_cons, List.sum_cons, e]
      rfl
    · have hne := nlt_ne (hu.1 r h2)
      have e := lenR_some hu.2 h2
      unfold lenR at e ⊢
      rw [List.filter_cons_of_neg (by simpa using hne)]
      exact e

section
variable {w : World} {p : Nat} {m : Option Nat} {rs : List FR} {room used left : Int} {dead armed : Bool}
theorem drop_any (x : List UInt8) (u : Nat) (h : DskR w p m rs room (u : Int) left dead armed) (hu : rsUp rs) (hl : x.length ≤ maxLen) (hru : lenR x rs ≤ u) (hu2 : u ≤ 9223372036854775807) :
    Calls Try.prog 187 #[.pointer (some ⟨p, 0, none⟩), .string (tx x)] w (RetDel w p m rs x room ((u - lenR x rs : Nat) : Int) left dead armed (.tuple #[])) := by
  by_cases hex : ∃ r ∈ rs, r.name = x
  · obtain ⟨r, hr, rfl⟩ := hex
    rw [lenR_some hu hr] at hru ⊢
    exact drop_some u h hu hr hl hru hu2
  · have hno : ∀ r ∈ rs, r.name ≠ x := fun r hr e => hex ⟨r, hr, e⟩
    obtain ⟨e1, e2⟩ := lenR_none hno
    refine (drop_none x h hno hl).mono ?_
    rintro e w' ⟨rfl, rfl⟩
    refine ⟨rfl, ?_, Fr.refl _ _⟩
    rw [e1, e2, Nat.sub_zero]
    exact h

/-- 'The disk with the file under its new name.' -/
def RetRen (w : World) (p : Nat) (m : Option Nat) (rs rs2 : List FR) (x : List UInt8) (dat : List UInt8) (saf : Nat) (room used left : Int) (dead armed : Bool) (v : Value) (e : Ending) (w' : World) : Prop :=
  e = .returned v ∧ ∃ (r' : FR) (m' : Option Nat), r'.name = x ∧ r'.dat = dat ∧ r'.saf = saf ∧ DskR w' p m' (putR r' rs2) room used left dead armed ∧ Fr w w' (allB p m rs) ∧ ∀ b ∈ allB p m' (putR r' rs2), b ∈ allB p m rs ∨ w.heap.size ≤ b
theorem rename_dead (x y : List UInt8) (h : DskR w p m rs room used left true armed) :
    Calls Try.prog 152 #[.pointer (some ⟨p, 0, none⟩), .string (tx x), .string (tx y)] w (RetNo w 9) := by
  go_enter Try.func152, Try.ntmps152
  go_wp2_with fail
  refine (find_dead x h).mono ?_
  rintro e w' ⟨rfl, rfl⟩
  go_wp2_with fail
  refine (turn_err (p := p) (w := w) (e := 9) (by decide)).mono ?_
  rintro e w' ⟨rfl, rfl⟩
  go_wp2
  go_ret
  exact ⟨rfl, rfl⟩
theorem rename_none (x y : List UInt8) (h : DskR w p m rs room used left false armed) (hx : ∀ r ∈ rs, r.name ≠ x) (hl : x.length ≤ maxLen) :
    Calls Try.prog 152 #[.pointer (some ⟨p, 0, none⟩), .string (tx x), .string (tx y)] w (RetNo w 6) := by
  go_enter Try.func152, Try.ntmps152
  go_wp2_with fail
  refine (find_none x h hx hl).mono ?_
  rintro e w' ⟨rfl, rfl⟩
  go_wp2_with fail
  refine (turn_err (p := p) (w := w) (e := 6) (by decide)).mono ?_
  rintro e w' ⟨rfl, rfl⟩
  go_wp2
  go_ret
  exact ⟨rfl, rfl⟩
theorem rename_kill {r : FR} (y : List UInt8) (h : DskR w p m rs room used 0 false true) (hr : r ∈ rs) (hl : r.name.length ≤ maxLen) :
    Calls Try.prog 152 #[.pointer (some ⟨p, 0, none⟩), .string (tx r.name), .string (tx y)] w (RetHd w p (headV m room used 0 true false) (.int .i64 9)) := by
  go_enter Try.func152, Try.ntmps152
  go_wp2_with fail
  refine (find_some h hr hl).mono ?_
  rintro e w' ⟨rfl, rfl⟩
  go_wp2_with fail
  refine (turn_kill h).mono ?_
  rintro e w1 ⟨rfl, hH⟩
  go_wp2
  go_ret
  exact ⟨rfl, hH⟩
theorem txl (a : List UInt8) : (tx a).toList = a := by rw [ByteArray.toList_eq, tx_list]
theorem tx_ne {a b : List UInt8} (h : a ≠ b) : ((tx a).toList == (tx b).toList) = false := by
  rw [txl, txl, beq_eq_false_iff_ne]
  exact h
set_option maxRecDepth 100000 in
set_option maxHeartbeats 1000000 in
theorem rename_same {r : FR} (h : DskR w p m rs room used left false armed) (hr : r ∈ rs) (hl : r.name.length ≤ maxLen) (hl2 : 0 ≤ left ∧ left ≤ 9223372036854775807) (ht : tE armed left = 0) :
    Calls Try.prog 152 #[.pointer (some ⟨p, 0, none⟩), .string (tx r.name), .string (tx r.name)] w (RetHd w p (headV m room used (tL armed left) false armed) (.int .i64 0)) := by
  obtain ⟨t1, t2⟩ := tE_done (dead := false) ht
  have hT := turn_zero h hl2
  rw [ht, t1, t2] at hT
  have HT := Lib.hid hT
  clear hT t1 t2 ht
  go_enter Try.func152, Try.ntmps152
  go_wp2_with fail
  refine (find_some h hr hl).mono ?_
  rintro e w' ⟨rfl, rfl⟩
  go_wp2_with fail
  refine HT.out.mono ?_
  clear HT
  rintro e w1 ⟨rfl, hH⟩
  go_wp2
  go_ret
  exact ⟨rfl, hH⟩
set_option maxRecDepth 100000 in
set_option maxHeartbeats 2000000 in
theorem rename_some {r : FR} (y : List UInt8) (u : Nat) (h : DskR w p m rs room (u : Int) left false armed) (hu : rsUp rs) (hr : r ∈ rs) (hl : r.name.length ≤ 1099511627776) (hly : y.length ≤ 1099511627776) (hl2 : 0 ≤ left ∧ left ≤ 9223372036854775807) (ht : tE armed left = 0) (hne : r.name ≠ y)
    (hru : lenR y rs ≤ u) (hu2 : u ≤ 9223372036854775807) (hrs : rs.length ≤ 1099511627776) :
    Calls Try.prog 152 #[.pointer (some ⟨p, 0, none⟩), .string (tx r.name), .string (tx y)] w
      (RetRen w p m rs (delR r.name (delR y rs)) y r.dat r.saf room ((u - lenR y rs : Nat) : Int) (tL armed left) false armed (.int .i64 0)) := by
  obtain ⟨t1, t2⟩ := tE_done (dead := false) ht
  have hT := turn_zero h hl2
  rw [ht, t1, t2] at hT
  have HT := Lib.hid hT
  clear hT t1 t2 ht
  go_enter Try.func152, Try.ntmps152
  go_wp2_with fail
  refine (find_some h hr (by unfold maxLen; omega)).mono ?_
  rintro e w' ⟨rfl, rfl⟩
  go_wp2_with fail
  refine HT.out.mono ?_
  clear HT
  rintro e w1 ⟨rfl, hH⟩
  have hD1 := h.turn hH.1 hH.2
  have hcmp := tx_ne hne
  have HNE := Lib.hid hne
  clear hne
  have f1 : Fr w w1 (allB p m rs) := hH.1.mono (fun b hb => .inl (by rw [List.mem_singleton] at hb; rw [hb]; exact mem_head))
  clear h hH
  go_wp2_with fail
  refine (drop_any y u hD1 hu (by unfold maxLen; omega) hru hu2).mono ?_
  rintro e w2 ⟨rfl, hD2, hF2⟩
  have hu2' := delR_up (x := y) hu
  have hr2 : r ∈ delR y rs := mem_delR.2 ⟨hr, HNE.out⟩
  have f2 : Fr w w2 (allB p m rs) := f1.trans hF2 (fun b hb => .inl hb)
  have hkey := keyN (x := r.name) (by unfold maxLen; omega)
  have hln : (delR y rs).length ≤ rs.length := List.length_filter_le _ _
  clear hD1 hF2 f1 hcmp
  obtain ⟨rs2, hrs2⟩ : ∃ rs2, rs2 = delR y rs := ⟨_, rfl⟩
  have hmr : ∀ b ∈ allB p m rs2, b ∈ allB p m rs := fun b hb => by rw [hrs2] at hb; exact mem_delB hb
  have hny : ∀ q ∈ rs2, q.name ≠ y := fun q hq => by rw [hrs2] at hq; exact (mem_delR.1 hq).2
  rw [← hrs2] at hD2 hu2' hr2 hln ⊢
  have HRS2 := Lib.hid hrs2
  have HMR := Lib.hid hmr
  have HNY := Lib.hid hny
  clear hrs2 hmr hny
  have hM := hD2.2.1
  rcases hM with ⟨_, hM⟩ | ⟨b, Dm, rfl, ho, hm⟩
  · rw [hM] at hr2; cases hr2
  obtain ⟨c0, _⟩ := hD2.head
  go_wp2_with (at_delete; refine wpList_delete_own _ rfl _ _ 124 9 rfl 127 lawN Try.underlying124 _ b rs2.length Dm rfl ho _ _ rfl hkey ?_)
  intro w3 ho3 hturn
  have hD3 := hD2.del hu2' hr2 ho3 hm (ho.tidy lawN) hturn.grown
  have hfb3 : Fr w2 w3 [b] := Fr.of_grown hturn.grown (fun c hc => by injection hc with hc; rw [hc]; exact List.mem_singleton.2 rfl)
  have f3 : Fr w w3 (allB p (some b) rs) := f2.trans hfb3 (fun c hc => .inl (by rw [List.mem_singleton] at hc; rw [hc]; exact mem_map rfl))
  have hsep := hD2.2.2.2
  have hfa3 : FileAt w3 r := (hD2.2.2.1 r hr2).fr hfb3 (fun c hc hmem => (hsep.1 r hr2).2.1 b rfl (by rw [List.mem_singleton] at hmem; rw [← hmem]; exact hc))
  have hu3 := delR_up (x := r.name) hu2'
  obtain ⟨r', hr'⟩ : ∃ r' : FR, r' = { r with name := y } := ⟨_, rfl⟩
  have hat : FileAt w3 r' := by rw [hr']; exact hfa3
  have hfr : ∀ c ∈ r'.bl, c ∉ allB p (some b) (delR r.name rs2) := fun c hc hmem => by
    have hc : c ∈ r.bl := by rw [hr'] at hc; exact hc
    simp only [allB, List.mem_cons, List.mem_append, List.mem_flatMap, Option.mem_toList] at hmem
    rcases hmem with rfl | hmem | ⟨q, hq, hmem⟩
    · exact (hsep.1 r hr2).1 hc
    · exact (hsep.1 r hr2).2.1 c hmem hc
    · obtain ⟨hq1, hq2⟩ := mem_delR.1 hq
      exact sp_of hsep.2.2 hu2' hr2 hq1 (fun e => hq2 e.symm) c hc hmem
  have hne' : blk r'.A ≠ some r'.fb := by rw [hr']; exact (hsep.1 r hr2).2.2
  have hl3 : (delR r.name rs2).length ≤ 1099511627776 := Nat.le_trans (List.length_filter_le _ _) (by omega)
  have hP := put_any r' hD3 (fun q hq => by rw [hr']; exact HNY.out q (mem_delR.1 hq).1) (by rw [hr']; exact hly) hl3
  have hn' : r'.name = y := by rw [hr']
  have hf' : r'.fb = r.fb := by rw [hr']
  rw [hn', hf'] at hP
  have HP := Lib.hid hP
  have HV := Lib.hid (show r'.name = y ∧ r'.dat = r.dat ∧ r'.saf = r.saf from by rw [hr']; exact ⟨rfl, rfl, rfl⟩)
  have HAT := Lib.hid hat
  have HFR := Lib.hid hfr
  have HNE' := Lib.hid hne'
  have HD3 := Lib.hid hD3
  have HF3 := Lib.hid f3
  have HBL : Hid (∀ c ∈ r'.bl, c ∈ allB p (some b) rs) := Lib.hid (fun c hc => HMR.out c (mem_file hr2 (by rw [hr'] at hc; exact hc)))
  clear hP hat hfr hne' hD3 f3 hr' hn' hf' ho3 hturn ho hm hsep hfa3 hfb3 f2 hD2 hkey
  go_wp2_with fail
  refine HP.out.mono ?_
  clear HP
  rintro e w4 hret
  obtain ⟨he, hret2⟩ := hret
  subst he
  obtain ⟨mb, hD4, hF4, hmb⟩ := HD3.out.put hu3 ⟨rfl, hret2⟩ HAT.out HFR.out HNE'.out
  have hF : Fr w w4 (allB p (some b) rs) := HF3.out.trans hF4 (fun c hc => .inl (by
    simp only [List.mem_cons, Option.mem_toList, allB, List.mem_append] at hc ⊢
    rcases hc with hc | hc
    · exact .inl hc
    · exact .inr (.inl hc)))
  have hB : ∀ c ∈ allB p (some mb) (putR r' (delR r.name rs2)), c ∈ allB p (some b) rs ∨ w.heap.size ≤ c := fun c hc => by
    simp only [allB, List.mem_cons, List.mem_append, List.mem_flatMap, Option.mem_toList] at hc
    rcases hc with rfl | hc | ⟨q, hq, hc⟩
    · exact .inl mem_head
    · cases hc
      rcases hmb with h1 | h1
      · injection h1 with h1; exact .inl (by rw [← h1]; exact mem_map rfl)
      · exact .inr (Nat.le_trans HF3.out.size h1)
    · rcases putR_sub2 hu3 q hq with rfl | ⟨hq, _⟩
      · exact .inl (HBL.out c hc)
      · exact .inl (HMR.out c (mem_file (mem_delR.1 hq).1 hc))
  have HF := Lib.hid hF
  have HB := Lib.hid hB
  have HD4 := Lib.hid hD4
  clear hret2 hF4 hmb hF hB hD4
  go_wp2
  go_ret
  rw [← HRS2.out]
  exact ⟨rfl, r', some mb, HV.out.1, HV.out.2.1, HV.out.2.2, HD4.out, HF.out, HB.out⟩
end
end Go.Proofs.Ytcclhkoggijkaaa
namespace Go.Proofs.Ytcclhkoggijkaaa
open Go Go.RowKit

theorem ordK_at2 {es : List En} : ∀ {k : Nat}, ordK es k = true → ∀ (i : Nat) a b, i < k → es[i]? = some a → es[i + 1]? = some b → lessE a b = true
  | k + 1, h, i, a, b, hi, ha, hb => by
    rw [ordK, Bool.and_eq_true] at h
    rcases Nat.lt_or_ge i k with h1 | h1
    · exact ordK_at2 h.1 i a b h1 ha hb
    · obtain rfl : i = k := by omega
      have h2 := h.2
      rw [ha, hb] at h2
      exact h2
theorem sort_of_ord {es : List En} (h : ordE es = true) : SortL es := by
  have key : ∀ (j i : Nat) a b, i < j → es[i]? = some a → es[j]? = some b → lessE a b = true := by
    intro j
    induction j with
    | zero => intro i a b h; omega
    | succ j ih =>
      intro i a b hij ha hb
      have hlt : j + 1 < es.length := (List.getElem?_eq_some_iff.1 hb).1
      obtain ⟨c, hc⟩ : ∃ c, es[j]? = some c := ⟨_, List.getElem?_eq_getElem (by omega)⟩
      have h1 := ordK_at2 h j c b (by omega) hc hb
      by_cases e : i = j
      · subst e
        rw [hc] at ha
        injection ha with ha
        rw [← ha]
        exact h1
      · exact lessE_trans (ih i a c (by omega) ha hc) h1
  unfold SortL
  rw [List.pairwise_iff_getElem]
  intro i j hi hj hij
  exact key j i _ _ hij (List.getElem?_eq_getElem hi) (List.getElem?_eq_getElem hj)
theorem ord_of_sort2 {es : List En} (h : SortL es) : ordE es = true := by
  have key : ∀ k, k ≤ es.length - 1 → ordK es k = true := by
    intro k
    induction k with
    | zero => intro _; rfl
    | succ k ih =>
      intro hk
      have ha : es[k]? = some (es[k]'(by omega)) := List.getElem?_eq_getElem (by omega)
      have hb : es[k + 1]? = some (es[k + 1]'(by omega)) := List.getElem?_eq_getElem (by omega)
      rw [ordK_step ha hb, ih (by omega), Bool.true_and]
      exact List.pairwise_iff_getElem.1 h k (k + 1) (by omega) (by omega) (by omega)
  exact key _ (Nat.le_refl _)
theorem sort_at {es : List En} (h : SortL es) {i j : Nat} {a b : En} (hij : i < j) (ha : es[i]? = some a) (hb : es[j]? = some b) : lessE a b = true := by
  obtain ⟨l1, e1⟩ := List.getElem?_eq_some_iff.1 ha
  obtain ⟨l2, e2⟩ := List.getElem?_eq_some_iff.1 hb
  have := List.pairwise_iff_getElem.1 h i j l1 l2 hij
  rw [e1, e2] at this
  exact this
theorem sort_uniq {es : List En} (h : SortL es) {i j : Nat} {a b : En} (ha : es[i]? = some a) (hb : es[j]? = some b) (hk : a.key = b.key) (hs : a.seq = b.seq) : i = j := by
  have hn := sameK_not (sameK_iff.2 ⟨hk, hs⟩)
  rcases Nat.lt_trichotomy i j with e | e | e
  · have := sort_at h e ha hb
    rw [hn.1] at this; cases this
  · exact e
  · have := sort_at h e hb ha
    rw [hn.2] at this; cases this
theorem less_seq {a b : En} (h : lessE a b = true) (hk : a.key = b.key) : b.seq < a.seq := by
  rcases lessE_iff.1 h with h | h
  · rw [hk, cmpB_refl] at h; omega
  · exact h.2
/-- No earlier entry has the key of one whose neighbour hasn't. -/
theorem sort_far {es : List En} (h : SortL es) {k j : Nat} {a x y : En} (ha : es[k]? = some a) (hx : es[k + 1]? = some x) (hne : a.key ≠ x.key) (hj : j ≤ k) (hy : es[j]? = some y) : y.key ≠ x.key := by
  have h1 : cmpB a.key x.key < 0 := by
    rcases lessE_iff.1 (sort_at h (Nat.lt_succ_self k) ha hx) with q | q
    · exact q
    · exact absurd q.1 hne
  rcases Nat.eq_or_lt_of_le hj with e | e
  · subst e
    rw [ha] at hy
    injection hy with hy
    rw [← hy]
    exact hne
  · intro hk
    rcases lessE_iff.1 (sort_at h e hy ha) with q | q
    · have := cmpB_trans q h1
      rw [hk, cmpB_refl] at this
      omega
    · rw [← q.1, hk] at h1
      rw [cmpB_refl] at h1
      omega
theorem seen_one {es : List En} {i a : Nat} {x : En} (h : SortL es) (hx : es[i]? = some x) : seenE es i [a] = true ↔ findL x.key a es = some x := by
  rw [seenE_at hx]
  simp only [List.any_cons, List.any_nil, Bool.or_false, Bool.and_eq_true, decide_eq_true_eq]
  unfold findL
  rw [List.find?_eq_some_iff_getElem]
  have hlt := (List.getElem?_eq_some_iff.1 hx).1
  have hxe := (List.getElem?_eq_some_iff.1 hx).2
  constructor
  · rintro ⟨h1, h2⟩
    refine ⟨by simp [eqB, h1], i, hlt, hxe, fun j hj => ?_⟩
    have hjy : es[j]? = some (es[j]'(by omega)) := List.getElem?_eq_getElem (by omega)
    cases i with
    | zero => omega
    | succ k =>
      have hka : es[k]? = some (es[k]'(by omega)) := List.getElem?_eq_getElem (by omega)
      rw [newerE_at hka hx] at h2
      by_cases hkk : (es[k]'(by omega)).key = x.key
      · have e1 : eqB (es[k]'(by omega)).key x.key = true := by simp [eqB, hkk]
        rw [e1, if_pos rfl] at h2
        simp only [decide_eq_true_eq] at h2
        by_cases hjk : (es[j]'(by omega)).key = x.key
        · have : (es[k]'(by omega)).seq ≤ (es[j]'(by omega)).seq := by
            rcases Nat.eq_or_lt_of_le (Nat.le_of_lt_succ hj) with e | e
            · subst e; exact Nat.le_refl _
            · exact Nat.le_of_lt (less_seq (sort_at h e hjy hka) (hjk.trans hkk.symm))
          have : ¬ (es[j]'(by omega)).seq ≤ a := by omega
          simp [this]
        · simp [eqB, hjk]
      · have := sort_far h hka hx hkk (Nat.le_of_lt_succ hj) hjy
        simp [eqB, this]
  · rintro ⟨h1, j, hj, he, hf⟩
    have hij : i = j := sort_uniq h hx (List.getElem?_eq_getElem hj) (by rw [he]) (by rw [he])
    subst hij
    rw [Bool.and_eq_true, decide_eq_true_eq] at h1
    refine ⟨h1.2, ?_⟩
    cases i with
    | zero => rfl
    | succ k =>
      have hka : es[k]? = some (es[k]'(by omega)) := List.getElem?_eq_getElem (by omega)
      rw [newerE_at hka hx]
      by_cases hkk : (es[k]'(by omega)).key = x.key
      · have e1 : eqB (es[k]'(by omega)).key x.key = true := by simp [eqB, hkk]
        rw [e1, if_pos rfl]
        have := hf k (Nat.lt_succ_self k)
        rw [e1] at this
        simp at this
        simpa using this
      · have e1 : eqB (es[k]'(by omega)).key x.key = false := by simp [eqB, hkk]
        rw [e1]
        rfl
/-- What the reference's Visible looks at. -/
def refP (es : List En) (a i : Nat) : Bool := match es[i]? with
  | none => false
  | some x => match findL x.key a es with
    | none => false
    | some v => decide (v.seq = x.seq) && decide (v.kind = 1)
theorem findL_in {es : List En} {key : List UInt8} {a : Nat} {v : En} (h : findL key a es = some v) : v ∈ es ∧ v.key = key ∧ v.seq ≤ a := by
  unfold findL at h
  have h1 := List.find?_some h
  rw [Bool.and_eq_true, decide_eq_true_eq] at h1
  exact ⟨List.mem_of_find?_eq_some h, by simpa [eqB] using h1.1, h1.2⟩
theorem vis_ref {es : List En} (h : SortL es) (a i : Nat) : visP es [a] i = refP es a i := by
  unfold visP refP
  cases hx : es[i]? with
  | none => rfl
  | some x =>
    simp only
    cases hs : seenE es i [a] with
    | true =>
      rw [(seen_one h hx).1 hs]
      simp
    | false =>
      rw [Bool.and_false]
      cases hf : findL x.key a es with
      | none => rfl
      | some v =>
        obtain ⟨hm, hk, _⟩ := findL_in hf
        simp only
        by_cases hq : v.seq = x.seq
        · obtain ⟨j, hj⟩ := List.mem_iff_getElem?.1 hm
          have := sort_uniq h hx hj hk.symm hq.symm
          subst this
          rw [hx] at hj
          injection hj with hj
          rw [← hj] at hf
          rw [(seen_one h hx).2 hf] at hs
          cases hs
        · simp [hq]
theorem pkE_congr {p q : Nat → Bool} (es : List En) : ∀ k, (∀ i, i < k → p i = q i) → pkE p es k = pkE q es k
  | 0, _ => rfl
  | k + 1, h => by rw [pkE, pkE, pkE_congr es k (fun i hi => h i (by omega)), h k (Nat.lt_succ_self k)]
theorem chk1_ok {es : List En} (h : chk1 es = 0) : SortL es ∧ checkE es = 0 := by
  unfold chk1 at h
  split at h
  · rename_i h1
    exact absurd h h1
  · rename_i h1
    split at h
    · rename_i h2
      exact ⟨sort_of_ord h2, by omega⟩
    · cases h
end Go.Proofs.Ytcclhkoggijkaaa
namespace Go.Proofs.Ytcclhkoggijkaaa
open Go Go.RowKit

/-- A number as the reference's reader takes it, and the place behind it; -1: none. -/
def gN (xs : List UInt8) (t : Int) : Int × Int := if (getU xs t).2.2 = 0 ∧ (getU xs t).1 ≤ 1099511627776 then (((getU xs t).1 : Nat), (getU xs t).2.1) else (-1, t)
def RetGn (w : World) (g : Int × Int) (e : Ending) (w' : World) : Prop := e = .returned (.tuple #[.int .i64 g.1, .int .i64 g.2]) ∧ w' = w
set_option maxRecDepth 100000 in
theorem refGet8_any (A : Option Addr) (n c : Nat) (xs : List UInt8) (t : Int) (w : World) (hx : Rd w A n xs) (hn : n ≤ 1099511627776) :
    Calls Try.prog 163 #[.slice A n c, .int .i64 t] w (RetGn w (gN xs t)) := by
  have HG := Lib.hid (refGetU_any A n c xs t w hx (by omega))
  obtain ⟨m, nx, k, hg⟩ : ∃ m nx k, getU xs t = (m, nx, k) := ⟨_, _, _, rfl⟩
  rw [hg] at HG
  have hgn : gN xs t = if k = 0 ∧ m ≤ 1099511627776 then ((m : Int), nx) else (-1, t) := by rw [gN, hg]
  have HN := Lib.hid hgn
  clear hx hg hgn
  go_enter Try.func163, Try.ntmps163
  go_wp2_with fail
  with_reducible refine HG.out.mono ?_
  rintro e w1 ⟨rfl, rfl⟩
  by_cases hk : k = 0
  · subst hk
    by_cases hm : m ≤ 1099511627776
    · have d1 : decide (1099511627776 < m) = false := by simp; omega
      have d2 : decide ((1099511627776 : Int) < (m : Int)) = false := by simp; omega
      have e1 : IntKind.i64.wrap (m : Int) = (m : Int) := IntWalk.i64_in _ (by omega)
      have hr : gN xs t = ((m : Int), nx) := by rw [HN.out, if_pos ⟨rfl, hm⟩]
      have HRR := Lib.hid hr
      clear hr
      go_wp2_with fail
      exact bodyPost_ret (v := .tuple #[.int .i64 (m : Int), .int .i64 nx]) (by simp [results, Try.f163, go_sem]; try rfl) rfl ⟨by rw [HRR.out], rfl⟩
    · have d1 : decide (1099511627776 < m) = true := by simp; omega
      have d2 : decide ((1099511627776 : Int) < (m : Int)) = true := by simp; omega
      have hr : gN xs t = (-1, t) := by rw [HN.out, if_neg (fun h => hm h.2)]
      have HRR := Lib.hid hr
      clear hr
      go_wp2_with fail
      exact bodyPost_ret (v := .tuple #[.int .i64 (-1), .int .i64 t]) (by simp [results, Try.f163, go_sem]; try rfl) rfl ⟨by rw [HRR.out], rfl⟩
  · have d1 : ((k : Int) == 0) = false := by simpa using hk
    have hr : gN xs t = (-1, t) := by rw [HN.out, if_neg (fun h => hk h.1)]
    have HRR := Lib.hid hr
    clear hr
    go_wp2_with fail
    exact bodyPost_ret (v := .tuple #[.int .i64 (-1), .int .i64 t]) (by simp [results, Try.f163, go_sem]; try rfl) rfl ⟨by rw [HRR.out], rfl⟩
end Go.Proofs.Ytcclhkoggijkaaa
namespace Go.Proofs.Ytcclhkoggijkaaa
open Go Go.RowKit Go.Maps Go.Proofs

def nmR (pre : List UInt8) (rs : List FR) : List (List UInt8) := (rs.map FR.name).filter fun x => Lib.hasPrefix x pre
theorem nmR_up {pre : List UInt8} {rs : List FR} (h : rsUp rs) : (nmR pre rs).Pairwise fun a b => a < b := by
  unfold nmR
  refine List.Pairwise.filter _ ?_
  rw [List.pairwise_map]
  exact h
theorem nmR_sort {pre : List UInt8} {rs : List FR} {zs : List (List UInt8)} (h : rsUp rs) (hn : zs.Nodup) (hm : ∀ x, x ∈ zs ↔ x ∈ nmR pre rs) : zs.mergeSort (fun x y => decide (x ≤ y)) = nmR pre rs := by
  have hu := nmR_up (pre := pre) h
  have hp : List.Perm (zs.mergeSort (fun x y => decide (x ≤ y))) (nmR pre rs) :=
    (List.mergeSort_perm zs _).trans ((List.perm_ext_iff_of_nodup hn (hu.imp fun h => nlt_ne h)).2 hm)
  refine List.Perm.eq_of_pairwise (le := fun a b => a ≤ b) (fun a b _ _ h1 h2 => List.le_antisymm h1 h2) ?_ (hu.imp fun h => List.le_of_lt h) hp
  have := List.pairwise_mergeSort (le := fun x y : List UInt8 => decide (x ≤ y)) (fun a b c h1 h2 => by simp only [decide_eq_true_eq] at *; exact List.le_trans h1 h2) (fun a b => by simpa using List.le_total a b) zs
  exact this.imp (fun h => by simpa using h)

/-- 'It hands back a row of these names, new.' -/
def RetNm (w : World) (ns : List (List UInt8)) (e : Ending) (w' : World) : Prop :=
  ∃ A n c, e = .returned (.slice A n c) ∧ OwnV 9 w' w.heap.size A n c (ns.map encStr) ∧ Below w.heap.size w w'
theorem info_str : (Try.prog.info? 9).map (fun i => (i.zero, i.size, i.bytes)) = some (some (.string ⟨#[]⟩), 1, 16) := by kernel_rfl

section
variable {w : World} {p : Nat} {m : Option Nat} {rs : List FR} {room used left : Int} {dead armed : Bool}
end
end Go.Proofs.Ytcclhkoggijkaaa
namespace Go.Proofs.Ytcclhkoggijkaaa
open Go Go.RowKit

/-- Two lists in order as one; of two alike that of the first. -/
def mrg2 : List En → List En → List En
  | [], gs => gs
  | x :: es, [] => x :: es
  | x :: es, y :: gs => if lessE y x then y :: mrg2 (x :: es) gs else if lessE x y then x :: mrg2 es (y :: gs) else x :: mrg2 es gs
termination_by a b => a.length + b.length
theorem mrg2_nil (es : List En) : mrg2 es [] = es := by
  cases es <;> simp [mrg2]
theorem nil_mrg2 (gs : List En) : mrg2 [] gs = gs := by simp [mrg2]
theorem mrg2_cons (x y : En) (es gs : List En) : mrg2 (x :: es) (y :: gs) = if lessE y x then y :: mrg2 (x :: es) gs else if lessE x y then x :: mrg2 es (y :: gs) else x :: mrg2 es gs := by rw [mrg2]
theorem inL_iff {es : List En} {e : En} : inL es e = true ↔ ∃ x ∈ es, x.key = e.key ∧ x.seq = e.seq := by
  unfold inL
  rw [List.any_eq_true]
  exact ⟨fun ⟨x, h1, h2⟩ => ⟨x, h1, sameK_iff.1 h2⟩, fun ⟨x, h1, h2⟩ => ⟨x, h1, sameK_iff.2 h2⟩⟩
theorem inL_not {es : List En} {e : En} : inL es e = false ↔ ∀ x ∈ es, ¬ (x.key = e.key ∧ x.seq = e.seq) := by
  rw [← Bool.not_eq_true, inL_iff]
  exact ⟨fun h x hx hk => h ⟨x, hx, hk⟩, fun h ⟨x, hx, hk⟩ => h x hx hk⟩
theorem less_ne {a b : En} (h : lessE a b = true) : ¬ (a.key = b.key ∧ a.seq = b.seq) := fun hk => by
  have := (sameK_not (sameK_iff.2 hk)).1
  rw [h] at this
  cases this
theorem sort_head {x : En} {es : List En} (h : SortL (x :: es)) : ∀ y ∈ es, lessE x y = true := (List.pairwise_cons.1 h).1
theorem sort_tail {x : En} {es : List En} (h : SortL (x :: es)) : SortL es := (List.pairwise_cons.1 h).2
theorem mrg2_mem {z : En} : ∀ {es gs : List En}, SortL es → SortL gs → (z ∈ mrg2 es gs ↔ z ∈ es ∨ (z ∈ gs ∧ inL es z = false))
  | [], gs, _, _ => by
    rw [nil_mrg2]
    simp [inL]
  | x :: es, [], _, _ => by
    rw [mrg2_nil]
    simp
  | x :: es, y :: gs, h1, h2 => by
    have t1 := sort_tail h1
    have t2 := sort_tail h2
    rw [mrg2_cons]
    by_cases hyx : lessE y x = true
    · rw [if_pos hyx, List.mem_cons, mrg2_mem (es := x :: es) h1 t2]
      have hny : inL (x :: es) y = false := by
        rw [inL_not]
        intro v hv hk
        rcases List.mem_cons.1 hv with e | e
        · rw [e] at hk
          exact less_ne hyx ⟨hk.1.symm, hk.2.symm⟩
        · exact less_ne (lessE_trans hyx (sort_head h1 v e)) ⟨hk.1.symm, hk.2.symm⟩
      constructor
      · rintro (h | h | ⟨h, k⟩)
        · exact .inr ⟨by rw [h]; exact List.mem_cons_self, by rw [h]; exact hny⟩
        · exact .inl h
        · exact .inr ⟨List.mem_cons_of_mem _ h, k⟩
      · rintro (h | ⟨h, k⟩)
        · exact .inr (.inl h)
        · rcases List.mem_cons.1 h with h | h
          · exact .inl h
          · exact .inr (.inr ⟨h, k⟩)
    · rw [if_neg hyx]
      by_cases hxy : lessE x y = true
      · rw [if_pos hxy, List.mem_cons, mrg2_mem (gs := y :: gs) t1 h2]
        have hx : ∀ v ∈ y :: gs, ¬ (x.key = v.key ∧ x.seq = v.seq) := fun v hv => by
          rcases List.mem_cons.1 hv with e | e
          · rw [e]; exact less_ne hxy
          · exact less_ne (lessE_trans hxy (sort_head h2 v e))
        constructor
        · rintro (h | h | ⟨h, k⟩)
          · exact .inl (by rw [h]; exact List.mem_cons_self)
          · exact .inl (List.mem_cons_of_mem _ h)
          · refine .inr ⟨h, ?_⟩
            rw [inL_not] at k ⊢
            intro v hv
            rcases List.mem_cons.1 hv with e | e
            · rw [e]; exact hx z h
            · exact k v e
        · rintro (h | ⟨h, k⟩)
          · rcases List.mem_cons.1 h with h | h
            · exact .inl h
            · exact .inr (.inl h)
          · refine .inr (.inr ⟨h, ?_⟩)
            rw [inL_not] at k ⊢
            exact fun v hv => k v (List.mem_cons_of_mem _ hv)
      · have hs : x.key = y.key ∧ x.seq = y.seq := by
          rcases lessE_tri x y with h | h | h
          · exact absurd h hxy
          · exact absurd h hyx
          · exact sameK_iff.1 h
        rw [if_neg hxy, List.mem_cons, mrg2_mem t1 t2]
        have hx : ∀ v ∈ gs, ¬ (x.key = v.key ∧ x.seq = v.seq) := fun v hv hk =>
          less_ne (sort_head h2 v hv) ⟨hs.1.symm.trans hk.1, hs.2.symm.trans hk.2⟩
        constructor
        · rintro (h | h | ⟨h, k⟩)
          · exact .inl (by rw [h]; exact List.mem_cons_self)
          · exact .inl (List.mem_cons_of_mem _ h)
          · refine .inr ⟨List.mem_cons_of_mem _ h, ?_⟩
            rw [inL_not] at k ⊢
            intro v hv
            rcases List.mem_cons.1 hv with e | e
            · rw [e]; exact hx z h
            · exact k v e
        · rintro (h | ⟨h, k⟩)
          · rcases List.mem_cons.1 h with h | h
            · exact .inl h
            · exact .inr (.inl h)
          · rw [inL_not] at k
            rcases List.mem_cons.1 h with h | h
            · exact absurd (by rw [h]; exact hs) (k x List.mem_cons_self)
            · refine .inr (.inr ⟨h, ?_⟩)
              rw [inL_not]
              exact fun v hv => k v (List.mem_cons_of_mem _ hv)
termination_by es gs => es.length + gs.length
theorem mrg2_sort : ∀ {es gs : List En}, SortL es → SortL gs → SortL (mrg2 es gs)
  | [], gs, _, h => by rw [nil_mrg2]; exact h
  | x :: es, [], h, _ => by rw [mrg2_nil]; exact h
  | x :: es, y :: gs, h1, h2 => by
    have t1 := sort_tail h1
    have t2 := sort_tail h2
    rw [mrg2_cons]
    by_cases hyx : lessE y x = true
    · rw [if_pos hyx]
      refine List.pairwise_cons.2 ⟨fun v hv => ?_, mrg2_sort h1 t2⟩
      rcases (mrg2_mem h1 t2).1 hv with h | ⟨h, _⟩
      · rcases List.mem_cons.1 h with e | e
        · rw [e]; exact hyx
        · exact lessE_trans hyx (sort_head h1 v e)
      · exact sort_head h2 v h
    · rw [if_neg hyx]
      by_cases hxy : lessE x y = true
      · rw [if_pos hxy]
        refine List.pairwise_cons.2 ⟨fun v hv => ?_, mrg2_sort t1 h2⟩
        rcases (mrg2_mem t1 h2).1 hv with h | ⟨h, _⟩
        · exact sort_head h1 v h
        · rcases List.mem_cons.1 h with e | e
          · rw [e]; exact hxy
          · exact lessE_trans hxy (sort_head h2 v e)
      · rw [if_neg hxy]
        have hs : x.key = y.key ∧ x.seq = y.seq := by
          rcases lessE_tri x y with h | h | h
          · exact absurd h hxy
          · exact absurd h hyx
          · exact sameK_iff.1 h
        refine List.pairwise_cons.2 ⟨fun v hv => ?_, mrg2_sort t1 t2⟩
        rcases (mrg2_mem t1 t2).1 hv with h | ⟨h, _⟩
        · exact sort_head h1 v h
        · have := sort_head h2 v h
          rw [lessE_iff] at this ⊢
          rw [hs.1, hs.2]
          exact this
termination_by es gs => es.length + gs.length
theorem mrg2_len : ∀ (es gs : List En), (mrg2 es gs).length ≤ es.length + gs.length
  | [], gs => by rw [nil_mrg2]; simp
  | x :: es, [] => by rw [mrg2_nil]; simp
  | x :: es, y :: gs => by
    have h1 := mrg2_len (x :: es) gs
    have h2 := mrg2_len es (y :: gs)
    have h3 := mrg2_len es gs
    simp only [List.length_cons] at h1 h2
    rw [mrg2_cons]
    split
    · simp only [List.length_cons]; omega
    · split <;> simp only [List.length_cons] <;> omega
termination_by es gs => es.length + gs.length
theorem mrg2_from {z : En} : ∀ {es gs : List En}, z ∈ mrg2 es gs → z ∈ es ∨ z ∈ gs
  | [], gs, h => by rw [nil_mrg2] at h; exact .inr h
  | x :: es, [], h => by rw [mrg2_nil] at h; exact .inl h
  | x :: es, y :: gs, h => by
    rw [mrg2_cons] at h
    split at h
    · rcases List.mem_cons.1 h with h | h
      · exact .inr (by rw [h]; exact List.mem_cons_self)
      · rcases mrg2_from h with h | h
        · exact .inl h
        · exact .inr (List.mem_cons_of_mem _ h)
    · split at h
      · rcases List.mem_cons.1 h with h | h
        · exact .inl (by rw [h]; exact List.mem_cons_self)
        · rcases mrg2_from h with h | h
          · exact .inl (List.mem_cons_of_mem _ h)
          · exact .inr h
      · rcases List.mem_cons.1 h with h | h
        · exact .inl (by rw [h]; exact List.mem_cons_self)
        · rcases mrg2_from h with h | h
          · exact .inl (List.mem_cons_of_mem _ h)
          · exact .inr (List.mem_cons_of_mem _ h)
termination_by es gs => es.length + gs.length
/-- Lists in order are what they have. -/
theorem sort_ext : ∀ {es gs : List En}, SortL es → SortL gs → (∀ z, z ∈ es ↔ z ∈ gs) → es = gs
  | [], [], _, _, _ => rfl
  | [], y :: gs, _, _, h => by have := (h y).2 List.mem_cons_self; cases this
  | x :: es, [], _, _, h => by have := (h x).1 List.mem_cons_self; cases this
  | x :: es, y :: gs, h1, h2, h => by
    have hxy : x = y := by
      rcases List.mem_cons.1 ((h x).1 List.mem_cons_self) with e | e
      · exact e
      · rcases List.mem_cons.1 ((h y).2 List.mem_cons_self) with k | k
        · exact k.symm
        · have a1 := sort_head h2 x e
          have a2 := lessE_asym (sort_head h1 y k)
          rw [a1] at a2
          cases a2
    subst hxy
    have : es = gs := sort_ext (sort_tail h1) (sort_tail h2) (fun z => by
      have hz := h z
      have n1 : ∀ {l : List En}, SortL (x :: l) → z ∈ l → z ≠ x := fun hs hz he => by
        have := sort_head hs z hz
        rw [he, lessE_irr] at this
        cases this
      constructor
      · intro k
        rcases List.mem_cons.1 (hz.1 (List.mem_cons_of_mem _ k)) with e | e
        · exact absurd e (n1 h1 k)
        · exact e
      · intro k
        rcases List.mem_cons.1 (hz.2 (List.mem_cons_of_mem _ k)) with e | e
        · exact absurd e (n1 h2 k)
        · exact e)
    rw [this]
theorem inL_mrg2 {es gs : List En} (h1 : SortL es) (h2 : SortL gs) (z : En) : inL (mrg2 es gs) z = (inL es z || inL gs z) := by
  cases hb : (inL es z || inL gs z) with
  | true =>
    rw [inL_iff]
    by_cases he : inL es z = true
    · obtain ⟨x, hx, hk⟩ := inL_iff.1 he
      exact ⟨x, (mrg2_mem h1 h2).2 (.inl hx), hk⟩
    · rw [Bool.not_eq_true] at he
      rw [he, Bool.false_or] at hb
      obtain ⟨x, hx, hk⟩ := inL_iff.1 hb
      refine ⟨x, (mrg2_mem h1 h2).2 (.inr ⟨hx, ?_⟩), hk⟩
      rw [inL_not] at he ⊢
      exact fun v hv k => he v hv ⟨k.1.trans hk.1, k.2.trans hk.2⟩
  | false =>
    rw [Bool.or_eq_false_iff] at hb
    rw [inL_not]
    intro v hv
    rcases (mrg2_mem h1 h2).1 hv with h | ⟨h, _⟩
    · exact inL_not.1 hb.1 v h
    · exact inL_not.1 hb.2 v h
theorem mrg2_assoc {a b c : List En} (ha : SortL a) (hb : SortL b) (hc : SortL c) : mrg2 (mrg2 a b) c = mrg2 a (mrg2 b c) := by
  have hab := mrg2_sort ha hb
  have hbc := mrg2_sort hb hc
  refine sort_ext (mrg2_sort hab hc) (mrg2_sort ha hbc) (fun z => ?_)
  rw [mrg2_mem hab hc, mrg2_mem ha hbc, mrg2_mem ha hb, mrg2_mem hb hc, inL_mrg2 ha hb, Bool.or_eq_false_iff]
  constructor
  · rintro ((h | ⟨h, k⟩) | ⟨h, k1, k2⟩)
    · exact .inl h
    · exact .inr ⟨.inl h, k⟩
    · exact .inr ⟨.inr ⟨h, k2⟩, k1⟩
  · rintro (h | ⟨h | ⟨h, k⟩, k2⟩)
    · exact .inl (.inl h)
    · exact .inl (.inr ⟨h, k2⟩)
    · exact .inr ⟨h, k2, k⟩
theorem mrg2_self {a : List En} (h : SortL a) : mrg2 a a = a := by
  refine sort_ext (mrg2_sort h h) h (fun z => ?_)
  rw [mrg2_mem h h]
  constructor
  · rintro (k | ⟨k, _⟩) <;> exact k
  · exact .inl
/-- Entries put in one by one, those that aren't there. -/
def insA (o : List En) : List En → List En
  | [] => o
  | x :: xs => insA (if inL o x then o else insL o x) xs
theorem insL_mem2 {o : List En} {x z : En} (hs : SortL o) (hin : inL o x = false) : z ∈ insL o x ↔ z ∈ o ∨ z = x := by
  obtain ⟨p, q, e, h1, h2⟩ := split_of hs hin
  subst e
  rw [insL_app (fun y hy => lessE_asym (h1 y hy)) h2]
  simp only [List.mem_append, List.mem_cons]
  constructor
  · rintro (h | h | h)
    · exact .inl (.inl h)
    · exact .inr h
    · exact .inl (.inr h)
  · rintro ((h | h) | h)
    · exact .inl h
    · exact .inr (.inr h)
    · exact .inr (.inl h)
theorem insA_mrg2 : ∀ {xs o : List En}, SortL o → SortL xs → insA o xs = mrg2 o xs
  | [], o, _, _ => by rw [mrg2_nil]; rfl
  | x :: xs, o, ho, hx => by
    have tx := sort_tail hx
    rw [insA]
    have hone : SortL [x] := List.pairwise_singleton _ _
    have hstep : (if inL o x then o else insL o x) = mrg2 o [x] := by
      by_cases hi : inL o x = true
      · rw [if_pos hi]
        refine (sort_ext (mrg2_sort ho hone) ho (fun z => ?_)).symm
        rw [mrg2_mem ho hone, List.mem_singleton]
        constructor
        · rintro (h | ⟨h, k⟩)
          · exact h
          · rw [h, hi] at k; cases k
        · exact .inl
      · rw [if_neg hi]
        rw [Bool.not_eq_true] at hi
        refine sort_ext (insL_sort ho hi) (mrg2_sort ho hone) (fun z => ?_)
        rw [insL_mem2 ho hi, mrg2_mem ho hone, List.mem_singleton]
        constructor
        · rintro (h | h)
          · exact .inl h
          · exact .inr ⟨h, by rw [h]; exact hi⟩
        · rintro (h | ⟨h, _⟩)
          · exact .inl h
          · exact .inr h
    have hcat : mrg2 [x] xs = x :: xs := by
      refine sort_ext (mrg2_sort hone tx) hx (fun z => ?_)
      rw [mrg2_mem hone tx, List.mem_singleton, List.mem_cons]
      constructor
      · rintro (h | ⟨h, _⟩)
        · exact .inl h
        · exact .inr h
      · rintro (h | h)
        · exact .inl h
        · refine .inr ⟨h, ?_⟩
          rw [inL_not]
          intro v hv
          rw [List.mem_singleton] at hv
          rw [hv]
          exact less_ne (sort_head hx z h)
    rw [hstep, insA_mrg2 (mrg2_sort ho hone) tx, mrg2_assoc ho hone tx, hcat]
/-- What the reference's Merge makes. -/
def refM (ls : List (List En)) : List En := ls.foldl insA []
/-- What join makes. -/
def joinL : Nat → List (List En) → List En
  | 0, _ => []
  | f + 1, ls => match ls with
    | [] => []
    | [x] => x
    | _ => mrg2 (joinL f (ls.take (ls.length / 2))) (joinL f (ls.drop (ls.length / 2)))
def AllS (ls : List (List En)) : Prop := ∀ l ∈ ls, SortL l
theorem foldl_sort : ∀ {ls : List (List En)} {o : List En}, SortL o → AllS ls → SortL (ls.foldl mrg2 o)
  | [], _, h, _ => h
  | l :: ls, o, h, hs => by
    rw [List.foldl_cons]
    exact foldl_sort (mrg2_sort h (hs l List.mem_cons_self)) (fun x hx => hs x (List.mem_cons_of_mem _ hx))
theorem foldl_ins : ∀ {ls : List (List En)} {o : List En}, SortL o → AllS ls → ls.foldl insA o = ls.foldl mrg2 o
  | [], _, _, _ => rfl
  | l :: ls, o, h, hs => by
    have hl := hs l List.mem_cons_self
    rw [List.foldl_cons, List.foldl_cons, insA_mrg2 h hl]
    exact foldl_ins (mrg2_sort h hl) (fun x hx => hs x (List.mem_cons_of_mem _ hx))
theorem sort_nil : SortL [] := List.Pairwise.nil
theorem foldl_out : ∀ {ls : List (List En)} {o : List En}, SortL o → AllS ls → ls.foldl mrg2 o = mrg2 o (ls.foldl mrg2 [])
  | [], o, _, _ => by simp only [List.foldl_nil]; rw [mrg2_nil]
  | l :: ls, o, h, hs => by
    have hl := hs l List.mem_cons_self
    have ht : AllS ls := fun x hx => hs x (List.mem_cons_of_mem _ hx)
    rw [List.foldl_cons, List.foldl_cons, nil_mrg2, foldl_out (mrg2_sort h hl) ht, foldl_out hl ht, mrg2_assoc h hl (foldl_sort sort_nil ht)]
theorem joinL_eq : ∀ (f : Nat) {ls : List (List En)}, ls.length ≤ f → AllS ls → joinL f ls = ls.foldl mrg2 []
  | 0, ls, h, _ => by
    have : ls = [] := List.eq_nil_of_length_eq_zero (by omega)
    subst this
    rfl
  | f + 1, ls, h, hs => by
    match ls, h, hs with
    | [], _, _ => rfl
    | [x], _, _ => rw [joinL, List.foldl_cons, List.foldl_nil, nil_mrg2]
    | x :: y :: t, h, hs =>
      rw [joinL]
      · generalize hg : x :: y :: t = ls at h hs ⊢
        have h2 : 2 ≤ ls.length := by rw [← hg]; simp
        have s1 : AllS (ls.take (ls.length / 2)) := fun l hl => hs l (List.mem_of_mem_take hl)
        have s2 : AllS (ls.drop (ls.length / 2)) := fun l hl => hs l (List.mem_of_mem_drop hl)
        rw [joinL_eq f (by rw [List.length_take]; omega) s1, joinL_eq f (by rw [List.length_drop]; omega) s2, ← foldl_out (foldl_sort sort_nil s1) s2, ← List.foldl_append, List.take_append_drop]
      · intro h; cases h
      · intro z h; cases h
theorem joinL_ref {ls : List (List En)} (hs : AllS ls) : joinL ls.length ls = refM ls := by
  unfold refM
  rw [joinL_eq _ (Nat.le_refl _) hs, foldl_ins sort_nil hs]
end Go.Proofs.Ytcclhkoggijkaaa
namespace Go.Proofs.Ytcclhkoggijkaaa
open Go Go.RowKit

set_option maxRecDepth 100000 in
set_option maxHeartbeats 4000000 in
theorem few11_any {A : Option Addr} {n c : Nat} {m : Nat} (hc : n ≤ c) (w : World) : Calls Try.prog 81 #[.slice A n c, .int .i64 (m : Int)] w (fun e w' => e = .returned (.slice A (min n m) c) ∧ w' = w) := by
  by_cases h : m < n
  · have hm : min n m = m := by omega
    have hcl : ∀ w, (Instr.slice 22 (.slice A n c) none (some (.int .i64 (m : Int))) none).run Try.prog w = .ok (.slice A m c) w := fun w => cut4_h Try.underlying22 elem4 size4 A (by omega) w
    rw [hm]
    clear hm
    go_enter Try.func81, Try.ntmps81
    go_wp2_with fail
    go_ret
    exact ⟨rfl, rfl⟩
  · have hm : min n m = n := by omega
    rw [hm]
    clear hm
    go_enter Try.func81, Try.ntmps81
    go_wp2_with fail
    go_ret
    exact ⟨rfl, rfl⟩
end Go.Proofs.Ytcclhkoggijkaaa
namespace Go.Proofs.Ytcclhkoggijkaaa
open Go Go.RowKit

/-- One round of the reference's reader: an entry, and the place behind it; none: it can't be read. -/
def rdS (xs key : List UInt8) (a : Int) : Option (En × Int) :=
  if (gN xs a).1 < 0 ∨ (gN xs (gN xs a).2).1 < 0 ∨ (getU xs (gN xs (gN xs a).2).2).2.2 ≠ 0 ∨ (xs.length : Int) ≤ (getU xs (gN xs (gN xs a).2).2).2.1 ∨ (key.length : Int) < (gN xs a).1 then none
  else if (gN xs ((getU xs (gN xs (gN xs a).2).2).2.1 + 1)).1 < 0 ∨ (xs.length : Int) - (gN xs ((getU xs (gN xs (gN xs a).2).2).2.1 + 1)).2 < (gN xs (gN xs a).2).1 ∨ (xs.length : Int) - (gN xs ((getU xs (gN xs (gN xs a).2).2).2.1 + 1)).2 - (gN xs (gN xs a).2).1 < (gN xs ((getU xs (gN xs (gN xs a).2).2).2.1 + 1)).1 then none
  else some (⟨key.take (gN xs a).1.toNat ++ (xs.drop (gN xs ((getU xs (gN xs (gN xs a).2).2).2.1 + 1)).2.toNat).take (gN xs (gN xs a).2).1.toNat, (getU xs (gN xs (gN xs a).2).2).1, (xs[(getU xs (gN xs (gN xs a).2).2).2.1.toNat]?.getD 0).toNat, (xs.drop ((gN xs ((getU xs (gN xs (gN xs a).2).2).2.1 + 1)).2 + (gN xs (gN xs a).2).1).toNat).take (gN xs ((getU xs (gN xs (gN xs a).2).2).2.1 + 1)).1.toNat⟩,
    (gN xs ((getU xs (gN xs (gN xs a).2).2).2.1 + 1)).2 + (gN xs (gN xs a).2).1 + (gN xs ((getU xs (gN xs (gN xs a).2).2).2.1 + 1)).1)
theorem rdS_eq {xs key : List UInt8} {a s r k q v p : Int} {m : Nat} {p1 p2 : Int} (h1 : gN xs a = (s, p1)) (h2 : gN xs p1 = (r, p2)) (h3 : getU xs p2 = (m, k, q)) (h4 : gN xs (k + 1) = (v, p)) :
    rdS xs key a = if s < 0 ∨ r < 0 ∨ q ≠ 0 ∨ (xs.length : Int) ≤ k ∨ (key.length : Int) < s then none
      else if v < 0 ∨ (xs.length : Int) - p < r ∨ (xs.length : Int) - p - r < v then none
      else some (⟨key.take s.toNat ++ (xs.drop p.toNat).take r.toNat, m, (xs[k.toNat]?.getD 0).toNat, (xs.drop (p + r).toNat).take v.toNat⟩, p + r + v) := by
  unfold rdS
  rw [h1, h2, h3, h4]
theorem gN_at {xs pre r : List UInt8} {n a : Nat} (hx : xs = pre ++ (putU n ++ r)) (ha : a = pre.length) (h : n ≤ 1099511627776) : gN xs (a : Int) = ((n : Int), ((a + (putU n).length : Nat) : Int)) := by
  subst hx ha
  unfold gN
  rw [getU_at pre r n (by unfold B64; omega)]
  simp only
  rw [if_pos ⟨trivial, h⟩]
/-- An entry that was written is read back. -/
theorem rd_at {xs pre R key : List UInt8} {x : En} {s a : Nat} (hx : xs = pre ++ (entB s x ++ R)) (ha : a = pre.length) (hs : s ≤ x.key.length) (hk : x.key.length ≤ 1024) (hv : x.val.length ≤ 65536) (hq : U64 x.seq) (hd : x.kind < 256) (hah : key.take s = x.key.take s) :
    rdS xs key (a : Int) = some (x, ((a + (entB s x).length : Nat) : Int)) := by
  have hx0 : xs = pre ++ (putU s ++ (putU (x.key.length - s) ++ (putU x.seq ++ ([bt x.kind] ++ (putU x.val.length ++ (x.key.drop s ++ (x.val ++ R))))))) := by
    rw [hx]
    unfold entB
    simp only [List.append_assoc]
  obtain ⟨b1, hb1⟩ : ∃ b1, b1 = a + (putU s).length := ⟨_, rfl⟩
  obtain ⟨b2, hb2⟩ : ∃ b2, b2 = b1 + (putU (x.key.length - s)).length := ⟨_, rfl⟩
  obtain ⟨b3, hb3⟩ : ∃ b3, b3 = b2 + (putU x.seq).length := ⟨_, rfl⟩
  obtain ⟨b5, hb5⟩ : ∃ b5, b5 = b3 + 1 + (putU x.val.length).length := ⟨_, rfl⟩
  have h1 : gN xs (a : Int) = ((s : Int), (b1 : Int)) := by
    rw [hb1]
    exact gN_at hx0 ha (by omega)
  have h2 : gN xs (b1 : Int) = (((x.key.length - s : Nat) : Int), (b2 : Int)) := by
    rw [hb2]
    exact gN_at (pre := pre ++ putU s) (r := putU x.seq ++ ([bt x.kind] ++ (putU x.val.length ++ (x.key.drop s ++ (x.val ++ R))))) (by rw [hx0]; simp only [List.append_assoc]) (by rw [hb1]; simp only [List.length_append, ha]) (by omega)
  have h3 : getU xs (b2 : Int) = (x.seq, (b3 : Int), 0) := by
    have e : xs = (pre ++ putU s ++ putU (x.key.length - s)) ++ (putU x.seq ++ ([bt x.kind] ++ (putU x.val.length ++ (x.key.drop s ++ (x.val ++ R))))) := by rw [hx0]; simp only [List.append_assoc]
    have hl : b2 = (pre ++ putU s ++ putU (x.key.length - s)).length := by rw [hb2, hb1]; simp only [List.length_append, ha]
    rw [hb3, hl, e]
    exact getU_at _ _ x.seq hq
  have h4 : gN xs ((b3 : Int) + 1) = (((x.val.length : Nat) : Int), (b5 : Int)) := by
    have e : ((b3 : Int) + 1) = ((b3 + 1 : Nat) : Int) := by omega
    rw [e, hb5]
    exact gN_at (pre := pre ++ putU s ++ putU (x.key.length - s) ++ putU x.seq ++ [bt x.kind]) (r := x.key.drop s ++ (x.val ++ R)) (by rw [hx0]; simp only [List.append_assoc]) (by rw [hb3, hb2, hb1]; simp only [List.length_append, List.length_cons, List.length_nil, ha]) (by omega)
  have hkl : s ≤ key.length := by
    have := congrArg List.length hah
    simp only [List.length_take] at this
    omega
  have hxl : xs.length = b5 + (x.key.length - s) + x.val.length + R.length := by
    rw [hx0, hb5, hb3, hb2, hb1, ha]
    simp only [List.length_append, List.length_cons, List.length_nil, List.length_drop]
    omega
  have e5 : xs = (pre ++ putU s ++ putU (x.key.length - s) ++ putU x.seq ++ [bt x.kind] ++ putU x.val.length) ++ (x.key.drop s ++ (x.val ++ R)) := by rw [hx0]; simp only [List.append_assoc]
  have l5 : (pre ++ putU s ++ putU (x.key.length - s) ++ putU x.seq ++ [bt x.kind] ++ putU x.val.length).length = b5 := by
    rw [hb5, hb3, hb2, hb1, ha]
    simp only [List.length_append, List.length_cons, List.length_nil]
  have d5 : xs.drop b5 = x.key.drop s ++ (x.val ++ R) := by rw [e5, ← l5, List.drop_left' rfl]
  have d6 : xs.drop (b5 + (x.key.length - s)) = x.val ++ R := by
    rw [← List.drop_drop, d5]
    exact List.drop_left' (by simp)
  have d3 : xs[b3]? = some (bt x.kind) := by
    have e3 : xs = (pre ++ putU s ++ putU (x.key.length - s) ++ putU x.seq) ++ (bt x.kind :: (putU x.val.length ++ (x.key.drop s ++ (x.val ++ R)))) := by rw [hx0]; simp
    have l3 : b3 = (pre ++ putU s ++ putU (x.key.length - s) ++ putU x.seq).length := by rw [hb3, hb2, hb1, ha]; simp only [List.length_append]
    rw [e3, l3, List.getElem?_append_right (Nat.le_refl _), Nat.sub_self]
    rfl
  rw [rdS_eq h1 h2 h3 h4, if_neg (by omega), if_neg (by omega)]
  have n1 : ((b5 : Int) + ((x.key.length - s : Nat) : Int)).toNat = b5 + (x.key.length - s) := by omega
  rw [n1]
  simp only [Int.toNat_natCast]
  rw [d5, d6, d3, hah]
  have t1 : (x.key.drop s ++ (x.val ++ R)).take (x.key.length - s) = x.key.drop s := List.take_left' (by simp)
  have t2 : (x.val ++ R).take x.val.length = x.val := List.take_left' rfl
  rw [t1, t2, List.take_append_drop]
  have t3 : ((some (bt x.kind)).getD 0).toNat = x.kind := bt_nat _ hd
  rw [t3]
  have t4 : a + (entB s x).length = b5 + (x.key.length - s) + x.val.length := by
    rw [hb5, hb3, hb2, hb1]
    unfold entB
    simp only [List.length_append, List.length_cons, List.length_nil, List.length_drop]
    omega
  rw [t4]
  simp only [Option.some.injEq, Prod.mk.injEq]
  exact ⟨trivial, by omega⟩
/-- The reference's reader from a place on: the entries and their places. -/
def rdL (xs : List UInt8) : Nat → Int → List UInt8 → List En → List Int → Option (List En × List Int)
  | 0, _, _, _, _ => none
  | f + 1, a, key, es, ps => if (xs.length : Int) ≤ a then some (es, ps) else
      match rdS xs key a with
      | none => none
      | some (x, b) => rdL xs f b x.key (es ++ [x]) (ps ++ [a])
/-- The places of the first i entries. -/
def plB (ev : Nat) (es : List En) (i : Nat) : List Int := (List.range i).map (fun j => ((outB ev es j).length : Int))
theorem plB_step (ev : Nat) (es : List En) (i : Nat) : plB ev es i ++ [((outB ev es i).length : Int)] = plB ev es (i + 1) := by
  unfold plB
  rw [List.range_succ, List.map_append]
  rfl
/-- Reading on from the i-th entry. -/
theorem rd_from {ev : Nat} {es : List En} (hz : ∀ x ∈ es, x.key.length ≤ 1024 ∧ x.val.length ≤ 65536) (hw : ∀ x ∈ es, U64 x.seq ∧ x.kind < 256) : ∀ (k i f : Nat), i + k = es.length → k < f → rdL (outB ev es es.length) f ((outB ev es i).length : Int) (lastK (es.take i)) (es.take i) (plB ev es i) = some (es, plB ev es es.length)
  | 0, i, f, hi, hf => by
    obtain ⟨f', rfl⟩ : ∃ f', f = f' + 1 := ⟨f - 1, by omega⟩
    obtain rfl : i = es.length := by omega
    rw [rdL, if_pos (Int.le_refl _), List.take_length]
  | k + 1, i, f, hi, hf => by
    obtain ⟨f', rfl⟩ : ∃ f', f = f' + 1 := ⟨f - 1, by omega⟩
    have hlt : i < es.length := by omega
    obtain ⟨x, hx⟩ : ∃ x, es[i]? = some x := ⟨_, List.getElem?_eq_getElem hlt⟩
    have hm := List.mem_of_getElem? hx
    obtain ⟨R, hR⟩ := outB_pre ev es (i + 1) es.length hlt
    rw [outB_step hx, List.append_assoc] at hR
    have hpos := entB_pos (shB ev es i) x
    have q1 := rd_at (key := lastK (es.take i)) hR rfl (shB_le hx) (hz x hm).1 (hz x hm).2 (hw x hm).1 (hw x hm).2 (sh_take hx)
    have hlen : (outB ev es i).length < (outB ev es es.length).length := by
      rw [hR]
      simp only [List.length_append]
      omega
    have hnx : (outB ev es i).length + (entB (shB ev es i) x).length = (outB ev es (i + 1)).length := by rw [outB_step hx, List.length_append]
    have htk : es.take i ++ [x] = es.take (i + 1) := by rw [List.take_add_one, hx]; rfl
    have hlk : x.key = lastK (es.take (i + 1)) := (lastK_take hx).symm
    rw [rdL, if_neg (by omega), q1]
    simp only
    rw [hnx, htk, hlk, plB_step]
    exact rd_from hz hw k (i + 1) f' (by omega) (by omega)
end Go.Proofs.Ytcclhkoggijkaaa
namespace Go.Proofs.Ytcclhkoggijkaaa
open Go Go.RowKit Go.Maps

def keepN (ks : List Int) (k t : Nat) : Nat := match ks[k % ks.length]? with | none => 0 | some z => z.toNat % (t + 1)
theorem keepN_le (ks : List Int) (k t : Nat) : keepN ks k t ≤ t := by
  unfold keepN
  split
  · omega
  · have := Nat.mod_lt (Int.toNat ‹Int›) (show 0 < t + 1 by omega); omega
theorem keepN_nil (k t : Nat) : keepN [] k t = 0 := by simp [keepN]
theorem keepN_at {ks : List Int} {k t : Nat} {z : Int} (h : ks[k % ks.length]? = some z) : keepN ks k t = z.toNat % (t + 1) := by rw [keepN, h]
def cutE (ks : List Int) (k : Nat) (f : FE) : FE :=
  (f.1, f.2.1.take (f.2.2 + keepN ks k (f.2.1.length - f.2.2)), f.2.2 + keepN ks k (f.2.1.length - f.2.2))
def crStep (ks : List Int) (acc : List FE × Nat) (f : FE) : List FE × Nat :=
  if f.2.1.length = f.2.2 then (acc.1 ++ [f], acc.2) else (acc.1 ++ [cutE ks acc.2 f], acc.2 + 1)
def crP (ks : List Int) (l : List FE) : List FE × Nat := l.foldl (crStep ks) ([], 0)
theorem crP_snoc (ks : List Int) (l : List FE) (f : FE) : crP ks (l ++ [f]) = crStep ks (crP ks l) f := by rw [crP, List.foldl_append]; rfl
theorem crP_take {ks : List Int} {l : List FE} {i : Nat} {f : FE} (h : l[i]? = some f) : crP ks (l.take (i + 1)) = crStep ks (crP ks (l.take i)) f := by
  rw [List.take_add_one, h]
  exact crP_snoc ks _ f
theorem crP_zero (ks : List Int) : crP ks [] = ([], 0) := rfl
theorem crStep_ok (ks : List Int) (acc : List FE × Nat) (f : FE) : (crStep ks acc f).2 ≤ acc.2 + 1 ∧ (crStep ks acc f).1.map (·.1) = acc.1.map (·.1) ++ [f.1] := by
  unfold crStep
  split
  · exact ⟨by simp only; omega, by rw [List.map_append]; rfl⟩
  · exact ⟨Nat.le_refl _, by rw [List.map_append]; rfl⟩
theorem crP_fold (ks : List Int) : ∀ (l : List FE) (acc : List FE × Nat), (l.foldl (crStep ks) acc).2 ≤ acc.2 + l.length ∧ (l.foldl (crStep ks) acc).1.map (·.1) = acc.1.map (·.1) ++ l.map (·.1)
  | [], acc => ⟨Nat.le_refl _, by simp⟩
  | f :: t, acc => by
    have h1 := crStep_ok ks acc f
    have h2 := crP_fold ks t (crStep ks acc f)
    rw [List.foldl_cons, List.length_cons]
    exact ⟨by omega, by rw [h2.2, h1.2, List.append_assoc]; rfl⟩
theorem crP_cnt (ks : List Int) (l : List FE) : (crP ks l).2 ≤ l.length := by
  have := (crP_fold ks l ([], 0)).1
  simpa [crP] using this
theorem crP_names (ks : List Int) (l : List FE) : (crP ks l).1.map (·.1) = l.map (·.1) := by
  have := (crP_fold ks l ([], 0)).2
  simpa [crP] using this
theorem usedF_app (a b : List FE) : usedF (a ++ b) = usedF a + usedF b := by simp [usedF]
theorem usedF_cons (f : FE) (t : List FE) : usedF (f :: t) = f.2.1.length + usedF t := by simp [usedF]
theorem usedF_nil : usedF [] = 0 := rfl
theorem usedF_mem {f : FE} : ∀ {l : List FE}, f ∈ l → f.2.1.length ≤ usedF l
  | [], h => by cases h
  | a :: t, h => by
    rw [usedF_cons]
    rcases List.mem_cons.1 h with rfl | h
    · omega
    · have := usedF_mem h; omega
theorem risingF_names {a b : List FE} (h : a.map (·.1) = b.map (·.1)) (hb : risingF b) : risingF a := by
  have h1 : (b.map (·.1)).Pairwise fun x y => x < y := by rw [List.pairwise_map]; exact hb
  rw [← h, List.pairwise_map] at h1
  exact h1
/-- A file put in where one of that name stands. -/
theorem putF_mid {f g : FE} (e : g.1 = f.1) : ∀ {L R : List FE}, risingF (L ++ f :: R) → putF g (L ++ f :: R) = L ++ g :: R
  | [], R, _ => by simp only [List.nil_append, putF]; rw [if_pos e.symm]
  | a :: L, R, h => by
    unfold risingF at h
    rw [List.cons_append, List.pairwise_cons] at h
    have h1 := h.1 f (by simp)
    simp only [List.cons_append, putF]
    rw [if_neg (by rw [e]; exact nlt_ne h1), if_neg (fun h2 => nlt_irrefl _ (nlt_trans h1 (by rw [← e]; exact h2))), putF_mid e h.2]
end Go.Proofs.Ytcclhkoggijkaaa
namespace Go.Proofs.Ytcclhkoggijkaaa
open Go Go.RowKit

theorem REs.tail {w : World} {A : Option Addr} {n c : Nat} {x : En} {es : List En} (h : REs w A (n + 1) (x :: es)) (hc : n + 1 ≤ c) : REs w (cutA4 A 1 c) n es := by
  obtain ⟨hl, vs, hv, hd⟩ := h
  have h1 := hv.drop 1
  have h2 := rdv_cut4 (k := 1) (m := n + 1) (cap := c) hd (by omega) (Nat.le_refl _) hc
  rw [List.take_of_length_le (by rw [hd.1]; omega), Nat.add_sub_cancel] at h2
  exact ⟨by simpa using hl, _, by simpa using h1, by simpa using h2⟩
/-- Entries that can be read, and what was there stands. -/
def RetEs (w : World) (es : List En) (e : Ending) (w' : World) : Prop := ∃ L k d, e = .returned (.slice L k d) ∧ REs w' L k es ∧ k ≤ d ∧ Below w.heap.size w w'
/-- 'So far joined.' -/
def PkM (w : World) (es : List En) (L : Option Addr) (k d : Nat) (wr : World) : Prop :=
  ∃ vs, OwnE wr w.heap.size L k d vs ∧ EVs w es vs ∧ es.length = k ∧ Below w.heap.size w wr
theorem PkM.below {w wr w' : World} {es : List En} {L : Option Addr} {k d : Nat} (h : PkM w es L k d wr) (hb : Below wr.heap.size wr w') : PkM w es L k d w' := by
  obtain ⟨vs, h1, h2, h3, h4⟩ := h
  exact ⟨vs, h1.below hb, h2, h3, belowT' h4 hb⟩
theorem PkM.bel {w wr : World} {es : List En} {L : Option Addr} {k d : Nat} (h : PkM w es L k d wr) : Below w.heap.size w wr := by
  obtain ⟨vs, h1, h2, h3, h4⟩ := h
  exact h4
theorem PkM.len {w wr : World} {es : List En} {L : Option Addr} {k d : Nat} (h : PkM w es L k d wr) : es.length = k := by
  obtain ⟨vs, h1, h2, h3, h4⟩ := h
  exact h3
def lenJ : Value → Nat
  | .slice _ n _ => n
  | _ => 0
set_option maxRecDepth 100000 in
set_option maxHeartbeats 16000000 in
theorem joinTwo_any {w : World} {A B : Option Addr} {n c m d : Nat} {es gs : List En} (h : REs w A n es) (hc : n ≤ c) (hg : REs w B m gs) (hd : m ≤ d) (hnm : n + m ≤ 2097152) :
    Calls Try.prog 171 #[.slice A n c, .slice B m d] w (RetEs w (mrg2 es gs)) := by
  obtain ⟨i, hi, hz, hsz, hby⟩ := info_parts info_ent
  obtain ⟨s, hs⟩ : ∃ s, s = n + m := ⟨_, rfl⟩
  have ew : IntKind.i64.wrap ((n : Int) + (m : Int)) = (s : Int) := by rw [IntWalk.i64_in _ (by omega)]; omega
  have ew' : ((n : Int) + (m : Int)) = (s : Int) := by omega
  have eww : IntKind.i64.wrap (s : Int) = (s : Int) := IntWalk.i64_in _ (by omega)
  obtain ⟨wm, hm1, hm2, hm3⟩ := run_make_own (P := Try.prog) (w := w) w.heap.size 22 37 i _ 4 Try.underlying22 hi hz hsz .i64 .i64 s (by rw [hby]; omega) (by unfold maxLen; omega) (Nat.le_refl _)
  have hbm : Below w.heap.size w wm := (Below.refl _ _).grown hm3 (Nat.le_refl _) (fun k hk => by cases hk)
  have HZ : Hid (PkM w [] (some ⟨w.heap.size, 0, none⟩) 0 s wm) := Lib.hid ⟨[], hm2, rfl, rfl, hbm⟩
  have HA := Lib.hid h
  have HG := Lib.hid hg
  have HS := Lib.hid hs
  clear h hg hm2 hm3 hbm hi hz hsz hby hs
  go_enter Try.func171, Try.ntmps171
  go_wp2_with fail
  go_loopw [0, 1, 5] (fun s0 s1 s5 wr => ∃ (A1 B1 O : Option Addr) (n1 c1 m1 d1 k e : Nat) (es1 gs1 out : List En), s0 = .slice A1 n1 c1 ∧ s1 = .slice B1 m1 d1 ∧ s5 = .slice O k e ∧ REs w A1 n1 es1 ∧ n1 ≤ c1 ∧ REs w B1 m1 gs1 ∧ m1 ≤ d1 ∧ PkM w out O k e wr ∧ out ++ mrg2 es1 gs1 = mrg2 es gs ∧ k + n1 + m1 ≤ 2097152) (fun s0 s1 _ _ => lenJ s0 + lenJ s1)
  case atStart => exact ⟨A, B, _, n, c, m, d, 0, s, es, gs, [], rfl, rfl, rfl, HA.out, hc, HG.out, hd, HZ.out, rfl, by omega⟩
  case round =>
    obtain ⟨A1, B1, O, n1, c1, m1, d1, k, e, es1, gs1, out, rfl, rfl, rfl, hr1, hc1, hr2, hd1, hP, hout, hsum⟩ := hrel
    have HR1 := Lib.hid hr1
    have HR2 := Lib.hid hr2
    have HP := Lib.hid hP
    have HB := Lib.hid hP.bel
    have HO := Lib.hid hout
    have HL1 := Lib.hid hr1.len
    have HL2 := Lib.hid hr2.len
    clear hr1 hr2 hP hout
    by_cases h1 : 0 < n1
    · by_cases h2 : 0 < m1
      · -- both have one
        obtain ⟨ba, oa, hAa, hba⟩ := HR1.out.pos h1
        subst hAa
        obtain ⟨bb, ob, hBb, hbb⟩ := HR2.out.pos h2
        subst hBb
        obtain ⟨x, v0, v1, v2, v3, hx, c0, c1', c2, c3, hev⟩ := HR1.out.at_ 0 h1
        obtain ⟨y, u0, u1, u2, u3, hy, q0, q1, q2, q3, hew⟩ := HR2.out.at_ 0 h2
        obtain ⟨K, kn, kc, V, vn, vc, rfl, rfl, rfl, rfl, _⟩ := hev.parts
        obtain ⟨P, pn, pc, Q, qn, qc, rfl, rfl, rfl, rfl, _⟩ := hew.parts
        obtain ⟨es2, rfl⟩ : ∃ es2, es1 = x :: es2 := by
          cases es1 with
          | nil => cases hx
          | cons a t => injection hx with hx; exact ⟨t, by rw [hx]⟩
        obtain ⟨gs2, rfl⟩ : ∃ gs2, gs1 = y :: gs2 := by
          cases gs1 with
          | nil => cases hy
          | cons a t => injection hy with hy; exact ⟨t, by rw [hy]⟩
        obtain ⟨n2, rfl⟩ : ∃ n2, n1 = n2 + 1 := ⟨n1 - 1, by omega⟩
        obtain ⟨m2, rfl⟩ : ∃ m2, m1 = m2 + 1 := ⟨m1 - 1, by omega⟩
        have HT1 := Lib.hid (HR1.out.tail hc1)
        have HT2 := Lib.hid (HR2.out.tail hd1)
        have hsA : ∀ W : World, (Instr.slice 22 (.slice (some ⟨ba, oa, none⟩) (n2 + 1) c1) (some (.int .i64 1)) none none).run Try.prog W = .ok (.slice (cutA4 (some ⟨ba, oa, none⟩) 1 c1) n2 (c1 - 1)) W := fun W => by
          have := cut4_l (P := Try.prog) Try.underlying22 elem4 size4 (some ⟨ba, oa, none⟩) (n := n2 + 1) (cap := c1) (k := 1) (by omega) W
          rw [Nat.add_sub_cancel] at this
          exact this
        have hsB : ∀ W : World, (Instr.slice 22 (.slice (some ⟨bb, ob, none⟩) (m2 + 1) d1) (some (.int .i64 1)) none none).run Try.prog W = .ok (.slice (cutA4 (some ⟨bb, ob, none⟩) 1 d1) m2 (d1 - 1)) W := fun W => by
          have := cut4_l (P := Try.prog) Try.underlying22 elem4 size4 (some ⟨bb, ob, none⟩) (n := m2 + 1) (cap := d1) (k := 1) (by omega) W
          rw [Nat.add_sub_cancel] at this
          exact this
        obtain ⟨A2, hA2⟩ : ∃ A2, A2 = cutA4 (some ⟨ba, oa, none⟩) 1 c1 := ⟨_, rfl⟩
        obtain ⟨B2, hB2⟩ : ∃ B2, B2 = cutA4 (some ⟨bb, ob, none⟩) 1 d1 := ⟨_, rfl⟩
        rw [← hA2] at HT1 hsA
        rw [← hB2] at HT2 hsB
        have HEV := Lib.hid hev
        have HEW := Lib.hid hew
        have HCX : Hid (∀ wx, Below w.heap.size w wx → wx.cell? ⟨ba, oa, none⟩ = some (.slice K kn kc) ∧ wx.cell? ⟨ba, oa + 1, none⟩ = some (.int .u64 (x.seq : Int)) ∧ wx.cell? ⟨ba, oa + 2, none⟩ = some (.int .u8 (x.kind : Int)) ∧ wx.cell? ⟨ba, oa + 3, none⟩ = some (.slice V vn vc) ∧ wx.cell? ⟨bb, ob, none⟩ = some (.slice P pn pc) ∧ wx.cell? ⟨bb, ob + 1, none⟩ = some (.int .u64 (y.seq : Int)) ∧ wx.cell? ⟨bb, ob + 2, none⟩ = some (.int .u8 (y.kind : Int)) ∧ wx.cell? ⟨bb, ob + 3, none⟩ = some (.slice Q qn qc)) := Lib.hid (fun wx hb => by
          simp only [Nat.zero_mul, Nat.add_zero] at c0 c1' c2 c3 q0 q1 q2 q3
          exact ⟨(hb.cell (p := ⟨ba, oa, none⟩) hba).trans c0, (hb.cell (p := ⟨ba, oa + 1, none⟩) hba).trans c1', (hb.cell (p := ⟨ba, oa + 2, none⟩) hba).trans c2, (hb.cell (p := ⟨ba, oa + 3, none⟩) hba).trans c3, (hb.cell (p := ⟨bb, ob, none⟩) hbb).trans q0, (hb.cell (p := ⟨bb, ob + 1, none⟩) hbb).trans q1, (hb.cell (p := ⟨bb, ob + 2, none⟩) hbb).trans q2, (hb.cell (p := ⟨bb, ob + 3, none⟩) hbb).trans q3⟩)
        obtain ⟨z1, hz1⟩ : ∃ z1, z1 = lessE y x := ⟨_, rfl⟩
        obtain ⟨z2, hz2⟩ : ∃ z2, z2 = lessE x y := ⟨_, rfl⟩
        have HLB : Hid (∀ wx, Below w.heap.size w wx → Calls Try.prog 80 #[.agg #[.slice P pn pc, .int .u64 (y.seq : Int), .int .u8 (y.kind : Int), .slice Q qn qc], .agg #[.slice K kn kc, .int .u64 (x.seq : Int), .int .u8 (x.kind : Int), .slice V vn vc]] wx (RetT wx z1)) := Lib.hid (fun wx hb => by rw [hz1]; exact memLess_any (hew.below hb) (hev.below hb))
        have HLA : Hid (∀ wx, Below w.heap.size w wx → Calls Try.prog 80 #[.agg #[.slice K kn kc, .int .u64 (x.seq : Int), .int .u8 (x.kind : Int), .slice V vn vc], .agg #[.slice P pn pc, .int .u64 (y.seq : Int), .int .u8 (y.kind : Int), .slice Q qn qc]] wx (RetT wx z2)) := Lib.hid (fun wx hb => by rw [hz2]; exact memLess_any (hev.below hb) (hew.below hb))
        have HO2 : Hid (out ++ (if z1 then y :: mrg2 (x :: es2) gs2 else if z2 then x :: mrg2 es2 (y :: gs2) else x :: mrg2 es2 gs2) = mrg2 es gs) := Lib.hid (by rw [hz1, hz2, ← mrg2_cons]; exact HO.out)
        clear hx hy hev hew c0 c1' c2 c3 q0 q1 q2 q3 hz1 hz2 hA2 hB2
        have hBw : Below w.heap.size w wr := HB.out
        have hB0 : Below w.heap.size w wr.drew := hBw.drew
        have hBd : Below wr.heap.size wr wr.drew := (Below.refl _ _).drew
        obtain ⟨f0, f1, f2, f3, f4, f5, f6, f7⟩ := HCX.out wr HB.out
        go_upto_region 3 with (fail)
        go_cut [26] from 20 to 26 (fun st wx => st = .bool z1 ∧ Below wr.heap.size wr wx)
        case first =>
          go_region_held3 (fun wx => wx.cell? ⟨ba, oa, none⟩ = some (.slice K kn kc) ∧ wx.cell? ⟨ba, oa + 1, none⟩ = some (.int .u64 (x.seq : Int)) ∧ wx.cell? ⟨ba, oa + 2, none⟩ = some (.int .u8 (x.kind : Int)) ∧ wx.cell? ⟨ba, oa + 3, none⟩ = some (.slice V vn vc) ∧ wx.cell? ⟨bb, ob, none⟩ = some (.slice P pn pc) ∧ wx.cell? ⟨bb, ob + 1, none⟩ = some (.int .u64 (y.seq : Int)) ∧ wx.cell? ⟨bb, ob + 2, none⟩ = some (.int .u8 (y.kind : Int)) ∧ wx.cell? ⟨bb, ob + 3, none⟩ = some (.slice Q qn qc)) (first | assumption | exact HCX.out _ hB0)
            (first | (go_at_call 80; with_reducible refine (HLB.out _ (by assumption)).mono ?_; intro e1 wn hq; obtain ⟨h1', bn⟩ := RetT.outD hq; subst h1'; have bq := belowT' (by assumption : Below wr.heap.size wr _) bn; have hS1 := HCX.out _ (Below.trans (by assumption : Below w.heap.size w wr) (bq.mono (Below.size (by assumption : Below w.heap.size w wr))))))
          all_goals
            have HBQ := Lib.hid (by assumption : Below wr.heap.size wr wn)
            clear f0 f1 f2 f3 f4 f5 f6 f7
            go_wp2_with fail
            go_meet
            case rel => exact ⟨rfl, HBQ.out⟩
        case rest =>
          obtain ⟨rfl, bq⟩ := hcut
          obtain ⟨wk, hwk⟩ : ∃ wk, wk = wc := ⟨_, rfl⟩
          rw [← hwk] at bq ⊢
          clear hwk
          have HBK := Lib.hid (HB.out.trans (bq.mono HB.out.size))
          have HPK := Lib.hid (HP.out.below bq)
          clear bq hBw hB0 hBd f0 f1 f2 f3 f4 f5 f6 f7
          cases z1 with
          | true =>
            have HO3 : Hid ((out ++ [y]) ++ mrg2 (x :: es2) gs2 = mrg2 es gs) := Lib.hid (by rw [List.append_assoc]; exact HO2.out)
            have HPW := Lib.hid HPK.out
            obtain ⟨vs, o1, hev1, hlen1, hb1⟩ := HPW.out
            have O1 := Lib.hid o1
            have HE1 := Lib.hid hev1
            have HL3 := Lib.hid hlen1
            have HB3 := Lib.hid hb1
            have hBe : Below wk.heap.size wk wk.drew := (Below.refl _ _).drew
            have HBe := Lib.hid hBe
            obtain ⟨f0, f1, f2, f3, f4, f5, f6, f7⟩ := HCX.out wk hb1
            clear o1 hev1 hlen1 hb1 hBe
            go_upto_region 4 with (fail)
            go_cut [1, 5] from 27 to 34 (fun sl s5 wx => ∃ O2 e2, sl = .slice B2 m2 (d1 - 1) ∧ s5 = .slice O2 (k + 1) e2 ∧ PkM w (out ++ [y]) O2 (k + 1) e2 wx)
            case first =>
              go_region_law (first | (refine step_app4 _ rfl _ _ 22 rfl w.heap.size _ 64 Try.underlying22 info_ent rfl O k e vs (by first | (simp [Act.eval]; done) | (simp [Act.eval, Act.put]; done) | rfl) (O1.out.below (HBe.out.alloc HBe.out.size _)) ⟨wk.drew.heap.size, 0, none⟩ 1 1 [.slice P pn pc, .int .u64 (y.seq : Int), .int .u8 (y.kind : Int), .slice Q qn qc] (by first | (simp [Act.eval]; done) | (simp [Act.eval, Act.put]; done) | rfl) (rdv_of_cl (Cl.new wk.drew #[.slice P pn pc, .int .u64 (y.seq : Int), .int .u8 (y.kind : Int), .slice Q qn qc] 37)) (by omega) HEW.out.cells (by unfold maxLen; omega) (by omega) (HB3.out.trans ((HBe.out.alloc HBe.out.size _).mono HB3.out.size)).size ?_; intro L2 d2 w6 hL hg))
              all_goals
                have HQ : Hid (PkM w (out ++ [y]) L2 (k + 1) d2 w6) := Lib.hid ⟨_, hL, HE1.out.app (EVs.one HEW.out), by rw [List.length_append, HL3.out]; rfl, (HB3.out.trans ((HBe.out.alloc HBe.out.size _).mono HB3.out.size)).grown hg (HB3.out.trans ((HBe.out.alloc HBe.out.size _).mono HB3.out.size)).size (fun g hgg => (OwnE.lt O1.out g hgg).1)⟩
                clear hL hg f0 f1 f2 f3 f4 f5 f6 f7
                go_wp2_with fail
                go_meet
                case rel => exact ⟨L2, d2, rfl, rfl, HQ.out⟩
            case rest =>
              obtain ⟨O2, e2, rfl, rfl, hP2⟩ := hcut
              have HP2 := Lib.hid hP2
              clear hP2
              go_wp2_with fail
              go_roundw
              case rel => exact ⟨some ⟨ba, oa, none⟩, B2, O2, n2 + 1, c1, m2, d1 - 1, k + 1, e2, x :: es2, gs2, out ++ [y], rfl, rfl, rfl, HR1.out, hc1, HT2.out, by omega, HP2.out, HO3.out, by omega⟩
              case measure => first | (simp [lenJ]; done) | (simp [lenJ]; omega)
          | false =>
            have hBw : Below w.heap.size w wk := HBK.out
            have hB0 : Below w.heap.size w wk.drew := hBw.drew
            have hBd : Below wk.heap.size wk wk.drew := (Below.refl _ _).drew
            obtain ⟨f0, f1, f2, f3, f4, f5, f6, f7⟩ := HCX.out wk HBK.out
            go_upto_region 5 with (fail)
            go_cut [42] from 35 to 42 (fun st wx => st = .bool (!z2) ∧ Below wk.heap.size wk wx)
            case first =>
              go_region_held3 (fun wx => wx.cell? ⟨ba, oa, none⟩ = some (.slice K kn kc) ∧ wx.cell? ⟨ba, oa + 1, none⟩ = some (.int .u64 (x.seq : Int)) ∧ wx.cell? ⟨ba, oa + 2, none⟩ = some (.int .u8 (x.kind : Int)) ∧ wx.cell? ⟨ba, oa + 3, none⟩ = some (.slice V vn vc) ∧ wx.cell? ⟨bb, ob, none⟩ = some (.slice P pn pc) ∧ wx.cell? ⟨bb, ob + 1, none⟩ = some (.int .u64 (y.seq : Int)) ∧ wx.cell? ⟨bb, ob + 2, none⟩ = some (.int .u8 (y.kind : Int)) ∧ wx.cell? ⟨bb, ob + 3, none⟩ = some (.slice Q qn qc)) (first | assumption | exact HCX.out _ hB0)
                (first | (go_at_call 80; with_reducible refine (HLA.out _ (by assumption)).mono ?_; intro e1 wn hq; obtain ⟨h1', bn⟩ := RetT.outD hq; subst h1'; have bq := belowT' (by assumption : Below wk.heap.size wk _) bn; have hS1 := HCX.out _ (Below.trans (by assumption : Below w.heap.size w wk) (bq.mono (Below.size (by assumption : Below w.heap.size w wk))))))
              all_goals
                have HBQ := Lib.hid (by assumption : Below wk.heap.size wk wn)
                clear f0 f1 f2 f3 f4 f5 f6 f7
                go_wp2_with fail
                go_meet
                case rel => exact ⟨by first | rfl | (cases z2 <;> rfl), HBQ.out⟩
            case rest =>
              obtain ⟨rfl, bq⟩ := hcut
              obtain ⟨wj, hwj⟩ : ∃ wj, wj = wc := ⟨_, rfl⟩
              rw [← hwj] at bq ⊢
              clear hwj
              have HPW := Lib.hid (HPK.out.below bq)
              clear bq hBw hB0 hBd f0 f1 f2 f3 f4 f5 f6 f7
              cases z2 with
              | true =>
                have HO3 : Hid ((out ++ [x]) ++ mrg2 es2 (y :: gs2) = mrg2 es gs) := Lib.hid (by rw [List.append_assoc]; exact HO2.out)
                obtain ⟨vs, o1, hev1, hlen1, hb1⟩ := HPW.out
                have O1 := Lib.hid o1
                have HE1 := Lib.hid hev1
                have HL3 := Lib.hid hlen1
                have HB3 := Lib.hid hb1
                have hBe : Below wj.heap.size wj wj.drew := (Below.refl _ _).drew
                have HBe := Lib.hid hBe
                obtain ⟨f0, f1, f2, f3, f4, f5, f6, f7⟩ := HCX.out wj hb1
                clear o1 hev1 hlen1 hb1 hBe
                go_upto_region 7 with (fail)
                go_region_law (first | (refine step_app4 _ rfl _ _ 22 rfl w.heap.size _ 64 Try.underlying22 info_ent rfl O k e vs (by first | (simp [Act.eval]; done) | (simp [Act.eval, Act.put]; done) | rfl) (O1.out.below (HBe.out.alloc HBe.out.size _)) ⟨wj.drew.heap.size, 0, none⟩ 1 1 [.slice K kn kc, .int .u64 (x.seq : Int), .int .u8 (x.kind : Int), .slice V vn vc] (by first | (simp [Act.eval]; done) | (simp [Act.eval, Act.put]; done) | rfl) (rdv_of_cl (Cl.new wj.drew #[.slice K kn kc, .int .u64 (x.seq : Int), .int .u8 (x.kind : Int), .slice V vn vc] 37)) (by omega) HEV.out.cells (by unfold maxLen; omega) (by omega) (HB3.out.trans ((HBe.out.alloc HBe.out.size _).mono HB3.out.size)).size ?_; intro L2 d2 w6 hL hg))
                all_goals
                  have HQ : Hid (PkM w (out ++ [x]) L2 (k + 1) d2 w6) := Lib.hid ⟨_, hL, HE1.out.app (EVs.one HEV.out), by rw [List.length_append, HL3.out]; rfl, (HB3.out.trans ((HBe.out.alloc HBe.out.size _).mono HB3.out.size)).grown hg (HB3.out.trans ((HBe.out.alloc HBe.out.size _).mono HB3.out.size)).size (fun g hgg => (OwnE.lt O1.out g hgg).1)⟩
                  clear hL hg f0 f1 f2 f3 f4 f5 f6 f7
                  go_wp2_with fail
                  exact ⟨⟨_, _, _, ⟨A2, some ⟨bb, ob, none⟩, L2, n2, c1 - 1, rfl, m2 + 1, d1, rfl, k + 1, d2, rfl, es2, HT1.out, by omega, y :: gs2, HR2.out, hd1, out ++ [x], HQ.out, HO3.out, by omega⟩, rfl, rfl, rfl⟩, by first | (simp [lenJ]; done) | (simp [lenJ]; omega)⟩
              | false =>
                have HO3 : Hid ((out ++ [x]) ++ mrg2 es2 gs2 = mrg2 es gs) := Lib.hid (by rw [List.append_assoc]; exact HO2.out)
                obtain ⟨vs, o1, hev1, hlen1, hb1⟩ := HPW.out
                have O1 := Lib.hid o1
                have HE1 := Lib.hid hev1
                have HL3 := Lib.hid hlen1
                have HB3 := Lib.hid hb1
                have hBe : Below wj.heap.size wj wj.drew := (Below.refl _ _).drew
                have HBe := Lib.hid hBe
                obtain ⟨f0, f1, f2, f3, f4, f5, f6, f7⟩ := HCX.out wj hb1
                clear o1 hev1 hlen1 hb1 hBe
                go_upto_region 7 with (fail)
                go_region_law (first | (refine step_app4 _ rfl _ _ 22 rfl w.heap.size _ 64 Try.underlying22 info_ent rfl O k e vs (by first | (simp [Act.eval]; done) | (simp [Act.eval, Act.put]; done) | rfl) (O1.out.below (HBe.out.alloc HBe.out.size _)) ⟨wj.drew.heap.size, 0, none⟩ 1 1 [.slice K kn kc, .int .u64 (x.seq : Int), .int .u8 (x.kind : Int), .slice V vn vc] (by first | (simp [Act.eval]; done) | (simp [Act.eval, Act.put]; done) | rfl) (rdv_of_cl (Cl.new wj.drew #[.slice K kn kc, .int .u64 (x.seq : Int), .int .u8 (x.kind : Int), .slice V vn vc] 37)) (by omega) HEV.out.cells (by unfold maxLen; omega) (by omega) (HB3.out.trans ((HBe.out.alloc HBe.out.size _).mono HB3.out.size)).size ?_; intro L2 d2 w6 hL hg))
                all_goals
                  have HQ : Hid (PkM w (out ++ [x]) L2 (k + 1) d2 w6) := Lib.hid ⟨_, hL, HE1.out.app (EVs.one HEV.out), by rw [List.length_append, HL3.out]; rfl, (HB3.out.trans ((HBe.out.alloc HBe.out.size _).mono HB3.out.size)).grown hg (HB3.out.trans ((HBe.out.alloc HBe.out.size _).mono HB3.out.size)).size (fun g hgg => (OwnE.lt O1.out g hgg).1)⟩
                  clear hL hg f0 f1 f2 f3 f4 f5 f6 f7
                  go_wp2_with fail
                  refine ⟨?_, ?_⟩
                  · (repeat apply Exists.intro)
                    exact ⟨⟨A2, B2, L2, n2, c1 - 1, m2, d1 - 1, k + 1, d2, es2, gs2, out ++ [x], rfl, rfl, rfl, HT1.out, by omega, HT2.out, by omega, HQ.out, HO3.out, by omega⟩, rfl⟩
                  · exact (show n2 + m2 < n2 + 1 + (m2 + 1) by omega)
      · have hm0 : m1 = 0 := by omega
        have hg0 : gs1 = [] := List.eq_nil_of_length_eq_zero (by rw [HL2.out]; exact hm0)
        have hfin : out ++ es1 ++ gs1 = mrg2 es gs := by
          rw [← HO.out]
          rw [hg0, mrg2_nil, List.append_nil]
        have HFIN := Lib.hid hfin
        obtain ⟨_, us1, hv1, hd1'⟩ := HR1.out
        obtain ⟨_, us2, hv2, hd2'⟩ := HR2.out
        have HV1 := Lib.hid hv1
        have HD1 := Lib.hid (hd1'.below HB.out)
        have HV2 := Lib.hid hv2
        have HD2 := Lib.hid hd2'
        obtain ⟨vs, o1, hev1, hlen1, hb1⟩ := HP.out
        have O1 := Lib.hid o1
        have HE1 := Lib.hid hev1
        have HL3 := Lib.hid hlen1
        have sB := hb1.size
        clear hfin hv1 hd1' hv2 hd2' o1 hev1 hlen1 hb1
        have dd1 : decide (0 < n1) = true := by simpa using h1
        have dd2 : decide (0 < m1) = false := by simpa using h2
        clear hm0 hg0 h1 h2
        go_wp2_with (at_builtin; refine wpList_app4 wr rfl _ _ 22 rfl w.heap.size _ 64 Try.underlying22 info_ent rfl O k e vs rfl O1.out A1 n1 c1 us1 rfl HD1.out HV1.out.cells ?_ ?_ ?_ ?_)
        · omega
        · omega
        · omega
        intro O2 e2 w2 o2 _ b2
        have HB2 := Lib.hid (HB.out.trans b2)
        have O2' := Lib.hid o2
        have sB2 := HB2.out.size
        have HD2' := Lib.hid (HD2.out.below HB2.out)
        clear o2 b2
        go_wp2_with (at_builtin; refine wpList_app4 w2 rfl _ _ 22 rfl w.heap.size _ 64 Try.underlying22 info_ent rfl O2 (k + n1) e2 (vs ++ us1) rfl O2'.out B1 m1 d1 us2 rfl HD2'.out HV2.out.cells ?_ ?_ ?_ ?_)
        · omega
        · omega
        · omega
        intro O3 e3 w3 o3 _ b3
        have HF : Hid (RetEs w (mrg2 es gs) (.returned (.slice O3 (k + n1 + m1) e3)) w3) := Lib.hid (by
          have hb := HB2.out.trans b3
          rw [← HFIN.out]
          exact ⟨O3, _, e3, rfl, REs.mk (((HE1.out.app HV1.out).app HV2.out).below hb) (by have h9 := o3.rd; simpa [List.append_assoc] using h9) (by rw [List.length_append, List.length_append, HL3.out, HL1.out, HL2.out]), o3.cap.1, hb⟩)
        clear o3 b3
        go_wp2_with fail
        go_ret
        exact HF.out
    · have hn0 : n1 = 0 := by omega
      have he0 : es1 = [] := List.eq_nil_of_length_eq_zero (by rw [HL1.out]; exact hn0)
      have hfin : out ++ es1 ++ gs1 = mrg2 es gs := by
        rw [← HO.out]
        rw [he0, nil_mrg2, List.append_nil]
      have HFIN := Lib.hid hfin
      obtain ⟨_, us1, hv1, hd1'⟩ := HR1.out
      obtain ⟨_, us2, hv2, hd2'⟩ := HR2.out
      have HV1 := Lib.hid hv1
      have HD1 := Lib.hid (hd1'.below HB.out)
      have HV2 := Lib.hid hv2
      have HD2 := Lib.hid hd2'
      obtain ⟨vs, o1, hev1, hlen1, hb1⟩ := HP.out
      have O1 := Lib.hid o1
      have HE1 := Lib.hid hev1
      have HL3 := Lib.hid hlen1
      have sB := hb1.size
      clear hfin hv1 hd1' hv2 hd2' o1 hev1 hlen1 hb1
      have dd1 : decide (0 < n1) = false := by simpa using h1
      clear hn0 he0 h1
      go_wp2_with (at_builtin; refine wpList_app4 wr rfl _ _ 22 rfl w.heap.size _ 64 Try.underlying22 info_ent rfl O k e vs rfl O1.out A1 n1 c1 us1 rfl HD1.out HV1.out.cells ?_ ?_ ?_ ?_)
      · omega
      · omega
      · omega
      intro O2 e2 w2 o2 _ b2
      have HB2 := Lib.hid (HB.out.trans b2)
      have O2' := Lib.hid o2
      have sB2 := HB2.out.size
      have HD2' := Lib.hid (HD2.out.below HB2.out)
      clear o2 b2
      go_wp2_with (at_builtin; refine wpList_app4 w2 rfl _ _ 22 rfl w.heap.size _ 64 Try.underlying22 info_ent rfl O2 (k + n1) e2 (vs ++ us1) rfl O2'.out B1 m1 d1 us2 rfl HD2'.out HV2.out.cells ?_ ?_ ?_ ?_)
      · omega
      · omega
      · omega
      intro O3 e3 w3 o3 _ b3
      have HF : Hid (RetEs w (mrg2 es gs) (.returned (.slice O3 (k + n1 + m1) e3)) w3) := Lib.hid (by
        have hb := HB2.out.trans b3
        rw [← HFIN.out]
        exact ⟨O3, _, e3, rfl, REs.mk (((HE1.out.app HV1.out).app HV2.out).below hb) (by have h9 := o3.rd; simpa [List.append_assoc] using h9) (by rw [List.length_append, List.length_append, HL3.out, HL1.out, HL2.out]), o3.cap.1, hb⟩)
      clear o3 b3
      go_wp2_with fail
      go_ret
      exact HF.out
end Go.Proofs.Ytcclhkoggijkaaa
namespace Go.Proofs.Ytcclhkoggijkaaa
open Go Go.RowKit

theorem rdS_wf {xs key : List UInt8} {a b : Int} {x : En} (h : rdS xs key a = some (x, b)) : U64 x.seq ∧ x.kind < 256 := by
  obtain ⟨s, p1, h1⟩ : ∃ s p1, gN xs a = (s, p1) := ⟨_, _, rfl⟩
  obtain ⟨r, p2, h2⟩ : ∃ r p2, gN xs p1 = (r, p2) := ⟨_, _, rfl⟩
  obtain ⟨m, k, q, h3⟩ : ∃ m k q, getU xs p2 = (m, k, q) := ⟨_, _, _, rfl⟩
  obtain ⟨v, p, h4⟩ : ∃ v p, gN xs (k + 1) = (v, p) := ⟨_, _, rfl⟩
  rw [rdS_eq h1 h2 h3 h4] at h
  split at h
  · cases h
  · rename_i hg
    split at h
    · cases h
    · injection h with h
      injection h with h _
      subst h
      have hq : q = 0 := by
        rcases Int.decEq q 0 with h | h
        · exact absurd (.inr (.inr (.inl h))) hg
        · exact h
      subst hq
      obtain ⟨_, _, _, _, _, _, _, hm⟩ := getU_ok h3
      exact ⟨hm, UInt8.toNat_lt _⟩
theorem rdL_wf {xs : List UInt8} : ∀ (f : Nat) {a : Int} {key : List UInt8} {es es' : List En} {ps ps' : List Int}, (∀ x ∈ es, U64 x.seq ∧ x.kind < 256) → rdL xs f a key es ps = some (es', ps') → ∀ x ∈ es', U64 x.seq ∧ x.kind < 256
  | 0, _, _, _, _, _, _, _, h => by rw [rdL] at h; cases h
  | f + 1, a, key, es, es', ps, ps', hw, h => by
    rw [rdL] at h
    split at h
    · injection h with h
      injection h with h _
      rw [← h]
      exact hw
    · split at h
      · cases h
      · rename_i x b hx
        refine rdL_wf f (fun y hy => ?_) h
        rcases List.mem_append.1 hy with h1 | h1
        · exact hw y h1
        · rw [List.mem_singleton] at h1
          rw [h1]
          exact rdS_wf hx
/-- The last place below k at which z stands. -/
def lastAt (ps : List Int) (z : Int) (d : Nat) : Nat → Nat
  | 0 => d
  | k + 1 => if ps[k]? = some z then k else lastAt ps z d k
/-- The every that the reference takes. -/
def evD (es : List En) (ps : List Int) (zs : List UInt8) : Nat := if 8 ≤ zs.length then lastAt ps (numK (zs.drop 4) 4 : Int) es.length ps.length else es.length
/-- What the reference makes of what was read. -/
def finD (xs zs : List UInt8) : Option (List En × List Int) → List En × Int
  | none => ([], 3)
  | some (es, ps) => if es ≠ [] ∧ evD es ps zs = 0 then ([], 3) else if (buildE (if es = [] then 1 else evD es ps zs) es).2 = 0 ∧ (buildE (if es = [] then 1 else evD es ps zs) es).1 = xs then (es, 0) else ([], 3)
def bodyD (xs : List UInt8) : Option (List UInt8 × List UInt8) → List En × Int
  | none => ([], 3)
  | some (ys, zs) => finD xs zs (rdL ys (ys.length + 1) 0 [] [] [])
/-- What the reference's Decode answers. -/
def refD (xs : List UInt8) : List En × Int :=
  match openG xs ((0 : Nat) : Int) with
  | (body, nx, k) => if k ≠ 0 then ([], k) else if nx ≠ (xs.length : Int) then ([], 3) else bodyD xs (splitB body)
theorem finD_ok {xs zs : List UInt8} {o : Option (List En × List Int)} {es : List En} (hw : ∀ es' ps', o = some (es', ps') → ∀ x ∈ es', U64 x.seq ∧ x.kind < 256) (h : finD xs zs o = (es, 0)) : decB xs = (es, 0) := by
  cases o with
  | none => unfold finD at h; injection h with _ h; cases h
  | some z =>
    obtain ⟨es', ps⟩ := z
    unfold finD at h
    simp only at h
    split at h
    · injection h with _ h; cases h
    · rename_i h0
      obtain ⟨ev, hev0⟩ : ∃ ev, ev = (if es' = [] then 1 else evD es' ps zs) := ⟨_, rfl⟩
      rw [← hev0] at h
      split at h
      · rename_i hb
        injection h with h _
        subst h
        have hev : 1 ≤ ev := by
          rw [hev0]
          split
          · omega
          · rename_i hne
            rcases Nat.eq_zero_or_pos (evD es' ps zs) with h | h
            · exact absurd ⟨hne, h⟩ h0
            · exact h
        have := dec_build hev (hw es' ps rfl) hb.1
        rw [hb.2] at this
        exact this
      · injection h with _ h; cases h
theorem refD_ok {xs : List UInt8} {es : List En} (h : refD xs = (es, 0)) : decB xs = (es, 0) := by
  unfold refD at h
  rcases hog : openG xs ((0 : Nat) : Int) with ⟨body, nx, k⟩
  rw [hog] at h
  simp only at h
  split at h
  · rename_i hk
    injection h with _ h
    exact absurd h hk
  · split at h
    · injection h with _ h; cases h
    · cases hs : splitB body with
      | none => rw [hs] at h; unfold bodyD at h; injection h with _ h; cases h
      | some z =>
        obtain ⟨ys, zs⟩ := z
        rw [hs] at h
        unfold bodyD at h
        simp only at h
        exact finD_ok (fun es' ps' ho => rdL_wf _ (fun x hx => by cases hx) ho) h
theorem lastAt_one {ps : List Int} {z : Int} {d j : Nat} : ∀ (k : Nat), j < k → (∀ i, i < k → (ps[i]? = some z ↔ i = j)) → lastAt ps z d k = j
  | 0, h, _ => absurd h (by omega)
  | k + 1, h, hi => by
    rw [lastAt]
    by_cases e : k = j
    · rw [if_pos ((hi k (by omega)).2 e), e]
    · rw [if_neg (fun h2 => e ((hi k (by omega)).1 h2))]
      exact lastAt_one k (by omega) (fun i h3 => hi i (by omega))
theorem plB_at {ev : Nat} {es : List En} {n i : Nat} (h : i < n) : (plB ev es n)[i]? = some ((outB ev es i).length : Int) := by
  unfold plB
  rw [List.getElem?_map, List.getElem?_range h]
  rfl
/-- What was built, the reference takes. -/
theorem refD_build {ev : Nat} {es : List En} (he : 1 ≤ ev) (hw : ∀ x ∈ es, U64 x.seq ∧ x.kind < 256) (hb : (buildE ev es).2 = 0) : refD (buildE ev es).1 = (es, 0) := by
  obtain ⟨h1, h2, h3, h4, h5⟩ := buildE_ord hb
  have hz := longE_no h3
  have hmn : ∀ i, i < es.length → (outB ev es i).length < (outB ev es (i + 1)).length := fun i hi => by
    obtain ⟨x, hx⟩ : ∃ x, es[i]? = some x := ⟨_, List.getElem?_eq_getElem hi⟩
    rw [outB_step hx, List.length_append]
    have := entB_pos (shB ev es i) x
    omega
  have key : ∀ i, i ≤ es.length → i ≤ (outB ev es i).length := by
    intro i
    induction i with
    | zero => intro _; exact Nat.zero_le _
    | succ i ih => intro h; have := ih (by omega); have := hmn i (by omega); omega
  have hrd := rd_from (ev := ev) hz hw es.length 0 ((outB ev es es.length).length + 1) (by omega) (by have := key es.length (Nat.le_refl _); omega)
  have hrd2 : rdL (outB ev es es.length) ((outB ev es es.length).length + 1) 0 [] [] [] = some (es, plB ev es es.length) := hrd
  have hx : (buildE ev es).1 = sealB (fullB ev es) := h4
  rw [h4]
  unfold refD
  rw [openG_one _ h5]
  simp only
  rw [if_neg (by simp), if_neg (by rw [sealB_len]; simp), split_full h5]
  unfold bodyD
  simp only
  rw [hrd2]
  unfold finD
  simp only
  by_cases hne : es = []
  · have hbe : buildE 1 es = buildE ev es := build_congr (fun i hi => by rw [hne] at hi; simp at hi)
    rw [if_neg (fun h => h.1 hne), if_pos hne, hbe, if_pos ⟨hb, hx⟩]
  · have hlen : 0 < es.length := List.length_pos_iff.2 hne
    have hevd : ∃ e2, evD es (plB ev es es.length) (rsB ev es es.length) = e2 ∧ 1 ≤ e2 ∧ buildE e2 es = buildE ev es := by
      by_cases hev : ev < es.length
      · obtain ⟨R, hR⟩ := rsB_pre ev es (ev + 1) es.length hev
        rw [rsB, if_pos (Nat.mod_self ev), rsB_one he (Nat.le_refl _)] at hR
        have hrl : 8 ≤ (rsB ev es es.length).length := by
          rw [hR]
          simp only [List.length_append, fourB_len]
          omega
        have hol : (outB ev es ev).length ≤ 1048576 := by
          have := outB_mono ev es ev es.length (by omega)
          unfold fullB at h5
          simp only [List.length_append] at h5
          omega
        have hnk : numK ((rsB ev es es.length).drop 4) 4 = (outB ev es ev).length := by
          rw [hR, List.append_assoc, List.drop_left' (fourB_len 0)]
          exact numK_fourB _ _ (by omega)
        refine ⟨ev, ?_, he, rfl⟩
        unfold evD
        rw [if_pos hrl, hnk]
        have hpl : (plB ev es es.length).length = es.length := by unfold plB; simp
        rw [hpl]
        refine lastAt_one es.length hev (fun i hi => ?_)
        rw [plB_at hi]
        constructor
        · intro h
          have h : (outB ev es i).length = (outB ev es ev).length := by injection h with h; omega
          rcases Nat.lt_trichotomy i ev with e | e | e
          · have a1 := hmn i hi
            have a2 := outB_mono ev es (i + 1) ev (by omega)
            omega
          · exact e
          · have a1 := hmn ev hev
            have a2 := outB_mono ev es (ev + 1) i (by omega)
            omega
        · intro h; rw [h]
      · have hrl : ¬ 8 ≤ (rsB ev es es.length).length := by
          rw [rsB_one hlen (by omega), fourB_len]
          omega
        refine ⟨es.length, ?_, hlen, build_congr (fun i hi => ?_)⟩
        · unfold evD
          rw [if_neg hrl]
        · have e1 : i % es.length = i := Nat.mod_eq_of_lt hi
          have e2 : i % ev = i := Nat.mod_eq_of_lt (by omega)
          rw [e1, e2]
    obtain ⟨e2, q1, q2, q3⟩ := hevd
    rw [q1, if_neg (fun h => by omega), if_neg hne, q3, if_pos ⟨hb, hx⟩]
/-- What the program takes was built. -/
theorem decB_built {xs : List UInt8} {es : List En} (h : decB xs = (es, 0)) : ∃ ev, 1 ≤ ev ∧ buildE ev es = (xs, 0) := by
  unfold decB at h
  rcases hog : openG xs ((0 : Nat) : Int) with ⟨ins, nx, k⟩
  rw [hog] at h
  simp only at h
  split at h
  · rename_i hk
    injection h with h1 h2
    exact absurd h2 hk
  · cases hp : parB ins with
    | none =>
      rw [hp] at h
      unfold decP at h
      injection h with h1 h2
      cases h2
    | some z =>
      obtain ⟨es', ev⟩ := z
      rw [hp] at h
      unfold decP at h
      simp only at h
      split at h
      · rename_i hb
        injection h with h _
        subst h
        unfold buildZ at hb
        split at hb
        · cases hb.1
        · rename_i hev
          exact ⟨ev, by omega, Prod.ext hb.2 hb.1⟩
      · injection h with _ h; cases h
theorem decB_kinds {xs : List UInt8} : ((openG xs ((0 : Nat) : Int)).2.2 ≠ 0 ∧ decB xs = ([], (openG xs ((0 : Nat) : Int)).2.2)) ∨ ((openG xs ((0 : Nat) : Int)).2.2 = 0 ∧ (decB xs = ([], 3) ∨ ∃ es, decB xs = (es, 0))) := by
  unfold decB
  rcases openG xs ((0 : Nat) : Int) with ⟨ins, nx, k⟩
  simp only
  by_cases hk : k = 0
  · refine .inr ⟨hk, ?_⟩
    rw [if_neg (fun h => h hk)]
    cases parB ins with
    | none => exact .inl rfl
    | some z =>
      obtain ⟨es, ev⟩ := z
      unfold decP
      simp only
      split
      · exact .inr ⟨es, rfl⟩
      · exact .inl rfl
  · exact .inl ⟨hk, by rw [if_pos hk]⟩
theorem finD_kinds {xs zs : List UInt8} (o : Option (List En × List Int)) : finD xs zs o = ([], 3) ∨ ∃ es, finD xs zs o = (es, 0) := by
  cases o with
  | none => exact .inl rfl
  | some z =>
    obtain ⟨es, ps⟩ := z
    unfold finD
    simp only
    by_cases h1 : es ≠ [] ∧ evD es ps zs = 0
    · rw [if_pos h1]; exact .inl rfl
    · rw [if_neg h1]
      by_cases h2 : (buildE (if es = [] then 1 else evD es ps zs) es).2 = 0 ∧ (buildE (if es = [] then 1 else evD es ps zs) es).1 = xs
      · rw [if_pos h2]; exact .inr ⟨es, rfl⟩
      · rw [if_neg h2]; exact .inl rfl
theorem refD_kinds {xs : List UInt8} : ((openG xs ((0 : Nat) : Int)).2.2 ≠ 0 ∧ refD xs = ([], (openG xs ((0 : Nat) : Int)).2.2)) ∨ ((openG xs ((0 : Nat) : Int)).2.2 = 0 ∧ (refD xs = ([], 3) ∨ ∃ es, refD xs = (es, 0))) := by
  unfold refD
  rcases openG xs ((0 : Nat) : Int) with ⟨ins, nx, k⟩
  simp only
  by_cases hk : k = 0
  · refine .inr ⟨hk, ?_⟩
    rw [if_neg (fun h => h hk)]
    by_cases hn : nx ≠ (xs.length : Int)
    · rw [if_pos hn]; exact .inl rfl
    · rw [if_neg hn]
      cases splitB ins with
      | none => exact .inl rfl
      | some z =>
        obtain ⟨ys, zs⟩ := z
        exact finD_kinds _
  · exact .inl ⟨hk, by rw [if_pos hk]⟩
/-- The reference's Decode and the program's are one. -/
theorem refD_eq {xs : List UInt8} (hw : ∀ es, decB xs = (es, 0) → ∀ x ∈ es, U64 x.seq ∧ x.kind < 256) : refD xs = decB xs := by
  rcases decB_kinds (xs := xs) with ⟨h1, h2⟩ | ⟨h1, h2⟩
  · rcases refD_kinds (xs := xs) with ⟨_, k2⟩ | ⟨k1, _⟩
    · rw [h2, k2]
    · exact absurd k1 h1
  · rcases h2 with h2 | ⟨es, h2⟩
    · rcases refD_kinds (xs := xs) with ⟨k1, _⟩ | ⟨_, k2 | ⟨es, k2⟩⟩
      · exact absurd h1 k1
      · rw [h2, k2]
      · rw [k2, refD_ok k2]
    · obtain ⟨ev, he, hb⟩ := decB_built h2
      have h3 := refD_build he (hw es h2) (by rw [hb])
      rw [hb] at h3
      rw [h2]
      exact h3
end Go.Proofs.Ytcclhkoggijkaaa
namespace Go.Proofs.Ytcclhkoggijkaaa
open Go Go.RowKit Go.Maps Go.Proofs

theorem RdV.fr {w w' : World} {bl : List Nat} {A : Option Addr} {n : Nat} {vs : List Value} (h : RdV w A n vs) (hf : Fr w w' bl) (ho : 0 < n → ∀ b, blk A = some b → b ∉ bl) : RdV w' A n vs := by
  refine ⟨h.1, fun hn => ?_⟩
  obtain ⟨b, off, rfl, h2, h3⟩ := h.2 hn
  refine ⟨b, off, rfl, Nat.lt_of_lt_of_le h2 hf.size, fun i x hx => ?_⟩
  exact (World.cell?_of_block (a := ⟨b, off + i, none⟩) (hf.block b h2 (ho hn b rfl))).trans (h3 i x hx)
theorem RdV.lt' {w : World} {A : Option Addr} {n : Nat} {vs : List Value} (h : RdV w A n vs) (hn : 0 < n) : ∀ b, blk A = some b → b < w.heap.size := fun b hb => by
  obtain ⟨b', off, rfl, h2⟩ := h.pos hn
  injection hb with hb
  rw [← hb]
  exact h2
def ivs (ks : List Int) : List Value := ks.map fun z => .int .i64 z
theorem ivs_at {w : World} {b off n : Nat} {ks : List Int} (h : RdV w (some ⟨b, off, none⟩) n (ivs ks)) (k : Nat) (hk : k < n) : ∃ z, ks[k]? = some z ∧ w.cell? ⟨b, off + k, none⟩ = some (.int .i64 z) := by
  obtain ⟨v, h1, h2⟩ := h.at_ k hk
  unfold ivs at h1
  rw [List.getElem?_map] at h1
  cases hx : ks[k]? with
  | none => rw [hx] at h1; cases h1
  | some z =>
    rw [hx] at h1
    injection h1 with h1
    subst h1
    exact ⟨z, rfl, h2⟩
theorem nm_at {w : World} {b off n : Nat} {ns : List (List UInt8)} (h : RdV w (some ⟨b, off, none⟩) n (ns.map encStr)) (k : Nat) (hk : k < n) : ∃ x, ns[k]? = some x ∧ w.cell? ⟨b, off + k, none⟩ = some (.string (tx x)) := by
  obtain ⟨v, h1, h2⟩ := h.at_ k hk
  rw [List.getElem?_map] at h1
  cases hx : ns[k]? with
  | none => rw [hx] at h1; cases h1
  | some z =>
    rw [hx] at h1
    injection h1 with h1
    subst h1
    exact ⟨z, rfl, h2⟩
theorem nmR_all (rs : List FR) : nmR [] rs = (rs.map FR.val).map (·.1) := by
  unfold nmR
  rw [List.filter_eq_self.2 (fun x _ => by simp [Lib.hasPrefix]), List.map_map]
  rfl

/-- 'The disk behind the crash.' -/
def RetCr (w : World) (p : Nat) (m : Option Nat) (rs : List FR) (fs' : List FE) (room left : Int) (e : Ending) (w' : World) : Prop :=
  e = .returned (.tuple #[]) ∧ ∃ rs', rs'.map FR.val = fs' ∧ DskR w' p m rs' room (usedF fs' : Int) left false false ∧ Fr w w' (allB p m rs) ∧ ∀ b ∈ allB p m rs', b ∈ allB p m rs ∨ w.heap.size ≤ b

section
variable {w : World} {p : Nat} {m : Option Nat} {rs : List FR} {room left : Int} {dead armed : Bool}
end
end Go.Proofs.Ytcclhkoggijkaaa
namespace Go.Proofs.Ytcclhkoggijkaaa
open Go Go.RowKit

theorem elemL : Try.prog.elem 53 = 22 := by kernel_rfl
theorem sizeL (w : World) : (sizeOf 22).run Try.prog w = .ok 1 w := by kernel_rfl
def totLn : List (List En) → Nat
  | [] => 0
  | l :: t => l.length + totLn t
theorem totLn_app : ∀ a b : List (List En), totLn (a ++ b) = totLn a + totLn b
  | [], b => by simp [totLn]
  | l :: t, b => by rw [List.cons_append, totLn, totLn, totLn_app t b]; omega
theorem totLn_mem : ∀ {ls : List (List En)} {l : List En}, l ∈ ls → l.length ≤ totLn ls
  | x :: t, l, h => by
    rw [totLn]
    rcases List.mem_cons.1 h with h | h
    · rw [h]; omega
    · have := totLn_mem h; omega
theorem joinL_len : ∀ (f : Nat) (ls : List (List En)), (joinL f ls).length ≤ totLn ls
  | 0, ls => by simp [joinL]
  | f + 1, ls => by
    match ls with
    | [] => simp [joinL, totLn]
    | [x] => simp [joinL, totLn]
    | x :: y :: t =>
      rw [joinL]
      · have e : totLn (x :: y :: t) = totLn ((x :: y :: t).take ((x :: y :: t).length / 2)) + totLn ((x :: y :: t).drop ((x :: y :: t).length / 2)) := by rw [← totLn_app, List.take_append_drop]
        have h1 := joinL_len f ((x :: y :: t).take ((x :: y :: t).length / 2))
        have h2 := joinL_len f ((x :: y :: t).drop ((x :: y :: t).length / 2))
        have h3 := mrg2_len (joinL f ((x :: y :: t).take ((x :: y :: t).length / 2))) (joinL f ((x :: y :: t).drop ((x :: y :: t).length / 2)))
        omega
      · intro h; cases h
      · intro z h; cases h
theorem joinL_from {z : En} : ∀ (f : Nat) {ls : List (List En)}, z ∈ joinL f ls → ∃ l ∈ ls, z ∈ l
  | 0, ls, h => by simp [joinL] at h
  | f + 1, ls, h => by
    match ls, h with
    | [], h => simp [joinL] at h
    | [x], h => exact ⟨x, by simp, by simpa [joinL] using h⟩
    | x :: y :: t, h =>
      rw [joinL] at h
      · rcases mrg2_from h with h | h
        · obtain ⟨l, h1, h2⟩ := joinL_from f h
          exact ⟨l, List.mem_of_mem_take h1, h2⟩
        · obtain ⟨l, h1, h2⟩ := joinL_from f h
          exact ⟨l, List.mem_of_mem_drop h1, h2⟩
      · intro h; cases h
      · intro z h; cases h
theorem RLs.takeL {w : World} {A : Option Addr} {n k : Nat} {ls : List (List En)} (h : RLs w A n ls) (hk : k ≤ n) : RLs w A k (ls.take k) := by
  refine ⟨by rw [List.length_take, h.1]; omega, fun h0 => ?_⟩
  obtain ⟨b, off, e, hb, hc⟩ := h.2 (by omega)
  refine ⟨b, off, e, hb, fun i es hi => hc i es ?_⟩
  rw [List.getElem?_take] at hi
  split at hi
  · exact hi
  · cases hi
theorem RLs.dropL {w : World} {A : Option Addr} {n c k : Nat} {ls : List (List En)} (h : RLs w A n ls) (hk : k ≤ n) (hc : n ≤ c) : RLs w (cutA A k c) (n - k) (ls.drop k) := by
  refine ⟨by rw [List.length_drop, h.1], fun h0 => ?_⟩
  obtain ⟨b, off, rfl, hb, hcell⟩ := h.2 (by omega)
  refine ⟨b, off + k, ?_, hb, fun i es hi => ?_⟩
  · unfold cutA
    rw [if_neg (by omega)]
    simp [Addr.add]
  · rw [List.getElem?_drop] at hi
    have := hcell (k + i) es hi
    rw [← Nat.add_assoc] at this
    exact this
theorem RetEs.out {w w' : World} {es : List En} {e : Ending} (h : RetEs w es e w') : ∃ L k d, e = .returned (.slice L k d) ∧ REs w' L k es ∧ k ≤ d ∧ Below w.heap.size w w' := h
set_option maxRecDepth 100000 in
set_option maxHeartbeats 16000000 in
theorem mgJoin_any : ∀ (f : Nat) {w : World} {A : Option Addr} {n c : Nat} {ls : List (List En)}, RLs w A n ls → n ≤ c → n ≤ f → totLn ls ≤ 2097152 → n ≤ 1099511627776 → Calls Try.prog 137 #[.slice A n c] w (RetEs w (joinL f ls))
  | 0, w, A, n, c, ls, h, hc, hf, ht, hn => by
    obtain rfl : n = 0 := by omega
    have hl : ls = [] := List.eq_nil_of_length_eq_zero h.1
    subst hl
    clear h
    go_enter Try.func137, Try.ntmps137
    go_wp2_with fail
    go_ret
    exact ⟨none, 0, 0, rfl, REs.nil _ _, Nat.le_refl _, Below.refl _ _⟩
  | f + 1, w, A, n, c, ls, h, hc, hf, ht, hn => by
    match ls, h, ht with
    | [], h, ht =>
      obtain rfl : n = 0 := by have := h.1; simpa using this.symm
      clear h
      go_enter Try.func137, Try.ntmps137
      go_wp2_with fail
      go_ret
      exact ⟨none, 0, 0, rfl, REs.nil _ _, Nat.le_refl _, Below.refl _ _⟩
    | [x], h, ht =>
      obtain rfl : n = 1 := by have := h.1; simpa using this.symm
      obtain ⟨b, off, rfl, hb⟩ := h.pos (by omega)
      obtain ⟨es, B, m, d, hx, c0, hre, hmd⟩ := h.at_ 0 (by omega)
      obtain rfl : x = es := by simpa using hx
      have c0' : w.cell? ⟨b, off, none⟩ = some (.slice B m d) := c0
      have HR := Lib.hid hre
      clear h hx hre c0
      go_enter Try.func137, Try.ntmps137
      go_wp2_with fail
      go_ret
      exact ⟨B, m, d, by first | rfl | simp [joinL], HR.out, hmd, Below.refl _ _⟩
    | x :: y :: t, h, ht =>
      have hlen := h.1
      have hj : joinL (f + 1) (x :: y :: t) = mrg2 (joinL f ((x :: y :: t).take ((x :: y :: t).length / 2))) (joinL f ((x :: y :: t).drop ((x :: y :: t).length / 2))) := by
        rw [joinL]
        · intro h; cases h
        · intro z h; cases h
      obtain ⟨ls, hls⟩ : ∃ ls, ls = x :: y :: t := ⟨_, rfl⟩
      have h2 : 2 ≤ n := by rw [← hlen]; simp
      rw [← hls] at h ht hlen hj ⊢
      obtain ⟨hh, hhe⟩ : ∃ hh, hh = n / 2 := ⟨_, rfl⟩
      rw [hlen, ← hhe] at hj
      have eq1 : (n : Int) / 2 = (hh : Int) := by omega
      have htl : totLn (ls.take hh) + totLn (ls.drop hh) = totLn ls := by rw [← totLn_app, List.take_append_drop]
      have HT := Lib.hid htl
      have HJ := Lib.hid hj
      have hhn : hh ≤ n := by omega
      have hh1 : 1 ≤ hh := by omega
      have hhf : hh ≤ f := by omega
      have hhf2 : n - hh ≤ f := by omega
      obtain ⟨n2, hn2⟩ : ∃ n2, n2 = n - hh := ⟨_, rfl⟩
      have HN2 := Lib.hid hn2
      have hs1 : ∀ W : World, (Instr.slice 53 (.slice A n c) none (some (.int .i64 (hh : Int))) none).run Try.prog W = .ok (.slice A hh c) W := fun W => cut_h Try.underlying53 elemL sizeL A (by omega) W
      have hs2 : ∀ W : World, (Instr.slice 53 (.slice A n c) (some (.int .i64 (hh : Int))) none none).run Try.prog W = .ok (.slice (cutA A hh c) n2 (c - hh)) W := fun W => by rw [hn2]; exact cut_l Try.underlying53 elemL sizeL A hhn W
      have t0 : ((n : Int) == 0) = false := by rw [beq_eq_false_iff_ne]; omega
      have t1 : ((n : Int) == 1) = false := by rw [beq_eq_false_iff_ne]; omega
      have J1 : Hid (∀ wx, Below w.heap.size w wx → Calls Try.prog 137 #[.slice A hh c] wx (RetEs wx (joinL f (ls.take hh)))) := Lib.hid (fun wx hb => mgJoin_any f ((h.takeL hhn).below hb) (by omega) hhf (by omega) (by omega))
      have J2 : Hid (∀ wx, Below w.heap.size w wx → Calls Try.prog 137 #[.slice (cutA A hh c) n2 (c - hh)] wx (RetEs wx (joinL f (ls.drop hh)))) := Lib.hid (fun wx hb => by rw [hn2]; exact mgJoin_any f ((h.dropL hhn hc).below hb) (by omega) hhf2 (by omega) (by omega))
      have hB0 : Below w.heap.size w w.drew := (Below.refl _ _).drew
      clear h htl hls hlen hj hhe hn2
      go_enter Try.func137, Try.ntmps137
      go_upto_region 7 with (fail)
      have HLB : Hid (∀ k1 k2, (joinL f (ls.take hh)).length = k1 → (joinL f (ls.drop hh)).length = k2 → k1 + k2 ≤ 2097152) := Lib.hid (fun k1 k2 e1 e2 => by
        have h1 := joinL_len f (ls.take hh)
        have h2 := joinL_len f (ls.drop hh)
        have h3 := HT.out
        omega)
      go_region_law (first | (go_simp; go_at_call 137; with_reducible refine (J1.out _ (by assumption)).mono ?_; intro e1 wa hq1; obtain ⟨L1, k1, d1, h1, r1, kd1, b1⟩ := RetEs.out hq1; subst h1; have bw1 := belowT' (by assumption : Below w.heap.size w _) b1; (try (have r2' := r2.below b1))) | (go_simp; go_at_call 137; with_reducible refine (J2.out _ (by assumption)).mono ?_; intro e2 wb hq2; obtain ⟨L2, k2, d2, h2, r2, kd2, b2⟩ := RetEs.out hq2; subst h2; have bw2 := belowT' (by assumption : Below w.heap.size w _) b2; (try (have r1' := r1.below b2))) | (go_simp; go_at_call 171; with_reducible refine (joinTwo_any (by assumption) kd1 (by assumption) kd2 (HLB.out _ _ r1.len r2.len)).mono ?_; intro e3 wz hq3; obtain ⟨L3, k3, d3, h3, r3, kd3, b3⟩ := RetEs.out hq3; subst h3))
      all_goals
        have HF : Hid (RetEs w (joinL (f + 1) ls) (.returned (.slice L3 k3 d3)) wz) := Lib.hid (by
          rw [HJ.out]
          exact ⟨L3, k3, d3, rfl, r3, kd3, by first | exact belowT' bw2 b3 | exact belowT' bw1 b3⟩)
        clear r3 b3 r1 r2 b1 b2
        go_wp2_with fail
        go_ret
        exact HF.out
set_option maxRecDepth 100000 in
set_option maxHeartbeats 8000000 in
theorem merge_any {w : World} {A : Option Addr} {n c : Nat} {ls : List (List En)} (h : RLs w A n ls) (hc : n ≤ c) (hn : n ≤ 1099511627776) (ht : totLn ls ≤ 2097152) (hs : ∀ es ∈ ls, ∀ x ∈ es, SzE x) :
    Calls Try.prog 82 #[.slice A n c] w (RetMg w (chkL ls) (joinL n ls)) := by
  obtain ⟨z, hz⟩ : ∃ z, z = chkL ls := ⟨_, rfl⟩
  have HM : Hid (Calls Try.prog 130 #[.slice A n c] w (RetNu w z)) := Lib.hid (by rw [hz]; exact mgCheck_any h hn (fun es he => by have := totLn_mem he; omega))
  have HJ : Hid (∀ wx, Below w.heap.size w wx → Calls Try.prog 137 #[.slice A n c] wx (RetEs wx (joinL n ls))) := Lib.hid (fun wx hb => mgJoin_any n (h.below hb) hc (Nat.le_refl _) ht hn)
  have HS : Hid (∀ x ∈ joinL n ls, SzE x) := Lib.hid (fun x hx => by
    obtain ⟨l, h1, h2⟩ := joinL_from n hx
    exact hs l h1 x h2)
  have HL := Lib.hid (joinL_len n ls)
  rw [← hz]
  clear h hz hs
  go_enter Try.func82, Try.ntmps82
  go_wp2_with fail
  with_reducible refine HM.out.mono ?_
  rintro e w1 ⟨rfl, b1⟩
  have B1 := Lib.hid b1
  clear b1 HM
  by_cases hz0 : z = 0
  · subst hz0
    go_wp2_with fail
    with_reducible refine (HJ.out _ B1.out).mono ?_
    intro e w2 hq
    obtain ⟨L, k, d, he, hr, hkd, b2⟩ := RetEs.out hq
    subst he
    have hk : k ≤ 2097152 := by have h1 := hr.len; have h2 := HL.out; omega
    have HOW := Lib.hid (mgOwn_any (c := d) hr hk HS.out)
    have B2 := Lib.hid (belowT' B1.out b2)
    clear hr b2 hq
    go_wp2_with fail
    with_reducible refine HOW.out.mono ?_
    rintro e w3 ⟨L2, n2, c2, rfl, hrow⟩
    have HF : Hid (RetMg w 0 (joinL n ls) (.returned (.tuple #[.slice L2 n2 c2, .int .i64 0])) w3) := Lib.hid (.inr ⟨rfl, L2, n2, c2, rfl, hrow.lower B2.out⟩)
    clear hrow
    go_wp2_with fail
    exact bodyPost_ret (v := .tuple #[.slice L2 n2 c2, .int .i64 0]) (by simp [results, Try.f82, go_sem]; try rfl) rfl HF.out
  · have t1 : (z == 0) = false := by rw [beq_eq_false_iff_ne]; exact hz0
    go_wp2_with fail
    exact bodyPost_ret (v := .tuple #[.slice none 0 0, .int .i64 z]) (by simp [results, Try.f82, go_sem]; try rfl) rfl (.inl ⟨hz0, rfl, B1.out⟩)
end Go.Proofs.Ytcclhkoggijkaaa
namespace Go.Proofs.Ytcclhkoggijkaaa
open Go Go.RowKit

theorem Rd.take8 {w : World} {A : Option Addr} {n m : Nat} {xs : List UInt8} (h : Rd w A n xs) (hm : m ≤ n) : Rd w A m (xs.take m) := by
  refine ⟨by rw [List.length_take, h.1]; omega, fun h0 => ?_⟩
  obtain ⟨b, off, e, hb, hc⟩ := h.2 (by omega)
  refine ⟨b, off, e, hb, fun i x hi => hc i x ?_⟩
  rw [List.getElem?_take] at hi
  split at hi
  · exact hi
  · cases hi
/-- Where a number's end lies. -/
theorem gN_pos {xs : List UInt8} {a : Nat} {s p : Int} (ha : a ≤ xs.length) (h : gN xs (a : Int) = (s, p)) : ∃ b : Nat, p = (b : Int) ∧ a ≤ b ∧ b ≤ xs.length ∧ ((s = -1 ∧ b = a) ∨ ∃ t : Nat, s = (t : Int) ∧ t ≤ 1099511627776 ∧ a < b) := by
  unfold gN at h
  rcases hg : getU xs (a : Int) with ⟨m, nx, e⟩
  rw [hg] at h
  simp only at h
  split at h
  · rename_i hk
    injection h with h1 h2
    obtain ⟨k, hk1, hk2, hk3, _⟩ := getU_err ha hg hk.1
    exact ⟨k, by rw [← h2, hk1], by omega, hk3, .inr ⟨m, h1.symm, hk.2, hk2⟩⟩
  · injection h with h1 h2
    exact ⟨a, h2.symm, Nat.le_refl _, ha, .inl ⟨h1.symm, rfl⟩⟩
/-- The two rows that the reader makes. -/
def RR (w : World) (L P : Option Addr) (ln d pn pd : Nat) (es : List En) (vs : List Value) (ps : List Int) (wr : World) : Prop :=
  OwnE wr w.heap.size L ln d vs ∧ EOs w.heap.size wr es vs ∧ es.length = ln ∧ OwnV 3 wr w.heap.size P pn pd (ps.map (fun z => Value.int .i64 z)) ∧ ps.length = pn ∧ Below w.heap.size w wr
theorem RR.below {w wr wx : World} {L P : Option Addr} {ln d pn pd : Nat} {es : List En} {vs : List Value} {ps : List Int} (h : RR w L P ln d pn pd es vs ps wr) (hb : Below wr.heap.size wr wx) : RR w L P ln d pn pd es vs ps wx := by
  obtain ⟨h1, h2, h3, h4, h5, h6⟩ := h
  exact ⟨h1.below hb, h2.below hb, h3, h4.below hb, h5, h6.trans (hb.mono h6.size)⟩
/-- What read hands back. -/
def RetRdB (w : World) (m : Nat) (o : Option (List En × List Int)) (e : Ending) (w' : World) : Prop :=
  (o = none ∧ e = .returned (.tuple #[.slice none 0 0, .slice none 0 0, .bool false]) ∧ Below w.heap.size w w') ∨
  ∃ es ps L P ln d pn pd vs, o = some (es, ps) ∧ e = .returned (.tuple #[.slice L ln d, .slice P pn pd, .bool true]) ∧ ln ≤ m ∧ pn ≤ m ∧ (∀ x ∈ es, SzE x) ∧ RR w L P ln d pn pd es vs ps w'
theorem rdL_no {xs key : List UInt8} {f a : Nat} {es : List En} {ps : List Int} (h : a < xs.length) (hr : rdS xs key (a : Int) = none) : rdL xs (f + 1) (a : Int) key es ps = none := by
  rw [rdL, if_neg (by omega), hr]
theorem rdL_some {xs key : List UInt8} {f a : Nat} {b : Int} {x : En} {es : List En} {ps : List Int} (h : a < xs.length) (hr : rdS xs key (a : Int) = some (x, b)) : rdL xs (f + 1) (a : Int) key es ps = rdL xs f b x.key (es ++ [x]) (ps ++ [(a : Int)]) := by
  rw [rdL, if_neg (by omega), hr]
theorem info_int8 : (Try.prog.info? 3).map (fun i => (i.zero, i.size, i.bytes)) = some (some (.int .i64 0), 1, 8) := by kernel_rfl
theorem RR.place {w wr wx : World} {L P P' : Option Addr} {ln d pn pd pd' : Nat} {es : List En} {vs : List Value} {ps : List Int} {z : Int} (h : RR w L P ln d pn pd es vs ps wr) (hP : OwnV 3 wx w.heap.size P' (pn + 1) pd' (ps.map (fun z => Value.int .i64 z) ++ [.int .i64 z])) (hg : wr.grownBy wx (blk P)) : RR w L P' ln d (pn + 1) pd' es vs (ps ++ [z]) wx := by
  obtain ⟨h1, h2, h3, h4, h5, h6⟩ := h
  refine ⟨ownE_kept h1 hg (fun b hb e => row_ne h4 h1 (by decide) b e hb), EOs.kept hg h2 (eos_off h4 (by decide) h2), h3, by rw [List.map_append]; exact hP, by simp [h5], h6.grown hg h6.size (fun k hk => (OwnV.lt h4 k hk).1)⟩
theorem RR.key {w wr wx : World} {L P K : Option Addr} {ln d pn pd kn kc b : Nat} {es : List En} {vs : List Value} {ps : List Int} {key : List UInt8} (h : RR w L P ln d pn pd es vs ps wr) (hk : Own 5 wr b K kn kc key) (hg : wr.grownBy wx (blk P)) : Own 5 wx b K kn kc key := by
  obtain ⟨_, _, _, h4, _, _⟩ := h
  exact hk.kept hg (fun b hb e => row_ne h4 hk (by decide) b e hb)
theorem EO.mk8 {base kn kc vn vc : Nat} {w : World} {K V : Option Addr} {x : En} (hK : Own 5 w base K kn kc x.key) (hV : Own 5 w base V vn vc x.val) (hu : U64 x.seq ∧ x.kind < 256) : EO base w x (.slice K kn kc) (.int .u64 (x.seq : Int)) (.int .u8 (x.kind : Int)) (.slice V vn vc) :=
  ⟨K, kn, kc, V, vn, vc, rfl, rfl, rfl, rfl, hK, hV, hu.1, hu.2⟩
theorem RR.entry {w wr wx : World} {L L' P K V : Option Addr} {ln d d' pn pd kn kc vn vc : Nat} {es : List En} {vs : List Value} {ps : List Int} {x : En} (h : RR w L P ln d pn pd es vs ps wr) (hK : Own 5 wr w.heap.size K kn kc x.key) (hV : Own 5 wr w.heap.size V vn vc x.val) (hu : U64 x.seq ∧ x.kind < 256)
    (hL : OwnE wx w.heap.size L' (ln + 1) d' (vs ++ [.slice K kn kc, .int .u64 (x.seq : Int), .int .u8 (x.kind : Int), .slice V vn vc])) (hg : wr.grownBy wx (blk L)) :
    RR w L' P (ln + 1) d' pn pd (es ++ [x]) (vs ++ [.slice K kn kc, .int .u64 (x.seq : Int), .int .u8 (x.kind : Int), .slice V vn vc]) ps wx := by
  obtain ⟨h1, h2, h3, h4, h5, h6⟩ := h
  have kK := hK.kept hg (fun b hb e => row_ne h1 hK (by decide) b e hb)
  have kV := hV.kept hg (fun b hb e => row_ne h1 hV (by decide) b e hb)
  refine ⟨hL, (EOs.kept hg h2 (eos_off h1 (by decide) h2)).app (EOs.one (EO.mk8 kK kV hu)), by simp [h3], ?_, h5, h6.grown hg h6.size (fun k hk => (OwnE.lt h1 k hk).1)⟩
  refine World.ownsRow.kept h4 hg ?_
  rw [own_blk]
  cases hb : blk P with
  | none => exact .inl rfl
  | some b => exact .inr (fun e => row_ne h1 h4 (by decide) b e.symm hb)
theorem RR.keyE {w wr wx : World} {L P K : Option Addr} {ln d pn pd kn kc b : Nat} {es : List En} {vs : List Value} {ps : List Int} {key : List UInt8} (h : RR w L P ln d pn pd es vs ps wr) (hk : Own 5 wr b K kn kc key) (hg : wr.grownBy wx (blk L)) : Own 5 wx b K kn kc key :=
  hk.kept hg (fun g hb e => row_ne h.1 hk (by decide) g e hb)
set_option maxRecDepth 100000 in
set_option maxHeartbeats 16000000 in
theorem refRead_any {w : World} {A : Option Addr} {n c : Nat} {xs : List UInt8} (h : Rd w A n xs) (hn : n ≤ 1073741824) (hc : n ≤ c) (hnil : A = none → c = 0) :
    Calls Try.prog 128 #[.slice A n c] w (RetRdB w n (rdL xs (xs.length + 1) 0 [] [] [])) := by
  have hl := h.len
  obtain ⟨o, ho⟩ : ∃ o, o = rdL xs (xs.length + 1) 0 [] [] [] := ⟨_, rfl⟩
  rw [← ho]
  have HX := Lib.hid h
  have HL := Lib.hid hl
  have HO := Lib.hid ho
  have HNIL := Lib.hid hnil
  clear h hl ho hnil
  go_enter Try.func128, Try.ntmps128
  go_wp2_with fail
  go_loopw [5, 6, 7, 8] (fun s5 s6 s7 s8 wr => ∃ (a f ln d pn pd kn kc : Nat) (L P K : Option Addr) (es : List En) (vs : List Value) (ps : List Int) (key : List UInt8), a ≤ n ∧ s8 = .int .i64 (a : Int) ∧ s5 = .slice L ln d ∧ s6 = .slice P pn pd ∧ s7 = .slice K kn kc ∧ o = rdL xs f (a : Int) key es ps ∧ n < a + f ∧ ln ≤ a ∧ pn ≤ a ∧ kn ≤ a ∧ Own 5 wr w.heap.size K kn kc key ∧ RR w L P ln d pn pd es vs ps wr ∧ (∀ x ∈ es, SzE x)) (fun _ _ _ s _ => n - (intOf s).toNat)
  case atStart => exact ⟨0, xs.length + 1, 0, 0, 0, 0, 0, 0, none, none, none, [], [], [], [], Nat.zero_le _, rfl, rfl, rfl, rfl, HO.out, by have := HL.out; omega, Nat.le_refl _, Nat.le_refl _, Nat.zero_le _, Own.nil _ _ _, ⟨OwnE.nil _ _, rfl, rfl, OwnV.nil _ _ _, rfl, Below.refl _ _⟩, fun x hx => by cases hx⟩
  case round =>
    obtain ⟨a, f, ln, d, pn, pd, kn, kc, L, P, K, es, vs, ps, key, ha, rfl, rfl, rfl, rfl, hof, hf, hla, hpa, hkn, hK, hR, hSE⟩ := hrel
    have HSE := Lib.hid hSE
    clear hSE
    have HOF := Lib.hid hof
    have HK := Lib.hid hK
    have HR := Lib.hid hR
    clear hof hK hR
    by_cases hlt : a < n
    · -- A0
      have hnn : xs.length = n := HL.out
      obtain ⟨f', rfl⟩ : ∃ f', f = f' + 1 := ⟨f - 1, by omega⟩
      obtain ⟨s, p1, hg1⟩ : ∃ s p1, gN xs (a : Int) = (s, p1) := ⟨_, _, rfl⟩
      obtain ⟨b1, rfl, hb1, hb1n, hs⟩ := gN_pos (by omega) hg1
      obtain ⟨r, p2, hg2⟩ : ∃ r p2, gN xs (b1 : Int) = (r, p2) := ⟨_, _, rfl⟩
      obtain ⟨b2, rfl, hb2, hb2n, hr⟩ := gN_pos (by omega) hg2
      obtain ⟨m, k, q, hg3⟩ : ∃ m k q, getU xs (b2 : Int) = (m, k, q) := ⟨_, _, _, rfl⟩
      obtain ⟨v, p4, hg4⟩ : ∃ v p4, gN xs (k + 1) = (v, p4) := ⟨_, _, rfl⟩
      have HEQ := Lib.hid (rdS_eq (key := key) hg1 hg2 hg3 hg4)
      have HNO := Lib.hid (fun (hh : rdS xs key (a : Int) = none) => (HOF.out.trans (rdL_no (f := f') (es := es) (ps := ps) (by omega) hh)))
      have HC1 := Lib.hid (fun wx hx => refGet8_any A n c xs (a : Int) wx hx (by omega))
      have HC2 := Lib.hid (fun wx hx => refGet8_any A n c xs (b1 : Int) wx hx (by omega))
      have HC3 := Lib.hid (fun wx hx => refGetU_any A n c xs (b2 : Int) wx hx (by omega))
      rw [hg1] at HC1
      rw [hg2] at HC2
      rw [hg3] at HC3
      have HG3 := Lib.hid hg3
      have HG4 := Lib.hid hg4
      have HS := Lib.hid hs
      have HRR := Lib.hid hr
      have hpo := HR.out.2.2.2.1
      have hsz := HR.out.2.2.2.2.2.size
      have HHN := Lib.hid hnn
      clear hg1 hg2 hg3 hg4 hs hr hnn
      go_wp2_with (at_builtin; refine wpList_appV _ rfl _ _ 198 rfl w.heap.size 3 (.int .i64 0) 8 Try.underlying198 info_int8 rfl P pn pd _ rfl (OwnV.below hpo ((Below.refl _ _).alloc (Nat.le_refl _) _)) (some ⟨wr.heap.size, 0, none⟩) 1 1 [.int .i64 (a : Int)] rfl (OwnV.rd (ownV_box2 wr 3 wr.heap.size [.int .i64 (a : Int)] 1 rfl (by omega) (Nat.le_refl _) _ rfl)) (by intro u hu; rw [List.mem_singleton] at hu; rw [hu]; rfl) ?_ ?_ ?_ ?_)
      · unfold maxLen; omega
      · omega
      · simp; omega
      intro P' pd' w1 hP1 hgr _
      have hRa := HR.out.below ((Below.refl _ _).alloc (Nat.le_refl _) (.cells #[.int .i64 (a : Int)] 3))
      have hKa := HK.out.below ((Below.refl _ _).alloc (Nat.le_refl _) (.cells #[.int .i64 (a : Int)] 3))
      have HR1 := Lib.hid (hRa.place hP1 hgr)
      have HK1 := Lib.hid (hRa.key hKa hgr)
      have HX1 := Lib.hid (HX.out.below HR1.out.2.2.2.2.2)
      clear hP1 hgr hRa hKa hpo hsz HR HK
      go_wp2_with fail
      with_reducible refine (HC1.out _ HX1.out).mono ?_
      rintro e wx ⟨rfl, rfl⟩
      go_wp2_with fail
      with_reducible refine (HC2.out _ HX1.out).mono ?_
      rintro e wy ⟨rfl, rfl⟩
      go_wp2_with fail
      with_reducible refine (HC3.out _ HX1.out).mono ?_
      rintro e wz ⟨rfl, rfl⟩
      have hkl : key.length = kn := HK1.out.len
      have HKL := Lib.hid hkl
      clear hkl
      rcases HS.out with ⟨rfl, _⟩ | ⟨t, rfl, ht1, ht2⟩
      · have HNN := Lib.hid (HNO.out (by rw [HEQ.out, if_pos (.inl (by omega))]))
        go_wp2_with fail
        exact bodyPost_ret (v := .tuple #[.slice none 0 0, .slice none 0 0, .bool false]) (by simp [results, Try.f128, go_sem]; try rfl) rfl (.inl ⟨HNN.out, rfl, HR1.out.2.2.2.2.2⟩)
      · have e1 : ¬ (t : Int) < 0 := by omega
        rcases HRR.out with ⟨rfl, _⟩ | ⟨rr, rfl, hr1, hr2⟩
        · have HNN := Lib.hid (HNO.out (by rw [HEQ.out, if_pos (.inr (.inl (by omega)))]))
          go_wp2_with fail
          exact bodyPost_ret (v := .tuple #[.slice none 0 0, .slice none 0 0, .bool false]) (by simp [results, Try.f128, go_sem]; try rfl) rfl (.inl ⟨HNN.out, rfl, HR1.out.2.2.2.2.2⟩)
        · have e2 : ¬ (rr : Int) < 0 := by omega
          by_cases hq : q = 0
          · subst hq
            obtain ⟨kk, rfl, hk1, hk2, hm⟩ := getU_err (by have := HHN.out; omega) HG3.out rfl
            by_cases hkn2 : n ≤ kk
            · have d1 : decide (n ≤ kk) = true := by simpa using hkn2
              have HNN := Lib.hid (HNO.out (by rw [HEQ.out, if_pos (.inr (.inr (.inr (.inl (by have := HHN.out; omega)))))]))
              go_wp2_with fail
              exact bodyPost_ret (v := .tuple #[.slice none 0 0, .slice none 0 0, .bool false]) (by simp [results, Try.f128, go_sem]; try rfl) rfl (.inl ⟨HNN.out, rfl, HR1.out.2.2.2.2.2⟩)
            · have d1 : decide (n ≤ kk) = false := by simpa using hkn2
              by_cases hkey : kn < t
              · have d2 : decide (kn < t) = true := by simpa using hkey
                have HNN := Lib.hid (HNO.out (by rw [HEQ.out, if_pos (.inr (.inr (.inr (.inr (by have := HKL.out; omega)))))]))
                go_wp2_with fail
                exact bodyPost_ret (v := .tuple #[.slice none 0 0, .slice none 0 0, .bool false]) (by simp [results, Try.f128, go_sem]; try rfl) rfl (.inl ⟨HNN.out, rfl, HR1.out.2.2.2.2.2⟩)
              · have d2 : decide (kn < t) = false := by simpa using hkey
                have hg4 := HG4.out
                obtain ⟨j, hj⟩ : ∃ j, j = kk + 1 := ⟨_, rfl⟩
                have ej : ((kk : Int) + 1) = (j : Int) := by omega
                have ew : IntKind.i64.wrap ((kk : Int) + 1) = (j : Int) := by rw [IntWalk.i64_in _ (by omega)]; omega
                rw [ej] at hg4
                obtain ⟨b4, rfl, hb4, hb4n, hv⟩ := gN_pos (by have := HHN.out; omega) hg4
                have HC4 := Lib.hid (fun wx hx => refGet8_any A n c xs (j : Int) wx hx (by omega))
                rw [hg4] at HC4
                have HV := Lib.hid hv
                have hb4n' : b4 ≤ n := by have := HHN.out; omega
                have HJ := Lib.hid hj
                clear hg4 ej hj hv
                go_wp2_with fail
                with_reducible refine (HC4.out _ HX1.out).mono ?_
                rintro e wu ⟨rfl, rfl⟩
                obtain ⟨z1, hz1⟩ : ∃ z1, z1 = n - b4 := ⟨_, rfl⟩
                have ez : IntKind.i64.wrap ((n : Int) - (b4 : Int)) = (z1 : Int) := by rw [IntWalk.i64_in _ (by omega)]; omega
                have ez' : ((n : Int) - (b4 : Int)) = (z1 : Int) := by omega
                have HZ1 := Lib.hid hz1
                clear hz1
                rcases HV.out with ⟨rfl, _⟩ | ⟨tv, rfl, htv, hbj⟩
                · have HNN := Lib.hid (HNO.out (by rw [HEQ.out, if_neg (by have := HHN.out; have := HKL.out; omega), if_pos (.inl (by omega))]))
                  go_wp2_with fail
                  exact bodyPost_ret (v := .tuple #[.slice none 0 0, .slice none 0 0, .bool false]) (by simp [results, Try.f128, go_sem]; try rfl) rfl (.inl ⟨HNN.out, rfl, HR1.out.2.2.2.2.2⟩)
                · have e4 : ¬ (tv : Int) < 0 := by omega
                  by_cases hrz : z1 < rr
                  · have d3 : decide (z1 < rr) = true := by simpa using hrz
                    have HNN := Lib.hid (HNO.out (by rw [HEQ.out, if_neg (by have := HHN.out; have := HKL.out; omega), if_pos (.inr (.inl (by have := HHN.out; have := HZ1.out; omega)))]))
                    go_wp2_with fail
                    exact bodyPost_ret (v := .tuple #[.slice none 0 0, .slice none 0 0, .bool false]) (by simp [results, Try.f128, go_sem]; try rfl) rfl (.inl ⟨HNN.out, rfl, HR1.out.2.2.2.2.2⟩)
                  · have d3 : decide (z1 < rr) = false := by simpa using hrz
                    obtain ⟨z2, hz2⟩ : ∃ z2, z2 = z1 - rr := ⟨_, rfl⟩
                    have ey : IntKind.i64.wrap ((z1 : Int) - (rr : Int)) = (z2 : Int) := by rw [IntWalk.i64_in _ (by have := HZ1.out; omega)]; omega
                    have ey' : ((z1 : Int) - (rr : Int)) = (z2 : Int) := by omega
                    have HZ2 := Lib.hid hz2
                    clear hz2
                    by_cases hvz : z2 < tv
                    · have d4 : decide (z2 < tv) = true := by simpa using hvz
                      have HNN := Lib.hid (HNO.out (by rw [HEQ.out, if_neg (by have := HHN.out; have := HKL.out; omega), if_pos (.inr (.inr (by have := HHN.out; have := HZ1.out; have := HZ2.out; omega)))]))
                      go_wp2_with fail
                      exact bodyPost_ret (v := .tuple #[.slice none 0 0, .slice none 0 0, .bool false]) (by simp [results, Try.f128, go_sem]; try rfl) rfl (.inl ⟨HNN.out, rfl, HR1.out.2.2.2.2.2⟩)
                    · have d4 : decide (z2 < tv) = false := by simpa using hvz
                      have hcapK := HK1.out.cap.1
                      have htk : t ≤ kn := by omega
                      obtain ⟨x1, hx1⟩ : ∃ x1, x1 = b4 + rr := ⟨_, rfl⟩
                      have es1 : IntKind.i64.wrap ((b4 : Int) + (rr : Int)) = (x1 : Int) := by rw [IntWalk.i64_in _ (by omega)]; omega
                      have es1' : ((b4 : Int) + (rr : Int)) = (x1 : Int) := by omega
                      have es1w : IntKind.i64.wrap (x1 : Int) = (x1 : Int) := IntWalk.i64_in _ (by have := HZ1.out; omega)
                      have hx1n : x1 ≤ n := by have := HZ1.out; omega
                      have hxr : x1 - b4 = rr := by omega
                      have hsl1 : ∀ W : World, (Instr.slice 25 (.slice K kn kc) none (some (.int .i64 (t : Int))) none).run Try.prog W = .ok (.slice K t kc) W := cut_h Try.underlying25 elem_bytes size_u8 K (by omega)
                      have hsl2 : ∀ W : World, (Instr.slice 25 (.slice A n c) (some (.int .i64 (b4 : Int))) (some (.int .i64 (x1 : Int))) none).run Try.prog W = .ok (.slice (cutA A b4 c) rr (c - b4)) W := fun W => by
                        have := cut_lh (P := Try.prog) Try.underlying25 elem_bytes size_u8 A (n := n) (show b4 ≤ x1 by omega) (show x1 ≤ c by omega) W
                        rw [hxr] at this
                        exact this
                      have HKT : Hid (∀ wx, Below wu.heap.size wu wx → Rd wx K t (key.take t)) := Lib.hid (fun wx hb => (HK1.out.rd.take8 htk).below hb)
                      have HXR : Hid (∀ wx, Below wu.heap.size wu wx → Rd wx (cutA A b4 c) rr ((xs.drop b4).take rr)) := Lib.hid (fun wx hb => by
                        have h := (HX1.out.below hb).cut (k := b4) (m := x1) (cap := c) (by omega) (by omega) hc
                        rw [hxr, List.drop_take, hxr] at h
                        exact h)
                      have hB0 : Below wu.heap.size wu wu.drew := (Below.refl _ _).drew
                      have HCP : Hid (∀ wx, Below wu.heap.size wu wx → Calls Try.prog 17 #[.slice K t kc] wx (Made wx.heap.size wx (key.take t))) := Lib.hid (fun wx hb => Copy_any K t kc (key.take t) wx (HKT.out wx hb) (by omega))
                      have htl : (key.take t).length = t := by rw [List.length_take]; have := HKL.out; omega
                      have HTL := Lib.hid htl
                      have hbsz := HR1.out.2.2.2.2.2.size
                      have HHX := Lib.hid hx1
                      clear hcapK hx1 hxr htl
                      go_upto_region 15 with (fail)
                      go_cut [7] from 94 to 104 (fun s7 wx => ∃ K2 kc2, s7 = .slice K2 (t + rr) kc2 ∧ Own 5 wx w.heap.size K2 (t + rr) kc2 (key.take t ++ (xs.drop b4).take rr) ∧ Below wu.heap.size wu wx)
                      case first =>
                        go_region_law (first | (go_simp; go_at_call 17; with_reducible refine (HCP.out _ hB0).mono ?_; intro e w4 hq; obtain ⟨C, cn, cc, h1, oc, hb4c⟩ := Made.outM hq; subst h1; have hcn : cn = t := (oc.len.symm.trans HTL.out); subst hcn) | (refine step_app _ rfl _ _ 25 rfl wu.heap.size 5 Try.underlying25 info_u8 C cn cc _ (by first | (simp [Act.eval]; done) | (simp [Act.eval, Act.put]; done) | rfl) oc (cutA A b4 c) rr (c - b4) _ (by first | (simp [Act.eval]; done) | (simp [Act.eval, Act.put]; done) | rfl) (HXR.out _ (hB0.trans hb4c)) (by omega) hb4c.size ?_; intro C2 c2 w5 oc2 hb5))
                        all_goals
                          have HQ1 : Hid (Own 5 w5 w.heap.size C2 (cn + rr) c2 (key.take cn ++ (xs.drop b4).take rr)) := Lib.hid (oc2.mono (by omega))
                          have HQ2 : Hid (Below wu.heap.size wu w5) := Lib.hid ((hB0.trans hb4c).trans hb5)
                          clear oc oc2 hb4c hb5
                          go_wp2_with fail
                          go_meet
                          case rel => exact ⟨C2, c2, rfl, HQ1.out, HQ2.out⟩
                      case rest =>
                        obtain ⟨K2, kc2, rfl, oK2, bK2⟩ := hcut
                        have HK2 := Lib.hid oK2
                        have HBK := Lib.hid bK2
                        have HHT := Lib.hid ht1
                        have hkk : kk < n := by omega
                        obtain ⟨x2, hx2⟩ : ∃ x2, x2 = x1 + tv := ⟨_, rfl⟩
                        have hx2n : x2 ≤ n := by have := HZ1.out; have := HZ2.out; have := HHX.out; omega
                        have es2 : IntKind.i64.wrap ((x1 : Int) + (tv : Int)) = (x2 : Int) := by rw [IntWalk.i64_in _ (by omega)]; omega
                        have es2' : ((x1 : Int) + (tv : Int)) = (x2 : Int) := by omega
                        have es2w : IntKind.i64.wrap (x2 : Int) = (x2 : Int) := IntWalk.i64_in _ (by omega)
                        have hxt : x2 - x1 = tv := by omega
                        have hsl3 : ∀ W : World, (Instr.slice 25 (.slice A n c) (some (.int .i64 (x1 : Int))) (some (.int .i64 (x2 : Int))) none).run Try.prog W = .ok (.slice (cutA A x1 c) tv (c - x1)) W := fun W => by
                          have := cut_lh (P := Try.prog) Try.underlying25 elem_bytes size_u8 A (n := n) (show x1 ≤ x2 by omega) (show x2 ≤ c by omega) W
                          rw [hxt] at this
                          exact this
                        have HVR : Hid (∀ wx, Below wc.heap.size wc wx → Rd wx (cutA A x1 c) tv ((xs.drop x1).take tv)) := Lib.hid (fun wx hb => by
                          have h := ((HX1.out.below HBK.out).below hb).cut (k := x1) (m := x2) (cap := c) (by omega) hx2n hc
                          rw [hxt, List.drop_take, hxt] at h
                          exact h)
                        have HCV : Hid (∀ wx, Below wc.heap.size wc wx → Calls Try.prog 17 #[.slice (cutA A x1 c) tv (c - x1)] wx (Made wx.heap.size wx ((xs.drop x1).take tv))) := Lib.hid (fun wx hb => Copy_any (cutA A x1 c) tv (c - x1) _ wx (HVR.out wx hb) (by omega))
                        have HVL : Hid (((xs.drop x1).take tv).length = tv) := Lib.hid (by rw [List.length_take, List.length_drop]; have := HHN.out; omega)
                        obtain ⟨bb, off, hAb, hbl⟩ := HX1.out.pos (by omega)
                        subst hAb
                        obtain ⟨y, hy1, hy2, _⟩ := HX1.out.at_ kk hkk
                        have HY := Lib.hid hy1
                        have HLD : Hid (∀ wx, Below wu.heap.size wu wx → wx.cell? ⟨bb, off + kk, none⟩ = some (.int .u8 (y.toNat : Int))) := Lib.hid (fun wx hb => (hb.cell hbl).trans hy2)
                        obtain ⟨x, hx⟩ : ∃ x : En, x = ⟨key.take t ++ (xs.drop b4).take rr, m, y.toNat, (xs.drop x1).take tv⟩ := ⟨_, rfl⟩
                        have HE : Hid (∀ (wr2 wx : World) (L2 C : Option Addr) (d2 cc : Nat), RR w L P' ln d (pn + 1) pd' es vs (ps ++ [(a : Int)]) wr2 → Own 5 wr2 w.heap.size K2 (t + rr) kc2 (key.take t ++ (xs.drop b4).take rr) → Own 5 wr2 w.heap.size C tv cc ((xs.drop x1).take tv) →
                            OwnE wx w.heap.size L2 (ln + 1) d2 (vs ++ [.slice K2 (t + rr) kc2, .int .u64 (m : Int), .int .u8 (y.toNat : Int), .slice C tv cc]) → wr2.grownBy wx (blk L) →
                            RR w L2 P' (ln + 1) d2 (pn + 1) pd' (es ++ [x]) (vs ++ [.slice K2 (t + rr) kc2, .int .u64 (m : Int), .int .u8 (y.toNat : Int), .slice C tv cc]) (ps ++ [(a : Int)]) wx ∧ Own 5 wx w.heap.size K2 (t + rr) kc2 x.key) := Lib.hid (fun wr2 wx L2 C d2 cc h1 h2 h3 h4 h5 => by
                          rw [hx]
                          exact ⟨RR.entry (x := ⟨_, m, y.toNat, _⟩) h1 h2 h3 ⟨hm, UInt8.toNat_lt y⟩ h4 h5, RR.keyE h1 h2 h5⟩)
                        have HXX := Lib.hid hx
                        have HX2 := Lib.hid hx2
                        have hB1 : Below wc.heap.size wc wc.drew := (Below.refl _ _).drew
                        have q0 : wc.cell? ⟨bb, off + kk, none⟩ = some (.int .u8 (y.toNat : Int)) := HLD.out _ HBK.out
                        have HSZ := Lib.hid HBK.out.size
                        clear hy1 hy2 hx hx2 oK2 bK2 hxt ht1 hsl1 hsl2
                        go_upto_region 16 with (fail)
                        go_cut [5] from 105 to 125 (fun s5 wx => ∃ L2 d2 vs2, s5 = .slice L2 (ln + 1) d2 ∧ RR w L2 P' (ln + 1) d2 (pn + 1) pd' (es ++ [x]) vs2 (ps ++ [(a : Int)]) wx ∧ Own 5 wx w.heap.size K2 (t + rr) kc2 x.key)
                        case first =>
                          go_region_law (first | (go_simp; go_at_call 17; with_reducible refine (HCV.out _ hB1).mono ?_; intro e w4 hq; obtain ⟨C, cn, cc, h1, oc, hb4c⟩ := Made.outM hq; subst h1; have hcn : cn = tv := (oc.len.symm.trans HVL.out); subst hcn; have hbw := belowT' hB1 hb4c; have p0 := HLD.out _ (HBK.out.trans (hbw.mono HSZ.out))) | (refine step_app4 _ rfl _ _ 22 rfl w.heap.size _ 64 Try.underlying22 info_ent rfl L ln d vs (by first | (simp [Act.eval]; done) | (simp [Act.eval, Act.put]; done) | rfl) ((HR1.out.below HBK.out).below (hbw.alloc hbw.size _)).1 ⟨w4.heap.size, 0, none⟩ 1 1 [.slice K2 (t + rr) kc2, .int .u64 (m : Int), .int .u8 (y.toNat : Int), .slice C cn cc] (by first | (simp [Act.eval]; done) | (simp [Act.eval, Act.put]; done) | rfl) (rdv_of_cl (Cl.new w4 #[.slice K2 (t + rr) kc2, .int .u64 (m : Int), .int .u8 (y.toNat : Int), .slice C cn cc] 37)) (by omega) (by simp [Value.oneCell']) (by unfold maxLen; omega) (by omega) ((HR1.out.below HBK.out).below (hbw.alloc hbw.size _)).2.2.2.2.2.size ?_; intro L2 d2 w6 hL hg))
                          all_goals
                            have HQ := Lib.hid (HE.out _ _ _ _ _ _ ((HR1.out.below HBK.out).below (hbw.alloc hbw.size _)) ((HK2.out.below hbw).below ((Below.refl _ _).alloc (Nat.le_refl _) _)) ((oc.mono (by have := HR1.out.2.2.2.2.2.size; have := hbw.size; have := HSZ.out; have := hB1.size; omega)).below ((Below.refl _ _).alloc (Nat.le_refl _) _)) hL hg)
                            clear hL hg oc hb4c p0 hbw
                            go_wp2_with fail
                            go_meet
                            case rel => exact ⟨L2, d2, _, rfl, HQ.out.1, HQ.out.2⟩
                        case rest =>
                          obtain ⟨L2, d2, vs2, rfl, hR2, hK3⟩ := hcut
                          have HR3 := Lib.hid hR2
                          have HK3 := Lib.hid hK3
                          clear hR2 hK3
                          have hrd : rdS xs key (a : Int) = some (x, (x2 : Int)) := by
                            rw [HEQ.out, if_neg (by have := HHN.out; have := HKL.out; omega), if_neg (by have := HHN.out; have := HZ1.out; have := HZ2.out; omega), HXX.out]
                            have e1 : ((b4 : Int) + (rr : Int)).toNat = x1 := by omega
                            have e2 : (b4 : Int) + (rr : Int) + (tv : Int) = (x2 : Int) := by omega
                            rw [e1, e2]
                            simp only [Int.toNat_natCast]
                            rw [HY.out]
                            rfl
                          have HOK : Hid (o = rdL xs f' (x2 : Int) x.key (es ++ [x]) (ps ++ [(a : Int)])) := Lib.hid (HOF.out.trans (rdL_some (by have := HHN.out; omega) hrd))
                          clear hrd
                          go_wp2_with fail
                          go_roundw
                          case rel => exact ⟨x2, f', ln + 1, d2, pn + 1, pd', t + rr, kc2, L2, P', K2, es ++ [x], vs2, ps ++ [(a : Int)], x.key, hx2n, by go_num, rfl, rfl, rfl, HOK.out, by have := HX2.out; have := HHX.out; have := HJ.out; omega, by have := HX2.out; have := HHX.out; have := HJ.out; omega, by have := HX2.out; have := HHX.out; have := HJ.out; omega, by have := HX2.out; have := HHX.out; have := HJ.out; have := HHT.out; omega, HK3.out, HR3.out, fun z hz => by
                            rcases List.mem_append.1 hz with h1 | h1
                            · exact HSE.out z h1
                            · rw [List.mem_singleton] at h1
                              rw [h1, HXX.out]
                              refine ⟨?_, ?_⟩
                              · simp only [List.length_append, List.length_take, List.length_drop]; have := HHN.out; omega
                              · simp only [List.length_take, List.length_drop]; have := HHN.out; omega⟩
                          case measure => have := HX2.out; have := HHX.out; have := HJ.out; simp [intOf]; omega
          · have t1 : ((q : Int) == 0) = false := by simpa using hq
            have HNN := Lib.hid (HNO.out (by rw [HEQ.out, if_pos (.inr (.inr (.inl hq)))]))
            go_wp2_with fail
            exact bodyPost_ret (v := .tuple #[.slice none 0 0, .slice none 0 0, .bool false]) (by simp [results, Try.f128, go_sem]; try rfl) rfl (.inl ⟨HNN.out, rfl, HR1.out.2.2.2.2.2⟩)
      -- A1
    · obtain rfl : a = n := by omega
      obtain ⟨f', rfl⟩ : ∃ f', f = f' + 1 := ⟨f - 1, by omega⟩
      have hsm : o = some (es, ps) := by rw [HOF.out, rdL, if_pos (by have := HL.out; omega)]
      have HSM := Lib.hid hsm
      clear hsm
      go_wp2_with fail
      exact bodyPost_ret (v := .tuple #[.slice L ln d, .slice P pn pd, .bool true]) (by simp [results, Try.f128, go_sem]; try rfl) rfl (.inr ⟨es, ps, L, P, ln, d, pn, pd, vs, HSM.out, rfl, hla, hpa, HSE.out, HR.out⟩)
end Go.Proofs.Ytcclhkoggijkaaa
namespace Go.Proofs.Ytcclhkoggijkaaa
open Go Go.RowKit Go.Maps

/-- 'The disk at block p lives, isn't armed, and holds these files.' -/
def Live (w : World) (p : Nat) (bl : List Nat) (room u : Nat) (fs : List FE) : Prop :=
  ∃ m rs, DskR w p m rs (room : Int) (u : Int) 0 false false ∧ bl = allB p m rs ∧ rs.map FR.val = fs ∧ risingF fs
def RetLv (w : World) (p : Nat) (bl : List Nat) (room u : Nat) (fs : List FE) (v : Value) (e : Ending) (w' : World) : Prop :=
  e = .returned v ∧ ∃ bl', Live w' p bl' room u fs ∧ Fr w w' bl ∧ ∀ b ∈ bl', b ∈ bl ∨ w.heap.size ≤ b
def RetNw (w : World) (room : Nat) (e : Ending) (w' : World) : Prop :=
  ∃ p bl, e = .returned (.pointer (some ⟨p, 0, none⟩)) ∧ Live w' p bl room 0 [] ∧ (∀ b ∈ bl, w.heap.size ≤ b) ∧ Below w.heap.size w w'
section
variable {w w' : World} {p : Nat} {bl : List Nat} {room u : Nat} {fs : List FE}
theorem Live.fr {bl2 : List Nat} (h : Live w p bl room u fs) (hf : Fr w w' bl2) (ho : ∀ b ∈ bl, b ∉ bl2) : Live w' p bl room u fs := by
  obtain ⟨m, rs, h1, rfl, h3, h4⟩ := h
  exact ⟨m, rs, h1.fr hf ho, rfl, h3, h4⟩
theorem Live.lt (h : Live w p bl room u fs) : ∀ b ∈ bl, b < w.heap.size := by
  obtain ⟨m, rs, h1, rfl, h3, h4⟩ := h
  exact h1.lt
theorem Live.below (h : Live w p bl room u fs) (hb : Below w.heap.size w w') : Live w' p bl room u fs := h.fr (Fr.of_below hb []) (fun _ _ h => by cases h)
theorem Live.drewN (h : Live w p bl room u fs) (q : Nat) : Live (w.drewN q) p bl room u fs := h.fr (Fr.drewN (Fr.refl w []) q) (fun _ _ h => by cases h)
theorem Live.grown {row : Option Nat} (h : Live w p bl room u fs) (hg : w.grownBy w' row) (hr : ∀ b, row = some b → b ∉ bl) : Live w' p bl room u fs :=
  h.fr (Fr.of_grown (bl := row.toList) hg (fun b hb => by rw [hb]; simp)) (fun b hb hm => by
    cases row with
    | none => simp at hm
    | some k => simp at hm; exact hr k rfl (by rw [← hm]; exact hb))
theorem Fam.fr {base : Nat} {ps : List VB} (h : Fam w base ps) (hf : Fr w w' bl) (ho : ∀ p ∈ ps, ∀ b, Value.ownBlock p.1 = some b → b ∉ bl) : Fam w' base ps := by
  refine ⟨fun p hp => ?_, h.2⟩
  obtain ⟨A, m, c, e, ho'⟩ := h.1 p hp
  exact ⟨A, m, c, e, ho'.fr hf (fun b hb => ho p hp b (by rw [e, own_blk]; exact hb))⟩
theorem of_name {rs : List FR} {f : FE} (e : rs.map FR.val = fs) (hf : f ∈ fs) : ∃ r ∈ rs, r.name = f.1 ∧ r.dat = f.2.1 ∧ r.saf = f.2.2 := by
  rw [← e] at hf
  obtain ⟨r, hr, rfl⟩ := List.mem_map.1 hf
  exact ⟨r, hr, rfl, rfl, rfl⟩
theorem len_of {rs : List FR} (e : rs.map FR.val = fs) : rs.length = fs.length := by rw [← e, List.length_map]
theorem New_live (n : Nat) (w : World) (hn : n ≤ 9223372036854775807) : Calls Try.prog 15 #[.int .i64 (n : Int)] w (RetNw w n) := by
  have fin : RetNw w n (.returned (.pointer (some ⟨w.heap.size, 0, none⟩))) (w.alloc (.cells (headV none (n : Int) 0 0 false false) 126)) :=
    ⟨w.heap.size, _, rfl, ⟨none, [], DskR.init w _, rfl, rfl, List.Pairwise.nil⟩, (fun b hb => by simp [allB] at hb; omega), (Below.refl _ _).alloc (Nat.le_refl _) _⟩
  have HF := Lib.hid fin
  clear fin
  have h3 : max (n : Int) 0 = n := by omega
  go_enter Try.func15, Try.ntmps15
  go_wp2
  go_ret
  exact HF.out
theorem append_live_new (x : List UInt8) (B : Option Addr) (n c : Nat) (ys : List UInt8) (h : Live w p bl room u fs) (hno : ∀ f ∈ fs, f.1 ≠ x) (hB : Rd w B n ys) (hBo : ∀ b, blk B = some b → b ∉ bl)
    (hf : u + n ≤ room) (hR : room ≤ 9223372036854775807) (hn : n ≤ 1099511627776) (hx : x.length ≤ 1099511627776) (hrs : fs.length ≤ 1099511627776) :
    Calls Try.prog 16 #[.pointer (some ⟨p, 0, none⟩), .string (tx x), .slice B n c] w (RetLv w p bl room (u + n) (putF (x, ys, 0) fs) (.int .i64 0)) := by
  obtain ⟨m, rs, h1, rfl, h3, h4⟩ := h
  have hu : rsUp rs := rsUp_of (by rw [h3]; exact h4)
  have hl := len_of h3
  refine (append_new x B n c ys u room h1 hu (fun r hr e => hno r.val (by rw [← h3]; exact List.mem_map.2 ⟨r, hr, rfl⟩) e) hB hBo hf hR hn hx (by omega) (by omega)).mono ?_
  rintro e w' ⟨rfl, r', m', hn', hd', hs', hD', hF', hB'⟩
  refine ⟨by simp [tE], _, ⟨m', _, hD', rfl, ?_, ?_⟩, hF', hB'⟩
  · rw [putR_val, h3]
    unfold FR.val
    rw [hn', hd', hs']
  · exact putF_up h4
theorem append_live_old {f : FE} (B : Option Addr) (n c : Nat) (ys : List UInt8) (h : Live w p bl room u fs) (hfm : f ∈ fs) (hB : Rd w B n ys)
    (hf : u + n ≤ room) (hR : room ≤ 9223372036854775807) (hn : n ≤ 1099511627776) (hd : f.2.1.length ≤ 1099511627776) (hx : f.1.length ≤ maxLen) :
    Calls Try.prog 16 #[.pointer (some ⟨p, 0, none⟩), .string (tx f.1), .slice B n c] w (RetLv w p bl room (u + n) (putF (f.1, f.2.1 ++ ys, f.2.2) fs) (.int .i64 0)) := by
  obtain ⟨m, rs, h1, rfl, h3, h4⟩ := h
  have hu : rsUp rs := rsUp_of (by rw [h3]; exact h4)
  obtain ⟨r, hr, e1, e2, e3⟩ := of_name h3 hfm
  rw [← e1, ← e2, ← e3]
  refine (append_old B n c ys u room h1 hu hr hB hf hR hn (by rw [e2]; exact hd) (by rw [e1]; exact hx) (by omega)).mono ?_
  rintro e w' ⟨rfl, r', hn', hd', hs', hD', hF', hB'⟩
  refine ⟨by simp [tE], _, ⟨m, _, hD', rfl, ?_, ?_⟩, hF', hB'⟩
  · rw [putR_val, h3]
    unfold FR.val
    rw [hn', hd', hs']
  · exact putF_up h4
theorem sync_live {f : FE} (h : Live w p bl room u fs) (hfm : f ∈ fs) (hx : f.1.length ≤ maxLen) :
    Calls Try.prog 151 #[.pointer (some ⟨p, 0, none⟩), .string (tx f.1)] w (RetLv w p bl room u (putF (f.1, f.2.1, f.2.1.length) fs) (.int .i64 0)) := by
  obtain ⟨m, rs, h1, rfl, h3, h4⟩ := h
  have hu : rsUp rs := rsUp_of (by rw [h3]; exact h4)
  obtain ⟨r, hr, e1, e2, e3⟩ := of_name h3 hfm
  rw [← e1, ← e2]
  refine (sync_some h1 hu hr (by rw [e1]; exact hx) (by omega) (by simp [tE])).mono ?_
  rintro e w' ⟨rfl, r', hn', hd', hs', hD', hF', hB'⟩
  refine ⟨rfl, _, ⟨m, _, hD', rfl, ?_, ?_⟩, hF', hB'⟩
  · rw [putR_val, h3]
    unfold FR.val
    rw [hn', hd', hs']
  · exact putF_up h4
theorem read_live {f : FE} (h : Live w p bl room u fs) (hfm : f ∈ fs) (hx : f.1.length ≤ maxLen) (hd : f.2.1.length ≤ 1099511627776) :
    Calls Try.prog 68 #[.pointer (some ⟨p, 0, none⟩), .string (tx f.1)] w (RetRd w f.2.1 0) := by
  obtain ⟨m, rs, h1, rfl, h3, h4⟩ := h
  obtain ⟨r, hr, e1, e2, e3⟩ := of_name h3 hfm
  have := read_some h1 hr (by rw [e1]; exact hx) (by rw [e2]; exact hd)
  rw [e1, e2] at this
  exact this
end
end Go.Proofs.Ytcclhkoggijkaaa
namespace Go.Proofs.Ytcclhkoggijkaaa
open Go Go.RowKit

theorem info_les : (Try.prog.info? 22).map (fun i => (i.zero, i.size, i.bytes)) = some (some (.slice none 0 0), 1, 24) := by kernel_rfl
/-- 'These slices read as these lists.' -/
def LsV (w : World) : List (List En) → List Value → Prop
  | [], vs => vs = []
  | es :: ls, vs => ∃ B m c r, vs = .slice B m c :: r ∧ REs w B m es ∧ m ≤ c ∧ LsV w ls r
theorem LsV.below {w w' : World} (hb : Below w.heap.size w w') : ∀ {ls : List (List En)} {vs : List Value}, LsV w ls vs → LsV w' ls vs
  | [], _, h => h
  | _ :: _, _, ⟨B, m, c, r, e, h1, h2, h3⟩ => ⟨B, m, c, r, e, h1.below hb, h2, LsV.below hb h3⟩
theorem LsV.snoc {w : World} {es : List En} {B : Option Addr} {m c : Nat} (hr : REs w B m es) (hc : m ≤ c) : ∀ {ls : List (List En)} {vs : List Value}, LsV w ls vs → LsV w (ls ++ [es]) (vs ++ [.slice B m c])
  | [], _, h => by rw [h]; exact ⟨B, m, c, [], rfl, hr, hc, rfl⟩
  | _ :: _, _, ⟨B', m', c', r, e, h1, h2, h3⟩ => ⟨B', m', c', _, by rw [e]; rfl, h1, h2, LsV.snoc hr hc h3⟩
theorem LsV.at_ {w : World} : ∀ {ls : List (List En)} {vs : List Value} (i : Nat) {es : List En}, LsV w ls vs → ls[i]? = some es → ∃ B m c, vs[i]? = some (.slice B m c) ∧ REs w B m es ∧ m ≤ c
  | [], _, i, _, _, h => by simp at h
  | _ :: _, _, 0, es, ⟨B, m, c, r, e, h1, h2, h3⟩, h => by
    injection h with h
    subst h
    exact ⟨B, m, c, by rw [e]; rfl, h1, h2⟩
  | _ :: _, _, i + 1, es, ⟨B, m, c, r, e, h1, h2, h3⟩, h => by
    obtain ⟨B', m', c', k1, k2, k3⟩ := LsV.at_ i h3 h
    exact ⟨B', m', c', by rw [e]; exact k1, k2, k3⟩
theorem LsV.rls {w : World} {A : Option Addr} {n : Nat} {ls : List (List En)} {vs : List Value} (h : LsV w ls vs) (hd : RdV w A n vs) (hl : ls.length = n) : RLs w A n ls := by
  refine ⟨hl, fun h0 => ?_⟩
  obtain ⟨b, off, e, hb, hc⟩ := hd.2 h0
  refine ⟨b, off, e, hb, fun i es hi => ?_⟩
  obtain ⟨B, m, c, k1, k2, k3⟩ := h.at_ i hi
  exact ⟨B, m, c, hc i _ k1, k2, k3⟩
/-- Lists that can be read. -/
def RetLs (w : World) (ls : List (List En)) (e : Ending) (w' : World) : Prop := ∃ L k d, e = .returned (.slice L k d) ∧ RLs w' L k ls ∧ k ≤ d ∧ Below w.heap.size w w'
theorem RetLs.out {w w' : World} {ls : List (List En)} {e : Ending} (h : RetLs w ls e w') : ∃ L k d, e = .returned (.slice L k d) ∧ RLs w' L k ls ∧ k ≤ d ∧ Below w.heap.size w w' := h
/-- 'So far made.' -/
def PkS (w : World) (ls : List (List En)) (L : Option Addr) (k d : Nat) (wr : World) : Prop :=
  ∃ vs, OwnV 22 wr w.heap.size L k d vs ∧ LsV w ls vs ∧ ls.length = k ∧ Below w.heap.size w wr
theorem PkS.bel {w wr : World} {ls : List (List En)} {L : Option Addr} {k d : Nat} (h : PkS w ls L k d wr) : Below w.heap.size w wr := by
  obtain ⟨vs, h1, h2, h3, h4⟩ := h
  exact h4
/-- At most six lists of at most 30. -/
def cutL (ls : List (List En)) : List (List En) := (ls.take 6).map (fun es => es.take 30)
theorem cutL_step {ls : List (List En)} {k : Nat} {es : List En} (h : ls[k]? = some es) : ((ls.take (k + 1)).map (fun es => es.take 30)) = (ls.take k).map (fun es => es.take 30) ++ [es.take 30] := by
  rw [List.take_add_one, h]
  simp
set_option maxRecDepth 100000 in
set_option maxHeartbeats 8000000 in
theorem some11_any {w : World} {A : Option Addr} {n c : Nat} {ls : List (List En)} (h : RLs w A n ls) (hn : n ≤ 1099511627776) : Calls Try.prog 25 #[.slice A n c] w (RetLs w (cutL ls)) := by
  have HL := Lib.hid h.1
  have HR := Lib.hid h
  clear h
  go_enter Try.func25, Try.ntmps25
  go_wp2_with fail
  go_loopw [3, 4] (fun s3 s4 wr => ∃ (k d : Nat) (L : Option Addr), k ≤ n ∧ k ≤ 6 ∧ s4 = .int .i64 (k : Int) ∧ s3 = .slice L k d ∧ PkS w ((ls.take k).map (fun es => es.take 30)) L k d wr) (fun _ s _ => 6 - (intOf s).toNat)
  case atStart => exact ⟨0, 0, none, Nat.zero_le _, Nat.zero_le _, rfl, rfl, [], OwnV.nil _ _ _, rfl, rfl, Below.refl _ _⟩
  case round =>
    obtain ⟨k, d, L, hk, hk6, rfl, rfl, hP⟩ := hrel
    have HP := Lib.hid hP
    have HB := Lib.hid hP.bel
    clear hP
    by_cases hlt : k < n
    · by_cases hl6 : k < 6
      · obtain ⟨b, off, hAb, hbl⟩ := HR.out.pos (by omega)
        subst hAb
        obtain ⟨es, B, m, d1, hx, c0, hre, hmd⟩ := HR.out.at_ k hlt
        have d0 := (HB.out.cell (p := ⟨b, off + k, none⟩) hbl).trans c0
        obtain ⟨mm, hmm⟩ : ∃ mm, mm = min m 30 := ⟨_, rfl⟩
        have HFW : Hid (∀ w, Calls Try.prog 81 #[.slice B m d1, .int .i64 30] w (fun e w' => e = .returned (.slice B mm d1) ∧ w' = w)) := Lib.hid (fun w => by rw [hmm]; exact few11_any (m := 30) hmd w)
        have HRT : Hid (REs w B mm (es.take 30)) := Lib.hid (by
          obtain ⟨us, q1, q2⟩ := hre.takeV (m := mm) (by omega)
          have e1 : es.take mm = es.take 30 := by
            have := hre.len
            rcases Nat.le_total m 30 with h | h
            · rw [List.take_of_length_le (by omega), List.take_of_length_le (by omega)]
            · rw [show mm = 30 by omega]
          rw [e1] at q1
          exact REs.mk q1 q2 (by rw [List.length_take, hre.len]; omega))
        have HST := Lib.hid (cutL_step hx)
        have hmd2 : mm ≤ d1 := by omega
        obtain ⟨vs, o1, hv1, hl1, hb1⟩ := HP.out
        have O1 := Lib.hid (OwnV.below o1 ((Below.refl _ _).alloc (Nat.le_refl _) (.cells #[.slice B mm d1] 22)))
        have HV1 := Lib.hid hv1
        have HL1 := Lib.hid hl1
        have sB := hb1.size
        have HBA := Lib.hid (hb1.alloc hb1.size (.cells #[.slice B mm d1] 22))
        have HRD := Lib.hid (OwnV.rd (ownV_box2 wr 22 wr.heap.size [.slice B mm d1] 1 rfl (by omega) (Nat.le_refl _) _ rfl))
        have hone : ∀ u ∈ [Value.slice B mm d1], u.oneCell' = true := by intro u hu; rw [List.mem_singleton] at hu; rw [hu]; rfl
        have HON := Lib.hid hone
        have hmm30 : mm ≤ 30 := by omega
        clear hx c0 hre o1 hv1 hl1 hb1 hone hmm
        go_wp2_with fail
        with_reducible refine (HFW.out _).mono ?_
        intro e wq hq
        obtain ⟨he, hwq⟩ := hq
        subst he
        rw [hwq]
        clear hwq
        go_wp2_with (at_builtin; refine wpList_appV (wr.alloc (.cells #[.slice B mm d1] 22)) rfl _ _ 53 rfl w.heap.size 22 (.slice none 0 0) 24 Try.underlying53 info_les rfl L k d vs rfl O1.out (some ⟨wr.heap.size, 0, none⟩) 1 1 [.slice B mm d1] rfl HRD.out HON.out ?_ ?_ ?_ ?_)
        · unfold maxLen; omega
        · omega
        · simp; omega
        intro L2 d2 w3 o2 hg2 _
        have HP3 : Hid (PkS w ((ls.take (k + 1)).map (fun es => es.take 30)) L2 (k + 1) d2 w3) := Lib.hid (by
          rw [HST.out]
          exact ⟨_, o2, LsV.snoc HRT.out hmd2 HV1.out, by rw [List.length_append, HL1.out]; rfl, HBA.out.grown hg2 HBA.out.size (fun g hg => (OwnV.lt O1.out g hg).1)⟩)
        clear o2 hg2 d0
        go_wp2_with fail
        go_roundw
        case rel => exact ⟨k + 1, d2, L2, by omega, by omega, by go_num, rfl, HP3.out⟩
        case measure => simp [intOf]; omega
      · have hk66 : k = 6 := by omega
        have hlt' : (k : Int) < (n : Int) := by omega
        have hF : (ls.take k).map (fun es => es.take 30) = cutL ls := by unfold cutL; rw [hk66]
        obtain ⟨vs, o1, hv1, hl1, hb1⟩ := HP.out
        have HF : Hid (RetLs w (cutL ls) (.returned (.slice L k d)) wr) := Lib.hid ⟨L, k, d, rfl, by rw [← hF]; exact LsV.rls (hv1.below hb1) o1.rd hl1, o1.cap.1, hb1⟩
        clear o1 hv1 hl1 hb1 hF hk66
        go_wp2_with fail
        go_ret
        exact HF.out
    · have hF : (ls.take k).map (fun es => es.take 30) = cutL ls := by
        unfold cutL
        have := HL.out
        rw [List.take_of_length_le (by omega), List.take_of_length_le (by omega)]
      obtain ⟨vs, o1, hv1, hl1, hb1⟩ := HP.out
      have HF : Hid (RetLs w (cutL ls) (.returned (.slice L k d)) wr) := Lib.hid ⟨L, k, d, rfl, by rw [← hF]; exact LsV.rls (hv1.below hb1) o1.rd hl1, o1.cap.1, hb1⟩
      clear o1 hv1 hl1 hb1 hF
      go_wp2_with fail
      go_ret
      exact HF.out
/-- 'These slices are lists of the call's own.' -/
def LsO (base : Nat) (w : World) : List (List En) → List Value → Prop
  | [], vs => vs = []
  | es :: ls, vs => ∃ B m c r us, vs = .slice B m c :: r ∧ OwnE w base B m c us ∧ EOs base w es us ∧ es.length = m ∧ LsO base w ls r
theorem LsO.below {base : Nat} {w w' : World} (hb : Below w.heap.size w w') : ∀ {ls : List (List En)} {vs : List Value}, LsO base w ls vs → LsO base w' ls vs
  | [], _, h => h
  | _ :: _, _, ⟨B, m, c, r, us, e, h1, h2, h3, h4⟩ => ⟨B, m, c, r, us, e, h1.below hb, h2.below hb, h3, LsO.below hb h4⟩
theorem LsO.kept {base b1 n c : Nat} {w w' : World} {L : Option Addr} {vs0 : List Value} (ho : OwnV 22 w b1 L n c vs0) (hg : w.grownBy w' (blk L)) : ∀ {ls : List (List En)} {vs : List Value}, LsO base w ls vs → LsO base w' ls vs
  | [], _, h => h
  | _ :: _, _, ⟨B, m, c, r, us, e, h1, h2, h3, h4⟩ => ⟨B, m, c, r, us, e, ownE_kept h1 hg (fun b hb e => row_ne ho h1 (by decide) b e hb), EOs.kept hg h2 (eos_off ho (by decide) h2), h3, LsO.kept ho hg h4⟩
theorem LsO.snoc {base : Nat} {w : World} {es : List En} {B : Option Addr} {m c : Nat} {us : List Value} (hr : OwnE w base B m c us) (he : EOs base w es us) (hl : es.length = m) : ∀ {ls : List (List En)} {vs : List Value}, LsO base w ls vs → LsO base w (ls ++ [es]) (vs ++ [.slice B m c])
  | [], _, h => by rw [h]; exact ⟨B, m, c, [], us, rfl, hr, he, hl, rfl⟩
  | _ :: _, _, ⟨B', m', c', r, us', e, h1, h2, h3, h4⟩ => ⟨B', m', c', _, us', by rw [e]; rfl, h1, h2, h3, LsO.snoc hr he hl h4⟩
theorem LsO.lsv {base : Nat} {w : World} : ∀ {ls : List (List En)} {vs : List Value}, LsO base w ls vs → LsV w ls vs
  | [], _, h => h
  | _ :: _, _, ⟨B, m, c, r, _, e, h1, h2, h3, h4⟩ => ⟨B, m, c, r, e, REs.mk h2.evs h1.rd h3, h1.cap.1, LsO.lsv h4⟩
set_option maxRecDepth 100000 in
set_option maxHeartbeats 8000000 in
theorem twins11_any {w : World} {A : Option Addr} {n c : Nat} {ls : List (List En)} (h : RLs w A n ls) (hn : n ≤ 1099511627776) (hm : ∀ es ∈ ls, es.length ≤ 1099511627776) (hs : ∀ es ∈ ls, ∀ x ∈ es, SzE x) : Calls Try.prog 26 #[.slice A n c] w (RetLs w ls) := by
  have HL := Lib.hid h.1
  have HR := Lib.hid h
  have HS := Lib.hid hs
  have HM := Lib.hid hm
  clear h hs hm
  go_enter Try.func26, Try.ntmps26
  go_wp2_with fail
  go_loopw [3, 8] (fun s3 s8 wr => ∃ (k d : Nat) (L : Option Addr) (vs : List Value), k ≤ n ∧ s8 = .int .i64 (k : Int) ∧ s3 = .slice L k d ∧ OwnV 22 wr w.heap.size L k d vs ∧ LsO w.heap.size wr (ls.take k) vs ∧ Below w.heap.size w wr) (fun _ s _ => n - (intOf s).toNat)
  case atStart => exact ⟨0, 0, none, [], Nat.zero_le _, rfl, rfl, OwnV.nil _ _ _, rfl, Below.refl _ _⟩
  case round =>
    obtain ⟨k, d, L, vs, hk, rfl, rfl, hO, hV, hB⟩ := hrel
    have HO := Lib.hid hO
    have HV := Lib.hid hV
    have HB := Lib.hid hB
    have sB := hB.size
    clear hO hV hB
    by_cases hlt : k < n
    · obtain ⟨b, off, hAb, hbl⟩ := HR.out.pos (by omega)
      subst hAb
      obtain ⟨es, B, m, d1, hx, c0, hre, hmd⟩ := HR.out.at_ k hlt
      have d0 := (HB.out.cell (p := ⟨b, off + k, none⟩) hbl).trans c0
      have hmem := List.mem_of_getElem? hx
      have HT := Lib.hid (Twins_any (c := d1) (hre.below HB.out) (by have := HM.out es hmem; rw [← hre.len]; exact this) (HS.out es hmem))
      have HST : Hid (ls.take (k + 1) = ls.take k ++ [es]) := Lib.hid (by rw [List.take_add_one, hx]; rfl)
      clear hx c0 hre hmem
      go_wp2_with fail
      with_reducible refine HT.out.mono ?_
      rintro e w2 ⟨T, tn, td, rfl, hrow⟩
      obtain ⟨us, r1, r2, r3, r4, r5, r6, r7⟩ := hrow
      have b2 : Below wr.heap.size wr w2 := r5
      have HBA := Lib.hid ((HB.out.trans (b2.mono sB)).alloc (HB.out.trans (b2.mono sB)).size (.cells #[.slice T tn td] 22))
      have HB2 : Hid (Below wr.heap.size wr (w2.alloc (.cells #[.slice T tn td] 22))) := Lib.hid (b2.alloc b2.size _)
      have ba : Below w2.heap.size w2 (w2.alloc (.cells #[.slice T tn td] 22)) := (Below.refl _ _).alloc (Nat.le_refl _) _
      have O1 := Lib.hid (OwnV.below HO.out HB2.out)
      have HV2 : Hid (LsO w.heap.size (w2.alloc (.cells #[.slice T tn td] 22)) (ls.take (k + 1)) (vs ++ [.slice T tn td])) := Lib.hid (by
        rw [HST.out]
        exact LsO.snoc (OwnE.mono (r1.below ba) sB) (EOs.mono sB (r2.below ba)) r4 (LsO.below HB2.out HV.out))
      have HRD := Lib.hid (OwnV.rd (ownV_box2 w2 22 w2.heap.size [.slice T tn td] 1 rfl (by omega) (Nat.le_refl _) _ rfl))
      have hone : ∀ u ∈ [Value.slice T tn td], u.oneCell' = true := by intro u hu; rw [List.mem_singleton] at hu; rw [hu]; rfl
      have HON := Lib.hid hone
      have s2 := HBA.out.size
      clear r1 r2 r3 r4 r5 r6 r7 b2 ba hone d0
      go_wp2_with (at_builtin; refine wpList_appV (w2.alloc (.cells #[.slice T tn td] 22)) rfl _ _ 53 rfl w.heap.size 22 (.slice none 0 0) 24 Try.underlying53 info_les rfl L k d vs rfl O1.out (some ⟨w2.heap.size, 0, none⟩) 1 1 [.slice T tn td] rfl HRD.out HON.out ?_ ?_ ?_ ?_)
      · unfold maxLen; omega
      · omega
      · exact s2
      intro L2 d2 w3 o2 hg2 _
      have HQ := Lib.hid (And.intro o2 (And.intro (LsO.kept O1.out hg2 HV2.out) (HBA.out.grown hg2 HBA.out.size (fun g hg => (OwnV.lt O1.out g hg).1))))
      clear o2 hg2
      go_wp2_with fail
      go_roundw
      case rel => exact ⟨k + 1, d2, L2, _, by omega, by go_num, rfl, HQ.out.1, HQ.out.2.1, HQ.out.2.2⟩
      case measure => simp [intOf]; omega
    · have htk : ls.take k = ls := List.take_of_length_le (by have := HL.out; omega)
      have HF : Hid (RetLs w ls (.returned (.slice L k d)) wr) := Lib.hid ⟨L, k, d, rfl, by rw [← htk]; exact LsV.rls (LsO.lsv HV.out) (OwnV.rd HO.out) (by rw [htk]; have := HL.out; omega), (OwnV.cap HO.out).1, HB.out⟩
      clear htk
      go_wp2_with fail
      go_ret
      exact HF.out
theorem insA_snoc : ∀ {xs o : List En} (x : En), insA o (xs ++ [x]) = (if inL (insA o xs) x then insA o xs else insL (insA o xs) x)
  | [], _, _ => rfl
  | y :: ys, o, x => by
    rw [List.cons_append, insA, insA]
    exact insA_snoc (xs := ys) x
theorem insA_from {z : En} : ∀ {xs o : List En}, z ∈ insA o xs → z ∈ o ∨ z ∈ xs
  | [], _, h => .inl h
  | y :: ys, o, h => by
    rw [insA] at h
    rcases insA_from h with h | h
    · split at h
      · exact .inl h
      · rcases insL_mem h with e | e
        · exact .inr (by rw [e]; exact List.mem_cons_self)
        · exact .inl e
    · exact .inr (List.mem_cons_of_mem _ h)
theorem insA_step {o es : List En} {j : Nat} {x : En} (h : es[j]? = some x) : insA o (es.take (j + 1)) = (if inL (insA o (es.take j)) x then insA o (es.take j) else insL (insA o (es.take j)) x) := by
  have e : es.take (j + 1) = es.take j ++ [x] := by rw [List.take_add_one, h]; rfl
  rw [e, insA_snoc]
def refK (ls : List (List En)) (k : Nat) : List En := (ls.take k).foldl insA []
theorem refK_step {ls : List (List En)} {k : Nat} {es : List En} (h : ls[k]? = some es) : refK ls (k + 1) = insA (refK ls k) es := by
  unfold refK
  rw [List.take_add_one, h, List.foldl_append]
  rfl
set_option maxRecDepth 100000 in
set_option maxHeartbeats 16000000 in
theorem refMerge11_any {w : World} {A : Option Addr} {n c : Nat} {ls : List (List En)} (h : RLs w A n ls) (hn : n ≤ 1099511627776) (hm : totLn ls ≤ 2097152) (hs : ∀ es ∈ ls, ∀ x ∈ es, SzE x) : Calls Try.prog 30 #[.slice A n c] w (RetEs w (refM ls)) := by
  have HL := Lib.hid h.1
  have HR := Lib.hid h
  have HS := Lib.hid hs
  have HT : Hid (∀ k es, ls[k]? = some es → totLn (ls.take (k + 1)) = totLn (ls.take k) + es.length ∧ totLn (ls.take (k + 1)) ≤ 2097152) := Lib.hid (fun k es hk => by
    have e : ls.take (k + 1) = ls.take k ++ [es] := by rw [List.take_add_one, hk]; rfl
    have h1 : totLn (ls.take (k + 1)) = totLn (ls.take k) + es.length := by rw [e, totLn_app]; simp [totLn]
    have h2 : totLn ls = totLn (ls.take (k + 1)) + totLn (ls.drop (k + 1)) := by rw [← totLn_app, List.take_append_drop]
    exact ⟨h1, by omega⟩)
  clear h hs hm
  go_enter Try.func30, Try.ntmps30
  go_wp2_with fail
  go_loopw [3, 4] (fun s3 s4 wr => ∃ (k m d : Nat) (L : Option Addr), k ≤ n ∧ s4 = .int .i64 (k : Int) ∧ s3 = .slice L m d ∧ REs wr L m (refK ls k) ∧ m ≤ d ∧ m ≤ totLn (ls.take k) ∧ (∀ x ∈ refK ls k, SzE x) ∧ Below w.heap.size w wr) (fun _ s _ => n - (intOf s).toNat)
  case atStart => exact ⟨0, 0, 0, none, Nat.zero_le _, rfl, rfl, REs.nil _ _, Nat.le_refl _, Nat.zero_le _, (fun x hx => by cases hx), Below.refl _ _⟩
  case round =>
    obtain ⟨k, m, d, L, hk, rfl, rfl, hO, hmd, hmt, hz, hB⟩ := hrel
    have HO := Lib.hid hO
    have HZ := Lib.hid hz
    have HB := Lib.hid hB
    clear hO hz hB
    by_cases hlt : k < n
    · obtain ⟨b, off, hAb, hbl⟩ := HR.out.pos (by omega)
      subst hAb
      obtain ⟨es, B, mm, d1, hx, c0, hre, hmd1⟩ := HR.out.at_ k hlt
      have hmem := List.mem_of_getElem? hx
      have HES := Lib.hid (HS.out es hmem)
      have HRE := Lib.hid hre
      have HEL := Lib.hid hre.len
      have HC0 : Hid (∀ wx, Below w.heap.size w wx → wx.cell? ⟨b, off + k, none⟩ = some (.slice B mm d1)) := Lib.hid (fun wx hb => (hb.cell (p := ⟨b, off + k, none⟩) hbl).trans c0)
      have HST := Lib.hid (refK_step hx)
      obtain ⟨ht1, ht2⟩ := HT.out k es hx
      obtain ⟨tk, htk⟩ : ∃ tk, tk = totLn (ls.take k) := ⟨_, rfl⟩
      rw [← htk] at ht1 hmt
      have hbound : tk + mm ≤ 2097152 := by have := HEL.out; omega
      have HTK : Hid (totLn (ls.take (k + 1)) = tk + mm) := Lib.hid (by have := HEL.out; omega)
      clear hx c0 hre hmem ht1 ht2 htk
      go_wp2_with fail
      go_loopw [3, 5] (fun s3 s5 wx => ∃ (j m2 d2 : Nat) (L2 : Option Addr), j ≤ mm ∧ s5 = .int .i64 (j : Int) ∧ s3 = .slice L2 m2 d2 ∧ REs wx L2 m2 (insA (refK ls k) (es.take j)) ∧ m2 ≤ d2 ∧ m2 ≤ tk + j ∧ (∀ x ∈ insA (refK ls k) (es.take j), SzE x) ∧ Below w.heap.size w wx) (fun _ s _ => mm - (intOf s).toNat)
      case atStart => exact ⟨0, m, d, L, Nat.zero_le _, rfl, rfl, HO.out, hmd, hmt, HZ.out, HB.out⟩
      case round =>
        obtain ⟨j, m2, d2, L2, hj, rfl, rfl, hO2, hmd2, hmt2, hz2, hB2⟩ := hrel
        have HO2 := Lib.hid hO2
        have HZ2 := Lib.hid hz2
        have HB2 := Lib.hid hB2
        have d0 := HC0.out wr hB2
        clear hO2 hz2 hB2
        by_cases hlj : j < mm
        · obtain ⟨bb, ob, hBb, hbb⟩ := HRE.out.pos (by omega)
          subst hBb
          obtain ⟨x, v0, v1, v2, v3, hx, c0, c1, c2, c3, hev⟩ := HRE.out.at_ j hlj
          obtain ⟨K, kn, kc, V, vn, vc, rfl, rfl, rfl, rfl, _⟩ := hev.parts
          have hsx := HES.out x (List.mem_of_getElem? hx)
          have HC : Hid (∀ wx, Below w.heap.size w wx → wx.cell? ⟨bb, ob + j * 4, none⟩ = some (.slice K kn kc) ∧ wx.cell? ⟨bb, ob + j * 4 + 1, none⟩ = some (.int .u64 (x.seq : Int)) ∧ wx.cell? ⟨bb, ob + j * 4 + 2, none⟩ = some (.int .u8 (x.kind : Int)) ∧ wx.cell? ⟨bb, ob + j * 4 + 3, none⟩ = some (.slice V vn vc)) := Lib.hid (fun wx hb => ⟨(hb.cell (p := ⟨bb, ob + j * 4, none⟩) hbb).trans c0, (hb.cell (p := ⟨bb, ob + j * 4 + 1, none⟩) hbb).trans c1, (hb.cell (p := ⟨bb, ob + j * 4 + 2, none⟩) hbb).trans c2, (hb.cell (p := ⟨bb, ob + j * 4 + 3, none⟩) hbb).trans c3⟩)
          obtain ⟨o2, ho2⟩ : ∃ o2, o2 = insA (refK ls k) (es.take j) := ⟨_, rfl⟩
          obtain ⟨z, hz⟩ : ∃ z, z = inL o2 x := ⟨_, rfl⟩
          have HIN : Hid (Calls Try.prog 83 #[.slice L2 m2 d2, .agg #[.slice K kn kc, .int .u64 (x.seq : Int), .int .u8 (x.kind : Int), .slice V vn vc]] wr (RetT wr z)) := Lib.hid (by rw [hz, ho2]; exact In_any HO2.out (by omega) HZ2.out (hev.below HB2.out) hsx)
          have HEV := Lib.hid hev
          have HSX := Lib.hid hsx
          have HS2 : Hid (insA (refK ls k) (es.take (j + 1)) = (if z then o2 else insL o2 x)) := Lib.hid (by rw [insA_step hx, ← ho2, ← hz])
          have HOO := Lib.hid ho2
          obtain ⟨f0, f1, f2, f3⟩ := HC.out wr HB2.out
          clear hx c0 c1 c2 c3 hev hsx ho2 hz
          go_wp2_with fail
          with_reducible refine HIN.out.mono ?_
          intro e w2 hq
          obtain ⟨h2, b2⟩ := RetT.outD hq
          subst h2
          have HB3 := Lib.hid (belowT' HB2.out b2)
          have HO3 : Hid (REs w2 L2 m2 o2) := Lib.hid (by rw [HOO.out]; exact HO2.out.below b2)
          have HZ3 : Hid (∀ y ∈ o2, SzE y) := Lib.hid (by rw [HOO.out]; exact HZ2.out)
          clear hq b2 d0 f0 f1 f2 f3
          have d0 := HC0.out w2 HB3.out
          obtain ⟨f0, f1, f2, f3⟩ := HC.out w2 HB3.out
          cases z with
          | true =>
            clear d0 f0 f1 f2 f3
            go_wp2_with fail
            go_roundw
            case rel => exact ⟨j + 1, m2, d2, L2, by omega, by go_num, rfl, by rw [HS2.out]; exact HO3.out, hmd2, by omega, by rw [HS2.out]; exact HZ3.out, HB3.out⟩
            case measure => simp [intOf]; omega
          | false =>
            obtain ⟨hl3, us3, hv3, hd3⟩ := HO3.out
            have HIS := Lib.hid (Insert_any hv3 hd3 hl3 hmd2 (by omega) HZ3.out (HEV.out.below HB3.out) HSX.out)
            clear hl3 hv3 hd3
            go_wp2_with fail
            with_reducible refine HIS.out.mono ?_
            intro e w4 hq
            obtain ⟨L4, d4, vs4, he4, o4, hv4, b4, _⟩ := RetIns.out hq
            subst he4
            have HQ : Hid (REs w4 L4 (m2 + 1) (insA (refK ls k) (es.take (j + 1))) ∧ m2 + 1 ≤ d4 ∧ (∀ y ∈ insA (refK ls k) (es.take (j + 1)), SzE y) ∧ Below w.heap.size w w4) := Lib.hid (by
              rw [HS2.out]
              refine ⟨REs.mk hv4 o4.rd (by rw [if_neg (by simp), insL_len, HO3.out.len]), o4.cap.1, fun y hy => ?_, belowT' HB3.out b4⟩
              rw [if_neg (by simp)] at hy
              rcases insL_mem hy with h | h
              · rw [h]; exact HSX.out
              · exact HZ3.out y h)
            clear hq o4 hv4 b4 d0 f0 f1 f2 f3
            go_wp2_with fail
            go_roundw
            case rel => exact ⟨j + 1, m2 + 1, d4, L4, by omega, by go_num, rfl, HQ.out.1, HQ.out.2.1, by omega, HQ.out.2.2.1, HQ.out.2.2.2⟩
            case measure => simp [intOf]; omega
        · have hjm : es.take j = es := List.take_of_length_le (by have := HEL.out; omega)
          have HQ : Hid (REs wr L2 m2 (refK ls (k + 1)) ∧ (∀ y ∈ refK ls (k + 1), SzE y)) := Lib.hid (by
            have h1 := HO2.out
            have h2 := HZ2.out
            rw [hjm] at h1 h2
            rw [HST.out]
            exact ⟨h1, h2⟩)
          clear hjm
          go_wp2_with fail
          go_roundw
          case rel => exact ⟨k + 1, m2, d2, L2, by omega, by go_num, rfl, HQ.out.1, hmd2, by have := HTK.out; omega, HQ.out.2, HB2.out⟩
          case measure => simp [intOf]; omega
    · have htk : ls.take k = ls := List.take_of_length_le (by have := HL.out; omega)
      have hF : refK ls k = refM ls := by unfold refK refM; rw [htk]
      have HF : Hid (RetEs w (refM ls) (.returned (.slice L m d)) wr) := Lib.hid ⟨L, m, d, rfl, by rw [← hF]; exact HO.out, hmd, HB.out⟩
      clear htk hF
      go_wp2_with fail
      go_ret
      exact HF.out
end Go.Proofs.Ytcclhkoggijkaaa
namespace Go.Proofs.Ytcclhkoggijkaaa
open Go Go.RowKit

/-- Entries in memory of their own. -/
def OwEs (base : Nat) (w : World) (L : Option Addr) (ln d : Nat) (es : List En) : Prop := ∃ vs, OwnE w base L ln d vs ∧ EOs base w es vs
theorem OwEs.below {base : Nat} {w w' : World} {L : Option Addr} {ln d : Nat} {es : List En} (h : OwEs base w L ln d es) (hb : Below w.heap.size w w') : OwEs base w' L ln d es := by
  obtain ⟨vs, h1, h2⟩ := h
  exact ⟨vs, h1.below hb, h2.below hb⟩
/-- Entries that can be read, and a kind. -/
def RetDr (w : World) (r : List En × Int) (e : Ending) (w' : World) : Prop :=
  ∃ L ln d, e = .returned (.tuple #[.slice L ln d, .int .i64 r.2]) ∧ REs w' L ln r.1 ∧ ln ≤ d ∧ ln ≤ 1073741824 ∧ (∀ x ∈ r.1, SzE x) ∧ Below w.heap.size w w' ∧ OwEs w.heap.size w' L ln d r.1
theorem RetDr.no {w w' : World} {r : List En × Int} {k : Int} (h : r = ([], k)) (hb : Below w.heap.size w w') : RetDr w r (.returned (.tuple #[.slice none 0 0, .int .i64 k])) w' := by
  subst h
  exact ⟨none, 0, 0, rfl, REs.nil _ _, Nat.le_refl _, by omega, (fun x hx => by cases hx), hb, [], OwnE.nil _ _, rfl⟩
theorem lastAt_le (ps : List Int) (z : Int) (d : Nat) : ∀ k, lastAt ps z d k ≤ d ∨ lastAt ps z d k < k
  | 0 => .inl (Nat.le_refl _)
  | k + 1 => by
    rw [lastAt]
    split
    · exact .inr (by omega)
    · rcases lastAt_le ps z d k with h | h
      · exact .inl h
      · exact .inr (by omega)
/-- The second place, where there is one. -/
theorem evD_two {body : List UInt8} {es : List En} {ps : List Int} {bm K y : Nat} (hb : body.length = bm) (hK : 4 * K + 4 ≤ bm) (h2 : 2 ≤ K) (hy : y = bm - 4 * K) :
    evD es ps ((body.take (bm - 4)).drop (bm - 4 - 4 * K)) = lastAt ps (numK (body.drop y) 4 : Int) es.length ps.length := by
  have hl : ((body.take (bm - 4)).drop (bm - 4 - 4 * K)).length = 4 * K := by simp only [List.length_drop, List.length_take]; omega
  unfold evD
  rw [if_pos (by omega), List.drop_drop, show bm - 4 - 4 * K + 4 = y by omega, List.drop_take, numK_take4 _ _ (by omega)]
theorem evD_one {body : List UInt8} {es : List En} {ps : List Int} {bm K : Nat} (hb : body.length = bm) (hK : 4 * K + 4 ≤ bm) (h2 : ¬ 2 ≤ K) : evD es ps ((body.take (bm - 4)).drop (bm - 4 - 4 * K)) = es.length := by
  have hl : ((body.take (bm - 4)).drop (bm - 4 - 4 * K)).length = 4 * K := by simp only [List.length_drop, List.length_take]; omega
  unfold evD
  rw [if_neg (by omega)]
theorem finD_nil {xs zs : List UInt8} {ps : List Int} : finD xs zs (some ([], ps)) = if (buildE 1 []).2 = 0 ∧ (buildE 1 []).1 = xs then ([], 0) else ([], 3) := by
  unfold finD
  simp
theorem finD_zero {xs zs : List UInt8} {es : List En} {ps : List Int} (h : es ≠ []) (h0 : evD es ps zs = 0) : finD xs zs (some (es, ps)) = ([], 3) := by
  unfold finD
  simp only
  rw [if_pos ⟨h, h0⟩]
theorem finD_more {xs zs : List UInt8} {es : List En} {ps : List Int} {ev : Nat} (h : es ≠ []) (h0 : evD es ps zs = ev) (hev : ev ≠ 0) : finD xs zs (some (es, ps)) = if (buildE ev es).2 = 0 ∧ (buildE ev es).1 = xs then (es, 0) else ([], 3) := by
  unfold finD
  simp only
  rw [if_neg (fun k => hev (h0 ▸ k.2)), if_neg h, h0]
theorem places_at {w : World} {base n c b off : Nat} {ps : List Int} (h : OwnV 3 w base (some ⟨b, off, none⟩) n c (ps.map (fun z => Value.int .i64 z))) (k : Nat) (hk : k < n) : ∃ z, ps[k]? = some z ∧ w.cell? ⟨b, off + k, none⟩ = some (.int .i64 z) := by
  obtain ⟨v, h1, h2⟩ := h.rd.at_ k hk
  rw [List.getElem?_map] at h1
  cases hz : ps[k]? with
  | none => rw [hz] at h1; cases h1
  | some z =>
    rw [hz] at h1
    injection h1 with h1
    exact ⟨z, rfl, by rw [h2, ← h1]⟩
set_option maxRecDepth 100000 in
set_option maxHeartbeats 16000000 in
theorem refDecode8_any {w : World} {A : Option Addr} {n c : Nat} {xs : List UInt8} (h : Rd w A n xs) (hn : n ≤ 1048576) (hc : n ≤ c) :
    Calls Try.prog 74 #[.slice A n c] w (RetDr w (refD xs)) := by
  have hl := h.len
  rcases hog : openG xs ((0 : Nat) : Int) with ⟨body, nx, k⟩
  have hO : Calls Try.prog 72 #[.slice A n c, .int .i64 0] w (RetO w.heap.size w (openG xs ((0 : Nat) : Int))) := refOpen_any A n c ((0 : Nat) : Int) xs w h (by omega) hc (by unfold I64; omega)
  rw [hog] at hO
  have HO := Lib.hid hO
  have HX := Lib.hid h
  have HL := Lib.hid hl
  have HR : Hid (refD xs = if k ≠ 0 then ([], k) else if nx ≠ (xs.length : Int) then ([], 3) else bodyD xs (splitB body)) := Lib.hid (by unfold refD; rw [hog])
  by_cases hk : k = 0
  · subst hk
    obtain ⟨nk, rfl, hnk, hnl⟩ := openG_ok hog rfl
    have HR2 : Hid (refD xs = if (nk : Int) ≠ (xs.length : Int) then ([], 3) else bodyD xs (splitB body)) := Lib.hid (by rw [HR.out, if_neg (by simp)])
    obtain ⟨bm, hbm⟩ : ∃ bm, bm = body.length := ⟨_, rfl⟩
    have HBM := Lib.hid hbm
    have hbn : bm ≤ n := by omega
    have HNK := Lib.hid hnk
    clear hO h hl hog hbm hnk
    go_enter Try.func74, Try.ntmps74
    go_wp2_with fail
    with_reducible refine HO.out.mono ?_
    rintro e w1 ⟨B, bm', bc, rfl, oB, b1⟩
    have hbb : bm' = bm := by rw [HBM.out]; exact oB.len.symm
    subst hbb
    have HB1 := Lib.hid b1
    have HOB := Lib.hid oB
    have hbc := oB.cap.1
    clear oB b1
    by_cases hx : nk = n
    · subst hx
      by_cases h4 : bm' < 4
      · have hr : refD xs = ([], 3) := by
          rw [HR2.out, if_neg (by rw [HL.out]; simp)]
          unfold splitB
          rw [if_pos (by rw [← HBM.out]; exact h4)]
          rfl
        have HRR := Lib.hid hr
        clear hr
        go_wp2_with fail
        exact bodyPost_ret (v := .tuple #[.slice none 0 0, .int .i64 3]) (by simp [results, Try.f74, go_sem]; try rfl) rfl (RetDr.no HRR.out HB1.out)
      · have HR3 : Hid (refD xs = bodyD xs (splitB body)) := Lib.hid (by rw [HR2.out, if_neg (by rw [HL.out]; simp)])
        obtain ⟨g, off, rfl, hgl⟩ := HOB.out.rd.pos (by omega)
        obtain ⟨m, hm⟩ : ∃ m, m = bm' - 4 := ⟨_, rfl⟩
        have e1 : IntKind.i64.wrap ((bm' : Int) - 4) = (m : Int) := by rw [IntWalk.i64_in _ (by omega)]; omega
        have e1' : ((bm' : Int) - 4) = (m : Int) := by omega
        have HM := Lib.hid hm
        have hmb : bm' = m + 4 := by omega
        have HMB := Lib.hid hmb
        obtain ⟨K, hK⟩ : ∃ K, K = numK (body.drop m) 4 := ⟨_, rfl⟩
        have hKl : K < 4294967296 := by rw [hK]; exact Nat.lt_of_lt_of_le (numK_lt _ 4) (by decide)
        have HKK := Lib.hid hK
        clear hm hmb hK
        go_wp2_with fail
        go_loopw [7, 8] (fun s7 s8 wr => ∃ j i v q : Nat, j ≤ 4 ∧ i = m + j ∧ s7 = .int .i64 (v : Int) ∧ s8 = .int .i64 (i : Int) ∧ v = numK (body.drop m) j ∧ wr = w1.drewN q) (fun _ s _ => bm' - (intOf s).toNat)
        case atStart => exact ⟨0, m, 0, 0, by omega, by omega, rfl, rfl, rfl, rfl⟩
        case round =>
          obtain ⟨j, i, v, q, hj, hi, rfl, rfl, hv, rfl⟩ := hrel
          have hvl := numK_lt (body.drop m) j
          rw [← hv] at hvl
          have HV := Lib.hid hv
          have HI := Lib.hid hi
          obtain ⟨W, hW⟩ : ∃ W, W = w1.drewN q := ⟨_, rfl⟩
          rw [← hW]
          have HW := Lib.hid hW
          clear hv
          by_cases hlt : i < bm'
          · have hj3 : j ≤ 3 := by have := HMB.out; omega
            have hv3 : v < 16777216 := Nat.lt_of_lt_of_le hvl (Nat.le_trans (Nat.pow_le_pow_right (by decide) hj3) (by decide))
            obtain ⟨b, hb, hcell, _⟩ := HOB.out.rd.at_ i hlt
            have hb8 := b.toNat_lt
            have HRN : Hid (v * 256 + b.toNat = numK (body.drop m) (j + 1)) := Lib.hid (by rw [numK_take (b := b) (by rw [List.getElem?_drop, ← HI.out]; exact hb), HV.out])
            have c1 : W.cell? ⟨g, off + i, none⟩ = some (.int .u8 (b.toNat : Int)) := by rw [hW]; exact hcell
            clear hvl hi hb hcell hW
            go_wp2_with fail
            go_roundw
            case rel => exact ⟨j + 1, i + 1, v * 256 + b.toNat, q, by omega, by have := HI.out; omega, by go_num, by go_num, HRN.out, HW.out⟩
            case measure => simp [intOf]; omega
          · have hj4 : j = 4 := by have := HMB.out; omega
            subst hj4
            have hvK : v = K := by rw [HV.out, HKK.out]
            subst hvK
            have hBW : Below w1.heap.size w1 W := by rw [hW]; exact below_drewN (Below.refl _ _) q
            have HOW := Lib.hid (HOB.out.below hBW)
            have HBW := Lib.hid (HB1.out.trans (hBW.mono HB1.out.size))
            obtain ⟨f4, hf4⟩ : ∃ f4, f4 = 4 * v := ⟨_, rfl⟩
            have e2 : IntKind.i64.wrap (4 * (v : Int)) = (f4 : Int) := by rw [IntWalk.i64_in _ (by omega)]; omega
            have e2' : (4 * (v : Int)) = (f4 : Int) := by omega
            have e2w : IntKind.i64.wrap (f4 : Int) = (f4 : Int) := IntWalk.i64_in _ (by omega)
            have e3w : IntKind.i64.wrap ((f4 : Int) + 4) = (f4 : Int) + 4 := IntWalk.i64_in _ (by omega)
            have HF4 := Lib.hid hf4
            clear hvl hi hW hf4 hBW
            by_cases hbig : bm' < f4 + 4
            · have hr : refD xs = ([], 3) := by
                rw [HR3.out]
                unfold splitB
                rw [← HBM.out, ← HM.out, if_neg (by have := HMB.out; omega)]
                simp only
                rw [← HKK.out, if_pos (by have := HMB.out; have := HF4.out; omega)]
                rfl
              have HRR := Lib.hid hr
              have t1 : (bm' : Int) < (f4 : Int) + 4 := by omega
              clear hr
              go_wp2_with fail
              exact bodyPost_ret (v := .tuple #[.slice none 0 0, .int .i64 3]) (by simp [results, Try.f74, go_sem]; try rfl) rfl (RetDr.no HRR.out HBW.out)
            · have t1 : ¬ (bm' : Int) < (f4 : Int) + 4 := by omega
              obtain ⟨y, hy⟩ : ∃ y, y = m - f4 := ⟨_, rfl⟩
              have e5 : IntKind.i64.wrap ((m : Int) - (f4 : Int)) = (y : Int) := by rw [IntWalk.i64_in _ (by omega)]; have := HMB.out; omega
              have e5' : ((m : Int) - (f4 : Int)) = (y : Int) := by have := HMB.out; omega
              have e5w : IntKind.i64.wrap (y : Int) = (y : Int) := IntWalk.i64_in _ (by omega)
              have hyb : y ≤ bm' := by have := HMB.out; omega
              have hs : ∀ W : World, (Instr.slice 25 (.slice (some ⟨g, off, none⟩) bm' bc) none (some (.int .i64 (y : Int))) none).run Try.prog W = .ok (.slice (some ⟨g, off, none⟩) y bc) W := cut_h Try.underlying25 elem_bytes size_u8 _ (by omega)
              obtain ⟨o, ho⟩ : ∃ o, o = rdL (body.take y) ((body.take y).length + 1) 0 [] [] [] := ⟨_, rfl⟩
              obtain ⟨zs, hzs⟩ : ∃ zs, zs = (body.take (bm' - 4)).drop (bm' - 4 - 4 * v) := ⟨_, rfl⟩
              have HR4 : Hid (refD xs = finD xs zs o) := Lib.hid (by
                rw [HR3.out]
                unfold splitB
                rw [← HBM.out, ← HM.out, if_neg (by have := HMB.out; omega)]
                simp only
                rw [← HKK.out, if_neg (by have := HMB.out; have := HF4.out; omega)]
                unfold bodyD
                simp only
                rw [← HF4.out, ← hy, ho, hzs, ← HM.out, ← HF4.out, ← hy])
              have hRD := refRead_any (HOW.out.rd.take8 hyb) (by omega) (by omega : y ≤ bc) (fun hh => by cases hh)
              rw [← ho] at hRD
              have HRD := Lib.hid hRD
              have HY := Lib.hid hy
              have HZS := Lib.hid hzs
              clear hRD ho hy hzs
              go_wp2_with fail
              with_reducible refine HRD.out.mono ?_
              rintro e w2 (⟨hon, rfl, b2⟩ | ⟨es, ps, L, P, ln, d, pn, pd, vs, hos, rfl, hln, hpn, hSE, hRR⟩)
              · have hr : refD xs = ([], 3) := by rw [HR4.out, hon]; rfl
                have HRR := Lib.hid (And.intro hr (belowT' HBW.out b2))
                clear hr b2
                go_wp2_with fail
                exact bodyPost_ret (v := .tuple #[.slice none 0 0, .int .i64 3]) (by simp [results, Try.f74, go_sem]; try rfl) rfl (RetDr.no HRR.out.1 HRR.out.2)
              · have HRD2 := Lib.hid hRR
                have HSE := Lib.hid hSE
                have HR5 : Hid (refD xs = finD xs zs (some (es, ps))) := Lib.hid (by rw [HR4.out, hos])
                have HB2 := Lib.hid (belowT' HBW.out hRR.2.2.2.2.2)
                have hel := hRR.2.2.1
                have hpl := hRR.2.2.2.2.1
                have hld := (OwnE.cap hRR.1).1
                have HEL := Lib.hid hel
                have HPL := Lib.hid hpl
                clear hos hRR hSE hel hpl
                by_cases h0 : ln = 0
                · subst h0
                  have hes : es = [] := List.eq_nil_of_length_eq_zero HEL.out
                  subst hes
                  obtain ⟨zb, zk, hz⟩ : ∃ zb zk, buildE 1 [] = (zb, zk) := ⟨_, _, rfl⟩
                  have HBZ : Hid (Calls Try.prog 61 #[.int .i64 1, .slice none 0 0] w2 (RetBb w2 (zb, zk))) := Lib.hid (by
                    rw [← hz]
                    exact refBuild8_any (REs.nil w2 none) (by omega) (fun x hx => by cases hx) 1 (by omega) (by omega))
                  have HFD : Hid (refD xs = if zk = 0 ∧ zb = xs then ([], 0) else ([], 3)) := Lib.hid (by rw [HR5.out, finD_nil, hz])
                  have HCS : Hid (zk = 0 ∨ zb = []) := Lib.hid (by
                    rcases buildE_cases 1 [] with ⟨F, h1, _⟩ | ⟨k, h1, _⟩
                    · rw [hz] at h1; injection h1 with _ h1; exact .inl h1
                    · rw [hz] at h1; injection h1 with h1 _; exact .inr h1)
                  clear hz
                  go_wp2_with fail
                  with_reducible refine HBZ.out.mono ?_
                  rintro e w3 ⟨G, gc, rfl, oG, b3⟩
                  simp only at oG ⊢
                  have hb3 := belowT' HB2.out b3
                  have HB3 := Lib.hid hb3
                  have hzl := oG.cap
                  have HEQ := Lib.hid (Equal_any G A zb.length nk gc c zb xs w3 oG.rd (HX.out.below hb3) (by omega) (by unfold maxLen; omega))
                  obtain ⟨q, hq⟩ : ∃ q, q = eqB zb xs := ⟨_, rfl⟩
                  rw [← hq] at HEQ
                  have HQ := Lib.hid hq
                  clear hq oG b3 hb3 hzl
                  cases q with
                  | true =>
                    have he : zb = xs := by have := HQ.out; unfold eqB at this; exact (beq_iff_eq.1 this.symm)
                    have HRF : Hid (refD xs = ([], 0)) := Lib.hid (by
                      have hz0 : zk = 0 := by
                        rcases HCS.out with h | h
                        · exact h
                        · have h1 := HL.out
                          have h2 := HNK.out
                          rw [← he, h] at h1
                          simp only [List.length_nil] at h1
                          omega
                      rw [HFD.out, if_pos ⟨hz0, he⟩])
                    clear he
                    go_wp2_with fail
                    with_reducible refine HEQ.out.mono ?_
                    rintro e w4 ⟨rfl, hq4⟩
                    have HB4 : Hid (Below w.heap.size w w4) := Lib.hid (by obtain ⟨q4, rfl⟩ := hq4; exact below_drewN HB3.out q4)
                    clear hq4
                    go_wp2_with fail
                    exact bodyPost_ret (v := .tuple #[.slice none 0 0, .int .i64 0]) (by simp [results, Try.f74, go_sem]; try rfl) rfl (RetDr.no HRF.out HB4.out)
                  | false =>
                    have he : ¬ zb = xs := by have := HQ.out; unfold eqB at this; intro e2; rw [e2] at this; simp at this
                    have HRF : Hid (refD xs = ([], 3)) := Lib.hid (by rw [HFD.out, if_neg (fun h => he h.2)])
                    clear he
                    go_wp2_with fail
                    with_reducible refine HEQ.out.mono ?_
                    rintro e w4 ⟨rfl, hq4⟩
                    have HB4 : Hid (Below w.heap.size w w4) := Lib.hid (by obtain ⟨q4, rfl⟩ := hq4; exact below_drewN HB3.out q4)
                    clear hq4
                    go_wp2_with fail
                    exact bodyPost_ret (v := .tuple #[.slice none 0 0, .int .i64 3]) (by simp [results, Try.f74, go_sem]; try rfl) rfl (RetDr.no HRF.out HB4.out)
                · have HNE : Hid (es ≠ []) := Lib.hid (fun hh => by have := HEL.out; rw [hh] at this; simp at this; omega)
                  have t0 : ((ln : Int) == 0) = false := by rw [beq_eq_false_iff_ne]; omega
                  have HH0 := Lib.hid h0
                  clear h0
                  by_cases hv1 : 1 < v
                  · obtain ⟨yy, hyy⟩ : ∃ yy, yy = bm' - 4 * v := ⟨_, rfl⟩
                    have e6 : IntKind.i64.wrap ((bm' : Int) - (f4 : Int)) = (yy : Int) := by rw [IntWalk.i64_in _ (by omega)]; have := HF4.out; omega
                    have e6' : ((bm' : Int) - (f4 : Int)) = (yy : Int) := by have := HF4.out; omega
                    have e6w : IntKind.i64.wrap (yy : Int) = (yy : Int) := IntWalk.i64_in _ (by omega)
                    obtain ⟨y8, hy8⟩ : ∃ y8, y8 = yy + 4 := ⟨_, rfl⟩
                    have e7 : IntKind.i64.wrap ((yy : Int) + 4) = (y8 : Int) := by rw [IntWalk.i64_in _ (by omega)]; omega
                    have e7' : ((yy : Int) + 4) = (y8 : Int) := by omega
                    have e7w : IntKind.i64.wrap (y8 : Int) = (y8 : Int) := IntWalk.i64_in _ (by omega)
                    have hy8b : y8 ≤ bm' := by have := HF4.out; omega
                    obtain ⟨sec, hsec⟩ : ∃ sec, sec = numK (body.drop yy) 4 := ⟨_, rfl⟩
                    have HYY := Lib.hid hyy
                    have HY8 := Lib.hid hy8
                    have HSC := Lib.hid hsec
                    have HO2 := Lib.hid (HOW.out.rd.below HRD2.out.2.2.2.2.2)
                    clear hyy hy8 hsec
                    go_wp2_with fail
                    go_loopw [15, 17] (fun s15 s17 wr => ∃ j i v2 q : Nat, j ≤ 4 ∧ i = yy + j ∧ s15 = .int .i64 (v2 : Int) ∧ s17 = .int .i64 (i : Int) ∧ v2 = numK (body.drop yy) j ∧ wr = w2.drewN q) (fun _ s _ => y8 - (intOf s).toNat)
                    case atStart => exact ⟨0, yy, 0, 0, by omega, by omega, rfl, rfl, rfl, rfl⟩
                    case round =>
                      obtain ⟨j, i, v2, q, hj, hi, rfl, rfl, hv, rfl⟩ := hrel
                      have hvl := numK_lt (body.drop yy) j
                      rw [← hv] at hvl
                      have HV2 := Lib.hid hv
                      have HI2 := Lib.hid hi
                      obtain ⟨W2, hW⟩ : ∃ W2, W2 = w2.drewN q := ⟨_, rfl⟩
                      rw [← hW]
                      have HW2 := Lib.hid hW
                      clear hv
                      by_cases hlt : i < y8
                      · have hj3 : j ≤ 3 := by have := HY8.out; omega
                        have hv3 : v2 < 16777216 := Nat.lt_of_lt_of_le hvl (Nat.le_trans (Nat.pow_le_pow_right (by decide) hj3) (by decide))
                        obtain ⟨b, hb, hcell, _⟩ := HO2.out.at_ i (by omega)
                        have hb8 := b.toNat_lt
                        have HRN : Hid (v2 * 256 + b.toNat = numK (body.drop yy) (j + 1)) := Lib.hid (by rw [numK_take (b := b) (by rw [List.getElem?_drop, ← HI2.out]; exact hb), HV2.out])
                        have c1 : W2.cell? ⟨g, off + i, none⟩ = some (.int .u8 (b.toNat : Int)) := by rw [hW]; exact hcell
                        clear hvl hi hb hcell hW
                        go_wp2_with fail
                        go_roundw
                        case rel => exact ⟨j + 1, i + 1, v2 * 256 + b.toNat, q, by omega, by have := HI2.out; omega, by go_num, by go_num, HRN.out, HW2.out⟩
                        case measure => simp [intOf]; omega
                      · have hj4 : j = 4 := by have := HY8.out; omega
                        subst hj4
                        have hsv : v2 = sec := by rw [HV2.out, HSC.out]
                        have HSV := Lib.hid hsv
                        have hBW : Below w2.heap.size w2 W2 := by rw [hW]; exact below_drewN (Below.refl _ _) q
                        have HRDW := Lib.hid (HRD2.out.below hBW)
                        have HBW2 := Lib.hid (HB2.out.trans (hBW.mono HB2.out.size))
                        have hv2l : v2 < 4294967296 := Nat.lt_of_lt_of_le hvl (by decide)
                        clear hvl hi hW hBW hsv
                        go_wp2_with fail
                        go_loopw [14, 18] (fun s14 s18 wr => ∃ i ev q : Nat, i ≤ pn ∧ s14 = .int .i64 (ev : Int) ∧ s18 = .int .i64 (i : Int) ∧ ev = lastAt ps (v2 : Int) ln i ∧ wr = W2.drewN q) (fun _ s _ => pn - (intOf s).toNat)
                        case atStart => exact ⟨0, ln, 0, Nat.zero_le _, rfl, rfl, rfl, rfl⟩
                        case round =>
                          obtain ⟨i3, ev, q3, hi3, rfl, rfl, hev, rfl⟩ := hrel
                          have HEV0 := Lib.hid hev
                          obtain ⟨W3, hW3⟩ : ∃ W3, W3 = W2.drewN q3 := ⟨_, rfl⟩
                          rw [← hW3]
                          have HW3 := Lib.hid hW3
                          clear hev
                          by_cases hlt3 : i3 < pn
                          · obtain ⟨pb, po, hPb, _⟩ := HRDW.out.2.2.2.1.rd.pos (by omega)
                            subst hPb
                            obtain ⟨z, hz, hcz⟩ := places_at HRDW.out.2.2.2.1 i3 hlt3
                            have c3 : W3.cell? ⟨pb, po + i3, none⟩ = some (.int .i64 z) := by rw [hW3]; exact hcz
                            by_cases hzv : z = (v2 : Int)
                            · have HST : Hid (i3 = lastAt ps (v2 : Int) ln (i3 + 1)) := Lib.hid (by rw [lastAt, if_pos (by rw [hz, hzv])])
                              have tz : (z == (v2 : Int)) = true := by rw [beq_iff_eq]; exact hzv
                              clear hz hzv hcz hW3
                              go_wp2_with fail
                              go_roundw
                              case rel => exact ⟨i3 + 1, i3, q3, by omega, rfl, by go_num, HST.out, HW3.out⟩
                              case measure => simp [intOf]; omega
                            · have HST : Hid (ev = lastAt ps (v2 : Int) ln (i3 + 1)) := Lib.hid (by rw [lastAt, if_neg (by rw [hz]; intro hh; injection hh with hh; exact hzv hh), HEV0.out])
                              have tz : (z == (v2 : Int)) = false := by rw [beq_eq_false_iff_ne]; exact hzv
                              clear hz hzv hcz hW3
                              go_wp2_with fail
                              go_roundw
                              case rel => exact ⟨i3 + 1, ev, q3, by omega, rfl, by go_num, HST.out, HW3.out⟩
                              case measure => simp [intOf]; omega
                          · have hip : i3 = pn := by omega
                            subst hip
                            have HBW3 : Hid (Below w.heap.size w W3) := Lib.hid (by rw [hW3]; exact below_drewN HBW2.out q3)
                            have HLR : Hid (REs W3 L ln es) := Lib.hid (by
                              have h1 := HRDW.out
                              have h2 : REs W2 L ln es := REs.mk (EOs.evs h1.2.1) (OwnE.rd h1.1) h1.2.2.1
                              rw [hW3]
                              exact h2.drewN q3)
                            have HLO : Hid (OwEs w.heap.size W3 L ln d es) := Lib.hid (by
                              have h1 := HRDW.out
                              have h2 : OwEs w.heap.size W2 L ln d es := ⟨_, h1.1.mono HBW.out.size, EOs.mono HBW.out.size h1.2.1⟩
                              rw [hW3]
                              exact h2.below (below_drewN (Below.refl _ _) q3))
                            have HEV : Hid (evD es ps zs = ev) := Lib.hid (by rw [HZS.out, evD_two HBM.out.symm (by have := HF4.out; omega) (by omega) HYY.out, ← HSC.out, ← HSV.out, HEL.out, HPL.out]; exact HEV0.out.symm)
                            have hevb : ev ≤ 9223372036854775807 := by rw [HEV0.out]; rcases lastAt_le ps (v2 : Int) ln i3 with h | h <;> omega
                            clear hW3
                            by_cases hev0 : ev = 0
                            · subst hev0
                              have HRF : Hid (refD xs = ([], 3)) := Lib.hid (by rw [HR5.out, finD_zero HNE.out HEV.out])
                              clear hevb
                              go_wp2_with fail
                              exact bodyPost_ret (v := .tuple #[.slice none 0 0, .int .i64 3]) (by simp [results, Try.f74, go_sem]; try rfl) rfl (RetDr.no HRF.out HBW3.out)
                            · have hr0 : ¬ ev = 0 → refD xs = if (buildE ev es).2 = 0 ∧ (buildE ev es).1 = xs then (es, 0) else ([], 3) := fun h => by rw [HR5.out, finD_more HNE.out HEV.out h]
                              obtain ⟨zb, zk, hz⟩ : ∃ zb zk, buildE ev es = (zb, zk) := ⟨_, _, rfl⟩
                              have HBZ : Hid (Calls Try.prog 61 #[.int .i64 (ev : Int), .slice L ln d] W3 (RetBb W3 (zb, zk))) := Lib.hid (by
                                rw [← hz]
                                exact refBuild8_any HLR.out (by omega) HSE.out ev (by have := hev0; omega) hevb)
                              have HFD : Hid (refD xs = if zk = 0 ∧ zb = xs then (es, 0) else ([], 3)) := Lib.hid (by have := hr0 hev0; rw [hz] at this; exact this)
                              have te : ((ev : Int) == 0) = false := by rw [beq_eq_false_iff_ne]; have := hev0; omega
                              have HHV := Lib.hid hevb
                              clear hr0 hz hevb
                              go_wp2_with fail
                              with_reducible refine HBZ.out.mono ?_
                              rintro e w3 ⟨G, gc, rfl, oG, b3⟩
                              simp only at oG ⊢
                              have hb3 := belowT' HBW3.out b3
                              have HB3 := Lib.hid hb3
                              have HL3 := Lib.hid (HLR.out.below b3)
                              have HO3 := Lib.hid (HLO.out.below b3)
                              by_cases hzk : zk = 0
                              · subst hzk
                                have hzl := oG.cap
                                have HEQ := Lib.hid (Equal_any G A zb.length nk gc c zb xs w3 oG.rd (HX.out.below hb3) (by omega) (by unfold maxLen; omega))
                                obtain ⟨q, hq⟩ : ∃ q, q = eqB zb xs := ⟨_, rfl⟩
                                rw [← hq] at HEQ
                                have HQ := Lib.hid hq
                                clear hq oG b3 hb3 hzl
                                cases q with
                                | true =>
                                  have he : zb = xs := by have := HQ.out; unfold eqB at this; exact (beq_iff_eq.1 this.symm)
                                  have HRF : Hid (refD xs = (es, 0)) := Lib.hid (by rw [HFD.out, if_pos ⟨rfl, he⟩])
                                  clear he
                                  go_wp2_with fail
                                  with_reducible refine HEQ.out.mono ?_
                                  rintro e w4 ⟨rfl, hq4⟩
                                  have HF : Hid (RetDr w (refD xs) (.returned (.tuple #[.slice L ln d, .int .i64 0])) w4) := Lib.hid (by
                                    obtain ⟨q4, rfl⟩ := hq4
                                    rw [HRF.out]
                                    exact ⟨L, ln, d, rfl, HL3.out.drewN q4, hld, by omega, HSE.out, below_drewN HB3.out q4, HO3.out.below (below_drewN (Below.refl _ _) q4)⟩)
                                  clear hq4
                                  go_wp2_with fail
                                  exact bodyPost_ret (v := .tuple #[.slice L ln d, .int .i64 0]) (by simp [results, Try.f74, go_sem]; try rfl) rfl HF.out
                                | false =>
                                  have he : ¬ zb = xs := by have := HQ.out; unfold eqB at this; intro e2; rw [e2] at this; simp at this
                                  have HRF : Hid (refD xs = ([], 3)) := Lib.hid (by rw [HFD.out, if_neg (fun h => he h.2)])
                                  clear he
                                  go_wp2_with fail
                                  with_reducible refine HEQ.out.mono ?_
                                  rintro e w4 ⟨rfl, hq4⟩
                                  have HB4 : Hid (Below w.heap.size w w4) := Lib.hid (by obtain ⟨q4, rfl⟩ := hq4; exact below_drewN HB3.out q4)
                                  clear hq4
                                  go_wp2_with fail
                                  exact bodyPost_ret (v := .tuple #[.slice none 0 0, .int .i64 3]) (by simp [results, Try.f74, go_sem]; try rfl) rfl (RetDr.no HRF.out HB4.out)
                              · have HRF : Hid (refD xs = ([], 3)) := Lib.hid (by rw [HFD.out, if_neg (fun h => hzk h.1)])
                                have tz : (zk == 0) = false := by simpa using hzk
                                clear oG b3 hb3
                                go_wp2_with fail
                                exact bodyPost_ret (v := .tuple #[.slice none 0 0, .int .i64 3]) (by simp [results, Try.f74, go_sem]; try rfl) rfl (RetDr.no HRF.out HB3.out)
                  · have HLR : Hid (REs w2 L ln es) := Lib.hid (REs.mk (EOs.evs HRD2.out.2.1) (OwnE.rd HRD2.out.1) HRD2.out.2.2.1)
                    have HLO : Hid (OwEs w.heap.size w2 L ln d es) := Lib.hid ⟨_, HRD2.out.1.mono HBW.out.size, EOs.mono HBW.out.size HRD2.out.2.1⟩
                    have HEV : Hid (evD es ps zs = ln) := Lib.hid (by rw [HZS.out, evD_one HBM.out.symm (by have := HF4.out; omega) (by omega), HEL.out])
                    have hevb : ln ≤ 9223372036854775807 := by omega
                    have hr0 : ¬ ln = 0 → refD xs = if (buildE ln es).2 = 0 ∧ (buildE ln es).1 = xs then (es, 0) else ([], 3) := fun h => by rw [HR5.out, finD_more HNE.out HEV.out h]
                    obtain ⟨zb, zk, hz⟩ : ∃ zb zk, buildE ln es = (zb, zk) := ⟨_, _, rfl⟩
                    have HBZ : Hid (Calls Try.prog 61 #[.int .i64 (ln : Int), .slice L ln d] w2 (RetBb w2 (zb, zk))) := Lib.hid (by
                      rw [← hz]
                      exact refBuild8_any HLR.out (by omega) HSE.out ln (by have := HH0.out; omega) hevb)
                    have HFD : Hid (refD xs = if zk = 0 ∧ zb = xs then (es, 0) else ([], 3)) := Lib.hid (by have := hr0 HH0.out; rw [hz] at this; exact this)
                    have te : ((ln : Int) == 0) = false := by rw [beq_eq_false_iff_ne]; have := HH0.out; omega
                    have HHV := Lib.hid hevb
                    clear hr0 hz hevb
                    go_wp2_with fail
                    with_reducible refine HBZ.out.mono ?_
                    rintro e w3 ⟨G, gc, rfl, oG, b3⟩
                    simp only at oG ⊢
                    have hb3 := belowT' HB2.out b3
                    have HB3 := Lib.hid hb3
                    have HL3 := Lib.hid (HLR.out.below b3)
                    have HO3 := Lib.hid (HLO.out.below b3)
                    by_cases hzk : zk = 0
                    · subst hzk
                      have hzl := oG.cap
                      have HEQ := Lib.hid (Equal_any G A zb.length nk gc c zb xs w3 oG.rd (HX.out.below hb3) (by omega) (by unfold maxLen; omega))
                      obtain ⟨q, hq⟩ : ∃ q, q = eqB zb xs := ⟨_, rfl⟩
                      rw [← hq] at HEQ
                      have HQ := Lib.hid hq
                      clear hq oG b3 hb3 hzl
                      cases q with
                      | true =>
                        have he : zb = xs := by have := HQ.out; unfold eqB at this; exact (beq_iff_eq.1 this.symm)
                        have HRF : Hid (refD xs = (es, 0)) := Lib.hid (by rw [HFD.out, if_pos ⟨rfl, he⟩])
                        clear he
                        go_wp2_with fail
                        with_reducible refine HEQ.out.mono ?_
                        rintro e w4 ⟨rfl, hq4⟩
                        have HF : Hid (RetDr w (refD xs) (.returned (.tuple #[.slice L ln d, .int .i64 0])) w4) := Lib.hid (by
                          obtain ⟨q4, rfl⟩ := hq4
                          rw [HRF.out]
                          exact ⟨L, ln, d, rfl, HL3.out.drewN q4, hld, by omega, HSE.out, below_drewN HB3.out q4, HO3.out.below (below_drewN (Below.refl _ _) q4)⟩)
                        clear hq4
                        go_wp2_with fail
                        exact bodyPost_ret (v := .tuple #[.slice L ln d, .int .i64 0]) (by simp [results, Try.f74, go_sem]; try rfl) rfl HF.out
                      | false =>
                        have he : ¬ zb = xs := by have := HQ.out; unfold eqB at this; intro e2; rw [e2] at this; simp at this
                        have HRF : Hid (refD xs = ([], 3)) := Lib.hid (by rw [HFD.out, if_neg (fun h => he h.2)])
                        clear he
                        go_wp2_with fail
                        with_reducible refine HEQ.out.mono ?_
                        rintro e w4 ⟨rfl, hq4⟩
                        have HB4 : Hid (Below w.heap.size w w4) := Lib.hid (by obtain ⟨q4, rfl⟩ := hq4; exact below_drewN HB3.out q4)
                        clear hq4
                        go_wp2_with fail
                        exact bodyPost_ret (v := .tuple #[.slice none 0 0, .int .i64 3]) (by simp [results, Try.f74, go_sem]; try rfl) rfl (RetDr.no HRF.out HB4.out)
                    · have HRF : Hid (refD xs = ([], 3)) := Lib.hid (by rw [HFD.out, if_neg (fun h => hzk h.1)])
                      have tz : (zk == 0) = false := by simpa using hzk
                      clear oG b3 hb3
                      go_wp2_with fail
                      exact bodyPost_ret (v := .tuple #[.slice none 0 0, .int .i64 3]) (by simp [results, Try.f74, go_sem]; try rfl) rfl (RetDr.no HRF.out HB3.out)
    · have hr : refD xs = ([], 3) := by rw [HR2.out, if_pos (by rw [HL.out]; omega)]
      have HRR := Lib.hid hr
      have t1 : ((nk : Int) == (n : Int)) = false := by rw [beq_eq_false_iff_ne]; omega
      clear hr
      go_wp2_with fail
      exact bodyPost_ret (v := .tuple #[.slice none 0 0, .int .i64 3]) (by simp [results, Try.f74, go_sem]; try rfl) rfl (RetDr.no HRR.out HB1.out)
  · have hr : refD xs = ([], k) := by rw [HR.out, if_pos hk]
    have HRR := Lib.hid hr
    have t1 : (k == 0) = false := by simpa using hk
    clear hO h hl hog hr
    go_enter Try.func74, Try.ntmps74
    go_wp2_with fail
    with_reducible refine HO.out.mono ?_
    rintro e w1 ⟨B, bm, bc, rfl, oB, b1⟩
    have HB1 := Lib.hid b1
    clear oB b1
    go_wp2_with fail
    exact bodyPost_ret (v := .tuple #[.slice none 0 0, .int .i64 k]) (by simp [results, Try.f74, go_sem]; try rfl) rfl (RetDr.no HRR.out HB1.out)
end Go.Proofs.Ytcclhkoggijkaaa
namespace Go.Proofs.Ytcclhkoggijkaaa
open Go Go.RowKit

set_option maxRecDepth 100000 in
set_option maxHeartbeats 4000000 in
theorem tbInOrder_any {w : World} {A : Option Addr} {n c : Nat} {es : List En} (h : REs w A n es) (hn : n ≤ 1099511627776) : Calls Try.prog 54 #[.slice A n c] w (RetT w (ordE es)) := by
  have HL := Lib.hid h.len
  have HR := Lib.hid h
  clear h
  go_enter Try.func54, Try.ntmps54
  go_wp2_with fail
  go_loopw [3] (fun s3 wr => ∃ i : Nat, (i < n ∨ i = 0) ∧ s3 = .int .i64 ((i + 1 : Nat) : Int) ∧ ordK es i = true ∧ Below w.heap.size w wr) (fun s _ => n + 1 - (intOf s).toNat)
  case atStart => exact ⟨0, .inr rfl, rfl, rfl, Below.refl _ _⟩
  case round =>
    obtain ⟨i, hi, rfl, ho, hB⟩ := hrel
    have HB := Lib.hid hB
    have HO := Lib.hid ho
    have hR := HR.out.below hB
    clear hB ho
    obtain ⟨k, hk⟩ : ∃ k, k = i + 1 := ⟨_, rfl⟩
    rw [← hk]
    by_cases hlt : k < n
    · obtain ⟨b, off, hAb, hbl⟩ := hR.pos (by omega)
      subst hAb
      obtain ⟨x, v0, v1, v2, v3, hx, c0, c1, c2, c3, hev⟩ := hR.at_ i (by omega)
      obtain ⟨y, u0, u1, u2, u3, hy, d0, d1, d2, d3, hew⟩ := hR.at_ k hlt
      have HL1 : Hid (∀ wx, Below wr.heap.size wr wx → Calls Try.prog 80 #[.agg #[v0, v1, v2, v3], .agg #[u0, u1, u2, u3]] wx (RetT wx (lessE x y))) := Lib.hid (fun wx hb => memLess_any (hev.below hb) (hew.below hb))
      have HSX : Hid (∀ wx, Below wr.heap.size wr wx → wx.cell? ⟨b, off + i * 4, none⟩ = some v0 ∧ wx.cell? ⟨b, off + i * 4 + 1, none⟩ = some v1 ∧ wx.cell? ⟨b, off + i * 4 + 2, none⟩ = some v2 ∧ wx.cell? ⟨b, off + i * 4 + 3, none⟩ = some v3 ∧ wx.cell? ⟨b, off + k * 4, none⟩ = some u0 ∧ wx.cell? ⟨b, off + k * 4 + 1, none⟩ = some u1 ∧ wx.cell? ⟨b, off + k * 4 + 2, none⟩ = some u2 ∧ wx.cell? ⟨b, off + k * 4 + 3, none⟩ = some u3) := Lib.hid (fun wx h =>
        ⟨(h.cell (p := ⟨b, off + i * 4, none⟩) hbl).trans c0, (h.cell (p := ⟨b, off + i * 4 + 1, none⟩) hbl).trans c1, (h.cell (p := ⟨b, off + i * 4 + 2, none⟩) hbl).trans c2, (h.cell (p := ⟨b, off + i * 4 + 3, none⟩) hbl).trans c3, (h.cell (p := ⟨b, off + k * 4, none⟩) hbl).trans d0, (h.cell (p := ⟨b, off + k * 4 + 1, none⟩) hbl).trans d1, (h.cell (p := ⟨b, off + k * 4 + 2, none⟩) hbl).trans d2, (h.cell (p := ⟨b, off + k * 4 + 3, none⟩) hbl).trans d3⟩)
      have hB0 : Below wr.heap.size wr wr.drew := (Below.refl _ _).drew
      have hk1 : IntKind.i64.wrap ((k : Int) - 1) = (i : Int) := by rw [IntWalk.i64_in _ (by omega)]; omega
      have hin : i < n := by omega
      have HST : Hid (ordK es k = (ordK es i && lessE x y)) := Lib.hid (by rw [hk]; exact ordK_step hx (by rw [← hk]; exact hy))
      have HKI := Lib.hid hk
      obtain ⟨z, hz⟩ : ∃ z, z = lessE x y := ⟨_, rfl⟩
      rw [← hz] at HL1 HST
      clear hR hx hev hy hew hz hk
      cases z with
      | true =>
        go_wp2_with fail
        go_region_held3 (fun wx => wx.cell? ⟨b, off + i * 4, none⟩ = some v0 ∧ wx.cell? ⟨b, off + i * 4 + 1, none⟩ = some v1 ∧ wx.cell? ⟨b, off + i * 4 + 2, none⟩ = some v2 ∧ wx.cell? ⟨b, off + i * 4 + 3, none⟩ = some v3 ∧ wx.cell? ⟨b, off + k * 4, none⟩ = some u0 ∧ wx.cell? ⟨b, off + k * 4 + 1, none⟩ = some u1 ∧ wx.cell? ⟨b, off + k * 4 + 2, none⟩ = some u2 ∧ wx.cell? ⟨b, off + k * 4 + 3, none⟩ = some u3) (first | assumption | exact HSX.out _ hB0)
          (first | (go_at_call 80; with_reducible refine (HL1.out _ (by assumption)).mono ?_; intro e1 wn hq; obtain ⟨h1, bn⟩ := RetT.outD hq; subst h1; have bn' := belowT' (by assumption : Below wr.heap.size wr _) bn; have hS1 := HSX.out _ bn'))
        all_goals
          have HBN : Hid (Below w.heap.size w _) := Lib.hid (HB.out.trans ((by assumption : Below wr.heap.size wr wn).mono HB.out.size))
          go_wp2_with fail
          go_roundw
          case rel => exact ⟨k, .inl hlt, by go_num, by rw [HST.out, HO.out]; rfl, HBN.out⟩
          case measure => simp [intOf]; omega
      | false =>
        go_wp2_with fail
        go_region_held3 (fun wx => wx.cell? ⟨b, off + i * 4, none⟩ = some v0 ∧ wx.cell? ⟨b, off + i * 4 + 1, none⟩ = some v1 ∧ wx.cell? ⟨b, off + i * 4 + 2, none⟩ = some v2 ∧ wx.cell? ⟨b, off + i * 4 + 3, none⟩ = some v3 ∧ wx.cell? ⟨b, off + k * 4, none⟩ = some u0 ∧ wx.cell? ⟨b, off + k * 4 + 1, none⟩ = some u1 ∧ wx.cell? ⟨b, off + k * 4 + 2, none⟩ = some u2 ∧ wx.cell? ⟨b, off + k * 4 + 3, none⟩ = some u3) (first | assumption | exact HSX.out _ hB0)
          (first | (go_at_call 80; with_reducible refine (HL1.out _ (by assumption)).mono ?_; intro e1 wn hq; obtain ⟨h1, bn⟩ := RetT.outD hq; subst h1; have bn' := belowT' (by assumption : Below wr.heap.size wr _) bn; have hS1 := HSX.out _ bn'))
        all_goals
          have HBN : Hid (Below w.heap.size w _) := Lib.hid (HB.out.trans ((by assumption : Below wr.heap.size wr wn).mono HB.out.size))
          have HFIN : Hid (ordE es = false) := Lib.hid (by
            have h1 := HST.out
            rw [Bool.and_false] at h1
            exact ordK_false h1 _ (by rw [HL.out]; omega))
          go_wp2_with fail
          go_ret
          exact ⟨by rw [HFIN.out]; rfl, HBN.out⟩
    · have HFIN : Hid (ordE es = true) := Lib.hid (by
        have h1 := HO.out
        unfold ordE
        rw [HL.out]
        obtain rfl : n - 1 = i := by omega
        exact h1)
      go_wp2_with fail
      go_ret
      exact ⟨by rw [HFIN.out]; rfl, HB.out⟩

theorem cut4_lh {P : Program} {t e : TypeId} (ht : P.underlying t = some (.slice e)) (he : P.elem t = e) (hs : ∀ w, (sizeOf e).run P w = .ok 4 w)
    (A : Option Addr) {n cap k m : Nat} (hk : k ≤ m) (hm : m ≤ cap) (w : World) :
    (Instr.slice t (.slice A n cap) (some (.int .i64 (k : Int))) (some (.int .i64 (m : Int))) none).run P w = .ok (.slice (cutA4 A k cap) (m - k) (cap - k)) w := by
  subst he
  rw [run_slice_lh w t A n cap ht .i64 .i64 (k : Int) (m : Int) (by omega) (by omega) (by omega)]
  simp only [hs, Result.andThen, sliced, Int.toNat_natCast, cutA4]
/-- A part of the entries. -/
theorem REs.part {w : World} {A : Option Addr} {n k m cap : Nat} {es : List En} (h : REs w A n es) (hk : k ≤ m) (hm : m ≤ n) (hc : n ≤ cap) : REs w (cutA4 A k cap) (m - k) ((es.take m).drop k) := by
  obtain ⟨h1, vs, h2, h3⟩ := h
  exact REs.mk (EVs.drop k (EVs.take m h2)) (rdv_cut4 h3 hk hm hc) (by rw [List.length_drop, List.length_take]; omega)

theorem cutA4_pos {bl off k c : Nat} (h : k < c) : cutA4 (some ⟨bl, off, none⟩) k c = some ⟨bl, off + k * 4, none⟩ := by
  unfold cutA4
  rw [if_neg (by omega)]
  simp only [Option.map_some]
  unfold Addr.add
  split
  · next h0 => rw [h0]; rfl
  · rfl
/-- What 'cut' has behind i entries: the groups, where the next one begins, its bytes so far. -/
def cutS (size : Int) (es : List En) : Nat → List (List En) × Nat × Nat
  | 0 => ([], 0, 0)
  | i + 1 => match es[i]? with
    | none => cutS size es i
    | some x => if size ≤ (((cutS size es i).2.2 + wE x : Nat) : Int) then ((cutS size es i).1 ++ [(es.take (i + 1)).drop (cutS size es i).2.1], i + 1, 0) else ((cutS size es i).1, (cutS size es i).2.1, (cutS size es i).2.2 + wE x)
def grpE (size : Int) (es : List En) : List (List En) :=
  if (cutS size es es.length).2.1 < es.length then (cutS size es es.length).1 ++ [es.drop (cutS size es es.length).2.1] else (cutS size es es.length).1
theorem cutS_yes {size : Int} {es : List En} {i b s : Nat} {g : List (List En)} {x : En} (h : cutS size es i = (g, b, s)) (hx : es[i]? = some x) (hs : size ≤ ((s + wE x : Nat) : Int)) : cutS size es (i + 1) = (g ++ [(es.take (i + 1)).drop b], i + 1, 0) := by
  rw [cutS, hx, h]
  exact if_pos hs
theorem cutS_no {size : Int} {es : List En} {i b s : Nat} {g : List (List En)} {x : En} (h : cutS size es i = (g, b, s)) (hx : es[i]? = some x) (hs : ¬ size ≤ ((s + wE x : Nat) : Int)) : cutS size es (i + 1) = (g, b, s + wE x) := by
  rw [cutS, hx, h]
  exact if_neg hs
theorem totE_snoc {es : List En} {i : Nat} {x : En} (h : es[i]? = some x) : totE (es.take (i + 1)) = totE (es.take i) + (wE x + 1) := by
  rw [List.take_add_one, h, totE_app]
  rfl

set_option maxRecDepth 100000 in
set_option maxHeartbeats 8000000 in
theorem tbCut_any {w : World} {A : Option Addr} {n c : Nat} {es : List En} (size : Int) (h : REs w A n es) (hn : n ≤ 1099511627776) (hc : n ≤ c) (ht : totE es ≤ 1099511627776) :
    Calls Try.prog 56 #[.int .i64 size, .slice A n c] w (RetLs w (grpE size es)) := by
  have HL := Lib.hid h.len
  have HR := Lib.hid h
  have HT := Lib.hid ht
  have HLH : Hid (∀ k m, k ≤ m → m ≤ n → ∀ w, (Instr.slice 22 (.slice A n c) (some (.int .i64 (k : Int))) (some (.int .i64 (m : Int))) none).run Try.prog w = .ok (.slice (cutA4 A k c) (m - k) (c - k)) w) := Lib.hid (fun k m h1 h2 w => cut4_lh (P := Try.prog) Try.underlying22 elem4 size4 A h1 (by omega) w)
  have HLO : Hid (∀ k, k ≤ n → ∀ w, (Instr.slice 22 (.slice A n c) (some (.int .i64 (k : Int))) none none).run Try.prog w = .ok (.slice (cutA4 A k c) (n - k) (c - k)) w) := Lib.hid (fun k h1 w => cut4_l (P := Try.prog) Try.underlying22 elem4 size4 A h1 w)
  clear h ht
  go_enter Try.func56, Try.ntmps56
  go_wp2_with fail
  go_loopw [5, 6, 7, 12] (fun s5 s6 s7 s12 wr => ∃ (k m d b s : Nat) (L : Option Addr) (g : List (List En)), k ≤ n ∧ b ≤ k ∧ s12 = .int .i64 (k : Int) ∧ s5 = .slice L m d ∧ s6 = .int .i64 (b : Int) ∧ s7 = .int .i64 (s : Int) ∧ m ≤ k ∧ s ≤ totE (es.take k) ∧ cutS size es k = (g, b, s) ∧ PkS w g L m d wr) (fun _ _ _ s _ => n - (intOf s).toNat)
  case atStart => exact ⟨0, 0, 0, 0, 0, none, [], Nat.zero_le _, Nat.zero_le _, rfl, rfl, rfl, rfl, Nat.le_refl _, Nat.zero_le _, rfl, [], OwnV.nil _ _ _, rfl, rfl, Below.refl _ _⟩
  case round =>
    obtain ⟨k, m, d, b, s, L, g, hk, hbk, rfl, rfl, rfl, rfl, hmk, hsT, hC, hP⟩ := hrel
    have HP := Lib.hid hP
    have HB := Lib.hid hP.bel
    have HC := Lib.hid hC
    have HST := Lib.hid hsT
    clear hP hC hsT
    by_cases hlt : k < n
    · obtain ⟨bl, off, hAb, hbl⟩ := HR.out.pos (by omega)
      subst hAb
      obtain ⟨x, v0, v1, v2, v3, hx, c0, c1, c2, c3, hev⟩ := HR.out.at_ k hlt
      obtain ⟨K, kn, kc, V, vn, vc, rfl, rfl, rfl, rfl, hrk, hrv, _⟩ := hev.parts
      have hwE : wE x = kn + vn := by unfold wE; rw [hrk.len, hrv.len]
      have hTS := totE_snoc hx
      have hTL := totE_take es (k + 1)
      obtain ⟨s2, hs2⟩ : ∃ s2, s2 = s + wE x := ⟨_, rfl⟩
      have hs2T : s2 ≤ totE (es.take (k + 1)) := by have := HST.out; omega
      have hs2B : s2 ≤ 1099511627776 := by have := HT.out; omega
      have hw1 : IntKind.i64.wrap ((kn : Int) + (vn : Int)) = (kn : Int) + (vn : Int) := IntWalk.i64_in _ (by omega)
      have hw2 : IntKind.i64.wrap ((s : Int) + ((kn : Int) + (vn : Int))) = (s2 : Int) := by rw [IntWalk.i64_in _ (by omega)]; omega
      have HX := Lib.hid hx
      have HS2 := Lib.hid hs2
      have HS2T := Lib.hid hs2T
      obtain ⟨U0, hU⟩ : ∃ U0, U0 = wr.alloc (.cells #[.slice K kn kc, .int .u64 (x.seq : Int), .int .u8 (x.kind : Int), .slice V vn vc] 37) := ⟨_, rfl⟩
      obtain ⟨g0, hg0⟩ : ∃ g0, g0 = wr.heap.size := ⟨_, rfl⟩
      have bU : Below wr.heap.size wr U0 := by rw [hU]; exact (Below.refl _ _).alloc (Nat.le_refl _) _
      have zU : Cl U0 g0 #[.slice K kn kc, .int .u64 (x.seq : Int), .int .u8 (x.kind : Int), .slice V vn vc] 37 := by rw [hU, hg0]; exact Cl.new _ _ _
      obtain ⟨z0, z1, z2, z3, _⟩ := zU.c4
      have hB := HB.out
      have d0 := (hB.cell (p := ⟨bl, off + k * 4, none⟩) hbl).trans c0
      have d1 := (hB.cell (p := ⟨bl, off + k * 4 + 1, none⟩) hbl).trans c1
      have d2 := (hB.cell (p := ⟨bl, off + k * 4 + 2, none⟩) hbl).trans c2
      have d3 := (hB.cell (p := ⟨bl, off + k * 4 + 3, none⟩) hbl).trans c3
      have HU := Lib.hid hU
      have HG := Lib.hid hg0
      have HBU := Lib.hid bU
      clear hx c0 c1 c2 c3 hev hrk hrv hwE hTS hTL hs2 hs2T hU hg0 bU zU hB
      go_upto_region 6 with (fail)
      rw [← HU.out, ← HG.out]
      clear d0 d1 d2 d3
      by_cases hge : size ≤ (s2 : Int)
      · have HCS : Hid (cutS size es (k + 1) = (g ++ [(es.take (k + 1)).drop b], k + 1, 0)) := Lib.hid (cutS_yes HC.out HX.out (by rw [← HS2.out]; exact hge))
        have HRP : Hid (REs w (some ⟨bl, off + b * 4, none⟩) (k + 1 - b) ((es.take (k + 1)).drop b)) := Lib.hid (by rw [← cutA4_pos (c := c) (by omega)]; exact HR.out.part (by omega) (by omega) hc)
        have hm2e : k + 1 - b ≤ c - b := by omega
        obtain ⟨vs, o1, hv1, hl1, hb1⟩ := HP.out
        obtain ⟨W1, hW1⟩ : ∃ W1, W1 = U0.alloc (.cells #[.slice (some ⟨bl, off + b * 4, none⟩) (k + 1 - b) (c - b)] 22) := ⟨_, rfl⟩
        have bW1 : Below wr.heap.size wr W1 := belowT HBU.out (by rw [hW1]; exact (Below.refl _ _).alloc (Nat.le_refl _) _)
        have O1 := Lib.hid (OwnV.below o1 bW1)
        have HV1 := Lib.hid hv1
        have HL1 := Lib.hid hl1
        have HBA := Lib.hid (hb1.trans (bW1.mono hb1.size))
        have HRD : Hid (RdV W1 (some ⟨U0.heap.size, 0, none⟩) 1 [.slice (some ⟨bl, off + b * 4, none⟩) (k + 1 - b) (c - b)]) := Lib.hid (by rw [hW1]; exact OwnV.rd (ownV_box2 U0 22 U0.heap.size [.slice (some ⟨bl, off + b * 4, none⟩) (k + 1 - b) (c - b)] 1 rfl (by omega) (Nat.le_refl _) _ rfl))
        have hone : ∀ u ∈ [Value.slice (some ⟨bl, off + b * 4, none⟩) (k + 1 - b) (c - b)], u.oneCell' = true := by intro u hu; rw [List.mem_singleton] at hu; rw [hu]; rfl
        have HON := Lib.hid hone
        have HW1 := Lib.hid hW1
        obtain ⟨u1, hu1⟩ : ∃ u1, u1 = U0.heap.size := ⟨_, rfl⟩
        rw [← hu1] at HRD
        have HU1 := Lib.hid hu1
        clear o1 hv1 hl1 hb1 hone hW1 bW1 hu1
        go_wp2_with (at_builtin; rw [← HW1.out, ← HU1.out]; refine wpList_appV W1 rfl _ _ 53 rfl w.heap.size 22 (.slice none 0 0) 24 Try.underlying53 info_les rfl L m d vs rfl O1.out (some ⟨u1, 0, none⟩) 1 1 [.slice (some ⟨bl, off + b * 4, none⟩) (k + 1 - b) (c - b)] rfl HRD.out HON.out ?_ ?_ ?_ ?_)
        · unfold maxLen; omega
        · omega
        · exact HBA.out.size
        intro L2 d2 w3 o2 hg2 _
        have HP3 : Hid (PkS w (g ++ [(es.take (k + 1)).drop b]) L2 (m + 1) d2 w3) := Lib.hid (⟨_, o2, LsV.snoc HRP.out hm2e HV1.out, by rw [List.length_append, HL1.out]; rfl, HBA.out.grown hg2 HBA.out.size (fun g hg => (OwnV.lt O1.out g hg).1)⟩)
        clear o2 hg2
        go_wp2_with fail
        go_roundw
        case rel => exact ⟨k + 1, m + 1, d2, k + 1, 0, L2, _, by omega, Nat.le_refl _, by go_num, rfl, by go_num, rfl, by omega, Nat.zero_le _, HCS.out, HP3.out⟩
        case measure => simp [intOf]; omega
      · have HCS : Hid (cutS size es (k + 1) = (g, b, s2)) := Lib.hid (by rw [HS2.out]; exact cutS_no HC.out HX.out (by rw [← HS2.out]; exact hge))
        obtain ⟨vs, o1, hv1, hl1, hb1⟩ := HP.out
        have HP3 : Hid (PkS w g L m d U0) := Lib.hid ⟨vs, o1.below HBU.out, hv1, hl1, hb1.trans (HBU.out.mono hb1.size)⟩
        clear o1 hv1 hl1 hb1
        go_wp2_with fail
        go_roundw
        case rel => exact ⟨k + 1, m, d, b, s2, L, g, by omega, by omega, by go_num, rfl, rfl, rfl, by omega, HS2T.out, HCS.out, HP3.out⟩
        case measure => simp [intOf]; omega
    · have hkn : k = n := by omega
      have HCN : Hid (cutS size es es.length = (g, b, s)) := Lib.hid (by rw [HL.out, ← hkn]; exact HC.out)
      have hB := HB.out
      by_cases hbn : b < n
      · have hF : grpE size es = g ++ [es.drop b] := by
          unfold grpE
          rw [HCN.out, HL.out]
          exact if_pos hbn
        have HF0 := Lib.hid hF
        obtain ⟨bl, off, hAb, hbl⟩ := HR.out.pos (by omega)
        subst hAb
        have HRP : Hid (REs w (some ⟨bl, off + b * 4, none⟩) (n - b) (es.drop b)) := Lib.hid (by
          have := HR.out.part (k := b) (m := n) (by omega) (Nat.le_refl _) hc
          rw [List.take_of_length_le (by have := HL.out; omega), cutA4_pos (by omega)] at this
          exact this)
        have hm2e : n - b ≤ c - b := by omega
        obtain ⟨vs, o1, hv1, hl1, hb1⟩ := HP.out
        obtain ⟨W1, hW1⟩ : ∃ W1, W1 = wr.alloc (.cells #[.slice (some ⟨bl, off + b * 4, none⟩) (n - b) (c - b)] 22) := ⟨_, rfl⟩
        have bW1 : Below wr.heap.size wr W1 := by rw [hW1]; exact (Below.refl _ _).alloc (Nat.le_refl _) _
        have O1 := Lib.hid (OwnV.below o1 bW1)
        have HV1 := Lib.hid hv1
        have HL1 := Lib.hid hl1
        have HBA := Lib.hid (hb1.trans (bW1.mono hb1.size))
        have HRD : Hid (RdV W1 (some ⟨wr.heap.size, 0, none⟩) 1 [.slice (some ⟨bl, off + b * 4, none⟩) (n - b) (c - b)]) := Lib.hid (by rw [hW1]; exact OwnV.rd (ownV_box2 wr 22 wr.heap.size [.slice (some ⟨bl, off + b * 4, none⟩) (n - b) (c - b)] 1 rfl (by omega) (Nat.le_refl _) _ rfl))
        have hone : ∀ u ∈ [Value.slice (some ⟨bl, off + b * 4, none⟩) (n - b) (c - b)], u.oneCell' = true := by intro u hu; rw [List.mem_singleton] at hu; rw [hu]; rfl
        have HON := Lib.hid hone
        have HW1 := Lib.hid hW1
        obtain ⟨u1, hu1⟩ : ∃ u1, u1 = wr.heap.size := ⟨_, rfl⟩
        rw [← hu1] at HRD
        have HU1 := Lib.hid hu1
        clear o1 hv1 hl1 hb1 hone hW1 bW1 hu1 hF hB
        go_wp2_with (at_builtin; rw [← HW1.out, ← HU1.out]; refine wpList_appV W1 rfl _ _ 53 rfl w.heap.size 22 (.slice none 0 0) 24 Try.underlying53 info_les rfl L m d vs rfl O1.out (some ⟨u1, 0, none⟩) 1 1 [.slice (some ⟨bl, off + b * 4, none⟩) (n - b) (c - b)] rfl HRD.out HON.out ?_ ?_ ?_ ?_)
        · unfold maxLen; omega
        · omega
        · exact HBA.out.size
        intro L2 d2 w3 o2 hg2 _
        have HF : Hid (RetLs w (grpE size es) (.returned (.slice L2 (m + 1) d2)) w3) := Lib.hid (by
          have hb3 := HBA.out.grown hg2 HBA.out.size (fun g hg => (OwnV.lt O1.out g hg).1)
          rw [HF0.out]
          exact ⟨L2, m + 1, d2, rfl, LsV.rls ((LsV.snoc HRP.out hm2e HV1.out).below hb3) o2.rd (by rw [List.length_append, HL1.out]; rfl), o2.cap.1, hb3⟩)
        clear o2 hg2
        go_wp2_with fail
        go_ret
        exact HF.out
      · have hF : grpE size es = g := by
          unfold grpE
          rw [HCN.out, HL.out]
          exact if_neg hbn
        obtain ⟨vs, o1, hv1, hl1, hb1⟩ := HP.out
        have HF : Hid (RetLs w (grpE size es) (.returned (.slice L m d)) wr) := Lib.hid ⟨L, m, d, rfl, by rw [hF]; exact LsV.rls (hv1.below hb1) o1.rd hl1, o1.cap.1, hb1⟩
        clear o1 hv1 hl1 hb1 hF hB
        go_wp2_with fail
        go_ret
        exact HF.out
end Go.Proofs.Ytcclhkoggijkaaa
