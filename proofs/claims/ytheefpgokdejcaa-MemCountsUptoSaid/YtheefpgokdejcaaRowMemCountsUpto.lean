/- P7.3: a table that counts answers as the table inside it does, and counts its own Gets alone. No condition but sizes. -/
import Derived.Test.YtheefpgokdejcaaEnI
import Derived.Test.YtheefpgokdejcaaMathK
import Derived.Test.YtheefpgokdejcaaTrJ
import Derived.Test.YtheefpgokdejcaaEnG
import Derived.Test.YtheefpgokdejcaaAwake7
import Derived.Test.YtheefpgokdejcaaRows
import Derived.Test.YtheefpgokdejcaaOpen
import Derived.ProofKit
import Derived.OpenShut
import Derived.ShutString
import Derived.ChangeOld
import Derived.SizedLaws
import Derived.JoinedCond
import Derived.Deep.CondSized
import Derived.Deep.Matrix
import Derived.Test.YtheefpgokdejcaaBulk
import Derived.Test.YtheefpgokdejcaaOpenL
import Derived.Test.YtheefpgokdejcaaOpenE
namespace Go.Proofs.Ytheefpgokdejcaa
open Go Go.RowKit

/-- 'So far sorted.' -/
def Spk (w : World) (us : List Value) (es : List En) (L : Option Addr) (k d : Nat) (wr : World) : Prop :=
  ∃ vs, OwnE wr w.heap.size L k d vs ∧ EVs wr es vs ∧ es.length = k ∧ Below w.heap.size w wr ∧ ∀ u ∈ vs, u ∈ us
section
variable {w wr w' : World} {us : List Value} {es : List En} {L : Option Addr} {k d : Nat}
theorem Spk.zero (w : World) (us : List Value) : Spk w us [] none 0 0 w := ⟨[], OwnE.nil _ _, rfl, rfl, Below.refl _ _, fun u hu => by cases hu⟩
theorem Spk.below (h : Spk w us es L k d wr) (hb : Below wr.heap.size wr w') : Spk w us es L k d w' := by
  obtain ⟨vs, h1, h2, h3, h4, h5⟩ := h
  exact ⟨vs, h1.below hb, h2.below hb, h3, belowT' h4 hb, h5⟩
theorem Spk.bel (h : Spk w us es L k d wr) : Below w.heap.size w wr := by
  obtain ⟨vs, h1, h2, h3, h4, h5⟩ := h
  exact h4
theorem Spk.res (h : Spk w us es L k d wr) : REs wr L k es := by
  obtain ⟨vs, h1, h2, h3, h4, h5⟩ := h
  exact REs.mk h2 h1.rd h3
theorem Spk.cap (h : Spk w us es L k d wr) : k ≤ d := by
  obtain ⟨vs, h1, h2, h3, h4, h5⟩ := h
  exact h1.cap.1
theorem Spk.ret (h : Spk w us es L k d wr) : RetPick w es us (.returned (.slice L k d)) wr := by
  obtain ⟨vs, h1, h2, h3, h4, h5⟩ := h
  exact ⟨L, k, d, vs, rfl, h1, h2, h3, h4, h5⟩
end
set_option maxRecDepth 100000 in
set_option maxHeartbeats 8000000 in
theorem sorted_any {w : World} {A : Option Addr} {n c : Nat} {es : List En} {ovs : List Value} (hv : EVs w es ovs) (hd : RdV w A (n * 4) ovs) (hl : es.length = n) (hn : n ≤ 1099511627776) (hs : ∀ x ∈ es, SzE x) :
    Calls Try.prog 32 #[.slice A n c] w (RetPick w (srt [] es) ovs) := by
  have HV := Lib.hid hv
  have HD := Lib.hid hd
  have HL := Lib.hid hl
  have HS := Lib.hid hs
  clear hv hd hl hs
  go_enter Try.func32, Try.ntmps32
  go_wp2_with fail
  go_loopw [3, 4] (fun s3 s4 wr => ∃ (k m d : Nat) (L : Option Addr), k ≤ n ∧ s4 = .int .i64 (k : Int) ∧ s3 = .slice L m d ∧ Spk w ovs (srt [] (es.take k)) L m d wr) (fun _ s _ => n - (intOf s).toNat)
  case atStart => exact ⟨0, 0, 0, none, Nat.zero_le _, rfl, rfl, Spk.zero w ovs⟩
  case round =>
    obtain ⟨k, m, d, L, hk, rfl, rfl, hp⟩ := hrel
    have HP := Lib.hid hp
    have HB := Lib.hid hp.bel
    clear hp
    by_cases hlt : k < n
    · obtain ⟨b, off, hAb, hbl⟩ : ∃ b off, A = some ⟨b, off, none⟩ ∧ b < w.heap.size := HD.out.pos (by omega)
      obtain ⟨x, v0, v1, v2, v3, hx, c0, c1, c2, c3, hev, hmem⟩ := mem4 HV.out HD.out HL.out hAb hlt
      subst hAb
      have hsx := HS.out x (List.mem_of_getElem? hx)
      have HEV := Lib.hid hev
      have HMEM := Lib.hid hmem
      have HXK := Lib.hid hx
      obtain ⟨K, kn, kc, V, vn, vc, rfl, rfl, rfl, rfl, r0, _⟩ := hev.parts
      obtain ⟨o, ho⟩ : ∃ o, o = srt [] (es.take k) := ⟨_, rfl⟩
      rw [← ho] at HP
      have hol : o.length ≤ n := by
        have := (srt_len (es.take k) []).1
        rw [← ho, List.length_take] at this
        simp only [List.length_nil] at this
        omega
      have hom : o.length = m := HP.out.res.len
      have HSO : Hid (∀ y ∈ o, SzE y) := Lib.hid (fun y hy => by
        rw [ho] at hy
        rcases srt_mem y hy with q | q
        · cases q
        · exact HS.out y (List.mem_of_mem_take q))
      have HFT : Hid (srt [] (es.take (k + 1)) = if okE x && !inL o x then insL o x else o) := Lib.hid (by
        rw [List.take_add_one, HXK.out]
        simp only [Option.toList]
        rw [srt_snoc, ← ho])
      have hB := HB.out
      have d0 := (hB.cell (p := ⟨b, off + k * 4, none⟩) hbl).trans c0
      have d1 := (hB.cell (p := ⟨b, off + k * 4 + 1, none⟩) hbl).trans c1
      have d2 := (hB.cell (p := ⟨b, off + k * 4 + 2, none⟩) hbl).trans c2
      have d3 := (hB.cell (p := ⟨b, off + k * 4 + 3, none⟩) hbl).trans c3
      have HSX : Hid (∀ wx, Below wr.heap.size wr wx → wx.cell? ⟨b, off + k * 4, none⟩ = some (.slice K kn kc) ∧ wx.cell? ⟨b, off + k * 4 + 1, none⟩ = some (.int .u64 (x.seq : Int)) ∧ wx.cell? ⟨b, off + k * 4 + 2, none⟩ = some (.int .u8 (x.kind : Int)) ∧ wx.cell? ⟨b, off + k * 4 + 3, none⟩ = some (.slice V vn vc)) := Lib.hid (fun wx h => by
        have hb2 : b < wr.heap.size := Nat.lt_of_lt_of_le hbl hB.size
        exact ⟨(h.cell (p := ⟨b, off + k * 4, none⟩) hb2).trans d0, (h.cell (p := ⟨b, off + k * 4 + 1, none⟩) hb2).trans d1, (h.cell (p := ⟨b, off + k * 4 + 2, none⟩) hb2).trans d2, (h.cell (p := ⟨b, off + k * 4 + 3, none⟩) hb2).trans d3⟩)
      obtain ⟨zc, hzc⟩ : ∃ z, z = checkE [x] := ⟨_, rfl⟩
      obtain ⟨zi, hzi⟩ : ∃ z, z = inL o x := ⟨_, rfl⟩
      have HOK : Hid (okE x = decide (zc = 0)) := Lib.hid (by rw [hzc]; rfl)
      have HZI := Lib.hid hzi
      obtain ⟨W, hW⟩ : ∃ W, W = wr.alloc (.cells #[.slice K kn kc, .int .u64 (x.seq : Int), .int .u8 (x.kind : Int), .slice V vn vc] 38) := ⟨_, rfl⟩
      have bW : Below wr.heap.size wr W := by rw [hW]; exact (Below.refl _ _).alloc (Nat.le_refl _) _
      have BW := Lib.hid bW
      have HEVr := Lib.hid (HEV.out.below hB)
      have HC : Hid (Calls Try.prog 59 #[.slice (some ⟨wr.heap.size, 0, none⟩) 1 1] W (RetNu W zc)) := Lib.hid (by
        rw [hzc]
        refine refCheck_any (REs.mk (EVs.one (HEVr.out.below bW)) ?_ rfl) (by omega) (fun y hy => by simp only [List.mem_singleton] at hy; subst hy; exact hsx)
        rw [hW]
        exact rdv_of_cl (Cl.new wr #[.slice K kn kc, .int .u64 (x.seq : Int), .int .u8 (x.kind : Int), .slice V vn vc] 38))
      have HI : Hid (∀ wx, Below wr.heap.size wr wx → Calls Try.prog 60 #[.slice L m d, .agg #[.slice K kn kc, .int .u64 (x.seq : Int), .int .u8 (x.kind : Int), .slice V vn vc]] wx (RetT wx zi)) := Lib.hid (fun wx h => by
        rw [hzi]
        exact In_any (HP.out.res.below h) (by omega) HSO.out (HEVr.out.below h) hsx)
      clear hx c0 c1 c2 c3 hev hmem r0 hB ho hzc hzi bW
      go_upto_region 5 with (fail)
      go_cut [26] from 5 to 27 (fun s26 wx => s26 = .bool (okE x && !inL o x) ∧ Below wr.heap.size wr wx)
      case first =>
        by_cases t1 : zc = 0
        · have h1 : (zc == 0) = true := by simpa using t1
          have hok : okE x = true := by rw [HOK.out]; simpa using t1
          have HOKT := Lib.hid hok
          clear t1 hok
          go_wp2_with fail
          rw [← hW]
          with_reducible refine HC.out.mono ?_
          rintro e w1 ⟨rfl, b1⟩
          have b1' := belowT' BW.out b1
          obtain ⟨e0, e1, e2, e3⟩ := HSX.out _ b1'
          have B1 := Lib.hid b1'
          clear b1 b1' d0 d1 d2 d3
          go_wp2_with fail
          with_reducible refine (HI.out _ B1.out).mono ?_
          intro e w2 hq
          obtain ⟨hh, b2⟩ := RetT.outD hq
          subst hh
          have B2 := Lib.hid (belowT' B1.out b2)
          clear hq b2 e0 e1 e2 e3
          go_wp2_with fail
          go_meet
          exact ⟨by rw [HOKT.out, ← HZI.out]; rfl, B2.out⟩
        · have h1 : (zc == 0) = false := by simpa using t1
          have hok : okE x = false := by rw [HOK.out]; simpa using t1
          have HOKF := Lib.hid hok
          clear t1 hok
          go_wp2_with fail
          rw [← hW]
          with_reducible refine HC.out.mono ?_
          rintro e w1 ⟨rfl, b1⟩
          have b1' := belowT' BW.out b1
          have B1 := Lib.hid b1'
          clear b1 b1' d0 d1 d2 d3
          go_wp2_with fail
          go_meet
          exact ⟨by rw [HOKF.out]; rfl, B1.out⟩
      case rest =>
        obtain ⟨rfl, hbc⟩ := hcut
        obtain ⟨zz, hzz⟩ : ∃ zz, zz = (okE x && !inL o x) := ⟨_, rfl⟩
        rw [← hzz] at HFT ⊢
        have BC := Lib.hid hbc
        have HPC := Lib.hid (HP.out.below hbc)
        have HEC := Lib.hid (HEVr.out.below hbc)
        obtain ⟨e0, e1, e2, e3⟩ := HSX.out _ hbc
        clear hbc hzz d0 d1 d2 d3 hW
        cases zz with
        | true =>
          obtain ⟨vs, o1, hev1, hlen1, hb1, hm1⟩ := HPC.out
          have HM1 := Lib.hid hm1
          have HB1 := Lib.hid hb1
          have HI2 : Hid (Calls Try.prog 61 #[.slice L m d, .agg #[.slice K kn kc, .int .u64 (x.seq : Int), .int .u8 (x.kind : Int), .slice V vn vc]] wc (RetIns wc (m + 1) (insL o x) ([.slice K kn kc, .int .u64 (x.seq : Int), .int .u8 (x.kind : Int), .slice V vn vc] ++ vs))) := Lib.hid (Insert_any hev1 o1.rd hlen1 o1.cap.1 (by omega) HSO.out HEC.out hsx)
          clear o1 hev1 hlen1 hb1 hm1
          go_wp2_with fail
          with_reducible refine HI2.out.mono ?_
          intro e w3 hq
          obtain ⟨L3, d3', us, h1, o3, ev3, b3, hmem⟩ := RetIns.out hq
          subst h1
          have sC := HB1.out.size
          have HP2 : Hid (Spk w ovs (srt [] (es.take (k + 1))) L3 (m + 1) d3' w3) := Lib.hid (by
            rw [HFT.out, if_pos trivial]
            exact ⟨us, o3.mono sC, ev3, by rw [insL_len, hom], belowT' HB1.out b3, fun u hu => by
              rcases List.mem_append.1 (hmem u hu) with h | h
              · exact HMEM.out u h
              · exact HM1.out u h⟩)
          clear hq o3 ev3 b3 hmem e0 e1 e2 e3
          go_wp2_with fail
          go_roundw
          case rel => exact ⟨k + 1, m + 1, d3', L3, by omega, by go_num, rfl, HP2.out⟩
          case measure => simp [intOf]; omega
        | false =>
          have HP2 : Hid (Spk w ovs (srt [] (es.take (k + 1))) L m d wc) := Lib.hid (by
            rw [HFT.out, if_neg (by simp)]
            exact HPC.out)
          clear e0 e1 e2 e3
          go_wp2_with fail
          go_roundw
          case rel => exact ⟨k + 1, m, d, L, by omega, by go_num, rfl, HP2.out⟩
          case measure => simp [intOf]; omega
    · have htk := take_all HL.out hlt
      rw [htk] at HP
      clear htk
      go_wp2
      go_ret
      exact HP.out.ret
end Go.Proofs.Ytheefpgokdejcaa
namespace Go.Proofs.Ytheefpgokdejcaa
open Go Go.RowKit

theorem RetPick.rg {w w' : World} {es : List En} {us : List Value} {e : Ending} {G : Nat → Prop} (h : RetPick w es us e w') (hg : GV G us) (hG : ∀ b, w.heap.size ≤ b → G b) : ∃ L k d, e = .returned (.slice L k d) ∧ RG G w' L k es ∧ k ≤ d ∧ Below w.heap.size w w' := by
  obtain ⟨L, k, d, vs, h1, h2, h3, h4, h5, h6⟩ := h
  exact ⟨L, k, d, h1, ⟨h4, vs, h3, h2.rd, hg.sub h6, fun _ g hb => hG g (h2.lt g hb).1⟩, h2.cap.1, h5⟩
theorem betw_all {t : Tr} (hs : SortL t.list) : betw [] [] t = t.list := by
  rw [betw_list [] [] hs, List.filter_eq_self]
  intro x _
  unfold inR
  have h : 0 ≤ cmpB x.key [] := by cases x.key <;> simp [cmpB]
  simp [h]
/-- Putting a sorted list into nothing. -/
theorem putZ_sorted {S : List En} (h1 : SortL S) (h2 : ∀ x ∈ S, okE x = true) : ∃ t : Tr, putZ .nil S = (0, t) ∧ t.list = S := by
  have h3 := refIns_sort (p := []) (q := S) h1
  rw [List.nil_append] at h3
  obtain ⟨k1, k2⟩ := insAll_ref S (t := .nil) sortL_nil
  cases hi : insAll .nil S with
  | none => have := k2 hi; rw [show Tr.nil.list = [] from rfl, h3] at this; cases this
  | some t =>
    obtain ⟨e1, _⟩ := k1 t hi
    rw [show Tr.nil.list = [] from rfl, h3] at e1
    injection e1 with e1
    refine ⟨t, ?_, e1.symm⟩
    unfold putZ
    rw [if_pos (checkE_ok h2), hi]
theorem RetCg.out {G : Nat → Prop} {w : World} {p g : Nat} {t : Tr} {o : Option En} {e : Ending} {w' : World} (h : RetCg G w p g t o e w') : TB (cnt4 g) G w' p t ∧ w.grownBy w' (some p) ∧
  ((o = none ∧ e = .returned (.tuple #[.agg #[.slice none 0 0, .int .u64 0, .int .u8 0, .slice none 0 0], .bool false])) ∨
  ∃ x K kn kc V vn vc, o = some x ∧ e = .returned (.tuple #[.agg #[.slice K kn kc, .int .u64 (x.seq : Int), .int .u8 (x.kind : Int), .slice V vn vc], .bool true]) ∧ Own 5 w' w.heap.size K kn kc x.key ∧ Own 5 w' w.heap.size V vn vc x.val) := h
theorem RetGt.bel {w : World} {o : Option En} {e : Ending} {w' : World} (h : RetGt w o e w') : Below w.heap.size w w' ∧ ∃ v, e = .returned v := by
  rcases h with ⟨_, h1, h⟩ | ⟨_, _, _, _, _, _, _, _, h1, _, _, h⟩
  · exact ⟨h, _, h1⟩
  · exact ⟨h, _, h1⟩
def zeE : En := ⟨[], 0, 0, []⟩
theorem zeE_ev (w : World) : EV w zeE (.slice none 0 0) (.int .u64 0) (.int .u8 0) (.slice none 0 0) :=
  ⟨rfl, rfl, by unfold zeE U64; simp, by unfold zeE; simp, ⟨none, 0, 0, rfl, Rd.nil _ _, Nat.le_refl _, fun _ => rfl⟩, ⟨none, 0, 0, rfl, Rd.nil _ _, Nat.le_refl _, fun _ => rfl⟩⟩
theorem zeE_sz : SzE zeE := ⟨by simp [zeE], by simp [zeE]⟩
theorem RetCg.ev {G : Nat → Prop} {w : World} {p g : Nat} {t : Tr} {o : Option En} {e : Ending} {w' : World} (h : RetCg G w p g t o e w') (hz : ∀ x, o = some x → U64 x.seq ∧ x.kind < 256) : ∃ v0 v1 v2 v3, e = .returned (.tuple #[.agg #[v0, v1, v2, v3], .bool o.isSome]) ∧ EV w' (o.getD zeE) v0 v1 v2 v3 ∧ TB (cnt4 g) G w' p t ∧ w.grownBy w' (some p) := by
  obtain ⟨h1, h2, h3⟩ := h
  rcases h3 with ⟨rfl, rfl⟩ | ⟨x, K, kn, kc, V, vn, vc, rfl, rfl, o1, o2⟩
  · exact ⟨_, _, _, _, rfl, zeE_ev w', h1, h2⟩
  · exact ⟨_, _, _, _, rfl, EO.ev (base := w.heap.size) ⟨K, kn, kc, V, vn, vc, rfl, rfl, rfl, rfl, o1, o2, hz x rfl⟩, h1, h2⟩
theorem RetGl.ev {w : World} {o : Option En} {e : Ending} {w' : World} (h : RetGl w o e w') : ∃ v0 v1 v2 v3, e = .returned (.tuple #[.agg #[v0, v1, v2, v3], .bool o.isSome]) ∧ EV w' (o.getD zeE) v0 v1 v2 v3 ∧ Below w.heap.size w w' := by
  rcases h with ⟨rfl, rfl, h⟩ | ⟨x, v0, v1, v2, v3, rfl, rfl, h1, h2⟩
  · exact ⟨_, _, _, _, rfl, zeE_ev w', h⟩
  · exact ⟨_, _, _, _, rfl, h1, h2⟩
theorem findL_mem {key : List UInt8} {at_ : Nat} {es : List En} {x : En} (h : findL key at_ es = some x) : x ∈ es := List.mem_of_find?_eq_some h
theorem findL_sz {key : List UInt8} {at_ : Nat} {es : List En} (hs : ∀ x ∈ es, SzE x) : SzE ((findL key at_ es).getD zeE) := by
  cases h : findL key at_ es with
  | none => exact zeE_sz
  | some x => exact hs x (findL_mem h)
theorem size_of_tot3 {es : List En} (ht : totE es ≤ 1048576) : ∀ x ∈ es, SzE x := fun x hx => by
  have := totE_mem hx
  unfold wE at this
  exact ⟨by omega, by omega⟩
theorem szL_take3 (es : List En) (k : Nat) : szL (es.take k) ≤ szL es := szL_take es k
theorem szL_tot : ∀ es : List En, szL es ≤ totE es
  | [] => Nat.le_refl _
  | e :: t => by have := szL_tot t; unfold szL totE; omega
set_option maxRecDepth 100000 in
set_option maxHeartbeats 16000000 in
theorem memCounts_row (A : Option Addr) (n c : Nat) (es : List En) (B : Option Addr) (m d : Nat) (ks : List (List UInt8)) (w : World) (hr : REs w A n es) (hc : n ≤ c) (ht : totE es ≤ 1048576) (hk : RdL w B m ks) (tk : tot ks ≤ 1048576) :
    Calls Try.prog 4 #[.slice A n c, .slice B m d] w (RetT w true) := by
  have hsz := size_of_tot3 ht
  have hn : n ≤ 1048576 := by have := totE_len es; have := hr.len; omega
  have hm : m ≤ 1048576 := by have := tot_len ks; have := hk.len; omega
  obtain ⟨q, hq⟩ : ∃ q, q = min n 40 := ⟨_, rfl⟩
  have hqn : q ≤ n := by omega
  obtain ⟨us, hus, hrd⟩ := hr.takeV hqn
  have hgv : GV (fun g => g < w.heap.size) us := evs_lt hus
  have hln : (es.take q).length = q := by rw [List.length_take, hr.len]; omega
  obtain ⟨S, hS⟩ : ∃ S, S = srt [] (es.take q) := ⟨_, rfl⟩
  have hSP := srt_prop (xs := es.take q) (o := []) List.Pairwise.nil (fun x hx => by cases hx)
  have hSL := srt_len (es.take q) []
  have hSM : ∀ x ∈ S, SzE x := fun x hx => by
    rw [hS] at hx
    rcases srt_mem x hx with h | h
    · cases h
    · exact hsz x (List.mem_of_mem_take h)
  rw [← hS] at hSP hSL
  have hSn : S.length ≤ 40 := by rw [hln] at hSL; simp only [List.length_nil] at hSL; omega
  have hSz : szL S ≤ 1048576 := by
    have h1 := szL_take3 es q
    have h2 := szL_tot es
    have := hSL.2
    simp only [szL] at this
    omega
  obtain ⟨t, hput, htl⟩ := putZ_sorted hSP.1 hSP.2
  have hts : SortL t.list := by rw [htl]; exact hSP.1
  have htS : ∀ x ∈ t.list, SzE x := by rw [htl]; exact hSM
  have htn : t.num = S.length := by rw [num_list, htl]
  have HUS := Lib.hid hus
  have HRD := Lib.hid hrd
  have HGV := Lib.hid hgv
  have HKS := Lib.hid hk
  have HSM := Lib.hid hSM
  have HTS := Lib.hid hts
  have HTZ := Lib.hid htS
  have HPUT := Lib.hid hput
  have HTL := Lib.hid htl
  have HS := Lib.hid hS
  have HSZ := Lib.hid (fun x (hx : x ∈ es.take q) => hsz x (List.mem_of_mem_take hx))
  have HLQ := Lib.hid hln
  have HF : Hid (∀ wx, Calls Try.prog 17 #[.slice A n c, .int .i64 40] wx fun e w' => e = .returned (.slice A q c) ∧ w' = wx) := Lib.hid (fun wx => by rw [hq]; exact few_any A n c 40 hc)
  clear hr hk ht hsz hus hrd hgv hSP hSL hSM hput htl hts htS hS hln hq
  go_enter Try.func4, Try.ntmps4
  go_wp2_with fail
  with_reducible refine (awake7_any w).mono ?_
  rintro e w1 ⟨rfl, b1⟩
  have B1 := Lib.hid b1
  have s1 := b1.size
  clear b1
  go_upto_region 5 with (fail)
  obtain ⟨p, hp⟩ : ∃ p, p = w1.heap.size := ⟨_, rfl⟩
  obtain ⟨W, hW⟩ : ∃ W, W = (w1.alloc (.cells #[.pointer none, .int .i64 0, .int .i64 0, .int .i64 0] 57)).alloc (.cells #[.pointer none, .int .i64 0, .int .i64 0] 55) := ⟨_, rfl⟩
  rw [← hW, ← hp]
  have bW : Below w1.heap.size w1 W := by rw [hW]; exact ((Below.refl _ _).alloc (Nat.le_refl _) _).alloc (by simp) _
  have tP : TB (cnt4 0) (fun _ => True) W p .nil := ⟨none, by rw [hW, hp]; exact (Cl.new w1 #[.pointer none, .int .i64 0, .int .i64 0, .int .i64 0] 57).alloc _, rfl, okT_cnt 0⟩
  have tZ : TB pl3 (fun _ => True) W (p + 1) .nil := ⟨none, by rw [hW, hp]; exact Cl.newg _ #[.pointer none, .int .i64 0, .int .i64 0] 55 _ (by simp), rfl, okT_pl⟩
  have sW : W.heap.size = p + 2 := by rw [hW, hp]; simp
  have BW := Lib.hid (B1.out.trans (bW.mono s1))
  have TP := Lib.hid tP
  have TZ := Lib.hid tZ
  have hpw : w.heap.size ≤ p := by rw [hp]; exact s1
  clear bW tP tZ hW hp
  go_wp2_with fail
  with_reducible refine (len_any TZ.out).mono ?_
  rintro e w2 ⟨rfl, b2⟩
  have TZ2 := Lib.hid (TZ.out.below b2)
  have TP2 := Lib.hid (TP.out.below b2)
  have B2 := Lib.hid (belowT BW.out b2)
  have s2 := b2.size
  clear b2
  have hbt : betw [] [] Tr.nil = [] := rfl
  have HRN : Hid (Calls Try.prog 30 #[.pointer (some ⟨p + 1, 0, none⟩), .slice none 0 0, .slice none 0 0] w2 (RetBt w2 [])) := Lib.hid (by
    have := range_any (fc := 0) (tc := 0) TZ2.out (Rd.nil w2 none) (Rd.nil w2 none) (fun x hx => by cases hx) (by simp [Tr.num])
    rw [hbt] at this
    exact this)
  have t0 : ((0 : Int) != 0) = false := rfl
  clear hbt
  go_wp2_with fail
  with_reducible refine HRN.out.mono ?_
  intro e w3 hq
  obtain ⟨L0, k0, d0, h1, hrow⟩ := RetBt.out hq
  subst h1
  have hk0 := hrow.len
  have hbel := hrow.bel
  have TP3 := Lib.hid (TP2.out.below hbel)
  have B3 := Lib.hid (belowT B2.out hbel)
  have s3 := hbel.size
  obtain rfl : k0 = 0 := hk0.symm
  clear hq hrow hk0 hbel
  go_wp2_with fail
  with_reducible refine (HF.out _).mono ?_
  rintro e w4 ⟨rfl, rfl⟩
  have HSO : Hid (Calls Try.prog 32 #[.slice A q c] w4 (RetPick w4 S us)) := Lib.hid (by
    rw [HS.out]
    exact sorted_any (HUS.out.below B3.out) (HRD.out.below B3.out) HLQ.out (by omega) HSZ.out)
  go_wp2_with fail
  with_reducible refine HSO.out.mono ?_
  intro e w5 hq
  obtain ⟨L, ln, lc, h1, hrg, hlc, b5⟩ := RetPick.rg (G := fun b => b ≠ p) hq (HGV.out.mono (fun g hg => by omega)) (fun b hb => by omega)
  subst h1
  have hlS : S.length = ln := hrg.len
  have RG5 := Lib.hid hrg
  have TP5 := Lib.hid (TP3.out.below b5)
  have B5 := Lib.hid (belowT B3.out b5)
  have s5 := b5.size
  clear hq hrg b5 HSO
  go_wp2_with fail
  with_reducible refine (Twins_any RG5.out.res (by omega) HSM.out).mono ?_
  intro e w6 hq
  obtain ⟨M, mn, mc, h1, hrow⟩ := hq
  subst h1
  have hml : S.length = mn := RowE.len hrow
  have b6 := RowE.bel hrow
  have TP6 := Lib.hid (TP5.out.below b6)
  have RG6 := Lib.hid (RG5.out.below b6)
  have RM6 := Lib.hid (RowE.rd hrow)
  have B6 := Lib.hid (belowT B5.out b6)
  have s6 := b6.size
  clear hrow b6
  have HPT : Hid (Calls Try.prog 19 #[.pointer (some ⟨p, 0, none⟩), .slice M mn mc] w6 (RetPt (cnt4 0) (fun _ => True) w6 p (0, t))) := Lib.hid (by
    rw [← HPUT.out]
    exact tabPut_any TP6.out RM6.out (by omega) HSM.out (by simp only [Tr.num]; omega) (by have := hSz; simp only [Tr.sz, Tr.list, szL]; omega) (fun _ _ => trivial))
  go_wp2_with fail
  with_reducible refine HPT.out.mono ?_
  rintro e w7 ⟨rfl, t7, g7⟩
  have TP7 := Lib.hid t7
  have RG7 := Lib.hid (RG6.out.good (FrG.of_grown g7 (fun g hg h => h (by injection hg with hg; exact hg.symm))))
  have B7 := Lib.hid (B6.out.grown g7 B6.out.size (fun k hk => by injection hk with hk; omega))
  have s7 := g7.size
  clear t7 g7 HPT
  go_wp2_with fail
  go_loopw [32] (fun s32 wr => ∃ k : Nat, k ≤ m ∧ s32 = .int .i64 (k : Int) ∧ TB (cnt4 k) (fun _ => True) wr p t ∧ RG (fun b => b ≠ p) wr L ln S ∧ Below w.heap.size w wr ∧ p < wr.heap.size) (fun s _ => m - (intOf s).toNat)
  case atStart => exact ⟨0, Nat.zero_le _, rfl, TP7.out, RG7.out, B7.out, by omega⟩
  case round =>
    obtain ⟨k, hk, rfl, hT, hG, hB, hps⟩ := hrel
    have HT := Lib.hid hT
    have HG := Lib.hid hG
    have HB := Lib.hid hB
    have hwf := hG.res.wf
    have HWF := Lib.hid hwf
    clear hT hG hB hwf
    by_cases hlt : k < m
    · obtain ⟨b2, of2, hBe, hb2⟩ : ∃ b off, B = some ⟨b, off, none⟩ ∧ b < w.heap.size := HKS.out.pos (by omega)
      subst hBe
      obtain ⟨xs, K, kn, kc, hxs, hcell0, hrd0, _, _⟩ := HKS.out.at_ k hlt
      have HRD0 := Lib.hid hrd0
      have hrd := hrd0.below HB.out
      have hcell := (HB.out.cell (p := ⟨b2, of2 + k, none⟩) hb2).trans hcell0
      have hkl : kn ≤ 1048576 := by have h1 := tot_at hxs; have h2 := hrd.len; omega
      have HCP : Hid (Calls Try.prog 26 #[.slice K kn kc] wr (Made wr.heap.size wr xs)) := Lib.hid (Copy_any K kn kc xs wr hrd (by omega))
      obtain ⟨o, ho⟩ : ∃ o, o = findL xs 5 S := ⟨_, rfl⟩
      have HO := Lib.hid ho
      have hoz : ∀ x, o = some x → U64 x.seq ∧ x.kind < 256 := fun x hx => HWF.out x (findL_mem (ho ▸ hx))
      have HOZ := Lib.hid hoz
      have HTG : Hid (tabGet t xs 5 = o) := Lib.hid (by rw [tabGet_list HTS.out, HTL.out, ho])
      have HSX : Hid (SzE (o.getD zeE)) := Lib.hid (by rw [ho]; exact findL_sz HSM.out)
      obtain ⟨z, hz⟩ : ∃ z, z = o.isSome := ⟨_, rfl⟩
      obtain ⟨y, hy⟩ : ∃ y, y = o.getD zeE := ⟨_, rfl⟩
      have HY := Lib.hid hy
      rw [← hy] at HSX
      clear hy
      have HZ := Lib.hid hz
      have tz : (z != z) = false := by simp
      clear hxs hrd hrd0 hcell0 ho hoz hz
      go_wp2_with fail
      with_reducible refine HCP.out.mono ?_
      intro e w8 hq
      obtain ⟨C, cn, cc, h1, hown, b8⟩ := Made.out hq
      subst h1
      obtain rfl : cn = kn := by rw [← hown.len, HRD0.out.len]
      have HCG : Hid (Calls Try.prog 33 #[.pointer (some ⟨p, 0, none⟩), .slice C cn cc, .int .u64 5] w8 (RetCg (fun _ => True) w8 p (k + 1) t o)) := Lib.hid (by
        rw [← HTG.out]
        exact cntGet_any (at_ := 5) (HT.out.below b8) HTZ.out hown.rd hown.cap.1 (fun h => (hown.nil_of (by rw [h]; rfl)).2.2) (by unfold U64; simp) (by omega) (fun _ hc => by have := (hown.lt p hc).1; omega))
      have HG8 := Lib.hid (HG.out.below b8)
      have B8 := Lib.hid (HB.out.trans (b8.mono HB.out.size))
      have s8 := b8.size
      clear hq hown b8 HCP
      go_wp2_with fail
      with_reducible refine HCG.out.mono ?_
      intro e w9 hq
      obtain ⟨v0, v1, v2, v3, h1, hev, hT9, g9⟩ := RetCg.ev hq HOZ.out
      subst h1
      rw [← HY.out] at hev
      obtain ⟨K1, kn1, kc1, V1, vn1, vc1, rfl, rfl, rfl, rfl, _⟩ := hev.parts
      rw [← HZ.out]
      have HEV9 := Lib.hid hev
      have HT9 := Lib.hid hT9
      have HG9 := Lib.hid (HG8.out.good (FrG.of_grown g9 (fun g hg h => h (by injection hg with hg; exact hg.symm))))
      have HB9 := Lib.hid (B8.out.grown g9 B8.out.size (fun k hk => by injection hk with hk; omega))
      have s9 := g9.size
      clear hq hev hT9 g9 HCG
      obtain ⟨W9, hW9⟩ : ∃ W9, W9 = w9.alloc (.cells #[.slice K1 kn1 kc1, .int .u64 (y.seq : Int), .int .u8 (y.kind : Int), .slice V1 vn1 vc1] 38) := ⟨_, rfl⟩
      have b9 : Below w9.heap.size w9 W9 := by rw [hW9]; exact (Below.refl _ _).alloc (Nat.le_refl _) _
      have x9 : Cl W9 w9.heap.size #[.slice K1 kn1 kc1, .int .u64 (y.seq : Int), .int .u8 (y.kind : Int), .slice V1 vn1 vc1] 38 := by rw [hW9]; exact Cl.new _ _ _
      have X9 := Lib.hid x9
      have BW9 := Lib.hid (HB9.out.trans (b9.mono HB9.out.size))
      have EV9 := Lib.hid (HEV9.out.below b9)
      have TW9 := Lib.hid (HT9.out.below b9)
      have GW9 := Lib.hid (HG9.out.below b9)
      have sW9 := b9.size
      have HRG : Hid (Calls Try.prog 27 #[.slice L ln lc, .slice K cn kc, .int .u64 5] W9 (RetGl W9 o)) := Lib.hid (by
        rw [HO.out]
        exact refGet_any (at_ := 5) GW9.out.res (by omega) HSM.out (HRD0.out.below BW9.out) (by unfold maxLen; omega))
      clear b9 x9
      go_upto_region 14 with (fail)
      rw [← hW9]
      clear hW9
      go_wp2_with fail
      with_reducible refine HRG.out.mono ?_
      intro e wA hq
      obtain ⟨u0, u1, u2, u3, h1, hev, bA⟩ := RetGl.ev hq
      subst h1
      rw [← HY.out] at hev
      rw [← HZ.out]
      obtain ⟨K2, kn2, kc2, V2, vn2, vc2, rfl, rfl, rfl, rfl, _⟩ := hev.parts
      obtain ⟨W, hW⟩ : ∃ W, W = wA.alloc (.cells #[.slice K2 kn2 kc2, .int .u64 (y.seq : Int), .int .u8 (y.kind : Int), .slice V2 vn2 vc2] 38) := ⟨_, rfl⟩
      have b0 : Below wA.heap.size wA W := by rw [hW]; exact (Below.refl _ _).alloc (Nat.le_refl _) _
      have bb : Below W9.heap.size W9 W := belowT bA b0
      have y9 : Cl W wA.heap.size #[.slice K2 kn2 kc2, .int .u64 (y.seq : Int), .int .u8 (y.kind : Int), .slice V2 vn2 vc2] 38 := by rw [hW]; exact Cl.new _ _ _
      have x9 := X9.out.below bb
      have HSM2 : Hid (Calls Try.prog 28 #[.agg #[.slice K1 kn1 kc1, .int .u64 (y.seq : Int), .int .u8 (y.kind : Int), .slice V1 vn1 vc1], .agg #[.slice K2 kn2 kc2, .int .u64 (y.seq : Int), .int .u8 (y.kind : Int), .slice V2 vn2 vc2]] W (RetT W true)) := Lib.hid (Same_any (EV9.out.below bb) (hev.below b0) HSX.out)
      have TW := Lib.hid (TW9.out.below bb)
      have GW := Lib.hid (GW9.out.below bb)
      have BW := Lib.hid (BW9.out.trans (bb.mono BW9.out.size))
      have sW := bb.size
      obtain ⟨c0, c1, c2, c3, _⟩ := x9.c4
      obtain ⟨d0, d1, d2, d3, _⟩ := y9.c4
      clear hq hev bA b0 bb x9 y9 HRG
      go_upto_region 15 with (fail)
      rw [← hW]
      clear hW
      go_wp2_with fail
      with_reducible refine HSM2.out.mono ?_
      intro e wB hq
      obtain ⟨h1, bB⟩ := RetT.outD hq
      subst h1
      have TB_ := Lib.hid (TW.out.below bB)
      have GB_ := Lib.hid (GW.out.below bB)
      have BB_ := Lib.hid (BW.out.trans (bB.mono BW.out.size))
      have sB := bB.size
      obtain ⟨A9, hcl, _⟩ := TB_.out
      have q3 : wB.cell? ⟨p, 3, none⟩ = some (.int .i64 ((k + 1 : Nat) : Int)) := hcl.cell 3
      have e1 : IntKind.i64.wrap ((k : Int) + 1) = ((k + 1 : Nat) : Int) := by rw [IntWalk.i64_in _ (by omega)]; omega
      have e2 : (((k + 1 : Nat) : Int) != ((k + 1 : Nat) : Int)) = false := by simp
      clear hq bB c0 c1 c2 c3 d0 d1 d2 d3 HSM2 hcl
      go_wp2_with fail
      go_roundw
      case rel => exact ⟨k + 1, by omega, by go_num, TB_.out, GB_.out, BB_.out, by omega⟩
      case measure => simp [intOf]; omega
    · obtain rfl : k = m := by omega
      have HTG : Hid (Calls Try.prog 25 #[.pointer (some ⟨p, 0, none⟩), .slice none 0 0, .int .u64 1] wr (RetGt wr (tabGet t [] 1))) := Lib.hid (tabGet_any (at_ := 1) HT.out HTZ.out (Rd.nil _ _) (Nat.le_refl _) (fun _ => rfl) (by unfold U64; simp))
      go_wp2_with fail
      with_reducible refine HTG.out.mono ?_
      intro e w8 hq
      obtain ⟨b8, v8, h1⟩ := RetGt.bel hq
      subst h1
      have T8 := Lib.hid (HT.out.below b8)
      have G8 := Lib.hid (HG.out.below b8)
      have B8 := Lib.hid (HB.out.trans (b8.mono HB.out.size))
      have s8 := b8.size
      have hll : S.length = ln := hlS
      obtain ⟨A9, hcl, _⟩ := T8.out
      have q3 : w8.cell? ⟨p, 3, none⟩ = some (.int .i64 (k : Int)) := hcl.cell 3
      have tk2 : ((k : Int) == (k : Int)) = true := by simp
      have HLN : Hid (Calls Try.prog 22 #[.pointer (some ⟨p, 0, none⟩)] w8 (RetNu w8 (ln : Int))) := Lib.hid (by
        have := len_any T8.out
        rw [htn, hll] at this
        exact this)
      have tl : ((ln : Int) == (ln : Int)) = true := by simp
      clear hq b8 HTG hcl
      go_wp2_with fail
      with_reducible refine HLN.out.mono ?_
      rintro e w9 ⟨rfl, b9⟩
      have T9 := Lib.hid (T8.out.below b9)
      have G9 := Lib.hid (G8.out.below b9)
      have B9 := Lib.hid (B8.out.trans (b9.mono B8.out.size))
      have HRN2 : Hid (Calls Try.prog 30 #[.pointer (some ⟨p, 0, none⟩), .slice none 0 0, .slice none 0 0] w9 (RetBt w9 S)) := Lib.hid (by
        have := range_any (fc := 0) (tc := 0) T9.out (Rd.nil w9 none) (Rd.nil w9 none) HTZ.out (by omega)
        rw [betw_all HTS.out, HTL.out] at this
        exact this)
      clear b9 HLN q3
      go_wp2_with fail
      with_reducible refine HRN2.out.mono ?_
      intro e wA hq
      obtain ⟨LA, kA, dA, h1, hrow⟩ := RetBt.out hq
      subst h1
      have hbel := hrow.bel
      have hkA : kA = ln := by rw [← hll]; exact hrow.len.symm
      have HSL : Hid (Calls Try.prog 29 #[.slice LA kA dA, .slice L ln lc] wA (RetT wA true)) := Lib.hid (by
        rw [hkA]
        exact SameList_any (by rw [← hkA]; exact hrow.rd) (G9.out.below hbel).res (by omega) HSM.out)
      have BA := Lib.hid (B9.out.trans (hbel.mono B9.out.size))
      clear hq hrow hbel hkA HRN2
      go_wp2_with fail
      with_reducible refine HSL.out.mono ?_
      intro e wB hq
      obtain ⟨h1, bB⟩ := RetT.outD hq
      subst h1
      have BB := Lib.hid (BA.out.trans (bB.mono BA.out.size))
      clear hq bB
      go_wp2
      go_ret
      exact ⟨rfl, BB.out⟩
end Go.Proofs.Ytheefpgokdejcaa
namespace Go.Proofs.Ytheefpgokdejcaa.memCountsUptoRow
open Go Go.ChangeShapes Go.WideShapes Go.ChangeAt Go.RowKit Go.Deep
open Go.ChangeMaps (open_string shut_string)
set_option linter.unusedVariables false

theorem own : ownKnob Try.prog.godebug = none := by kernel_rfl
theorem laidOut : laidOutB Try.prog = true := by kernel_rfl

set_option maxRecDepth 100000 in
theorem contract (H : Type) (enc : TypeId × Value → H) (W : World) (base : Nat) (args : Array Value) (ds gs : List (DataW H)) (before : List MemPlace)
    (hval0 : ∀ (j : Nat) t v, Try.f4.params[j]? = some t → args[j]? = some v → Value.okWide Try.prog W .any base t v)
    (hW : DataW.Whole enc Try.prog Try.f4.params.toList Rows.memCountsSpec.vars false W args.toList ds gs before)
    (hk : Rows.uptoSmall H (ds ++ gs) = true) :
    Calls Try.prog 4 args W fun e W' => ∃ v, e = .returned v ∧ Rows.memCountsSpec.post enc Try.prog Try.f4 false true false false W args v W' := by
  have hval : ∀ (j : Nat) t v, Try.f4.params[j]? = some t → args[j]? = some v → Value.okWide Try.prog W .any base t v := hval0
  have hW' := hW
  obtain ⟨p, q, hA0, hV, rfl, hfz, hnd⟩ := hW
  have hA : DataW.TrodAll enc Try.prog W 0 (fun _ => true) true Try.f4.params.toList args.toList ds p := hA0
  rw [Try.params4] at hA hval
  obtain ⟨v0, vs0, d0, ds0, p0, q0, hargs, rfl, rfl, h0, r0⟩ := trodAll_cons hA
  obtain ⟨v1, vs1, d1, ds1, p1, q1, rfl, rfl, rfl, h1, r1⟩ := trodAll_cons r0
  obtain ⟨rfl, rfl, rfl⟩ := trodAll_nil r1
  obtain rfl : args = #[v0, v1] := by cases args; simp_all
  obtain ⟨rfl, rfl⟩ := trodVars_none hV
  have hb := bulkOf hk
  have sz0 : Rows.uptoBulk d0 ≤ 1048576 := Nat.le_trans (part_bulk (d := d0) (l := [d0, d1] ++ []) (by simp)) hb
  have sz1 : ∀ el sp, d1 = .slice el sp → Rows.uptoBulkAll el + Rows.uptoBulkAll sp + 1 ≤ 1048576 := fun el sp e => by
    have h1 := Nat.le_trans (part_bulk (d := d1) (l := [d0, d1] ++ []) (by simp)) hb
    rw [e] at h1
    simp only [Rows.uptoBulk] at h1
    omega
  obtain ⟨A0, len0, cap0, rfl⟩ := okWide_slice Try.underlying27 (hval 0 27 v0 rfl rfl)
  have k0 := h0
  have lt0 : ∀ x ∈ p0, x.block < W.heap.size := by obtain ⟨m, hm⟩ := k0; exact DataW.trod_lt m _ _ _ hm
  obtain ⟨al0, rd0, lc0, ta0⟩ : ∃ al0, REs W A0 len0 al0 ∧ len0 ≤ cap0 ∧ totE al0 ≤ 1048576 := by
    obtain ⟨fuel, hf⟩ := h0
    obtain ⟨al, h1, h2, h3⟩ := ents_of (len := len0) (cap := cap0) (A := A0) hf
    exact ⟨al, h1, h2, Nat.le_trans h3 sz0⟩
  obtain ⟨A1, len1, cap1, rfl⟩ := okWide_slice Try.underlying52 (hval 1 52 v1 rfl rfl)
  have k1 := h1
  have lt1 : ∀ x ∈ p1, x.block < W.heap.size := by obtain ⟨m, hm⟩ := k1; exact DataW.trod_lt m _ _ _ hm
  obtain ⟨xss1, rd1, cm1⟩ : ∃ xss, RdL W A1 len1 xss ∧ tot xss ≤ 1048576 := by
    obtain ⟨fuel, hf⟩ := h1
    rcases open_int_rows Try.underlying52 Try.underlying35 Try.underlying5 (by kernel_rfl) (by kernel_rfl) hf with ⟨hcs, _⟩ | ⟨x, l, c, AA, LL, CC, ZZ, hcs, _, hl, hm, hx, hr⟩
    · simp [Value.cells] at hcs
      obtain ⟨rfl, rfl, rfl⟩ := hcs
      exact ⟨[], RdL.nil _ _, by simp [tot]⟩
    · simp [Value.cells] at hcs
      obtain ⟨rfl, rfl, rfl⟩ := hcs
      simp only [Prod.mk.injEq] at hx
      have h2 := sz1 _ _ hx.1
      have h3 := tot_bulk (fun r => ((ZZ r).take (LL r)).map fun z => bt z.toNat) (fun r => intRow (H := H) .u8 (AA r) (LL r) (ZZ r)) (List.range len1) (fun r hrr => by
        have hrl : r < len1 := List.mem_range.1 hrr
        obtain ⟨_, e2, _, e4, _, e6, _⟩ := hr r (by omega)
        exact row_bulk (AA r) (LL r) (ZZ r) (by omega) (fun h => by have := e6 h; omega))
      exact ⟨_, RdL.of_rows hl hr, by have h4 : tot (listsOf len1 LL ZZ) ≤ _ := h3; omega⟩
  clear hA0 hval0
  refine (memCounts_row A0 len0 cap0 al0 A1 len1 cap1 xss1 W rd0 lc0 ta0 rd1 cm1).mono fun e W' ⟨he, bel⟩ => ?_
  subst he
  exact ⟨_, rfl, _, _, _, [], _, [], hW', trodAll_mk1 (shut_bool Try.underlying4 _), (trodAll_cons_mk (Below.trod laidOut (by kernel_rfl) (of_decide_eq_true (by kernel_rfl)) k0 bel lt0) (trodAll_cons_mk (Below.trod laidOut (by kernel_rfl) (of_decide_eq_true (by kernel_rfl)) k1 bel lt1) trodAll_mk0)), rfl, bel.frame _, fun h => by cases h⟩

set_option maxRecDepth 100000 in
theorem lifted (os : Os) (started : os.Started) (H : Type) (enc : TypeId × Value → H) (F : Stop.Interp) :
    ReturnsInHanded {} Try.checked os 4 .any ((Rows.OpenSpec.upto Rows.memCountsSpec).pre6 enc Try.prog Try.f4 Rows.memCountsUptoRow.domain false) (((Rows.OpenSpec.upto Rows.memCountsSpec).at F).post enc Try.prog Try.f4 false true false false) := by
  refine returnsInHanded_of_cond (C := Try.checked) (s := Rows.OpenSpec.upto Rows.memCountsSpec) (k := Rows.uptoSmall) rfl own started (by kernel_rfl) Try.func4
    (OpenSpec.witness (enc := enc) (C := Try.checked) (s := Rows.OpenSpec.upto Rows.memCountsSpec) (k := Rows.uptoSmall) rfl false ⟨#[], #[.slice none 0 0, .slice none 0 0], []⟩ 8 (by kernel_rfl) (by kernel_rfl) (by kernel_rfl)
      (x := ([.nil, .nil], [], [])) (by kernel_rfl) rfl (by kernel_rfl)) ?_
  intro W base args ds gs before hval hW _ hk _
  exact contract H enc W base args ds gs before hval hW hk

theorem over : Rows.memCountsUptoRow.holds Try.pinned (Rows.OpenSpec.upto Rows.memCountsSpec) :=
  OpenClaim.holds_of_cond 4 Try.f4 rfl rfl rfl rfl rfl rfl rfl ⟨rfl, rfl, rfl, rfl, rfl⟩ rfl rfl rfl rfl rfl (by kernel_rfl) Try.func4 (by kernel_rfl)
    (of_decide_eq_true (by kernel_rfl)) (by unfold Func.isWrapper; first | (rw [if_pos (by decide +kernel)]; kernel_rfl) | (rw [if_neg (by decide +kernel)]; exact ⟨rfl, rfl⟩))
    (fun os started H enc _ F => lifted os started H enc F)

/-- THE STATEMENT -/
theorem proved : Rows.MemCountsUptoSaid := over
#print axioms proved
end Go.Proofs.Ytheefpgokdejcaa.memCountsUptoRow
