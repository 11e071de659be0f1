/- The disk's calls against what the plain data say, whatever it is armed with. No condition but sizes. -/
import Derived.Test.YtlnpicfkcahdbaaGreatDskB
import Derived.Test.YtlnpicfkcahdbaaGreatEnL
import Derived.Test.YtlnpicfkcahdbaaGreatEnB
import Derived.Deep.LoopGhost
import Derived.Test.YtlnpicfkcahdbaaGreatTr
import Derived.Laws.BytesArg
import Derived.Deep.QuietTactic
import Derived.BigQuiet
import Derived.Lib.SliceRun
import Derived.Test.YtlnpicfkcahdbaaGreatMathF
import Derived.Test.YtlnpicfkcahdbaaGreatCrcS
import Derived.Test.YtlnpicfkcahdbaaGreatApartF
import Derived.Deep.RegionLaw
import Derived.Test.YtlnpicfkcahdbaaGreatGetU
import Derived.Sort.OwnSorted
import Derived.Test.YtlnpicfkcahdbaaGreatStepA
import Derived.Laws.Concat
namespace Go.Proofs.YtlnpicfkcahdbaaGreat
open Go Go.RowKit

/-- 'So far sorted.' -/
def Spk (w : World) (us : List Value) (es : List En) (L : Option Addr) (k d : Nat) (wr : World) : Prop :=
  ∃ vs, OwnE wr w.heap.size L k d vs ∧ EVs wr es vs ∧ es.length = k ∧ Below w.heap.size w wr ∧ ∀ u ∈ vs, u ∈ us
section
variable {w wr w' : World} {us : List Value} {es : List En} {L : Option Addr} {k d : Nat}
theorem Spk.zero (w : World) (us : List Value) : Spk w us [] none 0 0 w := ⟨[], OwnE.nil _ _, rfl, rfl, Below.refl _ _, fun u hu => by cases hu⟩
theorem Spk.below (h : Spk w us es L k d wr) (hb : Below wr.heap.size wr w') : Spk w us es L k d w' := by
  obtain ⟨vs, h1, h2, h3, h4, h5⟩ := h
  exact ⟨vs, h1.below hb, h2.below hb, h3, belowT' h4 hb, h5⟩
theorem Spk.bel (h : Spk w us es L k d wr) : Below w.heap.size w wr := by
  obtain ⟨vs, h1, h2, h3, h4, h5⟩ := h
  exact h4
theorem Spk.res (h : Spk w us es L k d wr) : REs wr L k es := by
  obtain ⟨vs, h1, h2, h3, h4, h5⟩ := h
  exact REs.mk h2 h1.rd h3
theorem Spk.cap (h : Spk w us es L k d wr) : k ≤ d := by
  obtain ⟨vs, h1, h2, h3, h4, h5⟩ := h
  exact h1.cap.1
theorem Spk.ret (h : Spk w us es L k d wr) : RetPick w es us (.returned (.slice L k d)) wr := by
  obtain ⟨vs, h1, h2, h3, h4, h5⟩ := h
  exact ⟨L, k, d, vs, rfl, h1, h2, h3, h4, h5⟩
end
set_option maxRecDepth 100000 in
set_option maxHeartbeats 8000000 in
theorem sorted_any {w : World} {A : Option Addr} {n c : Nat} {es : List En} {ovs : List Value} (hv : EVs w es ovs) (hd : RdV w A (n * 4) ovs) (hl : es.length = n) (hn : n ≤ 1099511627776) (hs : ∀ x ∈ es, SzE x) :
    Calls Tryz.prog 6 #[.slice A n c] w (RetPick w (srt [] es) ovs) := by
  have HV := Lib.hid hv
  have HD := Lib.hid hd
  have HL := Lib.hid hl
  have HS := Lib.hid hs
  clear hv hd hl hs
  go_enter Tryz.func6, Tryz.ntmps6
  go_wp2_with fail
  go_loopw [3, 4] (fun s3 s4 wr => ∃ (k m d : Nat) (L : Option Addr), k ≤ n ∧ s4 = .int .i64 (k : Int) ∧ s3 = .slice L m d ∧ Spk w ovs (srt [] (es.take k)) L m d wr) (fun _ s _ => n - (intOf s).toNat)
  case atStart => exact ⟨0, 0, 0, none, Nat.zero_le _, rfl, rfl, Spk.zero w ovs⟩
  case round =>
    obtain ⟨k, m, d, L, hk, rfl, rfl, hp⟩ := hrel
    have HP := Lib.hid hp
    have HB := Lib.hid hp.bel
    clear hp
    by_cases hlt : k < n
    · obtain ⟨b, off, hAb, hbl⟩ : ∃ b off, A = some ⟨b, off, none⟩ ∧ b < w.heap.size := HD.out.pos (by omega)
      obtain ⟨x, v0, v1, v2, v3, hx, c0, c1, c2, c3, hev, hmem⟩ := mem4 HV.out HD.out HL.out hAb hlt
      subst hAb
      have hsx := HS.out x (List.mem_of_getElem? hx)
      have HEV := Lib.hid hev
      have HMEM := Lib.hid hmem
      have HXK := Lib.hid hx
      obtain ⟨K, kn, kc, V, vn, vc, rfl, rfl, rfl, rfl, r0, _⟩ := hev.parts
      obtain ⟨o, ho⟩ : ∃ o, o = srt [] (es.take k) := ⟨_, rfl⟩
      rw [← ho] at HP
      have hol : o.length ≤ n := by
        have := (srt_len (es.take k) []).1
        rw [← ho, List.length_take] at this
        simp only [List.length_nil] at this
        omega
      have hom : o.length = m := HP.out.res.len
      have HSO : Hid (∀ y ∈ o, SzE y) := Lib.hid (fun y hy => by
        rw [ho] at hy
        rcases srt_mem y hy with q | q
        · cases q
        · exact HS.out y (List.mem_of_mem_take q))
      have HFT : Hid (srt [] (es.take (k + 1)) = if okE x && !inL o x then insL o x else o) := Lib.hid (by
        rw [List.take_add_one, HXK.out]
        simp only [Option.toList]
        rw [srt_snoc, ← ho])
      have hB := HB.out
      have d0 := (hB.cell (p := ⟨b, off + k * 4, none⟩) hbl).trans c0
      have d1 := (hB.cell (p := ⟨b, off + k * 4 + 1, none⟩) hbl).trans c1
      have d2 := (hB.cell (p := ⟨b, off + k * 4 + 2, none⟩) hbl).trans c2
      have d3 := (hB.cell (p := ⟨b, off + k * 4 + 3, none⟩) hbl).trans c3
      have HSX : Hid (∀ wx, Below wr.heap.size wr wx → wx.cell? ⟨b, off + k * 4, none⟩ = some (.slice K kn kc) ∧ wx.cell? ⟨b, off + k * 4 + 1, none⟩ = some (.int .u64 (x.seq : Int)) ∧ wx.cell? ⟨b, off + k * 4 + 2, none⟩ = some (.int .u8 (x.kind : Int)) ∧ wx.cell? ⟨b, off + k * 4 + 3, none⟩ = some (.slice V vn vc)) := Lib.hid (fun wx h => by
        have hb2 : b < wr.heap.size := Nat.lt_of_lt_of_le hbl hB.size
        exact ⟨(h.cell (p := ⟨b, off + k * 4, none⟩) hb2).trans d0, (h.cell (p := ⟨b, off + k * 4 + 1, none⟩) hb2).trans d1, (h.cell (p := ⟨b, off + k * 4 + 2, none⟩) hb2).trans d2, (h.cell (p := ⟨b, off + k * 4 + 3, none⟩) hb2).trans d3⟩)
      obtain ⟨zc, hzc⟩ : ∃ z, z = checkE [x] := ⟨_, rfl⟩
      obtain ⟨zi, hzi⟩ : ∃ z, z = inL o x := ⟨_, rfl⟩
      have HOK : Hid (okE x = decide (zc = 0)) := Lib.hid (by rw [hzc]; rfl)
      have HZI := Lib.hid hzi
      obtain ⟨W, hW⟩ : ∃ W, W = wr.alloc (.cells #[.slice K kn kc, .int .u64 (x.seq : Int), .int .u8 (x.kind : Int), .slice V vn vc] 31) := ⟨_, rfl⟩
      have bW : Below wr.heap.size wr W := by rw [hW]; exact (Below.refl _ _).alloc (Nat.le_refl _) _
      have BW := Lib.hid bW
      have HEVr := Lib.hid (HEV.out.below hB)
      have HC : Hid (Calls Tryz.prog 39 #[.slice (some ⟨wr.heap.size, 0, none⟩) 1 1] W (RetNu W zc)) := Lib.hid (by
        rw [hzc]
        refine refCheck_any (REs.mk (EVs.one (HEVr.out.below bW)) ?_ rfl) (by omega) (fun y hy => by simp only [List.mem_singleton] at hy; subst hy; exact hsx)
        rw [hW]
        exact rdv_of_cl (Cl.new wr #[.slice K kn kc, .int .u64 (x.seq : Int), .int .u8 (x.kind : Int), .slice V vn vc] 31))
      have HI : Hid (∀ wx, Below wr.heap.size wr wx → Calls Tryz.prog 40 #[.slice L m d, .agg #[.slice K kn kc, .int .u64 (x.seq : Int), .int .u8 (x.kind : Int), .slice V vn vc]] wx (RetT wx zi)) := Lib.hid (fun wx h => by
        rw [hzi]
        exact In_any (HP.out.res.below h) (by omega) HSO.out (HEVr.out.below h) hsx)
      clear hx c0 c1 c2 c3 hev hmem r0 hB ho hzc hzi bW
      go_upto_region 5 with (fail)
      go_cut [26] from 5 to 27 (fun s26 wx => s26 = .bool (okE x && !inL o x) ∧ Below wr.heap.size wr wx)
      case first =>
        by_cases t1 : zc = 0
        · have h1 : (zc == 0) = true := by simpa using t1
          have hok : okE x = true := by rw [HOK.out]; simpa using t1
          have HOKT := Lib.hid hok
          clear t1 hok
          go_wp2_with fail
          rw [← hW]
          with_reducible refine HC.out.mono ?_
          rintro e w1 ⟨rfl, b1⟩
          have b1' := belowT' BW.out b1
          obtain ⟨e0, e1, e2, e3⟩ := HSX.out _ b1'
          have B1 := Lib.hid b1'
          clear b1 b1' d0 d1 d2 d3
          go_wp2_with fail
          with_reducible refine (HI.out _ B1.out).mono ?_
          intro e w2 hq
          obtain ⟨hh, b2⟩ := RetT.outD hq
          subst hh
          have B2 := Lib.hid (belowT' B1.out b2)
          clear hq b2 e0 e1 e2 e3
          go_wp2_with fail
          go_meet
          exact ⟨by rw [HOKT.out, ← HZI.out]; rfl, B2.out⟩
        · have h1 : (zc == 0) = false := by simpa using t1
          have hok : okE x = false := by rw [HOK.out]; simpa using t1
          have HOKF := Lib.hid hok
          clear t1 hok
          go_wp2_with fail
          rw [← hW]
          with_reducible refine HC.out.mono ?_
          rintro e w1 ⟨rfl, b1⟩
          have b1' := belowT' BW.out b1
          have B1 := Lib.hid b1'
          clear b1 b1' d0 d1 d2 d3
          go_wp2_with fail
          go_meet
          exact ⟨by rw [HOKF.out]; rfl, B1.out⟩
      case rest =>
        obtain ⟨rfl, hbc⟩ := hcut
        obtain ⟨zz, hzz⟩ : ∃ zz, zz = (okE x && !inL o x) := ⟨_, rfl⟩
        rw [← hzz] at HFT ⊢
        have BC := Lib.hid hbc
        have HPC := Lib.hid (HP.out.below hbc)
        have HEC := Lib.hid (HEVr.out.below hbc)
        obtain ⟨e0, e1, e2, e3⟩ := HSX.out _ hbc
        clear hbc hzz d0 d1 d2 d3 hW
        cases zz with
        | true =>
          obtain ⟨vs, o1, hev1, hlen1, hb1, hm1⟩ := HPC.out
          have HM1 := Lib.hid hm1
          have HB1 := Lib.hid hb1
          have HI2 : Hid (Calls Tryz.prog 41 #[.slice L m d, .agg #[.slice K kn kc, .int .u64 (x.seq : Int), .int .u8 (x.kind : Int), .slice V vn vc]] wc (RetIns wc (m + 1) (insL o x) ([.slice K kn kc, .int .u64 (x.seq : Int), .int .u8 (x.kind : Int), .slice V vn vc] ++ vs))) := Lib.hid (Insert_any hev1 o1.rd hlen1 o1.cap.1 (by omega) HSO.out HEC.out hsx)
          clear o1 hev1 hlen1 hb1 hm1
          go_wp2_with fail
          with_reducible refine HI2.out.mono ?_
          intro e w3 hq
          obtain ⟨L3, d3', us, h1, o3, ev3, b3, hmem⟩ := RetIns.out hq
          subst h1
          have sC := HB1.out.size
          have HP2 : Hid (Spk w ovs (srt [] (es.take (k + 1))) L3 (m + 1) d3' w3) := Lib.hid (by
            rw [HFT.out, if_pos trivial]
            exact ⟨us, o3.mono sC, ev3, by rw [insL_len, hom], belowT' HB1.out b3, fun u hu => by
              rcases List.mem_append.1 (hmem u hu) with h | h
              · exact HMEM.out u h
              · exact HM1.out u h⟩)
          clear hq o3 ev3 b3 hmem e0 e1 e2 e3
          go_wp2_with fail
          go_roundw
          case rel => exact ⟨k + 1, m + 1, d3', L3, by omega, by go_num, rfl, HP2.out⟩
          case measure => simp [intOf]; omega
        | false =>
          have HP2 : Hid (Spk w ovs (srt [] (es.take (k + 1))) L m d wc) := Lib.hid (by
            rw [HFT.out, if_neg (by simp)]
            exact HPC.out)
          clear e0 e1 e2 e3
          go_wp2_with fail
          go_roundw
          case rel => exact ⟨k + 1, m, d, L, by omega, by go_num, rfl, HP2.out⟩
          case measure => simp [intOf]; omega
    · have htk := take_all HL.out hlt
      rw [htk] at HP
      clear htk
      go_wp2
      go_ret
      exact HP.out.ret
end Go.Proofs.YtlnpicfkcahdbaaGreat
namespace Go.Proofs.YtlnpicfkcahdbaaGreat
open Go Go.RowKit

theorem insAll_ref : ∀ (xs : List En) {t : Tr}, SortL t.list → (∀ t', insAll t xs = some t' → refIns t.list xs = some t'.list ∧ SortL t'.list) ∧ (insAll t xs = none → refIns t.list xs = none)
  | [], t, hs => by
    refine ⟨fun t' h => ?_, fun h => ?_⟩
    · injection h with h
      subst h
      exact ⟨rfl, hs⟩
    · cases h
  | x :: xs, t, hs => by
    unfold insAll refIns
    cases hw : withT x t with
    | none =>
      refine ⟨fun t' h => (by cases h), fun _ => ?_⟩
      rw [withT_none hw]
      rfl
    | some t1 =>
      obtain ⟨e1, e2, e3⟩ := withT_ins hs hw
      obtain ⟨h1, h2⟩ := insAll_ref xs e3
      rw [e2, ← e1]
      exact ⟨fun t' h => h1 t' h, fun h => h2 h⟩
theorem num_list : ∀ t : Tr, t.num = t.list.length
  | .nil => rfl
  | .node l e r => by
    rw [Tr.num, Tr.list, List.length_append, List.length_cons, num_list l, num_list r]
    omega
theorem sortL_nil : SortL Tr.nil.list := List.Pairwise.nil
end Go.Proofs.YtlnpicfkcahdbaaGreat
namespace Go.Proofs.YtlnpicfkcahdbaaGreat
open Go Go.RowKit

theorem RLs.below {w w' : World} {A : Option Addr} {n : Nat} {ls : List (List En)} (h : RLs w A n ls) (hb : Below w.heap.size w w') : RLs w' A n ls := by
  refine ⟨h.1, fun h0 => ?_⟩
  obtain ⟨b, off, e, hbl, hc⟩ := h.2 h0
  refine ⟨b, off, e, Nat.lt_of_lt_of_le hbl hb.size, fun i es hi => ?_⟩
  obtain ⟨B, m, c, h1, h2, h3⟩ := hc i es hi
  exact ⟨B, m, c, (hb.cell (p := ⟨b, off + i, none⟩) hbl).trans h1, h2.below hb, h3⟩
theorem RLs.len {w : World} {A : Option Addr} {n : Nat} {ls : List (List En)} (h : RLs w A n ls) : ls.length = n := h.1
section
variable {w : World} {A : Option Addr} {n c : Nat} {ls : List (List En)}
end
end Go.Proofs.YtlnpicfkcahdbaaGreat
namespace Go.Proofs.YtlnpicfkcahdbaaGreat
open Go Go.RowKit

/-- The first entry of a tree that doesn't stand ahead of x; else f. -/
def firstT (x : En) : Tr → Option En → Option En
  | .nil, f => f
  | .node l e r, f => if lessE e x then firstT x r f else firstT x l (some e)
/-- 'The pointer F leads to this entry; or it is nil, and there is none.' -/
def FP (G : Nat → Prop) (w : World) : Option En → Option Addr → Prop
  | none, F => F = none
  | some e, F => ∃ p, F = some ⟨p, 0, none⟩ ∧ EB G w e p
theorem FP.below {G : Nat → Prop} {w w' : World} (hb : Below w.heap.size w w') : ∀ {o : Option En} {F : Option Addr}, FP G w o F → FP G w' o F
  | none, _, h => h
  | some _, _, ⟨p, h1, h2⟩ => ⟨p, h1, h2.below hb⟩
def RetFst (G : Nat → Prop) (w : World) (o : Option En) (e : Ending) (w' : World) : Prop := ∃ F, e = .returned (.pointer F) ∧ FP G w' o F ∧ Below w.heap.size w w'
theorem RetFst.out {G : Nat → Prop} {w : World} {o : Option En} {e : Ending} {w' : World} (h : RetFst G w o e w') : ∃ F, e = .returned (.pointer F) ∧ FP G w' o F ∧ Below w.heap.size w w' := h
set_option maxRecDepth 100000 in
set_option maxHeartbeats 8000000 in
theorem first_any {G : Nat → Prop} {w : World} {t : Tr} {A0 : Option Addr} {x : En} {v0 v1 v2 v3 : Value} (h : TrAt G w t A0) (hx : EV w x v0 v1 v2 v3) :
    Calls Tryz.prog 60 #[.pointer A0, .agg #[v0, v1, v2, v3]] w (RetFst G w (firstT x t none)) := by
  obtain ⟨K, kn, kc, V, vn, vc, rfl, rfl, rfl, rfl, _⟩ := hx.parts
  obtain ⟨U, hU⟩ : ∃ U, U = w.alloc (.cells #[.slice K kn kc, .int .u64 (x.seq : Int), .int .u8 (x.kind : Int), .slice V vn vc] 31) := ⟨_, rfl⟩
  have bU : Below w.heap.size w U := by rw [hU]; exact (Below.refl _ _).alloc (Nat.le_refl _) _
  have XU := Lib.hid (show Cl U w.heap.size #[.slice K kn kc, .int .u64 (x.seq : Int), .int .u8 (x.kind : Int), .slice V vn vc] 31 by rw [hU]; exact Cl.new _ _ _)
  have HX := Lib.hid (hx.below bU)
  have HT := Lib.hid (h.below bU)
  have BU := Lib.hid bU
  obtain ⟨o, ho⟩ : ∃ o, o = firstT x t none := ⟨_, rfl⟩
  rw [← ho]
  have HO := Lib.hid ho
  clear h hx bU ho
  go_enter Tryz.func60, Tryz.ntmps60
  go_upto_block 1 with fail
  rw [← hU]
  clear hU
  go_wp2_with fail
  go_loopg [0, 5] t.num (fun gk s0 s5 wr => ∃ (tk : Tr) (A : Option Addr) (f : Option En) (F : Option Addr), tk.num = gk ∧ s0 = .pointer A ∧ s5 = .pointer F ∧ TrAt G wr tk A ∧ FP G wr f F ∧ firstT x tk f = o ∧ Below U.heap.size U wr)
  case atStart => exact ⟨t, A0, none, none, rfl, rfl, rfl, HT.out, rfl, HO.out.symm, Below.refl _ _⟩
  case round =>
    obtain ⟨tk, A, f, F, hnum, rfl, rfl, htk, hfp, hfo, hB⟩ := hrel
    cases tk with
    | nil =>
      have hA : A = none := htk
      subst hA
      have hfo' : f = o := hfo
      subst hfo'
      have HF := Lib.hid hfp
      have HB := Lib.hid (belowT BU.out hB)
      clear htk hfp hfo hB hnum
      go_wp2
      go_ret
      exact ⟨F, rfl, HF.out, HB.out⟩
    | node l e r =>
      obtain ⟨b, rfl⟩ := htk.ptr
      obtain ⟨pe, pl, pr, n0, n1, n2, nlt, he, hl, hr⟩ := htk.cells
      obtain ⟨z0, z1, z2, z3, cz, ez⟩ := he
      have HXW := Lib.hid (HX.out.below hB)
      have HXC := Lib.hid (XU.out.below hB)
      have HSX : Hid (∀ wx, Below wr.heap.size wr wx → wx.cell? ⟨b, 0, none⟩ = some (.pointer (some ⟨pe, 0, none⟩)) ∧ wx.cell? ⟨b, 1, none⟩ = some (.pointer pl) ∧ wx.cell? ⟨b, 2, none⟩ = some (.pointer pr) ∧ wx.cell? ⟨w.heap.size, 0, none⟩ = some (.slice K kn kc) ∧ wx.cell? ⟨w.heap.size, 1, none⟩ = some (.int .u64 (x.seq : Int)) ∧ wx.cell? ⟨w.heap.size, 2, none⟩ = some (.int .u8 (x.kind : Int)) ∧ wx.cell? ⟨w.heap.size, 3, none⟩ = some (.slice V vn vc) ∧ wx.cell? ⟨pe, 0, none⟩ = some z0 ∧ wx.cell? ⟨pe, 1, none⟩ = some z1 ∧ wx.cell? ⟨pe, 2, none⟩ = some z2 ∧ wx.cell? ⟨pe, 3, none⟩ = some z3) := Lib.hid (fun wx h => by
        obtain ⟨c0, c1, c2, c3, _⟩ := (HXC.out.below h).c4
        obtain ⟨d0, d1, d2, d3, _⟩ := (cz.below h).c4
        exact ⟨(h.cell (p := ⟨b, 0, none⟩) nlt).trans n0, (h.cell (p := ⟨b, 1, none⟩) nlt).trans n1, (h.cell (p := ⟨b, 2, none⟩) nlt).trans n2, c0, c1, c2, c3, d0, d1, d2, d3⟩)
      have HL : Hid (∀ wx, Below wr.heap.size wr wx → Calls Tryz.prog 106 #[.agg #[z0, z1, z2, z3], .agg #[.slice K kn kc, .int .u64 (x.seq : Int), .int .u8 (x.kind : Int), .slice V vn vc]] wx (RetT wx (lessE e x))) := Lib.hid (fun wx h => memLess_any (ez.1.ev.below h) (HXW.out.below h))
      have HE : Hid (EB G wr e pe) := Lib.hid ⟨z0, z1, z2, z3, cz, ez⟩
      have HTL := Lib.hid hl
      have HTR := Lib.hid hr
      have HFP := Lib.hid hfp
      have HBB := Lib.hid hB
      obtain ⟨LE, hLE⟩ : ∃ LE, LE = lessE e x := ⟨_, rfl⟩
      rw [← hLE] at HL
      have HW : Hid (o = if LE = true then firstT x r f else firstT x l (some e)) := Lib.hid (by rw [hLE, ← hfo]; rfl)
      have hnn : l.num + 1 + r.num = gk := hnum
      have hB0 : Below wr.heap.size wr wr.drew := (Below.refl _ _).drew
      clear htk hfp hfo hB hnum cz ez hl hr n0 n1 n2 hLE HXW HXC
      go_upto_region 3 with (fail)
      go_cut [15] from 6 to 27 (fun s15 wx => s15 = .bool LE ∧ Below wr.heap.size wr wx)
      case first =>
        go_region_held3 (fun wx => wx.cell? ⟨b, 0, none⟩ = some (.pointer (some ⟨pe, 0, none⟩)) ∧ wx.cell? ⟨b, 1, none⟩ = some (.pointer pl) ∧ wx.cell? ⟨b, 2, none⟩ = some (.pointer pr) ∧ wx.cell? ⟨w.heap.size, 0, none⟩ = some (.slice K kn kc) ∧ wx.cell? ⟨w.heap.size, 1, none⟩ = some (.int .u64 (x.seq : Int)) ∧ wx.cell? ⟨w.heap.size, 2, none⟩ = some (.int .u8 (x.kind : Int)) ∧ wx.cell? ⟨w.heap.size, 3, none⟩ = some (.slice V vn vc) ∧ wx.cell? ⟨pe, 0, none⟩ = some z0 ∧ wx.cell? ⟨pe, 1, none⟩ = some z1 ∧ wx.cell? ⟨pe, 2, none⟩ = some z2 ∧ wx.cell? ⟨pe, 3, none⟩ = some z3) (first | assumption | exact HSX.out _ hB0)
          (first | (go_at_call 106; with_reducible refine (HL.out _ hB0).mono ?_; intro e1 w5 hq; obtain ⟨h1, b5⟩ := RetT.out hq; subst h1; have b5' := belowT hB0 b5; have hS5 := HSX.out _ b5'))
        all_goals
          have HB5 := Lib.hid b5'
          clear hS5 b5 b5'
          go_wp2_with fail
          go_meet
          exact ⟨rfl, HB5.out⟩
      case rest =>
        obtain ⟨rfl, hbc⟩ := hcut
        obtain ⟨n0, n1, n2, c0, c1, c2, c3, d0, d1, d2, d3⟩ := HSX.out _ hbc
        have BC := Lib.hid hbc
        clear hbc c0 c1 c2 c3 d0 d1 d2 d3
        cases LE with
        | true =>
          go_wp2_with fail
          go_roundg r.num
          case measure => omega
          case rel => exact ⟨r, pr, f, F, rfl, rfl, rfl, HTR.out.below BC.out, HFP.out.below BC.out, by rw [HW.out]; rfl, belowT HBB.out BC.out⟩
        | false =>
          go_wp2_with fail
          go_quiet (fail)
          have BN := Lib.hid (below_drewN BC.out nq)
          clear n0 n1 n2
          go_wp2
          go_roundg l.num
          case measure => omega
          case rel => exact ⟨l, pl, some e, _, rfl, rfl, rfl, HTL.out.below BN.out, ⟨pe, rfl, HE.out.below BN.out⟩, by rw [HW.out]; rfl, belowT HBB.out BN.out⟩
end Go.Proofs.YtlnpicfkcahdbaaGreat
namespace Go.Proofs.YtlnpicfkcahdbaaGreat
open Go Go.RowKit

def bsB (xs : List UInt8) : ByteArray := ⟨⟨xs⟩⟩
theorem conv_rd {w : World} {n c : Nat} {A : Option Addr} {xs : List UInt8} (h : Rd w A n xs) (hn : 0 < n) : (convert 28 9 (.slice A n c)).run Tryz.prog w = .ok (.string (bsB xs)) w := by
  obtain ⟨b, off, rfl, _⟩ := h.pos hn
  rw [run_convert_bytes_arg w 28 5 Tryz.underlying28 Tryz.underlying5 b off n c (xs.map fun x => (x.toNat : Int)) (by simpa using h.len) ?_ 9 Tryz.underlying9]
  · congr 2
    unfold strOfNums bsB
    congr 2
    rw [List.map_map]
    conv => rhs; rw [← List.map_id xs]
    apply List.map_congr_left
    intro x _
    simp
  · intro i hi
    obtain ⟨x, hx, hc, _⟩ := h.at_ i hi
    rw [hc]
    simp [List.getD, List.getElem?_map, hx]
set_option maxRecDepth 100000 in
theorem bytesEqual_any (A B : Option Addr) (n m c d : Nat) (xs ys : List UInt8) (w : World) (hx : Rd w A n xs) (hy : Rd w B m ys) (hn : 0 < n) (hm : 0 < m) :
    Calls Tryz.prog 56 #[.slice A n c, .slice B m d] w (fun e w' => e = .returned (.bool (eqB xs ys)) ∧ w' = w) := by
  have k1 := conv_rd (c := c) hx hn
  have k2 := conv_rd (c := d) hy hm
  have hb : ((bsB xs).toList == (bsB ys).toList) = eqB xs ys := by rw [ByteArray.toList_eq, ByteArray.toList_eq]; rfl
  have HB := Lib.hid hb
  clear hb
  go_enter Tryz.func56, Tryz.ntmps56
  go_wp2_with fail
  go_ret
  exact ⟨by rw [← HB.out]; rfl, rfl⟩
theorem build8_zero {w : World} {A : Option Addr} {n c : Nat} : Calls Tryz.prog 120 #[.int .i64 0, .slice A n c] w (RetBb w ([], 1)) := by
  go_enter Tryz.func120, Tryz.ntmps120
  go_wp2_with fail
  exact bodyPost_ret (v := .tuple #[.slice none 0 0, .int .i64 1]) (by simp [results, Tryz.f120, go_sem]; try rfl) rfl (RetBb.no rfl (Below.refl _ _))
/-- What Build answers. -/
def buildZ (ev : Nat) (es : List En) : List UInt8 × Int := if ev = 0 then ([], 1) else buildE ev es
theorem buildZ_any {w : World} {A : Option Addr} {n c : Nat} {es : List En} (h : REs w A n es) (hn : n ≤ 16777216) (ev : Nat) (he2 : ev ≤ 9223372036854775807) :
    Calls Tryz.prog 120 #[.int .i64 (ev : Int), .slice A n c] w (RetBb w (buildZ ev es)) := by
  unfold buildZ
  split
  · rename_i e
    subst e
    exact build8_zero
  · exact build8_any h hn ev (by omega) he2
theorem sealB_pos (xs : List UInt8) : 8 ≤ (sealB xs).length := by rw [sealB_len]; omega
theorem buildZ_ok {ev : Nat} {es : List En} (h : (buildZ ev es).2 = 0) : 8 ≤ (buildZ ev es).1.length := by
  unfold buildZ at h ⊢
  split at h
  · cases h
  · rename_i e
    rw [if_neg e]
    rcases buildE_cases ev es with ⟨F, hF, _⟩ | ⟨k, hk, hk2⟩
    · rw [hF]; exact sealB_pos F
    · rw [hk] at h
      simp only at h
      omega
/-- What Decode makes of a record that doesn't open. -/
theorem decode_shutM (A : Option Addr) (n c : Nat) (xs : List UInt8) (w : World) (h : Rd w A n xs) (hn : n ≤ 1099511627776) (hc : n ≤ c) (hnil : A = none → c = 0) (k : Int) (hk : openG xs ((0 : Nat) : Int) = ([], 0, k)) (hk0 : k ≠ 0) :
    Calls Tryz.prog 118 #[.slice A n c] w (fun e w' => e = .returned (.tuple #[.slice none 0 0, .int .i64 k]) ∧ Below w.heap.size w w') := by
  have hO := Open_any A n c ((0 : Nat) : Int) xs w h hn hc hnil (by unfold I64; omega)
  rw [hk] at hO
  have HO := Lib.hid hO
  have t1 : (k == 0) = false := by simp [hk0]
  clear hO hk h
  go_enter Tryz.func118, Tryz.ntmps118
  go_wp2_with fail
  refine HO.out.mono ?_
  rintro e w8 ⟨O, on, oc, rfl, oo, hb8⟩
  clear HO oo
  go_wp2_with fail
  exact bodyPost_ret (v := .tuple #[.slice none 0 0, .int .i64 k]) (by simp [results, Tryz.f118, go_sem]; try rfl) rfl ⟨rfl, hb8⟩
theorem openG_in (xs : List UInt8) (z : Int) : (openG xs z).1.length ≤ 1048576 ∧ ((openG xs z).2.2 ≠ 0 → (openG xs z).1 = [] ∧ (openG xs z).2.1 = 0) ∧ ((openG xs z).2.2 = 0 → 8 ≤ xs.length) := by
  unfold openG
  split
  · simp
  · split
    · simp
    · split
      · simp
      · split
        · simp
        · split
          · refine ⟨?_, fun h => absurd rfl h, fun _ => by omega⟩
            simp only [List.length_drop, List.length_take]
            omega
          · simp
/-- What Decode makes of what was read. -/
def decP (xs : List UInt8) : Option (List En × Nat) → List En × Int
  | none => ([], 3)
  | some (es, ev) => if (buildZ ev es).2 = 0 ∧ (buildZ ev es).1 = xs then (es, 0) else ([], 3)
/-- What Decode answers. -/
def decB (xs : List UInt8) : List En × Int :=
  match openG xs ((0 : Nat) : Int) with
  | (inside, _, k) => if k ≠ 0 then ([], k) else decP xs (parB inside)
def RetDc8 (w : World) (r : List En × Int) (e : Ending) (w' : World) : Prop :=
  (r.1 = [] ∧ r.2 ≠ 0 ∧ e = .returned (.tuple #[.slice none 0 0, .int .i64 r.2]) ∧ Below w.heap.size w w') ∨
  (r.2 = 0 ∧ r.1.length ≤ 16777216 ∧ ∃ L d, e = .returned (.tuple #[.slice L r.1.length d, .int .i64 0]) ∧ RowE w w.heap.size L r.1.length d r.1 w')
set_option maxRecDepth 100000 in
set_option maxHeartbeats 8000000 in
theorem decode_any (A : Option Addr) (n c : Nat) (xs : List UInt8) (w : World) (h : Rd w A n xs) (hn : n ≤ 1099511627776) (hc : n ≤ c) (hnil : A = none → c = 0) :
    Calls Tryz.prog 118 #[.slice A n c] w (RetDc8 w (decB xs)) := by
  rcases hog : openG xs ((0 : Nat) : Int) with ⟨ins, nx, k⟩
  have hin := openG_in xs ((0 : Nat) : Int)
  rw [hog] at hin
  obtain ⟨hil, hno, hx8⟩ := hin
  have hil : ins.length ≤ 1048576 := hil
  by_cases hk : k = 0
  · have hO := Open_any A n c ((0 : Nat) : Int) xs w h hn hc hnil (by unfold I64; omega)
    rw [hog] at hO
    subst hk
    have hx8 : 8 ≤ n := by have := hx8 rfl; have := h.len; omega
    have HO := Lib.hid hO
    have HX := Lib.hid h
    obtain ⟨pr, hpr⟩ : ∃ pr, pr = parB ins := ⟨_, rfl⟩
    have hdec : decB xs = decP xs pr := by
      unfold decB
      rw [hog]
      simp only
      rw [if_neg (by simp), ← hpr]
    have HD := Lib.hid hdec
    have HPR := Lib.hid hpr
    clear hO h hno hog hdec hpr
    go_enter Tryz.func118, Tryz.ntmps118
    go_wp2_with fail
    refine HO.out.mono ?_
    rintro e w1 ⟨I, im, ic, rfl, oI, b1⟩
    have hI0 : ins.length = im := oI.len
    have hIn : I = none → ic = 0 := fun hh => by have := oI.nil_of (by rw [hh]; rfl); exact this.2.2
    have HPA := Lib.hid (parse_any I im ic ins w1 oI.rd (by omega) oI.cap.1 hIn)
    rw [← HPR.out] at HPA
    have HB1 := Lib.hid b1
    clear oI b1 hIn HO
    go_wp2_with fail
    refine HPA.out.mono ?_
    rintro e w2 (⟨hpn, rfl, b2⟩ | ⟨es, ev, L, d, hps, rfl, hrow, hel, hev⟩)
    · have hd : decB xs = ([], 3) := by rw [HD.out, hpn]; rfl
      have HF := Lib.hid (And.intro hd (HB1.out.trans (b2.mono HB1.out.size)))
      clear hd b2
      go_wp2_with fail
      exact bodyPost_ret (v := .tuple #[.slice none 0 0, .int .i64 3]) (by simp [results, Tryz.f118, go_sem]; try rfl) rfl (.inl ⟨by rw [HF.out.1], by rw [HF.out.1]; simp, by rw [HF.out.1], HF.out.2⟩)
    · have hd : decB xs = if (buildZ ev es).2 = 0 ∧ (buildZ ev es).1 = xs then (es, 0) else ([], 3) := by rw [HD.out, hps]; rfl
      have hb2 : Below w.heap.size w w2 := HB1.out.trans (hrow.bel.mono HB1.out.size)
      have hBZ := buildZ_any (c := d) hrow.rd hel ev (by omega)
      obtain ⟨z, hz⟩ : ∃ z, z = buildZ ev es := ⟨_, rfl⟩
      have hzo : z.2 = 0 → 8 ≤ z.1.length := by rw [hz]; exact buildZ_ok
      rw [← hz] at hBZ hd
      have HBZ := Lib.hid hBZ
      have HROW := Lib.hid hrow
      have HB2 := Lib.hid hb2
      have HDD := Lib.hid hd
      obtain ⟨el, hel2⟩ : ∃ el, el = es.length := ⟨_, rfl⟩
      rw [← hel2] at HBZ hel ⊢
      have HEL := Lib.hid hel2
      clear hBZ hrow hb2 hd hz hel2
      go_wp2_with fail
      refine HBZ.out.mono ?_
      rintro e w3 ⟨G, gc, rfl, oG, b3⟩
      have hb3 : Below w.heap.size w w3 := HB2.out.trans (b3.mono HB2.out.size)
      have hno : ∀ w', Below w.heap.size w w' → decB xs = ([], 3) → RetDc8 w (decB xs) (.returned (.tuple #[.slice none 0 0, .int .i64 3])) w' := fun w' hb hd => .inl ⟨by rw [hd], by rw [hd]; simp, by rw [hd], hb⟩
      obtain ⟨zb, zk⟩ := z
      simp only at oG hzo ⊢
      by_cases hzk : zk = 0
      · subst hzk
        have hzl : 8 ≤ zb.length := hzo rfl
        have HEQ := Lib.hid (bytesEqual_any G A zb.length n gc c zb xs w3 oG.rd (HX.out.below hb3) (by omega) (by omega))
        have HB3 := Lib.hid hb3
        have HR3 := Lib.hid (HROW.out.below b3)
        have HNO := Lib.hid hno
        clear oG b3 hb3 hno
        obtain ⟨q, hq⟩ : ∃ q, q = eqB zb xs := ⟨_, rfl⟩
        rw [← hq] at HEQ
        have HQ := Lib.hid hq
        clear hq
        cases q with
        | true =>
          go_wp2_with fail
          with_reducible refine HEQ.out.mono ?_
          rintro e w4 ⟨rfl, rfl⟩
          have he : zb = xs := by
            have := HQ.out
            unfold eqB at this
            exact (beq_iff_eq.1 this.symm)
          have hd : decB xs = (es, 0) := by rw [HDD.out, if_pos ⟨by first | trivial | rfl, he⟩]
          have HF : Hid (RetDc8 w (decB xs) (.returned (.tuple #[.slice L el d, .int .i64 0])) w4) := Lib.hid (by
            rw [hd]
            refine .inr ⟨rfl, by rw [← HEL.out]; exact hel, L, d, by rw [← HEL.out], ?_⟩
            have hr := HR3.out
            have h1 : Below w.heap.size w w4 := HB3.out
            obtain ⟨vs, r1, r2, r3, r4, r5, r6, r7⟩ := hr
            have hs := HB1.out.size
            exact ⟨vs, OwnE.mono (show OwnE w4 w1.heap.size L es.length d vs from r1) hs, EOs.mono hs r2, r3, r4, h1, h1.size, r7.mono hs⟩)
          clear he hd
          go_wp2_with fail
          exact bodyPost_ret (v := .tuple #[.slice L el d, .int .i64 0]) (by simp [results, Tryz.f118, go_sem]; try rfl) rfl HF.out
        | false =>
          go_wp2_with fail
          with_reducible refine HEQ.out.mono ?_
          rintro e w4 ⟨rfl, rfl⟩
          have he : ¬ zb = xs := by
            have := HQ.out
            unfold eqB at this
            intro e2
            rw [e2] at this
            simp at this
          have hd : decB xs = ([], 3) := by rw [HDD.out, if_neg (fun h => he h.2)]
          have HF := Lib.hid (HNO.out _ HB3.out hd)
          clear he hd
          go_wp2_with fail
          exact bodyPost_ret (v := .tuple #[.slice none 0 0, .int .i64 3]) (by simp [results, Tryz.f118, go_sem]; try rfl) rfl HF.out
      · have hd : decB xs = ([], 3) := by rw [HDD.out, if_neg (fun h => hzk h.1)]
        have t1 : (zk == 0) = false := by simpa using hzk
        have HF := Lib.hid (hno _ hb3 hd)
        clear hd hno oG b3 hb3
        go_wp2_with fail
        exact bodyPost_ret (v := .tuple #[.slice none 0 0, .int .i64 3]) (by simp [results, Tryz.f118, go_sem]; try rfl) rfl HF.out
  · have hd : decB xs = ([], k) := by
      unfold decB
      rw [hog]
      simp only
      rw [if_pos hk]
    obtain ⟨hi0, hn0⟩ := hno hk
    have hi0 : ins = [] := hi0
    have hn0 : nx = 0 := hn0
    subst hi0 hn0
    rw [hd]
    refine (decode_shutM A n c xs w h hn hc hnil k hog hk).mono ?_
    rintro e w' ⟨rfl, hb⟩
    exact .inl ⟨rfl, hk, rfl, hb⟩
end Go.Proofs.YtlnpicfkcahdbaaGreat
namespace Go.Proofs.YtlnpicfkcahdbaaGreat
open Go Go.RowKit Go.Maps

theorem putR_eq {r q : FR} {t : List FR} (h : q.name = r.name) : putR r (q :: t) = r :: t := by rw [putR, if_pos h]
theorem putR_lt {r q : FR} {t : List FR} (h : q.name ≠ r.name) (h2 : r.name < q.name) : putR r (q :: t) = r :: q :: t := by rw [putR, if_neg h, if_pos h2]
theorem putR_gt {r q : FR} {t : List FR} (h : q.name ≠ r.name) (h2 : ¬ r.name < q.name) : putR r (q :: t) = q :: putR r t := by rw [putR, if_neg h, if_neg h2]
theorem putR_putR {a b : FR} (e : a.name = b.name) : ∀ {rs : List FR}, rsUp rs → putR a (putR b rs) = putR a rs
  | [], _ => putR_eq e.symm
  | q :: t, hu => by
    unfold rsUp at hu
    rw [List.pairwise_cons] at hu
    by_cases h1 : q.name = b.name
    · rw [putR_eq h1, putR_eq e.symm, putR_eq (by rw [e]; exact h1)]
    · by_cases h2 : b.name < q.name
      · rw [putR_lt h1 h2, putR_eq e.symm, putR_lt (by rw [e]; exact h1) (by rw [e]; exact h2)]
      · rw [putR_gt h1 h2, putR_gt (by rw [e]; exact h1) (by rw [e]; exact h2), putR_gt (by rw [e]; exact h1) (by rw [e]; exact h2), putR_putR e hu.2]
theorem mem_putR_self (r : FR) : ∀ rs : List FR, r ∈ putR r rs
  | [] => by simp [putR]
  | q :: t => by
    simp only [putR]
    split
    · exact List.mem_cons_self ..
    · split
      · exact List.mem_cons_self ..
      · exact List.mem_cons_of_mem _ (mem_putR_self r t)
theorem putR_up {r : FR} {rs : List FR} (h : rsUp rs) : rsUp (putR r rs) := by
  have h1 : risingF (rs.map FR.val) := by
    unfold risingF
    rw [List.pairwise_map]
    exact h
  have h2 := putF_up (f := r.val) h1
  rw [← putR_val] at h2
  exact rsUp_of h2

section
variable {w w' : World} {p : Nat} {m : Option Nat} {rs : List FR} {room used left : Int} {dead armed : Bool}
theorem put_any (r : FR) (h : DskR w p m rs room used left dead armed) (hn : ∀ q ∈ rs, q.name ≠ r.name) (hl : r.name.length ≤ 1099511627776) (hrs : rs.length ≤ 1099511627776) :
    Calls Tryz.prog 155 #[.pointer (some ⟨p, 0, none⟩), .string (tx r.name), .pointer (some ⟨r.fb, 0, none⟩)] w (RetPut w p m (putR r rs) room used left dead armed) := by
  obtain ⟨h1, h2, h3, h4⟩ := h
  rcases h2 with ⟨rfl, rfl⟩ | ⟨b, Dm, rfl, ho, hm⟩
  · exact put_nil r h1 hl
  · exact put_some r h1 ho hm (h4.2.1 b rfl) hn hl hrs
/-- The disk behind a put. -/
theorem DskR.put {r : FR} {e : Ending} (h : DskR w p m rs room used left dead armed) (hu : rsUp rs) (hr : RetPut w p m (putR r rs) room used left dead armed e w') (hat : FileAt w r) (hfr : ∀ b ∈ r.bl, b ∉ allB p m rs) (hne : blk r.A ≠ some r.fb) :
    ∃ b, DskR w' p (some b) (putR r rs) room used left dead armed ∧ Fr w w' (p :: m.toList) ∧ (m = some b ∨ w.heap.size ≤ b) := by
  have hlt := h.lt
  obtain ⟨h1, h2, h3, h4, h5, h6⟩ := h
  obtain ⟨_, b, Dm, e1, e2, e3, e4, e5⟩ := hr
  have hpl := (Array.getElem?_eq_some_iff.1 h1).1
  have hbp : b ≠ p := by
    rcases e5 with e5 | e5
    · exact h5 b e5
    · omega
  have hbq : ∀ q ∈ rs, b ∉ q.bl := fun q hq hb => by
    rcases e5 with e5 | e5
    · exact (h4 q hq).2.1 b e5 hb
    · have := hlt b (mem_file hq hb); omega
  have hbr : b ∉ r.bl := fun hb => by
    rcases e5 with e5 | e5
    · exact hfr b hb (mem_map e5)
    · have := hat.lt b hb; omega
  refine ⟨b, ⟨e1, .inr ⟨b, Dm, rfl, e2, e3⟩, fun q hq => ?_, fun q hq => ?_, fun c hc => by injection hc with hc; rw [← hc]; exact hbp, ?_⟩, e4, e5⟩
  · rcases putR_sub2 hu q hq with rfl | ⟨hq, _⟩
    · refine hat.fr e4 (fun c hc hm => hfr c hc ?_)
      simp only [allB, List.mem_cons, List.mem_append] at hm ⊢
      rcases hm with hm | hm
      · exact .inl hm
      · exact .inr (.inl hm)
    · refine (h3 q hq).fr e4 (fun c hc hm => ?_)
      simp only [List.mem_cons, Option.mem_toList] at hm
      rcases hm with rfl | hm
      · exact (h4 q hq).1 hc
      · exact (h4 q hq).2.1 c hm hc
  · rcases putR_sub2 hu q hq with rfl | ⟨hq, _⟩
    · exact ⟨fun hm => hfr p hm mem_head, fun c hc => by injection hc with hc; rw [← hc]; exact hbr, hne⟩
    · exact ⟨(h4 q hq).1, fun c hc => by injection hc with hc; rw [← hc]; exact hbq q hq, (h4 q hq).2.2⟩
  · exact putR_pair (fun a b => Sp.symm) h6 (fun q hq _ x hx hxq => hfr x hx (mem_file hq hxq)) hu

/-- 'The disk with this file now, and maybe a map of its own; the number.' -/
def RetFile2 (w : World) (p : Nat) (m : Option Nat) (rs : List FR) (x : List UInt8) (dat : List UInt8) (saf : Nat) (room used left : Int) (dead armed : Bool) (v : Value) (e : Ending) (w' : World) : Prop :=
  e = .returned v ∧ ∃ (r' : FR) (m' : Option Nat), r'.name = x ∧ r'.dat = dat ∧ r'.saf = saf ∧ DskR w' p m' (putR r' rs) room used left dead armed ∧ Fr w w' (allB p m rs) ∧ ∀ b ∈ allB p m' (putR r' rs), b ∈ allB p m rs ∨ w.heap.size ≤ b

set_option maxRecDepth 100000 in
set_option maxHeartbeats 4000000 in
theorem append_new (x : List UInt8) (B : Option Addr) (n c : Nat) (ys : List UInt8) (u R : Nat) (h : DskR w p m rs (R : Int) (u : Int) left false armed) (hu : rsUp rs) (hno : ∀ r ∈ rs, r.name ≠ x) (hB : Rd w B n ys) (hBo : ∀ b, blk B = some b → b ∉ allB p m rs)
    (hf : u + n ≤ R) (hR : R ≤ 9223372036854775807) (hn : n ≤ 1099511627776) (hx : x.length ≤ 1099511627776) (hrs : rs.length ≤ 1099511627776) (hl : 0 ≤ left ∧ left ≤ 9223372036854775807) :
    Calls Tryz.prog 111 #[.pointer (some ⟨p, 0, none⟩), .string (tx x), .slice B n c] w
      (RetFile2 w p m rs x ys 0 R ((u + n : Nat) : Int) (tL armed left) (tD false armed left) (tA armed left) (.int .i64 (tE armed left))) := by
  have hxm : x.length ≤ maxLen := by unfold maxLen; omega
  obtain ⟨c0, c1, c2, c3, c4, c5⟩ := h.head
  have i0 : IntKind.i64.wrap ((R : Int) - (u : Int)) = (R : Int) - (u : Int) := IntWalk.i64_in _ (by omega)
  have i1 : decide ((R : Int) - (u : Int) < (n : Int)) = false := by simp; omega
  have i2 : IntKind.i64.wrap ((u : Int) + (n : Int)) = (u : Int) + (n : Int) := IntWalk.i64_in _ (by omega)
  have HNO := Lib.hid hno
  have HBo := Lib.hid hBo
  clear hBo
  go_enter Tryz.func111, Tryz.ntmps111
  go_wp2_with fail
  refine (find_none x h hno hxm).mono ?_
  rintro e w' ⟨rfl, rfl⟩
  clear hno
  go_wp2
  go_quiet (fail)
  obtain ⟨W, hW⟩ : ∃ W, W = w.drewN nq := ⟨_, rfl⟩
  have hD : DskR W p m rs (R : Int) (u : Int) left false armed := by rw [hW]; exact h
  have hBW : Rd W B n ys := by rw [hW]; exact hB.drewN nq
  have hFW : Fr w W (allB p m rs) := by rw [hW]; exact (Fr.refl _ _).drewN nq
  have hzW : W.heap.size = w.heap.size := by rw [hW]; rfl
  rw [← hW]
  have HZW := Lib.hid hzW
  clear hW h hB hzW c0 c1 c2 c3 c4 c5
  obtain ⟨V, hV⟩ : ∃ V, V = W.alloc (.cells #[.slice none 0 0, .int .i64 0] 117) := ⟨_, rfl⟩
  have hbV : Below W.heap.size W V := by rw [hV]; exact (Below.refl _ _).alloc (Nat.le_refl _) _
  have hDV : DskR V p m rs (R : Int) (u : Int) left false armed := hD.fr (Fr.of_below hbV []) (fun b _ h => by cases h)
  have hBV : Rd V B n ys := hBW.below hbV
  obtain ⟨fb, hfb⟩ : ∃ fb, fb = W.heap.size := ⟨_, rfl⟩
  have hcV : V.heap[fb]? = some (.cells #[.slice none 0 0, .int .i64 0] 117 (0, 0)) := by rw [hV, hfb]; exact heap_alloc_new _ _
  obtain ⟨r0, hr0⟩ : ∃ r0 : FR, r0 = ⟨x, [], 0, fb, none, 0⟩ := ⟨_, rfl⟩
  have hn0 : r0.name = x := by rw [hr0]
  have hb0 : r0.fb = fb := by rw [hr0]
  have hat0 : FileAt V r0 := by rw [hr0]; exact ⟨hcV, Own.nil _ _ _, Nat.le_refl _⟩
  have hfr0 : ∀ b ∈ r0.bl, b ∉ allB p m rs := fun b hb hm => by
    rw [hr0] at hb
    simp [FR.bl, blk] at hb
    have := hD.lt b hm
    omega
  have hne0 : blk r0.A ≠ some r0.fb := by rw [hr0]; simp [blk]
  have hP := put_any r0 hDV (fun q hq e => HNO.out q hq (by rw [e, hn0])) (by rw [hn0]; exact hx) hrs
  rw [hn0, hb0] at hP
  have HP := Lib.hid hP
  have HV := Lib.hid hV
  have HFB := Lib.hid hfb
  clear hP hV hcV hfb
  go_wp2_with fail
  rw [← HV.out, ← HFB.out]
  refine HP.out.mono ?_
  clear HP
  rintro e w1 hret
  have hfb := HFB.out
  clear HFB
  subst hfb
  obtain ⟨he, hret2⟩ := hret
  subst he
  obtain ⟨mb, hD1, hF1, hmb⟩ := hDV.put hu ⟨rfl, hret2⟩ hat0 hfr0 hne0
  clear hret2
  have hVs := hbV.size
  have hr1 : r0 ∈ putR r0 rs := mem_putR_self _ _
  have hu1 := putR_up (r := r0) hu
  have hfa := hD1.2.2.1 r0 hr1
  have hB1 : Rd w1 B n ys := hBV.fr hF1 (fun b hb hm => HBo.out b hb (by
    simp only [List.mem_cons, Option.mem_toList, allB, List.mem_append] at hm ⊢
    rcases hm with hm | hm
    · exact .inl hm
    · exact .inr (.inl hm)))
  have hF01 : Fr w w1 (allB p m rs) := by
    have f1 : Fr w V (allB p m rs) := hFW.trans (Fr.of_below hbV (allB p m rs)) (fun b hb => .inl hb)
    exact f1.trans hF1 (fun b hb => .inl (by
      simp only [List.mem_cons, Option.mem_toList, allB, List.mem_append] at hb ⊢
      rcases hb with hm | hm
      · exact .inl hm
      · exact .inr (.inl hm)))
  have hmem1 : ∀ b ∈ allB p (some mb) (putR r0 rs), b ∈ allB p m rs ∨ w.heap.size ≤ b := fun b hb => by
    simp only [allB, List.mem_cons, List.mem_append, List.mem_flatMap, Option.mem_toList] at hb
    have := HZW.out
    rcases hb with rfl | hb | ⟨q, hq, hb⟩
    · exact .inl mem_head
    · cases hb
      rcases hmb with h1 | h1
      · exact .inl (mem_map h1)
      · exact .inr (by omega)
    · rcases putR_sub2 hu q hq with rfl | ⟨hq, _⟩
      · rw [hr0] at hb
        simp [FR.bl, blk] at hb
        exact .inr (by omega)
      · exact .inl (mem_file hq hb)
  have hz1 : w.heap.size ≤ w1.heap.size := hF01.size
  clear hDV hBV hBW hFW hbV hat0 hfr0 hne0 hF1 hmb hD
  have hfa1 := hfa.1
  have hpf : p ≠ W.heap.size := fun e => (hD1.2.2.2.1 r0 hr1).1 (by rw [e, ← hb0]; simp [FR.bl])
  have hfl : W.heap.size < w1.heap.size := by have := (Array.getElem?_eq_some_iff.1 hfa1).1; rw [hb0] at this; exact this
  have hpl : p < w1.heap.size := (Array.getElem?_eq_some_iff.1 hD1.1).1
  rw [hr0] at hfa1
  have d0 : w1.cell? ⟨W.heap.size, 0, none⟩ = some (.slice none 0 0) := cell_of_row w1 W.heap.size 0 _ _ _ hfa1
  have hown : OwnV 5 w1 0 none 0 0 [] := OwnV.nil _ _ _
  go_wp2_with (at_builtin; refine wpList_appV w1 rfl (.tmp 42) (.tmp 43) 28 rfl 0 5 _ 1 Tryz.underlying28 info_u8 rfl none 0 0 [] rfl hown B n c (ys.map cv) rfl hB1.toV (cv_one ys) ?_ ?_ ?_ ?_)
  · unfold maxLen; omega
  · omega
  · exact Nat.zero_le _
  intro A' c' w2 hA hg hk
  have hA : OwnV 5 w2 0 A' n c' (ys.map cv) := by simpa using hA
  have hg : w1.grownBy w2 none := hg
  have hyl := hB1.len
  have hgs := hg.size
  have hfb2 : w2.heap[W.heap.size]? = some (.cells #[.slice none 0 0, .int .i64 0] 117 (0, 0)) := (hg.block W.heap.size hfl (by simp)).trans hfa1
  have hp2 : w2.heap[p]? = some (.cells (headV (some mb) R u left false armed) 108 (0, 0)) := (hg.block p hpl (by simp)).trans hD1.1
  obtain ⟨r', hr'⟩ : ∃ r' : FR, r' = { r0 with dat := ys, A := A', c := c' } := ⟨_, rfl⟩
  have hkA : blk A' ≠ some W.heap.size := fun e => by
    rcases hk with h1 | h1
    · rw [h1] at e; simp [blk] at e
    · rw [h1] at e; injection e with e; omega
  obtain ⟨w3, hw3⟩ : ∃ w3, w3 = w2.setCell ⟨W.heap.size, 0, none⟩ (.slice A' n c') := ⟨_, rfl⟩
  have hg3 : w2.grownBy w3 (some W.heap.size) := by rw [hw3]; exact ⟨rfl, rfl, rfl, by simp, fun k _ hne => heap_setCell_other w2 ⟨W.heap.size, 0, none⟩ k _ (fun e => hne (by rw [e]))⟩
  have hat : FileAt w3 r' := by
    refine ⟨?_, ?_, ?_⟩
    · rw [hw3, hr', hr0]
      show (w2.setCell ⟨W.heap.size, 0, none⟩ (.slice A' n c')).heap[W.heap.size]? = some (Obj.cells #[.slice A' ys.length c', .int .i64 0] _ _)
      rw [heap_setCell_same _ _ _ _ _ _ hfb2, hyl]
      rfl
    · rw [hr']
      show Own 5 w3 0 A' ys.length c' ys
      rw [hyl]
      exact OwnV.kept hA hg3 (fun b hb e => hkA (by rw [hb]; exact e.symm))
    · rw [hr', hr0]
      exact Nat.zero_le _
  have hbl : ∀ b ∈ r'.bl, b ∈ r0.bl ∨ w1.heap.size ≤ b := fun b hb => by
    rw [hr'] at hb
    simp only [FR.bl, List.mem_cons, Option.mem_toList] at hb ⊢
    rcases hb with hb | hb
    · exact .inl (.inl hb)
    · rcases hk with h1 | h1
      · rw [h1] at hb; simp [blk] at hb
      · rw [h1] at hb
        cases hb
        exact .inr (Nat.le_refl _)
  have hf3 : Fr w1 w3 r0.bl := by
    have f1 : Fr w1 w2 r0.bl := Fr.of_grown hg (fun b hb => by cases hb)
    have f2 : Fr w2 w3 [W.heap.size] := Fr.of_grown hg3 (fun b hb => by cases hb; exact List.mem_singleton.2 rfl)
    exact f1.trans f2 (fun b hb => .inl (by rw [List.mem_singleton] at hb; rw [hb, ← hb0]; simp [FR.bl]))
  have hD3 : DskR w3 p (some mb) (putR r' (putR r0 rs)) (R : Int) (u : Int) left false armed := hD1.file hu1 hr1 (by rw [hr']) (by rw [hr']) hf3 hat hbl (by rw [hr', hr0]; exact hkA)
  obtain ⟨w4, hw4⟩ : ∃ w4, w4 = w3.setCell ⟨p, 2, none⟩ (.int .i64 ((u : Int) + (n : Int))) := ⟨_, rfl⟩
  have hD4 : DskR w4 p (some mb) (putR r' (putR r0 rs)) (R : Int) ((u : Int) + (n : Int)) left false armed := by
    rw [hw4]
    exact hD3.turn (Fr.set w3 p 2 _) (heap_setCell_same _ _ _ _ _ _ hD3.1)
  have hF4 : Fr w w4 (allB p m rs) := by
    have f1 : Fr w w3 (allB p m rs) := hF01.trans hf3 (fun b hb => hmem1 b (mem_file hr1 hb))
    have f2 : Fr w3 w4 [p] := by rw [hw4]; exact Fr.set w3 p 2 _
    exact f1.trans f2 (fun b hb => .inl (by rw [List.mem_singleton] at hb; rw [hb]; exact mem_head))
  have hmem : ∀ b ∈ allB p (some mb) (putR r' (putR r0 rs)), b ∈ allB p m rs ∨ w.heap.size ≤ b := fun b hb => by
    rcases mem_putR (p := p) (m := some mb) (w := w1) hu1 hr1 hbl b hb with h1 | h1
    · exact hmem1 b h1
    · exact .inr (by omega)
  have hpp : putR r' (putR r0 rs) = putR r' rs := putR_putR (by rw [hr']) hu
  rw [hpp] at hD4 hmem
  have d0' := cell_of_row w2 W.heap.size 0 _ _ _ hfb2
  have ff' := frozen_of_row w2 W.heap.size 0 _ _ hfb2
  have c2' : w2.cell? ⟨p, 2, none⟩ = some (.int .i64 (u : Int)) := cell_of_row w2 p 2 _ _ _ hp2
  have fp' := frozen_of_row w2 p 2 _ _ hp2
  have HW3 := Lib.hid hw3
  have HW4 := Lib.hid hw4
  have HR := Lib.hid (show r'.name = x ∧ r'.dat = ys ∧ r'.saf = 0 from by rw [hr', hr0]; exact ⟨rfl, rfl, rfl⟩)
  have HF4 := Lib.hid hF4
  have HMEM := Lib.hid hmem
  have HD4 := Lib.hid hD4
  clear hgs hfb2 hp2 hr' hkA hg3 hat hbl hf3 hD3 hF4 hmem hA hg hk hw3 hw4 hfa hfa1 hD1 d0 hown hD4 hpp hmem1 hF01 hr0 hn0 hb0 hu1 hr1 hB1 hyl
  go_wp2_with fail
  rw [← HW3.out, ← HW4.out]
  have e1 : (u : Int) + (n : Int) = ((u + n : Nat) : Int) := by omega
  refine (turn_zero HD4.out hl).mono ?_
  rintro e w5 ⟨rfl, hH⟩
  have hfin : RetFile2 w p m rs x ys 0 R ((u + n : Nat) : Int) (tL armed left) (tD false armed left) (tA armed left) (.int .i64 (tE armed left)) (.returned (.int .i64 (tE armed left))) w5 := by
    refine ⟨rfl, r', some mb, HR.out.1, HR.out.2.1, HR.out.2.2, ?_, ?_, HMEM.out⟩
    · rw [← e1]
      exact HD4.out.turn hH.1 hH.2
    · exact HF4.out.trans hH.1 (fun b hb => .inl (by rw [List.mem_singleton] at hb; rw [hb]; exact mem_head))
  have HFIN := Lib.hid hfin
  clear hfin hH e1
  go_wp2
  go_ret
  exact HFIN.out
end
end Go.Proofs.YtlnpicfkcahdbaaGreat
namespace Go.Proofs.YtlnpicfkcahdbaaGreat
end Go.Proofs.YtlnpicfkcahdbaaGreat
namespace Go.Proofs.YtlnpicfkcahdbaaGreat
open Go Go.RowKit

def bsM (xs : List UInt8) : ByteArray := ⟨⟨xs⟩⟩
theorem conv_any {w : World} {n c : Nat} {A : Option Addr} {xs : List UInt8} (h : Rd w A n xs) : (convert 28 9 (.slice A n c)).run Tryz.prog w = .ok (.string (bsM xs)) w := by
  rcases Nat.eq_zero_or_pos n with hn | hn
  · subst hn
    have hx : xs = [] := List.eq_nil_of_length_eq_zero h.1
    subst hx
    cases A with
    | none =>
      rw [run_convert_bytes_nil w 28 5 Tryz.underlying28 Tryz.underlying5 0 c 9 Tryz.underlying9]
      rfl
    | some a =>
      rw [run_convert_bytes_string w 28 9 5 (some a) 0 c Tryz.underlying28 Tryz.underlying5 Tryz.underlying9,
        run_bytesToString w a 0 c [] (run_loadCells_list (P := Tryz.prog) w a [] (fun j v hj => by simp at hj))]
      rfl
  · obtain ⟨b, off, rfl, _⟩ := h.pos hn
    rw [run_convert_bytes_arg w 28 5 Tryz.underlying28 Tryz.underlying5 b off n c (xs.map fun x => (x.toNat : Int)) (by simpa using h.len) ?_ 9 Tryz.underlying9]
    · congr 2
      unfold strOfNums bsM
      congr 2
      rw [List.map_map]
      conv => rhs; rw [← List.map_id xs]
      apply List.map_congr_left
      intro x _
      simp
    · intro i hi
      obtain ⟨x, hx, hc, _⟩ := h.at_ i hi
      rw [hc]
      simp [List.getD, List.getElem?_map, hx]
set_option maxRecDepth 100000 in
theorem mgEqual_any (A B : Option Addr) (n m c d : Nat) (xs ys : List UInt8) (w : World) (hx : Rd w A n xs) (hy : Rd w B m ys) :
    Calls Tryz.prog 56 #[.slice A n c, .slice B m d] w (fun e w' => e = .returned (.bool (eqB xs ys)) ∧ w' = w) := by
  have k1 := conv_any (c := c) hx
  have k2 := conv_any (c := d) hy
  have hb : ((bsM xs).toList == (bsM ys).toList) = eqB xs ys := by rw [ByteArray.toList_eq, ByteArray.toList_eq]; rfl
  have HB := Lib.hid hb
  clear hb hx hy
  go_enter Tryz.func56, Tryz.ntmps56
  go_wp2_with fail
  go_ret
  exact ⟨by rw [← HB.out]; rfl, rfl⟩
section
variable {w : World} {A : Option Addr} {n c : Nat} {es : List En}
end
end Go.Proofs.YtlnpicfkcahdbaaGreat
namespace Go.Proofs.YtlnpicfkcahdbaaGreat
open Go Go.RowKit

theorem firstT_mem {x e : En} : ∀ {t : Tr} {f : Option En}, firstT x t f = some e → e ∈ t.list ∨ f = some e
  | .nil, f, h => .inr h
  | .node l y r, f, h => by
    unfold firstT at h
    split at h
    · rcases firstT_mem h with q | q
      · exact .inl (by simp [Tr.list, q])
      · exact .inr q
    · rcases firstT_mem h with q | q
      · exact .inl (by simp [Tr.list, q])
      · injection q with q
        exact .inl (by simp [Tr.list, q])
def tabGet (t : Tr) (key : List UInt8) (at_ : Nat) : Option En := keyed key (firstT ⟨key, at_, 0, []⟩ t none)
set_option maxRecDepth 100000 in
set_option maxHeartbeats 8000000 in
theorem tabGet_any {d : TypeId × List Value} {G : Nat → Prop} {w : World} {p : Nat} {t : Tr} {L : Option Addr} {n c at_ : Nat} {key : List UInt8} (h : TB d G w p t) (hS : ∀ e ∈ t.list, SzE e) (hr : Rd w L n key) (hc : n ≤ c) (hd : L = none → c = 0) (hat : U64 at_) :
    Calls Tryz.prog 22 #[.pointer (some ⟨p, 0, none⟩), .slice L n c, .int .u64 (at_ : Int)] w (RetGt w (tabGet t key at_)) := by
  obtain ⟨A0, hp, hta, _⟩ := h
  obtain ⟨U, hU⟩ : ∃ U, U = w.alloc (.cells #[.slice none 0 0, .int .u64 0, .int .u8 0, .slice none 0 0] 31) := ⟨_, rfl⟩
  have bU : Below w.heap.size w U := by rw [hU]; exact (Below.refl _ _).alloc (Nat.le_refl _) _
  have ZU := Lib.hid (show Cl U w.heap.size #[.slice none 0 0, .int .u64 0, .int .u8 0, .slice none 0 0] 31 by rw [hU]; exact Cl.new _ _ _)
  have hev : EV U ⟨key, at_, 0, []⟩ (.slice L n c) (.int .u64 (at_ : Int)) (.int .u8 0) (.slice none 0 0) := ⟨rfl, rfl, hat, by simp, ⟨L, n, c, rfl, hr.below bU, hc, hd⟩, ⟨none, 0, 0, rfl, Rd.nil _ _, Nat.le_refl _, fun _ => rfl⟩⟩
  have HF : Hid (Calls Tryz.prog 60 #[.pointer A0, .agg #[.slice L n c, .int .u64 (at_ : Int), .int .u8 0, .slice none 0 0]] U (RetFst G U (firstT ⟨key, at_, 0, []⟩ t none))) := Lib.hid (first_any (hta.below bU) hev)
  have BU := Lib.hid bU
  have HR := Lib.hid (hr.below bU)
  have HS := Lib.hid hS
  have sU : w.heap.size < U.heap.size := by rw [hU]; simp
  obtain ⟨c0, c1, c2, y0, y1, y2⟩ := (hp.below bU).ct
  obtain ⟨o, ho⟩ : ∃ o, o = firstT ⟨key, at_, 0, []⟩ t none := ⟨_, rfl⟩
  rw [← ho] at HF
  have HG : Hid (tabGet t key at_ = keyed key o) := Lib.hid (by rw [ho]; rfl)
  have HM : Hid (∀ e, o = some e → e ∈ t.list) := Lib.hid (fun e he => by
    rw [ho] at he
    rcases firstT_mem he with q | q
    · exact q
    · cases q)
  clear hp hta hr hev bU hS ho
  go_enter Tryz.func22, Tryz.ntmps22
  go_upto_region 1 with (fail)
  rw [← hU]
  clear hU
  go_wp2_with fail
  with_reducible refine HF.out.mono ?_
  intro e w1 hq
  obtain ⟨F, h1, hfp, b1⟩ := RetFst.out hq
  subst h1
  have B1 := Lib.hid (belowT BU.out b1)
  have Z1 := Lib.hid (ZU.out.below b1)
  have HR1 := Lib.hid (HR.out.below b1)
  have s1 := b1.size
  cases o with
  | none =>
    have hF : F = none := hfp
    subst hF
    obtain ⟨g0, g1, g2, g3, k0, k1, k2, k3⟩ := Z1.out.c4
    clear hq hfp b1 c0 c1 c2 y0 y1 y2
    go_wp2_with fail
    obtain ⟨X, hX⟩ : ∃ X, X = ((((w1.setCell ⟨w.heap.size, 0, none⟩ (.slice none 0 0)).setCell ⟨w.heap.size, 1, none⟩ (.int .u64 0)).setCell ⟨w.heap.size, 2, none⟩ (.int .u8 0)).setCell ⟨w.heap.size, 3, none⟩ (.slice none 0 0)) := ⟨_, rfl⟩
    rw [← hX]
    have zX : Cl X w.heap.size #[.slice none 0 0, .int .u64 0, .int .u8 0, .slice none 0 0] 31 := by rw [hX]; exact Z1.out.put4 rfl _ _ _ _
    have bX : Below w.heap.size w X := by rw [hX]; exact below_set (below_set (below_set (below_set B1.out 0 _ (Nat.le_refl _)) 1 _ (Nat.le_refl _)) 2 _ (Nat.le_refl _)) 3 _ (Nat.le_refl _)
    obtain ⟨x0, x1, x2, x3, _⟩ := zX.c4
    refine bodyPost_ret (v := .tuple #[.agg #[.slice none 0 0, .int .u64 0, .int .u8 0, .slice none 0 0], .bool false]) (by simp [results, Tryz.results22, go_sem, x0, x1, x2, x3]; try rfl) rfl (.inl ⟨by rw [HG.out]; rfl, rfl, bX⟩)
  | some x =>
    obtain ⟨q, hF, hx⟩ := hfp
    subst hF
    clear hq b1 c0 c1 c2 y0 y1 y2
    obtain ⟨v0, v1, v2, v3, cx, ex⟩ := hx
    have hsx := HS.out x (HM.out x rfl)
    obtain ⟨K, kn, kc, V, vn, vc, rfl, rfl, rfl, rfl, r0, r3, _⟩ := ex.1.ev.parts
    obtain ⟨x0, x1, x2, x3, _⟩ := cx.c4
    have hlk : kn ≤ maxLen := maxLen_e (by rw [← r0.len]; exact hsx.1)
    obtain ⟨z, hz⟩ : ∃ z, cmpB x.key key = z := ⟨_, rfl⟩
    have HC : Hid (Calls Tryz.prog 61 #[.slice K kn kc, .slice L n c] w1 fun e w' => e = .returned (.int .i64 z) ∧ w1 = w') := Lib.hid (Cmp_is K L kn n kc c x.key key z hz w1 r0 HR1.out)
    have HW : Hid (∀ wx, Below w1.heap.size w1 wx → Calls Tryz.prog 43 #[.agg #[.slice K kn kc, .int .u64 (x.seq : Int), .int .u8 (x.kind : Int), .slice V vn vc]] wx (RetEn wx x)) := Lib.hid (fun wx h => own_any (ex.1.ev.below h) hsx)
    have CX := Lib.hid cx
    clear r0 r3 cx ex
    by_cases h0 : z = 0
    · subst h0
      have HGK : Hid (tabGet t key at_ = some x) := Lib.hid (by rw [HG.out]; show (if cmpB x.key key = 0 then some x else none) = some x; rw [if_pos hz])
      have tz : ((0 : Int) != 0) = false := rfl
      clear hz
      go_wp2_with fail
      with_reducible refine HC.out.mono ?_
      rintro e w2 ⟨rfl, rfl⟩
      go_wp2_with fail
      with_reducible refine (HW.out _ (Below.refl _ _)).mono ?_
      rintro e w3 ⟨K2, kn2, kc2, V2, vn2, vc2, rfl, o1, o2, b3, dj⟩
      have DJ := Lib.hid dj
      have Z3 := Lib.hid (Z1.out.below b3)
      have B3 := Lib.hid (belowT B1.out b3)
      have O1 := Lib.hid o1
      have O2 := Lib.hid o2
      obtain ⟨g0, g1, g2, g3, k0, k1, k2, k3⟩ := Z3.out.c4
      clear o1 o2 b3 dj x0 x1 x2 x3
      go_wp2_with fail
      obtain ⟨X, hX⟩ : ∃ X, X = ((((w3.setCell ⟨w.heap.size, 0, none⟩ (.slice K2 kn2 kc2)).setCell ⟨w.heap.size, 1, none⟩ (.int .u64 (x.seq : Int))).setCell ⟨w.heap.size, 2, none⟩ (.int .u8 (x.kind : Int))).setCell ⟨w.heap.size, 3, none⟩ (.slice V2 vn2 vc2)) := ⟨_, rfl⟩
      have s3 : w.heap.size < w1.heap.size := by omega
      have O1X : Own 5 X w.heap.size K2 kn2 kc2 x.key := by rw [hX]; exact ((((O1.out.set s3 0 _).set s3 1 _).set s3 2 _).set s3 3 _).mono (Nat.le_of_lt s3)
      have O2X : Own 5 X w.heap.size V2 vn2 vc2 x.val := by rw [hX]; exact ((((O2.out.set s3 0 _).set s3 1 _).set s3 2 _).set s3 3 _).mono (Nat.le_of_lt s3)
      rw [← hX]
      have zX : Cl X w.heap.size #[.slice K2 kn2 kc2, .int .u64 (x.seq : Int), .int .u8 (x.kind : Int), .slice V2 vn2 vc2] 31 := by rw [hX]; exact Z3.out.put4 rfl _ _ _ _
      have bX : Below w.heap.size w X := by rw [hX]; exact below_set (below_set (below_set (below_set B3.out 0 _ (Nat.le_refl _)) 1 _ (Nat.le_refl _)) 2 _ (Nat.le_refl _)) 3 _ (Nat.le_refl _)
      obtain ⟨x0, x1, x2, x3, _⟩ := zX.c4
      refine bodyPost_ret (v := .tuple #[.agg #[.slice K2 kn2 kc2, .int .u64 (x.seq : Int), .int .u8 (x.kind : Int), .slice V2 vn2 vc2], .bool true]) (by simp [results, Tryz.results22, go_sem, x0, x1, x2, x3]; try rfl) rfl (.inr ⟨x, K2, kn2, kc2, V2, vn2, vc2, HGK.out, rfl, O1X, O2X, bX, DJ.out⟩)
    · have HGK : Hid (tabGet t key at_ = none) := Lib.hid (by rw [HG.out]; show (if cmpB x.key key = 0 then some x else none) = none; rw [hz, if_neg h0])
      have tz : (z != 0) = true := by simpa using h0
      obtain ⟨g0, g1, g2, g3, k0, k1, k2, k3⟩ := Z1.out.c4
      clear hz
      go_wp2_with fail
      with_reducible refine HC.out.mono ?_
      rintro e w2 ⟨rfl, rfl⟩
      go_wp2_with fail
      obtain ⟨X, hX⟩ : ∃ X, X = ((((w1.setCell ⟨w.heap.size, 0, none⟩ (.slice none 0 0)).setCell ⟨w.heap.size, 1, none⟩ (.int .u64 0)).setCell ⟨w.heap.size, 2, none⟩ (.int .u8 0)).setCell ⟨w.heap.size, 3, none⟩ (.slice none 0 0)) := ⟨_, rfl⟩
      rw [← hX]
      have zX : Cl X w.heap.size #[.slice none 0 0, .int .u64 0, .int .u8 0, .slice none 0 0] 31 := by rw [hX]; exact Z1.out.put4 rfl _ _ _ _
      have bX : Below w.heap.size w X := by rw [hX]; exact below_set (below_set (below_set (below_set B1.out 0 _ (Nat.le_refl _)) 1 _ (Nat.le_refl _)) 2 _ (Nat.le_refl _)) 3 _ (Nat.le_refl _)
      obtain ⟨x0, x1, x2, x3, _⟩ := zX.c4
      refine bodyPost_ret (v := .tuple #[.agg #[.slice none 0 0, .int .u64 0, .int .u8 0, .slice none 0 0], .bool false]) (by simp [results, Tryz.results22, go_sem, x0, x1, x2, x3]; try rfl) rfl (.inl ⟨HGK.out, rfl, bX⟩)
end Go.Proofs.YtlnpicfkcahdbaaGreat
namespace Go.Proofs.YtlnpicfkcahdbaaGreat
open Go Go.RowKit

theorem buildE_ord {ev : Nat} {es : List En} (h : (buildE ev es).2 = 0) : ordE es = true ∧ es.all formE = true ∧ es.any longE = false ∧ (buildE ev es).1 = sealB (fullB ev es) ∧ (fullB ev es).length ≤ 1048576 := by
  unfold buildE at h ⊢
  split at h
  · cases h
  · rename_i h1
    split at h
    · cases h
    · rename_i h2
      split at h
      · rename_i h3
        rw [if_neg h1, if_neg h2, if_pos h3]
        rw [Bool.and_eq_true] at h3
        exact ⟨h3.2, h3.1, by simpa using h1, rfl, by omega⟩
      · cases h
theorem EOs.at_ {base : Nat} {w : World} : ∀ {es : List En} {vs : List Value} (i : Nat) {x : En}, EOs base w es vs → es[i]? = some x → ∃ v0 v1 v2 v3, vs[i * 4]? = some v0 ∧ vs[i * 4 + 1]? = some v1 ∧ vs[i * 4 + 2]? = some v2 ∧ vs[i * 4 + 3]? = some v3 ∧ EO base w x v0 v1 v2 v3 ∧ (Fam w base (pairE es vs) → Fam w base [(v0, x.key), (v3, x.val)])
  | [], _, i, x, _, h => by simp at h
  | g :: es, _, 0, x, ⟨v0, v1, v2, v3, r, q, h1, h2⟩, h => by
    simp only [List.getElem?_cons_zero, Option.some.injEq] at h
    subst h q
    refine ⟨v0, v1, v2, v3, rfl, rfl, rfl, rfl, h1, fun hf => ?_⟩
    have : pairE (g :: es) (v0 :: v1 :: v2 :: v3 :: r) = [(v0, g.key), (v3, g.val)] ++ pairE es r := rfl
    rw [this] at hf
    exact hf.left
  | g :: es, _, i + 1, x, ⟨v0, v1, v2, v3, r, q, h1, h2⟩, h => by
    rw [List.getElem?_cons_succ] at h
    obtain ⟨a, b, c, d, e0, e1, e2, e3, e4, e5⟩ := EOs.at_ i h2 h
    subst q
    refine ⟨a, b, c, d, ?_, ?_, ?_, ?_, e4, fun hf => ?_⟩
    · rw [show (i + 1) * 4 = i * 4 + 4 by omega]; exact e0
    · rw [show (i + 1) * 4 + 1 = i * 4 + 1 + 4 by omega]; exact e1
    · rw [show (i + 1) * 4 + 2 = i * 4 + 2 + 4 by omega]; exact e2
    · rw [show (i + 1) * 4 + 3 = i * 4 + 3 + 4 by omega]; exact e3
    · have : pairE (g :: es) (v0 :: v1 :: v2 :: v3 :: r) = [(v0, g.key), (v3, g.val)] ++ pairE es r := rfl
      rw [this] at hf
      exact e5 hf.right
end Go.Proofs.YtlnpicfkcahdbaaGreat
namespace Go.Proofs.YtlnpicfkcahdbaaGreat
open Go Go.RowKit Go.Maps

/-- 'It hands back bytes in new memory, and a number.' -/
def RetRd (w : World) (xs : List UInt8) (k : Int) (e : Ending) (w' : World) : Prop :=
  ∃ A n c, e = .returned (.tuple #[.slice A n c, .int .i64 k]) ∧ Own 5 w' w.heap.size A n c xs ∧ Below w.heap.size w w'

section
variable {w : World} {p : Nat} {m : Option Nat} {rs : List FR} {room used left : Int} {dead armed : Bool}
theorem read_dead (x : List UInt8) (h : DskR w p m rs room used left true armed) :
    Calls Tryz.prog 47 #[.pointer (some ⟨p, 0, none⟩), .string (tx x)] w (RetRd w [] 9) := by
  go_enter Tryz.func47, Tryz.ntmps47
  go_wp2_with fail
  refine (find_dead x h).mono ?_
  rintro e w' ⟨rfl, rfl⟩
  go_wp2
  go_ret2
  exact ⟨none, 0, 0, rfl, Own.nil _ _ _, Below.refl _ _⟩
theorem read_none (x : List UInt8) (h : DskR w p m rs room used left false armed) (hx : ∀ r ∈ rs, r.name ≠ x) (hl : x.length ≤ maxLen) :
    Calls Tryz.prog 47 #[.pointer (some ⟨p, 0, none⟩), .string (tx x)] w (RetRd w [] 6) := by
  go_enter Tryz.func47, Tryz.ntmps47
  go_wp2_with fail
  refine (find_none x h hx hl).mono ?_
  rintro e w' ⟨rfl, rfl⟩
  go_wp2
  go_ret2
  exact ⟨none, 0, 0, rfl, Own.nil _ _ _, Below.refl _ _⟩
set_option maxRecDepth 100000 in
set_option maxHeartbeats 1000000 in
theorem read_some {r : FR} (h : DskR w p m rs room used left false armed) (hr : r ∈ rs) (hl : r.name.length ≤ maxLen) (hd : r.dat.length ≤ 1099511627776) :
    Calls Tryz.prog 47 #[.pointer (some ⟨p, 0, none⟩), .string (tx r.name)] w (RetRd w r.dat 0) := by
  have hfa := h.2.2.1 r hr
  obtain ⟨d0, d1⟩ := hfa.cells
  have hnil : r.A = none → r.c = 0 := fun e => (hfa.2.1.nil_of (by rw [e]; rfl)).2.2
  go_enter Tryz.func47, Tryz.ntmps47
  go_wp2_with fail
  refine (find_some h hr hl).mono ?_
  rintro e w' ⟨rfl, rfl⟩
  go_wp2_with fail
  refine (Clone_any r.A r.dat.length r.c r.dat _ hfa.2.1.rd (by omega) hnil).mono ?_
  rintro e w2 ⟨A, n, c, rfl, ho, hb⟩
  go_wp2
  go_ret2
  exact ⟨A, n, c, rfl, ho, hb⟩

theorem sync_dead (x : List UInt8) (h : DskR w p m rs room used left true armed) :
    Calls Tryz.prog 112 #[.pointer (some ⟨p, 0, none⟩), .string (tx x)] w fun e w' => e = .returned (.int .i64 9) ∧ w = w' := by
  go_enter Tryz.func112, Tryz.ntmps112
  go_wp2_with fail
  refine (find_dead x h).mono ?_
  rintro e w' ⟨rfl, rfl⟩
  go_wp2_with fail
  refine (turn_err (p := p) (w := w) (e := 9) (by decide)).mono ?_
  rintro e w' ⟨rfl, rfl⟩
  go_wp2
  go_ret
  exact ⟨rfl, rfl⟩
theorem sync_none (x : List UInt8) (h : DskR w p m rs room used left false armed) (hx : ∀ r ∈ rs, r.name ≠ x) (hl : x.length ≤ maxLen) :
    Calls Tryz.prog 112 #[.pointer (some ⟨p, 0, none⟩), .string (tx x)] w fun e w' => e = .returned (.int .i64 6) ∧ w = w' := by
  go_enter Tryz.func112, Tryz.ntmps112
  go_wp2_with fail
  refine (find_none x h hx hl).mono ?_
  rintro e w' ⟨rfl, rfl⟩
  go_wp2_with fail
  refine (turn_err (p := p) (w := w) (e := 6) (by decide)).mono ?_
  rintro e w' ⟨rfl, rfl⟩
  go_wp2
  go_ret
  exact ⟨rfl, rfl⟩
theorem sync_kill {r : FR} (h : DskR w p m rs room used 0 false true) (hr : r ∈ rs) (hl : r.name.length ≤ maxLen) :
    Calls Tryz.prog 112 #[.pointer (some ⟨p, 0, none⟩), .string (tx r.name)] w (RetHd w p (headV m room used 0 true false) (.int .i64 9)) := by
  go_enter Tryz.func112, Tryz.ntmps112
  go_wp2_with fail
  refine (find_some h hr hl).mono ?_
  rintro e w' ⟨rfl, rfl⟩
  go_wp2_with fail
  refine (turn_kill h).mono ?_
  rintro e w1 ⟨rfl, hH⟩
  go_wp2
  go_ret
  exact ⟨rfl, hH⟩
/-- What the turned head says where the call is done. -/
theorem tE_done {armed : Bool} {left : Int} (h : tE armed left = 0) : tD dead armed left = dead ∧ tA armed left = armed := by
  unfold tE at h
  by_cases h1 : armed = true ∧ left = 0
  · rw [if_pos h1] at h; exact absurd h (by decide)
  · exact ⟨by rw [tD, if_neg h1], by rw [tA, if_neg h1]⟩
set_option maxRecDepth 100000 in
set_option maxHeartbeats 2000000 in
theorem sync_some {r : FR} (h : DskR w p m rs room used left false armed) (hu : rsUp rs) (hr : r ∈ rs) (hl : r.name.length ≤ maxLen) (hl2 : 0 ≤ left ∧ left ≤ 9223372036854775807) (ht : tE armed left = 0) :
    Calls Tryz.prog 112 #[.pointer (some ⟨p, 0, none⟩), .string (tx r.name)] w (RetFile w p m rs r r.dat r.dat.length room used (tL armed left) false armed (.int .i64 0)) := by
  obtain ⟨t1, t2⟩ := tE_done (dead := false) ht
  have hT := turn_zero h hl2
  rw [ht, t1, t2] at hT
  have HT := Lib.hid hT
  clear hT t1 t2 ht
  go_enter Tryz.func112, Tryz.ntmps112
  go_wp2_with fail
  refine (find_some h hr hl).mono ?_
  rintro e w' ⟨rfl, rfl⟩
  go_wp2_with fail
  refine HT.out.mono ?_
  clear HT
  rintro e w1 ⟨rfl, hH⟩
  have hD1 := h.turn hH.1 hH.2
  have hfa := hD1.2.2.1 r hr
  obtain ⟨d0, d1⟩ := hfa.cells
  have f1 := hfa.thaw 1
  obtain ⟨r', hr'⟩ : ∃ r' : FR, r' = { r with saf := r.dat.length } := ⟨_, rfl⟩
  obtain ⟨w2, hw2⟩ : ∃ w2, w2 = w1.setCell ⟨r.fb, 1, none⟩ (.int .i64 (r.dat.length : Int)) := ⟨_, rfl⟩
  have hsep := hD1.2.2.2.1 r hr
  have hf2 : Fr w1 w2 r.bl := by
    rw [hw2]
    exact (Fr.set w1 r.fb 1 _).mono (fun b hb => .inl (by rw [List.mem_singleton] at hb; rw [hb]; simp [FR.bl]))
  have hat : FileAt w2 r' := by
    refine ⟨?_, ?_, ?_⟩
    · rw [hw2, hr']
      exact heap_setCell_same _ _ _ _ _ _ hfa.1
    · rw [hr']
      exact hfa.2.1.fr (hw2 ▸ Fr.set w1 r.fb 1 (.int .i64 (r.dat.length : Int))) (fun b hb hm => by rw [List.mem_singleton] at hm; rw [hm] at hb; exact hsep.2.2 hb)
    · rw [hr']; exact Nat.le_refl _
  have hbl : ∀ b ∈ r'.bl, b ∈ r.bl ∨ w1.heap.size ≤ b := fun b hb => .inl (by rw [hr'] at hb; exact hb)
  have hfin : RetFile w p m rs r r.dat r.dat.length room used (tL armed left) false armed (.int .i64 0) (.returned (.int .i64 0)) w2 := by
    refine ⟨rfl, r', by rw [hr'], by rw [hr'], by rw [hr'], hD1.file hu hr (by rw [hr']) (by rw [hr']) hf2 hat hbl (by rw [hr']; exact hsep.2.2), ?_, fun b hb => ?_⟩
    · have f1 : Fr w w1 (allB p m rs) := hH.1.mono (fun b hb => .inl (by rw [List.mem_singleton] at hb; rw [hb]; exact mem_head))
      exact f1.trans hf2 (fun b hb => .inl (mem_file hr hb))
    · rcases mem_putR (p := p) (m := m) (w := w1) hu hr hbl b hb with h1 | h1
      · exact .inl h1
      · exact .inr (Nat.le_trans hH.1.size h1)
  have HFIN := Lib.hid hfin
  have HW2 := Lib.hid hw2
  clear hfin hw2 hat hbl hf2 hr' hD1 hfa hH
  go_wp2
  go_ret
  rw [← HW2.out]
  exact HFIN.out
end
end Go.Proofs.YtlnpicfkcahdbaaGreat
namespace Go.Proofs.YtlnpicfkcahdbaaGreat
open Go Go.RowKit

theorem firstT_find {x : En} : ∀ {t : Tr} {f : Option En}, SortL t.list → firstT x t f = (t.list.find? (fun e => !lessE e x)).or f
  | .nil, f, _ => by simp [firstT, Tr.list]
  | .node l e r, f, hs => by
    have hs' : SortL (l.list ++ e :: r.list) := hs
    obtain ⟨sl, sr, slr⟩ := List.pairwise_append.1 hs'
    obtain ⟨er, srr⟩ := List.pairwise_cons.1 sr
    unfold firstT
    rw [Tr.list, List.find?_append, List.find?_cons]
    split
    · next h =>
      have hn : l.list.find? (fun e => !lessE e x) = none := by
        rw [List.find?_eq_none]
        intro y hy
        rw [lessE_trans (slr y hy e (by simp)) h]
        simp
      rw [hn, h, firstT_find srr]
      rfl
    · next h =>
      have h' : lessE e x = false := by simpa using h
      rw [h', firstT_find sl]
      cases l.list.find? (fun e => !lessE e x) <;> rfl
theorem tabGet_list {t : Tr} {key : List UInt8} {at_ : Nat} (hs : SortL t.list) : tabGet t key at_ = findL key at_ t.list := by
  unfold tabGet
  rw [firstT_find hs, Option.or_none, keyed_find hs]
end Go.Proofs.YtlnpicfkcahdbaaGreat
namespace Go.Proofs.YtlnpicfkcahdbaaGreat
open Go Go.RowKit

/-- A number as a value. -/
def uv (m : Nat) : Value := .int .u64 (m : Int)
/-- 'The slice of n numbers at A reads as these.' -/
def RdU (w : World) (A : Option Addr) (n : Nat) (ms : List Nat) : Prop := RdV w A n (ms.map uv) ∧ ∀ m ∈ ms, U64 m
theorem RdU.len {w : World} {A : Option Addr} {n : Nat} {ms : List Nat} (h : RdU w A n ms) : ms.length = n := by
  have := h.1.1
  simpa using this
theorem RdU.below {w w' : World} {A : Option Addr} {n : Nat} {ms : List Nat} (h : RdU w A n ms) (hb : Below w.heap.size w w') : RdU w' A n ms := ⟨h.1.below hb, h.2⟩
theorem RdU.drewN {w : World} {A : Option Addr} {n : Nat} {ms : List Nat} (h : RdU w A n ms) (q : Nat) : RdU (w.drewN q) A n ms := h.below (below_drewN (Below.refl _ _) q)
theorem RdU.at_ {w : World} {b off n : Nat} {ms : List Nat} (h : RdU w (some ⟨b, off, none⟩) n ms) (k : Nat) (hk : k < n) : ∃ m, ms[k]? = some m ∧ w.cell? ⟨b, off + k, none⟩ = some (.int .u64 (m : Int)) ∧ U64 m := by
  obtain ⟨v, h1, h2⟩ := h.1.at_ k hk
  rw [List.getElem?_map] at h1
  cases hm : ms[k]? with
  | none => rw [hm] at h1; cases h1
  | some m =>
    rw [hm] at h1
    injection h1 with h1
    exact ⟨m, rfl, by rw [h2, ← h1]; rfl, h.2 m (List.mem_of_getElem? hm)⟩
end Go.Proofs.YtlnpicfkcahdbaaGreat
namespace Go.Proofs.YtlnpicfkcahdbaaGreat
open Go Go.RowKit

/-- Of the first i lists those that differ from the one ahead. -/
def compN (xss : List (List UInt8)) : Nat → List (List UInt8)
  | 0 => []
  | i + 1 => match xss[i]? with
    | none => compN xss i
    | some x => if (decide (0 < i) && eqB x (xss[i - 1]?.getD [])) = true then compN xss i else compN xss i ++ [x]
def compB (xss : List (List UInt8)) : List (List UInt8) := compN xss xss.length
theorem compN_new {xss : List (List UInt8)} {i : Nat} {x : List UInt8} (h : xss[i]? = some x) (h2 : i = 0 ∨ ∃ y, xss[i - 1]? = some y ∧ eqB x y = false) : compN xss (i + 1) = compN xss i ++ [x] := by
  rw [compN, h]
  refine if_neg ?_
  rcases h2 with rfl | ⟨y, h2, h3⟩
  · simp
  · rw [h2]; simp [h3]
theorem compN_old {xss : List (List UInt8)} {i : Nat} {x y : List UInt8} (h : xss[i]? = some x) (hi : 0 < i) (h2 : xss[i - 1]? = some y) (h3 : eqB x y = true) : compN xss (i + 1) = compN xss i := by
  rw [compN, h]
  refine if_pos ?_
  rw [h2]
  simp [h3, hi]
theorem compN_len (xss : List (List UInt8)) : ∀ i, (compN xss i).length ≤ i
  | 0 => Nat.le_refl _
  | i + 1 => by
    have := compN_len xss i
    rw [compN]
    split
    · omega
    · split
      · omega
      · rw [List.length_append]; simp; omega
/-- A row of slices that are read where they were made, an older world. -/
def RwO (w0 : World) (xss : List (List UInt8)) (arr : Array Value) : Prop := ∀ (i : Nat) x, xss[i]? = some x → ∃ v, arr[i]? = some v ∧ ElB w0 v x
/-- The row at g, from the k-th on still as it was, the first m as they shall be. -/
def CpS (w0 w : World) (g c : Nat) (xss : List (List UInt8)) (arr : Array Value) (k i : Nat) (wr : World) : Prop :=
  ∃ brr, Cl wr g brr 28 ∧ brr.size = c ∧ RwO w0 (compN xss i) brr ∧ (compN xss i).length = k ∧ (∀ j, i ≤ j + 1 → brr[j]? = arr[j]?) ∧ Below w0.heap.size w0 wr ∧ w.grownBy wr (some g)
def RetCp (w0 w : World) (g c s : Nat) (yss : List (List UInt8)) (e : Ending) (w' : World) : Prop :=
  ∃ m brr, e = .returned (.slice (some ⟨g, 0, none⟩) m s) ∧ Cl w' g brr 28 ∧ brr.size = c ∧ RwO w0 yss brr ∧ yss.length = m ∧ Below w0.heap.size w0 w' ∧ w.grownBy w' (some g)
theorem RwO.take {w0 : World} {xss : List (List UInt8)} {arr : Array Value} (h : RwO w0 xss arr) (k : Nat) : RwO w0 (xss.take k) arr := fun i x hx => by
  rw [List.getElem?_take] at hx
  split at hx
  · exact h i x hx
  · cases hx
theorem ElB.up {w0 wr : World} {v : Value} {x : List UInt8} (h : ElB w0 v x) (hb : Below w0.heap.size w0 wr) : ElB wr v x := h.below hb

theorem grow_drew {w w' : World} {row : Option Nat} (h : w.grownBy w' row) : w.grownBy w'.drew row := by
  obtain ⟨p1, p2, p3, p4, p5⟩ := h
  exact ⟨p1, p2, p3, p4, p5⟩
theorem comp_one {xss : List (List UInt8)} (h : 1 ≤ xss.length) : compN xss 1 = xss.take 1 := by
  match xss, h with
  | x :: t, _ => rfl
theorem cl_setCells {g : Nat} {t : TypeId} : ∀ (vs : List Value) (o : Nat) {w : World} {arr : Array Value}, Cl w g arr t → ∃ brr, Cl (w.setCells g o vs) g brr t ∧ brr.size = arr.size ∧ (∀ j, j < o → brr[j]? = arr[j]?) ∧ w.grownBy (w.setCells g o vs) (some g) ∧ ∀ B, B ≤ g → Below B w (w.setCells g o vs)
  | [], _, w, arr, h => ⟨arr, h, rfl, fun _ _ => rfl, grow_of_below (Below.refl _ _), fun _ _ => Below.refl _ _⟩
  | v :: r, o, w, arr, h => by
    obtain ⟨brr, h1, h2, h3, ⟨q1, q2, q3, q4, q5⟩, h5⟩ := cl_setCells r (o + 1) (h.set o v)
    obtain ⟨p1, p2, p3, p4, p5⟩ : w.grownBy (w.setCell ⟨g, o, none⟩ v) (some g) := grow_set (grow_of_below (Below.refl _ _)) g o v rfl
    refine ⟨brr, h1, by rw [h2]; simp, fun j hj => ?_, ⟨q1.trans p1, q2.trans p2, q3.trans p3, Nat.le_trans p4 q4, fun k hk hne => ?_⟩, fun B hB => ((Below.refl _ _).setCell hB v).trans (h5 B hB)⟩
    · rw [h3 j (by omega), Array.getElem?_setIfInBounds_ne (by omega)]
    · exact (q5 k (Nat.lt_of_lt_of_le hk p4) hne).trans (p5 k hk hne)

set_option maxRecDepth 100000 in
set_option maxHeartbeats 16000000 in
theorem compact_any {w0 w : World} {g n c s : Nat} {arr : Array Value} {xss : List (List UInt8)} (hz : Cl w g arr 28) (hc : arr.size = c) (hn : n ≤ c) (hns : n ≤ s) (hn2 : n ≤ 1099511627776) (hl : xss.length = n) (he : RwO w0 xss arr) (hg : w0.heap.size ≤ g) (hb : Below w0.heap.size w0 w) :
    Calls Tryz.prog 121 #[.slice (some ⟨g, 0, none⟩) n s, .func (.func 56) #[] #[]] w (RetCp w0 w g c s (compB xss)) := by
  have HZ := Lib.hid hz
  have HE := Lib.hid he
  have HL := Lib.hid hl
  have HC := Lib.hid hc
  have HG := Lib.hid hg
  have HB := Lib.hid hb
  clear hz he hl hc hg hb
  go_enter Tryz.func121, Tryz.ntmps121
  by_cases hn1 : n < 2
  · have HF : Hid (RetCp w0 w g c s (compB xss) (.returned (.slice (some ⟨g, 0, none⟩) n s)) w) := Lib.hid (by
      have hx : compB xss = xss := by
        have h1 := HL.out
        unfold compB
        match xss, h1 with
        | [], _ => rfl
        | [x], _ => rfl
        | a :: b :: t, h1 => simp at h1; omega
      rw [hx]
      exact ⟨n, arr, rfl, HZ.out, HC.out, HE.out, HL.out, HB.out, grow_of_below (Below.refl _ _)⟩)
    go_wp2_with fail
    go_ret
    exact HF.out
  · have HK2 := Lib.hid (show 2 ≤ n by omega)
    go_wp2_with fail
    go_loopw [5] (fun s5 wr => ∃ k : Nat, 1 ≤ k ∧ k ≤ n ∧ s5 = .int .i64 (k : Int) ∧ compN xss k = xss.take k ∧ Below w.heap.size w wr) (fun s _ => n - (intOf s).toNat)
    case atStart => exact ⟨1, Nat.le_refl _, by have := HK2.out; omega, rfl, comp_one (by have := HL.out; have := HK2.out; omega), Below.refl _ _⟩
    case round =>
      obtain ⟨k, hk1, hkn, rfl, hT, hB⟩ := hrel
      have HT := Lib.hid hT
      have HBR := Lib.hid hB
      clear hT hB
      by_cases hlt : k < n
      · obtain ⟨j, rfl⟩ : ∃ j, k = j + 1 := ⟨k - 1, by omega⟩
        obtain ⟨k, hk⟩ : ∃ k, k = j + 1 := ⟨_, rfl⟩
        rw [← hk] at hlt hkn hk1 HT ⊢
        have hlx := HL.out
        obtain ⟨x, hx⟩ : ∃ x, xss[k]? = some x := ⟨_, List.getElem?_eq_getElem (by omega)⟩
        obtain ⟨y, hy⟩ : ∃ y, xss[j]? = some y := ⟨_, List.getElem?_eq_getElem (by omega)⟩
        obtain ⟨v, hv, A1, n1, c1, rfl, r1, _⟩ := HE.out k x hx
        obtain ⟨u, hu, A2, n2, c2, rfl, r2, _⟩ := HE.out j y hy
        have b0 : Below w0.heap.size w0 wr := HB.out.trans (HBR.out.mono HB.out.size)
        have HEQ : Hid (∀ wx, Below wr.heap.size wr wx → Calls Tryz.prog 56 #[.slice A1 n1 c1, .slice A2 n2 c2] wx (fun e w' => e = .returned (.bool (eqB x y)) ∧ w' = wx)) := Lib.hid (fun wx hb => mgEqual_any A1 A2 n1 n2 c1 c2 x y wx ((r1.below b0).below hb) ((r2.below b0).below hb))
        have zr : Cl wr g arr 28 := HZ.out.below HBR.out
        have c0 : wr.cell? ⟨g, k, none⟩ = some (.slice A1 n1 c1) := (zr.cell k).trans hv
        have cj : wr.cell? ⟨g, j, none⟩ = some (.slice A2 n2 c2) := (zr.cell j).trans hu
        have HCC : Hid (∀ wx, Below wr.heap.size wr wx → wx.cell? ⟨g, k, none⟩ = some (.slice A1 n1 c1) ∧ wx.cell? ⟨g, j, none⟩ = some (.slice A2 n2 c2)) := Lib.hid (fun wx hb => ⟨((zr.below hb).cell k).trans hv, ((zr.below hb).cell j).trans hu⟩)
        have hkj : IntKind.i64.wrap ((k : Int) - 1) = (j : Int) := by rw [IntWalk.i64_in _ (by omega)]; omega
        have hj : j < n := by omega
        have HX := Lib.hid hx
        have HY := Lib.hid hy
        have HK := Lib.hid hk
        have HV := Lib.hid hv
        have hB0 : Below wr.heap.size wr wr.drew := (Below.refl _ _).drew
        obtain ⟨z, hzz⟩ : ∃ z, z = eqB x y := ⟨_, rfl⟩
        rw [← hzz] at HEQ
        have HZZ := Lib.hid hzz
        clear hlx hx hy hv hu r1 r2 b0 zr hk hzz
        cases z with
        | true =>
          have hsk : n - k ≤ s - k := by omega
          go_wp2_with fail
          go_region_held3 (fun wx => wx.cell? ⟨g, k, none⟩ = some (.slice A1 n1 c1) ∧ wx.cell? ⟨g, j, none⟩ = some (.slice A2 n2 c2)) (first | assumption | exact HCC.out _ hB0)
            (first | (go_at_call 56; with_reducible refine (HEQ.out _ hB0).mono ?_; intro e1 wn hq; obtain ⟨h1, h2⟩ := hq; subst h1; subst h2))
          all_goals
            clear c0 cj HCC HEQ
            have HP0 : Hid (CpS w0 w g c xss arr k (k + 1) wr.drew) := Lib.hid (by
              have e1 : compN xss (k + 1) = xss.take k := by rw [compN_old HX.out (by omega) (by rw [HK.out]; exact HY.out) HZZ.out.symm, HT.out]
              have b2 := HBR.out.drew
              exact ⟨arr, HZ.out.below b2, HC.out, by rw [e1]; exact HE.out.take k, by rw [e1, List.length_take, HL.out]; omega, fun _ _ => rfl, HB.out.trans (b2.mono HB.out.size), grow_of_below b2⟩)
            go_wp2_with fail
            go_loopw [5, 7] (fun s5 s7 wq => ∃ k2 i : Nat, s5 = .int .i64 (k2 : Int) ∧ s7 = .int .i64 (i : Int) ∧ 1 ≤ i ∧ k + i ≤ n ∧ k2 + 1 ≤ k + i ∧ CpS w0 w g c xss arr k2 (k + i) wq) (fun _ s _ => n - (intOf s).toNat)
            case atStart => exact ⟨k, 1, rfl, rfl, Nat.le_refl _, by omega, by omega, HP0.out⟩
            case round =>
              obtain ⟨k2, i, rfl, rfl, hi1, hin, hki, hP⟩ := hrel
              obtain ⟨brr, zq, hbs, hrw, hlen, hun, hbq, hgq⟩ := hP
              by_cases hlt2 : k + i < n
              · obtain ⟨i1, hi⟩ : ∃ i1, i = i1 + 1 := ⟨i - 1, by omega⟩
                have hlx := HL.out
                obtain ⟨x2, hx2⟩ : ∃ x, xss[k + i]? = some x := ⟨_, List.getElem?_eq_getElem (by omega)⟩
                obtain ⟨y2, hy2⟩ : ∃ y, xss[k + i1]? = some y := ⟨_, List.getElem?_eq_getElem (by omega)⟩
                obtain ⟨v2, hv2, B1, m1, d1, rfl, q1, hmd1, hnil1⟩ := HE.out (k + i) x2 hx2
                obtain ⟨u2, hu2, B2, m2, d2, rfl, q2, _⟩ := HE.out (k + i1) y2 hy2
                have HEL : Hid (ElB w0 (.slice B1 m1 d1) x2) := Lib.hid ⟨B1, m1, d1, rfl, q1, hmd1, hnil1⟩
                have HEQ : Hid (∀ wx, Below wr.heap.size wr wx → Calls Tryz.prog 56 #[.slice B1 m1 d1, .slice B2 m2 d2] wx (fun e w' => e = .returned (.bool (eqB x2 y2)) ∧ w' = wx)) := Lib.hid (fun wx hb => mgEqual_any B1 B2 m1 m2 d1 d2 x2 y2 wx ((q1.below hbq).below hb) ((q2.below hbq).below hb))
                rw [← hun (k + i) (by omega)] at hv2
                rw [← hun (k + i1) (by omega)] at hu2
                obtain ⟨old, ho⟩ : ∃ o, brr[k2]? = some o := ⟨_, Array.getElem?_eq_getElem (by omega)⟩
                have HCC : Hid (∀ wx, Below wr.heap.size wr wx → wx.cell? ⟨g, k + i, none⟩ = some (.slice B1 m1 d1) ∧ wx.cell? ⟨g, k + i1, none⟩ = some (.slice B2 m2 d2)) := Lib.hid (fun wx hb => ⟨((zq.below hb).cell _).trans hv2, ((zq.below hb).cell _).trans hu2⟩)
                have c0 : wr.cell? ⟨g, k + i, none⟩ = some (.slice B1 m1 d1) := (zq.cell _).trans hv2
                have cj : wr.cell? ⟨g, k + i1, none⟩ = some (.slice B2 m2 d2) := (zq.cell _).trans hu2
                have e0 : wr.drew.cell? ⟨g, k + i, none⟩ = some (.slice B1 m1 d1) := (zq.cell _).trans hv2
                have ck : wr.drew.cell? ⟨g, k2, none⟩ = some old := (zq.cell _).trans ho
                have fk : wr.drew.frozen? ⟨g, k2, none⟩ = false := zq.thaw _
                have hij : IntKind.i64.wrap ((i : Int) - 1) = (i1 : Int) := by rw [IntWalk.i64_in _ (by omega)]; omega
                have hl3 : i < n - k := by omega
                have hl4 : i1 < n - k := by omega
                have hl5 : k2 < n := by omega
                have hB0 : Below wr.heap.size wr wr.drew := (Below.refl _ _).drew
                have HP := Lib.hid (show CpS w0 w g c xss arr k2 (k + i) wr from ⟨brr, zq, hbs, hrw, hlen, hun, hbq, hgq⟩)
                have HX2 := Lib.hid hx2
                have HY2 := Lib.hid hy2
                have HI := Lib.hid hi
                obtain ⟨z2, hz2⟩ : ∃ z, z = eqB x2 y2 := ⟨_, rfl⟩
                rw [← hz2] at HEQ
                have HZ2 := Lib.hid hz2
                clear hlx hx2 hy2 hv2 hu2 q1 q2 zq hbs hrw hlen hun hbq hgq hi hz2 ho hmd1 hnil1
                cases z2 with
                | true =>
                  clear e0 ck fk
                  go_wp2_with fail
                  go_region_held3 (fun wx => wx.cell? ⟨g, k + i, none⟩ = some (.slice B1 m1 d1) ∧ wx.cell? ⟨g, k + i1, none⟩ = some (.slice B2 m2 d2)) (first | assumption | exact HCC.out _ hB0)
                    (first | (go_at_call 56; with_reducible refine (HEQ.out _ hB0).mono ?_; intro e1 wn hq; obtain ⟨h1, h2⟩ := hq; subst h1; subst h2))
                  all_goals
                    have HP3 : Hid (CpS w0 w g c xss arr k2 (k + (i + 1)) wr.drew) := Lib.hid (by
                      obtain ⟨brr, zq, hbs, hrw, hlen, hun, hbq, hgq⟩ := HP.out
                      have e1 : compN xss (k + (i + 1)) = compN xss (k + i) := compN_old (i := k + i) HX2.out (by omega) (by rw [show k + i - 1 = k + i1 by have := HI.out; omega]; exact HY2.out) HZ2.out.symm
                      exact ⟨brr, zq, hbs, by rw [e1]; exact hrw, by rw [e1]; exact hlen, fun j hj => hun j (by omega), hbq.drew, grow_drew hgq⟩)
                    go_wp2_with fail
                    go_roundw
                    case rel => exact ⟨k2, i + 1, rfl, by go_num, by omega, by omega, by omega, HP3.out⟩
                    case measure => simp [intOf]; omega
                | false =>
                  go_wp2_with fail
                  go_region_held3 (fun wx => wx.cell? ⟨g, k + i, none⟩ = some (.slice B1 m1 d1) ∧ wx.cell? ⟨g, k + i1, none⟩ = some (.slice B2 m2 d2)) (first | assumption | exact HCC.out _ hB0)
                    (first | (go_at_call 56; with_reducible refine (HEQ.out _ hB0).mono ?_; intro e1 wn hq; obtain ⟨h1, h2⟩ := hq; subst h1; subst h2))
                  all_goals
                    have HP3 : Hid (CpS w0 w g c xss arr (k2 + 1) (k + (i + 1)) (wr.drew.setCell ⟨g, k2, none⟩ (.slice B1 m1 d1))) := Lib.hid (by
                      obtain ⟨brr, zq, hbs, hrw, hlen, hun, hbq, hgq⟩ := HP.out
                      have e1 : compN xss (k + (i + 1)) = compN xss (k + i) ++ [x2] := compN_new (i := k + i) HX2.out (.inr ⟨y2, by rw [show k + i - 1 = k + i1 by have := HI.out; omega]; exact HY2.out, HZ2.out.symm⟩)
                      have hgw : w0.heap.size ≤ g := HG.out
                      refine ⟨brr.setIfInBounds k2 (.slice B1 m1 d1), zq.drewN 1 |>.set k2 _, by simp [hbs], ?_, by rw [e1, List.length_append, hlen]; rfl, fun j hj => ?_, (hbq.drew).setCell hgw _, ?_⟩
                      · rw [e1]
                        intro t x hx
                        by_cases ht : t < k2
                        · rw [List.getElem?_append_left (by omega)] at hx
                          obtain ⟨v, h1, h2⟩ := hrw t x hx
                          exact ⟨v, by rw [Array.getElem?_setIfInBounds_ne (by omega)]; exact h1, h2⟩
                        · rw [List.getElem?_append_right (by omega), hlen] at hx
                          have ht2 : t = k2 := by
                            rcases Nat.lt_or_ge t (k2 + 1) with h | h
                            · omega
                            · rw [List.getElem?_eq_none (by simp; omega)] at hx; cases hx
                          subst ht2
                          simp at hx
                          subst hx
                          exact ⟨_, Array.getElem?_setIfInBounds_self_of_lt (by omega), HEL.out⟩
                      · rw [Array.getElem?_setIfInBounds_ne (by omega)]
                        exact hun j (by omega)
                      · exact grow_set (w' := wr.drew) (grow_drew hgq) g k2 _ rfl)
                    go_wp2_with fail
                    go_roundw
                    case rel => exact ⟨k2 + 1, i + 1, by go_num, by go_num, by omega, by omega, by omega, HP3.out⟩
                    case measure => simp [intOf]; omega
              · have hin2 : i = n - k := by omega
                have hcl : ∀ ty, (Builtin.clear_ #[23] ty #[.slice (some ⟨g, k2, none⟩) (n - k2) (s - k2)]).run Tryz.prog wr = .ok (.tuple #[]) (wr.setCells g k2 (List.replicate (n - k2) (.slice none 0 0))) :=
                  fun ty => Lib.run_clear_slice wr _ _ ty _ Tryz.underlying23 Tryz.zeroValue28 rfl rfl g k2 _ _ (by omega) (fun j hj => by rw [zq.cell, Array.getElem?_eq_getElem (by omega)]; rfl) (fun j hj => zq.thaw _)
                have HF : Hid (RetCp w0 w g c s (compB xss) (.returned (.slice (some ⟨g, 0, none⟩) k2 s)) (wr.setCells g k2 (List.replicate (n - k2) (.slice none 0 0)))) := Lib.hid (by
                  have e1 : compB xss = compN xss (k + i) := by unfold compB; rw [HL.out, show k + i = n by omega]
                  obtain ⟨crr, k1, k3, k4, k5, k6⟩ := cl_setCells (List.replicate (n - k2) (.slice none 0 0)) k2 zq
                  rw [e1]
                  refine ⟨k2, crr, rfl, k1, by rw [k3, hbs], fun t x hx => ?_, hlen, hbq.trans (k6 _ HG.out), ?_⟩
                  · obtain ⟨v, h1, h2⟩ := hrw t x hx
                    have htl : t < k2 := by
                      rcases Nat.lt_or_ge t k2 with h | h
                      · exact h
                      · rw [List.getElem?_eq_none (by omega)] at hx; cases hx
                    exact ⟨v, by rw [k4 t htl]; exact h1, h2⟩
                  · obtain ⟨q1, q2, q3, q4, q5⟩ := k5
                    obtain ⟨p1, p2, p3, p4, p5⟩ := hgq
                    exact ⟨q1.trans p1, q2.trans p2, q3.trans p3, Nat.le_trans p4 q4, fun b hb hne => (q5 b (Nat.lt_of_lt_of_le hb p4) hne).trans (p5 b hb hne)⟩)
                have hl3 : ¬ i < n - k := by omega
                have hl4 : k2 ≤ n := by omega
                have hl5 : k2 ≤ s := by omega
                clear zq hbs hrw hlen hun hbq hgq hin2
                go_wp2_with fail
                go_ret
                exact HF.out
        | false =>
          go_wp2_with fail
          go_region_held3 (fun wx => wx.cell? ⟨g, k, none⟩ = some (.slice A1 n1 c1) ∧ wx.cell? ⟨g, j, none⟩ = some (.slice A2 n2 c2)) (first | assumption | exact HCC.out _ hB0)
            (first | (go_at_call 56; with_reducible refine (HEQ.out _ hB0).mono ?_; intro e1 wn hq; obtain ⟨h1, h2⟩ := hq; subst h1; subst h2))
          all_goals
            go_wp2_with fail
            go_roundw
            case rel => exact ⟨k + 1, by omega, by omega, by go_num, by rw [compN_new HX.out (.inr ⟨y, by rw [HK.out]; exact HY.out, HZZ.out.symm⟩), HT.out, List.take_add_one, HX.out]; rfl, HBR.out.drew⟩
            case measure => simp [intOf]; omega
      · have HF : Hid (RetCp w0 w g c s (compB xss) (.returned (.slice (some ⟨g, 0, none⟩) n s)) wr) := Lib.hid (by
          have hx : compB xss = xss := by
            unfold compB
            obtain rfl : k = n := by omega
            rw [HL.out, HT.out, List.take_of_length_le (by have := HL.out; omega)]
          rw [hx]
          exact ⟨n, arr, rfl, HZ.out.below HBR.out, HC.out, HE.out, HL.out, HB.out.trans (HBR.out.mono HB.out.size), grow_of_below HBR.out⟩)
        go_wp2_with fail
        go_ret
        exact HF.out
end Go.Proofs.YtlnpicfkcahdbaaGreat
namespace Go.Proofs.YtlnpicfkcahdbaaGreat
open Go Go.RowKit

/-- The entries of a tree with keys from xs on and below ys. -/
def betw (xs ys : List UInt8) : Tr → List En
  | .nil => []
  | .node l e r => (if 0 ≤ cmpB e.key xs then betw xs ys l else []) ++ (if 0 ≤ cmpB e.key xs ∧ (ys.length = 0 ∨ cmpB e.key ys < 0) then [e] else []) ++ (if ys.length = 0 ∨ cmpB e.key ys < 0 then betw xs ys r else [])
theorem betw_num (xs ys : List UInt8) : ∀ t : Tr, (betw xs ys t).length ≤ t.num
  | .nil => Nat.le_refl _
  | .node l e r => by
    have h1 := betw_num xs ys l
    have h2 := betw_num xs ys r
    simp only [betw, Tr.num, List.length_append]
    split <;> split <;> split <;> simp <;> omega
def RetBt (W : World) (es : List En) (e : Ending) (w' : World) : Prop := ∃ L k d, e = .returned (.slice L k d) ∧ RowE W W.heap.size L k d es w'
theorem RetBt.out {W : World} {es : List En} {e : Ending} {w' : World} (h : RetBt W es e w') : ∃ L k d, e = .returned (.slice L k d) ∧ RowE W W.heap.size L k d es w' := h
set_option maxRecDepth 100000 in
set_option maxHeartbeats 8000000 in
theorem between_any {G : Nat → Prop} {W : World} {F T : Option Addr} {fn fc tn tc : Nat} {xs ys : List UInt8} (hf : Rd W F fn xs) (ht : Rd W T tn ys) : ∀ (t : Tr) (A : Option Addr), TrAt G W t A → (∀ e ∈ t.list, SzE e) → ∀ (es : List En) (L : Option Addr) (k d : Nat) (wr : World), RowE W W.heap.size L k d es wr → k + t.num ≤ 1099511627776 →
    Calls Tryz.prog 49 #[.pointer A, .slice L k d, .slice F fn fc, .slice T tn tc] wr (RetBt W (es ++ betw xs ys t)) := by
  intro t
  induction t with
  | nil =>
    intro A hA _ es L k d wr hrow hnum
    have hA' : A = none := hA
    subst hA'
    have HR := Lib.hid hrow
    clear hrow hA
    go_enter Tryz.func49, Tryz.ntmps49
    go_wp2
    go_ret
    exact ⟨L, k, d, rfl, by rw [betw, List.append_nil]; exact HR.out⟩
  | node l e r ihl ihr =>
    intro A hA hs es L k d wr hrow hnum
    obtain ⟨b, rfl⟩ := hA.ptr
    obtain ⟨pe, pl, pr, n0, n1, n2, nlt, he, hl, hr⟩ := hA.cells
    obtain ⟨z0, z1, z2, z3, cz, ez⟩ := he
    obtain ⟨K, kn, kc, V, vn, vc, rfl, rfl, rfl, rfl, r0, r3, _⟩ := ez.1.ev.parts
    have hsz : SzE e := hs e (by simp [Tr.list])
    have hnm : l.num + 1 + r.num = (Tr.node l e r).num := rfl
    have HIL := Lib.hid (ihl pl hl (fun x hx => hs x (by simp [Tr.list, hx])))
    have HIR := Lib.hid (ihr pr hr (fun x hx => hs x (by simp [Tr.list, hx])))
    have HR := Lib.hid hrow
    have HSX : Hid (∀ wx, Below W.heap.size W wx → wx.cell? ⟨b, 0, none⟩ = some (.pointer (some ⟨pe, 0, none⟩)) ∧ wx.cell? ⟨b, 1, none⟩ = some (.pointer pl) ∧ wx.cell? ⟨b, 2, none⟩ = some (.pointer pr) ∧ wx.cell? ⟨pe, 0, none⟩ = some (.slice K kn kc) ∧ wx.cell? ⟨pe, 1, none⟩ = some (.int .u64 (e.seq : Int)) ∧ wx.cell? ⟨pe, 2, none⟩ = some (.int .u8 (e.kind : Int)) ∧ wx.cell? ⟨pe, 3, none⟩ = some (.slice V vn vc)) := Lib.hid (fun wx h => by
      obtain ⟨d0, d1, d2, d3, _⟩ := (cz.below h).c4
      exact ⟨(h.cell (p := ⟨b, 0, none⟩) nlt).trans n0, (h.cell (p := ⟨b, 1, none⟩) nlt).trans n1, (h.cell (p := ⟨b, 2, none⟩) nlt).trans n2, d0, d1, d2, d3⟩)
    obtain ⟨y1, hy1⟩ : ∃ y, cmpB e.key xs = y := ⟨_, rfl⟩
    obtain ⟨y2, hy2⟩ : ∃ y, cmpB e.key ys = y := ⟨_, rfl⟩
    have HC1 : Hid (∀ wx, Below W.heap.size W wx → Calls Tryz.prog 61 #[.slice K kn kc, .slice F fn fc] wx fun e' w' => e' = .returned (.int .i64 y1) ∧ wx = w') := Lib.hid (fun wx h => Cmp_is K F kn fn kc fc e.key xs y1 hy1 wx (r0.below h) (hf.below h))
    have HC2 : Hid (∀ wx, Below W.heap.size W wx → Calls Tryz.prog 61 #[.slice K kn kc, .slice T tn tc] wx fun e' w' => e' = .returned (.int .i64 y2) ∧ wx = w') := Lib.hid (fun wx h => Cmp_is K T kn tn kc tc e.key ys y2 hy2 wx (r0.below h) (ht.below h))
    have HOW : Hid (∀ wx, Below W.heap.size W wx → Calls Tryz.prog 43 #[.agg #[.slice K kn kc, .int .u64 (e.seq : Int), .int .u8 (e.kind : Int), .slice V vn vc]] wx (RetEn wx e)) := Lib.hid (fun wx h => own_any (ez.1.ev.below h) hsz)
    have hBT : betw xs ys (.node l e r) = (if 0 ≤ y1 then betw xs ys l else []) ++ (if 0 ≤ y1 ∧ (tn = 0 ∨ y2 < 0) then [e] else []) ++ (if tn = 0 ∨ y2 < 0 then betw xs ys r else []) := by rw [betw, hy1, hy2, ht.len]
    have HBT := Lib.hid hBT
    have HWF : Hid (U64 e.seq ∧ e.kind < 256) := Lib.hid ⟨ez.1.ev.2.2.1, ez.1.ev.2.2.2.1⟩
    have HBL := Lib.hid (betw_num xs ys l)
    have BW := Lib.hid (RowE.bel hrow)
    obtain ⟨e0, e1, e2, e3, e4, e5, e6⟩ := HSX.out wr BW.out
    have C1 := Lib.hid (HC1.out wr BW.out)
    have C2 := Lib.hid (HC2.out wr BW.out)
    clear ihl ihr hA n0 n1 n2 cz ez r0 r3 hl hr hy1 hy2 hBT hrow hs HC1 HC2
    go_enter Tryz.func49, Tryz.ntmps49
    by_cases hb : 0 ≤ y1
    · have tb : decide (0 ≤ y1) = true := by simpa using hb
      by_cases h0 : tn = 0
      · subst h0
        have HA : Hid ((0 : Nat) = 0 ∨ y2 < 0) := Lib.hid (.inl rfl)
        go_wp2_with fail
        with_reducible refine C1.out.mono ?_
        rintro e' w1 ⟨rfl, rfl⟩
        go_wp2_with fail
        with_reducible refine (HIL.out es L k d wr HR.out (by omega)).mono ?_
        intro e' w2 hq
        obtain ⟨L2, k2, d2, h1, hrow2⟩ := RetBt.out hq
        subst h1
        have HR2 := Lib.hid hrow2
        have hk2 : k2 ≤ k + l.num := by have q1 := RowE.len hrow2; have q2 := RowE.len HR.out; have q3 := HBL.out; rw [List.length_append] at q1; omega
        have BW2 := Lib.hid (RowE.bel hrow2)
        clear e0 e1 e2 e3 e4 e5 e6 hq hrow2
        obtain ⟨e0, e1, e2, e3, e4, e5, e6⟩ := HSX.out w2 BW2.out
        go_wp2_with fail
        with_reducible refine (HOW.out w2 BW2.out).mono ?_
        intro e' w3 hq
        obtain ⟨K3, kn3, kc3, V3, vn3, vc3, h1, o1, o2, b3, dj⟩ := hq
        subst h1
        obtain ⟨vs, q1, q2, q3, q4, q5, q6, q7⟩ := HR2.out
        have HFM := Lib.hid (fam_two o1 o2 dj)
        have Q7 := Lib.hid q7
        have s3 := b3.size
        have HEO : Hid (EO W.heap.size w3 e (.slice K3 kn3 kc3) (.int .u64 (e.seq : Int)) (.int .u8 (e.kind : Int)) (.slice V3 vn3 vc3)) := Lib.hid ⟨K3, kn3, kc3, V3, vn3, vc3, rfl, rfl, rfl, rfl, o1.mono q6, o2.mono q6, HWF.out⟩
        have HOF : Hid (OffW [.slice K3 kn3 kc3, .int .u64 (e.seq : Int), .int .u8 (e.kind : Int), .slice V3 vn3 vc3] (blk L2)) := Lib.hid (EO.off (base := w2.heap.size) (w := w3) (e := e) ⟨K3, kn3, kc3, V3, vn3, vc3, rfl, rfl, rfl, rfl, o1, o2, HWF.out⟩ (fun g hg => .inl (q1.lt g hg).2))
        have HB3 := Lib.hid b3
        have Q1 := Lib.hid q1
        have Q2 := Lib.hid q2
        have Q3 := Lib.hid q3
        have Q4 := Lib.hid q4
        have Q5 := Lib.hid q5
        have hcell : ∀ u ∈ [Value.slice K3 kn3 kc3, .int .u64 (e.seq : Int), .int .u8 (e.kind : Int), .slice V3 vn3 vc3], u.oneCell' = true := HEO.out.ev.cells
        have HCL := Lib.hid hcell
        clear o1 o2 b3 dj q1 q2 q3 q4 q5 q7 hcell e0 e1 e2 e3 e4 e5 e6
        go_wp2_with (at_builtin; refine wpList_app4t w3 rfl _ _ 22 rfl W.heap.size _ 64 Tryz.underlying22 info_ent rfl L2 k2 d2 vs rfl (Q1.out.below HB3.out) _ _ _ _ HCL.out w3.heap.size rfl rfl ?_ ?_ ?_ ?_)
        · omega
        · omega
        · omega
        intro L4 d4 w4 hG4 hg4 hb4
        have HR4 : Hid (RowE W W.heap.size L4 (k2 + 1) d4 (es ++ betw xs ys l ++ [e]) w4) := Lib.hid (rowE_snoc Q1.out Q2.out Q3.out Q4.out Q5.out q6 Q7.out HB3.out HEO.out HOF.out HFM.out hG4 hg4 hb4)
        have BW4 := Lib.hid (RowE.bel HR4.out)
        clear hG4 hg4 hb4
        obtain ⟨e0, e1, e2, e3, e4, e5, e6⟩ := HSX.out w4 BW4.out
        go_wp2_with fail
        with_reducible refine (HIR.out (es ++ betw xs ys l ++ [e]) L4 (k2 + 1) d4 w4 HR4.out (by omega)).mono ?_
        intro e' w5 hq
        obtain ⟨L5, k5, d5, h1, hrow5⟩ := RetBt.out hq
        subst h1
        have HR5 := Lib.hid hrow5
        clear e0 e1 e2 e3 e4 e5 e6 hq hrow5
        go_wp2
        go_ret
        exact ⟨L5, k5, d5, rfl, by rw [HBT.out, if_pos hb, if_pos ⟨hb, HA.out⟩, if_pos HA.out]; simpa using HR5.out⟩
      · have t0 : ((tn : Int) == 0) = false := by simp; omega
        by_cases h2 : y2 < 0
        · have HA : Hid (tn = 0 ∨ y2 < 0) := Lib.hid (.inr h2)
          have t2 : decide (y2 < 0) = true := by simpa using h2
          go_wp2_with fail
          with_reducible refine C1.out.mono ?_
          rintro e' w1 ⟨rfl, rfl⟩
          go_wp2_with fail
          with_reducible refine C2.out.mono ?_
          rintro e' w1 ⟨rfl, rfl⟩
          go_wp2_with fail
          with_reducible refine (HIL.out es L k d wr HR.out (by omega)).mono ?_
          intro e' w2 hq
          obtain ⟨L2, k2, d2, h1, hrow2⟩ := RetBt.out hq
          subst h1
          have HR2 := Lib.hid hrow2
          have hk2 : k2 ≤ k + l.num := by have q1 := RowE.len hrow2; have q2 := RowE.len HR.out; have q3 := HBL.out; rw [List.length_append] at q1; omega
          have BW2 := Lib.hid (RowE.bel hrow2)
          clear e0 e1 e2 e3 e4 e5 e6 hq hrow2
          obtain ⟨e0, e1, e2, e3, e4, e5, e6⟩ := HSX.out w2 BW2.out
          go_wp2_with fail
          with_reducible refine (HOW.out w2 BW2.out).mono ?_
          intro e' w3 hq
          obtain ⟨K3, kn3, kc3, V3, vn3, vc3, h1, o1, o2, b3, dj⟩ := hq
          subst h1
          obtain ⟨vs, q1, q2, q3, q4, q5, q6, q7⟩ := HR2.out
          have HFM := Lib.hid (fam_two o1 o2 dj)
          have Q7 := Lib.hid q7
          have s3 := b3.size
          have HEO : Hid (EO W.heap.size w3 e (.slice K3 kn3 kc3) (.int .u64 (e.seq : Int)) (.int .u8 (e.kind : Int)) (.slice V3 vn3 vc3)) := Lib.hid ⟨K3, kn3, kc3, V3, vn3, vc3, rfl, rfl, rfl, rfl, o1.mono q6, o2.mono q6, HWF.out⟩
          have HOF : Hid (OffW [.slice K3 kn3 kc3, .int .u64 (e.seq : Int), .int .u8 (e.kind : Int), .slice V3 vn3 vc3] (blk L2)) := Lib.hid (EO.off (base := w2.heap.size) (w := w3) (e := e) ⟨K3, kn3, kc3, V3, vn3, vc3, rfl, rfl, rfl, rfl, o1, o2, HWF.out⟩ (fun g hg => .inl (q1.lt g hg).2))
          have HB3 := Lib.hid b3
          have Q1 := Lib.hid q1
          have Q2 := Lib.hid q2
          have Q3 := Lib.hid q3
          have Q4 := Lib.hid q4
          have Q5 := Lib.hid q5
          have hcell : ∀ u ∈ [Value.slice K3 kn3 kc3, .int .u64 (e.seq : Int), .int .u8 (e.kind : Int), .slice V3 vn3 vc3], u.oneCell' = true := HEO.out.ev.cells
          have HCL := Lib.hid hcell
          clear o1 o2 b3 dj q1 q2 q3 q4 q5 q7 hcell e0 e1 e2 e3 e4 e5 e6
          go_wp2_with (at_builtin; refine wpList_app4t w3 rfl _ _ 22 rfl W.heap.size _ 64 Tryz.underlying22 info_ent rfl L2 k2 d2 vs rfl (Q1.out.below HB3.out) _ _ _ _ HCL.out w3.heap.size rfl rfl ?_ ?_ ?_ ?_)
          · omega
          · omega
          · omega
          intro L4 d4 w4 hG4 hg4 hb4
          have HR4 : Hid (RowE W W.heap.size L4 (k2 + 1) d4 (es ++ betw xs ys l ++ [e]) w4) := Lib.hid (rowE_snoc Q1.out Q2.out Q3.out Q4.out Q5.out q6 Q7.out HB3.out HEO.out HOF.out HFM.out hG4 hg4 hb4)
          have BW4 := Lib.hid (RowE.bel HR4.out)
          clear hG4 hg4 hb4
          obtain ⟨e0, e1, e2, e3, e4, e5, e6⟩ := HSX.out w4 BW4.out
          go_wp2_with fail
          with_reducible refine (HIR.out (es ++ betw xs ys l ++ [e]) L4 (k2 + 1) d4 w4 HR4.out (by omega)).mono ?_
          intro e' w5 hq
          obtain ⟨L5, k5, d5, h1, hrow5⟩ := RetBt.out hq
          subst h1
          have HR5 := Lib.hid hrow5
          clear e0 e1 e2 e3 e4 e5 e6 hq hrow5
          go_wp2
          go_ret
          exact ⟨L5, k5, d5, rfl, by rw [HBT.out, if_pos hb, if_pos ⟨hb, HA.out⟩, if_pos HA.out]; simpa using HR5.out⟩
        · have HA : Hid (¬ (tn = 0 ∨ y2 < 0)) := Lib.hid (fun h => h.elim h0 h2)
          have t2 : decide (y2 < 0) = false := by simpa using h2
          go_wp2_with fail
          with_reducible refine C1.out.mono ?_
          rintro e' w1 ⟨rfl, rfl⟩
          go_wp2_with fail
          with_reducible refine C2.out.mono ?_
          rintro e' w1 ⟨rfl, rfl⟩
          go_wp2_with fail
          with_reducible refine (HIL.out es L k d wr HR.out (by omega)).mono ?_
          intro e' w2 hq
          obtain ⟨L2, k2, d2, h1, hrow2⟩ := RetBt.out hq
          subst h1
          have HR2 := Lib.hid hrow2
          have hk2 : k2 ≤ k + l.num := by have q1 := RowE.len hrow2; have q2 := RowE.len HR.out; have q3 := HBL.out; rw [List.length_append] at q1; omega
          have BW2 := Lib.hid (RowE.bel hrow2)
          clear e0 e1 e2 e3 e4 e5 e6 hq hrow2
          obtain ⟨e0, e1, e2, e3, e4, e5, e6⟩ := HSX.out w2 BW2.out
          go_wp2
          go_ret
          exact ⟨L2, k2, d2, rfl, by rw [HBT.out, if_pos hb, if_neg (fun h => HA.out h.2), if_neg HA.out]; simpa using HR2.out⟩
    · have tb : decide (0 ≤ y1) = false := by simpa using hb
      have HNB : Hid (¬ 0 ≤ y1) := Lib.hid hb
      by_cases h0 : tn = 0
      · subst h0
        have HA : Hid ((0 : Nat) = 0 ∨ y2 < 0) := Lib.hid (.inl rfl)
        go_wp2_with fail
        with_reducible refine C1.out.mono ?_
        rintro e' w1 ⟨rfl, rfl⟩
        go_wp2_with fail
        with_reducible refine (HIR.out es L k d wr HR.out (by omega)).mono ?_
        intro e' w5 hq
        obtain ⟨L5, k5, d5, h1, hrow5⟩ := RetBt.out hq
        subst h1
        have HR5 := Lib.hid hrow5
        clear e0 e1 e2 e3 e4 e5 e6 hq hrow5
        go_wp2
        go_ret
        exact ⟨L5, k5, d5, rfl, by rw [HBT.out, if_neg (show ¬ 0 ≤ y1 by have := HNB.out; omega), if_neg (fun h => by have := HNB.out; have := h.1; omega), if_pos HA.out]; simpa using HR5.out⟩
      · have t0 : ((tn : Int) == 0) = false := by simp; omega
        by_cases h2 : y2 < 0
        · have HA : Hid (tn = 0 ∨ y2 < 0) := Lib.hid (.inr h2)
          have t2 : decide (y2 < 0) = true := by simpa using h2
          go_wp2_with fail
          with_reducible refine C1.out.mono ?_
          rintro e' w1 ⟨rfl, rfl⟩
          go_wp2_with fail
          with_reducible refine C2.out.mono ?_
          rintro e' w1 ⟨rfl, rfl⟩
          go_wp2_with fail
          with_reducible refine (HIR.out es L k d wr HR.out (by omega)).mono ?_
          intro e' w5 hq
          obtain ⟨L5, k5, d5, h1, hrow5⟩ := RetBt.out hq
          subst h1
          have HR5 := Lib.hid hrow5
          clear e0 e1 e2 e3 e4 e5 e6 hq hrow5
          go_wp2
          go_ret
          exact ⟨L5, k5, d5, rfl, by rw [HBT.out, if_neg (show ¬ 0 ≤ y1 by have := HNB.out; omega), if_neg (fun h => by have := HNB.out; have := h.1; omega), if_pos HA.out]; simpa using HR5.out⟩
        · have HA : Hid (¬ (tn = 0 ∨ y2 < 0)) := Lib.hid (fun h => h.elim h0 h2)
          have t2 : decide (y2 < 0) = false := by simpa using h2
          go_wp2_with fail
          with_reducible refine C1.out.mono ?_
          rintro e' w1 ⟨rfl, rfl⟩
          go_wp2_with fail
          with_reducible refine C2.out.mono ?_
          rintro e' w1 ⟨rfl, rfl⟩
          go_wp2
          go_ret
          exact ⟨L, k, d, rfl, by rw [HBT.out, if_neg (show ¬ 0 ≤ y1 by have := HNB.out; omega), if_neg (fun h => by have := HNB.out; have := h.1; omega), if_neg HA.out]; simpa using HR.out⟩
end Go.Proofs.YtlnpicfkcahdbaaGreat
namespace Go.Proofs.YtlnpicfkcahdbaaGreat
open Go Go.RowKit

theorem openG_one (r : List UInt8) (hr : r.length ≤ 1048576) : openG (sealB r) ((0 : Nat) : Int) = (r, ((8 + r.length : Nat) : Int), 0) := by
  have hl := sealB_len r
  have hm : r.length = numK ((sealB r).drop 0) 4 := by
    rw [List.drop_zero, sealB, numK_fourB _ _ (by omega)]
  have h2 : (sealB r).take (0 + 8 + r.length) = sealB r := List.take_of_length_le (by omega)
  have h4 : (sealB r).drop (0 + 8) = r := by
    unfold sealB
    rw [← List.append_assoc]
    exact List.drop_left' (by simp only [List.length_append, fourB_len])
  rw [openG_whole (a := 0) (n := 8 + r.length) hl hm (by omega) (by omega), h2, h4, List.drop_zero, eqB_self, if_pos rfl, Nat.zero_add]
theorem numR_at {xs pre r : List UInt8} {n a : Nat} (hx : xs = pre ++ (putU n ++ r)) (ha : a = pre.length) (h : n < B64) : numR xs (a, false) = (n, (a + (putU n).length, false)) := by
  subst hx ha
  unfold numR
  rw [getU_at pre r n h, if_pos rfl]
  simp only [Int.toNat_natCast]
theorem takeR_at {xs pre ys r : List UInt8} {n a : Nat} (hx : xs = pre ++ (ys ++ r)) (ha : a = pre.length) (hn : n = ys.length) : takeR xs n (a, false) = (ys, (a + n, false)) := by
  subst hx ha hn
  unfold takeR
  simp only [List.length_append]
  rw [if_neg (by omega), List.drop_left' rfl, List.take_left' rfl]
theorem comB_take : ∀ (xs ys : List UInt8), xs.take (comB xs ys) = ys.take (comB xs ys)
  | [], _ => by simp [comB]
  | _ :: _, [] => by simp [comB]
  | x :: xs, y :: ys => by
    unfold comB
    split
    · rename_i e
      subst e
      rw [List.take_succ_cons, List.take_succ_cons, comB_take xs ys]
    · simp
/-- An entry that was written is read back. -/
theorem ent_at {xs pre R ah : List UInt8} {x : En} {s a : Nat} (hx : xs = pre ++ (entB s x ++ R)) (ha : a = pre.length) (hs : s ≤ x.key.length) (hk : x.key.length ≤ 1024) (hv : x.val.length ≤ 65536) (hq : U64 x.seq) (hd : x.kind < 256) (hah : ah.take s = x.key.take s) :
    badR xs ah a = false ∧ entR xs ah a = x ∧ (e7R xs a).2.1 = a + (entB s x).length := by
  have hx0 : xs = pre ++ (putU s ++ (putU (x.key.length - s) ++ (putU x.seq ++ ([bt x.kind] ++ (putU x.val.length ++ (x.key.drop s ++ (x.val ++ R))))))) := by
    rw [hx]
    unfold entB
    simp only [List.append_assoc]
  have h1 : e1R xs a = (s, (a + (putU s).length, false)) := numR_at hx0 ha (by unfold B64; omega)
  have h2 : e2R xs a = (x.key.length - s, (a + (putU s).length + (putU (x.key.length - s)).length, false)) := by
    unfold e2R
    rw [h1]
    exact numR_at (pre := pre ++ putU s) (r := putU x.seq ++ ([bt x.kind] ++ (putU x.val.length ++ (x.key.drop s ++ (x.val ++ R))))) (by rw [hx0]; simp only [List.append_assoc]) (by simp only [List.length_append, ha]) (by unfold B64; omega)
  have h3 : e3R xs a = (x.seq, (a + (putU s).length + (putU (x.key.length - s)).length + (putU x.seq).length, false)) := by
    unfold e3R
    rw [h2]
    exact numR_at (pre := pre ++ putU s ++ putU (x.key.length - s)) (r := [bt x.kind] ++ (putU x.val.length ++ (x.key.drop s ++ (x.val ++ R)))) (by rw [hx0]; simp only [List.append_assoc]) (by simp only [List.length_append, ha]) hq
  have h4 : e4R xs a = ([bt x.kind], (a + (putU s).length + (putU (x.key.length - s)).length + (putU x.seq).length + 1, false)) := by
    unfold e4R
    rw [h3]
    exact takeR_at (pre := pre ++ putU s ++ putU (x.key.length - s) ++ putU x.seq) (r := putU x.val.length ++ (x.key.drop s ++ (x.val ++ R))) (by rw [hx0]; simp only [List.append_assoc]) (by simp only [List.length_append, ha]) rfl
  have h5 : e5R xs a = (x.val.length, (a + (putU s).length + (putU (x.key.length - s)).length + (putU x.seq).length + 1 + (putU x.val.length).length, false)) := by
    unfold e5R
    rw [h4]
    exact numR_at (pre := pre ++ putU s ++ putU (x.key.length - s) ++ putU x.seq ++ [bt x.kind]) (r := x.key.drop s ++ (x.val ++ R)) (by rw [hx0]; simp only [List.append_assoc]) (by simp only [List.length_append, List.length_cons, List.length_nil, ha]) (by unfold B64; omega)
  have h6 : e6R xs a = (x.key.drop s, (a + (putU s).length + (putU (x.key.length - s)).length + (putU x.seq).length + 1 + (putU x.val.length).length + (x.key.length - s), false)) := by
    unfold e6R
    rw [h2, h5]
    exact takeR_at (pre := pre ++ putU s ++ putU (x.key.length - s) ++ putU x.seq ++ [bt x.kind] ++ putU x.val.length) (r := x.val ++ R) (by rw [hx0]; simp only [List.append_assoc]) (by simp only [List.length_append, List.length_cons, List.length_nil, ha]) (by simp)
  have h7 : e7R xs a = (x.val, (a + (putU s).length + (putU (x.key.length - s)).length + (putU x.seq).length + 1 + (putU x.val.length).length + (x.key.length - s) + x.val.length, false)) := by
    unfold e7R
    rw [h5, h6]
    exact takeR_at (pre := pre ++ putU s ++ putU (x.key.length - s) ++ putU x.seq ++ [bt x.kind] ++ putU x.val.length ++ x.key.drop s) (r := R) (by rw [hx0]; simp only [List.append_assoc]) (by simp only [List.length_append, List.length_cons, List.length_nil, List.length_drop, ha]) rfl
  have hahl : s ≤ ah.length := by
    have := congrArg List.length hah
    simp only [List.length_take] at this
    omega
  refine ⟨?_, ?_, ?_⟩
  · unfold badR
    rw [h7, h1, h6]
    simp only [List.length_drop, Bool.false_or, Bool.or_eq_false_iff, decide_eq_false_iff_not]
    omega
  · unfold entR
    rw [h1, h3, h4, h6, h7]
    simp only [List.headD_cons]
    rw [hah, List.take_append_drop, bt_nat _ hd]
  · rw [h7]
    simp only
    unfold entB
    simp only [List.length_append, List.length_cons, List.length_nil, List.length_drop]
    omega
theorem outB_pre (ev : Nat) (es : List En) (i : Nat) : ∀ j, i ≤ j → ∃ R, outB ev es j = outB ev es i ++ R := by
  intro j
  induction j with
  | zero => intro h; exact ⟨[], by rw [show i = 0 by omega]; simp⟩
  | succ j ih =>
    intro h
    by_cases e : i = j + 1
    · exact ⟨[], by rw [e]; simp⟩
    · obtain ⟨R, hR⟩ := ih (by omega)
      rw [outB]
      split
      · exact ⟨R ++ entB (shB ev es j) _, by rw [hR, List.append_assoc]⟩
      · exact ⟨R, hR⟩
theorem rsB_pre (ev : Nat) (es : List En) (i : Nat) : ∀ j, i ≤ j → ∃ R, rsB ev es j = rsB ev es i ++ R := by
  intro j
  induction j with
  | zero => intro h; exact ⟨[], by rw [show i = 0 by omega]; simp⟩
  | succ j ih =>
    intro h
    by_cases e : i = j + 1
    · exact ⟨[], by rw [e]; simp⟩
    · obtain ⟨R, hR⟩ := ih (by omega)
      rw [rsB]
      split
      · exact ⟨R ++ fourB _, by rw [hR, List.append_assoc]⟩
      · exact ⟨R, hR⟩
theorem rsB_mod (ev : Nat) (es : List En) : ∀ i, (rsB ev es i).length % 4 = 0
  | 0 => rfl
  | i + 1 => by
    have := rsB_mod ev es i
    unfold rsB
    split
    · rw [List.length_append, fourB_len]; omega
    · exact this
theorem rsB_one {ev : Nat} {es : List En} : ∀ {i : Nat}, 1 ≤ i → i ≤ ev → rsB ev es i = fourB 0
  | 0, h, _ => absurd h (by omega)
  | i + 1, _, h2 => by
    by_cases e : i = 0
    · subst e
      rw [rsB, if_pos (Nat.zero_mod _)]
      rfl
    · rw [rsB, if_neg (by rw [Nat.mod_eq_of_lt (by omega)]; exact e)]
      exact rsB_one (by omega) (by omega)
theorem entB_pos (s : Nat) (x : En) : 1 ≤ (entB s x).length := by
  have := putU_pos s
  unfold entB
  simp only [List.length_append]
  omega
theorem lastK_take {es : List En} {i : Nat} {y : En} (h : es[i]? = some y) : lastK (es.take (i + 1)) = y.key := by
  rw [List.take_add_one, h]
  exact lastK_snoc _ y
theorem sh_take {ev i : Nat} {es : List En} {x : En} (h : es[i]? = some x) : (lastK (es.take i)).take (shB ev es i) = x.key.take (shB ev es i) := by
  unfold shB
  split
  · simp
  · rename_i h0
    obtain ⟨j, rfl⟩ : ∃ j, i = j + 1 := ⟨i - 1, by
      rcases Nat.eq_zero_or_pos i with e | e
      · rw [e, Nat.zero_mod] at h0; exact absurd rfl h0
      · omega⟩
    obtain ⟨y, hy⟩ : ∃ y, es[j]? = some y := ⟨_, List.getElem?_eq_getElem (by have := (List.getElem?_eq_some_iff.1 h).1; omega)⟩
    rw [Nat.add_sub_cancel, hy, h, lastK_take hy]
    exact comB_take _ _
/-- Reading on from the i-th entry. -/
theorem par_from {ev : Nat} {es : List En} {sec : Int} (hz : ∀ x ∈ es, x.key.length ≤ 1024 ∧ x.val.length ≤ 65536) (hw : ∀ x ∈ es, U64 x.seq ∧ x.kind < 256) (g : Nat → Nat → Nat) (hg0 : ∀ c, g es.length c = c)
    (hg : ∀ i c, i < es.length → g i c = g (i + 1) (if ((outB ev es i).length : Int) = sec then i else c)) : ∀ (k i f c : Nat), i + k = es.length → k < f → parR (outB ev es es.length) sec f (outB ev es i).length (es.take i) c = some (es, g i c)
  | 0, i, f, c, hi, hf => by
    obtain ⟨f', rfl⟩ : ∃ f', f = f' + 1 := ⟨f - 1, by omega⟩
    obtain rfl : i = es.length := by omega
    rw [parR, if_pos (Nat.le_refl _), hg0, List.take_length]
  | k + 1, i, f, c, hi, hf => by
    obtain ⟨f', rfl⟩ : ∃ f', f = f' + 1 := ⟨f - 1, by omega⟩
    have hlt : i < es.length := by omega
    obtain ⟨x, hx⟩ : ∃ x, es[i]? = some x := ⟨_, List.getElem?_eq_getElem hlt⟩
    have hm := List.mem_of_getElem? hx
    obtain ⟨R, hR⟩ := outB_pre ev es (i + 1) es.length hlt
    rw [outB_step hx, List.append_assoc] at hR
    have hpos := entB_pos (shB ev es i) x
    obtain ⟨q1, q2, q3⟩ := ent_at (ah := lastK (es.take i)) hR rfl (shB_le hx) (hz x hm).1 (hz x hm).2 (hw x hm).1 (hw x hm).2 (sh_take hx)
    have hlen : (outB ev es i).length < (outB ev es es.length).length := by
      rw [hR]
      simp only [List.length_append]
      omega
    have hnx : (outB ev es i).length + (entB (shB ev es i) x).length = (outB ev es (i + 1)).length := by rw [outB_step hx, List.length_append]
    have htk : es.take i ++ [x] = es.take (i + 1) := by rw [List.take_add_one, hx]; rfl
    rw [parR, if_neg (by omega), q1, q2, q3, hnx, htk, List.length_take, Nat.min_eq_left (by omega)]
    simp only [Bool.false_eq_true, if_false]
    rw [par_from hz hw g hg0 hg k (i + 1) f' _ (by omega) (by omega), ← hg i c hlt]
theorem split_full {ev : Nat} {es : List En} (hF : (fullB ev es).length ≤ 1048576) : splitB (fullB ev es) = some (outB ev es es.length, rsB ev es es.length) := by
  have hm := rsB_mod ev es es.length
  obtain ⟨o, ho⟩ : ∃ o, o = outB ev es es.length := ⟨_, rfl⟩
  obtain ⟨r, hr⟩ : ∃ r, r = rsB ev es es.length := ⟨_, rfl⟩
  have hf : fullB ev es = o ++ r ++ fourB (r.length / 4) := by unfold fullB; rw [← ho, ← hr]
  rw [← hr] at hm
  rw [← ho, ← hr, hf]
  rw [hf] at hF
  have hl : (o ++ r ++ fourB (r.length / 4)).length = o.length + r.length + 4 := by simp only [List.length_append, fourB_len]
  have hd : (o ++ r ++ fourB (r.length / 4)).drop (o.length + r.length) = fourB (r.length / 4) := List.drop_left' (by simp)
  have hnk : numK (fourB (r.length / 4)) 4 = r.length / 4 := by
    have := numK_fourB (r.length / 4) [] (by omega)
    rw [List.append_nil] at this
    exact this
  unfold splitB
  rw [hl, if_neg (by omega), Nat.add_sub_cancel, hd, hnk]
  simp only
  rw [if_neg (by omega), show o.length + r.length - 4 * (r.length / 4) = o.length by omega]
  congr 2
  · rw [List.append_assoc]
    exact List.take_left' rfl
  · rw [show (o ++ r ++ fourB (r.length / 4)).take (o.length + r.length) = o ++ r from List.take_left' (by simp)]
    exact List.drop_left' rfl
theorem out_congr {ev ev2 : Nat} {es : List En} : ∀ {n : Nat}, (∀ i, i < n → (i % ev = 0 ↔ i % ev2 = 0)) → outB ev es n = outB ev2 es n ∧ rsB ev es n = rsB ev2 es n
  | 0, _ => ⟨rfl, rfl⟩
  | n + 1, h => by
    obtain ⟨h1, h2⟩ := out_congr (ev := ev) (ev2 := ev2) (es := es) (n := n) (fun i hi => h i (by omega))
    have hs : shB ev es n = shB ev2 es n := by
      unfold shB
      by_cases e : n % ev = 0
      · rw [if_pos e, if_pos ((h n (by omega)).1 e)]
      · rw [if_neg e, if_neg (fun e2 => e ((h n (by omega)).2 e2))]
    refine ⟨?_, ?_⟩
    · rw [outB, outB, h1, hs]
    · rw [rsB, rsB, h1, h2]
      by_cases e : n % ev = 0
      · rw [if_pos e, if_pos ((h n (by omega)).1 e)]
      · rw [if_neg e, if_neg (fun e2 => e ((h n (by omega)).2 e2))]
theorem build_congr {ev ev2 : Nat} {es : List En} (h : ∀ i, i < es.length → (i % ev = 0 ↔ i % ev2 = 0)) : buildE ev es = buildE ev2 es := by
  have hf : fullB ev es = fullB ev2 es := by
    obtain ⟨h1, h2⟩ := out_congr (ev := ev) (ev2 := ev2) (es := es) h
    unfold fullB
    rw [h1, h2]
  unfold buildE
  rw [hf]
/-- What was built is read. -/
theorem dec_build {ev : Nat} {es : List En} (he : 1 ≤ ev) (hw : ∀ x ∈ es, U64 x.seq ∧ x.kind < 256) (hb : (buildE ev es).2 = 0) : decB (buildE ev es).1 = (es, 0) := by
  obtain ⟨h1, h2, h3, h4, h5⟩ := buildE_ord hb
  have hz := longE_no h3
  rw [h4]
  unfold decB
  rw [openG_one _ h5]
  simp only
  rw [if_neg (by simp)]
  have hsp := split_full h5
  have hmn : ∀ i, i < es.length → (outB ev es i).length < (outB ev es (i + 1)).length := fun i hi => by
    obtain ⟨x, hx⟩ : ∃ x, es[i]? = some x := ⟨_, List.getElem?_eq_getElem hi⟩
    rw [outB_step hx, List.length_append]
    have := entB_pos (shB ev es i) x
    omega
  by_cases hev : ev < es.length
  · -- two restarts at least
    obtain ⟨R, hR⟩ := rsB_pre ev es (ev + 1) es.length hev
    rw [rsB, if_pos (Nat.mod_self ev), rsB_one he (Nat.le_refl _)] at hR
    have hrl : 8 ≤ (rsB ev es es.length).length := by
      rw [hR]
      simp only [List.length_append, fourB_len]
      omega
    have hol : (outB ev es ev).length ≤ 1048576 := by
      have := outB_mono ev es ev es.length (by omega)
      unfold fullB at h5
      simp only [List.length_append] at h5
      omega
    have hnk : numK ((rsB ev es es.length).drop 4) 4 = (outB ev es ev).length := by
      rw [hR, List.append_assoc, List.drop_left' (fourB_len 0)]
      exact numK_fourB _ _ (by omega)
    have hpb : parB (fullB ev es) = some (es, ev) := by
      unfold parB
      rw [hsp]
      simp only
      rw [if_pos hrl, hnk]
      have hmono : ∀ i, i < es.length → (((outB ev es i).length : Int) = ((outB ev es ev).length : Int) ↔ i = ev) := fun i hi => by
        constructor
        · intro h
          have h : (outB ev es i).length = (outB ev es ev).length := by omega
          rcases Nat.lt_trichotomy i ev with e | e | e
          · have a1 := hmn i hi
            have a2 := outB_mono ev es (i + 1) ev (by omega)
            omega
          · exact e
          · have a1 := hmn ev hev
            have a2 := outB_mono ev es (ev + 1) i (by omega)
            omega
        · intro h; rw [h]
      have hp := par_from (sec := ((outB ev es ev).length : Int)) hz hw (fun i c => if i ≤ ev then ev else c) (fun c => by show (if es.length ≤ ev then ev else c) = c; rw [if_neg (by omega)]) (fun i c hi => by
        show (if i ≤ ev then ev else c) = (if i + 1 ≤ ev then ev else (if ((outB ev es i).length : Int) = ((outB ev es ev).length : Int) then i else c))
        by_cases e : i = ev
        · rw [if_pos (by omega), if_neg (by omega), if_pos ((hmono i hi).2 e), e]
        · rw [if_neg (fun h => e ((hmono i hi).1 h))]
          by_cases e2 : i ≤ ev
          · rw [if_pos e2, if_pos (by omega)]
          · rw [if_neg e2, if_neg (by omega)]) es.length 0 ((outB ev es es.length).length + 1) 0 (by omega) (by
          have key : ∀ i, i ≤ es.length → i ≤ (outB ev es i).length := by
            intro i
            induction i with
            | zero => intro _; exact Nat.zero_le _
            | succ i ih => intro h; have := ih (by omega); have := hmn i (by omega); omega
          have := key es.length (Nat.le_refl _)
          omega)
      simp only [outB, List.length_nil, List.take_zero, Nat.zero_le, if_true] at hp
      rw [hp]
      simp only
      rw [if_neg (by omega)]
    rw [hpb, show decP (sealB (fullB ev es)) (some (es, ev)) = if (buildZ ev es).2 = 0 ∧ (buildZ ev es).1 = sealB (fullB ev es) then (es, 0) else ([], 3) from rfl]
    rw [show buildZ ev es = buildE ev es from if_neg (by omega), if_pos ⟨hb, h4⟩]
  · -- one restart alone
    have hrl : ¬ 8 ≤ (rsB ev es es.length).length := by
      rcases Nat.eq_zero_or_pos es.length with e | e
      · rw [e]; simp [rsB]
      · rw [rsB_one e (by omega)]
        rw [fourB_len]
        omega
    have hpb : parB (fullB ev es) = some (es, max es.length 1) := by
      unfold parB
      rw [hsp]
      simp only
      rw [if_neg hrl]
      have hp := par_from (sec := -1) hz hw (ev := ev) (fun _ c => c) (fun c => rfl) (fun i c hi => by
        show c = (if ((outB ev es i).length : Int) = -1 then i else c)
        rw [if_neg (by omega)]) es.length 0 ((outB ev es es.length).length + 1) 0 (by omega) (by
          have key : ∀ i, i ≤ es.length → i ≤ (outB ev es i).length := by
            intro i
            induction i with
            | zero => intro _; exact Nat.zero_le _
            | succ i ih => intro h; have := ih (by omega); have := hmn i (by omega); omega
          have := key es.length (Nat.le_refl _)
          omega)
      simp only [outB, List.length_nil, List.take_zero] at hp
      rw [hp]
      simp only
      rw [if_pos (by omega)]
    have hbe : buildE (max es.length 1) es = buildE ev es := build_congr (fun i hi => by
      have e1 : i % max es.length 1 = i := Nat.mod_eq_of_lt (by omega)
      have e2 : i % ev = i := Nat.mod_eq_of_lt (by omega)
      rw [e1, e2])
    rw [hpb, show decP (sealB (fullB ev es)) (some (es, max es.length 1)) = if (buildZ (max es.length 1) es).2 = 0 ∧ (buildZ (max es.length 1) es).1 = sealB (fullB ev es) then (es, 0) else ([], 3) from rfl]
    rw [show buildZ (max es.length 1) es = buildE (max es.length 1) es from if_neg (by omega), hbe, if_pos ⟨hb, h4⟩]
theorem ord_of_sort {es : List En} (h : SortL es) : ordE es = true := by
  have key : ∀ k, k < es.length ∨ k = 0 → ordK es k = true := by
    intro k
    induction k with
    | zero => intro _; rfl
    | succ k ih =>
      intro hk
      have hk : k + 1 < es.length := by omega
      obtain ⟨a, ha⟩ : ∃ a, es[k]? = some a := ⟨_, List.getElem?_eq_getElem (by omega)⟩
      obtain ⟨b, hb⟩ : ∃ b, es[k + 1]? = some b := ⟨_, List.getElem?_eq_getElem hk⟩
      have hs := List.pairwise_iff_getElem.1 h k (k + 1) (by omega) hk (by omega)
      rw [(List.getElem?_eq_some_iff.1 ha).2, (List.getElem?_eq_some_iff.1 hb).2] at hs
      rw [ordK_step ha hb, ih (.inl (by omega)), hs]
      rfl
  exact key _ (by omega)
/-- Of entries in order, each in form, Build answers the block, or that it is too long. -/
theorem build_sorted {ev : Nat} {es : List En} (hs : SortL es) (hok : ∀ x ∈ es, okE x = true) : (buildE ev es).2 = 0 ∨ buildE ev es = ([], 2) := by
  have h1 : es.any longE = false := by
    rw [List.any_eq_false]
    intro x hx
    rw [(okE_iff.1 (hok x hx)).1]
    simp
  have h2 : es.all formE = true := by
    rw [List.all_eq_true]
    intro x hx
    exact (okE_iff.1 (hok x hx)).2
  have h3 := ord_of_sort hs
  unfold buildE
  rw [h1, h2, h3]
  simp only [Bool.false_eq_true, if_false, Bool.and_self, if_true]
  split
  · exact .inr rfl
  · exact .inl rfl
end Go.Proofs.YtlnpicfkcahdbaaGreat
namespace Go.Proofs.YtlnpicfkcahdbaaGreat
open Go Go.RowKit Go.Maps

section
variable {w : World} {p : Nat} {m : Option Nat} {rs : List FR} {room used left : Int} {dead armed : Bool}
set_option maxRecDepth 100000 in
set_option maxHeartbeats 2000000 in
theorem shorten_any {r : FR} (k u : Nat) (h : DskR w p m rs room (u : Int) left dead armed) (hu : rsUp rs) (hr : r ∈ rs) (hk : k ≤ r.dat.length) (hru : r.dat.length ≤ u) (hu2 : u ≤ 9223372036854775807) (hd : r.dat.length ≤ 1099511627776) :
    Calls Tryz.prog 51 #[.pointer (some ⟨p, 0, none⟩), .pointer (some ⟨r.fb, 0, none⟩), .int .i64 (k : Int)] w
      (RetFile w p m rs r (r.dat.take k) k room ((u - (r.dat.length - k) : Nat) : Int) left dead armed (.tuple #[])) := by
  obtain ⟨c0, c1, c2, c3, c4, c5⟩ := h.head
  have hfa := h.2.2.1 r hr
  obtain ⟨d0, d1⟩ := hfa.cells
  have f2 := h.thaw 2
  have hsep := h.2.2.2.1 r hr
  have hpf : p ≠ r.fb := fun e => hsep.1 (by rw [e]; simp [FR.bl])
  have i0 : IntKind.i64.wrap ((r.dat.length : Int) - (k : Int)) = (r.dat.length : Int) - (k : Int) := IntWalk.i64_in _ (by omega)
  have i1 : IntKind.i64.wrap ((u : Int) - ((r.dat.length : Int) - (k : Int))) = (u : Int) - ((r.dat.length : Int) - (k : Int)) := IntWalk.i64_in _ (by omega)
  have hsl : ∀ w, (Instr.slice 28 (.slice r.A r.dat.length r.c) none (some (.int .i64 (k : Int))) none).run Tryz.prog w = .ok (.slice r.A k r.c) w :=
    cut_h Tryz.underlying28 elem_bytes size_u8 r.A (m := k) (by have := hfa.2.1.cap; omega)
  go_enter Tryz.func51, Tryz.ntmps51
  go_wp2
  go_region
  obtain ⟨W, hW⟩ : ∃ W, W = (w.setCell ⟨p, 2, none⟩ (.int .i64 ((u : Int) - ((r.dat.length : Int) - (k : Int))))).drew := ⟨_, rfl⟩
  rw [← hW]
  have hnil : r.A = none → r.c = 0 := fun e => (hfa.2.1.nil_of (by rw [e]; rfl)).2.2
  have hf1 : Fr w W [p] := by rw [hW]; exact (Fr.set w p 2 _).drewN 1
  have hD1 : DskR W p m rs room ((u : Int) - ((r.dat.length : Int) - (k : Int))) left dead armed := h.turn hf1 (by rw [hW]; exact heap_setCell_same _ _ _ _ _ _ h.1)
  have hsz1 := hf1.size
  have hrd : Rd W r.A k (r.dat.take k) := by
    have h1 := (hD1.2.2.1 r hr).2.1.rd.cut (k := 0) (m := k) (cap := r.c) (by omega) (by omega) (by have := hfa.2.1.cap; omega)
    rw [List.drop_zero, Nat.sub_zero] at h1
    by_cases hk0 : k = 0
    · subst hk0; exact Rd.nil _ _
    · have e : cutA r.A 0 r.c = r.A := by
        unfold cutA
        rw [if_neg (by have := hfa.2.1.cap; omega)]
        cases r.A <;> simp [Addr.add]
      rw [e] at h1
      exact h1
  have e1 : ((u : Int) - ((r.dat.length : Int) - (k : Int))) = ((u - (r.dat.length - k) : Nat) : Int) := by omega
  rw [e1] at hD1
  have HE1 := Lib.hid e1
  clear hW h hfa c0 c1 c2 c3 c4 c5 d0 d1 f2 i0 i1 e1
  obtain ⟨d0, _⟩ := (hD1.2.2.1 r hr).cells
  go_wp2_with fail
  refine (Clone_any r.A k r.c (r.dat.take k) _ hrd (by omega) hnil).mono ?_
  rintro e w2 ⟨A', n', c', rfl, ho, hb⟩
  have hD2 := hD1.fr (Fr.of_below hb []) (fun b _ h => by cases h)
  have hfa2 := hD2.2.2.1 r hr
  clear d0
  obtain ⟨d0, d1⟩ := hfa2.cells
  have g0 := hfa2.thaw 0
  have g1 := hfa2.thaw 1
  have hln : (r.dat.take k).length = k := by rw [List.length_take]; omega
  obtain rfl : n' = k := by rw [← ho.len, hln]
  obtain ⟨r', hr'⟩ : ∃ r' : FR, r' = { r with dat := r.dat.take n', saf := n', A := A', c := c' } := ⟨_, rfl⟩
  obtain ⟨w4, hw4⟩ : ∃ w4, w4 = (w2.setCell ⟨r.fb, 0, none⟩ (.slice A' n' c')).setCell ⟨r.fb, 1, none⟩ (.int .i64 (n' : Int)) := ⟨_, rfl⟩
  have hfl : r.fb < W.heap.size := (Array.getElem?_eq_some_iff.1 (hD1.2.2.1 r hr).1).1
  have hbs := hb.size
  have hkA : blk A' ≠ some r.fb := fun e => by have := (ho.lt r.fb e).1; omega
  have hf4 : Fr w2 w4 [r.fb] := by
    rw [hw4]
    exact (Fr.set w2 r.fb 0 _).trans (Fr.set _ r.fb 1 _) (fun b hb => .inl hb)
  have hat : FileAt w4 r' := by
    refine ⟨?_, ?_, ?_⟩
    · rw [hw4, hr']
      show _ = some (Obj.cells #[.slice A' (r.dat.take n').length c', .int .i64 (n' : Int)] _ _)
      rw [hln, heap_setCell_same _ _ _ _ _ _ (heap_setCell_same _ _ _ _ _ _ hfa2.1)]
      rfl
    · rw [hr']
      show Own 5 w4 0 A' (r.dat.take n').length c' (r.dat.take n')
      rw [hln]
      exact (ho.mono (Nat.zero_le _)).fr hf4 (fun b hb hm => hkA (by rw [List.mem_singleton] at hm; rw [hb, hm]))
    · rw [hr']
      show n' ≤ (r.dat.take n').length
      omega
  have hbl : ∀ b ∈ r'.bl, b ∈ r.bl ∨ w2.heap.size ≤ b ∨ W.heap.size ≤ b := fun b hb => by
    rw [hr'] at hb
    simp only [FR.bl, List.mem_cons, Option.mem_toList] at hb ⊢
    rcases hb with hb | hb
    · exact .inl (.inl hb)
    · exact .inr (.inr (ho.lt b hb).1)
  have hfW : Fr W w4 r.bl := (Fr.of_below hb r.bl).trans hf4 (fun b hb => .inl (by rw [List.mem_singleton] at hb; rw [hb]; simp [FR.bl]))
  have hbl2 : ∀ b ∈ r'.bl, b ∈ r.bl ∨ W.heap.size ≤ b := fun b hb => by
    rcases hbl b hb with h1 | h1 | h1
    · exact .inl h1
    · exact .inr (by omega)
    · exact .inr h1
  have hfin : RetFile w p m rs r (r.dat.take n') n' room ((u - (r.dat.length - n') : Nat) : Int) left dead armed (.tuple #[]) (.returned (.tuple #[])) w4 := by
    refine ⟨rfl, r', by rw [hr'], by rw [hr'], by rw [hr'], hD1.file hu hr (by rw [hr']) (by rw [hr']) hfW hat hbl2 (by rw [hr']; exact hkA), ?_, fun b hb => ?_⟩
    · have f1 : Fr w W (allB p m rs) := hf1.mono (fun b hb => .inl (by rw [List.mem_singleton] at hb; rw [hb]; exact mem_head))
      exact f1.trans hfW (fun b hb => .inl (mem_file hr hb))
    · rcases mem_putR (p := p) (m := m) (w := W) hu hr hbl2 b hb with h1 | h1
      · exact .inl h1
      · exact .inr (by omega)
  have HFIN := Lib.hid hfin
  have HW4 := Lib.hid hw4
  clear hfin hw4 hat hbl hbl2 hfW hf4 hr' hD2 hD1 hfa2 ho hb hrd hf1 hln hbs hkA
  go_wp2
  go_end0
  rw [← HW4.out]
  exact HFIN.out
end

/-- The files but one. -/
def delR (x : List UInt8) (rs : List FR) : List FR := rs.filter fun q => q.name != x
def delF (x : List UInt8) (fs : List FE) : List FE := fs.filter fun q => q.1 != x
theorem delR_val (x : List UInt8) (rs : List FR) : (delR x rs).map FR.val = delF x (rs.map FR.val) := by
  unfold delR delF
  rw [List.filter_map]
  rfl
theorem mem_delR {x : List UInt8} {rs : List FR} {q : FR} : q ∈ delR x rs ↔ q ∈ rs ∧ q.name ≠ x := by
  unfold delR
  rw [List.mem_filter]
  simp
theorem delR_len {r : FR} : ∀ {rs : List FR}, rsUp rs → r ∈ rs → (delR r.name rs).length + 1 = rs.length
  | [], _, h => by cases h
  | a :: t, hu, h => by
    unfold rsUp at hu
    rw [List.pairwise_cons] at hu
    rcases List.mem_cons.1 h with rfl | h2
    · have e : delR r.name (r :: t) = t := by
        unfold delR
        rw [List.filter_cons_of_neg (by simp), List.filter_eq_self]
        intro q hq
        have := nlt_ne (hu.1 q hq)
        simpa using fun e => this e.symm
      rw [e, List.length_cons]
    · have hne := nlt_ne (hu.1 r h2)
      have e : delR r.name (a :: t) = a :: delR r.name t := by
        unfold delR
        rw [List.filter_cons_of_pos (by simpa using hne)]
      rw [e, List.length_cons, List.length_cons, delR_len hu.2 h2]
theorem delR_up {x : List UInt8} {rs : List FR} (h : rsUp rs) : rsUp (delR x rs) := List.Pairwise.filter _ h
theorem delR_any (x y : List UInt8) (rs : List FR) : (delR x rs).any (fun q => q.name == y) = (rs.any (fun q => q.name == y) && !(y == x)) := by
  rw [Bool.eq_iff_iff]
  simp only [List.any_eq_true, Bool.and_eq_true, beq_iff_eq, mem_delR, Bool.not_eq_true', beq_eq_false_iff_ne]
  constructor
  · rintro ⟨q, ⟨h1, h2⟩, rfl⟩
    exact ⟨⟨q, h1, rfl⟩, h2⟩
  · rintro ⟨⟨q, h1, rfl⟩, h2⟩
    exact ⟨q, ⟨h1, h2⟩, rfl⟩
theorem MR.del {Dm : DU} {rs : List FR} {r : FR} (h : MR Dm rs) (ht : Tidy Dm) (hu : rsUp rs) (hr : r ∈ rs) : MR (Dm.del (.string r.name)) (delR r.name rs) := by
  have hhas : has Dm (.string r.name) = true := by
    rw [h.2.1, List.any_eq_true]
    exact ⟨r, hr, by simp⟩
  refine ⟨?_, fun x => ?_, fun q hq z => ?_⟩
  · have h1 := size_del (k := .string r.name) ht
    rw [hhas, if_pos rfl, h.1] at h1
    have h2 := delR_len hu hr
    omega
  · rw [delR_any]
    by_cases e : x = r.name
    · subst e
      rw [has_del_same]
      simp
    · rw [has_del_other (by intro e2; injection e2 with e2; exact e e2), h.2.1]
      simp [e]
  · rw [mem_delR] at hq
    rw [atKey_del_other (by intro e2; injection e2 with e2; exact hq.2 e2)]
    exact h.2.2 q hq.1 z
theorem owns_tight {w : World} {b n : Nat} {Dm : DU} (h : w.ownsMap Tryz.prog 9 ptrEl b n Dm) : w.ownsMap Tryz.prog 9 ptrEl b (Maps.size Dm) Dm := by
  obtain ⟨es, clock, h1, h2, h3, h4⟩ := h
  refine ⟨es, clock, h1, h2, ?_, h4⟩
  rw [h4, Maps.size_eq, length_sorted]
  simp

section
variable {w w' : World} {p : Nat} {m : Option Nat} {rs : List FR} {room used left : Int} {dead armed : Bool}
theorem mem_delB {x : List UInt8} {b : Nat} (h : b ∈ allB p m (delR x rs)) : b ∈ allB p m rs := by
  simp only [allB, List.mem_cons, List.mem_append, List.mem_flatMap, mem_delR] at h ⊢
  rcases h with h | h | ⟨q, ⟨hq, _⟩, h⟩
  · exact .inl h
  · exact .inr (.inl h)
  · exact .inr (.inr ⟨q, hq, h⟩)
/-- The disk behind a delete of the map's. -/
theorem DskR.del {r : FR} {b : Nat} {Dm : DU} (h : DskR w p (some b) rs room used left dead armed) (hu : rsUp rs) (hr : r ∈ rs) (ho : w'.ownsMap Tryz.prog 9 ptrEl b rs.length (Dm.del (.string r.name))) (hm : MR Dm rs) (ht : Tidy Dm) (hg : w.grownBy w' (some b)) :
    DskR w' p (some b) (delR r.name rs) room used left dead armed := by
  obtain ⟨h1, h2, h3, h4, h5, h6⟩ := h
  have hf : Fr w w' [b] := Fr.of_grown hg (fun c hc => by injection hc with hc; rw [hc]; exact List.mem_singleton.2 rfl)
  have hM := hm.del ht hu hr
  refine ⟨(hf.block p (Array.getElem?_eq_some_iff.1 h1).1 (fun hmem => h5 b rfl (by rw [List.mem_singleton] at hmem; exact hmem.symm))).trans h1, .inr ⟨b, _, rfl, by rw [← hM.1]; exact owns_tight ho, hM⟩, fun q hq => ?_, fun q hq => h4 q (mem_delR.1 hq).1, h5, List.Pairwise.filter _ h6⟩
  exact (h3 q (mem_delR.1 hq).1).fr hf (fun c hc hmem => (h4 q (mem_delR.1 hq).1).2.1 b rfl (by rw [List.mem_singleton] at hmem; rw [← hmem]; exact hc))

/-- 'The disk without the file.' -/
def RetDel (w : World) (p : Nat) (m : Option Nat) (rs : List FR) (x : List UInt8) (room used left : Int) (dead armed : Bool) (v : Value) (e : Ending) (w' : World) : Prop :=
  e = .returned v ∧ DskR w' p m (delR x rs) room used left dead armed ∧ Fr w w' (allB p m rs)
set_option maxRecDepth 100000 in
set_option maxHeartbeats 1000000 in
theorem drop_none (x : List UInt8) (h : DskR w p m rs room used left dead armed) (hx : ∀ r ∈ rs, r.name ≠ x) (hl : x.length ≤ maxLen) :
    Calls Tryz.prog 154 #[.pointer (some ⟨p, 0, none⟩), .string (tx x)] w fun e w' => e = .returned (.tuple #[]) ∧ w = w' := by
  obtain ⟨c0, c1, c2, c3, c4, c5⟩ := h.head
  have hlk := h.2.1.look_none hx hl
  clear hx hl
  go_enter Tryz.func154, Tryz.ntmps154
  go_wp2
  go_end0
  exact ⟨rfl, rfl⟩
set_option maxRecDepth 100000 in
set_option maxHeartbeats 2000000 in
theorem drop_some {r : FR} (u : Nat) (h : DskR w p m rs room (u : Int) left dead armed) (hu : rsUp rs) (hr : r ∈ rs) (hl : r.name.length ≤ maxLen) (hru : r.dat.length ≤ u) (hu2 : u ≤ 9223372036854775807) :
    Calls Tryz.prog 154 #[.pointer (some ⟨p, 0, none⟩), .string (tx r.name)] w (RetDel w p m rs r.name room ((u - r.dat.length : Nat) : Int) left dead armed (.tuple #[])) := by
  obtain ⟨c0, c1, c2, c3, c4, c5⟩ := h.head
  have hlk := h.2.1.look_some hr hl
  have hfa := h.2.2.1 r hr
  obtain ⟨d0, d1⟩ := hfa.cells
  have f2 := h.thaw 2
  have hpf : p ≠ r.fb := fun e => (h.2.2.2.1 r hr).1 (by rw [e]; simp [FR.bl])
  have i1 : IntKind.i64.wrap ((u : Int) - (r.dat.length : Int)) = (u : Int) - (r.dat.length : Int) := IntWalk.i64_in _ (by omega)
  have hkey := keyN hl
  go_enter Tryz.func154, Tryz.ntmps154
  go_wp2
  go_region
  obtain ⟨W, hW⟩ : ∃ W, W = (w.setCell ⟨p, 2, none⟩ (.int .i64 ((u : Int) - (r.dat.length : Int)))).drew := ⟨_, rfl⟩
  rw [← hW]
  have hf1 : Fr w W [p] := by rw [hW]; exact (Fr.set w p 2 _).drewN 1
  have hD1 : DskR W p m rs room ((u : Int) - (r.dat.length : Int)) left dead armed := h.turn hf1 (by rw [hW]; exact heap_setCell_same _ _ _ _ _ _ h.1)
  have hf1 : Fr w W (allB p m rs) := hf1.mono (fun b hb => .inl (by rw [List.mem_singleton] at hb; rw [hb]; exact mem_head))
  have e1 : ((u : Int) - (r.dat.length : Int)) = ((u - r.dat.length : Nat) : Int) := by omega
  rw [e1] at hD1
  clear hW h hfa c0 c1 c2 c3 c4 c5 d0 d1 f2 i1 hlk e1
  have hM := hD1.2.1
  rcases hM with ⟨_, rfl⟩ | ⟨b, Dm, rfl, ho, hm⟩
  · cases hr
  obtain ⟨c0, _⟩ := hD1.head
  go_wp2_with (at_delete; refine wpList_delete_own _ rfl _ _ 106 9 rfl 115 lawN Tryz.underlying106 _ b rs.length Dm rfl ho _ _ rfl hkey ?_)
  intro w2 ho2 hturn
  have hfin : RetDel w p (some b) rs r.name room ((u - r.dat.length : Nat) : Int) left dead armed (.tuple #[]) (.returned (.tuple #[])) w2 := by
    refine ⟨rfl, hD1.del hu hr ho2 hm (ho.tidy lawN) hturn.grown, ?_⟩
    exact hf1.trans (Fr.of_grown (bl := [b]) hturn.grown (fun c hc => by injection hc with hc; rw [hc]; exact List.mem_singleton.2 rfl)) (fun c hc => .inl (by rw [List.mem_singleton] at hc; rw [hc]; exact mem_map rfl))
  have HFIN := Lib.hid hfin
  clear hfin ho2 hturn hD1 ho hm hf1
  go_wp2
  go_end0
  exact HFIN.out
end
end Go.Proofs.YtlnpicfkcahdbaaGreat
namespace Go.Proofs.YtlnpicfkcahdbaaGreat
open Go Go.RowKit

theorem betw_list (xs ys : List UInt8) : ∀ {t : Tr}, SortL t.list → betw xs ys t = t.list.filter (inR xs ys)
  | .nil, _ => rfl
  | .node l e r, hs => by
    have hs' : SortL (l.list ++ e :: r.list) := hs
    obtain ⟨sl, sr, slr⟩ := List.pairwise_append.1 hs'
    obtain ⟨er, srr⟩ := List.pairwise_cons.1 sr
    rw [betw, Tr.list, List.filter_append, List.filter_cons, betw_list xs ys sl, betw_list xs ys srr]
    have hl : ¬ 0 ≤ cmpB e.key xs → l.list.filter (inR xs ys) = [] := fun h => by
      rw [List.filter_eq_nil_iff]
      intro y hy k
      have hk : cmpB y.key xs < 0 := less_key (slr y hy e (by simp)) (by omega)
      unfold inR at k
      simp at k
      omega
    have hr : ¬ (ys.length = 0 ∨ cmpB e.key ys < 0) → r.list.filter (inR xs ys) = [] := fun h => by
      rw [List.filter_eq_nil_iff]
      intro y hy k
      unfold inR at k
      rw [Bool.and_eq_true, decide_eq_true_eq, decide_eq_true_eq] at k
      rcases k.2 with q | q
      · exact h (.inl q)
      · exact h (.inr (less_key (er y hy) q))
    by_cases h1 : 0 ≤ cmpB e.key xs
    · by_cases h2 : ys.length = 0 ∨ cmpB e.key ys < 0
      · rw [if_pos h1, if_pos ⟨h1, h2⟩, if_pos h2, if_pos (by unfold inR; rw [decide_eq_true h1, decide_eq_true h2]; rfl)]
        simp
      · rw [if_pos h1, if_neg (fun h => h2 h.2), if_neg h2, if_neg (by unfold inR; rw [decide_eq_false h2]; simp), hr h2]
        simp
    · by_cases h2 : ys.length = 0 ∨ cmpB e.key ys < 0
      · rw [if_neg h1, if_neg (fun h => h1 h.1), if_pos h2, if_neg (by unfold inR; rw [decide_eq_false h1]; simp), hl h1]
        simp
      · rw [if_neg h1, if_neg (fun h => h1 h.1), if_neg h2, if_neg (by unfold inR; rw [decide_eq_false h1]; simp), hl h1, hr h2]
        simp
end Go.Proofs.YtlnpicfkcahdbaaGreat
namespace Go.Proofs.YtlnpicfkcahdbaaGreat
open Go Go.RowKit

end Go.Proofs.YtlnpicfkcahdbaaGreat
namespace Go.Proofs.YtlnpicfkcahdbaaGreat
open Go Go.RowKit

set_option maxRecDepth 100000 in
set_option maxHeartbeats 4000000 in
theorem range_any {d : TypeId × List Value} {G : Nat → Prop} {w : World} {p : Nat} {t : Tr} {F T : Option Addr} {fn fc tn tc : Nat} {xs ys : List UInt8} (h : TB d G w p t) (hf : Rd w F fn xs) (ht : Rd w T tn ys) (hs : ∀ e ∈ t.list, SzE e) (hn : t.num ≤ 1099511627776) :
    Calls Tryz.prog 13 #[.pointer (some ⟨p, 0, none⟩), .slice F fn fc, .slice T tn tc] w (RetBt w (betw xs ys t)) := by
  obtain ⟨A, h1, h2, _⟩ := h
  obtain ⟨c0, c1, c2, _⟩ := h1.ct
  have HB : Hid (Calls Tryz.prog 49 #[.pointer A, .slice none 0 0, .slice F fn fc, .slice T tn tc] w (RetBt w (betw xs ys t))) := Lib.hid (by
    have := between_any (fc := fc) (tc := tc) hf ht t A h2 hs [] none 0 0 w (RowE.zero _ _ (Nat.le_refl _)) (by omega)
    simpa using this)
  clear h1 h2 hf ht hs
  go_enter Tryz.func13, Tryz.ntmps13
  go_wp2_with fail
  with_reducible refine HB.out.mono ?_
  intro e w2 hq
  obtain ⟨L, k, d, h1, hrow⟩ := RetBt.out hq
  subst h1
  have HR := Lib.hid hrow
  clear hq hrow HB
  go_wp2
  go_ret
  exact ⟨L, k, d, rfl, HR.out⟩
end Go.Proofs.YtlnpicfkcahdbaaGreat
namespace Go.Proofs.YtlnpicfkcahdbaaGreat
open Go Go.RowKit

end Go.Proofs.YtlnpicfkcahdbaaGreat
namespace Go.Proofs.YtlnpicfkcahdbaaGreat
open Go Go.RowKit Go.Maps

section
variable {w : World} {p : Nat} {m : Option Nat} {rs : List FR} {room used left : Int} {dead armed : Bool}
/-- A call that asks for a file, where turn says no: a dead disk, no such file, the disk dies. -/
def RetNo (w : World) (k : Int) (e : Ending) (w' : World) : Prop := e = .returned (.int .i64 k) ∧ w = w'
theorem remove_dead (x : List UInt8) (h : DskR w p m rs room used left true armed) :
    Calls Tryz.prog 110 #[.pointer (some ⟨p, 0, none⟩), .string (tx x)] w (RetNo w 9) := by
  go_enter Tryz.func110, Tryz.ntmps110
  go_wp2_with fail
  refine (find_dead x h).mono ?_
  rintro e w' ⟨rfl, rfl⟩
  go_wp2_with fail
  refine (turn_err (p := p) (w := w) (e := 9) (by decide)).mono ?_
  rintro e w' ⟨rfl, rfl⟩
  go_wp2
  go_ret
  exact ⟨rfl, rfl⟩
theorem remove_none (x : List UInt8) (h : DskR w p m rs room used left false armed) (hx : ∀ r ∈ rs, r.name ≠ x) (hl : x.length ≤ maxLen) :
    Calls Tryz.prog 110 #[.pointer (some ⟨p, 0, none⟩), .string (tx x)] w (RetNo w 6) := by
  go_enter Tryz.func110, Tryz.ntmps110
  go_wp2_with fail
  refine (find_none x h hx hl).mono ?_
  rintro e w' ⟨rfl, rfl⟩
  go_wp2_with fail
  refine (turn_err (p := p) (w := w) (e := 6) (by decide)).mono ?_
  rintro e w' ⟨rfl, rfl⟩
  go_wp2
  go_ret
  exact ⟨rfl, rfl⟩
theorem remove_kill {r : FR} (h : DskR w p m rs room used 0 false true) (hr : r ∈ rs) (hl : r.name.length ≤ maxLen) :
    Calls Tryz.prog 110 #[.pointer (some ⟨p, 0, none⟩), .string (tx r.name)] w (RetHd w p (headV m room used 0 true false) (.int .i64 9)) := by
  go_enter Tryz.func110, Tryz.ntmps110
  go_wp2_with fail
  refine (find_some h hr hl).mono ?_
  rintro e w' ⟨rfl, rfl⟩
  go_wp2_with fail
  refine (turn_kill h).mono ?_
  rintro e w1 ⟨rfl, hH⟩
  go_wp2
  go_ret
  exact ⟨rfl, hH⟩
set_option maxRecDepth 100000 in
set_option maxHeartbeats 1000000 in
theorem remove_some {r : FR} (u : Nat) (h : DskR w p m rs room (u : Int) left false armed) (hu : rsUp rs) (hr : r ∈ rs) (hl : r.name.length ≤ maxLen) (hl2 : 0 ≤ left ∧ left ≤ 9223372036854775807) (ht : tE armed left = 0) (hru : r.dat.length ≤ u) (hu2 : u ≤ 9223372036854775807) :
    Calls Tryz.prog 110 #[.pointer (some ⟨p, 0, none⟩), .string (tx r.name)] w (RetDel w p m rs r.name room ((u - r.dat.length : Nat) : Int) (tL armed left) false armed (.int .i64 0)) := by
  obtain ⟨t1, t2⟩ := tE_done (dead := false) ht
  have hT := turn_zero h hl2
  rw [ht, t1, t2] at hT
  have HT := Lib.hid hT
  clear hT t1 t2 ht
  go_enter Tryz.func110, Tryz.ntmps110
  go_wp2_with fail
  refine (find_some h hr hl).mono ?_
  rintro e w' ⟨rfl, rfl⟩
  go_wp2_with fail
  refine HT.out.mono ?_
  clear HT
  rintro e w1 ⟨rfl, hH⟩
  have hD1 := h.turn hH.1 hH.2
  go_wp2_with fail
  refine (drop_some u hD1 hu hr hl hru hu2).mono ?_
  rintro e w2 ⟨rfl, hD2, hF2⟩
  have hfin : RetDel w p m rs r.name room ((u - r.dat.length : Nat) : Int) (tL armed left) false armed (.int .i64 0) (.returned (.int .i64 0)) w2 := by
    refine ⟨rfl, hD2, ?_⟩
    have f1 : Fr w w1 (allB p m rs) := hH.1.mono (fun b hb => .inl (by rw [List.mem_singleton] at hb; rw [hb]; exact mem_head))
    exact f1.trans hF2 (fun b hb => .inl hb)
  have HFIN := Lib.hid hfin
  clear hfin hD1 hD2 hF2 hH
  go_wp2
  go_ret
  exact HFIN.out

end
end Go.Proofs.YtlnpicfkcahdbaaGreat
namespace Go.Proofs.YtlnpicfkcahdbaaGreat
open Go Go.RowKit

end Go.Proofs.YtlnpicfkcahdbaaGreat
namespace Go.Proofs.YtlnpicfkcahdbaaGreat
open Go Go.RowKit

section
variable {G H : Nat → Prop} {w w' : World}
/-- 'Blocks of this kind are no bytes and no slices of bytes.' -/
def okB (ty : TypeId) : Prop := ty ≠ 5 ∧ ty ≠ 28
/-- 'Good bytes stand, and whatever is no row of bytes or of slices of bytes.' -/
def FrB (G : Nat → Prop) (w w' : World) : Prop := ∀ b us ty, Cl w b us ty → (ty = 5 ∧ G b) ∨ okB ty → Cl w' b us ty
theorem own_good {b n c : Nat} {A : Option Addr} {xs : List UInt8} (h : Own 5 w b A n c xs) (hf : FrB G w w') (hg : ∀ k, blk A = some k → G k) : Own 5 w' b A n c xs := by
  refine ⟨h.1, ?_⟩
  rcases h.2 with h1 | ⟨g, cap, cur, h1, h2, h3, h4⟩
  · exact .inl h1
  · injection h1 with e1 e2 e3
    exact .inr ⟨g, cap, cur, by rw [e1, e2, e3], h2, hf g cur _ h3 (.inl ⟨rfl, hg g (by rw [e1]; rfl)⟩), h4⟩
theorem EG.fr {e : En} {v0 v1 v2 v3 : Value} (h : EG G w e v0 v1 v2 v3) (hf : FrB G w w') : EG G w' e v0 v1 v2 v3 := by
  obtain ⟨⟨K, kn, kc, V, vn, vc, rfl, rfl, rfl, rfl, o1, o2, u⟩, hg⟩ := h
  exact ⟨⟨K, kn, kc, V, vn, vc, rfl, rfl, rfl, rfl, own_good o1 hf (fun k hk => hg K kn kc k (by simp) hk), own_good o2 hf (fun k hk => hg V vn vc k (by simp) hk), u⟩, hg⟩
theorem okB_node : okB 172 := ⟨by decide, by decide⟩
theorem okB_ent : okB 31 := ⟨by decide, by decide⟩
theorem TrAt.fr (hf : FrB G w w') : ∀ {t : Tr} {A : Option Addr}, TrAt G w t A → TrAt G w' t A
  | .nil, _, h => h
  | .node _ _ _, _, ⟨b, pe, pl, pr, h1, h2, ⟨v0, v1, v2, v3, h3, h4⟩, h5, h6⟩ => ⟨b, pe, pl, pr, h1, hf _ _ _ h2 (.inr okB_node), ⟨v0, v1, v2, v3, hf _ _ _ h3 (.inr okB_ent), h4.fr hf⟩, TrAt.fr hf h5, TrAt.fr hf h6⟩
theorem TB.fr {d : TypeId × List Value} {p : Nat} {t : Tr} (h : TB d G w p t) (hd : okB d.1) (hf : FrB G w w') : TB d G w' p t := by
  obtain ⟨A, h1, h2, h3⟩ := h
  exact ⟨A, hf _ _ _ h1 (.inr hd), TrAt.fr hf h2, h3⟩
end
end Go.Proofs.YtlnpicfkcahdbaaGreat
namespace Go.Proofs.YtlnpicfkcahdbaaGreat
open Go Go.RowKit

end Go.Proofs.YtlnpicfkcahdbaaGreat
namespace Go.Proofs.YtlnpicfkcahdbaaGreat
open Go Go.RowKit

theorem entB_sz {s : Nat} {x : En} (h0 : s ≤ x.key.length) (h1 : x.key.length ≤ 1024) (h2 : x.val.length ≤ 65536) (h3 : U64 x.seq) : (entB s x).length ≤ wE x + 41 := by
  have p1 := putU_len64 s (show s < B64 by unfold B64; omega)
  have p2 := putU_len64 (x.key.length - s) (show x.key.length - s < B64 by unfold B64; omega)
  have p3 := putU_len64 x.seq (show x.seq < B64 from h3)
  have p5 := putU_len64 x.val.length (show x.val.length < B64 by unfold B64; omega)
  unfold entB wE
  simp only [List.length_append, List.length_cons, List.length_nil, List.length_drop]
  omega
theorem szL_snoc2 {es : List En} {k : Nat} {x : En} (h : es[k]? = some x) : szL (es.take (k + 1)) = szL (es.take k) + wE x := by
  rw [List.take_add_one, h, szL_app]
  simp [szL]
theorem outB_sz {ev : Nat} {es : List En} (hz : ∀ x ∈ es, x.key.length ≤ 1024 ∧ x.val.length ≤ 65536) (hw : ∀ x ∈ es, U64 x.seq) : ∀ i, (outB ev es i).length ≤ szL (es.take i) + 41 * i
  | 0 => by simp [outB]
  | i + 1 => by
    have ih := outB_sz (ev := ev) hz hw i
    cases h : es[i]? with
    | none =>
      have : (outB ev es (i + 1)) = outB ev es i := by rw [outB, h]
      rw [this, List.take_add_one, h, szL_app]
      simp only [Option.toList, szL]
      omega
    | some x =>
      rw [outB_step h, szL_snoc2 h, List.length_append]
      have hx := List.mem_of_getElem? h
      have := entB_sz (shB_le (ev := ev) h) (hz x hx).1 (hz x hx).2 (hw x hx)
      omega
/-- What can't be built is large. -/
theorem build_big {ev : Nat} {es : List En} (hs : SortL es) (hok : ∀ x ∈ es, okE x = true) (hw : ∀ x ∈ es, U64 x.seq) (hl : es.length ≤ 40) (hb : buildE ev es = ([], 2)) : 900000 < szL es := by
  have h1 : es.any longE = false := by
    rw [List.any_eq_false]
    intro x hx
    rw [(okE_iff.1 (hok x hx)).1]
    simp
  have h2 : es.all formE = true := by
    rw [List.all_eq_true]
    intro x hx
    exact (okE_iff.1 (hok x hx)).2
  have h3 := ord_of_sort hs
  unfold buildE at hb
  rw [h1, h2, h3] at hb
  simp only [Bool.false_eq_true, if_false, Bool.and_self, if_true] at hb
  split at hb
  · rename_i hlt
    have h4 := outB_sz (ev := ev) (longE_no h1) hw es.length
    rw [List.take_length] at h4
    have h5 := rsB_len ev es es.length
    unfold fullB at hlt
    simp only [List.length_append, fourB_len] at hlt
    omega
  · injection hb with _ hb
    cases hb
/-- A table filled at once with what is in order. -/
theorem putZ_all {ss : List En} (hs : SortL ss) (hok : ∀ x ∈ ss, okE x = true) : ∃ t' : Tr, putZ .nil ss = (0, t') ∧ t'.list = ss := by
  have h3 := refIns_sort (p := []) (q := ss) hs
  obtain ⟨k1, k2⟩ := insAll_ref ss (t := .nil) sortL_nil
  cases hi : insAll .nil ss with
  | none =>
    have k3 := k2 hi
    rw [show Tr.nil.list = [] from rfl, h3] at k3
    cases k3
  | some t' =>
    obtain ⟨e1, _⟩ := k1 t' hi
    rw [show Tr.nil.list = [] from rfl, h3] at e1
    injection e1 with e1
    refine ⟨t', ?_, e1.symm⟩
    unfold putZ
    rw [if_pos (checkE_ok hok), hi]
theorem betw_all3 {t : Tr} (hs : SortL t.list) : betw [] [] t = t.list := by
  rw [betw_list [] [] hs, List.filter_eq_self]
  intro x _
  unfold inR
  have h : 0 ≤ cmpB x.key [] := by cases x.key <;> simp [cmpB]
  simp [h]
def zeE3 : En := ⟨[], 0, 0, []⟩
/-- What Get hands back, in one form. -/
theorem RetGt.one {w : World} {o : Option En} {e : Ending} {w' : World} (h : RetGt w o e w') (hw : ∀ x, o = some x → U64 x.seq ∧ x.kind < 256) : ∃ K kn kc V vn vc, e = .returned (.tuple #[.agg #[.slice K kn kc, .int .u64 ((o.getD zeE3).seq : Int), .int .u8 ((o.getD zeE3).kind : Int), .slice V vn vc], .bool o.isSome]) ∧
    EO w.heap.size w' (o.getD zeE3) (.slice K kn kc) (.int .u64 ((o.getD zeE3).seq : Int)) (.int .u8 ((o.getD zeE3).kind : Int)) (.slice V vn vc) ∧ Below w.heap.size w w' := by
  rcases h with ⟨rfl, rfl, h⟩ | ⟨x, K, kn, kc, V, vn, vc, rfl, rfl, o1, o2, h, dj⟩
  · exact ⟨none, 0, 0, none, 0, 0, rfl, ⟨none, 0, 0, none, 0, 0, rfl, rfl, rfl, rfl, Own.nil _ _ _, Own.nil _ _ _, by unfold U64; simp [zeE3], by simp [zeE3]⟩, h⟩
  · exact ⟨K, kn, kc, V, vn, vc, rfl, ⟨K, kn, kc, V, vn, vc, rfl, rfl, rfl, rfl, o1, o2, hw x rfl⟩, h⟩
set_option maxRecDepth 100000 in
set_option maxHeartbeats 4000000 in
theorem few15_any {A : Option Addr} {n c : Nat} {m : Nat} (hc : n ≤ c) (w : World) : Calls Tryz.prog 7 #[.slice A n c, .int .i64 (m : Int)] w (fun e w' => e = .returned (.slice A (min n m) c) ∧ w' = w) := by
  by_cases h : m < n
  · have hm : min n m = m := by omega
    have hcl : ∀ w, (Instr.slice 22 (.slice A n c) none (some (.int .i64 (m : Int))) none).run Tryz.prog w = .ok (.slice A m c) w := fun w => cut4_h Tryz.underlying22 elem4 size4 A (by omega) w
    rw [hm]
    clear hm
    go_enter Tryz.func7, Tryz.ntmps7
    go_wp2_with fail
    go_ret
    exact ⟨rfl, rfl⟩
  · have hm : min n m = n := by omega
    rw [hm]
    clear hm
    go_enter Tryz.func7, Tryz.ntmps7
    go_wp2_with fail
    go_ret
    exact ⟨rfl, rfl⟩
end Go.Proofs.YtlnpicfkcahdbaaGreat
namespace Go.Proofs.YtlnpicfkcahdbaaGreat
open Go Go.RowKit Go.Maps

/-- How many bytes the file of this name has. -/
def lenR (x : List UInt8) (rs : List FR) : Nat := ((rs.filter fun q => q.name == x).map fun q => q.dat.length).sum
theorem lenR_none {x : List UInt8} {rs : List FR} (h : ∀ r ∈ rs, r.name ≠ x) : lenR x rs = 0 ∧ delR x rs = rs := by
  constructor
  · unfold lenR
    rw [List.filter_eq_nil_iff.2 (fun q hq => by simpa using h q hq)]
    rfl
  · unfold delR
    rw [List.filter_eq_self]
    intro q hq
    simpa using h q hq
theorem lenR_some {r : FR} : ∀ {rs : List FR}, rsUp rs → r ∈ rs → lenR r.name rs = r.dat.length
  | [], _, h => by cases h
  | a :: t, hu, h => by
    unfold rsUp at hu
    rw [List.pairwise_cons] at hu
    rcases List.mem_cons.1 h with rfl | h2
    · have e := (lenR_none (x := r.name) (rs := t) (fun q hq e => nlt_ne (hu.1 q hq) e.symm)).1
      unfold lenR at e ⊢
      rw [List.filter_cons_of_pos (by simp), List.map_cons, List.sum_cons, e]
      rfl
    · have hne := nlt_ne (hu.1 r h2)
      have e := lenR_some hu.2 h2
      unfold lenR at e ⊢
      rw [List.filter_cons_of_neg (by simpa using hne)]
      exact e

section
variable {w : World} {p : Nat} {m : Option Nat} {rs : List FR} {room used left : Int} {dead armed : Bool}
theorem drop_any (x : List UInt8) (u : Nat) (h : DskR w p m rs room (u : Int) left dead armed) (hu : rsUp rs) (hl : x.length ≤ maxLen) (hru : lenR x rs ≤ u) (hu2 : u ≤ 9223372036854775807) :
    Calls Tryz.prog 154 #[.pointer (some ⟨p, 0, none⟩), .string (tx x)] w (RetDel w p m rs x room ((u - lenR x rs : Nat) : Int) left dead armed (.tuple #[])) := by
  by_cases hex : ∃ r ∈ rs, r.name = x
  · obtain ⟨r, hr, rfl⟩ := hex
    rw [lenR_some hu hr] at hru ⊢
    exact drop_some u h hu hr hl hru hu2
  · have hno : ∀ r ∈ rs, r.name ≠ x := fun r hr e => hex ⟨r, hr, e⟩
    obtain ⟨e1, e2⟩ := lenR_none hno
    refine (drop_none x h hno hl).mono ?_
    rintro e w' ⟨rfl, rfl⟩
    refine ⟨rfl, ?_, Fr.refl _ _⟩
    rw [e1, e2, Nat.sub_zero]
    exact h

/-- 'The disk with the file under its new name.' -/
def RetRen (w : World) (p : Nat) (m : Option Nat) (rs rs2 : List FR) (x : List UInt8) (dat : List UInt8) (saf : Nat) (room used left : Int) (dead armed : Bool) (v : Value) (e : Ending) (w' : World) : Prop :=
  e = .returned v ∧ ∃ (r' : FR) (m' : Option Nat), r'.name = x ∧ r'.dat = dat ∧ r'.saf = saf ∧ DskR w' p m' (putR r' rs2) room used left dead armed ∧ Fr w w' (allB p m rs) ∧ ∀ b ∈ allB p m' (putR r' rs2), b ∈ allB p m rs ∨ w.heap.size ≤ b
theorem rename_dead (x y : List UInt8) (h : DskR w p m rs room used left true armed) :
    Calls Tryz.prog 113 #[.pointer (some ⟨p, 0, none⟩), .string (tx x), .string (tx y)] w (RetNo w 9) := by
  go_enter Tryz.func113, Tryz.ntmps113
  go_wp2_with fail
  refine (find_dead x h).mono ?_
  rintro e w' ⟨rfl, rfl⟩
  go_wp2_with fail
  refine (turn_err (p := p) (w := w) (e := 9) (by decide)).mono ?_
  rintro e w' ⟨rfl, rfl⟩
  go_wp2
  go_ret
  exact ⟨rfl, rfl⟩
theorem rename_none (x y : List UInt8) (h : DskR w p m rs room used left false armed) (hx : ∀ r ∈ rs, r.name ≠ x) (hl : x.length ≤ maxLen) :
    Calls Tryz.prog 113 #[.pointer (some ⟨p, 0, none⟩), .string (tx x), .string (tx y)] w (RetNo w 6) := by
  go_enter Tryz.func113, Tryz.ntmps113
  go_wp2_with fail
  refine (find_none x h hx hl).mono ?_
  rintro e w' ⟨rfl, rfl⟩
  go_wp2_with fail
  refine (turn_err (p := p) (w := w) (e := 6) (by decide)).mono ?_
  rintro e w' ⟨rfl, rfl⟩
  go_wp2
  go_ret
  exact ⟨rfl, rfl⟩
theorem rename_kill {r : FR} (y : List UInt8) (h : DskR w p m rs room used 0 false true) (hr : r ∈ rs) (hl : r.name.length ≤ maxLen) :
    Calls Tryz.prog 113 #[.pointer (some ⟨p, 0, none⟩), .string (tx r.name), .string (tx y)] w (RetHd w p (headV m room used 0 true false) (.int .i64 9)) := by
  go_enter Tryz.func113, Tryz.ntmps113
  go_wp2_with fail
  refine (find_some h hr hl).mono ?_
  rintro e w' ⟨rfl, rfl⟩
  go_wp2_with fail
  refine (turn_kill h).mono ?_
  rintro e w1 ⟨rfl, hH⟩
  go_wp2
  go_ret
  exact ⟨rfl, hH⟩
theorem txl (a : List UInt8) : (tx a).toList = a := by rw [ByteArray.toList_eq, tx_list]
theorem tx_ne {a b : List UInt8} (h : a ≠ b) : ((tx a).toList == (tx b).toList) = false := by
  rw [txl, txl, beq_eq_false_iff_ne]
  exact h
set_option maxRecDepth 100000 in
set_option maxHeartbeats 1000000 in
theorem rename_same {r : FR} (h : DskR w p m rs room used left false armed) (hr : r ∈ rs) (hl : r.name.length ≤ maxLen) (hl2 : 0 ≤ left ∧ left ≤ 9223372036854775807) (ht : tE armed left = 0) :
    Calls Tryz.prog 113 #[.pointer (some ⟨p, 0, none⟩), .string (tx r.name), .string (tx r.name)] w (RetHd w p (headV m room used (tL armed left) false armed) (.int .i64 0)) := by
  obtain ⟨t1, t2⟩ := tE_done (dead := false) ht
  have hT := turn_zero h hl2
  rw [ht, t1, t2] at hT
  have HT := Lib.hid hT
  clear hT t1 t2 ht
  go_enter Tryz.func113, Tryz.ntmps113
  go_wp2_with fail
  refine (find_some h hr hl).mono ?_
  rintro e w' ⟨rfl, rfl⟩
  go_wp2_with fail
  refine HT.out.mono ?_
  clear HT
  rintro e w1 ⟨rfl, hH⟩
  go_wp2
  go_ret
  exact ⟨rfl, hH⟩
set_option maxRecDepth 100000 in
set_option maxHeartbeats 2000000 in
theorem rename_some {r : FR} (y : List UInt8) (u : Nat) (h : DskR w p m rs room (u : Int) left false armed) (hu : rsUp rs) (hr : r ∈ rs) (hl : r.name.length ≤ 1099511627776) (hly : y.length ≤ 1099511627776) (hl2 : 0 ≤ left ∧ left ≤ 9223372036854775807) (ht : tE armed left = 0) (hne : r.name ≠ y)
    (hru : lenR y rs ≤ u) (hu2 : u ≤ 9223372036854775807) (hrs : rs.length ≤ 1099511627776) :
    Calls Tryz.prog 113 #[.pointer (some ⟨p, 0, none⟩), .string (tx r.name), .string (tx y)] w
      (RetRen w p m rs (delR r.name (delR y rs)) y r.dat r.saf room ((u - lenR y rs : Nat) : Int) (tL armed left) false armed (.int .i64 0)) := by
  obtain ⟨t1, t2⟩ := tE_done (dead := false) ht
  have hT := turn_zero h hl2
  rw [ht, t1, t2] at hT
  have HT := Lib.hid hT
  clear hT t1 t2 ht
  go_enter Tryz.func113, Tryz.ntmps113
  go_wp2_with fail
  refine (find_some h hr (by unfold maxLen; omega)).mono ?_
  rintro e w' ⟨rfl, rfl⟩
  go_wp2_with fail
  refine HT.out.mono ?_
  clear HT
  rintro e w1 ⟨rfl, hH⟩
  have hD1 := h.turn hH.1 hH.2
  have hcmp := tx_ne hne
  have HNE := Lib.hid hne
  clear hne
  have f1 : Fr w w1 (allB p m rs) := hH.1.mono (fun b hb => .inl (by rw [List.mem_singleton] at hb; rw [hb]; exact mem_head))
  clear h hH
  go_wp2_with fail
  refine (drop_any y u hD1 hu (by unfold maxLen; omega) hru hu2).mono ?_
  rintro e w2 ⟨rfl, hD2, hF2⟩
  have hu2' := delR_up (x := y) hu
  have hr2 : r ∈ delR y rs := mem_delR.2 ⟨hr, HNE.out⟩
  have f2 : Fr w w2 (allB p m rs) := f1.trans hF2 (fun b hb => .inl hb)
  have hkey := keyN (x := r.name) (by unfold maxLen; omega)
  have hln : (delR y rs).length ≤ rs.length := List.length_filter_le _ _
  clear hD1 hF2 f1 hcmp
  obtain ⟨rs2, hrs2⟩ : ∃ rs2, rs2 = delR y rs := ⟨_, rfl⟩
  have hmr : ∀ b ∈ allB p m rs2, b ∈ allB p m rs := fun b hb => by rw [hrs2] at hb; exact mem_delB hb
  have hny : ∀ q ∈ rs2, q.name ≠ y := fun q hq => by rw [hrs2] at hq; exact (mem_delR.1 hq).2
  rw [← hrs2] at hD2 hu2' hr2 hln ⊢
  have HRS2 := Lib.hid hrs2
  have HMR := Lib.hid hmr
  have HNY := Lib.hid hny
  clear hrs2 hmr hny
  have hM := hD2.2.1
  rcases hM with ⟨_, hM⟩ | ⟨b, Dm, rfl, ho, hm⟩
  · rw [hM] at hr2; cases hr2
  obtain ⟨c0, _⟩ := hD2.head
  go_wp2_with (at_delete; refine wpList_delete_own _ rfl _ _ 106 9 rfl 115 lawN Tryz.underlying106 _ b rs2.length Dm rfl ho _ _ rfl hkey ?_)
  intro w3 ho3 hturn
  have hD3 := hD2.del hu2' hr2 ho3 hm (ho.tidy lawN) hturn.grown
  have hfb3 : Fr w2 w3 [b] := Fr.of_grown hturn.grown (fun c hc => by injection hc with hc; rw [hc]; exact List.mem_singleton.2 rfl)
  have f3 : Fr w w3 (allB p (some b) rs) := f2.trans hfb3 (fun c hc => .inl (by rw [List.mem_singleton] at hc; rw [hc]; exact mem_map rfl))
  have hsep := hD2.2.2.2
  have hfa3 : FileAt w3 r := (hD2.2.2.1 r hr2).fr hfb3 (fun c hc hmem => (hsep.1 r hr2).2.1 b rfl (by rw [List.mem_singleton] at hmem; rw [← hmem]; exact hc))
  have hu3 := delR_up (x := r.name) hu2'
  obtain ⟨r', hr'⟩ : ∃ r' : FR, r' = { r with name := y } := ⟨_, rfl⟩
  have hat : FileAt w3 r' := by rw [hr']; exact hfa3
  have hfr : ∀ c ∈ r'.bl, c ∉ allB p (some b) (delR r.name rs2) := fun c hc hmem => by
    have hc : c ∈ r.bl := by rw [hr'] at hc; exact hc
    simp only [allB, List.mem_cons, List.mem_append, List.mem_flatMap, Option.mem_toList] at hmem
    rcases hmem with rfl | hmem | ⟨q, hq, hmem⟩
    · exact (hsep.1 r hr2).1 hc
    · exact (hsep.1 r hr2).2.1 c hmem hc
    · obtain ⟨hq1, hq2⟩ := mem_delR.1 hq
      exact sp_of hsep.2.2 hu2' hr2 hq1 (fun e => hq2 e.symm) c hc hmem
  have hne' : blk r'.A ≠ some r'.fb := by rw [hr']; exact (hsep.1 r hr2).2.2
  have hl3 : (delR r.name rs2).length ≤ 1099511627776 := Nat.le_trans (List.length_filter_le _ _) (by omega)
  have hP := put_any r' hD3 (fun q hq => by rw [hr']; exact HNY.out q (mem_delR.1 hq).1) (by rw [hr']; exact hly) hl3
  have hn' : r'.name = y := by rw [hr']
  have hf' : r'.fb = r.fb := by rw [hr']
  rw [hn', hf'] at hP
  have HP := Lib.hid hP
  have HV := Lib.hid (show r'.name = y ∧ r'.dat = r.dat ∧ r'.saf = r.saf from by rw [hr']; exact ⟨rfl, rfl, rfl⟩)
  have HAT := Lib.hid hat
  have HFR := Lib.hid hfr
  have HNE' := Lib.hid hne'
  have HD3 := Lib.hid hD3
  have HF3 := Lib.hid f3
  have HBL : Hid (∀ c ∈ r'.bl, c ∈ allB p (some b) rs) := Lib.hid (fun c hc => HMR.out c (mem_file hr2 (by rw [hr'] at hc; exact hc)))
  clear hP hat hfr hne' hD3 f3 hr' hn' hf' ho3 hturn ho hm hsep hfa3 hfb3 f2 hD2 hkey
  go_wp2_with fail
  refine HP.out.mono ?_
  clear HP
  rintro e w4 hret
  obtain ⟨he, hret2⟩ := hret
  subst he
  obtain ⟨mb, hD4, hF4, hmb⟩ := HD3.out.put hu3 ⟨rfl, hret2⟩ HAT.out HFR.out HNE'.out
  have hF : Fr w w4 (allB p (some b) rs) := HF3.out.trans hF4 (fun c hc => .inl (by
    simp only [List.mem_cons, Option.mem_toList, allB, List.mem_append] at hc ⊢
    rcases hc with hc | hc
    · exact .inl hc
    · exact .inr (.inl hc)))
  have hB : ∀ c ∈ allB p (some mb) (putR r' (delR r.name rs2)), c ∈ allB p (some b) rs ∨ w.heap.size ≤ c := fun c hc => by
    simp only [allB, List.mem_cons, List.mem_append, List.mem_flatMap, Option.mem_toList] at hc
    rcases hc with rfl | hc | ⟨q, hq, hc⟩
    · exact .inl mem_head
    · cases hc
      rcases hmb with h1 | h1
      · injection h1 with h1; exact .inl (by rw [← h1]; exact mem_map rfl)
      · exact .inr (Nat.le_trans HF3.out.size h1)
    · rcases putR_sub2 hu3 q hq with rfl | ⟨hq, _⟩
      · exact .inl (HBL.out c hc)
      · exact .inl (HMR.out c (mem_file (mem_delR.1 hq).1 hc))
  have HF := Lib.hid hF
  have HB := Lib.hid hB
  have HD4 := Lib.hid hD4
  clear hret2 hF4 hmb hF hB hD4
  go_wp2
  go_ret
  rw [← HRS2.out]
  exact ⟨rfl, r', some mb, HV.out.1, HV.out.2.1, HV.out.2.2, HD4.out, HF.out, HB.out⟩
end
end Go.Proofs.YtlnpicfkcahdbaaGreat
namespace Go.Proofs.YtlnpicfkcahdbaaGreat
open Go Go.RowKit

end Go.Proofs.YtlnpicfkcahdbaaGreat
namespace Go.Proofs.YtlnpicfkcahdbaaGreat
open Go Go.RowKit

end Go.Proofs.YtlnpicfkcahdbaaGreat
namespace Go.Proofs.YtlnpicfkcahdbaaGreat
open Go Go.RowKit

end Go.Proofs.YtlnpicfkcahdbaaGreat
namespace Go.Proofs.YtlnpicfkcahdbaaGreat
open Go Go.RowKit Go.Maps Go.Proofs

def nmR (pre : List UInt8) (rs : List FR) : List (List UInt8) := (rs.map FR.name).filter fun x => Lib.hasPrefix x pre
theorem nmR_up {pre : List UInt8} {rs : List FR} (h : rsUp rs) : (nmR pre rs).Pairwise fun a b => a < b := by
  unfold nmR
  refine List.Pairwise.filter _ ?_
  rw [List.pairwise_map]
  exact h
theorem nmR_sort {pre : List UInt8} {rs : List FR} {zs : List (List UInt8)} (h : rsUp rs) (hn : zs.Nodup) (hm : ∀ x, x ∈ zs ↔ x ∈ nmR pre rs) : zs.mergeSort (fun x y => decide (x ≤ y)) = nmR pre rs := by
  have hu := nmR_up (pre := pre) h
  have hp : List.Perm (zs.mergeSort (fun x y => decide (x ≤ y))) (nmR pre rs) :=
    (List.mergeSort_perm zs _).trans ((List.perm_ext_iff_of_nodup hn (hu.imp fun h => nlt_ne h)).2 hm)
  refine List.Perm.eq_of_pairwise (le := fun a b => a ≤ b) (fun a b _ _ h1 h2 => List.le_antisymm h1 h2) ?_ (hu.imp fun h => List.le_of_lt h) hp
  have := List.pairwise_mergeSort (le := fun x y : List UInt8 => decide (x ≤ y)) (fun a b c h1 h2 => by simp only [decide_eq_true_eq] at *; exact List.le_trans h1 h2) (fun a b => by simpa using List.le_total a b) zs
  exact this.imp (fun h => by simpa using h)

/-- 'It hands back a row of these names, new.' -/
def RetNm (w : World) (ns : List (List UInt8)) (e : Ending) (w' : World) : Prop :=
  ∃ A n c, e = .returned (.slice A n c) ∧ OwnV 9 w' w.heap.size A n c (ns.map encStr) ∧ Below w.heap.size w w'
theorem info_str : (Tryz.prog.info? 9).map (fun i => (i.zero, i.size, i.bytes)) = some (some (.string ⟨#[]⟩), 1, 16) := by kernel_rfl

section
variable {w : World} {p : Nat} {m : Option Nat} {rs : List FR} {room used left : Int} {dead armed : Bool}
set_option maxRecDepth 100000 in
set_option maxHeartbeats 4000000 in
theorem names_some {b : Nat} (pre : List UInt8) (h : DskR w p (some b) rs room used left dead armed) (hu : rsUp rs) (hrs : rs.length ≤ 1099511627776) (hnl : ∀ r ∈ rs, r.name.length ≤ 1099511627776) :
    Calls Tryz.prog 50 #[.pointer (some ⟨p, 0, none⟩), .string (tx pre)] w (RetNm w (nmR pre rs)) := by
  obtain ⟨c0, _⟩ := h.head
  obtain ⟨Dm, ho, hm⟩ : ∃ Dm, w.ownsMap Tryz.prog 9 ptrEl b rs.length Dm ∧ MR Dm rs := by
    rcases h.2.1 with ⟨h1, _⟩ | ⟨b', Dm, h1, h2, h3⟩
    · cases h1
    · injection h1 with h1
      subst h1
      exact ⟨Dm, h2, h3⟩
  have HM := Lib.hid hm
  have HNL := Lib.hid hnl
  have hbl := ho.lt
  clear hm hnl h
  go_enter Tryz.func50, Tryz.ntmps50
  go_wp2_with (at_range; refine wpList_range_own _ rfl _ 106 rfl 9 115 lawN Tryz.underlying106 _ b rs.length Dm rfl ho ?_)
  intro w1 hrg0 hg0 hs1
  have HR := Lib.hid hrg0
  have hs1' : w.heap.size < w1.heap.size := by omega
  clear hs1
  have hb1 : Below w.heap.size w w1 := (Below.refl _ _).grown hg0 (Nat.le_refl _) (fun k hk => by cases hk)
  clear hrg0 hg0 ho
  go_wp2
  go_loopw [5] (fun v wr => ∃ (A : Option Addr) (n c : Nat) (zs : List (List UInt8)) (lf : Lit → Bool) (cnt : Nat), v = .slice A n c ∧ OwnV 9 wr w1.heap.size A n c (zs.map encStr) ∧ zs.Nodup ∧ (∀ x, x ∈ zs ↔ x ∈ nmR pre rs ∧ lf (.string x) = false) ∧ n ≤ rs.length ∧ wr.ranges Tryz.prog 9 ptrEl b w.heap.size rs.length Dm lf cnt ∧ Below w.heap.size w wr ∧ w1.heap.size ≤ wr.heap.size) (fun _ wr => wr.rangeLeft b w.heap.size)
  case atStart =>
    refine ⟨none, 0, 0, [], _, _, rfl, OwnV.nil _ _ _, List.nodup_nil, fun x => ?_, Nat.zero_le _, HR.out, hb1, Nat.le_refl _⟩
    constructor
    · intro h; cases h
    · rintro ⟨h1, h2⟩
      unfold nmR at h1
      rw [List.mem_filter, List.mem_map] at h1
      obtain ⟨⟨r, hr, rfl⟩, _⟩ := h1
      rw [HM.out.2.1] at h2
      rw [List.any_eq_false] at h2
      exact absurd (h2 r hr) (by simp)
  case round =>
    clear HR hb1
    obtain ⟨A, n, c, zs, lf, cnt, rfl, hA, hnd, hzs, hnr, hrg, hbw, hsz⟩ := hrel
    have HZ := Lib.hid hzs
    have HND := Lib.hid hnd
    clear hzs hnd
    go_wp2_with (at_next; refine wpList_next_ranges _ rfl _ rfl 9 lawN ptrEl Value.string (fun q : Option Nat => Value.pointer (q.map fun b => ⟨b, 0, none⟩)) keyN_inv ptrEl_inv b w.heap.size rs.length Dm lf cnt rfl hrg ?_ ?_)
    · intro _ hl0
      have hall : ∀ x, x ∈ zs ↔ x ∈ nmR pre rs := fun x => by rw [HZ.out x, hl0]; simp
      have HS := Lib.hid (nmR_sort hu HND.out hall)
      clear hl0 hrg HZ hall
      have hln : zs.length = n := by have := hA.len; simpa using this
      rcases hA.2 with ⟨hnil, hn0⟩ | ⟨g, cap, cur, hsl, hbase, hblk, hc1, hc2, hc3, hc4⟩
      · injection hnil with hnil1 hnil2 hnil3
        subst hnil1 hnil3 hn0
        have hz0 : zs = [] := List.eq_nil_of_length_eq_zero hln
        subst hz0
        go_wp2_with fail
        refine (lib_slices_Sort_string_none none 0 _).mono ?_
        rintro e w' ⟨rfl, rfl⟩
        go_wp2
        go_ret
        refine ⟨none, 0, 0, rfl, ?_, hbw⟩
        rw [← HS.out, List.mergeSort_nil]
        exact OwnV.nil _ _ _
      · injection hsl with hsl1 _ hsl3
        subst hsl1 hsl3 hln
        have hgl := (Array.getElem?_eq_some_iff.1 hblk).1
        rw [Nat.mul_one] at hc4
        have hzl : zs.length < 4611686018427387904 := by omega
        have hfin : ∀ nd os, RetNm w (nmR pre rs) (.returned (.slice (some ⟨g, 0, none⟩) zs.length c)) (Go.Sort.grow (Go.Sort.putRow encStr (Sort.ahead wr nd) g 0 (zs.mergeSort fun x y => decide (x ≤ y)).toArray) os) := fun nd os => by
          refine ⟨some ⟨g, 0, none⟩, zs.length, c, rfl, ?_, hbw.grown (grownBy_sorted _) hbw.size (fun k hk => by injection hk with hk; omega)⟩
          rw [← HS.out]
          exact ownsRow_sorted (ss := zs) (List.length_mergeSort _) (by omega) hblk hc1 hc2 hc3
        have HF := Lib.hid hfin
        have hH := holds_of_block (ss := zs) hblk hc4
        have HH := Lib.hid hH
        clear hfin hH hc4 hblk hA HS
        go_wp2_with fail
        refine (lib_slices_Sort_string g 0 c zs _ HH.out hgl hzl).mono ?_
        rintro e w' ⟨rfl, nd, os, hw'⟩
        have hfin := HF.out nd os
        rw [← hw'] at hfin
        have HFIN := Lib.hid hfin
        clear hfin hw'
        go_wp2
        go_ret
        exact HFIN.out
    · intro x q kl y yp w4 cnt' hkey hlk hv hat hrg1 hlt hg1 hs4 hen
      obtain ⟨S, hS1, hS2, hS3⟩ := WideMaps.string_of_keyOf Tryz.underlying9 hkey
      injection hS1 with hS1
      subst hS1 hS2
      obtain ⟨X, rfl⟩ : ∃ X, x = tx X := ⟨x.data.toList, (tx_of x).symm⟩
      rw [tx_list] at hlk hrg1 hat
      have hhas : has Dm (.string X) = true := has_true_of_atKey hat
      rw [HM.out.2.1, List.any_eq_true] at hhas
      obtain ⟨r, hr, hrX⟩ := hhas
      have hrX : r.name = X := by simpa using hrX
      have hXl : X.length ≤ 1099511627776 := by rw [← hrX]; exact HNL.out r hr
      have hXm : X ∈ rs.map FR.name := List.mem_map.2 ⟨r, hr, hrX⟩
      have hXz : X ∉ zs := fun h => by rw [(HZ.out X).1 h |>.2] at hlk; cases hlk
      have hb4 : Below w.heap.size w w4 := hbw.grown hg1 hbw.size (fun k hk => by injection hk with hk; omega)
      have hA4 : OwnV 9 w4 w1.heap.size A n c (zs.map encStr) := hA.kept hg1 (fun b' hb' e => by injection e with e; have := (hA.lt b' hb').1; omega)
      have hmeas := hrg1.left_eq
      have hmeas0 := hrg.left_eq
      have hsame : ∀ z : List UInt8, (Lit.string z).sameKey (.string X) = (z == X) := fun z => by simp [Lit.sameKey]
      have hleft' : ∀ z : List UInt8, ((fun k => lf k && !k.sameKey (.string X)) (.string z) = false) ↔ (lf (.string z) = false ∨ z = X) := fun z => by
        show (lf (.string z) && !(Lit.string z).sameKey (.string X)) = false ↔ _
        rw [hsame, Bool.and_eq_false_iff]
        simp
      have hsiz : (tx X).size ≤ 281474976710656 := by rw [tx_size]; omega
      have HLT : Hid (cnt' < cnt) := Lib.hid hlt
      have HRG := Lib.hid hrg1
      have HM0 := Lib.hid hmeas0
      cases hpf : Lib.hasPrefix X pre with
      | false =>
        have hC : Hid (∀ W, Calls Tryz.prog 114 #[.string (tx X), .string (tx pre)] W fun e w' => e = .returned (.bool false) ∧ w' = W) := Lib.hid (fun W => by
          have h := lib_strings_HasPrefix (tx X) (tx pre) W
          rw [tx_list, tx_list, hpf] at h
          exact h)
        have hzs' : ∀ z, z ∈ zs ↔ z ∈ nmR pre rs ∧ (fun k => lf k && !k.sameKey (.string X)) (.string z) = false := fun z => by
          rw [hleft' z, HZ.out z]
          constructor
          · rintro ⟨h1, h2⟩; exact ⟨h1, .inl h2⟩
          · rintro ⟨h1, h2⟩
            refine ⟨h1, ?_⟩
            rcases h2 with h2 | rfl
            · exact h2
            · unfold nmR at h1
              rw [List.mem_filter, hpf] at h1
              exact absurd h1.2 (by decide)
        have HZ' := Lib.hid hzs'
        have HA4 := Lib.hid hA4
        have HB4 := Lib.hid hb4
        have HSZ4 : Hid (w1.heap.size ≤ w4.heap.size) := Lib.hid (by omega)
        clear hzs' hleft' hsame hA hA4 hb4 hrg hrg1 hg1 hat hv hkey hlk hmeas0 hXm hXz hpf HZ
        go_wp2_with fail
        refine (hC.out _).mono ?_
        rintro e w' ⟨rfl, rfl⟩
        go_wp2
        go_roundw
        case rel => exact ⟨A, n, c, zs, _, cnt', rfl, HA4.out, HND.out, HZ'.out, hnr, HRG.out, HB4.out, HSZ4.out⟩
        case measure => rw [hmeas, HM0.out]; exact HLT.out
      | true =>
        have hC : Hid (∀ W, Calls Tryz.prog 114 #[.string (tx X), .string (tx pre)] W fun e w' => e = .returned (.bool true) ∧ w' = W) := Lib.hid (fun W => by
          have h := lib_strings_HasPrefix (tx X) (tx pre) W
          rw [tx_list, tx_list, hpf] at h
          exact h)
        have hzs' : ∀ z, z ∈ zs ++ [X] ↔ z ∈ nmR pre rs ∧ (fun k => lf k && !k.sameKey (.string X)) (.string z) = false := fun z => by
          rw [hleft' z, List.mem_append, List.mem_singleton, HZ.out z]
          constructor
          · rintro (⟨h1, h2⟩ | rfl)
            · exact ⟨h1, .inl h2⟩
            · refine ⟨?_, .inr rfl⟩
              unfold nmR
              rw [List.mem_filter]
              exact ⟨hXm, hpf⟩
          · rintro ⟨h1, h2⟩
            rcases h2 with h2 | rfl
            · exact .inl ⟨h1, h2⟩
            · exact .inr rfl
        have hnd' : (zs ++ [X]).Nodup := by
          rw [List.nodup_append]
          exact ⟨HND.out, by simp, fun a ha b hb e => by rw [List.mem_singleton] at hb; rw [e, hb] at ha; exact hXz ha⟩
        have hlen' : n + 1 ≤ rs.length := by
          have h1 : (zs ++ [X]).length ≤ (nmR pre rs).length := List.Nodup.length_le_of_subset hnd' (fun z hz => ((hzs' z).1 hz).1)
          have h2 : (nmR pre rs).length ≤ rs.length := by
            unfold nmR
            exact Nat.le_trans (List.length_filter_le _ _) (by simp)
          have h3 : zs.length = n := by have := hA.len; simpa using this
          rw [List.length_append] at h1
          simp only [List.length_cons, List.length_nil] at h1
          omega
        have HZ' := Lib.hid hzs'
        have HND' := Lib.hid hnd'
        clear hzs' hnd' hleft' hsame hA hrg hrg1 hat hv hkey hlk hmeas0 hXm hXz hpf HZ HND hg1
        go_wp2_with fail
        refine (hC.out _).mono ?_
        rintro e w' ⟨rfl, rfl⟩
        go_wp2_with fail
        refine (Dclone _ _ hsiz).mono ?_
        rintro e w5 ⟨rfl, hb5⟩
        have hs5 := hb5.size
        have hG := hA4.below hb5
        go_wp2_with (at_builtin; refine wpList_app1 w5 rfl _ _ 50 rfl w1.heap.size 9 _ _ Tryz.underlying50 info_str rfl A n c (zs.map encStr) rfl hG (.string (tx X)) rfl w5.heap.size rfl rfl ?_ ?_ ?_ ?_)
        · unfold maxLen; omega
        · omega
        · omega
        intro A' c' w6 hA6 hg6 hk6
        have hrg6 := ((HRG.out.kept (w' := w5) (row := none) ⟨hb5.os, hb5.tape, hb5.output, hb5.size, fun k hk _ => hb5.block k hk⟩ (by simp) (by simp)).kept hg6 (fun e => by have := (hG.lt b e.symm).1; omega) (fun e => by have := (hG.lt _ e.symm).1; omega))
        have hb6 : Below w.heap.size w w6 := (hb4.trans (hb5.mono hb4.size)).grown hg6 (by have := hb4.size; omega) (fun k hk => by have := (hG.lt k hk).1; omega)
        have HA6 : Hid (OwnV 9 w6 w1.heap.size A' (n + 1) c' ((zs ++ [X]).map encStr)) := Lib.hid (by rw [List.map_append]; exact hA6)
        have HRG6 := Lib.hid hrg6
        have HB6 := Lib.hid hb6
        have hmeas6 := hrg6.left_eq
        have HSZ6 : Hid (w1.heap.size ≤ w6.heap.size) := Lib.hid (by have := hg6.size; omega)
        clear hA6 hg6 hk6 hG hb5 hrg6 hb6 hA4 hb4
        go_wp2
        go_roundw
        case rel => exact ⟨A', n + 1, c', zs ++ [X], _, cnt', rfl, HA6.out, HND'.out, HZ'.out, hlen', HRG6.out, HB6.out, HSZ6.out⟩
        case measure => rw [hmeas6, HM0.out]; exact HLT.out
set_option maxRecDepth 100000 in
set_option maxHeartbeats 2000000 in
theorem names_nil (pre : List UInt8) (h : DskR w p none rs room used left dead armed) :
    Calls Tryz.prog 50 #[.pointer (some ⟨p, 0, none⟩), .string (tx pre)] w (RetNm w (nmR pre rs)) := by
  obtain ⟨c0, _⟩ := h.head
  have hrs : rs = [] := by
    rcases h.2.1 with ⟨_, h2⟩ | ⟨b', Dm, h1, _⟩
    · exact h2
    · cases h1
  subst hrs
  have hrn := fun w => run_range_nilMap (P := Tryz.prog) w 106 9 115 Tryz.underlying106
  have hnx := fun w ty => run_next_nilMap (P := Tryz.prog) w ty 0 0 #[]
  go_enter Tryz.func50, Tryz.ntmps50
  go_wp2
  go_loopw [5] (fun v wr => v = .slice none 0 0 ∧ wr = w.alloc (.mapIter none 0 #[] 0)) (fun _ _ => 0)
  case atStart => exact ⟨rfl, rfl⟩
  case round =>
    obtain ⟨rfl, rfl⟩ := hrel
    go_wp2_with fail
    refine (lib_slices_Sort_string_none none 0 _).mono ?_
    rintro e w' ⟨rfl, rfl⟩
    go_wp2
    go_ret
    exact ⟨none, 0, 0, rfl, OwnV.nil _ _ _, (Below.refl _ _).alloc (Nat.le_refl _) _⟩
theorem names_any (pre : List UInt8) (h : DskR w p m rs room used left dead armed) (hu : rsUp rs) (hrs : rs.length ≤ 1099511627776) (hnl : ∀ r ∈ rs, r.name.length ≤ 1099511627776) :
    Calls Tryz.prog 50 #[.pointer (some ⟨p, 0, none⟩), .string (tx pre)] w (RetNm w (nmR pre rs)) := by
  cases m with
  | none => exact names_nil pre h
  | some b => exact names_some pre h hu hrs hnl
theorem list_dead (pre : List UInt8) (h : DskR w p m rs room used left true armed) :
    Calls Tryz.prog 19 #[.pointer (some ⟨p, 0, none⟩), .string (tx pre)] w (RetNm w []) := by
  obtain ⟨c0, c1, c2, c3, c4, c5⟩ := h.head
  go_enter Tryz.func19, Tryz.ntmps19
  go_wp2
  go_ret
  exact ⟨none, 0, 0, rfl, OwnV.nil _ _ _, Below.refl _ _⟩
theorem list_live (pre : List UInt8) (h : DskR w p m rs room used left false armed) (hu : rsUp rs) (hrs : rs.length ≤ 1099511627776) (hnl : ∀ r ∈ rs, r.name.length ≤ 1099511627776) :
    Calls Tryz.prog 19 #[.pointer (some ⟨p, 0, none⟩), .string (tx pre)] w (RetNm w (nmR pre rs)) := by
  obtain ⟨c0, c1, c2, c3, c4, c5⟩ := h.head
  go_enter Tryz.func19, Tryz.ntmps19
  go_wp2_with fail
  refine (names_any pre h hu hrs hnl).mono ?_
  rintro e w' ⟨A, n, c, rfl, ho, hb⟩
  go_wp2
  go_ret
  exact ⟨A, n, c, rfl, ho, hb⟩
end
end Go.Proofs.YtlnpicfkcahdbaaGreat
namespace Go.Proofs.YtlnpicfkcahdbaaGreat
open Go Go.RowKit

theorem REs.tail {w : World} {A : Option Addr} {n c : Nat} {x : En} {es : List En} (h : REs w A (n + 1) (x :: es)) (hc : n + 1 ≤ c) : REs w (cutA4 A 1 c) n es := by
  obtain ⟨hl, vs, hv, hd⟩ := h
  have h1 := hv.drop 1
  have h2 := rdv_cut4 (k := 1) (m := n + 1) (cap := c) hd (by omega) (Nat.le_refl _) hc
  rw [List.take_of_length_le (by rw [hd.1]; omega), Nat.add_sub_cancel] at h2
  exact ⟨by simpa using hl, _, by simpa using h1, by simpa using h2⟩
/-- Entries that can be read, and what was there stands. -/
def RetEs (w : World) (es : List En) (e : Ending) (w' : World) : Prop := ∃ L k d, e = .returned (.slice L k d) ∧ REs w' L k es ∧ k ≤ d ∧ Below w.heap.size w w'
/-- 'So far joined.' -/
def PkM (w : World) (es : List En) (L : Option Addr) (k d : Nat) (wr : World) : Prop :=
  ∃ vs, OwnE wr w.heap.size L k d vs ∧ EVs w es vs ∧ es.length = k ∧ Below w.heap.size w wr
theorem PkM.below {w wr w' : World} {es : List En} {L : Option Addr} {k d : Nat} (h : PkM w es L k d wr) (hb : Below wr.heap.size wr w') : PkM w es L k d w' := by
  obtain ⟨vs, h1, h2, h3, h4⟩ := h
  exact ⟨vs, h1.below hb, h2, h3, belowT' h4 hb⟩
theorem PkM.bel {w wr : World} {es : List En} {L : Option Addr} {k d : Nat} (h : PkM w es L k d wr) : Below w.heap.size w wr := by
  obtain ⟨vs, h1, h2, h3, h4⟩ := h
  exact h4
theorem PkM.len {w wr : World} {es : List En} {L : Option Addr} {k d : Nat} (h : PkM w es L k d wr) : es.length = k := by
  obtain ⟨vs, h1, h2, h3, h4⟩ := h
  exact h3
end Go.Proofs.YtlnpicfkcahdbaaGreat
namespace Go.Proofs.YtlnpicfkcahdbaaGreat
open Go Go.RowKit

end Go.Proofs.YtlnpicfkcahdbaaGreat
namespace Go.Proofs.YtlnpicfkcahdbaaGreat
open Go Go.RowKit Go.Maps

def keepN (ks : List Int) (k t : Nat) : Nat := match ks[k % ks.length]? with | none => 0 | some z => z.toNat % (t + 1)
theorem keepN_le (ks : List Int) (k t : Nat) : keepN ks k t ≤ t := by
  unfold keepN
  split
  · omega
  · have := Nat.mod_lt (Int.toNat ‹Int›) (show 0 < t + 1 by omega); omega
theorem keepN_nil (k t : Nat) : keepN [] k t = 0 := by simp [keepN]
theorem keepN_at {ks : List Int} {k t : Nat} {z : Int} (h : ks[k % ks.length]? = some z) : keepN ks k t = z.toNat % (t + 1) := by rw [keepN, h]
def cutE (ks : List Int) (k : Nat) (f : FE) : FE :=
  (f.1, f.2.1.take (f.2.2 + keepN ks k (f.2.1.length - f.2.2)), f.2.2 + keepN ks k (f.2.1.length - f.2.2))
def crStep (ks : List Int) (acc : List FE × Nat) (f : FE) : List FE × Nat :=
  if f.2.1.length = f.2.2 then (acc.1 ++ [f], acc.2) else (acc.1 ++ [cutE ks acc.2 f], acc.2 + 1)
def crP (ks : List Int) (l : List FE) : List FE × Nat := l.foldl (crStep ks) ([], 0)
theorem crP_snoc (ks : List Int) (l : List FE) (f : FE) : crP ks (l ++ [f]) = crStep ks (crP ks l) f := by rw [crP, List.foldl_append]; rfl
theorem crP_take {ks : List Int} {l : List FE} {i : Nat} {f : FE} (h : l[i]? = some f) : crP ks (l.take (i + 1)) = crStep ks (crP ks (l.take i)) f := by
  rw [List.take_add_one, h]
  exact crP_snoc ks _ f
theorem crP_zero (ks : List Int) : crP ks [] = ([], 0) := rfl
theorem crStep_ok (ks : List Int) (acc : List FE × Nat) (f : FE) : (crStep ks acc f).2 ≤ acc.2 + 1 ∧ (crStep ks acc f).1.map (·.1) = acc.1.map (·.1) ++ [f.1] := by
  unfold crStep
  split
  · exact ⟨by simp only; omega, by rw [List.map_append]; rfl⟩
  · exact ⟨Nat.le_refl _, by rw [List.map_append]; rfl⟩
theorem crP_fold (ks : List Int) : ∀ (l : List FE) (acc : List FE × Nat), (l.foldl (crStep ks) acc).2 ≤ acc.2 + l.length ∧ (l.foldl (crStep ks) acc).1.map (·.1) = acc.1.map (·.1) ++ l.map (·.1)
  | [], acc => ⟨Nat.le_refl _, by simp⟩
  | f :: t, acc => by
    have h1 := crStep_ok ks acc f
    have h2 := crP_fold ks t (crStep ks acc f)
    rw [List.foldl_cons, List.length_cons]
    exact ⟨by omega, by rw [h2.2, h1.2, List.append_assoc]; rfl⟩
theorem crP_cnt (ks : List Int) (l : List FE) : (crP ks l).2 ≤ l.length := by
  have := (crP_fold ks l ([], 0)).1
  simpa [crP] using this
theorem crP_names (ks : List Int) (l : List FE) : (crP ks l).1.map (·.1) = l.map (·.1) := by
  have := (crP_fold ks l ([], 0)).2
  simpa [crP] using this
theorem usedF_app (a b : List FE) : usedF (a ++ b) = usedF a + usedF b := by simp [usedF]
theorem usedF_cons (f : FE) (t : List FE) : usedF (f :: t) = f.2.1.length + usedF t := by simp [usedF]
theorem usedF_nil : usedF [] = 0 := rfl
theorem usedF_mem {f : FE} : ∀ {l : List FE}, f ∈ l → f.2.1.length ≤ usedF l
  | [], h => by cases h
  | a :: t, h => by
    rw [usedF_cons]
    rcases List.mem_cons.1 h with rfl | h
    · omega
    · have := usedF_mem h; omega
theorem risingF_names {a b : List FE} (h : a.map (·.1) = b.map (·.1)) (hb : risingF b) : risingF a := by
  have h1 : (b.map (·.1)).Pairwise fun x y => x < y := by rw [List.pairwise_map]; exact hb
  rw [← h, List.pairwise_map] at h1
  exact h1
/-- A file put in where one of that name stands. -/
theorem putF_mid {f g : FE} (e : g.1 = f.1) : ∀ {L R : List FE}, risingF (L ++ f :: R) → putF g (L ++ f :: R) = L ++ g :: R
  | [], R, _ => by simp only [List.nil_append, putF]; rw [if_pos e.symm]
  | a :: L, R, h => by
    unfold risingF at h
    rw [List.cons_append, List.pairwise_cons] at h
    have h1 := h.1 f (by simp)
    simp only [List.cons_append, putF]
    rw [if_neg (by rw [e]; exact nlt_ne h1), if_neg (fun h2 => nlt_irrefl _ (nlt_trans h1 (by rw [← e]; exact h2))), putF_mid e h.2]
end Go.Proofs.YtlnpicfkcahdbaaGreat
namespace Go.Proofs.YtlnpicfkcahdbaaGreat
open Go Go.RowKit

theorem RetEs.out {w w' : World} {es : List En} {e : Ending} (h : RetEs w es e w') : ∃ L k d, e = .returned (.slice L k d) ∧ REs w' L k es ∧ k ≤ d ∧ Below w.heap.size w w' := h
end Go.Proofs.YtlnpicfkcahdbaaGreat
namespace Go.Proofs.YtlnpicfkcahdbaaGreat
open Go Go.RowKit

/-- The two rows that the reader makes. -/
def RR (w : World) (L P : Option Addr) (ln d pn pd : Nat) (es : List En) (vs : List Value) (ps : List Int) (wr : World) : Prop :=
  OwnE wr w.heap.size L ln d vs ∧ EOs w.heap.size wr es vs ∧ es.length = ln ∧ OwnV 3 wr w.heap.size P pn pd (ps.map (fun z => Value.int .i64 z)) ∧ ps.length = pn ∧ Below w.heap.size w wr
theorem RR.below {w wr wx : World} {L P : Option Addr} {ln d pn pd : Nat} {es : List En} {vs : List Value} {ps : List Int} (h : RR w L P ln d pn pd es vs ps wr) (hb : Below wr.heap.size wr wx) : RR w L P ln d pn pd es vs ps wx := by
  obtain ⟨h1, h2, h3, h4, h5, h6⟩ := h
  exact ⟨h1.below hb, h2.below hb, h3, h4.below hb, h5, h6.trans (hb.mono h6.size)⟩
theorem RR.place {w wr wx : World} {L P P' : Option Addr} {ln d pn pd pd' : Nat} {es : List En} {vs : List Value} {ps : List Int} {z : Int} (h : RR w L P ln d pn pd es vs ps wr) (hP : OwnV 3 wx w.heap.size P' (pn + 1) pd' (ps.map (fun z => Value.int .i64 z) ++ [.int .i64 z])) (hg : wr.grownBy wx (blk P)) : RR w L P' ln d (pn + 1) pd' es vs (ps ++ [z]) wx := by
  obtain ⟨h1, h2, h3, h4, h5, h6⟩ := h
  refine ⟨ownE_kept h1 hg (fun b hb e => row_ne h4 h1 (by decide) b e hb), EOs.kept hg h2 (eos_off h4 (by decide) h2), h3, by rw [List.map_append]; exact hP, by simp [h5], h6.grown hg h6.size (fun k hk => (OwnV.lt h4 k hk).1)⟩
theorem RR.key {w wr wx : World} {L P K : Option Addr} {ln d pn pd kn kc b : Nat} {es : List En} {vs : List Value} {ps : List Int} {key : List UInt8} (h : RR w L P ln d pn pd es vs ps wr) (hk : Own 5 wr b K kn kc key) (hg : wr.grownBy wx (blk P)) : Own 5 wx b K kn kc key := by
  obtain ⟨_, _, _, h4, _, _⟩ := h
  exact hk.kept hg (fun b hb e => row_ne h4 hk (by decide) b e hb)
theorem EO.mk8 {base kn kc vn vc : Nat} {w : World} {K V : Option Addr} {x : En} (hK : Own 5 w base K kn kc x.key) (hV : Own 5 w base V vn vc x.val) (hu : U64 x.seq ∧ x.kind < 256) : EO base w x (.slice K kn kc) (.int .u64 (x.seq : Int)) (.int .u8 (x.kind : Int)) (.slice V vn vc) :=
  ⟨K, kn, kc, V, vn, vc, rfl, rfl, rfl, rfl, hK, hV, hu.1, hu.2⟩
theorem RR.entry {w wr wx : World} {L L' P K V : Option Addr} {ln d d' pn pd kn kc vn vc : Nat} {es : List En} {vs : List Value} {ps : List Int} {x : En} (h : RR w L P ln d pn pd es vs ps wr) (hK : Own 5 wr w.heap.size K kn kc x.key) (hV : Own 5 wr w.heap.size V vn vc x.val) (hu : U64 x.seq ∧ x.kind < 256)
    (hL : OwnE wx w.heap.size L' (ln + 1) d' (vs ++ [.slice K kn kc, .int .u64 (x.seq : Int), .int .u8 (x.kind : Int), .slice V vn vc])) (hg : wr.grownBy wx (blk L)) :
    RR w L' P (ln + 1) d' pn pd (es ++ [x]) (vs ++ [.slice K kn kc, .int .u64 (x.seq : Int), .int .u8 (x.kind : Int), .slice V vn vc]) ps wx := by
  obtain ⟨h1, h2, h3, h4, h5, h6⟩ := h
  have kK := hK.kept hg (fun b hb e => row_ne h1 hK (by decide) b e hb)
  have kV := hV.kept hg (fun b hb e => row_ne h1 hV (by decide) b e hb)
  refine ⟨hL, (EOs.kept hg h2 (eos_off h1 (by decide) h2)).app (EOs.one (EO.mk8 kK kV hu)), by simp [h3], ?_, h5, h6.grown hg h6.size (fun k hk => (OwnE.lt h1 k hk).1)⟩
  refine World.ownsRow.kept h4 hg ?_
  rw [own_blk]
  cases hb : blk P with
  | none => exact .inl rfl
  | some b => exact .inr (fun e => row_ne h1 h4 (by decide) b e.symm hb)
end Go.Proofs.YtlnpicfkcahdbaaGreat
namespace Go.Proofs.YtlnpicfkcahdbaaGreat
open Go Go.RowKit Go.Maps Go.Proofs

theorem RdV.fr {w w' : World} {bl : List Nat} {A : Option Addr} {n : Nat} {vs : List Value} (h : RdV w A n vs) (hf : Fr w w' bl) (ho : 0 < n → ∀ b, blk A = some b → b ∉ bl) : RdV w' A n vs := by
  refine ⟨h.1, fun hn => ?_⟩
  obtain ⟨b, off, rfl, h2, h3⟩ := h.2 hn
  refine ⟨b, off, rfl, Nat.lt_of_lt_of_le h2 hf.size, fun i x hx => ?_⟩
  exact (World.cell?_of_block (a := ⟨b, off + i, none⟩) (hf.block b h2 (ho hn b rfl))).trans (h3 i x hx)
theorem RdV.lt' {w : World} {A : Option Addr} {n : Nat} {vs : List Value} (h : RdV w A n vs) (hn : 0 < n) : ∀ b, blk A = some b → b < w.heap.size := fun b hb => by
  obtain ⟨b', off, rfl, h2⟩ := h.pos hn
  injection hb with hb
  rw [← hb]
  exact h2
def ivs (ks : List Int) : List Value := ks.map fun z => .int .i64 z
theorem ivs_at {w : World} {b off n : Nat} {ks : List Int} (h : RdV w (some ⟨b, off, none⟩) n (ivs ks)) (k : Nat) (hk : k < n) : ∃ z, ks[k]? = some z ∧ w.cell? ⟨b, off + k, none⟩ = some (.int .i64 z) := by
  obtain ⟨v, h1, h2⟩ := h.at_ k hk
  unfold ivs at h1
  rw [List.getElem?_map] at h1
  cases hx : ks[k]? with
  | none => rw [hx] at h1; cases h1
  | some z =>
    rw [hx] at h1
    injection h1 with h1
    subst h1
    exact ⟨z, rfl, h2⟩
theorem nm_at {w : World} {b off n : Nat} {ns : List (List UInt8)} (h : RdV w (some ⟨b, off, none⟩) n (ns.map encStr)) (k : Nat) (hk : k < n) : ∃ x, ns[k]? = some x ∧ w.cell? ⟨b, off + k, none⟩ = some (.string (tx x)) := by
  obtain ⟨v, h1, h2⟩ := h.at_ k hk
  rw [List.getElem?_map] at h1
  cases hx : ns[k]? with
  | none => rw [hx] at h1; cases h1
  | some z =>
    rw [hx] at h1
    injection h1 with h1
    subst h1
    exact ⟨z, rfl, h2⟩
theorem nmR_all (rs : List FR) : nmR [] rs = (rs.map FR.val).map (·.1) := by
  unfold nmR
  rw [List.filter_eq_self.2 (fun x _ => by simp [Lib.hasPrefix]), List.map_map]
  rfl

/-- 'The disk behind the crash.' -/
def RetCr (w : World) (p : Nat) (m : Option Nat) (rs : List FR) (fs' : List FE) (room left : Int) (e : Ending) (w' : World) : Prop :=
  e = .returned (.tuple #[]) ∧ ∃ rs', rs'.map FR.val = fs' ∧ DskR w' p m rs' room (usedF fs' : Int) left false false ∧ Fr w w' (allB p m rs) ∧ ∀ b ∈ allB p m rs', b ∈ allB p m rs ∨ w.heap.size ≤ b

section
variable {w : World} {p : Nat} {m : Option Nat} {rs : List FR} {room left : Int} {dead armed : Bool}
set_option maxRecDepth 100000 in
set_option maxHeartbeats 8000000 in
theorem Crash_any (K : Option Addr) (nk ck : Nat) (ks : List Int) (h : DskR w p m rs room (usedF (rs.map FR.val) : Int) left dead armed) (hu : rsUp rs) (hrs : rs.length ≤ 1099511627776) (hnl : ∀ r ∈ rs, r.name.length ≤ 1099511627776) (hud : usedF (rs.map FR.val) ≤ 1099511627776)
    (hK : RdV w K nk (ivs ks)) (hKo : 0 < nk → ∀ b, blk K = some b → b ∉ allB p m rs) (hnk : nk ≤ 1099511627776) (hkz : ∀ z ∈ ks, I64 z) :
    Calls Tryz.prog 16 #[.pointer (some ⟨p, 0, none⟩), .slice K nk ck] w (RetCr w p m rs (crP ks (rs.map FR.val)).1 room left) := by
  have hKl : ks.length = nk := by have := hK.len; simpa [ivs] using this
  obtain ⟨fs, hfs⟩ : ∃ fs, fs = rs.map FR.val := ⟨_, rfl⟩
  have hfup : risingF fs := by rw [hfs]; unfold risingF; rw [List.pairwise_map]; exact hu
  have hfl : fs.length = rs.length := by rw [hfs, List.length_map]
  have hfn : nmR [] rs = fs.map (·.1) := by rw [nmR_all, hfs]
  have hfnl : ∀ f ∈ fs, f.1.length ≤ 1099511627776 := fun f hf => by
    rw [hfs] at hf
    obtain ⟨r, hr, rfl⟩ := List.mem_map.1 hf
    exact hnl r hr
  rw [← hfs] at h hud ⊢
  have HN := Lib.hid (names_any [] h hu hrs hnl)
  rw [hfn] at HN
  have HFS := Lib.hid hfs
  have HFUP := Lib.hid hfup
  have HFNL := Lib.hid hfnl
  have HKZ := Lib.hid hkz
  have HKO := Lib.hid hKo
  have HKL := Lib.hid hKl
  have hfl2 : fs.length ≤ 1099511627776 := by omega
  clear hfs hfup hfn hfnl hkz hKo hKl hfl hnl
  go_enter Tryz.func16, Tryz.ntmps16
  go_wp2_with fail
  refine HN.out.mono ?_
  clear HN
  rintro e w1 ⟨N, nn, nc, rfl, oN, hb1⟩
  have hnn : nn = fs.length := by rw [← oN.len]; simp
  have hNlt := fun b (hb : blk N = some b) => oN.lt b hb
  have hD1 := h.fr (Fr.of_below hb1 []) (fun b _ h => by cases h)
  have hK1 := hK.below hb1
  have hF1 : Fr w w1 (allB p m rs) := Fr.of_below hb1 _
  have hN1 := oN.rd
  have hNo : ∀ b, blk N = some b → b ∉ allB p m rs := fun b hb hm => by have := (hNlt b hb).1; have := h.lt b hm; omega
  have HD1 := Lib.hid hD1
  have HF1 := Lib.hid hF1
  have HNO := Lib.hid hNo
  have hs1 := hb1.size
  have HNN := Lib.hid hnn
  have hnn2 : nn ≤ 1099511627776 := by omega
  clear hD1 hF1 hNo h hK hb1 oN hNlt hnn
  go_wp2
  go_loopw [4, 13] (fun vt vi wr => ∃ (i u : Nat) (rsI : List FR), vt = .int .i64 ((crP ks (fs.take i)).2 : Int) ∧ vi = .int .i64 i ∧ i ≤ nn ∧ DskR wr p m rsI room (u : Int) left dead armed ∧ rsI.map FR.val = (crP ks (fs.take i)).1 ++ fs.drop i ∧ u = usedF ((crP ks (fs.take i)).1 ++ fs.drop i) ∧ u ≤ usedF fs ∧
    RdV wr N nn ((fs.map (·.1)).map encStr) ∧ RdV wr K nk (ivs ks) ∧ Fr w wr (allB p m rs) ∧ (∀ b ∈ allB p m rsI, b ∈ allB p m rs ∨ w.heap.size ≤ b) ∧ (∀ b, blk N = some b → b ∉ allB p m rsI) ∧ (0 < nk → ∀ b, blk K = some b → b ∉ allB p m rsI)) (fun _ vi _ => nn - (intOf vi).toNat)
  case atStart =>
    refine ⟨0, usedF fs, rs, rfl, rfl, Nat.zero_le _, HD1.out, ?_, ?_, Nat.le_refl _, hN1, hK1, HF1.out, fun b hb => .inl hb, HNO.out, HKO.out⟩
    · rw [List.take_zero, crP_zero, List.drop_zero]; exact HFS.out.symm
    · rw [List.take_zero, crP_zero, List.drop_zero]; rfl
  case round =>
    clear HD1 hN1 hK1 HF1 HNO
    obtain ⟨i, u, rsI, rfl, rfl, hi, hD, hval, hus, huu, hN, hK, hF, hB, hNo, hKo⟩ := hrel
    have HV := Lib.hid hval
    have HUS := Lib.hid hus
    have HF := Lib.hid hF
    have HB := Lib.hid hB
    have HNo := Lib.hid hNo
    have HKo := Lib.hid hKo
    have hcnt := crP_cnt ks (fs.take i)
    have hlt' : (fs.take i).length ≤ i := List.length_take_le _ _
    obtain ⟨T, hT⟩ : ∃ T, T = (crP ks (fs.take i)).2 := ⟨_, rfl⟩
    rw [← hT] at hcnt ⊢
    have HT := Lib.hid hT
    clear hval hus hF hB hNo hKo hT
    by_cases hin : i < nn
    · have hil : i < fs.length := by have := HNN.out; omega
      obtain ⟨f, hf⟩ : ∃ f, fs[i]? = some f := ⟨fs[i], List.getElem?_eq_getElem hil⟩
      have hdrop : fs.drop i = f :: fs.drop (i + 1) := by
        obtain ⟨hi2, rfl⟩ := List.getElem?_eq_some_iff.1 hf
        exact List.drop_eq_getElem_cons hi2
      obtain ⟨L, hL⟩ : ∃ L, L = (crP ks (fs.take i)).1 := ⟨_, rfl⟩
      obtain ⟨R, hR⟩ : ∃ R, R = fs.drop (i + 1) := ⟨_, rfl⟩
      have hval : rsI.map FR.val = L ++ f :: R := by rw [HV.out, hdrop, hL, hR]
      have hus : u = usedF (L ++ f :: R) := by rw [HUS.out, hdrop, hL, hR]
      have hup : risingF (L ++ f :: R) := by
        refine risingF_names (b := fs) ?_ HFUP.out
        rw [List.map_append, hL, crP_names, hR, ← hdrop, ← List.map_append, List.take_append_drop]
      have hrsu : rsUp rsI := rsUp_of (by rw [hval]; exact hup)
      obtain ⟨r, hr, hrv⟩ : ∃ r ∈ rsI, r.val = f := by
        have : f ∈ rsI.map FR.val := by rw [hval]; simp
        obtain ⟨r, hr, e⟩ := List.mem_map.1 this
        exact ⟨r, hr, e⟩
      have hfm : f ∈ fs := List.mem_of_getElem? hf
      have hrl : r.name.length ≤ 1099511627776 := by
        have := HFNL.out f hfm
        rw [← hrv] at this
        exact this
      have hlen : r.dat.length ≤ u := by
        rw [hus]
        have : f.2.1.length ≤ usedF (L ++ f :: R) := usedF_mem (by simp)
        rw [← hrv] at this ⊢
        exact this
      obtain ⟨c0, _⟩ := hD.head
      have hlk := hD.2.1.look_some hr (by unfold maxLen; omega)
      have hfa := hD.2.2.1 r hr
      obtain ⟨d0, d1⟩ := hfa.cells
      have hsl := hfa.2.2
      obtain ⟨bN, offN, rfl, _⟩ := hN.pos (by omega)
      obtain ⟨x, hx, hcx⟩ := nm_at hN i hin
      have hxr : x = r.name := by
        rw [List.getElem?_map, hf] at hx
        injection hx with hx
        rw [← hx, ← hrv]
        rfl
      subst hxr
      obtain ⟨tl, htl⟩ : ∃ tl : Nat, tl = r.dat.length - r.saf := ⟨_, rfl⟩
      have i0 : IntKind.i64.wrap ((r.dat.length : Int) - (r.saf : Int)) = (tl : Int) := by
        rw [IntWalk.i64_in _ (by omega)]; omega
      have hstep := crP_take (ks := ks) hf
      have HST : Hid (crP ks (fs.take (i + 1)) = crStep ks (L, T) f) := Lib.hid (by rw [hstep, hL, HT.out])
      have HVAL := Lib.hid hval
      have HUSD := Lib.hid hus
      have HUP := Lib.hid hup
      have HRV := Lib.hid hrv
      have HRR := Lib.hid hR
      have HTL := Lib.hid htl
      have HCX := Lib.hid hx
      clear hval hus hup hrv hR htl hx hstep hdrop hL HV HUS hf hfm hfa
      by_cases ht0 : tl = 0
      · subst ht0
        have HZ : Hid (crP ks (fs.take (i + 1)) = (L ++ [f], T)) := Lib.hid (by
          rw [HST.out, crStep, if_pos]
          rw [← HRV.out]
          show r.dat.length = r.saf
          have := HTL.out
          omega)
        have HX : Hid ((crP ks (fs.take (i + 1))).1 ++ fs.drop (i + 1) = L ++ f :: R) := Lib.hid (by rw [HZ.out, HRR.out]; simp)
        have HX2 : Hid ((crP ks (fs.take (i + 1))).2 = T) := Lib.hid (by rw [HZ.out])
        have HD := Lib.hid hD
        have HN' := Lib.hid hN
        have HK' := Lib.hid hK
        clear hD hN hK
        go_wp2
        go_quiet (fail)
        go_wp2
        go_roundw
        case rel => exact ⟨i + 1, u, rsI, by rw [HX2.out], by go_num, by omega, HD.out, by rw [HVAL.out, HX.out], by rw [HUSD.out, HX.out], huu, HN'.out, HK'.out, HF.out.drewN _, HB.out, HNo.out, HKo.out⟩
        case measure => simp [intOf]; omega
      · have hb0 : ((tl : Int) == 0) = false := by simp; omega
        obtain ⟨kp, hkp⟩ : ∃ kp, kp = keepN ks T tl := ⟨_, rfl⟩
        have hkpl : kp ≤ tl := by rw [hkp]; exact keepN_le ks T tl
        obtain ⟨kk, hkk⟩ : ∃ kk, kk = r.saf + kp := ⟨_, rfl⟩
        have hkl : kk ≤ r.dat.length := by have := HTL.out; omega
        have i3 : IntKind.i64.wrap ((r.saf : Int) + (kp : Int)) = (kk : Int) := by
          rw [IntWalk.i64_in _ (by omega)]; omega
        have hru : r.dat.length ≤ u := hlen
        have HZ : Hid (crP ks (fs.take (i + 1)) = (L ++ [cutE ks T f], T + 1)) := Lib.hid (by
          rw [HST.out, crStep, if_neg]
          rw [← HRV.out]
          show ¬ r.dat.length = r.saf
          have := HTL.out
          omega)
        have HKPV := Lib.hid hkp
        have hcutE : cutE ks T f = (r.name, r.dat.take kk, kk) := by
          rw [← HRV.out]
          show (r.name, r.dat.take (r.saf + keepN ks T (r.dat.length - r.saf)), r.saf + keepN ks T (r.dat.length - r.saf)) = _
          rw [← HTL.out, ← HKPV.out, ← hkk]
        have HCE := Lib.hid hcutE
        have HFIN : Hid (∀ (W w' : World) (e : Ending), Fr wr W [] → RetFile W p m rsI r (r.dat.take kk) kk room ((u - (r.dat.length - kk) : Nat) : Int) left dead armed (.tuple #[]) e w' →
            e = .returned (.tuple #[]) ∧ ∀ q, ∃ (u' : Nat) (rs' : List FR), DskR (w'.drewN q) p m rs' room (u' : Int) left dead armed ∧ rs'.map FR.val = (crP ks (fs.take (i + 1))).1 ++ fs.drop (i + 1) ∧ u' = usedF ((crP ks (fs.take (i + 1))).1 ++ fs.drop (i + 1)) ∧ u' ≤ usedF fs ∧
              RdV (w'.drewN q) (some ⟨bN, offN, none⟩) nn ((fs.map (·.1)).map encStr) ∧ RdV (w'.drewN q) K nk (ivs ks) ∧ Fr w (w'.drewN q) (allB p m rs) ∧ (∀ b ∈ allB p m rs', b ∈ allB p m rs ∨ w.heap.size ≤ b) ∧ (∀ b, blk (some (⟨bN, offN, none⟩ : Addr)) = some b → b ∉ allB p m rs') ∧ (0 < nk → ∀ b, blk K = some b → b ∉ allB p m rs')) := Lib.hid (by
          rintro W w' e hW ⟨rfl, r', hn', hd', hs', hD', hF', hB'⟩
          refine ⟨rfl, fun q => ⟨_, _, hD'.fr (Fr.drewN (Fr.refl _ []) q) (fun _ _ h => by cases h), ?_, ?_, by omega, ?_, ?_, ?_, ?_, ?_, ?_⟩⟩
          · rw [putR_val, HVAL.out, HZ.out, ← HRR.out]
            have e1 : r'.val = cutE ks T f := by rw [HCE.out]; unfold FR.val; rw [hn', hd', hs']
            rw [e1, putF_mid (f := f) (g := cutE ks T f) rfl HUP.out]
            simp
          · rw [HUSD.out, HZ.out, ← HRR.out]
            have e2 : f.2.1 = r.dat := by rw [← HRV.out]; rfl
            simp only [usedF_app, usedF_cons, usedF_nil, HCE.out, e2, List.length_take]
            omega
          · exact ((hN.fr hW (fun _ b _ h => by cases h)).fr hF' (fun _ => HNo.out)).fr (Fr.drewN (Fr.refl _ []) q) (fun _ b _ h => by cases h)
          · exact ((hK.fr hW (fun _ b _ h => by cases h)).fr hF' HKo.out).fr (Fr.drewN (Fr.refl _ []) q) (fun _ b _ h => by cases h)
          · exact ((HF.out.trans hW (fun b h => by cases h)).trans hF' HB.out).drewN q
          · intro b hb
            rcases hB' b hb with h1 | h1
            · exact HB.out b h1
            · exact .inr (Nat.le_trans (Nat.le_trans HF.out.size hW.size) h1)
          · intro b hb hm
            rcases hB' b hm with h1 | h1
            · exact HNo.out b hb h1
            · have := hN.lt' (by omega) b hb
              have := hW.size
              omega
          · intro hk0 b hb hm
            rcases hB' b hm with h1 | h1
            · exact HKo.out hk0 b hb h1
            · have := hK.lt' hk0 b hb
              have := hW.size
              omega)
        have HX2 : Hid ((crP ks (fs.take (i + 1))).2 = T + 1) := Lib.hid (by rw [HZ.out])
        have HT1 : Hid (IntKind.i64.wrap ((T : Int) + 1) = ((T + 1 : Nat) : Int)) := Lib.hid (by rw [IntWalk.i64_in _ (by omega)]; omega)
        have HDD := Lib.hid hD
        have HN' := Lib.hid hN
        have HK' := Lib.hid hK
        have htlb : tl ≤ r.dat.length := by have := HTL.out; omega
        clear HST HVAL HUSD HUP HRV HRR HTL HCX HZ HCE hcutE hkp hN HF HB HNo HKo
        by_cases hnk0 : nk = 0
        · subst hnk0
          have hkp0 : kp = 0 := by
            rw [HKPV.out]
            have : ks = [] := List.eq_nil_of_length_eq_zero HKL.out
            rw [this, keepN_nil]
          subst hkp0
          obtain rfl : kk = r.saf := hkk
          clear hK
          go_wp2
          go_quiet (fail)
          go_wp2_with fail
          refine (shorten_any r.saf u (HDD.out.fr (Fr.drewN (Fr.refl wr []) nq) (fun b _ h => by cases h)) hrsu hr hkl hru (by omega) (by omega)).mono ?_
          rintro e w' hret
          obtain ⟨rfl, hx⟩ := HFIN.out _ w' e (Fr.drewN (Fr.refl wr []) _) hret
          clear hret HFIN d0 d1 c0
          go_wp2
          go_roundw
          case rel => 
            obtain ⟨u', rs', h1, h2, h3, h4, h5, h6, h7, h8, h9, h10⟩ := hx 0
            exact ⟨i + 1, u', rs', by rw [HX2.out, Int.natCast_add]; rfl, by go_num, by omega, h1, h2, h3, h4, h5, h6, h7, h8, h9, h10⟩
          case measure => simp [intOf]; omega
        · obtain ⟨bK, offK, rfl, _⟩ := hK.pos (by omega)
          obtain ⟨j, hj⟩ : ∃ j, j = T % nk := ⟨_, rfl⟩
          have hjl : j < nk := by rw [hj]; exact Nat.mod_lt _ (by omega)
          obtain ⟨z, hz, hcz⟩ := ivs_at hK j hjl
          have hzI := HKZ.out z (List.mem_of_getElem? hz)
          have hkpz : kp = z.toNat % (tl + 1) := by
            rw [HKPV.out]
            refine keepN_at ?_
            rw [HKL.out, ← hj]
            exact hz
          obtain ⟨zp, hzp⟩ : ∃ zp, zp = z.toNat := ⟨_, rfl⟩
          rw [← hzp] at hkpz
          have n0 : decide ((0 : Int) < (nk : Int)) = true := by simp; omega
          have n1 : ((nk : Int) == 0) = false := by simp; omega
          have n3 : (T : Int) % (nk : Int) = (j : Int) := by rw [hj]; simp
          have n4 : max z 0 = (zp : Int) := by omega
          have n5 : IntKind.i64.wrap ((tl : Int) + 1) = ((tl + 1 : Nat) : Int) := by rw [IntWalk.i64_in _ (by omega)]; omega
          have n6 : (zp : Int) % ((tl + 1 : Nat) : Int) = (kp : Int) := by rw [hkpz]; simp
          have n7 : wrap64 ((r.saf : Int) + (zp : Int) % ((tl : Int) + 1)) = (kk : Int) := by
            have e1 : (zp : Int) % ((tl : Int) + 1) = (kp : Int) := n6
            rw [e1]
            exact (IntWalk.i64_left _).symm.trans i3
          have N7 := Lib.hid n7
          clear n7
          have HJ := Lib.hid hj
          have HZP := Lib.hid hzp
          have HKPZ := Lib.hid hkpz
          have HHZ := Lib.hid hz
          clear hK hkk hj hzp hkpz hz
          go_wp2
          go_quiet (fail)
          go_wp2_with fail
          rw [N7.out]
          refine (shorten_any kk u (HDD.out.fr (Fr.drewN (Fr.refl wr []) nq) (fun b _ h => by cases h)) hrsu hr hkl hru (by omega) (by omega)).mono ?_
          rintro e w' hret
          obtain ⟨rfl, hx⟩ := HFIN.out _ w' e (Fr.drewN (Fr.refl wr []) _) hret
          clear hret HFIN d0 d1 c0 hcz
          go_wp2
          go_roundw
          case rel => 
            obtain ⟨u', rs', h1, h2, h3, h4, h5, h6, h7, h8, h9, h10⟩ := hx 0
            exact ⟨i + 1, u', rs', by rw [HX2.out, Int.natCast_add]; rfl, by go_num, by omega, h1, h2, h3, h4, h5, h6, h7, h8, h9, h10⟩
          case measure => simp [intOf]; omega
    · obtain rfl : i = nn := by omega
      have HH := Lib.hid (((Hd.refl hD.1).set 3 (.bool false)).set 4 (.bool false))
      obtain ⟨c0, c1, c2, c3, c4, c5⟩ := hD.head
      have f3 := hD.thaw 3
      have f4 := hD.thaw 4
      have htk : fs.take i = fs := List.take_of_length_le (by have := HNN.out; omega)
      have hdr : fs.drop i = [] := List.drop_of_length_le (by have := HNN.out; omega)
      have HTK := Lib.hid htk
      have HDR := Lib.hid hdr
      have HDD := Lib.hid hD
      clear hN hK htk hdr hD
      go_wp2
      go_end0
      refine ⟨rfl, rsI, ?_, ?_, ?_, HB.out⟩
      · rw [HV.out, HTK.out, HDR.out, List.append_nil]
      · have h1 := HDD.out.turn HH.out.1 HH.out.2
        rw [HUS.out, HTK.out, HDR.out, List.append_nil] at h1
        exact h1
      · exact HF.out.trans HH.out.1 (fun b hb => by rw [List.mem_singleton] at hb; subst hb; exact .inl mem_head)
end
end Go.Proofs.YtlnpicfkcahdbaaGreat
namespace Go.Proofs.YtlnpicfkcahdbaaGreat
open Go Go.RowKit

theorem info_les : (Tryz.prog.info? 22).map (fun i => (i.zero, i.size, i.bytes)) = some (some (.slice none 0 0), 1, 24) := by kernel_rfl
/-- 'These slices read as these lists.' -/
def LsV (w : World) : List (List En) → List Value → Prop
  | [], vs => vs = []
  | es :: ls, vs => ∃ B m c r, vs = .slice B m c :: r ∧ REs w B m es ∧ m ≤ c ∧ LsV w ls r
theorem LsV.below {w w' : World} (hb : Below w.heap.size w w') : ∀ {ls : List (List En)} {vs : List Value}, LsV w ls vs → LsV w' ls vs
  | [], _, h => h
  | _ :: _, _, ⟨B, m, c, r, e, h1, h2, h3⟩ => ⟨B, m, c, r, e, h1.below hb, h2, LsV.below hb h3⟩
theorem LsV.snoc {w : World} {es : List En} {B : Option Addr} {m c : Nat} (hr : REs w B m es) (hc : m ≤ c) : ∀ {ls : List (List En)} {vs : List Value}, LsV w ls vs → LsV w (ls ++ [es]) (vs ++ [.slice B m c])
  | [], _, h => by rw [h]; exact ⟨B, m, c, [], rfl, hr, hc, rfl⟩
  | _ :: _, _, ⟨B', m', c', r, e, h1, h2, h3⟩ => ⟨B', m', c', _, by rw [e]; rfl, h1, h2, LsV.snoc hr hc h3⟩
theorem LsV.at_ {w : World} : ∀ {ls : List (List En)} {vs : List Value} (i : Nat) {es : List En}, LsV w ls vs → ls[i]? = some es → ∃ B m c, vs[i]? = some (.slice B m c) ∧ REs w B m es ∧ m ≤ c
  | [], _, i, _, _, h => by simp at h
  | _ :: _, _, 0, es, ⟨B, m, c, r, e, h1, h2, h3⟩, h => by
    injection h with h
    subst h
    exact ⟨B, m, c, by rw [e]; rfl, h1, h2⟩
  | _ :: _, _, i + 1, es, ⟨B, m, c, r, e, h1, h2, h3⟩, h => by
    obtain ⟨B', m', c', k1, k2, k3⟩ := LsV.at_ i h3 h
    exact ⟨B', m', c', by rw [e]; exact k1, k2, k3⟩
theorem LsV.rls {w : World} {A : Option Addr} {n : Nat} {ls : List (List En)} {vs : List Value} (h : LsV w ls vs) (hd : RdV w A n vs) (hl : ls.length = n) : RLs w A n ls := by
  refine ⟨hl, fun h0 => ?_⟩
  obtain ⟨b, off, e, hb, hc⟩ := hd.2 h0
  refine ⟨b, off, e, hb, fun i es hi => ?_⟩
  obtain ⟨B, m, c, k1, k2, k3⟩ := h.at_ i hi
  exact ⟨B, m, c, hc i _ k1, k2, k3⟩
/-- Lists that can be read. -/
def RetLs (w : World) (ls : List (List En)) (e : Ending) (w' : World) : Prop := ∃ L k d, e = .returned (.slice L k d) ∧ RLs w' L k ls ∧ k ≤ d ∧ Below w.heap.size w w'
theorem RetLs.out {w w' : World} {ls : List (List En)} {e : Ending} (h : RetLs w ls e w') : ∃ L k d, e = .returned (.slice L k d) ∧ RLs w' L k ls ∧ k ≤ d ∧ Below w.heap.size w w' := h
/-- 'So far made.' -/
def PkS (w : World) (ls : List (List En)) (L : Option Addr) (k d : Nat) (wr : World) : Prop :=
  ∃ vs, OwnV 22 wr w.heap.size L k d vs ∧ LsV w ls vs ∧ ls.length = k ∧ Below w.heap.size w wr
theorem PkS.bel {w wr : World} {ls : List (List En)} {L : Option Addr} {k d : Nat} (h : PkS w ls L k d wr) : Below w.heap.size w wr := by
  obtain ⟨vs, h1, h2, h3, h4⟩ := h
  exact h4
/-- 'These slices are lists of the call's own.' -/
def LsO (base : Nat) (w : World) : List (List En) → List Value → Prop
  | [], vs => vs = []
  | es :: ls, vs => ∃ B m c r us, vs = .slice B m c :: r ∧ OwnE w base B m c us ∧ EOs base w es us ∧ es.length = m ∧ LsO base w ls r
theorem LsO.below {base : Nat} {w w' : World} (hb : Below w.heap.size w w') : ∀ {ls : List (List En)} {vs : List Value}, LsO base w ls vs → LsO base w' ls vs
  | [], _, h => h
  | _ :: _, _, ⟨B, m, c, r, us, e, h1, h2, h3, h4⟩ => ⟨B, m, c, r, us, e, h1.below hb, h2.below hb, h3, LsO.below hb h4⟩
theorem LsO.kept {base b1 n c : Nat} {w w' : World} {L : Option Addr} {vs0 : List Value} (ho : OwnV 22 w b1 L n c vs0) (hg : w.grownBy w' (blk L)) : ∀ {ls : List (List En)} {vs : List Value}, LsO base w ls vs → LsO base w' ls vs
  | [], _, h => h
  | _ :: _, _, ⟨B, m, c, r, us, e, h1, h2, h3, h4⟩ => ⟨B, m, c, r, us, e, ownE_kept h1 hg (fun b hb e => row_ne ho h1 (by decide) b e hb), EOs.kept hg h2 (eos_off ho (by decide) h2), h3, LsO.kept ho hg h4⟩
theorem LsO.snoc {base : Nat} {w : World} {es : List En} {B : Option Addr} {m c : Nat} {us : List Value} (hr : OwnE w base B m c us) (he : EOs base w es us) (hl : es.length = m) : ∀ {ls : List (List En)} {vs : List Value}, LsO base w ls vs → LsO base w (ls ++ [es]) (vs ++ [.slice B m c])
  | [], _, h => by rw [h]; exact ⟨B, m, c, [], us, rfl, hr, he, hl, rfl⟩
  | _ :: _, _, ⟨B', m', c', r, us', e, h1, h2, h3, h4⟩ => ⟨B', m', c', _, us', by rw [e]; rfl, h1, h2, h3, LsO.snoc hr he hl h4⟩
theorem LsO.lsv {base : Nat} {w : World} : ∀ {ls : List (List En)} {vs : List Value}, LsO base w ls vs → LsV w ls vs
  | [], _, h => h
  | _ :: _, _, ⟨B, m, c, r, _, e, h1, h2, h3, h4⟩ => ⟨B, m, c, r, e, REs.mk h2.evs h1.rd h3, h1.cap.1, LsO.lsv h4⟩
end Go.Proofs.YtlnpicfkcahdbaaGreat
namespace Go.Proofs.YtlnpicfkcahdbaaGreat
open Go Go.RowKit

/-- Entries in memory of their own. -/
def OwEs (base : Nat) (w : World) (L : Option Addr) (ln d : Nat) (es : List En) : Prop := ∃ vs, OwnE w base L ln d vs ∧ EOs base w es vs
theorem OwEs.below {base : Nat} {w w' : World} {L : Option Addr} {ln d : Nat} {es : List En} (h : OwEs base w L ln d es) (hb : Below w.heap.size w w') : OwEs base w' L ln d es := by
  obtain ⟨vs, h1, h2⟩ := h
  exact ⟨vs, h1.below hb, h2.below hb⟩
/-- Entries that can be read, and a kind. -/
def RetDr (w : World) (r : List En × Int) (e : Ending) (w' : World) : Prop :=
  ∃ L ln d, e = .returned (.tuple #[.slice L ln d, .int .i64 r.2]) ∧ REs w' L ln r.1 ∧ ln ≤ d ∧ ln ≤ 1073741824 ∧ (∀ x ∈ r.1, SzE x) ∧ Below w.heap.size w w' ∧ OwEs w.heap.size w' L ln d r.1
theorem RetDr.no {w w' : World} {r : List En × Int} {k : Int} (h : r = ([], k)) (hb : Below w.heap.size w w') : RetDr w r (.returned (.tuple #[.slice none 0 0, .int .i64 k])) w' := by
  subst h
  exact ⟨none, 0, 0, rfl, REs.nil _ _, Nat.le_refl _, by omega, (fun x hx => by cases hx), hb, [], OwnE.nil _ _, rfl⟩
end Go.Proofs.YtlnpicfkcahdbaaGreat
namespace Go.Proofs.YtlnpicfkcahdbaaGreat
open Go Go.RowKit Go.Maps

/-- 'The disk at block p lives, isn't armed, and holds these files.' -/
def Live (w : World) (p : Nat) (bl : List Nat) (room u : Nat) (fs : List FE) : Prop :=
  ∃ m rs, DskR w p m rs (room : Int) (u : Int) 0 false false ∧ bl = allB p m rs ∧ rs.map FR.val = fs ∧ risingF fs
section
variable {w w' : World} {p : Nat} {bl : List Nat} {room u : Nat} {fs : List FE}
theorem Live.fr {bl2 : List Nat} (h : Live w p bl room u fs) (hf : Fr w w' bl2) (ho : ∀ b ∈ bl, b ∉ bl2) : Live w' p bl room u fs := by
  obtain ⟨m, rs, h1, rfl, h3, h4⟩ := h
  exact ⟨m, rs, h1.fr hf ho, rfl, h3, h4⟩
theorem Live.lt (h : Live w p bl room u fs) : ∀ b ∈ bl, b < w.heap.size := by
  obtain ⟨m, rs, h1, rfl, h3, h4⟩ := h
  exact h1.lt
theorem Live.below (h : Live w p bl room u fs) (hb : Below w.heap.size w w') : Live w' p bl room u fs := h.fr (Fr.of_below hb []) (fun _ _ h => by cases h)
theorem Live.drewN (h : Live w p bl room u fs) (q : Nat) : Live (w.drewN q) p bl room u fs := h.fr (Fr.drewN (Fr.refl w []) q) (fun _ _ h => by cases h)
theorem Live.grown {row : Option Nat} (h : Live w p bl room u fs) (hg : w.grownBy w' row) (hr : ∀ b, row = some b → b ∉ bl) : Live w' p bl room u fs :=
  h.fr (Fr.of_grown (bl := row.toList) hg (fun b hb => by rw [hb]; simp)) (fun b hb hm => by
    cases row with
    | none => simp at hm
    | some k => simp at hm; exact hr k rfl (by rw [← hm]; exact hb))
theorem Fam.fr {base : Nat} {ps : List VB} (h : Fam w base ps) (hf : Fr w w' bl) (ho : ∀ p ∈ ps, ∀ b, Value.ownBlock p.1 = some b → b ∉ bl) : Fam w' base ps := by
  refine ⟨fun p hp => ?_, h.2⟩
  obtain ⟨A, m, c, e, ho'⟩ := h.1 p hp
  exact ⟨A, m, c, e, ho'.fr hf (fun b hb => ho p hp b (by rw [e, own_blk]; exact hb))⟩
theorem of_name {rs : List FR} {f : FE} (e : rs.map FR.val = fs) (hf : f ∈ fs) : ∃ r ∈ rs, r.name = f.1 ∧ r.dat = f.2.1 ∧ r.saf = f.2.2 := by
  rw [← e] at hf
  obtain ⟨r, hr, rfl⟩ := List.mem_map.1 hf
  exact ⟨r, hr, rfl, rfl, rfl⟩
end
end Go.Proofs.YtlnpicfkcahdbaaGreat
namespace Go.Proofs.YtlnpicfkcahdbaaGreat
open Go Go.RowKit

set_option maxRecDepth 100000 in
set_option maxHeartbeats 4000000 in
theorem tbInOrder_any {w : World} {A : Option Addr} {n c : Nat} {es : List En} (h : REs w A n es) (hn : n ≤ 1099511627776) : Calls Tryz.prog 54 #[.slice A n c] w (RetT w (ordE es)) := by
  have HL := Lib.hid h.len
  have HR := Lib.hid h
  clear h
  go_enter Tryz.func54, Tryz.ntmps54
  go_wp2_with fail
  go_loopw [3] (fun s3 wr => ∃ i : Nat, (i < n ∨ i = 0) ∧ s3 = .int .i64 ((i + 1 : Nat) : Int) ∧ ordK es i = true ∧ Below w.heap.size w wr) (fun s _ => n + 1 - (intOf s).toNat)
  case atStart => exact ⟨0, .inr rfl, rfl, rfl, Below.refl _ _⟩
  case round =>
    obtain ⟨i, hi, rfl, ho, hB⟩ := hrel
    have HB := Lib.hid hB
    have HO := Lib.hid ho
    have hR := HR.out.below hB
    clear hB ho
    obtain ⟨k, hk⟩ : ∃ k, k = i + 1 := ⟨_, rfl⟩
    rw [← hk]
    by_cases hlt : k < n
    · obtain ⟨b, off, hAb, hbl⟩ := hR.pos (by omega)
      subst hAb
      obtain ⟨x, v0, v1, v2, v3, hx, c0, c1, c2, c3, hev⟩ := hR.at_ i (by omega)
      obtain ⟨y, u0, u1, u2, u3, hy, d0, d1, d2, d3, hew⟩ := hR.at_ k hlt
      have HL1 : Hid (∀ wx, Below wr.heap.size wr wx → Calls Tryz.prog 106 #[.agg #[v0, v1, v2, v3], .agg #[u0, u1, u2, u3]] wx (RetT wx (lessE x y))) := Lib.hid (fun wx hb => memLess_any (hev.below hb) (hew.below hb))
      have HSX : Hid (∀ wx, Below wr.heap.size wr wx → wx.cell? ⟨b, off + i * 4, none⟩ = some v0 ∧ wx.cell? ⟨b, off + i * 4 + 1, none⟩ = some v1 ∧ wx.cell? ⟨b, off + i * 4 + 2, none⟩ = some v2 ∧ wx.cell? ⟨b, off + i * 4 + 3, none⟩ = some v3 ∧ wx.cell? ⟨b, off + k * 4, none⟩ = some u0 ∧ wx.cell? ⟨b, off + k * 4 + 1, none⟩ = some u1 ∧ wx.cell? ⟨b, off + k * 4 + 2, none⟩ = some u2 ∧ wx.cell? ⟨b, off + k * 4 + 3, none⟩ = some u3) := Lib.hid (fun wx h =>
        ⟨(h.cell (p := ⟨b, off + i * 4, none⟩) hbl).trans c0, (h.cell (p := ⟨b, off + i * 4 + 1, none⟩) hbl).trans c1, (h.cell (p := ⟨b, off + i * 4 + 2, none⟩) hbl).trans c2, (h.cell (p := ⟨b, off + i * 4 + 3, none⟩) hbl).trans c3, (h.cell (p := ⟨b, off + k * 4, none⟩) hbl).trans d0, (h.cell (p := ⟨b, off + k * 4 + 1, none⟩) hbl).trans d1, (h.cell (p := ⟨b, off + k * 4 + 2, none⟩) hbl).trans d2, (h.cell (p := ⟨b, off + k * 4 + 3, none⟩) hbl).trans d3⟩)
      have hB0 : Below wr.heap.size wr wr.drew := (Below.refl _ _).drew
      have hk1 : IntKind.i64.wrap ((k : Int) - 1) = (i : Int) := by rw [IntWalk.i64_in _ (by omega)]; omega
      have hin : i < n := by omega
      have HST : Hid (ordK es k = (ordK es i && lessE x y)) := Lib.hid (by rw [hk]; exact ordK_step hx (by rw [← hk]; exact hy))
      have HKI := Lib.hid hk
      obtain ⟨z, hz⟩ : ∃ z, z = lessE x y := ⟨_, rfl⟩
      rw [← hz] at HL1 HST
      clear hR hx hev hy hew hz hk
      cases z with
      | true =>
        go_wp2_with fail
        go_region_held3 (fun wx => wx.cell? ⟨b, off + i * 4, none⟩ = some v0 ∧ wx.cell? ⟨b, off + i * 4 + 1, none⟩ = some v1 ∧ wx.cell? ⟨b, off + i * 4 + 2, none⟩ = some v2 ∧ wx.cell? ⟨b, off + i * 4 + 3, none⟩ = some v3 ∧ wx.cell? ⟨b, off + k * 4, none⟩ = some u0 ∧ wx.cell? ⟨b, off + k * 4 + 1, none⟩ = some u1 ∧ wx.cell? ⟨b, off + k * 4 + 2, none⟩ = some u2 ∧ wx.cell? ⟨b, off + k * 4 + 3, none⟩ = some u3) (first | assumption | exact HSX.out _ hB0)
          (first | (go_at_call 106; with_reducible refine (HL1.out _ (by assumption)).mono ?_; intro e1 wn hq; obtain ⟨h1, bn⟩ := RetT.outD hq; subst h1; have bn' := belowT' (by assumption : Below wr.heap.size wr _) bn; have hS1 := HSX.out _ bn'))
        all_goals
          have HBN : Hid (Below w.heap.size w _) := Lib.hid (HB.out.trans ((by assumption : Below wr.heap.size wr wn).mono HB.out.size))
          go_wp2_with fail
          go_roundw
          case rel => exact ⟨k, .inl hlt, by go_num, by rw [HST.out, HO.out]; rfl, HBN.out⟩
          case measure => simp [intOf]; omega
      | false =>
        go_wp2_with fail
        go_region_held3 (fun wx => wx.cell? ⟨b, off + i * 4, none⟩ = some v0 ∧ wx.cell? ⟨b, off + i * 4 + 1, none⟩ = some v1 ∧ wx.cell? ⟨b, off + i * 4 + 2, none⟩ = some v2 ∧ wx.cell? ⟨b, off + i * 4 + 3, none⟩ = some v3 ∧ wx.cell? ⟨b, off + k * 4, none⟩ = some u0 ∧ wx.cell? ⟨b, off + k * 4 + 1, none⟩ = some u1 ∧ wx.cell? ⟨b, off + k * 4 + 2, none⟩ = some u2 ∧ wx.cell? ⟨b, off + k * 4 + 3, none⟩ = some u3) (first | assumption | exact HSX.out _ hB0)
          (first | (go_at_call 106; with_reducible refine (HL1.out _ (by assumption)).mono ?_; intro e1 wn hq; obtain ⟨h1, bn⟩ := RetT.outD hq; subst h1; have bn' := belowT' (by assumption : Below wr.heap.size wr _) bn; have hS1 := HSX.out _ bn'))
        all_goals
          have HBN : Hid (Below w.heap.size w _) := Lib.hid (HB.out.trans ((by assumption : Below wr.heap.size wr wn).mono HB.out.size))
          have HFIN : Hid (ordE es = false) := Lib.hid (by
            have h1 := HST.out
            rw [Bool.and_false] at h1
            exact ordK_false h1 _ (by rw [HL.out]; omega))
          go_wp2_with fail
          go_ret
          exact ⟨by rw [HFIN.out]; rfl, HBN.out⟩
    · have HFIN : Hid (ordE es = true) := Lib.hid (by
        have h1 := HO.out
        unfold ordE
        rw [HL.out]
        obtain rfl : n - 1 = i := by omega
        exact h1)
      go_wp2_with fail
      go_ret
      exact ⟨by rw [HFIN.out]; rfl, HB.out⟩

theorem cut4_lh {P : Program} {t e : TypeId} (ht : P.underlying t = some (.slice e)) (he : P.elem t = e) (hs : ∀ w, (sizeOf e).run P w = .ok 4 w)
    (A : Option Addr) {n cap k m : Nat} (hk : k ≤ m) (hm : m ≤ cap) (w : World) :
    (Instr.slice t (.slice A n cap) (some (.int .i64 (k : Int))) (some (.int .i64 (m : Int))) none).run P w = .ok (.slice (cutA4 A k cap) (m - k) (cap - k)) w := by
  subst he
  rw [run_slice_lh w t A n cap ht .i64 .i64 (k : Int) (m : Int) (by omega) (by omega) (by omega)]
  simp only [hs, Result.andThen, sliced, Int.toNat_natCast, cutA4]
/-- A part of the entries. -/
theorem REs.part {w : World} {A : Option Addr} {n k m cap : Nat} {es : List En} (h : REs w A n es) (hk : k ≤ m) (hm : m ≤ n) (hc : n ≤ cap) : REs w (cutA4 A k cap) (m - k) ((es.take m).drop k) := by
  obtain ⟨h1, vs, h2, h3⟩ := h
  exact REs.mk (EVs.drop k (EVs.take m h2)) (rdv_cut4 h3 hk hm hc) (by rw [List.length_drop, List.length_take]; omega)

theorem cutA4_pos {bl off k c : Nat} (h : k < c) : cutA4 (some ⟨bl, off, none⟩) k c = some ⟨bl, off + k * 4, none⟩ := by
  unfold cutA4
  rw [if_neg (by omega)]
  simp only [Option.map_some]
  unfold Addr.add
  split
  · next h0 => rw [h0]; rfl
  · rfl
/-- What 'cut' has behind i entries: the groups, where the next one begins, its bytes so far. -/
def cutS (size : Int) (es : List En) : Nat → List (List En) × Nat × Nat
  | 0 => ([], 0, 0)
  | i + 1 => match es[i]? with
    | none => cutS size es i
    | some x => if size ≤ (((cutS size es i).2.2 + wE x : Nat) : Int) then ((cutS size es i).1 ++ [(es.take (i + 1)).drop (cutS size es i).2.1], i + 1, 0) else ((cutS size es i).1, (cutS size es i).2.1, (cutS size es i).2.2 + wE x)
def grpE (size : Int) (es : List En) : List (List En) :=
  if (cutS size es es.length).2.1 < es.length then (cutS size es es.length).1 ++ [es.drop (cutS size es es.length).2.1] else (cutS size es es.length).1
theorem cutS_yes {size : Int} {es : List En} {i b s : Nat} {g : List (List En)} {x : En} (h : cutS size es i = (g, b, s)) (hx : es[i]? = some x) (hs : size ≤ ((s + wE x : Nat) : Int)) : cutS size es (i + 1) = (g ++ [(es.take (i + 1)).drop b], i + 1, 0) := by
  rw [cutS, hx, h]
  exact if_pos hs
theorem cutS_no {size : Int} {es : List En} {i b s : Nat} {g : List (List En)} {x : En} (h : cutS size es i = (g, b, s)) (hx : es[i]? = some x) (hs : ¬ size ≤ ((s + wE x : Nat) : Int)) : cutS size es (i + 1) = (g, b, s + wE x) := by
  rw [cutS, hx, h]
  exact if_neg hs
theorem totE_snoc {es : List En} {i : Nat} {x : En} (h : es[i]? = some x) : totE (es.take (i + 1)) = totE (es.take i) + (wE x + 1) := by
  rw [List.take_add_one, h, totE_app]
  rfl

set_option maxRecDepth 100000 in
set_option maxHeartbeats 8000000 in
theorem tbCut_any {w : World} {A : Option Addr} {n c : Nat} {es : List En} (size : Int) (h : REs w A n es) (hn : n ≤ 1099511627776) (hc : n ≤ c) (ht : totE es ≤ 1099511627776) :
    Calls Tryz.prog 108 #[.int .i64 size, .slice A n c] w (RetLs w (grpE size es)) := by
  have HL := Lib.hid h.len
  have HR := Lib.hid h
  have HT := Lib.hid ht
  have HLH : Hid (∀ k m, k ≤ m → m ≤ n → ∀ w, (Instr.slice 22 (.slice A n c) (some (.int .i64 (k : Int))) (some (.int .i64 (m : Int))) none).run Tryz.prog w = .ok (.slice (cutA4 A k c) (m - k) (c - k)) w) := Lib.hid (fun k m h1 h2 w => cut4_lh (P := Tryz.prog) Tryz.underlying22 elem4 size4 A h1 (by omega) w)
  have HLO : Hid (∀ k, k ≤ n → ∀ w, (Instr.slice 22 (.slice A n c) (some (.int .i64 (k : Int))) none none).run Tryz.prog w = .ok (.slice (cutA4 A k c) (n - k) (c - k)) w) := Lib.hid (fun k h1 w => cut4_l (P := Tryz.prog) Tryz.underlying22 elem4 size4 A h1 w)
  clear h ht
  go_enter Tryz.func108, Tryz.ntmps108
  go_wp2_with fail
  go_loopw [5, 6, 7, 12] (fun s5 s6 s7 s12 wr => ∃ (k m d b s : Nat) (L : Option Addr) (g : List (List En)), k ≤ n ∧ b ≤ k ∧ s12 = .int .i64 (k : Int) ∧ s5 = .slice L m d ∧ s6 = .int .i64 (b : Int) ∧ s7 = .int .i64 (s : Int) ∧ m ≤ k ∧ s ≤ totE (es.take k) ∧ cutS size es k = (g, b, s) ∧ PkS w g L m d wr) (fun _ _ _ s _ => n - (intOf s).toNat)
  case atStart => exact ⟨0, 0, 0, 0, 0, none, [], Nat.zero_le _, Nat.zero_le _, rfl, rfl, rfl, rfl, Nat.le_refl _, Nat.zero_le _, rfl, [], OwnV.nil _ _ _, rfl, rfl, Below.refl _ _⟩
  case round =>
    obtain ⟨k, m, d, b, s, L, g, hk, hbk, rfl, rfl, rfl, rfl, hmk, hsT, hC, hP⟩ := hrel
    have HP := Lib.hid hP
    have HB := Lib.hid hP.bel
    have HC := Lib.hid hC
    have HST := Lib.hid hsT
    clear hP hC hsT
    by_cases hlt : k < n
    · obtain ⟨bl, off, hAb, hbl⟩ := HR.out.pos (by omega)
      subst hAb
      obtain ⟨x, v0, v1, v2, v3, hx, c0, c1, c2, c3, hev⟩ := HR.out.at_ k hlt
      obtain ⟨K, kn, kc, V, vn, vc, rfl, rfl, rfl, rfl, hrk, hrv, _⟩ := hev.parts
      have hwE : wE x = kn + vn := by unfold wE; rw [hrk.len, hrv.len]
      have hTS := totE_snoc hx
      have hTL := totE_take es (k + 1)
      obtain ⟨s2, hs2⟩ : ∃ s2, s2 = s + wE x := ⟨_, rfl⟩
      have hs2T : s2 ≤ totE (es.take (k + 1)) := by have := HST.out; omega
      have hs2B : s2 ≤ 1099511627776 := by have := HT.out; omega
      have hw1 : IntKind.i64.wrap ((kn : Int) + (vn : Int)) = (kn : Int) + (vn : Int) := IntWalk.i64_in _ (by omega)
      have hw2 : IntKind.i64.wrap ((s : Int) + ((kn : Int) + (vn : Int))) = (s2 : Int) := by rw [IntWalk.i64_in _ (by omega)]; omega
      have HX := Lib.hid hx
      have HS2 := Lib.hid hs2
      have HS2T := Lib.hid hs2T
      obtain ⟨U0, hU⟩ : ∃ U0, U0 = wr.alloc (.cells #[.slice K kn kc, .int .u64 (x.seq : Int), .int .u8 (x.kind : Int), .slice V vn vc] 31) := ⟨_, rfl⟩
      obtain ⟨g0, hg0⟩ : ∃ g0, g0 = wr.heap.size := ⟨_, rfl⟩
      have bU : Below wr.heap.size wr U0 := by rw [hU]; exact (Below.refl _ _).alloc (Nat.le_refl _) _
      have zU : Cl U0 g0 #[.slice K kn kc, .int .u64 (x.seq : Int), .int .u8 (x.kind : Int), .slice V vn vc] 31 := by rw [hU, hg0]; exact Cl.new _ _ _
      obtain ⟨z0, z1, z2, z3, _⟩ := zU.c4
      have hB := HB.out
      have d0 := (hB.cell (p := ⟨bl, off + k * 4, none⟩) hbl).trans c0
      have d1 := (hB.cell (p := ⟨bl, off + k * 4 + 1, none⟩) hbl).trans c1
      have d2 := (hB.cell (p := ⟨bl, off + k * 4 + 2, none⟩) hbl).trans c2
      have d3 := (hB.cell (p := ⟨bl, off + k * 4 + 3, none⟩) hbl).trans c3
      have HU := Lib.hid hU
      have HG := Lib.hid hg0
      have HBU := Lib.hid bU
      clear hx c0 c1 c2 c3 hev hrk hrv hwE hTS hTL hs2 hs2T hU hg0 bU zU hB
      go_upto_region 6 with (fail)
      rw [← HU.out, ← HG.out]
      clear d0 d1 d2 d3
      by_cases hge : size ≤ (s2 : Int)
      · have HCS : Hid (cutS size es (k + 1) = (g ++ [(es.take (k + 1)).drop b], k + 1, 0)) := Lib.hid (cutS_yes HC.out HX.out (by rw [← HS2.out]; exact hge))
        have HRP : Hid (REs w (some ⟨bl, off + b * 4, none⟩) (k + 1 - b) ((es.take (k + 1)).drop b)) := Lib.hid (by rw [← cutA4_pos (c := c) (by omega)]; exact HR.out.part (by omega) (by omega) hc)
        have hm2e : k + 1 - b ≤ c - b := by omega
        obtain ⟨vs, o1, hv1, hl1, hb1⟩ := HP.out
        obtain ⟨W1, hW1⟩ : ∃ W1, W1 = U0.alloc (.cells #[.slice (some ⟨bl, off + b * 4, none⟩) (k + 1 - b) (c - b)] 22) := ⟨_, rfl⟩
        have bW1 : Below wr.heap.size wr W1 := belowT HBU.out (by rw [hW1]; exact (Below.refl _ _).alloc (Nat.le_refl _) _)
        have O1 := Lib.hid (OwnV.below o1 bW1)
        have HV1 := Lib.hid hv1
        have HL1 := Lib.hid hl1
        have HBA := Lib.hid (hb1.trans (bW1.mono hb1.size))
        have HRD : Hid (RdV W1 (some ⟨U0.heap.size, 0, none⟩) 1 [.slice (some ⟨bl, off + b * 4, none⟩) (k + 1 - b) (c - b)]) := Lib.hid (by rw [hW1]; exact OwnV.rd (ownV_box2 U0 22 U0.heap.size [.slice (some ⟨bl, off + b * 4, none⟩) (k + 1 - b) (c - b)] 1 rfl (by omega) (Nat.le_refl _) _ rfl))
        have hone : ∀ u ∈ [Value.slice (some ⟨bl, off + b * 4, none⟩) (k + 1 - b) (c - b)], u.oneCell' = true := by intro u hu; rw [List.mem_singleton] at hu; rw [hu]; rfl
        have HON := Lib.hid hone
        have HW1 := Lib.hid hW1
        obtain ⟨u1, hu1⟩ : ∃ u1, u1 = U0.heap.size := ⟨_, rfl⟩
        rw [← hu1] at HRD
        have HU1 := Lib.hid hu1
        clear o1 hv1 hl1 hb1 hone hW1 bW1 hu1
        go_wp2_with (at_builtin; rw [← HW1.out, ← HU1.out]; refine wpList_appV W1 rfl _ _ 119 rfl w.heap.size 22 (.slice none 0 0) 24 Tryz.underlying119 info_les rfl L m d vs rfl O1.out (some ⟨u1, 0, none⟩) 1 1 [.slice (some ⟨bl, off + b * 4, none⟩) (k + 1 - b) (c - b)] rfl HRD.out HON.out ?_ ?_ ?_ ?_)
        · unfold maxLen; omega
        · omega
        · exact HBA.out.size
        intro L2 d2 w3 o2 hg2 _
        have HP3 : Hid (PkS w (g ++ [(es.take (k + 1)).drop b]) L2 (m + 1) d2 w3) := Lib.hid (⟨_, o2, LsV.snoc HRP.out hm2e HV1.out, by rw [List.length_append, HL1.out]; rfl, HBA.out.grown hg2 HBA.out.size (fun g hg => (OwnV.lt O1.out g hg).1)⟩)
        clear o2 hg2
        go_wp2_with fail
        go_roundw
        case rel => exact ⟨k + 1, m + 1, d2, k + 1, 0, L2, _, by omega, Nat.le_refl _, by go_num, rfl, by go_num, rfl, by omega, Nat.zero_le _, HCS.out, HP3.out⟩
        case measure => simp [intOf]; omega
      · have HCS : Hid (cutS size es (k + 1) = (g, b, s2)) := Lib.hid (by rw [HS2.out]; exact cutS_no HC.out HX.out (by rw [← HS2.out]; exact hge))
        obtain ⟨vs, o1, hv1, hl1, hb1⟩ := HP.out
        have HP3 : Hid (PkS w g L m d U0) := Lib.hid ⟨vs, o1.below HBU.out, hv1, hl1, hb1.trans (HBU.out.mono hb1.size)⟩
        clear o1 hv1 hl1 hb1
        go_wp2_with fail
        go_roundw
        case rel => exact ⟨k + 1, m, d, b, s2, L, g, by omega, by omega, by go_num, rfl, rfl, rfl, by omega, HS2T.out, HCS.out, HP3.out⟩
        case measure => simp [intOf]; omega
    · have hkn : k = n := by omega
      have HCN : Hid (cutS size es es.length = (g, b, s)) := Lib.hid (by rw [HL.out, ← hkn]; exact HC.out)
      have hB := HB.out
      by_cases hbn : b < n
      · have hF : grpE size es = g ++ [es.drop b] := by
          unfold grpE
          rw [HCN.out, HL.out]
          exact if_pos hbn
        have HF0 := Lib.hid hF
        obtain ⟨bl, off, hAb, hbl⟩ := HR.out.pos (by omega)
        subst hAb
        have HRP : Hid (REs w (some ⟨bl, off + b * 4, none⟩) (n - b) (es.drop b)) := Lib.hid (by
          have := HR.out.part (k := b) (m := n) (by omega) (Nat.le_refl _) hc
          rw [List.take_of_length_le (by have := HL.out; omega), cutA4_pos (by omega)] at this
          exact this)
        have hm2e : n - b ≤ c - b := by omega
        obtain ⟨vs, o1, hv1, hl1, hb1⟩ := HP.out
        obtain ⟨W1, hW1⟩ : ∃ W1, W1 = wr.alloc (.cells #[.slice (some ⟨bl, off + b * 4, none⟩) (n - b) (c - b)] 22) := ⟨_, rfl⟩
        have bW1 : Below wr.heap.size wr W1 := by rw [hW1]; exact (Below.refl _ _).alloc (Nat.le_refl _) _
        have O1 := Lib.hid (OwnV.below o1 bW1)
        have HV1 := Lib.hid hv1
        have HL1 := Lib.hid hl1
        have HBA := Lib.hid (hb1.trans (bW1.mono hb1.size))
        have HRD : Hid (RdV W1 (some ⟨wr.heap.size, 0, none⟩) 1 [.slice (some ⟨bl, off + b * 4, none⟩) (n - b) (c - b)]) := Lib.hid (by rw [hW1]; exact OwnV.rd (ownV_box2 wr 22 wr.heap.size [.slice (some ⟨bl, off + b * 4, none⟩) (n - b) (c - b)] 1 rfl (by omega) (Nat.le_refl _) _ rfl))
        have hone : ∀ u ∈ [Value.slice (some ⟨bl, off + b * 4, none⟩) (n - b) (c - b)], u.oneCell' = true := by intro u hu; rw [List.mem_singleton] at hu; rw [hu]; rfl
        have HON := Lib.hid hone
        have HW1 := Lib.hid hW1
        obtain ⟨u1, hu1⟩ : ∃ u1, u1 = wr.heap.size := ⟨_, rfl⟩
        rw [← hu1] at HRD
        have HU1 := Lib.hid hu1
        clear o1 hv1 hl1 hb1 hone hW1 bW1 hu1 hF hB
        go_wp2_with (at_builtin; rw [← HW1.out, ← HU1.out]; refine wpList_appV W1 rfl _ _ 119 rfl w.heap.size 22 (.slice none 0 0) 24 Tryz.underlying119 info_les rfl L m d vs rfl O1.out (some ⟨u1, 0, none⟩) 1 1 [.slice (some ⟨bl, off + b * 4, none⟩) (n - b) (c - b)] rfl HRD.out HON.out ?_ ?_ ?_ ?_)
        · unfold maxLen; omega
        · omega
        · exact HBA.out.size
        intro L2 d2 w3 o2 hg2 _
        have HF : Hid (RetLs w (grpE size es) (.returned (.slice L2 (m + 1) d2)) w3) := Lib.hid (by
          have hb3 := HBA.out.grown hg2 HBA.out.size (fun g hg => (OwnV.lt O1.out g hg).1)
          rw [HF0.out]
          exact ⟨L2, m + 1, d2, rfl, LsV.rls ((LsV.snoc HRP.out hm2e HV1.out).below hb3) o2.rd (by rw [List.length_append, HL1.out]; rfl), o2.cap.1, hb3⟩)
        clear o2 hg2
        go_wp2_with fail
        go_ret
        exact HF.out
      · have hF : grpE size es = g := by
          unfold grpE
          rw [HCN.out, HL.out]
          exact if_neg hbn
        obtain ⟨vs, o1, hv1, hl1, hb1⟩ := HP.out
        have HF : Hid (RetLs w (grpE size es) (.returned (.slice L m d)) wr) := Lib.hid ⟨L, m, d, rfl, by rw [hF]; exact LsV.rls (hv1.below hb1) o1.rd hl1, o1.cap.1, hb1⟩
        clear o1 hv1 hl1 hb1 hF hB
        go_wp2_with fail
        go_ret
        exact HF.out
end Go.Proofs.YtlnpicfkcahdbaaGreat
namespace Go.Proofs.YtlnpicfkcahdbaaGreat
open Go Go.RowKit Go.Maps

/-- The file of a name: its bytes, and how many are safe. -/
def getF (x : List UInt8) (fs : List FE) : Option (List UInt8 × Nat) := (fs.find? fun f => f.1 == x).map (·.2)
theorem getF_mem {x : List UInt8} {fs : List FE} {g : List UInt8 × Nat} (h : getF x fs = some g) : (x, g) ∈ fs := by
  unfold getF at h
  cases e : fs.find? (fun f => f.1 == x) with
  | none => rw [e] at h; cases h
  | some f =>
    rw [e] at h
    injection h with h
    have h1 := List.mem_of_find?_eq_some e
    have h2 := List.find?_some e
    simp only [beq_iff_eq] at h2
    rw [← h, ← h2]
    exact h1
theorem getF_no {x : List UInt8} {fs : List FE} (h : getF x fs = none) : ∀ f ∈ fs, f.1 ≠ x := fun f hf e => by
  unfold getF at h
  rw [Option.map_eq_none_iff, List.find?_eq_none] at h
  exact h f hf (by simpa using e)
theorem up_nameF {fs : List FE} (hu : risingF fs) {a b : FE} (ha : a ∈ fs) (hb : b ∈ fs) (e : a.1 = b.1) : a = b := by
  unfold risingF at hu
  induction fs with
  | nil => cases ha
  | cons q t ih =>
    rw [List.pairwise_cons] at hu
    rcases List.mem_cons.1 ha with rfl | ha2
    · rcases List.mem_cons.1 hb with rfl | hb2
      · rfl
      · exact absurd e (nlt_ne (hu.1 b hb2))
    · rcases List.mem_cons.1 hb with rfl | hb2
      · exact absurd e.symm (nlt_ne (hu.1 a ha2))
      · exact ih hu.2 ha2 hb2
theorem getF_of {fs : List FE} (hu : risingF fs) {f : FE} (hf : f ∈ fs) : getF f.1 fs = some f.2 := by
  cases h : getF f.1 fs with
  | none => exact absurd rfl (getF_no h f hf)
  | some g =>
    have := up_nameF hu (getF_mem h) hf rfl
    rw [← this]
theorem getF_none_of {x : List UInt8} {fs : List FE} (h : ∀ f ∈ fs, f.1 ≠ x) : getF x fs = none := by
  cases hg : getF x fs with
  | none => rfl
  | some g => exact absurd rfl (h _ (getF_mem hg))
theorem risingF_tail {a : FE} {t : List FE} (h : risingF (a :: t)) : risingF t := by
  unfold risingF at h ⊢
  rw [List.pairwise_cons] at h
  exact h.2
theorem risingF_head {a : FE} {t : List FE} (h : risingF (a :: t)) : ∀ f ∈ t, a.1 < f.1 := by
  unfold risingF at h
  rw [List.pairwise_cons] at h
  exact h.1
theorem putF_cons_eq {f q : FE} {t : List FE} (h : q.1 = f.1) : putF f (q :: t) = f :: t := by rw [putF, if_pos h]
theorem putF_cons_lt {f q : FE} {t : List FE} (h : q.1 ≠ f.1) (h2 : f.1 < q.1) : putF f (q :: t) = f :: q :: t := by rw [putF, if_neg h, if_pos h2]
theorem putF_cons_gt {f q : FE} {t : List FE} (h : q.1 ≠ f.1) (h2 : ¬ f.1 < q.1) : putF f (q :: t) = q :: putF f t := by rw [putF, if_neg h, if_neg h2]
theorem usedF_put_new {f : FE} : ∀ {fs : List FE}, (∀ q ∈ fs, q.1 ≠ f.1) → usedF (putF f fs) = usedF fs + f.2.1.length
  | [], _ => by rw [putF, usedF_cons, usedF_nil]; omega
  | q :: t, h => by
    have h0 := h q (List.mem_cons_self ..)
    by_cases h1 : f.1 < q.1
    · rw [putF_cons_lt h0 h1, usedF_cons]; omega
    · rw [putF_cons_gt h0 h1, usedF_cons, usedF_cons, usedF_put_new (fun q hq => h q (List.mem_cons_of_mem _ hq))]; omega
theorem usedF_put_old {f g : FE} (e : g.1 = f.1) : ∀ {fs : List FE}, risingF fs → f ∈ fs → usedF (putF g fs) + f.2.1.length = usedF fs + g.2.1.length
  | [], _, h => by cases h
  | q :: t, hu, h => by
    rcases List.mem_cons.1 h with rfl | h
    · rw [putF_cons_eq e.symm, usedF_cons, usedF_cons]; omega
    · have h1 := risingF_head hu f h
      rw [putF_cons_gt (by rw [e]; exact nlt_ne h1) (fun h2 => nlt_irrefl _ (nlt_trans h1 (by rw [← e]; exact h2))), usedF_cons, usedF_cons]
      have := usedF_put_old e (risingF_tail hu) h
      omega
theorem delF_up {x : List UInt8} {fs : List FE} (h : risingF fs) : risingF (delF x fs) := List.Pairwise.filter _ h
theorem mem_delF {x : List UInt8} {fs : List FE} {q : FE} : q ∈ delF x fs ↔ q ∈ fs ∧ q.1 ≠ x := by simp [delF]
theorem delF_no {x : List UInt8} {fs : List FE} (h : ∀ f ∈ fs, f.1 ≠ x) : delF x fs = fs := by
  unfold delF
  rw [List.filter_eq_self]
  intro f hf
  simpa using h f hf
theorem usedF_del {f : FE} : ∀ {fs : List FE}, risingF fs → f ∈ fs → usedF (delF f.1 fs) + f.2.1.length = usedF fs
  | [], _, h => by cases h
  | q :: t, hu, h => by
    rcases List.mem_cons.1 h with rfl | h
    · have e : delF f.1 (f :: t) = t := by
        unfold delF
        rw [List.filter_cons_of_neg (by simp)]
        exact delF_no (fun q hq e => nlt_ne (risingF_head hu q hq) e.symm)
      rw [e, usedF_cons]; omega
    · have h1 := nlt_ne (risingF_head hu f h)
      have e : delF f.1 (q :: t) = q :: delF f.1 t := by
        unfold delF
        rw [List.filter_cons_of_pos (by simpa using h1)]
      rw [e, usedF_cons, usedF_cons]
      have := usedF_del (risingF_tail hu) h
      omega
/-- The length of a name's file. -/
def lenF (x : List UInt8) (fs : List FE) : Nat := match getF x fs with | none => 0 | some g => g.1.length
theorem lenF_some {x : List UInt8} {fs : List FE} {g : List UInt8 × Nat} (h : getF x fs = some g) : lenF x fs = g.1.length := by rw [lenF, h]
theorem lenF_none {x : List UInt8} {fs : List FE} (h : getF x fs = none) : lenF x fs = 0 := by rw [lenF, h]
theorem usedF_delx (x : List UInt8) {fs : List FE} (hu : risingF fs) : usedF (delF x fs) + lenF x fs = usedF fs := by
  cases h : getF x fs with
  | none => rw [lenF_none h, delF_no (getF_no h)]; rfl
  | some g =>
    rw [lenF_some h]
    exact usedF_del hu (getF_mem h)

def armN (a : Int) : Int := if 0 < a then a - 1 else a
def appF (x ys : List UInt8) (fs : List FE) : List FE := match getF x fs with | none => putF (x, ys, 0) fs | some g => putF (x, g.1 ++ ys, g.2) fs
def syncF (x : List UInt8) (fs : List FE) : List FE := match getF x fs with | none => fs | some g => putF (x, g.1, g.1.length) fs
def renF (x y : List UInt8) (fs : List FE) : List FE := if x = y then fs else match getF x fs with | none => fs | some g => putF (y, g.1, g.2) (delF x (delF y fs))
def noneE (x : List UInt8) (fs : List FE) : Int := if (getF x fs).isNone then 6 else 0
/-- A call that would answer e, and make fs' of the files. -/
def doneD (D : DS) (e : Int) (fs' : List FE) : DS × Int :=
  if D.dead = true then (D, 9) else if e ≠ 0 then (D, e) else if D.arm = 0 then (⟨D.fs, D.room, D.arm, true⟩, 9) else (⟨fs', D.room, armN D.arm, D.dead⟩, 0)
def appendD (D : DS) (x ys : List UInt8) : DS × Int :=
  if D.dead = true then (D, 9) else if D.room < usedF D.fs + ys.length then (D, 8) else if D.arm = 0 then (⟨appF x ys D.fs, D.room, D.arm, true⟩, 9) else (⟨appF x ys D.fs, D.room, armN D.arm, D.dead⟩, 0)
def syncD (D : DS) (x : List UInt8) : DS × Int := doneD D (noneE x D.fs) (syncF x D.fs)
def removeD (D : DS) (x : List UInt8) : DS × Int := doneD D (noneE x D.fs) (delF x D.fs)
def renameD (D : DS) (x y : List UInt8) : DS × Int := doneD D (noneE x D.fs) (renF x y D.fs)
def readD (D : DS) (x : List UInt8) : List UInt8 × Int := if D.dead = true then ([], 9) else match getF x D.fs with | none => ([], 6) | some g => (g.1, 0)
def listD (D : DS) (pre : List UInt8) : List (List UInt8) := if D.dead = true then [] else (D.fs.map (·.1)).filter fun x => Lib.hasPrefix x pre
def armD (D : DS) (n : Int) : DS := if D.dead = true then D else ⟨D.fs, D.room, if n < 0 then -1 else n, D.dead⟩
def crashD (D : DS) (ks : List Int) : DS := ⟨(crP ks D.fs).1, D.room, -1, false⟩

theorem appF_up {x ys : List UInt8} {fs : List FE} (h : risingF fs) : risingF (appF x ys fs) := by unfold appF; split <;> exact putF_up h
theorem syncF_up {x : List UInt8} {fs : List FE} (h : risingF fs) : risingF (syncF x fs) := by unfold syncF; split; exact h; exact putF_up h
theorem renF_up {x y : List UInt8} {fs : List FE} (h : risingF fs) : risingF (renF x y fs) := by
  unfold renF; split
  · exact h
  · split
    · exact h
    · exact putF_up (delF_up (delF_up h))
theorem appF_used {x ys : List UInt8} {fs : List FE} (h : risingF fs) : usedF (appF x ys fs) = usedF fs + ys.length := by
  unfold appF
  split
  · next e => rw [usedF_put_new (getF_no e)]
  · next g e =>
    have := usedF_put_old (f := (x, g)) (g := (x, g.1 ++ ys, g.2)) rfl h (getF_mem e)
    simp only [List.length_append] at this
    omega
theorem syncF_used {x : List UInt8} {fs : List FE} (h : risingF fs) : usedF (syncF x fs) = usedF fs := by
  unfold syncF
  split
  · rfl
  · next g e =>
    have := usedF_put_old (f := (x, g)) (g := (x, g.1, g.1.length)) rfl h (getF_mem e)
    simp only at this
    omega
theorem getF_del_ne {x y : List UInt8} {fs : List FE} (h : x ≠ y) (hu : risingF fs) : getF x (delF y fs) = getF x fs := by
  cases e : getF x fs with
  | none => exact getF_none_of (fun f hf => getF_no e f (mem_delF.1 hf).1)
  | some g => exact getF_of (delF_up hu) (f := (x, g)) (mem_delF.2 ⟨getF_mem e, h⟩)
theorem renF_used {x y : List UInt8} {fs : List FE} (h : risingF fs) (hne : x ≠ y) {g : List UInt8 × Nat} (e : getF x fs = some g) : usedF (renF x y fs) + lenF y fs = usedF fs := by
  have e2 : renF x y fs = putF (y, g.1, g.2) (delF x (delF y fs)) := by rw [renF, if_neg hne, e]
  rw [e2, usedF_put_new (fun q hq => (mem_delF.1 (mem_delF.1 hq).1).2)]
  have h1 := usedF_delx y h
  have h2 := usedF_delx x (delF_up (x := y) h)
  rw [lenF_some (g := g) (by rw [getF_del_ne hne h, e])] at h2
  simp only
  omega
theorem lenF_le (x : List UInt8) (fs : List FE) : lenF x fs ≤ usedF fs := by
  cases h : getF x fs with
  | none => rw [lenF_none h]; omega
  | some g => rw [lenF_some h]; exact usedF_mem (getF_mem h)
theorem lenR_val (x : List UInt8) (rs : List FR) (hu : rsUp rs) : lenR x rs = lenF x (rs.map FR.val) := by
  have hu2 : risingF (rs.map FR.val) := by
    unfold risingF
    rw [List.pairwise_map]
    exact hu
  by_cases hx : ∃ r ∈ rs, r.name = x
  · obtain ⟨r, hr, rfl⟩ := hx
    have h : getF r.name (rs.map FR.val) = some (r.dat, r.saf) := getF_of hu2 (f := r.val) (List.mem_map.2 ⟨r, hr, rfl⟩)
    rw [lenR_some hu hr, lenF_some h]
  · have h0 : ∀ r ∈ rs, r.name ≠ x := fun r hr e => hx ⟨r, hr, e⟩
    rw [(lenR_none h0).1, lenF_none (getF_none_of (fun f hf => by
      obtain ⟨r, hr, rfl⟩ := List.mem_map.1 hf
      exact h0 r hr))]
end Go.Proofs.YtlnpicfkcahdbaaGreat
namespace Go.Proofs.YtlnpicfkcahdbaaGreat
open Go Go.RowKit Go.Maps

theorem tx_app (a b : List UInt8) : tx a ++ tx b = tx (a ++ b) := by
  apply ByteArray.ext
  rw [ByteArray.data_append]
  simp [tx]
end Go.Proofs.YtlnpicfkcahdbaaGreat
namespace Go.Proofs.YtlnpicfkcahdbaaGreat
open Go Go.RowKit

/-- The bytes of a group's block. -/
def b4E (es : List En) : List UInt8 := (buildE 4 es).1
def keysL (ls : List (List En)) : List (List UInt8) := ls.flatten.map (·.key)
/-- The error that the blocks' loop ends with. -/
def slE : List (List En) → Nat → Int
  | [], _ => 0
  | es :: t, s => if (buildE 4 es).2 ≠ 0 then (buildE 4 es).2 else if 1048576 < s + (b4E es).length then 2 else slE t (s + (b4E es).length)
def filB (ls : List (List En)) : List UInt8 := filterB 10 (compB (keysL ls))
def sealT (ls : List (List En)) : List UInt8 × Int := if slE ls 0 ≠ 0 then ([], slE ls 0) else sealG (frameB [frameB (ls.map b4E), filB ls])
theorem slE_bad {ls : List (List En)} {k s : Nat} {es : List En} (h : ls[k]? = some es) (hb : (buildE 4 es).2 ≠ 0) : slE (ls.drop k) s = (buildE 4 es).2 := by
  rw [List.drop_eq_getElem?_toList_append, h]
  simp only [Option.toList_some, List.singleton_append, slE]
  rw [if_pos hb]
theorem slE_big {ls : List (List En)} {k s : Nat} {es : List En} (h : ls[k]? = some es) (hb : (buildE 4 es).2 = 0) (hs : 1048576 < s + (b4E es).length) : slE (ls.drop k) s = 2 := by
  rw [List.drop_eq_getElem?_toList_append, h]
  simp only [Option.toList_some, List.singleton_append, slE]
  rw [if_neg (fun h => h hb), if_pos hs]
theorem slE_on {ls : List (List En)} {k s : Nat} {es : List En} (h : ls[k]? = some es) (hb : (buildE 4 es).2 = 0) (hs : ¬ 1048576 < s + (b4E es).length) : slE (ls.drop k) s = slE (ls.drop (k + 1)) (s + (b4E es).length) := by
  rw [List.drop_eq_getElem?_toList_append, h]
  simp only [Option.toList_some, List.singleton_append, slE]
  rw [if_neg (fun h => h hb), if_neg hs]
theorem keysL_step {ls : List (List En)} {k : Nat} {es : List En} (h : ls[k]? = some es) : keysL (ls.take (k + 1)) = keysL (ls.take k) ++ es.map (·.key) := by
  unfold keysL
  rw [List.take_add_one, h]
  simp
theorem b4_step {ls : List (List En)} {k : Nat} {es : List En} (h : ls[k]? = some es) : (ls.take (k + 1)).map b4E = (ls.take k).map b4E ++ [b4E es] := by
  rw [List.take_add_one, h]
  simp
theorem key_step {es : List En} {k : Nat} {x : En} (h : es[k]? = some x) : (es.take (k + 1)).map (·.key) = (es.take k).map (·.key) ++ [x.key] := by
  rw [List.take_add_one, h]
  simp

/-- The blocks made so far, each in memory of its own. -/
def BlO (base : Nat) (w : World) (bss : List (List UInt8)) (bvs : List Value) : Prop := bvs.length = bss.length ∧ ∀ (i : Nat) v x, bvs[i]? = some v → bss[i]? = some x → ∃ A n c, v = .slice A n c ∧ Own 5 w base A n c x
/-- The keys found so far, read where the entries are. -/
def KyO (w0 : World) (kss : List (List UInt8)) (kvs : List Value) : Prop := kvs.length = kss.length ∧ ∀ (i : Nat) v x, kvs[i]? = some v → kss[i]? = some x → ElB w0 v x
theorem at_snoc {α : Type} {l : List α} {a b : α} {i : Nat} (h : (l ++ [a])[i]? = some b) : (i < l.length ∧ l[i]? = some b) ∨ (i = l.length ∧ b = a) := by
  rcases Nat.lt_or_ge i l.length with h1 | h1
  · rw [List.getElem?_append_left h1] at h
    exact .inl ⟨h1, h⟩
  · rw [List.getElem?_append_right h1] at h
    obtain ⟨h2, h3⟩ := List.getElem?_eq_some_iff.1 h
    simp at h2
    exact .inr ⟨by omega, by rw [← h3]; simp⟩
theorem BlO.snoc {base : Nat} {w : World} {bss : List (List UInt8)} {bvs : List Value} (h : BlO base w bss bvs) {A : Option Addr} {n c : Nat} {x : List UInt8} (ho : Own 5 w base A n c x) : BlO base w (bss ++ [x]) (bvs ++ [.slice A n c]) := by
  refine ⟨by rw [List.length_append, List.length_append, h.1]; rfl, fun i v y hv hy => ?_⟩
  rcases at_snoc hv with ⟨h1, h2⟩ | ⟨h1, h2⟩
  · rcases at_snoc hy with ⟨h3, h4⟩ | ⟨h3, h4⟩
    · exact h.2 i v y h2 h4
    · have := h.1; omega
  · rcases at_snoc hy with ⟨h3, h4⟩ | ⟨h3, h4⟩
    · have := h.1; omega
    · subst h2 h4
      exact ⟨A, n, c, rfl, ho⟩
theorem KyO.snoc {w0 : World} {kss : List (List UInt8)} {kvs : List Value} (h : KyO w0 kss kvs) {v : Value} {x : List UInt8} (hx : ElB w0 v x) : KyO w0 (kss ++ [x]) (kvs ++ [v]) := by
  refine ⟨by rw [List.length_append, List.length_append, h.1]; rfl, fun i u y hv hy => ?_⟩
  rcases at_snoc hv with ⟨h1, h2⟩ | ⟨h1, h2⟩
  · rcases at_snoc hy with ⟨h3, h4⟩ | ⟨h3, h4⟩
    · exact h.2 i u y h2 h4
    · have := h.1; omega
  · rcases at_snoc hy with ⟨h3, h4⟩ | ⟨h3, h4⟩
    · have := h.1; omega
    · subst h2 h4
      exact hx
/-- What stands in the loop over the groups. -/
def SlS (w0 : World) (B : Option Addr) (m d : Nat) (bss : List (List UInt8)) (G : Option Addr) (gm gd : Nat) (kss : List (List UInt8)) (wr : World) : Prop :=
  ∃ bvs kvs, OwnV 28 wr w0.heap.size B m d bvs ∧ OwnV 28 wr w0.heap.size G gm gd kvs ∧ Dj B G ∧ BlO w0.heap.size wr bss bvs ∧ KyO w0 kss kvs ∧ Below w0.heap.size w0 wr
theorem SlS.bel {w0 : World} {B : Option Addr} {m d : Nat} {bss : List (List UInt8)} {G : Option Addr} {gm gd : Nat} {kss : List (List UInt8)} {wr : World} (h : SlS w0 B m d bss G gm gd kss wr) : Below w0.heap.size w0 wr := by
  obtain ⟨bvs, kvs, h1, h2, h3, h4, h5, h6⟩ := h
  exact h6
theorem BlO.below {base : Nat} {w w' : World} {bss : List (List UInt8)} {bvs : List Value} (h : BlO base w bss bvs) (hb : Below w.heap.size w w') : BlO base w' bss bvs :=
  ⟨h.1, fun i v x hv hx => by
    obtain ⟨A, n, c, e, ho⟩ := h.2 i v x hv hx
    exact ⟨A, n, c, e, ho.below hb⟩⟩
theorem BlO.kept {base : Nat} {w w' : World} {bss : List (List UInt8)} {bvs : List Value} (h : BlO base w bss bvs) {L : Option Addr} {b1 n c : Nat} {vs : List Value} (hl : OwnV 28 w b1 L n c vs) (hg : w.grownBy w' (blk L)) : BlO base w' bss bvs :=
  ⟨h.1, fun i v x hv hx => by
    obtain ⟨A, n, c, e, ho⟩ := h.2 i v x hv hx
    have hd := ownV_ne hl ho (by decide)
    exact ⟨A, n, c, e, ho.kept hg (fun b hb e => hd b e hb)⟩⟩
theorem SlS.below {w0 : World} {B : Option Addr} {m d : Nat} {bss : List (List UInt8)} {G : Option Addr} {gm gd : Nat} {kss : List (List UInt8)} {wr wx : World} (h : SlS w0 B m d bss G gm gd kss wr) (hb : Below wr.heap.size wr wx) : SlS w0 B m d bss G gm gd kss wx := by
  obtain ⟨bvs, kvs, h1, h2, h3, h4, h5, h6⟩ := h
  exact ⟨bvs, kvs, h1.below hb, h2.below hb, h3, h4.below hb, h5, h6.trans (hb.mono h6.size)⟩
theorem SlS.zero (w : World) : SlS w none 0 0 [] none 0 0 [] w :=
  ⟨[], [], OwnV.nil _ _ _, OwnV.nil _ _ _, dj_none none, ⟨rfl, fun i v x h => by simp at h⟩, ⟨rfl, fun i v x h => by simp at h⟩, Below.refl _ _⟩
theorem SlS.addB {w0 : World} {B : Option Addr} {m d : Nat} {bss : List (List UInt8)} {G : Option Addr} {gm gd : Nat} {kss : List (List UInt8)} {wr w3 : World} {bvs kvs : List Value}
    (h1 : OwnV 28 wr w0.heap.size B m d bvs) (h2 : OwnV 28 wr w0.heap.size G gm gd kvs) (h3 : Dj B G) (h4 : BlO w0.heap.size wr bss bvs) (h5 : KyO w0 kss kvs) (h6 : Below w0.heap.size w0 wr)
    {A : Option Addr} {n c : Nat} {x : List UInt8} (ho : Own 5 wr w0.heap.size A n c x) {B' : Option Addr} {m' d' : Nat} (k1 : OwnV 28 w3 w0.heap.size B' m' d' (bvs ++ [.slice A n c])) (hg : wr.grownBy w3 (blk B)) (hB : blk B' = blk B ∨ blk B' = some wr.heap.size) :
    SlS w0 B' m' d' (bss ++ [x]) G gm gd kss w3 := by
  refine ⟨_, kvs, k1, h2.kept hg (fun b hb e => h3 b e hb), fun b e1 e2 => ?_, (h4.snoc ho).kept h1 hg, h5, h6.grown hg h6.size (fun k hk => (h1.lt k hk).1)⟩
  rcases hB with e | e
  · exact h3 b (by rw [← e]; exact e1) e2
  · rw [e] at e1
    injection e1 with e1
    have := (h2.lt b e2).2
    omega
theorem SlS.addK {w0 : World} {B : Option Addr} {m d : Nat} {bss : List (List UInt8)} {G : Option Addr} {gm gd : Nat} {kss : List (List UInt8)} {wr w3 : World} {bvs kvs : List Value}
    (h1 : OwnV 28 wr w0.heap.size B m d bvs) (h2 : OwnV 28 wr w0.heap.size G gm gd kvs) (h3 : Dj B G) (h4 : BlO w0.heap.size wr bss bvs) (h5 : KyO w0 kss kvs) (h6 : Below w0.heap.size w0 wr)
    {v : Value} {x : List UInt8} (ho : ElB w0 v x) {G' : Option Addr} {m' d' : Nat} (k1 : OwnV 28 w3 w0.heap.size G' m' d' (kvs ++ [v])) (hg : wr.grownBy w3 (blk G)) (hB : blk G' = blk G ∨ blk G' = some wr.heap.size) :
    SlS w0 B m d bss G' m' d' (kss ++ [x]) w3 := by
  refine ⟨bvs, _, h1.kept hg (fun b hb e => h3 b hb e), k1, fun b e1 e2 => ?_, h4.kept h2 hg, h5.snoc ho, h6.grown hg h6.size (fun k hk => (h2.lt k hk).1)⟩
  rcases hB with e | e
  · exact h3 b e1 (by rw [← e]; exact e2)
  · rw [e] at e2
    injection e2 with e2
    have := (h1.lt b e1).2
    omega
/-- The keys' row, known whole. -/
theorem OwnV.cl {w : World} {base n c : Nat} {L : Option Addr} {vs : List Value} {t : TypeId} (h : OwnV t w base L n c vs) (hn : 0 < n) : ∃ g arr, L = some ⟨g, 0, none⟩ ∧ base ≤ g ∧ Cl w g arr t ∧ n ≤ arr.size ∧ n ≤ c ∧ ∀ (i : Nat) v, vs[i]? = some v → arr[i]? = some v := by
  obtain ⟨h1, h2⟩ := h
  rcases h2 with ⟨_, h3⟩ | ⟨g, cap, cur, e, hb, hh, h4, h5, h6, h7⟩
  · omega
  · injection e with e1 e2 e3
    refine ⟨g, cur, e1, hb, hh, by omega, by omega, fun i v hv => ?_⟩
    rw [← h7, List.getElem?_take] at hv
    split at hv
    · rw [Array.getElem?_toList] at hv; exact hv
    · cases hv
theorem BlO.rdl {base : Nat} {w : World} {bss : List (List UInt8)} {bvs : List Value} (h : BlO base w bss bvs) {B : Option Addr} {m : Nat} (hr : RdV w B m bvs) : RdL w B m bss :=
  hr.rdl (by rw [← h.1, hr.len]) (fun i v x hv hx => by
    obtain ⟨A, n, c, e, ho⟩ := h.2 i v x hv hx
    subst e
    exact elb_own ho)
end Go.Proofs.YtlnpicfkcahdbaaGreat
namespace Go.Proofs.YtlnpicfkcahdbaaGreat
open Go Go.RowKit Go.Maps

def Ar (D : DS) (left : Int) (armed : Bool) : Prop :=
  (D.dead = false → armed = decide (0 ≤ D.arm) ∧ (0 ≤ D.arm → left = D.arm)) ∧ (0 ≤ left ∧ left ≤ 9223372036854775807) ∧ (-1 ≤ D.arm ∧ D.arm ≤ 9223372036854775807)
/-- 'The disk at block p is D, and lies in the blocks bl.' -/
def DK (w : World) (p : Nat) (bl : List Nat) (D : DS) : Prop :=
  ∃ m rs left armed, DskR w p m rs (D.room : Int) (usedF D.fs : Int) left D.dead armed ∧ bl = allB p m rs ∧ rs.map FR.val = D.fs ∧ Ar D left armed ∧ risingF D.fs ∧ usedF D.fs ≤ D.room ∧ D.room ≤ 9223372036854775807
/-- 'The disk is of a size that can be.' -/
def SzD (D : DS) : Prop := usedF D.fs ≤ 1099511627776 ∧ D.fs.length ≤ 1099511627776 ∧ ∀ f ∈ D.fs, f.1.length ≤ 1099511627776
def RetDK (w : World) (p : Nat) (bl : List Nat) (D : DS) (v : Value) (e : Ending) (w' : World) : Prop :=
  e = .returned v ∧ ∃ bl', DK w' p bl' D ∧ Fr w w' bl ∧ ∀ b ∈ bl', b ∈ bl ∨ w.heap.size ≤ b

section
variable {w w' : World} {p : Nat} {bl : List Nat} {D : DS}
theorem DK.fr {bl2 : List Nat} (h : DK w p bl D) (hf : Fr w w' bl2) (ho : ∀ b ∈ bl, b ∉ bl2) : DK w' p bl D := by
  obtain ⟨m, rs, left, armed, h1, rfl, h3⟩ := h
  exact ⟨m, rs, left, armed, h1.fr hf ho, rfl, h3⟩
theorem DK.lt (h : DK w p bl D) : ∀ b ∈ bl, b < w.heap.size := by
  obtain ⟨m, rs, left, armed, h1, rfl, h3⟩ := h
  exact h1.lt
theorem DK.below (h : DK w p bl D) (hb : Below w.heap.size w w') : DK w' p bl D := h.fr (Fr.of_below hb []) (fun _ _ h => by cases h)
theorem DK.drewN (h : DK w p bl D) (q : Nat) : DK (w.drewN q) p bl D := h.fr (Fr.drewN (Fr.refl w []) q) (fun _ _ h => by cases h)
theorem DK.grown {row : Option Nat} (h : DK w p bl D) (hg : w.grownBy w' row) (hr : ∀ b, row = some b → b ∉ bl) : DK w' p bl D :=
  h.fr (Fr.of_grown (bl := row.toList) hg (fun b hb => by rw [hb]; simp)) (fun b hb hm => by
    cases row with
    | none => simp at hm
    | some k => simp at hm; exact hr k rfl (by rw [← hm]; exact hb))
theorem DK.up (h : DK w p bl D) : risingF D.fs := by obtain ⟨_, _, _, _, _, _, _, _, h, _⟩ := h; exact h
theorem DK.room (h : DK w p bl D) : usedF D.fs ≤ D.room ∧ D.room ≤ 9223372036854775807 := by obtain ⟨_, _, _, _, _, _, _, _, _, h⟩ := h; exact h
theorem DK.arm (h : DK w p bl D) : -1 ≤ D.arm ∧ D.arm ≤ 9223372036854775807 := by obtain ⟨_, _, _, _, _, _, _, h, _⟩ := h; exact h.2.2
theorem DK.saf (h : DK w p bl D) : ∀ f ∈ D.fs, f.2.2 ≤ f.2.1.length := by
  obtain ⟨m, rs, left, armed, h1, rfl, h3, _⟩ := h
  intro f hf
  rw [← h3] at hf
  obtain ⟨r, hr, rfl⟩ := List.mem_map.1 hf
  exact (h1.2.2.1 r hr).2.2
theorem DK.head (h : DK w p bl D) : p ∈ bl := by
  obtain ⟨m, rs, left, armed, h1, rfl, h3, _⟩ := h
  exact mem_head
/-- What turn makes of an armed one. -/
theorem Ar.kill {left : Int} {armed : Bool} (h : Ar D left armed) (hd : D.dead = false) (h0 : D.arm = 0) : armed = true ∧ left = 0 ∧ tE armed left = 9 ∧ tL armed left = 0 ∧ tD false armed left = true ∧ tA armed left = false := by
  have h1 := (h.1 hd).1
  have h2 := (h.1 hd).2 (by omega)
  rw [h0] at h1 h2
  subst h1 h2
  exact ⟨rfl, rfl, rfl, rfl, rfl, rfl⟩
theorem Ar.step {left : Int} {armed : Bool} (h : Ar D left armed) (hd : D.dead = false) (h0 : D.arm ≠ 0) (fs' : List FE) :
    tE armed left = 0 ∧ tD false armed left = false ∧ tA armed left = armed ∧ Ar ⟨fs', D.room, armN D.arm, D.dead⟩ (tL armed left) armed := by
  obtain ⟨h1, h2, h3⟩ := h
  obtain ⟨h4, h5⟩ := h1 hd
  by_cases hn : 0 ≤ D.arm
  · have e1 : armed = true := by rw [h4]; simpa using hn
    have e2 := h5 hn
    subst e1 e2
    refine ⟨by simp [tE, h0], by simp [tD, h0], by simp [tA, h0], fun _ => ⟨?_, fun _ => ?_⟩, ?_, ?_⟩
    · simp only [armN]; split <;> simp <;> omega
    · simp only [armN, tL]; rw [if_pos ⟨trivial, h0⟩, if_pos (by omega)]
    · simp only [tL]; rw [if_pos ⟨trivial, h0⟩]; omega
    · simp only [armN]; split <;> omega
  · have e1 : armed = false := by rw [h4]; simpa using hn
    subst e1
    refine ⟨by simp [tE], by simp [tD], by simp [tA], fun _ => ⟨?_, fun h => ?_⟩, ?_, ?_⟩
    · simp only [armN]; split <;> simp <;> omega
    · simp only [armN] at h; split at h <;> omega
    · simp only [tL]; simp only [Bool.false_eq_true, false_and, if_false]; exact h2
    · simp only [armN]; split <;> omega
theorem Ar.dead {left : Int} (hl : 0 ≤ left ∧ left ≤ 9223372036854775807) (ha : -1 ≤ D.arm ∧ D.arm ≤ 9223372036854775807) (fs' : List FE) (armed : Bool) : Ar ⟨fs', D.room, D.arm, true⟩ left armed :=
  ⟨fun h => Bool.noConfusion h, hl, ha⟩
theorem upR {rs : List FR} {fs : List FE} (e : rs.map FR.val = fs) (h : risingF fs) : rsUp rs := rsUp_of (by rw [e]; exact h)
theorem no_name {rs : List FR} {fs : List FE} {x : List UInt8} (e : rs.map FR.val = fs) (h : getF x fs = none) : ∀ r ∈ rs, r.name ≠ x := fun r hr hx =>
  getF_no h r.val (by rw [← e]; exact List.mem_map.2 ⟨r, hr, rfl⟩) hx
theorem at_name {rs : List FR} {fs : List FE} {x : List UInt8} {g : List UInt8 × Nat} (e : rs.map FR.val = fs) (h : getF x fs = some g) : ∃ r ∈ rs, r.name = x ∧ r.dat = g.1 ∧ r.saf = g.2 := by
  obtain ⟨r, hr, e1, e2, e3⟩ := of_name e (getF_mem h)
  exact ⟨r, hr, e1, e2, e3⟩
theorem maxLen_ge {n : Nat} (h : n ≤ 1099511627776) : n ≤ maxLen := by unfold maxLen; omega
theorem putR_fs {rs : List FR} {fs : List FE} {r' : FR} {x dat : List UInt8} {saf : Nat} (e : rs.map FR.val = fs) (h1 : r'.name = x) (h2 : r'.dat = dat) (h3 : r'.saf = saf) : (putR r' rs).map FR.val = putF (x, dat, saf) fs := by
  rw [putR_val, e]
  unfold FR.val
  rw [h1, h2, h3]

/-- A call that did nothing. -/
theorem RetDK.stay {D : DS} {v : Value} (h : DK w p bl D) (hf : Fr w w' bl) (hw : w'.heap = w.heap) : RetDK w p bl D v (.returned v) w' := by
  refine ⟨rfl, bl, ?_, hf, fun b hb => .inl hb⟩
  exact h.fr (bl2 := []) ⟨hf.os, hf.tape, hf.output, hf.size, fun k _ _ => by rw [hw]⟩ (fun _ _ h => by cases h)

theorem append_DK (x : List UInt8) (B : Option Addr) (n c : Nat) (ys : List UInt8) (h : DK w p bl D) (hz : SzD D) (hB : Rd w B n ys) (hBo : ∀ b, blk B = some b → b ∉ bl) (hn : n ≤ 1099511627776) (hx : x.length ≤ 1099511627776) :
    Calls Tryz.prog 111 #[.pointer (some ⟨p, 0, none⟩), .string (tx x), .slice B n c] w (RetDK w p bl (appendD D x ys).1 (.int .i64 (appendD D x ys).2)) := by
  have hk := h
  obtain ⟨m, rs, left, armed, h1, rfl, h3, h4, h5, h6, h7⟩ := h
  have hl := hB.len
  obtain ⟨s1, s2, s3⟩ := hz
  by_cases hd : D.dead = true
  · have e : appendD D x ys = (D, 9) := by rw [appendD, if_pos hd]
    rw [e]
    rw [hd] at h1
    refine (append_dead x B n c h1).mono ?_
    rintro e w' ⟨rfl, rfl⟩
    exact RetDK.stay hk (Fr.refl _ _) rfl
  · have hd' : D.dead = false := by simpa using hd
    rw [hd'] at h1
    by_cases hf : D.room < usedF D.fs + n
    · have e : appendD D x ys = (D, 8) := by rw [appendD, if_neg hd, hl, if_pos hf]
      rw [e]
      refine (append_full x B n c _ _ h1 hf h6 h7 (maxLen_ge hx)).mono ?_
      rintro e w' ⟨rfl, q, rfl⟩
      exact RetDK.stay hk ((Fr.refl _ _).drewN q) rfl
    · have hup := upR h3 h5
      have huse := appF_used (x := x) (ys := ys) h5
      have hupf := appF_up (x := x) (ys := ys) h5
      cases hg : getF x D.fs with
      | none =>
        have hfs : appF x ys D.fs = putF (x, ys, 0) D.fs := by rw [appF, hg]
        refine (append_new x B n c ys _ _ h1 hup (no_name h3 hg) hB hBo (by omega) h7 hn hx (by rw [← List.length_map (f := FR.val), h3]; exact s2) h4.2.1).mono ?_
        rintro e w' ⟨rfl, r', m', g1, g2, g3, g4, g5, g6⟩
        have hv : (putR r' rs).map FR.val = appF x ys D.fs := by rw [hfs]; exact putR_fs h3 g1 g2 g3
        by_cases h0 : D.arm = 0
        · obtain ⟨k1, k2, k3, k4, k5, k6⟩ := h4.kill hd' h0
          have e : appendD D x ys = (⟨appF x ys D.fs, D.room, D.arm, true⟩, 9) := by rw [appendD, if_neg hd, hl, if_neg hf, if_pos h0]
          rw [e, k3]
          rw [k4, k5, k6] at g4
          refine ⟨rfl, _, ⟨m', _, 0, false, ?_, rfl, hv, Ar.dead (by omega) h4.2.2 _ _, hupf, ?_, h7⟩, g5, g6⟩
          · simp only [huse, hl]; exact g4
          · simp only; omega
        · obtain ⟨k1, k2, k3, k4⟩ := h4.step hd' h0 (appF x ys D.fs)
          have e : appendD D x ys = (⟨appF x ys D.fs, D.room, armN D.arm, D.dead⟩, 0) := by rw [appendD, if_neg hd, hl, if_neg hf, if_neg h0]
          rw [e, k1]
          rw [k2, k3] at g4
          refine ⟨rfl, _, ⟨m', _, _, armed, ?_, rfl, hv, k4, hupf, ?_, h7⟩, g5, g6⟩
          · simp only [huse, hl, hd']; exact g4
          · simp only; omega
      | some g =>
        have hfs : appF x ys D.fs = putF (x, g.1 ++ ys, g.2) D.fs := by rw [appF, hg]
        obtain ⟨r, hr, r1, r2, r3⟩ := at_name h3 hg
        have hgl : g.1.length ≤ usedF D.fs := usedF_mem (getF_mem hg)
        subst r1
        refine (append_old B n c ys _ _ h1 hup hr hB (by omega) h7 hn (by rw [r2]; omega) (maxLen_ge hx) h4.2.1).mono ?_
        rintro e w' ⟨rfl, r', g1, g2, g3, g4, g5, g6⟩
        rw [r2] at g2
        rw [r3] at g3
        have hv : (putR r' rs).map FR.val = appF r.name ys D.fs := by rw [hfs]; exact putR_fs h3 g1 g2 g3
        by_cases h0 : D.arm = 0
        · obtain ⟨k1, k2, k3, k4, k5, k6⟩ := h4.kill hd' h0
          have e : appendD D r.name ys = (⟨appF r.name ys D.fs, D.room, D.arm, true⟩, 9) := by rw [appendD, if_neg hd, hl, if_neg hf, if_pos h0]
          rw [e, k3]
          rw [k4, k5, k6] at g4
          refine ⟨rfl, _, ⟨m, _, 0, false, ?_, rfl, hv, Ar.dead (by omega) h4.2.2 _ _, hupf, ?_, h7⟩, g5, g6⟩
          · simp only [huse, hl]; exact g4
          · simp only; omega
        · obtain ⟨k1, k2, k3, k4⟩ := h4.step hd' h0 (appF r.name ys D.fs)
          have e : appendD D r.name ys = (⟨appF r.name ys D.fs, D.room, armN D.arm, D.dead⟩, 0) := by rw [appendD, if_neg hd, hl, if_neg hf, if_neg h0]
          rw [e, k1]
          rw [k2, k3] at g4
          refine ⟨rfl, _, ⟨m, _, _, armed, ?_, rfl, hv, k4, hupf, ?_, h7⟩, g5, g6⟩
          · simp only [huse, hl, hd']; exact g4
          · simp only; omega

theorem doneD_dead {e : Int} {fs' : List FE} (h : D.dead = true) : doneD D e fs' = (D, 9) := by rw [doneD, if_pos h]
theorem doneD_err {e : Int} {fs' : List FE} (h : ¬ D.dead = true) (he : e ≠ 0) : doneD D e fs' = (D, e) := by rw [doneD, if_neg h, if_pos he]
theorem doneD_kill {fs' : List FE} (h : ¬ D.dead = true) (h0 : D.arm = 0) : doneD D 0 fs' = (⟨D.fs, D.room, D.arm, true⟩, 9) := by rw [doneD, if_neg h, if_neg (by simp), if_pos h0]
theorem doneD_ok {fs' : List FE} (h : ¬ D.dead = true) (h0 : D.arm ≠ 0) : doneD D 0 fs' = (⟨fs', D.room, armN D.arm, D.dead⟩, 0) := by rw [doneD, if_neg h, if_neg (by simp), if_neg h0]
theorem noneE_none {x : List UInt8} {fs : List FE} (h : getF x fs = none) : noneE x fs = 6 := by rw [noneE, h]; rfl
theorem noneE_some {x : List UInt8} {fs : List FE} {g : List UInt8 × Nat} (h : getF x fs = some g) : noneE x fs = 0 := by rw [noneE, h]; rfl
/-- A turning call that kills the disk. -/
theorem DK.killed {m : Option Nat} {rs : List FR} {left : Int} (h1 : DskR w p m rs (D.room : Int) (usedF D.fs : Int) left false true) (h3 : rs.map FR.val = D.fs) (ha : -1 ≤ D.arm ∧ D.arm ≤ 9223372036854775807) (h5 : risingF D.fs) (h6 : usedF D.fs ≤ D.room) (h7 : D.room ≤ 9223372036854775807)
    {v : Value} {e : Ending} (hr : RetHd w p (headV m (D.room : Int) (usedF D.fs : Int) 0 true false) v e w') : RetDK w p (allB p m rs) ⟨D.fs, D.room, D.arm, true⟩ v e w' := by
  obtain ⟨rfl, hd⟩ := hr
  refine ⟨rfl, _, ⟨m, rs, 0, false, h1.turn hd.1 hd.2, rfl, h3, Ar.dead (by omega) ha _ _, h5, h6, h7⟩, hd.1.mono (fun b hb => .inl ?_), fun b hb => .inl hb⟩
  rw [List.mem_singleton] at hb
  rw [hb]
  exact mem_head
theorem RetDK.no {k : Int} {e : Ending} (h : DK w p bl D) (hr : RetNo w k e w') : RetDK w p bl D (.int .i64 k) e w' := by
  obtain ⟨rfl, rfl⟩ := hr
  exact RetDK.stay h (Fr.refl _ _) rfl

theorem sync_DK (x : List UInt8) (h : DK w p bl D) (hx : x.length ≤ 1099511627776) :
    Calls Tryz.prog 112 #[.pointer (some ⟨p, 0, none⟩), .string (tx x)] w (RetDK w p bl (syncD D x).1 (.int .i64 (syncD D x).2)) := by
  have hk := h
  obtain ⟨m, rs, left, armed, h1, rfl, h3, h4, h5, h6, h7⟩ := h
  unfold syncD
  by_cases hd : D.dead = true
  · rw [doneD_dead hd]
    rw [hd] at h1
    exact (sync_dead x h1).mono fun e w' hr => RetDK.no hk hr
  · have hd' : D.dead = false := by simpa using hd
    rw [hd'] at h1
    have hup := upR h3 h5
    cases hg : getF x D.fs with
    | none =>
      rw [noneE_none hg, doneD_err hd (by decide)]
      exact (sync_none x h1 (no_name h3 hg) (maxLen_ge hx)).mono fun e w' hr => RetDK.no hk hr
    | some g =>
      rw [noneE_some hg]
      obtain ⟨r, hr, r1, r2, r3⟩ := at_name h3 hg
      subst r1
      by_cases h0 : D.arm = 0
      · rw [doneD_kill hd h0]
        obtain ⟨k1, k2, _⟩ := h4.kill hd' h0
        subst k1 k2
        exact (sync_kill h1 hr (maxLen_ge hx)).mono fun e w' hr => DK.killed h1 h3 h4.2.2 h5 h6 h7 hr
      · rw [doneD_ok hd h0]
        obtain ⟨k1, k2, k3, k4⟩ := h4.step hd' h0 (syncF r.name D.fs)
        refine (sync_some h1 hup hr (maxLen_ge hx) h4.2.1 k1).mono ?_
        rintro e w' ⟨rfl, r', g1, g2, g3, g4, g5, g6⟩
        rw [r2] at g2 g3
        have hv : (putR r' rs).map FR.val = syncF r.name D.fs := by rw [syncF, hg]; exact putR_fs h3 g1 g2 g3
        refine ⟨rfl, _, ⟨m, _, _, armed, ?_, rfl, hv, k4, syncF_up h5, ?_, h7⟩, g5, g6⟩
        · simp only [syncF_used h5, hd']; exact g4
        · simp only [syncF_used h5]; exact h6

theorem remove_DK (x : List UInt8) (h : DK w p bl D) (hx : x.length ≤ 1099511627776) :
    Calls Tryz.prog 110 #[.pointer (some ⟨p, 0, none⟩), .string (tx x)] w (RetDK w p bl (removeD D x).1 (.int .i64 (removeD D x).2)) := by
  have hk := h
  obtain ⟨m, rs, left, armed, h1, rfl, h3, h4, h5, h6, h7⟩ := h
  unfold removeD
  by_cases hd : D.dead = true
  · rw [doneD_dead hd]
    rw [hd] at h1
    exact (remove_dead x h1).mono fun e w' hr => RetDK.no hk hr
  · have hd' : D.dead = false := by simpa using hd
    rw [hd'] at h1
    have hup := upR h3 h5
    cases hg : getF x D.fs with
    | none =>
      rw [noneE_none hg, doneD_err hd (by decide)]
      exact (remove_none x h1 (no_name h3 hg) (maxLen_ge hx)).mono fun e w' hr => RetDK.no hk hr
    | some g =>
      rw [noneE_some hg]
      obtain ⟨r, hr, r1, r2, r3⟩ := at_name h3 hg
      subst r1
      by_cases h0 : D.arm = 0
      · rw [doneD_kill hd h0]
        obtain ⟨k1, k2, _⟩ := h4.kill hd' h0
        subst k1 k2
        exact (remove_kill h1 hr (maxLen_ge hx)).mono fun e w' hr => DK.killed h1 h3 h4.2.2 h5 h6 h7 hr
      · rw [doneD_ok hd h0]
        obtain ⟨k1, k2, k3, k4⟩ := h4.step hd' h0 (delF r.name D.fs)
        have hgl : g.1.length ≤ usedF D.fs := usedF_mem (getF_mem hg)
        have hdu := usedF_delx r.name h5
        rw [lenF_some hg] at hdu
        refine (remove_some _ h1 hup hr (maxLen_ge hx) h4.2.1 k1 (by rw [r2]; exact hgl) (by omega)).mono ?_
        rintro e w' ⟨rfl, g4, g5⟩
        have hv : (delR r.name rs).map FR.val = delF r.name D.fs := by rw [delR_val, h3]
        have hu' : usedF (delF r.name D.fs) = usedF D.fs - r.dat.length := by rw [r2]; omega
        refine ⟨rfl, _, ⟨m, _, _, armed, ?_, rfl, hv, k4, delF_up h5, ?_, h7⟩, g5, fun b hb => .inl (mem_delB hb)⟩
        · simp only [hu', hd']; exact g4
        · simp only; omega

theorem rename_DK (x y : List UInt8) (h : DK w p bl D) (hz : SzD D) (hx : x.length ≤ 1099511627776) (hy : y.length ≤ 1099511627776) :
    Calls Tryz.prog 113 #[.pointer (some ⟨p, 0, none⟩), .string (tx x), .string (tx y)] w (RetDK w p bl (renameD D x y).1 (.int .i64 (renameD D x y).2)) := by
  have hk := h
  obtain ⟨m, rs, left, armed, h1, rfl, h3, h4, h5, h6, h7⟩ := h
  unfold renameD
  by_cases hd : D.dead = true
  · rw [doneD_dead hd]
    rw [hd] at h1
    exact (rename_dead x y h1).mono fun e w' hr => RetDK.no hk hr
  · have hd' : D.dead = false := by simpa using hd
    rw [hd'] at h1
    have hup := upR h3 h5
    cases hg : getF x D.fs with
    | none =>
      rw [noneE_none hg, doneD_err hd (by decide)]
      exact (rename_none x y h1 (no_name h3 hg) (maxLen_ge hx)).mono fun e w' hr => RetDK.no hk hr
    | some g =>
      rw [noneE_some hg]
      obtain ⟨r, hr, r1, r2, r3⟩ := at_name h3 hg
      subst r1
      by_cases h0 : D.arm = 0
      · rw [doneD_kill hd h0]
        obtain ⟨k1, k2, _⟩ := h4.kill hd' h0
        subst k1 k2
        exact (rename_kill y h1 hr (maxLen_ge hx)).mono fun e w' hr => DK.killed h1 h3 h4.2.2 h5 h6 h7 hr
      · rw [doneD_ok hd h0]
        obtain ⟨k1, k2, k3, k4⟩ := h4.step hd' h0 (renF r.name y D.fs)
        by_cases hne : r.name = y
        · subst hne
          have e1 : renF r.name r.name D.fs = D.fs := by rw [renF, if_pos rfl]
          rw [e1] at k4 ⊢
          refine (rename_same h1 hr (maxLen_ge hx) h4.2.1 k1).mono ?_
          rintro e w' ⟨rfl, hh⟩
          refine ⟨rfl, _, ⟨m, rs, _, armed, ?_, rfl, h3, k4, h5, h6, h7⟩, hh.1.mono (fun b hb => .inl ?_), fun b hb => .inl hb⟩
          · simp only [hd']
            exact h1.turn hh.1 hh.2
          · rw [List.mem_singleton] at hb
            rw [hb]
            exact mem_head
        · have hru := renF_used h5 hne hg
          have hll := lenF_le y D.fs
          have hlr := lenR_val y rs hup
          rw [h3] at hlr
          obtain ⟨s1, s2, _⟩ := hz
          refine (rename_some y _ h1 hup hr hx hy h4.2.1 k1 hne (by rw [hlr]; exact hll) (by omega) (by rw [← List.length_map (f := FR.val), h3]; exact s2)).mono ?_
          rintro e w' ⟨rfl, r', m', g1, g2, g3, g4, g5, g6⟩
          rw [r2] at g2
          rw [r3] at g3
          have hv : (putR r' (delR r.name (delR y rs))).map FR.val = renF r.name y D.fs := by
            rw [renF, if_neg hne, hg]
            exact putR_fs (by rw [delR_val, delR_val, h3]) g1 g2 g3
          have hu' : usedF (renF r.name y D.fs) = usedF D.fs - lenR y rs := by rw [hlr]; omega
          refine ⟨rfl, _, ⟨m', _, _, armed, ?_, rfl, hv, k4, renF_up h5, ?_, h7⟩, g5, g6⟩
          · simp only [hu', hd']; exact g4
          · simp only; omega

theorem read_DK (x : List UInt8) (h : DK w p bl D) (hz : SzD D) (hx : x.length ≤ 1099511627776) :
    Calls Tryz.prog 47 #[.pointer (some ⟨p, 0, none⟩), .string (tx x)] w (RetRd w (readD D x).1 (readD D x).2) := by
  obtain ⟨m, rs, left, armed, h1, rfl, h3, h4, h5, h6, h7⟩ := h
  unfold readD
  by_cases hd : D.dead = true
  · rw [if_pos hd]
    rw [hd] at h1
    exact read_dead x h1
  · rw [if_neg hd]
    have hd' : D.dead = false := by simpa using hd
    rw [hd'] at h1
    cases hg : getF x D.fs with
    | none => exact read_none x h1 (no_name h3 hg) (maxLen_ge hx)
    | some g =>
      obtain ⟨r, hr, r1, r2, r3⟩ := at_name h3 hg
      subst r1
      have hgl : g.1.length ≤ usedF D.fs := usedF_mem (getF_mem hg)
      have := read_some h1 hr (maxLen_ge hx) (by rw [r2]; have := hz.1; omega)
      rw [r2] at this
      exact this
theorem list_DK (pre : List UInt8) (h : DK w p bl D) (hz : SzD D) :
    Calls Tryz.prog 19 #[.pointer (some ⟨p, 0, none⟩), .string (tx pre)] w (RetNm w (listD D pre)) := by
  obtain ⟨m, rs, left, armed, h1, rfl, h3, h4, h5, h6, h7⟩ := h
  obtain ⟨s1, s2, s3⟩ := hz
  unfold listD
  by_cases hd : D.dead = true
  · rw [if_pos hd]
    rw [hd] at h1
    exact list_dead pre h1
  · rw [if_neg hd]
    have hd' : D.dead = false := by simpa using hd
    rw [hd'] at h1
    have e : (D.fs.map (·.1)).filter (fun x => Lib.hasPrefix x pre) = nmR pre rs := by
      rw [← h3, nmR, List.map_map]
      rfl
    rw [e]
    exact list_live pre h1 (upR h3 h5) (by rw [← List.length_map (f := FR.val), h3]; exact s2) (fun r hr => s3 r.val (by rw [← h3]; exact List.mem_map.2 ⟨r, hr, rfl⟩))
theorem dead_DK (h : DK w p bl D) : Calls Tryz.prog 15 #[.pointer (some ⟨p, 0, none⟩)] w fun e' w' => e' = .returned (.bool D.dead) ∧ w = w' := by
  obtain ⟨m, rs, left, armed, h1, _⟩ := h
  exact Dead_any h1
theorem arm_DK (n : Int) (h : DK w p bl D) (hn : I64 n) :
    Calls Tryz.prog 11 #[.pointer (some ⟨p, 0, none⟩), .int .i64 n] w (RetDK w p bl (armD D n) (.tuple #[])) := by
  have hk := h
  obtain ⟨m, rs, left, armed, h1, rfl, h3, h4, h5, h6, h7⟩ := h
  unfold armD
  by_cases hd : D.dead = true
  · rw [if_pos hd]
    rw [hd] at h1
    refine (Arm_dead n h1).mono ?_
    rintro e w' ⟨rfl, rfl⟩
    exact RetDK.stay hk (Fr.refl _ _) rfl
  · rw [if_neg hd]
    have hd' : D.dead = false := by simpa using hd
    rw [hd'] at h1
    refine (Arm_live n h1 hn).mono ?_
    rintro e w' ⟨rfl, hh⟩
    unfold I64 at hn
    refine ⟨rfl, _, ⟨m, rs, max n 0, decide (0 ≤ n), ?_, rfl, h3, ⟨fun _ => ⟨?_, fun h => ?_⟩, by omega, ?_⟩, h5, h6, h7⟩, hh.1.mono (fun b hb => .inl ?_), fun b hb => .inl hb⟩
    · simp only [hd']
      exact h1.turn hh.1 hh.2
    · simp only; split <;> simp <;> omega
    · simp only at h ⊢; split at h <;> omega
    · simp only; split <;> omega
    · rw [List.mem_singleton] at hb
      rw [hb]
      exact mem_head
theorem cr_used (ks : List Int) : ∀ (l : List FE) (acc : List FE × Nat), usedF (l.foldl (crStep ks) acc).1 ≤ usedF acc.1 + usedF l
  | [], acc => by simp [usedF_nil]
  | f :: t, acc => by
    rw [List.foldl_cons]
    have h1 := cr_used ks t (crStep ks acc f)
    have h2 : usedF (crStep ks acc f).1 ≤ usedF acc.1 + f.2.1.length := by
      unfold crStep
      split
      · rw [usedF_app, usedF_cons, usedF_nil]; omega
      · rw [usedF_app, usedF_cons, usedF_nil]
        simp only [cutE, List.length_take]
        omega
    rw [usedF_cons]
    omega
theorem crP_used (ks : List Int) (l : List FE) : usedF (crP ks l).1 ≤ usedF l := by
  have := cr_used ks l ([], 0)
  simpa [crP, usedF_nil] using this
theorem crash_DK (K : Option Addr) (nk ck : Nat) (ks : List Int) (h : DK w p bl D) (hz : SzD D)
    (hK : RdV w K nk (ivs ks)) (hKo : 0 < nk → ∀ b, blk K = some b → b ∉ bl) (hnk : nk ≤ 1099511627776) (hkz : ∀ z ∈ ks, I64 z) :
    Calls Tryz.prog 16 #[.pointer (some ⟨p, 0, none⟩), .slice K nk ck] w (RetDK w p bl (crashD D ks) (.tuple #[])) := by
  obtain ⟨m, rs, left, armed, h1, rfl, h3, h4, h5, h6, h7⟩ := h
  obtain ⟨s1, s2, s3⟩ := hz
  rw [← h3] at h1 s1
  have := Crash_any K nk ck ks h1 (upR h3 h5) (by rw [← List.length_map (f := FR.val), h3]; exact s2) (fun r hr => s3 r.val (by rw [← h3]; exact List.mem_map.2 ⟨r, hr, rfl⟩)) s1 hK hKo hnk hkz
  rw [h3] at this
  refine this.mono ?_
  rintro e w' ⟨rfl, rs', e1, hD, hF, hB⟩
  have hu := crP_used ks D.fs
  refine ⟨rfl, _, ⟨m, rs', left, false, hD, rfl, e1, ⟨fun _ => ⟨rfl, fun h => ?_⟩, h4.2.1, show (-1 : Int) ≤ -1 by omega, show (-1 : Int) ≤ 9223372036854775807 by omega⟩, risingF_names (crP_names ks D.fs) h5, ?_, h7⟩, hF, hB⟩
  · exact absurd h (show ¬ (0 : Int) ≤ -1 by decide)
  · show usedF (crP ks D.fs).1 ≤ D.room; omega
def RetNK (w : World) (D : DS) (e : Ending) (w' : World) : Prop := ∃ p bl, e = .returned (.pointer (some ⟨p, 0, none⟩)) ∧ DK w' p bl D ∧ (∀ b ∈ bl, w.heap.size ≤ b) ∧ Below w.heap.size w w'
theorem new_DK (n : Int) (w : World) (hn : I64 n) : Calls Tryz.prog 10 #[.int .i64 n] w (RetNK w ⟨[], n.toNat, -1, false⟩) := by
  have hn2 := hn
  unfold I64 at hn
  have fin : RetNK w ⟨[], n.toNat, -1, false⟩ (.returned (.pointer (some ⟨w.heap.size, 0, none⟩))) (w.alloc (.cells (headV none (n.toNat : Int) 0 0 false false) 108)) :=
    ⟨w.heap.size, _, rfl, ⟨none, [], 0, false, DskR.init w _, rfl, rfl, ⟨fun _ => ⟨rfl, fun h => absurd h (show ¬ (0 : Int) ≤ -1 by decide)⟩, by omega, by simp only; omega⟩, List.Pairwise.nil, Nat.zero_le _, by simp only; omega⟩,
      (fun b hb => by simp [allB] at hb; omega), (Below.refl _ _).alloc (Nat.le_refl _) _⟩
  have HF := Lib.hid fin
  clear fin
  by_cases h0 : 0 ≤ n
  · have h2 : (n.toNat : Int) = n := by omega
    rw [h2] at HF
    have h3 : max n 0 = n := by omega
    go_enter Tryz.func10, Tryz.ntmps10
    go_wp2
    go_ret
    exact HF.out
  · have h2 : (n.toNat : Int) = 0 := by omega
    rw [h2] at HF
    have h3 : max n 0 = 0 := by omega
    go_enter Tryz.func10, Tryz.ntmps10
    go_wp2
    go_ret
    exact HF.out
theorem RetDK.step {w0 : World} {v : Value} {e : Ending} (hr : RetDK w p bl D v e w') (hb0 : Below w0.heap.size w0 w) (hB : ∀ b ∈ bl, w0.heap.size ≤ b) :
    e = .returned v ∧ ∃ bl', DK w' p bl' D ∧ Fr w w' bl ∧ (∀ b ∈ bl', b ∈ bl ∨ w.heap.size ≤ b) ∧ (∀ b ∈ bl', w0.heap.size ≤ b) ∧ Below w0.heap.size w0 w' := by
  obtain ⟨rfl, bl', h1, h2, h3⟩ := hr
  have hs := hb0.size
  exact ⟨rfl, bl', h1, h2, h3, fun b hb => by rcases h3 b hb with h | h; exact hB b h; omega, hb0.trans (h2.below hB hs)⟩
end
end Go.Proofs.YtlnpicfkcahdbaaGreat
