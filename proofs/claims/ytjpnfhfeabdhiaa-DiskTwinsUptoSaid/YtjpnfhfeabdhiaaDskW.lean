/- The program's Crash: of each tail a beginning stays. -/
import Derived.Test.YtjpnfhfeabdhiaaDskK
namespace Go.Proofs.Ytjpnfhfeabdhiaa
open Go Go.RowKit Go.Maps Go.Proofs

theorem RdV.fr {w w' : World} {bl : List Nat} {A : Option Addr} {n : Nat} {vs : List Value} (h : RdV w A n vs) (hf : Fr w w' bl) (ho : 0 < n → ∀ b, blk A = some b → b ∉ bl) : RdV w' A n vs := by
  refine ⟨h.1, fun hn => ?_⟩
  obtain ⟨b, off, rfl, h2, h3⟩ := h.2 hn
  refine ⟨b, off, rfl, Nat.lt_of_lt_of_le h2 hf.size, fun i x hx => ?_⟩
  exact (World.cell?_of_block (a := ⟨b, off + i, none⟩) (hf.block b h2 (ho hn b rfl))).trans (h3 i x hx)
theorem RdV.lt' {w : World} {A : Option Addr} {n : Nat} {vs : List Value} (h : RdV w A n vs) (hn : 0 < n) : ∀ b, blk A = some b → b < w.heap.size := fun b hb => by
  obtain ⟨b', off, rfl, h2⟩ := h.pos hn
  injection hb with hb
  rw [← hb]
  exact h2
def ivs (ks : List Int) : List Value := ks.map fun z => .int .i64 z
theorem ivs_at {w : World} {b off n : Nat} {ks : List Int} (h : RdV w (some ⟨b, off, none⟩) n (ivs ks)) (k : Nat) (hk : k < n) : ∃ z, ks[k]? = some z ∧ w.cell? ⟨b, off + k, none⟩ = some (.int .i64 z) := by
  obtain ⟨v, h1, h2⟩ := h.at_ k hk
  unfold ivs at h1
  rw [List.getElem?_map] at h1
  cases hx : ks[k]? with
  | none => rw [hx] at h1; cases h1
  | some z =>
    rw [hx] at h1
    injection h1 with h1
    subst h1
    exact ⟨z, rfl, h2⟩
theorem nm_at {w : World} {b off n : Nat} {ns : List (List UInt8)} (h : RdV w (some ⟨b, off, none⟩) n (ns.map encStr)) (k : Nat) (hk : k < n) : ∃ x, ns[k]? = some x ∧ w.cell? ⟨b, off + k, none⟩ = some (.string (tx x)) := by
  obtain ⟨v, h1, h2⟩ := h.at_ k hk
  rw [List.getElem?_map] at h1
  cases hx : ns[k]? with
  | none => rw [hx] at h1; cases h1
  | some z =>
    rw [hx] at h1
    injection h1 with h1
    subst h1
    exact ⟨z, rfl, h2⟩
theorem nmR_all (rs : List FR) : nmR [] rs = (rs.map FR.val).map (·.1) := by
  unfold nmR
  rw [List.filter_eq_self.2 (fun x _ => by simp [Lib.hasPrefix]), List.map_map]
  rfl

/-- 'The disk behind the crash.' -/
def RetCr (w : World) (p : Nat) (m : Option Nat) (rs : List FR) (fs' : List FE) (room left : Int) (e : Ending) (w' : World) : Prop :=
  e = .returned (.tuple #[]) ∧ ∃ rs', rs'.map FR.val = fs' ∧ DskR w' p m rs' room (usedF fs' : Int) left false false ∧ Fr w w' (allB p m rs) ∧ ∀ b ∈ allB p m rs', b ∈ allB p m rs ∨ w.heap.size ≤ b

section
variable {w : World} {p : Nat} {m : Option Nat} {rs : List FR} {room left : Int} {dead armed : Bool}
set_option maxRecDepth 100000 in
set_option maxHeartbeats 8000000 in
theorem Crash_any (K : Option Addr) (nk ck : Nat) (ks : List Int) (h : DskR w p m rs room (usedF (rs.map FR.val) : Int) left dead armed) (hu : rsUp rs) (hrs : rs.length ≤ 1099511627776) (hnl : ∀ r ∈ rs, r.name.length ≤ 1099511627776) (hud : usedF (rs.map FR.val) ≤ 1099511627776)
    (hK : RdV w K nk (ivs ks)) (hKo : 0 < nk → ∀ b, blk K = some b → b ∉ allB p m rs) (hnk : nk ≤ 1099511627776) (hkz : ∀ z ∈ ks, I64 z) :
    Calls Try.prog 59 #[.pointer (some ⟨p, 0, none⟩), .slice K nk ck] w (RetCr w p m rs (crP ks (rs.map FR.val)).1 room left) := by
  have hKl : ks.length = nk := by have := hK.len; simpa [ivs] using this
  obtain ⟨fs, hfs⟩ : ∃ fs, fs = rs.map FR.val := ⟨_, rfl⟩
  have hfup : risingF fs := by rw [hfs]; unfold risingF; rw [List.pairwise_map]; exact hu
  have hfl : fs.length = rs.length := by rw [hfs, List.length_map]
  have hfn : nmR [] rs = fs.map (·.1) := by rw [nmR_all, hfs]
  have hfnl : ∀ f ∈ fs, f.1.length ≤ 1099511627776 := fun f hf => by
    rw [hfs] at hf
    obtain ⟨r, hr, rfl⟩ := List.mem_map.1 hf
    exact hnl r hr
  rw [← hfs] at h hud ⊢
  have HN := Lib.hid (names_any [] h hu hrs hnl)
  rw [hfn] at HN
  have HFS := Lib.hid hfs
  have HFUP := Lib.hid hfup
  have HFNL := Lib.hid hfnl
  have HKZ := Lib.hid hkz
  have HKO := Lib.hid hKo
  have HKL := Lib.hid hKl
  have hfl2 : fs.length ≤ 1099511627776 := by omega
  clear hfs hfup hfn hfnl hkz hKo hKl hfl hnl
  go_enter Try.func59, Try.ntmps59
  go_wp2_with fail
  refine HN.out.mono ?_
  clear HN
  rintro e w1 ⟨N, nn, nc, rfl, oN, hb1⟩
  have hnn : nn = fs.length := by rw [← oN.len]; simp
  have hNlt := fun b (hb : blk N = some b) => oN.lt b hb
  have hD1 := h.fr (Fr.of_below hb1 []) (fun b _ h => by cases h)
  have hK1 := hK.below hb1
  have hF1 : Fr w w1 (allB p m rs) := Fr.of_below hb1 _
  have hN1 := oN.rd
  have hNo : ∀ b, blk N = some b → b ∉ allB p m rs := fun b hb hm => by have := (hNlt b hb).1; have := h.lt b hm; omega
  have HD1 := Lib.hid hD1
  have HF1 := Lib.hid hF1
  have HNO := Lib.hid hNo
  have hs1 := hb1.size
  have HNN := Lib.hid hnn
  have hnn2 : nn ≤ 1099511627776 := by omega
  clear hD1 hF1 hNo h hK hb1 oN hNlt hnn
  go_wp2
  go_loopw [4, 13] (fun vt vi wr => ∃ (i u : Nat) (rsI : List FR), vt = .int .i64 ((crP ks (fs.take i)).2 : Int) ∧ vi = .int .i64 i ∧ i ≤ nn ∧ DskR wr p m rsI room (u : Int) left dead armed ∧ rsI.map FR.val = (crP ks (fs.take i)).1 ++ fs.drop i ∧ u = usedF ((crP ks (fs.take i)).1 ++ fs.drop i) ∧ u ≤ usedF fs ∧
    RdV wr N nn ((fs.map (·.1)).map encStr) ∧ RdV wr K nk (ivs ks) ∧ Fr w wr (allB p m rs) ∧ (∀ b ∈ allB p m rsI, b ∈ allB p m rs ∨ w.heap.size ≤ b) ∧ (∀ b, blk N = some b → b ∉ allB p m rsI) ∧ (0 < nk → ∀ b, blk K = some b → b ∉ allB p m rsI)) (fun _ vi _ => nn - (intOf vi).toNat)
  case atStart =>
    refine ⟨0, usedF fs, rs, rfl, rfl, Nat.zero_le _, HD1.out, ?_, ?_, Nat.le_refl _, hN1, hK1, HF1.out, fun b hb => .inl hb, HNO.out, HKO.out⟩
    · rw [List.take_zero, crP_zero, List.drop_zero]; exact HFS.out.symm
    · rw [List.take_zero, crP_zero, List.drop_zero]; rfl
  case round =>
    clear HD1 hN1 hK1 HF1 HNO
    obtain ⟨i, u, rsI, rfl, rfl, hi, hD, hval, hus, huu, hN, hK, hF, hB, hNo, hKo⟩ := hrel
    have HV := Lib.hid hval
    have HUS := Lib.hid hus
    have HF := Lib.hid hF
    have HB := Lib.hid hB
    have HNo := Lib.hid hNo
    have HKo := Lib.hid hKo
    have hcnt := crP_cnt ks (fs.take i)
    have hlt' : (fs.take i).length ≤ i := List.length_take_le _ _
    obtain ⟨T, hT⟩ : ∃ T, T = (crP ks (fs.take i)).2 := ⟨_, rfl⟩
    rw [← hT] at hcnt ⊢
    have HT := Lib.hid hT
    clear hval hus hF hB hNo hKo hT
    by_cases hin : i < nn
    · have hil : i < fs.length := by have := HNN.out; omega
      obtain ⟨f, hf⟩ : ∃ f, fs[i]? = some f := ⟨fs[i], List.getElem?_eq_getElem hil⟩
      have hdrop : fs.drop i = f :: fs.drop (i + 1) := by
        obtain ⟨hi2, rfl⟩ := List.getElem?_eq_some_iff.1 hf
        exact List.drop_eq_getElem_cons hi2
      obtain ⟨L, hL⟩ : ∃ L, L = (crP ks (fs.take i)).1 := ⟨_, rfl⟩
      obtain ⟨R, hR⟩ : ∃ R, R = fs.drop (i + 1) := ⟨_, rfl⟩
      have hval : rsI.map FR.val = L ++ f :: R := by rw [HV.out, hdrop, hL, hR]
      have hus : u = usedF (L ++ f :: R) := by rw [HUS.out, hdrop, hL, hR]
      have hup : risingF (L ++ f :: R) := by
        refine risingF_names (b := fs) ?_ HFUP.out
        rw [List.map_append, hL, crP_names, hR, ← hdrop, ← List.map_append, List.take_append_drop]
      have hrsu : rsUp rsI := rsUp_of (by rw [hval]; exact hup)
      obtain ⟨r, hr, hrv⟩ : ∃ r ∈ rsI, r.val = f := by
        have : f ∈ rsI.map FR.val := by rw [hval]; simp
        obtain ⟨r, hr, e⟩ := List.mem_map.1 this
        exact ⟨r, hr, e⟩
      have hfm : f ∈ fs := List.mem_of_getElem? hf
      have hrl : r.name.length ≤ 1099511627776 := by
        have := HFNL.out f hfm
        rw [← hrv] at this
        exact this
      have hlen : r.dat.length ≤ u := by
        rw [hus]
        have : f.2.1.length ≤ usedF (L ++ f :: R) := usedF_mem (by simp)
        rw [← hrv] at this ⊢
        exact this
      obtain ⟨c0, _⟩ := hD.head
      have hlk := hD.2.1.look_some hr (by unfold maxLen; omega)
      have hfa := hD.2.2.1 r hr
      obtain ⟨d0, d1⟩ := hfa.cells
      have hsl := hfa.2.2
      obtain ⟨bN, offN, rfl, _⟩ := hN.pos (by omega)
      obtain ⟨x, hx, hcx⟩ := nm_at hN i hin
      have hxr : x = r.name := by
        rw [List.getElem?_map, hf] at hx
        injection hx with hx
        rw [← hx, ← hrv]
        rfl
      subst hxr
      obtain ⟨tl, htl⟩ : ∃ tl : Nat, tl = r.dat.length - r.saf := ⟨_, rfl⟩
      have i0 : IntKind.i64.wrap ((r.dat.length : Int) - (r.saf : Int)) = (tl : Int) := by
        rw [IntWalk.i64_in _ (by omega)]; omega
      have hstep := crP_take (ks := ks) hf
      have HST : Hid (crP ks (fs.take (i + 1)) = crStep ks (L, T) f) := Lib.hid (by rw [hstep, hL, HT.out])
      have HVAL := Lib.hid hval
      have HUSD := Lib.hid hus
      have HUP := Lib.hid hup
      have HRV := Lib.hid hrv
      have HRR := Lib.hid hR
      have HTL := Lib.hid htl
      have HCX := Lib.hid hx
      clear hval hus hup hrv hR htl hx hstep hdrop hL HV HUS hf hfm hfa
      by_cases ht0 : tl = 0
      · subst ht0
        have HZ : Hid (crP ks (fs.take (i + 1)) = (L ++ [f], T)) := Lib.hid (by
          rw [HST.out, crStep, if_pos]
          rw [← HRV.out]
          show r.dat.length = r.saf
          have := HTL.out
          omega)
        have HX : Hid ((crP ks (fs.take (i + 1))).1 ++ fs.drop (i + 1) = L ++ f :: R) := Lib.hid (by rw [HZ.out, HRR.out]; simp)
        have HX2 : Hid ((crP ks (fs.take (i + 1))).2 = T) := Lib.hid (by rw [HZ.out])
        have HD := Lib.hid hD
        have HN' := Lib.hid hN
        have HK' := Lib.hid hK
        clear hD hN hK
        go_wp2
        go_quiet (fail)
        go_wp2
        go_roundw
        case rel => exact ⟨i + 1, u, rsI, by rw [HX2.out], by go_num, by omega, HD.out, by rw [HVAL.out, HX.out], by rw [HUSD.out, HX.out], huu, HN'.out, HK'.out, HF.out.drewN _, HB.out, HNo.out, HKo.out⟩
        case measure => simp [intOf]; omega
      · have hb0 : ((tl : Int) == 0) = false := by simp; omega
        obtain ⟨kp, hkp⟩ : ∃ kp, kp = keepN ks T tl := ⟨_, rfl⟩
        have hkpl : kp ≤ tl := by rw [hkp]; exact keepN_le ks T tl
        obtain ⟨kk, hkk⟩ : ∃ kk, kk = r.saf + kp := ⟨_, rfl⟩
        have hkl : kk ≤ r.dat.length := by have := HTL.out; omega
        have i3 : IntKind.i64.wrap ((r.saf : Int) + (kp : Int)) = (kk : Int) := by
          rw [IntWalk.i64_in _ (by omega)]; omega
        have hru : r.dat.length ≤ u := hlen
        have HZ : Hid (crP ks (fs.take (i + 1)) = (L ++ [cutE ks T f], T + 1)) := Lib.hid (by
          rw [HST.out, crStep, if_neg]
          rw [← HRV.out]
          show ¬ r.dat.length = r.saf
          have := HTL.out
          omega)
        have HKPV := Lib.hid hkp
        have hcutE : cutE ks T f = (r.name, r.dat.take kk, kk) := by
          rw [← HRV.out]
          show (r.name, r.dat.take (r.saf + keepN ks T (r.dat.length - r.saf)), r.saf + keepN ks T (r.dat.length - r.saf)) = _
          rw [← HTL.out, ← HKPV.out, ← hkk]
        have HCE := Lib.hid hcutE
        have HFIN : Hid (∀ (W w' : World) (e : Ending), Fr wr W [] → RetFile W p m rsI r (r.dat.take kk) kk room ((u - (r.dat.length - kk) : Nat) : Int) left dead armed (.tuple #[]) e w' →
            e = .returned (.tuple #[]) ∧ ∀ q, ∃ (u' : Nat) (rs' : List FR), DskR (w'.drewN q) p m rs' room (u' : Int) left dead armed ∧ rs'.map FR.val = (crP ks (fs.take (i + 1))).1 ++ fs.drop (i + 1) ∧ u' = usedF ((crP ks (fs.take (i + 1))).1 ++ fs.drop (i + 1)) ∧ u' ≤ usedF fs ∧
              RdV (w'.drewN q) (some ⟨bN, offN, none⟩) nn ((fs.map (·.1)).map encStr) ∧ RdV (w'.drewN q) K nk (ivs ks) ∧ Fr w (w'.drewN q) (allB p m rs) ∧ (∀ b ∈ allB p m rs', b ∈ allB p m rs ∨ w.heap.size ≤ b) ∧ (∀ b, blk (some (⟨bN, offN, none⟩ : Addr)) = some b → b ∉ allB p m rs') ∧ (0 < nk → ∀ b, blk K = some b → b ∉ allB p m rs')) := Lib.hid (by
          rintro W w' e hW ⟨rfl, r', hn', hd', hs', hD', hF', hB'⟩
          refine ⟨rfl, fun q => ⟨_, _, hD'.fr (Fr.drewN (Fr.refl _ []) q) (fun _ _ h => by cases h), ?_, ?_, by omega, ?_, ?_, ?_, ?_, ?_, ?_⟩⟩
          · rw [putR_val, HVAL.out, HZ.out, ← HRR.out]
            have e1 : r'.val = cutE ks T f := by rw [HCE.out]; unfold FR.val; rw [hn', hd', hs']
            rw [e1, putF_mid (f := f) (g := cutE ks T f) rfl HUP.out]
            simp
          · rw [HUSD.out, HZ.out, ← HRR.out]
            have e2 : f.2.1 = r.dat := by rw [← HRV.out]; rfl
            simp only [usedF_app, usedF_cons, usedF_nil, HCE.out, e2, List.length_take]
            omega
          · exact ((hN.fr hW (fun _ b _ h => by cases h)).fr hF' (fun _ => HNo.out)).fr (Fr.drewN (Fr.refl _ []) q) (fun _ b _ h => by cases h)
          · exact ((hK.fr hW (fun _ b _ h => by cases h)).fr hF' HKo.out).fr (Fr.drewN (Fr.refl _ []) q) (fun _ b _ h => by cases h)
          · exact ((HF.out.trans hW (fun b h => by cases h)).trans hF' HB.out).drewN q
          · intro b hb
            rcases hB' b hb with h1 | h1
            · exact HB.out b h1
            · exact .inr (Nat.le_trans (Nat.le_trans HF.out.size hW.size) h1)
          · intro b hb hm
            rcases hB' b hm with h1 | h1
            · exact HNo.out b hb h1
            · have := hN.lt' (by omega) b hb
              have := hW.size
              omega
          · intro hk0 b hb hm
            rcases hB' b hm with h1 | h1
            · exact HKo.out hk0 b hb h1
            · have := hK.lt' hk0 b hb
              have := hW.size
              omega)
        have HX2 : Hid ((crP ks (fs.take (i + 1))).2 = T + 1) := Lib.hid (by rw [HZ.out])
        have HT1 : Hid (IntKind.i64.wrap ((T : Int) + 1) = ((T + 1 : Nat) : Int)) := Lib.hid (by rw [IntWalk.i64_in _ (by omega)]; omega)
        have HDD := Lib.hid hD
        have HN' := Lib.hid hN
        have HK' := Lib.hid hK
        have htlb : tl ≤ r.dat.length := by have := HTL.out; omega
        clear HST HVAL HUSD HUP HRV HRR HTL HCX HZ HCE hcutE hkp hN HF HB HNo HKo
        by_cases hnk0 : nk = 0
        · subst hnk0
          have hkp0 : kp = 0 := by
            rw [HKPV.out]
            have : ks = [] := List.eq_nil_of_length_eq_zero HKL.out
            rw [this, keepN_nil]
          subst hkp0
          obtain rfl : kk = r.saf := hkk
          clear hK
          go_wp2
          go_quiet (fail)
          go_wp2_with fail
          refine (shorten_any r.saf u (HDD.out.fr (Fr.drewN (Fr.refl wr []) nq) (fun b _ h => by cases h)) hrsu hr hkl hru (by omega) (by omega)).mono ?_
          rintro e w' hret
          obtain ⟨rfl, hx⟩ := HFIN.out _ w' e (Fr.drewN (Fr.refl wr []) _) hret
          clear hret HFIN d0 d1 c0
          go_wp2
          go_roundw
          case rel => 
            obtain ⟨u', rs', h1, h2, h3, h4, h5, h6, h7, h8, h9, h10⟩ := hx 0
            exact ⟨i + 1, u', rs', by rw [HX2.out, Int.natCast_add]; rfl, by go_num, by omega, h1, h2, h3, h4, h5, h6, h7, h8, h9, h10⟩
          case measure => simp [intOf]; omega
        · obtain ⟨bK, offK, rfl, _⟩ := hK.pos (by omega)
          obtain ⟨j, hj⟩ : ∃ j, j = T % nk := ⟨_, rfl⟩
          have hjl : j < nk := by rw [hj]; exact Nat.mod_lt _ (by omega)
          obtain ⟨z, hz, hcz⟩ := ivs_at hK j hjl
          have hzI := HKZ.out z (List.mem_of_getElem? hz)
          have hkpz : kp = z.toNat % (tl + 1) := by
            rw [HKPV.out]
            refine keepN_at ?_
            rw [HKL.out, ← hj]
            exact hz
          obtain ⟨zp, hzp⟩ : ∃ zp, zp = z.toNat := ⟨_, rfl⟩
          rw [← hzp] at hkpz
          have n0 : decide ((0 : Int) < (nk : Int)) = true := by simp; omega
          have n1 : ((nk : Int) == 0) = false := by simp; omega
          have n3 : (T : Int) % (nk : Int) = (j : Int) := by rw [hj]; simp
          have n4 : max z 0 = (zp : Int) := by omega
          have n5 : IntKind.i64.wrap ((tl : Int) + 1) = ((tl + 1 : Nat) : Int) := by rw [IntWalk.i64_in _ (by omega)]; omega
          have n6 : (zp : Int) % ((tl + 1 : Nat) : Int) = (kp : Int) := by rw [hkpz]; simp
          have n7 : wrap64 ((r.saf : Int) + (zp : Int) % ((tl : Int) + 1)) = (kk : Int) := by
            have e1 : (zp : Int) % ((tl : Int) + 1) = (kp : Int) := n6
            rw [e1]
            exact (IntWalk.i64_left _).symm.trans i3
          have N7 := Lib.hid n7
          clear n7
          have HJ := Lib.hid hj
          have HZP := Lib.hid hzp
          have HKPZ := Lib.hid hkpz
          have HHZ := Lib.hid hz
          clear hK hkk hj hzp hkpz hz
          go_wp2
          go_quiet (fail)
          go_wp2_with fail
          rw [N7.out]
          refine (shorten_any kk u (HDD.out.fr (Fr.drewN (Fr.refl wr []) nq) (fun b _ h => by cases h)) hrsu hr hkl hru (by omega) (by omega)).mono ?_
          rintro e w' hret
          obtain ⟨rfl, hx⟩ := HFIN.out _ w' e (Fr.drewN (Fr.refl wr []) _) hret
          clear hret HFIN d0 d1 c0 hcz
          go_wp2
          go_roundw
          case rel => 
            obtain ⟨u', rs', h1, h2, h3, h4, h5, h6, h7, h8, h9, h10⟩ := hx 0
            exact ⟨i + 1, u', rs', by rw [HX2.out, Int.natCast_add]; rfl, by go_num, by omega, h1, h2, h3, h4, h5, h6, h7, h8, h9, h10⟩
          case measure => simp [intOf]; omega
    · obtain rfl : i = nn := by omega
      have HH := Lib.hid (((Hd.refl hD.1).set 3 (.bool false)).set 4 (.bool false))
      obtain ⟨c0, c1, c2, c3, c4, c5⟩ := hD.head
      have f3 := hD.thaw 3
      have f4 := hD.thaw 4
      have htk : fs.take i = fs := List.take_of_length_le (by have := HNN.out; omega)
      have hdr : fs.drop i = [] := List.drop_of_length_le (by have := HNN.out; omega)
      have HTK := Lib.hid htk
      have HDR := Lib.hid hdr
      have HDD := Lib.hid hD
      clear hN hK htk hdr hD
      go_wp2
      go_end0
      refine ⟨rfl, rsI, ?_, ?_, ?_, HB.out⟩
      · rw [HV.out, HTK.out, HDR.out, List.append_nil]
      · have h1 := HDD.out.turn HH.out.1 HH.out.2
        rw [HUS.out, HTK.out, HDR.out, List.append_nil] at h1
        exact h1
      · exact HF.out.trans HH.out.1 (fun b hb => by rw [List.mem_singleton] at hb; subst hb; exact .inl mem_head)
end
end Go.Proofs.Ytjpnfhfeabdhiaa
