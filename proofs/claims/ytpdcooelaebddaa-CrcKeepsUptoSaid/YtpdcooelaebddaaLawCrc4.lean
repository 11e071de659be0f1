/- CrcKeeps: for every two lists of at most 1048576 bytes each the call returns true, and what was there stands. -/
import Derived.Test.YtpdcooelaebddaaLawCrc3
import Derived.Test.YtpdcooelaebddaaLawCrc2
import Derived.Test.YtpdcooelaebddaaFamD
namespace Go.Proofs.Ytpdcooelaebddaa
open Go Go.RowKit

theorem Own.rdPre {e : TypeId} {w : World} {base g n k : Nat} {xs : List UInt8} (h : Own e w base (some ⟨g, 0, none⟩) (n + 40) (n + 40) (xs ++ room n k)) (hx : xs.length = n) : Rd w (some ⟨g, 0, none⟩) n xs := by
  have := (h.prefix n (by omega) (by simp)).rd
  rw [List.take_left' hx] at this
  exact this
theorem Fam.mem_own {w : World} {base : Nat} {ps : List VB} (h : Fam w base ps) {A : Option Addr} {m c : Nat} {xs : List UInt8} (hp : (Value.slice A m c, xs) ∈ ps) : Own 5 w base A m c xs := by
  obtain ⟨A', m', c', e, ho⟩ := h.1 _ hp
  injection e with e1 e2 e3
  subst e1 e2 e3
  exact ho
theorem sealG_len (xs : List UInt8) : (sealG xs).1.length ≤ 1048584 := by
  unfold sealG
  split
  · simp
  · simp only [sealB_len]; omega

set_option maxRecDepth 100000 in
set_option maxHeartbeats 8000000 in
theorem crcKeeps_row (A : Option Addr) (la ca : Nat) (xs : List UInt8) (B : Option Addr) (lb cb : Nat) (ys : List UInt8) (w : World)
    (hx : Rd w A la xs) (hla : la ≤ ca) (hca : ca ≤ 1048576) (hy : Rd w B lb ys) (hlb : lb ≤ cb) (hcb : cb ≤ 1048576) :
    Calls Try.prog 7 #[.slice A la ca, .slice B lb cb] w (RetT w true) := by
  have hM : 1099511627776 ≤ maxLen := by unfold maxLen; omega
  have HM := Lib.hid hM
  have HXL := Lib.hid hx.len
  have HYL := Lib.hid hy.len
  clear hM
  go_enter Try.func7, Try.ntmps7
  go_wp2_with fail
  refine (awake3_any _).mono ?_
  rintro e w1 ⟨rfl, k1⟩
  have s1 := k1.size
  have a1 := hx.below k1
  have b1 := hy.below k1
  go_wp2_with fail
  refine (Spare_any A la ca xs _ a1 (by omega)).mono ?_
  rintro e w2 ⟨gx, rfl, ox, hb2⟩
  have s2 := hb2.size
  have gx1 := ox.lt gx rfl
  have k2 := k1.trans (hb2.mono s1)
  have a2 := a1.below hb2
  have b2 := b1.below hb2
  go_wp2_with fail
  refine (Spare_any B lb cb ys _ b2 (by omega)).mono ?_
  rintro e w3 ⟨gy, rfl, oy, hb3⟩
  have s3 := hb3.size
  have gy1 := oy.lt gy rfl
  have k3 := k2.trans (hb3.mono (by omega))
  have a3 := a2.below hb3
  have b3 := b2.below hb3
  have F3 : Fam w3 w1.heap.size [(.slice (some ⟨gx, 0, none⟩) (la + 40) (la + 40), xs ++ room la 40), (.slice (some ⟨gy, 0, none⟩) (lb + 40) (lb + 40), ys ++ room lb 40)] := Fam.ins (a := [(.slice (some ⟨gx, 0, none⟩) (la + 40) (la + 40), xs ++ room la 40)]) (b := []) (Fam.one ox) (Fam.one oy) hb3 (Nat.le_refl _) (by omega)
  have rx3 := (ox.below hb3).rdPre HXL.out
  have ry3 := oy.rdPre HYL.out
  obtain ⟨fX, hfX⟩ : ∃ p : VB, p = (.slice (some ⟨gx, 0, none⟩) (la + 40) (la + 40), xs ++ room la 40) := ⟨_, rfl⟩
  obtain ⟨fY, hfY⟩ : ∃ p : VB, p = (.slice (some ⟨gy, 0, none⟩) (lb + 40) (lb + 40), ys ++ room lb 40) := ⟨_, rfl⟩
  rw [← hfX, ← hfY] at F3
  have HFX := Lib.hid hfX
  have HFY := Lib.hid hfY
  clear hfX hfY ox oy hb2 hb3 k1 k2 a1 b1 a2 b2 hx hy
  have hl1 := sealG_len (xs ++ ys)
  rcases hg1 : sealG (xs ++ ys) with ⟨o1, e1⟩
  rw [hg1] at hl1
  have hl1 : o1.length ≤ 1048584 := hl1
  obtain ⟨n1, hn1⟩ : ∃ n1, n1 = o1.length := ⟨_, rfl⟩
  rw [← hn1] at hl1
  have HN1 : Hid (o1.length = n1) := Lib.hid hn1.symm
  have hfl : [xs, ys].flatten = xs ++ ys := by simp
  have HG1 : Hid (sealG [xs, ys].flatten = (o1, e1)) := Lib.hid (by rw [hfl, hg1])
  have hts2 : tot [xs, ys] ≤ 268435456 := by simp only [tot]; have := HXL.out; have := HYL.out; omega
  have hts1 : tot [xs] ≤ 268435456 := by simp only [tot]; have := HXL.out; omega
  clear hg1 hn1 hfl
  go_wp2_with fail
  have hS := Seal_any (some ⟨w3.heap.size, 0, none⟩) 2 2 [xs, ys] _ (rdl_two (w := w3) (t := 30) ⟨some ⟨gx, 0, none⟩, la, la + 40, rfl, rx3, by omega, fun h => by cases h⟩ ⟨some ⟨gy, 0, none⟩, lb, lb + 40, rfl, ry3, by omega, fun h => by cases h⟩ _ rfl) hts2
  rw [HG1.out] at hS
  refine hS.mono ?_
  clear hS
  rintro e w4 ⟨O, lo, co, rfl, oo0, hb4⟩
  have oo1 : Own 5 w4 w3.heap.size O lo co o1 := Own.mono oo0 (show w3.heap.size ≤ _ by simp)
  obtain rfl : lo = n1 := by rw [← oo1.len, HN1.out]
  have hb4 : Below w3.heap.size w3 w4 := ((Below.refl _ _).alloc (Nat.le_refl _) _).trans (hb4.mono (by simp))
  have s4 := hb4.size
  have k4 := k3.trans (hb4.mono (by omega))
  have a4 := a3.below hb4
  have b4 := b3.below hb4
  have rx4 := rx3.below hb4
  have ry4 := ry3.below hb4
  have F4 : Fam w4 w1.heap.size [(.slice O lo co, o1), fX, fY] := Fam.ins (a := []) (b := [fX, fY]) F3 (Fam.one oo1) hb4 (Nat.le_refl _) (by omega)
  have ro4 := oo1.rd
  clear F3 oo0 oo1 hb4 k3 a3 b3 rx3 ry3
  have hl2 := sealG_len xs
  rcases hg2 : sealG xs with ⟨o2, e2⟩
  rw [hg2] at hl2
  have hl2 : o2.length ≤ 1048584 := hl2
  have hfl : [xs].flatten = xs := by simp
  have HG2 : Hid (sealG [xs].flatten = (o2, e2)) := Lib.hid (by rw [hfl, hg2])
  have HL2 := Lib.hid hl2
  clear hg2 hfl hl2
  go_wp2_with fail
  have hS := Seal_any (some ⟨w4.heap.size, 0, none⟩) 1 1 [xs] _ (rdl_one (w := w4) (t := 30) ⟨some ⟨gx, 0, none⟩, la, la + 40, rfl, rx4, by omega, fun h => by cases h⟩ _ rfl) hts1
  rw [HG2.out] at hS
  refine hS.mono ?_
  clear hS
  rintro e w5 ⟨T, lt, ct, rfl, ot0, hb5⟩
  have ot1 : Own 5 w5 w4.heap.size T lt ct o2 := Own.mono ot0 (show w4.heap.size ≤ _ by simp)
  have hb5 : Below w4.heap.size w4 w5 := ((Below.refl _ _).alloc (Nat.le_refl _) _).trans (hb5.mono (by simp))
  have s5 := hb5.size
  have k5 := k4.trans (hb5.mono (by omega))
  have a5 := a4.below hb5
  have b5 := b4.below hb5
  have rx5 := rx4.below hb5
  have ry5 := ry4.below hb5
  have ro5 := ro4.below hb5
  have F5 : Fam w5 w1.heap.size ([(.slice O lo co, o1)] ++ ((.slice T lt ct, o2) :: [fX, fY])) := Fam.ins (a := [(.slice O lo co, o1)]) (b := [fX, fY]) F4 (Fam.one ot1) hb5 (Nat.le_refl _) (by omega)
  clear F4 ot0 ot1 hb5 k4 a4 b4 rx4 ry4 ro4
  go_wp2_with fail
  refine (Spare_any O lo co o1 _ ro5 (by omega)).mono ?_
  rintro e w6 ⟨gs, rfl, osp, hb6⟩
  have s6 := hb6.size
  have gs1 := osp.lt gs rfl
  have k6 := k5.trans (hb6.mono (by omega))
  have a6 := a5.below hb6
  have b6 := b5.below hb6
  have rx6 := rx5.below hb6
  have ry6 := ry5.below hb6
  have F6 : Fam w6 w1.heap.size ([(.slice O lo co, o1), (.slice T lt ct, o2), fX, fY] ++ ([(.slice (some ⟨gs, 0, none⟩) (lo + 40) (lo + 40), o1 ++ room lo 40)] ++ [])) := Fam.ins (a := [(.slice O lo co, o1), (.slice T lt ct, o2), fX, fY]) (b := []) F5 (Fam.one osp) hb6 (Nat.le_refl _) (by omega)
  have rs6 := osp.rdPre HN1.out
  obtain ⟨fS, hfS⟩ : ∃ p : VB, p = (.slice (some ⟨gs, 0, none⟩) (lo + 40) (lo + 40), o1 ++ room lo 40) := ⟨_, rfl⟩
  rw [← hfS] at F6
  have HFS := Lib.hid hfS
  clear hfS F5 osp hb6 k5 a5 b5 rx5 ry5 ro5
  have hO := Open_any (some ⟨gs, 0, none⟩) lo (lo + 40) ((0 : Nat) : Int) o1 w6 rs6 (by omega) (by omega) (fun h => by cases h) (by unfold I64; omega)
  have hlp := openG_len o1 ((0 : Nat) : Int)
  rcases hg3 : openG o1 ((0 : Nat) : Int) with ⟨pb, pnx, pe⟩
  rw [hg3] at hO hlp
  have HO := Lib.hid hO
  have HLP := Lib.hid hlp
  clear hO hg3 hlp
  go_wp2_with fail
  refine HO.out.mono ?_
  clear HO
  rintro e w7 ⟨V, lv, cv', rfl, ov, hb7⟩
  have s7 := hb7.size
  have k7 := k6.trans (hb7.mono (by omega))
  have a7 := a6.below hb7
  have b7 := b6.below hb7
  have rx7 := rx6.below hb7
  have ry7 := ry6.below hb7
  have rs7 := rs6.below hb7
  have F7 : Fam w7 w1.heap.size ([(.slice O lo co, o1), (.slice T lt ct, o2)] ++ ((.slice V lv cv', pb) :: [fX, fY, fS])) := Fam.ins (a := [(.slice O lo co, o1), (.slice T lt ct, o2)]) (b := [fX, fY, fS]) F6 (Fam.one ov) hb7 (Nat.le_refl _) (by omega)
  clear F6 ov hb7 k6 a6 b6 rx6 ry6 rs6
  have hA := OpenAll_any (some ⟨gs, 0, none⟩) lo (lo + 40) o1 w7 rs7 (by omega) (by omega) (fun h => by cases h)
  have hT := openAll_tot o1
  rcases hg4 : openAllG o1 with ⟨pl, ppos⟩
  rw [hg4] at hA hT
  have hT : tot pl ≤ o1.length := hT.1
  have HA := Lib.hid hA
  have HPT := Lib.hid hT
  clear hA hg4 hT
  go_wp2_with fail
  refine HA.out.mono ?_
  clear HA
  rintro e w8 ⟨P, np, cp, pp, rfl, rp, hpp⟩
  have hpp : pp.map (·.2) = pl := hpp
  have hb8 := rp.bel
  have s8 := hb8.size
  have k8 := k7.trans (hb8.mono (by omega))
  have a8 := a7.below hb8
  have b8 := b7.below hb8
  have rx8 := rx7.below hb8
  have ry8 := ry7.below hb8
  have rP8 := rp.own.rd
  have hnp := rp.len
  have F8 : Fam w8 w1.heap.size ([(.slice O lo co, o1), (.slice T lt ct, o2), (.slice V lv cv', pb)] ++ (pp ++ [fX, fY, fS])) := Fam.ins (a := [(.slice O lo co, o1), (.slice T lt ct, o2), (.slice V lv cv', pb)]) (b := [fX, fY, fS]) F7 rp.fam hb8 (Nat.le_refl _) (by omega)
  have h1c := rp.fam.one_cell
  have H1C := Lib.hid h1c
  have HPP := Lib.hid hpp
  have hnp2 : np ≤ lo := by
    have h1 := HPT.out
    have h2 := tot_len pl
    rw [← hpp, List.length_map] at h2
    have h3 := HN1.out
    rw [← hpp] at h1
    omega
  clear F7 hb8 k7 a7 b7 rx7 ry7 rs7 rp hpp hnp h1c
  go_wp2_with fail
  have hU := Sum_any (some ⟨w8.heap.size, 0, none⟩) 2 2 [xs, ys] _ (rdl_two (w := w8) (t := 30) ⟨some ⟨gx, 0, none⟩, la, la + 40, rfl, rx8, by omega, fun h => by cases h⟩ ⟨some ⟨gy, 0, none⟩, lb, lb + 40, rfl, ry8, by omega, fun h => by cases h⟩ _ rfl) (Nat.le_trans hts2 (by decide))
  refine hU.mono ?_
  clear hU
  rintro e w12 ⟨rfl, hb12⟩
  have hb12 : Below w8.heap.size w8 w12 := ((Below.refl _ _).alloc (Nat.le_refl _) _).trans (hb12.mono (by simp))
  have s12 := hb12.size
  have k12 := k8.trans (hb12.mono (by omega))
  have a12 := a8.below hb12
  have b12 := b8.below hb12
  have rP12 := rP8.below hb12
  have F12 := F8.below hb12
  clear F8 hb12 k8 a8 b8 rx8 ry8 rP8
  obtain ⟨lp, hlp⟩ : ∃ lp : List VB, lp = [(.slice O lo co, o1), (.slice T lt ct, o2), (.slice V lv cv', pb)] ++ pp := ⟨_, rfl⟩
  have F12' : Fam w12 w1.heap.size (lp ++ [fX, fY, fS]) := by rw [hlp, List.append_assoc]; exact F12
  have hlpf : lp.map (·.1) = Value.slice O lo co :: Value.slice T lt ct :: Value.slice V lv cv' :: pp.map (·.1) := by rw [hlp]; rfl
  have HMO : Hid ((Value.slice O lo co, o1) ∈ lp) := Lib.hid (by rw [hlp]; simp)
  have hlow : ∀ v ∈ (lp ++ [fX, fY, fS]).map (·.1), ∀ b, Value.ownBlock v = some b → b < w12.heap.size := fun v hv b hb => by
    obtain ⟨p, hp, rfl⟩ := List.mem_map.1 hv
    exact (F12'.lt hp hb).2
  have HLOW := Lib.hid hlow
  have hlpt : tot (lp.map (·.2)) ≤ 67108864 := by
    rw [hlp, List.map_append, tot_append, HPP.out]
    have h1 := HN1.out
    have h2 := HL2.out
    have h3 := HLP.out
    have h4 := HPT.out
    simp only [List.map_cons, List.map_nil, tot]
    omega
  have HF := Lib.hid F12'
  have HLF := Lib.hid hlpf
  have HLT := Lib.hid hlpt
  clear F12 F12' hlpf hlpt hlp hlow
  go_wp2_with (at_builtin; refine wpList_appV _ rfl _ _ 22 rfl w12.heap.size 30 _ 24 Try.underlying22 info_sl rfl (some ⟨w12.heap.size, 0, none⟩) 3 3 [.slice O lo co, .slice T lt ct, .slice V lv cv'] rfl (ownV_box w12 _ w12.heap.size _ 3 rfl (by omega) (Nat.le_refl _) _ rfl _ rfl) P np cp (pp.map (·.1)) rfl (rP12.alloc _) H1C.out ?_ ?_ ?_ ?_)
  · unfold maxLen; omega
  · omega
  · simp
  intro L cl w13 hL13 hg13 _
  rw [← HLF.out] at hL13
  have hb13 : Below w12.heap.size w12 w13 := ((Below.refl _ _).alloc (Nat.le_refl _) _).grown hg13 (by simp) (fun k hk => by injection hk with hk; simp only at hk; omega)
  have s13 := hb13.size
  have k13 := k12.trans (hb13.mono (by omega))
  have a13 := a12.below hb13
  have b13 := b12.below hb13
  have F13 := HF.out.below hb13
  have hLlt : ∀ b, blk L = some b → w12.heap.size ≤ b ∧ b < w13.heap.size := fun b hb => hL13.lt b hb
  clear hg13 hb13 k12 a12 b12 rP12 HF
  go_wp2_with fail
  refine (CopiesF_any L (3 + np) cl (lp.map (·.2)) _ (F13.left.rdl hL13.rd) (by have := HLT.out; omega)).mono ?_
  rintro e w14 ⟨C, nc, cc, cps, rfl, rc, hcps⟩
  obtain rfl : 3 + np = nc := by
    have h1 := congrArg List.length hcps
    have h2 := rc.len
    have h3 := hL13.len
    simp only [List.length_map] at h1 h3
    omega
  have hb14 := rc.bel
  have s14 := hb14.size
  have k14 := k13.trans (hb14.mono (by omega))
  have a14 := a13.below hb14
  have b14 := b13.below hb14
  have F14 := F13.below hb14
  have hL14 := hL13.below hb14
  have HCPS := Lib.hid hcps
  clear hb14 k13 a13 b13 F13 hL13 hcps
  rw [HFX.out, HFY.out, HFS.out] at F14
  have oX14 := F14.mem_own (A := some ⟨gx, 0, none⟩) (m := la + 40) (c := la + 40) (xs := xs ++ room la 40) (by simp)
  have oY14 := F14.mem_own (A := some ⟨gy, 0, none⟩) (m := lb + 40) (c := lb + 40) (xs := ys ++ room lb 40) (by simp)
  have oS14 := F14.mem_own (A := some ⟨gs, 0, none⟩) (m := lo + 40) (c := lo + 40) (xs := o1 ++ room lo 40) (by simp)
  have oO14 := F14.mem_own (A := O) (m := lo) (c := co) (xs := o1) (List.mem_append.2 (.inl HMO.out))
  go_wp2_with fail
  refine (Kept_any (some ⟨gx, 0, none⟩) A la (la + 40) ca xs _ oX14.rd a14 (by omega)).mono ?_
  rintro e w15 ⟨rfl, q15, rfl⟩
  go_wp2_with fail
  refine (Kept_any (some ⟨gy, 0, none⟩) B lb (lb + 40) cb ys _ (oY14.rd.drewN q15) (b14.drewN q15) (by omega)).mono ?_
  rintro e w16 ⟨rfl, q16, rfl⟩
  go_wp2_with fail
  refine (Kept_any (some ⟨gs, 0, none⟩) O lo (lo + 40) co o1 _ (oS14.rd.drewN (q15 + q16)) (oO14.rd.drewN (q15 + q16)) (by omega)).mono ?_
  rintro e w17 ⟨rfl, q17, rfl⟩
  obtain ⟨W, hW⟩ : ∃ W, W = (w14.drewN (q15 + q16)).drewN q17 := ⟨_, rfl⟩
  have kW : Below w.heap.size w W := by rw [hW]; exact below_drewN (below_drewN k14 _) _
  have FW : Fam W w1.heap.size (lp ++ [(.slice (some ⟨gx, 0, none⟩) (la + 40) (la + 40), xs ++ room la 40), (.slice (some ⟨gy, 0, none⟩) (lb + 40) (lb + 40), ys ++ room lb 40), (.slice (some ⟨gs, 0, none⟩) (lo + 40) (lo + 40), o1 ++ room lo 40)]) := by rw [hW]; exact (F14.drewN (q15 + q16)).drewN q17
  have hLW : OwnV 30 W w12.heap.size L (3 + np) cl (lp.map (·.1)) := by rw [hW]; exact (hL14.drewN (q15 + q16)).drewN q17
  have rcW : OwnV 30 W w13.heap.size C (3 + np) cc (cps.map (·.1)) ∧ Fam W w13.heap.size cps := by rw [hW]; exact ⟨(rc.own.drewN (q15 + q16)).drewN q17, (rc.fam.drewN (q15 + q16)).drewN q17⟩
  have sW : w14.heap.size ≤ W.heap.size := by rw [hW]; exact Nat.le_refl _
  rw [← hW]
  clear hW k14 a14 b14 F14 hL14 rc oX14 oY14 oS14 oO14
  obtain ⟨rcO, rcF⟩ := rcW
  have oXW := FW.mem_own (A := some ⟨gx, 0, none⟩) (m := la + 40) (c := la + 40) (xs := xs ++ room la 40) (by simp)
  go_wp2_with fail
  refine (Over_any gx (la + 40) la w1.heap.size _ _ oXW (by omega) (by omega)).mono ?_
  rintro e w17 ⟨rfl, zs, oz, hg17⟩
  have F17 : Fam w17 w1.heap.size (lp ++ [(.slice (some ⟨gx, 0, none⟩) (la + 40) (la + 40), zs), (.slice (some ⟨gy, 0, none⟩) (lb + 40) (lb + 40), ys ++ room lb 40), (.slice (some ⟨gs, 0, none⟩) (lo + 40) (lo + 40), o1 ++ room lo 40)]) := Fam.turn FW oz hg17
  have k17 := kW.grown hg17 (by omega) (fun k hk => by injection hk with hk; omega)
  have hL17 := hLW.kept hg17 (fun b hb e => by injection e with e; have := hLlt b hb; omega)
  have cO17 := rcO.kept hg17 (fun b hb e => by injection e with e; have := rcO.lt b hb; omega)
  have cF17 := rcF.kept hg17 (fun b e => rcF.off_old (by injection e with e; omega))
  have s17 := hg17.size
  have hzl := oz.len
  clear FW kW hLW rcO rcF oXW oz hg17
  have oY17 := F17.mem_own (A := some ⟨gy, 0, none⟩) (m := lb + 40) (c := lb + 40) (xs := ys ++ room lb 40) (by simp)
  go_wp2_with fail
  refine (Over_any gy (lb + 40) lb w1.heap.size _ _ oY17 (by omega) (by omega)).mono ?_
  rintro e w18 ⟨rfl, us, ou, hg18⟩
  have F18 : Fam w18 w1.heap.size (lp ++ [(.slice (some ⟨gx, 0, none⟩) (la + 40) (la + 40), zs), (.slice (some ⟨gy, 0, none⟩) (lb + 40) (lb + 40), us), (.slice (some ⟨gs, 0, none⟩) (lo + 40) (lo + 40), o1 ++ room lo 40)]) := by
    have h : Fam w17 w1.heap.size ((lp ++ [(.slice (some ⟨gx, 0, none⟩) (la + 40) (la + 40), zs)]) ++ ((.slice (some ⟨gy, 0, none⟩) (lb + 40) (lb + 40), ys ++ room lb 40) :: [(.slice (some ⟨gs, 0, none⟩) (lo + 40) (lo + 40), o1 ++ room lo 40)])) := by rw [List.append_assoc]; exact F17
    have h2 := Fam.turn h ou hg18
    rw [List.append_assoc] at h2
    exact h2
  have k18 := k17.grown hg18 (by omega) (fun k hk => by injection hk with hk; omega)
  have hL18 := hL17.kept hg18 (fun b hb e => by injection e with e; have := hLlt b hb; omega)
  have cO18 := cO17.kept hg18 (fun b hb e => by injection e with e; have := cO17.lt b hb; omega)
  have cF18 := cF17.kept hg18 (fun b e => cF17.off_old (by injection e with e; omega))
  have s18 := hg18.size
  have hul := ou.len
  clear F17 k17 hL17 cO17 cF17 oY17 ou hg18
  have oS18 := F18.mem_own (A := some ⟨gs, 0, none⟩) (m := lo + 40) (c := lo + 40) (xs := o1 ++ room lo 40) (by simp)
  go_wp2_with fail
  refine (Over_any gs (lo + 40) lo w1.heap.size _ _ oS18 (by omega) (by omega)).mono ?_
  rintro e w18b ⟨rfl, vs, osv, hg18b⟩
  have F18b : Fam w18b w1.heap.size (lp ++ [(.slice (some ⟨gx, 0, none⟩) (la + 40) (la + 40), zs), (.slice (some ⟨gy, 0, none⟩) (lb + 40) (lb + 40), us), (.slice (some ⟨gs, 0, none⟩) (lo + 40) (lo + 40), vs)]) := by
    have h : Fam w18 w1.heap.size ((lp ++ [(.slice (some ⟨gx, 0, none⟩) (la + 40) (la + 40), zs), (.slice (some ⟨gy, 0, none⟩) (lb + 40) (lb + 40), us)]) ++ ((.slice (some ⟨gs, 0, none⟩) (lo + 40) (lo + 40), o1 ++ room lo 40) :: [])) := by rw [List.append_assoc]; exact F18
    have h2 := Fam.turn h osv hg18b
    rw [List.append_assoc] at h2
    exact h2
  have k18b := k18.grown hg18b (by omega) (fun k hk => by injection hk with hk; omega)
  have hL18b := hL18.kept hg18b (fun b hb e => by injection e with e; have := hLlt b hb; omega)
  have cO18b := cO18.kept hg18b (fun b hb e => by injection e with e; have := cO18.lt b hb; omega)
  have cF18b := cF18.kept hg18b (fun b e => cF18.off_old (by injection e with e; omega))
  have s18b := hg18b.size
  have hvl := osv.len
  clear F18 k18 hL18 cO18 cF18 oS18 osv hg18b
  have rC := cF18b.rdl cO18b.rd
  rw [HCPS.out] at rC
  go_wp2_with fail
  refine (Equals_any L C (3 + np) cl cc (lp.map (·.2)) _ (F18b.left.rdl hL18b.rd) rC (by omega) (fun x h => by
    obtain ⟨i, hi⟩ := List.getElem?_of_mem h
    have h1 := tot_at hi
    have h2 := HLT.out
    have h3 := HM.out
    omega)).mono ?_
  rintro e w19 ⟨rfl, q19, rfl⟩
  have F19 := F18b.drewN q19
  have k19 := below_drewN k18b q19
  have hL19 := hL18b.drewN q19
  obtain ⟨X, hX⟩ : ∃ X, X = w18b.drewN q19 := ⟨_, rfl⟩
  have sX : w18b.heap.size ≤ X.heap.size := by rw [hX]; exact Nat.le_refl _
  rw [← hX] at F19 k19 hL19 ⊢
  clear hX F18b k18b hL18b cO18b cF18b rC
  obtain ⟨ps, hps⟩ : ∃ ps : List VB, ps = lp ++ [(.slice (some ⟨gx, 0, none⟩) (la + 40) (la + 40), zs), (.slice (some ⟨gy, 0, none⟩) (lb + 40) (lb + 40), us), (.slice (some ⟨gs, 0, none⟩) (lo + 40) (lo + 40), vs)] := ⟨_, rfl⟩
  rw [← hps] at F19
  have hpf : ps.map (·.1) = lp.map (·.1) ++ [.slice (some ⟨gx, 0, none⟩) (la + 40) (la + 40), .slice (some ⟨gy, 0, none⟩) (lb + 40) (lb + 40), .slice (some ⟨gs, 0, none⟩) (lo + 40) (lo + 40)] := by rw [hps, List.map_append]; rfl
  have hlow : ∀ v ∈ ps.map (·.1), ∀ b, Value.ownBlock v = some b → b < w12.heap.size := by
    have h := HLOW.out
    rw [HFX.out, HFY.out, HFS.out, List.map_append] at h
    rw [hpf]
    exact h
  have hsmall : ∀ p ∈ ps, p.2.length ≤ 1073741824 := fun p hp => by
    rw [hps] at hp
    simp only [List.mem_append, List.mem_cons, List.not_mem_nil, or_false] at hp
    rcases hp with hp | rfl | rfl | rfl
    · obtain ⟨i, hi⟩ := List.getElem?_of_mem hp
      have h1 : (lp.map (·.2))[i]? = some p.2 := by rw [List.getElem?_map, hi]; rfl
      have h2 := tot_at h1
      have h3 := HLT.out
      omega
    · simp only; omega
    · simp only; omega
    · simp only; omega
  have HPF := Lib.hid hpf
  have HLOW2 := Lib.hid hlow
  have HSM := Lib.hid hsmall
  clear hps hpf hlow hsmall
  go_wp2_with (at_builtin; refine wpList_appG _ (by rfl) _ _ 22 rfl w12.heap.size 30 _ 24 Try.underlying22 info_sl rfl L (3 + np) cl (lp.map (·.1)) rfl (hL19.alloc _) ⟨X.heap.size, 0, none⟩ 3 3 [.slice (some ⟨gx, 0, none⟩) (la + 40) (la + 40), .slice (some ⟨gy, 0, none⟩) (lb + 40) (lb + 40), .slice (some ⟨gs, 0, none⟩) (lo + 40) (lo + 40)] rfl (ownV_box X _ X.heap.size _ 3 rfl (by omega) (Nat.le_refl _) _ rfl _ rfl).rd (by intro u hu; simp only [List.mem_cons, List.not_mem_nil, or_false] at hu; rcases hu with rfl | rfl | rfl <;> rfl) ?_ ?_ ?_ ?_)
  · unfold maxLen; omega
  · omega
  · simp; omega
  intro L2 cl2 w20 hL20 hg20 _
  rw [← HPF.out] at hL20
  have hb20 : Below w12.heap.size X w20 := ((Below.refl _ _).alloc (by omega) _).grown hg20 (by simp; omega) (fun k hk => (hLlt k hk).1)
  have F20 : Fam w20 w1.heap.size ps := (F19.below ((Below.refl _ _).alloc (Nat.le_refl _) _)).kept hg20 (fun b e p hp e2 => by
    have h1 := hLlt b e
    have h2 := HLOW2.out p.1 (List.mem_map.2 ⟨p, hp, rfl⟩) b e2
    omega)
  have k20 := k19.trans (hb20.mono (by omega))
  have s20 := hb20.size
  clear F19 k19 hL19 hg20 hb20
  go_wp2_with fail
  refine (Apart_any L2 (3 + np + 3) cl2 w1.heap.size (ps.map (·.1)) _ hL20.rd (by omega) F20.pre (F20.small HSM.out) F20.dis (fun b hb i v hv e => by
    have h1 := hL20.lt b hb
    have h2 := HLOW2.out v (List.mem_of_getElem? hv) b e
    omega) (by omega)).mono ?_
  rintro e w21 ⟨rfl, hb21⟩
  go_wp2
  go_ret
  exact ⟨rfl, k20.trans (hb21.mono s1)⟩
end Go.Proofs.Ytpdcooelaebddaa
