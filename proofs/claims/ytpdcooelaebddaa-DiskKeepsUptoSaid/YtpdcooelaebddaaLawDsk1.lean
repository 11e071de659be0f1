/- DiskKeeps: for every two lists of at most 1048576 bytes each the call returns true, and what was there stands. -/
import Derived.Test.YtpdcooelaebddaaAwake4
import Derived.Test.YtpdcooelaebddaaFamD
import Derived.Test.YtpdcooelaebddaaSpare
import Derived.Test.YtpdcooelaebddaaKept
import Derived.Test.YtpdcooelaebddaaApartF
namespace Go.Proofs.Ytpdcooelaebddaa
open Go Go.RowKit Go.Maps

theorem Own.rdPreD {e : TypeId} {w : World} {base g n k : Nat} {xs : List UInt8} (h : Own e w base (some ⟨g, 0, none⟩) (n + 40) (n + 40) (xs ++ room n k)) (hx : xs.length = n) : Rd w (some ⟨g, 0, none⟩) n xs := by
  have := (h.prefix n (by omega) (by simp)).rd
  rw [List.take_left' hx] at this
  exact this
theorem Fam.mem_ownD {w : World} {base : Nat} {ps : List VB} (h : Fam w base ps) {A : Option Addr} {m c : Nat} {xs : List UInt8} (hp : (Value.slice A m c, xs) ∈ ps) : Own 5 w base A m c xs := by
  obtain ⟨A', m', c', e, ho⟩ := h.1 _ hp
  injection e with e1 e2 e3
  subst e1 e2 e3
  exact ho
theorem Live.putG {w : World} {p room u : Nat} {bl : List Nat} {x y : List UInt8} {k l : Nat} (h : Live w p bl room u (putF ([103], x, k) [([102], y, l)])) : Live w p bl room u [([102], y, l), ([103], x, k)] := by
  have e : putF ([103], x, k) [([102], y, l)] = [([102], y, l), ([103], x, k)] := by
    simp only [putF]
    rw [if_neg (by decide), if_neg (by decide)]
  rwa [e] at h

theorem Fr.of_sm {K : List Nat} {w w' : World} {base : Nat} (hb : Below base w w') (h : Sm K w w') : Fr w w' ((List.range w.heap.size).filter (fun b => decide (b ∉ K))) :=
  ⟨hb.os, hb.tape, hb.output, hb.size, fun k hk hn => (h k (by
    by_cases hK : k ∈ K
    · exact hK
    · exact absurd (List.mem_filter.2 ⟨List.mem_range.2 hk, by simpa using hK⟩) hn)).2⟩
theorem sm_off {K : List Nat} {w : World} {b : Nat} (h : b ∈ K) : b ∉ (List.range w.heap.size).filter (fun b => decide (b ∉ K)) := fun hm => by
  have := (List.mem_filter.1 hm).2
  simp at this
  exact this h

set_option maxRecDepth 100000 in
set_option maxHeartbeats 8000000 in
theorem diskKeeps_row (A : Option Addr) (la ca : Nat) (xs : List UInt8) (B : Option Addr) (lb cb : Nat) (ys : List UInt8) (w : World)
    (hx : Rd w A la xs) (hla : la ≤ ca) (hca : ca ≤ 1048576) (hy : Rd w B lb ys) (hlb : lb ≤ cb) (hcb : cb ≤ 1048576) :
    Calls Try.prog 10 #[.slice A la ca, .slice B lb cb] w (RetT w true) := by
  have hM : 1099511627776 ≤ maxLen := by unfold maxLen; omega
  have HM := Lib.hid hM
  have HXL := Lib.hid hx.len
  have HYL := Lib.hid hy.len
  have hml : ([102] : List UInt8).length ≤ maxLen := by simp; omega
  have HML := Lib.hid hml
  have HX := Lib.hid hx
  have HY := Lib.hid hy
  have i0 : IntKind.i64.wrap ((la : Int) + (lb : Int)) = (la : Int) + (lb : Int) := IntWalk.i64_in _ (by omega)
  clear hM hml
  go_enter Try.func10, Try.ntmps10
  go_wp2_with fail
  refine (awake4_any _).mono ?_
  rintro e w1 ⟨rfl, k1⟩
  have s1 := k1.size
  go_wp2_with fail
  refine (Spare_any A la ca xs _ (hx.below k1) (by omega)).mono ?_
  rintro e w2 ⟨gx, rfl, ox, hb2⟩
  have s2 := hb2.size
  have gx1 := ox.lt gx rfl
  have k2 := k1.trans (hb2.mono s1)
  have OX := Lib.hid ox
  have K2 := Lib.hid k2
  clear ox hb2
  go_wp2_with fail
  refine (New_live 1048576 w2 (by omega)).mono ?_
  rintro e w3 ⟨p, bl3, rfl, hL3, hbl3, k3⟩
  have s3 := k3.size
  by_cases hbig : 262144 < la + lb
  · have t0 : decide ((262144 : Int) < (la : Int) + (lb : Int)) = true := by simp; omega
    go_wp2
    go_ret
    exact ⟨rfl, K2.out.trans (k3.mono (by omega))⟩
  have t0 : decide ((262144 : Int) < (la : Int) + (lb : Int)) = false := by simp; omega
  go_wp2_with fail
  refine (append_live_new [102] (some ⟨gx, 0, none⟩) la (la + 40) xs hL3 (fun f hf => by cases hf) ((OX.out.below k3).rdPreD HXL.out) (fun b hb hm => by injection hb with hb; have := hbl3 b hm; simp only at hb; omega) (by omega) (by omega) (by omega) (by simp) (by simp)).mono ?_
  intro e w4 hr
  obtain ⟨rfl, bl4, hL4, _, _, hb4, k4⟩ := hr.step (w0 := w2) k3 hbl3
  rw [putF_nil] at hL4
  have s4 := k4.size
  clear hr hL3 hbl3 k3
  go_wp2_with fail
  refine (append_live_old (f := ([102], xs, 0)) B lb cb ys hL4 (by simp) (HY.out.below (K2.out.trans (k4.mono (by omega)))) (by omega) (by omega) (by omega) (by have := HXL.out; simp only; omega) HML.out).mono ?_
  intro e w5 hr
  obtain ⟨rfl, bl5, hL5, _, _, hb5, k5⟩ := hr.step (w0 := w2) k4 hb4
  rw [putF_one (f := (([102], xs, 0).fst, ([102], xs, 0).snd.fst ++ ys, ([102], xs, 0).snd.snd)) (g := ([102], xs, 0)) rfl] at hL5
  replace hL5 : Live w5 p bl5 1048576 (0 + la + lb) [([102], xs ++ ys, 0)] := hL5
  have s5 := k5.size
  have lt5 := hL5.lt
  have hzl : (xs ++ ys).length = la + lb := by rw [List.length_append, HXL.out, HYL.out]
  obtain ⟨zs, hzs⟩ : ∃ zs, zs = xs ++ ys := ⟨_, rfl⟩
  rw [← hzs] at hL5 hzl
  have HZS := Lib.hid hzs
  have HZL := Lib.hid hzl
  have LT5 := Lib.hid lt5
  have HB5 := Lib.hid hb5
  clear hr hL4 hb4 k4 hzs hzl lt5 hb5
  go_wp2_with fail
  refine (read_live (f := ([102], zs, 0)) hL5 (by simp) HML.out (by have := HZL.out; simp only; omega)).mono ?_
  rintro e w6 ⟨O1, n1, c1, rfl, o1, hb6⟩
  obtain rfl : n1 = la + lb := by rw [← o1.len, HZL.out]
  have s6 := hb6.size
  have k6 := k5.trans (hb6.mono s5)
  have F6 : Fam w6 w1.heap.size ([(.slice (some ⟨gx, 0, none⟩) (la + 40) (la + 40), xs ++ room la 40)] ++ ([(.slice O1 (la + lb) c1, zs)] ++ [])) := Fam.ins (a := [(.slice (some ⟨gx, 0, none⟩) (la + 40) (la + 40), xs ++ room la 40)]) (b := []) (Fam.one (OX.out.below k5)) (Fam.one o1) hb6 (Nat.le_refl _) (by omega)
  have hL6 := hL5.below hb6
  have HO1 := Lib.hid (fun b (hb : blk O1 = some b) => o1.lt b hb)
  clear hL5 k5 o1 hb6
  go_wp2_with fail
  refine (read_live (f := ([102], zs, 0)) hL6 (by simp) HML.out (by have := HZL.out; simp only; omega)).mono ?_
  rintro e w7 ⟨O2, n2, c2, rfl, o2, hb7⟩
  obtain rfl : n2 = la + lb := by rw [← o2.len, HZL.out]
  have s7 := hb7.size
  have k7 := k6.trans (hb7.mono (by omega))
  have F7 : Fam w7 w1.heap.size ([(.slice (some ⟨gx, 0, none⟩) (la + 40) (la + 40), xs ++ room la 40), (.slice O1 (la + lb) c1, zs)] ++ ([(.slice O2 (la + lb) c2, zs)] ++ [])) := Fam.ins (a := [(.slice (some ⟨gx, 0, none⟩) (la + 40) (la + 40), xs ++ room la 40), (.slice O1 (la + lb) c1, zs)]) (b := []) F6 (Fam.one o2) hb7 (Nat.le_refl _) (by omega)
  have hL7 := hL6.below hb7
  have HO2 := Lib.hid (fun b (hb : blk O2 = some b) => o2.lt b hb)
  clear hL6 k6 F6 o2 hb7
  have ox7 := OX.out.below k7
  go_wp2_with fail
  refine (Kept_any (some ⟨gx, 0, none⟩) A la (la + 40) ca xs _ ox7.rd (HX.out.below (K2.out.trans (k7.mono (by omega)))) (by omega)).mono ?_
  rintro e w8 ⟨rfl, q8, rfl⟩
  obtain ⟨w8, hw8⟩ : ∃ w8, w8 = w7.drewN q8 := ⟨_, rfl⟩
  have k8 : Below w2.heap.size w2 w8 := by rw [hw8]; exact below_drewN k7 _
  have F8 : Fam w8 w1.heap.size ([] ++ ((.slice (some ⟨gx, 0, none⟩) (la + 40) (la + 40), xs ++ room la 40) :: [(.slice O1 (la + lb) c1, zs), (.slice O2 (la + lb) c2, zs)])) := by rw [hw8]; exact F7.drewN q8
  have hL8 : Live w8 p bl5 1048576 (0 + la + lb) [([102], zs, 0)] := by rw [hw8]; exact hL7.drewN q8
  have s8 : w7.heap.size ≤ w8.heap.size := by rw [hw8]; exact Nat.le_refl _
  have ox8 : Own 5 w8 w2.heap.size (some ⟨gx, 0, none⟩) (la + 40) (la + 40) (xs ++ room la 40) ∨ True := .inr trivial
  rw [← hw8]
  clear hw8 ox7 ox8 k7 F7 hL7
  have ox8 := OX.out.below k8
  go_wp2_with fail
  refine (Over_any gx (la + 40) la w1.heap.size _ _ ox8 (by omega) (by omega)).mono ?_
  rintro e w9 ⟨rfl, us, ou, hg9⟩
  have F9 : Fam w9 w1.heap.size ([] ++ ((.slice (some ⟨gx, 0, none⟩) (la + 40) (la + 40), us) :: [(.slice O1 (la + lb) c1, zs), (.slice O2 (la + lb) c2, zs)])) := Fam.turn F8 ou hg9
  have k9 : Below w.heap.size w w9 := (K2.out.trans (k8.mono (by omega))).grown hg9 (by omega) (fun k hk => by injection hk with hk; omega)
  have hL9 := hL8.grown hg9 (fun b hb hm => by injection hb with hb; have := HB5.out b hm; omega)
  have s9 := hg9.size
  have hul := ou.len
  have rx9 : Rd w9 (some ⟨gx, 0, none⟩) la (us.take la) := (ou.prefix la (by omega) (by simp)).rd
  have hutl : (us.take la).length = la := by rw [List.length_take]; omega
  have HUL := Lib.hid hul
  have HUT := Lib.hid hutl
  have K8 := Lib.hid k8
  clear F8 hL8 ox8 ou hg9 k8 hul hutl
  go_wp2_with fail
  refine (append_live_new [103] (some ⟨gx, 0, none⟩) la (la + 40) (us.take la) hL9 (fun f hf => by simp at hf; subst hf; show ([102] : List UInt8) ≠ [103]; decide) rx9 (fun b hb hm => by injection hb with hb; have := HB5.out b hm; simp only at hb; omega) (by omega) (by omega) (by omega) (by simp) (by simp)).mono ?_
  intro e w10 hr
  obtain ⟨rfl, bl10, hL10, hF10, hB10, hb10, k10⟩ := hr.step (w0 := w) k9 (fun b hb => by have := HB5.out b hb; have := K2.out.size; omega)
  replace hL10 := hL10.putG
  have s10 := hF10.size
  have F10 : Fam w10 w1.heap.size ([] ++ ((.slice (some ⟨gx, 0, none⟩) (la + 40) (la + 40), us) :: [(.slice O1 (la + lb) c1, zs), (.slice O2 (la + lb) c2, zs)])) := F9.fr hF10 (fun q hq b hb hm => by
    have h1 := LT5.out b hm
    have h2 := HB5.out b hm
    simp only [List.nil_append, List.mem_cons, List.not_mem_nil, or_false] at hq
    rcases hq with rfl | rfl | rfl
    · rw [own_blk] at hb; injection hb with hb; simp only at hb; omega
    · rw [own_blk] at hb; have := HO1.out b hb; omega
    · rw [own_blk] at hb; have := HO2.out b hb; omega)
  have lt10 := hL10.lt
  have LT10 := Lib.hid lt10
  have HB10 := Lib.hid hB10
  clear hr F9 hL9 rx9 hF10 k9 lt10 hB10 hb10
  go_wp2_with fail
  refine (Copy_any A la ca xs _ (HX.out.below k10) (by omega)).mono ?_
  rintro e w11 ⟨C, nc, cc, rfl, oc, hb11⟩
  obtain rfl : la = nc := by rw [← oc.len, HXL.out]
  have s11 := hb11.size
  have hyr := HY.out.below (k10.trans (hb11.mono k10.size))
  go_wp2_with (at_builtin; refine wpList_app _ rfl _ _ 30 rfl w10.heap.size 5 Try.underlying30 info_u8 C la cc xs rfl oc B lb cb ys rfl hyr ?_ ?_ ?_)
  · omega
  · omega
  intro D cd w12 od hb12
  rw [← HZS.out] at od
  have hbb := hb11.trans hb12
  have s12 := hb12.size
  have k12 := k10.trans (hbb.mono k10.size)
  have F12 := F10.below hbb
  have hL12 := hL10.below hbb
  have HOD := Lib.hid (fun b (hb : blk D = some b) => od.lt b hb)
  have kz := k10.size
  clear F10 hL10 k10 oc hb11 hb12 hbb hyr
  go_wp2_with fail
  refine (read_live (f := ([102], zs, 0)) hL12 (by simp) HML.out (by have := HZL.out; simp only; omega)).mono ?_
  rintro e w13 ⟨O3, n3, c3, rfl, o3, hb13⟩
  obtain rfl : n3 = la + lb := by rw [← o3.len, HZL.out]
  have s13 := hb13.size
  have k13 := k12.trans (hb13.mono (by omega))
  have F13 : Fam w13 w1.heap.size ([(.slice (some ⟨gx, 0, none⟩) (la + 40) (la + 40), us), (.slice O1 (la + lb) c1, zs), (.slice O2 (la + lb) c2, zs)] ++ ([(.slice O3 (la + lb) c3, zs)] ++ [])) := Fam.ins (a := [(.slice (some ⟨gx, 0, none⟩) (la + 40) (la + 40), us), (.slice O1 (la + lb) c1, zs), (.slice O2 (la + lb) c2, zs)]) (b := []) F12 (Fam.one o3) hb13 (Nat.le_refl _) (by omega)
  have hL13 := hL12.below hb13
  have od13 := od.below hb13
  have HO3 := Lib.hid (fun b (hb : blk O3 = some b) => o3.lt b hb)
  clear F12 hL12 k12 od o3 hb13
  have r1 := (F13.mem_ownD (A := O1) (m := la + lb) (c := c1) (xs := zs) (by simp)).rd
  have r3 := (F13.mem_ownD (A := O3) (m := la + lb) (c := c3) (xs := zs) (by simp)).rd
  have hlm : la + lb ≤ maxLen := by have := HM.out; omega
  go_wp2_with fail
  refine (Equal_any O1 D (la + lb) (la + lb) c1 cd zs zs _ r1 od13.rd hlm hlm).mono ?_
  rintro e w14 ⟨rfl, q14, rfl⟩
  rw [eqB_self]
  go_wp2_with fail
  refine (Equal_any O3 D (la + lb) (la + lb) c3 cd zs zs _ (r3.drewN q14) (od13.rd.drewN q14) hlm hlm).mono ?_
  rintro e w15 ⟨rfl, q15, rfl⟩
  rw [eqB_self]
  obtain ⟨X, hX⟩ : ∃ X, X = (w13.drewN q14).drewN q15 := ⟨_, rfl⟩
  obtain ⟨ps, hps⟩ : ∃ ps : List VB, ps = [(.slice (some ⟨gx, 0, none⟩) (la + 40) (la + 40), us), (.slice O1 (la + lb) c1, zs), (.slice O2 (la + lb) c2, zs), (.slice O3 (la + lb) c3, zs)] := ⟨_, rfl⟩
  have FX : Fam X w1.heap.size ps := by rw [hX, hps]; exact (F13.drewN q14).drewN q15
  have kX : Below w.heap.size w X := by rw [hX]; exact below_drewN (below_drewN k13 _) _
  have hLX : Live X p bl10 1048576 (0 + la + lb + la) [([102], zs, 0), ([103], us.take la, 0)] := by rw [hX]; exact (hL13.drewN q14).drewN q15
  have odX : Own 5 X w10.heap.size D (la + lb) cd zs := by rw [hX]; exact od13
  have sX : w13.heap.size ≤ X.heap.size := by rw [hX]; exact Nat.le_refl _
  rw [← hX]
  clear hX F13 k13 hL13 od13 r1 r3
  have hpv : ps.map (·.1) = [.slice (some ⟨gx, 0, none⟩) (la + 40) (la + 40), .slice O1 (la + lb) c1, .slice O2 (la + lb) c2, .slice O3 (la + lb) c3] := by rw [hps]; rfl
  have hsmall : ∀ q ∈ ps, q.2.length ≤ 1073741824 := fun q hq => by
    rw [hps] at hq
    have h1 := HZL.out
    have h2 := HUL.out
    simp only [List.mem_cons, List.not_mem_nil, or_false] at hq
    rcases hq with rfl | rfl | rfl | rfl <;> simp only <;> omega
  have hKb : ∀ b ∈ bl10 ++ (blk D).toList, (w2.heap.size ≤ b ∧ b < w5.heap.size) ∨ (w9.heap.size ≤ b ∧ b < w12.heap.size) := fun b hb => by
    rcases List.mem_append.1 hb with hb | hb
    · have h1 := LT10.out b hb
      rcases HB10.out b hb with h2 | h2
      · have h3 := LT5.out b h2
        have h4 := HB5.out b h2
        omega
      · omega
    · rw [Option.mem_toList] at hb
      have := HOD.out b hb
      omega
  have hKO : ∀ b ∈ bl10 ++ (blk D).toList, ∀ (i : Nat) (v : Value), (ps.map (·.1))[i]? = some v → Value.ownBlock v ≠ some b := fun b hb i v hv e => by
    have h1 := hKb b hb
    have hm := List.mem_of_getElem? hv
    rw [hpv] at hm
    simp only [List.mem_cons, List.not_mem_nil, or_false] at hm
    rcases hm with rfl | rfl | rfl | rfl
    · rw [own_blk] at e; injection e with e; simp only at e; omega
    · rw [own_blk] at e; have := HO1.out b e; omega
    · rw [own_blk] at e; have := HO2.out b e; omega
    · rw [own_blk] at e; have := HO3.out b e; omega
  have hKlt : ∀ b ∈ bl10 ++ (blk D).toList, b < X.heap.size := fun b hb => by have := hKb b hb; omega
  have HKLT := Lib.hid hKlt
  have HKO := Lib.hid hKO
  have HPV := Lib.hid hpv
  have HSM := Lib.hid hsmall
  clear hKb hKO hKlt hpv hsmall hps
  go_wp2_with fail
  obtain ⟨Y, hY⟩ : ∃ Y, Y = X.alloc (.cells #[.slice (some ⟨gx, 0, none⟩) (la + 40) (la + 40), .slice O1 (la + lb) c1, .slice O2 (la + lb) c2, .slice O3 (la + lb) c3] 30) := ⟨_, rfl⟩
  have hbY : Below X.heap.size X Y := by rw [hY]; exact (Below.refl _ _).alloc (Nat.le_refl _) _
  have hLv : RdV Y (some ⟨X.heap.size, 0, none⟩) 4 (ps.map (·.1)) := by rw [hY, HPV.out]; exact (ownV_boxD X _ X.heap.size _ 4 rfl (by omega) (Nat.le_refl _) _ rfl _ rfl).rd
  have FY := FX.below hbY
  have kY := kX.trans (hbY.mono kX.size)
  have hLY := hLX.below hbY
  have odY := odX.below hbY
  have sY := hbY.size
  have HFX := Lib.hid FX
  rw [← hY]
  clear hY kX hLX odX hbY FX
  refine (ApartF_any (bl10 ++ (blk D).toList) (some ⟨X.heap.size, 0, none⟩) 4 4 w1.heap.size (ps.map (·.1)) Y hLv (by omega) FY.pre (FY.small HSM.out) FY.dis (fun b hb i v hv e => by
    injection hb with hb
    simp only at hb
    obtain ⟨q, hq, rfl⟩ := List.mem_map.1 (List.mem_of_getElem? hv)
    have := (HFX.out.lt hq e).2
    omega) (by omega) (fun b hb => by have := HKLT.out b hb; omega) HKO.out).mono ?_
  rintro e w17 ⟨rfl, hb17, hsm⟩
  have hfr := Fr.of_sm hb17 hsm
  have k17 := kY.trans (hb17.mono s1)
  have s17 := hb17.size
  have hL17 := hLY.fr hfr (fun b hb => sm_off (List.mem_append.2 (.inl hb)))
  have od17 := odY.fr hfr (fun b hb => sm_off (List.mem_append.2 (.inr (by rw [hb]; simp))))
  clear hLv FY kY hLY odY hb17 hsm hfr
  go_wp2_with fail
  refine (read_live (f := ([102], zs, 0)) hL17 (by simp) HML.out (by have := HZL.out; simp only; omega)).mono ?_
  rintro e w18 ⟨O4, n4, c4, rfl, o4, hb18⟩
  obtain rfl : n4 = la + lb := by rw [← o4.len, HZL.out]
  have k18 := k17.trans (hb18.mono k17.size)
  have od18 := od17.below hb18
  clear hL17 k17 od17 hb18
  go_wp2_with fail
  refine (Equal_any O4 D (la + lb) (la + lb) c4 cd zs zs _ o4.rd od18.rd hlm hlm).mono ?_
  rintro e w19 ⟨rfl, q19, rfl⟩
  rw [eqB_self]
  go_wp2
  go_ret
  exact ⟨rfl, below_drewN k18 _⟩
end Go.Proofs.Ytpdcooelaebddaa
