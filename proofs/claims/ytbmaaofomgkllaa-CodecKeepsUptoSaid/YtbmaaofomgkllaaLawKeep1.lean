/- CodecKeeps: for every two lists of at most 1048576 bytes each the call returns true, and what was there stands. -/
import Derived.Test.YtbmaaofomgkllaaAwake
import Derived.Test.YtbmaaofomgkllaaFamD
import Derived.Test.YtbmaaofomgkllaaGetT
import Derived.Test.YtbmaaofomgkllaaOrdU
namespace Go.Proofs.Ytbmaaofomgkllaa
open Go Go.RowKit

theorem rdl_box {w : World} {t : TypeId} {vs : List Value} {xss : List (List UInt8)} {n : Nat} (hl : vs.length = n) (hx : xss.length = n) (h : ∀ (i : Nat) v x, vs[i]? = some v → xss[i]? = some x → ElB w v x) (cs : Array Value) (hc : cs = vs.toArray) :
    RdL (w.alloc (.cells cs t)) (some ⟨w.heap.size, 0, none⟩) n xss := by
  subst hc
  refine ⟨hx, fun _ => ⟨w.heap.size, 0, rfl, by simp, fun i x hi => ?_⟩⟩
  have hlt := (List.getElem?_eq_some_iff.1 hi).1
  obtain ⟨v, hv⟩ : ∃ v, vs[i]? = some v := ⟨_, List.getElem?_eq_getElem (by omega)⟩
  refine ⟨v, ?_, (h i v x hv hi).below ((Below.refl _ _).alloc (Nat.le_refl _) _)⟩
  rw [cell_of_row (w.alloc (.cells vs.toArray t)) w.heap.size (0 + i) vs.toArray t (0, 0) (heap_alloc_new w _)]
  simp [hv]
theorem rdl_two {w : World} {t : TypeId} {v1 v2 : Value} {x1 x2 : List UInt8} (h1 : ElB w v1 x1) (h2 : ElB w v2 x2) : RdL (w.alloc (.cells #[v1, v2] t)) (some ⟨w.heap.size, 0, none⟩) 2 [x1, x2] := by
  refine rdl_box (vs := [v1, v2]) rfl rfl (fun i v x hv hx => ?_) _ rfl
  match i, hv, hx with
  | 0, hv, hx => simp at hv hx; subst hv hx; exact h1
  | 1, hv, hx => simp at hv hx; subst hv hx; exact h2
  | i + 2, hv, hx => simp at hv
theorem rdl_one {w : World} {t : TypeId} {v1 : Value} {x1 : List UInt8} (h1 : ElB w v1 x1) : RdL (w.alloc (.cells #[v1] t)) (some ⟨w.heap.size, 0, none⟩) 1 [x1] := by
  refine rdl_box (vs := [v1]) rfl rfl (fun i v x hv hx => ?_) _ rfl
  match i, hv, hx with
  | 0, hv, hx => simp at hv hx; subst hv hx; exact h1
  | i + 1, hv, hx => simp at hv
theorem ownV_box (w : World) (t : TypeId) (base : Nat) (vs : List Value) (n : Nat) (hl : vs.length = n) (hn : n ≤ 1024) (hb : base ≤ w.heap.size) (cs : Array Value) (hc : cs = vs.toArray) : OwnV t (w.alloc (.cells cs t)) base (some ⟨w.heap.size, 0, none⟩) n n vs := by
  subst hc
  refine ⟨by simp [hl], .inr ⟨w.heap.size, n, vs.toArray, rfl, hb, heap_alloc_new w _, Nat.le_refl _, by unfold maxLen; omega, by simp [hl], ?_⟩⟩
  simp only [Nat.mul_one]
  exact List.take_of_length_le (by simp [hl])
theorem Own.rdPre {e : TypeId} {w : World} {base g n k : Nat} {xs : List UInt8} (h : Own e w base (some ⟨g, 0, none⟩) (n + 40) (n + 40) (xs ++ room n k)) (hx : xs.length = n) : Rd w (some ⟨g, 0, none⟩) n xs := by
  have := (h.prefix n (by omega) (by simp)).rd
  rw [List.take_left' hx] at this
  exact this
theorem Fam.mem_own {w : World} {base : Nat} {ps : List VB} (h : Fam w base ps) {A : Option Addr} {m c : Nat} {xs : List UInt8} (hp : (Value.slice A m c, xs) ∈ ps) : Own 5 w base A m c xs := by
  obtain ⟨A', m', c', e, ho⟩ := h.1 _ hp
  injection e with e1 e2 e3
  subst e1 e2 e3
  exact ho
theorem nextB_len (xs : List UInt8) : (nextB xs).length ≤ xs.length := nextAt_len xs _

set_option maxRecDepth 100000 in
set_option maxHeartbeats 8000000 in
theorem codecKeeps_row (A : Option Addr) (la ca : Nat) (xs : List UInt8) (B : Option Addr) (lb cb : Nat) (ys : List UInt8) (w : World)
    (hx : Rd w A la xs) (hla : la ≤ ca) (hca : ca ≤ 1048576) (hy : Rd w B lb ys) (hlb : lb ≤ cb) (hcb : cb ≤ 1048576) :
    Calls Try.prog 9 #[.slice A la ca, .slice B lb cb] w (RetT w true) := by
  have hM : 1099511627776 ≤ maxLen := by unfold maxLen; omega
  have HM := Lib.hid hM
  have HXL := Lib.hid hx.len
  have HYL := Lib.hid hy.len
  clear hM
  go_enter Try.func9, Try.ntmps9
  go_wp2_with fail
  refine (awake_any _).mono ?_
  rintro e w1 ⟨rfl, k1⟩
  have s1 := k1.size
  have a1 := hx.below k1
  have b1 := hy.below k1
  go_wp2_with fail
  refine (Spare_any A la ca xs _ a1 (by omega)).mono ?_
  rintro e w2 ⟨gx, rfl, ox, hb2⟩
  have s2 := hb2.size
  have gx1 := ox.lt gx rfl
  have k2 := k1.trans (hb2.mono s1)
  have a2 := a1.below hb2
  have b2 := b1.below hb2
  go_wp2_with fail
  refine (Spare_any B lb cb ys _ b2 (by omega)).mono ?_
  rintro e w3 ⟨gy, rfl, oy, hb3⟩
  have s3 := hb3.size
  have gy1 := oy.lt gy rfl
  have k3 := k2.trans (hb3.mono (by omega))
  have a3 := a2.below hb3
  have b3 := b2.below hb3
  have F3 : Fam w3 w1.heap.size [(.slice (some ⟨gx, 0, none⟩) (la + 40) (la + 40), xs ++ room la 40), (.slice (some ⟨gy, 0, none⟩) (lb + 40) (lb + 40), ys ++ room lb 40)] :=
    Fam.ins (a := [(.slice (some ⟨gx, 0, none⟩) (la + 40) (la + 40), xs ++ room la 40)]) (b := []) (Fam.one ox) (Fam.one oy) hb3 (Nat.le_refl _) (by omega)
  have rx3 := (ox.below hb3).rdPre HXL.out
  have ry3 := oy.rdPre HYL.out
  obtain ⟨fX, hfX⟩ : ∃ p : VB, p = (.slice (some ⟨gx, 0, none⟩) (la + 40) (la + 40), xs ++ room la 40) := ⟨_, rfl⟩
  obtain ⟨fY, hfY⟩ : ∃ p : VB, p = (.slice (some ⟨gy, 0, none⟩) (lb + 40) (lb + 40), ys ++ room lb 40) := ⟨_, rfl⟩
  rw [← hfX, ← hfY] at F3
  have HFX := Lib.hid hfX
  have HFY := Lib.hid hfY
  clear hfX hfY ox oy hb2 hb3 k1 k2 a1 b1 a2 b2 hx hy
  have hG := GetOrdText_any (some ⟨gx, 0, none⟩) la (la + 40) xs 0 w3 rx3 (by omega)
  have htl := getT_len xs 0
  rcases hg : getT xs 0 with ⟨tv, tn, te⟩
  rw [hg] at hG htl
  have HG := Lib.hid hG
  have HTL := Lib.hid htl
  clear hG hg htl
  go_wp2_with fail
  refine HG.out.mono ?_
  clear HG
  rintro e w4 ⟨T, lt, ct, rfl, ot, hb4⟩
  have s4 := hb4.size
  have k4 := k3.trans (hb4.mono (by omega))
  have a4 := a3.below hb4
  have b4 := b3.below hb4
  have rx4 := rx3.below hb4
  have ry4 := ry3.below hb4
  have F4 : Fam w4 w1.heap.size [(.slice T lt ct, tv), fX, fY] := Fam.ins (a := []) (b := [fX, fY]) F3 (Fam.one ot) hb4 (Nat.le_refl _) (by omega)
  clear F3 ot hb4 k3 a3 b3 rx3 ry3
  have hP := PartsF_any (some ⟨gx, 0, none⟩) la (la + 40) xs w4 rx4 (by omega) (by omega) (fun h => by cases h)
  have hpt := parts_tot xs
  rcases hp : parts xs with ⟨pl, pe⟩
  rw [hp] at hP hpt
  have HP := Lib.hid hP
  have HPT := Lib.hid hpt
  clear hP hp hpt
  go_wp2_with fail
  refine HP.out.mono ?_
  clear HP
  rintro e w5 ⟨P, np, cp, pp, rfl, rp, hpp⟩
  have hpp : pp.map (·.2) = pl := hpp
  have hb5 := rp.bel
  have s5 := hb5.size
  have k5 := k4.trans (hb5.mono (by omega))
  have a5 := a4.below hb5
  have b5 := b4.below hb5
  have rx5 := rx4.below hb5
  have ry5 := ry4.below hb5
  have rP5 := rp.own.rd
  have hnp := rp.len
  have F5 : Fam w5 w1.heap.size ((.slice T lt ct, tv) :: (pp ++ [fX, fY])) := Fam.ins (a := [(.slice T lt ct, tv)]) (b := [fX, fY]) F4 rp.fam hb5 (Nat.le_refl _) (by omega)
  have h1c := rp.fam.one_cell
  have H1C := Lib.hid h1c
  have HPP := Lib.hid hpp
  have HNP := Lib.hid hnp
  have hnp2 : np ≤ la := by
    have h1 := HPT.out
    have h2 := tot_len pl
    rw [← hpp, List.length_map] at h2
    have h3 := HXL.out
    rw [← hpp] at h1
    omega
  clear F4 hb5 k4 a4 b4 rx4 ry4 rp hpp hnp h1c
  go_wp2_with fail
  refine (OrdText_any (some ⟨gx, 0, none⟩) la (la + 40) xs _ rx5 (by omega)).mono ?_
  rintro e w6 ⟨O, lo, co, rfl, oo, hb6⟩
  have s6 := hb6.size
  have k6 := k5.trans (hb6.mono (by omega))
  have a6 := a5.below hb6
  have b6 := b5.below hb6
  have rx6 := rx5.below hb6
  have ry6 := ry5.below hb6
  have rP6 := rP5.below hb6
  have F6 : Fam w6 w1.heap.size ((.slice O lo co, ordT xs) :: (.slice T lt ct, tv) :: (pp ++ [fX, fY])) := Fam.ins (a := []) (b := (.slice T lt ct, tv) :: (pp ++ [fX, fY])) F5 (Fam.one oo) hb6 (Nat.le_refl _) (by omega)
  clear F5 oo hb6 k5 a5 b5 rx5 ry5 rP5
  go_wp2_with fail
  refine (Frame_any _ 2 2 [xs, ys] _ (rdl_two ⟨_, _, _, rfl, rx6, by omega, fun h => by cases h⟩ ⟨_, _, _, rfl, ry6, by omega, fun h => by cases h⟩) (by simp only [tot]; have := HXL.out; have := HYL.out; omega)).mono ?_
  rintro e w7 ⟨U, lu, cu, rfl, ou, hb7⟩
  have hb7 : Below w6.heap.size w6 w7 := ((Below.refl _ _).alloc (Nat.le_refl _) _).trans (hb7.mono (by simp))
  have ou := ou.mono (show w6.heap.size ≤ _ by simp)
  have s7 := hb7.size
  have k7 := k6.trans (hb7.mono (by omega))
  have a7 := a6.below hb7
  have b7 := b6.below hb7
  have rx7 := rx6.below hb7
  have ry7 := ry6.below hb7
  have rP7 := rP6.below hb7
  have F7 : Fam w7 w1.heap.size ([(.slice O lo co, ordT xs)] ++ ((.slice U lu cu, frameB [xs, ys]) :: ((.slice T lt ct, tv) :: (pp ++ [fX, fY])))) := Fam.ins (a := [(.slice O lo co, ordT xs)]) (b := ((.slice T lt ct, tv) :: (pp ++ [fX, fY]))) F6 (Fam.one ou) hb7 (Nat.le_refl _) (by omega)
  clear F6 ou hb7 k6 a6 b6 rx6 ry6 rP6
  go_wp2_with fail
  refine (Frame_any _ 1 1 [xs] _ (rdl_one ⟨_, _, _, rfl, rx7, by omega, fun h => by cases h⟩) (by simp only [tot]; have := HXL.out; omega)).mono ?_
  rintro e w8 ⟨V, lv, cv', rfl, ov, hb8⟩
  have hb8 : Below w7.heap.size w7 w8 := ((Below.refl _ _).alloc (Nat.le_refl _) _).trans (hb8.mono (by simp))
  have ov := ov.mono (show w7.heap.size ≤ _ by simp)
  have s8 := hb8.size
  have k8 := k7.trans (hb8.mono (by omega))
  have a8 := a7.below hb8
  have b8 := b7.below hb8
  have rx8 := rx7.below hb8
  have ry8 := ry7.below hb8
  have rP8 := rP7.below hb8
  have F8 : Fam w8 w1.heap.size ([(.slice O lo co, ordT xs), (.slice U lu cu, frameB [xs, ys])] ++ ((.slice V lv cv', frameB [xs]) :: ((.slice T lt ct, tv) :: (pp ++ [fX, fY])))) := Fam.ins (a := [(.slice O lo co, ordT xs), (.slice U lu cu, frameB [xs, ys])]) (b := ((.slice T lt ct, tv) :: (pp ++ [fX, fY]))) F7 (Fam.one ov) hb8 (Nat.le_refl _) (by omega)
  clear F7 ov hb8 k7 a7 b7 rx7 ry7 rP7
  go_wp2_with fail
  refine (Next_any (some ⟨gx, 0, none⟩) la (la + 40) xs _ rx8 (by omega) (by omega) (fun h => by cases h)).mono ?_
  rintro e w9 ⟨M, lm, cm, rfl, om, hb9⟩
  have s9 := hb9.size
  have k9 := k8.trans (hb9.mono (by omega))
  have a9 := a8.below hb9
  have b9 := b8.below hb9
  have rx9 := rx8.below hb9
  have ry9 := ry8.below hb9
  have rP9 := rP8.below hb9
  have F9 : Fam w9 w1.heap.size ([(.slice O lo co, ordT xs), (.slice U lu cu, frameB [xs, ys]), (.slice V lv cv', frameB [xs])] ++ ((.slice M lm cm, nextB xs) :: ((.slice T lt ct, tv) :: (pp ++ [fX, fY])))) := Fam.ins (a := [(.slice O lo co, ordT xs), (.slice U lu cu, frameB [xs, ys]), (.slice V lv cv', frameB [xs])]) (b := ((.slice T lt ct, tv) :: (pp ++ [fX, fY]))) F8 (Fam.one om) hb9 (Nat.le_refl _) (by omega)
  clear F8 om hb9 k8 a8 b8 rx8 ry8 rP8
  go_wp2_with fail
  refine (Next_any (some ⟨gy, 0, none⟩) lb (lb + 40) ys _ ry9 (by omega) (by omega) (fun h => by cases h)).mono ?_
  rintro e w10 ⟨N, ln, cn, rfl, on, hb10⟩
  have s10 := hb10.size
  have k10 := k9.trans (hb10.mono (by omega))
  have a10 := a9.below hb10
  have b10 := b9.below hb10
  have rx10 := rx9.below hb10
  have ry10 := ry9.below hb10
  have rP10 := rP9.below hb10
  have F10 : Fam w10 w1.heap.size ([(.slice O lo co, ordT xs), (.slice U lu cu, frameB [xs, ys]), (.slice V lv cv', frameB [xs]), (.slice M lm cm, nextB xs)] ++ ((.slice N ln cn, nextB ys) :: ((.slice T lt ct, tv) :: (pp ++ [fX, fY])))) := Fam.ins (a := [(.slice O lo co, ordT xs), (.slice U lu cu, frameB [xs, ys]), (.slice V lv cv', frameB [xs]), (.slice M lm cm, nextB xs)]) (b := ((.slice T lt ct, tv) :: (pp ++ [fX, fY]))) F9 (Fam.one on) hb10 (Nat.le_refl _) (by omega)
  clear F9 on hb10 k9 a9 b9 rx9 ry9 rP9
  go_wp2_with fail
  refine (PutU_any 9 _ (by unfold B64; omega)).mono ?_
  rintro e w11 ⟨Q, lq, cq, rfl, oq, hb11⟩
  have s11 := hb11.size
  have k11 := k10.trans (hb11.mono (by omega))
  have a11 := a10.below hb11
  have b11 := b10.below hb11
  have rx11 := rx10.below hb11
  have ry11 := ry10.below hb11
  have rP11 := rP10.below hb11
  have F11 : Fam w11 w1.heap.size ([(.slice O lo co, ordT xs), (.slice U lu cu, frameB [xs, ys]), (.slice V lv cv', frameB [xs]), (.slice M lm cm, nextB xs), (.slice N ln cn, nextB ys), (.slice T lt ct, tv)] ++ ((.slice Q lq cq, putU 9) :: (pp ++ [fX, fY]))) := Fam.ins (a := [(.slice O lo co, ordT xs), (.slice U lu cu, frameB [xs, ys]), (.slice V lv cv', frameB [xs]), (.slice M lm cm, nextB xs), (.slice N ln cn, nextB ys), (.slice T lt ct, tv)]) (b := (pp ++ [fX, fY])) F10 (Fam.one oq) hb11 (Nat.le_refl _) (by omega)
  clear F10 oq hb11 k10 a10 b10 rx10 ry10 rP10
  go_wp2_with fail
  refine (OrdU_any 7 _ (by unfold B64; omega)).mono ?_
  rintro e w12 ⟨R, lr, cr, rfl, orr, hb12⟩
  have s12 := hb12.size
  have k12 := k11.trans (hb12.mono (by omega))
  have a12 := a11.below hb12
  have b12 := b11.below hb12
  have rx12 := rx11.below hb12
  have ry12 := ry11.below hb12
  have rP12 := rP11.below hb12
  have F12 : Fam w12 w1.heap.size ([(.slice O lo co, ordT xs), (.slice U lu cu, frameB [xs, ys]), (.slice V lv cv', frameB [xs]), (.slice M lm cm, nextB xs), (.slice N ln cn, nextB ys), (.slice T lt ct, tv), (.slice Q lq cq, putU 9)] ++ ((.slice R lr cr, ordU 7) :: (pp ++ [fX, fY]))) := Fam.ins (a := [(.slice O lo co, ordT xs), (.slice U lu cu, frameB [xs, ys]), (.slice V lv cv', frameB [xs]), (.slice M lm cm, nextB xs), (.slice N ln cn, nextB ys), (.slice T lt ct, tv), (.slice Q lq cq, putU 9)]) (b := (pp ++ [fX, fY])) F11 (Fam.one orr) hb12 (Nat.le_refl _) (by omega)
  clear F11 orr hb12 k11 a11 b11 rx11 ry11 rP11
  obtain ⟨lp, hlp⟩ : ∃ lp : List VB, lp = [(.slice O lo co, ordT xs), (.slice U lu cu, frameB [xs, ys]), (.slice V lv cv', frameB [xs]), (.slice M lm cm, nextB xs), (.slice N ln cn, nextB ys), (.slice T lt ct, tv), (.slice Q lq cq, putU 9), (.slice R lr cr, ordU 7)] ++ pp := ⟨_, rfl⟩
  have F12' : Fam w12 w1.heap.size (lp ++ [fX, fY]) := by rw [hlp, List.append_assoc]; exact F12
  have hlpf : lp.map (·.1) = Value.slice O lo co :: Value.slice U lu cu :: Value.slice V lv cv' :: Value.slice M lm cm :: Value.slice N ln cn :: Value.slice T lt ct :: Value.slice Q lq cq :: Value.slice R lr cr :: pp.map (·.1) := by rw [hlp]; rfl
  have hlow : ∀ v ∈ (lp ++ [fX, fY]).map (·.1), ∀ b, Value.ownBlock v = some b → b < w12.heap.size := fun v hv b hb => by
    obtain ⟨p, hp, rfl⟩ := List.mem_map.1 hv
    exact (F12'.lt hp hb).2
  have HLOW := Lib.hid hlow
  have hlpt : tot (lp.map (·.2)) ≤ 67108864 := by
    rw [hlp, List.map_append, tot_append, HPP.out]
    have h1 := ordT_len xs
    have h2 := frameB_len [xs, ys] (by simp only [tot]; have := HXL.out; have := HYL.out; omega)
    have h3 := frameB_len [xs] (by simp only [tot]; have := HXL.out; omega)
    have h4 := nextB_len xs
    have h5 := nextB_len ys
    have h6 := HTL.out
    have h7 := putU_len64 9 (by unfold B64; omega)
    have h8 := ordU_len 7
    have h9 := HPT.out
    have h10 := HXL.out
    have h11 := HYL.out
    simp only [tot] at h2 h3
    simp only [List.map_cons, List.map_nil, tot]
    omega
  have HF := Lib.hid F12'
  have HLF := Lib.hid hlpf
  have HLT := Lib.hid hlpt
  clear F12 F12' hlpf hlpt hlp hlow
  go_wp2_with (at_builtin; refine wpList_appV _ rfl _ _ 44 rfl w12.heap.size 23 _ 24 Try.underlying44 info_sl rfl (some ⟨w12.heap.size, 0, none⟩) 8 8 [.slice O lo co, .slice U lu cu, .slice V lv cv', .slice M lm cm, .slice N ln cn, .slice T lt ct, .slice Q lq cq, .slice R lr cr] rfl (ownV_box w12 _ w12.heap.size _ 8 rfl (by omega) (Nat.le_refl _) _ rfl) P np cp (pp.map (·.1)) rfl (rP12.alloc _) H1C.out ?_ ?_ ?_ ?_)
  · unfold maxLen; omega
  · omega
  · simp
  intro L cl w13 hL13 hg13 _
  rw [← HLF.out] at hL13
  have hb13 : Below w12.heap.size w12 w13 := ((Below.refl _ _).alloc (Nat.le_refl _) _).grown hg13 (by simp) (fun k hk => by injection hk with hk; simp only at hk; omega)
  have s13 := hb13.size
  have k13 := k12.trans (hb13.mono (by omega))
  have a13 := a12.below hb13
  have b13 := b12.below hb13
  have F13 := HF.out.below hb13
  have hLlt : ∀ b, blk L = some b → w12.heap.size ≤ b ∧ b < w13.heap.size := fun b hb => hL13.lt b hb
  clear hg13 hb13 k12 a12 b12 rx12 ry12 rP12 HF
  go_wp2_with fail
  refine (CopiesF_any L (8 + np) cl (lp.map (·.2)) _ (F13.left.rdl hL13.rd) (by have := HLT.out; omega)).mono ?_
  rintro e w14 ⟨C, nc, cc, cps, rfl, rc, hcps⟩
  obtain rfl : 8 + np = nc := by
    have h1 := congrArg List.length hcps
    have h2 := rc.len
    have h3 := hL13.len
    simp only [List.length_map] at h1 h3
    omega
  have hb14 := rc.bel
  have s14 := hb14.size
  have k14 := k13.trans (hb14.mono (by omega))
  have a14 := a13.below hb14
  have b14 := b13.below hb14
  have F14 := F13.below hb14
  have hL14 := hL13.below hb14
  have HCPS := Lib.hid hcps
  clear hb14 k13 a13 b13 F13 hL13 hcps
  rw [HFX.out, HFY.out] at F14
  have oX14 := F14.mem_own (A := some ⟨gx, 0, none⟩) (m := la + 40) (c := la + 40) (xs := xs ++ room la 40) (by simp)
  have oY14 := F14.mem_own (A := some ⟨gy, 0, none⟩) (m := lb + 40) (c := lb + 40) (xs := ys ++ room lb 40) (by simp)
  go_wp2_with fail
  refine (Kept_any (some ⟨gx, 0, none⟩) A la (la + 40) ca xs _ oX14.rd a14 (by omega)).mono ?_
  rintro e w15 ⟨rfl, q15, rfl⟩
  go_wp2_with fail
  refine (Kept_any (some ⟨gy, 0, none⟩) B lb (lb + 40) cb ys _ (oY14.rd.drewN q15) (b14.drewN q15) (by omega)).mono ?_
  rintro e w16 ⟨rfl, q16, rfl⟩
  obtain ⟨W, hW⟩ : ∃ W, W = (w14.drewN q15).drewN q16 := ⟨_, rfl⟩
  have kW : Below w.heap.size w W := by rw [hW]; exact below_drewN (below_drewN k14 _) _
  have FW : Fam W w1.heap.size (lp ++ [(.slice (some ⟨gx, 0, none⟩) (la + 40) (la + 40), xs ++ room la 40), (.slice (some ⟨gy, 0, none⟩) (lb + 40) (lb + 40), ys ++ room lb 40)]) := by rw [hW]; exact (F14.drewN q15).drewN q16
  have hLW : OwnV 23 W w12.heap.size L (8 + np) cl (lp.map (·.1)) := by rw [hW]; exact (hL14.drewN q15).drewN q16
  have rcW : OwnV 23 W w13.heap.size C (8 + np) cc (cps.map (·.1)) ∧ Fam W w13.heap.size cps := by rw [hW]; exact ⟨(rc.own.drewN q15).drewN q16, (rc.fam.drewN q15).drewN q16⟩
  have sW : w14.heap.size ≤ W.heap.size := by rw [hW]; exact Nat.le_refl _
  rw [← hW]
  clear hW k14 a14 b14 F14 hL14 rc oX14 oY14
  obtain ⟨rcO, rcF⟩ := rcW
  have oXW := FW.mem_own (A := some ⟨gx, 0, none⟩) (m := la + 40) (c := la + 40) (xs := xs ++ room la 40) (by simp)
  go_wp2_with fail
  refine (Over_any gx (la + 40) la w1.heap.size _ _ oXW (by omega) (by omega)).mono ?_
  rintro e w17 ⟨rfl, zs, oz, hg17⟩
  have F17 : Fam w17 w1.heap.size (lp ++ [(.slice (some ⟨gx, 0, none⟩) (la + 40) (la + 40), zs), (.slice (some ⟨gy, 0, none⟩) (lb + 40) (lb + 40), ys ++ room lb 40)]) := Fam.turn FW oz hg17
  have k17 := kW.grown hg17 (by omega) (fun k hk => by injection hk with hk; omega)
  have hL17 := hLW.kept hg17 (fun b hb e => by injection e with e; have := hLlt b hb; omega)
  have cO17 := rcO.kept hg17 (fun b hb e => by injection e with e; have := rcO.lt b hb; omega)
  have cF17 := rcF.kept hg17 (fun b e => rcF.off_old (by injection e with e; omega))
  have s17 := hg17.size
  have hzl := oz.len
  clear FW kW hLW rcO rcF oXW oz hg17
  have oY17 := F17.mem_own (A := some ⟨gy, 0, none⟩) (m := lb + 40) (c := lb + 40) (xs := ys ++ room lb 40) (by simp)
  go_wp2_with fail
  refine (Over_any gy (lb + 40) lb w1.heap.size _ _ oY17 (by omega) (by omega)).mono ?_
  rintro e w18 ⟨rfl, us, ou, hg18⟩
  have F18 : Fam w18 w1.heap.size (lp ++ [(.slice (some ⟨gx, 0, none⟩) (la + 40) (la + 40), zs), (.slice (some ⟨gy, 0, none⟩) (lb + 40) (lb + 40), us)]) := by
    have h : Fam w17 w1.heap.size ((lp ++ [(.slice (some ⟨gx, 0, none⟩) (la + 40) (la + 40), zs)]) ++ ((.slice (some ⟨gy, 0, none⟩) (lb + 40) (lb + 40), ys ++ room lb 40) :: [])) := by rw [List.append_assoc]; exact F17
    have h2 := Fam.turn h ou hg18
    rw [List.append_assoc] at h2
    exact h2
  have k18 := k17.grown hg18 (by omega) (fun k hk => by injection hk with hk; omega)
  have hL18 := hL17.kept hg18 (fun b hb e => by injection e with e; have := hLlt b hb; omega)
  have cO18 := cO17.kept hg18 (fun b hb e => by injection e with e; have := cO17.lt b hb; omega)
  have cF18 := cF17.kept hg18 (fun b e => cF17.off_old (by injection e with e; omega))
  have s18 := hg18.size
  have hul := ou.len
  clear F17 k17 hL17 cO17 cF17 oY17 ou hg18
  have rC := cF18.rdl cO18.rd
  rw [HCPS.out] at rC
  go_wp2_with fail
  refine (Equals_any L C (8 + np) cl cc (lp.map (·.2)) _ (F18.left.rdl hL18.rd) rC (by omega) (fun x h => by
    obtain ⟨i, hi⟩ := List.getElem?_of_mem h
    have h1 := tot_at hi
    have h2 := HLT.out
    have h3 := HM.out
    omega)).mono ?_
  rintro e w19 ⟨rfl, q19, rfl⟩
  have F19 := F18.drewN q19
  have k19 := below_drewN k18 q19
  have hL19 := hL18.drewN q19
  obtain ⟨X, hX⟩ : ∃ X, X = w18.drewN q19 := ⟨_, rfl⟩
  have sX : w18.heap.size ≤ X.heap.size := by rw [hX]; exact Nat.le_refl _
  rw [← hX] at F19 k19 hL19 ⊢
  clear hX F18 k18 hL18 cO18 cF18 rC
  obtain ⟨ps, hps⟩ : ∃ ps : List VB, ps = lp ++ [(.slice (some ⟨gx, 0, none⟩) (la + 40) (la + 40), zs), (.slice (some ⟨gy, 0, none⟩) (lb + 40) (lb + 40), us)] := ⟨_, rfl⟩
  rw [← hps] at F19
  have hpf : ps.map (·.1) = lp.map (·.1) ++ [.slice (some ⟨gx, 0, none⟩) (la + 40) (la + 40), .slice (some ⟨gy, 0, none⟩) (lb + 40) (lb + 40)] := by rw [hps, List.map_append]; rfl
  have hlow : ∀ v ∈ ps.map (·.1), ∀ b, Value.ownBlock v = some b → b < w12.heap.size := by
    have h := HLOW.out
    rw [HFX.out, HFY.out, List.map_append] at h
    rw [hpf]
    exact h
  have hsmall : ∀ p ∈ ps, p.2.length ≤ 1073741824 := fun p hp => by
    rw [hps] at hp
    simp only [List.mem_append, List.mem_cons, List.not_mem_nil, or_false] at hp
    rcases hp with hp | rfl | rfl
    · obtain ⟨i, hi⟩ := List.getElem?_of_mem hp
      have h1 : (lp.map (·.2))[i]? = some p.2 := by rw [List.getElem?_map, hi]; rfl
      have h2 := tot_at h1
      have h3 := HLT.out
      omega
    · simp only; omega
    · simp only; omega
  have HPF := Lib.hid hpf
  have HLOW2 := Lib.hid hlow
  have HSM := Lib.hid hsmall
  clear hps hpf hlow hsmall
  go_wp2_with (at_builtin; refine wpList_appG _ (by rfl) _ _ 44 rfl w12.heap.size 23 _ 24 Try.underlying44 info_sl rfl L (8 + np) cl (lp.map (·.1)) rfl (hL19.alloc _) ⟨X.heap.size, 0, none⟩ 2 2 [.slice (some ⟨gx, 0, none⟩) (la + 40) (la + 40), .slice (some ⟨gy, 0, none⟩) (lb + 40) (lb + 40)] rfl (ownV_box X _ X.heap.size _ 2 rfl (by omega) (Nat.le_refl _) _ rfl).rd (by intro u hu; simp only [List.mem_cons, List.not_mem_nil, or_false] at hu; rcases hu with rfl | rfl <;> rfl) ?_ ?_ ?_ ?_)
  · unfold maxLen; omega
  · omega
  · simp; omega
  intro L2 cl2 w20 hL20 hg20 _
  rw [← HPF.out] at hL20
  have hb20 : Below w12.heap.size X w20 := ((Below.refl _ _).alloc (by omega) _).grown hg20 (by simp; omega) (fun k hk => (hLlt k hk).1)
  have F20 : Fam w20 w1.heap.size ps := (F19.below ((Below.refl _ _).alloc (Nat.le_refl _) _)).kept hg20 (fun b e p hp e2 => by
    have h1 := hLlt b e
    have h2 := HLOW2.out p.1 (List.mem_map.2 ⟨p, hp, rfl⟩) b e2
    omega)
  have k20 := k19.trans (hb20.mono (by omega))
  have s20 := hb20.size
  clear F19 k19 hL19 hg20 hb20
  go_wp2_with fail
  refine (Apart_any L2 (8 + np + 2) cl2 w1.heap.size (ps.map (·.1)) _ hL20.rd (by omega) F20.pre (F20.small HSM.out) F20.dis (fun b hb i v hv e => by
    have h1 := hL20.lt b hb
    have h2 := HLOW2.out v (List.mem_of_getElem? hv) b e
    omega) (by omega)).mono ?_
  rintro e w21 ⟨rfl, hb21⟩
  go_wp2
  go_ret
  exact ⟨rfl, k20.trans (hb21.mono s1)⟩

end Go.Proofs.Ytbmaaofomgkllaa
