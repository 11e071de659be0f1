/- BloomKeeps: no call of bloom changes or keeps what it is handed, and all answers are memory of their own. -/
import Derived.Test.YtoaajkdhlhopmaaBlI
import Derived.Test.YtoaajkdhlhopmaaFamD
import Derived.Test.YtoaajkdhlhopmaaApart
import Derived.Test.YtoaajkdhlhopmaaKept
namespace Go.Proofs.Ytoaajkdhlhopmaa
open Go Go.RowKit

theorem orB_self (fs : List UInt8) : ∀ i, orB fs fs i = fs
  | 0 => rfl
  | i + 1 => by
    rw [orB, orB_self fs i]
    by_cases h : i < fs.length
    · rw [List.getElem?_eq_getElem h, Option.getD_some, Nat.or_self, UInt8.ofNat_toNat, List.set_getElem_self]
    · exact List.set_eq_of_length_le (by omega)
theorem filter_good {p : Nat} {xss : List (List UInt8)} : goodB (filterB p xss) = true := by
  obtain ⟨s, hs⟩ : ∃ s, s = ((if xss.length * p < 64 then 64 else xss.length * p) + 7) / 8 + 1 := ⟨_, rfl⟩
  obtain ⟨k, hk⟩ : ∃ k, k = min (max (p * 69 / 100) 1) 30 := ⟨_, rfl⟩
  have hs2 : 9 ≤ s := by rw [hs]; split <;> omega
  have hk2 : 1 ≤ k ∧ k ≤ 30 := by omega
  have hF : filterB p xss = buildB s k xss := by unfold filterB; rw [← hs, ← hk]
  have hl := buildB_len s k xss
  have hla := buildB_last (k := k) (show 2 ≤ s by omega) xss
  have h8 : (UInt8.ofNat k).toNat = k := by simp; omega
  have hgl : (buildB s k xss).getLast? = some (UInt8.ofNat k) := by rw [List.getLast?_eq_getElem?, hl, hla]
  rw [hF]
  unfold goodB
  rw [hgl, hl]
  simp only [h8]
  simp
  omega
/-- What a union is: new memory, or none. -/
def RetUa (w : World) (n : Nat) (e : Ending) (w' : World) : Prop := ∃ A k c u z, e = .returned (.tuple #[.slice A k c, .int .i64 z]) ∧ Own 5 w' w.heap.size A k c u ∧ k ≤ n ∧ Below w.heap.size w w'
theorem union_any (A : Option Addr) (n c : Nat) (fs : List UInt8) (B : Option Addr) (m d : Nat) (gs : List UInt8) (w : World) (h : Rd w A n fs) (hn : n ≤ 140737488351232) (h' : Rd w B m gs) (hm : m ≤ 140737488351232) (hmd : m ≤ d) :
    Calls Try.prog 38 #[.slice A n c, .slice B m d] w (RetUa w n) := by
  by_cases hg : goodB fs = true ∧ goodB gs = true
  · by_cases hne : n = m ∧ fs[n - 1]? = gs[n - 1]?
    · obtain ⟨rfl, hne⟩ := hne
      refine (union_good A n c fs B d gs w h hn h' hmd hg.1 hg.2 hne).mono ?_
      rintro e w' ⟨C, k, rfl, o, b⟩
      exact ⟨C, _, k, _, 0, rfl, o, by rw [orB_len, h.len]; exact Nat.le_refl _, b⟩
    · refine (union_arg A n c fs B m d gs w h hn h' hm hg.1 hg.2 hne).mono ?_
      rintro e w' ⟨rfl, b⟩
      exact ⟨none, 0, 0, [], 1, rfl, Own.nil _ _ _, Nat.zero_le _, b⟩
  · refine (union_form A n c fs B m d gs w h hn h' hm hg).mono ?_
    rintro e w' ⟨rfl, b⟩
    exact ⟨none, 0, 0, [], 3, rfl, Own.nil _ _ _, Nat.zero_le _, b⟩
theorem rdl_box9 {w : World} {t : TypeId} {vs : List Value} {xss : List (List UInt8)} {n : Nat} (hl : vs.length = n) (hx : xss.length = n) (h : ∀ (i : Nat) v x, vs[i]? = some v → xss[i]? = some x → ElB w v x) (cs : Array Value) (hc : cs = vs.toArray) :
    RdL (w.alloc (.cells cs t)) (some ⟨w.heap.size, 0, none⟩) n xss := by
  subst hc
  refine ⟨hx, fun _ => ⟨w.heap.size, 0, rfl, by simp, fun i x hi => ?_⟩⟩
  have hlt := (List.getElem?_eq_some_iff.1 hi).1
  obtain ⟨v, hv⟩ : ∃ v, vs[i]? = some v := ⟨_, List.getElem?_eq_getElem (by omega)⟩
  refine ⟨v, ?_, (h i v x hv hi).below ((Below.refl _ _).alloc (Nat.le_refl _) _)⟩
  rw [cell_of_row (w.alloc (.cells vs.toArray t)) w.heap.size (0 + i) vs.toArray t (0, 0) (heap_alloc_new w _)]
  simp [hv]
theorem rdl_two9 {w : World} {t : TypeId} {v1 v2 : Value} {x1 x2 : List UInt8} (h1 : ElB w v1 x1) (h2 : ElB w v2 x2) (g : Nat) (hg : g = w.heap.size) : RdL (w.alloc (.cells #[v1, v2] t)) (some ⟨g, 0, none⟩) 2 [x1, x2] := by
  subst hg
  refine rdl_box9 (vs := [v1, v2]) rfl rfl (fun i v x hv hx => ?_) _ rfl
  match i, hv, hx with
  | 0, hv, hx => simp at hv hx; subst hv hx; exact h1
  | 1, hv, hx => simp at hv hx; subst hv hx; exact h2
  | i + 2, hv, hx => simp at hv
theorem rdPre9 {e : TypeId} {w : World} {base g n k : Nat} {xs : List UInt8} (h : Own e w base (some ⟨g, 0, none⟩) (n + 40) (n + 40) (xs ++ room n k)) (hx : xs.length = n) : Rd w (some ⟨g, 0, none⟩) n xs := by
  have := (h.prefix n (by omega) (by simp)).rd
  rw [List.take_left' hx] at this
  exact this
theorem Fam.app9 {w w' : World} {base base' : Nat} {ps qs : List VB} (h : Fam w base ps) (hn : Fam w' base' qs) (hb : Below w.heap.size w w') (h1 : w.heap.size ≤ base') (h2 : base ≤ base') : Fam w' base (ps ++ qs) := by
  have h0 : Fam w base (ps ++ []) := by rw [List.append_nil]; exact h
  have := Fam.ins h0 hn hb h1 h2
  rw [List.append_nil] at this
  exact this
theorem Fam.own9 {w : World} {base : Nat} {ps : List VB} (h : Fam w base ps) {A : Option Addr} {m c : Nat} {xs : List UInt8} (hp : (Value.slice A m c, xs) ∈ ps) : Own 5 w base A m c xs := by
  obtain ⟨A', m', c', e, ho⟩ := h.1 _ hp
  injection e with e1 e2 e3
  subst e1 e2 e3
  exact ho
theorem ownV_box9 (w : World) (t : TypeId) (base : Nat) (vs : List Value) (n : Nat) (hl : vs.length = n) (hn : n ≤ 1024) (hb : base ≤ w.heap.size) (cs : Array Value) (hc : cs = vs.toArray) (g : Nat) (hg : g = w.heap.size) : OwnV t (w.alloc (.cells cs t)) base (some ⟨g, 0, none⟩) n n vs := by
  subst hc hg
  refine ⟨by simp [hl], .inr ⟨w.heap.size, n, vs.toArray, rfl, hb, heap_alloc_new w _, Nat.le_refl _, by unfold maxLen; omega, by simp [hl], ?_⟩⟩
  simp only [Nat.mul_one]
  exact List.take_of_length_le (by simp [hl])

set_option maxRecDepth 100000 in
set_option maxHeartbeats 8000000 in
theorem bloomKeeps_row (A : Option Addr) (la ca : Nat) (xs : List UInt8) (B : Option Addr) (lb cb : Nat) (ys : List UInt8) (w : World)
    (hx : Rd w A la xs) (hla : la ≤ ca) (hca : ca ≤ 1048576) (hy : Rd w B lb ys) (hlb : lb ≤ cb) (hcb : cb ≤ 1048576) :
    Calls Try.prog 8 #[.slice A la ca, .slice B lb cb] w (RetT w true) := by
  have hM : 1099511627776 ≤ maxLen := by unfold maxLen; omega
  have HM := Lib.hid hM
  have HXL := Lib.hid hx.len
  have HYL := Lib.hid hy.len
  clear hM
  go_enter Try.func8, Try.ntmps8
  go_wp2_with fail
  refine (awake9_any _).mono ?_
  rintro e w1 ⟨rfl, k1⟩
  have s1 := k1.size
  have a1 := hx.below k1
  have b1 := hy.below k1
  go_wp2_with fail
  refine (Spare_any A la ca xs _ a1 (by omega)).mono ?_
  rintro e w2 ⟨gx, rfl, ox, hb2⟩
  have s2 := hb2.size
  have gx1 := ox.lt gx rfl
  have k2 := k1.trans (hb2.mono s1)
  have a2 := a1.below hb2
  have b2 := b1.below hb2
  go_wp2_with fail
  refine (Spare_any B lb cb ys _ b2 (by omega)).mono ?_
  rintro e w3 ⟨gy, rfl, oy, hb3⟩
  have s3 := hb3.size
  have k3 := k2.trans (hb3.mono (by omega))
  have a3 := a2.below hb3
  have b3 := b2.below hb3
  have F3 : Fam w3 w1.heap.size [(.slice (some ⟨gx, 0, none⟩) (la + 40) (la + 40), xs ++ room la 40), (.slice (some ⟨gy, 0, none⟩) (lb + 40) (lb + 40), ys ++ room lb 40)] := Fam.app9 (Fam.one ox) (Fam.one oy) hb3 (Nat.le_refl _) (by omega)
  have rx3 := rdPre9 (ox.below hb3) HXL.out
  have ry3 := rdPre9 oy HYL.out
  clear ox oy hb2 hb3 k1 k2 a1 b1 a2 b2 hx hy gx1
  obtain ⟨F, hF⟩ : ∃ F, F = filterB 9 [xs, ys] := ⟨_, rfl⟩
  have hFl : F.length ≤ 2501 := by rw [hF]; exact filter_len (by omega) (by simp)
  have hFg : goodB F = true := by rw [hF]; exact filter_good
  have hF2 := goodB_two hFg
  have HBD : Hid (∀ wx, Rd wx (some ⟨gx, 0, none⟩) la xs → Rd wx (some ⟨gy, 0, none⟩) lb ys → ∀ g, g = wx.heap.size → Calls Try.prog 34 #[.int .i64 9, .slice (some ⟨g, 0, none⟩) 2 2] (wx.alloc (.cells #[.slice (some ⟨gx, 0, none⟩) la (la + 40), .slice (some ⟨gy, 0, none⟩) lb (lb + 40)] 22)) fun e w' =>
      ∃ k, e = .returned (.tuple #[.slice (some ⟨k, 0, none⟩) F.length F.length, .int .i64 0]) ∧ Own 5 w' wx.heap.size (some ⟨k, 0, none⟩) F.length F.length F ∧ Below wx.heap.size wx w') := Lib.hid (fun wx h1 h2 g hg => by
    subst hg
    refine (build_good _ 2 2 9 _ (by omega) (by omega) (by omega) [xs, ys] (rdl_two9 (w := wx) (t := 22) ⟨some ⟨gx, 0, none⟩, la, la + 40, rfl, h1, by omega, fun h => by cases h⟩ ⟨some ⟨gy, 0, none⟩, lb, lb + 40, rfl, h2, by omega, fun h => by cases h⟩ _ rfl) (fun zs hz => by
      have := HM.out
      have := HXL.out
      have := HYL.out
      simp only [List.mem_cons, List.not_mem_nil, or_false] at hz
      rcases hz with rfl | rfl <;> omega)).mono ?_
    rintro e w' ⟨rfl, hc, hb⟩
    rw [← hF] at hc ⊢
    exact ⟨_, rfl, own_block (vs := F.map cv) hc rfl rfl (by have := HM.out; omega) (by simp), ((Below.refl _ _).alloc (Nat.le_refl _) _).trans (hb.mono (by simp))⟩)
  have HFG := Lib.hid hFg
  clear hF hFg
  go_wp2_with fail
  with_reducible refine (HBD.out _ rx3 ry3 _ rfl).mono ?_
  rintro e w4 ⟨g1, rfl, o1, hb4⟩
  have s4 := hb4.size
  have k4 := k3.trans (hb4.mono (by omega))
  have a4 := a3.below hb4
  have b4 := b3.below hb4
  have rx4 := rx3.below hb4
  have ry4 := ry3.below hb4
  have r14 := o1.rd
  have F4 := Fam.app9 F3 (Fam.one o1) hb4 (Nat.le_refl _) (by omega)
  clear F3 o1 hb4 k3 a3 b3 rx3 ry3
  go_wp2_with fail
  with_reducible refine (HBD.out _ rx4 ry4 _ rfl).mono ?_
  rintro e w5 ⟨g2, rfl, o2, hb5⟩
  have s5 := hb5.size
  have k5 := k4.trans (hb5.mono (by omega))
  have a5 := a4.below hb5
  have b5 := b4.below hb5
  have rx5 := rx4.below hb5
  have ry5 := ry4.below hb5
  have r15 := r14.below hb5
  have r25 := o2.rd
  have F5 := Fam.app9 F4 (Fam.one o2) hb5 (Nat.le_refl _) (by omega)
  clear F4 o2 hb5 k4 a4 b4 rx4 ry4 r14 HBD
  go_wp2_with fail
  refine (union_any (some ⟨gx, 0, none⟩) la (la + 40) xs (some ⟨gy, 0, none⟩) lb (lb + 40) ys _ rx5 (by omega) ry5 (by omega) (by omega)).mono ?_
  rintro e w6 ⟨U, un, uc, us, uz, rfl, ou, hun, hb6⟩
  have s6 := hb6.size
  have k6 := k5.trans (hb6.mono (by omega))
  have a6 := a5.below hb6
  have b6 := b5.below hb6
  have rx6 := rx5.below hb6
  have ry6 := ry5.below hb6
  have r16 := r15.below hb6
  have r26 := r25.below hb6
  have hul := ou.len
  have F6 := Fam.app9 F5 (Fam.one ou) hb6 (Nat.le_refl _) (by omega)
  clear F5 ou hb6 k5 a5 b5 rx5 ry5 r15 r25
  have HUV : Hid (∀ wx, Rd wx (some ⟨g1, 0, none⟩) F.length F → Rd wx (some ⟨g2, 0, none⟩) F.length F → Calls Try.prog 38 #[.slice (some ⟨g1, 0, none⟩) F.length F.length, .slice (some ⟨g2, 0, none⟩) F.length F.length] wx (RetUn wx F)) := Lib.hid (fun wx h1 h2 => by
    have h := union_good (some ⟨g1, 0, none⟩) F.length F.length F (some ⟨g2, 0, none⟩) F.length F wx h1 (by omega) h2 (Nat.le_refl _) HFG.out HFG.out rfl
    rw [orB_self] at h
    exact h)
  go_wp2_with fail
  with_reducible refine (HUV.out _ r16 r26).mono ?_
  rintro e w7 ⟨V, vc, rfl, ov, hb7⟩
  have s7 := hb7.size
  have k7 := k6.trans (hb7.mono (by omega))
  have a7 := a6.below hb7
  have b7 := b6.below hb7
  have rx7 := rx6.below hb7
  have ry7 := ry6.below hb7
  have r17 := r16.below hb7
  have r27 := r26.below hb7
  have rv7 := ov.rd
  have F7 := Fam.app9 F6 (Fam.one ov) hb7 (Nat.le_refl _) (by omega)
  clear F6 ov hb7 k6 a6 b6 rx6 ry6 r16 r26 HUV
  go_wp2_with fail
  refine (may_any (some ⟨gx, 0, none⟩) la (la + 40) xs (some ⟨gy, 0, none⟩) lb (lb + 40) ys _ rx7 (by omega) ry7 (by have := HM.out; omega)).mono ?_
  intro e w8 hq
  obtain ⟨he, hb8⟩ := RetMy.out hq
  subst he
  have s8 := hb8.size
  have k8 := k7.trans (hb8.mono (by omega))
  have a8 := a7.below hb8
  have b8 := b7.below hb8
  have r18 := r17.below hb8
  have r28 := r27.below hb8
  have rv8 := rv7.below hb8
  have F8 := F7.below hb8
  clear F7 hq hb8 k7 a7 b7 rx7 ry7 r17 r27 rv7
  simp only [List.cons_append, List.nil_append] at F8
  have oX := (F8.own9 (A := some ⟨gx, 0, none⟩) (m := la + 40) (c := la + 40) (xs := xs ++ room la 40) (by simp)).rd
  have oY := (F8.own9 (A := some ⟨gy, 0, none⟩) (m := lb + 40) (c := lb + 40) (xs := ys ++ room lb 40) (by simp)).rd
  have HF8 := Lib.hid F8
  clear F8
  go_wp2_with fail
  refine (Kept_any (some ⟨gx, 0, none⟩) A la (la + 40) ca xs _ oX a8 (by omega)).mono ?_
  rintro e w9 ⟨rfl, q9, rfl⟩
  go_wp2_with fail
  refine (Kept_any (some ⟨gy, 0, none⟩) B lb (lb + 40) cb ys _ (oY.drewN q9) (b8.drewN q9) (by omega)).mono ?_
  rintro e w10 ⟨rfl, q10, hw10⟩
  have hw10' : ∃ q, w10 = w8.drewN q := ⟨q9 + q10, by rw [hw10, World.drewN_drewN]⟩
  obtain ⟨q, hq⟩ := hw10'
  have r1 : Rd w10 (some ⟨g1, 0, none⟩) F.length F := by rw [hq]; exact r18.drewN q
  have r2 : Rd w10 (some ⟨g2, 0, none⟩) F.length F := by rw [hq]; exact r28.drewN q
  have rv : Rd w10 V F.length F := by rw [hq]; exact rv8.drewN q
  have k10 : Below w.heap.size w w10 := by rw [hq]; exact below_drewN k8 q
  have s10 : w8.heap.size ≤ w10.heap.size := by rw [hq]; exact Nat.le_refl _
  have HF10 := Lib.hid (show Fam w10 w1.heap.size _ by rw [hq]; exact HF8.out.drewN q)
  clear hw10 hq k8 oX oY a8 b8 r18 r28 rv8 HF8
  go_wp2_with fail
  refine (Equal_any _ _ _ _ _ _ F F _ r1 r2 (by have := HM.out; omega) (by have := HM.out; omega)).mono ?_
  rintro e w11 ⟨rfl, q11, hq11⟩
  rw [eqB_self]
  have r1' : Rd w11 (some ⟨g1, 0, none⟩) F.length F := by rw [hq11]; exact r1.drewN q11
  have rv' : Rd w11 V F.length F := by rw [hq11]; exact rv.drewN q11
  have k11 : Below w.heap.size w w11 := by rw [hq11]; exact below_drewN k10 q11
  have s11 : w10.heap.size ≤ w11.heap.size := by rw [hq11]; exact Nat.le_refl _
  have HF11 := Lib.hid (show Fam w11 w1.heap.size _ by rw [hq11]; exact HF10.out.drewN q11)
  clear hq11 k10 r1 r2 rv HF10
  go_wp2_with fail
  refine (Equal_any _ _ _ _ _ _ F F _ rv' r1' (by have := HM.out; omega) (by have := HM.out; omega)).mono ?_
  rintro e w12 ⟨rfl, q12, hq12⟩
  rw [eqB_self]
  have k12 : Below w.heap.size w w12 := by rw [hq12]; exact below_drewN k11 q12
  have s12 : w11.heap.size ≤ w12.heap.size := by rw [hq12]; exact Nat.le_refl _
  have HF12 := Lib.hid (show Fam w12 w1.heap.size _ by rw [hq12]; exact HF11.out.drewN q12)
  clear hq12 k11 r1' rv' HF11
  go_wp2_with fail
  obtain ⟨ps, hps⟩ : ∃ ps : List VB, ps = [(.slice (some ⟨gx, 0, none⟩) (la + 40) (la + 40), xs ++ room la 40), (.slice (some ⟨gy, 0, none⟩) (lb + 40) (lb + 40), ys ++ room lb 40), (.slice (some ⟨g1, 0, none⟩) F.length F.length, F), (.slice (some ⟨g2, 0, none⟩) F.length F.length, F), (.slice U un uc, us), (.slice V F.length vc, F)] := ⟨_, rfl⟩
  have FF : Fam w12 w1.heap.size ps := by rw [hps]; exact HF12.out
  have hsm : ∀ p ∈ ps, p.2.length ≤ 1073741824 := fun p hp => by
    have h1 := HXL.out
    have h2 := HYL.out
    rw [hps] at hp
    simp only [List.mem_cons, List.not_mem_nil, or_false] at hp
    rcases hp with rfl | rfl | rfl | rfl | rfl | rfl
    · simp only [List.length_append, room_len]; omega
    · simp only [List.length_append, room_len]; omega
    · simp only; omega
    · simp only; omega
    · simp only; omega
    · simp only; omega
  have hpm : ps.map (·.1) = [.slice (some ⟨gx, 0, none⟩) (la + 40) (la + 40), .slice (some ⟨gy, 0, none⟩) (lb + 40) (lb + 40), .slice (some ⟨g1, 0, none⟩) F.length F.length, .slice (some ⟨g2, 0, none⟩) F.length F.length, .slice U un uc, .slice V F.length vc] := by rw [hps]; rfl
  have hL := ownV_box9 w12 22 w12.heap.size (ps.map (·.1)) 6 (by rw [hpm]; rfl) (by omega) (Nat.le_refl _) _ rfl _ rfl
  have FL := FF.below ((Below.refl _ _).alloc (Nat.le_refl _) (.cells (ps.map (·.1)).toArray 22))
  have hAp := Apart_any (some ⟨w12.heap.size, 0, none⟩) 6 6 w1.heap.size (ps.map (·.1)) _ hL.rd (by omega) FL.pre (FL.small hsm) FL.dis (fun b hb i v hv e => by
    injection hb with hb
    simp only at hb
    subst hb
    obtain ⟨p, hp, rfl⟩ := List.mem_map.1 (List.mem_of_getElem? hv)
    have := (FF.lt hp e).2
    omega) (by simp; omega)
  rw [hpm] at hAp
  have HAP := Lib.hid hAp
  clear hAp FL hL hpm hsm FF hps HF12
  with_reducible refine HAP.out.mono ?_
  rintro e w13 ⟨rfl, hb13⟩
  have hb13 : Below w1.heap.size w12 w13 := ((Below.refl _ _).alloc (by omega) _).trans hb13
  go_wp2_with fail
  go_ret
  exact ⟨rfl, k12.trans (hb13.mono s1)⟩
end Go.Proofs.Ytoaajkdhlhopmaa
