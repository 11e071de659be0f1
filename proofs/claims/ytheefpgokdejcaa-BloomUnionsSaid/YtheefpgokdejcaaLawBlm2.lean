/- BloomUnions: what may be in one of two filters may be in their union, and unlike filters have none. -/
import Derived.Test.YtheefpgokdejcaaBlH
namespace Go.Proofs.Ytheefpgokdejcaa
open Go Go.RowKit

set_option maxRecDepth 100000 in
set_option maxHeartbeats 8000000 in
theorem bloomUnions_row (A : Option Addr) (n c : Nat) (fs : List UInt8) (B : Option Addr) (m d : Nat) (gs : List UInt8) (K : Option Addr) (kn kc : Nat) (key : List UInt8) (w : World) (h : Rd w A n fs) (hnc : n ≤ c) (hc : c ≤ 140737488351232) (h' : Rd w B m gs) (hmd : m ≤ d) (hd : d ≤ 140737488351232) (hk : Rd w K kn key) (hkc : kn ≤ kc) (hkm2 : kc ≤ 140737488351232) :
    Calls Try.prog 13 #[.slice A n c, .slice B m d, .slice K kn kc] w (RetT w true) := by
  have hn : n ≤ 140737488351232 := by omega
  have hm : m ≤ 140737488351232 := by omega
  have hkm : kn ≤ maxLen := by unfold maxLen; omega
  clear hnc hc hkc hkm2 hmd hd
  have hfl := h.len
  have hgl := h'.len
  have HFL := Lib.hid hfl
  have HGL := Lib.hid hgl
  have e1 : IntKind.i64.wrap ((n : Int) - 1) = ((n - 1 : Nat) : Int) ∨ n = 0 := by
    by_cases hz : n = 0
    · exact .inr hz
    · exact .inl (by rw [IntWalk.i64_in _ (by omega)]; omega)
  have HE1 := Lib.hid e1
  clear hfl hgl e1
  go_enter Try.func13, Try.ntmps13
  go_wp2_with fail
  refine (awake9_any _).mono ?_
  rintro e w1 ⟨rfl, b1⟩
  go_wp2_with fail
  refine (Copy_any A n c fs _ (h.below b1) (by omega)).mono ?_
  rintro e w2 ⟨A2, n2, c2, rfl, o2, b2⟩
  have r2 := o2.rd
  have hn2 : n2 = n := by have := o2.len; have := h.len; omega
  subst hn2
  go_wp2_with fail
  refine (Copy_any B m d gs _ ((h'.below b1).below b2) (by omega)).mono ?_
  rintro e w3 ⟨B3, m3, d3, rfl, o3, b3⟩
  have r3 := o3.rd
  have hm3 : m3 = m := by have := o3.len; have := h'.len; omega
  subst hm3
  have b13 : Below w.heap.size w w3 := (b1.trans (b2.mono b1.size)).trans (b3.mono (by have := b1.size; have := b2.size; omega))
  have r2' := r2.below b3
  have hcap3 := o3.cap
  have g1 : Rd w3 A n2 fs := h.below b13
  have g2 : Rd w3 B m3 gs := h'.below b13
  have g3 : Rd w3 K kn key := hk.below b13
  have HB := Lib.hid b13
  clear o2 b1 b2 b3 b13 r2 h h' hk
  go_wp2_with fail
  cases hf : goodB fs with
  | false =>
    refine (union_form A2 n2 c2 fs B3 m3 d3 gs _ r2' hn r3 hm (by rw [hf]; simp)).mono ?_
    rintro e w4 ⟨rfl, b4⟩
    have GA : Hid (Calls Try.prog 54 #[.slice A n2 c] w4 (RetBo w4 false)) := Lib.hid (by rw [← hf]; exact good9_any A n2 c fs _ (g1.below b4) hn)
    clear g1 g2 g3 r2' r3 o3 hf
    go_wp2_with fail
    with_reducible refine GA.out.mono ?_
    rintro e w5 ⟨rfl, rfl⟩
    go_wp2_with fail
    go_ret
    exact ⟨rfl, HB.out.trans (b4.mono HB.out.size)⟩
  | true =>
    cases hg : goodB gs with
    | false =>
      refine (union_form A2 n2 c2 fs B3 m3 d3 gs _ r2' hn r3 hm (by rw [hg]; simp)).mono ?_
      rintro e w4 ⟨rfl, b4⟩
      have GA : Hid (Calls Try.prog 54 #[.slice A n2 c] w4 (RetBo w4 true)) := Lib.hid (by rw [← hf]; exact good9_any A n2 c fs _ (g1.below b4) hn)
      have GB : Hid (Calls Try.prog 54 #[.slice B m3 d] w4 (RetBo w4 false)) := Lib.hid (by rw [← hg]; exact good9_any B m3 d gs _ (g2.below b4) hm)
      clear g1 g2 g3 r2' r3 o3 hf hg
      go_wp2_with fail
      with_reducible refine GA.out.mono ?_
      rintro e w5 ⟨rfl, rfl⟩
      go_wp2_with fail
      with_reducible refine GB.out.mono ?_
      rintro e w5 ⟨rfl, rfl⟩
      go_wp2_with fail
      go_ret
      exact ⟨rfl, HB.out.trans (b4.mono HB.out.size)⟩
    | true =>
      have hn2 : 2 ≤ n2 := by have := goodB_two hf; have := HFL.out; omega
      have hm2 : 2 ≤ m3 := by have := goodB_two hg; have := HGL.out; omega
      have e1 : IntKind.i64.wrap ((n2 : Int) - 1) = ((n2 - 1 : Nat) : Int) := by rw [IntWalk.i64_in _ (by omega)]; omega
      obtain ⟨ba, oa, hA, _⟩ := g1.pos (by omega)
      obtain ⟨bb, ob, hB, _⟩ := g2.pos (by omega)
      subst hA hB
      by_cases hne : n2 = m3 ∧ fs[n2 - 1]? = gs[n2 - 1]?
      · obtain ⟨hnm, hxy⟩ := hne
        subst hnm
        refine (union_good A2 n2 c2 fs B3 d3 gs _ r2' hn r3 hcap3.1 hf hg hxy).mono ?_
        rintro e w4 ⟨U, cu, rfl, oU, b4⟩
        obtain ⟨us, hus⟩ : ∃ us, us = orB fs gs (n2 - 1) := ⟨_, rfl⟩
        rw [← hus] at oU ⊢
        have hul : us.length = n2 := by rw [hus, orB_len]; exact HFL.out
        rw [hul] at oU ⊢
        have hmay : ((mayB us key).1 || (!(mayB fs key).1 && !(mayB gs key).1)) = true := by
          have h5 : fs.length = n2 := HFL.out
          have h6 : gs.length = n2 := HGL.out
          have := may_or (key := key) hf hg (by omega) (by rw [h5]; exact hxy)
          rw [h5, ← hus] at this
          exact this
        have HMAY := Lib.hid hmay
        obtain ⟨gu, hU, _, _⟩ := oU.form (by omega)
        subst hU
        have rU := oU.rd
        have G1 : Hid (Rd w4 (some ⟨ba, oa, none⟩) n2 fs) := Lib.hid (g1.below b4)
        have G2 : Hid (Rd w4 (some ⟨bb, ob, none⟩) n2 gs) := Lib.hid (g2.below b4)
        have G3 : Hid (Rd w4 K kn key) := Lib.hid (g3.below b4)
        have GU : Hid (Rd w4 (some ⟨gu, 0, none⟩) n2 us) := Lib.hid rU
        have GA : Hid (Calls Try.prog 54 #[.slice (some ⟨ba, oa, none⟩) n2 c] w4 (RetBo w4 true)) := Lib.hid (by rw [← hf]; exact good9_any _ n2 c fs _ G1.out hn)
        have GB : Hid (Calls Try.prog 54 #[.slice (some ⟨bb, ob, none⟩) n2 d] w4 (RetBo w4 true)) := Lib.hid (by rw [← hg]; exact good9_any _ n2 d gs _ G2.out hn)
        obtain ⟨x, x1, x2, _⟩ := G1.out.at_ (n2 - 1) (by omega)
        obtain ⟨y, y1, y2, _⟩ := G2.out.at_ (n2 - 1) (by omega)
        obtain ⟨z, z1, z2, _⟩ := rU.at_ (n2 - 1) (by omega)
        obtain rfl : x = y := by rw [x1, y1] at hxy; exact Option.some.inj hxy
        obtain rfl : z = x := by
          rw [hus, orB_off _ _ _ _ (Nat.le_refl _), x1] at z1
          exact (Option.some.inj z1).symm
        rw [Nat.zero_add] at z2
        have hlt : n2 - 1 < n2 := by omega
        have HUS := Lib.hid hus
        have BW : Hid (Below w.heap.size w w4) := Lib.hid (HB.out.trans (b4.mono HB.out.size))
        have xq : ∀ q, (w4.drewN q).cell? ⟨ba, oa + (n2 - 1), none⟩ = some (.int .u8 (z.toNat : Int)) := fun q => x2
        have zq : ∀ q, (w4.drewN q).cell? ⟨gu, n2 - 1, none⟩ = some (.int .u8 (z.toNat : Int)) := fun q => z2
        clear g1 g2 g3 r2' r3 o3 hf hg hxy x1 y1 z1 hus hul oU rU hmay b4
        go_wp2_with fail
        with_reducible refine GA.out.mono ?_
        rintro e w5 ⟨rfl, rfl⟩
        go_wp2_with fail
        with_reducible refine GB.out.mono ?_
        rintro e w5 ⟨rfl, rfl⟩
        go_wp2_with fail
        go_quiet (fail)
        go_wp2_with fail
        go_quiet (fail)
        go_wp2_with fail
        clear xq zq x2 y2 z2 GA GB
        obtain ⟨bz, iz, hbz⟩ : ∃ b i, mayB us key = (b, i) := ⟨_, _, rfl⟩
        obtain ⟨bx, ix, hbx⟩ : ∃ b i, mayB fs key = (b, i) := ⟨_, _, rfl⟩
        obtain ⟨by_, iy, hby⟩ : ∃ b i, mayB gs key = (b, i) := ⟨_, _, rfl⟩
        have M1 : Hid (∀ wx, Below w5.heap.size w5 wx → Calls Try.prog 51 #[.slice (some ⟨ba, oa, none⟩) n2 c, .slice K kn kc] wx (RetMy wx (bx, ix))) := Lib.hid (fun wx hb => by rw [← hbx]; exact may_any _ n2 c fs K kn kc key wx (G1.out.below hb) hn (G3.out.below hb) hkm)
        have M2 : Hid (∀ wx, Below w5.heap.size w5 wx → Calls Try.prog 51 #[.slice (some ⟨bb, ob, none⟩) n2 d, .slice K kn kc] wx (RetMy wx (by_, iy))) := Lib.hid (fun wx hb => by rw [← hby]; exact may_any _ n2 d gs K kn kc key wx (G2.out.below hb) hn (G3.out.below hb) hkm)
        have M3 : Hid (∀ wx, Below w5.heap.size w5 wx → Calls Try.prog 51 #[.slice (some ⟨gu, 0, none⟩) n2 cu, .slice K kn kc] wx (RetMy wx (bz, iz))) := Lib.hid (fun wx hb => by rw [← hbz]; exact may_any _ n2 cu us K kn kc key wx (GU.out.below hb) hn (G3.out.below hb) hkm)
        have HM : Hid ((bz || (!bx && !by_)) = true) := Lib.hid (by have := HMAY.out; rw [hbz, hbx, hby] at this; exact this)
        clear hbz hbx hby HMAY
        go_loopw [10] (fun s10 wr => ∃ i q : Nat, i ≤ n2 - 1 ∧ s10 = .int .i64 (i : Int) ∧ wr = w5.drewN q) (fun s _ => n2 - 1 - (intOf s).toNat)
        case atStart => exact ⟨0, _, Nat.zero_le _, rfl, World.drewN_drewN _ _ _⟩
        case round =>
          obtain ⟨i, q, hi, rfl, hX⟩ := hrel
          have HX := Lib.hid hX
          by_cases hil : i < n2 - 1
          · obtain ⟨x, x1, x2, _⟩ := G1.out.at_ i (by omega)
            obtain ⟨y, y1, y2, _⟩ := G2.out.at_ i (by omega)
            obtain ⟨t, t1, t2, _⟩ := GU.out.at_ i (by omega)
            have hx256 : x.toNat < 256 := x.toNat_lt
            have hy256 : y.toNat < 256 := y.toNat_lt
            have hor : x.toNat ||| y.toNat < 256 := Nat.or_lt_two_pow (n := 8) hx256 hy256
            have htn : t.toNat = x.toNat ||| y.toNat := by
              rw [HUS.out, orB_at fs gs _ _ hil (by have := HFL.out; omega), x1, y1] at t1
              have := Option.some.inj t1
              rw [← this]
              simp only [Option.getD_some]
              generalize x.toNat ||| y.toNat = q at hor ⊢
              simp
              omega
            have e4 : bits .or .u8 (x.toNat : Int) (y.toNat : Int) = (t.toNat : Int) := by rw [htn]; exact u8_or_nat _ _ hx256 hy256
            have hno : i < n2 := by omega
            have c1 : wr.cell? ⟨ba, oa + i, none⟩ = some (.int .u8 (x.toNat : Int)) := by rw [hX]; exact x2
            have c2 : wr.cell? ⟨bb, ob + i, none⟩ = some (.int .u8 (y.toNat : Int)) := by rw [hX]; exact y2
            have c3 : wr.cell? ⟨gu, i, none⟩ = some (.int .u8 (t.toNat : Int)) := by rw [hX, ← Nat.zero_add i]; exact t2
            clear x1 x2 y1 y2 t1 t2 htn hor hX
            go_wp2_with fail
            go_quiet (fail)
            go_wp2_with fail
            go_roundw
            case rel => exact ⟨i + 1, _, by omega, by go_num, by rw [HX.out]; exact World.drewN_drewN _ _ _⟩
            case measure => simp [intOf]; omega
          · have BX : Hid (Below w5.heap.size w5 wr) := Lib.hid (by rw [hX]; exact below_drewN (Below.refl _ _) _)
            clear hX HX
            go_wp2_with fail
            with_reducible refine (M1.out _ BX.out).mono ?_
            intro e v1 hq
            obtain ⟨h1, c1⟩ := RetMy.out hq
            subst h1
            have X1 := Lib.hid (BX.out.trans (c1.mono BX.out.size))
            clear hq c1
            go_wp2_with fail
            with_reducible refine (M2.out _ X1.out).mono ?_
            intro e v2 hq
            obtain ⟨h1, c1⟩ := RetMy.out hq
            subst h1
            have X2 := Lib.hid (X1.out.trans (c1.mono X1.out.size))
            clear hq c1
            go_wp2_with fail
            with_reducible refine (M3.out _ X2.out).mono ?_
            intro e v3 hq
            obtain ⟨h1, c1⟩ := RetMy.out hq
            subst h1
            have X3 := Lib.hid (X2.out.trans (c1.mono X2.out.size))
            clear hq c1
            have HFIN : Hid (Below w.heap.size w v3) := Lib.hid (BW.out.trans (X3.out.mono BW.out.size))
            have hm0 := HM.out
            cases bz with
            | true =>
              clear hm0
              go_wp2_with fail
              go_ret
              exact ⟨rfl, HFIN.out⟩
            | false =>
              cases bx with
              | true => simp at hm0
              | false =>
                cases by_ with
                | true => simp at hm0
                | false =>
                  clear hm0
                  go_wp2_with fail
                  go_ret
                  exact ⟨rfl, HFIN.out⟩
      · refine (union_arg A2 n2 c2 fs B3 m3 d3 gs _ r2' hn r3 hm hf hg hne).mono ?_
        rintro e w4 ⟨rfl, b4⟩
        have GA : Hid (Calls Try.prog 54 #[.slice (some ⟨ba, oa, none⟩) n2 c] w4 (RetBo w4 true)) := Lib.hid (by rw [← hf]; exact good9_any _ n2 c fs _ (g1.below b4) hn)
        have GB : Hid (Calls Try.prog 54 #[.slice (some ⟨bb, ob, none⟩) m3 d] w4 (RetBo w4 true)) := Lib.hid (by rw [← hg]; exact good9_any _ m3 d gs _ (g2.below b4) hm)
        by_cases hnm : n2 = m3
        · subst hnm
          obtain ⟨x, x1, x2, _⟩ := (g1.below b4).at_ (n2 - 1) (by omega)
          obtain ⟨y, y1, y2, _⟩ := (g2.below b4).at_ (n2 - 1) (by omega)
          have hxy : x.toNat ≠ y.toNat := fun e => hne ⟨rfl, by rw [x1, y1, UInt8.toNat_inj.1 e]⟩
          have hlt : n2 - 1 < n2 := by omega
          clear g1 g2 g3 r2' r3 o3 hf hg hne x1 y1
          go_wp2_with fail
          with_reducible refine GA.out.mono ?_
          rintro e w5 ⟨rfl, rfl⟩
          go_wp2_with fail
          with_reducible refine GB.out.mono ?_
          rintro e w5 ⟨rfl, rfl⟩
          go_wp2_with fail
          go_quiet (fail)
          go_wp2_with fail
          go_ret
          exact ⟨rfl, below_drewN (HB.out.trans (b4.mono HB.out.size)) _⟩
        · have t1 : ((n2 : Int) == (m3 : Int)) = false := by simp; omega
          have t2 : ¬ (n2 : Int) = (m3 : Int) := by omega
          clear g1 g2 g3 r2' r3 o3 hf hg hne
          go_wp2_with fail
          with_reducible refine GA.out.mono ?_
          rintro e w5 ⟨rfl, rfl⟩
          go_wp2_with fail
          with_reducible refine GB.out.mono ?_
          rintro e w5 ⟨rfl, rfl⟩
          go_wp2_with fail
          go_quiet (fail)
          go_wp2_with fail
          go_ret
          exact ⟨rfl, below_drewN (HB.out.trans (b4.mono HB.out.size)) _⟩
end Go.Proofs.Ytheefpgokdejcaa
