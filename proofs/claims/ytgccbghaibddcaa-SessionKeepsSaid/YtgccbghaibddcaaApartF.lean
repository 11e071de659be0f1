/- The reference's Apart, with blocks that stand. -/
import Derived.Test.YtgccbghaibddcaaApart
import Derived.Test.YtgccbghaibddcaaStageF
namespace Go.Proofs.Ytgccbghaibddcaa
open Go Go.RowKit

set_option maxRecDepth 100000 in
set_option maxHeartbeats 8000000 in
theorem ApartF_any (K : List Nat) (L : Option Addr) (n c base : Nat) (svs : List Value) (w : World) (hL : RdV w L n svs) (hn : n ≤ 1073741824) (hP : Pre w base svs (fun _ _ _ => True)) (hB : ∀ (i : Nat) (A : Option Addr) (m c : Nat), svs[i]? = some (Value.slice A m c) → m ≤ 1073741824)
    (hD : DisS svs) (hO : ∀ b : Nat, blk L = some b → ∀ (i : Nat) (v : Value), svs[i]? = some v → Value.ownBlock v ≠ some b) (hbase : base ≤ w.heap.size) (hK : ∀ b ∈ K, b < w.heap.size) (hKO : ∀ b ∈ K, ∀ (i : Nat) (v : Value), svs[i]? = some v → Value.ownBlock v ≠ some b) :
    Calls Try.prog 29 #[.slice L n c] w fun e w' => e = .returned (.bool true) ∧ Below base w w' ∧ Sm K w w' := by
  have HKO := Lib.hid hKO
  have HK := Lib.hid hK
  clear hKO hK
  have HB := Lib.hid hB
  have HD := Lib.hid hD
  have HO := Lib.hid hO
  have hl : svs.length = n := hL.len
  have Hl := Lib.hid hl
  clear hB hD hO hl
  go_enter Try.func29, Try.ntmps29
  go_wp2
  go_loopw [3] (fun vi wr => ∃ i : Nat, vi = .int .i64 i ∧ i ≤ n ∧ RdV wr L n svs ∧ Pre wr base svs (pst i 0) ∧ Below base w wr ∧ Sm K w wr) (fun vi _ => n - (intOf vi).toNat)
  case atStart =>
    refine ⟨0, rfl, Nat.zero_le _, hL, fun i v hv => ?_, Below.refl _ _, fun b hb => ⟨HK.out b hb, rfl⟩⟩
    obtain ⟨A, m, c, xs, rfl, ho, _⟩ := hP i v hv
    exact ⟨A, m, c, xs, rfl, ho, fun h => absurd h (by omega), fun _ => rfl⟩
  case round =>
    obtain ⟨i, rfl, hi, hR, hPr, hb, hsm⟩ := hrel
    by_cases hlt : i < n
    · obtain ⟨bl, off, rfl, hbl⟩ := hR.pos (by omega)
      obtain ⟨v, hv, hcell⟩ := hR.at_ i hlt
      obtain ⟨A, m, c', xs, rfl, ho, hx⟩ := hPr i v hv
      have hm := HB.out i A m c' hv
      have hcap := ho.cap
      have HV := Lib.hid hv
      have HR := Lib.hid hR
      have HPr := Lib.hid hPr
      have Hb := Lib.hid hb
      have HSM := Lib.hid hsm
      clear hR hPr hx ho hv hsm
      go_wp2
      go_loopw [4] (fun vj wr => ∃ j : Nat, vj = .int .i64 j ∧ j ≤ m ∧ RdV wr (some ⟨bl, off, none⟩) n svs ∧ Pre wr base svs (pst i j) ∧ Below base w wr ∧ Sm K w wr) (fun vj _ => m - (intOf vj).toNat)
      case atStart => exact ⟨0, rfl, Nat.zero_le _, HR.out, HPr.out, Hb.out, HSM.out⟩
      case round =>
        clear HR HPr Hb hcell hb HSM
        obtain ⟨j, rfl, hj, hR, hPr, hb, hsm⟩ := hrel
        obtain ⟨v', hv', hcell⟩ := hR.at_ i hlt
        obtain rfl : v' = .slice A m c' := by rw [HV.out] at hv'; injection hv' with hv'; exact hv'.symm
        by_cases hjm : j < m
        · obtain ⟨A0, m0, c0, xs, e0, ho, hx⟩ := hPr i _ HV.out
          injection e0 with e1 e2 e3
          subst e1 e2 e3
          obtain ⟨g, rfl, hg1, hg2⟩ := ho.form (by omega)
          obtain ⟨x, _, hc0, _⟩ := ho.rd.at_ j hjm
          rw [Nat.zero_add] at hc0
          have fz := ho.thawed j
          have hne : bl ≠ g := fun e => HO.out bl rfl i _ HV.out (by rw [e]; rfl)
          have hS : wr.cell? ⟨bl, off + i, none⟩ = some (.slice (some ⟨g, 0, none⟩) m c') := hcell
          have hSS : Hid (∀ v : Value, (wr.setCell ⟨g, j, none⟩ v).cell? ⟨bl, off + i, none⟩ = some (.slice (some ⟨g, 0, none⟩) m c')) := Lib.hid (fun v => by rw [cell_far _ _ _ _ hne]; exact hS)
          have hfin : RdV (wr.setCell ⟨g, j, none⟩ (.int .u8 ((mk i j).toNat : Int))) (some ⟨bl, off, none⟩) n svs ∧ Pre (wr.setCell ⟨g, j, none⟩ (.int .u8 ((mk i j).toNat : Int))) base svs (pst i (j + 1)) ∧ Below base w (wr.setCell ⟨g, j, none⟩ (.int .u8 ((mk i j).toNat : Int))) ∧ Sm K w (wr.setCell ⟨g, j, none⟩ (.int .u8 ((mk i j).toNat : Int))) := by
            have hgr := grown_set ho j (.int .u8 ((mk i j).toNat : Int))
            refine ⟨hR.kept hgr (fun b hb hg => hne ?_), hPr.set HD.out HV.out j (mk i j) _ rfl ?_ ?_, hb.grown hgr (by have := hb.size; omega) (fun k hk => by injection hk with hk; omega), hsm.grown hb.size hgr (fun b e hk => HKO.out b hk i _ HV.out e)⟩
            · injection hb with hb
              injection hg with hg
              simp only at hb
              omega
            · intro xs hl hp
              exact ⟨fun h => absurd h (by omega), fun _ => set_take xs i j (hp.2 rfl) (by omega)⟩
            · intro i' m' xs hne hp
              exact ⟨hp.1, fun h => absurd h hne⟩
          have HF := Lib.hid hfin
          have HM : Hid (∀ w, Calls Try.prog 54 #[.int .i64 i, .int .i64 j] w fun e w' => e = .returned (.int .u8 ((mk i j).toNat : Int)) ∧ w = w') := Lib.hid (fun w => mark_is i j i j w rfl rfl (by omega) (by omega))
          have q1 : (0 : Int) ≤ (i : Int) := by omega
          have q2 : (i : Int) < (n : Int) := by omega
          have q3 : (0 : Int) ≤ (j : Int) := by omega
          have q4 : (j : Int) < (m : Int) := by omega
          clear hfin hR hPr ho hx hb hsm
          go_wp2
          go_region_held3 (fun w' => w'.cell? ⟨bl, off + i, none⟩ = some (.slice (some ⟨g, 0, none⟩) m c')) (first | assumption | exact hS | exact hSS.out _) (first | (go_at_call 54; refine (HM.out _).mono ?_; rintro e w6 ⟨rfl, rfl⟩))
          all_goals
            go_wp2
            go_roundw
            case rel =>
              obtain ⟨f1, f2, f3, f4⟩ := HF.out
              exact ⟨j + 1, by go_num, by omega, f1, f2, f3.drew, f4⟩
            case measure => simp [intOf]; omega
        · obtain rfl : j = m := by omega
          go_wp2
          go_roundw
          case rel =>
            refine ⟨i + 1, by go_num, by omega, hR, fun i' v hv => ?_, hb, hsm⟩
            obtain ⟨A0, m0, c0, xs, rfl, ho, hx⟩ := hPr i' v hv
            refine ⟨A0, m0, c0, xs, rfl, ho, fun h => ?_, fun h => ?_⟩
            · by_cases e : i' = i
              · subst e
                rw [HV.out] at hv
                injection hv with hv
                injection hv with _ e2
                have := hx.2 rfl
                rw [List.take_of_length_le (by have := ho.len; omega)] at this
                rw [this, e2]
              · exact hx.1 (by omega)
            · rfl
          case measure => simp [intOf]; omega
    · obtain rfl : n = i := by omega
      have hS0 : Stg w base n L svs none 0 0 [] [] wr := by
        have hmem : ∀ i v, Mem n svs [] i v → svs[i]? = some v := by
          rintro i v (h | ⟨k, h, _⟩)
          · exact h
          · simp at h
        refine ⟨OwnV.nil _ _ _, ⟨fun i v hm => ?_, fun i v i' v' b h1 h2 => HD.out i v i' v' b (hmem i v h1) (hmem i' v' h2)⟩, ⟨fun k A m c A' m' c' _ h => by simp at h, fun k A' m' c' h => by simp at h⟩, fun b hb => ⟨fun i v hm => HO.out b hb i v (hmem i v hm), by simp [blk]⟩, fun b hb => by simp [blk] at hb, hR, hb⟩
        obtain ⟨A, m, c, xs, rfl, ho, hx⟩ := hPr i v (hmem i v hm)
        refine ⟨A, m, c, rfl, ?_⟩
        rw [← hx.1 (by have := (List.getElem?_eq_some_iff.1 (hmem i _ hm)).1; have := Hl.out; omega)]
        exact ho
      have hS0F : StF w base K n L svs none 0 0 [] [] wr := ⟨hS0, hb.size, hsm, fun b hb => ⟨fun i v hm => HKO.out b hb i v (by
        rcases hm with h | ⟨k, h, _⟩
        · exact h
        · simp at h), by simp [blk]⟩⟩
      have HS0 := Lib.hid hS0F
      clear hS0 hS0F hR hPr hb hlt hi hsm
      go_wp2
      go_loopw [5, 6] (fun vg vi w2 => ∃ (k : Nat) (G : Option Addr) (gc : Nat) (gvs : List Value), vg = .slice G k gc ∧ vi = .int .i64 k ∧ k ≤ n ∧ StF w base K n L svs G k gc gvs gvs w2) (fun _ vi _ => n - (intOf vi).toNat)
      case atStart => exact ⟨0, none, 0, [], rfl, rfl, Nat.zero_le _, HS0.out⟩
      case round =>
        clear HS0
        obtain ⟨k, G, gc, gvs, rfl, rfl, hk, hS⟩ := hrel
        by_cases hlt : k < n
        · obtain ⟨bl, off, rfl, hbl⟩ := hS.rd.pos (by omega)
          obtain ⟨v, hv, hcell⟩ := hS.rd.at_ k hlt
          obtain ⟨A, m, c', rfl, ho⟩ := hS.pool.1 k v (.inl hv)
          have hm := HB.out k A m c' hv
          have hgl : gvs.length = k := hS.own.len
          have hmod : gvs.length % n = k := by rw [hgl]; exact Nat.mod_eq_of_lt hlt
          have HV := Lib.hid hv
          have HGL := Lib.hid hgl
          have HMOD := Lib.hid hmod
          have HLEN : Hid (Lens n svs gvs) := Lib.hid hS.lens
          have hlens : ∀ A' m' c', m' ≤ m + 16 → Lens n svs (gvs ++ [.slice A' m' c']) := fun A' m' c' h => lens_snoc HLEN.out A' m' c' (by omega) (fun A2 m2 c2 _ h2 => by
            rw [HGL.out, HV.out] at h2
            injection h2 with h2
            injection h2 with _ h2
            omega)
          have HLENS := Lib.hid hlens
          have hS1 : StF w base K n (some ⟨bl, off, none⟩) svs G k gc gvs (gvs ++ [.slice A (m + 0) c']) wr := hS.sub (fun i v h => by
            rcases mem_snoc HMOD.out i v h with h | ⟨rfl, rfl⟩
            · exact h
            · exact .inl HV.out) (HLENS.out _ _ _ (by omega))
          have HS1 := Lib.hid hS1
          have hmaxm : ∀ A2 m2 c2 v, Mem n svs (gvs ++ [v]) k (.slice A2 m2 c2) → m2 ≤ m ∨ v = .slice A2 m2 c2 := by
            intro A2 m2 c2 v h
            rcases mem_snoc HMOD.out _ _ h with (h | ⟨k', h, hk'⟩) | ⟨_, h⟩
            · rw [HV.out] at h
              injection h with h
              injection h with _ h
              left; omega
            · have h1 := (List.getElem?_eq_some_iff.1 h).1
              rw [HGL.out] at h1
              rw [Nat.mod_eq_of_lt (by omega)] at hk'
              omega
            · right; exact h.symm
          have HMAX := Lib.hid hmaxm
          have hbs : base ≤ wr.heap.size := by have := hS.bel.size; omega
          have hcap := ho.cap
          clear hS1 hS ho hv hgl hmod hlens hmaxm
          go_wp2
          go_loopw [7, 8] (fun vg vt w3 => ∃ (t : Nat) (A2 : Option Addr) (c2 : Nat), vg = .slice A2 (m + t) c2 ∧ vt = .int .i64 t ∧ t ≤ 16 ∧ StF w base K n (some ⟨bl, off, none⟩) svs G k gc gvs (gvs ++ [.slice A2 (m + t) c2]) w3) (fun _ vt _ => 16 - (intOf vt).toNat)
          case atStart => exact ⟨0, A, c', rfl, rfl, by omega, HS1.out⟩
          case round =>
            clear HS1 hcell hbs
            obtain ⟨t, A2, c2, rfl, rfl, ht, hS⟩ := hrel
            have hbs : base ≤ wr.heap.size := by have := hS.bel.size; omega
            by_cases ht16 : t < 16
            · obtain ⟨v', hv', hcell⟩ := hS.rd.at_ k hlt
              obtain rfl : v' = .slice A m c' := by rw [HV.out] at hv'; injection hv' with hv'; exact hv'.symm
              obtain ⟨A0, m0, c0, e0, ho⟩ := hS.pool.1 k _ (mem_last HMOD.out)
              injection e0 with e1 e2 e3
              subst e1 e2 e3
              have HS := Lib.hid hS
              clear hS hv'
              go_wp2_with fail
              refine (mark_is k (m + t) _ _ _ rfl (by omega) (by omega) (by omega)).mono ?_
              rintro e w4 ⟨rfl, rfl⟩
              go_wp2_with (at_builtin; refine wpList_appT _ rfl _ _ 30 rfl base 5 Try.underlying30 info_u8 A2 (m + t) c2 (marks k (m + t)) rfl (ho.alloc _) wr.heap.size 0 1 1 [mk k (m + t)] rfl (Rd.one _ _ _ _ rfl) (by omega) ?_ ?_ ?_)
              · omega
              · simp; omega
              intro A3 c3 w4 ho3 ha3
              rw [← marks_succ] at ho3
              have hS4 : StF w base K n (some ⟨bl, off, none⟩) svs G k gc gvs (gvs ++ [.slice A3 (m + t + 1) c3]) w4 :=
                (HS.out.alloc hbs _).app (by omega) (by simp; omega) (mem_last HMOD.out) (k := 1) ho3 ha3 (fun A4 m4 c4 h => by
                  rcases HMAX.out A4 m4 c4 _ h with h | h
                  · omega
                  · injection h with _ h; omega) (fun i' v' h => by
                  rcases mem_snoc HMOD.out i' v' h with h | h
                  · exact .inl (mem_left h)
                  · exact .inr h) (HLENS.out _ _ _ (by omega))
              have HS4 := Lib.hid hS4
              clear hS4 ho3 ha3 ho
              go_wp2
              go_roundw
              case rel => exact ⟨t + 1, A3, c3, rfl, by go_num, by omega, HS4.out⟩
              case measure => simp [intOf]; omega
            · obtain rfl : t = 16 := by omega
              have HS := Lib.hid hS
              have hG := hS.own
              clear hS
              go_wp2_with (at_builtin; refine wpList_app1 wr rfl _ _ 95 rfl base 30 _ _ Try.underlying95 info_row rfl G k gc gvs rfl hG (.slice A2 (m + 16) c2) rfl wr.heap.size rfl rfl ?_ ?_ hbs ?_)
              · unfold maxLen; omega
              · omega
              intro G2 gc2 w5 hG5 hg5 hk5
              have HS5 := Lib.hid (HS.out.row (by omega) hbs hG5 hg5 hk5)
              clear hG hG5 hg5 hk5
              go_wp2
              go_roundw
              case rel => exact ⟨k + 1, G2, gc2, _, rfl, by go_num, by omega, HS5.out⟩
              case measure => simp [intOf]; omega
        · obtain rfl : n = k := by omega
          have HS := Lib.hid hS
          clear hS hlt hk
          go_wp2
          go_loopw [5, 9] (fun vg vi w2 => ∃ (k : Nat) (G : Option Addr) (gc : Nat) (gvs : List Value), vg = .slice G (n + k) gc ∧ vi = .int .i64 k ∧ k ≤ n ∧ StF w base K n L svs G (n + k) gc gvs gvs w2) (fun _ vi _ => n - (intOf vi).toNat)
          case atStart => exact ⟨0, G, gc, gvs, rfl, rfl, Nat.zero_le _, HS.out⟩
          case round =>
            clear HS
            obtain ⟨k, G, gc, gvs, rfl, rfl, hk, hS⟩ := hrel
            by_cases hlt : k < n
            · obtain ⟨bl, off, rfl, hbl⟩ := hS.rd.pos (by omega)
              obtain ⟨v, hv, _⟩ := hS.rd.at_ k hlt
              obtain ⟨A, m, c', rfl, _⟩ := hS.pool.1 k v (.inl hv)
              have hm := HB.out k A m c' hv
              have hgl : gvs.length = n + k := hS.own.len
              have hmod : gvs.length % n = k := by rw [hgl, Nat.add_mod_left]; exact Nat.mod_eq_of_lt hlt
              have HV := Lib.hid hv
              have HGL := Lib.hid hgl
              have HMOD := Lib.hid hmod
              have HLEN : Hid (Lens n svs gvs) := Lib.hid hS.lens
              have HMAX : Hid (∀ A2 m2 c2, Mem n svs gvs k (.slice A2 m2 c2) → m2 ≤ m + 40) := Lib.hid (by
                intro A2 m2 c2 h
                rcases h with h | ⟨k', h, hk'⟩
                · rw [HV.out] at h
                  injection h with h
                  injection h with _ h
                  omega
                · have h1 := (List.getElem?_eq_some_iff.1 h).1
                  rw [HGL.out] at h1
                  have h2 : k' = k := by
                    rcases Nat.lt_or_ge k' n with h2 | h2
                    · rw [Nat.mod_eq_of_lt h2] at hk'; exact hk'
                    · obtain ⟨r, rfl⟩ : ∃ r, k' = n + r := ⟨k' - n, by omega⟩
                      rw [Nat.add_mod_left, Nat.mod_eq_of_lt (by omega)] at hk'
                      omega
                  subst h2
                  have := HLEN.out.1 k' A m c' A2 m2 c2 hlt h HV.out
                  omega)
              have hbs : base ≤ wr.heap.size := by have := hS.bel.size; omega
              have HS := Lib.hid hS
              obtain ⟨i0, hi0, z1, z2, z3⟩ := info_parts info_u8
              clear hS hv hgl hmod
              go_wp2_with (at_make; refine wpList_make_full wr rfl _ _ 30 rfl wr.heap.size 5 i0 (.int .u8 0) 1 Try.underlying30 hi0 z1 z2 .i64 .i64 _ _ 40 rfl rfl rfl rfl ?_ ?_ ?_ ?_)
              · rw [z3]; omega
              · unfold maxLen; omega
              · exact Nat.le_refl _
              intro w3 hR3 hg3
              have hD3 : Own 5 w3 wr.heap.size (some ⟨wr.heap.size, 0, none⟩) 40 40 (List.replicate 40 0) := by
                have h := hR3
                rw [toList_madeCells_one] at h
                unfold Own
                rw [List.map_replicate]
                exact h
              obtain ⟨gm, hgm⟩ : ∃ g, g = wr.heap.size := ⟨_, rfl⟩
              have hS3 : StF w base K n (some ⟨bl, off, none⟩) svs G (n + k) gc gvs gvs w3 := HS.out.kept hg3 hbs (fun b e => by cases e)
              have hoff : (base ≤ gm ∧ Off (Mem n svs gvs) gm ∧ blk G ≠ some gm ∧ blk (some ⟨bl, off, none⟩) ≠ some gm) ∧ gm ∉ K := ⟨⟨by omega, HS.out.off_new (by omega) (by omega)⟩, HS.out.off_k (by omega)⟩
              rw [← hgm] at hD3 ⊢
              have HD3 := Lib.hid hD3
              have HS3 := Lib.hid hS3
              have HOFF := Lib.hid hoff
              clear hR3 hg3 hD3 hS3 hoff HS hgm hbs
              go_wp2
              go_loopw [11] (fun vt w3 => ∃ (t : Nat) (xs : List UInt8), vt = .int .i64 t ∧ t ≤ 40 ∧ Own 5 w3 gm (some ⟨gm, 0, none⟩) 40 40 xs ∧ xs.take t = (List.range t).map (fun j => mk k (m + j)) ∧ StF w base K n (some ⟨bl, off, none⟩) svs G (n + k) gc gvs gvs w3) (fun vt _ => 40 - (intOf vt).toNat)
              case atStart => exact ⟨0, _, rfl, by omega, HD3.out, rfl, HS3.out⟩
              case round =>
                clear HD3 HS3
                obtain ⟨t, xs, rfl, ht, hD, hxs, hS⟩ := hrel
                have hbs : base ≤ wr.heap.size := by have := hS.bel.size; omega
                obtain ⟨v', hv', hcell⟩ := hS.rd.at_ k hlt
                obtain rfl : v' = .slice A m c' := by rw [HV.out] at hv'; injection hv' with hv'; exact hv'.symm
                have HXS := Lib.hid hxs
                clear hv' hxs
                by_cases ht40 : t < 40
                · obtain ⟨x, _, hc0, _⟩ := hD.rd.at_ t ht40
                  rw [Nat.zero_add] at hc0
                  have fz := hD.thawed t
                  have hfin : Own 5 (wr.setCell ⟨gm, t, none⟩ (.int .u8 ((mk k (m + t)).toNat : Int))) gm (some ⟨gm, 0, none⟩) 40 40 (xs.set t (mk k (m + t))) ∧ (xs.set t (mk k (m + t))).take (t + 1) = (List.range (t + 1)).map (fun j => mk k (m + j)) ∧ StF w base K n (some ⟨bl, off, none⟩) svs G (n + k) gc gvs gvs (wr.setCell ⟨gm, t, none⟩ (.int .u8 ((mk k (m + t)).toNat : Int))) := by
                    refine ⟨hD.set_ t _ _ rfl, ?_, hS.kept (grown_set hD t _) hbs (fun b e => by injection e with e; subst e; exact HOFF.out)⟩
                    rw [List.range_succ, List.map_append, ← HXS.out, List.take_add_one, List.getElem?_set_self (by have := hD.len; omega)]
                    simp [List.take_set_of_le]
                  have HF := Lib.hid hfin
                  clear hfin hD hS
                  go_wp2_with fail
                  refine (mark_is k (m + t) _ _ _ rfl (by omega) (by omega) (by omega)).mono ?_
                  rintro e w4 ⟨rfl, rfl⟩
                  go_wp2
                  go_roundw
                  case rel =>
                    obtain ⟨f1, f2, f3⟩ := HF.out
                    exact ⟨t + 1, _, by go_num, by omega, f1, f2, f3⟩
                  case measure => simp [intOf]; omega
                · obtain rfl : t = 40 := by omega
                  obtain ⟨A0, m0, c0, e0, ho⟩ := hS.pool.1 k _ (.inl HV.out)
                  injection e0 with e1 e2 e3
                  subst e1 e2 e3
                  have hxe : marks k m ++ xs = marks k (m + 40) := by
                    have h1 := HXS.out
                    rw [List.take_of_length_le (by have := hD.len; omega)] at h1
                    rw [marks_add, h1]
                  have HXE := Lib.hid hxe
                  have HS := Lib.hid hS
                  have rD := hD.rd
                  clear hxe hS hD
                  go_wp2_with (at_builtin; refine wpList_appT _ rfl _ _ 30 rfl base 5 Try.underlying30 info_u8 A m c' (marks k m) rfl ho gm 0 40 40 xs rfl rD (by omega) ?_ hbs ?_)
                  · omega
                  intro A3 c3 w4 ho3 ha3
                  rw [HXE.out] at ho3
                  have hS4 : StF w base K n (some ⟨bl, off, none⟩) svs G (n + k) gc gvs (gvs ++ [.slice A3 (m + 40) c3]) w4 :=
                    HS.out.app (by omega) hbs (.inl HV.out) (k := 40) ho3 ha3 HMAX.out (fun i' v' h => mem_snoc HMOD.out i' v' h) (lens_snoc HLEN.out A3 (m + 40) c3 (by omega) (fun A2 m2 c2 h _ => by rw [HGL.out] at h; omega))
                  have HS4 := Lib.hid hS4
                  have hG := hS4.own
                  have hbs4 : base ≤ w4.heap.size := by have := hS4.bel.size; omega
                  clear hS4 ho3 ha3 ho rD
                  go_wp2_with (at_builtin; refine wpList_app1 w4 rfl _ _ 95 rfl base 30 _ _ Try.underlying95 info_row rfl G (n + k) gc gvs rfl hG (.slice A3 (m + 40) c3) rfl w4.heap.size rfl rfl ?_ ?_ hbs4 ?_)
                  · unfold maxLen; omega
                  · omega
                  intro G2 gc2 w5 hG5 hg5 hk5
                  have HS5 := Lib.hid (HS4.out.row (by omega) hbs4 hG5 hg5 hk5)
                  clear hG hG5 hg5 hk5
                  go_wp2
                  go_roundw
                  case rel => exact ⟨k + 1, G2, gc2, _, rfl, by go_num, by omega, HS5.out⟩
                  case measure => simp [intOf]; omega
            · obtain rfl : n = k := by omega
              obtain ⟨W, hW⟩ : ∃ W, W = wr := ⟨_, rfl⟩
              rw [← hW] at hS ⊢
              clear hW hlt hk
              have hbel : Below base w W ∧ Sm K w W := ⟨hS.bel, hS.2.2.1⟩
              have hG := hS.own.rd
              have hL2 := hS.rd
              have hPool : Hid (Pool 5 W base (Mem n svs gvs)) := Lib.hid hS.pool
              have HLE : Hid (Lens n svs gvs) := Lib.hid hS.lens
              clear hS
              have hnn : ((n + n : Nat) : Int) = (n : Int) + n := by omega
              go_wp2
              go_loopw [12] (fun vk wr => ∃ k q : Nat, vk = .int .i64 k ∧ k ≤ n + n ∧ wr = W.drewN q) (fun vk _ => n + n - (intOf vk).toNat)
              case atStart => exact ⟨0, 0, rfl, Nat.zero_le _, rfl⟩
              case round =>
                obtain ⟨k, q, rfl, hk, rfl⟩ := hrel
                by_cases hlt : k < n + n
                · obtain ⟨bg, offg, rfl, _⟩ := hG.pos (by omega)
                  obtain ⟨v, hv, hcell⟩ := hG.at_ k hlt
                  have hmod : k % n < n := Nat.mod_lt _ (by omega)
                  obtain ⟨A, m, c', rfl, ho⟩ := hPool.out.1 (k % n) v (.inr ⟨k, hv, rfl⟩)
                  have HO2 := Lib.hid ho
                  have hmm : m ≤ 4294967296 := by
                    have := HLE.out.2 k A m c' hv
                    omega
                  have HV := Lib.hid hv
                  have hcap := ho.cap
                  have HMk : Hid (∀ (a : Int) (j : Nat) (w : World), j ≤ 4294967296 → (a = (k : Int) % n ∨ a = (k : Int).tmod n ∨ a = IntKind.i64.wrap ((k : Int).tmod n) ∨ a = ((k % n : Nat) : Int)) → Calls Try.prog 54 #[.int .i64 a, .int .i64 j] w fun e w' => e = .returned (.int .u8 ((mk (k % n) j).toNat : Int)) ∧ w' = w) := Lib.hid (fun a j w hj ha => by
                    have e1 : (k : Int).tmod n = ((k % n : Nat) : Int) := rfl
                    have e2 : (k : Int) % n = ((k % n : Nat) : Int) := rfl
                    have ha' : a = ((k % n : Nat) : Int) := by
                      rcases ha with h | h | h | h
                      · rw [h, e2]
                      · rw [h, e1]
                      · rw [h, e1, IntWalk.i64_in _ (by omega)]
                      · exact h
                    exact (mark_is (k % n) j a j w ha' rfl (by omega) (by omega)).mono (fun e w' h => ⟨h.1, h.2.symm⟩))
                  obtain ⟨W2, hW2⟩ : ∃ W2, W2 = W.drewN q := ⟨_, rfl⟩
                  rw [← hW2]
                  have HW2 := Lib.hid hW2
                  clear hW2 ho hv
                  go_wp2
                  go_loopw [13] (fun vj wr => ∃ j q : Nat, vj = .int .i64 j ∧ j ≤ m ∧ wr = W.drewN q) (fun vj _ => m - (intOf vj).toNat)
                  case atStart => exact ⟨0, q, rfl, Nat.zero_le _, HW2.out⟩
                  case round =>
                    obtain ⟨j, q2, rfl, hj, rfl⟩ := hrel
                    obtain ⟨W3, hW3⟩ : ∃ W3, W3 = W.drewN q2 := ⟨_, rfl⟩
                    have hcell3 : W3.cell? ⟨bg, offg + k, none⟩ = some (.slice A m c') := by rw [hW3]; exact hcell
                    by_cases hjm : j < m
                    · obtain ⟨g, rfl, _, _⟩ := HO2.out.form (by omega)
                      obtain ⟨x, hx, hc0, _⟩ := HO2.out.rd.at_ j hjm
                      rw [marks_at _ _ _ hjm] at hx
                      injection hx with hx
                      rw [Nat.zero_add, ← hx] at hc0
                      have hc3 : W3.cell? ⟨g, j, none⟩ = some (.int .u8 ((mk (k % n) j).toNat : Int)) := by rw [hW3]; exact hc0
                      rw [← hW3]
                      have HW3 := Lib.hid hW3
                      clear hW3 hx hc0
                      have q1 : (0 : Int) ≤ (k : Int) := by omega
                      have q2' : (k : Int) < (n : Int) + n := by omega
                      have q3 : (0 : Int) ≤ (j : Int) := by omega
                      have q4 : (j : Int) < (m : Int) := by omega
                      have q5 : ((n : Int) == 0) = false := by rw [beq_eq_false_iff_ne]; omega
                      have q6 : ¬ (n : Int) = 0 := by omega
                      go_wp2
                      go_quiet ((go_at_call 54; exact Calls.quiet_of_same (HMk.out _ j _ (by omega) (by first | exact .inl rfl | exact .inr (.inl rfl) | exact .inr (.inr (.inl rfl)) | exact .inr (.inr (.inr rfl))))))
                      rw [HW3.out]
                      go_wp2
                      go_roundw
                      case rel => exact ⟨j + 1, _, by go_num, by omega, rfl⟩
                      case measure => simp [intOf]; omega
                    · obtain rfl : m = j := by omega
                      rw [← hW3]
                      have HW3 := Lib.hid hW3
                      clear hW3
                      go_wp2
                      go_roundw
                      case rel => exact ⟨k + 1, q2, by go_num, by omega, HW3.out⟩
                      case measure => simp [intOf]; omega
                · obtain rfl : k = n + n := by omega
                  obtain ⟨V, hV⟩ : ∃ V, V = W.drewN q := ⟨_, rfl⟩
                  have hbelV : Below base w V ∧ Sm K w V := by rw [hV]; exact ⟨below_drewN hbel.1 q, hbel.2⟩
                  have hLV : RdV V L n svs := by rw [hV]; exact hL2.drewN q
                  have hPV : Hid (Pool 5 V base (Mem n svs gvs)) := by rw [hV]; exact Lib.hid (hPool.out.drewN q)
                  rw [← hV]
                  clear hV hbel hL2 hPool hG hlt hk
                  go_wp2
                  go_loopw [14] (fun vk wr => ∃ k q : Nat, vk = .int .i64 k ∧ k ≤ n ∧ wr = V.drewN q) (fun vk _ => n - (intOf vk).toNat)
                  case atStart => exact ⟨0, 0, rfl, Nat.zero_le _, rfl⟩
                  case round =>
                    obtain ⟨k, q, rfl, hk, rfl⟩ := hrel
                    by_cases hlt : k < n
                    · obtain ⟨bg, offg, rfl, _⟩ := hLV.pos (by omega)
                      obtain ⟨v, hv, hcell⟩ := hLV.at_ k hlt
                      obtain ⟨A, m, c', rfl, ho⟩ := hPV.out.1 k v (.inl hv)
                      have HO2 := Lib.hid ho
                      have hmm := HB.out k A m c' hv
                      have hcap := ho.cap
                      have HMk : Hid (∀ (j : Nat) (w : World), j ≤ 4294967296 → Calls Try.prog 54 #[.int .i64 k, .int .i64 j] w fun e w' => e = .returned (.int .u8 ((mk k j).toNat : Int)) ∧ w' = w) := Lib.hid (fun j w hj =>
                        (mark_is k j k j w rfl rfl (by omega) (by omega)).mono (fun e w' h => ⟨h.1, h.2.symm⟩))
                      obtain ⟨W2, hW2⟩ : ∃ W2, W2 = V.drewN q := ⟨_, rfl⟩
                      rw [← hW2]
                      have HW2 := Lib.hid hW2
                      clear hW2 ho hv
                      go_wp2
                      go_loopw [15] (fun vj wr => ∃ j q : Nat, vj = .int .i64 j ∧ j ≤ m ∧ wr = V.drewN q) (fun vj _ => m - (intOf vj).toNat)
                      case atStart => exact ⟨0, q, rfl, Nat.zero_le _, HW2.out⟩
                      case round =>
                        obtain ⟨j, q2, rfl, hj, rfl⟩ := hrel
                        obtain ⟨W3, hW3⟩ : ∃ W3, W3 = V.drewN q2 := ⟨_, rfl⟩
                        have hcell3 : W3.cell? ⟨bg, offg + k, none⟩ = some (.slice A m c') := by rw [hW3]; exact hcell
                        by_cases hjm : j < m
                        · obtain ⟨g, rfl, _, _⟩ := HO2.out.form (by omega)
                          obtain ⟨x, hx, hc0, _⟩ := HO2.out.rd.at_ j hjm
                          rw [marks_at _ _ _ hjm] at hx
                          injection hx with hx
                          rw [Nat.zero_add, ← hx] at hc0
                          have hc3 : W3.cell? ⟨g, j, none⟩ = some (.int .u8 ((mk k j).toNat : Int)) := by rw [hW3]; exact hc0
                          rw [← hW3]
                          have HW3 := Lib.hid hW3
                          clear hW3 hx hc0
                          have q1 : (0 : Int) ≤ (k : Int) := by omega
                          have q3 : (0 : Int) ≤ (j : Int) := by omega
                          have q4 : (j : Int) < (m : Int) := by omega
                          go_wp2
                          go_quiet ((go_at_call 54; exact Calls.quiet_of_same (HMk.out j _ (by omega))))
                          rw [HW3.out]
                          go_wp2
                          go_roundw
                          case rel => exact ⟨j + 1, _, by go_num, by omega, rfl⟩
                          case measure => simp [intOf]; omega
                        · obtain rfl : m = j := by omega
                          rw [← hW3]
                          have HW3 := Lib.hid hW3
                          clear hW3
                          go_wp2
                          go_roundw
                          case rel => exact ⟨k + 1, q2, by go_num, by omega, HW3.out⟩
                          case measure => simp [intOf]; omega
                    · go_wp2
                      go_ret
                      exact ⟨rfl, below_drewN hbelV.1 q, hbelV.2⟩

end Go.Proofs.Ytgccbghaibddcaa
