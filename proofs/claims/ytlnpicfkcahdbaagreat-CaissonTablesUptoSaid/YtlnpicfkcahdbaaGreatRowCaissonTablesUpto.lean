/- What a table in memory has, written to a disk that dies at whichever call and written again, answers as the one in memory does. Condition: the arguments hold at most 1048576 bytes in all. -/
import Derived.Test.YtlnpicfkcahdbaaGreatDskH
import Derived.Test.YtlnpicfkcahdbaaGreatDskB
import Derived.Deep.DeepCutAuto
import Derived.Lib.AppendZeros
import Derived.Test.YtlnpicfkcahdbaaGreatTr
import Derived.Test.YtlnpicfkcahdbaaGreatRows
import Derived.Test.YtlnpicfkcahdbaaGreatOpen
import Derived.ProofKit
import Derived.OpenShut
import Derived.ShutString
import Derived.ChangeOld
import Derived.SizedLaws
import Derived.JoinedCond
import Derived.Deep.CondSized
import Derived.Deep.Matrix
import Derived.Test.YtlnpicfkcahdbaaGreatBulk
import Derived.Test.YtlnpicfkcahdbaaGreatOpenL
import Derived.Test.YtlnpicfkcahdbaaGreatOpenE
namespace Go.Proofs.YtlnpicfkcahdbaaGreat
open Go Go.RowKit

theorem compN_mem {xss : List (List UInt8)} : ∀ i, ∀ x ∈ compN xss i, x ∈ xss
  | 0, x, h => by cases h
  | i + 1, x, h => by
    rw [compN] at h
    split at h
    · exact compN_mem i x h
    · next y hy =>
      split at h
      · exact compN_mem i x h
      · rcases List.mem_append.1 h with h | h
        · exact compN_mem i x h
        · rw [List.mem_singleton] at h
          rw [h]
          exact List.mem_of_getElem? hy
theorem rdl_box1 {w : World} {v : Value} {x : List UInt8} (h : ElB w v x) : RdL (w.alloc (.cells #[v] 28)) (some ⟨w.heap.size, 0, none⟩) 1 [x] := rdl_one8 h _ rfl
theorem rdl_box2 {w : World} {v u : Value} {x y : List UInt8} (h : ElB w v x) (k : ElB w u y) : RdL (w.alloc (.cells #[v, u] 28)) (some ⟨w.heap.size, 0, none⟩) 2 [x, y] := by
  have hr := OwnV.rd (ownV_box2 w 28 w.heap.size [v, u] 2 rfl (by omega) (Nat.le_refl _) _ rfl)
  have hb : Below w.heap.size w (w.alloc (.cells #[v, u] 28)) := (Below.refl _ _).alloc (Nat.le_refl _) _
  refine hr.rdl rfl (fun i a b ha hb2 => ?_)
  match i, ha, hb2 with
  | 0, ha, hb2 =>
    injection ha with ha
    injection hb2 with hb2
    subst ha hb2
    exact h.below hb
  | 1, ha, hb2 =>
    injection ha with ha
    injection hb2 with hb2
    subst ha hb2
    exact k.below hb
theorem rdl_row {w0 w : World} {g m : Nat} {brr : Array Value} {xss : List (List UInt8)} (hz : Cl w g brr 28) (hr : RwO w0 xss brr) (hl : xss.length = m) (hb : Below w0.heap.size w0 w) : RdL w (some ⟨g, 0, none⟩) m xss := by
  refine ⟨hl, fun _ => ⟨g, 0, rfl, hz.lt, fun i x hx => ?_⟩⟩
  obtain ⟨v, h1, h2⟩ := hr i x hx
  have h3 := h2.below hb
  rw [Nat.zero_add]
  first
    | exact ⟨v, (hz.cell i).trans h1, h3⟩
    | (obtain ⟨A, n, c, e, h4, h5, h6⟩ := h3
       subst e
       exact ⟨A, n, c, (hz.cell i).trans h1, h4, h5, h6⟩)

set_option maxRecDepth 100000 in
set_option maxHeartbeats 32000000 in
theorem seal_any {w : World} {L : Option Addr} {n c : Nat} {ls : List (List En)} (h : RLs w L n ls) (hn : n ≤ 20000) (hk1 : 1 ≤ (keysL ls).length) (hk2 : (keysL ls).length ≤ 20000) (hkl : ∀ x ∈ keysL ls, x.length ≤ maxLen) :
    Calls Tryz.prog 55 #[.slice L n c] w (RetBb w (sealT ls)) := by
  have HL := Lib.hid h.1
  have HR := Lib.hid h
  have HK1 := Lib.hid hk1
  have HK2 := Lib.hid hk2
  have HKL := Lib.hid hkl
  clear h hk1 hk2 hkl
  go_enter Tryz.func55, Tryz.ntmps55
  go_wp2_with fail
  go_loopw [4, 5, 6, 17] (fun s4 s5 s6 s17 wr => ∃ (k d gm gd s : Nat) (B G : Option Addr), k ≤ n ∧ s17 = .int .i64 (k : Int) ∧ s4 = .slice B k d ∧ s5 = .slice G gm gd ∧ s6 = .int .i64 (s : Int) ∧ s ≤ 1048576 ∧ slE ls 0 = slE (ls.drop k) s ∧ tot ((ls.take k).map b4E) = s + k ∧ SlS w B k d ((ls.take k).map b4E) G gm gd (keysL (ls.take k)) wr) (fun _ _ _ s _ => n - (intOf s).toNat)
  case atStart => exact ⟨0, 0, 0, 0, 0, none, none, Nat.zero_le _, rfl, rfl, rfl, rfl, Nat.zero_le _, rfl, rfl, SlS.zero w⟩
  case round =>
    obtain ⟨k, d, gm, gd, s, B, G, hk, rfl, rfl, rfl, rfl, hs, hE, hT, hS⟩ := hrel
    have HE := Lib.hid hE
    have HT := Lib.hid hT
    have HS := Lib.hid hS
    have HB := Lib.hid hS.bel
    clear hE hT hS
    by_cases hlt : k < n
    · obtain ⟨b, off, hAb, hbl⟩ := HR.out.pos (by omega)
      subst hAb
      obtain ⟨es, B1, m1, c1, hx, c0, hre, hmc⟩ := HR.out.at_ k hlt
      have d0 := (HB.out.cell (p := ⟨b, off + k, none⟩) hbl).trans c0
      have hm1 : m1 ≤ 20000 := by
        have h1 := hre.len
        have h2 := keysL_step hx
        have h3 : (keysL (ls.take (k + 1))).length ≤ (keysL ls).length := by
          unfold keysL
          rw [List.length_map, List.length_map]
          conv => rhs; rw [← List.take_append_drop (k + 1) ls]
          rw [List.flatten_append, List.length_append]
          omega
        rw [h2, List.length_append, List.length_map] at h3
        have := HK2.out
        omega
      obtain ⟨zb, hzb⟩ : ∃ zb, zb = b4E es := ⟨_, rfl⟩
      obtain ⟨zk, hzk⟩ : ∃ zk, zk = (buildE 4 es).2 := ⟨_, rfl⟩
      obtain ⟨bn, hbn⟩ : ∃ bn, bn = zb.length := ⟨_, rfl⟩
      have HB8 : Hid (∀ wx, Below w.heap.size w wx → Calls Tryz.prog 120 #[.int .i64 4, .slice B1 m1 c1] wx (fun e w' => ∃ A c, e = .returned (.tuple #[.slice A bn c, .int .i64 zk]) ∧ Own 5 w' wx.heap.size A bn c zb ∧ Below wx.heap.size wx w')) := Lib.hid (fun wx hb => by
        refine (build8_any (hre.below hb) (by omega) 4 (by omega) (by omega)).mono ?_
        rintro e w' ⟨A, c, h1, h2, h3⟩
        rw [hbn, hzb, hzk]
        exact ⟨A, c, h1, h2, h3⟩)
      have HZB := Lib.hid hzb
      have HZK := Lib.hid hzk
      have HBN := Lib.hid hbn
      have HX := Lib.hid hx
      have HRE := Lib.hid hre
      clear hx c0 hre hzb hzk hbn
      go_wp2_with fail
      with_reducible refine (HB8.out wr HB.out).mono ?_
      intro e w1 hq
      obtain ⟨A1, c2, h1, o1, b1⟩ := hq
      subst h1
      have O1 := Lib.hid o1
      have B1' := Lib.hid b1
      have BW := Lib.hid (HB.out.trans (b1.mono HB.out.size))
      clear o1 b1 d0
      by_cases hz0 : zk = 0
      · subst hz0
        obtain ⟨s2, hs2⟩ : ∃ s2, s2 = s + bn := ⟨_, rfl⟩
        have hbl2 : bn ≤ 1048584 := by
          have h1 := HBN.out
          rw [HZB.out] at h1
          rcases buildE_cases 4 es with ⟨F, h2, h3⟩ | ⟨q, h2, _⟩
          · have : b4E es = sealB F := by unfold b4E; rw [h2]
            rw [this, sealB_len] at h1
            omega
          · have : b4E es = [] := by unfold b4E; rw [h2]
            rw [this] at h1
            simp at h1
            omega
        have hw2 : IntKind.i64.wrap ((s : Int) + (bn : Int)) = (s2 : Int) := by rw [IntWalk.i64_in _ (by omega)]; omega
        have HS2 := Lib.hid hs2
        by_cases hbig : 1048576 < s2
        · have hF : sealT ls = ([], 2) := by
            have : slE ls 0 = 2 := by rw [HE.out]; exact slE_big HX.out HZK.out.symm (by rw [← HZB.out, ← HBN.out, ← HS2.out]; exact hbig)
            unfold sealT
            rw [this]
            rfl
          have HF : Hid (RetBb w (sealT ls) (.returned (.tuple #[.slice none 0 0, .int .i64 2])) w1) := Lib.hid (RetBb.no hF BW.out)
          have hbig2 : ¬ (s2 : Int) ≤ 1048576 := by omega
          clear hF hs2
          go_wp2_with fail
          exact bodyPost_ret (v := .tuple #[.slice none 0 0, .int .i64 2]) (by simp [results, Tryz.f55, go_sem]; try rfl) rfl HF.out
        · have HEN : Hid (slE ls 0 = slE (ls.drop (k + 1)) s2) := Lib.hid (by rw [HE.out, HS2.out, HBN.out, HZB.out]; exact slE_on HX.out HZK.out.symm (by rw [← HZB.out, ← HBN.out, ← HS2.out]; exact hbig))
          have HTN : Hid (tot ((ls.take (k + 1)).map b4E) = s2 + (k + 1)) := Lib.hid (by
            rw [b4_step HX.out, tot_append, HT.out, HS2.out, HBN.out, HZB.out]
            simp only [tot]
            omega)
          have HKS := Lib.hid (keysL_step HX.out)
          obtain ⟨bvs, kvs, q1, q2, q3, q4, q5, q6⟩ := HS.out.below B1'.out
          obtain ⟨W1, hW1⟩ : ∃ W1, W1 = w1.alloc (.cells #[.slice A1 bn c2] 28) := ⟨_, rfl⟩
          have bW1 : Below w1.heap.size w1 W1 := by rw [hW1]; exact (Below.refl _ _).alloc (Nat.le_refl _) _
          have Q1 := Lib.hid (q1.below bW1)
          have Q2 := Lib.hid (q2.below bW1)
          have Q3 := Lib.hid q3
          have Q4 := Lib.hid (q4.below bW1)
          have Q5 := Lib.hid q5
          have Q6 := Lib.hid (q6.trans (bW1.mono q6.size))
          have O2 : Hid (Own 5 W1 w.heap.size A1 bn c2 zb) := Lib.hid ((O1.out.below bW1).mono HB.out.size)
          have HRD : Hid (RdV W1 (some ⟨w1.heap.size, 0, none⟩) 1 [.slice A1 bn c2]) := Lib.hid (by rw [hW1]; exact OwnV.rd (ownV_box2 w1 28 w1.heap.size [.slice A1 bn c2] 1 rfl (by omega) (Nat.le_refl _) _ rfl))
          have hone : ∀ u ∈ [Value.slice A1 bn c2], u.oneCell' = true := by intro u hu; rw [List.mem_singleton] at hu; rw [hu]; rfl
          have HON := Lib.hid hone
          have HW1 := Lib.hid hW1
          obtain ⟨u1, hu1⟩ : ∃ u1, u1 = w1.heap.size := ⟨_, rfl⟩
          rw [← hu1] at HRD
          have HU1 := Lib.hid hu1
          clear q1 q2 q3 q4 q5 q6 hone hW1 bW1 hu1 hs2
          go_wp2_with (at_builtin; rw [← HW1.out, ← HU1.out]; refine wpList_appV W1 rfl _ _ 23 rfl w.heap.size 28 (.slice none 0 0) 24 Tryz.underlying23 info_sl rfl B k d bvs rfl Q1.out (some ⟨u1, 0, none⟩) 1 1 [.slice A1 bn c2] rfl HRD.out HON.out ?_ ?_ ?_ ?_)
          · unfold maxLen; omega
          · omega
          · exact Q6.out.size
          intro B' d' w3 o3 hg3 hB3
          have HS3 : Hid (SlS w B' (k + 1) d' ((ls.take (k + 1)).map b4E) G gm gd (keysL (ls.take k)) w3) := Lib.hid (by
            rw [b4_step HX.out, ← HZB.out]
            exact SlS.addB Q1.out Q2.out Q3.out Q4.out Q5.out Q6.out O2.out o3 hg3 hB3)
          have HR3 := Lib.hid (HRE.out.below HS3.out.bel)
          have hle := HRE.out.len
          have hgm0 : gm = (keysL (ls.take k)).length := by
            obtain ⟨_, kvs, _, r2, _, _, r5, _⟩ := HS3.out
            rw [← r5.1, r2.len]
          have hgm1 : gm + m1 ≤ 20000 := by
            have h3 : (keysL (ls.take (k + 1))).length ≤ (keysL ls).length := by
              unfold keysL
              rw [List.length_map, List.length_map]
              conv => rhs; rw [← List.take_append_drop (k + 1) ls]
              rw [List.flatten_append, List.length_append]
              omega
            rw [HKS.out, List.length_append, List.length_map] at h3
            have := HK2.out
            omega
          have HLE := Lib.hid hle
          have HGM0 := Lib.hid hgm0
          clear o3 hg3 hB3 hle hgm0
          go_wp2_with fail
          go_loopw [5, 41] (fun s5 s41 wq => ∃ (j gm2 gd2 : Nat) (G2 : Option Addr), j ≤ m1 ∧ s41 = .int .i64 (j : Int) ∧ s5 = .slice G2 gm2 gd2 ∧ gm2 = gm + j ∧ SlS w B' (k + 1) d' ((ls.take (k + 1)).map b4E) G2 gm2 gd2 (keysL (ls.take k) ++ (es.take j).map (·.key)) wq) (fun _ s _ => m1 - (intOf s).toNat)
          case atStart => exact ⟨0, gm, gd, G, Nat.zero_le _, rfl, rfl, rfl, by have := HS3.out; simpa using this⟩
          case round =>
            obtain ⟨j, gm2, gd2, G2, hj, rfl, rfl, hgm2, hS4⟩ := hrel
            have HS4 := Lib.hid hS4
            have HB4 := Lib.hid hS4.bel
            clear hS4
            by_cases hlj : j < m1
            · obtain ⟨bb, of2, hB1b, hbb⟩ := HRE.out.pos (by omega)
              subst hB1b
              obtain ⟨x, v0, v1, v2, v3, hxx, e0, e1, e2, e3, hev⟩ := HRE.out.at_ j hlj
              obtain ⟨K, kn, kc, V, vn, vc, rfl, rfl, rfl, rfl, hrk, hrv, hkc, _, hkni, _⟩ := hev.parts
              have HEL : Hid (ElB w (.slice K kn kc) x.key) := Lib.hid ⟨K, kn, kc, rfl, hrk, hkc, hkni⟩
              have d0 := (HB4.out.cell (p := ⟨bb, of2 + j * 4, none⟩) hbb).trans e0
              have d1 := (HB4.out.cell (p := ⟨bb, of2 + j * 4 + 1, none⟩) hbb).trans e1
              have d2 := (HB4.out.cell (p := ⟨bb, of2 + j * 4 + 2, none⟩) hbb).trans e2
              have d3 := (HB4.out.cell (p := ⟨bb, of2 + j * 4 + 3, none⟩) hbb).trans e3
              obtain ⟨U0, hU⟩ : ∃ U0, U0 = wr.alloc (.cells #[.slice K kn kc, .int .u64 (x.seq : Int), .int .u8 (x.kind : Int), .slice V vn vc] 31) := ⟨_, rfl⟩
              obtain ⟨g0, hg0⟩ : ∃ g0, g0 = wr.heap.size := ⟨_, rfl⟩
              have bU : Below wr.heap.size wr U0 := by rw [hU]; exact (Below.refl _ _).alloc (Nat.le_refl _) _
              have zU : Cl U0 g0 #[.slice K kn kc, .int .u64 (x.seq : Int), .int .u8 (x.kind : Int), .slice V vn vc] 31 := by rw [hU, hg0]; exact Cl.new _ _ _
              obtain ⟨z0, z1, z2, z3, _⟩ := zU.c4
              have HU := Lib.hid hU
              have HG := Lib.hid hg0
              have HKST := Lib.hid (key_step hxx)
              obtain ⟨bv2, kv2, q1, q2, q3, q4, q5, q6⟩ := HS4.out.below bU
              obtain ⟨W2, hW2⟩ : ∃ W2, W2 = U0.alloc (.cells #[.slice K kn kc] 28) := ⟨_, rfl⟩
              have bW2 : Below U0.heap.size U0 W2 := by rw [hW2]; exact (Below.refl _ _).alloc (Nat.le_refl _) _
              have P1 := Lib.hid (q1.below bW2)
              have P2 := Lib.hid (q2.below bW2)
              have P3 := Lib.hid q3
              have P4 := Lib.hid (q4.below bW2)
              have P5 := Lib.hid q5
              have P6 := Lib.hid (q6.trans (bW2.mono q6.size))
              have HRD2 : Hid (RdV W2 (some ⟨U0.heap.size, 0, none⟩) 1 [.slice K kn kc]) := Lib.hid (by rw [hW2]; exact OwnV.rd (ownV_box2 U0 28 U0.heap.size [.slice K kn kc] 1 rfl (by omega) (Nat.le_refl _) _ rfl))
              have hone2 : ∀ u ∈ [Value.slice K kn kc], u.oneCell' = true := by intro u hu; rw [List.mem_singleton] at hu; rw [hu]; rfl
              have HON2 := Lib.hid hone2
              have HW2 := Lib.hid hW2
              obtain ⟨u2, hu2⟩ : ∃ u2, u2 = U0.heap.size := ⟨_, rfl⟩
              rw [← hu2] at HRD2
              have HU2 := Lib.hid hu2
              have hgs : gm2 + 1 ≤ 20000 := by omega
              have HGM2 := Lib.hid hgm2
              clear hxx e0 e1 e2 e3 hev hrk hrv hU hg0 bU zU q1 q2 q3 q4 q5 q6 hone2 hW2 bW2 hu2 hgm2
              go_upto_region 16 with (fail)
              rw [← HU.out, ← HG.out]
              clear d0 d1 d2 d3
              go_wp2_with (at_builtin; rw [← HW2.out, ← HU2.out]; refine wpList_appV W2 rfl _ _ 23 rfl w.heap.size 28 (.slice none 0 0) 24 Tryz.underlying23 info_sl rfl G2 gm2 gd2 kv2 rfl P2.out (some ⟨u2, 0, none⟩) 1 1 [.slice K kn kc] rfl HRD2.out HON2.out ?_ ?_ ?_ ?_)
              · unfold maxLen; omega
              · omega
              · exact P6.out.size
              intro G' d4 w4 o4 hg4 hB4
              have HS5 : Hid (SlS w B' (k + 1) d' ((ls.take (k + 1)).map b4E) G' (gm2 + 1) d4 (keysL (ls.take k) ++ (es.take (j + 1)).map (·.key)) w4) := Lib.hid (by
                rw [HKST.out, ← List.append_assoc]
                exact SlS.addK P1.out P2.out P3.out P4.out P5.out P6.out HEL.out o4 hg4 hB4)
              clear o4 hg4 hB4
              go_wp2_with fail
              go_roundw
              case rel => exact ⟨j + 1, gm2 + 1, d4, G', by omega, by go_num, rfl, by have := HGM2.out; omega, HS5.out⟩
              case measure => simp [intOf]; omega
            · have HS6 : Hid (SlS w B' (k + 1) d' ((ls.take (k + 1)).map b4E) G2 gm2 gd2 (keysL (ls.take (k + 1))) wr) := Lib.hid (by
                have h1 := HS4.out
                have h0 : es.take j = es := List.take_of_length_le (by rw [HLE.out]; omega)
                rw [h0] at h1
                rw [HKS.out]
                exact h1)
              go_wp2_with fail
              go_roundw
              case rel => exact ⟨k + 1, d', gm2, gd2, s2, B', G2, by omega, by go_num, rfl, rfl, rfl, by omega, HEN.out, HTN.out, HS6.out⟩
              case measure => simp [intOf]; omega
      · have hF : sealT ls = ([], zk) := by
          have : slE ls 0 = zk := by rw [HE.out, HZK.out]; exact slE_bad HX.out (by rw [← HZK.out]; exact hz0)
          unfold sealT
          rw [this, if_pos hz0]
        have HF : Hid (RetBb w (sealT ls) (.returned (.tuple #[.slice none 0 0, .int .i64 zk])) w1) := Lib.hid (RetBb.no hF BW.out)
        clear hF
        go_wp2_with fail
        exact bodyPost_ret (v := .tuple #[.slice none 0 0, .int .i64 zk]) (by simp [results, Tryz.f55, go_sem]; try rfl) rfl HF.out
    · have hkn : k = n := by omega
      have htk : ls.take k = ls := List.take_of_length_le (by rw [HL.out]; omega)
      have hE0 : slE ls 0 = 0 := by
        rw [HE.out, List.drop_of_length_le (by rw [HL.out]; omega)]
        rfl
      have hT1 : tot (ls.map b4E) = s + k := by
        have := HT.out
        rw [htk] at this
        exact this
      obtain ⟨bvs, kvs, q1, q2, q3, q4, q5, q6⟩ := HS.out
      rw [htk] at q4 q5
      have hgm : gm = (keysL ls).length := by rw [← q5.1, q2.len]
      have hgm1 : 0 < gm := by have := HK1.out; omega
      have hgm2 : gm ≤ 20000 := by have := HK2.out; omega
      obtain ⟨g, arr, hG, hgb, zg, ha1, ha2, harr⟩ := q2.cl hgm1
      subst hG
      obtain ⟨ca, hca⟩ : ∃ ca, ca = arr.size := ⟨_, rfl⟩
      have hrw : RwO w (keysL ls) arr := fun i x hx => by
        have hi : i < kvs.length := by rw [q5.1]; exact (List.getElem?_eq_some_iff.1 hx).1
        exact ⟨kvs[i], harr i _ (List.getElem?_eq_getElem hi), q5.2 i _ x (List.getElem?_eq_getElem hi) hx⟩
      have HCP : Hid (Calls Tryz.prog 121 #[.slice (some ⟨g, 0, none⟩) gm gd, .func (.func 56) #[] #[]] wr (RetCp w wr g ca gd (compB (keysL ls)))) := Lib.hid (compact_any zg hca.symm (by omega) (by omega) (by omega) hgm.symm hrw hgb q6)
      have HE0 := Lib.hid hE0
      have HT1 := Lib.hid hT1
      have Q1 := Lib.hid q1
      have Q2 := Lib.hid q2
      have Q3 := Lib.hid q3
      have Q4 := Lib.hid q4
      have Q6 := Lib.hid q6
      clear hkn htk hE0 hT1 q1 q2 q3 q4 q5 q6 hgm hgm1 hgb zg ha1 ha2 harr hrw hca
      go_wp2_with fail
      with_reducible refine HCP.out.mono ?_
      intro e w4 hq
      obtain ⟨m3, brr, h1, z4, _, r4, l4, b4, g4⟩ := hq
      subst h1
      have hm3 : m3 ≤ 20000 := by
        have h1 := compN_len (keysL ls) (keysL ls).length
        have h2 := HK2.out
        have h3 : (compB (keysL ls)).length ≤ (keysL ls).length := h1
        omega
      have HBD : Hid (Calls Tryz.prog 20 #[.int .i64 10, .slice (some ⟨g, 0, none⟩) m3 gd] w4 (RetBd w4 (filB ls))) := Lib.hid (build_gen (some ⟨g, 0, none⟩) m3 gd 10 w4 (by omega) (by omega) hm3 (by omega) (compB (keysL ls)) (rdl_row z4 r4 l4 b4) (fun x hx => HKL.out x (compN_mem _ x hx)))
      have HQ1 : Hid (OwnV 28 w4 w.heap.size B k d bvs) := Lib.hid (Q1.out.kept g4 (fun b hb e => Q3.out b hb (by injection e with e; rw [← e]; rfl)))
      have HQ4 : Hid (BlO w.heap.size w4 (ls.map b4E) bvs) := Lib.hid (Q4.out.kept Q2.out g4)
      have B4 := Lib.hid b4
      clear z4 r4 l4 b4 g4
      obtain ⟨fn, hfn⟩ : ∃ fn, fn = (filB ls).length := ⟨_, rfl⟩
      obtain ⟨fs, hfs⟩ : ∃ fs, fs = filB ls := ⟨_, rfl⟩
      have hfl : fn ≤ 25001 := by rw [hfn]; exact filter_len2 (by have h1 := compN_len (keysL ls) (keysL ls).length; have h2 := HK2.out; have h3 : (compB (keysL ls)).length ≤ (keysL ls).length := h1; omega)
      rw [← hfs] at HBD hfn
      have HFS := Lib.hid hfs
      have HFN := Lib.hid hfn
      clear hfs hfn
      go_wp2_with fail
      with_reducible refine HBD.out.mono ?_
      intro e w5 hq
      obtain ⟨h1, z5, b5⟩ := hq
      rw [← HFN.out] at h1
      subst h1
      have HRF : Hid (Rd w5 (some ⟨w4.heap.size, 0, none⟩) fn fs) := Lib.hid (by rw [HFN.out]; exact vsB_rd z5)
      obtain ⟨fb, hfb⟩ : ∃ fb, fb = w4.heap.size := ⟨_, rfl⟩
      rw [← hfb] at HRF ⊢
      have HB5 := Lib.hid (B4.out.trans (b5.mono B4.out.size))
      have hfr : RdL w5 B k (ls.map b4E) := (HQ4.out.below b5).rdl (HQ1.out.below b5).rd
      have htt : tot (ls.map b4E) ≤ 268435456 := by have := HT1.out; omega
      have HFR := Lib.hid (Frame_any B k d (ls.map b4E) w5 hfr htt)
      obtain ⟨f1, hf1⟩ : ∃ f1, f1 = frameB (ls.map b4E) := ⟨_, rfl⟩
      have hl1 : f1.length ≤ 11000000 := by
        have h1 := frameB_len _ htt
        rw [← hf1] at h1
        have := HT1.out
        omega
      rw [← hf1] at HFR
      have HF1 := Lib.hid hf1
      clear z5 b5 hfb hfr htt hf1
      go_wp2_with fail
      with_reducible refine HFR.out.mono ?_
      intro e w6 hq
      obtain ⟨A6, n6, c6, h1, o6, b6⟩ := hq
      subst h1
      have hn6 : n6 ≤ 11000000 := by rw [← o6.len]; exact hl1
      obtain ⟨W6, hW6⟩ : ∃ W6, W6 = w6.alloc (.cells #[.slice A6 n6 c6, .slice (some ⟨fb, 0, none⟩) fn fn] 28) := ⟨_, rfl⟩
      have bW6 : Below w6.heap.size w6 W6 := by rw [hW6]; exact (Below.refl _ _).alloc (Nat.le_refl _) _
      have hrl : RdL W6 (some ⟨w6.heap.size, 0, none⟩) 2 [f1, fs] := by
        rw [hW6]
        exact rdl_box2 (elb_own o6) ⟨_, _, _, rfl, HRF.out.below b6, Nat.le_refl _, fun h => by cases h⟩
      have hfl2 : fs.length ≤ 25001 := by have := HFN.out; omega
      have ht2 : tot [f1, fs] ≤ 268435456 := by simp only [tot]; omega
      have HFR2 : Hid (Calls Tryz.prog 92 #[.slice (some ⟨w6.heap.size, 0, none⟩) 2 2] W6 (Made W6.heap.size W6 (frameB [f1, fs]))) := Lib.hid (Frame_any _ 2 2 _ W6 hrl ht2)
      have HB6 := Lib.hid (HB5.out.trans ((belowT b6 bW6).mono HB5.out.size))
      have HW6 := Lib.hid hW6
      obtain ⟨u6, hu6⟩ : ∃ u6, u6 = w6.heap.size := ⟨_, rfl⟩
      rw [← hu6] at HFR2
      have HU6 := Lib.hid hu6
      have hl2 : (frameB [f1, fs]).length ≤ 200000000 := by
        have h1 := frameB_len _ ht2
        simp only [tot] at h1
        omega
      have HL2 := Lib.hid hl2
      clear o6 b6 hW6 bW6 hrl ht2 hu6 hl2
      go_wp2_with fail
      rw [← HW6.out, ← HU6.out]
      with_reducible refine HFR2.out.mono ?_
      intro e w7 hq
      obtain ⟨A7, n7, c7, h1, o7, b7⟩ := hq
      subst h1
      obtain ⟨f2, hf2⟩ : ∃ f2, f2 = frameB [f1, fs] := ⟨_, rfl⟩
      rw [← hf2] at o7 HL2
      have hn7 : n7 ≤ 200000000 := by rw [← o7.len]; exact HL2.out
      obtain ⟨W7, hW7⟩ : ∃ W7, W7 = w7.alloc (.cells #[.slice A7 n7 c7] 28) := ⟨_, rfl⟩
      have bW7 : Below w7.heap.size w7 W7 := by rw [hW7]; exact (Below.refl _ _).alloc (Nat.le_refl _) _
      have hrl : RdL W7 (some ⟨w7.heap.size, 0, none⟩) 1 [f2] := by rw [hW7]; exact rdl_box1 (elb_own o7)
      obtain ⟨z, hz⟩ : ∃ z, z = sealT ls := ⟨_, rfl⟩
      have hz2 : z = sealG f2 := by
        rw [hz]
        unfold sealT
        rw [if_neg (by rw [HE0.out]; simp), ← HF1.out, ← HFS.out, ← hf2]
      have HSL : Hid (Calls Tryz.prog 122 #[.slice (some ⟨w7.heap.size, 0, none⟩) 1 1] W7 (RetSE W7.heap.size W7 z)) := Lib.hid (by
        have h1 := Seal_any _ 1 1 [f2] W7 hrl (by simp only [tot]; have := HL2.out; omega)
        rw [show [f2].flatten = f2 by simp, ← hz2] at h1
        exact h1)
      have HB7 := Lib.hid (HB6.out.trans ((belowT b7 bW7).mono HB6.out.size))
      have HW7 := Lib.hid hW7
      obtain ⟨u7, hu7⟩ : ∃ u7, u7 = w7.heap.size := ⟨_, rfl⟩
      rw [← hu7] at HSL
      have HZ := Lib.hid hz
      have HU7 := Lib.hid hu7
      obtain ⟨zk, hzk⟩ : ∃ zk, zk = z.2 := ⟨_, rfl⟩
      have HZK := Lib.hid hzk
      clear o7 b7 hW7 bW7 hrl hu7 hf2 hz hz2 hzk
      go_wp2_with fail
      rw [← HW7.out, ← HU7.out]
      with_reducible refine HSL.out.mono ?_
      intro e w8 hq
      obtain ⟨A8, n8, c8, h1, o8, b8⟩ := hq
      rw [← HZK.out] at h1
      subst h1
      have hn8 := o8.len
      have HF : Hid (RetBb w (sealT ls) (.returned (.tuple #[.slice A8 n8 c8, .int .i64 zk])) w8) := Lib.hid ⟨A8, c8, by rw [← HZ.out, hn8, HZK.out], by rw [← HZ.out, hn8]; exact o8.mono HB7.out.size, HB7.out.trans (b8.mono HB7.out.size)⟩
      clear o8 b8 hn8
      go_wp2_with fail
      exact bodyPost_ret (v := .tuple #[.slice A8 n8 c8, .int .i64 zk]) (by simp [results, Tryz.f55, go_sem]; try rfl) rfl HF.out
end Go.Proofs.YtlnpicfkcahdbaaGreat
namespace Go.Proofs.YtlnpicfkcahdbaaGreat
open Go Go.RowKit

theorem syncD_one {D : DS} {x c : List UInt8} {s : Nat} (hf : D.fs = [(x, c, s)]) (hd : D.dead = false) :
    syncD D x = if D.arm = 0 then (⟨[(x, c, s)], D.room, D.arm, true⟩, 9) else (⟨[(x, c, c.length)], D.room, armN D.arm, false⟩, 0) := by
  have e : syncF x D.fs = [(x, c, c.length)] := by
    rw [hf, syncF]
    simp [getF, putF]
  have e2 : noneE x D.fs = 0 := by rw [hf]; simp [noneE, getF]
  rw [syncD, doneD, if_neg (by rw [hd]; decide), e2, if_neg (by decide), e, hd, hf]
theorem crashD_one {D : DS} {x c : List UInt8} {s : Nat} (hf : D.fs = [(x, c, s)]) (hs : s ≤ c.length) (ks : List Int) :
    ∃ t, s ≤ t ∧ t ≤ c.length ∧ crashD D ks = ⟨[(x, c.take t, t)], D.room, -1, false⟩ := by
  by_cases h : c.length = s
  · refine ⟨s, Nat.le_refl _, hs, ?_⟩
    rw [crashD, hf]
    simp [crP, crStep, h, List.take_of_length_le]
  · have hk := keepN_le ks 0 (c.length - s)
    refine ⟨s + keepN ks 0 (c.length - s), by omega, by omega, ?_⟩
    rw [crashD, hf]
    simp [crP, crStep, h, cutE]
theorem readD_one {D : DS} {x c : List UInt8} {s : Nat} (hf : D.fs = [(x, c, s)]) (hd : D.dead = false) : readD D x = (c, 0) := by
  rw [readD, if_neg (by rw [hd]; decide), hf]
  simp [getF]
theorem sz_one {D : DS} {x c : List UInt8} {s : Nat} (hf : D.fs = [(x, c, s)]) (hx : x.length ≤ 1099511627776) (hc : c.length ≤ 1099511627776) : SzD D := by
  refine ⟨by rw [hf, usedF_cons, usedF_nil]; simp only; omega, by rw [hf]; simp, fun f h => ?_⟩
  rw [hf, List.mem_singleton] at h
  rw [h]
  exact hx
theorem OwnV.fr {e : TypeId} {w w' : World} {base n c : Nat} {A : Option Addr} {vs : List Value} {bl : List Nat} (h : OwnV e w base A n c vs) (hf : Fr w w' bl) (ho : ∀ b, blk A = some b → b ∉ bl) : OwnV e w' base A n c vs := by
  refine ⟨h.1, ?_⟩
  rcases h.2 with h1 | ⟨g, cap, cur, h1, h2, h3, h4⟩
  · exact .inl h1
  · injection h1 with h1 h5 h6
    subst h1 h6
    exact .inr ⟨g, _, cur, rfl, h2, (hf.block g (Array.getElem?_eq_some_iff.1 h3).1 (ho g rfl)).trans h3, h4⟩

/-- A beginning of a row of lists. -/
theorem RdL.pre {w : World} {A : Option Addr} {n : Nat} {xss : List (List UInt8)} (h : RdL w A n xss) (k : Nat) (hk : k ≤ n) : RdL w A k (xss.take k) := by
  refine ⟨by rw [List.length_take, h.1]; omega, fun hn => ?_⟩
  obtain ⟨b, off, h1, h2, h3⟩ := h.2 (by omega)
  refine ⟨b, off, h1, h2, fun i x hx => h3 i x ?_⟩
  rw [List.getElem?_take] at hx
  split at hx
  · exact hx
  · cases hx

end Go.Proofs.YtlnpicfkcahdbaaGreat
namespace Go.Proofs.YtlnpicfkcahdbaaGreat
open Go Go.RowKit

/-- Two keys of their own and two numbers. -/
def RetAb (w : World) (a b : List UInt8) (n fn : Nat) (e : Ending) (w' : World) : Prop :=
  ∃ K kn kc L ln lc, e = .returned (.agg #[.slice K kn kc, .slice L ln lc, .int .i64 (n : Int), .int .i64 (fn : Int)]) ∧ Own 5 w' w.heap.size K kn kc a ∧ Own 5 w' w.heap.size L ln lc b ∧ Below w.heap.size w w'
theorem below_put4 {B g : Nat} {w wk : World} (h : Below B w wk) (hg : B ≤ g) (a b c d : Value) : Below B w ((((wk.setCell ⟨g, 0, none⟩ a).setCell ⟨g, 1, none⟩ b).setCell ⟨g, 2, none⟩ c).setCell ⟨g, 3, none⟩ d) :=
  below_set (below_set (below_set (below_set h 0 _ hg) 1 _ hg) 2 _ hg) 3 _ hg
theorem own_put4 {e : TypeId} {w : World} {base n c g : Nat} {A : Option Addr} {xs : List UInt8} (h : Own e w base A n c xs) (hg : g < base) (p q r s : Value) : Own e ((((w.setCell ⟨g, 0, none⟩ p).setCell ⟨g, 1, none⟩ q).setCell ⟨g, 2, none⟩ r).setCell ⟨g, 3, none⟩ s) base A n c xs :=
  (((h.set hg 0 _).set hg 1 _).set hg 2 _).set hg 3 _

set_option maxRecDepth 100000 in
set_option maxHeartbeats 8000000 in
theorem about_any {w : World} {A F : Option Addr} {n c fn fc : Nat} {es : List En} {x y : En} (h : REs w A n es) (hn : 0 < n) (hn2 : n ≤ 1099511627776) (hx : es[0]? = some x) (hy : es[n - 1]? = some y) (sx : x.key.length ≤ 140737488355328) (sy : y.key.length ≤ 140737488355328) :
    Calls Tryz.prog 57 #[.slice A n c, .slice F fn fc] w (RetAb w x.key y.key n fn) := by
  obtain ⟨b, off, hAb, hbl⟩ := h.pos hn
  subst hAb
  obtain ⟨x', v0, v1, v2, v3, hx', c0, _, _, _, hev⟩ := h.at_ 0 hn
  obtain ⟨m, hm⟩ : ∃ m, m = n - 1 := ⟨_, rfl⟩
  rw [← hm] at hy
  obtain ⟨y', u0, u1, u2, u3, hy', e0, _, _, _, hew⟩ := h.at_ m (by omega)
  obtain rfl : x' = x := by rw [hx] at hx'; exact (Option.some.inj hx').symm
  obtain rfl : y' = y := by rw [hy] at hy'; exact (Option.some.inj hy').symm
  obtain ⟨K, kn, kc, _, _, _, rfl, _, _, _, r0, _, k0, _, d0, _⟩ := hev.parts
  obtain ⟨L, ln, lc, _, _, _, rfl, _, _, _, q0, _, l0, _, f0, _⟩ := hew.parts
  rw [show off + 0 * 4 = off by omega] at c0
  obtain ⟨W, hW⟩ : ∃ W, W = w.alloc (.cells #[.slice none 0 0, .slice none 0 0, .int .i64 0, .int .i64 0] 38) := ⟨_, rfl⟩
  obtain ⟨g, hg⟩ : ∃ g, g = w.heap.size := ⟨_, rfl⟩
  have bW : Below w.heap.size w W := by rw [hW]; exact (Below.refl _ _).alloc (Nat.le_refl _) _
  have zW : Cl W g #[.slice none 0 0, .slice none 0 0, .int .i64 0, .int .i64 0] 38 := by rw [hW, hg]; exact Cl.new _ _ _
  have sW : g < W.heap.size := zW.lt
  have hkn : kn ≤ 140737488355328 := by rw [← r0.len]; exact sx
  have hln : ln ≤ 140737488355328 := by rw [← q0.len]; exact sy
  have HK : Hid (∀ wx, Below W.heap.size W wx → Calls Tryz.prog 104 #[.slice K kn kc] wx (Made wx.heap.size wx x'.key)) := Lib.hid (fun wx hb => Clone_any K kn kc _ wx ((r0.below bW).below hb) hkn d0)
  have HV : Hid (∀ wx, Below W.heap.size W wx → Calls Tryz.prog 104 #[.slice L ln lc] wx (Made wx.heap.size wx y'.key)) := Lib.hid (fun wx hb => Clone_any L ln lc _ wx ((q0.below bW).below hb) hln f0)
  have HS0 : Hid (∀ wx, Below w.heap.size w wx → wx.cell? ⟨b, off, none⟩ = some (.slice K kn kc) ∧ wx.cell? ⟨b, off + m * 4, none⟩ = some (.slice L ln lc)) := Lib.hid (fun wx hb => ⟨(hb.cell (p := ⟨b, off, none⟩) hbl).trans c0, (hb.cell (p := ⟨b, off + m * 4, none⟩) hbl).trans e0⟩)
  have ZLC : Hid (∀ wx, Below W.heap.size W wx → Cl wx g #[.slice none 0 0, .slice none 0 0, .int .i64 0, .int .i64 0] 38) := Lib.hid (fun wx hb => zW.below hb)
  have BW := Lib.hid bW
  have HSX : Hid (∀ wx, Below W.heap.size W wx → wx.cell? ⟨b, off, none⟩ = some (.slice K kn kc) ∧ wx.cell? ⟨b, off + m * 4, none⟩ = some (.slice L ln lc)) := Lib.hid (fun wx hb => HS0.out wx (belowT bW hb))
  have HW := Lib.hid hW
  have HG := Lib.hid hg
  have hB0 : Below W.heap.size W W.drew := (Below.refl _ _).drew
  have hmw : IntKind.i64.wrap ((n : Int) - 1) = (m : Int) := by rw [IntWalk.i64_in _ (by omega)]; omega
  have hmn : m < n := by omega
  have HGW := Lib.hid (show w.heap.size ≤ g by omega)
  clear h hx hy hx' hy' c0 e0 hev hew r0 q0 d0 f0 hW hg bW zW hm sx sy
  go_enter Tryz.func57, Tryz.ntmps57
  go_upto_region 1 with (fail)
  rw [← HW.out, ← HG.out]
  go_upto_region 2 with (fail)
  go_region_held3 (fun wx => wx.cell? ⟨b, off, none⟩ = some (.slice K kn kc) ∧ wx.cell? ⟨b, off + m * 4, none⟩ = some (.slice L ln lc)) (first | assumption | exact HSX.out _ hB0 | exact HS0.out _ (below_put4 (BW.out.trans ((by assumption : Below W.heap.size W _).mono BW.out.size)) HGW.out _ _ _ _))
    (first | (go_at_call 104; with_reducible refine (HK.out _ (by assumption)).mono ?_; intro e wk hq; obtain ⟨C, cn, cc, h1, oC, bC⟩ := Made.out hq; subst h1; have bC' := belowT (by assumption : Below W.heap.size W _) bC; obtain ⟨p0, p1, p2, p3, p4, p5, p6, p7⟩ := (ZLC.out _ bC').c4; have hS1 := HSX.out _ bC')
           | (go_at_call 104; with_reducible refine (HV.out _ (by assumption)).mono ?_; intro e wv hq; obtain ⟨D, dn, dc, h1, oD, bD⟩ := Made.out hq; subst h1; have bD' := belowT (by assumption : Below W.heap.size W _) bD; obtain ⟨t0, t1, t2, t3, t4, t5, t6, t7⟩ := (ZLC.out _ bD').c4; have hS2 := HSX.out _ bD'))
  all_goals first
    | (have hg0 := HGW.out
       have hs1 : W.heap.size ≤ wk.heap.size := bC'.size
       have HCC : Hid (Own 5 wv W.heap.size C cn cc x'.key) := Lib.hid (oC.below bD)
       have HDD : Hid (Own 5 wv W.heap.size D dn dc y'.key) := Lib.hid (oD.mono hs1)
       have HBB : Hid (Below W.heap.size W wv) := Lib.hid bD'
       have HFIN : Hid (∀ X, X = ((((wv.setCell ⟨g, 0, none⟩ (.slice C cn cc)).setCell ⟨g, 1, none⟩ (.slice D dn dc)).setCell ⟨g, 2, none⟩ (.int .i64 (n : Int))).setCell ⟨g, 3, none⟩ (.int .i64 (fn : Int))) → Cl X g #[.slice C cn cc, .slice D dn dc, .int .i64 (n : Int), .int .i64 (fn : Int)] 38 ∧ RetAb w x'.key y'.key n fn (.returned (.agg #[.slice C cn cc, .slice D dn dc, .int .i64 (n : Int), .int .i64 (fn : Int)])) X) := Lib.hid (fun X hX => by
         rw [hX]
         exact ⟨(ZLC.out _ HBB.out).put4 rfl _ _ _ _, C, cn, cc, D, dn, dc, rfl, (own_put4 HCC.out sW _ _ _ _).mono (by have := BW.out.size; omega), (own_put4 HDD.out sW _ _ _ _).mono (by have := BW.out.size; omega), below_put4 (BW.out.trans (HBB.out.mono BW.out.size)) hg0 _ _ _ _⟩)
       clear oC bC bC' oD bD bD' p0 p1 p2 p3 p4 p5 p6 p7 t0 t1 t2 t3 t4 t5 t6 t7 hS1 hS2
       go_wp2_with fail
       obtain ⟨X, hX⟩ : ∃ X, X = ((((wv.setCell ⟨g, 0, none⟩ (.slice C cn cc)).setCell ⟨g, 1, none⟩ (.slice D dn dc)).setCell ⟨g, 2, none⟩ (.int .i64 (n : Int))).setCell ⟨g, 3, none⟩ (.int .i64 (fn : Int))) := ⟨_, rfl⟩
       obtain ⟨zX, hret⟩ := HFIN.out X hX
       rw [← hX]
       obtain ⟨x0, x1, x2, x3, _⟩ := zX.c4
       refine bodyPost_ret (v := .agg #[.slice C cn cc, .slice D dn dc, .int .i64 (n : Int), .int .i64 (fn : Int)]) (by simp [results, Tryz.results57, go_sem, x0, x1, x2, x3]; try rfl) rfl hret)
    | (have hg0 := HGW.out
       have hs1 : W.heap.size ≤ wv.heap.size := bD'.size
       have HCC : Hid (Own 5 wk W.heap.size C cn cc x'.key) := Lib.hid (oC.mono hs1)
       have HDD : Hid (Own 5 wk W.heap.size D dn dc y'.key) := Lib.hid (oD.below bC)
       have HBB : Hid (Below W.heap.size W wk) := Lib.hid bC'
       have HFIN : Hid (∀ X, X = ((((wk.setCell ⟨g, 0, none⟩ (.slice C cn cc)).setCell ⟨g, 1, none⟩ (.slice D dn dc)).setCell ⟨g, 2, none⟩ (.int .i64 (n : Int))).setCell ⟨g, 3, none⟩ (.int .i64 (fn : Int))) → Cl X g #[.slice C cn cc, .slice D dn dc, .int .i64 (n : Int), .int .i64 (fn : Int)] 38 ∧ RetAb w x'.key y'.key n fn (.returned (.agg #[.slice C cn cc, .slice D dn dc, .int .i64 (n : Int), .int .i64 (fn : Int)])) X) := Lib.hid (fun X hX => by
         rw [hX]
         exact ⟨(ZLC.out _ HBB.out).put4 rfl _ _ _ _, C, cn, cc, D, dn, dc, rfl, (own_put4 HCC.out sW _ _ _ _).mono (by have := BW.out.size; omega), (own_put4 HDD.out sW _ _ _ _).mono (by have := BW.out.size; omega), below_put4 (BW.out.trans (HBB.out.mono BW.out.size)) hg0 _ _ _ _⟩)
       clear oC bC bC' oD bD bD' p0 p1 p2 p3 p4 p5 p6 p7 t0 t1 t2 t3 t4 t5 t6 t7 hS1 hS2
       go_wp2_with fail
       obtain ⟨X, hX⟩ : ∃ X, X = ((((wk.setCell ⟨g, 0, none⟩ (.slice C cn cc)).setCell ⟨g, 1, none⟩ (.slice D dn dc)).setCell ⟨g, 2, none⟩ (.int .i64 (n : Int))).setCell ⟨g, 3, none⟩ (.int .i64 (fn : Int))) := ⟨_, rfl⟩
       obtain ⟨zX, hret⟩ := HFIN.out X hX
       rw [← hX]
       obtain ⟨x0, x1, x2, x3, _⟩ := zX.c4
       refine bodyPost_ret (v := .agg #[.slice C cn cc, .slice D dn dc, .int .i64 (n : Int), .int .i64 (fn : Int)]) (by simp [results, Tryz.results57, go_sem, x0, x1, x2, x3]; try rfl) rfl hret)
end Go.Proofs.YtlnpicfkcahdbaaGreat
namespace Go.Proofs.YtlnpicfkcahdbaaGreat
open Go Go.RowKit

theorem cutS_inv (size : Int) (es : List En) : ∀ i, i ≤ es.length → (cutS size es i).1.flatten = es.take (cutS size es i).2.1 ∧ (cutS size es i).2.1 ≤ i ∧ (cutS size es i).1.length ≤ (cutS size es i).2.1
  | 0, _ => ⟨rfl, Nat.le_refl _, Nat.le_refl _⟩
  | i + 1, h => by
    obtain ⟨h1, h2, h3⟩ := cutS_inv size es i (by omega)
    obtain ⟨x, hx⟩ : ∃ x, es[i]? = some x := ⟨_, List.getElem?_eq_getElem (by omega)⟩
    obtain ⟨g, b, s, hg⟩ : ∃ g b s, cutS size es i = (g, b, s) := ⟨_, _, _, rfl⟩
    rw [hg] at h1 h2 h3
    by_cases hs : size ≤ ((s + wE x : Nat) : Int)
    · rw [cutS_yes hg hx hs]
      simp only at h1 h2 h3 ⊢
      refine ⟨?_, Nat.le_refl _, by rw [List.length_append, List.length_singleton]; omega⟩
      rw [List.flatten_append, h1]
      simp only [List.flatten_cons, List.flatten_nil, List.append_nil]
      have : es.take b = (es.take (i + 1)).take b := by rw [List.take_take, Nat.min_eq_left (by omega)]
      rw [this, List.take_append_drop]
    · rw [cutS_no hg hx hs]
      exact ⟨h1, by simp only at h2 ⊢; omega, h3⟩
theorem grpE_flat (size : Int) (es : List En) : (grpE size es).flatten = es := by
  obtain ⟨h1, h2, _⟩ := cutS_inv size es es.length (Nat.le_refl _)
  unfold grpE
  split
  · rw [List.flatten_append, h1]
    simp
  · rw [h1, List.take_of_length_le (by omega)]
theorem grpE_len (size : Int) (es : List En) : (grpE size es).length ≤ es.length := by
  obtain ⟨h1, h2, h3⟩ := cutS_inv size es es.length (Nat.le_refl _)
  unfold grpE
  split
  · rw [List.length_append, List.length_singleton]; omega
  · omega
theorem grpE_keys (size : Int) (es : List En) : keysL (grpE size es) = es.map (·.key) := by unfold keysL; rw [grpE_flat]

/-- What Bytes answers: bytes and an error. -/
def bytesT (size : Int) (es : List En) : List UInt8 × Int :=
  if size < 1 then ([], 1) else if checkE es ≠ 0 then ([], checkE es) else if es.length = 0 ∨ ordE es = false then ([], 3) else sealT (grpE size es)
/-- What it tells of them. -/
def metaT (es : List En) (z : List UInt8 × Int) : List UInt8 × List UInt8 × Nat × Nat :=
  if z.2 ≠ 0 then ([], [], 0, 0) else ((es[0]?.map (·.key)).getD [], (es[es.length - 1]?.map (·.key)).getD [], es.length, z.1.length)
def RetBy (w : World) (z : List UInt8 × Int) (mt : List UInt8 × List UInt8 × Nat × Nat) (e : Ending) (w' : World) : Prop :=
  ∃ A c K kn kc L ln lc, e = .returned (.tuple #[.slice A z.1.length c, .agg #[.slice K kn kc, .slice L ln lc, .int .i64 (mt.2.2.1 : Int), .int .i64 (mt.2.2.2 : Int)], .int .i64 z.2]) ∧ Own 5 w' w.heap.size A z.1.length c z.1 ∧ Own 5 w' w.heap.size K kn kc mt.1 ∧ Own 5 w' w.heap.size L ln lc mt.2.1 ∧ Below w.heap.size w w'
theorem RetBy.no {w w' : World} {z : List UInt8 × Int} {es : List En} {k : Int} (hz : z = ([], k)) (hk : k ≠ 0) (hb : Below w.heap.size w w') : RetBy w z (metaT es z) (.returned (.tuple #[.slice none 0 0, .agg #[.slice none 0 0, .slice none 0 0, .int .i64 0, .int .i64 0], .int .i64 k])) w' := by
  subst hz
  unfold metaT
  rw [if_pos hk]
  exact ⟨none, 0, none, 0, 0, none, 0, 0, rfl, Own.nil _ _ _, Own.nil _ _ _, Own.nil _ _ _, hb⟩
/-- The error's end. -/
theorem by_fin {w wk : World} {g : Nat} {es : List En} {z : List UInt8 × Int} {k : Int} {us : Array Value} (hz : z = ([], k)) (hk : k ≠ 0) (zk : Cl wk g us 38) (hus : us.size = 4) (hg : w.heap.size ≤ g) (hb : Below w.heap.size w wk) :
    ∀ X, X = ((((wk.setCell ⟨g, 0, none⟩ (.slice none 0 0)).setCell ⟨g, 1, none⟩ (.slice none 0 0)).setCell ⟨g, 2, none⟩ (.int .i64 0)).setCell ⟨g, 3, none⟩ (.int .i64 0)) → Cl X g #[.slice none 0 0, .slice none 0 0, .int .i64 0, .int .i64 0] 38 ∧ RetBy w z (metaT es z) (.returned (.tuple #[.slice none 0 0, .agg #[.slice none 0 0, .slice none 0 0, .int .i64 0, .int .i64 0], .int .i64 k])) X := fun X hX => by
  rw [hX]
  exact ⟨zk.put4 hus _ _ _ _, RetBy.no hz hk (below_put4 hb hg _ _ _ _)⟩

set_option maxRecDepth 100000 in
set_option maxHeartbeats 16000000 in
theorem bytes_any {w : World} {A : Option Addr} {n c : Nat} {es : List En} (size : Int) (h : REs w A n es) (hn : n ≤ 200) (hc : n ≤ c) (ht : totE es ≤ 1099511627776) :
    Calls Tryz.prog 46 #[.int .i64 size, .slice A n c] w (RetBy w (bytesT size es) (metaT es (bytesT size es))) := by
  obtain ⟨W, hW⟩ : ∃ W, W = w.alloc (.cells #[.slice none 0 0, .slice none 0 0, .int .i64 0, .int .i64 0] 38) := ⟨_, rfl⟩
  obtain ⟨g, hg⟩ : ∃ g, g = w.heap.size := ⟨_, rfl⟩
  have bW : Below w.heap.size w W := by rw [hW]; exact (Below.refl _ _).alloc (Nat.le_refl _) _
  have zW : Cl W g #[.slice none 0 0, .slice none 0 0, .int .i64 0, .int .i64 0] 38 := by rw [hW, hg]; exact Cl.new _ _ _
  have ZLC : Hid (∀ wx, Below W.heap.size W wx → Cl wx g #[.slice none 0 0, .slice none 0 0, .int .i64 0, .int .i64 0] 38) := Lib.hid (fun wx hb => zW.below hb)
  have HGW := Lib.hid (show w.heap.size ≤ g by omega)
  have BW := Lib.hid bW
  have HW := Lib.hid hW
  have HG := Lib.hid hg
  have HR := Lib.hid h
  have HL := Lib.hid h.len
  have HT := Lib.hid ht
  have sW : g < W.heap.size := zW.lt
  obtain ⟨z, hz⟩ : ∃ z, z = bytesT size es := ⟨_, rfl⟩
  rw [← hz]
  have HZ := Lib.hid hz
  have HCK : Hid (Calls Tryz.prog 42 #[.slice A n c] W (RetNu W (checkE es))) := Lib.hid (memCheck_any (h.below bW) (by omega))
  clear h ht hW hg bW zW hz
  go_enter Tryz.func46, Tryz.ntmps46
  go_upto_region 1 with (fail)
  rw [← HW.out, ← HG.out]
  by_cases hs1 : size < 1
  · have HF := Lib.hid (by_fin (es := es) (z := z) (k := 1) (by rw [HZ.out]; unfold bytesT; rw [if_pos hs1]) (by decide) (ZLC.out W (Below.refl _ _)) rfl HGW.out BW.out)
    obtain ⟨y0, y1, y2, y3, f0, f1, f2, f3⟩ := (ZLC.out W (Below.refl _ _)).c4
    go_wp2_with fail
    obtain ⟨X, hX⟩ : ∃ X, X = ((((W.setCell ⟨g, 0, none⟩ (.slice none 0 0)).setCell ⟨g, 1, none⟩ (.slice none 0 0)).setCell ⟨g, 2, none⟩ (.int .i64 0)).setCell ⟨g, 3, none⟩ (.int .i64 0)) := ⟨_, rfl⟩
    obtain ⟨zX, hret⟩ := HF.out X hX
    rw [← hX]
    obtain ⟨x0, x1, x2, x3, _⟩ := zX.c4
    refine bodyPost_ret (v := .tuple #[.slice none 0 0, .agg #[.slice none 0 0, .slice none 0 0, .int .i64 0, .int .i64 0], .int .i64 1]) (by simp [results, Tryz.results46, go_sem, x0, x1, x2, x3]; try rfl) rfl hret
  · go_wp2_with fail
    with_reducible refine HCK.out.mono ?_
    rintro e w1 ⟨rfl, b1⟩
    have B1 := Lib.hid b1
    have BW1 := Lib.hid (BW.out.trans (b1.mono BW.out.size))
    clear b1 HCK
    obtain ⟨ck, hck⟩ : ∃ ck, ck = checkE es := ⟨_, rfl⟩
    have HCKE := Lib.hid hck
    rw [← hck]
    by_cases hc0 : ck = 0
    · have HR1 := Lib.hid (HR.out.below BW1.out)
      subst hc0
      by_cases hn0 : n = 0
      · have hZ3 : z = ([], 3) := by
          rw [HZ.out]
          unfold bytesT
          rw [if_neg (by omega), ← HCKE.out, if_neg (by simp), if_pos (.inl (by rw [HL.out]; exact hn0))]
        have HZ3 := Lib.hid hZ3
        clear hZ3 hck
        subst hn0
        have HF := Lib.hid (by_fin (es := es) (z := z) (k := 3) (HZ3.out) (by decide) (ZLC.out w1 B1.out) rfl HGW.out BW1.out)
        obtain ⟨y0, y1, y2, y3, f0, f1, f2, f3⟩ := (ZLC.out w1 B1.out).c4
        go_wp2_with fail
        obtain ⟨X, hX⟩ : ∃ X, X = ((((w1.setCell ⟨g, 0, none⟩ (.slice none 0 0)).setCell ⟨g, 1, none⟩ (.slice none 0 0)).setCell ⟨g, 2, none⟩ (.int .i64 0)).setCell ⟨g, 3, none⟩ (.int .i64 0)) := ⟨_, rfl⟩
        obtain ⟨zX, hret⟩ := HF.out X hX
        rw [← hX]
        obtain ⟨x0, x1, x2, x3, _⟩ := zX.c4
        refine bodyPost_ret (v := .tuple #[.slice none 0 0, .agg #[.slice none 0 0, .slice none 0 0, .int .i64 0, .int .i64 0], .int .i64 3]) (by simp [results, Tryz.results46, go_sem, x0, x1, x2, x3]; try rfl) rfl hret
      · have HIO := Lib.hid (tbInOrder_any (c := c) HR1.out (by omega))
        obtain ⟨oe, hoe⟩ : ∃ oe, oe = ordE es := ⟨_, rfl⟩
        rw [← hoe] at HIO
        have HOE := Lib.hid hoe
        clear hck hoe
        cases oe with
        | false =>
          have HZ3 : Hid (z = ([], 3)) := Lib.hid (by
            rw [HZ.out]
            unfold bytesT
            rw [if_neg (by omega), ← HCKE.out, if_neg (by simp), if_pos (.inr HOE.out.symm)])
          go_wp2_with fail
          with_reducible refine HIO.out.mono ?_
          intro e w2 hq
          obtain ⟨h1, b2⟩ := RetT.outD hq
          subst h1
          have B2 := Lib.hid (belowT' B1.out b2)
          have BW2 := Lib.hid (BW1.out.trans (b2.mono BW1.out.size))
          clear hq b2
          have HF := Lib.hid (by_fin (es := es) (z := z) (k := 3) (HZ3.out) (by decide) (ZLC.out w2 B2.out) rfl HGW.out BW2.out)
          obtain ⟨y0, y1, y2, y3, f0, f1, f2, f3⟩ := (ZLC.out w2 B2.out).c4
          go_wp2_with fail
          obtain ⟨X, hX⟩ : ∃ X, X = ((((w2.setCell ⟨g, 0, none⟩ (.slice none 0 0)).setCell ⟨g, 1, none⟩ (.slice none 0 0)).setCell ⟨g, 2, none⟩ (.int .i64 0)).setCell ⟨g, 3, none⟩ (.int .i64 0)) := ⟨_, rfl⟩
          obtain ⟨zX, hret⟩ := HF.out X hX
          rw [← hX]
          obtain ⟨x0, x1, x2, x3, _⟩ := zX.c4
          refine bodyPost_ret (v := .tuple #[.slice none 0 0, .agg #[.slice none 0 0, .slice none 0 0, .int .i64 0, .int .i64 0], .int .i64 3]) (by simp [results, Tryz.results46, go_sem, x0, x1, x2, x3]; try rfl) rfl hret
        | true =>
          go_wp2_with fail
          with_reducible refine HIO.out.mono ?_
          intro e w2 hq
          obtain ⟨h1, b2⟩ := RetT.outD hq
          subst h1
          have B2 := Lib.hid (belowT' B1.out b2)
          have BW2 := Lib.hid (BW1.out.trans (b2.mono BW1.out.size))
          clear hq b2
          have HCT := Lib.hid (tbCut_any (c := c) size (HR.out.below BW2.out) (by omega) hc HT.out)
          go_wp2_with fail
          with_reducible refine HCT.out.mono ?_
          intro e w3 hq
          obtain ⟨L, k, d, h1, r3, hkd, b3⟩ := RetLs.out hq
          subst h1
          have B3 := Lib.hid (belowT' B2.out b3)
          have BW3 := Lib.hid (BW2.out.trans (b3.mono BW2.out.size))
          have hk200 : k ≤ 200 := by
            have h1 := grpE_len size es
            rw [r3.1] at h1
            have := HL.out
            omega
          have hkeys := grpE_keys size es
          have HZS : Hid (z = sealT (grpE size es)) := Lib.hid (by
            rw [HZ.out]
            unfold bytesT
            rw [if_neg (by omega), ← HCKE.out, if_neg (by simp), if_neg (by rw [HL.out, ← HOE.out]; simp; exact hn0)])
          have HSL : Hid (Calls Tryz.prog 55 #[.slice L k d] w3 (RetBb w3 z)) := Lib.hid (by
            rw [HZS.out]
            refine seal_any r3 (by omega) ?_ ?_ ?_
            · rw [hkeys, List.length_map, HL.out]; omega
            · rw [hkeys, List.length_map, HL.out]; omega
            · rw [hkeys]
              intro x hx
              obtain ⟨y, hy, rfl⟩ := List.mem_map.1 hx
              have h1 := totE_mem hy
              have h2 := HT.out
              unfold wE at h1
              unfold maxLen
              omega)
          obtain ⟨zl, hzl⟩ : ∃ zl, zl = z.1.length := ⟨_, rfl⟩
          obtain ⟨zk, hzk⟩ : ∃ zk, zk = z.2 := ⟨_, rfl⟩
          have HZL := Lib.hid hzl
          have HZK := Lib.hid hzk
          clear hq r3 b3 hkeys hzl hzk
          go_wp2_with fail
          with_reducible refine HSL.out.mono ?_
          intro e w4 hq
          obtain ⟨F, fc, h1, o4, b4⟩ := hq
          rw [← HZL.out, ← HZK.out] at h1
          subst h1
          have B4 := Lib.hid (belowT' B3.out b4)
          have BW4 := Lib.hid (BW3.out.trans (b4.mono BW3.out.size))
          have O4 := Lib.hid (o4.mono B3.out.size)
          clear o4 b4
          by_cases hk0 : zk = 0
          · subst hk0
            have hle := HL.out
            obtain ⟨x, hx⟩ : ∃ x, es[0]? = some x := ⟨_, List.getElem?_eq_getElem (by omega)⟩
            obtain ⟨y, hy⟩ : ∃ y, es[n - 1]? = some y := ⟨_, List.getElem?_eq_getElem (by omega)⟩
            have hsx : ∀ u ∈ es, u.key.length ≤ 140737488355328 := fun u hu => by
              have h1 := totE_mem hu
              have h2 := HT.out
              unfold wE at h1
              omega
            have HAB := Lib.hid (about_any (F := F) (fn := zl) (fc := fc) (c := c) (HR.out.below BW4.out) (by omega) (by omega) hx hy (hsx x (List.mem_of_getElem? hx)) (hsx y (List.mem_of_getElem? hy)))
            have HMT : Hid (metaT es z = (x.key, y.key, n, zl)) := Lib.hid (by
              unfold metaT
              rw [if_neg (by rw [← HZK.out]; simp), hx, hle, hy, ← HZL.out]
              rfl)
            clear hle hx hy hsx
            go_wp2_with fail
            with_reducible refine HAB.out.mono ?_
            intro e w5 hq
            obtain ⟨K, kn, kc, L5, ln, lc, h1, o5, o6, b5⟩ := hq
            subst h1
            have B5 := Lib.hid (belowT' B4.out b5)
            have HFIN : Hid (∀ X, X = ((((w5.setCell ⟨g, 0, none⟩ (.slice K kn kc)).setCell ⟨g, 1, none⟩ (.slice L5 ln lc)).setCell ⟨g, 2, none⟩ (.int .i64 (n : Int))).setCell ⟨g, 3, none⟩ (.int .i64 (zl : Int))) → Cl X g #[.slice K kn kc, .slice L5 ln lc, .int .i64 (n : Int), .int .i64 (zl : Int)] 38 ∧ RetBy w z (metaT es z) (.returned (.tuple #[.slice F zl fc, .agg #[.slice K kn kc, .slice L5 ln lc, .int .i64 (n : Int), .int .i64 (zl : Int)], .int .i64 0])) X) := Lib.hid (fun X hX => by
              have hs4 := B4.out.size
              have hsw := BW.out.size
              rw [hX, HMT.out]
              refine ⟨(ZLC.out _ B5.out).put4 rfl _ _ _ _, F, fc, K, kn, kc, L5, ln, lc, ?_, ?_, ?_, ?_, ?_⟩
              · rw [← HZL.out, ← HZK.out]
              · exact (own_put4 (O4.out.below b5) sW _ _ _ _).mono hsw
              · exact (own_put4 (o5.mono hs4) sW _ _ _ _).mono hsw
              · exact (own_put4 (o6.mono hs4) sW _ _ _ _).mono hsw
              · exact below_put4 (BW.out.trans (B5.out.mono hsw)) HGW.out _ _ _ _)
            obtain ⟨y0, y1, y2, y3, f0, f1, f2, f3⟩ := (ZLC.out w5 B5.out).c4
            clear o5 o6 b5
            go_wp2_with fail
            obtain ⟨X, hX⟩ : ∃ X, X = ((((w5.setCell ⟨g, 0, none⟩ (.slice K kn kc)).setCell ⟨g, 1, none⟩ (.slice L5 ln lc)).setCell ⟨g, 2, none⟩ (.int .i64 (n : Int))).setCell ⟨g, 3, none⟩ (.int .i64 (zl : Int))) := ⟨_, rfl⟩
            obtain ⟨zX, hret⟩ := HFIN.out X hX
            rw [← hX]
            obtain ⟨x0, x1, x2, x3, _⟩ := zX.c4
            refine bodyPost_ret (v := .tuple #[.slice F zl fc, .agg #[.slice K kn kc, .slice L5 ln lc, .int .i64 (n : Int), .int .i64 (zl : Int)], .int .i64 0]) (by simp [results, Tryz.results46, go_sem, x0, x1, x2, x3]; try rfl) rfl hret
          · have HZ4 : Hid (z = ([], zk)) := Lib.hid (by
              have h1 := HZK.out
              rw [HZS.out] at h1
              have h2 : (sealT (grpE size es)).1 = [] := by
                unfold sealT at h1 ⊢
                split
                · rfl
                · next h3 =>
                  rw [if_neg h3] at h1
                  unfold sealG at h1 ⊢
                  split
                  · rfl
                  · next h4 => rw [if_neg h4] at h1; exact absurd h1 hk0
              rw [HZS.out, h1, ← h2])
            have HF := Lib.hid (by_fin (es := es) (z := z) (k := zk) (HZ4.out) (hk0) (ZLC.out w4 B4.out) rfl HGW.out BW4.out)
            obtain ⟨y0, y1, y2, y3, f0, f1, f2, f3⟩ := (ZLC.out w4 B4.out).c4
            go_wp2_with fail
            obtain ⟨X, hX⟩ : ∃ X, X = ((((w4.setCell ⟨g, 0, none⟩ (.slice none 0 0)).setCell ⟨g, 1, none⟩ (.slice none 0 0)).setCell ⟨g, 2, none⟩ (.int .i64 0)).setCell ⟨g, 3, none⟩ (.int .i64 0)) := ⟨_, rfl⟩
            obtain ⟨zX, hret⟩ := HF.out X hX
            rw [← hX]
            obtain ⟨x0, x1, x2, x3, _⟩ := zX.c4
            refine bodyPost_ret (v := .tuple #[.slice none 0 0, .agg #[.slice none 0 0, .slice none 0 0, .int .i64 0, .int .i64 0], .int .i64 zk]) (by simp [results, Tryz.results46, go_sem, x0, x1, x2, x3]; try rfl) rfl hret
    · have HZC : Hid (z = ([], ck)) := Lib.hid (by
        rw [HZ.out]
        unfold bytesT
        rw [if_neg (by omega), ← HCKE.out, if_pos hc0])
      clear hck
      have HF := Lib.hid (by_fin (es := es) (z := z) (k := ck) (HZC.out) (hc0) (ZLC.out w1 B1.out) rfl HGW.out BW1.out)
      obtain ⟨y0, y1, y2, y3, f0, f1, f2, f3⟩ := (ZLC.out w1 B1.out).c4
      go_wp2_with fail
      obtain ⟨X, hX⟩ : ∃ X, X = ((((w1.setCell ⟨g, 0, none⟩ (.slice none 0 0)).setCell ⟨g, 1, none⟩ (.slice none 0 0)).setCell ⟨g, 2, none⟩ (.int .i64 0)).setCell ⟨g, 3, none⟩ (.int .i64 0)) := ⟨_, rfl⟩
      obtain ⟨zX, hret⟩ := HF.out X hX
      rw [← hX]
      obtain ⟨x0, x1, x2, x3, _⟩ := zX.c4
      refine bodyPost_ret (v := .tuple #[.slice none 0 0, .agg #[.slice none 0 0, .slice none 0 0, .int .i64 0, .int .i64 0], .int .i64 ck]) (by simp [results, Tryz.results46, go_sem, x0, x1, x2, x3]; try rfl) rfl hret
end Go.Proofs.YtlnpicfkcahdbaaGreat
namespace Go.Proofs.YtlnpicfkcahdbaaGreat
open Go Go.RowKit

/-- The keys found so far. -/
def KyS (w0 : World) (kss : List (List UInt8)) (G : Option Addr) (m d : Nat) (wr : World) : Prop :=
  ∃ kvs, OwnV 28 wr w0.heap.size G m d kvs ∧ KyO w0 kss kvs ∧ Below w0.heap.size w0 wr
theorem KyS.bel {w0 wr : World} {kss : List (List UInt8)} {G : Option Addr} {m d : Nat} (h : KyS w0 kss G m d wr) : Below w0.heap.size w0 wr := by
  obtain ⟨_, _, _, h⟩ := h
  exact h
theorem KyS.below {w0 wr wx : World} {kss : List (List UInt8)} {G : Option Addr} {m d : Nat} (h : KyS w0 kss G m d wr) (hb : Below wr.heap.size wr wx) : KyS w0 kss G m d wx := by
  obtain ⟨kvs, h1, h2, h3⟩ := h
  exact ⟨kvs, h1.below hb, h2, h3.trans (hb.mono h3.size)⟩
theorem KyS.rdl {w0 wr : World} {kss : List (List UInt8)} {G : Option Addr} {m d : Nat} (h : KyS w0 kss G m d wr) : RdL wr G m kss := by
  obtain ⟨kvs, h1, h2, h3⟩ := h
  exact h1.rd.rdl (by rw [← h2.1, h1.len]) (fun i v x hv hx => (h2.2 i v x hv hx).below h3)
theorem KyS.len {w0 wr : World} {kss : List (List UInt8)} {G : Option Addr} {m d : Nat} (h : KyS w0 kss G m d wr) : kss.length = m := by
  obtain ⟨kvs, h1, h2, h3⟩ := h
  rw [← h2.1, h1.len]
end Go.Proofs.YtlnpicfkcahdbaaGreat
namespace Go.Proofs.YtlnpicfkcahdbaaGreat
open Go Go.RowKit

theorem flatE_snoc {ls : List (List En)} {k : Nat} {es : List En} (h : ls[k]? = some es) : (ls.take (k + 1)).flatten = (ls.take k).flatten ++ es := by
  rw [List.take_add_one, h]
  simp
theorem flatE_le (ls : List (List En)) (k : Nat) : (ls.take k).flatten.length ≤ ls.flatten.length := by
  conv => rhs; rw [← List.take_append_drop k ls]
  rw [List.flatten_append, List.length_append]
  omega
/-- Entries that can be read. -/
def RetEl (w : World) (es : List En) (e : Ending) (w' : World) : Prop := ∃ L m d, e = .returned (.slice L m d) ∧ REs w' L m es ∧ m ≤ d ∧ Below w.heap.size w w'
/-- Entries put behind one another so far. -/
def NwS (w0 : World) (L : Option Addr) (m d : Nat) (es : List En) (wr : World) : Prop :=
  ∃ vs, OwnE wr w0.heap.size L m d vs ∧ EVs w0 es vs ∧ es.length = m ∧ Below w0.heap.size w0 wr

set_option maxRecDepth 100000 in
set_option maxHeartbeats 4000000 in
theorem growNilE_any (n : Nat) (w : World) (hn : n ≤ 1099511627776) : Calls Tryz.prog 119 #[.slice none 0 0, .int .i64 (n : Int)] w fun e w' => ∃ A c, e = .returned (.slice A 0 c) ∧ OwnE w' w.heap.size A 0 c [] ∧ Below w.heap.size w w' := by
  obtain ⟨i0, hi0, z1, z2, z3⟩ := info_parts info_ent
  by_cases h0 : n = 0
  · subst h0
    go_enter Tryz.func119, Tryz.ntmps119
    go_wp2_with fail
    go_ret
    exact ⟨none, 0, rfl, OwnE.nil _ _, Below.refl _ _⟩
  · have hpos : 0 < n := by omega
    have hpi : ¬ ((n : Int) ≤ 0) := by omega
    have hpi2 : (0 : Int) < (n : Int) := by omega
    have hap := Lib.run_append_nil_zeros (P := Tryz.prog) w 22 3 22 31 i0 _ .i64 .i64 Tryz.underlying22 Tryz.underlying3 hi0 z1 n hpos (by rw [z2]; omega) (by omega) (by rw [z3]; omega)
    have hcap := grownCap_ge w n 0 31
    have hcm := grownCap_le_maxLen w n 0 31 (by unfold maxLen; omega)
    obtain ⟨cap, hcp⟩ : ∃ cap, cap = grownCap w n 0 31 := ⟨_, rfl⟩
    rw [← hcp] at hap hcap hcm
    obtain ⟨cells, hce⟩ : ∃ cells, cells = Builtin.zeroCells (Value.agg #[.slice none 0 0, .int .u64 0, .int .u8 0, .slice none 0 0]).cells n ++ Builtin.zeroCells (Value.agg #[.slice none 0 0, .int .u64 0, .int .u8 0, .slice none 0 0]).cells (cap - n) := ⟨_, rfl⟩
    rw [← hce] at hap
    have hcs : cells.size = cap * 4 := by
      rw [hce]
      simp [Builtin.zeroCells, Value.cells]
      omega
    have HAP := Lib.hid hap
    have HCS := Lib.hid hcs
    have hsl : ∀ w, (Instr.slice 22 (.slice (some ⟨w.heap.size, 0, none⟩) n cap) none (some (.int .i64 0)) none).run Tryz.prog w = .ok (.slice (some ⟨w.heap.size, 0, none⟩) 0 cap) w := fun w =>
      cut4_h (m := 0) Tryz.underlying22 elem4 size4 (some ⟨w.heap.size, 0, none⟩) (by omega) w
    clear hap hcs hce hcp
    go_enter Tryz.func119, Tryz.ntmps119
    go_wp2_with (at_builtin; refine Lib.wpList_append_run _ rfl _ _ _ _ rfl _ _ rfl rfl _ _ HAP.out ?_)
    go_wp2_with fail
    go_ret
    refine ⟨_, cap, rfl, ⟨rfl, .inr ⟨w.heap.size, cap, cells, rfl, Nat.le_refl _, ?_, Nat.zero_le _, hcm, HCS.out, by simp⟩⟩, ?_⟩
    · have := heap_alloc_new w.drew (.cells cells 31)
      exact this
    · exact (Below.refl _ _).drew.alloc (Nat.le_refl _) _
set_option maxRecDepth 100000 in
set_option maxHeartbeats 8000000 in
theorem concatE_any {w : World} {A : Option Addr} {n c : Nat} {ls : List (List En)} (hx : RLs w A n ls) (hn : n ≤ 1099511627776) (ht : ls.flatten.length ≤ 1099511627776) :
    Calls Tryz.prog 53 #[.slice A n c] w (RetEl w ls.flatten) := by
  have HXL := Lib.hid hx.1
  have HX := Lib.hid hx
  have HFT : Hid (∀ k, (ls.take k).flatten.length ≤ 1099511627776) := Lib.hid (fun k => by have := flatE_le ls k; omega)
  clear ht hx
  go_enter Tryz.func53, Tryz.ntmps53
  go_wp2_with fail
  go_loopw [3, 11] (fun s3 s11 wr => ∃ (k z : Nat), k ≤ n ∧ s11 = .int .i64 (k : Int) ∧ z = (ls.take k).flatten.length ∧ s3 = .int .i64 (z : Int) ∧ wr = w) (fun _ s _ => n - (intOf s).toNat)
  case atStart => exact ⟨0, 0, Nat.zero_le _, rfl, rfl, rfl, rfl⟩
  case round =>
    obtain ⟨k, z, hk, rfl, hz, rfl, rfl⟩ := hrel
    have hz2 : z ≤ 1099511627776 := by rw [hz]; exact HFT.out k
    have HZ := Lib.hid hz
    clear hz
    by_cases hlt : k < n
    · obtain ⟨b, off, hA, hbl⟩ := HX.out.pos (by omega)
      subst hA
      obtain ⟨es, B1, m1, c1, hxs, hv, hre, hmc⟩ := HX.out.at_ k hlt
      obtain ⟨z2, hz2'⟩ : ∃ z2, z2 = z + m1 := ⟨_, rfl⟩
      have hzz : z2 = (ls.take (k + 1)).flatten.length := by rw [flatE_snoc hxs, List.length_append, ← HZ.out, hre.len, hz2']
      have hz3 : z2 ≤ 1099511627776 := by rw [hzz]; exact HFT.out (k + 1)
      have e1 : IntKind.i64.wrap ((z : Int) + (m1 : Int)) = (z2 : Int) := by rw [IntWalk.i64_in _ (by omega)]; omega
      have hneg : ¬ (z2 : Int) < 0 := by omega
      have HZZ := Lib.hid hzz
      have HZ2 := Lib.hid hz2'
      clear hxs hre hzz hz2'
      go_wp2_with fail
      go_roundw
      case rel => exact ⟨k + 1, z2, by omega, by go_num, HZZ.out, by first | rfl | go_num | (rw [e1]), by first | trivial | rfl⟩
      case measure => simp [intOf]; omega
    · obtain rfl : k = n := by omega
      obtain ⟨w0, rfl⟩ : ∃ w0, w0 = wr := ⟨_, rfl⟩
      have HG := Lib.hid (growNilE_any z w0 (by omega))
      go_wp2_with fail
      with_reducible refine HG.out.mono ?_
      rintro e w1 ⟨G, gc, rfl, oG, bG⟩
      have HOG := Lib.hid (And.intro oG bG)
      clear oG bG HG
      go_wp2_with fail
      go_loopw [6, 27] (fun s6 s27 wx => ∃ (j m d : Nat) (L : Option Addr), j ≤ k ∧ s27 = .int .i64 (j : Int) ∧ s6 = .slice L m d ∧ NwS w0 L m d (ls.take j).flatten wx) (fun _ s _ => k - (intOf s).toNat)
      case atStart => exact ⟨0, 0, gc, G, Nat.zero_le _, rfl, rfl, [], HOG.out.1, rfl, rfl, HOG.out.2⟩
      case round =>
        obtain ⟨j, m, d, L, hj, rfl, rfl, hS⟩ := hrel
        obtain ⟨vs, o1, ev1, l1, b1⟩ := hS
        have hm2 : m ≤ 1099511627776 := by have := HFT.out j; omega
        have hsz := b1.size
        by_cases hjk : j < k
        · obtain ⟨b, off, hA, hbl⟩ := HX.out.pos (by omega)
          subst hA
          obtain ⟨es, B1, m1, c1, hxs, hv, hre, hmc⟩ := HX.out.at_ j hjk
          have hv2 : wr.cell? ⟨b, off + j, none⟩ = some (.slice B1 m1 c1) := (b1.cell (p := ⟨b, off + j, none⟩) hbl).trans hv
          obtain ⟨_, us, eu, ru⟩ := hre
          have hm1 : m1 ≤ 1099511627776 := by
            have h1 := HFT.out (j + 1)
            have h2 := (REs.mk eu ru (by assumption)).len
            rw [flatE_snoc hxs, List.length_append, h2] at h1
            omega
          have hel := (REs.mk eu ru (by assumption)).len
          have HFS := Lib.hid (flatE_snoc hxs)
          have HRU := Lib.hid (ru.below b1)
          have HON := Lib.hid eu.cells
          have HEU := Lib.hid eu
          have HEV := Lib.hid ev1
          have HL1 := Lib.hid l1
          have HLE := Lib.hid hel
          have BL := Lib.hid b1
          have O1 := Lib.hid o1
          clear hxs hv eu ru b1 o1 ev1 l1 hel
          go_wp2_with (at_builtin; refine wpList_app4 _ rfl _ _ 22 rfl w0.heap.size _ 64 Tryz.underlying22 info_ent rfl L m d vs rfl O1.out B1 m1 c1 us rfl HRU.out HON.out ?_ ?_ ?_ ?_)
          · omega
          · omega
          · exact hsz
          intro L2 d2 w3 o3 _ b3
          have H3 : Hid (NwS w0 L2 (m + m1) d2 (ls.take (j + 1)).flatten w3) := Lib.hid (by
            rw [HFS.out]
            exact ⟨_, o3, HEV.out.app HEU.out, by rw [List.length_append, HL1.out, HLE.out], BL.out.trans b3⟩)
          clear o3 b3
          go_wp2_with fail
          go_roundw
          case rel => exact ⟨j + 1, m + m1, d2, L2, by omega, by go_num, rfl, H3.out⟩
          case measure => simp [intOf]; omega
        · have hjk2 : ls.take j = ls := List.take_of_length_le (by have := HXL.out; omega)
          rw [hjk2] at ev1 l1
          have HF : Hid (RetEl w0 ls.flatten (.returned (.slice L m d)) wr) := Lib.hid ⟨L, m, d, rfl, REs.mk (ev1.below b1) o1.rd l1, o1.cap.1, b1⟩
          clear o1 ev1 l1 b1 hjk2
          go_wp2_with fail
          go_ret
          exact HF.out
end Go.Proofs.YtlnpicfkcahdbaaGreat
namespace Go.Proofs.YtlnpicfkcahdbaaGreat
open Go Go.RowKit

/-- The groups of a file's blocks, if all are blocks with entries. -/
def blksT (bs : List (List UInt8)) : List (List En) × Int := if bs.all (fun b => decide ((decB b).2 = 0) && decide ((decB b).1 ≠ [])) then (bs.map (fun b => (decB b).1), 0) else ([], 3)
/-- What unseal answers. -/
def unT (xs : List UInt8) : List (List En) × Int :=
  if (openG xs ((0 : Nat) : Int)).2.2 ≠ 0 then ([], (openG xs ((0 : Nat) : Int)).2.2)
  else if (parts (openG xs ((0 : Nat) : Int)).1).2 ≠ 0 then ([], 3)
  else match (parts (openG xs ((0 : Nat) : Int)).1).1 with
    | [p, _] => if (parts p).2 ≠ 0 then ([], 3) else blksT (parts p).1
    | _ => ([], 3)
/-- Groups in memory of their own. -/
def LsU (base : Nat) (w : World) : List (List En) → List Value → Prop
  | [], vs => vs = []
  | es :: ls, vs => ∃ B m c evs r, vs = .slice B m c :: r ∧ OwnE w base B m c evs ∧ EOs base w es evs ∧ es.length = m ∧ LsU base w ls r
theorem LsU.below {base : Nat} {w w' : World} (hb : Below w.heap.size w w') : ∀ {ls : List (List En)} {vs : List Value}, LsU base w ls vs → LsU base w' ls vs
  | [], _, h => h
  | _ :: _, _, ⟨B, m, c, evs, r, e, h1, h2, h3, h4⟩ => ⟨B, m, c, evs, r, e, h1.below hb, h2.below hb, h3, LsU.below hb h4⟩
theorem LsU.kept {base b1 n d : Nat} {w w' : World} {L : Option Addr} {us : List Value} (hl : OwnV 22 w b1 L n d us) (hg : w.grownBy w' (blk L)) : ∀ {ls : List (List En)} {vs : List Value}, LsU base w ls vs → LsU base w' ls vs
  | [], _, h => h
  | _ :: _, _, ⟨B, m, c, evs, r, e, h1, h2, h3, h4⟩ => by
    have hd := row_ne hl h1 (by decide)
    exact ⟨B, m, c, evs, r, e, ownE_kept h1 hg (fun b hb e => hd b e hb), h2.kept hg (eos_off hl (by decide) h2), h3, LsU.kept hl hg h4⟩
theorem LsU.snoc {base : Nat} {w : World} {es : List En} {B : Option Addr} {m c : Nat} {evs : List Value} (h1 : OwnE w base B m c evs) (h2 : EOs base w es evs) (h3 : es.length = m) : ∀ {ls : List (List En)} {vs : List Value}, LsU base w ls vs → LsU base w (ls ++ [es]) (vs ++ [.slice B m c])
  | [], _, h => by rw [h]; exact ⟨B, m, c, evs, [], rfl, h1, h2, h3, rfl⟩
  | _ :: _, _, ⟨B', m', c', evs', r, e, q1, q2, q3, q4⟩ => ⟨B', m', c', evs', _, by rw [e]; rfl, q1, q2, q3, LsU.snoc h1 h2 h3 q4⟩
theorem LsU.lsv {base : Nat} {w : World} : ∀ {ls : List (List En)} {vs : List Value}, LsU base w ls vs → LsV w ls vs
  | [], _, h => h
  | _ :: _, _, ⟨B, m, c, _, r, e, h1, h2, h3, h4⟩ => ⟨B, m, c, r, e, REs.mk h2.evs h1.rd h3, h1.cap.1, LsU.lsv h4⟩
/-- What stands in the loop over the blocks. -/
def UnS (w : World) (ls : List (List En)) (L : Option Addr) (k d : Nat) (wr : World) : Prop :=
  ∃ vs, OwnV 22 wr w.heap.size L k d vs ∧ LsU w.heap.size wr ls vs ∧ ls.length = k ∧ Below w.heap.size w wr
theorem UnS.bel {w wr : World} {ls : List (List En)} {L : Option Addr} {k d : Nat} (h : UnS w ls L k d wr) : Below w.heap.size w wr := by
  obtain ⟨vs, h1, h2, h3, h4⟩ := h
  exact h4
/-- Groups that can be read, and a kind. -/
def RetUs (w : World) (z : List (List En) × Int) (e : Ending) (w' : World) : Prop :=
  ∃ L k d, e = .returned (.tuple #[.slice L k d, .int .i64 z.2]) ∧ RLs w' L k z.1 ∧ k ≤ d ∧ Below w.heap.size w w'
theorem RetUs.no {w w' : World} {z : List (List En) × Int} {k : Int} (hz : z = ([], k)) (hb : Below w.heap.size w w') : RetUs w z (.returned (.tuple #[.slice none 0 0, .int .i64 k])) w' := by
  subst hz
  exact ⟨none, 0, 0, rfl, ⟨rfl, fun h => absurd h (by omega)⟩, Nat.le_refl _, hb⟩

set_option maxRecDepth 100000 in
set_option maxHeartbeats 16000000 in
theorem unseal_any (A : Option Addr) (n c : Nat) (xs : List UInt8) (w : World) (hx : Rd w A n xs) (hn : n ≤ 1099511627776) (hc : n ≤ c) (hnil : A = none → c = 0) :
    Calls Tryz.prog 52 #[.slice A n c] w (RetUs w (unT xs)) := by
  have HOP := Lib.hid (Open_any A n c ((0 : Nat) : Int) xs w hx hn hc hnil (by unfold I64; omega))
  have hin := (openG_in xs ((0 : Nat) : Int)).1
  obtain ⟨ins, hins⟩ : ∃ x, x = (openG xs ((0 : Nat) : Int)).1 := ⟨_, rfl⟩
  obtain ⟨nx, hnx⟩ : ∃ x, x = (openG xs ((0 : Nat) : Int)).2.1 := ⟨_, rfl⟩
  obtain ⟨ek, hek⟩ : ∃ x, x = (openG xs ((0 : Nat) : Int)).2.2 := ⟨_, rfl⟩
  have HOP2 : Hid (Calls Tryz.prog 117 #[.slice A n c, .int .i64 0] w (fun e w' => ∃ A n c, e = .returned (.tuple #[.slice A n c, .int .i64 nx, .int .i64 ek]) ∧ Own 5 w' w.heap.size A n c ins ∧ Below w.heap.size w w')) := Lib.hid (by
    have h1 := HOP.out
    refine h1.mono ?_
    rintro e w' ⟨A, n, c, h1, h2, h3⟩
    rw [hins, hnx, hek]
    exact ⟨A, n, c, h1, h2, h3⟩)
  rw [← hins] at hin
  have HIN := Lib.hid hin
  have HINS := Lib.hid hins
  have HEK := Lib.hid hek
  clear hx hins hnx hek hin HOP
  go_enter Tryz.func52, Tryz.ntmps52
  go_wp2_with fail
  with_reducible refine HOP2.out.mono ?_
  intro e w1 hq
  obtain ⟨A1, n1, c1, h1, o1, b1⟩ := hq
  subst h1
  by_cases hk0 : ek = 0
  · subst hk0
    have hn1 : n1 ≤ 1048576 := by rw [← o1.len]; exact HIN.out
    have HPA := Lib.hid (Parts_any A1 n1 c1 ins w1 o1.rd (by omega) o1.cap.1 (fun h => (o1.nil_of (by rw [h]; rfl)).2.2))
    have B1 := Lib.hid b1
    obtain ⟨ps, hps⟩ : ∃ x, x = (parts ins).1 := ⟨_, rfl⟩
    obtain ⟨pk, hpk⟩ : ∃ x, x = (parts ins).2 := ⟨_, rfl⟩
    have HPA2 : Hid (Calls Tryz.prog 85 #[.slice A1 n1 c1] w1 (fun e w' => ∃ A n c, e = .returned (.tuple #[.slice A n c, .int .i64 pk]) ∧ OwnL 28 w' w1.heap.size A n c ps ∧ Below w1.heap.size w1 w')) := Lib.hid (by
      have h1 := HPA.out
      refine h1.mono ?_
      rintro e w' ⟨A, n, c, h1, h2, h3⟩
      rw [hps, hpk]
      exact ⟨A, n, c, h1, h2, h3⟩)
    have HU : Hid (unT xs = if pk ≠ 0 then ([], 3) else match ps with
      | [p, _] => if (parts p).2 ≠ 0 then ([], 3) else blksT (parts p).1
      | _ => ([], 3)) := Lib.hid (by
      unfold unT
      rw [← HEK.out, if_neg (by simp), ← HINS.out, ← hps, ← hpk])
    have HPS := Lib.hid hps
    clear hps hpk o1 b1 HPA HOP2
    go_wp2_with fail
    with_reducible refine HPA2.out.mono ?_
    intro e w2 hq
    obtain ⟨A2, n2, c2, h1, o2, b2⟩ := hq
    subst h1
    have B2 := Lib.hid (B1.out.trans (b2.mono B1.out.size))
    have HO2 := Lib.hid o2
    have hln2 := o2.len
    by_cases hpk0 : pk = 0
    · subst hpk0
      by_cases hn2 : n2 = 2
      · subst hn2
        obtain ⟨p, q, hpq⟩ : ∃ p q, ps = [p, q] := by
          match ps, hln2 with
          | [p, q], _ => exact ⟨p, q, rfl⟩
        subst hpq
        have hrd2 := o2.rd
        obtain ⟨b, off, hAb, hbl⟩ := hrd2.pos (by omega)
        subst hAb
        obtain ⟨p', P1, pn, pc, hp', hv, rp, hpc, hpni⟩ := hrd2.at_ 0 (by omega)
        obtain rfl : p' = p := (Option.some.inj hp').symm
        rw [show off + 0 = off from rfl] at hv
        have hpl : p'.length ≤ 1048576 := Nat.le_trans (parts_len ins p' (by rw [← HPS.out]; simp)) HIN.out
        have hpn : pn ≤ 1048576 := by rw [← rp.len]; exact hpl
        have HP3 := Lib.hid (Parts_any P1 pn pc p' w2 rp (by omega) hpc hpni)
        obtain ⟨bs, hbs⟩ : ∃ x, x = (parts p').1 := ⟨_, rfl⟩
        obtain ⟨bk, hbk⟩ : ∃ x, x = (parts p').2 := ⟨_, rfl⟩
        have HP4 : Hid (Calls Tryz.prog 85 #[.slice P1 pn pc] w2 (fun e w' => ∃ A n c, e = .returned (.tuple #[.slice A n c, .int .i64 bk]) ∧ OwnL 28 w' w2.heap.size A n c bs ∧ Below w2.heap.size w2 w')) := Lib.hid (by
          have h1 := HP3.out
          refine h1.mono ?_
          rintro e w' ⟨A, n, c, h1, h2, h3⟩
          rw [hbs, hbk]
          exact ⟨A, n, c, h1, h2, h3⟩)
        have HU2 : Hid (unT xs = if bk ≠ 0 then ([], 3) else blksT bs) := Lib.hid (by
          rw [HU.out, if_neg (by simp), hbs, hbk])
        have hbc : bs.length ≤ 1048576 := by rw [hbs]; exact Nat.le_trans (parts_count p') hpl
        have hbl2 : ∀ x ∈ bs, x.length ≤ 1048576 := fun x hx => by
          rw [hbs] at hx
          exact Nat.le_trans (parts_len p' x hx) hpl
        have HBL2 := Lib.hid hbl2
        clear hln2 o2 b2 hrd2 hp' rp hpc hpni hpl hbs hbk HP3 hbl2
        go_wp2_with fail
        with_reducible refine HP4.out.mono ?_
        intro e w3 hq
        obtain ⟨A3, n3, c3, h1, o3, b3⟩ := hq
        subst h1
        have B3 := Lib.hid (B2.out.trans (b3.mono B2.out.size))
        by_cases hbk0 : bk = 0
        · subst hbk0
          have HU3 : Hid (unT xs = blksT bs) := Lib.hid (by rw [HU2.out, if_neg (by simp)])
          have HR3 := Lib.hid o3.rd
          have hn3 : n3 ≤ 1048576 := by rw [← o3.len]; exact hbc
          have HL3 := Lib.hid o3.len
          clear o3 b3 hbc hv
          go_wp2_with fail
          go_loopw [9, 46] (fun s9 s46 wr => ∃ (k d : Nat) (L : Option Addr), k ≤ n3 ∧ s46 = .int .i64 (k : Int) ∧ s9 = .slice L k d ∧ (∀ x ∈ bs.take k, (decB x).2 = 0 ∧ (decB x).1 ≠ []) ∧ UnS w3 ((bs.take k).map (fun b => (decB b).1)) L k d wr) (fun _ s _ => n3 - (intOf s).toNat)
          case atStart => exact ⟨0, 0, none, Nat.zero_le _, rfl, rfl, (fun x h => by simp at h), [], OwnV.nil _ _ _, rfl, rfl, Below.refl _ _⟩
          case round =>
            obtain ⟨k, d, L, hk, rfl, rfl, hok, hP⟩ := hrel
            have HP := Lib.hid hP
            have HB := Lib.hid hP.bel
            have HOK := Lib.hid hok
            clear hP hok
            by_cases hlt : k < n3
            · obtain ⟨b3, off3, hAb3, hbl3⟩ := HR3.out.pos (by omega)
              subst hAb3
              obtain ⟨x, X1, xn, xc, hx, hxv, rx, hxc, hxni⟩ := HR3.out.at_ k hlt
              have d0 := (HB.out.cell (p := ⟨b3, off3 + k, none⟩) hbl3).trans hxv
              have hxn : xn ≤ 1048576 := by rw [← rx.len]; exact HBL2.out x (List.mem_of_getElem? hx)
              have HDC := Lib.hid (decode_any X1 xn xc x wr (rx.below HB.out) (by omega) hxc hxni)
              have HX := Lib.hid hx
              obtain ⟨ee, hee⟩ : ∃ ee, ee = (decB x).1 := ⟨_, rfl⟩
              obtain ⟨ek, hek2⟩ : ∃ ek, ek = (decB x).2 := ⟨_, rfl⟩
              have HBAD : Hid (ek ≠ 0 ∨ ee = [] → unT xs = ([], 3)) := Lib.hid (fun h => by
                rw [HU3.out]
                unfold blksT
                refine if_neg (fun h2 => ?_)
                have h3 := List.all_eq_true.1 h2 x (List.mem_of_getElem? hx)
                simp only [Bool.and_eq_true, decide_eq_true_eq] at h3
                rw [← hee, ← hek2] at h3
                rcases h with h | h
                · exact h h3.1
                · exact h3.2 h)
              have HST : Hid (ek = 0 → ee ≠ [] → ∀ y ∈ bs.take (k + 1), (decB y).2 = 0 ∧ (decB y).1 ≠ []) := Lib.hid (fun h1 h2 y hy => by
                rw [List.take_add_one, hx] at hy
                rcases List.mem_append.1 hy with h | h
                · exact HOK.out y h
                · simp only [Option.toList_some, List.mem_singleton] at h
                  rw [h, ← hee, ← hek2]
                  exact ⟨h1, h2⟩)
              have HSN : Hid ((bs.take (k + 1)).map (fun b => (decB b).1) = (bs.take k).map (fun b => (decB b).1) ++ [ee]) := Lib.hid (by
                rw [List.take_add_one, hx, hee]
                simp)
              have HDC2 : Hid (Calls Tryz.prog 118 #[.slice X1 xn xc] wr (RetDc8 wr (ee, ek))) := Lib.hid (by rw [hee, hek2]; exact HDC.out)
              clear hx hxv rx hxc hxni HDC hee hek2
              go_wp2_with fail
              with_reducible refine HDC2.out.mono ?_
              intro e w4 hq
              rcases hq with ⟨he0, hk1, h1, b4⟩ | ⟨hk1, hlen, L4, d4, h1, hro⟩
              · simp only at h1 hk1
                subst h1
                have HF : Hid (RetUs w (unT xs) (.returned (.tuple #[.slice none 0 0, .int .i64 3])) w4) := Lib.hid (RetUs.no (HBAD.out (.inl hk1)) (B3.out.trans ((HB.out.trans (b4.mono HB.out.size)).mono B3.out.size)))
                clear b4 he0
                go_wp2_with fail
                exact bodyPost_ret (v := .tuple #[.slice none 0 0, .int .i64 3]) (by simp [results, Tryz.f52, go_sem]; try rfl) rfl HF.out
              · simp only at h1 hk1 hlen hro
                subst h1
                have b4 := hro.bel
                have BW4 := Lib.hid (B3.out.trans ((HB.out.trans (b4.mono HB.out.size)).mono B3.out.size))
                obtain ⟨m4, hm4⟩ : ∃ m4, m4 = ee.length := ⟨_, rfl⟩
                rw [← hm4] at hro hlen
                have HRO := Lib.hid hro
                have hmd := hro.cap.1
                have B4 := Lib.hid b4
                rw [← hm4]
                clear hro b4
                by_cases hm0 : m4 = 0
                · have HF : Hid (RetUs w (unT xs) (.returned (.tuple #[.slice none 0 0, .int .i64 3])) w4) := Lib.hid (RetUs.no (HBAD.out (.inr (List.eq_nil_of_length_eq_zero (by omega)))) BW4.out)
                  clear hm4
                  subst hm0
                  subst hk1
                  go_wp2_with fail
                  exact bodyPost_ret (v := .tuple #[.slice none 0 0, .int .i64 3]) (by simp [results, Tryz.f52, go_sem]; try rfl) rfl HF.out
                · have hee0 : ee ≠ [] := fun h => hm0 (by rw [hm4, h]; rfl)
                  have HOK2 := Lib.hid (HST.out hk1 hee0)
                  have t1 : ((m4 : Int) == 0) = false := by rw [beq_eq_false_iff_ne]; omega
                  have t2 : ¬ (m4 : Int) = 0 := by omega
                  subst hk1
                  obtain ⟨vs, q1, q2, q3, q4⟩ := HP.out
                  obtain ⟨W1, hW1⟩ : ∃ W1, W1 = w4.alloc (.cells #[.slice L4 m4 d4] 22) := ⟨_, rfl⟩
                  have bW1 : Below w4.heap.size w4 W1 := by rw [hW1]; exact (Below.refl _ _).alloc (Nat.le_refl _) _
                  have bwW : Below wr.heap.size wr W1 := belowT' B4.out bW1
                  have Q1 := Lib.hid (q1.below bwW)
                  have Q2 := Lib.hid (q2.below bwW)
                  have Q3 := Lib.hid q3
                  have Q4 := Lib.hid (q4.trans (bwW.mono q4.size))
                  obtain ⟨evs, g1, g2, _, g4, _, _, _⟩ := HRO.out
                  have G1 := Lib.hid ((g1.below bW1).mono (HB.out.size))
                  have G2 := Lib.hid ((g2.below bW1).mono (HB.out.size))
                  have G4 := Lib.hid g4
                  have HRD : Hid (RdV W1 (some ⟨w4.heap.size, 0, none⟩) 1 [.slice L4 m4 d4]) := Lib.hid (by rw [hW1]; exact OwnV.rd (ownV_box2 w4 22 w4.heap.size [.slice L4 m4 d4] 1 rfl (by omega) (Nat.le_refl _) _ rfl))
                  have hone : ∀ u ∈ [Value.slice L4 m4 d4], u.oneCell' = true := by intro u hu; rw [List.mem_singleton] at hu; rw [hu]; rfl
                  have HON := Lib.hid hone
                  have HW1 := Lib.hid hW1
                  obtain ⟨u1, hu1⟩ : ∃ u1, u1 = w4.heap.size := ⟨_, rfl⟩
                  rw [← hu1] at HRD
                  have HU1 := Lib.hid hu1
                  clear q1 q2 q3 q4 g1 g2 g4 hone hW1 bW1 bwW hu1 hm4 hee0 hm0
                  go_wp2_with (at_builtin; rw [← HW1.out, ← HU1.out]; refine wpList_appV W1 rfl _ _ 119 rfl w3.heap.size 22 (.slice none 0 0) 24 Tryz.underlying119 info_les rfl L k d vs rfl Q1.out (some ⟨u1, 0, none⟩) 1 1 [.slice L4 m4 d4] rfl HRD.out HON.out ?_ ?_ ?_ ?_)
                  · unfold maxLen; omega
                  · omega
                  · exact Q4.out.size
                  intro L5 d5 w5 o5 hg5 _
                  have HP5 : Hid (UnS w3 ((bs.take (k + 1)).map (fun b => (decB b).1)) L5 (k + 1) d5 w5) := Lib.hid (by
                    rw [HSN.out]
                    exact ⟨_, o5, (Q2.out.snoc G1.out G2.out G4.out).kept Q1.out hg5, by rw [List.length_append, Q3.out]; rfl, Q4.out.grown hg5 Q4.out.size (fun g hg => (OwnV.lt Q1.out g hg).1)⟩)
                  clear o5 hg5
                  go_wp2_with fail
                  go_roundw
                  case rel => exact ⟨k + 1, d5, L5, by omega, by go_num, rfl, HOK2.out, HP5.out⟩
                  case measure => simp [intOf]; omega
            · have HF : Hid (RetUs w (unT xs) (.returned (.tuple #[.slice L k d, .int .i64 0])) wr) := Lib.hid (by
                have hkt : bs.take k = bs := List.take_of_length_le (by rw [HL3.out]; omega)
                have h1 := HP.out
                have h2 := HOK.out
                rw [hkt] at h1 h2
                have hb : blksT bs = (bs.map (fun b => (decB b).1), 0) := by
                  unfold blksT
                  refine if_pos (List.all_eq_true.2 (fun x hx => ?_))
                  simp only [Bool.and_eq_true, decide_eq_true_eq]
                  exact h2 x hx
                obtain ⟨vs, q1, q2, q3, q4⟩ := h1
                rw [HU3.out, hb]
                exact ⟨L, k, d, rfl, LsV.rls q2.lsv q1.rd q3, q1.cap.1, B3.out.trans (q4.mono B3.out.size)⟩)
              go_wp2_with fail
              exact bodyPost_ret (v := .tuple #[.slice L k d, .int .i64 0]) (by simp [results, Tryz.f52, go_sem]; try rfl) rfl HF.out
        · have HF : Hid (RetUs w (unT xs) (.returned (.tuple #[.slice none 0 0, .int .i64 3])) w3) := Lib.hid (RetUs.no (by rw [HU2.out, if_pos hbk0]) B3.out)
          clear o3 b3 hbc hv
          go_wp2_with fail
          exact bodyPost_ret (v := .tuple #[.slice none 0 0, .int .i64 3]) (by simp [results, Tryz.f52, go_sem]; try rfl) rfl HF.out
      · have HF : Hid (RetUs w (unT xs) (.returned (.tuple #[.slice none 0 0, .int .i64 3])) w2) := Lib.hid (RetUs.no (by
          rw [HU.out, if_neg (by simp)]
          match ps, hln2 with
          | [], _ => rfl
          | [_], _ => rfl
          | [_, _], h => exact absurd h.symm hn2
          | _ :: _ :: _ :: _, _ => rfl) B2.out)
        have t1 : ((n2 : Int) == 2) = false := by rw [beq_eq_false_iff_ne]; omega
        have t2 : ¬ (n2 : Int) = 2 := by omega
        clear hln2 o2 b2
        go_wp2_with fail
        exact bodyPost_ret (v := .tuple #[.slice none 0 0, .int .i64 3]) (by simp [results, Tryz.f52, go_sem]; try rfl) rfl HF.out
    · have HF : Hid (RetUs w (unT xs) (.returned (.tuple #[.slice none 0 0, .int .i64 3])) w2) := Lib.hid (RetUs.no (by rw [HU.out, if_pos hpk0]) B2.out)
      clear hln2 o2 b2
      go_wp2_with fail
      exact bodyPost_ret (v := .tuple #[.slice none 0 0, .int .i64 3]) (by simp [results, Tryz.f52, go_sem]; try rfl) rfl HF.out
  · have HF : Hid (RetUs w (unT xs) (.returned (.tuple #[.slice none 0 0, .int .i64 ek])) w1) := Lib.hid (RetUs.no (by
      unfold unT
      rw [← HEK.out, if_pos hk0]) b1)
    clear o1 b1
    go_wp2_with fail
    exact bodyPost_ret (v := .tuple #[.slice none 0 0, .int .i64 ek]) (by simp [results, Tryz.f52, go_sem]; try rfl) rfl HF.out
end Go.Proofs.YtlnpicfkcahdbaaGreat
namespace Go.Proofs.YtlnpicfkcahdbaaGreat
open Go Go.RowKit

/-- What stands in the reference's loop. -/
def RfS (w0 : World) (B : Option Addr) (m d : Nat) (bss : List (List UInt8)) (L : Option Addr) (lm ld : Nat) (nes : List En) (wr : World) : Prop :=
  ∃ bvs vs, OwnV 28 wr w0.heap.size B m d bvs ∧ BlO w0.heap.size wr bss bvs ∧ OwnE wr w0.heap.size L lm ld vs ∧ EVs w0 nes vs ∧ nes.length = lm ∧ Below w0.heap.size w0 wr
section
variable {w0 wr wx : World} {B L : Option Addr} {m d lm ld : Nat} {bss : List (List UInt8)} {nes : List En}
theorem RfS.bel (h : RfS w0 B m d bss L lm ld nes wr) : Below w0.heap.size w0 wr := by
  obtain ⟨bvs, vs, h1, h2, h3, h4, h5, h6⟩ := h
  exact h6
theorem RfS.below (h : RfS w0 B m d bss L lm ld nes wr) (hb : Below wr.heap.size wr wx) : RfS w0 B m d bss L lm ld nes wx := by
  obtain ⟨bvs, vs, h1, h2, h3, h4, h5, h6⟩ := h
  exact ⟨bvs, vs, h1.below hb, h2.below hb, h3.below hb, h4, h5, h6.trans (hb.mono h6.size)⟩
theorem RfS.zero (w : World) : RfS w none 0 0 [] none 0 0 [] w :=
  ⟨[], [], OwnV.nil _ _ _, ⟨rfl, fun i v x h => by simp at h⟩, OwnE.nil _ _, rfl, rfl, Below.refl _ _⟩
theorem RfS.clear (h : RfS w0 B m d bss L lm ld nes wr) : RfS w0 B m d bss none 0 0 [] wr := by
  obtain ⟨bvs, vs, h1, h2, h3, h4, h5, h6⟩ := h
  exact ⟨bvs, [], h1, h2, OwnE.nil _ _, rfl, rfl, h6⟩
theorem RfS.res (h : RfS w0 B m d bss L lm ld nes wr) : REs wr L lm nes := by
  obtain ⟨bvs, vs, h1, h2, h3, h4, h5, h6⟩ := h
  exact REs.mk (h4.below h6) h3.rd h5
theorem RfS.len (h : RfS w0 B m d bss L lm ld nes wr) : bss.length = m := by
  obtain ⟨bvs, vs, h1, h2, h3, h4, h5, h6⟩ := h
  rw [← h2.1, h1.len]
theorem RfS.rdl (h : RfS w0 B m d bss L lm ld nes wr) : RdL wr B m bss := by
  obtain ⟨bvs, vs, h1, h2, h3, h4, h5, h6⟩ := h
  exact h2.rdl h1.rd
theorem RfS.addB {bvs vs : List Value} (h1 : OwnV 28 wr w0.heap.size B m d bvs) (h2 : BlO w0.heap.size wr bss bvs) (h3 : OwnE wr w0.heap.size L lm ld vs) (h4 : EVs w0 nes vs) (h5 : nes.length = lm) (h6 : Below w0.heap.size w0 wr)
    {A : Option Addr} {n c : Nat} {x : List UInt8} (ho : Own 5 wr w0.heap.size A n c x) {B' : Option Addr} {m' d' : Nat} (k1 : OwnV 28 wx w0.heap.size B' m' d' (bvs ++ [.slice A n c])) (hg : wr.grownBy wx (blk B)) : RfS w0 B' m' d' (bss ++ [x]) L lm ld nes wx := by
  have hd := row_ne h1 h3 (by decide)
  exact ⟨_, vs, k1, (h2.snoc ho).kept h1 hg, ownE_kept h3 hg (fun b hb e => hd b e hb), h4, h5, h6.grown hg h6.size (fun k hk => (h1.lt k hk).1)⟩
end
end Go.Proofs.YtlnpicfkcahdbaaGreat
namespace Go.Proofs.YtlnpicfkcahdbaaGreat
open Go Go.RowKit

/-- What Open answers of a file's bytes. -/
def openT (xs : List UInt8) : List En × Int :=
  if (unT xs).2 ≠ 0 then ([], (unT xs).2)
  else if (unT xs).1.flatten.length = 0 ∨ ordE (unT xs).1.flatten = false then ([], 3)
  else if (sealT (unT xs).1).2 ≠ 0 ∨ eqB (sealT (unT xs).1).1 xs = false then ([], 3)
  else ((unT xs).1.flatten, 0)
/-- A table that was opened, or none and a kind. -/
def RetTb (w : World) (es : List En) (k : Int) (sz : Nat) (e : Ending) (w' : World) : Prop :=
  (k ≠ 0 ∧ e = .returned (.tuple #[.pointer none, .int .i64 k]) ∧ Below w.heap.size w w') ∨
  (k = 0 ∧ ∃ tb x y K kn kc F fl fc L m d, e = .returned (.tuple #[.pointer (some ⟨tb, 0, none⟩), .int .i64 0]) ∧ es[0]? = some x ∧ es[es.length - 1]? = some y ∧ Cl w' tb #[.slice K kn kc, .slice F fl fc, .int .i64 (es.length : Int), .int .i64 (sz : Int), .slice L m d] 49 ∧ Own 5 w' w.heap.size K kn kc x.key ∧ Own 5 w' w.heap.size F fl fc y.key ∧ REs w' L m es ∧ m ≤ d ∧ Below w.heap.size w w')

set_option maxRecDepth 100000 in
set_option maxHeartbeats 16000000 in
theorem open_any (p : Value) (nm : Value) {w : World} {xs : List UInt8} (hrd : Calls Tryz.prog 47 #[p, nm] w (RetRd w xs 0)) (hx : xs.length ≤ 1099511627776) (hcn : (unT xs).1.flatten.length ≤ 20000) (hcl : (unT xs).1.length ≤ 20000) (hck : ∀ x ∈ (unT xs).1.flatten, x.key.length ≤ 1099511627776) :
    Calls Tryz.prog 17 #[p, nm] w (RetTb w (openT xs).1 (openT xs).2 xs.length) := by
  have HRD := Lib.hid hrd
  have HX := Lib.hid hx
  have HCN := Lib.hid hcn
  have HCL := Lib.hid hcl
  have HCK := Lib.hid hck
  clear hrd hx hcn hcl hck
  go_enter Tryz.func17, Tryz.ntmps17
  go_wp2_with fail
  with_reducible refine HRD.out.mono ?_
  intro e w1 hq
  obtain ⟨A1, n1, c1, h1, o1, b1⟩ := hq
  subst h1
  have B1 := Lib.hid b1
  have HR1 := Lib.hid o1.rd
  have hln := o1.len
  have hn1 : n1 ≤ 1099511627776 := by rw [← hln]; exact HX.out
  have HUN := Lib.hid (unseal_any A1 n1 c1 xs w1 o1.rd hn1 o1.cap.1 (fun h => (o1.nil_of (by rw [h]; rfl)).2.2))
  have HLN := Lib.hid hln
  obtain ⟨ls, hls⟩ : ∃ x, x = (unT xs).1 := ⟨_, rfl⟩
  obtain ⟨uk, huk⟩ : ∃ x, x = (unT xs).2 := ⟨_, rfl⟩
  have HUN2 : Hid (Calls Tryz.prog 52 #[.slice A1 n1 c1] w1 (fun e w' => ∃ L k d, e = .returned (.tuple #[.slice L k d, .int .i64 uk]) ∧ RLs w' L k ls ∧ k ≤ d ∧ Below w1.heap.size w1 w')) := Lib.hid (by
    refine HUN.out.mono ?_
    rintro e w' ⟨L, k, d, h1, h2, h3, h4⟩
    rw [hls, huk]
    exact ⟨L, k, d, h1, h2, h3, h4⟩)
  have HOT : Hid (openT xs = if uk ≠ 0 then ([], uk) else if ls.flatten.length = 0 ∨ ordE ls.flatten = false then ([], 3) else if (sealT ls).2 ≠ 0 ∨ eqB (sealT ls).1 xs = false then ([], 3) else (ls.flatten, 0)) := Lib.hid (by
    rw [hls, huk]
    rfl)
  have HCN2 : Hid (ls.flatten.length ≤ 20000) := Lib.hid (by rw [hls]; exact HCN.out)
  have HCL2 : Hid (ls.length ≤ 20000) := Lib.hid (by rw [hls]; exact HCL.out)
  have HCK2 : Hid (∀ x ∈ ls.flatten, x.key.length ≤ 1099511627776) := Lib.hid (by rw [hls]; exact HCK.out)
  clear o1 b1 hls huk HUN hln HCN HCL HCK
  go_wp2_with fail
  with_reducible refine HUN2.out.mono ?_
  intro e w2 hq
  obtain ⟨L2, k2, d2, h1, r2, hkd2, b2⟩ := hq
  subst h1
  have B2 := Lib.hid (B1.out.trans (b2.mono B1.out.size))
  have BB2 := Lib.hid b2
  have HR2 := Lib.hid r2
  have hk2 : k2 ≤ 20000 := by rw [← r2.1]; exact HCL2.out
  clear b2 r2
  by_cases huk0 : uk = 0
  · subst huk0
    have HCC := Lib.hid (concatE_any (c := d2) HR2.out (by omega) (by have := HCN2.out; omega))
    obtain ⟨fl, hfl⟩ : ∃ x, x = ls.flatten := ⟨_, rfl⟩
    rw [← hfl] at HCC HOT HCN2 HCK2
    have HFL := Lib.hid hfl
    clear hfl
    go_wp2_with fail
    with_reducible refine HCC.out.mono ?_
    intro e w3 hq
    obtain ⟨L3, m3, d3, h1, r3, hmd3, b3⟩ := hq
    subst h1
    have B3 := Lib.hid (B2.out.trans (b3.mono B2.out.size))
    have BB3 := Lib.hid b3
    have HR3 := Lib.hid r3
    have hm3 : m3 ≤ 20000 := by rw [← r3.len]; exact HCN2.out
    have HL3 := Lib.hid r3.len
    clear b3 r3
    by_cases hm0 : m3 = 0
    · have HF : Hid (RetTb w (openT xs).1 (openT xs).2 xs.length (.returned (.tuple #[.pointer none, .int .i64 3])) w3) := Lib.hid (.inl (by
        rw [HOT.out, if_neg (by simp), if_pos (.inl (by rw [HL3.out]; exact hm0))]
        exact ⟨by decide, rfl, B3.out⟩))
      subst hm0
      go_wp2_with fail
      exact bodyPost_ret (v := .tuple #[.pointer none, .int .i64 3]) (by simp [results, Tryz.f17, go_sem]; try rfl) rfl HF.out
    · have HIO := Lib.hid (tbInOrder_any (c := d3) HR3.out (by omega))
      obtain ⟨oe, hoe⟩ : ∃ oe, oe = ordE fl := ⟨_, rfl⟩
      rw [← hoe] at HIO
      have HOE := Lib.hid hoe
      have tn : ((m3 : Int) == 0) = false := by rw [beq_eq_false_iff_ne]; omega
      clear hoe
      cases oe with
      | false =>
        go_wp2_with fail
        with_reducible refine HIO.out.mono ?_
        intro e w4 hq
        obtain ⟨h1, b4⟩ := RetT.outD hq
        subst h1
        have HF : Hid (RetTb w (openT xs).1 (openT xs).2 xs.length (.returned (.tuple #[.pointer none, .int .i64 3])) w4) := Lib.hid (.inl (by
          rw [HOT.out, if_neg (by simp), if_pos (.inr HOE.out.symm)]
          exact ⟨by decide, rfl, B3.out.trans (b4.mono B3.out.size)⟩))
        clear hq b4
        go_wp2_with fail
        exact bodyPost_ret (v := .tuple #[.pointer none, .int .i64 3]) (by simp [results, Tryz.f17, go_sem]; try rfl) rfl HF.out
      | true =>
        go_wp2_with fail
        with_reducible refine HIO.out.mono ?_
        intro e w4 hq
        obtain ⟨h1, b4⟩ := RetT.outD hq
        subst h1
        have B4 := Lib.hid (B3.out.trans (b4.mono B3.out.size))
        have BB4 := Lib.hid (BB3.out.trans (b4.mono BB3.out.size))
        have BB34 := Lib.hid b4
        have hkf : keysL ls = fl.map (·.key) := by unfold keysL; rw [HFL.out]
        have HSL := Lib.hid (seal_any (c := d2) (HR2.out.below BB4.out) hk2 (by rw [hkf, List.length_map, HL3.out]; omega) (by rw [hkf, List.length_map, HL3.out]; exact hm3) (fun x hx => by
          rw [hkf] at hx
          obtain ⟨y, hy, rfl⟩ := List.mem_map.1 hx
          have := HCK2.out y hy
          unfold maxLen
          omega))
        obtain ⟨sl, hsl⟩ : ∃ x, x = (sealT ls).1 := ⟨_, rfl⟩
        obtain ⟨sk, hsk⟩ : ∃ x, x = (sealT ls).2 := ⟨_, rfl⟩
        obtain ⟨sn, hsn⟩ : ∃ x, x = sl.length := ⟨_, rfl⟩
        have HSL2 : Hid (Calls Tryz.prog 55 #[.slice L2 k2 d2] w4 (fun e w' => ∃ A c, e = .returned (.tuple #[.slice A sn c, .int .i64 sk]) ∧ Own 5 w' w4.heap.size A sn c sl ∧ Below w4.heap.size w4 w')) := Lib.hid (by
          refine HSL.out.mono ?_
          rintro e w' ⟨A, c, h1, h2, h3⟩
          rw [hsn, hsl, hsk]
          exact ⟨A, c, h1, h2, h3⟩)
        rw [← hsl, ← hsk] at HOT
        clear hq b4 hkf HSL hsl hsk hsn
        go_wp2_with fail
        with_reducible refine HSL2.out.mono ?_
        intro e w5 hq
        obtain ⟨A5, c5, h1, o5, b5⟩ := hq
        subst h1
        have B5 := Lib.hid (B4.out.trans (b5.mono B4.out.size))
        by_cases hsk0 : sk = 0
        · subst hsk0
          have bb5 : Below w1.heap.size w1 w5 := BB2.out.trans ((BB4.out.trans (b5.mono BB4.out.size)).mono BB2.out.size)
          have HEQ := Lib.hid (mgEqual_any A5 A1 sn n1 c5 c1 sl xs w5 o5.rd (HR1.out.below bb5))
          obtain ⟨ez, hez⟩ : ∃ x, x = eqB sl xs := ⟨_, rfl⟩
          rw [← hez] at HEQ HOT
          clear o5 bb5 hez
          cases ez with
          | false =>
            have HF : Hid (RetTb w (openT xs).1 (openT xs).2 xs.length (.returned (.tuple #[.pointer none, .int .i64 3])) w5) := Lib.hid (.inl (by
              rw [HOT.out, if_neg (by simp), if_neg (by rw [HL3.out, ← HOE.out]; simp; exact hm0), if_pos (.inr rfl)]
              exact ⟨by decide, rfl, B5.out⟩))
            clear b5
            go_wp2_with fail
            with_reducible refine HEQ.out.mono ?_
            intro e w6 hq
            obtain ⟨h1, h2⟩ := hq
            subst h1
            rw [h2]
            clear h2
            go_wp2_with fail
            exact bodyPost_ret (v := .tuple #[.pointer none, .int .i64 3]) (by simp [results, Tryz.f17, go_sem]; try rfl) rfl HF.out
          | true =>
            have hle := HL3.out
            obtain ⟨x, hx⟩ : ∃ x, fl[0]? = some x := ⟨_, List.getElem?_eq_getElem (by omega)⟩
            obtain ⟨y, hy⟩ : ∃ y, fl[m3 - 1]? = some y := ⟨_, List.getElem?_eq_getElem (by omega)⟩
            have HR5 := Lib.hid (HR3.out.below (BB34.out.trans (b5.mono BB34.out.size)))
            have HAB := Lib.hid (about_any (F := A1) (fn := n1) (fc := c1) (c := d3) HR5.out (by omega) (by omega) hx hy (by have := HCK2.out x (List.mem_of_getElem? hx); omega) (by have := HCK2.out y (List.mem_of_getElem? hy); omega))
            have HXX := Lib.hid hx
            have HYY := Lib.hid hy
            have HO1 : Hid ((openT xs).1 = fl ∧ (openT xs).2 = 0) := Lib.hid (by
              rw [HOT.out, if_neg (by simp), if_neg (by rw [HL3.out, ← HOE.out]; simp; exact hm0), if_neg (by simp)]
              exact ⟨rfl, rfl⟩)
            clear hle hx hy b5
            go_wp2_with fail
            with_reducible refine HEQ.out.mono ?_
            intro e w6 hq
            obtain ⟨h1, h2⟩ := hq
            subst h1
            rw [h2]
            clear h2
            go_wp2_with fail
            with_reducible refine HAB.out.mono ?_
            intro e w7 hq
            obtain ⟨K, kn, kc, F, fn, fc, h1, o7, o8, b7⟩ := hq
            subst h1
            have HF : Hid (RetTb w (openT xs).1 (openT xs).2 xs.length (.returned (.tuple #[.pointer (some ⟨w7.heap.size, 0, none⟩), .int .i64 0])) (w7.alloc (.cells #[.slice K kn kc, .slice F fn fc, .int .i64 (m3 : Int), .int .i64 (n1 : Int), .slice L3 m3 d3] 49))) := Lib.hid (.inr (by
              have bA : Below w7.heap.size w7 (w7.alloc (.cells #[.slice K kn kc, .slice F fn fc, .int .i64 (m3 : Int), .int .i64 (n1 : Int), .slice L3 m3 d3] 49)) := (Below.refl _ _).alloc (Nat.le_refl _) _
              have hs := B5.out.size
              obtain ⟨q1, q2⟩ := HO1.out
              rw [q1, q2, HL3.out, HLN.out]
              refine ⟨rfl, w7.heap.size, x, y, K, kn, kc, F, fn, fc, L3, m3, d3, rfl, HXX.out, HYY.out, Cl.new _ _ _, (o7.below bA).mono hs, (o8.below bA).mono hs, (HR5.out.below b7).below bA, hmd3, B5.out.trans ((belowT b7 bA).mono hs)⟩))
            clear o7 o8 b7
            go_wp2_with fail
            exact bodyPost_ret (v := .tuple #[.pointer (some ⟨w7.heap.size, 0, none⟩), .int .i64 0]) (by simp [results, Tryz.f17, go_sem]; try rfl) rfl HF.out
        · have HF : Hid (RetTb w (openT xs).1 (openT xs).2 xs.length (.returned (.tuple #[.pointer none, .int .i64 3])) w5) := Lib.hid (.inl (by
            rw [HOT.out, if_neg (by simp), if_neg (by rw [HL3.out, ← HOE.out]; simp; exact hm0), if_pos (.inl hsk0)]
            exact ⟨by decide, rfl, B5.out⟩))
          clear o5 b5
          go_wp2_with fail
          exact bodyPost_ret (v := .tuple #[.pointer none, .int .i64 3]) (by simp [results, Tryz.f17, go_sem]; try rfl) rfl HF.out
  · have HF : Hid (RetTb w (openT xs).1 (openT xs).2 xs.length (.returned (.tuple #[.pointer none, .int .i64 uk])) w2) := Lib.hid (.inl (by
      rw [HOT.out, if_pos huk0]
      exact ⟨huk0, rfl, B2.out⟩))
    go_wp2_with fail
    exact bodyPost_ret (v := .tuple #[.pointer none, .int .i64 uk]) (by simp [results, Tryz.f17, go_sem]; try rfl) rfl HF.out
end Go.Proofs.YtlnpicfkcahdbaaGreat
namespace Go.Proofs.YtlnpicfkcahdbaaGreat
open Go Go.RowKit

theorem frameB_len2 : ∀ l : List (List UInt8), tot l ≤ 268435456 → (frameB l).length ≤ tot l + 10 * l.length
  | [], _ => by simp [frameB]
  | x :: r, h => by
    simp only [tot] at h
    have h1 := frameB_len2 r (by omega)
    have h2 : (putU x.length).length ≤ 10 := putU_len64 x.length (by unfold B64; omega)
    simp only [frameB, tot, List.length_append, List.length_cons]
    omega
/-- Bytes and a kind. -/
def RetRy (w : World) (z : List UInt8 × Int) (e : Ending) (w' : World) : Prop :=
  ∃ A n c, e = .returned (.tuple #[.slice A n c, .int .i64 z.2]) ∧ Own 5 w' w.heap.size A n c z.1 ∧ Below w.heap.size w w'
theorem RetRy.no {w w' : World} {z : List UInt8 × Int} {k : Int} (hz : z = ([], k)) (hb : Below w.heap.size w w') : RetRy w z (.returned (.tuple #[.slice none 0 0, .int .i64 k])) w' := by
  subst hz
  exact ⟨none, 0, 0, rfl, Own.nil _ _ _, hb⟩

end Go.Proofs.YtlnpicfkcahdbaaGreat
namespace Go.Proofs.YtlnpicfkcahdbaaGreat
open Go Go.RowKit Go.Maps

section
variable {w w' : World} {p : Nat} {bl : List Nat} {room u : Nat} {fs : List FE}
end
end Go.Proofs.YtlnpicfkcahdbaaGreat
namespace Go.Proofs.YtlnpicfkcahdbaaGreat
open Go Go.RowKit

/-- A place among entries. -/
def plT (key : List UInt8) (at_ : Nat) : En := ⟨key, at_, 0, []⟩
/-- Doesn't the i-th entry stand ahead of the place? -/
def nlT (es : List En) (pl : En) (i : Nat) : Bool := match es[i]? with
  | some x => !lessE x pl
  | none => true
theorem zero_evT (w : World) (key : List UInt8) (at_ : Nat) {K : Option Addr} {kn kc : Nat} (h : Rd w K kn key) (hc : kn ≤ kc) (hnil : K = none → kc = 0) (ha : U64 at_) : EV w (plT key at_) (.slice K kn kc) (.int .u64 (at_ : Int)) (.int .u8 0) (.slice none 0 0) :=
  ⟨rfl, rfl, ha, by unfold plT; simp, ⟨K, kn, kc, rfl, h, hc, hnil⟩, ⟨none, 0, 0, rfl, Rd.nil _ _, Nat.le_refl _, fun _ => rfl⟩⟩

set_option maxRecDepth 100000 in
set_option maxHeartbeats 4000000 in
theorem tbFindC_any {w : World} {L : Option Addr} {n d : Nat} {es : List En} {bx q pb : Nat} {pl : En} {k0 k1 k2 k3 v0 v1 v2 v3 : Value} (h : REs w L n es) (hl : Cl w bx #[.pointer (some ⟨q, 0, none⟩)] 45) (hq : Cl w q #[k0, k1, k2, k3, .slice L n d] 49) (hp : Cl w pb #[v0, v1, v2, v3] 31) (hv : EV w pl v0 v1 v2 v3) (i : Nat) (hi : i < n) :
    Calls Tryz.prog 127 #[.int .i64 (i : Int), .pointer (some ⟨bx, 0, none⟩), .pointer (some ⟨pb, 0, none⟩)] w (RetT w (nlT es pl i)) := by
  obtain ⟨b, off, rfl, hbl⟩ := h.pos (by omega)
  obtain ⟨x, u0, u1, u2, u3, hx, c0, c1, c2, c3, hev⟩ := h.at_ i hi
  have hn : nlT es pl i = !lessE x pl := by unfold nlT; rw [hx]
  have l0 := hl.c1.1
  have m0 : w.cell? ⟨q, 4, none⟩ = some (.slice (some ⟨b, off, none⟩) n d) := hq.cell 4
  obtain ⟨p0, p1, p2, p3, _⟩ := hp.c4
  have hpl := hp.lt
  have hll := hl.lt
  have hql := hq.lt
  have HL : Hid (∀ wx, Below w.heap.size w wx → Calls Tryz.prog 106 #[.agg #[u0, u1, u2, u3], .agg #[v0, v1, v2, v3]] wx (RetT wx (lessE x pl))) := Lib.hid (fun wx hb => memLess_any (hev.below hb) (hv.below hb))
  have HSX : Hid (∀ wx, Below w.heap.size w wx → wx.cell? ⟨bx, 0, none⟩ = some (.pointer (some ⟨q, 0, none⟩)) ∧ wx.cell? ⟨q, 4, none⟩ = some (.slice (some ⟨b, off, none⟩) n d) ∧ wx.cell? ⟨b, off + i * 4, none⟩ = some u0 ∧ wx.cell? ⟨b, off + i * 4 + 1, none⟩ = some u1 ∧ wx.cell? ⟨b, off + i * 4 + 2, none⟩ = some u2 ∧ wx.cell? ⟨b, off + i * 4 + 3, none⟩ = some u3 ∧ wx.cell? ⟨pb, 0, none⟩ = some v0 ∧ wx.cell? ⟨pb, 1, none⟩ = some v1 ∧ wx.cell? ⟨pb, 2, none⟩ = some v2 ∧ wx.cell? ⟨pb, 3, none⟩ = some v3) := Lib.hid (fun wx h =>
    ⟨(h.cell (p := ⟨bx, 0, none⟩) hll).trans l0, (h.cell (p := ⟨q, 4, none⟩) hql).trans m0, (h.cell (p := ⟨b, off + i * 4, none⟩) hbl).trans c0, (h.cell (p := ⟨b, off + i * 4 + 1, none⟩) hbl).trans c1, (h.cell (p := ⟨b, off + i * 4 + 2, none⟩) hbl).trans c2, (h.cell (p := ⟨b, off + i * 4 + 3, none⟩) hbl).trans c3,
      (h.cell (p := ⟨pb, 0, none⟩) hpl).trans p0, (h.cell (p := ⟨pb, 1, none⟩) hpl).trans p1, (h.cell (p := ⟨pb, 2, none⟩) hpl).trans p2, (h.cell (p := ⟨pb, 3, none⟩) hpl).trans p3⟩)
  have hB0 : Below w.heap.size w w.drew := (Below.refl _ _).drew
  obtain ⟨z, hz⟩ : ∃ z, z = lessE x pl := ⟨_, rfl⟩
  rw [← hz] at HL hn
  have HN := Lib.hid hn
  clear h hl hp hq hv hx hev hz hn hpl hll hql
  go_enter Tryz.func127, Tryz.ntmps127
  go_wp2_with fail
  go_region_held3 (fun wx => wx.cell? ⟨bx, 0, none⟩ = some (.pointer (some ⟨q, 0, none⟩)) ∧ wx.cell? ⟨q, 4, none⟩ = some (.slice (some ⟨b, off, none⟩) n d) ∧ wx.cell? ⟨b, off + i * 4, none⟩ = some u0 ∧ wx.cell? ⟨b, off + i * 4 + 1, none⟩ = some u1 ∧ wx.cell? ⟨b, off + i * 4 + 2, none⟩ = some u2 ∧ wx.cell? ⟨b, off + i * 4 + 3, none⟩ = some u3 ∧ wx.cell? ⟨pb, 0, none⟩ = some v0 ∧ wx.cell? ⟨pb, 1, none⟩ = some v1 ∧ wx.cell? ⟨pb, 2, none⟩ = some v2 ∧ wx.cell? ⟨pb, 3, none⟩ = some v3) (first | assumption | exact HSX.out _ hB0)
    (first | (go_at_call 106; with_reducible refine (HL.out _ (by assumption)).mono ?_; intro e1 wn hq; obtain ⟨h1, bn⟩ := RetT.outD hq; subst h1; have bn' := belowT' (by assumption : Below w.heap.size w _) bn; have hS1 := HSX.out _ bn'))
  all_goals
    have HBN := Lib.hid (by assumption : Below w.heap.size w wn)
    go_wp2_with fail
    go_ret
    exact ⟨by rw [HN.out]; rfl, HBN.out⟩
theorem plT_mono {es : List En} {pl : En} (hso : SortL es) {n : Nat} (hn : es.length = n) (a b : Nat) (hab : a ≤ b) (hb : b < n) (hpa : nlT es pl a = true) : nlT es pl b = true := by
  by_cases e : a = b
  · subst e; exact hpa
  · unfold nlT at hpa ⊢
    obtain ⟨xa, hxa⟩ : ∃ x, es[a]? = some x := ⟨_, List.getElem?_eq_getElem (by omega)⟩
    obtain ⟨xb, hxb⟩ : ∃ x, es[b]? = some x := ⟨_, List.getElem?_eq_getElem (by omega)⟩
    rw [hxa] at hpa
    rw [hxb]
    simp only [Bool.not_eq_true'] at hpa ⊢
    have hl : lessE xa xb = true := by
      have hs := List.pairwise_iff_getElem.1 hso a b (by omega) (by omega) (by omega)
      have e1 := (List.getElem?_eq_some_iff.1 hxa).2
      have e2 := (List.getElem?_eq_some_iff.1 hxb).2
      rw [e1, e2] at hs
      exact hs
    cases hq : lessE xb pl with
    | false => rfl
    | true =>
      have := lessE_trans hl hq
      rw [hpa] at this
      cases this
theorem RetSe.outT {w w' : World} {n : Nat} {p : Nat → Bool} {e : Ending} (h : RetSe w n p e w') : ∃ r : Nat, e = .returned (.int .i64 (r : Int)) ∧ r ≤ n ∧ (∀ t, t < r → p t = false) ∧ (∀ t, r ≤ t → t < n → p t = true) ∧ Below w.heap.size w w' := h
set_option maxRecDepth 100000 in
set_option maxHeartbeats 16000000 in
theorem tbFind_any {w : World} {q n c : Nat} {A K0 : Option Addr} {k0 kc0 at_ : Nat} {u0 u1 u2 u3 : Value} {es : List En} {key : List UInt8} (hq : Cl w q #[u0, u1, u2, u3, .slice A n c] 49) (h : REs w A n es) (hn : n ≤ 1099511627776) (hso : SortL es) (hk : Rd w K0 k0 key) (hkc : k0 ≤ kc0) (hkn : K0 = none → kc0 = 0) (ha : U64 at_) :
    Calls Tryz.prog 62 #[.pointer (some ⟨q, 0, none⟩), .slice K0 k0 kc0, .int .u64 (at_ : Int)] w (RetSe w n (nlT es (plT key at_))) := by
  obtain ⟨U, hU⟩ : ∃ U, U = w.alloc (.cells #[.pointer (some ⟨q, 0, none⟩)] 45) := ⟨_, rfl⟩
  have bU : Below w.heap.size w U := by rw [hU]; exact (Below.refl _ _).alloc (Nat.le_refl _) _
  have zU : Cl U w.heap.size #[.pointer (some ⟨q, 0, none⟩)] 45 := by rw [hU]; exact Cl.new _ _ _
  obtain ⟨W, hW⟩ : ∃ W, W = U.alloc (.cells #[.slice K0 k0 kc0, .int .u64 (at_ : Int), .int .u8 0, .slice none 0 0] 31) := ⟨_, rfl⟩
  obtain ⟨g4, hg4⟩ : ∃ g4, g4 = U.heap.size := ⟨_, rfl⟩
  have bW : Below U.heap.size U W := by rw [hW]; exact (Below.refl _ _).alloc (Nat.le_refl _) _
  have zW : Cl W g4 #[.slice K0 k0 kc0, .int .u64 (at_ : Int), .int .u8 0, .slice none 0 0] 31 := by rw [hW, hg4]; exact Cl.new _ _ _
  have bw : Below w.heap.size w W := belowT bU bW
  have hev := zero_evT W key at_ (hk.below bw) hkc hkn ha
  obtain ⟨pl, hpl⟩ : ∃ pl, pl = plT key at_ := ⟨_, rfl⟩
  rw [← hpl] at hev ⊢
  have uW := zU.below bW
  have qW := hq.below bw
  have rW := h.below bw
  have HSE : Hid (Calls Tryz.prog 126 #[.int .i64 (n : Int), .func (.func 127) #[] #[.pointer (some ⟨w.heap.size, 0, none⟩), .pointer (some ⟨g4, 0, none⟩)]] W (RetSe W n (nlT es pl))) := Lib.hid (search_any 127 #[.pointer (some ⟨w.heap.size, 0, none⟩), .pointer (some ⟨g4, 0, none⟩)] n (nlT es pl) W (fun args w => by first | rfl | kernel_rfl | simp [callFunc]) (by omega) (fun wx hb i hi => tbFindC_any (rW.below hb) (uW.below hb) (qW.below hb) (zW.below hb) (hev.below hb) i hi) (fun a b hab hb hpa => plT_mono hso h.len a b hab hb hpa))
  have l0 := uW.c1.1
  have l1 : W.cell? ⟨q, 4, none⟩ = some (.slice A n c) := qW.cell 4
  have HBW := Lib.hid bw
  have HU := Lib.hid hU
  have HW := Lib.hid hW
  have HG4 := Lib.hid hg4
  clear hq h hso hk hkn hU hW hg4 bU zU bW zW bw hev hpl uW qW rW
  go_enter Tryz.func62, Tryz.ntmps62
  go_upto_region 1 with (fail)
  rw [← HU.out]
  go_upto_region 2 with (fail)
  rw [← HW.out, ← HG4.out]
  go_wp2_with fail
  with_reducible refine HSE.out.mono ?_
  intro e w2 hq
  obtain ⟨r, h1, h2, h3, h4, b2⟩ := RetSe.outT hq
  subst h1
  have HF : Hid (RetSe w n (nlT es pl) (.returned (.int .i64 (r : Int))) w2) := Lib.hid ⟨r, rfl, h2, h3, h4, HBW.out.trans (b2.mono HBW.out.size)⟩
  clear hq h2 h3 h4 b2
  go_wp2_with fail
  exact bodyPost_ret (v := .int .i64 (r : Int)) (by simp [results, Tryz.f62, go_sem]; try rfl) rfl HF.out
set_option maxRecDepth 100000 in
set_option maxHeartbeats 16000000 in
theorem tbBegin_any {w : World} {q n c : Nat} {A K0 : Option Addr} {k0 kc0 : Nat} {u0 u1 u2 u3 : Value} {es : List En} {key : List UInt8} (hq : Cl w q #[u0, u1, u2, u3, .slice A n c] 49) (h : REs w A n es) (hn : n ≤ 1099511627776) (hso : SortL es) (hk : Rd w K0 k0 key) (hkc : k0 ≤ kc0) (hkn : K0 = none → kc0 = 0) :
    Calls Tryz.prog 65 #[.pointer (some ⟨q, 0, none⟩), .slice K0 k0 kc0] w (RetSe w n (nlT es (plT key 18446744073709551615))) := by
  obtain ⟨pl, hpl⟩ : ∃ pl, pl = plT key 18446744073709551615 := ⟨_, rfl⟩
  have HFI : Hid (Calls Tryz.prog 62 #[.pointer (some ⟨q, 0, none⟩), .slice K0 k0 kc0, .int .u64 18446744073709551615] w (RetSe w n (nlT es (plT key 18446744073709551615)))) := Lib.hid (tbFind_any hq h hn hso hk hkc hkn (at_ := 18446744073709551615) (by unfold U64; omega))
  rw [← hpl] at HFI ⊢
  clear hq h hso hk hkn hpl
  go_enter Tryz.func65, Tryz.ntmps65
  go_wp2_with fail
  with_reducible refine HFI.out.mono ?_
  intro e w2 hq
  have HQ := Lib.hid hq
  obtain ⟨r, h1, _⟩ := RetSe.outT hq
  subst h1
  clear hq
  go_wp2_with fail
  exact bodyPost_ret (v := .int .i64 (r : Int)) (by simp [results, Tryz.f65, go_sem]; try rfl) rfl HQ.out
section
variable {w : World} {a : En} {v0 v1 v2 v3 : Value}
set_option maxRecDepth 100000 in
set_option maxHeartbeats 4000000 in
theorem tbOwn_any (ha : EV w a v0 v1 v2 v3) (sa : SzE a) : Calls Tryz.prog 63 #[.agg #[v0, v1, v2, v3]] w (RetEn w a) := by
  obtain ⟨K, kn, kc, V, vn, vc, rfl, rfl, rfl, rfl, r0, r3, c0, c3, d0, d3, s1, s2⟩ := ha.parts
  have l1 := r0.len
  have l2 := r3.len
  have hk : kn ≤ 140737488355328 := by have := sa.1; omega
  have hv : vn ≤ 140737488355328 := by have := sa.2; omega
  have R0 := Lib.hid r0
  have R3 := Lib.hid r3
  have HD0 := Lib.hid d0
  have HD3 := Lib.hid d3
  clear ha r0 r3 d0 d3
  go_enter Tryz.func63, Tryz.ntmps63
  go_upto_region 1 with (fail)
  obtain ⟨W, hW⟩ : ∃ W, W = (w.alloc (.cells #[.slice K kn kc, .int .u64 (a.seq : Int), .int .u8 (a.kind : Int), .slice V vn vc] 31)).alloc (.cells #[.slice none 0 0, .int .u64 0, .int .u8 0, .slice none 0 0] 31) := ⟨_, rfl⟩
  rw [← hW]
  have bW : Below w.heap.size w W := by rw [hW]; exact ((Below.refl _ _).alloc (Nat.le_refl _) _).alloc (by simp) _
  have aW : Cl W w.heap.size #[.slice K kn kc, .int .u64 (a.seq : Int), .int .u8 (a.kind : Int), .slice V vn vc] 31 := by rw [hW]; exact (Cl.new _ _ _).alloc _
  have zW : Cl W (w.heap.size + 1) #[.slice none 0 0, .int .u64 0, .int .u8 0, .slice none 0 0] 31 := by rw [hW]; exact Cl.newg _ _ _ _ (by simp)
  have sW : w.heap.size + 2 ≤ W.heap.size := by rw [hW]; simp
  have HK : Hid (∀ wx, Below W.heap.size W wx → Calls Tryz.prog 104 #[.slice K kn kc] wx (Made wx.heap.size wx a.key)) := Lib.hid (fun wx hb => Clone_any K kn kc a.key wx ((R0.out.below bW).below hb) hk HD0.out)
  have HV : Hid (∀ wx, Below W.heap.size W wx → Calls Tryz.prog 104 #[.slice V vn vc] wx (Made wx.heap.size wx a.val)) := Lib.hid (fun wx hb => Clone_any V vn vc a.val wx ((R3.out.below bW).below hb) hv HD3.out)
  have ALC : Hid (∀ wx, Below W.heap.size W wx → Cl wx w.heap.size #[.slice K kn kc, .int .u64 (a.seq : Int), .int .u8 (a.kind : Int), .slice V vn vc] 31) := Lib.hid (fun wx hb => aW.below hb)
  have ZLC : Hid (∀ wx, Below W.heap.size W wx → Cl wx (w.heap.size + 1) #[.slice none 0 0, .int .u64 0, .int .u8 0, .slice none 0 0] 31) := Lib.hid (fun wx hb => zW.below hb)
  have BW := Lib.hid bW
  obtain ⟨e0, e1, e2, e3, y0, y1, y2, y3⟩ := aW.c4
  have hB0 : Below W.heap.size W W.drew := (Below.refl _ _).drew
  clear hW bW aW zW
  go_cut [] (fun wx => ∃ C cn cc D dn dc wy, Own 5 wy W.heap.size C cn cc a.key ∧ Own 5 wy W.heap.size D dn dc a.val ∧ Below W.heap.size W wy ∧ Dj C D ∧ wx = (wy.setCell ⟨w.heap.size, 0, none⟩ (.slice C cn cc)).setCell ⟨w.heap.size, 3, none⟩ (.slice D dn dc))
  case first =>
    go_region_law (first | (go_simp; go_at_call 104; with_reducible refine (HK.out _ (by assumption)).mono ?_; intro e wk hq; obtain ⟨C, cn, cc, h1, oC, bC⟩ := Made.out hq; subst h1; have bC' := belowT (by assumption : Below W.heap.size W _) bC; obtain ⟨p0, p1, p2, p3, p4, p5, p6, p7⟩ := (ALC.out _ bC').c4) | (go_simp; go_at_call 104; with_reducible refine (HV.out _ (by assumption)).mono ?_; intro e wv hq; obtain ⟨D, dn, dc, h2, oD, bD⟩ := Made.out hq; subst h2; have bD' := belowT (by assumption : Below W.heap.size W _) bD; obtain ⟨m0, m1, m2, m3, m4, m5, m6, m7⟩ := (ALC.out _ bD').c4))
    all_goals first
      | (have HDJ := Lib.hid (Dj.old oC oD (Nat.le_refl _))
         have HC1 := Lib.hid (oC.below bD)
         have HD1 := Lib.hid (oD.mono bC'.size)
         have HB1 := Lib.hid bD'
         clear oC oD bC bD bC' bD'
         go_wp2_with fail
         go_meet
         exact ⟨C, cn, cc, D, dn, dc, wv, HC1.out, HD1.out, HB1.out, HDJ.out, rfl⟩)
      | (have HDJ := Lib.hid (Dj.symm (Dj.old oD oC (Nat.le_refl _)))
         have HC1 := Lib.hid (oC.mono bD'.size)
         have HD1 := Lib.hid (oD.below bC)
         have HB1 := Lib.hid bC'
         clear oC oD bC bD bC' bD'
         go_wp2_with fail
         go_meet
         exact ⟨C, cn, cc, D, dn, dc, wk, HC1.out, HD1.out, HB1.out, HDJ.out, rfl⟩)
  case rest =>
    obtain ⟨C, cn, cc, D, dn, dc, wy, oC, oD, bY, hdj, hwc⟩ := hcut
    have A1 := ALC.out _ bY
    have Z1 := Lib.hid (ZLC.out _ bY)
    have sy := bY.size
    obtain ⟨Y, hY⟩ : ∃ Y, Y = wy.setCell ⟨w.heap.size, 0, none⟩ (.slice C cn cc) := ⟨_, rfl⟩
    rw [← hY] at hwc
    have aY : Cl Y w.heap.size #[.slice C cn cc, .int .u64 (a.seq : Int), .int .u8 (a.kind : Int), .slice V vn vc] 31 := by rw [hY]; exact A1.set 0 _
    have zY : Cl Y (w.heap.size + 1) #[.slice none 0 0, .int .u64 0, .int .u8 0, .slice none 0 0] 31 := by rw [hY]; exact Z1.out.off 0 _ (by omega)
    have bYY : Below w.heap.size w Y := by rw [hY]; exact below_set (BW.out.trans (bY.mono BW.out.size)) 0 _ (Nat.le_refl _)
    have oCY : Own 5 Y W.heap.size C cn cc a.key := by rw [hY]; exact oC.set (by omega) 0 _
    have oDY : Own 5 Y W.heap.size D dn dc a.val := by rw [hY]; exact oD.set (by omega) 0 _
    have aC : Cl wc w.heap.size #[.slice C cn cc, .int .u64 (a.seq : Int), .int .u8 (a.kind : Int), .slice D dn dc] 31 := by rw [hwc]; exact aY.set 3 _
    have zC : Cl wc (w.heap.size + 1) #[.slice none 0 0, .int .u64 0, .int .u8 0, .slice none 0 0] 31 := by rw [hwc]; exact zY.off 3 _ (by omega)
    have HFIN : Hid (∀ X, X = (((wc.setCell ⟨w.heap.size + 1, 0, none⟩ (.slice C cn cc)).setCell ⟨w.heap.size + 1, 1, none⟩ (.int .u64 (a.seq : Int))).setCell ⟨w.heap.size + 1, 2, none⟩ (.int .u8 (a.kind : Int))).setCell ⟨w.heap.size + 1, 3, none⟩ (.slice D dn dc) → Cl X (w.heap.size + 1) #[.slice C cn cc, .int .u64 (a.seq : Int), .int .u8 (a.kind : Int), .slice D dn dc] 31 ∧ RetEn w a (.returned (.agg #[.slice C cn cc, .int .u64 (a.seq : Int), .int .u8 (a.kind : Int), .slice D dn dc])) X) := Lib.hid (fun X hX => en_fin (x := a) (g := w.heap.size) zY rfl oCY oDY bYY (Nat.le_refl _) sW ⟨3, _, hwc⟩ hX hdj)
    clear hY hwc A1 aY zY bYY oCY oDY oC oD bY e0 e1 e2 e3 y0 y1 y2 y3
    obtain ⟨e0, e1, e2, e3, y0, y1, y2, y3⟩ := aC.c4
    obtain ⟨g0, g1, g2, g3, k0, k1, k2, k3⟩ := zC.c4
    clear aC zC
    go_wp2_with fail
    obtain ⟨X, hX⟩ : ∃ X, X = (((wc.setCell ⟨w.heap.size + 1, 0, none⟩ (.slice C cn cc)).setCell ⟨w.heap.size + 1, 1, none⟩ (.int .u64 (a.seq : Int))).setCell ⟨w.heap.size + 1, 2, none⟩ (.int .u8 (a.kind : Int))).setCell ⟨w.heap.size + 1, 3, none⟩ (.slice D dn dc) := ⟨_, rfl⟩
    obtain ⟨zX, hret⟩ := HFIN.out X hX
    rw [← hX]
    obtain ⟨x0, x1, x2, x3, _⟩ := zX.c4
    refine bodyPost_ret (v := .agg #[.slice C cn cc, .int .u64 (a.seq : Int), .int .u8 (a.kind : Int), .slice D dn dc]) (by simp [results, Tryz.results63, go_sem, x0, x1, x2, x3]; try rfl) rfl hret
end
end Go.Proofs.YtlnpicfkcahdbaaGreat
namespace Go.Proofs.YtlnpicfkcahdbaaGreat
open Go Go.RowKit Go.Maps

section
variable {w w' : World} {p : Nat} {bl : List Nat} {room u : Nat} {fs : List FE}
theorem Live.set (h : Live w p bl room u fs) {g : Nat} (hg : g ∉ bl) (i : Nat) (v : Value) : Live (w.setCell ⟨g, i, none⟩ v) p bl room u fs :=
  h.fr (Fr.set w g i v) (fun b hb hm => by rw [List.mem_singleton] at hm; exact hg (by rw [← hm]; exact hb))
theorem Live.put4 (h : Live w p bl room u fs) {g : Nat} (hg : g ∉ bl) (a b c d : Value) : Live ((((w.setCell ⟨g, 0, none⟩ a).setCell ⟨g, 1, none⟩ b).setCell ⟨g, 2, none⟩ c).setCell ⟨g, 3, none⟩ d) p bl room u fs :=
  (((h.set hg 0 a).set hg 1 b).set hg 2 c).set hg 3 d

theorem Fr.put4 {w0 w : World} {bl : List Nat} (h : Fr w0 w bl) {g : Nat} (hg : w0.heap.size ≤ g) (a b c d : Value) : Fr w0 ((((w.setCell ⟨g, 0, none⟩ a).setCell ⟨g, 1, none⟩ b).setCell ⟨g, 2, none⟩ c).setCell ⟨g, 3, none⟩ d) bl := by
  have hs : ∀ b ∈ [g], b ∈ bl ∨ w0.heap.size ≤ b := fun b hb => .inr (by rw [List.mem_singleton] at hb; omega)
  exact (((h.trans (Fr.set _ g 0 a) hs).trans (Fr.set _ g 1 b) hs).trans (Fr.set _ g 2 c) hs).trans (Fr.set _ g 3 d) hs
end
end Go.Proofs.YtlnpicfkcahdbaaGreat
namespace Go.Proofs.YtlnpicfkcahdbaaGreat
open Go Go.RowKit

theorem frame_mem : ∀ {l : List (List UInt8)} {x : List UInt8}, x ∈ l → x.length ≤ (frameB l).length
  | y :: t, x, h => by
    simp only [frameB, List.length_append]
    rcases List.mem_cons.1 h with rfl | h
    · omega
    · have := frame_mem h; omega
theorem slE_ok : ∀ {ls : List (List En)} {s : Nat}, slE ls s = 0 → ∀ es ∈ ls, (buildE 4 es).2 = 0
  | g :: t, s, h, es, hes => by
    rw [slE] at h
    split at h
    · next h1 => exact absurd h h1
    · next h1 =>
      have h2 : (buildE 4 g).2 = 0 := Decidable.not_not.1 h1
      split at h
      · exact absurd h (by decide)
      · rcases List.mem_cons.1 hes with rfl | h3
        · exact h2
        · exact slE_ok h es h3
theorem seal_parts {ls : List (List En)} (h : (sealT ls).2 = 0) : slE ls 0 = 0 ∧ (frameB [frameB (ls.map b4E), filB ls]).length ≤ 1048576 ∧ (sealT ls).1 = sealB (frameB [frameB (ls.map b4E), filB ls]) := by
  unfold sealT at h ⊢
  split at h
  · next h1 => exact absurd h h1
  · next h1 =>
    rw [if_neg h1]
    unfold sealG at h ⊢
    split at h
    · exact absurd h (by decide)
    · next h2 =>
      rw [if_neg h2]
      exact ⟨Decidable.not_not.1 h1, by omega, rfl⟩
/-- What was sealed is unsealed. -/
theorem un_seal {ls : List (List En)} (h : (sealT ls).2 = 0) (hw : ∀ es ∈ ls, es ≠ [] ∧ ∀ x ∈ es, U64 x.seq ∧ x.kind < 256) : unT (sealT ls).1 = (ls, 0) := by
  obtain ⟨h1, h2, h3⟩ := seal_parts h
  have hb := slE_ok h1
  have ho : openG (sealT ls).1 ((0 : Nat) : Int) = (frameB [frameB (ls.map b4E), filB ls], ((8 + (frameB [frameB (ls.map b4E), filB ls]).length : Nat) : Int), 0) := by
    rw [h3]
    exact openG_one _ h2
  have hl1 : (frameB (ls.map b4E)).length ≤ 1048576 := Nat.le_trans (frame_mem (by simp)) h2
  have hl2 : (filB ls).length ≤ 1048576 := Nat.le_trans (frame_mem (by simp)) h2
  have hp : parts (frameB [frameB (ls.map b4E), filB ls]) = ([frameB (ls.map b4E), filB ls], 0) := parts_frame _ (fun x hx => by
    unfold B64
    rcases List.mem_cons.1 hx with rfl | hx
    · omega
    · rw [List.mem_singleton] at hx
      subst hx
      omega)
  have hp2 : parts (frameB (ls.map b4E)) = (ls.map b4E, 0) := parts_frame _ (fun x hx => by
    have := frame_mem hx
    unfold B64
    omega)
  have hd : ∀ es ∈ ls, decB (b4E es) = (es, 0) := fun es he => dec_build (by omega) (hw es he).2 (hb es he)
  unfold unT
  rw [ho]
  simp only [hp]
  rw [if_neg (by simp), if_neg (by simp), hp2]
  simp only
  rw [if_neg (by simp)]
  unfold blksT
  rw [if_pos]
  · rw [List.map_map]
    refine congrArg (·, (0 : Int)) ?_
    conv => rhs; rw [← List.map_id ls]
    refine List.map_congr_left (fun es he => ?_)
    simp only [Function.comp_def, hd es he, id]
  · refine List.all_eq_true.2 (fun x hx => ?_)
    obtain ⟨es, he, rfl⟩ := List.mem_map.1 hx
    rw [hd es he]
    simp [(hw es he).1]
/-- What was sealed opens. -/
theorem open_seal {ls : List (List En)} (h : (sealT ls).2 = 0) (hw : ∀ es ∈ ls, es ≠ [] ∧ ∀ x ∈ es, U64 x.seq ∧ x.kind < 256) (hne : ls.flatten.length ≠ 0) (ho : ordE ls.flatten = true) : openT (sealT ls).1 = (ls.flatten, 0) := by
  unfold openT
  rw [un_seal h hw]
  rw [if_neg (by simp), if_neg (by simp only [not_or]; exact ⟨hne, by rw [ho]; simp⟩), if_neg]
  simp only [not_or]
  exact ⟨by rw [h]; simp, by rw [eqB_self]; simp⟩
end Go.Proofs.YtlnpicfkcahdbaaGreat
namespace Go.Proofs.YtlnpicfkcahdbaaGreat
open Go Go.RowKit Go.Maps

def eA : En := ⟨[97], 1, 1, [120]⟩
end Go.Proofs.YtlnpicfkcahdbaaGreat
namespace Go.Proofs.YtlnpicfkcahdbaaGreat
open Go Go.RowKit

end Go.Proofs.YtlnpicfkcahdbaaGreat
namespace Go.Proofs.YtlnpicfkcahdbaaGreat
open Go Go.RowKit Go.Maps

/-- What stands behind a table's name as long as it may not be whole. -/
def newB : List UInt8 := [46, 110, 101, 119]
/-- place, of plain data. -/
def placeD (D : DS) (nm ys : List UInt8) : DS × Int :=
  if (removeD D (nm ++ newB)).2 ≠ 0 ∧ (removeD D (nm ++ newB)).2 ≠ 6 then removeD D (nm ++ newB)
  else if (appendD (removeD D (nm ++ newB)).1 (nm ++ newB) ys).2 ≠ 0 then appendD (removeD D (nm ++ newB)).1 (nm ++ newB) ys
  else if (syncD (appendD (removeD D (nm ++ newB)).1 (nm ++ newB) ys).1 (nm ++ newB)).2 ≠ 0 then syncD (appendD (removeD D (nm ++ newB)).1 (nm ++ newB) ys).1 (nm ++ newB)
  else renameD (syncD (appendD (removeD D (nm ++ newB)).1 (nm ++ newB) ys).1 (nm ++ newB)).1 (nm ++ newB) nm
/-- Write of a file, of plain data. -/
def writeD (D : DS) (nm ys : List UInt8) : DS × Int := if (readD D nm).2 = 0 then (D, 7) else placeD D nm ys

section
variable {w w' : World} {p : Nat} {bl : List Nat} {D : DS}
theorem RetDK.put4 (h : DK w p bl D) {g : Nat} (hg : g ∉ bl) (a b c d : Value) : DK ((((w.setCell ⟨g, 0, none⟩ a).setCell ⟨g, 1, none⟩ b).setCell ⟨g, 2, none⟩ c).setCell ⟨g, 3, none⟩ d) p bl D := by
  have st : ∀ {w : World} (_ : DK w p bl D) (i : Nat) (v : Value), DK (w.setCell ⟨g, i, none⟩ v) p bl D := fun {w} h i v =>
    h.fr (Fr.set w g i v) (fun b hb hm => by rw [List.mem_singleton] at hm; exact hg (by rw [← hm]; exact hb))
  exact st (st (st (st h 0 a) 1 b) 2 c) 3 d
set_option maxRecDepth 100000 in
set_option maxHeartbeats 16000000 in
theorem place_DK {F : Option Addr} {fn fc : Nat} {ys nm : List UInt8} (h : DK w p bl D) (hF : Rd w F fn ys) (hFo : ∀ b, blk F = some b → b ∉ bl ∧ b < w.heap.size) (hn : fn ≤ 1099511627776) (hx : nm.length ≤ 1048576)
    (hz1 : SzD (removeD D (nm ++ newB)).1) (hz3 : SzD (syncD (appendD (removeD D (nm ++ newB)).1 (nm ++ newB) ys).1 (nm ++ newB)).1) :
    Calls Tryz.prog 48 #[.pointer (some ⟨p, 0, none⟩), .string (tx nm), .slice F fn fc] w (RetDK w p bl (placeD D nm ys).1 (.int .i64 (placeD D nm ys).2)) := by
  have hcat : tx nm ++ ({ data := #[46, 110, 101, 119] } : ByteArray) = tx (nm ++ newB) := by
    have : ({ data := #[46, 110, 101, 119] } : ByteArray) = tx newB := by rfl
    rw [this, tx_app]
  obtain ⟨tl, htl⟩ : ∃ tl : List UInt8, tl = nm ++ newB := ⟨_, rfl⟩
  have hln : tl.length ≤ 1099511627776 := by rw [htl, List.length_append]; unfold newB; simp only [List.length_cons, List.length_nil]; omega
  obtain ⟨D1, hD1⟩ : ∃ x, x = (removeD D tl).1 := ⟨_, rfl⟩
  obtain ⟨k1, hk1⟩ : ∃ x, x = (removeD D tl).2 := ⟨_, rfl⟩
  obtain ⟨D2, hD2⟩ : ∃ x, x = (appendD D1 tl ys).1 := ⟨_, rfl⟩
  obtain ⟨k2, hk2⟩ : ∃ x, x = (appendD D1 tl ys).2 := ⟨_, rfl⟩
  obtain ⟨D3, hD3⟩ : ∃ x, x = (syncD D2 tl).1 := ⟨_, rfl⟩
  obtain ⟨k3, hk3⟩ : ∃ x, x = (syncD D2 tl).2 := ⟨_, rfl⟩
  obtain ⟨D4, hD4⟩ : ∃ x, x = (renameD D3 tl nm).1 := ⟨_, rfl⟩
  obtain ⟨k4, hk4⟩ : ∃ x, x = (renameD D3 tl nm).2 := ⟨_, rfl⟩
  have hp1 : k1 ≠ 0 → k1 ≠ 6 → placeD D nm ys = (D1, k1) := fun h1 h2 => by
    unfold placeD
    rw [← htl, if_pos (by rw [← hk1]; exact ⟨h1, h2⟩), hD1, hk1]
  have hp2 : (k1 = 0 ∨ k1 = 6) → k2 ≠ 0 → placeD D nm ys = (D2, k2) := fun h1 h2 => by
    unfold placeD
    rw [← htl, if_neg (by rw [← hk1]; rintro ⟨a, b⟩; rcases h1 with h1 | h1 <;> contradiction), ← hD1, if_pos (by rw [← hk2]; exact h2), hD2, hk2]
  have hp3 : (k1 = 0 ∨ k1 = 6) → k2 = 0 → k3 ≠ 0 → placeD D nm ys = (D3, k3) := fun h1 h2 h3 => by
    unfold placeD
    rw [← htl, if_neg (by rw [← hk1]; rintro ⟨a, b⟩; rcases h1 with h1 | h1 <;> contradiction), ← hD1, if_neg (by rw [← hk2]; exact fun k => k h2), ← hD2, if_pos (by rw [← hk3]; exact h3), hD3, hk3]
  have hp4 : (k1 = 0 ∨ k1 = 6) → k2 = 0 → k3 = 0 → placeD D nm ys = (D4, k4) := fun h1 h2 h3 => by
    unfold placeD
    rw [← htl, if_neg (by rw [← hk1]; rintro ⟨a, b⟩; rcases h1 with h1 | h1 <;> contradiction), ← hD1, if_neg (by rw [← hk2]; exact fun k => k h2), ← hD2, if_neg (by rw [← hk3]; exact fun k => k h3), ← hD3, hD4, hk4]
  rw [← htl, ← hD1] at hz1
  rw [← htl, ← hD1, ← hD2, ← hD3] at hz3
  rw [← htl] at hcat
  obtain ⟨tm, htm⟩ : ∃ tm, tm = tx tl := ⟨_, rfl⟩
  rw [← htm] at hcat
  have HCAT := Lib.hid hcat
  obtain ⟨Z, hZ⟩ : ∃ z, z = placeD D nm ys := ⟨_, rfl⟩
  rw [← hZ] at hp1 hp2 hp3 hp4 ⊢
  have HRM : Hid (Calls Tryz.prog 110 #[.pointer (some ⟨p, 0, none⟩), .string tm] w (RetDK w p bl D1 (.int .i64 k1))) := Lib.hid (by
    rw [htm, hD1, hk1]; exact remove_DK tl h hln)
  have HAP : Hid (∀ wx bx, DK wx p bx D1 → Rd wx F fn ys → (∀ b, blk F = some b → b ∉ bx) → Calls Tryz.prog 111 #[.pointer (some ⟨p, 0, none⟩), .string tm, .slice F fn fc] wx (RetDK wx p bx D2 (.int .i64 k2))) := Lib.hid (fun wx bx q1 q2 q3 => by
    rw [htm, hD2, hk2]; exact append_DK tl F fn fc ys q1 hz1 q2 q3 hn hln)
  have HSY : Hid (∀ wx bx, DK wx p bx D2 → Calls Tryz.prog 112 #[.pointer (some ⟨p, 0, none⟩), .string tm] wx (RetDK wx p bx D3 (.int .i64 k3))) := Lib.hid (fun wx bx q1 => by
    rw [htm, hD3, hk3]; exact sync_DK tl q1 hln)
  have HRN : Hid (∀ wx bx, DK wx p bx D3 → Calls Tryz.prog 113 #[.pointer (some ⟨p, 0, none⟩), .string tm, .string (tx nm)] wx (RetDK wx p bx D4 (.int .i64 k4))) := Lib.hid (fun wx bx q1 => by
    rw [htm, hD4, hk4]; exact rename_DK tl nm q1 hz3 hln (by omega))
  have HP1 := Lib.hid hp1
  have HP2 := Lib.hid hp2
  have HP3 := Lib.hid hp3
  have HP4 := Lib.hid hp4
  have HFR := Lib.hid hF
  have HFO := Lib.hid hFo
  obtain ⟨tn, htn⟩ : ∃ tn, tn = tx nm := ⟨_, rfl⟩
  rw [← htn] at HCAT HRN ⊢
  have hts : tn.size ≤ 1048576 := by rw [htn, tx_size]; exact hx
  have hts2 : ¬ 9223372036854775807 < tn.size + 4 := by omega
  clear h hF hFo hn hx hz1 hz3 hcat htl hln hD1 hk1 hD2 hk2 hD3 hk3 hD4 hk4 hp1 hp2 hp3 hp4 htm hZ htn
  go_enter Tryz.func48, Tryz.ntmps48
  go_wp2_with fail
  rw [HCAT.out]
  with_reducible refine HRM.out.mono ?_
  rintro e w1 ⟨h1, bl1, hK1, hF1, hB1⟩
  subst h1
  by_cases hc1 : k1 = 0 ∨ k1 = 6
  · have HA := Lib.hid (HAP.out w1 bl1 hK1 (HFR.out.fr hF1 (fun b hb => (HFO.out b hb).1)) (fun b hb hm => by
      obtain ⟨q1, q2⟩ := HFO.out b hb
      rcases hB1 b hm with q | q
      · exact q1 q
      · omega))
    have HC1 := Lib.hid hc1
    have t1 : (k1 != 0 && k1 != 6) = false := by
      rcases hc1 with h | h <;> subst h <;> rfl
    have HF1 := Lib.hid hF1
    have HB1 := Lib.hid hB1
    have KEY : Hid (∀ (Dx : DS) (wa wb : World) (ba bb : List Nat), Fr w wa bl → (∀ b ∈ ba, b ∈ bl ∨ w.heap.size ≤ b) → DK wb p bb Dx → Fr wa wb ba → (∀ b ∈ bb, b ∈ ba ∨ wa.heap.size ≤ b) → Fr w wb bl ∧ (∀ b ∈ bb, b ∈ bl ∨ w.heap.size ≤ b)) := Lib.hid (fun _ _ _ _ _ f1 g1 _ f2 g2 =>
      ⟨f1.trans f2 g1, fun b hb => by
        rcases g2 b hb with q | q
        · exact g1 b q
        · exact .inr (Nat.le_trans f1.size q)⟩)
    clear hK1 hF1 hB1
    have hsplit : ∃ z : Bool, (k1 != 0) = z ∧ (z = true → (k1 != 6) = false) := by
      rcases hc1 with h | h <;> subst h
      · exact ⟨false, rfl, fun h => by cases h⟩
      · exact ⟨true, rfl, fun _ => rfl⟩
    clear hc1
    rcases HC1.out with h | h
    all_goals
      subst h
      clear t1 hsplit
      go_wp2_with fail
      with_reducible refine HA.out.mono ?_
      rintro e w2 ⟨h1, bl2, hK2, hF2, hB2⟩
      subst h1
      obtain ⟨f2, g2⟩ := KEY.out _ _ _ _ _ HF1.out HB1.out hK2 hF2 hB2
      by_cases h2 : k2 = 0
      · have HS := Lib.hid (HSY.out w2 bl2 hK2)
        have HF2 := Lib.hid f2
        have HG2 := Lib.hid g2
        have HK2 := Lib.hid h2
        clear hK2 hF2 hB2 f2 g2
        subst h2
        go_wp2_with fail
        with_reducible refine HS.out.mono ?_
        rintro e w3 ⟨h1, bl3, hK3, hF3, hB3⟩
        subst h1
        obtain ⟨f3, g3⟩ := KEY.out _ _ _ _ _ HF2.out HG2.out hK3 hF3 hB3
        by_cases h3 : k3 = 0
        · have HR := Lib.hid (HRN.out w3 bl3 hK3)
          have HF3 := Lib.hid f3
          have HG3 := Lib.hid g3
          clear hK3 hF3 hB3 f3 g3
          subst h3
          go_wp2_with fail
          with_reducible refine HR.out.mono ?_
          rintro e w4 ⟨h1, bl4, hK4, hF4, hB4⟩
          subst h1
          obtain ⟨f4, g4⟩ := KEY.out _ _ _ _ _ HF3.out HG3.out hK4 hF4 hB4
          have HF : Hid (RetDK w p bl Z.1 (.int .i64 Z.2) (.returned (.int .i64 k4)) w4) := Lib.hid (by
            rw [HP4.out HC1.out (by trivial) (by trivial)]
            exact ⟨rfl, bl4, hK4, f4, g4⟩)
          clear hK4 hF4 hB4 f4 g4
          go_wp2_with fail
          exact bodyPost_ret (v := .int .i64 k4) (by simp [results, Tryz.f48, go_sem]; try rfl) rfl HF.out
        · have HF : Hid (RetDK w p bl Z.1 (.int .i64 Z.2) (.returned (.int .i64 k3)) w3) := Lib.hid (by
            rw [HP3.out HC1.out (by trivial) h3]
            exact ⟨rfl, bl3, hK3, f3, g3⟩)
          clear hK3 hF3 hB3 f3 g3
          go_wp2_with fail
          exact bodyPost_ret (v := .int .i64 k3) (by simp [results, Tryz.f48, go_sem]; try rfl) rfl HF.out
      · have HF : Hid (RetDK w p bl Z.1 (.int .i64 Z.2) (.returned (.int .i64 k2)) w2) := Lib.hid (by
          rw [HP2.out HC1.out h2]
          exact ⟨rfl, bl2, hK2, f2, g2⟩)
        clear hK2 hF2 hB2 f2 g2
        go_wp2_with fail
        exact bodyPost_ret (v := .int .i64 k2) (by simp [results, Tryz.f48, go_sem]; try rfl) rfl HF.out
  · simp only [not_or] at hc1
    obtain ⟨hc0, hc6⟩ := hc1
    have t0 : (k1 != 0) = true := by simpa using hc0
    have t6 : (k1 != 6) = true := by simpa using hc6
    have HF : Hid (RetDK w p bl Z.1 (.int .i64 Z.2) (.returned (.int .i64 k1)) w1) := Lib.hid (by
      rw [HP1.out hc0 hc6]
      exact ⟨rfl, bl1, hK1, hF1, hB1⟩)
    clear hK1 hF1 hB1
    go_wp2_with fail
    exact bodyPost_ret (v := .int .i64 k1) (by simp [results, Tryz.f48, go_sem]; try rfl) rfl HF.out
end
end Go.Proofs.YtlnpicfkcahdbaaGreat
namespace Go.Proofs.YtlnpicfkcahdbaaGreat
open Go Go.RowKit Go.Maps

end Go.Proofs.YtlnpicfkcahdbaaGreat
namespace Go.Proofs.YtlnpicfkcahdbaaGreat
open Go Go.RowKit

end Go.Proofs.YtlnpicfkcahdbaaGreat
namespace Go.Proofs.YtlnpicfkcahdbaaGreat
open Go Go.RowKit Go.Maps

/-- What Write comes to on a disk: some meta, a kind, and the disk. -/
def RetWk (w : World) (p : Nat) (bl : List Nat) (D : DS) (k : Int) (e : Ending) (w' : World) : Prop :=
  ∃ K kn kc L ln lc c1 c2 bl', e = .returned (.tuple #[.agg #[.slice K kn kc, .slice L ln lc, .int .i64 c1, .int .i64 c2], .int .i64 k]) ∧ DK w' p bl' D ∧ Fr w w' bl ∧ ∀ b ∈ bl', b ∈ bl ∨ w.heap.size ≤ b
section
variable {w w' : World} {p : Nat} {bl : List Nat} {D : DS}
theorem wk_fin {D' : DS} {k : Int} {wk : World} {g : Nat} {bl' : List Nat} {us : Array Value} {K L : Option Addr} {kn kc ln lc : Nat} {c1 c2 : Int} (zk : Cl wk g us 38) (hus : us.size = 4) (hg : w.heap.size ≤ g) (hng : g ∉ bl') (hK : DK wk p bl' D') (hF : Fr w wk bl) (hB : ∀ b ∈ bl', b ∈ bl ∨ w.heap.size ≤ b) :
    ∀ X, X = ((((wk.setCell ⟨g, 0, none⟩ (.slice K kn kc)).setCell ⟨g, 1, none⟩ (.slice L ln lc)).setCell ⟨g, 2, none⟩ (.int .i64 c1)).setCell ⟨g, 3, none⟩ (.int .i64 c2)) → Cl X g #[.slice K kn kc, .slice L ln lc, .int .i64 c1, .int .i64 c2] 38 ∧ RetWk w p bl D' k (.returned (.tuple #[.agg #[.slice K kn kc, .slice L ln lc, .int .i64 c1, .int .i64 c2], .int .i64 k])) X := fun X hX => by
  rw [hX]
  exact ⟨zk.put4 hus _ _ _ _, K, kn, kc, L, ln, lc, c1, c2, bl', rfl, RetDK.put4 hK hng _ _ _ _, hF.put4 hg _ _ _ _, hB⟩
set_option maxRecDepth 100000 in
set_option maxHeartbeats 16000000 in
theorem write_DK {A : Option Addr} {n c : Nat} {es : List En} {ys nm : List UInt8} (size : Int) (h : DK w p bl D) (hzD : SzD D) (hre : REs w A n es) (hn : n ≤ 200) (hc : n ≤ c) (ht : totE es ≤ 1099511627776) (hz : bytesT size es = (ys, 0)) (hyl : ys.length ≤ 1099511627776) (hx : nm.length ≤ 1048576)
    (hz1 : SzD (removeD D (nm ++ newB)).1) (hz3 : SzD (syncD (appendD (removeD D (nm ++ newB)).1 (nm ++ newB) ys).1 (nm ++ newB)).1) :
    Calls Tryz.prog 12 #[.pointer (some ⟨p, 0, none⟩), .string (tx nm), .int .i64 size, .slice A n c] w (RetWk w p bl (writeD D nm ys).1 (writeD D nm ys).2) := by
  obtain ⟨W, hW⟩ : ∃ W, W = w.alloc (.cells #[.slice none 0 0, .slice none 0 0, .int .i64 0, .int .i64 0] 38) := ⟨_, rfl⟩
  obtain ⟨g, hg⟩ : ∃ g, g = w.heap.size := ⟨_, rfl⟩
  have bW : Below w.heap.size w W := by rw [hW]; exact (Below.refl _ _).alloc (Nat.le_refl _) _
  have zW : Cl W g #[.slice none 0 0, .slice none 0 0, .int .i64 0, .int .i64 0] 38 := by rw [hW, hg]; exact Cl.new _ _ _
  have sW : g < W.heap.size := zW.lt
  have hBY := bytes_any (c := c) size (hre.below bW) hn hc ht
  rw [hz] at hBY
  obtain ⟨yn, hyn⟩ : ∃ x, x = ys.length := ⟨_, rfl⟩
  obtain ⟨mt, hmt⟩ : ∃ x, x = metaT es (ys, 0) := ⟨_, rfl⟩
  rw [← hmt] at hBY
  have HBY : Hid (Calls Tryz.prog 46 #[.int .i64 size, .slice A n c] W (fun e w' => ∃ A c K kn kc L ln lc, e = .returned (.tuple #[.slice A yn c, .agg #[.slice K kn kc, .slice L ln lc, .int .i64 (mt.2.2.1 : Int), .int .i64 (mt.2.2.2 : Int)], .int .i64 0]) ∧ Own 5 w' W.heap.size A yn c ys ∧ Below W.heap.size W w')) := Lib.hid (by
    refine hBY.mono ?_
    rintro e w' ⟨A, c, K, kn, kc, L, ln, lc, h1, h2, h3, h4, h5⟩
    rw [hyn]
    exact ⟨A, c, K, kn, kc, L, ln, lc, h1, h2, h5⟩)
  have HYL : Hid (yn ≤ 1099511627776) := Lib.hid (by omega)
  have HDK := Lib.hid (h.below bW)
  have HGB : Hid (∀ b ∈ bl, b < w.heap.size) := Lib.hid h.lt
  have HGW := Lib.hid (show w.heap.size ≤ g by omega)
  have BW := Lib.hid bW
  have HW := Lib.hid hW
  have HG := Lib.hid hg
  have HZD := Lib.hid hzD
  have HZ1 := Lib.hid hz1
  have HZ3 := Lib.hid hz3
  have HX := Lib.hid hx
  obtain ⟨Z, hZ⟩ : ∃ z, z = writeD D nm ys := ⟨_, rfl⟩
  obtain ⟨rk, hrk⟩ : ∃ z, z = (readD D nm).2 := ⟨_, rfl⟩
  obtain ⟨rx, hrx⟩ : ∃ z, z = (readD D nm).1 := ⟨_, rfl⟩
  obtain ⟨pk, hpk⟩ : ∃ z, z = (placeD D nm ys).2 := ⟨_, rfl⟩
  obtain ⟨pD, hpD⟩ : ∃ z, z = (placeD D nm ys).1 := ⟨_, rfl⟩
  have HZA : Hid (rk = 0 → Z = (D, 7)) := Lib.hid (fun h0 => by rw [hZ]; unfold writeD; rw [if_pos (by rw [← hrk]; exact h0)])
  have HZB : Hid (rk ≠ 0 → Z = (pD, pk)) := Lib.hid (fun h0 => by rw [hZ]; unfold writeD; rw [if_neg (by rw [← hrk]; exact h0), hpD, hpk])
  rw [← hZ]
  have HRD : Hid (∀ wx, DK wx p bl D → Calls Tryz.prog 47 #[.pointer (some ⟨p, 0, none⟩), .string (tx nm)] wx (RetRd wx rx rk)) := Lib.hid (fun wx q => by rw [hrx, hrk]; exact read_DK nm q HZD.out (by have := HX.out; omega))
  have HPL : Hid (∀ wx F fn fc, DK wx p bl D → Rd wx F fn ys → (∀ b, blk F = some b → b ∉ bl ∧ b < wx.heap.size) → fn ≤ 1099511627776 → Calls Tryz.prog 48 #[.pointer (some ⟨p, 0, none⟩), .string (tx nm), .slice F fn fc] wx (RetDK wx p bl pD (.int .i64 pk))) := Lib.hid (fun wx F fn fc q1 q2 q3 q4 => by rw [hpD, hpk]; exact place_DK q1 q2 q3 q4 HX.out HZ1.out HZ3.out)
  obtain ⟨tn, htn⟩ : ∃ tn, tn = tx nm := ⟨_, rfl⟩
  rw [← htn] at HRD HPL ⊢
  have ZLC : Hid (∀ wx, Below W.heap.size W wx → Cl wx g #[.slice none 0 0, .slice none 0 0, .int .i64 0, .int .i64 0] 38) := Lib.hid (fun wx hb => zW.below hb)
  clear h hre ht hz hyl hBY hW hg bW zW hyn hmt hzD hz1 hz3 hx hZ hrk hrx hpk hpD htn
  go_enter Tryz.func12, Tryz.ntmps12
  go_upto_region 1 with (fail)
  rw [← HW.out, ← HG.out]
  go_wp2_with fail
  with_reducible refine HBY.out.mono ?_
  intro e w1 hq
  obtain ⟨F, fc, K, kn, kc, L, ln, lc, h1, o1, b1⟩ := hq
  subst h1
  obtain ⟨c1, hc1⟩ : ∃ x : Int, x = (mt.2.2.1 : Int) := ⟨_, rfl⟩
  obtain ⟨c2, hc2⟩ : ∃ x : Int, x = (mt.2.2.2 : Int) := ⟨_, rfl⟩
  rw [← hc1, ← hc2]
  obtain ⟨W1, hW1⟩ : ∃ W1, W1 = w1.alloc (.cells #[.slice K kn kc, .slice L ln lc, .int .i64 c1, .int .i64 c2] 38) := ⟨_, rfl⟩
  obtain ⟨g1, hg1⟩ : ∃ g1, g1 = w1.heap.size := ⟨_, rfl⟩
  have bW1 : Below w1.heap.size w1 W1 := by rw [hW1]; exact (Below.refl _ _).alloc (Nat.le_refl _) _
  have zW1 : Cl W1 g1 #[.slice K kn kc, .slice L ln lc, .int .i64 c1, .int .i64 c2] 38 := by rw [hW1, hg1]; exact Cl.new _ _ _
  have hb1 : Below W.heap.size W W1 := belowT' b1 bW1
  have hk1 := HDK.out.below hb1
  have HRN := Lib.hid (HRD.out W1 hk1)
  have hs1 := b1.size
  have hsw := BW.out.size
  have O1 := Lib.hid (o1.below bW1)
  have HZ1' := Lib.hid zW1
  have HB1 := Lib.hid hb1
  have HK1 := Lib.hid hk1
  have HW1 := Lib.hid hW1
  have HG1 := Lib.hid hg1
  have HSG1 : Hid (W.heap.size ≤ g1) := Lib.hid (by omega)
  clear o1 b1 hb1 hk1 bW1 zW1 hW1 hg1 hs1 hsw hc1 hc2
  go_upto_region 2 with (fail)
  rw [← HW1.out, ← HG1.out]
  go_wp2_with fail
  with_reducible refine HRN.out.mono ?_
  intro e w2 hq
  obtain ⟨A2, n2, k2, h1, o2, b2⟩ := hq
  subst h1
  have ng : g ∉ bl := fun hm => by
    have h2 := HGB.out g hm
    have h1 := HGW.out
    omega
  have ng1 : g1 ∉ bl := fun hm => by
    have h2 := HGB.out g1 hm
    have h1 := HSG1.out
    have h3 := BW.out.size
    omega
  have HB2 := Lib.hid b2
  have HNG := Lib.hid ng
  have HNG1 := Lib.hid ng1
  clear o2 b2 ng ng1
  by_cases h0 : rk = 0
  · have HZA2 := Lib.hid (HZA.out h0)
    have B2 : Below W.heap.size W w2 := belowT' HB1.out HB2.out
    have HF := Lib.hid (wk_fin (w := w) (bl := bl) (k := 7) (K := none) (kn := 0) (kc := 0) (L := none) (ln := 0) (lc := 0) (c1 := 0) (c2 := 0) (ZLC.out _ B2) rfl HGW.out HNG.out (HK1.out.below HB2.out) (Fr.of_below (BW.out.trans (B2.mono BW.out.size)) bl) (fun b hb => .inl hb))
    obtain ⟨y0, y1, y2, y3, f0, f1, f2, f3⟩ := (ZLC.out _ B2).c4
    subst h0
    clear B2
    go_wp2_with fail
    obtain ⟨X, hX⟩ : ∃ X, X = ((((w2.setCell ⟨g, 0, none⟩ (.slice none 0 0)).setCell ⟨g, 1, none⟩ (.slice none 0 0)).setCell ⟨g, 2, none⟩ (.int .i64 0)).setCell ⟨g, 3, none⟩ (.int .i64 0)) := ⟨_, rfl⟩
    obtain ⟨zX, hret⟩ := HF.out X hX
    rw [← hX]
    obtain ⟨x0, x1, x2, x3, _⟩ := zX.c4
    refine bodyPost_ret (v := .tuple #[.agg #[.slice none 0 0, .slice none 0 0, .int .i64 0, .int .i64 0], .int .i64 7]) (by simp [results, Tryz.results12, go_sem, x0, x1, x2, x3]; try rfl) rfl (by rw [HZA2.out]; exact hret)
  · have HZB2 := Lib.hid (HZB.out h0)
    have hfo : ∀ b, blk F = some b → b ∉ bl ∧ b < w2.heap.size := fun b hb => by
      have h1 := O1.out.lt b hb
      refine ⟨fun hm => ?_, Nat.lt_of_lt_of_le h1.2 HB2.out.size⟩
      have h2 := HGB.out b hm
      have h3 := BW.out.size
      omega
    have HP := Lib.hid (HPL.out w2 F yn fc (HK1.out.below HB2.out) ((O1.out.rd).below HB2.out) hfo HYL.out)
    clear hfo
    go_wp2_with fail
    with_reducible refine HP.out.mono ?_
    rintro e w3 ⟨h1, bl', hK3, hF3, hB3⟩
    subst h1
    have hz1 : Cl w3 g1 #[.slice K kn kc, .slice L ln lc, .int .i64 c1, .int .i64 c2] 38 := by
      have h1 := HZ1'.out.below HB2.out
      exact (hF3.block g1 h1.lt HNG1.out).trans h1
    have hz0 : Cl w3 g #[.slice none 0 0, .slice none 0 0, .int .i64 0, .int .i64 0] 38 := by
      have h1 := (ZLC.out _ HB1.out).below HB2.out
      exact (hF3.block g h1.lt HNG.out).trans h1
    have hFW : Fr w w3 bl := ((Fr.of_below (BW.out.trans ((HB1.out.trans (HB2.out.mono HB1.out.size)).mono BW.out.size)) bl).trans hF3 (fun b hb => .inl hb))
    have hngl : g ∉ bl' := fun hm => by
      have q1 := HB1.out.size
      have q2 := HB2.out.size
      rcases hB3 g hm with q | q
      · exact HNG.out q
      · omega
    have hBW : ∀ b ∈ bl', b ∈ bl ∨ w.heap.size ≤ b := fun b hb => by
      have q0 := BW.out.size
      have q1 := HB1.out.size
      have q2 := HB2.out.size
      rcases hB3 b hb with q | q
      · exact .inl q
      · exact .inr (by omega)
    by_cases hp0 : pk = 0
    · have HF := Lib.hid (wk_fin (w := w) (bl := bl) (k := 0) (K := K) (kn := kn) (kc := kc) (L := L) (ln := ln) (lc := lc) (c1 := c1) (c2 := c2) hz0 rfl HGW.out hngl hK3 hFW hBW)
      subst hp0
      obtain ⟨a0, a1, a2, a3, _⟩ := hz1.c4
      obtain ⟨y0, y1, y2, y3, f0, f1, f2, f3⟩ := hz0.c4
      clear hz1 hz0 hFW hK3 hF3 hB3 hngl hBW
      go_wp2_with fail
      obtain ⟨X, hX⟩ : ∃ X, X = ((((w3.setCell ⟨g, 0, none⟩ (.slice K kn kc)).setCell ⟨g, 1, none⟩ (.slice L ln lc)).setCell ⟨g, 2, none⟩ (.int .i64 c1)).setCell ⟨g, 3, none⟩ (.int .i64 c2)) := ⟨_, rfl⟩
      obtain ⟨zX, hret⟩ := HF.out X hX
      rw [← hX]
      obtain ⟨x0, x1, x2, x3, _⟩ := zX.c4
      refine bodyPost_ret (v := .tuple #[.agg #[.slice K kn kc, .slice L ln lc, .int .i64 c1, .int .i64 c2], .int .i64 0]) (by simp [results, Tryz.results12, go_sem, x0, x1, x2, x3]; try rfl) rfl (by rw [HZB2.out]; exact hret)
    · have HF := Lib.hid (wk_fin (w := w) (bl := bl) (k := pk) (K := none) (kn := 0) (kc := 0) (L := none) (ln := 0) (lc := 0) (c1 := 0) (c2 := 0) hz0 rfl HGW.out hngl hK3 hFW hBW)
      obtain ⟨y0, y1, y2, y3, f0, f1, f2, f3⟩ := hz0.c4
      clear hz1 hz0 hFW hK3 hF3 hB3 hngl hBW
      go_wp2_with fail
      obtain ⟨X, hX⟩ : ∃ X, X = ((((w3.setCell ⟨g, 0, none⟩ (.slice none 0 0)).setCell ⟨g, 1, none⟩ (.slice none 0 0)).setCell ⟨g, 2, none⟩ (.int .i64 0)).setCell ⟨g, 3, none⟩ (.int .i64 0)) := ⟨_, rfl⟩
      obtain ⟨zX, hret⟩ := HF.out X hX
      rw [← hX]
      obtain ⟨x0, x1, x2, x3, _⟩ := zX.c4
      refine bodyPost_ret (v := .tuple #[.agg #[.slice none 0 0, .slice none 0 0, .int .i64 0, .int .i64 0], .int .i64 pk]) (by simp [results, Tryz.results12, go_sem, x0, x1, x2, x3]; try rfl) rfl (by rw [HZB2.out]; exact hret)
end
end Go.Proofs.YtlnpicfkcahdbaaGreat
namespace Go.Proofs.YtlnpicfkcahdbaaGreat
open Go Go.RowKit

/-- Entries that can be read, and a kind. -/
def RetPs (w : World) (z : List En × Int) (e : Ending) (w' : World) : Prop :=
  ∃ L m d, e = .returned (.tuple #[.slice L m d, .int .i64 z.2]) ∧ REs w' L m z.1 ∧ m ≤ d ∧ Below w.heap.size w w'
theorem RetPs.no {w w' : World} {z : List En × Int} {k : Int} (hz : z = ([], k)) (hb : Below w.heap.size w w') : RetPs w z (.returned (.tuple #[.slice none 0 0, .int .i64 k])) w' := by
  subst hz
  exact ⟨none, 0, 0, rfl, REs.nil _ _, Nat.le_refl _, hb⟩
/-- Entries put behind one another so far, in memory of their own. -/
def PsS (w0 : World) (L : Option Addr) (m d : Nat) (es : List En) (wr : World) : Prop :=
  ∃ vs, OwnE wr w0.heap.size L m d vs ∧ EOs w0.heap.size wr es vs ∧ OffW vs (blk L) ∧ es.length = m ∧ Below w0.heap.size w0 wr
theorem PsS.bel {w0 wr : World} {L : Option Addr} {m d : Nat} {es : List En} (h : PsS w0 L m d es wr) : Below w0.heap.size w0 wr := by
  obtain ⟨_, _, _, _, _, h⟩ := h
  exact h
theorem PsS.below {w0 wr wx : World} {L : Option Addr} {m d : Nat} {es : List En} (h : PsS w0 L m d es wr) (hb : Below wr.heap.size wr wx) : PsS w0 L m d es wx := by
  obtain ⟨vs, h1, h2, h3, h4, h5⟩ := h
  exact ⟨vs, h1.below hb, h2.below hb, h3, h4, h5.trans (hb.mono h5.size)⟩
theorem PsS.res {w0 wr : World} {L : Option Addr} {m d : Nat} {es : List En} (h : PsS w0 L m d es wr) : REs wr L m es := by
  obtain ⟨vs, h1, h2, h3, h4, h5⟩ := h
  exact REs.mk h2.evs h1.rd h4
end Go.Proofs.YtlnpicfkcahdbaaGreat
namespace Go.Proofs.YtlnpicfkcahdbaaGreat
open Go Go.RowKit

/-- The name of the table, and the one beside it. -/
def tB : List UInt8 := [116]
def tnB : List UInt8 := [116] ++ newB
theorem tn_ne : tnB ≠ tB := by decide
theorem tB_len : tB.length = 1 := rfl
theorem tnB_len : tnB.length = 5 := rfl
/-- 'At most a file that was left over, of such a size.' -/
def LeftD (D : DS) (M : Nat) : Prop := D.fs = [] ∨ ∃ c s, D.fs = [(tnB, c, s)] ∧ s ≤ c.length ∧ c.length ≤ M
theorem LeftD.no {D : DS} {M : Nat} (h : LeftD D M) : getF tB D.fs = none := by
  rcases h with h | ⟨c, s, h, _⟩
  · rw [h]; rfl
  · rw [h]; simp only [getF, List.find?_cons, List.find?_nil]; rfl
theorem LeftD.sz {D : DS} {M : Nat} (h : LeftD D M) (hM : M ≤ 1099511627776) : SzD D := by
  rcases h with h | ⟨c, s, h, _, h2⟩
  · exact ⟨by rw [h]; simp [usedF_nil], by rw [h]; simp, fun f hf => by rw [h] at hf; cases hf⟩
  · exact sz_one h (by rw [tnB_len]; omega) (by omega)
theorem removeD_left {D : DS} {M : Nat} (h : LeftD D M) (hd : D.dead = false) :
    (removeD D tnB = (⟨D.fs, D.room, D.arm, true⟩, 9) ∧ D.arm = 0) ∨ (∃ a k, removeD D tnB = (⟨[], D.room, a, false⟩, k) ∧ (k = 0 ∨ k = 6) ∧ (D.arm = -1 → a = -1)) := by
  rcases h with h | ⟨c, s, h, _⟩
  · refine .inr ⟨D.arm, 6, ?_, .inr rfl, fun h => h⟩
    have e : noneE tnB D.fs = 6 := by rw [h]; rfl
    rw [removeD, e, doneD_err (by rw [hd]; decide) (by decide)]
    obtain ⟨fs, r, a, d⟩ := D
    simp only at h hd
    rw [h, hd]
  · have e : noneE tnB D.fs = 0 := by rw [h]; simp [noneE, getF]
    have e2 : delF tnB D.fs = [] := by rw [h]; simp [delF]
    by_cases h0 : D.arm = 0
    · refine .inl ⟨?_, h0⟩
      rw [removeD, e, doneD_kill (by rw [hd]; decide) h0]
    · refine .inr ⟨armN D.arm, 0, ?_, .inl rfl, fun h => by rw [h]; decide⟩
      rw [removeD, e, doneD_ok (by rw [hd]; decide) h0, e2, hd]
theorem appendD_nil {R : Nat} {a : Int} {x ys : List UInt8} (hr : ys.length ≤ R) : appendD ⟨[], R, a, false⟩ x ys = if a = 0 then (⟨[(x, ys, 0)], R, a, true⟩, 9) else (⟨[(x, ys, 0)], R, armN a, false⟩, 0) := by
  have e : appF x ys [] = [(x, ys, 0)] := by simp [appF, getF, putF]
  rw [appendD, if_neg (by simp), if_neg (by rw [usedF_nil]; simp only; omega), e]
theorem renameD_one {R : Nat} {a : Int} {x y c : List UInt8} {s : Nat} (hxy : x ≠ y) : renameD ⟨[(x, c, s)], R, a, false⟩ x y = if a = 0 then (⟨[(x, c, s)], R, a, true⟩, 9) else (⟨[(y, c, s)], R, armN a, false⟩, 0) := by
  have e : renF x y [(x, c, s)] = [(y, c, s)] := by
    rw [renF, if_neg hxy]
    simp [getF, delF, hxy, putF]
  have e2 : noneE x [(x, c, s)] = 0 := by simp [noneE, getF]
  rw [renameD, doneD, if_neg (by simp), e2, if_neg (by decide), e]
/-- What Write makes. -/
theorem writeD_left {D : DS} {M : Nat} {ys : List UInt8} (h : LeftD D M) (hd : D.dead = false) (hr : ys.length ≤ D.room) :
    ((writeD D tB ys).2 = 9 ∧ (writeD D tB ys).1.dead = true ∧ LeftD (writeD D tB ys).1 (max M ys.length) ∧ (writeD D tB ys).1.fs ≠ [] ∨ (writeD D tB ys).2 = 0 ∧ (writeD D tB ys).1.dead = false ∧ (writeD D tB ys).1.fs = [(tB, ys, ys.length)]) ∧ (writeD D tB ys).1.room = D.room ∧
    (D.arm = -1 → (writeD D tB ys).2 = 0) ∧
    (M ≤ 1099511627776 → ys.length ≤ 1099511627776 → SzD (removeD D tnB).1 ∧ SzD (syncD (appendD (removeD D tnB).1 tnB ys).1 tnB).1) := by
  have hrd : (readD D tB).2 = 6 := by rw [readD, if_neg (by rw [hd]; decide), h.no]
  have hw : writeD D tB ys = placeD D tB ys := by rw [writeD, if_neg (by rw [hrd]; decide)]
  have htn : tB ++ newB = tnB := rfl
  rw [hw]
  unfold placeD
  rw [htn]
  have hmax1 : M ≤ max M ys.length := Nat.le_max_left _ _
  have hmax2 : ys.length ≤ max M ys.length := Nat.le_max_right _ _
  rcases removeD_left h hd with ⟨e1, h0⟩ | ⟨a, k, e1, hk, ha⟩
  · rw [e1]
    simp only
    have hne : D.fs ≠ [] := fun hf => by
      have e : noneE tnB D.fs = 6 := by rw [hf]; rfl
      rw [removeD, e, doneD_err (by rw [hd]; decide) (by decide)] at e1
      have := congrArg Prod.snd e1
      simp only at this
      exact absurd this (by decide)
    rw [if_pos (by decide)]
    refine ⟨.inl ⟨rfl, rfl, ?_, hne⟩, rfl, fun hn => by omega, fun hM hy => ?_⟩
    · rcases h with h | ⟨c, s, h, h1, h2⟩
      · exact .inl h
      · exact .inr ⟨c, s, h, h1, by omega⟩
    · have hL : LeftD ⟨D.fs, D.room, D.arm, true⟩ M := h
      have ea : appendD ⟨D.fs, D.room, D.arm, true⟩ tnB ys = (⟨D.fs, D.room, D.arm, true⟩, 9) := by rw [appendD, if_pos rfl]
      rw [ea]
      simp only
      have es : syncD ⟨D.fs, D.room, D.arm, true⟩ tnB = (⟨D.fs, D.room, D.arm, true⟩, 9) := by rw [syncD, doneD_dead rfl]
      rw [es]
      exact ⟨hL.sz hM, hL.sz hM⟩
  · rw [e1]
    simp only
    rw [if_neg (by rcases hk with hk | hk <;> rw [hk] <;> decide), appendD_nil hr]
    have sz0 : SzD ⟨[], D.room, a, false⟩ := ⟨by simp [usedF_nil], by simp, fun f hf => by cases hf⟩
    have sz1 : ∀ (s : Nat) (b : Int) (z : Bool), ys.length ≤ 1099511627776 → SzD ⟨[(tnB, ys, s)], D.room, b, z⟩ := fun s b z hy => sz_one rfl (by rw [tnB_len]; omega) hy
    by_cases h0 : a = 0
    · rw [if_pos h0]
      simp only
      rw [if_pos (by decide)]
      refine ⟨.inl ⟨rfl, rfl, .inr ⟨ys, 0, rfl, Nat.zero_le _, hmax2⟩, by simp⟩, rfl, fun hn => by have := ha hn; omega, fun hM hy => ⟨sz0, ?_⟩⟩
      have es : syncD ⟨[(tnB, ys, 0)], D.room, a, true⟩ tnB = (⟨[(tnB, ys, 0)], D.room, a, true⟩, 9) := by rw [syncD, doneD_dead rfl]
      rw [es]
      exact sz1 _ _ _ hy
    · rw [if_neg h0]
      simp only
      rw [if_neg (by simp)]
      have es := syncD_one (D := ⟨[(tnB, ys, 0)], D.room, armN a, false⟩) (x := tnB) (c := ys) (s := 0) rfl rfl
      simp only at es
      rw [es]
      by_cases h1 : armN a = 0
      · rw [if_pos h1]
        simp only
        rw [if_pos (by decide)]
        refine ⟨.inl ⟨rfl, rfl, .inr ⟨ys, 0, rfl, Nat.zero_le _, hmax2⟩, by simp⟩, rfl, fun hn => by have := ha hn; rw [this] at h1; exact absurd h1 (by decide), fun hM hy => ⟨sz0, sz1 _ _ _ hy⟩⟩
      · rw [if_neg h1]
        simp only
        rw [if_neg (by simp), renameD_one tn_ne]
        by_cases h2 : armN (armN a) = 0
        · rw [if_pos h2]
          refine ⟨.inl ⟨rfl, rfl, .inr ⟨ys, ys.length, rfl, Nat.le_refl _, hmax2⟩, by simp⟩, rfl, fun hn => by have := ha hn; rw [this] at h2; exact absurd h2 (by decide), fun hM hy => ⟨sz0, sz1 _ _ _ hy⟩⟩
        · rw [if_neg h2]
          exact ⟨.inr ⟨rfl, rfl, rfl⟩, rfl, fun _ => rfl, fun hM hy => ⟨sz0, sz1 _ _ _ hy⟩⟩
/-- What a crash leaves. -/
theorem crash_left {D : DS} {M : Nat} (h : LeftD D M) (ks : List Int) : LeftD (crashD D ks) M ∧ (crashD D ks).dead = false ∧ (crashD D ks).arm = -1 ∧ (crashD D ks).room = D.room := by
  rcases h with h | ⟨c, s, h, h1, h2⟩
  · refine ⟨.inl ?_, rfl, rfl, rfl⟩
    rw [crashD, h]
    rfl
  · obtain ⟨t, q1, q2, q3⟩ := crashD_one h h1 ks
    rw [q3]
    exact ⟨.inr ⟨c.take t, t, rfl, by rw [List.length_take]; omega, by rw [List.length_take]; omega⟩, rfl, rfl, rfl⟩
theorem read_whole {D : DS} {ys : List UInt8} (h : D.fs = [(tB, ys, ys.length)]) (hd : D.dead = false) : readD D tB = (ys, 0) := readD_one h hd
theorem read_left {D : DS} {M : Nat} (h : LeftD D M) (hd : D.dead = false) : readD D tB = ([], 6) := by
  rw [readD, if_neg (by rw [hd]; decide), h.no]
end Go.Proofs.YtlnpicfkcahdbaaGreat
namespace Go.Proofs.YtlnpicfkcahdbaaGreat
open Go Go.RowKit

/-- The least place that isn't ahead of a place. -/
def LeT (es : List En) (n : Nat) (pl : En) (r : Nat) : Prop := r ≤ n ∧ (∀ t, t < r → nlT es pl t = false) ∧ (∀ t, r ≤ t → t < n → nlT es pl t = true)
/-- What Range comes to: the entries between two places, in memory of their own. -/
def RetRn (w : World) (es : List En) (n : Nat) (fr up : List UInt8) (e : Ending) (w' : World) : Prop :=
  ∃ (r z : Nat) (L : Option Addr) (k d : Nat), LeT es n (plT fr 18446744073709551615) r ∧ (if up.length = 0 then z = n else LeT es n (plT up 18446744073709551615) z) ∧ e = .returned (.slice L k d) ∧ RowE w w.heap.size L k d ((es.take z).drop r) w'
theorem drop_take_snoc {es : List En} {r k : Nat} {x : En} (h : es[r + k]? = some x) : (es.drop r).take (k + 1) = (es.drop r).take k ++ [x] := by
  rw [List.take_add_one, List.getElem?_drop, h]
  rfl
theorem rn_end {es : List En} {r z : Nat} : (es.take z).drop r = (es.drop r).take (z - r) := by rw [List.drop_take]

section
variable {w w1 : World} {q n c : Nat} {A : Option Addr} {u0 u1 u2 u3 : Value} {es : List En}
set_option maxRecDepth 100000 in
set_option maxHeartbeats 16000000 in
theorem tbRange_any {F T : Option Addr} {fn fc tn tc : Nat} {xs ys : List UInt8} (hq : Cl w q #[u0, u1, u2, u3, .slice A n c] 49) (h : REs w A n es) (hn : n ≤ 2097152) (hso : SortL es) (hs : ∀ x ∈ es, SzE x) (hf : Rd w F fn xs) (hfc : fn ≤ fc) (hfn : F = none → fc = 0) (ht : Rd w T tn ys) (htc : tn ≤ tc) (htn : T = none → tc = 0) (htl : tn ≤ 1099511627776) :
    Calls Tryz.prog 26 #[.pointer (some ⟨q, 0, none⟩), .slice F fn fc, .slice T tn tc] w (RetRn w es n xs ys) := by
  have HL := Lib.hid h.len
  have HS := Lib.hid hs
  have HH := Lib.hid h
  have HQ := Lib.hid hq
  obtain ⟨pf, hpf⟩ : ∃ x, x = plT xs 18446744073709551615 := ⟨_, rfl⟩
  obtain ⟨pt, hpt⟩ : ∃ x, x = plT ys 18446744073709551615 := ⟨_, rfl⟩
  have HBF : Hid (∀ wx, Below w.heap.size w wx → Calls Tryz.prog 65 #[.pointer (some ⟨q, 0, none⟩), .slice F fn fc] wx (RetSe wx n (nlT es pf))) := Lib.hid (fun wx hb => by rw [hpf]; exact tbBegin_any (hq.below hb) (h.below hb) (by omega) hso (hf.below hb) hfc hfn)
  have HBT : Hid (∀ wx, Below w.heap.size w wx → Calls Tryz.prog 65 #[.pointer (some ⟨q, 0, none⟩), .slice T tn tc] wx (RetSe wx n (nlT es pt))) := Lib.hid (fun wx hb => by rw [hpt]; exact tbBegin_any (hq.below hb) (h.below hb) (by omega) hso (ht.below hb) htc htn)
  have HRT : Hid (∀ r z L k d e w', LeT es n pf r → (if tn = 0 then z = n else LeT es n pt z) → e = Ending.returned (.slice L k d) → RowE w w.heap.size L k d ((es.drop r).take (z - r)) w' → RetRn w es n xs ys e w') := Lib.hid (fun r z L k d e w' h1 h2 h3 h4 => by
    rw [hpf] at h1
    rw [hpt, ← ht.len] at h2
    exact ⟨r, z, L, k, d, h1, h2, h3, by rw [rn_end]; exact h4⟩)
  have l4 : w.cell? ⟨q, 4, none⟩ = some (.slice A n c) := hq.cell 4
  clear h hq hs hf hfn ht htn hpf hpt hso
  go_enter Tryz.func26, Tryz.ntmps26
  go_upto_if 17 with (fail)
  go_cut [7] (fun s7 wx => ∃ z : Nat, s7 = .int .i64 (z : Int) ∧ z ≤ n ∧ (if tn = 0 then z = n else LeT es n pt z) ∧ Below w.heap.size w wx)
  case first =>
    by_cases h0 : tn = 0
    · subst h0
      go_wp2_with fail
      go_meet
      exact ⟨n, rfl, Nat.le_refl _, by simp, Below.refl _ _⟩
    · have t1 : decide ((tn : Int) > 0) = true := by simp; omega
      go_wp2_with fail
      with_reducible refine (HBT.out _ (Below.refl _ _)).mono ?_
      intro e w1 hq
      obtain ⟨r, h1, h2, h3, h4, b1⟩ := RetSe.outT hq
      subst h1
      clear hq
      go_wp2_with fail
      go_meet
      exact ⟨r, rfl, h2, by rw [if_neg h0]; exact ⟨h2, h3, h4⟩, b1⟩
  case rest =>
    obtain ⟨z, rfl, hz, hzt, b1⟩ := hcut
    have HZT := Lib.hid hzt
    have HB1 := Lib.hid b1
    clear hzt b1
    go_wp2_with fail
    with_reducible refine (HBF.out _ HB1.out).mono ?_
    intro e w2 hq
    obtain ⟨r, h1, h2, h3, h4, b2⟩ := RetSe.outT hq
    subst h1
    have HLE : Hid (LeT es n pf r) := Lib.hid ⟨h2, h3, h4⟩
    have HB2 := Lib.hid (HB1.out.trans (b2.mono HB1.out.size))
    clear hq h3 h4 b2 l4
    go_wp2_with fail
    go_loopw [8, 9] (fun s8 s9 wr => ∃ (k i d : Nat) (L : Option Addr), i = r + k ∧ k ≤ z - r ∧ s9 = .int .i64 (i : Int) ∧ s8 = .slice L k d ∧ RowE w w.heap.size L k d ((es.drop r).take k) wr) (fun _ s _ => z - (intOf s).toNat)
    case atStart => exact ⟨0, r, 0, none, rfl, Nat.zero_le _, rfl, rfl, [], OwnE.nil _ _, rfl, OffW.nil _, rfl, HB2.out, HB2.out.size, Fam.nil _ _⟩
    case round =>
      obtain ⟨k, i, d, L, hik, hk, rfl, rfl, hrow⟩ := hrel
      have HR := Lib.hid hrow
      have sw := hrow.size
      have hbr := hrow.bel
      have HIK := Lib.hid hik
      by_cases hlt : i < z
      · have hin : i < n := by omega
        have hk1 : k + 1 ≤ z - r := by omega
        have hkn : k ≤ 2097152 := by omega
        have hR : REs wr A n es := HH.out.below hbr
        have m4 : wr.cell? ⟨q, 4, none⟩ = some (.slice A n c) := (HQ.out.below hbr).cell 4
        obtain ⟨b, off, rfl, hbl⟩ := hR.pos (by omega)
        obtain ⟨x, v0, v1, v2, v3, hx, m0, m1, m2, m3, hev⟩ := hR.at_ i hin
        have hsx := HS.out x (List.mem_of_getElem? hx)
        have hwf := hR.wf x (List.mem_of_getElem? hx)
        have HXK : Hid ((es.drop r).take (k + 1) = (es.drop r).take k ++ [x]) := Lib.hid (drop_take_snoc (by rw [← hik]; exact hx))
        obtain ⟨K, kn, kc, V, vn, vc, rfl, rfl, rfl, rfl, _⟩ := hev.parts
        have HEN := Lib.hid (tbOwn_any hev hsx)
        clear hrow hx hev hR hbr hik
        go_wp2_with fail
        with_reducible refine HEN.out.mono ?_
        rintro e w3 ⟨K2, kn2, kc2, V2, vn2, vc2, rfl, o1, o2, b2, dj⟩
        obtain ⟨vs, q1, q2, q3, q4, q5, q6, q7⟩ := HR.out
        have HFM := Lib.hid (fam_two o1 o2 dj)
        have Q7 := Lib.hid q7
        have s2 := b2.size
        have HEO : Hid (EO w.heap.size w3 x (.slice K2 kn2 kc2) (.int .u64 (x.seq : Int)) (.int .u8 (x.kind : Int)) (.slice V2 vn2 vc2)) := Lib.hid ⟨K2, kn2, kc2, V2, vn2, vc2, rfl, rfl, rfl, rfl, o1.mono q6, o2.mono q6, hwf⟩
        have HOF : Hid (OffW [.slice K2 kn2 kc2, .int .u64 (x.seq : Int), .int .u8 (x.kind : Int), .slice V2 vn2 vc2] (blk L)) := Lib.hid (EO.off (base := wr.heap.size) (w := w3) (e := x) ⟨K2, kn2, kc2, V2, vn2, vc2, rfl, rfl, rfl, rfl, o1, o2, hwf⟩ (fun g hg => .inl (q1.lt g hg).2))
        have H2 := Lib.hid b2
        have Q1 := Lib.hid q1
        have Q2 := Lib.hid q2
        have Q3 := Lib.hid q3
        have Q4 := Lib.hid q4
        have Q5 := Lib.hid q5
        have hcell : ∀ u ∈ [Value.slice K2 kn2 kc2, .int .u64 (x.seq : Int), .int .u8 (x.kind : Int), .slice V2 vn2 vc2], u.oneCell' = true := HEO.out.ev.cells
        have HCL := Lib.hid hcell
        have hI1 : IntKind.i64.wrap ((i : Int) + 1) = ((i + 1 : Nat) : Int) := by rw [IntWalk.i64_in _ (by omega)]; omega
        clear o1 o2 b2 q1 q2 q3 q4 q5 q7 dj hcell m0 m1 m2 m3 m4
        go_wp2_with (at_builtin; refine wpList_app4t w3 rfl _ _ 22 rfl w.heap.size _ 64 Tryz.underlying22 info_ent rfl L k d vs rfl (Q1.out.below H2.out) _ _ _ _ HCL.out w3.heap.size rfl rfl ?_ ?_ ?_ ?_)
        · omega
        · omega
        · omega
        intro L2 d2 w4 hG4 hg4 hb4
        have HQ2 : Hid (RowE w w.heap.size L2 (k + 1) d2 ((es.drop r).take (k + 1)) w4) := Lib.hid (by
          rw [HXK.out]
          exact rowE_snoc Q1.out Q2.out Q3.out Q4.out Q5.out q6 Q7.out H2.out HEO.out HOF.out HFM.out hG4 hg4 hb4)
        clear hG4 hg4 hb4
        go_wp2_with fail
        go_roundw
        case rel => exact ⟨k + 1, i + 1, d2, L2, by have := HIK.out; omega, hk1, by go_num, rfl, HQ2.out⟩
        case measure => simp [intOf]; omega
      · have hkz : k = z - r := by omega
        have HF : Hid (RetRn w es n xs ys (.returned (.slice L k d)) wr) := Lib.hid (HRT.out r z L k d _ _ HLE.out HZT.out rfl (by rw [← hkz]; exact HR.out))
        clear hrow hbr hik
        go_wp2_with fail
        exact bodyPost_ret (v := .slice L k d) (by simp [results, Tryz.f26, go_sem]; try rfl) rfl HF.out
end
end Go.Proofs.YtlnpicfkcahdbaaGreat
namespace Go.Proofs.YtlnpicfkcahdbaaGreat
open Go Go.RowKit

theorem find_place {es : List En} {r : Nat} {key : List UInt8} {at_ : Nat} (h : LeT es es.length (plT key at_) r) : es.find? (fun e => !lessE e ⟨key, at_, 0, []⟩) = es[r]? := by
  obtain ⟨h1, h2, h3⟩ := h
  have hno : (es.take r).find? (fun e => !lessE e ⟨key, at_, 0, []⟩) = none := by
    rw [List.find?_eq_none]
    intro x hx
    obtain ⟨i, hi⟩ := List.getElem?_of_mem hx
    have hil := (List.getElem?_eq_some_iff.1 hi).1
    rw [List.length_take] at hil
    rw [List.getElem?_take_of_lt (by omega)] at hi
    have h4 := h2 i (by omega)
    unfold nlT at h4
    rw [hi] at h4
    unfold plT at h4
    simp only at h4
    rw [h4]
    exact Bool.false_ne_true
  have e : es.find? (fun e => !lessE e ⟨key, at_, 0, []⟩) = (es.take r ++ es.drop r).find? (fun e => !lessE e ⟨key, at_, 0, []⟩) := by rw [List.take_append_drop]
  rw [e, List.find?_append, hno]
  cases hd : es[r]? with
  | none =>
    have : es.length ≤ r := List.getElem?_eq_none_iff.1 hd
    rw [List.drop_eq_nil_of_le this]
    rfl
  | some x =>
    obtain ⟨hl, hx⟩ := List.getElem?_eq_some_iff.1 hd
    rw [List.drop_eq_getElem_cons hl, hx]
    have h4 := h3 r (Nat.le_refl _) hl
    unfold nlT at h4
    rw [hd] at h4
    unfold plT at h4
    simp only at h4
    rw [List.find?_cons, h4]
    rfl
/-- What Get finds, by the place. -/
theorem get_place {es : List En} {r : Nat} {key : List UInt8} {at_ : Nat} (hso : SortL es) (h : LeT es es.length (plT key at_) r) : findL key at_ es = keyed key es[r]? := by
  rw [← keyed_find hso, find_place h]
end Go.Proofs.YtlnpicfkcahdbaaGreat
namespace Go.Proofs.YtlnpicfkcahdbaaGreat
open Go Go.RowKit

/-- No table, and a kind. -/
def RetTn (w : World) (k : Int) (e : Ending) (w' : World) : Prop := e = .returned (.tuple #[.pointer none, .int .i64 k]) ∧ Below w.heap.size w w'
set_option maxRecDepth 100000 in
set_option maxHeartbeats 16000000 in
theorem open_none (p : Value) (nm : Value) {w : World} (hrd : Calls Tryz.prog 47 #[p, nm] w (RetRd w [] 6)) :
    Calls Tryz.prog 17 #[p, nm] w (RetTn w 6) := by
  have HRD := Lib.hid hrd
  clear hrd
  go_enter Tryz.func17, Tryz.ntmps17
  go_wp2_with fail
  with_reducible refine HRD.out.mono ?_
  intro e w1 hq
  obtain ⟨A1, n1, c1, h1, o1, b1⟩ := hq
  subst h1
  have HF : Hid (RetTn w 6 (.returned (.tuple #[.pointer none, .int .i64 6])) w1) := Lib.hid ⟨rfl, b1⟩
  clear o1 b1
  go_wp2_with fail
  exact bodyPost_ret (v := .tuple #[.pointer none, .int .i64 6]) (by simp [results, Tryz.f17, go_sem]; try rfl) rfl HF.out
theorem range_all {w w' : World} {es : List En} {n : Nat} {e : Ending} (h : RetRn w es n [] [] e w') (hl : es.length = n) (hw : ∀ x ∈ es, U64 x.seq) : ∃ L k d, e = .returned (.slice L k d) ∧ RowE w w.heap.size L k d es w' := by
  obtain ⟨r, z, L, k, d, h1, h2, h3, h4⟩ := h
  rw [if_pos (show ([] : List UInt8).length = 0 from rfl)] at h2
  have hr : r = 0 := by
    rcases Nat.eq_zero_or_pos r with h0 | h0
    · exact h0
    · have h5 := h1.2.1 0 h0
      have h6 := h1.1
      obtain ⟨x, hx⟩ : ∃ x, es[0]? = some x := ⟨_, List.getElem?_eq_getElem (by omega)⟩
      unfold nlT at h5
      rw [hx] at h5
      simp only [Bool.not_eq_false'] at h5
      rcases lessE_iff.1 h5 with h7 | ⟨_, h7⟩
      · exfalso
        unfold plT at h7
        cases hk : x.key with
        | nil => rw [hk] at h7; revert h7; decide
        | cons a t => rw [hk] at h7; revert h7; simp [cmpB]
      · have := hw x (List.mem_of_getElem? hx)
        unfold plT at h7
        unfold U64 at this
        simp only at h7
        omega
  subst hr
  rw [h2, List.drop_zero, List.take_of_length_le (by omega)] at h4
  exact ⟨L, k, d, h3, h4⟩
end Go.Proofs.YtlnpicfkcahdbaaGreat
namespace Go.Proofs.YtlnpicfkcahdbaaGreat
open Go Go.RowKit

theorem cutS_ne (size : Int) (es : List En) : ∀ i, i ≤ es.length → ∀ g ∈ (cutS size es i).1, g ≠ []
  | 0, _, g, h => by cases h
  | i + 1, h, g, hg => by
    obtain ⟨_, h2, _⟩ := cutS_inv size es i (by omega)
    obtain ⟨x, hx⟩ : ∃ x, es[i]? = some x := ⟨_, List.getElem?_eq_getElem (by omega)⟩
    obtain ⟨gs, b, s, hgs⟩ : ∃ gs b s, cutS size es i = (gs, b, s) := ⟨_, _, _, rfl⟩
    have ih := cutS_ne size es i (by omega)
    rw [hgs] at h2 ih
    by_cases hs : size ≤ ((s + wE x : Nat) : Int)
    · rw [cutS_yes hgs hx hs] at hg
      rcases List.mem_append.1 hg with hg | hg
      · exact ih g hg
      · rw [List.mem_singleton] at hg
        subst hg
        intro h0
        have := congrArg List.length h0
        rw [List.length_drop, List.length_take] at this
        simp only [List.length_nil] at this h2
        omega
    · rw [cutS_no hgs hx hs] at hg
      exact ih g hg
theorem grpE_ne (size : Int) (es : List En) : ∀ g ∈ grpE size es, g ≠ [] := fun g hg => by
  unfold grpE at hg
  split at hg
  · next h =>
    rcases List.mem_append.1 hg with hg | hg
    · exact cutS_ne size es _ (Nat.le_refl _) g hg
    · rw [List.mem_singleton] at hg
      subst hg
      intro h0
      have := congrArg List.length h0
      rw [List.length_drop] at this
      simp only [List.length_nil] at this
      omega
  · exact cutS_ne size es _ (Nat.le_refl _) g hg
theorem bytes_parts {size : Int} {es : List En} (h : (bytesT size es).2 = 0) : es.length ≠ 0 ∧ ordE es = true ∧ (sealT (grpE size es)).2 = 0 ∧ bytesT size es = sealT (grpE size es) := by
  unfold bytesT at h ⊢
  split at h
  · exact absurd h (by decide)
  · next h1 =>
    rw [if_neg h1]
    split at h
    · next h2 => exact absurd h h2
    · next h2 =>
      rw [if_neg h2]
      split at h
      · exact absurd h (by decide)
      · next h3 =>
        rw [if_neg h3]
        simp only [not_or, Bool.not_eq_false] at h3
        exact ⟨h3.1, h3.2, h, rfl⟩
/-- What was written is read. -/
theorem write_open {size : Int} {es : List En} {ys : List UInt8} (hz : bytesT size es = (ys, 0)) (hw : ∀ x ∈ es, U64 x.seq ∧ x.kind < 256) : openT ys = (es, 0) ∧ (unT ys).1.flatten = es ∧ (unT ys).1.length ≤ es.length ∧ ys.length ≤ 1048584 ∧ es.length ≠ 0 := by
  obtain ⟨h1, h2, h3, h4⟩ := bytes_parts (size := size) (es := es) (by rw [hz])
  have hf := grpE_flat size es
  have hg : ∀ g ∈ grpE size es, g ≠ [] ∧ ∀ x ∈ g, U64 x.seq ∧ x.kind < 256 := fun g hg => ⟨grpE_ne size es g hg, fun x hx => hw x (by rw [← hf]; exact List.mem_flatten.2 ⟨g, hg, hx⟩)⟩
  have hy : (sealT (grpE size es)).1 = ys := by rw [← h4, hz]
  obtain ⟨_, q2, q3⟩ := seal_parts h3
  have h5 := open_seal h3 hg (by rw [hf]; exact h1) (by rw [hf]; exact h2)
  have h6 := un_seal h3 hg
  rw [hy, hf] at h5
  rw [hy] at h6
  refine ⟨h5, by rw [h6]; exact hf, by rw [h6]; exact grpE_len size es, ?_, h1⟩
  rw [← hy, q3, sealB_len]
  omega
end Go.Proofs.YtlnpicfkcahdbaaGreat
namespace Go.Proofs.YtlnpicfkcahdbaaGreat
open Go Go.RowKit Go.Maps

section
variable {w : World} {q n c : Nat} {A : Option Addr} {u0 u1 u2 u3 : Value} {es : List En}
set_option maxRecDepth 100000 in
set_option maxHeartbeats 16000000 in
theorem tbGet_any {L : Option Addr} {kn kc at_ : Nat} {key : List UInt8} (hq : Cl w q #[u0, u1, u2, u3, .slice A n c] 49) (h : REs w A n es) (hn : n ≤ 2097152) (hso : SortL es) (hs : ∀ x ∈ es, SzE x) (hr : Rd w L kn key) (hc : kn ≤ kc) (hd : L = none → kc = 0) (hat : U64 at_) :
    Calls Tryz.prog 23 #[.pointer (some ⟨q, 0, none⟩), .slice L kn kc, .int .u64 (at_ : Int)] w (RetGt w (findL key at_ es)) := by
  obtain ⟨U, hU⟩ : ∃ U, U = w.alloc (.cells #[.slice none 0 0, .int .u64 0, .int .u8 0, .slice none 0 0] 31) := ⟨_, rfl⟩
  have bU : Below w.heap.size w U := by rw [hU]; exact (Below.refl _ _).alloc (Nat.le_refl _) _
  have ZU := Lib.hid (show Cl U w.heap.size #[.slice none 0 0, .int .u64 0, .int .u8 0, .slice none 0 0] 31 by rw [hU]; exact Cl.new _ _ _)
  have HFI : Hid (Calls Tryz.prog 62 #[.pointer (some ⟨q, 0, none⟩), .slice L kn kc, .int .u64 (at_ : Int)] U (RetSe U n (nlT es (plT key at_)))) := Lib.hid (tbFind_any (hq.below bU) (h.below bU) (by omega) hso (hr.below bU) hc hd hat)
  obtain ⟨pl, hpl⟩ : ∃ pl, pl = plT key at_ := ⟨_, rfl⟩
  rw [← hpl] at HFI
  have BU := Lib.hid bU
  have HQ := Lib.hid (hq.below bU)
  have HE := Lib.hid (h.below bU)
  have HR := Lib.hid (hr.below bU)
  have HS := Lib.hid hs
  have HL := Lib.hid h.len
  have HGP : Hid (∀ r, LeT es n pl r → findL key at_ es = keyed key es[r]?) := Lib.hid (fun r hr => by
    rw [hpl, ← h.len] at hr
    exact get_place hso hr)
  have sU : w.heap.size < U.heap.size := by rw [hU]; simp
  have HU := Lib.hid hU
  clear hq h hso hs hr bU hU hpl hd hat
  go_enter Tryz.func23, Tryz.ntmps23
  go_upto_region 1 with (fail)
  rw [← HU.out]
  go_wp2_with fail
  with_reducible refine HFI.out.mono ?_
  intro e w1 hq
  obtain ⟨r, h1, h2, h3, h4, b1⟩ := RetSe.outT hq
  subst h1
  have HGR := Lib.hid (HGP.out r ⟨h2, h3, h4⟩)
  have B1 := Lib.hid (belowT BU.out b1)
  have Z1 := Lib.hid (ZU.out.below b1)
  have HR1 := Lib.hid (HR.out.below b1)
  have HE1 := HE.out.below b1
  have m4 : w1.cell? ⟨q, 4, none⟩ = some (.slice A n c) := (HQ.out.below b1).cell 4
  have s1 := b1.size
  clear hq h3 h4 b1
  by_cases hrn : r = n
  · have t1 : ((r : Int) == (n : Int)) = true := by rw [beq_iff_eq]; omega
    have HGN : Hid (findL key at_ es = none) := Lib.hid (by
      rw [HGR.out]
      have : es[r]? = none := List.getElem?_eq_none_iff.2 (by have := HL.out; omega)
      rw [this]; rfl)
    obtain ⟨g0, g1, g2, g3, k0, k1, k2, k3⟩ := Z1.out.c4
    clear HE1
    go_wp2_with fail
    obtain ⟨X, hX⟩ : ∃ X, X = ((((w1.setCell ⟨w.heap.size, 0, none⟩ (.slice none 0 0)).setCell ⟨w.heap.size, 1, none⟩ (.int .u64 0)).setCell ⟨w.heap.size, 2, none⟩ (.int .u8 0)).setCell ⟨w.heap.size, 3, none⟩ (.slice none 0 0)) := ⟨_, rfl⟩
    rw [← hX]
    have zX : Cl X w.heap.size #[.slice none 0 0, .int .u64 0, .int .u8 0, .slice none 0 0] 31 := by rw [hX]; exact Z1.out.put4 rfl _ _ _ _
    have bX : Below w.heap.size w X := by rw [hX]; exact below_set (below_set (below_set (below_set B1.out 0 _ (Nat.le_refl _)) 1 _ (Nat.le_refl _)) 2 _ (Nat.le_refl _)) 3 _ (Nat.le_refl _)
    obtain ⟨x0, x1, x2, x3, _⟩ := zX.c4
    refine bodyPost_ret (v := .tuple #[.agg #[.slice none 0 0, .int .u64 0, .int .u8 0, .slice none 0 0], .bool false]) (by simp [results, Tryz.results23, go_sem, x0, x1, x2, x3]; try rfl) rfl (.inl ⟨HGN.out, rfl, bX⟩)
  · have hrl : r < n := by omega
    have t1 : ((r : Int) == (n : Int)) = false := by rw [beq_eq_false_iff_ne]; omega
    obtain ⟨b, off, rfl, hbl⟩ := HE1.pos (by omega)
    obtain ⟨x, v0, v1, v2, v3, hx, c0, c1, c2, c3, hev⟩ := HE1.at_ r hrl
    have hsx := HS.out x (List.mem_of_getElem? hx)
    obtain ⟨K, en, ec, V, vn, vc, rfl, rfl, rfl, rfl, r0, r3, _⟩ := hev.parts
    have hlk : en ≤ maxLen := maxLen_e (by rw [← r0.len]; exact hsx.1)
    obtain ⟨z, hz⟩ : ∃ z, cmpB x.key key = z := ⟨_, rfl⟩
    have HC : Hid (Calls Tryz.prog 61 #[.slice K en ec, .slice L kn kc] w1 fun e w' => e = .returned (.int .i64 z) ∧ w1 = w') := Lib.hid (Cmp_is K L en kn ec kc x.key key z hz _ r0 HR1.out)
    have HW : Hid (Calls Tryz.prog 63 #[.agg #[.slice K en ec, .int .u64 (x.seq : Int), .int .u8 (x.kind : Int), .slice V vn vc]] w1 (RetEn w1 x)) := Lib.hid (tbOwn_any hev hsx)
    have HXR := Lib.hid hx
    by_cases h0 : z = 0
    · subst h0
      have HGK : Hid (findL key at_ es = some x) := Lib.hid (by rw [HGR.out, HXR.out]; show (if cmpB x.key key = 0 then some x else none) = some x; rw [if_pos hz])
      have tz : ((0 : Int) != 0) = false := rfl
      clear hz r0 r3 hev hx HE1 hsx
      go_wp2_with fail
      with_reducible refine HC.out.mono ?_
      rintro e w2 ⟨rfl, rfl⟩
      go_wp2_with fail
      with_reducible refine HW.out.mono ?_
      rintro e w3 ⟨K2, kn2, kc2, V2, vn2, vc2, rfl, o1, o2, b3, dj⟩
      have DJ := Lib.hid dj
      have Z3 := Lib.hid (Z1.out.below b3)
      have B3 := Lib.hid (belowT B1.out b3)
      have O1 := Lib.hid o1
      have O2 := Lib.hid o2
      obtain ⟨g0, g1, g2, g3, k0, k1, k2, k3⟩ := Z3.out.c4
      clear o1 o2 b3 dj c0 c1 c2 c3 m4
      go_wp2_with fail
      obtain ⟨X, hX⟩ : ∃ X, X = ((((w3.setCell ⟨w.heap.size, 0, none⟩ (.slice K2 kn2 kc2)).setCell ⟨w.heap.size, 1, none⟩ (.int .u64 (x.seq : Int))).setCell ⟨w.heap.size, 2, none⟩ (.int .u8 (x.kind : Int))).setCell ⟨w.heap.size, 3, none⟩ (.slice V2 vn2 vc2)) := ⟨_, rfl⟩
      have s3 : w.heap.size < w1.heap.size := by omega
      have O1X : Own 5 X w.heap.size K2 kn2 kc2 x.key := by rw [hX]; exact ((((O1.out.set s3 0 _).set s3 1 _).set s3 2 _).set s3 3 _).mono (Nat.le_of_lt s3)
      have O2X : Own 5 X w.heap.size V2 vn2 vc2 x.val := by rw [hX]; exact ((((O2.out.set s3 0 _).set s3 1 _).set s3 2 _).set s3 3 _).mono (Nat.le_of_lt s3)
      rw [← hX]
      have zX : Cl X w.heap.size #[.slice K2 kn2 kc2, .int .u64 (x.seq : Int), .int .u8 (x.kind : Int), .slice V2 vn2 vc2] 31 := by rw [hX]; exact Z3.out.put4 rfl _ _ _ _
      have bX : Below w.heap.size w X := by rw [hX]; exact below_set (below_set (below_set (below_set B3.out 0 _ (Nat.le_refl _)) 1 _ (Nat.le_refl _)) 2 _ (Nat.le_refl _)) 3 _ (Nat.le_refl _)
      obtain ⟨x0, x1, x2, x3, _⟩ := zX.c4
      refine bodyPost_ret (v := .tuple #[.agg #[.slice K2 kn2 kc2, .int .u64 (x.seq : Int), .int .u8 (x.kind : Int), .slice V2 vn2 vc2], .bool true]) (by simp [results, Tryz.results23, go_sem, x0, x1, x2, x3]; try rfl) rfl (.inr ⟨x, K2, kn2, kc2, V2, vn2, vc2, HGK.out, rfl, O1X, O2X, bX, DJ.out⟩)
    · have HGK : Hid (findL key at_ es = none) := Lib.hid (by rw [HGR.out, HXR.out]; show (if cmpB x.key key = 0 then some x else none) = none; rw [hz, if_neg h0])
      have tz : (z != 0) = true := by simpa using h0
      obtain ⟨g0, g1, g2, g3, k0, k1, k2, k3⟩ := Z1.out.c4
      clear hz r0 r3 hev hx HE1 hsx
      go_wp2_with fail
      with_reducible refine HC.out.mono ?_
      rintro e w2 ⟨rfl, rfl⟩
      go_wp2_with fail
      obtain ⟨X, hX⟩ : ∃ X, X = ((((w1.setCell ⟨w.heap.size, 0, none⟩ (.slice none 0 0)).setCell ⟨w.heap.size, 1, none⟩ (.int .u64 0)).setCell ⟨w.heap.size, 2, none⟩ (.int .u8 0)).setCell ⟨w.heap.size, 3, none⟩ (.slice none 0 0)) := ⟨_, rfl⟩
      rw [← hX]
      have zX : Cl X w.heap.size #[.slice none 0 0, .int .u64 0, .int .u8 0, .slice none 0 0] 31 := by rw [hX]; exact Z1.out.put4 rfl _ _ _ _
      have bX : Below w.heap.size w X := by rw [hX]; exact below_set (below_set (below_set (below_set B1.out 0 _ (Nat.le_refl _)) 1 _ (Nat.le_refl _)) 2 _ (Nat.le_refl _)) 3 _ (Nat.le_refl _)
      obtain ⟨x0, x1, x2, x3, _⟩ := zX.c4
      refine bodyPost_ret (v := .tuple #[.agg #[.slice none 0 0, .int .u64 0, .int .u8 0, .slice none 0 0], .bool false]) (by simp [results, Tryz.results23, go_sem, x0, x1, x2, x3]; try rfl) rfl (.inl ⟨HGK.out, rfl, bX⟩)
end
/-- No table was written, and why. -/
def RetWe (w : World) (k : Int) (e : Ending) (w' : World) : Prop := e = .returned (.tuple #[.agg #[.slice none 0 0, .slice none 0 0, .int .i64 0, .int .i64 0], .int .i64 k]) ∧ Below w.heap.size w w'
theorem we_fin {w wk : World} {g : Nat} {k : Int} {us : Array Value} (zk : Cl wk g us 38) (hus : us.size = 4) (hg : w.heap.size ≤ g) (hb : Below w.heap.size w wk) :
    ∀ X, X = ((((wk.setCell ⟨g, 0, none⟩ (.slice none 0 0)).setCell ⟨g, 1, none⟩ (.slice none 0 0)).setCell ⟨g, 2, none⟩ (.int .i64 0)).setCell ⟨g, 3, none⟩ (.int .i64 0)) → Cl X g #[.slice none 0 0, .slice none 0 0, .int .i64 0, .int .i64 0] 38 ∧ RetWe w k (.returned (.tuple #[.agg #[.slice none 0 0, .slice none 0 0, .int .i64 0, .int .i64 0], .int .i64 k])) X := fun X hX => by
  rw [hX]
  exact ⟨zk.put4 hus _ _ _ _, rfl, below_put4 hb hg _ _ _ _⟩
section
variable {w : World}
set_option maxRecDepth 100000 in
set_option maxHeartbeats 16000000 in
/-- Write answers the error of Bytes, or that the name is there. -/
theorem write_no {A : Option Addr} {n c : Nat} {es : List En} {ys0 : List UInt8} (size : Int) (k : Int) (dp nm : Value) (hre : REs w A n es) (hn : n ≤ 200) (hc : n ≤ c) (ht : totE es ≤ 1099511627776)
    (hk : ((bytesT size es).2 = k ∧ k ≠ 0) ∨ ((bytesT size es).2 = 0 ∧ k = 7 ∧ ∀ wx, Below w.heap.size w wx → Calls Tryz.prog 47 #[dp, nm] wx (RetRd wx ys0 0))) :
    Calls Tryz.prog 12 #[dp, nm, .int .i64 size, .slice A n c] w (RetWe w k) := by
  obtain ⟨W, hW⟩ : ∃ W, W = w.alloc (.cells #[.slice none 0 0, .slice none 0 0, .int .i64 0, .int .i64 0] 38) := ⟨_, rfl⟩
  obtain ⟨g, hg⟩ : ∃ g, g = w.heap.size := ⟨_, rfl⟩
  have bW : Below w.heap.size w W := by rw [hW]; exact (Below.refl _ _).alloc (Nat.le_refl _) _
  have zW : Cl W g #[.slice none 0 0, .slice none 0 0, .int .i64 0, .int .i64 0] 38 := by rw [hW, hg]; exact Cl.new _ _ _
  have sW : g < W.heap.size := zW.lt
  obtain ⟨z, hz⟩ : ∃ z, z = bytesT size es := ⟨_, rfl⟩
  obtain ⟨yn, hyn⟩ : ∃ x, x = z.1.length := ⟨_, rfl⟩
  obtain ⟨zk, hzk⟩ : ∃ x, x = z.2 := ⟨_, rfl⟩
  obtain ⟨mt, hmt⟩ : ∃ x, x = metaT es z := ⟨_, rfl⟩
  have HBY : Hid (Calls Tryz.prog 46 #[.int .i64 size, .slice A n c] W (fun e w' => ∃ A c K kn kc L ln lc, e = .returned (.tuple #[.slice A yn c, .agg #[.slice K kn kc, .slice L ln lc, .int .i64 (mt.2.2.1 : Int), .int .i64 (mt.2.2.2 : Int)], .int .i64 zk]) ∧ Below W.heap.size W w')) := Lib.hid (by
    refine (bytes_any (c := c) size (hre.below bW) hn hc ht).mono ?_
    rintro e w' ⟨A, c, K, kn, kc, L, ln, lc, h1, h2, h3, h4, h5⟩
    rw [← hz, ← hmt] at h1
    rw [hyn, hzk]
    exact ⟨A, c, K, kn, kc, L, ln, lc, h1, h5⟩)
  have HGW := Lib.hid (show w.heap.size ≤ g by omega)
  have BW := Lib.hid bW
  have HW := Lib.hid hW
  have HG := Lib.hid hg
  have HK : Hid ((zk = k ∧ k ≠ 0) ∨ (zk = 0 ∧ k = 7 ∧ ∀ wx, Below w.heap.size w wx → Calls Tryz.prog 47 #[dp, nm] wx (RetRd wx ys0 0))) := Lib.hid (by rw [hzk, hz]; exact hk)
  have ZLC : Hid (∀ wx, Below W.heap.size W wx → Cl wx g #[.slice none 0 0, .slice none 0 0, .int .i64 0, .int .i64 0] 38) := Lib.hid (fun wx hb => zW.below hb)
  clear hre ht hk hW hg bW zW hz hyn hzk hmt
  go_enter Tryz.func12, Tryz.ntmps12
  go_upto_region 1 with (fail)
  rw [← HW.out, ← HG.out]
  go_wp2_with fail
  with_reducible refine HBY.out.mono ?_
  intro e w1 hq
  obtain ⟨F, fc, K, kn, kc, L, ln, lc, h1, b1⟩ := hq
  subst h1
  obtain ⟨c1, hc1⟩ : ∃ x : Int, x = (mt.2.2.1 : Int) := ⟨_, rfl⟩
  obtain ⟨c2, hc2⟩ : ∃ x : Int, x = (mt.2.2.2 : Int) := ⟨_, rfl⟩
  rw [← hc1, ← hc2]
  obtain ⟨W1, hW1⟩ : ∃ W1, W1 = w1.alloc (.cells #[.slice K kn kc, .slice L ln lc, .int .i64 c1, .int .i64 c2] 38) := ⟨_, rfl⟩
  obtain ⟨g1, hg1⟩ : ∃ g1, g1 = w1.heap.size := ⟨_, rfl⟩
  have bW1 : Below w1.heap.size w1 W1 := by rw [hW1]; exact (Below.refl _ _).alloc (Nat.le_refl _) _
  have hb1 : Below W.heap.size W W1 := belowT' b1 bW1
  have HB1 := Lib.hid hb1
  have HW1 := Lib.hid hW1
  have HG1 := Lib.hid hg1
  clear b1 hb1 bW1 hW1 hg1 hc1 hc2
  go_upto_region 2 with (fail)
  rw [← HW1.out, ← HG1.out]
  by_cases h0 : zk = 0
  · obtain ⟨h7, hrd⟩ : k = 7 ∧ ∀ wx, Below w.heap.size w wx → Calls Tryz.prog 47 #[dp, nm] wx (RetRd wx ys0 0) := by
      rcases HK.out with ⟨h1, h2⟩ | ⟨_, h1, h2⟩
      · exact absurd (h1 ▸ h0) h2
      · exact ⟨h1, h2⟩
    have HRN := Lib.hid (hrd W1 (BW.out.trans (HB1.out.mono BW.out.size)))
    subst h0 h7
    clear hrd
    go_wp2_with fail
    with_reducible refine HRN.out.mono ?_
    intro e w2 hq
    obtain ⟨A2, n2, k2, h1, o2, b2⟩ := hq
    subst h1
    have B2 : Below W.heap.size W w2 := belowT' HB1.out b2
    have HF := Lib.hid (we_fin (w := w) (k := 7) (ZLC.out _ B2) rfl HGW.out (BW.out.trans (B2.mono BW.out.size)))
    obtain ⟨y0, y1, y2, y3, f0, f1, f2, f3⟩ := (ZLC.out _ B2).c4
    clear o2 b2 B2
    go_wp2_with fail
    obtain ⟨X, hX⟩ : ∃ X, X = ((((w2.setCell ⟨g, 0, none⟩ (.slice none 0 0)).setCell ⟨g, 1, none⟩ (.slice none 0 0)).setCell ⟨g, 2, none⟩ (.int .i64 0)).setCell ⟨g, 3, none⟩ (.int .i64 0)) := ⟨_, rfl⟩
    obtain ⟨zX, hret⟩ := HF.out X hX
    rw [← hX]
    obtain ⟨x0, x1, x2, x3, _⟩ := zX.c4
    refine bodyPost_ret (v := .tuple #[.agg #[.slice none 0 0, .slice none 0 0, .int .i64 0, .int .i64 0], .int .i64 7]) (by simp [results, Tryz.results12, go_sem, x0, x1, x2, x3]; try rfl) rfl hret
  · obtain rfl : zk = k := by
      rcases HK.out with ⟨h1, h2⟩ | ⟨h1, _⟩
      · exact h1
      · exact absurd h1 h0
    have HF := Lib.hid (we_fin (w := w) (k := zk) (ZLC.out _ HB1.out) rfl HGW.out (BW.out.trans (HB1.out.mono BW.out.size)))
    obtain ⟨y0, y1, y2, y3, f0, f1, f2, f3⟩ := (ZLC.out _ HB1.out).c4
    go_wp2_with fail
    obtain ⟨X, hX⟩ : ∃ X, X = ((((W1.setCell ⟨g, 0, none⟩ (.slice none 0 0)).setCell ⟨g, 1, none⟩ (.slice none 0 0)).setCell ⟨g, 2, none⟩ (.int .i64 0)).setCell ⟨g, 3, none⟩ (.int .i64 0)) := ⟨_, rfl⟩
    obtain ⟨zX, hret⟩ := HF.out X hX
    rw [← hX]
    obtain ⟨x0, x1, x2, x3, _⟩ := zX.c4
    refine bodyPost_ret (v := .tuple #[.agg #[.slice none 0 0, .slice none 0 0, .int .i64 0, .int .i64 0], .int .i64 zk]) (by simp [results, Tryz.results12, go_sem, x0, x1, x2, x3]; try rfl) rfl hret
end
end Go.Proofs.YtlnpicfkcahdbaaGreat
namespace Go.Proofs.YtlnpicfkcahdbaaGreat
open Go Go.RowKit

theorem compN_le (xss : List (List UInt8)) : ∀ i, (compN xss i).length ≤ i
  | 0 => Nat.le_refl _
  | i + 1 => by
    have ih := compN_le xss i
    unfold compN
    split
    · omega
    · split
      · omega
      · rw [List.length_append, List.length_singleton]; omega
theorem full_sz {ev : Nat} {es : List En} (hok : ∀ x ∈ es, okE x = true) (hw : ∀ x ∈ es, U64 x.seq) : (fullB ev es).length ≤ szL es + 45 * es.length + 4 := by
  have h1 : es.any longE = false := by
    rw [List.any_eq_false]
    intro x hx
    rw [(okE_iff.1 (hok x hx)).1]
    simp
  have h4 := outB_sz (ev := ev) (longE_no h1) hw es.length
  rw [List.take_length] at h4
  have h5 := rsB_len ev es es.length
  unfold fullB
  simp only [List.length_append, fourB_len]
  omega
theorem b4_sz {es : List En} (hok : ∀ x ∈ es, okE x = true) (hw : ∀ x ∈ es, U64 x.seq) : (b4E es).length ≤ szL es + 45 * es.length + 12 := by
  have h1 := full_sz (ev := 4) hok hw
  unfold b4E buildE
  split
  · simp
  · split
    · simp
    · split
      · simp only [sealB_len]; omega
      · simp
theorem szL_mem {l : List (List En)} {g : List En} (h : g ∈ l) : szL g ≤ szL l.flatten := by
  induction l with
  | nil => cases h
  | cons a t ih =>
    rw [List.flatten_cons, szL_app]
    rcases List.mem_cons.1 h with q | q
    · subst q; omega
    · have := ih q; omega
theorem sum_b4 : ∀ {ls : List (List En)}, (∀ g ∈ ls, (∀ x ∈ g, okE x = true) ∧ ∀ x ∈ g, U64 x.seq) → tot (ls.map b4E) ≤ szL ls.flatten + 45 * ls.flatten.length + 13 * ls.length
  | [], _ => by simp [tot]
  | g :: t, h => by
    have ih := sum_b4 (ls := t) (fun g hg => h g (by simp [hg]))
    have h1 := b4_sz (h g (by simp)).1 (h g (by simp)).2
    rw [List.map_cons, List.flatten_cons, szL_app, List.length_append, List.length_cons]
    simp only [tot]
    omega
theorem slE_over : ∀ {ls : List (List En)} {s : Nat}, (∀ g ∈ ls, (buildE 4 g).2 = 0) → slE ls s ≠ 0 → slE ls s = 2 ∧ 1048576 < s + tot (ls.map b4E)
  | [], s, _, h => absurd rfl h
  | g :: t, s, hg, h => by
    have h0 := hg g (by simp)
    simp only [slE] at h ⊢
    rw [if_neg (fun k => k h0)] at h ⊢
    by_cases h1 : 1048576 < s + (b4E g).length
    · rw [if_pos h1]
      rw [List.map_cons]
      simp only [tot]
      exact ⟨by trivial, by omega⟩
    · rw [if_neg h1] at h ⊢
      obtain ⟨q1, q2⟩ := slE_over (fun g hg' => hg g (by simp [hg'])) h
      rw [List.map_cons]
      simp only [tot]
      exact ⟨q1, by omega⟩
theorem slE_two : ∀ {ls : List (List En)} {s : Nat} {g : List En}, (∀ g ∈ ls, (buildE 4 g).2 = 0 ∨ buildE 4 g = ([], 2)) → g ∈ ls → (buildE 4 g).2 ≠ 0 → slE ls s = 2
  | a :: t, s, g, hg, hm, hb => by
    simp only [slE]
    by_cases h0 : (buildE 4 a).2 = 0
    · rw [if_neg (fun k => k h0)]
      by_cases h1 : 1048576 < s + (b4E a).length
      · rw [if_pos h1]
      · rw [if_neg h1]
        rcases List.mem_cons.1 hm with q | q
        · subst q; exact absurd h0 hb
        · exact slE_two (fun g hg' => hg g (by simp [hg'])) q hb
    · rw [if_pos h0]
      rcases hg a (by simp) with q | q
      · exact absurd q h0
      · rw [q]
/-- What isn't a table, though it is in order and in form, is large. -/
theorem table_big {es : List En} (hs : SortL es) (hok : ∀ x ∈ es, okE x = true) (hw : ∀ x ∈ es, U64 x.seq) (hl : es.length ≤ 40) (hne : es.length ≠ 0) :
    (bytesT 40 es).2 = 0 ∨ ((bytesT 40 es).2 = 2 ∧ 500000 < szL es) := by
  have hf := grpE_flat 40 es
  have hgl := grpE_len 40 es
  have hck := checkE_ok hok
  have hor := ord_of_sort hs
  have he : bytesT 40 es = sealT (grpE 40 es) := by
    unfold bytesT
    rw [if_neg (by omega), hck, if_neg (fun k => k rfl), if_neg (by rw [hor]; simp only [Bool.true_eq_false, or_false]; exact hne)]
  rw [he]
  have hsub : ∀ g ∈ grpE 40 es, ∀ x ∈ g, x ∈ es := fun g hg x hx => by rw [← hf]; exact List.mem_flatten.2 ⟨g, hg, hx⟩
  have hsg : ∀ g ∈ grpE 40 es, SortL g := fun g hg => by
    have h1 : SortL (grpE 40 es).flatten := by rw [hf]; exact hs
    exact (List.pairwise_flatten.1 h1).1 g hg
  have hokg : ∀ g ∈ grpE 40 es, ∀ x ∈ g, okE x = true := fun g hg x hx => hok x (hsub g hg x hx)
  have hwg : ∀ g ∈ grpE 40 es, ∀ x ∈ g, U64 x.seq := fun g hg x hx => hw x (hsub g hg x hx)
  have hb : ∀ g ∈ grpE 40 es, (buildE 4 g).2 = 0 ∨ buildE 4 g = ([], 2) := fun g hg => build_sorted (hsg g hg) (hokg g hg)
  have hlg : ∀ g ∈ grpE 40 es, g.length ≤ 40 := fun g hg => by
    have h1 : g.length ≤ (grpE 40 es).flatten.length := by
      obtain ⟨a, b, e⟩ := List.append_of_mem hg
      rw [e, List.flatten_append, List.flatten_cons, List.length_append, List.length_append]
      omega
    rw [hf] at h1
    omega
  by_cases hall : ∀ g ∈ grpE 40 es, (buildE 4 g).2 = 0
  · have hsum := sum_b4 (ls := grpE 40 es) (fun g hg => ⟨hokg g hg, hwg g hg⟩)
    rw [hf] at hsum
    by_cases hsl : slE (grpE 40 es) 0 = 0
    · unfold sealT
      rw [if_neg (fun k => k hsl)]
      unfold sealG
      split
      · rename_i hbig
        refine .inr ⟨rfl, ?_⟩
        rcases Nat.lt_or_ge 500000 (szL es) with q | q
        · exact q
        · exfalso
          have h1 := frameB_len2 ((grpE 40 es).map b4E) (by omega)
          have h2 : (filB (grpE 40 es)).length ≤ 2501 := by
            unfold filB
            refine filter_len (by omega) ?_
            unfold compB
            have := compN_le (keysL (grpE 40 es)) (keysL (grpE 40 es)).length
            have h3 : (keysL (grpE 40 es)).length ≤ 40 := by rw [grpE_keys, List.length_map]; exact hl
            omega
          have h3 := frameB_len2 [frameB ((grpE 40 es).map b4E), filB (grpE 40 es)] (by
            simp only [tot]
            rw [List.length_map] at h1
            omega)
          simp only [tot, List.length_cons, List.length_nil] at h3
          rw [List.length_map] at h1
          omega
      · exact .inl rfl
    · obtain ⟨q1, q2⟩ := slE_over hall hsl
      unfold sealT
      rw [if_pos hsl, q1]
      exact .inr ⟨rfl, by omega⟩
  · have ⟨g, hg, hgb⟩ : ∃ g, g ∈ grpE 40 es ∧ (buildE 4 g).2 ≠ 0 := by
      apply Classical.byContradiction
      intro hn
      exact hall (fun g hg => Classical.byContradiction fun k => hn ⟨g, hg, k⟩)
    have h2 := slE_two (s := 0) hb hg hgb
    unfold sealT
    rw [if_pos (by rw [h2]; decide), h2]
    refine .inr ⟨rfl, ?_⟩
    rcases hb g hg with q | q
    · exact absurd q hgb
    · have h3 := build_big (hsg g hg) (hokg g hg) (hwg g hg) (hlg g hg) q
      have h4 := szL_mem hg
      rw [hf] at h4
      omega
end Go.Proofs.YtlnpicfkcahdbaaGreat
namespace Go.Proofs.YtlnpicfkcahdbaaGreat
open Go Go.RowKit Go.Maps

/-- The entry of an empty list's stead. -/
def eK : En := ⟨[107], 1, 1, []⟩
/-- A row of byte lists, by its values. -/
def KyT (w0 wr : World) (Kx : Option Addr) (kn : Nat) : Prop := ∃ vs, RdV wr Kx kn vs ∧ (∀ v ∈ vs, ∃ xs, ElB w0 v xs ∧ xs.length ≤ 1048576) ∧ ∀ v ∈ vs, v.oneCell' = true
/-- The keys of the first entries, in a row of the call's own. -/
def AlS (w0 : World) (s2 : List En) (j : Nat) (Ax : Option Addr) (ad : Nat) (wr : World) : Prop := ∃ vs, OwnV 28 wr w0.heap.size Ax j ad vs ∧ (∀ (i : Nat) v, vs[i]? = some v → ∃ x : En, s2[i]? = some x ∧ ElB w0 v x.key) ∧ (∀ v ∈ vs, v.oneCell' = true) ∧ Below w0.heap.size w0 wr
theorem tot_memT {x : List UInt8} : ∀ {l : List (List UInt8)}, x ∈ l → x.length ≤ tot l
  | y :: r, h => by
    simp only [tot]
    rcases List.mem_cons.1 h with q | q
    · subst q; omega
    · have := tot_memT q; omega
theorem ownV_at0 {w : World} {t : TypeId} {base g : Nat} (hb : base ≤ g) (h : w.heap[g]? = some (.cells #[] t (0, 0))) : OwnV t w base (some ⟨g, 0, none⟩) 0 0 [] := ⟨rfl, .inr ⟨g, 0, #[], rfl, hb, h, Nat.le_refl _, by unfold maxLen; omega, rfl, rfl⟩⟩
theorem rdv_box1 {w : World} {t : TypeId} {g : Nat} {v : Value} {fr : Nat × Nat} (h : w.heap[g]? = some (.cells #[v] t fr)) : RdV w (some ⟨g, 0, none⟩) 1 [v] := ⟨rfl, fun _ => ⟨g, 0, rfl, (Array.getElem?_eq_some_iff.1 h).1, fun i u hu => by
  match i, hu with
  | 0, hu =>
    injection hu with hu
    subst hu
    simp [World.cell?, h]
  | i + 1, hu => cases hu⟩⟩
theorem heap_at2 (U : World) (o1 o2 : Obj) : ((U.alloc o1).alloc o2).heap[U.heap.size + 1]? = some o2 := by
  have := heap_alloc_new (U.alloc o1) o2
  simpa using this
theorem heap_at1 (U : World) (o1 o2 : Obj) : ((U.alloc o1).alloc o2).heap[U.heap.size]? = some o1 := by
  refine (heap_alloc_old _ _ (by simp)).trans ?_
  exact heap_alloc_new _ _
theorem size_at2 (U : World) (o1 o2 : Obj) : U.heap.size + 1 < ((U.alloc o1).alloc o2).heap.size := by simp
theorem size_at1 (U : World) (o1 o2 : Obj) : U.heap.size < ((U.alloc o1).alloc o2).heap.size := by simp; omega
theorem mom4 {w : World} {g : Nat} (z : Cl w g #[.int .u64 0, .int .u64 2, .int .u64 5, .int .u64 18446744073709551615] 29) (k : Nat) (hk : k < 4) : ∃ a : Nat, U64 a ∧ w.cell? ⟨g, k, none⟩ = some (.int .u64 (a : Int)) := by
  match k, hk with
  | 0, _ => exact ⟨0, by unfold U64; omega, z.cell 0⟩
  | 1, _ => exact ⟨2, by unfold U64; omega, z.cell 1⟩
  | 2, _ => exact ⟨5, by unfold U64; omega, z.cell 2⟩
  | 3, _ => exact ⟨18446744073709551615, by unfold U64; omega, z.cell 3⟩
def elseK (ss : List En) : List En := if ss.length = 0 then [eK] else ss
theorem RetNm.outK {w : World} {x : List UInt8} {e : Ending} {w' : World} (h : RetNm w [x] e w') : ∃ A c, e = .returned (.slice A 1 c) ∧ Below w.heap.size w w' := by
  obtain ⟨A, n, c, h1, h2, h3⟩ := h
  have h4 := h2.len
  simp only [List.map_cons, List.map_nil, List.length_cons, List.length_nil] at h4
  obtain rfl : n = 1 := by omega
  exact ⟨A, c, h1, h3⟩
theorem RetNu.outK {w : World} {z : Int} {e : Ending} {w' : World} (h : RetNu w z e w') : e = .returned (.int .i64 z) ∧ Below w.heap.size w w' := h
theorem elseK_ok {ss : List En} (hs : SortL ss) (hok : ∀ x ∈ ss, okE x = true) (hl : ss.length ≤ 40) (hw : ∀ x ∈ ss, wE x ≤ 1048576) : SortL (elseK ss) ∧ (∀ x ∈ elseK ss, okE x = true) ∧ (elseK ss).length ≤ 40 ∧ (elseK ss).length ≠ 0 ∧ ∀ x ∈ elseK ss, wE x ≤ 1048576 := by
  unfold elseK
  split
  · refine ⟨List.pairwise_singleton _ _, ?_, by simp, by simp, ?_⟩
    · intro x hx; rw [List.mem_singleton] at hx; subst hx; decide
    · intro x hx; rw [List.mem_singleton] at hx; subst hx; decide
  · next h => exact ⟨hs, hok, hl, h, hw⟩

set_option maxRecDepth 100000 in
set_option maxHeartbeats 400000000 in
theorem caissonTables_row (A : Option Addr) (n c : Nat) (es : List En) (arm : Int) (B : Option Addr) (r dd : Nat) (kss : List (List UInt8)) (w : World) (h : REs w A n es) (hnc : n ≤ c) (ht : totE es ≤ 1048576) (harm : (Lit.int .i64 arm).wf = true) (hK : RdL w B r kss) (hkt : tot kss ≤ 1048576) :
    Calls Tryz.prog 3 #[.slice A n c, .int .i64 arm, .slice B r dd] w (RetT w true) := by
  have hI : I64 arm := by
    have : -9223372036854775808 ≤ arm ∧ arm ≤ 9223372036854775807 := by simpa [Lit.wf, IntKind.min, IntKind.max, IntKind.signed, IntKind.bits] using harm
    exact this
  have hwsz : ∀ x ∈ es, wE x ≤ 1048576 := fun x hx => by have := totE_mem hx; omega
  obtain ⟨m, hm⟩ : ∃ m, m = min n 40 := ⟨_, rfl⟩
  obtain ⟨us, hev, hrv⟩ := h.takeV (m := m) (by omega)
  obtain ⟨fs, hfs⟩ : ∃ fs, fs = es.take m := ⟨_, rfl⟩
  rw [← hfs] at hev
  have hfl : fs.length = m := by rw [hfs, List.length_take, h.len]; omega
  have hfw : ∀ x ∈ fs, wE x ≤ 1048576 := fun x hx => hwsz x (by rw [hfs] at hx; exact List.mem_of_mem_take hx)
  have hfz : ∀ x ∈ fs, SzE x := fun x hx => by have := hfw x hx; unfold wE at this; exact ⟨by omega, by omega⟩
  have HSR : Hid (∀ wx, Below w.heap.size w wx → Calls Tryz.prog 6 #[.slice A m c] wx (RetPick wx (srt [] fs) us)) := Lib.hid (fun wx hb => sorted_any (hev.below hb) (hrv.below hb) hfl (by omega) hfz)
  have HUS : Hid (∀ (A : Option Addr) (m c g : Nat), Value.slice A m c ∈ us → 0 < m → blk A = some g → g < w.heap.size) := Lib.hid (fun A m c g hv hm hb => evs_lt hev A m c g hv hm hb)
  have HFW : Hid (∀ wx, Calls Tryz.prog 7 #[.slice A n c, .int .i64 40] wx (fun e w' => e = .returned (.slice A m c) ∧ w' = wx)) := Lib.hid (fun wx => by
    have := few15_any (A := A) (m := 40) hnc wx
    rw [← hm] at this
    exact this)
  obtain ⟨ss, hss⟩ : ∃ ss, ss = srt [] fs := ⟨_, rfl⟩
  obtain ⟨hso, hgl, hgw, hgt⟩ := srt_all (k := 40) (es := fs) (by omega) hfw
  have hok := (srt_prop (xs := fs) (o := []) List.Pairwise.nil (fun x hx => by cases hx)).2
  rw [← hss] at HSR hso hgl hgw hgt hok
  obtain ⟨s2, hs2⟩ : ∃ s2, s2 = elseK ss := ⟨_, rfl⟩
  obtain ⟨k1, k2, k3, k4, k5⟩ := elseK_ok hso hok hgl hgw
  rw [← hs2] at k1 k2 k3 k4 k5
  have hz2 : ∀ x ∈ s2, SzE x := fun x hx => by have := k5 x hx; unfold wE at this; exact ⟨by omega, by omega⟩
  have ht2 : totE s2 ≤ 40 * 1048577 := Nat.le_trans (totE_le k5) (Nat.mul_le_mul k3 (Nat.le_refl _))
  have hsz2 : szL s2 ≤ 40 * 1048577 := by
    have : ∀ l : List En, szL l ≤ totE l := by
      intro l
      induction l with
      | nil => simp [szL]
      | cons x l ih => simp only [szL]; unfold totE; omega
    have := this s2
    omega
  obtain ⟨tr, htr, htl⟩ := putZ_all k1 k2
  have htn : tr.num = s2.length := by rw [num_list, htl]
  have hts : tr.sz = szL s2 := by unfold Tr.sz; rw [htl]
  have HS1 := Lib.hid k1
  have HOK2 := Lib.hid k2
  have HL2 := Lib.hid k3
  have HN2 := Lib.hid k4
  have HZ2 := Lib.hid hz2
  have HT2 : Hid (totE s2 ≤ 1099511627776) := Lib.hid (by omega)
  have HSZ2 := Lib.hid hsz2
  have HTR := Lib.hid htr
  have HTL := Lib.hid htl
  have HTN := Lib.hid htn
  have HTS := Lib.hid hts
  have HS2 := Lib.hid hs2
  have HGL := Lib.hid hgl
  have HKS := Lib.hid hK
  have HKT := Lib.hid hkt
  have HI := Lib.hid hI
  clear h hwsz hm hev hrv hfs hfl hfw hfz hss hso hgl hgw hgt hok hs2 k1 k2 k3 k4 k5 hz2 ht2 hsz2 htr htl htn hts hK hkt harm hI ht
  go_enter Tryz.func3, Tryz.ntmps3
  go_wp2_with fail
  with_reducible refine (memNew_any (fun _ => True) w).mono ?_
  rintro e w1 ⟨rfl, t1, b1⟩
  have p1 : w.heap.size < w1.heap.size := by obtain ⟨_, h, _⟩ := t1; exact h.lt
  obtain ⟨p0, hp0⟩ : ∃ p0, p0 = w.heap.size := ⟨_, rfl⟩
  rw [← hp0] at t1 ⊢
  have hp0l : w.heap.size ≤ p0 := by omega
  have hp0r : p0 < w1.heap.size := by omega
  have T1 := Lib.hid t1
  have B1 := Lib.hid b1
  clear t1 b1 hp0 p1
  go_wp2_with fail
  with_reducible refine (HFW.out _).mono ?_
  intro e w2' hq
  obtain ⟨h1, h2⟩ := hq
  subst h1
  rw [h2]
  clear h2
  go_wp2_with fail
  with_reducible refine (HSR.out _ B1.out).mono ?_
  intro e w3 hq
  obtain ⟨L, k, d, vs, he, oL, eL, hlen, b3, hsub⟩ := hq.out
  subst he
  have hRG : RG (fun b => b ≠ p0) w3 L k ss := ⟨hlen, vs, eL, oL.rd, fun A m c g hv hm hb => (by have := HUS.out A m c g (hsub _ hv) hm hb; omega), fun hn g hb => by have := (oL.lt g hb).1; omega⟩
  have B3 := Lib.hid (B1.out.trans (b3.mono B1.out.size))
  have hkd := oL.cap.1
  have R3 := Lib.hid hRG
  have T3 := Lib.hid (T1.out.below b3)
  have HKL := Lib.hid hlen
  have hp3 : p0 < w3.heap.size := Nat.lt_of_lt_of_le hp0r b3.size
  clear hq oL eL hlen b3 hsub hRG hp0r HUS HFW HSR T1
  go_upto_if 39 with (fail)
  go_cut [0] (fun s0 wx => ∃ L' k' d', s0 = .slice L' k' d' ∧ RG (fun b => b ≠ p0) wx L' k' s2 ∧ k' ≤ d' ∧ Below w3.heap.size w3 wx)
  case first =>
    by_cases hk0 : k = 0
    · have HE : Hid (s2 = [eK]) := Lib.hid (by rw [HS2.out]; unfold elseK; rw [if_pos (by rw [HKL.out]; exact hk0)])
      have kc := fun (w : World) (C : Array Value) (n c g : Nat) (hg : g = w.heap.size) => Joins.run_convert_bytes_const_at (P := Tryz.prog) w 28 5 C n c g hg Tryz.underlying28 Tryz.underlying5
      subst hk0
      go_wp2_with fail
      obtain ⟨W, hW⟩ : ∃ W, W = (w3.alloc (.cells #[.int .u8 107] 5 (1, 2))).alloc (.cells #[.slice (some ⟨w3.heap.size, 0, none⟩) 1 1, .int .u64 1, .int .u8 1, .slice none 0 0] 31) := ⟨_, rfl⟩
      rw [← hW]
      have bW : Below w3.heap.size w3 W := by rw [hW]; exact ((Below.refl _ _).alloc (Nat.le_refl _) _).alloc (by simp) _
      have r1 : Rd W (some ⟨w3.heap.size, 0, none⟩) 1 [107] := by rw [hW]; exact (Rd.cst8 w3 _ 1 [107] rfl _ rfl (1, 2) _ rfl).alloc _
      have rV : RdV W (some ⟨w3.heap.size + 1, 0, none⟩) (1 * 4) [.slice (some ⟨w3.heap.size, 0, none⟩) 1 1, .int .u64 1, .int .u8 1, .slice none 0 0] := by rw [hW]; exact rdv_of_cl (Cl.newg _ _ _ _ (by simp))
      have hev : EV W eK (.slice (some ⟨w3.heap.size, 0, none⟩) 1 1) (.int .u64 1) (.int .u8 1) (.slice none 0 0) := ⟨rfl, rfl, by unfold eK U64; simp, by unfold eK; simp, ⟨_, 1, 1, rfl, r1, by omega, fun h => by cases h⟩, ⟨none, 0, 0, rfl, Rd.nil _ _, Nat.le_refl _, fun _ => rfl⟩⟩
      have HRG : Hid (RG (fun b => b ≠ p0) W (some ⟨w3.heap.size + 1, 0, none⟩) 1 s2) := Lib.hid (by
        rw [HE.out]
        refine ⟨rfl, _, EVs.one hev, rV, fun A m c g hv hm hb => ?_, fun _ g hb => ?_⟩
        · simp only [List.mem_cons, List.not_mem_nil, or_false] at hv
          rcases hv with hv | hv | hv | hv
          · injection hv with e1 e2 e3
            subst e1
            have : w3.heap.size = g := Option.some.inj hb
            show g ≠ p0
            omega
          · cases hv
          · cases hv
          · injection hv with e1 e2 e3
            omega
        · have : w3.heap.size + 1 = g := Option.some.inj hb
          show g ≠ p0
          omega)
      have HBW := Lib.hid bW
      clear kc hW bW r1 rV hev
      go_meet
      exact ⟨_, 1, 1, rfl, HRG.out, Nat.le_refl _, HBW.out⟩
    · have t1 : ((k : Int) == 0) = false := by rw [beq_eq_false_iff_ne]; omega
      have HE : Hid (s2 = ss) := Lib.hid (by rw [HS2.out]; unfold elseK; rw [if_neg (by rw [HKL.out]; exact hk0)])
      go_wp2_with fail
      go_meet
      exact ⟨L, k, d, rfl, by rw [HE.out]; exact R3.out, hkd, Below.refl _ _⟩
  case rest =>
    obtain ⟨L2, k2, d2, rfl, r4, hkd2, b4⟩ := hcut
    obtain ⟨w4, hw4⟩ : ∃ w4, w4 = wc := ⟨_, rfl⟩
    rw [← hw4] at r4 b4 ⊢
    clear hw4
    have B4 := Lib.hid (belowT' B3.out b4)
    have T4 := Lib.hid (T3.out.below b4)
    have R4 := Lib.hid r4
    have HKL2 := Lib.hid r4.len
    have HWF := Lib.hid r4.res.wf
    have hk40 : k2 ≤ 40 := by have := HL2.out; have := r4.len; omega
    have hp4 : p0 < w4.heap.size := Nat.lt_of_lt_of_le hp3 b4.size
    have HTW : Hid (Calls Tryz.prog 9 #[.slice L2 k2 d2] w4 (RetRow w4 s2)) := Lib.hid (Twins_any r4.res (by omega) HZ2.out)
    clear r4 b4 hp3 B1 B3 T3 R3 HS2 HGL
    go_wp2_with fail
    with_reducible refine HTW.out.mono ?_
    rintro e w5 ⟨L5, n5, d5, rfl, hrow⟩
    have R5 := Lib.hid (R4.out.below hrow.bel)
    have B5 := Lib.hid (B4.out.trans (hrow.bel.mono B4.out.size))
    have HPT : Hid (Calls Tryz.prog 8 #[.pointer (some ⟨p0, 0, none⟩), .slice L5 n5 d5] w5 (RetPt pl3 (fun _ => True) w5 p0 (0, tr))) := Lib.hid (by
      have h1 := tabPut_any (c := d5) (T4.out.below hrow.bel) hrow.rd (by have := hrow.len; have := HKL2.out; omega) HZ2.out (by have := hrow.len; have := HKL2.out; simp [Tr.num]; omega) (by have := HSZ2.out; simp [Tr.sz, Tr.list, szL]; omega) (fun _ _ => trivial)
      rw [HTR.out] at h1
      exact h1)
    have hp5 : p0 < w5.heap.size := Nat.lt_of_lt_of_le hp4 hrow.bel.size
    clear hrow HTW hp4
    go_wp2_with fail
    with_reducible refine HPT.out.mono ?_
    rintro e w6 ⟨h1, t6, g6⟩
    subst h1
    have R6 := Lib.hid ((R5.out.good (FrG.of_grown g6 (fun g hg hne => hne (by injection hg with hg; exact hg.symm)))).res)
    have B6 := Lib.hid (B5.out.grown g6 B5.out.size (fun b hb => by injection hb with hb; omega))
    have T6 := Lib.hid t6
    have HN : Hid (Calls Tryz.prog 10 #[.int .i64 1073741824] w6 (RetNK w6 ⟨[], 1073741824, -1, false⟩)) := Lib.hid (new_DK 1073741824 w6 (by unfold I64; omega))
    clear t6 g6 HPT hp5 R4 R5 B4 B5 T4
    go_wp2_with fail
    with_reducible refine HN.out.mono ?_
    rintro e w7 ⟨p, bl7, rfl, hK7, hbl7, b7⟩
    have HK7 := Lib.hid hK7
    have HB7 : Hid (∀ b ∈ bl7, w6.heap.size ≤ b) := Lib.hid hbl7
    have HW7 : Hid (Below w6.heap.size w6 w7) := Lib.hid b7
    clear hK7 hbl7 b7 HN
    go_upto_if 51 with (fail)
    go_cut [] (fun wx => ∃ bl a, DK wx p bl ⟨[], 1073741824, a, false⟩ ∧ (∀ b ∈ bl, w6.heap.size ≤ b) ∧ Below w6.heap.size w6 wx)
    case first =>
      by_cases ha : 0 ≤ arm
      · have t1 : decide (arm ≥ 0) = true := by simpa using ha
        have t2 : decide (0 ≤ arm) = true := by simpa using ha
        have HAR : Hid (Calls Tryz.prog 11 #[.pointer (some ⟨p, 0, none⟩), .int .i64 arm] w7 (RetDK w7 p bl7 ⟨[], 1073741824, arm, false⟩ (.tuple #[]))) := Lib.hid (by
          have h1 := arm_DK arm HK7.out HI.out
          have h2 : armD ⟨[], 1073741824, -1, false⟩ arm = ⟨[], 1073741824, arm, false⟩ := by
            unfold armD
            rw [if_neg (by simp), if_neg (by omega)]
          rw [h2] at h1
          exact h1)
        go_wp2_with fail
        with_reducible refine HAR.out.mono ?_
        intro e w8 hq
        obtain ⟨h1, bl8, hK8, _, _, hb8, B8⟩ := hq.step HW7.out HB7.out
        subst h1
        have HF : Hid (∃ bl a, DK w8 p bl ⟨[], 1073741824, a, false⟩ ∧ (∀ b ∈ bl, w6.heap.size ≤ b) ∧ Below w6.heap.size w6 w8) := Lib.hid ⟨bl8, arm, hK8, hb8, B8⟩
        clear hq hK8 hb8 B8
        go_wp2_with fail
        go_meet
        exact HF.out
      · have t1 : decide (arm ≥ 0) = false := by simpa using ha
        have t2 : decide (0 ≤ arm) = false := by simpa using ha
        go_wp2_with fail
        go_meet
        exact ⟨bl7, -1, HK7.out, HB7.out, HW7.out⟩
    case rest =>
      obtain ⟨bl8, a8, hK8, hb8, B8⟩ := hcut
      obtain ⟨w8, hw8⟩ : ∃ w8, w8 = wc := ⟨_, rfl⟩
      rw [← hw8] at hK8 B8 ⊢
      clear hw8
      have HK8 := Lib.hid hK8
      have HB8 : Hid (∀ b ∈ bl8, w6.heap.size ≤ b) := Lib.hid hb8
      have HW8 := Lib.hid B8
      have HRM : Hid (∀ wx, Below w6.heap.size w6 wx → Calls Tryz.prog 13 #[.pointer (some ⟨p0, 0, none⟩), .slice none 0 0, .slice none 0 0] wx (RetBt wx s2)) := Lib.hid (fun wx hb => by
        have h1 := range_any (fc := 0) (tc := 0) (T6.out.below hb) (Rd.nil wx none) (Rd.nil wx none) (by rw [HTL.out]; exact HZ2.out) (by rw [HTN.out, HKL2.out]; omega)
        rw [betw_all3 (by rw [HTL.out]; exact HS1.out), HTL.out] at h1
        exact h1)
      have HBIG := Lib.hid (table_big HS1.out HOK2.out (fun x hx => (HWF.out x hx).1) HL2.out HN2.out)
      have HR8 := Lib.hid (HRM.out w8 B8)
      clear hK8 hb8 B8 HK7 HB7 HW7
      go_wp2_with fail
      with_reducible refine HR8.out.mono ?_
      intro e w9 hq
      obtain ⟨L9, n9, d9, he, hrow⟩ := RetBt.out hq
      subst he
      have hn9 : n9 ≤ 200 := by have := hrow.len; have := HKL2.out; omega
      have HW9 := Lib.hid (belowT' HW8.out hrow.bel)
      have HRW := Lib.hid hrow.rd
      have HCP := Lib.hid hrow.cap.1
      have HK9 := Lib.hid (HK8.out.below hrow.bel)
      clear hq hrow HR8
      by_cases hz0 : (bytesT 40 s2).2 ≠ 0
      · as_aux_lemma =>
          have hbig : (bytesT 40 s2).2 = 2 ∧ 500000 < szL s2 := by
            rcases HBIG.out with h | h
            · exact absurd h hz0
            · exact h
          have HWN := Lib.hid (write_no (ys0 := []) 40 2 (.pointer (some ⟨p, 0, none⟩)) (.string { data := #[116] }) HRW.out hn9 HCP.out HT2.out (.inl ⟨hbig.1, by decide⟩))
          obtain ⟨sz, hsz⟩ : ∃ sz, sz = szL s2 := ⟨_, rfl⟩
          have hszb : 500000 < sz := by rw [hsz]; exact hbig.2
          have HSS : Hid (tr.sz = sz) := Lib.hid (by rw [HTS.out, hsz])
          clear hbig hsz hz0
          go_wp2_with fail
          with_reducible refine HWN.out.mono ?_
          rintro e wa ⟨h1, ba⟩
          subst h1
          obtain ⟨Wa, hWa⟩ : ∃ Wa, Wa = wa.alloc (.cells #[.slice none 0 0, .slice none 0 0, .int .i64 0, .int .i64 0] 38) := ⟨_, rfl⟩
          have bWa : Below wa.heap.size wa Wa := by rw [hWa]; exact (Below.refl _ _).alloc (Nat.le_refl _) _
          have HBa := Lib.hid (belowT' (belowT' HW9.out ba) bWa)
          have HWa := Lib.hid hWa
          have HSZ : Hid (Calls Tryz.prog 14 #[.pointer (some ⟨p0, 0, none⟩)] Wa (RetNu Wa (sz : Int))) := Lib.hid (by
            have h1 := size_any (T6.out.below HBa.out)
            rw [HSS.out] at h1
            exact h1)
          have tg : decide ((sz : Int) > 500000) = true := by simp; omega
          have tg2 : decide ((500000 : Int) < (sz : Int)) = true := by simp; omega
          clear ba bWa hWa HWN
          go_upto_region 13 with (fail)
          rw [← HWa.out]
          go_wp2_with fail
          with_reducible refine HSZ.out.mono ?_
          rintro e wb ⟨h1, bb⟩
          subst h1
          have HF : Hid (RetT w true (.returned (.bool true)) wb) := Lib.hid ⟨rfl, belowT' (belowT' B6.out HBa.out) bb⟩
          clear bb
          go_wp2_with fail
          go_ret
          exact HF.out
      · replace hz0 : (bytesT 40 s2).2 = 0 := Decidable.not_not.1 hz0
        obtain ⟨ys, hys⟩ : ∃ ys, ys = (bytesT 40 s2).1 := ⟨_, rfl⟩
        have hbt : bytesT 40 s2 = (ys, 0) := Prod.ext hys.symm hz0
        obtain ⟨hop, hun1, hun2, hyl, hgne⟩ := write_open hbt HWF.out
        have HBT := Lib.hid hbt
        have HOP := Lib.hid hop
        have HYL := Lib.hid hyl
        have HUN1 := Lib.hid hun1
        have HUN2 := Lib.hid hun2
        have HWR : Hid (∀ wx px bx Dx Lx nx cx, DK wx px bx Dx → LeftD Dx 1048584 → Dx.dead = false → Dx.room = 1073741824 → REs wx Lx nx s2 → nx ≤ cx → Calls Tryz.prog 12 #[.pointer (some ⟨px, 0, none⟩), .string { data := #[116] }, .int .i64 40, .slice Lx nx cx] wx (RetWk wx px bx (writeD Dx tB ys).1 (writeD Dx tB ys).2)) := Lib.hid (fun wx px bx Dx Lx nx cx q1 q2 q3 q4 q5 q6 => by
          have h1 := (writeD_left q2 q3 (ys := ys) (by have := HYL.out; omega)).2.2.2 (by omega) (by have := HYL.out; omega)
          exact write_DK (nm := tB) 40 q1 (q2.sz (by omega)) q5 (by have := q5.len; have := HL2.out; omega) q6 HT2.out HBT.out (by have := HYL.out; omega) (by rw [tB_len]; omega) h1.1 h1.2)
        have HOK : Hid (∀ wx px bx Dx, DK wx px bx Dx → Dx.fs = [(tB, ys, ys.length)] → Dx.dead = false → Calls Tryz.prog 17 #[.pointer (some ⟨px, 0, none⟩), .string { data := #[116] }] wx (RetTb wx s2 0 ys.length)) := Lib.hid (fun wx px bx Dx q1 q2 q3 => by
          have h1 := open_any (.pointer (some ⟨px, 0, none⟩)) (.string { data := #[116] }) (xs := ys) (w := wx) (by
            have h2 := read_DK tB q1 (sz_one q2 (by rw [tB_len]; omega) (by have := HYL.out; omega)) (by rw [tB_len]; omega)
            rw [read_whole q2 q3] at h2
            exact h2) (by have := HYL.out; omega) (by rw [HUN1.out]; have := HL2.out; omega) (by have := HUN2.out; have := HL2.out; omega) (fun x hx => by rw [HUN1.out] at hx; exact (HZ2.out x hx).1)
          rw [HOP.out] at h1
          exact h1)
        have HON : Hid (∀ wx px bx Dx, DK wx px bx Dx → LeftD Dx 1048584 → Dx.dead = false → Calls Tryz.prog 17 #[.pointer (some ⟨px, 0, none⟩), .string { data := #[116] }] wx (RetTn wx 6)) := Lib.hid (fun wx px bx Dx q1 q2 q3 => open_none _ _ (by
          have h2 := read_DK tB q1 (q2.sz (by omega)) (by rw [tB_len]; omega)
          rw [read_left q2 q3] at h2
          exact h2))
        have hL1 : LeftD ⟨[], 1073741824, a8, false⟩ 1048584 := .inl rfl
        obtain ⟨hwd, hroom, _, _⟩ := writeD_left (ys := ys) hL1 rfl (by have := HYL.out; simp only; omega)
        obtain ⟨D3, hD3⟩ : ∃ x, x = (writeD ⟨[], 1073741824, a8, false⟩ tB ys).1 := ⟨_, rfl⟩
        obtain ⟨k3, hk3⟩ : ∃ x, x = (writeD ⟨[], 1073741824, a8, false⟩ tB ys).2 := ⟨_, rfl⟩
        rw [← hD3, ← hk3] at hwd
        rw [← hD3] at hroom
        have HWD := Lib.hid hwd
        have HRO : Hid (D3.room = 1073741824) := Lib.hid hroom
        have HWT : Hid (Calls Tryz.prog 12 #[.pointer (some ⟨p, 0, none⟩), .string { data := #[116] }, .int .i64 40, .slice L9 n9 d9] w9 (RetWk w9 p bl8 D3 k3)) := Lib.hid (by
          rw [hD3, hk3]
          exact HWR.out w9 p bl8 _ L9 n9 d9 HK9.out hL1 rfl rfl HRW.out HCP.out)
        have tk2 : (k3 == 2) = false := by
          rcases HWD.out with ⟨h9, _⟩ | ⟨h0, _⟩
          · rw [h9]; rfl
          · rw [h0]; rfl
        clear hz0 hys hbt hop hun1 hun2 hyl hgne hL1 hwd hroom hD3 hk3
        go_wp2_with fail
        with_reducible refine HWT.out.mono ?_
        intro e wa hq
        obtain ⟨K8, kn8, kc8, L8, ln8, lc8, c81, c82, bla, h1, hKa, hFa, hBa⟩ := hq
        subst h1
        have hs9 := HW9.out.size
        have HBa : Hid (∀ b ∈ bla, w6.heap.size ≤ b) := Lib.hid (fun b hb => by
          rcases hBa b hb with q | q
          · exact HB8.out b q
          · omega)
        obtain ⟨Wa, hWa⟩ : ∃ Wa, Wa = wa.alloc (.cells #[.slice K8 kn8 kc8, .slice L8 ln8 lc8, .int .i64 c81, .int .i64 c82] 38) := ⟨_, rfl⟩
        have bWa : Below wa.heap.size wa Wa := by rw [hWa]; exact (Below.refl _ _).alloc (Nat.le_refl _) _
        have HBW : Hid (Below w6.heap.size w6 Wa) := Lib.hid (belowT' (HW9.out.trans (hFa.below HB8.out hs9)) bWa)
        have HKa := Lib.hid (hKa.below bWa)
        obtain ⟨dd3, hdd3⟩ : ∃ x, x = D3.dead := ⟨_, rfl⟩
        have HDD : Hid (Calls Tryz.prog 15 #[.pointer (some ⟨p, 0, none⟩)] Wa fun e' w' => e' = .returned (.bool dd3) ∧ Wa = w') := Lib.hid (by rw [hdd3]; exact dead_DK (hKa.below bWa))
        have HD3 := Lib.hid hdd3
        have HWE := Lib.hid hWa
        clear hKa hFa hBa hs9 HWT bWa hWa hdd3
        go_upto_region 13 with (fail)
        rw [← HWE.out]
        go_wp2_with fail
        with_reducible refine HDD.out.mono ?_
        rintro e wb ⟨rfl, rfl⟩
        go_upto_if 68 with (fail)
        go_cut [10] (fun s10 wx => s10 = .int .i64 0 ∧ ∃ bl D, DK wx p bl D ∧ D.fs = [(tB, ys, ys.length)] ∧ D.dead = false ∧ (∀ b ∈ bl, w6.heap.size ≤ b) ∧ Below w6.heap.size w6 wx)
        case first =>
          as_aux_lemma =>
            rcases HWD.out with ⟨h9, hdd, hlf, hne⟩ | ⟨h0, hdd, hfs⟩
            · obtain ⟨hl4, hd4, ha4, hr4⟩ := crash_left hlf [arm, 1]
              have hl4' : LeftD (crashD D3 [arm, 1]) 1048584 := by
                rcases hl4 with h | ⟨c', s', h, q1, q2⟩
                · exact .inl h
                · exact .inr ⟨c', s', h, q1, by have := HYL.out; omega⟩
              have hsz3 : SzD D3 := hlf.sz (by have := HYL.out; omega)
              obtain ⟨W2, hW2⟩ : ∃ W2, W2 = Wa.alloc (.cells #[.int .i64 arm, .int .i64 1] 3) := ⟨_, rfl⟩
              have bW2 : Below Wa.heap.size Wa W2 := by rw [hW2]; exact (Below.refl _ _).alloc (Nat.le_refl _) _
              have zW2 : Cl W2 Wa.heap.size #[.int .i64 arm, .int .i64 1] 3 := by rw [hW2]; exact Cl.new _ _ _
              have rW2 : RdV W2 (some ⟨Wa.heap.size, 0, none⟩) 2 (ivs [arm, 1]) := ⟨rfl, fun _ => ⟨_, 0, rfl, zW2.lt, fun i v hv => by
                match i, hv with
                | 0, hv => injection hv with hv; subst hv; exact zW2.cell 0
                | 1, hv => injection hv with hv; subst hv; exact zW2.cell 1
                | i + 2, hv => cases hv⟩⟩
              have HCR : Hid (Calls Tryz.prog 16 #[.pointer (some ⟨p, 0, none⟩), .slice (some ⟨Wa.heap.size, 0, none⟩) 2 2] W2 (RetDK W2 p bla (crashD D3 [arm, 1]) (.tuple #[]))) := Lib.hid (crash_DK _ 2 2 [arm, 1] (HKa.out.below bW2) hsz3 rW2 (fun _ b hb hm => by
                have h1 := HKa.out.lt b hm
                have h2 : Wa.heap.size = b := Option.some.inj hb
                omega) (by omega) (fun z hz => by
                rcases List.mem_cons.1 hz with q | q
                · rw [q]; exact HI.out
                · rw [List.mem_singleton.1 q]; unfold I64; omega))
              have HW2' : Hid (Below w6.heap.size w6 W2) := Lib.hid (belowT' HBW.out bW2)
              obtain ⟨D4, hD4⟩ : ∃ x, x = crashD D3 [arm, 1] := ⟨_, rfl⟩
              rw [← hD4] at hl4' hd4 ha4 hr4 HCR
              have HL4 := Lib.hid hl4'
              have HD4 : Hid (D4.dead = false) := Lib.hid hd4
              have HR4 : Hid (D4.room = 1073741824) := Lib.hid (by rw [hr4]; exact HRO.out)
              obtain ⟨hwd5, _, hk5, _⟩ := writeD_left (ys := ys) hl4' hd4 (by rw [hr4, HRO.out]; have := HYL.out; omega)
              have hk50 := hk5 ha4
              have hfs5 : (writeD D4 tB ys).1.dead = false ∧ (writeD D4 tB ys).1.fs = [(tB, ys, ys.length)] := by
                rcases hwd5 with ⟨q1, _⟩ | ⟨_, q2, q3⟩
                · rw [hk50] at q1; exact absurd q1 (by decide)
                · exact ⟨q2, q3⟩
              obtain ⟨D5, hD5⟩ : ∃ x, x = (writeD D4 tB ys).1 := ⟨_, rfl⟩
              rw [← hD5] at hfs5
              have HFS5 := Lib.hid hfs5
              have HWR5 : Hid (∀ wx bx Lx nx cx, DK wx p bx D4 → REs wx Lx nx s2 → nx ≤ cx → Calls Tryz.prog 12 #[.pointer (some ⟨p, 0, none⟩), .string { data := #[116] }, .int .i64 40, .slice Lx nx cx] wx (RetWk wx p bx D5 0)) := Lib.hid (fun wx bx Lx nx cx q1 q2 q3 => by
                have h1 := HWR.out wx p bx D4 Lx nx cx q1 HL4.out HD4.out HR4.out q2 q3
                rw [hk50, ← hD5] at h1
                exact h1)
              have hdt : dd3 = true := by rw [HD3.out]; exact hdd
              have HW2E := Lib.hid hW2
              clear hl4 hl4' hd4 ha4 hr4 hD4 hwd5 hk5 hk50 hfs5 hD5 hlf hne hdd bW2 rW2 hW2 hsz3
              subst hdt h9
              go_wp2_with fail
              rw [← HW2E.out]
              with_reducible refine HCR.out.mono ?_
              intro e wc hq
              obtain ⟨h1, blc, hKc, _, _, hbc, Bc⟩ := hq.step HW2'.out HBa.out
              subst h1
              have HBc : Hid (∀ b ∈ blc, w6.heap.size ≤ b) := Lib.hid hbc
              have HWc := Lib.hid Bc
              have HKc := Lib.hid hKc
              have HOc := Lib.hid (HON.out wc p blc D4 hKc HL4.out HD4.out)
              clear hq hKc hbc Bc HCR
              go_wp2_with fail
              with_reducible refine HOc.out.mono ?_
              rintro e wd ⟨h1, bd⟩
              subst h1
              have HWd := Lib.hid (belowT' HWc.out bd)
              have HKd := Lib.hid (HKc.out.below bd)
              have HRd := Lib.hid (HRM.out wd HWd.out)
              clear bd HOc
              go_wp2_with fail
              with_reducible refine HRd.out.mono ?_
              intro e we hq
              obtain ⟨Le, ne, de, he, hrow⟩ := RetBt.out hq
              subst he
              have HWe := Lib.hid (belowT' HWd.out hrow.bel)
              have HWf := Lib.hid (HWR5.out we blc Le ne de (HKd.out.below hrow.bel) hrow.rd hrow.cap.1)
              clear hq hrow HRd
              go_wp2_with fail
              with_reducible refine HWf.out.mono ?_
              intro e wf hq
              obtain ⟨K8, kn8, kc8, L8, ln8, lc8, c81, c82, blf, h1, hKf, hFf, hBf⟩ := hq
              subst h1
              have hse := HWe.out.size
              have HF : Hid (∃ bl D, DK wf p bl D ∧ D.fs = [(tB, ys, ys.length)] ∧ D.dead = false ∧ (∀ b ∈ bl, w6.heap.size ≤ b) ∧ Below w6.heap.size w6 wf) := Lib.hid ⟨blf, D5, hKf, HFS5.out.2, HFS5.out.1, (fun b hb => by
                rcases hBf b hb with q | q
                · exact HBc.out b q
                · omega), HWe.out.trans (hFf.below HBc.out hse)⟩
              clear hKf hFf hBf hse HWf
              go_wp2_with fail
              go_meet
              exact ⟨rfl, HF.out⟩
            · have hdt : dd3 = false := by rw [HD3.out]; exact hdd
              have HF : Hid (∃ bl D, DK Wa p bl D ∧ D.fs = [(tB, ys, ys.length)] ∧ D.dead = false ∧ (∀ b ∈ bl, w6.heap.size ≤ b) ∧ Below w6.heap.size w6 Wa) := Lib.hid ⟨bla, D3, HKa.out, hfs, hdd, HBa.out, HBW.out⟩
              clear hdd hfs
              subst hdt h0
              go_wp2_with fail
              go_meet
              exact ⟨rfl, HF.out⟩
        case rest =>
          obtain ⟨rfl, blb, D5, hKb, hfs5, hdd5, hbb, Bb⟩ := hcut
          obtain ⟨wB, hwB⟩ : ∃ wB, wB = wc := ⟨_, rfl⟩
          rw [← hwB] at hKb Bb ⊢
          clear hwB
          have HKB := Lib.hid hKb
          have HWB := Lib.hid Bb
          have HFS := Lib.hid hfs5
          have HDE := Lib.hid hdd5
          have HOB := Lib.hid (HOK.out wB p blb D5 hKb hfs5 hdd5)
          clear hKb hfs5 hdd5 hbb Bb HWD HRO HKa HBW HBa HDD HD3 tk2 HWE HK9 HRW HCP HW9 HB8 HK8 HW8 HBIG
          go_wp2_with fail
          with_reducible refine HOB.out.mono ?_
          intro e wC hq
          obtain ⟨_, tb, x', y', K3, kn3, kc3, F3, fn3, fc3, L3, m3, d3, h1, _, _, zt, _, _, r3, _, bC⟩ : 0 = 0 ∧ ∃ tb x' y' K kn kc F fl fc L m d, e = .returned (.tuple #[.pointer (some ⟨tb, 0, none⟩), .int .i64 0]) ∧ s2[0]? = some x' ∧ s2[s2.length - 1]? = some y' ∧ Cl wC tb #[.slice K kn kc, .slice F fl fc, .int .i64 (s2.length : Int), .int .i64 (ys.length : Int), .slice L m d] 49 ∧ Own 5 wC wB.heap.size K kn kc x'.key ∧ Own 5 wC wB.heap.size F fl fc y'.key ∧ REs wC L m s2 ∧ m ≤ d ∧ Below wB.heap.size wB wC := by
            rcases hq with ⟨h1, _⟩ | ⟨h1, h2⟩
            · exact absurd rfl h1
            · exact ⟨rfl, h2⟩
          subst h1
          obtain rfl : m3 = k2 := by have := r3.len; have := HKL2.out; omega
          rw [HKL2.out] at zt
          have HWC := Lib.hid (belowT' HWB.out bC)
          have HKC := Lib.hid (HKB.out.below bC)
          have HZT := Lib.hid zt
          have HR3 := Lib.hid r3
          have HLN : Hid (∀ wx, Below wC.heap.size wC wx → Calls Tryz.prog 18 #[.pointer (some ⟨p0, 0, none⟩)] wx (RetNu wx (m3 : Int))) := Lib.hid (fun wx hb => by
            have h1 := len_any (T6.out.below (belowT' HWC.out hb))
            rw [HTN.out, HKL2.out] at h1
            exact h1)
          have HLS : Hid (∀ wx, Below wC.heap.size wC wx → Calls Tryz.prog 19 #[.pointer (some ⟨p, 0, none⟩), .string { data := #[] }] wx (RetNm wx [tB])) := Lib.hid (fun wx hb => by
            have h1 := list_DK [] (HKC.out.below hb) (sz_one HFS.out (by rw [tB_len]; omega) (by have := HYL.out; omega))
            have h2 : listD D5 [] = [tB] := by
              unfold listD
              rw [if_neg (by rw [HDE.out]; decide), HFS.out]
              rfl
            rw [h2] at h1
            exact h1)
          have hS0 : wC.cell? ⟨tb, 2, none⟩ = some (.int .i64 (m3 : Int)) := zt.cell 2
          have HSX : Hid (∀ wx, Below wC.heap.size wC wx → wx.cell? ⟨tb, 2, none⟩ = some (.int .i64 (m3 : Int))) := Lib.hid (fun wx hb => (zt.below hb).cell 2)
          have hB0 : Below wC.heap.size wC wC.drew := (Below.refl _ _).drew
          have tm : ((m3 : Int) != (m3 : Int)) = false := by simp
          clear hq zt r3 bC HOB
          go_upto_region 22 with (fail)
          go_cut [118] from 93 to 119 (fun s118 wx => s118 = .bool false ∧ Below wC.heap.size wC wx)
          case first =>
            -- R0
            go_region_held3 (fun wx => wx.cell? ⟨tb, 2, none⟩ = some (.int .i64 (m3 : Int))) (first | assumption | exact HSX.out _ hB0)
              (first | (go_at_call 18; with_reducible refine (HLN.out _ (by assumption)).mono ?_; intro e1 wn hq; obtain ⟨h1, bn⟩ := RetNu.outK hq; subst h1; have bn' := belowT (by assumption : Below wC.heap.size wC _) bn; have hS1 := HSX.out _ bn') | (go_at_call 19; with_reducible refine (HLS.out _ (by assumption)).mono ?_; intro e1 wn hq; obtain ⟨AL, cL, h1, bn⟩ := RetNm.outK hq; subst h1; have bn' := belowT (by assumption : Below wC.heap.size wC _) bn; have hS1 := HSX.out _ bn'))
            all_goals
              have HBN := Lib.hid bn'
              clear bn bn' hS1
              go_wp2_with fail
              go_meet
              exact ⟨rfl, HBN.out⟩
            -- R1
          case rest =>
            obtain ⟨rfl, bD⟩ := hcut
            obtain ⟨wD, hwD⟩ : ∃ wD, wD = wc := ⟨_, rfl⟩
            rw [← hwD] at bD ⊢
            clear hwD
            have HWD2 := Lib.hid (belowT' HWC.out bD)
            have HST : Hid (∀ wx, Below wD.heap.size wD wx → Cl wx tb #[.slice K3 kn3 kc3, .slice F3 fn3 fc3, .int .i64 (m3 : Int), .int .i64 (ys.length : Int), .slice L3 m3 d3] 49 ∧ REs wx L3 m3 s2 ∧ REs wx L2 m3 s2 ∧ TB pl3 (fun _ => True) wx p0 tr ∧ Below w.heap.size w wx) := Lib.hid (fun wx hb => by
              have h1 := belowT bD hb
              have h2 := belowT' HWC.out h1
              exact ⟨HZT.out.below h1, HR3.out.below h1, R6.out.below h2, T6.out.below h2, belowT' B6.out h2⟩)
            clear bD hS0 HSX hB0 HLN HLS HZT HR3 HWC HKC HKB HWB HFS HDE
            obtain ⟨bL, offL, hLe, hbL⟩ := R6.out.pos (by have := HN2.out; have := HKL2.out; omega)
            subst hLe
            obtain ⟨kvs, hkv1, hkv2, hkv3⟩ := HKS.out.vals
            have HKY : Hid (KyT wD wD B r) := Lib.hid (by
              obtain ⟨_, _, _, _, hbw⟩ := HST.out wD (Below.refl _ _)
              refine ⟨kvs, hkv1.below hbw, fun v hv => ?_, hkv3⟩
              obtain ⟨i, hi⟩ := List.getElem?_of_mem hv
              have hil := (List.getElem?_eq_some_iff.1 hi).1
              have h1 := hkv1.1
              have h2 := HKS.out.1
              obtain ⟨xs, hxs⟩ : ∃ xs, kss[i]? = some xs := ⟨_, List.getElem?_eq_getElem (by omega)⟩
              have h3 := hkv2 i v xs hi hxs
              obtain ⟨A1, n1, c1, e1, e2, e3, e4⟩ := h3
              exact ⟨xs, ⟨A1, n1, c1, e1, e2.below hbw, e3, e4⟩, by
                have := tot_memT (List.mem_of_getElem? hxs)
                have := HKT.out
                omega⟩)
            have hr1 : r ≤ 1048576 := by have := tot_len kss; have := HKS.out.1; have := HKT.out; omega
            clear hkv1 hkv2 hkv3
            go_wp2_with fail
            go_loopw [2, 15, 121] (fun q2 q15 q121 wr => ∃ (j kn kd ad : Nat) (Kx Ax : Option Addr), j ≤ m3 ∧ q121 = .int .i64 (j : Int) ∧ q2 = .slice Kx kn kd ∧ q15 = .slice Ax j ad ∧ kn ≤ r + j ∧ KyT wD wr Kx kn ∧ AlS wD s2 j Ax ad wr) (fun _ _ q _ => m3 - (intOf q).toNat)
            case atStart => exact ⟨0, r, dd, 0, B, none, Nat.zero_le _, rfl, rfl, rfl, Nat.le_refl _, HKY.out, [], OwnV.nil _ _ _, (fun i v hv => by simp at hv), (fun v hv => by cases hv), Below.refl _ _⟩
            case round =>
              obtain ⟨j, kn, kd, ad, Kx, Ax, hj, rfl, rfl, rfl, hkn, hky, hal⟩ := hrel
              have HKY2 := Lib.hid hky
              have HAL := Lib.hid hal
              by_cases hjm : j < m3
              · -- C0
                obtain ⟨avs, oA, hA1, hA2, hbr⟩ := hal
                obtain ⟨_, _, hrD, _, _⟩ := HST.out wD (Below.refl _ _)
                obtain ⟨x, v0, v1, v2, v3, hx, c0, c1, c2, c3, hev⟩ := hrD.at_ j hjm
                obtain ⟨K, en, ec, V, vn, vc, rfl, rfl, rfl, rfl, _⟩ := hev.parts
                have hbLD : bL < wD.heap.size := Nat.lt_of_lt_of_le hbL HWD2.out.size
                have d0 := (hbr.cell (p := ⟨bL, offL + j * 4, none⟩) hbLD).trans c0
                have d1 := (hbr.cell (p := ⟨bL, offL + j * 4 + 1, none⟩) hbLD).trans c1
                have d2 := (hbr.cell (p := ⟨bL, offL + j * 4 + 2, none⟩) hbLD).trans c2
                have d3 := (hbr.cell (p := ⟨bL, offL + j * 4 + 3, none⟩) hbLD).trans c3
                have HEL : Hid (ElB wD (.slice K en ec) x.key ∧ x.key.length ≤ 1048576) := Lib.hid ⟨hev.2.2.2.2.1, by have := (long_ok (HOK2.out x (List.mem_of_getElem? hx))).1; omega⟩
                have HXK := Lib.hid hx
                have HBR := Lib.hid hbr
                have HAO := Lib.hid oA
                have HA1 := Lib.hid hA1
                have HA2 := Lib.hid hA2
                have hAlt : ∀ b, blk Ax = some b → wD.heap.size ≤ b ∧ b < wr.heap.size := fun b hb => oA.lt b hb
                have HALT := Lib.hid hAlt
                obtain ⟨U, hU⟩ : ∃ U, U = wr.alloc (.cells #[.slice K en ec, .int .u64 (x.seq : Int), .int .u8 (x.kind : Int), .slice V vn vc] 31) := ⟨_, rfl⟩
                have bU : Below wr.heap.size wr U := by rw [hU]; exact (Below.refl _ _).alloc (Nat.le_refl _) _
                have zU : Cl U wr.heap.size #[.slice K en ec, .int .u64 (x.seq : Int), .int .u8 (x.kind : Int), .slice V vn vc] 31 := by rw [hU]; exact Cl.new _ _ _
                have HU := Lib.hid hU
                have HBU := Lib.hid bU
                clear oA hA1 hA2 hrD hev hx hbr c0 c1 c2 c3 hAlt HAL
                go_upto_region 28 with (fail)
                rw [← HU.out]
                obtain ⟨kvs2, hk1, hk2, hk3⟩ := HKY2.out
                have HK2L := Lib.hid hk2
                have HKR : Hid (∀ wx, Below U.heap.size U wx → RdV wx Kx kn kvs2) := Lib.hid (fun wx hb => hk1.below (bU.trans (hb.mono bU.size)))
                have e0 : U.cell? ⟨wr.heap.size, 0, none⟩ = some (.slice K en ec) := zU.cell 0
                have e1 : ∀ o, (U.alloc o).cell? ⟨wr.heap.size, 0, none⟩ = some (.slice K en ec) := fun o => (zU.alloc o).cell 0
                have HE2 : Hid (∀ wx, Below U.heap.size U wx → wx.cell? ⟨wr.heap.size, 0, none⟩ = some (.slice K en ec)) := Lib.hid (fun wx hb => (zU.below hb).cell 0)
                clear hky hk1 hk2 hU bU zU d0 d1 d2 d3
                go_cut [2] from 125 to 132 (fun q2 wx => ∃ K2 kd2, q2 = .slice K2 (kn + 1) kd2 ∧ OwnV 28 wx U.heap.size K2 (kn + 1) kd2 (kvs2 ++ [.slice K en ec]) ∧ Below U.heap.size U wx)
                case first =>
                  go_region_law (first | (refine step_appW _ rfl (Operand.tmp 127) (Operand.tmp 130) 23 rfl U.heap.size 28 _ 24 Tryz.underlying23 info_sl rfl A1 kn c1 kvs2 (by simp [Act.eval]) (by first | exact h1 | exact h1.below ((Below.refl _ _).alloc (Nat.le_refl _) _) | exact h1.below ((Below.refl _ _).alloc (Nat.le_refl _) _).drew | exact h1.below ((Below.refl _ _).drew)) (some ⟨w1.heap.size, 0, none⟩) 1 1 [.slice K en ec] (by simp [Act.eval]) (rdv_box1 (by first | exact heap_alloc_new _ _ | (simpa using heap_alloc_new _ _))) (by intro u hu; rw [List.mem_singleton] at hu; subst hu; rfl) (by unfold maxLen; omega) (by omega) (by first | exact s1 | (simp; omega)) ?_; intro K2 c2 w2 h2 g2; have b2 : Below U.heap.size U w2 := Below.grown (by first | exact b1 | exact b1.alloc b1.size _ | exact (b1.alloc b1.size _).drew | exact b1.drew) g2 (by first | exact s1 | (simp; omega)) (fun k hk => (h1.lt k hk).1)) | (refine step_appW _ rfl (Operand.tmp 127) (Operand.tmp 130) 23 rfl U.heap.size 28 _ 24 Tryz.underlying23 info_sl rfl A1 kn c1 kvs2 (by simp [Act.eval]) (by first | exact h1 | exact h1.below ((Below.refl _ _).alloc (Nat.le_refl _) _) | exact h1.below ((Below.refl _ _).alloc (Nat.le_refl _) _).drew | exact h1.below ((Below.refl _ _).drew)) (some ⟨U.heap.size + 1, 0, none⟩) 1 1 [.slice K en ec] (by simp [Act.eval]) (rdv_box1 ((g1.block _ (by first | exact size_at2 U _ _ | (simp; omega)) (by simp [blk])).trans (by first | exact heap_at2 U _ _ | exact heap_alloc_new _ _))) (by intro u hu; rw [List.mem_singleton] at hu; subst hu; rfl) (by unfold maxLen; omega) (by omega) (by first | exact s1 | (simp; omega)) ?_; intro K2 c2 w2 h2 g2; have b2 : Below U.heap.size U w2 := Below.grown (by first | exact b1 | exact b1.alloc b1.size _ | exact (b1.alloc b1.size _).drew | exact b1.drew) g2 (by first | exact s1 | (simp; omega)) (fun k hk => (h1.lt k hk).1)) | (refine step_appW _ rfl (Operand.tmp 127) (Operand.tmp 130) 23 rfl U.heap.size 28 _ 24 Tryz.underlying23 info_sl rfl A1 kn c1 kvs2 (by simp [Act.eval]) (by first | exact h1 | exact h1.below ((Below.refl _ _).alloc (Nat.le_refl _) _) | exact h1.below ((Below.refl _ _).alloc (Nat.le_refl _) _).drew | exact h1.below ((Below.refl _ _).drew)) (some ⟨U.heap.size, 0, none⟩) 1 1 [.slice K en ec] (by simp [Act.eval]) (rdv_box1 ((g1.block _ (by first | exact size_at1 U _ _ | (simp; omega)) (by simp [blk])).trans (by first | exact heap_at1 U _ _ | exact heap_alloc_new _ _))) (by intro u hu; rw [List.mem_singleton] at hu; subst hu; rfl) (by unfold maxLen; omega) (by omega) (by first | exact s1 | (simp; omega)) ?_; intro K2 c2 w2 h2 g2; have b2 : Below U.heap.size U w2 := Below.grown (by first | exact b1 | exact b1.alloc b1.size _ | exact (b1.alloc b1.size _).drew | exact b1.drew) g2 (by first | exact s1 | (simp; omega)) (fun k hk => (h1.lt k hk).1)) | (refine step_appW _ rfl (Operand.tmp 125) (Operand.tmp 126) 23 rfl U.heap.size 28 _ 24 Tryz.underlying23 info_sl rfl (some ⟨U.heap.size, 0, none⟩) 0 0 [] (by simp [Act.eval]) (ownV_at0 (by omega) (by first | exact heap_alloc_new _ _ | (refine (heap_alloc_old _ _ (by simp)).trans ?_; exact heap_alloc_new _ _) | (simpa using heap_alloc_new _ _))) Kx kn kd kvs2 (by simp [Act.eval]) (HKR.out _ (by first | exact (Below.refl _ _).alloc (Nat.le_refl _) _ | exact ((Below.refl _ _).alloc (Nat.le_refl _) _).drew | exact ((Below.refl _ _).alloc (Nat.le_refl _) _).drew.drew | exact (((Below.refl _ _).alloc (Nat.le_refl _) _).drew).alloc (by simp) _ | exact ((((Below.refl _ _).alloc (Nat.le_refl _) _).drew).alloc (by simp) _).drew | exact ((((Below.refl _ _).alloc (Nat.le_refl _) _)).alloc (by simp) _).drew)) hk3 (by unfold maxLen; omega) (by omega) (by first | (simp; done) | exact Nat.le_trans (Nat.le_succ _) (Nat.le_succ _) | (simp; omega) | (simp; exact Nat.le_trans (Nat.le_succ _) (Nat.le_succ _))) ?_; intro A1 c1 w1 h1 g1; rw [Nat.zero_add, List.nil_append] at h1; (try rw [Nat.zero_add]); have b1 : Below U.heap.size U w1 := Below.grown (by first | exact (Below.refl _ _).alloc (Nat.le_refl _) _ | exact ((Below.refl _ _).alloc (Nat.le_refl _) _).drew | exact ((Below.refl _ _).alloc (Nat.le_refl _) _).drew.drew | exact (((Below.refl _ _).alloc (Nat.le_refl _) _).drew).alloc (by simp) _ | exact ((((Below.refl _ _).alloc (Nat.le_refl _) _).drew).alloc (by simp) _).drew | exact ((((Below.refl _ _).alloc (Nat.le_refl _) _)).alloc (by simp) _).drew) g1 (by first | (simp; done) | exact Nat.le_trans (Nat.le_succ _) (Nat.le_succ _) | (simp; omega) | (simp; exact Nat.le_trans (Nat.le_succ _) (Nat.le_succ _))) (fun k hk => by have h2 : U.heap.size = k := Option.some.inj hk; omega); have f1 := HE2.out w1 b1; have f2 := fun o => HE2.out _ (b1.alloc b1.size o); have s1 := b1.size) | (refine step_appW _ rfl (Operand.tmp 125) (Operand.tmp 126) 23 rfl U.heap.size 28 _ 24 Tryz.underlying23 info_sl rfl (some ⟨U.heap.size + 1, 0, none⟩) 0 0 [] (by simp [Act.eval]) (ownV_at0 (by omega) (by have hz : (U.alloc (Obj.cells #[Value.slice K en ec] 28)).heap.size = U.heap.size + 1 := (by simp); have h := heap_alloc_new (U.alloc (Obj.cells #[Value.slice K en ec] 28)) (Obj.cells #[] 28); rw [hz] at h; exact h)) Kx kn kd kvs2 (by simp [Act.eval]) (HKR.out _ (by first | exact ((((Below.refl U.heap.size U).alloc (Nat.le_refl _) _)).alloc (by simp) _).drew | exact ((((Below.refl U.heap.size U).alloc (Nat.le_refl _) _)).alloc (by simp) _) | exact ((((Below.refl U.heap.size U).alloc (Nat.le_refl _) _)).alloc (by simp) _).drew.drew)) hk3 (by unfold maxLen; omega) (by omega) (by first | exact ((((Below.refl U.heap.size U).alloc (Nat.le_refl _) _)).alloc (by simp) _).drew.size | exact ((((Below.refl U.heap.size U).alloc (Nat.le_refl _) _)).alloc (by simp) _).size | exact ((((Below.refl U.heap.size U).alloc (Nat.le_refl _) _)).alloc (by simp) _).drew.drew.size) ?_; intro A1 c1 w1 h1 g1; rw [Nat.zero_add, List.nil_append] at h1; (try rw [Nat.zero_add]); have b1 : Below U.heap.size U w1 := Below.grown (by first | exact ((((Below.refl U.heap.size U).alloc (Nat.le_refl _) _)).alloc (by simp) _).drew | exact ((((Below.refl U.heap.size U).alloc (Nat.le_refl _) _)).alloc (by simp) _) | exact ((((Below.refl U.heap.size U).alloc (Nat.le_refl _) _)).alloc (by simp) _).drew.drew) g1 (by first | exact ((((Below.refl U.heap.size U).alloc (Nat.le_refl _) _)).alloc (by simp) _).drew.size | exact ((((Below.refl U.heap.size U).alloc (Nat.le_refl _) _)).alloc (by simp) _).size | exact ((((Below.refl U.heap.size U).alloc (Nat.le_refl _) _)).alloc (by simp) _).drew.drew.size) (fun k hk => by have h2 : U.heap.size + 1 = k := Option.some.inj hk; omega); have f1 := HE2.out w1 b1; have f2 := fun o => HE2.out _ (b1.alloc b1.size o); have s1 := b1.size))
                  all_goals
                    have HX : Hid (∃ K3 kd3, Value.slice K2 (kn + 1) c2 = .slice K3 (kn + 1) kd3 ∧ OwnV 28 w2 U.heap.size K3 (kn + 1) kd3 (kvs2 ++ [.slice K en ec]) ∧ Below U.heap.size U w2) := Lib.hid ⟨K2, c2, rfl, h2, b2⟩
                    clear h2 b2 g2 h1 g1 b1 f1 f2 s1
                    go_wp2_with fail
                    go_meet
                    exact HX.out
                case rest =>
                  obtain ⟨K2, kd2, rfl, oK2, bK2⟩ := hcut
                  obtain ⟨wE, hwE⟩ : ∃ wE, wE = wc := ⟨_, rfl⟩
                  rw [← hwE] at oK2 bK2 ⊢
                  clear hwE
                  have bUE := belowT' HBU.out bK2
                  have HAE := Lib.hid (HAO.out.below bUE)
                  have HBE := Lib.hid (HBR.out.trans (bUE.mono HBR.out.size))
                  have sE := bK2.size
                  have sU := HBU.out.size
                  have sR := HBR.out.size
                  have m0 := HE2.out wE bK2
                  have HOK := Lib.hid oK2
                  clear oK2 bK2 bUE e0 e1
                  go_wp2_with (at_builtin; refine wpList_app1 wE rfl _ _ 23 rfl wD.heap.size 28 _ 24 Tryz.underlying23 info_sl rfl Ax j ad avs rfl HAE.out (.slice K en ec) rfl wE.heap.size rfl rfl ?_ ?_ ?_ ?_)
                  · unfold maxLen; omega
                  · omega
                  · omega
                  intro A9 ad9 w9 oA9 gA9 _
                  have HK9 : Hid (KyT wD w9 K2 (kn + 1)) := Lib.hid ⟨kvs2 ++ [.slice K en ec], (HOK.out.kept gA9 (fun b hb e => by have := (HOK.out.lt b hb).1; have := (HALT.out b e).2; omega)).rd, fun v hv => by
                    rcases List.mem_append.1 hv with q | q
                    · exact HK2L.out v q
                    · rw [List.mem_singleton] at q; rw [q]; exact ⟨_, HEL.out⟩, fun v hv => by
                    rcases List.mem_append.1 hv with q | q
                    · exact hk3 v q
                    · rw [List.mem_singleton] at q; rw [q]; rfl⟩
                  have HA9 : Hid (AlS wD s2 (j + 1) A9 ad9 w9) := Lib.hid ⟨avs ++ [.slice K en ec], oA9, fun i v hv => by
                    have hal := HAE.out.len
                    by_cases hi : i < avs.length
                    · rw [List.getElem?_append_left hi] at hv
                      exact HA1.out i v hv
                    · rw [List.getElem?_append_right (by omega)] at hv
                      have hi2 : i - avs.length = 0 := by
                        have := (List.getElem?_eq_some_iff.1 hv).1
                        simp at this
                        exact this
                      rw [hi2] at hv
                      injection hv with hv
                      obtain rfl : i = j := by omega
                      exact ⟨x, HXK.out, by rw [← hv]; exact HEL.out.1⟩, fun v hv => by
                    rcases List.mem_append.1 hv with q | q
                    · exact HA2.out v q
                    · rw [List.mem_singleton] at q; rw [q]; rfl, HBE.out.grown gA9 (by omega) (fun b hb => (HALT.out b hb).1)⟩
                  clear oA9 gA9 m0
                  go_wp2_with fail
                  go_roundw
                  case rel => exact ⟨j + 1, kn + 1, kd2, ad9, K2, A9, by omega, by go_num, rfl, rfl, by omega, HK9.out, HA9.out⟩
                  case measure => simp [intOf]; omega
                -- C1
              · obtain rfl : j = m3 := by omega
                obtain ⟨avs, oA, hA1, hA2, hbr⟩ := hal
                obtain ⟨xss, hxss⟩ : ∃ xss, xss = s2.map (·.key) := ⟨_, rfl⟩
                have hxl : xss.length = j := by rw [hxss, List.length_map]; exact HKL2.out
                have hrl : RdL wr Ax j xss := ⟨hxl, fun hn => by
                  obtain ⟨b, off, e1, hlt, hc⟩ := oA.rd.2 hn
                  refine ⟨b, off, e1, hlt, fun i xs hi => ?_⟩
                  have hil := (List.getElem?_eq_some_iff.1 hi).1
                  have hal := oA.len
                  obtain ⟨v, hv⟩ : ∃ v, avs[i]? = some v := ⟨_, List.getElem?_eq_getElem (by omega)⟩
                  obtain ⟨x, hx, hel⟩ := hA1 i v hv
                  rw [hxss, List.getElem?_map, hx] at hi
                  injection hi with hi
                  subst hi
                  exact ⟨v, hc i v hv, hel.below hbr⟩⟩
                have hkl : ∀ xs ∈ xss, xs.length ≤ 1024 := fun xs hx => by
                  rw [hxss] at hx
                  obtain ⟨y, hy, rfl⟩ := List.mem_map.1 hx
                  exact (long_ok (HOK2.out y hy)).1
                have HBU : Hid (Calls Tryz.prog 20 #[.int .i64 10, .slice Ax j ad] wr (RetBd wr (filterB 10 xss))) := Lib.hid (build_good Ax j ad 10 wr (by omega) (by omega) (by omega) xss hrl (fun xs hx => by have := hkl xs hx; unfold maxLen; omega))
                obtain ⟨fs, hfs⟩ : ∃ fs, fs = filterB 10 xss := ⟨_, rfl⟩
                obtain ⟨fn, hfn⟩ : ∃ fn, fn = fs.length := ⟨_, rfl⟩
                have hfl : fn ≤ 140737488351232 := by
                  rw [hfn, hfs]
                  have := filter_len (p := 10) (xss := xss) (by omega) (by omega)
                  omega
                rw [← hfs] at HBU
                have HMY : Hid (∀ key, key ∈ xss → mayB fs key = (true, 0)) := Lib.hid (fun key hk => by rw [hfs]; exact filter_may hk)
                have HAV := Lib.hid oA.rd
                have HAL1 := Lib.hid oA.len
                have HA1 : Hid (∀ (i : Nat) v, avs[i]? = some v → ∃ key, key ∈ xss ∧ ElB wD v key ∧ key.length ≤ 1024) := Lib.hid (fun i v hv => by
                  obtain ⟨x, hx, hel⟩ := hA1 i v hv
                  have hm : x.key ∈ xss := by rw [hxss]; exact List.mem_map.2 ⟨x, List.mem_of_getElem? hx, rfl⟩
                  exact ⟨x.key, hm, hel, hkl _ hm⟩)
                have HBR := Lib.hid hbr
                have HFN := Lib.hid hfn
                clear oA hA1 hA2 hbr hxss hxl hrl hkl hfs hfn HAL hky
                go_wp2_with fail
                with_reducible refine HBU.out.mono ?_
                rintro e wF ⟨rfl, zF, bF⟩
                have HBF := Lib.hid (belowT' HBR.out bF)
                obtain ⟨gF, hgF⟩ : ∃ gF, gF = wr.heap.size := ⟨_, rfl⟩
                rw [← hgF] at zF ⊢
                rw [← HFN.out]
                have HRF : Hid (Rd wF (some ⟨gF, 0, none⟩) fn fs) := Lib.hid (by rw [HFN.out]; exact vsB_rd zF)
                have HAF := Lib.hid (HAV.out.below bF)
                have HK4 : Hid (KyT wD wF Kx kn) := Lib.hid (by
                  obtain ⟨vs, q1, q2, q3⟩ := HKY2.out
                  exact ⟨vs, q1.below bF, q2, q3⟩)
                clear zF bF hgF HBU HAV HBR HKY2
                go_wp2_with fail
                go_loopw [145] (fun q145 wx => ∃ k : Nat, k ≤ j ∧ q145 = .int .i64 (k : Int) ∧ Below wF.heap.size wF wx) (fun q _ => j - (intOf q).toNat)
                case atStart => exact ⟨0, Nat.zero_le _, rfl, Below.refl _ _⟩
                case round =>
                  obtain ⟨k, hk, rfl, hbx⟩ := hrel
                  by_cases hkj : k < j
                  · -- D0
                    have ra := HAF.out.below hbx
                    obtain ⟨bA, offA, hAe, hAl⟩ := ra.pos (by omega)
                    subst hAe
                    obtain ⟨v, hv, cv⟩ := ra.at_ k hkj
                    obtain ⟨key, hkm, hel, hkl⟩ := HA1.out k v hv
                    obtain ⟨K, en, ec, rfl, rk, hec, hed⟩ := hel
                    have hlk := rk.len
                    have HMA : Hid (Calls Tryz.prog 21 #[.slice (some ⟨gF, 0, none⟩) fn fn, .slice K en ec] wr (RetMy wr (true, 0))) := Lib.hid (by
                      have h1 := may_any (some ⟨gF, 0, none⟩) fn fn fs K en ec key wr (HRF.out.below hbx) hfl (rk.below (belowT' HBF.out hbx)) (by unfold maxLen; omega)
                      rw [HMY.out key hkm] at h1
                      exact h1)
                    have HBX := Lib.hid hbx
                    clear ra hv hkm rk hlk hbx hec hed hkl
                    go_wp2_with fail
                    with_reducible refine HMA.out.mono ?_
                    intro e wy hq
                    obtain ⟨h1, by_⟩ := hq.out
                    subst h1
                    have HB2 := Lib.hid (belowT' HBX.out by_)
                    clear hq by_ cv
                    go_wp2_with fail
                    go_roundw
                    case rel => exact ⟨k + 1, by omega, by go_num, HB2.out⟩
                    case measure => simp [intOf]; omega
                    -- D1
                  · obtain ⟨wG, hwG⟩ : ∃ wG, wG = wr := ⟨_, rfl⟩
                    rw [← hwG] at hbx ⊢
                    clear hwG
                    have HBG := Lib.hid (belowT' HBF.out hbx)
                    have HKG : Hid (KyT wD wG Kx kn) := Lib.hid (by
                      obtain ⟨vs, q1, q2, q3⟩ := HK4.out
                      exact ⟨vs, q1.below hbx, q2, q3⟩)
                    clear hbx HK4 HAF HRF HMY HA1 HAL1
                    go_wp2_with fail
                    go_loopw [164] (fun q164 wx => ∃ i : Nat, i ≤ kn ∧ q164 = .int .i64 (i : Int) ∧ Below wG.heap.size wG wx) (fun q _ => kn - (intOf q).toNat)
                    case atStart => exact ⟨0, Nat.zero_le _, rfl, Below.refl _ _⟩
                    case round =>
                      obtain ⟨i, hi, rfl, hbi⟩ := hrel
                      by_cases hik : i < kn
                      · obtain ⟨vs, q1, q2, _⟩ := HKG.out
                        have ra := q1.below hbi
                        obtain ⟨bK, offK, hKe, hKl⟩ := ra.pos (by omega)
                        subst hKe
                        obtain ⟨v, hv, cv⟩ := ra.at_ i hik
                        obtain ⟨xs, ⟨K, en, ec, rfl, rk, hec, hed⟩, hxl⟩ := q2 v (List.mem_of_getElem? hv)
                        obtain ⟨Y, hY⟩ : ∃ Y, Y = wr.alloc (.cells #[.int .u64 0, .int .u64 2, .int .u64 5, .int .u64 18446744073709551615] 29) := ⟨_, rfl⟩
                        obtain ⟨gY, hgY⟩ : ∃ gY, gY = wr.heap.size := ⟨_, rfl⟩
                        have bY : Below wr.heap.size wr Y := by rw [hY]; exact (Below.refl _ _).alloc (Nat.le_refl _) _
                        have zY : Cl Y gY #[.int .u64 0, .int .u64 2, .int .u64 5, .int .u64 18446744073709551615] 29 := by rw [hY, hgY]; exact Cl.new _ _ _
                        have HBY0 := Lib.hid (belowT' hbi bY)
                        have HBY := Lib.hid (belowT' (belowT' HBG.out hbi) bY)
                        have HRK := Lib.hid (rk.below HBY.out)
                        have hlk := rk.len
                        have hen : en ≤ 1048576 := by omega
                        have HYE := Lib.hid hY
                        have HGY := Lib.hid hgY
                        have HZY := Lib.hid zY
                        have HED := Lib.hid hed
                        clear ra q1 q2 hv rk hY hgY bY zY hbi hed hlk
                        go_upto_region 42 with (fail)
                        go_wp2_with fail
                        rw [← HYE.out, ← HGY.out]
                        clear cv
                        go_loopw [170] (fun q170 wx => ∃ t : Nat, t ≤ 4 ∧ q170 = .int .i64 (t : Int) ∧ Below Y.heap.size Y wx) (fun q _ => 4 - (intOf q).toNat)
                        case atStart => exact ⟨0, Nat.zero_le _, rfl, Below.refl _ _⟩
                        case round =>
                          obtain ⟨t, ht, rfl, hbt⟩ := hrel
                          by_cases ht4 : t < 4
                          · obtain ⟨a, ha, ca⟩ := mom4 (HZY.out.below hbt) t ht4
                            obtain ⟨q1, q2, _, q4, _⟩ := HST.out wr (belowT' HBY.out hbt)
                            have rK := HRK.out.below hbt
                            obtain ⟨o, ho⟩ : ∃ o, o = findL xs a s2 := ⟨_, rfl⟩
                            have hof : ∀ q, o = some q → q ∈ s2 := fun q hq => by rw [ho] at hq; exact List.mem_of_find?_eq_some hq
                            have HOW : Hid (∀ q, o = some q → U64 q.seq ∧ q.kind < 256) := Lib.hid (fun q hq => HWF.out q (hof q hq))
                            have HXZ : Hid (SzE (o.getD zeE2)) := Lib.hid (by
                              cases o with
                              | none => exact ⟨by simp [zeE2], by simp [zeE2]⟩
                              | some q => exact HZ2.out q (hof q rfl))
                            have HG1 : Hid (Calls Tryz.prog 22 #[.pointer (some ⟨p0, 0, none⟩), .slice K en ec, .int .u64 (a : Int)] wr (RetGt wr o)) := Lib.hid (by
                              have h1 := tabGet_any (at_ := a) q4 (by rw [HTL.out]; exact HZ2.out) rK hec HED.out ha
                              rw [tabGet_list (by rw [HTL.out]; exact HS1.out), HTL.out, ← ho] at h1
                              exact h1)
                            have HG2 : Hid (∀ wx, Below wr.heap.size wr wx → Calls Tryz.prog 23 #[.pointer (some ⟨tb, 0, none⟩), .slice K en ec, .int .u64 (a : Int)] wx (RetGt wx o)) := Lib.hid (fun wx hb => by
                              rw [ho]
                              exact tbGet_any (q1.below hb) (q2.below hb) (by omega) HS1.out HZ2.out (rK.below hb) hec HED.out ha)
                            have HBT := Lib.hid hbt
                            obtain ⟨yo, hyo⟩ : ∃ yo, yo = o.getD zeE2 := ⟨_, rfl⟩
                            obtain ⟨zo, hzo⟩ : ∃ zo, zo = o.isSome := ⟨_, rfl⟩
                            have HYO := Lib.hid hyo
                            have HZO := Lib.hid hzo
                            have tz : (zo != zo) = false := by cases zo <;> rfl
                            clear q1 q2 q4 rK ho hof hbt hyo hzo ha
                            go_wp2_with fail
                            with_reducible refine HG1.out.mono ?_
                            intro e w4 hq
                            obtain ⟨K4, kn4, kc4, V4, vn4, vc4, h1, heo4, _, b4⟩ := RetGt.both hq HOW.out
                            rw [← HYO.out, ← HZO.out] at h1
                            rw [← HYO.out] at heo4
                            subst h1
                            obtain ⟨Y4, hY4⟩ : ∃ Y4, Y4 = w4.alloc (.cells #[.slice K4 kn4 kc4, .int .u64 (yo.seq : Int), .int .u8 (yo.kind : Int), .slice V4 vn4 vc4] 31) := ⟨_, rfl⟩
                            obtain ⟨g4, hg4⟩ : ∃ g4, g4 = w4.heap.size := ⟨_, rfl⟩
                            have bY4 : Below w4.heap.size w4 Y4 := by rw [hY4]; exact (Below.refl _ _).alloc (Nat.le_refl _) _
                            have zY4 : Cl Y4 g4 #[.slice K4 kn4 kc4, .int .u64 (yo.seq : Int), .int .u8 (yo.kind : Int), .slice V4 vn4 vc4] 31 := by rw [hY4, hg4]; exact Cl.new _ _ _
                            have b44 := belowT' b4 bY4
                            have HB44 := Lib.hid b44
                            have HE4 := Lib.hid (heo4.ev.below bY4)
                            have HZ4 := Lib.hid zY4
                            have HG3 := Lib.hid (HG2.out Y4 b44)
                            have HY4 := Lib.hid hY4
                            have HG4 := Lib.hid hg4
                            clear hq heo4 b4 hY4 hg4 bY4 zY4 b44 HG1 HG2
                            go_upto_region 46 with (fail)
                            rw [← HY4.out, ← HG4.out]
                            go_wp2_with fail
                            with_reducible refine HG3.out.mono ?_
                            intro e w5 hq
                            obtain ⟨K5, kn5, kc5, V5, vn5, vc5, h1, heo5, _, b5⟩ := RetGt.both hq HOW.out
                            rw [← HYO.out, ← HZO.out] at h1
                            rw [← HYO.out] at heo5
                            subst h1
                            obtain ⟨Y5, hY5⟩ : ∃ Y5, Y5 = w5.alloc (.cells #[.slice K5 kn5 kc5, .int .u64 (yo.seq : Int), .int .u8 (yo.kind : Int), .slice V5 vn5 vc5] 31) := ⟨_, rfl⟩
                            obtain ⟨g5, hg5⟩ : ∃ g5, g5 = w5.heap.size := ⟨_, rfl⟩
                            have bY5 : Below w5.heap.size w5 Y5 := by rw [hY5]; exact (Below.refl _ _).alloc (Nat.le_refl _) _
                            have zY5 : Cl Y5 g5 #[.slice K5 kn5 kc5, .int .u64 (yo.seq : Int), .int .u8 (yo.kind : Int), .slice V5 vn5 vc5] 31 := by rw [hY5, hg5]; exact Cl.new _ _ _
                            have b55 := belowT' b5 bY5
                            have z45 := HZ4.out.below b55
                            have HB55 := Lib.hid (belowT' HB44.out b55)
                            have HSM := Lib.hid (Same_any (HE4.out.below b55) (heo5.ev.below bY5) (by rw [HYO.out]; exact HXZ.out))
                            have HY5 := Lib.hid hY5
                            have HG5 := Lib.hid hg5
                            obtain ⟨x0, x1, x2, x3, _⟩ := z45.c4
                            obtain ⟨y0, y1, y2, y3, _⟩ := zY5.c4
                            clear hq heo5 b5 hY5 hg5 bY5 zY5 b55 z45 HG3
                            go_upto_region 47 with (fail)
                            rw [← HY5.out, ← HG5.out]
                            clear ca
                            go_wp2_with fail
                            with_reducible refine HSM.out.mono ?_
                            intro e w6' hq
                            obtain ⟨h1, b6⟩ := RetT.outD hq
                            subst h1
                            have HB6 := Lib.hid (belowT' HBT.out (belowT' HB55.out b6))
                            clear hq b6 x0 x1 x2 x3 y0 y1 y2 y3
                            go_wp2_with fail
                            go_roundw
                            case rel => exact ⟨t + 1, by omega, by go_num, HB6.out⟩
                            case measure => simp [intOf]; omega
                          · have HBT := Lib.hid (belowT' HBY0.out hbt)
                            clear hbt
                            go_wp2_with fail
                            go_roundw
                            case rel => exact ⟨i + 1, by omega, by go_num, HBT.out⟩
                            case measure => simp [intOf]; omega
                      · obtain ⟨q1, q2, _, q4, _⟩ := HST.out wr (belowT' HBG.out hbi)
                        have HTR : Hid (Calls Tryz.prog 26 #[.pointer (some ⟨tb, 0, none⟩), .slice none 0 0, .slice none 0 0] wr (RetRn wr s2 j [] [])) := Lib.hid (tbRange_any q1 q2 (by omega) HS1.out HZ2.out (Rd.nil _ _) (Nat.le_refl _) (fun _ => rfl) (Rd.nil _ _) (Nat.le_refl _) (fun _ => rfl) (by omega))
                        have HBI := Lib.hid (belowT' HBG.out hbi)
                        clear q1 q2 q4 hbi
                        go_wp2_with fail
                        with_reducible refine HTR.out.mono ?_
                        intro e w4 hq
                        obtain ⟨L4, k4, d4, h1, hrow4⟩ := range_all hq HKL2.out (fun x hx => (HWF.out x hx).1)
                        subst h1
                        have hb4 := belowT' HBI.out hrow4.bel
                        have HB4 := Lib.hid hb4
                        have HR4 := Lib.hid hrow4.rd
                        have HRR := Lib.hid (HRM.out w4 (belowT' HWD2.out hb4))
                        have hk4 := hrow4.len
                        clear hq hrow4 hb4 HTR
                        go_wp2_with fail
                        with_reducible refine HRR.out.mono ?_
                        intro e w5 hq
                        obtain ⟨L5', n5', d5', he, hrow5⟩ := RetBt.out hq
                        subst he
                        have hn5 := hrow5.len
                        obtain rfl : n5' = k4 := by omega
                        have hb5 := belowT' HB4.out hrow5.bel
                        have HB5 := Lib.hid hb5
                        have HSL := Lib.hid (SameList_any (c := d4) (d := d5') (HR4.out.below hrow5.bel) hrow5.rd (by have := HKL2.out; omega) HZ2.out)
                        clear hq hrow5 hb5 HRR
                        go_wp2_with fail
                        with_reducible refine HSL.out.mono ?_
                        intro e w6' hq
                        obtain ⟨h1, b6⟩ := RetT.outD hq
                        subst h1
                        have HFI : Hid (RetT w true (.returned (.bool true)) w6') := Lib.hid ⟨rfl, belowT' (HST.out w5 HB5.out).2.2.2.2 b6⟩
                        clear hq b6
                        go_wp2_with fail
                        go_ret
                        exact HFI.out
end Go.Proofs.YtlnpicfkcahdbaaGreat
namespace Go.Proofs.YtlnpicfkcahdbaaGreat.caissonTablesUptoRow
open Go Go.ChangeShapes Go.WideShapes Go.ChangeAt Go.RowKit Go.Deep
open Go.ChangeMaps (open_string shut_string)
set_option linter.unusedVariables false

theorem own : ownKnob Tryz.prog.godebug = none := by kernel_rfl
theorem laidOut : laidOutB Tryz.prog = true := by kernel_rfl

set_option maxRecDepth 100000 in
theorem contract (H : Type) (enc : TypeId × Value → H) (W : World) (base : Nat) (args : Array Value) (ds gs : List (DataW H)) (before : List MemPlace)
    (hval0 : ∀ (j : Nat) t v, Tryz.f3.params[j]? = some t → args[j]? = some v → Value.okWide Tryz.prog W .any base t v)
    (hW : DataW.Whole enc Tryz.prog Tryz.f3.params.toList Rows.caissonTablesSpec.vars false W args.toList ds gs before)
    (hk : Rows.uptoSmall H (ds ++ gs) = true) :
    Calls Tryz.prog 3 args W fun e W' => ∃ v, e = .returned v ∧ Rows.caissonTablesSpec.post enc Tryz.prog Tryz.f3 false true false false W args v W' := by
  have hval : ∀ (j : Nat) t v, Tryz.f3.params[j]? = some t → args[j]? = some v → Value.okWide Tryz.prog W .any base t v := hval0
  have hW' := hW
  obtain ⟨p, q, hA0, hV, rfl, hfz, hnd⟩ := hW
  have hA : DataW.TrodAll enc Tryz.prog W 0 (fun _ => true) true Tryz.f3.params.toList args.toList ds p := hA0
  rw [Tryz.params3] at hA hval
  obtain ⟨v0, vs0, d0, ds0, p0, q0, hargs, rfl, rfl, h0, r0⟩ := trodAll_cons hA
  obtain ⟨v1, vs1, d1, ds1, p1, q1, rfl, rfl, rfl, h1, r1⟩ := trodAll_cons r0
  obtain ⟨v2, vs2, d2, ds2, p2, q2, rfl, rfl, rfl, h2, r2⟩ := trodAll_cons r1
  obtain ⟨rfl, rfl, rfl⟩ := trodAll_nil r2
  obtain rfl : args = #[v0, v1, v2] := by cases args; simp_all
  obtain ⟨rfl, rfl⟩ := trodVars_none hV
  have hb := bulkOf hk
  have sz0 : Rows.uptoBulk d0 ≤ 1048576 := Nat.le_trans (part_bulk (d := d0) (l := [d0, d1, d2] ++ []) (by simp)) hb
  have sz2 : ∀ el sp, d2 = .slice el sp → Rows.uptoBulkAll el + Rows.uptoBulkAll sp + 1 ≤ 1048576 := fun el sp e => by
    have h1 := Nat.le_trans (part_bulk (d := d2) (l := [d0, d1, d2] ++ []) (by simp)) hb
    rw [e] at h1
    simp only [Rows.uptoBulk] at h1
    omega
  obtain ⟨A0, len0, cap0, rfl⟩ := okWide_slice Tryz.underlying22 (hval 0 22 v0 rfl rfl)
  have k0 := h0
  have lt0 : ∀ x ∈ p0, x.block < W.heap.size := by obtain ⟨m, hm⟩ := k0; exact DataW.trod_lt m _ _ _ hm
  obtain ⟨al0, rd0, lc0, ta0⟩ : ∃ al0, REs W A0 len0 al0 ∧ len0 ≤ cap0 ∧ totE al0 ≤ 1048576 := by
    obtain ⟨fuel, hf⟩ := h0
    obtain ⟨al, h1, h2, h3⟩ := ents_of (len := len0) (cap := cap0) (A := A0) hf
    exact ⟨al, h1, h2, by have h4 := sz0; have h5 : totE al ≤ Rows.uptoBulk d0 := h3; omega⟩
  obtain ⟨a1, rfl, rfl, rfl, w1⟩ := open_int Tryz.underlying3 (hval 1 3 v1 rfl rfl) h1
  obtain ⟨A2, len2, cap2, rfl⟩ := okWide_slice Tryz.underlying23 (hval 2 23 v2 rfl rfl)
  have k2 := h2
  have lt2 : ∀ x ∈ p2, x.block < W.heap.size := by obtain ⟨m, hm⟩ := k2; exact DataW.trod_lt m _ _ _ hm
  obtain ⟨xss2, rd2, cm2⟩ : ∃ xss, RdL W A2 len2 xss ∧ tot xss ≤ 1048576 := by
    obtain ⟨fuel, hf⟩ := h2
    rcases open_int_rows Tryz.underlying23 Tryz.underlying28 Tryz.underlying5 (by kernel_rfl) (by kernel_rfl) hf with ⟨hcs, _⟩ | ⟨x, l, c, AA, LL, CC, ZZ, hcs, _, hl, hm, hx, hr⟩
    · simp [Value.cells] at hcs
      obtain ⟨rfl, rfl, rfl⟩ := hcs
      exact ⟨[], RdL.nil _ _, by simp [tot]⟩
    · simp [Value.cells] at hcs
      obtain ⟨rfl, rfl, rfl⟩ := hcs
      simp only [Prod.mk.injEq] at hx
      have h2 := sz2 _ _ hx.1
      have h3 := tot_bulk (fun r => ((ZZ r).take (LL r)).map fun z => bt z.toNat) (fun r => intRow (H := H) .u8 (AA r) (LL r) (ZZ r)) (List.range len2) (fun r hrr => by
        have hrl : r < len2 := List.mem_range.1 hrr
        obtain ⟨_, e2, _, e4, _, e6, _⟩ := hr r (by omega)
        exact row_bulk (AA r) (LL r) (ZZ r) (by omega) (fun h => by have := e6 h; omega))
      exact ⟨_, RdL.of_rows hl hr, by have h4 : tot (listsOf len2 LL ZZ) ≤ _ := h3; omega⟩
  clear hA0 hval0
  refine (caissonTables_row A0 len0 cap0 al0 a1 A2 len2 cap2 xss2 W rd0 lc0 ta0 w1 rd2 cm2).mono fun e W' ⟨he, bel⟩ => ?_
  subst he
  exact ⟨_, rfl, _, _, _, [], _, [], hW', trodAll_mk1 (shut_bool Tryz.underlying4 _), (trodAll_cons_mk (Below.trod laidOut (by kernel_rfl) (of_decide_eq_true (by kernel_rfl)) k0 bel lt0) (trodAll_cons_mk (shut_int Tryz.underlying3 w1) (trodAll_cons_mk (Below.trod laidOut (by kernel_rfl) (of_decide_eq_true (by kernel_rfl)) k2 bel lt2) trodAll_mk0))), rfl, bel.frame _, fun h => by cases h⟩

set_option maxRecDepth 100000 in
theorem lifted (os : Os) (started : os.Started) (H : Type) (enc : TypeId × Value → H) (F : Stop.Interp) :
    ReturnsInHanded {} Tryz.checked os 3 .any ((Rows.OpenSpec.upto Rows.caissonTablesSpec).pre6 enc Tryz.prog Tryz.f3 Rows.caissonTablesUptoRow.domain false) (((Rows.OpenSpec.upto Rows.caissonTablesSpec).at F).post enc Tryz.prog Tryz.f3 false true false false) := by
  refine returnsInHanded_of_cond (C := Tryz.checked) (s := Rows.OpenSpec.upto Rows.caissonTablesSpec) (k := Rows.uptoSmall) rfl own started (by kernel_rfl) Tryz.func3
    (OpenSpec.witness (enc := enc) (C := Tryz.checked) (s := Rows.OpenSpec.upto Rows.caissonTablesSpec) (k := Rows.uptoSmall) rfl false ⟨#[], #[.slice none 0 0, .int .i64 0, .slice none 0 0], []⟩ 8 (by kernel_rfl) (by kernel_rfl) (by kernel_rfl)
      (x := ([.nil, .lit (.int .i64 0), .nil], [], [])) (by kernel_rfl) rfl (by kernel_rfl)) ?_
  intro W base args ds gs before hval hW _ hk _
  exact contract H enc W base args ds gs before hval hW hk

theorem over : Rows.caissonTablesUptoRow.holds Tryz.pinned (Rows.OpenSpec.upto Rows.caissonTablesSpec) :=
  OpenClaim.holds_of_cond 3 Tryz.f3 rfl rfl rfl rfl rfl rfl rfl ⟨rfl, rfl, rfl, rfl, rfl⟩ rfl rfl rfl rfl rfl (by kernel_rfl) Tryz.func3 (by kernel_rfl)
    (of_decide_eq_true (by kernel_rfl)) (by unfold Func.isWrapper; first | (rw [if_pos (by decide +kernel)]; kernel_rfl) | (rw [if_neg (by decide +kernel)]; exact ⟨rfl, rfl⟩))
    (fun os started H enc _ F => lifted os started H enc F)

/-- THE STATEMENT -/
theorem proved : Rows.CaissonTablesUptoSaid := over
#print axioms proved
end Go.Proofs.YtlnpicfkcahdbaaGreat.caissonTablesUptoRow
