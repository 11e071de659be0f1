/- TextWords: for every list of texts that hold at most 1048576 bytes the call returns true, and what was there stands. -/
import Derived.Test.YtdcboeeblbakhaaCount
import Derived.Test.YtdcboeeblbakhaaAwake2
namespace Go.Proofs.Ytdcboeeblbakhaa
open Go Go.RowKit Go.Maps

theorem keyS_inv (key : Value) (kl : Lit) (h : keyOf Try.prog 9 key = some kl) : ∃ x : ByteArray, key = .string x := by
  obtain ⟨s, h1, _⟩ := WideMaps.string_of_keyOf Try.underlying9 h
  exact ⟨s, h1⟩
theorem elI_inv (v : Value) (y : DataW Unit × List MemPlace) (h : plainElem Try.prog 3 v = some y) : ∃ c : Int, v = .int .i64 c := by
  obtain ⟨c, rfl, _⟩ := plainElem_int_inv Try.underlying3 h
  exact ⟨c, rfl⟩

set_option maxRecDepth 100000 in
set_option maxHeartbeats 8000000 in
theorem textWords_any (L : Option Addr) (n c : Nat) (ss : List ByteArray) (w : World) (hL : RdV w L n (strVs ss)) (hn : n ≤ 1073741824) (ht : totS ss ≤ 1073741824) :
    Calls Try.prog 7 #[.slice L n c] w (RetT w true) := by
  have hmm := @run_makeMap Try.prog
  have HL := Lib.hid hL.len
  go_enter Try.func7, Try.ntmps7
  go_wp2_with fail
  refine (awake2_any _).mono ?_
  rintro e w1 ⟨rfl, k1⟩
  have hL1 := hL.below k1
  have s1 := k1.size
  clear hL
  go_wp2
  go_loopw [4, 18] (fun va vk wr => ∃ k : Nat, va = .int .i64 ((allW (ss.take k)).length : Nat) ∧ vk = .int .i64 k ∧ k ≤ n ∧ Cnt wr w1.heap.size (allW (ss.take k)).length (allW (ss.take k)) ∧ Below w1.heap.size w1 wr) (fun _ vk _ => n - (intOf vk).toNat)
  case atStart => exact ⟨0, rfl, rfl, Nat.zero_le _, World.ownsMap_made _ _ _ _, (Below.refl _ _).alloc (Nat.le_refl _) _⟩
  case round =>
    obtain ⟨k, rfl, rfl, hk, hC, hb⟩ := hrel
    by_cases hlt : k < n
    · obtain ⟨b0, off0, rfl, _⟩ := hL1.pos (by omega)
      obtain ⟨s, hs, hcell⟩ := str_at (hL1.below hb) k hlt
      have hss := totS_at hs
      have hal := allW_len (ss.take k)
      have htk := totS_take ss k
      have HS := Lib.hid (allW_snoc hs)
      have hwl := wds_len s
      have HE : Hid (∀ x ∈ wds s, x.length ≤ 4 * s.size) := Lib.hid (fun x h => wds_each h)
      have hlt1 : w1.heap.size < wr.heap.size := World.ownsMap.lt hC
      clear hs
      go_wp2_with fail
      refine (Words_any s _ (by omega)).mono ?_
      rintro e w2 ⟨R, m, d, rfl, oR, hb2⟩
      go_wp2_with fail
      refine (refWords_any s _ (by omega)).mono ?_
      rintro e w3 ⟨R2, m2, d2, rfl, oR2, hb3⟩
      have hm : (wds s).length = m := by have := oR.len; simpa [svs] using this
      obtain rfl : m = m2 := by have := oR2.len; simp [svs] at this; omega
      have hs2 := hb2.size
      have hs3 := hb3.size
      have hC2 := (hC.below hb2).below hb3
      have hbb := (hb.trans (hb2.mono hb.size)).trans (hb3.mono (by omega))
      have HM := Lib.hid hm
      have rR := oR.rd.below hb3
      have rR2 := oR2.rd
      have hmk : m ≤ s.size := by omega
      have hRlt : ∀ b, blk R = some b → w1.heap.size < b := fun b h => by have := (oR.lt b h).1; omega
      have hRlt2 : ∀ b, blk R2 = some b → w1.heap.size < b := fun b h => by have := (oR2.lt b h).1; omega
      have HR1 := Lib.hid hRlt
      have HR2 := Lib.hid hRlt2
      obtain ⟨T0, hT0⟩ : ∃ T0, T0 = (allW (ss.take k)).length := ⟨_, rfl⟩
      rw [← hT0] at hC2 ⊢
      have hTl : T0 ≤ 1073741824 := by omega
      have HT0 := Lib.hid hT0
      clear hm hC hb hb2 hb3 hcell oR oR2 hRlt hRlt2 hT0
      go_wp2
      go_loopw [4, 33] (fun va vj wr => ∃ j : Nat, va = .int .i64 ((T0 + j : Nat) : Int) ∧ vj = .int .i64 j ∧ j ≤ m ∧ Cnt wr w1.heap.size (T0 + j) (allW (ss.take k) ++ (wds s).take j) ∧ Below w1.heap.size w1 wr ∧ RdV wr R m (svs (wds s)) ∧ RdV wr R2 m (svs (wds s)) ∧ w3.heap.size ≤ wr.heap.size) (fun _ vj _ => m - (intOf vj).toNat)
      case atStart => exact ⟨0, rfl, rfl, Nat.zero_le _, by simpa using hC2, hbb, rR, rR2, Nat.le_refl _⟩
      case round =>
        clear hC2 hbb rR rR2
        obtain ⟨j, rfl, rfl, hj, hC, hb, rR, rR2, hs4⟩ := hrel
        by_cases hjm : j < m
        · obtain ⟨bR, offR, rfl, _⟩ := rR.pos (by omega)
          obtain ⟨bR2, offR2, rfl, _⟩ := rR2.pos (by omega)
          obtain ⟨x, hx, hcx⟩ := word_at rR j hjm
          obtain ⟨x', hx', hcx2⟩ := word_at rR2 j hjm
          obtain rfl : x' = x := by rw [hx] at hx'; injection hx' with hx'; exact hx'.symm
          have hxl := HE.out x' (List.mem_of_getElem? hx)
          have hkey := keyS (x := x') (by unfold maxLen; omega)
          have HX : Hid ((allW (ss.take k) ++ (wds s).take (j + 1)) = (allW (ss.take k) ++ (wds s).take j) ++ [x']) := Lib.hid (by rw [List.take_add_one, hx, List.append_assoc]; rfl)
          have hcl : ((allW (ss.take k) ++ (wds s).take j).count x' : Nat) ≤ 4294967296 := by
            have h1 := List.count_le_length (a := x') (l := allW (ss.take k) ++ (wds s).take j)
            have h2 := HT0.out
            simp only [List.length_append, List.length_take] at h1
            omega
          have hRne : bR ≠ w1.heap.size := fun e => by have := HR1.out bR rfl; omega
          have hRne2 : bR2 ≠ w1.heap.size := fun e => by have := HR2.out bR2 rfl; omega
          obtain ⟨ws, hws⟩ : ∃ ws, ws = allW (ss.take k) ++ (wds s).take j := ⟨_, rfl⟩
          rw [← hws] at hC hcl HX
          obtain ⟨S, hS⟩ : ∃ S, S = bs x' := ⟨_, rfl⟩
          rw [← hS] at hcx hcx2 hkey
          obtain ⟨wn, hwn⟩ : ∃ wn, wn = wr := ⟨_, rfl⟩
          rw [← hwn] at hC hb rR rR2 hs4 hcx hcx2 ⊢
          have q3 : (0 : Int) ≤ (j : Int) := by omega
          have q4 : (j : Int) < (m : Int) := by omega
          clear hx hx' hws hS hwn
          go_wp2
          go_quiet (fail)
          have hCq : ∀ q, Cnt (wn.drewN q) w1.heap.size (T0 + j) ws := fun q => hC
          go_wp2_with (at_lookup; refine wpList_lookup_own_int _ rfl _ _ 55 rfl 9 3 .i64 lawS Try.underlying55 Try.underlying3 (zeroI _) w1.heap.size (T0 + j) (cD ws) rfl (hCq _) _ _ rfl hkey ?_)
          intro z hat _
          have hz := cD_put hat
          clear hat
          obtain ⟨cn, hcn⟩ : ∃ cn, cn = ws.count x' := ⟨_, rfl⟩
          rw [← hcn] at hz hcl
          subst hz
          have hwf : (Lit.int .i64 ((cn : Int) + 1)).wf = true := by
            have h := wrap64_wf ((cn : Int) + 1)
            rw [show wrap64 ((cn : Int) + 1) = (cn : Int) + 1 by unfold wrap64; omega] at h
            exact h
          have hput : (cD ws).put (.string x') (.lit (.int .i64 ((cn : Int) + 1))) = cD (ws ++ [x']) := by rw [cD_snoc, hcn]; rfl
          have HP := Lib.hid hput
          clear hput hcn
          go_wp2_with (at_mapUpdate; refine wpList_mapUpdate_own _ rfl _ _ _ 55 rfl 9 3 lawS Try.underlying55 _ w1.heap.size (T0 + j) (cD ws) rfl (hCq _) (by unfold maxLen; omega) _ _ _ rfl rfl hkey _ [] (plainElem_int Try.underlying3 hwf) ?_)
          intro w5 hown1 hgrow1
          rw [HP.out] at hown1
          have hb1 := (below_drewN hb _).grown hgrow1 hb.size (fun k hk => by injection hk with hk; omega)
          have rR1 := (rR.drewN _).kept hgrow1 (fun b hb e => by injection hb with hb; injection e with e; simp only at hb; omega)
          have rR3 := (rR2.drewN _).kept hgrow1 (fun b hb e => by injection hb with hb; injection e with e; simp only at hb; omega)
          have hs5 : wn.heap.size ≤ w5.heap.size := hgrow1.size
          have HC1 : Hid (Cnt w5 w1.heap.size (T0 + j + 1) (ws ++ [x'])) := Lib.hid hown1
          clear hown1 hgrow1 hC hb rR rR2 hCq
          go_wp2
          go_roundw
          case rel => exact ⟨j + 1, by go_num, by go_num, by omega, by rw [HX.out, ← Nat.add_assoc]; exact HC1.out, hb1, rR1, rR3, by omega⟩
          case measure => simp [intOf]; omega
        · obtain rfl : m = j := by omega
          rw [List.take_of_length_le (l := wds s) (by rw [HM.out]; omega), ← HS.out] at hC
          have e : (allW (ss.take (k + 1))).length = T0 + m := by rw [HS.out, List.length_append, HM.out, HT0.out]
          rw [← e] at hC
          have HE2 := Lib.hid e
          have HC1 := Lib.hid hC
          clear hC e rR rR2
          go_wp2
          go_roundw
          case rel => exact ⟨k + 1, by rw [HE2.out], by go_num, by omega, HC1.out, hb⟩
          case measure => simp [intOf]; omega
    · obtain rfl : n = k := by omega
      have hta : ss.take n = ss := List.take_of_length_le (by have := HL.out; simp [strVs] at this; omega)
      rw [hta] at hC ⊢
      have hL2 := hL1.below hb
      have hlen := allW_len ss
      have hbl : w1.heap.size < wr.heap.size := World.ownsMap.lt hC
      have HCt : Hid (∀ W, RdV W L n (strVs ss) → Calls Try.prog 36 #[.slice L n c] W (RetM W (allW ss))) := Lib.hid (fun W h => Count_any L n c ss W h hn ht)
      obtain ⟨ws, hws⟩ : ∃ ws, ws = allW ss := ⟨_, rfl⟩
      rw [← hws] at hC hlen HCt ⊢
      obtain ⟨N, hN⟩ : ∃ N, N = ws.length := ⟨_, rfl⟩
      have HN := Lib.hid hN
      rw [← hN] at hC hlen ⊢
      have hk1 := k1.trans (hb.mono s1)
      have hs1 : w1.heap.size ≤ wr.heap.size := hb.size
      clear hta hL1 hlt hk hws hN hb
      obtain ⟨W, hW⟩ : ∃ W, W = wr := ⟨_, rfl⟩
      rw [← hW] at hC hL2 hk1 hs1 hbl ⊢
      clear hW
      go_wp2_with fail
      refine (HCt.out _ hL2).mono ?_
      rintro e w2 ⟨b2, n2, rfl, hbb, hC2, hb2⟩
      have hC1 := hC.below hb2
      have hs2 := hb2.size
      have hk2 := hk1.trans (hb2.mono (by omega))
      have hb2l : b2 < w2.heap.size := World.ownsMap.lt hC2
      clear hC hL2 hk1 hb2
      go_wp2_with (first
        | (at_len; refine wpList_len_own _ rfl _ 55 rfl 9 3 Try.underlying55 _ b2 n2 (cD ws) rfl hC2 ?_)
        | (at_len; refine wpList_len_own _ rfl _ 55 rfl 9 3 Try.underlying55 _ w1.heap.size N (cD ws) rfl hC1 ?_)
        | (at_range; refine wpList_range_own _ rfl _ 55 rfl 9 3 lawS Try.underlying55 _ w1.heap.size N (cD ws) rfl hC1 ?_))
      intro w3 hrg0 hg0 hs3
      have hC3 := hC2.kept hg0 (by simp)
      have hk3 := hk2.grown hg0 (by omega) (fun k hk => by cases hk)
      have HR := Lib.hid hrg0
      have HC3 := Lib.hid hC3
      have HK3 := Lib.hid hk3
      clear hrg0 hg0 hC3 hk3 hC2 hC1 hk2
      have hr0 : w2.heap.size < w3.heap.size := by omega
      go_wp2
      go_loopw [4] (fun va wr => ∃ (left : Lit → Bool) (cnt : Nat), va = .int .i64 ((lef ws left : Nat) : Int) ∧ lef ws left ≤ N ∧ wr.ranges Try.prog 9 (plainElem (H := Unit) Try.prog 3) w1.heap.size w2.heap.size N (cD ws) left cnt ∧ Cnt wr b2 n2 ws ∧ Below w.heap.size w wr) (fun _ wr => wr.rangeLeft w1.heap.size w2.heap.size)
      case atStart => exact ⟨_, _, by rw [lef_start, ← HN.out], by rw [lef_start, ← HN.out]; exact Nat.le_refl _, HR.out, HC3.out, HK3.out⟩
      case round =>
        clear HR HC3 HK3
        obtain ⟨left, cnt, rfl, hle, hrg, hC, hk⟩ := hrel
        go_wp2_with (at_next; refine wpList_next_ranges _ rfl _ rfl 9 lawS (plainElem Try.prog 3) Value.string (Value.int .i64) keyS_inv elI_inv w1.heap.size w2.heap.size N _ _ _ rfl hrg ?_ ?_)
        · intro _ hl0
          have h0 := lef_end ws hl0
          have H0 : Hid (lef ws left = 0) := Lib.hid h0
          rw [h0]
          clear h0
          go_wp2
          go_ret
          exact ⟨rfl, hk⟩
        · intro x z kl y yp w4 cnt' hkey hlk hv hat hrg1 hlt hg1 hs4 hen
          obtain ⟨S, hS1, hS2, hS3⟩ := WideMaps.string_of_keyOf Try.underlying9 hkey
          injection hS1 with hS1
          subst hS1 hS2
          obtain ⟨z', hz', hy, hwf⟩ := plainElem_int_inv Try.underlying3 hv
          injection hz' with _ hz'
          injection hy with hy _
          subst hz' hy
          have hz := cD_put (hat _)
          have hst := lef_step hlk ws
          have HRG1 := Lib.hid hrg1
          have HRG := Lib.hid hrg
          have hC4 := hC.kept hg1 (fun e => by injection e with e; omega)
          have hk4 := hk.grown hg1 hk.size (fun k hk => by injection hk with hk; omega)
          have HLT := Lib.hid hlt
          obtain ⟨cn, hcn⟩ : ∃ cn, cn = ws.count x.data.toList := ⟨_, rfl⟩
          rw [← hcn] at hz hst
          subst hz
          have hcl : cn ≤ N := by omega
          have hNl : N ≤ 1073741824 := by omega
          have HCN := Lib.hid hcn
          have HST := Lib.hid hst
          obtain ⟨ln, hln⟩ : ∃ ln, ln = lef ws left := ⟨_, rfl⟩
          rw [← hln] at hst hle ⊢
          obtain ⟨lm, hlm⟩ : ∃ lm, lm = lef ws (fun z => left z && !z.sameKey (.string x.data.toList)) := ⟨_, rfl⟩
          rw [← hlm] at hst
          have HLM := Lib.hid hlm
          have hsub : (ln : Int) - cn = lm := by omega
          have HSUB := Lib.hid hsub
          clear hrg hrg1 hC hk hg1 hat hlt hv hlk hcn hln hlm hst hsub HST
          go_wp2_with (at_lookup; refine wpList_lookup_own_int _ rfl _ _ 55 rfl 9 3 .i64 lawS Try.underlying55 Try.underlying3 (zeroI _) b2 n2 (cD ws) rfl hC4 _ _ rfl hkey ?_)
          intro c2 hat2 _
          have hz2 := cD_put hat2
          rw [← HCN.out] at hz2
          subst hz2
          clear hat2
          go_wp2
          go_roundw
          case rel => exact ⟨_, _, by rw [← HLM.out, ← HSUB.out], by rw [← HLM.out]; have := HSUB.out; omega, HRG1.out, hC4, hk4⟩
          case measure => rw [HRG1.out.left_eq, HRG.out.left_eq]; exact HLT.out

theorem textWords_row (L : Option Addr) (n c : Nat) (ss : List ByteArray) (w : World) (hL : RdV w L n (strVs ss)) (hlc : n ≤ c) (hc : c ≤ 1048576) (ht : totS ss ≤ 1048576) :
    Calls Try.prog 7 #[.slice L n c] w (RetT w true) := textWords_any L n c ss w hL (by omega) (by omega)

end Go.Proofs.Ytdcboeeblbakhaa
