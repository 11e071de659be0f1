/- text.Count hands back the map that counts all words of the texts. Texts that hold at most 2^30 bytes. -/
import Derived.Test.YtdcboeeblbakhaaMathQ
namespace Go.Proofs.Ytdcboeeblbakhaa
open Go Go.RowKit Go.Maps

def strVs (ss : List ByteArray) : List Value := ss.map Value.string
def RetM (w : World) (ws : List (List UInt8)) (e : Ending) (w' : World) : Prop := ∃ b n, e = .returned (.map (some b)) ∧ w.heap.size ≤ b ∧ Cnt w' b n ws ∧ Below w.heap.size w w'
theorem str_at {w : World} {b off n : Nat} {ss : List ByteArray} (h : RdV w (some ⟨b, off, none⟩) n (strVs ss)) (k : Nat) (hk : k < n) : ∃ s, ss[k]? = some s ∧ w.cell? ⟨b, off + k, none⟩ = some (.string s) := by
  obtain ⟨v, h1, h2⟩ := h.at_ k hk
  unfold strVs at h1
  rw [List.getElem?_map] at h1
  cases hx : ss[k]? with
  | none => rw [hx] at h1; cases h1
  | some s =>
    rw [hx] at h1
    injection h1 with h1
    subst h1
    exact ⟨s, rfl, h2⟩
theorem word_at {w : World} {b off n : Nat} {ws : List (List UInt8)} (h : RdV w (some ⟨b, off, none⟩) n (svs ws)) (k : Nat) (hk : k < n) : ∃ x, ws[k]? = some x ∧ w.cell? ⟨b, off + k, none⟩ = some (.string (bs x)) := by
  obtain ⟨v, h1, h2⟩ := h.at_ k hk
  unfold svs at h1
  rw [List.getElem?_map] at h1
  cases hx : ws[k]? with
  | none => rw [hx] at h1; cases h1
  | some x =>
    rw [hx] at h1
    injection h1 with h1
    subst h1
    exact ⟨x, rfl, h2⟩
/-- One word more, counted: what the look-up told, and the store that follows. -/
theorem cD_put {ws : List (List UInt8)} {x : List UInt8} {c : Int} (hat : (cD ws).atKey (.string x) (.lit (.int .i64 0)) = .lit (.int .i64 c)) : c = (ws.count x : Int) := by
  have h := cD_at ws x
  unfold iL at h
  rw [show ((0 : Nat) : Int) = 0 from rfl, hat] at h
  injection h with h
  injection h with _ h

set_option maxRecDepth 100000 in
set_option maxHeartbeats 4000000 in
theorem Count_any (L : Option Addr) (n c : Nat) (ss : List ByteArray) (w : World) (hL : RdV w L n (strVs ss)) (hn : n ≤ 1073741824) (ht : totS ss ≤ 1073741824) :
    Calls Try.prog 36 #[.slice L n c] w (RetM w (allW ss)) := by
  have hmm := @run_makeMap Try.prog
  have HL := Lib.hid hL.len
  go_enter Try.func36, Try.ntmps36
  go_wp2
  go_loopw [11] (fun vk wr => ∃ k : Nat, vk = .int .i64 k ∧ k ≤ n ∧ Cnt wr w.heap.size (allW (ss.take k)).length (allW (ss.take k)) ∧ Below w.heap.size w wr) (fun vk _ => n - (intOf vk).toNat)
  case atStart => exact ⟨0, rfl, Nat.zero_le _, World.ownsMap_made _ _ _ _, (Below.refl _ _).alloc (Nat.le_refl _) _⟩
  case round =>
    obtain ⟨k, rfl, hk, hC, hb⟩ := hrel
    by_cases hlt : k < n
    · obtain ⟨b0, off0, rfl, _⟩ := hL.pos (by omega)
      obtain ⟨s, hs, hcell⟩ := str_at (hL.below hb) k hlt
      have hss := totS_at hs
      have hal := allW_len (ss.take k)
      have htk := totS_take ss k
      have HS := Lib.hid (allW_snoc hs)
      have hwl := wds_len s
      have HE : Hid (∀ x ∈ wds s, x.length ≤ 4 * s.size) := Lib.hid (fun x h => wds_each h)
      have hlt1 : w.heap.size < wr.heap.size := World.ownsMap.lt hC
      clear hs
      go_wp2_with fail
      refine (Words_any s _ (by omega)).mono ?_
      rintro e w2 ⟨R, m, d, rfl, oR, hb2⟩
      have hm : (wds s).length = m := by have := oR.len; simpa [svs] using this
      have hC2 := hC.below hb2
      have hs2 := hb2.size
      have hbb := hb.trans (hb2.mono hb.size)
      have HM := Lib.hid hm
      have rR := oR.rd
      have hmk : m ≤ s.size := by omega
      clear hm hC hb hb2 hcell
      go_wp2
      go_loopw [18] (fun vj wr' => ∃ j : Nat, vj = .int .i64 j ∧ j ≤ m ∧ Cnt wr' w.heap.size ((allW (ss.take k)).length + j) (allW (ss.take k) ++ (wds s).take j) ∧ Below w.heap.size w wr' ∧ RdV wr' R m (svs (wds s)) ∧ w2.heap.size ≤ wr'.heap.size) (fun vj _ => m - (intOf vj).toNat)
      case atStart => exact ⟨0, rfl, Nat.zero_le _, by simpa using hC2, hbb, rR, Nat.le_refl _⟩
      case round =>
        clear hC2 hbb rR
        obtain ⟨j, rfl, hj, hC, hb, rR, hs3⟩ := hrel
        by_cases hjm : j < m
        · have hRlt : ∀ b, blk R = some b → w.heap.size < b := fun b h => by
            have := (oR.lt b h).1
            omega
          obtain ⟨bR, offR, rfl, _⟩ := rR.pos (by omega)
          obtain ⟨x, hx, hcx⟩ := word_at rR j hjm
          have hxl := HE.out x (List.mem_of_getElem? hx)
          have hkey := keyS (x := x) (by unfold maxLen; omega)
          have HX : Hid ((allW (ss.take k) ++ (wds s).take (j + 1)) = (allW (ss.take k) ++ (wds s).take j) ++ [x]) := Lib.hid (by rw [List.take_add_one, hx, List.append_assoc]; rfl)
          have hcl : ((allW (ss.take k) ++ (wds s).take j).count x : Nat) ≤ 4294967296 := by
            have h1 := List.count_le_length (a := x) (l := allW (ss.take k) ++ (wds s).take j)
            simp only [List.length_append, List.length_take] at h1
            omega
          have hRne : bR ≠ w.heap.size := fun e => by have := hRlt bR rfl; omega
          obtain ⟨ws, hws⟩ : ∃ ws, ws = allW (ss.take k) ++ (wds s).take j := ⟨_, rfl⟩
          rw [← hws] at hC hcl HX
          obtain ⟨N, hN⟩ : ∃ N, N = (allW (ss.take k)).length + j := ⟨_, rfl⟩
          have hNl : N ≤ 4294967296 := by omega
          rw [← hN] at hC
          have HN := Lib.hid hN
          clear hx hws hN
          go_wp2_with (at_lookup; refine wpList_lookup_own_int _ rfl _ _ 55 rfl 9 3 .i64 lawS Try.underlying55 Try.underlying3 (zeroI _) w.heap.size N (cD ws) rfl hC _ _ rfl hkey ?_)
          intro z hat _
          have hz := cD_put hat
          clear hat
          obtain ⟨cn, hcn⟩ : ∃ cn, cn = ws.count x := ⟨_, rfl⟩
          rw [← hcn] at hz hcl
          subst hz
          have hwf : (Lit.int .i64 ((cn : Int) + 1)).wf = true := by
            have h := wrap64_wf ((cn : Int) + 1)
            rw [show wrap64 ((cn : Int) + 1) = (cn : Int) + 1 by unfold wrap64; omega] at h
            exact h
          have hput : (cD ws).put (.string x) (.lit (.int .i64 ((cn : Int) + 1))) = cD (ws ++ [x]) := by rw [cD_snoc, hcn]; rfl
          have HP := Lib.hid hput
          clear hput hcn
          go_wp2_with (at_mapUpdate; refine wpList_mapUpdate_own _ rfl _ _ _ 55 rfl 9 3 lawS Try.underlying55 _ w.heap.size N (cD ws) rfl hC (by unfold maxLen; omega) _ _ _ rfl rfl hkey _ [] (plainElem_int Try.underlying3 hwf) ?_)
          intro w1 hown1 hgrow1
          rw [HP.out] at hown1
          have hb1 := hb.grown hgrow1 hb.size (fun k hk => by injection hk with hk; omega)
          have rR1 := rR.kept hgrow1 (fun b hb e => by injection hb with hb; injection e with e; simp only at hb; omega)
          have hs4 := hgrow1.size
          have HC1 : Hid (Cnt w1 w.heap.size (N + 1) (ws ++ [x])) := Lib.hid hown1
          clear hown1 hgrow1 hC hb rR
          go_wp2
          go_roundw
          case rel => exact ⟨j + 1, by go_num, by omega, by rw [HX.out, ← Nat.add_assoc, ← HN.out]; exact HC1.out, hb1, rR1, by omega⟩
          case measure => simp [intOf]; omega
        · obtain rfl : m = j := by omega
          rw [List.take_of_length_le (l := wds s) (by rw [HM.out]; omega), ← HS.out] at hC
          have hC' : Cnt wr w.heap.size (allW (ss.take (k + 1))).length (allW (ss.take (k + 1))) := by
            have e : (allW (ss.take (k + 1))).length = (allW (ss.take k)).length + m := by rw [HS.out, List.length_append, HM.out]
            rw [e]
            exact hC
          have HC1 := Lib.hid hC'
          clear hC hC'
          go_wp2
          go_roundw
          case rel => exact ⟨k + 1, by go_num, by omega, HC1.out, hb⟩
          case measure => simp [intOf]; omega
    · obtain rfl : n = k := by omega
      go_wp2
      go_ret
      rw [List.take_of_length_le (by have := HL.out; simp [strVs] at this; omega)] at hC
      exact ⟨w.heap.size, _, rfl, Nat.le_refl _, hC, hb⟩

end Go.Proofs.Ytdcboeeblbakhaa
