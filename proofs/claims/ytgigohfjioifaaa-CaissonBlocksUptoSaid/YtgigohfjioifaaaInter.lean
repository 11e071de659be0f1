/- Rows of bytes and of entries beside each other: other kinds are other blocks; two lists of pairs by turns; an append at a step. -/
import Derived.Test.YtgigohfjioifaaaBkA
import Derived.Test.YtgigohfjioifaaaCrcV
import Derived.Lib.AppendZeros
import Derived.Test.YtgigohfjioifaaaCrcP
import Derived.Deep.QuietTactic
import Derived.BigQuiet
import Derived.IntWalk
import Derived.Test.YtgigohfjioifaaaEnD
import Derived.Deep.LoopGhost
import Derived.Test.YtgigohfjioifaaaEnC
import Derived.Deep.RegionHeld3
import Derived.Deep.DeepCutAuto
import Derived.Deep.CutBlock
import Derived.Test.YtgigohfjioifaaaParts
import Derived.Deep.RegionLaw
import Derived.Test.YtgigohfjioifaaaNext
import Derived.Test.YtgigohfjioifaaaCrcW
import Derived.Laws.BitsLemmas
import Derived.Test.YtgigohfjioifaaaCl
import Derived.Test.YtgigohfjioifaaaFamD
namespace Go.Proofs.Ytgigohfjioifaaa
open Go Go.RowKit

theorem ClG.grown {w w' : World} {p : Nat} {us : Array Value} {ty : TypeId} {row : Option Nat} (h : Cl w p us ty) (hg : w.grownBy w' row) (hne : row ≠ some p) : Cl w' p us ty := by
  obtain ⟨_, _, _, h4, h5⟩ := hg
  exact (h5 p h.lt (fun e => hne e.symm)).trans h
/-- The bytes of an entry of whose key s are left out. -/
def entB (s : Nat) (x : En) : List UInt8 := putU s ++ (putU (x.key.length - s) ++ (putU x.seq ++ ([bt x.kind] ++ (putU x.val.length ++ (x.key.drop s ++ x.val)))))
/-- What stands between two appends: the entry's box, the row so far. -/
def AE (w0 U : World) (g : Nat) (cs : Array Value) (A Ai : Option Addr) (n c : Nat) (xs : List UInt8) (wi : World) : Prop :=
  Cl wi g cs 33 ∧ blk Ai ≠ some g ∧ Own 5 wi w0.heap.size Ai n c xs ∧ Grow U wi A Ai ∧ Below w0.heap.size w0 wi
section
variable {w0 U wi wj : World} {g n c n' c' : Nat} {cs : Array Value} {A Ai Aj : Option Addr} {xs ys : List UInt8}
theorem AE.below (h : AE w0 U g cs A Ai n c xs wi) (hb : Below wi.heap.size wi wj) : AE w0 U g cs A Ai n c xs wj := by
  obtain ⟨h1, h2, h3, h4, h5⟩ := h
  exact ⟨h1.below hb, h2, h3.below hb, h4.trans (Grow.of_below Ai hb), h5.trans (hb.mono h5.size)⟩
theorem AE.app (h : AE w0 U g cs A Ai n c xs wi) (ho : Own 5 wj w0.heap.size Aj n' c' ys) (hg : Grow wi wj Ai Aj) : AE w0 U g cs A Aj n' c' ys wj := by
  obtain ⟨h1, h2, h3, h4, h5⟩ := h
  refine ⟨ClG.grown h1 hg.1 h2, fun e => ?_, ho, h4.trans hg, h5.trans (hg.below h3 h5.size)⟩
  rcases hg.2 with e2 | e2
  · exact h2 (e2.symm.trans e)
  · have := e2 g e
    have := h1.lt
    omega
end
set_option maxRecDepth 100000 in
set_option maxHeartbeats 8000000 in
theorem appendEntry_any {w0 w : World} {x : En} {v0 v1 v2 v3 : Value} (hx : EV w0 x v0 v1 v2 v3) (sx : SzE x) (s : Nat) (hs : s ≤ x.key.length) (A : Option Addr) (n c : Nat) (xs : List UInt8) (ho : Own 5 w w0.heap.size A n c xs) (hb : Below w0.heap.size w0 w) (hn : n ≤ 1099511627776) :
    Calls Try.prog 108 #[.slice A n c, .int .i64 (s : Int), .agg #[v0, v1, v2, v3]] w (RetAp w0.heap.size w A n xs (entB s x)) := by
  obtain ⟨K, kn, kc, V, vn, vc, rfl, rfl, rfl, rfl, r0, r3, c0, c3, d0, d3, s1, s2⟩ := hx.parts
  have l1 := r0.len
  have l2 := r3.len
  have hkn : kn ≤ 1099511627776 := by have := sx.1; omega
  have hvn : vn ≤ 1099511627776 := by have := sx.2; omega
  have hskn : s ≤ kn := by omega
  obtain ⟨U, hU⟩ : ∃ U, U = w.alloc (.cells #[.slice K kn kc, .int .u64 (x.seq : Int), .int .u8 (x.kind : Int), .slice V vn vc] 33) := ⟨_, rfl⟩
  obtain ⟨g, hg⟩ : ∃ g, g = w.heap.size := ⟨_, rfl⟩
  have hsz := hb.size
  have A0 : AE w0 w g #[.slice K kn kc, .int .u64 (x.seq : Int), .int .u8 (x.kind : Int), .slice V vn vc] A A n c xs U := by
    have hbU : Below w.heap.size w U := by rw [hU]; exact (Below.refl _ _).alloc (Nat.le_refl _) _
    refine ⟨by rw [hU, hg]; exact Cl.new _ _ _, fun e => ?_, ho.below hbU, Grow.of_below A hbU, hb.trans (hbU.mono hsz)⟩
    have := (ho.lt g e).2
    omega
  obtain ⟨z, hz⟩ : ∃ z, z = kn - s := ⟨_, rfl⟩
  have r0b : ∀ wi : World, Below w0.heap.size w0 wi → Rd wi (cutA K s kc) z (x.key.drop s) := fun wi hwi => by
    have h := (r0.below hwi).cut hskn (Nat.le_refl kn) c0
    rw [List.take_of_length_le (by omega)] at h
    rw [hz]
    exact h
  have hsl : ∀ W : World, (Instr.slice 22 (.slice K kn kc) (some (.int .i64 (s : Int))) none none).run Try.prog W = .ok (.slice (cutA K s kc) z (kc - s)) W := by
    rw [hz]
    exact cut_l Try.underlying22 elem_bytes size_u8 K hskn
  have hzn : z ≤ 1099511627776 := by omega
  have hsn : s ≤ 1099511627776 := by omega
  have R0 := Lib.hid r0b
  have R3 := Lib.hid r3
  have HL2 := Lib.hid l2
  have hc := A0.1.c4
  rw [hg] at hc
  have hseq : x.seq < 18446744073709551616 := s1
  have hEB : entB s x = putU s ++ (putU z ++ (putU x.seq ++ ([bt x.kind] ++ (putU vn ++ (x.key.drop s ++ x.val))))) := by
    unfold entB
    rw [hz, l1, l2]
  have HE := Lib.hid hEB
  have hdl : (x.key.drop s).length = z := by rw [List.length_drop]; omega
  have HDL := Lib.hid hdl
  have p1 := putU_len64 s (show s < B64 by unfold B64; omega)
  have p2 := putU_len64 z (show z < B64 by unfold B64; omega)
  have p3 := putU_len64 x.seq (show x.seq < B64 from hseq)
  have p5 := putU_len64 vn (show vn < B64 by unfold B64; omega)
  have HA := Lib.hid A0
  clear hx r0 r3 l1 l2 A0 ho r0b hz hEB hdl hs sx hskn
  go_enter Try.func108, Try.ntmps108
  go_wp2_with fail
  rw [← hU]
  refine (PutU_any s _ (by unfold B64; omega)).mono ?_
  rintro e wa1 ⟨P1, m1, d1, rfl, oP1, bP1⟩
  obtain rfl : (putU s).length = m1 := oP1.len
  have HB1 := Lib.hid (HA.out.below bP1)
  have rP1 := oP1.rd
  clear oP1 bP1 HA hc
  go_wp2_with (at_builtin; refine wpList_appX _ rfl _ _ 22 rfl w0.heap.size 5 Try.underlying22 info_u8 A _ _ _ rfl HB1.out.2.2.1 P1 (putU s).length d1 (putU s) rfl rP1 ?_ ?_ ?_)
  · omega
  · exact HB1.out.2.2.2.2.size
  intro A1 c1 w1 o1 g1
  have HA1 := Lib.hid (HB1.out.app o1 g1)
  have hc := HA1.out.1.c4
  rw [hg] at hc
  clear o1 g1 HB1 rP1
  go_wp2_with fail
  refine (PutU_any z _ (by unfold B64; omega)).mono ?_
  rintro e wa2 ⟨P2, m2, d2, rfl, oP2, bP2⟩
  obtain rfl : (putU z).length = m2 := oP2.len
  have HB2 := Lib.hid (HA1.out.below bP2)
  have rP2 := oP2.rd
  clear oP2 bP2 HA1 hc
  go_wp2_with (at_builtin; refine wpList_appX _ rfl _ _ 22 rfl w0.heap.size 5 Try.underlying22 info_u8 A1 _ _ _ rfl HB2.out.2.2.1 P2 (putU z).length d2 (putU z) rfl rP2 ?_ ?_ ?_)
  · omega
  · exact HB2.out.2.2.2.2.size
  intro A2 c2 w2 o2 g2
  have HA2 := Lib.hid (HB2.out.app o2 g2)
  have hc := HA2.out.1.c4
  rw [hg] at hc
  clear o2 g2 HB2 rP2
  go_wp2_with fail
  refine (PutU_any x.seq _ (by unfold B64; omega)).mono ?_
  rintro e wa3 ⟨P3, m3, d3, rfl, oP3, bP3⟩
  obtain rfl : (putU x.seq).length = m3 := oP3.len
  have HB3 := Lib.hid (HA2.out.below bP3)
  have rP3 := oP3.rd
  clear oP3 bP3 HA2 hc
  go_wp2_with (at_builtin; refine wpList_appX _ rfl _ _ 22 rfl w0.heap.size 5 Try.underlying22 info_u8 A2 _ _ _ rfl HB3.out.2.2.1 P3 (putU x.seq).length d3 (putU x.seq) rfl rP3 ?_ ?_ ?_)
  · omega
  · exact HB3.out.2.2.2.2.size
  intro A3 c3 w3 o3 g3
  have HA3 := Lib.hid (HB3.out.app o3 g3)
  have hc := HA3.out.1.c4
  rw [hg] at hc
  clear o3 g3 HB3 rP3
  go_wp2_with (at_builtin; refine wpList_appX _ rfl _ _ 22 rfl w0.heap.size 5 Try.underlying22 info_u8 A3 _ _ _ rfl (HA3.out.2.2.1.alloc _) _ 1 1 [bt x.kind] rfl (Rd.one _ _ _ _ ?_) ?_ ?_ ?_)
  · rw [bt_nat _ (by omega)]
  · omega
  · have := HA3.out.2.2.2.2.size; simp; omega
  intro A4 c4 w4 o4 g4
  have HA4 := Lib.hid ((HA3.out.below ((Below.refl _ _).alloc (Nat.le_refl _) _)).app o4 g4)
  have hc := HA4.out.1.c4
  rw [hg] at hc
  clear o4 g4 HA3
  go_wp2_with fail
  refine (PutU_any vn _ (by unfold B64; omega)).mono ?_
  rintro e wa5 ⟨P5, m5, d5, rfl, oP5, bP5⟩
  obtain rfl : (putU vn).length = m5 := oP5.len
  have HB5 := Lib.hid (HA4.out.below bP5)
  have rP5 := oP5.rd
  clear oP5 bP5 HA4 hc
  go_wp2_with (at_builtin; refine wpList_appX _ rfl _ _ 22 rfl w0.heap.size 5 Try.underlying22 info_u8 A4 _ _ _ rfl HB5.out.2.2.1 P5 (putU vn).length d5 (putU vn) rfl rP5 ?_ ?_ ?_)
  · omega
  · exact HB5.out.2.2.2.2.size
  intro A5 c5 w5 o5 g5
  have HA5 := Lib.hid (HB5.out.app o5 g5)
  have hc := HA5.out.1.c4
  rw [hg] at hc
  clear o5 g5 HB5 rP5
  have rd6 := R0.out _ HA5.out.2.2.2.2
  go_wp2_with (at_builtin; refine wpList_appX _ rfl _ _ 22 rfl w0.heap.size 5 Try.underlying22 info_u8 A5 _ _ _ rfl HA5.out.2.2.1 (cutA K s kc) z (kc - s) (x.key.drop s) rfl rd6 ?_ ?_ ?_)
  · omega
  · exact HA5.out.2.2.2.2.size
  intro A6 c6 w6 o6 g6
  have HA6 := Lib.hid (HA5.out.app o6 g6)
  have hc := HA6.out.1.c4
  rw [hg] at hc
  have rd7 := R3.out.below HA6.out.2.2.2.2
  clear o6 g6 HA5 rd6
  go_wp2_with (at_builtin; refine wpList_appX _ rfl _ _ 22 rfl w0.heap.size 5 Try.underlying22 info_u8 A6 _ _ _ rfl HA6.out.2.2.1 V vn vc x.val rfl rd7 ?_ ?_ ?_)
  · omega
  · exact HA6.out.2.2.2.2.size
  intro A7 c7 w7 o7 g7
  have HA7 := Lib.hid (HA6.out.app o7 g7)
  clear o7 g7 HA6 rd7 hc
  go_wp2_with fail
  go_ret
  obtain ⟨_, _, o, gr, _⟩ := HA7.out
  have hl : (entB s x).length = (putU s).length + (putU z).length + (putU x.seq).length + 1 + (putU vn).length + z + vn := by
    rw [HE.out]
    simp only [List.length_append, List.length_cons, List.length_nil, HDL.out, HL2.out]
    omega
  have hn : n + (entB s x).length = (((((n + (putU s).length) + (putU z).length) + (putU x.seq).length) + 1) + (putU vn).length) + z + vn := by omega
  have hxs : xs ++ entB s x = (((((xs ++ putU s) ++ putU z) ++ putU x.seq) ++ [bt x.kind]) ++ putU vn) ++ x.key.drop s ++ x.val := by
    rw [HE.out]
    simp only [List.append_assoc]
  unfold RetAp
  rw [hn, hxs]
  simp only [List.append_assoc] at o ⊢
  exact ⟨A7, c7, rfl, o, gr⟩
end Go.Proofs.Ytgigohfjioifaaa
namespace Go.Proofs.Ytgigohfjioifaaa
open Go Go.RowKit

set_option maxRecDepth 100000 in
set_option maxHeartbeats 2000000 in
theorem growNil_any (n : Nat) (w : World) (hn : n ≤ 1099511627776) : Calls Try.prog 135 #[.slice none 0 0, .int .i64 (n : Int)] w fun e w' => ∃ A c, e = .returned (.slice A 0 c) ∧ Own 5 w' w.heap.size A 0 c [] ∧ Below w.heap.size w w' := by
  obtain ⟨i0, hi0, z1, z2, z3⟩ := info_parts info_u8
  by_cases h0 : n = 0
  · subst h0
    go_enter Try.func135, Try.ntmps135
    go_wp2_with fail
    go_ret
    exact ⟨none, 0, rfl, Own.nil _ _ _, Below.refl _ _⟩
  · have hpos : 0 < n := by omega
    have hpi : ¬ ((n : Int) ≤ 0) := by omega
    have hpi2 : (0 : Int) < (n : Int) := by omega
    have hap := Lib.run_append_nil_zeros (P := Try.prog) w 22 3 22 5 i0 (.int .u8 0) .i64 .i64 Try.underlying22 Try.underlying3 hi0 z1 n hpos (by rw [z2]; omega) (by omega) (by rw [z3]; omega)
    have hcap := grownCap_ge w n 0 5
    have hcm := grownCap_le_maxLen w n 0 5 (by unfold maxLen; omega)
    obtain ⟨cap, hcp⟩ : ∃ cap, cap = grownCap w n 0 5 := ⟨_, rfl⟩
    rw [← hcp] at hap hcap hcm
    obtain ⟨cells, hce⟩ : ∃ cells, cells = Builtin.zeroCells (Value.int .u8 0).cells n ++ Builtin.zeroCells (Value.int .u8 0).cells (cap - n) := ⟨_, rfl⟩
    rw [← hce] at hap
    have hcs : cells.size = cap := by
      rw [hce]
      simp [Builtin.zeroCells, Value.cells]
      omega
    have HAP := Lib.hid hap
    have HCS := Lib.hid hcs
    have hsl : ∀ w, (Instr.slice 22 (.slice (some ⟨w.heap.size, 0, none⟩) n cap) none (some (.int .i64 0)) none).run Try.prog w = .ok (.slice (some ⟨w.heap.size, 0, none⟩) 0 cap) w := fun w =>
      cut_h (m := 0) Try.underlying22 elem_bytes size_u8 (some ⟨w.heap.size, 0, none⟩) (by omega) w
    clear hap hcs hce hcp
    go_enter Try.func135, Try.ntmps135
    go_wp2_with (at_builtin; refine Lib.wpList_append_run _ rfl _ _ _ _ rfl _ _ rfl rfl _ _ HAP.out ?_)
    go_wp2_with fail
    go_ret
    refine ⟨_, cap, rfl, ⟨rfl, .inr ⟨w.heap.size, cap, cells, rfl, Nat.le_refl _, ?_, Nat.zero_le _, hcm, by rw [HCS.out, Nat.mul_one], by simp⟩⟩, ?_⟩
    · have := heap_alloc_new w.drew (.cells cells 5)
      exact this
    · exact (Below.refl _ _).drew.alloc (Nat.le_refl _) _
set_option maxRecDepth 100000 in
set_option maxHeartbeats 4000000 in
theorem Concat_any (A : Option Addr) (n c : Nat) (xss : List (List UInt8)) (w : World) (hx : RdL w A n xss) (ht : tot xss ≤ 268435456) :
    Calls Try.prog 113 #[.slice A n c] w (Made w.heap.size w xss.flatten) := by
  have HXL := Lib.hid hx.len
  have hnl := tot_len xss
  have hnn : n ≤ 268435456 := by have := hx.len; omega
  have hfl := flat_len xss
  have HT := Lib.hid ht
  have HX := Lib.hid hx
  have HFT : Hid (∀ k, (xss.take k).flatten.length ≤ 268435456) := Lib.hid (fun k => by have := flat_take_le xss k; omega)
  clear ht hx hnl hfl
  go_enter Try.func113, Try.ntmps113
  go_wp2_with fail
  go_loopw [3, 11] (fun s3 s11 wr => ∃ (k z : Nat), k ≤ n ∧ s11 = .int .i64 (k : Int) ∧ z = (xss.take k).flatten.length ∧ s3 = .int .i64 (z : Int) ∧ wr = w) (fun _ s _ => n - (intOf s).toNat)
  case atStart => exact ⟨0, 0, Nat.zero_le _, rfl, rfl, rfl, rfl⟩
  case round =>
    obtain ⟨k, z, hk, rfl, hz, rfl, rfl⟩ := hrel
    have hz2 : z ≤ 268435456 := by rw [hz]; exact HFT.out k
    have HZ := Lib.hid hz
    clear hz
    by_cases hlt : k < n
    · obtain ⟨b, off, hA, hbl, hel⟩ := HX.out.2 (by omega)
      subst hA
      obtain ⟨xs, hxs⟩ : ∃ xs, xss[k]? = some xs := ⟨_, List.getElem?_eq_getElem (by have := HXL.out; omega)⟩
      obtain ⟨v, hv, K, kn, kc, rfl, hrK, _⟩ := hel k xs hxs
      obtain ⟨z2, hz2'⟩ : ∃ z2, z2 = z + kn := ⟨_, rfl⟩
      have hzz : z2 = (xss.take (k + 1)).flatten.length := by rw [flat_snoc hxs, List.length_append, ← HZ.out, hrK.len, hz2']
      have hz3 : z2 ≤ 268435456 := by rw [hzz]; exact HFT.out (k + 1)
      have e1 : IntKind.i64.wrap ((z : Int) + (kn : Int)) = (z2 : Int) := by rw [IntWalk.i64_in _ (by omega)]; omega
      have hkn : kn ≤ 268435456 := by omega
      have HZZ := Lib.hid hzz
      have HZ2 := Lib.hid hz2'
      clear hel hxs hrK hzz hz2'
      go_wp2_with fail
      go_roundw
      case rel => exact ⟨k + 1, z2, by omega, by go_num, HZZ.out, by first | rfl | go_num | (rw [e1]), by first | trivial | rfl⟩
      case measure => simp [intOf]; omega
    · obtain rfl : k = n := by omega
      obtain ⟨w0, rfl⟩ : ∃ w0, w0 = wr := ⟨_, rfl⟩
      have HG := Lib.hid (growNil_any z w0 (by omega))
      go_wp2_with fail
      with_reducible refine HG.out.mono ?_
      rintro e w1 ⟨G, gc, rfl, oG, bG⟩
      have HOG := Lib.hid (And.intro oG bG)
      clear oG bG HG
      go_wp2_with fail
      go_loopw [6, 27] (fun s6 s27 wx => ∃ (j m d : Nat) (L : Option Addr), j ≤ k ∧ s27 = .int .i64 (j : Int) ∧ s6 = .slice L m d ∧ Own 5 wx w0.heap.size L m d (xss.take j).flatten ∧ Below w0.heap.size w0 wx) (fun _ s _ => k - (intOf s).toNat)
      case atStart => exact ⟨0, 0, gc, G, Nat.zero_le _, rfl, rfl, HOG.out.1, HOG.out.2⟩
      case round =>
        obtain ⟨j, m, d, L, hj, rfl, rfl, oL, bL⟩ := hrel
        have hml := oL.len
        have hm2 : m ≤ 268435456 := by have := HFT.out j; omega
        have hsz := bL.size
        by_cases hjk : j < k
        · obtain ⟨b, off, hA, hbl, hel⟩ := HX.out.2 (by omega)
          subst hA
          obtain ⟨xs, hxs⟩ : ∃ xs, xss[j]? = some xs := ⟨_, List.getElem?_eq_getElem (by have := HXL.out; omega)⟩
          obtain ⟨v, hv, K, kn, kc, rfl, hrK, _⟩ := hel j xs hxs
          have hv2 : wr.cell? ⟨b, off + j, none⟩ = some (.slice K kn kc) := (bL.cell (p := ⟨b, off + j, none⟩) hbl).trans hv
          have hrK2 := hrK.below bL
          have hkn : kn ≤ 268435456 := by
            have h1 := HFT.out (j + 1)
            rw [flat_snoc hxs, List.length_append, hrK.len] at h1
            omega
          have HFS := Lib.hid (flat_snoc hxs)
          have BL := Lib.hid bL
          clear hel hxs hrK hv bL hml
          go_wp2_with (at_builtin; refine wpList_app _ rfl _ _ 22 rfl w0.heap.size 5 Try.underlying22 info_u8 L m d _ rfl oL K kn kc xs rfl hrK2 ?_ ?_ ?_)
          · omega
          · exact hsz
          intro L2 d2 w3 o3 b3
          have H3 := Lib.hid (And.intro o3 (BL.out.trans b3))
          clear oL o3 b3 hrK2
          go_wp2_with fail
          go_roundw
          case rel => exact ⟨j + 1, m + kn, d2, L2, by omega, by go_num, rfl, by rw [HFS.out]; exact H3.out.1, H3.out.2⟩
          case measure => simp [intOf]; omega
        · obtain rfl : j = k := by omega
          rw [List.take_of_length_le (by have := HXL.out; omega)] at oL
          have HF := Lib.hid (And.intro oL bL)
          clear oL bL hml
          go_wp2_with fail
          go_ret
          exact ⟨L, m, d, rfl, HF.out.1, HF.out.2⟩
end Go.Proofs.Ytgigohfjioifaaa
namespace Go.Proofs.Ytgigohfjioifaaa
open Go Go.RowKit

theorem cutA_none {A : Option Addr} {k c : Nat} (hnil : A = none → c = 0) (hk : k ≤ c) : cutA A k c = none → c - k = 0 := fun h => by
  unfold cutA at h
  split at h
  · have := hnil h; omega
  · cases A with
    | none => have := hnil rfl; omega
    | some a => cases h

set_option maxRecDepth 100000 in
set_option maxHeartbeats 2000000 in
theorem Open_any (A : Option Addr) (n c : Nat) (z : Int) (xs : List UInt8) (w : World) (hx : Rd w A n xs) (hn : n ≤ 1099511627776) (hcap : n ≤ c) (hnil : A = none → c = 0) (hz : I64 z) :
    Calls Try.prog 47 #[.slice A n c, .int .i64 z] w (RetO w.heap.size w (openG xs z)) := by
  have HL := Lib.hid hx.len
  by_cases hneg : z < 0
  · have G := Lib.hid (openG_arg (xs := xs) (.inl hneg))
    go_enter Try.func47, Try.ntmps47
    have h1 : decide (z < 0) = true := by simpa using hneg
    go_wp2
    go_ret3
    exact RetO_none G.out (Below.refl _ _)
  · have h1 : decide (z < 0) = false := by simpa using hneg
    by_cases hbig : (n : Int) < z
    · have G := Lib.hid (openG_arg (xs := xs) (.inr (by rw [HL.out]; exact hbig)))
      have h2 : decide ((n : Int) < z) = true := by simpa using hbig
      go_enter Try.func47, Try.ntmps47
      go_wp2
      go_ret3
      exact RetO_none G.out (Below.refl _ _)
    · obtain ⟨a, rfl⟩ : ∃ a : Nat, z = a := ⟨z.toNat, by omega⟩
      have han : a ≤ n := by omega
      have h2 : decide (n < a) = false := by simp; omega
      clear hbig hneg h1 hz
      have hsl : ∀ w, (Instr.slice 22 (.slice A n c) (some (.int .i64 (a : Int))) none none).run Try.prog w = .ok (.slice (cutA A a c) (n - a) (c - a)) w :=
        cut_l Try.underlying22 elem_bytes size_u8 A han
      have hr : Rd w (cutA A a c) (n - a) (xs.drop a) := by
        have h := hx.cut (k := a) (m := n) han (Nat.le_refl _) hcap
        rw [List.take_of_length_le (by rw [HL.out]; omega)] at h
        exact h
      have hRnil := cutA_none hnil (show a ≤ c by omega)
      obtain ⟨R, hR⟩ : ∃ R, R = cutA A a c := ⟨_, rfl⟩
      obtain ⟨N, hN⟩ : ∃ N, N = n - a := ⟨_, rfl⟩
      obtain ⟨K, hK⟩ : ∃ K, K = c - a := ⟨_, rfl⟩
      obtain ⟨rs, hrs⟩ : ∃ rs, rs = xs.drop a := ⟨_, rfl⟩
      rw [← hR, ← hN, ← hK] at hsl
      rw [← hR, ← hK] at hRnil
      rw [← hR, ← hN, ← hrs] at hr
      have hNK : N ≤ K := by omega
      have hNa : n = a + N := by omega
      have HRN := Lib.hid hRnil
      have HRS := Lib.hid hrs
      have HNA := Lib.hid hNa
      have hN40 : N ≤ 1099511627776 := by omega
      have ha40 : a ≤ 1099511627776 := by omega
      clear hnil hRnil hR hN hK hrs hNa hcap
      by_cases h8 : N < 8
      · have G := Lib.hid (openG_end (xs := xs) HL.out han (by have := HNA.out; omega))
        have h3 : decide (N < 8) = true := by simpa using h8
        go_enter Try.func47, Try.ntmps47
        go_wp2
        go_ret3
        exact RetO_none G.out (Below.refl _ _)
      · have h3 : decide (N < 8) = false := by simpa using h8
        have hs4 : ∀ w, (Instr.slice 22 (.slice R N K) (some (.int .i64 4)) none none).run Try.prog w = .ok (.slice (cutA R 4 K) (N - 4) (K - 4)) w :=
          cut_l Try.underlying22 elem_bytes size_u8 R (k := 4) (by omega)
        have hr4 : Rd w (cutA R 4 K) (N - 4) (rs.drop 4) := by
          have h := hr.cut (k := 4) (m := N) (by omega) (Nat.le_refl _) hNK
          rw [List.take_of_length_le (by rw [hr.len]; omega)] at h
          exact h
        have HG1 : Hid (∀ w', Rd w' R N rs → Calls Try.prog 83 #[.slice R N K] w' fun e w'' => e = .returned (.int .u32 (numK rs 4 : Int)) ∧ ∃ q, w'' = w'.drewN q) := Lib.hid (fun w' h => (getWord_any R N K rs w' h (by omega) hN40 hNK).mono fun _ _ h => h)
        have HG2 : Hid (∀ w', Rd w' (cutA R 4 K) (N - 4) (rs.drop 4) → Calls Try.prog 83 #[.slice (cutA R 4 K) (N - 4) (K - 4)] w' fun e w'' => e = .returned (.int .u32 (numK (rs.drop 4) 4 : Int)) ∧ ∃ q, w'' = w'.drewN q) := Lib.hid (fun w' h => (getWord_any _ _ _ _ w' h (by omega) (by omega) (by omega)).mono fun _ _ h => h)
        obtain ⟨R4, hR4⟩ : ∃ R4, R4 = cutA R 4 K := ⟨_, rfl⟩
        obtain ⟨N4, hN4⟩ : ∃ N4, N4 = N - 4 := ⟨_, rfl⟩
        obtain ⟨K4, hK4⟩ : ∃ K4, K4 = K - 4 := ⟨_, rfl⟩
        rw [← hR4, ← hN4, ← hK4] at hs4 HG2
        rw [← hR4, ← hN4] at hr4
        clear hR4 hN4 hK4
        obtain ⟨m, hm⟩ : ∃ m, m = numK rs 4 := ⟨_, rfl⟩
        obtain ⟨sm, hsm⟩ : ∃ sm, sm = numK (rs.drop 4) 4 := ⟨_, rfl⟩
        have hm32 : m < 4294967296 := by rw [hm]; exact numK_lt rs 4
        have hsm32 : sm < 4294967296 := by rw [hsm]; exact numK_lt _ 4
        rw [← hm] at HG1
        rw [← hsm] at HG2
        have Hm := Lib.hid hm
        have Hsm := Lib.hid hsm
        have HM : Hid (m = numK (xs.drop a) 4) := Lib.hid (by rw [hm, HRS.out])
        clear hm hsm
        go_enter Try.func47, Try.ntmps47
        go_wp2
        go_quiet ((first | (go_at_call 83; with_reducible exact Calls.quiet_of (HG1.out _ (hr.drewN _))) | (go_at_call 83; with_reducible exact Calls.quiet_of (HG2.out _ (hr4.drewN _)))))
        obtain ⟨W, hW⟩ : ∃ W, W = w.drewN nq := ⟨_, rfl⟩
        have hrW : Rd W R N rs := by rw [hW]; exact hr.drewN _
        have hb0 : Below w.heap.size w W := by rw [hW]; exact below_drewN (Below.refl _ _) _
        rw [← hW]
        clear hW HG1 HG2 hs4 hr4 hsl hr h2
        have hi0 : IntKind.i64.wrap (m : Int) = (m : Int) := IntWalk.i64_in _ (by omega)
        by_cases hsz : 1048576 < m
        · have G := Lib.hid (openG_size (xs := xs) HL.out (by have := HNA.out; omega) HM.out hsz)
          have h4 : decide (1048576 < m) = true := by simpa using hsz
          go_wp2
          go_ret3
          exact RetO_none G.out hb0
        · have h4 : decide (1048576 < m) = false := by simpa using hsz
          by_cases hcut : N < 8 + m
          · have G := Lib.hid (openG_cut (xs := xs) HL.out (by have := HNA.out; omega) HM.out hsz (by have := HNA.out; omega))
            have h5 : decide ((N : Int) < 8 + (m : Int)) = true := by simp; omega
            go_wp2
            go_ret3
            exact RetO_none G.out hb0
          · have h5 : decide ((N : Int) < 8 + (m : Int)) = false := by simp; omega
            have hsi : ∀ w, (Instr.slice 22 (.slice R N K) (some (.int .i64 8)) (some (.int .i64 (8 + (m : Int)))) none).run Try.prog w = .ok (.slice (cutA R 8 K) m (K - 8)) w := fun w => by
              have h := cut_lh Try.underlying22 elem_bytes size_u8 R (n := N) (cap := K) (k := 8) (m := 8 + m) (by omega) (by omega) w
              rw [Nat.add_sub_cancel_left] at h
              exact h
            have hsh : ∀ w, (Instr.slice 22 (.slice R N K) none (some (.int .i64 4)) none).run Try.prog w = .ok (.slice R 4 K) w :=
              cut_h Try.underlying22 elem_bytes size_u8 R (m := 4) (by omega)
            have hri : Rd W (cutA R 8 K) m ((rs.take (8 + m)).drop 8) := by
              have h := hrW.cut (k := 8) (m := 8 + m) (by omega) (by omega) hNK
              rw [Nat.add_sub_cancel_left] at h
              exact h
            have hrh : Rd W R 4 (rs.take 4) := by
              have h := hrW.cut (k := 0) (m := 4) (by omega) (by omega) hNK
              rw [List.drop_zero] at h
              have e : cutA R 0 K = R := by
                unfold cutA
                rw [if_neg (by omega)]
                cases R <;> simp [Addr.add]
              rw [e] at h
              exact h
            have hin : cutA R 8 K = none → K - 8 = 0 := cutA_none HRN.out (by omega)
            have hR0 : R = none → K = 0 := HRN.out
            obtain ⟨I, hI⟩ : ∃ I, I = cutA R 8 K := ⟨_, rfl⟩
            obtain ⟨KI, hKI⟩ : ∃ KI, KI = K - 8 := ⟨_, rfl⟩
            have hmKI : m ≤ KI := by omega
            obtain ⟨bd, hbd⟩ : ∃ bd, bd = (rs.take (8 + m)).drop 8 := ⟨_, rfl⟩
            rw [← hI, ← hKI] at hsi hin
            rw [← hI, ← hbd] at hri
            have hbl := hri.len
            have hhl := hrh.len
            have hrl := hrW.len
            have hwe := whole_eq Hm.out (by rw [hrl]; omega)
            have e1 : (xs.take (a + 8 + m)).drop (a + 8) = bd := by
              rw [hbd, HRS.out, List.drop_take, List.drop_take, List.drop_drop, show a + 8 + m - (a + 8) = m by omega, show 8 + m - 8 = m by omega]
            have e2 : (xs.take (a + 8 + m)).drop a = rs.take (8 + m) := by
              rw [HRS.out, List.drop_take, show a + 8 + m - a = 8 + m by omega]
            have G := Lib.hid (openG_whole (xs := xs) HL.out HM.out hsz (by have := HNA.out; omega))
            rw [e1, e2] at G
            rw [← hbd, ← Hsm.out] at hwe
            have hap : a + (8 + m) = a + 8 + m := by omega
            have HAP := Lib.hid hap
            obtain ⟨zc, hzc⟩ : ∃ zc, zc = crcB (rs.take 4 ++ bd) := ⟨_, rfl⟩
            have hfl : [rs.take 4, bd].flatten = rs.take 4 ++ bd := by simp
            have HZC : Hid (crcB [rs.take 4, bd].flatten = zc) := Lib.hid (by rw [hfl, hzc])
            rw [← hzc] at hwe
            have hRa : R ≠ none := fun e => by have := hR0 e; omega
            have hts : tot [rs.take 4, bd] ≤ 1099511627776 := by simp only [tot, hhl, hbl]; omega
            have hL2 : RdL (W.alloc (.cells #[.slice R 4 K, .slice I m KI] 22)) (some ⟨W.heap.size, 0, none⟩) 2 [rs.take 4, bd] :=
              rdl_two ⟨R, 4, K, rfl, hrh, by omega, fun e => absurd e hRa⟩ ⟨I, m, KI, rfl, hri, hmKI, hin⟩ _ rfl
            have HIN := Lib.hid hin
            have HL2 := Lib.hid hL2
            clear hI hKI hbd hzc hfl e1 e2 hrW hrh hRa hap hL2 hin
            go_wp2_with fail
            have HS := Sum_any (some ⟨W.heap.size, 0, none⟩) 2 2 [rs.take 4, bd] _ HL2.out hts
            rw [HZC.out] at HS
            refine HS.mono ?_
            clear HS
            rintro e w1 ⟨rfl, hb1⟩
            have hb1 : Below W.heap.size W w1 := ((Below.refl _ _).alloc (Nat.le_refl _) _).trans (hb1.mono (by simp))
            have hr1 := hri.below hb1
            have hbw1 := hb0.trans (hb1.mono hb0.size)
            by_cases hsum : zc = sm
            · have F := Lib.hid (G.out.trans (if_pos (hwe.2 hsum)))
              have hne : ((zc : Int) != (sm : Int)) = false := by rw [hsum]; simp
              go_wp2_with fail
              refine (Clone_any I m KI bd _ hr1 (by omega) HIN.out).mono ?_
              rintro e w2 ⟨B, bn, bc, rfl, oB, hb2⟩
              go_wp2
              go_ret3
              have hbn : bn = m := by rw [← oB.len, hbl]
              subst hbn
              refine ⟨B, bn, bc, by rw [F.out, ← HAP.out]; rfl, ?_, hbw1.trans (hb2.mono hbw1.size)⟩
              rw [F.out]
              exact oB.mono hbw1.size
            · have F := Lib.hid (G.out.trans (if_neg (fun h => hsum (hwe.1 h))))
              have hne : ((zc : Int) != (sm : Int)) = true := by simp; omega
              go_wp2
              go_ret3
              exact RetO_none F.out hbw1
end Go.Proofs.Ytgigohfjioifaaa
namespace Go.Proofs.Ytgigohfjioifaaa
open Go Go.RowKit

/-- The same key and number. -/
def sameK (x e : En) : Bool := eqB x.key e.key && decide (x.seq = e.seq)
def inL (es : List En) (e : En) : Bool := es.any (fun x => sameK x e)
theorem inL_at {es : List En} {e x : En} {k : Nat} (hx : es[k]? = some x) (h : sameK x e = true) : inL es e = true := List.any_eq_true.2 ⟨x, List.mem_of_getElem? hx, h⟩
theorem inL_snoc {es : List En} {e x : En} {k : Nat} (hx : es[k]? = some x) (h : inL (es.take k) e = false) (hk : sameK x e = false) : inL (es.take (k + 1)) e = false := by
  rw [List.take_add_one, hx]
  unfold inL at h ⊢
  rw [List.any_append, h]
  simp [hk]
set_option maxRecDepth 100000 in
set_option maxHeartbeats 4000000 in
theorem In_any {w : World} {A : Option Addr} {n c : Nat} {es : List En} {e : En} {v0 v1 v2 v3 : Value} (h : REs w A n es) (hn : n ≤ 1099511627776) (hs : ∀ x ∈ es, SzE x) (he : EV w e v0 v1 v2 v3) (se : SzE e) :
    Calls Try.prog 62 #[.slice A n c, .agg #[v0, v1, v2, v3]] w (RetT w (inL es e)) := by
  obtain ⟨K, kn, kc, V, vn, vc, rfl, rfl, rfl, rfl, r0, _⟩ := he.parts
  obtain ⟨U, hU⟩ : ∃ U, U = w.alloc (.cells #[.slice K kn kc, .int .u64 (e.seq : Int), .int .u8 (e.kind : Int), .slice V vn vc] 33) := ⟨_, rfl⟩
  have bU : Below w.heap.size w U := by rw [hU]; exact (Below.refl _ _).alloc (Nat.le_refl _) _
  have XU := Lib.hid (show Cl U w.heap.size #[.slice K kn kc, .int .u64 (e.seq : Int), .int .u8 (e.kind : Int), .slice V vn vc] 33 by rw [hU]; exact Cl.new _ _ _)
  have hk : kn ≤ maxLen := maxLen_e (by rw [← r0.len]; exact se.1)
  have HK := Lib.hid (r0.below bU)
  have H1 := Lib.hid (h.below bU)
  have HLN := Lib.hid h.len
  have HS := Lib.hid hs
  have BU := Lib.hid bU
  clear h hs he r0 bU
  go_enter Try.func62, Try.ntmps62
  go_upto_block 1 with fail
  rw [← hU]
  clear hU
  go_wp2_with fail
  go_loopw [5] (fun s5 wr => ∃ k : Nat, k ≤ n ∧ s5 = .int .i64 (k : Int) ∧ inL (es.take k) e = false ∧ Below U.heap.size U wr) (fun s _ => n - (intOf s).toNat)
  case atStart => exact ⟨0, Nat.zero_le _, rfl, rfl, Below.refl _ _⟩
  case round =>
    obtain ⟨k, hk', rfl, hin, hB⟩ := hrel
    have HB := Lib.hid hB
    have HIN := Lib.hid hin
    have XR := Lib.hid (XU.out.below hB)
    have HKR := Lib.hid (HK.out.below hB)
    have hR := H1.out.below hB
    clear hB hin
    by_cases hlt : k < n
    · obtain ⟨b, off, hAb, hbl⟩ := hR.pos (by omega)
      subst hAb
      obtain ⟨x, u0, u1, u2, u3, hx, c0, c1, c2, c3, hev⟩ := hR.at_ k hlt
      obtain ⟨L, ln, lc, M, mn, mc, rfl, rfl, rfl, rfl, q0, _⟩ := hev.parts
      have hsx := HS.out x (List.mem_of_getElem? hx)
      have hln : ln ≤ maxLen := maxLen_e (by rw [← q0.len]; exact hsx.1)
      have HXK := Lib.hid hx
      obtain ⟨z, hz⟩ : ∃ z, z = eqB x.key e.key := ⟨_, rfl⟩
      have HE : Hid (∀ q, Calls Try.prog 46 #[.slice L ln lc, .slice K kn kc] (wr.drewN q) (RetB (wr.drewN q) z)) := Lib.hid (fun q => by rw [hz]; exact Equal_any _ _ _ _ _ _ x.key e.key _ (q0.drewN q) (HKR.out.drewN q) hln hk)
      have HSK : Hid (sameK x e = (z && decide (x.seq = e.seq))) := Lib.hid (by rw [hz]; rfl)
      obtain ⟨d0, d1, d2, d3, _⟩ := XR.out.c4
      clear hR hx hev q0 hz
      by_cases hsq : x.seq = e.seq
      · cases z with
        | true =>
          have HTR : Hid (inL es e = true) := Lib.hid (inL_at HXK.out (by rw [HSK.out]; simpa using hsq))
          go_wp2
          go_quiet ((go_at_call 46; with_reducible exact Calls.quiet_of (HE.out _)))
          have BN := Lib.hid (below_drewN (belowT' BU.out HB.out) nq)
          clear c0 c1 c2 c3 d0 d1 d2 d3
          go_wp2
          go_ret
          exact ⟨by rw [HTR.out]; rfl, BN.out⟩
        | false =>
          have HNX : Hid (inL (es.take (k + 1)) e = false) := Lib.hid (inL_snoc HXK.out HIN.out (by rw [HSK.out]; simp))
          go_wp2
          go_quiet ((go_at_call 46; with_reducible exact Calls.quiet_of (HE.out _)))
          have BN := Lib.hid (below_drewN HB.out nq)
          clear c0 c1 c2 c3 d0 d1 d2 d3
          go_wp2
          go_roundw
          case rel => exact ⟨k + 1, by omega, by go_num, HNX.out, BN.out⟩
          case measure => simp [intOf]; omega
      · cases z with
        | true =>
          have HNX : Hid (inL (es.take (k + 1)) e = false) := Lib.hid (inL_snoc HXK.out HIN.out (by rw [HSK.out]; simp; exact hsq))
          go_wp2
          go_quiet ((go_at_call 46; with_reducible exact Calls.quiet_of (HE.out _)))
          have BN := Lib.hid (below_drewN HB.out nq)
          clear c0 c1 c2 c3 d0 d1 d2 d3
          go_wp2
          go_roundw
          case rel => exact ⟨k + 1, by omega, by go_num, HNX.out, BN.out⟩
          case measure => simp [intOf]; omega
        | false =>
          have HNX : Hid (inL (es.take (k + 1)) e = false) := Lib.hid (inL_snoc HXK.out HIN.out (by rw [HSK.out]; simp))
          go_wp2
          go_quiet ((go_at_call 46; with_reducible exact Calls.quiet_of (HE.out _)))
          have BN := Lib.hid (below_drewN HB.out nq)
          clear c0 c1 c2 c3 d0 d1 d2 d3
          go_wp2
          go_roundw
          case rel => exact ⟨k + 1, by omega, by go_num, HNX.out, BN.out⟩
          case measure => simp [intOf]; omega
    · have htk : es.take k = es := List.take_of_length_le (by have := HLN.out; omega)
      have HFN : Hid (inL es e = false) := Lib.hid (by rw [← htk]; exact HIN.out)
      have BW := Lib.hid (belowT' BU.out HB.out)
      clear htk hR
      go_wp2
      go_ret
      exact ⟨by rw [HFN.out]; rfl, BW.out⟩
end Go.Proofs.Ytgigohfjioifaaa
namespace Go.Proofs.Ytgigohfjioifaaa
open Go Go.RowKit

/-- The least place at which p says yes. -/
def RetSe (w : World) (n : Nat) (p : Nat → Bool) (e : Ending) (w' : World) : Prop :=
  ∃ r : Nat, e = .returned (.int .i64 (r : Int)) ∧ r ≤ n ∧ (∀ t, t < r → p t = false) ∧ (∀ t, r ≤ t → t < n → p t = true) ∧ Below w.heap.size w w'
set_option maxRecDepth 100000 in
set_option maxHeartbeats 4000000 in
theorem search_any (g : Nat) (cb : Array Value) (n : Nat) (p : Nat → Bool) (w : World) (eg : ∀ args w, (callFunc g args).run Try.prog w = .ok (.enter g args) w) (hn : n ≤ 1099511627776)
    (hf : ∀ wx, Below w.heap.size w wx → ∀ i : Nat, i < n → Calls Try.prog g (#[.int .i64 (i : Int)] ++ cb) wx (RetT wx (p i)))
    (hmono : ∀ a b, a ≤ b → b < n → p a = true → p b = true) :
    Calls Try.prog 53 #[.int .i64 (n : Int), .func (.func g) #[] cb] w (RetSe w n p) := by
  have HF := Lib.hid hf
  have HM := Lib.hid hmono
  clear hf hmono
  go_enter Try.func53, Try.ntmps53
  go_wp2_with fail
  go_loopw [5, 6] (fun s5 s6 wr => ∃ lo hi : Nat, s5 = .int .i64 (lo : Int) ∧ s6 = .int .i64 (hi : Int) ∧ lo ≤ hi ∧ hi ≤ n ∧ (∀ t, t < lo → p t = false) ∧ (∀ t, hi ≤ t → t < n → p t = true) ∧ Below w.heap.size w wr) (fun s5 s6 _ => (intOf s6).toNat - (intOf s5).toNat)
  case atStart => exact ⟨0, n, rfl, rfl, Nat.zero_le _, Nat.le_refl _, fun t h => absurd h (Nat.not_lt_zero _), fun t h1 h2 => absurd h2 (by omega), Below.refl _ _⟩
  case round =>
    obtain ⟨lo, hi, rfl, rfl, h1, h2, h3, h4, hB⟩ := hrel
    have HB := Lib.hid hB
    have H3 := Lib.hid h3
    have H4 := Lib.hid h4
    clear hB h3 h4
    by_cases hlt : lo < hi
    · obtain ⟨m, hm⟩ : ∃ m, m = (lo + hi) / 2 := ⟨_, rfl⟩
      have e1 : ((lo : Int) + (hi : Int)) / 2 = (m : Int) := by omega
      have hmn : m < hi := by omega
      have hml : lo ≤ m := by omega
      have hc := HF.out wr HB.out m (by omega)
      cases hp : p m with
      | true =>
        rw [hp] at hc
        have HC := Lib.hid hc
        have HP := Lib.hid hp
        have HN : Hid (∀ t, m ≤ t → t < n → p t = true) := Lib.hid (fun t ht htn => HM.out m t ht htn HP.out)
        clear hc hp hm
        go_wp2_with fail
        with_reducible refine HC.out.mono ?_
        intro e w2 hq
        obtain ⟨he, b2⟩ := RetT.outD hq
        subst he
        have B2 := Lib.hid (HB.out.trans (b2.mono HB.out.size))
        clear hq b2
        go_wp2_with fail
        go_roundw
        case rel => exact ⟨lo, m, rfl, rfl, hml, by omega, H3.out, HN.out, B2.out⟩
        case measure => simp [intOf]; omega
      | false =>
        rw [hp] at hc
        have HC := Lib.hid hc
        have HP := Lib.hid hp
        have HN : Hid (∀ t, t < m + 1 → p t = false) := Lib.hid (fun t ht => by
          cases hq : p t with
          | false => rfl
          | true =>
            have := HM.out t m (by omega) (by omega) hq
            rw [HP.out] at this
            cases this)
        clear hc hp hm
        go_wp2_with fail
        with_reducible refine HC.out.mono ?_
        intro e w2 hq
        obtain ⟨he, b2⟩ := RetT.outD hq
        subst he
        have B2 := Lib.hid (HB.out.trans (b2.mono HB.out.size))
        clear hq b2
        go_wp2_with fail
        go_roundw
        case rel => exact ⟨m + 1, hi, by go_num, rfl, by omega, h2, HN.out, H4.out, B2.out⟩
        case measure => simp [intOf]; omega
    · obtain rfl : lo = hi := by omega
      go_wp2_with fail
      go_ret
      exact ⟨lo, rfl, h2, H3.out, H4.out, HB.out⟩
end Go.Proofs.Ytgigohfjioifaaa
namespace Go.Proofs.Ytgigohfjioifaaa
open Go Go.RowKit

inductive Tr where
  | nil : Tr
  | node : Tr → En → Tr → Tr
def Tr.ht : Tr → Nat
  | .nil => 0
  | .node l _ r => 1 + max l.ht r.ht
def Tr.num : Tr → Nat
  | .nil => 0
  | .node l _ r => l.num + 1 + r.num
def Tr.list : Tr → List En
  | .nil => []
  | .node l e r => l.list ++ e :: r.list
theorem Tr.ht_num : ∀ t : Tr, t.ht ≤ t.num
  | .nil => Nat.le_refl _
  | .node l e r => by
    have := Tr.ht_num l
    have := Tr.ht_num r
    simp only [Tr.ht, Tr.num]
    omega
/-- 'These four values are the entry e; its bytes are the program's own and lie in good blocks.' -/
def EG (G : Nat → Prop) (w : World) (e : En) (v0 v1 v2 v3 : Value) : Prop :=
  EO 0 w e v0 v1 v2 v3 ∧ ∀ A m c g, Value.slice A m c ∈ [v0, v1, v2, v3] → blk A = some g → G g
/-- 'The entry e lies in the box at p.' -/
def EB (G : Nat → Prop) (w : World) (e : En) (p : Nat) : Prop := ∃ v0 v1 v2 v3, Cl w p #[v0, v1, v2, v3] 33 ∧ EG G w e v0 v1 v2 v3
/-- 'The pointer A leads to the tree t.' -/
def TrAt (G : Nat → Prop) (w : World) : Tr → Option Addr → Prop
  | .nil, A => A = none
  | .node l e r, A => ∃ b pe pl pr, A = some ⟨b, 0, none⟩ ∧ Cl w b #[.pointer (some ⟨pe, 0, none⟩), .pointer pl, .pointer pr, .int .i64 ((1 + max l.ht r.ht : Nat) : Int)] 145 ∧ EB G w e pe ∧ TrAt G w l pl ∧ TrAt G w r pr
section
variable {G : Nat → Prop} {w w' : World}
theorem EG.below {e : En} {v0 v1 v2 v3 : Value} (h : EG G w e v0 v1 v2 v3) (hb : Below w.heap.size w w') : EG G w' e v0 v1 v2 v3 := ⟨h.1.below hb, h.2⟩
theorem EB.below {e : En} {p : Nat} (h : EB G w e p) (hb : Below w.heap.size w w') : EB G w' e p := by
  obtain ⟨v0, v1, v2, v3, h1, h2⟩ := h
  exact ⟨v0, v1, v2, v3, h1.below hb, h2.below hb⟩
theorem TrAt.below (hb : Below w.heap.size w w') : ∀ {t : Tr} {A : Option Addr}, TrAt G w t A → TrAt G w' t A
  | .nil, _, h => h
  | .node _ _ _, _, ⟨b, pe, pl, pr, h1, h2, h3, h4, h5⟩ => ⟨b, pe, pl, pr, h1, h2.below hb, h3.below hb, TrAt.below hb h4, TrAt.below hb h5⟩
theorem belowT {w0 w1 w2 : World} (h : Below w0.heap.size w0 w1) (hb : Below w1.heap.size w1 w2) : Below w0.heap.size w0 w2 := h.trans (hb.mono h.size)
def RetTr (G : Nat → Prop) (w : World) (t : Tr) (e : Ending) (w' : World) : Prop := ∃ A, e = .returned (.pointer A) ∧ TrAt G w' t A ∧ Below w.heap.size w w'
theorem RetTr.out {t : Tr} {e : Ending} (h : RetTr G w t e w') : ∃ A, e = .returned (.pointer A) ∧ TrAt G w' t A ∧ Below w.heap.size w w' := h
theorem height_any {t : Tr} {A : Option Addr} (h : TrAt G w t A) : Calls Try.prog 130 #[.pointer A] w (RetNu w (t.ht : Int)) := by
  cases t with
  | nil =>
    have hA : A = none := h
    subst hA
    go_enter Try.func130, Try.ntmps130
    go_wp2
    go_ret
    exact ⟨rfl, Below.refl _ _⟩
  | node l e r =>
    obtain ⟨b, pe, pl, pr, rfl, h2, _⟩ := h
    obtain ⟨c0, c1, c2, c3, _⟩ := h2.c4
    go_enter Try.func130, Try.ntmps130
    go_wp2
    go_ret
    exact ⟨rfl, Below.refl _ _⟩
set_option maxHeartbeats 2000000 in
theorem join_any {l r : Tr} {e : En} {pl pr : Option Addr} {pe : Nat} (hl : TrAt G w l pl) (hr : TrAt G w r pr) (he : EB G w e pe) (hn : l.num ≤ 1099511627776 ∧ r.num ≤ 1099511627776) :
    Calls Try.prog 103 #[.pointer pl, .pointer (some ⟨pe, 0, none⟩), .pointer pr] w (RetTr G w (.node l e r)) := by
  have h1 := l.ht_num
  have h2 := r.ht_num
  have HL := Lib.hid hl
  have HR := Lib.hid hr
  have HE := Lib.hid he
  obtain ⟨a, ha⟩ : ∃ a, a = l.ht := ⟨_, rfl⟩
  obtain ⟨b, hb⟩ : ∃ b, b = r.ht := ⟨_, rfl⟩
  have HA := Lib.hid ha
  have HB := Lib.hid hb
  have la : a ≤ 1099511627776 := by omega
  have lb : b ≤ 1099511627776 := by omega
  have mx : max (a : Int) (b : Int) = ((max a b : Nat) : Int) := by omega
  have sm : IntKind.i64.wrap (1 + ((max a b : Nat) : Int)) = ((1 + max a b : Nat) : Int) := by rw [IntWalk.i64_in _ (by omega)]; omega
  clear hl hr he ha hb h1 h2
  go_enter Try.func103, Try.ntmps103
  go_wp2_with fail
  refine (height_any HL.out).mono ?_
  rintro e w1 ⟨rfl, b1⟩
  rw [← HA.out]
  have HR1 := Lib.hid (HR.out.below b1)
  have B1 := Lib.hid b1
  clear b1
  go_wp2_with fail
  refine (height_any HR1.out).mono ?_
  rintro e w2 ⟨rfl, b2⟩
  rw [← HB.out]
  have HR2 := Lib.hid (HR1.out.below b2)
  have HL2 := Lib.hid ((HL.out.below B1.out).below b2)
  have HE2 := Lib.hid ((HE.out.below B1.out).below b2)
  have B2 := Lib.hid (belowT B1.out b2)
  clear b2
  clear mx sm
  go_wp2
  all_goals
    first
      | (have ex : ((1 + max l.ht r.ht : Nat) : Int) = 1 + (a : Int) := by rw [← HA.out, ← HB.out]; omega
         have EX := Lib.hid ex
         clear ex
         go_ret
         refine ⟨_, rfl, ⟨_, pe, pl, pr, rfl, by rw [EX.out]; exact Cl.new _ _ _, HE2.out.below ((Below.refl _ _).alloc (Nat.le_refl _) _), HL2.out.below ((Below.refl _ _).alloc (Nat.le_refl _) _), HR2.out.below ((Below.refl _ _).alloc (Nat.le_refl _) _)⟩, B2.out.alloc B2.out.size _⟩)
      | (have ex : ((1 + max l.ht r.ht : Nat) : Int) = 1 + (b : Int) := by rw [← HA.out, ← HB.out]; omega
         have EX := Lib.hid ex
         clear ex
         go_ret
         refine ⟨_, rfl, ⟨_, pe, pl, pr, rfl, by rw [EX.out]; exact Cl.new _ _ _, HE2.out.below ((Below.refl _ _).alloc (Nat.le_refl _) _), HL2.out.below ((Below.refl _ _).alloc (Nat.le_refl _) _), HR2.out.below ((Below.refl _ _).alloc (Nat.le_refl _) _)⟩, B2.out.alloc B2.out.size _⟩)
      | (have ex : ((1 + max l.ht r.ht : Nat) : Int) = 1 + max (a : Int) (b : Int) := by rw [← HA.out, ← HB.out]; omega
         have EX := Lib.hid ex
         clear ex
         go_ret
         refine ⟨_, rfl, ⟨_, pe, pl, pr, rfl, by rw [EX.out]; exact Cl.new _ _ _, HE2.out.below ((Below.refl _ _).alloc (Nat.le_refl _) _), HL2.out.below ((Below.refl _ _).alloc (Nat.le_refl _) _), HR2.out.below ((Below.refl _ _).alloc (Nat.le_refl _) _)⟩, B2.out.alloc B2.out.size _⟩)
/-- The tree of both sides, turned where one has two levels more. -/
def balT (l : Tr) (e : En) (r : Tr) : Tr :=
  if r.ht + 1 < l.ht then
    match l with
    | .nil => .node l e r
    | .node ll le lr => if lr.ht ≤ ll.ht then .node ll le (.node lr e r) else
      match lr with
      | .nil => .node l e r
      | .node a x b => .node (.node ll le a) x (.node b e r)
  else if l.ht + 1 < r.ht then
    match r with
    | .nil => .node l e r
    | .node rl re rr => if rl.ht ≤ rr.ht then .node (.node l e rl) re rr else
      match rl with
      | .nil => .node l e r
      | .node a x b => .node (.node l e a) x (.node b re rr)
  else .node l e r
theorem balT_list (l : Tr) (e : En) (r : Tr) : (balT l e r).list = l.list ++ e :: r.list := by
  unfold balT
  split
  · cases l with
    | nil => rfl
    | node ll le lr =>
      simp only
      split
      · simp [Tr.list]
      · cases lr with
        | nil => rfl
        | node a x b => simp [Tr.list]
  · split
    · cases r with
      | nil => rfl
      | node rl re rr =>
        simp only
        split
        · simp [Tr.list]
        · cases rl with
          | nil => rfl
          | node a x b => simp [Tr.list]
    · rfl
theorem Tr.num_list : ∀ t : Tr, t.num = t.list.length
  | .nil => rfl
  | .node l e r => by
    rw [Tr.num, Tr.list, List.length_append, List.length_cons, ← Tr.num_list l, ← Tr.num_list r]
    omega
theorem balT_num (l : Tr) (e : En) (r : Tr) : (balT l e r).num = l.num + 1 + r.num := by
  rw [Tr.num_list, balT_list, List.length_append, List.length_cons, ← Tr.num_list, ← Tr.num_list]
  omega
/-- A node's cells. -/
theorem TrAt.cells {l r : Tr} {e : En} {b : Nat} (h : TrAt G w (.node l e r) (some ⟨b, 0, none⟩)) : ∃ pe pl pr, w.cell? ⟨b, 0, none⟩ = some (.pointer (some ⟨pe, 0, none⟩)) ∧ w.cell? ⟨b, 1, none⟩ = some (.pointer pl) ∧ w.cell? ⟨b, 2, none⟩ = some (.pointer pr) ∧ b < w.heap.size ∧ EB G w e pe ∧ TrAt G w l pl ∧ TrAt G w r pr := by
  obtain ⟨b', pe, pl, pr, e1, h2, h3, h4, h5⟩ := h
  injection e1 with e1
  injection e1 with e1
  subst e1
  exact ⟨pe, pl, pr, h2.cell 0, h2.cell 1, h2.cell 2, h2.lt, h3, h4, h5⟩
theorem TrAt.ptr {l r : Tr} {e : En} {A : Option Addr} (h : TrAt G w (.node l e r) A) : ∃ b, A = some ⟨b, 0, none⟩ := by
  obtain ⟨b', _, _, _, e1, _⟩ := h
  exact ⟨b', e1⟩
set_option maxRecDepth 100000 in
set_option maxHeartbeats 8000000 in
theorem balance_any {l r : Tr} {e : En} {pl pr : Option Addr} {pe : Nat} (hl : TrAt G w l pl) (hr : TrAt G w r pr) (he : EB G w e pe) (hn : l.num + r.num ≤ 1099511627776) :
    Calls Try.prog 104 #[.pointer pl, .pointer (some ⟨pe, 0, none⟩), .pointer pr] w (RetTr G w (balT l e r)) := by
  have h1 := l.ht_num
  have h2 := r.ht_num
  have HL := Lib.hid hl
  have HR := Lib.hid hr
  have HE := Lib.hid he
  obtain ⟨a, ha⟩ : ∃ a, a = l.ht := ⟨_, rfl⟩
  obtain ⟨b, hb⟩ : ∃ b, b = r.ht := ⟨_, rfl⟩
  have HA := Lib.hid ha
  have HB := Lib.hid hb
  have la : a ≤ 1099511627776 := by omega
  have lb : b ≤ 1099511627776 := by omega
  have HHL : Hid (∀ wx, Below w.heap.size w wx → Calls Try.prog 130 #[.pointer pl] wx (RetNu wx (a : Int))) := Lib.hid (fun wx hb => by rw [HA.out]; exact height_any (HL.out.below hb))
  have HHR : Hid (∀ wx, Below w.heap.size w wx → Calls Try.prog 130 #[.pointer pr] wx (RetNu wx (b : Int))) := Lib.hid (fun wx hb => by rw [HB.out]; exact height_any (HR.out.below hb))
  clear hl hr he ha hb h1 h2
  go_enter Try.func104, Try.ntmps104
  go_wp2_with fail
  refine (HHL.out _ (Below.refl _ _)).mono ?_
  rintro e1 w1 ⟨rfl, b1⟩
  have B1 := Lib.hid b1
  clear b1
  go_wp2_with fail
  refine (HHR.out _ B1.out).mono ?_
  rintro e1 w2 ⟨rfl, b2⟩
  have B2 := Lib.hid (belowT B1.out b2)
  clear b2
  by_cases c1 : b + 1 < a
  · obtain ⟨wC, hwC⟩ : ∃ wC, wC = w2 := ⟨_, rfl⟩
    rw [← hwC] at B2 ⊢
    have BC := Lib.hid B2.out
    clear hwC
    cases l with
    | nil => exfalso; have := HA.out; simp [Tr.ht] at this; omega
    | node ll le lr =>
      obtain ⟨bl, rfl⟩ := HL.out.ptr
      obtain ⟨qe, ql, qr, k0, k1, k2, klt, xe, xl, xr⟩ := (HL.out.below BC.out).cells
      have XE := Lib.hid xe
      have XL := Lib.hid xl
      have XR := Lib.hid xr
      have hln := ll.ht_num
      have hrn := lr.ht_num
      have hnn : ll.num + 1 + lr.num + r.num ≤ 1099511627776 := hn
      obtain ⟨x, hx⟩ : ∃ x, x = ll.ht := ⟨_, rfl⟩
      obtain ⟨y, hy⟩ : ∃ y, y = lr.ht := ⟨_, rfl⟩
      have HX := Lib.hid hx
      have HY := Lib.hid hy
      have lx : x ≤ 1099511627776 := by omega
      have ly : y ≤ 1099511627776 := by omega
      have HRR := Lib.hid (HR.out.below BC.out)
      have HEE := Lib.hid (HE.out.below BC.out)
      have c0 := show Tr.ht r + 1 < Tr.ht (Tr.node ll le lr) by rw [← HA.out, ← HB.out]; exact c1
      have C0 := Lib.hid c0
      clear hx hy xe xl xr hln hrn c0
      have HO : Hid (∀ wx, Below wC.heap.size wC wx → Calls Try.prog 130 #[.pointer ql] wx (RetNu wx (x : Int))) := Lib.hid (fun wx hb => by rw [HX.out]; exact height_any (XL.out.below hb))
      have HI : Hid (∀ wx, Below wC.heap.size wC wx → Calls Try.prog 130 #[.pointer qr] wx (RetNu wx (y : Int))) := Lib.hid (fun wx hb => by rw [HY.out]; exact height_any (XR.out.below hb))
      go_wp2_with fail
      refine (HO.out _ (Below.refl _ _)).mono ?_
      rintro e1 w3 ⟨rfl, b3⟩
      have B3 := Lib.hid b3
      clear b3
      go_wp2_with fail
      refine (HI.out _ B3.out).mono ?_
      rintro e1 w4 ⟨rfl, b4⟩
      have b4' := belowT B3.out b4
      have B4 := Lib.hid b4'
      have k0' := (b4'.cell (p := ⟨bl, 0, none⟩) klt).trans k0
      have k1' := (b4'.cell (p := ⟨bl, 1, none⟩) klt).trans k1
      have k2' := (b4'.cell (p := ⟨bl, 2, none⟩) klt).trans k2
      have klt4 : bl < w4.heap.size := Nat.lt_of_lt_of_le klt b4'.size
      have XE := Lib.hid (XE.out.below b4')
      have XL := Lib.hid (XL.out.below b4')
      have XR := Lib.hid (XR.out.below b4')
      have HRR := Lib.hid (HRR.out.below b4')
      have HEE := Lib.hid (HEE.out.below b4')
      have BB4 := Lib.hid (belowT BC.out b4')
      clear b4 b4' k0 k1 k2
      by_cases c3 : y ≤ x
      · have c2' : lr.ht ≤ ll.ht := by rw [← HX.out, ← HY.out]; exact c3
        have HBAL : Hid (balT (Tr.node ll le lr) e r = (.node ll le (.node lr e r))) := Lib.hid (by
          have c0 := C0.out
          
          unfold balT; rw [if_pos c0]; simp only; rw [if_pos c2'])
        have HJ1 : Hid (∀ wx, Below w4.heap.size w4 wx → Calls Try.prog 103 #[.pointer qr, .pointer (some ⟨pe, 0, none⟩), .pointer pr] wx (RetTr G wx (.node lr e r))) := Lib.hid (fun wx hb => join_any (XR.out.below hb) (HRR.out.below hb) (HEE.out.below hb) ⟨by omega, by omega⟩)
        have HJ2 : Hid (∀ wx X, Below w4.heap.size w4 wx → TrAt G wx (.node lr e r) X → Calls Try.prog 103 #[.pointer ql, .pointer (some ⟨qe, 0, none⟩), .pointer X] wx (RetTr G wx (.node ll le (.node lr e r)))) := Lib.hid (fun wx X hb ht => join_any (XL.out.below hb) ht (XE.out.below hb) ⟨by omega, by simp only [Tr.num]; omega⟩)
        have HSX : Hid (∀ wx, Below w4.heap.size w4 wx → wx.cell? ⟨bl, 0, none⟩ = some (.pointer (some ⟨qe, 0, none⟩)) ∧ wx.cell? ⟨bl, 1, none⟩ = some (.pointer ql) ∧ wx.cell? ⟨bl, 2, none⟩ = some (.pointer qr)) := Lib.hid (fun wx h => ⟨(h.cell (p := ⟨bl, 0, none⟩) klt4).trans k0', (h.cell (p := ⟨bl, 1, none⟩) klt4).trans k1', (h.cell (p := ⟨bl, 2, none⟩) klt4).trans k2'⟩)
        have hB0 : Below w4.heap.size w4 w4.drew := (Below.refl _ _).drew
        clear c2'
        go_upto_region 4 with (fail)
        go_region_held3 (fun wx => wx.cell? ⟨bl, 0, none⟩ = some (.pointer (some ⟨qe, 0, none⟩)) ∧ wx.cell? ⟨bl, 1, none⟩ = some (.pointer ql) ∧ wx.cell? ⟨bl, 2, none⟩ = some (.pointer qr)) (first | assumption | exact HSX.out _ hB0)
          (first | (go_at_call 103; with_reducible refine (HJ1.out _ (by assumption)).mono ?_; intro e1 w8 hq; obtain ⟨A8, h18, t8, b8⟩ := RetTr.out hq; subst h18; have b8' := belowT (by assumption : Below w4.heap.size w4 _) b8; have hS8 := HSX.out _ b8') | (go_at_call 103; with_reducible refine (HJ2.out _ _ b8' t8).mono ?_; intro e1 w9 hq; obtain ⟨A9, h19, t9, b9⟩ := RetTr.out hq; subst h19; have b9' := belowT b8' b9; have hS9 := HSX.out _ b9'))
        all_goals
          have HFIN := Lib.hid t9
          have HBF := Lib.hid (belowT BB4.out b9')
          clear t8 b8 b8' hS8 t9 b9 b9' hS9
          go_wp2_with fail
          go_ret
          exact ⟨A9, rfl, by rw [HBAL.out]; exact HFIN.out, HBF.out⟩
      · cases lr with
        | nil => exfalso; have := HY.out; simp [Tr.ht] at this; omega
        | node ta ix tb =>
          obtain ⟨bi, rfl⟩ := XR.out.ptr
          obtain ⟨ie, ia, ib, i0, i1, i2, ilt, ye, yl, yr⟩ := (XR.out).cells
          have IE := Lib.hid ye
          have IA := Lib.hid yl
          have IB := Lib.hid yr
          clear ye yl yr
          simp only [Tr.num] at hnn
          have c2' : ¬ (Tr.node ta ix tb).ht ≤ ll.ht := by rw [← HX.out, ← HY.out]; exact c3
          have HBAL : Hid (balT (Tr.node ll le (Tr.node ta ix tb)) e r = (.node (.node ll le ta) ix (.node tb e r))) := Lib.hid (by
            have c0 := C0.out
            
            unfold balT; rw [if_pos c0]; simp only; rw [if_neg c2'])
          have HJ1 : Hid (∀ wx, Below w4.heap.size w4 wx → Calls Try.prog 103 #[.pointer ql, .pointer (some ⟨qe, 0, none⟩), .pointer ia] wx (RetTr G wx (.node ll le ta))) := Lib.hid (fun wx hb => join_any (XL.out.below hb) (IA.out.below hb) (XE.out.below hb) ⟨by omega, by omega⟩)
          have HJ2 : Hid (∀ wx, Below w4.heap.size w4 wx → Calls Try.prog 103 #[.pointer ib, .pointer (some ⟨pe, 0, none⟩), .pointer pr] wx (RetTr G wx (.node tb e r))) := Lib.hid (fun wx hb => join_any (IB.out.below hb) (HRR.out.below hb) (HEE.out.below hb) ⟨by omega, by omega⟩)
          have HJ3 : Hid (∀ wx X Z, Below w4.heap.size w4 wx → TrAt G wx (.node ll le ta) X → TrAt G wx (.node tb e r) Z → Calls Try.prog 103 #[.pointer X, .pointer (some ⟨ie, 0, none⟩), .pointer Z] wx (RetTr G wx (.node (.node ll le ta) ix (.node tb e r)))) := Lib.hid (fun wx X Z hb h1 h2 => join_any h1 h2 (IE.out.below hb) ⟨by simp only [Tr.num]; omega, by simp only [Tr.num]; omega⟩)
          have HSX : Hid (∀ wx, Below w4.heap.size w4 wx → wx.cell? ⟨bl, 0, none⟩ = some (.pointer (some ⟨qe, 0, none⟩)) ∧ wx.cell? ⟨bl, 1, none⟩ = some (.pointer ql) ∧ wx.cell? ⟨bl, 2, none⟩ = some (.pointer (some ⟨bi, 0, none⟩)) ∧ wx.cell? ⟨bi, 0, none⟩ = some (.pointer (some ⟨ie, 0, none⟩)) ∧ wx.cell? ⟨bi, 1, none⟩ = some (.pointer ia) ∧ wx.cell? ⟨bi, 2, none⟩ = some (.pointer ib)) := Lib.hid (fun wx h => ⟨(h.cell (p := ⟨bl, 0, none⟩) klt4).trans k0', (h.cell (p := ⟨bl, 1, none⟩) klt4).trans k1', (h.cell (p := ⟨bl, 2, none⟩) klt4).trans k2', (h.cell (p := ⟨bi, 0, none⟩) ilt).trans i0, (h.cell (p := ⟨bi, 1, none⟩) ilt).trans i1, (h.cell (p := ⟨bi, 2, none⟩) ilt).trans i2⟩)
          have hB0 : Below w4.heap.size w4 w4.drew := (Below.refl _ _).drew
          clear c2'
          go_upto_region 5 with (fail)
          go_region_held3 (fun wx => wx.cell? ⟨bl, 0, none⟩ = some (.pointer (some ⟨qe, 0, none⟩)) ∧ wx.cell? ⟨bl, 1, none⟩ = some (.pointer ql) ∧ wx.cell? ⟨bl, 2, none⟩ = some (.pointer (some ⟨bi, 0, none⟩)) ∧ wx.cell? ⟨bi, 0, none⟩ = some (.pointer (some ⟨ie, 0, none⟩)) ∧ wx.cell? ⟨bi, 1, none⟩ = some (.pointer ia) ∧ wx.cell? ⟨bi, 2, none⟩ = some (.pointer ib)) (first | assumption | exact HSX.out _ hB0)
            (first | (go_at_call 103; with_reducible refine (HJ3.out _ _ _ b9' (TrAt.below b9 t8) t9).mono ?_; intro e1 w10 hq; obtain ⟨A10, h110, t10, b10⟩ := RetTr.out hq; subst h110; have b10' := belowT b9' b10; have hS10 := HSX.out _ b10') | (go_at_call 103; with_reducible refine (HJ3.out _ _ _ b8' t8 (TrAt.below b8 t9)).mono ?_; intro e1 w10 hq; obtain ⟨A10, h110, t10, b10⟩ := RetTr.out hq; subst h110; have b10' := belowT b8' b10; have hS10 := HSX.out _ b10') | (go_at_call 103; with_reducible refine (HJ1.out _ (by assumption)).mono ?_; intro e1 w8 hq; obtain ⟨A8, h18, t8, b8⟩ := RetTr.out hq; subst h18; have b8' := belowT (by assumption : Below w4.heap.size w4 _) b8; have hS8 := HSX.out _ b8') | (go_at_call 103; with_reducible refine (HJ2.out _ (by assumption)).mono ?_; intro e1 w9 hq; obtain ⟨A9, h19, t9, b9⟩ := RetTr.out hq; subst h19; have b9' := belowT (by assumption : Below w4.heap.size w4 _) b9; have hS9 := HSX.out _ b9'))
          all_goals
            have HFIN := Lib.hid t10
            have HBF := Lib.hid (belowT BB4.out b10')
            clear t8 b8 b8' hS8 t9 b9 b9' hS9 t10 b10 b10' hS10
            go_wp2_with fail
            go_ret
            exact ⟨A10, rfl, by rw [HBAL.out]; exact HFIN.out, HBF.out⟩
  · have nc1 : decide ((b : Int) + 1 < (a : Int)) = false := by simp; omega
    go_wp2_with fail
    refine (HHR.out _ B2.out).mono ?_
    rintro e1 w5 ⟨rfl, b5⟩
    have B5 := Lib.hid (belowT B2.out b5)
    clear b5
    go_wp2_with fail
    refine (HHL.out _ B5.out).mono ?_
    rintro e1 w6 ⟨rfl, b6⟩
    have B6 := Lib.hid (belowT B5.out b6)
    clear b6
    by_cases c2 : a + 1 < b
    · obtain ⟨wC, hwC⟩ : ∃ wC, wC = w6 := ⟨_, rfl⟩
      rw [← hwC] at B6 ⊢
      have BC := Lib.hid B6.out
      clear hwC
      cases r with
      | nil => exfalso; have := HB.out; simp [Tr.ht] at this; omega
      | node rl re rr =>
        obtain ⟨bl, rfl⟩ := HR.out.ptr
        obtain ⟨qe, ql, qr, k0, k1, k2, klt, xe, xl, xr⟩ := (HR.out.below BC.out).cells
        have XE := Lib.hid xe
        have XL := Lib.hid xl
        have XR := Lib.hid xr
        have hln := rl.ht_num
        have hrn := rr.ht_num
        have hnn : l.num + (rl.num + 1 + rr.num) ≤ 1099511627776 := hn
        obtain ⟨x, hx⟩ : ∃ x, x = rr.ht := ⟨_, rfl⟩
        obtain ⟨y, hy⟩ : ∃ y, y = rl.ht := ⟨_, rfl⟩
        have HX := Lib.hid hx
        have HY := Lib.hid hy
        have lx : x ≤ 1099511627776 := by omega
        have ly : y ≤ 1099511627776 := by omega
        have HLL := Lib.hid (HL.out.below BC.out)
        have HEE := Lib.hid (HE.out.below BC.out)
        have c0 := show Tr.ht l + 1 < Tr.ht (Tr.node rl re rr) by rw [← HA.out, ← HB.out]; exact c2
        have C0 := Lib.hid c0
        clear hx hy xe xl xr hln hrn c0
        have HO : Hid (∀ wx, Below wC.heap.size wC wx → Calls Try.prog 130 #[.pointer qr] wx (RetNu wx (x : Int))) := Lib.hid (fun wx hb => by rw [HX.out]; exact height_any (XR.out.below hb))
        have HI : Hid (∀ wx, Below wC.heap.size wC wx → Calls Try.prog 130 #[.pointer ql] wx (RetNu wx (y : Int))) := Lib.hid (fun wx hb => by rw [HY.out]; exact height_any (XL.out.below hb))
        go_wp2_with fail
        refine (HO.out _ (Below.refl _ _)).mono ?_
        rintro e1 w3 ⟨rfl, b3⟩
        have B3 := Lib.hid b3
        clear b3
        go_wp2_with fail
        refine (HI.out _ B3.out).mono ?_
        rintro e1 w4 ⟨rfl, b4⟩
        have b4' := belowT B3.out b4
        have B4 := Lib.hid b4'
        have k0' := (b4'.cell (p := ⟨bl, 0, none⟩) klt).trans k0
        have k1' := (b4'.cell (p := ⟨bl, 1, none⟩) klt).trans k1
        have k2' := (b4'.cell (p := ⟨bl, 2, none⟩) klt).trans k2
        have klt4 : bl < w4.heap.size := Nat.lt_of_lt_of_le klt b4'.size
        have XE := Lib.hid (XE.out.below b4')
        have XL := Lib.hid (XL.out.below b4')
        have XR := Lib.hid (XR.out.below b4')
        have HLL := Lib.hid (HLL.out.below b4')
        have HEE := Lib.hid (HEE.out.below b4')
        have BB4 := Lib.hid (belowT BC.out b4')
        clear b4 b4' k0 k1 k2
        by_cases c3 : y ≤ x
        · have c2' : rl.ht ≤ rr.ht := by rw [← HX.out, ← HY.out]; exact c3
          have HBAL : Hid (balT l e (Tr.node rl re rr) = (.node (.node l e rl) re rr)) := Lib.hid (by
            have c0 := C0.out
            have c00 : ¬ (Tr.node rl re rr).ht + 1 < l.ht := by omega
            unfold balT; rw [if_neg c00, if_pos c0]; simp only; rw [if_pos c2'])
          have HJ1 : Hid (∀ wx, Below w4.heap.size w4 wx → Calls Try.prog 103 #[.pointer pl, .pointer (some ⟨pe, 0, none⟩), .pointer ql] wx (RetTr G wx (.node l e rl))) := Lib.hid (fun wx hb => join_any (HLL.out.below hb) (XL.out.below hb) (HEE.out.below hb) ⟨by omega, by omega⟩)
          have HJ2 : Hid (∀ wx X, Below w4.heap.size w4 wx → TrAt G wx (.node l e rl) X → Calls Try.prog 103 #[.pointer X, .pointer (some ⟨qe, 0, none⟩), .pointer qr] wx (RetTr G wx (.node (.node l e rl) re rr))) := Lib.hid (fun wx X hb ht => join_any ht (XR.out.below hb) (XE.out.below hb) ⟨by simp only [Tr.num]; omega, by omega⟩)
          have HSX : Hid (∀ wx, Below w4.heap.size w4 wx → wx.cell? ⟨bl, 0, none⟩ = some (.pointer (some ⟨qe, 0, none⟩)) ∧ wx.cell? ⟨bl, 1, none⟩ = some (.pointer ql) ∧ wx.cell? ⟨bl, 2, none⟩ = some (.pointer qr)) := Lib.hid (fun wx h => ⟨(h.cell (p := ⟨bl, 0, none⟩) klt4).trans k0', (h.cell (p := ⟨bl, 1, none⟩) klt4).trans k1', (h.cell (p := ⟨bl, 2, none⟩) klt4).trans k2'⟩)
          have hB0 : Below w4.heap.size w4 w4.drew := (Below.refl _ _).drew
          clear c2'
          go_upto_region 9 with (fail)
          go_region_held3 (fun wx => wx.cell? ⟨bl, 0, none⟩ = some (.pointer (some ⟨qe, 0, none⟩)) ∧ wx.cell? ⟨bl, 1, none⟩ = some (.pointer ql) ∧ wx.cell? ⟨bl, 2, none⟩ = some (.pointer qr)) (first | assumption | exact HSX.out _ hB0)
            (first | (go_at_call 103; with_reducible refine (HJ1.out _ (by assumption)).mono ?_; intro e1 w8 hq; obtain ⟨A8, h18, t8, b8⟩ := RetTr.out hq; subst h18; have b8' := belowT (by assumption : Below w4.heap.size w4 _) b8; have hS8 := HSX.out _ b8') | (go_at_call 103; with_reducible refine (HJ2.out _ _ b8' t8).mono ?_; intro e1 w9 hq; obtain ⟨A9, h19, t9, b9⟩ := RetTr.out hq; subst h19; have b9' := belowT b8' b9; have hS9 := HSX.out _ b9'))
          all_goals
            have HFIN := Lib.hid t9
            have HBF := Lib.hid (belowT BB4.out b9')
            clear t8 b8 b8' hS8 t9 b9 b9' hS9
            go_wp2_with fail
            go_ret
            exact ⟨A9, rfl, by rw [HBAL.out]; exact HFIN.out, HBF.out⟩
        · cases rl with
          | nil => exfalso; have := HY.out; simp [Tr.ht] at this; omega
          | node ta ix tb =>
            obtain ⟨bi, rfl⟩ := XL.out.ptr
            obtain ⟨ie, ia, ib, i0, i1, i2, ilt, ye, yl, yr⟩ := (XL.out).cells
            have IE := Lib.hid ye
            have IA := Lib.hid yl
            have IB := Lib.hid yr
            clear ye yl yr
            simp only [Tr.num] at hnn
            have c2' : ¬ (Tr.node ta ix tb).ht ≤ rr.ht := by rw [← HX.out, ← HY.out]; exact c3
            have HBAL : Hid (balT l e (Tr.node (Tr.node ta ix tb) re rr) = (.node (.node l e ta) ix (.node tb re rr))) := Lib.hid (by
              have c0 := C0.out
              have c00 : ¬ (Tr.node (Tr.node ta ix tb) re rr).ht + 1 < l.ht := by omega
              unfold balT; rw [if_neg c00, if_pos c0]; simp only; rw [if_neg c2'])
            have HJ1 : Hid (∀ wx, Below w4.heap.size w4 wx → Calls Try.prog 103 #[.pointer pl, .pointer (some ⟨pe, 0, none⟩), .pointer ia] wx (RetTr G wx (.node l e ta))) := Lib.hid (fun wx hb => join_any (HLL.out.below hb) (IA.out.below hb) (HEE.out.below hb) ⟨by omega, by omega⟩)
            have HJ2 : Hid (∀ wx, Below w4.heap.size w4 wx → Calls Try.prog 103 #[.pointer ib, .pointer (some ⟨qe, 0, none⟩), .pointer qr] wx (RetTr G wx (.node tb re rr))) := Lib.hid (fun wx hb => join_any (IB.out.below hb) (XR.out.below hb) (XE.out.below hb) ⟨by omega, by omega⟩)
            have HJ3 : Hid (∀ wx X Z, Below w4.heap.size w4 wx → TrAt G wx (.node l e ta) X → TrAt G wx (.node tb re rr) Z → Calls Try.prog 103 #[.pointer X, .pointer (some ⟨ie, 0, none⟩), .pointer Z] wx (RetTr G wx (.node (.node l e ta) ix (.node tb re rr)))) := Lib.hid (fun wx X Z hb h1 h2 => join_any h1 h2 (IE.out.below hb) ⟨by simp only [Tr.num]; omega, by simp only [Tr.num]; omega⟩)
            have HSX : Hid (∀ wx, Below w4.heap.size w4 wx → wx.cell? ⟨bl, 0, none⟩ = some (.pointer (some ⟨qe, 0, none⟩)) ∧ wx.cell? ⟨bl, 1, none⟩ = some (.pointer (some ⟨bi, 0, none⟩)) ∧ wx.cell? ⟨bl, 2, none⟩ = some (.pointer qr) ∧ wx.cell? ⟨bi, 0, none⟩ = some (.pointer (some ⟨ie, 0, none⟩)) ∧ wx.cell? ⟨bi, 1, none⟩ = some (.pointer ia) ∧ wx.cell? ⟨bi, 2, none⟩ = some (.pointer ib)) := Lib.hid (fun wx h => ⟨(h.cell (p := ⟨bl, 0, none⟩) klt4).trans k0', (h.cell (p := ⟨bl, 1, none⟩) klt4).trans k1', (h.cell (p := ⟨bl, 2, none⟩) klt4).trans k2', (h.cell (p := ⟨bi, 0, none⟩) ilt).trans i0, (h.cell (p := ⟨bi, 1, none⟩) ilt).trans i1, (h.cell (p := ⟨bi, 2, none⟩) ilt).trans i2⟩)
            have hB0 : Below w4.heap.size w4 w4.drew := (Below.refl _ _).drew
            clear c2'
            go_upto_region 10 with (fail)
            go_region_held3 (fun wx => wx.cell? ⟨bl, 0, none⟩ = some (.pointer (some ⟨qe, 0, none⟩)) ∧ wx.cell? ⟨bl, 1, none⟩ = some (.pointer (some ⟨bi, 0, none⟩)) ∧ wx.cell? ⟨bl, 2, none⟩ = some (.pointer qr) ∧ wx.cell? ⟨bi, 0, none⟩ = some (.pointer (some ⟨ie, 0, none⟩)) ∧ wx.cell? ⟨bi, 1, none⟩ = some (.pointer ia) ∧ wx.cell? ⟨bi, 2, none⟩ = some (.pointer ib)) (first | assumption | exact HSX.out _ hB0)
              (first | (go_at_call 103; with_reducible refine (HJ3.out _ _ _ b9' (TrAt.below b9 t8) t9).mono ?_; intro e1 w10 hq; obtain ⟨A10, h110, t10, b10⟩ := RetTr.out hq; subst h110; have b10' := belowT b9' b10; have hS10 := HSX.out _ b10') | (go_at_call 103; with_reducible refine (HJ3.out _ _ _ b8' t8 (TrAt.below b8 t9)).mono ?_; intro e1 w10 hq; obtain ⟨A10, h110, t10, b10⟩ := RetTr.out hq; subst h110; have b10' := belowT b8' b10; have hS10 := HSX.out _ b10') | (go_at_call 103; with_reducible refine (HJ1.out _ (by assumption)).mono ?_; intro e1 w8 hq; obtain ⟨A8, h18, t8, b8⟩ := RetTr.out hq; subst h18; have b8' := belowT (by assumption : Below w4.heap.size w4 _) b8; have hS8 := HSX.out _ b8') | (go_at_call 103; with_reducible refine (HJ2.out _ (by assumption)).mono ?_; intro e1 w9 hq; obtain ⟨A9, h19, t9, b9⟩ := RetTr.out hq; subst h19; have b9' := belowT (by assumption : Below w4.heap.size w4 _) b9; have hS9 := HSX.out _ b9'))
            all_goals
              have HFIN := Lib.hid t10
              have HBF := Lib.hid (belowT BB4.out b10')
              clear t8 b8 b8' hS8 t9 b9 b9' hS9 t10 b10 b10' hS10
              go_wp2_with fail
              go_ret
              exact ⟨A10, rfl, by rw [HBAL.out]; exact HFIN.out, HBF.out⟩
    · have HBAL : Hid (balT l e r = .node l e r) := Lib.hid (by unfold balT; rw [if_neg (by rw [← HA.out, ← HB.out]; exact c1), if_neg (by rw [← HA.out, ← HB.out]; exact c2)])
      have HJ : Hid (Calls Try.prog 103 #[.pointer pl, .pointer (some ⟨pe, 0, none⟩), .pointer pr] w6 (RetTr G w6 (.node l e r))) := Lib.hid (join_any (HL.out.below B6.out) (HR.out.below B6.out) (HE.out.below B6.out) ⟨by omega, by omega⟩)
      go_wp2_with fail
      refine HJ.out.mono ?_
      rintro e1 w7 ⟨A7, rfl, t7, b7⟩
      have HFIN := Lib.hid t7
      have HBF := Lib.hid (belowT B6.out b7)
      clear t7 b7
      go_wp2
      go_ret
      exact ⟨A7, rfl, by rw [HBAL.out]; exact HFIN.out, HBF.out⟩
end
end Go.Proofs.Ytgigohfjioifaaa
namespace Go.Proofs.Ytgigohfjioifaaa
open Go Go.RowKit

/-- The next number, and where the reader is then. -/
def numR (xs : List UInt8) (s : Nat × Bool) : Nat × (Nat × Bool) :=
  if (getU xs (s.1 : Int)).2.2 = 0 then ((getU xs (s.1 : Int)).1, ((getU xs (s.1 : Int)).2.1.toNat, s.2)) else (0, (s.1, true))
/-- The next n bytes, and where the reader is then. -/
def takeR (xs : List UInt8) (n : Nat) (s : Nat × Bool) : List UInt8 × (Nat × Bool) :=
  if xs.length - s.1 < n then ([], (s.1, true)) else ((xs.drop s.1).take n, (s.1 + n, s.2))
theorem numR_le {xs : List UInt8} {s : Nat × Bool} (h : s.1 ≤ xs.length) : (numR xs s).2.1 ≤ xs.length ∧ (numR xs s).1 < B64 := by
  unfold numR
  split
  · rename_i e
    rcases hg : getU xs (s.1 : Int) with ⟨m, nx, e2⟩
    rw [hg] at e
    obtain ⟨k, rfl, h1, h2, h3⟩ := getU_err h hg e
    exact ⟨by simpa using h2, h3⟩
  · exact ⟨h, by unfold B64; omega⟩
theorem takeR_le {xs : List UInt8} {n : Nat} {s : Nat × Bool} (h : s.1 ≤ xs.length) : (takeR xs n s).2.1 ≤ xs.length ∧ (takeR xs n s).1.length ≤ n := by
  unfold takeR
  split
  · exact ⟨h, by simp⟩
  · simp only [List.length_take]
    exact ⟨by omega, by omega⟩
/-- 'The reader at p: these bytes, this place, bad or not.' -/
def Rdr (w : World) (p : Nat) (E : Option Addr) (en ec : Nat) (s : Nat × Bool) : Prop := Cl w p #[.slice E en ec, .int .i64 (s.1 : Int), .bool s.2] 123
def RetN (w : World) (p : Nat) (E : Option Addr) (en ec : Nat) (r : Nat × (Nat × Bool)) (e : Ending) (w' : World) : Prop :=
  e = .returned (.int .u64 (r.1 : Int)) ∧ Rdr w' p E en ec r.2 ∧ w.grownBy w' (some p)
theorem RetN.out {w : World} {p : Nat} {E : Option Addr} {en ec : Nat} {r : Nat × (Nat × Bool)} {e : Ending} {w' : World} (h : RetN w p E en ec r e w') : e = .returned (.int .u64 (r.1 : Int)) ∧ Rdr w' p E en ec r.2 ∧ w.grownBy w' (some p) := h
theorem grown_set1 (w : World) (p i : Nat) (v : Value) : w.grownBy (w.setCell ⟨p, i, none⟩ v) (some p) := by
  have h := (Below.refl p w).setCell (p := ⟨p, i, none⟩) (Nat.le_refl _) v
  refine ⟨h.os, h.tape, h.output, h.size, fun b _ hne => ?_⟩
  exact Below.heap_setCell w ⟨p, i, none⟩ v b (fun e => hne (by rw [e]))
theorem grown_drewN {w w' : World} {row : Option Nat} (h : w.grownBy w' row) (q : Nat) : w.grownBy (w'.drewN q) row := by
  obtain ⟨h1, h2, h3, h4, h5⟩ := h
  exact ⟨h1, h2, h3, h4, h5⟩
set_option maxRecDepth 100000 in
set_option maxHeartbeats 4000000 in
theorem number_any (w : World) (p : Nat) (E : Option Addr) (en ec : Nat) (xs : List UInt8) (a : Nat) (bd : Bool) (h : Rdr w p E en ec (a, bd)) (hr : Rd w E en xs) (ha : a ≤ en) (hn : en ≤ 1099511627776) (hc : en ≤ ec) :
    Calls Try.prog 111 #[.pointer (some ⟨p, 0, none⟩)] w (RetN w p E en ec (numR xs (a, bd))) := by
  have hcl : Cl w p #[.slice E en ec, .int .i64 (a : Int), .bool bd] 123 := h
  obtain ⟨c0, c1, c2, f0, f1, f2⟩ := hcl.c3
  rcases hg : getU xs (a : Int) with ⟨m, nx, ee⟩
  have HG : Hid (∀ wx q, wx = w.drewN q → Calls Try.prog 134 #[.slice E en ec, .int .i64 (a : Int)] wx (fun e w' => e = .returned (.tuple #[.int .u64 (m : Int), .int .i64 nx, .int .i64 ee]) ∧ w' = wx)) := Lib.hid (fun wx q hq => by
    subst hq
    have hG := GetU_any E en ec xs (a : Int) (w.drewN q) (hr.drewN q) (by omega) hc
    rw [hg] at hG
    exact hG.mono (fun e w' h => ⟨h.1, h.2.symm⟩))
  have HCL := Lib.hid hcl
  have hxl := hr.len
  by_cases he : ee = 0
  · obtain ⟨k, hk, h1, h2, h3⟩ := getU_err (by omega) hg he
    have hnum : numR xs (a, bd) = (m, (k, bd)) := by unfold numR; rw [hg, if_pos he, hk]; rfl
    subst he hk
    have HN := Lib.hid hnum
    clear h hr hg hcl hnum hxl
    go_enter Try.func111, Try.ntmps111
    go_wp2_with fail
    go_quiet ((go_at_call 134; exact Calls.quiet_of_same (HG.out _ _ rfl)))
    have hd := HCL.out.drewN nq
    obtain ⟨c0, c1, c2, f0, f1, f2⟩ := hd.c3
    have HD := Lib.hid (hd.set 1 (.int .i64 (k : Int)))
    have HGR := Lib.hid ((grown_drewN (World.grownBy.refl w (some p)) nq).trans (grown_set1 (w.drewN nq) p 1 (.int .i64 (k : Int))))
    clear hd
    go_wp2_with fail
    go_ret
    rw [HN.out]
    exact ⟨rfl, HD.out, HGR.out⟩
  · have hnum : numR xs (a, bd) = (0, (a, true)) := by unfold numR; rw [hg, if_neg he]
    have t1 : (ee == 0) = false := by simpa using he
    have HN := Lib.hid hnum
    clear h hr hg hcl hnum hxl
    go_enter Try.func111, Try.ntmps111
    go_wp2_with fail
    go_quiet ((go_at_call 134; exact Calls.quiet_of_same (HG.out _ _ rfl)))
    have hd := HCL.out.drewN nq
    obtain ⟨c0, c1, c2, f0, f1, f2⟩ := hd.c3
    have HD := Lib.hid (hd.set 2 (.bool true))
    have HGR := Lib.hid ((grown_drewN (World.grownBy.refl w (some p)) nq).trans (grown_set1 (w.drewN nq) p 2 (.bool true)))
    clear hd
    go_wp2_with fail
    go_ret
    rw [HN.out]
    exact ⟨rfl, HD.out, HGR.out⟩
/-- What take hands back: n bytes of what the reader reads, or none. -/
def RetT8 (w : World) (p : Nat) (E : Option Addr) (en ec : Nat) (xs : List UInt8) (r : List UInt8 × (Nat × Bool)) (e : Ending) (w' : World) : Prop :=
  ∃ B k d, e = .returned (.slice B k d) ∧ Rdr w' p E en ec r.2 ∧ w.grownBy w' (some p) ∧ k ≤ d ∧ (B = none → d = 0) ∧ r.1.length = k ∧ (∀ wx, Rd wx E en xs → Rd wx B k r.1) ∧ (blk B = none ∨ blk B = blk E)
set_option maxRecDepth 100000 in
set_option maxHeartbeats 4000000 in
theorem take_any (w : World) (p : Nat) (E : Option Addr) (en ec : Nat) (xs : List UInt8) (n a : Nat) (bd : Bool) (h : Rdr w p E en ec (a, bd)) (hl : xs.length = en) (ha : a ≤ en) (hn : en ≤ 1099511627776) (hc : en ≤ ec) (hnn : n < B64) (hnil : E = none → ec = 0) :
    Calls Try.prog 112 #[.pointer (some ⟨p, 0, none⟩), .int .u64 (n : Int)] w (RetT8 w p E en ec xs (takeR xs n (a, bd))) := by
  have hcl : Cl w p #[.slice E en ec, .int .i64 (a : Int), .bool bd] 123 := h
  obtain ⟨c0, c1, c2, f0, f1, f2⟩ := hcl.c3
  have HCL := Lib.hid hcl
  obtain ⟨z, hz⟩ : ∃ z, z = en - a := ⟨_, rfl⟩
  have e1 : IntKind.i64.wrap ((en : Int) - (a : Int)) = (z : Int) := by rw [IntWalk.i64_in _ (by omega)]; omega
  have e2 : IntKind.u64.wrap (z : Int) = (z : Int) := u64_nat z (by unfold B64; omega)
  unfold B64 at hnn
  have hz2 : z ≤ 1099511627776 := by omega
  by_cases hlt : z < n
  · have htk : takeR xs n (a, bd) = ([], (a, true)) := by unfold takeR; rw [if_pos (by simp only; omega)]
    have HT := Lib.hid htk
    clear h hcl htk hz
    go_enter Try.func112, Try.ntmps112
    go_wp2_with fail
    go_quiet (fail)
    have hd := HCL.out.drewN nq
    obtain ⟨c0, c1, c2, f0, f1, f2⟩ := hd.c3
    have HD := Lib.hid (hd.set 2 (.bool true))
    have HGR := Lib.hid ((grown_drewN (World.grownBy.refl w (some p)) nq).trans (grown_set1 (w.drewN nq) p 2 (.bool true)))
    clear hd
    go_wp2_with fail
    go_ret
    refine ⟨none, 0, 0, rfl, by rw [HT.out]; exact HD.out, HGR.out, Nat.le_refl _, fun _ => rfl, by rw [HT.out]; rfl, fun wx _ => by rw [HT.out]; exact Rd.nil _ _, .inl rfl⟩
  · obtain ⟨y, hy⟩ : ∃ y, y = a + n := ⟨_, rfl⟩
    have hye : y ≤ en := by omega
    have hay : a ≤ y := by omega
    have htk : takeR xs n (a, bd) = ((xs.drop a).take n, (y, bd)) := by unfold takeR; rw [if_neg (by simp only; omega), hy]
    have e3 : IntKind.i64.wrap (n : Int) = (n : Int) := IntWalk.i64_in _ (by omega)
    have e4 : IntKind.i64.wrap ((a : Int) + (n : Int)) = (y : Int) := by rw [IntWalk.i64_in _ (by omega)]; omega
    have hyn : y - a = n := by omega
    have hsl : ∀ W : World, (Instr.slice 22 (.slice E en ec) (some (.int .i64 (a : Int))) (some (.int .i64 (y : Int))) none).run Try.prog W = .ok (.slice (cutA E a ec) n (ec - a)) W := fun W => by
      have := cut_lh Try.underlying22 elem_bytes size_u8 E (n := en) (cap := ec) hay (by omega) W
      rw [hyn] at this
      exact this
    have hrd : ∀ wx, Rd wx E en xs → Rd wx (cutA E a ec) n ((xs.drop a).take n) := fun wx hw => by
      have := hw.cut hay hye hc
      rw [hyn, List.drop_take, hyn] at this
      exact this
    have hlen : ((xs.drop a).take n).length = n := by rw [List.length_take, List.length_drop]; omega
    have hcn : cutA E a ec = none → ec - a = 0 := fun hh => by
      unfold cutA at hh
      split at hh
      · omega
      · cases E with
        | none => have := hnil rfl; omega
        | some _ => cases hh
    have hblk : blk (cutA E a ec) = none ∨ blk (cutA E a ec) = blk E := by
      right
      unfold cutA
      split
      · rfl
      · cases E with
        | none => rfl
        | some ad =>
          simp only [Option.map_some, blk, Addr.add]
          split <;> rfl
    have hnd : n ≤ ec - a := by omega
    have HT := Lib.hid htk
    have HR := Lib.hid hrd
    have HLN := Lib.hid hlen
    have HCN := Lib.hid hcn
    have HBK := Lib.hid hblk
    have HDD := Lib.hid hnd
    clear h hcl htk hz hy hrd hlen hcn hblk hyn hnd
    go_enter Try.func112, Try.ntmps112
    go_wp2_with fail
    go_quiet (fail)
    have hd := HCL.out.drewN nq
    obtain ⟨c0, c1, c2, f0, f1, f2⟩ := hd.c3
    have hd2 := hd.set 1 (.int .i64 (y : Int))
    obtain ⟨W2, hW2⟩ : ∃ W2, W2 = (w.drewN nq).setCell ⟨p, 1, none⟩ (.int .i64 (y : Int)) := ⟨_, rfl⟩
    rw [← hW2] at hd2
    have hd3 : Cl W2 p #[.slice E en ec, .int .i64 (y : Int), .bool bd] 123 := hd2
    have HGR : Hid (w.grownBy W2 (some p)) := Lib.hid (by
      rw [hW2]
      exact (grown_drewN (World.grownBy.refl w (some p)) nq).trans (grown_set1 (w.drewN nq) p 1 (.int .i64 (y : Int))))
    have HW2 := Lib.hid hW2
    have HD := Lib.hid hd3
    clear hd hd2 hd3 hW2
    go_upto_region 6 with (fail)
    rw [← HW2.out]
    clear c0 c1 c2 f0 f1 f2
    obtain ⟨c0, c1, c2, f0, f1, f2⟩ := HD.out.c3
    go_quiet (fail)
    go_wp2_with fail
    go_ret
    exact ⟨cutA E a ec, n, ec - a, rfl, by rw [HT.out]; exact HD.out.drewN _, grown_drewN HGR.out _, HDD.out, HCN.out, by rw [HT.out]; exact HLN.out, fun wx hw => by rw [HT.out]; exact HR.out wx hw, HBK.out⟩
end Go.Proofs.Ytgigohfjioifaaa
namespace Go.Proofs.Ytgigohfjioifaaa
open Go Go.RowKit

/-- Where an entry goes in, from the end. -/
def posI (es : List En) (e : En) : Nat → Nat
  | 0 => 0
  | k + 1 => match es[k]? with
    | some x => if lessE e x then posI es e k else k + 1
    | none => k + 1
theorem posI_le (es : List En) (e : En) : ∀ k, posI es e k ≤ k
  | 0 => Nat.le_refl _
  | k + 1 => by
    unfold posI
    split
    · split
      · exact Nat.le_succ_of_le (posI_le es e k)
      · exact Nat.le_refl _
    · exact Nat.le_refl _
theorem posI_at {es : List En} {e x : En} {k : Nat} (h0 : 0 < k) (hx : es[k - 1]? = some x) : posI es e k = if lessE e x then posI es e (k - 1) else k := by
  obtain ⟨j, rfl⟩ : ∃ j, k = j + 1 := ⟨k - 1, by omega⟩
  rw [Nat.add_sub_cancel] at hx ⊢
  rw [posI, hx]
def cutA4 (A : Option Addr) (k cap : Nat) : Option Addr := if cap = k then A else A.map (·.add (k * 4))
theorem cut4_l {P : Program} {t e : TypeId} (ht : P.underlying t = some (.slice e)) (he : P.elem t = e) (hs : ∀ w, (sizeOf e).run P w = .ok 4 w)
    (A : Option Addr) {n cap k : Nat} (hk : k ≤ n) (w : World) :
    (Instr.slice t (.slice A n cap) (some (.int .i64 (k : Int))) none none).run P w = .ok (.slice (cutA4 A k cap) (n - k) (cap - k)) w := by
  subst he
  rw [run_slice_l w t A n cap ht .i64 (k : Int) (by omega) (by omega)]
  simp only [hs, Result.andThen, sliced, Int.toNat_natCast, cutA4]
theorem rdv_cut4 {w : World} {A : Option Addr} {n k m cap : Nat} {vs : List Value} (h : RdV w A (n * 4) vs) (hk : k ≤ m) (hm : m ≤ n) (hc : n ≤ cap) : RdV w (cutA4 A k cap) ((m - k) * 4) ((vs.take (m * 4)).drop (k * 4)) := by
  unfold cutA4
  refine ⟨by rw [List.length_drop, List.length_take, h.1]; omega, fun hn => ?_⟩
  obtain ⟨b, off, rfl, hb, hcell⟩ := h.2 (by omega)
  rw [if_neg (by omega)]
  refine ⟨b, off + k * 4, ?_, hb, fun i x hx => ?_⟩
  · simp only [Option.map_some, Addr.add]
    split
    · next h0 => rw [h0]; rfl
    · rfl
  · rw [Nat.add_assoc]
    refine hcell (k * 4 + i) x ?_
    rw [List.getElem?_drop, List.getElem?_take] at hx
    split at hx
    · exact hx
    · cases hx
theorem REs.takeV {w : World} {A : Option Addr} {n m : Nat} {es : List En} (h : REs w A n es) (hm : m ≤ n) : ∃ us, EVs w (es.take m) us ∧ RdV w A (m * 4) us := by
  obtain ⟨h1, vs, h2, h3⟩ := h
  refine ⟨_, h2.take m, ?_⟩
  refine ⟨by rw [List.length_take, h3.1]; omega, fun hn => ?_⟩
  obtain ⟨b, off, rfl, hb, hc⟩ := h3.2 (by omega)
  refine ⟨b, off, rfl, hb, fun i x hx => hc i x ?_⟩
  rw [List.getElem?_take] at hx
  split at hx
  · exact hx
  · cases hx
theorem REs.dropV {w : World} {A : Option Addr} {n k cap : Nat} {es : List En} (h : REs w A n es) (hk : k ≤ n) (hc : n ≤ cap) : ∃ us, EVs w (es.drop k) us ∧ RdV w (cutA4 A k cap) ((n - k) * 4) us := by
  obtain ⟨h1, vs, h2, h3⟩ := h
  refine ⟨_, h2.drop k, ?_⟩
  have := rdv_cut4 h3 hk (Nat.le_refl _) hc
  rw [List.take_of_length_le (by rw [h3.1]; omega)] at this
  exact this
theorem OwnE.mono {w : World} {base base' n c : Nat} {A : Option Addr} {vs : List Value} (h : OwnE w base A n c vs) (hb : base' ≤ base) : OwnE w base' A n c vs := by
  refine ⟨h.1, ?_⟩
  rcases h.2 with h1 | ⟨g, cap, cur, h1, h2, h3⟩
  · exact .inl h1
  · exact .inr ⟨g, cap, cur, h1, Nat.le_trans hb h2, h3⟩
theorem rdv_of_cl {w : World} {g : Nat} {v0 v1 v2 v3 : Value} {t : TypeId} (h : Cl w g #[v0, v1, v2, v3] t) : RdV w (some ⟨g, 0, none⟩) (1 * 4) [v0, v1, v2, v3] :=
  ⟨rfl, fun _ => ⟨g, 0, rfl, h.lt, fun i x hx => by rw [Nat.zero_add, h.cell i]; simpa using hx⟩⟩
def insL (es : List En) (e : En) : List En := es.take (posI es e es.length) ++ e :: es.drop (posI es e es.length)
theorem rdv_take4 {w : World} {A : Option Addr} {n m : Nat} {vs : List Value} (h : RdV w A (n * 4) vs) (hm : m ≤ n) : RdV w A (m * 4) (vs.take (m * 4)) := by
  refine ⟨by rw [List.length_take, h.1]; omega, fun hn => ?_⟩
  obtain ⟨b, off, rfl, hb, hc⟩ := h.2 (by omega)
  refine ⟨b, off, rfl, hb, fun i x hx => hc i x ?_⟩
  rw [List.getElem?_take] at hx
  split at hx
  · exact hx
  · cases hx
/-- What an insertion comes to: a row of the call's own, with the values that were handed in. -/
def RetIns (w : World) (n : Nat) (es : List En) (us : List Value) (e : Ending) (w' : World) : Prop :=
  ∃ L d vs, e = .returned (.slice L n d) ∧ OwnE w' w.heap.size L n d vs ∧ EVs w' es vs ∧ Below w.heap.size w w' ∧ ∀ u ∈ vs, u ∈ us
theorem RetIns.out {w : World} {n : Nat} {es : List En} {us : List Value} {e : Ending} {w' : World} (h : RetIns w n es us e w') : ∃ L d vs, e = .returned (.slice L n d) ∧ OwnE w' w.heap.size L n d vs ∧ EVs w' es vs ∧ Below w.heap.size w w' ∧ ∀ u ∈ vs, u ∈ us := h
set_option maxRecDepth 100000 in
set_option maxHeartbeats 8000000 in
theorem Insert_any {w : World} {A : Option Addr} {n c : Nat} {es : List En} {e : En} {ovs : List Value} {v0 v1 v2 v3 : Value} (hv : EVs w es ovs) (hd : RdV w A (n * 4) ovs) (hl : es.length = n) (hc : n ≤ c) (hn : n ≤ 1099511627776) (hs : ∀ x ∈ es, SzE x) (he : EV w e v0 v1 v2 v3) (se : SzE e) :
    Calls Try.prog 63 #[.slice A n c, .agg #[v0, v1, v2, v3]] w (RetIns w (n + 1) (insL es e) ([v0, v1, v2, v3] ++ ovs)) := by
  have h : REs w A n es := REs.mk hv hd hl
  obtain ⟨K, kn, kc, V, vn, vc, rfl, rfl, rfl, rfl, _⟩ := he.parts
  obtain ⟨U, hU⟩ : ∃ U, U = w.alloc (.cells #[.slice K kn kc, .int .u64 (e.seq : Int), .int .u8 (e.kind : Int), .slice V vn vc] 33) := ⟨_, rfl⟩
  have bU : Below w.heap.size w U := by rw [hU]; exact (Below.refl _ _).alloc (Nat.le_refl _) _
  have XU := Lib.hid (show Cl U w.heap.size #[.slice K kn kc, .int .u64 (e.seq : Int), .int .u8 (e.kind : Int), .slice V vn vc] 33 by rw [hU]; exact Cl.new _ _ _)
  have HE := Lib.hid (he.below bU)
  have H1 := Lib.hid (h.below bU)
  have HV := Lib.hid (hv.below bU)
  have HD := Lib.hid (hd.below bU)
  have HLN := Lib.hid h.len
  have HS := Lib.hid hs
  have BU := Lib.hid bU
  clear h hs he bU hv hd hl
  go_enter Try.func63, Try.ntmps63
  go_upto_region 1 with (fail)
  rw [← hU]
  clear hU
  go_wp2_with fail
  go_loopw [5] (fun s5 wr => ∃ k : Nat, k ≤ n ∧ s5 = .int .i64 (k : Int) ∧ posI es e k = posI es e n ∧ Below U.heap.size U wr) (fun s _ => (intOf s).toNat)
  case atStart => exact ⟨n, Nat.le_refl _, rfl, rfl, Below.refl _ _⟩
  case round =>
    obtain ⟨k, hk, rfl, hp, hB⟩ := hrel
    have HB := Lib.hid hB
    have HP := Lib.hid hp
    have XR := Lib.hid (XU.out.below hB)
    have HER := Lib.hid (HE.out.below hB)
    have hR := H1.out.below hB
    clear hB hp
    go_upto_region 2 with (fail)
    go_cut [19] from 9 to 21 (fun s19 wx => ∃ z, s19 = .bool z ∧ Below wr.heap.size wr wx ∧ (z = true → 0 < k ∧ posI es e k = posI es e (k - 1)) ∧ (z = false → posI es e k = k))
    case first =>
      by_cases h0 : 0 < k
      · obtain ⟨b, off, hAb, hbl⟩ := hR.pos (by omega)
        subst hAb
        obtain ⟨x, u0, u1, u2, u3, hx, c0, c1, c2, c3, hev⟩ := hR.at_ (k - 1) (by omega)
        have hsx := HS.out x (List.mem_of_getElem? hx)
        have HL : Hid (∀ wx, Below wr.heap.size wr wx → Calls Try.prog 56 #[.agg #[.slice K kn kc, .int .u64 (e.seq : Int), .int .u8 (e.kind : Int), .slice V vn vc], .agg #[u0, u1, u2, u3]] wx (RetT wx (lessE e x))) := Lib.hid (fun wx hb => refLess_any (HER.out.below hb) (hev.below hb) se hsx)
        have HSX : Hid (∀ wx, Below wr.heap.size wr wx → wx.cell? ⟨b, off + (k - 1) * 4, none⟩ = some u0 ∧ wx.cell? ⟨b, off + (k - 1) * 4 + 1, none⟩ = some u1 ∧ wx.cell? ⟨b, off + (k - 1) * 4 + 2, none⟩ = some u2 ∧ wx.cell? ⟨b, off + (k - 1) * 4 + 3, none⟩ = some u3 ∧ wx.cell? ⟨w.heap.size, 0, none⟩ = some (.slice K kn kc) ∧ wx.cell? ⟨w.heap.size, 1, none⟩ = some (.int .u64 (e.seq : Int)) ∧ wx.cell? ⟨w.heap.size, 2, none⟩ = some (.int .u8 (e.kind : Int)) ∧ wx.cell? ⟨w.heap.size, 3, none⟩ = some (.slice V vn vc)) := Lib.hid (fun wx h => by
          obtain ⟨d0, d1, d2, d3, _⟩ := (XR.out.below h).c4
          exact ⟨(h.cell hbl).trans c0, (h.cell hbl).trans c1, (h.cell hbl).trans c2, (h.cell hbl).trans c3, d0, d1, d2, d3⟩)
        have hB0 : Below wr.heap.size wr wr.drew := (Below.refl _ _).drew
        have hk1 : IntKind.i64.wrap ((k : Int) - 1) = ((k - 1 : Nat) : Int) := by rw [IntWalk.i64_in _ (by omega)]; omega
        have hk2 : k - 1 < n := by omega
        obtain ⟨d0, d1, d2, d3, _⟩ := XR.out.c4
        have HXK := Lib.hid hx
        clear hR hx hev
        go_region_law (first | (go_simp; go_at_call 56; with_reducible refine (HL.out _ (by assumption)).mono ?_; intro e1 wn hq; obtain ⟨h1, bn⟩ := RetT.outD hq; subst h1; have bn' := belowT' (by assumption : Below wr.heap.size wr _) bn; obtain ⟨p0, p1, p2, p3, p4, p5, p6, p7⟩ := HSX.out _ bn'))
        all_goals
          have hpz : posI es e k = if lessE e x then posI es e (k - 1) else k := posI_at h0 HXK.out
          have hf : (∃ z, Value.bool (lessE e x) = .bool z ∧ (z = true → 0 < k ∧ posI es e k = posI es e (k - 1)) ∧ (z = false → posI es e k = k)) := ⟨_, rfl, fun h => ⟨h0, by rw [hpz, if_pos h]⟩, fun h => by rw [hpz, h]; rfl⟩
          have HFF := Lib.hid hf
          clear hpz hf
          go_wp2_with fail
          go_meet
          obtain ⟨z, q1, q2, q3⟩ := HFF.out
          exact ⟨z, q1, by assumption, q2, q3⟩
      · have hk0 : k = 0 := by omega
        subst hk0
        clear hR h0
        go_quiet (fail)
        go_wp2
        go_meet
        exact ⟨false, rfl, below_drewN (Below.refl _ _) nq, (fun h => by cases h), fun _ => rfl⟩
    case rest =>
      obtain ⟨z, rfl, hbc, hz1, hz2⟩ := hcut
      have BC := Lib.hid (HB.out.trans (hbc.mono HB.out.size))
      cases z with
      | true =>
        obtain ⟨h0, hp⟩ := hz1 rfl
        have hk1 : IntKind.i64.wrap ((k : Int) - 1) = ((k - 1 : Nat) : Int) := by rw [IntWalk.i64_in _ (by omega)]; omega
        have HPP := Lib.hid hp
        clear hz1 hz2 hbc hp hR
        go_wp2_with fail
        go_roundw
        case rel => exact ⟨k - 1, by omega, by go_num, by rw [← HPP.out]; exact HP.out, BC.out⟩
        case measure => simp [intOf]; omega
      | false =>
        have hkp : k = posI es e es.length := by rw [HLN.out, ← HP.out]; exact (hz2 rfl).symm
        have HKP := Lib.hid hkp
        have sc := BC.out.size
        have hEV := HV.out.below BC.out
        have hDV := HD.out.below BC.out
        obtain ⟨us1, hu1⟩ : ∃ us1, us1 = ovs.take (k * 4) := ⟨_, rfl⟩
        obtain ⟨us2, hu2⟩ : ∃ us2, us2 = ovs.drop (k * 4) := ⟨_, rfl⟩
        have q1 : EVs wc (es.take k) us1 := by rw [hu1]; exact hEV.take k
        have q2 : RdV wc A (k * 4) us1 := by rw [hu1]; exact rdv_take4 hDV hk
        have q3 : EVs wc (es.drop k) us2 := by rw [hu2]; exact hEV.drop k
        have q4 : RdV wc (cutA4 A k c) ((n - k) * 4) us2 := by
          have := rdv_cut4 hDV hk (Nat.le_refl _) hc
          rw [List.take_of_length_le (by rw [hDV.1]; omega)] at this
          rw [hu2]; exact this
        have HMEM : Hid (∀ u, u ∈ us1 ∨ u ∈ us2 → u ∈ ovs) := Lib.hid (fun u h => by
          rcases h with h | h
          · rw [hu1] at h; exact List.mem_of_mem_take h
          · rw [hu2] at h; exact List.mem_of_mem_drop h)
        have Q1 := Lib.hid q1
        have Q2 := Lib.hid q2
        have Q3 := Lib.hid q3
        have Q4 := Lib.hid q4
        have HEC := Lib.hid (HER.out.below hbc)
        have XC := Lib.hid (XR.out.below hbc)
        have hcl : ∀ w, (Instr.slice 25 (.slice A n c) none (some (.int .i64 (k : Int))) none).run Try.prog w = .ok (.slice A k c) w := fun w => cut4_h Try.underlying25 elem4 size4 A (by omega) w
        have hcr : ∀ w, (Instr.slice 25 (.slice A n c) (some (.int .i64 (k : Int))) none none).run Try.prog w = .ok (.slice (cutA4 A k c) (n - k) (c - k)) w := fun w => cut4_l Try.underlying25 elem4 size4 A hk w
        clear hz1 hz2 hbc hkp hEV hDV q1 q2 q3 q4 hR hu1 hu2
        have b0 : Below wc.heap.size wc (wc.alloc (.cells #[] 33)) := (Below.refl _ _).alloc (Nat.le_refl _) _
        have r1 := Lib.hid (Q2.out.below b0)
        have o0 := Lib.hid (OwnE.zero wc)
        have B0 := Lib.hid b0
        clear b0
        go_wp2_with (at_builtin; refine wpList_app4 (wc.alloc (.cells #[] 33)) rfl _ _ 25 rfl wc.heap.size _ 64 Try.underlying25 info_ent rfl (some ⟨wc.heap.size, 0, none⟩) 0 0 [] rfl o0.out A k c us1 rfl r1.out Q1.out.cells ?_ ?_ ?_ ?_)
        · omega
        · omega
        · simp
        intro A1 c1 w1 o1 _ b1
        have O1 := Lib.hid o1
        have B1 := Lib.hid (B0.out.trans b1)
        have s1 := B1.out.size
        have X1 := Lib.hid (XC.out.base B1.out XC.out.lt)
        obtain ⟨d0, d1, d2, d3, _⟩ := X1.out.c4
        have bl : Below w1.heap.size w1 (w1.alloc (.cells #[.slice K kn kc, .int .u64 (e.seq : Int), .int .u8 (e.kind : Int), .slice V vn vc] 33)) := (Below.refl _ _).alloc (Nat.le_refl _) _
        have O1' := Lib.hid (O1.out.below bl)
        have r2 := Lib.hid (rdv_of_cl (Cl.new w1 #[.slice K kn kc, .int .u64 (e.seq : Int), .int .u8 (e.kind : Int), .slice V vn vc] 33))
        have BL := Lib.hid bl
        clear o1 b1 hcl bl
        go_wp2_with (at_builtin; refine wpList_app4 (w1.alloc (.cells #[.slice K kn kc, .int .u64 (e.seq : Int), .int .u8 (e.kind : Int), .slice V vn vc] 33)) rfl _ _ 25 rfl wc.heap.size _ 64 Try.underlying25 info_ent rfl A1 k c1 us1 rfl O1'.out (some ⟨w1.heap.size, 0, none⟩) 1 1 [.slice K kn kc, .int .u64 (e.seq : Int), .int .u8 (e.kind : Int), .slice V vn vc] rfl r2.out HEC.out.cells ?_ ?_ ?_ ?_)
        · omega
        · omega
        · simp; omega
        intro A2 c2 w2 o2 _ b2
        have O2 := Lib.hid o2
        have B2 := Lib.hid ((B1.out.trans (BL.out.mono s1)).trans b2)
        have s2 := B2.out.size
        have r3 := Lib.hid (Q4.out.below B2.out)
        clear o2 b2 d0 d1 d2 d3
        go_wp2_with (at_builtin; refine wpList_app4 w2 rfl _ _ 25 rfl wc.heap.size _ 64 Try.underlying25 info_ent rfl A2 (k + 1) c2 (us1 ++ [.slice K kn kc, .int .u64 (e.seq : Int), .int .u8 (e.kind : Int), .slice V vn vc]) rfl O2.out (cutA4 A k c) (n - k) (c - k) us2 rfl r3.out Q3.out.cells ?_ ?_ ?_ ?_)
        · omega
        · omega
        · omega
        intro A3 c3 w3 o3 _ b3
        have hkn : k + 1 + (n - k) = n + 1 := by omega
        rw [hkn] at o3
        have B3 := B2.out.trans b3
        have hev : EVs w3 (insL es e) (us1 ++ Value.slice K kn kc :: Value.int .u64 (e.seq : Int) :: Value.int .u8 (e.kind : Int) :: Value.slice V vn vc :: us2) := by
          have := ((Q1.out.app (EVs.one HEC.out)).app Q3.out).below B3
          rw [insL, ← HKP.out]
          simpa using this
        have HFIN : Hid (RetIns w (n + 1) (insL es e) ([.slice K kn kc, .int .u64 (e.seq : Int), .int .u8 (e.kind : Int), .slice V vn vc] ++ ovs) (.returned (.slice A3 (n + 1) c3)) w3) := Lib.hid ⟨A3, c3, _, rfl, OwnE.mono o3 (by have := BU.out.size; omega), hev, belowT' (BU.out.trans (BC.out.mono (by have := BU.out.size; omega))) B3, fun u hu => by
          have hm := HMEM.out u
          simp only [List.cons_append, List.nil_append, List.mem_append, List.mem_cons] at hu ⊢
          rcases hu with h | h | h | h | h | h
          · exact .inr (.inr (.inr (.inr (hm (.inl h)))))
          · exact .inl h
          · exact .inr (.inl h)
          · exact .inr (.inr (.inl h))
          · exact .inr (.inr (.inr (.inl h)))
          · exact .inr (.inr (.inr (.inr (hm (.inr h)))))⟩
        clear o3 b3 B3 hev hcr
        rw [hkn]
        go_wp2
        go_ret
        exact HFIN.out
end Go.Proofs.Ytgigohfjioifaaa
namespace Go.Proofs.Ytgigohfjioifaaa
open Go Go.RowKit

theorem cmpB_refl : ∀ xs : List UInt8, cmpB xs xs = 0
  | [] => rfl
  | x :: xs => by rw [cmpB_same, cmpB_refl xs]
theorem cmpB_trans : ∀ {xs ys zs : List UInt8}, cmpB xs ys < 0 → cmpB ys zs < 0 → cmpB xs zs < 0
  | [], [], _, h, _ => by simp [cmpB] at h
  | _ :: _, [], _, h, _ => by simp [cmpB] at h
  | [], _ :: _, [], _, h => by simp [cmpB] at h
  | [], _ :: _, _ :: _, _, _ => by simp [cmpB]
  | _ :: _, _ :: _, [], _, h => by simp [cmpB] at h
  | x :: xs, y :: ys, z :: zs, h, k => by
    rcases Nat.lt_trichotomy x.toNat y.toNat with q | q | q
    · rcases Nat.lt_trichotomy y.toNat z.toNat with r | r | r
      · rw [cmpB_lt _ _ (by omega)]; decide
      · rw [cmpB_lt _ _ (by omega)]; decide
      · rw [cmpB_gt _ _ r] at k; simp at k
    · rw [cmpB_eq _ _ q] at h
      rcases Nat.lt_trichotomy y.toNat z.toNat with r | r | r
      · rw [cmpB_lt _ _ (by omega)]; decide
      · rw [cmpB_eq _ _ r] at k
        rw [cmpB_eq _ _ (by omega)]
        exact cmpB_trans h k
      · rw [cmpB_gt _ _ r] at k; simp at k
    · rw [cmpB_gt _ _ q] at h; simp at h
theorem lessE_iff {a b : En} : lessE a b = true ↔ cmpB a.key b.key < 0 ∨ (a.key = b.key ∧ b.seq < a.seq) := by
  unfold lessE
  simp only [Bool.or_eq_true, Bool.and_eq_true, decide_eq_true_eq]
  constructor
  · rintro (h | ⟨h, k⟩)
    · exact .inl h
    · exact .inr ⟨cmpB_zero _ _ h, k⟩
  · rintro (h | ⟨h, k⟩)
    · exact .inl h
    · exact .inr ⟨by rw [h, cmpB_refl], k⟩
theorem sameK_iff {a b : En} : sameK a b = true ↔ a.key = b.key ∧ a.seq = b.seq := by
  unfold sameK eqB
  simp
theorem lessE_trans {a b c : En} (h : lessE a b = true) (k : lessE b c = true) : lessE a c = true := by
  rw [lessE_iff] at h k ⊢
  rcases h with h | ⟨h, h'⟩ <;> rcases k with k | ⟨k, k'⟩
  · exact .inl (cmpB_trans h k)
  · exact .inl (by rw [← k]; exact h)
  · exact .inl (by rw [h]; exact k)
  · exact .inr ⟨h.trans k, by omega⟩
theorem lessE_irr (a : En) : lessE a a = false := by
  cases h : lessE a a with
  | false => rfl
  | true =>
    rcases lessE_iff.1 h with h | ⟨_, h⟩
    · rw [cmpB_refl] at h; simp at h
    · omega
theorem lessE_asym {a b : En} (h : lessE a b = true) : lessE b a = false := by
  cases k : lessE b a with
  | false => rfl
  | true => have := lessE_trans h k; rw [lessE_irr] at this; cases this
theorem lessE_tri (a b : En) : lessE a b = true ∨ lessE b a = true ∨ sameK a b = true := by
  rcases Int.lt_trichotomy (cmpB a.key b.key) 0 with h | h | h
  · exact .inl (lessE_iff.2 (.inl h))
  · have hk := cmpB_zero _ _ h
    rcases Nat.lt_trichotomy a.seq b.seq with q | q | q
    · exact .inr (.inl (lessE_iff.2 (.inr ⟨hk.symm, q⟩)))
    · exact .inr (.inr (sameK_iff.2 ⟨hk, q⟩))
    · exact .inl (lessE_iff.2 (.inr ⟨hk, q⟩))
  · exact .inr (.inl (lessE_iff.2 (.inl (by rw [cmpB_swap]; omega))))
theorem sameK_not {a b : En} (h : sameK a b = true) : lessE a b = false ∧ lessE b a = false := by
  obtain ⟨h1, h2⟩ := sameK_iff.1 h
  have key : ∀ {x y : En}, x.key = y.key → x.seq = y.seq → lessE x y = false := fun {x y} e1 e2 => by
    cases k : lessE x y with
    | false => rfl
    | true =>
      rcases lessE_iff.1 k with q | ⟨_, q⟩
      · rw [e1, cmpB_refl] at q; simp at q
      · omega
  exact ⟨key h1 h2, key h1.symm h2.symm⟩
end Go.Proofs.Ytgigohfjioifaaa
namespace Go.Proofs.Ytgigohfjioifaaa
open Go Go.RowKit

theorem Made.out {base : Nat} {w w' : World} {xs : List UInt8} {e : Ending} (h : Made base w xs e w') : ∃ A n c, e = .returned (.slice A n c) ∧ Own 5 w' base A n c xs ∧ Below base w w' := h
section
variable {w : World} {a : En} {v0 v1 v2 v3 : Value}
set_option maxRecDepth 100000 in
set_option maxHeartbeats 4000000 in
theorem own_any (ha : EV w a v0 v1 v2 v3) (sa : SzE a) : Calls Try.prog 75 #[.agg #[v0, v1, v2, v3]] w (RetEn w a) := by
  obtain ⟨K, kn, kc, V, vn, vc, rfl, rfl, rfl, rfl, r0, r3, c0, c3, d0, d3, s1, s2⟩ := ha.parts
  have l1 := r0.len
  have l2 := r3.len
  have hk : kn ≤ 140737488355328 := by have := sa.1; omega
  have hv : vn ≤ 140737488355328 := by have := sa.2; omega
  have R0 := Lib.hid r0
  have R3 := Lib.hid r3
  have HD0 := Lib.hid d0
  have HD3 := Lib.hid d3
  clear ha r0 r3 d0 d3
  go_enter Try.func75, Try.ntmps75
  go_upto_region 1 with (fail)
  obtain ⟨W, hW⟩ : ∃ W, W = (w.alloc (.cells #[.slice K kn kc, .int .u64 (a.seq : Int), .int .u8 (a.kind : Int), .slice V vn vc] 33)).alloc (.cells #[.slice none 0 0, .int .u64 0, .int .u8 0, .slice none 0 0] 33) := ⟨_, rfl⟩
  rw [← hW]
  have bW : Below w.heap.size w W := by rw [hW]; exact ((Below.refl _ _).alloc (Nat.le_refl _) _).alloc (by simp) _
  have aW : Cl W w.heap.size #[.slice K kn kc, .int .u64 (a.seq : Int), .int .u8 (a.kind : Int), .slice V vn vc] 33 := by rw [hW]; exact (Cl.new _ _ _).alloc _
  have zW : Cl W (w.heap.size + 1) #[.slice none 0 0, .int .u64 0, .int .u8 0, .slice none 0 0] 33 := by rw [hW]; exact Cl.newg _ _ _ _ (by simp)
  have sW : w.heap.size + 2 ≤ W.heap.size := by rw [hW]; simp
  have HK : Hid (∀ wx, Below W.heap.size W wx → Calls Try.prog 85 #[.slice K kn kc] wx (Made wx.heap.size wx a.key)) := Lib.hid (fun wx hb => Clone_any K kn kc a.key wx ((R0.out.below bW).below hb) hk HD0.out)
  have HV : Hid (∀ wx, Below W.heap.size W wx → Calls Try.prog 85 #[.slice V vn vc] wx (Made wx.heap.size wx a.val)) := Lib.hid (fun wx hb => Clone_any V vn vc a.val wx ((R3.out.below bW).below hb) hv HD3.out)
  have ALC : Hid (∀ wx, Below W.heap.size W wx → Cl wx w.heap.size #[.slice K kn kc, .int .u64 (a.seq : Int), .int .u8 (a.kind : Int), .slice V vn vc] 33) := Lib.hid (fun wx hb => aW.below hb)
  have ZLC : Hid (∀ wx, Below W.heap.size W wx → Cl wx (w.heap.size + 1) #[.slice none 0 0, .int .u64 0, .int .u8 0, .slice none 0 0] 33) := Lib.hid (fun wx hb => zW.below hb)
  have BW := Lib.hid bW
  obtain ⟨e0, e1, e2, e3, y0, y1, y2, y3⟩ := aW.c4
  have hB0 : Below W.heap.size W W.drew := (Below.refl _ _).drew
  clear hW bW aW zW
  go_cut [] (fun wx => ∃ C cn cc D dn dc wy, Own 5 wy W.heap.size C cn cc a.key ∧ Own 5 wy W.heap.size D dn dc a.val ∧ Below W.heap.size W wy ∧ Dj C D ∧ wx = (wy.setCell ⟨w.heap.size, 0, none⟩ (.slice C cn cc)).setCell ⟨w.heap.size, 3, none⟩ (.slice D dn dc))
  case first =>
    go_region_law (first | (go_simp; go_at_call 85; with_reducible refine (HK.out _ (by assumption)).mono ?_; intro e wk hq; obtain ⟨C, cn, cc, h1, oC, bC⟩ := Made.out hq; subst h1; have bC' := belowT (by assumption : Below W.heap.size W _) bC; obtain ⟨p0, p1, p2, p3, p4, p5, p6, p7⟩ := (ALC.out _ bC').c4) | (go_simp; go_at_call 85; with_reducible refine (HV.out _ (by assumption)).mono ?_; intro e wv hq; obtain ⟨D, dn, dc, h2, oD, bD⟩ := Made.out hq; subst h2; have bD' := belowT (by assumption : Below W.heap.size W _) bD; obtain ⟨m0, m1, m2, m3, m4, m5, m6, m7⟩ := (ALC.out _ bD').c4))
    all_goals first
      | (have HDJ := Lib.hid (Dj.old oC oD (Nat.le_refl _))
         have HC1 := Lib.hid (oC.below bD)
         have HD1 := Lib.hid (oD.mono bC'.size)
         have HB1 := Lib.hid bD'
         clear oC oD bC bD bC' bD'
         go_wp2_with fail
         go_meet
         exact ⟨C, cn, cc, D, dn, dc, wv, HC1.out, HD1.out, HB1.out, HDJ.out, rfl⟩)
      | (have HDJ := Lib.hid (Dj.symm (Dj.old oD oC (Nat.le_refl _)))
         have HC1 := Lib.hid (oC.mono bD'.size)
         have HD1 := Lib.hid (oD.below bC)
         have HB1 := Lib.hid bC'
         clear oC oD bC bD bC' bD'
         go_wp2_with fail
         go_meet
         exact ⟨C, cn, cc, D, dn, dc, wk, HC1.out, HD1.out, HB1.out, HDJ.out, rfl⟩)
  case rest =>
    obtain ⟨C, cn, cc, D, dn, dc, wy, oC, oD, bY, hdj, hwc⟩ := hcut
    have A1 := ALC.out _ bY
    have Z1 := Lib.hid (ZLC.out _ bY)
    have sy := bY.size
    obtain ⟨Y, hY⟩ : ∃ Y, Y = wy.setCell ⟨w.heap.size, 0, none⟩ (.slice C cn cc) := ⟨_, rfl⟩
    rw [← hY] at hwc
    have aY : Cl Y w.heap.size #[.slice C cn cc, .int .u64 (a.seq : Int), .int .u8 (a.kind : Int), .slice V vn vc] 33 := by rw [hY]; exact A1.set 0 _
    have zY : Cl Y (w.heap.size + 1) #[.slice none 0 0, .int .u64 0, .int .u8 0, .slice none 0 0] 33 := by rw [hY]; exact Z1.out.off 0 _ (by omega)
    have bYY : Below w.heap.size w Y := by rw [hY]; exact below_set (BW.out.trans (bY.mono BW.out.size)) 0 _ (Nat.le_refl _)
    have oCY : Own 5 Y W.heap.size C cn cc a.key := by rw [hY]; exact oC.set (by omega) 0 _
    have oDY : Own 5 Y W.heap.size D dn dc a.val := by rw [hY]; exact oD.set (by omega) 0 _
    have aC : Cl wc w.heap.size #[.slice C cn cc, .int .u64 (a.seq : Int), .int .u8 (a.kind : Int), .slice D dn dc] 33 := by rw [hwc]; exact aY.set 3 _
    have zC : Cl wc (w.heap.size + 1) #[.slice none 0 0, .int .u64 0, .int .u8 0, .slice none 0 0] 33 := by rw [hwc]; exact zY.off 3 _ (by omega)
    have HFIN : Hid (∀ X, X = (((wc.setCell ⟨w.heap.size + 1, 0, none⟩ (.slice C cn cc)).setCell ⟨w.heap.size + 1, 1, none⟩ (.int .u64 (a.seq : Int))).setCell ⟨w.heap.size + 1, 2, none⟩ (.int .u8 (a.kind : Int))).setCell ⟨w.heap.size + 1, 3, none⟩ (.slice D dn dc) → Cl X (w.heap.size + 1) #[.slice C cn cc, .int .u64 (a.seq : Int), .int .u8 (a.kind : Int), .slice D dn dc] 33 ∧ RetEn w a (.returned (.agg #[.slice C cn cc, .int .u64 (a.seq : Int), .int .u8 (a.kind : Int), .slice D dn dc])) X) := Lib.hid (fun X hX => en_fin (x := a) (g := w.heap.size) zY rfl oCY oDY bYY (Nat.le_refl _) sW ⟨3, _, hwc⟩ hX hdj)
    clear hY hwc A1 aY zY bYY oCY oDY oC oD bY e0 e1 e2 e3 y0 y1 y2 y3
    obtain ⟨e0, e1, e2, e3, y0, y1, y2, y3⟩ := aC.c4
    obtain ⟨g0, g1, g2, g3, k0, k1, k2, k3⟩ := zC.c4
    clear aC zC
    go_wp2_with fail
    obtain ⟨X, hX⟩ : ∃ X, X = (((wc.setCell ⟨w.heap.size + 1, 0, none⟩ (.slice C cn cc)).setCell ⟨w.heap.size + 1, 1, none⟩ (.int .u64 (a.seq : Int))).setCell ⟨w.heap.size + 1, 2, none⟩ (.int .u8 (a.kind : Int))).setCell ⟨w.heap.size + 1, 3, none⟩ (.slice D dn dc) := ⟨_, rfl⟩
    obtain ⟨zX, hret⟩ := HFIN.out X hX
    rw [← hX]
    obtain ⟨x0, x1, x2, x3, _⟩ := zX.c4
    refine bodyPost_ret (v := .agg #[.slice C cn cc, .int .u64 (a.seq : Int), .int .u8 (a.kind : Int), .slice D dn dc]) (by simp [results, Try.results75, go_sem, x0, x1, x2, x3]; try rfl) rfl hret
end
end Go.Proofs.Ytgigohfjioifaaa
namespace Go.Proofs.Ytgigohfjioifaaa
open Go Go.RowKit

/-- How many first bytes both have alike. -/
def comB : List UInt8 → List UInt8 → Nat
  | x :: xs, y :: ys => if x = y then comB xs ys + 1 else 0
  | _, _ => 0
theorem comB_le : ∀ (xs ys : List UInt8), comB xs ys ≤ xs.length ∧ comB xs ys ≤ ys.length
  | [], _ => by simp [comB]
  | _ :: _, [] => by simp [comB]
  | x :: xs, y :: ys => by
    have := comB_le xs ys
    unfold comB
    split
    · simp only [List.length_cons]; omega
    · simp
theorem comB_lt : ∀ {xs ys : List UInt8} {i : Nat}, i < comB xs ys → ∃ b, xs[i]? = some b ∧ ys[i]? = some b
  | [], _, _, h => by simp [comB] at h
  | _ :: _, [], _, h => by simp [comB] at h
  | x :: xs, y :: ys, i, h => by
    unfold comB at h
    split at h
    · rename_i e
      subst e
      cases i with
      | zero => exact ⟨x, rfl, rfl⟩
      | succ j =>
        have := comB_lt (xs := xs) (ys := ys) (i := j) (by omega)
        simpa using this
    · omega
theorem comB_at : ∀ {xs ys : List UInt8} {i : Nat}, i = comB xs ys → i = xs.length ∨ i = ys.length ∨ ∃ a b, xs[i]? = some a ∧ ys[i]? = some b ∧ a ≠ b
  | [], _, _, h => .inl (by simpa [comB] using h)
  | _ :: _, [], _, h => .inr (.inl (by simpa [comB] using h))
  | x :: xs, y :: ys, i, h => by
    unfold comB at h
    split at h
    · rename_i e
      subst e
      obtain ⟨j, rfl⟩ : ∃ j, i = j + 1 := ⟨comB xs ys, h⟩
      rcases comB_at (xs := xs) (ys := ys) (i := j) (by omega) with h1 | h1 | ⟨a, b, h1, h2, h3⟩
      · exact .inl (by simp [h1])
      · exact .inr (.inl (by simp [h1]))
      · exact .inr (.inr ⟨a, b, by simpa using h1, by simpa using h2, h3⟩)
    · subst h
      exact .inr (.inr ⟨x, y, rfl, rfl, by assumption⟩)
def RetCo (w : World) (z : Nat) (e : Ending) (w' : World) : Prop := e = .returned (.int .i64 (z : Int)) ∧ ∃ q, w' = w.drewN q
set_option maxRecDepth 100000 in
set_option maxHeartbeats 4000000 in
theorem common_any (A B : Option Addr) (n m c d : Nat) (xs ys : List UInt8) (w : World) (hx : Rd w A n xs) (hy : Rd w B m ys) (hn : n ≤ 1099511627776) (hm : m ≤ 1099511627776) :
    Calls Try.prog 107 #[.slice A n c, .slice B m d] w (RetCo w (comB xs ys)) := by
  obtain ⟨K, hK⟩ : ∃ K, K = comB xs ys := ⟨_, rfl⟩
  rw [← hK]
  have hle := comB_le xs ys
  rw [← hK] at hle
  have hlx := hx.len
  have hly := hy.len
  have HK := Lib.hid hK
  have HX := Lib.hid hx
  have HY := Lib.hid hy
  clear hK hx hy
  go_enter Try.func107, Try.ntmps107
  go_wp2_with fail
  go_loopw [5] (fun vi wr => ∃ i q : Nat, vi = .int .i64 (i : Int) ∧ i ≤ K ∧ wr = w.drewN q) (fun vi _ => K - (intOf vi).toNat)
  case atStart => exact ⟨0, 0, rfl, Nat.zero_le _, rfl⟩
  case round =>
    obtain ⟨i, q, rfl, hi, rfl⟩ := hrel
    obtain ⟨W, hW⟩ : ∃ W, W = w.drewN q := ⟨_, rfl⟩
    by_cases hlt : i < K
    · obtain ⟨b, h1, h2⟩ := comB_lt (xs := xs) (ys := ys) (i := i) (by rw [← HK.out]; exact hlt)
      have hin : i < n := by omega
      have him : i < m := by omega
      obtain ⟨ba, oa, rfl, _⟩ := HX.out.pos (by omega)
      obtain ⟨bb, ob, rfl, _⟩ := HY.out.pos (by omega)
      obtain ⟨x, hx1, hx2, _⟩ := HX.out.at_ i hin
      obtain ⟨y, hy1, hy2, _⟩ := HY.out.at_ i him
      obtain rfl : x = y := by
        rw [h1] at hx1; rw [h2] at hy1
        rw [← Option.some.inj hx1, ← Option.some.inj hy1]
      have c1 : W.cell? ⟨ba, oa + i, none⟩ = some (.int .u8 (x.toNat : Int)) := by rw [hW]; exact hx2
      have c2 : W.cell? ⟨bb, ob + i, none⟩ = some (.int .u8 (x.toNat : Int)) := by rw [hW]; exact hy2
      rw [← hW]
      have HW := Lib.hid hW
      clear hW h1 h2 hx1 hx2 hy1 hy2
      go_wp2_with fail
      go_quiet (fail)
      rw [HW.out]
      go_wp2_with fail
      go_roundw
      case rel => exact ⟨i + 1, _, by go_num, by omega, rfl⟩
      case measure => simp [intOf]; omega
    · obtain rfl : i = K := by omega
      rcases comB_at (xs := xs) (ys := ys) (i := i) HK.out with h1 | h1 | ⟨a, b, h1, h2, h3⟩
      · have hin : ¬ i < n := by omega
        rw [← hW]
        have HW := Lib.hid hW
        clear hW
        go_wp2_with fail
        go_quiet (fail)
        rw [HW.out]
        go_wp2_with fail
        go_ret
        exact ⟨rfl, _, World.drewN_drewN _ _ _⟩
      · have him : ¬ i < m := by omega
        rw [← hW]
        have HW := Lib.hid hW
        have HH1 := Lib.hid (And.intro h1 (And.intro hlx hly))
        clear hW h1 hlx hly hle hi hlt
        by_cases hin : i < n
        · have d1 : decide (i < n) = true := by simpa using hin
          have d2 : decide (i < m) = false := by simpa using him
          have d3 : decide ((i : Int) < (m : Int)) = false := by simp; omega
          have d4 : decide (m ≤ i) = true := by simp; omega
          go_wp2_with fail
          go_quiet (fail)
          rw [HW.out]
          go_wp2_with fail
          go_ret
          exact ⟨rfl, _, World.drewN_drewN _ _ _⟩
        · have d1 : decide (i < n) = false := by simpa using hin
          have d4 : decide (n ≤ i) = true := by simp; omega
          go_wp2_with fail
          go_quiet (fail)
          rw [HW.out]
          go_wp2_with fail
          go_ret
          exact ⟨rfl, _, World.drewN_drewN _ _ _⟩
      · have hin : i < n := by have := (List.getElem?_eq_some_iff.1 h1).1; omega
        have him : i < m := by have := (List.getElem?_eq_some_iff.1 h2).1; omega
        obtain ⟨ba, oa, rfl, _⟩ := HX.out.pos (by omega)
        obtain ⟨bb, ob, rfl, _⟩ := HY.out.pos (by omega)
        obtain ⟨x, hx1, hx2, _⟩ := HX.out.at_ i hin
        obtain ⟨y, hy1, hy2, _⟩ := HY.out.at_ i him
        have hne : x.toNat ≠ y.toNat := fun e => h3 (by
          rw [h1] at hx1; rw [h2] at hy1
          rw [Option.some.inj hx1, Option.some.inj hy1]
          exact UInt8.toNat_inj.1 e)
        have t1 : ((x.toNat : Int) == (y.toNat : Int)) = false := by simp; omega
        have t2 : ¬ (x.toNat : Int) = (y.toNat : Int) := by omega
        have c1 : W.cell? ⟨ba, oa + i, none⟩ = some (.int .u8 (x.toNat : Int)) := by rw [hW]; exact hx2
        have c2 : W.cell? ⟨bb, ob + i, none⟩ = some (.int .u8 (y.toNat : Int)) := by rw [hW]; exact hy2
        rw [← hW]
        have HW := Lib.hid hW
        clear hW h1 h2 h3 hx1 hx2 hy1 hy2
        go_wp2_with fail
        go_quiet (fail)
        rw [HW.out]
        go_wp2_with fail
        go_ret
        exact ⟨rfl, _, World.drewN_drewN _ _ _⟩
/-- The first k pairs of neighbours stand in order. -/
def ordK (es : List En) : Nat → Bool
  | 0 => true
  | i + 1 => ordK es i && (match es[i]?, es[i + 1]? with
    | some a, some b => lessE a b
    | _, _ => true)
def ordE (es : List En) : Bool := ordK es (es.length - 1)
theorem ordK_step {es : List En} {i : Nat} {a b : En} (h1 : es[i]? = some a) (h2 : es[i + 1]? = some b) : ordK es (i + 1) = (ordK es i && lessE a b) := by rw [ordK, h1, h2]
theorem ordK_false {es : List En} {i : Nat} (h : ordK es i = false) : ∀ j, i ≤ j → ordK es j = false
  | 0, hj => by obtain rfl : i = 0 := by omega
                exact h
  | j + 1, hj => by
    by_cases e : i = j + 1
    · subst e; exact h
    · rw [ordK, ordK_false h j (by omega), Bool.false_and]
set_option maxRecDepth 100000 in
set_option maxHeartbeats 4000000 in
theorem inOrder8_any {w : World} {A : Option Addr} {n c : Nat} {es : List En} (h : REs w A n es) (hn : n ≤ 1099511627776) : Calls Try.prog 79 #[.slice A n c] w (RetT w (ordE es)) := by
  have HL := Lib.hid h.len
  have HR := Lib.hid h
  clear h
  go_enter Try.func79, Try.ntmps79
  go_wp2_with fail
  go_loopw [3] (fun s3 wr => ∃ i : Nat, (i < n ∨ i = 0) ∧ s3 = .int .i64 ((i + 1 : Nat) : Int) ∧ ordK es i = true ∧ Below w.heap.size w wr) (fun s _ => n + 1 - (intOf s).toNat)
  case atStart => exact ⟨0, .inr rfl, rfl, rfl, Below.refl _ _⟩
  case round =>
    obtain ⟨i, hi, rfl, ho, hB⟩ := hrel
    have HB := Lib.hid hB
    have HO := Lib.hid ho
    have hR := HR.out.below hB
    clear hB ho
    obtain ⟨k, hk⟩ : ∃ k, k = i + 1 := ⟨_, rfl⟩
    rw [← hk]
    by_cases hlt : k < n
    · obtain ⟨b, off, hAb, hbl⟩ := hR.pos (by omega)
      subst hAb
      obtain ⟨x, v0, v1, v2, v3, hx, c0, c1, c2, c3, hev⟩ := hR.at_ i (by omega)
      obtain ⟨y, u0, u1, u2, u3, hy, d0, d1, d2, d3, hew⟩ := hR.at_ k hlt
      have HL1 : Hid (∀ wx, Below wr.heap.size wr wx → Calls Try.prog 55 #[.agg #[v0, v1, v2, v3], .agg #[u0, u1, u2, u3]] wx (RetT wx (lessE x y))) := Lib.hid (fun wx hb => memLess_any (hev.below hb) (hew.below hb))
      have HSX : Hid (∀ wx, Below wr.heap.size wr wx → wx.cell? ⟨b, off + i * 4, none⟩ = some v0 ∧ wx.cell? ⟨b, off + i * 4 + 1, none⟩ = some v1 ∧ wx.cell? ⟨b, off + i * 4 + 2, none⟩ = some v2 ∧ wx.cell? ⟨b, off + i * 4 + 3, none⟩ = some v3 ∧ wx.cell? ⟨b, off + k * 4, none⟩ = some u0 ∧ wx.cell? ⟨b, off + k * 4 + 1, none⟩ = some u1 ∧ wx.cell? ⟨b, off + k * 4 + 2, none⟩ = some u2 ∧ wx.cell? ⟨b, off + k * 4 + 3, none⟩ = some u3) := Lib.hid (fun wx h =>
        ⟨(h.cell (p := ⟨b, off + i * 4, none⟩) hbl).trans c0, (h.cell (p := ⟨b, off + i * 4 + 1, none⟩) hbl).trans c1, (h.cell (p := ⟨b, off + i * 4 + 2, none⟩) hbl).trans c2, (h.cell (p := ⟨b, off + i * 4 + 3, none⟩) hbl).trans c3, (h.cell (p := ⟨b, off + k * 4, none⟩) hbl).trans d0, (h.cell (p := ⟨b, off + k * 4 + 1, none⟩) hbl).trans d1, (h.cell (p := ⟨b, off + k * 4 + 2, none⟩) hbl).trans d2, (h.cell (p := ⟨b, off + k * 4 + 3, none⟩) hbl).trans d3⟩)
      have hB0 : Below wr.heap.size wr wr.drew := (Below.refl _ _).drew
      have hk1 : IntKind.i64.wrap ((k : Int) - 1) = (i : Int) := by rw [IntWalk.i64_in _ (by omega)]; omega
      have hin : i < n := by omega
      have HST : Hid (ordK es k = (ordK es i && lessE x y)) := Lib.hid (by rw [hk]; exact ordK_step hx (by rw [← hk]; exact hy))
      have HKI := Lib.hid hk
      obtain ⟨z, hz⟩ : ∃ z, z = lessE x y := ⟨_, rfl⟩
      rw [← hz] at HL1 HST
      clear hR hx hev hy hew hz hk
      cases z with
      | true =>
        go_wp2_with fail
        go_region_held3 (fun wx => wx.cell? ⟨b, off + i * 4, none⟩ = some v0 ∧ wx.cell? ⟨b, off + i * 4 + 1, none⟩ = some v1 ∧ wx.cell? ⟨b, off + i * 4 + 2, none⟩ = some v2 ∧ wx.cell? ⟨b, off + i * 4 + 3, none⟩ = some v3 ∧ wx.cell? ⟨b, off + k * 4, none⟩ = some u0 ∧ wx.cell? ⟨b, off + k * 4 + 1, none⟩ = some u1 ∧ wx.cell? ⟨b, off + k * 4 + 2, none⟩ = some u2 ∧ wx.cell? ⟨b, off + k * 4 + 3, none⟩ = some u3) (first | assumption | exact HSX.out _ hB0)
          (first | (go_at_call 55; with_reducible refine (HL1.out _ (by assumption)).mono ?_; intro e1 wn hq; obtain ⟨h1, bn⟩ := RetT.outD hq; subst h1; have bn' := belowT' (by assumption : Below wr.heap.size wr _) bn; have hS1 := HSX.out _ bn'))
        all_goals
          have HBN : Hid (Below w.heap.size w _) := Lib.hid (HB.out.trans ((by assumption : Below wr.heap.size wr wn).mono HB.out.size))
          go_wp2_with fail
          go_roundw
          case rel => exact ⟨k, .inl hlt, by go_num, by rw [HST.out, HO.out]; rfl, HBN.out⟩
          case measure => simp [intOf]; omega
      | false =>
        go_wp2_with fail
        go_region_held3 (fun wx => wx.cell? ⟨b, off + i * 4, none⟩ = some v0 ∧ wx.cell? ⟨b, off + i * 4 + 1, none⟩ = some v1 ∧ wx.cell? ⟨b, off + i * 4 + 2, none⟩ = some v2 ∧ wx.cell? ⟨b, off + i * 4 + 3, none⟩ = some v3 ∧ wx.cell? ⟨b, off + k * 4, none⟩ = some u0 ∧ wx.cell? ⟨b, off + k * 4 + 1, none⟩ = some u1 ∧ wx.cell? ⟨b, off + k * 4 + 2, none⟩ = some u2 ∧ wx.cell? ⟨b, off + k * 4 + 3, none⟩ = some u3) (first | assumption | exact HSX.out _ hB0)
          (first | (go_at_call 55; with_reducible refine (HL1.out _ (by assumption)).mono ?_; intro e1 wn hq; obtain ⟨h1, bn⟩ := RetT.outD hq; subst h1; have bn' := belowT' (by assumption : Below wr.heap.size wr _) bn; have hS1 := HSX.out _ bn'))
        all_goals
          have HBN : Hid (Below w.heap.size w _) := Lib.hid (HB.out.trans ((by assumption : Below wr.heap.size wr wn).mono HB.out.size))
          have HFIN : Hid (ordE es = false) := Lib.hid (by
            have h1 := HST.out
            rw [Bool.and_false] at h1
            exact ordK_false h1 _ (by rw [HL.out]; omega))
          go_wp2_with fail
          go_ret
          exact ⟨by rw [HFIN.out]; rfl, HBN.out⟩
    · have HFIN : Hid (ordE es = true) := Lib.hid (by
        have h1 := HO.out
        unfold ordE
        rw [HL.out]
        obtain rfl : n - 1 = i := by omega
        exact h1)
      go_wp2_with fail
      go_ret
      exact ⟨by rw [HFIN.out]; rfl, HB.out⟩
end Go.Proofs.Ytgigohfjioifaaa
namespace Go.Proofs.Ytgigohfjioifaaa
open Go Go.RowKit

theorem Rd.keptG {w w' : World} {A : Option Addr} {n : Nat} {xs : List UInt8} {row : Option Nat} (h : Rd w A n xs) (hg : w.grownBy w' row) (hne : ∀ b, blk A = some b → row ≠ some b) : Rd w' A n xs := by
  refine ⟨h.1, fun hn => ?_⟩
  obtain ⟨b, off, e, hb, hc⟩ := h.2 hn
  refine ⟨b, off, e, Nat.lt_of_lt_of_le hb hg.size, fun i x hx => hg.cell (hc i x hx) (fun e2 => ?_)⟩
  subst e
  exact hne b rfl e2.symm
theorem numR_bad {xs : List UInt8} {s : Nat × Bool} (h : (numR xs s).2.2 = false) : s.2 = false := by
  unfold numR at h
  split at h
  · exact h
  · cases h
theorem takeR_bad {xs : List UInt8} {n : Nat} {s : Nat × Bool} (h : (takeR xs n s).2.2 = false) : s.2 = false ∧ (s.1 ≤ xs.length → n ≤ xs.length - s.1 ∧ (takeR xs n s).1.length = n) := by
  unfold takeR at h ⊢
  split at h
  · cases h
  · rename_i h2
    rw [if_neg h2]
    refine ⟨h, fun h3 => ⟨by omega, ?_⟩⟩
    simp only [List.length_take, List.length_drop]
    omega
/-- The seven pieces of an entry, one behind the other. -/
def e1R (xs : List UInt8) (a : Nat) := numR xs (a, false)
def e2R (xs : List UInt8) (a : Nat) := numR xs (e1R xs a).2
def e3R (xs : List UInt8) (a : Nat) := numR xs (e2R xs a).2
def e4R (xs : List UInt8) (a : Nat) := takeR xs 1 (e3R xs a).2
def e5R (xs : List UInt8) (a : Nat) := numR xs (e4R xs a).2
def e6R (xs : List UInt8) (a : Nat) := takeR xs (e2R xs a).1 (e5R xs a).2
def e7R (xs : List UInt8) (a : Nat) := takeR xs (e5R xs a).1 (e6R xs a).2
/-- Can't an entry be read? -/
def badR (xs ah : List UInt8) (a : Nat) : Bool := (e7R xs a).2.2 || decide (ah.length < (e1R xs a).1) || decide (1024 < (e1R xs a).1 + (e6R xs a).1.length)
/-- The entry that is read. -/
def entR (xs ah : List UInt8) (a : Nat) : En := ⟨ah.take (e1R xs a).1 ++ (e6R xs a).1, (e3R xs a).1, ((e4R xs a).1.headD 0).toNat, (e7R xs a).1⟩
/-- What entry hands back. -/
def RetE8 (w : World) (p : Nat) (E : Option Addr) (en ec : Nat) (xs ah : List UInt8) (a : Nat) (e : Ending) (w' : World) : Prop :=
  Rdr w' p E en ec (e7R xs a).2 ∧ w.grownBy w' (some p) ∧
  ((badR xs ah a = true ∧ e = .returned (.tuple #[.agg #[.slice none 0 0, .int .u64 0, .int .u8 0, .slice none 0 0], .bool false])) ∨
   (badR xs ah a = false ∧ ∃ K kn kc V vn vc, e = .returned (.tuple #[.agg #[.slice K kn kc, .int .u64 ((entR xs ah a).seq : Int), .int .u8 ((entR xs ah a).kind : Int), .slice V vn vc], .bool true]) ∧
     Own 5 w' w.heap.size K kn kc (entR xs ah a).key ∧ Own 5 w' w.heap.size V vn vc (entR xs ah a).val ∧ Dj K V))
theorem rdl_two8 {w : World} {t : TypeId} {v1 v2 : Value} {x1 x2 : List UInt8} (h1 : ElB w v1 x1) (h2 : ElB w v2 x2) (g : Nat) (hg : g = w.heap.size) : RdL (w.alloc (.cells #[v1, v2] t)) (some ⟨g, 0, none⟩) 2 [x1, x2] := by
  subst hg
  refine ⟨rfl, fun _ => ⟨w.heap.size, 0, rfl, by simp, fun i x hi => ?_⟩⟩
  match i, hi with
  | 0, hi =>
    injection hi with hi
    subst hi
    refine ⟨v1, ?_, h1.below ((Below.refl _ _).alloc (Nat.le_refl _) _)⟩
    rw [cell_of_row (w.alloc (.cells #[v1, v2] t)) w.heap.size (0 + 0) #[v1, v2] t (0, 0) (heap_alloc_new w _)]
    rfl
  | 1, hi =>
    injection hi with hi
    subst hi
    refine ⟨v2, ?_, h2.below ((Below.refl _ _).alloc (Nat.le_refl _) _)⟩
    rw [cell_of_row (w.alloc (.cells #[v1, v2] t)) w.heap.size (0 + 1) #[v1, v2] t (0, 0) (heap_alloc_new w _)]
    rfl
  | i + 2, hi => simp at hi
theorem Made.outM {base : Nat} {w w' : World} {xs : List UInt8} {e : Ending} (h : Made base w xs e w') : ∃ A n c, e = .returned (.slice A n c) ∧ Own 5 w' base A n c xs ∧ Below base w w' := h
theorem cut_hu {P : Program} {t e : TypeId} (ht : P.underlying t = some (.slice e)) (he : P.elem t = e) (hs : ∀ w, (sizeOf e).run P w = .ok 1 w)
    (A : Option Addr) {n cap m : Nat} (hm : m ≤ cap) (w : World) :
    (Instr.slice t (.slice A n cap) none (some (.int .u64 (m : Int))) none).run P w = .ok (.slice A m cap) w := by
  subst he
  rw [run_slice_h w t A n cap ht .u64 (m : Int) (by omega) (by omega)]
  simp only [hs, Result.andThen, sliced, Int.toNat_natCast, Nat.zero_mul, Nat.sub_zero]
  cases A <;> simp [Addr.add]
theorem e4_one {xs : List UInt8} {a : Nat} (ha : a ≤ xs.length) (h : (e7R xs a).2.2 = false) : (e4R xs a).1.length = 1 := by
  unfold e7R at h
  have h6 := (takeR_bad h).1
  unfold e6R at h6
  have h5 := (takeR_bad h6).1
  unfold e5R at h5
  have h4 := numR_bad h5
  have q1 := (numR_le (xs := xs) (s := (a, false)) ha).1
  have q2 := (numR_le (xs := xs) (s := (e1R xs a).2) (by unfold e1R; exact q1)).1
  have q3 := (numR_le (xs := xs) (s := (e2R xs a).2) (by unfold e2R; exact q2)).1
  unfold e4R at h4 ⊢
  exact ((takeR_bad h4).2 (by unfold e3R; exact q3)).2
/-- Four stores into the result's own box. -/
theorem e8_fin {w U w7 X : World} {p : Nat} {E : Option Addr} {en ec : Nat} {s : Nat × Bool} {q : Array Value} {a b c d : Value} (bU : Below w.heap.size w U) (g7 : U.grownBy w7 (some p)) (z7 : Cl w7 w.heap.size q 33) (hq : q.size = 4) (r7 : Rdr w7 p E en ec s) (hp : p < w.heap.size)
    (hX : X = (((w7.setCell ⟨w.heap.size, 0, none⟩ a).setCell ⟨w.heap.size, 1, none⟩ b).setCell ⟨w.heap.size, 2, none⟩ c).setCell ⟨w.heap.size, 3, none⟩ d) :
    Rdr X p E en ec s ∧ w.grownBy X (some p) ∧ Cl X w.heap.size #[a, b, c, d] 33 := by
  have hr7 : Cl w7 p _ 123 := r7
  refine ⟨?_, ?_, by rw [hX]; exact z7.put4 hq a b c d⟩
  · rw [hX]
    exact (((hr7.off 0 a (by omega)).off 1 b (by omega)).off 2 c (by omega)).off 3 d (by omega)
  · have h1 : w.grownBy U (some p) := ⟨bU.os, bU.tape, bU.output, bU.size, fun i hi _ => bU.block i hi⟩
    have h2 : w7.grownBy X (some w.heap.size) := by
      rw [hX]
      exact (((grown_set1 w7 _ 0 a).trans (grown_set1 _ _ 1 b)).trans (grown_set1 _ _ 2 c)).trans (grown_set1 _ _ 3 d)
    exact grown_then (h1.trans g7) h2 (fun j hj => by injection hj with hj; exact .inl (by omega))
/-- How a read entry is handed back. -/
theorem e8_ok {w U w7 w9 wc wn X : World} {p : Nat} {E : Option Addr} {en ec : Nat} {xs ah : List UInt8} {a : Nat} {K V : Option Addr} {kn kc vn vc sq kd : Nat} {q : Array Value} (bU : Below w.heap.size w U) (hU : w.heap.size < U.heap.size) (g7 : U.grownBy w7 (some p)) (z7 : Cl w7 w.heap.size q 33) (hq : q.size = 4) (r7 : Rdr w7 p E en ec (e7R xs a).2) (hp : p < w.heap.size)
    (b79 : Below w7.heap.size w7 w9) (oK : Own 5 w9 w7.heap.size K kn kc (entR xs ah a).key) (hc9 : w9.heap.size = wc.heap.size) (b9n : Below w9.heap.size w9 wn) (oV : Own 5 wn wc.heap.size V vn vc (entR xs ah a).val)
    (hbad : badR xs ah a = false) (hsq : (entR xs ah a).seq = sq) (hkd : (entR xs ah a).kind = kd)
    (hX : X = (((wn.setCell ⟨w.heap.size, 0, none⟩ (.slice K kn kc)).setCell ⟨w.heap.size, 1, none⟩ (.int .u64 (sq : Int))).setCell ⟨w.heap.size, 2, none⟩ (.int .u8 (kd : Int))).setCell ⟨w.heap.size, 3, none⟩ (.slice V vn vc)) :
    Cl X w.heap.size #[.slice K kn kc, .int .u64 (sq : Int), .int .u8 (kd : Int), .slice V vn vc] 33 ∧
    RetE8 w p E en ec xs ah a (.returned (.tuple #[.agg #[.slice K kn kc, .int .u64 (sq : Int), .int .u8 (kd : Int), .slice V vn vc], .bool true])) X := by
  have s7 := g7.size
  have s79 := b79.size
  have b7n : Below w7.heap.size w7 wn := b79.trans (b9n.mono s79)
  have gn : U.grownBy wn (some p) := g7.trans ⟨b7n.os, b7n.tape, b7n.output, b7n.size, fun i hi _ => b7n.block i hi⟩
  obtain ⟨q1, q2, q3⟩ := e8_fin bU gn (z7.below b7n) hq ((show Cl w7 p _ _ from r7).below b7n) hp hX
  have oK2 := oK.below b9n
  have oV2 := oV.mono (show w7.heap.size ≤ wc.heap.size by omega)
  have dj : Dj K V := Dj.old oK oV (by omega)
  refine ⟨q3, q1, q2, .inr ⟨hbad, K, kn, kc, V, vn, vc, by rw [hsq, hkd], ?_, ?_, dj⟩⟩
  · rw [hX]
    exact ((((oK2.set (by omega) 0 _).set (by omega) 1 _).set (by omega) 2 _).set (by omega) 3 _).mono (by omega)
  · rw [hX]
    exact ((((oV2.set (by omega) 0 _).set (by omega) 1 _).set (by omega) 2 _).set (by omega) 3 _).mono (by omega)
set_option maxRecDepth 100000 in
set_option maxHeartbeats 16000000 in
theorem entry_any (w : World) (p : Nat) (E : Option Addr) (en ec : Nat) (xs : List UInt8) (A : Option Addr) (an ac : Nat) (ah : List UInt8) (a : Nat) (h : Rdr w p E en ec (a, false)) (hr : Rd w E en xs) (hA : Rd w A an ah) (ha : a ≤ en) (hn : en ≤ 1099511627776) (hc : en ≤ ec) (hnil : E = none → ec = 0)
    (han : an ≤ 1048576) (hac : an ≤ ac) (hpe : blk E ≠ some p) (hpa : blk A ≠ some p) (hanil : A = none → ac = 0) :
    Calls Try.prog 88 #[.pointer (some ⟨p, 0, none⟩), .slice A an ac] w (RetE8 w p E en ec xs ah a) := by
  have hxl := hr.len
  obtain ⟨g, hg⟩ : ∃ g, g = w.heap.size := ⟨_, rfl⟩
  have hpg : p < g := by rw [hg]; exact (show Cl w p _ _ from h).lt
  obtain ⟨U, hU⟩ : ∃ U, U = w.alloc (.cells #[.slice none 0 0, .int .u64 0, .int .u8 0, .slice none 0 0] 33) := ⟨_, rfl⟩
  have bU : Below w.heap.size w U := by rw [hU]; exact (Below.refl _ _).alloc (Nat.le_refl _) _
  have hU1 : Rdr U p E en ec (a, false) := (show Cl w p _ _ from h).below bU
  have zU : Cl U g #[.slice none 0 0, .int .u64 0, .int .u8 0, .slice none 0 0] 33 := by rw [hU, hg]; exact Cl.new _ _ _
  -- what stands whenever the reader alone has changed
  have KE : Hid (∀ wx, U.grownBy wx (some p) → Rd wx E en xs ∧ Rd wx A an ah ∧ Cl wx g #[.slice none 0 0, .int .u64 0, .int .u8 0, .slice none 0 0] 33) := Lib.hid (fun wx hgx => ⟨(hr.below bU).keptG hgx (fun b hb e => hpe (by rw [hb]; exact e.symm)), (hA.below bU).keptG hgx (fun b hb e => hpa (by rw [hb]; exact e.symm)), ClG.grown zU hgx (fun e => by injection e with e; omega)⟩)
  have h1 : (e1R xs a).2.1 ≤ en ∧ (e1R xs a).1 < B64 := by have := numR_le (xs := xs) (s := (a, false)) (by simp only; omega); rw [← hxl]; exact this
  have h2 : (e2R xs a).2.1 ≤ en ∧ (e2R xs a).1 < B64 := by have := numR_le (xs := xs) (s := (e1R xs a).2) (by omega); rw [← hxl]; exact this
  have h3 : (e3R xs a).2.1 ≤ en ∧ (e3R xs a).1 < B64 := by have := numR_le (xs := xs) (s := (e2R xs a).2) (by omega); rw [← hxl]; exact this
  have h4 : (e4R xs a).2.1 ≤ en := by have := (takeR_le (xs := xs) (n := 1) (s := (e3R xs a).2) (by omega)).1; rw [← hxl]; exact this
  have h5 : (e5R xs a).2.1 ≤ en ∧ (e5R xs a).1 < B64 := by have := numR_le (xs := xs) (s := (e4R xs a).2) (by omega); rw [← hxl]; exact this
  have h6 : (e6R xs a).2.1 ≤ en := by have := (takeR_le (xs := xs) (n := (e2R xs a).1) (s := (e5R xs a).2) (by omega)).1; rw [← hxl]; exact this
  -- the calls, each from whatever the reader alone has changed
  have C1 : Hid (Calls Try.prog 111 #[.pointer (some ⟨p, 0, none⟩)] U (RetN U p E en ec (e1R xs a))) := Lib.hid (number_any U p E en ec xs a false hU1 (hr.below bU) ha hn hc)
  have C2 : Hid (∀ wx, U.grownBy wx (some p) → Rdr wx p E en ec (e1R xs a).2 → Calls Try.prog 111 #[.pointer (some ⟨p, 0, none⟩)] wx (RetN wx p E en ec (e2R xs a))) := Lib.hid (fun wx hw hc2 => number_any wx p E en ec xs _ _ hc2 (KE.out wx hw).1 h1.1 hn hc)
  have C3 : Hid (∀ wx, U.grownBy wx (some p) → Rdr wx p E en ec (e2R xs a).2 → Calls Try.prog 111 #[.pointer (some ⟨p, 0, none⟩)] wx (RetN wx p E en ec (e3R xs a))) := Lib.hid (fun wx hw hc2 => number_any wx p E en ec xs _ _ hc2 (KE.out wx hw).1 h2.1 hn hc)
  have C4 : Hid (∀ wx, U.grownBy wx (some p) → Rdr wx p E en ec (e3R xs a).2 → Calls Try.prog 112 #[.pointer (some ⟨p, 0, none⟩), .int .u64 1] wx (RetT8 wx p E en ec xs (e4R xs a))) := Lib.hid (fun wx hw hc2 => take_any wx p E en ec xs 1 _ _ hc2 hxl h3.1 hn hc (by unfold B64; omega) hnil)
  have C5 : Hid (∀ wx, U.grownBy wx (some p) → Rdr wx p E en ec (e4R xs a).2 → Calls Try.prog 111 #[.pointer (some ⟨p, 0, none⟩)] wx (RetN wx p E en ec (e5R xs a))) := Lib.hid (fun wx hw hc2 => number_any wx p E en ec xs _ _ hc2 (KE.out wx hw).1 h4 hn hc)
  have C6 : Hid (∀ wx, U.grownBy wx (some p) → Rdr wx p E en ec (e5R xs a).2 → Calls Try.prog 112 #[.pointer (some ⟨p, 0, none⟩), .int .u64 ((e2R xs a).1 : Int)] wx (RetT8 wx p E en ec xs (e6R xs a))) := Lib.hid (fun wx hw hc2 => take_any wx p E en ec xs _ _ _ hc2 hxl h5.1 hn hc h2.2 hnil)
  have C7 : Hid (∀ wx, U.grownBy wx (some p) → Rdr wx p E en ec (e6R xs a).2 → Calls Try.prog 112 #[.pointer (some ⟨p, 0, none⟩), .int .u64 ((e5R xs a).1 : Int)] wx (RetT8 wx p E en ec xs (e7R xs a))) := Lib.hid (fun wx hw hc2 => take_any wx p E en ec xs _ _ _ hc2 hxl h6 hn hc h5.2 hnil)
  have BU := Lib.hid bU
  have HU := Lib.hid hU
  have HG := Lib.hid hg
  have hsh := h1.2
  unfold B64 at hsh
  obtain ⟨sh, hshe⟩ : ∃ sh, sh = (e1R xs a).1 := ⟨_, rfl⟩
  obtain ⟨lf, hlfe⟩ : ∃ lf, lf = (e2R xs a).1 := ⟨_, rfl⟩
  obtain ⟨sq, hsqe⟩ : ∃ sq, sq = (e3R xs a).1 := ⟨_, rfl⟩
  obtain ⟨sz, hsze⟩ : ∃ sz, sz = (e5R xs a).1 := ⟨_, rfl⟩
  have HSH := Lib.hid hshe
  have HLF := Lib.hid hlfe
  have HSQ := Lib.hid hsqe
  have HSZ := Lib.hid hsze
  rw [← hshe] at hsh
  have HEB : Hid (∀ b, blk E = some b → 0 < en → b < w.heap.size) := Lib.hid (fun b hb hp => by
    obtain ⟨b', o', e, hb2⟩ := hr.pos hp
    rw [e] at hb
    injection hb with hb
    simp only at hb
    omega)
  clear h hr hA hU hU1 zU bU h1 h2 h3 h4 h5 h6 hg hshe hlfe hsqe hsze
  go_enter Try.func88, Try.ntmps88
  go_upto_region 1 with (fail)
  rw [← HU.out]
  go_wp2_with fail
  with_reducible refine C1.out.mono ?_
  intro e w1 hq
  obtain ⟨he, r1, g1⟩ := RetN.out hq
  subst he
  rw [← HSH.out]
  go_wp2_with fail
  with_reducible refine (C2.out _ g1 r1).mono ?_
  clear hq
  intro e w2 hq
  obtain ⟨he, r2, g2⟩ := RetN.out hq
  subst he
  rw [← HLF.out]
  have g2 := g1.trans g2
  clear hq r1 g1 C1 C2
  go_wp2_with fail
  with_reducible refine (C3.out _ g2 r2).mono ?_
  intro e w3 hq
  obtain ⟨he, r3, g3⟩ := RetN.out hq
  subst he
  rw [← HSQ.out]
  have g3 := g2.trans g3
  clear hq r2 g2 C3
  go_wp2_with fail
  with_reducible refine (C4.out _ g3 r3).mono ?_
  rintro e w4 ⟨B4, k4, d4, rfl, r4, g4, x41, x42, x43, x44, x45⟩
  have g4 := g3.trans g4
  have X4 := Lib.hid (And.intro x41 (And.intro x42 (And.intro x43 (And.intro x44 x45))))
  clear r3 g3 C4 x41 x42 x43 x44 x45
  go_wp2_with fail
  with_reducible refine (C5.out _ g4 r4).mono ?_
  intro e w5 hq
  obtain ⟨he, r5, g5⟩ := RetN.out hq
  subst he
  rw [← HSZ.out]
  have g5 := g4.trans g5
  clear hq r4 g4 C5
  rw [← HLF.out] at C6
  rw [← HSZ.out] at C7
  go_wp2_with fail
  with_reducible refine (C6.out _ g5 r5).mono ?_
  rintro e w6 ⟨B6, k6, d6, rfl, r6, g6, x61, x62, x63, x64, x65⟩
  have g6 := g5.trans g6
  have X6 := Lib.hid (And.intro x61 (And.intro x62 (And.intro x63 (And.intro x64 x65))))
  clear r5 g5 C6 x61 x62 x63 x64 x65
  go_wp2_with fail
  with_reducible refine (C7.out _ g6 r6).mono ?_
  rintro e w7 ⟨B7, k7, d7, rfl, r7, g7, x71, x72, x73, x74, x75⟩
  have g7 := g6.trans g7
  have X7 := Lib.hid (And.intro x71 (And.intro x72 (And.intro x73 (And.intro x74 x75))))
  clear r6 g6 C7 x71 x72 x73 x74 x75
  have hxl2 : ah.length = an := (KE.out U (World.grownBy.refl _ _)).2.1.len
  obtain ⟨bad, hbad⟩ : ∃ bad, bad = (e7R xs a).2.2 := ⟨_, rfl⟩
  have hc7 : Cl w7 p #[.slice E en ec, .int .i64 ((e7R xs a).2.1 : Int), .bool bad] 123 := by rw [hbad]; exact r7
  obtain ⟨c0, c1, c2, f0, f1, f2⟩ := hc7.c3
  have hk6 := X6.out.2.2.1
  have hk6b : k6 ≤ en := by
    have h1 := (takeR_le (xs := xs) (n := (e2R xs a).1) (s := (e5R xs a).2))
    rw [← hk6]
    unfold e6R
    unfold takeR
    split
    · simp
    · simp only [List.length_take, List.length_drop]; omega
  obtain ⟨_, _, z7⟩ := KE.out w7 g7
  rw [HG.out] at z7
  obtain ⟨zc0, zc1, zc2, zc3, zf0, zf1, zf2, zf3⟩ := z7.c4
  have R7 := Lib.hid r7
  have G7 := Lib.hid g7
  have Z7 := Lib.hid z7
  have HB := Lib.hid hbad
  have HK6 := Lib.hid hk6
  have HXL2 := Lib.hid hxl2
  have hgw : U.heap.size ≤ w7.heap.size := g7.size
  clear r7 g7 hc7 z7 hbad hk6 hxl2
  have hpw : p < w.heap.size := by have := HG.out; omega
  cases bad with
  | true =>
    have HBAD : Hid (badR xs ah a = true) := Lib.hid (by unfold badR; rw [← HB.out]; rfl)
    go_wp2_with fail
    obtain ⟨X, hX⟩ : ∃ X, X = (((w7.setCell ⟨w.heap.size, 0, none⟩ (.slice none 0 0)).setCell ⟨w.heap.size, 1, none⟩ (.int .u64 0)).setCell ⟨w.heap.size, 2, none⟩ (.int .u8 0)).setCell ⟨w.heap.size, 3, none⟩ (.slice none 0 0) := ⟨_, rfl⟩
    rw [← hX]
    obtain ⟨q1, q2, q3⟩ := e8_fin BU.out G7.out Z7.out rfl R7.out (by omega) hX
    obtain ⟨x0, x1, x2, x3, _⟩ := q3.c4
    refine bodyPost_ret (v := .tuple #[.agg #[.slice none 0 0, .int .u64 0, .int .u8 0, .slice none 0 0], .bool false]) (by simp [results, Try.results88, go_sem, x0, x1, x2, x3]; try rfl) rfl ⟨q1, q2, .inl ⟨HBAD.out, rfl⟩⟩
  | false =>
    by_cases hs : an < sh
    · have hs' : (an : Int) < (sh : Int) := by omega
      have HBAD : Hid (badR xs ah a = true) := Lib.hid (by
        unfold badR
        rw [← HB.out, HXL2.out, ← HSH.out]
        simp [hs])
      go_wp2_with fail
      obtain ⟨X, hX⟩ : ∃ X, X = (((w7.setCell ⟨w.heap.size, 0, none⟩ (.slice none 0 0)).setCell ⟨w.heap.size, 1, none⟩ (.int .u64 0)).setCell ⟨w.heap.size, 2, none⟩ (.int .u8 0)).setCell ⟨w.heap.size, 3, none⟩ (.slice none 0 0) := ⟨_, rfl⟩
      rw [← hX]
      obtain ⟨q1, q2, q3⟩ := e8_fin BU.out G7.out Z7.out rfl R7.out (by omega) hX
      obtain ⟨x0, x1, x2, x3, _⟩ := q3.c4
      refine bodyPost_ret (v := .tuple #[.agg #[.slice none 0 0, .int .u64 0, .int .u8 0, .slice none 0 0], .bool false]) (by simp [results, Try.results88, go_sem, x0, x1, x2, x3]; try rfl) rfl ⟨q1, q2, .inl ⟨HBAD.out, rfl⟩⟩
    · have hs' : ¬ (an : Int) < (sh : Int) := by omega
      have e1 : IntKind.i64.wrap (sh : Int) = (sh : Int) := IntWalk.i64_in _ (by omega)
      have e2 : IntKind.i64.wrap ((sh : Int) + (k6 : Int)) = (sh : Int) + (k6 : Int) := IntWalk.i64_in _ (by omega)
      by_cases hk : 1024 < sh + k6
      · have hk' : (1024 : Int) < (sh : Int) + (k6 : Int) := by omega
        have HBAD : Hid (badR xs ah a = true) := Lib.hid (by
          unfold badR
          rw [HK6.out, ← HSH.out]
          simp [hk])
        go_wp2_with fail
        obtain ⟨X, hX⟩ : ∃ X, X = (((w7.setCell ⟨w.heap.size, 0, none⟩ (.slice none 0 0)).setCell ⟨w.heap.size, 1, none⟩ (.int .u64 0)).setCell ⟨w.heap.size, 2, none⟩ (.int .u8 0)).setCell ⟨w.heap.size, 3, none⟩ (.slice none 0 0) := ⟨_, rfl⟩
        rw [← hX]
        obtain ⟨q1, q2, q3⟩ := e8_fin BU.out G7.out Z7.out rfl R7.out (by omega) hX
        obtain ⟨x0, x1, x2, x3, _⟩ := q3.c4
        refine bodyPost_ret (v := .tuple #[.agg #[.slice none 0 0, .int .u64 0, .int .u8 0, .slice none 0 0], .bool false]) (by simp [results, Try.results88, go_sem, x0, x1, x2, x3]; try rfl) rfl ⟨q1, q2, .inl ⟨HBAD.out, rfl⟩⟩
      · have hk' : ¬ (1024 : Int) < (sh : Int) + (k6 : Int) := by omega
        have HOK : Hid (badR xs ah a = false) := Lib.hid (by
          unfold badR
          rw [← HB.out, HXL2.out, HK6.out, ← HSH.out]
          simp [hs, hk])
        have hE7 := (KE.out w7 G7.out).1
        have hA7 := (KE.out w7 G7.out).2.1
        have hk4 : k4 = 1 := by
          rw [← X4.out.2.2.1]
          exact e4_one (by rw [(KE.out U (World.grownBy.refl _ _)).1.len]; exact ha) HB.out.symm
        subst hk4
        have r4 := X4.out.2.2.2.1 w7 hE7
        obtain ⟨b4, o4, rfl, hb4⟩ := r4.pos (by omega)
        have hb4w : b4 ≠ w.heap.size := by
          have h1 : blk E = some b4 := by
            rcases X4.out.2.2.2.2 with e | e
            · cases e
            · exact e.symm
          have h2 : 0 < en := by
            rcases Nat.eq_zero_or_pos en with e | e
            · have := (hE7.len.trans e)
              have h3 := X4.out.2.2.1
              unfold e4R takeR at h3
              rw [if_pos (by omega)] at h3
              cases h3
            · exact e
          have := HEB.out b4 h1 h2
          omega
        have hb4 : b4 < w7.heap.size := hb4
        obtain ⟨kd, hkd1, hkd2, _⟩ := r4.at_ 0 (by omega)
        have hkd2 : w7.cell? ⟨b4, o4, none⟩ = some (.int .u8 (kd.toNat : Int)) := hkd2
        have hkind : (entR xs ah a).kind = kd.toNat := by
          unfold entR
          simp only
          cases hq : (e4R xs a).1 with
          | nil => rw [hq] at hkd1; cases hkd1
          | cons y ys => rw [hq] at hkd1; injection hkd1 with hkd1; rw [hkd1]; rfl
        have r7v := X7.out.2.2.2.1 w7 hE7
        have hk7 : k7 ≤ en := by
          have h1 := (takeR_le (xs := xs) (n := (e5R xs a).1) (s := (e6R xs a).2))
          rw [← X7.out.2.2.1]
          have hlen := hE7.len
          unfold e7R takeR
          split
          · simp
          · simp only [List.length_take, List.length_drop]; omega
        have hsl : ∀ W : World, (Instr.slice 22 (.slice A an ac) none (some (.int .u64 (sh : Int))) none).run Try.prog W = .ok (.slice A sh ac) W :=
          cut_hu Try.underlying22 elem_bytes size_u8 A (by omega)
        have hCC := Concat_any (some ⟨w7.heap.size, 0, none⟩) 2 2 [ah.take sh, (e6R xs a).1] _ (rdl_two8 (w := w7) (t := 22) ⟨A, sh, ac, rfl, hA7.take (by omega), by omega, hanil⟩ ⟨B6, k6, d6, rfl, X6.out.2.2.2.1 w7 hE7, X6.out.1, X6.out.2.1⟩ _ rfl) (by
          simp only [tot, List.length_take, HK6.out, HXL2.out]
          omega)
        have hfl : [ah.take sh, (e6R xs a).1].flatten = (entR xs ah a).key := by
          unfold entR
          rw [← HSH.out]
          simp
        rw [hfl] at hCC
        have HCC := Lib.hid hCC
        have R4C := Lib.hid hkd2
        have HKD := Lib.hid hkind
        have R7V := Lib.hid r7v
        have hval : (entR xs ah a).val = (e7R xs a).1 := rfl
        rw [← hval] at R7V
        have hkn7 : k7 ≤ 140737488355328 := by omega
        clear hE7 hA7 r4 hkd1 hkd2 hkind r7v hCC hfl hval hk7 X4
        go_wp2_with fail
        with_reducible refine HCC.out.mono ?_
        intro e w9 hq
        obtain ⟨K, kn, kc, he, oK, b9⟩ := Made.outM hq
        subst he
        have b79 : Below w7.heap.size w7 w9 := ((Below.refl _ _).alloc (Nat.le_refl _) _).trans (b9.mono (by simp))
        have oK2 := oK.mono (show w7.heap.size ≤ _ by simp)
        have s79 := b79.size
        have HS : Hid (∀ wx, Below w9.heap.size w9 wx → wx.cell? ⟨b4, o4, none⟩ = some (.int .u8 (kd.toNat : Int)) ∧ wx.cell? ⟨w.heap.size, 0, none⟩ = some (.slice none 0 0) ∧ wx.cell? ⟨w.heap.size, 1, none⟩ = some (.int .u64 0) ∧ wx.cell? ⟨w.heap.size, 2, none⟩ = some (.int .u8 0) ∧ wx.cell? ⟨w.heap.size, 3, none⟩ = some (.slice none 0 0) ∧ wx.frozen? ⟨w.heap.size, 0, none⟩ = false ∧ wx.frozen? ⟨w.heap.size, 1, none⟩ = false ∧ wx.frozen? ⟨w.heap.size, 2, none⟩ = false ∧ wx.frozen? ⟨w.heap.size, 3, none⟩ = false) := Lib.hid (fun wx hb => by
          have hb7 : Below w7.heap.size w7 wx := b79.trans (hb.mono s79)
          obtain ⟨t0, t1, t2, t3, y0, y1, y2, y3⟩ := (Z7.out.below hb7).c4
          exact ⟨(hb7.cell (p := ⟨b4, o4, none⟩) hb4).trans R4C.out, t0, t1, t2, t3, y0, y1, y2, y3⟩)
        have HCL : Hid (∀ wx, Below w9.heap.size w9 wx → Calls Try.prog 85 #[.slice B7 k7 d7] wx (Made wx.heap.size wx (entR xs ah a).val)) := Lib.hid (fun wx hb => Clone_any B7 k7 d7 _ wx (R7V.out.below (b79.trans (hb.mono s79))) hkn7 X7.out.2.1)
        have hB0 : Below w9.heap.size w9 w9.drew := (Below.refl _ _).drew
        have HOK9 := Lib.hid (And.intro oK2 b79)
        clear hq oK b9 b79 oK2 HCC zc0 zc1 zc2 zc3 zf0 zf1 zf2 zf3 c0 c1 c2 f0 f1 f2
        obtain ⟨zc, zc0, zc1, zc2, zc3, zf0, zf1, zf2, zf3⟩ := HS.out w9 (Below.refl _ _)
        go_wp2_with fail
        have HK4 : Hid (∀ (wx : World) (a b c d : Value), wx.cell? ⟨b4, o4, none⟩ = some (.int .u8 (kd.toNat : Int)) → ((((wx.setCell ⟨w.heap.size, 0, none⟩ a).setCell ⟨w.heap.size, 1, none⟩ b).setCell ⟨w.heap.size, 2, none⟩ c).setCell ⟨w.heap.size, 3, none⟩ d).cell? ⟨b4, o4, none⟩ = some (.int .u8 (kd.toNat : Int))) := Lib.hid (fun wx a b c d h => by
          rw [cell_far _ _ _ _ hb4w, cell_far _ _ _ _ hb4w, cell_far _ _ _ _ hb4w, cell_far _ _ _ _ hb4w]
          exact h)
        go_region_held3 (fun wx => wx.cell? ⟨b4, o4, none⟩ = some (.int .u8 (kd.toNat : Int))) (first | with_reducible assumption | with_reducible exact (HS.out _ hB0).1 | with_reducible exact HK4.out _ _ _ _ _ yc)
          (first | (go_at_call 85; with_reducible refine (HCL.out _ (by assumption)).mono ?_; intro e1 wn hq; obtain ⟨V, vn, vc, h1, oV, bn⟩ := Made.outM hq; subst h1; have bn' := belowT' (by assumption : Below w9.heap.size w9 _) bn; have hS1 := HS.out _ bn'; obtain ⟨yc, yc0, yc1, yc2, yc3, yf0, yf1, yf2, yf3⟩ := hS1))
        all_goals
          have hUw : w.heap.size < U.heap.size := by rw [HU.out]; simp
          have hsq : (entR xs ah a).seq = sq := HSQ.out.symm
          obtain ⟨X, hX⟩ : ∃ X, X = (((wn.setCell ⟨w.heap.size, 0, none⟩ (.slice K kn kc)).setCell ⟨w.heap.size, 1, none⟩ (.int .u64 (sq : Int))).setCell ⟨w.heap.size, 2, none⟩ (.int .u8 (kd.toNat : Int))).setCell ⟨w.heap.size, 3, none⟩ (.slice V vn vc) := ⟨_, rfl⟩
          obtain ⟨q1, q2⟩ := e8_ok BU.out hUw G7.out Z7.out rfl R7.out (by omega) HOK9.out.2 HOK9.out.1 rfl bn' oV HOK.out hsq HKD.out hX
          obtain ⟨x0, x1, x2, x3, _⟩ := q1.c4
          have HQ2 := Lib.hid q2
          rw [← hX]
          clear hX q1 q2 hsq zc zc0 zc1 zc2 zc3 zf0 zf1 zf2 zf3 yc yc0 yc1 yc2 yc3 yf0 yf1 yf2 yf3
          go_wp2_with fail
          refine bodyPost_ret (v := .tuple #[.agg #[.slice K kn kc, .int .u64 (sq : Int), .int .u8 (kd.toNat : Int), .slice V vn vc], .bool true]) (by simp [results, Try.results88, go_sem, x0, x1, x2, x3]; try rfl) rfl HQ2.out
end Go.Proofs.Ytgigohfjioifaaa
namespace Go.Proofs.Ytgigohfjioifaaa
open Go Go.RowKit

def szL : List En → Nat
  | [] => 0
  | e :: t => wE e + szL t
theorem szL_app : ∀ a b : List En, szL (a ++ b) = szL a + szL b
  | [], b => by simp [szL]
  | e :: t, b => by rw [List.cons_append, szL, szL, szL_app t b]; omega
def SortL (l : List En) : Prop := l.Pairwise (fun a b => lessE a b = true)
theorem posI_app {p q : List En} {x : En} (h1 : ∀ y ∈ p, lessE x y = false) (h2 : ∀ y ∈ q, lessE x y = true) : ∀ j, j ≤ q.length → posI (p ++ q) x (p.length + j) = p.length
  | 0, _ => by
    rw [Nat.add_zero]
    cases hp : p.length with
    | zero => rfl
    | succ m =>
      have hm : m < p.length := by omega
      have e : (p ++ q)[m]? = some (p[m]'hm) := by rw [List.getElem?_append_left hm, List.getElem?_eq_getElem hm]
      rw [posI, e]
      simp only
      rw [h1 _ (List.getElem_mem hm)]
      rfl
  | j + 1, h => by
    have hj : j < q.length := by omega
    have e : (p ++ q)[p.length + j]? = some (q[j]'hj) := by rw [List.getElem?_append_right (by omega), Nat.add_sub_cancel_left, List.getElem?_eq_getElem hj]
    rw [← Nat.add_assoc, posI, e]
    simp only
    rw [h2 _ (List.getElem_mem hj)]
    exact posI_app h1 h2 j (by omega)
theorem insL_app {p q : List En} {x : En} (h1 : ∀ y ∈ p, lessE x y = false) (h2 : ∀ y ∈ q, lessE x y = true) : insL (p ++ q) x = p ++ x :: q := by
  have h := posI_app h1 h2 q.length (Nat.le_refl _)
  unfold insL
  rw [List.length_append, h]
  simp
/-- What the reference's Get finds. -/
def findL (key : List UInt8) (at_ : Nat) (l : List En) : Option En := l.find? (fun y => eqB y.key key && decide (y.seq ≤ at_))
def inR (xs ys : List UInt8) (e : En) : Bool := decide (0 ≤ cmpB e.key xs) && decide (ys.length = 0 ∨ cmpB e.key ys < 0)
theorem less_key {a b : En} {zs : List UInt8} (h : lessE a b = true) (k : cmpB b.key zs < 0) : cmpB a.key zs < 0 := by
  rcases lessE_iff.1 h with q | ⟨q, _⟩
  · exact cmpB_trans q k
  · rw [q]; exact k
/-- The reference's PutAll, of entries in form. -/
def refIns : List En → List En → Option (List En)
  | l, [] => some l
  | l, x :: xs => if inL l x then none else refIns (insL l x) xs
theorem insL_len (l : List En) (x : En) : (insL l x).length = l.length + 1 := by
  have := posI_le l x l.length
  unfold insL
  rw [List.length_append, List.length_cons, List.length_take, List.length_drop]
  omega
theorem split_of {x : En} : ∀ {o : List En}, SortL o → inL o x = false → ∃ p q, o = p ++ q ∧ (∀ y ∈ p, lessE y x = true) ∧ (∀ y ∈ q, lessE x y = true)
  | [], _, _ => ⟨[], [], rfl, (fun y hy => by cases hy), fun y hy => by cases hy⟩
  | a :: t, hs, hin => by
    obtain ⟨h1, h2⟩ := List.pairwise_cons.1 hs
    unfold inL at hin
    rw [List.any_cons, Bool.or_eq_false_iff] at hin
    rcases lessE_tri a x with h | h | h
    · obtain ⟨p, q, e, k1, k2⟩ := split_of h2 hin.2
      refine ⟨a :: p, q, by rw [e]; rfl, fun y hy => ?_, k2⟩
      rcases List.mem_cons.1 hy with rfl | hy
      · exact h
      · exact k1 y hy
    · refine ⟨[], a :: t, rfl, (fun y hy => by cases hy), fun y hy => ?_⟩
      rcases List.mem_cons.1 hy with rfl | hy
      · exact h
      · exact lessE_trans h (h1 y hy)
    · rw [h] at hin
      cases hin.1
theorem insL_sort {o : List En} {x : En} (hs : SortL o) (hin : inL o x = false) : SortL (insL o x) := by
  obtain ⟨p, q, e, h1, h2⟩ := split_of hs hin
  subst e
  rw [insL_app (fun y hy => lessE_asym (h1 y hy)) h2]
  obtain ⟨s1, s2, s3⟩ := List.pairwise_append.1 hs
  exact List.pairwise_append.2 ⟨s1, List.pairwise_cons.2 ⟨h2, s2⟩, fun a ha b hb => by
    rcases List.mem_cons.1 hb with rfl | hb
    · exact h1 a ha
    · exact s3 a ha b hb⟩
/-- Entries in order go in behind one another. -/
theorem refIns_sort : ∀ {q p : List En}, SortL (p ++ q) → refIns p q = some (p ++ q)
  | [], p, _ => by rw [List.append_nil]; rfl
  | x :: xs, p, hs => by
    have h1 : ∀ y ∈ p, lessE y x = true := fun y hy => (List.pairwise_append.1 hs).2.2 y hy x (by simp)
    have h2 : inL p x = false := by
      unfold inL
      rw [List.any_eq_false]
      intro y hy k
      have := (sameK_not k).1
      rw [h1 y hy] at this
      cases this
    have h3 : insL p x = p ++ [x] := by
      have := insL_app (p := p) (q := []) (x := x) (fun y hy => lessE_asym (h1 y hy)) (fun y hy => by cases hy)
      simpa using this
    rw [refIns, h2, if_neg (by simp), h3]
    have e : p ++ x :: xs = (p ++ [x]) ++ xs := by simp
    rw [e] at hs ⊢
    exact refIns_sort hs
/-- In form, and not too long. -/
def okE (x : En) : Bool := decide (checkE [x] = 0)
theorem okE_iff {x : En} : okE x = true ↔ longE x = false ∧ formE x = true := by
  unfold okE checkE
  rw [decide_eq_true_eq]
  simp only [List.any_cons, List.any_nil, Bool.or_false, List.all_cons, List.all_nil, Bool.and_true]
  cases longE x <;> cases formE x <;> simp
theorem checkE_ok {es : List En} (h : ∀ x ∈ es, okE x = true) : checkE es = 0 := by
  unfold checkE
  rw [if_neg, if_pos]
  · rw [List.all_eq_true]
    exact fun x hx => (okE_iff.1 (h x hx)).2
  · rw [List.any_eq_true]
    rintro ⟨x, hx, k⟩
    rw [(okE_iff.1 (h x hx)).1] at k
    cases k
/-- The reference's Sorted. -/
def srt : List En → List En → List En
  | o, [] => o
  | o, x :: xs => if okE x && !inL o x then srt (insL o x) xs else srt o xs
theorem srt_snoc : ∀ (o xs : List En) (x : En), srt o (xs ++ [x]) = if okE x && !inL (srt o xs) x then insL (srt o xs) x else srt o xs
  | o, [], x => by simp [srt]
  | o, y :: ys, x => by
    simp only [List.cons_append, srt]
    split
    · exact srt_snoc _ ys x
    · exact srt_snoc _ ys x
theorem srt_prop : ∀ {xs o : List En}, SortL o → (∀ x ∈ o, okE x = true) → SortL (srt o xs) ∧ (∀ x ∈ srt o xs, okE x = true)
  | [], o, h1, h2 => ⟨h1, h2⟩
  | x :: xs, o, h1, h2 => by
    unfold srt
    split
    · next h =>
      rw [Bool.and_eq_true, Bool.not_eq_true'] at h
      exact srt_prop (insL_sort h1 h.2) (fun y hy => by
        rcases insL_mem' hy with rfl | hy
        · exact h.1
        · exact h2 y hy)
    · exact srt_prop h1 h2
where
  insL_mem' {l : List En} {x y : En} (h : y ∈ insL l x) : y = x ∨ y ∈ l := by
    unfold insL at h
    rcases List.mem_append.1 h with h | h
    · exact .inr (List.mem_of_mem_take h)
    · rcases List.mem_cons.1 h with h | h
      · exact .inl h
      · exact .inr (List.mem_of_mem_drop h)
theorem szL_insL (l : List En) (x : En) : szL (insL l x) = szL l + wE x := by
  unfold insL
  have := szL_app (l.take (posI l x l.length)) (l.drop (posI l x l.length))
  rw [List.take_append_drop] at this
  rw [szL_app, szL]
  omega
theorem srt_len : ∀ (xs o : List En), (srt o xs).length ≤ o.length + xs.length ∧ szL (srt o xs) ≤ szL o + szL xs
  | [], o => ⟨by simp [srt], by simp [srt, szL]⟩
  | x :: xs, o => by
    unfold srt
    split
    · have := srt_len xs (insL o x)
      rw [insL_len, szL_insL] at this
      simp only [List.length_cons, szL]
      omega
    · have := srt_len xs o
      simp only [List.length_cons, szL]
      omega
theorem srt_mem : ∀ {xs o : List En}, ∀ x ∈ srt o xs, x ∈ o ∨ x ∈ xs
  | [], o, x, h => .inl h
  | y :: ys, o, x, h => by
    unfold srt at h
    split at h
    · rcases srt_mem x h with q | q
      · rcases srt_prop.insL_mem' q with q | q
        · exact .inr (by simp [q])
        · exact .inl q
      · exact .inr (by simp [q])
    · rcases srt_mem x h with q | q
      · exact .inl q
      · exact .inr (by simp [q])
end Go.Proofs.Ytgigohfjioifaaa
namespace Go.Proofs.Ytgigohfjioifaaa
open Go Go.RowKit

/-- The tree with x besides; none: it is there. -/
def withT (x : En) : Tr → Option Tr
  | .nil => some (.node .nil x .nil)
  | .node l e r => if lessE x e then (withT x l).map (fun t => balT t e r) else if lessE e x then (withT x r).map (fun t => balT l e t) else none
theorem withT_num {x : En} : ∀ {t t' : Tr}, withT x t = some t' → t'.num = t.num + 1
  | .nil, t', h => by
    unfold withT at h
    injection h with h
    rw [← h]; rfl
  | .node l e r, t', h => by
    unfold withT at h
    split at h
    · cases hw : withT x l with
      | none => rw [hw] at h; cases h
      | some l' =>
        rw [hw] at h
        injection h with h
        have := withT_num hw
        rw [← h]
        simp only [balT_num, Tr.num]
        omega
    · split at h
      · cases hw : withT x r with
        | none => rw [hw] at h; cases h
        | some r' =>
          rw [hw] at h
          injection h with h
          have := withT_num hw
          rw [← h]
          simp only [balT_num, Tr.num]
          omega
      · cases h
def RetWith (G : Nat → Prop) (w : World) (o : Option Tr) (e : Ending) (w' : World) : Prop :=
  (∃ t A, o = some t ∧ e = .returned (.tuple #[.pointer A, .bool false]) ∧ TrAt G w' t A ∧ Below w.heap.size w w') ∨ (o = none ∧ e = .returned (.tuple #[.pointer none, .bool true]) ∧ Below w.heap.size w w')
theorem RetWith.out {G : Nat → Prop} {w : World} {o : Option Tr} {e : Ending} {w' : World} (h : RetWith G w o e w') : (∃ t A, o = some t ∧ e = .returned (.tuple #[.pointer A, .bool false]) ∧ TrAt G w' t A ∧ Below w.heap.size w w') ∨ (o = none ∧ e = .returned (.tuple #[.pointer none, .bool true]) ∧ Below w.heap.size w w') := h
theorem RetT.out {w : World} {b : Bool} {e : Ending} {w' : World} (h : RetT w b e w') : e = .returned (.bool b) ∧ Below w.heap.size w w' := h
set_option maxRecDepth 100000 in
set_option maxHeartbeats 8000000 in
theorem with_any {G : Nat → Prop} (x : En) (px : Nat) : ∀ (t : Tr) (A : Option Addr) (w : World), TrAt G w t A → EB G w x px → t.num + 1 ≤ 1099511627776 →
    Calls Try.prog 76 #[.pointer A, .pointer (some ⟨px, 0, none⟩)] w (RetWith G w (withT x t)) := by
  intro t
  induction t with
  | nil =>
    intro A w h hx hn
    have hA : A = none := h
    subst hA
    have HJ : Hid (Calls Try.prog 103 #[.pointer none, .pointer (some ⟨px, 0, none⟩), .pointer none] w (RetTr G w (.node .nil x .nil))) := Lib.hid (join_any (l := .nil) (r := .nil) rfl rfl hx ⟨by simp [Tr.num], by simp [Tr.num]⟩)
    clear h hx
    go_enter Try.func76, Try.ntmps76
    go_wp2_with fail
    refine HJ.out.mono ?_
    intro e w1 hq
    obtain ⟨A1, h1, t1, b1⟩ := RetTr.out hq
    subst h1
    have T1 := Lib.hid t1
    have B1 := Lib.hid b1
    clear t1 b1 hq HJ
    go_wp2
    go_ret2
    exact .inl ⟨_, A1, rfl, rfl, T1.out, B1.out⟩
  | node l e r ihl ihr =>
    intro A w h hx hn
    obtain ⟨b, rfl⟩ := h.ptr
    obtain ⟨pe, pl, pr, n0, n1, n2, nlt, he, hl, hr⟩ := h.cells
    obtain ⟨x0, x1, x2, x3, cx, ex⟩ := hx
    obtain ⟨z0, z1, z2, z3, cz, ez⟩ := he
    have hnum : l.num + 1 + r.num + 1 ≤ 1099511627776 := hn
    have HSX : Hid (∀ wx, Below w.heap.size w wx → wx.cell? ⟨b, 0, none⟩ = some (.pointer (some ⟨pe, 0, none⟩)) ∧ wx.cell? ⟨b, 1, none⟩ = some (.pointer pl) ∧ wx.cell? ⟨b, 2, none⟩ = some (.pointer pr) ∧ wx.cell? ⟨px, 0, none⟩ = some x0 ∧ wx.cell? ⟨px, 1, none⟩ = some x1 ∧ wx.cell? ⟨px, 2, none⟩ = some x2 ∧ wx.cell? ⟨px, 3, none⟩ = some x3 ∧ wx.cell? ⟨pe, 0, none⟩ = some z0 ∧ wx.cell? ⟨pe, 1, none⟩ = some z1 ∧ wx.cell? ⟨pe, 2, none⟩ = some z2 ∧ wx.cell? ⟨pe, 3, none⟩ = some z3) := Lib.hid (fun wx h => by
      obtain ⟨c0, c1, c2, c3, _⟩ := (cx.below h).c4
      obtain ⟨d0, d1, d2, d3, _⟩ := (cz.below h).c4
      exact ⟨(h.cell (p := ⟨b, 0, none⟩) nlt).trans n0, (h.cell (p := ⟨b, 1, none⟩) nlt).trans n1, (h.cell (p := ⟨b, 2, none⟩) nlt).trans n2, c0, c1, c2, c3, d0, d1, d2, d3⟩)
    have HL1 : Hid (∀ wx, Below w.heap.size w wx → Calls Try.prog 55 #[.agg #[x0, x1, x2, x3], .agg #[z0, z1, z2, z3]] wx (RetT wx (lessE x e))) := Lib.hid (fun wx h => memLess_any (ex.1.ev.below h) (ez.1.ev.below h))
    have HL2 : Hid (∀ wx, Below w.heap.size w wx → Calls Try.prog 55 #[.agg #[z0, z1, z2, z3], .agg #[x0, x1, x2, x3]] wx (RetT wx (lessE e x))) := Lib.hid (fun wx h => memLess_any (ez.1.ev.below h) (ex.1.ev.below h))
    have HX : Hid (∀ wx, Below w.heap.size w wx → EB G wx x px) := Lib.hid (fun wx h => ⟨x0, x1, x2, x3, cx.below h, ex.below h⟩)
    have HE : Hid (∀ wx, Below w.heap.size w wx → EB G wx e pe) := Lib.hid (fun wx h => ⟨z0, z1, z2, z3, cz.below h, ez.below h⟩)
    have HWL : Hid (∀ wx, Below w.heap.size w wx → Calls Try.prog 76 #[.pointer pl, .pointer (some ⟨px, 0, none⟩)] wx (RetWith G wx (withT x l))) := Lib.hid (fun wx h => ihl pl wx (hl.below h) (HX.out wx h) (by omega))
    have HWR : Hid (∀ wx, Below w.heap.size w wx → Calls Try.prog 76 #[.pointer pr, .pointer (some ⟨px, 0, none⟩)] wx (RetWith G wx (withT x r))) := Lib.hid (fun wx h => ihr pr wx (hr.below h) (HX.out wx h) (by omega))
    have HTL := Lib.hid hl
    have HTR := Lib.hid hr
    clear ihl ihr h cx ex cz ez hl hr n0 n1 n2
    obtain ⟨LE, hLE⟩ : ∃ LE, LE = lessE x e := ⟨_, rfl⟩
    obtain ⟨GE, hGE⟩ : ∃ GE, GE = lessE e x := ⟨_, rfl⟩
    rw [← hLE] at HL1
    rw [← hGE] at HL2
    have HW : Hid (withT x (.node l e r) = if LE = true then (withT x l).map (fun t => balT t e r) else if GE = true then (withT x r).map (fun t => balT l e t) else none) := Lib.hid (by rw [hLE, hGE]; rfl)
    clear hLE hGE
    have hB0 : Below w.heap.size w w.drew := (Below.refl _ _).drew
    go_enter Try.func76, Try.ntmps76
    go_upto_region 3 with (fail)
    go_cut [14] (fun s14 wx => s14 = .bool LE ∧ Below w.heap.size w wx)
    case first =>
      go_region_held3 (fun wx => wx.cell? ⟨b, 0, none⟩ = some (.pointer (some ⟨pe, 0, none⟩)) ∧ wx.cell? ⟨b, 1, none⟩ = some (.pointer pl) ∧ wx.cell? ⟨b, 2, none⟩ = some (.pointer pr) ∧ wx.cell? ⟨px, 0, none⟩ = some x0 ∧ wx.cell? ⟨px, 1, none⟩ = some x1 ∧ wx.cell? ⟨px, 2, none⟩ = some x2 ∧ wx.cell? ⟨px, 3, none⟩ = some x3 ∧ wx.cell? ⟨pe, 0, none⟩ = some z0 ∧ wx.cell? ⟨pe, 1, none⟩ = some z1 ∧ wx.cell? ⟨pe, 2, none⟩ = some z2 ∧ wx.cell? ⟨pe, 3, none⟩ = some z3) (first | assumption | exact HSX.out _ hB0)
        (first | (go_at_call 55; with_reducible refine (HL1.out _ hB0).mono ?_; intro e1 w5 hq; obtain ⟨h1, b5⟩ := RetT.out hq; subst h1; have b5' := belowT hB0 b5; have hS5 := HSX.out _ b5'))
      all_goals
        have HB5 := Lib.hid b5'
        clear hS5 b5 b5'
        go_wp2_with fail
        go_meet
        exact ⟨rfl, HB5.out⟩
    case rest =>
      obtain ⟨rfl, hbc⟩ := hcut
      obtain ⟨n0, n1, n2, c0, c1, c2, c3, d0, d1, d2, d3⟩ := HSX.out _ hbc
      have BC := Lib.hid hbc
      clear hbc
      cases LE with
      | true =>
        clear c0 c1 c2 c3 d0 d1 d2 d3
        go_wp2_with fail
        with_reducible refine (HWL.out _ BC.out).mono ?_
        intro e1 w6 hq
        rcases RetWith.out hq with ⟨t', A6, ho, h1, t6, b6⟩ | ⟨ho, h1, b6⟩
        · subst h1
          have hnt := withT_num ho
          have HOO := Lib.hid ho
          have B6 := Lib.hid (belowT BC.out b6)
          have T6 := Lib.hid t6
          have hB6 : Below w6.heap.size w6 w6.drew := (Below.refl _ _).drew
          have HB : Hid (∀ wx, Below w6.heap.size w6 wx → Calls Try.prog 104 #[.pointer A6, .pointer (some ⟨pe, 0, none⟩), .pointer pr] wx (RetTr G wx (balT t' e r))) := Lib.hid (fun wx h => balance_any (T6.out.below h) (HTR.out.below (belowT B6.out h)) (HE.out wx (belowT B6.out h)) (by omega))
          clear n0 n1 n2 hq ho t6 b6
          go_upto_region 7 with (fail)
          go_region_held3 (fun wx => wx.cell? ⟨b, 0, none⟩ = some (.pointer (some ⟨pe, 0, none⟩)) ∧ wx.cell? ⟨b, 1, none⟩ = some (.pointer pl) ∧ wx.cell? ⟨b, 2, none⟩ = some (.pointer pr) ∧ wx.cell? ⟨px, 0, none⟩ = some x0 ∧ wx.cell? ⟨px, 1, none⟩ = some x1 ∧ wx.cell? ⟨px, 2, none⟩ = some x2 ∧ wx.cell? ⟨px, 3, none⟩ = some x3 ∧ wx.cell? ⟨pe, 0, none⟩ = some z0 ∧ wx.cell? ⟨pe, 1, none⟩ = some z1 ∧ wx.cell? ⟨pe, 2, none⟩ = some z2 ∧ wx.cell? ⟨pe, 3, none⟩ = some z3) (first | assumption | exact HSX.out _ B6.out.drew)
            (first | (go_at_call 104; with_reducible refine (HB.out _ hB6).mono ?_; intro e1 w8 hq; obtain ⟨A8, h18, t8, b8⟩ := RetTr.out hq; subst h18; have b8' := belowT hB6 b8; have hS8 := HSX.out _ (belowT B6.out b8')))
          all_goals
            have T8 := Lib.hid t8
            have B8 := Lib.hid (belowT B6.out b8')
            clear hS8 t8 b8 b8'
            go_wp2_with fail
            go_ret2
            exact .inl ⟨_, A8, by rw [HW.out]; simp [HOO.out], rfl, T8.out, B8.out⟩
        · subst h1
          have HOO := Lib.hid ho
          have B6 := Lib.hid (belowT BC.out b6)
          clear hq ho b6
          go_wp2_with fail
          go_ret2
          exact .inr ⟨by rw [HW.out]; simp [HOO.out], rfl, B6.out⟩
      | false =>
        have hBD : Below w.heap.size w wc.drew := BC.out.drew
        clear n0 n1 n2 c0 c1 c2 c3 d0 d1 d2 d3
        go_upto_region 8 with (fail)
        go_cut [45] (fun s45 wx => s45 = .bool GE ∧ Below w.heap.size w wx)
        case first =>
          go_region_held3 (fun wx => wx.cell? ⟨b, 0, none⟩ = some (.pointer (some ⟨pe, 0, none⟩)) ∧ wx.cell? ⟨b, 1, none⟩ = some (.pointer pl) ∧ wx.cell? ⟨b, 2, none⟩ = some (.pointer pr) ∧ wx.cell? ⟨px, 0, none⟩ = some x0 ∧ wx.cell? ⟨px, 1, none⟩ = some x1 ∧ wx.cell? ⟨px, 2, none⟩ = some x2 ∧ wx.cell? ⟨px, 3, none⟩ = some x3 ∧ wx.cell? ⟨pe, 0, none⟩ = some z0 ∧ wx.cell? ⟨pe, 1, none⟩ = some z1 ∧ wx.cell? ⟨pe, 2, none⟩ = some z2 ∧ wx.cell? ⟨pe, 3, none⟩ = some z3) (first | assumption | exact HSX.out _ hBD)
            (first | (go_at_call 55; with_reducible refine (HL2.out _ hBD).mono ?_; intro e1 w5 hq; obtain ⟨h1, b5⟩ := RetT.out hq; subst h1; have b5' := belowT hBD b5; have hS5 := HSX.out _ b5'))
          all_goals
            have HB5 := Lib.hid b5'
            clear hS5 b5 b5'
            go_wp2_with fail
            go_meet
            exact ⟨rfl, HB5.out⟩
        case rest =>
          obtain ⟨rfl, hbd⟩ := hcut
          have BC := Lib.hid hbd
          obtain ⟨n0, n1, n2, c0, c1, c2, c3, d0, d1, d2, d3⟩ := HSX.out _ hbd
          clear hbd hBD
          cases GE with
          | true =>
            clear c0 c1 c2 c3 d0 d1 d2 d3
            go_wp2_with fail
            with_reducible refine (HWR.out _ BC.out).mono ?_
            intro e1 w6 hq
            rcases RetWith.out hq with ⟨t', A6, ho, h1, t6, b6⟩ | ⟨ho, h1, b6⟩
            · subst h1
              have hnt := withT_num ho
              have HOO := Lib.hid ho
              have B6 := Lib.hid (belowT BC.out b6)
              have T6 := Lib.hid t6
              have hB6 : Below w6.heap.size w6 w6.drew := (Below.refl _ _).drew
              have HB : Hid (∀ wx, Below w6.heap.size w6 wx → Calls Try.prog 104 #[.pointer pl, .pointer (some ⟨pe, 0, none⟩), .pointer A6] wx (RetTr G wx (balT l e t'))) := Lib.hid (fun wx h => balance_any (HTL.out.below (belowT B6.out h)) (T6.out.below h) (HE.out wx (belowT B6.out h)) (by omega))
              clear n0 n1 n2 hq ho t6 b6
              go_upto_region 12 with (fail)
              go_region_held3 (fun wx => wx.cell? ⟨b, 0, none⟩ = some (.pointer (some ⟨pe, 0, none⟩)) ∧ wx.cell? ⟨b, 1, none⟩ = some (.pointer pl) ∧ wx.cell? ⟨b, 2, none⟩ = some (.pointer pr) ∧ wx.cell? ⟨px, 0, none⟩ = some x0 ∧ wx.cell? ⟨px, 1, none⟩ = some x1 ∧ wx.cell? ⟨px, 2, none⟩ = some x2 ∧ wx.cell? ⟨px, 3, none⟩ = some x3 ∧ wx.cell? ⟨pe, 0, none⟩ = some z0 ∧ wx.cell? ⟨pe, 1, none⟩ = some z1 ∧ wx.cell? ⟨pe, 2, none⟩ = some z2 ∧ wx.cell? ⟨pe, 3, none⟩ = some z3) (first | assumption | exact HSX.out _ B6.out.drew)
                (first | (go_at_call 104; with_reducible refine (HB.out _ hB6).mono ?_; intro e1 w8 hq; obtain ⟨A8, h18, t8, b8⟩ := RetTr.out hq; subst h18; have b8' := belowT hB6 b8; have hS8 := HSX.out _ (belowT B6.out b8')))
              all_goals
                have T8 := Lib.hid t8
                have B8 := Lib.hid (belowT B6.out b8')
                clear hS8 t8 b8 b8'
                go_wp2_with fail
                go_ret2
                exact .inl ⟨_, A8, by rw [HW.out]; simp [HOO.out], rfl, T8.out, B8.out⟩
            · subst h1
              have HOO := Lib.hid ho
              have B6 := Lib.hid (belowT BC.out b6)
              clear hq ho b6
              go_wp2_with fail
              go_ret2
              exact .inr ⟨by rw [HW.out]; simp [HOO.out], rfl, B6.out⟩
          | false =>
            go_wp2
            go_ret2
            exact .inr ⟨by rw [HW.out]; rfl, rfl, BC.out⟩
end Go.Proofs.Ytgigohfjioifaaa
namespace Go.Proofs.Ytgigohfjioifaaa
open Go Go.RowKit

/-- How many bytes of the i-th key are left out. -/
def shB (ev : Nat) (es : List En) (i : Nat) : Nat := if i % ev = 0 then 0 else match es[i - 1]?, es[i]? with
  | some a, some b => comB a.key b.key
  | _, _ => 0
/-- The bytes of the first i entries; the places of the restarts among them. -/
def outB (ev : Nat) (es : List En) : Nat → List UInt8
  | 0 => []
  | i + 1 => match es[i]? with
    | some x => outB ev es i ++ entB (shB ev es i) x
    | none => outB ev es i
def rsB (ev : Nat) (es : List En) : Nat → List UInt8
  | 0 => []
  | i + 1 => if i % ev = 0 then rsB ev es i ++ fourB (outB ev es i).length else rsB ev es i
def fullB (ev : Nat) (es : List En) : List UInt8 := outB ev es es.length ++ rsB ev es es.length ++ fourB ((rsB ev es es.length).length / 4)
theorem outB_step {ev i : Nat} {es : List En} {x : En} (h : es[i]? = some x) : outB ev es (i + 1) = outB ev es i ++ entB (shB ev es i) x := by rw [outB, h]
theorem rsB_len (ev : Nat) (es : List En) : ∀ i, (rsB ev es i).length ≤ 4 * i
  | 0 => by simp [rsB]
  | i + 1 => by
    have := rsB_len ev es i
    unfold rsB
    split
    · simp only [List.length_append, fourB_len]; omega
    · omega
theorem outB_mono (ev : Nat) (es : List En) (i : Nat) : ∀ j, i ≤ j → (outB ev es i).length ≤ (outB ev es j).length := by
  intro j
  induction j with
  | zero =>
    intro h
    obtain rfl : i = 0 := by omega
    exact Nat.le_refl _
  | succ j ih =>
    intro h
    by_cases e : i = j + 1
    · rw [e]; exact Nat.le_refl _
    · have h1 := ih (by omega)
      refine Nat.le_trans h1 ?_
      conv => rhs; unfold outB
      split
      · rw [List.length_append]; omega
      · exact Nat.le_refl _
theorem shB_le {ev i : Nat} {es : List En} {x : En} (h : es[i]? = some x) : shB ev es i ≤ x.key.length := by
  unfold shB
  rw [h]
  split
  · omega
  · split
    · rename_i a b h1 h2
      injection h2 with h2
      subst h2
      exact (comB_le _ _).2
    · omega
theorem entB_len {s : Nat} {x : En} (h0 : s ≤ x.key.length) (h1 : x.key.length ≤ 1024) (h2 : x.val.length ≤ 65536) (h3 : U64 x.seq) : (entB s x).length ≤ 66700 := by
  have p1 := putU_len64 s (show s < B64 by unfold B64; omega)
  have p2 := putU_len64 (x.key.length - s) (show x.key.length - s < B64 by unfold B64; omega)
  have p3 := putU_len64 x.seq (show x.seq < B64 from h3)
  have p5 := putU_len64 x.val.length (show x.val.length < B64 by unfold B64; omega)
  unfold entB
  simp only [List.length_append, List.length_cons, List.length_nil, List.length_drop]
  omega
theorem dj_none (B : Option Addr) : Dj none B := fun b h => by cases h
/-- The two rows that are made: the entries' bytes, the restarts' places. -/
def CS (w0 : World) (O : Option Addr) (oc : Nat) (out : List UInt8) (R : Option Addr) (rc : Nat) (rs : List UInt8) (wr : World) : Prop :=
  Own 5 wr w0.heap.size O out.length oc out ∧ Own 5 wr w0.heap.size R rs.length rc rs ∧ Dj O R ∧ Below w0.heap.size w0 wr
theorem CS.below {w0 wr wx : World} {O R : Option Addr} {oc rc : Nat} {out rs : List UInt8} (h : CS w0 O oc out R rc rs wr) (hb : Below wr.heap.size wr wx) : CS w0 O oc out R rc rs wx := by
  obtain ⟨h1, h2, h3, h4⟩ := h
  exact ⟨h1.below hb, h2.below hb, h3, h4.trans (hb.mono h4.size)⟩
theorem CS.left {w0 wr wx : World} {O R O' : Option Addr} {oc rc oc' : Nat} {out out' rs : List UInt8} (h : CS w0 O oc out R rc rs wr) (ho : Own 5 wx w0.heap.size O' out'.length oc' out') (hg : Grow wr wx O O') : CS w0 O' oc' out' R rc rs wx := by
  obtain ⟨h1, h2, h3, h4⟩ := h
  exact ⟨ho, hg.kept h2 h3, hg.dj h2 h3, h4.trans (hg.below h1 h4.size)⟩
theorem CS.right {w0 wr wx : World} {O R R' : Option Addr} {oc rc rc' : Nat} {out rs rs' : List UInt8} (h : CS w0 O oc out R rc rs wr) (ho : Own 5 wx w0.heap.size R' rs'.length rc' rs') (hg : Grow wr wx R R') : CS w0 O oc out R' rc' rs' wx := by
  obtain ⟨h1, h2, h3, h4⟩ := h
  exact ⟨hg.kept h1 h3.symm, ho, (hg.dj h1 h3.symm).symm, h4.trans (hg.below h2 h4.size)⟩
theorem ClG.off {w0 w w' : World} {g n c : Nat} {us : Array Value} {A A' : Option Addr} {xs : List UInt8} (h : Cl w g us 33) (ho : Own 5 w w0.heap.size A n c xs) (hne : 33 ≠ 5) (hg : Grow w w' A A') : Cl w' g us 33 :=
  ClG.grown h hg.1 (fun e2 => by
    rcases ho.2 with ⟨k1, _⟩ | ⟨g2, cap2, cur2, k1, _, kg, _⟩
    · injection k1 with k1
      rw [k1] at e2
      cases e2
    · injection k1 with k1
      rw [k1] at e2
      injection e2 with e2
      simp only at e2
      subst e2
      rw [h] at kg
      injection kg with kg
      injection kg with _ kg _
      exact hne kg)
/-- What contents hands back: all that is sealed, or more than a record may have. -/
def RetCt (ev : Nat) (es : List En) (w : World) (e : Ending) (w' : World) : Prop :=
  ∃ A c ys, e = .returned (.slice A ys.length c) ∧ Own 5 w' w.heap.size A ys.length c ys ∧ Below w.heap.size w w' ∧ ys.length ≤ 100000000 ∧ ((1048576 < ys.length ∧ ys.length ≤ (fullB ev es).length) ∨ ys = fullB ev es)
set_option maxRecDepth 100000 in
set_option maxHeartbeats 16000000 in
theorem contents_any {w : World} {A : Option Addr} {n c : Nat} {es : List En} (h : REs w A n es) (hn : n ≤ 16777216) (hs : ∀ x ∈ es, x.key.length ≤ 1024 ∧ x.val.length ≤ 65536) (ev : Nat) (he : 1 ≤ ev) (he2 : ev ≤ 9223372036854775807) :
    Calls Try.prog 78 #[.int .i64 (ev : Int), .slice A n c] w (RetCt ev es w) := by
  have HL := Lib.hid h.len
  have HR := Lib.hid h
  have HS := Lib.hid hs
  have HW := Lib.hid h.wf
  clear h hs
  go_enter Try.func78, Try.ntmps78
  go_wp2_with fail
  go_loopw [5, 6, 12] (fun s5 s6 s12 wr => ∃ (i on rn : Nat) (O R : Option Addr) (oc rc : Nat), i ≤ n ∧ s12 = .int .i64 (i : Int) ∧ on = (outB ev es i).length ∧ rn = (rsB ev es i).length ∧ s5 = .slice O on oc ∧ s6 = .slice R rn rc ∧ on ≤ 1048576 ∧ CS w O oc (outB ev es i) R rc (rsB ev es i) wr) (fun _ _ s _ => n - (intOf s).toNat)
  case atStart => exact ⟨0, 0, 0, none, none, 0, 0, Nat.zero_le _, rfl, rfl, rfl, rfl, rfl, by omega, Own.nil _ _ _, Own.nil _ _ _, dj_none _, Below.refl _ _⟩
  case round =>
    obtain ⟨i, on, rn, O, R, oc, rc, hi, rfl, hon, hrn, rfl, rfl, hol, hC⟩ := hrel
    have hrl := rsB_len ev es i
    have hrn4 : rn ≤ 4 * i := by omega
    have HON := Lib.hid hon
    have HRN := Lib.hid hrn
    have HC := Lib.hid hC
    have hbC := hC.2.2.2
    clear hon hrn hC hrl
    by_cases hlt : i < n
    · obtain ⟨b, off, hAb, hbl⟩ := HR.out.pos (by omega)
      subst hAb
      obtain ⟨x, v0, v1, v2, v3, hx, c0', c1', c2', c3', hev⟩ := HR.out.at_ i hlt
      have c0 := (hbC.cell (p := ⟨b, off + i * 4, none⟩) hbl).trans c0'
      have c1 := (hbC.cell (p := ⟨b, off + i * 4 + 1, none⟩) hbl).trans c1'
      have c2 := (hbC.cell (p := ⟨b, off + i * 4 + 2, none⟩) hbl).trans c2'
      have c3 := (hbC.cell (p := ⟨b, off + i * 4 + 3, none⟩) hbl).trans c3'
      have HXI := Lib.hid hx
      have HXS := Lib.hid (HS.out x (List.mem_of_getElem? hx))
      have HXW := Lib.hid (HW.out x (List.mem_of_getElem? hx)).1
      have HEV := Lib.hid hev
      obtain ⟨K, kn, kc, V, vn, vc, rfl, rfl, rfl, rfl, r0, r3, _⟩ := hev.parts
      have HR0 := Lib.hid r0
      obtain ⟨m, hm⟩ : ∃ m, m = i % ev := ⟨_, rfl⟩
      have e1 : ((i : Int) % (ev : Int)) = (m : Int) := by rw [hm]; push_cast; rfl
      have hml : m < 9223372036854775807 := by have := Nat.mod_lt i (show 0 < ev by omega); omega
      have HM := Lib.hid hm
      obtain ⟨sh, hsh⟩ : ∃ sh, sh = shB ev es i := ⟨_, rfl⟩
      have HSH := Lib.hid hsh
      obtain ⟨U, hU⟩ : ∃ U, U = wr.alloc (.cells #[.slice K kn kc, .int .u64 (x.seq : Int), .int .u8 (x.kind : Int), .slice V vn vc] 33) := ⟨_, rfl⟩
      obtain ⟨g, hg⟩ : ∃ g, g = wr.heap.size := ⟨_, rfl⟩
      have bU : Below wr.heap.size wr U := by rw [hU]; exact (Below.refl _ _).alloc (Nat.le_refl _) _
      have HCU := Lib.hid (HC.out.below bU)
      have kU : Cl U g #[.slice K kn kc, .int .u64 (x.seq : Int), .int .u8 (x.kind : Int), .slice V vn vc] 33 := by rw [hU, hg]; exact Cl.new _ _ _
      have HKU := Lib.hid kU
      have hwU : w.heap.size ≤ U.heap.size := HCU.out.2.2.2.size
      clear hx hev r0 r3 hm hsh bU kU c0' c1' c2' c3'
      go_upto_if 20 with (fail)
      rw [← hU, ← hg]
      have HU := Lib.hid hU
      have HG := Lib.hid hg
      clear hU hg
      obtain ⟨rs2, hrs2⟩ : ∃ rs2, rs2 = rsB ev es (i + 1) := ⟨_, rfl⟩
      obtain ⟨rn2, hrn2⟩ : ∃ rn2, rn2 = rs2.length := ⟨_, rfl⟩
      have HRS2 := Lib.hid hrs2
      have HRN2 := Lib.hid hrn2
      clear hrs2 hrn2
      go_cut [6, 9] from 17 to 34 (fun s6 s9 wx => ∃ (R' : Option Addr) (rc' : Nat), s6 = .slice R' rn2 rc' ∧ s9 = .int .i64 (sh : Int) ∧ CS w O oc (outB ev es i) R' rc' rs2 wx ∧ Cl wx g #[.slice K kn kc, .int .u64 (x.seq : Int), .int .u8 (x.kind : Int), .slice V vn vc] 33)
      case first =>
        by_cases hm0 : m = 0
        · subst hm0
          have hrs : rs2 = rsB ev es i ++ fourB on := by rw [HRS2.out, rsB, if_pos HM.out.symm, ← HON.out]
          have hsh0 : sh = 0 := by rw [HSH.out, shB, if_pos HM.out.symm]
          subst hsh0
          have hR' := HCU.out.2.1
          rw [← HRN.out] at hR'
          have HAW := Lib.hid (appendWord_any R rn rc (rsB ev es i) w.heap.size on U hR' hwU (by omega) (by omega))
          have HRS := Lib.hid hrs
          clear hrs hR'
          go_wp2_with fail
          with_reducible refine HAW.out.mono ?_
          rintro e wx ⟨R', rc', rfl, oR, gR⟩
          have hln : rn + (fourB on).length = rn2 := by rw [HRN2.out, HRS.out, List.length_append, ← HRN.out]
          rw [hln] at oR ⊢
          rw [← HRS.out] at oR
          have hcs : CS w O oc (outB ev es i) R' rc' rs2 wx := HCU.out.right (by rw [← HRN2.out]; exact oR) gR
          have hkx : Cl wx g #[.slice K kn kc, .int .u64 (x.seq : Int), .int .u8 (x.kind : Int), .slice V vn vc] 33 := ClG.off HKU.out HCU.out.2.1 (by decide) gR
          have HF := Lib.hid (And.intro hcs hkx)
          clear oR gR hcs hkx hln
          go_wp2_with fail
          go_meet
          case rel => exact ⟨R', rc', by first | rfl | simp, by first | rfl | simp, HF.out.1, HF.out.2⟩
        · have t1 : ((m : Int) == 0) = false := by simp; omega
          have hrs : rs2 = rsB ev es i := by rw [HRS2.out, rsB, if_neg (by rw [← HM.out]; exact hm0)]
          obtain ⟨j, hj⟩ : ∃ j, j = i - 1 := ⟨_, rfl⟩
          have hi0 : 0 < i := by
            rcases Nat.eq_zero_or_pos i with h0 | h0
            · exact absurd (by rw [HM.out, h0, Nat.zero_mod]) hm0
            · exact h0
          obtain ⟨y, u0, u1, u2, u3, hy, d0', d1', d2', d3', hew⟩ := HR.out.at_ j (by omega)
          obtain ⟨L, ln, lc, _, _, _, hu0, _, _, _, r0', _⟩ := hew.parts
          subst hu0
          have hsh2 : sh = comB y.key x.key := by
            rw [HSH.out, shB, if_neg (by rw [← HM.out]; exact hm0), ← hj, hy, HXI.out]
          have hsy := HS.out y (List.mem_of_getElem? hy)
          have hkn1 : kn ≤ 1099511627776 := by have := HXS.out.1; have := HR0.out.len; omega
          have hln1 : ln ≤ 1099511627776 := by have := r0'.len; omega
          have d0 : U.cell? ⟨b, off + j * 4, none⟩ = some (.slice L ln lc) := (HCU.out.2.2.2.cell (p := ⟨b, off + j * 4, none⟩) hbl).trans d0'
          have k0 := HKU.out.c4.1
          have e2 : IntKind.i64.wrap ((i : Int) - 1) = (j : Int) := by rw [IntWalk.i64_in _ (by omega)]; omega
          have hjn : j < n := by omega
          have HCM : Hid (∀ q, Calls Try.prog 107 #[.slice L ln lc, .slice K kn kc] (U.drewN q) (RetCo (U.drewN q) sh)) := Lib.hid (fun q => by
            rw [hsh2]
            exact common_any L K ln kn lc kc y.key x.key _ ((r0'.below HCU.out.2.2.2).drewN q) ((HR0.out.below HCU.out.2.2.2).drewN q) hln1 hkn1)
          have HRS := Lib.hid hrs
          have HJ := Lib.hid hj
          have hoi : off + j * 4 + 0 = off + j * 4 := rfl
          clear hrs hj hy d0' d1' d2' d3' hew r0' hsh2 hsy hoi
          go_wp2_with fail
          go_quiet ((go_at_call 107; with_reducible exact Calls.quiet_of (HCM.out _)))
          have hcs : CS w O oc (outB ev es i) R rc rs2 (U.drewN nq) := by
            rw [HRS.out]
            exact HCU.out.below (below_drewN (Below.refl _ _) nq)
          have HF := Lib.hid (And.intro hcs (HKU.out.drewN nq))
          have hln : rn = rn2 := by rw [HRN2.out, HRS.out, ← HRN.out]
          subst hln
          clear hcs
          go_wp2_with fail
          go_meet
          case rel => exact ⟨R, rc, by first | rfl | simp, by first | rfl | simp, HF.out.1, HF.out.2⟩
      case rest =>
        obtain ⟨R', rc', rfl, rfl, hcs, hkx⟩ := hcut
        have hO := hcs.1
        rw [← HON.out] at hO
        have hxe := entB_len (s := sh) (x := x) (by rw [HSH.out]; exact shB_le HXI.out) HXS.out.1 HXS.out.2 HXW.out
        have HAE := Lib.hid (appendEntry_any HEV.out ⟨by have := HXS.out.1; omega, by have := HXS.out.2; omega⟩ sh (by rw [HSH.out]; exact shB_le HXI.out) O on oc (outB ev es i) hO hcs.2.2.2 (by omega))
        have hstep : outB ev es (i + 1) = outB ev es i ++ entB sh x := by rw [outB_step HXI.out, HSH.out]
        obtain ⟨ol, hol2⟩ : ∃ ol, ol = on + (entB sh x).length := ⟨_, rfl⟩
        have holn : ol = (outB ev es (i + 1)).length := by rw [hstep, List.length_append, ← HON.out, hol2]
        have hob : ol ≤ 1200000 := by omega
        have HOL := Lib.hid hol2
        have HOLN := Lib.hid holn
        have HST := Lib.hid hstep
        have HCS := Lib.hid hcs
        obtain ⟨k0, k1, k2, k3, _⟩ := hkx.c4
        have HG2 := Lib.hid hkx
        clear hO hcs hkx hxe hstep hol2 holn
        go_wp2_with fail
        with_reducible refine HAE.out.mono ?_
        rintro e w3 ⟨O', oc', rfl, oO, gO⟩
        rw [← HOL.out] at oO ⊢
        rw [← HST.out] at oO
        have hc3 : CS w O' oc' (outB ev es (i + 1)) R' rc' rs2 w3 := HCS.out.left (by rw [← HOLN.out]; exact oO) gO
        have HC3 := Lib.hid hc3
        clear oO gO hc3
        by_cases hbig : 1048576 < ol
        · go_wp2_with fail
          go_ret
          have h1 := HC3.out.1
          have h2 := HOLN.out
          unfold RetCt
          refine ⟨O', oc', _, by rw [h2]; rfl, h1, HC3.out.2.2.2, by omega, .inl ⟨by omega, ?_⟩⟩
          unfold fullB
          rw [List.length_append, List.length_append]
          have := outB_mono ev es (i + 1) es.length (by rw [HL.out]; omega)
          omega
        · go_wp2_with fail
          go_roundw
          case rel => exact ⟨i + 1, ol, rn2, O', R', oc', rc', by omega, by go_num, HOLN.out, by rw [HRN2.out, HRS2.out], rfl, rfl, by omega, by rw [← HRS2.out]; exact HC3.out⟩
          case measure => simp [intOf]; omega
    · obtain rfl : i = n := by omega
      have hsw := hbC.size
      have hO := HC.out.1
      rw [← HON.out] at hO
      have hRd := HC.out.2.1.rd
      rw [← HRN.out] at hRd
      have hDj := HC.out.2.2.1
      have HR2 := Lib.hid HC.out.2.1
      clear hbC
      go_wp2_with (at_builtin; refine wpList_appX _ rfl _ _ 22 rfl w.heap.size 5 Try.underlying22 info_u8 O on oc _ rfl hO R rn rc (rsB ev es i) rfl hRd ?_ ?_ ?_)
      · omega
      · exact hsw
      intro O2 oc2 w2 o2 g2
      obtain ⟨q, hq⟩ : ∃ q, q = rn / 4 := ⟨_, rfl⟩
      have e3 : (rn : Int) / 4 = (q : Int) := by rw [hq]; omega
      have hb2 : Below w.heap.size w w2 := HC.out.2.2.2.trans (g2.below HC.out.1 hsw)
      have hq2 : q ≤ 16777216 := by omega
      have HAW := Lib.hid (appendWord_any O2 (on + rn) oc2 _ w.heap.size q w2 o2 hb2.size (by omega) (by omega))
      have HQ := Lib.hid hq
      have HO2 := Lib.hid o2
      have HB2 := Lib.hid hb2
      clear hO hRd hDj g2 hq o2 hb2
      go_wp2_with fail
      with_reducible refine HAW.out.mono ?_
      rintro e w3 ⟨O3, oc3, rfl, o3, g3⟩
      have hb3 : Below w.heap.size w w3 := HB2.out.trans (g3.below HO2.out HB2.out.size)
      have hfull : (outB ev es i ++ rsB ev es i) ++ fourB q = fullB ev es := by
        unfold fullB
        rw [HL.out, HQ.out, ← HRN.out]
      rw [hfull] at o3
      have hlen : on + rn + (fourB q).length = (fullB ev es).length := by
        rw [← hfull, List.length_append, List.length_append, ← HON.out, ← HRN.out]
      have hl2 : (fullB ev es).length ≤ 100000000 := by
        rw [← hlen, fourB_len]; omega
      rw [hlen] at o3 ⊢
      have HF := Lib.hid (And.intro o3 (And.intro hb3 hl2))
      clear o3 g3 hb3 hfull hlen hl2
      go_wp2_with fail
      go_ret
      exact ⟨O3, oc3, _, rfl, HF.out.1, HF.out.2.1, HF.out.2.2, .inr rfl⟩
end Go.Proofs.Ytgigohfjioifaaa
namespace Go.Proofs.Ytgigohfjioifaaa
open Go Go.RowKit

theorem or_byte64 {m : Nat} (b : UInt8) (h : m < 16777216) : bits .or .i64 ((m : Int) * 256) (b.toNat : Int) = ((m * 256 + b.toNat : Nat) : Int) := by
  have hb := b.toNat_lt
  have h1 := (bits_nat .i64 32 (by decide) (fun n h1 h2 => IntWalk.i64_in n (by simp at h2; omega)) (m * 256) b.toNat (by simp; omega) (by simp; omega)).2
  have h2 : m * 256 ||| b.toNat = m * 256 + b.toNat := by
    rw [Nat.mul_comm]
    exact (Nat.two_pow_add_eq_or_of_lt (i := 8) (by simpa using hb) m).symm
  rw [h2] at h1
  exact h1
set_option maxRecDepth 100000 in
set_option maxHeartbeats 1000000 in
theorem getWord8_any (A : Option Addr) (n c : Nat) (xs : List UInt8) (w : World) (hx : Rd w A n xs) (h4 : 4 ≤ n) (hn : n ≤ 1099511627776) (hnc : n ≤ c) :
    Calls Try.prog 87 #[.slice A n c] w (RetCo w (numK xs 4)) := by
  have hsl : ∀ w, (Instr.slice 22 (.slice A n c) none (some (.int .i64 4)) none).run Try.prog w = .ok (.slice A 4 c) w :=
    cut_h Try.underlying22 elem_bytes size_u8 A (m := 4) (by omega)
  go_enter Try.func87, Try.ntmps87
  go_wp2
  go_loopw [3, 9] (fun vm vi wr => ∃ m i q : Nat, vm = .int .i64 m ∧ vi = .int .i64 i ∧ i ≤ 4 ∧ m = numK xs i ∧ wr = w.drewN q) (fun _ vi _ => 4 - (intOf vi).toNat)
  case atStart => exact ⟨0, 0, 0, rfl, rfl, by omega, rfl, rfl⟩
  case round =>
    obtain ⟨m, i, q, rfl, rfl, hi, hm, rfl⟩ := hrel
    have hml := numK_lt xs i
    rw [← hm] at hml
    have Hm := Lib.hid hm
    clear hm
    by_cases hlt : i < 4
    · have hm3 : m < 16777216 := Nat.lt_of_lt_of_le hml (Nat.le_trans (Nat.pow_le_pow_right (by decide) (show i ≤ 3 by omega)) (by decide))
      clear hml
      obtain ⟨bf, off, rfl, _⟩ := hx.pos (by omega)
      obtain ⟨b, hb, hc, _⟩ := hx.at_ i (by omega)
      have hb8 := b.toNat_lt
      have e1 := or_byte64 b hm3
      have HR : Hid (m * 256 + b.toNat = numK xs (i + 1)) := Lib.hid (by rw [numK_take hb, Hm.out])
      clear hb
      obtain ⟨W, hW⟩ : ∃ W, W = w.drewN q := ⟨_, rfl⟩
      have c1 : W.cell? ⟨bf, off + i, none⟩ = some (.int .u8 (b.toNat : Int)) := by rw [hW]; exact hc
      rw [← hW]
      have HW := Lib.hid hW
      clear hW hc
      go_wp2
      go_roundw
      case rel => exact ⟨m * 256 + b.toNat, i + 1, q, by go_num, by go_num, by omega, HR.out, HW.out⟩
      case measure => simp [intOf]; omega
    · obtain rfl : i = 4 := by omega
      clear hml
      go_wp2
      go_ret
      exact ⟨by rw [Hm.out]; rfl, q, rfl⟩
/-- What is sealed, parted: the entries' bytes, the restarts' places. -/
def splitB (xs : List UInt8) : Option (List UInt8 × List UInt8) :=
  if xs.length < 4 then none else
    let k := numK (xs.drop (xs.length - 4)) 4
    if (xs.length - 4) / 4 < k then none else some (xs.take (xs.length - 4 - 4 * k), (xs.take (xs.length - 4)).drop (xs.length - 4 - 4 * k))
/-- What split hands back: two pieces of what came in, or none. -/
def RetSp8 (w : World) (A : Option Addr) (xs : List UInt8) (e : Ending) (w' : World) : Prop :=
  (∃ q, w' = w.drewN q) ∧ ((splitB xs = none ∧ e = .returned (.tuple #[.slice none 0 0, .slice none 0 0, .bool false])) ∨
  ∃ ys zs B1 n1 c1 B2 n2 c2, splitB xs = some (ys, zs) ∧ e = .returned (.tuple #[.slice B1 n1 c1, .slice B2 n2 c2, .bool true]) ∧ n1 ≤ c1 ∧ n2 ≤ c2 ∧ Rd w B1 n1 ys ∧ Rd w B2 n2 zs ∧ (B1 = none → c1 = 0) ∧ (B2 = none → c2 = 0) ∧ (blk B1 = none ∨ blk B1 = blk A) ∧ n1 + n2 + 4 = xs.length)
set_option maxRecDepth 100000 in
set_option maxHeartbeats 4000000 in
theorem split_any (A : Option Addr) (n c : Nat) (xs : List UInt8) (w : World) (hx : Rd w A n xs) (hn : n ≤ 1099511627776) (hnc : n ≤ c) (hnil : A = none → c = 0) :
    Calls Try.prog 86 #[.slice A n c] w (RetSp8 w A xs) := by
  have hxl := hx.len
  by_cases h4 : n < 4
  · have hs : splitB xs = none := by unfold splitB; rw [if_pos (by omega)]
    have e1 : IntKind.i64.wrap ((n : Int) - 4) = (n : Int) - 4 := IntWalk.i64_in _ (by omega)
    have t1 : (n : Int) - 4 < 0 := by omega
    have t2 : (n : Int) < 4 := by omega
    have HS := Lib.hid hs
    clear hx hs hxl
    go_enter Try.func86, Try.ntmps86
    go_wp2_with fail
    exact bodyPost_ret (v := .tuple #[.slice none 0 0, .slice none 0 0, .bool false]) (by simp [results, Try.f86, go_sem]; try rfl) rfl ⟨⟨0, rfl⟩, .inl ⟨HS.out, rfl⟩⟩
  · obtain ⟨m, hm⟩ : ∃ m, m = n - 4 := ⟨_, rfl⟩
    have e1 : IntKind.i64.wrap ((n : Int) - 4) = (m : Int) := by rw [IntWalk.i64_in _ (by omega)]; omega
    obtain ⟨k, hk⟩ : ∃ k, k = numK (xs.drop m) 4 := ⟨_, rfl⟩
    have hkl : k < 4294967296 := by rw [hk]; exact Nat.lt_of_lt_of_le (numK_lt _ 4) (by decide)
    have hsl : ∀ W : World, (Instr.slice 22 (.slice A n c) (some (.int .i64 (m : Int))) none none).run Try.prog W = .ok (.slice (cutA A m c) 4 (c - m)) W := fun W => by
      have := cut_l Try.underlying22 elem_bytes size_u8 A (n := n) (cap := c) (k := m) (by omega) W
      rw [show n - m = 4 by omega] at this
      exact this
    have hrd : Rd w (cutA A m c) 4 (xs.drop m) := by
      have := hx.cut (k := m) (m := n) (cap := c) (by omega) (Nat.le_refl _) hnc
      rw [List.take_of_length_le (by omega), show n - m = 4 by omega] at this
      exact this
    have HGW : Hid (Calls Try.prog 87 #[.slice (cutA A m c) 4 (c - m)] w (RetCo w k)) := Lib.hid (by
      rw [hk]
      exact getWord8_any _ 4 _ _ w hrd (by omega) (by omega) (by omega))
    have e2 : (m : Int) / 4 = ((m / 4 : Nat) : Int) := by omega
    obtain ⟨d, hd⟩ : ∃ d, d = m / 4 := ⟨_, rfl⟩
    have e3 : (m : Int) / 4 = (d : Int) := by omega
    by_cases hdk : d < k
    · have hs : splitB xs = none := by
        unfold splitB
        rw [if_neg (by omega), hxl, ← hm]
        simp only
        rw [← hk, ← hd, if_pos hdk]
      have HS := Lib.hid hs
      clear hx hs hxl hrd hm hk hd e2
      go_enter Try.func86, Try.ntmps86
      go_wp2_with fail
      with_reducible refine HGW.out.mono ?_
      rintro e w2 ⟨rfl, q, hq⟩
      go_wp2_with fail
      exact bodyPost_ret (v := .tuple #[.slice none 0 0, .slice none 0 0, .bool false]) (by simp [results, Try.f86, go_sem]; try rfl) rfl ⟨⟨q, by first | exact hq | rfl⟩, .inl ⟨HS.out, rfl⟩⟩
    · obtain ⟨b, hb⟩ : ∃ b, b = m - 4 * k := ⟨_, rfl⟩
      have e4 : IntKind.i64.wrap (4 * (k : Int)) = 4 * (k : Int) := IntWalk.i64_in _ (by omega)
      have e5 : IntKind.i64.wrap ((m : Int) - 4 * (k : Int)) = (b : Int) := by rw [IntWalk.i64_in _ (by omega)]; omega
      have hbm : b ≤ m := by omega
      have hmn : m ≤ n := by omega
      have hs : splitB xs = some (xs.take b, (xs.take m).drop b) := by
        unfold splitB
        rw [if_neg (by omega), hxl, ← hm]
        simp only
        rw [← hk, ← hd, if_neg hdk, ← hb]
      have s1 : ∀ W : World, (Instr.slice 22 (.slice A n c) none (some (.int .i64 (b : Int))) none).run Try.prog W = .ok (.slice A b c) W := cut_h Try.underlying22 elem_bytes size_u8 A (by omega)
      have s2 : ∀ W : World, (Instr.slice 22 (.slice A n c) (some (.int .i64 (b : Int))) (some (.int .i64 (m : Int))) none).run Try.prog W = .ok (.slice (cutA A b c) (m - b) (c - b)) W := cut_lh Try.underlying22 elem_bytes size_u8 A hbm (by omega)
      obtain ⟨z, hz⟩ : ∃ z, z = m - b := ⟨_, rfl⟩
      rw [← hz] at s2
      have hcn : cutA A b c = none → c - b = 0 := fun hh => by
        unfold cutA at hh
        split at hh
        · omega
        · cases A with
          | none => have := hnil rfl; omega
          | some _ => cases hh
      have hfin : ∀ q, RetSp8 w A xs (.returned (.tuple #[.slice A b c, .slice (cutA A b c) z (c - b), .bool true])) (w.drewN q) := fun q =>
        ⟨⟨q, rfl⟩, .inr ⟨xs.take b, (xs.take m).drop b, A, b, c, cutA A b c, z, c - b, hs, rfl, by omega, by omega, hx.take (by omega), by rw [hz]; exact hx.cut hbm hmn hnc, hnil, hcn, .inr rfl, by omega⟩⟩
      have HF := Lib.hid hfin
      clear hx hs hxl hrd hm hk hd e2 hb hcn hfin hz
      go_enter Try.func86, Try.ntmps86
      go_wp2_with fail
      with_reducible refine HGW.out.mono ?_
      rintro e w2 ⟨rfl, q, hq⟩
      have HQ := Lib.hid hq
      clear hq
      go_wp2_with fail
      go_quiet (fail)
      go_wp2_with fail
      refine bodyPost_ret (v := .tuple #[.slice A b c, .slice (cutA A b c) z (c - b), .bool true]) (by simp [results, Try.f86, go_sem]; try rfl) rfl ?_
      have := HF.out (q + nq)
      rw [← World.drewN_drewN, ← HQ.out] at this
      exact this
end Go.Proofs.Ytgigohfjioifaaa
namespace Go.Proofs.Ytgigohfjioifaaa
open Go Go.RowKit

/-- What the reference's Get answers: an entry's values as they lie in the list. -/
def RetGl (w : World) (o : Option En) (e : Ending) (w' : World) : Prop :=
  (o = none ∧ e = .returned (.tuple #[.agg #[.slice none 0 0, .int .u64 0, .int .u8 0, .slice none 0 0], .bool false]) ∧ Below w.heap.size w w') ∨
  ∃ x v0 v1 v2 v3, o = some x ∧ e = .returned (.tuple #[.agg #[v0, v1, v2, v3], .bool true]) ∧ EV w' x v0 v1 v2 v3 ∧ Below w.heap.size w w'
theorem findL_at {key : List UInt8} {at_ k : Nat} {es : List En} {x : En} (h : findL key at_ (es.take k) = none) (hx : es[k]? = some x) (hk : (eqB x.key key && decide (x.seq ≤ at_)) = true) : findL key at_ es = some x := by
  have hlt := (List.getElem?_eq_some_iff.1 hx).1
  have e : es = es.take k ++ x :: es.drop (k + 1) := by
    have hd : es.drop k = x :: es.drop (k + 1) := by rw [List.drop_eq_getElem_cons hlt, (List.getElem?_eq_some_iff.1 hx).2]
    rw [← hd, List.take_append_drop]
  unfold findL at h ⊢
  rw [e, List.find?_append, h, List.find?_cons, hk]
  rfl
theorem findL_snoc {key : List UInt8} {at_ k : Nat} {es : List En} {x : En} (h : findL key at_ (es.take k) = none) (hx : es[k]? = some x) (hk : (eqB x.key key && decide (x.seq ≤ at_)) = false) : findL key at_ (es.take (k + 1)) = none := by
  unfold findL at h ⊢
  rw [List.take_add_one, hx, List.find?_append, h]
  simp only [Option.toList, List.find?_cons, hk]
  rfl
set_option maxRecDepth 100000 in
set_option maxHeartbeats 4000000 in
theorem refGet_any {w : World} {A F : Option Addr} {n c fn fc at_ : Nat} {es : List En} {key : List UInt8} (h : REs w A n es) (hn : n ≤ 1099511627776) (hs : ∀ x ∈ es, SzE x) (hf : Rd w F fn key) (hfn : fn ≤ maxLen) :
    Calls Try.prog 66 #[.slice A n c, .slice F fn fc, .int .u64 (at_ : Int)] w (RetGl w (findL key at_ es)) := by
  obtain ⟨U, hU⟩ : ∃ U, U = w.alloc (.cells #[.slice none 0 0, .int .u64 0, .int .u8 0, .slice none 0 0] 33) := ⟨_, rfl⟩
  have bU : Below w.heap.size w U := by rw [hU]; exact (Below.refl _ _).alloc (Nat.le_refl _) _
  have ZU := Lib.hid (show Cl U w.heap.size #[.slice none 0 0, .int .u64 0, .int .u8 0, .slice none 0 0] 33 by rw [hU]; exact Cl.new _ _ _)
  have H1 := Lib.hid h
  have HF := Lib.hid (hf.below bU)
  have HLN := Lib.hid h.len
  have HS := Lib.hid hs
  have BU := Lib.hid bU
  clear h hs hf bU
  go_enter Try.func66, Try.ntmps66
  go_upto_region 1 with (fail)
  rw [← hU]
  clear hU
  go_wp2_with fail
  go_loopw [8] (fun s8 wr => ∃ k q : Nat, k ≤ n ∧ s8 = .int .i64 (k : Int) ∧ findL key at_ (es.take k) = none ∧ wr = U.drewN q) (fun s _ => n - (intOf s).toNat)
  case atStart => exact ⟨0, 0, Nat.zero_le _, rfl, rfl, rfl⟩
  case round =>
    obtain ⟨k, q, hk', rfl, hin, hX⟩ := hrel
    have hBr : Below U.heap.size U wr := by rw [hX]; exact below_drewN (Below.refl _ _) q
    have HBr := Lib.hid hBr
    have HX := Lib.hid hX
    have HIN := Lib.hid hin
    have HFR := Lib.hid (HF.out.below hBr)
    have ZR := Lib.hid (ZU.out.below hBr)
    have BWr := Lib.hid (belowT' BU.out hBr)
    have hR := H1.out.below BWr.out
    clear hX hin hBr
    by_cases hlt : k < n
    · obtain ⟨b, off, hAb, hbw⟩ := H1.out.pos (by omega)
      subst hAb
      obtain ⟨x, u0, u1, u2, u3, hx, c0', c1', c2', c3', hew⟩ := H1.out.at_ k hlt
      have hbl : b < wr.heap.size := Nat.lt_of_lt_of_le hbw BWr.out.size
      have c0 := (BWr.out.cell hbw).trans c0'
      have c1 := (BWr.out.cell hbw).trans c1'
      have c2 := (BWr.out.cell hbw).trans c2'
      have c3 := (BWr.out.cell hbw).trans c3'
      have hev := hew.below BWr.out
      obtain ⟨L, ln, lc, M, mn, mc, rfl, rfl, rfl, rfl, q0, _⟩ := hev.parts
      have hsx := HS.out x (List.mem_of_getElem? hx)
      have hln : ln ≤ maxLen := maxLen_e (by rw [← q0.len]; exact hsx.1)
      have HXK := Lib.hid hx
      have HEV := Lib.hid hew
      obtain ⟨z, hz⟩ : ∃ z, z = eqB x.key key := ⟨_, rfl⟩
      have HE : Hid (Calls Try.prog 46 #[.slice L ln lc, .slice F fn fc] wr (RetB wr z)) := Lib.hid (by rw [hz]; exact Equal_any _ _ _ _ _ _ x.key key _ q0 HFR.out hln hfn)
      have HSK : Hid ((eqB x.key key && decide (x.seq ≤ at_)) = (z && decide (x.seq ≤ at_))) := Lib.hid (by rw [hz])
      clear hR hx hev hew q0 hz c0' c1' c2' c3'
      cases z with
      | true =>
        by_cases hle : x.seq ≤ at_
        · have HFD : Hid (findL key at_ es = some x) := Lib.hid (findL_at HIN.out HXK.out (by rw [HSK.out]; simpa using hle))
          go_wp2_with fail
          with_reducible refine HE.out.mono ?_
          rintro e w1 ⟨rfl, q1, rfl⟩
          have b1 : Below wr.heap.size wr (wr.drewN q1) := below_drewN (Below.refl _ _) q1
          obtain ⟨w2, hw2⟩ : ∃ w2, w2 = wr.drewN q1 := ⟨_, rfl⟩
          rw [← hw2] at b1 ⊢
          have B2 := Lib.hid (belowT' BWr.out b1)
          have Z2 := Lib.hid (ZR.out.below b1)
          have d0 := (b1.cell hbl).trans c0
          have d1 := (b1.cell hbl).trans c1
          have d2 := (b1.cell hbl).trans c2
          have d3 := (b1.cell hbl).trans c3
          obtain ⟨g0, g1, g2, g3, k0, k1, k2, k3⟩ := Z2.out.c4
          clear c0 c1 c2 c3 b1 hw2
          go_wp2_with fail
          obtain ⟨X, hX⟩ : ∃ X, X = ((((w2.setCell ⟨w.heap.size, 0, none⟩ (.slice L ln lc)).setCell ⟨w.heap.size, 1, none⟩ (.int .u64 (x.seq : Int))).setCell ⟨w.heap.size, 2, none⟩ (.int .u8 (x.kind : Int))).setCell ⟨w.heap.size, 3, none⟩ (.slice M mn mc)) := ⟨_, rfl⟩
          rw [← hX]
          have zX : Cl X w.heap.size #[.slice L ln lc, .int .u64 (x.seq : Int), .int .u8 (x.kind : Int), .slice M mn mc] 33 := by rw [hX]; exact Z2.out.put4 rfl _ _ _ _
          have bX : Below w.heap.size w X := by rw [hX]; exact below_set (below_set (below_set (below_set B2.out 0 _ (Nat.le_refl _)) 1 _ (Nat.le_refl _)) 2 _ (Nat.le_refl _)) 3 _ (Nat.le_refl _)
          have EVX : EV X x (.slice L ln lc) (.int .u64 (x.seq : Int)) (.int .u8 (x.kind : Int)) (.slice M mn mc) := HEV.out.below bX
          obtain ⟨x0, x1, x2, x3, _⟩ := zX.c4
          refine bodyPost_ret (v := .tuple #[.agg #[.slice L ln lc, .int .u64 (x.seq : Int), .int .u8 (x.kind : Int), .slice M mn mc], .bool true]) (by simp [results, Try.results66, go_sem, x0, x1, x2, x3]; try rfl) rfl (.inr ⟨x, _, _, _, _, HFD.out, rfl, EVX, bX⟩)
        · have HNX : Hid (findL key at_ (es.take (k + 1)) = none) := Lib.hid (findL_snoc HIN.out HXK.out (by rw [HSK.out]; simpa using hle))
          have BN : Hid (∀ q1, wr.drewN q1 = U.drewN (q + q1)) := Lib.hid (fun q1 => by rw [HX.out, World.drewN_drewN])
          go_wp2_with fail
          with_reducible refine HE.out.mono ?_
          rintro e w1 ⟨rfl, q1, rfl⟩
          go_wp2_with fail
          go_roundw
          case rel => exact ⟨k + 1, q + q1, by omega, by go_num, HNX.out, BN.out q1⟩
          case measure => simp [intOf]; omega
      | false =>
        have HNX : Hid (findL key at_ (es.take (k + 1)) = none) := Lib.hid (findL_snoc HIN.out HXK.out (by rw [HSK.out]; rfl))
        have BN : Hid (∀ q1, wr.drewN q1 = U.drewN (q + q1)) := Lib.hid (fun q1 => by rw [HX.out, World.drewN_drewN])
        go_wp2_with fail
        with_reducible refine HE.out.mono ?_
        rintro e w1 ⟨rfl, q1, rfl⟩
        go_wp2_with fail
        go_roundw
        case rel => exact ⟨k + 1, q + q1, by omega, by go_num, HNX.out, BN.out q1⟩
        case measure => simp [intOf]; omega
    · have htk : es.take k = es := List.take_of_length_le (by have := HLN.out; omega)
      have HFD : Hid (findL key at_ es = none) := Lib.hid (by rw [← htk]; exact HIN.out)
      obtain ⟨g0, g1, g2, g3, k0, k1, k2, k3⟩ := ZR.out.c4
      clear htk hR
      go_wp2_with fail
      obtain ⟨X, hX⟩ : ∃ X, X = ((((wr.setCell ⟨w.heap.size, 0, none⟩ (.slice none 0 0)).setCell ⟨w.heap.size, 1, none⟩ (.int .u64 0)).setCell ⟨w.heap.size, 2, none⟩ (.int .u8 0)).setCell ⟨w.heap.size, 3, none⟩ (.slice none 0 0)) := ⟨_, rfl⟩
      rw [← hX]
      have zX : Cl X w.heap.size #[.slice none 0 0, .int .u64 0, .int .u8 0, .slice none 0 0] 33 := by rw [hX]; exact ZR.out.put4 rfl _ _ _ _
      have bX : Below w.heap.size w X := by rw [hX]; exact below_set (below_set (below_set (below_set BWr.out 0 _ (Nat.le_refl _)) 1 _ (Nat.le_refl _)) 2 _ (Nat.le_refl _)) 3 _ (Nat.le_refl _)
      obtain ⟨x0, x1, x2, x3, _⟩ := zX.c4
      refine bodyPost_ret (v := .tuple #[.agg #[.slice none 0 0, .int .u64 0, .int .u8 0, .slice none 0 0], .bool false]) (by simp [results, Try.results66, go_sem, x0, x1, x2, x3]; try rfl) rfl (.inl ⟨HFD.out, rfl, bX⟩)
end Go.Proofs.Ytgigohfjioifaaa
namespace Go.Proofs.Ytgigohfjioifaaa
open Go Go.RowKit

/-- 'All memory that these values name lies in good blocks.' -/
def GV (G : Nat → Prop) (vs : List Value) : Prop := ∀ A m c g, Value.slice A m c ∈ vs → 0 < m → blk A = some g → G g
/-- 'The slice of n entries at A reads as these, and its memory lies in good blocks.' -/
def RG (G : Nat → Prop) (w : World) (A : Option Addr) (n : Nat) (es : List En) : Prop :=
  es.length = n ∧ ∃ vs, EVs w es vs ∧ RdV w A (n * 4) vs ∧ GV G vs ∧ (0 < n → ∀ g, blk A = some g → G g)
/-- 'What is good and was there stands.' -/
def FrG (G : Nat → Prop) (w w' : World) : Prop := w.heap.size ≤ w'.heap.size ∧ ∀ b, b < w.heap.size → G b → w'.heap[b]? = w.heap[b]?
section
variable {G H : Nat → Prop} {w w' w2 : World} {A : Option Addr} {n : Nat} {es gs : List En} {vs us : List Value}
theorem GV.app (h1 : GV G vs) (h2 : GV G us) : GV G (vs ++ us) := fun A m c g hv => by
  rcases List.mem_append.1 hv with h | h
  · exact h1 A m c g h
  · exact h2 A m c g h
theorem GV.nil : GV G [] := fun A m c g hv => by cases hv
theorem GV.sub (h : GV G vs) (hs : ∀ u ∈ us, u ∈ vs) : GV G us := fun A m c g hv => h A m c g (hs _ hv)
theorem GV.mono (h : GV G vs) (hs : ∀ g, G g → H g) : GV H vs := fun A m c g hv h0 hb => hs g (h A m c g hv h0 hb)
theorem RG.res (h : RG G w A n es) : REs w A n es := by
  obtain ⟨h1, vs, h2, h3, _⟩ := h
  exact REs.mk h2 h3 h1
theorem RG.len (h : RG G w A n es) : es.length = n := h.1
theorem RG.nil (G : Nat → Prop) (w : World) (A : Option Addr) : RG G w A 0 [] := ⟨rfl, [], rfl, RdV.nil _ _, GV.nil, fun h => absurd h (by omega)⟩
theorem RG.below (h : RG G w A n es) (hb : Below w.heap.size w w') : RG G w' A n es := by
  obtain ⟨h1, vs, h2, h3, h4⟩ := h
  exact ⟨h1, vs, h2.below hb, h3.below hb, h4⟩
theorem FrG.refl (G : Nat → Prop) (w : World) : FrG G w w := ⟨Nat.le_refl _, fun _ _ _ => rfl⟩
theorem FrG.trans (h : FrG G w w') (k : FrG G w' w2) : FrG G w w2 := ⟨Nat.le_trans h.1 k.1, fun b hb hg => (k.2 b (Nat.lt_of_lt_of_le hb h.1) hg).trans (h.2 b hb hg)⟩
theorem FrG.of_below (h : Below w.heap.size w w') : FrG G w w' := ⟨h.size, fun b hb _ => h.block b hb⟩
theorem FrG.of_grown {row : Option Nat} (h : w.grownBy w' row) (hr : ∀ g, row = some g → ¬ G g) : FrG G w w' := by
  obtain ⟨_, _, _, h4, h5⟩ := h
  exact ⟨h4, fun b hb hg => h5 b hb (fun e => hr b e.symm hg)⟩
theorem cell_of_heap {p : Addr} (h : w'.heap[p.block]? = w.heap[p.block]?) : w'.cell? p = w.cell? p := by
  unfold World.cell?
  rw [h]
theorem rd_good {xs : List UInt8} (h : Rd w A n xs) (hg : 0 < n → ∀ g, blk A = some g → G g) (hf : FrG G w w') : Rd w' A n xs := by
  refine ⟨h.1, fun hn => ?_⟩
  obtain ⟨b, off, rfl, h2, h3⟩ := h.2 hn
  exact ⟨b, off, rfl, Nat.lt_of_lt_of_le h2 hf.1, fun i x hx => (cell_of_heap (p := ⟨b, off + i, none⟩) (hf.2 b h2 (hg hn b rfl))).trans (h3 i x hx)⟩
theorem rdv_good (h : RdV w A n vs) (hg : 0 < n → ∀ g, blk A = some g → G g) (hf : FrG G w w') : RdV w' A n vs := by
  refine ⟨h.1, fun hn => ?_⟩
  obtain ⟨b, off, rfl, h2, h3⟩ := h.2 hn
  exact ⟨b, off, rfl, Nat.lt_of_lt_of_le h2 hf.1, fun i x hx => (cell_of_heap (p := ⟨b, off + i, none⟩) (hf.2 b h2 (hg hn b rfl))).trans (h3 i x hx)⟩
theorem ev_good {e : En} {v0 v1 v2 v3 : Value} (h : EV w e v0 v1 v2 v3) (hg : GV G [v0, v1, v2, v3]) (hf : FrG G w w') : EV w' e v0 v1 v2 v3 := by
  obtain ⟨h1, h2, h3, h4, ⟨K, kn, kc, rfl, r0, c0, d0⟩, ⟨V, vn, vc, rfl, r3, c3, d3⟩⟩ := h
  exact ⟨h1, h2, h3, h4, ⟨K, kn, kc, rfl, rd_good r0 (fun h0 g hb => hg K kn kc g (by simp) h0 hb) hf, c0, d0⟩, ⟨V, vn, vc, rfl, rd_good r3 (fun h0 g hb => hg V vn vc g (by simp) h0 hb) hf, c3, d3⟩⟩
theorem evs_good (hf : FrG G w w') : ∀ {es : List En} {vs : List Value}, EVs w es vs → GV G vs → EVs w' es vs
  | [], _, h, _ => h
  | _ :: _, _, ⟨v0, v1, v2, v3, r, e, h1, h2⟩, hg => ⟨v0, v1, v2, v3, r, e, ev_good h1 (hg.sub (fun u hu => by rw [e]; simp only [List.mem_cons, List.not_mem_nil, or_false] at hu ⊢; rcases hu with h | h | h | h <;> simp [h])) hf, evs_good hf h2 (hg.sub (fun u hu => by rw [e]; simp [hu]))⟩
/-- Behind whatever leaves the good blocks. -/
theorem RG.good (h : RG G w A n es) (hf : FrG G w w') : RG G w' A n es := by
  obtain ⟨h1, vs, h2, h3, h4, h5⟩ := h
  exact ⟨h1, vs, evs_good hf h2 h4, rdv_good h3 (fun h0 => h5 (by omega)) hf, h4, h5⟩
theorem ev_mem {e : En} {v0 v1 v2 v3 : Value} (h : EV w e v0 v1 v2 v3) {B : Option Addr} {m c : Nat} (hv : Value.slice B m c ∈ [v0, v1, v2, v3]) (h0 : 0 < m) {g : Nat} (hb : blk B = some g) : g < w.heap.size := by
  obtain ⟨K, kn, kc, V, vn, vc, rfl, rfl, rfl, rfl, r0, r3, _⟩ := h.parts
  simp only [List.mem_cons, List.not_mem_nil, or_false] at hv
  rcases hv with e | e | e | e
  · injection e with e1 e2 e3
    subst e1 e2
    obtain ⟨b, off, rfl, hl⟩ := r0.pos h0
    injection hb with hb
    rw [← hb]; exact hl
  · cases e
  · cases e
  · injection e with e1 e2 e3
    subst e1 e2
    obtain ⟨b, off, rfl, hl⟩ := r3.pos h0
    injection hb with hb
    rw [← hb]; exact hl
theorem evs_lt : ∀ {es : List En} {vs : List Value}, EVs w es vs → GV (fun g => g < w.heap.size) vs
  | [], _, h => by rw [h]; exact GV.nil
  | _ :: _, _, ⟨v0, v1, v2, v3, r, e, h1, h2⟩ => by
    rw [e]
    exact GV.app (vs := [v0, v1, v2, v3]) (fun A m c g hv h0 hb => ev_mem h1 hv h0 hb) (evs_lt h2)
/-- What is read lies in blocks that are there. -/
theorem REs.lt (h : REs w A n es) : RG (fun g => g < w.heap.size) w A n es := by
  obtain ⟨h1, vs, h2, h3⟩ := h
  refine ⟨h1, vs, h2, h3, evs_lt h2, fun h0 g hb => ?_⟩
  obtain ⟨b, off, rfl, hl⟩ := h3.pos (by omega)
  injection hb with hb
  rw [← hb]; exact hl
theorem RG.mono (h : RG G w A n es) (hs : ∀ g, G g → H g) : RG H w A n es := by
  obtain ⟨h1, vs, h2, h3, h4, h5⟩ := h
  exact ⟨h1, vs, h2, h3, h4.mono hs, fun h0 g hb => hs g (h5 h0 g hb)⟩
theorem RG.at_ {b off : Nat} (h : RG G w (some ⟨b, off, none⟩) n es) (k : Nat) (hk : k < n) :
    ∃ e v0 v1 v2 v3, es[k]? = some e ∧ w.cell? ⟨b, off + k * 4, none⟩ = some v0 ∧ w.cell? ⟨b, off + k * 4 + 1, none⟩ = some v1 ∧
      w.cell? ⟨b, off + k * 4 + 2, none⟩ = some v2 ∧ w.cell? ⟨b, off + k * 4 + 3, none⟩ = some v3 ∧ EV w e v0 v1 v2 v3 ∧ GV G [v0, v1, v2, v3] := by
  obtain ⟨h1, vs, h2, h3, h4, _⟩ := h
  obtain ⟨b', off', e, hb, hc⟩ := h3.2 (by omega)
  injection e with e
  injection e with e1 e2
  subst e1 e2
  obtain ⟨x, hx⟩ : ∃ x, es[k]? = some x := ⟨_, List.getElem?_eq_getElem (by omega)⟩
  obtain ⟨v0, v1, v2, v3, e0, e1, e2, e3, g0⟩ := h2.at_ k hx
  refine ⟨x, v0, v1, v2, v3, hx, hc _ _ e0, ?_, ?_, ?_, g0, h4.sub (fun u hu => ?_)⟩
  · rw [Nat.add_assoc]; exact hc _ _ e1
  · rw [Nat.add_assoc]; exact hc _ _ e2
  · rw [Nat.add_assoc]; exact hc _ _ e3
  · simp only [List.mem_cons, List.not_mem_nil, or_false] at hu
    rcases hu with rfl | rfl | rfl | rfl
    · exact List.mem_of_getElem? e0
    · exact List.mem_of_getElem? e1
    · exact List.mem_of_getElem? e2
    · exact List.mem_of_getElem? e3
end
/-- What PutAll answers. -/
def refPut (l xs : List En) : Int × List En := if checkE xs = 0 then match refIns l xs with | none => (7, l) | some l' => (0, l') else (checkE xs, l)
theorem refIns_snoc : ∀ (l xs : List En) (x : En), refIns l (xs ++ [x]) = (refIns l xs).bind (fun o => if inL o x then none else some (insL o x))
  | l, [], x => by simp [refIns]
  | l, y :: ys, x => by
    simp only [List.cons_append, refIns]
    by_cases h : inL l y = true
    · rw [if_pos h, if_pos h]; rfl
    · rw [if_neg h, if_neg h]
      exact refIns_snoc _ ys x
theorem refIns_none {l xs ys : List En} (h : refIns l xs = none) : refIns l (xs ++ ys) = none := by
  induction xs generalizing l with
  | nil => simp [refIns] at h
  | cons x xs ih =>
    simp only [List.cons_append, refIns] at h ⊢
    split at h
    · next h1 => rw [if_pos h1]
    · next h1 => rw [if_neg h1]; exact ih h
theorem refIns_len : ∀ {l o xs : List En}, refIns l xs = some o → o.length = l.length + xs.length
  | l, o, [], h => by injection h with h; subst h; simp
  | l, o, x :: xs, h => by
    unfold refIns at h
    split at h
    · cases h
    · have := refIns_len h
      rw [insL_len] at this
      simp only [List.length_cons]
      omega
theorem insL_mem {l : List En} {x y : En} (h : y ∈ insL l x) : y = x ∨ y ∈ l := by
  unfold insL at h
  rcases List.mem_append.1 h with h | h
  · exact .inr (List.mem_of_mem_take h)
  · rcases List.mem_cons.1 h with h | h
    · exact .inl h
    · exact .inr (List.mem_of_mem_drop h)
theorem refIns_mem : ∀ {l o xs : List En}, refIns l xs = some o → ∀ y ∈ o, y ∈ l ∨ y ∈ xs
  | l, o, [], h, y, hy => by injection h with h; subst h; exact .inl hy
  | l, o, x :: xs, h, y, hy => by
    unfold refIns at h
    split at h
    · cases h
    · rcases refIns_mem h y hy with q | q
      · rcases insL_mem q with q | q
        · exact .inr (by simp [q])
        · exact .inl q
      · exact .inr (by simp [q])
def RetPA (G : Nat → Prop) (w : World) (z : Int × List En) (e : Ending) (w' : World) : Prop :=
  ∃ L k d, e = .returned (.tuple #[.slice L k d, .int .i64 z.1]) ∧ RG G w' L k z.2 ∧ k ≤ d ∧ Below w.heap.size w w'
theorem RetPA.out {G : Nat → Prop} {w : World} {z : Int × List En} {e : Ending} {w' : World} (h : RetPA G w z e w') : ∃ L k d, e = .returned (.tuple #[.slice L k d, .int .i64 z.1]) ∧ RG G w' L k z.2 ∧ k ≤ d ∧ Below w.heap.size w w' := h
theorem refPut_bad {l xs : List En} (h : checkE xs ≠ 0) : refPut l xs = (checkE xs, l) := by unfold refPut; rw [if_neg h]
theorem refPut_none {l xs : List En} (h : checkE xs = 0) (h2 : refIns l xs = none) : refPut l xs = (7, l) := by unfold refPut; rw [if_pos h, h2]
theorem refPut_some {l xs o : List En} (h : checkE xs = 0) (h2 : refIns l xs = some o) : refPut l xs = (0, o) := by unfold refPut; rw [if_pos h, h2]
end Go.Proofs.Ytgigohfjioifaaa
namespace Go.Proofs.Ytgigohfjioifaaa
open Go Go.RowKit

/-- Blocks of other kinds are other blocks. -/
theorem row_ne {t1 t2 : TypeId} {s1 s2 : Nat} {w : World} {b1 b2 n c m d : Nat} {L A : Option Addr} {i j : Nat} {vs us : List Value} (h : w.ownsRow b1 t1 s1 (.slice L n c) i vs) (k : w.ownsRow b2 t2 s2 (.slice A m d) j us) (hne : t1 ≠ t2) : Dj L A := fun b e1 e2 => by
  rcases h.2 with ⟨h1, _⟩ | ⟨g, cap, cur, h1, _, hg, _⟩
  · injection h1 with h1
    rw [h1] at e1; cases e1
  · injection h1 with h1
    rw [h1] at e1
    injection e1 with e1
    rcases k.2 with ⟨k1, _⟩ | ⟨g2, cap2, cur2, k1, _, kg, _⟩
    · injection k1 with k1
      rw [k1] at e2; cases e2
    · injection k1 with k1
      rw [k1] at e2
      injection e2 with e2
      simp only at e1 e2
      subst e1 e2
      rw [hg] at kg
      injection kg with kg
      injection kg with _ kg
      exact hne kg
theorem ownV_ne {t : TypeId} {w : World} {b1 b2 n c m d : Nat} {L A : Option Addr} {vs : List Value} {xs : List UInt8} (h : OwnV t w b1 L n c vs) (k : Own 5 w b2 A m d xs) (hne : t ≠ 5) : Dj L A := row_ne h k hne
theorem cl_row {ty t : TypeId} {s : Nat} {w : World} {p b2 m d j : Nat} {A : Option Addr} {us : Array Value} {vs : List Value} (h : Cl w p us ty) (k : w.ownsRow b2 t s (.slice A m d) j vs) (hne : ty ≠ t) : blk A ≠ some p := fun e2 => by
  rcases k.2 with ⟨k1, _⟩ | ⟨g2, cap2, cur2, k1, _, kg, _⟩
  · injection k1 with k1
    rw [k1] at e2; cases e2
  · injection k1 with k1
    rw [k1] at e2
    injection e2 with e2
    simp only at e2
    subst e2
    unfold Cl at h
    rw [h] at kg
    injection kg with kg
    injection kg with _ kg
    exact hne kg
theorem cl_ne {ty : TypeId} {w : World} {p b2 m d : Nat} {A : Option Addr} {us : Array Value} {xs : List UInt8} (h : Cl w p us ty) (k : Own 5 w b2 A m d xs) (hne : ty ≠ 5) : blk A ≠ some p := cl_row h k hne
theorem Cl.grown {w w' : World} {p : Nat} {us : Array Value} {ty : TypeId} {row : Option Nat} (h : Cl w p us ty) (hg : w.grownBy w' row) (hne : row ≠ some p) : Cl w' p us ty := by
  obtain ⟨_, _, _, h4, h5⟩ := hg
  exact (h5 p h.lt (fun e => hne e.symm)).trans h
theorem rdPre2 {e : TypeId} {w : World} {base g n k : Nat} {xs : List UInt8} (h : Own e w base (some ⟨g, 0, none⟩) (n + 40) (n + 40) (xs ++ room n k)) (hx : xs.length = n) : Rd w (some ⟨g, 0, none⟩) n xs := by
  have := (h.prefix n (by omega) (by simp)).rd
  rw [List.take_left' hx] at this
  exact this
theorem ownV_box2 (w : World) (t : TypeId) (base : Nat) (vs : List Value) (n : Nat) (hl : vs.length = n) (hn : n ≤ 1024) (hb : base ≤ w.heap.size) (cs : Array Value) (hc : cs = vs.toArray) : OwnV t (w.alloc (.cells cs t)) base (some ⟨w.heap.size, 0, none⟩) n n vs := by
  subst hc
  refine ⟨by simp [hl], .inr ⟨w.heap.size, n, vs.toArray, rfl, hb, heap_alloc_new w _, Nat.le_refl _, by unfold maxLen; omega, by simp [hl], ?_⟩⟩
  simp only [Nat.mul_one]
  exact List.take_of_length_le (by simp [hl])
theorem mem_own2 {w : World} {base : Nat} {ps : List VB} (h : Fam w base ps) {A : Option Addr} {m c : Nat} {xs : List UInt8} (hp : (Value.slice A m c, xs) ∈ ps) : Own 5 w base A m c xs := by
  obtain ⟨A', m', c', e, ho⟩ := h.1 _ hp
  injection e with e1 e2 e3
  subst e1 e2 e3
  exact ho
section
variable {w w' : World} {base : Nat} {ps qs : List VB}
theorem Fam.off_cl (h : Fam w base ps) {p : Nat} {us : Array Value} {ty : TypeId} (hp : Cl w p us ty) (hne : ty ≠ 5) : OffF ps p := fun q hq e => by
  obtain ⟨A, m, c, e1, ho⟩ := h.1 q hq
  rw [e1, own_blk] at e
  exact cl_ne hp ho hne e
theorem Fam.off_row (h : Fam w base ps) {t : TypeId} {b1 n c : Nat} {L : Option Addr} {vs : List Value} (hl : OwnV t w b1 L n c vs) (hne : t ≠ 5) : ∀ b, blk L = some b → OffF ps b := fun b hb q hq e => by
  obtain ⟨A, m, d, e1, ho⟩ := h.1 q hq
  rw [e1, own_blk] at e
  exact ownV_ne hl ho hne b hb e
theorem Fam.perm (h : Fam w base ps) (hp : ps.Perm qs) : Fam w base qs :=
  ⟨fun p hq => h.1 p (hp.mem_iff.2 hq), h.2.perm hp (fun {_ _} hab => Ap.symm hab)⟩
theorem Fam.app {base' : Nat} (h : Fam w base ps) (hn : Fam w' base' qs) (hb : Below w.heap.size w w') (h1 : w.heap.size ≤ base') (h2 : base ≤ base') : Fam w' base (ps ++ qs) := by
  have h0 : Fam w base (ps ++ []) := by rw [List.append_nil]; exact h
  have := Fam.ins h0 hn hb h1 h2
  rw [List.append_nil] at this
  exact this
theorem OffF.app {p : Nat} (h : OffF ps p) (k : OffF qs p) : OffF (ps ++ qs) p := fun q hq => by
  rcases List.mem_append.1 hq with h1 | h1
  · exact h q h1
  · exact k q h1
end
/-- One values more appended onto a row of one-cell values at a step of a region that draws its order. -/
theorem step_appV {P : Program} (w : World) {ops : Array Oper} {o : Oper} {a : Act} {K : Act → World → Prop} {Q : Exit → Act → World → Prop} {E : Prop} (hgd : o.guard = none) (s x : Operand) (tt : TypeId)
    (ho : o.op = .call { callee := .builtin .append, args := #[s, x], argTypes := #[tt, tt] })
    (base : Nat) (t : TypeId) (z : Value) (by_ : Nat) (ht : P.underlying tt = some (.slice t)) (hi : (P.info? t).map (fun i => (i.zero, i.size, i.bytes)) = some (some z, 1, by_)) (hz1 : z.cells.size = 1)
    (A : Option Addr) (n c : Nat) (vs : List Value) (hs : a.eval s = .slice A n c) (hown : OwnV t w base A n c vs)
    (ad : Addr) (m d : Nat) (ys : List Value) (hx : a.eval x = .slice (some ad) m d) (hr : RdV w (some ad) m ys) (hm : 0 < m) (h1 : ∀ u ∈ ys, u.oneCell' = true)
    (hn : n + m ≤ maxLen) (hby : (n + m) * by_ ≤ 140737488355328) (hbase : base ≤ w.heap.size)
    (h : ∀ A' c' w', OwnV t w' base A' (n + m) c' (vs ++ ys) → w.grownBy w' (blk A) → K (a.put o.dst (.slice A' (n + m) c')) w') :
    if Region.wanted o (yielded ops a.tmps) = true then Oper.wp P o a w K Q else E := by
  have hw : Region.wanted o (yielded ops a.tmps) = true := by simp [Region.wanted, hgd]
  rw [if_pos hw]
  obtain ⟨i, hi, hz, hsz, hby2⟩ := info_parts hi
  obtain ⟨b, off, e, _, hc⟩ := hr.2 hm
  injection e with e
  subst e
  refine wp_append_own w s x tt ho base t i z 1 by_ ht hi hz hsz hby2 hz1 (by decide) (.slice A n c) n vs hs hown ⟨b, off, none⟩ m d ys hx (by simp [hr.1]) (fun j u hj => by rw [Addr.add_lit]; exact hc j u hj) h1 hn hby hbase ?_
  intro v' w' k1 k2 _
  obtain ⟨A', c', rfl⟩ : ∃ A' c', v' = .slice A' (n + m) c' := by
    rcases k1.2 with ⟨h3, h4⟩ | ⟨g, cap, cur, h3, _⟩
    · exact ⟨none, 0, by rw [h3, h4]⟩
    · exact ⟨_, _, h3⟩
  rw [own_blk] at k2
  exact h A' c' w' k1 k2
/-- Two lists of pairs, a pair of each by turns. -/
def inter {α : Type} : List α → List α → List α
  | a :: b :: r, c :: d :: s => a :: b :: c :: d :: inter r s
  | _, _ => []
theorem four_of {vs : List Value} {k : Nat} (h : vs.length = (k + 1) * 4) : ∃ v0 v1 v2 v3 r, vs = v0 :: v1 :: v2 :: v3 :: r ∧ r.length = k * 4 := by
  match vs, h with
  | [], h => simp at h
  | [_], h => simp at h; omega
  | [_, _], h => simp at h; omega
  | [_, _, _], h => simp at h; omega
  | a :: b :: c :: d :: r, h => exact ⟨a, b, c, d, r, rfl, by simp only [List.length_cons] at h; omega⟩
theorem inter_perm : ∀ (es : List En) {vs us : List Value}, vs.length = es.length * 4 → us.length = es.length * 4 → (pairE es vs ++ pairE es us).Perm (inter (pairE es vs) (pairE es us))
  | [], vs, us, _, _ => by simp [pairE, inter]
  | e :: es, vs, us, h1, h2 => by
    obtain ⟨v0, v1, v2, v3, r, rfl, hr⟩ := four_of h1
    obtain ⟨u0, u1, u2, u3, s, rfl, hs⟩ := four_of h2
    have ih := inter_perm es (vs := r) (us := s) hr hs
    simp only [pairE, inter, List.cons_append]
    refine .cons _ (.cons _ ?_)
    refine List.Perm.trans ?_ (.cons _ (.cons _ ih))
    have p1 : (pairE es r ++ (u0, e.key) :: (u3, e.val) :: pairE es s).Perm ((u0, e.key) :: (pairE es r ++ (u3, e.val) :: pairE es s)) := List.perm_middle
    exact p1.trans (.cons _ List.perm_middle)
theorem inter_take : ∀ (es : List En) {vs us : List Value} (i : Nat) {v0 v3 u0 u3 : Value}, vs.length = es.length * 4 → us.length = es.length * 4 → vs[i * 4]? = some v0 → vs[i * 4 + 3]? = some v3 → us[i * 4]? = some u0 → us[i * 4 + 3]? = some u3 → i < es.length →
    ((inter (pairE es vs) (pairE es us)).take (4 * (i + 1))).map (·.1) = ((inter (pairE es vs) (pairE es us)).take (4 * i)).map (·.1) ++ [v0, v3, u0, u3]
  | [], _, _, i, _, _, _, _, _, _, _, _, _, _, hi => by simp at hi
  | e :: es, vs, us, i, v0, v3, u0, u3, hv, hu, h0, h3, k0, k3, hi => by
    obtain ⟨x0, x1, x2, x3, r, rfl, hr⟩ := four_of hv
    obtain ⟨y0, y1, y2, y3, s, rfl, hs⟩ := four_of hu
    cases i with
    | zero =>
      simp at h0 h3 k0 k3
      subst h0 h3 k0 k3
      simp [pairE, inter]
    | succ i =>
      simp only [List.length_cons] at hi
      have e0 : (i + 1) * 4 = i * 4 + 4 := by omega
      have e3 : (i + 1) * 4 + 3 = i * 4 + 3 + 4 := by omega
      rw [e0] at h0 k0
      rw [e3] at h3 k3
      have ih := inter_take es (vs := r) (us := s) i hr hs (by simpa using h0) (by simpa using h3) (by simpa using k0) (by simpa using k3) (by omega)
      have e4 : 4 * (i + 1 + 1) = 4 * (i + 1) + 4 := by omega
      have e5 : 4 * (i + 1) = 4 * i + 4 := by omega
      simp only [pairE, inter]
      rw [e4]
      simp only [List.take_succ_cons, List.map_cons]
      rw [ih, e5]
      simp only [List.take_succ_cons, List.map_cons, List.cons_append]
theorem pairE_len : ∀ (es : List En) {vs : List Value}, vs.length = es.length * 4 → (pairE es vs).length = es.length * 2
  | [], vs, h => by simp [pairE]
  | e :: es, vs, h => by
    obtain ⟨x0, x1, x2, x3, r, rfl, hr⟩ := four_of h
    have := pairE_len es (vs := r) hr
    simp only [pairE, List.length_cons]
    omega
theorem inter_all (es : List En) {vs us : List Value} (hv : vs.length = es.length * 4) (hu : us.length = es.length * 4) : (inter (pairE es vs) (pairE es us)).take (4 * es.length) = inter (pairE es vs) (pairE es us) := by
  have h := (inter_perm es hv hu).length_eq
  rw [List.length_append, pairE_len es hv, pairE_len es hu] at h
  exact List.take_of_length_le (by omega)
theorem pairE_sz : ∀ {es : List En} {vs : List Value} {q : VB}, q ∈ pairE es vs → ∃ e ∈ es, q.2 = e.key ∨ q.2 = e.val
  | e :: es, x0 :: x1 :: x2 :: x3 :: r, q, h => by
    unfold pairE at h
    simp only [List.mem_cons] at h
    rcases h with rfl | rfl | h
    · exact ⟨e, by simp, .inl rfl⟩
    · exact ⟨e, by simp, .inr rfl⟩
    · obtain ⟨x, hx, k⟩ := pairE_sz h
      exact ⟨x, by simp [hx], k⟩
theorem ownE_kept {w w' : World} {base n c : Nat} {A : Option Addr} {vs : List Value} {row : Option Nat} (h : OwnE w base A n c vs) (hg : w.grownBy w' row) (hne : ∀ b, blk A = some b → row ≠ some b) : OwnE w' base A n c vs := by
  refine World.ownsRow.kept h hg ?_
  rw [own_blk]
  cases hb : blk A with
  | none => exact .inl rfl
  | some b => exact .inr (fun e => hne b hb e.symm)
theorem eos_of_fam {w0 w : World} {b0 base : Nat} : ∀ {es : List En} {vs : List Value}, EOs b0 w0 es vs → (∀ q ∈ pairE es vs, ∃ A m c, q.1 = .slice A m c ∧ Own 5 w base A m c q.2) → EOs base w es vs
  | [], _, h, _ => h
  | e :: es, _, h, hf => by
    obtain ⟨v0, v1, v2, v3, r, rfl, ⟨K, kn, kc, V, vn, vc, rfl, rfl, rfl, rfl, o1, o2, u⟩, h2⟩ := h
    obtain ⟨A, m, c, e1, p1⟩ := hf (.slice K kn kc, e.key) (by simp [pairE])
    obtain ⟨B, n, d, e2, p2⟩ := hf (.slice V vn vc, e.val) (by simp [pairE])
    have p1' : Own 5 w base K kn kc e.key := by
      have e1' : Value.slice K kn kc = Value.slice A m c := e1
      injection e1' with a1 a2 a3
      subst a1 a2 a3
      exact p1
    have p2' : Own 5 w base V vn vc e.val := by
      have e2' : Value.slice V vn vc = Value.slice B n d := e2
      injection e2' with a1 a2 a3
      subst a1 a2 a3
      exact p2
    exact ⟨_, _, _, _, r, rfl, ⟨K, kn, kc, V, vn, vc, rfl, rfl, rfl, rfl, p1', p2', u⟩, eos_of_fam h2 (fun q hq => hf q (by simp [pairE, hq]))⟩
theorem long_ok {x : En} (h : okE x = true) : x.key.length ≤ 1024 ∧ x.val.length ≤ 65536 := by
  have := (okE_iff.1 h).1
  unfold longE at this
  simp at this
  omega
end Go.Proofs.Ytgigohfjioifaaa
