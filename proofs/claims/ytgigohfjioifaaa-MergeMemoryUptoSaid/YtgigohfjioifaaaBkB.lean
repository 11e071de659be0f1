/- What block's appendEntry appends. No condition but sizes. -/
import Derived.Test.YtgigohfjioifaaaBkA
namespace Go.Proofs.Ytgigohfjioifaaa
open Go Go.RowKit

theorem ClG.grown {w w' : World} {p : Nat} {us : Array Value} {ty : TypeId} {row : Option Nat} (h : Cl w p us ty) (hg : w.grownBy w' row) (hne : row ≠ some p) : Cl w' p us ty := by
  obtain ⟨_, _, _, h4, h5⟩ := hg
  exact (h5 p h.lt (fun e => hne e.symm)).trans h
/-- The bytes of an entry of whose key s are left out. -/
def entB (s : Nat) (x : En) : List UInt8 := putU s ++ (putU (x.key.length - s) ++ (putU x.seq ++ ([bt x.kind] ++ (putU x.val.length ++ (x.key.drop s ++ x.val)))))
/-- What stands between two appends: the entry's box, the row so far. -/
def AE (w0 U : World) (g : Nat) (cs : Array Value) (A Ai : Option Addr) (n c : Nat) (xs : List UInt8) (wi : World) : Prop :=
  Cl wi g cs 33 ∧ blk Ai ≠ some g ∧ Own 5 wi w0.heap.size Ai n c xs ∧ Grow U wi A Ai ∧ Below w0.heap.size w0 wi
section
variable {w0 U wi wj : World} {g n c n' c' : Nat} {cs : Array Value} {A Ai Aj : Option Addr} {xs ys : List UInt8}
theorem AE.below (h : AE w0 U g cs A Ai n c xs wi) (hb : Below wi.heap.size wi wj) : AE w0 U g cs A Ai n c xs wj := by
  obtain ⟨h1, h2, h3, h4, h5⟩ := h
  exact ⟨h1.below hb, h2, h3.below hb, h4.trans (Grow.of_below Ai hb), h5.trans (hb.mono h5.size)⟩
theorem AE.app (h : AE w0 U g cs A Ai n c xs wi) (ho : Own 5 wj w0.heap.size Aj n' c' ys) (hg : Grow wi wj Ai Aj) : AE w0 U g cs A Aj n' c' ys wj := by
  obtain ⟨h1, h2, h3, h4, h5⟩ := h
  refine ⟨ClG.grown h1 hg.1 h2, fun e => ?_, ho, h4.trans hg, h5.trans (hg.below h3 h5.size)⟩
  rcases hg.2 with e2 | e2
  · exact h2 (e2.symm.trans e)
  · have := e2 g e
    have := h1.lt
    omega
end
set_option maxRecDepth 100000 in
set_option maxHeartbeats 8000000 in
theorem appendEntry_any {w0 w : World} {x : En} {v0 v1 v2 v3 : Value} (hx : EV w0 x v0 v1 v2 v3) (sx : SzE x) (s : Nat) (hs : s ≤ x.key.length) (A : Option Addr) (n c : Nat) (xs : List UInt8) (ho : Own 5 w w0.heap.size A n c xs) (hb : Below w0.heap.size w0 w) (hn : n ≤ 1099511627776) :
    Calls Try.prog 108 #[.slice A n c, .int .i64 (s : Int), .agg #[v0, v1, v2, v3]] w (RetAp w0.heap.size w A n xs (entB s x)) := by
  obtain ⟨K, kn, kc, V, vn, vc, rfl, rfl, rfl, rfl, r0, r3, c0, c3, d0, d3, s1, s2⟩ := hx.parts
  have l1 := r0.len
  have l2 := r3.len
  have hkn : kn ≤ 1099511627776 := by have := sx.1; omega
  have hvn : vn ≤ 1099511627776 := by have := sx.2; omega
  have hskn : s ≤ kn := by omega
  obtain ⟨U, hU⟩ : ∃ U, U = w.alloc (.cells #[.slice K kn kc, .int .u64 (x.seq : Int), .int .u8 (x.kind : Int), .slice V vn vc] 33) := ⟨_, rfl⟩
  obtain ⟨g, hg⟩ : ∃ g, g = w.heap.size := ⟨_, rfl⟩
  have hsz := hb.size
  have A0 : AE w0 w g #[.slice K kn kc, .int .u64 (x.seq : Int), .int .u8 (x.kind : Int), .slice V vn vc] A A n c xs U := by
    have hbU : Below w.heap.size w U := by rw [hU]; exact (Below.refl _ _).alloc (Nat.le_refl _) _
    refine ⟨by rw [hU, hg]; exact Cl.new _ _ _, fun e => ?_, ho.below hbU, Grow.of_below A hbU, hb.trans (hbU.mono hsz)⟩
    have := (ho.lt g e).2
    omega
  obtain ⟨z, hz⟩ : ∃ z, z = kn - s := ⟨_, rfl⟩
  have r0b : ∀ wi : World, Below w0.heap.size w0 wi → Rd wi (cutA K s kc) z (x.key.drop s) := fun wi hwi => by
    have h := (r0.below hwi).cut hskn (Nat.le_refl kn) c0
    rw [List.take_of_length_le (by omega)] at h
    rw [hz]
    exact h
  have hsl : ∀ W : World, (Instr.slice 22 (.slice K kn kc) (some (.int .i64 (s : Int))) none none).run Try.prog W = .ok (.slice (cutA K s kc) z (kc - s)) W := by
    rw [hz]
    exact cut_l Try.underlying22 elem_bytes size_u8 K hskn
  have hzn : z ≤ 1099511627776 := by omega
  have hsn : s ≤ 1099511627776 := by omega
  have R0 := Lib.hid r0b
  have R3 := Lib.hid r3
  have HL2 := Lib.hid l2
  have hc := A0.1.c4
  rw [hg] at hc
  have hseq : x.seq < 18446744073709551616 := s1
  have hEB : entB s x = putU s ++ (putU z ++ (putU x.seq ++ ([bt x.kind] ++ (putU vn ++ (x.key.drop s ++ x.val))))) := by
    unfold entB
    rw [hz, l1, l2]
  have HE := Lib.hid hEB
  have hdl : (x.key.drop s).length = z := by rw [List.length_drop]; omega
  have HDL := Lib.hid hdl
  have p1 := putU_len64 s (show s < B64 by unfold B64; omega)
  have p2 := putU_len64 z (show z < B64 by unfold B64; omega)
  have p3 := putU_len64 x.seq (show x.seq < B64 from hseq)
  have p5 := putU_len64 vn (show vn < B64 by unfold B64; omega)
  have HA := Lib.hid A0
  clear hx r0 r3 l1 l2 A0 ho r0b hz hEB hdl hs sx hskn
  go_enter Try.func108, Try.ntmps108
  go_wp2_with fail
  rw [← hU]
  refine (PutU_any s _ (by unfold B64; omega)).mono ?_
  rintro e wa1 ⟨P1, m1, d1, rfl, oP1, bP1⟩
  obtain rfl : (putU s).length = m1 := oP1.len
  have HB1 := Lib.hid (HA.out.below bP1)
  have rP1 := oP1.rd
  clear oP1 bP1 HA hc
  go_wp2_with (at_builtin; refine wpList_appX _ rfl _ _ 22 rfl w0.heap.size 5 Try.underlying22 info_u8 A _ _ _ rfl HB1.out.2.2.1 P1 (putU s).length d1 (putU s) rfl rP1 ?_ ?_ ?_)
  · omega
  · exact HB1.out.2.2.2.2.size
  intro A1 c1 w1 o1 g1
  have HA1 := Lib.hid (HB1.out.app o1 g1)
  have hc := HA1.out.1.c4
  rw [hg] at hc
  clear o1 g1 HB1 rP1
  go_wp2_with fail
  refine (PutU_any z _ (by unfold B64; omega)).mono ?_
  rintro e wa2 ⟨P2, m2, d2, rfl, oP2, bP2⟩
  obtain rfl : (putU z).length = m2 := oP2.len
  have HB2 := Lib.hid (HA1.out.below bP2)
  have rP2 := oP2.rd
  clear oP2 bP2 HA1 hc
  go_wp2_with (at_builtin; refine wpList_appX _ rfl _ _ 22 rfl w0.heap.size 5 Try.underlying22 info_u8 A1 _ _ _ rfl HB2.out.2.2.1 P2 (putU z).length d2 (putU z) rfl rP2 ?_ ?_ ?_)
  · omega
  · exact HB2.out.2.2.2.2.size
  intro A2 c2 w2 o2 g2
  have HA2 := Lib.hid (HB2.out.app o2 g2)
  have hc := HA2.out.1.c4
  rw [hg] at hc
  clear o2 g2 HB2 rP2
  go_wp2_with fail
  refine (PutU_any x.seq _ (by unfold B64; omega)).mono ?_
  rintro e wa3 ⟨P3, m3, d3, rfl, oP3, bP3⟩
  obtain rfl : (putU x.seq).length = m3 := oP3.len
  have HB3 := Lib.hid (HA2.out.below bP3)
  have rP3 := oP3.rd
  clear oP3 bP3 HA2 hc
  go_wp2_with (at_builtin; refine wpList_appX _ rfl _ _ 22 rfl w0.heap.size 5 Try.underlying22 info_u8 A2 _ _ _ rfl HB3.out.2.2.1 P3 (putU x.seq).length d3 (putU x.seq) rfl rP3 ?_ ?_ ?_)
  · omega
  · exact HB3.out.2.2.2.2.size
  intro A3 c3 w3 o3 g3
  have HA3 := Lib.hid (HB3.out.app o3 g3)
  have hc := HA3.out.1.c4
  rw [hg] at hc
  clear o3 g3 HB3 rP3
  go_wp2_with (at_builtin; refine wpList_appX _ rfl _ _ 22 rfl w0.heap.size 5 Try.underlying22 info_u8 A3 _ _ _ rfl (HA3.out.2.2.1.alloc _) _ 1 1 [bt x.kind] rfl (Rd.one _ _ _ _ ?_) ?_ ?_ ?_)
  · rw [bt_nat _ (by omega)]
  · omega
  · have := HA3.out.2.2.2.2.size; simp; omega
  intro A4 c4 w4 o4 g4
  have HA4 := Lib.hid ((HA3.out.below ((Below.refl _ _).alloc (Nat.le_refl _) _)).app o4 g4)
  have hc := HA4.out.1.c4
  rw [hg] at hc
  clear o4 g4 HA3
  go_wp2_with fail
  refine (PutU_any vn _ (by unfold B64; omega)).mono ?_
  rintro e wa5 ⟨P5, m5, d5, rfl, oP5, bP5⟩
  obtain rfl : (putU vn).length = m5 := oP5.len
  have HB5 := Lib.hid (HA4.out.below bP5)
  have rP5 := oP5.rd
  clear oP5 bP5 HA4 hc
  go_wp2_with (at_builtin; refine wpList_appX _ rfl _ _ 22 rfl w0.heap.size 5 Try.underlying22 info_u8 A4 _ _ _ rfl HB5.out.2.2.1 P5 (putU vn).length d5 (putU vn) rfl rP5 ?_ ?_ ?_)
  · omega
  · exact HB5.out.2.2.2.2.size
  intro A5 c5 w5 o5 g5
  have HA5 := Lib.hid (HB5.out.app o5 g5)
  have hc := HA5.out.1.c4
  rw [hg] at hc
  clear o5 g5 HB5 rP5
  have rd6 := R0.out _ HA5.out.2.2.2.2
  go_wp2_with (at_builtin; refine wpList_appX _ rfl _ _ 22 rfl w0.heap.size 5 Try.underlying22 info_u8 A5 _ _ _ rfl HA5.out.2.2.1 (cutA K s kc) z (kc - s) (x.key.drop s) rfl rd6 ?_ ?_ ?_)
  · omega
  · exact HA5.out.2.2.2.2.size
  intro A6 c6 w6 o6 g6
  have HA6 := Lib.hid (HA5.out.app o6 g6)
  have hc := HA6.out.1.c4
  rw [hg] at hc
  have rd7 := R3.out.below HA6.out.2.2.2.2
  clear o6 g6 HA5 rd6
  go_wp2_with (at_builtin; refine wpList_appX _ rfl _ _ 22 rfl w0.heap.size 5 Try.underlying22 info_u8 A6 _ _ _ rfl HA6.out.2.2.1 V vn vc x.val rfl rd7 ?_ ?_ ?_)
  · omega
  · exact HA6.out.2.2.2.2.size
  intro A7 c7 w7 o7 g7
  have HA7 := Lib.hid (HA6.out.app o7 g7)
  clear o7 g7 HA6 rd7 hc
  go_wp2_with fail
  go_ret
  obtain ⟨_, _, o, gr, _⟩ := HA7.out
  have hl : (entB s x).length = (putU s).length + (putU z).length + (putU x.seq).length + 1 + (putU vn).length + z + vn := by
    rw [HE.out]
    simp only [List.length_append, List.length_cons, List.length_nil, HDL.out, HL2.out]
    omega
  have hn : n + (entB s x).length = (((((n + (putU s).length) + (putU z).length) + (putU x.seq).length) + 1) + (putU vn).length) + z + vn := by omega
  have hxs : xs ++ entB s x = (((((xs ++ putU s) ++ putU z) ++ putU x.seq) ++ [bt x.kind]) ++ putU vn) ++ x.key.drop s ++ x.val := by
    rw [HE.out]
    simp only [List.append_assoc]
  unfold RetAp
  rw [hn, hxs]
  simp only [List.append_assoc] at o ⊢
  exact ⟨A7, c7, rfl, o, gr⟩
end Go.Proofs.Ytgigohfjioifaaa
