/- The fixed fact of layer 7's statements holds. -/
import Derived.Test.YtheefpgokdejcaaTrG
import Derived.Lib.SmallJoins
namespace Go.Proofs.Ytheefpgokdejcaa
open Go Go.RowKit

theorem ownV_boxE (w : World) (t : TypeId) (base : Nat) (vs : List Value) (n : Nat) (hl : vs.length = n) (hn : n ≤ 1024) (hb : base ≤ w.heap.size) (cs : Array Value) (hc : cs = vs.toArray) (g : Nat) (hg : g = w.heap.size) : OwnV t (w.alloc (.cells cs t)) base (some ⟨g, 0, none⟩) n n vs := by
  subst hc hg
  refine ⟨by simp [hl], .inr ⟨w.heap.size, n, vs.toArray, rfl, hb, heap_alloc_new w _, Nat.le_refl _, by unfold maxLen; omega, by simp [hl], ?_⟩⟩
  simp only [Nat.mul_one]
  exact List.take_of_length_le (by simp [hl])
/-- A box with bytes, as a constant text turned into bytes lays it. -/
theorem Rd.cst7 (w : World) (e : TypeId) (n : Nat) (xs : List UInt8) (hn : xs.length = n) (vs : Array Value) (hv : vs = (xs.map cv).toArray) (fr : Nat × Nat) (g : Nat) (hg : g = w.heap.size) :
    Rd (w.alloc (.cells vs e fr)) (some ⟨g, 0, none⟩) n xs := by
  subst hv hg
  refine ⟨hn, fun _ => ⟨w.heap.size, 0, rfl, by simp, fun i x hx => ?_⟩⟩
  have h := cell_of_row (w.alloc (.cells (xs.map cv).toArray e fr)) w.heap.size (0 + i) (xs.map cv).toArray e fr (heap_alloc_new w _)
  rw [h]
  simp [hx, cv]

def e71 : En := ⟨[97], 1, 1, [120]⟩
def e72 : En := ⟨[97], 3, 2, []⟩
def t7 : Tr := .node (.node .nil e72 .nil) e71 .nil
theorem put7 : putZ .nil [e71, e72] = (0, t7) := rfl
theorem get7 : tabGet t7 [97] 2 = some e71 := rfl
theorem num7 : t7.num = 2 := rfl
theorem sz7 : t7.sz = 3 := rfl
set_option maxRecDepth 100000 in
set_option maxHeartbeats 4000000 in
theorem awake7_any (w : World) : Calls Try.prog 15 #[] w (RetT w true) := by
  have kc := fun (w : World) (C : Array Value) (n c g : Nat) (hg : g = w.heap.size) => Joins.run_convert_bytes_const_at (P := Try.prog) w 35 5 C n c g hg Try.underlying35 Try.underlying5
  go_enter Try.func15, Try.ntmps15
  go_wp2_with fail
  with_reducible refine (memNew_any (fun _ => True) w).mono ?_
  rintro e w1 ⟨rfl, ht, b1⟩
  have s1 := b1.size
  go_wp2_with fail
  obtain ⟨W, hW⟩ : ∃ W, W = (((w1.alloc (.cells #[.int .u8 97] 5 (1, 2))).alloc (.cells #[.int .u8 120] 5 (1, 2))).alloc (.cells #[.int .u8 97] 5 (1, 2))).alloc (.cells #[.slice (some ⟨w1.heap.size, 0, none⟩) 1 1, .int .u64 1, .int .u8 1, .slice (some ⟨w1.heap.size + 1, 0, none⟩) 1 1, .slice (some ⟨w1.heap.size + 1 + 1, 0, none⟩) 1 1, .int .u64 3, .int .u8 2, .slice none 0 0] 38) := ⟨_, rfl⟩
  rw [← hW]
  have bW : Below w1.heap.size w1 W := by rw [hW]; exact ((((Below.refl _ _).alloc (Nat.le_refl _) _).alloc (by simp) _).alloc (by simp; omega) _).alloc (by simp; omega) _
  have sW : w1.heap.size ≤ W.heap.size := bW.size
  have r1 : Rd W (some ⟨w1.heap.size, 0, none⟩) 1 [97] := by rw [hW]; exact (((Rd.cst7 w1 _ 1 [97] rfl _ rfl (1, 2) _ rfl).alloc _).alloc _).alloc _
  have r2 : Rd W (some ⟨w1.heap.size + 1, 0, none⟩) 1 [120] := by rw [hW]; exact ((Rd.cst7 _ _ 1 [120] rfl _ rfl (1, 2) _ (by simp)).alloc _).alloc _
  have r3 : Rd W (some ⟨w1.heap.size + 1 + 1, 0, none⟩) 1 [97] := by rw [hW]; exact (Rd.cst7 _ _ 1 [97] rfl _ rfl (1, 2) _ (by simp)).alloc _
  have rV : RdV W (some ⟨w1.heap.size + 1 + 1 + 1, 0, none⟩) 8 [.slice (some ⟨w1.heap.size, 0, none⟩) 1 1, .int .u64 1, .int .u8 1, .slice (some ⟨w1.heap.size + 1, 0, none⟩) 1 1, .slice (some ⟨w1.heap.size + 1 + 1, 0, none⟩) 1 1, .int .u64 3, .int .u8 2, .slice none 0 0] := by rw [hW]; exact (ownV_boxE _ _ 0 _ 8 rfl (by omega) (Nat.zero_le _) _ rfl _ (by simp)).rd
  have hev1 : EV W e71 (.slice (some ⟨w1.heap.size, 0, none⟩) 1 1) (.int .u64 1) (.int .u8 1) (.slice (some ⟨w1.heap.size + 1, 0, none⟩) 1 1) := ⟨rfl, rfl, by unfold e71 U64; simp, by unfold e71; simp, ⟨_, 1, 1, rfl, r1, by omega, fun h => by cases h⟩, ⟨_, 1, 1, rfl, r2, by omega, fun h => by cases h⟩⟩
  have hev2 : EV W e72 (.slice (some ⟨w1.heap.size + 1 + 1, 0, none⟩) 1 1) (.int .u64 3) (.int .u8 2) (.slice none 0 0) := ⟨rfl, rfl, by unfold e72 U64; simp, by unfold e72; simp, ⟨_, 1, 1, rfl, r3, by omega, fun h => by cases h⟩, ⟨_, 0, 0, rfl, Rd.nil _ _, by omega, fun _ => rfl⟩⟩
  have hes : REs W (some ⟨w1.heap.size + 1 + 1 + 1, 0, none⟩) 2 [e71, e72] := REs.mk (vs := [_, _, _, _] ++ [_, _, _, _]) (EVs.app (EVs.one hev1) (EVs.one hev2)) rV rfl
  have BW := Lib.hid (b1.trans (bW.mono s1))
  have HP : Hid (Calls Try.prog 19 #[.pointer (some ⟨w.heap.size, 0, none⟩), .slice (some ⟨w1.heap.size + 1 + 1 + 1, 0, none⟩) 2 2] W (RetPt pl3 (fun _ => True) W w.heap.size (putZ .nil [e71, e72]))) := Lib.hid (tabPut_any (ht.below bW) hes (by omega) (fun x hx => by
      simp only [List.mem_cons, List.not_mem_nil, or_false] at hx
      rcases hx with rfl | rfl <;> exact ⟨by simp [e71, e72], by simp [e71, e72]⟩) (by simp [Tr.num]) (by simp [Tr.sz, Tr.list, szL, wE, e71, e72]) (fun _ _ => trivial))
  rw [put7] at HP
  clear hW bW r1 r2 r3 rV hev1 hev2 hes ht b1 s1 sW
  with_reducible refine HP.out.mono ?_
  rintro e w2 ⟨rfl, ht2, g2⟩
  have b2 : Below w.heap.size w w2 := BW.out.grown g2 BW.out.size (fun k hk => by injection hk with hk; omega)
  have HT2 := Lib.hid ht2
  have B2 := Lib.hid b2
  have s2 := b2.size
  clear HP ht2 b2 g2
  go_wp2_with fail
  have HG : Hid (Calls Try.prog 25 #[.pointer (some ⟨w.heap.size, 0, none⟩), .slice (some ⟨w2.heap.size, 0, none⟩) 1 1, .int .u64 2] (w2.alloc (.cells #[.int .u8 97] 5 (1, 2))) (RetGt (w2.alloc (.cells #[.int .u8 97] 5 (1, 2))) (some e71))) := Lib.hid (by
    rw [← get7]
    exact tabGet_any (at_ := 2) (HT2.out.below ((Below.refl _ _).alloc (Nat.le_refl _) _)) (fun x hx => by
      simp only [t7, Tr.list, List.nil_append, List.cons_append, List.mem_cons, List.not_mem_nil, or_false] at hx
      rcases hx with rfl | rfl <;> exact ⟨by simp [e71, e72], by simp [e71, e72]⟩) (Rd.cst7 w2 _ 1 [97] rfl _ rfl (1, 2) _ rfl) (by omega) (fun h => by cases h) (by unfold U64; simp))
  have ba : Below w.heap.size w (w2.alloc (.cells #[.int .u8 97] 5 (1, 2))) := B2.out.alloc s2 _
  have ta : TB pl3 (fun _ => True) (w2.alloc (.cells #[.int .u8 97] 5 (1, 2))) w.heap.size t7 := HT2.out.below ((Below.refl _ _).alloc (Nat.le_refl _) _)
  obtain ⟨Wa, hWa⟩ : ∃ Wa, Wa = w2.alloc (.cells #[.int .u8 97] 5 (1, 2)) := ⟨_, rfl⟩
  rw [← hWa] at HG ba ta
  rw [← hWa]
  clear hWa
  with_reducible refine HG.out.mono ?_
  intro e w3 hq
  rcases hq with ⟨h, _⟩ | ⟨x, K, kn, kc', V, vn, vc, hx, rfl, _, _, b3, _⟩
  · cases h
  have hx : x = e71 := by injection hx with hx; exact hx.symm
  subst hx
  have B3 := Lib.hid (belowT ba b3)
  have T3 := Lib.hid (ta.below b3)
  have s3 := B3.out.size
  clear ba ta b3 HG
  go_upto_region 5 with (fail)
  obtain ⟨W4, hW4⟩ : ∃ W4, W4 = w3.alloc (.cells #[.slice K kn kc', .int .u64 (e71.seq : Int), .int .u8 (e71.kind : Int), .slice V vn vc] 38) := ⟨_, rfl⟩
  rw [← hW4]
  have b4 : Below w3.heap.size w3 W4 := by rw [hW4]; exact (Below.refl _ _).alloc (Nat.le_refl _) _
  have x4 : Cl W4 w3.heap.size #[.slice K kn kc', .int .u64 1, .int .u8 (e71.kind : Int), .slice V vn vc] 38 := by rw [hW4]; exact Cl.new _ _ _
  have HL : Hid (Calls Try.prog 22 #[.pointer (some ⟨w.heap.size, 0, none⟩)] W4 (RetNu W4 2)) := Lib.hid (len_any (T3.out.below b4))
  have HZ : Hid (∀ wx, Below W4.heap.size W4 wx → Calls Try.prog 23 #[.pointer (some ⟨w.heap.size, 0, none⟩)] wx (RetNu wx 3)) := Lib.hid (fun wx h => size_any ((T3.out.below b4).below h))
  have B4 := Lib.hid (belowT B3.out b4)
  obtain ⟨x0, x1, x2, x3, _⟩ := x4.c4
  clear hW4 b4 x4
  go_wp2_with fail
  with_reducible refine HL.out.mono ?_
  rintro e w5 ⟨rfl, b5⟩
  have B5 := Lib.hid (belowT B4.out b5)
  have HZ5 := Lib.hid (HZ.out w5 b5)
  clear b5 HL HZ
  go_wp2_with fail
  with_reducible refine HZ5.out.mono ?_
  rintro e w6 ⟨rfl, b6⟩
  have B6 := Lib.hid (belowT B5.out b6)
  clear b6 HZ5
  go_wp2
  go_ret
  exact ⟨rfl, B6.out⟩
end Go.Proofs.Ytheefpgokdejcaa
