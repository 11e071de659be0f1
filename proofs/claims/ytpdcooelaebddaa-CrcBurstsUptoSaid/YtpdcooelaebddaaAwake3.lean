/- The fixed fact of layer 3's statements holds; lists joined. -/
import Derived.Test.YtpdcooelaebddaaAwake
import Derived.Test.YtpdcooelaebddaaCrcU
import Derived.Test.YtpdcooelaebddaaFamC
import Derived.Lib.SmallJoins
namespace Go.Proofs.Ytpdcooelaebddaa
open Go Go.RowKit

theorem crc_ex : crcB [49, 50, 51, 52, 53, 54, 55, 56, 57] = 3421780262 := by decide +kernel

theorem rdl_box {w : World} {t : TypeId} {vs : List Value} {xss : List (List UInt8)} {n : Nat} (hl : vs.length = n) (hx : xss.length = n) (h : ∀ (i : Nat) v x, vs[i]? = some v → xss[i]? = some x → ElB w v x) (cs : Array Value) (hc : cs = vs.toArray) :
    RdL (w.alloc (.cells cs t)) (some ⟨w.heap.size, 0, none⟩) n xss := by
  subst hc
  refine ⟨hx, fun _ => ⟨w.heap.size, 0, rfl, by simp, fun i x hi => ?_⟩⟩
  have hlt := (List.getElem?_eq_some_iff.1 hi).1
  obtain ⟨v, hv⟩ : ∃ v, vs[i]? = some v := ⟨_, List.getElem?_eq_getElem (by omega)⟩
  refine ⟨v, ?_, (h i v x hv hi).below ((Below.refl _ _).alloc (Nat.le_refl _) _)⟩
  rw [cell_of_row (w.alloc (.cells vs.toArray t)) w.heap.size (0 + i) vs.toArray t (0, 0) (heap_alloc_new w _)]
  simp [hv]
theorem rdl_two {w : World} {t : TypeId} {v1 v2 : Value} {x1 x2 : List UInt8} (h1 : ElB w v1 x1) (h2 : ElB w v2 x2) (g : Nat) (hg : g = w.heap.size) : RdL (w.alloc (.cells #[v1, v2] t)) (some ⟨g, 0, none⟩) 2 [x1, x2] := by
  subst hg
  refine rdl_box (vs := [v1, v2]) rfl rfl (fun i v x hv hx => ?_) _ rfl
  match i, hv, hx with
  | 0, hv, hx => simp at hv hx; subst hv hx; exact h1
  | 1, hv, hx => simp at hv hx; subst hv hx; exact h2
  | i + 2, hv, hx => simp at hv
theorem rdl_one {w : World} {t : TypeId} {v1 : Value} {x1 : List UInt8} (h1 : ElB w v1 x1) (g : Nat) (hg : g = w.heap.size) : RdL (w.alloc (.cells #[v1] t)) (some ⟨g, 0, none⟩) 1 [x1] := by
  subst hg
  refine rdl_box (vs := [v1]) rfl rfl (fun i v x hv hx => ?_) _ rfl
  match i, hv, hx with
  | 0, hv, hx => simp at hv hx; subst hv hx; exact h1
  | i + 1, hv, hx => simp at hv

/-- A box with bytes, as a constant text turned into bytes lays it. -/
theorem Rd.cst (w : World) (e : TypeId) (n : Nat) (xs : List UInt8) (hn : xs.length = n) (vs : Array Value) (hv : vs = (xs.map cv).toArray) (fr : Nat × Nat) (g : Nat) (hg : g = w.heap.size) :
    Rd (w.alloc (.cells vs e fr)) (some ⟨g, 0, none⟩) n xs := by
  subst hv hg
  refine ⟨hn, fun _ => ⟨w.heap.size, 0, rfl, by simp, fun i x hx => ?_⟩⟩
  have h := cell_of_row (w.alloc (.cells (xs.map cv).toArray e fr)) w.heap.size (0 + i) (xs.map cv).toArray e fr (heap_alloc_new w _)
  rw [h]
  simp [hx, cv]

set_option maxRecDepth 100000 in
set_option maxHeartbeats 1000000 in
theorem awake3_any (w : World) : Calls Try.prog 12 #[] w (RetT w true) := by
  have kc := fun (w : World) (C : Array Value) (n c g : Nat) (hg : g = w.heap.size) => Joins.run_convert_bytes_const_at (P := Try.prog) w 30 5 C n c g hg Try.underlying30 Try.underlying5
  go_enter Try.func12, Try.ntmps12
  go_wp2_with fail
  have ht : tot [[49, 50, 51, 52, 53], [54, 55, 56, 57]] ≤ 1099511627776 := by simp only [tot, List.length_cons, List.length_nil]; omega
  refine (Sum_any _ 2 2 [[49, 50, 51, 52, 53], [54, 55, 56, 57]] _ (rdl_two ⟨_, 5, 5, rfl, (Rd.cst w _ 5 [49, 50, 51, 52, 53] rfl _ rfl (5, 6) _ rfl).alloc _, by omega, fun h => by cases h⟩ ⟨some ⟨w.heap.size + 1, 0, none⟩, 4, 4, rfl, Rd.cst _ _ 4 [54, 55, 56, 57] rfl _ rfl (4, 5) _ (by simp), by omega, fun h => by cases h⟩ (w.heap.size + 1 + 1) (by simp)) ht).mono ?_
  rintro e w1 ⟨rfl, hb1⟩
  rw [show crcB [[49, 50, 51, 52, 53], [54, 55, 56, 57]].flatten = 3421780262 from crc_ex]
  go_wp2
  go_ret
  refine ⟨rfl, ?_⟩
  exact (((Below.refl _ _).alloc (Nat.le_refl _) _).alloc (by simp) _ |>.alloc (by simp; omega) _).trans (hb1.mono (by simp; omega))

set_option maxRecDepth 100000 in
set_option maxHeartbeats 1000000 in
theorem join3_any (A : Option Addr) (n c : Nat) (xss : List (List UInt8)) (w : World) (hx : RdL w A n xss) (ht : tot xss ≤ 1099511627776) :
    Calls Try.prog 17 #[.slice A n c] w (Made w.heap.size w xss.flatten) := by
  obtain ⟨base, hbase⟩ : ∃ b, b = w.heap.size := ⟨_, rfl⟩
  rw [← hbase]
  have Hw : Hid (base = w.heap.size) := Lib.hid hbase
  clear hbase
  have hn : n ≤ 1099511627776 := by have := tot_len xss; have := hx.len; omega
  go_enter Try.func17, Try.ntmps17
  go_wp2
  go_loopw [3, 8] (fun v i wr => ∃ (P : Option Addr) (m d k : Nat), v = .slice P m d ∧ i = .int .i64 k ∧ k ≤ n ∧ Own 5 wr base P m d (xss.take k).flatten ∧ m ≤ tot (xss.take k) ∧ Below base w wr) (fun _ i _ => n - (intOf i).toNat)
  case atStart => exact ⟨none, 0, 0, 0, rfl, rfl, Nat.zero_le _, Own.nil _ _ _, Nat.zero_le _, Below.refl _ _⟩
  case round =>
    obtain ⟨P, m, d, k, rfl, rfl, hk, op, hm, hb⟩ := hrel
    have hbs := hb.size
    have hbase : base ≤ wr.heap.size := by have := Hw.out; omega
    have hb' : Below w.heap.size w wr := by rw [← Hw.out]; exact hb
    by_cases hlt : k < n
    · obtain ⟨b, off, rfl, hbl⟩ := hx.pos (by omega)
      obtain ⟨x, X, nx, cx, hk1, hc0, rx0, hxc, _⟩ := hx.at_ k hlt
      have hc := (hb'.cell (p := ⟨b, off + k, none⟩) hbl).trans hc0
      have rx := rx0.below hb'
      have hts := tot_snoc hk1
      have htk := tot_take xss (k + 1)
      have HTS := Lib.hid hts
      have hmt : m + nx + 1 ≤ tot (xss.take (k + 1)) := by have := rx.len; omega
      have S : Hid ((xss.take (k + 1)).flatten = (xss.take k).flatten ++ x) := Lib.hid (by rw [List.take_add_one, hk1]; simp)
      clear hk1 hc0 hbl hts
      go_wp2_with (at_builtin; refine wpList_app wr rfl _ _ 30 rfl base 5 Try.underlying30 info_u8 P m d _ rfl op X nx cx x rfl rx ?_ ?_ ?_)
      · omega
      · exact hbase
      · intro A' c' w' h1 h2
        have H1 := Lib.hid h1
        have H2 := Lib.hid h2
        clear h1 h2 op
        go_wp2
        go_roundw
        case rel => exact ⟨A', m + nx, c', k + 1, rfl, by go_num, by omega, by rw [S.out]; exact H1.out, by omega, hb.trans H2.out⟩
        case measure => simp [intOf]; omega
    · obtain rfl : k = n := by omega
      go_wp2
      go_ret
      refine ⟨P, m, d, rfl, ?_, hb⟩
      rw [List.take_of_length_le (by rw [hx.len]; omega)] at op
      exact op
end Go.Proofs.Ytpdcooelaebddaa
