/- utf8.AppendRune and (*strings.Builder).WriteRune write the bytes of a valid rune; copyCheck. Runes that are valid. -/
import Derived.Test.YtdcboeeblbakhaaMem
import Derived.Laws.Externs
import Derived.Laws.BitsLemmas
import Derived.Laws.Bits128
import Derived.Shelf.Strings.Builder1
namespace Go.Proofs.Ytdcboeeblbakhaa
open Go Go.RowKit

/-- The bytes of a rune. -/
def putR (c : Nat) : List UInt8 :=
  if c < 128 then [bt c]
  else if c < 2048 then [bt (192 + c / 64), bt (128 + c % 64)]
  else if c < 65536 then [bt (224 + c / 4096), bt (128 + c / 64 % 64), bt (128 + c % 64)]
  else [bt (240 + c / 262144), bt (128 + c / 4096 % 64), bt (128 + c / 64 % 64), bt (128 + c % 64)]
def VR (c : Nat) : Prop := c ≤ 1114111 ∧ (c < 55296 ∨ 57343 < c)
theorem putR_one {c : Nat} (h : c < 128) : putR c = [bt c] := by rw [putR, if_pos h]
theorem putR_two {c : Nat} (h : ¬ c < 128) (h2 : c < 2048) : putR c = [bt (192 + c / 64), bt (128 + c % 64)] := by rw [putR, if_neg h, if_pos h2]
theorem putR_three {c : Nat} (h : ¬ c < 2048) (h2 : c < 65536) : putR c = [bt (224 + c / 4096), bt (128 + c / 64 % 64), bt (128 + c % 64)] := by
  rw [putR, if_neg (by omega), if_neg h, if_pos h2]
theorem putR_four {c : Nat} (h : ¬ c < 65536) : putR c = [bt (240 + c / 262144), bt (128 + c / 4096 % 64), bt (128 + c / 64 % 64), bt (128 + c % 64)] := by
  rw [putR, if_neg (by omega), if_neg (by omega), if_neg h]
theorem putR_len (c : Nat) : 1 ≤ (putR c).length ∧ (putR c).length ≤ 4 := by
  unfold putR
  repeat' split
  all_goals simp

set_option maxRecDepth 100000 in
set_option maxHeartbeats 1000000 in
theorem appendNon_any (A : Option Addr) (n k : Nat) (xs : List UInt8) (base c : Nat) (w : World) (hown : Own 5 w base A n k xs) (hbase : base ≤ w.heap.size)
    (hn : n ≤ 140737488355318) (hc : 128 ≤ c) (hv : VR c) :
    Calls Try.prog 55 #[.slice A n k, .int .i32 c] w (Made base w (xs ++ putR c)) := by
  obtain ⟨h1, h2⟩ := hv
  have Hn := Lib.hid hn
  clear hn
  have done : ∀ (A2 : Option Addr) (m c2 : Nat) (ys : List UInt8) (w2 : World) (o : Obj), putR c = ys → Own 5 w2 base A2 m c2 (xs ++ ys) → Below base (w.alloc o) w2 →
      Made base w (xs ++ putR c) (.returned (.slice A2 m c2)) w2 := fun A2 m c2 ys w2 o e h3 h4 => ⟨A2, m, c2, rfl, by rw [e]; exact h3, ((Below.refl _ _).alloc hbase _).trans h4⟩
  have D := Lib.hid done
  clear done
  have H2 := Lib.hid h2
  clear h2
  by_cases h3 : c < 2048
  · have e := Lib.hid (putR_two (c := c) (by omega) h3)
    go_enter Try.func55, Try.ntmps55
    go_wp2_with (at_builtin; refine wpList_app _ rfl _ _ 23 rfl base 5 Try.underlying23 info_u8 A n k xs rfl (hown.alloc _) _ 2 2 [bt (192 + c / 64), bt (128 + c % 64)] rfl (Rd.lit _ _ 2 _ rfl _ ?_) ?_ ?_ ?_)
    · simp only [cv, List.map_cons, List.map_nil]
      rw [bt_nat _ (by omega), bt_nat _ (by omega)]
      simp
    · have := Hn.out; omega
    · simp; omega
    · intro A2 c2 w2 ho2 hb2
      go_wp2
      go_ret
      exact D.out _ _ _ _ _ _ e.out ho2 hb2
  · by_cases h4 : c < 65536
    · by_cases h5 : c < 55296
      · have e := Lib.hid (putR_three (c := c) h3 h4)
        obtain ⟨r, hr⟩ : ∃ r : Int, r = (c : Int) := ⟨_, rfl⟩
        have g1 : 2048 ≤ r := by omega
        have g2 : r < 55296 := by omega
        rw [← hr]
        have R := Lib.hid hr
        clear h3 h4 h1 hc H2 h5 hr
        go_enter Try.func55, Try.ntmps55
        go_wp2_with (at_builtin; refine wpList_app _ rfl _ _ 23 rfl base 5 Try.underlying23 info_u8 A n k xs rfl (hown.alloc _) _ 3 3 [bt (224 + c / 4096), bt (128 + c / 64 % 64), bt (128 + c % 64)] rfl (Rd.lit _ _ 3 _ rfl _ ?_) ?_ ?_ ?_)
        · have hr := R.out
          simp only [cv, List.map_cons, List.map_nil]
          rw [bt_nat _ (by omega), bt_nat _ (by omega), bt_nat _ (by omega)]
          simp [hr]
        · have := Hn.out; omega
        · simp; omega
        · intro A2 c2 w2 ho2 hb2
          go_wp2
          go_ret
          exact D.out _ _ _ _ _ _ e.out ho2 hb2

      · have q0 : 57343 < c := by have := H2.out; omega
        have e := Lib.hid (putR_three (c := c) h3 h4)
        obtain ⟨r, hr⟩ : ∃ r : Int, r = (c : Int) := ⟨_, rfl⟩
        have g1 : 57343 < r := by omega
        have g2 : r ≤ 65535 := by omega
        rw [← hr]
        have R := Lib.hid hr
        clear h3 h4 h5 h1 hc H2 hr q0
        go_enter Try.func55, Try.ntmps55
        go_wp2_with (at_builtin; refine wpList_app _ rfl _ _ 23 rfl base 5 Try.underlying23 info_u8 A n k xs rfl (hown.alloc _) _ 3 3 [bt (224 + c / 4096), bt (128 + c / 64 % 64), bt (128 + c % 64)] rfl (Rd.lit _ _ 3 _ rfl _ ?_) ?_ ?_ ?_)
        · have hr := R.out
          simp only [cv, List.map_cons, List.map_nil]
          rw [bt_nat _ (by omega), bt_nat _ (by omega), bt_nat _ (by omega)]
          simp [hr]
        · have := Hn.out; omega
        · simp; omega
        · intro A2 c2 w2 ho2 hb2
          go_wp2
          go_ret
          exact D.out _ _ _ _ _ _ e.out ho2 hb2

    · have e := Lib.hid (putR_four (c := c) h4)
      obtain ⟨r, hr⟩ : ∃ r : Int, r = (c : Int) := ⟨_, rfl⟩
      have g1 : 65535 < r := by omega
      have g2 : r ≤ 1114111 := by omega
      rw [← hr]
      have R := Lib.hid hr
      clear h3 h4 h1 hc H2 hr
      go_enter Try.func55, Try.ntmps55
      go_wp2_with (at_builtin; refine wpList_app _ rfl _ _ 23 rfl base 5 Try.underlying23 info_u8 A n k xs rfl (hown.alloc _) _ 4 4 [bt (240 + c / 262144), bt (128 + c / 4096 % 64), bt (128 + c / 64 % 64), bt (128 + c % 64)] rfl (Rd.lit _ _ 4 _ rfl _ ?_) ?_ ?_ ?_)
      · have hr := R.out
        simp only [cv, List.map_cons, List.map_nil]
        rw [bt_nat _ (by omega), bt_nat _ (by omega), bt_nat _ (by omega), bt_nat _ (by omega)]
        simp [hr]
      · have := Hn.out; omega
      · simp; omega
      · intro A2 c2 w2 ho2 hb2
        go_wp2
        go_ret
        exact D.out _ _ _ _ _ _ e.out ho2 hb2

set_option maxRecDepth 100000 in
set_option maxHeartbeats 1000000 in
theorem AppendRune_any (A : Option Addr) (n k : Nat) (xs : List UInt8) (base c : Nat) (w : World) (hown : Own 5 w base A n k xs) (hbase : base ≤ w.heap.size)
    (hn : n ≤ 140737488355318) (hv : VR c) :
    Calls Try.prog 50 #[.slice A n k, .int .i32 c] w (Made base w (xs ++ putR c)) := by
  have Hn := Lib.hid hn
  have Hv := Lib.hid hv
  have hc1 : c ≤ 1114111 := hv.1
  clear hn hv
  by_cases h : c < 128
  · have e := Lib.hid (putR_one (c := c) h)
    go_enter Try.func50, Try.ntmps50
    go_wp2_with (at_builtin; refine wpList_app _ rfl _ _ 23 rfl base 5 Try.underlying23 info_u8 A n k xs rfl (hown.alloc _) _ 1 1 [bt c] rfl (Rd.one _ _ _ _ ?_) ?_ ?_ ?_)
    · rw [bt_nat _ (by omega)]
    · have := Hn.out; omega
    · simp; omega
    · intro A2 c2 w2 ho2 hb2
      go_wp2
      go_ret
      exact ⟨A2, n + 1, c2, rfl, by rw [e.out]; exact ho2, ((Below.refl _ _).alloc hbase _).trans hb2⟩
  · go_enter Try.func50, Try.ntmps50
    go_wp2_with (go_at_call 55; refine (appendNon_any A n k xs base c w hown hbase Hn.out (by omega) Hv.out).mono ?_; rintro e w' ⟨A2, n2, c2, rfl, ho, hb⟩)
    go_ret
    exact ⟨A2, n2, c2, rfl, ho, hb⟩

/-! ### The builder -/
/-- 'The builder at block b holds these bytes, in a row of its own from block B on.' -/
def Bld (w : World) (b B : Nat) (bs : List UInt8) : Prop :=
  ∃ p A n k, w.heap[b]? = some (.cells #[p, .slice A n k] 65 (0, 0)) ∧ (p = .pointer none ∨ p = .pointer (some ⟨b, 0, none⟩)) ∧ Own 5 w B A n k bs
/-- 'Below block B only block b has changed.' -/
def Frm (b B : Nat) (w w' : World) : Prop := w'.os = w.os ∧ w'.tape = w.tape ∧ w'.output = w.output ∧ w.heap.size ≤ w'.heap.size ∧ ∀ k, k < B → k ≠ b → w'.heap[k]? = w.heap[k]?
theorem Frm.refl (b B : Nat) (w : World) : Frm b B w w := ⟨rfl, rfl, rfl, Nat.le_refl _, fun _ _ _ => rfl⟩
theorem Frm.trans {b B : Nat} {a c d : World} (h : Frm b B a c) (k : Frm b B c d) : Frm b B a d :=
  ⟨k.1.trans h.1, k.2.1.trans h.2.1, k.2.2.1.trans h.2.2.1, Nat.le_trans h.2.2.2.1 k.2.2.2.1, fun i h1 h2 => (k.2.2.2.2 i h1 h2).trans (h.2.2.2.2 i h1 h2)⟩
theorem Frm.of {b B : Nat} {w w' : World} (h : Below B w w') : Frm b B w w' := ⟨h.os, h.tape, h.output, h.size, fun k hk _ => h.block k hk⟩
theorem Frm.set_ (b B o : Nat) (w : World) (v : Value) : Frm b B w (w.setCell ⟨b, o, none⟩ v) :=
  ⟨rfl, rfl, rfl, by simp [World.setCell], fun k _ h2 => Below.heap_setCell w ⟨b, o, none⟩ v k h2⟩
theorem Frm.below {b B : Nat} {w w' : World} (h : Frm b B w w') (hb : b ≤ B) : Below b w w' :=
  ⟨h.1, h.2.1, h.2.2.1, h.2.2.2.1, fun k hk => h.2.2.2.2 k (by omega) (by omega)⟩
theorem Own.far {e : TypeId} {w : World} {base n c : Nat} {A : Option Addr} {xs : List UInt8} (h : Own e w base A n c xs) {b o : Nat} (hb : b < base) (v : Value) : Own e (w.setCell ⟨b, o, none⟩ v) base A n c xs := by
  refine ⟨h.1, ?_⟩
  rcases h.2 with h1 | ⟨g, cap, cur, h1, h2, h3, h4⟩
  · exact .inl h1
  · exact .inr ⟨g, cap, cur, h1, h2, (Below.heap_setCell w ⟨b, o, none⟩ v g (by show g ≠ b; omega)).trans h3, h4⟩
theorem block_set {w : World} {b : Nat} {p q v : Value} {t : TypeId} (h : w.heap[b]? = some (.cells #[p, q] t (0, 0))) :
    (w.setCell ⟨b, 0, none⟩ v).heap[b]? = some (.cells #[v, q] t (0, 0)) ∧ (w.setCell ⟨b, 1, none⟩ v).heap[b]? = some (.cells #[p, v] t (0, 0)) := by
  constructor <;> simp [World.setCell, Array.getElem?_modify, h]

theorem size_builder : (Try.prog.info? 65).map (·.size) = some 2 := by kernel_rfl
theorem lies_builder : liesAt Try.prog Try.prog.depth 65 (2 / Try.prog.cellsOf 65) 0 65 1 = true := by kernel_rfl

set_option maxRecDepth 100000 in
set_option maxHeartbeats 1000000 in
theorem copyCheck_any (b B : Nat) (bs : List UInt8) (w : World) (h : Bld w b B bs) (hbB : b < B) :
    Calls Try.prog 49 #[.pointer (some ⟨b, 0, none⟩)] w fun e w' => e = .returned (.tuple #[]) ∧ Bld w' b B bs ∧ Frm b B w w' ∧ w'.heap.size = w.heap.size := by
  obtain ⟨j, hj, hjs⟩ := Option.map_eq_some_iff.1 size_builder
  obtain ⟨p, A, n, k, h1, h2, h3⟩ := h
  have h0 : w.cell? ⟨b, 0, none⟩ = some p := by simp [World.cell?, h1]
  rcases h2 with rfl | rfl
  · have hsh : w.shape? b = some (65, 2) := by simp [World.shape?, h1]
    have hfz : w.frozen? ⟨b, 0, none⟩ = false := by simp [World.frozen?, h1]
    have Q : Hid (Bld (w.setCell ⟨b, 0, none⟩ (.pointer (some ⟨b, 0, none⟩))) b B bs) := Lib.hid ⟨_, A, n, k, (block_set h1).1, .inr rfl, h3.far hbB _⟩
    clear h1 h3
    go_enter Try.func49, Try.ntmps49
    go_wp2
    rw [Lib.run_to_unsafe w ⟨b, 0, none⟩ Try.underlying63 Try.underlying84 hj (by rw [hjs]; decide) hsh (Nat.zero_lt_succ 1)]
    simp only [Result.andThen]
    rw [Oper.upon_value]
    go_wp2
    rw [run_callFunc_extern Try.func54 (by kernel_rfl) (by kernel_rfl) (by kernel_rfl) (e := Extern.AbiNoEscape.same) (by kernel_rfl)]
    rw [Lib.run_noEscape]
    simp only [Result.andThen]
    rw [Oper.upon_value]
    go_wp2
    rw [Lib.run_from_unsafe w ⟨b, 0, none⟩ Try.underlying84 Try.underlying63 hj hsh lies_builder]
    simp only [Result.andThen]
    rw [Oper.upon_value]
    go_wp2
    go_end0
    exact ⟨rfl, Q.out, Frm.set_ _ _ _ _ _, by simp [World.setCell]⟩
  · have Q : Hid (Bld w b B bs) := Lib.hid ⟨_, A, n, k, h1, .inr rfl, h3⟩
    clear h1 h3
    go_enter Try.func49, Try.ntmps49
    go_wp2
    rw [Lib.run_neq_ptr_same w _ Try.underlying63 hj]
    go_wp2
    go_end0
    exact ⟨rfl, Q.out, Frm.refl _ _ _, rfl⟩

def Wrote (b B : Nat) (w : World) (bs : List UInt8) (e : Ending) (w' : World) : Prop :=
  ∃ k : Int, e = .returned (.tuple #[.int .i64 k, .nilIface]) ∧ Bld w' b B bs ∧ Frm b B w w'

set_option maxRecDepth 100000 in
set_option maxHeartbeats 1000000 in
theorem WriteRune_any (b B c : Nat) (bs : List UInt8) (w : World) (h : Bld w b B bs) (hbB : b < B) (hB : B ≤ w.heap.size) (hlen : bs.length ≤ 70368744177664) (hv : VR c) :
    Calls Try.prog 39 #[.pointer (some ⟨b, 0, none⟩), .int .i32 c] w (Wrote b B w (bs ++ putR c)) := by
  have Hv := Lib.hid hv
  have Hl := Lib.hid hlen
  clear hv hlen
  go_enter Try.func39, Try.ntmps39
  go_wp2_with fail
  refine (copyCheck_any b B bs w h hbB).mono ?_
  rintro e w1 ⟨rfl, h1, hf1, hs1⟩
  clear h
  obtain ⟨p, A, n, k, g1, g2, own⟩ := h1
  have hn : n ≤ 70368744177664 := by rw [← own.len]; exact Hl.out
  have hB1 : B ≤ w1.heap.size := by omega
  have G1 := Lib.hid g1
  have c1 : w1.cell? ⟨b, 1, none⟩ = some (.slice A n k) := by simp [World.cell?, g1]
  clear g1
  go_wp2_with fail
  refine (AppendRune_any A n k bs B c _ own hB1 (by omega) Hv.out).mono ?_
  rintro e w2 ⟨A2, n2, k2, rfl, own2, hb2⟩
  have g3 : w2.heap[b]? = some (.cells #[p, .slice A n k] 65 (0, 0)) := (hb2.block b hbB).trans G1.out
  have d1 : w2.cell? ⟨b, 1, none⟩ = some (.slice A n k) := by simp [World.cell?, g3]
  have f1 : w2.frozen? ⟨b, 1, none⟩ = false := by simp [World.frozen?, g3]
  have Q : Hid (Bld (w2.setCell ⟨b, 1, none⟩ (.slice A2 n2 k2)) b B (bs ++ putR c)) := Lib.hid ⟨p, A2, n2, k2, (block_set g3).2, g2, own2.far hbB _⟩
  have F : Hid (Frm b B w (w2.setCell ⟨b, 1, none⟩ (.slice A2 n2 k2))) := Lib.hid ((hf1.trans (Frm.of hb2)).trans (Frm.set_ _ _ _ _ _))
  clear g3 g2 own own2 hb2 hf1 G1
  go_wp2
  go_ret2
  exact ⟨_, rfl, Q.out, F.out⟩

theorem Bld.fresh (w : World) (B : Nat) (_hB : w.heap.size < B) : Bld (w.alloc (.cells #[.pointer none, .slice none 0 0] 65)) w.heap.size B [] :=
  ⟨_, none, 0, 0, heap_alloc_new w _, .inl rfl, Own.nil _ _ _⟩
theorem Bld.lib {w : World} {b B : Nat} {bs : List UInt8} (h : Bld w b B bs) (hbB : b < B) : Lib.IsBuilder 65 5 b b (Lib.byteCells bs) w := by
  obtain ⟨p, A, n, k, h1, h2, h3⟩ := h
  have hl := h3.len
  have ho : Lib.BuilderAt 65 5 b b p (Lib.byteCells bs) w := by
    refine ⟨Nat.le_refl _, .slice A n k, h1, ?_, fun e => ?_⟩
    · have h4 := h3.mono (base' := b) (by omega)
      rw [Lib.byteCells_length, hl]
      exact h4
    · have := (World.ownsRow.lt h3 b e).1
      omega
  rcases h2 with rfl | rfl
  · exact .inl ho
  · exact .inr ho

end Go.Proofs.Ytdcboeeblbakhaa
