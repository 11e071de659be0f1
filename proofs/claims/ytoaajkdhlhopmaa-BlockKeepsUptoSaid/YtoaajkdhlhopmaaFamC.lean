/- Copies and codec.Parts hand back rows over families: lists that share no memory. -/
import Derived.Test.YtoaajkdhlhopmaaFam
import Derived.Test.YtoaajkdhlhopmaaParts
namespace Go.Proofs.Ytoaajkdhlhopmaa
open Go Go.RowKit

/-- 'It hands back a row of its own over a family that holds these lists.' -/
def MadeF (base : Nat) (w : World) (xss : List (List UInt8)) (e : Ending) (w' : World) : Prop :=
  ∃ A n c ps, e = .returned (.slice A n c) ∧ RowF w base A n c ps w' ∧ ps.map (·.2) = xss
def RetPF (base : Nat) (w : World) (g : List (List UInt8) × Int) (e : Ending) (w' : World) : Prop :=
  ∃ A n c ps, e = .returned (.tuple #[.slice A n c, .int .i64 g.2]) ∧ RowF w base A n c ps w' ∧ ps.map (·.2) = g.1
theorem retPF_some {w w' : World} {base n c : Nat} {A : Option Addr} {ps : List VB} {g : List (List UInt8) × Int} (hg : g = (ps.map (·.2), 0)) (h : RowF w base A n c ps w') : RetPF base w g (.returned (.tuple #[.slice A n c, .int .i64 0])) w' := by
  subst hg
  exact ⟨A, n, c, ps, rfl, h, rfl⟩
theorem retPF_none {w w' : World} {base : Nat} {g : List (List UInt8) × Int} {e : Int} (hg : g = ([], e)) (hb : Below base w w') : RetPF base w g (.returned (.tuple #[.slice none 0 0, .int .i64 e])) w' := by
  subst hg
  exact ⟨none, 0, 0, [], rfl, ⟨OwnV.nil _ _ _, Fam.nil _ _, fun b h => by simp [blk] at h, hb⟩, rfl⟩

set_option maxRecDepth 100000 in
set_option maxHeartbeats 1000000 in
theorem CopiesF_any (A : Option Addr) (n c : Nat) (xss : List (List UInt8)) (w : World) (hx : RdL w A n xss) (ht : tot xss ≤ 268435456) :
    Calls Try.prog 35 #[.slice A n c] w (MadeF w.heap.size w xss) := by
  obtain ⟨base, hbase⟩ : ∃ b, b = w.heap.size := ⟨_, rfl⟩
  rw [← hbase]
  have Hw : Hid (base = w.heap.size) := Lib.hid hbase
  clear hbase
  have hn : n ≤ 268435456 := by have := tot_len xss; have := hx.len; omega
  go_enter Try.func35, Try.ntmps35
  obtain ⟨i0, hi0, z1, z2, z3⟩ := info_parts info_sl
  go_wp2_with (at_make; refine wpList_make_own w rfl _ _ 51 rfl base 22 i0 (.slice none 0 0) 1 Try.underlying51 hi0 z1 z2 .i64 .i64 _ n rfl rfl rfl ?_ ?_ ?_ ?_)
  · rw [z3]; omega
  · unfold maxLen; omega
  · exact Nat.le_of_eq Hw.out
  intro w1 ho1 hg1
  have hr1 : RowF w base (some ⟨w.heap.size, 0, none⟩) 0 n [] w1 := ⟨ho1, Fam.nil _ _, (fun b _ p hp => by cases hp), (Below.refl _ _).grown hg1 (Nat.le_of_eq Hw.out) (fun k hk => by cases hk)⟩
  have HR1 := Lib.hid hr1
  clear ho1 hg1 hr1
  go_wp2
  go_loopw [3, 4] (fun v i wr => ∃ (P : Option Addr) (m d k : Nat) (ps : List VB), v = .slice P m d ∧ i = .int .i64 k ∧ k ≤ n ∧ m = k ∧ RowF w base P m d ps wr ∧ ps.map (·.2) = xss.take k) (fun _ i _ => n - (intOf i).toNat)
  case atStart => exact ⟨_, 0, n, 0, [], rfl, rfl, Nat.zero_le _, rfl, HR1.out, rfl⟩
  case round =>
    clear HR1
    obtain ⟨P, m, d, k, ps, rfl, rfl, hk, hmk, op, hps⟩ := hrel
    have hb := op.bel
    have HPS := Lib.hid hps
    clear hps
    have Hmk := Lib.hid hmk
    have hmk2 : m ≤ k := by omega
    clear hmk
    have hbs := hb.size
    have hbase : base ≤ wr.heap.size := by have := Hw.out; omega
    have hb' : Below w.heap.size w wr := by rw [← Hw.out]; exact hb
    by_cases hlt : k < n
    · obtain ⟨b, off, rfl, hbl⟩ := hx.pos (by omega)
      obtain ⟨x, X, nx, cx, hk1, hc0, rx0, hxc, _⟩ := hx.at_ k hlt
      have hc := (hb'.cell (p := ⟨b, off + k, none⟩) hbl).trans hc0
      have rx := rx0.below hb'
      have hta := tot_at hk1
      have S : Hid (xss.take (k + 1) = xss.take k ++ [x]) := Lib.hid (by rw [List.take_add_one, hk1]; rfl)
      have hxl := rx.len
      clear hk1 hc0 hbl
      go_wp2_with fail
      refine (Copy_any X nx cx x _ rx (by omega)).mono ?_
      rintro e w2 ⟨Q, mq, dq, rfl, oq, hb2⟩
      have hs2 := hb2.size
      have hqc := oq.cap
      have hG := op.own.below hb2
      have HOP := Lib.hid op
      clear op
      go_wp2_with (at_builtin; refine wpList_app1 w2 rfl _ _ 51 rfl base 22 _ _ Try.underlying51 info_sl rfl P m d (ps.map (·.1)) rfl hG (.slice Q mq dq) rfl w2.heap.size rfl rfl ?_ ?_ ?_ ?_)
      · unfold maxLen; omega
      · omega
      · omega
      intro P2 d2 w4 hG4 hg4 hk4
      have HR4 := Lib.hid (HOP.out.snoc hbase oq hb2 hG4 hg4 hk4)
      clear hG hG4 hg4 hk4 oq hb2
      go_wp2
      go_roundw
      case rel => exact ⟨P2, m + 1, d2, k + 1, _, rfl, by go_num, by omega, by rw [Hmk.out], HR4.out, by rw [S.out, List.map_append, HPS.out]; rfl⟩
      case measure => simp [intOf]; omega
    · obtain rfl : k = n := by omega
      go_wp2
      go_ret
      exact ⟨P, m, d, ps, rfl, op, by rw [HPS.out, List.take_of_length_le (by rw [hx.len]; omega)]⟩

end Go.Proofs.Ytoaajkdhlhopmaa
