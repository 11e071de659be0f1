/- codec.Frame and the reference's Frame return the framed parts in new memory; Copies copies a list of lists; lists that hold at most 268435456 values. -/
import Derived.Test.YtoaajkdhlhopmaaLists
import Derived.Test.YtoaajkdhlhopmaaMathF
namespace Go.Proofs.Ytoaajkdhlhopmaa
open Go Go.RowKit

theorem info_sl : (Try.prog.info? 22).map (fun i => (i.zero, i.size, i.bytes)) = some (some (.slice none 0 0), 1, 24) := by kernel_rfl

/-- 'It hands back a slice of slices of its own, from block base on, that read as xss; what lay below base stands.' -/
def MadeL (base : Nat) (w : World) (xss : List (List UInt8)) (e : Ending) (w' : World) : Prop :=
  ∃ A n c, e = .returned (.slice A n c) ∧ OwnL 22 w' base A n c xss ∧ Below base w w'

theorem Own.apart {e : TypeId} {w : World} {base n c m d : Nat} {A B : Option Addr} {xs : List UInt8} {w0 : World} {base0 : Nat} {t : TypeId} {xss : List (List UInt8)} (h : Own e w base A n c xs)
    (h0 : OwnL t w0 base0 B m d xss) (hb : w0.heap.size ≤ base) : ∀ b off, A = some ⟨b, off, none⟩ → b < w.heap.size ∧ Value.ownBlock (.slice B m d) ≠ some b := by
  intro b off e
  have h1 := h.block b off e
  refine ⟨h1.2, fun e2 => ?_⟩
  obtain ⟨vs, h2, _⟩ := h0
  have h3 := World.ownsRow.lt h2 b e2
  omega

set_option maxRecDepth 100000 in
set_option maxHeartbeats 1000000 in
theorem Copies_any (A : Option Addr) (n c : Nat) (xss : List (List UInt8)) (w : World) (hx : RdL w A n xss) (ht : tot xss ≤ 268435456) :
    Calls Try.prog 35 #[.slice A n c] w (MadeL w.heap.size w xss) := by
  obtain ⟨base, hbase⟩ : ∃ b, b = w.heap.size := ⟨_, rfl⟩
  rw [← hbase]
  have Hw : Hid (base = w.heap.size) := Lib.hid hbase
  clear hbase
  have hn : n ≤ 268435456 := by have := tot_len xss; have := hx.len; omega
  go_enter Try.func35, Try.ntmps35
  go_wp2_with (refine wpList_mkL _ rfl _ _ 51 rfl base 22 Try.underlying51 info_sl _ n rfl rfl ?_ ?_ ?_ ?_)
  · first | rfl | go_num
  · omega
  · exact Nat.le_of_eq Hw.out
  intro A1 w1 ho1 hb1
  rw [← Hw.out] at hb1
  go_wp2
  go_loopw [3, 4] (fun v i wr => ∃ (P : Option Addr) (m d k : Nat), v = .slice P m d ∧ i = .int .i64 k ∧ k ≤ n ∧ m = k ∧ OwnL 22 wr base P m d (xss.take k) ∧ Below base w wr) (fun _ i _ => n - (intOf i).toNat)
  case atStart => exact ⟨A1, 0, n, 0, rfl, rfl, Nat.zero_le _, rfl, ho1, hb1⟩
  case round =>
    obtain ⟨P, m, d, k, rfl, rfl, hk, hmk, op, hb⟩ := hrel
    have Hmk := Lib.hid hmk
    have hmk2 : m ≤ k := by omega
    clear hmk
    have hbs := hb.size
    have hbase : base ≤ wr.heap.size := by have := Hw.out; omega
    have hb' : Below w.heap.size w wr := by rw [← Hw.out]; exact hb
    by_cases hlt : k < n
    · obtain ⟨b, off, rfl, hbl⟩ := hx.pos (by omega)
      obtain ⟨x, X, nx, cx, hk1, hc0, rx0, hxc, _⟩ := hx.at_ k hlt
      have hc := (hb'.cell (p := ⟨b, off + k, none⟩) hbl).trans hc0
      have rx := rx0.below hb'
      have hta := tot_at hk1
      have S : Hid (xss.take (k + 1) = xss.take k ++ [x]) := Lib.hid (by rw [List.take_add_one, hk1]; rfl)
      have hxl := rx.len
      clear hk1 hc0 hbl
      go_wp2_with fail
      refine (Copy_any X nx cx x _ rx (by omega)).mono ?_
      rintro e w2 ⟨Q, mq, dq, rfl, oq, hb2⟩
      have hs2 := hb2.size
      have hqc := oq.cap
      go_wp2_with (at_builtin; refine wpList_appL _ rfl _ _ 51 rfl base 22 Try.underlying51 info_sl P m d (xss.take k) rfl (op.below hb2) Q mq dq x oq.rd hqc.1 (fun h => by subst h; exact oq.nil_cap) (oq.apart op (Nat.le_refl _)) _ ?_ rfl ?_ ?_ ?_)
      · first | rfl | simp
      · omega
      · omega
      intro P2 d2 w4 op2 hb4
      go_wp2
      go_roundw
      case rel => exact ⟨P2, m + 1, d2, k + 1, rfl, by go_num, by omega, by rw [Hmk.out], by rw [S.out]; exact op2, (hb.trans (hb2.mono hbase)).trans (((Below.refl _ _).alloc (by omega) _).trans hb4)⟩
      case measure => simp [intOf]; omega
    · obtain rfl : k = n := by omega
      rw [List.take_of_length_le (by rw [hx.len]; omega)] at op
      go_wp2
      go_ret
      exact ⟨P, m, d, rfl, op, hb⟩

end Go.Proofs.Ytoaajkdhlhopmaa
