/- codec.Frame and the reference's Frame return the framed parts in new memory; Copies copies a list of lists; lists that hold at most 268435456 values. -/
import Derived.Test.YtmpdenpopokigaaLists
import Derived.Test.YtmpdenpopokigaaMathF
namespace Go.Proofs.Ytmpdenpopokigaa
open Go Go.RowKit

theorem info_sl : (Try.prog.info? 36).map (fun i => (i.zero, i.size, i.bytes)) = some (some (.slice none 0 0), 1, 24) := by kernel_rfl

set_option maxRecDepth 100000 in
set_option maxHeartbeats 1000000 in
theorem Frame_any (A : Option Addr) (n c : Nat) (xss : List (List UInt8)) (w : World) (hx : RdL w A n xss) (ht : tot xss ≤ 268435456) :
    Calls Try.prog 79 #[.slice A n c] w (Made w.heap.size w (frameB xss)) := by
  obtain ⟨base, hbase⟩ : ∃ b, b = w.heap.size := ⟨_, rfl⟩
  rw [← hbase]
  have Hw : Hid (base = w.heap.size) := Lib.hid hbase
  clear hbase
  have hn : n ≤ 268435456 := by have := tot_len xss; have := hx.len; omega
  go_enter Try.func79, Try.ntmps79
  go_wp2
  go_loopw [3, 8] (fun v i wr => ∃ (P : Option Addr) (m d k : Nat), v = .slice P m d ∧ i = .int .i64 k ∧ k ≤ n ∧ Own 5 wr base P m d (frameB (xss.take k)) ∧ m ≤ 10 * tot (xss.take k) ∧ Below base w wr) (fun _ i _ => n - (intOf i).toNat)
  case atStart => exact ⟨none, 0, 0, 0, rfl, rfl, Nat.zero_le _, Own.nil _ _ _, Nat.zero_le _, Below.refl _ _⟩
  case round =>
    obtain ⟨P, m, d, k, rfl, rfl, hk, op, hm, hb⟩ := hrel
    have hbs := hb.size
    have hbase : base ≤ wr.heap.size := by have := Hw.out; omega
    have hb' : Below w.heap.size w wr := by rw [← Hw.out]; exact hb
    by_cases hlt : k < n
    · obtain ⟨b, off, rfl, hbl⟩ := hx.pos (by omega)
      obtain ⟨x, X, nx, cx, hk1, hc0, rx0, hxc, _⟩ := hx.at_ k hlt
      have hc := (hb'.cell (p := ⟨b, off + k, none⟩) hbl).trans hc0
      have rx := rx0.below hb'
      clear hc0 hbl
      have hta := tot_at hk1
      have htk := tot_take xss k
      have S := Lib.hid (frameB_snoc hk1)
      have T := Lib.hid (tot_snoc hk1)
      have hxl := rx.len
      have hpl := putU_len64 nx (by unfold B64; omega)
      have hW : IntKind.u64.wrap (nx : Int) = (nx : Int) := u64_nat nx (by unfold B64; omega)
      clear hk1
      go_wp2_with fail
      refine (appendU_any P m d (frameB (xss.take k)) base nx _ op hbase (by omega) (by unfold B64; omega)).mono ?_
      rintro e w2 ⟨Q, mq, dq, rfl, oq, hb2⟩
      have hmq := oq.len
      rw [List.length_append, op.len] at hmq
      have hs2 := hb2.size
      have hX : Rd w2 X nx x := rx0.below (hb'.trans (by rw [← Hw.out]; exact hb2))
      clear hb' rx0 rx
      go_wp2_with (at_builtin; refine wpList_app _ rfl _ _ 36 rfl base 5 Try.underlying36 info_u8 Q mq dq _ rfl oq X nx cx x rfl hX ?_ ?_ ?_)
      · omega
      · omega
      intro P2 d2 w4 op2 hb4
      go_wp2
      go_roundw
      case rel => exact ⟨P2, mq + nx, d2, k + 1, rfl, by go_num, by omega, by rw [S.out, hxl]; exact op2, by rw [T.out]; omega, (hb.trans hb2).trans hb4⟩
      case measure => simp [intOf]; omega
    · obtain rfl : k = n := by omega
      rw [List.take_of_length_le (by rw [hx.len]; omega)] at op
      go_wp2
      go_ret
      exact ⟨P, m, d, rfl, op, hb⟩

theorem Own.apart {e : TypeId} {w : World} {base n c m d : Nat} {A B : Option Addr} {xs : List UInt8} {w0 : World} {base0 : Nat} {t : TypeId} {xss : List (List UInt8)} (h : Own e w base A n c xs)
    (h0 : OwnL t w0 base0 B m d xss) (hb : w0.heap.size ≤ base) : ∀ b off, A = some ⟨b, off, none⟩ → b < w.heap.size ∧ Value.ownBlock (.slice B m d) ≠ some b := by
  intro b off e
  have h1 := h.block b off e
  refine ⟨h1.2, fun e2 => ?_⟩
  obtain ⟨vs, h2, _⟩ := h0
  have h3 := World.ownsRow.lt h2 b e2
  omega

end Go.Proofs.Ytmpdenpopokigaa
