/- CodecNumbers: for every number, every list of bytes and every place the call returns true, and what was there stands. -/
import Derived.Test.YtbmaaofomgkllaaAwake
import Derived.Test.YtbmaaofomgkllaaMathU
import Derived.Deep.RegionHeld3
namespace Go.Proofs.Ytbmaaofomgkllaa
open Go Go.RowKit

/-- 'The argument reads as it did, and what was there stands.' -/
def Kp (w0 : World) (B : Option Addr) (n : Nat) (ys : List UInt8) (w : World) : Prop := Rd w B n ys ∧ Below w0.heap.size w0 w
theorem Kp.made {w0 w w' : World} {B : Option Addr} {n : Nat} {ys : List UInt8} (h : Kp w0 B n ys w) (hb : Below w.heap.size w w') : Kp w0 B n ys w' := ⟨h.1.below hb, h.2.trans (hb.mono h.2.size)⟩
theorem Kp.drew {w0 w : World} {B : Option Addr} {n : Nat} {ys : List UInt8} (h : Kp w0 B n ys w) : Kp w0 B n ys w.drew := ⟨h.1.drew, h.2.drew⟩
theorem Kp.drewN {w0 w : World} {B : Option Addr} {n : Nat} {ys : List UInt8} (h : Kp w0 B n ys w) (q : Nat) : Kp w0 B n ys (w.drewN q) := ⟨h.1.drewN q, below_drewN h.2 q⟩

theorem Kp.bel {w0 w : World} {B : Option Addr} {n : Nat} {ys : List UInt8} (h : Kp w0 B n ys w) : Below w0.heap.size w0 w := h.2

set_option maxRecDepth 100000 in
set_option maxHeartbeats 2000000 in
theorem codecNumbers_any (n : Nat) (B : Option Addr) (m d : Nat) (ys : List UInt8) (t : Int) (w : World) (hn : n < B64) (hy : Rd w B m ys) (hm : m ≤ 140737488355318) (hmd : m ≤ d) (hd : d ≤ maxLen) :
    Calls Try.prog 3 #[.int .u64 n, .slice B m d, .int .i64 t] w (RetT w true) := by
  have Hn := Lib.hid hn
  have Hm := Lib.hid hm
  have Hd := Lib.hid hd
  clear hn hm hd
  go_enter Try.func3, Try.ntmps3
  go_wp2_with fail
  refine (awake_any _).mono ?_
  rintro e w1 ⟨rfl, hb1⟩
  go_wp2_with fail
  refine (PutU_any n _ Hn.out).mono ?_
  rintro e w2 ⟨A, l, c, rfl, ho, hb2⟩
  have hc := ho.cap
  have hl := putU_len64 n Hn.out
  have hg0 := getU_putU n Hn.out
  obtain rfl := ho.len
  obtain ⟨ps, hps⟩ : ∃ ps, ps = putU n := ⟨_, rfl⟩
  rw [← hps] at ho hl hc hg0
  rw [← hps]
  have Hps := Lib.hid hps
  clear hps
  have hG := GetU_any A ps.length c ps 0 w2 ho.rd (by omega) (by omega)
  rw [hg0] at hG
  have HG := Lib.hid hG
  clear hG hg0
  go_wp2_with fail
  refine HG.out.mono ?_
  rintro e w3 ⟨rfl, rfl⟩
  clear HG
  go_wp2_with fail
  refine (refPutU_any n _ Hn.out).mono ?_
  rw [← Hps.out]
  rintro e w4 ⟨A2, l2, c2, rfl, ho2, hb4⟩
  have hc2 := ho2.cap
  go_wp2_with fail
  refine (Equal_any A A2 _ l2 c c2 ps ps _ (ho.rd.below hb4) ho2.rd (by omega) (by omega)).mono ?_
  rintro e w5 ⟨rfl, q, rfl⟩
  rw [eqB_self]
  go_wp2_with fail
  have hy4 : Rd (w4.drewN q) B m ys := (((hy.below hb1).below hb2).below hb4).drewN q
  have hbel : Below w.heap.size w (w4.drewN q) := below_drewN ((hb1.trans (hb2.mono hb1.size)).trans (hb4.mono (by have := hb1.size; have := hb2.size; omega))) q
  clear ho ho2 hb1 hb2 hb4 hy Hps hl hc hc2
  refine (Copy_any B m d ys _ hy4 (by have := Hm.out; omega)).mono ?_
  rintro e w6 ⟨A6, l6, c6, rfl, ho6, hb6⟩
  have hc6 := ho6.cap
  have hy6 := hy4.below hb6
  have hbel6 := hbel.trans (hb6.mono hbel.size)
  have hl6 : l6 = m := by rw [← ho6.len, hy6.len]
  subst hl6
  rcases hg : getU ys t with ⟨gm, gx, ge⟩
  have hG := GetU_any A6 l6 c6 ys t w6 ho6.rd (by have := Hm.out; omega) (by omega)
  have hR := refGetU_any B l6 d ys t w6 hy6 (by have := Hm.out; omega)
  rw [hg] at hG hR
  have HG := Lib.hid hG
  have HR := Lib.hid hR
  have Hg := Lib.hid hg
  clear hG hR hg
  go_wp2_with fail
  refine HG.out.mono ?_
  rintro e w7 ⟨rfl, rfl⟩
  clear HG
  go_wp2_with fail
  refine HR.out.mono ?_
  rintro e w7 ⟨rfl, rfl⟩
  clear HR
  by_cases he : ge = 0
  · subst he
    obtain ⟨k, k', hk1, hk2, hkk, hkl, hput, hgm⟩ := getU_ok Hg.out
    subst hk1 hk2
    have Hput := Lib.hid hput
    have Hgm := Lib.hid hgm
    clear hput hgm
    have hkl6 : k' ≤ l6 := by rw [← hy6.len]; exact hkl
    have hsl : ∀ w, (Instr.slice 23 (.slice B l6 d) (some (.int .i64 (k : Int))) (some (.int .i64 (k' : Int))) none).run Try.prog w = .ok (.slice (cutA B k d) (k' - k) (d - k)) w :=
      cut_lh Try.underlying23 elem_bytes size_u8 B hkk (by omega)
    have hcut : ∀ w', Rd w' B l6 ys → Rd w' (cutA B k d) (k' - k) (putU gm) := fun w' h => by
      rw [← Hput.out]
      exact h.cut hkk hkl6 hmd
    have Hcut := Lib.hid hcut
    clear hcut
    go_wp2_with fail
    have hS : Kp w B l6 ys w6 := ⟨hy6, hbel6⟩
    go_region_held3 (fun w' => Kp w B l6 ys w') (first | assumption | exact hS.drew) (first | (go_at_call 16; refine (PutU_any gm _ Hgm.out).mono ?_; rintro e w8 ⟨A8, l8, c8, rfl, ho8, hb8⟩; have hS8 := Kp.made (by assumption) hb8; have hc8 := ho8.cap) | (go_at_call 18; refine (Equal_any _ _ _ _ _ _ (putU gm) (putU gm) _ ho8.rd (Hcut.out _ hS8.1) (by omega) (by have := Hm.out; unfold maxLen; omega)).mono ?_; rintro e w9 ⟨rfl, q9, rfl⟩; have hS9 := hS8.drewN q9; rw [eqB_self]))
    go_wp2
    go_ret
    refine ⟨rfl, Kp.bel (B := B) (n := l6) (ys := ys) ?_⟩
    assumption
  · have h1 : ((ge : Int) != 0) = true := by simpa using he
    go_wp2_with fail
    go_quiet (fail)
    go_wp2
    go_ret
    exact ⟨rfl, below_drewN hbel6 _⟩

theorem codecNumbers_row (n : Nat) (B : Option Addr) (m d : Nat) (ys : List UInt8) (t : Int) (w : World) (hn : n < B64) (hy : Rd w B m ys) (hmd : m ≤ d) (hd : d ≤ 140737488351232) (_ht : (Lit.int .i64 t).wf = true) :
    Calls Try.prog 3 #[.int .u64 n, .slice B m d, .int .i64 t] w (RetT w true) :=
  codecNumbers_any n B m d ys t w hn hy (by omega) hmd (by unfold maxLen; omega)

end Go.Proofs.Ytbmaaofomgkllaa
