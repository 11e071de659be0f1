/- The reference's Seal: length, sum, bytes, in new memory; what is longer than a record is refused. -/
import Derived.Test.YtbgelbdnkbhffaaGreatCrcR
namespace Go.Proofs.YtbgelbdnkbhffaaGreat
open Go Go.RowKit

/-- A record: length, sum, bytes. -/
def sealB (xs : List UInt8) : List UInt8 := fourB xs.length ++ (fourB (crcB (fourB xs.length ++ xs)) ++ xs)
theorem sealB_len (xs : List UInt8) : (sealB xs).length = 8 + xs.length := by
  unfold sealB
  simp only [List.length_append, fourB_len]
  omega
/-- What Seal answers. -/
def sealG (xs : List UInt8) : List UInt8 × Int := if 1048576 < xs.length then ([], 2) else (sealB xs, 0)
theorem sealG_long {xs : List UInt8} {n : Nat} (h : xs.length = n) (h2 : 1048576 < n) : sealG xs = ([], 2) := by rw [sealG, if_pos (by omega)]
theorem sealG_ok {xs : List UInt8} {n : Nat} (h : xs.length = n) (h2 : ¬ 1048576 < n) : sealG xs = (sealB xs, 0) := by rw [sealG, if_neg (by omega)]
/-- 'It hands back bytes of its own, and a kind.' -/
def RetSE (base : Nat) (w : World) (g : List UInt8 × Int) (e : Ending) (w' : World) : Prop :=
  ∃ A n c, e = .returned (.tuple #[.slice A n c, .int .i64 g.2]) ∧ Own 5 w' base A n c g.1 ∧ Below base w w'

set_option maxRecDepth 100000 in
set_option maxHeartbeats 2000000 in
theorem refSeal_any (A : Option Addr) (n c : Nat) (xs : List UInt8) (w : World) (hx : Rd w A n xs) (hn : n ≤ 1099511627776) :
    Calls Tryz.prog 61 #[.slice A n c] w (RetSE w.heap.size w (sealG xs)) := by
  have HL := Lib.hid hx.len
  go_enter Tryz.func61, Tryz.ntmps61
  by_cases hlong : 1048576 < n
  · have G := Lib.hid (sealG_long HL.out hlong)
    have h1 : decide (1048576 < n) = true := by simpa using hlong
    go_wp2
    go_ret2
    exact ⟨none, 0, 0, by rw [G.out]; rfl, by rw [G.out]; exact Own.nil _ _ _, Below.refl _ _⟩
  · have G := Lib.hid (sealG_ok HL.out hlong)
    have h1 : decide (1048576 < n) = false := by simpa using hlong
    have hw32 : IntKind.u32.wrap (n : Int) = (n : Int) := by rw [IntKind.wrap_u32']; omega
    go_wp2_with fail
    refine (refFour_any n _ (by omega)).mono ?_
    rintro e w1 ⟨F, fn, fc, rfl, hF, hFb, hb1⟩
    have hfn : fn = 4 := by rw [← hF.len]; rfl
    subst hfn
    have hx1 := hx.below hb1
    go_wp2_with fail
    refine (Copy_any F 4 fc _ _ hF (by omega)).mono ?_
    rintro e w2 ⟨C, cn, cc, rfl, hC, hb2⟩
    have hcn : cn = 4 := by rw [← hC.len]; rfl
    subst hcn
    have hx2 := hx1.below hb2
    have hF2 := hF.below hb2
    go_wp2_with (at_builtin; refine wpList_app _ rfl _ _ 29 rfl w1.heap.size 5 Tryz.underlying29 info_u8 C 4 cc _ rfl hC A n c xs rfl hx2 ?_ ?_ ?_)
    · omega
    · exact hb2.size
    · intro D dc w3 hD hb3
      have hb13 := hb2.trans hb3
      have hx3 := hx1.below hb13
      have hF3 := hF.below hb13
      go_wp2_with fail
      refine (refSum_any D (4 + n) dc _ _ hD.rd (by omega)).mono ?_
      rintro e w4 ⟨rfl, q, hw4⟩
      have hb14 : Below w1.heap.size w1 w4 := by rw [hw4]; exact below_drewN hb13 q
      have hx4 := hx1.below hb14
      have hF4 := hF.below hb14
      clear hw4 hb3 hb13 hx3 hF3
      obtain ⟨s, hs⟩ : ∃ s, s = crcB (fourB n ++ xs) := ⟨_, rfl⟩
      have hs32 : s < 4294967296 := by rw [hs]; exact crcB_lt _
      rw [← hs]
      have Hs := Lib.hid hs
      clear hs
      go_wp2_with fail
      refine (Copy_any F 4 fc _ _ hF4 (by omega)).mono ?_
      rintro e w5 ⟨C2, cn2, cc2, rfl, hC2, hb5⟩
      have hcn : cn2 = 4 := by rw [← hC2.len]; rfl
      subst hcn
      have hx5 := hx4.below hb5
      go_wp2_with fail
      refine (refFour_any s _ hs32).mono ?_
      rintro e w6 ⟨E, en, ec, rfl, hE, hEb, hb6⟩
      have hen : en = 4 := by rw [← hE.len]; rfl
      subst hen
      have hC6 := hC2.below hb6
      have hb46 : Below w4.heap.size w4 w6 := hb5.trans (hb6.mono hb5.size)
      clear hx5 hx2 hF2 hF4 hC2
      go_wp2_with (at_builtin; refine wpList_app _ rfl _ _ 29 rfl w4.heap.size 5 Tryz.underlying29 info_u8 C2 4 cc2 _ rfl hC6 E 4 ec _ rfl hE ?_ ?_ ?_)
      · omega
      · exact hb46.size
      · intro D2 dc2 w7 hD2 hb7
        have hb47 := hb46.trans hb7
        have hx7 := hx4.below hb47
        go_wp2_with (at_builtin; refine wpList_app _ rfl _ _ 29 rfl w4.heap.size 5 Tryz.underlying29 info_u8 D2 (4 + 4) dc2 _ rfl hD2 A n c _ rfl hx7 ?_ ?_ ?_)
        · omega
        · exact hb47.size
        · intro D3 dc3 w8 hD3 hb8
          have hb48 := hb47.trans hb8
          go_wp2
          go_ret2
          have h14 : Below w.heap.size w w4 := hb1.trans (hb14.mono hb1.size)
          refine ⟨D3, 4 + 4 + n, dc3, by rw [G.out]; rfl, ?_, h14.trans (hb48.mono h14.size)⟩
          rw [G.out]
          have h9 : sealB xs = fourB n ++ fourB s ++ xs := by rw [sealB, HL.out, ← Hs.out, List.append_assoc]
          rw [h9]
          exact hD3.mono h14.size
end Go.Proofs.YtbgelbdnkbhffaaGreat
