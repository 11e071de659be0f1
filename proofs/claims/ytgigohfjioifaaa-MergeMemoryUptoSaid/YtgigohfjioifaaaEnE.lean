/- The reference over entries: In. No condition but sizes. -/
import Derived.Test.YtgigohfjioifaaaEnD
import Derived.Deep.QuietTactic
import Derived.BigQuiet
namespace Go.Proofs.Ytgigohfjioifaaa
open Go Go.RowKit

/-- The same key and number. -/
def sameK (x e : En) : Bool := eqB x.key e.key && decide (x.seq = e.seq)
def inL (es : List En) (e : En) : Bool := es.any (fun x => sameK x e)
theorem inL_at {es : List En} {e x : En} {k : Nat} (hx : es[k]? = some x) (h : sameK x e = true) : inL es e = true := List.any_eq_true.2 ⟨x, List.mem_of_getElem? hx, h⟩
theorem inL_snoc {es : List En} {e x : En} {k : Nat} (hx : es[k]? = some x) (h : inL (es.take k) e = false) (hk : sameK x e = false) : inL (es.take (k + 1)) e = false := by
  rw [List.take_add_one, hx]
  unfold inL at h ⊢
  rw [List.any_append, h]
  simp [hk]
set_option maxRecDepth 100000 in
set_option maxHeartbeats 4000000 in
theorem In_any {w : World} {A : Option Addr} {n c : Nat} {es : List En} {e : En} {v0 v1 v2 v3 : Value} (h : REs w A n es) (hn : n ≤ 1099511627776) (hs : ∀ x ∈ es, SzE x) (he : EV w e v0 v1 v2 v3) (se : SzE e) :
    Calls Try.prog 62 #[.slice A n c, .agg #[v0, v1, v2, v3]] w (RetT w (inL es e)) := by
  obtain ⟨K, kn, kc, V, vn, vc, rfl, rfl, rfl, rfl, r0, _⟩ := he.parts
  obtain ⟨U, hU⟩ : ∃ U, U = w.alloc (.cells #[.slice K kn kc, .int .u64 (e.seq : Int), .int .u8 (e.kind : Int), .slice V vn vc] 33) := ⟨_, rfl⟩
  have bU : Below w.heap.size w U := by rw [hU]; exact (Below.refl _ _).alloc (Nat.le_refl _) _
  have XU := Lib.hid (show Cl U w.heap.size #[.slice K kn kc, .int .u64 (e.seq : Int), .int .u8 (e.kind : Int), .slice V vn vc] 33 by rw [hU]; exact Cl.new _ _ _)
  have hk : kn ≤ maxLen := maxLen_e (by rw [← r0.len]; exact se.1)
  have HK := Lib.hid (r0.below bU)
  have H1 := Lib.hid (h.below bU)
  have HLN := Lib.hid h.len
  have HS := Lib.hid hs
  have BU := Lib.hid bU
  clear h hs he r0 bU
  go_enter Try.func62, Try.ntmps62
  go_upto_block 1 with fail
  rw [← hU]
  clear hU
  go_wp2_with fail
  go_loopw [5] (fun s5 wr => ∃ k : Nat, k ≤ n ∧ s5 = .int .i64 (k : Int) ∧ inL (es.take k) e = false ∧ Below U.heap.size U wr) (fun s _ => n - (intOf s).toNat)
  case atStart => exact ⟨0, Nat.zero_le _, rfl, rfl, Below.refl _ _⟩
  case round =>
    obtain ⟨k, hk', rfl, hin, hB⟩ := hrel
    have HB := Lib.hid hB
    have HIN := Lib.hid hin
    have XR := Lib.hid (XU.out.below hB)
    have HKR := Lib.hid (HK.out.below hB)
    have hR := H1.out.below hB
    clear hB hin
    by_cases hlt : k < n
    · obtain ⟨b, off, hAb, hbl⟩ := hR.pos (by omega)
      subst hAb
      obtain ⟨x, u0, u1, u2, u3, hx, c0, c1, c2, c3, hev⟩ := hR.at_ k hlt
      obtain ⟨L, ln, lc, M, mn, mc, rfl, rfl, rfl, rfl, q0, _⟩ := hev.parts
      have hsx := HS.out x (List.mem_of_getElem? hx)
      have hln : ln ≤ maxLen := maxLen_e (by rw [← q0.len]; exact hsx.1)
      have HXK := Lib.hid hx
      obtain ⟨z, hz⟩ : ∃ z, z = eqB x.key e.key := ⟨_, rfl⟩
      have HE : Hid (∀ q, Calls Try.prog 46 #[.slice L ln lc, .slice K kn kc] (wr.drewN q) (RetB (wr.drewN q) z)) := Lib.hid (fun q => by rw [hz]; exact Equal_any _ _ _ _ _ _ x.key e.key _ (q0.drewN q) (HKR.out.drewN q) hln hk)
      have HSK : Hid (sameK x e = (z && decide (x.seq = e.seq))) := Lib.hid (by rw [hz]; rfl)
      obtain ⟨d0, d1, d2, d3, _⟩ := XR.out.c4
      clear hR hx hev q0 hz
      by_cases hsq : x.seq = e.seq
      · cases z with
        | true =>
          have HTR : Hid (inL es e = true) := Lib.hid (inL_at HXK.out (by rw [HSK.out]; simpa using hsq))
          go_wp2
          go_quiet ((go_at_call 46; with_reducible exact Calls.quiet_of (HE.out _)))
          have BN := Lib.hid (below_drewN (belowT' BU.out HB.out) nq)
          clear c0 c1 c2 c3 d0 d1 d2 d3
          go_wp2
          go_ret
          exact ⟨by rw [HTR.out]; rfl, BN.out⟩
        | false =>
          have HNX : Hid (inL (es.take (k + 1)) e = false) := Lib.hid (inL_snoc HXK.out HIN.out (by rw [HSK.out]; simp))
          go_wp2
          go_quiet ((go_at_call 46; with_reducible exact Calls.quiet_of (HE.out _)))
          have BN := Lib.hid (below_drewN HB.out nq)
          clear c0 c1 c2 c3 d0 d1 d2 d3
          go_wp2
          go_roundw
          case rel => exact ⟨k + 1, by omega, by go_num, HNX.out, BN.out⟩
          case measure => simp [intOf]; omega
      · cases z with
        | true =>
          have HNX : Hid (inL (es.take (k + 1)) e = false) := Lib.hid (inL_snoc HXK.out HIN.out (by rw [HSK.out]; simp; exact hsq))
          go_wp2
          go_quiet ((go_at_call 46; with_reducible exact Calls.quiet_of (HE.out _)))
          have BN := Lib.hid (below_drewN HB.out nq)
          clear c0 c1 c2 c3 d0 d1 d2 d3
          go_wp2
          go_roundw
          case rel => exact ⟨k + 1, by omega, by go_num, HNX.out, BN.out⟩
          case measure => simp [intOf]; omega
        | false =>
          have HNX : Hid (inL (es.take (k + 1)) e = false) := Lib.hid (inL_snoc HXK.out HIN.out (by rw [HSK.out]; simp))
          go_wp2
          go_quiet ((go_at_call 46; with_reducible exact Calls.quiet_of (HE.out _)))
          have BN := Lib.hid (below_drewN HB.out nq)
          clear c0 c1 c2 c3 d0 d1 d2 d3
          go_wp2
          go_roundw
          case rel => exact ⟨k + 1, by omega, by go_num, HNX.out, BN.out⟩
          case measure => simp [intOf]; omega
    · have htk : es.take k = es := List.take_of_length_le (by have := HLN.out; omega)
      have HFN : Hid (inL es e = false) := Lib.hid (by rw [← htk]; exact HIN.out)
      have BW := Lib.hid (belowT' BU.out HB.out)
      clear htk hR
      go_wp2
      go_ret
      exact ⟨by rw [HFN.out]; rfl, BW.out⟩
end Go.Proofs.Ytgigohfjioifaaa
