/- The table's Range; the reference's Size. No condition but sizes. -/
import Derived.Test.YtheefpgokdejcaaTrH
import Derived.Deep.QuietTactic
import Derived.BigQuiet
namespace Go.Proofs.Ytheefpgokdejcaa
open Go Go.RowKit

set_option maxRecDepth 100000 in
set_option maxHeartbeats 4000000 in
theorem range_any {d : TypeId × List Value} {G : Nat → Prop} {w : World} {p : Nat} {t : Tr} {F T : Option Addr} {fn fc tn tc : Nat} {xs ys : List UInt8} (h : TB d G w p t) (hf : Rd w F fn xs) (ht : Rd w T tn ys) (hs : ∀ e ∈ t.list, SzE e) (hn : t.num ≤ 1099511627776) :
    Calls Try.prog 30 #[.pointer (some ⟨p, 0, none⟩), .slice F fn fc, .slice T tn tc] w (RetBt w (betw xs ys t)) := by
  obtain ⟨A, h1, h2, _⟩ := h
  obtain ⟨c0, c1, c2, _⟩ := h1.ct
  have HB : Hid (Calls Try.prog 64 #[.pointer A, .slice none 0 0, .slice F fn fc, .slice T tn tc] w (RetBt w (betw xs ys t))) := Lib.hid (by
    have := between_any (fc := fc) (tc := tc) hf ht t A h2 hs [] none 0 0 w (RowE.zero _ _ (Nat.le_refl _)) (by omega)
    simpa using this)
  clear h1 h2 hf ht hs
  go_enter Try.func30, Try.ntmps30
  go_wp2_with fail
  with_reducible refine HB.out.mono ?_
  intro e w2 hq
  obtain ⟨L, k, d, h1, hrow⟩ := RetBt.out hq
  subst h1
  have HR := Lib.hid hrow
  clear hq hrow HB
  go_wp2
  go_ret
  exact ⟨L, k, d, rfl, HR.out⟩
set_option maxRecDepth 100000 in
set_option maxHeartbeats 4000000 in
theorem refSize_any {w : World} {A : Option Addr} {n c : Nat} {es : List En} (h : REs w A n es) (hn : n ≤ 1099511627776) (hz : szL es ≤ 1099511627776) : Calls Try.prog 24 #[.slice A n c] w (RetNu w (szL es : Int)) := by
  have HL := Lib.hid h.len
  go_enter Try.func24, Try.ntmps24
  go_wp2
  go_loopw [3, 4] (fun s3 s4 wr => ∃ k q : Nat, k ≤ n ∧ s4 = .int .i64 (k : Int) ∧ s3 = .int .i64 (szL (es.take k) : Int) ∧ wr = w.drewN q) (fun _ s _ => n - (intOf s).toNat)
  case atStart => exact ⟨0, 0, Nat.zero_le _, rfl, rfl, rfl⟩
  case round =>
    obtain ⟨k, q, hk, rfl, rfl, hX⟩ := hrel
    have hR : REs wr A n es := by rw [hX]; exact h.drewN q
    have HX := Lib.hid hX
    have hst := szL_take es k
    have hst1 := szL_take es (k + 1)
    clear hX
    by_cases hlt : k < n
    · obtain ⟨b, off, rfl, hbl⟩ := hR.pos (by omega)
      obtain ⟨x, v0, v1, v2, v3, hx, m0, m1, m2, m3, hev⟩ := hR.at_ k hlt
      obtain ⟨K, kn, kc, V, vn, vc, rfl, rfl, rfl, rfl, r0, r3, _⟩ := hev.parts
      have hsn := szL_snoc hx
      have hwx : wE x = kn + vn := by unfold wE; rw [r0.len, r3.len]
      have HSN : Hid (szL (es.take (k + 1)) = szL (es.take k) + kn + vn) := Lib.hid (by omega)
      have E4 : Hid (wrap64 ((szL (es.take k) : Int) + (kn : Int)) = (szL (es.take k) : Int) + (kn : Int)) := Lib.hid (IntWalk.wrap64_in _ (by omega))
      have E5 : Hid (wrap64 ((szL (es.take k) : Int) + (kn : Int) + (vn : Int)) = (szL (es.take k) : Int) + (kn : Int) + (vn : Int)) := Lib.hid (IntWalk.wrap64_in _ (by omega))
      clear hx hev hR r0 r3 hsn hwx
      go_wp2
      go_quiet (fail)
      have BN : Hid (wr.drewN nq = w.drewN (q + nq)) := Lib.hid (by rw [HX.out, World.drewN_drewN])
      clear m0 m1 m2 m3
      go_wp2
      go_roundw
      case rel => exact ⟨k + 1, q + nq, by omega, by go_num, by simp [E4.out, E5.out, HSN.out], BN.out⟩
      case measure => simp [intOf]; omega
    · have htk := take_all HL.out hlt
      have HTK := Lib.hid htk
      clear htk hR hst hst1
      go_wp2
      go_ret
      exact ⟨by first | rfl | (rw [HTK.out]; rfl) | (rw [← HTK.out]; rfl), by rw [HX.out]; exact below_drewN (Below.refl _ _) q⟩
end Go.Proofs.Ytheefpgokdejcaa
