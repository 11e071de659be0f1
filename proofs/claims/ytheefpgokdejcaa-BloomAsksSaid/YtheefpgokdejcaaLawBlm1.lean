/- BloomAsks: any bytes are asked as the filter that they are, or refused. -/
import Derived.Test.YtheefpgokdejcaaBlG
namespace Go.Proofs.Ytheefpgokdejcaa
open Go Go.RowKit

set_option maxRecDepth 100000 in
set_option maxHeartbeats 8000000 in
theorem bloomAsks_row (A : Option Addr) (n c : Nat) (fs : List UInt8) (K : Option Addr) (kn kc : Nat) (key : List UInt8) (w : World) (h : Rd w A n fs) (hnc : n ≤ c) (hc : c ≤ 140737488351232) (hk : Rd w K kn key) (hkc : kn ≤ kc) (hkm2 : kc ≤ 140737488351232) :
    Calls Try.prog 12 #[.slice A n c, .slice K kn kc] w (RetT w true) := by
  have hn : n ≤ 140737488351232 := by omega
  have hkn : kn ≤ 140737488351232 := by omega
  clear hnc hc hkc hkm2
  have hkm : kn ≤ maxLen := by unfold maxLen; omega
  go_enter Try.func12, Try.ntmps12
  go_wp2_with fail
  refine (awake9_any _).mono ?_
  rintro e w1 ⟨rfl, b1⟩
  go_wp2_with fail
  refine (Copy_any A n c fs _ (h.below b1) (by omega)).mono ?_
  rintro e w2 ⟨A2, n2, c2, rfl, o2, b2⟩
  have r2 := o2.rd
  obtain rfl : n2 = n := by have := o2.len; have := h.len; omega
  go_wp2_with fail
  refine (Copy_any K kn kc key _ ((hk.below b1).below b2) (by omega)).mono ?_
  rintro e w3 ⟨K3, n3, c3, rfl, o3, b3⟩
  have r3 := o3.rd
  obtain rfl : n3 = kn := by have := o3.len; have := hk.len; omega
  go_wp2_with fail
  refine (may_any A2 n2 c2 fs K3 n3 c3 key _ (r2.below b3) (by omega) r3 hkm).mono ?_
  rintro e w4 ⟨rfl, b4⟩
  go_wp2_with fail
  refine (refMay_any A n2 c fs K n3 kc key _ ((((h.below b1).below b2).below b3).below b4) (by omega) ((((hk.below b1).below b2).below b3).below b4) hkm).mono ?_
  rintro e w5 ⟨rfl, q, rfl⟩
  go_wp2_with fail
  go_ret
  exact ⟨rfl, below_drewN ((b1.trans (b2.mono b1.size)).trans ((b3.trans (b4.mono b3.size)).mono (by have := b1.size; have := b2.size; omega))) q⟩
end Go.Proofs.Ytheefpgokdejcaa
