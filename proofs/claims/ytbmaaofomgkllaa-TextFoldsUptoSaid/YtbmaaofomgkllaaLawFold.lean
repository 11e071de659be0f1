/- TextFolds: for every text of at most 2^36 bytes the call returns true, and what was there stands. -/
import Derived.Test.YtbmaaofomgkllaaAwake2
import Derived.Test.YtbmaaofomgkllaaRefFold
namespace Go.Proofs.Ytbmaaofomgkllaa
open Go Go.RowKit

theorem Fold_bs (s : ByteArray) (w : World) (hs : s.size ≤ 1099511627776) : Calls Try.prog 56 #[.string s] w (RetSt w (bs (foldB s))) := Fold_any s w hs

set_option maxRecDepth 100000 in
set_option maxHeartbeats 4000000 in
theorem textFolds_any (s : ByteArray) (w : World) (hs : s.size ≤ 68719476736) : Calls Try.prog 12 #[.string s] w (RetT w true) := by
  obtain ⟨F, hF⟩ : ∃ F, F = bs (foldB s) := ⟨_, rfl⟩
  have hFs : F.size ≤ 1099511627776 := by rw [hF, bs_size]; have := foldB_len s; omega
  have H1 : Hid (∀ w, Calls Try.prog 56 #[.string s] w (RetSt w F)) := Lib.hid (fun w => by rw [hF]; exact Fold_bs s w (by omega))
  have H2 : Hid (∀ w, Calls Try.prog 56 #[.string F] w (RetSt w F)) := Lib.hid (fun w => by
    have h := Fold_bs F w hFs
    rw [show bs (foldB F) = F by rw [hF, fold_fold]] at h
    exact h)
  have H3 : Hid (∀ w, Calls Try.prog 50 #[.string F] w (RetWr w none)) := Lib.hid (fun w => by
    have h := Bad_any F w hFs
    rw [show wr F = none by rw [hF, wr_fold]] at h
    exact h)
  have H4 : Hid (∀ w, Calls Try.prog 52 #[.string F] w (RetN w (rn s).length)) := Lib.hid (fun w => by
    have h := Len_any F w hFs
    rw [show (rn F).length = (rn s).length by rw [hF, rn_fold_len]] at h
    exact h)
  have H5 : Hid (∀ w, Calls Try.prog 57 #[.string s] w (RetSt w F)) := Lib.hid (fun w => by rw [hF]; exact refFold_any s w (by omega))
  have H6 : Hid (∀ w, Calls Try.prog 52 #[.string s] w (RetN w (rn s).length)) := Lib.hid (fun w => Len_any s w (by omega))
  clear hF
  obtain ⟨m, hm⟩ : ∃ m, (rn s).length = m := ⟨_, rfl⟩
  rw [hm] at H4 H6
  clear hm
  go_enter Try.func12, Try.ntmps12
  go_wp2_with fail
  refine (awake2_any _).mono ?_
  rintro e w1 ⟨rfl, hb1⟩
  go_wp2_with fail
  refine (H1.out _).mono ?_
  rintro e w2 ⟨rfl, hb2⟩
  go_wp2_with fail
  refine (H3.out _).mono ?_
  rintro e w3 ⟨rfl, hb3⟩
  simp only [wrV, Option.getD_none, Option.isSome_none]
  go_wp2_with fail
  refine (H5.out _).mono ?_
  rintro e w4 ⟨rfl, hb4⟩
  go_wp2_with fail
  refine (H2.out _).mono ?_
  rintro e w5 ⟨rfl, hb5⟩
  go_wp2_with fail
  refine (H4.out _).mono ?_
  rintro e w6 ⟨rfl, hb6⟩
  go_wp2_with fail
  refine (H6.out _).mono ?_
  rintro e w7 ⟨rfl, hb7⟩
  go_wp2
  go_ret
  have k2 := hb1.trans (hb2.mono hb1.size)
  have k3 := k2.trans (hb3.mono k2.size)
  have k4 := k3.trans (hb4.mono k3.size)
  have k5 := k4.trans (hb5.mono k4.size)
  have k6 := k5.trans (hb6.mono k5.size)
  exact ⟨rfl, k6.trans (hb7.mono k6.size)⟩

theorem textFolds_row (s : ByteArray) (w : World) (_hm : s.size ≤ maxLen) (hs : s.size ≤ 1048576) :
    Calls Try.prog 12 #[.string s] w (RetT w true) := textFolds_any s w (by omega)

end Go.Proofs.Ytbmaaofomgkllaa
