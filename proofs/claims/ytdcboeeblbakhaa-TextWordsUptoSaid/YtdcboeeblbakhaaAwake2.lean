/- The fixed fact of layer 2's statements holds: awake returns true and changes nothing that was there. -/
import Derived.Test.YtdcboeeblbakhaaAwake
import Derived.Test.YtdcboeeblbakhaaText1
namespace Go.Proofs.Ytdcboeeblbakhaa
open Go Go.RowKit

theorem rn_ex : (rn ⟨#[97, 195, 169]⟩).length = 2 := by decide +kernel
theorem fold_ex : foldB ⟨#[195, 132, 114, 103, 101, 114]⟩ = [195, 164, 114, 103, 101, 114] := by decide +kernel

theorem awake2_any (w : World) : Calls Try.prog 24 #[] w (RetT w true) := by
  go_enter Try.func24, Try.ntmps24
  go_wp2_with fail
  refine (Len_any _ _ (by decide)).mono ?_
  rintro e w1 ⟨rfl, hb1⟩
  rw [rn_ex]
  go_wp2_with fail
  refine (Fold_any _ _ (by decide)).mono ?_
  rintro e w2 ⟨rfl, hb2⟩
  rw [fold_ex]
  go_wp2
  go_ret
  exact ⟨rfl, hb1.trans (hb2.mono hb1.size)⟩

end Go.Proofs.Ytdcboeeblbakhaa
