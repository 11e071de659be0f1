/- The order of entries. Plain mathematics. -/
import Derived.Test.YtikcehnlpfeafaaEnE
namespace Go.Proofs.Ytikcehnlpfeafaa
open Go Go.RowKit

theorem cmpB_trans : ∀ {xs ys zs : List UInt8}, cmpB xs ys < 0 → cmpB ys zs < 0 → cmpB xs zs < 0
  | [], [], _, h, _ => by simp [cmpB] at h
  | _ :: _, [], _, h, _ => by simp [cmpB] at h
  | [], _ :: _, [], _, h => by simp [cmpB] at h
  | [], _ :: _, _ :: _, _, _ => by simp [cmpB]
  | _ :: _, _ :: _, [], _, h => by simp [cmpB] at h
  | x :: xs, y :: ys, z :: zs, h, k => by
    rcases Nat.lt_trichotomy x.toNat y.toNat with q | q | q
    · rcases Nat.lt_trichotomy y.toNat z.toNat with r | r | r
      · rw [cmpB_lt _ _ (by omega)]; decide
      · rw [cmpB_lt _ _ (by omega)]; decide
      · rw [cmpB_gt _ _ r] at k; simp at k
    · rw [cmpB_eq _ _ q] at h
      rcases Nat.lt_trichotomy y.toNat z.toNat with r | r | r
      · rw [cmpB_lt _ _ (by omega)]; decide
      · rw [cmpB_eq _ _ r] at k
        rw [cmpB_eq _ _ (by omega)]
        exact cmpB_trans h k
      · rw [cmpB_gt _ _ r] at k; simp at k
    · rw [cmpB_gt _ _ q] at h; simp at h
end Go.Proofs.Ytikcehnlpfeafaa
