/- TextClips: for every text of at most 2^40 bytes and every number the call returns true, and what was there stands. -/
import Derived.Test.YtbmaaofomgkllaaAwake2
import Derived.Test.YtbmaaofomgkllaaRefRunes
import Derived.Test.YtbmaaofomgkllaaClip
import Derived.Deep.RegionHeld3
namespace Go.Proofs.Ytbmaaofomgkllaa
open Go Go.RowKit

/-- The number as it is clamped. -/
def clampK (n : Int) (m : Nat) : Nat := min n.toNat m
theorem place_at (s : ByteArray) (n : Int) : (placeVs (rn s) ++ [iv s.size])[clampK n (rn s).length]? = some (iv (clipP s n : Nat)) := by
  unfold clampK clipP
  rcases Nat.lt_or_ge n.toNat (rn s).length with h | h
  · rw [Nat.min_eq_left (by omega), List.getElem?_append_left (by simp [placeVs]; omega), placeVs, List.getElem?_map, List.getElem?_eq_getElem h]
    rfl
  · rw [Nat.min_eq_right h, List.getElem?_append_right (by simp [placeVs]), List.getElem?_eq_none h]
    simp [placeVs]
theorem rnF_in (s : ByteArray) : ∀ (f p i : Nat) (x : Nat × Nat), (rnF s f p)[i]? = some x → x.1 < s.size
  | 0, p, i, x, h => by simp [rnF] at h
  | f + 1, p, i, x, h => by
    by_cases hp : p < s.size
    · rw [rnF_step hp] at h
      cases i with
      | zero => simp at h; subst h; exact hp
      | succ i => exact rnF_in s f _ i x (by simpa using h)
    · rw [rnF_end hp] at h; simp at h
theorem clipP_le (s : ByteArray) (n : Int) : clipP s n ≤ s.size := by
  unfold clipP
  split
  · rename_i x h
    exact Nat.le_of_lt (rnF_in s _ _ _ x h)
  · exact Nat.le_refl _

set_option maxRecDepth 100000 in
set_option maxHeartbeats 4000000 in
theorem textClips_any (s : ByteArray) (n : Int) (w : World) (hs : s.size ≤ 1099511627776) (hn : -9223372036854775808 ≤ n ∧ n ≤ 9223372036854775807) :
    Calls Try.prog 11 #[.string s, .int .i64 n] w (RetT w true) := by
  obtain ⟨hn1, hn2⟩ := hn
  go_enter Try.func11, Try.ntmps11
  go_wp2_with fail
  refine (awake2_any _).mono ?_
  rintro e w1 ⟨rfl, hb1⟩
  go_wp2_with fail
  refine (refRunes_any s _ hs).mono ?_
  rintro e w2 ⟨A, na, ca, B, nb, cb, rfl, hA, hB, hb2⟩
  have hnb : nb = (rn s).length + 1 := by have := hB.len; simp [placeVs] at this; omega
  have hrl := rn_len s
  subst hnb
  have hbel := hb1.trans (hb2.mono hb1.size)
  have hr := hB.rd
  clear hA hb1 hb2
  obtain ⟨b, off, rfl, _⟩ := hr.pos (by omega)
  have hcell : ∀ k, k = clampK n (rn s).length → w2.cell? ⟨b, off + k, none⟩ = some (.int .i64 (clipP s n : Nat)) := fun k hk => by
    obtain ⟨v, h1, h2⟩ := hr.at_ k (by rw [hk]; unfold clampK; omega)
    rw [hk, place_at] at h1
    injection h1 with h1
    rw [h2, ← h1]; rfl
  obtain ⟨m, hm⟩ : ∃ m, (rn s).length = m := ⟨_, rfl⟩
  rw [hm] at hrl hcell hr hB
  rw [hm]
  clear hB hr hm
  obtain ⟨P, hP⟩ : ∃ P, clipP s n = P := ⟨_, rfl⟩
  have hPs := clipP_le s n
  rw [hP] at hcell hPs
  have HC := Lib.hid hcell
  have HP := Lib.hid hP
  clear hcell hP
  have HCl := Lib.hid (Clip_any s n)
  have HE : Hid (∀ x : Bool, x = ((clipS s n).toList == (s.extract 0 P).toList) → Ending.returned (.bool x) = .returned (.bool true)) := Lib.hid (fun x hx => by rw [hx, clipS, HP.out, beq_self_eq_true])
  by_cases h0 : n < 0
  · have c0 := HC.out 0 (by unfold clampK; omega)
    rw [Nat.add_zero] at c0
    go_wp2_with fail
    have hS : w2.cell? ⟨b, off, none⟩ = some (.int .i64 (P : Nat)) ∧ Below w.heap.size w w2 := ⟨c0, hbel⟩
    go_region_held3 (fun w' => w'.cell? ⟨b, off, none⟩ = some (.int .i64 (P : Nat)) ∧ Below w.heap.size w w') (first | assumption | exact ⟨hS.1, hS.2.drew⟩) (first | (go_at_call 55; refine (HCl.out _ (by omega) (by omega)).mono ?_; rintro e w8 ⟨rfl, hb8⟩; have hS8 := Cel.made (by assumption) hb8))
    all_goals
      go_wp2
      go_ret
      exact ⟨HE.out _ rfl, hS8.2⟩
  · obtain ⟨k, rfl⟩ : ∃ k : Nat, n = k := ⟨n.toNat, by omega⟩
    by_cases h1 : k ≤ m
    · have c0 := HC.out k (by unfold clampK; omega)
      go_wp2_with fail
      have i1 : k < m + 1 := by omega
      have i2 : (0 : Int) ≤ (k : Int) := by omega
      have i3 : (k : Int) < (m : Int) + 1 := by omega
      have i4 : (k : Int) ≤ (m : Int) := by omega
      have hS : w2.cell? ⟨b, off + k, none⟩ = some (.int .i64 (P : Nat)) ∧ Below w.heap.size w w2 := ⟨c0, hbel⟩
      go_region_held3 (fun w' => w'.cell? ⟨b, off + k, none⟩ = some (.int .i64 (P : Nat)) ∧ Below w.heap.size w w') (first | assumption | exact ⟨hS.1, hS.2.drew⟩) (first | (go_at_call 55; refine (HCl.out _ (by omega) (by omega)).mono ?_; rintro e w8 ⟨rfl, hb8⟩; have hS8 := Cel.made (by assumption) hb8))
      all_goals
        go_wp2
        go_ret
        exact ⟨HE.out _ rfl, hS8.2⟩

    · have c0 := HC.out m (by unfold clampK; omega)
      go_wp2_with fail
      have i1 : m < m + 1 := by omega
      have i2 : (0 : Int) ≤ (m : Int) := by omega
      have i3 : (m : Int) < (m : Int) + 1 := by omega
      have hS : w2.cell? ⟨b, off + m, none⟩ = some (.int .i64 (P : Nat)) ∧ Below w.heap.size w w2 := ⟨c0, hbel⟩
      go_region_held3 (fun w' => w'.cell? ⟨b, off + m, none⟩ = some (.int .i64 (P : Nat)) ∧ Below w.heap.size w w') (first | assumption | exact ⟨hS.1, hS.2.drew⟩) (first | (go_at_call 55; refine (HCl.out _ (by omega) (by omega)).mono ?_; rintro e w8 ⟨rfl, hb8⟩; have hS8 := Cel.made (by assumption) hb8))
      all_goals
        go_wp2
        go_ret
        exact ⟨HE.out _ rfl, hS8.2⟩

theorem i64_of_wf {n : Int} (h : (Lit.int .i64 n).wf = true) : -9223372036854775808 ≤ n ∧ n ≤ 9223372036854775807 := by
  simpa [Lit.wf, IntKind.min, IntKind.max, IntKind.signed, IntKind.bits] using h

theorem textClips_row (s : ByteArray) (n : Int) (w : World) (_hm : s.size ≤ maxLen) (hs : s.size ≤ 1048576) (hn : (Lit.int .i64 n).wf = true) :
    Calls Try.prog 11 #[.string s, .int .i64 n] w (RetT w true) := textClips_any s n w (by omega) (i64_of_wf hn)

end Go.Proofs.Ytbmaaofomgkllaa
