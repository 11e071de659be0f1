/- TextLikes: for every two texts the call returns true, and what was there stands. -/
import Derived.Test.YtbmaaofomgkllaaLike
import Derived.Test.YtbmaaofomgkllaaRefLike
namespace Go.Proofs.Ytbmaaofomgkllaa
open Go Go.RowKit

theorem rs_pct : rs (bs [37]) = [37] := by
  have h := (rs_enc (cs := [37]) (by intro c hc; simp at hc; subst hc; unfold VR; omega)).1
  have e : encR [37] = [37] := by decide
  rw [e] at h
  exact h


/-- The text, cut to 400 bytes. -/
def c400 (s : ByteArray) : ByteArray := if 400 < s.size then s.extract 0 400 else s
theorem c400_le (s : ByteArray) : (c400 s).size ≤ 400 := by
  unfold c400
  split
  · simp; omega
  · omega

set_option maxRecDepth 100000 in
set_option maxHeartbeats 4000000 in
theorem textLikes_any (s p : ByteArray) (w : World) (hs : s.size ≤ maxLen) (hp : p.size ≤ maxLen) : Calls Try.prog 14 #[.string s, .string p] w (RetT w true) := by
  unfold maxLen at hs hp
  obtain ⟨S, hS⟩ : ∃ S, c400 s = S := ⟨_, rfl⟩
  obtain ⟨P, hP⟩ : ∃ P, c400 p = P := ⟨_, rfl⟩
  have hSs : S.size ≤ 400 := by rw [← hS]; exact c400_le s
  have hPs : P.size ≤ 400 := by rw [← hP]; exact c400_le p
  obtain ⟨FS, hFS⟩ : ∃ F, F = bs (foldB S) := ⟨_, rfl⟩
  obtain ⟨FP, hFP⟩ : ∃ F, F = bs (foldB P) := ⟨_, rfl⟩
  have hs4 := foldB_len S
  have hp4 := foldB_len P
  have hFSs : FS.size ≤ 1600 := by rw [hFS, bs_size]; omega
  have hFPs : FP.size ≤ 1600 := by rw [hFP, bs_size]; omega
  obtain ⟨r, hr⟩ : ∃ r, mt ((rs S).map low) ((rs P).map low) = r := ⟨_, rfl⟩
  have H1 : Hid (∀ w, Calls Try.prog 62 #[.string S, .string P] w (RetT w r)) := Lib.hid (fun w => by rw [← hr]; exact Like_any S P w (by omega) (by omega))
  have H2 : Hid (∀ w, Calls Try.prog 63 #[.string S, .string P] w (RetT w r)) := Lib.hid (fun w => by rw [← hr]; exact refLike_any S P w (by omega) (by omega))
  have H3 : Hid (∀ w, Calls Try.prog 62 #[.string S, .string ⟨#[37]⟩] w (RetT w true)) := Lib.hid (fun w => by
    have h := Like_any S (bs [37]) w (by omega) (by rw [bs_size]; simp)
    rw [rs_pct] at h
    rw [show ([37] : List Nat).map low = [37] by decide, mt_pct] at h
    exact h)
  have hmm : ∀ l : List Nat, (l.map low).map low = l.map low := fun l => by
    rw [List.map_map]
    congr 1
    funext c
    exact low_low c
  have H4 : Hid (∀ w, Calls Try.prog 62 #[.string FS, .string P] w (RetT w r)) := Lib.hid (fun w => by
    have h := Like_any FS P w (by omega) (by omega)
    rw [hFS, rs_fold, hmm, hr] at h
    rw [hFS]
    exact h)
  have H5 : Hid (∀ w, Calls Try.prog 62 #[.string S, .string FP] w (RetT w r)) := Lib.hid (fun w => by
    have h := Like_any S FP w (by omega) (by omega)
    rw [hFP, rs_fold, hmm, hr] at h
    rw [hFP]
    exact h)
  have H6 : Hid (∀ w, Calls Try.prog 56 #[.string S] w (RetSt w FS)) := Lib.hid (fun w => by rw [hFS]; exact Fold_any S w (by omega))
  have H7 : Hid (∀ w, Calls Try.prog 56 #[.string P] w (RetSt w FP)) := Lib.hid (fun w => by rw [hFP]; exact Fold_any P w (by omega))
  clear hr hFS hFP hmm hs4 hp4 hFSs hFPs hSs hPs
  have d1 : (400 < s.size ∧ Hid (s.extract 0 400 = S)) ∨ (¬ 400 < s.size ∧ s = S) := by
    by_cases h1 : 400 < s.size
    · exact .inl ⟨h1, Lib.hid (by rw [← hS, c400, if_pos h1])⟩
    · exact .inr ⟨h1, by rw [← hS, c400, if_neg h1]⟩
  have d2 : (400 < p.size ∧ Hid (p.extract 0 400 = P)) ∨ (¬ 400 < p.size ∧ p = P) := by
    by_cases h1 : 400 < p.size
    · exact .inl ⟨h1, Lib.hid (by rw [← hP, c400, if_pos h1])⟩
    · exact .inr ⟨h1, by rw [← hP, c400, if_neg h1]⟩
  clear hS hP
  rcases d1 with ⟨h1, E1⟩ | ⟨h1, rfl⟩ <;> rcases d2 with ⟨h2, E2⟩ | ⟨h2, rfl⟩
  all_goals
    go_enter Try.func14, Try.ntmps14
    go_wp2_with fail
    refine (awake2_any _).mono ?_
    rintro e w1 ⟨rfl, hb1⟩
    go_wp2_with fail
    try rw [E1.out]
    try rw [E2.out]
    refine (H1.out _).mono ?_
    rintro e w2 ⟨rfl, hb2⟩
    have k2 := hb1.trans (hb2.mono hb1.size)
    clear hb1 hb2
    go_wp2_with fail
    refine (H2.out _).mono ?_
    rintro e w3 ⟨rfl, hb3⟩
    have k3 := k2.trans (hb3.mono k2.size)
    clear k2 hb3
    go_wp2_with fail
    refine (H3.out _).mono ?_
    rintro e w4 ⟨rfl, hb4⟩
    have k4 := k3.trans (hb4.mono k3.size)
    clear k3 hb4
    go_wp2_with fail
    refine (H6.out _).mono ?_
    rintro e w5 ⟨rfl, hb5⟩
    have k5 := k4.trans (hb5.mono k4.size)
    clear k4 hb5
    go_wp2_with fail
    refine (H4.out _).mono ?_
    rintro e w6 ⟨rfl, hb6⟩
    have k6 := k5.trans (hb6.mono k5.size)
    clear k5 hb6
    go_wp2_with fail
    refine (H7.out _).mono ?_
    rintro e w7 ⟨rfl, hb7⟩
    have k7 := k6.trans (hb7.mono k6.size)
    clear k6 hb7
    go_wp2_with fail
    refine (H5.out _).mono ?_
    rintro e w8 ⟨rfl, hb8⟩
    have k8 := k7.trans (hb8.mono k7.size)
    clear k7 hb8
    go_wp2
    go_ret
    exact ⟨rfl, k8⟩

theorem textLikes_row (s p : ByteArray) (w : World) (hm : s.size ≤ maxLen) (_hs : s.size ≤ 140737488351232) (hm2 : p.size ≤ maxLen) (_hp : p.size ≤ 140737488351232) :
    Calls Try.prog 14 #[.string s, .string p] w (RetT w true) := textLikes_any s p w hm hm2

end Go.Proofs.Ytbmaaofomgkllaa
