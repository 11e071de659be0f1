/- The reference's Fold folds a text as text.Fold does; bytes turned into a text. Texts of at most 2^40 bytes. -/
import Derived.Test.YtdcboeeblbakhaaRefPut
import Derived.Test.YtdcboeeblbakhaaRefRunes
import Derived.Test.YtdcboeeblbakhaaClip
import Derived.Test.YtdcboeeblbakhaaEnc
import Derived.Laws.BytesArg
namespace Go.Proofs.Ytdcboeeblbakhaa
open Go Go.RowKit

theorem conv_own {e : TypeId} {w : World} {base n c : Nat} {A : Option Addr} {xs : List UInt8} (h : Own e w base A n c xs) :
    (convert 23 9 (.slice A n c)).run Try.prog w = .ok (.string (bs xs)) w := by
  have hr := h.rd
  have hnil : A = none → xs = [] := fun hA => by
    rcases h.2 with ⟨_, h2⟩ | ⟨g, cap, cur, h1, _⟩
    · have := h.len; exact List.eq_nil_of_length_eq_zero (by omega)
    · rw [hA] at h1; injection h1 with h1; cases h1
  have hadr : A ≠ none → ∃ g, A = some ⟨g, 0, none⟩ := fun hA => by
    rcases h.2 with ⟨h1, _⟩ | ⟨g, cap, cur, h1, _⟩
    · injection h1 with h1; exact absurd h1 hA
    · injection h1 with h1; exact ⟨g, h1⟩
  cases A with
  | none =>
    rw [run_convert_bytes_nil w 23 5 Try.underlying23 Try.underlying5 n c 9 Try.underlying9, hnil rfl]
    rfl
  | some a =>
    obtain ⟨g, hg⟩ := hadr (by simp)
    injection hg with hg
    subst hg
    rw [run_convert_bytes_arg w 23 5 Try.underlying23 Try.underlying5 g 0 n c (xs.map fun x => (x.toNat : Int)) (by simpa using hr.len) ?_ 9 Try.underlying9]
    · congr 2
      unfold strOfNums bs
      congr 2
      rw [List.map_map]
      conv => rhs; rw [← List.map_id xs]
      apply List.map_congr_left
      intro x _
      simp
    · intro i hi
      obtain ⟨x, hx, hc, _⟩ := hr.at_ i hi
      rw [hc]
      simp [List.getD, List.getElem?_map, hx]

set_option maxRecDepth 100000 in
set_option maxHeartbeats 1000000 in
theorem refFold_any (s : ByteArray) (w : World) (hs : s.size ≤ 1099511627776) : Calls Try.prog 27 #[.string s] w (RetSt w (bs (foldB s))) := by
  go_enter Try.func27, Try.ntmps27
  go_wp2_with fail
  refine (refRunes_any s _ hs).mono ?_
  rintro e w2 ⟨A, n, c, B, nb, cb, rfl, hA, _, hb2⟩
  have hr := hA.rd
  have hn : n = (rs s).length := by have := hA.len; simp [runeVs] at this; rw [rs_len]; omega
  have hns : n ≤ s.size := by rw [hn, rs_len]; exact rn_len s
  have hval : ∀ (k : Nat) v, (runeVs (rn s))[k]? = some v → ∃ c, (rs s)[k]? = some c ∧ VR c ∧ v = .int .i64 c := fun k v h => by
    unfold runeVs at h
    rw [List.getElem?_map] at h
    cases hx : (rn s)[k]? with
    | none => rw [hx] at h; cases h
    | some x =>
      rw [hx] at h
      injection h with h
      refine ⟨x.2, by simp [rs, hx], rs_valid s x.2 (List.mem_map.2 ⟨x, List.mem_of_getElem? hx, rfl⟩), h.symm⟩
  have Hval := Lib.hid hval
  clear hA hval
  go_wp2
  go_loopw [5, 6] (fun o i wr => ∃ (D : Option Addr) (m d k : Nat) (xs : List UInt8), o = .slice D m d ∧ i = .int .i64 k ∧ k ≤ n ∧ Own 5 wr w2.heap.size D m d xs ∧ xs = encR (((rs s).take k).map low) ∧ Below w2.heap.size w2 wr) (fun _ i _ => n - (intOf i).toNat)
  case atStart => exact ⟨none, 0, 0, 0, [], rfl, rfl, Nat.zero_le _, Own.nil _ _ _, rfl, Below.refl _ _⟩
  case round =>
    obtain ⟨D, m, d, k, xs, rfl, rfl, hk, ho, hxs, hbw⟩ := hrel
    have hm : m ≤ 4 * k := by
      have h1 := (encR_len (((rs s).take k).map low)).2
      rw [← hxs, ho.len, List.length_map, List.length_take] at h1
      omega
    have Hxs := Lib.hid hxs
    clear hxs
    by_cases hlt : k < n
    · obtain ⟨b, off, rfl, hb⟩ := hr.pos (by omega)
      obtain ⟨v, hv, hcell⟩ := (hr.below hbw).at_ k hlt
      obtain ⟨c0, hc0, hV, rfl⟩ := Hval.out k v hv
      have HV := Lib.hid hV
      have HC := Lib.hid hc0
      clear hv hV hc0
      go_wp2_with fail
      refine (Low_any c0 _ HV.out).mono ?_
      rintro e W ⟨rfl, rfl⟩
      go_wp2_with fail
      refine (Put_any (low c0) _ (low_valid HV.out)).mono ?_
      rintro e w3 ⟨P, lp, cp, rfl, op, hb3⟩
      have hlp : lp ≤ 4 := by have := putR_len (low c0); rw [op.len] at this; omega
      have hbs := hbw.size
      go_wp2_with (at_builtin; refine wpList_app _ rfl _ _ 23 rfl w2.heap.size 5 Try.underlying23 info_u8 D m d xs rfl (ho.below hb3) P lp cp (putR (low c0)) rfl op.rd ?_ ?_ ?_)
      · omega
      · have := hb3.size; omega
      intro D2 d2 w4 ho4 hb4
      have hb5 := (hbw.trans (hb3.mono hbs)).trans hb4
      clear ho op hb3 hb4
      go_wp2
      go_roundw
      case rel =>
        refine ⟨D2, m + lp, d2, k + 1, _, rfl, by go_num, by omega, ho4, ?_, hb5⟩
        rw [Hxs.out, List.take_add_one, HC.out, List.map_append, encR_append]
        simp [encR]
      case measure => simp [intOf]; omega
    · have hcv := conv_own ho
      have e : xs = foldB s := by rw [Hxs.out, foldB_enc, List.take_of_length_le (by omega)]
      subst e
      go_wp2
      go_ret
      exact ⟨rfl, hb2.trans (hbw.mono hb2.size)⟩

end Go.Proofs.Ytdcboeeblbakhaa
