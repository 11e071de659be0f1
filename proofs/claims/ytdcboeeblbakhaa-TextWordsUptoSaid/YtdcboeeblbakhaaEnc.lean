/- Runes written and decoded again: a list of valid runes, encoded, is decoded as that list, and nothing in it is ill-formed. Folding. No condition. -/
import Derived.Test.YtdcboeeblbakhaaBad
namespace Go.Proofs.Ytdcboeeblbakhaa
open Go Go.RowKit

theorem bt_lt (n : Nat) : (bt n).toNat < 256 := UInt8.toNat_lt _

set_option maxRecDepth 100000 in
set_option maxHeartbeats 1000000 in
/-- What is written for a valid rune is decoded as it, whatever follows. -/
theorem dec_put {c : Nat} (h : VR c) (r : List UInt8) : Lib.decodeL (putR c ++ r) = (c, (putR c).length) := by
  obtain ⟨h1, h2⟩ := h
  rw [Lib.decodeL_N]
  rcases (show c < 128 ∨ (128 ≤ c ∧ c < 2048) ∨ (2048 ≤ c ∧ c < 65536) ∨ 65536 ≤ c by omega) with h3 | ⟨h3, h4⟩ | ⟨h3, h4⟩ | h3
  · rw [putR_one h3]
    simp only [List.cons_append, List.nil_append, List.getD_cons_zero, List.length_cons, List.length_nil]
    rw [bt_nat c (by omega), Lib.decodeN, if_pos h3]
  · rw [putR_two (by omega) h4]
    simp only [List.cons_append, List.nil_append, List.getD_cons_zero, List.getD_cons_succ, List.length_cons, List.length_nil]
    rw [bt_nat _ (by omega), bt_nat _ (by omega), dN_two (by omega) (by omega), if_pos (by omega)]
    apply Prod.ext <;> simp only <;> omega
  · rw [putR_three (by omega) h4]
    simp only [List.cons_append, List.nil_append, List.getD_cons_zero, List.getD_cons_succ, List.length_cons, List.length_nil]
    rw [bt_nat _ (by omega), bt_nat _ (by omega), bt_nat _ (by omega), dN_three (by omega) (by omega), if_pos (by omega)]
    apply Prod.ext <;> simp only <;> omega
  · rw [putR_four (by omega)]
    simp only [List.cons_append, List.nil_append, List.getD_cons_zero, List.getD_cons_succ, List.length_cons, List.length_nil]
    rw [bt_nat _ (by omega), bt_nat _ (by omega), bt_nat _ (by omega), bt_nat _ (by omega), dN_four (by omega) (by omega), if_pos (by omega)]
    apply Prod.ext <;> simp only <;> omega

/-- Runes, written. -/
def encR : List Nat → List UInt8
  | [] => []
  | c :: l => putR c ++ encR l
theorem encR_append : ∀ a b : List Nat, encR (a ++ b) = encR a ++ encR b
  | [], b => rfl
  | c :: a, b => by rw [List.cons_append, encR, encR, encR_append a b, List.append_assoc]
theorem encR_len : ∀ l : List Nat, l.length ≤ (encR l).length ∧ (encR l).length ≤ 4 * l.length
  | [] => by simp [encR]
  | c :: l => by
    have := encR_len l
    have := putR_len c
    simp only [encR, List.length_append, List.length_cons]
    omega

/-- The runes of a text. -/
def rs (s : ByteArray) : List Nat := (rn s).map (·.2)
theorem rs_len (s : ByteArray) : (rs s).length = (rn s).length := by simp [rs]

theorem drop_pos {s : ByteArray} {p : Nat} (h : s.data.toList.drop p ≠ []) : p < s.size := by
  apply Nat.lt_of_not_le
  intro hle
  exact h (List.drop_eq_nil_of_le (by rw [← Lib.size_eq]; exact hle))

theorem enc_walk (s : ByteArray) : ∀ (cs : List Nat) (f p : Nat), s.data.toList.drop p = encR cs → (∀ c ∈ cs, VR c) → cs.length ≤ f → (rnF s f p).map (·.2) = cs ∧ wrF s f p = none
  | [], f, p, h, _, _ => by
    have hp : ¬ p < s.size := by
      intro hp
      have := congrArg List.length h
      rw [List.length_drop, ← Lib.size_eq] at this
      simp [encR] at this
      omega
    rw [rnF_end hp, wrF_end hp]
    exact ⟨rfl, rfl⟩
  | c :: cs, 0, p, _, _, h => by simp at h
  | c :: cs, f + 1, p, h, hv, hf => by
    have hc : VR c := hv c List.mem_cons_self
    have hl := putR_len c
    have hp : p < s.size := drop_pos (by rw [h, encR]; intro e; have := congrArg List.length e; rw [List.length_append, List.length_nil] at this; omega)
    have hd : Utf8.decode s p = (c, (putR c).length) := by rw [← Lib.decodeL_drop, h, encR, dec_put hc]
    have hok : okD s p = true := by
      unfold okD
      rw [hd]
      by_cases e : c = 65533
      · rw [e]; rfl
      · simp [e]
    have hn : s.data.toList.drop (p + (putR c).length) = encR cs := by
      rw [← List.drop_drop, h, encR, List.drop_left]
    obtain ⟨h1, h2⟩ := enc_walk s cs f _ hn (fun x hx => hv x (List.mem_cons_of_mem _ hx)) (by simpa using hf)
    rw [rnF_step hp, wrF_good hp hok, hd]
    exact ⟨by rw [List.map_cons, h1], h2⟩

theorem rnF_valid (s : ByteArray) : ∀ (f p : Nat), ∀ c ∈ (rnF s f p).map (·.2), VR c
  | 0, p, c, h => by simp [rnF] at h
  | f + 1, p, c, h => by
    by_cases hp : p < s.size
    · rw [rnF_step hp, List.map_cons, List.mem_cons] at h
      rcases h with h | h
      · subst h; exact (decode_valid s p hp).1
      · exact rnF_valid s f _ c h
    · rw [rnF_end hp] at h; simp at h
theorem rs_valid (s : ByteArray) : ∀ c ∈ rs s, VR c := rnF_valid s _ _

theorem foldF_enc (s : ByteArray) : ∀ (f p : Nat), foldF s f p = encR (((rnF s f p).map (·.2)).map low)
  | 0, p => rfl
  | f + 1, p => by
    by_cases hp : p < s.size
    · rw [foldF_step hp, rnF_step hp, List.map_cons, List.map_cons, encR, foldF_enc s f]
    · rw [foldF_end hp, rnF_end hp]; rfl
theorem foldB_enc (s : ByteArray) : foldB s = encR ((rs s).map low) := foldF_enc s _ _

theorem low_low (c : Nat) : low (low c) = low c := by
  unfold low
  repeat' split
  all_goals omega
theorem low_map_valid {l : List Nat} (h : ∀ c ∈ l, VR c) : ∀ c ∈ l.map low, VR c := by
  intro c hc
  obtain ⟨x, hx, rfl⟩ := List.mem_map.1 hc
  exact low_valid (h x hx)

/-- The text of these bytes. -/
def bs (l : List UInt8) : ByteArray := ⟨l.toArray⟩
theorem bs_list (l : List UInt8) : (bs l).data.toList = l := by simp [bs]
theorem bs_size (l : List UInt8) : (bs l).size = l.length := by rw [Lib.size_eq, bs_list]
theorem bs_of (s : ByteArray) : bs s.data.toList = s := by cases s; simp [bs]
theorem rs_enc {cs : List Nat} (h : ∀ c ∈ cs, VR c) : rs (bs (encR cs)) = cs ∧ wr (bs (encR cs)) = none := by
  have hl := encR_len cs
  have := enc_walk (bs (encR cs)) cs (bs (encR cs)).size 0 (by rw [bs_list]; rfl) h (by rw [bs_size]; omega)
  exact this

theorem rs_fold (s : ByteArray) : rs (bs (foldB s)) = (rs s).map low := by rw [foldB_enc]; exact (rs_enc (low_map_valid (rs_valid s))).1
theorem wr_fold (s : ByteArray) : wr (bs (foldB s)) = none := by rw [foldB_enc]; exact (rs_enc (low_map_valid (rs_valid s))).2
theorem fold_fold (s : ByteArray) : foldB (bs (foldB s)) = foldB s := by
  rw [foldB_enc (bs (foldB s)), rs_fold, List.map_map, foldB_enc]
  congr 2
  funext c
  exact low_low c
theorem rn_fold_len (s : ByteArray) : (rn (bs (foldB s))).length = (rn s).length := by rw [← rs_len, rs_fold, List.length_map, rs_len]
theorem foldB_len (s : ByteArray) : (foldB s).length ≤ 4 * s.size := by
  have h1 := (encR_len ((rs s).map low)).2
  have h2 := rnF_len s s.size 0
  rw [← foldB_enc, List.length_map, rs_len] at h1
  unfold rn at h1
  omega

end Go.Proofs.Ytdcboeeblbakhaa
