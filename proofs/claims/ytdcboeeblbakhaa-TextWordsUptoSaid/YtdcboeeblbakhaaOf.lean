/- text.Runes and text.Of: a text's runes as a row of its own; runes written as a text. What is well-formed is written back as it was. Texts of at most 2^40 bytes. -/
import Derived.Test.YtdcboeeblbakhaaRefFold
import Derived.Laws.Cover4
namespace Go.Proofs.Ytdcboeeblbakhaa
open Go Go.RowKit

theorem bs_append (a b : List UInt8) : bs a ++ bs b = bs (a ++ b) := by
  have h : (bs a ++ bs b).data.toList = (bs (a ++ b)).data.toList := by
    rw [bs_list]
    simp [bs, ByteArray.data_append]
  rw [← bs_of (bs a ++ bs b), h, bs_list]

theorem encode_eq (z : Int) : Utf8.encode z = bs (putR (fixZ z)) := by
  have hv : Utf8.valid z = true ↔ ¬ (z < 0 ∨ 1114111 < z ∨ (55296 ≤ z ∧ z ≤ 57343)) := by
    simp only [Utf8.valid, Bool.or_eq_true, Bool.and_eq_true, decide_eq_true_eq]
    omega
  have hc : (if Utf8.valid z then z.toNat else Utf8.runeError) = fixZ z := by
    unfold fixZ
    by_cases h : z < 0 ∨ 1114111 < z ∨ (55296 ≤ z ∧ z ≤ 57343)
    · rw [if_pos h, if_neg (by rw [hv]; exact fun k => k h)]; rfl
    · rw [if_neg h, if_pos (hv.2 h)]
  unfold Utf8.encode
  rw [hc]
  simp only
  unfold putR
  repeat' split
  all_goals first | rfl | omega

theorem foldl_enc : ∀ (zs : List Int) (a : List UInt8), zs.foldl (fun r n => r ++ Utf8.encode n) (bs a) = bs (a ++ encR (zs.map fixZ))
  | [], a => by simp [encR]
  | z :: zs, a => by
    rw [List.foldl_cons, encode_eq, bs_append, foldl_enc zs, List.map_cons, encR, List.append_assoc]
theorem runesBytes_eq (zs : List Int) : runesBytes zs = bs (encR (zs.map fixZ)) := by
  unfold runesBytes
  rw [show ByteArray.empty = bs [] from rfl, foldl_enc]
  rfl

set_option maxRecDepth 100000 in
set_option maxHeartbeats 1000000 in
/-- What is well-formed is what is written for the rune. -/
theorem ok_bytes {s : ByteArray} {p : Nat} (hp : p < s.size) (h : okD s p = true) : (s.data.toList.drop p).take (Utf8.decode s p).2 = putR (Utf8.decode s p).1 := by
  have hl : 1 ≤ (s.data.toList.drop p).length := by rw [List.length_drop, ← Lib.size_eq]; omega
  unfold okD at h
  rw [← Lib.decodeL_drop, Lib.decodeL_N] at h ⊢
  obtain ⟨l, hE⟩ : ∃ l, l = s.data.toList.drop p := ⟨_, rfl⟩
  rw [← hE] at h hl ⊢
  clear hE hp
  match l, hl with
  | a :: r, _ =>
    have ha : a.toNat < 256 := UInt8.toNat_lt a
    simp only [List.getD_cons_zero] at h ⊢
    rcases (show a.toNat < 128 ∨ ((128 ≤ a.toNat ∧ a.toNat ≤ 193) ∨ 245 ≤ a.toNat) ∨ (194 ≤ a.toNat ∧ a.toNat ≤ 223) ∨ (224 ≤ a.toNat ∧ a.toNat ≤ 239) ∨ (240 ≤ a.toNat ∧ a.toNat ≤ 244) by omega) with h1 | h1 | ⟨h1, h2⟩ | ⟨h1, h2⟩ | ⟨h1, h2⟩
    · rw [Lib.decodeN, if_pos h1, putR_one h1, bt_toNat]; rfl
    · rw [dN_bad (by omega) h1] at h
      simp at h
    · rw [dN_two h1 h2] at h ⊢
      split
      · next hc =>
        match r, hc with
        | b :: r, hc =>
          simp only [List.getD_cons_succ, List.getD_cons_zero] at hc ⊢
          rw [putR_two (by omega) (by omega)]
          rw [show 192 + ((a.toNat - 192) * 64 + b.toNat - 128) / 64 = a.toNat by omega, show 128 + ((a.toNat - 192) * 64 + b.toNat - 128) % 64 = b.toNat by omega, bt_toNat, bt_toNat]
          rfl
      · next hc => rw [if_neg hc] at h; simp at h
    · rw [dN_three h1 h2] at h ⊢
      split
      · next hc =>
        match r, hc with
        | b :: c :: r, hc =>
          simp only [List.getD_cons_succ, List.getD_cons_zero] at hc ⊢
          rw [putR_three (by omega) (by omega)]
          rw [show 224 + (((a.toNat - 224) * 64 + b.toNat - 128) * 64 + c.toNat - 128) / 4096 = a.toNat by omega, show 128 + (((a.toNat - 224) * 64 + b.toNat - 128) * 64 + c.toNat - 128) / 64 % 64 = b.toNat by omega, show 128 + (((a.toNat - 224) * 64 + b.toNat - 128) * 64 + c.toNat - 128) % 64 = c.toNat by omega, bt_toNat, bt_toNat, bt_toNat]
          rfl
      · next hc => rw [if_neg hc] at h; simp at h
    · rw [dN_four h1 h2] at h ⊢
      split
      · next hc =>
        match r, hc with
        | b :: c :: d :: r, hc =>
          simp only [List.getD_cons_succ, List.getD_cons_zero] at hc ⊢
          rw [putR_four (by omega)]
          obtain ⟨v, hv⟩ : ∃ v, (((a.toNat - 240) * 64 + b.toNat - 128) * 64 + c.toNat - 128) * 64 + d.toNat - 128 = v := ⟨_, rfl⟩
          rw [hv]
          rw [show 240 + v / 262144 = a.toNat by omega, show 128 + v / 4096 % 64 = b.toNat by omega, show 128 + v / 64 % 64 = c.toNat by omega, show 128 + v % 64 = d.toNat by omega, bt_toNat, bt_toNat, bt_toNat, bt_toNat]
          rfl
      · next hc => rw [if_neg hc] at h; simp at h

theorem enc_back (s : ByteArray) : ∀ (f p : Nat), s.size ≤ p + f → wrF s f p = none → encR ((rnF s f p).map (·.2)) = s.data.toList.drop p
  | 0, p, hf, _ => by
    rw [List.drop_eq_nil_of_le (by rw [← Lib.size_eq]; omega)]
    rfl
  | f + 1, p, hf, h => by
    by_cases hp : p < s.size
    · have hwd := width_pos s p hp
      cases ho : okD s p with
      | false => rw [wrF_bad hp ho] at h; cases h
      | true =>
        rw [wrF_good hp ho] at h
        rw [rnF_step hp, List.map_cons, encR, enc_back s f _ (by omega) h, ← ok_bytes hp ho, ← List.drop_drop, List.take_append_drop]
    · rw [rnF_end hp, List.drop_eq_nil_of_le (by rw [← Lib.size_eq]; omega)]
      rfl
theorem rs_back {s : ByteArray} (h : wr s = none) : bs (encR (rs s)) = s := by
  rw [show encR (rs s) = s.data.toList from enc_back s s.size 0 (by omega) h, bs_of]

/-- Runes as a row holds them. -/
def kvs (zs : List Int) : List Value := zs.map kv
def rz (s : ByteArray) : List Int := (rs s).map fun c : Nat => (c : Int)
theorem rz_fix (s : ByteArray) : (rz s).map fixZ = rs s := by
  unfold rz
  rw [List.map_map]
  conv => rhs; rw [← List.map_id (rs s)]
  apply List.map_congr_left
  intro c hc
  exact fixZ_nat (rs_valid s c hc)

def RetK (w : World) (zs : List Int) (e : Ending) (w' : World) : Prop := ∃ A n c, e = .returned (.slice A n c) ∧ OwnV 21 w' w.heap.size A n c (kvs zs) ∧ Below w.heap.size w w'

end Go.Proofs.Ytdcboeeblbakhaa
