/- A filter: what is put in may be in; at most so many keys. No condition but sizes. -/
import Derived.Test.YtoaajkdhlhopmaaBlH
import Derived.Test.YtoaajkdhlhopmaaEnA
namespace Go.Proofs.Ytoaajkdhlhopmaa
open Go Go.RowKit

theorem toNat_or {x y : Nat} (h1 : x < 256) (h2 : y < 256) : (UInt8.ofNat (x ||| y)).toNat = x ||| y := by
  have hor : x ||| y < 256 := Nat.or_lt_two_pow (n := 8) h1 h2
  generalize x ||| y = q at hor ⊢
  simp
  omega
theorem putB_mono {fs : List UInt8} {b d : Nat} (h : setB fs d = true) : setB (putB fs b) d = true := by
  rw [setB_eq] at h ⊢
  by_cases e : d / 8 = b / 8
  · by_cases hl : b / 8 < fs.length
    · have hp : 2 ^ (b % 8) < 256 := Nat.lt_of_lt_of_le (Nat.pow_lt_pow_right (by omega) (Nat.mod_lt b (by omega))) (by decide)
      unfold putB
      rw [e, List.getElem?_set_self hl, Option.getD_some, toNat_or (UInt8.toNat_lt _) hp, Nat.testBit_or]
      rw [e] at h
      rw [h]
      rfl
    · unfold putB
      rw [List.set_eq_of_length_le (by omega)]
      exact h
  · rw [putB_off (fun e2 => e e2.symm)]
    exact h
theorem putB_self {fs : List UInt8} {b : Nat} (hl : b / 8 < fs.length) : setB (putB fs b) b = true := by
  rw [setB_eq]
  have hp : 2 ^ (b % 8) < 256 := Nat.lt_of_lt_of_le (Nat.pow_lt_pow_right (by omega) (Nat.mod_lt b (by omega))) (by decide)
  unfold putB
  rw [List.getElem?_set_self hl, Option.getD_some, toNat_or (UInt8.toNat_lt _) hp, Nat.testBit_or, Nat.testBit_two_pow_self, Bool.or_true]
theorem puts_mono {d : Nat} : ∀ (l : List Nat) (fs : List UInt8), setB fs d = true → setB (l.foldl putB fs) d = true
  | [], _, h => h
  | b :: l, fs, h => by
    rw [List.foldl_cons]
    exact puts_mono l _ (putB_mono h)
theorem puts_mem {d : Nat} : ∀ (l : List Nat) (fs : List UInt8), d ∈ l → d / 8 < fs.length → setB (l.foldl putB fs) d = true
  | [], _, h, _ => by cases h
  | b :: l, fs, h, hl => by
    rw [List.foldl_cons]
    rcases List.mem_cons.1 h with rfl | h
    · exact puts_mono l _ (putB_self hl)
    · exact puts_mem l _ h (by rw [putB_len]; exact hl)
theorem fills_mono {m k d : Nat} : ∀ (keys : List (List UInt8)) (fs : List UInt8), setB fs d = true → setB (keys.foldl (fillB m k) fs) d = true
  | [], _, h => h
  | b :: l, fs, h => by
    rw [List.foldl_cons]
    exact fills_mono l _ (puts_mono _ _ h)
theorem fills_mem {m k : Nat} (hm : 0 < m) {key : List UInt8} {i : Nat} (hi : i < k) : ∀ (keys : List (List UInt8)) (fs : List UInt8), key ∈ keys → m ≤ 8 * fs.length → setB (keys.foldl (fillB m k) fs) (bitN key m i) = true
  | [], _, h, _ => by cases h
  | b :: l, fs, h, hl => by
    rw [List.foldl_cons]
    rcases List.mem_cons.1 h with rfl | h
    · exact fills_mono l _ (puts_mem _ _ (List.mem_map.2 ⟨i, List.mem_range.2 hi, rfl⟩) (by have := bitN_lt key hm i; omega))
    · exact fills_mem hm hi l _ h (by rw [fillB_len]; exact hl)
theorem filter_may {p : Nat} {xss : List (List UInt8)} {key : List UInt8} (h : key ∈ xss) : mayB (filterB p xss) key = (true, 0) := by
  obtain ⟨s, hs⟩ : ∃ s, s = ((if xss.length * p < 64 then 64 else xss.length * p) + 7) / 8 + 1 := ⟨_, rfl⟩
  obtain ⟨k, hk⟩ : ∃ k, k = min (max (p * 69 / 100) 1) 30 := ⟨_, rfl⟩
  have hs2 : 9 ≤ s := by rw [hs]; split <;> omega
  have hk2 : 1 ≤ k ∧ k ≤ 30 := by omega
  have hF : filterB p xss = buildB s k xss := by unfold filterB; rw [← hs, ← hk]
  have hl := buildB_len s k xss
  have hla := buildB_last (k := k) (show 2 ≤ s by omega) xss
  have h8 : (UInt8.ofNat k).toNat = k := by simp; omega
  have hgl : (buildB s k xss).getLast? = some (UInt8.ofNat k) := by rw [List.getLast?_eq_getElem?, hl, hla]
  have hg : goodB (buildB s k xss) = true := by
    unfold goodB
    rw [hgl, hl]
    simp only [h8]
    simp
    omega
  have hn : numB (buildB s k xss) = k := by
    unfold numB
    rw [hgl]
    exact h8
  have ha : allB (buildB s k xss) key (8 * (s - 1)) = true := by
    unfold allB
    rw [List.all_eq_true, hn]
    intro i hi
    exact fills_mem (by omega) (List.mem_range.1 hi) xss _ h (by simp; omega)
  unfold mayB
  rw [hF, hg, hl, ha]
  rfl
theorem filter_len {p : Nat} {xss : List (List UInt8)} (hp : p ≤ 100) (hx : xss.length ≤ 200) : (filterB p xss).length ≤ 2501 := by
  have hq : xss.length * p ≤ 20000 := Nat.mul_le_mul hx hp
  unfold filterB
  rw [buildB_len]
  split <;> omega
set_option maxRecDepth 100000 in
theorem few9_any (A : Option Addr) (n c k : Nat) (hc : n ≤ c) (w : World) :
    Calls Try.prog 36 #[.slice A n c, .int .i64 (k : Int)] w fun e w' => e = .returned (.slice A (min n k) c) ∧ w' = w := by
  by_cases h1 : k < n
  · have e1 : min n k = k := by omega
    have hs : ∀ w, (Instr.slice 51 (.slice A n c) none (some (.int .i64 (k : Int))) none).run Try.prog w = .ok (.slice A k c) w := fun w => by
      rw [run_slice_h w 51 A n c Try.underlying51 .i64 (k : Int) (by omega) (by omega)]
      have hz : ∀ w, (sizeOf (Try.prog.elem 51)).run Try.prog w = .ok 1 w := fun w => by kernel_rfl
      simp only [hz, Result.andThen, sliced, Int.toNat_natCast, Nat.zero_mul, Nat.sub_zero]
      cases A <;> simp [Addr.add]
    rw [e1]
    go_enter Try.func36, Try.ntmps36
    go_wp2
    go_ret
    exact ⟨rfl, rfl⟩
  · have e1 : min n k = n := by omega
    rw [e1]
    go_enter Try.func36, Try.ntmps36
    go_wp2
    go_ret
    exact ⟨rfl, rfl⟩
theorem RdL.first {w : World} {A : Option Addr} {n : Nat} {xss : List (List UInt8)} (h : RdL w A n xss) (k : Nat) : RdL w A (min n k) (xss.take k) := by
  refine ⟨by rw [List.length_take, h.1]; omega, fun h0 => ?_⟩
  obtain ⟨b, off, h1, h2, h3⟩ := h.2 (by omega)
  refine ⟨b, off, h1, h2, fun i xs hi => h3 i xs ?_⟩
  rw [List.getElem?_take] at hi
  split at hi
  · exact hi
  · cases hi
end Go.Proofs.Ytoaajkdhlhopmaa
