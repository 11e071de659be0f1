/- A filter's hash: the program's and the reference's. No condition but sizes. -/
import Derived.Test.YtlnpicfkcahdbaaGreatMem
import Derived.Laws.BitsAllLaws
import Derived.Deep.QuietTactic
import Derived.BigQuiet
namespace Go.Proofs.YtlnpicfkcahdbaaGreat
open Go Go.RowKit

/-- One byte more. -/
def hstep (h : Nat) (c : UInt8) : Nat := ((h ^^^ c.toNat) * 1099511628211) % 18446744073709551616
def hashB (xs : List UInt8) : Nat := xs.foldl hstep 14695981039346656037
theorem hstep_lt (h : Nat) (c : UInt8) : hstep h c < 18446744073709551616 := by
  unfold hstep
  exact Nat.mod_lt _ (by omega)
theorem hfold_lt : ∀ (xs : List UInt8) (h : Nat), h < 18446744073709551616 → xs.foldl hstep h < 18446744073709551616
  | [], _, h => h
  | x :: xs, h, _ => by
    rw [List.foldl_cons]
    exact hfold_lt xs _ (hstep_lt h x)
theorem hashB_lt (xs : List UInt8) : hashB xs < 18446744073709551616 := by
  unfold hashB
  exact hfold_lt xs _ (by omega)
theorem foldl_snoc {α β : Type} (f : α → β → α) (a : α) (l : List β) (x : β) : (l ++ [x]).foldl f a = f (l.foldl f a) x := by
  rw [List.foldl_append]
  rfl
theorem take_snocB {xs : List UInt8} {k : Nat} {x : UInt8} (h : xs[k]? = some x) : xs.take (k + 1) = xs.take k ++ [x] := by
  rw [List.take_add_one, h]
  rfl
theorem hash_snoc {xs : List UInt8} {k : Nat} {x : UInt8} (h : xs[k]? = some x) : hashB (xs.take (k + 1)) = hstep (hashB (xs.take k)) x := by
  rw [take_snocB h]
  exact foldl_snoc hstep _ _ x
theorem u64_xorB {h : Nat} (c : UInt8) (hh : h < 18446744073709551616) : bits .xor .u64 (h : Int) (c.toNat : Int) = ((h ^^^ c.toNat : Nat) : Int) := u64_xor_nat h c.toNat hh (Nat.lt_trans c.toNat_lt (by decide))
theorem u64_mulF (z : Nat) : IntKind.u64.wrap ((z : Int) * 1099511628211) = ((z * 1099511628211 % 18446744073709551616 : Nat) : Int) := by
  have h : IntKind.u64.wrap ((z : Int) * 1099511628211) = ((z : Int) * 1099511628211) % 18446744073709551616 := by
    rw [IntKind.wrap_u64]
  rw [h]
  omega
/-- What is added for each bit more. -/
def stepN (h : Nat) : Nat := 2 * (h / 4294967296 / 2) + 1
/-- The sum ahead of the i-th bit. -/
def sumN (h i : Nat) : Nat := (h % 4294967296 + i * stepN h) % 18446744073709551616
def bitN (key : List UInt8) (m i : Nat) : Nat := sumN (hashB key) i % m
theorem or_one (x : Nat) : x ||| 1 = 2 * (x / 2) + 1 := by
  apply Nat.eq_of_testBit_eq
  intro i
  cases i with
  | zero => simp
  | succ i =>
    rw [Nat.testBit_or, Nat.testBit_succ, Nat.testBit_succ, Nat.testBit_succ]
    have h1 : (1 : Nat) / 2 = 0 := rfl
    have h2 : (2 * (x / 2) + 1) / 2 = x / 2 := by omega
    rw [h1, h2]
    simp
theorem u64_low (h : Nat) (hh : h < 18446744073709551616) : bits .and .u64 (h : Int) 4294967295 = ((h % 4294967296 : Nat) : Int) := by
  have h1 := u64_and_nat h 4294967295 hh (by omega)
  have h2 : h &&& 4294967295 = h % 4294967296 := Nat.and_two_pow_sub_one_eq_mod h 32
  rw [h2] at h1
  exact h1
theorem u64_odd (z : Nat) (hz : z < 18446744073709551616) : bits .or .u64 (z : Int) 1 = ((2 * (z / 2) + 1 : Nat) : Int) := by
  have h1 := u64_or_nat z 1 hz (by omega)
  rw [or_one] at h1
  exact h1
theorem sumN_zero (h : Nat) : sumN h 0 = h % 4294967296 := by
  unfold sumN
  rw [Nat.zero_mul, Nat.add_zero]
  omega
theorem sumN_succ (h i : Nat) : sumN h (i + 1) = (sumN h i + stepN h) % 18446744073709551616 := by
  unfold sumN
  rw [Nat.add_mul, Nat.one_mul, ← Nat.add_assoc]
  generalize h % 4294967296 + i * stepN h = a
  generalize stepN h = b
  omega
set_option maxRecDepth 100000 in
set_option maxHeartbeats 2000000 in
theorem Hash_any (A : Option Addr) (n c : Nat) (xs : List UInt8) (w : World) (h : Rd w A n xs) (hn : n ≤ maxLen) :
    Calls Tryz.prog 124 #[.slice A n c] w (fun e w' => e = .returned (.int .u64 (hashB xs : Int)) ∧ w' = w) := by
  unfold maxLen at hn
  have HL := Lib.hid h.len
  go_enter Tryz.func124, Tryz.ntmps124
  go_wp2_with fail
  go_loopw [3, 8] (fun s3 s8 wr => ∃ k : Nat, k ≤ n ∧ s8 = .int .i64 (k : Int) ∧ s3 = .int .u64 (hashB (xs.take k) : Int) ∧ wr = w.drewN 0) (fun _ s _ => n - (intOf s).toNat)
  case atStart => exact ⟨0, Nat.zero_le _, rfl, rfl, by simp [World.drewN]⟩
  case round =>
    obtain ⟨k, hk, rfl, rfl, hX⟩ := hrel
    have h : Rd wr A n xs := by rw [hX]; exact h.drewN 0
    have HX := Lib.hid hX
    clear hX
    obtain ⟨z, hz⟩ : ∃ z, z = hashB (xs.take k) := ⟨_, rfl⟩
    rw [← hz]
    have hzl : z < 18446744073709551616 := by rw [hz]; exact hashB_lt _
    by_cases hlt : k < n
    · obtain ⟨b, off, rfl, _⟩ := h.pos (by omega)
      obtain ⟨x, hx1, hx2, hx3⟩ := h.at_ k hlt
      have hs : hashB (xs.take (k + 1)) = hstep z x := by rw [hash_snoc hx1, hz]
      have HS := Lib.hid hs
      have e1 := u64_xorB x hzl
      have e2 := u64_mulF (z ^^^ x.toNat)
      have e3 : IntKind.u64.wrap (x.toNat : Int) = (x.toNat : Int) := by rw [IntKind.wrap_u64]; omega
      clear hs hx1 hz
      go_wp2_with fail
      go_roundw
      case rel => exact ⟨k + 1, by omega, by go_num, by rw [HS.out]; rfl, HX.out⟩
      case measure => simp [intOf]; omega
    · have htk : xs.take k = xs := List.take_of_length_le (by have := HL.out; omega)
      rw [htk] at hz
      have HZ := Lib.hid hz
      clear hz htk
      go_wp2
      go_ret
      exact ⟨by rw [← HZ.out]; rfl, by rw [HX.out]; simp [World.drewN]⟩
end Go.Proofs.YtlnpicfkcahdbaaGreat
