/- Entries: both Checks, Twins. No condition but sizes. -/
import Derived.Test.YtlnpicfkcahdbaaGreatEnA
import Derived.Test.YtlnpicfkcahdbaaGreatFamC
namespace Go.Proofs.YtlnpicfkcahdbaaGreat
open Go Go.RowKit

theorem any_snoc {p : En → Bool} {es : List En} {k : Nat} {x : En} (h : es[k]? = some x) : (es.take (k + 1)).any p = ((es.take k).any p || p x) := by
  rw [List.take_add_one, h]
  simp
theorem all_snoc {p : En → Bool} {es : List En} {k : Nat} {x : En} (h : es[k]? = some x) : (es.take (k + 1)).all p = ((es.take k).all p && p x) := by
  rw [List.take_add_one, h]
  simp
theorem any_of_at {p : En → Bool} {es : List En} {k : Nat} {x : En} (h : es[k]? = some x) (hp : p x = true) : es.any p = true := List.any_eq_true.2 ⟨x, List.mem_of_getElem? h, hp⟩
theorem all_of_at {p : En → Bool} {es : List En} {k : Nat} {x : En} (h : es[k]? = some x) (hp : p x = false) : es.all p = false := by
  rw [List.all_eq_false]
  exact ⟨x, List.mem_of_getElem? h, by simp [hp]⟩
theorem take_all {α : Type} {es : List α} {n k : Nat} (hn : es.length = n) (hk : ¬ k < n) : es.take k = es := List.take_of_length_le (by omega)

section
variable {w : World} {A : Option Addr} {n c : Nat} {es : List En}
set_option maxRecDepth 100000 in
set_option maxHeartbeats 4000000 in
theorem refCheck_any (h : REs w A n es) (hn : n ≤ 1099511627776) (hs : ∀ x ∈ es, SzE x) : Calls Tryz.prog 39 #[.slice A n c] w (RetNu w (checkE es)) := by
  have HL := Lib.hid h.len
  have HS := Lib.hid hs
  clear hs
  go_enter Tryz.func39, Tryz.ntmps39
  go_wp2
  go_loopw [3] (fun s wr => ∃ k q : Nat, k ≤ n ∧ s = .int .i64 (k : Int) ∧ (es.take k).any longE = false ∧ wr = w.drewN q) (fun s _ => n - (intOf s).toNat)
  case atStart => exact ⟨0, 0, Nat.zero_le _, rfl, rfl, rfl⟩
  case round =>
    obtain ⟨k, q, hk, rfl, ht, hX⟩ := hrel
    have hR : REs wr A n es := by rw [hX]; exact h.drewN q
    have HX := Lib.hid hX
    have HT := Lib.hid ht
    clear hX ht
    by_cases hlt : k < n
    · obtain ⟨b, off, rfl, hbl⟩ := hR.pos (by omega)
      obtain ⟨x, v0, v1, v2, v3, hx, m0, m1, m2, m3, hev⟩ := hR.at_ k hlt
      obtain ⟨K, kn, kc, V, vn, vc, rfl, rfl, rfl, rfl, r0, r3, _⟩ := hev.parts
      have HXK := Lib.hid hx
      have hl : longE x = (decide (1024 < kn) || decide (65536 < vn)) := by rw [longE, r0.len, r3.len]
      have HLO := Lib.hid hl
      clear hx hl hev r0 r3
      by_cases h1 : 1024 < kn
      · have t1 : decide ((1024 : Int) < (kn : Int)) = true := by simp; omega
        have t2 : decide (1024 < kn) = true := by simpa using h1
        rw [t2] at HLO
        go_wp2
        go_ret
        exact ⟨by rw [checkE, any_of_at HXK.out (by rw [HLO.out]; rfl)]; rfl, by rw [HX.out]; exact below_drewN (Below.refl _ _) q⟩
      · have t1 : decide ((1024 : Int) < (kn : Int)) = false := by simp; omega
        have t2 : decide (1024 < kn) = false := by simpa using h1
        by_cases h2 : 65536 < vn
        · have t3 : decide ((65536 : Int) < (vn : Int)) = true := by simp; omega
          have t4 : decide (65536 < vn) = true := by simpa using h2
          rw [t2, t4] at HLO
          go_wp2
          go_ret
          exact ⟨by rw [checkE, any_of_at HXK.out (by rw [HLO.out]; rfl)]; rfl, by rw [HX.out]; exact below_drewN (Below.refl _ _) q⟩
        · have t3 : decide ((65536 : Int) < (vn : Int)) = false := by simp; omega
          have t4 : decide (65536 < vn) = false := by simpa using h2
          rw [t2, t4] at HLO
          go_wp2
          go_roundw
          case rel => exact ⟨k + 1, q, by omega, by go_num, by rw [any_snoc HXK.out, HT.out, HLO.out]; rfl, HX.out⟩
          case measure => simp [intOf]; omega
    · have htk := take_all HL.out hlt
      rw [htk] at HT
      clear htk
      go_wp2
      go_loopw [4] (fun s wr' => ∃ k q : Nat, k ≤ n ∧ s = .int .i64 (k : Int) ∧ (es.take k).all formE = true ∧ wr' = w.drewN q) (fun s _ => n - (intOf s).toNat)
      case atStart => exact ⟨0, q, Nat.zero_le _, rfl, rfl, HX.out⟩
      case round =>
        obtain ⟨k2, q2, hk2, rfl, ht2, hX2⟩ := hrel
        have hR2 : REs wr A n es := by rw [hX2]; exact h.drewN q2
        have HX2 := Lib.hid hX2
        have HT2 := Lib.hid ht2
        clear hX2 ht2 hR
        by_cases hlt2 : k2 < n
        · obtain ⟨b, off, rfl, hbl⟩ := hR2.pos (by omega)
          obtain ⟨x, v0, v1, v2, v3, hx, m0, m1, m2, m3, hev⟩ := hR2.at_ k2 hlt2
          obtain ⟨K, kn, kc, V, vn, vc, rfl, rfl, rfl, rfl, r0, r3, _⟩ := hev.parts
          have HXK := Lib.hid hx
          have hl : formE x = (decide (x.kind = 1) || (decide (x.kind = 2) && decide (vn = 0))) := by rw [formE, r3.len]
          have HLO := Lib.hid hl
          clear hx hl hev r0 r3
          obtain ⟨B, hB⟩ : ∃ B, B = (decide (x.kind = 1) || (decide (x.kind = 2) && decide (vn = 0))) := ⟨_, rfl⟩
          rw [← hB] at HLO
          cases B with
          | true =>
            have HC : Hid ((((x.kind : Int) != 1) = false) ∨ ((((x.kind : Int) != 1) = true) ∧ (((x.kind : Int) != 2) = false) ∧ vn = 0)) := Lib.hid (by
              by_cases e1 : x.kind = 1
              · left; simp [e1]
              · simp [e1] at hB
                right
                refine ⟨by simp; omega, by simp; omega, by omega⟩)
            clear hB
            rcases HC.out with t1 | ⟨t1, t2, rfl⟩
            all_goals
              go_wp2
              exact ⟨⟨k2 + 1, q2, by omega, by go_num, by rw [all_snoc HXK.out, HT2.out, HLO.out]; rfl, HX2.out⟩, by simp [intOf]; omega⟩
          | false =>
            have HC : Hid (((x.kind : Int) != 1) = true ∧ ((((x.kind : Int) != 2) = true) ∨ (((x.kind : Int) != 2) = false) ∧ 0 < vn)) := Lib.hid (by
              simp at hB
              refine ⟨by simp; omega, ?_⟩
              by_cases e2 : x.kind = 2
              · right
                exact ⟨by simp; omega, by have := hB.2 e2; omega⟩
              · left; simp; omega)
            clear hB
            obtain ⟨t1, t2 | ⟨t2, t3⟩⟩ := HC.out
            all_goals
              go_wp2
              go_ret
              exact ⟨by rw [checkE, HT.out, all_of_at HXK.out HLO.out]; rfl, by rw [HX2.out]; exact below_drewN (Below.refl _ _) q2⟩
        · have htk := take_all HL.out hlt2
          rw [htk] at HT2
          clear htk
          go_wp2
          go_ret
          exact ⟨by rw [checkE, HT.out, HT2.out]; rfl, by rw [HX2.out]; exact below_drewN (Below.refl _ _) q2⟩
set_option maxRecDepth 100000 in
set_option maxHeartbeats 4000000 in
theorem memCheck_any (h : REs w A n es) (hn : n ≤ 1099511627776) : Calls Tryz.prog 42 #[.slice A n c] w (RetNu w (checkE es)) := by
  have HL := Lib.hid h.len
  go_enter Tryz.func42, Tryz.ntmps42
  go_wp2
  go_loopw [3, 8] (fun s3 s8 wr => ∃ k : Nat, k ≤ n ∧ s8 = .int .i64 (k : Int) ∧ s3 = .int .i64 (if (es.take k).all formE then 0 else 3) ∧ (es.take k).any longE = false ∧ Below w.heap.size w wr) (fun _ s _ => n - (intOf s).toNat)
  case atStart => exact ⟨0, Nat.zero_le _, rfl, rfl, rfl, Below.refl _ _⟩
  case round =>
    obtain ⟨k, hk, rfl, hf, ht, hX⟩ := hrel
    obtain ⟨fo, hfo⟩ : ∃ fo : Int, fo = if (es.take k).all formE then 0 else 3 := ⟨_, rfl⟩
    rw [← hfo] at hf
    subst hf
    have hR : REs wr A n es := h.below hX
    have HX := Lib.hid hX
    have HT := Lib.hid ht
    have HF := Lib.hid hfo
    clear hX ht hfo
    by_cases hlt : k < n
    · obtain ⟨b, off, rfl, hbl⟩ := hR.pos (by omega)
      obtain ⟨x, v0, v1, v2, v3, hx, m0, m1, m2, m3, hev⟩ := hR.at_ k hlt
      have HEV := Lib.hid hev
      obtain ⟨K, kn, kc, V, vn, vc, rfl, rfl, rfl, rfl, r0, r3, _⟩ := hev.parts
      have HXK := Lib.hid hx
      have hl : longE x = (decide (1024 < kn) || decide (65536 < vn)) := by rw [longE, r0.len, r3.len]
      have HLO := Lib.hid hl
      have HXA : Hid (∀ o, Below w.heap.size w (wr.alloc o)) := Lib.hid (fun o => HX.out.alloc HX.out.size o)
      clear hx hl hev r0 r3
      by_cases h1 : 1024 < kn
      · have t1 : decide ((1024 : Int) < (kn : Int)) = true := by simp; omega
        have t2 : decide (1024 < kn) = true := by simpa using h1
        rw [t2] at HLO
        go_wp2
        go_ret
        exact ⟨by rw [checkE, any_of_at HXK.out (by rw [HLO.out]; rfl)]; rfl, HXA.out _⟩
      · have t1 : decide ((1024 : Int) < (kn : Int)) = false := by simp; omega
        have t2 : decide (1024 < kn) = false := by simpa using h1
        by_cases h2 : 65536 < vn
        · have t3 : decide ((65536 : Int) < (vn : Int)) = true := by simp; omega
          have t4 : decide (65536 < vn) = true := by simpa using h2
          rw [t2, t4] at HLO
          go_wp2
          go_ret
          exact ⟨by rw [checkE, any_of_at HXK.out (by rw [HLO.out]; rfl)]; rfl, HXA.out _⟩
        · have t3 : decide ((65536 : Int) < (vn : Int)) = false := by simp; omega
          have t4 : decide (65536 < vn) = false := by simpa using h2
          rw [t2, t4] at HLO
          have HIF : Hid (∀ o, Calls Tryz.prog 103 #[.agg #[.slice K kn kc, .int .u64 (x.seq : Int), .int .u8 (x.kind : Int), .slice V vn vc]] (wr.alloc o) (RetT (wr.alloc o) (formE x))) := Lib.hid (fun o => inForm_any (HEV.out.below ((Below.refl _ _).alloc (Nat.le_refl _) o)))
          have sw := HX.out.size
          obtain ⟨F, hF⟩ : ∃ F, F = formE x := ⟨_, rfl⟩
          rw [← hF] at HIF
          have HFF := Lib.hid hF
          clear hF
          cases F with
          | true =>
            go_wp2_with fail
            refine (HIF.out _).mono ?_
            rintro e w2 ⟨rfl, hb2⟩
            have HB2 := Lib.hid ((HXA.out _).trans (hb2.mono (by simp; omega)))
            clear hb2
            go_wp2
            go_roundw
            case rel => exact ⟨k + 1, by omega, by go_num, by rw [all_snoc HXK.out, ← HFF.out, Bool.and_true, ← HF.out], by rw [any_snoc HXK.out, HT.out, HLO.out]; rfl, HB2.out⟩
            case measure => simp [intOf]; omega
          | false =>
            go_wp2_with fail
            refine (HIF.out _).mono ?_
            rintro e w2 ⟨rfl, hb2⟩
            have HB2 := Lib.hid ((HXA.out _).trans (hb2.mono (by simp; omega)))
            clear hb2
            go_wp2
            go_roundw
            case rel => exact ⟨k + 1, by omega, by go_num, by rw [all_snoc HXK.out, ← HFF.out, Bool.and_false]; rfl, by rw [any_snoc HXK.out, HT.out, HLO.out]; rfl, HB2.out⟩
            case measure => simp [intOf]; omega
    · have htk := take_all HL.out hlt
      rw [htk] at HT HF
      clear htk
      go_wp2
      go_ret
      exact ⟨by rw [checkE, HT.out, HF.out]; rfl, HX.out⟩
end
end Go.Proofs.YtlnpicfkcahdbaaGreat
