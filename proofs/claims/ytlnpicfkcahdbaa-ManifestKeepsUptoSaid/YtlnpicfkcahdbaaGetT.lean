/- codec.GetOrdText and the reference's return the list at a place, in new memory, and the place behind its end, or the error. -/
import Derived.Test.YtlnpicfkcahdbaaGetU
import Derived.Test.YtlnpicfkcahdbaaOrdT
import Derived.Test.YtlnpicfkcahdbaaMathT
namespace Go.Proofs.Ytlnpicfkcahdbaa
open Go Go.RowKit

/-- 'It hands back these bytes in a slice of its own, and two numbers; what lay below base stands.' -/
def RetT3 (base : Nat) (w : World) (g : List UInt8 × Int × Int) (e : Ending) (w' : World) : Prop :=
  ∃ A n c, e = .returned (.tuple #[.slice A n c, .int .i64 g.2.1, .int .i64 g.2.2]) ∧ Own 5 w' base A n c g.1 ∧ Below base w w'

theorem retT3_none {w w' : World} {base : Nat} {g : List UInt8 × Int × Int} {e : Int} (hg : g = ([], 0, e)) (hb : Below base w w') :
    RetT3 base w g (.returned (.tuple #[.slice none 0 0, .int .i64 0, .int .i64 e])) w' := by
  subst hg
  exact ⟨none, 0, 0, rfl, Own.nil _ _ _, hb⟩
theorem retT3_some {w w' : World} {base n c : Nat} {A : Option Addr} {g : List UInt8 × Int × Int} {v : List UInt8} {a j : Int} (hg : g = (v, j, 0)) (ha : a = j) (ho : Own 5 w' base A n c v) (hb : Below base w w') :
    RetT3 base w g (.returned (.tuple #[.slice A n c, .int .i64 a, .int .i64 0])) w' := by
  subst hg ha
  exact ⟨A, n, c, rfl, ho, hb⟩

set_option maxRecDepth 100000 in
set_option maxHeartbeats 1000000 in
theorem GetOrdText_any (A : Option Addr) (n c : Nat) (xs : List UInt8) (t : Int) (w : World) (hx : Rd w A n xs) (hn : n ≤ 140737488355328) :
    Calls Try.prog 207 #[.slice A n c, .int .i64 t] w (RetT3 w.heap.size w (getT xs t)) := by
  obtain ⟨base, hbase⟩ : ∃ b, b = w.heap.size := ⟨_, rfl⟩
  rw [← hbase]
  have Hw : Hid (base = w.heap.size) := Lib.hid hbase
  clear hbase
  by_cases hout : t < 0 ∨ (n : Int) < t
  · have F := Lib.hid (getT_out (xs := xs) (t := t) (by rw [hx.len]; exact hout))
    go_enter Try.func207, Try.ntmps207
    go_wp2_with (go_at_call 192; refine (outside_yes _ _ _ _ _ hout).mono ?_; rintro e w' ⟨rfl, rfl⟩)
    go_ret3
    exact retT3_none F.out (Below.refl _ _)
  · obtain ⟨k, rfl⟩ : ∃ k : Nat, t = (k : Int) := ⟨t.toNat, by omega⟩
    have hkn : k ≤ n := by omega
    have hkl : k ≤ xs.length := by rw [hx.len]; exact hkn
    clear hout
    go_enter Try.func207, Try.ntmps207
    go_wp2_with (go_at_call 192; refine (outside_no _ _ _ _ _ (by omega) (by omega)).mono ?_; rintro e w' ⟨rfl, rfl⟩)
    go_loopw [7, 8] (fun v j wr => ∃ (A' : Option Addr) (m d p : Nat) (acc : List UInt8), v = .slice A' m d ∧ j = .int .i64 p ∧ p ≤ n ∧ m ≤ p ∧ getTL (xs.drop k) k [] = getTL (xs.drop p) p acc ∧ Own 5 wr base A' m d acc ∧ Below base w wr) (fun _ j _ => n - (intOf j).toNat)
    case atStart => exact ⟨none, 0, 0, k, [], rfl, rfl, hkn, Nat.zero_le _, rfl, Own.nil _ _ _, Below.refl _ _⟩
    case round =>
      obtain ⟨A', m, d, p, acc, rfl, rfl, hp, hmp, hg, ho, hb⟩ := hrel
      have Hg := Lib.hid hg
      clear hg
      have hbs := hb.size
      have hbase : base ≤ wr.heap.size := by have := Hw.out; omega
      have hxr : Rd wr A n xs := hx.below (by rw [← Hw.out]; exact hb)
      by_cases hlt : p < n
      · obtain ⟨b, off, rfl, _⟩ := hxr.pos (by omega)
        obtain ⟨x, hx1, hx2, hx3⟩ := hxr.at_ p hlt
        by_cases h0 : x = 0
        · subst h0
          by_cases hp1 : p + 1 < n
          · obtain ⟨y, hy1, hy2, hy3⟩ := hxr.at_ (p + 1) hp1
            have e := (drop_cons hx1).trans (by rw [drop_cons hy1])
            rw [e] at Hg
            clear hx1 hy1 e
            have e1 : ((p : Int) + 1 == (n : Int)) = false := by rw [beq_eq_false_iff_ne]; omega
            by_cases h1 : y = 1
            · subst h1
              have F := Lib.hid (getT_in hkl (Hg.out.trans (getTL_end _ _ _)))
              clear Hg
              go_wp2
              go_ret3
              exact retT3_some F.out (by omega) ho hb
            · have b1 : ((y.toNat : Int) == 1) = false := by
                rw [beq_eq_false_iff_ne]
                intro h
                exact h1 (UInt8.toNat_inj.1 (by simp; omega))
              by_cases h255 : y = 255
              · subst h255
                have F := Lib.hid (Hg.out.trans (getTL_zero _ _ _))
                clear Hg
                go_wp2_with (at_builtin; refine wpList_app _ rfl _ _ 22 rfl base 5 Try.underlying22 info_u8 A' m d acc rfl (ho.alloc _) _ 1 1 [0] rfl (Rd.one _ _ _ _ rfl) ?_ ?_ ?_)
                · omega
                · simp; omega
                · intro A2 c2 w2 ho2 hb2
                  go_wp2
                  go_roundw
                  case rel => exact ⟨A2, m + 1, c2, p + 2, acc ++ [0], rfl, by go_num, by omega, by omega, F.out, ho2, (hb.alloc (by omega) _).trans hb2⟩
                  case measure => simp [intOf]; omega
              · have b2 : ((y.toNat : Int) == 255) = false := by
                  rw [beq_eq_false_iff_ne]
                  intro h
                  exact h255 (UInt8.toNat_inj.1 (by simp; omega))
                have F := Lib.hid (getT_in hkl (Hg.out.trans (getTL_form h1 h255 _ _ _)))
                clear Hg
                go_wp2
                go_ret3
                exact retT3_none F.out hb
          · have e1 : ((p : Int) + 1 == (n : Int)) = true := by rw [beq_iff_eq]; omega
            have e : xs.drop p = [0] := by rw [drop_cons hx1, List.drop_of_length_le (by rw [hxr.len]; omega)]
            rw [e] at Hg
            have F := Lib.hid (getT_in hkl (Hg.out.trans (getTL_cut _ _)))
            clear Hg hx1 e
            go_wp2
            go_ret3
            exact retT3_none F.out hb
        · have b0 : ((x.toNat : Int) != 0) = true := by
            rw [bne_iff_ne]
            intro h
            exact h0 (UInt8.toNat_inj.1 (by simp; omega))
          rw [drop_cons hx1] at Hg
          have F := Lib.hid (Hg.out.trans (getTL_byte h0 _ _ _))
          clear Hg hx1
          go_wp2_with (at_builtin; refine wpList_app _ rfl _ _ 22 rfl base 5 Try.underlying22 info_u8 A' m d acc rfl (ho.alloc _) _ 1 1 [x] rfl (Rd.one _ _ _ _ rfl) ?_ ?_ ?_)
          · omega
          · simp; omega
          · intro A2 c2 w2 ho2 hb2
            go_wp2
            go_roundw
            case rel => exact ⟨A2, m + 1, c2, p + 1, acc ++ [x], rfl, by go_num, by omega, by omega, F.out, ho2, (hb.alloc (by omega) _).trans hb2⟩
            case measure => simp [intOf]; omega
      · have e : xs.drop p = [] := List.drop_of_length_le (by rw [hxr.len]; omega)
        rw [e] at Hg
        have F := Lib.hid (getT_in hkl (Hg.out.trans (getTL_nil _ _)))
        clear Hg e
        go_wp2
        go_ret3
        exact retT3_none F.out hb

end Go.Proofs.Ytlnpicfkcahdbaa
